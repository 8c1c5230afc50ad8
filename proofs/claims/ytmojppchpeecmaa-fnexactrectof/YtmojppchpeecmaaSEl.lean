/-
  EllipseOf of the specification; each theorem names its conditions.
-/
import Derived.Test.YtmojppchpeecmaaEl
import Derived.Test.YtmojppchpeecmaaLnB
import Derived.Deep.RegionLaw
namespace Go.Proofs.Ytmojppchpeecmaa
open Go.ChangeShapes Go.WideShapes Go.ChangeAt Go.RowKit
set_option linter.unusedVariables false

theorem lines_one (w : World) (v : Value) (cl : Bool) (l : List Pnt) (B : Nat) (t : TypeId) (h : OwnP w B v l) : Lines (w.alloc (.cells #[v, .bool cl] t)) (some ⟨w.heap.size, 0, none⟩) [⟨l, cl⟩] := by
  have n1 : Nw w (w.alloc (.cells #[v, .bool cl] t)) := (Below.refl _ _).alloc (Nat.le_refl _) _
  refine Or.inr ⟨w.heap.size, 0, rfl, by simp, fun i hi => ?_⟩
  have : i = 0 := by simp at hi; omega
  subst this
  obtain ⟨a, c, rfl, hp⟩ := (h.nw n1).pts
  exact ⟨⟨a, c, by simp [lnAt], by simpa [lnAt] using hp⟩, by simp [lnAt]⟩
theorem lines_oneN (w : World) (v : Value) (cl : Bool) (l : List Pnt) (B : Nat) (t : TypeId) (N : Nat) (hN : w.heap.size = N) (h : OwnP w B v l) : Lines (w.alloc (.cells #[v, .bool cl] t)) (some ⟨N, 0, none⟩) [⟨l, cl⟩] := by
  subst hN
  exact lines_one w v cl l B t h
set_option maxRecDepth 100000 in
set_option maxHeartbeats 4000000 in
theorem sellipse_yes (cx cy rx ry : Int) (w : World) (hok : okEl cx cy rx ry = true) : Calls Try.prog 29 (elA cx cy rx ry) w fun e w' => ∃ v, e = .returned (.tuple #[.agg #[v, .bool (elV cx cy rx ry).2], .bool (elV cx cy rx ry).2]) ∧ OwnP w' w.heap.size v (elV cx cy rx ry).1 ∧ Nw w w' := by
  have hfx : fixB cx = true ∧ fixB cy = true ∧ fixB rx = true ∧ fixB ry = true ∧ 0 ≤ rx ∧ 0 ≤ ry := by
    have h := hok
    unfold okEl at h
    simp at h
    exact ⟨h.1.1, h.1.2.1, h.1.2.2.1, h.1.2.2.2, h.2.1, h.2.2⟩
  obtain ⟨f0, f1, f2, f3, g2, g3⟩ := hfx
  have bcx := fixB_iff.1 f0
  have bcy := fixB_iff.1 f1
  have brx := fixB_iff.1 f2
  have bry := fixB_iff.1 f3
  have HG0 : Hid _ := fun w => sgoodF cx w
  have HG1 : Hid _ := fun w => sgoodF cy w
  have HI2 : Hid _ := fun w => in_any w rx 0 1099511627776
  have HI3 : Hid _ := fun w => in_any w ry 0 1099511627776
  rw [f0] at HG0
  rw [f1] at HG1
  rw [decide_eq_true (⟨g2, brx.2⟩ : 0 ≤ rx ∧ rx ≤ 1099511627776)] at HI2
  rw [decide_eq_true (⟨g3, bry.2⟩ : 0 ≤ ry ∧ ry ≤ 1099511627776)] at HI3
  have e : elV cx cy rx ry = (if ptsB (roundsP cx cy rx ry 0 32) = true then roundsP cx cy rx ry 0 32 else [], ptsB (roundsP cx cy rx ry 0 32)) := by
    unfold elV
    rw [hok]
    cases ptsB (roundsP cx cy rx ry 0 32) <;> rfl
  rw [e]
  obtain ⟨R, hR⟩ : ∃ R : Nat → List Pnt, roundsP cx cy rx ry 0 = R := ⟨_, rfl⟩
  have HR : Hid (roundsP cx cy rx ry 0 = R) := hR
  rw [hR]
  obtain ⟨rl, hrl⟩ : ∃ rl, (if ptsB (R 32) = true then R 32 else []) = rl := ⟨_, rfl⟩
  have HRL : Hid _ := hrl
  rw [hrl]
  obtain ⟨ok, hokk⟩ : ∃ ok, ptsB (R 32) = ok := ⟨_, rfl⟩
  have HOK : Hid _ := hokk
  rw [hokk]
  clear hR hrl hokk e hok f0 f1 f2 f3
  unfold elA
  go_enter Try.func29, Try.ntmps29
  go_wp2_with fail
  refine (HG0.out _).mono ?_
  rintro e w1 ⟨rfl, rfl⟩
  go_wp2_with fail
  refine (HG1.out _).mono ?_
  rintro e w1 ⟨rfl, rfl⟩
  go_wp2_with fail
  refine (HI2.out _).mono ?_
  rintro e w1 ⟨rfl, rfl⟩
  go_wp2_with fail
  refine (HI3.out _).mono ?_
  rintro e w1 ⟨rfl, rfl⟩
  go_wp2
  go_loopw [11] (fun i wr => ∃ (k : Nat) (v : Value), k ≤ 32 ∧ i = .int .i64 (k : Int) ∧ LnB (w.heap.size + 1) wr v (R k) true ∧ Below (w.heap.size + 1) (w.alloc (.cells #[.slice none 0 0, .bool false] 55)) wr) (fun i _ => 32 - (intOf i).toNat)
  case atStart =>
    have e0 : R 0 = [] := by rw [← HR.out]; rfl
    have hl := LnB.new (w.alloc (.cells #[.slice none 0 0, .bool false] 55)) 55 true
    rw [World.size_alloc] at hl
    exact ⟨0, _, by omega, rfl, by rw [e0]; exact hl, (Below.refl _ _).alloc (by simp) _⟩
  case round =>
    obtain ⟨k, v, hk, rfl, hl, hw⟩ := hrel
    by_cases hlt : k < 32
    · have HRd : Hid _ := fun w => sround w cx cy rx ry k (by omega) (by omega) (by omega) (by omega) (by omega)
      unfold ptV at HRd
      have HE : Hid (R (k + 1) = R k ++ [roundP cx cy rx ry k]) := by show _ = _; rw [← HR.out, roundsP_succ, Nat.zero_add]
      have HLn : Hid ((R k).length + 1 ≤ 1000000) := by show _ ≤ _; rw [← HR.out, roundsP_len]; omega
      generalize roundP cx cy rx ry k = P at *
      obtain ⟨px, py⟩ := P
      obtain ⟨va, vc, hv, _⟩ := hl.own.pts
      generalize (R k).length = vn at hv
      subst hv
      have HL : Hid (LnB (w.heap.size + 1) wr.drew (.slice va vn vc) (R k) true) := LnB.nw hl ((Below.refl _ _).drew)
      have HW : Hid (Below (w.heap.size + 1) (w.alloc (.cells #[.slice none 0 0, .bool false] 55)) wr.drew) := hw.drew
      have q0 : wr.cell? ⟨w.heap.size + 1, 0, none⟩ = some (.slice va vn vc) := hl.c0
      have qb : w.heap.size + 1 < wr.heap.size := hl.lt
      clear hl hw
      go_wp2
      go_region_law
        (first
          | (refine st_call 70 #[.int .i64 cx, .int .i64 cy, .int .i64 rx, .int .i64 ry, .int .i64 (k : Int)] rfl (by simp [go_sem]) ?_; refine Calls.mono (HRd.out _) ?_; rintro e w' ⟨rfl, hk⟩; refine ⟨_, rfl, ?_⟩; replace HL := (show Hid (LnB (w.heap.size + 1) w' (.slice va vn vc) (R k) true) from LnB.nw HL.out hk.nw); replace HW := (show Hid (Below (w.heap.size + 1) (w.alloc (.cells #[.slice none 0 0, .bool false] 55)) w') from Below.trans HW.out (Below.mono hk.1 (Nat.le_of_lt qb))); replace q0 := HL.out.c0; replace qb := HL.out.lt; clear hk)
          | (refine st_one _ (.tmp 37) (.tmp 44) rfl (w.heap.size + 1) (.slice va vn vc) (R k) true px py _ rfl HL.out rfl HLn.out rfl ?_; intro g' c' w9 h2 h3; obtain ⟨t0, tf⟩ := LnB.there HL.out h3; have HP : Hid _ := LnB.put HL.out h3 h2; clear h2 h3))
      all_goals
        go_wp2
        go_roundw
        case rel => exact ⟨k + 1, _, by omega, by go_num, by rw [HE.out]; exact HP.out.1, Below.trans HW.out HP.out.2⟩
        case measure => simp [intOf]; omega
    · obtain rfl : k = 32 := by omega
      have hgl : goodL [⟨R 32, true⟩] = ok := by
        unfold goodL fixL manyL
        have h32 : (R 32).length = 32 := by rw [← HR.out, roundsP_len]
        simp [h32, HOK.out]
      have HG : Hid _ := fun (w : World) (g : Nat) (h : Lines w (some ⟨g, 0, none⟩) [⟨R 32, true⟩]) => sgoodL w (some ⟨g, 0, none⟩) 1 [⟨R 32, true⟩] (by simp) (by simp [manyL, ← HR.out, roundsP_len]) h
      rw [hgl] at HG
      have HLo : Hid _ := lines_one wr v true (R 32) _ 55 hl.own
      have HN : Hid (Nw (w.alloc (.cells #[.slice none 0 0, .bool false] 55)) wr) := Below.mono hw (by simp)
      obtain ⟨va, vc, hv, _⟩ := hl.own.pts
      have HL : Hid _ := hl
      have q0 := hl.c0
      have q1 := hl.c1
      generalize (R 32).length = vn at hv
      subst hv
      clear hl hw hgl
      go_wp2_with fail
      refine Calls.mono (HG.out _ _ HLo.out) ?_
      rintro e w1 ⟨rfl, k1⟩
      have N1 : Hid (Nw (w.alloc (.cells #[.slice none 0 0, .bool false] 55)) w1) := Nw.trans HN.out (Nw.trans ((Below.refl _ _).alloc (Nat.le_refl _) _) k1.nw)
      have L1 : Hid _ := LnB.nw HL.out (Nw.trans ((Below.refl _ _).alloc (Nat.le_refl _) _) k1.nw)
      have r0 := L1.out.c0
      have r1 := L1.out.c1
      clear k1 HN HL HLo q0 q1
      obtain ⟨z0, z1, zf, hz⟩ := nbox2 w w1 N1.out
      cases ok with
      | false =>
        have e : rl = [] := by rw [← HRL.out, HOK.out]; rfl
        go_wp2
        obtain ⟨y0, y1⟩ := set2 w1 w.heap.size (.slice none 0 0) (.bool false) z0 z1
        refine bodyPost_ret (v := .tuple #[.agg #[.slice none 0 0, .bool false], .bool false]) (by simp [results, Try.results29, go_sem, y0, y1]) rfl ⟨_, rfl, by rw [e]; exact OwnP.nil _ _, ?_⟩
        exact (Below.setCell (nw_box N1.out) (Nat.le_refl _) _).setCell (Nat.le_refl _) _
      | true =>
        have e : rl = R 32 := by rw [← HRL.out, HOK.out]; rfl
        go_wp2
        obtain ⟨y0, y1⟩ := set2 w1 w.heap.size (.slice va vn vc) (.bool true) z0 z1
        have hne : (Value.slice va vn vc).ownBlock ≠ some w.heap.size := fun e => by have := (OwnQ.lt L1.out.own _ e).1; omega
        refine bodyPost_ret (v := .tuple #[.agg #[.slice va vn vc, .bool true], .bool true]) (by simp [results, Try.results29, go_sem, y0, y1]) rfl ⟨_, rfl, ?_, ?_⟩
        · rw [e]; exact OwnQ.base (OwnQ.far (OwnQ.far L1.out.own _ _ _ hne) _ _ _ hne) (by omega)
        · exact (Below.setCell (nw_box N1.out) (Nat.le_refl _) _).setCell (Nat.le_refl _) _
set_option maxHeartbeats 2000000 in
theorem sellipse_no (cx cy rx ry : Int) (w : World) (hok : okEl cx cy rx ry = false) : Calls Try.prog 29 (elA cx cy rx ry) w fun e w' => e = .returned (.tuple #[.agg #[.slice none 0 0, .bool false], .bool false]) ∧ Nw w w' := by
  have HG0 : Hid _ := fun w => sgoodF cx w
  have HG1 : Hid _ := fun w => sgoodF cy w
  have HI2 : Hid _ := fun w => in_any w rx 0 1099511627776
  have HI3 : Hid _ := fun w => in_any w ry 0 1099511627776
  have HN : Hid (¬ (fixB cx = true ∧ fixB cy = true ∧ decide (0 ≤ rx ∧ rx ≤ 1099511627776) = true ∧ decide (0 ≤ ry ∧ ry ≤ 1099511627776) = true)) := by
    rintro ⟨h0, h1, h2, h3⟩
    have e2 := of_decide_eq_true h2
    have e3 := of_decide_eq_true h3
    have : okEl cx cy rx ry = true := by
      unfold okEl
      have f2 : fixB rx = true := fixB_iff.2 (by omega)
      have f3 : fixB ry = true := fixB_iff.2 (by omega)
      simp [h0, h1, f2, f3, e2.1, e3.1]
    rw [this] at hok; cases hok
  unfold elA
  clear hok
  generalize fixB cx = b0 at *
  generalize fixB cy = b1 at *
  generalize decide (0 ≤ rx ∧ rx ≤ 1099511627776) = b2 at *
  generalize decide (0 ≤ ry ∧ ry ≤ 1099511627776) = b3 at *
  cases b0 with
  | false =>
    go_enter Try.func29, Try.ntmps29
    go_wp2_with fail
    refine (HG0.out _).mono ?_
    rintro e w1 ⟨rfl, rfl⟩
    go_wp2
    exact bodyPost_ret (v := .tuple #[.agg #[.slice none 0 0, .bool false], .bool false]) (by simp [results, Try.results29, go_sem]) rfl ⟨rfl, ((Kp.refl w).alloc _ _).nw⟩
  | true =>
    cases b1 with
    | false =>
      go_enter Try.func29, Try.ntmps29
      go_wp2_with fail
      refine (HG0.out _).mono ?_
      rintro e w1 ⟨rfl, rfl⟩
      go_wp2_with fail
      refine (HG1.out _).mono ?_
      rintro e w1 ⟨rfl, rfl⟩
      go_wp2
      exact bodyPost_ret (v := .tuple #[.agg #[.slice none 0 0, .bool false], .bool false]) (by simp [results, Try.results29, go_sem]) rfl ⟨rfl, ((Kp.refl w).alloc _ _).nw⟩
    | true =>
      cases b2 with
      | false =>
        go_enter Try.func29, Try.ntmps29
        go_wp2_with fail
        refine (HG0.out _).mono ?_
        rintro e w1 ⟨rfl, rfl⟩
        go_wp2_with fail
        refine (HG1.out _).mono ?_
        rintro e w1 ⟨rfl, rfl⟩
        go_wp2_with fail
        refine (HI2.out _).mono ?_
        rintro e w1 ⟨rfl, rfl⟩
        go_wp2
        exact bodyPost_ret (v := .tuple #[.agg #[.slice none 0 0, .bool false], .bool false]) (by simp [results, Try.results29, go_sem]) rfl ⟨rfl, ((Kp.refl w).alloc _ _).nw⟩
      | true =>
        cases b3 with
        | false =>
          go_enter Try.func29, Try.ntmps29
          go_wp2_with fail
          refine (HG0.out _).mono ?_
          rintro e w1 ⟨rfl, rfl⟩
          go_wp2_with fail
          refine (HG1.out _).mono ?_
          rintro e w1 ⟨rfl, rfl⟩
          go_wp2_with fail
          refine (HI2.out _).mono ?_
          rintro e w1 ⟨rfl, rfl⟩
          go_wp2_with fail
          refine (HI3.out _).mono ?_
          rintro e w1 ⟨rfl, rfl⟩
          go_wp2
          exact bodyPost_ret (v := .tuple #[.agg #[.slice none 0 0, .bool false], .bool false]) (by simp [results, Try.results29, go_sem]) rfl ⟨rfl, ((Kp.refl w).alloc _ _).nw⟩
        | true => exact absurd ⟨rfl, rfl, rfl, rfl⟩ HN.out
theorem sellipse (cx cy rx ry : Int) : LnSays 29 (elA cx cy rx ry) (elV cx cy rx ry) := by
  intro w
  cases hok : okEl cx cy rx ry with
  | true => exact sellipse_yes cx cy rx ry w hok
  | false =>
    have e : elV cx cy rx ry = ([], false) := by unfold elV; rw [if_neg (fun h => by rw [hok] at h; cases h.1)]
    rw [e]
    refine (sellipse_no cx cy rx ry w hok).mono ?_
    rintro e w' ⟨rfl, k⟩
    exact ⟨_, rfl, OwnP.nil _ _, k⟩
end Go.Proofs.Ytmojppchpeecmaa
