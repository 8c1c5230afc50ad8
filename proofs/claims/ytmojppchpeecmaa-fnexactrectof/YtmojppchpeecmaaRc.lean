/-
  RectOf of the program; each theorem names its conditions.
-/
import Derived.Test.YtmojppchpeecmaaEl
namespace Go.Proofs.Ytmojppchpeecmaa
open Go.ChangeShapes Go.WideShapes Go.ChangeAt Go.RowKit
set_option linter.unusedVariables false

def okR (x y wide high r : Int) : Bool := [x, y, wide, high, r].all fixB && (decide (0 ≤ wide) && decide (0 ≤ high) && decide (0 ≤ r))
def cutR (wide high r : Int) : Int := min (min r (wide / 2)) (high / 2)
/-- The middle of the corner q. -/
def midP (x y wide high r : Int) : Nat → Pnt
  | 0 => (x + wide - r, y + high - r)
  | 1 => (x + r, y + high - r)
  | 2 => (x + r, y + r)
  | _ => (x + wide - r, y + r)
/-- The first q corners. -/
def qsP (x y wide high r : Int) : Nat → List Pnt
  | 0 => []
  | q + 1 => qsP x y wide high r q ++ roundsP (midP x y wide high r q).1 (midP x y wide high r q).2 r r (q * 8) 9
def sqP (x y wide high : Int) : List Pnt := [(x, y), (x + wide, y), (x + wide, y + high), (x, y + high)]
def rectP (x y wide high r : Int) : List Pnt := if cutR wide high r = 0 then sqP x y wide high else qsP x y wide high (cutR wide high r) 4
def rectV (x y wide high r : Int) : List Pnt × Bool := if okR x y wide high r = true ∧ ptsB (rectP x y wide high r) = true then (rectP x y wide high r, true) else ([], false)
theorem qsP_len (x y wide high r : Int) (q : Nat) : (qsP x y wide high r q).length = 9 * q := by
  induction q with
  | zero => rfl
  | succ q ih => simp only [qsP, List.length_append, ih, roundsP_len]; omega
theorem rectP_len (x y wide high r : Int) : (rectP x y wide high r).length ≤ 36 := by
  unfold rectP
  split
  · simp [sqP]
  · rw [qsP_len]; omega
theorem rectV_len (x y wide high r : Int) : (rectV x y wide high r).1.length ≤ 1048576 := by
  unfold rectV
  split
  · have := rectP_len x y wide high r; simp only; omega
  · simp
abbrev rcA (x y wide high r : Int) : Array Value := #[.int .i64 x, .int .i64 y, .int .i64 wide, .int .i64 high, .int .i64 r]
theorem iall5 (x y wide high r : Int) (w : World) (b : Nat) (h0 : w.cell? ⟨b, 0, none⟩ = some (.int .i64 x)) (h1 : w.cell? ⟨b, 1, none⟩ = some (.int .i64 y)) (h2 : w.cell? ⟨b, 2, none⟩ = some (.int .i64 wide)) (h3 : w.cell? ⟨b, 3, none⟩ = some (.int .i64 high)) (h4 : w.cell? ⟨b, 4, none⟩ = some (.int .i64 r)) :
    Calls Try.prog 71 #[.slice (some ⟨b, 0, none⟩) 5 5] w fun e w' => e = .returned (.bool ([x, y, wide, high, r].all fixB)) ∧ w' = w :=
  iall_any w b 0 5 [x, y, wide, high, r] (by simp) (fun i hi => by
    have : i = 0 ∨ i = 1 ∨ i = 2 ∨ i = 3 ∨ i = 4 := by simp at hi; omega
    rcases this with rfl | rfl | rfl | rfl | rfl
    · exact h0
    · exact h1
    · exact h2
    · exact h3
    · exact h4)
theorem cutR_bd (wide high r : Int) (h2 : 0 ≤ wide) (h3 : 0 ≤ high) (h4 : 0 ≤ r) (h5 : r ≤ 1099511627776) : 0 ≤ cutR wide high r ∧ cutR wide high r ≤ 1099511627776 := by unfold cutR; omega
/-- The numbers on the way, as letters. -/
theorem min_facts (wide high r : Int) (h2 : 0 ≤ wide) (h3 : 0 ≤ high) (h4 : 0 ≤ r) : ∃ M, (if r < if high < wide then high else wide then r else if high < wide then high else wide) = M ∧ decide (M < 0) = false ∧
    (if high / 2 < if wide / 2 < r then wide / 2 else r then high / 2 else if wide / 2 < r then wide / 2 else r) = cutR wide high r := by
  refine ⟨_, rfl, decide_eq_false ?_, ?_⟩
  · split <;> split <;> omega
  · unfold cutR
    omega
set_option maxHeartbeats 4000000 in
theorem irect_sq (x y wide high r : Int) (w : World) (hf : [x, y, wide, high, r].all fixB = true) (h2 : 0 ≤ wide) (h3 : 0 ≤ high) (h4 : 0 ≤ r) (hz : cutR wide high r = 0) : Calls Try.prog 35 (rcA x y wide high r) w fun e w' => ∃ v, e = .returned (.tuple #[.agg #[v, .bool (ptsB (sqP x y wide high))], .bool (ptsB (sqP x y wide high))]) ∧ OwnP w' w.heap.size v (if ptsB (sqP x y wide high) = true then sqP x y wide high else []) ∧ Nw w w' := by
  have HA : Hid _ := fun w b h0 h1 h2 h3 h4 => iall5 x y wide high r w b h0 h1 h2 h3 h4
  rw [hf] at HA
  have hfx : fixB x = true ∧ fixB y = true ∧ fixB wide = true ∧ fixB high = true ∧ fixB r = true := by simpa using hf
  have bx := fixB_iff.1 hfx.1
  have by' := fixB_iff.1 hfx.2.1
  have bw := fixB_iff.1 hfx.2.2.1
  have bh := fixB_iff.1 hfx.2.2.2.1
  obtain ⟨M, hM, hM0, hR⟩ := min_facts wide high r h2 h3 h4
  rw [hz] at hR
  have HC : Hid _ := fun (w : World) (B : Nat) (v : Value) (h : OwnP w B v (sqP x y wide high)) => iclosed w B v (sqP x y wide high) (by simp [sqP]) h
  obtain ⟨rl, hrl⟩ : ∃ rl, (if ptsB (sqP x y wide high) = true then sqP x y wide high else []) = rl := ⟨_, rfl⟩
  rw [hrl] at HC ⊢
  generalize ptsB (sqP x y wide high) = ok at *
  have HO : Hid (∀ (w : World) (B : Nat), w.heap.size = B → OwnP (w.alloc (.cells #[.int .i64 x, .int .i64 y, .int .i64 (x + wide), .int .i64 y, .int .i64 (x + wide), .int .i64 (y + high), .int .i64 x, .int .i64 (y + high)] 27)) B (.slice (some ⟨B, 0, none⟩) 4 4) (sqP x y wide high)) := fun w B hB => by
    subst hB
    exact World.ownsRow_lit w #[.int .i64 x, .int .i64 y, .int .i64 (x + wide), .int .i64 y, .int .i64 (x + wide), .int .i64 (y + high), .int .i64 x, .int .i64 (y + high)] 4 (Nat.le_refl _) (by unfold maxLen; omega) rfl
  unfold rcA
  clear hf hfx hz hrl
  go_enter Try.func35, Try.ntmps35
  go_wp2_with fail
  refine Calls.mono (HA.out _ _ (by simp) (by simp) (by simp) (by simp) (by simp)) ?_
  rintro e w1 ⟨rfl, rfl⟩
  go_wp2_with fail
  refine Calls.mono (HC.out _ _ _ (HO.out _ (w.heap.size + 1 + 1) (by simp))) ?_
  rintro e w3 ⟨v', rfl, o3, k3⟩
  have N3 : Hid (Nw (w.alloc (.cells #[.slice none 0 0, .bool false] 55)) w3) := Nw.trans (((Kp.refl _).alloc _ _ |>.alloc _ _).nw) k3.nw
  have O3 : Hid (OwnP w3 (w.heap.size + 1) v' rl) := OwnQ.base o3 (by omega)
  obtain ⟨va, vc, hv, _⟩ := o3.pts
  generalize rl.length = vn at hv
  subst hv
  clear o3 k3
  obtain ⟨z0, z1, zf, hz⟩ := nbox2 w w3 N3.out
  go_wp2
  obtain ⟨y0, y1⟩ := set2 w3 w.heap.size (.slice va vn vc) (.bool ok) z0 z1
  have hne : (Value.slice va vn vc).ownBlock ≠ some w.heap.size := fun e => by have := (OwnQ.lt O3.out _ e).1; omega
  refine bodyPost_ret (v := .tuple #[.agg #[.slice va vn vc, .bool ok], .bool ok]) (by simp [results, Try.results35, go_sem, y0, y1]) rfl ⟨_, rfl, ?_, ?_⟩
  · exact OwnQ.base (OwnQ.far (OwnQ.far O3.out _ _ _ hne) _ _ _ hne) (by omega)
  · exact (Below.setCell (nw_box N3.out) (Nat.le_refl _) _).setCell (Nat.le_refl _) _
/-- A corner of the four, by its place. -/
theorem ixP4 (p0 p1 p2 p3 : Pnt) (k : Nat) (p : Pnt) (h : k < 4) (hp : [p0, p1, p2, p3].getD k (0, 0) = p) (W : World) :
    (Instr.index 114 (.agg #[.int .i64 p0.1, .int .i64 p0.2, .int .i64 p1.1, .int .i64 p1.2, .int .i64 p2.1, .int .i64 p2.2, .int .i64 p3.1, .int .i64 p3.2]) (.int .i64 (k : Int))).run Try.prog W = .ok (.agg #[.int .i64 p.1, .int .i64 p.2]) W := by
  subst hp
  have hc : k = 0 ∨ k = 1 ∨ k = 2 ∨ k = 3 := by omega
  have hu : Try.prog.underlying 114 = some (.array 4 27) := by kernel_rfl
  rcases hc with rfl | rfl | rfl | rfl <;> simp [Instr.index, run_underlying hu, asIntOf, go_sem]
set_option maxHeartbeats 8000000 in
theorem irect_rd (x y wide high r : Int) (w : World) (hf : [x, y, wide, high, r].all fixB = true) (h2 : 0 ≤ wide) (h3 : 0 ≤ high) (h4 : 0 ≤ r) (R : Int) (hz : cutR wide high r = R) (hz0 : R ≠ 0) : Calls Try.prog 35 (rcA x y wide high r) w fun e w' => ∃ v, e = .returned (.tuple #[.agg #[v, .bool (ptsB (qsP x y wide high R 4))], .bool (ptsB (qsP x y wide high R 4))]) ∧ OwnP w' w.heap.size v (if ptsB (qsP x y wide high R 4) = true then qsP x y wide high R 4 else []) ∧ Nw w w' := by
  have HA : Hid _ := fun w b h0 h1 h2 h3 h4 => iall5 x y wide high r w b h0 h1 h2 h3 h4
  rw [hf] at HA
  have hfx : fixB x = true ∧ fixB y = true ∧ fixB wide = true ∧ fixB high = true ∧ fixB r = true := by simpa using hf
  have bx := fixB_iff.1 hfx.1
  have by' := fixB_iff.1 hfx.2.1
  have bw := fixB_iff.1 hfx.2.2.1
  have bh := fixB_iff.1 hfx.2.2.2.1
  have br := fixB_iff.1 hfx.2.2.2.2
  have bR := cutR_bd wide high r h2 h3 h4 br.2
  obtain ⟨M, hM, hM0, hR⟩ := min_facts wide high r h2 h3 h4
  rw [hz] at hR bR
  have hR0 : (R == 0) = false := by rw [beq_eq_false_iff_ne]; exact hz0
  have HC : Hid _ := fun (w : World) (B : Nat) (v : Value) (h : OwnP w B v (qsP x y wide high R 4)) => iclosed w B v (qsP x y wide high R 4) (by rw [qsP_len]; omega) h
  obtain ⟨rl, hrl⟩ : ∃ rl, (if ptsB (qsP x y wide high R 4) = true then qsP x y wide high R 4 else []) = rl := ⟨_, rfl⟩
  rw [hrl] at HC ⊢
  generalize ptsB (qsP x y wide high R 4) = ok at *
  obtain ⟨Q, hQ⟩ : ∃ Q : Nat → List Pnt, qsP x y wide high R = Q := ⟨_, rfl⟩
  have HQ : Hid (qsP x y wide high R = Q) := hQ
  rw [hQ] at HC
  unfold rcA
  clear hf hfx hz hrl hz0 hQ
  go_enter Try.func35, Try.ntmps35
  go_wp2_with fail
  refine Calls.mono (HA.out _ _ (by simp) (by simp) (by simp) (by simp) (by simp)) ?_
  rintro e w1 ⟨rfl, rfl⟩
  go_wp2
  go_loopw [97] (fun i wr => ∃ q : Nat, q ≤ 4 ∧ i = .int .i64 (q : Int) ∧ LV (w.heap.size + 1 + 1) wr (Q q) ∧ Below (w.heap.size + 1) (w.alloc (.cells #[.slice none 0 0, .bool false] 55)) wr) (fun i _ => 4 - (intOf i).toNat)
  case atStart =>
    have e0 : Q 0 = [] := by rw [← HQ.out]; rfl
    have hl := LV.new ((w.alloc (.cells #[.slice none 0 0, .bool false] 55)).alloc (.cells #[.int .i64 x, .int .i64 y, .int .i64 wide, .int .i64 high, .int .i64 r] 3)) 100
    rw [World.size_alloc, World.size_alloc] at hl
    exact ⟨0, by omega, rfl, by rw [e0]; exact hl, ((Below.refl _ _).alloc (by simp) _).alloc (by simp) _⟩
  case round =>
    obtain ⟨q, hq, rfl, hl, hw⟩ := hrel
    by_cases hlt : q < 4
    · obtain ⟨P, hP⟩ : ∃ P, midP x y wide high R q = P := ⟨_, rfl⟩
      have hPb : -4398046511104 ≤ P.1 ∧ P.1 ≤ 4398046511104 ∧ -4398046511104 ≤ P.2 ∧ P.2 ≤ 4398046511104 := by
        rw [← hP]
        rcases (show q = 0 ∨ q = 1 ∨ q = 2 ∨ q = 3 by omega) with rfl | rfl | rfl | rfl <;> (simp only [midP]; omega)
      have hix := fun W => ixP4 (x + wide - R, y + high - R) (x + R, y + high - R) (x + R, y + R) (x + wide - R, y + R) q P hlt (by
        rw [← hP]
        rcases (show q = 0 ∨ q = 1 ∨ q = 2 ∨ q = 3 by omega) with rfl | rfl | rfl | rfl <;> rfl) W
      have HE : Hid (Q (q + 1) = Q q ++ roundsP P.1 P.2 R R (q * 8) 9) := by show _ = _; rw [← HQ.out, ← hP]; rfl
      have HLn : Hid ((Q q).length + 9 ≤ 1000000) := by show _ ≤ _; rw [← HQ.out, qsP_len]; omega
      obtain ⟨px, py⟩ := P
      simp only at hix HE hPb
      have HS : Hid _ := fun w => istretch w px py R R (q * 8) ((q + 1) * 8) (by omega) (by omega) hPb.1 hPb.2.1 hPb.2.2.1 hPb.2.2.2
      rw [show (q + 1) * 8 + 1 - q * 8 = 9 by omega, show ((q * 8 : Nat) : Int) = (q : Int) * 8 by omega, show (((q + 1) * 8 : Nat) : Int) = ((q : Int) + 1) * 8 by omega] at HS
      have hrl9 := roundsP_len px py R R (q * 8) 9
      generalize roundsP px py R R (q * 8) 9 = rs at *
      have HL : Hid (LV (w.heap.size + 1 + 1) wr (Q q)) := hl
      have HW : Hid _ := hw
      clear hl hw hP
      go_wp2_with fail
      refine Calls.mono (HS.out _) ?_
      rintro e w2 ⟨v, rfl, o2, n2⟩
      rcases o2.lay with ⟨_, h0⟩ | ⟨g, c, rfl, _, hlay⟩
      · rw [h0] at hrl9; simp at hrl9
      have HLie : Hid (LieP w2 g 0 rs) := ⟨hlay.1, fun i hi => by simpa using hlay.2.1 i hi⟩
      have HN2 : Hid (Nw wr w2) := Nw.trans (((Kp.refl wr).alloc _ _ |>.alloc _ _).nw) n2
      rw [hrl9]
      clear o2 n2 hlay
      go_wp2_with fail
      refine Calls.mono (iadd_lv _ _ (Q q) rs g 0 9 c hrl9.symm (LV.nw HL.out HN2.out) HLie.out (by omega) (by have := HLn.out; omega)) ?_
      rintro e w3 ⟨rfl, l3, b3⟩
      have L3 : Hid _ := l3
      have B3 : Hid (Below (w.heap.size + 1) (w.alloc (.cells #[.slice none 0 0, .bool false] 55)) w3) := Below.trans HW.out (Below.mono (Below.trans (HN2.out.below (Nat.le_of_lt HL.out.lt)) b3) (Nat.le_succ _))
      clear l3 b3
      go_wp2
      go_roundw
      case rel => exact ⟨q + 1, by omega, by go_num, by rw [HE.out]; exact L3.out, B3.out⟩
      case measure => simp [intOf]; omega
    · obtain rfl : q = 4 := by omega
      have HW : Hid (Nw (w.alloc (.cells #[.slice none 0 0, .bool false] 55)) wr) := Below.mono hw (by simp)
      obtain ⟨va0, vc0, hv0, hown⟩ := LV.val hl
      have HO : Hid _ := hown
      clear hl hw hown
      go_wp2_with fail
      refine Calls.mono (HC.out _ _ _ HO.out) ?_
      rintro e w3 ⟨v', rfl, o3, k3⟩
      have N3 : Hid (Nw (w.alloc (.cells #[.slice none 0 0, .bool false] 55)) w3) := Nw.trans HW.out k3.nw
      have O3 : Hid (OwnP w3 (w.heap.size + 1) v' rl) := OwnQ.base o3 (by omega)
      obtain ⟨va, vc, hv, _⟩ := o3.pts
      generalize rl.length = vn at hv
      subst hv
      clear o3 k3 HO HW hv0
      obtain ⟨z0, z1, zf, hz⟩ := nbox2 w w3 N3.out
      go_wp2
      obtain ⟨y0, y1⟩ := set2 w3 w.heap.size (.slice va vn vc) (.bool ok) z0 z1
      have hne : (Value.slice va vn vc).ownBlock ≠ some w.heap.size := fun e => by have := (OwnQ.lt O3.out _ e).1; omega
      refine bodyPost_ret (v := .tuple #[.agg #[.slice va vn vc, .bool ok], .bool ok]) (by simp [results, Try.results35, go_sem, y0, y1]) rfl ⟨_, rfl, ?_, ?_⟩
      · exact OwnQ.base (OwnQ.far (OwnQ.far O3.out _ _ _ hne) _ _ _ hne) (by omega)
      · exact (Below.setCell (nw_box N3.out) (Nat.le_refl _) _).setCell (Nat.le_refl _) _
set_option maxHeartbeats 2000000 in
theorem irect_no (x y wide high r : Int) (w : World) (hok : okR x y wide high r = false) : Calls Try.prog 35 (rcA x y wide high r) w fun e w' => e = .returned (.tuple #[.agg #[.slice none 0 0, .bool false], .bool false]) ∧ Nw w w' := by
  have HA : Hid _ := fun w b h0 h1 h2 h3 h4 => iall5 x y wide high r w b h0 h1 h2 h3 h4
  unfold rcA
  cases hf : [x, y, wide, high, r].all fixB with
  | false =>
    rw [hf] at HA
    clear hf hok
    go_enter Try.func35, Try.ntmps35
    go_wp2_with fail
    refine Calls.mono (HA.out _ _ (by simp) (by simp) (by simp) (by simp) (by simp)) ?_
    rintro e w1 ⟨rfl, rfl⟩
    go_wp2
    exact bodyPost_ret (v := .tuple #[.agg #[.slice none 0 0, .bool false], .bool false]) (by simp [results, Try.results35, go_sem]) rfl ⟨rfl, ((Kp.refl w).alloc _ _ |>.alloc _ _).nw⟩
  | true =>
    rw [hf] at HA
    obtain ⟨M, hM⟩ : ∃ M, (if r < if high < wide then high else wide then r else if high < wide then high else wide) = M := ⟨_, rfl⟩
    have hM0 : decide (M < 0) = true := by
      refine decide_eq_true ?_
      rw [← hM]
      unfold okR at hok
      rw [hf] at hok
      simp at hok
      split <;> split <;> omega
    clear hf hok
    go_enter Try.func35, Try.ntmps35
    go_wp2_with fail
    refine Calls.mono (HA.out _ _ (by simp) (by simp) (by simp) (by simp) (by simp)) ?_
    rintro e w1 ⟨rfl, rfl⟩
    go_wp2
    exact bodyPost_ret (v := .tuple #[.agg #[.slice none 0 0, .bool false], .bool false]) (by simp [results, Try.results35, go_sem]) rfl ⟨rfl, ((Kp.refl w).alloc _ _ |>.alloc _ _).nw⟩
theorem rectV_yes {x y wide high r : Int} (hok : okR x y wide high r = true) : rectV x y wide high r = (if ptsB (rectP x y wide high r) = true then rectP x y wide high r else [], ptsB (rectP x y wide high r)) := by
  unfold rectV
  rw [hok]
  cases ptsB (rectP x y wide high r) <;> rfl
theorem okR_all {x y wide high r : Int} (hok : okR x y wide high r = true) : [x, y, wide, high, r].all fixB = true ∧ 0 ≤ wide ∧ 0 ≤ high ∧ 0 ≤ r := by
  unfold okR at hok
  rw [Bool.and_eq_true, Bool.and_eq_true, Bool.and_eq_true] at hok
  exact ⟨hok.1, of_decide_eq_true hok.2.1.1, of_decide_eq_true hok.2.1.2, of_decide_eq_true hok.2.2⟩
theorem irect (x y wide high r : Int) : LnSays 35 (rcA x y wide high r) (rectV x y wide high r) := by
  intro w
  cases hok : okR x y wide high r with
  | true =>
    obtain ⟨hf, h2, h3, h4⟩ := okR_all hok
    rw [rectV_yes hok]
    by_cases hz : cutR wide high r = 0
    · have e : rectP x y wide high r = sqP x y wide high := by unfold rectP; rw [if_pos hz]
      rw [e]
      exact irect_sq x y wide high r w hf h2 h3 h4 hz
    · have e : rectP x y wide high r = qsP x y wide high (cutR wide high r) 4 := by unfold rectP; rw [if_neg hz]
      rw [e]
      exact irect_rd x y wide high r w hf h2 h3 h4 _ rfl hz
  | false =>
    have e : rectV x y wide high r = ([], false) := by unfold rectV; rw [if_neg (fun h => by rw [hok] at h; cases h.1)]
    rw [e]
    refine (irect_no x y wide high r w hok).mono ?_
    rintro e w' ⟨rfl, k⟩
    exact ⟨_, rfl, OwnP.nil _ _, k⟩
end Go.Proofs.Ytmojppchpeecmaa
