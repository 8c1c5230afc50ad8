/-
  Points: whether they are fixed, by the program; each theorem
-/
import Derived.Test.YtdjemnbdaddegaaJAI
import Derived.Test.YtdjemnbdaddegaaJAK
import Derived.Test.YtdjemnbdaddegaaJAE
import Derived.Test.YtdjemnbdaddegaaJAJ
import Derived.Test.YtdjemnbdaddegaaJAG
import Derived.Deep.RegionLaw
import Derived.Test.YtdjemnbdaddegaaJAA
namespace Go.Proofs.Ytdjemnbdaddegaa
open Go.ChangeShapes Go.WideShapes Go.ChangeAt Go.RowKit
set_option linter.unusedVariables false
theorem igoodP (w : World) (x y : Int) : Calls Try.prog 79 #[.agg #[.int .i64 x, .int .i64 y]] w fun e w' => e = .returned (.bool (ptB (x, y))) ∧ Kp w w' := by
 have hv : [x, y].all fixB = ptB (x, y) := by simp [ptB]
 have HC : Hid (∀ (w : World) (b : Nat), w.cell? ⟨b, 0, none⟩ = some (.int .i64 x) → w.cell? ⟨b, 1, none⟩ = some (.int .i64 y) → Calls Try.prog 71 #[.slice (some ⟨b, 0, none⟩) 2 2] w fun e w' => e = .returned (.bool ([x, y].all fixB)) ∧ w' = w) := fun w b h0 h1 => iall_any w b 0 2 [x, y] (by simp) (fun i hi => by
  have : i = 0 ∨ i = 1 := by simp at hi; omega
  rcases this with rfl | rfl
  ·exact h0
  ·exact h1)
 rw [hv] at HC
 generalize ptB (x, y) = V at *
 clear hv
 go_enter Try.func79, Try.ntmps79
 go_wp2_with fail
 refine Calls.mono (HC.out _ _ (by simp) (by simp)) ?_
 rintro e w1 ⟨rfl, rfl⟩
 go_wp2
 go_ret
 exact ⟨rfl, ((Kp.refl w).alloc _ _).alloc _ _⟩
set_option maxHeartbeats 1000000 in
theorem igoodPs (w : World) (a : Option Addr) (c : Nat) (l : List Pnt) (hl : l.length ≤ 1048576) (hr : Pts w a l) :
  Calls Try.prog 43 #[.slice a l.length c] w fun e w' => e = .returned (.bool (ptsB l)) ∧ Kp w w' := by
 obtain ⟨V, hV⟩ : ∃ V, ptsB l = V := ⟨_, rfl⟩
 rw [hV]
 have HV : Hid _ := hV
 have HR : Hid (Pts w a l) := hr
 clear hr hV
 go_enter Try.func43, Try.ntmps43
 go_wp2
 go_loopw [7] (fun i wr => ∃ k : Nat, k ≤ l.length ∧ i = .int .i64 k ∧ (∀ j, j < k → ptB (ptAt l j) = true) ∧ Kp w wr) (fun i _ => l.length - (intOf i).toNat)
 case atStart => exact ⟨0, Nat.zero_le _, rfl, fun j hj => absurd hj (by omega), Kp.refl _⟩
 case round =>
  obtain ⟨k, hk, rfl, ha, hw⟩ := hrel
  have HA : Hid _ := ha
  have HW : Hid (Kp w wr) := hw
  clear ha hw
  by_cases hlt : k < l.length
  ·rcases (HR.out.nw HW.out.nw) with h | ⟨b, off, rfl, hb, hc⟩
   ·rw [h] at hlt; simp at hlt
   obtain ⟨q0, q1⟩ := hc k hlt
   clear hc
   obtain ⟨p, hp⟩ : ∃ p, ptAt l k = p := ⟨_, rfl⟩
   have HP : Hid (ptAt l k = p) := hp
   rw [hp] at q0 q1
   clear hp
   obtain ⟨x, y⟩ := p
   have hcall : Hid _ := fun w => igoodP w x y
   cases hf : ptB (x, y) with
   | true =>
    rw [hf] at hcall
    have HF : Hid (ptB (x, y) = true) := hf
    clear hf
    go_wp2_with fail
    refine (hcall.out _).mono ?_
    rintro e w1 ⟨rfl, k1⟩
    have K1 : Hid (Kp w w1) := Kp.trans (HW.out.alloc _ _) k1
    clear k1
    go_wp2
    go_roundw
    case rel =>
     refine ⟨k + 1, by omega, by go_num, fun j hj => ?_, K1.out⟩
     rcases Nat.lt_succ_iff_lt_or_eq.1 hj with h | h
     ·exact HA.out j h
     ·rw [h, HP.out]; exact HF.out
    case measure => simp [intOf]; omega
   | false =>
    rw [hf] at hcall
    have HF : Hid (V = false) := HV.out.symm.trans (all_false _ (0, 0) l k hlt (show ptB (ptAt l k) = false by rw [HP.out]; exact hf))
    clear hf
    go_wp2_with fail
    refine (hcall.out _).mono ?_
    rintro e w1 ⟨rfl, k1⟩
    have K1 : Hid (Kp w w1) := Kp.trans (HW.out.alloc _ _) k1
    clear k1
    go_wp2
    go_ret
    exact ⟨ret_bool HF.out.symm, K1.out⟩
  ·have HX : Hid (V = true) := HV.out.symm.trans (all_true _ (0, 0) _ (fun j hj => HA.out j (by omega)))
   clear HA
   go_wp2
   go_ret
   exact ⟨ret_bool HX.out.symm, HW.out⟩
def okEl (cx cy rx ry : Int) : Bool := [cx, cy, rx, ry].all fixB && (decide (0 ≤ rx) && decide (0 ≤ ry))
def elV (cx cy rx ry : Int) : List Pnt × Bool := if okEl cx cy rx ry = true ∧ ptsB (roundsP cx cy rx ry 0 32) = true then (roundsP cx cy rx ry 0 32, true) else ([], false)
def LnSays (f : FuncId) (args : Array Value) (r : List Pnt × Bool) : Prop := ∀ w, Calls Try.prog f args w fun e w' => ∃ v, e = .returned (.tuple #[.agg #[v, .bool r.2], .bool r.2]) ∧ OwnP w' w.heap.size v r.1 ∧ Nw w w'
abbrev elA (cx cy rx ry : Int) : Array Value := #[.int .i64 cx, .int .i64 cy, .int .i64 rx, .int .i64 ry]
def okR (x y wide high r : Int) : Bool := [x, y, wide, high, r].all fixB && (decide (0 ≤ wide) && decide (0 ≤ high) && decide (0 ≤ r))
def cutR (wide high r : Int) : Int := min (min r (wide / 2)) (high / 2)
def midP (x y wide high r : Int) : Nat → Pnt
 | 0 => (x + wide - r, y + high - r)
 | 1 => (x + r, y + high - r)
 | 2 => (x + r, y + r)
 | _ => (x + wide - r, y + r)
def qsP (x y wide high r : Int) : Nat → List Pnt
 | 0 => []
 | q + 1 => qsP x y wide high r q ++ roundsP (midP x y wide high r q).1 (midP x y wide high r q).2 r r (q * 8) 9
def sqP (x y wide high : Int) : List Pnt := [(x, y), (x + wide, y), (x + wide, y + high), (x, y + high)]
def rectP (x y wide high r : Int) : List Pnt := if cutR wide high r = 0 then sqP x y wide high else qsP x y wide high (cutR wide high r) 4
def rectV (x y wide high r : Int) : List Pnt × Bool := if okR x y wide high r = true ∧ ptsB (rectP x y wide high r) = true then (rectP x y wide high r, true) else ([], false)
theorem qsP_len (x y wide high r : Int) (q : Nat) : (qsP x y wide high r q).length = 9 * q := by
 induction q with
 | zero => rfl
 | succ q ih => simp only [qsP, List.length_append, ih, roundsP_len]; omega
theorem rectP_len (x y wide high r : Int) : (rectP x y wide high r).length ≤ 36 := by
 unfold rectP
 split
 ·simp [sqP]
 ·rw [qsP_len]; omega
abbrev rcA (x y wide high r : Int) : Array Value := #[.int .i64 x, .int .i64 y, .int .i64 wide, .int .i64 high, .int .i64 r]
theorem cutR_bd (wide high r : Int) (h2 : 0 ≤ wide) (h3 : 0 ≤ high) (h4 : 0 ≤ r) (h5 : r ≤ 1099511627776) : 0 ≤ cutR wide high r ∧ cutR wide high r ≤ 1099511627776 := by unfold cutR; omega
theorem rectV_yes {x y wide high r : Int} (hok : okR x y wide high r = true) : rectV x y wide high r = (if ptsB (rectP x y wide high r) = true then rectP x y wide high r else [], ptsB (rectP x y wide high r)) := by
 unfold rectV
 rw [hok]
 cases ptsB (rectP x y wide high r) <;> rfl
theorem okR_all {x y wide high r : Int} (hok : okR x y wide high r = true) : [x, y, wide, high, r].all fixB = true ∧ 0 ≤ wide ∧ 0 ≤ high ∧ 0 ≤ r := by
 unfold okR at hok
 rw [Bool.and_eq_true, Bool.and_eq_true, Bool.and_eq_true] at hok
 exact ⟨hok.1, of_decide_eq_true hok.2.1.1, of_decide_eq_true hok.2.1.2, of_decide_eq_true hok.2.2⟩
theorem lines_one (w : World) (v : Value) (cl : Bool) (l : List Pnt) (B : Nat) (t : TypeId) (h : OwnP w B v l) : Lines (w.alloc (.cells #[v, .bool cl] t)) (some ⟨w.heap.size, 0, none⟩) [⟨l, cl⟩] := by
 have n1 : Nw w (w.alloc (.cells #[v, .bool cl] t)) := (Below.refl _ _).alloc (Nat.le_refl _) _
 refine Or.inr ⟨w.heap.size, 0, rfl, by simp, fun i hi => ?_⟩
 have : i = 0 := by simp at hi; omega
 subst this
 obtain ⟨a, c, rfl, hp⟩ := (h.nw n1).pts
 exact ⟨⟨a, c, by simp [lnAt], by simpa [lnAt] using hp⟩, by simp [lnAt]⟩
theorem lines_oneN (w : World) (v : Value) (cl : Bool) (l : List Pnt) (B : Nat) (t : TypeId) (N : Nat) (hN : w.heap.size = N) (h : OwnP w B v l) : Lines (w.alloc (.cells #[v, .bool cl] t)) (some ⟨N, 0, none⟩) [⟨l, cl⟩] := by
 subst hN
 exact lines_one w v cl l B t h
set_option maxRecDepth 100000 in
set_option maxHeartbeats 4000000 in
theorem sellipse_yes (cx cy rx ry : Int) (w : World) (hok : okEl cx cy rx ry = true) : Calls Try.prog 29 (elA cx cy rx ry) w fun e w' => ∃ v, e = .returned (.tuple #[.agg #[v, .bool (elV cx cy rx ry).2], .bool (elV cx cy rx ry).2]) ∧ OwnP w' w.heap.size v (elV cx cy rx ry).1 ∧ Nw w w' := by
 have hfx : fixB cx = true ∧ fixB cy = true ∧ fixB rx = true ∧ fixB ry = true ∧ 0 ≤ rx ∧ 0 ≤ ry := by
  have h := hok
  unfold okEl at h
  simp at h
  exact ⟨h.1.1, h.1.2.1, h.1.2.2.1, h.1.2.2.2, h.2.1, h.2.2⟩
 obtain ⟨f0, f1, f2, f3, g2, g3⟩ := hfx
 have bcx := fixB_iff.1 f0
 have bcy := fixB_iff.1 f1
 have brx := fixB_iff.1 f2
 have bry := fixB_iff.1 f3
 have HG0 : Hid _ := fun w => sgoodF cx w
 have HG1 : Hid _ := fun w => sgoodF cy w
 have HI2 : Hid _ := fun w => in_any w rx 0 1099511627776
 have HI3 : Hid _ := fun w => in_any w ry 0 1099511627776
 rw [f0] at HG0
 rw [f1] at HG1
 rw [decide_eq_true (⟨g2, brx.2⟩ : 0 ≤ rx ∧ rx ≤ 1099511627776)] at HI2
 rw [decide_eq_true (⟨g3, bry.2⟩ : 0 ≤ ry ∧ ry ≤ 1099511627776)] at HI3
 have e : elV cx cy rx ry = (if ptsB (roundsP cx cy rx ry 0 32) = true then roundsP cx cy rx ry 0 32 else [], ptsB (roundsP cx cy rx ry 0 32)) := by
  unfold elV
  rw [hok]
  cases ptsB (roundsP cx cy rx ry 0 32) <;> rfl
 rw [e]
 obtain ⟨R, hR⟩ : ∃ R : Nat → List Pnt, roundsP cx cy rx ry 0 = R := ⟨_, rfl⟩
 have HR : Hid (roundsP cx cy rx ry 0 = R) := hR
 rw [hR]
 obtain ⟨rl, hrl⟩ : ∃ rl, (if ptsB (R 32) = true then R 32 else []) = rl := ⟨_, rfl⟩
 have HRL : Hid _ := hrl
 rw [hrl]
 obtain ⟨ok, hokk⟩ : ∃ ok, ptsB (R 32) = ok := ⟨_, rfl⟩
 have HOK : Hid _ := hokk
 rw [hokk]
 clear hR hrl hokk e hok f0 f1 f2 f3
 unfold elA
 go_enter Try.func29, Try.ntmps29
 go_wp2_with fail
 refine (HG0.out _).mono ?_
 rintro e w1 ⟨rfl, rfl⟩
 go_wp2_with fail
 refine (HG1.out _).mono ?_
 rintro e w1 ⟨rfl, rfl⟩
 go_wp2_with fail
 refine (HI2.out _).mono ?_
 rintro e w1 ⟨rfl, rfl⟩
 go_wp2_with fail
 refine (HI3.out _).mono ?_
 rintro e w1 ⟨rfl, rfl⟩
 go_wp2
 go_loopw [11] (fun i wr => ∃ (k : Nat) (v : Value), k ≤ 32 ∧ i = .int .i64 (k : Int) ∧ LnB (w.heap.size + 1) wr v (R k) true ∧ Below (w.heap.size + 1) (w.alloc (.cells #[.slice none 0 0, .bool false] 55)) wr) (fun i _ => 32 - (intOf i).toNat)
 case atStart =>
  have e0 : R 0 = [] := by rw [← HR.out]; rfl
  have hl := LnB.new (w.alloc (.cells #[.slice none 0 0, .bool false] 55)) 55 true
  rw [World.size_alloc] at hl
  exact ⟨0, _, by omega, rfl, by rw [e0]; exact hl, (Below.refl _ _).alloc (by simp) _⟩
 case round =>
  obtain ⟨k, v, hk, rfl, hl, hw⟩ := hrel
  by_cases hlt : k < 32
  ·have HRd : Hid _ := fun w => sround w cx cy rx ry k (by omega) (by omega) (by omega) (by omega) (by omega)
   unfold ptV at HRd
   have HE : Hid (R (k + 1) = R k ++ [roundP cx cy rx ry k]) := by show _ = _; rw [← HR.out, roundsP_succ, Nat.zero_add]
   have HLn : Hid ((R k).length + 1 ≤ 1000000) := by show _ ≤ _; rw [← HR.out, roundsP_len]; omega
   generalize roundP cx cy rx ry k = P at *
   obtain ⟨px, py⟩ := P
   obtain ⟨va, vc, hv, _⟩ := hl.own.pts
   generalize (R k).length = vn at hv
   subst hv
   have HL : Hid (LnB (w.heap.size + 1) wr.drew (.slice va vn vc) (R k) true) := LnB.nw hl ((Below.refl _ _).drew)
   have HW : Hid (Below (w.heap.size + 1) (w.alloc (.cells #[.slice none 0 0, .bool false] 55)) wr.drew) := hw.drew
   have q0 : wr.cell? ⟨w.heap.size + 1, 0, none⟩ = some (.slice va vn vc) := hl.c0
   have qb : w.heap.size + 1 < wr.heap.size := hl.lt
   clear hl hw
   go_wp2
   go_region_law
    (first
     | (refine st_call 70 #[.int .i64 cx, .int .i64 cy, .int .i64 rx, .int .i64 ry, .int .i64 (k : Int)] rfl (by simp [go_sem]) ?_; refine Calls.mono (HRd.out _) ?_; rintro e w' ⟨rfl, hk⟩; refine ⟨_, rfl, ?_⟩; replace HL := (show Hid (LnB (w.heap.size + 1) w' (.slice va vn vc) (R k) true) from LnB.nw HL.out hk.nw); replace HW := (show Hid (Below (w.heap.size + 1) (w.alloc (.cells #[.slice none 0 0, .bool false] 55)) w') from Below.trans HW.out (Below.mono hk.1 (Nat.le_of_lt qb))); replace q0 := HL.out.c0; replace qb := HL.out.lt; clear hk)
     | (refine st_one _ (.tmp 37) (.tmp 44) rfl (w.heap.size + 1) (.slice va vn vc) (R k) true px py _ rfl HL.out rfl HLn.out rfl ?_; intro g' c' w9 h2 h3; obtain ⟨t0, tf⟩ := LnB.there HL.out h3; have HP : Hid _ := LnB.put HL.out h3 h2; clear h2 h3))
   all_goals
    go_wp2
    go_roundw
    case rel => exact ⟨k + 1, _, by omega, by go_num, by rw [HE.out]; exact HP.out.1, Below.trans HW.out HP.out.2⟩
    case measure => simp [intOf]; omega
  ·obtain rfl : k = 32 := by omega
   have hgl : goodL [⟨R 32, true⟩] = ok := by
    unfold goodL fixL manyL
    have h32 : (R 32).length = 32 := by rw [← HR.out, roundsP_len]
    simp [h32, HOK.out]
   have HG : Hid _ := fun (w : World) (g : Nat) (h : Lines w (some ⟨g, 0, none⟩) [⟨R 32, true⟩]) => sgoodL w (some ⟨g, 0, none⟩) 1 [⟨R 32, true⟩] (by simp) (by simp [manyL, ← HR.out, roundsP_len]) h
   rw [hgl] at HG
   have HLo : Hid _ := lines_one wr v true (R 32) _ 55 hl.own
   have HN : Hid (Nw (w.alloc (.cells #[.slice none 0 0, .bool false] 55)) wr) := Below.mono hw (by simp)
   obtain ⟨va, vc, hv, _⟩ := hl.own.pts
   have HL : Hid _ := hl
   have q0 := hl.c0
   have q1 := hl.c1
   generalize (R 32).length = vn at hv
   subst hv
   clear hl hw hgl
   go_wp2_with fail
   refine Calls.mono (HG.out _ _ HLo.out) ?_
   rintro e w1 ⟨rfl, k1⟩
   have N1 : Hid (Nw (w.alloc (.cells #[.slice none 0 0, .bool false] 55)) w1) := Nw.trans HN.out (Nw.trans ((Below.refl _ _).alloc (Nat.le_refl _) _) k1.nw)
   have L1 : Hid _ := LnB.nw HL.out (Nw.trans ((Below.refl _ _).alloc (Nat.le_refl _) _) k1.nw)
   have r0 := L1.out.c0
   have r1 := L1.out.c1
   clear k1 HN HL HLo q0 q1
   obtain ⟨z0, z1, zf, hz⟩ := nbox2 w w1 N1.out
   cases ok with
   | false =>
    have e : rl = [] := by rw [← HRL.out, HOK.out]; rfl
    go_wp2
    obtain ⟨y0, y1⟩ := set2 w1 w.heap.size (.slice none 0 0) (.bool false) z0 z1
    refine bodyPost_ret (v := .tuple #[.agg #[.slice none 0 0, .bool false], .bool false]) (by simp [results, Try.results29, go_sem, y0, y1]) rfl ⟨_, rfl, by rw [e]; exact OwnP.nil _ _, ?_⟩
    exact (Below.setCell (nw_box N1.out) (Nat.le_refl _) _).setCell (Nat.le_refl _) _
   | true =>
    have e : rl = R 32 := by rw [← HRL.out, HOK.out]; rfl
    go_wp2
    obtain ⟨y0, y1⟩ := set2 w1 w.heap.size (.slice va vn vc) (.bool true) z0 z1
    have hne : (Value.slice va vn vc).ownBlock ≠ some w.heap.size := fun e => by have := (OwnQ.lt L1.out.own _ e).1; omega
    refine bodyPost_ret (v := .tuple #[.agg #[.slice va vn vc, .bool true], .bool true]) (by simp [results, Try.results29, go_sem, y0, y1]) rfl ⟨_, rfl, ?_, ?_⟩
    ·rw [e]; exact OwnQ.base (OwnQ.far (OwnQ.far L1.out.own _ _ _ hne) _ _ _ hne) (by omega)
    ·exact (Below.setCell (nw_box N1.out) (Nat.le_refl _) _).setCell (Nat.le_refl _) _
set_option maxHeartbeats 2000000 in
theorem sellipse_no (cx cy rx ry : Int) (w : World) (hok : okEl cx cy rx ry = false) : Calls Try.prog 29 (elA cx cy rx ry) w fun e w' => e = .returned (.tuple #[.agg #[.slice none 0 0, .bool false], .bool false]) ∧ Nw w w' := by
 have HG0 : Hid _ := fun w => sgoodF cx w
 have HG1 : Hid _ := fun w => sgoodF cy w
 have HI2 : Hid _ := fun w => in_any w rx 0 1099511627776
 have HI3 : Hid _ := fun w => in_any w ry 0 1099511627776
 have HN : Hid (¬ (fixB cx = true ∧ fixB cy = true ∧ decide (0 ≤ rx ∧ rx ≤ 1099511627776) = true ∧ decide (0 ≤ ry ∧ ry ≤ 1099511627776) = true)) := by
  rintro ⟨h0, h1, h2, h3⟩
  have e2 := of_decide_eq_true h2
  have e3 := of_decide_eq_true h3
  have : okEl cx cy rx ry = true := by
   unfold okEl
   have f2 : fixB rx = true := fixB_iff.2 (by omega)
   have f3 : fixB ry = true := fixB_iff.2 (by omega)
   simp [h0, h1, f2, f3, e2.1, e3.1]
  rw [this] at hok; cases hok
 unfold elA
 clear hok
 generalize fixB cx = b0 at *
 generalize fixB cy = b1 at *
 generalize decide (0 ≤ rx ∧ rx ≤ 1099511627776) = b2 at *
 generalize decide (0 ≤ ry ∧ ry ≤ 1099511627776) = b3 at *
 cases b0 with
 | false =>
  go_enter Try.func29, Try.ntmps29
  go_wp2_with fail
  refine (HG0.out _).mono ?_
  rintro e w1 ⟨rfl, rfl⟩
  go_wp2
  exact bodyPost_ret (v := .tuple #[.agg #[.slice none 0 0, .bool false], .bool false]) (by simp [results, Try.results29, go_sem]) rfl ⟨rfl, ((Kp.refl w).alloc _ _).nw⟩
 | true =>
  cases b1 with
  | false =>
   go_enter Try.func29, Try.ntmps29
   go_wp2_with fail
   refine (HG0.out _).mono ?_
   rintro e w1 ⟨rfl, rfl⟩
   go_wp2_with fail
   refine (HG1.out _).mono ?_
   rintro e w1 ⟨rfl, rfl⟩
   go_wp2
   exact bodyPost_ret (v := .tuple #[.agg #[.slice none 0 0, .bool false], .bool false]) (by simp [results, Try.results29, go_sem]) rfl ⟨rfl, ((Kp.refl w).alloc _ _).nw⟩
  | true =>
   cases b2 with
   | false =>
    go_enter Try.func29, Try.ntmps29
    go_wp2_with fail
    refine (HG0.out _).mono ?_
    rintro e w1 ⟨rfl, rfl⟩
    go_wp2_with fail
    refine (HG1.out _).mono ?_
    rintro e w1 ⟨rfl, rfl⟩
    go_wp2_with fail
    refine (HI2.out _).mono ?_
    rintro e w1 ⟨rfl, rfl⟩
    go_wp2
    exact bodyPost_ret (v := .tuple #[.agg #[.slice none 0 0, .bool false], .bool false]) (by simp [results, Try.results29, go_sem]) rfl ⟨rfl, ((Kp.refl w).alloc _ _).nw⟩
   | true =>
    cases b3 with
    | false =>
     go_enter Try.func29, Try.ntmps29
     go_wp2_with fail
     refine (HG0.out _).mono ?_
     rintro e w1 ⟨rfl, rfl⟩
     go_wp2_with fail
     refine (HG1.out _).mono ?_
     rintro e w1 ⟨rfl, rfl⟩
     go_wp2_with fail
     refine (HI2.out _).mono ?_
     rintro e w1 ⟨rfl, rfl⟩
     go_wp2_with fail
     refine (HI3.out _).mono ?_
     rintro e w1 ⟨rfl, rfl⟩
     go_wp2
     exact bodyPost_ret (v := .tuple #[.agg #[.slice none 0 0, .bool false], .bool false]) (by simp [results, Try.results29, go_sem]) rfl ⟨rfl, ((Kp.refl w).alloc _ _).nw⟩
    | true => exact absurd ⟨rfl, rfl, rfl, rfl⟩ HN.out
theorem sellipse (cx cy rx ry : Int) : LnSays 29 (elA cx cy rx ry) (elV cx cy rx ry) := by
 intro w
 cases hok : okEl cx cy rx ry with
 | true => exact sellipse_yes cx cy rx ry w hok
 | false =>
  have e : elV cx cy rx ry = ([], false) := by unfold elV; rw [if_neg (fun h => by rw [hok] at h; cases h.1)]
  rw [e]
  refine (sellipse_no cx cy rx ry w hok).mono ?_
  rintro e w' ⟨rfl, k⟩
  exact ⟨_, rfl, OwnP.nil _ _, k⟩
theorem LieP.put {w w' : World} {v v' u : Value} {b bx o : Nat} {l : List Pnt} (h : LieP w b 0 l) (k : Ext v v' w w') (hne : v.ownBlock ≠ some b) (hbx : b ≠ bx) : LieP (w'.setCell ⟨bx, o, none⟩ u) b 0 l := by
 refine ⟨Nat.lt_of_lt_of_le h.1 (by simpa [World.setCell] using k.size), fun i hi => ?_⟩
 have e : ∀ x, (w'.setCell ⟨bx, o, none⟩ u).cell? ⟨b, x, none⟩ = w.cell? ⟨b, x, none⟩ := fun x => by
  rw [World.cell?_setCell_other _ _ _ _ (fun e => by injection e; omega)]
  exact Ext.cell k h.1 hne x
 exact ⟨(e _).trans (h.2 i hi).1, (e _).trans (h.2 i hi).2⟩
theorem LieP.at0 {w : World} {b : Nat} {x y : Int} (h : LieP w b 0 [(x, y)]) : w.cell? ⟨b, 0, none⟩ = some (.int .i64 x) ∧ w.cell? ⟨b, 1, none⟩ = some (.int .i64 y) := by
 have := h.2 0 (by simp)
 simpa [ptAt] using this
def midsP (x y wide high r : Int) : List Pnt := [(x + wide - r, y + high - r), (x + r, y + high - r), (x + r, y + r), (x + wide - r, y + r)]
theorem liep_four (w : World) (p0 p1 p2 p3 : Pnt) (t : TypeId) : LieP (w.alloc (.cells #[.int .i64 p0.1, .int .i64 p0.2, .int .i64 p1.1, .int .i64 p1.2, .int .i64 p2.1, .int .i64 p2.2, .int .i64 p3.1, .int .i64 p3.2] t)) w.heap.size 0 [p0, p1, p2, p3] := by
 refine ⟨by simp, fun i hi => ?_⟩
 have : i = 0 ∨ i = 1 ∨ i = 2 ∨ i = 3 := by simp at hi; omega
 rcases this with rfl | rfl | rfl | rfl <;> simp [ptAt]
theorem roundsP_zero (cx cy rx ry : Int) (f : Nat) : roundsP cx cy rx ry f 0 = [] := rfl
theorem goodL_one {L : List Pnt} {ok : Bool} (h : L.length ≤ 600) (hok : ptsB L = ok) : goodL [⟨L, true⟩] = ok := by
 unfold goodL fixL manyL
 simp [h, hok]
structure AX where
 bx : Nat
 bc : Nat
 px : Int
 py : Int
 R : Int
 q : Int
 k : Int
 tx : Int
 ty : Int
 va : Option Addr
 vn : Nat
 vc : Nat
 l : List Pnt
 W : World
 a0 : Act
structure AXOk (X : AX) : Prop where
 lb : LnB X.bx X.W (.slice X.va X.vn X.vc) X.l true
 lc : LieP X.W X.bc 0 [(X.px, X.py)]
 len : X.l.length + 1 ≤ 1000000
 w1 : IntKind.i64.wrap (8 * X.q) = 8 * X.q
 w2 : IntKind.i64.wrap (8 * X.q + X.k) = 8 * X.q + X.k
 call : ∀ w, Calls Try.prog 70 #[.int .i64 X.px, .int .i64 X.py, .int .i64 X.R, .int .i64 X.R, .int .i64 (8 * X.q + X.k)] w fun e w' => e = .returned (.agg #[.int .i64 X.tx, .int .i64 X.ty]) ∧ Kp w w'
 e4 : X.a0.eval (.tmp 4) = .int .i64 X.R
 e12 : X.a0.eval (.tmp 12) = .pointer (some ⟨X.bx, 0, none⟩)
 e13 : X.a0.eval (.tmp 13) = .int .i64 X.q
 e14 : X.a0.eval (.tmp 14) = .pointer (some ⟨X.bc, 0, none⟩)
 e15 : X.a0.eval (.tmp 15) = .int .i64 X.k
 sz : X.a0.tmps.size = 147
def AX.val0 (X : AX) : Nat → Value
 | 124 => .pointer (some ⟨X.bx, 0, none⟩)
 | 125 => .slice X.va X.vn X.vc
 | 126 => .pointer (some ⟨X.bc, 0, none⟩)
 | 127 => .int .i64 X.px
 | 128 => .pointer (some ⟨X.bc, 1, none⟩)
 | 129 => .int .i64 X.py
 | 130 => .int .i64 X.R
 | 131 => .int .i64 X.R
 | 132 => .int .i64 X.q
 | 133 => .int .i64 (8 * X.q)
 | 134 => .int .i64 X.k
 | 135 => .int .i64 (8 * X.q + X.k)
 | 136 => .agg #[.int .i64 X.tx, .int .i64 X.ty]
 | 139 => .pointer (some ⟨X.bx, 0, none⟩)
 | _ => undef
def AX.av : Nat → Option Nat
 | 137 => some 0
 | 138 => some 1
 | _ => none
def AX.acts : List Nat := [13, 14, 16]
def AX.Wd (X : AX) : Nat → (Nat → Value) → World → Prop
 | 0, _, w => Kp X.W w
 | 1, γ, w => ∃ w1, Kp X.W w1 ∧ γ 0 = .slice (some ⟨w1.heap.size, 0, none⟩) 1 1 ∧ w = w1.alloc (.cells #[.int .i64 X.tx, .int .i64 X.ty] 27)
 | 2, γ, w => ∃ w1 g c, Kp X.W w1 ∧ γ 1 = .slice (some ⟨g, 0, none⟩) (X.l.length + 1) c ∧ OwnP w (X.bx + 1) (γ 1) (X.l ++ [(X.tx, X.ty)]) ∧ Ext (.slice X.va X.vn X.vc) (γ 1) w1 w
 | _, γ, w => ∃ w1 w2 g c, Kp X.W w1 ∧ γ 1 = .slice (some ⟨g, 0, none⟩) (X.l.length + 1) c ∧ OwnP w2 (X.bx + 1) (γ 1) (X.l ++ [(X.tx, X.ty)]) ∧ Ext (.slice X.va X.vn X.vc) (γ 1) w1 w2 ∧ w = w2.setCell ⟨X.bx, 0, none⟩ (γ 1)
theorem AX.chain : chainG (opsOf 16 Try.f34) AX.acts = true := by kernel_rfl
theorem AX.nodup : AX.acts.Nodup := by decide
theorem AX.inj {listed : Array Bool} {i k : Nat} (h : (List.range (opsOf 16 Try.f34).size).all (fun j => decide (j = i) || !(match dstOf (opsOf 16 Try.f34) j with | some d => decide (AX.av d = some k) | none => false)) = true) (hu : listed.getD i false = false) : ∀ d, got (opsOf 16 Try.f34) listed d → AX.av d ≠ some k := by
 rintro d ⟨j, h1, h2⟩ h3
 have hlt : j < (opsOf 16 Try.f34).size := by
  rcases Nat.lt_or_ge j (opsOf 16 Try.f34).size with h4 | h4
  ·exact h4
  ·unfold dstOf at h2; rw [Array.getElem?_eq_none h4] at h2; cases h2
 have h5 := List.all_eq_true.1 h j (List.mem_range.2 hlt)
 rw [h2] at h5
 simp only [h3, decide_true, Bool.not_true, Bool.or_false, decide_eq_true_eq] at h5
 subst h5
 rw [hu] at h1
 cases h1
theorem AX.s0 (X : AX) (ok : AXOk X) {Q : PQ} : StepG (opsOf 16 Try.f34) AX.acts AX.av X.val0 X.Wd X.a0 Q 0 := by
 intro γ listed a w o hF hC hW h1 ho h2
 obtain ⟨hd, hop, hg⟩ := fields2 (x := some 124) (y := Op.fieldAddr 55 (.tmp 12) 0) (z := none) (by kernel_rfl) ho
 have e12 : a.eval (.tmp 12) = .pointer (some ⟨X.bx, 0, none⟩) := (hF.eval0 (by kernel_rfl)).trans ok.e12
 refine st_pureG hF hC hW ho h2 (by decide) hd hg rfl ?_
 show _ = Result.ok (Next.value (.pointer (some ⟨X.bx, 0, none⟩))) w
 generalize a.eval = ρ at e12 ⊢
 unfold execOp
 rw [hop]
 simp [e12, go_sem]
theorem AX.s1 (X : AX) (ok : AXOk X) {Q : PQ} : StepG (opsOf 16 Try.f34) AX.acts AX.av X.val0 X.Wd X.a0 Q 1 := by
 intro γ listed a w o hF hC hW h1 ho h2
 obtain ⟨hd, hop, hg⟩ := fields2 (x := some 125) (y := Op.load 23 (.tmp 124)) (z := none) (by kernel_rfl) ho
 have e124 : a.eval (.tmp 124) = .pointer (some ⟨X.bx, 0, none⟩) := slotG hF ho h2 (j := 0) (d := 124) (by kernel_rfl) (by kernel_rfl) (by rw [ok.sz]; decide)
 have hph := phase_leG (acts := AX.acts) (m := 1) (x := 14) hC (unl (hF.lt ho) h1) rfl [1] (by kernel_rfl) (by decide)
 have hWW := hW
 generalize phase listed AX.acts = n at hph hWW
 have hk : Nw X.W w := by
  rcases (show n = 0 ∨ n = 1 by omega) with rfl | rfl
  ·exact hWW.nw
  ·obtain ⟨w1, k1, _, rfl⟩ := hWW
   exact Nw.trans k1.nw ((Below.refl _ _).alloc (Nat.le_refl _) _)
 have hc := (ok.lb.nw hk).c0
 refine st_pureG hF hC hW ho h2 (by decide) hd hg rfl ?_
 show _ = Result.ok (Next.value (.slice X.va X.vn X.vc)) w
 generalize a.eval = ρ at e124 ⊢
 unfold execOp
 rw [hop]
 simp [e124, hc, go_sem]
theorem AX.s2 (X : AX) (ok : AXOk X) {Q : PQ} : StepG (opsOf 16 Try.f34) AX.acts AX.av X.val0 X.Wd X.a0 Q 2 := by
 intro γ listed a w o hF hC hW h1 ho h2
 obtain ⟨hd, hop, hg⟩ := fields2 (x := some 126) (y := Op.fieldAddr 27 (.tmp 14) 0) (z := none) (by kernel_rfl) ho
 have e14 : a.eval (.tmp 14) = .pointer (some ⟨X.bc, 0, none⟩) := (hF.eval0 (by kernel_rfl)).trans ok.e14
 refine st_pureG hF hC hW ho h2 (by decide) hd hg rfl ?_
 show _ = Result.ok (Next.value (.pointer (some ⟨X.bc, 0, none⟩))) w
 generalize a.eval = ρ at e14 ⊢
 unfold execOp
 rw [hop]
 simp [e14, go_sem]
theorem AX.s3 (X : AX) (ok : AXOk X) {Q : PQ} : StepG (opsOf 16 Try.f34) AX.acts AX.av X.val0 X.Wd X.a0 Q 3 := by
 intro γ listed a w o hF hC hW h1 ho h2
 obtain ⟨hd, hop, hg⟩ := fields2 (x := some 127) (y := Op.load 3 (.tmp 126)) (z := none) (by kernel_rfl) ho
 have e126 : a.eval (.tmp 126) = .pointer (some ⟨X.bc, 0, none⟩) := slotG hF ho h2 (j := 2) (d := 126) (by kernel_rfl) (by kernel_rfl) (by rw [ok.sz]; decide)
 have hph := phase_leG (acts := AX.acts) (m := 0) (x := 13) hC (unl (hF.lt ho) h1) rfl [12, 3] (by kernel_rfl) (by decide)
 have hWW := hW
 generalize phase listed AX.acts = n at hph hWW
 have hk : Nw X.W w := by
  obtain rfl : n = 0 := by omega
  exact hWW.nw
 have hc := (ok.lc.nw hk).at0.1
 refine st_pureG hF hC hW ho h2 (by decide) hd hg rfl ?_
 show _ = Result.ok (Next.value (.int .i64 X.px)) w
 generalize a.eval = ρ at e126 ⊢
 unfold execOp
 rw [hop]
 simp [e126, hc, go_sem]
theorem AX.s4 (X : AX) (ok : AXOk X) {Q : PQ} : StepG (opsOf 16 Try.f34) AX.acts AX.av X.val0 X.Wd X.a0 Q 4 := by
 intro γ listed a w o hF hC hW h1 ho h2
 obtain ⟨hd, hop, hg⟩ := fields2 (x := some 128) (y := Op.fieldAddr 27 (.tmp 14) 1) (z := none) (by kernel_rfl) ho
 have e14 : a.eval (.tmp 14) = .pointer (some ⟨X.bc, 0, none⟩) := (hF.eval0 (by kernel_rfl)).trans ok.e14
 refine st_pureG hF hC hW ho h2 (by decide) hd hg rfl ?_
 show _ = Result.ok (Next.value (.pointer (some ⟨X.bc, 1, none⟩))) w
 generalize a.eval = ρ at e14 ⊢
 unfold execOp
 rw [hop]
 simp [e14, go_sem]
theorem AX.s5 (X : AX) (ok : AXOk X) {Q : PQ} : StepG (opsOf 16 Try.f34) AX.acts AX.av X.val0 X.Wd X.a0 Q 5 := by
 intro γ listed a w o hF hC hW h1 ho h2
 obtain ⟨hd, hop, hg⟩ := fields2 (x := some 129) (y := Op.load 3 (.tmp 128)) (z := none) (by kernel_rfl) ho
 have e128 : a.eval (.tmp 128) = .pointer (some ⟨X.bc, 1, none⟩) := slotG hF ho h2 (j := 4) (d := 128) (by kernel_rfl) (by kernel_rfl) (by rw [ok.sz]; decide)
 have hph := phase_leG (acts := AX.acts) (m := 0) (x := 13) hC (unl (hF.lt ho) h1) rfl [12, 5] (by kernel_rfl) (by decide)
 have hWW := hW
 generalize phase listed AX.acts = n at hph hWW
 have hk : Nw X.W w := by
  obtain rfl : n = 0 := by omega
  exact hWW.nw
 have hc := (ok.lc.nw hk).at0.2
 refine st_pureG hF hC hW ho h2 (by decide) hd hg rfl ?_
 show _ = Result.ok (Next.value (.int .i64 X.py)) w
 generalize a.eval = ρ at e128 ⊢
 unfold execOp
 rw [hop]
 simp [e128, hc, go_sem]
theorem AX.s6 (X : AX) (ok : AXOk X) {Q : PQ} : StepG (opsOf 16 Try.f34) AX.acts AX.av X.val0 X.Wd X.a0 Q 6 := by
 intro γ listed a w o hF hC hW h1 ho h2
 obtain ⟨hd, hop, hg⟩ := fields2 (x := some 130) (y := Op.move (.tmp 4)) (z := none) (by kernel_rfl) ho
 have e4 : a.eval (.tmp 4) = .int .i64 X.R := (hF.eval0 (by kernel_rfl)).trans ok.e4
 refine st_pureG hF hC hW ho h2 (by decide) hd hg rfl ?_
 show _ = Result.ok (Next.value (.int .i64 X.R)) w
 generalize a.eval = ρ at e4 ⊢
 unfold execOp
 rw [hop]
 simp [e4, go_sem]
theorem AX.s7 (X : AX) (ok : AXOk X) {Q : PQ} : StepG (opsOf 16 Try.f34) AX.acts AX.av X.val0 X.Wd X.a0 Q 7 := by
 intro γ listed a w o hF hC hW h1 ho h2
 obtain ⟨hd, hop, hg⟩ := fields2 (x := some 131) (y := Op.move (.tmp 4)) (z := none) (by kernel_rfl) ho
 have e4 : a.eval (.tmp 4) = .int .i64 X.R := (hF.eval0 (by kernel_rfl)).trans ok.e4
 refine st_pureG hF hC hW ho h2 (by decide) hd hg rfl ?_
 show _ = Result.ok (Next.value (.int .i64 X.R)) w
 generalize a.eval = ρ at e4 ⊢
 unfold execOp
 rw [hop]
 simp [e4, go_sem]
theorem AX.s8 (X : AX) (ok : AXOk X) {Q : PQ} : StepG (opsOf 16 Try.f34) AX.acts AX.av X.val0 X.Wd X.a0 Q 8 := by
 intro γ listed a w o hF hC hW h1 ho h2
 obtain ⟨hd, hop, hg⟩ := fields2 (x := some 132) (y := Op.move (.tmp 13)) (z := none) (by kernel_rfl) ho
 have e13 : a.eval (.tmp 13) = .int .i64 X.q := (hF.eval0 (by kernel_rfl)).trans ok.e13
 refine st_pureG hF hC hW ho h2 (by decide) hd hg rfl ?_
 show _ = Result.ok (Next.value (.int .i64 X.q)) w
 generalize a.eval = ρ at e13 ⊢
 unfold execOp
 rw [hop]
 simp [e13, go_sem]
theorem AX.s9 (X : AX) (ok : AXOk X) {Q : PQ} : StepG (opsOf 16 Try.f34) AX.acts AX.av X.val0 X.Wd X.a0 Q 9 := by
 intro γ listed a w o hF hC hW h1 ho h2
 obtain ⟨hd, hop, hg⟩ := fields2 (x := some 133) (y := Op.binOp .mul 3 (.const (.int .i64 8)) (.tmp 132) 3) (z := none) (by kernel_rfl) ho
 have ec0 : a.eval (.const (.int .i64 8)) = .int .i64 8 := rfl
 have e132 : a.eval (.tmp 132) = .int .i64 X.q := slotG hF ho h2 (j := 8) (d := 132) (by kernel_rfl) (by kernel_rfl) (by rw [ok.sz]; decide)
 refine st_pureG hF hC hW ho h2 (by decide) hd hg rfl ?_
 show _ = Result.ok (Next.value (.int .i64 (8 * X.q))) w
 generalize a.eval = ρ at ec0 e132 ⊢
 unfold execOp
 rw [hop]
 simp [ec0, e132, ok.w1, go_sem]
theorem AX.s10 (X : AX) (ok : AXOk X) {Q : PQ} : StepG (opsOf 16 Try.f34) AX.acts AX.av X.val0 X.Wd X.a0 Q 10 := by
 intro γ listed a w o hF hC hW h1 ho h2
 obtain ⟨hd, hop, hg⟩ := fields2 (x := some 134) (y := Op.move (.tmp 15)) (z := none) (by kernel_rfl) ho
 have e15 : a.eval (.tmp 15) = .int .i64 X.k := (hF.eval0 (by kernel_rfl)).trans ok.e15
 refine st_pureG hF hC hW ho h2 (by decide) hd hg rfl ?_
 show _ = Result.ok (Next.value (.int .i64 X.k)) w
 generalize a.eval = ρ at e15 ⊢
 unfold execOp
 rw [hop]
 simp [e15, go_sem]
theorem AX.s11 (X : AX) (ok : AXOk X) {Q : PQ} : StepG (opsOf 16 Try.f34) AX.acts AX.av X.val0 X.Wd X.a0 Q 11 := by
 intro γ listed a w o hF hC hW h1 ho h2
 obtain ⟨hd, hop, hg⟩ := fields2 (x := some 135) (y := Op.binOp .add 3 (.tmp 133) (.tmp 134) 3) (z := none) (by kernel_rfl) ho
 have e133 : a.eval (.tmp 133) = .int .i64 (8 * X.q) := slotG hF ho h2 (j := 9) (d := 133) (by kernel_rfl) (by kernel_rfl) (by rw [ok.sz]; decide)
 have e134 : a.eval (.tmp 134) = .int .i64 X.k := slotG hF ho h2 (j := 10) (d := 134) (by kernel_rfl) (by kernel_rfl) (by rw [ok.sz]; decide)
 refine st_pureG hF hC hW ho h2 (by decide) hd hg rfl ?_
 show _ = Result.ok (Next.value (.int .i64 (8 * X.q + X.k))) w
 generalize a.eval = ρ at e133 e134 ⊢
 unfold execOp
 rw [hop]
 simp [e133, e134, ok.w2, go_sem]
theorem AX.s12 (X : AX) (ok : AXOk X) {Q : PQ} : StepG (opsOf 16 Try.f34) AX.acts AX.av X.val0 X.Wd X.a0 Q 12 := by
 intro γ listed a w o hF hC hW h1 ho h2
 obtain ⟨hd, hop, hg⟩ := fields2 (x := some 136) (y := Op.call { callee := .value (.func 70), args := #[(.tmp 127), (.tmp 129), (.tmp 130), (.tmp 131), (.tmp 135)], argTypes := #[3, 3, 3, 3, 3] }) (z := none) (by kernel_rfl) ho
 have e127 : a.eval (.tmp 127) = .int .i64 X.px := slotG hF ho h2 (j := 3) (d := 127) (by kernel_rfl) (by kernel_rfl) (by rw [ok.sz]; decide)
 have e129 : a.eval (.tmp 129) = .int .i64 X.py := slotG hF ho h2 (j := 5) (d := 129) (by kernel_rfl) (by kernel_rfl) (by rw [ok.sz]; decide)
 have e130 : a.eval (.tmp 130) = .int .i64 X.R := slotG hF ho h2 (j := 6) (d := 130) (by kernel_rfl) (by kernel_rfl) (by rw [ok.sz]; decide)
 have e131 : a.eval (.tmp 131) = .int .i64 X.R := slotG hF ho h2 (j := 7) (d := 131) (by kernel_rfl) (by kernel_rfl) (by rw [ok.sz]; decide)
 have e135 : a.eval (.tmp 135) = .int .i64 (8 * X.q + X.k) := slotG hF ho h2 (j := 11) (d := 135) (by kernel_rfl) (by kernel_rfl) (by rw [ok.sz]; decide)
 have ef : a.eval (.func 70) = .func (.func 70) #[] #[] := rfl
 have hph := phase_leG (acts := AX.acts) (m := 0) (x := 13) hC (unl (hF.lt ho) h1) rfl [12] (by kernel_rfl) (by decide)
 have hWW := hW
 generalize phase listed AX.acts = n at hph hWW
 refine st_callG hF hC hW ho h2 (by decide) hd hg rfl (f := 70) (args := #[.int .i64 X.px, .int .i64 X.py, .int .i64 X.R, .int .i64 X.R, .int .i64 (8 * X.q + X.k)]) ?_ ?_ ?_
 ·generalize a.eval = ρ at e127 e129 e130 e131 e135 ef ⊢
  unfold execOp
  rw [hop]
  simp [e127, e129, e130, e131, e135, ef, go_sem]
 ·exact ok.call w
 ·intro w' hk
  have hz : phase listed AX.acts = 0 := by
   have := phase_leG (acts := AX.acts) (m := 0) (x := 13) hC (unl (hF.lt ho) h1) rfl [12] (by kernel_rfl) (by decide)
   omega
  rw [hz] at hW ⊢
  exact Kp.trans hW hk
theorem AX.s13 (X : AX) (ok : AXOk X) {Q : PQ} : StepG (opsOf 16 Try.f34) AX.acts AX.av X.val0 X.Wd X.a0 Q 13 := by
 intro γ listed a w o hF hC hW h1 ho h2
 obtain ⟨hd, hop, hg⟩ := fields2 (x := some 137) (y := Op.buildSlice 23 1 #[(0, (.tmp 136))]) (z := none) (by kernel_rfl) ho
 have e136 : a.eval (.tmp 136) = .agg #[.int .i64 X.tx, .int .i64 X.ty] := slotG hF ho h2 (j := 12) (d := 136) (by kernel_rfl) (by kernel_rfl) (by rw [ok.sz]; decide)
 have hu := unl (hF.lt ho) h1
 refine st_actG (k := 0) AX.chain AX.nodup rfl hF hC hW h1 ho h2 (Or.inr ⟨137, hd, rfl⟩) (AX.inj (by kernel_rfl) hu) hg ?_
 intro hW0 K hK
 have hr : (execOp a.eval o).run Try.prog w = .ok (.value (.slice (some ⟨w.heap.size, 0, none⟩) 1 1)) (w.alloc (.cells #[.int .i64 X.tx, .int .i64 X.ty] 27)) := by
  generalize a.eval = ρ at e136 ⊢
  unfold execOp
  rw [hop]
  simp [e136, go_sem]
 unfold Oper.wp
 rw [hr]
 exact hK _ _ ⟨w, hW0, rfl, rfl⟩
theorem AX.s14 (X : AX) (ok : AXOk X) {Q : PQ} : StepG (opsOf 16 Try.f34) AX.acts AX.av X.val0 X.Wd X.a0 Q 14 := by
 intro γ listed a w o hF hC hW h1 ho h2
 obtain ⟨hd, hop, hg⟩ := fields2 (x := some 138) (y := Op.call { callee := .builtin .append, args := #[(.tmp 125), (.tmp 137)], argTypes := #[23, 23] }) (z := none) (by kernel_rfl) ho
 have e125 : a.eval (.tmp 125) = .slice X.va X.vn X.vc := slotG hF ho h2 (j := 1) (d := 125) (by kernel_rfl) (by kernel_rfl) (by rw [ok.sz]; decide)
 have e137 : a.eval (.tmp 137) = γ 0 := slotG hF ho h2 (j := 13) (d := 137) (by kernel_rfl) (by kernel_rfl) (by rw [ok.sz]; decide)
 have hu := unl (hF.lt ho) h1
 refine st_actG (k := 1) AX.chain AX.nodup rfl hF hC hW h1 ho h2 (Or.inr ⟨138, hd, rfl⟩) (AX.inj (by kernel_rfl) hu) hg ?_
 intro hW0 K hK
 obtain ⟨w1, k1, g0, rfl⟩ := hW0
 rw [g0] at e137
 have lb := ok.lb.nw k1.nw
 have n1 : Nw w1 (w1.alloc (.cells #[.int .i64 X.tx, .int .i64 X.ty] 27)) := (Below.refl _ _).alloc (Nat.le_refl _) _
 refine wp_q 27 23 23 (.int .i64 0) (.int .i64 0) 16 under_pts under_pts Try.info27 (by decide) rfl _ (.tmp 125) (.tmp 137) hop (X.bx + 1) (.slice X.va X.vn X.vc) (vP X.l) (vP [(X.tx, X.ty)]) e125 (lb.own.nw n1) w1.heap.size 0 1 1 rfl e137 (liep_one w1 X.tx X.ty _).vv (vP_one _) (by simp [vP]) (by rw [vP_len]; have := ok.len; simp [vP]; omega) (by have := lb.lt; simp; omega) ?_
 intro g' c' w' h3 h4
 rw [vP_len] at h3 h4 ⊢
 rw [← vP_append] at h3
 exact hK _ _ ⟨w1, g', c', k1, rfl, h3, n1.ext h4⟩
theorem AX.s15 (X : AX) (ok : AXOk X) {Q : PQ} : StepG (opsOf 16 Try.f34) AX.acts AX.av X.val0 X.Wd X.a0 Q 15 := by
 intro γ listed a w o hF hC hW h1 ho h2
 obtain ⟨hd, hop, hg⟩ := fields2 (x := some 139) (y := Op.fieldAddr 55 (.tmp 12) 0) (z := none) (by kernel_rfl) ho
 have e12 : a.eval (.tmp 12) = .pointer (some ⟨X.bx, 0, none⟩) := (hF.eval0 (by kernel_rfl)).trans ok.e12
 refine st_pureG hF hC hW ho h2 (by decide) hd hg rfl ?_
 show _ = Result.ok (Next.value (.pointer (some ⟨X.bx, 0, none⟩))) w
 generalize a.eval = ρ at e12 ⊢
 unfold execOp
 rw [hop]
 simp [e12, go_sem]
theorem AX.s16 (X : AX) (ok : AXOk X) {Q : PQ} : StepG (opsOf 16 Try.f34) AX.acts AX.av X.val0 X.Wd X.a0 Q 16 := by
 intro γ listed a w o hF hC hW h1 ho h2
 obtain ⟨hd, hop, hg⟩ := fields2 (x := none) (y := Op.store 23 (.tmp 139) (.tmp 138)) (z := none) (by kernel_rfl) ho
 have e139 : a.eval (.tmp 139) = .pointer (some ⟨X.bx, 0, none⟩) := slotG hF ho h2 (j := 15) (d := 139) (by kernel_rfl) (by kernel_rfl) (by rw [ok.sz]; decide)
 have e138 : a.eval (.tmp 138) = γ 1 := slotG hF ho h2 (j := 14) (d := 138) (by kernel_rfl) (by kernel_rfl) (by rw [ok.sz]; decide)
 have hu := unl (hF.lt ho) h1
 refine st_actG (k := 2) AX.chain AX.nodup rfl hF hC hW h1 ho h2 (Or.inl hd) (AX.inj (by kernel_rfl) hu) hg ?_
 intro hW0 K hK
 obtain ⟨w1, g, cc, k1, g1, o1, x1⟩ := hW0
 obtain ⟨t0, tf⟩ := (ok.lb.nw k1.nw).there x1
 have hr : (execOp a.eval o).run Try.prog w = .ok .skip (w.setCell ⟨X.bx, 0, none⟩ (γ 1)) := by
  rw [g1] at e138 ⊢
  generalize a.eval = ρ at e138 e139 ⊢
  unfold execOp
  rw [hop]
  simp [e138, e139, t0, tf, go_sem]
 unfold Oper.wp
 rw [hr]
 exact hK _ _ ⟨w1, w, g, cc, k1, g1, o1, x1, rfl⟩
theorem AX.size : (opsOf 16 Try.f34).size = 17 := by kernel_rfl
theorem AX.steps (X : AX) (ok : AXOk X) {Q : PQ} (i : Nat) (hi : i < (opsOf 16 Try.f34).size) : StepG (opsOf 16 Try.f34) AX.acts AX.av X.val0 X.Wd X.a0 Q i := by
 rw [AX.size] at hi
 have hc : i = 0 ∨ i = 1 ∨ i = 2 ∨ i = 3 ∨ i = 4 ∨ i = 5 ∨ i = 6 ∨ i = 7 ∨ i = 8 ∨ i = 9 ∨ i = 10 ∨ i = 11 ∨ i = 12 ∨ i = 13 ∨ i = 14 ∨ i = 15 ∨ i = 16 := by omega
 rcases hc with rfl | rfl | rfl | rfl | rfl | rfl | rfl | rfl | rfl | rfl | rfl | rfl | rfl | rfl | rfl | rfl | rfl
 ·exact AX.s0 X ok
 ·exact AX.s1 X ok
 ·exact AX.s2 X ok
 ·exact AX.s3 X ok
 ·exact AX.s4 X ok
 ·exact AX.s5 X ok
 ·exact AX.s6 X ok
 ·exact AX.s7 X ok
 ·exact AX.s8 X ok
 ·exact AX.s9 X ok
 ·exact AX.s10 X ok
 ·exact AX.s11 X ok
 ·exact AX.s12 X ok
 ·exact AX.s13 X ok
 ·exact AX.s14 X ok
 ·exact AX.s15 X ok
 ·exact AX.s16 X ok
theorem AX.puts (X : AX) (γ : Nat → Value) (a0 : Act) : putsL (valG AX.av X.val0 γ) (opsOf 16 Try.f34).toList a0 = ((((((((((((((((a0.put (some 124) (.pointer (some ⟨X.bx, 0, none⟩))).put (some 125) (.slice X.va X.vn X.vc)).put (some 126) (.pointer (some ⟨X.bc, 0, none⟩))).put (some 127) (.int .i64 X.px)).put (some 128) (.pointer (some ⟨X.bc, 1, none⟩))).put (some 129) (.int .i64 X.py)).put (some 130) (.int .i64 X.R)).put (some 131) (.int .i64 X.R)).put (some 132) (.int .i64 X.q)).put (some 133) (.int .i64 (8 * X.q))).put (some 134) (.int .i64 X.k)).put (some 135) (.int .i64 (8 * X.q + X.k))).put (some 136) (.agg #[.int .i64 X.tx, .int .i64 X.ty])).put (some 137) (γ 0)).put (some 138) (γ 1)).put (some 139) (.pointer (some ⟨X.bx, 0, none⟩))) := by kernel_rfl
theorem AX.run (X : AX) (ok : AXOk X) {Q : PQ} (w : World) (h0 : X.Wd 0 (fun _ => undef) w.drew) (hend : ∀ (γ : Nat → Value) w', X.Wd 3 γ w' → Q .normal ((((((((((((((((X.a0.put (some 124) (.pointer (some ⟨X.bx, 0, none⟩))).put (some 125) (.slice X.va X.vn X.vc)).put (some 126) (.pointer (some ⟨X.bc, 0, none⟩))).put (some 127) (.int .i64 X.px)).put (some 128) (.pointer (some ⟨X.bc, 1, none⟩))).put (some 129) (.int .i64 X.py)).put (some 130) (.int .i64 X.R)).put (some 131) (.int .i64 X.R)).put (some 132) (.int .i64 X.q)).put (some 133) (.int .i64 (8 * X.q))).put (some 134) (.int .i64 X.k)).put (some 135) (.int .i64 (8 * X.q + X.k))).put (some 136) (.agg #[.int .i64 X.tx, .int .i64 X.ty])).put (some 137) (γ 0)).put (some 138) (γ 1)).put (some 139) (.pointer (some ⟨X.bx, 0, none⟩))) w') : (Code.region 16 (opsOf 16 Try.f34) true).wp Try.prog Q X.a0 w := by
 refine reg_act (acts := AX.acts) (av := AX.av) (val0 := X.val0) (Wd := X.Wd) (by kernel_rfl) (by kernel_rfl) (by rw [AX.size]; decide) (fun i hi => AX.steps X ok i hi) _ h0 ?_
 intro γ w' h
 rw [AX.puts]
 exact hend γ w' h
end Go.Proofs.Ytdjemnbdaddegaa
