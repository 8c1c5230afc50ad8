/-
  RectOf of the specification, way A; each theorem names its c
-/
import Derived.Test.YtdjemnbdaddegaaJAJ
import Derived.Test.YtdjemnbdaddegaaJAL
import Derived.Test.YtdjemnbdaddegaaJAD
import Derived.Test.YtdjemnbdaddegaaJAI
import Derived.Test.YtdjemnbdaddegaaJAA
namespace Go.Proofs.Ytdjemnbdaddegaa
open Go.ChangeShapes Go.WideShapes Go.ChangeAt Go.RowKit
set_option linter.unusedVariables false
set_option maxHeartbeats 4000000 in
theorem srect_sqA (x y wide high r : Int) (w : World) (hok : okR x y wide high r = true) (hz : cutR wide high r = 0) (c1 : wide / 2 < r) (c2 : high / 2 < wide / 2) : Calls Try.prog 34 (rcA x y wide high r) w fun e w' => ∃ v, e = .returned (.tuple #[.agg #[v, .bool (ptsB (sqP x y wide high))], .bool (ptsB (sqP x y wide high))]) ∧ OwnP w' w.heap.size v (if ptsB (sqP x y wide high) = true then sqP x y wide high else []) ∧ Nw w w' := by
 obtain ⟨hf, h2, h3, h4⟩ := okR_all hok
 have hfx : fixB x = true ∧ fixB y = true ∧ fixB wide = true ∧ fixB high = true ∧ fixB r = true := by simpa using hf
 have bx := fixB_iff.1 hfx.1
 have by' := fixB_iff.1 hfx.2.1
 have bw := fixB_iff.1 hfx.2.2.1
 have bh := fixB_iff.1 hfx.2.2.2.1
 have br := fixB_iff.1 hfx.2.2.2.2
 have HG0 : Hid _ := fun w => sgoodF x w
 have HG1 : Hid _ := fun w => sgoodF y w
 have HI2 : Hid _ := fun w => in_any w wide 0 1099511627776
 have HI3 : Hid _ := fun w => in_any w high 0 1099511627776
 have HI4 : Hid _ := fun w => in_any w r 0 1099511627776
 rw [hfx.1] at HG0
 rw [hfx.2.1] at HG1
 rw [decide_eq_true (⟨h2, bw.2⟩ : 0 ≤ wide ∧ wide ≤ 1099511627776)] at HI2
 rw [decide_eq_true (⟨h3, bh.2⟩ : 0 ≤ high ∧ high ≤ 1099511627776)] at HI3
 rw [decide_eq_true (⟨h4, br.2⟩ : 0 ≤ r ∧ r ≤ 1099511627776)] at HI4
 clear hfx hf hok
 have hT : high / 2 = 0 := by unfold cutR at hz; omega
 have HO : Hid (∀ (w : World) (B : Nat), w.heap.size = B → OwnP (w.alloc (.cells #[.int .i64 x, .int .i64 y, .int .i64 (x + wide), .int .i64 y, .int .i64 (x + wide), .int .i64 (y + high), .int .i64 x, .int .i64 (y + high)] 27)) B (.slice (some ⟨B, 0, none⟩) 4 4) (sqP x y wide high)) := fun w B hB => by
  subst hB
  exact World.ownsRow_lit w #[.int .i64 x, .int .i64 y, .int .i64 (x + wide), .int .i64 y, .int .i64 (x + wide), .int .i64 (y + high), .int .i64 x, .int .i64 (y + high)] 4 (Nat.le_refl _) (by unfold maxLen; omega) rfl
 obtain ⟨L, hL⟩ : ∃ L, sqP x y wide high = L := ⟨_, rfl⟩
 have hL4 : L.length = 4 := by rw [← hL]; rfl
 rw [hL] at HO ⊢
 clear hL
 obtain ⟨rl, hrl⟩ : ∃ rl, (if ptsB L = true then L else []) = rl := ⟨_, rfl⟩
 have HRL : Hid _ := hrl
 rw [hrl]
 obtain ⟨ok, hokk⟩ : ∃ ok, ptsB L = ok := ⟨_, rfl⟩
 have HOK : Hid _ := hokk
 rw [hokk]
 have HG : Hid _ := fun (w : World) (g : Nat) (h : Lines w (some ⟨g, 0, none⟩) [⟨L, true⟩]) => sgoodL w (some ⟨g, 0, none⟩) 1 [⟨L, true⟩] (by simp) (by simp [manyL, hL4]) h
 rw [goodL_one (by omega) hokk] at HG
 clear hrl hokk hz
 unfold rcA
 go_enter Try.func34, Try.ntmps34
 go_wp2_with fail
 refine (HG0.out _).mono ?_
 rintro e w1 ⟨rfl, rfl⟩
 go_wp2_with fail
 refine (HG1.out _).mono ?_
 rintro e w1 ⟨rfl, rfl⟩
 go_wp2_with fail
 refine (HI2.out _).mono ?_
 rintro e w1 ⟨rfl, rfl⟩
 go_wp2_with fail
 refine (HI3.out _).mono ?_
 rintro e w1 ⟨rfl, rfl⟩
 go_wp2_with fail
 refine (HI4.out _).mono ?_
 rintro e w1 ⟨rfl, rfl⟩
 go_wp2_with fail
 have HLb : Hid (LnB (w.heap.size + 1) (((w.alloc (.cells #[.slice none 0 0, .bool false] 55)).alloc (.cells #[.slice (some ⟨w.heap.size + 1 + 1, 0, none⟩) 4 4, .bool true] 55)).alloc (.cells #[.int .i64 x, .int .i64 y, .int .i64 (x + wide), .int .i64 y, .int .i64 (x + wide), .int .i64 (y + high), .int .i64 x, .int .i64 (y + high)] 27)) (.slice (some ⟨w.heap.size + 1 + 1, 0, none⟩) 4 4) L true) :=
  ⟨by simp [World.cell?_alloc_past], by simp [World.cell?_alloc_past], fun o => by
   rw [World.frozen?_of_block (w := (w.alloc (.cells #[.slice none 0 0, .bool false] 55)).alloc (.cells #[.slice (some ⟨w.heap.size + 1 + 1, 0, none⟩) 4 4, .bool true] 55)) (a := ⟨w.heap.size + 1, o, none⟩) (Below.block ((Below.refl (w.heap.size + 1 + 1) _).alloc (by simp) _) _ (by simp))]
   exact World.frozen?_alloc_at _ _ _ _ (by simp), HO.out _ _ (by simp)⟩
 have HLo : Hid _ := lines_oneN _ (.slice (some ⟨w.heap.size + 1 + 1, 0, none⟩) 4 4) true L _ 55 (w.heap.size + 1 + 1 + 1) (by simp) HLb.out.own
 refine Calls.mono (HG.out _ _ HLo.out) ?_
 rintro e w1 ⟨rfl, k1⟩
 have N1 : Hid (Nw (w.alloc (.cells #[.slice none 0 0, .bool false] 55)) w1) := Nw.trans (((Kp.refl _).alloc _ _ |>.alloc _ _ |>.alloc _ _).nw) k1.nw
 have L1 : Hid _ := LnB.nw HLb.out (Nw.trans ((Below.refl _ _).alloc (Nat.le_refl _) _) k1.nw)
 have r0 := L1.out.c0
 have r1 := L1.out.c1
 clear k1 HLo HLb HO
 obtain ⟨z0, z1, zf, hz⟩ := nbox2 w w1 N1.out
 cases ok with
 | false =>
  have e : rl = [] := by rw [← HRL.out, HOK.out]; rfl
  go_wp2
  obtain ⟨y0, y1⟩ := set2 w1 w.heap.size (.slice none 0 0) (.bool false) z0 z1
  refine bodyPost_ret (v := .tuple #[.agg #[.slice none 0 0, .bool false], .bool false]) (by simp [results, Try.results34, go_sem, y0, y1]) rfl ⟨_, rfl, by rw [e]; exact OwnP.nil _ _, ?_⟩
  exact (Below.setCell (nw_box N1.out) (Nat.le_refl _) _).setCell (Nat.le_refl _) _
 | true =>
  have e : rl = L := by rw [← HRL.out, HOK.out]; rfl
  go_wp2
  obtain ⟨y0, y1⟩ := set2 w1 w.heap.size (.slice (some ⟨w.heap.size + 1 + 1, 0, none⟩) 4 4) (.bool true) z0 z1
  have hne : (Value.slice (some ⟨w.heap.size + 1 + 1, 0, none⟩) 4 4).ownBlock ≠ some w.heap.size := fun e => by have := (OwnQ.lt L1.out.own _ e).1; omega
  refine bodyPost_ret (v := .tuple #[.agg #[.slice (some ⟨w.heap.size + 1 + 1, 0, none⟩) 4 4, .bool true], .bool true]) (by simp [results, Try.results34, go_sem, y0, y1]) rfl ⟨_, rfl, ?_, ?_⟩
  ·rw [e]; exact OwnQ.base (OwnQ.far (OwnQ.far L1.out.own _ _ _ hne) _ _ _ hne) (by omega)
  ·exact (Below.setCell (nw_box N1.out) (Nat.le_refl _) _).setCell (Nat.le_refl _) _
set_option maxRecDepth 100000 in
set_option maxHeartbeats 16000000 in
theorem srect_rdA (x y wide high r : Int) (w : World) (hok : okR x y wide high r = true) (hz0 : cutR wide high r ≠ 0) (c1 : wide / 2 < r) (c2 : high / 2 < wide / 2) : Calls Try.prog 34 (rcA x y wide high r) w fun e w' => ∃ v, e = .returned (.tuple #[.agg #[v, .bool (ptsB (qsP x y wide high (cutR wide high r) 4))], .bool (ptsB (qsP x y wide high (cutR wide high r) 4))]) ∧ OwnP w' w.heap.size v (if ptsB (qsP x y wide high (cutR wide high r) 4) = true then qsP x y wide high (cutR wide high r) 4 else []) ∧ Nw w w' := by
 obtain ⟨hf, h2, h3, h4⟩ := okR_all hok
 have hfx : fixB x = true ∧ fixB y = true ∧ fixB wide = true ∧ fixB high = true ∧ fixB r = true := by simpa using hf
 have bx := fixB_iff.1 hfx.1
 have by' := fixB_iff.1 hfx.2.1
 have bw := fixB_iff.1 hfx.2.2.1
 have bh := fixB_iff.1 hfx.2.2.2.1
 have br := fixB_iff.1 hfx.2.2.2.2
 have HG0 : Hid _ := fun w => sgoodF x w
 have HG1 : Hid _ := fun w => sgoodF y w
 have HI2 : Hid _ := fun w => in_any w wide 0 1099511627776
 have HI3 : Hid _ := fun w => in_any w high 0 1099511627776
 have HI4 : Hid _ := fun w => in_any w r 0 1099511627776
 rw [hfx.1] at HG0
 rw [hfx.2.1] at HG1
 rw [decide_eq_true (⟨h2, bw.2⟩ : 0 ≤ wide ∧ wide ≤ 1099511627776)] at HI2
 rw [decide_eq_true (⟨h3, bh.2⟩ : 0 ≤ high ∧ high ≤ 1099511627776)] at HI3
 rw [decide_eq_true (⟨h4, br.2⟩ : 0 ≤ r ∧ r ≤ 1099511627776)] at HI4
 clear hfx hf hok
 have bR := cutR_bd wide high r h2 h3 h4 br.2
 have hR : cutR wide high r = high / 2 := by unfold cutR; omega
 have d1 : decide (wide / 2 < r) = true := decide_eq_true c1
 have d2 : decide (high / 2 < wide / 2) = true := decide_eq_true (by omega)
 clear c1 c2
 rw [hR] at bR hz0 ⊢
 have hR0 : ((high / 2) == 0) = false := by rw [beq_eq_false_iff_ne]; exact hz0
 obtain ⟨Q, hQ⟩ : ∃ Q : Nat → List Pnt, qsP x y wide high (high / 2) = Q := ⟨_, rfl⟩
 have HQ : Hid (qsP x y wide high (high / 2) = Q) := hQ
 rw [hQ]
 obtain ⟨L, hL⟩ : ∃ L, Q 4 = L := ⟨_, rfl⟩
 have HL4 : Hid (Q 4 = L) := hL
 rw [hL]
 have hL4 : L.length = 36 := by rw [← hL, ← hQ, qsP_len]
 obtain ⟨rl, hrl⟩ : ∃ rl, (if ptsB L = true then L else []) = rl := ⟨_, rfl⟩
 have HRL : Hid _ := hrl
 rw [hrl]
 obtain ⟨ok, hokk⟩ : ∃ ok, ptsB L = ok := ⟨_, rfl⟩
 have HOK : Hid _ := hokk
 rw [hokk]
 have HG : Hid _ := fun (w : World) (g : Nat) (h : Lines w (some ⟨g, 0, none⟩) [⟨L, true⟩]) => sgoodL w (some ⟨g, 0, none⟩) 1 [⟨L, true⟩] (by simp) (by simp [manyL, hL4]) h
 rw [goodL_one (by omega) hokk] at HG
 clear hrl hokk hz0 hR hQ hL hL4
 unfold rcA
 go_enter Try.func34, Try.ntmps34
 go_wp2_with fail
 refine (HG0.out _).mono ?_
 rintro e w1 ⟨rfl, rfl⟩
 go_wp2_with fail
 refine (HG1.out _).mono ?_
 rintro e w1 ⟨rfl, rfl⟩
 go_wp2_with fail
 refine (HI2.out _).mono ?_
 rintro e w1 ⟨rfl, rfl⟩
 go_wp2_with fail
 refine (HI3.out _).mono ?_
 rintro e w1 ⟨rfl, rfl⟩
 go_wp2_with fail
 refine (HI4.out _).mono ?_
 rintro e w1 ⟨rfl, rfl⟩
 go_wp2
 go_loopw [115] (fun i wr => ∃ (q : Nat) (v : Value), q ≤ 4 ∧ i = .int .i64 (q : Int) ∧ LnB (w.heap.size + 1) wr v (Q q) true ∧ Below (w.heap.size + 1) (w.alloc (.cells #[.slice none 0 0, .bool false] 55)) wr ∧ LieP wr (w.heap.size + 1 + 1) 0 (midsP x y wide high (high / 2)) ∧ v.ownBlock ≠ some (w.heap.size + 1 + 1)) (fun i _ => 4 - (intOf i).toNat)
 case atStart =>
  have e0 : Q 0 = [] := by rw [← HQ.out]; rfl
  have hl := LnB.new (w.alloc (.cells #[.slice none 0 0, .bool false] 55)) 55 true
  rw [World.size_alloc] at hl
  have hm := liep_four ((w.alloc (.cells #[.slice none 0 0, .bool false] 55)).alloc (.cells #[.slice none 0 0, .bool true] 55)) (x + wide - (high / 2), y + high - (high / 2)) (x + (high / 2), y + high - (high / 2)) (x + (high / 2), y + (high / 2)) (x + wide - (high / 2), y + (high / 2)) 27
  rw [World.size_alloc, World.size_alloc] at hm
  exact ⟨0, _, by omega, rfl, by rw [e0]; exact hl.nw ((Below.refl _ _).alloc (Nat.le_refl _) _), ((Below.refl _ _).alloc (by simp) _).alloc (by simp) _, hm, fun e => by cases e⟩
 case round =>
  obtain ⟨q, v, hq, rfl, hl, hw, hm, hn⟩ := hrel
  by_cases hlt : q < 4
  ·obtain ⟨P, hP⟩ : ∃ P, midP x y wide high (high / 2) q = P := ⟨_, rfl⟩
   have hPb : -4398046511104 ≤ P.1 ∧ P.1 ≤ 4398046511104 ∧ -4398046511104 ≤ P.2 ∧ P.2 ≤ 4398046511104 := by
    rw [← hP]
    rcases (show q = 0 ∨ q = 1 ∨ q = 2 ∨ q = 3 by omega) with rfl | rfl | rfl | rfl <;> (simp only [midP]; omega)
   have hPm : ptAt (midsP x y wide high (high / 2)) q = P := by
    rw [← hP]
    rcases (show q = 0 ∨ q = 1 ∨ q = 2 ∨ q = 3 by omega) with rfl | rfl | rfl | rfl <;> rfl
   have HE : Hid (Q (q + 1) = Q q ++ roundsP P.1 P.2 (high / 2) (high / 2) (q * 8) 9) := by show _ = _; rw [← HQ.out, ← hP]; rfl
   have HLn : Hid ((Q q).length + 20 ≤ 1000000) := by show _ ≤ _; rw [← HQ.out, qsP_len]; omega
   obtain ⟨m0, m1⟩ := hm.2 q (by simpa [midsP] using hlt)
   rw [hPm] at m0 m1
   obtain ⟨px, py⟩ := P
   simp only [Nat.zero_add] at m0 m1 HE hPb
   have HM : Hid _ := hm
   have HL : Hid (LnB (w.heap.size + 1) wr v (Q q) true) := hl
   have HW : Hid (Below (w.heap.size + 1) (w.alloc (.cells #[.slice none 0 0, .bool false] 55)) wr) := hw
   have HN : Hid (v.ownBlock ≠ some (w.heap.size + 1 + 1)) := hn
   have hq4 : decide ((q : Int) < 4) = true := decide_eq_true (by omega)
   clear hl hw hm hn hP hPm
   obtain ⟨W1, hW1⟩ : ∃ W1, wr = W1 := ⟨_, rfl⟩
   rw [hW1] at HM HL HW m0 m1 ⊢
   clear hW1
   go_wp2
   go_loopw [15] (fun i wr => ∃ (k : Nat) (u : Value), k ≤ 9 ∧ i = .int .i64 (k : Int) ∧ LnB (w.heap.size + 1) wr u (Q q ++ roundsP px py (high / 2) (high / 2) (q * 8) k) true ∧ Below (w.heap.size + 1) (w.alloc (.cells #[.slice none 0 0, .bool false] 55)) wr ∧ LieP wr (w.heap.size + 1 + 1) 0 (midsP x y wide high (high / 2)) ∧ u.ownBlock ≠ some (w.heap.size + 1 + 1) ∧ LieP wr W1.heap.size 0 [(px, py)] ∧ u.ownBlock ≠ some W1.heap.size) (fun i _ => 9 - (intOf i).toNat)
   case atStart =>
    have a1 : Nw W1 (W1.alloc (.cells #[.int .i64 px, .int .i64 py] 27)) := (Below.refl _ _).alloc (Nat.le_refl _) _
    exact ⟨0, v, by omega, rfl, by rw [roundsP_zero, List.append_nil]; exact HL.out.nw a1, Below.trans HW.out (a1.below (Nat.le_of_lt HL.out.lt)), LieP.nw HM.out a1, HN.out, liep_one W1 px py _, fun e => by have := (OwnQ.lt HL.out.own _ e).2; omega⟩
   case round =>
    obtain ⟨k, u, hk, rfl, hl, hw, hm, hn, hc, hcn⟩ := hrel
    by_cases hlt2 : k ≤ 8
    ·have HRd : Hid _ := fun w => sround w px py (high / 2) (high / 2) (q * 8 + k) (by omega) hPb.1 hPb.2.1 hPb.2.2.1 hPb.2.2.2
     unfold ptV at HRd
     rw [show ((q * 8 + k : Nat) : Int) = 8 * (q : Int) + (k : Int) by omega] at HRd
     have HE2 : Hid (Q q ++ roundsP px py (high / 2) (high / 2) (q * 8) (k + 1) = (Q q ++ roundsP px py (high / 2) (high / 2) (q * 8) k) ++ [roundP px py (high / 2) (high / 2) (q * 8 + k)]) := by show _ = _; rw [roundsP_succ, List.append_assoc]
     have HLn2 : Hid ((Q q ++ roundsP px py (high / 2) (high / 2) (q * 8) k).length + 1 ≤ 1000000) := by show _ ≤ _; rw [List.length_append, roundsP_len]; have := HLn.out; omega
     generalize roundP px py (high / 2) (high / 2) (q * 8 + k) = P at *
     obtain ⟨tx, ty⟩ := P
     generalize Q q ++ roundsP px py (high / 2) (high / 2) (q * 8) k = lk at *
     obtain ⟨va, vc, hv, _⟩ := hl.own.pts
     generalize lk.length = vn at hv
     subst hv
     have HL2 : Hid (LnB (w.heap.size + 1) wr.drew (.slice va vn vc) lk true) := LnB.nw hl ((Below.refl _ _).drew)
     have HW2 : Hid (Below (w.heap.size + 1) (w.alloc (.cells #[.slice none 0 0, .bool false] 55)) wr.drew) := hw.drew
     have HM2 : Hid (LieP wr.drew (w.heap.size + 1 + 1) 0 (midsP x y wide high (high / 2))) := hm
     have HN2 : Hid ((Value.slice va vn vc).ownBlock ≠ some (w.heap.size + 1 + 1)) := hn
     have HC2 : Hid (LieP wr.drew W1.heap.size 0 [(px, py)]) := hc
     have HD2 : Hid ((Value.slice va vn vc).ownBlock ≠ some W1.heap.size) := hcn
     have q0 : wr.cell? ⟨w.heap.size + 1, 0, none⟩ = some (.slice va vn vc) := hl.c0
     have qb : w.heap.size + 1 < wr.heap.size := hl.lt
     obtain ⟨p0, p1⟩ := hc.at0
     have hwr : IntKind.i64.wrap (8 * (q : Int)) = 8 * (q : Int) := IntWalk.i64_in _ ⟨by omega, by omega⟩
     have hwr2 : IntKind.i64.wrap (8 * (q : Int) + (k : Int)) = 8 * (q : Int) + (k : Int) := IntWalk.i64_in _ ⟨by omega, by omega⟩
     have hbs : Hid (W1.heap.size ≠ w.heap.size + 1) := by show _ ≠ _; have := HL.out.lt; omega
     clear hl hw hm hn hc hcn m0 m1
     go_wp2
     refine reg_change (ops' := opsOf 16 Try.f34) (by kernel_rfl) ?_
     refine AX.run ⟨w.heap.size + 1, W1.heap.size, px, py, (high / 2), (q : Int), (k : Int), tx, ty, va, vn, vc, lk, wr.drew, _⟩ ⟨HL2.out, HC2.out, HLn2.out, hwr, hwr2, HRd.out, rfl, rfl, rfl, rfl, rfl, rfl⟩ wr (Kp.refl _) ?_
     rintro γ w9 ⟨w7, w8, g9, c9, k1, g1, o1, x1, rfl⟩
     simp only at g1 o1 x1 k1 ⊢
     rw [g1] at o1 x1 ⊢
     have HK1 : Hid (Nw wr.drew w7) := k1.nw
     have HP : Hid _ := LnB.put (HL2.out.nw k1.nw) x1 o1
     have HX : Hid _ := x1
     clear o1 x1 k1 g1
     go_wp2
     go_roundw
     case rel => exact ⟨k + 1, _, by omega, by go_num, by rw [HE2.out]; exact HP.out.1, Below.trans HW2.out (Below.trans (HK1.out.below (Nat.le_of_lt HL2.out.lt)) HP.out.2), LieP.put (LieP.nw HM2.out HK1.out) HX.out HN2.out (by omega), Ext.apart HX.out (LieP.nw HM2.out HK1.out).1 HN2.out, LieP.put (LieP.nw HC2.out HK1.out) HX.out HD2.out hbs.out, Ext.apart HX.out (LieP.nw HC2.out HK1.out).1 HD2.out⟩
     case measure => simp [intOf]; omega
    ·obtain rfl : k = 9 := by omega
     have HL2 : Hid _ := hl
     have HW2 : Hid _ := hw
     have HM2 : Hid _ := hm
     have HN2 : Hid _ := hn
     clear hl hw hm hn hc hcn m0 m1
     go_wp2
     go_roundw
     case rel => exact ⟨q + 1, u, by omega, by go_num, by rw [HE.out]; exact HL2.out, HW2.out, HM2.out, HN2.out⟩
     case measure => simp [intOf]; omega
  ·obtain rfl : q = 4 := by omega
   rw [HL4.out] at hl
   have HLo : Hid _ := lines_one wr v true L _ 55 hl.own
   have HN : Hid (Nw (w.alloc (.cells #[.slice none 0 0, .bool false] 55)) wr) := Below.mono hw (by simp)
   obtain ⟨va, vc, hv, _⟩ := hl.own.pts
   have HL : Hid _ := hl
   have q0 := hl.c0
   have q1 := hl.c1
   generalize L.length = vn at hv
   subst hv
   clear hl hw hm hn
   go_wp2_with fail
   refine Calls.mono (HG.out _ _ HLo.out) ?_
   rintro e w1 ⟨rfl, k1⟩
   have N1 : Hid (Nw (w.alloc (.cells #[.slice none 0 0, .bool false] 55)) w1) := Nw.trans HN.out (Nw.trans ((Below.refl _ _).alloc (Nat.le_refl _) _) k1.nw)
   have L1 : Hid _ := LnB.nw HL.out (Nw.trans ((Below.refl _ _).alloc (Nat.le_refl _) _) k1.nw)
   have r0 := L1.out.c0
   have r1 := L1.out.c1
   clear k1 HN HL HLo q0 q1
   obtain ⟨z0, z1, zf, hz⟩ := nbox2 w w1 N1.out
   cases ok with
   | false =>
    have e : rl = [] := by rw [← HRL.out, HOK.out]; rfl
    go_wp2
    obtain ⟨y0, y1⟩ := set2 w1 w.heap.size (.slice none 0 0) (.bool false) z0 z1
    refine bodyPost_ret (v := .tuple #[.agg #[.slice none 0 0, .bool false], .bool false]) (by simp [results, Try.results34, go_sem, y0, y1]) rfl ⟨_, rfl, by rw [e]; exact OwnP.nil _ _, ?_⟩
    exact (Below.setCell (nw_box N1.out) (Nat.le_refl _) _).setCell (Nat.le_refl _) _
   | true =>
    have e : rl = L := by rw [← HRL.out, HOK.out]; rfl
    go_wp2
    obtain ⟨y0, y1⟩ := set2 w1 w.heap.size (.slice va vn vc) (.bool true) z0 z1
    have hne : (Value.slice va vn vc).ownBlock ≠ some w.heap.size := fun e => by have := (OwnQ.lt L1.out.own _ e).1; omega
    refine bodyPost_ret (v := .tuple #[.agg #[.slice va vn vc, .bool true], .bool true]) (by simp [results, Try.results34, go_sem, y0, y1]) rfl ⟨_, rfl, ?_, ?_⟩
    ·rw [e]; exact OwnQ.base (OwnQ.far (OwnQ.far L1.out.own _ _ _ hne) _ _ _ hne) (by omega)
    ·exact (Below.setCell (nw_box N1.out) (Nat.le_refl _) _).setCell (Nat.le_refl _) _
set_option maxHeartbeats 4000000 in
theorem srect_sqB (x y wide high r : Int) (w : World) (hok : okR x y wide high r = true) (hz : cutR wide high r = 0) (c1 : wide / 2 < r) (c2 : ¬ high / 2 < wide / 2) : Calls Try.prog 34 (rcA x y wide high r) w fun e w' => ∃ v, e = .returned (.tuple #[.agg #[v, .bool (ptsB (sqP x y wide high))], .bool (ptsB (sqP x y wide high))]) ∧ OwnP w' w.heap.size v (if ptsB (sqP x y wide high) = true then sqP x y wide high else []) ∧ Nw w w' := by
 obtain ⟨hf, h2, h3, h4⟩ := okR_all hok
 have hfx : fixB x = true ∧ fixB y = true ∧ fixB wide = true ∧ fixB high = true ∧ fixB r = true := by simpa using hf
 have bx := fixB_iff.1 hfx.1
 have by' := fixB_iff.1 hfx.2.1
 have bw := fixB_iff.1 hfx.2.2.1
 have bh := fixB_iff.1 hfx.2.2.2.1
 have br := fixB_iff.1 hfx.2.2.2.2
 have HG0 : Hid _ := fun w => sgoodF x w
 have HG1 : Hid _ := fun w => sgoodF y w
 have HI2 : Hid _ := fun w => in_any w wide 0 1099511627776
 have HI3 : Hid _ := fun w => in_any w high 0 1099511627776
 have HI4 : Hid _ := fun w => in_any w r 0 1099511627776
 rw [hfx.1] at HG0
 rw [hfx.2.1] at HG1
 rw [decide_eq_true (⟨h2, bw.2⟩ : 0 ≤ wide ∧ wide ≤ 1099511627776)] at HI2
 rw [decide_eq_true (⟨h3, bh.2⟩ : 0 ≤ high ∧ high ≤ 1099511627776)] at HI3
 rw [decide_eq_true (⟨h4, br.2⟩ : 0 ≤ r ∧ r ≤ 1099511627776)] at HI4
 clear hfx hf hok
 have hT : wide / 2 = 0 := by unfold cutR at hz; omega
 have HO : Hid (∀ (w : World) (B : Nat), w.heap.size = B → OwnP (w.alloc (.cells #[.int .i64 x, .int .i64 y, .int .i64 (x + wide), .int .i64 y, .int .i64 (x + wide), .int .i64 (y + high), .int .i64 x, .int .i64 (y + high)] 27)) B (.slice (some ⟨B, 0, none⟩) 4 4) (sqP x y wide high)) := fun w B hB => by
  subst hB
  exact World.ownsRow_lit w #[.int .i64 x, .int .i64 y, .int .i64 (x + wide), .int .i64 y, .int .i64 (x + wide), .int .i64 (y + high), .int .i64 x, .int .i64 (y + high)] 4 (Nat.le_refl _) (by unfold maxLen; omega) rfl
 obtain ⟨L, hL⟩ : ∃ L, sqP x y wide high = L := ⟨_, rfl⟩
 have hL4 : L.length = 4 := by rw [← hL]; rfl
 rw [hL] at HO ⊢
 clear hL
 obtain ⟨rl, hrl⟩ : ∃ rl, (if ptsB L = true then L else []) = rl := ⟨_, rfl⟩
 have HRL : Hid _ := hrl
 rw [hrl]
 obtain ⟨ok, hokk⟩ : ∃ ok, ptsB L = ok := ⟨_, rfl⟩
 have HOK : Hid _ := hokk
 rw [hokk]
 have HG : Hid _ := fun (w : World) (g : Nat) (h : Lines w (some ⟨g, 0, none⟩) [⟨L, true⟩]) => sgoodL w (some ⟨g, 0, none⟩) 1 [⟨L, true⟩] (by simp) (by simp [manyL, hL4]) h
 rw [goodL_one (by omega) hokk] at HG
 clear hrl hokk hz
 unfold rcA
 go_enter Try.func34, Try.ntmps34
 go_wp2_with fail
 refine (HG0.out _).mono ?_
 rintro e w1 ⟨rfl, rfl⟩
 go_wp2_with fail
 refine (HG1.out _).mono ?_
 rintro e w1 ⟨rfl, rfl⟩
 go_wp2_with fail
 refine (HI2.out _).mono ?_
 rintro e w1 ⟨rfl, rfl⟩
 go_wp2_with fail
 refine (HI3.out _).mono ?_
 rintro e w1 ⟨rfl, rfl⟩
 go_wp2_with fail
 refine (HI4.out _).mono ?_
 rintro e w1 ⟨rfl, rfl⟩
 go_wp2_with fail
 have HLb : Hid (LnB (w.heap.size + 1) (((w.alloc (.cells #[.slice none 0 0, .bool false] 55)).alloc (.cells #[.slice (some ⟨w.heap.size + 1 + 1, 0, none⟩) 4 4, .bool true] 55)).alloc (.cells #[.int .i64 x, .int .i64 y, .int .i64 (x + wide), .int .i64 y, .int .i64 (x + wide), .int .i64 (y + high), .int .i64 x, .int .i64 (y + high)] 27)) (.slice (some ⟨w.heap.size + 1 + 1, 0, none⟩) 4 4) L true) :=
  ⟨by simp [World.cell?_alloc_past], by simp [World.cell?_alloc_past], fun o => by
   rw [World.frozen?_of_block (w := (w.alloc (.cells #[.slice none 0 0, .bool false] 55)).alloc (.cells #[.slice (some ⟨w.heap.size + 1 + 1, 0, none⟩) 4 4, .bool true] 55)) (a := ⟨w.heap.size + 1, o, none⟩) (Below.block ((Below.refl (w.heap.size + 1 + 1) _).alloc (by simp) _) _ (by simp))]
   exact World.frozen?_alloc_at _ _ _ _ (by simp), HO.out _ _ (by simp)⟩
 have HLo : Hid _ := lines_oneN _ (.slice (some ⟨w.heap.size + 1 + 1, 0, none⟩) 4 4) true L _ 55 (w.heap.size + 1 + 1 + 1) (by simp) HLb.out.own
 refine Calls.mono (HG.out _ _ HLo.out) ?_
 rintro e w1 ⟨rfl, k1⟩
 have N1 : Hid (Nw (w.alloc (.cells #[.slice none 0 0, .bool false] 55)) w1) := Nw.trans (((Kp.refl _).alloc _ _ |>.alloc _ _ |>.alloc _ _).nw) k1.nw
 have L1 : Hid _ := LnB.nw HLb.out (Nw.trans ((Below.refl _ _).alloc (Nat.le_refl _) _) k1.nw)
 have r0 := L1.out.c0
 have r1 := L1.out.c1
 clear k1 HLo HLb HO
 obtain ⟨z0, z1, zf, hz⟩ := nbox2 w w1 N1.out
 cases ok with
 | false =>
  have e : rl = [] := by rw [← HRL.out, HOK.out]; rfl
  go_wp2
  obtain ⟨y0, y1⟩ := set2 w1 w.heap.size (.slice none 0 0) (.bool false) z0 z1
  refine bodyPost_ret (v := .tuple #[.agg #[.slice none 0 0, .bool false], .bool false]) (by simp [results, Try.results34, go_sem, y0, y1]) rfl ⟨_, rfl, by rw [e]; exact OwnP.nil _ _, ?_⟩
  exact (Below.setCell (nw_box N1.out) (Nat.le_refl _) _).setCell (Nat.le_refl _) _
 | true =>
  have e : rl = L := by rw [← HRL.out, HOK.out]; rfl
  go_wp2
  obtain ⟨y0, y1⟩ := set2 w1 w.heap.size (.slice (some ⟨w.heap.size + 1 + 1, 0, none⟩) 4 4) (.bool true) z0 z1
  have hne : (Value.slice (some ⟨w.heap.size + 1 + 1, 0, none⟩) 4 4).ownBlock ≠ some w.heap.size := fun e => by have := (OwnQ.lt L1.out.own _ e).1; omega
  refine bodyPost_ret (v := .tuple #[.agg #[.slice (some ⟨w.heap.size + 1 + 1, 0, none⟩) 4 4, .bool true], .bool true]) (by simp [results, Try.results34, go_sem, y0, y1]) rfl ⟨_, rfl, ?_, ?_⟩
  ·rw [e]; exact OwnQ.base (OwnQ.far (OwnQ.far L1.out.own _ _ _ hne) _ _ _ hne) (by omega)
  ·exact (Below.setCell (nw_box N1.out) (Nat.le_refl _) _).setCell (Nat.le_refl _) _
set_option maxRecDepth 100000 in
set_option maxHeartbeats 16000000 in
theorem srect_rdB (x y wide high r : Int) (w : World) (hok : okR x y wide high r = true) (hz0 : cutR wide high r ≠ 0) (c1 : wide / 2 < r) (c2 : ¬ high / 2 < wide / 2) : Calls Try.prog 34 (rcA x y wide high r) w fun e w' => ∃ v, e = .returned (.tuple #[.agg #[v, .bool (ptsB (qsP x y wide high (cutR wide high r) 4))], .bool (ptsB (qsP x y wide high (cutR wide high r) 4))]) ∧ OwnP w' w.heap.size v (if ptsB (qsP x y wide high (cutR wide high r) 4) = true then qsP x y wide high (cutR wide high r) 4 else []) ∧ Nw w w' := by
 obtain ⟨hf, h2, h3, h4⟩ := okR_all hok
 have hfx : fixB x = true ∧ fixB y = true ∧ fixB wide = true ∧ fixB high = true ∧ fixB r = true := by simpa using hf
 have bx := fixB_iff.1 hfx.1
 have by' := fixB_iff.1 hfx.2.1
 have bw := fixB_iff.1 hfx.2.2.1
 have bh := fixB_iff.1 hfx.2.2.2.1
 have br := fixB_iff.1 hfx.2.2.2.2
 have HG0 : Hid _ := fun w => sgoodF x w
 have HG1 : Hid _ := fun w => sgoodF y w
 have HI2 : Hid _ := fun w => in_any w wide 0 1099511627776
 have HI3 : Hid _ := fun w => in_any w high 0 1099511627776
 have HI4 : Hid _ := fun w => in_any w r 0 1099511627776
 rw [hfx.1] at HG0
 rw [hfx.2.1] at HG1
 rw [decide_eq_true (⟨h2, bw.2⟩ : 0 ≤ wide ∧ wide ≤ 1099511627776)] at HI2
 rw [decide_eq_true (⟨h3, bh.2⟩ : 0 ≤ high ∧ high ≤ 1099511627776)] at HI3
 rw [decide_eq_true (⟨h4, br.2⟩ : 0 ≤ r ∧ r ≤ 1099511627776)] at HI4
 clear hfx hf hok
 have bR := cutR_bd wide high r h2 h3 h4 br.2
 have hR : cutR wide high r = wide / 2 := by unfold cutR; omega
 have d1 : decide (wide / 2 < r) = true := decide_eq_true (by omega)
 have d2 : decide (high / 2 < wide / 2) = false := decide_eq_false (by omega)
 clear c1 c2
 rw [hR] at bR hz0 ⊢
 have hR0 : ((wide / 2) == 0) = false := by rw [beq_eq_false_iff_ne]; exact hz0
 obtain ⟨Q, hQ⟩ : ∃ Q : Nat → List Pnt, qsP x y wide high (wide / 2) = Q := ⟨_, rfl⟩
 have HQ : Hid (qsP x y wide high (wide / 2) = Q) := hQ
 rw [hQ]
 obtain ⟨L, hL⟩ : ∃ L, Q 4 = L := ⟨_, rfl⟩
 have HL4 : Hid (Q 4 = L) := hL
 rw [hL]
 have hL4 : L.length = 36 := by rw [← hL, ← hQ, qsP_len]
 obtain ⟨rl, hrl⟩ : ∃ rl, (if ptsB L = true then L else []) = rl := ⟨_, rfl⟩
 have HRL : Hid _ := hrl
 rw [hrl]
 obtain ⟨ok, hokk⟩ : ∃ ok, ptsB L = ok := ⟨_, rfl⟩
 have HOK : Hid _ := hokk
 rw [hokk]
 have HG : Hid _ := fun (w : World) (g : Nat) (h : Lines w (some ⟨g, 0, none⟩) [⟨L, true⟩]) => sgoodL w (some ⟨g, 0, none⟩) 1 [⟨L, true⟩] (by simp) (by simp [manyL, hL4]) h
 rw [goodL_one (by omega) hokk] at HG
 clear hrl hokk hz0 hR hQ hL hL4
 unfold rcA
 go_enter Try.func34, Try.ntmps34
 go_wp2_with fail
 refine (HG0.out _).mono ?_
 rintro e w1 ⟨rfl, rfl⟩
 go_wp2_with fail
 refine (HG1.out _).mono ?_
 rintro e w1 ⟨rfl, rfl⟩
 go_wp2_with fail
 refine (HI2.out _).mono ?_
 rintro e w1 ⟨rfl, rfl⟩
 go_wp2_with fail
 refine (HI3.out _).mono ?_
 rintro e w1 ⟨rfl, rfl⟩
 go_wp2_with fail
 refine (HI4.out _).mono ?_
 rintro e w1 ⟨rfl, rfl⟩
 go_wp2
 go_loopw [115] (fun i wr => ∃ (q : Nat) (v : Value), q ≤ 4 ∧ i = .int .i64 (q : Int) ∧ LnB (w.heap.size + 1) wr v (Q q) true ∧ Below (w.heap.size + 1) (w.alloc (.cells #[.slice none 0 0, .bool false] 55)) wr ∧ LieP wr (w.heap.size + 1 + 1) 0 (midsP x y wide high (wide / 2)) ∧ v.ownBlock ≠ some (w.heap.size + 1 + 1)) (fun i _ => 4 - (intOf i).toNat)
 case atStart =>
  have e0 : Q 0 = [] := by rw [← HQ.out]; rfl
  have hl := LnB.new (w.alloc (.cells #[.slice none 0 0, .bool false] 55)) 55 true
  rw [World.size_alloc] at hl
  have hm := liep_four ((w.alloc (.cells #[.slice none 0 0, .bool false] 55)).alloc (.cells #[.slice none 0 0, .bool true] 55)) (x + wide - (wide / 2), y + high - (wide / 2)) (x + (wide / 2), y + high - (wide / 2)) (x + (wide / 2), y + (wide / 2)) (x + wide - (wide / 2), y + (wide / 2)) 27
  rw [World.size_alloc, World.size_alloc] at hm
  exact ⟨0, _, by omega, rfl, by rw [e0]; exact hl.nw ((Below.refl _ _).alloc (Nat.le_refl _) _), ((Below.refl _ _).alloc (by simp) _).alloc (by simp) _, hm, fun e => by cases e⟩
 case round =>
  obtain ⟨q, v, hq, rfl, hl, hw, hm, hn⟩ := hrel
  by_cases hlt : q < 4
  ·obtain ⟨P, hP⟩ : ∃ P, midP x y wide high (wide / 2) q = P := ⟨_, rfl⟩
   have hPb : -4398046511104 ≤ P.1 ∧ P.1 ≤ 4398046511104 ∧ -4398046511104 ≤ P.2 ∧ P.2 ≤ 4398046511104 := by
    rw [← hP]
    rcases (show q = 0 ∨ q = 1 ∨ q = 2 ∨ q = 3 by omega) with rfl | rfl | rfl | rfl <;> (simp only [midP]; omega)
   have hPm : ptAt (midsP x y wide high (wide / 2)) q = P := by
    rw [← hP]
    rcases (show q = 0 ∨ q = 1 ∨ q = 2 ∨ q = 3 by omega) with rfl | rfl | rfl | rfl <;> rfl
   have HE : Hid (Q (q + 1) = Q q ++ roundsP P.1 P.2 (wide / 2) (wide / 2) (q * 8) 9) := by show _ = _; rw [← HQ.out, ← hP]; rfl
   have HLn : Hid ((Q q).length + 20 ≤ 1000000) := by show _ ≤ _; rw [← HQ.out, qsP_len]; omega
   obtain ⟨m0, m1⟩ := hm.2 q (by simpa [midsP] using hlt)
   rw [hPm] at m0 m1
   obtain ⟨px, py⟩ := P
   simp only [Nat.zero_add] at m0 m1 HE hPb
   have HM : Hid _ := hm
   have HL : Hid (LnB (w.heap.size + 1) wr v (Q q) true) := hl
   have HW : Hid (Below (w.heap.size + 1) (w.alloc (.cells #[.slice none 0 0, .bool false] 55)) wr) := hw
   have HN : Hid (v.ownBlock ≠ some (w.heap.size + 1 + 1)) := hn
   have hq4 : decide ((q : Int) < 4) = true := decide_eq_true (by omega)
   clear hl hw hm hn hP hPm
   obtain ⟨W1, hW1⟩ : ∃ W1, wr = W1 := ⟨_, rfl⟩
   rw [hW1] at HM HL HW m0 m1 ⊢
   clear hW1
   go_wp2
   go_loopw [15] (fun i wr => ∃ (k : Nat) (u : Value), k ≤ 9 ∧ i = .int .i64 (k : Int) ∧ LnB (w.heap.size + 1) wr u (Q q ++ roundsP px py (wide / 2) (wide / 2) (q * 8) k) true ∧ Below (w.heap.size + 1) (w.alloc (.cells #[.slice none 0 0, .bool false] 55)) wr ∧ LieP wr (w.heap.size + 1 + 1) 0 (midsP x y wide high (wide / 2)) ∧ u.ownBlock ≠ some (w.heap.size + 1 + 1) ∧ LieP wr W1.heap.size 0 [(px, py)] ∧ u.ownBlock ≠ some W1.heap.size) (fun i _ => 9 - (intOf i).toNat)
   case atStart =>
    have a1 : Nw W1 (W1.alloc (.cells #[.int .i64 px, .int .i64 py] 27)) := (Below.refl _ _).alloc (Nat.le_refl _) _
    exact ⟨0, v, by omega, rfl, by rw [roundsP_zero, List.append_nil]; exact HL.out.nw a1, Below.trans HW.out (a1.below (Nat.le_of_lt HL.out.lt)), LieP.nw HM.out a1, HN.out, liep_one W1 px py _, fun e => by have := (OwnQ.lt HL.out.own _ e).2; omega⟩
   case round =>
    obtain ⟨k, u, hk, rfl, hl, hw, hm, hn, hc, hcn⟩ := hrel
    by_cases hlt2 : k ≤ 8
    ·have HRd : Hid _ := fun w => sround w px py (wide / 2) (wide / 2) (q * 8 + k) (by omega) hPb.1 hPb.2.1 hPb.2.2.1 hPb.2.2.2
     unfold ptV at HRd
     rw [show ((q * 8 + k : Nat) : Int) = 8 * (q : Int) + (k : Int) by omega] at HRd
     have HE2 : Hid (Q q ++ roundsP px py (wide / 2) (wide / 2) (q * 8) (k + 1) = (Q q ++ roundsP px py (wide / 2) (wide / 2) (q * 8) k) ++ [roundP px py (wide / 2) (wide / 2) (q * 8 + k)]) := by show _ = _; rw [roundsP_succ, List.append_assoc]
     have HLn2 : Hid ((Q q ++ roundsP px py (wide / 2) (wide / 2) (q * 8) k).length + 1 ≤ 1000000) := by show _ ≤ _; rw [List.length_append, roundsP_len]; have := HLn.out; omega
     generalize roundP px py (wide / 2) (wide / 2) (q * 8 + k) = P at *
     obtain ⟨tx, ty⟩ := P
     generalize Q q ++ roundsP px py (wide / 2) (wide / 2) (q * 8) k = lk at *
     obtain ⟨va, vc, hv, _⟩ := hl.own.pts
     generalize lk.length = vn at hv
     subst hv
     have HL2 : Hid (LnB (w.heap.size + 1) wr.drew (.slice va vn vc) lk true) := LnB.nw hl ((Below.refl _ _).drew)
     have HW2 : Hid (Below (w.heap.size + 1) (w.alloc (.cells #[.slice none 0 0, .bool false] 55)) wr.drew) := hw.drew
     have HM2 : Hid (LieP wr.drew (w.heap.size + 1 + 1) 0 (midsP x y wide high (wide / 2))) := hm
     have HN2 : Hid ((Value.slice va vn vc).ownBlock ≠ some (w.heap.size + 1 + 1)) := hn
     have HC2 : Hid (LieP wr.drew W1.heap.size 0 [(px, py)]) := hc
     have HD2 : Hid ((Value.slice va vn vc).ownBlock ≠ some W1.heap.size) := hcn
     have q0 : wr.cell? ⟨w.heap.size + 1, 0, none⟩ = some (.slice va vn vc) := hl.c0
     have qb : w.heap.size + 1 < wr.heap.size := hl.lt
     obtain ⟨p0, p1⟩ := hc.at0
     have hwr : IntKind.i64.wrap (8 * (q : Int)) = 8 * (q : Int) := IntWalk.i64_in _ ⟨by omega, by omega⟩
     have hwr2 : IntKind.i64.wrap (8 * (q : Int) + (k : Int)) = 8 * (q : Int) + (k : Int) := IntWalk.i64_in _ ⟨by omega, by omega⟩
     have hbs : Hid (W1.heap.size ≠ w.heap.size + 1) := by show _ ≠ _; have := HL.out.lt; omega
     clear hl hw hm hn hc hcn m0 m1
     go_wp2
     refine reg_change (ops' := opsOf 16 Try.f34) (by kernel_rfl) ?_
     refine AX.run ⟨w.heap.size + 1, W1.heap.size, px, py, (wide / 2), (q : Int), (k : Int), tx, ty, va, vn, vc, lk, wr.drew, _⟩ ⟨HL2.out, HC2.out, HLn2.out, hwr, hwr2, HRd.out, rfl, rfl, rfl, rfl, rfl, rfl⟩ wr (Kp.refl _) ?_
     rintro γ w9 ⟨w7, w8, g9, c9, k1, g1, o1, x1, rfl⟩
     simp only at g1 o1 x1 k1 ⊢
     rw [g1] at o1 x1 ⊢
     have HK1 : Hid (Nw wr.drew w7) := k1.nw
     have HP : Hid _ := LnB.put (HL2.out.nw k1.nw) x1 o1
     have HX : Hid _ := x1
     clear o1 x1 k1 g1
     go_wp2
     go_roundw
     case rel => exact ⟨k + 1, _, by omega, by go_num, by rw [HE2.out]; exact HP.out.1, Below.trans HW2.out (Below.trans (HK1.out.below (Nat.le_of_lt HL2.out.lt)) HP.out.2), LieP.put (LieP.nw HM2.out HK1.out) HX.out HN2.out (by omega), Ext.apart HX.out (LieP.nw HM2.out HK1.out).1 HN2.out, LieP.put (LieP.nw HC2.out HK1.out) HX.out HD2.out hbs.out, Ext.apart HX.out (LieP.nw HC2.out HK1.out).1 HD2.out⟩
     case measure => simp [intOf]; omega
    ·obtain rfl : k = 9 := by omega
     have HL2 : Hid _ := hl
     have HW2 : Hid _ := hw
     have HM2 : Hid _ := hm
     have HN2 : Hid _ := hn
     clear hl hw hm hn hc hcn m0 m1
     go_wp2
     go_roundw
     case rel => exact ⟨q + 1, u, by omega, by go_num, by rw [HE.out]; exact HL2.out, HW2.out, HM2.out, HN2.out⟩
     case measure => simp [intOf]; omega
  ·obtain rfl : q = 4 := by omega
   rw [HL4.out] at hl
   have HLo : Hid _ := lines_one wr v true L _ 55 hl.own
   have HN : Hid (Nw (w.alloc (.cells #[.slice none 0 0, .bool false] 55)) wr) := Below.mono hw (by simp)
   obtain ⟨va, vc, hv, _⟩ := hl.own.pts
   have HL : Hid _ := hl
   have q0 := hl.c0
   have q1 := hl.c1
   generalize L.length = vn at hv
   subst hv
   clear hl hw hm hn
   go_wp2_with fail
   refine Calls.mono (HG.out _ _ HLo.out) ?_
   rintro e w1 ⟨rfl, k1⟩
   have N1 : Hid (Nw (w.alloc (.cells #[.slice none 0 0, .bool false] 55)) w1) := Nw.trans HN.out (Nw.trans ((Below.refl _ _).alloc (Nat.le_refl _) _) k1.nw)
   have L1 : Hid _ := LnB.nw HL.out (Nw.trans ((Below.refl _ _).alloc (Nat.le_refl _) _) k1.nw)
   have r0 := L1.out.c0
   have r1 := L1.out.c1
   clear k1 HN HL HLo q0 q1
   obtain ⟨z0, z1, zf, hz⟩ := nbox2 w w1 N1.out
   cases ok with
   | false =>
    have e : rl = [] := by rw [← HRL.out, HOK.out]; rfl
    go_wp2
    obtain ⟨y0, y1⟩ := set2 w1 w.heap.size (.slice none 0 0) (.bool false) z0 z1
    refine bodyPost_ret (v := .tuple #[.agg #[.slice none 0 0, .bool false], .bool false]) (by simp [results, Try.results34, go_sem, y0, y1]) rfl ⟨_, rfl, by rw [e]; exact OwnP.nil _ _, ?_⟩
    exact (Below.setCell (nw_box N1.out) (Nat.le_refl _) _).setCell (Nat.le_refl _) _
   | true =>
    have e : rl = L := by rw [← HRL.out, HOK.out]; rfl
    go_wp2
    obtain ⟨y0, y1⟩ := set2 w1 w.heap.size (.slice va vn vc) (.bool true) z0 z1
    have hne : (Value.slice va vn vc).ownBlock ≠ some w.heap.size := fun e => by have := (OwnQ.lt L1.out.own _ e).1; omega
    refine bodyPost_ret (v := .tuple #[.agg #[.slice va vn vc, .bool true], .bool true]) (by simp [results, Try.results34, go_sem, y0, y1]) rfl ⟨_, rfl, ?_, ?_⟩
    ·rw [e]; exact OwnQ.base (OwnQ.far (OwnQ.far L1.out.own _ _ _ hne) _ _ _ hne) (by omega)
    ·exact (Below.setCell (nw_box N1.out) (Nat.le_refl _) _).setCell (Nat.le_refl _) _
set_option maxHeartbeats 4000000 in
theorem srect_sqC (x y wide high r : Int) (w : World) (hok : okR x y wide high r = true) (hz : cutR wide high r = 0) (c1 : ¬ wide / 2 < r) (c2 : high / 2 < r) : Calls Try.prog 34 (rcA x y wide high r) w fun e w' => ∃ v, e = .returned (.tuple #[.agg #[v, .bool (ptsB (sqP x y wide high))], .bool (ptsB (sqP x y wide high))]) ∧ OwnP w' w.heap.size v (if ptsB (sqP x y wide high) = true then sqP x y wide high else []) ∧ Nw w w' := by
 obtain ⟨hf, h2, h3, h4⟩ := okR_all hok
 have hfx : fixB x = true ∧ fixB y = true ∧ fixB wide = true ∧ fixB high = true ∧ fixB r = true := by simpa using hf
 have bx := fixB_iff.1 hfx.1
 have by' := fixB_iff.1 hfx.2.1
 have bw := fixB_iff.1 hfx.2.2.1
 have bh := fixB_iff.1 hfx.2.2.2.1
 have br := fixB_iff.1 hfx.2.2.2.2
 have HG0 : Hid _ := fun w => sgoodF x w
 have HG1 : Hid _ := fun w => sgoodF y w
 have HI2 : Hid _ := fun w => in_any w wide 0 1099511627776
 have HI3 : Hid _ := fun w => in_any w high 0 1099511627776
 have HI4 : Hid _ := fun w => in_any w r 0 1099511627776
 rw [hfx.1] at HG0
 rw [hfx.2.1] at HG1
 rw [decide_eq_true (⟨h2, bw.2⟩ : 0 ≤ wide ∧ wide ≤ 1099511627776)] at HI2
 rw [decide_eq_true (⟨h3, bh.2⟩ : 0 ≤ high ∧ high ≤ 1099511627776)] at HI3
 rw [decide_eq_true (⟨h4, br.2⟩ : 0 ≤ r ∧ r ≤ 1099511627776)] at HI4
 clear hfx hf hok
 have hT : high / 2 = 0 := by unfold cutR at hz; omega
 have HO : Hid (∀ (w : World) (B : Nat), w.heap.size = B → OwnP (w.alloc (.cells #[.int .i64 x, .int .i64 y, .int .i64 (x + wide), .int .i64 y, .int .i64 (x + wide), .int .i64 (y + high), .int .i64 x, .int .i64 (y + high)] 27)) B (.slice (some ⟨B, 0, none⟩) 4 4) (sqP x y wide high)) := fun w B hB => by
  subst hB
  exact World.ownsRow_lit w #[.int .i64 x, .int .i64 y, .int .i64 (x + wide), .int .i64 y, .int .i64 (x + wide), .int .i64 (y + high), .int .i64 x, .int .i64 (y + high)] 4 (Nat.le_refl _) (by unfold maxLen; omega) rfl
 obtain ⟨L, hL⟩ : ∃ L, sqP x y wide high = L := ⟨_, rfl⟩
 have hL4 : L.length = 4 := by rw [← hL]; rfl
 rw [hL] at HO ⊢
 clear hL
 obtain ⟨rl, hrl⟩ : ∃ rl, (if ptsB L = true then L else []) = rl := ⟨_, rfl⟩
 have HRL : Hid _ := hrl
 rw [hrl]
 obtain ⟨ok, hokk⟩ : ∃ ok, ptsB L = ok := ⟨_, rfl⟩
 have HOK : Hid _ := hokk
 rw [hokk]
 have HG : Hid _ := fun (w : World) (g : Nat) (h : Lines w (some ⟨g, 0, none⟩) [⟨L, true⟩]) => sgoodL w (some ⟨g, 0, none⟩) 1 [⟨L, true⟩] (by simp) (by simp [manyL, hL4]) h
 rw [goodL_one (by omega) hokk] at HG
 clear hrl hokk hz
 unfold rcA
 go_enter Try.func34, Try.ntmps34
 go_wp2_with fail
 refine (HG0.out _).mono ?_
 rintro e w1 ⟨rfl, rfl⟩
 go_wp2_with fail
 refine (HG1.out _).mono ?_
 rintro e w1 ⟨rfl, rfl⟩
 go_wp2_with fail
 refine (HI2.out _).mono ?_
 rintro e w1 ⟨rfl, rfl⟩
 go_wp2_with fail
 refine (HI3.out _).mono ?_
 rintro e w1 ⟨rfl, rfl⟩
 go_wp2_with fail
 refine (HI4.out _).mono ?_
 rintro e w1 ⟨rfl, rfl⟩
 go_wp2_with fail
 have HLb : Hid (LnB (w.heap.size + 1) (((w.alloc (.cells #[.slice none 0 0, .bool false] 55)).alloc (.cells #[.slice (some ⟨w.heap.size + 1 + 1, 0, none⟩) 4 4, .bool true] 55)).alloc (.cells #[.int .i64 x, .int .i64 y, .int .i64 (x + wide), .int .i64 y, .int .i64 (x + wide), .int .i64 (y + high), .int .i64 x, .int .i64 (y + high)] 27)) (.slice (some ⟨w.heap.size + 1 + 1, 0, none⟩) 4 4) L true) :=
  ⟨by simp [World.cell?_alloc_past], by simp [World.cell?_alloc_past], fun o => by
   rw [World.frozen?_of_block (w := (w.alloc (.cells #[.slice none 0 0, .bool false] 55)).alloc (.cells #[.slice (some ⟨w.heap.size + 1 + 1, 0, none⟩) 4 4, .bool true] 55)) (a := ⟨w.heap.size + 1, o, none⟩) (Below.block ((Below.refl (w.heap.size + 1 + 1) _).alloc (by simp) _) _ (by simp))]
   exact World.frozen?_alloc_at _ _ _ _ (by simp), HO.out _ _ (by simp)⟩
 have HLo : Hid _ := lines_oneN _ (.slice (some ⟨w.heap.size + 1 + 1, 0, none⟩) 4 4) true L _ 55 (w.heap.size + 1 + 1 + 1) (by simp) HLb.out.own
 refine Calls.mono (HG.out _ _ HLo.out) ?_
 rintro e w1 ⟨rfl, k1⟩
 have N1 : Hid (Nw (w.alloc (.cells #[.slice none 0 0, .bool false] 55)) w1) := Nw.trans (((Kp.refl _).alloc _ _ |>.alloc _ _ |>.alloc _ _).nw) k1.nw
 have L1 : Hid _ := LnB.nw HLb.out (Nw.trans ((Below.refl _ _).alloc (Nat.le_refl _) _) k1.nw)
 have r0 := L1.out.c0
 have r1 := L1.out.c1
 clear k1 HLo HLb HO
 obtain ⟨z0, z1, zf, hz⟩ := nbox2 w w1 N1.out
 cases ok with
 | false =>
  have e : rl = [] := by rw [← HRL.out, HOK.out]; rfl
  go_wp2
  obtain ⟨y0, y1⟩ := set2 w1 w.heap.size (.slice none 0 0) (.bool false) z0 z1
  refine bodyPost_ret (v := .tuple #[.agg #[.slice none 0 0, .bool false], .bool false]) (by simp [results, Try.results34, go_sem, y0, y1]) rfl ⟨_, rfl, by rw [e]; exact OwnP.nil _ _, ?_⟩
  exact (Below.setCell (nw_box N1.out) (Nat.le_refl _) _).setCell (Nat.le_refl _) _
 | true =>
  have e : rl = L := by rw [← HRL.out, HOK.out]; rfl
  go_wp2
  obtain ⟨y0, y1⟩ := set2 w1 w.heap.size (.slice (some ⟨w.heap.size + 1 + 1, 0, none⟩) 4 4) (.bool true) z0 z1
  have hne : (Value.slice (some ⟨w.heap.size + 1 + 1, 0, none⟩) 4 4).ownBlock ≠ some w.heap.size := fun e => by have := (OwnQ.lt L1.out.own _ e).1; omega
  refine bodyPost_ret (v := .tuple #[.agg #[.slice (some ⟨w.heap.size + 1 + 1, 0, none⟩) 4 4, .bool true], .bool true]) (by simp [results, Try.results34, go_sem, y0, y1]) rfl ⟨_, rfl, ?_, ?_⟩
  ·rw [e]; exact OwnQ.base (OwnQ.far (OwnQ.far L1.out.own _ _ _ hne) _ _ _ hne) (by omega)
  ·exact (Below.setCell (nw_box N1.out) (Nat.le_refl _) _).setCell (Nat.le_refl _) _
set_option maxRecDepth 100000 in
set_option maxHeartbeats 16000000 in
theorem srect_rdC (x y wide high r : Int) (w : World) (hok : okR x y wide high r = true) (hz0 : cutR wide high r ≠ 0) (c1 : ¬ wide / 2 < r) (c2 : high / 2 < r) : Calls Try.prog 34 (rcA x y wide high r) w fun e w' => ∃ v, e = .returned (.tuple #[.agg #[v, .bool (ptsB (qsP x y wide high (cutR wide high r) 4))], .bool (ptsB (qsP x y wide high (cutR wide high r) 4))]) ∧ OwnP w' w.heap.size v (if ptsB (qsP x y wide high (cutR wide high r) 4) = true then qsP x y wide high (cutR wide high r) 4 else []) ∧ Nw w w' := by
 obtain ⟨hf, h2, h3, h4⟩ := okR_all hok
 have hfx : fixB x = true ∧ fixB y = true ∧ fixB wide = true ∧ fixB high = true ∧ fixB r = true := by simpa using hf
 have bx := fixB_iff.1 hfx.1
 have by' := fixB_iff.1 hfx.2.1
 have bw := fixB_iff.1 hfx.2.2.1
 have bh := fixB_iff.1 hfx.2.2.2.1
 have br := fixB_iff.1 hfx.2.2.2.2
 have HG0 : Hid _ := fun w => sgoodF x w
 have HG1 : Hid _ := fun w => sgoodF y w
 have HI2 : Hid _ := fun w => in_any w wide 0 1099511627776
 have HI3 : Hid _ := fun w => in_any w high 0 1099511627776
 have HI4 : Hid _ := fun w => in_any w r 0 1099511627776
 rw [hfx.1] at HG0
 rw [hfx.2.1] at HG1
 rw [decide_eq_true (⟨h2, bw.2⟩ : 0 ≤ wide ∧ wide ≤ 1099511627776)] at HI2
 rw [decide_eq_true (⟨h3, bh.2⟩ : 0 ≤ high ∧ high ≤ 1099511627776)] at HI3
 rw [decide_eq_true (⟨h4, br.2⟩ : 0 ≤ r ∧ r ≤ 1099511627776)] at HI4
 clear hfx hf hok
 have bR := cutR_bd wide high r h2 h3 h4 br.2
 have hR : cutR wide high r = high / 2 := by unfold cutR; omega
 have d1 : decide (wide / 2 < r) = false := decide_eq_false c1
 have d2 : decide (high / 2 < r) = true := decide_eq_true (by omega)
 clear c1 c2
 rw [hR] at bR hz0 ⊢
 have hR0 : ((high / 2) == 0) = false := by rw [beq_eq_false_iff_ne]; exact hz0
 obtain ⟨Q, hQ⟩ : ∃ Q : Nat → List Pnt, qsP x y wide high (high / 2) = Q := ⟨_, rfl⟩
 have HQ : Hid (qsP x y wide high (high / 2) = Q) := hQ
 rw [hQ]
 obtain ⟨L, hL⟩ : ∃ L, Q 4 = L := ⟨_, rfl⟩
 have HL4 : Hid (Q 4 = L) := hL
 rw [hL]
 have hL4 : L.length = 36 := by rw [← hL, ← hQ, qsP_len]
 obtain ⟨rl, hrl⟩ : ∃ rl, (if ptsB L = true then L else []) = rl := ⟨_, rfl⟩
 have HRL : Hid _ := hrl
 rw [hrl]
 obtain ⟨ok, hokk⟩ : ∃ ok, ptsB L = ok := ⟨_, rfl⟩
 have HOK : Hid _ := hokk
 rw [hokk]
 have HG : Hid _ := fun (w : World) (g : Nat) (h : Lines w (some ⟨g, 0, none⟩) [⟨L, true⟩]) => sgoodL w (some ⟨g, 0, none⟩) 1 [⟨L, true⟩] (by simp) (by simp [manyL, hL4]) h
 rw [goodL_one (by omega) hokk] at HG
 clear hrl hokk hz0 hR hQ hL hL4
 unfold rcA
 go_enter Try.func34, Try.ntmps34
 go_wp2_with fail
 refine (HG0.out _).mono ?_
 rintro e w1 ⟨rfl, rfl⟩
 go_wp2_with fail
 refine (HG1.out _).mono ?_
 rintro e w1 ⟨rfl, rfl⟩
 go_wp2_with fail
 refine (HI2.out _).mono ?_
 rintro e w1 ⟨rfl, rfl⟩
 go_wp2_with fail
 refine (HI3.out _).mono ?_
 rintro e w1 ⟨rfl, rfl⟩
 go_wp2_with fail
 refine (HI4.out _).mono ?_
 rintro e w1 ⟨rfl, rfl⟩
 go_wp2
 go_loopw [115] (fun i wr => ∃ (q : Nat) (v : Value), q ≤ 4 ∧ i = .int .i64 (q : Int) ∧ LnB (w.heap.size + 1) wr v (Q q) true ∧ Below (w.heap.size + 1) (w.alloc (.cells #[.slice none 0 0, .bool false] 55)) wr ∧ LieP wr (w.heap.size + 1 + 1) 0 (midsP x y wide high (high / 2)) ∧ v.ownBlock ≠ some (w.heap.size + 1 + 1)) (fun i _ => 4 - (intOf i).toNat)
 case atStart =>
  have e0 : Q 0 = [] := by rw [← HQ.out]; rfl
  have hl := LnB.new (w.alloc (.cells #[.slice none 0 0, .bool false] 55)) 55 true
  rw [World.size_alloc] at hl
  have hm := liep_four ((w.alloc (.cells #[.slice none 0 0, .bool false] 55)).alloc (.cells #[.slice none 0 0, .bool true] 55)) (x + wide - (high / 2), y + high - (high / 2)) (x + (high / 2), y + high - (high / 2)) (x + (high / 2), y + (high / 2)) (x + wide - (high / 2), y + (high / 2)) 27
  rw [World.size_alloc, World.size_alloc] at hm
  exact ⟨0, _, by omega, rfl, by rw [e0]; exact hl.nw ((Below.refl _ _).alloc (Nat.le_refl _) _), ((Below.refl _ _).alloc (by simp) _).alloc (by simp) _, hm, fun e => by cases e⟩
 case round =>
  obtain ⟨q, v, hq, rfl, hl, hw, hm, hn⟩ := hrel
  by_cases hlt : q < 4
  ·obtain ⟨P, hP⟩ : ∃ P, midP x y wide high (high / 2) q = P := ⟨_, rfl⟩
   have hPb : -4398046511104 ≤ P.1 ∧ P.1 ≤ 4398046511104 ∧ -4398046511104 ≤ P.2 ∧ P.2 ≤ 4398046511104 := by
    rw [← hP]
    rcases (show q = 0 ∨ q = 1 ∨ q = 2 ∨ q = 3 by omega) with rfl | rfl | rfl | rfl <;> (simp only [midP]; omega)
   have hPm : ptAt (midsP x y wide high (high / 2)) q = P := by
    rw [← hP]
    rcases (show q = 0 ∨ q = 1 ∨ q = 2 ∨ q = 3 by omega) with rfl | rfl | rfl | rfl <;> rfl
   have HE : Hid (Q (q + 1) = Q q ++ roundsP P.1 P.2 (high / 2) (high / 2) (q * 8) 9) := by show _ = _; rw [← HQ.out, ← hP]; rfl
   have HLn : Hid ((Q q).length + 20 ≤ 1000000) := by show _ ≤ _; rw [← HQ.out, qsP_len]; omega
   obtain ⟨m0, m1⟩ := hm.2 q (by simpa [midsP] using hlt)
   rw [hPm] at m0 m1
   obtain ⟨px, py⟩ := P
   simp only [Nat.zero_add] at m0 m1 HE hPb
   have HM : Hid _ := hm
   have HL : Hid (LnB (w.heap.size + 1) wr v (Q q) true) := hl
   have HW : Hid (Below (w.heap.size + 1) (w.alloc (.cells #[.slice none 0 0, .bool false] 55)) wr) := hw
   have HN : Hid (v.ownBlock ≠ some (w.heap.size + 1 + 1)) := hn
   have hq4 : decide ((q : Int) < 4) = true := decide_eq_true (by omega)
   clear hl hw hm hn hP hPm
   obtain ⟨W1, hW1⟩ : ∃ W1, wr = W1 := ⟨_, rfl⟩
   rw [hW1] at HM HL HW m0 m1 ⊢
   clear hW1
   go_wp2
   go_loopw [15] (fun i wr => ∃ (k : Nat) (u : Value), k ≤ 9 ∧ i = .int .i64 (k : Int) ∧ LnB (w.heap.size + 1) wr u (Q q ++ roundsP px py (high / 2) (high / 2) (q * 8) k) true ∧ Below (w.heap.size + 1) (w.alloc (.cells #[.slice none 0 0, .bool false] 55)) wr ∧ LieP wr (w.heap.size + 1 + 1) 0 (midsP x y wide high (high / 2)) ∧ u.ownBlock ≠ some (w.heap.size + 1 + 1) ∧ LieP wr W1.heap.size 0 [(px, py)] ∧ u.ownBlock ≠ some W1.heap.size) (fun i _ => 9 - (intOf i).toNat)
   case atStart =>
    have a1 : Nw W1 (W1.alloc (.cells #[.int .i64 px, .int .i64 py] 27)) := (Below.refl _ _).alloc (Nat.le_refl _) _
    exact ⟨0, v, by omega, rfl, by rw [roundsP_zero, List.append_nil]; exact HL.out.nw a1, Below.trans HW.out (a1.below (Nat.le_of_lt HL.out.lt)), LieP.nw HM.out a1, HN.out, liep_one W1 px py _, fun e => by have := (OwnQ.lt HL.out.own _ e).2; omega⟩
   case round =>
    obtain ⟨k, u, hk, rfl, hl, hw, hm, hn, hc, hcn⟩ := hrel
    by_cases hlt2 : k ≤ 8
    ·have HRd : Hid _ := fun w => sround w px py (high / 2) (high / 2) (q * 8 + k) (by omega) hPb.1 hPb.2.1 hPb.2.2.1 hPb.2.2.2
     unfold ptV at HRd
     rw [show ((q * 8 + k : Nat) : Int) = 8 * (q : Int) + (k : Int) by omega] at HRd
     have HE2 : Hid (Q q ++ roundsP px py (high / 2) (high / 2) (q * 8) (k + 1) = (Q q ++ roundsP px py (high / 2) (high / 2) (q * 8) k) ++ [roundP px py (high / 2) (high / 2) (q * 8 + k)]) := by show _ = _; rw [roundsP_succ, List.append_assoc]
     have HLn2 : Hid ((Q q ++ roundsP px py (high / 2) (high / 2) (q * 8) k).length + 1 ≤ 1000000) := by show _ ≤ _; rw [List.length_append, roundsP_len]; have := HLn.out; omega
     generalize roundP px py (high / 2) (high / 2) (q * 8 + k) = P at *
     obtain ⟨tx, ty⟩ := P
     generalize Q q ++ roundsP px py (high / 2) (high / 2) (q * 8) k = lk at *
     obtain ⟨va, vc, hv, _⟩ := hl.own.pts
     generalize lk.length = vn at hv
     subst hv
     have HL2 : Hid (LnB (w.heap.size + 1) wr.drew (.slice va vn vc) lk true) := LnB.nw hl ((Below.refl _ _).drew)
     have HW2 : Hid (Below (w.heap.size + 1) (w.alloc (.cells #[.slice none 0 0, .bool false] 55)) wr.drew) := hw.drew
     have HM2 : Hid (LieP wr.drew (w.heap.size + 1 + 1) 0 (midsP x y wide high (high / 2))) := hm
     have HN2 : Hid ((Value.slice va vn vc).ownBlock ≠ some (w.heap.size + 1 + 1)) := hn
     have HC2 : Hid (LieP wr.drew W1.heap.size 0 [(px, py)]) := hc
     have HD2 : Hid ((Value.slice va vn vc).ownBlock ≠ some W1.heap.size) := hcn
     have q0 : wr.cell? ⟨w.heap.size + 1, 0, none⟩ = some (.slice va vn vc) := hl.c0
     have qb : w.heap.size + 1 < wr.heap.size := hl.lt
     obtain ⟨p0, p1⟩ := hc.at0
     have hwr : IntKind.i64.wrap (8 * (q : Int)) = 8 * (q : Int) := IntWalk.i64_in _ ⟨by omega, by omega⟩
     have hwr2 : IntKind.i64.wrap (8 * (q : Int) + (k : Int)) = 8 * (q : Int) + (k : Int) := IntWalk.i64_in _ ⟨by omega, by omega⟩
     have hbs : Hid (W1.heap.size ≠ w.heap.size + 1) := by show _ ≠ _; have := HL.out.lt; omega
     clear hl hw hm hn hc hcn m0 m1
     go_wp2
     refine reg_change (ops' := opsOf 16 Try.f34) (by kernel_rfl) ?_
     refine AX.run ⟨w.heap.size + 1, W1.heap.size, px, py, (high / 2), (q : Int), (k : Int), tx, ty, va, vn, vc, lk, wr.drew, _⟩ ⟨HL2.out, HC2.out, HLn2.out, hwr, hwr2, HRd.out, rfl, rfl, rfl, rfl, rfl, rfl⟩ wr (Kp.refl _) ?_
     rintro γ w9 ⟨w7, w8, g9, c9, k1, g1, o1, x1, rfl⟩
     simp only at g1 o1 x1 k1 ⊢
     rw [g1] at o1 x1 ⊢
     have HK1 : Hid (Nw wr.drew w7) := k1.nw
     have HP : Hid _ := LnB.put (HL2.out.nw k1.nw) x1 o1
     have HX : Hid _ := x1
     clear o1 x1 k1 g1
     go_wp2
     go_roundw
     case rel => exact ⟨k + 1, _, by omega, by go_num, by rw [HE2.out]; exact HP.out.1, Below.trans HW2.out (Below.trans (HK1.out.below (Nat.le_of_lt HL2.out.lt)) HP.out.2), LieP.put (LieP.nw HM2.out HK1.out) HX.out HN2.out (by omega), Ext.apart HX.out (LieP.nw HM2.out HK1.out).1 HN2.out, LieP.put (LieP.nw HC2.out HK1.out) HX.out HD2.out hbs.out, Ext.apart HX.out (LieP.nw HC2.out HK1.out).1 HD2.out⟩
     case measure => simp [intOf]; omega
    ·obtain rfl : k = 9 := by omega
     have HL2 : Hid _ := hl
     have HW2 : Hid _ := hw
     have HM2 : Hid _ := hm
     have HN2 : Hid _ := hn
     clear hl hw hm hn hc hcn m0 m1
     go_wp2
     go_roundw
     case rel => exact ⟨q + 1, u, by omega, by go_num, by rw [HE.out]; exact HL2.out, HW2.out, HM2.out, HN2.out⟩
     case measure => simp [intOf]; omega
  ·obtain rfl : q = 4 := by omega
   rw [HL4.out] at hl
   have HLo : Hid _ := lines_one wr v true L _ 55 hl.own
   have HN : Hid (Nw (w.alloc (.cells #[.slice none 0 0, .bool false] 55)) wr) := Below.mono hw (by simp)
   obtain ⟨va, vc, hv, _⟩ := hl.own.pts
   have HL : Hid _ := hl
   have q0 := hl.c0
   have q1 := hl.c1
   generalize L.length = vn at hv
   subst hv
   clear hl hw hm hn
   go_wp2_with fail
   refine Calls.mono (HG.out _ _ HLo.out) ?_
   rintro e w1 ⟨rfl, k1⟩
   have N1 : Hid (Nw (w.alloc (.cells #[.slice none 0 0, .bool false] 55)) w1) := Nw.trans HN.out (Nw.trans ((Below.refl _ _).alloc (Nat.le_refl _) _) k1.nw)
   have L1 : Hid _ := LnB.nw HL.out (Nw.trans ((Below.refl _ _).alloc (Nat.le_refl _) _) k1.nw)
   have r0 := L1.out.c0
   have r1 := L1.out.c1
   clear k1 HN HL HLo q0 q1
   obtain ⟨z0, z1, zf, hz⟩ := nbox2 w w1 N1.out
   cases ok with
   | false =>
    have e : rl = [] := by rw [← HRL.out, HOK.out]; rfl
    go_wp2
    obtain ⟨y0, y1⟩ := set2 w1 w.heap.size (.slice none 0 0) (.bool false) z0 z1
    refine bodyPost_ret (v := .tuple #[.agg #[.slice none 0 0, .bool false], .bool false]) (by simp [results, Try.results34, go_sem, y0, y1]) rfl ⟨_, rfl, by rw [e]; exact OwnP.nil _ _, ?_⟩
    exact (Below.setCell (nw_box N1.out) (Nat.le_refl _) _).setCell (Nat.le_refl _) _
   | true =>
    have e : rl = L := by rw [← HRL.out, HOK.out]; rfl
    go_wp2
    obtain ⟨y0, y1⟩ := set2 w1 w.heap.size (.slice va vn vc) (.bool true) z0 z1
    have hne : (Value.slice va vn vc).ownBlock ≠ some w.heap.size := fun e => by have := (OwnQ.lt L1.out.own _ e).1; omega
    refine bodyPost_ret (v := .tuple #[.agg #[.slice va vn vc, .bool true], .bool true]) (by simp [results, Try.results34, go_sem, y0, y1]) rfl ⟨_, rfl, ?_, ?_⟩
    ·rw [e]; exact OwnQ.base (OwnQ.far (OwnQ.far L1.out.own _ _ _ hne) _ _ _ hne) (by omega)
    ·exact (Below.setCell (nw_box N1.out) (Nat.le_refl _) _).setCell (Nat.le_refl _) _
set_option maxHeartbeats 4000000 in
theorem srect_sqD (x y wide high r : Int) (w : World) (hok : okR x y wide high r = true) (hz : cutR wide high r = 0) (c1 : ¬ wide / 2 < r) (c2 : ¬ high / 2 < r) : Calls Try.prog 34 (rcA x y wide high r) w fun e w' => ∃ v, e = .returned (.tuple #[.agg #[v, .bool (ptsB (sqP x y wide high))], .bool (ptsB (sqP x y wide high))]) ∧ OwnP w' w.heap.size v (if ptsB (sqP x y wide high) = true then sqP x y wide high else []) ∧ Nw w w' := by
 obtain ⟨hf, h2, h3, h4⟩ := okR_all hok
 have hfx : fixB x = true ∧ fixB y = true ∧ fixB wide = true ∧ fixB high = true ∧ fixB r = true := by simpa using hf
 have bx := fixB_iff.1 hfx.1
 have by' := fixB_iff.1 hfx.2.1
 have bw := fixB_iff.1 hfx.2.2.1
 have bh := fixB_iff.1 hfx.2.2.2.1
 have br := fixB_iff.1 hfx.2.2.2.2
 have HG0 : Hid _ := fun w => sgoodF x w
 have HG1 : Hid _ := fun w => sgoodF y w
 have HI2 : Hid _ := fun w => in_any w wide 0 1099511627776
 have HI3 : Hid _ := fun w => in_any w high 0 1099511627776
 have HI4 : Hid _ := fun w => in_any w r 0 1099511627776
 rw [hfx.1] at HG0
 rw [hfx.2.1] at HG1
 rw [decide_eq_true (⟨h2, bw.2⟩ : 0 ≤ wide ∧ wide ≤ 1099511627776)] at HI2
 rw [decide_eq_true (⟨h3, bh.2⟩ : 0 ≤ high ∧ high ≤ 1099511627776)] at HI3
 rw [decide_eq_true (⟨h4, br.2⟩ : 0 ≤ r ∧ r ≤ 1099511627776)] at HI4
 clear hfx hf hok
 have hT : r = 0 := by unfold cutR at hz; omega
 subst hT
 have HO : Hid (∀ (w : World) (B : Nat), w.heap.size = B → OwnP (w.alloc (.cells #[.int .i64 x, .int .i64 y, .int .i64 (x + wide), .int .i64 y, .int .i64 (x + wide), .int .i64 (y + high), .int .i64 x, .int .i64 (y + high)] 27)) B (.slice (some ⟨B, 0, none⟩) 4 4) (sqP x y wide high)) := fun w B hB => by
  subst hB
  exact World.ownsRow_lit w #[.int .i64 x, .int .i64 y, .int .i64 (x + wide), .int .i64 y, .int .i64 (x + wide), .int .i64 (y + high), .int .i64 x, .int .i64 (y + high)] 4 (Nat.le_refl _) (by unfold maxLen; omega) rfl
 obtain ⟨L, hL⟩ : ∃ L, sqP x y wide high = L := ⟨_, rfl⟩
 have hL4 : L.length = 4 := by rw [← hL]; rfl
 rw [hL] at HO ⊢
 clear hL
 obtain ⟨rl, hrl⟩ : ∃ rl, (if ptsB L = true then L else []) = rl := ⟨_, rfl⟩
 have HRL : Hid _ := hrl
 rw [hrl]
 obtain ⟨ok, hokk⟩ : ∃ ok, ptsB L = ok := ⟨_, rfl⟩
 have HOK : Hid _ := hokk
 rw [hokk]
 have HG : Hid _ := fun (w : World) (g : Nat) (h : Lines w (some ⟨g, 0, none⟩) [⟨L, true⟩]) => sgoodL w (some ⟨g, 0, none⟩) 1 [⟨L, true⟩] (by simp) (by simp [manyL, hL4]) h
 rw [goodL_one (by omega) hokk] at HG
 clear hrl hokk hz
 unfold rcA
 go_enter Try.func34, Try.ntmps34
 go_wp2_with fail
 refine (HG0.out _).mono ?_
 rintro e w1 ⟨rfl, rfl⟩
 go_wp2_with fail
 refine (HG1.out _).mono ?_
 rintro e w1 ⟨rfl, rfl⟩
 go_wp2_with fail
 refine (HI2.out _).mono ?_
 rintro e w1 ⟨rfl, rfl⟩
 go_wp2_with fail
 refine (HI3.out _).mono ?_
 rintro e w1 ⟨rfl, rfl⟩
 go_wp2_with fail
 refine (HI4.out _).mono ?_
 rintro e w1 ⟨rfl, rfl⟩
 go_wp2_with fail
 have HLb : Hid (LnB (w.heap.size + 1) (((w.alloc (.cells #[.slice none 0 0, .bool false] 55)).alloc (.cells #[.slice (some ⟨w.heap.size + 1 + 1, 0, none⟩) 4 4, .bool true] 55)).alloc (.cells #[.int .i64 x, .int .i64 y, .int .i64 (x + wide), .int .i64 y, .int .i64 (x + wide), .int .i64 (y + high), .int .i64 x, .int .i64 (y + high)] 27)) (.slice (some ⟨w.heap.size + 1 + 1, 0, none⟩) 4 4) L true) :=
  ⟨by simp [World.cell?_alloc_past], by simp [World.cell?_alloc_past], fun o => by
   rw [World.frozen?_of_block (w := (w.alloc (.cells #[.slice none 0 0, .bool false] 55)).alloc (.cells #[.slice (some ⟨w.heap.size + 1 + 1, 0, none⟩) 4 4, .bool true] 55)) (a := ⟨w.heap.size + 1, o, none⟩) (Below.block ((Below.refl (w.heap.size + 1 + 1) _).alloc (by simp) _) _ (by simp))]
   exact World.frozen?_alloc_at _ _ _ _ (by simp), HO.out _ _ (by simp)⟩
 have HLo : Hid _ := lines_oneN _ (.slice (some ⟨w.heap.size + 1 + 1, 0, none⟩) 4 4) true L _ 55 (w.heap.size + 1 + 1 + 1) (by simp) HLb.out.own
 refine Calls.mono (HG.out _ _ HLo.out) ?_
 rintro e w1 ⟨rfl, k1⟩
 have N1 : Hid (Nw (w.alloc (.cells #[.slice none 0 0, .bool false] 55)) w1) := Nw.trans (((Kp.refl _).alloc _ _ |>.alloc _ _ |>.alloc _ _).nw) k1.nw
 have L1 : Hid _ := LnB.nw HLb.out (Nw.trans ((Below.refl _ _).alloc (Nat.le_refl _) _) k1.nw)
 have r0 := L1.out.c0
 have r1 := L1.out.c1
 clear k1 HLo HLb HO
 obtain ⟨z0, z1, zf, hz⟩ := nbox2 w w1 N1.out
 cases ok with
 | false =>
  have e : rl = [] := by rw [← HRL.out, HOK.out]; rfl
  go_wp2
  obtain ⟨y0, y1⟩ := set2 w1 w.heap.size (.slice none 0 0) (.bool false) z0 z1
  refine bodyPost_ret (v := .tuple #[.agg #[.slice none 0 0, .bool false], .bool false]) (by simp [results, Try.results34, go_sem, y0, y1]) rfl ⟨_, rfl, by rw [e]; exact OwnP.nil _ _, ?_⟩
  exact (Below.setCell (nw_box N1.out) (Nat.le_refl _) _).setCell (Nat.le_refl _) _
 | true =>
  have e : rl = L := by rw [← HRL.out, HOK.out]; rfl
  go_wp2
  obtain ⟨y0, y1⟩ := set2 w1 w.heap.size (.slice (some ⟨w.heap.size + 1 + 1, 0, none⟩) 4 4) (.bool true) z0 z1
  have hne : (Value.slice (some ⟨w.heap.size + 1 + 1, 0, none⟩) 4 4).ownBlock ≠ some w.heap.size := fun e => by have := (OwnQ.lt L1.out.own _ e).1; omega
  refine bodyPost_ret (v := .tuple #[.agg #[.slice (some ⟨w.heap.size + 1 + 1, 0, none⟩) 4 4, .bool true], .bool true]) (by simp [results, Try.results34, go_sem, y0, y1]) rfl ⟨_, rfl, ?_, ?_⟩
  ·rw [e]; exact OwnQ.base (OwnQ.far (OwnQ.far L1.out.own _ _ _ hne) _ _ _ hne) (by omega)
  ·exact (Below.setCell (nw_box N1.out) (Nat.le_refl _) _).setCell (Nat.le_refl _) _
set_option maxRecDepth 100000 in
set_option maxHeartbeats 16000000 in
theorem srect_rdD (x y wide high r : Int) (w : World) (hok : okR x y wide high r = true) (hz0 : cutR wide high r ≠ 0) (c1 : ¬ wide / 2 < r) (c2 : ¬ high / 2 < r) : Calls Try.prog 34 (rcA x y wide high r) w fun e w' => ∃ v, e = .returned (.tuple #[.agg #[v, .bool (ptsB (qsP x y wide high (cutR wide high r) 4))], .bool (ptsB (qsP x y wide high (cutR wide high r) 4))]) ∧ OwnP w' w.heap.size v (if ptsB (qsP x y wide high (cutR wide high r) 4) = true then qsP x y wide high (cutR wide high r) 4 else []) ∧ Nw w w' := by
 obtain ⟨hf, h2, h3, h4⟩ := okR_all hok
 have hfx : fixB x = true ∧ fixB y = true ∧ fixB wide = true ∧ fixB high = true ∧ fixB r = true := by simpa using hf
 have bx := fixB_iff.1 hfx.1
 have by' := fixB_iff.1 hfx.2.1
 have bw := fixB_iff.1 hfx.2.2.1
 have bh := fixB_iff.1 hfx.2.2.2.1
 have br := fixB_iff.1 hfx.2.2.2.2
 have HG0 : Hid _ := fun w => sgoodF x w
 have HG1 : Hid _ := fun w => sgoodF y w
 have HI2 : Hid _ := fun w => in_any w wide 0 1099511627776
 have HI3 : Hid _ := fun w => in_any w high 0 1099511627776
 have HI4 : Hid _ := fun w => in_any w r 0 1099511627776
 rw [hfx.1] at HG0
 rw [hfx.2.1] at HG1
 rw [decide_eq_true (⟨h2, bw.2⟩ : 0 ≤ wide ∧ wide ≤ 1099511627776)] at HI2
 rw [decide_eq_true (⟨h3, bh.2⟩ : 0 ≤ high ∧ high ≤ 1099511627776)] at HI3
 rw [decide_eq_true (⟨h4, br.2⟩ : 0 ≤ r ∧ r ≤ 1099511627776)] at HI4
 clear hfx hf hok
 have bR := cutR_bd wide high r h2 h3 h4 br.2
 have hR : cutR wide high r = r := by unfold cutR; omega
 rw [hR] at bR hz0 ⊢
 have hR0 : (r == 0) = false := by rw [beq_eq_false_iff_ne]; exact hz0
 obtain ⟨Q, hQ⟩ : ∃ Q : Nat → List Pnt, qsP x y wide high r = Q := ⟨_, rfl⟩
 have HQ : Hid (qsP x y wide high r = Q) := hQ
 rw [hQ]
 obtain ⟨L, hL⟩ : ∃ L, Q 4 = L := ⟨_, rfl⟩
 have HL4 : Hid (Q 4 = L) := hL
 rw [hL]
 have hL4 : L.length = 36 := by rw [← hL, ← hQ, qsP_len]
 obtain ⟨rl, hrl⟩ : ∃ rl, (if ptsB L = true then L else []) = rl := ⟨_, rfl⟩
 have HRL : Hid _ := hrl
 rw [hrl]
 obtain ⟨ok, hokk⟩ : ∃ ok, ptsB L = ok := ⟨_, rfl⟩
 have HOK : Hid _ := hokk
 rw [hokk]
 have HG : Hid _ := fun (w : World) (g : Nat) (h : Lines w (some ⟨g, 0, none⟩) [⟨L, true⟩]) => sgoodL w (some ⟨g, 0, none⟩) 1 [⟨L, true⟩] (by simp) (by simp [manyL, hL4]) h
 rw [goodL_one (by omega) hokk] at HG
 clear hrl hokk hz0 hR hQ hL hL4
 unfold rcA
 go_enter Try.func34, Try.ntmps34
 go_wp2_with fail
 refine (HG0.out _).mono ?_
 rintro e w1 ⟨rfl, rfl⟩
 go_wp2_with fail
 refine (HG1.out _).mono ?_
 rintro e w1 ⟨rfl, rfl⟩
 go_wp2_with fail
 refine (HI2.out _).mono ?_
 rintro e w1 ⟨rfl, rfl⟩
 go_wp2_with fail
 refine (HI3.out _).mono ?_
 rintro e w1 ⟨rfl, rfl⟩
 go_wp2_with fail
 refine (HI4.out _).mono ?_
 rintro e w1 ⟨rfl, rfl⟩
 go_wp2
 go_loopw [115] (fun i wr => ∃ (q : Nat) (v : Value), q ≤ 4 ∧ i = .int .i64 (q : Int) ∧ LnB (w.heap.size + 1) wr v (Q q) true ∧ Below (w.heap.size + 1) (w.alloc (.cells #[.slice none 0 0, .bool false] 55)) wr ∧ LieP wr (w.heap.size + 1 + 1) 0 (midsP x y wide high r) ∧ v.ownBlock ≠ some (w.heap.size + 1 + 1)) (fun i _ => 4 - (intOf i).toNat)
 case atStart =>
  have e0 : Q 0 = [] := by rw [← HQ.out]; rfl
  have hl := LnB.new (w.alloc (.cells #[.slice none 0 0, .bool false] 55)) 55 true
  rw [World.size_alloc] at hl
  have hm := liep_four ((w.alloc (.cells #[.slice none 0 0, .bool false] 55)).alloc (.cells #[.slice none 0 0, .bool true] 55)) (x + wide - r, y + high - r) (x + r, y + high - r) (x + r, y + r) (x + wide - r, y + r) 27
  rw [World.size_alloc, World.size_alloc] at hm
  exact ⟨0, _, by omega, rfl, by rw [e0]; exact hl.nw ((Below.refl _ _).alloc (Nat.le_refl _) _), ((Below.refl _ _).alloc (by simp) _).alloc (by simp) _, hm, fun e => by cases e⟩
 case round =>
  obtain ⟨q, v, hq, rfl, hl, hw, hm, hn⟩ := hrel
  by_cases hlt : q < 4
  ·obtain ⟨P, hP⟩ : ∃ P, midP x y wide high r q = P := ⟨_, rfl⟩
   have hPb : -4398046511104 ≤ P.1 ∧ P.1 ≤ 4398046511104 ∧ -4398046511104 ≤ P.2 ∧ P.2 ≤ 4398046511104 := by
    rw [← hP]
    rcases (show q = 0 ∨ q = 1 ∨ q = 2 ∨ q = 3 by omega) with rfl | rfl | rfl | rfl <;> (simp only [midP]; omega)
   have hPm : ptAt (midsP x y wide high r) q = P := by
    rw [← hP]
    rcases (show q = 0 ∨ q = 1 ∨ q = 2 ∨ q = 3 by omega) with rfl | rfl | rfl | rfl <;> rfl
   have HE : Hid (Q (q + 1) = Q q ++ roundsP P.1 P.2 r r (q * 8) 9) := by show _ = _; rw [← HQ.out, ← hP]; rfl
   have HLn : Hid ((Q q).length + 20 ≤ 1000000) := by show _ ≤ _; rw [← HQ.out, qsP_len]; omega
   obtain ⟨m0, m1⟩ := hm.2 q (by simpa [midsP] using hlt)
   rw [hPm] at m0 m1
   obtain ⟨px, py⟩ := P
   simp only [Nat.zero_add] at m0 m1 HE hPb
   have HM : Hid _ := hm
   have HL : Hid (LnB (w.heap.size + 1) wr v (Q q) true) := hl
   have HW : Hid (Below (w.heap.size + 1) (w.alloc (.cells #[.slice none 0 0, .bool false] 55)) wr) := hw
   have HN : Hid (v.ownBlock ≠ some (w.heap.size + 1 + 1)) := hn
   have hq4 : decide ((q : Int) < 4) = true := decide_eq_true (by omega)
   clear hl hw hm hn hP hPm
   obtain ⟨W1, hW1⟩ : ∃ W1, wr = W1 := ⟨_, rfl⟩
   rw [hW1] at HM HL HW m0 m1 ⊢
   clear hW1
   go_wp2
   go_loopw [15] (fun i wr => ∃ (k : Nat) (u : Value), k ≤ 9 ∧ i = .int .i64 (k : Int) ∧ LnB (w.heap.size + 1) wr u (Q q ++ roundsP px py r r (q * 8) k) true ∧ Below (w.heap.size + 1) (w.alloc (.cells #[.slice none 0 0, .bool false] 55)) wr ∧ LieP wr (w.heap.size + 1 + 1) 0 (midsP x y wide high r) ∧ u.ownBlock ≠ some (w.heap.size + 1 + 1) ∧ LieP wr W1.heap.size 0 [(px, py)] ∧ u.ownBlock ≠ some W1.heap.size) (fun i _ => 9 - (intOf i).toNat)
   case atStart =>
    have a1 : Nw W1 (W1.alloc (.cells #[.int .i64 px, .int .i64 py] 27)) := (Below.refl _ _).alloc (Nat.le_refl _) _
    exact ⟨0, v, by omega, rfl, by rw [roundsP_zero, List.append_nil]; exact HL.out.nw a1, Below.trans HW.out (a1.below (Nat.le_of_lt HL.out.lt)), LieP.nw HM.out a1, HN.out, liep_one W1 px py _, fun e => by have := (OwnQ.lt HL.out.own _ e).2; omega⟩
   case round =>
    obtain ⟨k, u, hk, rfl, hl, hw, hm, hn, hc, hcn⟩ := hrel
    by_cases hlt2 : k ≤ 8
    ·have HRd : Hid _ := fun w => sround w px py r r (q * 8 + k) (by omega) hPb.1 hPb.2.1 hPb.2.2.1 hPb.2.2.2
     unfold ptV at HRd
     rw [show ((q * 8 + k : Nat) : Int) = 8 * (q : Int) + (k : Int) by omega] at HRd
     have HE2 : Hid (Q q ++ roundsP px py r r (q * 8) (k + 1) = (Q q ++ roundsP px py r r (q * 8) k) ++ [roundP px py r r (q * 8 + k)]) := by show _ = _; rw [roundsP_succ, List.append_assoc]
     have HLn2 : Hid ((Q q ++ roundsP px py r r (q * 8) k).length + 1 ≤ 1000000) := by show _ ≤ _; rw [List.length_append, roundsP_len]; have := HLn.out; omega
     generalize roundP px py r r (q * 8 + k) = P at *
     obtain ⟨tx, ty⟩ := P
     generalize Q q ++ roundsP px py r r (q * 8) k = lk at *
     obtain ⟨va, vc, hv, _⟩ := hl.own.pts
     generalize lk.length = vn at hv
     subst hv
     have HL2 : Hid (LnB (w.heap.size + 1) wr.drew (.slice va vn vc) lk true) := LnB.nw hl ((Below.refl _ _).drew)
     have HW2 : Hid (Below (w.heap.size + 1) (w.alloc (.cells #[.slice none 0 0, .bool false] 55)) wr.drew) := hw.drew
     have HM2 : Hid (LieP wr.drew (w.heap.size + 1 + 1) 0 (midsP x y wide high r)) := hm
     have HN2 : Hid ((Value.slice va vn vc).ownBlock ≠ some (w.heap.size + 1 + 1)) := hn
     have HC2 : Hid (LieP wr.drew W1.heap.size 0 [(px, py)]) := hc
     have HD2 : Hid ((Value.slice va vn vc).ownBlock ≠ some W1.heap.size) := hcn
     have q0 : wr.cell? ⟨w.heap.size + 1, 0, none⟩ = some (.slice va vn vc) := hl.c0
     have qb : w.heap.size + 1 < wr.heap.size := hl.lt
     obtain ⟨p0, p1⟩ := hc.at0
     have hwr : IntKind.i64.wrap (8 * (q : Int)) = 8 * (q : Int) := IntWalk.i64_in _ ⟨by omega, by omega⟩
     have hwr2 : IntKind.i64.wrap (8 * (q : Int) + (k : Int)) = 8 * (q : Int) + (k : Int) := IntWalk.i64_in _ ⟨by omega, by omega⟩
     have hbs : Hid (W1.heap.size ≠ w.heap.size + 1) := by show _ ≠ _; have := HL.out.lt; omega
     clear hl hw hm hn hc hcn m0 m1
     go_wp2
     refine reg_change (ops' := opsOf 16 Try.f34) (by kernel_rfl) ?_
     refine AX.run ⟨w.heap.size + 1, W1.heap.size, px, py, r, (q : Int), (k : Int), tx, ty, va, vn, vc, lk, wr.drew, _⟩ ⟨HL2.out, HC2.out, HLn2.out, hwr, hwr2, HRd.out, rfl, rfl, rfl, rfl, rfl, rfl⟩ wr (Kp.refl _) ?_
     rintro γ w9 ⟨w7, w8, g9, c9, k1, g1, o1, x1, rfl⟩
     simp only at g1 o1 x1 k1 ⊢
     rw [g1] at o1 x1 ⊢
     have HK1 : Hid (Nw wr.drew w7) := k1.nw
     have HP : Hid _ := LnB.put (HL2.out.nw k1.nw) x1 o1
     have HX : Hid _ := x1
     clear o1 x1 k1 g1
     go_wp2
     go_roundw
     case rel => exact ⟨k + 1, _, by omega, by go_num, by rw [HE2.out]; exact HP.out.1, Below.trans HW2.out (Below.trans (HK1.out.below (Nat.le_of_lt HL2.out.lt)) HP.out.2), LieP.put (LieP.nw HM2.out HK1.out) HX.out HN2.out (by omega), Ext.apart HX.out (LieP.nw HM2.out HK1.out).1 HN2.out, LieP.put (LieP.nw HC2.out HK1.out) HX.out HD2.out hbs.out, Ext.apart HX.out (LieP.nw HC2.out HK1.out).1 HD2.out⟩
     case measure => simp [intOf]; omega
    ·obtain rfl : k = 9 := by omega
     have HL2 : Hid _ := hl
     have HW2 : Hid _ := hw
     have HM2 : Hid _ := hm
     have HN2 : Hid _ := hn
     clear hl hw hm hn hc hcn m0 m1
     go_wp2
     go_roundw
     case rel => exact ⟨q + 1, u, by omega, by go_num, by rw [HE.out]; exact HL2.out, HW2.out, HM2.out, HN2.out⟩
     case measure => simp [intOf]; omega
  ·obtain rfl : q = 4 := by omega
   rw [HL4.out] at hl
   have HLo : Hid _ := lines_one wr v true L _ 55 hl.own
   have HN : Hid (Nw (w.alloc (.cells #[.slice none 0 0, .bool false] 55)) wr) := Below.mono hw (by simp)
   obtain ⟨va, vc, hv, _⟩ := hl.own.pts
   have HL : Hid _ := hl
   have q0 := hl.c0
   have q1 := hl.c1
   generalize L.length = vn at hv
   subst hv
   clear hl hw hm hn
   go_wp2_with fail
   refine Calls.mono (HG.out _ _ HLo.out) ?_
   rintro e w1 ⟨rfl, k1⟩
   have N1 : Hid (Nw (w.alloc (.cells #[.slice none 0 0, .bool false] 55)) w1) := Nw.trans HN.out (Nw.trans ((Below.refl _ _).alloc (Nat.le_refl _) _) k1.nw)
   have L1 : Hid _ := LnB.nw HL.out (Nw.trans ((Below.refl _ _).alloc (Nat.le_refl _) _) k1.nw)
   have r0 := L1.out.c0
   have r1 := L1.out.c1
   clear k1 HN HL HLo q0 q1
   obtain ⟨z0, z1, zf, hz⟩ := nbox2 w w1 N1.out
   cases ok with
   | false =>
    have e : rl = [] := by rw [← HRL.out, HOK.out]; rfl
    go_wp2
    obtain ⟨y0, y1⟩ := set2 w1 w.heap.size (.slice none 0 0) (.bool false) z0 z1
    refine bodyPost_ret (v := .tuple #[.agg #[.slice none 0 0, .bool false], .bool false]) (by simp [results, Try.results34, go_sem, y0, y1]) rfl ⟨_, rfl, by rw [e]; exact OwnP.nil _ _, ?_⟩
    exact (Below.setCell (nw_box N1.out) (Nat.le_refl _) _).setCell (Nat.le_refl _) _
   | true =>
    have e : rl = L := by rw [← HRL.out, HOK.out]; rfl
    go_wp2
    obtain ⟨y0, y1⟩ := set2 w1 w.heap.size (.slice va vn vc) (.bool true) z0 z1
    have hne : (Value.slice va vn vc).ownBlock ≠ some w.heap.size := fun e => by have := (OwnQ.lt L1.out.own _ e).1; omega
    refine bodyPost_ret (v := .tuple #[.agg #[.slice va vn vc, .bool true], .bool true]) (by simp [results, Try.results34, go_sem, y0, y1]) rfl ⟨_, rfl, ?_, ?_⟩
    ·rw [e]; exact OwnQ.base (OwnQ.far (OwnQ.far L1.out.own _ _ _ hne) _ _ _ hne) (by omega)
    ·exact (Below.setCell (nw_box N1.out) (Nat.le_refl _) _).setCell (Nat.le_refl _) _
set_option maxRecDepth 100000 in
set_option maxHeartbeats 2000000 in
theorem srect_no (x y wide high r : Int) (w : World) (hok : okR x y wide high r = false) : Calls Try.prog 34 (rcA x y wide high r) w fun e w' => e = .returned (.tuple #[.agg #[.slice none 0 0, .bool false], .bool false]) ∧ Nw w w' := by
 have HG0 : Hid _ := fun w => sgoodF x w
 have HG1 : Hid _ := fun w => sgoodF y w
 have HI2 : Hid _ := fun w => in_any w wide 0 1099511627776
 have HI3 : Hid _ := fun w => in_any w high 0 1099511627776
 have HI4 : Hid _ := fun w => in_any w r 0 1099511627776
 have HN : Hid (¬ (fixB x = true ∧ fixB y = true ∧ decide (0 ≤ wide ∧ wide ≤ 1099511627776) = true ∧ decide (0 ≤ high ∧ high ≤ 1099511627776) = true ∧ decide (0 ≤ r ∧ r ≤ 1099511627776) = true)) := by
  rintro ⟨h0, h1, h2, h3, h4⟩
  have e2 := of_decide_eq_true h2
  have e3 := of_decide_eq_true h3
  have e4 := of_decide_eq_true h4
  have : okR x y wide high r = true := by
   unfold okR
   have f2 : fixB wide = true := fixB_iff.2 (by omega)
   have f3 : fixB high = true := fixB_iff.2 (by omega)
   have f4 : fixB r = true := fixB_iff.2 (by omega)
   simp [h0, h1, f2, f3, f4, e2.1, e3.1, e4.1]
  rw [this] at hok; cases hok
 unfold rcA
 clear hok
 generalize fixB x = b0 at *
 generalize fixB y = b1 at *
 generalize decide (0 ≤ wide ∧ wide ≤ 1099511627776) = b2 at *
 generalize decide (0 ≤ high ∧ high ≤ 1099511627776) = b3 at *
 generalize decide (0 ≤ r ∧ r ≤ 1099511627776) = b4 at *
 cases b0 with
 | false =>
  go_enter Try.func34, Try.ntmps34
  go_wp2_with fail
  refine (HG0.out _).mono ?_
  rintro e w1 ⟨rfl, rfl⟩
  go_wp2
  exact bodyPost_ret (v := .tuple #[.agg #[.slice none 0 0, .bool false], .bool false]) (by simp [results, Try.results34, go_sem]) rfl ⟨rfl, ((Kp.refl w).alloc _ _).nw⟩
 | true =>
  cases b1 with
  | false =>
   go_enter Try.func34, Try.ntmps34
   go_wp2_with fail
   refine (HG0.out _).mono ?_
   rintro e w1 ⟨rfl, rfl⟩
   go_wp2_with fail
   refine (HG1.out _).mono ?_
   rintro e w1 ⟨rfl, rfl⟩
   go_wp2
   exact bodyPost_ret (v := .tuple #[.agg #[.slice none 0 0, .bool false], .bool false]) (by simp [results, Try.results34, go_sem]) rfl ⟨rfl, ((Kp.refl w).alloc _ _).nw⟩
  | true =>
   cases b2 with
   | false =>
    go_enter Try.func34, Try.ntmps34
    go_wp2_with fail
    refine (HG0.out _).mono ?_
    rintro e w1 ⟨rfl, rfl⟩
    go_wp2_with fail
    refine (HG1.out _).mono ?_
    rintro e w1 ⟨rfl, rfl⟩
    go_wp2_with fail
    refine (HI2.out _).mono ?_
    rintro e w1 ⟨rfl, rfl⟩
    go_wp2
    exact bodyPost_ret (v := .tuple #[.agg #[.slice none 0 0, .bool false], .bool false]) (by simp [results, Try.results34, go_sem]) rfl ⟨rfl, ((Kp.refl w).alloc _ _).nw⟩
   | true =>
    cases b3 with
    | false =>
     go_enter Try.func34, Try.ntmps34
     go_wp2_with fail
     refine (HG0.out _).mono ?_
     rintro e w1 ⟨rfl, rfl⟩
     go_wp2_with fail
     refine (HG1.out _).mono ?_
     rintro e w1 ⟨rfl, rfl⟩
     go_wp2_with fail
     refine (HI2.out _).mono ?_
     rintro e w1 ⟨rfl, rfl⟩
     go_wp2_with fail
     refine (HI3.out _).mono ?_
     rintro e w1 ⟨rfl, rfl⟩
     go_wp2
     exact bodyPost_ret (v := .tuple #[.agg #[.slice none 0 0, .bool false], .bool false]) (by simp [results, Try.results34, go_sem]) rfl ⟨rfl, ((Kp.refl w).alloc _ _).nw⟩
    | true =>
     cases b4 with
     | false =>
      go_enter Try.func34, Try.ntmps34
      go_wp2_with fail
      refine (HG0.out _).mono ?_
      rintro e w1 ⟨rfl, rfl⟩
      go_wp2_with fail
      refine (HG1.out _).mono ?_
      rintro e w1 ⟨rfl, rfl⟩
      go_wp2_with fail
      refine (HI2.out _).mono ?_
      rintro e w1 ⟨rfl, rfl⟩
      go_wp2_with fail
      refine (HI3.out _).mono ?_
      rintro e w1 ⟨rfl, rfl⟩
      go_wp2_with fail
      refine (HI4.out _).mono ?_
      rintro e w1 ⟨rfl, rfl⟩
      go_wp2
      exact bodyPost_ret (v := .tuple #[.agg #[.slice none 0 0, .bool false], .bool false]) (by simp [results, Try.results34, go_sem]) rfl ⟨rfl, ((Kp.refl w).alloc _ _).nw⟩
     | true =>
      exact absurd ⟨rfl, rfl, rfl, rfl, rfl⟩ HN.out
theorem srect (x y wide high r : Int) : LnSays 34 (rcA x y wide high r) (rectV x y wide high r) := by
 intro w
 cases hok : okR x y wide high r with
 | true =>
  rw [rectV_yes hok]
  by_cases hz : cutR wide high r = 0
  ·have e : rectP x y wide high r = sqP x y wide high := by unfold rectP; rw [if_pos hz]
   rw [e]
   by_cases c1 : wide / 2 < r
   ·by_cases c2 : high / 2 < wide / 2
    ·exact srect_sqA x y wide high r w hok hz c1 c2
    ·exact srect_sqB x y wide high r w hok hz c1 c2
   ·by_cases c2 : high / 2 < r
    ·exact srect_sqC x y wide high r w hok hz c1 c2
    ·exact srect_sqD x y wide high r w hok hz c1 c2
  ·have e : rectP x y wide high r = qsP x y wide high (cutR wide high r) 4 := by unfold rectP; rw [if_neg hz]
   rw [e]
   by_cases c1 : wide / 2 < r
   ·by_cases c2 : high / 2 < wide / 2
    ·exact srect_rdA x y wide high r w hok hz c1 c2
    ·exact srect_rdB x y wide high r w hok hz c1 c2
   ·by_cases c2 : high / 2 < r
    ·exact srect_rdC x y wide high r w hok hz c1 c2
    ·exact srect_rdD x y wide high r w hok hz c1 c2
 | false =>
  have e : rectV x y wide high r = ([], false) := by unfold rectV; rw [if_neg (fun h => by rw [hok] at h; cases h.1)]
  rw [e]
  refine (srect_no x y wide high r w hok).mono ?_
  rintro e w' ⟨rfl, k⟩
  exact ⟨_, rfl, OwnP.nil _ _, k⟩
def kdN (k : Int) : Int := if k = 1 then 2 else if k = 2 then 2 else if k = 3 then 6 else 0
def kdB (k : Int) : Bool := decide (k = 1) || (decide (k = 2) || (decide (k = 3) || decide (k = 4)))
def stOk (l : List SD) (i : Nat) : Bool := kdB (stAt l i).kind && (decide (((stAt l i).ns.length : Int) = kdN (stAt l i).kind) && ((stAt l i).ns.all fixB && (decide (i ≠ 0) || decide ((stAt l i).kind = 1))))
def stsB (l : List SD) : Bool := decide (l.length ≤ 60) && (List.range l.length).all (stOk l)
theorem stsB_false {l : List SD} {k : Nat} (hk : k < l.length) (h : stOk l k = false) : (List.range l.length).all (stOk l) = false := by
 rw [List.all_eq_false]
 exact ⟨k, List.mem_range.2 hk, by rw [h]; decide⟩
theorem stsB_true {l : List SD} (h : ∀ k, k < l.length → stOk l k = true) : (List.range l.length).all (stOk l) = true := by
 rw [List.all_eq_true]
 exact fun k hk => h k (List.mem_range.1 hk)
end Go.Proofs.Ytdjemnbdaddegaa
