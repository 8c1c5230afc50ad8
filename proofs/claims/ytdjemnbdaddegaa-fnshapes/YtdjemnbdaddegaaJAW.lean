/-
  CurveAt of both, and the walk of its law; each theorem names
-/
import Derived.Test.YtdjemnbdaddegaaJAL
import Derived.Test.YtdjemnbdaddegaaJAJ
import Derived.Test.YtdjemnbdaddegaaJAV
import Derived.Test.YtdjemnbdaddegaaJAE
import Derived.Test.YtdjemnbdaddegaaJAK
import Derived.Test.YtdjemnbdaddegaaJAG
import Derived.Test.YtdjemnbdaddegaaJAB
import Derived.Test.YtdjemnbdaddegaaJAF
import Derived.Test.YtdjemnbdaddegaaJAP
import Derived.Test.YtdjemnbdaddegaaJAA
namespace Go.Proofs.Ytdjemnbdaddegaa
open Go.ChangeShapes Go.WideShapes Go.ChangeAt Go.RowKit
set_option linter.unusedVariables false
def cvV (l : List Pnt) (k : Int) : Pnt × Bool := if l.length = 4 ∧ (0 ≤ k ∧ k ≤ 8) ∧ ptsB l = true then (curveP l k, true) else ((0, 0), false)
def CvSays (f : FuncId) (l : List Pnt) (k : Int) : Prop := ∀ w a c, Pts w a l → Calls Try.prog f #[.slice a l.length c, .int .i64 k] w fun e w' => e = .returned (.tuple #[.agg #[.int .i64 (cvV l k).1.1, .int .i64 (cvV l k).1.2], .bool (cvV l k).2]) ∧ Kp w w'
set_option maxHeartbeats 4000000 in
theorem scurveAt (l : List Pnt) (k : Int) (hl : l.length ≤ 1048576) : CvSays 11 l k := by
 intro w a c hr
 by_cases c1 : l.length = 4
 ·rw [c1]
  by_cases c2 : 0 ≤ k ∧ k ≤ 8
  ·have hin : Hid _ := fun w => in_any w k 0 8
   rw [decide_eq_true c2] at hin
   have HR : ∀ w', Nw w w' → Hid (Pts w' a l) := fun w' h => hr.nw h
   clear hr
   obtain ⟨V, hV⟩ : ∃ V, ptsB l = V := ⟨_, rfl⟩
   have HV : Hid (ptsB l = V) := hV
   obtain ⟨r, hrr⟩ : ∃ r, cvV l k = r := ⟨_, rfl⟩
   have HRR : Hid (cvV l k = r) := hrr
   rw [hrr]
   clear hV hrr
   obtain ⟨⟨rx, ry⟩, rb⟩ := r
   simp only
   go_enter Try.func11, Try.ntmps11
   go_wp2_with fail
   refine (hin.out _).mono ?_
   rintro e w1 ⟨rfl, rfl⟩
   go_wp2
   go_loopw [20] (fun i wr => ∃ j : Nat, j ≤ 4 ∧ i = .int .i64 j ∧ (∀ m, m < j → ptB (ptAt l m) = true) ∧ Kp (w.alloc (.cells #[.int .i64 0, .int .i64 0] 27)) wr) (fun i _ => 4 - (intOf i).toNat)
   case atStart => exact ⟨0, Nat.zero_le _, rfl, fun j hj => absurd hj (by omega), Kp.refl _⟩
   case round =>
    obtain ⟨j, hj, rfl, ha, hw⟩ := hrel
    have HA : Hid _ := ha
    have HW : Hid _ := hw
    obtain ⟨z0, z1, zf, hz⟩ := zbox w wr _ hw
    clear ha hw
    by_cases hlt : j < 4
    ·rcases (HR wr (kp_box HW.out).nw).out with h | ⟨b, off, rfl, hb, hc⟩
     ·rw [h] at c1; simp at c1
     obtain ⟨q0, q1⟩ := hc j (by omega)
     clear hc
     obtain ⟨p, hp⟩ : ∃ p, ptAt l j = p := ⟨_, rfl⟩
     have HP : Hid (ptAt l j = p) := hp
     rw [hp] at q0 q1
     clear hp
     obtain ⟨x, y⟩ := p
     have hcall : Hid _ := fun w => sgoodP w x y
     cases hf : ptB (x, y) with
     | true =>
      rw [hf] at hcall
      have HF : Hid (ptB (x, y) = true) := hf
      clear hf
      go_wp2_with fail
      refine (hcall.out _).mono ?_
      rintro e w1 ⟨rfl, k1⟩
      have K1 : Hid _ := Kp.trans (Kp.alloc HW.out _ _) k1
      clear k1
      go_wp2
      go_roundw
      case rel =>
       refine ⟨j + 1, by omega, by go_num, fun m hm => ?_, K1.out⟩
       rcases Nat.lt_succ_iff_lt_or_eq.1 hm with h | h
       ·exact HA.out m h
       ·rw [h, HP.out]; exact HF.out
      case measure => simp [intOf]; omega
     | false =>
      rw [hf] at hcall
      have HF : Hid (rx = 0 ∧ ry = 0 ∧ rb = false) := by
       have h1 : ptsB l = false := all_false _ (0, 0) l j (by omega) (show ptB (ptAt l j) = false by rw [HP.out]; exact hf)
       have h2 := HRR.out
       unfold cvV at h2
       rw [if_neg (fun h => by rw [h1] at h; cases h.2.2)] at h2
       injection h2 with h3 h4
       injection h3 with h5 h6
       exact ⟨h5.symm, h6.symm, h4.symm⟩
      clear hf
      go_wp2_with fail
      refine (hcall.out _).mono ?_
      rintro e w1 ⟨rfl, k1⟩
      have K1 : Hid _ := Kp.trans (Kp.alloc HW.out _ _) k1
      clear k1 z0 z1 zf hz
      obtain ⟨z0, z1, zf, hz⟩ := zbox w w1 _ K1.out
      go_wp2
      obtain ⟨e0, e1, e2⟩ := HF.out
      obtain ⟨y0, y1⟩ := set2 w1 w.heap.size (.int .i64 0) (.int .i64 0) z0 z1
      refine bodyPost_ret (v := .tuple #[.agg #[.int .i64 0, .int .i64 0], .bool false]) (by simp [results, Try.results11, go_sem, y0, y1]) rfl ⟨by rw [e0, e1, e2], ?_⟩
      exact ((kp_box K1.out).setCell (Nat.le_refl _) _).setCell (Nat.le_refl _) _
    ·have hg : ptsB l = true := all_true _ (0, 0) _ (fun m hm => HA.out m (by omega))
     have hS : Hid _ := fun (w : World) (a : Option Addr) (h : Pts w a l) => scurve_any w a c l k c1 h hg c2.1 c2.2
     have HG : Hid (ptB (curveP l k) = true) := curve_good c1 hg c2.1 c2.2
     have HF : Hid ((curveP l k).1 = rx ∧ (curveP l k).2 = ry ∧ rb = true) := by
      have h2 := HRR.out
      unfold cvV at h2
      rw [if_pos ⟨c1, c2, hg⟩] at h2
      injection h2 with h3 h4
      exact ⟨by rw [h3], by rw [h3], h4.symm⟩
     have HQ : Hid _ := HR wr (kp_box HW.out).nw
     clear hg HA HV HRR
     unfold ptV at hS
     obtain ⟨P, hP⟩ : ∃ P, curveP l k = P := ⟨_, rfl⟩
     rw [hP] at hS HG HF
     clear hP
     obtain ⟨px, py⟩ := P
     have hcall : Hid _ := fun w => sgoodP w px py
     rw [HG.out] at hcall
     go_wp2_with fail
     refine Calls.mono (hS.out _ _ HQ.out) ?_
     rintro e w1 ⟨rfl, k1⟩
     have K1 : Hid _ := Kp.trans HW.out k1
     clear k1 z0 z1 zf hz
     obtain ⟨z0, z1, zf, hz⟩ := zbox w w1 _ K1.out
     simp only
     go_wp2_with fail
     refine (hcall.out _).mono ?_
     rintro e w2 ⟨rfl, k2⟩
     have x0 := (k2.cells.1 w1.heap.size 0 (by simp)).trans (by simp : _ = some (.int .i64 px))
     have x1 := (k2.cells.1 w1.heap.size 1 (by simp)).trans (by simp : _ = some (.int .i64 py))
     have K2 : Hid _ := Kp.trans (Kp.alloc K1.out _ _) k2
     clear k2 z0 z1 zf hz
     obtain ⟨z0, z1, zf, hz⟩ := zbox w w2 _ K2.out
     go_wp2
     obtain ⟨e0, e1, e2⟩ := HF.out
     obtain ⟨y0, y1⟩ := set2 w2 w.heap.size (.int .i64 px) (.int .i64 py) z0 z1
     refine bodyPost_ret (v := .tuple #[.agg #[.int .i64 px, .int .i64 py], .bool true]) (by simp [results, Try.results11, go_sem, y0, y1]) rfl ⟨by rw [← e0, ← e1, e2], ?_⟩
     exact ((kp_box K2.out).setCell (Nat.le_refl _) _).setCell (Nat.le_refl _) _
  ·have hin : Hid _ := fun w => in_any w k 0 8
   rw [decide_eq_false c2] at hin
   have e : cvV l k = ((0, 0), false) := by unfold cvV; rw [if_neg (fun h => c2 h.2.1)]
   rw [e]
   clear e hr
   go_enter Try.func11, Try.ntmps11
   go_wp2_with fail
   refine (hin.out _).mono ?_
   rintro e w1 ⟨rfl, rfl⟩
   go_wp2
   exact bodyPost_ret (v := .tuple #[.agg #[.int .i64 0, .int .i64 0], .bool false]) (by simp [results, Try.results11, go_sem]) rfl ⟨rfl, (Kp.refl w).alloc _ _⟩
 ·have e : cvV l k = ((0, 0), false) := by unfold cvV; rw [if_neg (fun h => c1 h.1)]
  have hne : ((l.length : Int) != 4) = true := by simp; omega
  rw [e]
  clear e hr
  go_enter Try.func11, Try.ntmps11
  go_wp2
  exact bodyPost_ret (v := .tuple #[.agg #[.int .i64 0, .int .i64 0], .bool false]) (by simp [results, Try.results11, go_sem]) rfl ⟨rfl, (Kp.refl w).alloc _ _⟩
set_option maxHeartbeats 4000000 in
theorem icurveAt (l : List Pnt) (k : Int) (hl : l.length ≤ 1048576) : CvSays 10 l k := by
 intro w a c hr
 by_cases c1 : l.length = 4
 ·have hG : Hid _ := fun (w : World) (a : Option Addr) (h : Pts w a l) => igoodPs w a c l hl h
  rw [c1] at hG ⊢
  have HR : ∀ w', Nw w w' → Hid (Pts w' a l) := fun w' h => hr.nw h
  have H1 : Hid _ := HR (w.alloc (.cells #[.int .i64 0, .int .i64 0] 27)) ((Below.refl _ _).alloc (Nat.le_refl _) _)
  clear hr
  cases hg : ptsB l with
  | false =>
   rw [hg] at hG
   have e : cvV l k = ((0, 0), false) := by unfold cvV; rw [if_neg (fun h => by rw [hg] at h; cases h.2.2)]
   rw [e]
   clear e hg
   go_enter Try.func10, Try.ntmps10
   go_wp2_with fail
   refine Calls.mono (hG.out _ _ H1.out) ?_
   rintro e w1 ⟨rfl, k1⟩
   have K1 : Hid _ := k1
   clear k1
   obtain ⟨z0, z1, zf, hz⟩ := zbox w w1 _ K1.out
   go_wp2
   obtain ⟨y0, y1⟩ := set2 w1 w.heap.size (.int .i64 0) (.int .i64 0) z0 z1
   refine bodyPost_ret (v := .tuple #[.agg #[.int .i64 0, .int .i64 0], .bool false]) (by simp [results, Try.results10, go_sem, y0, y1]) rfl ⟨rfl, ?_⟩
   exact ((kp_box K1.out).setCell (Nat.le_refl _) _).setCell (Nat.le_refl _) _
  | true =>
   rw [hg] at hG
   by_cases c2 : 0 ≤ k ∧ k ≤ 8
   ·have e : cvV l k = (curveP l k, true) := by unfold cvV; rw [if_pos ⟨c1, c2, hg⟩]
    rw [e]
    have hS : Hid _ := fun (w : World) (a : Option Addr) (h : Pts w a l) => icurve_any w a c l k c1 h hg c2.1 c2.2
    unfold ptV at hS
    have hk1 : decide (k < 0) = false := by simp; omega
    have hk2 : decide (8 < k) = false := by simp; omega
    clear e hg
    generalize curveP l k = P at *
    obtain ⟨px, py⟩ := P
    simp only at *
    go_enter Try.func10, Try.ntmps10
    go_wp2_with fail
    refine Calls.mono (hG.out _ _ H1.out) ?_
    rintro e w1 ⟨rfl, k1⟩
    have K1 : Hid _ := k1
    have H2 : Hid _ := HR w1 (kp_box k1).nw
    clear k1
    go_wp2_with fail
    refine Calls.mono (hS.out _ _ H2.out) ?_
    rintro e w2 ⟨rfl, k2⟩
    have K2 : Hid _ := Kp.trans K1.out k2
    clear k2
    obtain ⟨z0, z1, zf, hz⟩ := zbox w w2 _ K2.out
    go_wp2
    obtain ⟨y0, y1⟩ := set2 w2 w.heap.size (.int .i64 px) (.int .i64 py) z0 z1
    refine bodyPost_ret (v := .tuple #[.agg #[.int .i64 px, .int .i64 py], .bool true]) (by simp [results, Try.results10, go_sem, y0, y1]) rfl ⟨rfl, ?_⟩
    exact ((kp_box K2.out).setCell (Nat.le_refl _) _).setCell (Nat.le_refl _) _
   ·have e : cvV l k = ((0, 0), false) := by unfold cvV; rw [if_neg (fun h => c2 h.2.1)]
    rw [e]
    clear e hg
    by_cases c3 : k < 0
    ·have hk1 : decide (k < 0) = true := by simp; omega
     go_enter Try.func10, Try.ntmps10
     go_wp2_with fail
     refine Calls.mono (hG.out _ _ H1.out) ?_
     rintro e w1 ⟨rfl, k1⟩
     have K1 : Hid _ := k1
     clear k1
     obtain ⟨z0, z1, zf, hz⟩ := zbox w w1 _ K1.out
     go_wp2
     obtain ⟨y0, y1⟩ := set2 w1 w.heap.size (.int .i64 0) (.int .i64 0) z0 z1
     refine bodyPost_ret (v := .tuple #[.agg #[.int .i64 0, .int .i64 0], .bool false]) (by simp [results, Try.results10, go_sem, y0, y1]) rfl ⟨rfl, ?_⟩
     exact ((kp_box K1.out).setCell (Nat.le_refl _) _).setCell (Nat.le_refl _) _
    ·have hk1 : decide (k < 0) = false := by simp; omega
     have hk2 : decide (8 < k) = true := by simp; omega
     go_enter Try.func10, Try.ntmps10
     go_wp2_with fail
     refine Calls.mono (hG.out _ _ H1.out) ?_
     rintro e w1 ⟨rfl, k1⟩
     have K1 : Hid _ := k1
     clear k1
     obtain ⟨z0, z1, zf, hz⟩ := zbox w w1 _ K1.out
     go_wp2
     obtain ⟨y0, y1⟩ := set2 w1 w.heap.size (.int .i64 0) (.int .i64 0) z0 z1
     refine bodyPost_ret (v := .tuple #[.agg #[.int .i64 0, .int .i64 0], .bool false]) (by simp [results, Try.results10, go_sem, y0, y1]) rfl ⟨rfl, ?_⟩
     exact ((kp_box K1.out).setCell (Nat.le_refl _) _).setCell (Nat.le_refl _) _
 ·have e : cvV l k = ((0, 0), false) := by unfold cvV; rw [if_neg (fun h => c1 h.1)]
  have hne : ((l.length : Int) != 4) = true := by simp; omega
  rw [e]
  clear e hr
  go_enter Try.func10, Try.ntmps10
  go_wp2
  exact bodyPost_ret (v := .tuple #[.agg #[.int .i64 0, .int .i64 0], .bool false]) (by simp [results, Try.results10, go_sem]) rfl ⟨rfl, (Kp.refl w).alloc _ _⟩
structure MX where
 ba : Nat
 bp : Nat
 A : Int
 B : Int
 C : Int
 D : Int
 E : Int
 F : Int
 x : Int
 y : Int
 W : World
 a0 : Act
structure MXOk (X : MX) : Prop where
 cA : X.W.cell? ⟨X.ba, 0, none⟩ = some (.int .i64 X.A)
 cB : X.W.cell? ⟨X.ba, 1, none⟩ = some (.int .i64 X.B)
 cC : X.W.cell? ⟨X.ba, 2, none⟩ = some (.int .i64 X.C)
 cD : X.W.cell? ⟨X.ba, 3, none⟩ = some (.int .i64 X.D)
 cE : X.W.cell? ⟨X.ba, 4, none⟩ = some (.int .i64 X.E)
 cF : X.W.cell? ⟨X.ba, 5, none⟩ = some (.int .i64 X.F)
 cx : X.W.cell? ⟨X.bp, 0, none⟩ = some (.int .i64 X.x)
 cy : X.W.cell? ⟨X.bp, 1, none⟩ = some (.int .i64 X.y)
 w1 : IntKind.i64.wrap (fmV X.A X.x + fmV X.C X.y) = fmV X.A X.x + fmV X.C X.y
 w2 : IntKind.i64.wrap (fmV X.A X.x + fmV X.C X.y + X.E) = fmV X.A X.x + fmV X.C X.y + X.E
 w3 : IntKind.i64.wrap (fmV X.B X.x + fmV X.D X.y) = fmV X.B X.x + fmV X.D X.y
 w4 : IntKind.i64.wrap (fmV X.B X.x + fmV X.D X.y + X.F) = fmV X.B X.x + fmV X.D X.y + X.F
 e2 : X.a0.eval (.tmp 2) = .pointer (some ⟨X.ba, 0, none⟩)
 e3 : X.a0.eval (.tmp 3) = .pointer (some ⟨X.bp, 0, none⟩)
 sz : X.a0.tmps.size = 43
def MX.val0 (X : MX) : Nat → Value
 | 7 => .pointer (some ⟨X.ba, 0, none⟩)
 | 8 => .int .i64 X.A
 | 9 => .pointer (some ⟨X.bp, 0, none⟩)
 | 10 => .int .i64 X.x
 | 11 => .int .i64 (fmV X.A X.x)
 | 12 => .pointer (some ⟨X.ba, 2, none⟩)
 | 13 => .int .i64 X.C
 | 14 => .pointer (some ⟨X.bp, 1, none⟩)
 | 15 => .int .i64 X.y
 | 16 => .int .i64 (fmV X.C X.y)
 | 17 => .int .i64 (fmV X.A X.x + fmV X.C X.y)
 | 18 => .pointer (some ⟨X.ba, 4, none⟩)
 | 19 => .int .i64 X.E
 | 20 => .int .i64 (fmV X.A X.x + fmV X.C X.y + X.E)
 | 21 => .pointer (some ⟨X.ba, 1, none⟩)
 | 22 => .int .i64 X.B
 | 23 => .pointer (some ⟨X.bp, 0, none⟩)
 | 24 => .int .i64 X.x
 | 25 => .int .i64 (fmV X.B X.x)
 | 26 => .pointer (some ⟨X.ba, 3, none⟩)
 | 27 => .int .i64 X.D
 | 28 => .pointer (some ⟨X.bp, 1, none⟩)
 | 29 => .int .i64 X.y
 | 30 => .int .i64 (fmV X.D X.y)
 | 31 => .int .i64 (fmV X.B X.x + fmV X.D X.y)
 | 32 => .pointer (some ⟨X.ba, 5, none⟩)
 | 33 => .int .i64 X.F
 | 34 => .int .i64 (fmV X.B X.x + fmV X.D X.y + X.F)
 | 35 => .agg #[.int .i64 (fmV X.A X.x + fmV X.C X.y + X.E), .int .i64 (fmV X.B X.x + fmV X.D X.y + X.F)]
 | _ => undef
def MX.av : Nat → Option Nat
 | 6 => some 0
 | _ => none
def MX.acts : List Nat := [29, 30]
def MX.Wd (X : MX) : Nat → (Nat → Value) → World → Prop
 | 0, _, w => Kp X.W w
 | 1, γ, w => ∃ g, γ 0 = .pointer (some ⟨g, 0, none⟩) ∧ X.W.heap.size ≤ g ∧ w.cell? ⟨g, 0, none⟩ = some (.int .i64 0) ∧ w.cell? ⟨g, 1, none⟩ = some (.int .i64 0) ∧ (∀ o, w.frozen? ⟨g, o, none⟩ = false) ∧ Kp X.W w
 | _, γ, w => ∃ g, γ 0 = .pointer (some ⟨g, 0, none⟩) ∧ X.W.heap.size ≤ g ∧ w.cell? ⟨g, 0, none⟩ = some (.int .i64 (fmV X.A X.x + fmV X.C X.y + X.E)) ∧ w.cell? ⟨g, 1, none⟩ = some (.int .i64 (fmV X.B X.x + fmV X.D X.y + X.F)) ∧ (∀ o, w.frozen? ⟨g, o, none⟩ = false) ∧ Kp X.W w
theorem MX.kp {X : MX} : ∀ {n : Nat} {γ : Nat → Value} {w : World}, X.Wd n γ w → Kp X.W w
 | 0, _, _, h => h
 | 1, _, _, ⟨_, _, _, _, _, _, h⟩ => h
 | _ + 2, _, _, ⟨_, _, _, _, _, _, h⟩ => h
theorem MX.keep {X : MX} : ∀ {n : Nat} {γ : Nat → Value} {w w' : World}, X.Wd n γ w → Kp w w' → X.Wd n γ w'
 | 0, _, _, _, h, k => Kp.trans h k
 | 1, _, w, _, ⟨g, h1, h2, h3, h4, h5, h6⟩, k => ⟨g, h1, h2, (k.cells.1 _ _ (World.block_lt_of_cell? w ⟨g, 0, none⟩ h3)).trans h3, (k.cells.1 _ _ (World.block_lt_of_cell? w ⟨g, 0, none⟩ h3)).trans h4, fun o => (k.cells.2 _ _).trans (h5 o), Kp.trans h6 k⟩
 | _ + 2, _, w, _, ⟨g, h1, h2, h3, h4, h5, h6⟩, k => ⟨g, h1, h2, (k.cells.1 _ _ (World.block_lt_of_cell? w ⟨g, 0, none⟩ h3)).trans h3, (k.cells.1 _ _ (World.block_lt_of_cell? w ⟨g, 0, none⟩ h3)).trans h4, fun o => (k.cells.2 _ _).trans (h5 o), Kp.trans h6 k⟩
theorem kp_at {W w : World} {b o : Nat} {v : Value} (k : Kp W w) (h : W.cell? ⟨b, o, none⟩ = some v) : w.cell? ⟨b, o, none⟩ = some v := (k.cells.1 _ _ (World.block_lt_of_cell? W ⟨b, o, none⟩ h)).trans h
theorem MX.chain : chainG (opsOf 1 Try.f88) MX.acts = true := by kernel_rfl
theorem MX.nodup : MX.acts.Nodup := by decide
theorem MX.inj {listed : Array Bool} {i k : Nat} (h : (List.range (opsOf 1 Try.f88).size).all (fun j => decide (j = i) || !(match dstOf (opsOf 1 Try.f88) j with | some d => decide (MX.av d = some k) | none => false)) = true) (hu : listed.getD i false = false) : ∀ d, got (opsOf 1 Try.f88) listed d → MX.av d ≠ some k := by
 rintro d ⟨j, h1, h2⟩ h3
 have hlt : j < (opsOf 1 Try.f88).size := by
  rcases Nat.lt_or_ge j (opsOf 1 Try.f88).size with h4 | h4
  ·exact h4
  ·unfold dstOf at h2; rw [Array.getElem?_eq_none h4] at h2; cases h2
 have h5 := List.all_eq_true.1 h j (List.mem_range.2 hlt)
 rw [h2] at h5
 simp only [h3, decide_true, Bool.not_true, Bool.or_false, decide_eq_true_eq] at h5
 subst h5
 rw [hu] at h1
 cases h1
theorem MX.s0 (X : MX) (ok : MXOk X) {Q : PQ} : StepG (opsOf 1 Try.f88) MX.acts MX.av X.val0 X.Wd X.a0 Q 0 := by
 intro γ listed a w o hF hC hW h1 ho h2
 obtain ⟨hd, hop, hg⟩ := fields2 (x := some 7) (y := Op.fieldAddr 31 (.tmp 2) 0) (z := none) (by kernel_rfl) ho
 have e2 : a.eval (.tmp 2) = .pointer (some ⟨X.ba, 0, none⟩) := (hF.eval0 (by kernel_rfl)).trans ok.e2
 refine st_pureG hF hC hW ho h2 (by decide) hd hg rfl ?_
 show _ = Result.ok (Next.value (.pointer (some ⟨X.ba, 0, none⟩))) w
 generalize a.eval = ρ at e2 ⊢
 unfold execOp
 rw [hop]
 simp [e2, go_sem]
theorem MX.s1 (X : MX) (ok : MXOk X) {Q : PQ} : StepG (opsOf 1 Try.f88) MX.acts MX.av X.val0 X.Wd X.a0 Q 1 := by
 intro γ listed a w o hF hC hW h1 ho h2
 obtain ⟨hd, hop, hg⟩ := fields2 (x := some 8) (y := Op.load 3 (.tmp 7)) (z := none) (by kernel_rfl) ho
 have e7 : a.eval (.tmp 7) = .pointer (some ⟨X.ba, 0, none⟩) := slotG hF ho h2 (j := 0) (d := 7) (by kernel_rfl) (by kernel_rfl) (by rw [ok.sz]; decide)
 have hc := kp_at (MX.kp hW) ok.cA
 refine st_pureG hF hC hW ho h2 (by decide) hd hg rfl ?_
 show _ = Result.ok (Next.value (.int .i64 X.A)) w
 generalize a.eval = ρ at e7 ⊢
 unfold execOp
 rw [hop]
 simp [e7, hc, go_sem]
theorem MX.s2 (X : MX) (ok : MXOk X) {Q : PQ} : StepG (opsOf 1 Try.f88) MX.acts MX.av X.val0 X.Wd X.a0 Q 2 := by
 intro γ listed a w o hF hC hW h1 ho h2
 obtain ⟨hd, hop, hg⟩ := fields2 (x := some 9) (y := Op.fieldAddr 27 (.tmp 3) 0) (z := none) (by kernel_rfl) ho
 have e3 : a.eval (.tmp 3) = .pointer (some ⟨X.bp, 0, none⟩) := (hF.eval0 (by kernel_rfl)).trans ok.e3
 refine st_pureG hF hC hW ho h2 (by decide) hd hg rfl ?_
 show _ = Result.ok (Next.value (.pointer (some ⟨X.bp, 0, none⟩))) w
 generalize a.eval = ρ at e3 ⊢
 unfold execOp
 rw [hop]
 simp [e3, go_sem]
theorem MX.s3 (X : MX) (ok : MXOk X) {Q : PQ} : StepG (opsOf 1 Try.f88) MX.acts MX.av X.val0 X.Wd X.a0 Q 3 := by
 intro γ listed a w o hF hC hW h1 ho h2
 obtain ⟨hd, hop, hg⟩ := fields2 (x := some 10) (y := Op.load 3 (.tmp 9)) (z := none) (by kernel_rfl) ho
 have e9 : a.eval (.tmp 9) = .pointer (some ⟨X.bp, 0, none⟩) := slotG hF ho h2 (j := 2) (d := 9) (by kernel_rfl) (by kernel_rfl) (by rw [ok.sz]; decide)
 have hc := kp_at (MX.kp hW) ok.cx
 refine st_pureG hF hC hW ho h2 (by decide) hd hg rfl ?_
 show _ = Result.ok (Next.value (.int .i64 X.x)) w
 generalize a.eval = ρ at e9 ⊢
 unfold execOp
 rw [hop]
 simp [e9, hc, go_sem]
theorem MX.s4 (X : MX) (ok : MXOk X) {Q : PQ} : StepG (opsOf 1 Try.f88) MX.acts MX.av X.val0 X.Wd X.a0 Q 4 := by
 intro γ listed a w o hF hC hW h1 ho h2
 obtain ⟨hd, hop, hg⟩ := fields2 (x := some 11) (y := Op.call { callee := .value (.func 100), args := #[(.tmp 8), (.tmp 10)], argTypes := #[3, 3] }) (z := none) (by kernel_rfl) ho
 have e8 : a.eval (.tmp 8) = .int .i64 X.A := slotG hF ho h2 (j := 1) (d := 8) (by kernel_rfl) (by kernel_rfl) (by rw [ok.sz]; decide)
 have e10 : a.eval (.tmp 10) = .int .i64 X.x := slotG hF ho h2 (j := 3) (d := 10) (by kernel_rfl) (by kernel_rfl) (by rw [ok.sz]; decide)
 have ef : a.eval (.func 100) = .func (.func 100) #[] #[] := rfl
 refine st_callG hF hC hW ho h2 (by decide) hd hg rfl (f := 100) (args := #[.int .i64 X.A, .int .i64 X.x]) ?_ ?_ ?_
 ·generalize a.eval = ρ at e8 e10 ef ⊢
  unfold execOp
  rw [hop]
  simp [e8, e10, ef, go_sem]
 ·exact (ifm X.A X.x w).mono fun e w' ⟨h1, h2⟩ => ⟨h1, h2 ▸ Kp.refl _⟩
 ·intro w' hk; exact MX.keep hW hk
theorem MX.s5 (X : MX) (ok : MXOk X) {Q : PQ} : StepG (opsOf 1 Try.f88) MX.acts MX.av X.val0 X.Wd X.a0 Q 5 := by
 intro γ listed a w o hF hC hW h1 ho h2
 obtain ⟨hd, hop, hg⟩ := fields2 (x := some 12) (y := Op.fieldAddr 31 (.tmp 2) 2) (z := none) (by kernel_rfl) ho
 have e2 : a.eval (.tmp 2) = .pointer (some ⟨X.ba, 0, none⟩) := (hF.eval0 (by kernel_rfl)).trans ok.e2
 refine st_pureG hF hC hW ho h2 (by decide) hd hg rfl ?_
 show _ = Result.ok (Next.value (.pointer (some ⟨X.ba, 2, none⟩))) w
 generalize a.eval = ρ at e2 ⊢
 unfold execOp
 rw [hop]
 simp [e2, go_sem]
theorem MX.s6 (X : MX) (ok : MXOk X) {Q : PQ} : StepG (opsOf 1 Try.f88) MX.acts MX.av X.val0 X.Wd X.a0 Q 6 := by
 intro γ listed a w o hF hC hW h1 ho h2
 obtain ⟨hd, hop, hg⟩ := fields2 (x := some 13) (y := Op.load 3 (.tmp 12)) (z := none) (by kernel_rfl) ho
 have e12 : a.eval (.tmp 12) = .pointer (some ⟨X.ba, 2, none⟩) := slotG hF ho h2 (j := 5) (d := 12) (by kernel_rfl) (by kernel_rfl) (by rw [ok.sz]; decide)
 have hc := kp_at (MX.kp hW) ok.cC
 refine st_pureG hF hC hW ho h2 (by decide) hd hg rfl ?_
 show _ = Result.ok (Next.value (.int .i64 X.C)) w
 generalize a.eval = ρ at e12 ⊢
 unfold execOp
 rw [hop]
 simp [e12, hc, go_sem]
theorem MX.s7 (X : MX) (ok : MXOk X) {Q : PQ} : StepG (opsOf 1 Try.f88) MX.acts MX.av X.val0 X.Wd X.a0 Q 7 := by
 intro γ listed a w o hF hC hW h1 ho h2
 obtain ⟨hd, hop, hg⟩ := fields2 (x := some 14) (y := Op.fieldAddr 27 (.tmp 3) 1) (z := none) (by kernel_rfl) ho
 have e3 : a.eval (.tmp 3) = .pointer (some ⟨X.bp, 0, none⟩) := (hF.eval0 (by kernel_rfl)).trans ok.e3
 refine st_pureG hF hC hW ho h2 (by decide) hd hg rfl ?_
 show _ = Result.ok (Next.value (.pointer (some ⟨X.bp, 1, none⟩))) w
 generalize a.eval = ρ at e3 ⊢
 unfold execOp
 rw [hop]
 simp [e3, go_sem]
theorem MX.s8 (X : MX) (ok : MXOk X) {Q : PQ} : StepG (opsOf 1 Try.f88) MX.acts MX.av X.val0 X.Wd X.a0 Q 8 := by
 intro γ listed a w o hF hC hW h1 ho h2
 obtain ⟨hd, hop, hg⟩ := fields2 (x := some 15) (y := Op.load 3 (.tmp 14)) (z := none) (by kernel_rfl) ho
 have e14 : a.eval (.tmp 14) = .pointer (some ⟨X.bp, 1, none⟩) := slotG hF ho h2 (j := 7) (d := 14) (by kernel_rfl) (by kernel_rfl) (by rw [ok.sz]; decide)
 have hc := kp_at (MX.kp hW) ok.cy
 refine st_pureG hF hC hW ho h2 (by decide) hd hg rfl ?_
 show _ = Result.ok (Next.value (.int .i64 X.y)) w
 generalize a.eval = ρ at e14 ⊢
 unfold execOp
 rw [hop]
 simp [e14, hc, go_sem]
theorem MX.s9 (X : MX) (ok : MXOk X) {Q : PQ} : StepG (opsOf 1 Try.f88) MX.acts MX.av X.val0 X.Wd X.a0 Q 9 := by
 intro γ listed a w o hF hC hW h1 ho h2
 obtain ⟨hd, hop, hg⟩ := fields2 (x := some 16) (y := Op.call { callee := .value (.func 100), args := #[(.tmp 13), (.tmp 15)], argTypes := #[3, 3] }) (z := none) (by kernel_rfl) ho
 have e13 : a.eval (.tmp 13) = .int .i64 X.C := slotG hF ho h2 (j := 6) (d := 13) (by kernel_rfl) (by kernel_rfl) (by rw [ok.sz]; decide)
 have e15 : a.eval (.tmp 15) = .int .i64 X.y := slotG hF ho h2 (j := 8) (d := 15) (by kernel_rfl) (by kernel_rfl) (by rw [ok.sz]; decide)
 have ef : a.eval (.func 100) = .func (.func 100) #[] #[] := rfl
 refine st_callG hF hC hW ho h2 (by decide) hd hg rfl (f := 100) (args := #[.int .i64 X.C, .int .i64 X.y]) ?_ ?_ ?_
 ·generalize a.eval = ρ at e13 e15 ef ⊢
  unfold execOp
  rw [hop]
  simp [e13, e15, ef, go_sem]
 ·exact (ifm X.C X.y w).mono fun e w' ⟨h1, h2⟩ => ⟨h1, h2 ▸ Kp.refl _⟩
 ·intro w' hk; exact MX.keep hW hk
theorem MX.s10 (X : MX) (ok : MXOk X) {Q : PQ} : StepG (opsOf 1 Try.f88) MX.acts MX.av X.val0 X.Wd X.a0 Q 10 := by
 intro γ listed a w o hF hC hW h1 ho h2
 obtain ⟨hd, hop, hg⟩ := fields2 (x := some 17) (y := Op.binOp .add 3 (.tmp 11) (.tmp 16) 3) (z := none) (by kernel_rfl) ho
 have e11 : a.eval (.tmp 11) = .int .i64 (fmV X.A X.x) := slotG hF ho h2 (j := 4) (d := 11) (by kernel_rfl) (by kernel_rfl) (by rw [ok.sz]; decide)
 have e16 : a.eval (.tmp 16) = .int .i64 (fmV X.C X.y) := slotG hF ho h2 (j := 9) (d := 16) (by kernel_rfl) (by kernel_rfl) (by rw [ok.sz]; decide)
 refine st_pureG hF hC hW ho h2 (by decide) hd hg rfl ?_
 show _ = Result.ok (Next.value (.int .i64 (fmV X.A X.x + fmV X.C X.y))) w
 generalize a.eval = ρ at e11 e16 ⊢
 unfold execOp
 rw [hop]
 simp [e11, e16, ok.w1, go_sem]
theorem MX.s11 (X : MX) (ok : MXOk X) {Q : PQ} : StepG (opsOf 1 Try.f88) MX.acts MX.av X.val0 X.Wd X.a0 Q 11 := by
 intro γ listed a w o hF hC hW h1 ho h2
 obtain ⟨hd, hop, hg⟩ := fields2 (x := some 18) (y := Op.fieldAddr 31 (.tmp 2) 4) (z := none) (by kernel_rfl) ho
 have e2 : a.eval (.tmp 2) = .pointer (some ⟨X.ba, 0, none⟩) := (hF.eval0 (by kernel_rfl)).trans ok.e2
 refine st_pureG hF hC hW ho h2 (by decide) hd hg rfl ?_
 show _ = Result.ok (Next.value (.pointer (some ⟨X.ba, 4, none⟩))) w
 generalize a.eval = ρ at e2 ⊢
 unfold execOp
 rw [hop]
 simp [e2, go_sem]
theorem MX.s12 (X : MX) (ok : MXOk X) {Q : PQ} : StepG (opsOf 1 Try.f88) MX.acts MX.av X.val0 X.Wd X.a0 Q 12 := by
 intro γ listed a w o hF hC hW h1 ho h2
 obtain ⟨hd, hop, hg⟩ := fields2 (x := some 19) (y := Op.load 3 (.tmp 18)) (z := none) (by kernel_rfl) ho
 have e18 : a.eval (.tmp 18) = .pointer (some ⟨X.ba, 4, none⟩) := slotG hF ho h2 (j := 11) (d := 18) (by kernel_rfl) (by kernel_rfl) (by rw [ok.sz]; decide)
 have hc := kp_at (MX.kp hW) ok.cE
 refine st_pureG hF hC hW ho h2 (by decide) hd hg rfl ?_
 show _ = Result.ok (Next.value (.int .i64 X.E)) w
 generalize a.eval = ρ at e18 ⊢
 unfold execOp
 rw [hop]
 simp [e18, hc, go_sem]
theorem MX.s13 (X : MX) (ok : MXOk X) {Q : PQ} : StepG (opsOf 1 Try.f88) MX.acts MX.av X.val0 X.Wd X.a0 Q 13 := by
 intro γ listed a w o hF hC hW h1 ho h2
 obtain ⟨hd, hop, hg⟩ := fields2 (x := some 20) (y := Op.binOp .add 3 (.tmp 17) (.tmp 19) 3) (z := none) (by kernel_rfl) ho
 have e17 : a.eval (.tmp 17) = .int .i64 (fmV X.A X.x + fmV X.C X.y) := slotG hF ho h2 (j := 10) (d := 17) (by kernel_rfl) (by kernel_rfl) (by rw [ok.sz]; decide)
 have e19 : a.eval (.tmp 19) = .int .i64 X.E := slotG hF ho h2 (j := 12) (d := 19) (by kernel_rfl) (by kernel_rfl) (by rw [ok.sz]; decide)
 refine st_pureG hF hC hW ho h2 (by decide) hd hg rfl ?_
 show _ = Result.ok (Next.value (.int .i64 (fmV X.A X.x + fmV X.C X.y + X.E))) w
 generalize a.eval = ρ at e17 e19 ⊢
 unfold execOp
 rw [hop]
 simp [e17, e19, ok.w2, go_sem]
theorem MX.s14 (X : MX) (ok : MXOk X) {Q : PQ} : StepG (opsOf 1 Try.f88) MX.acts MX.av X.val0 X.Wd X.a0 Q 14 := by
 intro γ listed a w o hF hC hW h1 ho h2
 obtain ⟨hd, hop, hg⟩ := fields2 (x := some 21) (y := Op.fieldAddr 31 (.tmp 2) 1) (z := none) (by kernel_rfl) ho
 have e2 : a.eval (.tmp 2) = .pointer (some ⟨X.ba, 0, none⟩) := (hF.eval0 (by kernel_rfl)).trans ok.e2
 refine st_pureG hF hC hW ho h2 (by decide) hd hg rfl ?_
 show _ = Result.ok (Next.value (.pointer (some ⟨X.ba, 1, none⟩))) w
 generalize a.eval = ρ at e2 ⊢
 unfold execOp
 rw [hop]
 simp [e2, go_sem]
theorem MX.s15 (X : MX) (ok : MXOk X) {Q : PQ} : StepG (opsOf 1 Try.f88) MX.acts MX.av X.val0 X.Wd X.a0 Q 15 := by
 intro γ listed a w o hF hC hW h1 ho h2
 obtain ⟨hd, hop, hg⟩ := fields2 (x := some 22) (y := Op.load 3 (.tmp 21)) (z := none) (by kernel_rfl) ho
 have e21 : a.eval (.tmp 21) = .pointer (some ⟨X.ba, 1, none⟩) := slotG hF ho h2 (j := 14) (d := 21) (by kernel_rfl) (by kernel_rfl) (by rw [ok.sz]; decide)
 have hc := kp_at (MX.kp hW) ok.cB
 refine st_pureG hF hC hW ho h2 (by decide) hd hg rfl ?_
 show _ = Result.ok (Next.value (.int .i64 X.B)) w
 generalize a.eval = ρ at e21 ⊢
 unfold execOp
 rw [hop]
 simp [e21, hc, go_sem]
theorem MX.s16 (X : MX) (ok : MXOk X) {Q : PQ} : StepG (opsOf 1 Try.f88) MX.acts MX.av X.val0 X.Wd X.a0 Q 16 := by
 intro γ listed a w o hF hC hW h1 ho h2
 obtain ⟨hd, hop, hg⟩ := fields2 (x := some 23) (y := Op.fieldAddr 27 (.tmp 3) 0) (z := none) (by kernel_rfl) ho
 have e3 : a.eval (.tmp 3) = .pointer (some ⟨X.bp, 0, none⟩) := (hF.eval0 (by kernel_rfl)).trans ok.e3
 refine st_pureG hF hC hW ho h2 (by decide) hd hg rfl ?_
 show _ = Result.ok (Next.value (.pointer (some ⟨X.bp, 0, none⟩))) w
 generalize a.eval = ρ at e3 ⊢
 unfold execOp
 rw [hop]
 simp [e3, go_sem]
theorem MX.s17 (X : MX) (ok : MXOk X) {Q : PQ} : StepG (opsOf 1 Try.f88) MX.acts MX.av X.val0 X.Wd X.a0 Q 17 := by
 intro γ listed a w o hF hC hW h1 ho h2
 obtain ⟨hd, hop, hg⟩ := fields2 (x := some 24) (y := Op.load 3 (.tmp 23)) (z := none) (by kernel_rfl) ho
 have e23 : a.eval (.tmp 23) = .pointer (some ⟨X.bp, 0, none⟩) := slotG hF ho h2 (j := 16) (d := 23) (by kernel_rfl) (by kernel_rfl) (by rw [ok.sz]; decide)
 have hc := kp_at (MX.kp hW) ok.cx
 refine st_pureG hF hC hW ho h2 (by decide) hd hg rfl ?_
 show _ = Result.ok (Next.value (.int .i64 X.x)) w
 generalize a.eval = ρ at e23 ⊢
 unfold execOp
 rw [hop]
 simp [e23, hc, go_sem]
theorem MX.s18 (X : MX) (ok : MXOk X) {Q : PQ} : StepG (opsOf 1 Try.f88) MX.acts MX.av X.val0 X.Wd X.a0 Q 18 := by
 intro γ listed a w o hF hC hW h1 ho h2
 obtain ⟨hd, hop, hg⟩ := fields2 (x := some 25) (y := Op.call { callee := .value (.func 100), args := #[(.tmp 22), (.tmp 24)], argTypes := #[3, 3] }) (z := none) (by kernel_rfl) ho
 have e22 : a.eval (.tmp 22) = .int .i64 X.B := slotG hF ho h2 (j := 15) (d := 22) (by kernel_rfl) (by kernel_rfl) (by rw [ok.sz]; decide)
 have e24 : a.eval (.tmp 24) = .int .i64 X.x := slotG hF ho h2 (j := 17) (d := 24) (by kernel_rfl) (by kernel_rfl) (by rw [ok.sz]; decide)
 have ef : a.eval (.func 100) = .func (.func 100) #[] #[] := rfl
 refine st_callG hF hC hW ho h2 (by decide) hd hg rfl (f := 100) (args := #[.int .i64 X.B, .int .i64 X.x]) ?_ ?_ ?_
 ·generalize a.eval = ρ at e22 e24 ef ⊢
  unfold execOp
  rw [hop]
  simp [e22, e24, ef, go_sem]
 ·exact (ifm X.B X.x w).mono fun e w' ⟨h1, h2⟩ => ⟨h1, h2 ▸ Kp.refl _⟩
 ·intro w' hk; exact MX.keep hW hk
theorem MX.s19 (X : MX) (ok : MXOk X) {Q : PQ} : StepG (opsOf 1 Try.f88) MX.acts MX.av X.val0 X.Wd X.a0 Q 19 := by
 intro γ listed a w o hF hC hW h1 ho h2
 obtain ⟨hd, hop, hg⟩ := fields2 (x := some 26) (y := Op.fieldAddr 31 (.tmp 2) 3) (z := none) (by kernel_rfl) ho
 have e2 : a.eval (.tmp 2) = .pointer (some ⟨X.ba, 0, none⟩) := (hF.eval0 (by kernel_rfl)).trans ok.e2
 refine st_pureG hF hC hW ho h2 (by decide) hd hg rfl ?_
 show _ = Result.ok (Next.value (.pointer (some ⟨X.ba, 3, none⟩))) w
 generalize a.eval = ρ at e2 ⊢
 unfold execOp
 rw [hop]
 simp [e2, go_sem]
theorem MX.s20 (X : MX) (ok : MXOk X) {Q : PQ} : StepG (opsOf 1 Try.f88) MX.acts MX.av X.val0 X.Wd X.a0 Q 20 := by
 intro γ listed a w o hF hC hW h1 ho h2
 obtain ⟨hd, hop, hg⟩ := fields2 (x := some 27) (y := Op.load 3 (.tmp 26)) (z := none) (by kernel_rfl) ho
 have e26 : a.eval (.tmp 26) = .pointer (some ⟨X.ba, 3, none⟩) := slotG hF ho h2 (j := 19) (d := 26) (by kernel_rfl) (by kernel_rfl) (by rw [ok.sz]; decide)
 have hc := kp_at (MX.kp hW) ok.cD
 refine st_pureG hF hC hW ho h2 (by decide) hd hg rfl ?_
 show _ = Result.ok (Next.value (.int .i64 X.D)) w
 generalize a.eval = ρ at e26 ⊢
 unfold execOp
 rw [hop]
 simp [e26, hc, go_sem]
theorem MX.s21 (X : MX) (ok : MXOk X) {Q : PQ} : StepG (opsOf 1 Try.f88) MX.acts MX.av X.val0 X.Wd X.a0 Q 21 := by
 intro γ listed a w o hF hC hW h1 ho h2
 obtain ⟨hd, hop, hg⟩ := fields2 (x := some 28) (y := Op.fieldAddr 27 (.tmp 3) 1) (z := none) (by kernel_rfl) ho
 have e3 : a.eval (.tmp 3) = .pointer (some ⟨X.bp, 0, none⟩) := (hF.eval0 (by kernel_rfl)).trans ok.e3
 refine st_pureG hF hC hW ho h2 (by decide) hd hg rfl ?_
 show _ = Result.ok (Next.value (.pointer (some ⟨X.bp, 1, none⟩))) w
 generalize a.eval = ρ at e3 ⊢
 unfold execOp
 rw [hop]
 simp [e3, go_sem]
theorem MX.s22 (X : MX) (ok : MXOk X) {Q : PQ} : StepG (opsOf 1 Try.f88) MX.acts MX.av X.val0 X.Wd X.a0 Q 22 := by
 intro γ listed a w o hF hC hW h1 ho h2
 obtain ⟨hd, hop, hg⟩ := fields2 (x := some 29) (y := Op.load 3 (.tmp 28)) (z := none) (by kernel_rfl) ho
 have e28 : a.eval (.tmp 28) = .pointer (some ⟨X.bp, 1, none⟩) := slotG hF ho h2 (j := 21) (d := 28) (by kernel_rfl) (by kernel_rfl) (by rw [ok.sz]; decide)
 have hc := kp_at (MX.kp hW) ok.cy
 refine st_pureG hF hC hW ho h2 (by decide) hd hg rfl ?_
 show _ = Result.ok (Next.value (.int .i64 X.y)) w
 generalize a.eval = ρ at e28 ⊢
 unfold execOp
 rw [hop]
 simp [e28, hc, go_sem]
theorem MX.s23 (X : MX) (ok : MXOk X) {Q : PQ} : StepG (opsOf 1 Try.f88) MX.acts MX.av X.val0 X.Wd X.a0 Q 23 := by
 intro γ listed a w o hF hC hW h1 ho h2
 obtain ⟨hd, hop, hg⟩ := fields2 (x := some 30) (y := Op.call { callee := .value (.func 100), args := #[(.tmp 27), (.tmp 29)], argTypes := #[3, 3] }) (z := none) (by kernel_rfl) ho
 have e27 : a.eval (.tmp 27) = .int .i64 X.D := slotG hF ho h2 (j := 20) (d := 27) (by kernel_rfl) (by kernel_rfl) (by rw [ok.sz]; decide)
 have e29 : a.eval (.tmp 29) = .int .i64 X.y := slotG hF ho h2 (j := 22) (d := 29) (by kernel_rfl) (by kernel_rfl) (by rw [ok.sz]; decide)
 have ef : a.eval (.func 100) = .func (.func 100) #[] #[] := rfl
 refine st_callG hF hC hW ho h2 (by decide) hd hg rfl (f := 100) (args := #[.int .i64 X.D, .int .i64 X.y]) ?_ ?_ ?_
 ·generalize a.eval = ρ at e27 e29 ef ⊢
  unfold execOp
  rw [hop]
  simp [e27, e29, ef, go_sem]
 ·exact (ifm X.D X.y w).mono fun e w' ⟨h1, h2⟩ => ⟨h1, h2 ▸ Kp.refl _⟩
 ·intro w' hk; exact MX.keep hW hk
theorem MX.s24 (X : MX) (ok : MXOk X) {Q : PQ} : StepG (opsOf 1 Try.f88) MX.acts MX.av X.val0 X.Wd X.a0 Q 24 := by
 intro γ listed a w o hF hC hW h1 ho h2
 obtain ⟨hd, hop, hg⟩ := fields2 (x := some 31) (y := Op.binOp .add 3 (.tmp 25) (.tmp 30) 3) (z := none) (by kernel_rfl) ho
 have e25 : a.eval (.tmp 25) = .int .i64 (fmV X.B X.x) := slotG hF ho h2 (j := 18) (d := 25) (by kernel_rfl) (by kernel_rfl) (by rw [ok.sz]; decide)
 have e30 : a.eval (.tmp 30) = .int .i64 (fmV X.D X.y) := slotG hF ho h2 (j := 23) (d := 30) (by kernel_rfl) (by kernel_rfl) (by rw [ok.sz]; decide)
 refine st_pureG hF hC hW ho h2 (by decide) hd hg rfl ?_
 show _ = Result.ok (Next.value (.int .i64 (fmV X.B X.x + fmV X.D X.y))) w
 generalize a.eval = ρ at e25 e30 ⊢
 unfold execOp
 rw [hop]
 simp [e25, e30, ok.w3, go_sem]
theorem MX.s25 (X : MX) (ok : MXOk X) {Q : PQ} : StepG (opsOf 1 Try.f88) MX.acts MX.av X.val0 X.Wd X.a0 Q 25 := by
 intro γ listed a w o hF hC hW h1 ho h2
 obtain ⟨hd, hop, hg⟩ := fields2 (x := some 32) (y := Op.fieldAddr 31 (.tmp 2) 5) (z := none) (by kernel_rfl) ho
 have e2 : a.eval (.tmp 2) = .pointer (some ⟨X.ba, 0, none⟩) := (hF.eval0 (by kernel_rfl)).trans ok.e2
 refine st_pureG hF hC hW ho h2 (by decide) hd hg rfl ?_
 show _ = Result.ok (Next.value (.pointer (some ⟨X.ba, 5, none⟩))) w
 generalize a.eval = ρ at e2 ⊢
 unfold execOp
 rw [hop]
 simp [e2, go_sem]
theorem MX.s26 (X : MX) (ok : MXOk X) {Q : PQ} : StepG (opsOf 1 Try.f88) MX.acts MX.av X.val0 X.Wd X.a0 Q 26 := by
 intro γ listed a w o hF hC hW h1 ho h2
 obtain ⟨hd, hop, hg⟩ := fields2 (x := some 33) (y := Op.load 3 (.tmp 32)) (z := none) (by kernel_rfl) ho
 have e32 : a.eval (.tmp 32) = .pointer (some ⟨X.ba, 5, none⟩) := slotG hF ho h2 (j := 25) (d := 32) (by kernel_rfl) (by kernel_rfl) (by rw [ok.sz]; decide)
 have hc := kp_at (MX.kp hW) ok.cF
 refine st_pureG hF hC hW ho h2 (by decide) hd hg rfl ?_
 show _ = Result.ok (Next.value (.int .i64 X.F)) w
 generalize a.eval = ρ at e32 ⊢
 unfold execOp
 rw [hop]
 simp [e32, hc, go_sem]
theorem MX.s27 (X : MX) (ok : MXOk X) {Q : PQ} : StepG (opsOf 1 Try.f88) MX.acts MX.av X.val0 X.Wd X.a0 Q 27 := by
 intro γ listed a w o hF hC hW h1 ho h2
 obtain ⟨hd, hop, hg⟩ := fields2 (x := some 34) (y := Op.binOp .add 3 (.tmp 31) (.tmp 33) 3) (z := none) (by kernel_rfl) ho
 have e31 : a.eval (.tmp 31) = .int .i64 (fmV X.B X.x + fmV X.D X.y) := slotG hF ho h2 (j := 24) (d := 31) (by kernel_rfl) (by kernel_rfl) (by rw [ok.sz]; decide)
 have e33 : a.eval (.tmp 33) = .int .i64 X.F := slotG hF ho h2 (j := 26) (d := 33) (by kernel_rfl) (by kernel_rfl) (by rw [ok.sz]; decide)
 refine st_pureG hF hC hW ho h2 (by decide) hd hg rfl ?_
 show _ = Result.ok (Next.value (.int .i64 (fmV X.B X.x + fmV X.D X.y + X.F))) w
 generalize a.eval = ρ at e31 e33 ⊢
 unfold execOp
 rw [hop]
 simp [e31, e33, ok.w4, go_sem]
theorem MX.s28 (X : MX) (ok : MXOk X) {Q : PQ} : StepG (opsOf 1 Try.f88) MX.acts MX.av X.val0 X.Wd X.a0 Q 28 := by
 intro γ listed a w o hF hC hW h1 ho h2
 obtain ⟨hd, hop, hg⟩ := fields2 (x := some 35) (y := Op.build 27 #[(0, (.tmp 20)), (1, (.tmp 34))]) (z := none) (by kernel_rfl) ho
 have e20 : a.eval (.tmp 20) = .int .i64 (fmV X.A X.x + fmV X.C X.y + X.E) := slotG hF ho h2 (j := 13) (d := 20) (by kernel_rfl) (by kernel_rfl) (by rw [ok.sz]; decide)
 have e34 : a.eval (.tmp 34) = .int .i64 (fmV X.B X.x + fmV X.D X.y + X.F) := slotG hF ho h2 (j := 27) (d := 34) (by kernel_rfl) (by kernel_rfl) (by rw [ok.sz]; decide)
 refine st_pureG hF hC hW ho h2 (by decide) hd hg rfl ?_
 show _ = Result.ok (Next.value (.agg #[.int .i64 (fmV X.A X.x + fmV X.C X.y + X.E), .int .i64 (fmV X.B X.x + fmV X.D X.y + X.F)])) w
 generalize a.eval = ρ at e20 e34 ⊢
 unfold execOp
 rw [hop]
 simp [e20, e34, go_sem]
theorem MX.s29 (X : MX) (ok : MXOk X) {Q : PQ} : StepG (opsOf 1 Try.f88) MX.acts MX.av X.val0 X.Wd X.a0 Q 29 := by
 intro γ listed a w o hF hC hW h1 ho h2
 obtain ⟨hd, hop, hg⟩ := fields2 (x := some 6) (y := Op.alloc 27) (z := none) (by kernel_rfl) ho
 have hu := unl (hF.lt ho) h1
 refine st_actG (k := 0) MX.chain MX.nodup rfl hF hC hW h1 ho h2 (Or.inr ⟨6, hd, rfl⟩) (MX.inj (by kernel_rfl) hu) hg ?_
 intro hW0 K hK
 have hr : (execOp a.eval o).run Try.prog w = .ok (.value (.pointer (some ⟨w.heap.size, 0, none⟩))) (w.alloc (.cells #[.int .i64 0, .int .i64 0] 27)) := by
  unfold execOp
  rw [hop]
  simp [go_sem]
 unfold Oper.wp
 rw [hr]
 exact hK _ _ ⟨w.heap.size, rfl, Kp.size hW0, by simp, by simp, fun o => World.frozen?_alloc_at _ _ _ _ rfl, Kp.alloc hW0 _ _⟩
theorem MX.s30 (X : MX) (ok : MXOk X) {Q : PQ} : StepG (opsOf 1 Try.f88) MX.acts MX.av X.val0 X.Wd X.a0 Q 30 := by
 intro γ listed a w o hF hC hW h1 ho h2
 obtain ⟨hd, hop, hg⟩ := fields2 (x := none) (y := Op.store 27 (.tmp 6) (.tmp 35)) (z := none) (by kernel_rfl) ho
 have e6 : a.eval (.tmp 6) = γ 0 := slotG hF ho h2 (j := 29) (d := 6) (by kernel_rfl) (by kernel_rfl) (by rw [ok.sz]; decide)
 have e35 : a.eval (.tmp 35) = .agg #[.int .i64 (fmV X.A X.x + fmV X.C X.y + X.E), .int .i64 (fmV X.B X.x + fmV X.D X.y + X.F)] := slotG hF ho h2 (j := 28) (d := 35) (by kernel_rfl) (by kernel_rfl) (by rw [ok.sz]; decide)
 have hu := unl (hF.lt ho) h1
 refine st_actG (k := 1) MX.chain MX.nodup rfl hF hC hW h1 ho h2 (Or.inl hd) (MX.inj (by kernel_rfl) hu) hg ?_
 intro hW0 K hK
 obtain ⟨g, g0, hg0, z0, z1, zf, k1⟩ := hW0
 rw [g0] at e6
 obtain ⟨y0, y1⟩ := set2 w g (.int .i64 (fmV X.A X.x + fmV X.C X.y + X.E)) (.int .i64 (fmV X.B X.x + fmV X.D X.y + X.F)) z0 z1
 have hr : (execOp a.eval o).run Try.prog w = .ok .skip ((w.setCell ⟨g, 0, none⟩ (.int .i64 (fmV X.A X.x + fmV X.C X.y + X.E))).setCell ⟨g, 1, none⟩ (.int .i64 (fmV X.B X.x + fmV X.D X.y + X.F))) := by
  generalize a.eval = ρ at e6 e35 ⊢
  unfold execOp
  rw [hop]
  simp [e6, e35, z0, z1, zf, go_sem]
 unfold Oper.wp
 rw [hr]
 exact hK _ _ ⟨g, g0, hg0, y0, y1, fun o => by rw [World.frozen?_setCell, World.frozen?_setCell]; exact zf o, Kp.setCell (Kp.setCell k1 hg0 _) hg0 _⟩
theorem MX.size : (opsOf 1 Try.f88).size = 31 := by kernel_rfl
theorem MX.steps (X : MX) (ok : MXOk X) {Q : PQ} (i : Nat) (hi : i < (opsOf 1 Try.f88).size) : StepG (opsOf 1 Try.f88) MX.acts MX.av X.val0 X.Wd X.a0 Q i := by
 rw [MX.size] at hi
 have hc : i = 0 ∨ i = 1 ∨ i = 2 ∨ i = 3 ∨ i = 4 ∨ i = 5 ∨ i = 6 ∨ i = 7 ∨ i = 8 ∨ i = 9 ∨ i = 10 ∨ i = 11 ∨ i = 12 ∨ i = 13 ∨ i = 14 ∨ i = 15 ∨ i = 16 ∨ i = 17 ∨ i = 18 ∨ i = 19 ∨ i = 20 ∨ i = 21 ∨ i = 22 ∨ i = 23 ∨ i = 24 ∨ i = 25 ∨ i = 26 ∨ i = 27 ∨ i = 28 ∨ i = 29 ∨ i = 30 := by omega
 rcases hc with rfl | rfl | rfl | rfl | rfl | rfl | rfl | rfl | rfl | rfl | rfl | rfl | rfl | rfl | rfl | rfl | rfl | rfl | rfl | rfl | rfl | rfl | rfl | rfl | rfl | rfl | rfl | rfl | rfl | rfl | rfl
 ·exact MX.s0 X ok
 ·exact MX.s1 X ok
 ·exact MX.s2 X ok
 ·exact MX.s3 X ok
 ·exact MX.s4 X ok
 ·exact MX.s5 X ok
 ·exact MX.s6 X ok
 ·exact MX.s7 X ok
 ·exact MX.s8 X ok
 ·exact MX.s9 X ok
 ·exact MX.s10 X ok
 ·exact MX.s11 X ok
 ·exact MX.s12 X ok
 ·exact MX.s13 X ok
 ·exact MX.s14 X ok
 ·exact MX.s15 X ok
 ·exact MX.s16 X ok
 ·exact MX.s17 X ok
 ·exact MX.s18 X ok
 ·exact MX.s19 X ok
 ·exact MX.s20 X ok
 ·exact MX.s21 X ok
 ·exact MX.s22 X ok
 ·exact MX.s23 X ok
 ·exact MX.s24 X ok
 ·exact MX.s25 X ok
 ·exact MX.s26 X ok
 ·exact MX.s27 X ok
 ·exact MX.s28 X ok
 ·exact MX.s29 X ok
 ·exact MX.s30 X ok
theorem MX.puts (X : MX) (γ : Nat → Value) (a0 : Act) : putsL (valG MX.av X.val0 γ) (opsOf 1 Try.f88).toList a0 = ((((((((((((((((((((((((((((((a0.put (some 7) (.pointer (some ⟨X.ba, 0, none⟩))).put (some 8) (.int .i64 X.A)).put (some 9) (.pointer (some ⟨X.bp, 0, none⟩))).put (some 10) (.int .i64 X.x)).put (some 11) (.int .i64 (fmV X.A X.x))).put (some 12) (.pointer (some ⟨X.ba, 2, none⟩))).put (some 13) (.int .i64 X.C)).put (some 14) (.pointer (some ⟨X.bp, 1, none⟩))).put (some 15) (.int .i64 X.y)).put (some 16) (.int .i64 (fmV X.C X.y))).put (some 17) (.int .i64 (fmV X.A X.x + fmV X.C X.y))).put (some 18) (.pointer (some ⟨X.ba, 4, none⟩))).put (some 19) (.int .i64 X.E)).put (some 20) (.int .i64 (fmV X.A X.x + fmV X.C X.y + X.E))).put (some 21) (.pointer (some ⟨X.ba, 1, none⟩))).put (some 22) (.int .i64 X.B)).put (some 23) (.pointer (some ⟨X.bp, 0, none⟩))).put (some 24) (.int .i64 X.x)).put (some 25) (.int .i64 (fmV X.B X.x))).put (some 26) (.pointer (some ⟨X.ba, 3, none⟩))).put (some 27) (.int .i64 X.D)).put (some 28) (.pointer (some ⟨X.bp, 1, none⟩))).put (some 29) (.int .i64 X.y)).put (some 30) (.int .i64 (fmV X.D X.y))).put (some 31) (.int .i64 (fmV X.B X.x + fmV X.D X.y))).put (some 32) (.pointer (some ⟨X.ba, 5, none⟩))).put (some 33) (.int .i64 X.F)).put (some 34) (.int .i64 (fmV X.B X.x + fmV X.D X.y + X.F))).put (some 35) (.agg #[.int .i64 (fmV X.A X.x + fmV X.C X.y + X.E), .int .i64 (fmV X.B X.x + fmV X.D X.y + X.F)])).put (some 6) (γ 0)) := by kernel_rfl
theorem MX.run (X : MX) (ok : MXOk X) {Q : PQ} (w : World) (h0 : X.Wd 0 (fun _ => undef) w.drew) (hend : ∀ (γ : Nat → Value) w', X.Wd 2 γ w' → Q .normal ((((((((((((((((((((((((((((((X.a0.put (some 7) (.pointer (some ⟨X.ba, 0, none⟩))).put (some 8) (.int .i64 X.A)).put (some 9) (.pointer (some ⟨X.bp, 0, none⟩))).put (some 10) (.int .i64 X.x)).put (some 11) (.int .i64 (fmV X.A X.x))).put (some 12) (.pointer (some ⟨X.ba, 2, none⟩))).put (some 13) (.int .i64 X.C)).put (some 14) (.pointer (some ⟨X.bp, 1, none⟩))).put (some 15) (.int .i64 X.y)).put (some 16) (.int .i64 (fmV X.C X.y))).put (some 17) (.int .i64 (fmV X.A X.x + fmV X.C X.y))).put (some 18) (.pointer (some ⟨X.ba, 4, none⟩))).put (some 19) (.int .i64 X.E)).put (some 20) (.int .i64 (fmV X.A X.x + fmV X.C X.y + X.E))).put (some 21) (.pointer (some ⟨X.ba, 1, none⟩))).put (some 22) (.int .i64 X.B)).put (some 23) (.pointer (some ⟨X.bp, 0, none⟩))).put (some 24) (.int .i64 X.x)).put (some 25) (.int .i64 (fmV X.B X.x))).put (some 26) (.pointer (some ⟨X.ba, 3, none⟩))).put (some 27) (.int .i64 X.D)).put (some 28) (.pointer (some ⟨X.bp, 1, none⟩))).put (some 29) (.int .i64 X.y)).put (some 30) (.int .i64 (fmV X.D X.y))).put (some 31) (.int .i64 (fmV X.B X.x + fmV X.D X.y))).put (some 32) (.pointer (some ⟨X.ba, 5, none⟩))).put (some 33) (.int .i64 X.F)).put (some 34) (.int .i64 (fmV X.B X.x + fmV X.D X.y + X.F))).put (some 35) (.agg #[.int .i64 (fmV X.A X.x + fmV X.C X.y + X.E), .int .i64 (fmV X.B X.x + fmV X.D X.y + X.F)])).put (some 6) (γ 0)) w') : (Code.region 1 (opsOf 1 Try.f88) true).wp Try.prog Q X.a0 w := by
 refine reg_act (acts := MX.acts) (av := MX.av) (val0 := X.val0) (Wd := X.Wd) (by kernel_rfl) (by kernel_rfl) (by rw [MX.size]; decide) (fun i hi => MX.steps X ok i hi) _ h0 ?_
 intro γ w' h
 rw [MX.puts]
 exact hend γ w' h

structure Aff where
 a : Int
 b : Int
 c : Int
 d : Int
 e : Int
 f : Int
def Aff.v (A : Aff) : Value := .agg #[.int .i64 A.a, .int .i64 A.b, .int .i64 A.c, .int .i64 A.d, .int .i64 A.e, .int .i64 A.f]
def Aff.ok (A : Aff) : Bool := gA A.a A.b A.c A.d A.e A.f
def mvP (A : Aff) (p : Pnt) : Pnt := (fmV A.a p.1 + fmV A.c p.2 + A.e, fmV A.b p.1 + fmV A.d p.2 + A.f)
theorem Aff.ok_bd {A : Aff} (h : A.ok = true) : (-4294967296 ≤ A.e ∧ A.e ≤ 4294967296) ∧ (-4294967296 ≤ A.f ∧ A.f ≤ 4294967296) := by
 unfold Aff.ok gA at h
 rw [List.all_eq_true] at h
 have h4 := h 4 (by simp)
 have h5 := h 5 (by simp)
 simp only [el, inR, Bool.and_eq_true, decide_eq_true_eq] at h4 h5
 exact ⟨h4, h5⟩
abbrev SM (g bp : Nat) (mx my x y : Int) (w : World) : Prop := w.cell? ⟨g, 0, none⟩ = some (.int .i64 mx) ∧ w.cell? ⟨g, 1, none⟩ = some (.int .i64 my) ∧ w.cell? ⟨bp, 0, none⟩ = some (.int .i64 x) ∧ w.cell? ⟨bp, 1, none⟩ = some (.int .i64 y)
theorem SM.kp {g bp : Nat} {mx my x y : Int} {w w' : World} (h : SM g bp mx my x y w) (k : Kp w w') : SM g bp mx my x y w' := ⟨kp_at k h.1, kp_at k h.2.1, kp_at k h.2.2.1, kp_at k h.2.2.2⟩
theorem SM.set {g bp b : Nat} {mx my x y : Int} {w : World} (h : SM g bp mx my x y w) (h1 : g ≠ b) (h2 : bp ≠ b) (u v : Value) : SM g bp mx my x y ((w.setCell ⟨b, 0, none⟩ u).setCell ⟨b, 1, none⟩ v) := by
 have e : ∀ k o, k ≠ b → ((w.setCell ⟨b, 0, none⟩ u).setCell ⟨b, 1, none⟩ v).cell? ⟨k, o, none⟩ = w.cell? ⟨k, o, none⟩ := fun k o hk => by
  rw [World.cell?_setCell_other _ _ _ _ (fun e => by injection e; omega), World.cell?_setCell_other _ _ _ _ (fun e => by injection e; omega)]
 exact ⟨(e _ _ h1).trans h.1, (e _ _ h1).trans h.2.1, (e _ _ h2).trans h.2.2.1, (e _ _ h2).trans h.2.2.2⟩
def ZB (b : Nat) (w : World) : Prop := w.cell? ⟨b, 0, none⟩ = some (.int .i64 0) ∧ w.cell? ⟨b, 1, none⟩ = some (.int .i64 0) ∧ ∀ o, w.frozen? ⟨b, o, none⟩ = false
theorem ZB.kp {b : Nat} {w w' : World} (h : ZB b w) (k : Kp w w') : ZB b w' := ⟨kp_at k h.1, kp_at k h.2.1, fun o => (k.cells.2 _ _).trans (h.2.2 o)⟩
theorem box3 {w W : World} {a b c d e f x y : Value} {t1 t2 t3 : TypeId} (h : ((w.alloc (.cells #[a, b, c, d, e, f] t1)).alloc (.cells #[x, y] t2)).alloc (.cells #[.int .i64 0, .int .i64 0] t3) = W) :
  (W.cell? ⟨w.heap.size, 0, none⟩ = some a ∧ W.cell? ⟨w.heap.size, 1, none⟩ = some b ∧ W.cell? ⟨w.heap.size, 2, none⟩ = some c ∧ W.cell? ⟨w.heap.size, 3, none⟩ = some d ∧ W.cell? ⟨w.heap.size, 4, none⟩ = some e ∧ W.cell? ⟨w.heap.size, 5, none⟩ = some f) ∧
  (W.cell? ⟨w.heap.size + 1, 0, none⟩ = some x ∧ W.cell? ⟨w.heap.size + 1, 1, none⟩ = some y) ∧ ZB (w.heap.size + 1 + 1) W ∧ Kp w W ∧ W.heap.size = w.heap.size + 1 + 1 + 1 := by
 subst h
 have e1 := World.size_alloc w (.cells #[a, b, c, d, e, f] t1)
 have e2 := World.size_alloc (w.alloc (.cells #[a, b, c, d, e, f] t1)) (.cells #[x, y] t2)
 refine ⟨?_, ?_, ⟨?_, ?_, ?_⟩, (((Kp.refl w).alloc _ _).alloc _ _).alloc _ _, by simp⟩
 ·have m : ∀ o, (((w.alloc (.cells #[a, b, c, d, e, f] t1)).alloc (.cells #[x, y] t2)).alloc (.cells #[.int .i64 0, .int .i64 0] t3)).cell? ⟨w.heap.size, o, none⟩ = (#[a, b, c, d, e, f] : Array Value)[o]? := fun o => by
   rw [World.cell?_alloc_past _ _ _ (by simp; omega), World.cell?_alloc_past _ _ _ (by simp), World.cell?_alloc_at _ _ _ _ rfl]
  exact ⟨m 0, m 1, m 2, m 3, m 4, m 5⟩
 ·have m : ∀ o, (((w.alloc (.cells #[a, b, c, d, e, f] t1)).alloc (.cells #[x, y] t2)).alloc (.cells #[.int .i64 0, .int .i64 0] t3)).cell? ⟨w.heap.size + 1, o, none⟩ = (#[x, y] : Array Value)[o]? := fun o => by
   rw [World.cell?_alloc_past _ _ _ (by simp), World.cell?_alloc_at _ _ _ _ (by simp)]
  exact ⟨m 0, m 1⟩
 ·rw [World.cell?_alloc_at _ _ _ _ (by simp)]; rfl
 ·rw [World.cell?_alloc_at _ _ _ _ (by simp)]; rfl
 ·intro o
  exact World.frozen?_alloc_at _ _ _ _ (by simp)
set_option maxRecDepth 100000 in
set_option maxHeartbeats 4000000 in
theorem imovedP (w : World) (A : Aff) (x y : Int) (hg : A.ok = true) :
  Calls Try.prog 88 #[A.v, .agg #[.int .i64 x, .int .i64 y]] w fun e w' => e = .returned (.tuple #[.agg #[.int .i64 (mvP A (x, y)).1, .int .i64 (mvP A (x, y)).2], .bool (ptB (x, y) && ptB (mvP A (x, y)))]) ∧ Kp w w' := by
 have hb := Aff.ok_bd hg
 clear hg
 obtain ⟨a, b, c, d, e, f⟩ := A
 unfold Aff.v
 simp only at hb ⊢
 have b1 := fmV_bd a x
 have b2 := fmV_bd c y
 have b3 := fmV_bd b x
 have b4 := fmV_bd d y
 have x1 : IntKind.i64.wrap (fmV a x + fmV c y) = fmV a x + fmV c y := IntWalk.i64_in _ ⟨by omega, by omega⟩
 have x2 : IntKind.i64.wrap (fmV a x + fmV c y + e) = fmV a x + fmV c y + e := IntWalk.i64_in _ ⟨by omega, by omega⟩
 have x3 : IntKind.i64.wrap (fmV b x + fmV d y) = fmV b x + fmV d y := IntWalk.i64_in _ ⟨by omega, by omega⟩
 have x4 : IntKind.i64.wrap (fmV b x + fmV d y + f) = fmV b x + fmV d y + f := IntWalk.i64_in _ ⟨by omega, by omega⟩
 have HP : Hid _ := fun w => igoodP w x y
 have HM : Hid _ := fun w => igoodP w (fmV a x + fmV c y + e) (fmV b x + fmV d y + f)
 unfold mvP
 simp only
 generalize ptB (x, y) = V1 at *
 generalize ptB (fmV a x + fmV c y + e, fmV b x + fmV d y + f) = V2 at *
 obtain ⟨mx, hmx⟩ : ∃ mx, fmV a x + fmV c y + e = mx := ⟨_, rfl⟩
 obtain ⟨my, hmy⟩ : ∃ my, fmV b x + fmV d y + f = my := ⟨_, rfl⟩
 rw [hmx, hmy] at HM ⊢
 clear b1 b2 b3 b4 hb
 go_enter Try.func88, Try.ntmps88
 go_wp2
 obtain ⟨W, hW⟩ : ∃ W, ((w.alloc (.cells #[.int .i64 a, .int .i64 b, .int .i64 c, .int .i64 d, .int .i64 e, .int .i64 f] 31)).alloc (.cells #[.int .i64 x, .int .i64 y] 27)).alloc (.cells #[.int .i64 0, .int .i64 0] 27) = W := ⟨_, rfl⟩
 rw [hW]
 obtain ⟨hcs, hps, hzs, hkw, hsz⟩ := box3 hW
 clear hW
 refine reg_change (ops' := opsOf 1 Try.f88) (by kernel_rfl) ?_
 refine MX.run ⟨w.heap.size, w.heap.size + 1, a, b, c, d, e, f, x, y, W.drew, _⟩ ⟨hcs.1, hcs.2.1, hcs.2.2.1, hcs.2.2.2.1, hcs.2.2.2.2.1, hcs.2.2.2.2.2, hps.1, hps.2, x1, x2, x3, x4, rfl, rfl, rfl⟩ W (Kp.refl _) ?_
 rintro γ w9 ⟨g, g0, hg0, y0, y1, yf, k1⟩
 simp only at g0 hg0 y0 y1 yf k1 ⊢
 rw [g0]
 clear g0
 rw [hmx] at y0 ⊢
 rw [hmy] at y1 ⊢
 have k2 : Kp W w9 := Kp.trans ((Kp.refl W).drew) k1
 have HK : Hid (Kp w w9.drew) := (Kp.trans hkw k2).drew
 have HSM : Hid (SM g (w.heap.size + 1) mx my x y w9.drew) := ⟨y0, y1, kp_at k2.drew hps.1, kp_at k2.drew hps.2⟩
 have HZ : Hid (ZB (w.heap.size + 1 + 1) w9.drew) := ZB.kp hzs k2.drew
 have hgn : g ≠ w.heap.size + 1 + 1 := by
  have : W.heap.size ≤ g := hg0
  omega
 obtain ⟨z0, z1, zf⟩ := HZ.out
 clear hcs hps hzs hkw hsz k1 k2 hg0 y0 y1 yf x1 x2 x3 x4 hmx hmy
 obtain ⟨s0, s1, s2, s3⟩ := HSM.out
 cases V1 with
 | false =>
  go_wp2
  go_region_with ((go_at_call_of 79 (Value.int .i64 x); refine Calls.mono (HP.out _) ?_; rintro e w' ⟨rfl, hk⟩; replace HK := (show Hid (Kp w w') from Kp.trans HK.out hk); replace HSM := (show Hid (SM g (w.heap.size + 1) mx my x y w') from SM.kp HSM.out hk); replace HZ := (show Hid (ZB (w.heap.size + 1 + 1) w') from ZB.kp HZ.out hk); obtain ⟨z0, z1, zf⟩ := HZ.out; obtain ⟨s0, s1, s2, s3⟩ := HSM.out; clear hk))
  all_goals
   go_wp2
   obtain ⟨y0, y1⟩ := set2 _ (w.heap.size + 1 + 1) (.int .i64 mx) (.int .i64 my) z0 z1
   exact bodyPost_ret (v := .tuple #[.agg #[.int .i64 mx, .int .i64 my], .bool false]) (by simp [results, Try.results88, go_sem, y0, y1]) rfl ⟨rfl, Kp.setCell (Kp.setCell HK.out (by simp; omega) _) (by simp; omega) _⟩
 | true =>
  go_wp2
  go_region_held3 (SM g (w.heap.size + 1) mx my x y)
   (first | with_reducible exact HSM.out | with_reducible exact SM.set HSM.out hgn (by omega) _ _)
   (first
    | (go_at_call_of 79 (Value.int .i64 x); refine Calls.mono (HP.out _) ?_; rintro e w' ⟨rfl, hk⟩; replace HK := (show Hid (Kp w w') from Kp.trans HK.out hk); replace HSM := (show Hid (SM g (w.heap.size + 1) mx my x y w') from SM.kp HSM.out hk); replace HZ := (show Hid (ZB (w.heap.size + 1 + 1) w') from ZB.kp HZ.out hk); obtain ⟨z0, z1, zf⟩ := HZ.out; obtain ⟨s0, s1, s2, s3⟩ := HSM.out; clear hk)
    | (go_at_call_of 79 (Value.int .i64 mx); refine Calls.mono (HM.out _) ?_; rintro e w' ⟨rfl, hk⟩; replace HK := (show Hid (Kp w w') from Kp.trans HK.out hk); replace HSM := (show Hid (SM g (w.heap.size + 1) mx my x y w') from SM.kp HSM.out hk); replace HZ := (show Hid (ZB (w.heap.size + 1 + 1) w') from ZB.kp HZ.out hk); obtain ⟨z0, z1, zf⟩ := HZ.out; obtain ⟨s0, s1, s2, s3⟩ := HSM.out; clear hk))
  all_goals
   go_wp2
   obtain ⟨y0, y1⟩ := set2 _ (w.heap.size + 1 + 1) (.int .i64 mx) (.int .i64 my) z0 z1
   exact bodyPost_ret (v := .tuple #[.agg #[.int .i64 mx, .int .i64 my], .bool V2]) (by simp [results, Try.results88, go_sem, y0, y1]) rfl ⟨rfl, Kp.setCell (Kp.setCell HK.out (by simp; omega) _) (by simp; omega) _⟩
def mvB (A : Aff) (p : Pnt) : Bool := ptB p && ptB (mvP A p)
def mvsB (A : Aff) (l : List Pnt) : Bool := l.all (mvB A)
theorem map_step (A : Aff) (l : List Pnt) (k : Nat) (h : k < l.length) : (l.take (k + 1)).map (mvP A) = (l.take k).map (mvP A) ++ [mvP A (ptAt l k)] := by
 have e : ptAt l k = l[k] := by simp [ptAt, h]
 rw [List.take_succ_eq_append_getElem h, List.map_append, e]
 rfl
set_option maxRecDepth 100000 in
set_option maxHeartbeats 4000000 in
theorem ieachP (w : World) (a : Option Addr) (c : Nat) (l : List Pnt) (A : Aff) (hg : A.ok = true) (hl : l.length ≤ 600) (hr : Pts w a l) :
  Calls Try.prog 87 #[.slice a l.length c, .func (.func 88) #[A.v] #[]] w fun e w' => ∃ v, e = .returned (.tuple #[v, .bool (mvsB A l)]) ∧ OwnP w' w.heap.size v (if mvsB A l = true then l.map (mvP A) else []) ∧ Nw w w' := by
 obtain ⟨V, hV⟩ : ∃ V, mvsB A l = V := ⟨_, rfl⟩
 have HV : Hid (mvsB A l = V) := hV
 rw [hV]
 obtain ⟨M, hM⟩ : ∃ M, (if V = true then l.map (mvP A) else []) = M := ⟨_, rfl⟩
 have HM : Hid ((if V = true then l.map (mvP A) else []) = M) := hM
 rw [hM]
 clear hV hM
 have HC : Hid _ := fun w x y => imovedP w A x y hg
 have HR : Hid (Pts w a l) := hr
 obtain ⟨F, hF⟩ : ∃ F, A.v = F := ⟨_, rfl⟩
 rw [hF] at HC ⊢
 clear hg hr hF
 go_enter Try.func87, Try.ntmps87
 go_wp2
 go_loopw [13] (fun i wr => ∃ k : Nat, k ≤ l.length ∧ i = .int .i64 (k : Int) ∧ (∀ m, m < k → mvB A (ptAt l m) = true) ∧ LV w.heap.size wr ((l.take k).map (mvP A)) ∧ Nw w wr) (fun i _ => l.length - (intOf i).toNat)
 case atStart => exact ⟨0, Nat.zero_le _, rfl, fun m hm => absurd hm (by omega), by simpa using LV.new w 100, (Below.refl _ _).alloc (Nat.le_refl _) _⟩
 case round =>
  obtain ⟨k, hk, rfl, ha, hlv, hw⟩ := hrel
  have HA : Hid _ := ha
  have HL : Hid (LV w.heap.size wr ((l.take k).map (mvP A))) := hlv
  have HW : Hid (Nw w wr) := hw
  clear ha hlv hw
  by_cases hlt : k < l.length
  ·rcases Pts.nw HR.out HW.out with h | ⟨b, off, rfl, hb, hc⟩
   ·rw [h] at hlt; simp at hlt
   obtain ⟨p0, p1⟩ := hc k hlt
   clear hc
   have HE : Hid ((l.take (k + 1)).map (mvP A) = (l.take k).map (mvP A) ++ [mvP A (ptAt l k)]) := map_step A l k hlt
   have HLn : Hid (((l.take k).map (mvP A)).length + 1 ≤ 1000000) := by show _ ≤ _; simp; omega
   have HB : Hid (mvB A (ptAt l k) = false → V = false) := fun h => by
    rw [← HV.out]; exact all_false _ (0, 0) l k hlt h
   have HD : Hid (∀ t : Bool, mvB A (ptAt l k) = t → mvB A (ptAt l k) = t) := fun t h => h
   have HC2 : Hid _ := fun w => HC.out w (ptAt l k).1 (ptAt l k).2
   have e1 : (ptB ((ptAt l k).1, (ptAt l k).2) && ptB (mvP A ((ptAt l k).1, (ptAt l k).2))) = mvB A (ptAt l k) := rfl
   rw [e1] at HC2
   have e2 : mvP A ((ptAt l k).1, (ptAt l k).2) = mvP A (ptAt l k) := rfl
   rw [e2] at HC2
   clear e1 e2
   generalize (l.take k).map (mvP A) = lk at *
   generalize mvP A (ptAt l k) = q at *
   obtain ⟨qx, qy⟩ := q
   generalize (ptAt l k).1 = x at *
   generalize (ptAt l k).2 = y at *
   cases ht : mvB A (ptAt l k) with
   | false =>
    rw [ht] at HC2
    have HF : Hid (V = false) := HB.out ht
    clear ht
    go_wp2_with fail
    refine Calls.mono (HC2.out _) ?_
    rintro e w1 ⟨rfl, k1⟩
    have N1 : Hid (Nw wr w1) := (kp_box k1).nw
    clear k1
    go_wp2
    refine bodyPost_ret (v := .tuple #[.slice none 0 0, .bool false]) (by simp [results, Try.results87, go_sem]) rfl ⟨_, by rw [HF.out], ?_, ?_⟩
    ·rw [← HM.out, HF.out]; exact OwnP.nil _ _
    ·exact Below.alloc (Nw.trans HW.out N1.out) (Below.size (Nw.trans HW.out N1.out)) _
   | true =>
    rw [ht] at HC2
    have HT : Hid (mvB A (ptAt l k) = true) := ht
    clear ht
    go_wp2_with fail
    refine Calls.mono (HC2.out _) ?_
    rintro e w1 ⟨rfl, k1⟩
    have N1 : Hid (Nw wr w1) := (kp_box k1).nw
    clear k1
    have L1 : Hid (LV w.heap.size (w1.alloc (.cells #[.int .i64 qx, .int .i64 qy] 27)) lk) := LV.nw HL.out (Nw.trans N1.out ((Below.refl _ _).alloc (Nat.le_refl _) _))
    have had := iadd_one (w1.alloc (.cells #[.int .i64 qx, .int .i64 qy] 27)) w.heap.size lk qx qy 27 L1.out HLn.out
    rw [World.size_alloc] at had
    have HAD : Hid _ := had
    clear had
    go_wp2_with fail
    refine Calls.mono HAD.out ?_
    rintro e w2 ⟨rfl, l2, k2⟩
    have L2 : Hid _ := l2
    have n1 : Nw w w1 := Nw.trans HW.out N1.out
    have N2 : Hid (Nw w w2) := Below.trans (Below.alloc n1 (Below.size n1) _) k2
    clear l2 k2
    go_wp2
    go_roundw
    case rel =>
     refine ⟨k + 1, by omega, by go_num, fun m hm => ?_, by rw [HE.out]; exact L2.out, N2.out⟩
     rcases Nat.lt_succ_iff_lt_or_eq.1 hm with h | h
     ·exact HA.out m h
     ·rw [h]; exact HT.out
    case measure => simp [intOf]; omega
  ·have HT : Hid (V = true) := by
    show _ = _
    rw [← HV.out]; exact all_true _ (0, 0) l (fun m hm => HA.out m (by omega))
   have hk2 : k = l.length := by omega
   subst hk2
   rw [List.take_length] at HL
   obtain ⟨va, vc, hv, hown⟩ := LV.val HL.out
   have HO : Hid _ := OwnQ.base hown (Nat.le_succ _)
   have hm : l.map (mvP A) = M := by rw [← HM.out, HT.out]; rfl
   have HMM : Hid _ := hm
   generalize (l.map (mvP A)).length = n at *
   clear hown hm
   go_wp2
   refine bodyPost_ret (v := .tuple #[.slice va n vc, .bool true]) (by simp [results, Try.results87, go_sem]) rfl ⟨_, by rw [HT.out], ?_, HW.out⟩
   rw [← HMM.out]; exact HO.out
theorem nset2 {w W : World} {b : Nat} (k : Nw w W) (hb : w.heap.size ≤ b) (u v : Value) : Nw w ((W.setCell ⟨b, 0, none⟩ u).setCell ⟨b, 1, none⟩ v) := (Below.setCell k hb _).setCell hb _
def B2 (b : Nat) (x y : Value) (w : World) : Prop := w.cell? ⟨b, 0, none⟩ = some x ∧ w.cell? ⟨b, 1, none⟩ = some y ∧ ∀ o, w.frozen? ⟨b, o, none⟩ = false
theorem B2.nw {b : Nat} {x y : Value} {w w' : World} (h : B2 b x y w) (k : Nw w w') : B2 b x y w' := by
 have hb := World.block_lt_of_cell? w ⟨b, 0, none⟩ h.1
 exact ⟨((bcell k).1 _ _ hb).trans h.1, ((bcell k).1 _ _ hb).trans h.2.1, fun o => ((bcell k).2 _ _ hb).trans (h.2.2 o)⟩
theorem box3g {w W : World} {os : Array Value} {x y z0 z1 : Value} {t1 t2 t3 : TypeId} (h : ((w.alloc (.cells os t1)).alloc (.cells #[x, y] t2)).alloc (.cells #[z0, z1] t3) = W) :
  B2 (w.heap.size + 1) x y W ∧ B2 (w.heap.size + 1 + 1) z0 z1 W ∧ Nw w W := by
 subst h
 have n2 : Nw (w.alloc (.cells os t1)) (((w.alloc (.cells os t1)).alloc (.cells #[x, y] t2)).alloc (.cells #[z0, z1] t3)) := ((Below.refl _ _).alloc (Nat.le_refl _) _).alloc (by simp) _
 refine ⟨⟨?_, ?_, ?_⟩, ⟨?_, ?_, ?_⟩, Nw.trans ((Below.refl _ _).alloc (Nat.le_refl _) _) n2⟩
 ·rw [World.cell?_alloc_past _ _ _ (by simp), World.cell?_alloc_at _ _ _ _ (by simp)]; rfl
 ·rw [World.cell?_alloc_past _ _ _ (by simp), World.cell?_alloc_at _ _ _ _ (by simp)]; rfl
 ·intro o
  have h3 : Nw ((w.alloc (.cells os t1)).alloc (.cells #[x, y] t2)) (((w.alloc (.cells os t1)).alloc (.cells #[x, y] t2)).alloc (.cells #[z0, z1] t3)) := (Below.refl _ _).alloc (Nat.le_refl _) _
  exact ((bcell h3).2 _ _ (by simp)).trans (World.frozen?_alloc_at _ _ _ _ (by simp))
 ·rw [World.cell?_alloc_at _ _ _ _ (by simp)]; rfl
 ·rw [World.cell?_alloc_at _ _ _ _ (by simp)]; rfl
 ·intro o
  exact World.frozen?_alloc_at _ _ _ _ (by simp)
set_option maxRecDepth 100000 in
set_option maxHeartbeats 4000000 in
theorem imovedL (w : World) (A : Aff) (pa : Option Addr) (pc : Nat) (ps : List Pnt) (cl : Bool) (hg : A.ok = true) (hl : ps.length ≤ 600) (hr : Pts w pa ps) :
  Calls Try.prog 53 #[A.v, .agg #[.slice pa ps.length pc, .bool cl]] w fun e w' => ∃ v, e = .returned (.tuple #[.agg #[v, .bool cl], .bool (mvsB A ps)]) ∧ OwnP w' w.heap.size v (if mvsB A ps = true then ps.map (mvP A) else []) ∧ Nw w w' := by
 obtain ⟨V, hV⟩ : ∃ V, mvsB A ps = V := ⟨_, rfl⟩
 obtain ⟨M, hM⟩ : ∃ M, (if V = true then ps.map (mvP A) else []) = M := ⟨_, rfl⟩
 have HC : Hid (∀ w : World, Pts w pa ps → _) := fun w h => ieachP w pa pc ps A hg hl h
 rw [hV, hM] at HC ⊢
 clear hV hM hg
 obtain ⟨a, b, c, d, e, f⟩ := A
 unfold Aff.v at HC ⊢
 simp only at HC ⊢
 have HR : Hid (Pts w pa ps) := hr
 clear hr
 generalize ps.length = n at *
 go_enter Try.func53, Try.ntmps53
 go_wp2_with fail
 obtain ⟨W, hW⟩ : ∃ W, ((w.alloc (.cells #[.int .i64 a, .int .i64 b, .int .i64 c, .int .i64 d, .int .i64 e, .int .i64 f] 31)).alloc (.cells #[.slice pa n pc, .bool cl] 55)).alloc (.cells #[.slice none 0 0, .bool false] 55) = W := ⟨_, rfl⟩
 rw [hW]
 obtain ⟨hl1, hz1, nw0⟩ := box3g hW
 clear hW
 have N0 : Hid (Nw w W) := nw0
 refine Calls.mono (HC.out W (HR.out.nw nw0)) ?_
 rintro e w1 ⟨v, rfl, ho, k1⟩
 obtain ⟨va, vn, vc, rfl⟩ := OwnQ.slice ho
 obtain ⟨l0, l1, lf⟩ := hl1.nw k1
 obtain ⟨z0, z1, zf⟩ := hz1.nw k1
 have hsW : w.heap.size + 1 + 1 < W.heap.size := World.block_lt_of_cell? W ⟨w.heap.size + 1 + 1, 0, none⟩ hz1.1
 have HO : Hid (OwnP w1 W.heap.size (.slice va vn vc) M) := ho
 have N1 : Hid (Nw w w1) := Nw.trans nw0 k1
 clear hl1 hz1 nw0 ho k1
 go_wp2
 obtain ⟨y0, y1⟩ := set2 w1 (w.heap.size + 1 + 1) (.slice va vn vc) (.bool cl) z0 z1
 refine bodyPost_ret (v := .tuple #[.agg #[.slice va vn vc, .bool cl], .bool V]) (by simp [results, Try.results53, go_sem, y0, y1]) rfl ⟨_, rfl, ?_, nset2 N1.out (by omega) _ _⟩
 have hne : (Value.slice va vn vc).ownBlock ≠ some (w.heap.size + 1 + 1) := fun e => by have := (OwnQ.lt HO.out _ e).1; omega
 exact OwnQ.base (OwnQ.far (OwnQ.far HO.out _ _ _ hne) _ _ _ hne) (Below.size N0.out)
theorem under_llns : Try.prog.underlying 86 = some (.slice 55) := by kernel_rfl
def LVL (bx : Nat) (w : World) (it : Its) : Prop := ∃ v, w.cell? ⟨bx, 0, none⟩ = some v ∧ (∀ o, w.frozen? ⟨bx, o, none⟩ = false) ∧ OwnLn w (bx + 1) v it
theorem LVL.lt {bx : Nat} {w : World} {it : Its} (h : LVL bx w it) : bx < w.heap.size := by
 obtain ⟨v, h1, _⟩ := h
 exact World.block_lt_of_cell? w ⟨bx, 0, none⟩ h1
theorem LVL.new (w : World) (t : TypeId) : LVL w.heap.size (w.alloc (.cells #[.slice none 0 0] t)) [] :=
 ⟨.slice none 0 0, by simp, fun o => World.frozen?_alloc_at _ _ _ _ rfl, OwnLn.nil _ _⟩
theorem one_cells {w : World} {B : Nat} {u : Value} {ld : LD} {l : List Pnt} (h : OwnP w B u l) : ∀ x ∈ flat2 (vLn [(u, ld)]), x.oneCell' = true := by
 obtain ⟨a, n, c, rfl⟩ := OwnQ.slice h
 intro x hx
 simp only [vLn, List.map_cons, List.map_nil, flat2, List.mem_cons, List.not_mem_nil, or_false] at hx
 rcases hx with rfl | rfl <;> rfl
set_option maxHeartbeats 1000000 in
theorem iaddL (wS w : World) (bx : Nat) (it : Its) (u : Value) (ld : LD) (t : TypeId) (h : LVL bx wS it) (k : Nw wS w) (hu : OwnP w wS.heap.size u ld.pts) (hlen : it.length + 1 ≤ 10000000) :
  Calls Try.prog 86 #[.pointer (some ⟨bx, 0, none⟩), .slice (some ⟨w.heap.size, 0, none⟩) 1 1] (w.alloc (.cells #[u, .bool ld.closed] t)) fun e w' => e = .returned (.tuple #[]) ∧ LVL bx w' (it ++ [(u, ld)]) ∧ Below bx wS w' := by
 have hbS := h.lt
 obtain ⟨v, hc, hf, hown⟩ := h
 have n1 : Nw w (w.alloc (.cells #[u, .bool ld.closed] t)) := (Below.refl _ _).alloc (Nat.le_refl _) _
 have k1 : Nw wS (w.alloc (.cells #[u, .bool ld.closed] t)) := Nw.trans k n1
 have hb : bx < (w.alloc (.cells #[u, .bool ld.closed] t)).heap.size := Nat.lt_of_lt_of_le hbS (Below.size k1)
 have hbox : (w.alloc (.cells #[u, .bool ld.closed] t)).cell? ⟨bx, 0, none⟩ = some v := ((bcell k1).1 _ _ hbS).trans hc
 have hfr : ∀ o, (w.alloc (.cells #[u, .bool ld.closed] t)).frozen? ⟨bx, o, none⟩ = false := fun o => ((bcell k1).2 _ _ hbS).trans (hf o)
 have hne : v.ownBlock ≠ some bx := fun e => by have := (OwnQ.lt hown.own bx e).1; omega
 have HI : Hid (∀ i, i < (vLn [(u, ld)]).length → (w.alloc (.cells #[u, .bool ld.closed] t)).cell? ⟨w.heap.size, 0 + i * 2, none⟩ = some (vvAt (vLn [(u, ld)]) i).1 ∧ (w.alloc (.cells #[u, .bool ld.closed] t)).cell? ⟨w.heap.size, 0 + i * 2 + 1, none⟩ = some (vvAt (vLn [(u, ld)]) i).2) := fun i hi => by
  have : i = 0 := by simp [vLn] at hi; omega
  subst this
  simp [vLn, vvAt]
 have H1 : Hid _ := one_cells (ld := ld) hu
 have HO : Hid (OwnLn wS (bx + 1) v it) := hown
 have HQ : Hid (OwnQ 55 (w.alloc (.cells #[u, .bool ld.closed] t)) (bx + 1) v (vLn it)) := OwnQ.nw hown.own k1
 have HU : Hid (OwnP (w.alloc (.cells #[u, .bool ld.closed] t)) wS.heap.size u ld.pts) := hu.nw n1
 have HK : Hid (Nw wS (w.alloc (.cells #[u, .bool ld.closed] t))) := k1
 have HN : Hid (v.ownBlock ≠ some bx) := hne
 have HL : Hid (it.length + 1 ≤ 10000000) := hlen
 clear hc hf hown k n1 k1 hne hu hlen
 obtain ⟨g, hg⟩ : ∃ g, w.heap.size = g := ⟨_, rfl⟩
 rw [hg] at HI ⊢
 generalize w.alloc (.cells #[u, .bool ld.closed] t) = W at *
 clear hg
 obtain ⟨sa, sn, sc, rfl⟩ := OwnQ.slice HQ.out
 go_enter Try.func86, Try.ntmps86
 go_wp2_with (at_builtin; (refine wpl_q 55 86 32 (.slice none 0 0) (.bool false) 32 under_llns under_lns info_line (by decide) rfl W (.tmp 7) (.tmp 8) rfl (bx + 1) (.slice sa sn sc) (vLn it) (vLn [(u, ld)]) rfl HQ.out g 0 1 1 rfl rfl HI.out H1.out (by rw [vLn_len]; simp) ?cl ?cb rfl ?_))
 case cl => rw [vLn_len, vLn_len]; have := HL.out; simpa using this
 case cb => omega
 intro g' c' w1 h2 h3
 rw [← vLn_append] at h2
 rw [vLn_len] at h2 h3 ⊢
 have y0 : w1.cell? ⟨bx, 0, none⟩ = some (.slice sa sn sc) := (Ext.cell h3 hb HN.out 0).trans hbox
 have y1 : ∀ o, w1.frozen? ⟨bx, o, none⟩ = false := fun o => (World.frozen?_of_block (w := W) (a := ⟨bx, o, none⟩) (h3.1.block bx hb (fun e => HN.out e.symm))).trans (hfr o)
 have H2 : Hid _ := OwnLn.put HO.out HK.out (Nat.succ_le_of_lt hbS) HU.out h2 h3
 have H3 : Hid _ := h3
 clear h2 h3 hbox hfr
 go_wp2
 go_end0
 refine ⟨rfl, ⟨_, World.cell?_setCell_same w1 ⟨bx, 0, none⟩ _ y0, fun o => by rw [World.frozen?_setCell]; exact y1 o, OwnLn.farSet H2.out _ _ _ (Nat.lt_succ_self _)⟩, ?_⟩
 have kb : Below bx W w1 := Ext.below H3.out (fun g e => Nat.le_of_succ_le (OwnQ.lt HQ.out g e).1) (by omega)
 exact Below.setCell (Below.trans (Below.mono HK.out (Nat.le_of_lt hbS)) kb) (Nat.le_refl _) _
end Go.Proofs.Ytdjemnbdaddegaa
