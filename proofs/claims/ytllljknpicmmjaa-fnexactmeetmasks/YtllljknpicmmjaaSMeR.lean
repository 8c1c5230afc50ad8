/-
  The statement of spec.l11Meet that appends a number; each theorem names its conditions.
-/
import Derived.Test.YtllljknpicmmjaaCvB
import Derived.Test.YtllljknpicmmjaaRq
namespace Go.Proofs.Ytllljknpicmmjaa
open Go.ChangeShapes Go.WideShapes Go.ChangeAt Go.RowKit
set_option linter.unusedVariables false

structure SMM where
  bx : Nat
  bb : Nat
  p : MD
  va : Option Addr
  vn : Nat
  vc : Nat
  l : List Int
  gb : Nat
  go : Nat
  bn : Nat
  bc : Nat
  k : Nat
  x : Int
  y : Int
  W : World
  a0 : Act
structure SMMOk (X : SMM) : Prop where
  cb : CvB X.bx X.W X.p (.slice X.va X.vn X.vc) X.l
  len : X.l.length ≤ 1000000
  cc : X.W.cell? ⟨X.bb, 2, none⟩ = some (.slice (some ⟨X.gb, X.go, none⟩) X.bn X.bc)
  hk : X.k < X.bn
  cy : X.W.cell? ⟨X.gb, X.go + X.k, none⟩ = some (.int .i64 X.y)
  w1 : IntKind.i64.wrap (X.x * X.y) = X.x * X.y
  w2 : IntKind.i64.wrap (X.x * X.y + 8) = X.x * X.y + 8
  w3 : (X.x * X.y + 8).tdiv 16 = (X.x * X.y + 8) / 16
  w4 : IntKind.i64.wrap ((X.x * X.y + 8) / 16) = (X.x * X.y + 8) / 16
  e3 : X.a0.eval (.tmp 3) = .pointer (some ⟨X.bb, 0, none⟩)
  e5 : X.a0.eval (.tmp 5) = .pointer (some ⟨X.bx, 0, none⟩)
  e6 : X.a0.eval (.tmp 6) = .int .i64 (X.k : Int)
  e7 : X.a0.eval (.tmp 7) = .int .i64 X.x
  sz : X.a0.tmps.size = 37
def SMM.val0 (X : SMM) : Nat → Value
  | 21 => .pointer (some ⟨X.bx, 2, none⟩)
  | 22 => .slice X.va X.vn X.vc
  | 23 => .int .i64 X.x
  | 24 => .pointer (some ⟨X.bb, 2, none⟩)
  | 25 => .slice (some ⟨X.gb, X.go, none⟩) X.bn X.bc
  | 26 => .int .i64 (X.k : Int)
  | 27 => .pointer (some ⟨X.gb, X.go + X.k, none⟩)
  | 28 => .int .i64 X.y
  | 29 => .int .i64 (X.x * X.y)
  | 30 => .int .i64 (X.x * X.y + 8)
  | 31 => .int .i64 ((X.x * X.y + 8) / 16)
  | 34 => .pointer (some ⟨X.bx, 2, none⟩)
  | _ => undef
def SMM.av : Nat → Option Nat
  | 32 => some 0
  | 33 => some 1
  | _ => none
def SMM.acts : List Nat := [11, 12, 14]
/-- The world, by how many of the acting ones have come up. -/
def SMM.Wd (X : SMM) : Nat → (Nat → Value) → World → Prop
  | 0, _, w => Kp X.W w
  | 1, γ, w => ∃ w1, Kp X.W w1 ∧ γ 0 = .slice (some ⟨w1.heap.size, 0, none⟩) 1 1 ∧ w = w1.alloc (.cells #[.int .i64 ((X.x * X.y + 8) / 16)] 3)
  | 2, γ, w => ∃ w1, Kp X.W w1 ∧ Ins w (X.bx + 1) (γ 1) (X.l ++ [(X.x * X.y + 8) / 16]) ∧ Ext (.slice X.va X.vn X.vc) (γ 1) w1 w
  | _, γ, w => ∃ w1 w2, Kp X.W w1 ∧ Ins w2 (X.bx + 1) (γ 1) (X.l ++ [(X.x * X.y + 8) / 16]) ∧ Ext (.slice X.va X.vn X.vc) (γ 1) w1 w2 ∧ w = w2.setCell ⟨X.bx, 2, none⟩ (γ 1)
theorem SMM.chain : chainG (opsOf 5 Try.f67) SMM.acts = true := by kernel_rfl
theorem SMM.nodup : SMM.acts.Nodup := by decide
theorem SMM.inj {listed : Array Bool} {i k : Nat} (h : (List.range (opsOf 5 Try.f67).size).all (fun j => decide (j = i) || !(match dstOf (opsOf 5 Try.f67) j with | some d => decide (SMM.av d = some k) | none => false)) = true) (hu : listed.getD i false = false) : ∀ d, got (opsOf 5 Try.f67) listed d → SMM.av d ≠ some k := by
  rintro d ⟨j, h1, h2⟩ h3
  have hlt : j < (opsOf 5 Try.f67).size := by
    rcases Nat.lt_or_ge j (opsOf 5 Try.f67).size with h4 | h4
    · exact h4
    · unfold dstOf at h2; rw [Array.getElem?_eq_none h4] at h2; cases h2
  have h5 := List.all_eq_true.1 h j (List.mem_range.2 hlt)
  rw [h2] at h5
  simp only [h3, decide_true, Bool.not_true, Bool.or_false, decide_eq_true_eq] at h5
  subst h5
  rw [hu] at h1
  cases h1
theorem SMM.s0 (X : SMM) (ok : SMMOk X) {Q : Exit → Act → World → Prop} : StepG (opsOf 5 Try.f67) SMM.acts SMM.av X.val0 X.Wd X.a0 Q 0 := by
  intro γ listed a w o hF hC hW h1 ho h2
  obtain ⟨hd, hop, hg⟩ := fields2 (x := some 21) (y := Op.fieldAddr 28 (.tmp 5) 2) (z := none) (by kernel_rfl) ho
  have e5 : a.eval (.tmp 5) = .pointer (some ⟨X.bx, 0, none⟩) := (hF.eval0 (by kernel_rfl)).trans ok.e5
  refine st_pureG hF hC hW ho h2 (by decide) hd hg rfl ?_
  show _ = Result.ok (Next.value (.pointer (some ⟨X.bx, 2, none⟩))) w
  generalize a.eval = ρ at e5 ⊢
  unfold execOp
  rw [hop]
  simp [e5, go_sem]
theorem SMM.s1 (X : SMM) (ok : SMMOk X) {Q : Exit → Act → World → Prop} : StepG (opsOf 5 Try.f67) SMM.acts SMM.av X.val0 X.Wd X.a0 Q 1 := by
  intro γ listed a w o hF hC hW h1 ho h2
  obtain ⟨hd, hop, hg⟩ := fields2 (x := some 22) (y := Op.load 26 (.tmp 21)) (z := none) (by kernel_rfl) ho
  have e21 : a.eval (.tmp 21) = .pointer (some ⟨X.bx, 2, none⟩) := slotG hF ho h2 (j := 0) (d := 21) (by kernel_rfl) (by kernel_rfl) (by rw [ok.sz]; decide)
  have hph := phase_leG (acts := SMM.acts) (m := 1) (x := 12) hC (unl (hF.lt ho) h1) rfl [1] (by kernel_rfl) (by decide)
  have hWW := hW
  generalize phase listed SMM.acts = n at hph hWW
  have hk : Nw X.W w := by
    rcases (show n = 0 ∨ n = 1 by omega) with rfl | rfl
    · exact hWW.nw
    · obtain ⟨w1, k1, _, rfl⟩ := hWW
      exact Nw.trans k1.nw ((Below.refl _ _).alloc (Nat.le_refl _) _)
  have hc := (ok.cb.nw hk).c2
  refine st_pureG hF hC hW ho h2 (by decide) hd hg rfl ?_
  show _ = Result.ok (Next.value (.slice X.va X.vn X.vc)) w
  generalize a.eval = ρ at e21 ⊢
  unfold execOp
  rw [hop]
  simp [e21, hc, go_sem]
theorem SMM.s2 (X : SMM) (ok : SMMOk X) {Q : Exit → Act → World → Prop} : StepG (opsOf 5 Try.f67) SMM.acts SMM.av X.val0 X.Wd X.a0 Q 2 := by
  intro γ listed a w o hF hC hW h1 ho h2
  obtain ⟨hd, hop, hg⟩ := fields2 (x := some 23) (y := Op.move (.tmp 7)) (z := none) (by kernel_rfl) ho
  have e7 : a.eval (.tmp 7) = .int .i64 X.x := (hF.eval0 (by kernel_rfl)).trans ok.e7
  refine st_pureG hF hC hW ho h2 (by decide) hd hg rfl ?_
  show _ = Result.ok (Next.value (.int .i64 X.x)) w
  generalize a.eval = ρ at e7 ⊢
  unfold execOp
  rw [hop]
  simp [e7, go_sem]
theorem SMM.s3 (X : SMM) (ok : SMMOk X) {Q : Exit → Act → World → Prop} : StepG (opsOf 5 Try.f67) SMM.acts SMM.av X.val0 X.Wd X.a0 Q 3 := by
  intro γ listed a w o hF hC hW h1 ho h2
  obtain ⟨hd, hop, hg⟩ := fields2 (x := some 24) (y := Op.fieldAddr 28 (.tmp 3) 2) (z := none) (by kernel_rfl) ho
  have e3 : a.eval (.tmp 3) = .pointer (some ⟨X.bb, 0, none⟩) := (hF.eval0 (by kernel_rfl)).trans ok.e3
  refine st_pureG hF hC hW ho h2 (by decide) hd hg rfl ?_
  show _ = Result.ok (Next.value (.pointer (some ⟨X.bb, 2, none⟩))) w
  generalize a.eval = ρ at e3 ⊢
  unfold execOp
  rw [hop]
  simp [e3, go_sem]
theorem SMM.s4 (X : SMM) (ok : SMMOk X) {Q : Exit → Act → World → Prop} : StepG (opsOf 5 Try.f67) SMM.acts SMM.av X.val0 X.Wd X.a0 Q 4 := by
  intro γ listed a w o hF hC hW h1 ho h2
  obtain ⟨hd, hop, hg⟩ := fields2 (x := some 25) (y := Op.load 26 (.tmp 24)) (z := none) (by kernel_rfl) ho
  have e24 : a.eval (.tmp 24) = .pointer (some ⟨X.bb, 2, none⟩) := slotG hF ho h2 (j := 3) (d := 24) (by kernel_rfl) (by kernel_rfl) (by rw [ok.sz]; decide)
  have hph := phase_leG (acts := SMM.acts) (m := 0) (x := 11) hC (unl (hF.lt ho) h1) rfl [10, 9, 8, 7, 6, 4] (by kernel_rfl) (by decide)
  have hWW := hW
  generalize phase listed SMM.acts = n at hph hWW
  have hk : Kp X.W w := by
    obtain rfl : n = 0 := by omega
    exact hWW
  have hc := kpc hk ok.cc
  refine st_pureG hF hC hW ho h2 (by decide) hd hg rfl ?_
  show _ = Result.ok (Next.value (.slice (some ⟨X.gb, X.go, none⟩) X.bn X.bc)) w
  generalize a.eval = ρ at e24 ⊢
  unfold execOp
  rw [hop]
  simp [e24, hc, go_sem]
theorem SMM.s5 (X : SMM) (ok : SMMOk X) {Q : Exit → Act → World → Prop} : StepG (opsOf 5 Try.f67) SMM.acts SMM.av X.val0 X.Wd X.a0 Q 5 := by
  intro γ listed a w o hF hC hW h1 ho h2
  obtain ⟨hd, hop, hg⟩ := fields2 (x := some 26) (y := Op.move (.tmp 6)) (z := none) (by kernel_rfl) ho
  have e6 : a.eval (.tmp 6) = .int .i64 (X.k : Int) := (hF.eval0 (by kernel_rfl)).trans ok.e6
  refine st_pureG hF hC hW ho h2 (by decide) hd hg rfl ?_
  show _ = Result.ok (Next.value (.int .i64 (X.k : Int))) w
  generalize a.eval = ρ at e6 ⊢
  unfold execOp
  rw [hop]
  simp [e6, go_sem]
theorem SMM.s6 (X : SMM) (ok : SMMOk X) {Q : Exit → Act → World → Prop} : StepG (opsOf 5 Try.f67) SMM.acts SMM.av X.val0 X.Wd X.a0 Q 6 := by
  intro γ listed a w o hF hC hW h1 ho h2
  obtain ⟨hd, hop, hg⟩ := fields2 (x := some 27) (y := Op.indexAddr 26 (.tmp 25) (.tmp 26)) (z := none) (by kernel_rfl) ho
  have e25 : a.eval (.tmp 25) = .slice (some ⟨X.gb, X.go, none⟩) X.bn X.bc := slotG hF ho h2 (j := 4) (d := 25) (by kernel_rfl) (by kernel_rfl) (by rw [ok.sz]; decide)
  have e26 : a.eval (.tmp 26) = .int .i64 (X.k : Int) := slotG hF ho h2 (j := 5) (d := 26) (by kernel_rfl) (by kernel_rfl) (by rw [ok.sz]; decide)
  have hkk := ok.hk
  refine st_pureG hF hC hW ho h2 (by decide) hd hg rfl ?_
  show _ = Result.ok (Next.value (.pointer (some ⟨X.gb, X.go + X.k, none⟩))) w
  generalize a.eval = ρ at e25 e26 ⊢
  unfold execOp
  rw [hop]
  simp [e25, e26, hkk, go_sem]
theorem SMM.s7 (X : SMM) (ok : SMMOk X) {Q : Exit → Act → World → Prop} : StepG (opsOf 5 Try.f67) SMM.acts SMM.av X.val0 X.Wd X.a0 Q 7 := by
  intro γ listed a w o hF hC hW h1 ho h2
  obtain ⟨hd, hop, hg⟩ := fields2 (x := some 28) (y := Op.load 3 (.tmp 27)) (z := none) (by kernel_rfl) ho
  have e27 : a.eval (.tmp 27) = .pointer (some ⟨X.gb, X.go + X.k, none⟩) := slotG hF ho h2 (j := 6) (d := 27) (by kernel_rfl) (by kernel_rfl) (by rw [ok.sz]; decide)
  have hph := phase_leG (acts := SMM.acts) (m := 0) (x := 11) hC (unl (hF.lt ho) h1) rfl [10, 9, 8, 7] (by kernel_rfl) (by decide)
  have hWW := hW
  generalize phase listed SMM.acts = n at hph hWW
  have hk : Kp X.W w := by
    obtain rfl : n = 0 := by omega
    exact hWW
  have hc := kpc hk ok.cy
  refine st_pureG hF hC hW ho h2 (by decide) hd hg rfl ?_
  show _ = Result.ok (Next.value (.int .i64 X.y)) w
  generalize a.eval = ρ at e27 ⊢
  unfold execOp
  rw [hop]
  simp [e27, hc, go_sem]
theorem SMM.s8 (X : SMM) (ok : SMMOk X) {Q : Exit → Act → World → Prop} : StepG (opsOf 5 Try.f67) SMM.acts SMM.av X.val0 X.Wd X.a0 Q 8 := by
  intro γ listed a w o hF hC hW h1 ho h2
  obtain ⟨hd, hop, hg⟩ := fields2 (x := some 29) (y := Op.binOp .mul 3 (.tmp 23) (.tmp 28) 3) (z := none) (by kernel_rfl) ho
  have e23 : a.eval (.tmp 23) = .int .i64 X.x := slotG hF ho h2 (j := 2) (d := 23) (by kernel_rfl) (by kernel_rfl) (by rw [ok.sz]; decide)
  have e28 : a.eval (.tmp 28) = .int .i64 X.y := slotG hF ho h2 (j := 7) (d := 28) (by kernel_rfl) (by kernel_rfl) (by rw [ok.sz]; decide)
  refine st_pureG hF hC hW ho h2 (by decide) hd hg rfl ?_
  show _ = Result.ok (Next.value (.int .i64 (X.x * X.y))) w
  generalize a.eval = ρ at e23 e28 ⊢
  unfold execOp
  rw [hop]
  simp [e23, e28, ok.w1, go_sem]
theorem SMM.s9 (X : SMM) (ok : SMMOk X) {Q : Exit → Act → World → Prop} : StepG (opsOf 5 Try.f67) SMM.acts SMM.av X.val0 X.Wd X.a0 Q 9 := by
  intro γ listed a w o hF hC hW h1 ho h2
  obtain ⟨hd, hop, hg⟩ := fields2 (x := some 30) (y := Op.binOp .add 3 (.tmp 29) (.const (.int .i64 8)) 3) (z := none) (by kernel_rfl) ho
  have e29 : a.eval (.tmp 29) = .int .i64 (X.x * X.y) := slotG hF ho h2 (j := 8) (d := 29) (by kernel_rfl) (by kernel_rfl) (by rw [ok.sz]; decide)
  have ec1 : a.eval (.const (.int .i64 8)) = .int .i64 8 := rfl
  refine st_pureG hF hC hW ho h2 (by decide) hd hg rfl ?_
  show _ = Result.ok (Next.value (.int .i64 (X.x * X.y + 8))) w
  generalize a.eval = ρ at e29 ec1 ⊢
  unfold execOp
  rw [hop]
  simp [e29, ec1, ok.w2, go_sem]
theorem SMM.s10 (X : SMM) (ok : SMMOk X) {Q : Exit → Act → World → Prop} : StepG (opsOf 5 Try.f67) SMM.acts SMM.av X.val0 X.Wd X.a0 Q 10 := by
  intro γ listed a w o hF hC hW h1 ho h2
  obtain ⟨hd, hop, hg⟩ := fields2 (x := some 31) (y := Op.binOp .quo 3 (.tmp 30) (.const (.int .i64 16)) 3) (z := none) (by kernel_rfl) ho
  have e30 : a.eval (.tmp 30) = .int .i64 (X.x * X.y + 8) := slotG hF ho h2 (j := 9) (d := 30) (by kernel_rfl) (by kernel_rfl) (by rw [ok.sz]; decide)
  have ec1 : a.eval (.const (.int .i64 16)) = .int .i64 16 := rfl
  refine st_pureG hF hC hW ho h2 (by decide) hd hg rfl ?_
  show _ = Result.ok (Next.value (.int .i64 ((X.x * X.y + 8) / 16))) w
  generalize a.eval = ρ at e30 ec1 ⊢
  unfold execOp
  rw [hop]
  simp [e30, ec1, ok.w3, ok.w4, go_sem]
theorem SMM.s11 (X : SMM) (ok : SMMOk X) {Q : Exit → Act → World → Prop} : StepG (opsOf 5 Try.f67) SMM.acts SMM.av X.val0 X.Wd X.a0 Q 11 := by
  intro γ listed a w o hF hC hW h1 ho h2
  obtain ⟨hd, hop, hg⟩ := fields2 (x := some 32) (y := Op.buildSlice 26 1 #[(0, (.tmp 31))]) (z := none) (by kernel_rfl) ho
  have e31 : a.eval (.tmp 31) = .int .i64 ((X.x * X.y + 8) / 16) := slotG hF ho h2 (j := 10) (d := 31) (by kernel_rfl) (by kernel_rfl) (by rw [ok.sz]; decide)
  have hu := unl (hF.lt ho) h1
  refine st_actG (k := 0) SMM.chain SMM.nodup rfl hF hC hW h1 ho h2 (Or.inr ⟨32, hd, rfl⟩) (SMM.inj (by kernel_rfl) hu) hg ?_
  intro hW0 K hK
  have hr : (execOp a.eval o).run Try.prog w = .ok (.value (.slice (some ⟨w.heap.size, 0, none⟩) 1 1)) (w.alloc (.cells #[.int .i64 ((X.x * X.y + 8) / 16)] 3)) := by
    generalize a.eval = ρ at e31 ⊢
    unfold execOp
    rw [hop]
    simp [e31, go_sem]
  unfold Oper.wp
  rw [hr]
  exact hK _ _ ⟨w, hW0, rfl, rfl⟩
theorem SMM.s12 (X : SMM) (ok : SMMOk X) {Q : Exit → Act → World → Prop} : StepG (opsOf 5 Try.f67) SMM.acts SMM.av X.val0 X.Wd X.a0 Q 12 := by
  intro γ listed a w o hF hC hW h1 ho h2
  obtain ⟨hd, hop, hg⟩ := fields2 (x := some 33) (y := Op.call { callee := .builtin .append, args := #[(.tmp 22), (.tmp 32)], argTypes := #[26, 26] }) (z := none) (by kernel_rfl) ho
  have e22 : a.eval (.tmp 22) = .slice X.va X.vn X.vc := slotG hF ho h2 (j := 1) (d := 22) (by kernel_rfl) (by kernel_rfl) (by rw [ok.sz]; decide)
  have e32 : a.eval (.tmp 32) = γ 0 := slotG hF ho h2 (j := 11) (d := 32) (by kernel_rfl) (by kernel_rfl) (by rw [ok.sz]; decide)
  have hu := unl (hF.lt ho) h1
  refine st_actG (k := 1) SMM.chain SMM.nodup rfl hF hC hW h1 ho h2 (Or.inr ⟨33, hd, rfl⟩) (SMM.inj (by kernel_rfl) hu) hg ?_
  intro hW0 K hK
  obtain ⟨w1, k1, g0, rfl⟩ := hW0
  rw [g0] at e32
  have lb := ok.cb.nw k1.nw
  have n1 : Nw w1 (w1.alloc (.cells #[.int .i64 ((X.x * X.y + 8) / 16)] 3)) := (Below.refl _ _).alloc (Nat.le_refl _) _
  refine wpk_in _ (.tmp 22) (.tmp 32) hop (X.bx + 1) (.slice X.va X.vn X.vc) X.l ((X.x * X.y + 8) / 16) e22 (lb.own.nw n1) w1.heap.size e32 (by simp) (by have := ok.len; omega) (by have := lb.lt; simp; omega) ?_
  intro v' w' h3 h4
  exact hK _ _ ⟨w1, k1, h3, n1.ext h4⟩
theorem SMM.s13 (X : SMM) (ok : SMMOk X) {Q : Exit → Act → World → Prop} : StepG (opsOf 5 Try.f67) SMM.acts SMM.av X.val0 X.Wd X.a0 Q 13 := by
  intro γ listed a w o hF hC hW h1 ho h2
  obtain ⟨hd, hop, hg⟩ := fields2 (x := some 34) (y := Op.fieldAddr 28 (.tmp 5) 2) (z := none) (by kernel_rfl) ho
  have e5 : a.eval (.tmp 5) = .pointer (some ⟨X.bx, 0, none⟩) := (hF.eval0 (by kernel_rfl)).trans ok.e5
  refine st_pureG hF hC hW ho h2 (by decide) hd hg rfl ?_
  show _ = Result.ok (Next.value (.pointer (some ⟨X.bx, 2, none⟩))) w
  generalize a.eval = ρ at e5 ⊢
  unfold execOp
  rw [hop]
  simp [e5, go_sem]
theorem SMM.s14 (X : SMM) (ok : SMMOk X) {Q : Exit → Act → World → Prop} : StepG (opsOf 5 Try.f67) SMM.acts SMM.av X.val0 X.Wd X.a0 Q 14 := by
  intro γ listed a w o hF hC hW h1 ho h2
  obtain ⟨hd, hop, hg⟩ := fields2 (x := none) (y := Op.store 26 (.tmp 34) (.tmp 33)) (z := none) (by kernel_rfl) ho
  have e34 : a.eval (.tmp 34) = .pointer (some ⟨X.bx, 2, none⟩) := slotG hF ho h2 (j := 13) (d := 34) (by kernel_rfl) (by kernel_rfl) (by rw [ok.sz]; decide)
  have e33 : a.eval (.tmp 33) = γ 1 := slotG hF ho h2 (j := 12) (d := 33) (by kernel_rfl) (by kernel_rfl) (by rw [ok.sz]; decide)
  have hu := unl (hF.lt ho) h1
  refine st_actG (k := 2) SMM.chain SMM.nodup rfl hF hC hW h1 ho h2 (Or.inl hd) (SMM.inj (by kernel_rfl) hu) hg ?_
  intro hW0 K hK
  obtain ⟨w1, k1, o1, x1⟩ := hW0
  obtain ⟨t0, tf⟩ := (ok.cb.nw k1.nw).there x1
  obtain ⟨sa, sn, sc, g1⟩ := o1.slice
  have hr : (execOp a.eval o).run Try.prog w = .ok .skip (w.setCell ⟨X.bx, 2, none⟩ (γ 1)) := by
    rw [g1] at e33 ⊢
    generalize a.eval = ρ at e33 e34 ⊢
    unfold execOp
    rw [hop]
    simp [e33, e34, t0, tf, go_sem]
  unfold Oper.wp
  rw [hr]
  exact hK _ _ ⟨w1, w, k1, o1, x1, rfl⟩
theorem SMM.size : (opsOf 5 Try.f67).size = 15 := by kernel_rfl
theorem SMM.steps (X : SMM) (ok : SMMOk X) {Q : Exit → Act → World → Prop} (i : Nat) (hi : i < (opsOf 5 Try.f67).size) : StepG (opsOf 5 Try.f67) SMM.acts SMM.av X.val0 X.Wd X.a0 Q i := by
  rw [SMM.size] at hi
  have hc : i = 0 ∨ i = 1 ∨ i = 2 ∨ i = 3 ∨ i = 4 ∨ i = 5 ∨ i = 6 ∨ i = 7 ∨ i = 8 ∨ i = 9 ∨ i = 10 ∨ i = 11 ∨ i = 12 ∨ i = 13 ∨ i = 14 := by omega
  rcases hc with rfl | rfl | rfl | rfl | rfl | rfl | rfl | rfl | rfl | rfl | rfl | rfl | rfl | rfl | rfl
  · exact SMM.s0 X ok
  · exact SMM.s1 X ok
  · exact SMM.s2 X ok
  · exact SMM.s3 X ok
  · exact SMM.s4 X ok
  · exact SMM.s5 X ok
  · exact SMM.s6 X ok
  · exact SMM.s7 X ok
  · exact SMM.s8 X ok
  · exact SMM.s9 X ok
  · exact SMM.s10 X ok
  · exact SMM.s11 X ok
  · exact SMM.s12 X ok
  · exact SMM.s13 X ok
  · exact SMM.s14 X ok
theorem SMM.puts (X : SMM) (γ : Nat → Value) (a0 : Act) : putsL (valG SMM.av X.val0 γ) (opsOf 5 Try.f67).toList a0 = ((((((((((((((a0.put (some 21) (.pointer (some ⟨X.bx, 2, none⟩))).put (some 22) (.slice X.va X.vn X.vc)).put (some 23) (.int .i64 X.x)).put (some 24) (.pointer (some ⟨X.bb, 2, none⟩))).put (some 25) (.slice (some ⟨X.gb, X.go, none⟩) X.bn X.bc)).put (some 26) (.int .i64 (X.k : Int))).put (some 27) (.pointer (some ⟨X.gb, X.go + X.k, none⟩))).put (some 28) (.int .i64 X.y)).put (some 29) (.int .i64 (X.x * X.y))).put (some 30) (.int .i64 (X.x * X.y + 8))).put (some 31) (.int .i64 ((X.x * X.y + 8) / 16))).put (some 32) (γ 0)).put (some 33) (γ 1)).put (some 34) (.pointer (some ⟨X.bx, 2, none⟩))) := by kernel_rfl
/-- The region, whatever order comes up. -/
theorem SMM.run (X : SMM) (ok : SMMOk X) {Q : Exit → Act → World → Prop} (w : World) (h0 : X.Wd 0 (fun _ => undef) w.drew) (hend : ∀ (γ : Nat → Value) w', X.Wd 3 γ w' → Q .normal ((((((((((((((X.a0.put (some 21) (.pointer (some ⟨X.bx, 2, none⟩))).put (some 22) (.slice X.va X.vn X.vc)).put (some 23) (.int .i64 X.x)).put (some 24) (.pointer (some ⟨X.bb, 2, none⟩))).put (some 25) (.slice (some ⟨X.gb, X.go, none⟩) X.bn X.bc)).put (some 26) (.int .i64 (X.k : Int))).put (some 27) (.pointer (some ⟨X.gb, X.go + X.k, none⟩))).put (some 28) (.int .i64 X.y)).put (some 29) (.int .i64 (X.x * X.y))).put (some 30) (.int .i64 (X.x * X.y + 8))).put (some 31) (.int .i64 ((X.x * X.y + 8) / 16))).put (some 32) (γ 0)).put (some 33) (γ 1)).put (some 34) (.pointer (some ⟨X.bx, 2, none⟩))) w') : (Code.region 5 (opsOf 5 Try.f67) true).wp Try.prog Q X.a0 w := by
  refine reg_act (acts := SMM.acts) (av := SMM.av) (val0 := X.val0) (Wd := X.Wd) (by kernel_rfl) (by kernel_rfl) (by rw [SMM.size]; decide) (fun i hi => SMM.steps X ok i hi) _ h0 ?_
  intro γ w' h
  rw [SMM.puts]
  exact hend γ w' h
end Go.Proofs.Ytllljknpicmmjaa
