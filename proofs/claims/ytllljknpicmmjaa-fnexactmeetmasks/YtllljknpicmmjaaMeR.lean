/-
  The statement of impl.MeetMasks that appends a number; each theorem names its conditions.
-/
import Derived.Test.YtllljknpicmmjaaCvB
import Derived.Test.YtllljknpicmmjaaRq
namespace Go.Proofs.Ytllljknpicmmjaa
open Go.ChangeShapes Go.WideShapes Go.ChangeAt Go.RowKit
set_option linter.unusedVariables false

structure IM where
  bx : Nat
  bb : Nat
  p : MD
  va : Option Addr
  vn : Nat
  vc : Nat
  l : List Int
  gb : Nat
  go : Nat
  bn : Nat
  bc : Nat
  k : Nat
  x : Int
  y : Int
  W : World
  a0 : Act
structure IMOk (X : IM) : Prop where
  cb : CvB X.bx X.W X.p (.slice X.va X.vn X.vc) X.l
  len : X.l.length ≤ 1000000
  cc : X.W.cell? ⟨X.bb, 2, none⟩ = some (.slice (some ⟨X.gb, X.go, none⟩) X.bn X.bc)
  hk : X.k < X.bn
  cy : X.W.cell? ⟨X.gb, X.go + X.k, none⟩ = some (.int .i64 X.y)
  w1 : IntKind.i64.wrap (X.x * X.y) = X.x * X.y
  w2 : IntKind.i64.wrap (X.x * X.y + 8) = X.x * X.y + 8
  w3 : (X.x * X.y + 8).tdiv 16 = (X.x * X.y + 8) / 16
  w4 : IntKind.i64.wrap ((X.x * X.y + 8) / 16) = (X.x * X.y + 8) / 16
  e3 : X.a0.eval (.tmp 3) = .pointer (some ⟨X.bb, 0, none⟩)
  e6 : X.a0.eval (.tmp 6) = .pointer (some ⟨X.bx, 0, none⟩)
  e7 : X.a0.eval (.tmp 7) = .int .i64 (X.k : Int)
  e8 : X.a0.eval (.tmp 8) = .int .i64 X.x
  sz : X.a0.tmps.size = 61
def IM.val0 (X : IM) : Nat → Value
  | 45 => .pointer (some ⟨X.bx, 2, none⟩)
  | 46 => .slice X.va X.vn X.vc
  | 47 => .int .i64 X.x
  | 48 => .pointer (some ⟨X.bb, 2, none⟩)
  | 49 => .slice (some ⟨X.gb, X.go, none⟩) X.bn X.bc
  | 50 => .int .i64 (X.k : Int)
  | 51 => .pointer (some ⟨X.gb, X.go + X.k, none⟩)
  | 52 => .int .i64 X.y
  | 53 => .int .i64 (X.x * X.y)
  | 54 => .int .i64 (X.x * X.y + 8)
  | 55 => .int .i64 ((X.x * X.y + 8) / 16)
  | 58 => .pointer (some ⟨X.bx, 2, none⟩)
  | _ => undef
def IM.av : Nat → Option Nat
  | 56 => some 0
  | 57 => some 1
  | _ => none
def IM.acts : List Nat := [11, 12, 14]
/-- The world, by how many of the acting ones have come up. -/
def IM.Wd (X : IM) : Nat → (Nat → Value) → World → Prop
  | 0, _, w => Kp X.W w
  | 1, γ, w => ∃ w1, Kp X.W w1 ∧ γ 0 = .slice (some ⟨w1.heap.size, 0, none⟩) 1 1 ∧ w = w1.alloc (.cells #[.int .i64 ((X.x * X.y + 8) / 16)] 3)
  | 2, γ, w => ∃ w1, Kp X.W w1 ∧ Ins w (X.bx + 1) (γ 1) (X.l ++ [(X.x * X.y + 8) / 16]) ∧ Ext (.slice X.va X.vn X.vc) (γ 1) w1 w
  | _, γ, w => ∃ w1 w2, Kp X.W w1 ∧ Ins w2 (X.bx + 1) (γ 1) (X.l ++ [(X.x * X.y + 8) / 16]) ∧ Ext (.slice X.va X.vn X.vc) (γ 1) w1 w2 ∧ w = w2.setCell ⟨X.bx, 2, none⟩ (γ 1)
theorem IM.chain : chainG (opsOf 7 Try.f15) IM.acts = true := by kernel_rfl
theorem IM.nodup : IM.acts.Nodup := by decide
theorem IM.inj {listed : Array Bool} {i k : Nat} (h : (List.range (opsOf 7 Try.f15).size).all (fun j => decide (j = i) || !(match dstOf (opsOf 7 Try.f15) j with | some d => decide (IM.av d = some k) | none => false)) = true) (hu : listed.getD i false = false) : ∀ d, got (opsOf 7 Try.f15) listed d → IM.av d ≠ some k := by
  rintro d ⟨j, h1, h2⟩ h3
  have hlt : j < (opsOf 7 Try.f15).size := by
    rcases Nat.lt_or_ge j (opsOf 7 Try.f15).size with h4 | h4
    · exact h4
    · unfold dstOf at h2; rw [Array.getElem?_eq_none h4] at h2; cases h2
  have h5 := List.all_eq_true.1 h j (List.mem_range.2 hlt)
  rw [h2] at h5
  simp only [h3, decide_true, Bool.not_true, Bool.or_false, decide_eq_true_eq] at h5
  subst h5
  rw [hu] at h1
  cases h1
theorem IM.s0 (X : IM) (ok : IMOk X) {Q : Exit → Act → World → Prop} : StepG (opsOf 7 Try.f15) IM.acts IM.av X.val0 X.Wd X.a0 Q 0 := by
  intro γ listed a w o hF hC hW h1 ho h2
  obtain ⟨hd, hop, hg⟩ := fields2 (x := some 45) (y := Op.fieldAddr 28 (.tmp 6) 2) (z := none) (by kernel_rfl) ho
  have e6 : a.eval (.tmp 6) = .pointer (some ⟨X.bx, 0, none⟩) := (hF.eval0 (by kernel_rfl)).trans ok.e6
  refine st_pureG hF hC hW ho h2 (by decide) hd hg rfl ?_
  show _ = Result.ok (Next.value (.pointer (some ⟨X.bx, 2, none⟩))) w
  generalize a.eval = ρ at e6 ⊢
  unfold execOp
  rw [hop]
  simp [e6, go_sem]
theorem IM.s1 (X : IM) (ok : IMOk X) {Q : Exit → Act → World → Prop} : StepG (opsOf 7 Try.f15) IM.acts IM.av X.val0 X.Wd X.a0 Q 1 := by
  intro γ listed a w o hF hC hW h1 ho h2
  obtain ⟨hd, hop, hg⟩ := fields2 (x := some 46) (y := Op.load 26 (.tmp 45)) (z := none) (by kernel_rfl) ho
  have e45 : a.eval (.tmp 45) = .pointer (some ⟨X.bx, 2, none⟩) := slotG hF ho h2 (j := 0) (d := 45) (by kernel_rfl) (by kernel_rfl) (by rw [ok.sz]; decide)
  have hph := phase_leG (acts := IM.acts) (m := 1) (x := 12) hC (unl (hF.lt ho) h1) rfl [1] (by kernel_rfl) (by decide)
  have hWW := hW
  generalize phase listed IM.acts = n at hph hWW
  have hk : Nw X.W w := by
    rcases (show n = 0 ∨ n = 1 by omega) with rfl | rfl
    · exact hWW.nw
    · obtain ⟨w1, k1, _, rfl⟩ := hWW
      exact Nw.trans k1.nw ((Below.refl _ _).alloc (Nat.le_refl _) _)
  have hc := (ok.cb.nw hk).c2
  refine st_pureG hF hC hW ho h2 (by decide) hd hg rfl ?_
  show _ = Result.ok (Next.value (.slice X.va X.vn X.vc)) w
  generalize a.eval = ρ at e45 ⊢
  unfold execOp
  rw [hop]
  simp [e45, hc, go_sem]
theorem IM.s2 (X : IM) (ok : IMOk X) {Q : Exit → Act → World → Prop} : StepG (opsOf 7 Try.f15) IM.acts IM.av X.val0 X.Wd X.a0 Q 2 := by
  intro γ listed a w o hF hC hW h1 ho h2
  obtain ⟨hd, hop, hg⟩ := fields2 (x := some 47) (y := Op.move (.tmp 8)) (z := none) (by kernel_rfl) ho
  have e8 : a.eval (.tmp 8) = .int .i64 X.x := (hF.eval0 (by kernel_rfl)).trans ok.e8
  refine st_pureG hF hC hW ho h2 (by decide) hd hg rfl ?_
  show _ = Result.ok (Next.value (.int .i64 X.x)) w
  generalize a.eval = ρ at e8 ⊢
  unfold execOp
  rw [hop]
  simp [e8, go_sem]
theorem IM.s3 (X : IM) (ok : IMOk X) {Q : Exit → Act → World → Prop} : StepG (opsOf 7 Try.f15) IM.acts IM.av X.val0 X.Wd X.a0 Q 3 := by
  intro γ listed a w o hF hC hW h1 ho h2
  obtain ⟨hd, hop, hg⟩ := fields2 (x := some 48) (y := Op.fieldAddr 28 (.tmp 3) 2) (z := none) (by kernel_rfl) ho
  have e3 : a.eval (.tmp 3) = .pointer (some ⟨X.bb, 0, none⟩) := (hF.eval0 (by kernel_rfl)).trans ok.e3
  refine st_pureG hF hC hW ho h2 (by decide) hd hg rfl ?_
  show _ = Result.ok (Next.value (.pointer (some ⟨X.bb, 2, none⟩))) w
  generalize a.eval = ρ at e3 ⊢
  unfold execOp
  rw [hop]
  simp [e3, go_sem]
theorem IM.s4 (X : IM) (ok : IMOk X) {Q : Exit → Act → World → Prop} : StepG (opsOf 7 Try.f15) IM.acts IM.av X.val0 X.Wd X.a0 Q 4 := by
  intro γ listed a w o hF hC hW h1 ho h2
  obtain ⟨hd, hop, hg⟩ := fields2 (x := some 49) (y := Op.load 26 (.tmp 48)) (z := none) (by kernel_rfl) ho
  have e48 : a.eval (.tmp 48) = .pointer (some ⟨X.bb, 2, none⟩) := slotG hF ho h2 (j := 3) (d := 48) (by kernel_rfl) (by kernel_rfl) (by rw [ok.sz]; decide)
  have hph := phase_leG (acts := IM.acts) (m := 0) (x := 11) hC (unl (hF.lt ho) h1) rfl [10, 9, 8, 7, 6, 4] (by kernel_rfl) (by decide)
  have hWW := hW
  generalize phase listed IM.acts = n at hph hWW
  have hk : Kp X.W w := by
    obtain rfl : n = 0 := by omega
    exact hWW
  have hc := kpc hk ok.cc
  refine st_pureG hF hC hW ho h2 (by decide) hd hg rfl ?_
  show _ = Result.ok (Next.value (.slice (some ⟨X.gb, X.go, none⟩) X.bn X.bc)) w
  generalize a.eval = ρ at e48 ⊢
  unfold execOp
  rw [hop]
  simp [e48, hc, go_sem]
theorem IM.s5 (X : IM) (ok : IMOk X) {Q : Exit → Act → World → Prop} : StepG (opsOf 7 Try.f15) IM.acts IM.av X.val0 X.Wd X.a0 Q 5 := by
  intro γ listed a w o hF hC hW h1 ho h2
  obtain ⟨hd, hop, hg⟩ := fields2 (x := some 50) (y := Op.move (.tmp 7)) (z := none) (by kernel_rfl) ho
  have e7 : a.eval (.tmp 7) = .int .i64 (X.k : Int) := (hF.eval0 (by kernel_rfl)).trans ok.e7
  refine st_pureG hF hC hW ho h2 (by decide) hd hg rfl ?_
  show _ = Result.ok (Next.value (.int .i64 (X.k : Int))) w
  generalize a.eval = ρ at e7 ⊢
  unfold execOp
  rw [hop]
  simp [e7, go_sem]
theorem IM.s6 (X : IM) (ok : IMOk X) {Q : Exit → Act → World → Prop} : StepG (opsOf 7 Try.f15) IM.acts IM.av X.val0 X.Wd X.a0 Q 6 := by
  intro γ listed a w o hF hC hW h1 ho h2
  obtain ⟨hd, hop, hg⟩ := fields2 (x := some 51) (y := Op.indexAddr 26 (.tmp 49) (.tmp 50)) (z := none) (by kernel_rfl) ho
  have e49 : a.eval (.tmp 49) = .slice (some ⟨X.gb, X.go, none⟩) X.bn X.bc := slotG hF ho h2 (j := 4) (d := 49) (by kernel_rfl) (by kernel_rfl) (by rw [ok.sz]; decide)
  have e50 : a.eval (.tmp 50) = .int .i64 (X.k : Int) := slotG hF ho h2 (j := 5) (d := 50) (by kernel_rfl) (by kernel_rfl) (by rw [ok.sz]; decide)
  have hkk := ok.hk
  refine st_pureG hF hC hW ho h2 (by decide) hd hg rfl ?_
  show _ = Result.ok (Next.value (.pointer (some ⟨X.gb, X.go + X.k, none⟩))) w
  generalize a.eval = ρ at e49 e50 ⊢
  unfold execOp
  rw [hop]
  simp [e49, e50, hkk, go_sem]
theorem IM.s7 (X : IM) (ok : IMOk X) {Q : Exit → Act → World → Prop} : StepG (opsOf 7 Try.f15) IM.acts IM.av X.val0 X.Wd X.a0 Q 7 := by
  intro γ listed a w o hF hC hW h1 ho h2
  obtain ⟨hd, hop, hg⟩ := fields2 (x := some 52) (y := Op.load 3 (.tmp 51)) (z := none) (by kernel_rfl) ho
  have e51 : a.eval (.tmp 51) = .pointer (some ⟨X.gb, X.go + X.k, none⟩) := slotG hF ho h2 (j := 6) (d := 51) (by kernel_rfl) (by kernel_rfl) (by rw [ok.sz]; decide)
  have hph := phase_leG (acts := IM.acts) (m := 0) (x := 11) hC (unl (hF.lt ho) h1) rfl [10, 9, 8, 7] (by kernel_rfl) (by decide)
  have hWW := hW
  generalize phase listed IM.acts = n at hph hWW
  have hk : Kp X.W w := by
    obtain rfl : n = 0 := by omega
    exact hWW
  have hc := kpc hk ok.cy
  refine st_pureG hF hC hW ho h2 (by decide) hd hg rfl ?_
  show _ = Result.ok (Next.value (.int .i64 X.y)) w
  generalize a.eval = ρ at e51 ⊢
  unfold execOp
  rw [hop]
  simp [e51, hc, go_sem]
theorem IM.s8 (X : IM) (ok : IMOk X) {Q : Exit → Act → World → Prop} : StepG (opsOf 7 Try.f15) IM.acts IM.av X.val0 X.Wd X.a0 Q 8 := by
  intro γ listed a w o hF hC hW h1 ho h2
  obtain ⟨hd, hop, hg⟩ := fields2 (x := some 53) (y := Op.binOp .mul 3 (.tmp 47) (.tmp 52) 3) (z := none) (by kernel_rfl) ho
  have e47 : a.eval (.tmp 47) = .int .i64 X.x := slotG hF ho h2 (j := 2) (d := 47) (by kernel_rfl) (by kernel_rfl) (by rw [ok.sz]; decide)
  have e52 : a.eval (.tmp 52) = .int .i64 X.y := slotG hF ho h2 (j := 7) (d := 52) (by kernel_rfl) (by kernel_rfl) (by rw [ok.sz]; decide)
  refine st_pureG hF hC hW ho h2 (by decide) hd hg rfl ?_
  show _ = Result.ok (Next.value (.int .i64 (X.x * X.y))) w
  generalize a.eval = ρ at e47 e52 ⊢
  unfold execOp
  rw [hop]
  simp [e47, e52, ok.w1, go_sem]
theorem IM.s9 (X : IM) (ok : IMOk X) {Q : Exit → Act → World → Prop} : StepG (opsOf 7 Try.f15) IM.acts IM.av X.val0 X.Wd X.a0 Q 9 := by
  intro γ listed a w o hF hC hW h1 ho h2
  obtain ⟨hd, hop, hg⟩ := fields2 (x := some 54) (y := Op.binOp .add 3 (.tmp 53) (.const (.int .i64 8)) 3) (z := none) (by kernel_rfl) ho
  have e53 : a.eval (.tmp 53) = .int .i64 (X.x * X.y) := slotG hF ho h2 (j := 8) (d := 53) (by kernel_rfl) (by kernel_rfl) (by rw [ok.sz]; decide)
  have ec1 : a.eval (.const (.int .i64 8)) = .int .i64 8 := rfl
  refine st_pureG hF hC hW ho h2 (by decide) hd hg rfl ?_
  show _ = Result.ok (Next.value (.int .i64 (X.x * X.y + 8))) w
  generalize a.eval = ρ at e53 ec1 ⊢
  unfold execOp
  rw [hop]
  simp [e53, ec1, ok.w2, go_sem]
theorem IM.s10 (X : IM) (ok : IMOk X) {Q : Exit → Act → World → Prop} : StepG (opsOf 7 Try.f15) IM.acts IM.av X.val0 X.Wd X.a0 Q 10 := by
  intro γ listed a w o hF hC hW h1 ho h2
  obtain ⟨hd, hop, hg⟩ := fields2 (x := some 55) (y := Op.binOp .quo 3 (.tmp 54) (.const (.int .i64 16)) 3) (z := none) (by kernel_rfl) ho
  have e54 : a.eval (.tmp 54) = .int .i64 (X.x * X.y + 8) := slotG hF ho h2 (j := 9) (d := 54) (by kernel_rfl) (by kernel_rfl) (by rw [ok.sz]; decide)
  have ec1 : a.eval (.const (.int .i64 16)) = .int .i64 16 := rfl
  refine st_pureG hF hC hW ho h2 (by decide) hd hg rfl ?_
  show _ = Result.ok (Next.value (.int .i64 ((X.x * X.y + 8) / 16))) w
  generalize a.eval = ρ at e54 ec1 ⊢
  unfold execOp
  rw [hop]
  simp [e54, ec1, ok.w3, ok.w4, go_sem]
theorem IM.s11 (X : IM) (ok : IMOk X) {Q : Exit → Act → World → Prop} : StepG (opsOf 7 Try.f15) IM.acts IM.av X.val0 X.Wd X.a0 Q 11 := by
  intro γ listed a w o hF hC hW h1 ho h2
  obtain ⟨hd, hop, hg⟩ := fields2 (x := some 56) (y := Op.buildSlice 26 1 #[(0, (.tmp 55))]) (z := none) (by kernel_rfl) ho
  have e55 : a.eval (.tmp 55) = .int .i64 ((X.x * X.y + 8) / 16) := slotG hF ho h2 (j := 10) (d := 55) (by kernel_rfl) (by kernel_rfl) (by rw [ok.sz]; decide)
  have hu := unl (hF.lt ho) h1
  refine st_actG (k := 0) IM.chain IM.nodup rfl hF hC hW h1 ho h2 (Or.inr ⟨56, hd, rfl⟩) (IM.inj (by kernel_rfl) hu) hg ?_
  intro hW0 K hK
  have hr : (execOp a.eval o).run Try.prog w = .ok (.value (.slice (some ⟨w.heap.size, 0, none⟩) 1 1)) (w.alloc (.cells #[.int .i64 ((X.x * X.y + 8) / 16)] 3)) := by
    generalize a.eval = ρ at e55 ⊢
    unfold execOp
    rw [hop]
    simp [e55, go_sem]
  unfold Oper.wp
  rw [hr]
  exact hK _ _ ⟨w, hW0, rfl, rfl⟩
theorem IM.s12 (X : IM) (ok : IMOk X) {Q : Exit → Act → World → Prop} : StepG (opsOf 7 Try.f15) IM.acts IM.av X.val0 X.Wd X.a0 Q 12 := by
  intro γ listed a w o hF hC hW h1 ho h2
  obtain ⟨hd, hop, hg⟩ := fields2 (x := some 57) (y := Op.call { callee := .builtin .append, args := #[(.tmp 46), (.tmp 56)], argTypes := #[26, 26] }) (z := none) (by kernel_rfl) ho
  have e46 : a.eval (.tmp 46) = .slice X.va X.vn X.vc := slotG hF ho h2 (j := 1) (d := 46) (by kernel_rfl) (by kernel_rfl) (by rw [ok.sz]; decide)
  have e56 : a.eval (.tmp 56) = γ 0 := slotG hF ho h2 (j := 11) (d := 56) (by kernel_rfl) (by kernel_rfl) (by rw [ok.sz]; decide)
  have hu := unl (hF.lt ho) h1
  refine st_actG (k := 1) IM.chain IM.nodup rfl hF hC hW h1 ho h2 (Or.inr ⟨57, hd, rfl⟩) (IM.inj (by kernel_rfl) hu) hg ?_
  intro hW0 K hK
  obtain ⟨w1, k1, g0, rfl⟩ := hW0
  rw [g0] at e56
  have lb := ok.cb.nw k1.nw
  have n1 : Nw w1 (w1.alloc (.cells #[.int .i64 ((X.x * X.y + 8) / 16)] 3)) := (Below.refl _ _).alloc (Nat.le_refl _) _
  refine wpk_in _ (.tmp 46) (.tmp 56) hop (X.bx + 1) (.slice X.va X.vn X.vc) X.l ((X.x * X.y + 8) / 16) e46 (lb.own.nw n1) w1.heap.size e56 (by simp) (by have := ok.len; omega) (by have := lb.lt; simp; omega) ?_
  intro v' w' h3 h4
  exact hK _ _ ⟨w1, k1, h3, n1.ext h4⟩
theorem IM.s13 (X : IM) (ok : IMOk X) {Q : Exit → Act → World → Prop} : StepG (opsOf 7 Try.f15) IM.acts IM.av X.val0 X.Wd X.a0 Q 13 := by
  intro γ listed a w o hF hC hW h1 ho h2
  obtain ⟨hd, hop, hg⟩ := fields2 (x := some 58) (y := Op.fieldAddr 28 (.tmp 6) 2) (z := none) (by kernel_rfl) ho
  have e6 : a.eval (.tmp 6) = .pointer (some ⟨X.bx, 0, none⟩) := (hF.eval0 (by kernel_rfl)).trans ok.e6
  refine st_pureG hF hC hW ho h2 (by decide) hd hg rfl ?_
  show _ = Result.ok (Next.value (.pointer (some ⟨X.bx, 2, none⟩))) w
  generalize a.eval = ρ at e6 ⊢
  unfold execOp
  rw [hop]
  simp [e6, go_sem]
theorem IM.s14 (X : IM) (ok : IMOk X) {Q : Exit → Act → World → Prop} : StepG (opsOf 7 Try.f15) IM.acts IM.av X.val0 X.Wd X.a0 Q 14 := by
  intro γ listed a w o hF hC hW h1 ho h2
  obtain ⟨hd, hop, hg⟩ := fields2 (x := none) (y := Op.store 26 (.tmp 58) (.tmp 57)) (z := none) (by kernel_rfl) ho
  have e58 : a.eval (.tmp 58) = .pointer (some ⟨X.bx, 2, none⟩) := slotG hF ho h2 (j := 13) (d := 58) (by kernel_rfl) (by kernel_rfl) (by rw [ok.sz]; decide)
  have e57 : a.eval (.tmp 57) = γ 1 := slotG hF ho h2 (j := 12) (d := 57) (by kernel_rfl) (by kernel_rfl) (by rw [ok.sz]; decide)
  have hu := unl (hF.lt ho) h1
  refine st_actG (k := 2) IM.chain IM.nodup rfl hF hC hW h1 ho h2 (Or.inl hd) (IM.inj (by kernel_rfl) hu) hg ?_
  intro hW0 K hK
  obtain ⟨w1, k1, o1, x1⟩ := hW0
  obtain ⟨t0, tf⟩ := (ok.cb.nw k1.nw).there x1
  obtain ⟨sa, sn, sc, g1⟩ := o1.slice
  have hr : (execOp a.eval o).run Try.prog w = .ok .skip (w.setCell ⟨X.bx, 2, none⟩ (γ 1)) := by
    rw [g1] at e57 ⊢
    generalize a.eval = ρ at e57 e58 ⊢
    unfold execOp
    rw [hop]
    simp [e57, e58, t0, tf, go_sem]
  unfold Oper.wp
  rw [hr]
  exact hK _ _ ⟨w1, w, k1, o1, x1, rfl⟩
theorem IM.size : (opsOf 7 Try.f15).size = 15 := by kernel_rfl
theorem IM.steps (X : IM) (ok : IMOk X) {Q : Exit → Act → World → Prop} (i : Nat) (hi : i < (opsOf 7 Try.f15).size) : StepG (opsOf 7 Try.f15) IM.acts IM.av X.val0 X.Wd X.a0 Q i := by
  rw [IM.size] at hi
  have hc : i = 0 ∨ i = 1 ∨ i = 2 ∨ i = 3 ∨ i = 4 ∨ i = 5 ∨ i = 6 ∨ i = 7 ∨ i = 8 ∨ i = 9 ∨ i = 10 ∨ i = 11 ∨ i = 12 ∨ i = 13 ∨ i = 14 := by omega
  rcases hc with rfl | rfl | rfl | rfl | rfl | rfl | rfl | rfl | rfl | rfl | rfl | rfl | rfl | rfl | rfl
  · exact IM.s0 X ok
  · exact IM.s1 X ok
  · exact IM.s2 X ok
  · exact IM.s3 X ok
  · exact IM.s4 X ok
  · exact IM.s5 X ok
  · exact IM.s6 X ok
  · exact IM.s7 X ok
  · exact IM.s8 X ok
  · exact IM.s9 X ok
  · exact IM.s10 X ok
  · exact IM.s11 X ok
  · exact IM.s12 X ok
  · exact IM.s13 X ok
  · exact IM.s14 X ok
theorem IM.puts (X : IM) (γ : Nat → Value) (a0 : Act) : putsL (valG IM.av X.val0 γ) (opsOf 7 Try.f15).toList a0 = ((((((((((((((a0.put (some 45) (.pointer (some ⟨X.bx, 2, none⟩))).put (some 46) (.slice X.va X.vn X.vc)).put (some 47) (.int .i64 X.x)).put (some 48) (.pointer (some ⟨X.bb, 2, none⟩))).put (some 49) (.slice (some ⟨X.gb, X.go, none⟩) X.bn X.bc)).put (some 50) (.int .i64 (X.k : Int))).put (some 51) (.pointer (some ⟨X.gb, X.go + X.k, none⟩))).put (some 52) (.int .i64 X.y)).put (some 53) (.int .i64 (X.x * X.y))).put (some 54) (.int .i64 (X.x * X.y + 8))).put (some 55) (.int .i64 ((X.x * X.y + 8) / 16))).put (some 56) (γ 0)).put (some 57) (γ 1)).put (some 58) (.pointer (some ⟨X.bx, 2, none⟩))) := by kernel_rfl
/-- The region, whatever order comes up. -/
theorem IM.run (X : IM) (ok : IMOk X) {Q : Exit → Act → World → Prop} (w : World) (h0 : X.Wd 0 (fun _ => undef) w.drew) (hend : ∀ (γ : Nat → Value) w', X.Wd 3 γ w' → Q .normal ((((((((((((((X.a0.put (some 45) (.pointer (some ⟨X.bx, 2, none⟩))).put (some 46) (.slice X.va X.vn X.vc)).put (some 47) (.int .i64 X.x)).put (some 48) (.pointer (some ⟨X.bb, 2, none⟩))).put (some 49) (.slice (some ⟨X.gb, X.go, none⟩) X.bn X.bc)).put (some 50) (.int .i64 (X.k : Int))).put (some 51) (.pointer (some ⟨X.gb, X.go + X.k, none⟩))).put (some 52) (.int .i64 X.y)).put (some 53) (.int .i64 (X.x * X.y))).put (some 54) (.int .i64 (X.x * X.y + 8))).put (some 55) (.int .i64 ((X.x * X.y + 8) / 16))).put (some 56) (γ 0)).put (some 57) (γ 1)).put (some 58) (.pointer (some ⟨X.bx, 2, none⟩))) w') : (Code.region 7 (opsOf 7 Try.f15) true).wp Try.prog Q X.a0 w := by
  refine reg_act (acts := IM.acts) (av := IM.av) (val0 := X.val0) (Wd := X.Wd) (by kernel_rfl) (by kernel_rfl) (by rw [IM.size]; decide) (fun i hi => IM.steps X ok i hi) _ h0 ?_
  intro γ w' h
  rw [IM.puts]
  exact hend γ w' h
end Go.Proofs.Ytllljknpicmmjaa
