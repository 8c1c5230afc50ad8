/-
  The statement of the specification's RectOf that appends a point, whatever order its operations come up in; each theorem names its conditions.
-/
import Derived.Test.YtmojppchpeecmaaSRc
import Derived.Test.YtmojppchpeecmaaRg2
namespace Go.Proofs.Ytmojppchpeecmaa
open Go.ChangeShapes Go.WideShapes Go.ChangeAt Go.RowKit
set_option linter.unusedVariables false

structure AX where
  bx : Nat
  bc : Nat
  px : Int
  py : Int
  R : Int
  q : Int
  k : Int
  tx : Int
  ty : Int
  va : Option Addr
  vn : Nat
  vc : Nat
  l : List Pnt
  W : World
  a0 : Act
structure AXOk (X : AX) : Prop where
  lb : LnB X.bx X.W (.slice X.va X.vn X.vc) X.l true
  lc : LieP X.W X.bc 0 [(X.px, X.py)]
  len : X.l.length + 1 ≤ 1000000
  w1 : IntKind.i64.wrap (8 * X.q) = 8 * X.q
  w2 : IntKind.i64.wrap (8 * X.q + X.k) = 8 * X.q + X.k
  call : ∀ w, Calls Try.prog 70 #[.int .i64 X.px, .int .i64 X.py, .int .i64 X.R, .int .i64 X.R, .int .i64 (8 * X.q + X.k)] w fun e w' => e = .returned (.agg #[.int .i64 X.tx, .int .i64 X.ty]) ∧ Kp w w'
  e4 : X.a0.eval (.tmp 4) = .int .i64 X.R
  e12 : X.a0.eval (.tmp 12) = .pointer (some ⟨X.bx, 0, none⟩)
  e13 : X.a0.eval (.tmp 13) = .int .i64 X.q
  e14 : X.a0.eval (.tmp 14) = .pointer (some ⟨X.bc, 0, none⟩)
  e15 : X.a0.eval (.tmp 15) = .int .i64 X.k
  sz : X.a0.tmps.size = 147
def AX.val0 (X : AX) : Nat → Value
  | 124 => .pointer (some ⟨X.bx, 0, none⟩)
  | 125 => .slice X.va X.vn X.vc
  | 126 => .pointer (some ⟨X.bc, 0, none⟩)
  | 127 => .int .i64 X.px
  | 128 => .pointer (some ⟨X.bc, 1, none⟩)
  | 129 => .int .i64 X.py
  | 130 => .int .i64 X.R
  | 131 => .int .i64 X.R
  | 132 => .int .i64 X.q
  | 133 => .int .i64 (8 * X.q)
  | 134 => .int .i64 X.k
  | 135 => .int .i64 (8 * X.q + X.k)
  | 136 => .agg #[.int .i64 X.tx, .int .i64 X.ty]
  | 139 => .pointer (some ⟨X.bx, 0, none⟩)
  | _ => undef
def AX.av : Nat → Option Nat
  | 137 => some 0
  | 138 => some 1
  | _ => none
def AX.acts : List Nat := [13, 14, 16]
/-- The world, by how many of the acting ones have come up. -/
def AX.Wd (X : AX) : Nat → (Nat → Value) → World → Prop
  | 0, _, w => Kp X.W w
  | 1, γ, w => ∃ w1, Kp X.W w1 ∧ γ 0 = .slice (some ⟨w1.heap.size, 0, none⟩) 1 1 ∧ w = w1.alloc (.cells #[.int .i64 X.tx, .int .i64 X.ty] 27)
  | 2, γ, w => ∃ w1 g c, Kp X.W w1 ∧ γ 1 = .slice (some ⟨g, 0, none⟩) (X.l.length + 1) c ∧ OwnP w (X.bx + 1) (γ 1) (X.l ++ [(X.tx, X.ty)]) ∧ Ext (.slice X.va X.vn X.vc) (γ 1) w1 w
  | _, γ, w => ∃ w1 w2 g c, Kp X.W w1 ∧ γ 1 = .slice (some ⟨g, 0, none⟩) (X.l.length + 1) c ∧ OwnP w2 (X.bx + 1) (γ 1) (X.l ++ [(X.tx, X.ty)]) ∧ Ext (.slice X.va X.vn X.vc) (γ 1) w1 w2 ∧ w = w2.setCell ⟨X.bx, 0, none⟩ (γ 1)
theorem AX.chain : chainG (opsOf 16 Try.f34) AX.acts = true := by kernel_rfl
theorem AX.nodup : AX.acts.Nodup := by decide
theorem AX.inj {listed : Array Bool} {i k : Nat} (h : (List.range (opsOf 16 Try.f34).size).all (fun j => decide (j = i) || !(match dstOf (opsOf 16 Try.f34) j with | some d => decide (AX.av d = some k) | none => false)) = true) (hu : listed.getD i false = false) : ∀ d, got (opsOf 16 Try.f34) listed d → AX.av d ≠ some k := by
  rintro d ⟨j, h1, h2⟩ h3
  have hlt : j < (opsOf 16 Try.f34).size := by
    rcases Nat.lt_or_ge j (opsOf 16 Try.f34).size with h4 | h4
    · exact h4
    · unfold dstOf at h2; rw [Array.getElem?_eq_none h4] at h2; cases h2
  have h5 := List.all_eq_true.1 h j (List.mem_range.2 hlt)
  rw [h2] at h5
  simp only [h3, decide_true, Bool.not_true, Bool.or_false, decide_eq_true_eq] at h5
  subst h5
  rw [hu] at h1
  cases h1
theorem AX.s0 (X : AX) (ok : AXOk X) {Q : Exit → Act → World → Prop} : StepG (opsOf 16 Try.f34) AX.acts AX.av X.val0 X.Wd X.a0 Q 0 := by
  intro γ listed a w o hF hC hW h1 ho h2
  obtain ⟨hd, hop, hg⟩ := fields2 (x := some 124) (y := Op.fieldAddr 55 (.tmp 12) 0) (z := none) (by kernel_rfl) ho
  have e12 : a.eval (.tmp 12) = .pointer (some ⟨X.bx, 0, none⟩) := (hF.eval0 (by kernel_rfl)).trans ok.e12
  refine st_pureG hF hC hW ho h2 (by decide) hd hg rfl ?_
  show _ = Result.ok (Next.value (.pointer (some ⟨X.bx, 0, none⟩))) w
  generalize a.eval = ρ at e12 ⊢
  unfold execOp
  rw [hop]
  simp [e12, go_sem]
theorem AX.s1 (X : AX) (ok : AXOk X) {Q : Exit → Act → World → Prop} : StepG (opsOf 16 Try.f34) AX.acts AX.av X.val0 X.Wd X.a0 Q 1 := by
  intro γ listed a w o hF hC hW h1 ho h2
  obtain ⟨hd, hop, hg⟩ := fields2 (x := some 125) (y := Op.load 23 (.tmp 124)) (z := none) (by kernel_rfl) ho
  have e124 : a.eval (.tmp 124) = .pointer (some ⟨X.bx, 0, none⟩) := slotG hF ho h2 (j := 0) (d := 124) (by kernel_rfl) (by kernel_rfl) (by rw [ok.sz]; decide)
  have hph := phase_leG (acts := AX.acts) (m := 1) (x := 14) hC (unl (hF.lt ho) h1) rfl [1] (by kernel_rfl) (by decide)
  have hWW := hW
  generalize phase listed AX.acts = n at hph hWW
  have hk : Nw X.W w := by
    rcases (show n = 0 ∨ n = 1 by omega) with rfl | rfl
    · exact hWW.nw
    · obtain ⟨w1, k1, _, rfl⟩ := hWW
      exact Nw.trans k1.nw ((Below.refl _ _).alloc (Nat.le_refl _) _)
  have hc := (ok.lb.nw hk).c0
  refine st_pureG hF hC hW ho h2 (by decide) hd hg rfl ?_
  show _ = Result.ok (Next.value (.slice X.va X.vn X.vc)) w
  generalize a.eval = ρ at e124 ⊢
  unfold execOp
  rw [hop]
  simp [e124, hc, go_sem]
theorem AX.s2 (X : AX) (ok : AXOk X) {Q : Exit → Act → World → Prop} : StepG (opsOf 16 Try.f34) AX.acts AX.av X.val0 X.Wd X.a0 Q 2 := by
  intro γ listed a w o hF hC hW h1 ho h2
  obtain ⟨hd, hop, hg⟩ := fields2 (x := some 126) (y := Op.fieldAddr 27 (.tmp 14) 0) (z := none) (by kernel_rfl) ho
  have e14 : a.eval (.tmp 14) = .pointer (some ⟨X.bc, 0, none⟩) := (hF.eval0 (by kernel_rfl)).trans ok.e14
  refine st_pureG hF hC hW ho h2 (by decide) hd hg rfl ?_
  show _ = Result.ok (Next.value (.pointer (some ⟨X.bc, 0, none⟩))) w
  generalize a.eval = ρ at e14 ⊢
  unfold execOp
  rw [hop]
  simp [e14, go_sem]
theorem AX.s3 (X : AX) (ok : AXOk X) {Q : Exit → Act → World → Prop} : StepG (opsOf 16 Try.f34) AX.acts AX.av X.val0 X.Wd X.a0 Q 3 := by
  intro γ listed a w o hF hC hW h1 ho h2
  obtain ⟨hd, hop, hg⟩ := fields2 (x := some 127) (y := Op.load 3 (.tmp 126)) (z := none) (by kernel_rfl) ho
  have e126 : a.eval (.tmp 126) = .pointer (some ⟨X.bc, 0, none⟩) := slotG hF ho h2 (j := 2) (d := 126) (by kernel_rfl) (by kernel_rfl) (by rw [ok.sz]; decide)
  have hph := phase_leG (acts := AX.acts) (m := 0) (x := 13) hC (unl (hF.lt ho) h1) rfl [12, 3] (by kernel_rfl) (by decide)
  have hWW := hW
  generalize phase listed AX.acts = n at hph hWW
  have hk : Nw X.W w := by
    obtain rfl : n = 0 := by omega
    exact hWW.nw
  have hc := (ok.lc.nw hk).at0.1
  refine st_pureG hF hC hW ho h2 (by decide) hd hg rfl ?_
  show _ = Result.ok (Next.value (.int .i64 X.px)) w
  generalize a.eval = ρ at e126 ⊢
  unfold execOp
  rw [hop]
  simp [e126, hc, go_sem]
theorem AX.s4 (X : AX) (ok : AXOk X) {Q : Exit → Act → World → Prop} : StepG (opsOf 16 Try.f34) AX.acts AX.av X.val0 X.Wd X.a0 Q 4 := by
  intro γ listed a w o hF hC hW h1 ho h2
  obtain ⟨hd, hop, hg⟩ := fields2 (x := some 128) (y := Op.fieldAddr 27 (.tmp 14) 1) (z := none) (by kernel_rfl) ho
  have e14 : a.eval (.tmp 14) = .pointer (some ⟨X.bc, 0, none⟩) := (hF.eval0 (by kernel_rfl)).trans ok.e14
  refine st_pureG hF hC hW ho h2 (by decide) hd hg rfl ?_
  show _ = Result.ok (Next.value (.pointer (some ⟨X.bc, 1, none⟩))) w
  generalize a.eval = ρ at e14 ⊢
  unfold execOp
  rw [hop]
  simp [e14, go_sem]
theorem AX.s5 (X : AX) (ok : AXOk X) {Q : Exit → Act → World → Prop} : StepG (opsOf 16 Try.f34) AX.acts AX.av X.val0 X.Wd X.a0 Q 5 := by
  intro γ listed a w o hF hC hW h1 ho h2
  obtain ⟨hd, hop, hg⟩ := fields2 (x := some 129) (y := Op.load 3 (.tmp 128)) (z := none) (by kernel_rfl) ho
  have e128 : a.eval (.tmp 128) = .pointer (some ⟨X.bc, 1, none⟩) := slotG hF ho h2 (j := 4) (d := 128) (by kernel_rfl) (by kernel_rfl) (by rw [ok.sz]; decide)
  have hph := phase_leG (acts := AX.acts) (m := 0) (x := 13) hC (unl (hF.lt ho) h1) rfl [12, 5] (by kernel_rfl) (by decide)
  have hWW := hW
  generalize phase listed AX.acts = n at hph hWW
  have hk : Nw X.W w := by
    obtain rfl : n = 0 := by omega
    exact hWW.nw
  have hc := (ok.lc.nw hk).at0.2
  refine st_pureG hF hC hW ho h2 (by decide) hd hg rfl ?_
  show _ = Result.ok (Next.value (.int .i64 X.py)) w
  generalize a.eval = ρ at e128 ⊢
  unfold execOp
  rw [hop]
  simp [e128, hc, go_sem]
theorem AX.s6 (X : AX) (ok : AXOk X) {Q : Exit → Act → World → Prop} : StepG (opsOf 16 Try.f34) AX.acts AX.av X.val0 X.Wd X.a0 Q 6 := by
  intro γ listed a w o hF hC hW h1 ho h2
  obtain ⟨hd, hop, hg⟩ := fields2 (x := some 130) (y := Op.move (.tmp 4)) (z := none) (by kernel_rfl) ho
  have e4 : a.eval (.tmp 4) = .int .i64 X.R := (hF.eval0 (by kernel_rfl)).trans ok.e4
  refine st_pureG hF hC hW ho h2 (by decide) hd hg rfl ?_
  show _ = Result.ok (Next.value (.int .i64 X.R)) w
  generalize a.eval = ρ at e4 ⊢
  unfold execOp
  rw [hop]
  simp [e4, go_sem]
theorem AX.s7 (X : AX) (ok : AXOk X) {Q : Exit → Act → World → Prop} : StepG (opsOf 16 Try.f34) AX.acts AX.av X.val0 X.Wd X.a0 Q 7 := by
  intro γ listed a w o hF hC hW h1 ho h2
  obtain ⟨hd, hop, hg⟩ := fields2 (x := some 131) (y := Op.move (.tmp 4)) (z := none) (by kernel_rfl) ho
  have e4 : a.eval (.tmp 4) = .int .i64 X.R := (hF.eval0 (by kernel_rfl)).trans ok.e4
  refine st_pureG hF hC hW ho h2 (by decide) hd hg rfl ?_
  show _ = Result.ok (Next.value (.int .i64 X.R)) w
  generalize a.eval = ρ at e4 ⊢
  unfold execOp
  rw [hop]
  simp [e4, go_sem]
theorem AX.s8 (X : AX) (ok : AXOk X) {Q : Exit → Act → World → Prop} : StepG (opsOf 16 Try.f34) AX.acts AX.av X.val0 X.Wd X.a0 Q 8 := by
  intro γ listed a w o hF hC hW h1 ho h2
  obtain ⟨hd, hop, hg⟩ := fields2 (x := some 132) (y := Op.move (.tmp 13)) (z := none) (by kernel_rfl) ho
  have e13 : a.eval (.tmp 13) = .int .i64 X.q := (hF.eval0 (by kernel_rfl)).trans ok.e13
  refine st_pureG hF hC hW ho h2 (by decide) hd hg rfl ?_
  show _ = Result.ok (Next.value (.int .i64 X.q)) w
  generalize a.eval = ρ at e13 ⊢
  unfold execOp
  rw [hop]
  simp [e13, go_sem]
theorem AX.s9 (X : AX) (ok : AXOk X) {Q : Exit → Act → World → Prop} : StepG (opsOf 16 Try.f34) AX.acts AX.av X.val0 X.Wd X.a0 Q 9 := by
  intro γ listed a w o hF hC hW h1 ho h2
  obtain ⟨hd, hop, hg⟩ := fields2 (x := some 133) (y := Op.binOp .mul 3 (.const (.int .i64 8)) (.tmp 132) 3) (z := none) (by kernel_rfl) ho
  have ec0 : a.eval (.const (.int .i64 8)) = .int .i64 8 := rfl
  have e132 : a.eval (.tmp 132) = .int .i64 X.q := slotG hF ho h2 (j := 8) (d := 132) (by kernel_rfl) (by kernel_rfl) (by rw [ok.sz]; decide)
  refine st_pureG hF hC hW ho h2 (by decide) hd hg rfl ?_
  show _ = Result.ok (Next.value (.int .i64 (8 * X.q))) w
  generalize a.eval = ρ at ec0 e132 ⊢
  unfold execOp
  rw [hop]
  simp [ec0, e132, ok.w1, go_sem]
theorem AX.s10 (X : AX) (ok : AXOk X) {Q : Exit → Act → World → Prop} : StepG (opsOf 16 Try.f34) AX.acts AX.av X.val0 X.Wd X.a0 Q 10 := by
  intro γ listed a w o hF hC hW h1 ho h2
  obtain ⟨hd, hop, hg⟩ := fields2 (x := some 134) (y := Op.move (.tmp 15)) (z := none) (by kernel_rfl) ho
  have e15 : a.eval (.tmp 15) = .int .i64 X.k := (hF.eval0 (by kernel_rfl)).trans ok.e15
  refine st_pureG hF hC hW ho h2 (by decide) hd hg rfl ?_
  show _ = Result.ok (Next.value (.int .i64 X.k)) w
  generalize a.eval = ρ at e15 ⊢
  unfold execOp
  rw [hop]
  simp [e15, go_sem]
theorem AX.s11 (X : AX) (ok : AXOk X) {Q : Exit → Act → World → Prop} : StepG (opsOf 16 Try.f34) AX.acts AX.av X.val0 X.Wd X.a0 Q 11 := by
  intro γ listed a w o hF hC hW h1 ho h2
  obtain ⟨hd, hop, hg⟩ := fields2 (x := some 135) (y := Op.binOp .add 3 (.tmp 133) (.tmp 134) 3) (z := none) (by kernel_rfl) ho
  have e133 : a.eval (.tmp 133) = .int .i64 (8 * X.q) := slotG hF ho h2 (j := 9) (d := 133) (by kernel_rfl) (by kernel_rfl) (by rw [ok.sz]; decide)
  have e134 : a.eval (.tmp 134) = .int .i64 X.k := slotG hF ho h2 (j := 10) (d := 134) (by kernel_rfl) (by kernel_rfl) (by rw [ok.sz]; decide)
  refine st_pureG hF hC hW ho h2 (by decide) hd hg rfl ?_
  show _ = Result.ok (Next.value (.int .i64 (8 * X.q + X.k))) w
  generalize a.eval = ρ at e133 e134 ⊢
  unfold execOp
  rw [hop]
  simp [e133, e134, ok.w2, go_sem]
theorem AX.s12 (X : AX) (ok : AXOk X) {Q : Exit → Act → World → Prop} : StepG (opsOf 16 Try.f34) AX.acts AX.av X.val0 X.Wd X.a0 Q 12 := by
  intro γ listed a w o hF hC hW h1 ho h2
  obtain ⟨hd, hop, hg⟩ := fields2 (x := some 136) (y := Op.call { callee := .value (.func 70), args := #[(.tmp 127), (.tmp 129), (.tmp 130), (.tmp 131), (.tmp 135)], argTypes := #[3, 3, 3, 3, 3] }) (z := none) (by kernel_rfl) ho
  have e127 : a.eval (.tmp 127) = .int .i64 X.px := slotG hF ho h2 (j := 3) (d := 127) (by kernel_rfl) (by kernel_rfl) (by rw [ok.sz]; decide)
  have e129 : a.eval (.tmp 129) = .int .i64 X.py := slotG hF ho h2 (j := 5) (d := 129) (by kernel_rfl) (by kernel_rfl) (by rw [ok.sz]; decide)
  have e130 : a.eval (.tmp 130) = .int .i64 X.R := slotG hF ho h2 (j := 6) (d := 130) (by kernel_rfl) (by kernel_rfl) (by rw [ok.sz]; decide)
  have e131 : a.eval (.tmp 131) = .int .i64 X.R := slotG hF ho h2 (j := 7) (d := 131) (by kernel_rfl) (by kernel_rfl) (by rw [ok.sz]; decide)
  have e135 : a.eval (.tmp 135) = .int .i64 (8 * X.q + X.k) := slotG hF ho h2 (j := 11) (d := 135) (by kernel_rfl) (by kernel_rfl) (by rw [ok.sz]; decide)
  have ef : a.eval (.func 70) = .func (.func 70) #[] #[] := rfl
  have hph := phase_leG (acts := AX.acts) (m := 0) (x := 13) hC (unl (hF.lt ho) h1) rfl [12] (by kernel_rfl) (by decide)
  have hWW := hW
  generalize phase listed AX.acts = n at hph hWW
  refine st_callG hF hC hW ho h2 (by decide) hd hg rfl (f := 70) (args := #[.int .i64 X.px, .int .i64 X.py, .int .i64 X.R, .int .i64 X.R, .int .i64 (8 * X.q + X.k)]) ?_ ?_ ?_
  · generalize a.eval = ρ at e127 e129 e130 e131 e135 ef ⊢
    unfold execOp
    rw [hop]
    simp [e127, e129, e130, e131, e135, ef, go_sem]
  · exact ok.call w
  · intro w' hk
    have hz : phase listed AX.acts = 0 := by
      have := phase_leG (acts := AX.acts) (m := 0) (x := 13) hC (unl (hF.lt ho) h1) rfl [12] (by kernel_rfl) (by decide)
      omega
    rw [hz] at hW ⊢
    exact Kp.trans hW hk
theorem AX.s13 (X : AX) (ok : AXOk X) {Q : Exit → Act → World → Prop} : StepG (opsOf 16 Try.f34) AX.acts AX.av X.val0 X.Wd X.a0 Q 13 := by
  intro γ listed a w o hF hC hW h1 ho h2
  obtain ⟨hd, hop, hg⟩ := fields2 (x := some 137) (y := Op.buildSlice 23 1 #[(0, (.tmp 136))]) (z := none) (by kernel_rfl) ho
  have e136 : a.eval (.tmp 136) = .agg #[.int .i64 X.tx, .int .i64 X.ty] := slotG hF ho h2 (j := 12) (d := 136) (by kernel_rfl) (by kernel_rfl) (by rw [ok.sz]; decide)
  have hu := unl (hF.lt ho) h1
  refine st_actG (k := 0) AX.chain AX.nodup rfl hF hC hW h1 ho h2 (Or.inr ⟨137, hd, rfl⟩) (AX.inj (by kernel_rfl) hu) hg ?_
  intro hW0 K hK
  have hr : (execOp a.eval o).run Try.prog w = .ok (.value (.slice (some ⟨w.heap.size, 0, none⟩) 1 1)) (w.alloc (.cells #[.int .i64 X.tx, .int .i64 X.ty] 27)) := by
    generalize a.eval = ρ at e136 ⊢
    unfold execOp
    rw [hop]
    simp [e136, go_sem]
  unfold Oper.wp
  rw [hr]
  exact hK _ _ ⟨w, hW0, rfl, rfl⟩
theorem AX.s14 (X : AX) (ok : AXOk X) {Q : Exit → Act → World → Prop} : StepG (opsOf 16 Try.f34) AX.acts AX.av X.val0 X.Wd X.a0 Q 14 := by
  intro γ listed a w o hF hC hW h1 ho h2
  obtain ⟨hd, hop, hg⟩ := fields2 (x := some 138) (y := Op.call { callee := .builtin .append, args := #[(.tmp 125), (.tmp 137)], argTypes := #[23, 23] }) (z := none) (by kernel_rfl) ho
  have e125 : a.eval (.tmp 125) = .slice X.va X.vn X.vc := slotG hF ho h2 (j := 1) (d := 125) (by kernel_rfl) (by kernel_rfl) (by rw [ok.sz]; decide)
  have e137 : a.eval (.tmp 137) = γ 0 := slotG hF ho h2 (j := 13) (d := 137) (by kernel_rfl) (by kernel_rfl) (by rw [ok.sz]; decide)
  have hu := unl (hF.lt ho) h1
  refine st_actG (k := 1) AX.chain AX.nodup rfl hF hC hW h1 ho h2 (Or.inr ⟨138, hd, rfl⟩) (AX.inj (by kernel_rfl) hu) hg ?_
  intro hW0 K hK
  obtain ⟨w1, k1, g0, rfl⟩ := hW0
  rw [g0] at e137
  have lb := ok.lb.nw k1.nw
  have n1 : Nw w1 (w1.alloc (.cells #[.int .i64 X.tx, .int .i64 X.ty] 27)) := (Below.refl _ _).alloc (Nat.le_refl _) _
  refine wp_q 27 23 23 (.int .i64 0) (.int .i64 0) 16 under_pts under_pts Try.info27 (by decide) rfl _ (.tmp 125) (.tmp 137) hop (X.bx + 1) (.slice X.va X.vn X.vc) (vP X.l) (vP [(X.tx, X.ty)]) e125 (lb.own.nw n1) w1.heap.size 0 1 1 rfl e137 (liep_one w1 X.tx X.ty _).vv (vP_one _) (by simp [vP]) (by rw [vP_len]; have := ok.len; simp [vP]; omega) (by have := lb.lt; simp; omega) ?_
  intro g' c' w' h3 h4
  rw [vP_len] at h3 h4 ⊢
  rw [← vP_append] at h3
  exact hK _ _ ⟨w1, g', c', k1, rfl, h3, n1.ext h4⟩
theorem AX.s15 (X : AX) (ok : AXOk X) {Q : Exit → Act → World → Prop} : StepG (opsOf 16 Try.f34) AX.acts AX.av X.val0 X.Wd X.a0 Q 15 := by
  intro γ listed a w o hF hC hW h1 ho h2
  obtain ⟨hd, hop, hg⟩ := fields2 (x := some 139) (y := Op.fieldAddr 55 (.tmp 12) 0) (z := none) (by kernel_rfl) ho
  have e12 : a.eval (.tmp 12) = .pointer (some ⟨X.bx, 0, none⟩) := (hF.eval0 (by kernel_rfl)).trans ok.e12
  refine st_pureG hF hC hW ho h2 (by decide) hd hg rfl ?_
  show _ = Result.ok (Next.value (.pointer (some ⟨X.bx, 0, none⟩))) w
  generalize a.eval = ρ at e12 ⊢
  unfold execOp
  rw [hop]
  simp [e12, go_sem]
theorem AX.s16 (X : AX) (ok : AXOk X) {Q : Exit → Act → World → Prop} : StepG (opsOf 16 Try.f34) AX.acts AX.av X.val0 X.Wd X.a0 Q 16 := by
  intro γ listed a w o hF hC hW h1 ho h2
  obtain ⟨hd, hop, hg⟩ := fields2 (x := none) (y := Op.store 23 (.tmp 139) (.tmp 138)) (z := none) (by kernel_rfl) ho
  have e139 : a.eval (.tmp 139) = .pointer (some ⟨X.bx, 0, none⟩) := slotG hF ho h2 (j := 15) (d := 139) (by kernel_rfl) (by kernel_rfl) (by rw [ok.sz]; decide)
  have e138 : a.eval (.tmp 138) = γ 1 := slotG hF ho h2 (j := 14) (d := 138) (by kernel_rfl) (by kernel_rfl) (by rw [ok.sz]; decide)
  have hu := unl (hF.lt ho) h1
  refine st_actG (k := 2) AX.chain AX.nodup rfl hF hC hW h1 ho h2 (Or.inl hd) (AX.inj (by kernel_rfl) hu) hg ?_
  intro hW0 K hK
  obtain ⟨w1, g, cc, k1, g1, o1, x1⟩ := hW0
  obtain ⟨t0, tf⟩ := (ok.lb.nw k1.nw).there x1
  have hr : (execOp a.eval o).run Try.prog w = .ok .skip (w.setCell ⟨X.bx, 0, none⟩ (γ 1)) := by
    rw [g1] at e138 ⊢
    generalize a.eval = ρ at e138 e139 ⊢
    unfold execOp
    rw [hop]
    simp [e138, e139, t0, tf, go_sem]
  unfold Oper.wp
  rw [hr]
  exact hK _ _ ⟨w1, w, g, cc, k1, g1, o1, x1, rfl⟩
theorem AX.size : (opsOf 16 Try.f34).size = 17 := by kernel_rfl
theorem AX.steps (X : AX) (ok : AXOk X) {Q : Exit → Act → World → Prop} (i : Nat) (hi : i < (opsOf 16 Try.f34).size) : StepG (opsOf 16 Try.f34) AX.acts AX.av X.val0 X.Wd X.a0 Q i := by
  rw [AX.size] at hi
  have hc : i = 0 ∨ i = 1 ∨ i = 2 ∨ i = 3 ∨ i = 4 ∨ i = 5 ∨ i = 6 ∨ i = 7 ∨ i = 8 ∨ i = 9 ∨ i = 10 ∨ i = 11 ∨ i = 12 ∨ i = 13 ∨ i = 14 ∨ i = 15 ∨ i = 16 := by omega
  rcases hc with rfl | rfl | rfl | rfl | rfl | rfl | rfl | rfl | rfl | rfl | rfl | rfl | rfl | rfl | rfl | rfl | rfl
  · exact AX.s0 X ok
  · exact AX.s1 X ok
  · exact AX.s2 X ok
  · exact AX.s3 X ok
  · exact AX.s4 X ok
  · exact AX.s5 X ok
  · exact AX.s6 X ok
  · exact AX.s7 X ok
  · exact AX.s8 X ok
  · exact AX.s9 X ok
  · exact AX.s10 X ok
  · exact AX.s11 X ok
  · exact AX.s12 X ok
  · exact AX.s13 X ok
  · exact AX.s14 X ok
  · exact AX.s15 X ok
  · exact AX.s16 X ok
theorem AX.puts (X : AX) (γ : Nat → Value) (a0 : Act) : putsL (valG AX.av X.val0 γ) (opsOf 16 Try.f34).toList a0 = ((((((((((((((((a0.put (some 124) (.pointer (some ⟨X.bx, 0, none⟩))).put (some 125) (.slice X.va X.vn X.vc)).put (some 126) (.pointer (some ⟨X.bc, 0, none⟩))).put (some 127) (.int .i64 X.px)).put (some 128) (.pointer (some ⟨X.bc, 1, none⟩))).put (some 129) (.int .i64 X.py)).put (some 130) (.int .i64 X.R)).put (some 131) (.int .i64 X.R)).put (some 132) (.int .i64 X.q)).put (some 133) (.int .i64 (8 * X.q))).put (some 134) (.int .i64 X.k)).put (some 135) (.int .i64 (8 * X.q + X.k))).put (some 136) (.agg #[.int .i64 X.tx, .int .i64 X.ty])).put (some 137) (γ 0)).put (some 138) (γ 1)).put (some 139) (.pointer (some ⟨X.bx, 0, none⟩))) := by kernel_rfl
/-- The region, whatever order comes up. -/
theorem AX.run (X : AX) (ok : AXOk X) {Q : Exit → Act → World → Prop} (w : World) (h0 : X.Wd 0 (fun _ => undef) w.drew) (hend : ∀ (γ : Nat → Value) w', X.Wd 3 γ w' → Q .normal ((((((((((((((((X.a0.put (some 124) (.pointer (some ⟨X.bx, 0, none⟩))).put (some 125) (.slice X.va X.vn X.vc)).put (some 126) (.pointer (some ⟨X.bc, 0, none⟩))).put (some 127) (.int .i64 X.px)).put (some 128) (.pointer (some ⟨X.bc, 1, none⟩))).put (some 129) (.int .i64 X.py)).put (some 130) (.int .i64 X.R)).put (some 131) (.int .i64 X.R)).put (some 132) (.int .i64 X.q)).put (some 133) (.int .i64 (8 * X.q))).put (some 134) (.int .i64 X.k)).put (some 135) (.int .i64 (8 * X.q + X.k))).put (some 136) (.agg #[.int .i64 X.tx, .int .i64 X.ty])).put (some 137) (γ 0)).put (some 138) (γ 1)).put (some 139) (.pointer (some ⟨X.bx, 0, none⟩))) w') : (Code.region 16 (opsOf 16 Try.f34) true).wp Try.prog Q X.a0 w := by
  refine reg_act (acts := AX.acts) (av := AX.av) (val0 := X.val0) (Wd := X.Wd) (by kernel_rfl) (by kernel_rfl) (by rw [AX.size]; decide) (fun i hi => AX.steps X ok i hi) _ h0 ?_
  intro γ w' h
  rw [AX.puts]
  exact hend γ w' h
end Go.Proofs.Ytmojppchpeecmaa
