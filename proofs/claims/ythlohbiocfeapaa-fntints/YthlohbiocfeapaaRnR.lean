/-
  The statement of the specification that mixes two tints and draws its order; each theorem names its conditions.
-/
import Derived.Test.YthlohbiocfeapaaRnP
import Derived.Test.YthlohbiocfeapaaRq
namespace Go.Proofs.Ythlohbiocfeapaa
open Go.ChangeShapes Go.WideShapes Go.ChangeAt Go.RowKit
set_option linter.unusedVariables false

structure RN where
  pa : Nat
  pb : Nat
  g : Nat
  x : Int
  y : Int
  n : Int
  q0 : Int
  q1 : Int
  q2 : Int
  q3 : Int
  u0 : Int
  u1 : Int
  u2 : Int
  u3 : Int
  W : World
  a0 : Act
structure RNOk (X : RN) : Prop where
  ca0 : X.W.cell? ⟨X.pa, 1, none⟩ = some (.int .i64 X.q0)
  ca1 : X.W.cell? ⟨X.pa, 2, none⟩ = some (.int .i64 X.q1)
  ca2 : X.W.cell? ⟨X.pa, 3, none⟩ = some (.int .i64 X.q2)
  ca3 : X.W.cell? ⟨X.pa, 4, none⟩ = some (.int .i64 X.q3)
  cb0 : X.W.cell? ⟨X.pb, 1, none⟩ = some (.int .i64 X.u0)
  cb1 : X.W.cell? ⟨X.pb, 2, none⟩ = some (.int .i64 X.u1)
  cb2 : X.W.cell? ⟨X.pb, 3, none⟩ = some (.int .i64 X.u2)
  cb3 : X.W.cell? ⟨X.pb, 4, none⟩ = some (.int .i64 X.u3)
  f0 : IntKind.i64.wrap (X.q0 * X.x) = X.q0 * X.x ∧ IntKind.i64.wrap (X.u0 * X.y) = X.u0 * X.y ∧ IntKind.i64.wrap (X.q0 * X.x + X.u0 * X.y) = X.q0 * X.x + X.u0 * X.y ∧ (X.q0 * X.x + X.u0 * X.y).tdiv X.n = lerp X.q0 X.u0 X.x X.y X.n ∧ IntKind.i64.wrap (lerp X.q0 X.u0 X.x X.y X.n) = lerp X.q0 X.u0 X.x X.y X.n
  f1 : IntKind.i64.wrap (X.q1 * X.x) = X.q1 * X.x ∧ IntKind.i64.wrap (X.u1 * X.y) = X.u1 * X.y ∧ IntKind.i64.wrap (X.q1 * X.x + X.u1 * X.y) = X.q1 * X.x + X.u1 * X.y ∧ (X.q1 * X.x + X.u1 * X.y).tdiv X.n = lerp X.q1 X.u1 X.x X.y X.n ∧ IntKind.i64.wrap (lerp X.q1 X.u1 X.x X.y X.n) = lerp X.q1 X.u1 X.x X.y X.n
  f2 : IntKind.i64.wrap (X.q2 * X.x) = X.q2 * X.x ∧ IntKind.i64.wrap (X.u2 * X.y) = X.u2 * X.y ∧ IntKind.i64.wrap (X.q2 * X.x + X.u2 * X.y) = X.q2 * X.x + X.u2 * X.y ∧ (X.q2 * X.x + X.u2 * X.y).tdiv X.n = lerp X.q2 X.u2 X.x X.y X.n ∧ IntKind.i64.wrap (lerp X.q2 X.u2 X.x X.y X.n) = lerp X.q2 X.u2 X.x X.y X.n
  f3 : IntKind.i64.wrap (X.q3 * X.x) = X.q3 * X.x ∧ IntKind.i64.wrap (X.u3 * X.y) = X.u3 * X.y ∧ IntKind.i64.wrap (X.q3 * X.x + X.u3 * X.y) = X.q3 * X.x + X.u3 * X.y ∧ (X.q3 * X.x + X.u3 * X.y).tdiv X.n = lerp X.q3 X.u3 X.x X.y X.n ∧ IntKind.i64.wrap (lerp X.q3 X.u3 X.x X.y X.n) = lerp X.q3 X.u3 X.x X.y X.n
  n0 : ¬ X.n = 0
  z0 : ∃ u, X.W.cell? ⟨X.g, 0, none⟩ = some u
  z1 : ∃ u, X.W.cell? ⟨X.g, 1, none⟩ = some u
  z2 : ∃ u, X.W.cell? ⟨X.g, 2, none⟩ = some u
  z3 : ∃ u, X.W.cell? ⟨X.g, 3, none⟩ = some u
  zf : ∀ o, X.W.frozen? ⟨X.g, o, none⟩ = false
  e6 : X.a0.eval (.tmp 6) = .pointer (some ⟨X.g, 0, none⟩)
  e8 : X.a0.eval (.tmp 8) = .pointer (some ⟨X.pa, 0, none⟩)
  e9 : X.a0.eval (.tmp 9) = .pointer (some ⟨X.pb, 0, none⟩)
  e10 : X.a0.eval (.tmp 10) = .int .i64 X.x
  e11 : X.a0.eval (.tmp 11) = .int .i64 X.y
  e12 : X.a0.eval (.tmp 12) = .int .i64 X.n
  sz : X.a0.tmps.size = 141
def RN.val0 (X : RN) : Nat → Value
  | 88 => .pointer (some ⟨X.pa, 1, none⟩)
  | 89 => .pointer (some ⟨X.pa, 1, none⟩)
  | 90 => .int .i64 X.q0
  | 91 => .int .i64 X.x
  | 92 => .int .i64 (X.q0 * X.x)
  | 93 => .pointer (some ⟨X.pb, 1, none⟩)
  | 94 => .pointer (some ⟨X.pb, 1, none⟩)
  | 95 => .int .i64 X.u0
  | 96 => .int .i64 X.y
  | 97 => .int .i64 (X.u0 * X.y)
  | 98 => .int .i64 (X.q0 * X.x + X.u0 * X.y)
  | 99 => .int .i64 X.n
  | 100 => .int .i64 (lerp X.q0 X.u0 X.x X.y X.n)
  | 101 => .pointer (some ⟨X.pa, 1, none⟩)
  | 102 => .pointer (some ⟨X.pa, 2, none⟩)
  | 103 => .int .i64 X.q1
  | 104 => .int .i64 X.x
  | 105 => .int .i64 (X.q1 * X.x)
  | 106 => .pointer (some ⟨X.pb, 1, none⟩)
  | 107 => .pointer (some ⟨X.pb, 2, none⟩)
  | 108 => .int .i64 X.u1
  | 109 => .int .i64 X.y
  | 110 => .int .i64 (X.u1 * X.y)
  | 111 => .int .i64 (X.q1 * X.x + X.u1 * X.y)
  | 112 => .int .i64 X.n
  | 113 => .int .i64 (lerp X.q1 X.u1 X.x X.y X.n)
  | 114 => .pointer (some ⟨X.pa, 1, none⟩)
  | 115 => .pointer (some ⟨X.pa, 3, none⟩)
  | 116 => .int .i64 X.q2
  | 117 => .int .i64 X.x
  | 118 => .int .i64 (X.q2 * X.x)
  | 119 => .pointer (some ⟨X.pb, 1, none⟩)
  | 120 => .pointer (some ⟨X.pb, 3, none⟩)
  | 121 => .int .i64 X.u2
  | 122 => .int .i64 X.y
  | 123 => .int .i64 (X.u2 * X.y)
  | 124 => .int .i64 (X.q2 * X.x + X.u2 * X.y)
  | 125 => .int .i64 X.n
  | 126 => .int .i64 (lerp X.q2 X.u2 X.x X.y X.n)
  | 127 => .pointer (some ⟨X.pa, 1, none⟩)
  | 128 => .pointer (some ⟨X.pa, 4, none⟩)
  | 129 => .int .i64 X.q3
  | 130 => .int .i64 X.x
  | 131 => .int .i64 (X.q3 * X.x)
  | 132 => .pointer (some ⟨X.pb, 1, none⟩)
  | 133 => .pointer (some ⟨X.pb, 4, none⟩)
  | 134 => .int .i64 X.u3
  | 135 => .int .i64 X.y
  | 136 => .int .i64 (X.u3 * X.y)
  | 137 => .int .i64 (X.q3 * X.x + X.u3 * X.y)
  | 138 => .int .i64 X.n
  | 139 => .int .i64 (lerp X.q3 X.u3 X.x X.y X.n)
  | 140 => .agg #[.int .i64 (lerp X.q0 X.u0 X.x X.y X.n), .int .i64 (lerp X.q1 X.u1 X.x X.y X.n), .int .i64 (lerp X.q2 X.u2 X.x X.y X.n), .int .i64 (lerp X.q3 X.u3 X.x X.y X.n)]
  | _ => undef
def RN.av : Nat → Option Nat
  | _ => none
def RN.acts : List Nat := [53]
/-- The world, by how many of the acting ones have come up. -/
def RN.Wd (X : RN) : Nat → (Nat → Value) → World → Prop
  | 0, _, w => Kp X.W w
  | _, _, w => ∃ w1, Kp X.W w1 ∧ w = ((((w1.setCell ⟨X.g, 0, none⟩ (.int .i64 (lerp X.q0 X.u0 X.x X.y X.n))).setCell ⟨X.g, 1, none⟩ (.int .i64 (lerp X.q1 X.u1 X.x X.y X.n))).setCell ⟨X.g, 2, none⟩ (.int .i64 (lerp X.q2 X.u2 X.x X.y X.n))).setCell ⟨X.g, 3, none⟩ (.int .i64 (lerp X.q3 X.u3 X.x X.y X.n)))
theorem RN.chain : chainG (opsOf 24 Try.f71) RN.acts = true := by kernel_rfl
theorem RN.nodup : RN.acts.Nodup := by decide
theorem RN.inj {listed : Array Bool} {i k : Nat} (h : (List.range (opsOf 24 Try.f71).size).all (fun j => decide (j = i) || !(match dstOf (opsOf 24 Try.f71) j with | some d => decide (RN.av d = some k) | none => false)) = true) (hu : listed.getD i false = false) : ∀ d, got (opsOf 24 Try.f71) listed d → RN.av d ≠ some k := by
  rintro d ⟨j, h1, h2⟩ h3
  have hlt : j < (opsOf 24 Try.f71).size := by
    rcases Nat.lt_or_ge j (opsOf 24 Try.f71).size with h4 | h4
    · exact h4
    · unfold dstOf at h2; rw [Array.getElem?_eq_none h4] at h2; cases h2
  have h5 := List.all_eq_true.1 h j (List.mem_range.2 hlt)
  rw [h2] at h5
  simp only [h3, decide_true, Bool.not_true, Bool.or_false, decide_eq_true_eq] at h5
  subst h5
  rw [hu] at h1
  cases h1
theorem RN.s0 (X : RN) (ok : RNOk X) {Q : Exit → Act → World → Prop} : StepG (opsOf 24 Try.f71) RN.acts RN.av X.val0 X.Wd X.a0 Q 0 := by
  intro γ listed a w o hF hC hW h1 ho h2
  obtain ⟨hd, hop, hg⟩ := fields2 (x := some 88) (y := Op.fieldAddr 106 (.tmp 8) 1) (z := none) (by kernel_rfl) ho
  have e8 : a.eval (.tmp 8) = .pointer (some ⟨X.pa, 0, none⟩) := (hF.eval0 (by kernel_rfl)).trans ok.e8
  refine st_pureG hF hC hW ho h2 (by decide) hd hg rfl ?_
  show _ = Result.ok (Next.value (.pointer (some ⟨X.pa, 1, none⟩))) w
  generalize a.eval = ρ at e8 ⊢
  unfold execOp
  rw [hop]
  simp [e8, go_sem]
theorem RN.s1 (X : RN) (ok : RNOk X) {Q : Exit → Act → World → Prop} : StepG (opsOf 24 Try.f71) RN.acts RN.av X.val0 X.Wd X.a0 Q 1 := by
  intro γ listed a w o hF hC hW h1 ho h2
  obtain ⟨hd, hop, hg⟩ := fields2 (x := some 89) (y := Op.fieldAddr 24 (.tmp 88) 0) (z := none) (by kernel_rfl) ho
  have e88 : a.eval (.tmp 88) = .pointer (some ⟨X.pa, 1, none⟩) := slotG hF ho h2 (j := 0) (d := 88) (by kernel_rfl) (by kernel_rfl) (by rw [ok.sz]; decide)
  refine st_pureG hF hC hW ho h2 (by decide) hd hg rfl ?_
  show _ = Result.ok (Next.value (.pointer (some ⟨X.pa, 1, none⟩))) w
  generalize a.eval = ρ at e88 ⊢
  unfold execOp
  rw [hop]
  simp [e88, go_sem]
theorem RN.s2 (X : RN) (ok : RNOk X) {Q : Exit → Act → World → Prop} : StepG (opsOf 24 Try.f71) RN.acts RN.av X.val0 X.Wd X.a0 Q 2 := by
  intro γ listed a w o hF hC hW h1 ho h2
  obtain ⟨hd, hop, hg⟩ := fields2 (x := some 90) (y := Op.load 3 (.tmp 89)) (z := none) (by kernel_rfl) ho
  have e89 : a.eval (.tmp 89) = .pointer (some ⟨X.pa, 1, none⟩) := slotG hF ho h2 (j := 1) (d := 89) (by kernel_rfl) (by kernel_rfl) (by rw [ok.sz]; decide)
  have hph := phase_leG (acts := RN.acts) (m := 0) (x := 53) hC (unl (hF.lt ho) h1) rfl [52, 12, 10, 4, 2] (by kernel_rfl) (by decide)
  have hWW := hW
  generalize phase listed RN.acts = n at hph hWW
  have hk : Kp X.W w := by
    obtain rfl : n = 0 := by omega
    exact hWW
  have hc0 := rq_at hk ok.ca0
  refine st_pureG hF hC hW ho h2 (by decide) hd hg rfl ?_
  show _ = Result.ok (Next.value (.int .i64 X.q0)) w
  generalize a.eval = ρ at e89 ⊢
  unfold execOp
  rw [hop]
  simp [e89, hc0, go_sem]
theorem RN.s3 (X : RN) (ok : RNOk X) {Q : Exit → Act → World → Prop} : StepG (opsOf 24 Try.f71) RN.acts RN.av X.val0 X.Wd X.a0 Q 3 := by
  intro γ listed a w o hF hC hW h1 ho h2
  obtain ⟨hd, hop, hg⟩ := fields2 (x := some 91) (y := Op.move (.tmp 10)) (z := none) (by kernel_rfl) ho
  have e10 : a.eval (.tmp 10) = .int .i64 X.x := (hF.eval0 (by kernel_rfl)).trans ok.e10
  refine st_pureG hF hC hW ho h2 (by decide) hd hg rfl ?_
  show _ = Result.ok (Next.value (.int .i64 X.x)) w
  generalize a.eval = ρ at e10 ⊢
  unfold execOp
  rw [hop]
  simp [e10, go_sem]
theorem RN.s4 (X : RN) (ok : RNOk X) {Q : Exit → Act → World → Prop} : StepG (opsOf 24 Try.f71) RN.acts RN.av X.val0 X.Wd X.a0 Q 4 := by
  intro γ listed a w o hF hC hW h1 ho h2
  obtain ⟨hd, hop, hg⟩ := fields2 (x := some 92) (y := Op.binOp .mul 3 (.tmp 90) (.tmp 91) 3) (z := none) (by kernel_rfl) ho
  have e90 : a.eval (.tmp 90) = .int .i64 X.q0 := slotG hF ho h2 (j := 2) (d := 90) (by kernel_rfl) (by kernel_rfl) (by rw [ok.sz]; decide)
  have e91 : a.eval (.tmp 91) = .int .i64 X.x := slotG hF ho h2 (j := 3) (d := 91) (by kernel_rfl) (by kernel_rfl) (by rw [ok.sz]; decide)
  refine st_pureG hF hC hW ho h2 (by decide) hd hg rfl ?_
  show _ = Result.ok (Next.value (.int .i64 (X.q0 * X.x))) w
  generalize a.eval = ρ at e90 e91 ⊢
  unfold execOp
  rw [hop]
  simp [e90, e91, ok.f0.1, go_sem]
theorem RN.s5 (X : RN) (ok : RNOk X) {Q : Exit → Act → World → Prop} : StepG (opsOf 24 Try.f71) RN.acts RN.av X.val0 X.Wd X.a0 Q 5 := by
  intro γ listed a w o hF hC hW h1 ho h2
  obtain ⟨hd, hop, hg⟩ := fields2 (x := some 93) (y := Op.fieldAddr 106 (.tmp 9) 1) (z := none) (by kernel_rfl) ho
  have e9 : a.eval (.tmp 9) = .pointer (some ⟨X.pb, 0, none⟩) := (hF.eval0 (by kernel_rfl)).trans ok.e9
  refine st_pureG hF hC hW ho h2 (by decide) hd hg rfl ?_
  show _ = Result.ok (Next.value (.pointer (some ⟨X.pb, 1, none⟩))) w
  generalize a.eval = ρ at e9 ⊢
  unfold execOp
  rw [hop]
  simp [e9, go_sem]
theorem RN.s6 (X : RN) (ok : RNOk X) {Q : Exit → Act → World → Prop} : StepG (opsOf 24 Try.f71) RN.acts RN.av X.val0 X.Wd X.a0 Q 6 := by
  intro γ listed a w o hF hC hW h1 ho h2
  obtain ⟨hd, hop, hg⟩ := fields2 (x := some 94) (y := Op.fieldAddr 24 (.tmp 93) 0) (z := none) (by kernel_rfl) ho
  have e93 : a.eval (.tmp 93) = .pointer (some ⟨X.pb, 1, none⟩) := slotG hF ho h2 (j := 5) (d := 93) (by kernel_rfl) (by kernel_rfl) (by rw [ok.sz]; decide)
  refine st_pureG hF hC hW ho h2 (by decide) hd hg rfl ?_
  show _ = Result.ok (Next.value (.pointer (some ⟨X.pb, 1, none⟩))) w
  generalize a.eval = ρ at e93 ⊢
  unfold execOp
  rw [hop]
  simp [e93, go_sem]
theorem RN.s7 (X : RN) (ok : RNOk X) {Q : Exit → Act → World → Prop} : StepG (opsOf 24 Try.f71) RN.acts RN.av X.val0 X.Wd X.a0 Q 7 := by
  intro γ listed a w o hF hC hW h1 ho h2
  obtain ⟨hd, hop, hg⟩ := fields2 (x := some 95) (y := Op.load 3 (.tmp 94)) (z := none) (by kernel_rfl) ho
  have e94 : a.eval (.tmp 94) = .pointer (some ⟨X.pb, 1, none⟩) := slotG hF ho h2 (j := 6) (d := 94) (by kernel_rfl) (by kernel_rfl) (by rw [ok.sz]; decide)
  have hph := phase_leG (acts := RN.acts) (m := 0) (x := 53) hC (unl (hF.lt ho) h1) rfl [52, 12, 10, 9, 7] (by kernel_rfl) (by decide)
  have hWW := hW
  generalize phase listed RN.acts = n at hph hWW
  have hk : Kp X.W w := by
    obtain rfl : n = 0 := by omega
    exact hWW
  have hc0 := rq_at hk ok.cb0
  refine st_pureG hF hC hW ho h2 (by decide) hd hg rfl ?_
  show _ = Result.ok (Next.value (.int .i64 X.u0)) w
  generalize a.eval = ρ at e94 ⊢
  unfold execOp
  rw [hop]
  simp [e94, hc0, go_sem]
theorem RN.s8 (X : RN) (ok : RNOk X) {Q : Exit → Act → World → Prop} : StepG (opsOf 24 Try.f71) RN.acts RN.av X.val0 X.Wd X.a0 Q 8 := by
  intro γ listed a w o hF hC hW h1 ho h2
  obtain ⟨hd, hop, hg⟩ := fields2 (x := some 96) (y := Op.move (.tmp 11)) (z := none) (by kernel_rfl) ho
  have e11 : a.eval (.tmp 11) = .int .i64 X.y := (hF.eval0 (by kernel_rfl)).trans ok.e11
  refine st_pureG hF hC hW ho h2 (by decide) hd hg rfl ?_
  show _ = Result.ok (Next.value (.int .i64 X.y)) w
  generalize a.eval = ρ at e11 ⊢
  unfold execOp
  rw [hop]
  simp [e11, go_sem]
theorem RN.s9 (X : RN) (ok : RNOk X) {Q : Exit → Act → World → Prop} : StepG (opsOf 24 Try.f71) RN.acts RN.av X.val0 X.Wd X.a0 Q 9 := by
  intro γ listed a w o hF hC hW h1 ho h2
  obtain ⟨hd, hop, hg⟩ := fields2 (x := some 97) (y := Op.binOp .mul 3 (.tmp 95) (.tmp 96) 3) (z := none) (by kernel_rfl) ho
  have e95 : a.eval (.tmp 95) = .int .i64 X.u0 := slotG hF ho h2 (j := 7) (d := 95) (by kernel_rfl) (by kernel_rfl) (by rw [ok.sz]; decide)
  have e96 : a.eval (.tmp 96) = .int .i64 X.y := slotG hF ho h2 (j := 8) (d := 96) (by kernel_rfl) (by kernel_rfl) (by rw [ok.sz]; decide)
  refine st_pureG hF hC hW ho h2 (by decide) hd hg rfl ?_
  show _ = Result.ok (Next.value (.int .i64 (X.u0 * X.y))) w
  generalize a.eval = ρ at e95 e96 ⊢
  unfold execOp
  rw [hop]
  simp [e95, e96, ok.f0.2.1, go_sem]
theorem RN.s10 (X : RN) (ok : RNOk X) {Q : Exit → Act → World → Prop} : StepG (opsOf 24 Try.f71) RN.acts RN.av X.val0 X.Wd X.a0 Q 10 := by
  intro γ listed a w o hF hC hW h1 ho h2
  obtain ⟨hd, hop, hg⟩ := fields2 (x := some 98) (y := Op.binOp .add 3 (.tmp 92) (.tmp 97) 3) (z := none) (by kernel_rfl) ho
  have e92 : a.eval (.tmp 92) = .int .i64 (X.q0 * X.x) := slotG hF ho h2 (j := 4) (d := 92) (by kernel_rfl) (by kernel_rfl) (by rw [ok.sz]; decide)
  have e97 : a.eval (.tmp 97) = .int .i64 (X.u0 * X.y) := slotG hF ho h2 (j := 9) (d := 97) (by kernel_rfl) (by kernel_rfl) (by rw [ok.sz]; decide)
  refine st_pureG hF hC hW ho h2 (by decide) hd hg rfl ?_
  show _ = Result.ok (Next.value (.int .i64 (X.q0 * X.x + X.u0 * X.y))) w
  generalize a.eval = ρ at e92 e97 ⊢
  unfold execOp
  rw [hop]
  simp [e92, e97, ok.f0.2.2.1, go_sem]
theorem RN.s11 (X : RN) (ok : RNOk X) {Q : Exit → Act → World → Prop} : StepG (opsOf 24 Try.f71) RN.acts RN.av X.val0 X.Wd X.a0 Q 11 := by
  intro γ listed a w o hF hC hW h1 ho h2
  obtain ⟨hd, hop, hg⟩ := fields2 (x := some 99) (y := Op.move (.tmp 12)) (z := none) (by kernel_rfl) ho
  have e12 : a.eval (.tmp 12) = .int .i64 X.n := (hF.eval0 (by kernel_rfl)).trans ok.e12
  refine st_pureG hF hC hW ho h2 (by decide) hd hg rfl ?_
  show _ = Result.ok (Next.value (.int .i64 X.n)) w
  generalize a.eval = ρ at e12 ⊢
  unfold execOp
  rw [hop]
  simp [e12, go_sem]
theorem RN.s12 (X : RN) (ok : RNOk X) {Q : Exit → Act → World → Prop} : StepG (opsOf 24 Try.f71) RN.acts RN.av X.val0 X.Wd X.a0 Q 12 := by
  intro γ listed a w o hF hC hW h1 ho h2
  obtain ⟨hd, hop, hg⟩ := fields2 (x := some 100) (y := Op.binOp .quo 3 (.tmp 98) (.tmp 99) 3) (z := none) (by kernel_rfl) ho
  have e98 : a.eval (.tmp 98) = .int .i64 (X.q0 * X.x + X.u0 * X.y) := slotG hF ho h2 (j := 10) (d := 98) (by kernel_rfl) (by kernel_rfl) (by rw [ok.sz]; decide)
  have e99 : a.eval (.tmp 99) = .int .i64 X.n := slotG hF ho h2 (j := 11) (d := 99) (by kernel_rfl) (by kernel_rfl) (by rw [ok.sz]; decide)
  refine st_pureG hF hC hW ho h2 (by decide) hd hg rfl ?_
  show _ = Result.ok (Next.value (.int .i64 (lerp X.q0 X.u0 X.x X.y X.n))) w
  generalize a.eval = ρ at e98 e99 ⊢
  unfold execOp
  rw [hop]
  simp [e98, e99, ok.f0.2.2.2.1, ok.f0.2.2.2.2, ok.n0, go_sem]
theorem RN.s13 (X : RN) (ok : RNOk X) {Q : Exit → Act → World → Prop} : StepG (opsOf 24 Try.f71) RN.acts RN.av X.val0 X.Wd X.a0 Q 13 := by
  intro γ listed a w o hF hC hW h1 ho h2
  obtain ⟨hd, hop, hg⟩ := fields2 (x := some 101) (y := Op.fieldAddr 106 (.tmp 8) 1) (z := none) (by kernel_rfl) ho
  have e8 : a.eval (.tmp 8) = .pointer (some ⟨X.pa, 0, none⟩) := (hF.eval0 (by kernel_rfl)).trans ok.e8
  refine st_pureG hF hC hW ho h2 (by decide) hd hg rfl ?_
  show _ = Result.ok (Next.value (.pointer (some ⟨X.pa, 1, none⟩))) w
  generalize a.eval = ρ at e8 ⊢
  unfold execOp
  rw [hop]
  simp [e8, go_sem]
theorem RN.s14 (X : RN) (ok : RNOk X) {Q : Exit → Act → World → Prop} : StepG (opsOf 24 Try.f71) RN.acts RN.av X.val0 X.Wd X.a0 Q 14 := by
  intro γ listed a w o hF hC hW h1 ho h2
  obtain ⟨hd, hop, hg⟩ := fields2 (x := some 102) (y := Op.fieldAddr 24 (.tmp 101) 1) (z := none) (by kernel_rfl) ho
  have e101 : a.eval (.tmp 101) = .pointer (some ⟨X.pa, 1, none⟩) := slotG hF ho h2 (j := 13) (d := 101) (by kernel_rfl) (by kernel_rfl) (by rw [ok.sz]; decide)
  refine st_pureG hF hC hW ho h2 (by decide) hd hg rfl ?_
  show _ = Result.ok (Next.value (.pointer (some ⟨X.pa, 2, none⟩))) w
  generalize a.eval = ρ at e101 ⊢
  unfold execOp
  rw [hop]
  simp [e101, go_sem]
theorem RN.s15 (X : RN) (ok : RNOk X) {Q : Exit → Act → World → Prop} : StepG (opsOf 24 Try.f71) RN.acts RN.av X.val0 X.Wd X.a0 Q 15 := by
  intro γ listed a w o hF hC hW h1 ho h2
  obtain ⟨hd, hop, hg⟩ := fields2 (x := some 103) (y := Op.load 3 (.tmp 102)) (z := none) (by kernel_rfl) ho
  have e102 : a.eval (.tmp 102) = .pointer (some ⟨X.pa, 2, none⟩) := slotG hF ho h2 (j := 14) (d := 102) (by kernel_rfl) (by kernel_rfl) (by rw [ok.sz]; decide)
  have hph := phase_leG (acts := RN.acts) (m := 0) (x := 53) hC (unl (hF.lt ho) h1) rfl [52, 25, 23, 17, 15] (by kernel_rfl) (by decide)
  have hWW := hW
  generalize phase listed RN.acts = n at hph hWW
  have hk : Kp X.W w := by
    obtain rfl : n = 0 := by omega
    exact hWW
  have hc0 := rq_at hk ok.ca1
  refine st_pureG hF hC hW ho h2 (by decide) hd hg rfl ?_
  show _ = Result.ok (Next.value (.int .i64 X.q1)) w
  generalize a.eval = ρ at e102 ⊢
  unfold execOp
  rw [hop]
  simp [e102, hc0, go_sem]
theorem RN.s16 (X : RN) (ok : RNOk X) {Q : Exit → Act → World → Prop} : StepG (opsOf 24 Try.f71) RN.acts RN.av X.val0 X.Wd X.a0 Q 16 := by
  intro γ listed a w o hF hC hW h1 ho h2
  obtain ⟨hd, hop, hg⟩ := fields2 (x := some 104) (y := Op.move (.tmp 10)) (z := none) (by kernel_rfl) ho
  have e10 : a.eval (.tmp 10) = .int .i64 X.x := (hF.eval0 (by kernel_rfl)).trans ok.e10
  refine st_pureG hF hC hW ho h2 (by decide) hd hg rfl ?_
  show _ = Result.ok (Next.value (.int .i64 X.x)) w
  generalize a.eval = ρ at e10 ⊢
  unfold execOp
  rw [hop]
  simp [e10, go_sem]
theorem RN.s17 (X : RN) (ok : RNOk X) {Q : Exit → Act → World → Prop} : StepG (opsOf 24 Try.f71) RN.acts RN.av X.val0 X.Wd X.a0 Q 17 := by
  intro γ listed a w o hF hC hW h1 ho h2
  obtain ⟨hd, hop, hg⟩ := fields2 (x := some 105) (y := Op.binOp .mul 3 (.tmp 103) (.tmp 104) 3) (z := none) (by kernel_rfl) ho
  have e103 : a.eval (.tmp 103) = .int .i64 X.q1 := slotG hF ho h2 (j := 15) (d := 103) (by kernel_rfl) (by kernel_rfl) (by rw [ok.sz]; decide)
  have e104 : a.eval (.tmp 104) = .int .i64 X.x := slotG hF ho h2 (j := 16) (d := 104) (by kernel_rfl) (by kernel_rfl) (by rw [ok.sz]; decide)
  refine st_pureG hF hC hW ho h2 (by decide) hd hg rfl ?_
  show _ = Result.ok (Next.value (.int .i64 (X.q1 * X.x))) w
  generalize a.eval = ρ at e103 e104 ⊢
  unfold execOp
  rw [hop]
  simp [e103, e104, ok.f1.1, go_sem]
theorem RN.s18 (X : RN) (ok : RNOk X) {Q : Exit → Act → World → Prop} : StepG (opsOf 24 Try.f71) RN.acts RN.av X.val0 X.Wd X.a0 Q 18 := by
  intro γ listed a w o hF hC hW h1 ho h2
  obtain ⟨hd, hop, hg⟩ := fields2 (x := some 106) (y := Op.fieldAddr 106 (.tmp 9) 1) (z := none) (by kernel_rfl) ho
  have e9 : a.eval (.tmp 9) = .pointer (some ⟨X.pb, 0, none⟩) := (hF.eval0 (by kernel_rfl)).trans ok.e9
  refine st_pureG hF hC hW ho h2 (by decide) hd hg rfl ?_
  show _ = Result.ok (Next.value (.pointer (some ⟨X.pb, 1, none⟩))) w
  generalize a.eval = ρ at e9 ⊢
  unfold execOp
  rw [hop]
  simp [e9, go_sem]
theorem RN.s19 (X : RN) (ok : RNOk X) {Q : Exit → Act → World → Prop} : StepG (opsOf 24 Try.f71) RN.acts RN.av X.val0 X.Wd X.a0 Q 19 := by
  intro γ listed a w o hF hC hW h1 ho h2
  obtain ⟨hd, hop, hg⟩ := fields2 (x := some 107) (y := Op.fieldAddr 24 (.tmp 106) 1) (z := none) (by kernel_rfl) ho
  have e106 : a.eval (.tmp 106) = .pointer (some ⟨X.pb, 1, none⟩) := slotG hF ho h2 (j := 18) (d := 106) (by kernel_rfl) (by kernel_rfl) (by rw [ok.sz]; decide)
  refine st_pureG hF hC hW ho h2 (by decide) hd hg rfl ?_
  show _ = Result.ok (Next.value (.pointer (some ⟨X.pb, 2, none⟩))) w
  generalize a.eval = ρ at e106 ⊢
  unfold execOp
  rw [hop]
  simp [e106, go_sem]
theorem RN.s20 (X : RN) (ok : RNOk X) {Q : Exit → Act → World → Prop} : StepG (opsOf 24 Try.f71) RN.acts RN.av X.val0 X.Wd X.a0 Q 20 := by
  intro γ listed a w o hF hC hW h1 ho h2
  obtain ⟨hd, hop, hg⟩ := fields2 (x := some 108) (y := Op.load 3 (.tmp 107)) (z := none) (by kernel_rfl) ho
  have e107 : a.eval (.tmp 107) = .pointer (some ⟨X.pb, 2, none⟩) := slotG hF ho h2 (j := 19) (d := 107) (by kernel_rfl) (by kernel_rfl) (by rw [ok.sz]; decide)
  have hph := phase_leG (acts := RN.acts) (m := 0) (x := 53) hC (unl (hF.lt ho) h1) rfl [52, 25, 23, 22, 20] (by kernel_rfl) (by decide)
  have hWW := hW
  generalize phase listed RN.acts = n at hph hWW
  have hk : Kp X.W w := by
    obtain rfl : n = 0 := by omega
    exact hWW
  have hc0 := rq_at hk ok.cb1
  refine st_pureG hF hC hW ho h2 (by decide) hd hg rfl ?_
  show _ = Result.ok (Next.value (.int .i64 X.u1)) w
  generalize a.eval = ρ at e107 ⊢
  unfold execOp
  rw [hop]
  simp [e107, hc0, go_sem]
theorem RN.s21 (X : RN) (ok : RNOk X) {Q : Exit → Act → World → Prop} : StepG (opsOf 24 Try.f71) RN.acts RN.av X.val0 X.Wd X.a0 Q 21 := by
  intro γ listed a w o hF hC hW h1 ho h2
  obtain ⟨hd, hop, hg⟩ := fields2 (x := some 109) (y := Op.move (.tmp 11)) (z := none) (by kernel_rfl) ho
  have e11 : a.eval (.tmp 11) = .int .i64 X.y := (hF.eval0 (by kernel_rfl)).trans ok.e11
  refine st_pureG hF hC hW ho h2 (by decide) hd hg rfl ?_
  show _ = Result.ok (Next.value (.int .i64 X.y)) w
  generalize a.eval = ρ at e11 ⊢
  unfold execOp
  rw [hop]
  simp [e11, go_sem]
theorem RN.s22 (X : RN) (ok : RNOk X) {Q : Exit → Act → World → Prop} : StepG (opsOf 24 Try.f71) RN.acts RN.av X.val0 X.Wd X.a0 Q 22 := by
  intro γ listed a w o hF hC hW h1 ho h2
  obtain ⟨hd, hop, hg⟩ := fields2 (x := some 110) (y := Op.binOp .mul 3 (.tmp 108) (.tmp 109) 3) (z := none) (by kernel_rfl) ho
  have e108 : a.eval (.tmp 108) = .int .i64 X.u1 := slotG hF ho h2 (j := 20) (d := 108) (by kernel_rfl) (by kernel_rfl) (by rw [ok.sz]; decide)
  have e109 : a.eval (.tmp 109) = .int .i64 X.y := slotG hF ho h2 (j := 21) (d := 109) (by kernel_rfl) (by kernel_rfl) (by rw [ok.sz]; decide)
  refine st_pureG hF hC hW ho h2 (by decide) hd hg rfl ?_
  show _ = Result.ok (Next.value (.int .i64 (X.u1 * X.y))) w
  generalize a.eval = ρ at e108 e109 ⊢
  unfold execOp
  rw [hop]
  simp [e108, e109, ok.f1.2.1, go_sem]
theorem RN.s23 (X : RN) (ok : RNOk X) {Q : Exit → Act → World → Prop} : StepG (opsOf 24 Try.f71) RN.acts RN.av X.val0 X.Wd X.a0 Q 23 := by
  intro γ listed a w o hF hC hW h1 ho h2
  obtain ⟨hd, hop, hg⟩ := fields2 (x := some 111) (y := Op.binOp .add 3 (.tmp 105) (.tmp 110) 3) (z := none) (by kernel_rfl) ho
  have e105 : a.eval (.tmp 105) = .int .i64 (X.q1 * X.x) := slotG hF ho h2 (j := 17) (d := 105) (by kernel_rfl) (by kernel_rfl) (by rw [ok.sz]; decide)
  have e110 : a.eval (.tmp 110) = .int .i64 (X.u1 * X.y) := slotG hF ho h2 (j := 22) (d := 110) (by kernel_rfl) (by kernel_rfl) (by rw [ok.sz]; decide)
  refine st_pureG hF hC hW ho h2 (by decide) hd hg rfl ?_
  show _ = Result.ok (Next.value (.int .i64 (X.q1 * X.x + X.u1 * X.y))) w
  generalize a.eval = ρ at e105 e110 ⊢
  unfold execOp
  rw [hop]
  simp [e105, e110, ok.f1.2.2.1, go_sem]
theorem RN.s24 (X : RN) (ok : RNOk X) {Q : Exit → Act → World → Prop} : StepG (opsOf 24 Try.f71) RN.acts RN.av X.val0 X.Wd X.a0 Q 24 := by
  intro γ listed a w o hF hC hW h1 ho h2
  obtain ⟨hd, hop, hg⟩ := fields2 (x := some 112) (y := Op.move (.tmp 12)) (z := none) (by kernel_rfl) ho
  have e12 : a.eval (.tmp 12) = .int .i64 X.n := (hF.eval0 (by kernel_rfl)).trans ok.e12
  refine st_pureG hF hC hW ho h2 (by decide) hd hg rfl ?_
  show _ = Result.ok (Next.value (.int .i64 X.n)) w
  generalize a.eval = ρ at e12 ⊢
  unfold execOp
  rw [hop]
  simp [e12, go_sem]
theorem RN.s25 (X : RN) (ok : RNOk X) {Q : Exit → Act → World → Prop} : StepG (opsOf 24 Try.f71) RN.acts RN.av X.val0 X.Wd X.a0 Q 25 := by
  intro γ listed a w o hF hC hW h1 ho h2
  obtain ⟨hd, hop, hg⟩ := fields2 (x := some 113) (y := Op.binOp .quo 3 (.tmp 111) (.tmp 112) 3) (z := none) (by kernel_rfl) ho
  have e111 : a.eval (.tmp 111) = .int .i64 (X.q1 * X.x + X.u1 * X.y) := slotG hF ho h2 (j := 23) (d := 111) (by kernel_rfl) (by kernel_rfl) (by rw [ok.sz]; decide)
  have e112 : a.eval (.tmp 112) = .int .i64 X.n := slotG hF ho h2 (j := 24) (d := 112) (by kernel_rfl) (by kernel_rfl) (by rw [ok.sz]; decide)
  refine st_pureG hF hC hW ho h2 (by decide) hd hg rfl ?_
  show _ = Result.ok (Next.value (.int .i64 (lerp X.q1 X.u1 X.x X.y X.n))) w
  generalize a.eval = ρ at e111 e112 ⊢
  unfold execOp
  rw [hop]
  simp [e111, e112, ok.f1.2.2.2.1, ok.f1.2.2.2.2, ok.n0, go_sem]
theorem RN.s26 (X : RN) (ok : RNOk X) {Q : Exit → Act → World → Prop} : StepG (opsOf 24 Try.f71) RN.acts RN.av X.val0 X.Wd X.a0 Q 26 := by
  intro γ listed a w o hF hC hW h1 ho h2
  obtain ⟨hd, hop, hg⟩ := fields2 (x := some 114) (y := Op.fieldAddr 106 (.tmp 8) 1) (z := none) (by kernel_rfl) ho
  have e8 : a.eval (.tmp 8) = .pointer (some ⟨X.pa, 0, none⟩) := (hF.eval0 (by kernel_rfl)).trans ok.e8
  refine st_pureG hF hC hW ho h2 (by decide) hd hg rfl ?_
  show _ = Result.ok (Next.value (.pointer (some ⟨X.pa, 1, none⟩))) w
  generalize a.eval = ρ at e8 ⊢
  unfold execOp
  rw [hop]
  simp [e8, go_sem]
theorem RN.s27 (X : RN) (ok : RNOk X) {Q : Exit → Act → World → Prop} : StepG (opsOf 24 Try.f71) RN.acts RN.av X.val0 X.Wd X.a0 Q 27 := by
  intro γ listed a w o hF hC hW h1 ho h2
  obtain ⟨hd, hop, hg⟩ := fields2 (x := some 115) (y := Op.fieldAddr 24 (.tmp 114) 2) (z := none) (by kernel_rfl) ho
  have e114 : a.eval (.tmp 114) = .pointer (some ⟨X.pa, 1, none⟩) := slotG hF ho h2 (j := 26) (d := 114) (by kernel_rfl) (by kernel_rfl) (by rw [ok.sz]; decide)
  refine st_pureG hF hC hW ho h2 (by decide) hd hg rfl ?_
  show _ = Result.ok (Next.value (.pointer (some ⟨X.pa, 3, none⟩))) w
  generalize a.eval = ρ at e114 ⊢
  unfold execOp
  rw [hop]
  simp [e114, go_sem]
theorem RN.s28 (X : RN) (ok : RNOk X) {Q : Exit → Act → World → Prop} : StepG (opsOf 24 Try.f71) RN.acts RN.av X.val0 X.Wd X.a0 Q 28 := by
  intro γ listed a w o hF hC hW h1 ho h2
  obtain ⟨hd, hop, hg⟩ := fields2 (x := some 116) (y := Op.load 3 (.tmp 115)) (z := none) (by kernel_rfl) ho
  have e115 : a.eval (.tmp 115) = .pointer (some ⟨X.pa, 3, none⟩) := slotG hF ho h2 (j := 27) (d := 115) (by kernel_rfl) (by kernel_rfl) (by rw [ok.sz]; decide)
  have hph := phase_leG (acts := RN.acts) (m := 0) (x := 53) hC (unl (hF.lt ho) h1) rfl [52, 38, 36, 30, 28] (by kernel_rfl) (by decide)
  have hWW := hW
  generalize phase listed RN.acts = n at hph hWW
  have hk : Kp X.W w := by
    obtain rfl : n = 0 := by omega
    exact hWW
  have hc0 := rq_at hk ok.ca2
  refine st_pureG hF hC hW ho h2 (by decide) hd hg rfl ?_
  show _ = Result.ok (Next.value (.int .i64 X.q2)) w
  generalize a.eval = ρ at e115 ⊢
  unfold execOp
  rw [hop]
  simp [e115, hc0, go_sem]
theorem RN.s29 (X : RN) (ok : RNOk X) {Q : Exit → Act → World → Prop} : StepG (opsOf 24 Try.f71) RN.acts RN.av X.val0 X.Wd X.a0 Q 29 := by
  intro γ listed a w o hF hC hW h1 ho h2
  obtain ⟨hd, hop, hg⟩ := fields2 (x := some 117) (y := Op.move (.tmp 10)) (z := none) (by kernel_rfl) ho
  have e10 : a.eval (.tmp 10) = .int .i64 X.x := (hF.eval0 (by kernel_rfl)).trans ok.e10
  refine st_pureG hF hC hW ho h2 (by decide) hd hg rfl ?_
  show _ = Result.ok (Next.value (.int .i64 X.x)) w
  generalize a.eval = ρ at e10 ⊢
  unfold execOp
  rw [hop]
  simp [e10, go_sem]
theorem RN.s30 (X : RN) (ok : RNOk X) {Q : Exit → Act → World → Prop} : StepG (opsOf 24 Try.f71) RN.acts RN.av X.val0 X.Wd X.a0 Q 30 := by
  intro γ listed a w o hF hC hW h1 ho h2
  obtain ⟨hd, hop, hg⟩ := fields2 (x := some 118) (y := Op.binOp .mul 3 (.tmp 116) (.tmp 117) 3) (z := none) (by kernel_rfl) ho
  have e116 : a.eval (.tmp 116) = .int .i64 X.q2 := slotG hF ho h2 (j := 28) (d := 116) (by kernel_rfl) (by kernel_rfl) (by rw [ok.sz]; decide)
  have e117 : a.eval (.tmp 117) = .int .i64 X.x := slotG hF ho h2 (j := 29) (d := 117) (by kernel_rfl) (by kernel_rfl) (by rw [ok.sz]; decide)
  refine st_pureG hF hC hW ho h2 (by decide) hd hg rfl ?_
  show _ = Result.ok (Next.value (.int .i64 (X.q2 * X.x))) w
  generalize a.eval = ρ at e116 e117 ⊢
  unfold execOp
  rw [hop]
  simp [e116, e117, ok.f2.1, go_sem]
theorem RN.s31 (X : RN) (ok : RNOk X) {Q : Exit → Act → World → Prop} : StepG (opsOf 24 Try.f71) RN.acts RN.av X.val0 X.Wd X.a0 Q 31 := by
  intro γ listed a w o hF hC hW h1 ho h2
  obtain ⟨hd, hop, hg⟩ := fields2 (x := some 119) (y := Op.fieldAddr 106 (.tmp 9) 1) (z := none) (by kernel_rfl) ho
  have e9 : a.eval (.tmp 9) = .pointer (some ⟨X.pb, 0, none⟩) := (hF.eval0 (by kernel_rfl)).trans ok.e9
  refine st_pureG hF hC hW ho h2 (by decide) hd hg rfl ?_
  show _ = Result.ok (Next.value (.pointer (some ⟨X.pb, 1, none⟩))) w
  generalize a.eval = ρ at e9 ⊢
  unfold execOp
  rw [hop]
  simp [e9, go_sem]
theorem RN.s32 (X : RN) (ok : RNOk X) {Q : Exit → Act → World → Prop} : StepG (opsOf 24 Try.f71) RN.acts RN.av X.val0 X.Wd X.a0 Q 32 := by
  intro γ listed a w o hF hC hW h1 ho h2
  obtain ⟨hd, hop, hg⟩ := fields2 (x := some 120) (y := Op.fieldAddr 24 (.tmp 119) 2) (z := none) (by kernel_rfl) ho
  have e119 : a.eval (.tmp 119) = .pointer (some ⟨X.pb, 1, none⟩) := slotG hF ho h2 (j := 31) (d := 119) (by kernel_rfl) (by kernel_rfl) (by rw [ok.sz]; decide)
  refine st_pureG hF hC hW ho h2 (by decide) hd hg rfl ?_
  show _ = Result.ok (Next.value (.pointer (some ⟨X.pb, 3, none⟩))) w
  generalize a.eval = ρ at e119 ⊢
  unfold execOp
  rw [hop]
  simp [e119, go_sem]
theorem RN.s33 (X : RN) (ok : RNOk X) {Q : Exit → Act → World → Prop} : StepG (opsOf 24 Try.f71) RN.acts RN.av X.val0 X.Wd X.a0 Q 33 := by
  intro γ listed a w o hF hC hW h1 ho h2
  obtain ⟨hd, hop, hg⟩ := fields2 (x := some 121) (y := Op.load 3 (.tmp 120)) (z := none) (by kernel_rfl) ho
  have e120 : a.eval (.tmp 120) = .pointer (some ⟨X.pb, 3, none⟩) := slotG hF ho h2 (j := 32) (d := 120) (by kernel_rfl) (by kernel_rfl) (by rw [ok.sz]; decide)
  have hph := phase_leG (acts := RN.acts) (m := 0) (x := 53) hC (unl (hF.lt ho) h1) rfl [52, 38, 36, 35, 33] (by kernel_rfl) (by decide)
  have hWW := hW
  generalize phase listed RN.acts = n at hph hWW
  have hk : Kp X.W w := by
    obtain rfl : n = 0 := by omega
    exact hWW
  have hc0 := rq_at hk ok.cb2
  refine st_pureG hF hC hW ho h2 (by decide) hd hg rfl ?_
  show _ = Result.ok (Next.value (.int .i64 X.u2)) w
  generalize a.eval = ρ at e120 ⊢
  unfold execOp
  rw [hop]
  simp [e120, hc0, go_sem]
theorem RN.s34 (X : RN) (ok : RNOk X) {Q : Exit → Act → World → Prop} : StepG (opsOf 24 Try.f71) RN.acts RN.av X.val0 X.Wd X.a0 Q 34 := by
  intro γ listed a w o hF hC hW h1 ho h2
  obtain ⟨hd, hop, hg⟩ := fields2 (x := some 122) (y := Op.move (.tmp 11)) (z := none) (by kernel_rfl) ho
  have e11 : a.eval (.tmp 11) = .int .i64 X.y := (hF.eval0 (by kernel_rfl)).trans ok.e11
  refine st_pureG hF hC hW ho h2 (by decide) hd hg rfl ?_
  show _ = Result.ok (Next.value (.int .i64 X.y)) w
  generalize a.eval = ρ at e11 ⊢
  unfold execOp
  rw [hop]
  simp [e11, go_sem]
theorem RN.s35 (X : RN) (ok : RNOk X) {Q : Exit → Act → World → Prop} : StepG (opsOf 24 Try.f71) RN.acts RN.av X.val0 X.Wd X.a0 Q 35 := by
  intro γ listed a w o hF hC hW h1 ho h2
  obtain ⟨hd, hop, hg⟩ := fields2 (x := some 123) (y := Op.binOp .mul 3 (.tmp 121) (.tmp 122) 3) (z := none) (by kernel_rfl) ho
  have e121 : a.eval (.tmp 121) = .int .i64 X.u2 := slotG hF ho h2 (j := 33) (d := 121) (by kernel_rfl) (by kernel_rfl) (by rw [ok.sz]; decide)
  have e122 : a.eval (.tmp 122) = .int .i64 X.y := slotG hF ho h2 (j := 34) (d := 122) (by kernel_rfl) (by kernel_rfl) (by rw [ok.sz]; decide)
  refine st_pureG hF hC hW ho h2 (by decide) hd hg rfl ?_
  show _ = Result.ok (Next.value (.int .i64 (X.u2 * X.y))) w
  generalize a.eval = ρ at e121 e122 ⊢
  unfold execOp
  rw [hop]
  simp [e121, e122, ok.f2.2.1, go_sem]
theorem RN.s36 (X : RN) (ok : RNOk X) {Q : Exit → Act → World → Prop} : StepG (opsOf 24 Try.f71) RN.acts RN.av X.val0 X.Wd X.a0 Q 36 := by
  intro γ listed a w o hF hC hW h1 ho h2
  obtain ⟨hd, hop, hg⟩ := fields2 (x := some 124) (y := Op.binOp .add 3 (.tmp 118) (.tmp 123) 3) (z := none) (by kernel_rfl) ho
  have e118 : a.eval (.tmp 118) = .int .i64 (X.q2 * X.x) := slotG hF ho h2 (j := 30) (d := 118) (by kernel_rfl) (by kernel_rfl) (by rw [ok.sz]; decide)
  have e123 : a.eval (.tmp 123) = .int .i64 (X.u2 * X.y) := slotG hF ho h2 (j := 35) (d := 123) (by kernel_rfl) (by kernel_rfl) (by rw [ok.sz]; decide)
  refine st_pureG hF hC hW ho h2 (by decide) hd hg rfl ?_
  show _ = Result.ok (Next.value (.int .i64 (X.q2 * X.x + X.u2 * X.y))) w
  generalize a.eval = ρ at e118 e123 ⊢
  unfold execOp
  rw [hop]
  simp [e118, e123, ok.f2.2.2.1, go_sem]
theorem RN.s37 (X : RN) (ok : RNOk X) {Q : Exit → Act → World → Prop} : StepG (opsOf 24 Try.f71) RN.acts RN.av X.val0 X.Wd X.a0 Q 37 := by
  intro γ listed a w o hF hC hW h1 ho h2
  obtain ⟨hd, hop, hg⟩ := fields2 (x := some 125) (y := Op.move (.tmp 12)) (z := none) (by kernel_rfl) ho
  have e12 : a.eval (.tmp 12) = .int .i64 X.n := (hF.eval0 (by kernel_rfl)).trans ok.e12
  refine st_pureG hF hC hW ho h2 (by decide) hd hg rfl ?_
  show _ = Result.ok (Next.value (.int .i64 X.n)) w
  generalize a.eval = ρ at e12 ⊢
  unfold execOp
  rw [hop]
  simp [e12, go_sem]
theorem RN.s38 (X : RN) (ok : RNOk X) {Q : Exit → Act → World → Prop} : StepG (opsOf 24 Try.f71) RN.acts RN.av X.val0 X.Wd X.a0 Q 38 := by
  intro γ listed a w o hF hC hW h1 ho h2
  obtain ⟨hd, hop, hg⟩ := fields2 (x := some 126) (y := Op.binOp .quo 3 (.tmp 124) (.tmp 125) 3) (z := none) (by kernel_rfl) ho
  have e124 : a.eval (.tmp 124) = .int .i64 (X.q2 * X.x + X.u2 * X.y) := slotG hF ho h2 (j := 36) (d := 124) (by kernel_rfl) (by kernel_rfl) (by rw [ok.sz]; decide)
  have e125 : a.eval (.tmp 125) = .int .i64 X.n := slotG hF ho h2 (j := 37) (d := 125) (by kernel_rfl) (by kernel_rfl) (by rw [ok.sz]; decide)
  refine st_pureG hF hC hW ho h2 (by decide) hd hg rfl ?_
  show _ = Result.ok (Next.value (.int .i64 (lerp X.q2 X.u2 X.x X.y X.n))) w
  generalize a.eval = ρ at e124 e125 ⊢
  unfold execOp
  rw [hop]
  simp [e124, e125, ok.f2.2.2.2.1, ok.f2.2.2.2.2, ok.n0, go_sem]
theorem RN.s39 (X : RN) (ok : RNOk X) {Q : Exit → Act → World → Prop} : StepG (opsOf 24 Try.f71) RN.acts RN.av X.val0 X.Wd X.a0 Q 39 := by
  intro γ listed a w o hF hC hW h1 ho h2
  obtain ⟨hd, hop, hg⟩ := fields2 (x := some 127) (y := Op.fieldAddr 106 (.tmp 8) 1) (z := none) (by kernel_rfl) ho
  have e8 : a.eval (.tmp 8) = .pointer (some ⟨X.pa, 0, none⟩) := (hF.eval0 (by kernel_rfl)).trans ok.e8
  refine st_pureG hF hC hW ho h2 (by decide) hd hg rfl ?_
  show _ = Result.ok (Next.value (.pointer (some ⟨X.pa, 1, none⟩))) w
  generalize a.eval = ρ at e8 ⊢
  unfold execOp
  rw [hop]
  simp [e8, go_sem]
theorem RN.s40 (X : RN) (ok : RNOk X) {Q : Exit → Act → World → Prop} : StepG (opsOf 24 Try.f71) RN.acts RN.av X.val0 X.Wd X.a0 Q 40 := by
  intro γ listed a w o hF hC hW h1 ho h2
  obtain ⟨hd, hop, hg⟩ := fields2 (x := some 128) (y := Op.fieldAddr 24 (.tmp 127) 3) (z := none) (by kernel_rfl) ho
  have e127 : a.eval (.tmp 127) = .pointer (some ⟨X.pa, 1, none⟩) := slotG hF ho h2 (j := 39) (d := 127) (by kernel_rfl) (by kernel_rfl) (by rw [ok.sz]; decide)
  refine st_pureG hF hC hW ho h2 (by decide) hd hg rfl ?_
  show _ = Result.ok (Next.value (.pointer (some ⟨X.pa, 4, none⟩))) w
  generalize a.eval = ρ at e127 ⊢
  unfold execOp
  rw [hop]
  simp [e127, go_sem]
theorem RN.s41 (X : RN) (ok : RNOk X) {Q : Exit → Act → World → Prop} : StepG (opsOf 24 Try.f71) RN.acts RN.av X.val0 X.Wd X.a0 Q 41 := by
  intro γ listed a w o hF hC hW h1 ho h2
  obtain ⟨hd, hop, hg⟩ := fields2 (x := some 129) (y := Op.load 3 (.tmp 128)) (z := none) (by kernel_rfl) ho
  have e128 : a.eval (.tmp 128) = .pointer (some ⟨X.pa, 4, none⟩) := slotG hF ho h2 (j := 40) (d := 128) (by kernel_rfl) (by kernel_rfl) (by rw [ok.sz]; decide)
  have hph := phase_leG (acts := RN.acts) (m := 0) (x := 53) hC (unl (hF.lt ho) h1) rfl [52, 51, 49, 43, 41] (by kernel_rfl) (by decide)
  have hWW := hW
  generalize phase listed RN.acts = n at hph hWW
  have hk : Kp X.W w := by
    obtain rfl : n = 0 := by omega
    exact hWW
  have hc0 := rq_at hk ok.ca3
  refine st_pureG hF hC hW ho h2 (by decide) hd hg rfl ?_
  show _ = Result.ok (Next.value (.int .i64 X.q3)) w
  generalize a.eval = ρ at e128 ⊢
  unfold execOp
  rw [hop]
  simp [e128, hc0, go_sem]
theorem RN.s42 (X : RN) (ok : RNOk X) {Q : Exit → Act → World → Prop} : StepG (opsOf 24 Try.f71) RN.acts RN.av X.val0 X.Wd X.a0 Q 42 := by
  intro γ listed a w o hF hC hW h1 ho h2
  obtain ⟨hd, hop, hg⟩ := fields2 (x := some 130) (y := Op.move (.tmp 10)) (z := none) (by kernel_rfl) ho
  have e10 : a.eval (.tmp 10) = .int .i64 X.x := (hF.eval0 (by kernel_rfl)).trans ok.e10
  refine st_pureG hF hC hW ho h2 (by decide) hd hg rfl ?_
  show _ = Result.ok (Next.value (.int .i64 X.x)) w
  generalize a.eval = ρ at e10 ⊢
  unfold execOp
  rw [hop]
  simp [e10, go_sem]
theorem RN.s43 (X : RN) (ok : RNOk X) {Q : Exit → Act → World → Prop} : StepG (opsOf 24 Try.f71) RN.acts RN.av X.val0 X.Wd X.a0 Q 43 := by
  intro γ listed a w o hF hC hW h1 ho h2
  obtain ⟨hd, hop, hg⟩ := fields2 (x := some 131) (y := Op.binOp .mul 3 (.tmp 129) (.tmp 130) 3) (z := none) (by kernel_rfl) ho
  have e129 : a.eval (.tmp 129) = .int .i64 X.q3 := slotG hF ho h2 (j := 41) (d := 129) (by kernel_rfl) (by kernel_rfl) (by rw [ok.sz]; decide)
  have e130 : a.eval (.tmp 130) = .int .i64 X.x := slotG hF ho h2 (j := 42) (d := 130) (by kernel_rfl) (by kernel_rfl) (by rw [ok.sz]; decide)
  refine st_pureG hF hC hW ho h2 (by decide) hd hg rfl ?_
  show _ = Result.ok (Next.value (.int .i64 (X.q3 * X.x))) w
  generalize a.eval = ρ at e129 e130 ⊢
  unfold execOp
  rw [hop]
  simp [e129, e130, ok.f3.1, go_sem]
theorem RN.s44 (X : RN) (ok : RNOk X) {Q : Exit → Act → World → Prop} : StepG (opsOf 24 Try.f71) RN.acts RN.av X.val0 X.Wd X.a0 Q 44 := by
  intro γ listed a w o hF hC hW h1 ho h2
  obtain ⟨hd, hop, hg⟩ := fields2 (x := some 132) (y := Op.fieldAddr 106 (.tmp 9) 1) (z := none) (by kernel_rfl) ho
  have e9 : a.eval (.tmp 9) = .pointer (some ⟨X.pb, 0, none⟩) := (hF.eval0 (by kernel_rfl)).trans ok.e9
  refine st_pureG hF hC hW ho h2 (by decide) hd hg rfl ?_
  show _ = Result.ok (Next.value (.pointer (some ⟨X.pb, 1, none⟩))) w
  generalize a.eval = ρ at e9 ⊢
  unfold execOp
  rw [hop]
  simp [e9, go_sem]
theorem RN.s45 (X : RN) (ok : RNOk X) {Q : Exit → Act → World → Prop} : StepG (opsOf 24 Try.f71) RN.acts RN.av X.val0 X.Wd X.a0 Q 45 := by
  intro γ listed a w o hF hC hW h1 ho h2
  obtain ⟨hd, hop, hg⟩ := fields2 (x := some 133) (y := Op.fieldAddr 24 (.tmp 132) 3) (z := none) (by kernel_rfl) ho
  have e132 : a.eval (.tmp 132) = .pointer (some ⟨X.pb, 1, none⟩) := slotG hF ho h2 (j := 44) (d := 132) (by kernel_rfl) (by kernel_rfl) (by rw [ok.sz]; decide)
  refine st_pureG hF hC hW ho h2 (by decide) hd hg rfl ?_
  show _ = Result.ok (Next.value (.pointer (some ⟨X.pb, 4, none⟩))) w
  generalize a.eval = ρ at e132 ⊢
  unfold execOp
  rw [hop]
  simp [e132, go_sem]
theorem RN.s46 (X : RN) (ok : RNOk X) {Q : Exit → Act → World → Prop} : StepG (opsOf 24 Try.f71) RN.acts RN.av X.val0 X.Wd X.a0 Q 46 := by
  intro γ listed a w o hF hC hW h1 ho h2
  obtain ⟨hd, hop, hg⟩ := fields2 (x := some 134) (y := Op.load 3 (.tmp 133)) (z := none) (by kernel_rfl) ho
  have e133 : a.eval (.tmp 133) = .pointer (some ⟨X.pb, 4, none⟩) := slotG hF ho h2 (j := 45) (d := 133) (by kernel_rfl) (by kernel_rfl) (by rw [ok.sz]; decide)
  have hph := phase_leG (acts := RN.acts) (m := 0) (x := 53) hC (unl (hF.lt ho) h1) rfl [52, 51, 49, 48, 46] (by kernel_rfl) (by decide)
  have hWW := hW
  generalize phase listed RN.acts = n at hph hWW
  have hk : Kp X.W w := by
    obtain rfl : n = 0 := by omega
    exact hWW
  have hc0 := rq_at hk ok.cb3
  refine st_pureG hF hC hW ho h2 (by decide) hd hg rfl ?_
  show _ = Result.ok (Next.value (.int .i64 X.u3)) w
  generalize a.eval = ρ at e133 ⊢
  unfold execOp
  rw [hop]
  simp [e133, hc0, go_sem]
theorem RN.s47 (X : RN) (ok : RNOk X) {Q : Exit → Act → World → Prop} : StepG (opsOf 24 Try.f71) RN.acts RN.av X.val0 X.Wd X.a0 Q 47 := by
  intro γ listed a w o hF hC hW h1 ho h2
  obtain ⟨hd, hop, hg⟩ := fields2 (x := some 135) (y := Op.move (.tmp 11)) (z := none) (by kernel_rfl) ho
  have e11 : a.eval (.tmp 11) = .int .i64 X.y := (hF.eval0 (by kernel_rfl)).trans ok.e11
  refine st_pureG hF hC hW ho h2 (by decide) hd hg rfl ?_
  show _ = Result.ok (Next.value (.int .i64 X.y)) w
  generalize a.eval = ρ at e11 ⊢
  unfold execOp
  rw [hop]
  simp [e11, go_sem]
theorem RN.s48 (X : RN) (ok : RNOk X) {Q : Exit → Act → World → Prop} : StepG (opsOf 24 Try.f71) RN.acts RN.av X.val0 X.Wd X.a0 Q 48 := by
  intro γ listed a w o hF hC hW h1 ho h2
  obtain ⟨hd, hop, hg⟩ := fields2 (x := some 136) (y := Op.binOp .mul 3 (.tmp 134) (.tmp 135) 3) (z := none) (by kernel_rfl) ho
  have e134 : a.eval (.tmp 134) = .int .i64 X.u3 := slotG hF ho h2 (j := 46) (d := 134) (by kernel_rfl) (by kernel_rfl) (by rw [ok.sz]; decide)
  have e135 : a.eval (.tmp 135) = .int .i64 X.y := slotG hF ho h2 (j := 47) (d := 135) (by kernel_rfl) (by kernel_rfl) (by rw [ok.sz]; decide)
  refine st_pureG hF hC hW ho h2 (by decide) hd hg rfl ?_
  show _ = Result.ok (Next.value (.int .i64 (X.u3 * X.y))) w
  generalize a.eval = ρ at e134 e135 ⊢
  unfold execOp
  rw [hop]
  simp [e134, e135, ok.f3.2.1, go_sem]
theorem RN.s49 (X : RN) (ok : RNOk X) {Q : Exit → Act → World → Prop} : StepG (opsOf 24 Try.f71) RN.acts RN.av X.val0 X.Wd X.a0 Q 49 := by
  intro γ listed a w o hF hC hW h1 ho h2
  obtain ⟨hd, hop, hg⟩ := fields2 (x := some 137) (y := Op.binOp .add 3 (.tmp 131) (.tmp 136) 3) (z := none) (by kernel_rfl) ho
  have e131 : a.eval (.tmp 131) = .int .i64 (X.q3 * X.x) := slotG hF ho h2 (j := 43) (d := 131) (by kernel_rfl) (by kernel_rfl) (by rw [ok.sz]; decide)
  have e136 : a.eval (.tmp 136) = .int .i64 (X.u3 * X.y) := slotG hF ho h2 (j := 48) (d := 136) (by kernel_rfl) (by kernel_rfl) (by rw [ok.sz]; decide)
  refine st_pureG hF hC hW ho h2 (by decide) hd hg rfl ?_
  show _ = Result.ok (Next.value (.int .i64 (X.q3 * X.x + X.u3 * X.y))) w
  generalize a.eval = ρ at e131 e136 ⊢
  unfold execOp
  rw [hop]
  simp [e131, e136, ok.f3.2.2.1, go_sem]
theorem RN.s50 (X : RN) (ok : RNOk X) {Q : Exit → Act → World → Prop} : StepG (opsOf 24 Try.f71) RN.acts RN.av X.val0 X.Wd X.a0 Q 50 := by
  intro γ listed a w o hF hC hW h1 ho h2
  obtain ⟨hd, hop, hg⟩ := fields2 (x := some 138) (y := Op.move (.tmp 12)) (z := none) (by kernel_rfl) ho
  have e12 : a.eval (.tmp 12) = .int .i64 X.n := (hF.eval0 (by kernel_rfl)).trans ok.e12
  refine st_pureG hF hC hW ho h2 (by decide) hd hg rfl ?_
  show _ = Result.ok (Next.value (.int .i64 X.n)) w
  generalize a.eval = ρ at e12 ⊢
  unfold execOp
  rw [hop]
  simp [e12, go_sem]
theorem RN.s51 (X : RN) (ok : RNOk X) {Q : Exit → Act → World → Prop} : StepG (opsOf 24 Try.f71) RN.acts RN.av X.val0 X.Wd X.a0 Q 51 := by
  intro γ listed a w o hF hC hW h1 ho h2
  obtain ⟨hd, hop, hg⟩ := fields2 (x := some 139) (y := Op.binOp .quo 3 (.tmp 137) (.tmp 138) 3) (z := none) (by kernel_rfl) ho
  have e137 : a.eval (.tmp 137) = .int .i64 (X.q3 * X.x + X.u3 * X.y) := slotG hF ho h2 (j := 49) (d := 137) (by kernel_rfl) (by kernel_rfl) (by rw [ok.sz]; decide)
  have e138 : a.eval (.tmp 138) = .int .i64 X.n := slotG hF ho h2 (j := 50) (d := 138) (by kernel_rfl) (by kernel_rfl) (by rw [ok.sz]; decide)
  refine st_pureG hF hC hW ho h2 (by decide) hd hg rfl ?_
  show _ = Result.ok (Next.value (.int .i64 (lerp X.q3 X.u3 X.x X.y X.n))) w
  generalize a.eval = ρ at e137 e138 ⊢
  unfold execOp
  rw [hop]
  simp [e137, e138, ok.f3.2.2.2.1, ok.f3.2.2.2.2, ok.n0, go_sem]
theorem RN.s52 (X : RN) (ok : RNOk X) {Q : Exit → Act → World → Prop} : StepG (opsOf 24 Try.f71) RN.acts RN.av X.val0 X.Wd X.a0 Q 52 := by
  intro γ listed a w o hF hC hW h1 ho h2
  obtain ⟨hd, hop, hg⟩ := fields2 (x := some 140) (y := Op.build 24 #[(0, (.tmp 100)), (1, (.tmp 113)), (2, (.tmp 126)), (3, (.tmp 139))]) (z := none) (by kernel_rfl) ho
  have e100 : a.eval (.tmp 100) = .int .i64 (lerp X.q0 X.u0 X.x X.y X.n) := slotG hF ho h2 (j := 12) (d := 100) (by kernel_rfl) (by kernel_rfl) (by rw [ok.sz]; decide)
  have e113 : a.eval (.tmp 113) = .int .i64 (lerp X.q1 X.u1 X.x X.y X.n) := slotG hF ho h2 (j := 25) (d := 113) (by kernel_rfl) (by kernel_rfl) (by rw [ok.sz]; decide)
  have e126 : a.eval (.tmp 126) = .int .i64 (lerp X.q2 X.u2 X.x X.y X.n) := slotG hF ho h2 (j := 38) (d := 126) (by kernel_rfl) (by kernel_rfl) (by rw [ok.sz]; decide)
  have e139 : a.eval (.tmp 139) = .int .i64 (lerp X.q3 X.u3 X.x X.y X.n) := slotG hF ho h2 (j := 51) (d := 139) (by kernel_rfl) (by kernel_rfl) (by rw [ok.sz]; decide)
  refine st_pureG hF hC hW ho h2 (by decide) hd hg rfl ?_
  show _ = Result.ok (Next.value (.agg #[.int .i64 (lerp X.q0 X.u0 X.x X.y X.n), .int .i64 (lerp X.q1 X.u1 X.x X.y X.n), .int .i64 (lerp X.q2 X.u2 X.x X.y X.n), .int .i64 (lerp X.q3 X.u3 X.x X.y X.n)])) w
  generalize a.eval = ρ at e100 e113 e126 e139 ⊢
  unfold execOp
  rw [hop]
  simp [e100, e113, e126, e139, go_sem]
theorem RN.s53 (X : RN) (ok : RNOk X) {Q : Exit → Act → World → Prop} : StepG (opsOf 24 Try.f71) RN.acts RN.av X.val0 X.Wd X.a0 Q 53 := by
  intro γ listed a w o hF hC hW h1 ho h2
  obtain ⟨hd, hop, hg⟩ := fields2 (x := none) (y := Op.store 24 (.tmp 6) (.tmp 140)) (z := none) (by kernel_rfl) ho
  have e6 : a.eval (.tmp 6) = .pointer (some ⟨X.g, 0, none⟩) := (hF.eval0 (by kernel_rfl)).trans ok.e6
  have e140 : a.eval (.tmp 140) = .agg #[.int .i64 (lerp X.q0 X.u0 X.x X.y X.n), .int .i64 (lerp X.q1 X.u1 X.x X.y X.n), .int .i64 (lerp X.q2 X.u2 X.x X.y X.n), .int .i64 (lerp X.q3 X.u3 X.x X.y X.n)] := slotG hF ho h2 (j := 52) (d := 140) (by kernel_rfl) (by kernel_rfl) (by rw [ok.sz]; decide)
  have hu := unl (hF.lt ho) h1
  refine st_actG (k := 0) RN.chain RN.nodup rfl hF hC hW h1 ho h2 (Or.inl hd) (RN.inj (by kernel_rfl) hu) hg ?_
  intro hW0 K hK
  obtain ⟨u0, z0⟩ := ok.z0
  replace z0 := rq_at hW0 z0
  obtain ⟨u1, z1⟩ := ok.z1
  replace z1 := rq_at hW0 z1
  obtain ⟨u2, z2⟩ := ok.z2
  replace z2 := rq_at hW0 z2
  obtain ⟨u3, z3⟩ := ok.z3
  replace z3 := rq_at hW0 z3
  have zf : ∀ o, w.frozen? ⟨X.g, o, none⟩ = false := fun o => (hW0.cells.2 _ _).trans (ok.zf o)
  have hr : (execOp a.eval o).run Try.prog w = .ok .skip ((((w.setCell ⟨X.g, 0, none⟩ (.int .i64 (lerp X.q0 X.u0 X.x X.y X.n))).setCell ⟨X.g, 1, none⟩ (.int .i64 (lerp X.q1 X.u1 X.x X.y X.n))).setCell ⟨X.g, 2, none⟩ (.int .i64 (lerp X.q2 X.u2 X.x X.y X.n))).setCell ⟨X.g, 3, none⟩ (.int .i64 (lerp X.q3 X.u3 X.x X.y X.n))) := by
    generalize a.eval = ρ at e6 e140 ⊢
    unfold execOp
    rw [hop]
    simp [e6, e140, z0, z1, z2, z3, zf, go_sem]
  unfold Oper.wp
  rw [hr]
  exact hK _ _ ⟨w, hW0, rfl⟩
theorem RN.size : (opsOf 24 Try.f71).size = 54 := by kernel_rfl
theorem RN.steps (X : RN) (ok : RNOk X) {Q : Exit → Act → World → Prop} (i : Nat) (hi : i < (opsOf 24 Try.f71).size) : StepG (opsOf 24 Try.f71) RN.acts RN.av X.val0 X.Wd X.a0 Q i := by
  rw [RN.size] at hi
  have hc : i = 0 ∨ i = 1 ∨ i = 2 ∨ i = 3 ∨ i = 4 ∨ i = 5 ∨ i = 6 ∨ i = 7 ∨ i = 8 ∨ i = 9 ∨ i = 10 ∨ i = 11 ∨ i = 12 ∨ i = 13 ∨ i = 14 ∨ i = 15 ∨ i = 16 ∨ i = 17 ∨ i = 18 ∨ i = 19 ∨ i = 20 ∨ i = 21 ∨ i = 22 ∨ i = 23 ∨ i = 24 ∨ i = 25 ∨ i = 26 ∨ i = 27 ∨ i = 28 ∨ i = 29 ∨ i = 30 ∨ i = 31 ∨ i = 32 ∨ i = 33 ∨ i = 34 ∨ i = 35 ∨ i = 36 ∨ i = 37 ∨ i = 38 ∨ i = 39 ∨ i = 40 ∨ i = 41 ∨ i = 42 ∨ i = 43 ∨ i = 44 ∨ i = 45 ∨ i = 46 ∨ i = 47 ∨ i = 48 ∨ i = 49 ∨ i = 50 ∨ i = 51 ∨ i = 52 ∨ i = 53 := by omega
  rcases hc with rfl | rfl | rfl | rfl | rfl | rfl | rfl | rfl | rfl | rfl | rfl | rfl | rfl | rfl | rfl | rfl | rfl | rfl | rfl | rfl | rfl | rfl | rfl | rfl | rfl | rfl | rfl | rfl | rfl | rfl | rfl | rfl | rfl | rfl | rfl | rfl | rfl | rfl | rfl | rfl | rfl | rfl | rfl | rfl | rfl | rfl | rfl | rfl | rfl | rfl | rfl | rfl | rfl | rfl
  · exact RN.s0 X ok
  · exact RN.s1 X ok
  · exact RN.s2 X ok
  · exact RN.s3 X ok
  · exact RN.s4 X ok
  · exact RN.s5 X ok
  · exact RN.s6 X ok
  · exact RN.s7 X ok
  · exact RN.s8 X ok
  · exact RN.s9 X ok
  · exact RN.s10 X ok
  · exact RN.s11 X ok
  · exact RN.s12 X ok
  · exact RN.s13 X ok
  · exact RN.s14 X ok
  · exact RN.s15 X ok
  · exact RN.s16 X ok
  · exact RN.s17 X ok
  · exact RN.s18 X ok
  · exact RN.s19 X ok
  · exact RN.s20 X ok
  · exact RN.s21 X ok
  · exact RN.s22 X ok
  · exact RN.s23 X ok
  · exact RN.s24 X ok
  · exact RN.s25 X ok
  · exact RN.s26 X ok
  · exact RN.s27 X ok
  · exact RN.s28 X ok
  · exact RN.s29 X ok
  · exact RN.s30 X ok
  · exact RN.s31 X ok
  · exact RN.s32 X ok
  · exact RN.s33 X ok
  · exact RN.s34 X ok
  · exact RN.s35 X ok
  · exact RN.s36 X ok
  · exact RN.s37 X ok
  · exact RN.s38 X ok
  · exact RN.s39 X ok
  · exact RN.s40 X ok
  · exact RN.s41 X ok
  · exact RN.s42 X ok
  · exact RN.s43 X ok
  · exact RN.s44 X ok
  · exact RN.s45 X ok
  · exact RN.s46 X ok
  · exact RN.s47 X ok
  · exact RN.s48 X ok
  · exact RN.s49 X ok
  · exact RN.s50 X ok
  · exact RN.s51 X ok
  · exact RN.s52 X ok
  · exact RN.s53 X ok
theorem RN.puts (X : RN) (γ : Nat → Value) (a0 : Act) : putsL (valG RN.av X.val0 γ) (opsOf 24 Try.f71).toList a0 = (((((((((((((((((((((((((((((((((((((((((((((((((((((a0.put (some 88) (.pointer (some ⟨X.pa, 1, none⟩))).put (some 89) (.pointer (some ⟨X.pa, 1, none⟩))).put (some 90) (.int .i64 X.q0)).put (some 91) (.int .i64 X.x)).put (some 92) (.int .i64 (X.q0 * X.x))).put (some 93) (.pointer (some ⟨X.pb, 1, none⟩))).put (some 94) (.pointer (some ⟨X.pb, 1, none⟩))).put (some 95) (.int .i64 X.u0)).put (some 96) (.int .i64 X.y)).put (some 97) (.int .i64 (X.u0 * X.y))).put (some 98) (.int .i64 (X.q0 * X.x + X.u0 * X.y))).put (some 99) (.int .i64 X.n)).put (some 100) (.int .i64 (lerp X.q0 X.u0 X.x X.y X.n))).put (some 101) (.pointer (some ⟨X.pa, 1, none⟩))).put (some 102) (.pointer (some ⟨X.pa, 2, none⟩))).put (some 103) (.int .i64 X.q1)).put (some 104) (.int .i64 X.x)).put (some 105) (.int .i64 (X.q1 * X.x))).put (some 106) (.pointer (some ⟨X.pb, 1, none⟩))).put (some 107) (.pointer (some ⟨X.pb, 2, none⟩))).put (some 108) (.int .i64 X.u1)).put (some 109) (.int .i64 X.y)).put (some 110) (.int .i64 (X.u1 * X.y))).put (some 111) (.int .i64 (X.q1 * X.x + X.u1 * X.y))).put (some 112) (.int .i64 X.n)).put (some 113) (.int .i64 (lerp X.q1 X.u1 X.x X.y X.n))).put (some 114) (.pointer (some ⟨X.pa, 1, none⟩))).put (some 115) (.pointer (some ⟨X.pa, 3, none⟩))).put (some 116) (.int .i64 X.q2)).put (some 117) (.int .i64 X.x)).put (some 118) (.int .i64 (X.q2 * X.x))).put (some 119) (.pointer (some ⟨X.pb, 1, none⟩))).put (some 120) (.pointer (some ⟨X.pb, 3, none⟩))).put (some 121) (.int .i64 X.u2)).put (some 122) (.int .i64 X.y)).put (some 123) (.int .i64 (X.u2 * X.y))).put (some 124) (.int .i64 (X.q2 * X.x + X.u2 * X.y))).put (some 125) (.int .i64 X.n)).put (some 126) (.int .i64 (lerp X.q2 X.u2 X.x X.y X.n))).put (some 127) (.pointer (some ⟨X.pa, 1, none⟩))).put (some 128) (.pointer (some ⟨X.pa, 4, none⟩))).put (some 129) (.int .i64 X.q3)).put (some 130) (.int .i64 X.x)).put (some 131) (.int .i64 (X.q3 * X.x))).put (some 132) (.pointer (some ⟨X.pb, 1, none⟩))).put (some 133) (.pointer (some ⟨X.pb, 4, none⟩))).put (some 134) (.int .i64 X.u3)).put (some 135) (.int .i64 X.y)).put (some 136) (.int .i64 (X.u3 * X.y))).put (some 137) (.int .i64 (X.q3 * X.x + X.u3 * X.y))).put (some 138) (.int .i64 X.n)).put (some 139) (.int .i64 (lerp X.q3 X.u3 X.x X.y X.n))).put (some 140) (.agg #[.int .i64 (lerp X.q0 X.u0 X.x X.y X.n), .int .i64 (lerp X.q1 X.u1 X.x X.y X.n), .int .i64 (lerp X.q2 X.u2 X.x X.y X.n), .int .i64 (lerp X.q3 X.u3 X.x X.y X.n)])) := by kernel_rfl
/-- The region, whatever order comes up. -/
theorem RN.run (X : RN) (ok : RNOk X) {Q : Exit → Act → World → Prop} (w : World) (h0 : X.Wd 0 (fun _ => undef) w.drew) (hend : ∀ (γ : Nat → Value) w', X.Wd 1 γ w' → Q .normal (((((((((((((((((((((((((((((((((((((((((((((((((((((X.a0.put (some 88) (.pointer (some ⟨X.pa, 1, none⟩))).put (some 89) (.pointer (some ⟨X.pa, 1, none⟩))).put (some 90) (.int .i64 X.q0)).put (some 91) (.int .i64 X.x)).put (some 92) (.int .i64 (X.q0 * X.x))).put (some 93) (.pointer (some ⟨X.pb, 1, none⟩))).put (some 94) (.pointer (some ⟨X.pb, 1, none⟩))).put (some 95) (.int .i64 X.u0)).put (some 96) (.int .i64 X.y)).put (some 97) (.int .i64 (X.u0 * X.y))).put (some 98) (.int .i64 (X.q0 * X.x + X.u0 * X.y))).put (some 99) (.int .i64 X.n)).put (some 100) (.int .i64 (lerp X.q0 X.u0 X.x X.y X.n))).put (some 101) (.pointer (some ⟨X.pa, 1, none⟩))).put (some 102) (.pointer (some ⟨X.pa, 2, none⟩))).put (some 103) (.int .i64 X.q1)).put (some 104) (.int .i64 X.x)).put (some 105) (.int .i64 (X.q1 * X.x))).put (some 106) (.pointer (some ⟨X.pb, 1, none⟩))).put (some 107) (.pointer (some ⟨X.pb, 2, none⟩))).put (some 108) (.int .i64 X.u1)).put (some 109) (.int .i64 X.y)).put (some 110) (.int .i64 (X.u1 * X.y))).put (some 111) (.int .i64 (X.q1 * X.x + X.u1 * X.y))).put (some 112) (.int .i64 X.n)).put (some 113) (.int .i64 (lerp X.q1 X.u1 X.x X.y X.n))).put (some 114) (.pointer (some ⟨X.pa, 1, none⟩))).put (some 115) (.pointer (some ⟨X.pa, 3, none⟩))).put (some 116) (.int .i64 X.q2)).put (some 117) (.int .i64 X.x)).put (some 118) (.int .i64 (X.q2 * X.x))).put (some 119) (.pointer (some ⟨X.pb, 1, none⟩))).put (some 120) (.pointer (some ⟨X.pb, 3, none⟩))).put (some 121) (.int .i64 X.u2)).put (some 122) (.int .i64 X.y)).put (some 123) (.int .i64 (X.u2 * X.y))).put (some 124) (.int .i64 (X.q2 * X.x + X.u2 * X.y))).put (some 125) (.int .i64 X.n)).put (some 126) (.int .i64 (lerp X.q2 X.u2 X.x X.y X.n))).put (some 127) (.pointer (some ⟨X.pa, 1, none⟩))).put (some 128) (.pointer (some ⟨X.pa, 4, none⟩))).put (some 129) (.int .i64 X.q3)).put (some 130) (.int .i64 X.x)).put (some 131) (.int .i64 (X.q3 * X.x))).put (some 132) (.pointer (some ⟨X.pb, 1, none⟩))).put (some 133) (.pointer (some ⟨X.pb, 4, none⟩))).put (some 134) (.int .i64 X.u3)).put (some 135) (.int .i64 X.y)).put (some 136) (.int .i64 (X.u3 * X.y))).put (some 137) (.int .i64 (X.q3 * X.x + X.u3 * X.y))).put (some 138) (.int .i64 X.n)).put (some 139) (.int .i64 (lerp X.q3 X.u3 X.x X.y X.n))).put (some 140) (.agg #[.int .i64 (lerp X.q0 X.u0 X.x X.y X.n), .int .i64 (lerp X.q1 X.u1 X.x X.y X.n), .int .i64 (lerp X.q2 X.u2 X.x X.y X.n), .int .i64 (lerp X.q3 X.u3 X.x X.y X.n)])) w') : (Code.region 24 (opsOf 24 Try.f71) true).wp Try.prog Q X.a0 w := by
  refine reg_act (acts := RN.acts) (av := RN.av) (val0 := X.val0) (Wd := X.Wd) (by kernel_rfl) (by kernel_rfl) (by rw [RN.size]; decide) (fun i hi => RN.steps X ok i hi) _ h0 ?_
  intro γ w' h
  rw [RN.puts]
  exact hend γ w' h
end Go.Proofs.Ythlohbiocfeapaa
