/-
  The statements of the specification that lay a tint over another and append it; each theorem names its conditions.
-/
import Derived.Test.YthlohbiocfeapaaCvQ
import Derived.Test.YthlohbiocfeapaaRq
namespace Go.Proofs.Ythlohbiocfeapaa
open Go.ChangeShapes Go.WideShapes Go.ChangeAt Go.RowKit
set_option linter.unusedVariables false

structure LA where
  bx : Nat
  bt : Nat
  bu : Nat
  p : Int
  q : MD
  va : Option Addr
  vn : Nat
  vc : Nat
  l : List Edg
  gb : Nat
  go : Nat
  bn : Nat
  bc : Nat
  k : Nat
  t0 : Int
  t1 : Int
  t2 : Int
  t3 : Int
  u0 : Int
  u1 : Int
  u2 : Int
  u3 : Int
  W : World
  a0 : Act
structure LAOk (X : LA) : Prop where
  cb : CvQ X.bx X.W X.q (.slice X.va X.vn X.vc) X.l
  len : X.l.length ≤ 1000000
  cc : X.W.cell? ⟨X.bt, 2, none⟩ = some (.slice (some ⟨X.gb, X.go, none⟩) X.bn X.bc)
  hk : X.k < X.bn
  y0 : X.W.cell? ⟨X.gb, X.go + X.k * 4, none⟩ = some (.int .i64 X.t0)
  y1 : X.W.cell? ⟨X.gb, X.go + X.k * 4 + 1, none⟩ = some (.int .i64 X.t1)
  y2 : X.W.cell? ⟨X.gb, X.go + X.k * 4 + 2, none⟩ = some (.int .i64 X.t2)
  y3 : X.W.cell? ⟨X.gb, X.go + X.k * 4 + 3, none⟩ = some (.int .i64 X.t3)
  z0 : X.W.cell? ⟨X.bu, 0, none⟩ = some (.int .i64 X.u0)
  z1 : X.W.cell? ⟨X.bu, 1, none⟩ = some (.int .i64 X.u1)
  z2 : X.W.cell? ⟨X.bu, 2, none⟩ = some (.int .i64 X.u2)
  z3 : X.W.cell? ⟨X.bu, 3, none⟩ = some (.int .i64 X.u3)
  ot : ok8 X.t0 ∧ ok8 X.t1 ∧ ok8 X.t2 ∧ ok8 X.t3
  ou : ok8 X.u0 ∧ ok8 X.u1 ∧ ok8 X.u2 ∧ ok8 X.u3
  hp : 0 ≤ X.p ∧ X.p ≤ 256
  e2 : X.a0.eval (.tmp 2) = .int .i64 X.p
  e4 : X.a0.eval (.tmp 4) = .pointer (some ⟨X.bt, 0, none⟩)
  e8 : X.a0.eval (.tmp 8) = .pointer (some ⟨X.bx, 0, none⟩)
  e9 : X.a0.eval (.tmp 9) = .int .i64 (X.k : Int)
  e10 : X.a0.eval (.tmp 10) = .pointer (some ⟨X.bu, 0, none⟩)
  sz : X.a0.tmps.size = 68
def LA.val0 (X : LA) : Nat → Value
  | 52 => .pointer (some ⟨X.bx, 2, none⟩)
  | 53 => .slice X.va X.vn X.vc
  | 54 => .pointer (some ⟨X.bt, 2, none⟩)
  | 55 => .slice (some ⟨X.gb, X.go, none⟩) X.bn X.bc
  | 56 => .int .i64 (X.k : Int)
  | 57 => .pointer (some ⟨X.gb, X.go + X.k * 4, none⟩)
  | 58 => edV ⟨X.t0, X.t1, X.t2, X.t3⟩
  | 59 => .int .i64 X.p
  | 60 => edV (thinT ⟨X.t0, X.t1, X.t2, X.t3⟩ X.p)
  | 61 => edV ⟨X.u0, X.u1, X.u2, X.u3⟩
  | 62 => edV (overT (thinT ⟨X.t0, X.t1, X.t2, X.t3⟩ X.p) ⟨X.u0, X.u1, X.u2, X.u3⟩)
  | 65 => .pointer (some ⟨X.bx, 2, none⟩)
  | _ => undef
def LA.av : Nat → Option Nat
  | 63 => some 0
  | 64 => some 1
  | _ => none
def LA.acts : List Nat := [11, 12, 14]
/-- The world, by how many of the acting ones have come up. -/
def LA.Wd (X : LA) : Nat → (Nat → Value) → World → Prop
  | 0, _, w => Kp X.W w
  | 1, γ, w => ∃ w1, Kp X.W w1 ∧ γ 0 = .slice (some ⟨w1.heap.size, 0, none⟩) 1 1 ∧ w = w1.alloc (.cells #[.int .i64 (overT (thinT ⟨X.t0, X.t1, X.t2, X.t3⟩ X.p) ⟨X.u0, X.u1, X.u2, X.u3⟩).ax, .int .i64 (overT (thinT ⟨X.t0, X.t1, X.t2, X.t3⟩ X.p) ⟨X.u0, X.u1, X.u2, X.u3⟩).ay, .int .i64 (overT (thinT ⟨X.t0, X.t1, X.t2, X.t3⟩ X.p) ⟨X.u0, X.u1, X.u2, X.u3⟩).bx, .int .i64 (overT (thinT ⟨X.t0, X.t1, X.t2, X.t3⟩ X.p) ⟨X.u0, X.u1, X.u2, X.u3⟩).cy] 24)
  | 2, γ, w => ∃ w1, Kp X.W w1 ∧ OwnE 24 w (X.bx + 1) (γ 1) (X.l ++ [(overT (thinT ⟨X.t0, X.t1, X.t2, X.t3⟩ X.p) ⟨X.u0, X.u1, X.u2, X.u3⟩)]) ∧ Ext (.slice X.va X.vn X.vc) (γ 1) w1 w
  | _, γ, w => ∃ w1 w2, Kp X.W w1 ∧ OwnE 24 w2 (X.bx + 1) (γ 1) (X.l ++ [(overT (thinT ⟨X.t0, X.t1, X.t2, X.t3⟩ X.p) ⟨X.u0, X.u1, X.u2, X.u3⟩)]) ∧ Ext (.slice X.va X.vn X.vc) (γ 1) w1 w2 ∧ w = w2.setCell ⟨X.bx, 2, none⟩ (γ 1)
theorem LA.chain : chainG (opsOf 7 Try.f50) LA.acts = true := by kernel_rfl
theorem LA.nodup : LA.acts.Nodup := by decide
theorem LA.inj {listed : Array Bool} {i k : Nat} (h : (List.range (opsOf 7 Try.f50).size).all (fun j => decide (j = i) || !(match dstOf (opsOf 7 Try.f50) j with | some d => decide (LA.av d = some k) | none => false)) = true) (hu : listed.getD i false = false) : ∀ d, got (opsOf 7 Try.f50) listed d → LA.av d ≠ some k := by
  rintro d ⟨j, h1, h2⟩ h3
  have hlt : j < (opsOf 7 Try.f50).size := by
    rcases Nat.lt_or_ge j (opsOf 7 Try.f50).size with h4 | h4
    · exact h4
    · unfold dstOf at h2; rw [Array.getElem?_eq_none h4] at h2; cases h2
  have h5 := List.all_eq_true.1 h j (List.mem_range.2 hlt)
  rw [h2] at h5
  simp only [h3, decide_true, Bool.not_true, Bool.or_false, decide_eq_true_eq] at h5
  subst h5
  rw [hu] at h1
  cases h1
theorem LA.s0 (X : LA) (ok : LAOk X) {Q : Exit → Act → World → Prop} : StepG (opsOf 7 Try.f50) LA.acts LA.av X.val0 X.Wd X.a0 Q 0 := by
  intro γ listed a w o hF hC hW h1 ho h2
  obtain ⟨hd, hop, hg⟩ := fields2 (x := some 52) (y := Op.fieldAddr 57 (.tmp 8) 2) (z := none) (by kernel_rfl) ho
  have e8 : a.eval (.tmp 8) = .pointer (some ⟨X.bx, 0, none⟩) := (hF.eval0 (by kernel_rfl)).trans ok.e8
  refine st_pureG hF hC hW ho h2 (by decide) hd hg rfl ?_
  show _ = Result.ok (Next.value (.pointer (some ⟨X.bx, 2, none⟩))) w
  generalize a.eval = ρ at e8 ⊢
  unfold execOp
  rw [hop]
  simp [e8, go_sem]
theorem LA.s1 (X : LA) (ok : LAOk X) {Q : Exit → Act → World → Prop} : StepG (opsOf 7 Try.f50) LA.acts LA.av X.val0 X.Wd X.a0 Q 1 := by
  intro γ listed a w o hF hC hW h1 ho h2
  obtain ⟨hd, hop, hg⟩ := fields2 (x := some 53) (y := Op.load 55 (.tmp 52)) (z := none) (by kernel_rfl) ho
  have e52 : a.eval (.tmp 52) = .pointer (some ⟨X.bx, 2, none⟩) := slotG hF ho h2 (j := 0) (d := 52) (by kernel_rfl) (by kernel_rfl) (by rw [ok.sz]; decide)
  have hph := phase_leG (acts := LA.acts) (m := 1) (x := 12) hC (unl (hF.lt ho) h1) rfl [1] (by kernel_rfl) (by decide)
  have hWW := hW
  generalize phase listed LA.acts = n at hph hWW
  have hk : Nw X.W w := by
    rcases (show n = 0 ∨ n = 1 by omega) with rfl | rfl
    · exact hWW.nw
    · obtain ⟨w1, k1, _, rfl⟩ := hWW
      exact Nw.trans k1.nw ((Below.refl _ _).alloc (Nat.le_refl _) _)
  have hc := (ok.cb.nw hk).c2
  refine st_pureG hF hC hW ho h2 (by decide) hd hg rfl ?_
  show _ = Result.ok (Next.value (.slice X.va X.vn X.vc)) w
  generalize a.eval = ρ at e52 ⊢
  unfold execOp
  rw [hop]
  simp [e52, hc, go_sem]
theorem LA.s2 (X : LA) (ok : LAOk X) {Q : Exit → Act → World → Prop} : StepG (opsOf 7 Try.f50) LA.acts LA.av X.val0 X.Wd X.a0 Q 2 := by
  intro γ listed a w o hF hC hW h1 ho h2
  obtain ⟨hd, hop, hg⟩ := fields2 (x := some 54) (y := Op.fieldAddr 57 (.tmp 4) 2) (z := none) (by kernel_rfl) ho
  have e4 : a.eval (.tmp 4) = .pointer (some ⟨X.bt, 0, none⟩) := (hF.eval0 (by kernel_rfl)).trans ok.e4
  refine st_pureG hF hC hW ho h2 (by decide) hd hg rfl ?_
  show _ = Result.ok (Next.value (.pointer (some ⟨X.bt, 2, none⟩))) w
  generalize a.eval = ρ at e4 ⊢
  unfold execOp
  rw [hop]
  simp [e4, go_sem]
theorem LA.s3 (X : LA) (ok : LAOk X) {Q : Exit → Act → World → Prop} : StepG (opsOf 7 Try.f50) LA.acts LA.av X.val0 X.Wd X.a0 Q 3 := by
  intro γ listed a w o hF hC hW h1 ho h2
  obtain ⟨hd, hop, hg⟩ := fields2 (x := some 55) (y := Op.load 55 (.tmp 54)) (z := none) (by kernel_rfl) ho
  have e54 : a.eval (.tmp 54) = .pointer (some ⟨X.bt, 2, none⟩) := slotG hF ho h2 (j := 2) (d := 54) (by kernel_rfl) (by kernel_rfl) (by rw [ok.sz]; decide)
  have hph := phase_leG (acts := LA.acts) (m := 0) (x := 11) hC (unl (hF.lt ho) h1) rfl [10, 8, 6, 5, 3] (by kernel_rfl) (by decide)
  have hWW := hW
  generalize phase listed LA.acts = n at hph hWW
  have hk : Kp X.W w := by
    obtain rfl : n = 0 := by omega
    exact hWW
  have hc0 := kpq hk ok.cc
  refine st_pureG hF hC hW ho h2 (by decide) hd hg rfl ?_
  show _ = Result.ok (Next.value (.slice (some ⟨X.gb, X.go, none⟩) X.bn X.bc)) w
  generalize a.eval = ρ at e54 ⊢
  unfold execOp
  rw [hop]
  simp [e54, hc0, go_sem]
theorem LA.s4 (X : LA) (ok : LAOk X) {Q : Exit → Act → World → Prop} : StepG (opsOf 7 Try.f50) LA.acts LA.av X.val0 X.Wd X.a0 Q 4 := by
  intro γ listed a w o hF hC hW h1 ho h2
  obtain ⟨hd, hop, hg⟩ := fields2 (x := some 56) (y := Op.move (.tmp 9)) (z := none) (by kernel_rfl) ho
  have e9 : a.eval (.tmp 9) = .int .i64 (X.k : Int) := (hF.eval0 (by kernel_rfl)).trans ok.e9
  refine st_pureG hF hC hW ho h2 (by decide) hd hg rfl ?_
  show _ = Result.ok (Next.value (.int .i64 (X.k : Int))) w
  generalize a.eval = ρ at e9 ⊢
  unfold execOp
  rw [hop]
  simp [e9, go_sem]
theorem LA.s5 (X : LA) (ok : LAOk X) {Q : Exit → Act → World → Prop} : StepG (opsOf 7 Try.f50) LA.acts LA.av X.val0 X.Wd X.a0 Q 5 := by
  intro γ listed a w o hF hC hW h1 ho h2
  obtain ⟨hd, hop, hg⟩ := fields2 (x := some 57) (y := Op.indexAddr 55 (.tmp 55) (.tmp 56)) (z := none) (by kernel_rfl) ho
  have e55 : a.eval (.tmp 55) = .slice (some ⟨X.gb, X.go, none⟩) X.bn X.bc := slotG hF ho h2 (j := 3) (d := 55) (by kernel_rfl) (by kernel_rfl) (by rw [ok.sz]; decide)
  have e56 : a.eval (.tmp 56) = .int .i64 (X.k : Int) := slotG hF ho h2 (j := 4) (d := 56) (by kernel_rfl) (by kernel_rfl) (by rw [ok.sz]; decide)
  have hkk := ok.hk
  refine st_pureG hF hC hW ho h2 (by decide) hd hg rfl ?_
  show _ = Result.ok (Next.value (.pointer (some ⟨X.gb, X.go + X.k * 4, none⟩))) w
  generalize a.eval = ρ at e55 e56 ⊢
  unfold execOp
  rw [hop]
  simp [e55, e56, hkk, go_sem]
theorem LA.s6 (X : LA) (ok : LAOk X) {Q : Exit → Act → World → Prop} : StepG (opsOf 7 Try.f50) LA.acts LA.av X.val0 X.Wd X.a0 Q 6 := by
  intro γ listed a w o hF hC hW h1 ho h2
  obtain ⟨hd, hop, hg⟩ := fields2 (x := some 58) (y := Op.load 24 (.tmp 57)) (z := none) (by kernel_rfl) ho
  have e57 : a.eval (.tmp 57) = .pointer (some ⟨X.gb, X.go + X.k * 4, none⟩) := slotG hF ho h2 (j := 5) (d := 57) (by kernel_rfl) (by kernel_rfl) (by rw [ok.sz]; decide)
  have hph := phase_leG (acts := LA.acts) (m := 0) (x := 11) hC (unl (hF.lt ho) h1) rfl [10, 8, 6] (by kernel_rfl) (by decide)
  have hWW := hW
  generalize phase listed LA.acts = n at hph hWW
  have hk : Kp X.W w := by
    obtain rfl : n = 0 := by omega
    exact hWW
  have hc0 := kpq hk ok.y0
  have hc1 := kpq hk ok.y1
  have hc2 := kpq hk ok.y2
  have hc3 := kpq hk ok.y3
  refine st_pureG hF hC hW ho h2 (by decide) hd hg rfl ?_
  show _ = Result.ok (Next.value (edV ⟨X.t0, X.t1, X.t2, X.t3⟩)) w
  generalize a.eval = ρ at e57 ⊢
  unfold execOp
  rw [hop]
  simp [e57, hc0, hc1, hc2, hc3, go_sem]
theorem LA.s7 (X : LA) (ok : LAOk X) {Q : Exit → Act → World → Prop} : StepG (opsOf 7 Try.f50) LA.acts LA.av X.val0 X.Wd X.a0 Q 7 := by
  intro γ listed a w o hF hC hW h1 ho h2
  obtain ⟨hd, hop, hg⟩ := fields2 (x := some 59) (y := Op.move (.tmp 2)) (z := none) (by kernel_rfl) ho
  have e2 : a.eval (.tmp 2) = .int .i64 X.p := (hF.eval0 (by kernel_rfl)).trans ok.e2
  refine st_pureG hF hC hW ho h2 (by decide) hd hg rfl ?_
  show _ = Result.ok (Next.value (.int .i64 X.p)) w
  generalize a.eval = ρ at e2 ⊢
  unfold execOp
  rw [hop]
  simp [e2, go_sem]
theorem LA.s8 (X : LA) (ok : LAOk X) {Q : Exit → Act → World → Prop} : StepG (opsOf 7 Try.f50) LA.acts LA.av X.val0 X.Wd X.a0 Q 8 := by
  intro γ listed a w o hF hC hW h1 ho h2
  obtain ⟨hd, hop, hg⟩ := fields2 (x := some 60) (y := Op.call { callee := .value (.func 79), args := #[(.tmp 58), (.tmp 59)], argTypes := #[24, 3] }) (z := none) (by kernel_rfl) ho
  have e58 : a.eval (.tmp 58) = edV ⟨X.t0, X.t1, X.t2, X.t3⟩ := slotG hF ho h2 (j := 6) (d := 58) (by kernel_rfl) (by kernel_rfl) (by rw [ok.sz]; decide)
  have e59 : a.eval (.tmp 59) = .int .i64 X.p := slotG hF ho h2 (j := 7) (d := 59) (by kernel_rfl) (by kernel_rfl) (by rw [ok.sz]; decide)
  have ef : a.eval (.func 79) = .func (.func 79) #[] #[] := rfl
  refine st_callG hF hC hW ho h2 (by decide) hd hg rfl (f := 79) (args := #[edV ⟨X.t0, X.t1, X.t2, X.t3⟩, .int .i64 X.p]) ?_ ?_ ?_
  · generalize a.eval = ρ at e58 e59 ef ⊢
    unfold execOp
    rw [hop]
    simp [e58, e59, ef, go_sem]
  · exact sthin w ⟨X.t0, X.t1, X.t2, X.t3⟩ X.p ok.ot ok.hp
  · intro w' hk
    have hz : phase listed LA.acts = 0 := by
      have := phase_leG (acts := LA.acts) (m := 0) (x := 11) hC (unl (hF.lt ho) h1) rfl [10, 8] (by kernel_rfl) (by decide)
      omega
    rw [hz] at hW ⊢
    exact Kp.trans hW hk
theorem LA.s9 (X : LA) (ok : LAOk X) {Q : Exit → Act → World → Prop} : StepG (opsOf 7 Try.f50) LA.acts LA.av X.val0 X.Wd X.a0 Q 9 := by
  intro γ listed a w o hF hC hW h1 ho h2
  obtain ⟨hd, hop, hg⟩ := fields2 (x := some 61) (y := Op.load 24 (.tmp 10)) (z := none) (by kernel_rfl) ho
  have e10 : a.eval (.tmp 10) = .pointer (some ⟨X.bu, 0, none⟩) := (hF.eval0 (by kernel_rfl)).trans ok.e10
  have hph := phase_leG (acts := LA.acts) (m := 0) (x := 11) hC (unl (hF.lt ho) h1) rfl [10, 9] (by kernel_rfl) (by decide)
  have hWW := hW
  generalize phase listed LA.acts = n at hph hWW
  have hk : Kp X.W w := by
    obtain rfl : n = 0 := by omega
    exact hWW
  have hc0 := kpq hk ok.z0
  have hc1 := kpq hk ok.z1
  have hc2 := kpq hk ok.z2
  have hc3 := kpq hk ok.z3
  refine st_pureG hF hC hW ho h2 (by decide) hd hg rfl ?_
  show _ = Result.ok (Next.value (edV ⟨X.u0, X.u1, X.u2, X.u3⟩)) w
  generalize a.eval = ρ at e10 ⊢
  unfold execOp
  rw [hop]
  simp [e10, hc0, hc1, hc2, hc3, go_sem]
theorem LA.s10 (X : LA) (ok : LAOk X) {Q : Exit → Act → World → Prop} : StepG (opsOf 7 Try.f50) LA.acts LA.av X.val0 X.Wd X.a0 Q 10 := by
  intro γ listed a w o hF hC hW h1 ho h2
  obtain ⟨hd, hop, hg⟩ := fields2 (x := some 62) (y := Op.call { callee := .value (.func 59), args := #[(.tmp 60), (.tmp 61)], argTypes := #[24, 24] }) (z := none) (by kernel_rfl) ho
  have e60 : a.eval (.tmp 60) = edV (thinT ⟨X.t0, X.t1, X.t2, X.t3⟩ X.p) := slotG hF ho h2 (j := 8) (d := 60) (by kernel_rfl) (by kernel_rfl) (by rw [ok.sz]; decide)
  have e61 : a.eval (.tmp 61) = edV ⟨X.u0, X.u1, X.u2, X.u3⟩ := slotG hF ho h2 (j := 9) (d := 61) (by kernel_rfl) (by kernel_rfl) (by rw [ok.sz]; decide)
  have ef : a.eval (.func 59) = .func (.func 59) #[] #[] := rfl
  refine st_callG hF hC hW ho h2 (by decide) hd hg rfl (f := 59) (args := #[edV (thinT ⟨X.t0, X.t1, X.t2, X.t3⟩ X.p), edV ⟨X.u0, X.u1, X.u2, X.u3⟩]) ?_ ?_ ?_
  · generalize a.eval = ρ at e60 e61 ef ⊢
    unfold execOp
    rw [hop]
    simp [e60, e61, ef, go_sem]
  · exact sover w (thinT ⟨X.t0, X.t1, X.t2, X.t3⟩ X.p) ⟨X.u0, X.u1, X.u2, X.u3⟩ (ok8_thin ok.ot ok.hp) ok.ou
  · intro w' hk
    have hz : phase listed LA.acts = 0 := by
      have := phase_leG (acts := LA.acts) (m := 0) (x := 11) hC (unl (hF.lt ho) h1) rfl [10] (by kernel_rfl) (by decide)
      omega
    rw [hz] at hW ⊢
    exact Kp.trans hW hk
theorem LA.s11 (X : LA) (ok : LAOk X) {Q : Exit → Act → World → Prop} : StepG (opsOf 7 Try.f50) LA.acts LA.av X.val0 X.Wd X.a0 Q 11 := by
  intro γ listed a w o hF hC hW h1 ho h2
  obtain ⟨hd, hop, hg⟩ := fields2 (x := some 63) (y := Op.buildSlice 55 1 #[(0, (.tmp 62))]) (z := none) (by kernel_rfl) ho
  have e62 : a.eval (.tmp 62) = edV (overT (thinT ⟨X.t0, X.t1, X.t2, X.t3⟩ X.p) ⟨X.u0, X.u1, X.u2, X.u3⟩) := slotG hF ho h2 (j := 10) (d := 62) (by kernel_rfl) (by kernel_rfl) (by rw [ok.sz]; decide)
  have hu := unl (hF.lt ho) h1
  refine st_actG (k := 0) LA.chain LA.nodup rfl hF hC hW h1 ho h2 (Or.inr ⟨63, hd, rfl⟩) (LA.inj (by kernel_rfl) hu) hg ?_
  intro hW0 K hK
  have hr : (execOp a.eval o).run Try.prog w = .ok (.value (.slice (some ⟨w.heap.size, 0, none⟩) 1 1)) (w.alloc (.cells #[.int .i64 (overT (thinT ⟨X.t0, X.t1, X.t2, X.t3⟩ X.p) ⟨X.u0, X.u1, X.u2, X.u3⟩).ax, .int .i64 (overT (thinT ⟨X.t0, X.t1, X.t2, X.t3⟩ X.p) ⟨X.u0, X.u1, X.u2, X.u3⟩).ay, .int .i64 (overT (thinT ⟨X.t0, X.t1, X.t2, X.t3⟩ X.p) ⟨X.u0, X.u1, X.u2, X.u3⟩).bx, .int .i64 (overT (thinT ⟨X.t0, X.t1, X.t2, X.t3⟩ X.p) ⟨X.u0, X.u1, X.u2, X.u3⟩).cy] 24)) := by
    unfold edV at e62
    generalize a.eval = ρ at e62 ⊢
    unfold execOp
    rw [hop]
    simp [e62, go_sem]
  unfold Oper.wp
  rw [hr]
  exact hK _ _ ⟨w, hW0, rfl, rfl⟩
theorem LA.s12 (X : LA) (ok : LAOk X) {Q : Exit → Act → World → Prop} : StepG (opsOf 7 Try.f50) LA.acts LA.av X.val0 X.Wd X.a0 Q 12 := by
  intro γ listed a w o hF hC hW h1 ho h2
  obtain ⟨hd, hop, hg⟩ := fields2 (x := some 64) (y := Op.call { callee := .builtin .append, args := #[(.tmp 53), (.tmp 63)], argTypes := #[55, 55] }) (z := none) (by kernel_rfl) ho
  have e53 : a.eval (.tmp 53) = .slice X.va X.vn X.vc := slotG hF ho h2 (j := 1) (d := 53) (by kernel_rfl) (by kernel_rfl) (by rw [ok.sz]; decide)
  have e63 : a.eval (.tmp 63) = γ 0 := slotG hF ho h2 (j := 11) (d := 63) (by kernel_rfl) (by kernel_rfl) (by rw [ok.sz]; decide)
  have hu := unl (hF.lt ho) h1
  refine st_actG (k := 1) LA.chain LA.nodup rfl hF hC hW h1 ho h2 (Or.inr ⟨64, hd, rfl⟩) (LA.inj (by kernel_rfl) hu) hg ?_
  intro hW0 K hK
  obtain ⟨w1, k1, g0, rfl⟩ := hW0
  rw [g0] at e63
  have lb := ok.cb.nw k1.nw
  have n1 : Nw w1 (w1.alloc (.cells #[.int .i64 (overT (thinT ⟨X.t0, X.t1, X.t2, X.t3⟩ X.p) ⟨X.u0, X.u1, X.u2, X.u3⟩).ax, .int .i64 (overT (thinT ⟨X.t0, X.t1, X.t2, X.t3⟩ X.p) ⟨X.u0, X.u1, X.u2, X.u3⟩).ay, .int .i64 (overT (thinT ⟨X.t0, X.t1, X.t2, X.t3⟩ X.p) ⟨X.u0, X.u1, X.u2, X.u3⟩).bx, .int .i64 (overT (thinT ⟨X.t0, X.t1, X.t2, X.t3⟩ X.p) ⟨X.u0, X.u1, X.u2, X.u3⟩).cy] 24)) := (Below.refl _ _).alloc (Nat.le_refl _) _
  refine wp_e 24 55 Try.underlying55 info_tint _ (.tmp 53) (.tmp 63) hop (X.bx + 1) (.slice X.va X.vn X.vc) X.l (overT (thinT ⟨X.t0, X.t1, X.t2, X.t3⟩ X.p) ⟨X.u0, X.u1, X.u2, X.u3⟩) e53 (lb.own.nw n1) w1.heap.size e63 ⟨by simp, by simp, by simp, by simp⟩ ok.len (by have := lb.lt; simp; omega) ?_
  intro v' w' h3 h4
  exact hK _ _ ⟨w1, k1, h3, n1.ext h4⟩
theorem LA.s13 (X : LA) (ok : LAOk X) {Q : Exit → Act → World → Prop} : StepG (opsOf 7 Try.f50) LA.acts LA.av X.val0 X.Wd X.a0 Q 13 := by
  intro γ listed a w o hF hC hW h1 ho h2
  obtain ⟨hd, hop, hg⟩ := fields2 (x := some 65) (y := Op.fieldAddr 57 (.tmp 8) 2) (z := none) (by kernel_rfl) ho
  have e8 : a.eval (.tmp 8) = .pointer (some ⟨X.bx, 0, none⟩) := (hF.eval0 (by kernel_rfl)).trans ok.e8
  refine st_pureG hF hC hW ho h2 (by decide) hd hg rfl ?_
  show _ = Result.ok (Next.value (.pointer (some ⟨X.bx, 2, none⟩))) w
  generalize a.eval = ρ at e8 ⊢
  unfold execOp
  rw [hop]
  simp [e8, go_sem]
theorem LA.s14 (X : LA) (ok : LAOk X) {Q : Exit → Act → World → Prop} : StepG (opsOf 7 Try.f50) LA.acts LA.av X.val0 X.Wd X.a0 Q 14 := by
  intro γ listed a w o hF hC hW h1 ho h2
  obtain ⟨hd, hop, hg⟩ := fields2 (x := none) (y := Op.store 55 (.tmp 65) (.tmp 64)) (z := none) (by kernel_rfl) ho
  have e65 : a.eval (.tmp 65) = .pointer (some ⟨X.bx, 2, none⟩) := slotG hF ho h2 (j := 13) (d := 65) (by kernel_rfl) (by kernel_rfl) (by rw [ok.sz]; decide)
  have e64 : a.eval (.tmp 64) = γ 1 := slotG hF ho h2 (j := 12) (d := 64) (by kernel_rfl) (by kernel_rfl) (by rw [ok.sz]; decide)
  have hu := unl (hF.lt ho) h1
  refine st_actG (k := 2) LA.chain LA.nodup rfl hF hC hW h1 ho h2 (Or.inl hd) (LA.inj (by kernel_rfl) hu) hg ?_
  intro hW0 K hK
  obtain ⟨w1, k1, o1, x1⟩ := hW0
  obtain ⟨t0, tf⟩ := (ok.cb.nw k1.nw).there x1
  obtain ⟨sa, sn, sc, g1⟩ := o1.slice
  have hr : (execOp a.eval o).run Try.prog w = .ok .skip (w.setCell ⟨X.bx, 2, none⟩ (γ 1)) := by
    rw [g1] at e64 ⊢
    generalize a.eval = ρ at e64 e65 ⊢
    unfold execOp
    rw [hop]
    simp [e64, e65, t0, tf, go_sem]
  unfold Oper.wp
  rw [hr]
  exact hK _ _ ⟨w1, w, k1, o1, x1, rfl⟩
theorem LA.size : (opsOf 7 Try.f50).size = 15 := by kernel_rfl
theorem LA.steps (X : LA) (ok : LAOk X) {Q : Exit → Act → World → Prop} (i : Nat) (hi : i < (opsOf 7 Try.f50).size) : StepG (opsOf 7 Try.f50) LA.acts LA.av X.val0 X.Wd X.a0 Q i := by
  rw [LA.size] at hi
  have hc : i = 0 ∨ i = 1 ∨ i = 2 ∨ i = 3 ∨ i = 4 ∨ i = 5 ∨ i = 6 ∨ i = 7 ∨ i = 8 ∨ i = 9 ∨ i = 10 ∨ i = 11 ∨ i = 12 ∨ i = 13 ∨ i = 14 := by omega
  rcases hc with rfl | rfl | rfl | rfl | rfl | rfl | rfl | rfl | rfl | rfl | rfl | rfl | rfl | rfl | rfl
  · exact LA.s0 X ok
  · exact LA.s1 X ok
  · exact LA.s2 X ok
  · exact LA.s3 X ok
  · exact LA.s4 X ok
  · exact LA.s5 X ok
  · exact LA.s6 X ok
  · exact LA.s7 X ok
  · exact LA.s8 X ok
  · exact LA.s9 X ok
  · exact LA.s10 X ok
  · exact LA.s11 X ok
  · exact LA.s12 X ok
  · exact LA.s13 X ok
  · exact LA.s14 X ok
theorem LA.puts (X : LA) (γ : Nat → Value) (a0 : Act) : putsL (valG LA.av X.val0 γ) (opsOf 7 Try.f50).toList a0 = ((((((((((((((a0.put (some 52) (.pointer (some ⟨X.bx, 2, none⟩))).put (some 53) (.slice X.va X.vn X.vc)).put (some 54) (.pointer (some ⟨X.bt, 2, none⟩))).put (some 55) (.slice (some ⟨X.gb, X.go, none⟩) X.bn X.bc)).put (some 56) (.int .i64 (X.k : Int))).put (some 57) (.pointer (some ⟨X.gb, X.go + X.k * 4, none⟩))).put (some 58) (edV ⟨X.t0, X.t1, X.t2, X.t3⟩)).put (some 59) (.int .i64 X.p)).put (some 60) (edV (thinT ⟨X.t0, X.t1, X.t2, X.t3⟩ X.p))).put (some 61) (edV ⟨X.u0, X.u1, X.u2, X.u3⟩)).put (some 62) (edV (overT (thinT ⟨X.t0, X.t1, X.t2, X.t3⟩ X.p) ⟨X.u0, X.u1, X.u2, X.u3⟩))).put (some 63) (γ 0)).put (some 64) (γ 1)).put (some 65) (.pointer (some ⟨X.bx, 2, none⟩))) := by kernel_rfl
/-- The region, whatever order comes up. -/
theorem LA.run (X : LA) (ok : LAOk X) {Q : Exit → Act → World → Prop} (w : World) (h0 : X.Wd 0 (fun _ => undef) w.drew) (hend : ∀ (γ : Nat → Value) w', X.Wd 3 γ w' → Q .normal ((((((((((((((X.a0.put (some 52) (.pointer (some ⟨X.bx, 2, none⟩))).put (some 53) (.slice X.va X.vn X.vc)).put (some 54) (.pointer (some ⟨X.bt, 2, none⟩))).put (some 55) (.slice (some ⟨X.gb, X.go, none⟩) X.bn X.bc)).put (some 56) (.int .i64 (X.k : Int))).put (some 57) (.pointer (some ⟨X.gb, X.go + X.k * 4, none⟩))).put (some 58) (edV ⟨X.t0, X.t1, X.t2, X.t3⟩)).put (some 59) (.int .i64 X.p)).put (some 60) (edV (thinT ⟨X.t0, X.t1, X.t2, X.t3⟩ X.p))).put (some 61) (edV ⟨X.u0, X.u1, X.u2, X.u3⟩)).put (some 62) (edV (overT (thinT ⟨X.t0, X.t1, X.t2, X.t3⟩ X.p) ⟨X.u0, X.u1, X.u2, X.u3⟩))).put (some 63) (γ 0)).put (some 64) (γ 1)).put (some 65) (.pointer (some ⟨X.bx, 2, none⟩))) w') : (Code.region 7 (opsOf 7 Try.f50) true).wp Try.prog Q X.a0 w := by
  refine reg_act (acts := LA.acts) (av := LA.av) (val0 := X.val0) (Wd := X.Wd) (by kernel_rfl) (by kernel_rfl) (by rw [LA.size]; decide) (fun i hi => LA.steps X ok i hi) _ h0 ?_
  intro γ w' h
  rw [LA.puts]
  exact hend γ w' h
structure LB where
  bx : Nat
  bt : Nat
  bu : Nat
  bm : Nat
  m : Int
  q : MD
  va : Option Addr
  vn : Nat
  vc : Nat
  l : List Edg
  gb : Nat
  go : Nat
  bn : Nat
  bc : Nat
  k : Nat
  t0 : Int
  t1 : Int
  t2 : Int
  t3 : Int
  u0 : Int
  u1 : Int
  u2 : Int
  u3 : Int
  W : World
  a0 : Act
structure LBOk (X : LB) : Prop where
  cb : CvQ X.bx X.W X.q (.slice X.va X.vn X.vc) X.l
  len : X.l.length ≤ 1000000
  cc : X.W.cell? ⟨X.bm, 2, none⟩ = some (.slice (some ⟨X.gb, X.go, none⟩) X.bn X.bc)
  hk : X.k < X.bn
  cm : X.W.cell? ⟨X.gb, X.go + X.k, none⟩ = some (.int .i64 X.m)
  wm : IntKind.i64.wrap (16 * X.m) = 16 * X.m
  y0 : X.W.cell? ⟨X.bt, 0, none⟩ = some (.int .i64 X.t0)
  y1 : X.W.cell? ⟨X.bt, 1, none⟩ = some (.int .i64 X.t1)
  y2 : X.W.cell? ⟨X.bt, 2, none⟩ = some (.int .i64 X.t2)
  y3 : X.W.cell? ⟨X.bt, 3, none⟩ = some (.int .i64 X.t3)
  z0 : X.W.cell? ⟨X.bu, 0, none⟩ = some (.int .i64 X.u0)
  z1 : X.W.cell? ⟨X.bu, 1, none⟩ = some (.int .i64 X.u1)
  z2 : X.W.cell? ⟨X.bu, 2, none⟩ = some (.int .i64 X.u2)
  z3 : X.W.cell? ⟨X.bu, 3, none⟩ = some (.int .i64 X.u3)
  ot : ok8 X.t0 ∧ ok8 X.t1 ∧ ok8 X.t2 ∧ ok8 X.t3
  ou : ok8 X.u0 ∧ ok8 X.u1 ∧ ok8 X.u2 ∧ ok8 X.u3
  hp : 0 ≤ (16 * X.m) ∧ (16 * X.m) ≤ 256
  e4 : X.a0.eval (.tmp 4) = .pointer (some ⟨X.bm, 0, none⟩)
  e5 : X.a0.eval (.tmp 5) = .pointer (some ⟨X.bt, 0, none⟩)
  e8 : X.a0.eval (.tmp 8) = .pointer (some ⟨X.bx, 0, none⟩)
  e9 : X.a0.eval (.tmp 9) = .int .i64 (X.k : Int)
  e10 : X.a0.eval (.tmp 10) = .pointer (some ⟨X.bu, 0, none⟩)
  sz : X.a0.tmps.size = 69
def LB.val0 (X : LB) : Nat → Value
  | 52 => .pointer (some ⟨X.bx, 2, none⟩)
  | 53 => .slice X.va X.vn X.vc
  | 54 => edV ⟨X.t0, X.t1, X.t2, X.t3⟩
  | 55 => .pointer (some ⟨X.bm, 2, none⟩)
  | 56 => .slice (some ⟨X.gb, X.go, none⟩) X.bn X.bc
  | 57 => .int .i64 (X.k : Int)
  | 58 => .pointer (some ⟨X.gb, X.go + X.k, none⟩)
  | 59 => .int .i64 X.m
  | 60 => .int .i64 (16 * X.m)
  | 61 => edV (thinT ⟨X.t0, X.t1, X.t2, X.t3⟩ (16 * X.m))
  | 62 => edV ⟨X.u0, X.u1, X.u2, X.u3⟩
  | 63 => edV (overT (thinT ⟨X.t0, X.t1, X.t2, X.t3⟩ (16 * X.m)) ⟨X.u0, X.u1, X.u2, X.u3⟩)
  | 66 => .pointer (some ⟨X.bx, 2, none⟩)
  | _ => undef
def LB.av : Nat → Option Nat
  | 64 => some 0
  | 65 => some 1
  | _ => none
def LB.acts : List Nat := [12, 13, 15]
/-- The world, by how many of the acting ones have come up. -/
def LB.Wd (X : LB) : Nat → (Nat → Value) → World → Prop
  | 0, _, w => Kp X.W w
  | 1, γ, w => ∃ w1, Kp X.W w1 ∧ γ 0 = .slice (some ⟨w1.heap.size, 0, none⟩) 1 1 ∧ w = w1.alloc (.cells #[.int .i64 (overT (thinT ⟨X.t0, X.t1, X.t2, X.t3⟩ (16 * X.m)) ⟨X.u0, X.u1, X.u2, X.u3⟩).ax, .int .i64 (overT (thinT ⟨X.t0, X.t1, X.t2, X.t3⟩ (16 * X.m)) ⟨X.u0, X.u1, X.u2, X.u3⟩).ay, .int .i64 (overT (thinT ⟨X.t0, X.t1, X.t2, X.t3⟩ (16 * X.m)) ⟨X.u0, X.u1, X.u2, X.u3⟩).bx, .int .i64 (overT (thinT ⟨X.t0, X.t1, X.t2, X.t3⟩ (16 * X.m)) ⟨X.u0, X.u1, X.u2, X.u3⟩).cy] 24)
  | 2, γ, w => ∃ w1, Kp X.W w1 ∧ OwnE 24 w (X.bx + 1) (γ 1) (X.l ++ [(overT (thinT ⟨X.t0, X.t1, X.t2, X.t3⟩ (16 * X.m)) ⟨X.u0, X.u1, X.u2, X.u3⟩)]) ∧ Ext (.slice X.va X.vn X.vc) (γ 1) w1 w
  | _, γ, w => ∃ w1 w2, Kp X.W w1 ∧ OwnE 24 w2 (X.bx + 1) (γ 1) (X.l ++ [(overT (thinT ⟨X.t0, X.t1, X.t2, X.t3⟩ (16 * X.m)) ⟨X.u0, X.u1, X.u2, X.u3⟩)]) ∧ Ext (.slice X.va X.vn X.vc) (γ 1) w1 w2 ∧ w = w2.setCell ⟨X.bx, 2, none⟩ (γ 1)
theorem LB.chain : chainG (opsOf 7 Try.f45) LB.acts = true := by kernel_rfl
theorem LB.nodup : LB.acts.Nodup := by decide
theorem LB.inj {listed : Array Bool} {i k : Nat} (h : (List.range (opsOf 7 Try.f45).size).all (fun j => decide (j = i) || !(match dstOf (opsOf 7 Try.f45) j with | some d => decide (LB.av d = some k) | none => false)) = true) (hu : listed.getD i false = false) : ∀ d, got (opsOf 7 Try.f45) listed d → LB.av d ≠ some k := by
  rintro d ⟨j, h1, h2⟩ h3
  have hlt : j < (opsOf 7 Try.f45).size := by
    rcases Nat.lt_or_ge j (opsOf 7 Try.f45).size with h4 | h4
    · exact h4
    · unfold dstOf at h2; rw [Array.getElem?_eq_none h4] at h2; cases h2
  have h5 := List.all_eq_true.1 h j (List.mem_range.2 hlt)
  rw [h2] at h5
  simp only [h3, decide_true, Bool.not_true, Bool.or_false, decide_eq_true_eq] at h5
  subst h5
  rw [hu] at h1
  cases h1
theorem LB.s0 (X : LB) (ok : LBOk X) {Q : Exit → Act → World → Prop} : StepG (opsOf 7 Try.f45) LB.acts LB.av X.val0 X.Wd X.a0 Q 0 := by
  intro γ listed a w o hF hC hW h1 ho h2
  obtain ⟨hd, hop, hg⟩ := fields2 (x := some 52) (y := Op.fieldAddr 57 (.tmp 8) 2) (z := none) (by kernel_rfl) ho
  have e8 : a.eval (.tmp 8) = .pointer (some ⟨X.bx, 0, none⟩) := (hF.eval0 (by kernel_rfl)).trans ok.e8
  refine st_pureG hF hC hW ho h2 (by decide) hd hg rfl ?_
  show _ = Result.ok (Next.value (.pointer (some ⟨X.bx, 2, none⟩))) w
  generalize a.eval = ρ at e8 ⊢
  unfold execOp
  rw [hop]
  simp [e8, go_sem]
theorem LB.s1 (X : LB) (ok : LBOk X) {Q : Exit → Act → World → Prop} : StepG (opsOf 7 Try.f45) LB.acts LB.av X.val0 X.Wd X.a0 Q 1 := by
  intro γ listed a w o hF hC hW h1 ho h2
  obtain ⟨hd, hop, hg⟩ := fields2 (x := some 53) (y := Op.load 55 (.tmp 52)) (z := none) (by kernel_rfl) ho
  have e52 : a.eval (.tmp 52) = .pointer (some ⟨X.bx, 2, none⟩) := slotG hF ho h2 (j := 0) (d := 52) (by kernel_rfl) (by kernel_rfl) (by rw [ok.sz]; decide)
  have hph := phase_leG (acts := LB.acts) (m := 1) (x := 13) hC (unl (hF.lt ho) h1) rfl [1] (by kernel_rfl) (by decide)
  have hWW := hW
  generalize phase listed LB.acts = n at hph hWW
  have hk : Nw X.W w := by
    rcases (show n = 0 ∨ n = 1 by omega) with rfl | rfl
    · exact hWW.nw
    · obtain ⟨w1, k1, _, rfl⟩ := hWW
      exact Nw.trans k1.nw ((Below.refl _ _).alloc (Nat.le_refl _) _)
  have hc := (ok.cb.nw hk).c2
  refine st_pureG hF hC hW ho h2 (by decide) hd hg rfl ?_
  show _ = Result.ok (Next.value (.slice X.va X.vn X.vc)) w
  generalize a.eval = ρ at e52 ⊢
  unfold execOp
  rw [hop]
  simp [e52, hc, go_sem]
theorem LB.s2 (X : LB) (ok : LBOk X) {Q : Exit → Act → World → Prop} : StepG (opsOf 7 Try.f45) LB.acts LB.av X.val0 X.Wd X.a0 Q 2 := by
  intro γ listed a w o hF hC hW h1 ho h2
  obtain ⟨hd, hop, hg⟩ := fields2 (x := some 54) (y := Op.load 24 (.tmp 5)) (z := none) (by kernel_rfl) ho
  have e5 : a.eval (.tmp 5) = .pointer (some ⟨X.bt, 0, none⟩) := (hF.eval0 (by kernel_rfl)).trans ok.e5
  have hph := phase_leG (acts := LB.acts) (m := 0) (x := 12) hC (unl (hF.lt ho) h1) rfl [11, 9, 2] (by kernel_rfl) (by decide)
  have hWW := hW
  generalize phase listed LB.acts = n at hph hWW
  have hk : Kp X.W w := by
    obtain rfl : n = 0 := by omega
    exact hWW
  have hc0 := kpq hk ok.y0
  have hc1 := kpq hk ok.y1
  have hc2 := kpq hk ok.y2
  have hc3 := kpq hk ok.y3
  refine st_pureG hF hC hW ho h2 (by decide) hd hg rfl ?_
  show _ = Result.ok (Next.value (edV ⟨X.t0, X.t1, X.t2, X.t3⟩)) w
  generalize a.eval = ρ at e5 ⊢
  unfold execOp
  rw [hop]
  simp [e5, hc0, hc1, hc2, hc3, go_sem]
theorem LB.s3 (X : LB) (ok : LBOk X) {Q : Exit → Act → World → Prop} : StepG (opsOf 7 Try.f45) LB.acts LB.av X.val0 X.Wd X.a0 Q 3 := by
  intro γ listed a w o hF hC hW h1 ho h2
  obtain ⟨hd, hop, hg⟩ := fields2 (x := some 55) (y := Op.fieldAddr 75 (.tmp 4) 2) (z := none) (by kernel_rfl) ho
  have e4 : a.eval (.tmp 4) = .pointer (some ⟨X.bm, 0, none⟩) := (hF.eval0 (by kernel_rfl)).trans ok.e4
  refine st_pureG hF hC hW ho h2 (by decide) hd hg rfl ?_
  show _ = Result.ok (Next.value (.pointer (some ⟨X.bm, 2, none⟩))) w
  generalize a.eval = ρ at e4 ⊢
  unfold execOp
  rw [hop]
  simp [e4, go_sem]
theorem LB.s4 (X : LB) (ok : LBOk X) {Q : Exit → Act → World → Prop} : StepG (opsOf 7 Try.f45) LB.acts LB.av X.val0 X.Wd X.a0 Q 4 := by
  intro γ listed a w o hF hC hW h1 ho h2
  obtain ⟨hd, hop, hg⟩ := fields2 (x := some 56) (y := Op.load 70 (.tmp 55)) (z := none) (by kernel_rfl) ho
  have e55 : a.eval (.tmp 55) = .pointer (some ⟨X.bm, 2, none⟩) := slotG hF ho h2 (j := 3) (d := 55) (by kernel_rfl) (by kernel_rfl) (by rw [ok.sz]; decide)
  have hph := phase_leG (acts := LB.acts) (m := 0) (x := 12) hC (unl (hF.lt ho) h1) rfl [11, 9, 8, 7, 6, 4] (by kernel_rfl) (by decide)
  have hWW := hW
  generalize phase listed LB.acts = n at hph hWW
  have hk : Kp X.W w := by
    obtain rfl : n = 0 := by omega
    exact hWW
  have hc0 := kpq hk ok.cc
  refine st_pureG hF hC hW ho h2 (by decide) hd hg rfl ?_
  show _ = Result.ok (Next.value (.slice (some ⟨X.gb, X.go, none⟩) X.bn X.bc)) w
  generalize a.eval = ρ at e55 ⊢
  unfold execOp
  rw [hop]
  simp [e55, hc0, go_sem]
theorem LB.s5 (X : LB) (ok : LBOk X) {Q : Exit → Act → World → Prop} : StepG (opsOf 7 Try.f45) LB.acts LB.av X.val0 X.Wd X.a0 Q 5 := by
  intro γ listed a w o hF hC hW h1 ho h2
  obtain ⟨hd, hop, hg⟩ := fields2 (x := some 57) (y := Op.move (.tmp 9)) (z := none) (by kernel_rfl) ho
  have e9 : a.eval (.tmp 9) = .int .i64 (X.k : Int) := (hF.eval0 (by kernel_rfl)).trans ok.e9
  refine st_pureG hF hC hW ho h2 (by decide) hd hg rfl ?_
  show _ = Result.ok (Next.value (.int .i64 (X.k : Int))) w
  generalize a.eval = ρ at e9 ⊢
  unfold execOp
  rw [hop]
  simp [e9, go_sem]
theorem LB.s6 (X : LB) (ok : LBOk X) {Q : Exit → Act → World → Prop} : StepG (opsOf 7 Try.f45) LB.acts LB.av X.val0 X.Wd X.a0 Q 6 := by
  intro γ listed a w o hF hC hW h1 ho h2
  obtain ⟨hd, hop, hg⟩ := fields2 (x := some 58) (y := Op.indexAddr 70 (.tmp 56) (.tmp 57)) (z := none) (by kernel_rfl) ho
  have e56 : a.eval (.tmp 56) = .slice (some ⟨X.gb, X.go, none⟩) X.bn X.bc := slotG hF ho h2 (j := 4) (d := 56) (by kernel_rfl) (by kernel_rfl) (by rw [ok.sz]; decide)
  have e57 : a.eval (.tmp 57) = .int .i64 (X.k : Int) := slotG hF ho h2 (j := 5) (d := 57) (by kernel_rfl) (by kernel_rfl) (by rw [ok.sz]; decide)
  have hkk := ok.hk
  refine st_pureG hF hC hW ho h2 (by decide) hd hg rfl ?_
  show _ = Result.ok (Next.value (.pointer (some ⟨X.gb, X.go + X.k, none⟩))) w
  generalize a.eval = ρ at e56 e57 ⊢
  unfold execOp
  rw [hop]
  simp [e56, e57, hkk, go_sem]
theorem LB.s7 (X : LB) (ok : LBOk X) {Q : Exit → Act → World → Prop} : StepG (opsOf 7 Try.f45) LB.acts LB.av X.val0 X.Wd X.a0 Q 7 := by
  intro γ listed a w o hF hC hW h1 ho h2
  obtain ⟨hd, hop, hg⟩ := fields2 (x := some 59) (y := Op.load 3 (.tmp 58)) (z := none) (by kernel_rfl) ho
  have e58 : a.eval (.tmp 58) = .pointer (some ⟨X.gb, X.go + X.k, none⟩) := slotG hF ho h2 (j := 6) (d := 58) (by kernel_rfl) (by kernel_rfl) (by rw [ok.sz]; decide)
  have hph := phase_leG (acts := LB.acts) (m := 0) (x := 12) hC (unl (hF.lt ho) h1) rfl [11, 9, 8, 7] (by kernel_rfl) (by decide)
  have hWW := hW
  generalize phase listed LB.acts = n at hph hWW
  have hk : Kp X.W w := by
    obtain rfl : n = 0 := by omega
    exact hWW
  have hc0 := kpq hk ok.cm
  refine st_pureG hF hC hW ho h2 (by decide) hd hg rfl ?_
  show _ = Result.ok (Next.value (.int .i64 X.m)) w
  generalize a.eval = ρ at e58 ⊢
  unfold execOp
  rw [hop]
  simp [e58, hc0, go_sem]
theorem LB.s8 (X : LB) (ok : LBOk X) {Q : Exit → Act → World → Prop} : StepG (opsOf 7 Try.f45) LB.acts LB.av X.val0 X.Wd X.a0 Q 8 := by
  intro γ listed a w o hF hC hW h1 ho h2
  obtain ⟨hd, hop, hg⟩ := fields2 (x := some 60) (y := Op.binOp .mul 3 (.const (.int .i64 16)) (.tmp 59) 3) (z := none) (by kernel_rfl) ho
  have ec0 : a.eval (.const (.int .i64 16)) = .int .i64 16 := rfl
  have e59 : a.eval (.tmp 59) = .int .i64 X.m := slotG hF ho h2 (j := 7) (d := 59) (by kernel_rfl) (by kernel_rfl) (by rw [ok.sz]; decide)
  refine st_pureG hF hC hW ho h2 (by decide) hd hg rfl ?_
  show _ = Result.ok (Next.value (.int .i64 (16 * X.m))) w
  generalize a.eval = ρ at ec0 e59 ⊢
  unfold execOp
  rw [hop]
  simp [ec0, e59, ok.wm, go_sem]
theorem LB.s9 (X : LB) (ok : LBOk X) {Q : Exit → Act → World → Prop} : StepG (opsOf 7 Try.f45) LB.acts LB.av X.val0 X.Wd X.a0 Q 9 := by
  intro γ listed a w o hF hC hW h1 ho h2
  obtain ⟨hd, hop, hg⟩ := fields2 (x := some 61) (y := Op.call { callee := .value (.func 79), args := #[(.tmp 54), (.tmp 60)], argTypes := #[24, 3] }) (z := none) (by kernel_rfl) ho
  have e54 : a.eval (.tmp 54) = edV ⟨X.t0, X.t1, X.t2, X.t3⟩ := slotG hF ho h2 (j := 2) (d := 54) (by kernel_rfl) (by kernel_rfl) (by rw [ok.sz]; decide)
  have e60 : a.eval (.tmp 60) = .int .i64 (16 * X.m) := slotG hF ho h2 (j := 8) (d := 60) (by kernel_rfl) (by kernel_rfl) (by rw [ok.sz]; decide)
  have ef : a.eval (.func 79) = .func (.func 79) #[] #[] := rfl
  refine st_callG hF hC hW ho h2 (by decide) hd hg rfl (f := 79) (args := #[edV ⟨X.t0, X.t1, X.t2, X.t3⟩, .int .i64 (16 * X.m)]) ?_ ?_ ?_
  · generalize a.eval = ρ at e54 e60 ef ⊢
    unfold execOp
    rw [hop]
    simp [e54, e60, ef, go_sem]
  · exact sthin w ⟨X.t0, X.t1, X.t2, X.t3⟩ (16 * X.m) ok.ot ok.hp
  · intro w' hk
    have hz : phase listed LB.acts = 0 := by
      have := phase_leG (acts := LB.acts) (m := 0) (x := 12) hC (unl (hF.lt ho) h1) rfl [11, 9] (by kernel_rfl) (by decide)
      omega
    rw [hz] at hW ⊢
    exact Kp.trans hW hk
theorem LB.s10 (X : LB) (ok : LBOk X) {Q : Exit → Act → World → Prop} : StepG (opsOf 7 Try.f45) LB.acts LB.av X.val0 X.Wd X.a0 Q 10 := by
  intro γ listed a w o hF hC hW h1 ho h2
  obtain ⟨hd, hop, hg⟩ := fields2 (x := some 62) (y := Op.load 24 (.tmp 10)) (z := none) (by kernel_rfl) ho
  have e10 : a.eval (.tmp 10) = .pointer (some ⟨X.bu, 0, none⟩) := (hF.eval0 (by kernel_rfl)).trans ok.e10
  have hph := phase_leG (acts := LB.acts) (m := 0) (x := 12) hC (unl (hF.lt ho) h1) rfl [11, 10] (by kernel_rfl) (by decide)
  have hWW := hW
  generalize phase listed LB.acts = n at hph hWW
  have hk : Kp X.W w := by
    obtain rfl : n = 0 := by omega
    exact hWW
  have hc0 := kpq hk ok.z0
  have hc1 := kpq hk ok.z1
  have hc2 := kpq hk ok.z2
  have hc3 := kpq hk ok.z3
  refine st_pureG hF hC hW ho h2 (by decide) hd hg rfl ?_
  show _ = Result.ok (Next.value (edV ⟨X.u0, X.u1, X.u2, X.u3⟩)) w
  generalize a.eval = ρ at e10 ⊢
  unfold execOp
  rw [hop]
  simp [e10, hc0, hc1, hc2, hc3, go_sem]
theorem LB.s11 (X : LB) (ok : LBOk X) {Q : Exit → Act → World → Prop} : StepG (opsOf 7 Try.f45) LB.acts LB.av X.val0 X.Wd X.a0 Q 11 := by
  intro γ listed a w o hF hC hW h1 ho h2
  obtain ⟨hd, hop, hg⟩ := fields2 (x := some 63) (y := Op.call { callee := .value (.func 59), args := #[(.tmp 61), (.tmp 62)], argTypes := #[24, 24] }) (z := none) (by kernel_rfl) ho
  have e61 : a.eval (.tmp 61) = edV (thinT ⟨X.t0, X.t1, X.t2, X.t3⟩ (16 * X.m)) := slotG hF ho h2 (j := 9) (d := 61) (by kernel_rfl) (by kernel_rfl) (by rw [ok.sz]; decide)
  have e62 : a.eval (.tmp 62) = edV ⟨X.u0, X.u1, X.u2, X.u3⟩ := slotG hF ho h2 (j := 10) (d := 62) (by kernel_rfl) (by kernel_rfl) (by rw [ok.sz]; decide)
  have ef : a.eval (.func 59) = .func (.func 59) #[] #[] := rfl
  refine st_callG hF hC hW ho h2 (by decide) hd hg rfl (f := 59) (args := #[edV (thinT ⟨X.t0, X.t1, X.t2, X.t3⟩ (16 * X.m)), edV ⟨X.u0, X.u1, X.u2, X.u3⟩]) ?_ ?_ ?_
  · generalize a.eval = ρ at e61 e62 ef ⊢
    unfold execOp
    rw [hop]
    simp [e61, e62, ef, go_sem]
  · exact sover w (thinT ⟨X.t0, X.t1, X.t2, X.t3⟩ (16 * X.m)) ⟨X.u0, X.u1, X.u2, X.u3⟩ (ok8_thin ok.ot ok.hp) ok.ou
  · intro w' hk
    have hz : phase listed LB.acts = 0 := by
      have := phase_leG (acts := LB.acts) (m := 0) (x := 12) hC (unl (hF.lt ho) h1) rfl [11] (by kernel_rfl) (by decide)
      omega
    rw [hz] at hW ⊢
    exact Kp.trans hW hk
theorem LB.s12 (X : LB) (ok : LBOk X) {Q : Exit → Act → World → Prop} : StepG (opsOf 7 Try.f45) LB.acts LB.av X.val0 X.Wd X.a0 Q 12 := by
  intro γ listed a w o hF hC hW h1 ho h2
  obtain ⟨hd, hop, hg⟩ := fields2 (x := some 64) (y := Op.buildSlice 55 1 #[(0, (.tmp 63))]) (z := none) (by kernel_rfl) ho
  have e63 : a.eval (.tmp 63) = edV (overT (thinT ⟨X.t0, X.t1, X.t2, X.t3⟩ (16 * X.m)) ⟨X.u0, X.u1, X.u2, X.u3⟩) := slotG hF ho h2 (j := 11) (d := 63) (by kernel_rfl) (by kernel_rfl) (by rw [ok.sz]; decide)
  have hu := unl (hF.lt ho) h1
  refine st_actG (k := 0) LB.chain LB.nodup rfl hF hC hW h1 ho h2 (Or.inr ⟨64, hd, rfl⟩) (LB.inj (by kernel_rfl) hu) hg ?_
  intro hW0 K hK
  have hr : (execOp a.eval o).run Try.prog w = .ok (.value (.slice (some ⟨w.heap.size, 0, none⟩) 1 1)) (w.alloc (.cells #[.int .i64 (overT (thinT ⟨X.t0, X.t1, X.t2, X.t3⟩ (16 * X.m)) ⟨X.u0, X.u1, X.u2, X.u3⟩).ax, .int .i64 (overT (thinT ⟨X.t0, X.t1, X.t2, X.t3⟩ (16 * X.m)) ⟨X.u0, X.u1, X.u2, X.u3⟩).ay, .int .i64 (overT (thinT ⟨X.t0, X.t1, X.t2, X.t3⟩ (16 * X.m)) ⟨X.u0, X.u1, X.u2, X.u3⟩).bx, .int .i64 (overT (thinT ⟨X.t0, X.t1, X.t2, X.t3⟩ (16 * X.m)) ⟨X.u0, X.u1, X.u2, X.u3⟩).cy] 24)) := by
    unfold edV at e63
    generalize a.eval = ρ at e63 ⊢
    unfold execOp
    rw [hop]
    simp [e63, go_sem]
  unfold Oper.wp
  rw [hr]
  exact hK _ _ ⟨w, hW0, rfl, rfl⟩
theorem LB.s13 (X : LB) (ok : LBOk X) {Q : Exit → Act → World → Prop} : StepG (opsOf 7 Try.f45) LB.acts LB.av X.val0 X.Wd X.a0 Q 13 := by
  intro γ listed a w o hF hC hW h1 ho h2
  obtain ⟨hd, hop, hg⟩ := fields2 (x := some 65) (y := Op.call { callee := .builtin .append, args := #[(.tmp 53), (.tmp 64)], argTypes := #[55, 55] }) (z := none) (by kernel_rfl) ho
  have e53 : a.eval (.tmp 53) = .slice X.va X.vn X.vc := slotG hF ho h2 (j := 1) (d := 53) (by kernel_rfl) (by kernel_rfl) (by rw [ok.sz]; decide)
  have e64 : a.eval (.tmp 64) = γ 0 := slotG hF ho h2 (j := 12) (d := 64) (by kernel_rfl) (by kernel_rfl) (by rw [ok.sz]; decide)
  have hu := unl (hF.lt ho) h1
  refine st_actG (k := 1) LB.chain LB.nodup rfl hF hC hW h1 ho h2 (Or.inr ⟨65, hd, rfl⟩) (LB.inj (by kernel_rfl) hu) hg ?_
  intro hW0 K hK
  obtain ⟨w1, k1, g0, rfl⟩ := hW0
  rw [g0] at e64
  have lb := ok.cb.nw k1.nw
  have n1 : Nw w1 (w1.alloc (.cells #[.int .i64 (overT (thinT ⟨X.t0, X.t1, X.t2, X.t3⟩ (16 * X.m)) ⟨X.u0, X.u1, X.u2, X.u3⟩).ax, .int .i64 (overT (thinT ⟨X.t0, X.t1, X.t2, X.t3⟩ (16 * X.m)) ⟨X.u0, X.u1, X.u2, X.u3⟩).ay, .int .i64 (overT (thinT ⟨X.t0, X.t1, X.t2, X.t3⟩ (16 * X.m)) ⟨X.u0, X.u1, X.u2, X.u3⟩).bx, .int .i64 (overT (thinT ⟨X.t0, X.t1, X.t2, X.t3⟩ (16 * X.m)) ⟨X.u0, X.u1, X.u2, X.u3⟩).cy] 24)) := (Below.refl _ _).alloc (Nat.le_refl _) _
  refine wp_e 24 55 Try.underlying55 info_tint _ (.tmp 53) (.tmp 64) hop (X.bx + 1) (.slice X.va X.vn X.vc) X.l (overT (thinT ⟨X.t0, X.t1, X.t2, X.t3⟩ (16 * X.m)) ⟨X.u0, X.u1, X.u2, X.u3⟩) e53 (lb.own.nw n1) w1.heap.size e64 ⟨by simp, by simp, by simp, by simp⟩ ok.len (by have := lb.lt; simp; omega) ?_
  intro v' w' h3 h4
  exact hK _ _ ⟨w1, k1, h3, n1.ext h4⟩
theorem LB.s14 (X : LB) (ok : LBOk X) {Q : Exit → Act → World → Prop} : StepG (opsOf 7 Try.f45) LB.acts LB.av X.val0 X.Wd X.a0 Q 14 := by
  intro γ listed a w o hF hC hW h1 ho h2
  obtain ⟨hd, hop, hg⟩ := fields2 (x := some 66) (y := Op.fieldAddr 57 (.tmp 8) 2) (z := none) (by kernel_rfl) ho
  have e8 : a.eval (.tmp 8) = .pointer (some ⟨X.bx, 0, none⟩) := (hF.eval0 (by kernel_rfl)).trans ok.e8
  refine st_pureG hF hC hW ho h2 (by decide) hd hg rfl ?_
  show _ = Result.ok (Next.value (.pointer (some ⟨X.bx, 2, none⟩))) w
  generalize a.eval = ρ at e8 ⊢
  unfold execOp
  rw [hop]
  simp [e8, go_sem]
theorem LB.s15 (X : LB) (ok : LBOk X) {Q : Exit → Act → World → Prop} : StepG (opsOf 7 Try.f45) LB.acts LB.av X.val0 X.Wd X.a0 Q 15 := by
  intro γ listed a w o hF hC hW h1 ho h2
  obtain ⟨hd, hop, hg⟩ := fields2 (x := none) (y := Op.store 55 (.tmp 66) (.tmp 65)) (z := none) (by kernel_rfl) ho
  have e66 : a.eval (.tmp 66) = .pointer (some ⟨X.bx, 2, none⟩) := slotG hF ho h2 (j := 14) (d := 66) (by kernel_rfl) (by kernel_rfl) (by rw [ok.sz]; decide)
  have e65 : a.eval (.tmp 65) = γ 1 := slotG hF ho h2 (j := 13) (d := 65) (by kernel_rfl) (by kernel_rfl) (by rw [ok.sz]; decide)
  have hu := unl (hF.lt ho) h1
  refine st_actG (k := 2) LB.chain LB.nodup rfl hF hC hW h1 ho h2 (Or.inl hd) (LB.inj (by kernel_rfl) hu) hg ?_
  intro hW0 K hK
  obtain ⟨w1, k1, o1, x1⟩ := hW0
  obtain ⟨t0, tf⟩ := (ok.cb.nw k1.nw).there x1
  obtain ⟨sa, sn, sc, g1⟩ := o1.slice
  have hr : (execOp a.eval o).run Try.prog w = .ok .skip (w.setCell ⟨X.bx, 2, none⟩ (γ 1)) := by
    rw [g1] at e65 ⊢
    generalize a.eval = ρ at e65 e66 ⊢
    unfold execOp
    rw [hop]
    simp [e65, e66, t0, tf, go_sem]
  unfold Oper.wp
  rw [hr]
  exact hK _ _ ⟨w1, w, k1, o1, x1, rfl⟩
theorem LB.size : (opsOf 7 Try.f45).size = 16 := by kernel_rfl
theorem LB.steps (X : LB) (ok : LBOk X) {Q : Exit → Act → World → Prop} (i : Nat) (hi : i < (opsOf 7 Try.f45).size) : StepG (opsOf 7 Try.f45) LB.acts LB.av X.val0 X.Wd X.a0 Q i := by
  rw [LB.size] at hi
  have hc : i = 0 ∨ i = 1 ∨ i = 2 ∨ i = 3 ∨ i = 4 ∨ i = 5 ∨ i = 6 ∨ i = 7 ∨ i = 8 ∨ i = 9 ∨ i = 10 ∨ i = 11 ∨ i = 12 ∨ i = 13 ∨ i = 14 ∨ i = 15 := by omega
  rcases hc with rfl | rfl | rfl | rfl | rfl | rfl | rfl | rfl | rfl | rfl | rfl | rfl | rfl | rfl | rfl | rfl
  · exact LB.s0 X ok
  · exact LB.s1 X ok
  · exact LB.s2 X ok
  · exact LB.s3 X ok
  · exact LB.s4 X ok
  · exact LB.s5 X ok
  · exact LB.s6 X ok
  · exact LB.s7 X ok
  · exact LB.s8 X ok
  · exact LB.s9 X ok
  · exact LB.s10 X ok
  · exact LB.s11 X ok
  · exact LB.s12 X ok
  · exact LB.s13 X ok
  · exact LB.s14 X ok
  · exact LB.s15 X ok
theorem LB.puts (X : LB) (γ : Nat → Value) (a0 : Act) : putsL (valG LB.av X.val0 γ) (opsOf 7 Try.f45).toList a0 = (((((((((((((((a0.put (some 52) (.pointer (some ⟨X.bx, 2, none⟩))).put (some 53) (.slice X.va X.vn X.vc)).put (some 54) (edV ⟨X.t0, X.t1, X.t2, X.t3⟩)).put (some 55) (.pointer (some ⟨X.bm, 2, none⟩))).put (some 56) (.slice (some ⟨X.gb, X.go, none⟩) X.bn X.bc)).put (some 57) (.int .i64 (X.k : Int))).put (some 58) (.pointer (some ⟨X.gb, X.go + X.k, none⟩))).put (some 59) (.int .i64 X.m)).put (some 60) (.int .i64 (16 * X.m))).put (some 61) (edV (thinT ⟨X.t0, X.t1, X.t2, X.t3⟩ (16 * X.m)))).put (some 62) (edV ⟨X.u0, X.u1, X.u2, X.u3⟩)).put (some 63) (edV (overT (thinT ⟨X.t0, X.t1, X.t2, X.t3⟩ (16 * X.m)) ⟨X.u0, X.u1, X.u2, X.u3⟩))).put (some 64) (γ 0)).put (some 65) (γ 1)).put (some 66) (.pointer (some ⟨X.bx, 2, none⟩))) := by kernel_rfl
/-- The region, whatever order comes up. -/
theorem LB.run (X : LB) (ok : LBOk X) {Q : Exit → Act → World → Prop} (w : World) (h0 : X.Wd 0 (fun _ => undef) w.drew) (hend : ∀ (γ : Nat → Value) w', X.Wd 3 γ w' → Q .normal (((((((((((((((X.a0.put (some 52) (.pointer (some ⟨X.bx, 2, none⟩))).put (some 53) (.slice X.va X.vn X.vc)).put (some 54) (edV ⟨X.t0, X.t1, X.t2, X.t3⟩)).put (some 55) (.pointer (some ⟨X.bm, 2, none⟩))).put (some 56) (.slice (some ⟨X.gb, X.go, none⟩) X.bn X.bc)).put (some 57) (.int .i64 (X.k : Int))).put (some 58) (.pointer (some ⟨X.gb, X.go + X.k, none⟩))).put (some 59) (.int .i64 X.m)).put (some 60) (.int .i64 (16 * X.m))).put (some 61) (edV (thinT ⟨X.t0, X.t1, X.t2, X.t3⟩ (16 * X.m)))).put (some 62) (edV ⟨X.u0, X.u1, X.u2, X.u3⟩)).put (some 63) (edV (overT (thinT ⟨X.t0, X.t1, X.t2, X.t3⟩ (16 * X.m)) ⟨X.u0, X.u1, X.u2, X.u3⟩))).put (some 64) (γ 0)).put (some 65) (γ 1)).put (some 66) (.pointer (some ⟨X.bx, 2, none⟩))) w') : (Code.region 7 (opsOf 7 Try.f45) true).wp Try.prog Q X.a0 w := by
  refine reg_act (acts := LB.acts) (av := LB.av) (val0 := X.val0) (Wd := X.Wd) (by kernel_rfl) (by kernel_rfl) (by rw [LB.size]; decide) (fun i hi => LB.steps X ok i hi) _ h0 ?_
  intro γ w' h
  rw [LB.puts]
  exact hend γ w' h
end Go.Proofs.Ythlohbiocfeapaa
