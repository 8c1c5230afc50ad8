/-
  The statements of the law on OverTint that draw their order; each theorem names its conditions.
-/
import Derived.Test.YthlohbiocfeapaaTnT
import Derived.Test.YthlohbiocfeapaaTn
import Derived.Test.YthlohbiocfeapaaRq
import Derived.Test.YthlohbiocfeapaaTnK
namespace Go.Proofs.Ythlohbiocfeapaa
open Go.ChangeShapes Go.WideShapes Go.ChangeAt Go.RowKit
set_option linter.unusedVariables false

theorem rq_set4 (w : World) (g : Nat) (x0 x1 x2 x3 : Value) {u0 u1 u2 u3 : Value} (h0 : w.cell? ⟨g, 0, none⟩ = some u0) (h1 : w.cell? ⟨g, 1, none⟩ = some u1) (h2 : w.cell? ⟨g, 2, none⟩ = some u2) (h3 : w.cell? ⟨g, 3, none⟩ = some u3) :
    ((((w.setCell ⟨g, 0, none⟩ x0).setCell ⟨g, 1, none⟩ x1).setCell ⟨g, 2, none⟩ x2).setCell ⟨g, 3, none⟩ x3).cell? ⟨g, 0, none⟩ = some x0 ∧ ((((w.setCell ⟨g, 0, none⟩ x0).setCell ⟨g, 1, none⟩ x1).setCell ⟨g, 2, none⟩ x2).setCell ⟨g, 3, none⟩ x3).cell? ⟨g, 1, none⟩ = some x1 ∧
    ((((w.setCell ⟨g, 0, none⟩ x0).setCell ⟨g, 1, none⟩ x1).setCell ⟨g, 2, none⟩ x2).setCell ⟨g, 3, none⟩ x3).cell? ⟨g, 2, none⟩ = some x2 ∧ ((((w.setCell ⟨g, 0, none⟩ x0).setCell ⟨g, 1, none⟩ x1).setCell ⟨g, 2, none⟩ x2).setCell ⟨g, 3, none⟩ x3).cell? ⟨g, 3, none⟩ = some x3 := set4 w g x0 x1 x2 x3 h0 h1 h2 h3
structure OA where
  r0 : Int
  g0 : Int
  b0 : Int
  a0x : Int
  r1 : Int
  g1 : Int
  b1 : Int
  a1x : Int
  p0 : Nat
  p1 : Nat
  W : World
  a0 : Act
structure OAOk (X : OA) : Prop where
  c0 : X.W.cell? ⟨X.p0, 0, none⟩ = some (.int .i64 X.r0)
  c1 : X.W.cell? ⟨X.p0, 1, none⟩ = some (.int .i64 X.g0)
  c2 : X.W.cell? ⟨X.p0, 2, none⟩ = some (.int .i64 X.b0)
  c3 : X.W.cell? ⟨X.p0, 3, none⟩ = some (.int .i64 X.a0x)
  d0 : X.W.cell? ⟨X.p1, 0, none⟩ = some (.int .i64 X.r1)
  d1 : X.W.cell? ⟨X.p1, 1, none⟩ = some (.int .i64 X.g1)
  d2 : X.W.cell? ⟨X.p1, 2, none⟩ = some (.int .i64 X.b1)
  d3 : X.W.cell? ⟨X.p1, 3, none⟩ = some (.int .i64 X.a1x)
  e2 : X.a0.eval (.tmp 2) = .pointer (some ⟨X.p0, 0, none⟩)
  e3 : X.a0.eval (.tmp 3) = .pointer (some ⟨X.p1, 0, none⟩)
  sz : X.a0.tmps.size = 34
def OA.val0 (X : OA) : Nat → Value
  | 6 => .bool (ovV ⟨X.r0, X.g0, X.b0, X.a0x⟩ ⟨X.r1, X.g1, X.b1, X.a1x⟩).2
  | 9 => .tuple #[.agg #[.int .i64 (ovV ⟨X.r0, X.g0, X.b0, X.a0x⟩ ⟨X.r1, X.g1, X.b1, X.a1x⟩).1.ax, .int .i64 (ovV ⟨X.r0, X.g0, X.b0, X.a0x⟩ ⟨X.r1, X.g1, X.b1, X.a1x⟩).1.ay, .int .i64 (ovV ⟨X.r0, X.g0, X.b0, X.a0x⟩ ⟨X.r1, X.g1, X.b1, X.a1x⟩).1.bx, .int .i64 (ovV ⟨X.r0, X.g0, X.b0, X.a0x⟩ ⟨X.r1, X.g1, X.b1, X.a1x⟩).1.cy], .bool (ovV ⟨X.r0, X.g0, X.b0, X.a0x⟩ ⟨X.r1, X.g1, X.b1, X.a1x⟩).2]
  | 10 => .agg #[.int .i64 X.r0, .int .i64 X.g0, .int .i64 X.b0, .int .i64 X.a0x]
  | 11 => .agg #[.int .i64 X.r0, .int .i64 X.g0, .int .i64 X.b0, .int .i64 X.a0x]
  | 12 => .agg #[.int .i64 X.r1, .int .i64 X.g1, .int .i64 X.b1, .int .i64 X.a1x]
  | 13 => .agg #[.int .i64 X.r1, .int .i64 X.g1, .int .i64 X.b1, .int .i64 X.a1x]
  | 14 => .tuple #[.agg #[.int .i64 (ovV ⟨X.r0, X.g0, X.b0, X.a0x⟩ ⟨X.r1, X.g1, X.b1, X.a1x⟩).1.ax, .int .i64 (ovV ⟨X.r0, X.g0, X.b0, X.a0x⟩ ⟨X.r1, X.g1, X.b1, X.a1x⟩).1.ay, .int .i64 (ovV ⟨X.r0, X.g0, X.b0, X.a0x⟩ ⟨X.r1, X.g1, X.b1, X.a1x⟩).1.bx, .int .i64 (ovV ⟨X.r0, X.g0, X.b0, X.a0x⟩ ⟨X.r1, X.g1, X.b1, X.a1x⟩).1.cy], .bool (ovV ⟨X.r0, X.g0, X.b0, X.a0x⟩ ⟨X.r1, X.g1, X.b1, X.a1x⟩).2]
  | 15 => .agg #[.int .i64 (ovV ⟨X.r0, X.g0, X.b0, X.a0x⟩ ⟨X.r1, X.g1, X.b1, X.a1x⟩).1.ax, .int .i64 (ovV ⟨X.r0, X.g0, X.b0, X.a0x⟩ ⟨X.r1, X.g1, X.b1, X.a1x⟩).1.ay, .int .i64 (ovV ⟨X.r0, X.g0, X.b0, X.a0x⟩ ⟨X.r1, X.g1, X.b1, X.a1x⟩).1.bx, .int .i64 (ovV ⟨X.r0, X.g0, X.b0, X.a0x⟩ ⟨X.r1, X.g1, X.b1, X.a1x⟩).1.cy]
  | 16 => .bool (ovV ⟨X.r0, X.g0, X.b0, X.a0x⟩ ⟨X.r1, X.g1, X.b1, X.a1x⟩).2
  | _ => undef
def OA.av : Nat → Option Nat
  | 5 => some 0
  | _ => none
def OA.acts : List Nat := [8, 9]
/-- The world, by how many of the acting ones have come up. -/
def OA.Wd (X : OA) : Nat → (Nat → Value) → World → Prop
  | 0, _, w => Kp X.W w
  | 1, γ, w => ∃ g, γ 0 = .pointer (some ⟨g, 0, none⟩) ∧ X.W.heap.size ≤ g ∧ (w.cell? ⟨g, 0, none⟩ = some (.int .i64 0) ∧ w.cell? ⟨g, 1, none⟩ = some (.int .i64 0) ∧ w.cell? ⟨g, 2, none⟩ = some (.int .i64 0) ∧ w.cell? ⟨g, 3, none⟩ = some (.int .i64 0)) ∧ (∀ o, w.frozen? ⟨g, o, none⟩ = false) ∧ Kp X.W w
  | _, γ, w => ∃ g, γ 0 = .pointer (some ⟨g, 0, none⟩) ∧ X.W.heap.size ≤ g ∧ (w.cell? ⟨g, 0, none⟩ = some (.int .i64 (ovV ⟨X.r0, X.g0, X.b0, X.a0x⟩ ⟨X.r1, X.g1, X.b1, X.a1x⟩).1.ax) ∧ w.cell? ⟨g, 1, none⟩ = some (.int .i64 (ovV ⟨X.r0, X.g0, X.b0, X.a0x⟩ ⟨X.r1, X.g1, X.b1, X.a1x⟩).1.ay) ∧ w.cell? ⟨g, 2, none⟩ = some (.int .i64 (ovV ⟨X.r0, X.g0, X.b0, X.a0x⟩ ⟨X.r1, X.g1, X.b1, X.a1x⟩).1.bx) ∧ w.cell? ⟨g, 3, none⟩ = some (.int .i64 (ovV ⟨X.r0, X.g0, X.b0, X.a0x⟩ ⟨X.r1, X.g1, X.b1, X.a1x⟩).1.cy)) ∧ (∀ o, w.frozen? ⟨g, o, none⟩ = false) ∧ Kp X.W w
theorem OA.kp {X : OA} : ∀ {n : Nat} {γ : Nat → Value} {w : World}, X.Wd n γ w → Kp X.W w
  | 0, _, _, h => h
  | 1, _, _, ⟨_, _, _, _, _, h⟩ => h
  | _ + 2, _, _, ⟨_, _, _, _, _, h⟩ => h
theorem OA.keep {X : OA} : ∀ {n : Nat} {γ : Nat → Value} {w w' : World}, X.Wd n γ w → Kp w w' → X.Wd n γ w'
  | 0, _, _, _, h, k => Kp.trans h k
  | 1, _, w, _, ⟨g, h1, h2, ⟨h30, h31, h32, h33⟩, h5, h6⟩, k => ⟨g, h1, h2, ⟨(k.cells.1 _ _ (World.block_lt_of_cell? w ⟨g, 0, none⟩ h30)).trans h30, (k.cells.1 _ _ (World.block_lt_of_cell? w ⟨g, 0, none⟩ h30)).trans h31, (k.cells.1 _ _ (World.block_lt_of_cell? w ⟨g, 0, none⟩ h30)).trans h32, (k.cells.1 _ _ (World.block_lt_of_cell? w ⟨g, 0, none⟩ h30)).trans h33⟩, fun o => (k.cells.2 _ _).trans (h5 o), Kp.trans h6 k⟩
  | _ + 2, _, w, _, ⟨g, h1, h2, ⟨h30, h31, h32, h33⟩, h5, h6⟩, k => ⟨g, h1, h2, ⟨(k.cells.1 _ _ (World.block_lt_of_cell? w ⟨g, 0, none⟩ h30)).trans h30, (k.cells.1 _ _ (World.block_lt_of_cell? w ⟨g, 0, none⟩ h30)).trans h31, (k.cells.1 _ _ (World.block_lt_of_cell? w ⟨g, 0, none⟩ h30)).trans h32, (k.cells.1 _ _ (World.block_lt_of_cell? w ⟨g, 0, none⟩ h30)).trans h33⟩, fun o => (k.cells.2 _ _).trans (h5 o), Kp.trans h6 k⟩
theorem OA.chain : chainG (opsOf 1 Try.f6) OA.acts = true := by kernel_rfl
theorem OA.nodup : OA.acts.Nodup := by decide
theorem OA.inj {listed : Array Bool} {i k : Nat} (h : (List.range (opsOf 1 Try.f6).size).all (fun j => decide (j = i) || !(match dstOf (opsOf 1 Try.f6) j with | some d => decide (OA.av d = some k) | none => false)) = true) (hu : listed.getD i false = false) : ∀ d, got (opsOf 1 Try.f6) listed d → OA.av d ≠ some k := by
  rintro d ⟨j, h1, h2⟩ h3
  have hlt : j < (opsOf 1 Try.f6).size := by
    rcases Nat.lt_or_ge j (opsOf 1 Try.f6).size with h4 | h4
    · exact h4
    · unfold dstOf at h2; rw [Array.getElem?_eq_none h4] at h2; cases h2
  have h5 := List.all_eq_true.1 h j (List.mem_range.2 hlt)
  rw [h2] at h5
  simp only [h3, decide_true, Bool.not_true, Bool.or_false, decide_eq_true_eq] at h5
  subst h5
  rw [hu] at h1
  cases h1
theorem OA.s0 (X : OA) (ok : OAOk X) {Q : Exit → Act → World → Prop} : StepG (opsOf 1 Try.f6) OA.acts OA.av X.val0 X.Wd X.a0 Q 0 := by
  intro γ listed a w o hF hC hW h1 ho h2
  obtain ⟨hd, hop, hg⟩ := fields2 (x := some 10) (y := Op.load 35 (.tmp 2)) (z := none) (by kernel_rfl) ho
  have e2 : a.eval (.tmp 2) = .pointer (some ⟨X.p0, 0, none⟩) := (hF.eval0 (by kernel_rfl)).trans ok.e2
  have hc0 := rq_at (OA.kp hW) ok.c0
  have hc1 := rq_at (OA.kp hW) ok.c1
  have hc2 := rq_at (OA.kp hW) ok.c2
  have hc3 := rq_at (OA.kp hW) ok.c3
  refine st_pureG hF hC hW ho h2 (by decide) hd hg rfl ?_
  show _ = Result.ok (Next.value (.agg #[.int .i64 X.r0, .int .i64 X.g0, .int .i64 X.b0, .int .i64 X.a0x])) w
  generalize a.eval = ρ at e2 ⊢
  unfold execOp
  rw [hop]
  simp [e2, hc0, hc1, hc2, hc3, go_sem]
theorem OA.s1 (X : OA) (ok : OAOk X) {Q : Exit → Act → World → Prop} : StepG (opsOf 1 Try.f6) OA.acts OA.av X.val0 X.Wd X.a0 Q 1 := by
  intro γ listed a w o hF hC hW h1 ho h2
  obtain ⟨hd, hop, hg⟩ := fields2 (x := some 11) (y := Op.call { callee := .value (.func 23), args := #[(.tmp 10)], argTypes := #[35] }) (z := none) (by kernel_rfl) ho
  have e10 : a.eval (.tmp 10) = .agg #[.int .i64 X.r0, .int .i64 X.g0, .int .i64 X.b0, .int .i64 X.a0x] := slotG hF ho h2 (j := 0) (d := 10) (by kernel_rfl) (by kernel_rfl) (by rw [ok.sz]; decide)
  have ef : a.eval (.func 23) = .func (.func 23) #[] #[] := rfl
  refine st_callG hF hC hW ho h2 (by decide) hd hg rfl (f := 23) (args := #[.agg #[.int .i64 X.r0, .int .i64 X.g0, .int .i64 X.b0, .int .i64 X.a0x]]) ?_ ?_ ?_
  · generalize a.eval = ρ at e10 ef ⊢
    unfold execOp
    rw [hop]
    simp [e10, ef, go_sem]
  · exact toTint_any w ⟨X.r0, X.g0, X.b0, X.a0x⟩
  · intro w' hk; exact OA.keep hW hk
theorem OA.s2 (X : OA) (ok : OAOk X) {Q : Exit → Act → World → Prop} : StepG (opsOf 1 Try.f6) OA.acts OA.av X.val0 X.Wd X.a0 Q 2 := by
  intro γ listed a w o hF hC hW h1 ho h2
  obtain ⟨hd, hop, hg⟩ := fields2 (x := some 12) (y := Op.load 35 (.tmp 3)) (z := none) (by kernel_rfl) ho
  have e3 : a.eval (.tmp 3) = .pointer (some ⟨X.p1, 0, none⟩) := (hF.eval0 (by kernel_rfl)).trans ok.e3
  have hc0 := rq_at (OA.kp hW) ok.d0
  have hc1 := rq_at (OA.kp hW) ok.d1
  have hc2 := rq_at (OA.kp hW) ok.d2
  have hc3 := rq_at (OA.kp hW) ok.d3
  refine st_pureG hF hC hW ho h2 (by decide) hd hg rfl ?_
  show _ = Result.ok (Next.value (.agg #[.int .i64 X.r1, .int .i64 X.g1, .int .i64 X.b1, .int .i64 X.a1x])) w
  generalize a.eval = ρ at e3 ⊢
  unfold execOp
  rw [hop]
  simp [e3, hc0, hc1, hc2, hc3, go_sem]
theorem OA.s3 (X : OA) (ok : OAOk X) {Q : Exit → Act → World → Prop} : StepG (opsOf 1 Try.f6) OA.acts OA.av X.val0 X.Wd X.a0 Q 3 := by
  intro γ listed a w o hF hC hW h1 ho h2
  obtain ⟨hd, hop, hg⟩ := fields2 (x := some 13) (y := Op.call { callee := .value (.func 23), args := #[(.tmp 12)], argTypes := #[35] }) (z := none) (by kernel_rfl) ho
  have e12 : a.eval (.tmp 12) = .agg #[.int .i64 X.r1, .int .i64 X.g1, .int .i64 X.b1, .int .i64 X.a1x] := slotG hF ho h2 (j := 2) (d := 12) (by kernel_rfl) (by kernel_rfl) (by rw [ok.sz]; decide)
  have ef : a.eval (.func 23) = .func (.func 23) #[] #[] := rfl
  refine st_callG hF hC hW ho h2 (by decide) hd hg rfl (f := 23) (args := #[.agg #[.int .i64 X.r1, .int .i64 X.g1, .int .i64 X.b1, .int .i64 X.a1x]]) ?_ ?_ ?_
  · generalize a.eval = ρ at e12 ef ⊢
    unfold execOp
    rw [hop]
    simp [e12, ef, go_sem]
  · exact toTint_any w ⟨X.r1, X.g1, X.b1, X.a1x⟩
  · intro w' hk; exact OA.keep hW hk
theorem OA.s4 (X : OA) (ok : OAOk X) {Q : Exit → Act → World → Prop} : StepG (opsOf 1 Try.f6) OA.acts OA.av X.val0 X.Wd X.a0 Q 4 := by
  intro γ listed a w o hF hC hW h1 ho h2
  obtain ⟨hd, hop, hg⟩ := fields2 (x := some 14) (y := Op.call { callee := .value (.func 17), args := #[(.tmp 11), (.tmp 13)], argTypes := #[24, 24] }) (z := none) (by kernel_rfl) ho
  have e11 : a.eval (.tmp 11) = .agg #[.int .i64 X.r0, .int .i64 X.g0, .int .i64 X.b0, .int .i64 X.a0x] := slotG hF ho h2 (j := 1) (d := 11) (by kernel_rfl) (by kernel_rfl) (by rw [ok.sz]; decide)
  have e13 : a.eval (.tmp 13) = .agg #[.int .i64 X.r1, .int .i64 X.g1, .int .i64 X.b1, .int .i64 X.a1x] := slotG hF ho h2 (j := 3) (d := 13) (by kernel_rfl) (by kernel_rfl) (by rw [ok.sz]; decide)
  have ef : a.eval (.func 17) = .func (.func 17) #[] #[] := rfl
  refine st_callG hF hC hW ho h2 (by decide) hd hg rfl (f := 17) (args := #[.agg #[.int .i64 X.r0, .int .i64 X.g0, .int .i64 X.b0, .int .i64 X.a0x], .agg #[.int .i64 X.r1, .int .i64 X.g1, .int .i64 X.b1, .int .i64 X.a1x]]) ?_ ?_ ?_
  · generalize a.eval = ρ at e11 e13 ef ⊢
    unfold execOp
    rw [hop]
    simp [e11, e13, ef, go_sem]
  · exact soverOf w ⟨X.r0, X.g0, X.b0, X.a0x⟩ ⟨X.r1, X.g1, X.b1, X.a1x⟩
  · intro w' hk; exact OA.keep hW hk
theorem OA.s5 (X : OA) (ok : OAOk X) {Q : Exit → Act → World → Prop} : StepG (opsOf 1 Try.f6) OA.acts OA.av X.val0 X.Wd X.a0 Q 5 := by
  intro γ listed a w o hF hC hW h1 ho h2
  obtain ⟨hd, hop, hg⟩ := fields2 (x := some 9) (y := Op.move (.tmp 14)) (z := none) (by kernel_rfl) ho
  have e14 : a.eval (.tmp 14) = .tuple #[.agg #[.int .i64 (ovV ⟨X.r0, X.g0, X.b0, X.a0x⟩ ⟨X.r1, X.g1, X.b1, X.a1x⟩).1.ax, .int .i64 (ovV ⟨X.r0, X.g0, X.b0, X.a0x⟩ ⟨X.r1, X.g1, X.b1, X.a1x⟩).1.ay, .int .i64 (ovV ⟨X.r0, X.g0, X.b0, X.a0x⟩ ⟨X.r1, X.g1, X.b1, X.a1x⟩).1.bx, .int .i64 (ovV ⟨X.r0, X.g0, X.b0, X.a0x⟩ ⟨X.r1, X.g1, X.b1, X.a1x⟩).1.cy], .bool (ovV ⟨X.r0, X.g0, X.b0, X.a0x⟩ ⟨X.r1, X.g1, X.b1, X.a1x⟩).2] := slotG hF ho h2 (j := 4) (d := 14) (by kernel_rfl) (by kernel_rfl) (by rw [ok.sz]; decide)
  refine st_pureG hF hC hW ho h2 (by decide) hd hg rfl ?_
  show _ = Result.ok (Next.value (.tuple #[.agg #[.int .i64 (ovV ⟨X.r0, X.g0, X.b0, X.a0x⟩ ⟨X.r1, X.g1, X.b1, X.a1x⟩).1.ax, .int .i64 (ovV ⟨X.r0, X.g0, X.b0, X.a0x⟩ ⟨X.r1, X.g1, X.b1, X.a1x⟩).1.ay, .int .i64 (ovV ⟨X.r0, X.g0, X.b0, X.a0x⟩ ⟨X.r1, X.g1, X.b1, X.a1x⟩).1.bx, .int .i64 (ovV ⟨X.r0, X.g0, X.b0, X.a0x⟩ ⟨X.r1, X.g1, X.b1, X.a1x⟩).1.cy], .bool (ovV ⟨X.r0, X.g0, X.b0, X.a0x⟩ ⟨X.r1, X.g1, X.b1, X.a1x⟩).2])) w
  generalize a.eval = ρ at e14 ⊢
  unfold execOp
  rw [hop]
  simp [e14, go_sem]
theorem OA.s6 (X : OA) (ok : OAOk X) {Q : Exit → Act → World → Prop} : StepG (opsOf 1 Try.f6) OA.acts OA.av X.val0 X.Wd X.a0 Q 6 := by
  intro γ listed a w o hF hC hW h1 ho h2
  obtain ⟨hd, hop, hg⟩ := fields2 (x := some 15) (y := Op.extract (.tmp 9) 0) (z := none) (by kernel_rfl) ho
  have e9 : a.eval (.tmp 9) = .tuple #[.agg #[.int .i64 (ovV ⟨X.r0, X.g0, X.b0, X.a0x⟩ ⟨X.r1, X.g1, X.b1, X.a1x⟩).1.ax, .int .i64 (ovV ⟨X.r0, X.g0, X.b0, X.a0x⟩ ⟨X.r1, X.g1, X.b1, X.a1x⟩).1.ay, .int .i64 (ovV ⟨X.r0, X.g0, X.b0, X.a0x⟩ ⟨X.r1, X.g1, X.b1, X.a1x⟩).1.bx, .int .i64 (ovV ⟨X.r0, X.g0, X.b0, X.a0x⟩ ⟨X.r1, X.g1, X.b1, X.a1x⟩).1.cy], .bool (ovV ⟨X.r0, X.g0, X.b0, X.a0x⟩ ⟨X.r1, X.g1, X.b1, X.a1x⟩).2] := slotG hF ho h2 (j := 5) (d := 9) (by kernel_rfl) (by kernel_rfl) (by rw [ok.sz]; decide)
  refine st_pureG hF hC hW ho h2 (by decide) hd hg rfl ?_
  show _ = Result.ok (Next.value (.agg #[.int .i64 (ovV ⟨X.r0, X.g0, X.b0, X.a0x⟩ ⟨X.r1, X.g1, X.b1, X.a1x⟩).1.ax, .int .i64 (ovV ⟨X.r0, X.g0, X.b0, X.a0x⟩ ⟨X.r1, X.g1, X.b1, X.a1x⟩).1.ay, .int .i64 (ovV ⟨X.r0, X.g0, X.b0, X.a0x⟩ ⟨X.r1, X.g1, X.b1, X.a1x⟩).1.bx, .int .i64 (ovV ⟨X.r0, X.g0, X.b0, X.a0x⟩ ⟨X.r1, X.g1, X.b1, X.a1x⟩).1.cy])) w
  generalize a.eval = ρ at e9 ⊢
  unfold execOp
  rw [hop]
  simp [e9, go_sem]
theorem OA.s7 (X : OA) (ok : OAOk X) {Q : Exit → Act → World → Prop} : StepG (opsOf 1 Try.f6) OA.acts OA.av X.val0 X.Wd X.a0 Q 7 := by
  intro γ listed a w o hF hC hW h1 ho h2
  obtain ⟨hd, hop, hg⟩ := fields2 (x := some 16) (y := Op.extract (.tmp 9) 1) (z := none) (by kernel_rfl) ho
  have e9 : a.eval (.tmp 9) = .tuple #[.agg #[.int .i64 (ovV ⟨X.r0, X.g0, X.b0, X.a0x⟩ ⟨X.r1, X.g1, X.b1, X.a1x⟩).1.ax, .int .i64 (ovV ⟨X.r0, X.g0, X.b0, X.a0x⟩ ⟨X.r1, X.g1, X.b1, X.a1x⟩).1.ay, .int .i64 (ovV ⟨X.r0, X.g0, X.b0, X.a0x⟩ ⟨X.r1, X.g1, X.b1, X.a1x⟩).1.bx, .int .i64 (ovV ⟨X.r0, X.g0, X.b0, X.a0x⟩ ⟨X.r1, X.g1, X.b1, X.a1x⟩).1.cy], .bool (ovV ⟨X.r0, X.g0, X.b0, X.a0x⟩ ⟨X.r1, X.g1, X.b1, X.a1x⟩).2] := slotG hF ho h2 (j := 5) (d := 9) (by kernel_rfl) (by kernel_rfl) (by rw [ok.sz]; decide)
  refine st_pureG hF hC hW ho h2 (by decide) hd hg rfl ?_
  show _ = Result.ok (Next.value (.bool (ovV ⟨X.r0, X.g0, X.b0, X.a0x⟩ ⟨X.r1, X.g1, X.b1, X.a1x⟩).2)) w
  generalize a.eval = ρ at e9 ⊢
  unfold execOp
  rw [hop]
  simp [e9, go_sem]
theorem OA.s8 (X : OA) (ok : OAOk X) {Q : Exit → Act → World → Prop} : StepG (opsOf 1 Try.f6) OA.acts OA.av X.val0 X.Wd X.a0 Q 8 := by
  intro γ listed a w o hF hC hW h1 ho h2
  obtain ⟨hd, hop, hg⟩ := fields2 (x := some 5) (y := Op.alloc 24) (z := none) (by kernel_rfl) ho
  have hu := unl (hF.lt ho) h1
  refine st_actG (k := 0) OA.chain OA.nodup rfl hF hC hW h1 ho h2 (Or.inr ⟨5, hd, rfl⟩) (OA.inj (by kernel_rfl) hu) hg ?_
  intro hW0 K hK
  have hr : (execOp a.eval o).run Try.prog w = .ok (.value (.pointer (some ⟨w.heap.size, 0, none⟩))) (w.alloc (.cells #[.int .i64 0, .int .i64 0, .int .i64 0, .int .i64 0] 24)) := by
    unfold execOp
    rw [hop]
    simp [go_sem]
  unfold Oper.wp
  rw [hr]
  exact hK _ _ ⟨w.heap.size, rfl, Kp.size hW0, ⟨by simp, by simp, by simp, by simp⟩, fun o => World.frozen?_alloc_at _ _ _ _ rfl, Kp.alloc hW0 _ _⟩
theorem OA.s9 (X : OA) (ok : OAOk X) {Q : Exit → Act → World → Prop} : StepG (opsOf 1 Try.f6) OA.acts OA.av X.val0 X.Wd X.a0 Q 9 := by
  intro γ listed a w o hF hC hW h1 ho h2
  obtain ⟨hd, hop, hg⟩ := fields2 (x := none) (y := Op.store 24 (.tmp 5) (.tmp 15)) (z := none) (by kernel_rfl) ho
  have e5 : a.eval (.tmp 5) = γ 0 := slotG hF ho h2 (j := 8) (d := 5) (by kernel_rfl) (by kernel_rfl) (by rw [ok.sz]; decide)
  have e15 : a.eval (.tmp 15) = .agg #[.int .i64 (ovV ⟨X.r0, X.g0, X.b0, X.a0x⟩ ⟨X.r1, X.g1, X.b1, X.a1x⟩).1.ax, .int .i64 (ovV ⟨X.r0, X.g0, X.b0, X.a0x⟩ ⟨X.r1, X.g1, X.b1, X.a1x⟩).1.ay, .int .i64 (ovV ⟨X.r0, X.g0, X.b0, X.a0x⟩ ⟨X.r1, X.g1, X.b1, X.a1x⟩).1.bx, .int .i64 (ovV ⟨X.r0, X.g0, X.b0, X.a0x⟩ ⟨X.r1, X.g1, X.b1, X.a1x⟩).1.cy] := slotG hF ho h2 (j := 6) (d := 15) (by kernel_rfl) (by kernel_rfl) (by rw [ok.sz]; decide)
  have hu := unl (hF.lt ho) h1
  refine st_actG (k := 1) OA.chain OA.nodup rfl hF hC hW h1 ho h2 (Or.inl hd) (OA.inj (by kernel_rfl) hu) hg ?_
  intro hW0 K hK
  obtain ⟨g, g0, hg0, ⟨z0, z1, z2, z3⟩, zf, k1⟩ := hW0
  rw [g0] at e5
  obtain ⟨y0, y1, y2, y3⟩ := rq_set4 w g (.int .i64 (ovV ⟨X.r0, X.g0, X.b0, X.a0x⟩ ⟨X.r1, X.g1, X.b1, X.a1x⟩).1.ax) (.int .i64 (ovV ⟨X.r0, X.g0, X.b0, X.a0x⟩ ⟨X.r1, X.g1, X.b1, X.a1x⟩).1.ay) (.int .i64 (ovV ⟨X.r0, X.g0, X.b0, X.a0x⟩ ⟨X.r1, X.g1, X.b1, X.a1x⟩).1.bx) (.int .i64 (ovV ⟨X.r0, X.g0, X.b0, X.a0x⟩ ⟨X.r1, X.g1, X.b1, X.a1x⟩).1.cy) z0 z1 z2 z3
  have hr : (execOp a.eval o).run Try.prog w = .ok .skip ((((w.setCell ⟨g, 0, none⟩ (.int .i64 (ovV ⟨X.r0, X.g0, X.b0, X.a0x⟩ ⟨X.r1, X.g1, X.b1, X.a1x⟩).1.ax)).setCell ⟨g, 1, none⟩ (.int .i64 (ovV ⟨X.r0, X.g0, X.b0, X.a0x⟩ ⟨X.r1, X.g1, X.b1, X.a1x⟩).1.ay)).setCell ⟨g, 2, none⟩ (.int .i64 (ovV ⟨X.r0, X.g0, X.b0, X.a0x⟩ ⟨X.r1, X.g1, X.b1, X.a1x⟩).1.bx)).setCell ⟨g, 3, none⟩ (.int .i64 (ovV ⟨X.r0, X.g0, X.b0, X.a0x⟩ ⟨X.r1, X.g1, X.b1, X.a1x⟩).1.cy)) := by
    generalize a.eval = ρ at e5 e15 ⊢
    unfold execOp
    rw [hop]
    simp [e5, e15, z0, z1, z2, z3, zf, go_sem]
  unfold Oper.wp
  rw [hr]
  exact hK _ _ ⟨g, g0, hg0, ⟨y0, y1, y2, y3⟩, fun o => by rw [World.frozen?_setCell, World.frozen?_setCell, World.frozen?_setCell, World.frozen?_setCell]; exact zf o, (Kp.setCell (Kp.setCell (Kp.setCell (Kp.setCell k1 hg0 _) hg0 _) hg0 _) hg0 _)⟩
theorem OA.s10 (X : OA) (ok : OAOk X) {Q : Exit → Act → World → Prop} : StepG (opsOf 1 Try.f6) OA.acts OA.av X.val0 X.Wd X.a0 Q 10 := by
  intro γ listed a w o hF hC hW h1 ho h2
  obtain ⟨hd, hop, hg⟩ := fields2 (x := some 6) (y := Op.assign (.tmp 16)) (z := none) (by kernel_rfl) ho
  have e16 : a.eval (.tmp 16) = .bool (ovV ⟨X.r0, X.g0, X.b0, X.a0x⟩ ⟨X.r1, X.g1, X.b1, X.a1x⟩).2 := slotG hF ho h2 (j := 7) (d := 16) (by kernel_rfl) (by kernel_rfl) (by rw [ok.sz]; decide)
  refine st_pureG hF hC hW ho h2 (by decide) hd hg rfl ?_
  show _ = Result.ok (Next.value (.bool (ovV ⟨X.r0, X.g0, X.b0, X.a0x⟩ ⟨X.r1, X.g1, X.b1, X.a1x⟩).2)) w
  generalize a.eval = ρ at e16 ⊢
  unfold execOp
  rw [hop]
  simp [e16, go_sem]
theorem OA.size : (opsOf 1 Try.f6).size = 11 := by kernel_rfl
theorem OA.steps (X : OA) (ok : OAOk X) {Q : Exit → Act → World → Prop} (i : Nat) (hi : i < (opsOf 1 Try.f6).size) : StepG (opsOf 1 Try.f6) OA.acts OA.av X.val0 X.Wd X.a0 Q i := by
  rw [OA.size] at hi
  have hc : i = 0 ∨ i = 1 ∨ i = 2 ∨ i = 3 ∨ i = 4 ∨ i = 5 ∨ i = 6 ∨ i = 7 ∨ i = 8 ∨ i = 9 ∨ i = 10 := by omega
  rcases hc with rfl | rfl | rfl | rfl | rfl | rfl | rfl | rfl | rfl | rfl | rfl
  · exact OA.s0 X ok
  · exact OA.s1 X ok
  · exact OA.s2 X ok
  · exact OA.s3 X ok
  · exact OA.s4 X ok
  · exact OA.s5 X ok
  · exact OA.s6 X ok
  · exact OA.s7 X ok
  · exact OA.s8 X ok
  · exact OA.s9 X ok
  · exact OA.s10 X ok
theorem OA.puts (X : OA) (γ : Nat → Value) (a0 : Act) : putsL (valG OA.av X.val0 γ) (opsOf 1 Try.f6).toList a0 = ((((((((((a0.put (some 10) (.agg #[.int .i64 X.r0, .int .i64 X.g0, .int .i64 X.b0, .int .i64 X.a0x])).put (some 11) (.agg #[.int .i64 X.r0, .int .i64 X.g0, .int .i64 X.b0, .int .i64 X.a0x])).put (some 12) (.agg #[.int .i64 X.r1, .int .i64 X.g1, .int .i64 X.b1, .int .i64 X.a1x])).put (some 13) (.agg #[.int .i64 X.r1, .int .i64 X.g1, .int .i64 X.b1, .int .i64 X.a1x])).put (some 14) (.tuple #[.agg #[.int .i64 (ovV ⟨X.r0, X.g0, X.b0, X.a0x⟩ ⟨X.r1, X.g1, X.b1, X.a1x⟩).1.ax, .int .i64 (ovV ⟨X.r0, X.g0, X.b0, X.a0x⟩ ⟨X.r1, X.g1, X.b1, X.a1x⟩).1.ay, .int .i64 (ovV ⟨X.r0, X.g0, X.b0, X.a0x⟩ ⟨X.r1, X.g1, X.b1, X.a1x⟩).1.bx, .int .i64 (ovV ⟨X.r0, X.g0, X.b0, X.a0x⟩ ⟨X.r1, X.g1, X.b1, X.a1x⟩).1.cy], .bool (ovV ⟨X.r0, X.g0, X.b0, X.a0x⟩ ⟨X.r1, X.g1, X.b1, X.a1x⟩).2])).put (some 9) (.tuple #[.agg #[.int .i64 (ovV ⟨X.r0, X.g0, X.b0, X.a0x⟩ ⟨X.r1, X.g1, X.b1, X.a1x⟩).1.ax, .int .i64 (ovV ⟨X.r0, X.g0, X.b0, X.a0x⟩ ⟨X.r1, X.g1, X.b1, X.a1x⟩).1.ay, .int .i64 (ovV ⟨X.r0, X.g0, X.b0, X.a0x⟩ ⟨X.r1, X.g1, X.b1, X.a1x⟩).1.bx, .int .i64 (ovV ⟨X.r0, X.g0, X.b0, X.a0x⟩ ⟨X.r1, X.g1, X.b1, X.a1x⟩).1.cy], .bool (ovV ⟨X.r0, X.g0, X.b0, X.a0x⟩ ⟨X.r1, X.g1, X.b1, X.a1x⟩).2])).put (some 15) (.agg #[.int .i64 (ovV ⟨X.r0, X.g0, X.b0, X.a0x⟩ ⟨X.r1, X.g1, X.b1, X.a1x⟩).1.ax, .int .i64 (ovV ⟨X.r0, X.g0, X.b0, X.a0x⟩ ⟨X.r1, X.g1, X.b1, X.a1x⟩).1.ay, .int .i64 (ovV ⟨X.r0, X.g0, X.b0, X.a0x⟩ ⟨X.r1, X.g1, X.b1, X.a1x⟩).1.bx, .int .i64 (ovV ⟨X.r0, X.g0, X.b0, X.a0x⟩ ⟨X.r1, X.g1, X.b1, X.a1x⟩).1.cy])).put (some 16) (.bool (ovV ⟨X.r0, X.g0, X.b0, X.a0x⟩ ⟨X.r1, X.g1, X.b1, X.a1x⟩).2)).put (some 5) (γ 0)).put (some 6) (.bool (ovV ⟨X.r0, X.g0, X.b0, X.a0x⟩ ⟨X.r1, X.g1, X.b1, X.a1x⟩).2)) := by kernel_rfl
/-- The region, whatever order comes up. -/
theorem OA.run (X : OA) (ok : OAOk X) {Q : Exit → Act → World → Prop} (w : World) (h0 : X.Wd 0 (fun _ => undef) w.drew) (hend : ∀ (γ : Nat → Value) w', X.Wd 2 γ w' → Q .normal ((((((((((X.a0.put (some 10) (.agg #[.int .i64 X.r0, .int .i64 X.g0, .int .i64 X.b0, .int .i64 X.a0x])).put (some 11) (.agg #[.int .i64 X.r0, .int .i64 X.g0, .int .i64 X.b0, .int .i64 X.a0x])).put (some 12) (.agg #[.int .i64 X.r1, .int .i64 X.g1, .int .i64 X.b1, .int .i64 X.a1x])).put (some 13) (.agg #[.int .i64 X.r1, .int .i64 X.g1, .int .i64 X.b1, .int .i64 X.a1x])).put (some 14) (.tuple #[.agg #[.int .i64 (ovV ⟨X.r0, X.g0, X.b0, X.a0x⟩ ⟨X.r1, X.g1, X.b1, X.a1x⟩).1.ax, .int .i64 (ovV ⟨X.r0, X.g0, X.b0, X.a0x⟩ ⟨X.r1, X.g1, X.b1, X.a1x⟩).1.ay, .int .i64 (ovV ⟨X.r0, X.g0, X.b0, X.a0x⟩ ⟨X.r1, X.g1, X.b1, X.a1x⟩).1.bx, .int .i64 (ovV ⟨X.r0, X.g0, X.b0, X.a0x⟩ ⟨X.r1, X.g1, X.b1, X.a1x⟩).1.cy], .bool (ovV ⟨X.r0, X.g0, X.b0, X.a0x⟩ ⟨X.r1, X.g1, X.b1, X.a1x⟩).2])).put (some 9) (.tuple #[.agg #[.int .i64 (ovV ⟨X.r0, X.g0, X.b0, X.a0x⟩ ⟨X.r1, X.g1, X.b1, X.a1x⟩).1.ax, .int .i64 (ovV ⟨X.r0, X.g0, X.b0, X.a0x⟩ ⟨X.r1, X.g1, X.b1, X.a1x⟩).1.ay, .int .i64 (ovV ⟨X.r0, X.g0, X.b0, X.a0x⟩ ⟨X.r1, X.g1, X.b1, X.a1x⟩).1.bx, .int .i64 (ovV ⟨X.r0, X.g0, X.b0, X.a0x⟩ ⟨X.r1, X.g1, X.b1, X.a1x⟩).1.cy], .bool (ovV ⟨X.r0, X.g0, X.b0, X.a0x⟩ ⟨X.r1, X.g1, X.b1, X.a1x⟩).2])).put (some 15) (.agg #[.int .i64 (ovV ⟨X.r0, X.g0, X.b0, X.a0x⟩ ⟨X.r1, X.g1, X.b1, X.a1x⟩).1.ax, .int .i64 (ovV ⟨X.r0, X.g0, X.b0, X.a0x⟩ ⟨X.r1, X.g1, X.b1, X.a1x⟩).1.ay, .int .i64 (ovV ⟨X.r0, X.g0, X.b0, X.a0x⟩ ⟨X.r1, X.g1, X.b1, X.a1x⟩).1.bx, .int .i64 (ovV ⟨X.r0, X.g0, X.b0, X.a0x⟩ ⟨X.r1, X.g1, X.b1, X.a1x⟩).1.cy])).put (some 16) (.bool (ovV ⟨X.r0, X.g0, X.b0, X.a0x⟩ ⟨X.r1, X.g1, X.b1, X.a1x⟩).2)).put (some 5) (γ 0)).put (some 6) (.bool (ovV ⟨X.r0, X.g0, X.b0, X.a0x⟩ ⟨X.r1, X.g1, X.b1, X.a1x⟩).2)) w') : (Code.region 1 (opsOf 1 Try.f6) true).wp Try.prog Q X.a0 w := by
  refine reg_act (acts := OA.acts) (av := OA.av) (val0 := X.val0) (Wd := X.Wd) (by kernel_rfl) (by kernel_rfl) (by rw [OA.size]; decide) (fun i hi => OA.steps X ok i hi) _ h0 ?_
  intro γ w' h
  rw [OA.puts]
  exact hend γ w' h
structure OB where
  r0 : Int
  g0 : Int
  b0 : Int
  a0x : Int
  r1 : Int
  g1 : Int
  b1 : Int
  a1x : Int
  p0 : Nat
  p1 : Nat
  W : World
  a0 : Act
structure OBOk (X : OB) : Prop where
  c0 : X.W.cell? ⟨X.p0, 0, none⟩ = some (.int .i64 X.r0)
  c1 : X.W.cell? ⟨X.p0, 1, none⟩ = some (.int .i64 X.g0)
  c2 : X.W.cell? ⟨X.p0, 2, none⟩ = some (.int .i64 X.b0)
  c3 : X.W.cell? ⟨X.p0, 3, none⟩ = some (.int .i64 X.a0x)
  d0 : X.W.cell? ⟨X.p1, 0, none⟩ = some (.int .i64 X.r1)
  d1 : X.W.cell? ⟨X.p1, 1, none⟩ = some (.int .i64 X.g1)
  d2 : X.W.cell? ⟨X.p1, 2, none⟩ = some (.int .i64 X.b1)
  d3 : X.W.cell? ⟨X.p1, 3, none⟩ = some (.int .i64 X.a1x)
  e2 : X.a0.eval (.tmp 2) = .pointer (some ⟨X.p0, 0, none⟩)
  e3 : X.a0.eval (.tmp 3) = .pointer (some ⟨X.p1, 0, none⟩)
  sz : X.a0.tmps.size = 34
def OB.val0 (X : OB) : Nat → Value
  | 8 => .bool (ovV ⟨X.r0, X.g0, X.b0, X.a0x⟩ ⟨X.r1, X.g1, X.b1, X.a1x⟩).2
  | 17 => .tuple #[.agg #[.int .i64 (ovV ⟨X.r0, X.g0, X.b0, X.a0x⟩ ⟨X.r1, X.g1, X.b1, X.a1x⟩).1.ax, .int .i64 (ovV ⟨X.r0, X.g0, X.b0, X.a0x⟩ ⟨X.r1, X.g1, X.b1, X.a1x⟩).1.ay, .int .i64 (ovV ⟨X.r0, X.g0, X.b0, X.a0x⟩ ⟨X.r1, X.g1, X.b1, X.a1x⟩).1.bx, .int .i64 (ovV ⟨X.r0, X.g0, X.b0, X.a0x⟩ ⟨X.r1, X.g1, X.b1, X.a1x⟩).1.cy], .bool (ovV ⟨X.r0, X.g0, X.b0, X.a0x⟩ ⟨X.r1, X.g1, X.b1, X.a1x⟩).2]
  | 18 => .agg #[.int .i64 X.r0, .int .i64 X.g0, .int .i64 X.b0, .int .i64 X.a0x]
  | 19 => .agg #[.int .i64 X.r0, .int .i64 X.g0, .int .i64 X.b0, .int .i64 X.a0x]
  | 20 => .agg #[.int .i64 X.r1, .int .i64 X.g1, .int .i64 X.b1, .int .i64 X.a1x]
  | 21 => .agg #[.int .i64 X.r1, .int .i64 X.g1, .int .i64 X.b1, .int .i64 X.a1x]
  | 22 => .tuple #[.agg #[.int .i64 (ovV ⟨X.r0, X.g0, X.b0, X.a0x⟩ ⟨X.r1, X.g1, X.b1, X.a1x⟩).1.ax, .int .i64 (ovV ⟨X.r0, X.g0, X.b0, X.a0x⟩ ⟨X.r1, X.g1, X.b1, X.a1x⟩).1.ay, .int .i64 (ovV ⟨X.r0, X.g0, X.b0, X.a0x⟩ ⟨X.r1, X.g1, X.b1, X.a1x⟩).1.bx, .int .i64 (ovV ⟨X.r0, X.g0, X.b0, X.a0x⟩ ⟨X.r1, X.g1, X.b1, X.a1x⟩).1.cy], .bool (ovV ⟨X.r0, X.g0, X.b0, X.a0x⟩ ⟨X.r1, X.g1, X.b1, X.a1x⟩).2]
  | 23 => .agg #[.int .i64 (ovV ⟨X.r0, X.g0, X.b0, X.a0x⟩ ⟨X.r1, X.g1, X.b1, X.a1x⟩).1.ax, .int .i64 (ovV ⟨X.r0, X.g0, X.b0, X.a0x⟩ ⟨X.r1, X.g1, X.b1, X.a1x⟩).1.ay, .int .i64 (ovV ⟨X.r0, X.g0, X.b0, X.a0x⟩ ⟨X.r1, X.g1, X.b1, X.a1x⟩).1.bx, .int .i64 (ovV ⟨X.r0, X.g0, X.b0, X.a0x⟩ ⟨X.r1, X.g1, X.b1, X.a1x⟩).1.cy]
  | 24 => .bool (ovV ⟨X.r0, X.g0, X.b0, X.a0x⟩ ⟨X.r1, X.g1, X.b1, X.a1x⟩).2
  | _ => undef
def OB.av : Nat → Option Nat
  | 7 => some 0
  | _ => none
def OB.acts : List Nat := [8, 9]
/-- The world, by how many of the acting ones have come up. -/
def OB.Wd (X : OB) : Nat → (Nat → Value) → World → Prop
  | 0, _, w => Kp X.W w
  | 1, γ, w => ∃ g, γ 0 = .pointer (some ⟨g, 0, none⟩) ∧ X.W.heap.size ≤ g ∧ (w.cell? ⟨g, 0, none⟩ = some (.int .i64 0) ∧ w.cell? ⟨g, 1, none⟩ = some (.int .i64 0) ∧ w.cell? ⟨g, 2, none⟩ = some (.int .i64 0) ∧ w.cell? ⟨g, 3, none⟩ = some (.int .i64 0)) ∧ (∀ o, w.frozen? ⟨g, o, none⟩ = false) ∧ Kp X.W w
  | _, γ, w => ∃ g, γ 0 = .pointer (some ⟨g, 0, none⟩) ∧ X.W.heap.size ≤ g ∧ (w.cell? ⟨g, 0, none⟩ = some (.int .i64 (ovV ⟨X.r0, X.g0, X.b0, X.a0x⟩ ⟨X.r1, X.g1, X.b1, X.a1x⟩).1.ax) ∧ w.cell? ⟨g, 1, none⟩ = some (.int .i64 (ovV ⟨X.r0, X.g0, X.b0, X.a0x⟩ ⟨X.r1, X.g1, X.b1, X.a1x⟩).1.ay) ∧ w.cell? ⟨g, 2, none⟩ = some (.int .i64 (ovV ⟨X.r0, X.g0, X.b0, X.a0x⟩ ⟨X.r1, X.g1, X.b1, X.a1x⟩).1.bx) ∧ w.cell? ⟨g, 3, none⟩ = some (.int .i64 (ovV ⟨X.r0, X.g0, X.b0, X.a0x⟩ ⟨X.r1, X.g1, X.b1, X.a1x⟩).1.cy)) ∧ (∀ o, w.frozen? ⟨g, o, none⟩ = false) ∧ Kp X.W w
theorem OB.kp {X : OB} : ∀ {n : Nat} {γ : Nat → Value} {w : World}, X.Wd n γ w → Kp X.W w
  | 0, _, _, h => h
  | 1, _, _, ⟨_, _, _, _, _, h⟩ => h
  | _ + 2, _, _, ⟨_, _, _, _, _, h⟩ => h
theorem OB.keep {X : OB} : ∀ {n : Nat} {γ : Nat → Value} {w w' : World}, X.Wd n γ w → Kp w w' → X.Wd n γ w'
  | 0, _, _, _, h, k => Kp.trans h k
  | 1, _, w, _, ⟨g, h1, h2, ⟨h30, h31, h32, h33⟩, h5, h6⟩, k => ⟨g, h1, h2, ⟨(k.cells.1 _ _ (World.block_lt_of_cell? w ⟨g, 0, none⟩ h30)).trans h30, (k.cells.1 _ _ (World.block_lt_of_cell? w ⟨g, 0, none⟩ h30)).trans h31, (k.cells.1 _ _ (World.block_lt_of_cell? w ⟨g, 0, none⟩ h30)).trans h32, (k.cells.1 _ _ (World.block_lt_of_cell? w ⟨g, 0, none⟩ h30)).trans h33⟩, fun o => (k.cells.2 _ _).trans (h5 o), Kp.trans h6 k⟩
  | _ + 2, _, w, _, ⟨g, h1, h2, ⟨h30, h31, h32, h33⟩, h5, h6⟩, k => ⟨g, h1, h2, ⟨(k.cells.1 _ _ (World.block_lt_of_cell? w ⟨g, 0, none⟩ h30)).trans h30, (k.cells.1 _ _ (World.block_lt_of_cell? w ⟨g, 0, none⟩ h30)).trans h31, (k.cells.1 _ _ (World.block_lt_of_cell? w ⟨g, 0, none⟩ h30)).trans h32, (k.cells.1 _ _ (World.block_lt_of_cell? w ⟨g, 0, none⟩ h30)).trans h33⟩, fun o => (k.cells.2 _ _).trans (h5 o), Kp.trans h6 k⟩
theorem OB.chain : chainG (opsOf 2 Try.f6) OB.acts = true := by kernel_rfl
theorem OB.nodup : OB.acts.Nodup := by decide
theorem OB.inj {listed : Array Bool} {i k : Nat} (h : (List.range (opsOf 2 Try.f6).size).all (fun j => decide (j = i) || !(match dstOf (opsOf 2 Try.f6) j with | some d => decide (OB.av d = some k) | none => false)) = true) (hu : listed.getD i false = false) : ∀ d, got (opsOf 2 Try.f6) listed d → OB.av d ≠ some k := by
  rintro d ⟨j, h1, h2⟩ h3
  have hlt : j < (opsOf 2 Try.f6).size := by
    rcases Nat.lt_or_ge j (opsOf 2 Try.f6).size with h4 | h4
    · exact h4
    · unfold dstOf at h2; rw [Array.getElem?_eq_none h4] at h2; cases h2
  have h5 := List.all_eq_true.1 h j (List.mem_range.2 hlt)
  rw [h2] at h5
  simp only [h3, decide_true, Bool.not_true, Bool.or_false, decide_eq_true_eq] at h5
  subst h5
  rw [hu] at h1
  cases h1
theorem OB.s0 (X : OB) (ok : OBOk X) {Q : Exit → Act → World → Prop} : StepG (opsOf 2 Try.f6) OB.acts OB.av X.val0 X.Wd X.a0 Q 0 := by
  intro γ listed a w o hF hC hW h1 ho h2
  obtain ⟨hd, hop, hg⟩ := fields2 (x := some 18) (y := Op.load 35 (.tmp 2)) (z := none) (by kernel_rfl) ho
  have e2 : a.eval (.tmp 2) = .pointer (some ⟨X.p0, 0, none⟩) := (hF.eval0 (by kernel_rfl)).trans ok.e2
  have hc0 := rq_at (OB.kp hW) ok.c0
  have hc1 := rq_at (OB.kp hW) ok.c1
  have hc2 := rq_at (OB.kp hW) ok.c2
  have hc3 := rq_at (OB.kp hW) ok.c3
  refine st_pureG hF hC hW ho h2 (by decide) hd hg rfl ?_
  show _ = Result.ok (Next.value (.agg #[.int .i64 X.r0, .int .i64 X.g0, .int .i64 X.b0, .int .i64 X.a0x])) w
  generalize a.eval = ρ at e2 ⊢
  unfold execOp
  rw [hop]
  simp [e2, hc0, hc1, hc2, hc3, go_sem]
theorem OB.s1 (X : OB) (ok : OBOk X) {Q : Exit → Act → World → Prop} : StepG (opsOf 2 Try.f6) OB.acts OB.av X.val0 X.Wd X.a0 Q 1 := by
  intro γ listed a w o hF hC hW h1 ho h2
  obtain ⟨hd, hop, hg⟩ := fields2 (x := some 19) (y := Op.call { callee := .value (.func 23), args := #[(.tmp 18)], argTypes := #[35] }) (z := none) (by kernel_rfl) ho
  have e18 : a.eval (.tmp 18) = .agg #[.int .i64 X.r0, .int .i64 X.g0, .int .i64 X.b0, .int .i64 X.a0x] := slotG hF ho h2 (j := 0) (d := 18) (by kernel_rfl) (by kernel_rfl) (by rw [ok.sz]; decide)
  have ef : a.eval (.func 23) = .func (.func 23) #[] #[] := rfl
  refine st_callG hF hC hW ho h2 (by decide) hd hg rfl (f := 23) (args := #[.agg #[.int .i64 X.r0, .int .i64 X.g0, .int .i64 X.b0, .int .i64 X.a0x]]) ?_ ?_ ?_
  · generalize a.eval = ρ at e18 ef ⊢
    unfold execOp
    rw [hop]
    simp [e18, ef, go_sem]
  · exact toTint_any w ⟨X.r0, X.g0, X.b0, X.a0x⟩
  · intro w' hk; exact OB.keep hW hk
theorem OB.s2 (X : OB) (ok : OBOk X) {Q : Exit → Act → World → Prop} : StepG (opsOf 2 Try.f6) OB.acts OB.av X.val0 X.Wd X.a0 Q 2 := by
  intro γ listed a w o hF hC hW h1 ho h2
  obtain ⟨hd, hop, hg⟩ := fields2 (x := some 20) (y := Op.load 35 (.tmp 3)) (z := none) (by kernel_rfl) ho
  have e3 : a.eval (.tmp 3) = .pointer (some ⟨X.p1, 0, none⟩) := (hF.eval0 (by kernel_rfl)).trans ok.e3
  have hc0 := rq_at (OB.kp hW) ok.d0
  have hc1 := rq_at (OB.kp hW) ok.d1
  have hc2 := rq_at (OB.kp hW) ok.d2
  have hc3 := rq_at (OB.kp hW) ok.d3
  refine st_pureG hF hC hW ho h2 (by decide) hd hg rfl ?_
  show _ = Result.ok (Next.value (.agg #[.int .i64 X.r1, .int .i64 X.g1, .int .i64 X.b1, .int .i64 X.a1x])) w
  generalize a.eval = ρ at e3 ⊢
  unfold execOp
  rw [hop]
  simp [e3, hc0, hc1, hc2, hc3, go_sem]
theorem OB.s3 (X : OB) (ok : OBOk X) {Q : Exit → Act → World → Prop} : StepG (opsOf 2 Try.f6) OB.acts OB.av X.val0 X.Wd X.a0 Q 3 := by
  intro γ listed a w o hF hC hW h1 ho h2
  obtain ⟨hd, hop, hg⟩ := fields2 (x := some 21) (y := Op.call { callee := .value (.func 23), args := #[(.tmp 20)], argTypes := #[35] }) (z := none) (by kernel_rfl) ho
  have e20 : a.eval (.tmp 20) = .agg #[.int .i64 X.r1, .int .i64 X.g1, .int .i64 X.b1, .int .i64 X.a1x] := slotG hF ho h2 (j := 2) (d := 20) (by kernel_rfl) (by kernel_rfl) (by rw [ok.sz]; decide)
  have ef : a.eval (.func 23) = .func (.func 23) #[] #[] := rfl
  refine st_callG hF hC hW ho h2 (by decide) hd hg rfl (f := 23) (args := #[.agg #[.int .i64 X.r1, .int .i64 X.g1, .int .i64 X.b1, .int .i64 X.a1x]]) ?_ ?_ ?_
  · generalize a.eval = ρ at e20 ef ⊢
    unfold execOp
    rw [hop]
    simp [e20, ef, go_sem]
  · exact toTint_any w ⟨X.r1, X.g1, X.b1, X.a1x⟩
  · intro w' hk; exact OB.keep hW hk
theorem OB.s4 (X : OB) (ok : OBOk X) {Q : Exit → Act → World → Prop} : StepG (opsOf 2 Try.f6) OB.acts OB.av X.val0 X.Wd X.a0 Q 4 := by
  intro γ listed a w o hF hC hW h1 ho h2
  obtain ⟨hd, hop, hg⟩ := fields2 (x := some 22) (y := Op.call { callee := .value (.func 16), args := #[(.tmp 19), (.tmp 21)], argTypes := #[24, 24] }) (z := none) (by kernel_rfl) ho
  have e19 : a.eval (.tmp 19) = .agg #[.int .i64 X.r0, .int .i64 X.g0, .int .i64 X.b0, .int .i64 X.a0x] := slotG hF ho h2 (j := 1) (d := 19) (by kernel_rfl) (by kernel_rfl) (by rw [ok.sz]; decide)
  have e21 : a.eval (.tmp 21) = .agg #[.int .i64 X.r1, .int .i64 X.g1, .int .i64 X.b1, .int .i64 X.a1x] := slotG hF ho h2 (j := 3) (d := 21) (by kernel_rfl) (by kernel_rfl) (by rw [ok.sz]; decide)
  have ef : a.eval (.func 16) = .func (.func 16) #[] #[] := rfl
  refine st_callG hF hC hW ho h2 (by decide) hd hg rfl (f := 16) (args := #[.agg #[.int .i64 X.r0, .int .i64 X.g0, .int .i64 X.b0, .int .i64 X.a0x], .agg #[.int .i64 X.r1, .int .i64 X.g1, .int .i64 X.b1, .int .i64 X.a1x]]) ?_ ?_ ?_
  · generalize a.eval = ρ at e19 e21 ef ⊢
    unfold execOp
    rw [hop]
    simp [e19, e21, ef, go_sem]
  · exact ioverOf w ⟨X.r0, X.g0, X.b0, X.a0x⟩ ⟨X.r1, X.g1, X.b1, X.a1x⟩
  · intro w' hk; exact OB.keep hW hk
theorem OB.s5 (X : OB) (ok : OBOk X) {Q : Exit → Act → World → Prop} : StepG (opsOf 2 Try.f6) OB.acts OB.av X.val0 X.Wd X.a0 Q 5 := by
  intro γ listed a w o hF hC hW h1 ho h2
  obtain ⟨hd, hop, hg⟩ := fields2 (x := some 17) (y := Op.move (.tmp 22)) (z := none) (by kernel_rfl) ho
  have e22 : a.eval (.tmp 22) = .tuple #[.agg #[.int .i64 (ovV ⟨X.r0, X.g0, X.b0, X.a0x⟩ ⟨X.r1, X.g1, X.b1, X.a1x⟩).1.ax, .int .i64 (ovV ⟨X.r0, X.g0, X.b0, X.a0x⟩ ⟨X.r1, X.g1, X.b1, X.a1x⟩).1.ay, .int .i64 (ovV ⟨X.r0, X.g0, X.b0, X.a0x⟩ ⟨X.r1, X.g1, X.b1, X.a1x⟩).1.bx, .int .i64 (ovV ⟨X.r0, X.g0, X.b0, X.a0x⟩ ⟨X.r1, X.g1, X.b1, X.a1x⟩).1.cy], .bool (ovV ⟨X.r0, X.g0, X.b0, X.a0x⟩ ⟨X.r1, X.g1, X.b1, X.a1x⟩).2] := slotG hF ho h2 (j := 4) (d := 22) (by kernel_rfl) (by kernel_rfl) (by rw [ok.sz]; decide)
  refine st_pureG hF hC hW ho h2 (by decide) hd hg rfl ?_
  show _ = Result.ok (Next.value (.tuple #[.agg #[.int .i64 (ovV ⟨X.r0, X.g0, X.b0, X.a0x⟩ ⟨X.r1, X.g1, X.b1, X.a1x⟩).1.ax, .int .i64 (ovV ⟨X.r0, X.g0, X.b0, X.a0x⟩ ⟨X.r1, X.g1, X.b1, X.a1x⟩).1.ay, .int .i64 (ovV ⟨X.r0, X.g0, X.b0, X.a0x⟩ ⟨X.r1, X.g1, X.b1, X.a1x⟩).1.bx, .int .i64 (ovV ⟨X.r0, X.g0, X.b0, X.a0x⟩ ⟨X.r1, X.g1, X.b1, X.a1x⟩).1.cy], .bool (ovV ⟨X.r0, X.g0, X.b0, X.a0x⟩ ⟨X.r1, X.g1, X.b1, X.a1x⟩).2])) w
  generalize a.eval = ρ at e22 ⊢
  unfold execOp
  rw [hop]
  simp [e22, go_sem]
theorem OB.s6 (X : OB) (ok : OBOk X) {Q : Exit → Act → World → Prop} : StepG (opsOf 2 Try.f6) OB.acts OB.av X.val0 X.Wd X.a0 Q 6 := by
  intro γ listed a w o hF hC hW h1 ho h2
  obtain ⟨hd, hop, hg⟩ := fields2 (x := some 23) (y := Op.extract (.tmp 17) 0) (z := none) (by kernel_rfl) ho
  have e17 : a.eval (.tmp 17) = .tuple #[.agg #[.int .i64 (ovV ⟨X.r0, X.g0, X.b0, X.a0x⟩ ⟨X.r1, X.g1, X.b1, X.a1x⟩).1.ax, .int .i64 (ovV ⟨X.r0, X.g0, X.b0, X.a0x⟩ ⟨X.r1, X.g1, X.b1, X.a1x⟩).1.ay, .int .i64 (ovV ⟨X.r0, X.g0, X.b0, X.a0x⟩ ⟨X.r1, X.g1, X.b1, X.a1x⟩).1.bx, .int .i64 (ovV ⟨X.r0, X.g0, X.b0, X.a0x⟩ ⟨X.r1, X.g1, X.b1, X.a1x⟩).1.cy], .bool (ovV ⟨X.r0, X.g0, X.b0, X.a0x⟩ ⟨X.r1, X.g1, X.b1, X.a1x⟩).2] := slotG hF ho h2 (j := 5) (d := 17) (by kernel_rfl) (by kernel_rfl) (by rw [ok.sz]; decide)
  refine st_pureG hF hC hW ho h2 (by decide) hd hg rfl ?_
  show _ = Result.ok (Next.value (.agg #[.int .i64 (ovV ⟨X.r0, X.g0, X.b0, X.a0x⟩ ⟨X.r1, X.g1, X.b1, X.a1x⟩).1.ax, .int .i64 (ovV ⟨X.r0, X.g0, X.b0, X.a0x⟩ ⟨X.r1, X.g1, X.b1, X.a1x⟩).1.ay, .int .i64 (ovV ⟨X.r0, X.g0, X.b0, X.a0x⟩ ⟨X.r1, X.g1, X.b1, X.a1x⟩).1.bx, .int .i64 (ovV ⟨X.r0, X.g0, X.b0, X.a0x⟩ ⟨X.r1, X.g1, X.b1, X.a1x⟩).1.cy])) w
  generalize a.eval = ρ at e17 ⊢
  unfold execOp
  rw [hop]
  simp [e17, go_sem]
theorem OB.s7 (X : OB) (ok : OBOk X) {Q : Exit → Act → World → Prop} : StepG (opsOf 2 Try.f6) OB.acts OB.av X.val0 X.Wd X.a0 Q 7 := by
  intro γ listed a w o hF hC hW h1 ho h2
  obtain ⟨hd, hop, hg⟩ := fields2 (x := some 24) (y := Op.extract (.tmp 17) 1) (z := none) (by kernel_rfl) ho
  have e17 : a.eval (.tmp 17) = .tuple #[.agg #[.int .i64 (ovV ⟨X.r0, X.g0, X.b0, X.a0x⟩ ⟨X.r1, X.g1, X.b1, X.a1x⟩).1.ax, .int .i64 (ovV ⟨X.r0, X.g0, X.b0, X.a0x⟩ ⟨X.r1, X.g1, X.b1, X.a1x⟩).1.ay, .int .i64 (ovV ⟨X.r0, X.g0, X.b0, X.a0x⟩ ⟨X.r1, X.g1, X.b1, X.a1x⟩).1.bx, .int .i64 (ovV ⟨X.r0, X.g0, X.b0, X.a0x⟩ ⟨X.r1, X.g1, X.b1, X.a1x⟩).1.cy], .bool (ovV ⟨X.r0, X.g0, X.b0, X.a0x⟩ ⟨X.r1, X.g1, X.b1, X.a1x⟩).2] := slotG hF ho h2 (j := 5) (d := 17) (by kernel_rfl) (by kernel_rfl) (by rw [ok.sz]; decide)
  refine st_pureG hF hC hW ho h2 (by decide) hd hg rfl ?_
  show _ = Result.ok (Next.value (.bool (ovV ⟨X.r0, X.g0, X.b0, X.a0x⟩ ⟨X.r1, X.g1, X.b1, X.a1x⟩).2)) w
  generalize a.eval = ρ at e17 ⊢
  unfold execOp
  rw [hop]
  simp [e17, go_sem]
theorem OB.s8 (X : OB) (ok : OBOk X) {Q : Exit → Act → World → Prop} : StepG (opsOf 2 Try.f6) OB.acts OB.av X.val0 X.Wd X.a0 Q 8 := by
  intro γ listed a w o hF hC hW h1 ho h2
  obtain ⟨hd, hop, hg⟩ := fields2 (x := some 7) (y := Op.alloc 24) (z := none) (by kernel_rfl) ho
  have hu := unl (hF.lt ho) h1
  refine st_actG (k := 0) OB.chain OB.nodup rfl hF hC hW h1 ho h2 (Or.inr ⟨7, hd, rfl⟩) (OB.inj (by kernel_rfl) hu) hg ?_
  intro hW0 K hK
  have hr : (execOp a.eval o).run Try.prog w = .ok (.value (.pointer (some ⟨w.heap.size, 0, none⟩))) (w.alloc (.cells #[.int .i64 0, .int .i64 0, .int .i64 0, .int .i64 0] 24)) := by
    unfold execOp
    rw [hop]
    simp [go_sem]
  unfold Oper.wp
  rw [hr]
  exact hK _ _ ⟨w.heap.size, rfl, Kp.size hW0, ⟨by simp, by simp, by simp, by simp⟩, fun o => World.frozen?_alloc_at _ _ _ _ rfl, Kp.alloc hW0 _ _⟩
theorem OB.s9 (X : OB) (ok : OBOk X) {Q : Exit → Act → World → Prop} : StepG (opsOf 2 Try.f6) OB.acts OB.av X.val0 X.Wd X.a0 Q 9 := by
  intro γ listed a w o hF hC hW h1 ho h2
  obtain ⟨hd, hop, hg⟩ := fields2 (x := none) (y := Op.store 24 (.tmp 7) (.tmp 23)) (z := none) (by kernel_rfl) ho
  have e7 : a.eval (.tmp 7) = γ 0 := slotG hF ho h2 (j := 8) (d := 7) (by kernel_rfl) (by kernel_rfl) (by rw [ok.sz]; decide)
  have e23 : a.eval (.tmp 23) = .agg #[.int .i64 (ovV ⟨X.r0, X.g0, X.b0, X.a0x⟩ ⟨X.r1, X.g1, X.b1, X.a1x⟩).1.ax, .int .i64 (ovV ⟨X.r0, X.g0, X.b0, X.a0x⟩ ⟨X.r1, X.g1, X.b1, X.a1x⟩).1.ay, .int .i64 (ovV ⟨X.r0, X.g0, X.b0, X.a0x⟩ ⟨X.r1, X.g1, X.b1, X.a1x⟩).1.bx, .int .i64 (ovV ⟨X.r0, X.g0, X.b0, X.a0x⟩ ⟨X.r1, X.g1, X.b1, X.a1x⟩).1.cy] := slotG hF ho h2 (j := 6) (d := 23) (by kernel_rfl) (by kernel_rfl) (by rw [ok.sz]; decide)
  have hu := unl (hF.lt ho) h1
  refine st_actG (k := 1) OB.chain OB.nodup rfl hF hC hW h1 ho h2 (Or.inl hd) (OB.inj (by kernel_rfl) hu) hg ?_
  intro hW0 K hK
  obtain ⟨g, g0, hg0, ⟨z0, z1, z2, z3⟩, zf, k1⟩ := hW0
  rw [g0] at e7
  obtain ⟨y0, y1, y2, y3⟩ := rq_set4 w g (.int .i64 (ovV ⟨X.r0, X.g0, X.b0, X.a0x⟩ ⟨X.r1, X.g1, X.b1, X.a1x⟩).1.ax) (.int .i64 (ovV ⟨X.r0, X.g0, X.b0, X.a0x⟩ ⟨X.r1, X.g1, X.b1, X.a1x⟩).1.ay) (.int .i64 (ovV ⟨X.r0, X.g0, X.b0, X.a0x⟩ ⟨X.r1, X.g1, X.b1, X.a1x⟩).1.bx) (.int .i64 (ovV ⟨X.r0, X.g0, X.b0, X.a0x⟩ ⟨X.r1, X.g1, X.b1, X.a1x⟩).1.cy) z0 z1 z2 z3
  have hr : (execOp a.eval o).run Try.prog w = .ok .skip ((((w.setCell ⟨g, 0, none⟩ (.int .i64 (ovV ⟨X.r0, X.g0, X.b0, X.a0x⟩ ⟨X.r1, X.g1, X.b1, X.a1x⟩).1.ax)).setCell ⟨g, 1, none⟩ (.int .i64 (ovV ⟨X.r0, X.g0, X.b0, X.a0x⟩ ⟨X.r1, X.g1, X.b1, X.a1x⟩).1.ay)).setCell ⟨g, 2, none⟩ (.int .i64 (ovV ⟨X.r0, X.g0, X.b0, X.a0x⟩ ⟨X.r1, X.g1, X.b1, X.a1x⟩).1.bx)).setCell ⟨g, 3, none⟩ (.int .i64 (ovV ⟨X.r0, X.g0, X.b0, X.a0x⟩ ⟨X.r1, X.g1, X.b1, X.a1x⟩).1.cy)) := by
    generalize a.eval = ρ at e7 e23 ⊢
    unfold execOp
    rw [hop]
    simp [e7, e23, z0, z1, z2, z3, zf, go_sem]
  unfold Oper.wp
  rw [hr]
  exact hK _ _ ⟨g, g0, hg0, ⟨y0, y1, y2, y3⟩, fun o => by rw [World.frozen?_setCell, World.frozen?_setCell, World.frozen?_setCell, World.frozen?_setCell]; exact zf o, (Kp.setCell (Kp.setCell (Kp.setCell (Kp.setCell k1 hg0 _) hg0 _) hg0 _) hg0 _)⟩
theorem OB.s10 (X : OB) (ok : OBOk X) {Q : Exit → Act → World → Prop} : StepG (opsOf 2 Try.f6) OB.acts OB.av X.val0 X.Wd X.a0 Q 10 := by
  intro γ listed a w o hF hC hW h1 ho h2
  obtain ⟨hd, hop, hg⟩ := fields2 (x := some 8) (y := Op.assign (.tmp 24)) (z := none) (by kernel_rfl) ho
  have e24 : a.eval (.tmp 24) = .bool (ovV ⟨X.r0, X.g0, X.b0, X.a0x⟩ ⟨X.r1, X.g1, X.b1, X.a1x⟩).2 := slotG hF ho h2 (j := 7) (d := 24) (by kernel_rfl) (by kernel_rfl) (by rw [ok.sz]; decide)
  refine st_pureG hF hC hW ho h2 (by decide) hd hg rfl ?_
  show _ = Result.ok (Next.value (.bool (ovV ⟨X.r0, X.g0, X.b0, X.a0x⟩ ⟨X.r1, X.g1, X.b1, X.a1x⟩).2)) w
  generalize a.eval = ρ at e24 ⊢
  unfold execOp
  rw [hop]
  simp [e24, go_sem]
theorem OB.size : (opsOf 2 Try.f6).size = 11 := by kernel_rfl
theorem OB.steps (X : OB) (ok : OBOk X) {Q : Exit → Act → World → Prop} (i : Nat) (hi : i < (opsOf 2 Try.f6).size) : StepG (opsOf 2 Try.f6) OB.acts OB.av X.val0 X.Wd X.a0 Q i := by
  rw [OB.size] at hi
  have hc : i = 0 ∨ i = 1 ∨ i = 2 ∨ i = 3 ∨ i = 4 ∨ i = 5 ∨ i = 6 ∨ i = 7 ∨ i = 8 ∨ i = 9 ∨ i = 10 := by omega
  rcases hc with rfl | rfl | rfl | rfl | rfl | rfl | rfl | rfl | rfl | rfl | rfl
  · exact OB.s0 X ok
  · exact OB.s1 X ok
  · exact OB.s2 X ok
  · exact OB.s3 X ok
  · exact OB.s4 X ok
  · exact OB.s5 X ok
  · exact OB.s6 X ok
  · exact OB.s7 X ok
  · exact OB.s8 X ok
  · exact OB.s9 X ok
  · exact OB.s10 X ok
theorem OB.puts (X : OB) (γ : Nat → Value) (a0 : Act) : putsL (valG OB.av X.val0 γ) (opsOf 2 Try.f6).toList a0 = ((((((((((a0.put (some 18) (.agg #[.int .i64 X.r0, .int .i64 X.g0, .int .i64 X.b0, .int .i64 X.a0x])).put (some 19) (.agg #[.int .i64 X.r0, .int .i64 X.g0, .int .i64 X.b0, .int .i64 X.a0x])).put (some 20) (.agg #[.int .i64 X.r1, .int .i64 X.g1, .int .i64 X.b1, .int .i64 X.a1x])).put (some 21) (.agg #[.int .i64 X.r1, .int .i64 X.g1, .int .i64 X.b1, .int .i64 X.a1x])).put (some 22) (.tuple #[.agg #[.int .i64 (ovV ⟨X.r0, X.g0, X.b0, X.a0x⟩ ⟨X.r1, X.g1, X.b1, X.a1x⟩).1.ax, .int .i64 (ovV ⟨X.r0, X.g0, X.b0, X.a0x⟩ ⟨X.r1, X.g1, X.b1, X.a1x⟩).1.ay, .int .i64 (ovV ⟨X.r0, X.g0, X.b0, X.a0x⟩ ⟨X.r1, X.g1, X.b1, X.a1x⟩).1.bx, .int .i64 (ovV ⟨X.r0, X.g0, X.b0, X.a0x⟩ ⟨X.r1, X.g1, X.b1, X.a1x⟩).1.cy], .bool (ovV ⟨X.r0, X.g0, X.b0, X.a0x⟩ ⟨X.r1, X.g1, X.b1, X.a1x⟩).2])).put (some 17) (.tuple #[.agg #[.int .i64 (ovV ⟨X.r0, X.g0, X.b0, X.a0x⟩ ⟨X.r1, X.g1, X.b1, X.a1x⟩).1.ax, .int .i64 (ovV ⟨X.r0, X.g0, X.b0, X.a0x⟩ ⟨X.r1, X.g1, X.b1, X.a1x⟩).1.ay, .int .i64 (ovV ⟨X.r0, X.g0, X.b0, X.a0x⟩ ⟨X.r1, X.g1, X.b1, X.a1x⟩).1.bx, .int .i64 (ovV ⟨X.r0, X.g0, X.b0, X.a0x⟩ ⟨X.r1, X.g1, X.b1, X.a1x⟩).1.cy], .bool (ovV ⟨X.r0, X.g0, X.b0, X.a0x⟩ ⟨X.r1, X.g1, X.b1, X.a1x⟩).2])).put (some 23) (.agg #[.int .i64 (ovV ⟨X.r0, X.g0, X.b0, X.a0x⟩ ⟨X.r1, X.g1, X.b1, X.a1x⟩).1.ax, .int .i64 (ovV ⟨X.r0, X.g0, X.b0, X.a0x⟩ ⟨X.r1, X.g1, X.b1, X.a1x⟩).1.ay, .int .i64 (ovV ⟨X.r0, X.g0, X.b0, X.a0x⟩ ⟨X.r1, X.g1, X.b1, X.a1x⟩).1.bx, .int .i64 (ovV ⟨X.r0, X.g0, X.b0, X.a0x⟩ ⟨X.r1, X.g1, X.b1, X.a1x⟩).1.cy])).put (some 24) (.bool (ovV ⟨X.r0, X.g0, X.b0, X.a0x⟩ ⟨X.r1, X.g1, X.b1, X.a1x⟩).2)).put (some 7) (γ 0)).put (some 8) (.bool (ovV ⟨X.r0, X.g0, X.b0, X.a0x⟩ ⟨X.r1, X.g1, X.b1, X.a1x⟩).2)) := by kernel_rfl
/-- The region, whatever order comes up. -/
theorem OB.run (X : OB) (ok : OBOk X) {Q : Exit → Act → World → Prop} (w : World) (h0 : X.Wd 0 (fun _ => undef) w.drew) (hend : ∀ (γ : Nat → Value) w', X.Wd 2 γ w' → Q .normal ((((((((((X.a0.put (some 18) (.agg #[.int .i64 X.r0, .int .i64 X.g0, .int .i64 X.b0, .int .i64 X.a0x])).put (some 19) (.agg #[.int .i64 X.r0, .int .i64 X.g0, .int .i64 X.b0, .int .i64 X.a0x])).put (some 20) (.agg #[.int .i64 X.r1, .int .i64 X.g1, .int .i64 X.b1, .int .i64 X.a1x])).put (some 21) (.agg #[.int .i64 X.r1, .int .i64 X.g1, .int .i64 X.b1, .int .i64 X.a1x])).put (some 22) (.tuple #[.agg #[.int .i64 (ovV ⟨X.r0, X.g0, X.b0, X.a0x⟩ ⟨X.r1, X.g1, X.b1, X.a1x⟩).1.ax, .int .i64 (ovV ⟨X.r0, X.g0, X.b0, X.a0x⟩ ⟨X.r1, X.g1, X.b1, X.a1x⟩).1.ay, .int .i64 (ovV ⟨X.r0, X.g0, X.b0, X.a0x⟩ ⟨X.r1, X.g1, X.b1, X.a1x⟩).1.bx, .int .i64 (ovV ⟨X.r0, X.g0, X.b0, X.a0x⟩ ⟨X.r1, X.g1, X.b1, X.a1x⟩).1.cy], .bool (ovV ⟨X.r0, X.g0, X.b0, X.a0x⟩ ⟨X.r1, X.g1, X.b1, X.a1x⟩).2])).put (some 17) (.tuple #[.agg #[.int .i64 (ovV ⟨X.r0, X.g0, X.b0, X.a0x⟩ ⟨X.r1, X.g1, X.b1, X.a1x⟩).1.ax, .int .i64 (ovV ⟨X.r0, X.g0, X.b0, X.a0x⟩ ⟨X.r1, X.g1, X.b1, X.a1x⟩).1.ay, .int .i64 (ovV ⟨X.r0, X.g0, X.b0, X.a0x⟩ ⟨X.r1, X.g1, X.b1, X.a1x⟩).1.bx, .int .i64 (ovV ⟨X.r0, X.g0, X.b0, X.a0x⟩ ⟨X.r1, X.g1, X.b1, X.a1x⟩).1.cy], .bool (ovV ⟨X.r0, X.g0, X.b0, X.a0x⟩ ⟨X.r1, X.g1, X.b1, X.a1x⟩).2])).put (some 23) (.agg #[.int .i64 (ovV ⟨X.r0, X.g0, X.b0, X.a0x⟩ ⟨X.r1, X.g1, X.b1, X.a1x⟩).1.ax, .int .i64 (ovV ⟨X.r0, X.g0, X.b0, X.a0x⟩ ⟨X.r1, X.g1, X.b1, X.a1x⟩).1.ay, .int .i64 (ovV ⟨X.r0, X.g0, X.b0, X.a0x⟩ ⟨X.r1, X.g1, X.b1, X.a1x⟩).1.bx, .int .i64 (ovV ⟨X.r0, X.g0, X.b0, X.a0x⟩ ⟨X.r1, X.g1, X.b1, X.a1x⟩).1.cy])).put (some 24) (.bool (ovV ⟨X.r0, X.g0, X.b0, X.a0x⟩ ⟨X.r1, X.g1, X.b1, X.a1x⟩).2)).put (some 7) (γ 0)).put (some 8) (.bool (ovV ⟨X.r0, X.g0, X.b0, X.a0x⟩ ⟨X.r1, X.g1, X.b1, X.a1x⟩).2)) w') : (Code.region 2 (opsOf 2 Try.f6) true).wp Try.prog Q X.a0 w := by
  refine reg_act (acts := OB.acts) (av := OB.av) (val0 := X.val0) (Wd := X.Wd) (by kernel_rfl) (by kernel_rfl) (by rw [OB.size]; decide) (fun i hi => OB.steps X ok i hi) _ h0 ?_
  intro γ w' h
  rw [OB.puts]
  exact hend γ w' h
end Go.Proofs.Ythlohbiocfeapaa
