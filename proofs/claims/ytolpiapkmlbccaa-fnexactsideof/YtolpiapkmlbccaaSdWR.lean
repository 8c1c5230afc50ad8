/-
  The two statements of the law on SideOf that draw their order; each theorem names its conditions.
-/
import Derived.Test.YtolpiapkmlbccaaSdO
namespace Go.Proofs.Ytolpiapkmlbccaa
open Go.ChangeShapes Go.WideShapes Go.ChangeAt Go.RowKit
set_option linter.unusedVariables false

structure YA where
  ax : Int
  ay : Int
  bx : Int
  cy : Int
  h : Int
  b0 : Nat
  b1 : Nat
  W : World
  a0 : Act
structure YAOk (X : YA) : Prop where
  c0 : X.W.cell? ⟨X.b0, 0, none⟩ = some (.int .i64 X.ax)
  c1 : X.W.cell? ⟨X.b0, 1, none⟩ = some (.int .i64 X.ay)
  c2 : X.W.cell? ⟨X.b1, 0, none⟩ = some (.int .i64 X.bx)
  c3 : X.W.cell? ⟨X.b1, 1, none⟩ = some (.int .i64 X.cy)
  e2 : X.a0.eval (.tmp 2) = .int .i64 X.h
  e3 : X.a0.eval (.tmp 3) = .pointer (some ⟨X.b0, 0, none⟩)
  e4 : X.a0.eval (.tmp 4) = .pointer (some ⟨X.b1, 0, none⟩)
  sz : X.a0.tmps.size = 38
def YA.val0 (X : YA) : Nat → Value
  | 8 => .bool (sdV (X.ax, X.ay) (X.bx, X.cy) X.h).2
  | 11 => .tuple #[.agg #[.int .i64 (sdV (X.ax, X.ay) (X.bx, X.cy) X.h).1.1, .int .i64 (sdV (X.ax, X.ay) (X.bx, X.cy) X.h).1.2], .bool (sdV (X.ax, X.ay) (X.bx, X.cy) X.h).2]
  | 12 => .agg #[.int .i64 X.ax, .int .i64 X.ay]
  | 13 => .agg #[.int .i64 X.ax, .int .i64 X.ay]
  | 14 => .agg #[.int .i64 X.bx, .int .i64 X.cy]
  | 15 => .agg #[.int .i64 X.bx, .int .i64 X.cy]
  | 16 => .int .i64 X.h
  | 17 => .tuple #[.agg #[.int .i64 (sdV (X.ax, X.ay) (X.bx, X.cy) X.h).1.1, .int .i64 (sdV (X.ax, X.ay) (X.bx, X.cy) X.h).1.2], .bool (sdV (X.ax, X.ay) (X.bx, X.cy) X.h).2]
  | 18 => .agg #[.int .i64 (sdV (X.ax, X.ay) (X.bx, X.cy) X.h).1.1, .int .i64 (sdV (X.ax, X.ay) (X.bx, X.cy) X.h).1.2]
  | 19 => .bool (sdV (X.ax, X.ay) (X.bx, X.cy) X.h).2
  | _ => undef
def YA.av : Nat → Option Nat
  | 7 => some 0
  | _ => none
def YA.acts : List Nat := [9, 10]
/-- The world, by how many of the acting ones have come up. -/
def YA.Wd (X : YA) : Nat → (Nat → Value) → World → Prop
  | 0, _, w => Kp X.W w
  | 1, γ, w => ∃ g, γ 0 = .pointer (some ⟨g, 0, none⟩) ∧ X.W.heap.size ≤ g ∧ (w.cell? ⟨g, 0, none⟩ = some (.int .i64 0) ∧ w.cell? ⟨g, 1, none⟩ = some (.int .i64 0)) ∧ (∀ o, w.frozen? ⟨g, o, none⟩ = false) ∧ Kp X.W w
  | _, γ, w => ∃ g, γ 0 = .pointer (some ⟨g, 0, none⟩) ∧ X.W.heap.size ≤ g ∧ (w.cell? ⟨g, 0, none⟩ = some (.int .i64 (sdV (X.ax, X.ay) (X.bx, X.cy) X.h).1.1) ∧ w.cell? ⟨g, 1, none⟩ = some (.int .i64 (sdV (X.ax, X.ay) (X.bx, X.cy) X.h).1.2)) ∧ (∀ o, w.frozen? ⟨g, o, none⟩ = false) ∧ Kp X.W w
theorem YA.kp {X : YA} : ∀ {n : Nat} {γ : Nat → Value} {w : World}, X.Wd n γ w → Kp X.W w
  | 0, _, _, h => h
  | 1, _, _, ⟨_, _, _, _, _, h⟩ => h
  | _ + 2, _, _, ⟨_, _, _, _, _, h⟩ => h
theorem YA.keep {X : YA} : ∀ {n : Nat} {γ : Nat → Value} {w w' : World}, X.Wd n γ w → Kp w w' → X.Wd n γ w'
  | 0, _, _, _, h, k => Kp.trans h k
  | 1, _, w, _, ⟨g, h1, h2, ⟨h30, h31⟩, h5, h6⟩, k => ⟨g, h1, h2, ⟨(k.cells.1 _ _ (World.block_lt_of_cell? w ⟨g, 0, none⟩ h30)).trans h30, (k.cells.1 _ _ (World.block_lt_of_cell? w ⟨g, 0, none⟩ h30)).trans h31⟩, fun o => (k.cells.2 _ _).trans (h5 o), Kp.trans h6 k⟩
  | _ + 2, _, w, _, ⟨g, h1, h2, ⟨h30, h31⟩, h5, h6⟩, k => ⟨g, h1, h2, ⟨(k.cells.1 _ _ (World.block_lt_of_cell? w ⟨g, 0, none⟩ h30)).trans h30, (k.cells.1 _ _ (World.block_lt_of_cell? w ⟨g, 0, none⟩ h30)).trans h31⟩, fun o => (k.cells.2 _ _).trans (h5 o), Kp.trans h6 k⟩
theorem YA.chain : chainG (opsOf 1 Try.f6) YA.acts = true := by kernel_rfl
theorem YA.nodup : YA.acts.Nodup := by decide
theorem YA.inj {listed : Array Bool} {i k : Nat} (h : (List.range (opsOf 1 Try.f6).size).all (fun j => decide (j = i) || !(match dstOf (opsOf 1 Try.f6) j with | some d => decide (YA.av d = some k) | none => false)) = true) (hu : listed.getD i false = false) : ∀ d, got (opsOf 1 Try.f6) listed d → YA.av d ≠ some k := by
  rintro d ⟨j, h1, h2⟩ h3
  have hlt : j < (opsOf 1 Try.f6).size := by
    rcases Nat.lt_or_ge j (opsOf 1 Try.f6).size with h4 | h4
    · exact h4
    · unfold dstOf at h2; rw [Array.getElem?_eq_none h4] at h2; cases h2
  have h5 := List.all_eq_true.1 h j (List.mem_range.2 hlt)
  rw [h2] at h5
  simp only [h3, decide_true, Bool.not_true, Bool.or_false, decide_eq_true_eq] at h5
  subst h5
  rw [hu] at h1
  cases h1
theorem YA.s0 (X : YA) (ok : YAOk X) {Q : Exit → Act → World → Prop} : StepG (opsOf 1 Try.f6) YA.acts YA.av X.val0 X.Wd X.a0 Q 0 := by
  intro γ listed a w o hF hC hW h1 ho h2
  obtain ⟨hd, hop, hg⟩ := fields2 (x := some 12) (y := Op.load 32 (.tmp 3)) (z := none) (by kernel_rfl) ho
  have e3 : a.eval (.tmp 3) = .pointer (some ⟨X.b0, 0, none⟩) := (hF.eval0 (by kernel_rfl)).trans ok.e3
  have hc0 := rq_at (YA.kp hW) ok.c0
  have hc1 := rq_at (YA.kp hW) ok.c1
  refine st_pureG hF hC hW ho h2 (by decide) hd hg rfl ?_
  show _ = Result.ok (Next.value (.agg #[.int .i64 X.ax, .int .i64 X.ay])) w
  generalize a.eval = ρ at e3 ⊢
  unfold execOp
  rw [hop]
  simp [e3, hc0, hc1, go_sem]
theorem YA.s1 (X : YA) (ok : YAOk X) {Q : Exit → Act → World → Prop} : StepG (opsOf 1 Try.f6) YA.acts YA.av X.val0 X.Wd X.a0 Q 1 := by
  intro γ listed a w o hF hC hW h1 ho h2
  obtain ⟨hd, hop, hg⟩ := fields2 (x := some 13) (y := Op.call { callee := .value (.func 14), args := #[(.tmp 12)], argTypes := #[32] }) (z := none) (by kernel_rfl) ho
  have e12 : a.eval (.tmp 12) = .agg #[.int .i64 X.ax, .int .i64 X.ay] := slotG hF ho h2 (j := 0) (d := 12) (by kernel_rfl) (by kernel_rfl) (by rw [ok.sz]; decide)
  have ef : a.eval (.func 14) = .func (.func 14) #[] #[] := rfl
  refine st_callG hF hC hW ho h2 (by decide) hd hg rfl (f := 14) (args := #[.agg #[.int .i64 X.ax, .int .i64 X.ay]]) ?_ ?_ ?_
  · generalize a.eval = ρ at e12 ef ⊢
    unfold execOp
    rw [hop]
    simp [e12, ef, go_sem]
  · exact toPoint_any w _ _
  · intro w' hk; exact YA.keep hW hk
theorem YA.s2 (X : YA) (ok : YAOk X) {Q : Exit → Act → World → Prop} : StepG (opsOf 1 Try.f6) YA.acts YA.av X.val0 X.Wd X.a0 Q 2 := by
  intro γ listed a w o hF hC hW h1 ho h2
  obtain ⟨hd, hop, hg⟩ := fields2 (x := some 14) (y := Op.load 32 (.tmp 4)) (z := none) (by kernel_rfl) ho
  have e4 : a.eval (.tmp 4) = .pointer (some ⟨X.b1, 0, none⟩) := (hF.eval0 (by kernel_rfl)).trans ok.e4
  have hc0 := rq_at (YA.kp hW) ok.c2
  have hc1 := rq_at (YA.kp hW) ok.c3
  refine st_pureG hF hC hW ho h2 (by decide) hd hg rfl ?_
  show _ = Result.ok (Next.value (.agg #[.int .i64 X.bx, .int .i64 X.cy])) w
  generalize a.eval = ρ at e4 ⊢
  unfold execOp
  rw [hop]
  simp [e4, hc0, hc1, go_sem]
theorem YA.s3 (X : YA) (ok : YAOk X) {Q : Exit → Act → World → Prop} : StepG (opsOf 1 Try.f6) YA.acts YA.av X.val0 X.Wd X.a0 Q 3 := by
  intro γ listed a w o hF hC hW h1 ho h2
  obtain ⟨hd, hop, hg⟩ := fields2 (x := some 15) (y := Op.call { callee := .value (.func 14), args := #[(.tmp 14)], argTypes := #[32] }) (z := none) (by kernel_rfl) ho
  have e14 : a.eval (.tmp 14) = .agg #[.int .i64 X.bx, .int .i64 X.cy] := slotG hF ho h2 (j := 2) (d := 14) (by kernel_rfl) (by kernel_rfl) (by rw [ok.sz]; decide)
  have ef : a.eval (.func 14) = .func (.func 14) #[] #[] := rfl
  refine st_callG hF hC hW ho h2 (by decide) hd hg rfl (f := 14) (args := #[.agg #[.int .i64 X.bx, .int .i64 X.cy]]) ?_ ?_ ?_
  · generalize a.eval = ρ at e14 ef ⊢
    unfold execOp
    rw [hop]
    simp [e14, ef, go_sem]
  · exact toPoint_any w _ _
  · intro w' hk; exact YA.keep hW hk
theorem YA.s4 (X : YA) (ok : YAOk X) {Q : Exit → Act → World → Prop} : StepG (opsOf 1 Try.f6) YA.acts YA.av X.val0 X.Wd X.a0 Q 4 := by
  intro γ listed a w o hF hC hW h1 ho h2
  obtain ⟨hd, hop, hg⟩ := fields2 (x := some 16) (y := Op.move (.tmp 2)) (z := none) (by kernel_rfl) ho
  have e2 : a.eval (.tmp 2) = .int .i64 X.h := (hF.eval0 (by kernel_rfl)).trans ok.e2
  refine st_pureG hF hC hW ho h2 (by decide) hd hg rfl ?_
  show _ = Result.ok (Next.value (.int .i64 X.h)) w
  generalize a.eval = ρ at e2 ⊢
  unfold execOp
  rw [hop]
  simp [e2, go_sem]
theorem YA.s5 (X : YA) (ok : YAOk X) {Q : Exit → Act → World → Prop} : StepG (opsOf 1 Try.f6) YA.acts YA.av X.val0 X.Wd X.a0 Q 5 := by
  intro γ listed a w o hF hC hW h1 ho h2
  obtain ⟨hd, hop, hg⟩ := fields2 (x := some 17) (y := Op.call { callee := .value (.func 28), args := #[(.tmp 13), (.tmp 15), (.tmp 16)], argTypes := #[35, 35, 3] }) (z := none) (by kernel_rfl) ho
  have e13 : a.eval (.tmp 13) = .agg #[.int .i64 X.ax, .int .i64 X.ay] := slotG hF ho h2 (j := 1) (d := 13) (by kernel_rfl) (by kernel_rfl) (by rw [ok.sz]; decide)
  have e15 : a.eval (.tmp 15) = .agg #[.int .i64 X.bx, .int .i64 X.cy] := slotG hF ho h2 (j := 3) (d := 15) (by kernel_rfl) (by kernel_rfl) (by rw [ok.sz]; decide)
  have e16 : a.eval (.tmp 16) = .int .i64 X.h := slotG hF ho h2 (j := 4) (d := 16) (by kernel_rfl) (by kernel_rfl) (by rw [ok.sz]; decide)
  have ef : a.eval (.func 28) = .func (.func 28) #[] #[] := rfl
  refine st_callG hF hC hW ho h2 (by decide) hd hg rfl (f := 28) (args := #[.agg #[.int .i64 X.ax, .int .i64 X.ay], .agg #[.int .i64 X.bx, .int .i64 X.cy], .int .i64 X.h]) ?_ ?_ ?_
  · generalize a.eval = ρ at e13 e15 e16 ef ⊢
    unfold execOp
    rw [hop]
    simp [e13, e15, e16, ef, go_sem]
  · exact ssideOf w (X.ax, X.ay) (X.bx, X.cy) X.h
  · intro w' hk; exact YA.keep hW hk
theorem YA.s6 (X : YA) (ok : YAOk X) {Q : Exit → Act → World → Prop} : StepG (opsOf 1 Try.f6) YA.acts YA.av X.val0 X.Wd X.a0 Q 6 := by
  intro γ listed a w o hF hC hW h1 ho h2
  obtain ⟨hd, hop, hg⟩ := fields2 (x := some 11) (y := Op.move (.tmp 17)) (z := none) (by kernel_rfl) ho
  have e17 : a.eval (.tmp 17) = .tuple #[.agg #[.int .i64 (sdV (X.ax, X.ay) (X.bx, X.cy) X.h).1.1, .int .i64 (sdV (X.ax, X.ay) (X.bx, X.cy) X.h).1.2], .bool (sdV (X.ax, X.ay) (X.bx, X.cy) X.h).2] := slotG hF ho h2 (j := 5) (d := 17) (by kernel_rfl) (by kernel_rfl) (by rw [ok.sz]; decide)
  refine st_pureG hF hC hW ho h2 (by decide) hd hg rfl ?_
  show _ = Result.ok (Next.value (.tuple #[.agg #[.int .i64 (sdV (X.ax, X.ay) (X.bx, X.cy) X.h).1.1, .int .i64 (sdV (X.ax, X.ay) (X.bx, X.cy) X.h).1.2], .bool (sdV (X.ax, X.ay) (X.bx, X.cy) X.h).2])) w
  generalize a.eval = ρ at e17 ⊢
  unfold execOp
  rw [hop]
  simp [e17, go_sem]
theorem YA.s7 (X : YA) (ok : YAOk X) {Q : Exit → Act → World → Prop} : StepG (opsOf 1 Try.f6) YA.acts YA.av X.val0 X.Wd X.a0 Q 7 := by
  intro γ listed a w o hF hC hW h1 ho h2
  obtain ⟨hd, hop, hg⟩ := fields2 (x := some 18) (y := Op.extract (.tmp 11) 0) (z := none) (by kernel_rfl) ho
  have e11 : a.eval (.tmp 11) = .tuple #[.agg #[.int .i64 (sdV (X.ax, X.ay) (X.bx, X.cy) X.h).1.1, .int .i64 (sdV (X.ax, X.ay) (X.bx, X.cy) X.h).1.2], .bool (sdV (X.ax, X.ay) (X.bx, X.cy) X.h).2] := slotG hF ho h2 (j := 6) (d := 11) (by kernel_rfl) (by kernel_rfl) (by rw [ok.sz]; decide)
  refine st_pureG hF hC hW ho h2 (by decide) hd hg rfl ?_
  show _ = Result.ok (Next.value (.agg #[.int .i64 (sdV (X.ax, X.ay) (X.bx, X.cy) X.h).1.1, .int .i64 (sdV (X.ax, X.ay) (X.bx, X.cy) X.h).1.2])) w
  generalize a.eval = ρ at e11 ⊢
  unfold execOp
  rw [hop]
  simp [e11, go_sem]
theorem YA.s8 (X : YA) (ok : YAOk X) {Q : Exit → Act → World → Prop} : StepG (opsOf 1 Try.f6) YA.acts YA.av X.val0 X.Wd X.a0 Q 8 := by
  intro γ listed a w o hF hC hW h1 ho h2
  obtain ⟨hd, hop, hg⟩ := fields2 (x := some 19) (y := Op.extract (.tmp 11) 1) (z := none) (by kernel_rfl) ho
  have e11 : a.eval (.tmp 11) = .tuple #[.agg #[.int .i64 (sdV (X.ax, X.ay) (X.bx, X.cy) X.h).1.1, .int .i64 (sdV (X.ax, X.ay) (X.bx, X.cy) X.h).1.2], .bool (sdV (X.ax, X.ay) (X.bx, X.cy) X.h).2] := slotG hF ho h2 (j := 6) (d := 11) (by kernel_rfl) (by kernel_rfl) (by rw [ok.sz]; decide)
  refine st_pureG hF hC hW ho h2 (by decide) hd hg rfl ?_
  show _ = Result.ok (Next.value (.bool (sdV (X.ax, X.ay) (X.bx, X.cy) X.h).2)) w
  generalize a.eval = ρ at e11 ⊢
  unfold execOp
  rw [hop]
  simp [e11, go_sem]
theorem YA.s9 (X : YA) (ok : YAOk X) {Q : Exit → Act → World → Prop} : StepG (opsOf 1 Try.f6) YA.acts YA.av X.val0 X.Wd X.a0 Q 9 := by
  intro γ listed a w o hF hC hW h1 ho h2
  obtain ⟨hd, hop, hg⟩ := fields2 (x := some 7) (y := Op.alloc 35) (z := none) (by kernel_rfl) ho
  have hu := unl (hF.lt ho) h1
  refine st_actG (k := 0) YA.chain YA.nodup rfl hF hC hW h1 ho h2 (Or.inr ⟨7, hd, rfl⟩) (YA.inj (by kernel_rfl) hu) hg ?_
  intro hW0 K hK
  have hr : (execOp a.eval o).run Try.prog w = .ok (.value (.pointer (some ⟨w.heap.size, 0, none⟩))) (w.alloc (.cells #[.int .i64 0, .int .i64 0] 35)) := by
    unfold execOp
    rw [hop]
    simp [go_sem]
  unfold Oper.wp
  rw [hr]
  exact hK _ _ ⟨w.heap.size, rfl, Kp.size hW0, ⟨by simp, by simp⟩, fun o => World.frozen?_alloc_at _ _ _ _ rfl, Kp.alloc hW0 _ _⟩
theorem YA.s10 (X : YA) (ok : YAOk X) {Q : Exit → Act → World → Prop} : StepG (opsOf 1 Try.f6) YA.acts YA.av X.val0 X.Wd X.a0 Q 10 := by
  intro γ listed a w o hF hC hW h1 ho h2
  obtain ⟨hd, hop, hg⟩ := fields2 (x := none) (y := Op.store 35 (.tmp 7) (.tmp 18)) (z := none) (by kernel_rfl) ho
  have e7 : a.eval (.tmp 7) = γ 0 := slotG hF ho h2 (j := 9) (d := 7) (by kernel_rfl) (by kernel_rfl) (by rw [ok.sz]; decide)
  have e18 : a.eval (.tmp 18) = .agg #[.int .i64 (sdV (X.ax, X.ay) (X.bx, X.cy) X.h).1.1, .int .i64 (sdV (X.ax, X.ay) (X.bx, X.cy) X.h).1.2] := slotG hF ho h2 (j := 7) (d := 18) (by kernel_rfl) (by kernel_rfl) (by rw [ok.sz]; decide)
  have hu := unl (hF.lt ho) h1
  refine st_actG (k := 1) YA.chain YA.nodup rfl hF hC hW h1 ho h2 (Or.inl hd) (YA.inj (by kernel_rfl) hu) hg ?_
  intro hW0 K hK
  obtain ⟨g, g0, hg0, ⟨z0, z1⟩, zf, k1⟩ := hW0
  rw [g0] at e7
  obtain ⟨y0, y1⟩ := rq_set2 w g (.int .i64 (sdV (X.ax, X.ay) (X.bx, X.cy) X.h).1.1) (.int .i64 (sdV (X.ax, X.ay) (X.bx, X.cy) X.h).1.2) z0 z1
  have hr : (execOp a.eval o).run Try.prog w = .ok .skip ((w.setCell ⟨g, 0, none⟩ (.int .i64 (sdV (X.ax, X.ay) (X.bx, X.cy) X.h).1.1)).setCell ⟨g, 1, none⟩ (.int .i64 (sdV (X.ax, X.ay) (X.bx, X.cy) X.h).1.2)) := by
    generalize a.eval = ρ at e7 e18 ⊢
    unfold execOp
    rw [hop]
    simp [e7, e18, z0, z1, zf, go_sem]
  unfold Oper.wp
  rw [hr]
  exact hK _ _ ⟨g, g0, hg0, ⟨y0, y1⟩, fun o => by rw [World.frozen?_setCell, World.frozen?_setCell]; exact zf o, (Kp.setCell (Kp.setCell k1 hg0 _) hg0 _)⟩
theorem YA.s11 (X : YA) (ok : YAOk X) {Q : Exit → Act → World → Prop} : StepG (opsOf 1 Try.f6) YA.acts YA.av X.val0 X.Wd X.a0 Q 11 := by
  intro γ listed a w o hF hC hW h1 ho h2
  obtain ⟨hd, hop, hg⟩ := fields2 (x := some 8) (y := Op.assign (.tmp 19)) (z := none) (by kernel_rfl) ho
  have e19 : a.eval (.tmp 19) = .bool (sdV (X.ax, X.ay) (X.bx, X.cy) X.h).2 := slotG hF ho h2 (j := 8) (d := 19) (by kernel_rfl) (by kernel_rfl) (by rw [ok.sz]; decide)
  refine st_pureG hF hC hW ho h2 (by decide) hd hg rfl ?_
  show _ = Result.ok (Next.value (.bool (sdV (X.ax, X.ay) (X.bx, X.cy) X.h).2)) w
  generalize a.eval = ρ at e19 ⊢
  unfold execOp
  rw [hop]
  simp [e19, go_sem]
theorem YA.size : (opsOf 1 Try.f6).size = 12 := by kernel_rfl
theorem YA.steps (X : YA) (ok : YAOk X) {Q : Exit → Act → World → Prop} (i : Nat) (hi : i < (opsOf 1 Try.f6).size) : StepG (opsOf 1 Try.f6) YA.acts YA.av X.val0 X.Wd X.a0 Q i := by
  rw [YA.size] at hi
  have hc : i = 0 ∨ i = 1 ∨ i = 2 ∨ i = 3 ∨ i = 4 ∨ i = 5 ∨ i = 6 ∨ i = 7 ∨ i = 8 ∨ i = 9 ∨ i = 10 ∨ i = 11 := by omega
  rcases hc with rfl | rfl | rfl | rfl | rfl | rfl | rfl | rfl | rfl | rfl | rfl | rfl
  · exact YA.s0 X ok
  · exact YA.s1 X ok
  · exact YA.s2 X ok
  · exact YA.s3 X ok
  · exact YA.s4 X ok
  · exact YA.s5 X ok
  · exact YA.s6 X ok
  · exact YA.s7 X ok
  · exact YA.s8 X ok
  · exact YA.s9 X ok
  · exact YA.s10 X ok
  · exact YA.s11 X ok
theorem YA.puts (X : YA) (γ : Nat → Value) (a0 : Act) : putsL (valG YA.av X.val0 γ) (opsOf 1 Try.f6).toList a0 = (((((((((((a0.put (some 12) (.agg #[.int .i64 X.ax, .int .i64 X.ay])).put (some 13) (.agg #[.int .i64 X.ax, .int .i64 X.ay])).put (some 14) (.agg #[.int .i64 X.bx, .int .i64 X.cy])).put (some 15) (.agg #[.int .i64 X.bx, .int .i64 X.cy])).put (some 16) (.int .i64 X.h)).put (some 17) (.tuple #[.agg #[.int .i64 (sdV (X.ax, X.ay) (X.bx, X.cy) X.h).1.1, .int .i64 (sdV (X.ax, X.ay) (X.bx, X.cy) X.h).1.2], .bool (sdV (X.ax, X.ay) (X.bx, X.cy) X.h).2])).put (some 11) (.tuple #[.agg #[.int .i64 (sdV (X.ax, X.ay) (X.bx, X.cy) X.h).1.1, .int .i64 (sdV (X.ax, X.ay) (X.bx, X.cy) X.h).1.2], .bool (sdV (X.ax, X.ay) (X.bx, X.cy) X.h).2])).put (some 18) (.agg #[.int .i64 (sdV (X.ax, X.ay) (X.bx, X.cy) X.h).1.1, .int .i64 (sdV (X.ax, X.ay) (X.bx, X.cy) X.h).1.2])).put (some 19) (.bool (sdV (X.ax, X.ay) (X.bx, X.cy) X.h).2)).put (some 7) (γ 0)).put (some 8) (.bool (sdV (X.ax, X.ay) (X.bx, X.cy) X.h).2)) := by kernel_rfl
/-- The region, whatever order comes up. -/
theorem YA.run (X : YA) (ok : YAOk X) {Q : Exit → Act → World → Prop} (w : World) (h0 : X.Wd 0 (fun _ => undef) w.drew) (hend : ∀ (γ : Nat → Value) w', X.Wd 2 γ w' → Q .normal (((((((((((X.a0.put (some 12) (.agg #[.int .i64 X.ax, .int .i64 X.ay])).put (some 13) (.agg #[.int .i64 X.ax, .int .i64 X.ay])).put (some 14) (.agg #[.int .i64 X.bx, .int .i64 X.cy])).put (some 15) (.agg #[.int .i64 X.bx, .int .i64 X.cy])).put (some 16) (.int .i64 X.h)).put (some 17) (.tuple #[.agg #[.int .i64 (sdV (X.ax, X.ay) (X.bx, X.cy) X.h).1.1, .int .i64 (sdV (X.ax, X.ay) (X.bx, X.cy) X.h).1.2], .bool (sdV (X.ax, X.ay) (X.bx, X.cy) X.h).2])).put (some 11) (.tuple #[.agg #[.int .i64 (sdV (X.ax, X.ay) (X.bx, X.cy) X.h).1.1, .int .i64 (sdV (X.ax, X.ay) (X.bx, X.cy) X.h).1.2], .bool (sdV (X.ax, X.ay) (X.bx, X.cy) X.h).2])).put (some 18) (.agg #[.int .i64 (sdV (X.ax, X.ay) (X.bx, X.cy) X.h).1.1, .int .i64 (sdV (X.ax, X.ay) (X.bx, X.cy) X.h).1.2])).put (some 19) (.bool (sdV (X.ax, X.ay) (X.bx, X.cy) X.h).2)).put (some 7) (γ 0)).put (some 8) (.bool (sdV (X.ax, X.ay) (X.bx, X.cy) X.h).2)) w') : (Code.region 1 (opsOf 1 Try.f6) true).wp Try.prog Q X.a0 w := by
  refine reg_act (acts := YA.acts) (av := YA.av) (val0 := X.val0) (Wd := X.Wd) (by kernel_rfl) (by kernel_rfl) (by rw [YA.size]; decide) (fun i hi => YA.steps X ok i hi) _ h0 ?_
  intro γ w' h
  rw [YA.puts]
  exact hend γ w' h
structure YB where
  ax : Int
  ay : Int
  bx : Int
  cy : Int
  h : Int
  b0 : Nat
  b1 : Nat
  W : World
  a0 : Act
structure YBOk (X : YB) : Prop where
  c0 : X.W.cell? ⟨X.b0, 0, none⟩ = some (.int .i64 X.ax)
  c1 : X.W.cell? ⟨X.b0, 1, none⟩ = some (.int .i64 X.ay)
  c2 : X.W.cell? ⟨X.b1, 0, none⟩ = some (.int .i64 X.bx)
  c3 : X.W.cell? ⟨X.b1, 1, none⟩ = some (.int .i64 X.cy)
  e2 : X.a0.eval (.tmp 2) = .int .i64 X.h
  e3 : X.a0.eval (.tmp 3) = .pointer (some ⟨X.b0, 0, none⟩)
  e4 : X.a0.eval (.tmp 4) = .pointer (some ⟨X.b1, 0, none⟩)
  sz : X.a0.tmps.size = 38
def YB.val0 (X : YB) : Nat → Value
  | 10 => .bool (sdV (X.ax, X.ay) (X.bx, X.cy) X.h).2
  | 20 => .tuple #[.agg #[.int .i64 (sdV (X.ax, X.ay) (X.bx, X.cy) X.h).1.1, .int .i64 (sdV (X.ax, X.ay) (X.bx, X.cy) X.h).1.2], .bool (sdV (X.ax, X.ay) (X.bx, X.cy) X.h).2]
  | 21 => .agg #[.int .i64 X.ax, .int .i64 X.ay]
  | 22 => .agg #[.int .i64 X.ax, .int .i64 X.ay]
  | 23 => .agg #[.int .i64 X.bx, .int .i64 X.cy]
  | 24 => .agg #[.int .i64 X.bx, .int .i64 X.cy]
  | 25 => .int .i64 X.h
  | 26 => .tuple #[.agg #[.int .i64 (sdV (X.ax, X.ay) (X.bx, X.cy) X.h).1.1, .int .i64 (sdV (X.ax, X.ay) (X.bx, X.cy) X.h).1.2], .bool (sdV (X.ax, X.ay) (X.bx, X.cy) X.h).2]
  | 27 => .agg #[.int .i64 (sdV (X.ax, X.ay) (X.bx, X.cy) X.h).1.1, .int .i64 (sdV (X.ax, X.ay) (X.bx, X.cy) X.h).1.2]
  | 28 => .bool (sdV (X.ax, X.ay) (X.bx, X.cy) X.h).2
  | _ => undef
def YB.av : Nat → Option Nat
  | 9 => some 0
  | _ => none
def YB.acts : List Nat := [9, 10]
/-- The world, by how many of the acting ones have come up. -/
def YB.Wd (X : YB) : Nat → (Nat → Value) → World → Prop
  | 0, _, w => Kp X.W w
  | 1, γ, w => ∃ g, γ 0 = .pointer (some ⟨g, 0, none⟩) ∧ X.W.heap.size ≤ g ∧ (w.cell? ⟨g, 0, none⟩ = some (.int .i64 0) ∧ w.cell? ⟨g, 1, none⟩ = some (.int .i64 0)) ∧ (∀ o, w.frozen? ⟨g, o, none⟩ = false) ∧ Kp X.W w
  | _, γ, w => ∃ g, γ 0 = .pointer (some ⟨g, 0, none⟩) ∧ X.W.heap.size ≤ g ∧ (w.cell? ⟨g, 0, none⟩ = some (.int .i64 (sdV (X.ax, X.ay) (X.bx, X.cy) X.h).1.1) ∧ w.cell? ⟨g, 1, none⟩ = some (.int .i64 (sdV (X.ax, X.ay) (X.bx, X.cy) X.h).1.2)) ∧ (∀ o, w.frozen? ⟨g, o, none⟩ = false) ∧ Kp X.W w
theorem YB.kp {X : YB} : ∀ {n : Nat} {γ : Nat → Value} {w : World}, X.Wd n γ w → Kp X.W w
  | 0, _, _, h => h
  | 1, _, _, ⟨_, _, _, _, _, h⟩ => h
  | _ + 2, _, _, ⟨_, _, _, _, _, h⟩ => h
theorem YB.keep {X : YB} : ∀ {n : Nat} {γ : Nat → Value} {w w' : World}, X.Wd n γ w → Kp w w' → X.Wd n γ w'
  | 0, _, _, _, h, k => Kp.trans h k
  | 1, _, w, _, ⟨g, h1, h2, ⟨h30, h31⟩, h5, h6⟩, k => ⟨g, h1, h2, ⟨(k.cells.1 _ _ (World.block_lt_of_cell? w ⟨g, 0, none⟩ h30)).trans h30, (k.cells.1 _ _ (World.block_lt_of_cell? w ⟨g, 0, none⟩ h30)).trans h31⟩, fun o => (k.cells.2 _ _).trans (h5 o), Kp.trans h6 k⟩
  | _ + 2, _, w, _, ⟨g, h1, h2, ⟨h30, h31⟩, h5, h6⟩, k => ⟨g, h1, h2, ⟨(k.cells.1 _ _ (World.block_lt_of_cell? w ⟨g, 0, none⟩ h30)).trans h30, (k.cells.1 _ _ (World.block_lt_of_cell? w ⟨g, 0, none⟩ h30)).trans h31⟩, fun o => (k.cells.2 _ _).trans (h5 o), Kp.trans h6 k⟩
theorem YB.chain : chainG (opsOf 2 Try.f6) YB.acts = true := by kernel_rfl
theorem YB.nodup : YB.acts.Nodup := by decide
theorem YB.inj {listed : Array Bool} {i k : Nat} (h : (List.range (opsOf 2 Try.f6).size).all (fun j => decide (j = i) || !(match dstOf (opsOf 2 Try.f6) j with | some d => decide (YB.av d = some k) | none => false)) = true) (hu : listed.getD i false = false) : ∀ d, got (opsOf 2 Try.f6) listed d → YB.av d ≠ some k := by
  rintro d ⟨j, h1, h2⟩ h3
  have hlt : j < (opsOf 2 Try.f6).size := by
    rcases Nat.lt_or_ge j (opsOf 2 Try.f6).size with h4 | h4
    · exact h4
    · unfold dstOf at h2; rw [Array.getElem?_eq_none h4] at h2; cases h2
  have h5 := List.all_eq_true.1 h j (List.mem_range.2 hlt)
  rw [h2] at h5
  simp only [h3, decide_true, Bool.not_true, Bool.or_false, decide_eq_true_eq] at h5
  subst h5
  rw [hu] at h1
  cases h1
theorem YB.s0 (X : YB) (ok : YBOk X) {Q : Exit → Act → World → Prop} : StepG (opsOf 2 Try.f6) YB.acts YB.av X.val0 X.Wd X.a0 Q 0 := by
  intro γ listed a w o hF hC hW h1 ho h2
  obtain ⟨hd, hop, hg⟩ := fields2 (x := some 21) (y := Op.load 32 (.tmp 3)) (z := none) (by kernel_rfl) ho
  have e3 : a.eval (.tmp 3) = .pointer (some ⟨X.b0, 0, none⟩) := (hF.eval0 (by kernel_rfl)).trans ok.e3
  have hc0 := rq_at (YB.kp hW) ok.c0
  have hc1 := rq_at (YB.kp hW) ok.c1
  refine st_pureG hF hC hW ho h2 (by decide) hd hg rfl ?_
  show _ = Result.ok (Next.value (.agg #[.int .i64 X.ax, .int .i64 X.ay])) w
  generalize a.eval = ρ at e3 ⊢
  unfold execOp
  rw [hop]
  simp [e3, hc0, hc1, go_sem]
theorem YB.s1 (X : YB) (ok : YBOk X) {Q : Exit → Act → World → Prop} : StepG (opsOf 2 Try.f6) YB.acts YB.av X.val0 X.Wd X.a0 Q 1 := by
  intro γ listed a w o hF hC hW h1 ho h2
  obtain ⟨hd, hop, hg⟩ := fields2 (x := some 22) (y := Op.call { callee := .value (.func 14), args := #[(.tmp 21)], argTypes := #[32] }) (z := none) (by kernel_rfl) ho
  have e21 : a.eval (.tmp 21) = .agg #[.int .i64 X.ax, .int .i64 X.ay] := slotG hF ho h2 (j := 0) (d := 21) (by kernel_rfl) (by kernel_rfl) (by rw [ok.sz]; decide)
  have ef : a.eval (.func 14) = .func (.func 14) #[] #[] := rfl
  refine st_callG hF hC hW ho h2 (by decide) hd hg rfl (f := 14) (args := #[.agg #[.int .i64 X.ax, .int .i64 X.ay]]) ?_ ?_ ?_
  · generalize a.eval = ρ at e21 ef ⊢
    unfold execOp
    rw [hop]
    simp [e21, ef, go_sem]
  · exact toPoint_any w _ _
  · intro w' hk; exact YB.keep hW hk
theorem YB.s2 (X : YB) (ok : YBOk X) {Q : Exit → Act → World → Prop} : StepG (opsOf 2 Try.f6) YB.acts YB.av X.val0 X.Wd X.a0 Q 2 := by
  intro γ listed a w o hF hC hW h1 ho h2
  obtain ⟨hd, hop, hg⟩ := fields2 (x := some 23) (y := Op.load 32 (.tmp 4)) (z := none) (by kernel_rfl) ho
  have e4 : a.eval (.tmp 4) = .pointer (some ⟨X.b1, 0, none⟩) := (hF.eval0 (by kernel_rfl)).trans ok.e4
  have hc0 := rq_at (YB.kp hW) ok.c2
  have hc1 := rq_at (YB.kp hW) ok.c3
  refine st_pureG hF hC hW ho h2 (by decide) hd hg rfl ?_
  show _ = Result.ok (Next.value (.agg #[.int .i64 X.bx, .int .i64 X.cy])) w
  generalize a.eval = ρ at e4 ⊢
  unfold execOp
  rw [hop]
  simp [e4, hc0, hc1, go_sem]
theorem YB.s3 (X : YB) (ok : YBOk X) {Q : Exit → Act → World → Prop} : StepG (opsOf 2 Try.f6) YB.acts YB.av X.val0 X.Wd X.a0 Q 3 := by
  intro γ listed a w o hF hC hW h1 ho h2
  obtain ⟨hd, hop, hg⟩ := fields2 (x := some 24) (y := Op.call { callee := .value (.func 14), args := #[(.tmp 23)], argTypes := #[32] }) (z := none) (by kernel_rfl) ho
  have e23 : a.eval (.tmp 23) = .agg #[.int .i64 X.bx, .int .i64 X.cy] := slotG hF ho h2 (j := 2) (d := 23) (by kernel_rfl) (by kernel_rfl) (by rw [ok.sz]; decide)
  have ef : a.eval (.func 14) = .func (.func 14) #[] #[] := rfl
  refine st_callG hF hC hW ho h2 (by decide) hd hg rfl (f := 14) (args := #[.agg #[.int .i64 X.bx, .int .i64 X.cy]]) ?_ ?_ ?_
  · generalize a.eval = ρ at e23 ef ⊢
    unfold execOp
    rw [hop]
    simp [e23, ef, go_sem]
  · exact toPoint_any w _ _
  · intro w' hk; exact YB.keep hW hk
theorem YB.s4 (X : YB) (ok : YBOk X) {Q : Exit → Act → World → Prop} : StepG (opsOf 2 Try.f6) YB.acts YB.av X.val0 X.Wd X.a0 Q 4 := by
  intro γ listed a w o hF hC hW h1 ho h2
  obtain ⟨hd, hop, hg⟩ := fields2 (x := some 25) (y := Op.move (.tmp 2)) (z := none) (by kernel_rfl) ho
  have e2 : a.eval (.tmp 2) = .int .i64 X.h := (hF.eval0 (by kernel_rfl)).trans ok.e2
  refine st_pureG hF hC hW ho h2 (by decide) hd hg rfl ?_
  show _ = Result.ok (Next.value (.int .i64 X.h)) w
  generalize a.eval = ρ at e2 ⊢
  unfold execOp
  rw [hop]
  simp [e2, go_sem]
theorem YB.s5 (X : YB) (ok : YBOk X) {Q : Exit → Act → World → Prop} : StepG (opsOf 2 Try.f6) YB.acts YB.av X.val0 X.Wd X.a0 Q 5 := by
  intro γ listed a w o hF hC hW h1 ho h2
  obtain ⟨hd, hop, hg⟩ := fields2 (x := some 26) (y := Op.call { callee := .value (.func 29), args := #[(.tmp 22), (.tmp 24), (.tmp 25)], argTypes := #[35, 35, 3] }) (z := none) (by kernel_rfl) ho
  have e22 : a.eval (.tmp 22) = .agg #[.int .i64 X.ax, .int .i64 X.ay] := slotG hF ho h2 (j := 1) (d := 22) (by kernel_rfl) (by kernel_rfl) (by rw [ok.sz]; decide)
  have e24 : a.eval (.tmp 24) = .agg #[.int .i64 X.bx, .int .i64 X.cy] := slotG hF ho h2 (j := 3) (d := 24) (by kernel_rfl) (by kernel_rfl) (by rw [ok.sz]; decide)
  have e25 : a.eval (.tmp 25) = .int .i64 X.h := slotG hF ho h2 (j := 4) (d := 25) (by kernel_rfl) (by kernel_rfl) (by rw [ok.sz]; decide)
  have ef : a.eval (.func 29) = .func (.func 29) #[] #[] := rfl
  refine st_callG hF hC hW ho h2 (by decide) hd hg rfl (f := 29) (args := #[.agg #[.int .i64 X.ax, .int .i64 X.ay], .agg #[.int .i64 X.bx, .int .i64 X.cy], .int .i64 X.h]) ?_ ?_ ?_
  · generalize a.eval = ρ at e22 e24 e25 ef ⊢
    unfold execOp
    rw [hop]
    simp [e22, e24, e25, ef, go_sem]
  · exact isideOf w (X.ax, X.ay) (X.bx, X.cy) X.h
  · intro w' hk; exact YB.keep hW hk
theorem YB.s6 (X : YB) (ok : YBOk X) {Q : Exit → Act → World → Prop} : StepG (opsOf 2 Try.f6) YB.acts YB.av X.val0 X.Wd X.a0 Q 6 := by
  intro γ listed a w o hF hC hW h1 ho h2
  obtain ⟨hd, hop, hg⟩ := fields2 (x := some 20) (y := Op.move (.tmp 26)) (z := none) (by kernel_rfl) ho
  have e26 : a.eval (.tmp 26) = .tuple #[.agg #[.int .i64 (sdV (X.ax, X.ay) (X.bx, X.cy) X.h).1.1, .int .i64 (sdV (X.ax, X.ay) (X.bx, X.cy) X.h).1.2], .bool (sdV (X.ax, X.ay) (X.bx, X.cy) X.h).2] := slotG hF ho h2 (j := 5) (d := 26) (by kernel_rfl) (by kernel_rfl) (by rw [ok.sz]; decide)
  refine st_pureG hF hC hW ho h2 (by decide) hd hg rfl ?_
  show _ = Result.ok (Next.value (.tuple #[.agg #[.int .i64 (sdV (X.ax, X.ay) (X.bx, X.cy) X.h).1.1, .int .i64 (sdV (X.ax, X.ay) (X.bx, X.cy) X.h).1.2], .bool (sdV (X.ax, X.ay) (X.bx, X.cy) X.h).2])) w
  generalize a.eval = ρ at e26 ⊢
  unfold execOp
  rw [hop]
  simp [e26, go_sem]
theorem YB.s7 (X : YB) (ok : YBOk X) {Q : Exit → Act → World → Prop} : StepG (opsOf 2 Try.f6) YB.acts YB.av X.val0 X.Wd X.a0 Q 7 := by
  intro γ listed a w o hF hC hW h1 ho h2
  obtain ⟨hd, hop, hg⟩ := fields2 (x := some 27) (y := Op.extract (.tmp 20) 0) (z := none) (by kernel_rfl) ho
  have e20 : a.eval (.tmp 20) = .tuple #[.agg #[.int .i64 (sdV (X.ax, X.ay) (X.bx, X.cy) X.h).1.1, .int .i64 (sdV (X.ax, X.ay) (X.bx, X.cy) X.h).1.2], .bool (sdV (X.ax, X.ay) (X.bx, X.cy) X.h).2] := slotG hF ho h2 (j := 6) (d := 20) (by kernel_rfl) (by kernel_rfl) (by rw [ok.sz]; decide)
  refine st_pureG hF hC hW ho h2 (by decide) hd hg rfl ?_
  show _ = Result.ok (Next.value (.agg #[.int .i64 (sdV (X.ax, X.ay) (X.bx, X.cy) X.h).1.1, .int .i64 (sdV (X.ax, X.ay) (X.bx, X.cy) X.h).1.2])) w
  generalize a.eval = ρ at e20 ⊢
  unfold execOp
  rw [hop]
  simp [e20, go_sem]
theorem YB.s8 (X : YB) (ok : YBOk X) {Q : Exit → Act → World → Prop} : StepG (opsOf 2 Try.f6) YB.acts YB.av X.val0 X.Wd X.a0 Q 8 := by
  intro γ listed a w o hF hC hW h1 ho h2
  obtain ⟨hd, hop, hg⟩ := fields2 (x := some 28) (y := Op.extract (.tmp 20) 1) (z := none) (by kernel_rfl) ho
  have e20 : a.eval (.tmp 20) = .tuple #[.agg #[.int .i64 (sdV (X.ax, X.ay) (X.bx, X.cy) X.h).1.1, .int .i64 (sdV (X.ax, X.ay) (X.bx, X.cy) X.h).1.2], .bool (sdV (X.ax, X.ay) (X.bx, X.cy) X.h).2] := slotG hF ho h2 (j := 6) (d := 20) (by kernel_rfl) (by kernel_rfl) (by rw [ok.sz]; decide)
  refine st_pureG hF hC hW ho h2 (by decide) hd hg rfl ?_
  show _ = Result.ok (Next.value (.bool (sdV (X.ax, X.ay) (X.bx, X.cy) X.h).2)) w
  generalize a.eval = ρ at e20 ⊢
  unfold execOp
  rw [hop]
  simp [e20, go_sem]
theorem YB.s9 (X : YB) (ok : YBOk X) {Q : Exit → Act → World → Prop} : StepG (opsOf 2 Try.f6) YB.acts YB.av X.val0 X.Wd X.a0 Q 9 := by
  intro γ listed a w o hF hC hW h1 ho h2
  obtain ⟨hd, hop, hg⟩ := fields2 (x := some 9) (y := Op.alloc 35) (z := none) (by kernel_rfl) ho
  have hu := unl (hF.lt ho) h1
  refine st_actG (k := 0) YB.chain YB.nodup rfl hF hC hW h1 ho h2 (Or.inr ⟨9, hd, rfl⟩) (YB.inj (by kernel_rfl) hu) hg ?_
  intro hW0 K hK
  have hr : (execOp a.eval o).run Try.prog w = .ok (.value (.pointer (some ⟨w.heap.size, 0, none⟩))) (w.alloc (.cells #[.int .i64 0, .int .i64 0] 35)) := by
    unfold execOp
    rw [hop]
    simp [go_sem]
  unfold Oper.wp
  rw [hr]
  exact hK _ _ ⟨w.heap.size, rfl, Kp.size hW0, ⟨by simp, by simp⟩, fun o => World.frozen?_alloc_at _ _ _ _ rfl, Kp.alloc hW0 _ _⟩
theorem YB.s10 (X : YB) (ok : YBOk X) {Q : Exit → Act → World → Prop} : StepG (opsOf 2 Try.f6) YB.acts YB.av X.val0 X.Wd X.a0 Q 10 := by
  intro γ listed a w o hF hC hW h1 ho h2
  obtain ⟨hd, hop, hg⟩ := fields2 (x := none) (y := Op.store 35 (.tmp 9) (.tmp 27)) (z := none) (by kernel_rfl) ho
  have e9 : a.eval (.tmp 9) = γ 0 := slotG hF ho h2 (j := 9) (d := 9) (by kernel_rfl) (by kernel_rfl) (by rw [ok.sz]; decide)
  have e27 : a.eval (.tmp 27) = .agg #[.int .i64 (sdV (X.ax, X.ay) (X.bx, X.cy) X.h).1.1, .int .i64 (sdV (X.ax, X.ay) (X.bx, X.cy) X.h).1.2] := slotG hF ho h2 (j := 7) (d := 27) (by kernel_rfl) (by kernel_rfl) (by rw [ok.sz]; decide)
  have hu := unl (hF.lt ho) h1
  refine st_actG (k := 1) YB.chain YB.nodup rfl hF hC hW h1 ho h2 (Or.inl hd) (YB.inj (by kernel_rfl) hu) hg ?_
  intro hW0 K hK
  obtain ⟨g, g0, hg0, ⟨z0, z1⟩, zf, k1⟩ := hW0
  rw [g0] at e9
  obtain ⟨y0, y1⟩ := rq_set2 w g (.int .i64 (sdV (X.ax, X.ay) (X.bx, X.cy) X.h).1.1) (.int .i64 (sdV (X.ax, X.ay) (X.bx, X.cy) X.h).1.2) z0 z1
  have hr : (execOp a.eval o).run Try.prog w = .ok .skip ((w.setCell ⟨g, 0, none⟩ (.int .i64 (sdV (X.ax, X.ay) (X.bx, X.cy) X.h).1.1)).setCell ⟨g, 1, none⟩ (.int .i64 (sdV (X.ax, X.ay) (X.bx, X.cy) X.h).1.2)) := by
    generalize a.eval = ρ at e9 e27 ⊢
    unfold execOp
    rw [hop]
    simp [e9, e27, z0, z1, zf, go_sem]
  unfold Oper.wp
  rw [hr]
  exact hK _ _ ⟨g, g0, hg0, ⟨y0, y1⟩, fun o => by rw [World.frozen?_setCell, World.frozen?_setCell]; exact zf o, (Kp.setCell (Kp.setCell k1 hg0 _) hg0 _)⟩
theorem YB.s11 (X : YB) (ok : YBOk X) {Q : Exit → Act → World → Prop} : StepG (opsOf 2 Try.f6) YB.acts YB.av X.val0 X.Wd X.a0 Q 11 := by
  intro γ listed a w o hF hC hW h1 ho h2
  obtain ⟨hd, hop, hg⟩ := fields2 (x := some 10) (y := Op.assign (.tmp 28)) (z := none) (by kernel_rfl) ho
  have e28 : a.eval (.tmp 28) = .bool (sdV (X.ax, X.ay) (X.bx, X.cy) X.h).2 := slotG hF ho h2 (j := 8) (d := 28) (by kernel_rfl) (by kernel_rfl) (by rw [ok.sz]; decide)
  refine st_pureG hF hC hW ho h2 (by decide) hd hg rfl ?_
  show _ = Result.ok (Next.value (.bool (sdV (X.ax, X.ay) (X.bx, X.cy) X.h).2)) w
  generalize a.eval = ρ at e28 ⊢
  unfold execOp
  rw [hop]
  simp [e28, go_sem]
theorem YB.size : (opsOf 2 Try.f6).size = 12 := by kernel_rfl
theorem YB.steps (X : YB) (ok : YBOk X) {Q : Exit → Act → World → Prop} (i : Nat) (hi : i < (opsOf 2 Try.f6).size) : StepG (opsOf 2 Try.f6) YB.acts YB.av X.val0 X.Wd X.a0 Q i := by
  rw [YB.size] at hi
  have hc : i = 0 ∨ i = 1 ∨ i = 2 ∨ i = 3 ∨ i = 4 ∨ i = 5 ∨ i = 6 ∨ i = 7 ∨ i = 8 ∨ i = 9 ∨ i = 10 ∨ i = 11 := by omega
  rcases hc with rfl | rfl | rfl | rfl | rfl | rfl | rfl | rfl | rfl | rfl | rfl | rfl
  · exact YB.s0 X ok
  · exact YB.s1 X ok
  · exact YB.s2 X ok
  · exact YB.s3 X ok
  · exact YB.s4 X ok
  · exact YB.s5 X ok
  · exact YB.s6 X ok
  · exact YB.s7 X ok
  · exact YB.s8 X ok
  · exact YB.s9 X ok
  · exact YB.s10 X ok
  · exact YB.s11 X ok
theorem YB.puts (X : YB) (γ : Nat → Value) (a0 : Act) : putsL (valG YB.av X.val0 γ) (opsOf 2 Try.f6).toList a0 = (((((((((((a0.put (some 21) (.agg #[.int .i64 X.ax, .int .i64 X.ay])).put (some 22) (.agg #[.int .i64 X.ax, .int .i64 X.ay])).put (some 23) (.agg #[.int .i64 X.bx, .int .i64 X.cy])).put (some 24) (.agg #[.int .i64 X.bx, .int .i64 X.cy])).put (some 25) (.int .i64 X.h)).put (some 26) (.tuple #[.agg #[.int .i64 (sdV (X.ax, X.ay) (X.bx, X.cy) X.h).1.1, .int .i64 (sdV (X.ax, X.ay) (X.bx, X.cy) X.h).1.2], .bool (sdV (X.ax, X.ay) (X.bx, X.cy) X.h).2])).put (some 20) (.tuple #[.agg #[.int .i64 (sdV (X.ax, X.ay) (X.bx, X.cy) X.h).1.1, .int .i64 (sdV (X.ax, X.ay) (X.bx, X.cy) X.h).1.2], .bool (sdV (X.ax, X.ay) (X.bx, X.cy) X.h).2])).put (some 27) (.agg #[.int .i64 (sdV (X.ax, X.ay) (X.bx, X.cy) X.h).1.1, .int .i64 (sdV (X.ax, X.ay) (X.bx, X.cy) X.h).1.2])).put (some 28) (.bool (sdV (X.ax, X.ay) (X.bx, X.cy) X.h).2)).put (some 9) (γ 0)).put (some 10) (.bool (sdV (X.ax, X.ay) (X.bx, X.cy) X.h).2)) := by kernel_rfl
/-- The region, whatever order comes up. -/
theorem YB.run (X : YB) (ok : YBOk X) {Q : Exit → Act → World → Prop} (w : World) (h0 : X.Wd 0 (fun _ => undef) w.drew) (hend : ∀ (γ : Nat → Value) w', X.Wd 2 γ w' → Q .normal (((((((((((X.a0.put (some 21) (.agg #[.int .i64 X.ax, .int .i64 X.ay])).put (some 22) (.agg #[.int .i64 X.ax, .int .i64 X.ay])).put (some 23) (.agg #[.int .i64 X.bx, .int .i64 X.cy])).put (some 24) (.agg #[.int .i64 X.bx, .int .i64 X.cy])).put (some 25) (.int .i64 X.h)).put (some 26) (.tuple #[.agg #[.int .i64 (sdV (X.ax, X.ay) (X.bx, X.cy) X.h).1.1, .int .i64 (sdV (X.ax, X.ay) (X.bx, X.cy) X.h).1.2], .bool (sdV (X.ax, X.ay) (X.bx, X.cy) X.h).2])).put (some 20) (.tuple #[.agg #[.int .i64 (sdV (X.ax, X.ay) (X.bx, X.cy) X.h).1.1, .int .i64 (sdV (X.ax, X.ay) (X.bx, X.cy) X.h).1.2], .bool (sdV (X.ax, X.ay) (X.bx, X.cy) X.h).2])).put (some 27) (.agg #[.int .i64 (sdV (X.ax, X.ay) (X.bx, X.cy) X.h).1.1, .int .i64 (sdV (X.ax, X.ay) (X.bx, X.cy) X.h).1.2])).put (some 28) (.bool (sdV (X.ax, X.ay) (X.bx, X.cy) X.h).2)).put (some 9) (γ 0)).put (some 10) (.bool (sdV (X.ax, X.ay) (X.bx, X.cy) X.h).2)) w') : (Code.region 2 (opsOf 2 Try.f6) true).wp Try.prog Q X.a0 w := by
  refine reg_act (acts := YB.acts) (av := YB.av) (val0 := X.val0) (Wd := X.Wd) (by kernel_rfl) (by kernel_rfl) (by rw [YB.size]; decide) (fun i hi => YB.steps X ok i hi) _ h0 ?_
  intro γ w' h
  rw [YB.puts]
  exact hend γ w' h
end Go.Proofs.Ytolpiapkmlbccaa
