/-
  The statements of the specification that make edges and draw their order; each theorem names its conditions.
-/
import Derived.Test.YtllljknpicmmjaaFiR
import Derived.Test.YtllljknpicmmjaaEd4
namespace Go.Proofs.Ytllljknpicmmjaa
open Go.ChangeShapes Go.WideShapes Go.ChangeAt Go.RowKit
set_option linter.unusedVariables false

theorem info_sedge : (Try.prog.info? 114).map (fun i => (i.zero, i.size, i.bytes)) = some (some (.agg #[.int .i64 0, .int .i64 0, .int .i64 0, .int .i64 0]), 4, 32) := by kernel_rfl
theorem rq_set4 (w : World) (g : Nat) (x0 x1 x2 x3 : Value) {u0 u1 u2 u3 : Value} (h0 : w.cell? ⟨g, 0, none⟩ = some u0) (h1 : w.cell? ⟨g, 1, none⟩ = some u1) (h2 : w.cell? ⟨g, 2, none⟩ = some u2) (h3 : w.cell? ⟨g, 3, none⟩ = some u3) :
    ((((w.setCell ⟨g, 0, none⟩ x0).setCell ⟨g, 1, none⟩ x1).setCell ⟨g, 2, none⟩ x2).setCell ⟨g, 3, none⟩ x3).cell? ⟨g, 0, none⟩ = some x0 ∧ ((((w.setCell ⟨g, 0, none⟩ x0).setCell ⟨g, 1, none⟩ x1).setCell ⟨g, 2, none⟩ x2).setCell ⟨g, 3, none⟩ x3).cell? ⟨g, 1, none⟩ = some x1 ∧
    ((((w.setCell ⟨g, 0, none⟩ x0).setCell ⟨g, 1, none⟩ x1).setCell ⟨g, 2, none⟩ x2).setCell ⟨g, 3, none⟩ x3).cell? ⟨g, 2, none⟩ = some x2 ∧ ((((w.setCell ⟨g, 0, none⟩ x0).setCell ⟨g, 1, none⟩ x1).setCell ⟨g, 2, none⟩ x2).setCell ⟨g, 3, none⟩ x3).cell? ⟨g, 3, none⟩ = some x3 := by
  have far : ∀ (w : World) (o o' : Nat) (u : Value), o ≠ o' → (w.setCell ⟨g, o, none⟩ u).cell? ⟨g, o', none⟩ = w.cell? ⟨g, o', none⟩ := fun w o o' u h => World.cell?_setCell_other _ _ _ _ (fun e => by injection e; omega)
  refine ⟨?_, ?_, ?_, ?_⟩
  · rw [far _ 3 0 _ (by omega), far _ 2 0 _ (by omega), far _ 1 0 _ (by omega)]
    exact World.cell?_setCell_same w ⟨g, 0, none⟩ _ h0
  · rw [far _ 3 1 _ (by omega), far _ 2 1 _ (by omega)]
    exact World.cell?_setCell_same _ ⟨g, 1, none⟩ _ ((far _ 0 1 _ (by omega)).trans h1)
  · rw [far _ 3 2 _ (by omega)]
    exact World.cell?_setCell_same _ ⟨g, 2, none⟩ _ ((far _ 1 2 _ (by omega)).trans ((far _ 0 2 _ (by omega)).trans h2))
  · exact World.cell?_setCell_same _ ⟨g, 3, none⟩ _ ((far _ 2 3 _ (by omega)).trans ((far _ 1 3 _ (by omega)).trans ((far _ 0 3 _ (by omega)).trans h3)))
structure EC where
  bl : Nat
  gp : Nat
  off : Nat
  n : Nat
  pc : Nat
  k : Nat
  m : Nat
  x : Int
  y : Int
  W : World
  a0 : Act
structure ECOk (X : EC) : Prop where
  c0 : X.W.cell? ⟨X.bl, 0, none⟩ = some (.slice (some ⟨X.gp, X.off, none⟩) X.n X.pc)
  p0 : X.W.cell? ⟨X.gp, X.off + X.m * 2, none⟩ = some (.int .i64 X.x)
  p1 : X.W.cell? ⟨X.gp, X.off + X.m * 2 + 1, none⟩ = some (.int .i64 X.y)
  hm : X.m < X.n
  w1 : IntKind.i64.wrap ((X.k : Int) + 1) = (X.k : Int) + 1
  n0 : ¬ X.n = 0
  w2 : ((X.k : Int) + 1).tmod (X.n : Int) = (X.m : Int)
  e5 : X.a0.eval (.tmp 5) = .pointer (some ⟨X.bl, 0, none⟩)
  e6 : X.a0.eval (.tmp 6) = .int .i64 (X.n : Int)
  e7 : X.a0.eval (.tmp 7) = .int .i64 (X.k : Int)
  sz : X.a0.tmps.size = 61
def EC.val0 (X : EC) : Nat → Value
  | 28 => .pointer (some ⟨X.bl, 0, none⟩)
  | 29 => .slice (some ⟨X.gp, X.off, none⟩) X.n X.pc
  | 30 => .int .i64 (X.k : Int)
  | 31 => .int .i64 ((X.k : Int) + 1)
  | 32 => .int .i64 (X.n : Int)
  | 33 => .int .i64 (X.m : Int)
  | 34 => .pointer (some ⟨X.gp, X.off + X.m * 2, none⟩)
  | 35 => .agg #[.int .i64 X.x, .int .i64 X.y]
  | _ => undef
def EC.av : Nat → Option Nat
  | 9 => some 0
  | _ => none
def EC.acts : List Nat := [8, 9]
/-- The world, by how many of the acting ones have come up. -/
def EC.Wd (X : EC) : Nat → (Nat → Value) → World → Prop
  | 0, _, w => Kp X.W w
  | 1, γ, w => ∃ g, γ 0 = .pointer (some ⟨g, 0, none⟩) ∧ X.W.heap.size ≤ g ∧ (w.cell? ⟨g, 0, none⟩ = some (.int .i64 0) ∧ w.cell? ⟨g, 1, none⟩ = some (.int .i64 0)) ∧ (∀ o, w.frozen? ⟨g, o, none⟩ = false) ∧ Kp X.W w
  | _, γ, w => ∃ g, γ 0 = .pointer (some ⟨g, 0, none⟩) ∧ X.W.heap.size ≤ g ∧ (w.cell? ⟨g, 0, none⟩ = some (.int .i64 X.x) ∧ w.cell? ⟨g, 1, none⟩ = some (.int .i64 X.y)) ∧ (∀ o, w.frozen? ⟨g, o, none⟩ = false) ∧ Kp X.W w
theorem EC.kp {X : EC} : ∀ {n : Nat} {γ : Nat → Value} {w : World}, X.Wd n γ w → Kp X.W w
  | 0, _, _, h => h
  | 1, _, _, ⟨_, _, _, _, _, h⟩ => h
  | _ + 2, _, _, ⟨_, _, _, _, _, h⟩ => h
theorem EC.keep {X : EC} : ∀ {n : Nat} {γ : Nat → Value} {w w' : World}, X.Wd n γ w → Kp w w' → X.Wd n γ w'
  | 0, _, _, _, h, k => Kp.trans h k
  | 1, _, w, _, ⟨g, h1, h2, ⟨h30, h31⟩, h5, h6⟩, k => ⟨g, h1, h2, ⟨(k.cells.1 _ _ (World.block_lt_of_cell? w ⟨g, 0, none⟩ h30)).trans h30, (k.cells.1 _ _ (World.block_lt_of_cell? w ⟨g, 0, none⟩ h30)).trans h31⟩, fun o => (k.cells.2 _ _).trans (h5 o), Kp.trans h6 k⟩
  | _ + 2, _, w, _, ⟨g, h1, h2, ⟨h30, h31⟩, h5, h6⟩, k => ⟨g, h1, h2, ⟨(k.cells.1 _ _ (World.block_lt_of_cell? w ⟨g, 0, none⟩ h30)).trans h30, (k.cells.1 _ _ (World.block_lt_of_cell? w ⟨g, 0, none⟩ h30)).trans h31⟩, fun o => (k.cells.2 _ _).trans (h5 o), Kp.trans h6 k⟩
theorem EC.chain : chainG (opsOf 9 Try.f55) EC.acts = true := by kernel_rfl
theorem EC.nodup : EC.acts.Nodup := by decide
theorem EC.inj {listed : Array Bool} {i k : Nat} (h : (List.range (opsOf 9 Try.f55).size).all (fun j => decide (j = i) || !(match dstOf (opsOf 9 Try.f55) j with | some d => decide (EC.av d = some k) | none => false)) = true) (hu : listed.getD i false = false) : ∀ d, got (opsOf 9 Try.f55) listed d → EC.av d ≠ some k := by
  rintro d ⟨j, h1, h2⟩ h3
  have hlt : j < (opsOf 9 Try.f55).size := by
    rcases Nat.lt_or_ge j (opsOf 9 Try.f55).size with h4 | h4
    · exact h4
    · unfold dstOf at h2; rw [Array.getElem?_eq_none h4] at h2; cases h2
  have h5 := List.all_eq_true.1 h j (List.mem_range.2 hlt)
  rw [h2] at h5
  simp only [h3, decide_true, Bool.not_true, Bool.or_false, decide_eq_true_eq] at h5
  subst h5
  rw [hu] at h1
  cases h1
theorem EC.s0 (X : EC) (ok : ECOk X) {Q : Exit → Act → World → Prop} : StepG (opsOf 9 Try.f55) EC.acts EC.av X.val0 X.Wd X.a0 Q 0 := by
  intro γ listed a w o hF hC hW h1 ho h2
  obtain ⟨hd, hop, hg⟩ := fields2 (x := some 28) (y := Op.fieldAddr 35 (.tmp 5) 0) (z := none) (by kernel_rfl) ho
  have e5 : a.eval (.tmp 5) = .pointer (some ⟨X.bl, 0, none⟩) := (hF.eval0 (by kernel_rfl)).trans ok.e5
  refine st_pureG hF hC hW ho h2 (by decide) hd hg rfl ?_
  show _ = Result.ok (Next.value (.pointer (some ⟨X.bl, 0, none⟩))) w
  generalize a.eval = ρ at e5 ⊢
  unfold execOp
  rw [hop]
  simp [e5, go_sem]
theorem EC.s1 (X : EC) (ok : ECOk X) {Q : Exit → Act → World → Prop} : StepG (opsOf 9 Try.f55) EC.acts EC.av X.val0 X.Wd X.a0 Q 1 := by
  intro γ listed a w o hF hC hW h1 ho h2
  obtain ⟨hd, hop, hg⟩ := fields2 (x := some 29) (y := Op.load 33 (.tmp 28)) (z := none) (by kernel_rfl) ho
  have e28 : a.eval (.tmp 28) = .pointer (some ⟨X.bl, 0, none⟩) := slotG hF ho h2 (j := 0) (d := 28) (by kernel_rfl) (by kernel_rfl) (by rw [ok.sz]; decide)
  have hc0 := rq_at (EC.kp hW) ok.c0
  refine st_pureG hF hC hW ho h2 (by decide) hd hg rfl ?_
  show _ = Result.ok (Next.value (.slice (some ⟨X.gp, X.off, none⟩) X.n X.pc)) w
  generalize a.eval = ρ at e28 ⊢
  unfold execOp
  rw [hop]
  simp [e28, hc0, go_sem]
theorem EC.s2 (X : EC) (ok : ECOk X) {Q : Exit → Act → World → Prop} : StepG (opsOf 9 Try.f55) EC.acts EC.av X.val0 X.Wd X.a0 Q 2 := by
  intro γ listed a w o hF hC hW h1 ho h2
  obtain ⟨hd, hop, hg⟩ := fields2 (x := some 30) (y := Op.move (.tmp 7)) (z := none) (by kernel_rfl) ho
  have e7 : a.eval (.tmp 7) = .int .i64 (X.k : Int) := (hF.eval0 (by kernel_rfl)).trans ok.e7
  refine st_pureG hF hC hW ho h2 (by decide) hd hg rfl ?_
  show _ = Result.ok (Next.value (.int .i64 (X.k : Int))) w
  generalize a.eval = ρ at e7 ⊢
  unfold execOp
  rw [hop]
  simp [e7, go_sem]
theorem EC.s3 (X : EC) (ok : ECOk X) {Q : Exit → Act → World → Prop} : StepG (opsOf 9 Try.f55) EC.acts EC.av X.val0 X.Wd X.a0 Q 3 := by
  intro γ listed a w o hF hC hW h1 ho h2
  obtain ⟨hd, hop, hg⟩ := fields2 (x := some 31) (y := Op.binOp .add 3 (.tmp 30) (.const (.int .i64 1)) 3) (z := none) (by kernel_rfl) ho
  have e30 : a.eval (.tmp 30) = .int .i64 (X.k : Int) := slotG hF ho h2 (j := 2) (d := 30) (by kernel_rfl) (by kernel_rfl) (by rw [ok.sz]; decide)
  have ec1 : a.eval (.const (.int .i64 1)) = .int .i64 1 := rfl
  refine st_pureG hF hC hW ho h2 (by decide) hd hg rfl ?_
  show _ = Result.ok (Next.value (.int .i64 ((X.k : Int) + 1))) w
  generalize a.eval = ρ at e30 ec1 ⊢
  unfold execOp
  rw [hop]
  simp [e30, ec1, ok.w1, go_sem]
theorem EC.s4 (X : EC) (ok : ECOk X) {Q : Exit → Act → World → Prop} : StepG (opsOf 9 Try.f55) EC.acts EC.av X.val0 X.Wd X.a0 Q 4 := by
  intro γ listed a w o hF hC hW h1 ho h2
  obtain ⟨hd, hop, hg⟩ := fields2 (x := some 32) (y := Op.move (.tmp 6)) (z := none) (by kernel_rfl) ho
  have e6 : a.eval (.tmp 6) = .int .i64 (X.n : Int) := (hF.eval0 (by kernel_rfl)).trans ok.e6
  refine st_pureG hF hC hW ho h2 (by decide) hd hg rfl ?_
  show _ = Result.ok (Next.value (.int .i64 (X.n : Int))) w
  generalize a.eval = ρ at e6 ⊢
  unfold execOp
  rw [hop]
  simp [e6, go_sem]
theorem EC.s5 (X : EC) (ok : ECOk X) {Q : Exit → Act → World → Prop} : StepG (opsOf 9 Try.f55) EC.acts EC.av X.val0 X.Wd X.a0 Q 5 := by
  intro γ listed a w o hF hC hW h1 ho h2
  obtain ⟨hd, hop, hg⟩ := fields2 (x := some 33) (y := Op.binOp .rem 3 (.tmp 31) (.tmp 32) 3) (z := none) (by kernel_rfl) ho
  have e31 : a.eval (.tmp 31) = .int .i64 ((X.k : Int) + 1) := slotG hF ho h2 (j := 3) (d := 31) (by kernel_rfl) (by kernel_rfl) (by rw [ok.sz]; decide)
  have e32 : a.eval (.tmp 32) = .int .i64 (X.n : Int) := slotG hF ho h2 (j := 4) (d := 32) (by kernel_rfl) (by kernel_rfl) (by rw [ok.sz]; decide)
  refine st_pureG hF hC hW ho h2 (by decide) hd hg rfl ?_
  show _ = Result.ok (Next.value (.int .i64 (X.m : Int))) w
  generalize a.eval = ρ at e31 e32 ⊢
  unfold execOp
  rw [hop]
  simp [e31, e32, ok.w2, ok.n0, go_sem]
theorem EC.s6 (X : EC) (ok : ECOk X) {Q : Exit → Act → World → Prop} : StepG (opsOf 9 Try.f55) EC.acts EC.av X.val0 X.Wd X.a0 Q 6 := by
  intro γ listed a w o hF hC hW h1 ho h2
  obtain ⟨hd, hop, hg⟩ := fields2 (x := some 34) (y := Op.indexAddr 33 (.tmp 29) (.tmp 33)) (z := none) (by kernel_rfl) ho
  have e29 : a.eval (.tmp 29) = .slice (some ⟨X.gp, X.off, none⟩) X.n X.pc := slotG hF ho h2 (j := 1) (d := 29) (by kernel_rfl) (by kernel_rfl) (by rw [ok.sz]; decide)
  have e33 : a.eval (.tmp 33) = .int .i64 (X.m : Int) := slotG hF ho h2 (j := 5) (d := 33) (by kernel_rfl) (by kernel_rfl) (by rw [ok.sz]; decide)
  refine st_pureG hF hC hW ho h2 (by decide) hd hg rfl ?_
  show _ = Result.ok (Next.value (.pointer (some ⟨X.gp, X.off + X.m * 2, none⟩))) w
  generalize a.eval = ρ at e29 e33 ⊢
  unfold execOp
  rw [hop]
  simp [e29, e33, ok.hm, go_sem]
theorem EC.s7 (X : EC) (ok : ECOk X) {Q : Exit → Act → World → Prop} : StepG (opsOf 9 Try.f55) EC.acts EC.av X.val0 X.Wd X.a0 Q 7 := by
  intro γ listed a w o hF hC hW h1 ho h2
  obtain ⟨hd, hop, hg⟩ := fields2 (x := some 35) (y := Op.load 37 (.tmp 34)) (z := none) (by kernel_rfl) ho
  have e34 : a.eval (.tmp 34) = .pointer (some ⟨X.gp, X.off + X.m * 2, none⟩) := slotG hF ho h2 (j := 6) (d := 34) (by kernel_rfl) (by kernel_rfl) (by rw [ok.sz]; decide)
  have hc0 := rq_at (EC.kp hW) ok.p0
  have hc1 := rq_at (EC.kp hW) ok.p1
  refine st_pureG hF hC hW ho h2 (by decide) hd hg rfl ?_
  show _ = Result.ok (Next.value (.agg #[.int .i64 X.x, .int .i64 X.y])) w
  generalize a.eval = ρ at e34 ⊢
  unfold execOp
  rw [hop]
  simp [e34, hc0, hc1, go_sem]
theorem EC.s8 (X : EC) (ok : ECOk X) {Q : Exit → Act → World → Prop} : StepG (opsOf 9 Try.f55) EC.acts EC.av X.val0 X.Wd X.a0 Q 8 := by
  intro γ listed a w o hF hC hW h1 ho h2
  obtain ⟨hd, hop, hg⟩ := fields2 (x := some 9) (y := Op.alloc 37) (z := none) (by kernel_rfl) ho
  have hu := unl (hF.lt ho) h1
  refine st_actG (k := 0) EC.chain EC.nodup rfl hF hC hW h1 ho h2 (Or.inr ⟨9, hd, rfl⟩) (EC.inj (by kernel_rfl) hu) hg ?_
  intro hW0 K hK
  have hr : (execOp a.eval o).run Try.prog w = .ok (.value (.pointer (some ⟨w.heap.size, 0, none⟩))) (w.alloc (.cells #[.int .i64 0, .int .i64 0] 37)) := by
    unfold execOp
    rw [hop]
    simp [go_sem]
  unfold Oper.wp
  rw [hr]
  exact hK _ _ ⟨w.heap.size, rfl, Kp.size hW0, ⟨by simp, by simp⟩, fun o => World.frozen?_alloc_at _ _ _ _ rfl, Kp.alloc hW0 _ _⟩
theorem EC.s9 (X : EC) (ok : ECOk X) {Q : Exit → Act → World → Prop} : StepG (opsOf 9 Try.f55) EC.acts EC.av X.val0 X.Wd X.a0 Q 9 := by
  intro γ listed a w o hF hC hW h1 ho h2
  obtain ⟨hd, hop, hg⟩ := fields2 (x := none) (y := Op.store 37 (.tmp 9) (.tmp 35)) (z := none) (by kernel_rfl) ho
  have e9 : a.eval (.tmp 9) = γ 0 := slotG hF ho h2 (j := 8) (d := 9) (by kernel_rfl) (by kernel_rfl) (by rw [ok.sz]; decide)
  have e35 : a.eval (.tmp 35) = .agg #[.int .i64 X.x, .int .i64 X.y] := slotG hF ho h2 (j := 7) (d := 35) (by kernel_rfl) (by kernel_rfl) (by rw [ok.sz]; decide)
  have hu := unl (hF.lt ho) h1
  refine st_actG (k := 1) EC.chain EC.nodup rfl hF hC hW h1 ho h2 (Or.inl hd) (EC.inj (by kernel_rfl) hu) hg ?_
  intro hW0 K hK
  obtain ⟨g, g0, hg0, ⟨z0, z1⟩, zf, k1⟩ := hW0
  rw [g0] at e9
  obtain ⟨y0, y1⟩ := rq_set2 w g (.int .i64 X.x) (.int .i64 X.y) z0 z1
  have hr : (execOp a.eval o).run Try.prog w = .ok .skip ((w.setCell ⟨g, 0, none⟩ (.int .i64 X.x)).setCell ⟨g, 1, none⟩ (.int .i64 X.y)) := by
    generalize a.eval = ρ at e9 e35 ⊢
    unfold execOp
    rw [hop]
    simp [e9, e35, z0, z1, zf, go_sem]
  unfold Oper.wp
  rw [hr]
  exact hK _ _ ⟨g, g0, hg0, ⟨y0, y1⟩, fun o => by rw [World.frozen?_setCell, World.frozen?_setCell]; exact zf o, (Kp.setCell (Kp.setCell k1 hg0 _) hg0 _)⟩
theorem EC.size : (opsOf 9 Try.f55).size = 10 := by kernel_rfl
theorem EC.steps (X : EC) (ok : ECOk X) {Q : Exit → Act → World → Prop} (i : Nat) (hi : i < (opsOf 9 Try.f55).size) : StepG (opsOf 9 Try.f55) EC.acts EC.av X.val0 X.Wd X.a0 Q i := by
  rw [EC.size] at hi
  have hc : i = 0 ∨ i = 1 ∨ i = 2 ∨ i = 3 ∨ i = 4 ∨ i = 5 ∨ i = 6 ∨ i = 7 ∨ i = 8 ∨ i = 9 := by omega
  rcases hc with rfl | rfl | rfl | rfl | rfl | rfl | rfl | rfl | rfl | rfl
  · exact EC.s0 X ok
  · exact EC.s1 X ok
  · exact EC.s2 X ok
  · exact EC.s3 X ok
  · exact EC.s4 X ok
  · exact EC.s5 X ok
  · exact EC.s6 X ok
  · exact EC.s7 X ok
  · exact EC.s8 X ok
  · exact EC.s9 X ok
theorem EC.puts (X : EC) (γ : Nat → Value) (a0 : Act) : putsL (valG EC.av X.val0 γ) (opsOf 9 Try.f55).toList a0 = (((((((((a0.put (some 28) (.pointer (some ⟨X.bl, 0, none⟩))).put (some 29) (.slice (some ⟨X.gp, X.off, none⟩) X.n X.pc)).put (some 30) (.int .i64 (X.k : Int))).put (some 31) (.int .i64 ((X.k : Int) + 1))).put (some 32) (.int .i64 (X.n : Int))).put (some 33) (.int .i64 (X.m : Int))).put (some 34) (.pointer (some ⟨X.gp, X.off + X.m * 2, none⟩))).put (some 35) (.agg #[.int .i64 X.x, .int .i64 X.y])).put (some 9) (γ 0)) := by kernel_rfl
/-- The region, whatever order comes up. -/
theorem EC.run (X : EC) (ok : ECOk X) {Q : Exit → Act → World → Prop} (w : World) (h0 : X.Wd 0 (fun _ => undef) w.drew) (hend : ∀ (γ : Nat → Value) w', X.Wd 2 γ w' → Q .normal (((((((((X.a0.put (some 28) (.pointer (some ⟨X.bl, 0, none⟩))).put (some 29) (.slice (some ⟨X.gp, X.off, none⟩) X.n X.pc)).put (some 30) (.int .i64 (X.k : Int))).put (some 31) (.int .i64 ((X.k : Int) + 1))).put (some 32) (.int .i64 (X.n : Int))).put (some 33) (.int .i64 (X.m : Int))).put (some 34) (.pointer (some ⟨X.gp, X.off + X.m * 2, none⟩))).put (some 35) (.agg #[.int .i64 X.x, .int .i64 X.y])).put (some 9) (γ 0)) w') : (Code.region 9 (opsOf 9 Try.f55) true).wp Try.prog Q X.a0 w := by
  refine reg_act (acts := EC.acts) (av := EC.av) (val0 := X.val0) (Wd := X.Wd) (by kernel_rfl) (by kernel_rfl) (by rw [EC.size]; decide) (fun i hi => EC.steps X ok i hi) _ h0 ?_
  intro γ w' h
  rw [EC.puts]
  exact hend γ w' h
structure ED where
  b0 : Nat
  b1 : Nat
  ax : Int
  ay : Int
  bx : Int
  cy : Int
  W : World
  a0 : Act
structure EDOk (X : ED) : Prop where
  c0 : X.W.cell? ⟨X.b0, 0, none⟩ = some (.int .i64 X.ax)
  c1 : X.W.cell? ⟨X.b0, 1, none⟩ = some (.int .i64 X.ay)
  c2 : X.W.cell? ⟨X.b1, 0, none⟩ = some (.int .i64 X.bx)
  c3 : X.W.cell? ⟨X.b1, 1, none⟩ = some (.int .i64 X.cy)
  n0 : nr X.ax
  n1 : nr X.ay
  n2 : nr X.bx
  n3 : nr X.cy
  e8 : X.a0.eval (.tmp 8) = .pointer (some ⟨X.b0, 0, none⟩)
  e9 : X.a0.eval (.tmp 9) = .pointer (some ⟨X.b1, 0, none⟩)
  sz : X.a0.tmps.size = 61
def ED.val0 (X : ED) : Nat → Value
  | 36 => .pointer (some ⟨X.b0, 0, none⟩)
  | 37 => .int .i64 X.ax
  | 38 => .int .i64 (fnV X.ax)
  | 39 => .pointer (some ⟨X.b0, 1, none⟩)
  | 40 => .int .i64 X.ay
  | 41 => .int .i64 (fnV X.ay)
  | 42 => .pointer (some ⟨X.b1, 0, none⟩)
  | 43 => .int .i64 X.bx
  | 44 => .int .i64 (fnV X.bx)
  | 45 => .pointer (some ⟨X.b1, 1, none⟩)
  | 46 => .int .i64 X.cy
  | 47 => .int .i64 (fnV X.cy)
  | 48 => .agg #[.int .i64 (fnV X.ax), .int .i64 (fnV X.ay), .int .i64 (fnV X.bx), .int .i64 (fnV X.cy)]
  | _ => undef
def ED.av : Nat → Option Nat
  | 10 => some 0
  | _ => none
def ED.acts : List Nat := [13, 14]
/-- The world, by how many of the acting ones have come up. -/
def ED.Wd (X : ED) : Nat → (Nat → Value) → World → Prop
  | 0, _, w => Kp X.W w
  | 1, γ, w => ∃ g, γ 0 = .pointer (some ⟨g, 0, none⟩) ∧ X.W.heap.size ≤ g ∧ (w.cell? ⟨g, 0, none⟩ = some (.int .i64 0) ∧ w.cell? ⟨g, 1, none⟩ = some (.int .i64 0) ∧ w.cell? ⟨g, 2, none⟩ = some (.int .i64 0) ∧ w.cell? ⟨g, 3, none⟩ = some (.int .i64 0)) ∧ (∀ o, w.frozen? ⟨g, o, none⟩ = false) ∧ Kp X.W w
  | _, γ, w => ∃ g, γ 0 = .pointer (some ⟨g, 0, none⟩) ∧ X.W.heap.size ≤ g ∧ (w.cell? ⟨g, 0, none⟩ = some (.int .i64 (fnV X.ax)) ∧ w.cell? ⟨g, 1, none⟩ = some (.int .i64 (fnV X.ay)) ∧ w.cell? ⟨g, 2, none⟩ = some (.int .i64 (fnV X.bx)) ∧ w.cell? ⟨g, 3, none⟩ = some (.int .i64 (fnV X.cy))) ∧ (∀ o, w.frozen? ⟨g, o, none⟩ = false) ∧ Kp X.W w
theorem ED.kp {X : ED} : ∀ {n : Nat} {γ : Nat → Value} {w : World}, X.Wd n γ w → Kp X.W w
  | 0, _, _, h => h
  | 1, _, _, ⟨_, _, _, _, _, h⟩ => h
  | _ + 2, _, _, ⟨_, _, _, _, _, h⟩ => h
theorem ED.keep {X : ED} : ∀ {n : Nat} {γ : Nat → Value} {w w' : World}, X.Wd n γ w → Kp w w' → X.Wd n γ w'
  | 0, _, _, _, h, k => Kp.trans h k
  | 1, _, w, _, ⟨g, h1, h2, ⟨h30, h31, h32, h33⟩, h5, h6⟩, k => ⟨g, h1, h2, ⟨(k.cells.1 _ _ (World.block_lt_of_cell? w ⟨g, 0, none⟩ h30)).trans h30, (k.cells.1 _ _ (World.block_lt_of_cell? w ⟨g, 0, none⟩ h30)).trans h31, (k.cells.1 _ _ (World.block_lt_of_cell? w ⟨g, 0, none⟩ h30)).trans h32, (k.cells.1 _ _ (World.block_lt_of_cell? w ⟨g, 0, none⟩ h30)).trans h33⟩, fun o => (k.cells.2 _ _).trans (h5 o), Kp.trans h6 k⟩
  | _ + 2, _, w, _, ⟨g, h1, h2, ⟨h30, h31, h32, h33⟩, h5, h6⟩, k => ⟨g, h1, h2, ⟨(k.cells.1 _ _ (World.block_lt_of_cell? w ⟨g, 0, none⟩ h30)).trans h30, (k.cells.1 _ _ (World.block_lt_of_cell? w ⟨g, 0, none⟩ h30)).trans h31, (k.cells.1 _ _ (World.block_lt_of_cell? w ⟨g, 0, none⟩ h30)).trans h32, (k.cells.1 _ _ (World.block_lt_of_cell? w ⟨g, 0, none⟩ h30)).trans h33⟩, fun o => (k.cells.2 _ _).trans (h5 o), Kp.trans h6 k⟩
theorem ED.chain : chainG (opsOf 10 Try.f55) ED.acts = true := by kernel_rfl
theorem ED.nodup : ED.acts.Nodup := by decide
theorem ED.inj {listed : Array Bool} {i k : Nat} (h : (List.range (opsOf 10 Try.f55).size).all (fun j => decide (j = i) || !(match dstOf (opsOf 10 Try.f55) j with | some d => decide (ED.av d = some k) | none => false)) = true) (hu : listed.getD i false = false) : ∀ d, got (opsOf 10 Try.f55) listed d → ED.av d ≠ some k := by
  rintro d ⟨j, h1, h2⟩ h3
  have hlt : j < (opsOf 10 Try.f55).size := by
    rcases Nat.lt_or_ge j (opsOf 10 Try.f55).size with h4 | h4
    · exact h4
    · unfold dstOf at h2; rw [Array.getElem?_eq_none h4] at h2; cases h2
  have h5 := List.all_eq_true.1 h j (List.mem_range.2 hlt)
  rw [h2] at h5
  simp only [h3, decide_true, Bool.not_true, Bool.or_false, decide_eq_true_eq] at h5
  subst h5
  rw [hu] at h1
  cases h1
theorem ED.s0 (X : ED) (ok : EDOk X) {Q : Exit → Act → World → Prop} : StepG (opsOf 10 Try.f55) ED.acts ED.av X.val0 X.Wd X.a0 Q 0 := by
  intro γ listed a w o hF hC hW h1 ho h2
  obtain ⟨hd, hop, hg⟩ := fields2 (x := some 36) (y := Op.fieldAddr 37 (.tmp 8) 0) (z := none) (by kernel_rfl) ho
  have e8 : a.eval (.tmp 8) = .pointer (some ⟨X.b0, 0, none⟩) := (hF.eval0 (by kernel_rfl)).trans ok.e8
  refine st_pureG hF hC hW ho h2 (by decide) hd hg rfl ?_
  show _ = Result.ok (Next.value (.pointer (some ⟨X.b0, 0, none⟩))) w
  generalize a.eval = ρ at e8 ⊢
  unfold execOp
  rw [hop]
  simp [e8, go_sem]
theorem ED.s1 (X : ED) (ok : EDOk X) {Q : Exit → Act → World → Prop} : StepG (opsOf 10 Try.f55) ED.acts ED.av X.val0 X.Wd X.a0 Q 1 := by
  intro γ listed a w o hF hC hW h1 ho h2
  obtain ⟨hd, hop, hg⟩ := fields2 (x := some 37) (y := Op.load 3 (.tmp 36)) (z := none) (by kernel_rfl) ho
  have e36 : a.eval (.tmp 36) = .pointer (some ⟨X.b0, 0, none⟩) := slotG hF ho h2 (j := 0) (d := 36) (by kernel_rfl) (by kernel_rfl) (by rw [ok.sz]; decide)
  have hc0 := rq_at (ED.kp hW) ok.c0
  refine st_pureG hF hC hW ho h2 (by decide) hd hg rfl ?_
  show _ = Result.ok (Next.value (.int .i64 X.ax)) w
  generalize a.eval = ρ at e36 ⊢
  unfold execOp
  rw [hop]
  simp [e36, hc0, go_sem]
theorem ED.s2 (X : ED) (ok : EDOk X) {Q : Exit → Act → World → Prop} : StepG (opsOf 10 Try.f55) ED.acts ED.av X.val0 X.Wd X.a0 Q 2 := by
  intro γ listed a w o hF hC hW h1 ho h2
  obtain ⟨hd, hop, hg⟩ := fields2 (x := some 38) (y := Op.call { callee := .value (.func 49), args := #[(.tmp 37)], argTypes := #[3] }) (z := none) (by kernel_rfl) ho
  have e37 : a.eval (.tmp 37) = .int .i64 X.ax := slotG hF ho h2 (j := 1) (d := 37) (by kernel_rfl) (by kernel_rfl) (by rw [ok.sz]; decide)
  have ef : a.eval (.func 49) = .func (.func 49) #[] #[] := rfl
  refine st_callG hF hC hW ho h2 (by decide) hd hg rfl (f := 49) (args := #[.int .i64 X.ax]) ?_ ?_ ?_
  · generalize a.eval = ρ at e37 ef ⊢
    unfold execOp
    rw [hop]
    simp [e37, ef, go_sem]
  · exact sfine X.ax ok.n0 w
  · intro w' hk; exact ED.keep hW hk
theorem ED.s3 (X : ED) (ok : EDOk X) {Q : Exit → Act → World → Prop} : StepG (opsOf 10 Try.f55) ED.acts ED.av X.val0 X.Wd X.a0 Q 3 := by
  intro γ listed a w o hF hC hW h1 ho h2
  obtain ⟨hd, hop, hg⟩ := fields2 (x := some 39) (y := Op.fieldAddr 37 (.tmp 8) 1) (z := none) (by kernel_rfl) ho
  have e8 : a.eval (.tmp 8) = .pointer (some ⟨X.b0, 0, none⟩) := (hF.eval0 (by kernel_rfl)).trans ok.e8
  refine st_pureG hF hC hW ho h2 (by decide) hd hg rfl ?_
  show _ = Result.ok (Next.value (.pointer (some ⟨X.b0, 1, none⟩))) w
  generalize a.eval = ρ at e8 ⊢
  unfold execOp
  rw [hop]
  simp [e8, go_sem]
theorem ED.s4 (X : ED) (ok : EDOk X) {Q : Exit → Act → World → Prop} : StepG (opsOf 10 Try.f55) ED.acts ED.av X.val0 X.Wd X.a0 Q 4 := by
  intro γ listed a w o hF hC hW h1 ho h2
  obtain ⟨hd, hop, hg⟩ := fields2 (x := some 40) (y := Op.load 3 (.tmp 39)) (z := none) (by kernel_rfl) ho
  have e39 : a.eval (.tmp 39) = .pointer (some ⟨X.b0, 1, none⟩) := slotG hF ho h2 (j := 3) (d := 39) (by kernel_rfl) (by kernel_rfl) (by rw [ok.sz]; decide)
  have hc0 := rq_at (ED.kp hW) ok.c1
  refine st_pureG hF hC hW ho h2 (by decide) hd hg rfl ?_
  show _ = Result.ok (Next.value (.int .i64 X.ay)) w
  generalize a.eval = ρ at e39 ⊢
  unfold execOp
  rw [hop]
  simp [e39, hc0, go_sem]
theorem ED.s5 (X : ED) (ok : EDOk X) {Q : Exit → Act → World → Prop} : StepG (opsOf 10 Try.f55) ED.acts ED.av X.val0 X.Wd X.a0 Q 5 := by
  intro γ listed a w o hF hC hW h1 ho h2
  obtain ⟨hd, hop, hg⟩ := fields2 (x := some 41) (y := Op.call { callee := .value (.func 49), args := #[(.tmp 40)], argTypes := #[3] }) (z := none) (by kernel_rfl) ho
  have e40 : a.eval (.tmp 40) = .int .i64 X.ay := slotG hF ho h2 (j := 4) (d := 40) (by kernel_rfl) (by kernel_rfl) (by rw [ok.sz]; decide)
  have ef : a.eval (.func 49) = .func (.func 49) #[] #[] := rfl
  refine st_callG hF hC hW ho h2 (by decide) hd hg rfl (f := 49) (args := #[.int .i64 X.ay]) ?_ ?_ ?_
  · generalize a.eval = ρ at e40 ef ⊢
    unfold execOp
    rw [hop]
    simp [e40, ef, go_sem]
  · exact sfine X.ay ok.n1 w
  · intro w' hk; exact ED.keep hW hk
theorem ED.s6 (X : ED) (ok : EDOk X) {Q : Exit → Act → World → Prop} : StepG (opsOf 10 Try.f55) ED.acts ED.av X.val0 X.Wd X.a0 Q 6 := by
  intro γ listed a w o hF hC hW h1 ho h2
  obtain ⟨hd, hop, hg⟩ := fields2 (x := some 42) (y := Op.fieldAddr 37 (.tmp 9) 0) (z := none) (by kernel_rfl) ho
  have e9 : a.eval (.tmp 9) = .pointer (some ⟨X.b1, 0, none⟩) := (hF.eval0 (by kernel_rfl)).trans ok.e9
  refine st_pureG hF hC hW ho h2 (by decide) hd hg rfl ?_
  show _ = Result.ok (Next.value (.pointer (some ⟨X.b1, 0, none⟩))) w
  generalize a.eval = ρ at e9 ⊢
  unfold execOp
  rw [hop]
  simp [e9, go_sem]
theorem ED.s7 (X : ED) (ok : EDOk X) {Q : Exit → Act → World → Prop} : StepG (opsOf 10 Try.f55) ED.acts ED.av X.val0 X.Wd X.a0 Q 7 := by
  intro γ listed a w o hF hC hW h1 ho h2
  obtain ⟨hd, hop, hg⟩ := fields2 (x := some 43) (y := Op.load 3 (.tmp 42)) (z := none) (by kernel_rfl) ho
  have e42 : a.eval (.tmp 42) = .pointer (some ⟨X.b1, 0, none⟩) := slotG hF ho h2 (j := 6) (d := 42) (by kernel_rfl) (by kernel_rfl) (by rw [ok.sz]; decide)
  have hc0 := rq_at (ED.kp hW) ok.c2
  refine st_pureG hF hC hW ho h2 (by decide) hd hg rfl ?_
  show _ = Result.ok (Next.value (.int .i64 X.bx)) w
  generalize a.eval = ρ at e42 ⊢
  unfold execOp
  rw [hop]
  simp [e42, hc0, go_sem]
theorem ED.s8 (X : ED) (ok : EDOk X) {Q : Exit → Act → World → Prop} : StepG (opsOf 10 Try.f55) ED.acts ED.av X.val0 X.Wd X.a0 Q 8 := by
  intro γ listed a w o hF hC hW h1 ho h2
  obtain ⟨hd, hop, hg⟩ := fields2 (x := some 44) (y := Op.call { callee := .value (.func 49), args := #[(.tmp 43)], argTypes := #[3] }) (z := none) (by kernel_rfl) ho
  have e43 : a.eval (.tmp 43) = .int .i64 X.bx := slotG hF ho h2 (j := 7) (d := 43) (by kernel_rfl) (by kernel_rfl) (by rw [ok.sz]; decide)
  have ef : a.eval (.func 49) = .func (.func 49) #[] #[] := rfl
  refine st_callG hF hC hW ho h2 (by decide) hd hg rfl (f := 49) (args := #[.int .i64 X.bx]) ?_ ?_ ?_
  · generalize a.eval = ρ at e43 ef ⊢
    unfold execOp
    rw [hop]
    simp [e43, ef, go_sem]
  · exact sfine X.bx ok.n2 w
  · intro w' hk; exact ED.keep hW hk
theorem ED.s9 (X : ED) (ok : EDOk X) {Q : Exit → Act → World → Prop} : StepG (opsOf 10 Try.f55) ED.acts ED.av X.val0 X.Wd X.a0 Q 9 := by
  intro γ listed a w o hF hC hW h1 ho h2
  obtain ⟨hd, hop, hg⟩ := fields2 (x := some 45) (y := Op.fieldAddr 37 (.tmp 9) 1) (z := none) (by kernel_rfl) ho
  have e9 : a.eval (.tmp 9) = .pointer (some ⟨X.b1, 0, none⟩) := (hF.eval0 (by kernel_rfl)).trans ok.e9
  refine st_pureG hF hC hW ho h2 (by decide) hd hg rfl ?_
  show _ = Result.ok (Next.value (.pointer (some ⟨X.b1, 1, none⟩))) w
  generalize a.eval = ρ at e9 ⊢
  unfold execOp
  rw [hop]
  simp [e9, go_sem]
theorem ED.s10 (X : ED) (ok : EDOk X) {Q : Exit → Act → World → Prop} : StepG (opsOf 10 Try.f55) ED.acts ED.av X.val0 X.Wd X.a0 Q 10 := by
  intro γ listed a w o hF hC hW h1 ho h2
  obtain ⟨hd, hop, hg⟩ := fields2 (x := some 46) (y := Op.load 3 (.tmp 45)) (z := none) (by kernel_rfl) ho
  have e45 : a.eval (.tmp 45) = .pointer (some ⟨X.b1, 1, none⟩) := slotG hF ho h2 (j := 9) (d := 45) (by kernel_rfl) (by kernel_rfl) (by rw [ok.sz]; decide)
  have hc0 := rq_at (ED.kp hW) ok.c3
  refine st_pureG hF hC hW ho h2 (by decide) hd hg rfl ?_
  show _ = Result.ok (Next.value (.int .i64 X.cy)) w
  generalize a.eval = ρ at e45 ⊢
  unfold execOp
  rw [hop]
  simp [e45, hc0, go_sem]
theorem ED.s11 (X : ED) (ok : EDOk X) {Q : Exit → Act → World → Prop} : StepG (opsOf 10 Try.f55) ED.acts ED.av X.val0 X.Wd X.a0 Q 11 := by
  intro γ listed a w o hF hC hW h1 ho h2
  obtain ⟨hd, hop, hg⟩ := fields2 (x := some 47) (y := Op.call { callee := .value (.func 49), args := #[(.tmp 46)], argTypes := #[3] }) (z := none) (by kernel_rfl) ho
  have e46 : a.eval (.tmp 46) = .int .i64 X.cy := slotG hF ho h2 (j := 10) (d := 46) (by kernel_rfl) (by kernel_rfl) (by rw [ok.sz]; decide)
  have ef : a.eval (.func 49) = .func (.func 49) #[] #[] := rfl
  refine st_callG hF hC hW ho h2 (by decide) hd hg rfl (f := 49) (args := #[.int .i64 X.cy]) ?_ ?_ ?_
  · generalize a.eval = ρ at e46 ef ⊢
    unfold execOp
    rw [hop]
    simp [e46, ef, go_sem]
  · exact sfine X.cy ok.n3 w
  · intro w' hk; exact ED.keep hW hk
theorem ED.s12 (X : ED) (ok : EDOk X) {Q : Exit → Act → World → Prop} : StepG (opsOf 10 Try.f55) ED.acts ED.av X.val0 X.Wd X.a0 Q 12 := by
  intro γ listed a w o hF hC hW h1 ho h2
  obtain ⟨hd, hop, hg⟩ := fields2 (x := some 48) (y := Op.build 114 #[(0, (.tmp 38)), (1, (.tmp 41)), (2, (.tmp 44)), (3, (.tmp 47))]) (z := none) (by kernel_rfl) ho
  have e38 : a.eval (.tmp 38) = .int .i64 (fnV X.ax) := slotG hF ho h2 (j := 2) (d := 38) (by kernel_rfl) (by kernel_rfl) (by rw [ok.sz]; decide)
  have e41 : a.eval (.tmp 41) = .int .i64 (fnV X.ay) := slotG hF ho h2 (j := 5) (d := 41) (by kernel_rfl) (by kernel_rfl) (by rw [ok.sz]; decide)
  have e44 : a.eval (.tmp 44) = .int .i64 (fnV X.bx) := slotG hF ho h2 (j := 8) (d := 44) (by kernel_rfl) (by kernel_rfl) (by rw [ok.sz]; decide)
  have e47 : a.eval (.tmp 47) = .int .i64 (fnV X.cy) := slotG hF ho h2 (j := 11) (d := 47) (by kernel_rfl) (by kernel_rfl) (by rw [ok.sz]; decide)
  refine st_pureG hF hC hW ho h2 (by decide) hd hg rfl ?_
  show _ = Result.ok (Next.value (.agg #[.int .i64 (fnV X.ax), .int .i64 (fnV X.ay), .int .i64 (fnV X.bx), .int .i64 (fnV X.cy)])) w
  generalize a.eval = ρ at e38 e41 e44 e47 ⊢
  unfold execOp
  rw [hop]
  simp [e38, e41, e44, e47, go_sem]
theorem ED.s13 (X : ED) (ok : EDOk X) {Q : Exit → Act → World → Prop} : StepG (opsOf 10 Try.f55) ED.acts ED.av X.val0 X.Wd X.a0 Q 13 := by
  intro γ listed a w o hF hC hW h1 ho h2
  obtain ⟨hd, hop, hg⟩ := fields2 (x := some 10) (y := Op.alloc 114) (z := none) (by kernel_rfl) ho
  have hu := unl (hF.lt ho) h1
  refine st_actG (k := 0) ED.chain ED.nodup rfl hF hC hW h1 ho h2 (Or.inr ⟨10, hd, rfl⟩) (ED.inj (by kernel_rfl) hu) hg ?_
  intro hW0 K hK
  have hr : (execOp a.eval o).run Try.prog w = .ok (.value (.pointer (some ⟨w.heap.size, 0, none⟩))) (w.alloc (.cells #[.int .i64 0, .int .i64 0, .int .i64 0, .int .i64 0] 114)) := by
    unfold execOp
    rw [hop]
    simp [go_sem]
  unfold Oper.wp
  rw [hr]
  exact hK _ _ ⟨w.heap.size, rfl, Kp.size hW0, ⟨by simp, by simp, by simp, by simp⟩, fun o => World.frozen?_alloc_at _ _ _ _ rfl, Kp.alloc hW0 _ _⟩
theorem ED.s14 (X : ED) (ok : EDOk X) {Q : Exit → Act → World → Prop} : StepG (opsOf 10 Try.f55) ED.acts ED.av X.val0 X.Wd X.a0 Q 14 := by
  intro γ listed a w o hF hC hW h1 ho h2
  obtain ⟨hd, hop, hg⟩ := fields2 (x := none) (y := Op.store 114 (.tmp 10) (.tmp 48)) (z := none) (by kernel_rfl) ho
  have e10 : a.eval (.tmp 10) = γ 0 := slotG hF ho h2 (j := 13) (d := 10) (by kernel_rfl) (by kernel_rfl) (by rw [ok.sz]; decide)
  have e48 : a.eval (.tmp 48) = .agg #[.int .i64 (fnV X.ax), .int .i64 (fnV X.ay), .int .i64 (fnV X.bx), .int .i64 (fnV X.cy)] := slotG hF ho h2 (j := 12) (d := 48) (by kernel_rfl) (by kernel_rfl) (by rw [ok.sz]; decide)
  have hu := unl (hF.lt ho) h1
  refine st_actG (k := 1) ED.chain ED.nodup rfl hF hC hW h1 ho h2 (Or.inl hd) (ED.inj (by kernel_rfl) hu) hg ?_
  intro hW0 K hK
  obtain ⟨g, g0, hg0, ⟨z0, z1, z2, z3⟩, zf, k1⟩ := hW0
  rw [g0] at e10
  obtain ⟨y0, y1, y2, y3⟩ := rq_set4 w g (.int .i64 (fnV X.ax)) (.int .i64 (fnV X.ay)) (.int .i64 (fnV X.bx)) (.int .i64 (fnV X.cy)) z0 z1 z2 z3
  have hr : (execOp a.eval o).run Try.prog w = .ok .skip ((((w.setCell ⟨g, 0, none⟩ (.int .i64 (fnV X.ax))).setCell ⟨g, 1, none⟩ (.int .i64 (fnV X.ay))).setCell ⟨g, 2, none⟩ (.int .i64 (fnV X.bx))).setCell ⟨g, 3, none⟩ (.int .i64 (fnV X.cy))) := by
    generalize a.eval = ρ at e10 e48 ⊢
    unfold execOp
    rw [hop]
    simp [e10, e48, z0, z1, z2, z3, zf, go_sem]
  unfold Oper.wp
  rw [hr]
  exact hK _ _ ⟨g, g0, hg0, ⟨y0, y1, y2, y3⟩, fun o => by rw [World.frozen?_setCell, World.frozen?_setCell, World.frozen?_setCell, World.frozen?_setCell]; exact zf o, (Kp.setCell (Kp.setCell (Kp.setCell (Kp.setCell k1 hg0 _) hg0 _) hg0 _) hg0 _)⟩
theorem ED.size : (opsOf 10 Try.f55).size = 15 := by kernel_rfl
theorem ED.steps (X : ED) (ok : EDOk X) {Q : Exit → Act → World → Prop} (i : Nat) (hi : i < (opsOf 10 Try.f55).size) : StepG (opsOf 10 Try.f55) ED.acts ED.av X.val0 X.Wd X.a0 Q i := by
  rw [ED.size] at hi
  have hc : i = 0 ∨ i = 1 ∨ i = 2 ∨ i = 3 ∨ i = 4 ∨ i = 5 ∨ i = 6 ∨ i = 7 ∨ i = 8 ∨ i = 9 ∨ i = 10 ∨ i = 11 ∨ i = 12 ∨ i = 13 ∨ i = 14 := by omega
  rcases hc with rfl | rfl | rfl | rfl | rfl | rfl | rfl | rfl | rfl | rfl | rfl | rfl | rfl | rfl | rfl
  · exact ED.s0 X ok
  · exact ED.s1 X ok
  · exact ED.s2 X ok
  · exact ED.s3 X ok
  · exact ED.s4 X ok
  · exact ED.s5 X ok
  · exact ED.s6 X ok
  · exact ED.s7 X ok
  · exact ED.s8 X ok
  · exact ED.s9 X ok
  · exact ED.s10 X ok
  · exact ED.s11 X ok
  · exact ED.s12 X ok
  · exact ED.s13 X ok
  · exact ED.s14 X ok
theorem ED.puts (X : ED) (γ : Nat → Value) (a0 : Act) : putsL (valG ED.av X.val0 γ) (opsOf 10 Try.f55).toList a0 = ((((((((((((((a0.put (some 36) (.pointer (some ⟨X.b0, 0, none⟩))).put (some 37) (.int .i64 X.ax)).put (some 38) (.int .i64 (fnV X.ax))).put (some 39) (.pointer (some ⟨X.b0, 1, none⟩))).put (some 40) (.int .i64 X.ay)).put (some 41) (.int .i64 (fnV X.ay))).put (some 42) (.pointer (some ⟨X.b1, 0, none⟩))).put (some 43) (.int .i64 X.bx)).put (some 44) (.int .i64 (fnV X.bx))).put (some 45) (.pointer (some ⟨X.b1, 1, none⟩))).put (some 46) (.int .i64 X.cy)).put (some 47) (.int .i64 (fnV X.cy))).put (some 48) (.agg #[.int .i64 (fnV X.ax), .int .i64 (fnV X.ay), .int .i64 (fnV X.bx), .int .i64 (fnV X.cy)])).put (some 10) (γ 0)) := by kernel_rfl
/-- The region, whatever order comes up. -/
theorem ED.run (X : ED) (ok : EDOk X) {Q : Exit → Act → World → Prop} (w : World) (h0 : X.Wd 0 (fun _ => undef) w.drew) (hend : ∀ (γ : Nat → Value) w', X.Wd 2 γ w' → Q .normal ((((((((((((((X.a0.put (some 36) (.pointer (some ⟨X.b0, 0, none⟩))).put (some 37) (.int .i64 X.ax)).put (some 38) (.int .i64 (fnV X.ax))).put (some 39) (.pointer (some ⟨X.b0, 1, none⟩))).put (some 40) (.int .i64 X.ay)).put (some 41) (.int .i64 (fnV X.ay))).put (some 42) (.pointer (some ⟨X.b1, 0, none⟩))).put (some 43) (.int .i64 X.bx)).put (some 44) (.int .i64 (fnV X.bx))).put (some 45) (.pointer (some ⟨X.b1, 1, none⟩))).put (some 46) (.int .i64 X.cy)).put (some 47) (.int .i64 (fnV X.cy))).put (some 48) (.agg #[.int .i64 (fnV X.ax), .int .i64 (fnV X.ay), .int .i64 (fnV X.bx), .int .i64 (fnV X.cy)])).put (some 10) (γ 0)) w') : (Code.region 10 (opsOf 10 Try.f55) true).wp Try.prog Q X.a0 w := by
  refine reg_act (acts := ED.acts) (av := ED.av) (val0 := X.val0) (Wd := X.Wd) (by kernel_rfl) (by kernel_rfl) (by rw [ED.size]; decide) (fun i hi => ED.steps X ok i hi) _ h0 ?_
  intro γ w' h
  rw [ED.puts]
  exact hend γ w' h
end Go.Proofs.Ytllljknpicmmjaa
