/-
  The statements of the program that make edges and draw their order; each theorem names its conditions.
-/
import Derived.Test.YtllljknpicmmjaaFi
import Derived.Test.YtllljknpicmmjaaEd4
namespace Go.Proofs.Ytllljknpicmmjaa
open Go.ChangeShapes Go.WideShapes Go.ChangeAt Go.RowKit
set_option linter.unusedVariables false

structure EA where
  bl : Nat
  gp : Nat
  off : Nat
  n : Nat
  pc : Nat
  k : Nat
  m : Nat
  x : Int
  y : Int
  W : World
  a0 : Act
structure EAOk (X : EA) : Prop where
  c0 : X.W.cell? ⟨X.bl, 0, none⟩ = some (.slice (some ⟨X.gp, X.off, none⟩) X.n X.pc)
  p0 : X.W.cell? ⟨X.gp, X.off + X.m * 2, none⟩ = some (.int .i64 X.x)
  p1 : X.W.cell? ⟨X.gp, X.off + X.m * 2 + 1, none⟩ = some (.int .i64 X.y)
  hm : X.m < X.n
  w1 : IntKind.i64.wrap ((X.k : Int) + 1) = (X.k : Int) + 1
  n0 : ¬ X.n = 0
  w2 : ((X.k : Int) + 1).tmod (X.n : Int) = (X.m : Int)
  e5 : X.a0.eval (.tmp 5) = .pointer (some ⟨X.bl, 0, none⟩)
  e6 : X.a0.eval (.tmp 6) = .int .i64 (X.k : Int)
  sz : X.a0.tmps.size = 44
def EA.val0 (X : EA) : Nat → Value
  | 23 => .pointer (some ⟨X.bl, 0, none⟩)
  | 24 => .slice (some ⟨X.gp, X.off, none⟩) X.n X.pc
  | 25 => .int .i64 (X.k : Int)
  | 26 => .int .i64 ((X.k : Int) + 1)
  | 27 => .pointer (some ⟨X.bl, 0, none⟩)
  | 28 => .slice (some ⟨X.gp, X.off, none⟩) X.n X.pc
  | 29 => .int .i64 (X.n : Int)
  | 30 => .int .i64 (X.m : Int)
  | 31 => .pointer (some ⟨X.gp, X.off + X.m * 2, none⟩)
  | 32 => .agg #[.int .i64 X.x, .int .i64 X.y]
  | _ => undef
def EA.av : Nat → Option Nat
  | 8 => some 0
  | _ => none
def EA.acts : List Nat := [10, 11]
/-- The world, by how many of the acting ones have come up. -/
def EA.Wd (X : EA) : Nat → (Nat → Value) → World → Prop
  | 0, _, w => Kp X.W w
  | 1, γ, w => ∃ g, γ 0 = .pointer (some ⟨g, 0, none⟩) ∧ X.W.heap.size ≤ g ∧ (w.cell? ⟨g, 0, none⟩ = some (.int .i64 0) ∧ w.cell? ⟨g, 1, none⟩ = some (.int .i64 0)) ∧ (∀ o, w.frozen? ⟨g, o, none⟩ = false) ∧ Kp X.W w
  | _, γ, w => ∃ g, γ 0 = .pointer (some ⟨g, 0, none⟩) ∧ X.W.heap.size ≤ g ∧ (w.cell? ⟨g, 0, none⟩ = some (.int .i64 X.x) ∧ w.cell? ⟨g, 1, none⟩ = some (.int .i64 X.y)) ∧ (∀ o, w.frozen? ⟨g, o, none⟩ = false) ∧ Kp X.W w
theorem EA.kp {X : EA} : ∀ {n : Nat} {γ : Nat → Value} {w : World}, X.Wd n γ w → Kp X.W w
  | 0, _, _, h => h
  | 1, _, _, ⟨_, _, _, _, _, h⟩ => h
  | _ + 2, _, _, ⟨_, _, _, _, _, h⟩ => h
theorem EA.keep {X : EA} : ∀ {n : Nat} {γ : Nat → Value} {w w' : World}, X.Wd n γ w → Kp w w' → X.Wd n γ w'
  | 0, _, _, _, h, k => Kp.trans h k
  | 1, _, w, _, ⟨g, h1, h2, ⟨h30, h31⟩, h5, h6⟩, k => ⟨g, h1, h2, ⟨(k.cells.1 _ _ (World.block_lt_of_cell? w ⟨g, 0, none⟩ h30)).trans h30, (k.cells.1 _ _ (World.block_lt_of_cell? w ⟨g, 0, none⟩ h30)).trans h31⟩, fun o => (k.cells.2 _ _).trans (h5 o), Kp.trans h6 k⟩
  | _ + 2, _, w, _, ⟨g, h1, h2, ⟨h30, h31⟩, h5, h6⟩, k => ⟨g, h1, h2, ⟨(k.cells.1 _ _ (World.block_lt_of_cell? w ⟨g, 0, none⟩ h30)).trans h30, (k.cells.1 _ _ (World.block_lt_of_cell? w ⟨g, 0, none⟩ h30)).trans h31⟩, fun o => (k.cells.2 _ _).trans (h5 o), Kp.trans h6 k⟩
theorem EA.chain : chainG (opsOf 8 Try.f42) EA.acts = true := by kernel_rfl
theorem EA.nodup : EA.acts.Nodup := by decide
theorem EA.inj {listed : Array Bool} {i k : Nat} (h : (List.range (opsOf 8 Try.f42).size).all (fun j => decide (j = i) || !(match dstOf (opsOf 8 Try.f42) j with | some d => decide (EA.av d = some k) | none => false)) = true) (hu : listed.getD i false = false) : ∀ d, got (opsOf 8 Try.f42) listed d → EA.av d ≠ some k := by
  rintro d ⟨j, h1, h2⟩ h3
  have hlt : j < (opsOf 8 Try.f42).size := by
    rcases Nat.lt_or_ge j (opsOf 8 Try.f42).size with h4 | h4
    · exact h4
    · unfold dstOf at h2; rw [Array.getElem?_eq_none h4] at h2; cases h2
  have h5 := List.all_eq_true.1 h j (List.mem_range.2 hlt)
  rw [h2] at h5
  simp only [h3, decide_true, Bool.not_true, Bool.or_false, decide_eq_true_eq] at h5
  subst h5
  rw [hu] at h1
  cases h1
theorem EA.s0 (X : EA) (ok : EAOk X) {Q : Exit → Act → World → Prop} : StepG (opsOf 8 Try.f42) EA.acts EA.av X.val0 X.Wd X.a0 Q 0 := by
  intro γ listed a w o hF hC hW h1 ho h2
  obtain ⟨hd, hop, hg⟩ := fields2 (x := some 23) (y := Op.fieldAddr 35 (.tmp 5) 0) (z := none) (by kernel_rfl) ho
  have e5 : a.eval (.tmp 5) = .pointer (some ⟨X.bl, 0, none⟩) := (hF.eval0 (by kernel_rfl)).trans ok.e5
  refine st_pureG hF hC hW ho h2 (by decide) hd hg rfl ?_
  show _ = Result.ok (Next.value (.pointer (some ⟨X.bl, 0, none⟩))) w
  generalize a.eval = ρ at e5 ⊢
  unfold execOp
  rw [hop]
  simp [e5, go_sem]
theorem EA.s1 (X : EA) (ok : EAOk X) {Q : Exit → Act → World → Prop} : StepG (opsOf 8 Try.f42) EA.acts EA.av X.val0 X.Wd X.a0 Q 1 := by
  intro γ listed a w o hF hC hW h1 ho h2
  obtain ⟨hd, hop, hg⟩ := fields2 (x := some 24) (y := Op.load 33 (.tmp 23)) (z := none) (by kernel_rfl) ho
  have e23 : a.eval (.tmp 23) = .pointer (some ⟨X.bl, 0, none⟩) := slotG hF ho h2 (j := 0) (d := 23) (by kernel_rfl) (by kernel_rfl) (by rw [ok.sz]; decide)
  have hc0 := rq_at (EA.kp hW) ok.c0
  refine st_pureG hF hC hW ho h2 (by decide) hd hg rfl ?_
  show _ = Result.ok (Next.value (.slice (some ⟨X.gp, X.off, none⟩) X.n X.pc)) w
  generalize a.eval = ρ at e23 ⊢
  unfold execOp
  rw [hop]
  simp [e23, hc0, go_sem]
theorem EA.s2 (X : EA) (ok : EAOk X) {Q : Exit → Act → World → Prop} : StepG (opsOf 8 Try.f42) EA.acts EA.av X.val0 X.Wd X.a0 Q 2 := by
  intro γ listed a w o hF hC hW h1 ho h2
  obtain ⟨hd, hop, hg⟩ := fields2 (x := some 25) (y := Op.move (.tmp 6)) (z := none) (by kernel_rfl) ho
  have e6 : a.eval (.tmp 6) = .int .i64 (X.k : Int) := (hF.eval0 (by kernel_rfl)).trans ok.e6
  refine st_pureG hF hC hW ho h2 (by decide) hd hg rfl ?_
  show _ = Result.ok (Next.value (.int .i64 (X.k : Int))) w
  generalize a.eval = ρ at e6 ⊢
  unfold execOp
  rw [hop]
  simp [e6, go_sem]
theorem EA.s3 (X : EA) (ok : EAOk X) {Q : Exit → Act → World → Prop} : StepG (opsOf 8 Try.f42) EA.acts EA.av X.val0 X.Wd X.a0 Q 3 := by
  intro γ listed a w o hF hC hW h1 ho h2
  obtain ⟨hd, hop, hg⟩ := fields2 (x := some 26) (y := Op.binOp .add 3 (.tmp 25) (.const (.int .i64 1)) 3) (z := none) (by kernel_rfl) ho
  have e25 : a.eval (.tmp 25) = .int .i64 (X.k : Int) := slotG hF ho h2 (j := 2) (d := 25) (by kernel_rfl) (by kernel_rfl) (by rw [ok.sz]; decide)
  have ec1 : a.eval (.const (.int .i64 1)) = .int .i64 1 := rfl
  refine st_pureG hF hC hW ho h2 (by decide) hd hg rfl ?_
  show _ = Result.ok (Next.value (.int .i64 ((X.k : Int) + 1))) w
  generalize a.eval = ρ at e25 ec1 ⊢
  unfold execOp
  rw [hop]
  simp [e25, ec1, ok.w1, go_sem]
theorem EA.s4 (X : EA) (ok : EAOk X) {Q : Exit → Act → World → Prop} : StepG (opsOf 8 Try.f42) EA.acts EA.av X.val0 X.Wd X.a0 Q 4 := by
  intro γ listed a w o hF hC hW h1 ho h2
  obtain ⟨hd, hop, hg⟩ := fields2 (x := some 27) (y := Op.fieldAddr 35 (.tmp 5) 0) (z := none) (by kernel_rfl) ho
  have e5 : a.eval (.tmp 5) = .pointer (some ⟨X.bl, 0, none⟩) := (hF.eval0 (by kernel_rfl)).trans ok.e5
  refine st_pureG hF hC hW ho h2 (by decide) hd hg rfl ?_
  show _ = Result.ok (Next.value (.pointer (some ⟨X.bl, 0, none⟩))) w
  generalize a.eval = ρ at e5 ⊢
  unfold execOp
  rw [hop]
  simp [e5, go_sem]
theorem EA.s5 (X : EA) (ok : EAOk X) {Q : Exit → Act → World → Prop} : StepG (opsOf 8 Try.f42) EA.acts EA.av X.val0 X.Wd X.a0 Q 5 := by
  intro γ listed a w o hF hC hW h1 ho h2
  obtain ⟨hd, hop, hg⟩ := fields2 (x := some 28) (y := Op.load 33 (.tmp 27)) (z := none) (by kernel_rfl) ho
  have e27 : a.eval (.tmp 27) = .pointer (some ⟨X.bl, 0, none⟩) := slotG hF ho h2 (j := 4) (d := 27) (by kernel_rfl) (by kernel_rfl) (by rw [ok.sz]; decide)
  have hc0 := rq_at (EA.kp hW) ok.c0
  refine st_pureG hF hC hW ho h2 (by decide) hd hg rfl ?_
  show _ = Result.ok (Next.value (.slice (some ⟨X.gp, X.off, none⟩) X.n X.pc)) w
  generalize a.eval = ρ at e27 ⊢
  unfold execOp
  rw [hop]
  simp [e27, hc0, go_sem]
theorem EA.s6 (X : EA) (ok : EAOk X) {Q : Exit → Act → World → Prop} : StepG (opsOf 8 Try.f42) EA.acts EA.av X.val0 X.Wd X.a0 Q 6 := by
  intro γ listed a w o hF hC hW h1 ho h2
  obtain ⟨hd, hop, hg⟩ := fields2 (x := some 29) (y := Op.call { callee := .builtin .len, args := #[(.tmp 28)], argTypes := #[33] }) (z := none) (by kernel_rfl) ho
  have e28 : a.eval (.tmp 28) = .slice (some ⟨X.gp, X.off, none⟩) X.n X.pc := slotG hF ho h2 (j := 5) (d := 28) (by kernel_rfl) (by kernel_rfl) (by rw [ok.sz]; decide)
  refine st_pureG hF hC hW ho h2 (by decide) hd hg rfl ?_
  show _ = Result.ok (Next.value (.int .i64 (X.n : Int))) w
  generalize a.eval = ρ at e28 ⊢
  unfold execOp
  rw [hop]
  simp [e28, go_sem]
theorem EA.s7 (X : EA) (ok : EAOk X) {Q : Exit → Act → World → Prop} : StepG (opsOf 8 Try.f42) EA.acts EA.av X.val0 X.Wd X.a0 Q 7 := by
  intro γ listed a w o hF hC hW h1 ho h2
  obtain ⟨hd, hop, hg⟩ := fields2 (x := some 30) (y := Op.binOp .rem 3 (.tmp 26) (.tmp 29) 3) (z := none) (by kernel_rfl) ho
  have e26 : a.eval (.tmp 26) = .int .i64 ((X.k : Int) + 1) := slotG hF ho h2 (j := 3) (d := 26) (by kernel_rfl) (by kernel_rfl) (by rw [ok.sz]; decide)
  have e29 : a.eval (.tmp 29) = .int .i64 (X.n : Int) := slotG hF ho h2 (j := 6) (d := 29) (by kernel_rfl) (by kernel_rfl) (by rw [ok.sz]; decide)
  refine st_pureG hF hC hW ho h2 (by decide) hd hg rfl ?_
  show _ = Result.ok (Next.value (.int .i64 (X.m : Int))) w
  generalize a.eval = ρ at e26 e29 ⊢
  unfold execOp
  rw [hop]
  simp [e26, e29, ok.w2, ok.n0, go_sem]
theorem EA.s8 (X : EA) (ok : EAOk X) {Q : Exit → Act → World → Prop} : StepG (opsOf 8 Try.f42) EA.acts EA.av X.val0 X.Wd X.a0 Q 8 := by
  intro γ listed a w o hF hC hW h1 ho h2
  obtain ⟨hd, hop, hg⟩ := fields2 (x := some 31) (y := Op.indexAddr 33 (.tmp 24) (.tmp 30)) (z := none) (by kernel_rfl) ho
  have e24 : a.eval (.tmp 24) = .slice (some ⟨X.gp, X.off, none⟩) X.n X.pc := slotG hF ho h2 (j := 1) (d := 24) (by kernel_rfl) (by kernel_rfl) (by rw [ok.sz]; decide)
  have e30 : a.eval (.tmp 30) = .int .i64 (X.m : Int) := slotG hF ho h2 (j := 7) (d := 30) (by kernel_rfl) (by kernel_rfl) (by rw [ok.sz]; decide)
  refine st_pureG hF hC hW ho h2 (by decide) hd hg rfl ?_
  show _ = Result.ok (Next.value (.pointer (some ⟨X.gp, X.off + X.m * 2, none⟩))) w
  generalize a.eval = ρ at e24 e30 ⊢
  unfold execOp
  rw [hop]
  simp [e24, e30, ok.hm, go_sem]
theorem EA.s9 (X : EA) (ok : EAOk X) {Q : Exit → Act → World → Prop} : StepG (opsOf 8 Try.f42) EA.acts EA.av X.val0 X.Wd X.a0 Q 9 := by
  intro γ listed a w o hF hC hW h1 ho h2
  obtain ⟨hd, hop, hg⟩ := fields2 (x := some 32) (y := Op.load 37 (.tmp 31)) (z := none) (by kernel_rfl) ho
  have e31 : a.eval (.tmp 31) = .pointer (some ⟨X.gp, X.off + X.m * 2, none⟩) := slotG hF ho h2 (j := 8) (d := 31) (by kernel_rfl) (by kernel_rfl) (by rw [ok.sz]; decide)
  have hc0 := rq_at (EA.kp hW) ok.p0
  have hc1 := rq_at (EA.kp hW) ok.p1
  refine st_pureG hF hC hW ho h2 (by decide) hd hg rfl ?_
  show _ = Result.ok (Next.value (.agg #[.int .i64 X.x, .int .i64 X.y])) w
  generalize a.eval = ρ at e31 ⊢
  unfold execOp
  rw [hop]
  simp [e31, hc0, hc1, go_sem]
theorem EA.s10 (X : EA) (ok : EAOk X) {Q : Exit → Act → World → Prop} : StepG (opsOf 8 Try.f42) EA.acts EA.av X.val0 X.Wd X.a0 Q 10 := by
  intro γ listed a w o hF hC hW h1 ho h2
  obtain ⟨hd, hop, hg⟩ := fields2 (x := some 8) (y := Op.alloc 37) (z := none) (by kernel_rfl) ho
  have hu := unl (hF.lt ho) h1
  refine st_actG (k := 0) EA.chain EA.nodup rfl hF hC hW h1 ho h2 (Or.inr ⟨8, hd, rfl⟩) (EA.inj (by kernel_rfl) hu) hg ?_
  intro hW0 K hK
  have hr : (execOp a.eval o).run Try.prog w = .ok (.value (.pointer (some ⟨w.heap.size, 0, none⟩))) (w.alloc (.cells #[.int .i64 0, .int .i64 0] 37)) := by
    unfold execOp
    rw [hop]
    simp [go_sem]
  unfold Oper.wp
  rw [hr]
  exact hK _ _ ⟨w.heap.size, rfl, Kp.size hW0, ⟨by simp, by simp⟩, fun o => World.frozen?_alloc_at _ _ _ _ rfl, Kp.alloc hW0 _ _⟩
theorem EA.s11 (X : EA) (ok : EAOk X) {Q : Exit → Act → World → Prop} : StepG (opsOf 8 Try.f42) EA.acts EA.av X.val0 X.Wd X.a0 Q 11 := by
  intro γ listed a w o hF hC hW h1 ho h2
  obtain ⟨hd, hop, hg⟩ := fields2 (x := none) (y := Op.store 37 (.tmp 8) (.tmp 32)) (z := none) (by kernel_rfl) ho
  have e8 : a.eval (.tmp 8) = γ 0 := slotG hF ho h2 (j := 10) (d := 8) (by kernel_rfl) (by kernel_rfl) (by rw [ok.sz]; decide)
  have e32 : a.eval (.tmp 32) = .agg #[.int .i64 X.x, .int .i64 X.y] := slotG hF ho h2 (j := 9) (d := 32) (by kernel_rfl) (by kernel_rfl) (by rw [ok.sz]; decide)
  have hu := unl (hF.lt ho) h1
  refine st_actG (k := 1) EA.chain EA.nodup rfl hF hC hW h1 ho h2 (Or.inl hd) (EA.inj (by kernel_rfl) hu) hg ?_
  intro hW0 K hK
  obtain ⟨g, g0, hg0, ⟨z0, z1⟩, zf, k1⟩ := hW0
  rw [g0] at e8
  obtain ⟨y0, y1⟩ := rq_set2 w g (.int .i64 X.x) (.int .i64 X.y) z0 z1
  have hr : (execOp a.eval o).run Try.prog w = .ok .skip ((w.setCell ⟨g, 0, none⟩ (.int .i64 X.x)).setCell ⟨g, 1, none⟩ (.int .i64 X.y)) := by
    generalize a.eval = ρ at e8 e32 ⊢
    unfold execOp
    rw [hop]
    simp [e8, e32, z0, z1, zf, go_sem]
  unfold Oper.wp
  rw [hr]
  exact hK _ _ ⟨g, g0, hg0, ⟨y0, y1⟩, fun o => by rw [World.frozen?_setCell, World.frozen?_setCell]; exact zf o, (Kp.setCell (Kp.setCell k1 hg0 _) hg0 _)⟩
theorem EA.size : (opsOf 8 Try.f42).size = 12 := by kernel_rfl
theorem EA.steps (X : EA) (ok : EAOk X) {Q : Exit → Act → World → Prop} (i : Nat) (hi : i < (opsOf 8 Try.f42).size) : StepG (opsOf 8 Try.f42) EA.acts EA.av X.val0 X.Wd X.a0 Q i := by
  rw [EA.size] at hi
  have hc : i = 0 ∨ i = 1 ∨ i = 2 ∨ i = 3 ∨ i = 4 ∨ i = 5 ∨ i = 6 ∨ i = 7 ∨ i = 8 ∨ i = 9 ∨ i = 10 ∨ i = 11 := by omega
  rcases hc with rfl | rfl | rfl | rfl | rfl | rfl | rfl | rfl | rfl | rfl | rfl | rfl
  · exact EA.s0 X ok
  · exact EA.s1 X ok
  · exact EA.s2 X ok
  · exact EA.s3 X ok
  · exact EA.s4 X ok
  · exact EA.s5 X ok
  · exact EA.s6 X ok
  · exact EA.s7 X ok
  · exact EA.s8 X ok
  · exact EA.s9 X ok
  · exact EA.s10 X ok
  · exact EA.s11 X ok
theorem EA.puts (X : EA) (γ : Nat → Value) (a0 : Act) : putsL (valG EA.av X.val0 γ) (opsOf 8 Try.f42).toList a0 = (((((((((((a0.put (some 23) (.pointer (some ⟨X.bl, 0, none⟩))).put (some 24) (.slice (some ⟨X.gp, X.off, none⟩) X.n X.pc)).put (some 25) (.int .i64 (X.k : Int))).put (some 26) (.int .i64 ((X.k : Int) + 1))).put (some 27) (.pointer (some ⟨X.bl, 0, none⟩))).put (some 28) (.slice (some ⟨X.gp, X.off, none⟩) X.n X.pc)).put (some 29) (.int .i64 (X.n : Int))).put (some 30) (.int .i64 (X.m : Int))).put (some 31) (.pointer (some ⟨X.gp, X.off + X.m * 2, none⟩))).put (some 32) (.agg #[.int .i64 X.x, .int .i64 X.y])).put (some 8) (γ 0)) := by kernel_rfl
/-- The region, whatever order comes up. -/
theorem EA.run (X : EA) (ok : EAOk X) {Q : Exit → Act → World → Prop} (w : World) (h0 : X.Wd 0 (fun _ => undef) w.drew) (hend : ∀ (γ : Nat → Value) w', X.Wd 2 γ w' → Q .normal (((((((((((X.a0.put (some 23) (.pointer (some ⟨X.bl, 0, none⟩))).put (some 24) (.slice (some ⟨X.gp, X.off, none⟩) X.n X.pc)).put (some 25) (.int .i64 (X.k : Int))).put (some 26) (.int .i64 ((X.k : Int) + 1))).put (some 27) (.pointer (some ⟨X.bl, 0, none⟩))).put (some 28) (.slice (some ⟨X.gp, X.off, none⟩) X.n X.pc)).put (some 29) (.int .i64 (X.n : Int))).put (some 30) (.int .i64 (X.m : Int))).put (some 31) (.pointer (some ⟨X.gp, X.off + X.m * 2, none⟩))).put (some 32) (.agg #[.int .i64 X.x, .int .i64 X.y])).put (some 8) (γ 0)) w') : (Code.region 8 (opsOf 8 Try.f42) true).wp Try.prog Q X.a0 w := by
  refine reg_act (acts := EA.acts) (av := EA.av) (val0 := X.val0) (Wd := X.Wd) (by kernel_rfl) (by kernel_rfl) (by rw [EA.size]; decide) (fun i hi => EA.steps X ok i hi) _ h0 ?_
  intro γ w' h
  rw [EA.puts]
  exact hend γ w' h
/-- A slot that is filled later only. -/
theorem early_of {ops : Array Oper} {listed : Array Bool} {i j d : Nat} (hC : Clo ops listed) (hu : listed.getD i false = false) (hone : (List.range ops.size).all (fun k => decide (k = j) || !(decide (dstOf ops k = some d))) = true) (p : List Nat) (hp : pathB ops (j :: p) = true) (hi : i ∈ p) : ¬ got ops listed d := by
  rintro ⟨k, h1, h2⟩
  have hlt : k < ops.size := by
    rcases Nat.lt_or_ge k ops.size with h4 | h4
    · exact h4
    · unfold dstOf at h2; rw [Array.getElem?_eq_none h4] at h2; cases h2
  have h5 := List.all_eq_true.1 hone k (List.mem_range.2 hlt)
  rw [h2] at h5
  simp only [decide_true, Bool.not_true, Bool.or_false, decide_eq_true_eq] at h5
  subst h5
  have := hC.path p k hp h1 i hi
  rw [hu] at this
  cases this
theorem info_edge : (Try.prog.info? 91).map (fun i => (i.zero, i.size, i.bytes)) = some (some (.agg #[.int .i64 0, .int .i64 0, .int .i64 0, .int .i64 0]), 4, 32) := by kernel_rfl
structure EB where
  b0 : Nat
  b1 : Nat
  B : Nat
  ax : Int
  ay : Int
  bx : Int
  cy : Int
  v : Value
  l : List Edg
  W : World
  a0 : Act
structure EBOk (X : EB) : Prop where
  own : OwnE 91 X.W X.B X.v X.l
  hB : X.B ≤ X.W.heap.size
  len : X.l.length ≤ 1000000
  c0 : X.W.cell? ⟨X.b0, 0, none⟩ = some (.int .i64 X.ax)
  c1 : X.W.cell? ⟨X.b0, 1, none⟩ = some (.int .i64 X.ay)
  c2 : X.W.cell? ⟨X.b1, 0, none⟩ = some (.int .i64 X.bx)
  c3 : X.W.cell? ⟨X.b1, 1, none⟩ = some (.int .i64 X.cy)
  n0 : nr X.ax
  n1 : nr X.ay
  n2 : nr X.bx
  n3 : nr X.cy
  e3 : X.a0.eval (.tmp 3) = X.v
  e7 : X.a0.eval (.tmp 7) = .pointer (some ⟨X.b0, 0, none⟩)
  e8 : X.a0.eval (.tmp 8) = .pointer (some ⟨X.b1, 0, none⟩)
  sz : X.a0.tmps.size = 44
def EB.val0 (X : EB) : Nat → Value
  | 33 => X.v
  | 34 => .agg #[.int .i64 X.ax, .int .i64 X.ay]
  | 35 => .agg #[.int .i64 (fnV X.ax), .int .i64 (fnV X.ay)]
  | 36 => .agg #[.int .i64 X.bx, .int .i64 X.cy]
  | 37 => .agg #[.int .i64 (fnV X.bx), .int .i64 (fnV X.cy)]
  | 38 => .agg #[.int .i64 (fnV X.ax), .int .i64 (fnV X.ay), .int .i64 (fnV X.bx), .int .i64 (fnV X.cy)]
  | _ => undef
def EB.av : Nat → Option Nat
  | 39 => some 0
  | 40 => some 1
  | 3 => some 2
  | _ => none
def EB.acts : List Nat := [6, 7, 8]
/-- The world, by how many of the acting ones have come up. -/
def EB.Wd (X : EB) : Nat → (Nat → Value) → World → Prop
  | 0, _, w => Kp X.W w
  | 1, γ, w => ∃ w1, Kp X.W w1 ∧ γ 0 = .slice (some ⟨w1.heap.size, 0, none⟩) 1 1 ∧ w = w1.alloc (.cells #[.int .i64 (fnV X.ax), .int .i64 (fnV X.ay), .int .i64 (fnV X.bx), .int .i64 (fnV X.cy)] 91)
  | 2, γ, w => ∃ w1, Kp X.W w1 ∧ OwnE 91 w X.B (γ 1) (X.l ++ [⟨fnV X.ax, fnV X.ay, fnV X.bx, fnV X.cy⟩]) ∧ Ext X.v (γ 1) w1 w
  | _, γ, w => γ 2 = γ 1 ∧ ∃ w1, Kp X.W w1 ∧ OwnE 91 w X.B (γ 1) (X.l ++ [⟨fnV X.ax, fnV X.ay, fnV X.bx, fnV X.cy⟩]) ∧ Ext X.v (γ 1) w1 w
theorem EB.chain : chainG (opsOf 9 Try.f42) EB.acts = true := by kernel_rfl
theorem EB.nodup : EB.acts.Nodup := by decide
theorem EB.inj {listed : Array Bool} {i k : Nat} (h : (List.range (opsOf 9 Try.f42).size).all (fun j => decide (j = i) || !(match dstOf (opsOf 9 Try.f42) j with | some d => decide (EB.av d = some k) | none => false)) = true) (hu : listed.getD i false = false) : ∀ d, got (opsOf 9 Try.f42) listed d → EB.av d ≠ some k := by
  rintro d ⟨j, h1, h2⟩ h3
  have hlt : j < (opsOf 9 Try.f42).size := by
    rcases Nat.lt_or_ge j (opsOf 9 Try.f42).size with h4 | h4
    · exact h4
    · unfold dstOf at h2; rw [Array.getElem?_eq_none h4] at h2; cases h2
  have h5 := List.all_eq_true.1 h j (List.mem_range.2 hlt)
  rw [h2] at h5
  simp only [h3, decide_true, Bool.not_true, Bool.or_false, decide_eq_true_eq] at h5
  subst h5
  rw [hu] at h1
  cases h1
theorem EB.s0 (X : EB) (ok : EBOk X) {Q : Exit → Act → World → Prop} : StepG (opsOf 9 Try.f42) EB.acts EB.av X.val0 X.Wd X.a0 Q 0 := by
  intro γ listed a w o hF hC hW h1 ho h2
  obtain ⟨hd, hop, hg⟩ := fields2 (x := some 33) (y := Op.move (.tmp 3)) (z := none) (by kernel_rfl) ho
  have e3 : a.eval (.tmp 3) = X.v := (hF.no 3 (early_of hC (unl (hF.lt ho) h1) (j := 8) (by kernel_rfl) [7, 0] (by kernel_rfl) (by decide))).trans ok.e3
  refine st_pureG hF hC hW ho h2 (by decide) hd hg rfl ?_
  show _ = Result.ok (Next.value (X.v)) w
  generalize a.eval = ρ at e3 ⊢
  unfold execOp
  rw [hop]
  simp [e3, go_sem]
theorem EB.s1 (X : EB) (ok : EBOk X) {Q : Exit → Act → World → Prop} : StepG (opsOf 9 Try.f42) EB.acts EB.av X.val0 X.Wd X.a0 Q 1 := by
  intro γ listed a w o hF hC hW h1 ho h2
  obtain ⟨hd, hop, hg⟩ := fields2 (x := some 34) (y := Op.load 37 (.tmp 7)) (z := none) (by kernel_rfl) ho
  have e7 : a.eval (.tmp 7) = .pointer (some ⟨X.b0, 0, none⟩) := (hF.eval0 (by kernel_rfl)).trans ok.e7
  have hph := phase_leG (acts := EB.acts) (m := 0) (x := 6) hC (unl (hF.lt ho) h1) rfl [5, 2, 1] (by kernel_rfl) (by decide)
  have hWW := hW
  generalize phase listed EB.acts = n at hph hWW
  have hk : Kp X.W w := by
    obtain rfl : n = 0 := by omega
    exact hWW
  have h0 := rq_at hk ok.c0
  have h1' := rq_at hk ok.c1
  refine st_pureG hF hC hW ho h2 (by decide) hd hg rfl ?_
  show _ = Result.ok (Next.value (.agg #[.int .i64 X.ax, .int .i64 X.ay])) w
  generalize a.eval = ρ at e7 ⊢
  unfold execOp
  rw [hop]
  simp [e7, h0, h1', go_sem]
theorem EB.s2 (X : EB) (ok : EBOk X) {Q : Exit → Act → World → Prop} : StepG (opsOf 9 Try.f42) EB.acts EB.av X.val0 X.Wd X.a0 Q 2 := by
  intro γ listed a w o hF hC hW h1 ho h2
  obtain ⟨hd, hop, hg⟩ := fields2 (x := some 35) (y := Op.call { callee := .value (.func 51), args := #[(.tmp 34)], argTypes := #[37] }) (z := none) (by kernel_rfl) ho
  have e34 : a.eval (.tmp 34) = .agg #[.int .i64 X.ax, .int .i64 X.ay] := slotG hF ho h2 (j := 1) (d := 34) (by kernel_rfl) (by kernel_rfl) (by rw [ok.sz]; decide)
  have ef : a.eval (.func 51) = .func (.func 51) #[] #[] := rfl
  refine st_callG hF hC hW ho h2 (by decide) hd hg rfl (f := 51) (args := #[.agg #[.int .i64 X.ax, .int .i64 X.ay]]) ?_ ?_ ?_
  · generalize a.eval = ρ at e34 ef ⊢
    unfold execOp
    rw [hop]
    simp [e34, ef, go_sem]
  · exact ifineP w X.ax X.ay ok.n0 ok.n1
  · intro w' hk
    have hz : phase listed EB.acts = 0 := by
      have := phase_leG (acts := EB.acts) (m := 0) (x := 6) hC (unl (hF.lt ho) h1) rfl [5, 2] (by kernel_rfl) (by decide)
      omega
    rw [hz] at hW ⊢
    exact Kp.trans hW hk
theorem EB.s3 (X : EB) (ok : EBOk X) {Q : Exit → Act → World → Prop} : StepG (opsOf 9 Try.f42) EB.acts EB.av X.val0 X.Wd X.a0 Q 3 := by
  intro γ listed a w o hF hC hW h1 ho h2
  obtain ⟨hd, hop, hg⟩ := fields2 (x := some 36) (y := Op.load 37 (.tmp 8)) (z := none) (by kernel_rfl) ho
  have e8 : a.eval (.tmp 8) = .pointer (some ⟨X.b1, 0, none⟩) := (hF.eval0 (by kernel_rfl)).trans ok.e8
  have hph := phase_leG (acts := EB.acts) (m := 0) (x := 6) hC (unl (hF.lt ho) h1) rfl [5, 4, 3] (by kernel_rfl) (by decide)
  have hWW := hW
  generalize phase listed EB.acts = n at hph hWW
  have hk : Kp X.W w := by
    obtain rfl : n = 0 := by omega
    exact hWW
  have h0 := rq_at hk ok.c2
  have h1' := rq_at hk ok.c3
  refine st_pureG hF hC hW ho h2 (by decide) hd hg rfl ?_
  show _ = Result.ok (Next.value (.agg #[.int .i64 X.bx, .int .i64 X.cy])) w
  generalize a.eval = ρ at e8 ⊢
  unfold execOp
  rw [hop]
  simp [e8, h0, h1', go_sem]
theorem EB.s4 (X : EB) (ok : EBOk X) {Q : Exit → Act → World → Prop} : StepG (opsOf 9 Try.f42) EB.acts EB.av X.val0 X.Wd X.a0 Q 4 := by
  intro γ listed a w o hF hC hW h1 ho h2
  obtain ⟨hd, hop, hg⟩ := fields2 (x := some 37) (y := Op.call { callee := .value (.func 51), args := #[(.tmp 36)], argTypes := #[37] }) (z := none) (by kernel_rfl) ho
  have e36 : a.eval (.tmp 36) = .agg #[.int .i64 X.bx, .int .i64 X.cy] := slotG hF ho h2 (j := 3) (d := 36) (by kernel_rfl) (by kernel_rfl) (by rw [ok.sz]; decide)
  have ef : a.eval (.func 51) = .func (.func 51) #[] #[] := rfl
  refine st_callG hF hC hW ho h2 (by decide) hd hg rfl (f := 51) (args := #[.agg #[.int .i64 X.bx, .int .i64 X.cy]]) ?_ ?_ ?_
  · generalize a.eval = ρ at e36 ef ⊢
    unfold execOp
    rw [hop]
    simp [e36, ef, go_sem]
  · exact ifineP w X.bx X.cy ok.n2 ok.n3
  · intro w' hk
    have hz : phase listed EB.acts = 0 := by
      have := phase_leG (acts := EB.acts) (m := 0) (x := 6) hC (unl (hF.lt ho) h1) rfl [5, 4] (by kernel_rfl) (by decide)
      omega
    rw [hz] at hW ⊢
    exact Kp.trans hW hk
theorem EB.s5 (X : EB) (ok : EBOk X) {Q : Exit → Act → World → Prop} : StepG (opsOf 9 Try.f42) EB.acts EB.av X.val0 X.Wd X.a0 Q 5 := by
  intro γ listed a w o hF hC hW h1 ho h2
  obtain ⟨hd, hop, hg⟩ := fields2 (x := some 38) (y := Op.build 91 #[(0, (.tmp 35)), (1, (.tmp 37))]) (z := none) (by kernel_rfl) ho
  have e35 : a.eval (.tmp 35) = .agg #[.int .i64 (fnV X.ax), .int .i64 (fnV X.ay)] := slotG hF ho h2 (j := 2) (d := 35) (by kernel_rfl) (by kernel_rfl) (by rw [ok.sz]; decide)
  have e37 : a.eval (.tmp 37) = .agg #[.int .i64 (fnV X.bx), .int .i64 (fnV X.cy)] := slotG hF ho h2 (j := 4) (d := 37) (by kernel_rfl) (by kernel_rfl) (by rw [ok.sz]; decide)
  refine st_pureG hF hC hW ho h2 (by decide) hd hg rfl ?_
  show _ = Result.ok (Next.value (.agg #[.int .i64 (fnV X.ax), .int .i64 (fnV X.ay), .int .i64 (fnV X.bx), .int .i64 (fnV X.cy)])) w
  generalize a.eval = ρ at e35 e37 ⊢
  unfold execOp
  rw [hop]
  simp [e35, e37, go_sem]
theorem EB.s6 (X : EB) (ok : EBOk X) {Q : Exit → Act → World → Prop} : StepG (opsOf 9 Try.f42) EB.acts EB.av X.val0 X.Wd X.a0 Q 6 := by
  intro γ listed a w o hF hC hW h1 ho h2
  obtain ⟨hd, hop, hg⟩ := fields2 (x := some 39) (y := Op.buildSlice 74 1 #[(0, (.tmp 38))]) (z := none) (by kernel_rfl) ho
  have e38 : a.eval (.tmp 38) = .agg #[.int .i64 (fnV X.ax), .int .i64 (fnV X.ay), .int .i64 (fnV X.bx), .int .i64 (fnV X.cy)] := slotG hF ho h2 (j := 5) (d := 38) (by kernel_rfl) (by kernel_rfl) (by rw [ok.sz]; decide)
  have hu := unl (hF.lt ho) h1
  refine st_actG (k := 0) EB.chain EB.nodup rfl hF hC hW h1 ho h2 (Or.inr ⟨39, hd, rfl⟩) (EB.inj (by kernel_rfl) hu) hg ?_
  intro hW0 K hK
  have hr : (execOp a.eval o).run Try.prog w = .ok (.value (.slice (some ⟨w.heap.size, 0, none⟩) 1 1)) (w.alloc (.cells #[.int .i64 (fnV X.ax), .int .i64 (fnV X.ay), .int .i64 (fnV X.bx), .int .i64 (fnV X.cy)] 91)) := by
    generalize a.eval = ρ at e38 ⊢
    unfold execOp
    rw [hop]
    simp [e38, go_sem]
  unfold Oper.wp
  rw [hr]
  exact hK _ _ ⟨w, hW0, rfl, rfl⟩
theorem EB.s7 (X : EB) (ok : EBOk X) {Q : Exit → Act → World → Prop} : StepG (opsOf 9 Try.f42) EB.acts EB.av X.val0 X.Wd X.a0 Q 7 := by
  intro γ listed a w o hF hC hW h1 ho h2
  obtain ⟨hd, hop, hg⟩ := fields2 (x := some 40) (y := Op.call { callee := .builtin .append, args := #[(.tmp 33), (.tmp 39)], argTypes := #[74, 74] }) (z := none) (by kernel_rfl) ho
  have e33 : a.eval (.tmp 33) = X.v := slotG hF ho h2 (j := 0) (d := 33) (by kernel_rfl) (by kernel_rfl) (by rw [ok.sz]; decide)
  have e39 : a.eval (.tmp 39) = γ 0 := slotG hF ho h2 (j := 6) (d := 39) (by kernel_rfl) (by kernel_rfl) (by rw [ok.sz]; decide)
  have hu := unl (hF.lt ho) h1
  refine st_actG (k := 1) EB.chain EB.nodup rfl hF hC hW h1 ho h2 (Or.inr ⟨40, hd, rfl⟩) (EB.inj (by kernel_rfl) hu) hg ?_
  intro hW0 K hK
  obtain ⟨w1, k1, g0, rfl⟩ := hW0
  rw [g0] at e39
  have n1 : Nw w1 (w1.alloc (.cells #[.int .i64 (fnV X.ax), .int .i64 (fnV X.ay), .int .i64 (fnV X.bx), .int .i64 (fnV X.cy)] 91)) := (Below.refl _ _).alloc (Nat.le_refl _) _
  refine wp_e 91 74 Try.underlying74 info_edge _ (.tmp 33) (.tmp 39) hop X.B X.v X.l ⟨fnV X.ax, fnV X.ay, fnV X.bx, fnV X.cy⟩ e33 ((ok.own.nw k1.nw).nw n1) w1.heap.size e39 ⟨by simp, by simp, by simp, by simp⟩ ok.len (by have := ok.hB; have := k1.size; simp; omega) ?_
  intro v' w' h3 h4
  exact hK _ _ ⟨w1, k1, h3, n1.ext h4⟩
theorem EB.s8 (X : EB) (ok : EBOk X) {Q : Exit → Act → World → Prop} : StepG (opsOf 9 Try.f42) EB.acts EB.av X.val0 X.Wd X.a0 Q 8 := by
  intro γ listed a w o hF hC hW h1 ho h2
  obtain ⟨hd, hop, hg⟩ := fields2 (x := some 3) (y := Op.assign (.tmp 40)) (z := none) (by kernel_rfl) ho
  have e40 : a.eval (.tmp 40) = γ 1 := slotG hF ho h2 (j := 7) (d := 40) (by kernel_rfl) (by kernel_rfl) (by rw [ok.sz]; decide)
  have hu := unl (hF.lt ho) h1
  refine st_actG (k := 2) EB.chain EB.nodup rfl hF hC hW h1 ho h2 (Or.inr ⟨3, hd, rfl⟩) (EB.inj (by kernel_rfl) hu) hg ?_
  intro hW0 K hK
  obtain ⟨w1, k1, o1, x1⟩ := hW0
  have hr : (execOp a.eval o).run Try.prog w = .ok (.value (γ 1)) w := by
    generalize a.eval = ρ at e40 ⊢
    unfold execOp
    rw [hop]
    simp [e40, go_sem]
  unfold Oper.wp
  rw [hr]
  exact hK _ _ ⟨rfl, w1, k1, o1, x1⟩
theorem EB.size : (opsOf 9 Try.f42).size = 9 := by kernel_rfl
theorem EB.steps (X : EB) (ok : EBOk X) {Q : Exit → Act → World → Prop} (i : Nat) (hi : i < (opsOf 9 Try.f42).size) : StepG (opsOf 9 Try.f42) EB.acts EB.av X.val0 X.Wd X.a0 Q i := by
  rw [EB.size] at hi
  have hc : i = 0 ∨ i = 1 ∨ i = 2 ∨ i = 3 ∨ i = 4 ∨ i = 5 ∨ i = 6 ∨ i = 7 ∨ i = 8 := by omega
  rcases hc with rfl | rfl | rfl | rfl | rfl | rfl | rfl | rfl | rfl
  · exact EB.s0 X ok
  · exact EB.s1 X ok
  · exact EB.s2 X ok
  · exact EB.s3 X ok
  · exact EB.s4 X ok
  · exact EB.s5 X ok
  · exact EB.s6 X ok
  · exact EB.s7 X ok
  · exact EB.s8 X ok
theorem EB.puts (X : EB) (γ : Nat → Value) (a0 : Act) : putsL (valG EB.av X.val0 γ) (opsOf 9 Try.f42).toList a0 = (((((((((a0.put (some 33) (X.v)).put (some 34) (.agg #[.int .i64 X.ax, .int .i64 X.ay])).put (some 35) (.agg #[.int .i64 (fnV X.ax), .int .i64 (fnV X.ay)])).put (some 36) (.agg #[.int .i64 X.bx, .int .i64 X.cy])).put (some 37) (.agg #[.int .i64 (fnV X.bx), .int .i64 (fnV X.cy)])).put (some 38) (.agg #[.int .i64 (fnV X.ax), .int .i64 (fnV X.ay), .int .i64 (fnV X.bx), .int .i64 (fnV X.cy)])).put (some 39) (γ 0)).put (some 40) (γ 1)).put (some 3) (γ 2)) := by kernel_rfl
/-- The region, whatever order comes up. -/
theorem EB.run (X : EB) (ok : EBOk X) {Q : Exit → Act → World → Prop} (w : World) (h0 : X.Wd 0 (fun _ => undef) w.drew) (hend : ∀ (γ : Nat → Value) w', X.Wd 3 γ w' → Q .normal (((((((((X.a0.put (some 33) (X.v)).put (some 34) (.agg #[.int .i64 X.ax, .int .i64 X.ay])).put (some 35) (.agg #[.int .i64 (fnV X.ax), .int .i64 (fnV X.ay)])).put (some 36) (.agg #[.int .i64 X.bx, .int .i64 X.cy])).put (some 37) (.agg #[.int .i64 (fnV X.bx), .int .i64 (fnV X.cy)])).put (some 38) (.agg #[.int .i64 (fnV X.ax), .int .i64 (fnV X.ay), .int .i64 (fnV X.bx), .int .i64 (fnV X.cy)])).put (some 39) (γ 0)).put (some 40) (γ 1)).put (some 3) (γ 2)) w') : (Code.region 9 (opsOf 9 Try.f42) true).wp Try.prog Q X.a0 w := by
  refine reg_act (acts := EB.acts) (av := EB.av) (val0 := X.val0) (Wd := X.Wd) (by kernel_rfl) (by kernel_rfl) (by rw [EB.size]; decide) (fun i hi => EB.steps X ok i hi) _ h0 ?_
  intro γ w' h
  rw [EB.puts]
  exact hend γ w' h
end Go.Proofs.Ytllljknpicmmjaa
