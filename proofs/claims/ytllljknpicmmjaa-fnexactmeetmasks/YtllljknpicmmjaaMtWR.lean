/-
  The statements of the law on MeetMasks that make an answer and draw their order; each theorem names its conditions.
-/
import Derived.Test.YtllljknpicmmjaaMeet
import Derived.Test.YtllljknpicmmjaaRc
namespace Go.Proofs.Ytllljknpicmmjaa
open Go.ChangeShapes Go.WideShapes Go.ChangeAt Go.RowKit
set_option linter.unusedVariables false

structure MA where
  b0 : Nat
  b1 : Nat
  p : MD
  q : MD
  va : Value
  vb : Value
  C : Nat → World → Value → Prop
  R : Nat → World → Value → Value → Prop
  W : World
  a0 : Act
def MA.rc (X : MA) : RcX := ⟨2, 3, X.W, X.C, X.R⟩
structure MAOk (X : MA) : Prop where
  a0c : X.W.cell? ⟨X.b0, 0, none⟩ = some (.int .i64 X.p.w)
  a1c : X.W.cell? ⟨X.b0, 1, none⟩ = some (.int .i64 X.p.h)
  a2c : X.W.cell? ⟨X.b0, 2, none⟩ = some (X.va)
  b0c : X.W.cell? ⟨X.b1, 0, none⟩ = some (.int .i64 X.q.w)
  b1c : X.W.cell? ⟨X.b1, 1, none⟩ = some (.int .i64 X.q.h)
  b2c : X.W.cell? ⟨X.b1, 2, none⟩ = some (X.vb)
  rok : X.rc.Ok
  cc0 : ∀ w, Nw X.W w → Calls Try.prog 31 #[.agg #[.int .i64 X.p.w, .int .i64 X.p.h, X.va]] w fun e w' => ∃ u, e = .returned u ∧ X.C 0 w' u ∧ Nw w w'
  cc1 : ∀ w, Nw X.W w → Calls Try.prog 31 #[.agg #[.int .i64 X.q.w, .int .i64 X.q.h, X.vb]] w fun e w' => ∃ u, e = .returned u ∧ X.C 1 w' u ∧ Nw w w'
  mm : ∀ w u0 u1, Nw X.W w → X.C 0 w u0 → X.C 1 w u1 → Calls Try.prog 33 #[u0, u1] w fun e w' => ∃ r b, e = .returned (.tuple #[r, b]) ∧ X.R w.heap.size w' r b ∧ Nw w w'
  form : ∀ B w r b, X.R B w r b → ∃ x y sa sn sc, r = .agg #[.int .i64 x, .int .i64 y, .slice sa sn sc]
  e2 : X.a0.eval (.tmp 2) = .pointer (some ⟨X.b0, 0, none⟩)
  e3 : X.a0.eval (.tmp 3) = .pointer (some ⟨X.b1, 0, none⟩)
  sz : X.a0.tmps.size = 119
def MA.val0 (X : MA) : Nat → Value
  | 28 => .agg #[.int .i64 X.p.w, .int .i64 X.p.h, X.va]
  | 30 => .agg #[.int .i64 X.q.w, .int .i64 X.q.h, X.vb]
  | _ => undef
def MA.av : Nat → Option Nat
  | 6 => some 3
  | 7 => some 2
  | 27 => some 2
  | 29 => some 0
  | 31 => some 1
  | 32 => some 2
  | 33 => some 2
  | 34 => some 2
  | _ => none
def MA.ext : Nat → Value → Value
  | 7 => fun u => tupAt u 1
  | 33 => fun u => tupAt u 0
  | 34 => fun u => tupAt u 1
  | _ => fun u => u
def MA.acts : List Nat := [1, 3, 4, 8, 9]
theorem MA.nodup : MA.acts.Nodup := by decide
theorem MA.s0 (X : MA) (ok : MAOk X) {Q : Exit → Act → World → Prop} : StepH (opsOf 8 Try.f8) MA.acts MA.av MA.ext X.val0 X.rc.Wd X.a0 Q 0 := by
  intro γ listed a w o hF hC hW h1 ho h2
  obtain ⟨hd, hop, hg⟩ := fields2 (x := some 28) (y := Op.load 57 (.tmp 2)) (z := none) (by kernel_rfl) ho
  have e2 : a.eval (.tmp 2) = .pointer (some ⟨X.b0, 0, none⟩) := (hF.eval0 (by kernel_rfl)).trans ok.e2
  have hc0 := ((bcell hW.nw).1 _ _ (World.block_lt_of_cell? X.W ⟨_, _, none⟩ ok.a0c)).trans ok.a0c
  have hc1 := ((bcell hW.nw).1 _ _ (World.block_lt_of_cell? X.W ⟨_, _, none⟩ ok.a1c)).trans ok.a1c
  have hc2 := ((bcell hW.nw).1 _ _ (World.block_lt_of_cell? X.W ⟨_, _, none⟩ ok.a2c)).trans ok.a2c
  refine st_pureH hF hC hW ho h2 (by decide) hd hg ?_
  show _ = Result.ok (Next.value (.agg #[.int .i64 X.p.w, .int .i64 X.p.h, X.va])) w
  generalize a.eval = ρ at e2 ⊢
  unfold execOp
  rw [hop]
  simp [e2, hc0, hc1, hc2, go_sem]
theorem MA.s1 (X : MA) (ok : MAOk X) {Q : Exit → Act → World → Prop} : StepH (opsOf 8 Try.f8) MA.acts MA.av MA.ext X.val0 X.rc.Wd X.a0 Q 1 := by
  intro γ listed a w o hF hC hW h1 ho h2
  obtain ⟨hd, hop, hg⟩ := fields2 (x := some 29) (y := Op.call { callee := .value (.func 31), args := #[(.tmp 28)], argTypes := #[57] }) (z := none) (by kernel_rfl) ho
  have e28 : a.eval (.tmp 28) = .agg #[.int .i64 X.p.w, .int .i64 X.p.h, X.va] := slotH hF ho h2 (j := 0) (d := 28) (by kernel_rfl) (by kernel_rfl) (by rw [ok.sz]; decide)
  have ef : a.eval (.func 31) = .func (.func 31) #[] #[] := rfl
  have hu := unl (hF.lt ho) h1
  refine st_actH (k := 0) (ps := []) MA.nodup rfl (by kernel_rfl) hF hC h1 ho h2 (Or.inr ⟨29, hd, rfl, fun _ => rfl⟩) hg ?_
  intro K hK
  have hr : (execOp a.eval o).run Try.prog w = .ok (.enter 31 #[.agg #[.int .i64 X.p.w, .int .i64 X.p.h, X.va]]) w := by
    generalize a.eval = ρ at e28 ef ⊢
    unfold execOp
    rw [hop]
    simp [e28, ef, go_sem]
  unfold Oper.wp
  rw [hr]
  refine Calls.mono (ok.cc0 w hW.nw) ?_
  rintro e w' ⟨u, rfl, hc, k1⟩
  exact hK _ _ (RcX.Wd.copy ok.rok hW k1 (by show 0 < 2; decide) hc)
theorem MA.s2 (X : MA) (ok : MAOk X) {Q : Exit → Act → World → Prop} : StepH (opsOf 8 Try.f8) MA.acts MA.av MA.ext X.val0 X.rc.Wd X.a0 Q 2 := by
  intro γ listed a w o hF hC hW h1 ho h2
  obtain ⟨hd, hop, hg⟩ := fields2 (x := some 30) (y := Op.load 57 (.tmp 3)) (z := none) (by kernel_rfl) ho
  have e3 : a.eval (.tmp 3) = .pointer (some ⟨X.b1, 0, none⟩) := (hF.eval0 (by kernel_rfl)).trans ok.e3
  have hc0 := ((bcell hW.nw).1 _ _ (World.block_lt_of_cell? X.W ⟨_, _, none⟩ ok.b0c)).trans ok.b0c
  have hc1 := ((bcell hW.nw).1 _ _ (World.block_lt_of_cell? X.W ⟨_, _, none⟩ ok.b1c)).trans ok.b1c
  have hc2 := ((bcell hW.nw).1 _ _ (World.block_lt_of_cell? X.W ⟨_, _, none⟩ ok.b2c)).trans ok.b2c
  refine st_pureH hF hC hW ho h2 (by decide) hd hg ?_
  show _ = Result.ok (Next.value (.agg #[.int .i64 X.q.w, .int .i64 X.q.h, X.vb])) w
  generalize a.eval = ρ at e3 ⊢
  unfold execOp
  rw [hop]
  simp [e3, hc0, hc1, hc2, go_sem]
theorem MA.s3 (X : MA) (ok : MAOk X) {Q : Exit → Act → World → Prop} : StepH (opsOf 8 Try.f8) MA.acts MA.av MA.ext X.val0 X.rc.Wd X.a0 Q 3 := by
  intro γ listed a w o hF hC hW h1 ho h2
  obtain ⟨hd, hop, hg⟩ := fields2 (x := some 31) (y := Op.call { callee := .value (.func 31), args := #[(.tmp 30)], argTypes := #[57] }) (z := none) (by kernel_rfl) ho
  have e30 : a.eval (.tmp 30) = .agg #[.int .i64 X.q.w, .int .i64 X.q.h, X.vb] := slotH hF ho h2 (j := 2) (d := 30) (by kernel_rfl) (by kernel_rfl) (by rw [ok.sz]; decide)
  have ef : a.eval (.func 31) = .func (.func 31) #[] #[] := rfl
  have hu := unl (hF.lt ho) h1
  refine st_actH (k := 1) (ps := []) MA.nodup rfl (by kernel_rfl) hF hC h1 ho h2 (Or.inr ⟨31, hd, rfl, fun _ => rfl⟩) hg ?_
  intro K hK
  have hr : (execOp a.eval o).run Try.prog w = .ok (.enter 31 #[.agg #[.int .i64 X.q.w, .int .i64 X.q.h, X.vb]]) w := by
    generalize a.eval = ρ at e30 ef ⊢
    unfold execOp
    rw [hop]
    simp [e30, ef, go_sem]
  unfold Oper.wp
  rw [hr]
  refine Calls.mono (ok.cc1 w hW.nw) ?_
  rintro e w' ⟨u, rfl, hc, k1⟩
  exact hK _ _ (RcX.Wd.copy ok.rok hW k1 (by show 1 < 2; decide) hc)
theorem MA.s4 (X : MA) (ok : MAOk X) {Q : Exit → Act → World → Prop} : StepH (opsOf 8 Try.f8) MA.acts MA.av MA.ext X.val0 X.rc.Wd X.a0 Q 4 := by
  intro γ listed a w o hF hC hW h1 ho h2
  obtain ⟨hd, hop, hg⟩ := fields2 (x := some 32) (y := Op.call { callee := .value (.func 33), args := #[(.tmp 29), (.tmp 31)], argTypes := #[28, 28] }) (z := none) (by kernel_rfl) ho
  have e29 : a.eval (.tmp 29) = γ 0 := slotH hF ho h2 (j := 1) (d := 29) (by kernel_rfl) (by kernel_rfl) (by rw [ok.sz]; decide)
  have e31 : a.eval (.tmp 31) = γ 1 := slotH hF ho h2 (j := 3) (d := 31) (by kernel_rfl) (by kernel_rfl) (by rw [ok.sz]; decide)
  have ef : a.eval (.func 33) = .func (.func 33) #[] #[] := rfl
  have hu := unl (hF.lt ho) h1
  have hy0 : upOf listed MA.acts 0 = true := up_yes hC ho h2 (j := 1) rfl [1] (by kernel_rfl) (by decide)
  have hy1 : upOf listed MA.acts 1 = true := up_yes hC ho h2 (j := 3) rfl [3] (by kernel_rfl) (by decide)
  have hno : upOf listed MA.acts 4 = false := up_no hC hu rfl [6, 5, 4] (by kernel_rfl) (by decide)
  have hself : upOf listed MA.acts 2 = false := up_self rfl hu
  refine st_actH (k := 2) (ps := [[5, 4], [6, 5, 4], [7, 5, 4], [10, 7, 5, 4]]) MA.nodup rfl (by kernel_rfl) hF hC h1 ho h2 (Or.inr ⟨32, hd, rfl, fun _ => rfl⟩) hg ?_
  intro K hK
  have hr : (execOp a.eval o).run Try.prog w = .ok (.enter 33 #[γ 0, γ 1]) w := by
    generalize a.eval = ρ at e29 e31 ef ⊢
    unfold execOp
    rw [hop]
    simp [e29, e31, ef, go_sem]
  unfold Oper.wp
  rw [hr]
  refine Calls.mono (ok.mm w (γ 0) (γ 1) hW.nw (hW.cp 0 (by show 0 < 2; decide) hy0 hself) (hW.cp 1 (by show 1 < 2; decide) hy1 hself)) ?_
  rintro e w' ⟨r, b, rfl, hR, k1⟩
  exact hK _ _ (RcX.Wd.main ok.rok hW k1 hno hR)
theorem MA.s5 (X : MA) (ok : MAOk X) {Q : Exit → Act → World → Prop} : StepH (opsOf 8 Try.f8) MA.acts MA.av MA.ext X.val0 X.rc.Wd X.a0 Q 5 := by
  intro γ listed a w o hF hC hW h1 ho h2
  obtain ⟨hd, hop, hg⟩ := fields2 (x := some 27) (y := Op.move (.tmp 32)) (z := none) (by kernel_rfl) ho
  have e32 : a.eval (.tmp 32) = γ 2 := slotH hF ho h2 (j := 4) (d := 32) (by kernel_rfl) (by kernel_rfl) (by rw [ok.sz]; decide)
  refine st_pureH hF hC hW ho h2 (by decide) hd hg ?_
  show _ = Result.ok (Next.value (γ 2)) w
  generalize a.eval = ρ at e32 ⊢
  unfold execOp
  rw [hop]
  simp [e32, go_sem]
theorem MA.s6 (X : MA) (ok : MAOk X) {Q : Exit → Act → World → Prop} : StepH (opsOf 8 Try.f8) MA.acts MA.av MA.ext X.val0 X.rc.Wd X.a0 Q 6 := by
  intro γ listed a w o hF hC hW h1 ho h2
  obtain ⟨hd, hop, hg⟩ := fields2 (x := some 33) (y := Op.extract (.tmp 27) 0) (z := none) (by kernel_rfl) ho
  have e27 : a.eval (.tmp 27) = γ 2 := slotH hF ho h2 (j := 5) (d := 27) (by kernel_rfl) (by kernel_rfl) (by rw [ok.sz]; decide)
  have hy : upOf listed MA.acts 2 = true := up_yes hC ho h2 (j := 4) rfl [5, 4] (by kernel_rfl) (by decide)
  obtain ⟨r, b, _, _, g1, _⟩ := hW.ans hy
  replace g1 : γ 2 = .tuple #[r, b] := g1
  rw [g1] at e27
  refine st_pureH hF hC hW ho h2 (by decide) hd hg ?_
  show _ = Result.ok (Next.value (tupAt (γ 2) 0)) w
  rw [g1]
  generalize a.eval = ρ at e27 ⊢
  unfold execOp
  rw [hop]
  simp [e27, tupAt, go_sem]
theorem MA.s7 (X : MA) (ok : MAOk X) {Q : Exit → Act → World → Prop} : StepH (opsOf 8 Try.f8) MA.acts MA.av MA.ext X.val0 X.rc.Wd X.a0 Q 7 := by
  intro γ listed a w o hF hC hW h1 ho h2
  obtain ⟨hd, hop, hg⟩ := fields2 (x := some 34) (y := Op.extract (.tmp 27) 1) (z := none) (by kernel_rfl) ho
  have e27 : a.eval (.tmp 27) = γ 2 := slotH hF ho h2 (j := 5) (d := 27) (by kernel_rfl) (by kernel_rfl) (by rw [ok.sz]; decide)
  have hy : upOf listed MA.acts 2 = true := up_yes hC ho h2 (j := 4) rfl [5, 4] (by kernel_rfl) (by decide)
  obtain ⟨r, b, _, _, g1, _⟩ := hW.ans hy
  replace g1 : γ 2 = .tuple #[r, b] := g1
  rw [g1] at e27
  refine st_pureH hF hC hW ho h2 (by decide) hd hg ?_
  show _ = Result.ok (Next.value (tupAt (γ 2) 1)) w
  rw [g1]
  generalize a.eval = ρ at e27 ⊢
  unfold execOp
  rw [hop]
  simp [e27, tupAt, go_sem]
theorem MA.s8 (X : MA) (ok : MAOk X) {Q : Exit → Act → World → Prop} : StepH (opsOf 8 Try.f8) MA.acts MA.av MA.ext X.val0 X.rc.Wd X.a0 Q 8 := by
  intro γ listed a w o hF hC hW h1 ho h2
  obtain ⟨hd, hop, hg⟩ := fields2 (x := some 6) (y := Op.alloc 28) (z := none) (by kernel_rfl) ho
  have hu := unl (hF.lt ho) h1
  have hno : upOf listed MA.acts 4 = false := up_no hC hu rfl [8] (by kernel_rfl) (by decide)
  refine st_actH (k := 3) (ps := []) MA.nodup rfl (by kernel_rfl) hF hC h1 ho h2 (Or.inr ⟨6, hd, rfl, fun _ => rfl⟩) hg ?_
  intro K hK
  have hr : (execOp a.eval o).run Try.prog w = .ok (.value (.pointer (some ⟨w.heap.size, 0, none⟩))) (w.alloc (.cells #[.int .i64 0, .int .i64 0, .slice none 0 0] 28)) := by
    unfold execOp
    rw [hop]
    simp [go_sem]
  unfold Oper.wp
  rw [hr]
  exact hK _ _ (RcX.Wd.alloc ok.rok hW hno #[.int .i64 0, .int .i64 0, .slice none 0 0] 28 rfl)
theorem MA.s9 (X : MA) (ok : MAOk X) {Q : Exit → Act → World → Prop} : StepH (opsOf 8 Try.f8) MA.acts MA.av MA.ext X.val0 X.rc.Wd X.a0 Q 9 := by
  intro γ listed a w o hF hC hW h1 ho h2
  obtain ⟨hd, hop, hg⟩ := fields2 (x := none) (y := Op.store 28 (.tmp 6) (.tmp 33)) (z := none) (by kernel_rfl) ho
  have e6 : a.eval (.tmp 6) = γ 3 := slotH hF ho h2 (j := 8) (d := 6) (by kernel_rfl) (by kernel_rfl) (by rw [ok.sz]; decide)
  have e33 : a.eval (.tmp 33) = tupAt (γ 2) 0 := slotH hF ho h2 (j := 6) (d := 33) (by kernel_rfl) (by kernel_rfl) (by rw [ok.sz]; decide)
  have hu := unl (hF.lt ho) h1
  have hs1 : upOf listed MA.acts 2 = true := up_yes hC ho h2 (j := 4) rfl [6, 5, 4] (by kernel_rfl) (by decide)
  have hs2 : upOf listed MA.acts 3 = true := up_yes hC ho h2 (j := 8) rfl [8] (by kernel_rfl) (by decide)
  refine st_actH (k := 4) (ps := []) MA.nodup rfl (by kernel_rfl) hF hC h1 ho h2 (Or.inl hd) hg ?_
  intro K hK
  obtain ⟨r, b, B, w0, g1, _, g3, _⟩ := hW.ans hs1
  replace g1 : γ 2 = .tuple #[r, b] := g1
  obtain ⟨x, y, sa, sn, sc, rfl⟩ := ok.form _ _ _ _ g3
  obtain ⟨bx, p1, _, _, p4, p5⟩ := hW.box hs2
  replace p1 : γ 3 = .pointer (some ⟨bx, 0, none⟩) := p1
  rw [p1] at e6
  rw [g1] at e33
  replace e33 : a.eval (.tmp 33) = .agg #[.int .i64 x, .int .i64 y, .slice sa sn sc] := e33
  obtain ⟨z0, y0⟩ := p4 0 (by show 0 < 3; decide)
  obtain ⟨z1, y1⟩ := p4 1 (by show 1 < 3; decide)
  obtain ⟨z2, y2⟩ := p4 2 (by show 2 < 3; decide)
  have hr : (execOp a.eval o).run Try.prog w = .ok .skip (((w.setCell ⟨bx, 0, none⟩ (.int .i64 x)).setCell ⟨bx, 1, none⟩ (.int .i64 y)).setCell ⟨bx, 2, none⟩ (.slice sa sn sc)) := by
    generalize a.eval = ρ at e6 e33 ⊢
    unfold execOp
    rw [hop]
    simp [e6, e33, y0, y1, y2, p5, go_sem]
  unfold Oper.wp
  rw [hr]
  have hst := fun u => RcX.Wd.store ok.rok hW hs1 hs2 p1 g1 u
  have hcs : (Value.agg #[.int .i64 x, .int .i64 y, .slice sa sn sc]).cells.toList = [.int .i64 x, .int .i64 y, .slice sa sn sc] := rfl
  rw [hcs] at hst
  exact hK _ _ (hst _)
theorem MA.s10 (X : MA) (ok : MAOk X) {Q : Exit → Act → World → Prop} : StepH (opsOf 8 Try.f8) MA.acts MA.av MA.ext X.val0 X.rc.Wd X.a0 Q 10 := by
  intro γ listed a w o hF hC hW h1 ho h2
  obtain ⟨hd, hop, hg⟩ := fields2 (x := some 7) (y := Op.assign (.tmp 34)) (z := none) (by kernel_rfl) ho
  have e34 : a.eval (.tmp 34) = tupAt (γ 2) 1 := slotH hF ho h2 (j := 7) (d := 34) (by kernel_rfl) (by kernel_rfl) (by rw [ok.sz]; decide)
  refine st_pureH hF hC hW ho h2 (by decide) hd hg ?_
  show _ = Result.ok (Next.value (tupAt (γ 2) 1)) w
  generalize a.eval = ρ at e34 ⊢
  unfold execOp
  rw [hop]
  simp [e34, go_sem]
theorem MA.size : (opsOf 8 Try.f8).size = 11 := by kernel_rfl
theorem MA.steps (X : MA) (ok : MAOk X) {Q : Exit → Act → World → Prop} (i : Nat) (hi : i < (opsOf 8 Try.f8).size) : StepH (opsOf 8 Try.f8) MA.acts MA.av MA.ext X.val0 X.rc.Wd X.a0 Q i := by
  rw [MA.size] at hi
  have hc : i = 0 ∨ i = 1 ∨ i = 2 ∨ i = 3 ∨ i = 4 ∨ i = 5 ∨ i = 6 ∨ i = 7 ∨ i = 8 ∨ i = 9 ∨ i = 10 := by omega
  rcases hc with rfl | rfl | rfl | rfl | rfl | rfl | rfl | rfl | rfl | rfl | rfl
  · exact MA.s0 X ok
  · exact MA.s1 X ok
  · exact MA.s2 X ok
  · exact MA.s3 X ok
  · exact MA.s4 X ok
  · exact MA.s5 X ok
  · exact MA.s6 X ok
  · exact MA.s7 X ok
  · exact MA.s8 X ok
  · exact MA.s9 X ok
  · exact MA.s10 X ok
theorem MA.puts (X : MA) (γ : Nat → Value) (a0 : Act) : putsL (valH MA.av MA.ext X.val0 γ) (opsOf 8 Try.f8).toList a0 = ((((((((((a0.put (some 28) (.agg #[.int .i64 X.p.w, .int .i64 X.p.h, X.va])).put (some 29) (γ 0)).put (some 30) (.agg #[.int .i64 X.q.w, .int .i64 X.q.h, X.vb])).put (some 31) (γ 1)).put (some 32) (γ 2)).put (some 27) (γ 2)).put (some 33) (tupAt (γ 2) 0)).put (some 34) (tupAt (γ 2) 1)).put (some 6) (γ 3)).put (some 7) (tupAt (γ 2) 1)) := by kernel_rfl
/-- The region, whatever order comes up. -/
theorem MA.run (X : MA) (ok : MAOk X) {Q : Exit → Act → World → Prop} (w : World) (h0 : Nw X.W w.drew)
    (hend : ∀ (γ : Nat → Value) w' bx r b B w0, γ 3 = .pointer (some ⟨bx, 0, none⟩) → γ 2 = .tuple #[r, b] → Nw X.W w' → X.W.heap.size ≤ bx → bx < w'.heap.size → (∀ o, w'.frozen? ⟨bx, o, none⟩ = false) → (∀ j, j < 3 → w'.cell? ⟨bx, j, none⟩ = r.cells[j]?) → X.W.heap.size ≤ B → X.R B w0 r b → Nw w0 w' → (bx < B ∨ w0.heap.size ≤ bx) → Q .normal ((((((((((X.a0.put (some 28) (.agg #[.int .i64 X.p.w, .int .i64 X.p.h, X.va])).put (some 29) (γ 0)).put (some 30) (.agg #[.int .i64 X.q.w, .int .i64 X.q.h, X.vb])).put (some 31) (γ 1)).put (some 32) (γ 2)).put (some 27) (γ 2)).put (some 33) (tupAt (γ 2) 0)).put (some 34) (tupAt (γ 2) 1)).put (some 6) (γ 3)).put (some 7) (tupAt (γ 2) 1)) w') : (Code.region 8 (opsOf 8 Try.f8) true).wp Try.prog Q X.a0 w := by
  refine reg_actH (acts := MA.acts) (av := MA.av) (ext := MA.ext) (val0 := X.val0) (Wd := X.rc.Wd) (by kernel_rfl) (by kernel_rfl) (by rw [MA.size]; decide) (fun i hi => MA.steps X ok i hi) (fun _ => undef) (RcX.Wd.start X.rc _ _ h0) ?_
  intro S γ w' hS h
  rw [MA.puts]
  obtain ⟨bx, r, b, B, w0, f1, f2, f3, f4, f5, f6, f7, f8, f9, f10, f11⟩ := h.fin ok.rok hS
  exact hend γ w' bx r b B w0 f1 f2 f3 f4 f5 f6 f7 f8 f9 f10 f11
structure MZ where
  b0 : Nat
  b1 : Nat
  p : MD
  q : MD
  va : Value
  vb : Value
  C : Nat → World → Value → Prop
  R : Nat → World → Value → Value → Prop
  W : World
  a0 : Act
def MZ.rc (X : MZ) : RcX := ⟨2, 3, X.W, X.C, X.R⟩
structure MZOk (X : MZ) : Prop where
  a0c : X.W.cell? ⟨X.b0, 0, none⟩ = some (.int .i64 X.p.w)
  a1c : X.W.cell? ⟨X.b0, 1, none⟩ = some (.int .i64 X.p.h)
  a2c : X.W.cell? ⟨X.b0, 2, none⟩ = some (X.va)
  b0c : X.W.cell? ⟨X.b1, 0, none⟩ = some (.int .i64 X.q.w)
  b1c : X.W.cell? ⟨X.b1, 1, none⟩ = some (.int .i64 X.q.h)
  b2c : X.W.cell? ⟨X.b1, 2, none⟩ = some (X.vb)
  rok : X.rc.Ok
  cc0 : ∀ w, Nw X.W w → Calls Try.prog 31 #[.agg #[.int .i64 X.p.w, .int .i64 X.p.h, X.va]] w fun e w' => ∃ u, e = .returned u ∧ X.C 0 w' u ∧ Nw w w'
  cc1 : ∀ w, Nw X.W w → Calls Try.prog 31 #[.agg #[.int .i64 X.q.w, .int .i64 X.q.h, X.vb]] w fun e w' => ∃ u, e = .returned u ∧ X.C 1 w' u ∧ Nw w w'
  mm : ∀ w u0 u1, Nw X.W w → X.C 0 w u0 → X.C 1 w u1 → Calls Try.prog 15 #[u0, u1] w fun e w' => ∃ r b, e = .returned (.tuple #[r, b]) ∧ X.R w.heap.size w' r b ∧ Nw w w'
  form : ∀ B w r b, X.R B w r b → ∃ x y sa sn sc, r = .agg #[.int .i64 x, .int .i64 y, .slice sa sn sc]
  e2 : X.a0.eval (.tmp 2) = .pointer (some ⟨X.b0, 0, none⟩)
  e3 : X.a0.eval (.tmp 3) = .pointer (some ⟨X.b1, 0, none⟩)
  sz : X.a0.tmps.size = 119
def MZ.val0 (X : MZ) : Nat → Value
  | 95 => .agg #[.int .i64 X.p.w, .int .i64 X.p.h, X.va]
  | 97 => .agg #[.int .i64 X.q.w, .int .i64 X.q.h, X.vb]
  | _ => undef
def MZ.av : Nat → Option Nat
  | 15 => some 3
  | 16 => some 2
  | 94 => some 2
  | 96 => some 0
  | 98 => some 1
  | 99 => some 2
  | 100 => some 2
  | 101 => some 2
  | _ => none
def MZ.ext : Nat → Value → Value
  | 16 => fun u => tupAt u 1
  | 100 => fun u => tupAt u 0
  | 101 => fun u => tupAt u 1
  | _ => fun u => u
def MZ.acts : List Nat := [1, 3, 4, 8, 9]
theorem MZ.nodup : MZ.acts.Nodup := by decide
theorem MZ.s0 (X : MZ) (ok : MZOk X) {Q : Exit → Act → World → Prop} : StepH (opsOf 31 Try.f8) MZ.acts MZ.av MZ.ext X.val0 X.rc.Wd X.a0 Q 0 := by
  intro γ listed a w o hF hC hW h1 ho h2
  obtain ⟨hd, hop, hg⟩ := fields2 (x := some 95) (y := Op.load 57 (.tmp 2)) (z := none) (by kernel_rfl) ho
  have e2 : a.eval (.tmp 2) = .pointer (some ⟨X.b0, 0, none⟩) := (hF.eval0 (by kernel_rfl)).trans ok.e2
  have hc0 := ((bcell hW.nw).1 _ _ (World.block_lt_of_cell? X.W ⟨_, _, none⟩ ok.a0c)).trans ok.a0c
  have hc1 := ((bcell hW.nw).1 _ _ (World.block_lt_of_cell? X.W ⟨_, _, none⟩ ok.a1c)).trans ok.a1c
  have hc2 := ((bcell hW.nw).1 _ _ (World.block_lt_of_cell? X.W ⟨_, _, none⟩ ok.a2c)).trans ok.a2c
  refine st_pureH hF hC hW ho h2 (by decide) hd hg ?_
  show _ = Result.ok (Next.value (.agg #[.int .i64 X.p.w, .int .i64 X.p.h, X.va])) w
  generalize a.eval = ρ at e2 ⊢
  unfold execOp
  rw [hop]
  simp [e2, hc0, hc1, hc2, go_sem]
theorem MZ.s1 (X : MZ) (ok : MZOk X) {Q : Exit → Act → World → Prop} : StepH (opsOf 31 Try.f8) MZ.acts MZ.av MZ.ext X.val0 X.rc.Wd X.a0 Q 1 := by
  intro γ listed a w o hF hC hW h1 ho h2
  obtain ⟨hd, hop, hg⟩ := fields2 (x := some 96) (y := Op.call { callee := .value (.func 31), args := #[(.tmp 95)], argTypes := #[57] }) (z := none) (by kernel_rfl) ho
  have e95 : a.eval (.tmp 95) = .agg #[.int .i64 X.p.w, .int .i64 X.p.h, X.va] := slotH hF ho h2 (j := 0) (d := 95) (by kernel_rfl) (by kernel_rfl) (by rw [ok.sz]; decide)
  have ef : a.eval (.func 31) = .func (.func 31) #[] #[] := rfl
  have hu := unl (hF.lt ho) h1
  refine st_actH (k := 0) (ps := []) MZ.nodup rfl (by kernel_rfl) hF hC h1 ho h2 (Or.inr ⟨96, hd, rfl, fun _ => rfl⟩) hg ?_
  intro K hK
  have hr : (execOp a.eval o).run Try.prog w = .ok (.enter 31 #[.agg #[.int .i64 X.p.w, .int .i64 X.p.h, X.va]]) w := by
    generalize a.eval = ρ at e95 ef ⊢
    unfold execOp
    rw [hop]
    simp [e95, ef, go_sem]
  unfold Oper.wp
  rw [hr]
  refine Calls.mono (ok.cc0 w hW.nw) ?_
  rintro e w' ⟨u, rfl, hc, k1⟩
  exact hK _ _ (RcX.Wd.copy ok.rok hW k1 (by show 0 < 2; decide) hc)
theorem MZ.s2 (X : MZ) (ok : MZOk X) {Q : Exit → Act → World → Prop} : StepH (opsOf 31 Try.f8) MZ.acts MZ.av MZ.ext X.val0 X.rc.Wd X.a0 Q 2 := by
  intro γ listed a w o hF hC hW h1 ho h2
  obtain ⟨hd, hop, hg⟩ := fields2 (x := some 97) (y := Op.load 57 (.tmp 3)) (z := none) (by kernel_rfl) ho
  have e3 : a.eval (.tmp 3) = .pointer (some ⟨X.b1, 0, none⟩) := (hF.eval0 (by kernel_rfl)).trans ok.e3
  have hc0 := ((bcell hW.nw).1 _ _ (World.block_lt_of_cell? X.W ⟨_, _, none⟩ ok.b0c)).trans ok.b0c
  have hc1 := ((bcell hW.nw).1 _ _ (World.block_lt_of_cell? X.W ⟨_, _, none⟩ ok.b1c)).trans ok.b1c
  have hc2 := ((bcell hW.nw).1 _ _ (World.block_lt_of_cell? X.W ⟨_, _, none⟩ ok.b2c)).trans ok.b2c
  refine st_pureH hF hC hW ho h2 (by decide) hd hg ?_
  show _ = Result.ok (Next.value (.agg #[.int .i64 X.q.w, .int .i64 X.q.h, X.vb])) w
  generalize a.eval = ρ at e3 ⊢
  unfold execOp
  rw [hop]
  simp [e3, hc0, hc1, hc2, go_sem]
theorem MZ.s3 (X : MZ) (ok : MZOk X) {Q : Exit → Act → World → Prop} : StepH (opsOf 31 Try.f8) MZ.acts MZ.av MZ.ext X.val0 X.rc.Wd X.a0 Q 3 := by
  intro γ listed a w o hF hC hW h1 ho h2
  obtain ⟨hd, hop, hg⟩ := fields2 (x := some 98) (y := Op.call { callee := .value (.func 31), args := #[(.tmp 97)], argTypes := #[57] }) (z := none) (by kernel_rfl) ho
  have e97 : a.eval (.tmp 97) = .agg #[.int .i64 X.q.w, .int .i64 X.q.h, X.vb] := slotH hF ho h2 (j := 2) (d := 97) (by kernel_rfl) (by kernel_rfl) (by rw [ok.sz]; decide)
  have ef : a.eval (.func 31) = .func (.func 31) #[] #[] := rfl
  have hu := unl (hF.lt ho) h1
  refine st_actH (k := 1) (ps := []) MZ.nodup rfl (by kernel_rfl) hF hC h1 ho h2 (Or.inr ⟨98, hd, rfl, fun _ => rfl⟩) hg ?_
  intro K hK
  have hr : (execOp a.eval o).run Try.prog w = .ok (.enter 31 #[.agg #[.int .i64 X.q.w, .int .i64 X.q.h, X.vb]]) w := by
    generalize a.eval = ρ at e97 ef ⊢
    unfold execOp
    rw [hop]
    simp [e97, ef, go_sem]
  unfold Oper.wp
  rw [hr]
  refine Calls.mono (ok.cc1 w hW.nw) ?_
  rintro e w' ⟨u, rfl, hc, k1⟩
  exact hK _ _ (RcX.Wd.copy ok.rok hW k1 (by show 1 < 2; decide) hc)
theorem MZ.s4 (X : MZ) (ok : MZOk X) {Q : Exit → Act → World → Prop} : StepH (opsOf 31 Try.f8) MZ.acts MZ.av MZ.ext X.val0 X.rc.Wd X.a0 Q 4 := by
  intro γ listed a w o hF hC hW h1 ho h2
  obtain ⟨hd, hop, hg⟩ := fields2 (x := some 99) (y := Op.call { callee := .value (.func 15), args := #[(.tmp 96), (.tmp 98)], argTypes := #[28, 28] }) (z := none) (by kernel_rfl) ho
  have e96 : a.eval (.tmp 96) = γ 0 := slotH hF ho h2 (j := 1) (d := 96) (by kernel_rfl) (by kernel_rfl) (by rw [ok.sz]; decide)
  have e98 : a.eval (.tmp 98) = γ 1 := slotH hF ho h2 (j := 3) (d := 98) (by kernel_rfl) (by kernel_rfl) (by rw [ok.sz]; decide)
  have ef : a.eval (.func 15) = .func (.func 15) #[] #[] := rfl
  have hu := unl (hF.lt ho) h1
  have hy0 : upOf listed MZ.acts 0 = true := up_yes hC ho h2 (j := 1) rfl [1] (by kernel_rfl) (by decide)
  have hy1 : upOf listed MZ.acts 1 = true := up_yes hC ho h2 (j := 3) rfl [3] (by kernel_rfl) (by decide)
  have hno : upOf listed MZ.acts 4 = false := up_no hC hu rfl [6, 5, 4] (by kernel_rfl) (by decide)
  have hself : upOf listed MZ.acts 2 = false := up_self rfl hu
  refine st_actH (k := 2) (ps := [[5, 4], [6, 5, 4], [7, 5, 4], [10, 7, 5, 4]]) MZ.nodup rfl (by kernel_rfl) hF hC h1 ho h2 (Or.inr ⟨99, hd, rfl, fun _ => rfl⟩) hg ?_
  intro K hK
  have hr : (execOp a.eval o).run Try.prog w = .ok (.enter 15 #[γ 0, γ 1]) w := by
    generalize a.eval = ρ at e96 e98 ef ⊢
    unfold execOp
    rw [hop]
    simp [e96, e98, ef, go_sem]
  unfold Oper.wp
  rw [hr]
  refine Calls.mono (ok.mm w (γ 0) (γ 1) hW.nw (hW.cp 0 (by show 0 < 2; decide) hy0 hself) (hW.cp 1 (by show 1 < 2; decide) hy1 hself)) ?_
  rintro e w' ⟨r, b, rfl, hR, k1⟩
  exact hK _ _ (RcX.Wd.main ok.rok hW k1 hno hR)
theorem MZ.s5 (X : MZ) (ok : MZOk X) {Q : Exit → Act → World → Prop} : StepH (opsOf 31 Try.f8) MZ.acts MZ.av MZ.ext X.val0 X.rc.Wd X.a0 Q 5 := by
  intro γ listed a w o hF hC hW h1 ho h2
  obtain ⟨hd, hop, hg⟩ := fields2 (x := some 94) (y := Op.move (.tmp 99)) (z := none) (by kernel_rfl) ho
  have e99 : a.eval (.tmp 99) = γ 2 := slotH hF ho h2 (j := 4) (d := 99) (by kernel_rfl) (by kernel_rfl) (by rw [ok.sz]; decide)
  refine st_pureH hF hC hW ho h2 (by decide) hd hg ?_
  show _ = Result.ok (Next.value (γ 2)) w
  generalize a.eval = ρ at e99 ⊢
  unfold execOp
  rw [hop]
  simp [e99, go_sem]
theorem MZ.s6 (X : MZ) (ok : MZOk X) {Q : Exit → Act → World → Prop} : StepH (opsOf 31 Try.f8) MZ.acts MZ.av MZ.ext X.val0 X.rc.Wd X.a0 Q 6 := by
  intro γ listed a w o hF hC hW h1 ho h2
  obtain ⟨hd, hop, hg⟩ := fields2 (x := some 100) (y := Op.extract (.tmp 94) 0) (z := none) (by kernel_rfl) ho
  have e94 : a.eval (.tmp 94) = γ 2 := slotH hF ho h2 (j := 5) (d := 94) (by kernel_rfl) (by kernel_rfl) (by rw [ok.sz]; decide)
  have hy : upOf listed MZ.acts 2 = true := up_yes hC ho h2 (j := 4) rfl [5, 4] (by kernel_rfl) (by decide)
  obtain ⟨r, b, _, _, g1, _⟩ := hW.ans hy
  replace g1 : γ 2 = .tuple #[r, b] := g1
  rw [g1] at e94
  refine st_pureH hF hC hW ho h2 (by decide) hd hg ?_
  show _ = Result.ok (Next.value (tupAt (γ 2) 0)) w
  rw [g1]
  generalize a.eval = ρ at e94 ⊢
  unfold execOp
  rw [hop]
  simp [e94, tupAt, go_sem]
theorem MZ.s7 (X : MZ) (ok : MZOk X) {Q : Exit → Act → World → Prop} : StepH (opsOf 31 Try.f8) MZ.acts MZ.av MZ.ext X.val0 X.rc.Wd X.a0 Q 7 := by
  intro γ listed a w o hF hC hW h1 ho h2
  obtain ⟨hd, hop, hg⟩ := fields2 (x := some 101) (y := Op.extract (.tmp 94) 1) (z := none) (by kernel_rfl) ho
  have e94 : a.eval (.tmp 94) = γ 2 := slotH hF ho h2 (j := 5) (d := 94) (by kernel_rfl) (by kernel_rfl) (by rw [ok.sz]; decide)
  have hy : upOf listed MZ.acts 2 = true := up_yes hC ho h2 (j := 4) rfl [5, 4] (by kernel_rfl) (by decide)
  obtain ⟨r, b, _, _, g1, _⟩ := hW.ans hy
  replace g1 : γ 2 = .tuple #[r, b] := g1
  rw [g1] at e94
  refine st_pureH hF hC hW ho h2 (by decide) hd hg ?_
  show _ = Result.ok (Next.value (tupAt (γ 2) 1)) w
  rw [g1]
  generalize a.eval = ρ at e94 ⊢
  unfold execOp
  rw [hop]
  simp [e94, tupAt, go_sem]
theorem MZ.s8 (X : MZ) (ok : MZOk X) {Q : Exit → Act → World → Prop} : StepH (opsOf 31 Try.f8) MZ.acts MZ.av MZ.ext X.val0 X.rc.Wd X.a0 Q 8 := by
  intro γ listed a w o hF hC hW h1 ho h2
  obtain ⟨hd, hop, hg⟩ := fields2 (x := some 15) (y := Op.alloc 28) (z := none) (by kernel_rfl) ho
  have hu := unl (hF.lt ho) h1
  have hno : upOf listed MZ.acts 4 = false := up_no hC hu rfl [8] (by kernel_rfl) (by decide)
  refine st_actH (k := 3) (ps := []) MZ.nodup rfl (by kernel_rfl) hF hC h1 ho h2 (Or.inr ⟨15, hd, rfl, fun _ => rfl⟩) hg ?_
  intro K hK
  have hr : (execOp a.eval o).run Try.prog w = .ok (.value (.pointer (some ⟨w.heap.size, 0, none⟩))) (w.alloc (.cells #[.int .i64 0, .int .i64 0, .slice none 0 0] 28)) := by
    unfold execOp
    rw [hop]
    simp [go_sem]
  unfold Oper.wp
  rw [hr]
  exact hK _ _ (RcX.Wd.alloc ok.rok hW hno #[.int .i64 0, .int .i64 0, .slice none 0 0] 28 rfl)
theorem MZ.s9 (X : MZ) (ok : MZOk X) {Q : Exit → Act → World → Prop} : StepH (opsOf 31 Try.f8) MZ.acts MZ.av MZ.ext X.val0 X.rc.Wd X.a0 Q 9 := by
  intro γ listed a w o hF hC hW h1 ho h2
  obtain ⟨hd, hop, hg⟩ := fields2 (x := none) (y := Op.store 28 (.tmp 15) (.tmp 100)) (z := none) (by kernel_rfl) ho
  have e15 : a.eval (.tmp 15) = γ 3 := slotH hF ho h2 (j := 8) (d := 15) (by kernel_rfl) (by kernel_rfl) (by rw [ok.sz]; decide)
  have e100 : a.eval (.tmp 100) = tupAt (γ 2) 0 := slotH hF ho h2 (j := 6) (d := 100) (by kernel_rfl) (by kernel_rfl) (by rw [ok.sz]; decide)
  have hu := unl (hF.lt ho) h1
  have hs1 : upOf listed MZ.acts 2 = true := up_yes hC ho h2 (j := 4) rfl [6, 5, 4] (by kernel_rfl) (by decide)
  have hs2 : upOf listed MZ.acts 3 = true := up_yes hC ho h2 (j := 8) rfl [8] (by kernel_rfl) (by decide)
  refine st_actH (k := 4) (ps := []) MZ.nodup rfl (by kernel_rfl) hF hC h1 ho h2 (Or.inl hd) hg ?_
  intro K hK
  obtain ⟨r, b, B, w0, g1, _, g3, _⟩ := hW.ans hs1
  replace g1 : γ 2 = .tuple #[r, b] := g1
  obtain ⟨x, y, sa, sn, sc, rfl⟩ := ok.form _ _ _ _ g3
  obtain ⟨bx, p1, _, _, p4, p5⟩ := hW.box hs2
  replace p1 : γ 3 = .pointer (some ⟨bx, 0, none⟩) := p1
  rw [p1] at e15
  rw [g1] at e100
  replace e100 : a.eval (.tmp 100) = .agg #[.int .i64 x, .int .i64 y, .slice sa sn sc] := e100
  obtain ⟨z0, y0⟩ := p4 0 (by show 0 < 3; decide)
  obtain ⟨z1, y1⟩ := p4 1 (by show 1 < 3; decide)
  obtain ⟨z2, y2⟩ := p4 2 (by show 2 < 3; decide)
  have hr : (execOp a.eval o).run Try.prog w = .ok .skip (((w.setCell ⟨bx, 0, none⟩ (.int .i64 x)).setCell ⟨bx, 1, none⟩ (.int .i64 y)).setCell ⟨bx, 2, none⟩ (.slice sa sn sc)) := by
    generalize a.eval = ρ at e15 e100 ⊢
    unfold execOp
    rw [hop]
    simp [e15, e100, y0, y1, y2, p5, go_sem]
  unfold Oper.wp
  rw [hr]
  have hst := fun u => RcX.Wd.store ok.rok hW hs1 hs2 p1 g1 u
  have hcs : (Value.agg #[.int .i64 x, .int .i64 y, .slice sa sn sc]).cells.toList = [.int .i64 x, .int .i64 y, .slice sa sn sc] := rfl
  rw [hcs] at hst
  exact hK _ _ (hst _)
theorem MZ.s10 (X : MZ) (ok : MZOk X) {Q : Exit → Act → World → Prop} : StepH (opsOf 31 Try.f8) MZ.acts MZ.av MZ.ext X.val0 X.rc.Wd X.a0 Q 10 := by
  intro γ listed a w o hF hC hW h1 ho h2
  obtain ⟨hd, hop, hg⟩ := fields2 (x := some 16) (y := Op.assign (.tmp 101)) (z := none) (by kernel_rfl) ho
  have e101 : a.eval (.tmp 101) = tupAt (γ 2) 1 := slotH hF ho h2 (j := 7) (d := 101) (by kernel_rfl) (by kernel_rfl) (by rw [ok.sz]; decide)
  refine st_pureH hF hC hW ho h2 (by decide) hd hg ?_
  show _ = Result.ok (Next.value (tupAt (γ 2) 1)) w
  generalize a.eval = ρ at e101 ⊢
  unfold execOp
  rw [hop]
  simp [e101, go_sem]
theorem MZ.size : (opsOf 31 Try.f8).size = 11 := by kernel_rfl
theorem MZ.steps (X : MZ) (ok : MZOk X) {Q : Exit → Act → World → Prop} (i : Nat) (hi : i < (opsOf 31 Try.f8).size) : StepH (opsOf 31 Try.f8) MZ.acts MZ.av MZ.ext X.val0 X.rc.Wd X.a0 Q i := by
  rw [MZ.size] at hi
  have hc : i = 0 ∨ i = 1 ∨ i = 2 ∨ i = 3 ∨ i = 4 ∨ i = 5 ∨ i = 6 ∨ i = 7 ∨ i = 8 ∨ i = 9 ∨ i = 10 := by omega
  rcases hc with rfl | rfl | rfl | rfl | rfl | rfl | rfl | rfl | rfl | rfl | rfl
  · exact MZ.s0 X ok
  · exact MZ.s1 X ok
  · exact MZ.s2 X ok
  · exact MZ.s3 X ok
  · exact MZ.s4 X ok
  · exact MZ.s5 X ok
  · exact MZ.s6 X ok
  · exact MZ.s7 X ok
  · exact MZ.s8 X ok
  · exact MZ.s9 X ok
  · exact MZ.s10 X ok
theorem MZ.puts (X : MZ) (γ : Nat → Value) (a0 : Act) : putsL (valH MZ.av MZ.ext X.val0 γ) (opsOf 31 Try.f8).toList a0 = ((((((((((a0.put (some 95) (.agg #[.int .i64 X.p.w, .int .i64 X.p.h, X.va])).put (some 96) (γ 0)).put (some 97) (.agg #[.int .i64 X.q.w, .int .i64 X.q.h, X.vb])).put (some 98) (γ 1)).put (some 99) (γ 2)).put (some 94) (γ 2)).put (some 100) (tupAt (γ 2) 0)).put (some 101) (tupAt (γ 2) 1)).put (some 15) (γ 3)).put (some 16) (tupAt (γ 2) 1)) := by kernel_rfl
/-- The region, whatever order comes up. -/
theorem MZ.run (X : MZ) (ok : MZOk X) {Q : Exit → Act → World → Prop} (w : World) (h0 : Nw X.W w.drew)
    (hend : ∀ (γ : Nat → Value) w' bx r b B w0, γ 3 = .pointer (some ⟨bx, 0, none⟩) → γ 2 = .tuple #[r, b] → Nw X.W w' → X.W.heap.size ≤ bx → bx < w'.heap.size → (∀ o, w'.frozen? ⟨bx, o, none⟩ = false) → (∀ j, j < 3 → w'.cell? ⟨bx, j, none⟩ = r.cells[j]?) → X.W.heap.size ≤ B → X.R B w0 r b → Nw w0 w' → (bx < B ∨ w0.heap.size ≤ bx) → Q .normal ((((((((((X.a0.put (some 95) (.agg #[.int .i64 X.p.w, .int .i64 X.p.h, X.va])).put (some 96) (γ 0)).put (some 97) (.agg #[.int .i64 X.q.w, .int .i64 X.q.h, X.vb])).put (some 98) (γ 1)).put (some 99) (γ 2)).put (some 94) (γ 2)).put (some 100) (tupAt (γ 2) 0)).put (some 101) (tupAt (γ 2) 1)).put (some 15) (γ 3)).put (some 16) (tupAt (γ 2) 1)) w') : (Code.region 31 (opsOf 31 Try.f8) true).wp Try.prog Q X.a0 w := by
  refine reg_actH (acts := MZ.acts) (av := MZ.av) (ext := MZ.ext) (val0 := X.val0) (Wd := X.rc.Wd) (by kernel_rfl) (by kernel_rfl) (by rw [MZ.size]; decide) (fun i hi => MZ.steps X ok i hi) (fun _ => undef) (RcX.Wd.start X.rc _ _ h0) ?_
  intro S γ w' hS h
  rw [MZ.puts]
  obtain ⟨bx, r, b, B, w0, f1, f2, f3, f4, f5, f6, f7, f8, f9, f10, f11⟩ := h.fin ok.rok hS
  exact hend γ w' bx r b B w0 f1 f2 f3 f4 f5 f6 f7 f8 f9 f10 f11
end Go.Proofs.Ytllljknpicmmjaa
