/-
  The statements of the law on LaySheet that make an answer and draw their order; each theorem names its conditions.
-/
import Derived.Test.YthlohbiocfeapaaShT
import Derived.Test.YthlohbiocfeapaaRc
namespace Go.Proofs.Ythlohbiocfeapaa
open Go.ChangeShapes Go.WideShapes Go.ChangeAt Go.RowKit
set_option linter.unusedVariables false

structure LSA where
  b0 : Nat
  b1 : Nat
  p : MD
  q : MD
  va : Value
  vb : Value
  pt : Int
  C : Nat → World → Value → Prop
  R : Nat → World → Value → Value → Prop
  W : World
  a0 : Act
def LSA.rc (X : LSA) : RcX := ⟨2, 3, X.W, X.C, X.R⟩
structure LSAOk (X : LSA) : Prop where
  a0c : X.W.cell? ⟨X.b0, 0, none⟩ = some (.int .i64 X.p.w)
  a1c : X.W.cell? ⟨X.b0, 1, none⟩ = some (.int .i64 X.p.h)
  a2c : X.W.cell? ⟨X.b0, 2, none⟩ = some (X.va)
  b0c : X.W.cell? ⟨X.b1, 0, none⟩ = some (.int .i64 X.q.w)
  b1c : X.W.cell? ⟨X.b1, 1, none⟩ = some (.int .i64 X.q.h)
  b2c : X.W.cell? ⟨X.b1, 2, none⟩ = some (X.vb)
  rok : X.rc.Ok
  cc0 : ∀ w, Nw X.W w → Calls Try.prog 42 #[.agg #[.int .i64 X.p.w, .int .i64 X.p.h, X.va]] w fun e w' => ∃ u, e = .returned u ∧ X.C 0 w' u ∧ Nw w w'
  cc1 : ∀ w, Nw X.W w → Calls Try.prog 42 #[.agg #[.int .i64 X.q.w, .int .i64 X.q.h, X.vb]] w fun e w' => ∃ u, e = .returned u ∧ X.C 1 w' u ∧ Nw w w'
  mm : ∀ w u0 u1, Nw X.W w → X.C 0 w u0 → X.C 1 w u1 → Calls Try.prog 50 #[u0, u1, .int .i64 X.pt] w fun e w' => ∃ r b, e = .returned (.tuple #[r, b]) ∧ X.R w.heap.size w' r b ∧ Nw w w'
  form : ∀ B w r b, X.R B w r b → ∃ x y sa sn sc, r = .agg #[.int .i64 x, .int .i64 y, .slice sa sn sc]
  e2 : X.a0.eval (.tmp 2) = .int .i64 X.pt
  e3 : X.a0.eval (.tmp 3) = .pointer (some ⟨X.b0, 0, none⟩)
  e4 : X.a0.eval (.tmp 4) = .pointer (some ⟨X.b1, 0, none⟩)
  sz : X.a0.tmps.size = 124
def LSA.val0 (X : LSA) : Nat → Value
  | 30 => .agg #[.int .i64 X.p.w, .int .i64 X.p.h, X.va]
  | 32 => .agg #[.int .i64 X.q.w, .int .i64 X.q.h, X.vb]
  | 34 => .int .i64 X.pt
  | _ => undef
def LSA.av : Nat → Option Nat
  | 8 => some 3
  | 9 => some 2
  | 29 => some 2
  | 31 => some 0
  | 33 => some 1
  | 35 => some 2
  | 36 => some 2
  | 37 => some 2
  | _ => none
def LSA.ext : Nat → Value → Value
  | 9 => fun u => tupAt u 1
  | 36 => fun u => tupAt u 0
  | 37 => fun u => tupAt u 1
  | _ => fun u => u
def LSA.acts : List Nat := [1, 3, 5, 9, 10]
theorem LSA.nodup : LSA.acts.Nodup := by decide
theorem LSA.s0 (X : LSA) (ok : LSAOk X) {Q : Exit → Act → World → Prop} : StepH (opsOf 8 Try.f13) LSA.acts LSA.av LSA.ext X.val0 X.rc.Wd X.a0 Q 0 := by
  intro γ listed a w o hF hC hW h1 ho h2
  obtain ⟨hd, hop, hg⟩ := fields2 (x := some 30) (y := Op.load 65 (.tmp 3)) (z := none) (by kernel_rfl) ho
  have e3 : a.eval (.tmp 3) = .pointer (some ⟨X.b0, 0, none⟩) := (hF.eval0 (by kernel_rfl)).trans ok.e3
  have hc0 := ((bcell hW.nw).1 _ _ (World.block_lt_of_cell? X.W ⟨_, _, none⟩ ok.a0c)).trans ok.a0c
  have hc1 := ((bcell hW.nw).1 _ _ (World.block_lt_of_cell? X.W ⟨_, _, none⟩ ok.a1c)).trans ok.a1c
  have hc2 := ((bcell hW.nw).1 _ _ (World.block_lt_of_cell? X.W ⟨_, _, none⟩ ok.a2c)).trans ok.a2c
  refine st_pureH hF hC hW ho h2 (by decide) hd hg ?_
  show _ = Result.ok (Next.value (.agg #[.int .i64 X.p.w, .int .i64 X.p.h, X.va])) w
  generalize a.eval = ρ at e3 ⊢
  unfold execOp
  rw [hop]
  simp [e3, hc0, hc1, hc2, go_sem]
theorem LSA.s1 (X : LSA) (ok : LSAOk X) {Q : Exit → Act → World → Prop} : StepH (opsOf 8 Try.f13) LSA.acts LSA.av LSA.ext X.val0 X.rc.Wd X.a0 Q 1 := by
  intro γ listed a w o hF hC hW h1 ho h2
  obtain ⟨hd, hop, hg⟩ := fields2 (x := some 31) (y := Op.call { callee := .value (.func 42), args := #[(.tmp 30)], argTypes := #[65] }) (z := none) (by kernel_rfl) ho
  have e30 : a.eval (.tmp 30) = .agg #[.int .i64 X.p.w, .int .i64 X.p.h, X.va] := slotH hF ho h2 (j := 0) (d := 30) (by kernel_rfl) (by kernel_rfl) (by rw [ok.sz]; decide)
  have ef : a.eval (.func 42) = .func (.func 42) #[] #[] := rfl
  have hu := unl (hF.lt ho) h1
  refine st_actH (k := 0) (ps := []) LSA.nodup rfl (by kernel_rfl) hF hC h1 ho h2 (Or.inr ⟨31, hd, rfl, fun _ => rfl⟩) hg ?_
  intro K hK
  have hr : (execOp a.eval o).run Try.prog w = .ok (.enter 42 #[.agg #[.int .i64 X.p.w, .int .i64 X.p.h, X.va]]) w := by
    generalize a.eval = ρ at e30 ef ⊢
    unfold execOp
    rw [hop]
    simp [e30, ef, go_sem]
  unfold Oper.wp
  rw [hr]
  refine Calls.mono (ok.cc0 w hW.nw) ?_
  rintro e w' ⟨u, rfl, hc, k1⟩
  exact hK _ _ (RcX.Wd.copy ok.rok hW k1 (by show 0 < 2; decide) hc)
theorem LSA.s2 (X : LSA) (ok : LSAOk X) {Q : Exit → Act → World → Prop} : StepH (opsOf 8 Try.f13) LSA.acts LSA.av LSA.ext X.val0 X.rc.Wd X.a0 Q 2 := by
  intro γ listed a w o hF hC hW h1 ho h2
  obtain ⟨hd, hop, hg⟩ := fields2 (x := some 32) (y := Op.load 65 (.tmp 4)) (z := none) (by kernel_rfl) ho
  have e4 : a.eval (.tmp 4) = .pointer (some ⟨X.b1, 0, none⟩) := (hF.eval0 (by kernel_rfl)).trans ok.e4
  have hc0 := ((bcell hW.nw).1 _ _ (World.block_lt_of_cell? X.W ⟨_, _, none⟩ ok.b0c)).trans ok.b0c
  have hc1 := ((bcell hW.nw).1 _ _ (World.block_lt_of_cell? X.W ⟨_, _, none⟩ ok.b1c)).trans ok.b1c
  have hc2 := ((bcell hW.nw).1 _ _ (World.block_lt_of_cell? X.W ⟨_, _, none⟩ ok.b2c)).trans ok.b2c
  refine st_pureH hF hC hW ho h2 (by decide) hd hg ?_
  show _ = Result.ok (Next.value (.agg #[.int .i64 X.q.w, .int .i64 X.q.h, X.vb])) w
  generalize a.eval = ρ at e4 ⊢
  unfold execOp
  rw [hop]
  simp [e4, hc0, hc1, hc2, go_sem]
theorem LSA.s3 (X : LSA) (ok : LSAOk X) {Q : Exit → Act → World → Prop} : StepH (opsOf 8 Try.f13) LSA.acts LSA.av LSA.ext X.val0 X.rc.Wd X.a0 Q 3 := by
  intro γ listed a w o hF hC hW h1 ho h2
  obtain ⟨hd, hop, hg⟩ := fields2 (x := some 33) (y := Op.call { callee := .value (.func 42), args := #[(.tmp 32)], argTypes := #[65] }) (z := none) (by kernel_rfl) ho
  have e32 : a.eval (.tmp 32) = .agg #[.int .i64 X.q.w, .int .i64 X.q.h, X.vb] := slotH hF ho h2 (j := 2) (d := 32) (by kernel_rfl) (by kernel_rfl) (by rw [ok.sz]; decide)
  have ef : a.eval (.func 42) = .func (.func 42) #[] #[] := rfl
  have hu := unl (hF.lt ho) h1
  refine st_actH (k := 1) (ps := []) LSA.nodup rfl (by kernel_rfl) hF hC h1 ho h2 (Or.inr ⟨33, hd, rfl, fun _ => rfl⟩) hg ?_
  intro K hK
  have hr : (execOp a.eval o).run Try.prog w = .ok (.enter 42 #[.agg #[.int .i64 X.q.w, .int .i64 X.q.h, X.vb]]) w := by
    generalize a.eval = ρ at e32 ef ⊢
    unfold execOp
    rw [hop]
    simp [e32, ef, go_sem]
  unfold Oper.wp
  rw [hr]
  refine Calls.mono (ok.cc1 w hW.nw) ?_
  rintro e w' ⟨u, rfl, hc, k1⟩
  exact hK _ _ (RcX.Wd.copy ok.rok hW k1 (by show 1 < 2; decide) hc)
theorem LSA.s4 (X : LSA) (ok : LSAOk X) {Q : Exit → Act → World → Prop} : StepH (opsOf 8 Try.f13) LSA.acts LSA.av LSA.ext X.val0 X.rc.Wd X.a0 Q 4 := by
  intro γ listed a w o hF hC hW h1 ho h2
  obtain ⟨hd, hop, hg⟩ := fields2 (x := some 34) (y := Op.move (.tmp 2)) (z := none) (by kernel_rfl) ho
  have e2 : a.eval (.tmp 2) = .int .i64 X.pt := (hF.eval0 (by kernel_rfl)).trans ok.e2
  refine st_pureH hF hC hW ho h2 (by decide) hd hg ?_
  show _ = Result.ok (Next.value (.int .i64 X.pt)) w
  generalize a.eval = ρ at e2 ⊢
  unfold execOp
  rw [hop]
  simp [e2, go_sem]
theorem LSA.s5 (X : LSA) (ok : LSAOk X) {Q : Exit → Act → World → Prop} : StepH (opsOf 8 Try.f13) LSA.acts LSA.av LSA.ext X.val0 X.rc.Wd X.a0 Q 5 := by
  intro γ listed a w o hF hC hW h1 ho h2
  obtain ⟨hd, hop, hg⟩ := fields2 (x := some 35) (y := Op.call { callee := .value (.func 50), args := #[(.tmp 31), (.tmp 33), (.tmp 34)], argTypes := #[57, 57, 3] }) (z := none) (by kernel_rfl) ho
  have e31 : a.eval (.tmp 31) = γ 0 := slotH hF ho h2 (j := 1) (d := 31) (by kernel_rfl) (by kernel_rfl) (by rw [ok.sz]; decide)
  have e33 : a.eval (.tmp 33) = γ 1 := slotH hF ho h2 (j := 3) (d := 33) (by kernel_rfl) (by kernel_rfl) (by rw [ok.sz]; decide)
  have e34 : a.eval (.tmp 34) = .int .i64 X.pt := slotH hF ho h2 (j := 4) (d := 34) (by kernel_rfl) (by kernel_rfl) (by rw [ok.sz]; decide)
  have ef : a.eval (.func 50) = .func (.func 50) #[] #[] := rfl
  have hu := unl (hF.lt ho) h1
  have hy0 : upOf listed LSA.acts 0 = true := up_yes hC ho h2 (j := 1) rfl [1] (by kernel_rfl) (by decide)
  have hy1 : upOf listed LSA.acts 1 = true := up_yes hC ho h2 (j := 3) rfl [3] (by kernel_rfl) (by decide)
  have hno : upOf listed LSA.acts 4 = false := up_no hC hu rfl [7, 6, 5] (by kernel_rfl) (by decide)
  have hself : upOf listed LSA.acts 2 = false := up_self rfl hu
  refine st_actH (k := 2) (ps := [[6, 5], [7, 6, 5], [8, 6, 5], [11, 8, 6, 5]]) LSA.nodup rfl (by kernel_rfl) hF hC h1 ho h2 (Or.inr ⟨35, hd, rfl, fun _ => rfl⟩) hg ?_
  intro K hK
  have hr : (execOp a.eval o).run Try.prog w = .ok (.enter 50 #[γ 0, γ 1, .int .i64 X.pt]) w := by
    generalize a.eval = ρ at e31 e33 e34 ef ⊢
    unfold execOp
    rw [hop]
    simp [e31, e33, e34, ef, go_sem]
  unfold Oper.wp
  rw [hr]
  refine Calls.mono (ok.mm w (γ 0) (γ 1) hW.nw (hW.cp 0 (by show 0 < 2; decide) hy0 hself) (hW.cp 1 (by show 1 < 2; decide) hy1 hself)) ?_
  rintro e w' ⟨r, b, rfl, hR, k1⟩
  exact hK _ _ (RcX.Wd.main ok.rok hW k1 hno hR)
theorem LSA.s6 (X : LSA) (ok : LSAOk X) {Q : Exit → Act → World → Prop} : StepH (opsOf 8 Try.f13) LSA.acts LSA.av LSA.ext X.val0 X.rc.Wd X.a0 Q 6 := by
  intro γ listed a w o hF hC hW h1 ho h2
  obtain ⟨hd, hop, hg⟩ := fields2 (x := some 29) (y := Op.move (.tmp 35)) (z := none) (by kernel_rfl) ho
  have e35 : a.eval (.tmp 35) = γ 2 := slotH hF ho h2 (j := 5) (d := 35) (by kernel_rfl) (by kernel_rfl) (by rw [ok.sz]; decide)
  refine st_pureH hF hC hW ho h2 (by decide) hd hg ?_
  show _ = Result.ok (Next.value (γ 2)) w
  generalize a.eval = ρ at e35 ⊢
  unfold execOp
  rw [hop]
  simp [e35, go_sem]
theorem LSA.s7 (X : LSA) (ok : LSAOk X) {Q : Exit → Act → World → Prop} : StepH (opsOf 8 Try.f13) LSA.acts LSA.av LSA.ext X.val0 X.rc.Wd X.a0 Q 7 := by
  intro γ listed a w o hF hC hW h1 ho h2
  obtain ⟨hd, hop, hg⟩ := fields2 (x := some 36) (y := Op.extract (.tmp 29) 0) (z := none) (by kernel_rfl) ho
  have e29 : a.eval (.tmp 29) = γ 2 := slotH hF ho h2 (j := 6) (d := 29) (by kernel_rfl) (by kernel_rfl) (by rw [ok.sz]; decide)
  have hy : upOf listed LSA.acts 2 = true := up_yes hC ho h2 (j := 5) rfl [6, 5] (by kernel_rfl) (by decide)
  obtain ⟨r, b, _, _, g1, _⟩ := hW.ans hy
  replace g1 : γ 2 = .tuple #[r, b] := g1
  rw [g1] at e29
  refine st_pureH hF hC hW ho h2 (by decide) hd hg ?_
  show _ = Result.ok (Next.value (tupAt (γ 2) 0)) w
  rw [g1]
  generalize a.eval = ρ at e29 ⊢
  unfold execOp
  rw [hop]
  simp [e29, tupAt, go_sem]
theorem LSA.s8 (X : LSA) (ok : LSAOk X) {Q : Exit → Act → World → Prop} : StepH (opsOf 8 Try.f13) LSA.acts LSA.av LSA.ext X.val0 X.rc.Wd X.a0 Q 8 := by
  intro γ listed a w o hF hC hW h1 ho h2
  obtain ⟨hd, hop, hg⟩ := fields2 (x := some 37) (y := Op.extract (.tmp 29) 1) (z := none) (by kernel_rfl) ho
  have e29 : a.eval (.tmp 29) = γ 2 := slotH hF ho h2 (j := 6) (d := 29) (by kernel_rfl) (by kernel_rfl) (by rw [ok.sz]; decide)
  have hy : upOf listed LSA.acts 2 = true := up_yes hC ho h2 (j := 5) rfl [6, 5] (by kernel_rfl) (by decide)
  obtain ⟨r, b, _, _, g1, _⟩ := hW.ans hy
  replace g1 : γ 2 = .tuple #[r, b] := g1
  rw [g1] at e29
  refine st_pureH hF hC hW ho h2 (by decide) hd hg ?_
  show _ = Result.ok (Next.value (tupAt (γ 2) 1)) w
  rw [g1]
  generalize a.eval = ρ at e29 ⊢
  unfold execOp
  rw [hop]
  simp [e29, tupAt, go_sem]
theorem LSA.s9 (X : LSA) (ok : LSAOk X) {Q : Exit → Act → World → Prop} : StepH (opsOf 8 Try.f13) LSA.acts LSA.av LSA.ext X.val0 X.rc.Wd X.a0 Q 9 := by
  intro γ listed a w o hF hC hW h1 ho h2
  obtain ⟨hd, hop, hg⟩ := fields2 (x := some 8) (y := Op.alloc 57) (z := none) (by kernel_rfl) ho
  have hu := unl (hF.lt ho) h1
  have hno : upOf listed LSA.acts 4 = false := up_no hC hu rfl [9] (by kernel_rfl) (by decide)
  refine st_actH (k := 3) (ps := []) LSA.nodup rfl (by kernel_rfl) hF hC h1 ho h2 (Or.inr ⟨8, hd, rfl, fun _ => rfl⟩) hg ?_
  intro K hK
  have hr : (execOp a.eval o).run Try.prog w = .ok (.value (.pointer (some ⟨w.heap.size, 0, none⟩))) (w.alloc (.cells #[.int .i64 0, .int .i64 0, .slice none 0 0] 57)) := by
    unfold execOp
    rw [hop]
    simp [go_sem]
  unfold Oper.wp
  rw [hr]
  exact hK _ _ (RcX.Wd.alloc ok.rok hW hno #[.int .i64 0, .int .i64 0, .slice none 0 0] 57 rfl)
theorem LSA.s10 (X : LSA) (ok : LSAOk X) {Q : Exit → Act → World → Prop} : StepH (opsOf 8 Try.f13) LSA.acts LSA.av LSA.ext X.val0 X.rc.Wd X.a0 Q 10 := by
  intro γ listed a w o hF hC hW h1 ho h2
  obtain ⟨hd, hop, hg⟩ := fields2 (x := none) (y := Op.store 57 (.tmp 8) (.tmp 36)) (z := none) (by kernel_rfl) ho
  have e8 : a.eval (.tmp 8) = γ 3 := slotH hF ho h2 (j := 9) (d := 8) (by kernel_rfl) (by kernel_rfl) (by rw [ok.sz]; decide)
  have e36 : a.eval (.tmp 36) = tupAt (γ 2) 0 := slotH hF ho h2 (j := 7) (d := 36) (by kernel_rfl) (by kernel_rfl) (by rw [ok.sz]; decide)
  have hu := unl (hF.lt ho) h1
  have hs1 : upOf listed LSA.acts 2 = true := up_yes hC ho h2 (j := 5) rfl [7, 6, 5] (by kernel_rfl) (by decide)
  have hs2 : upOf listed LSA.acts 3 = true := up_yes hC ho h2 (j := 9) rfl [9] (by kernel_rfl) (by decide)
  refine st_actH (k := 4) (ps := []) LSA.nodup rfl (by kernel_rfl) hF hC h1 ho h2 (Or.inl hd) hg ?_
  intro K hK
  obtain ⟨r, b, B, w0, g1, _, g3, _⟩ := hW.ans hs1
  replace g1 : γ 2 = .tuple #[r, b] := g1
  obtain ⟨x, y, sa, sn, sc, rfl⟩ := ok.form _ _ _ _ g3
  obtain ⟨bx, p1, _, _, p4, p5⟩ := hW.box hs2
  replace p1 : γ 3 = .pointer (some ⟨bx, 0, none⟩) := p1
  rw [p1] at e8
  rw [g1] at e36
  replace e36 : a.eval (.tmp 36) = .agg #[.int .i64 x, .int .i64 y, .slice sa sn sc] := e36
  obtain ⟨z0, y0⟩ := p4 0 (by show 0 < 3; decide)
  obtain ⟨z1, y1⟩ := p4 1 (by show 1 < 3; decide)
  obtain ⟨z2, y2⟩ := p4 2 (by show 2 < 3; decide)
  have hr : (execOp a.eval o).run Try.prog w = .ok .skip (((w.setCell ⟨bx, 0, none⟩ (.int .i64 x)).setCell ⟨bx, 1, none⟩ (.int .i64 y)).setCell ⟨bx, 2, none⟩ (.slice sa sn sc)) := by
    generalize a.eval = ρ at e8 e36 ⊢
    unfold execOp
    rw [hop]
    simp [e8, e36, y0, y1, y2, p5, go_sem]
  unfold Oper.wp
  rw [hr]
  have hst := fun u => RcX.Wd.store ok.rok hW hs1 hs2 p1 g1 u
  have hcs : (Value.agg #[.int .i64 x, .int .i64 y, .slice sa sn sc]).cells.toList = [.int .i64 x, .int .i64 y, .slice sa sn sc] := rfl
  rw [hcs] at hst
  exact hK _ _ (hst _)
theorem LSA.s11 (X : LSA) (ok : LSAOk X) {Q : Exit → Act → World → Prop} : StepH (opsOf 8 Try.f13) LSA.acts LSA.av LSA.ext X.val0 X.rc.Wd X.a0 Q 11 := by
  intro γ listed a w o hF hC hW h1 ho h2
  obtain ⟨hd, hop, hg⟩ := fields2 (x := some 9) (y := Op.assign (.tmp 37)) (z := none) (by kernel_rfl) ho
  have e37 : a.eval (.tmp 37) = tupAt (γ 2) 1 := slotH hF ho h2 (j := 8) (d := 37) (by kernel_rfl) (by kernel_rfl) (by rw [ok.sz]; decide)
  refine st_pureH hF hC hW ho h2 (by decide) hd hg ?_
  show _ = Result.ok (Next.value (tupAt (γ 2) 1)) w
  generalize a.eval = ρ at e37 ⊢
  unfold execOp
  rw [hop]
  simp [e37, go_sem]
theorem LSA.size : (opsOf 8 Try.f13).size = 12 := by kernel_rfl
theorem LSA.steps (X : LSA) (ok : LSAOk X) {Q : Exit → Act → World → Prop} (i : Nat) (hi : i < (opsOf 8 Try.f13).size) : StepH (opsOf 8 Try.f13) LSA.acts LSA.av LSA.ext X.val0 X.rc.Wd X.a0 Q i := by
  rw [LSA.size] at hi
  have hc : i = 0 ∨ i = 1 ∨ i = 2 ∨ i = 3 ∨ i = 4 ∨ i = 5 ∨ i = 6 ∨ i = 7 ∨ i = 8 ∨ i = 9 ∨ i = 10 ∨ i = 11 := by omega
  rcases hc with rfl | rfl | rfl | rfl | rfl | rfl | rfl | rfl | rfl | rfl | rfl | rfl
  · exact LSA.s0 X ok
  · exact LSA.s1 X ok
  · exact LSA.s2 X ok
  · exact LSA.s3 X ok
  · exact LSA.s4 X ok
  · exact LSA.s5 X ok
  · exact LSA.s6 X ok
  · exact LSA.s7 X ok
  · exact LSA.s8 X ok
  · exact LSA.s9 X ok
  · exact LSA.s10 X ok
  · exact LSA.s11 X ok
theorem LSA.puts (X : LSA) (γ : Nat → Value) (a0 : Act) : putsL (valH LSA.av LSA.ext X.val0 γ) (opsOf 8 Try.f13).toList a0 = (((((((((((a0.put (some 30) (.agg #[.int .i64 X.p.w, .int .i64 X.p.h, X.va])).put (some 31) (γ 0)).put (some 32) (.agg #[.int .i64 X.q.w, .int .i64 X.q.h, X.vb])).put (some 33) (γ 1)).put (some 34) (.int .i64 X.pt)).put (some 35) (γ 2)).put (some 29) (γ 2)).put (some 36) (tupAt (γ 2) 0)).put (some 37) (tupAt (γ 2) 1)).put (some 8) (γ 3)).put (some 9) (tupAt (γ 2) 1)) := by kernel_rfl
/-- The region, whatever order comes up. -/
theorem LSA.run (X : LSA) (ok : LSAOk X) {Q : Exit → Act → World → Prop} (w : World) (h0 : Nw X.W w.drew)
    (hend : ∀ (γ : Nat → Value) w' bx r b B w0, γ 3 = .pointer (some ⟨bx, 0, none⟩) → γ 2 = .tuple #[r, b] → Nw X.W w' → X.W.heap.size ≤ bx → bx < w'.heap.size → (∀ o, w'.frozen? ⟨bx, o, none⟩ = false) → (∀ j, j < 3 → w'.cell? ⟨bx, j, none⟩ = r.cells[j]?) → X.W.heap.size ≤ B → X.R B w0 r b → Nw w0 w' → (bx < B ∨ w0.heap.size ≤ bx) → Q .normal (((((((((((X.a0.put (some 30) (.agg #[.int .i64 X.p.w, .int .i64 X.p.h, X.va])).put (some 31) (γ 0)).put (some 32) (.agg #[.int .i64 X.q.w, .int .i64 X.q.h, X.vb])).put (some 33) (γ 1)).put (some 34) (.int .i64 X.pt)).put (some 35) (γ 2)).put (some 29) (γ 2)).put (some 36) (tupAt (γ 2) 0)).put (some 37) (tupAt (γ 2) 1)).put (some 8) (γ 3)).put (some 9) (tupAt (γ 2) 1)) w') : (Code.region 8 (opsOf 8 Try.f13) true).wp Try.prog Q X.a0 w := by
  refine reg_actH (acts := LSA.acts) (av := LSA.av) (ext := LSA.ext) (val0 := X.val0) (Wd := X.rc.Wd) (by kernel_rfl) (by kernel_rfl) (by rw [LSA.size]; decide) (fun i hi => LSA.steps X ok i hi) (fun _ => undef) (RcX.Wd.start X.rc _ _ h0) ?_
  intro S γ w' hS h
  rw [LSA.puts]
  obtain ⟨bx, r, b, B, w0, f1, f2, f3, f4, f5, f6, f7, f8, f9, f10, f11⟩ := h.fin ok.rok hS
  exact hend γ w' bx r b B w0 f1 f2 f3 f4 f5 f6 f7 f8 f9 f10 f11
structure LSZ where
  b0 : Nat
  b1 : Nat
  p : MD
  q : MD
  va : Value
  vb : Value
  pt : Int
  C : Nat → World → Value → Prop
  R : Nat → World → Value → Value → Prop
  W : World
  a0 : Act
def LSZ.rc (X : LSZ) : RcX := ⟨2, 3, X.W, X.C, X.R⟩
structure LSZOk (X : LSZ) : Prop where
  a0c : X.W.cell? ⟨X.b0, 0, none⟩ = some (.int .i64 X.p.w)
  a1c : X.W.cell? ⟨X.b0, 1, none⟩ = some (.int .i64 X.p.h)
  a2c : X.W.cell? ⟨X.b0, 2, none⟩ = some (X.va)
  b0c : X.W.cell? ⟨X.b1, 0, none⟩ = some (.int .i64 X.q.w)
  b1c : X.W.cell? ⟨X.b1, 1, none⟩ = some (.int .i64 X.q.h)
  b2c : X.W.cell? ⟨X.b1, 2, none⟩ = some (X.vb)
  rok : X.rc.Ok
  cc0 : ∀ w, Nw X.W w → Calls Try.prog 42 #[.agg #[.int .i64 X.p.w, .int .i64 X.p.h, X.va]] w fun e w' => ∃ u, e = .returned u ∧ X.C 0 w' u ∧ Nw w w'
  cc1 : ∀ w, Nw X.W w → Calls Try.prog 42 #[.agg #[.int .i64 X.q.w, .int .i64 X.q.h, X.vb]] w fun e w' => ∃ u, e = .returned u ∧ X.C 1 w' u ∧ Nw w w'
  mm : ∀ w u0 u1, Nw X.W w → X.C 0 w u0 → X.C 1 w u1 → Calls Try.prog 51 #[u0, u1, .int .i64 X.pt] w fun e w' => ∃ r b, e = .returned (.tuple #[r, b]) ∧ X.R w.heap.size w' r b ∧ Nw w w'
  form : ∀ B w r b, X.R B w r b → ∃ x y sa sn sc, r = .agg #[.int .i64 x, .int .i64 y, .slice sa sn sc]
  e2 : X.a0.eval (.tmp 2) = .int .i64 X.pt
  e3 : X.a0.eval (.tmp 3) = .pointer (some ⟨X.b0, 0, none⟩)
  e4 : X.a0.eval (.tmp 4) = .pointer (some ⟨X.b1, 0, none⟩)
  sz : X.a0.tmps.size = 124
def LSZ.val0 (X : LSZ) : Nat → Value
  | 99 => .agg #[.int .i64 X.p.w, .int .i64 X.p.h, X.va]
  | 101 => .agg #[.int .i64 X.q.w, .int .i64 X.q.h, X.vb]
  | 103 => .int .i64 X.pt
  | _ => undef
def LSZ.av : Nat → Option Nat
  | 17 => some 3
  | 18 => some 2
  | 98 => some 2
  | 100 => some 0
  | 102 => some 1
  | 104 => some 2
  | 105 => some 2
  | 106 => some 2
  | _ => none
def LSZ.ext : Nat → Value → Value
  | 18 => fun u => tupAt u 1
  | 105 => fun u => tupAt u 0
  | 106 => fun u => tupAt u 1
  | _ => fun u => u
def LSZ.acts : List Nat := [1, 3, 5, 9, 10]
theorem LSZ.nodup : LSZ.acts.Nodup := by decide
theorem LSZ.s0 (X : LSZ) (ok : LSZOk X) {Q : Exit → Act → World → Prop} : StepH (opsOf 31 Try.f13) LSZ.acts LSZ.av LSZ.ext X.val0 X.rc.Wd X.a0 Q 0 := by
  intro γ listed a w o hF hC hW h1 ho h2
  obtain ⟨hd, hop, hg⟩ := fields2 (x := some 99) (y := Op.load 65 (.tmp 3)) (z := none) (by kernel_rfl) ho
  have e3 : a.eval (.tmp 3) = .pointer (some ⟨X.b0, 0, none⟩) := (hF.eval0 (by kernel_rfl)).trans ok.e3
  have hc0 := ((bcell hW.nw).1 _ _ (World.block_lt_of_cell? X.W ⟨_, _, none⟩ ok.a0c)).trans ok.a0c
  have hc1 := ((bcell hW.nw).1 _ _ (World.block_lt_of_cell? X.W ⟨_, _, none⟩ ok.a1c)).trans ok.a1c
  have hc2 := ((bcell hW.nw).1 _ _ (World.block_lt_of_cell? X.W ⟨_, _, none⟩ ok.a2c)).trans ok.a2c
  refine st_pureH hF hC hW ho h2 (by decide) hd hg ?_
  show _ = Result.ok (Next.value (.agg #[.int .i64 X.p.w, .int .i64 X.p.h, X.va])) w
  generalize a.eval = ρ at e3 ⊢
  unfold execOp
  rw [hop]
  simp [e3, hc0, hc1, hc2, go_sem]
theorem LSZ.s1 (X : LSZ) (ok : LSZOk X) {Q : Exit → Act → World → Prop} : StepH (opsOf 31 Try.f13) LSZ.acts LSZ.av LSZ.ext X.val0 X.rc.Wd X.a0 Q 1 := by
  intro γ listed a w o hF hC hW h1 ho h2
  obtain ⟨hd, hop, hg⟩ := fields2 (x := some 100) (y := Op.call { callee := .value (.func 42), args := #[(.tmp 99)], argTypes := #[65] }) (z := none) (by kernel_rfl) ho
  have e99 : a.eval (.tmp 99) = .agg #[.int .i64 X.p.w, .int .i64 X.p.h, X.va] := slotH hF ho h2 (j := 0) (d := 99) (by kernel_rfl) (by kernel_rfl) (by rw [ok.sz]; decide)
  have ef : a.eval (.func 42) = .func (.func 42) #[] #[] := rfl
  have hu := unl (hF.lt ho) h1
  refine st_actH (k := 0) (ps := []) LSZ.nodup rfl (by kernel_rfl) hF hC h1 ho h2 (Or.inr ⟨100, hd, rfl, fun _ => rfl⟩) hg ?_
  intro K hK
  have hr : (execOp a.eval o).run Try.prog w = .ok (.enter 42 #[.agg #[.int .i64 X.p.w, .int .i64 X.p.h, X.va]]) w := by
    generalize a.eval = ρ at e99 ef ⊢
    unfold execOp
    rw [hop]
    simp [e99, ef, go_sem]
  unfold Oper.wp
  rw [hr]
  refine Calls.mono (ok.cc0 w hW.nw) ?_
  rintro e w' ⟨u, rfl, hc, k1⟩
  exact hK _ _ (RcX.Wd.copy ok.rok hW k1 (by show 0 < 2; decide) hc)
theorem LSZ.s2 (X : LSZ) (ok : LSZOk X) {Q : Exit → Act → World → Prop} : StepH (opsOf 31 Try.f13) LSZ.acts LSZ.av LSZ.ext X.val0 X.rc.Wd X.a0 Q 2 := by
  intro γ listed a w o hF hC hW h1 ho h2
  obtain ⟨hd, hop, hg⟩ := fields2 (x := some 101) (y := Op.load 65 (.tmp 4)) (z := none) (by kernel_rfl) ho
  have e4 : a.eval (.tmp 4) = .pointer (some ⟨X.b1, 0, none⟩) := (hF.eval0 (by kernel_rfl)).trans ok.e4
  have hc0 := ((bcell hW.nw).1 _ _ (World.block_lt_of_cell? X.W ⟨_, _, none⟩ ok.b0c)).trans ok.b0c
  have hc1 := ((bcell hW.nw).1 _ _ (World.block_lt_of_cell? X.W ⟨_, _, none⟩ ok.b1c)).trans ok.b1c
  have hc2 := ((bcell hW.nw).1 _ _ (World.block_lt_of_cell? X.W ⟨_, _, none⟩ ok.b2c)).trans ok.b2c
  refine st_pureH hF hC hW ho h2 (by decide) hd hg ?_
  show _ = Result.ok (Next.value (.agg #[.int .i64 X.q.w, .int .i64 X.q.h, X.vb])) w
  generalize a.eval = ρ at e4 ⊢
  unfold execOp
  rw [hop]
  simp [e4, hc0, hc1, hc2, go_sem]
theorem LSZ.s3 (X : LSZ) (ok : LSZOk X) {Q : Exit → Act → World → Prop} : StepH (opsOf 31 Try.f13) LSZ.acts LSZ.av LSZ.ext X.val0 X.rc.Wd X.a0 Q 3 := by
  intro γ listed a w o hF hC hW h1 ho h2
  obtain ⟨hd, hop, hg⟩ := fields2 (x := some 102) (y := Op.call { callee := .value (.func 42), args := #[(.tmp 101)], argTypes := #[65] }) (z := none) (by kernel_rfl) ho
  have e101 : a.eval (.tmp 101) = .agg #[.int .i64 X.q.w, .int .i64 X.q.h, X.vb] := slotH hF ho h2 (j := 2) (d := 101) (by kernel_rfl) (by kernel_rfl) (by rw [ok.sz]; decide)
  have ef : a.eval (.func 42) = .func (.func 42) #[] #[] := rfl
  have hu := unl (hF.lt ho) h1
  refine st_actH (k := 1) (ps := []) LSZ.nodup rfl (by kernel_rfl) hF hC h1 ho h2 (Or.inr ⟨102, hd, rfl, fun _ => rfl⟩) hg ?_
  intro K hK
  have hr : (execOp a.eval o).run Try.prog w = .ok (.enter 42 #[.agg #[.int .i64 X.q.w, .int .i64 X.q.h, X.vb]]) w := by
    generalize a.eval = ρ at e101 ef ⊢
    unfold execOp
    rw [hop]
    simp [e101, ef, go_sem]
  unfold Oper.wp
  rw [hr]
  refine Calls.mono (ok.cc1 w hW.nw) ?_
  rintro e w' ⟨u, rfl, hc, k1⟩
  exact hK _ _ (RcX.Wd.copy ok.rok hW k1 (by show 1 < 2; decide) hc)
theorem LSZ.s4 (X : LSZ) (ok : LSZOk X) {Q : Exit → Act → World → Prop} : StepH (opsOf 31 Try.f13) LSZ.acts LSZ.av LSZ.ext X.val0 X.rc.Wd X.a0 Q 4 := by
  intro γ listed a w o hF hC hW h1 ho h2
  obtain ⟨hd, hop, hg⟩ := fields2 (x := some 103) (y := Op.move (.tmp 2)) (z := none) (by kernel_rfl) ho
  have e2 : a.eval (.tmp 2) = .int .i64 X.pt := (hF.eval0 (by kernel_rfl)).trans ok.e2
  refine st_pureH hF hC hW ho h2 (by decide) hd hg ?_
  show _ = Result.ok (Next.value (.int .i64 X.pt)) w
  generalize a.eval = ρ at e2 ⊢
  unfold execOp
  rw [hop]
  simp [e2, go_sem]
theorem LSZ.s5 (X : LSZ) (ok : LSZOk X) {Q : Exit → Act → World → Prop} : StepH (opsOf 31 Try.f13) LSZ.acts LSZ.av LSZ.ext X.val0 X.rc.Wd X.a0 Q 5 := by
  intro γ listed a w o hF hC hW h1 ho h2
  obtain ⟨hd, hop, hg⟩ := fields2 (x := some 104) (y := Op.call { callee := .value (.func 51), args := #[(.tmp 100), (.tmp 102), (.tmp 103)], argTypes := #[57, 57, 3] }) (z := none) (by kernel_rfl) ho
  have e100 : a.eval (.tmp 100) = γ 0 := slotH hF ho h2 (j := 1) (d := 100) (by kernel_rfl) (by kernel_rfl) (by rw [ok.sz]; decide)
  have e102 : a.eval (.tmp 102) = γ 1 := slotH hF ho h2 (j := 3) (d := 102) (by kernel_rfl) (by kernel_rfl) (by rw [ok.sz]; decide)
  have e103 : a.eval (.tmp 103) = .int .i64 X.pt := slotH hF ho h2 (j := 4) (d := 103) (by kernel_rfl) (by kernel_rfl) (by rw [ok.sz]; decide)
  have ef : a.eval (.func 51) = .func (.func 51) #[] #[] := rfl
  have hu := unl (hF.lt ho) h1
  have hy0 : upOf listed LSZ.acts 0 = true := up_yes hC ho h2 (j := 1) rfl [1] (by kernel_rfl) (by decide)
  have hy1 : upOf listed LSZ.acts 1 = true := up_yes hC ho h2 (j := 3) rfl [3] (by kernel_rfl) (by decide)
  have hno : upOf listed LSZ.acts 4 = false := up_no hC hu rfl [7, 6, 5] (by kernel_rfl) (by decide)
  have hself : upOf listed LSZ.acts 2 = false := up_self rfl hu
  refine st_actH (k := 2) (ps := [[6, 5], [7, 6, 5], [8, 6, 5], [11, 8, 6, 5]]) LSZ.nodup rfl (by kernel_rfl) hF hC h1 ho h2 (Or.inr ⟨104, hd, rfl, fun _ => rfl⟩) hg ?_
  intro K hK
  have hr : (execOp a.eval o).run Try.prog w = .ok (.enter 51 #[γ 0, γ 1, .int .i64 X.pt]) w := by
    generalize a.eval = ρ at e100 e102 e103 ef ⊢
    unfold execOp
    rw [hop]
    simp [e100, e102, e103, ef, go_sem]
  unfold Oper.wp
  rw [hr]
  refine Calls.mono (ok.mm w (γ 0) (γ 1) hW.nw (hW.cp 0 (by show 0 < 2; decide) hy0 hself) (hW.cp 1 (by show 1 < 2; decide) hy1 hself)) ?_
  rintro e w' ⟨r, b, rfl, hR, k1⟩
  exact hK _ _ (RcX.Wd.main ok.rok hW k1 hno hR)
theorem LSZ.s6 (X : LSZ) (ok : LSZOk X) {Q : Exit → Act → World → Prop} : StepH (opsOf 31 Try.f13) LSZ.acts LSZ.av LSZ.ext X.val0 X.rc.Wd X.a0 Q 6 := by
  intro γ listed a w o hF hC hW h1 ho h2
  obtain ⟨hd, hop, hg⟩ := fields2 (x := some 98) (y := Op.move (.tmp 104)) (z := none) (by kernel_rfl) ho
  have e104 : a.eval (.tmp 104) = γ 2 := slotH hF ho h2 (j := 5) (d := 104) (by kernel_rfl) (by kernel_rfl) (by rw [ok.sz]; decide)
  refine st_pureH hF hC hW ho h2 (by decide) hd hg ?_
  show _ = Result.ok (Next.value (γ 2)) w
  generalize a.eval = ρ at e104 ⊢
  unfold execOp
  rw [hop]
  simp [e104, go_sem]
theorem LSZ.s7 (X : LSZ) (ok : LSZOk X) {Q : Exit → Act → World → Prop} : StepH (opsOf 31 Try.f13) LSZ.acts LSZ.av LSZ.ext X.val0 X.rc.Wd X.a0 Q 7 := by
  intro γ listed a w o hF hC hW h1 ho h2
  obtain ⟨hd, hop, hg⟩ := fields2 (x := some 105) (y := Op.extract (.tmp 98) 0) (z := none) (by kernel_rfl) ho
  have e98 : a.eval (.tmp 98) = γ 2 := slotH hF ho h2 (j := 6) (d := 98) (by kernel_rfl) (by kernel_rfl) (by rw [ok.sz]; decide)
  have hy : upOf listed LSZ.acts 2 = true := up_yes hC ho h2 (j := 5) rfl [6, 5] (by kernel_rfl) (by decide)
  obtain ⟨r, b, _, _, g1, _⟩ := hW.ans hy
  replace g1 : γ 2 = .tuple #[r, b] := g1
  rw [g1] at e98
  refine st_pureH hF hC hW ho h2 (by decide) hd hg ?_
  show _ = Result.ok (Next.value (tupAt (γ 2) 0)) w
  rw [g1]
  generalize a.eval = ρ at e98 ⊢
  unfold execOp
  rw [hop]
  simp [e98, tupAt, go_sem]
theorem LSZ.s8 (X : LSZ) (ok : LSZOk X) {Q : Exit → Act → World → Prop} : StepH (opsOf 31 Try.f13) LSZ.acts LSZ.av LSZ.ext X.val0 X.rc.Wd X.a0 Q 8 := by
  intro γ listed a w o hF hC hW h1 ho h2
  obtain ⟨hd, hop, hg⟩ := fields2 (x := some 106) (y := Op.extract (.tmp 98) 1) (z := none) (by kernel_rfl) ho
  have e98 : a.eval (.tmp 98) = γ 2 := slotH hF ho h2 (j := 6) (d := 98) (by kernel_rfl) (by kernel_rfl) (by rw [ok.sz]; decide)
  have hy : upOf listed LSZ.acts 2 = true := up_yes hC ho h2 (j := 5) rfl [6, 5] (by kernel_rfl) (by decide)
  obtain ⟨r, b, _, _, g1, _⟩ := hW.ans hy
  replace g1 : γ 2 = .tuple #[r, b] := g1
  rw [g1] at e98
  refine st_pureH hF hC hW ho h2 (by decide) hd hg ?_
  show _ = Result.ok (Next.value (tupAt (γ 2) 1)) w
  rw [g1]
  generalize a.eval = ρ at e98 ⊢
  unfold execOp
  rw [hop]
  simp [e98, tupAt, go_sem]
theorem LSZ.s9 (X : LSZ) (ok : LSZOk X) {Q : Exit → Act → World → Prop} : StepH (opsOf 31 Try.f13) LSZ.acts LSZ.av LSZ.ext X.val0 X.rc.Wd X.a0 Q 9 := by
  intro γ listed a w o hF hC hW h1 ho h2
  obtain ⟨hd, hop, hg⟩ := fields2 (x := some 17) (y := Op.alloc 57) (z := none) (by kernel_rfl) ho
  have hu := unl (hF.lt ho) h1
  have hno : upOf listed LSZ.acts 4 = false := up_no hC hu rfl [9] (by kernel_rfl) (by decide)
  refine st_actH (k := 3) (ps := []) LSZ.nodup rfl (by kernel_rfl) hF hC h1 ho h2 (Or.inr ⟨17, hd, rfl, fun _ => rfl⟩) hg ?_
  intro K hK
  have hr : (execOp a.eval o).run Try.prog w = .ok (.value (.pointer (some ⟨w.heap.size, 0, none⟩))) (w.alloc (.cells #[.int .i64 0, .int .i64 0, .slice none 0 0] 57)) := by
    unfold execOp
    rw [hop]
    simp [go_sem]
  unfold Oper.wp
  rw [hr]
  exact hK _ _ (RcX.Wd.alloc ok.rok hW hno #[.int .i64 0, .int .i64 0, .slice none 0 0] 57 rfl)
theorem LSZ.s10 (X : LSZ) (ok : LSZOk X) {Q : Exit → Act → World → Prop} : StepH (opsOf 31 Try.f13) LSZ.acts LSZ.av LSZ.ext X.val0 X.rc.Wd X.a0 Q 10 := by
  intro γ listed a w o hF hC hW h1 ho h2
  obtain ⟨hd, hop, hg⟩ := fields2 (x := none) (y := Op.store 57 (.tmp 17) (.tmp 105)) (z := none) (by kernel_rfl) ho
  have e17 : a.eval (.tmp 17) = γ 3 := slotH hF ho h2 (j := 9) (d := 17) (by kernel_rfl) (by kernel_rfl) (by rw [ok.sz]; decide)
  have e105 : a.eval (.tmp 105) = tupAt (γ 2) 0 := slotH hF ho h2 (j := 7) (d := 105) (by kernel_rfl) (by kernel_rfl) (by rw [ok.sz]; decide)
  have hu := unl (hF.lt ho) h1
  have hs1 : upOf listed LSZ.acts 2 = true := up_yes hC ho h2 (j := 5) rfl [7, 6, 5] (by kernel_rfl) (by decide)
  have hs2 : upOf listed LSZ.acts 3 = true := up_yes hC ho h2 (j := 9) rfl [9] (by kernel_rfl) (by decide)
  refine st_actH (k := 4) (ps := []) LSZ.nodup rfl (by kernel_rfl) hF hC h1 ho h2 (Or.inl hd) hg ?_
  intro K hK
  obtain ⟨r, b, B, w0, g1, _, g3, _⟩ := hW.ans hs1
  replace g1 : γ 2 = .tuple #[r, b] := g1
  obtain ⟨x, y, sa, sn, sc, rfl⟩ := ok.form _ _ _ _ g3
  obtain ⟨bx, p1, _, _, p4, p5⟩ := hW.box hs2
  replace p1 : γ 3 = .pointer (some ⟨bx, 0, none⟩) := p1
  rw [p1] at e17
  rw [g1] at e105
  replace e105 : a.eval (.tmp 105) = .agg #[.int .i64 x, .int .i64 y, .slice sa sn sc] := e105
  obtain ⟨z0, y0⟩ := p4 0 (by show 0 < 3; decide)
  obtain ⟨z1, y1⟩ := p4 1 (by show 1 < 3; decide)
  obtain ⟨z2, y2⟩ := p4 2 (by show 2 < 3; decide)
  have hr : (execOp a.eval o).run Try.prog w = .ok .skip (((w.setCell ⟨bx, 0, none⟩ (.int .i64 x)).setCell ⟨bx, 1, none⟩ (.int .i64 y)).setCell ⟨bx, 2, none⟩ (.slice sa sn sc)) := by
    generalize a.eval = ρ at e17 e105 ⊢
    unfold execOp
    rw [hop]
    simp [e17, e105, y0, y1, y2, p5, go_sem]
  unfold Oper.wp
  rw [hr]
  have hst := fun u => RcX.Wd.store ok.rok hW hs1 hs2 p1 g1 u
  have hcs : (Value.agg #[.int .i64 x, .int .i64 y, .slice sa sn sc]).cells.toList = [.int .i64 x, .int .i64 y, .slice sa sn sc] := rfl
  rw [hcs] at hst
  exact hK _ _ (hst _)
theorem LSZ.s11 (X : LSZ) (ok : LSZOk X) {Q : Exit → Act → World → Prop} : StepH (opsOf 31 Try.f13) LSZ.acts LSZ.av LSZ.ext X.val0 X.rc.Wd X.a0 Q 11 := by
  intro γ listed a w o hF hC hW h1 ho h2
  obtain ⟨hd, hop, hg⟩ := fields2 (x := some 18) (y := Op.assign (.tmp 106)) (z := none) (by kernel_rfl) ho
  have e106 : a.eval (.tmp 106) = tupAt (γ 2) 1 := slotH hF ho h2 (j := 8) (d := 106) (by kernel_rfl) (by kernel_rfl) (by rw [ok.sz]; decide)
  refine st_pureH hF hC hW ho h2 (by decide) hd hg ?_
  show _ = Result.ok (Next.value (tupAt (γ 2) 1)) w
  generalize a.eval = ρ at e106 ⊢
  unfold execOp
  rw [hop]
  simp [e106, go_sem]
theorem LSZ.size : (opsOf 31 Try.f13).size = 12 := by kernel_rfl
theorem LSZ.steps (X : LSZ) (ok : LSZOk X) {Q : Exit → Act → World → Prop} (i : Nat) (hi : i < (opsOf 31 Try.f13).size) : StepH (opsOf 31 Try.f13) LSZ.acts LSZ.av LSZ.ext X.val0 X.rc.Wd X.a0 Q i := by
  rw [LSZ.size] at hi
  have hc : i = 0 ∨ i = 1 ∨ i = 2 ∨ i = 3 ∨ i = 4 ∨ i = 5 ∨ i = 6 ∨ i = 7 ∨ i = 8 ∨ i = 9 ∨ i = 10 ∨ i = 11 := by omega
  rcases hc with rfl | rfl | rfl | rfl | rfl | rfl | rfl | rfl | rfl | rfl | rfl | rfl
  · exact LSZ.s0 X ok
  · exact LSZ.s1 X ok
  · exact LSZ.s2 X ok
  · exact LSZ.s3 X ok
  · exact LSZ.s4 X ok
  · exact LSZ.s5 X ok
  · exact LSZ.s6 X ok
  · exact LSZ.s7 X ok
  · exact LSZ.s8 X ok
  · exact LSZ.s9 X ok
  · exact LSZ.s10 X ok
  · exact LSZ.s11 X ok
theorem LSZ.puts (X : LSZ) (γ : Nat → Value) (a0 : Act) : putsL (valH LSZ.av LSZ.ext X.val0 γ) (opsOf 31 Try.f13).toList a0 = (((((((((((a0.put (some 99) (.agg #[.int .i64 X.p.w, .int .i64 X.p.h, X.va])).put (some 100) (γ 0)).put (some 101) (.agg #[.int .i64 X.q.w, .int .i64 X.q.h, X.vb])).put (some 102) (γ 1)).put (some 103) (.int .i64 X.pt)).put (some 104) (γ 2)).put (some 98) (γ 2)).put (some 105) (tupAt (γ 2) 0)).put (some 106) (tupAt (γ 2) 1)).put (some 17) (γ 3)).put (some 18) (tupAt (γ 2) 1)) := by kernel_rfl
/-- The region, whatever order comes up. -/
theorem LSZ.run (X : LSZ) (ok : LSZOk X) {Q : Exit → Act → World → Prop} (w : World) (h0 : Nw X.W w.drew)
    (hend : ∀ (γ : Nat → Value) w' bx r b B w0, γ 3 = .pointer (some ⟨bx, 0, none⟩) → γ 2 = .tuple #[r, b] → Nw X.W w' → X.W.heap.size ≤ bx → bx < w'.heap.size → (∀ o, w'.frozen? ⟨bx, o, none⟩ = false) → (∀ j, j < 3 → w'.cell? ⟨bx, j, none⟩ = r.cells[j]?) → X.W.heap.size ≤ B → X.R B w0 r b → Nw w0 w' → (bx < B ∨ w0.heap.size ≤ bx) → Q .normal (((((((((((X.a0.put (some 99) (.agg #[.int .i64 X.p.w, .int .i64 X.p.h, X.va])).put (some 100) (γ 0)).put (some 101) (.agg #[.int .i64 X.q.w, .int .i64 X.q.h, X.vb])).put (some 102) (γ 1)).put (some 103) (.int .i64 X.pt)).put (some 104) (γ 2)).put (some 98) (γ 2)).put (some 105) (tupAt (γ 2) 0)).put (some 106) (tupAt (γ 2) 1)).put (some 17) (γ 3)).put (some 18) (tupAt (γ 2) 1)) w') : (Code.region 31 (opsOf 31 Try.f13) true).wp Try.prog Q X.a0 w := by
  refine reg_actH (acts := LSZ.acts) (av := LSZ.av) (ext := LSZ.ext) (val0 := X.val0) (Wd := X.rc.Wd) (by kernel_rfl) (by kernel_rfl) (by rw [LSZ.size]; decide) (fun i hi => LSZ.steps X ok i hi) (fun _ => undef) (RcX.Wd.start X.rc _ _ h0) ?_
  intro S γ w' hS h
  rw [LSZ.puts]
  obtain ⟨bx, r, b, B, w0, f1, f2, f3, f4, f5, f6, f7, f8, f9, f10, f11⟩ := h.fin ok.rok hS
  exact hend γ w' bx r b B w0 f1 f2 f3 f4 f5 f6 f7 f8 f9 f10 f11
end Go.Proofs.Ythlohbiocfeapaa
