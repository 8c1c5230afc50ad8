/-
  The statements of the law on PaintMask that make an answer and draw their order; each theorem names its conditions.
-/
import Derived.Test.YthlohbiocfeapaaShT
import Derived.Test.YthlohbiocfeapaaMskT
import Derived.Test.YthlohbiocfeapaaRc
namespace Go.Proofs.Ythlohbiocfeapaa
open Go.ChangeShapes Go.WideShapes Go.ChangeAt Go.RowKit
set_option linter.unusedVariables false

structure PMA where
  b0 : Nat
  b1 : Nat
  b2 : Nat
  p : MD
  q : MD
  va : Value
  vb : Value
  tr : Int
  tg : Int
  tb : Int
  ta : Int
  C : Nat → World → Value → Prop
  R : Nat → World → Value → Value → Prop
  W : World
  a0 : Act
def PMA.rc (X : PMA) : RcX := ⟨3, 3, X.W, X.C, X.R⟩
structure PMAOk (X : PMA) : Prop where
  a0c : X.W.cell? ⟨X.b0, 0, none⟩ = some (.int .i64 X.p.w)
  a1c : X.W.cell? ⟨X.b0, 1, none⟩ = some (.int .i64 X.p.h)
  a2c : X.W.cell? ⟨X.b0, 2, none⟩ = some (X.va)
  b0c : X.W.cell? ⟨X.b1, 0, none⟩ = some (.int .i64 X.q.w)
  b1c : X.W.cell? ⟨X.b1, 1, none⟩ = some (.int .i64 X.q.h)
  b2c : X.W.cell? ⟨X.b1, 2, none⟩ = some (X.vb)
  t0c : X.W.cell? ⟨X.b2, 0, none⟩ = some (.int .i64 X.tr)
  t1c : X.W.cell? ⟨X.b2, 1, none⟩ = some (.int .i64 X.tg)
  t2c : X.W.cell? ⟨X.b2, 2, none⟩ = some (.int .i64 X.tb)
  t3c : X.W.cell? ⟨X.b2, 3, none⟩ = some (.int .i64 X.ta)
  rok : X.rc.Ok
  cc0 : ∀ w, Nw X.W w → Calls Try.prog 42 #[.agg #[.int .i64 X.p.w, .int .i64 X.p.h, X.va]] w fun e w' => ∃ u, e = .returned u ∧ X.C 0 w' u ∧ Nw w w'
  cc1 : ∀ w, Nw X.W w → Calls Try.prog 46 #[.agg #[.int .i64 X.q.w, .int .i64 X.q.h, X.vb]] w fun e w' => ∃ u, e = .returned u ∧ X.C 1 w' u ∧ Nw w w'
  cc2 : ∀ w, Nw X.W w → Calls Try.prog 23 #[.agg #[.int .i64 X.tr, .int .i64 X.tg, .int .i64 X.tb, .int .i64 X.ta]] w fun e w' => ∃ u, e = .returned u ∧ X.C 2 w' u ∧ Nw w w'
  mm : ∀ w u0 u1 u2, Nw X.W w → X.C 0 w u0 → X.C 1 w u1 → X.C 2 w u2 → Calls Try.prog 45 #[u0, u1, u2] w fun e w' => ∃ r b, e = .returned (.tuple #[r, b]) ∧ X.R w.heap.size w' r b ∧ Nw w w'
  form : ∀ B w r b, X.R B w r b → ∃ x y sa sn sc, r = .agg #[.int .i64 x, .int .i64 y, .slice sa sn sc]
  e3 : X.a0.eval (.tmp 3) = .pointer (some ⟨X.b0, 0, none⟩)
  e4 : X.a0.eval (.tmp 4) = .pointer (some ⟨X.b1, 0, none⟩)
  e5 : X.a0.eval (.tmp 5) = .pointer (some ⟨X.b2, 0, none⟩)
  sz : X.a0.tmps.size = 127
def PMA.val0 (X : PMA) : Nat → Value
  | 30 => .agg #[.int .i64 X.p.w, .int .i64 X.p.h, X.va]
  | 32 => .agg #[.int .i64 X.q.w, .int .i64 X.q.h, X.vb]
  | 34 => .agg #[.int .i64 X.tr, .int .i64 X.tg, .int .i64 X.tb, .int .i64 X.ta]
  | _ => undef
def PMA.av : Nat → Option Nat
  | 8 => some 4
  | 9 => some 3
  | 29 => some 3
  | 31 => some 0
  | 33 => some 1
  | 35 => some 2
  | 36 => some 3
  | 37 => some 3
  | 38 => some 3
  | _ => none
def PMA.ext : Nat → Value → Value
  | 9 => fun u => tupAt u 1
  | 37 => fun u => tupAt u 0
  | 38 => fun u => tupAt u 1
  | _ => fun u => u
def PMA.acts : List Nat := [1, 3, 5, 6, 10, 11]
theorem PMA.nodup : PMA.acts.Nodup := by decide
theorem PMA.s0 (X : PMA) (ok : PMAOk X) {Q : Exit → Act → World → Prop} : StepH (opsOf 8 Try.f12) PMA.acts PMA.av PMA.ext X.val0 X.rc.Wd X.a0 Q 0 := by
  intro γ listed a w o hF hC hW h1 ho h2
  obtain ⟨hd, hop, hg⟩ := fields2 (x := some 30) (y := Op.load 65 (.tmp 3)) (z := none) (by kernel_rfl) ho
  have e3 : a.eval (.tmp 3) = .pointer (some ⟨X.b0, 0, none⟩) := (hF.eval0 (by kernel_rfl)).trans ok.e3
  have hc0 := ((bcell hW.nw).1 _ _ (World.block_lt_of_cell? X.W ⟨_, _, none⟩ ok.a0c)).trans ok.a0c
  have hc1 := ((bcell hW.nw).1 _ _ (World.block_lt_of_cell? X.W ⟨_, _, none⟩ ok.a1c)).trans ok.a1c
  have hc2 := ((bcell hW.nw).1 _ _ (World.block_lt_of_cell? X.W ⟨_, _, none⟩ ok.a2c)).trans ok.a2c
  refine st_pureH hF hC hW ho h2 (by decide) hd hg ?_
  show _ = Result.ok (Next.value (.agg #[.int .i64 X.p.w, .int .i64 X.p.h, X.va])) w
  generalize a.eval = ρ at e3 ⊢
  unfold execOp
  rw [hop]
  simp [e3, hc0, hc1, hc2, go_sem]
theorem PMA.s1 (X : PMA) (ok : PMAOk X) {Q : Exit → Act → World → Prop} : StepH (opsOf 8 Try.f12) PMA.acts PMA.av PMA.ext X.val0 X.rc.Wd X.a0 Q 1 := by
  intro γ listed a w o hF hC hW h1 ho h2
  obtain ⟨hd, hop, hg⟩ := fields2 (x := some 31) (y := Op.call { callee := .value (.func 42), args := #[(.tmp 30)], argTypes := #[65] }) (z := none) (by kernel_rfl) ho
  have e30 : a.eval (.tmp 30) = .agg #[.int .i64 X.p.w, .int .i64 X.p.h, X.va] := slotH hF ho h2 (j := 0) (d := 30) (by kernel_rfl) (by kernel_rfl) (by rw [ok.sz]; decide)
  have ef : a.eval (.func 42) = .func (.func 42) #[] #[] := rfl
  have hu := unl (hF.lt ho) h1
  refine st_actH (k := 0) (ps := []) PMA.nodup rfl (by kernel_rfl) hF hC h1 ho h2 (Or.inr ⟨31, hd, rfl, fun _ => rfl⟩) hg ?_
  intro K hK
  have hr : (execOp a.eval o).run Try.prog w = .ok (.enter 42 #[.agg #[.int .i64 X.p.w, .int .i64 X.p.h, X.va]]) w := by
    generalize a.eval = ρ at e30 ef ⊢
    unfold execOp
    rw [hop]
    simp [e30, ef, go_sem]
  unfold Oper.wp
  rw [hr]
  refine Calls.mono (ok.cc0 w hW.nw) ?_
  rintro e w' ⟨u, rfl, hc, k1⟩
  exact hK _ _ (RcX.Wd.copy ok.rok hW k1 (by show 0 < 3; decide) hc)
theorem PMA.s2 (X : PMA) (ok : PMAOk X) {Q : Exit → Act → World → Prop} : StepH (opsOf 8 Try.f12) PMA.acts PMA.av PMA.ext X.val0 X.rc.Wd X.a0 Q 2 := by
  intro γ listed a w o hF hC hW h1 ho h2
  obtain ⟨hd, hop, hg⟩ := fields2 (x := some 32) (y := Op.load 72 (.tmp 4)) (z := none) (by kernel_rfl) ho
  have e4 : a.eval (.tmp 4) = .pointer (some ⟨X.b1, 0, none⟩) := (hF.eval0 (by kernel_rfl)).trans ok.e4
  have hc0 := ((bcell hW.nw).1 _ _ (World.block_lt_of_cell? X.W ⟨_, _, none⟩ ok.b0c)).trans ok.b0c
  have hc1 := ((bcell hW.nw).1 _ _ (World.block_lt_of_cell? X.W ⟨_, _, none⟩ ok.b1c)).trans ok.b1c
  have hc2 := ((bcell hW.nw).1 _ _ (World.block_lt_of_cell? X.W ⟨_, _, none⟩ ok.b2c)).trans ok.b2c
  refine st_pureH hF hC hW ho h2 (by decide) hd hg ?_
  show _ = Result.ok (Next.value (.agg #[.int .i64 X.q.w, .int .i64 X.q.h, X.vb])) w
  generalize a.eval = ρ at e4 ⊢
  unfold execOp
  rw [hop]
  simp [e4, hc0, hc1, hc2, go_sem]
theorem PMA.s3 (X : PMA) (ok : PMAOk X) {Q : Exit → Act → World → Prop} : StepH (opsOf 8 Try.f12) PMA.acts PMA.av PMA.ext X.val0 X.rc.Wd X.a0 Q 3 := by
  intro γ listed a w o hF hC hW h1 ho h2
  obtain ⟨hd, hop, hg⟩ := fields2 (x := some 33) (y := Op.call { callee := .value (.func 46), args := #[(.tmp 32)], argTypes := #[72] }) (z := none) (by kernel_rfl) ho
  have e32 : a.eval (.tmp 32) = .agg #[.int .i64 X.q.w, .int .i64 X.q.h, X.vb] := slotH hF ho h2 (j := 2) (d := 32) (by kernel_rfl) (by kernel_rfl) (by rw [ok.sz]; decide)
  have ef : a.eval (.func 46) = .func (.func 46) #[] #[] := rfl
  have hu := unl (hF.lt ho) h1
  refine st_actH (k := 1) (ps := []) PMA.nodup rfl (by kernel_rfl) hF hC h1 ho h2 (Or.inr ⟨33, hd, rfl, fun _ => rfl⟩) hg ?_
  intro K hK
  have hr : (execOp a.eval o).run Try.prog w = .ok (.enter 46 #[.agg #[.int .i64 X.q.w, .int .i64 X.q.h, X.vb]]) w := by
    generalize a.eval = ρ at e32 ef ⊢
    unfold execOp
    rw [hop]
    simp [e32, ef, go_sem]
  unfold Oper.wp
  rw [hr]
  refine Calls.mono (ok.cc1 w hW.nw) ?_
  rintro e w' ⟨u, rfl, hc, k1⟩
  exact hK _ _ (RcX.Wd.copy ok.rok hW k1 (by show 1 < 3; decide) hc)
theorem PMA.s4 (X : PMA) (ok : PMAOk X) {Q : Exit → Act → World → Prop} : StepH (opsOf 8 Try.f12) PMA.acts PMA.av PMA.ext X.val0 X.rc.Wd X.a0 Q 4 := by
  intro γ listed a w o hF hC hW h1 ho h2
  obtain ⟨hd, hop, hg⟩ := fields2 (x := some 34) (y := Op.load 35 (.tmp 5)) (z := none) (by kernel_rfl) ho
  have e5 : a.eval (.tmp 5) = .pointer (some ⟨X.b2, 0, none⟩) := (hF.eval0 (by kernel_rfl)).trans ok.e5
  have hc0 := ((bcell hW.nw).1 _ _ (World.block_lt_of_cell? X.W ⟨_, _, none⟩ ok.t0c)).trans ok.t0c
  have hc1 := ((bcell hW.nw).1 _ _ (World.block_lt_of_cell? X.W ⟨_, _, none⟩ ok.t1c)).trans ok.t1c
  have hc2 := ((bcell hW.nw).1 _ _ (World.block_lt_of_cell? X.W ⟨_, _, none⟩ ok.t2c)).trans ok.t2c
  have hc3 := ((bcell hW.nw).1 _ _ (World.block_lt_of_cell? X.W ⟨_, _, none⟩ ok.t3c)).trans ok.t3c
  refine st_pureH hF hC hW ho h2 (by decide) hd hg ?_
  show _ = Result.ok (Next.value (.agg #[.int .i64 X.tr, .int .i64 X.tg, .int .i64 X.tb, .int .i64 X.ta])) w
  generalize a.eval = ρ at e5 ⊢
  unfold execOp
  rw [hop]
  simp [e5, hc0, hc1, hc2, hc3, go_sem]
theorem PMA.s5 (X : PMA) (ok : PMAOk X) {Q : Exit → Act → World → Prop} : StepH (opsOf 8 Try.f12) PMA.acts PMA.av PMA.ext X.val0 X.rc.Wd X.a0 Q 5 := by
  intro γ listed a w o hF hC hW h1 ho h2
  obtain ⟨hd, hop, hg⟩ := fields2 (x := some 35) (y := Op.call { callee := .value (.func 23), args := #[(.tmp 34)], argTypes := #[35] }) (z := none) (by kernel_rfl) ho
  have e34 : a.eval (.tmp 34) = .agg #[.int .i64 X.tr, .int .i64 X.tg, .int .i64 X.tb, .int .i64 X.ta] := slotH hF ho h2 (j := 4) (d := 34) (by kernel_rfl) (by kernel_rfl) (by rw [ok.sz]; decide)
  have ef : a.eval (.func 23) = .func (.func 23) #[] #[] := rfl
  have hu := unl (hF.lt ho) h1
  refine st_actH (k := 2) (ps := []) PMA.nodup rfl (by kernel_rfl) hF hC h1 ho h2 (Or.inr ⟨35, hd, rfl, fun _ => rfl⟩) hg ?_
  intro K hK
  have hr : (execOp a.eval o).run Try.prog w = .ok (.enter 23 #[.agg #[.int .i64 X.tr, .int .i64 X.tg, .int .i64 X.tb, .int .i64 X.ta]]) w := by
    generalize a.eval = ρ at e34 ef ⊢
    unfold execOp
    rw [hop]
    simp [e34, ef, go_sem]
  unfold Oper.wp
  rw [hr]
  refine Calls.mono (ok.cc2 w hW.nw) ?_
  rintro e w' ⟨u, rfl, hc, k1⟩
  exact hK _ _ (RcX.Wd.copy ok.rok hW k1 (by show 2 < 3; decide) hc)
theorem PMA.s6 (X : PMA) (ok : PMAOk X) {Q : Exit → Act → World → Prop} : StepH (opsOf 8 Try.f12) PMA.acts PMA.av PMA.ext X.val0 X.rc.Wd X.a0 Q 6 := by
  intro γ listed a w o hF hC hW h1 ho h2
  obtain ⟨hd, hop, hg⟩ := fields2 (x := some 36) (y := Op.call { callee := .value (.func 45), args := #[(.tmp 31), (.tmp 33), (.tmp 35)], argTypes := #[57, 75, 24] }) (z := none) (by kernel_rfl) ho
  have e31 : a.eval (.tmp 31) = γ 0 := slotH hF ho h2 (j := 1) (d := 31) (by kernel_rfl) (by kernel_rfl) (by rw [ok.sz]; decide)
  have e33 : a.eval (.tmp 33) = γ 1 := slotH hF ho h2 (j := 3) (d := 33) (by kernel_rfl) (by kernel_rfl) (by rw [ok.sz]; decide)
  have e35 : a.eval (.tmp 35) = γ 2 := slotH hF ho h2 (j := 5) (d := 35) (by kernel_rfl) (by kernel_rfl) (by rw [ok.sz]; decide)
  have ef : a.eval (.func 45) = .func (.func 45) #[] #[] := rfl
  have hu := unl (hF.lt ho) h1
  have hy0 : upOf listed PMA.acts 0 = true := up_yes hC ho h2 (j := 1) rfl [1] (by kernel_rfl) (by decide)
  have hy1 : upOf listed PMA.acts 1 = true := up_yes hC ho h2 (j := 3) rfl [3] (by kernel_rfl) (by decide)
  have hy2 : upOf listed PMA.acts 2 = true := up_yes hC ho h2 (j := 5) rfl [5] (by kernel_rfl) (by decide)
  have hno : upOf listed PMA.acts 5 = false := up_no hC hu rfl [8, 7, 6] (by kernel_rfl) (by decide)
  have hself : upOf listed PMA.acts 3 = false := up_self rfl hu
  refine st_actH (k := 3) (ps := [[7, 6], [8, 7, 6], [9, 7, 6], [12, 9, 7, 6]]) PMA.nodup rfl (by kernel_rfl) hF hC h1 ho h2 (Or.inr ⟨36, hd, rfl, fun _ => rfl⟩) hg ?_
  intro K hK
  have hr : (execOp a.eval o).run Try.prog w = .ok (.enter 45 #[γ 0, γ 1, γ 2]) w := by
    generalize a.eval = ρ at e31 e33 e35 ef ⊢
    unfold execOp
    rw [hop]
    simp [e31, e33, e35, ef, go_sem]
  unfold Oper.wp
  rw [hr]
  refine Calls.mono (ok.mm w (γ 0) (γ 1) (γ 2) hW.nw (hW.cp 0 (by show 0 < 3; decide) hy0 hself) (hW.cp 1 (by show 1 < 3; decide) hy1 hself) (hW.cp 2 (by show 2 < 3; decide) hy2 hself)) ?_
  rintro e w' ⟨r, b, rfl, hR, k1⟩
  exact hK _ _ (RcX.Wd.main ok.rok hW k1 hno hR)
theorem PMA.s7 (X : PMA) (ok : PMAOk X) {Q : Exit → Act → World → Prop} : StepH (opsOf 8 Try.f12) PMA.acts PMA.av PMA.ext X.val0 X.rc.Wd X.a0 Q 7 := by
  intro γ listed a w o hF hC hW h1 ho h2
  obtain ⟨hd, hop, hg⟩ := fields2 (x := some 29) (y := Op.move (.tmp 36)) (z := none) (by kernel_rfl) ho
  have e36 : a.eval (.tmp 36) = γ 3 := slotH hF ho h2 (j := 6) (d := 36) (by kernel_rfl) (by kernel_rfl) (by rw [ok.sz]; decide)
  refine st_pureH hF hC hW ho h2 (by decide) hd hg ?_
  show _ = Result.ok (Next.value (γ 3)) w
  generalize a.eval = ρ at e36 ⊢
  unfold execOp
  rw [hop]
  simp [e36, go_sem]
theorem PMA.s8 (X : PMA) (ok : PMAOk X) {Q : Exit → Act → World → Prop} : StepH (opsOf 8 Try.f12) PMA.acts PMA.av PMA.ext X.val0 X.rc.Wd X.a0 Q 8 := by
  intro γ listed a w o hF hC hW h1 ho h2
  obtain ⟨hd, hop, hg⟩ := fields2 (x := some 37) (y := Op.extract (.tmp 29) 0) (z := none) (by kernel_rfl) ho
  have e29 : a.eval (.tmp 29) = γ 3 := slotH hF ho h2 (j := 7) (d := 29) (by kernel_rfl) (by kernel_rfl) (by rw [ok.sz]; decide)
  have hy : upOf listed PMA.acts 3 = true := up_yes hC ho h2 (j := 6) rfl [7, 6] (by kernel_rfl) (by decide)
  obtain ⟨r, b, _, _, g1, _⟩ := hW.ans hy
  replace g1 : γ 3 = .tuple #[r, b] := g1
  rw [g1] at e29
  refine st_pureH hF hC hW ho h2 (by decide) hd hg ?_
  show _ = Result.ok (Next.value (tupAt (γ 3) 0)) w
  rw [g1]
  generalize a.eval = ρ at e29 ⊢
  unfold execOp
  rw [hop]
  simp [e29, tupAt, go_sem]
theorem PMA.s9 (X : PMA) (ok : PMAOk X) {Q : Exit → Act → World → Prop} : StepH (opsOf 8 Try.f12) PMA.acts PMA.av PMA.ext X.val0 X.rc.Wd X.a0 Q 9 := by
  intro γ listed a w o hF hC hW h1 ho h2
  obtain ⟨hd, hop, hg⟩ := fields2 (x := some 38) (y := Op.extract (.tmp 29) 1) (z := none) (by kernel_rfl) ho
  have e29 : a.eval (.tmp 29) = γ 3 := slotH hF ho h2 (j := 7) (d := 29) (by kernel_rfl) (by kernel_rfl) (by rw [ok.sz]; decide)
  have hy : upOf listed PMA.acts 3 = true := up_yes hC ho h2 (j := 6) rfl [7, 6] (by kernel_rfl) (by decide)
  obtain ⟨r, b, _, _, g1, _⟩ := hW.ans hy
  replace g1 : γ 3 = .tuple #[r, b] := g1
  rw [g1] at e29
  refine st_pureH hF hC hW ho h2 (by decide) hd hg ?_
  show _ = Result.ok (Next.value (tupAt (γ 3) 1)) w
  rw [g1]
  generalize a.eval = ρ at e29 ⊢
  unfold execOp
  rw [hop]
  simp [e29, tupAt, go_sem]
theorem PMA.s10 (X : PMA) (ok : PMAOk X) {Q : Exit → Act → World → Prop} : StepH (opsOf 8 Try.f12) PMA.acts PMA.av PMA.ext X.val0 X.rc.Wd X.a0 Q 10 := by
  intro γ listed a w o hF hC hW h1 ho h2
  obtain ⟨hd, hop, hg⟩ := fields2 (x := some 8) (y := Op.alloc 57) (z := none) (by kernel_rfl) ho
  have hu := unl (hF.lt ho) h1
  have hno : upOf listed PMA.acts 5 = false := up_no hC hu rfl [10] (by kernel_rfl) (by decide)
  refine st_actH (k := 4) (ps := []) PMA.nodup rfl (by kernel_rfl) hF hC h1 ho h2 (Or.inr ⟨8, hd, rfl, fun _ => rfl⟩) hg ?_
  intro K hK
  have hr : (execOp a.eval o).run Try.prog w = .ok (.value (.pointer (some ⟨w.heap.size, 0, none⟩))) (w.alloc (.cells #[.int .i64 0, .int .i64 0, .slice none 0 0] 57)) := by
    unfold execOp
    rw [hop]
    simp [go_sem]
  unfold Oper.wp
  rw [hr]
  exact hK _ _ (RcX.Wd.alloc ok.rok hW hno #[.int .i64 0, .int .i64 0, .slice none 0 0] 57 rfl)
theorem PMA.s11 (X : PMA) (ok : PMAOk X) {Q : Exit → Act → World → Prop} : StepH (opsOf 8 Try.f12) PMA.acts PMA.av PMA.ext X.val0 X.rc.Wd X.a0 Q 11 := by
  intro γ listed a w o hF hC hW h1 ho h2
  obtain ⟨hd, hop, hg⟩ := fields2 (x := none) (y := Op.store 57 (.tmp 8) (.tmp 37)) (z := none) (by kernel_rfl) ho
  have e8 : a.eval (.tmp 8) = γ 4 := slotH hF ho h2 (j := 10) (d := 8) (by kernel_rfl) (by kernel_rfl) (by rw [ok.sz]; decide)
  have e37 : a.eval (.tmp 37) = tupAt (γ 3) 0 := slotH hF ho h2 (j := 8) (d := 37) (by kernel_rfl) (by kernel_rfl) (by rw [ok.sz]; decide)
  have hu := unl (hF.lt ho) h1
  have hs1 : upOf listed PMA.acts 3 = true := up_yes hC ho h2 (j := 6) rfl [8, 7, 6] (by kernel_rfl) (by decide)
  have hs2 : upOf listed PMA.acts 4 = true := up_yes hC ho h2 (j := 10) rfl [10] (by kernel_rfl) (by decide)
  refine st_actH (k := 5) (ps := []) PMA.nodup rfl (by kernel_rfl) hF hC h1 ho h2 (Or.inl hd) hg ?_
  intro K hK
  obtain ⟨r, b, B, w0, g1, _, g3, _⟩ := hW.ans hs1
  replace g1 : γ 3 = .tuple #[r, b] := g1
  obtain ⟨x, y, sa, sn, sc, rfl⟩ := ok.form _ _ _ _ g3
  obtain ⟨bx, p1, _, _, p4, p5⟩ := hW.box hs2
  replace p1 : γ 4 = .pointer (some ⟨bx, 0, none⟩) := p1
  rw [p1] at e8
  rw [g1] at e37
  replace e37 : a.eval (.tmp 37) = .agg #[.int .i64 x, .int .i64 y, .slice sa sn sc] := e37
  obtain ⟨z0, y0⟩ := p4 0 (by show 0 < 3; decide)
  obtain ⟨z1, y1⟩ := p4 1 (by show 1 < 3; decide)
  obtain ⟨z2, y2⟩ := p4 2 (by show 2 < 3; decide)
  have hr : (execOp a.eval o).run Try.prog w = .ok .skip (((w.setCell ⟨bx, 0, none⟩ (.int .i64 x)).setCell ⟨bx, 1, none⟩ (.int .i64 y)).setCell ⟨bx, 2, none⟩ (.slice sa sn sc)) := by
    generalize a.eval = ρ at e8 e37 ⊢
    unfold execOp
    rw [hop]
    simp [e8, e37, y0, y1, y2, p5, go_sem]
  unfold Oper.wp
  rw [hr]
  have hst := fun u => RcX.Wd.store ok.rok hW hs1 hs2 p1 g1 u
  have hcs : (Value.agg #[.int .i64 x, .int .i64 y, .slice sa sn sc]).cells.toList = [.int .i64 x, .int .i64 y, .slice sa sn sc] := rfl
  rw [hcs] at hst
  exact hK _ _ (hst _)
theorem PMA.s12 (X : PMA) (ok : PMAOk X) {Q : Exit → Act → World → Prop} : StepH (opsOf 8 Try.f12) PMA.acts PMA.av PMA.ext X.val0 X.rc.Wd X.a0 Q 12 := by
  intro γ listed a w o hF hC hW h1 ho h2
  obtain ⟨hd, hop, hg⟩ := fields2 (x := some 9) (y := Op.assign (.tmp 38)) (z := none) (by kernel_rfl) ho
  have e38 : a.eval (.tmp 38) = tupAt (γ 3) 1 := slotH hF ho h2 (j := 9) (d := 38) (by kernel_rfl) (by kernel_rfl) (by rw [ok.sz]; decide)
  refine st_pureH hF hC hW ho h2 (by decide) hd hg ?_
  show _ = Result.ok (Next.value (tupAt (γ 3) 1)) w
  generalize a.eval = ρ at e38 ⊢
  unfold execOp
  rw [hop]
  simp [e38, go_sem]
theorem PMA.size : (opsOf 8 Try.f12).size = 13 := by kernel_rfl
theorem PMA.steps (X : PMA) (ok : PMAOk X) {Q : Exit → Act → World → Prop} (i : Nat) (hi : i < (opsOf 8 Try.f12).size) : StepH (opsOf 8 Try.f12) PMA.acts PMA.av PMA.ext X.val0 X.rc.Wd X.a0 Q i := by
  rw [PMA.size] at hi
  have hc : i = 0 ∨ i = 1 ∨ i = 2 ∨ i = 3 ∨ i = 4 ∨ i = 5 ∨ i = 6 ∨ i = 7 ∨ i = 8 ∨ i = 9 ∨ i = 10 ∨ i = 11 ∨ i = 12 := by omega
  rcases hc with rfl | rfl | rfl | rfl | rfl | rfl | rfl | rfl | rfl | rfl | rfl | rfl | rfl
  · exact PMA.s0 X ok
  · exact PMA.s1 X ok
  · exact PMA.s2 X ok
  · exact PMA.s3 X ok
  · exact PMA.s4 X ok
  · exact PMA.s5 X ok
  · exact PMA.s6 X ok
  · exact PMA.s7 X ok
  · exact PMA.s8 X ok
  · exact PMA.s9 X ok
  · exact PMA.s10 X ok
  · exact PMA.s11 X ok
  · exact PMA.s12 X ok
theorem PMA.puts (X : PMA) (γ : Nat → Value) (a0 : Act) : putsL (valH PMA.av PMA.ext X.val0 γ) (opsOf 8 Try.f12).toList a0 = ((((((((((((a0.put (some 30) (.agg #[.int .i64 X.p.w, .int .i64 X.p.h, X.va])).put (some 31) (γ 0)).put (some 32) (.agg #[.int .i64 X.q.w, .int .i64 X.q.h, X.vb])).put (some 33) (γ 1)).put (some 34) (.agg #[.int .i64 X.tr, .int .i64 X.tg, .int .i64 X.tb, .int .i64 X.ta])).put (some 35) (γ 2)).put (some 36) (γ 3)).put (some 29) (γ 3)).put (some 37) (tupAt (γ 3) 0)).put (some 38) (tupAt (γ 3) 1)).put (some 8) (γ 4)).put (some 9) (tupAt (γ 3) 1)) := by kernel_rfl
/-- The region, whatever order comes up. -/
theorem PMA.run (X : PMA) (ok : PMAOk X) {Q : Exit → Act → World → Prop} (w : World) (h0 : Nw X.W w.drew)
    (hend : ∀ (γ : Nat → Value) w' bx r b B w0, γ 4 = .pointer (some ⟨bx, 0, none⟩) → γ 3 = .tuple #[r, b] → Nw X.W w' → X.W.heap.size ≤ bx → bx < w'.heap.size → (∀ o, w'.frozen? ⟨bx, o, none⟩ = false) → (∀ j, j < 3 → w'.cell? ⟨bx, j, none⟩ = r.cells[j]?) → X.W.heap.size ≤ B → X.R B w0 r b → Nw w0 w' → (bx < B ∨ w0.heap.size ≤ bx) → Q .normal ((((((((((((X.a0.put (some 30) (.agg #[.int .i64 X.p.w, .int .i64 X.p.h, X.va])).put (some 31) (γ 0)).put (some 32) (.agg #[.int .i64 X.q.w, .int .i64 X.q.h, X.vb])).put (some 33) (γ 1)).put (some 34) (.agg #[.int .i64 X.tr, .int .i64 X.tg, .int .i64 X.tb, .int .i64 X.ta])).put (some 35) (γ 2)).put (some 36) (γ 3)).put (some 29) (γ 3)).put (some 37) (tupAt (γ 3) 0)).put (some 38) (tupAt (γ 3) 1)).put (some 8) (γ 4)).put (some 9) (tupAt (γ 3) 1)) w') : (Code.region 8 (opsOf 8 Try.f12) true).wp Try.prog Q X.a0 w := by
  refine reg_actH (acts := PMA.acts) (av := PMA.av) (ext := PMA.ext) (val0 := X.val0) (Wd := X.rc.Wd) (by kernel_rfl) (by kernel_rfl) (by rw [PMA.size]; decide) (fun i hi => PMA.steps X ok i hi) (fun _ => undef) (RcX.Wd.start X.rc _ _ h0) ?_
  intro S γ w' hS h
  rw [PMA.puts]
  obtain ⟨bx, r, b, B, w0, f1, f2, f3, f4, f5, f6, f7, f8, f9, f10, f11⟩ := h.fin ok.rok hS
  exact hend γ w' bx r b B w0 f1 f2 f3 f4 f5 f6 f7 f8 f9 f10 f11
structure PMZ where
  b0 : Nat
  b1 : Nat
  b2 : Nat
  p : MD
  q : MD
  va : Value
  vb : Value
  tr : Int
  tg : Int
  tb : Int
  ta : Int
  C : Nat → World → Value → Prop
  R : Nat → World → Value → Value → Prop
  W : World
  a0 : Act
def PMZ.rc (X : PMZ) : RcX := ⟨3, 3, X.W, X.C, X.R⟩
structure PMZOk (X : PMZ) : Prop where
  a0c : X.W.cell? ⟨X.b0, 0, none⟩ = some (.int .i64 X.p.w)
  a1c : X.W.cell? ⟨X.b0, 1, none⟩ = some (.int .i64 X.p.h)
  a2c : X.W.cell? ⟨X.b0, 2, none⟩ = some (X.va)
  b0c : X.W.cell? ⟨X.b1, 0, none⟩ = some (.int .i64 X.q.w)
  b1c : X.W.cell? ⟨X.b1, 1, none⟩ = some (.int .i64 X.q.h)
  b2c : X.W.cell? ⟨X.b1, 2, none⟩ = some (X.vb)
  t0c : X.W.cell? ⟨X.b2, 0, none⟩ = some (.int .i64 X.tr)
  t1c : X.W.cell? ⟨X.b2, 1, none⟩ = some (.int .i64 X.tg)
  t2c : X.W.cell? ⟨X.b2, 2, none⟩ = some (.int .i64 X.tb)
  t3c : X.W.cell? ⟨X.b2, 3, none⟩ = some (.int .i64 X.ta)
  rok : X.rc.Ok
  cc0 : ∀ w, Nw X.W w → Calls Try.prog 42 #[.agg #[.int .i64 X.p.w, .int .i64 X.p.h, X.va]] w fun e w' => ∃ u, e = .returned u ∧ X.C 0 w' u ∧ Nw w w'
  cc1 : ∀ w, Nw X.W w → Calls Try.prog 46 #[.agg #[.int .i64 X.q.w, .int .i64 X.q.h, X.vb]] w fun e w' => ∃ u, e = .returned u ∧ X.C 1 w' u ∧ Nw w w'
  cc2 : ∀ w, Nw X.W w → Calls Try.prog 23 #[.agg #[.int .i64 X.tr, .int .i64 X.tg, .int .i64 X.tb, .int .i64 X.ta]] w fun e w' => ∃ u, e = .returned u ∧ X.C 2 w' u ∧ Nw w w'
  mm : ∀ w u0 u1 u2, Nw X.W w → X.C 0 w u0 → X.C 1 w u1 → X.C 2 w u2 → Calls Try.prog 47 #[u0, u1, u2] w fun e w' => ∃ r b, e = .returned (.tuple #[r, b]) ∧ X.R w.heap.size w' r b ∧ Nw w w'
  form : ∀ B w r b, X.R B w r b → ∃ x y sa sn sc, r = .agg #[.int .i64 x, .int .i64 y, .slice sa sn sc]
  e3 : X.a0.eval (.tmp 3) = .pointer (some ⟨X.b0, 0, none⟩)
  e4 : X.a0.eval (.tmp 4) = .pointer (some ⟨X.b1, 0, none⟩)
  e5 : X.a0.eval (.tmp 5) = .pointer (some ⟨X.b2, 0, none⟩)
  sz : X.a0.tmps.size = 127
def PMZ.val0 (X : PMZ) : Nat → Value
  | 101 => .agg #[.int .i64 X.p.w, .int .i64 X.p.h, X.va]
  | 103 => .agg #[.int .i64 X.q.w, .int .i64 X.q.h, X.vb]
  | 105 => .agg #[.int .i64 X.tr, .int .i64 X.tg, .int .i64 X.tb, .int .i64 X.ta]
  | _ => undef
def PMZ.av : Nat → Option Nat
  | 17 => some 4
  | 18 => some 3
  | 100 => some 3
  | 102 => some 0
  | 104 => some 1
  | 106 => some 2
  | 107 => some 3
  | 108 => some 3
  | 109 => some 3
  | _ => none
def PMZ.ext : Nat → Value → Value
  | 18 => fun u => tupAt u 1
  | 108 => fun u => tupAt u 0
  | 109 => fun u => tupAt u 1
  | _ => fun u => u
def PMZ.acts : List Nat := [1, 3, 5, 6, 10, 11]
theorem PMZ.nodup : PMZ.acts.Nodup := by decide
theorem PMZ.s0 (X : PMZ) (ok : PMZOk X) {Q : Exit → Act → World → Prop} : StepH (opsOf 31 Try.f12) PMZ.acts PMZ.av PMZ.ext X.val0 X.rc.Wd X.a0 Q 0 := by
  intro γ listed a w o hF hC hW h1 ho h2
  obtain ⟨hd, hop, hg⟩ := fields2 (x := some 101) (y := Op.load 65 (.tmp 3)) (z := none) (by kernel_rfl) ho
  have e3 : a.eval (.tmp 3) = .pointer (some ⟨X.b0, 0, none⟩) := (hF.eval0 (by kernel_rfl)).trans ok.e3
  have hc0 := ((bcell hW.nw).1 _ _ (World.block_lt_of_cell? X.W ⟨_, _, none⟩ ok.a0c)).trans ok.a0c
  have hc1 := ((bcell hW.nw).1 _ _ (World.block_lt_of_cell? X.W ⟨_, _, none⟩ ok.a1c)).trans ok.a1c
  have hc2 := ((bcell hW.nw).1 _ _ (World.block_lt_of_cell? X.W ⟨_, _, none⟩ ok.a2c)).trans ok.a2c
  refine st_pureH hF hC hW ho h2 (by decide) hd hg ?_
  show _ = Result.ok (Next.value (.agg #[.int .i64 X.p.w, .int .i64 X.p.h, X.va])) w
  generalize a.eval = ρ at e3 ⊢
  unfold execOp
  rw [hop]
  simp [e3, hc0, hc1, hc2, go_sem]
theorem PMZ.s1 (X : PMZ) (ok : PMZOk X) {Q : Exit → Act → World → Prop} : StepH (opsOf 31 Try.f12) PMZ.acts PMZ.av PMZ.ext X.val0 X.rc.Wd X.a0 Q 1 := by
  intro γ listed a w o hF hC hW h1 ho h2
  obtain ⟨hd, hop, hg⟩ := fields2 (x := some 102) (y := Op.call { callee := .value (.func 42), args := #[(.tmp 101)], argTypes := #[65] }) (z := none) (by kernel_rfl) ho
  have e101 : a.eval (.tmp 101) = .agg #[.int .i64 X.p.w, .int .i64 X.p.h, X.va] := slotH hF ho h2 (j := 0) (d := 101) (by kernel_rfl) (by kernel_rfl) (by rw [ok.sz]; decide)
  have ef : a.eval (.func 42) = .func (.func 42) #[] #[] := rfl
  have hu := unl (hF.lt ho) h1
  refine st_actH (k := 0) (ps := []) PMZ.nodup rfl (by kernel_rfl) hF hC h1 ho h2 (Or.inr ⟨102, hd, rfl, fun _ => rfl⟩) hg ?_
  intro K hK
  have hr : (execOp a.eval o).run Try.prog w = .ok (.enter 42 #[.agg #[.int .i64 X.p.w, .int .i64 X.p.h, X.va]]) w := by
    generalize a.eval = ρ at e101 ef ⊢
    unfold execOp
    rw [hop]
    simp [e101, ef, go_sem]
  unfold Oper.wp
  rw [hr]
  refine Calls.mono (ok.cc0 w hW.nw) ?_
  rintro e w' ⟨u, rfl, hc, k1⟩
  exact hK _ _ (RcX.Wd.copy ok.rok hW k1 (by show 0 < 3; decide) hc)
theorem PMZ.s2 (X : PMZ) (ok : PMZOk X) {Q : Exit → Act → World → Prop} : StepH (opsOf 31 Try.f12) PMZ.acts PMZ.av PMZ.ext X.val0 X.rc.Wd X.a0 Q 2 := by
  intro γ listed a w o hF hC hW h1 ho h2
  obtain ⟨hd, hop, hg⟩ := fields2 (x := some 103) (y := Op.load 72 (.tmp 4)) (z := none) (by kernel_rfl) ho
  have e4 : a.eval (.tmp 4) = .pointer (some ⟨X.b1, 0, none⟩) := (hF.eval0 (by kernel_rfl)).trans ok.e4
  have hc0 := ((bcell hW.nw).1 _ _ (World.block_lt_of_cell? X.W ⟨_, _, none⟩ ok.b0c)).trans ok.b0c
  have hc1 := ((bcell hW.nw).1 _ _ (World.block_lt_of_cell? X.W ⟨_, _, none⟩ ok.b1c)).trans ok.b1c
  have hc2 := ((bcell hW.nw).1 _ _ (World.block_lt_of_cell? X.W ⟨_, _, none⟩ ok.b2c)).trans ok.b2c
  refine st_pureH hF hC hW ho h2 (by decide) hd hg ?_
  show _ = Result.ok (Next.value (.agg #[.int .i64 X.q.w, .int .i64 X.q.h, X.vb])) w
  generalize a.eval = ρ at e4 ⊢
  unfold execOp
  rw [hop]
  simp [e4, hc0, hc1, hc2, go_sem]
theorem PMZ.s3 (X : PMZ) (ok : PMZOk X) {Q : Exit → Act → World → Prop} : StepH (opsOf 31 Try.f12) PMZ.acts PMZ.av PMZ.ext X.val0 X.rc.Wd X.a0 Q 3 := by
  intro γ listed a w o hF hC hW h1 ho h2
  obtain ⟨hd, hop, hg⟩ := fields2 (x := some 104) (y := Op.call { callee := .value (.func 46), args := #[(.tmp 103)], argTypes := #[72] }) (z := none) (by kernel_rfl) ho
  have e103 : a.eval (.tmp 103) = .agg #[.int .i64 X.q.w, .int .i64 X.q.h, X.vb] := slotH hF ho h2 (j := 2) (d := 103) (by kernel_rfl) (by kernel_rfl) (by rw [ok.sz]; decide)
  have ef : a.eval (.func 46) = .func (.func 46) #[] #[] := rfl
  have hu := unl (hF.lt ho) h1
  refine st_actH (k := 1) (ps := []) PMZ.nodup rfl (by kernel_rfl) hF hC h1 ho h2 (Or.inr ⟨104, hd, rfl, fun _ => rfl⟩) hg ?_
  intro K hK
  have hr : (execOp a.eval o).run Try.prog w = .ok (.enter 46 #[.agg #[.int .i64 X.q.w, .int .i64 X.q.h, X.vb]]) w := by
    generalize a.eval = ρ at e103 ef ⊢
    unfold execOp
    rw [hop]
    simp [e103, ef, go_sem]
  unfold Oper.wp
  rw [hr]
  refine Calls.mono (ok.cc1 w hW.nw) ?_
  rintro e w' ⟨u, rfl, hc, k1⟩
  exact hK _ _ (RcX.Wd.copy ok.rok hW k1 (by show 1 < 3; decide) hc)
theorem PMZ.s4 (X : PMZ) (ok : PMZOk X) {Q : Exit → Act → World → Prop} : StepH (opsOf 31 Try.f12) PMZ.acts PMZ.av PMZ.ext X.val0 X.rc.Wd X.a0 Q 4 := by
  intro γ listed a w o hF hC hW h1 ho h2
  obtain ⟨hd, hop, hg⟩ := fields2 (x := some 105) (y := Op.load 35 (.tmp 5)) (z := none) (by kernel_rfl) ho
  have e5 : a.eval (.tmp 5) = .pointer (some ⟨X.b2, 0, none⟩) := (hF.eval0 (by kernel_rfl)).trans ok.e5
  have hc0 := ((bcell hW.nw).1 _ _ (World.block_lt_of_cell? X.W ⟨_, _, none⟩ ok.t0c)).trans ok.t0c
  have hc1 := ((bcell hW.nw).1 _ _ (World.block_lt_of_cell? X.W ⟨_, _, none⟩ ok.t1c)).trans ok.t1c
  have hc2 := ((bcell hW.nw).1 _ _ (World.block_lt_of_cell? X.W ⟨_, _, none⟩ ok.t2c)).trans ok.t2c
  have hc3 := ((bcell hW.nw).1 _ _ (World.block_lt_of_cell? X.W ⟨_, _, none⟩ ok.t3c)).trans ok.t3c
  refine st_pureH hF hC hW ho h2 (by decide) hd hg ?_
  show _ = Result.ok (Next.value (.agg #[.int .i64 X.tr, .int .i64 X.tg, .int .i64 X.tb, .int .i64 X.ta])) w
  generalize a.eval = ρ at e5 ⊢
  unfold execOp
  rw [hop]
  simp [e5, hc0, hc1, hc2, hc3, go_sem]
theorem PMZ.s5 (X : PMZ) (ok : PMZOk X) {Q : Exit → Act → World → Prop} : StepH (opsOf 31 Try.f12) PMZ.acts PMZ.av PMZ.ext X.val0 X.rc.Wd X.a0 Q 5 := by
  intro γ listed a w o hF hC hW h1 ho h2
  obtain ⟨hd, hop, hg⟩ := fields2 (x := some 106) (y := Op.call { callee := .value (.func 23), args := #[(.tmp 105)], argTypes := #[35] }) (z := none) (by kernel_rfl) ho
  have e105 : a.eval (.tmp 105) = .agg #[.int .i64 X.tr, .int .i64 X.tg, .int .i64 X.tb, .int .i64 X.ta] := slotH hF ho h2 (j := 4) (d := 105) (by kernel_rfl) (by kernel_rfl) (by rw [ok.sz]; decide)
  have ef : a.eval (.func 23) = .func (.func 23) #[] #[] := rfl
  have hu := unl (hF.lt ho) h1
  refine st_actH (k := 2) (ps := []) PMZ.nodup rfl (by kernel_rfl) hF hC h1 ho h2 (Or.inr ⟨106, hd, rfl, fun _ => rfl⟩) hg ?_
  intro K hK
  have hr : (execOp a.eval o).run Try.prog w = .ok (.enter 23 #[.agg #[.int .i64 X.tr, .int .i64 X.tg, .int .i64 X.tb, .int .i64 X.ta]]) w := by
    generalize a.eval = ρ at e105 ef ⊢
    unfold execOp
    rw [hop]
    simp [e105, ef, go_sem]
  unfold Oper.wp
  rw [hr]
  refine Calls.mono (ok.cc2 w hW.nw) ?_
  rintro e w' ⟨u, rfl, hc, k1⟩
  exact hK _ _ (RcX.Wd.copy ok.rok hW k1 (by show 2 < 3; decide) hc)
theorem PMZ.s6 (X : PMZ) (ok : PMZOk X) {Q : Exit → Act → World → Prop} : StepH (opsOf 31 Try.f12) PMZ.acts PMZ.av PMZ.ext X.val0 X.rc.Wd X.a0 Q 6 := by
  intro γ listed a w o hF hC hW h1 ho h2
  obtain ⟨hd, hop, hg⟩ := fields2 (x := some 107) (y := Op.call { callee := .value (.func 47), args := #[(.tmp 102), (.tmp 104), (.tmp 106)], argTypes := #[57, 75, 24] }) (z := none) (by kernel_rfl) ho
  have e102 : a.eval (.tmp 102) = γ 0 := slotH hF ho h2 (j := 1) (d := 102) (by kernel_rfl) (by kernel_rfl) (by rw [ok.sz]; decide)
  have e104 : a.eval (.tmp 104) = γ 1 := slotH hF ho h2 (j := 3) (d := 104) (by kernel_rfl) (by kernel_rfl) (by rw [ok.sz]; decide)
  have e106 : a.eval (.tmp 106) = γ 2 := slotH hF ho h2 (j := 5) (d := 106) (by kernel_rfl) (by kernel_rfl) (by rw [ok.sz]; decide)
  have ef : a.eval (.func 47) = .func (.func 47) #[] #[] := rfl
  have hu := unl (hF.lt ho) h1
  have hy0 : upOf listed PMZ.acts 0 = true := up_yes hC ho h2 (j := 1) rfl [1] (by kernel_rfl) (by decide)
  have hy1 : upOf listed PMZ.acts 1 = true := up_yes hC ho h2 (j := 3) rfl [3] (by kernel_rfl) (by decide)
  have hy2 : upOf listed PMZ.acts 2 = true := up_yes hC ho h2 (j := 5) rfl [5] (by kernel_rfl) (by decide)
  have hno : upOf listed PMZ.acts 5 = false := up_no hC hu rfl [8, 7, 6] (by kernel_rfl) (by decide)
  have hself : upOf listed PMZ.acts 3 = false := up_self rfl hu
  refine st_actH (k := 3) (ps := [[7, 6], [8, 7, 6], [9, 7, 6], [12, 9, 7, 6]]) PMZ.nodup rfl (by kernel_rfl) hF hC h1 ho h2 (Or.inr ⟨107, hd, rfl, fun _ => rfl⟩) hg ?_
  intro K hK
  have hr : (execOp a.eval o).run Try.prog w = .ok (.enter 47 #[γ 0, γ 1, γ 2]) w := by
    generalize a.eval = ρ at e102 e104 e106 ef ⊢
    unfold execOp
    rw [hop]
    simp [e102, e104, e106, ef, go_sem]
  unfold Oper.wp
  rw [hr]
  refine Calls.mono (ok.mm w (γ 0) (γ 1) (γ 2) hW.nw (hW.cp 0 (by show 0 < 3; decide) hy0 hself) (hW.cp 1 (by show 1 < 3; decide) hy1 hself) (hW.cp 2 (by show 2 < 3; decide) hy2 hself)) ?_
  rintro e w' ⟨r, b, rfl, hR, k1⟩
  exact hK _ _ (RcX.Wd.main ok.rok hW k1 hno hR)
theorem PMZ.s7 (X : PMZ) (ok : PMZOk X) {Q : Exit → Act → World → Prop} : StepH (opsOf 31 Try.f12) PMZ.acts PMZ.av PMZ.ext X.val0 X.rc.Wd X.a0 Q 7 := by
  intro γ listed a w o hF hC hW h1 ho h2
  obtain ⟨hd, hop, hg⟩ := fields2 (x := some 100) (y := Op.move (.tmp 107)) (z := none) (by kernel_rfl) ho
  have e107 : a.eval (.tmp 107) = γ 3 := slotH hF ho h2 (j := 6) (d := 107) (by kernel_rfl) (by kernel_rfl) (by rw [ok.sz]; decide)
  refine st_pureH hF hC hW ho h2 (by decide) hd hg ?_
  show _ = Result.ok (Next.value (γ 3)) w
  generalize a.eval = ρ at e107 ⊢
  unfold execOp
  rw [hop]
  simp [e107, go_sem]
theorem PMZ.s8 (X : PMZ) (ok : PMZOk X) {Q : Exit → Act → World → Prop} : StepH (opsOf 31 Try.f12) PMZ.acts PMZ.av PMZ.ext X.val0 X.rc.Wd X.a0 Q 8 := by
  intro γ listed a w o hF hC hW h1 ho h2
  obtain ⟨hd, hop, hg⟩ := fields2 (x := some 108) (y := Op.extract (.tmp 100) 0) (z := none) (by kernel_rfl) ho
  have e100 : a.eval (.tmp 100) = γ 3 := slotH hF ho h2 (j := 7) (d := 100) (by kernel_rfl) (by kernel_rfl) (by rw [ok.sz]; decide)
  have hy : upOf listed PMZ.acts 3 = true := up_yes hC ho h2 (j := 6) rfl [7, 6] (by kernel_rfl) (by decide)
  obtain ⟨r, b, _, _, g1, _⟩ := hW.ans hy
  replace g1 : γ 3 = .tuple #[r, b] := g1
  rw [g1] at e100
  refine st_pureH hF hC hW ho h2 (by decide) hd hg ?_
  show _ = Result.ok (Next.value (tupAt (γ 3) 0)) w
  rw [g1]
  generalize a.eval = ρ at e100 ⊢
  unfold execOp
  rw [hop]
  simp [e100, tupAt, go_sem]
theorem PMZ.s9 (X : PMZ) (ok : PMZOk X) {Q : Exit → Act → World → Prop} : StepH (opsOf 31 Try.f12) PMZ.acts PMZ.av PMZ.ext X.val0 X.rc.Wd X.a0 Q 9 := by
  intro γ listed a w o hF hC hW h1 ho h2
  obtain ⟨hd, hop, hg⟩ := fields2 (x := some 109) (y := Op.extract (.tmp 100) 1) (z := none) (by kernel_rfl) ho
  have e100 : a.eval (.tmp 100) = γ 3 := slotH hF ho h2 (j := 7) (d := 100) (by kernel_rfl) (by kernel_rfl) (by rw [ok.sz]; decide)
  have hy : upOf listed PMZ.acts 3 = true := up_yes hC ho h2 (j := 6) rfl [7, 6] (by kernel_rfl) (by decide)
  obtain ⟨r, b, _, _, g1, _⟩ := hW.ans hy
  replace g1 : γ 3 = .tuple #[r, b] := g1
  rw [g1] at e100
  refine st_pureH hF hC hW ho h2 (by decide) hd hg ?_
  show _ = Result.ok (Next.value (tupAt (γ 3) 1)) w
  rw [g1]
  generalize a.eval = ρ at e100 ⊢
  unfold execOp
  rw [hop]
  simp [e100, tupAt, go_sem]
theorem PMZ.s10 (X : PMZ) (ok : PMZOk X) {Q : Exit → Act → World → Prop} : StepH (opsOf 31 Try.f12) PMZ.acts PMZ.av PMZ.ext X.val0 X.rc.Wd X.a0 Q 10 := by
  intro γ listed a w o hF hC hW h1 ho h2
  obtain ⟨hd, hop, hg⟩ := fields2 (x := some 17) (y := Op.alloc 57) (z := none) (by kernel_rfl) ho
  have hu := unl (hF.lt ho) h1
  have hno : upOf listed PMZ.acts 5 = false := up_no hC hu rfl [10] (by kernel_rfl) (by decide)
  refine st_actH (k := 4) (ps := []) PMZ.nodup rfl (by kernel_rfl) hF hC h1 ho h2 (Or.inr ⟨17, hd, rfl, fun _ => rfl⟩) hg ?_
  intro K hK
  have hr : (execOp a.eval o).run Try.prog w = .ok (.value (.pointer (some ⟨w.heap.size, 0, none⟩))) (w.alloc (.cells #[.int .i64 0, .int .i64 0, .slice none 0 0] 57)) := by
    unfold execOp
    rw [hop]
    simp [go_sem]
  unfold Oper.wp
  rw [hr]
  exact hK _ _ (RcX.Wd.alloc ok.rok hW hno #[.int .i64 0, .int .i64 0, .slice none 0 0] 57 rfl)
theorem PMZ.s11 (X : PMZ) (ok : PMZOk X) {Q : Exit → Act → World → Prop} : StepH (opsOf 31 Try.f12) PMZ.acts PMZ.av PMZ.ext X.val0 X.rc.Wd X.a0 Q 11 := by
  intro γ listed a w o hF hC hW h1 ho h2
  obtain ⟨hd, hop, hg⟩ := fields2 (x := none) (y := Op.store 57 (.tmp 17) (.tmp 108)) (z := none) (by kernel_rfl) ho
  have e17 : a.eval (.tmp 17) = γ 4 := slotH hF ho h2 (j := 10) (d := 17) (by kernel_rfl) (by kernel_rfl) (by rw [ok.sz]; decide)
  have e108 : a.eval (.tmp 108) = tupAt (γ 3) 0 := slotH hF ho h2 (j := 8) (d := 108) (by kernel_rfl) (by kernel_rfl) (by rw [ok.sz]; decide)
  have hu := unl (hF.lt ho) h1
  have hs1 : upOf listed PMZ.acts 3 = true := up_yes hC ho h2 (j := 6) rfl [8, 7, 6] (by kernel_rfl) (by decide)
  have hs2 : upOf listed PMZ.acts 4 = true := up_yes hC ho h2 (j := 10) rfl [10] (by kernel_rfl) (by decide)
  refine st_actH (k := 5) (ps := []) PMZ.nodup rfl (by kernel_rfl) hF hC h1 ho h2 (Or.inl hd) hg ?_
  intro K hK
  obtain ⟨r, b, B, w0, g1, _, g3, _⟩ := hW.ans hs1
  replace g1 : γ 3 = .tuple #[r, b] := g1
  obtain ⟨x, y, sa, sn, sc, rfl⟩ := ok.form _ _ _ _ g3
  obtain ⟨bx, p1, _, _, p4, p5⟩ := hW.box hs2
  replace p1 : γ 4 = .pointer (some ⟨bx, 0, none⟩) := p1
  rw [p1] at e17
  rw [g1] at e108
  replace e108 : a.eval (.tmp 108) = .agg #[.int .i64 x, .int .i64 y, .slice sa sn sc] := e108
  obtain ⟨z0, y0⟩ := p4 0 (by show 0 < 3; decide)
  obtain ⟨z1, y1⟩ := p4 1 (by show 1 < 3; decide)
  obtain ⟨z2, y2⟩ := p4 2 (by show 2 < 3; decide)
  have hr : (execOp a.eval o).run Try.prog w = .ok .skip (((w.setCell ⟨bx, 0, none⟩ (.int .i64 x)).setCell ⟨bx, 1, none⟩ (.int .i64 y)).setCell ⟨bx, 2, none⟩ (.slice sa sn sc)) := by
    generalize a.eval = ρ at e17 e108 ⊢
    unfold execOp
    rw [hop]
    simp [e17, e108, y0, y1, y2, p5, go_sem]
  unfold Oper.wp
  rw [hr]
  have hst := fun u => RcX.Wd.store ok.rok hW hs1 hs2 p1 g1 u
  have hcs : (Value.agg #[.int .i64 x, .int .i64 y, .slice sa sn sc]).cells.toList = [.int .i64 x, .int .i64 y, .slice sa sn sc] := rfl
  rw [hcs] at hst
  exact hK _ _ (hst _)
theorem PMZ.s12 (X : PMZ) (ok : PMZOk X) {Q : Exit → Act → World → Prop} : StepH (opsOf 31 Try.f12) PMZ.acts PMZ.av PMZ.ext X.val0 X.rc.Wd X.a0 Q 12 := by
  intro γ listed a w o hF hC hW h1 ho h2
  obtain ⟨hd, hop, hg⟩ := fields2 (x := some 18) (y := Op.assign (.tmp 109)) (z := none) (by kernel_rfl) ho
  have e109 : a.eval (.tmp 109) = tupAt (γ 3) 1 := slotH hF ho h2 (j := 9) (d := 109) (by kernel_rfl) (by kernel_rfl) (by rw [ok.sz]; decide)
  refine st_pureH hF hC hW ho h2 (by decide) hd hg ?_
  show _ = Result.ok (Next.value (tupAt (γ 3) 1)) w
  generalize a.eval = ρ at e109 ⊢
  unfold execOp
  rw [hop]
  simp [e109, go_sem]
theorem PMZ.size : (opsOf 31 Try.f12).size = 13 := by kernel_rfl
theorem PMZ.steps (X : PMZ) (ok : PMZOk X) {Q : Exit → Act → World → Prop} (i : Nat) (hi : i < (opsOf 31 Try.f12).size) : StepH (opsOf 31 Try.f12) PMZ.acts PMZ.av PMZ.ext X.val0 X.rc.Wd X.a0 Q i := by
  rw [PMZ.size] at hi
  have hc : i = 0 ∨ i = 1 ∨ i = 2 ∨ i = 3 ∨ i = 4 ∨ i = 5 ∨ i = 6 ∨ i = 7 ∨ i = 8 ∨ i = 9 ∨ i = 10 ∨ i = 11 ∨ i = 12 := by omega
  rcases hc with rfl | rfl | rfl | rfl | rfl | rfl | rfl | rfl | rfl | rfl | rfl | rfl | rfl
  · exact PMZ.s0 X ok
  · exact PMZ.s1 X ok
  · exact PMZ.s2 X ok
  · exact PMZ.s3 X ok
  · exact PMZ.s4 X ok
  · exact PMZ.s5 X ok
  · exact PMZ.s6 X ok
  · exact PMZ.s7 X ok
  · exact PMZ.s8 X ok
  · exact PMZ.s9 X ok
  · exact PMZ.s10 X ok
  · exact PMZ.s11 X ok
  · exact PMZ.s12 X ok
theorem PMZ.puts (X : PMZ) (γ : Nat → Value) (a0 : Act) : putsL (valH PMZ.av PMZ.ext X.val0 γ) (opsOf 31 Try.f12).toList a0 = ((((((((((((a0.put (some 101) (.agg #[.int .i64 X.p.w, .int .i64 X.p.h, X.va])).put (some 102) (γ 0)).put (some 103) (.agg #[.int .i64 X.q.w, .int .i64 X.q.h, X.vb])).put (some 104) (γ 1)).put (some 105) (.agg #[.int .i64 X.tr, .int .i64 X.tg, .int .i64 X.tb, .int .i64 X.ta])).put (some 106) (γ 2)).put (some 107) (γ 3)).put (some 100) (γ 3)).put (some 108) (tupAt (γ 3) 0)).put (some 109) (tupAt (γ 3) 1)).put (some 17) (γ 4)).put (some 18) (tupAt (γ 3) 1)) := by kernel_rfl
/-- The region, whatever order comes up. -/
theorem PMZ.run (X : PMZ) (ok : PMZOk X) {Q : Exit → Act → World → Prop} (w : World) (h0 : Nw X.W w.drew)
    (hend : ∀ (γ : Nat → Value) w' bx r b B w0, γ 4 = .pointer (some ⟨bx, 0, none⟩) → γ 3 = .tuple #[r, b] → Nw X.W w' → X.W.heap.size ≤ bx → bx < w'.heap.size → (∀ o, w'.frozen? ⟨bx, o, none⟩ = false) → (∀ j, j < 3 → w'.cell? ⟨bx, j, none⟩ = r.cells[j]?) → X.W.heap.size ≤ B → X.R B w0 r b → Nw w0 w' → (bx < B ∨ w0.heap.size ≤ bx) → Q .normal ((((((((((((X.a0.put (some 101) (.agg #[.int .i64 X.p.w, .int .i64 X.p.h, X.va])).put (some 102) (γ 0)).put (some 103) (.agg #[.int .i64 X.q.w, .int .i64 X.q.h, X.vb])).put (some 104) (γ 1)).put (some 105) (.agg #[.int .i64 X.tr, .int .i64 X.tg, .int .i64 X.tb, .int .i64 X.ta])).put (some 106) (γ 2)).put (some 107) (γ 3)).put (some 100) (γ 3)).put (some 108) (tupAt (γ 3) 0)).put (some 109) (tupAt (γ 3) 1)).put (some 17) (γ 4)).put (some 18) (tupAt (γ 3) 1)) w') : (Code.region 31 (opsOf 31 Try.f12) true).wp Try.prog Q X.a0 w := by
  refine reg_actH (acts := PMZ.acts) (av := PMZ.av) (ext := PMZ.ext) (val0 := X.val0) (Wd := X.rc.Wd) (by kernel_rfl) (by kernel_rfl) (by rw [PMZ.size]; decide) (fun i hi => PMZ.steps X ok i hi) (fun _ => undef) (RcX.Wd.start X.rc _ _ h0) ?_
  intro S γ w' hS h
  rw [PMZ.puts]
  obtain ⟨bx, r, b, B, w0, f1, f2, f3, f4, f5, f6, f7, f8, f9, f10, f11⟩ := h.fin ok.rok hS
  exact hend γ w' bx r b B w0 f1 f2 f3 f4 f5 f6 f7 f8 f9 f10 f11
structure PMG where
  b0 : Nat
  b1 : Nat
  b2 : Nat
  p : MD
  q : MD
  va : Value
  vb : Value
  tr : Int
  tg : Int
  tb : Int
  ta : Int
  C : Nat → World → Value → Prop
  R : Nat → World → Value → Value → Prop
  W : World
  a0 : Act
def PMG.rc (X : PMG) : RcX := ⟨1, 3, X.W, X.C, X.R⟩
structure PMGOk (X : PMG) : Prop where
  a0c : X.W.cell? ⟨X.b0, 0, none⟩ = some (.int .i64 X.p.w)
  a1c : X.W.cell? ⟨X.b0, 1, none⟩ = some (.int .i64 X.p.h)
  a2c : X.W.cell? ⟨X.b0, 2, none⟩ = some (X.va)
  b0c : X.W.cell? ⟨X.b1, 0, none⟩ = some (.int .i64 X.q.w)
  b1c : X.W.cell? ⟨X.b1, 1, none⟩ = some (.int .i64 X.q.h)
  b2c : X.W.cell? ⟨X.b1, 2, none⟩ = some (X.vb)
  t0c : X.W.cell? ⟨X.b2, 0, none⟩ = some (.int .i64 X.tr)
  t1c : X.W.cell? ⟨X.b2, 1, none⟩ = some (.int .i64 X.tg)
  t2c : X.W.cell? ⟨X.b2, 2, none⟩ = some (.int .i64 X.tb)
  t3c : X.W.cell? ⟨X.b2, 3, none⟩ = some (.int .i64 X.ta)
  rok : X.rc.Ok
  cc0 : ∀ w, Nw X.W w → Calls Try.prog 23 #[.agg #[.int .i64 X.tr, .int .i64 X.tg, .int .i64 X.tb, .int .i64 X.ta]] w fun e w' => ∃ u, e = .returned u ∧ X.C 0 w' u ∧ Nw w w'
  mm : ∀ w u0, Nw X.W w → X.C 0 w u0 → Calls Try.prog 47 #[.agg #[.int .i64 X.p.w, .int .i64 X.p.h, X.va], .agg #[.int .i64 X.q.w, .int .i64 X.q.h, X.vb], u0] w fun e w' => ∃ r b, e = .returned (.tuple #[r, b]) ∧ X.R w.heap.size w' r b ∧ Nw w w'
  form : ∀ B w r b, X.R B w r b → ∃ x y sa sn sc, r = .agg #[.int .i64 x, .int .i64 y, .slice sa sn sc]
  e5 : X.a0.eval (.tmp 5) = .pointer (some ⟨X.b2, 0, none⟩)
  e10 : X.a0.eval (.tmp 10) = .pointer (some ⟨X.b0, 0, none⟩)
  e11 : X.a0.eval (.tmp 11) = .pointer (some ⟨X.b1, 0, none⟩)
  sz : X.a0.tmps.size = 127
def PMG.val0 (X : PMG) : Nat → Value
  | 44 => .agg #[.int .i64 X.p.w, .int .i64 X.p.h, X.va]
  | 45 => .agg #[.int .i64 X.q.w, .int .i64 X.q.h, X.vb]
  | 46 => .agg #[.int .i64 X.tr, .int .i64 X.tg, .int .i64 X.tb, .int .i64 X.ta]
  | _ => undef
def PMG.av : Nat → Option Nat
  | 12 => some 2
  | 13 => some 1
  | 43 => some 1
  | 47 => some 0
  | 48 => some 1
  | 49 => some 1
  | 50 => some 1
  | _ => none
def PMG.ext : Nat → Value → Value
  | 13 => fun u => tupAt u 1
  | 49 => fun u => tupAt u 0
  | 50 => fun u => tupAt u 1
  | _ => fun u => u
def PMG.acts : List Nat := [3, 4, 8, 9]
theorem PMG.nodup : PMG.acts.Nodup := by decide
theorem PMG.s0 (X : PMG) (ok : PMGOk X) {Q : Exit → Act → World → Prop} : StepH (opsOf 11 Try.f12) PMG.acts PMG.av PMG.ext X.val0 X.rc.Wd X.a0 Q 0 := by
  intro γ listed a w o hF hC hW h1 ho h2
  obtain ⟨hd, hop, hg⟩ := fields2 (x := some 44) (y := Op.load 57 (.tmp 10)) (z := none) (by kernel_rfl) ho
  have e10 : a.eval (.tmp 10) = .pointer (some ⟨X.b0, 0, none⟩) := (hF.eval0 (by kernel_rfl)).trans ok.e10
  have hc0 := ((bcell hW.nw).1 _ _ (World.block_lt_of_cell? X.W ⟨_, _, none⟩ ok.a0c)).trans ok.a0c
  have hc1 := ((bcell hW.nw).1 _ _ (World.block_lt_of_cell? X.W ⟨_, _, none⟩ ok.a1c)).trans ok.a1c
  have hc2 := ((bcell hW.nw).1 _ _ (World.block_lt_of_cell? X.W ⟨_, _, none⟩ ok.a2c)).trans ok.a2c
  refine st_pureH hF hC hW ho h2 (by decide) hd hg ?_
  show _ = Result.ok (Next.value (.agg #[.int .i64 X.p.w, .int .i64 X.p.h, X.va])) w
  generalize a.eval = ρ at e10 ⊢
  unfold execOp
  rw [hop]
  simp [e10, hc0, hc1, hc2, go_sem]
theorem PMG.s1 (X : PMG) (ok : PMGOk X) {Q : Exit → Act → World → Prop} : StepH (opsOf 11 Try.f12) PMG.acts PMG.av PMG.ext X.val0 X.rc.Wd X.a0 Q 1 := by
  intro γ listed a w o hF hC hW h1 ho h2
  obtain ⟨hd, hop, hg⟩ := fields2 (x := some 45) (y := Op.load 75 (.tmp 11)) (z := none) (by kernel_rfl) ho
  have e11 : a.eval (.tmp 11) = .pointer (some ⟨X.b1, 0, none⟩) := (hF.eval0 (by kernel_rfl)).trans ok.e11
  have hc0 := ((bcell hW.nw).1 _ _ (World.block_lt_of_cell? X.W ⟨_, _, none⟩ ok.b0c)).trans ok.b0c
  have hc1 := ((bcell hW.nw).1 _ _ (World.block_lt_of_cell? X.W ⟨_, _, none⟩ ok.b1c)).trans ok.b1c
  have hc2 := ((bcell hW.nw).1 _ _ (World.block_lt_of_cell? X.W ⟨_, _, none⟩ ok.b2c)).trans ok.b2c
  refine st_pureH hF hC hW ho h2 (by decide) hd hg ?_
  show _ = Result.ok (Next.value (.agg #[.int .i64 X.q.w, .int .i64 X.q.h, X.vb])) w
  generalize a.eval = ρ at e11 ⊢
  unfold execOp
  rw [hop]
  simp [e11, hc0, hc1, hc2, go_sem]
theorem PMG.s2 (X : PMG) (ok : PMGOk X) {Q : Exit → Act → World → Prop} : StepH (opsOf 11 Try.f12) PMG.acts PMG.av PMG.ext X.val0 X.rc.Wd X.a0 Q 2 := by
  intro γ listed a w o hF hC hW h1 ho h2
  obtain ⟨hd, hop, hg⟩ := fields2 (x := some 46) (y := Op.load 35 (.tmp 5)) (z := none) (by kernel_rfl) ho
  have e5 : a.eval (.tmp 5) = .pointer (some ⟨X.b2, 0, none⟩) := (hF.eval0 (by kernel_rfl)).trans ok.e5
  have hc0 := ((bcell hW.nw).1 _ _ (World.block_lt_of_cell? X.W ⟨_, _, none⟩ ok.t0c)).trans ok.t0c
  have hc1 := ((bcell hW.nw).1 _ _ (World.block_lt_of_cell? X.W ⟨_, _, none⟩ ok.t1c)).trans ok.t1c
  have hc2 := ((bcell hW.nw).1 _ _ (World.block_lt_of_cell? X.W ⟨_, _, none⟩ ok.t2c)).trans ok.t2c
  have hc3 := ((bcell hW.nw).1 _ _ (World.block_lt_of_cell? X.W ⟨_, _, none⟩ ok.t3c)).trans ok.t3c
  refine st_pureH hF hC hW ho h2 (by decide) hd hg ?_
  show _ = Result.ok (Next.value (.agg #[.int .i64 X.tr, .int .i64 X.tg, .int .i64 X.tb, .int .i64 X.ta])) w
  generalize a.eval = ρ at e5 ⊢
  unfold execOp
  rw [hop]
  simp [e5, hc0, hc1, hc2, hc3, go_sem]
theorem PMG.s3 (X : PMG) (ok : PMGOk X) {Q : Exit → Act → World → Prop} : StepH (opsOf 11 Try.f12) PMG.acts PMG.av PMG.ext X.val0 X.rc.Wd X.a0 Q 3 := by
  intro γ listed a w o hF hC hW h1 ho h2
  obtain ⟨hd, hop, hg⟩ := fields2 (x := some 47) (y := Op.call { callee := .value (.func 23), args := #[(.tmp 46)], argTypes := #[35] }) (z := none) (by kernel_rfl) ho
  have e46 : a.eval (.tmp 46) = .agg #[.int .i64 X.tr, .int .i64 X.tg, .int .i64 X.tb, .int .i64 X.ta] := slotH hF ho h2 (j := 2) (d := 46) (by kernel_rfl) (by kernel_rfl) (by rw [ok.sz]; decide)
  have ef : a.eval (.func 23) = .func (.func 23) #[] #[] := rfl
  have hu := unl (hF.lt ho) h1
  refine st_actH (k := 0) (ps := []) PMG.nodup rfl (by kernel_rfl) hF hC h1 ho h2 (Or.inr ⟨47, hd, rfl, fun _ => rfl⟩) hg ?_
  intro K hK
  have hr : (execOp a.eval o).run Try.prog w = .ok (.enter 23 #[.agg #[.int .i64 X.tr, .int .i64 X.tg, .int .i64 X.tb, .int .i64 X.ta]]) w := by
    generalize a.eval = ρ at e46 ef ⊢
    unfold execOp
    rw [hop]
    simp [e46, ef, go_sem]
  unfold Oper.wp
  rw [hr]
  refine Calls.mono (ok.cc0 w hW.nw) ?_
  rintro e w' ⟨u, rfl, hc, k1⟩
  exact hK _ _ (RcX.Wd.copy ok.rok hW k1 (by show 0 < 1; decide) hc)
theorem PMG.s4 (X : PMG) (ok : PMGOk X) {Q : Exit → Act → World → Prop} : StepH (opsOf 11 Try.f12) PMG.acts PMG.av PMG.ext X.val0 X.rc.Wd X.a0 Q 4 := by
  intro γ listed a w o hF hC hW h1 ho h2
  obtain ⟨hd, hop, hg⟩ := fields2 (x := some 48) (y := Op.call { callee := .value (.func 47), args := #[(.tmp 44), (.tmp 45), (.tmp 47)], argTypes := #[57, 75, 24] }) (z := none) (by kernel_rfl) ho
  have e44 : a.eval (.tmp 44) = .agg #[.int .i64 X.p.w, .int .i64 X.p.h, X.va] := slotH hF ho h2 (j := 0) (d := 44) (by kernel_rfl) (by kernel_rfl) (by rw [ok.sz]; decide)
  have e45 : a.eval (.tmp 45) = .agg #[.int .i64 X.q.w, .int .i64 X.q.h, X.vb] := slotH hF ho h2 (j := 1) (d := 45) (by kernel_rfl) (by kernel_rfl) (by rw [ok.sz]; decide)
  have e47 : a.eval (.tmp 47) = γ 0 := slotH hF ho h2 (j := 3) (d := 47) (by kernel_rfl) (by kernel_rfl) (by rw [ok.sz]; decide)
  have ef : a.eval (.func 47) = .func (.func 47) #[] #[] := rfl
  have hu := unl (hF.lt ho) h1
  have hy0 : upOf listed PMG.acts 0 = true := up_yes hC ho h2 (j := 3) rfl [3] (by kernel_rfl) (by decide)
  have hno : upOf listed PMG.acts 3 = false := up_no hC hu rfl [6, 5, 4] (by kernel_rfl) (by decide)
  have hself : upOf listed PMG.acts 1 = false := up_self rfl hu
  refine st_actH (k := 1) (ps := [[5, 4], [6, 5, 4], [7, 5, 4], [10, 7, 5, 4]]) PMG.nodup rfl (by kernel_rfl) hF hC h1 ho h2 (Or.inr ⟨48, hd, rfl, fun _ => rfl⟩) hg ?_
  intro K hK
  have hr : (execOp a.eval o).run Try.prog w = .ok (.enter 47 #[.agg #[.int .i64 X.p.w, .int .i64 X.p.h, X.va], .agg #[.int .i64 X.q.w, .int .i64 X.q.h, X.vb], γ 0]) w := by
    generalize a.eval = ρ at e44 e45 e47 ef ⊢
    unfold execOp
    rw [hop]
    simp [e44, e45, e47, ef, go_sem]
  unfold Oper.wp
  rw [hr]
  refine Calls.mono (ok.mm w (γ 0) hW.nw (hW.cp 0 (by show 0 < 1; decide) hy0 hself)) ?_
  rintro e w' ⟨r, b, rfl, hR, k1⟩
  exact hK _ _ (RcX.Wd.main ok.rok hW k1 hno hR)
theorem PMG.s5 (X : PMG) (ok : PMGOk X) {Q : Exit → Act → World → Prop} : StepH (opsOf 11 Try.f12) PMG.acts PMG.av PMG.ext X.val0 X.rc.Wd X.a0 Q 5 := by
  intro γ listed a w o hF hC hW h1 ho h2
  obtain ⟨hd, hop, hg⟩ := fields2 (x := some 43) (y := Op.move (.tmp 48)) (z := none) (by kernel_rfl) ho
  have e48 : a.eval (.tmp 48) = γ 1 := slotH hF ho h2 (j := 4) (d := 48) (by kernel_rfl) (by kernel_rfl) (by rw [ok.sz]; decide)
  refine st_pureH hF hC hW ho h2 (by decide) hd hg ?_
  show _ = Result.ok (Next.value (γ 1)) w
  generalize a.eval = ρ at e48 ⊢
  unfold execOp
  rw [hop]
  simp [e48, go_sem]
theorem PMG.s6 (X : PMG) (ok : PMGOk X) {Q : Exit → Act → World → Prop} : StepH (opsOf 11 Try.f12) PMG.acts PMG.av PMG.ext X.val0 X.rc.Wd X.a0 Q 6 := by
  intro γ listed a w o hF hC hW h1 ho h2
  obtain ⟨hd, hop, hg⟩ := fields2 (x := some 49) (y := Op.extract (.tmp 43) 0) (z := none) (by kernel_rfl) ho
  have e43 : a.eval (.tmp 43) = γ 1 := slotH hF ho h2 (j := 5) (d := 43) (by kernel_rfl) (by kernel_rfl) (by rw [ok.sz]; decide)
  have hy : upOf listed PMG.acts 1 = true := up_yes hC ho h2 (j := 4) rfl [5, 4] (by kernel_rfl) (by decide)
  obtain ⟨r, b, _, _, g1, _⟩ := hW.ans hy
  replace g1 : γ 1 = .tuple #[r, b] := g1
  rw [g1] at e43
  refine st_pureH hF hC hW ho h2 (by decide) hd hg ?_
  show _ = Result.ok (Next.value (tupAt (γ 1) 0)) w
  rw [g1]
  generalize a.eval = ρ at e43 ⊢
  unfold execOp
  rw [hop]
  simp [e43, tupAt, go_sem]
theorem PMG.s7 (X : PMG) (ok : PMGOk X) {Q : Exit → Act → World → Prop} : StepH (opsOf 11 Try.f12) PMG.acts PMG.av PMG.ext X.val0 X.rc.Wd X.a0 Q 7 := by
  intro γ listed a w o hF hC hW h1 ho h2
  obtain ⟨hd, hop, hg⟩ := fields2 (x := some 50) (y := Op.extract (.tmp 43) 1) (z := none) (by kernel_rfl) ho
  have e43 : a.eval (.tmp 43) = γ 1 := slotH hF ho h2 (j := 5) (d := 43) (by kernel_rfl) (by kernel_rfl) (by rw [ok.sz]; decide)
  have hy : upOf listed PMG.acts 1 = true := up_yes hC ho h2 (j := 4) rfl [5, 4] (by kernel_rfl) (by decide)
  obtain ⟨r, b, _, _, g1, _⟩ := hW.ans hy
  replace g1 : γ 1 = .tuple #[r, b] := g1
  rw [g1] at e43
  refine st_pureH hF hC hW ho h2 (by decide) hd hg ?_
  show _ = Result.ok (Next.value (tupAt (γ 1) 1)) w
  rw [g1]
  generalize a.eval = ρ at e43 ⊢
  unfold execOp
  rw [hop]
  simp [e43, tupAt, go_sem]
theorem PMG.s8 (X : PMG) (ok : PMGOk X) {Q : Exit → Act → World → Prop} : StepH (opsOf 11 Try.f12) PMG.acts PMG.av PMG.ext X.val0 X.rc.Wd X.a0 Q 8 := by
  intro γ listed a w o hF hC hW h1 ho h2
  obtain ⟨hd, hop, hg⟩ := fields2 (x := some 12) (y := Op.alloc 57) (z := none) (by kernel_rfl) ho
  have hu := unl (hF.lt ho) h1
  have hno : upOf listed PMG.acts 3 = false := up_no hC hu rfl [8] (by kernel_rfl) (by decide)
  refine st_actH (k := 2) (ps := []) PMG.nodup rfl (by kernel_rfl) hF hC h1 ho h2 (Or.inr ⟨12, hd, rfl, fun _ => rfl⟩) hg ?_
  intro K hK
  have hr : (execOp a.eval o).run Try.prog w = .ok (.value (.pointer (some ⟨w.heap.size, 0, none⟩))) (w.alloc (.cells #[.int .i64 0, .int .i64 0, .slice none 0 0] 57)) := by
    unfold execOp
    rw [hop]
    simp [go_sem]
  unfold Oper.wp
  rw [hr]
  exact hK _ _ (RcX.Wd.alloc ok.rok hW hno #[.int .i64 0, .int .i64 0, .slice none 0 0] 57 rfl)
theorem PMG.s9 (X : PMG) (ok : PMGOk X) {Q : Exit → Act → World → Prop} : StepH (opsOf 11 Try.f12) PMG.acts PMG.av PMG.ext X.val0 X.rc.Wd X.a0 Q 9 := by
  intro γ listed a w o hF hC hW h1 ho h2
  obtain ⟨hd, hop, hg⟩ := fields2 (x := none) (y := Op.store 57 (.tmp 12) (.tmp 49)) (z := none) (by kernel_rfl) ho
  have e12 : a.eval (.tmp 12) = γ 2 := slotH hF ho h2 (j := 8) (d := 12) (by kernel_rfl) (by kernel_rfl) (by rw [ok.sz]; decide)
  have e49 : a.eval (.tmp 49) = tupAt (γ 1) 0 := slotH hF ho h2 (j := 6) (d := 49) (by kernel_rfl) (by kernel_rfl) (by rw [ok.sz]; decide)
  have hu := unl (hF.lt ho) h1
  have hs1 : upOf listed PMG.acts 1 = true := up_yes hC ho h2 (j := 4) rfl [6, 5, 4] (by kernel_rfl) (by decide)
  have hs2 : upOf listed PMG.acts 2 = true := up_yes hC ho h2 (j := 8) rfl [8] (by kernel_rfl) (by decide)
  refine st_actH (k := 3) (ps := []) PMG.nodup rfl (by kernel_rfl) hF hC h1 ho h2 (Or.inl hd) hg ?_
  intro K hK
  obtain ⟨r, b, B, w0, g1, _, g3, _⟩ := hW.ans hs1
  replace g1 : γ 1 = .tuple #[r, b] := g1
  obtain ⟨x, y, sa, sn, sc, rfl⟩ := ok.form _ _ _ _ g3
  obtain ⟨bx, p1, _, _, p4, p5⟩ := hW.box hs2
  replace p1 : γ 2 = .pointer (some ⟨bx, 0, none⟩) := p1
  rw [p1] at e12
  rw [g1] at e49
  replace e49 : a.eval (.tmp 49) = .agg #[.int .i64 x, .int .i64 y, .slice sa sn sc] := e49
  obtain ⟨z0, y0⟩ := p4 0 (by show 0 < 3; decide)
  obtain ⟨z1, y1⟩ := p4 1 (by show 1 < 3; decide)
  obtain ⟨z2, y2⟩ := p4 2 (by show 2 < 3; decide)
  have hr : (execOp a.eval o).run Try.prog w = .ok .skip (((w.setCell ⟨bx, 0, none⟩ (.int .i64 x)).setCell ⟨bx, 1, none⟩ (.int .i64 y)).setCell ⟨bx, 2, none⟩ (.slice sa sn sc)) := by
    generalize a.eval = ρ at e12 e49 ⊢
    unfold execOp
    rw [hop]
    simp [e12, e49, y0, y1, y2, p5, go_sem]
  unfold Oper.wp
  rw [hr]
  have hst := fun u => RcX.Wd.store ok.rok hW hs1 hs2 p1 g1 u
  have hcs : (Value.agg #[.int .i64 x, .int .i64 y, .slice sa sn sc]).cells.toList = [.int .i64 x, .int .i64 y, .slice sa sn sc] := rfl
  rw [hcs] at hst
  exact hK _ _ (hst _)
theorem PMG.s10 (X : PMG) (ok : PMGOk X) {Q : Exit → Act → World → Prop} : StepH (opsOf 11 Try.f12) PMG.acts PMG.av PMG.ext X.val0 X.rc.Wd X.a0 Q 10 := by
  intro γ listed a w o hF hC hW h1 ho h2
  obtain ⟨hd, hop, hg⟩ := fields2 (x := some 13) (y := Op.assign (.tmp 50)) (z := none) (by kernel_rfl) ho
  have e50 : a.eval (.tmp 50) = tupAt (γ 1) 1 := slotH hF ho h2 (j := 7) (d := 50) (by kernel_rfl) (by kernel_rfl) (by rw [ok.sz]; decide)
  refine st_pureH hF hC hW ho h2 (by decide) hd hg ?_
  show _ = Result.ok (Next.value (tupAt (γ 1) 1)) w
  generalize a.eval = ρ at e50 ⊢
  unfold execOp
  rw [hop]
  simp [e50, go_sem]
theorem PMG.size : (opsOf 11 Try.f12).size = 11 := by kernel_rfl
theorem PMG.steps (X : PMG) (ok : PMGOk X) {Q : Exit → Act → World → Prop} (i : Nat) (hi : i < (opsOf 11 Try.f12).size) : StepH (opsOf 11 Try.f12) PMG.acts PMG.av PMG.ext X.val0 X.rc.Wd X.a0 Q i := by
  rw [PMG.size] at hi
  have hc : i = 0 ∨ i = 1 ∨ i = 2 ∨ i = 3 ∨ i = 4 ∨ i = 5 ∨ i = 6 ∨ i = 7 ∨ i = 8 ∨ i = 9 ∨ i = 10 := by omega
  rcases hc with rfl | rfl | rfl | rfl | rfl | rfl | rfl | rfl | rfl | rfl | rfl
  · exact PMG.s0 X ok
  · exact PMG.s1 X ok
  · exact PMG.s2 X ok
  · exact PMG.s3 X ok
  · exact PMG.s4 X ok
  · exact PMG.s5 X ok
  · exact PMG.s6 X ok
  · exact PMG.s7 X ok
  · exact PMG.s8 X ok
  · exact PMG.s9 X ok
  · exact PMG.s10 X ok
theorem PMG.puts (X : PMG) (γ : Nat → Value) (a0 : Act) : putsL (valH PMG.av PMG.ext X.val0 γ) (opsOf 11 Try.f12).toList a0 = ((((((((((a0.put (some 44) (.agg #[.int .i64 X.p.w, .int .i64 X.p.h, X.va])).put (some 45) (.agg #[.int .i64 X.q.w, .int .i64 X.q.h, X.vb])).put (some 46) (.agg #[.int .i64 X.tr, .int .i64 X.tg, .int .i64 X.tb, .int .i64 X.ta])).put (some 47) (γ 0)).put (some 48) (γ 1)).put (some 43) (γ 1)).put (some 49) (tupAt (γ 1) 0)).put (some 50) (tupAt (γ 1) 1)).put (some 12) (γ 2)).put (some 13) (tupAt (γ 1) 1)) := by kernel_rfl
/-- The region, whatever order comes up. -/
theorem PMG.run (X : PMG) (ok : PMGOk X) {Q : Exit → Act → World → Prop} (w : World) (h0 : Nw X.W w.drew)
    (hend : ∀ (γ : Nat → Value) w' bx r b B w0, γ 2 = .pointer (some ⟨bx, 0, none⟩) → γ 1 = .tuple #[r, b] → Nw X.W w' → X.W.heap.size ≤ bx → bx < w'.heap.size → (∀ o, w'.frozen? ⟨bx, o, none⟩ = false) → (∀ j, j < 3 → w'.cell? ⟨bx, j, none⟩ = r.cells[j]?) → X.W.heap.size ≤ B → X.R B w0 r b → Nw w0 w' → (bx < B ∨ w0.heap.size ≤ bx) → Q .normal ((((((((((X.a0.put (some 44) (.agg #[.int .i64 X.p.w, .int .i64 X.p.h, X.va])).put (some 45) (.agg #[.int .i64 X.q.w, .int .i64 X.q.h, X.vb])).put (some 46) (.agg #[.int .i64 X.tr, .int .i64 X.tg, .int .i64 X.tb, .int .i64 X.ta])).put (some 47) (γ 0)).put (some 48) (γ 1)).put (some 43) (γ 1)).put (some 49) (tupAt (γ 1) 0)).put (some 50) (tupAt (γ 1) 1)).put (some 12) (γ 2)).put (some 13) (tupAt (γ 1) 1)) w') : (Code.region 11 (opsOf 11 Try.f12) true).wp Try.prog Q X.a0 w := by
  refine reg_actH (acts := PMG.acts) (av := PMG.av) (ext := PMG.ext) (val0 := X.val0) (Wd := X.rc.Wd) (by kernel_rfl) (by kernel_rfl) (by rw [PMG.size]; decide) (fun i hi => PMG.steps X ok i hi) (fun _ => undef) (RcX.Wd.start X.rc _ _ h0) ?_
  intro S γ w' hS h
  rw [PMG.puts]
  obtain ⟨bx, r, b, B, w0, f1, f2, f3, f4, f5, f6, f7, f8, f9, f10, f11⟩ := h.fin ok.rok hS
  exact hend γ w' bx r b B w0 f1 f2 f3 f4 f5 f6 f7 f8 f9 f10 f11
end Go.Proofs.Ythlohbiocfeapaa
