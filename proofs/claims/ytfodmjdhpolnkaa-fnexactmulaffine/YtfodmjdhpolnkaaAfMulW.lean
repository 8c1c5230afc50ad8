/-
  MulAffine of both in one word, and the walk of the law; no condition but that the numbers are ints.
-/
import Derived.Test.YtfodmjdhpolnkaaAfMulJ
import Derived.Test.YtfodmjdhpolnkaaAfMulT
namespace Go.Proofs.Ytfodmjdhpolnkaa
open Go.ChangeShapes Go.WideShapes Go.ChangeAt Go.RowKit
set_option linter.unusedVariables false

/-- Six numbers and whether they are told. -/
structure MR where
  x0 : Int
  x1 : Int
  x2 : Int
  x3 : Int
  x4 : Int
  x5 : Int
  ok : Bool
def MR.v (r : MR) : Value := .tuple #[affV r.x0 r.x1 r.x2 r.x3 r.x4 r.x5, .bool r.ok]
/-- One answer of both. -/
theorem mul_both (a b c d e f a' b' c' d' e' f' : Int) : ∃ r : MR, (∀ w, Calls Try.prog 5 #[affV a b c d e f, affV a' b' c' d' e' f'] w fun x w' => x = .returned r.v ∧ Kp w w') ∧ (∀ w, Calls Try.prog 7 #[affV a b c d e f, affV a' b' c' d' e' f'] w fun x w' => x = .returned r.v ∧ Kp w w') := by
  by_cases hbad : gA a b c d e f = false ∨ gA a' b' c' d' e' f' = false
  · exact ⟨⟨0, 0, 0, 0, 0, 0, false⟩, fun w => smul_bad w a b c d e f a' b' c' d' e' f' hbad, fun w => imul_bad w a b c d e f a' b' c' d' e' f' hbad⟩
  · have hA : gA a b c d e f = true := by cases h : gA a b c d e f with | true => rfl | false => exact absurd (Or.inl h) hbad
    have hB : gA a' b' c' d' e' f' = true := by cases h : gA a' b' c' d' e' f' with | true => rfl | false => exact absurd (Or.inr h) hbad
    have hm : ∃ m : Int → Int → Int, (∀ x y w, Calls Try.prog 14 #[.int .i64 x, .int .i64 y] w fun e w' => e = .returned (.int .i64 (m x y)) ∧ Kp w w') ∧ (∀ x y w, Calls Try.prog 12 #[.int .i64 x, .int .i64 y] w fun e w' => e = .returned (.int .i64 (m x y)) ∧ w' = w) :=
      ⟨fun x y => Classical.choose (fixMul_both x y), fun x y w => (Classical.choose_spec (fixMul_both x y)).1 w, fun x y w => (Classical.choose_spec (fixMul_both x y)).2 w⟩
    obtain ⟨m, hS, hI⟩ := hm
    have HM := fun w => sl7mul w a b c d e f a' b' c' d' e' f' m hS
    unfold mulV at HM
    obtain ⟨x0, hx0⟩ : ∃ x0, IntKind.i64.wrap (m a a' + m c b') = x0 := ⟨_, rfl⟩
    obtain ⟨x1, hx1⟩ : ∃ x1, IntKind.i64.wrap (m b a' + m d b') = x1 := ⟨_, rfl⟩
    obtain ⟨x2, hx2⟩ : ∃ x2, IntKind.i64.wrap (m a c' + m c d') = x2 := ⟨_, rfl⟩
    obtain ⟨x3, hx3⟩ : ∃ x3, IntKind.i64.wrap (m b c' + m d d') = x3 := ⟨_, rfl⟩
    obtain ⟨x4, hx4⟩ : ∃ x4, IntKind.i64.wrap (IntKind.i64.wrap (m a e' + m c f') + e) = x4 := ⟨_, rfl⟩
    obtain ⟨x5, hx5⟩ : ∃ x5, IntKind.i64.wrap (IntKind.i64.wrap (m b e' + m d f') + f) = x5 := ⟨_, rfl⟩
    rw [hx0, hx1, hx2, hx3, hx4, hx5] at HM
    cases hg : gA x0 x1 x2 x3 x4 x5 with
    | true => exact ⟨⟨x0, x1, x2, x3, x4, x5, true⟩, fun w => smul_yes w a b c d e f a' b' c' d' e' f' x0 x1 x2 x3 x4 x5 HM hg hA hB, fun w => imul_yes w a b c d e f a' b' c' d' e' f' m x0 x1 x2 x3 x4 x5 hx0 hx1 hx2 hx3 hx4 hx5 hg hA hB hI⟩
    | false => exact ⟨⟨0, 0, 0, 0, 0, 0, false⟩, fun w => smul_no w a b c d e f a' b' c' d' e' f' x0 x1 x2 x3 x4 x5 HM hg hA hB, fun w => imul_no w a b c d e f a' b' c' d' e' f' m x0 x1 x2 x3 x4 x5 hx0 hx1 hx2 hx3 hx4 hx5 hg hA hB hI⟩
theorem eqAff (w : World) (a b c d e f : Int) : Calls Try.prog 8 #[affV a b c d e f, affV a b c d e f] w fun x w' => x = .returned (.bool true) ∧ Kp w w' := by
  unfold affV
  go_enter Try.func8, Try.ntmps8
  go_wp2
  go_ret
  exact ⟨rfl, ((Kp.refl w).alloc _ _).alloc _ _⟩

structure LX where
  a : Int
  b : Int
  c : Int
  d : Int
  e : Int
  f : Int
  p : Int
  q : Int
  r : Int
  s : Int
  t : Int
  u : Int
  y0 : Int
  y1 : Int
  y2 : Int
  y3 : Int
  y4 : Int
  y5 : Int
  ok : Bool
  B : Nat
  W : World
  a0 : Act
/-- The variable that is made: where it lies, and what lies there. -/
def LX.zero (X : LX) (N : Nat) (w : World) : Prop := ∀ j, j < 6 → w.cell? ⟨N, j, none⟩ = some (.int .i64 0)
def LX.full (X : LX) (N : Nat) (w : World) : Prop := w.cell? ⟨N, 0, none⟩ = some (.int .i64 X.y0) ∧ w.cell? ⟨N, 1, none⟩ = some (.int .i64 X.y1) ∧ w.cell? ⟨N, 2, none⟩ = some (.int .i64 X.y2) ∧ w.cell? ⟨N, 3, none⟩ = some (.int .i64 X.y3) ∧ w.cell? ⟨N, 4, none⟩ = some (.int .i64 X.y4) ∧ w.cell? ⟨N, 5, none⟩ = some (.int .i64 X.y5)
structure LXok (X : LX) (callee : FuncId) : Prop where
  hB : X.B + 1 < X.W.heap.size
  cells : X.W.cell? ⟨X.B, 0, none⟩ = some (.int .i64 X.a) ∧ X.W.cell? ⟨X.B, 1, none⟩ = some (.int .i64 X.b) ∧ X.W.cell? ⟨X.B, 2, none⟩ = some (.int .i64 X.c) ∧ X.W.cell? ⟨X.B, 3, none⟩ = some (.int .i64 X.d) ∧ X.W.cell? ⟨X.B, 4, none⟩ = some (.int .i64 X.e) ∧ X.W.cell? ⟨X.B, 5, none⟩ = some (.int .i64 X.f) ∧ X.W.cell? ⟨X.B + 1, 0, none⟩ = some (.int .i64 X.p) ∧ X.W.cell? ⟨X.B + 1, 1, none⟩ = some (.int .i64 X.q) ∧ X.W.cell? ⟨X.B + 1, 2, none⟩ = some (.int .i64 X.r) ∧ X.W.cell? ⟨X.B + 1, 3, none⟩ = some (.int .i64 X.s) ∧ X.W.cell? ⟨X.B + 1, 4, none⟩ = some (.int .i64 X.t) ∧ X.W.cell? ⟨X.B + 1, 5, none⟩ = some (.int .i64 X.u)
  e2 : X.a0.eval (.tmp 2) = .pointer (some ⟨X.B, 0, none⟩)
  e3 : X.a0.eval (.tmp 3) = .pointer (some ⟨X.B + 1, 0, none⟩)
  sz : X.a0.tmps.size = 34
  call : ∀ w, Calls Try.prog callee #[.agg #[.int .i64 X.a, .int .i64 X.b, .int .i64 X.c, .int .i64 X.d, .int .i64 X.e, .int .i64 X.f], .agg #[.int .i64 X.p, .int .i64 X.q, .int .i64 X.r, .int .i64 X.s, .int .i64 X.t, .int .i64 X.u]] w fun e w' => e = .returned (.tuple #[.agg #[.int .i64 X.y0, .int .i64 X.y1, .int .i64 X.y2, .int .i64 X.y3, .int .i64 X.y4, .int .i64 X.y5], .bool X.ok]) ∧ Kp w w'
theorem FrI.congr {ops : Array Oper} {val val' : Nat → Value} {a0 a : Act} {listed : Array Bool} (h : FrI ops val a0 listed a) (hv : ∀ d, got ops listed d → val d = val' d) : FrI ops val' a0 listed a :=
  ⟨h.size, h.defers, h.tsize, fun d hd hg => (h.yes d hd hg).trans (hv d hg), h.no⟩
theorem r_ld6 (o : Oper) (ρ : Operand → Value) (w : World) (t B : Nat) (x0 x1 x2 x3 x4 x5 : Int) (h : o.op = Op.load 23 (.tmp t)) (h1 : ρ (.tmp t) = .pointer (some ⟨B, 0, none⟩)) (c0 : w.cell? ⟨B, 0, none⟩ = some (.int .i64 x0)) (c1 : w.cell? ⟨B, 1, none⟩ = some (.int .i64 x1)) (c2 : w.cell? ⟨B, 2, none⟩ = some (.int .i64 x2)) (c3 : w.cell? ⟨B, 3, none⟩ = some (.int .i64 x3)) (c4 : w.cell? ⟨B, 4, none⟩ = some (.int .i64 x4)) (c5 : w.cell? ⟨B, 5, none⟩ = some (.int .i64 x5)) : (execOp ρ o).run Try.prog w = .ok (.value (.agg #[.int .i64 x0, .int .i64 x1, .int .i64 x2, .int .i64 x3, .int .i64 x4, .int .i64 x5])) w := by
  unfold execOp
  rw [h]
  simp [h1, c0, c1, c2, c3, c4, c5, go_sem]
theorem r_callA (o : Oper) (ρ : Operand → Value) (w : World) (s : Nat) (v : Value) (h : o.op = Op.call { callee := .value (.func 6), args := #[.tmp s], argTypes := #[23] }) (h0 : ρ (.func 6) = .func (.func 6) #[] #[]) (h1 : ρ (.tmp s) = v) : (execOp ρ o).run Try.prog w = .ok (.enter 6 #[v]) w := by
  unfold execOp
  rw [h]
  simp [h0, h1, go_sem]
theorem r_callS (o : Oper) (ρ : Operand → Value) (w : World) (s t : Nat) (u v : Value) (h : o.op = Op.call { callee := .value (.func 5), args := #[.tmp s, .tmp t], argTypes := #[24, 24] }) (h0 : ρ (.func 5) = .func (.func 5) #[] #[]) (h1 : ρ (.tmp s) = u) (h2 : ρ (.tmp t) = v) : (execOp ρ o).run Try.prog w = .ok (.enter 5 #[u, v]) w := by
  unfold execOp
  rw [h]
  simp [h0, h1, h2, go_sem]
theorem r_callI (o : Oper) (ρ : Operand → Value) (w : World) (s t : Nat) (u v : Value) (h : o.op = Op.call { callee := .value (.func 7), args := #[.tmp s, .tmp t], argTypes := #[24, 24] }) (h0 : ρ (.func 7) = .func (.func 7) #[] #[]) (h1 : ρ (.tmp s) = u) (h2 : ρ (.tmp t) = v) : (execOp ρ o).run Try.prog w = .ok (.enter 7 #[u, v]) w := by
  unfold execOp
  rw [h]
  simp [h0, h1, h2, go_sem]
theorem r_mv (o : Oper) (ρ : Operand → Value) (w : World) (s : Nat) (v : Value) (h : o.op = Op.move (.tmp s)) (h1 : ρ (.tmp s) = v) : (execOp ρ o).run Try.prog w = .ok (.value v) w := by
  unfold execOp
  rw [h]
  simp [h1, go_sem]
theorem r_as (o : Oper) (ρ : Operand → Value) (w : World) (s : Nat) (v : Value) (h : o.op = Op.assign (.tmp s)) (h1 : ρ (.tmp s) = v) : (execOp ρ o).run Try.prog w = .ok (.value v) w := by
  unfold execOp
  rw [h]
  simp [h1, go_sem]
theorem r_ex0 (o : Oper) (ρ : Operand → Value) (w : World) (s : Nat) (u v : Value) (h : o.op = Op.extract (.tmp s) 0) (h1 : ρ (.tmp s) = .tuple #[u, v]) : (execOp ρ o).run Try.prog w = .ok (.value u) w := by
  unfold execOp
  rw [h]
  simp [h1, go_sem]
theorem r_ex1 (o : Oper) (ρ : Operand → Value) (w : World) (s : Nat) (u v : Value) (h : o.op = Op.extract (.tmp s) 1) (h1 : ρ (.tmp s) = .tuple #[u, v]) : (execOp ρ o).run Try.prog w = .ok (.value v) w := by
  unfold execOp
  rw [h]
  simp [h1, go_sem]
theorem r_st6 (o : Oper) (ρ : Operand → Value) (w : World) (t s N : Nat) (x0 x1 x2 x3 x4 x5 : Int) (h : o.op = Op.store 24 (.tmp t) (.tmp s)) (h1 : ρ (.tmp t) = .pointer (some ⟨N, 0, none⟩)) (h2 : ρ (.tmp s) = .agg #[.int .i64 x0, .int .i64 x1, .int .i64 x2, .int .i64 x3, .int .i64 x4, .int .i64 x5]) (hz : ∀ j, j < 6 → w.cell? ⟨N, j, none⟩ = some (.int .i64 0)) (hf : ∀ j, w.frozen? ⟨N, j, none⟩ = false) :
    (execOp ρ o).run Try.prog w = .ok .skip ((((((w.setCell ⟨N, 0, none⟩ (.int .i64 x0)).setCell ⟨N, 1, none⟩ (.int .i64 x1)).setCell ⟨N, 2, none⟩ (.int .i64 x2)).setCell ⟨N, 3, none⟩ (.int .i64 x3)).setCell ⟨N, 4, none⟩ (.int .i64 x4)).setCell ⟨N, 5, none⟩ (.int .i64 x5)) := by
  unfold execOp
  rw [h]
  have z0 := hz 0 (by decide)
  have z1 := hz 1 (by decide)
  have z2 := hz 2 (by decide)
  have z3 := hz 3 (by decide)
  have z4 := hz 4 (by decide)
  have z5 := hz 5 (by decide)
  simp [h1, h2, z0, z1, z2, z3, z4, z5, hf, go_sem]
def LX.valR1 (X : LX) (N : Nat) : Nat → Value
  | 5 => .pointer (some ⟨N, 0, none⟩)
  | 6 => .bool X.ok
  | 9 => .tuple #[.agg #[.int .i64 X.y0, .int .i64 X.y1, .int .i64 X.y2, .int .i64 X.y3, .int .i64 X.y4, .int .i64 X.y5], .bool X.ok]
  | 10 => .agg #[.int .i64 X.a, .int .i64 X.b, .int .i64 X.c, .int .i64 X.d, .int .i64 X.e, .int .i64 X.f]
  | 11 => .agg #[.int .i64 X.a, .int .i64 X.b, .int .i64 X.c, .int .i64 X.d, .int .i64 X.e, .int .i64 X.f]
  | 12 => .agg #[.int .i64 X.p, .int .i64 X.q, .int .i64 X.r, .int .i64 X.s, .int .i64 X.t, .int .i64 X.u]
  | 13 => .agg #[.int .i64 X.p, .int .i64 X.q, .int .i64 X.r, .int .i64 X.s, .int .i64 X.t, .int .i64 X.u]
  | 14 => .tuple #[.agg #[.int .i64 X.y0, .int .i64 X.y1, .int .i64 X.y2, .int .i64 X.y3, .int .i64 X.y4, .int .i64 X.y5], .bool X.ok]
  | 15 => .agg #[.int .i64 X.y0, .int .i64 X.y1, .int .i64 X.y2, .int .i64 X.y3, .int .i64 X.y4, .int .i64 X.y5]
  | 16 => .bool X.ok
  | _ => undef
def LX.invR1 (X : LX) (listed : Array Bool) (a : Act) (w : World) : Prop :=
  ∃ N, FrI (opsOf 1 Try.f3) (X.valR1 N) X.a0 listed a ∧ Kp X.W w ∧ (listed.getD 8 false = true → X.W.heap.size ≤ N ∧ N < w.heap.size ∧ (∀ j, w.frozen? ⟨N, j, none⟩ = false) ∧ (listed.getD 9 false = false → X.zero N w) ∧ (listed.getD 9 false = true → X.full N w)) ∧ (listed.getD 9 false = true → listed.getD 8 false = true)
/-- The variable's facts are kept where nothing that was there is written. -/
theorem LX.keepR1 (X : LX) {listed : Array Bool} {N i : Nat} {w w' : World} (hi : i < listed.size) (h8 : i ≠ 8) (h9 : i ≠ 9) (k : Kp w w') (h : listed.getD 8 false = true → X.W.heap.size ≤ N ∧ N < w.heap.size ∧ (∀ j, w.frozen? ⟨N, j, none⟩ = false) ∧ (listed.getD 9 false = false → X.zero N w) ∧ (listed.getD 9 false = true → X.full N w)) :
    (listed.setIfInBounds i true).getD 8 false = true → X.W.heap.size ≤ N ∧ N < w'.heap.size ∧ (∀ j, w'.frozen? ⟨N, j, none⟩ = false) ∧ ((listed.setIfInBounds i true).getD 9 false = false → X.zero N w') ∧ ((listed.setIfInBounds i true).getD 9 false = true → X.full N w') := by
  rw [getF_set hi, getF_set hi, decide_eq_false (fun h => h8 h.symm), decide_eq_false (fun h => h9 h.symm), Bool.false_or, Bool.false_or]
  intro h1
  obtain ⟨p1, p2, p3, p4, p5⟩ := h h1
  have kc := (Kp.cells k).1
  refine ⟨p1, Nat.lt_of_lt_of_le p2 (Kp.size k), fun j => ((Kp.cells k).2 _ _).trans (p3 j), fun h2 j hj => (kc _ _ p2).trans (p4 h2 j hj), fun h2 => ?_⟩
  obtain ⟨q0, q1, q2, q3, q4, q5⟩ := p5 h2
  exact ⟨(kc _ _ p2).trans q0, (kc _ _ p2).trans q1, (kc _ _ p2).trans q2, (kc _ _ p2).trans q3, (kc _ _ p2).trans q4, (kc _ _ p2).trans q5⟩
theorem LX.upR1 {listed : Array Bool} {i : Nat} (hi : i < listed.size) (h9 : i ≠ 9) (h : listed.getD 9 false = true → listed.getD 8 false = true) : (listed.setIfInBounds i true).getD 9 false = true → (listed.setIfInBounds i true).getD 8 false = true := by
  rw [getF_set hi, getF_set hi, decide_eq_false (fun h => h9 h.symm), Bool.false_or]
  intro h3
  rw [h h3]; simp
theorem LX.stvR1 (X : LX) {Q : Exit → Act → World → Prop} {listed : Array Bool} {a : Act} {w : World} {i d N : Nat} {o : Oper} {v : Value} (hF : FrI (opsOf 1 Try.f3) (X.valR1 N) X.a0 listed a) (hK : Kp X.W w) (hV : listed.getD 8 false = true → X.W.heap.size ≤ N ∧ N < w.heap.size ∧ (∀ j, w.frozen? ⟨N, j, none⟩ = false) ∧ (listed.getD 9 false = false → X.zero N w) ∧ (listed.getD 9 false = true → X.full N w)) (hU : listed.getD 9 false = true → listed.getD 8 false = true)
    (ho : (opsOf 1 Try.f3)[i]? = some o) (hd : o.dst = some d) (hg : o.guard = none) (h8 : i ≠ 8) (h9 : i ≠ 9) (hv : X.valR1 N d = v) (hrun : (execOp a.eval o).run Try.prog w = .ok (.value v) w) : wpOp Try.prog (opsOf 1 Try.f3) Q i (fun a' w' => X.invR1 (listed.setIfInBounds i true) a' w') a w := by
  have hi := hF.lt ho
  unfold wpOp
  rw [ho]
  have hw : Region.wanted o (yielded (opsOf 1 Try.f3) a.tmps) = true := by unfold Region.wanted; rw [hg]
  simp only [hw, if_true]
  refine Or.inl ?_
  unfold Oper.wp
  rw [hrun, ← hv]
  exact ⟨N, hF.put ho hd, hK, X.keepR1 hi h8 h9 (Kp.refl w) hV, LX.upR1 hi h9 hU⟩
theorem LX.stcR1 (X : LX) {Q : Exit → Act → World → Prop} {listed : Array Bool} {a : Act} {w : World} {i d N : Nat} {o : Oper} {v : Value} {f : FuncId} {args : Array Value} (hF : FrI (opsOf 1 Try.f3) (X.valR1 N) X.a0 listed a) (hK : Kp X.W w) (hV : listed.getD 8 false = true → X.W.heap.size ≤ N ∧ N < w.heap.size ∧ (∀ j, w.frozen? ⟨N, j, none⟩ = false) ∧ (listed.getD 9 false = false → X.zero N w) ∧ (listed.getD 9 false = true → X.full N w)) (hU : listed.getD 9 false = true → listed.getD 8 false = true)
    (ho : (opsOf 1 Try.f3)[i]? = some o) (hd : o.dst = some d) (hg : o.guard = none) (h8 : i ≠ 8) (h9 : i ≠ 9) (hv : X.valR1 N d = v) (hrun : (execOp a.eval o).run Try.prog w = .ok (.enter f args) w) (hc : Calls Try.prog f args w fun e w' => e = .returned v ∧ Kp w w') : wpOp Try.prog (opsOf 1 Try.f3) Q i (fun a' w' => X.invR1 (listed.setIfInBounds i true) a' w') a w := by
  have hi := hF.lt ho
  unfold wpOp
  rw [ho]
  have hw : Region.wanted o (yielded (opsOf 1 Try.f3) a.tmps) = true := by unfold Region.wanted; rw [hg]
  simp only [hw, if_true]
  refine Or.inl ?_
  unfold Oper.wp
  rw [hrun]
  refine Calls.mono hc ?_
  rintro e w' ⟨rfl, k⟩
  show X.invR1 _ _ _
  rw [← hv]
  exact ⟨N, hF.put ho hd, Kp.trans hK k, X.keepR1 hi h8 h9 k hV, LX.upR1 hi h9 hU⟩
def LX.stepR1 (X : LX) (i : Nat) : Prop := ∀ (Q : Exit → Act → World → Prop) (listed : Array Bool) (a : Act) (w : World) (o : Oper), X.invR1 listed a w → listed.getD i true = false → (opsOf 1 Try.f3)[i]? = some o → (∀ e ∈ o.after, Region.binds .any e = true → listed.getD e.on false = true) → wpOp Try.prog (opsOf 1 Try.f3) Q i (fun a' w' => X.invR1 (listed.setIfInBounds i true) a' w') a w
theorem LX.sR1_0 (X : LX) (ok : LXok X 5) : X.stepR1 0 := by
  intro Q listed a w o hI h1 ho h2
  obtain ⟨N, hF, hK, hV, hU⟩ := hI
  obtain ⟨hd, hop, hg⟩ := fields (x := some 10) (y := Op.load 23 (.tmp 2)) (z := none) (by kernel_rfl) ho
  have kc := (Kp.cells hK).1
  have hB := ok.hB
  obtain ⟨c0, c1, c2, c3, c4, c5, g0, g1, g2, g3, g4, g5⟩ := ok.cells
  exact X.stvR1 hF hK hV hU ho hd hg (by decide) (by decide) rfl (r_ld6 o a.eval w 2 _ _ _ _ _ _ _ hop ((hF.eval0 (by kernel_rfl)).trans ok.e2) ((kc _ _ (by omega)).trans c0) ((kc _ _ (by omega)).trans c1) ((kc _ _ (by omega)).trans c2) ((kc _ _ (by omega)).trans c3) ((kc _ _ (by omega)).trans c4) ((kc _ _ (by omega)).trans c5))
theorem LX.sR1_1 (X : LX) (ok : LXok X 5) : X.stepR1 1 := by
  intro Q listed a w o hI h1 ho h2
  obtain ⟨N, hF, hK, hV, hU⟩ := hI
  obtain ⟨hd, hop, hg⟩ := fields (x := some 11) (y := Op.call { callee := .value (.func 6), args := #[.tmp 10], argTypes := #[23] }) (z := none) (by kernel_rfl) ho
  exact X.stcR1 hF hK hV hU ho hd hg (by decide) (by decide) rfl (r_callA o a.eval w 10 _ hop rfl (hF.eval (waits ho (j := 0) (by kernel_rfl) h2) (d := 10) (by kernel_rfl) (by rw [ok.sz]; decide))) (toAffine_any _ _ _ _ _ _ _)
theorem LX.sR1_2 (X : LX) (ok : LXok X 5) : X.stepR1 2 := by
  intro Q listed a w o hI h1 ho h2
  obtain ⟨N, hF, hK, hV, hU⟩ := hI
  obtain ⟨hd, hop, hg⟩ := fields (x := some 12) (y := Op.load 23 (.tmp 3)) (z := none) (by kernel_rfl) ho
  have kc := (Kp.cells hK).1
  have hB := ok.hB
  obtain ⟨c0, c1, c2, c3, c4, c5, g0, g1, g2, g3, g4, g5⟩ := ok.cells
  exact X.stvR1 hF hK hV hU ho hd hg (by decide) (by decide) rfl (r_ld6 o a.eval w 3 _ _ _ _ _ _ _ hop ((hF.eval0 (by kernel_rfl)).trans ok.e3) ((kc _ _ (by omega)).trans g0) ((kc _ _ (by omega)).trans g1) ((kc _ _ (by omega)).trans g2) ((kc _ _ (by omega)).trans g3) ((kc _ _ (by omega)).trans g4) ((kc _ _ (by omega)).trans g5))
theorem LX.sR1_3 (X : LX) (ok : LXok X 5) : X.stepR1 3 := by
  intro Q listed a w o hI h1 ho h2
  obtain ⟨N, hF, hK, hV, hU⟩ := hI
  obtain ⟨hd, hop, hg⟩ := fields (x := some 13) (y := Op.call { callee := .value (.func 6), args := #[.tmp 12], argTypes := #[23] }) (z := none) (by kernel_rfl) ho
  exact X.stcR1 hF hK hV hU ho hd hg (by decide) (by decide) rfl (r_callA o a.eval w 12 _ hop rfl (hF.eval (waits ho (j := 2) (by kernel_rfl) h2) (d := 12) (by kernel_rfl) (by rw [ok.sz]; decide))) (toAffine_any _ _ _ _ _ _ _)
theorem LX.sR1_4 (X : LX) (ok : LXok X 5) : X.stepR1 4 := by
  intro Q listed a w o hI h1 ho h2
  obtain ⟨N, hF, hK, hV, hU⟩ := hI
  obtain ⟨hd, hop, hg⟩ := fields (x := some 14) (y := Op.call { callee := .value (.func 5), args := #[.tmp 11, .tmp 13], argTypes := #[24, 24] }) (z := none) (by kernel_rfl) ho
  exact X.stcR1 hF hK hV hU ho hd hg (by decide) (by decide) rfl (r_callS o a.eval w 11 13 _ _ hop rfl (hF.eval (waits ho (j := 1) (by kernel_rfl) h2) (d := 11) (by kernel_rfl) (by rw [ok.sz]; decide)) (hF.eval (waits ho (j := 3) (by kernel_rfl) h2) (d := 13) (by kernel_rfl) (by rw [ok.sz]; decide))) (ok.call _)
theorem LX.sR1_5 (X : LX) (ok : LXok X 5) : X.stepR1 5 := by
  intro Q listed a w o hI h1 ho h2
  obtain ⟨N, hF, hK, hV, hU⟩ := hI
  obtain ⟨hd, hop, hg⟩ := fields (x := some 9) (y := Op.move (.tmp 14)) (z := none) (by kernel_rfl) ho
  exact X.stvR1 hF hK hV hU ho hd hg (by decide) (by decide) rfl (r_mv o a.eval w 14 _ hop (hF.eval (waits ho (j := 4) (by kernel_rfl) h2) (d := 14) (by kernel_rfl) (by rw [ok.sz]; decide)))
theorem LX.sR1_6 (X : LX) (ok : LXok X 5) : X.stepR1 6 := by
  intro Q listed a w o hI h1 ho h2
  obtain ⟨N, hF, hK, hV, hU⟩ := hI
  obtain ⟨hd, hop, hg⟩ := fields (x := some 15) (y := Op.extract (.tmp 9) 0) (z := none) (by kernel_rfl) ho
  exact X.stvR1 hF hK hV hU ho hd hg (by decide) (by decide) rfl (r_ex0 o a.eval w 9 _ _ hop (hF.eval (waits ho (j := 5) (by kernel_rfl) h2) (d := 9) (by kernel_rfl) (by rw [ok.sz]; decide)))
theorem LX.sR1_7 (X : LX) (ok : LXok X 5) : X.stepR1 7 := by
  intro Q listed a w o hI h1 ho h2
  obtain ⟨N, hF, hK, hV, hU⟩ := hI
  obtain ⟨hd, hop, hg⟩ := fields (x := some 16) (y := Op.extract (.tmp 9) 1) (z := none) (by kernel_rfl) ho
  exact X.stvR1 hF hK hV hU ho hd hg (by decide) (by decide) rfl (r_ex1 o a.eval w 9 _ _ hop (hF.eval (waits ho (j := 5) (by kernel_rfl) h2) (d := 9) (by kernel_rfl) (by rw [ok.sz]; decide)))
theorem LX.sR1_8 (X : LX) (ok : LXok X 5) : X.stepR1 8 := by
  intro Q listed a w o hI h1 ho h2
  obtain ⟨N, hF, hK, hV, hU⟩ := hI
  obtain ⟨hd, hop, hg⟩ := fields (x := some 5) (y := Op.alloc 24) (z := none) (by kernel_rfl) ho
  have hi := hF.lt ho
  have hA : listed.getD 8 false = false := by
    rw [Array.getD_eq_getD_getElem?, Array.getElem?_eq_getElem hi] at h1 ⊢; exact h1
  have hS : listed.getD 9 false = false := by
    cases hh : listed.getD 9 false with
    | true => rw [hU hh] at hA; cases hA
    | false => rfl
  have hF2 : FrI (opsOf 1 Try.f3) (X.valR1 w.heap.size) X.a0 listed a := hF.congr fun d hg2 => by
    obtain ⟨j, hj1, hj2⟩ := hg2
    have hne : d ≠ 5 := fun e => by
      subst e
      have hj : j = 8 := by
        have hall : (List.range 11).all (fun j => decide (dstOf (opsOf 1 Try.f3) j = some 5 → j = 8)) = true := by kernel_rfl
        have hlt : j < 11 := by
          rcases Nat.lt_or_ge j 11 with h3 | h3
          · exact h3
          · unfold dstOf at hj2
            rw [Array.getElem?_eq_none (by have : (opsOf 1 Try.f3).size = 11 := by kernel_rfl
                                           omega)] at hj2
            cases hj2
        have := List.all_eq_true.1 hall j (List.mem_range.2 hlt)
        exact of_decide_eq_true this hj2
      rw [hj, hA] at hj1; cases hj1
    unfold LX.valR1
    split <;> first | rfl | exact absurd rfl hne
  unfold wpOp
  rw [ho]
  have hw : Region.wanted o (yielded (opsOf 1 Try.f3) a.tmps) = true := by unfold Region.wanted; rw [hg]
  simp only [hw, if_true]
  refine Or.inl ?_
  unfold Oper.wp
  rw [r_alloc o a.eval _ hop]
  refine ⟨w.heap.size, hF2.put ho hd, hK.alloc _ _, ?_, LX.upR1 hi (by decide) hU⟩
  intro _
  refine ⟨Kp.size hK, by simp, fun j => World.frozen?_alloc_at _ _ _ _ rfl, fun _ j hj => ?_, fun h3 => ?_⟩
  · rw [World.cell?_alloc_at _ _ _ _ rfl]
    rcases (show j = 0 ∨ j = 1 ∨ j = 2 ∨ j = 3 ∨ j = 4 ∨ j = 5 by omega) with rfl | rfl | rfl | rfl | rfl | rfl <;> rfl
  · rw [getF_set hi, hS] at h3; cases h3
theorem LX.sR1_9 (X : LX) (ok : LXok X 5) : X.stepR1 9 := by
  intro Q listed a w o hI h1 ho h2
  obtain ⟨N, hF, hK, hV, hU⟩ := hI
  obtain ⟨hd, hop, hg⟩ := fields (x := none) (y := Op.store 24 (.tmp 5) (.tmp 15)) (z := none) (by kernel_rfl) ho
  have hi := hF.lt ho
  have e1 := (hF.eval (waits ho (j := 8) (by kernel_rfl) h2) (d := 5) (by kernel_rfl) (by rw [ok.sz]; decide))
  have e2 := (hF.eval (waits ho (j := 6) (by kernel_rfl) h2) (d := 15) (by kernel_rfl) (by rw [ok.sz]; decide))
  have hA := waits ho (j := 8) (by kernel_rfl) h2
  have hS : listed.getD 9 false = false := by
    rw [Array.getD_eq_getD_getElem?, Array.getElem?_eq_getElem hi] at h1 ⊢; exact h1
  obtain ⟨p1, p2, p3, p4, _⟩ := hV hA
  unfold wpOp
  rw [ho]
  have hw : Region.wanted o (yielded (opsOf 1 Try.f3) a.tmps) = true := by unfold Region.wanted; rw [hg]
  simp only [hw, if_true]
  refine Or.inl ?_
  unfold Oper.wp
  rw [r_st6 o a.eval w 5 15 N _ _ _ _ _ _ hop e1 e2 (p4 hS) p3]
  have hs := six_set w N (.int .i64 X.y0) (.int .i64 X.y1) (.int .i64 X.y2) (.int .i64 X.y3) (.int .i64 X.y4) (.int .i64 X.y5) (p4 hS)
  refine ⟨N, hF.skip ho hd _, (((((hK.setCell p1 _).setCell p1 _).setCell p1 _).setCell p1 _).setCell p1 _).setCell p1 _, fun _ => ⟨p1, ?_, fun j => ?_, fun h3 => ?_, fun _ => hs⟩, fun _ => by rw [getF_set hi, hA]; simp⟩
  · simpa [World.setCell] using p2
  · simp only [World.frozen?_setCell]; exact p3 j
  · rw [getF_set hi] at h3; simp at h3
theorem LX.sR1_10 (X : LX) (ok : LXok X 5) : X.stepR1 10 := by
  intro Q listed a w o hI h1 ho h2
  obtain ⟨N, hF, hK, hV, hU⟩ := hI
  obtain ⟨hd, hop, hg⟩ := fields (x := some 6) (y := Op.assign (.tmp 16)) (z := none) (by kernel_rfl) ho
  exact X.stvR1 hF hK hV hU ho hd hg (by decide) (by decide) rfl (r_as o a.eval w 16 _ hop (hF.eval (waits ho (j := 7) (by kernel_rfl) h2) (d := 16) (by kernel_rfl) (by rw [ok.sz]; decide)))
theorem LX.stepsR1 (X : LX) (ok : LXok X 5) (i : Nat) (hi : i < 11) : X.stepR1 i := by
  rcases (show i = 0 ∨ i = 1 ∨ i = 2 ∨ i = 3 ∨ i = 4 ∨ i = 5 ∨ i = 6 ∨ i = 7 ∨ i = 8 ∨ i = 9 ∨ i = 10 by omega) with rfl | rfl | rfl | rfl | rfl | rfl | rfl | rfl | rfl | rfl | rfl
  · exact X.sR1_0 ok
  · exact X.sR1_1 ok
  · exact X.sR1_2 ok
  · exact X.sR1_3 ok
  · exact X.sR1_4 ok
  · exact X.sR1_5 ok
  · exact X.sR1_6 ok
  · exact X.sR1_7 ok
  · exact X.sR1_8 ok
  · exact X.sR1_9 ok
  · exact X.sR1_10 ok
theorem LX.runR1 (X : LX) (ok : LXok X 5) {Q : Exit → Act → World → Prop} (hend : ∀ N w act, Kp X.W w → X.W.heap.size ≤ N → N < w.heap.size → X.full N w → act = ⟨((List.range X.a0.tmps.size).map fun d => if (List.range (opsOf 1 Try.f3).size).any (fun i => dstOf (opsOf 1 Try.f3) i == some d) then X.valR1 N d else X.a0.tmps.getD d undef).toArray, X.a0.defers⟩ → Q .normal act w) (w : World) (hw : { w with drawn := w.drawn + 1 } = X.W) : (Code.region 1 (opsOf 1 Try.f3) true).wp Try.prog Q X.a0 w := by
  have hsz : (opsOf 1 Try.f3).size = 11 := by kernel_rfl
  refine wp_region_any (by kernel_rfl) ?_
  rw [hw]
  refine wpAny_inv X.invR1 (fun listed a w i o hI h1 ho h2 => ?_) (fun listed a w hI hr => ?_) _ _ _ _ ?_ ?_
  · have hi : i < 11 := by rw [← hsz]; exact (Array.getElem?_eq_some_iff.1 ho).1
    exact X.stepsR1 ok i hi Q listed a w o hI h1 ho h2
  · obtain ⟨N, hF, hK, hV, hU⟩ := hI
    have hall := all_of_ready (by kernel_rfl) hF.size hr
    obtain ⟨p1, p2, _, _, p5⟩ := hV (hall 8 (by rw [hsz]; decide))
    exact hend N w a hK p1 p2 (p5 (hall 9 (by rw [hsz]; decide))) (hF.fin hall)
  · have hno : ∀ j, (Array.replicate (opsOf 1 Try.f3).size false).getD j false = false := fun j => by
      rw [Array.getD_eq_getD_getElem?, Array.getElem?_replicate]; split <;> rfl
    refine ⟨0, ⟨by simp, rfl, rfl, fun d _ hg => ?_, fun d _ => rfl⟩, Kp.refl _, fun h => ?_, fun h => ?_⟩
    · obtain ⟨i, h1, _⟩ := hg; rw [hno] at h1; cases h1
    · rw [hno] at h; cases h
    · rw [hno] at h; cases h
  · unfold left; exact Nat.le_trans (List.length_filter_le _ _) (by simp)
def LX.valR2 (X : LX) (N : Nat) : Nat → Value
  | 7 => .pointer (some ⟨N, 0, none⟩)
  | 8 => .bool X.ok
  | 17 => .tuple #[.agg #[.int .i64 X.y0, .int .i64 X.y1, .int .i64 X.y2, .int .i64 X.y3, .int .i64 X.y4, .int .i64 X.y5], .bool X.ok]
  | 18 => .agg #[.int .i64 X.a, .int .i64 X.b, .int .i64 X.c, .int .i64 X.d, .int .i64 X.e, .int .i64 X.f]
  | 19 => .agg #[.int .i64 X.a, .int .i64 X.b, .int .i64 X.c, .int .i64 X.d, .int .i64 X.e, .int .i64 X.f]
  | 20 => .agg #[.int .i64 X.p, .int .i64 X.q, .int .i64 X.r, .int .i64 X.s, .int .i64 X.t, .int .i64 X.u]
  | 21 => .agg #[.int .i64 X.p, .int .i64 X.q, .int .i64 X.r, .int .i64 X.s, .int .i64 X.t, .int .i64 X.u]
  | 22 => .tuple #[.agg #[.int .i64 X.y0, .int .i64 X.y1, .int .i64 X.y2, .int .i64 X.y3, .int .i64 X.y4, .int .i64 X.y5], .bool X.ok]
  | 23 => .agg #[.int .i64 X.y0, .int .i64 X.y1, .int .i64 X.y2, .int .i64 X.y3, .int .i64 X.y4, .int .i64 X.y5]
  | 24 => .bool X.ok
  | _ => undef
def LX.invR2 (X : LX) (listed : Array Bool) (a : Act) (w : World) : Prop :=
  ∃ N, FrI (opsOf 2 Try.f3) (X.valR2 N) X.a0 listed a ∧ Kp X.W w ∧ (listed.getD 8 false = true → X.W.heap.size ≤ N ∧ N < w.heap.size ∧ (∀ j, w.frozen? ⟨N, j, none⟩ = false) ∧ (listed.getD 9 false = false → X.zero N w) ∧ (listed.getD 9 false = true → X.full N w)) ∧ (listed.getD 9 false = true → listed.getD 8 false = true)
/-- The variable's facts are kept where nothing that was there is written. -/
theorem LX.keepR2 (X : LX) {listed : Array Bool} {N i : Nat} {w w' : World} (hi : i < listed.size) (h8 : i ≠ 8) (h9 : i ≠ 9) (k : Kp w w') (h : listed.getD 8 false = true → X.W.heap.size ≤ N ∧ N < w.heap.size ∧ (∀ j, w.frozen? ⟨N, j, none⟩ = false) ∧ (listed.getD 9 false = false → X.zero N w) ∧ (listed.getD 9 false = true → X.full N w)) :
    (listed.setIfInBounds i true).getD 8 false = true → X.W.heap.size ≤ N ∧ N < w'.heap.size ∧ (∀ j, w'.frozen? ⟨N, j, none⟩ = false) ∧ ((listed.setIfInBounds i true).getD 9 false = false → X.zero N w') ∧ ((listed.setIfInBounds i true).getD 9 false = true → X.full N w') := by
  rw [getF_set hi, getF_set hi, decide_eq_false (fun h => h8 h.symm), decide_eq_false (fun h => h9 h.symm), Bool.false_or, Bool.false_or]
  intro h1
  obtain ⟨p1, p2, p3, p4, p5⟩ := h h1
  have kc := (Kp.cells k).1
  refine ⟨p1, Nat.lt_of_lt_of_le p2 (Kp.size k), fun j => ((Kp.cells k).2 _ _).trans (p3 j), fun h2 j hj => (kc _ _ p2).trans (p4 h2 j hj), fun h2 => ?_⟩
  obtain ⟨q0, q1, q2, q3, q4, q5⟩ := p5 h2
  exact ⟨(kc _ _ p2).trans q0, (kc _ _ p2).trans q1, (kc _ _ p2).trans q2, (kc _ _ p2).trans q3, (kc _ _ p2).trans q4, (kc _ _ p2).trans q5⟩
theorem LX.upR2 {listed : Array Bool} {i : Nat} (hi : i < listed.size) (h9 : i ≠ 9) (h : listed.getD 9 false = true → listed.getD 8 false = true) : (listed.setIfInBounds i true).getD 9 false = true → (listed.setIfInBounds i true).getD 8 false = true := by
  rw [getF_set hi, getF_set hi, decide_eq_false (fun h => h9 h.symm), Bool.false_or]
  intro h3
  rw [h h3]; simp
theorem LX.stvR2 (X : LX) {Q : Exit → Act → World → Prop} {listed : Array Bool} {a : Act} {w : World} {i d N : Nat} {o : Oper} {v : Value} (hF : FrI (opsOf 2 Try.f3) (X.valR2 N) X.a0 listed a) (hK : Kp X.W w) (hV : listed.getD 8 false = true → X.W.heap.size ≤ N ∧ N < w.heap.size ∧ (∀ j, w.frozen? ⟨N, j, none⟩ = false) ∧ (listed.getD 9 false = false → X.zero N w) ∧ (listed.getD 9 false = true → X.full N w)) (hU : listed.getD 9 false = true → listed.getD 8 false = true)
    (ho : (opsOf 2 Try.f3)[i]? = some o) (hd : o.dst = some d) (hg : o.guard = none) (h8 : i ≠ 8) (h9 : i ≠ 9) (hv : X.valR2 N d = v) (hrun : (execOp a.eval o).run Try.prog w = .ok (.value v) w) : wpOp Try.prog (opsOf 2 Try.f3) Q i (fun a' w' => X.invR2 (listed.setIfInBounds i true) a' w') a w := by
  have hi := hF.lt ho
  unfold wpOp
  rw [ho]
  have hw : Region.wanted o (yielded (opsOf 2 Try.f3) a.tmps) = true := by unfold Region.wanted; rw [hg]
  simp only [hw, if_true]
  refine Or.inl ?_
  unfold Oper.wp
  rw [hrun, ← hv]
  exact ⟨N, hF.put ho hd, hK, X.keepR2 hi h8 h9 (Kp.refl w) hV, LX.upR2 hi h9 hU⟩
theorem LX.stcR2 (X : LX) {Q : Exit → Act → World → Prop} {listed : Array Bool} {a : Act} {w : World} {i d N : Nat} {o : Oper} {v : Value} {f : FuncId} {args : Array Value} (hF : FrI (opsOf 2 Try.f3) (X.valR2 N) X.a0 listed a) (hK : Kp X.W w) (hV : listed.getD 8 false = true → X.W.heap.size ≤ N ∧ N < w.heap.size ∧ (∀ j, w.frozen? ⟨N, j, none⟩ = false) ∧ (listed.getD 9 false = false → X.zero N w) ∧ (listed.getD 9 false = true → X.full N w)) (hU : listed.getD 9 false = true → listed.getD 8 false = true)
    (ho : (opsOf 2 Try.f3)[i]? = some o) (hd : o.dst = some d) (hg : o.guard = none) (h8 : i ≠ 8) (h9 : i ≠ 9) (hv : X.valR2 N d = v) (hrun : (execOp a.eval o).run Try.prog w = .ok (.enter f args) w) (hc : Calls Try.prog f args w fun e w' => e = .returned v ∧ Kp w w') : wpOp Try.prog (opsOf 2 Try.f3) Q i (fun a' w' => X.invR2 (listed.setIfInBounds i true) a' w') a w := by
  have hi := hF.lt ho
  unfold wpOp
  rw [ho]
  have hw : Region.wanted o (yielded (opsOf 2 Try.f3) a.tmps) = true := by unfold Region.wanted; rw [hg]
  simp only [hw, if_true]
  refine Or.inl ?_
  unfold Oper.wp
  rw [hrun]
  refine Calls.mono hc ?_
  rintro e w' ⟨rfl, k⟩
  show X.invR2 _ _ _
  rw [← hv]
  exact ⟨N, hF.put ho hd, Kp.trans hK k, X.keepR2 hi h8 h9 k hV, LX.upR2 hi h9 hU⟩
def LX.stepR2 (X : LX) (i : Nat) : Prop := ∀ (Q : Exit → Act → World → Prop) (listed : Array Bool) (a : Act) (w : World) (o : Oper), X.invR2 listed a w → listed.getD i true = false → (opsOf 2 Try.f3)[i]? = some o → (∀ e ∈ o.after, Region.binds .any e = true → listed.getD e.on false = true) → wpOp Try.prog (opsOf 2 Try.f3) Q i (fun a' w' => X.invR2 (listed.setIfInBounds i true) a' w') a w
theorem LX.sR2_0 (X : LX) (ok : LXok X 7) : X.stepR2 0 := by
  intro Q listed a w o hI h1 ho h2
  obtain ⟨N, hF, hK, hV, hU⟩ := hI
  obtain ⟨hd, hop, hg⟩ := fields (x := some 18) (y := Op.load 23 (.tmp 2)) (z := none) (by kernel_rfl) ho
  have kc := (Kp.cells hK).1
  have hB := ok.hB
  obtain ⟨c0, c1, c2, c3, c4, c5, g0, g1, g2, g3, g4, g5⟩ := ok.cells
  exact X.stvR2 hF hK hV hU ho hd hg (by decide) (by decide) rfl (r_ld6 o a.eval w 2 _ _ _ _ _ _ _ hop ((hF.eval0 (by kernel_rfl)).trans ok.e2) ((kc _ _ (by omega)).trans c0) ((kc _ _ (by omega)).trans c1) ((kc _ _ (by omega)).trans c2) ((kc _ _ (by omega)).trans c3) ((kc _ _ (by omega)).trans c4) ((kc _ _ (by omega)).trans c5))
theorem LX.sR2_1 (X : LX) (ok : LXok X 7) : X.stepR2 1 := by
  intro Q listed a w o hI h1 ho h2
  obtain ⟨N, hF, hK, hV, hU⟩ := hI
  obtain ⟨hd, hop, hg⟩ := fields (x := some 19) (y := Op.call { callee := .value (.func 6), args := #[.tmp 18], argTypes := #[23] }) (z := none) (by kernel_rfl) ho
  exact X.stcR2 hF hK hV hU ho hd hg (by decide) (by decide) rfl (r_callA o a.eval w 18 _ hop rfl (hF.eval (waits ho (j := 0) (by kernel_rfl) h2) (d := 18) (by kernel_rfl) (by rw [ok.sz]; decide))) (toAffine_any _ _ _ _ _ _ _)
theorem LX.sR2_2 (X : LX) (ok : LXok X 7) : X.stepR2 2 := by
  intro Q listed a w o hI h1 ho h2
  obtain ⟨N, hF, hK, hV, hU⟩ := hI
  obtain ⟨hd, hop, hg⟩ := fields (x := some 20) (y := Op.load 23 (.tmp 3)) (z := none) (by kernel_rfl) ho
  have kc := (Kp.cells hK).1
  have hB := ok.hB
  obtain ⟨c0, c1, c2, c3, c4, c5, g0, g1, g2, g3, g4, g5⟩ := ok.cells
  exact X.stvR2 hF hK hV hU ho hd hg (by decide) (by decide) rfl (r_ld6 o a.eval w 3 _ _ _ _ _ _ _ hop ((hF.eval0 (by kernel_rfl)).trans ok.e3) ((kc _ _ (by omega)).trans g0) ((kc _ _ (by omega)).trans g1) ((kc _ _ (by omega)).trans g2) ((kc _ _ (by omega)).trans g3) ((kc _ _ (by omega)).trans g4) ((kc _ _ (by omega)).trans g5))
theorem LX.sR2_3 (X : LX) (ok : LXok X 7) : X.stepR2 3 := by
  intro Q listed a w o hI h1 ho h2
  obtain ⟨N, hF, hK, hV, hU⟩ := hI
  obtain ⟨hd, hop, hg⟩ := fields (x := some 21) (y := Op.call { callee := .value (.func 6), args := #[.tmp 20], argTypes := #[23] }) (z := none) (by kernel_rfl) ho
  exact X.stcR2 hF hK hV hU ho hd hg (by decide) (by decide) rfl (r_callA o a.eval w 20 _ hop rfl (hF.eval (waits ho (j := 2) (by kernel_rfl) h2) (d := 20) (by kernel_rfl) (by rw [ok.sz]; decide))) (toAffine_any _ _ _ _ _ _ _)
theorem LX.sR2_4 (X : LX) (ok : LXok X 7) : X.stepR2 4 := by
  intro Q listed a w o hI h1 ho h2
  obtain ⟨N, hF, hK, hV, hU⟩ := hI
  obtain ⟨hd, hop, hg⟩ := fields (x := some 22) (y := Op.call { callee := .value (.func 7), args := #[.tmp 19, .tmp 21], argTypes := #[24, 24] }) (z := none) (by kernel_rfl) ho
  exact X.stcR2 hF hK hV hU ho hd hg (by decide) (by decide) rfl (r_callI o a.eval w 19 21 _ _ hop rfl (hF.eval (waits ho (j := 1) (by kernel_rfl) h2) (d := 19) (by kernel_rfl) (by rw [ok.sz]; decide)) (hF.eval (waits ho (j := 3) (by kernel_rfl) h2) (d := 21) (by kernel_rfl) (by rw [ok.sz]; decide))) (ok.call _)
theorem LX.sR2_5 (X : LX) (ok : LXok X 7) : X.stepR2 5 := by
  intro Q listed a w o hI h1 ho h2
  obtain ⟨N, hF, hK, hV, hU⟩ := hI
  obtain ⟨hd, hop, hg⟩ := fields (x := some 17) (y := Op.move (.tmp 22)) (z := none) (by kernel_rfl) ho
  exact X.stvR2 hF hK hV hU ho hd hg (by decide) (by decide) rfl (r_mv o a.eval w 22 _ hop (hF.eval (waits ho (j := 4) (by kernel_rfl) h2) (d := 22) (by kernel_rfl) (by rw [ok.sz]; decide)))
theorem LX.sR2_6 (X : LX) (ok : LXok X 7) : X.stepR2 6 := by
  intro Q listed a w o hI h1 ho h2
  obtain ⟨N, hF, hK, hV, hU⟩ := hI
  obtain ⟨hd, hop, hg⟩ := fields (x := some 23) (y := Op.extract (.tmp 17) 0) (z := none) (by kernel_rfl) ho
  exact X.stvR2 hF hK hV hU ho hd hg (by decide) (by decide) rfl (r_ex0 o a.eval w 17 _ _ hop (hF.eval (waits ho (j := 5) (by kernel_rfl) h2) (d := 17) (by kernel_rfl) (by rw [ok.sz]; decide)))
theorem LX.sR2_7 (X : LX) (ok : LXok X 7) : X.stepR2 7 := by
  intro Q listed a w o hI h1 ho h2
  obtain ⟨N, hF, hK, hV, hU⟩ := hI
  obtain ⟨hd, hop, hg⟩ := fields (x := some 24) (y := Op.extract (.tmp 17) 1) (z := none) (by kernel_rfl) ho
  exact X.stvR2 hF hK hV hU ho hd hg (by decide) (by decide) rfl (r_ex1 o a.eval w 17 _ _ hop (hF.eval (waits ho (j := 5) (by kernel_rfl) h2) (d := 17) (by kernel_rfl) (by rw [ok.sz]; decide)))
theorem LX.sR2_8 (X : LX) (ok : LXok X 7) : X.stepR2 8 := by
  intro Q listed a w o hI h1 ho h2
  obtain ⟨N, hF, hK, hV, hU⟩ := hI
  obtain ⟨hd, hop, hg⟩ := fields (x := some 7) (y := Op.alloc 24) (z := none) (by kernel_rfl) ho
  have hi := hF.lt ho
  have hA : listed.getD 8 false = false := by
    rw [Array.getD_eq_getD_getElem?, Array.getElem?_eq_getElem hi] at h1 ⊢; exact h1
  have hS : listed.getD 9 false = false := by
    cases hh : listed.getD 9 false with
    | true => rw [hU hh] at hA; cases hA
    | false => rfl
  have hF2 : FrI (opsOf 2 Try.f3) (X.valR2 w.heap.size) X.a0 listed a := hF.congr fun d hg2 => by
    obtain ⟨j, hj1, hj2⟩ := hg2
    have hne : d ≠ 7 := fun e => by
      subst e
      have hj : j = 8 := by
        have hall : (List.range 11).all (fun j => decide (dstOf (opsOf 2 Try.f3) j = some 7 → j = 8)) = true := by kernel_rfl
        have hlt : j < 11 := by
          rcases Nat.lt_or_ge j 11 with h3 | h3
          · exact h3
          · unfold dstOf at hj2
            rw [Array.getElem?_eq_none (by have : (opsOf 2 Try.f3).size = 11 := by kernel_rfl
                                           omega)] at hj2
            cases hj2
        have := List.all_eq_true.1 hall j (List.mem_range.2 hlt)
        exact of_decide_eq_true this hj2
      rw [hj, hA] at hj1; cases hj1
    unfold LX.valR2
    split <;> first | rfl | exact absurd rfl hne
  unfold wpOp
  rw [ho]
  have hw : Region.wanted o (yielded (opsOf 2 Try.f3) a.tmps) = true := by unfold Region.wanted; rw [hg]
  simp only [hw, if_true]
  refine Or.inl ?_
  unfold Oper.wp
  rw [r_alloc o a.eval _ hop]
  refine ⟨w.heap.size, hF2.put ho hd, hK.alloc _ _, ?_, LX.upR2 hi (by decide) hU⟩
  intro _
  refine ⟨Kp.size hK, by simp, fun j => World.frozen?_alloc_at _ _ _ _ rfl, fun _ j hj => ?_, fun h3 => ?_⟩
  · rw [World.cell?_alloc_at _ _ _ _ rfl]
    rcases (show j = 0 ∨ j = 1 ∨ j = 2 ∨ j = 3 ∨ j = 4 ∨ j = 5 by omega) with rfl | rfl | rfl | rfl | rfl | rfl <;> rfl
  · rw [getF_set hi, hS] at h3; cases h3
theorem LX.sR2_9 (X : LX) (ok : LXok X 7) : X.stepR2 9 := by
  intro Q listed a w o hI h1 ho h2
  obtain ⟨N, hF, hK, hV, hU⟩ := hI
  obtain ⟨hd, hop, hg⟩ := fields (x := none) (y := Op.store 24 (.tmp 7) (.tmp 23)) (z := none) (by kernel_rfl) ho
  have hi := hF.lt ho
  have e1 := (hF.eval (waits ho (j := 8) (by kernel_rfl) h2) (d := 7) (by kernel_rfl) (by rw [ok.sz]; decide))
  have e2 := (hF.eval (waits ho (j := 6) (by kernel_rfl) h2) (d := 23) (by kernel_rfl) (by rw [ok.sz]; decide))
  have hA := waits ho (j := 8) (by kernel_rfl) h2
  have hS : listed.getD 9 false = false := by
    rw [Array.getD_eq_getD_getElem?, Array.getElem?_eq_getElem hi] at h1 ⊢; exact h1
  obtain ⟨p1, p2, p3, p4, _⟩ := hV hA
  unfold wpOp
  rw [ho]
  have hw : Region.wanted o (yielded (opsOf 2 Try.f3) a.tmps) = true := by unfold Region.wanted; rw [hg]
  simp only [hw, if_true]
  refine Or.inl ?_
  unfold Oper.wp
  rw [r_st6 o a.eval w 7 23 N _ _ _ _ _ _ hop e1 e2 (p4 hS) p3]
  have hs := six_set w N (.int .i64 X.y0) (.int .i64 X.y1) (.int .i64 X.y2) (.int .i64 X.y3) (.int .i64 X.y4) (.int .i64 X.y5) (p4 hS)
  refine ⟨N, hF.skip ho hd _, (((((hK.setCell p1 _).setCell p1 _).setCell p1 _).setCell p1 _).setCell p1 _).setCell p1 _, fun _ => ⟨p1, ?_, fun j => ?_, fun h3 => ?_, fun _ => hs⟩, fun _ => by rw [getF_set hi, hA]; simp⟩
  · simpa [World.setCell] using p2
  · simp only [World.frozen?_setCell]; exact p3 j
  · rw [getF_set hi] at h3; simp at h3
theorem LX.sR2_10 (X : LX) (ok : LXok X 7) : X.stepR2 10 := by
  intro Q listed a w o hI h1 ho h2
  obtain ⟨N, hF, hK, hV, hU⟩ := hI
  obtain ⟨hd, hop, hg⟩ := fields (x := some 8) (y := Op.assign (.tmp 24)) (z := none) (by kernel_rfl) ho
  exact X.stvR2 hF hK hV hU ho hd hg (by decide) (by decide) rfl (r_as o a.eval w 24 _ hop (hF.eval (waits ho (j := 7) (by kernel_rfl) h2) (d := 24) (by kernel_rfl) (by rw [ok.sz]; decide)))
theorem LX.stepsR2 (X : LX) (ok : LXok X 7) (i : Nat) (hi : i < 11) : X.stepR2 i := by
  rcases (show i = 0 ∨ i = 1 ∨ i = 2 ∨ i = 3 ∨ i = 4 ∨ i = 5 ∨ i = 6 ∨ i = 7 ∨ i = 8 ∨ i = 9 ∨ i = 10 by omega) with rfl | rfl | rfl | rfl | rfl | rfl | rfl | rfl | rfl | rfl | rfl
  · exact X.sR2_0 ok
  · exact X.sR2_1 ok
  · exact X.sR2_2 ok
  · exact X.sR2_3 ok
  · exact X.sR2_4 ok
  · exact X.sR2_5 ok
  · exact X.sR2_6 ok
  · exact X.sR2_7 ok
  · exact X.sR2_8 ok
  · exact X.sR2_9 ok
  · exact X.sR2_10 ok
theorem LX.runR2 (X : LX) (ok : LXok X 7) {Q : Exit → Act → World → Prop} (hend : ∀ N w act, Kp X.W w → X.W.heap.size ≤ N → N < w.heap.size → X.full N w → act = ⟨((List.range X.a0.tmps.size).map fun d => if (List.range (opsOf 2 Try.f3).size).any (fun i => dstOf (opsOf 2 Try.f3) i == some d) then X.valR2 N d else X.a0.tmps.getD d undef).toArray, X.a0.defers⟩ → Q .normal act w) (w : World) (hw : { w with drawn := w.drawn + 1 } = X.W) : (Code.region 2 (opsOf 2 Try.f3) true).wp Try.prog Q X.a0 w := by
  have hsz : (opsOf 2 Try.f3).size = 11 := by kernel_rfl
  refine wp_region_any (by kernel_rfl) ?_
  rw [hw]
  refine wpAny_inv X.invR2 (fun listed a w i o hI h1 ho h2 => ?_) (fun listed a w hI hr => ?_) _ _ _ _ ?_ ?_
  · have hi : i < 11 := by rw [← hsz]; exact (Array.getElem?_eq_some_iff.1 ho).1
    exact X.stepsR2 ok i hi Q listed a w o hI h1 ho h2
  · obtain ⟨N, hF, hK, hV, hU⟩ := hI
    have hall := all_of_ready (by kernel_rfl) hF.size hr
    obtain ⟨p1, p2, _, _, p5⟩ := hV (hall 8 (by rw [hsz]; decide))
    exact hend N w a hK p1 p2 (p5 (hall 9 (by rw [hsz]; decide))) (hF.fin hall)
  · have hno : ∀ j, (Array.replicate (opsOf 2 Try.f3).size false).getD j false = false := fun j => by
      rw [Array.getD_eq_getD_getElem?, Array.getElem?_replicate]; split <;> rfl
    refine ⟨0, ⟨by simp, rfl, rfl, fun d _ hg => ?_, fun d _ => rfl⟩, Kp.refl _, fun h => ?_, fun h => ?_⟩
    · obtain ⟨i, h1, _⟩ := hg; rw [hno] at h1; cases h1
    · rw [hno] at h; cases h
    · rw [hno] at h; cases h
  · unfold left; exact Nat.le_trans (List.length_filter_le _ _) (by simp)
set_option maxHeartbeats 4000000 in
/-- The walk of the law on MulAffine. -/
theorem walk_mulaff (w : World) (a b c d e f : Int) (a' b' c' d' e' f' : Int) (hb : (-9223372036854775808 ≤ a ∧ a ≤ 9223372036854775807) ∧ (-9223372036854775808 ≤ b ∧ b ≤ 9223372036854775807) ∧ (-9223372036854775808 ≤ c ∧ c ≤ 9223372036854775807) ∧ (-9223372036854775808 ≤ d ∧ d ≤ 9223372036854775807) ∧ (-9223372036854775808 ≤ e ∧ e ≤ 9223372036854775807) ∧ (-9223372036854775808 ≤ f ∧ f ≤ 9223372036854775807)) (hb' : (-9223372036854775808 ≤ a' ∧ a' ≤ 9223372036854775807) ∧ (-9223372036854775808 ≤ b' ∧ b' ≤ 9223372036854775807) ∧ (-9223372036854775808 ≤ c' ∧ c' ≤ 9223372036854775807) ∧ (-9223372036854775808 ≤ d' ∧ d' ≤ 9223372036854775807) ∧ (-9223372036854775808 ≤ e' ∧ e' ≤ 9223372036854775807) ∧ (-9223372036854775808 ≤ f' ∧ f' ≤ 9223372036854775807)) :
    Calls Try.prog 3 #[affV a b c d e f, affV a' b' c' d' e' f'] w fun x w' => x = .returned (.bool true) ∧ Below w.heap.size w w' := by
  clear hb hb'
  obtain ⟨⟨x0, x1, x2, x3, x4, x5, ok⟩, hS, hI⟩ := mul_both a b c d e f a' b' c' d' e' f'
  have HS : Hid _ := hS
  have HI : Hid _ := hI
  clear hS hI
  unfold MR.v at HS HI
  simp only at HS HI
  unfold affV at *
  go_enter Try.func3, Try.ntmps3
  go_wp2_with fail
  generalize hW : (w.alloc (.cells #[.int .i64 a, .int .i64 b, .int .i64 c, .int .i64 d, .int .i64 e, .int .i64 f] 23)).alloc (.cells #[.int .i64 a', .int .i64 b', .int .i64 c', .int .i64 d', .int .i64 e', .int .i64 f'] 23) = W
  have hsz : W.heap.size = w.heap.size + 2 := by rw [← hW]; simp
  have hall : W.cell? ⟨w.heap.size, 0, none⟩ = some (.int .i64 a) ∧ W.cell? ⟨w.heap.size, 1, none⟩ = some (.int .i64 b) ∧ W.cell? ⟨w.heap.size, 2, none⟩ = some (.int .i64 c) ∧ W.cell? ⟨w.heap.size, 3, none⟩ = some (.int .i64 d) ∧ W.cell? ⟨w.heap.size, 4, none⟩ = some (.int .i64 e) ∧ W.cell? ⟨w.heap.size, 5, none⟩ = some (.int .i64 f) ∧ W.cell? ⟨w.heap.size + 1, 0, none⟩ = some (.int .i64 a') ∧ W.cell? ⟨w.heap.size + 1, 1, none⟩ = some (.int .i64 b') ∧ W.cell? ⟨w.heap.size + 1, 2, none⟩ = some (.int .i64 c') ∧ W.cell? ⟨w.heap.size + 1, 3, none⟩ = some (.int .i64 d') ∧ W.cell? ⟨w.heap.size + 1, 4, none⟩ = some (.int .i64 e') ∧ W.cell? ⟨w.heap.size + 1, 5, none⟩ = some (.int .i64 f') := by
    refine ⟨?_, ?_, ?_, ?_, ?_, ?_, ?_, ?_, ?_, ?_, ?_, ?_⟩
    all_goals (rw [← hW]; first | (rw [World.cell?_alloc_past _ _ _ (by simp), World.cell?_alloc_at _ _ _ _ rfl]; rfl) | (rw [World.cell?_alloc_at _ _ _ _ (by simp)]; rfl))
  have HW : Hid (Kp w W) := by rw [← hW]; exact ((Kp.refl w).alloc _ _).alloc _ _
  clear hW
  obtain ⟨B, hB⟩ : ∃ B, w.heap.size = B := ⟨_, rfl⟩
  rw [hB] at hsz hall ⊢
  have HB : Hid (B + 1 < W.heap.size) := (show _ < _ by omega)
  have HA : Hid _ := hall
  clear hall hsz
  refine reg_change (ops' := (opsOf 1 Try.f3)) (by kernel_rfl) ?_
  refine LX.runR1 ⟨a, b, c, d, e, f, a', b', c', d', e', f', x0, x1, x2, x3, x4, x5, ok, B, W.drew, ⟨(List.toArray ((affV a b c d e f) :: (affV a' b' c' d' e' f') :: (.pointer (some ⟨B, 0, none⟩)) :: (.pointer (some ⟨B + 1, 0, none⟩)) :: (.bool false) :: undef :: undef :: undef :: undef :: undef :: undef :: undef :: undef :: undef :: undef :: undef :: undef :: undef :: undef :: undef :: undef :: undef :: undef :: undef :: undef :: undef :: undef :: undef :: undef :: undef :: undef :: undef :: undef :: undef :: [])), []⟩⟩ ⟨HB.out, HA.out, rfl, rfl, rfl, HS.out⟩ ?_ W rfl
  intro N1 w1 act k1 p1 q1 f1 hact
  have hlit : act = ⟨(List.toArray ((affV a b c d e f) :: (affV a' b' c' d' e' f') :: (.pointer (some ⟨B, 0, none⟩)) :: (.pointer (some ⟨B + 1, 0, none⟩)) :: (.bool false) :: (.pointer (some ⟨N1, 0, none⟩)) :: (.bool ok) :: undef :: undef :: (.tuple #[.agg #[.int .i64 x0, .int .i64 x1, .int .i64 x2, .int .i64 x3, .int .i64 x4, .int .i64 x5], .bool ok]) :: (.agg #[.int .i64 a, .int .i64 b, .int .i64 c, .int .i64 d, .int .i64 e, .int .i64 f]) :: (.agg #[.int .i64 a, .int .i64 b, .int .i64 c, .int .i64 d, .int .i64 e, .int .i64 f]) :: (.agg #[.int .i64 a', .int .i64 b', .int .i64 c', .int .i64 d', .int .i64 e', .int .i64 f']) :: (.agg #[.int .i64 a', .int .i64 b', .int .i64 c', .int .i64 d', .int .i64 e', .int .i64 f']) :: (.tuple #[.agg #[.int .i64 x0, .int .i64 x1, .int .i64 x2, .int .i64 x3, .int .i64 x4, .int .i64 x5], .bool ok]) :: (.agg #[.int .i64 x0, .int .i64 x1, .int .i64 x2, .int .i64 x3, .int .i64 x4, .int .i64 x5]) :: (.bool ok) :: undef :: undef :: undef :: undef :: undef :: undef :: undef :: undef :: undef :: undef :: undef :: undef :: undef :: undef :: undef :: undef :: undef :: [])), []⟩ := hact.trans (by kernel_rfl)
  rw [hlit]
  clear hlit hact act
  have K1 : Hid (Kp W w1) := Kp.trans ((Kp.refl W).drew) k1
  have F1 : Hid _ := f1
  have Q1 : Hid (N1 < w1.heap.size) := q1
  have A1 : Hid _ := keep6 B a b c d e f a' b' c' d' e' f' HB.out K1.out HA.out
  have B1 : Hid (B + 1 < w1.heap.size) := Nat.lt_of_lt_of_le HB.out (Kp.size K1.out)
  clear k1 p1 q1 f1 HA HB HS
  unfold affV
  go_wp2_with fail
  refine reg_change (ops' := (opsOf 2 Try.f3)) (by kernel_rfl) ?_
  refine LX.runR2 ⟨a, b, c, d, e, f, a', b', c', d', e', f', x0, x1, x2, x3, x4, x5, ok, B, w1.drew, ⟨(List.toArray ((affV a b c d e f) :: (affV a' b' c' d' e' f') :: (.pointer (some ⟨B, 0, none⟩)) :: (.pointer (some ⟨B + 1, 0, none⟩)) :: (.bool false) :: (.pointer (some ⟨N1, 0, none⟩)) :: (.bool ok) :: undef :: undef :: (.tuple #[.agg #[.int .i64 x0, .int .i64 x1, .int .i64 x2, .int .i64 x3, .int .i64 x4, .int .i64 x5], .bool ok]) :: (.agg #[.int .i64 a, .int .i64 b, .int .i64 c, .int .i64 d, .int .i64 e, .int .i64 f]) :: (.agg #[.int .i64 a, .int .i64 b, .int .i64 c, .int .i64 d, .int .i64 e, .int .i64 f]) :: (.agg #[.int .i64 a', .int .i64 b', .int .i64 c', .int .i64 d', .int .i64 e', .int .i64 f']) :: (.agg #[.int .i64 a', .int .i64 b', .int .i64 c', .int .i64 d', .int .i64 e', .int .i64 f']) :: (.tuple #[.agg #[.int .i64 x0, .int .i64 x1, .int .i64 x2, .int .i64 x3, .int .i64 x4, .int .i64 x5], .bool ok]) :: (.agg #[.int .i64 x0, .int .i64 x1, .int .i64 x2, .int .i64 x3, .int .i64 x4, .int .i64 x5]) :: (.bool ok) :: undef :: undef :: undef :: undef :: undef :: undef :: undef :: undef :: undef :: undef :: undef :: undef :: undef :: undef :: undef :: undef :: undef :: [])), []⟩⟩ ⟨B1.out, A1.out, rfl, rfl, rfl, HI.out⟩ ?_ w1 rfl
  intro N2 w2 act k2 p2 q2 f2 hact
  have hlit : act = ⟨(List.toArray ((affV a b c d e f) :: (affV a' b' c' d' e' f') :: (.pointer (some ⟨B, 0, none⟩)) :: (.pointer (some ⟨B + 1, 0, none⟩)) :: (.bool false) :: (.pointer (some ⟨N1, 0, none⟩)) :: (.bool ok) :: (.pointer (some ⟨N2, 0, none⟩)) :: (.bool ok) :: (.tuple #[.agg #[.int .i64 x0, .int .i64 x1, .int .i64 x2, .int .i64 x3, .int .i64 x4, .int .i64 x5], .bool ok]) :: (.agg #[.int .i64 a, .int .i64 b, .int .i64 c, .int .i64 d, .int .i64 e, .int .i64 f]) :: (.agg #[.int .i64 a, .int .i64 b, .int .i64 c, .int .i64 d, .int .i64 e, .int .i64 f]) :: (.agg #[.int .i64 a', .int .i64 b', .int .i64 c', .int .i64 d', .int .i64 e', .int .i64 f']) :: (.agg #[.int .i64 a', .int .i64 b', .int .i64 c', .int .i64 d', .int .i64 e', .int .i64 f']) :: (.tuple #[.agg #[.int .i64 x0, .int .i64 x1, .int .i64 x2, .int .i64 x3, .int .i64 x4, .int .i64 x5], .bool ok]) :: (.agg #[.int .i64 x0, .int .i64 x1, .int .i64 x2, .int .i64 x3, .int .i64 x4, .int .i64 x5]) :: (.bool ok) :: (.tuple #[.agg #[.int .i64 x0, .int .i64 x1, .int .i64 x2, .int .i64 x3, .int .i64 x4, .int .i64 x5], .bool ok]) :: (.agg #[.int .i64 a, .int .i64 b, .int .i64 c, .int .i64 d, .int .i64 e, .int .i64 f]) :: (.agg #[.int .i64 a, .int .i64 b, .int .i64 c, .int .i64 d, .int .i64 e, .int .i64 f]) :: (.agg #[.int .i64 a', .int .i64 b', .int .i64 c', .int .i64 d', .int .i64 e', .int .i64 f']) :: (.agg #[.int .i64 a', .int .i64 b', .int .i64 c', .int .i64 d', .int .i64 e', .int .i64 f']) :: (.tuple #[.agg #[.int .i64 x0, .int .i64 x1, .int .i64 x2, .int .i64 x3, .int .i64 x4, .int .i64 x5], .bool ok]) :: (.agg #[.int .i64 x0, .int .i64 x1, .int .i64 x2, .int .i64 x3, .int .i64 x4, .int .i64 x5]) :: (.bool ok) :: undef :: undef :: undef :: undef :: undef :: undef :: undef :: undef :: undef :: [])), []⟩ := hact.trans (by kernel_rfl)
  rw [hlit]
  clear hlit hact act
  have K12 : Kp w1 w2 := Kp.trans ((Kp.refl w1).drew) k2
  have K2 : Hid (Kp W w2) := Kp.trans K1.out K12
  have kc := (Kp.cells K12).1
  obtain ⟨c0, c1, c2, c3, c4, c5⟩ := F1.out
  have d0 := (kc _ 0 Q1.out).trans c0
  have d1 := (kc _ 1 Q1.out).trans c1
  have d2 := (kc _ 2 Q1.out).trans c2
  have d3 := (kc _ 3 Q1.out).trans c3
  have d4 := (kc _ 4 Q1.out).trans c4
  have d5 := (kc _ 5 Q1.out).trans c5
  obtain ⟨e0, e1, e2, e3, e4, e5⟩ := f2
  simp only at d0 d1 d2 d3 d4 d5 e0 e1 e2 e3 e4 e5
  clear kc c0 c1 c2 c3 c4 c5 F1 Q1 K12 k2 p2 q2 A1 B1 K1 HI
  have HE : Hid _ := fun w => eqAff w x0 x1 x2 x3 x4 x5
  unfold affV at HE ⊢
  go_wp2_with fail
  refine (HE.out _).mono ?_; rintro x w3 ⟨rfl, k3⟩
  have K3 : Hid (Kp w w3) := Kp.trans HW.out (Kp.trans K2.out k3)
  clear k3
  go_wp2
  go_ret
  exact ⟨rfl, K3.out.1⟩
end Go.Proofs.Ytfodmjdhpolnkaa
