/-
  Lists of stops of the call's own, appended to; each theorem names its conditions.
-/
import Derived.Test.YthlohbiocfeapaaSp
import Derived.Test.YthlohbiocfeapaaExt
import Derived.Maps.AppendAt
import Derived.OwnWalk
namespace Go.Proofs.Ythlohbiocfeapaa
open Go.ChangeShapes Go.WideShapes Go.ChangeAt Go.RowKit
set_option linter.unusedVariables false

abbrev spC (s : Stp) : List Value := [.int .i64 s.p, .int .i64 s.t.ax, .int .i64 s.t.ay, .int .i64 s.t.bx, .int .i64 s.t.cy]
def flat5 : List Stp → List Value
  | [] => []
  | s :: l => .int .i64 s.p :: .int .i64 s.t.ax :: .int .i64 s.t.ay :: .int .i64 s.t.bx :: .int .i64 s.t.cy :: flat5 l
theorem flat5_append (l m : List Stp) : flat5 (l ++ m) = flat5 l ++ flat5 m := by
  induction l with
  | nil => rfl
  | cons p l ih => simp only [flat5, List.cons_append, ih]
theorem flat5_at (l : List Stp) : ∀ i, i < l.length → (flat5 l)[i * 5]? = some (.int .i64 (spAt l i).p) ∧ (flat5 l)[i * 5 + 1]? = some (.int .i64 (spAt l i).t.ax) ∧ (flat5 l)[i * 5 + 2]? = some (.int .i64 (spAt l i).t.ay) ∧ (flat5 l)[i * 5 + 3]? = some (.int .i64 (spAt l i).t.bx) ∧ (flat5 l)[i * 5 + 4]? = some (.int .i64 (spAt l i).t.cy) := by
  induction l with
  | nil => intro i hi; simp at hi
  | cons p l ih =>
    intro i hi
    cases i with
    | zero => exact ⟨rfl, rfl, rfl, rfl, rfl⟩
    | succ i =>
      have h := ih i (by simpa using hi)
      have e : (i + 1) * 5 = i * 5 + 5 := by omega
      rw [e]
      simpa [flat5, spAt] using h
/-- The stops l in a list of the call's own, nil or in a block from B on. -/
def OwnS (w : World) (B : Nat) (v : Value) (l : List Stp) : Prop := w.ownsRow B 106 5 v l.length (flat5 l)
theorem OwnS.nil (w : World) (B : Nat) : OwnS w B (.slice none 0 0) [] := World.ownsRow_nil w B 106 5
theorem OwnS.nw {w w' : World} {B : Nat} {v : Value} {l : List Stp} (h : OwnS w B v l) (k : Nw w w') : OwnS w' B v l :=
  World.ownsRow.kept h (row := none) ⟨Below.os k, Below.tape k, Below.output k, Below.size k, fun b hb _ => Below.block k b hb⟩ (by cases hv : v.ownBlock <;> simp)
theorem OwnS.lt {w : World} {B : Nat} {v : Value} {l : List Stp} (h : OwnS w B v l) : ∀ g, v.ownBlock = some g → B ≤ g ∧ g < w.heap.size := World.ownsRow.lt h
theorem OwnS.stps {w : World} {B : Nat} {v : Value} {l : List Stp} (h : OwnS w B v l) : ∃ a c, v = .slice a l.length c ∧ l.length ≤ c ∧ Stps w a l ∧ (0 < l.length → ∃ g, a = some ⟨g, 0, none⟩ ∧ B ≤ g ∧ g < w.heap.size ∧ ∀ o, w.frozen? ⟨g, o, none⟩ = false) := by
  have h0 := h
  unfold OwnS at h0
  rcases h.2 with ⟨hn, h1⟩ | ⟨g, cap, cur, h1, h2, h3, h4, h5, h6, h7⟩
  · have := List.eq_nil_of_length_eq_zero h1
    subst this
    exact ⟨none, 0, hn, Nat.le_refl _, Or.inl rfl, fun h => absurd h (by simp)⟩
  · subst h1
    refine ⟨_, cap, rfl, h4, Or.inr ⟨g, 0, rfl, (h.lt g rfl).2, fun i hi => ?_⟩, fun _ => ⟨g, rfl, (h.lt g rfl).1, (h.lt g rfl).2, fun o => World.ownsRow.frozenAt h0 o⟩⟩
    obtain ⟨e0, e1, e2, e3, e4⟩ := flat5_at l i hi
    rw [Nat.zero_add, World.ownsRow.cellAt h0 (i * 5) (by omega), World.ownsRow.cellAt h0 (i * 5 + 1) (by omega), World.ownsRow.cellAt h0 (i * 5 + 2) (by omega), World.ownsRow.cellAt h0 (i * 5 + 3) (by omega), World.ownsRow.cellAt h0 (i * 5 + 4) (by omega)]
    exact ⟨e0, e1, e2, e3, e4⟩
theorem info_stop : (Try.prog.info? 106).map (fun i => (i.zero, i.size, i.bytes)) = some (some (.agg #[.int .i64 0, .int .i64 0, .int .i64 0, .int .i64 0, .int .i64 0]), 5, 40) := by kernel_rfl
/-- A stop is appended. -/
theorem wpl_s (w : World) {ops : Array Oper} {rest : List Oper} {o : Oper} {a : Act} {Q : Exit → Act → World → Prop} (hgd : o.guard = none) (s x : Operand)
    (ho : o.op = .call { callee := .builtin .append, args := #[s, x], argTypes := #[30, 30] })
    (B : Nat) (v : Value) (l : List Stp) (e : Stp) (hs : a.eval s = v) (hown : OwnS w B v l) (g : Nat) (hx : a.eval x = .slice (some ⟨g, 0, none⟩) 1 1)
    (hc : w.cell? ⟨g, 0, none⟩ = some (.int .i64 e.p) ∧ w.cell? ⟨g, 1, none⟩ = some (.int .i64 e.t.ax) ∧ w.cell? ⟨g, 2, none⟩ = some (.int .i64 e.t.ay) ∧ w.cell? ⟨g, 3, none⟩ = some (.int .i64 e.t.bx) ∧ w.cell? ⟨g, 4, none⟩ = some (.int .i64 e.t.cy))
    (h63 : l.length ≤ 1000000) (hB : B ≤ w.heap.size)
    (h : ∀ v' w', OwnS w' B v' (l ++ [e]) → Ext v v' w w' → wpList Try.prog ops Q rest (a.put o.dst v') w') : wpList Try.prog ops Q (o :: rest) a w := by
  refine wpList_plain hgd fun K hK => ?_
  obtain ⟨i0, hi, hzz'⟩ := Option.map_eq_some_iff.1 info_stop
  simp only [Prod.mk.injEq] at hzz'
  obtain ⟨hz0, hz1, hz2⟩ := hzz'
  obtain ⟨v', w', hr, h2, h3, h4, h5⟩ := run_append_own_at (P := Try.prog) w B 30 o.type 106 i0 (.agg #[.int .i64 0, .int .i64 0, .int .i64 0, .int .i64 0, .int .i64 0]) 5 40 Try.underlying30 hi hz0 hz1 hz2 rfl (by decide) v l.length (flat5 l) hown ⟨g, 0, none⟩ 1 1 (spC e) rfl (fun j u hj => by
    match j, hj with
    | 0, hj => simp at hj; subst hj; simpa [Addr.add] using hc.1
    | 1, hj => simp at hj; subst hj; simpa [Addr.add] using hc.2.1
    | 2, hj => simp at hj; subst hj; simpa [Addr.add] using hc.2.2.1
    | 3, hj => simp at hj; subst hj; simpa [Addr.add] using hc.2.2.2.1
    | 4, hj => simp at hj; subst hj; simpa [Addr.add] using hc.2.2.2.2
    | j + 5, hj => simp at hj) (fun u hu => by simp at hu; rcases hu with rfl | rfl | rfl | rfl | rfl <;> rfl) (by unfold maxLen; omega) (by omega) hB
  unfold Oper.wp execOp
  simp only [ho, resolve, invoke, builtin, Sem.run_bind, Sem.run_pure, Result.andThen_ok, List.map_toArray, List.map_cons, List.map_nil, hs, hx, hr]
  refine hK _ _ (h v' w' ?_ ⟨h3, h5.imp id fun e => ⟨_, e, Nat.le_refl _⟩⟩)
  unfold OwnS
  rw [List.length_append, flat5_append]
  exact h2
end Go.Proofs.Ythlohbiocfeapaa
