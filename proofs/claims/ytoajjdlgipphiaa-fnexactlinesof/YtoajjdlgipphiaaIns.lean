/-
  Lists of numbers of the call's own, to which numbers are appended; and what the laws' helpers do that hold two such lists against each other, mark one and look for the marks; each theorem names its conditions.
-/
import Derived.Test.YtoajjdlgipphiaaExt
namespace Go.Proofs.Ytoajjdlgipphiaa
open Go.ChangeShapes Go.WideShapes Go.ChangeAt Go.RowKit
set_option linter.unusedVariables false

theorem ins_parts : ∃ i, Try.prog.info? 3 = some i ∧ i.zero = some (.int .i64 0) ∧ i.size = 1 ∧ i.bytes = 8 := by
  have h : (Try.prog.info? 3).map (fun i => (i.zero, i.size, i.bytes)) = some (some (.int .i64 0), 1, 8) := by kernel_rfl
  obtain ⟨i, hi, hzz⟩ := Option.map_eq_some_iff.1 h
  simp only [Prod.mk.injEq] at hzz
  exact ⟨i, hi, hzz⟩
/-- The numbers l in a list of the call's own, nil or in a block from B on. -/
def Ins (w : World) (B : Nat) (v : Value) (l : List Int) : Prop := w.ownsRow B 3 1 v l.length (l.map (Value.int .i64))
theorem Ins.nil (w : World) (B : Nat) : Ins w B (.slice none 0 0) [] := World.ownsRow_nil w B _ 1
theorem Ins.nw {w w' : World} {B : Nat} {v : Value} {l : List Int} (h : Ins w B v l) (k : Nw w w') : Ins w' B v l :=
  World.ownsRow.kept h (row := none) ⟨Below.os k, Below.tape k, Below.output k, Below.size k, fun b hb _ => Below.block k b hb⟩ (by cases hv : v.ownBlock <;> simp)
theorem Ins.below {w w' : World} {B : Nat} {v v' : Value} {l : List Int} (h : Ins w B v l) (k : Ext v v' w w') (hB : B ≤ w.heap.size) : Below B w w' :=
  k.below (fun g e => (World.ownsRow.lt h g e).1) hB
def intAt (l : List Int) (i : Nat) : Int := l.getD i 0
/-- The numbers l lie in the block g. -/
def LayI (w : World) (g : Nat) (l : List Int) : Prop :=
  g < w.heap.size ∧ (∀ i, i < l.length → w.cell? ⟨g, i, none⟩ = some (.int .i64 (intAt l i))) ∧ ∀ o, w.frozen? ⟨g, o, none⟩ = false
theorem LayI.nw {w w' : World} {g : Nat} {l : List Int} (h : LayI w g l) (k : Nw w w') : LayI w' g l :=
  ⟨Nat.lt_of_lt_of_le h.1 (Below.size k), fun i hi => ((bcell k).1 _ _ h.1).trans (h.2.1 i hi), fun o => ((bcell k).2 _ _ h.1).trans (h.2.2 o)⟩
/-- Where they lie. -/
theorem Ins.lay {w : World} {B : Nat} {v : Value} {l : List Int} (h : Ins w B v l) : (v = .slice none 0 0 ∧ l = []) ∨ ∃ g c, v = .slice (some ⟨g, 0, none⟩) l.length c ∧ B ≤ g ∧ LayI w g l := by
  rcases h.2 with ⟨hn, h0⟩ | ⟨g, cap, cur, h1, h2, h3⟩
  · exact Or.inl ⟨hn, List.eq_nil_of_length_eq_zero h0⟩
  · refine Or.inr ⟨g, cap, h1, h2, ?_⟩
    subst h1
    refine ⟨(World.ownsRow.lt h g rfl).2, fun i hi => ?_, fun o => World.ownsRow.frozenAt h o⟩
    have := World.ownsRow.cellAt h i (by omega)
    rw [this]
    simp [intAt, hi]
/-- Nil, or a block of its own. -/
def Lay0 (w : World) (B : Nat) (v : Value) (l : List Int) : Prop := (v = .slice none 0 0 ∧ l = []) ∨ ∃ g c, v = .slice (some ⟨g, 0, none⟩) l.length c ∧ B ≤ g ∧ LayI w g l
/-- A number is appended. -/
theorem wp_in (w : World) {ops : Array Oper} {rest : List Oper} {o : Oper} {a : Act} {Q : Exit → Act → World → Prop} (hgd : o.guard = none) (s x : Operand)
    (ho : o.op = .call { callee := .builtin .append, args := #[s, x], argTypes := #[25, 25] })
    (B : Nat) (v : Value) (l : List Int) (t : Int) (hs : a.eval s = v) (hown : Ins w B v l) (g : Nat) (hx : a.eval x = .slice (some ⟨g, 0, none⟩) 1 1) (hc : w.cell? ⟨g, 0, none⟩ = some (.int .i64 t))
    (h63 : l.length ≤ 10000000) (hB : B ≤ w.heap.size)
    (h : ∀ v' w', Ins w' B v' (l ++ [t]) → Ext v v' w w' → wpList Try.prog ops Q rest (a.put o.dst v') w') : wpList Try.prog ops Q (o :: rest) a w := by
  obtain ⟨i0, hi, hz0, hz1, hz2⟩ := ins_parts
  refine wpList_append_own_at w hgd s x 25 ho B 3 i0 (.int .i64 0) 1 8 Try.underlying25 hi hz0 hz1 hz2 rfl (by decide) v l.length (l.map (Value.int .i64)) hs hown ⟨g, 0, none⟩ 1 1 [.int .i64 t] hx rfl (fun j u hj => ?_) (fun u hu => ?_) (by unfold maxLen; omega) (by omega) hB ?_
  · cases j with
    | zero => simp at hj; subst hj; simpa [Addr.add] using hc
    | succ j => simp at hj
  · simp at hu; subst hu; rfl
  · intro v' w' h1 h2 _ h4
    refine h v' w' ?_ ⟨h2, h4.imp id fun e => ⟨_, e, Nat.le_refl _⟩⟩
    unfold Ins
    rw [List.length_append, List.map_append]
    exact h1
end Go.Proofs.Ytoajjdlgipphiaa
