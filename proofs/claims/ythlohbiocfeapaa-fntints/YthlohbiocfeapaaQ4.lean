/-
  Four numbers (an edge, a tint); lists of the call's own of them, to which is appended; each theorem names its conditions.
-/
import Derived.Test.YthlohbiocfeapaaExt
import Derived.Test.YthlohbiocfeapaaIn
import Derived.Deep.AppendLies
namespace Go.Proofs.Ythlohbiocfeapaa
open Go.ChangeShapes Go.WideShapes Go.ChangeAt Go.RowKit
set_option linter.unusedVariables false

structure Edg where
  ax : Int
  ay : Int
  bx : Int
  cy : Int
def noE : Edg := ⟨0, 0, 0, 0⟩
def edAt (l : List Edg) (i : Nat) : Edg := l.getD i noE
abbrev edC (e : Edg) : List Value := [.int .i64 e.ax, .int .i64 e.ay, .int .i64 e.bx, .int .i64 e.cy]
abbrev edV (e : Edg) : Value := .agg #[.int .i64 e.ax, .int .i64 e.ay, .int .i64 e.bx, .int .i64 e.cy]
def flat4 : List Edg → List Value
  | [] => []
  | p :: l => .int .i64 p.ax :: .int .i64 p.ay :: .int .i64 p.bx :: .int .i64 p.cy :: flat4 l
theorem flat4_len (l : List Edg) : (flat4 l).length = l.length * 4 := by
  induction l with
  | nil => rfl
  | cons p l ih => simp only [flat4, List.length_cons, ih]; omega
theorem flat4_append (l m : List Edg) : flat4 (l ++ m) = flat4 l ++ flat4 m := by
  induction l with
  | nil => rfl
  | cons p l ih => simp only [flat4, List.cons_append, ih]
theorem flat4_at (l : List Edg) : ∀ i, i < l.length → (flat4 l)[i * 4]? = some (.int .i64 (edAt l i).ax) ∧ (flat4 l)[i * 4 + 1]? = some (.int .i64 (edAt l i).ay) ∧ (flat4 l)[i * 4 + 2]? = some (.int .i64 (edAt l i).bx) ∧ (flat4 l)[i * 4 + 3]? = some (.int .i64 (edAt l i).cy) := by
  induction l with
  | nil => intro i hi; simp at hi
  | cons p l ih =>
    intro i hi
    cases i with
    | zero => exact ⟨rfl, rfl, rfl, rfl⟩
    | succ i =>
      have h := ih i (by simpa using hi)
      have e : (i + 1) * 4 = i * 4 + 4 := by omega
      rw [e]
      simpa [flat4, edAt] using h
/-- The edges l in a list of the call's own, nil or in a block from B on. -/
def OwnE (T : TypeId) (w : World) (B : Nat) (v : Value) (l : List Edg) : Prop := w.ownsRow B T 4 v l.length (flat4 l)
theorem OwnE.nil (T : TypeId) (w : World) (B : Nat) : OwnE T w B (.slice none 0 0) [] := World.ownsRow_nil w B T 4
theorem OwnE.nw {T : TypeId} {w w' : World} {B : Nat} {v : Value} {l : List Edg} (h : OwnE T w B v l) (k : Nw w w') : OwnE T w' B v l :=
  World.ownsRow.kept h (row := none) ⟨Below.os k, Below.tape k, Below.output k, Below.size k, fun b hb _ => Below.block k b hb⟩ (by cases hv : v.ownBlock <;> simp)
theorem OwnE.lt {T : TypeId} {w : World} {B : Nat} {v : Value} {l : List Edg} (h : OwnE T w B v l) : ∀ g, v.ownBlock = some g → B ≤ g ∧ g < w.heap.size := World.ownsRow.lt h
theorem OwnE.slice {T : TypeId} {w : World} {B : Nat} {v : Value} {l : List Edg} (h : OwnE T w B v l) : ∃ a n c, v = .slice a n c := by
  rcases h.2 with ⟨hn, _⟩ | ⟨g, cap, cur, h1, _⟩
  · exact ⟨_, _, _, hn⟩
  · exact ⟨_, _, _, h1⟩
/-- The edges l lie at a. -/
def Edgs (w : World) (a : Option Addr) (l : List Edg) : Prop :=
  l = [] ∨ ∃ b off, a = some ⟨b, off, none⟩ ∧ b < w.heap.size ∧ ∀ i, i < l.length → w.cell? ⟨b, off + i * 4, none⟩ = some (.int .i64 (edAt l i).ax) ∧ w.cell? ⟨b, off + i * 4 + 1, none⟩ = some (.int .i64 (edAt l i).ay) ∧ w.cell? ⟨b, off + i * 4 + 2, none⟩ = some (.int .i64 (edAt l i).bx) ∧ w.cell? ⟨b, off + i * 4 + 3, none⟩ = some (.int .i64 (edAt l i).cy)
theorem Edgs.nw {w w' : World} {a : Option Addr} {l : List Edg} (h : Edgs w a l) (k : Nw w w') : Edgs w' a l := by
  rcases h with h | ⟨b, off, rfl, hb, hc⟩
  · exact Or.inl h
  · refine Or.inr ⟨b, off, rfl, Nat.lt_of_lt_of_le hb (Below.size k), fun i hi => ?_⟩
    obtain ⟨h0, h1, h2, h3⟩ := hc i hi
    exact ⟨((bcell k).1 _ _ hb).trans h0, ((bcell k).1 _ _ hb).trans h1, ((bcell k).1 _ _ hb).trans h2, ((bcell k).1 _ _ hb).trans h3⟩
theorem OwnE.edgs {T : TypeId} {w : World} {B : Nat} {v : Value} {l : List Edg} (h : OwnE T w B v l) : ∃ a c, v = .slice a l.length c ∧ Edgs w a l := by
  have h0 := h
  unfold OwnE at h0
  rcases h.2 with ⟨hn, h1⟩ | ⟨g, cap, cur, h1, h2, h3, h4, h5, h6, h7⟩
  · have := List.eq_nil_of_length_eq_zero h1
    subst this
    exact ⟨none, 0, hn, Or.inl rfl⟩
  · subst h1
    refine ⟨_, cap, rfl, Or.inr ⟨g, 0, rfl, (h.lt g rfl).2, fun i hi => ?_⟩⟩
    obtain ⟨e0, e1, e2, e3⟩ := flat4_at l i hi
    rw [Nat.zero_add, World.ownsRow.cellAt h0 (i * 4) (by omega), World.ownsRow.cellAt h0 (i * 4 + 1) (by omega), World.ownsRow.cellAt h0 (i * 4 + 2) (by omega), World.ownsRow.cellAt h0 (i * 4 + 3) (by omega)]
    exact ⟨e0, e1, e2, e3⟩
section
variable (T t : TypeId) (ht : Try.prog.underlying t = some (.slice T)) (hinfo : (Try.prog.info? T).map (fun i => (i.zero, i.size, i.bytes)) = some (some (.agg #[.int .i64 0, .int .i64 0, .int .i64 0, .int .i64 0]), 4, 32))
include ht hinfo
/-- An edge is appended, wherever the append stands. -/
theorem wp_e (w : World) {o : Oper} {a : Act} {K : Act → World → Prop} {Q : Exit → Act → World → Prop} (s x : Operand)
    (ho : o.op = .call { callee := .builtin .append, args := #[s, x], argTypes := #[t, t] })
    (B : Nat) (v : Value) (l : List Edg) (e : Edg) (hs : a.eval s = v) (hown : OwnE T w B v l) (g : Nat) (hx : a.eval x = .slice (some ⟨g, 0, none⟩) 1 1)
    (hc : w.cell? ⟨g, 0, none⟩ = some (.int .i64 e.ax) ∧ w.cell? ⟨g, 1, none⟩ = some (.int .i64 e.ay) ∧ w.cell? ⟨g, 2, none⟩ = some (.int .i64 e.bx) ∧ w.cell? ⟨g, 3, none⟩ = some (.int .i64 e.cy))
    (h63 : l.length ≤ 1000000) (hB : B ≤ w.heap.size)
    (h : ∀ v' w', OwnE T w' B v' (l ++ [e]) → Ext v v' w w' → K (a.put o.dst v') w') : o.wp Try.prog a w K Q := by
  obtain ⟨i0, hi, hzz'⟩ := Option.map_eq_some_iff.1 hinfo
  simp only [Prod.mk.injEq] at hzz'
  obtain ⟨hz0, hz1, hz2⟩ := hzz'
  obtain ⟨v', w', hr, h2, h3, h4, h5⟩ := run_append_own_at (P := Try.prog) w B t o.type T i0 (.agg #[.int .i64 0, .int .i64 0, .int .i64 0, .int .i64 0]) 4 32 ht hi hz0 hz1 hz2 rfl (by decide) v l.length (flat4 l) hown ⟨g, 0, none⟩ 1 1 (edC e) rfl (fun j u hj => by
    match j, hj with
    | 0, hj => simp at hj; subst hj; simpa [Addr.add] using hc.1
    | 1, hj => simp at hj; subst hj; simpa [Addr.add] using hc.2.1
    | 2, hj => simp at hj; subst hj; simpa [Addr.add] using hc.2.2.1
    | 3, hj => simp at hj; subst hj; simpa [Addr.add] using hc.2.2.2
    | j + 4, hj => simp at hj) (fun u hu => by simp at hu; rcases hu with rfl | rfl | rfl | rfl <;> rfl) (by unfold maxLen; omega) (by omega) hB
  unfold Oper.wp execOp
  simp only [ho, resolve, invoke, builtin, Sem.run_bind, Sem.run_pure, Result.andThen_ok, List.map_toArray, List.map_cons, List.map_nil, hs, hx, hr]
  refine h v' w' ?_ ⟨h3, h5.imp id fun e => ⟨_, e, Nat.le_refl _⟩⟩
  unfold OwnE
  rw [List.length_append, flat4_append]
  exact h2
theorem wpl_e (w : World) {ops : Array Oper} {rest : List Oper} {o : Oper} {a : Act} {Q : Exit → Act → World → Prop} (hgd : o.guard = none) (s x : Operand)
    (ho : o.op = .call { callee := .builtin .append, args := #[s, x], argTypes := #[t, t] })
    (B : Nat) (v : Value) (l : List Edg) (e : Edg) (hs : a.eval s = v) (hown : OwnE T w B v l) (g : Nat) (hx : a.eval x = .slice (some ⟨g, 0, none⟩) 1 1)
    (hc : w.cell? ⟨g, 0, none⟩ = some (.int .i64 e.ax) ∧ w.cell? ⟨g, 1, none⟩ = some (.int .i64 e.ay) ∧ w.cell? ⟨g, 2, none⟩ = some (.int .i64 e.bx) ∧ w.cell? ⟨g, 3, none⟩ = some (.int .i64 e.cy))
    (h63 : l.length ≤ 1000000) (hB : B ≤ w.heap.size)
    (h : ∀ v' w', OwnE T w' B v' (l ++ [e]) → Ext v v' w w' → wpList Try.prog ops Q rest (a.put o.dst v') w') : wpList Try.prog ops Q (o :: rest) a w :=
  wpList_plain hgd fun _ hK => wp_e T t ht hinfo w s x ho B v l e hs hown g hx hc h63 hB fun v' w' h2 h3 => hK _ _ (h v' w' h2 h3)
end
end Go.Proofs.Ythlohbiocfeapaa
