/-
  An element with memory of its own appended to a row; each theorem names its conditions.
-/
import Derived.Test.YtnkmdmmlpidcmaaDoorRw
namespace Go.Proofs.YtnkmdmmlpidcmaaDoor
open Go.ChangeShapes Go.WideShapes Go.ChangeAt Go.RowKit
set_option linter.unusedVariables false

theorem wp_rw {α : Type} {E : Els α} (hE : KeptE E) {t ts : TypeId} {n bytes : Nat} {z : Value} (ht : Tryd.prog.underlying ts = some (.slice t)) (hinfo : (Tryd.prog.info? t).map (fun i => (i.zero, i.size, i.bytes)) = some (some z, n, bytes)) (hz : z.cells.size = n) (hn : 0 < n) (hby : bytes ≤ 1000)
    {ops : Array Oper} {rest : List Oper} {o : Oper} {a : Act} {Q : Exit → Act → World → Prop} (w0 w : World) (hgd : o.guard = none) (s x : Operand)
    (ho : o.op = .call { callee := .builtin .append, args := #[s, x], argTypes := #[ts, ts] }) (B : Nat) (v : Value) (els : List (El α)) (hs : a.eval s = v) (h0 : RowO t n E w0 B v els) (k : Nw w0 w) (hB : B ≤ w0.heap.size)
    (g : Nat) (hx : a.eval x = .slice (some ⟨g, 0, none⟩) 1 1) (y : α) (cs : List Value) (hc : ∀ j u, cs[j]? = some u → w.cell? ⟨g, j, none⟩ = some u) (hcs : cs.length = n) (h1 : ∀ u ∈ cs, u.oneCell' = true) (hy : E w cs y (iv w0 w)) (hl : els.length ≤ 10000000)
    (h : ∀ v' w', RowO t n E w' B v' (els ++ [⟨y, cs, iv w0 w⟩]) → Ext v v' w w' → wpList Tryd.prog ops Q rest (a.put o.dst v') w') : wpList Tryd.prog ops Q (o :: rest) a w := by
  obtain ⟨i0, hi, hzz'⟩ := Option.map_eq_some_iff.1 hinfo
  simp only [Prod.mk.injEq] at hzz'
  obtain ⟨hz0, hz1, hz2⟩ := hzz'
  have hB2 : B ≤ w.heap.size := Nat.le_trans hB (Below.size k)
  have hmul : (els.length + 1) * bytes ≤ 140737488355328 := by
    have : (els.length + 1) * bytes ≤ 10000001 * 1000 := Nat.mul_le_mul (by omega) hby
    omega
  refine wpList_append_own_at w hgd s x ts ho B t i0 z n bytes ht hi hz0 hz1 hz2 hz hn v els.length (els.flatMap (·.cs)) hs (h0.nw hE k).own ⟨g, 0, none⟩ 1 1 cs hx (by rw [Nat.one_mul]; exact hcs) (fun j u hj => by rw [add_at, Nat.zero_add]; exact hc j u hj) h1 (by unfold maxLen; omega) hmul hB2 ?_
  intro v' w' h2 h3 _ h5
  have hext : Ext v v' w w' := ⟨h3, h5.imp id fun e => ⟨_, e, Nat.le_refl _⟩⟩
  exact h v' w' (RowO.put hE h0 k hB hy hcs h2 hext) hext
theorem iv_mono {w w1 w2 : World} (h : w1.heap.size ≤ w2.heap.size) : ∀ b, iv w w1 b → iv w w2 b := fun b hb => ⟨hb.1, Nat.lt_of_lt_of_le hb.2 h⟩
theorem iv_low {w0 w w1 : World} (h : w0.heap.size ≤ w.heap.size) : ∀ b, iv w w1 b → iv w0 w1 b := fun b hb => ⟨Nat.le_trans h hb.1, hb.2⟩
end Go.Proofs.YtnkmdmmlpidcmaaDoor
