/-
  A part in a variable, to whose classes is appended; each theorem names its conditions.
-/
import Derived.Test.YtnkmdmmlpidcmaaDoorTxs
namespace Go.Proofs.YtnkmdmmlpidcmaaDoor
open Go.ChangeShapes Go.WideShapes Go.ChangeAt Go.RowKit
set_option linter.unusedVariables false

/-- A part in the block bx: texts of the call's own, which lie behind it. -/
structure CvP (bx : Nat) (w : World) (p q : ByteArray) (v : Value) (l : List ByteArray) : Prop where
  c0 : w.cell? ⟨bx, 0, none⟩ = some (.string p)
  c1 : w.cell? ⟨bx, 1, none⟩ = some (.string q)
  c2 : w.cell? ⟨bx, 2, none⟩ = some v
  free : ∀ o, w.frozen? ⟨bx, o, none⟩ = false
  own : Txs w (bx + 1) v l
theorem CvP.lt {bx : Nat} {w : World} {p q : ByteArray} {v : Value} {l : List ByteArray} (h : CvP bx w p q v l) : bx < w.heap.size := World.block_lt_of_cell? w ⟨bx, 0, none⟩ h.c0
theorem CvP.nw {bx : Nat} {w w' : World} {p q : ByteArray} {v : Value} {l : List ByteArray} (h : CvP bx w p q v l) (k : Nw w w') : CvP bx w' p q v l :=
  ⟨((bcell k).1 _ _ h.lt).trans h.c0, ((bcell k).1 _ _ h.lt).trans h.c1, ((bcell k).1 _ _ h.lt).trans h.c2, fun o => ((bcell k).2 _ _ h.lt).trans (h.free o), h.own.nw k⟩
theorem CvP.new (w : World) (t : TypeId) (p q : ByteArray) : CvP w.heap.size (w.alloc (.cells #[.string p, .string q, .slice none 0 0] t)) p q (.slice none 0 0) [] :=
  ⟨by simp, by simp, by simp, fun o => World.frozen?_alloc_at _ _ _ _ rfl, Txs.nil _ _⟩
theorem CvP.ne {bx : Nat} {w : World} {p q : ByteArray} {v : Value} {l : List ByteArray} (h : CvP bx w p q v l) : v.ownBlock ≠ some bx := fun e => by
  have := (World.ownsRow.lt h.own bx e).1
  omega
/-- What is there for the store. -/
theorem CvP.there {bx : Nat} {w w' : World} {p q : ByteArray} {v v' : Value} {l : List ByteArray} (h : CvP bx w p q v l) (k : Ext v v' w w') : w'.cell? ⟨bx, 2, none⟩ = some v ∧ ∀ o, w'.frozen? ⟨bx, o, none⟩ = false :=
  ⟨(Ext.cell k h.lt h.ne 2).trans h.c2, fun o => (World.frozen?_of_block (w := w) (a := ⟨bx, o, none⟩) (k.1.block bx h.lt (fun e => h.ne e.symm))).trans (h.free o)⟩
theorem Txs.far {w : World} {B : Nat} {v : Value} {l : List ByteArray} (h : Txs w B v l) (b o : Nat) (u : Value) (hne : v.ownBlock ≠ some b) : Txs (w.setCell ⟨b, o, none⟩ u) B v l :=
  World.ownsRow.kept h set_grown (Or.inr hne)
theorem CvP.put {bx : Nat} {w w' : World} {p q : ByteArray} {v v' : Value} {l l' : List ByteArray} (h : CvP bx w p q v l) (k : Ext v v' w w') (ho : Txs w' (bx + 1) v' l') : CvP bx (w'.setCell ⟨bx, 2, none⟩ v') p q v' l' ∧ Below bx w (w'.setCell ⟨bx, 2, none⟩ v') := by
  have hb := h.lt
  have hne2 : v'.ownBlock ≠ some bx := Ext.apart k hb h.ne
  obtain ⟨t0, tf⟩ := h.there k
  refine ⟨⟨?_, ?_, World.cell?_setCell_same w' ⟨bx, 2, none⟩ _ t0, fun o => by rw [World.frozen?_setCell]; exact tf o, Txs.far ho bx 2 _ hne2⟩, ?_⟩
  · rw [World.cell?_setCell_other _ _ _ _ (fun e => by injection e; omega)]
    exact (Ext.cell k hb h.ne 0).trans h.c0
  · rw [World.cell?_setCell_other _ _ _ _ (fun e => by injection e; omega)]
    exact (Ext.cell k hb h.ne 1).trans h.c1
  · exact (k.below (fun g e => Nat.le_of_succ_le (World.ownsRow.lt h.own g e).1) (by omega)).setCell (Nat.le_refl _) _
theorem Txs.slice {w : World} {B : Nat} {v : Value} {l : List ByteArray} (h : Txs w B v l) : ∃ a c, v = .slice a l.length c := by
  obtain ⟨a, c, h1, _⟩ := h.strs
  exact ⟨a, c, h1⟩
theorem set3c (w : World) (b : Nat) (u0 u1 u2 : Value) {v0 v1 v2 : Value} (z0 : w.cell? ⟨b, 0, none⟩ = some v0) (z1 : w.cell? ⟨b, 1, none⟩ = some v1) (z2 : w.cell? ⟨b, 2, none⟩ = some v2) :
    (((w.setCell ⟨b, 0, none⟩ u0).setCell ⟨b, 1, none⟩ u1).setCell ⟨b, 2, none⟩ u2).cell? ⟨b, 0, none⟩ = some u0 ∧ (((w.setCell ⟨b, 0, none⟩ u0).setCell ⟨b, 1, none⟩ u1).setCell ⟨b, 2, none⟩ u2).cell? ⟨b, 1, none⟩ = some u1 ∧ (((w.setCell ⟨b, 0, none⟩ u0).setCell ⟨b, 1, none⟩ u1).setCell ⟨b, 2, none⟩ u2).cell? ⟨b, 2, none⟩ = some u2 := by
  have far : ∀ (w : World) (o o' : Nat) (u : Value), o ≠ o' → (w.setCell ⟨b, o, none⟩ u).cell? ⟨b, o', none⟩ = w.cell? ⟨b, o', none⟩ := fun w o o' u h => World.cell?_setCell_other _ _ _ _ (fun e => by injection e; omega)
  refine ⟨?_, ?_, ?_⟩
  · rw [far _ 2 0 _ (by omega), far _ 1 0 _ (by omega)]
    exact World.cell?_setCell_same w ⟨b, 0, none⟩ _ z0
  · rw [far _ 2 1 _ (by omega)]
    exact World.cell?_setCell_same _ ⟨b, 1, none⟩ _ ((far _ 0 1 _ (by omega)).trans z1)
  · exact World.cell?_setCell_same _ ⟨b, 2, none⟩ _ ((far _ 1 2 _ (by omega)).trans ((far _ 0 2 _ (by omega)).trans z2))
/-- A text is appended, wherever the append stands. -/
theorem wpk_tx (w : World) {o : Oper} {a : Act} {K : Act → World → Prop} {Q : Exit → Act → World → Prop} (s x : Operand)
    (ho : o.op = .call { callee := .builtin .append, args := #[s, x], argTypes := #[52, 52] })
    (B : Nat) (v : Value) (l : List ByteArray) (t : ByteArray) (hs : a.eval s = v) (hown : Txs w B v l) (g : Nat) (hx : a.eval x = .slice (some ⟨g, 0, none⟩) 1 1) (hc : w.cell? ⟨g, 0, none⟩ = some (.string t))
    (h63 : l.length ≤ 10000000) (hB : B ≤ w.heap.size)
    (h : ∀ v' w', Txs w' B v' (l ++ [t]) → Ext v v' w w' → K (a.put o.dst v') w') : o.wp Tryd.prog a w K Q := by
  obtain ⟨i0, hi, hz0, hz1, hz2⟩ := txs_parts
  obtain ⟨v', w', hr, h2, h3, h4, h5⟩ := run_append_own_at (P := Tryd.prog) w B 52 o.type 9 i0 (.string ⟨#[]⟩) 1 16 Tryd.underlying52 hi hz0 hz1 hz2 rfl (by decide) v l.length (l.map Value.string) hown ⟨g, 0, none⟩ 1 1 [.string t] rfl (fun j u hj => by
    cases j with
    | zero => simp at hj; subst hj; simpa [Addr.add] using hc
    | succ j => simp at hj) (fun u hu => by simp at hu; subst hu; rfl) (by unfold maxLen; omega) (by omega) hB
  unfold Oper.wp execOp
  simp only [ho, resolve, invoke, builtin, Sem.run_bind, Sem.run_pure, Result.andThen_ok, List.map_toArray, List.map_cons, List.map_nil, hs, hx, hr]
  refine h v' w' ?_ ⟨h3, h5.imp id fun e => ⟨_, e, Nat.le_refl _⟩⟩
  unfold Txs
  rw [List.length_append, List.map_append]
  exact h2
end Go.Proofs.YtnkmdmmlpidcmaaDoor
