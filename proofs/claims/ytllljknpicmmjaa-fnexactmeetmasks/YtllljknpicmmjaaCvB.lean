/-
  A mask in a variable, to whose numbers is appended; each theorem names its conditions.
-/
import Derived.Test.YtllljknpicmmjaaMsk
namespace Go.Proofs.Ytllljknpicmmjaa
open Go.ChangeShapes Go.WideShapes Go.ChangeAt Go.RowKit
set_option linter.unusedVariables false

theorem kpc {w w' : World} {b o : Nat} {v : Value} (k : Kp w w') (h : w.cell? ⟨b, o, none⟩ = some v) : w'.cell? ⟨b, o, none⟩ = some v := (k.cells.1 b o (World.block_lt_of_cell? w ⟨b, o, none⟩ h)).trans h
/-- A mask in the block bx: numbers of the call's own, which lie behind it. -/
structure CvB (bx : Nat) (w : World) (p : MD) (v : Value) (l : List Int) : Prop where
  c0 : w.cell? ⟨bx, 0, none⟩ = some (.int .i64 p.w)
  c1 : w.cell? ⟨bx, 1, none⟩ = some (.int .i64 p.h)
  c2 : w.cell? ⟨bx, 2, none⟩ = some v
  free : ∀ o, w.frozen? ⟨bx, o, none⟩ = false
  own : Ins w (bx + 1) v l
theorem CvB.lt {bx : Nat} {w : World} {p : MD} {v : Value} {l : List Int} (h : CvB bx w p v l) : bx < w.heap.size := World.block_lt_of_cell? w ⟨bx, 0, none⟩ h.c0
theorem CvB.nw {bx : Nat} {w w' : World} {p : MD} {v : Value} {l : List Int} (h : CvB bx w p v l) (k : Nw w w') : CvB bx w' p v l :=
  ⟨((bcell k).1 _ _ h.lt).trans h.c0, ((bcell k).1 _ _ h.lt).trans h.c1, ((bcell k).1 _ _ h.lt).trans h.c2, fun o => ((bcell k).2 _ _ h.lt).trans (h.free o), h.own.nw k⟩
theorem CvB.new (w : World) (t : TypeId) (p : MD) : CvB w.heap.size (w.alloc (.cells #[.int .i64 p.w, .int .i64 p.h, .slice none 0 0] t)) p (.slice none 0 0) [] :=
  ⟨by simp, by simp, by simp, fun o => World.frozen?_alloc_at _ _ _ _ rfl, Ins.nil _ _⟩
theorem CvB.ne {bx : Nat} {w : World} {p : MD} {v : Value} {l : List Int} (h : CvB bx w p v l) : v.ownBlock ≠ some bx := fun e => by
  have := (World.ownsRow.lt h.own bx e).1
  omega
/-- What is there for the store. -/
theorem CvB.there {bx : Nat} {w w' : World} {p : MD} {v v' : Value} {l : List Int} (h : CvB bx w p v l) (k : Ext v v' w w') : w'.cell? ⟨bx, 2, none⟩ = some v ∧ ∀ o, w'.frozen? ⟨bx, o, none⟩ = false :=
  ⟨(Ext.cell k h.lt h.ne 2).trans h.c2, fun o => (World.frozen?_of_block (w := w) (a := ⟨bx, o, none⟩) (k.1.block bx h.lt (fun e => h.ne e.symm))).trans (h.free o)⟩
theorem Ins.far {w : World} {B : Nat} {v : Value} {l : List Int} (h : Ins w B v l) (b o : Nat) (u : Value) (hne : v.ownBlock ≠ some b) : Ins (w.setCell ⟨b, o, none⟩ u) B v l :=
  World.ownsRow.kept h set_grown (Or.inr hne)
theorem CvB.put {bx : Nat} {w w' : World} {p : MD} {v v' : Value} {l l' : List Int} (h : CvB bx w p v l) (k : Ext v v' w w') (ho : Ins w' (bx + 1) v' l') : CvB bx (w'.setCell ⟨bx, 2, none⟩ v') p v' l' ∧ Below bx w (w'.setCell ⟨bx, 2, none⟩ v') := by
  have hb := h.lt
  have hne2 : v'.ownBlock ≠ some bx := Ext.apart k hb h.ne
  obtain ⟨t0, tf⟩ := h.there k
  refine ⟨⟨?_, ?_, World.cell?_setCell_same w' ⟨bx, 2, none⟩ _ t0, fun o => by rw [World.frozen?_setCell]; exact tf o, Ins.far ho bx 2 _ hne2⟩, ?_⟩
  · rw [World.cell?_setCell_other _ _ _ _ (fun e => by injection e; omega)]
    exact (Ext.cell k hb h.ne 0).trans h.c0
  · rw [World.cell?_setCell_other _ _ _ _ (fun e => by injection e; omega)]
    exact (Ext.cell k hb h.ne 1).trans h.c1
  · exact (k.below (fun g e => Nat.le_of_succ_le (World.ownsRow.lt h.own g e).1) (by omega)).setCell (Nat.le_refl _) _
theorem Ins.slice {w : World} {B : Nat} {v : Value} {l : List Int} (h : Ins w B v l) : ∃ a n c, v = .slice a n c := by
  rcases h.2 with ⟨hn, _⟩ | ⟨g, cap, cur, h1, _⟩
  · exact ⟨_, _, _, hn⟩
  · exact ⟨_, _, _, h1⟩
/-- A number is appended, wherever the append stands. -/
theorem wpk_in (w : World) {o : Oper} {a : Act} {K : Act → World → Prop} {Q : Exit → Act → World → Prop} (s x : Operand)
    (ho : o.op = .call { callee := .builtin .append, args := #[s, x], argTypes := #[26, 26] })
    (B : Nat) (v : Value) (l : List Int) (t : Int) (hs : a.eval s = v) (hown : Ins w B v l) (g : Nat) (hx : a.eval x = .slice (some ⟨g, 0, none⟩) 1 1) (hc : w.cell? ⟨g, 0, none⟩ = some (.int .i64 t))
    (h63 : l.length ≤ 10000000) (hB : B ≤ w.heap.size)
    (h : ∀ v' w', Ins w' B v' (l ++ [t]) → Ext v v' w w' → K (a.put o.dst v') w') : o.wp Try.prog a w K Q := by
  obtain ⟨i0, hi, hz0, hz1, hz2⟩ := ins_parts
  obtain ⟨v', w', hr, h2, h3, h4, h5⟩ := run_append_own_at (P := Try.prog) w B 26 o.type 3 i0 (.int .i64 0) 1 8 Try.underlying26 hi hz0 hz1 hz2 rfl (by decide) v l.length (l.map (Value.int .i64)) hown ⟨g, 0, none⟩ 1 1 [.int .i64 t] rfl (fun j u hj => by
    cases j with
    | zero => simp at hj; subst hj; simpa [Addr.add] using hc
    | succ j => simp at hj) (fun u hu => by simp at hu; subst hu; rfl) (by unfold maxLen; omega) (by omega) hB
  unfold Oper.wp execOp
  simp only [ho, resolve, invoke, builtin, Sem.run_bind, Sem.run_pure, Result.andThen_ok, List.map_toArray, List.map_cons, List.map_nil, hs, hx, hr]
  refine h v' w' ?_ ⟨h3, h5.imp id fun e => ⟨_, e, Nat.le_refl _⟩⟩
  unfold Ins
  rw [List.length_append, List.map_append]
  exact h2
end Go.Proofs.Ytllljknpicmmjaa
