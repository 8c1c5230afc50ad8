/-
  A line in a variable, to whose points is appended; each theorem names its conditions.
-/
import Derived.Test.YtoajjdlgipphiaaPls
import Derived.Test.YtoajjdlgipphiaaBx
namespace Go.Proofs.Ytoajjdlgipphiaa
open Go.ChangeShapes Go.WideShapes Go.ChangeAt Go.RowKit
set_option linter.unusedVariables false

/-- A line in the block bx: points of the call's own, which lie behind it, and whether it is closed. -/
structure LnB (bx : Nat) (w : World) (v : Value) (l : List Pnt) (cl : Bool) : Prop where
  c0 : w.cell? ⟨bx, 0, none⟩ = some v
  c1 : w.cell? ⟨bx, 1, none⟩ = some (.bool cl)
  free : ∀ o, w.frozen? ⟨bx, o, none⟩ = false
  own : OwnP w (bx + 1) v l
theorem LnB.lt {bx : Nat} {w : World} {v : Value} {l : List Pnt} {cl : Bool} (h : LnB bx w v l cl) : bx < w.heap.size := World.block_lt_of_cell? w ⟨bx, 0, none⟩ h.c0
theorem LnB.nw {bx : Nat} {w w' : World} {v : Value} {l : List Pnt} {cl : Bool} (h : LnB bx w v l cl) (k : Nw w w') : LnB bx w' v l cl :=
  ⟨((bcell k).1 _ _ h.lt).trans h.c0, ((bcell k).1 _ _ h.lt).trans h.c1, fun o => ((bcell k).2 _ _ h.lt).trans (h.free o), h.own.nw k⟩
theorem LnB.new (w : World) (t : TypeId) (cl : Bool) : LnB w.heap.size (w.alloc (.cells #[.slice none 0 0, .bool cl] t)) (.slice none 0 0) [] cl :=
  ⟨by simp, by simp, fun o => World.frozen?_alloc_at _ _ _ _ rfl, OwnP.nil _ _⟩
theorem LnB.ne {bx : Nat} {w : World} {v : Value} {l : List Pnt} {cl : Bool} (h : LnB bx w v l cl) : v.ownBlock ≠ some bx := fun e => by
  have := (OwnQ.lt h.own bx e).1
  omega
/-- What is there for the store. -/
theorem LnB.there {bx : Nat} {w w' : World} {v v' : Value} {l : List Pnt} {cl : Bool} (h : LnB bx w v l cl) (k : Ext v v' w w') : w'.cell? ⟨bx, 0, none⟩ = some v ∧ ∀ o, w'.frozen? ⟨bx, o, none⟩ = false :=
  ⟨(Ext.cell k h.lt h.ne 0).trans h.c0, fun o => (World.frozen?_of_block (w := w) (a := ⟨bx, o, none⟩) (k.1.block bx h.lt (fun e => h.ne e.symm))).trans (h.free o)⟩
theorem LnB.put {bx : Nat} {w w' : World} {v v' : Value} {l l' : List Pnt} {cl : Bool} (h : LnB bx w v l cl) (k : Ext v v' w w') (ho : OwnP w' (bx + 1) v' l') : LnB bx (w'.setCell ⟨bx, 0, none⟩ v') v' l' cl ∧ Below bx w (w'.setCell ⟨bx, 0, none⟩ v') := by
  have hb := h.lt
  have hne2 : v'.ownBlock ≠ some bx := Ext.apart k hb h.ne
  obtain ⟨t0, tf⟩ := h.there k
  refine ⟨⟨World.cell?_setCell_same w' ⟨bx, 0, none⟩ _ t0, ?_, fun o => by rw [World.frozen?_setCell]; exact tf o, OwnQ.far ho bx 0 _ hne2⟩, ?_⟩
  · rw [World.cell?_setCell_other _ _ _ _ (fun e => by injection e; omega)]
    exact (Ext.cell k hb h.ne 1).trans h.c1
  · exact (k.below (fun g e => Nat.le_of_succ_le (OwnQ.lt h.own g e).1) (by omega)).setCell (Nat.le_refl _) _
/-- A step of a region that draws: a call. -/
theorem st_call {w : World} {ops : Array Oper} {o : Oper} {a : Act} {K : Act → World → Prop} {Q : Exit → Act → World → Prop} {E : Prop} (f : FuncId) (args : Array Value) (hgd : o.guard = none) (hrun : (execOp a.eval o).run Try.prog w = .ok (.enter f args) w)
    (hc : Calls Try.prog f args w fun e w' => ∃ v, e = .returned v ∧ K (a.put o.dst v) w') : if Region.wanted o (yielded ops a.tmps) = true then Oper.wp Try.prog o a w K Q else E := by
  have hw : Region.wanted o (yielded ops a.tmps) = true := by simp [Region.wanted, hgd]
  rw [if_pos hw]
  unfold Oper.wp
  rw [hrun]
  refine Calls.mono hc ?_
  rintro e w' ⟨v, rfl, h⟩
  exact h
/-- A step of a region that draws: one point is appended. -/
theorem st_one (w : World) {ops : Array Oper} {o : Oper} {a : Act} (s x : Operand) (ho : o.op = .call { callee := .builtin .append, args := #[s, x], argTypes := #[30, 30] })
    (bx : Nat) (v : Value) (l : List Pnt) (cl : Bool) (px py : Int) (t : TypeId) (hs : a.eval s = v) (h : LnB bx w v l cl) (hx : a.eval x = .slice (some ⟨w.heap.size, 0, none⟩) 1 1) (hl : l.length + 1 ≤ 1000000) (hgd : o.guard = none)
    {K : Act → World → Prop} {Q : Exit → Act → World → Prop} {E : Prop}
    (hk : ∀ g' c' w', OwnP w' (bx + 1) (.slice (some ⟨g', 0, none⟩) (l.length + 1) c') (l ++ [(px, py)]) → Ext v (.slice (some ⟨g', 0, none⟩) (l.length + 1) c') w w' → K (a.put o.dst (.slice (some ⟨g', 0, none⟩) (l.length + 1) c')) w') :
    if Region.wanted o (yielded ops a.tmps) = true then Oper.wp Try.prog o a (w.alloc (.cells #[.int .i64 px, .int .i64 py] t)) K Q else E := by
  have n1 : Nw w (w.alloc (.cells #[.int .i64 px, .int .i64 py] t)) := (Below.refl _ _).alloc (Nat.le_refl _) _
  refine st_q 54 30 30 (.int .i64 0) (.int .i64 0) 16 under_pts under_pts Try.info54 (by decide) rfl _ s x ho (bx + 1) v (vP l) (vP [(px, py)]) hs (h.own.nw n1) w.heap.size 0 1 1 rfl hx (liep_one w px py t).vv (vP_one _) (by simp [vP]) (by rw [vP_len]; simp [vP]; omega) (by have := h.lt; simp; omega) hgd ?_
  intro g' c' w' h2 h3
  rw [vP_len] at h2 h3 ⊢
  rw [← vP_append] at h2
  exact hk g' c' w' h2 (n1.ext h3)
end Go.Proofs.Ytoajjdlgipphiaa
