/-
  A part read from a word by the specification; each theorem names its conditions.
-/
import Derived.Test.YtnkmdmmlpidcmaaDoorPtP
import Derived.Test.YtnkmdmmlpidcmaaDoorSPR
import Derived.Deep.DeepCutAuto
namespace Go.Proofs.YtnkmdmmlpidcmaaDoor
open Go.ChangeShapes Go.WideShapes Go.ChangeAt Go.RowKit
set_option linter.unusedVariables false

theorem srunL (w : World) (s : ByteArray) (hs : s.size ≤ 1048576) : Calls Tryd.prog 91 #[.string s] w fun e w' => e = .returned (.int .i64 (runL s.data.toList : Nat)) ∧ w' = w := by
  refine (srun w s hs).mono ?_
  rintro e w' ⟨⟨n, h1, rfl⟩, rfl⟩
  exact ⟨by rw [lead_run h1], rfl⟩
theorem runL_le (l : List UInt8) : runL l ≤ l.length := by
  by_cases h : runL l = 0
  · rw [h]; exact Nat.zero_le _
  · exact (run_pos h).2.2
theorem clsS_fuel : ∀ (f g : Nat) (l : List UInt8) (acc : List (List UInt8)), l.length < f → l.length < g → clsS f l acc = clsS g l acc := by
  intro f
  induction f with
  | zero => intro g l acc h; omega
  | succ f ih =>
    intro g l acc h1 h2
    cases g with
    | zero => omega
    | succ g =>
      cases l with
      | nil => rfl
      | cons b t =>
        show (if b = 46 then (if runL t = 0 ∨ acc.length = 4 then none else clsS f (t.drop (runL t)) (acc ++ [t.take (runL t)])) else none) = (if b = 46 then (if runL t = 0 ∨ acc.length = 4 then none else clsS g (t.drop (runL t)) (acc ++ [t.take (runL t)])) else none)
        have hl : (t.drop (runL t)).length < f ∧ (t.drop (runL t)).length < g := by
          simp only [List.length_cons] at h1 h2
          rw [List.length_drop]
          omega
        rw [ih g _ _ hl.1 hl.2]
/-- Classes that are still to be read. -/
def clsR (l : List UInt8) (acc : List (List UInt8)) : Option (List (List UInt8)) := clsS (l.length + 1) l acc
theorem clsR_step (t : List UInt8) (acc : List (List UInt8)) (h1 : runL t ≠ 0) (h2 : acc.length ≠ 4) : clsR (46 :: t) acc = clsR (t.drop (runL t)) (acc ++ [t.take (runL t)]) := by
  unfold clsR
  show (if (46 : UInt8) = 46 then (if runL t = 0 ∨ acc.length = 4 then none else clsS _ (t.drop (runL t)) (acc ++ [t.take (runL t)])) else none) = _
  rw [if_pos rfl, if_neg (by omega)]
  exact clsS_fuel _ _ _ _ (by rw [List.length_drop, List.length_cons]; omega) (Nat.lt_succ_self _)
theorem clsR_bad (t : List UInt8) (acc : List (List UInt8)) (h : runL t = 0 ∨ acc.length = 4) : clsR (46 :: t) acc = none := by
  unfold clsR
  show (if (46 : UInt8) = 46 then (if runL t = 0 ∨ acc.length = 4 then none else clsS _ (t.drop (runL t)) (acc ++ [t.take (runL t)])) else none) = _
  rw [if_pos rfl, if_pos h]
theorem clsR_other (b : UInt8) (t : List UInt8) (acc : List (List UInt8)) (h : b ≠ 46) : clsR (b :: t) acc = none := by
  unfold clsR
  show (if b = 46 then _ else none) = none
  rw [if_neg h]
theorem clsR_nil (acc : List (List UInt8)) : clsR [] acc = some acc := rfl
/-- How far the type goes. -/
def tyN (l : List UInt8) : Nat := if l.head? = some 42 then 1 else runL l
theorem tyN_le (l : List UInt8) : tyN l ≤ l.length := by
  unfold tyN
  split
  · cases l with
    | nil => rename_i h; cases h
    | cons b t => simp
  · exact runL_le l
theorem tyS_N (l : List UInt8) : tyS l = (l.take (tyN l), l.drop (tyN l)) := by
  cases l with
  | nil => simp [tyS]
  | cons b t =>
    unfold tyN tyS
    by_cases h : b = 42
    · simp [h]
    · simp [h]
theorem prs_split {l : List UInt8} (h : l ≠ []) : prs l = match idS (l.drop (tyN l)) with
  | none => none
  | some (id, r) => match clsR r [] with
    | none => none
    | some cs => some ⟨l.take (tyN l), id, cs⟩ := by
  unfold prs clsR
  rw [if_neg h, tyS_N]
  rfl
theorem drop_at {l : List UInt8} {i : Nat} (h : i < l.length) : l.drop i = l[i] :: l.drop (i + 1) := List.drop_eq_getElem_cons h
theorem tail_list (s : ByteArray) (k : Nat) : (s.extract k s.size).data.toList = s.data.toList.drop k := by rw [ext_tail, bA_list]
theorem ext_mid (s : ByteArray) (a n : Nat) : s.extract a (a + n) = bA ((s.data.toList.drop a).take n) := by
  rw [ext_bA, List.drop_take, Nat.add_sub_cancel_left]
/-! ### The state -/
theorem CvP.off {b : Nat} {w : World} {p q : ByteArray} {v : Value} {l : List ByteArray} (h : CvP b w p q v l) (b2 o : Nat) (u : Value) (hne : b ≠ b2) (hv : v.ownBlock ≠ some b2) : CvP b (w.setCell ⟨b2, o, none⟩ u) p q v l := by
  have far : ∀ x, (w.setCell ⟨b2, o, none⟩ u).cell? ⟨b, x, none⟩ = w.cell? ⟨b, x, none⟩ := fun x => World.cell?_setCell_other _ _ _ _ (fun e => by injection e; omega)
  exact ⟨(far 0).trans h.c0, (far 1).trans h.c1, (far 2).trans h.c2, fun x => by rw [World.frozen?_setCell]; exact h.free x, Txs.far h.own _ _ _ hv⟩
theorem CvP.low {b B : Nat} {w w' : World} {p q : ByteArray} (h : CvP b w p q (.slice none 0 0) []) (k : Below B w w') (hb : b < B) : CvP b w' p q (.slice none 0 0) [] :=
  ⟨(Below.cell k (p := ⟨b, 0, none⟩) hb).trans h.c0, (Below.cell k (p := ⟨b, 1, none⟩) hb).trans h.c1, (Below.cell k (p := ⟨b, 2, none⟩) hb).trans h.c2, fun o => (Below.frozen k (p := ⟨b, o, none⟩) hb).trans (h.free o), Txs.nil _ _⟩
theorem CvP.ty {b : Nat} {w : World} {p q : ByteArray} {v : Value} {l : List ByteArray} (h : CvP b w p q v l) (p' : ByteArray) : CvP b (w.setCell ⟨b, 0, none⟩ (.string p')) p' q v l := by
  have far : ∀ x, x ≠ 0 → (w.setCell ⟨b, 0, none⟩ (.string p')).cell? ⟨b, x, none⟩ = w.cell? ⟨b, x, none⟩ := fun x hx => World.cell?_setCell_other _ _ _ _ (fun e => by injection e; omega)
  exact ⟨World.cell?_setCell_same w ⟨b, 0, none⟩ _ h.c0, (far 1 (by omega)).trans h.c1, (far 2 (by omega)).trans h.c2, fun x => by rw [World.frozen?_setCell]; exact h.free x, Txs.far h.own _ _ _ h.ne⟩
theorem CvP.id {b : Nat} {w : World} {p q : ByteArray} {v : Value} {l : List ByteArray} (h : CvP b w p q v l) (q' : ByteArray) : CvP b (w.setCell ⟨b, 1, none⟩ (.string q')) p q' v l := by
  have far : ∀ x, x ≠ 1 → (w.setCell ⟨b, 1, none⟩ (.string q')).cell? ⟨b, x, none⟩ = w.cell? ⟨b, x, none⟩ := fun x hx => World.cell?_setCell_other _ _ _ _ (fun e => by injection e; omega)
  exact ⟨(far 0 (by omega)).trans h.c0, World.cell?_setCell_same w ⟨b, 1, none⟩ _ h.c1, (far 2 (by omega)).trans h.c2, fun x => by rw [World.frozen?_setCell]; exact h.free x, Txs.far h.own _ _ _ h.ne⟩
structure PSt (w wx : World) (ty id : ByteArray) (v : Value) (cls : List ByteArray) : Prop where
  box : CvP (w.heap.size + 1) wx ty id v cls
  z : CvP w.heap.size wx ⟨#[]⟩ ⟨#[]⟩ (.slice none 0 0) []
  nw : Nw w wx
theorem PSt.ty {w wx : World} {ty id : ByteArray} {v : Value} {cls : List ByteArray} (h : PSt w wx ty id v cls) (ty' : ByteArray) : PSt w (wx.setCell ⟨w.heap.size + 1, 0, none⟩ (.string ty')) ty' id v cls :=
  ⟨h.box.ty ty', h.z.off _ _ _ (by omega) (by simp [Value.ownBlock]), h.nw.setCell (by simp) _⟩
theorem PSt.id {w wx : World} {ty id : ByteArray} {v : Value} {cls : List ByteArray} (h : PSt w wx ty id v cls) (id' : ByteArray) : PSt w (wx.setCell ⟨w.heap.size + 1, 1, none⟩ (.string id')) ty id' v cls :=
  ⟨h.box.id id', h.z.off _ _ _ (by omega) (by simp [Value.ownBlock]), h.nw.setCell (by simp) _⟩
theorem PSt.go {w wx wy : World} {ty id : ByteArray} {v : Value} {cls : List ByteArray} (h : PSt w wx ty id v cls) (k : Nw wx wy) : PSt w wy ty id v cls := ⟨h.box.nw k, h.z.nw k, Nw.trans h.nw k⟩
theorem PSt.put {w wx w' : World} {ty id : ByteArray} {v v' : Value} {cls cls' : List ByteArray} (h : PSt w wx ty id v cls) (k : Ext v v' wx w') (ho : Txs w' (w.heap.size + 1 + 1) v' cls') : PSt w (w'.setCell ⟨w.heap.size + 1, 2, none⟩ v') ty id v' cls' := by
  obtain ⟨h1, h2⟩ := h.box.put k ho
  exact ⟨h1, h.z.low h2 (Nat.lt_succ_self _), Below.trans h.nw (Below.mono h2 (by omega))⟩
theorem PSt.new (w : World) (t : TypeId) : PSt w ((w.alloc (.cells #[.string ⟨#[]⟩, .string ⟨#[]⟩, .slice none 0 0] t)).alloc (.cells #[.string ⟨#[]⟩, .string ⟨#[]⟩, .slice none 0 0] t)) ⟨#[]⟩ ⟨#[]⟩ (.slice none 0 0) [] := by
  have h1 := CvP.new w t ⟨#[]⟩ ⟨#[]⟩
  have h2 := CvP.new (w.alloc (.cells #[.string ⟨#[]⟩, .string ⟨#[]⟩, .slice none 0 0] t)) t ⟨#[]⟩ ⟨#[]⟩
  rw [World.size_alloc] at h2
  exact ⟨h2, h1.nw ((Below.refl _ _).alloc (Nat.le_refl _) _), (((Below.refl _ _).alloc (Nat.le_refl _) _).alloc (by simp) _)⟩
theorem PSt.done {w w9 : World} {ty id : ByteArray} {va : Option Addr} {vc : Nat} {D : List ByteArray} (h : PSt w w9 ty id (.slice va D.length vc) D) (u0 u1 u2 : Value) :
    RowM 1 EStr (((w9.setCell ⟨w.heap.size, 0, none⟩ u0).setCell ⟨w.heap.size, 1, none⟩ u1).setCell ⟨w.heap.size, 2, none⟩ u2) (.slice va D.length vc) D (iv w (((w9.setCell ⟨w.heap.size, 0, none⟩ u0).setCell ⟨w.heap.size, 1, none⟩ u1).setCell ⟨w.heap.size, 2, none⟩ u2)) := by
  have hne : (Value.slice va D.length vc).ownBlock ≠ some w.heap.size := fun e => by have := (World.ownsRow.lt h.box.own _ e).1; omega
  exact RowM.ofTxs (((h.box.own.far _ _ _ hne).far _ _ _ hne).far _ _ _ hne) (fun b h1 h2 => ⟨by omega, h2⟩)
end Go.Proofs.YtnkmdmmlpidcmaaDoor
