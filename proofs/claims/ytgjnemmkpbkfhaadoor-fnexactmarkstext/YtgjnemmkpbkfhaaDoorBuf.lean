/-
  Lists of bytes of the call's own, to which bytes and texts are appended; each theorem names its conditions.
-/
import Derived.Test.YtgjnemmkpbkfhaaDoorExt
import Derived.Maps.AppendAt
import Derived.Lib.AppendStr
import Derived.Lib.SlBytesRow
import Derived.Lib.BufferRead
import Derived.Deep.Upon
import Derived.OwnWalk
import Derived.Handy
namespace Go.Proofs.YtgjnemmkpbkfhaaDoor
open Go.ChangeShapes Go.WideShapes Go.ChangeAt Go.RowKit
set_option linter.unusedVariables false

theorem buf_parts : ∃ i, Tryd.prog.info? 5 = some i ∧ i.zero = some (.int .u8 0) ∧ i.size = 1 ∧ i.bytes = 1 := by
  have h : (Tryd.prog.info? 5).map (fun i => (i.zero, i.size, i.bytes)) = some (some (.int .u8 0), 1, 1) := by kernel_rfl
  obtain ⟨i, hi, hzz⟩ := Option.map_eq_some_iff.1 h
  simp only [Prod.mk.injEq] at hzz
  exact ⟨i, hi, hzz⟩
/-- The bytes of a text as cells. -/
def cellsT (s : ByteArray) : List Value := Lib.strCells s
theorem cellsT_len (s : ByteArray) : (cellsT s).length = s.size := Lib.strCells_length s
theorem cellsT_app (s t : ByteArray) : cellsT (s ++ t) = cellsT s ++ cellsT t := by simp [cellsT, Lib.strCells]
/-- The text s in a list of the call's own, nil or in a block from B on. -/
def Buf (w : World) (B : Nat) (v : Value) (s : ByteArray) : Prop := w.ownsRow B 5 1 v s.size (cellsT s)
theorem Buf.nil (w : World) (B : Nat) : Buf w B (.slice none 0 0) ⟨#[]⟩ := World.ownsRow_nil w B _ 1
theorem Buf.nw {w w' : World} {B : Nat} {v : Value} {s : ByteArray} (h : Buf w B v s) (k : Nw w w') : Buf w' B v s :=
  World.ownsRow.kept h (row := none) ⟨Below.os k, Below.tape k, Below.output k, Below.size k, fun b hb _ => Below.block k b hb⟩ (by cases hv : v.ownBlock <;> simp)
theorem Buf.below {w w' : World} {B : Nat} {v : Value} {s : ByteArray} (h : Buf w B v s) (k : w.grownBy w' v.ownBlock) (hB : B ≤ w.heap.size) : Below B w w' :=
  ⟨k.os, k.tape, k.output, k.size, fun b hb => k.block b (by omega) (fun e => by have := (World.ownsRow.lt h b e.symm).1; omega)⟩
/-- A list's literal of one byte is appended. -/
theorem wp_byte (w : World) {ops : Array Oper} {rest : List Oper} {o : Oper} {a : Act} {Q : Exit → Act → World → Prop} (hgd : o.guard = none) (s x : Operand)
    (ho : o.op = .call { callee := .builtin .append, args := #[s, x], argTypes := #[66, 66] })
    (B : Nat) (v : Value) (t : ByteArray) (b : UInt8) (hs : a.eval s = v) (hown : Buf w B v t) (g : Nat) (hx : a.eval x = .slice (some ⟨g, 0, none⟩) 1 1) (hc : w.cell? ⟨g, 0, none⟩ = some (.int .u8 b.toNat))
    (h63 : t.size ≤ 10000000) (hB : B ≤ w.heap.size)
    (h : ∀ v' w', Buf w' B v' (t ++ ⟨#[b]⟩) → Ext v v' w w' → wpList Tryd.prog ops Q rest (a.put o.dst v') w') : wpList Tryd.prog ops Q (o :: rest) a w := by
  obtain ⟨i0, hi, hz0, hz1, hz2⟩ := buf_parts
  have e1 : cellsT ⟨#[b]⟩ = [.int .u8 b.toNat] := by simp [cellsT, Lib.strCells]
  have e2 : (⟨#[b]⟩ : ByteArray).size = 1 := rfl
  refine wpList_append_own_at w hgd s x 66 ho B 5 i0 (.int .u8 0) 1 1 Tryd.underlying66 hi hz0 hz1 hz2 rfl (by decide) v t.size (cellsT t) hs hown ⟨g, 0, none⟩ 1 1 [.int .u8 b.toNat] hx rfl (fun j u hj => ?_) (fun u hu => ?_) (by unfold maxLen; omega) (by omega) hB ?_
  · cases j with
    | zero => simp at hj; subst hj; simpa [Addr.add] using hc
    | succ j => simp at hj
  · simp at hu; subst hu; rfl
  · intro v' w' h1 h2 _ h4
    refine h v' w' ?_ ⟨h2, h4.imp id fun e => ⟨_, e, Nat.le_refl _⟩⟩
    unfold Buf
    rw [cellsT_app, e1, ByteArray.size_append, e2]
    exact h1
theorem run_text (w : World) (ty : TypeId) (B : Nat) (v : Value) (t : ByteArray) (hown : Buf w B v t) (s : ByteArray) (h63 : t.size + s.size ≤ 10000000) (hB : B ≤ w.heap.size) :
    ∃ v' w', (Builtin.append_ #[66, 9] ty #[v, .string s]).run Tryd.prog w = .ok v' w' ∧ Buf w' B v' (t ++ s) ∧ Ext v v' w w' := by
  obtain ⟨i0, hi, hz0, hz1, hz2⟩ := buf_parts
  have hu : Tryd.prog.underlying 9 = some .string := Tryd.underlying9
  obtain ⟨v', w', hr, h1, h2, h3⟩ := Lib.run_append_own_string (P := Tryd.prog) w B 66 9 ty 5 i0 Tryd.underlying66 hu hi hz0 hz1 hz2 v t.size (cellsT t) hown s (by unfold maxLen; omega) (by omega) hB
  refine ⟨v', w', hr, by unfold Buf; rw [cellsT_app, ByteArray.size_append]; exact h1, h2, ?_⟩
  rcases hown.2 with ⟨rfl, hn⟩ | ⟨g, c, cur, rfl, hbg, hg, hnc, hcm, hcs, htake⟩
  · by_cases hm : s.size = 0
    · rw [(h3.2 ⟨rfl, hm⟩)]; exact Or.inl rfl
    · have hr2 := run_append_nil_string (P := Tryd.prog) w 66 9 ty 5 i0 (.int .u8 0) Tryd.underlying66 hu hi hz0 s (by omega) (by omega) (by rw [hz2]; omega)
      rw [hr] at hr2
      injection hr2 with e1 e2
      subst e1
      exact Or.inr ⟨_, rfl, Nat.le_refl _⟩
  · by_cases hroom : t.size + s.size ≤ c
    · have hr2 := Lib.run_append_room_string (P := Tryd.prog) w 66 9 ty 5 i0 Tryd.underlying66 hu hi hz1 g t.size c cur hg s hroom (by omega)
      rw [hr] at hr2
      injection hr2 with e1 e2
      subst e1
      exact Or.inl rfl
    · have hr2 := Lib.run_append_grow_string (P := Tryd.prog) w 66 9 ty 5 i0 (.int .u8 0) Tryd.underlying66 hu hi hz0 ⟨g, 0, none⟩ t.size c (cellsT t) (by rw [hz1, cellsT_len]; omega) (World.ownsRow.cells hown rfl) s (by omega) (by omega) (by rw [hz2]; exact growslice_fits (by omega) (by omega))
      rw [hr] at hr2
      injection hr2 with e1 e2
      subst e1
      exact Or.inr ⟨_, rfl, Nat.le_refl _⟩
/-- A text is appended. -/
theorem wp_text (w : World) {ops : Array Oper} {rest : List Oper} {o : Oper} {a : Act} {Q : Exit → Act → World → Prop} (hgd : o.guard = none) (sl x : Operand)
    (ho : o.op = .call { callee := .builtin .append, args := #[sl, x], argTypes := #[66, 9] })
    (B : Nat) (v : Value) (t : ByteArray) (hs : a.eval sl = v) (hown : Buf w B v t) (s : ByteArray) (hx : a.eval x = .string s)
    (h63 : t.size + s.size ≤ 10000000) (hB : B ≤ w.heap.size)
    (h : ∀ v' w', Buf w' B v' (t ++ s) → Ext v v' w w' → wpList Tryd.prog ops Q rest (a.put o.dst v') w') : wpList Tryd.prog ops Q (o :: rest) a w := by
  refine wpList_plain hgd fun K hK => ?_
  obtain ⟨v', w', hr, h1, h2⟩ := run_text w o.type B v t hown s h63 hB
  unfold Oper.wp execOp
  simp only [ho, resolve, invoke, builtin, Sem.run_bind, Sem.run_pure, Result.andThen_ok, List.map_toArray, List.map_cons, List.map_nil, hs, hx, hr]
  exact hK _ _ (h v' w' h1 h2)
/-- Such a list is turned into a text. -/
theorem run_buf {w : World} {B : Nat} {v : Value} {s : ByteArray} (h : Buf w B v s) : (convert 66 9 v).run Tryd.prog w = .ok (.string s) w := by
  have hu : Tryd.prog.underlying 9 = some .string := Tryd.underlying9
  have h8 : Tryd.prog.underlying 5 = some (.int .u8) := Tryd.underlying5
  rcases h.2 with ⟨rfl, h0⟩ | ⟨g, cap, cur, rfl, h2, h3⟩
  · have e : s = ⟨#[]⟩ := ByteArray.ext (Array.eq_empty_of_size_eq_zero h0)
    subst e
    exact Lib.run_convert_nil_bytes w _ _ _ 0 Tryd.underlying66 h8 hu
  · refine Lib.run_convert_whole w _ _ _ Tryd.underlying66 h8 hu g 0 s ?_ cap
    intro i hi
    have := World.ownsRow.cellAt h i (by rw [Nat.mul_one]; exact hi)
    rw [Nat.zero_add, this]
    simp [cellsT, Lib.strCells, hi]; rfl
end Go.Proofs.YtgjnemmkpbkfhaaDoor
