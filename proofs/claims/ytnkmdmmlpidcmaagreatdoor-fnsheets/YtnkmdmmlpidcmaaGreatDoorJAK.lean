/-
  Texts and parts held against each other by the law's helpers; each theorem names its conditions.
  Lists of bytes of the call's own, to which bytes and texts are appended; each theorem names its conditions.
  The text of a selector, the program's; each theorem names its conditions.
  Selectors of a bounded size have small parts; no condition but those of each line.
-/
import Derived.Test.YtnkmdmmlpidcmaaGreatDoorJAD
import Derived.Deep.QuietTactic
import Derived.BigQuiet
import Derived.Test.YtnkmdmmlpidcmaaGreatDoorJAB
import Derived.Maps.AppendAt
import Derived.Lib.AppendStr
import Derived.Lib.SlBytesRow
import Derived.Lib.BufferRead
import Derived.Deep.Upon
import Derived.OwnWalk
import Derived.Handy
import Derived.Test.YtnkmdmmlpidcmaaGreatDoorJAJ
namespace Go.Proofs.YtnkmdmmlpidcmaaGreatDoor
open Go.ChangeShapes Go.WideShapes Go.ChangeAt Go.RowKit
set_option linter.unusedVariables false

theorem nw_drewN (w : World) (n : Nat) : Nw w (w.drewN n) := ⟨rfl, rfl, rfl, Nat.le_refl _, fun _ _ => rfl⟩
set_option maxHeartbeats 4000000 in
theorem sameTexts_any (w : World) (a1 a2 : Option Addr) (c1 c2 : Nat) (l : List ByteArray) (hl : l.length ≤ 1048576) (h1 : Strs w a1 l) (h2 : Strs w a2 l) :
    Calls Tryz.prog 33 #[.slice a1 l.length c1, .slice a2 l.length c2] w fun e w' => e = .returned (.bool true) ∧ ∃ n, w' = w.drewN n := by
  have H1 : Hid (Strs w a1 l) := h1
  have H2 : Hid (Strs w a2 l) := h2
  clear h1 h2
  go_enter Tryz.func33, Tryz.ntmps33
  go_wp2
  go_loopw [13] (fun i wr => ∃ k n : Nat, k ≤ l.length ∧ i = .int .i64 k ∧ wr = w.drewN n) (fun i _ => l.length - (intOf i).toNat)
  case atStart => exact ⟨0, 0, Nat.zero_le _, rfl, rfl⟩
  case round =>
    obtain ⟨k, n, hk, rfl, rfl⟩ := hrel
    by_cases hlt : k < l.length
    · rcases H1.out with h | ⟨b1, o1, rfl, hb1, hc1⟩
      · rw [h] at hlt; simp at hlt
      rcases H2.out with h | ⟨b2, o2, rfl, hb2, hc2⟩
      · rw [h] at hlt; simp at hlt
      have q1 := hc1 k hlt
      have q2 := hc2 k hlt
      have i1 : (0 : Int) ≤ (k : Int) := by omega
      have i2 : (k : Int) < (l.length : Int) := by omega
      clear hc1 hc2
      go_wp2_with fail
      go_quiet (fail)
      go_wp2
      go_roundw
      case rel => exact ⟨k + 1, _, by omega, by go_num, rfl⟩
      case measure => simp [intOf]; omega
    · go_wp2
      go_ret
      exact ⟨rfl, _, rfl⟩
set_option maxHeartbeats 8000000 in
theorem sameParts_any (w : World) (a1 a2 : Option Addr) (c1 c2 : Nat) (l : List PD) (hl : l.length ≤ 1048576) (hla : lenPs l) (h1 : Parts w a1 l) (h2 : Parts w a2 l) :
    Calls Tryz.prog 10 #[.slice a1 l.length c1, .slice a2 l.length c2] w fun e w' => e = .returned (.bool true) ∧ ∃ n, w' = w.drewN n := by
  have H1 : Hid (Parts w a1 l) := h1
  have H2 : Hid (Parts w a2 l) := h2
  have HLA : Hid (lenPs l) := hla
  clear h1 h2 hla
  go_enter Tryz.func10, Tryz.ntmps10
  go_wp2
  go_loopw [13] (fun i wr => ∃ k n : Nat, k ≤ l.length ∧ i = .int .i64 k ∧ wr = w.drewN n) (fun i _ => l.length - (intOf i).toNat)
  case atStart => exact ⟨0, 0, Nat.zero_le _, rfl, rfl⟩
  case round =>
    obtain ⟨k, n, hk, rfl, rfl⟩ := hrel
    by_cases hlt : k < l.length
    · rcases H1.out with h | ⟨b1, o1, rfl, hb1, hc1⟩
      · rw [h] at hlt; simp at hlt
      rcases H2.out with h | ⟨b2, o2, rfl, hb2, hc2⟩
      · rw [h] at hlt; simp at hlt
      obtain ⟨q0, q1, ⟨qa, qc, q2, _, q4⟩⟩ := hc1 k hlt
      obtain ⟨r0, r1, ⟨ra, rc, r2, _, r4⟩⟩ := hc2 k hlt
      have i1 : (0 : Int) ≤ (k : Int) := by omega
      have i2 : (k : Int) < (l.length : Int) := by omega
      have hlk := HLA.out k hlt
      have HQ : Hid (∀ n', Calls Tryz.prog 33 #[.slice qa (partAt l k).cls.length qc, .slice ra (partAt l k).cls.length rc] ((w.drewN n).drewN n') fun e w' => e = .returned (.bool true) ∧ ∃ m, w' = (w.drewN n).drewN m) := by
        intro n'
        refine (sameTexts_any ((w.drewN n).drewN n') qa ra qc rc _ hlk (q4.nw (Nw.trans (nw_drewN w n) (nw_drewN _ n'))) (r4.nw (Nw.trans (nw_drewN w n) (nw_drewN _ n')))).mono ?_
        rintro e w' ⟨rfl, m, rfl⟩
        exact ⟨rfl, n' + m, World.drewN_drewN _ _ _⟩
      clear hc1 hc2 q4 r4 hlk
      generalize (partAt l k).ty = ty at *
      generalize (partAt l k).id = id at *
      generalize (partAt l k).cls = cls at *
      obtain ⟨V, hV⟩ : ∃ V, V = w.drewN n := ⟨_, rfl⟩
      have hcell : ∀ a, V.cell? a = w.cell? a := fun a => by rw [hV]; rfl
      replace q0 := (hcell _).trans q0
      replace q1 := (hcell _).trans q1
      replace q2 := (hcell _).trans q2
      replace r0 := (hcell _).trans r0
      replace r1 := (hcell _).trans r1
      replace r2 := (hcell _).trans r2
      rw [← hV] at HQ ⊢
      have HV : Hid (V = w.drewN n) := hV
      clear hV hcell
      go_wp2_with fail
      go_quiet (first | (go_at_call 33; exact HQ.out _))
      go_wp2
      go_roundw
      case rel => exact ⟨k + 1, _, by omega, by go_num, by rw [HV.out]; exact World.drewN_drewN _ _ _⟩
      case measure => simp [intOf]; omega
    · go_wp2
      go_ret
      exact ⟨rfl, _, rfl⟩
end Go.Proofs.YtnkmdmmlpidcmaaGreatDoor
namespace Go.Proofs.YtnkmdmmlpidcmaaGreatDoor
open Go.ChangeShapes Go.WideShapes Go.ChangeAt Go.RowKit
set_option linter.unusedVariables false

theorem buf_parts : ∃ i, Tryz.prog.info? 5 = some i ∧ i.zero = some (.int .u8 0) ∧ i.size = 1 ∧ i.bytes = 1 := by
  have h : (Tryz.prog.info? 5).map (fun i => (i.zero, i.size, i.bytes)) = some (some (.int .u8 0), 1, 1) := by kernel_rfl
  obtain ⟨i, hi, hzz⟩ := Option.map_eq_some_iff.1 h
  simp only [Prod.mk.injEq] at hzz
  exact ⟨i, hi, hzz⟩
/-- The bytes of a text as cells. -/
def cellsT (s : ByteArray) : List Value := Lib.strCells s
theorem cellsT_len (s : ByteArray) : (cellsT s).length = s.size := Lib.strCells_length s
theorem cellsT_app (s t : ByteArray) : cellsT (s ++ t) = cellsT s ++ cellsT t := by simp [cellsT, Lib.strCells]
/-- The text s in a list of the call's own, nil or in a block from B on. -/
def Buf (w : World) (B : Nat) (v : Value) (s : ByteArray) : Prop := w.ownsRow B 5 1 v s.size (cellsT s)
theorem Buf.nil (w : World) (B : Nat) : Buf w B (.slice none 0 0) ⟨#[]⟩ := World.ownsRow_nil w B _ 1
theorem Buf.nw {w w' : World} {B : Nat} {v : Value} {s : ByteArray} (h : Buf w B v s) (k : Nw w w') : Buf w' B v s :=
  World.ownsRow.kept h (row := none) ⟨Below.os k, Below.tape k, Below.output k, Below.size k, fun b hb _ => Below.block k b hb⟩ (by cases hv : v.ownBlock <;> simp)
theorem Buf.below {w w' : World} {B : Nat} {v : Value} {s : ByteArray} (h : Buf w B v s) (k : w.grownBy w' v.ownBlock) (hB : B ≤ w.heap.size) : Below B w w' :=
  ⟨k.os, k.tape, k.output, k.size, fun b hb => k.block b (by omega) (fun e => by have := (World.ownsRow.lt h b e.symm).1; omega)⟩
/-- A list's literal of one byte is appended. -/
theorem wp_byte (w : World) {ops : Array Oper} {rest : List Oper} {o : Oper} {a : Act} {Q : Exit → Act → World → Prop} (hgd : o.guard = none) (s x : Operand)
    (ho : o.op = .call { callee := .builtin .append, args := #[s, x], argTypes := #[22, 22] })
    (B : Nat) (v : Value) (t : ByteArray) (b : UInt8) (hs : a.eval s = v) (hown : Buf w B v t) (g : Nat) (hx : a.eval x = .slice (some ⟨g, 0, none⟩) 1 1) (hc : w.cell? ⟨g, 0, none⟩ = some (.int .u8 b.toNat))
    (h63 : t.size ≤ 10000000) (hB : B ≤ w.heap.size)
    (h : ∀ v' w', Buf w' B v' (t ++ ⟨#[b]⟩) → Ext v v' w w' → wpList Tryz.prog ops Q rest (a.put o.dst v') w') : wpList Tryz.prog ops Q (o :: rest) a w := by
  obtain ⟨i0, hi, hz0, hz1, hz2⟩ := buf_parts
  have e1 : cellsT ⟨#[b]⟩ = [.int .u8 b.toNat] := by simp [cellsT, Lib.strCells]
  have e2 : (⟨#[b]⟩ : ByteArray).size = 1 := rfl
  refine wpList_append_own_at w hgd s x 22 ho B 5 i0 (.int .u8 0) 1 1 Tryz.underlying22 hi hz0 hz1 hz2 rfl (by decide) v t.size (cellsT t) hs hown ⟨g, 0, none⟩ 1 1 [.int .u8 b.toNat] hx rfl (fun j u hj => ?_) (fun u hu => ?_) (by unfold maxLen; omega) (by omega) hB ?_
  · cases j with
    | zero => simp at hj; subst hj; simpa [Addr.add] using hc
    | succ j => simp at hj
  · simp at hu; subst hu; rfl
  · intro v' w' h1 h2 _ h4
    refine h v' w' ?_ ⟨h2, h4.imp id fun e => ⟨_, e, Nat.le_refl _⟩⟩
    unfold Buf
    rw [cellsT_app, e1, ByteArray.size_append, e2]
    exact h1
theorem run_text (w : World) (ty : TypeId) (B : Nat) (v : Value) (t : ByteArray) (hown : Buf w B v t) (s : ByteArray) (h63 : t.size + s.size ≤ 10000000) (hB : B ≤ w.heap.size) :
    ∃ v' w', (Builtin.append_ #[22, 9] ty #[v, .string s]).run Tryz.prog w = .ok v' w' ∧ Buf w' B v' (t ++ s) ∧ Ext v v' w w' := by
  obtain ⟨i0, hi, hz0, hz1, hz2⟩ := buf_parts
  have hu : Tryz.prog.underlying 9 = some .string := Tryz.underlying9
  obtain ⟨v', w', hr, h1, h2, h3⟩ := Lib.run_append_own_string (P := Tryz.prog) w B 22 9 ty 5 i0 Tryz.underlying22 hu hi hz0 hz1 hz2 v t.size (cellsT t) hown s (by unfold maxLen; omega) (by omega) hB
  refine ⟨v', w', hr, by unfold Buf; rw [cellsT_app, ByteArray.size_append]; exact h1, h2, ?_⟩
  rcases hown.2 with ⟨rfl, hn⟩ | ⟨g, c, cur, rfl, hbg, hg, hnc, hcm, hcs, htake⟩
  · by_cases hm : s.size = 0
    · rw [(h3.2 ⟨rfl, hm⟩)]; exact Or.inl rfl
    · have hr2 := run_append_nil_string (P := Tryz.prog) w 22 9 ty 5 i0 (.int .u8 0) Tryz.underlying22 hu hi hz0 s (by omega) (by omega) (by rw [hz2]; omega)
      rw [hr] at hr2
      injection hr2 with e1 e2
      subst e1
      exact Or.inr ⟨_, rfl, Nat.le_refl _⟩
  · by_cases hroom : t.size + s.size ≤ c
    · have hr2 := Lib.run_append_room_string (P := Tryz.prog) w 22 9 ty 5 i0 Tryz.underlying22 hu hi hz1 g t.size c cur hg s hroom (by omega)
      rw [hr] at hr2
      injection hr2 with e1 e2
      subst e1
      exact Or.inl rfl
    · have hr2 := Lib.run_append_grow_string (P := Tryz.prog) w 22 9 ty 5 i0 (.int .u8 0) Tryz.underlying22 hu hi hz0 ⟨g, 0, none⟩ t.size c (cellsT t) (by rw [hz1, cellsT_len]; omega) (World.ownsRow.cells hown rfl) s (by omega) (by omega) (by rw [hz2]; exact growslice_fits (by omega) (by omega))
      rw [hr] at hr2
      injection hr2 with e1 e2
      subst e1
      exact Or.inr ⟨_, rfl, Nat.le_refl _⟩
/-- A text is appended. -/
theorem wp_text (w : World) {ops : Array Oper} {rest : List Oper} {o : Oper} {a : Act} {Q : Exit → Act → World → Prop} (hgd : o.guard = none) (sl x : Operand)
    (ho : o.op = .call { callee := .builtin .append, args := #[sl, x], argTypes := #[22, 9] })
    (B : Nat) (v : Value) (t : ByteArray) (hs : a.eval sl = v) (hown : Buf w B v t) (s : ByteArray) (hx : a.eval x = .string s)
    (h63 : t.size + s.size ≤ 10000000) (hB : B ≤ w.heap.size)
    (h : ∀ v' w', Buf w' B v' (t ++ s) → Ext v v' w w' → wpList Tryz.prog ops Q rest (a.put o.dst v') w') : wpList Tryz.prog ops Q (o :: rest) a w := by
  refine wpList_plain hgd fun K hK => ?_
  obtain ⟨v', w', hr, h1, h2⟩ := run_text w o.type B v t hown s h63 hB
  unfold Oper.wp execOp
  simp only [ho, resolve, invoke, builtin, Sem.run_bind, Sem.run_pure, Result.andThen_ok, List.map_toArray, List.map_cons, List.map_nil, hs, hx, hr]
  exact hK _ _ (h v' w' h1 h2)
/-- Such a list is turned into a text. -/
theorem run_buf {w : World} {B : Nat} {v : Value} {s : ByteArray} (h : Buf w B v s) : (convert 22 9 v).run Tryz.prog w = .ok (.string s) w := by
  have hu : Tryz.prog.underlying 9 = some .string := Tryz.underlying9
  have h8 : Tryz.prog.underlying 5 = some (.int .u8) := Tryz.underlying5
  rcases h.2 with ⟨rfl, h0⟩ | ⟨g, cap, cur, rfl, h2, h3⟩
  · have e : s = ⟨#[]⟩ := ByteArray.ext (Array.eq_empty_of_size_eq_zero h0)
    subst e
    exact Lib.run_convert_nil_bytes w _ _ _ 0 Tryz.underlying22 h8 hu
  · refine Lib.run_convert_whole w _ _ _ Tryz.underlying22 h8 hu g 0 s ?_ cap
    intro i hi
    have := World.ownsRow.cellAt h i (by rw [Nat.mul_one]; exact hi)
    rw [Nat.zero_add, this]
    simp [cellsT, Lib.strCells, hi]; rfl
end Go.Proofs.YtnkmdmmlpidcmaaGreatDoor
namespace Go.Proofs.YtnkmdmmlpidcmaaGreatDoor
open Go.ChangeShapes Go.WideShapes Go.ChangeAt Go.RowKit
set_option linter.unusedVariables false

theorem app_assoc (a b c : ByteArray) : (a ++ b) ++ c = a ++ (b ++ c) := by
  apply ByteArray.ext; simp
theorem nil_app (a : ByteArray) : (⟨#[]⟩ : ByteArray) ++ a = a := by
  apply ByteArray.ext; simp
theorem app_nil (a : ByteArray) : a ++ (⟨#[]⟩ : ByteArray) = a := by
  apply ByteArray.ext; simp
/-- While a part is written: the list v holds t, the part's copy lies in the block g. -/
structure St (ws : World) (vs : Value) (w0 w : World) (g : Nat) (ty id : ByteArray) (sl : Value) (v : Value) (t : ByteArray) : Prop where
  nw : Nw w0 w
  buf : Buf w w0.heap.size v t
  lt : g < w.heap.size
  ap : v.ownBlock ≠ some g
  c0 : w.cell? ⟨g, 0, none⟩ = some (.string ty)
  c1 : w.cell? ⟨g, 1, none⟩ = some (.string id)
  c2 : w.cell? ⟨g, 2, none⟩ = some sl
  ex : Ext vs v ws w
section
variable {ws : World} {vs : Value} {w0 w w' : World} {g : Nat} {ty id : ByteArray} {sl v v' : Value} {t t' : ByteArray}
theorem St.ext (h : St ws vs w0 w g ty id sl v t) (k : Ext v v' w w') (b : Buf w' w0.heap.size v' t') : St ws vs w0 w' g ty id sl v' t' :=
  ⟨Below.trans h.nw (k.below (fun x e => (World.ownsRow.lt h.buf x e).1) (Below.size h.nw)), b, Nat.lt_of_lt_of_le h.lt k.size, k.apart h.lt h.ap, (k.cell h.lt h.ap 0).trans h.c0, (k.cell h.lt h.ap 1).trans h.c1, (k.cell h.lt h.ap 2).trans h.c2, h.ex.trans k⟩
theorem St.alloc (h : St ws vs w0 w g ty id sl v t) (o : Obj) : St ws vs w0 (w.alloc o) g ty id sl v t := by
  have k : Nw w (w.alloc o) := (Below.refl _ _).alloc (Nat.le_refl _) _
  exact ⟨h.nw.trans k, h.buf.nw k, Nat.lt_of_lt_of_le h.lt (Below.size k), h.ap, ((bcell k).1 _ _ h.lt).trans h.c0, ((bcell k).1 _ _ h.lt).trans h.c1, ((bcell k).1 _ _ h.lt).trans h.c2, h.ex.nw k⟩
theorem St.text (h : St ws vs w0 w g ty id sl v t) (e : t = t') : St ws vs w0 w g ty id sl v t' := e ▸ h
theorem St.begin (h : Nw w0 w) (b : Buf w w0.heap.size v t) (x : Ext vs v ws w) (T : TypeId) : St ws vs w0 (w.alloc (.cells #[.string ty, .string id, sl] T)) w.heap.size ty id sl v t := by
  have k : Nw w (w.alloc (.cells #[.string ty, .string id, sl] T)) := (Below.refl _ _).alloc (Nat.le_refl _) _
  exact ⟨h.trans k, b.nw k, by simp, fun e => by have := (World.ownsRow.lt b _ e).2; omega, by simp, by simp, by simp, x.nw k⟩
end

set_option maxHeartbeats 8000000 in
set_option maxRecDepth 100000 in
theorem iappSelX (w0 w : World) (a : Option Addr) (c : Nat) (l : List PD) (v : Value) (t : ByteArray) (hl : l.length ≤ 5) (hs : PsTo l l.length) (hr : Parts w0 a l) (hw : Nw w0 w) (hb : Buf w w0.heap.size v t) (ht : t.size ≤ 5000000) :
    Calls Tryz.prog 38 #[v, .slice a l.length c] w fun e w' => ∃ v', e = .returned v' ∧ Nw w0 w' ∧ Buf w' w0.heap.size v' (t ++ selT l l.length) ∧ Ext v v' w w' := by
  have HR : Hid (Parts w0 a l) := hr
  have HS : Hid (PsTo l l.length) := hs
  have HB0 : Hid (Buf w w0.heap.size v t) := hb
  have HW0 : Hid (Nw w0 w) := hw
  clear hr hs hb hw
  go_enter Tryz.func38, Tryz.ntmps38
  go_wp2
  go_loopw [0, 11] (fun x i wr => ∃ k : Nat, k ≤ l.length ∧ i = .int .i64 k ∧ Nw w0 wr ∧ Buf wr w0.heap.size x (t ++ selT l k) ∧ Ext v x w wr) (fun _ i _ => l.length - (intOf i).toNat)
  case atStart => exact ⟨0, Nat.zero_le _, rfl, HW0.out, by rw [selT, app_nil]; exact HB0.out, Ext.refl _ _⟩
  case round =>
    obtain ⟨k, hk, rfl, hw, hb, hx⟩ := hrel
    obtain ⟨W1, hW1⟩ : ∃ W1, W1 = wr := ⟨_, rfl⟩
    subst hW1
    rename_i x _
    have HB : Hid (Buf W1 w0.heap.size _ (t ++ selT l k)) := hb
    have HW : Hid (Nw w0 W1) := hw
    have HXE : Hid (Ext v _ w W1) := hx
    clear hb hx
    by_cases hlt : k < l.length
    · rcases HR.out with h | ⟨b, off, rfl, hbk, hc⟩
      · rw [h] at hlt; simp at hlt
      obtain ⟨q0, q1, ⟨qa, qc, q2, qcap, q4⟩⟩ := hc k hlt
      replace q0 := ((bcell hw).1 _ _ hbk).trans q0
      replace q1 := ((bcell hw).1 _ _ hbk).trans q1
      replace q2 := ((bcell hw).1 _ _ hbk).trans q2
      have hz : partB ⟨(partAt l k).ty, (partAt l k).id, (partAt l k).cls⟩ = true := HS.out k hlt
      have HQ : Hid (Strs w0 qa (partAt l k).cls) := q4
      obtain ⟨z4, hcl, _, _, z1, z2⟩ := partB_parts hz
      have HC : Hid (ClsTo (partAt l k).cls (partAt l k).cls.length) := hcl
      have y1 := selT_size k fun i hi => HS.out i (by omega)
      have hsel : selT l (k + 1) = sepT (selT l k) k ++ partT ⟨(partAt l k).ty, (partAt l k).id, (partAt l k).cls⟩ := rfl
      have HE : Hid (selT l (k + 1) = sepT (selT l k) k ++ partT ⟨(partAt l k).ty, (partAt l k).id, (partAt l k).cls⟩) := hsel
      clear hc hw q4 hz hcl hsel
      generalize (partAt l k).ty = ty at *
      generalize (partAt l k).id = id at *
      generalize (partAt l k).cls = cls at *
      have HF : ∀ H, headT ⟨ty, id, cls⟩ = H → partT ⟨ty, id, cls⟩ = clsTo H cls cls.length := fun H e => by unfold partT; rw [e]
      rcases idWay id with ⟨rfl, _⟩ | ⟨d1, d2, _⟩
      · have HP : Hid (partT ⟨ty, ⟨#[]⟩, cls⟩ = clsTo ty cls cls.length) := HF _ (headT_no (by simp [ByteArray.toList_eq]))
        have hH : ty.size ≤ 100 := by omega
        clear HF
        by_cases h0 : 0 < k
        · have hsep : sepT (selT l k) k = selT l k ++ (⟨#[32]⟩ : ByteArray) := by unfold sepT; rw [if_pos h0]
          have HS2 : Hid _ := hsep
          clear hsep
          have S0 : Hid (St w v w0 (W1.alloc (.cells #[.string ty, .string ⟨#[]⟩, .slice qa cls.length qc] 67)) W1.heap.size ty ⟨#[]⟩ (.slice qa cls.length qc) _ (t ++ selT l k)) := St.begin HW.out HB.out HXE.out _
          have ys : (t ++ selT l k).size ≤ 5002000 := by rw [size_app]; omega
          go_wp2_with (at_builtin; (refine wp_byte _ rfl _ _ rfl w0.heap.size _ _ 32 rfl (S0.out.alloc _).buf _ rfl ?c1 ?c2 ?c3 ?_))
          case c1 => simp
          case c2 => first | omega | (simp only [size_app]; omega)
          case c3 => exact Below.size (S0.out.alloc _).nw
          intro v1 w1 b1 e1
          have S1 : Hid (St w v w0 w1 W1.heap.size ty ⟨#[]⟩ (.slice qa cls.length qc) v1 ((t ++ selT l k) ++ (⟨#[32]⟩ : ByteArray))) := (((S0.out.alloc _).ext e1 b1)).text (by first | rfl | simp only [app_assoc])
          clear b1 e1
          have c0 := S1.out.c0; have c1 := S1.out.c1; have c2 := S1.out.c2
          have ys2 : ((t ++ selT l k) ++ (⟨#[32]⟩ : ByteArray)).size ≤ 5003000 := by rw [size_app]; have e : (⟨#[32]⟩ : ByteArray).size = 1 := rfl; rw [e]; omega
          have HX : Hid (t ++ selT l (k + 1) = ((t ++ selT l k) ++ (⟨#[32]⟩ : ByteArray)) ++ clsTo ty cls cls.length) := by show _ = _; rw [HE.out, HS2.out, HP.out]; simp only [app_assoc]
          generalize ((t ++ selT l k) ++ (⟨#[32]⟩ : ByteArray)) = X at *
          go_wp2_with (at_builtin; (refine wp_text _ rfl _ _ rfl w0.heap.size _ _ rfl S1.out.buf ty rfl ?c1 ?c2 ?_))
          case c1 => first | omega | (simp only [size_app]; omega)
          case c2 => exact Below.size S1.out.nw
          intro v2 w2 b1 e1
          have S2 : Hid (St w v w0 w2 W1.heap.size ty ⟨#[]⟩ (.slice qa cls.length qc) v2 (X ++ ty)) := (S1.out.ext e1 b1).text (by first | rfl | simp only [app_assoc])
          clear b1 e1
          have c0 := S2.out.c0; have c1 := S2.out.c1; have c2 := S2.out.c2
          have ys3 : (X ++ ty).size ≤ 5004000 := by rw [size_app]; omega
          go_wp2
          go_loopw [0, 38] (fun x j wr => ∃ n : Nat, n ≤ cls.length ∧ j = .int .i64 n ∧ St w v w0 wr W1.heap.size ty ⟨#[]⟩ (.slice qa cls.length qc) x (X ++ clsTo ty cls n)) (fun _ j _ => cls.length - (intOf j).toNat)
          case atStart => exact ⟨0, Nat.zero_le _, rfl, S2.out⟩
          case round =>
            obtain ⟨m, hm, rfl, hst⟩ := hrel
            obtain ⟨W2, hW2⟩ : ∃ W2, W2 = wr := ⟨_, rfl⟩
            subst hW2
            have T0 : Hid (St w v w0 W2 W1.heap.size ty ⟨#[]⟩ (.slice qa cls.length qc) _ (X ++ clsTo ty cls m)) := hst
            have hnw := hst.nw
            clear hst
            by_cases hlm : m < cls.length
            · rcases HQ.out with h | ⟨b2, o2, rfl, hb2, hc2⟩
              · rw [h] at hlm; simp at hlm
              have p0 := ((bcell hnw).1 _ _ hb2).trans (hc2 m hlm)
              have y0 := wordB_le (HC.out m hlm)
              have y5 := clsTo_lt HC.out z4 hH m hm
              have hcl : clsTo ty cls (m + 1) = clsTo ty cls m ++ ((⟨#[46]⟩ : ByteArray) ++ strAt cls m) := rfl
              have HCL : Hid _ := hcl
              have ys6 : (X ++ clsTo ty cls m).size ≤ 5006000 := by rw [size_app]; omega
              clear hc2 hnw hcl
              generalize hy : strAt cls m = y at *
              generalize clsTo ty cls m = C at *
              go_wp2_with (at_builtin; (refine wp_byte _ rfl _ _ rfl w0.heap.size _ _ 46 rfl (T0.out.alloc _).buf _ rfl ?c1 ?c2 ?c3 ?_))
              case c1 => simp
              case c2 => omega
              case c3 => exact Below.size (T0.out.alloc _).nw
              intro x1 X1 b1 e1
              have T1 : Hid (St w v w0 X1 W1.heap.size ty ⟨#[]⟩ (.slice (some ⟨b2, o2, none⟩) cls.length qc) x1 ((X ++ C) ++ (⟨#[46]⟩ : ByteArray))) := (T0.out.alloc _).ext e1 b1
              clear b1 e1
              have ys7 : ((X ++ C) ++ (⟨#[46]⟩ : ByteArray)).size ≤ 5007000 := by rw [size_app]; have e : (⟨#[46]⟩ : ByteArray).size = 1 := rfl; rw [e]; omega
              go_wp2_with (at_builtin; (refine wp_text _ rfl _ _ rfl w0.heap.size _ _ rfl T1.out.buf y rfl ?c1 ?c2 ?_))
              case c1 => omega
              case c2 => exact Below.size T1.out.nw
              intro x2 X2 b1 e1
              have T2 : Hid (St w v w0 X2 W1.heap.size ty ⟨#[]⟩ (.slice (some ⟨b2, o2, none⟩) cls.length qc) x2 (X ++ (C ++ ((⟨#[46]⟩ : ByteArray) ++ y)))) := (T1.out.ext e1 b1).text (by first | rfl | simp only [app_assoc])
              clear b1 e1
              go_wp2
              go_roundw
              case rel => exact ⟨m + 1, by omega, by go_num, by rw [HCL.out]; exact T2.out⟩
              case measure => simp [intOf]; omega
            · have e : m = cls.length := by omega
              subst e
              clear hnw
              go_wp2
              go_roundw
              case rel => exact ⟨k + 1, by omega, by go_num, T0.out.nw, by rw [HX.out]; exact T0.out.buf, T0.out.ex⟩
              case measure => simp [intOf]; omega
        · have hsep : sepT (selT l k) k = selT l k := by unfold sepT; rw [if_neg h0]
          have HS2 : Hid _ := hsep
          clear hsep
          have S0 : Hid (St w v w0 (W1.alloc (.cells #[.string ty, .string ⟨#[]⟩, .slice qa cls.length qc] 67)) W1.heap.size ty ⟨#[]⟩ (.slice qa cls.length qc) _ (t ++ selT l k)) := St.begin HW.out HB.out HXE.out _
          have ys : (t ++ selT l k).size ≤ 5002000 := by rw [size_app]; omega
          have ys2 : (t ++ selT l k).size ≤ 5003000 := by omega
          have HX : Hid (t ++ selT l (k + 1) = (t ++ selT l k) ++ clsTo ty cls cls.length) := by show _ = _; rw [HE.out, HS2.out, HP.out]; simp only [app_assoc]
          generalize (t ++ selT l k) = X at *
          go_wp2_with (at_builtin; (refine wp_text _ rfl _ _ rfl w0.heap.size _ _ rfl S0.out.buf ty rfl ?c1 ?c2 ?_))
          case c1 => first | omega | (simp only [size_app]; omega)
          case c2 => exact Below.size S0.out.nw
          intro v1 w1 b1 e1
          have S1 : Hid (St w v w0 w1 W1.heap.size ty ⟨#[]⟩ (.slice qa cls.length qc) v1 (X ++ ty)) := (S0.out.ext e1 b1).text (by first | rfl | simp only [app_assoc])
          clear b1 e1
          have c0 := S1.out.c0; have c1 := S1.out.c1; have c2 := S1.out.c2
          have ys3 : (X ++ ty).size ≤ 5004000 := by rw [size_app]; omega
          go_wp2
          go_loopw [0, 38] (fun x j wr => ∃ n : Nat, n ≤ cls.length ∧ j = .int .i64 n ∧ St w v w0 wr W1.heap.size ty ⟨#[]⟩ (.slice qa cls.length qc) x (X ++ clsTo ty cls n)) (fun _ j _ => cls.length - (intOf j).toNat)
          case atStart => exact ⟨0, Nat.zero_le _, rfl, S1.out⟩
          case round =>
            obtain ⟨m, hm, rfl, hst⟩ := hrel
            obtain ⟨W2, hW2⟩ : ∃ W2, W2 = wr := ⟨_, rfl⟩
            subst hW2
            have T0 : Hid (St w v w0 W2 W1.heap.size ty ⟨#[]⟩ (.slice qa cls.length qc) _ (X ++ clsTo ty cls m)) := hst
            have hnw := hst.nw
            clear hst
            by_cases hlm : m < cls.length
            · rcases HQ.out with h | ⟨b2, o2, rfl, hb2, hc2⟩
              · rw [h] at hlm; simp at hlm
              have p0 := ((bcell hnw).1 _ _ hb2).trans (hc2 m hlm)
              have y0 := wordB_le (HC.out m hlm)
              have y5 := clsTo_lt HC.out z4 hH m hm
              have hcl : clsTo ty cls (m + 1) = clsTo ty cls m ++ ((⟨#[46]⟩ : ByteArray) ++ strAt cls m) := rfl
              have HCL : Hid _ := hcl
              have ys6 : (X ++ clsTo ty cls m).size ≤ 5006000 := by rw [size_app]; omega
              clear hc2 hnw hcl
              generalize hy : strAt cls m = y at *
              generalize clsTo ty cls m = C at *
              go_wp2_with (at_builtin; (refine wp_byte _ rfl _ _ rfl w0.heap.size _ _ 46 rfl (T0.out.alloc _).buf _ rfl ?c1 ?c2 ?c3 ?_))
              case c1 => simp
              case c2 => omega
              case c3 => exact Below.size (T0.out.alloc _).nw
              intro x1 X1 b1 e1
              have T1 : Hid (St w v w0 X1 W1.heap.size ty ⟨#[]⟩ (.slice (some ⟨b2, o2, none⟩) cls.length qc) x1 ((X ++ C) ++ (⟨#[46]⟩ : ByteArray))) := (T0.out.alloc _).ext e1 b1
              clear b1 e1
              have ys7 : ((X ++ C) ++ (⟨#[46]⟩ : ByteArray)).size ≤ 5007000 := by rw [size_app]; have e : (⟨#[46]⟩ : ByteArray).size = 1 := rfl; rw [e]; omega
              go_wp2_with (at_builtin; (refine wp_text _ rfl _ _ rfl w0.heap.size _ _ rfl T1.out.buf y rfl ?c1 ?c2 ?_))
              case c1 => omega
              case c2 => exact Below.size T1.out.nw
              intro x2 X2 b1 e1
              have T2 : Hid (St w v w0 X2 W1.heap.size ty ⟨#[]⟩ (.slice (some ⟨b2, o2, none⟩) cls.length qc) x2 (X ++ (C ++ ((⟨#[46]⟩ : ByteArray) ++ y)))) := (T1.out.ext e1 b1).text (by first | rfl | simp only [app_assoc])
              clear b1 e1
              go_wp2
              go_roundw
              case rel => exact ⟨m + 1, by omega, by go_num, by rw [HCL.out]; exact T2.out⟩
              case measure => simp [intOf]; omega
            · have e : m = cls.length := by omega
              subst e
              clear hnw
              go_wp2
              go_roundw
              case rel => exact ⟨k + 1, by omega, by go_num, T0.out.nw, by rw [HX.out]; exact T0.out.buf, T0.out.ex⟩
              case measure => simp [intOf]; omega
      · have HP : Hid (partT ⟨ty, id, cls⟩ = clsTo (ty ++ ((⟨#[35]⟩ : ByteArray) ++ id)) cls cls.length) := HF _ (headT_yes d2)
        have hH : (ty ++ ((⟨#[35]⟩ : ByteArray) ++ id)).size ≤ 100 := by
          have e : (⟨#[35]⟩ : ByteArray).size = 1 := rfl
          rw [size_app, size_app, e]; omega
        clear HF
        by_cases h0 : 0 < k
        · have hsep : sepT (selT l k) k = selT l k ++ (⟨#[32]⟩ : ByteArray) := by unfold sepT; rw [if_pos h0]
          have HS2 : Hid _ := hsep
          clear hsep
          have S0 : Hid (St w v w0 (W1.alloc (.cells #[.string ty, .string id, .slice qa cls.length qc] 67)) W1.heap.size ty id (.slice qa cls.length qc) _ (t ++ selT l k)) := St.begin HW.out HB.out HXE.out _
          have ys : (t ++ selT l k).size ≤ 5002000 := by rw [size_app]; omega
          go_wp2_with (at_builtin; (refine wp_byte _ rfl _ _ rfl w0.heap.size _ _ 32 rfl (S0.out.alloc _).buf _ rfl ?c1 ?c2 ?c3 ?_))
          case c1 => simp
          case c2 => first | omega | (simp only [size_app]; omega)
          case c3 => exact Below.size (S0.out.alloc _).nw
          intro v1 w1 b1 e1
          have S1 : Hid (St w v w0 w1 W1.heap.size ty id (.slice qa cls.length qc) v1 ((t ++ selT l k) ++ (⟨#[32]⟩ : ByteArray))) := (((S0.out.alloc _).ext e1 b1)).text (by first | rfl | simp only [app_assoc])
          clear b1 e1
          have c0 := S1.out.c0; have c1 := S1.out.c1; have c2 := S1.out.c2
          have ys2 : ((t ++ selT l k) ++ (⟨#[32]⟩ : ByteArray)).size ≤ 5003000 := by rw [size_app]; have e : (⟨#[32]⟩ : ByteArray).size = 1 := rfl; rw [e]; omega
          have HX : Hid (t ++ selT l (k + 1) = ((t ++ selT l k) ++ (⟨#[32]⟩ : ByteArray)) ++ clsTo (ty ++ ((⟨#[35]⟩ : ByteArray) ++ id)) cls cls.length) := by show _ = _; rw [HE.out, HS2.out, HP.out]; simp only [app_assoc]
          generalize ((t ++ selT l k) ++ (⟨#[32]⟩ : ByteArray)) = X at *
          go_wp2_with (at_builtin; (refine wp_text _ rfl _ _ rfl w0.heap.size _ _ rfl S1.out.buf ty rfl ?c1 ?c2 ?_))
          case c1 => first | omega | (simp only [size_app]; omega)
          case c2 => exact Below.size S1.out.nw
          intro v2 w2 b1 e1
          have S2 : Hid (St w v w0 w2 W1.heap.size ty id (.slice qa cls.length qc) v2 (X ++ ty)) := (S1.out.ext e1 b1).text (by first | rfl | simp only [app_assoc])
          clear b1 e1
          have c0 := S2.out.c0; have c1 := S2.out.c1; have c2 := S2.out.c2
          have ys3 : (X ++ ty).size ≤ 5004000 := by rw [size_app]; omega
          go_wp2_with (at_builtin; (refine wp_byte _ rfl _ _ rfl w0.heap.size _ _ 35 rfl (S2.out.alloc _).buf _ rfl ?c1 ?c2 ?c3 ?_))
          case c1 => simp
          case c2 => first | omega | (simp only [size_app]; omega)
          case c3 => exact Below.size (S2.out.alloc _).nw
          intro v3 w3 b1 e1
          have S3 : Hid (St w v w0 w3 W1.heap.size ty id (.slice qa cls.length qc) v3 ((X ++ ty) ++ (⟨#[35]⟩ : ByteArray))) := (((S2.out.alloc _).ext e1 b1)).text (by first | rfl | simp only [app_assoc])
          clear b1 e1
          have c0 := S3.out.c0; have c1 := S3.out.c1; have c2 := S3.out.c2
          have ys4 : ((X ++ ty) ++ (⟨#[35]⟩ : ByteArray)).size ≤ 5005000 := by rw [size_app]; have e : (⟨#[35]⟩ : ByteArray).size = 1 := rfl; rw [e]; omega
          go_wp2_with (at_builtin; (refine wp_text _ rfl _ _ rfl w0.heap.size _ _ rfl S3.out.buf id rfl ?c1 ?c2 ?_))
          case c1 => first | omega | (simp only [size_app]; omega)
          case c2 => exact Below.size S3.out.nw
          intro v4 w4 b1 e1
          have S4 : Hid (St w v w0 w4 W1.heap.size ty id (.slice qa cls.length qc) v4 (X ++ (ty ++ ((⟨#[35]⟩ : ByteArray) ++ id)))) := (S3.out.ext e1 b1).text (by first | rfl | simp only [app_assoc])
          clear b1 e1
          have c0 := S4.out.c0; have c1 := S4.out.c1; have c2 := S4.out.c2
          go_wp2
          go_loopw [0, 38] (fun x j wr => ∃ n : Nat, n ≤ cls.length ∧ j = .int .i64 n ∧ St w v w0 wr W1.heap.size ty id (.slice qa cls.length qc) x (X ++ clsTo (ty ++ ((⟨#[35]⟩ : ByteArray) ++ id)) cls n)) (fun _ j _ => cls.length - (intOf j).toNat)
          case atStart => exact ⟨0, Nat.zero_le _, rfl, S4.out⟩
          case round =>
            obtain ⟨m, hm, rfl, hst⟩ := hrel
            obtain ⟨W2, hW2⟩ : ∃ W2, W2 = wr := ⟨_, rfl⟩
            subst hW2
            have T0 : Hid (St w v w0 W2 W1.heap.size ty id (.slice qa cls.length qc) _ (X ++ clsTo (ty ++ ((⟨#[35]⟩ : ByteArray) ++ id)) cls m)) := hst
            have hnw := hst.nw
            clear hst
            by_cases hlm : m < cls.length
            · rcases HQ.out with h | ⟨b2, o2, rfl, hb2, hc2⟩
              · rw [h] at hlm; simp at hlm
              have p0 := ((bcell hnw).1 _ _ hb2).trans (hc2 m hlm)
              have y0 := wordB_le (HC.out m hlm)
              have y5 := clsTo_lt HC.out z4 hH m hm
              have hcl : clsTo (ty ++ ((⟨#[35]⟩ : ByteArray) ++ id)) cls (m + 1) = clsTo (ty ++ ((⟨#[35]⟩ : ByteArray) ++ id)) cls m ++ ((⟨#[46]⟩ : ByteArray) ++ strAt cls m) := rfl
              have HCL : Hid _ := hcl
              have ys6 : (X ++ clsTo (ty ++ ((⟨#[35]⟩ : ByteArray) ++ id)) cls m).size ≤ 5006000 := by rw [size_app]; omega
              clear hc2 hnw hcl
              generalize hy : strAt cls m = y at *
              generalize clsTo (ty ++ ((⟨#[35]⟩ : ByteArray) ++ id)) cls m = C at *
              go_wp2_with (at_builtin; (refine wp_byte _ rfl _ _ rfl w0.heap.size _ _ 46 rfl (T0.out.alloc _).buf _ rfl ?c1 ?c2 ?c3 ?_))
              case c1 => simp
              case c2 => omega
              case c3 => exact Below.size (T0.out.alloc _).nw
              intro x1 X1 b1 e1
              have T1 : Hid (St w v w0 X1 W1.heap.size ty id (.slice (some ⟨b2, o2, none⟩) cls.length qc) x1 ((X ++ C) ++ (⟨#[46]⟩ : ByteArray))) := (T0.out.alloc _).ext e1 b1
              clear b1 e1
              have ys7 : ((X ++ C) ++ (⟨#[46]⟩ : ByteArray)).size ≤ 5007000 := by rw [size_app]; have e : (⟨#[46]⟩ : ByteArray).size = 1 := rfl; rw [e]; omega
              go_wp2_with (at_builtin; (refine wp_text _ rfl _ _ rfl w0.heap.size _ _ rfl T1.out.buf y rfl ?c1 ?c2 ?_))
              case c1 => omega
              case c2 => exact Below.size T1.out.nw
              intro x2 X2 b1 e1
              have T2 : Hid (St w v w0 X2 W1.heap.size ty id (.slice (some ⟨b2, o2, none⟩) cls.length qc) x2 (X ++ (C ++ ((⟨#[46]⟩ : ByteArray) ++ y)))) := (T1.out.ext e1 b1).text (by first | rfl | simp only [app_assoc])
              clear b1 e1
              go_wp2
              go_roundw
              case rel => exact ⟨m + 1, by omega, by go_num, by rw [HCL.out]; exact T2.out⟩
              case measure => simp [intOf]; omega
            · have e : m = cls.length := by omega
              subst e
              clear hnw
              go_wp2
              go_roundw
              case rel => exact ⟨k + 1, by omega, by go_num, T0.out.nw, by rw [HX.out]; exact T0.out.buf, T0.out.ex⟩
              case measure => simp [intOf]; omega
        · have hsep : sepT (selT l k) k = selT l k := by unfold sepT; rw [if_neg h0]
          have HS2 : Hid _ := hsep
          clear hsep
          have S0 : Hid (St w v w0 (W1.alloc (.cells #[.string ty, .string id, .slice qa cls.length qc] 67)) W1.heap.size ty id (.slice qa cls.length qc) _ (t ++ selT l k)) := St.begin HW.out HB.out HXE.out _
          have ys : (t ++ selT l k).size ≤ 5002000 := by rw [size_app]; omega
          have ys2 : (t ++ selT l k).size ≤ 5003000 := by omega
          have HX : Hid (t ++ selT l (k + 1) = (t ++ selT l k) ++ clsTo (ty ++ ((⟨#[35]⟩ : ByteArray) ++ id)) cls cls.length) := by show _ = _; rw [HE.out, HS2.out, HP.out]; simp only [app_assoc]
          generalize (t ++ selT l k) = X at *
          go_wp2_with (at_builtin; (refine wp_text _ rfl _ _ rfl w0.heap.size _ _ rfl S0.out.buf ty rfl ?c1 ?c2 ?_))
          case c1 => first | omega | (simp only [size_app]; omega)
          case c2 => exact Below.size S0.out.nw
          intro v1 w1 b1 e1
          have S1 : Hid (St w v w0 w1 W1.heap.size ty id (.slice qa cls.length qc) v1 (X ++ ty)) := (S0.out.ext e1 b1).text (by first | rfl | simp only [app_assoc])
          clear b1 e1
          have c0 := S1.out.c0; have c1 := S1.out.c1; have c2 := S1.out.c2
          have ys3 : (X ++ ty).size ≤ 5004000 := by rw [size_app]; omega
          go_wp2_with (at_builtin; (refine wp_byte _ rfl _ _ rfl w0.heap.size _ _ 35 rfl (S1.out.alloc _).buf _ rfl ?c1 ?c2 ?c3 ?_))
          case c1 => simp
          case c2 => first | omega | (simp only [size_app]; omega)
          case c3 => exact Below.size (S1.out.alloc _).nw
          intro v2 w2 b1 e1
          have S2 : Hid (St w v w0 w2 W1.heap.size ty id (.slice qa cls.length qc) v2 ((X ++ ty) ++ (⟨#[35]⟩ : ByteArray))) := (((S1.out.alloc _).ext e1 b1)).text (by first | rfl | simp only [app_assoc])
          clear b1 e1
          have c0 := S2.out.c0; have c1 := S2.out.c1; have c2 := S2.out.c2
          have ys4 : ((X ++ ty) ++ (⟨#[35]⟩ : ByteArray)).size ≤ 5005000 := by rw [size_app]; have e : (⟨#[35]⟩ : ByteArray).size = 1 := rfl; rw [e]; omega
          go_wp2_with (at_builtin; (refine wp_text _ rfl _ _ rfl w0.heap.size _ _ rfl S2.out.buf id rfl ?c1 ?c2 ?_))
          case c1 => first | omega | (simp only [size_app]; omega)
          case c2 => exact Below.size S2.out.nw
          intro v3 w3 b1 e1
          have S3 : Hid (St w v w0 w3 W1.heap.size ty id (.slice qa cls.length qc) v3 (X ++ (ty ++ ((⟨#[35]⟩ : ByteArray) ++ id)))) := (S2.out.ext e1 b1).text (by first | rfl | simp only [app_assoc])
          clear b1 e1
          have c0 := S3.out.c0; have c1 := S3.out.c1; have c2 := S3.out.c2
          go_wp2
          go_loopw [0, 38] (fun x j wr => ∃ n : Nat, n ≤ cls.length ∧ j = .int .i64 n ∧ St w v w0 wr W1.heap.size ty id (.slice qa cls.length qc) x (X ++ clsTo (ty ++ ((⟨#[35]⟩ : ByteArray) ++ id)) cls n)) (fun _ j _ => cls.length - (intOf j).toNat)
          case atStart => exact ⟨0, Nat.zero_le _, rfl, S3.out⟩
          case round =>
            obtain ⟨m, hm, rfl, hst⟩ := hrel
            obtain ⟨W2, hW2⟩ : ∃ W2, W2 = wr := ⟨_, rfl⟩
            subst hW2
            have T0 : Hid (St w v w0 W2 W1.heap.size ty id (.slice qa cls.length qc) _ (X ++ clsTo (ty ++ ((⟨#[35]⟩ : ByteArray) ++ id)) cls m)) := hst
            have hnw := hst.nw
            clear hst
            by_cases hlm : m < cls.length
            · rcases HQ.out with h | ⟨b2, o2, rfl, hb2, hc2⟩
              · rw [h] at hlm; simp at hlm
              have p0 := ((bcell hnw).1 _ _ hb2).trans (hc2 m hlm)
              have y0 := wordB_le (HC.out m hlm)
              have y5 := clsTo_lt HC.out z4 hH m hm
              have hcl : clsTo (ty ++ ((⟨#[35]⟩ : ByteArray) ++ id)) cls (m + 1) = clsTo (ty ++ ((⟨#[35]⟩ : ByteArray) ++ id)) cls m ++ ((⟨#[46]⟩ : ByteArray) ++ strAt cls m) := rfl
              have HCL : Hid _ := hcl
              have ys6 : (X ++ clsTo (ty ++ ((⟨#[35]⟩ : ByteArray) ++ id)) cls m).size ≤ 5006000 := by rw [size_app]; omega
              clear hc2 hnw hcl
              generalize hy : strAt cls m = y at *
              generalize clsTo (ty ++ ((⟨#[35]⟩ : ByteArray) ++ id)) cls m = C at *
              go_wp2_with (at_builtin; (refine wp_byte _ rfl _ _ rfl w0.heap.size _ _ 46 rfl (T0.out.alloc _).buf _ rfl ?c1 ?c2 ?c3 ?_))
              case c1 => simp
              case c2 => omega
              case c3 => exact Below.size (T0.out.alloc _).nw
              intro x1 X1 b1 e1
              have T1 : Hid (St w v w0 X1 W1.heap.size ty id (.slice (some ⟨b2, o2, none⟩) cls.length qc) x1 ((X ++ C) ++ (⟨#[46]⟩ : ByteArray))) := (T0.out.alloc _).ext e1 b1
              clear b1 e1
              have ys7 : ((X ++ C) ++ (⟨#[46]⟩ : ByteArray)).size ≤ 5007000 := by rw [size_app]; have e : (⟨#[46]⟩ : ByteArray).size = 1 := rfl; rw [e]; omega
              go_wp2_with (at_builtin; (refine wp_text _ rfl _ _ rfl w0.heap.size _ _ rfl T1.out.buf y rfl ?c1 ?c2 ?_))
              case c1 => omega
              case c2 => exact Below.size T1.out.nw
              intro x2 X2 b1 e1
              have T2 : Hid (St w v w0 X2 W1.heap.size ty id (.slice (some ⟨b2, o2, none⟩) cls.length qc) x2 (X ++ (C ++ ((⟨#[46]⟩ : ByteArray) ++ y)))) := (T1.out.ext e1 b1).text (by first | rfl | simp only [app_assoc])
              clear b1 e1
              go_wp2
              go_roundw
              case rel => exact ⟨m + 1, by omega, by go_num, by rw [HCL.out]; exact T2.out⟩
              case measure => simp [intOf]; omega
            · have e : m = cls.length := by omega
              subst e
              clear hnw
              go_wp2
              go_roundw
              case rel => exact ⟨k + 1, by omega, by go_num, T0.out.nw, by rw [HX.out]; exact T0.out.buf, T0.out.ex⟩
              case measure => simp [intOf]; omega
    · have e : k = l.length := by omega
      subst e
      clear hw
      go_wp2
      go_ret
      exact ⟨_, rfl, HW.out, HB.out, HXE.out⟩
theorem iappSel (w0 w : World) (a : Option Addr) (c : Nat) (l : List PD) (v : Value) (t : ByteArray) (hl : l.length ≤ 5) (hs : PsTo l l.length) (hr : Parts w0 a l) (hw : Nw w0 w) (hb : Buf w w0.heap.size v t) (ht : t.size ≤ 5000000) :
    Calls Tryz.prog 38 #[v, .slice a l.length c] w fun e w' => ∃ v', e = .returned v' ∧ Nw w0 w' ∧ Buf w' w0.heap.size v' (t ++ selT l l.length) :=
  Calls.mono (iappSelX w0 w a c l v t hl hs hr hw hb ht) fun e w' ⟨v', h1, h2, h3, _⟩ => ⟨v', h1, h2, h3⟩
end Go.Proofs.YtnkmdmmlpidcmaaGreatDoor
namespace Go.Proofs.YtnkmdmmlpidcmaaGreatDoor
open Go.ChangeShapes Go.WideShapes Go.ChangeAt Go.RowKit
set_option linter.unusedVariables false

theorem bulkPs_at (l : List PD) (k : Nat) (h : k < l.length) : bulkP (partAt l k) ≤ bulkPs l := by
  have h1 := bulkPs_step l k h
  have h2 := bulkPs_le l (k + 1)
  omega
theorem smallPs_of {l : List PD} (hb : ((l.length + bulkPs l : Nat) : Int) ≤ 1048576) : smallPs l ∧ lenPs l := by
  have key : ∀ i, i < l.length → smallP (partAt l i) := by
    intro i hi
    have h1 := bulkPs_at l i hi
    unfold bulkP at h1
    refine ⟨by omega, by omega, by omega, fun k hk => ?_⟩
    have h3 := bulk1_step (partAt l i).cls k hk
    have h4 := bulk1_le (partAt l i).cls (k + 1)
    omega
  exact ⟨key, fun i hi => (key i hi).len⟩
end Go.Proofs.YtnkmdmmlpidcmaaGreatDoor
