/-
  Lists of bytes of the call's own, to which bytes and texts are appended; each theorem names its conditions.
  The text of a selector, the program's; each theorem names its conditions.
  A text without its comments, on lists of bytes: as the specification makes it and as the program does; pure facts.
  A part read from a word, as the program reads it: pure facts; each theorem names its conditions.
-/
import Derived.Test.YtnkmdmmlpidcmaaDoorJAC
import Derived.Maps.AppendAt
import Derived.Lib.AppendStr
import Derived.Lib.SlBytesRow
import Derived.Lib.BufferRead
import Derived.Deep.Upon
import Derived.OwnWalk
import Derived.Handy
import Derived.Test.YtnkmdmmlpidcmaaDoorJAH
import Derived.Test.YtnkmdmmlpidcmaaDoorJAG
import Derived.Lib.IndexMore
import Derived.Test.YtnkmdmmlpidcmaaDoorJAE
namespace Go.Proofs.YtnkmdmmlpidcmaaDoor
open Go.ChangeShapes Go.WideShapes Go.ChangeAt Go.RowKit
set_option linter.unusedVariables false

theorem buf_parts : ∃ i, Tryd.prog.info? 5 = some i ∧ i.zero = some (.int .u8 0) ∧ i.size = 1 ∧ i.bytes = 1 := by
  have h : (Tryd.prog.info? 5).map (fun i => (i.zero, i.size, i.bytes)) = some (some (.int .u8 0), 1, 1) := by kernel_rfl
  obtain ⟨i, hi, hzz⟩ := Option.map_eq_some_iff.1 h
  simp only [Prod.mk.injEq] at hzz
  exact ⟨i, hi, hzz⟩
/-- The bytes of a text as cells. -/
def cellsT (s : ByteArray) : List Value := Lib.strCells s
theorem cellsT_len (s : ByteArray) : (cellsT s).length = s.size := Lib.strCells_length s
theorem cellsT_app (s t : ByteArray) : cellsT (s ++ t) = cellsT s ++ cellsT t := by simp [cellsT, Lib.strCells]
/-- The text s in a list of the call's own, nil or in a block from B on. -/
def Buf (w : World) (B : Nat) (v : Value) (s : ByteArray) : Prop := w.ownsRow B 5 1 v s.size (cellsT s)
theorem Buf.nil (w : World) (B : Nat) : Buf w B (.slice none 0 0) ⟨#[]⟩ := World.ownsRow_nil w B _ 1
theorem Buf.nw {w w' : World} {B : Nat} {v : Value} {s : ByteArray} (h : Buf w B v s) (k : Nw w w') : Buf w' B v s :=
  World.ownsRow.kept h (row := none) ⟨Below.os k, Below.tape k, Below.output k, Below.size k, fun b hb _ => Below.block k b hb⟩ (by cases hv : v.ownBlock <;> simp)
theorem Buf.below {w w' : World} {B : Nat} {v : Value} {s : ByteArray} (h : Buf w B v s) (k : w.grownBy w' v.ownBlock) (hB : B ≤ w.heap.size) : Below B w w' :=
  ⟨k.os, k.tape, k.output, k.size, fun b hb => k.block b (by omega) (fun e => by have := (World.ownsRow.lt h b e.symm).1; omega)⟩
/-- A list's literal of one byte is appended. -/
theorem wp_byte (w : World) {ops : Array Oper} {rest : List Oper} {o : Oper} {a : Act} {Q : Exit → Act → World → Prop} (hgd : o.guard = none) (s x : Operand)
    (ho : o.op = .call { callee := .builtin .append, args := #[s, x], argTypes := #[73, 73] })
    (B : Nat) (v : Value) (t : ByteArray) (b : UInt8) (hs : a.eval s = v) (hown : Buf w B v t) (g : Nat) (hx : a.eval x = .slice (some ⟨g, 0, none⟩) 1 1) (hc : w.cell? ⟨g, 0, none⟩ = some (.int .u8 b.toNat))
    (h63 : t.size ≤ 10000000) (hB : B ≤ w.heap.size)
    (h : ∀ v' w', Buf w' B v' (t ++ ⟨#[b]⟩) → Ext v v' w w' → wpList Tryd.prog ops Q rest (a.put o.dst v') w') : wpList Tryd.prog ops Q (o :: rest) a w := by
  obtain ⟨i0, hi, hz0, hz1, hz2⟩ := buf_parts
  have e1 : cellsT ⟨#[b]⟩ = [.int .u8 b.toNat] := by simp [cellsT, Lib.strCells]
  have e2 : (⟨#[b]⟩ : ByteArray).size = 1 := rfl
  refine wpList_append_own_at w hgd s x 73 ho B 5 i0 (.int .u8 0) 1 1 Tryd.underlying73 hi hz0 hz1 hz2 rfl (by decide) v t.size (cellsT t) hs hown ⟨g, 0, none⟩ 1 1 [.int .u8 b.toNat] hx rfl (fun j u hj => ?_) (fun u hu => ?_) (by unfold maxLen; omega) (by omega) hB ?_
  · cases j with
    | zero => simp at hj; subst hj; simpa [Addr.add] using hc
    | succ j => simp at hj
  · simp at hu; subst hu; rfl
  · intro v' w' h1 h2 _ h4
    refine h v' w' ?_ ⟨h2, h4.imp id fun e => ⟨_, e, Nat.le_refl _⟩⟩
    unfold Buf
    rw [cellsT_app, e1, ByteArray.size_append, e2]
    exact h1
theorem run_text (w : World) (ty : TypeId) (B : Nat) (v : Value) (t : ByteArray) (hown : Buf w B v t) (s : ByteArray) (h63 : t.size + s.size ≤ 10000000) (hB : B ≤ w.heap.size) :
    ∃ v' w', (Builtin.append_ #[73, 9] ty #[v, .string s]).run Tryd.prog w = .ok v' w' ∧ Buf w' B v' (t ++ s) ∧ Ext v v' w w' := by
  obtain ⟨i0, hi, hz0, hz1, hz2⟩ := buf_parts
  have hu : Tryd.prog.underlying 9 = some .string := Tryd.underlying9
  obtain ⟨v', w', hr, h1, h2, h3⟩ := Lib.run_append_own_string (P := Tryd.prog) w B 73 9 ty 5 i0 Tryd.underlying73 hu hi hz0 hz1 hz2 v t.size (cellsT t) hown s (by unfold maxLen; omega) (by omega) hB
  refine ⟨v', w', hr, by unfold Buf; rw [cellsT_app, ByteArray.size_append]; exact h1, h2, ?_⟩
  rcases hown.2 with ⟨rfl, hn⟩ | ⟨g, c, cur, rfl, hbg, hg, hnc, hcm, hcs, htake⟩
  · by_cases hm : s.size = 0
    · rw [(h3.2 ⟨rfl, hm⟩)]; exact Or.inl rfl
    · have hr2 := run_append_nil_string (P := Tryd.prog) w 73 9 ty 5 i0 (.int .u8 0) Tryd.underlying73 hu hi hz0 s (by omega) (by omega) (by rw [hz2]; omega)
      rw [hr] at hr2
      injection hr2 with e1 e2
      subst e1
      exact Or.inr ⟨_, rfl, Nat.le_refl _⟩
  · by_cases hroom : t.size + s.size ≤ c
    · have hr2 := Lib.run_append_room_string (P := Tryd.prog) w 73 9 ty 5 i0 Tryd.underlying73 hu hi hz1 g t.size c cur hg s hroom (by omega)
      rw [hr] at hr2
      injection hr2 with e1 e2
      subst e1
      exact Or.inl rfl
    · have hr2 := Lib.run_append_grow_string (P := Tryd.prog) w 73 9 ty 5 i0 (.int .u8 0) Tryd.underlying73 hu hi hz0 ⟨g, 0, none⟩ t.size c (cellsT t) (by rw [hz1, cellsT_len]; omega) (World.ownsRow.cells hown rfl) s (by omega) (by omega) (by rw [hz2]; exact growslice_fits (by omega) (by omega))
      rw [hr] at hr2
      injection hr2 with e1 e2
      subst e1
      exact Or.inr ⟨_, rfl, Nat.le_refl _⟩
/-- A text is appended. -/
theorem wp_text (w : World) {ops : Array Oper} {rest : List Oper} {o : Oper} {a : Act} {Q : Exit → Act → World → Prop} (hgd : o.guard = none) (sl x : Operand)
    (ho : o.op = .call { callee := .builtin .append, args := #[sl, x], argTypes := #[73, 9] })
    (B : Nat) (v : Value) (t : ByteArray) (hs : a.eval sl = v) (hown : Buf w B v t) (s : ByteArray) (hx : a.eval x = .string s)
    (h63 : t.size + s.size ≤ 10000000) (hB : B ≤ w.heap.size)
    (h : ∀ v' w', Buf w' B v' (t ++ s) → Ext v v' w w' → wpList Tryd.prog ops Q rest (a.put o.dst v') w') : wpList Tryd.prog ops Q (o :: rest) a w := by
  refine wpList_plain hgd fun K hK => ?_
  obtain ⟨v', w', hr, h1, h2⟩ := run_text w o.type B v t hown s h63 hB
  unfold Oper.wp execOp
  simp only [ho, resolve, invoke, builtin, Sem.run_bind, Sem.run_pure, Result.andThen_ok, List.map_toArray, List.map_cons, List.map_nil, hs, hx, hr]
  exact hK _ _ (h v' w' h1 h2)
/-- Such a list is turned into a text. -/
theorem run_buf {w : World} {B : Nat} {v : Value} {s : ByteArray} (h : Buf w B v s) : (convert 73 9 v).run Tryd.prog w = .ok (.string s) w := by
  have hu : Tryd.prog.underlying 9 = some .string := Tryd.underlying9
  have h8 : Tryd.prog.underlying 5 = some (.int .u8) := Tryd.underlying5
  rcases h.2 with ⟨rfl, h0⟩ | ⟨g, cap, cur, rfl, h2, h3⟩
  · have e : s = ⟨#[]⟩ := ByteArray.ext (Array.eq_empty_of_size_eq_zero h0)
    subst e
    exact Lib.run_convert_nil_bytes w _ _ _ 0 Tryd.underlying73 h8 hu
  · refine Lib.run_convert_whole w _ _ _ Tryd.underlying73 h8 hu g 0 s ?_ cap
    intro i hi
    have := World.ownsRow.cellAt h i (by rw [Nat.mul_one]; exact hi)
    rw [Nat.zero_add, this]
    simp [cellsT, Lib.strCells, hi]; rfl
end Go.Proofs.YtnkmdmmlpidcmaaDoor
namespace Go.Proofs.YtnkmdmmlpidcmaaDoor
open Go.ChangeShapes Go.WideShapes Go.ChangeAt Go.RowKit
set_option linter.unusedVariables false

theorem app_assoc (a b c : ByteArray) : (a ++ b) ++ c = a ++ (b ++ c) := by
  apply ByteArray.ext; simp
theorem nil_app (a : ByteArray) : (⟨#[]⟩ : ByteArray) ++ a = a := by
  apply ByteArray.ext; simp
theorem app_nil (a : ByteArray) : a ++ (⟨#[]⟩ : ByteArray) = a := by
  apply ByteArray.ext; simp
/-- While a part is written: the list v holds t, the part's copy lies in the block g. -/
structure St (ws : World) (vs : Value) (w0 w : World) (g : Nat) (ty id : ByteArray) (sl : Value) (v : Value) (t : ByteArray) : Prop where
  nw : Nw w0 w
  buf : Buf w w0.heap.size v t
  lt : g < w.heap.size
  ap : v.ownBlock ≠ some g
  c0 : w.cell? ⟨g, 0, none⟩ = some (.string ty)
  c1 : w.cell? ⟨g, 1, none⟩ = some (.string id)
  c2 : w.cell? ⟨g, 2, none⟩ = some sl
  ex : Ext vs v ws w
section
variable {ws : World} {vs : Value} {w0 w w' : World} {g : Nat} {ty id : ByteArray} {sl v v' : Value} {t t' : ByteArray}
theorem St.ext (h : St ws vs w0 w g ty id sl v t) (k : Ext v v' w w') (b : Buf w' w0.heap.size v' t') : St ws vs w0 w' g ty id sl v' t' :=
  ⟨Below.trans h.nw (k.below (fun x e => (World.ownsRow.lt h.buf x e).1) (Below.size h.nw)), b, Nat.lt_of_lt_of_le h.lt k.size, k.apart h.lt h.ap, (k.cell h.lt h.ap 0).trans h.c0, (k.cell h.lt h.ap 1).trans h.c1, (k.cell h.lt h.ap 2).trans h.c2, h.ex.trans k⟩
theorem St.alloc (h : St ws vs w0 w g ty id sl v t) (o : Obj) : St ws vs w0 (w.alloc o) g ty id sl v t := by
  have k : Nw w (w.alloc o) := (Below.refl _ _).alloc (Nat.le_refl _) _
  exact ⟨h.nw.trans k, h.buf.nw k, Nat.lt_of_lt_of_le h.lt (Below.size k), h.ap, ((bcell k).1 _ _ h.lt).trans h.c0, ((bcell k).1 _ _ h.lt).trans h.c1, ((bcell k).1 _ _ h.lt).trans h.c2, h.ex.nw k⟩
theorem St.text (h : St ws vs w0 w g ty id sl v t) (e : t = t') : St ws vs w0 w g ty id sl v t' := e ▸ h
theorem St.begin (h : Nw w0 w) (b : Buf w w0.heap.size v t) (x : Ext vs v ws w) (T : TypeId) : St ws vs w0 (w.alloc (.cells #[.string ty, .string id, sl] T)) w.heap.size ty id sl v t := by
  have k : Nw w (w.alloc (.cells #[.string ty, .string id, sl] T)) := (Below.refl _ _).alloc (Nat.le_refl _) _
  exact ⟨h.trans k, b.nw k, by simp, fun e => by have := (World.ownsRow.lt b _ e).2; omega, by simp, by simp, by simp, x.nw k⟩
end

set_option maxHeartbeats 8000000 in
set_option maxRecDepth 100000 in
theorem iappSelX (w0 w : World) (a : Option Addr) (c : Nat) (l : List PD) (v : Value) (t : ByteArray) (hl : l.length ≤ 5) (hs : PsTo l l.length) (hr : Parts w0 a l) (hw : Nw w0 w) (hb : Buf w w0.heap.size v t) (ht : t.size ≤ 5000000) :
    Calls Tryd.prog 78 #[v, .slice a l.length c] w fun e w' => ∃ v', e = .returned v' ∧ Nw w0 w' ∧ Buf w' w0.heap.size v' (t ++ selT l l.length) ∧ Ext v v' w w' := by
  have HR : Hid (Parts w0 a l) := hr
  have HS : Hid (PsTo l l.length) := hs
  have HB0 : Hid (Buf w w0.heap.size v t) := hb
  have HW0 : Hid (Nw w0 w) := hw
  clear hr hs hb hw
  go_enter Tryd.func78, Tryd.ntmps78
  go_wp2
  go_loopw [0, 11] (fun x i wr => ∃ k : Nat, k ≤ l.length ∧ i = .int .i64 k ∧ Nw w0 wr ∧ Buf wr w0.heap.size x (t ++ selT l k) ∧ Ext v x w wr) (fun _ i _ => l.length - (intOf i).toNat)
  case atStart => exact ⟨0, Nat.zero_le _, rfl, HW0.out, by rw [selT, app_nil]; exact HB0.out, Ext.refl _ _⟩
  case round =>
    obtain ⟨k, hk, rfl, hw, hb, hx⟩ := hrel
    obtain ⟨W1, hW1⟩ : ∃ W1, W1 = wr := ⟨_, rfl⟩
    subst hW1
    rename_i x _
    have HB : Hid (Buf W1 w0.heap.size _ (t ++ selT l k)) := hb
    have HW : Hid (Nw w0 W1) := hw
    have HXE : Hid (Ext v _ w W1) := hx
    clear hb hx
    by_cases hlt : k < l.length
    · rcases HR.out with h | ⟨b, off, rfl, hbk, hc⟩
      · rw [h] at hlt; simp at hlt
      obtain ⟨q0, q1, ⟨qa, qc, q2, qcap, q4⟩⟩ := hc k hlt
      replace q0 := ((bcell hw).1 _ _ hbk).trans q0
      replace q1 := ((bcell hw).1 _ _ hbk).trans q1
      replace q2 := ((bcell hw).1 _ _ hbk).trans q2
      have hz : partB ⟨(partAt l k).ty, (partAt l k).id, (partAt l k).cls⟩ = true := HS.out k hlt
      have HQ : Hid (Strs w0 qa (partAt l k).cls) := q4
      obtain ⟨z4, hcl, _, _, z1, z2⟩ := partB_parts hz
      have HC : Hid (ClsTo (partAt l k).cls (partAt l k).cls.length) := hcl
      have y1 := selT_size k fun i hi => HS.out i (by omega)
      have hsel : selT l (k + 1) = sepT (selT l k) k ++ partT ⟨(partAt l k).ty, (partAt l k).id, (partAt l k).cls⟩ := rfl
      have HE : Hid (selT l (k + 1) = sepT (selT l k) k ++ partT ⟨(partAt l k).ty, (partAt l k).id, (partAt l k).cls⟩) := hsel
      clear hc hw q4 hz hcl hsel
      generalize (partAt l k).ty = ty at *
      generalize (partAt l k).id = id at *
      generalize (partAt l k).cls = cls at *
      have HF : ∀ H, headT ⟨ty, id, cls⟩ = H → partT ⟨ty, id, cls⟩ = clsTo H cls cls.length := fun H e => by unfold partT; rw [e]
      rcases idWay id with ⟨rfl, _⟩ | ⟨d1, d2, _⟩
      · have HP : Hid (partT ⟨ty, ⟨#[]⟩, cls⟩ = clsTo ty cls cls.length) := HF _ (headT_no (by simp [ByteArray.toList_eq]))
        have hH : ty.size ≤ 100 := by omega
        clear HF
        by_cases h0 : 0 < k
        · have hsep : sepT (selT l k) k = selT l k ++ (⟨#[32]⟩ : ByteArray) := by unfold sepT; rw [if_pos h0]
          have HS2 : Hid _ := hsep
          clear hsep
          have S0 : Hid (St w v w0 (W1.alloc (.cells #[.string ty, .string ⟨#[]⟩, .slice qa cls.length qc] 56)) W1.heap.size ty ⟨#[]⟩ (.slice qa cls.length qc) _ (t ++ selT l k)) := St.begin HW.out HB.out HXE.out _
          have ys : (t ++ selT l k).size ≤ 5002000 := by rw [size_app]; omega
          go_wp2_with (at_builtin; (refine wp_byte _ rfl _ _ rfl w0.heap.size _ _ 32 rfl (S0.out.alloc _).buf _ rfl ?c1 ?c2 ?c3 ?_))
          case c1 => simp
          case c2 => first | omega | (simp only [size_app]; omega)
          case c3 => exact Below.size (S0.out.alloc _).nw
          intro v1 w1 b1 e1
          have S1 : Hid (St w v w0 w1 W1.heap.size ty ⟨#[]⟩ (.slice qa cls.length qc) v1 ((t ++ selT l k) ++ (⟨#[32]⟩ : ByteArray))) := (((S0.out.alloc _).ext e1 b1)).text (by first | rfl | simp only [app_assoc])
          clear b1 e1
          have c0 := S1.out.c0; have c1 := S1.out.c1; have c2 := S1.out.c2
          have ys2 : ((t ++ selT l k) ++ (⟨#[32]⟩ : ByteArray)).size ≤ 5003000 := by rw [size_app]; have e : (⟨#[32]⟩ : ByteArray).size = 1 := rfl; rw [e]; omega
          have HX : Hid (t ++ selT l (k + 1) = ((t ++ selT l k) ++ (⟨#[32]⟩ : ByteArray)) ++ clsTo ty cls cls.length) := by show _ = _; rw [HE.out, HS2.out, HP.out]; simp only [app_assoc]
          generalize ((t ++ selT l k) ++ (⟨#[32]⟩ : ByteArray)) = X at *
          go_wp2_with (at_builtin; (refine wp_text _ rfl _ _ rfl w0.heap.size _ _ rfl S1.out.buf ty rfl ?c1 ?c2 ?_))
          case c1 => first | omega | (simp only [size_app]; omega)
          case c2 => exact Below.size S1.out.nw
          intro v2 w2 b1 e1
          have S2 : Hid (St w v w0 w2 W1.heap.size ty ⟨#[]⟩ (.slice qa cls.length qc) v2 (X ++ ty)) := (S1.out.ext e1 b1).text (by first | rfl | simp only [app_assoc])
          clear b1 e1
          have c0 := S2.out.c0; have c1 := S2.out.c1; have c2 := S2.out.c2
          have ys3 : (X ++ ty).size ≤ 5004000 := by rw [size_app]; omega
          go_wp2
          go_loopw [0, 38] (fun x j wr => ∃ n : Nat, n ≤ cls.length ∧ j = .int .i64 n ∧ St w v w0 wr W1.heap.size ty ⟨#[]⟩ (.slice qa cls.length qc) x (X ++ clsTo ty cls n)) (fun _ j _ => cls.length - (intOf j).toNat)
          case atStart => exact ⟨0, Nat.zero_le _, rfl, S2.out⟩
          case round =>
            obtain ⟨m, hm, rfl, hst⟩ := hrel
            obtain ⟨W2, hW2⟩ : ∃ W2, W2 = wr := ⟨_, rfl⟩
            subst hW2
            have T0 : Hid (St w v w0 W2 W1.heap.size ty ⟨#[]⟩ (.slice qa cls.length qc) _ (X ++ clsTo ty cls m)) := hst
            have hnw := hst.nw
            clear hst
            by_cases hlm : m < cls.length
            · rcases HQ.out with h | ⟨b2, o2, rfl, hb2, hc2⟩
              · rw [h] at hlm; simp at hlm
              have p0 := ((bcell hnw).1 _ _ hb2).trans (hc2 m hlm)
              have y0 := wordB_le (HC.out m hlm)
              have y5 := clsTo_lt HC.out z4 hH m hm
              have hcl : clsTo ty cls (m + 1) = clsTo ty cls m ++ ((⟨#[46]⟩ : ByteArray) ++ strAt cls m) := rfl
              have HCL : Hid _ := hcl
              have ys6 : (X ++ clsTo ty cls m).size ≤ 5006000 := by rw [size_app]; omega
              clear hc2 hnw hcl
              generalize hy : strAt cls m = y at *
              generalize clsTo ty cls m = C at *
              go_wp2_with (at_builtin; (refine wp_byte _ rfl _ _ rfl w0.heap.size _ _ 46 rfl (T0.out.alloc _).buf _ rfl ?c1 ?c2 ?c3 ?_))
              case c1 => simp
              case c2 => omega
              case c3 => exact Below.size (T0.out.alloc _).nw
              intro x1 X1 b1 e1
              have T1 : Hid (St w v w0 X1 W1.heap.size ty ⟨#[]⟩ (.slice (some ⟨b2, o2, none⟩) cls.length qc) x1 ((X ++ C) ++ (⟨#[46]⟩ : ByteArray))) := (T0.out.alloc _).ext e1 b1
              clear b1 e1
              have ys7 : ((X ++ C) ++ (⟨#[46]⟩ : ByteArray)).size ≤ 5007000 := by rw [size_app]; have e : (⟨#[46]⟩ : ByteArray).size = 1 := rfl; rw [e]; omega
              go_wp2_with (at_builtin; (refine wp_text _ rfl _ _ rfl w0.heap.size _ _ rfl T1.out.buf y rfl ?c1 ?c2 ?_))
              case c1 => omega
              case c2 => exact Below.size T1.out.nw
              intro x2 X2 b1 e1
              have T2 : Hid (St w v w0 X2 W1.heap.size ty ⟨#[]⟩ (.slice (some ⟨b2, o2, none⟩) cls.length qc) x2 (X ++ (C ++ ((⟨#[46]⟩ : ByteArray) ++ y)))) := (T1.out.ext e1 b1).text (by first | rfl | simp only [app_assoc])
              clear b1 e1
              go_wp2
              go_roundw
              case rel => exact ⟨m + 1, by omega, by go_num, by rw [HCL.out]; exact T2.out⟩
              case measure => simp [intOf]; omega
            · have e : m = cls.length := by omega
              subst e
              clear hnw
              go_wp2
              go_roundw
              case rel => exact ⟨k + 1, by omega, by go_num, T0.out.nw, by rw [HX.out]; exact T0.out.buf, T0.out.ex⟩
              case measure => simp [intOf]; omega
        · have hsep : sepT (selT l k) k = selT l k := by unfold sepT; rw [if_neg h0]
          have HS2 : Hid _ := hsep
          clear hsep
          have S0 : Hid (St w v w0 (W1.alloc (.cells #[.string ty, .string ⟨#[]⟩, .slice qa cls.length qc] 56)) W1.heap.size ty ⟨#[]⟩ (.slice qa cls.length qc) _ (t ++ selT l k)) := St.begin HW.out HB.out HXE.out _
          have ys : (t ++ selT l k).size ≤ 5002000 := by rw [size_app]; omega
          have ys2 : (t ++ selT l k).size ≤ 5003000 := by omega
          have HX : Hid (t ++ selT l (k + 1) = (t ++ selT l k) ++ clsTo ty cls cls.length) := by show _ = _; rw [HE.out, HS2.out, HP.out]; simp only [app_assoc]
          generalize (t ++ selT l k) = X at *
          go_wp2_with (at_builtin; (refine wp_text _ rfl _ _ rfl w0.heap.size _ _ rfl S0.out.buf ty rfl ?c1 ?c2 ?_))
          case c1 => first | omega | (simp only [size_app]; omega)
          case c2 => exact Below.size S0.out.nw
          intro v1 w1 b1 e1
          have S1 : Hid (St w v w0 w1 W1.heap.size ty ⟨#[]⟩ (.slice qa cls.length qc) v1 (X ++ ty)) := (S0.out.ext e1 b1).text (by first | rfl | simp only [app_assoc])
          clear b1 e1
          have c0 := S1.out.c0; have c1 := S1.out.c1; have c2 := S1.out.c2
          have ys3 : (X ++ ty).size ≤ 5004000 := by rw [size_app]; omega
          go_wp2
          go_loopw [0, 38] (fun x j wr => ∃ n : Nat, n ≤ cls.length ∧ j = .int .i64 n ∧ St w v w0 wr W1.heap.size ty ⟨#[]⟩ (.slice qa cls.length qc) x (X ++ clsTo ty cls n)) (fun _ j _ => cls.length - (intOf j).toNat)
          case atStart => exact ⟨0, Nat.zero_le _, rfl, S1.out⟩
          case round =>
            obtain ⟨m, hm, rfl, hst⟩ := hrel
            obtain ⟨W2, hW2⟩ : ∃ W2, W2 = wr := ⟨_, rfl⟩
            subst hW2
            have T0 : Hid (St w v w0 W2 W1.heap.size ty ⟨#[]⟩ (.slice qa cls.length qc) _ (X ++ clsTo ty cls m)) := hst
            have hnw := hst.nw
            clear hst
            by_cases hlm : m < cls.length
            · rcases HQ.out with h | ⟨b2, o2, rfl, hb2, hc2⟩
              · rw [h] at hlm; simp at hlm
              have p0 := ((bcell hnw).1 _ _ hb2).trans (hc2 m hlm)
              have y0 := wordB_le (HC.out m hlm)
              have y5 := clsTo_lt HC.out z4 hH m hm
              have hcl : clsTo ty cls (m + 1) = clsTo ty cls m ++ ((⟨#[46]⟩ : ByteArray) ++ strAt cls m) := rfl
              have HCL : Hid _ := hcl
              have ys6 : (X ++ clsTo ty cls m).size ≤ 5006000 := by rw [size_app]; omega
              clear hc2 hnw hcl
              generalize hy : strAt cls m = y at *
              generalize clsTo ty cls m = C at *
              go_wp2_with (at_builtin; (refine wp_byte _ rfl _ _ rfl w0.heap.size _ _ 46 rfl (T0.out.alloc _).buf _ rfl ?c1 ?c2 ?c3 ?_))
              case c1 => simp
              case c2 => omega
              case c3 => exact Below.size (T0.out.alloc _).nw
              intro x1 X1 b1 e1
              have T1 : Hid (St w v w0 X1 W1.heap.size ty ⟨#[]⟩ (.slice (some ⟨b2, o2, none⟩) cls.length qc) x1 ((X ++ C) ++ (⟨#[46]⟩ : ByteArray))) := (T0.out.alloc _).ext e1 b1
              clear b1 e1
              have ys7 : ((X ++ C) ++ (⟨#[46]⟩ : ByteArray)).size ≤ 5007000 := by rw [size_app]; have e : (⟨#[46]⟩ : ByteArray).size = 1 := rfl; rw [e]; omega
              go_wp2_with (at_builtin; (refine wp_text _ rfl _ _ rfl w0.heap.size _ _ rfl T1.out.buf y rfl ?c1 ?c2 ?_))
              case c1 => omega
              case c2 => exact Below.size T1.out.nw
              intro x2 X2 b1 e1
              have T2 : Hid (St w v w0 X2 W1.heap.size ty ⟨#[]⟩ (.slice (some ⟨b2, o2, none⟩) cls.length qc) x2 (X ++ (C ++ ((⟨#[46]⟩ : ByteArray) ++ y)))) := (T1.out.ext e1 b1).text (by first | rfl | simp only [app_assoc])
              clear b1 e1
              go_wp2
              go_roundw
              case rel => exact ⟨m + 1, by omega, by go_num, by rw [HCL.out]; exact T2.out⟩
              case measure => simp [intOf]; omega
            · have e : m = cls.length := by omega
              subst e
              clear hnw
              go_wp2
              go_roundw
              case rel => exact ⟨k + 1, by omega, by go_num, T0.out.nw, by rw [HX.out]; exact T0.out.buf, T0.out.ex⟩
              case measure => simp [intOf]; omega
      · have HP : Hid (partT ⟨ty, id, cls⟩ = clsTo (ty ++ ((⟨#[35]⟩ : ByteArray) ++ id)) cls cls.length) := HF _ (headT_yes d2)
        have hH : (ty ++ ((⟨#[35]⟩ : ByteArray) ++ id)).size ≤ 100 := by
          have e : (⟨#[35]⟩ : ByteArray).size = 1 := rfl
          rw [size_app, size_app, e]; omega
        clear HF
        by_cases h0 : 0 < k
        · have hsep : sepT (selT l k) k = selT l k ++ (⟨#[32]⟩ : ByteArray) := by unfold sepT; rw [if_pos h0]
          have HS2 : Hid _ := hsep
          clear hsep
          have S0 : Hid (St w v w0 (W1.alloc (.cells #[.string ty, .string id, .slice qa cls.length qc] 56)) W1.heap.size ty id (.slice qa cls.length qc) _ (t ++ selT l k)) := St.begin HW.out HB.out HXE.out _
          have ys : (t ++ selT l k).size ≤ 5002000 := by rw [size_app]; omega
          go_wp2_with (at_builtin; (refine wp_byte _ rfl _ _ rfl w0.heap.size _ _ 32 rfl (S0.out.alloc _).buf _ rfl ?c1 ?c2 ?c3 ?_))
          case c1 => simp
          case c2 => first | omega | (simp only [size_app]; omega)
          case c3 => exact Below.size (S0.out.alloc _).nw
          intro v1 w1 b1 e1
          have S1 : Hid (St w v w0 w1 W1.heap.size ty id (.slice qa cls.length qc) v1 ((t ++ selT l k) ++ (⟨#[32]⟩ : ByteArray))) := (((S0.out.alloc _).ext e1 b1)).text (by first | rfl | simp only [app_assoc])
          clear b1 e1
          have c0 := S1.out.c0; have c1 := S1.out.c1; have c2 := S1.out.c2
          have ys2 : ((t ++ selT l k) ++ (⟨#[32]⟩ : ByteArray)).size ≤ 5003000 := by rw [size_app]; have e : (⟨#[32]⟩ : ByteArray).size = 1 := rfl; rw [e]; omega
          have HX : Hid (t ++ selT l (k + 1) = ((t ++ selT l k) ++ (⟨#[32]⟩ : ByteArray)) ++ clsTo (ty ++ ((⟨#[35]⟩ : ByteArray) ++ id)) cls cls.length) := by show _ = _; rw [HE.out, HS2.out, HP.out]; simp only [app_assoc]
          generalize ((t ++ selT l k) ++ (⟨#[32]⟩ : ByteArray)) = X at *
          go_wp2_with (at_builtin; (refine wp_text _ rfl _ _ rfl w0.heap.size _ _ rfl S1.out.buf ty rfl ?c1 ?c2 ?_))
          case c1 => first | omega | (simp only [size_app]; omega)
          case c2 => exact Below.size S1.out.nw
          intro v2 w2 b1 e1
          have S2 : Hid (St w v w0 w2 W1.heap.size ty id (.slice qa cls.length qc) v2 (X ++ ty)) := (S1.out.ext e1 b1).text (by first | rfl | simp only [app_assoc])
          clear b1 e1
          have c0 := S2.out.c0; have c1 := S2.out.c1; have c2 := S2.out.c2
          have ys3 : (X ++ ty).size ≤ 5004000 := by rw [size_app]; omega
          go_wp2_with (at_builtin; (refine wp_byte _ rfl _ _ rfl w0.heap.size _ _ 35 rfl (S2.out.alloc _).buf _ rfl ?c1 ?c2 ?c3 ?_))
          case c1 => simp
          case c2 => first | omega | (simp only [size_app]; omega)
          case c3 => exact Below.size (S2.out.alloc _).nw
          intro v3 w3 b1 e1
          have S3 : Hid (St w v w0 w3 W1.heap.size ty id (.slice qa cls.length qc) v3 ((X ++ ty) ++ (⟨#[35]⟩ : ByteArray))) := (((S2.out.alloc _).ext e1 b1)).text (by first | rfl | simp only [app_assoc])
          clear b1 e1
          have c0 := S3.out.c0; have c1 := S3.out.c1; have c2 := S3.out.c2
          have ys4 : ((X ++ ty) ++ (⟨#[35]⟩ : ByteArray)).size ≤ 5005000 := by rw [size_app]; have e : (⟨#[35]⟩ : ByteArray).size = 1 := rfl; rw [e]; omega
          go_wp2_with (at_builtin; (refine wp_text _ rfl _ _ rfl w0.heap.size _ _ rfl S3.out.buf id rfl ?c1 ?c2 ?_))
          case c1 => first | omega | (simp only [size_app]; omega)
          case c2 => exact Below.size S3.out.nw
          intro v4 w4 b1 e1
          have S4 : Hid (St w v w0 w4 W1.heap.size ty id (.slice qa cls.length qc) v4 (X ++ (ty ++ ((⟨#[35]⟩ : ByteArray) ++ id)))) := (S3.out.ext e1 b1).text (by first | rfl | simp only [app_assoc])
          clear b1 e1
          have c0 := S4.out.c0; have c1 := S4.out.c1; have c2 := S4.out.c2
          go_wp2
          go_loopw [0, 38] (fun x j wr => ∃ n : Nat, n ≤ cls.length ∧ j = .int .i64 n ∧ St w v w0 wr W1.heap.size ty id (.slice qa cls.length qc) x (X ++ clsTo (ty ++ ((⟨#[35]⟩ : ByteArray) ++ id)) cls n)) (fun _ j _ => cls.length - (intOf j).toNat)
          case atStart => exact ⟨0, Nat.zero_le _, rfl, S4.out⟩
          case round =>
            obtain ⟨m, hm, rfl, hst⟩ := hrel
            obtain ⟨W2, hW2⟩ : ∃ W2, W2 = wr := ⟨_, rfl⟩
            subst hW2
            have T0 : Hid (St w v w0 W2 W1.heap.size ty id (.slice qa cls.length qc) _ (X ++ clsTo (ty ++ ((⟨#[35]⟩ : ByteArray) ++ id)) cls m)) := hst
            have hnw := hst.nw
            clear hst
            by_cases hlm : m < cls.length
            · rcases HQ.out with h | ⟨b2, o2, rfl, hb2, hc2⟩
              · rw [h] at hlm; simp at hlm
              have p0 := ((bcell hnw).1 _ _ hb2).trans (hc2 m hlm)
              have y0 := wordB_le (HC.out m hlm)
              have y5 := clsTo_lt HC.out z4 hH m hm
              have hcl : clsTo (ty ++ ((⟨#[35]⟩ : ByteArray) ++ id)) cls (m + 1) = clsTo (ty ++ ((⟨#[35]⟩ : ByteArray) ++ id)) cls m ++ ((⟨#[46]⟩ : ByteArray) ++ strAt cls m) := rfl
              have HCL : Hid _ := hcl
              have ys6 : (X ++ clsTo (ty ++ ((⟨#[35]⟩ : ByteArray) ++ id)) cls m).size ≤ 5006000 := by rw [size_app]; omega
              clear hc2 hnw hcl
              generalize hy : strAt cls m = y at *
              generalize clsTo (ty ++ ((⟨#[35]⟩ : ByteArray) ++ id)) cls m = C at *
              go_wp2_with (at_builtin; (refine wp_byte _ rfl _ _ rfl w0.heap.size _ _ 46 rfl (T0.out.alloc _).buf _ rfl ?c1 ?c2 ?c3 ?_))
              case c1 => simp
              case c2 => omega
              case c3 => exact Below.size (T0.out.alloc _).nw
              intro x1 X1 b1 e1
              have T1 : Hid (St w v w0 X1 W1.heap.size ty id (.slice (some ⟨b2, o2, none⟩) cls.length qc) x1 ((X ++ C) ++ (⟨#[46]⟩ : ByteArray))) := (T0.out.alloc _).ext e1 b1
              clear b1 e1
              have ys7 : ((X ++ C) ++ (⟨#[46]⟩ : ByteArray)).size ≤ 5007000 := by rw [size_app]; have e : (⟨#[46]⟩ : ByteArray).size = 1 := rfl; rw [e]; omega
              go_wp2_with (at_builtin; (refine wp_text _ rfl _ _ rfl w0.heap.size _ _ rfl T1.out.buf y rfl ?c1 ?c2 ?_))
              case c1 => omega
              case c2 => exact Below.size T1.out.nw
              intro x2 X2 b1 e1
              have T2 : Hid (St w v w0 X2 W1.heap.size ty id (.slice (some ⟨b2, o2, none⟩) cls.length qc) x2 (X ++ (C ++ ((⟨#[46]⟩ : ByteArray) ++ y)))) := (T1.out.ext e1 b1).text (by first | rfl | simp only [app_assoc])
              clear b1 e1
              go_wp2
              go_roundw
              case rel => exact ⟨m + 1, by omega, by go_num, by rw [HCL.out]; exact T2.out⟩
              case measure => simp [intOf]; omega
            · have e : m = cls.length := by omega
              subst e
              clear hnw
              go_wp2
              go_roundw
              case rel => exact ⟨k + 1, by omega, by go_num, T0.out.nw, by rw [HX.out]; exact T0.out.buf, T0.out.ex⟩
              case measure => simp [intOf]; omega
        · have hsep : sepT (selT l k) k = selT l k := by unfold sepT; rw [if_neg h0]
          have HS2 : Hid _ := hsep
          clear hsep
          have S0 : Hid (St w v w0 (W1.alloc (.cells #[.string ty, .string id, .slice qa cls.length qc] 56)) W1.heap.size ty id (.slice qa cls.length qc) _ (t ++ selT l k)) := St.begin HW.out HB.out HXE.out _
          have ys : (t ++ selT l k).size ≤ 5002000 := by rw [size_app]; omega
          have ys2 : (t ++ selT l k).size ≤ 5003000 := by omega
          have HX : Hid (t ++ selT l (k + 1) = (t ++ selT l k) ++ clsTo (ty ++ ((⟨#[35]⟩ : ByteArray) ++ id)) cls cls.length) := by show _ = _; rw [HE.out, HS2.out, HP.out]; simp only [app_assoc]
          generalize (t ++ selT l k) = X at *
          go_wp2_with (at_builtin; (refine wp_text _ rfl _ _ rfl w0.heap.size _ _ rfl S0.out.buf ty rfl ?c1 ?c2 ?_))
          case c1 => first | omega | (simp only [size_app]; omega)
          case c2 => exact Below.size S0.out.nw
          intro v1 w1 b1 e1
          have S1 : Hid (St w v w0 w1 W1.heap.size ty id (.slice qa cls.length qc) v1 (X ++ ty)) := (S0.out.ext e1 b1).text (by first | rfl | simp only [app_assoc])
          clear b1 e1
          have c0 := S1.out.c0; have c1 := S1.out.c1; have c2 := S1.out.c2
          have ys3 : (X ++ ty).size ≤ 5004000 := by rw [size_app]; omega
          go_wp2_with (at_builtin; (refine wp_byte _ rfl _ _ rfl w0.heap.size _ _ 35 rfl (S1.out.alloc _).buf _ rfl ?c1 ?c2 ?c3 ?_))
          case c1 => simp
          case c2 => first | omega | (simp only [size_app]; omega)
          case c3 => exact Below.size (S1.out.alloc _).nw
          intro v2 w2 b1 e1
          have S2 : Hid (St w v w0 w2 W1.heap.size ty id (.slice qa cls.length qc) v2 ((X ++ ty) ++ (⟨#[35]⟩ : ByteArray))) := (((S1.out.alloc _).ext e1 b1)).text (by first | rfl | simp only [app_assoc])
          clear b1 e1
          have c0 := S2.out.c0; have c1 := S2.out.c1; have c2 := S2.out.c2
          have ys4 : ((X ++ ty) ++ (⟨#[35]⟩ : ByteArray)).size ≤ 5005000 := by rw [size_app]; have e : (⟨#[35]⟩ : ByteArray).size = 1 := rfl; rw [e]; omega
          go_wp2_with (at_builtin; (refine wp_text _ rfl _ _ rfl w0.heap.size _ _ rfl S2.out.buf id rfl ?c1 ?c2 ?_))
          case c1 => first | omega | (simp only [size_app]; omega)
          case c2 => exact Below.size S2.out.nw
          intro v3 w3 b1 e1
          have S3 : Hid (St w v w0 w3 W1.heap.size ty id (.slice qa cls.length qc) v3 (X ++ (ty ++ ((⟨#[35]⟩ : ByteArray) ++ id)))) := (S2.out.ext e1 b1).text (by first | rfl | simp only [app_assoc])
          clear b1 e1
          have c0 := S3.out.c0; have c1 := S3.out.c1; have c2 := S3.out.c2
          go_wp2
          go_loopw [0, 38] (fun x j wr => ∃ n : Nat, n ≤ cls.length ∧ j = .int .i64 n ∧ St w v w0 wr W1.heap.size ty id (.slice qa cls.length qc) x (X ++ clsTo (ty ++ ((⟨#[35]⟩ : ByteArray) ++ id)) cls n)) (fun _ j _ => cls.length - (intOf j).toNat)
          case atStart => exact ⟨0, Nat.zero_le _, rfl, S3.out⟩
          case round =>
            obtain ⟨m, hm, rfl, hst⟩ := hrel
            obtain ⟨W2, hW2⟩ : ∃ W2, W2 = wr := ⟨_, rfl⟩
            subst hW2
            have T0 : Hid (St w v w0 W2 W1.heap.size ty id (.slice qa cls.length qc) _ (X ++ clsTo (ty ++ ((⟨#[35]⟩ : ByteArray) ++ id)) cls m)) := hst
            have hnw := hst.nw
            clear hst
            by_cases hlm : m < cls.length
            · rcases HQ.out with h | ⟨b2, o2, rfl, hb2, hc2⟩
              · rw [h] at hlm; simp at hlm
              have p0 := ((bcell hnw).1 _ _ hb2).trans (hc2 m hlm)
              have y0 := wordB_le (HC.out m hlm)
              have y5 := clsTo_lt HC.out z4 hH m hm
              have hcl : clsTo (ty ++ ((⟨#[35]⟩ : ByteArray) ++ id)) cls (m + 1) = clsTo (ty ++ ((⟨#[35]⟩ : ByteArray) ++ id)) cls m ++ ((⟨#[46]⟩ : ByteArray) ++ strAt cls m) := rfl
              have HCL : Hid _ := hcl
              have ys6 : (X ++ clsTo (ty ++ ((⟨#[35]⟩ : ByteArray) ++ id)) cls m).size ≤ 5006000 := by rw [size_app]; omega
              clear hc2 hnw hcl
              generalize hy : strAt cls m = y at *
              generalize clsTo (ty ++ ((⟨#[35]⟩ : ByteArray) ++ id)) cls m = C at *
              go_wp2_with (at_builtin; (refine wp_byte _ rfl _ _ rfl w0.heap.size _ _ 46 rfl (T0.out.alloc _).buf _ rfl ?c1 ?c2 ?c3 ?_))
              case c1 => simp
              case c2 => omega
              case c3 => exact Below.size (T0.out.alloc _).nw
              intro x1 X1 b1 e1
              have T1 : Hid (St w v w0 X1 W1.heap.size ty id (.slice (some ⟨b2, o2, none⟩) cls.length qc) x1 ((X ++ C) ++ (⟨#[46]⟩ : ByteArray))) := (T0.out.alloc _).ext e1 b1
              clear b1 e1
              have ys7 : ((X ++ C) ++ (⟨#[46]⟩ : ByteArray)).size ≤ 5007000 := by rw [size_app]; have e : (⟨#[46]⟩ : ByteArray).size = 1 := rfl; rw [e]; omega
              go_wp2_with (at_builtin; (refine wp_text _ rfl _ _ rfl w0.heap.size _ _ rfl T1.out.buf y rfl ?c1 ?c2 ?_))
              case c1 => omega
              case c2 => exact Below.size T1.out.nw
              intro x2 X2 b1 e1
              have T2 : Hid (St w v w0 X2 W1.heap.size ty id (.slice (some ⟨b2, o2, none⟩) cls.length qc) x2 (X ++ (C ++ ((⟨#[46]⟩ : ByteArray) ++ y)))) := (T1.out.ext e1 b1).text (by first | rfl | simp only [app_assoc])
              clear b1 e1
              go_wp2
              go_roundw
              case rel => exact ⟨m + 1, by omega, by go_num, by rw [HCL.out]; exact T2.out⟩
              case measure => simp [intOf]; omega
            · have e : m = cls.length := by omega
              subst e
              clear hnw
              go_wp2
              go_roundw
              case rel => exact ⟨k + 1, by omega, by go_num, T0.out.nw, by rw [HX.out]; exact T0.out.buf, T0.out.ex⟩
              case measure => simp [intOf]; omega
    · have e : k = l.length := by omega
      subst e
      clear hw
      go_wp2
      go_ret
      exact ⟨_, rfl, HW.out, HB.out, HXE.out⟩
theorem iappSel (w0 w : World) (a : Option Addr) (c : Nat) (l : List PD) (v : Value) (t : ByteArray) (hl : l.length ≤ 5) (hs : PsTo l l.length) (hr : Parts w0 a l) (hw : Nw w0 w) (hb : Buf w w0.heap.size v t) (ht : t.size ≤ 5000000) :
    Calls Tryd.prog 78 #[v, .slice a l.length c] w fun e w' => ∃ v', e = .returned v' ∧ Nw w0 w' ∧ Buf w' w0.heap.size v' (t ++ selT l l.length) :=
  Calls.mono (iappSelX w0 w a c l v t hl hs hr hw hb ht) fun e w' ⟨v', h1, h2, h3, _⟩ => ⟨v', h1, h2, h3⟩
end Go.Proofs.YtnkmdmmlpidcmaaDoor
namespace Go.Proofs.YtnkmdmmlpidcmaaDoor
set_option linter.unusedVariables false

/-- A text cut at the first place where x and y stand one behind the other. -/
def cut2 (x y : UInt8) : List UInt8 → Option (List UInt8 × List UInt8)
  | [] => none
  | a :: r => if a = x ∧ r.head? = some y then some ([], r.tail) else (cut2 x y r).map fun z => (a :: z.1, z.2)
theorem pre2 (x y a : UInt8) (r : List UInt8) : [x, y].isPrefixOf (a :: r) = decide (a = x ∧ r.head? = some y) := by
  cases r with
  | nil => simp [List.isPrefixOf]
  | cons b t =>
    simp only [List.isPrefixOf, List.head?_cons, Option.some.injEq, Bool.and_true]
    rw [Bool.eq_iff_iff, Bool.and_eq_true, beq_iff_eq, beq_iff_eq, decide_eq_true_eq]
    constructor
    · rintro ⟨rfl, rfl⟩; exact ⟨rfl, rfl⟩
    · rintro ⟨rfl, rfl⟩; exact ⟨rfl, rfl⟩
theorem cut2_ix (x y : UInt8) : ∀ l, (∀ p q, cut2 x y l = some (p, q) → l = p ++ x :: y :: q ∧ Lib.index l [x, y] = p.length) ∧ (cut2 x y l = none → Lib.index l [x, y] = -1) := by
  intro l
  induction l with
  | nil => exact ⟨(fun p q h => by cases h), fun _ => rfl⟩
  | cons a r ih =>
    by_cases h : a = x ∧ r.head? = some y
    · have e : cut2 x y (a :: r) = some ([], r.tail) := by rw [cut2, if_pos h]
      have hi : Lib.index (a :: r) [x, y] = 0 := by rw [Lib.index, pre2, if_pos (decide_eq_true h)]
      refine ⟨fun p q hp => ?_, fun hn => by rw [e] at hn; cases hn⟩
      rw [e] at hp
      injection hp with hp
      injection hp with h1 h2
      subst h1 h2
      refine ⟨?_, hi⟩
      cases r with
      | nil => exact absurd h.2 (by simp)
      | cons b t =>
        have := h.2
        simp at this
        rw [h.1, this]; rfl
    · have e : cut2 x y (a :: r) = (cut2 x y r).map fun z => (a :: z.1, z.2) := by rw [cut2, if_neg h]
      have hi : Lib.index (a :: r) [x, y] = if Lib.index r [x, y] == -1 then -1 else Lib.index r [x, y] + 1 := by
        rw [Lib.index, pre2, if_neg (by simpa using h)]
      refine ⟨fun p q hp => ?_, fun hn => ?_⟩
      · rw [e, Option.map_eq_some_iff] at hp
        obtain ⟨⟨p', q'⟩, h1, h2⟩ := hp
        injection h2 with h2 h3
        subst h2 h3
        obtain ⟨g1, g2⟩ := ih.1 p' q' h1
        refine ⟨by rw [List.cons_append, ← g1], ?_⟩
        rw [hi, g2, if_neg (by simp <;> omega)]
        simp
      · rw [e, Option.map_eq_none_iff] at hn
        rw [hi, ih.2 hn]; rfl
theorem cut_cut2 (x y : UInt8) (l : List UInt8) : Lib.cut l [x, y] = match cut2 x y l with | some (p, q) => (p, q, true) | none => (l, [], false) := by
  obtain ⟨h1, h2⟩ := cut2_ix x y l
  unfold Lib.cut
  cases e : cut2 x y l with
  | none => rw [h2 e, if_neg (by decide)]
  | some z =>
    obtain ⟨p, q⟩ := z
    obtain ⟨g1, g2⟩ := h1 p q e
    rw [g2, if_pos (by omega)]
    have e1 : ((p.length : Int)).toNat = p.length := by omega
    rw [e1]
    have e2 : l.take p.length = p := by rw [g1, List.take_left]
    have e3 : l.drop (p.length + [x, y].length) = q := by rw [g1, ← List.drop_drop, List.drop_left]; rfl
    rw [e2, e3]
/-- What stands behind a comment's end. -/
def skipC (l : List UInt8) : List UInt8 := match cut2 42 47 l with | some (_, q) => q | none => []
theorem cut2_len {x y : UInt8} {l p q : List UInt8} (h : cut2 x y l = some (p, q)) : l.length = p.length + 2 + q.length := by
  obtain ⟨g1, _⟩ := (cut2_ix x y l).1 p q h
  rw [g1]; simp; omega
theorem skipC_len (l : List UInt8) : (skipC l).length ≤ l.length := by
  unfold skipC
  cases e : cut2 42 47 l with
  | none => exact Nat.zero_le _
  | some z => obtain ⟨p, q⟩ := z; have := cut2_len e; simp only; omega
def bareF : Nat → List UInt8 → List UInt8
  | 0, _ => []
  | f + 1, l => match cut2 47 42 l with | none => l | some (p, q) => p ++ 32 :: bareF f (skipC q)
theorem bareF_fuel : ∀ (f g : Nat) (l : List UInt8), l.length < f → l.length < g → bareF f l = bareF g l := by
  intro f
  induction f with
  | zero => intro g l h; omega
  | succ f ih =>
    intro g l h1 h2
    cases g with
    | zero => omega
    | succ g =>
      unfold bareF
      cases e : cut2 47 42 l with
      | none => rfl
      | some z =>
        obtain ⟨p, q⟩ := z
        have := cut2_len e
        have h3 := skipC_len q
        simp only
        rw [ih g (skipC q) (by omega) (by omega)]
/-- A text with a blank for each comment. -/
def bareL (l : List UInt8) : List UInt8 := bareF (l.length + 1) l
theorem bareL_miss {l : List UInt8} (h : cut2 47 42 l = none) : bareL l = l := by unfold bareL bareF; rw [h]
theorem bareL_hit {l p q : List UInt8} (h : cut2 47 42 l = some (p, q)) : bareL l = p ++ 32 :: bareL (skipC q) := by
  have h1 := cut2_len h
  have h2 := skipC_len q
  unfold bareL
  conv => lhs; unfold bareF
  rw [h]
  simp only
  rw [bareF_fuel l.length ((skipC q).length + 1) (skipC q) (by omega) (by omega)]
theorem bareL_nil : bareL [] = [] := rfl
/-- Byte by byte. -/
theorem bareL_begin (r : List UInt8) (h : r.head? = some 42) : bareL (47 :: r) = 32 :: bareL (skipC r.tail) := by
  rw [bareL_hit (p := []) (q := r.tail) (by rw [cut2, if_pos ⟨rfl, h⟩])]
  rfl
theorem bareL_step (a : UInt8) (r : List UInt8) (h : ¬ (a = 47 ∧ r.head? = some 42)) : bareL (a :: r) = a :: bareL r := by
  cases e : cut2 47 42 r with
  | none => rw [bareL_miss e, bareL_miss (by rw [cut2, if_neg h, e]; rfl)]
  | some z =>
    obtain ⟨p, q⟩ := z
    rw [bareL_hit e, bareL_hit (p := a :: p) (q := q) (by rw [cut2, if_neg h, e]; rfl)]
    rfl
theorem skipC_end (r : List UInt8) (h : r.head? = some 47) : skipC (42 :: r) = r.tail := by
  unfold skipC
  rw [cut2, if_pos ⟨rfl, h⟩]
theorem skipC_step (a : UInt8) (r : List UInt8) (h : ¬ (a = 42 ∧ r.head? = some 47)) : skipC (a :: r) = skipC r := by
  unfold skipC
  rw [cut2, if_neg h]
  cases cut2 42 47 r with
  | none => rfl
  | some z => rfl
theorem bareL_len : ∀ (n : Nat) (l : List UInt8), l.length ≤ n → (bareL l).length ≤ l.length := by
  intro n
  induction n with
  | zero => intro l h; have : l = [] := List.eq_nil_of_length_eq_zero (by omega); subst this; exact Nat.le_refl _
  | succ n ih =>
    intro l h
    cases e : cut2 47 42 l with
    | none => rw [bareL_miss e]; exact Nat.le_refl _
    | some z =>
      obtain ⟨p, q⟩ := z
      have h1 := cut2_len e
      have h2 := skipC_len q
      have h3 := ih (skipC q) (by omega)
      rw [bareL_hit e]
      simp
      omega
def bareB (s : ByteArray) : ByteArray := bA (bareL s.data.toList)
theorem bareB_size (s : ByteArray) : (bareB s).size ≤ s.size := by
  unfold bareB
  rw [bA_size, ← data_len]
  exact bareL_len _ _ (Nat.le_refl _)
end Go.Proofs.YtnkmdmmlpidcmaaDoor
namespace Go.Proofs.YtnkmdmmlpidcmaaDoor
open Go.ChangeShapes Go.WideShapes Go.ChangeAt Go.RowKit
set_option linter.unusedVariables false

theorem pcs_size (c : UInt8) : ∀ (l x : List UInt8), x ∈ pcs c l → x.length ≤ l.length := by
  intro l
  induction l with
  | nil => intro x hx; simp [pcs] at hx; subst hx; exact Nat.le_refl _
  | cons b l ih =>
    intro x hx
    rw [pcs] at hx
    split at hx
    · rcases List.mem_cons.1 hx with e | h
      · subst e; exact Nat.zero_le _
      · have := ih x h; simp; omega
    · cases hp : pcs c l with
      | nil => exact absurd hp (pcs_ne c l)
      | cons y r =>
        rw [hp] at hx ih
        rcases List.mem_cons.1 hx with e | h
        · subst e
          have := ih y List.mem_cons_self
          simp; omega
        · have := ih x (List.mem_cons_of_mem _ h)
          simp; omega
theorem cutV_H (t : ByteArray) : cutV 35 t = .tuple #[.string (bA (cutH t.data.toList).1), .string (bA (cutH t.data.toList).2.1), .bool (cutH t.data.toList).2.2] := by
  unfold cutV
  rw [cutH_brk, data_len]
  by_cases h : brk 35 t.data.toList < t.size
  · rw [if_pos h, if_pos h, ext_head, ext_tail]
  · rw [if_neg h, if_neg h, bA_data]; rfl
theorem cutH_size (l : List UInt8) : (cutH l).1.length ≤ l.length ∧ (cutH l).2.1.length ≤ l.length := by
  rw [cutH_brk]
  split
  · simp; omega
  · simp
/-- What a reader of a part says. -/
def PartSays (s : ByteArray) (w w' : World) (e : Ending) : Prop :=
  (∃ p u, prP s = some p ∧ e = .returned (.tuple #[.agg #[.string p.ty, .string p.id, u], .bool true]) ∧ RowM 1 EStr w' u p.cls (iv w w')) ∨
  (prP s = none ∧ ∃ x y a n c, e = .returned (.tuple #[.agg #[.string x, .string y, .slice a n c], .bool false]))
structure PartF (s d1 nm id : ByteArray) (b : Bool) (D : List ByteArray) : Prop where
  pc : pcB 46 s = d1 :: D
  cut : cutV 35 d1 = .tuple #[.string nm, .string id, .bool b]
  yes : partB ⟨nm, id, D⟩ = true → ¬ (b = true ∧ id = ⟨#[]⟩) → prP s = some ⟨nm, id, D⟩
  no : partB ⟨nm, id, D⟩ = false ∨ (b = true ∧ id = ⟨#[]⟩) → prP s = none
  s1 : d1.size ≤ 1048576
  s2 : nm.size ≤ 1048576
  s3 : id.size ≤ 1048576
  s4 : ∀ i, i < D.length → (strAt D i).size ≤ 1048576
  s5 : D.length ≤ 1048576
theorem bA_nil (l : List UInt8) : bA l = ⟨#[]⟩ ↔ l = [] := by
  constructor
  · intro h
    have := congrArg (fun x : ByteArray => x.data.toList) h
    simpa [bA] using this
  · rintro rfl; rfl
theorem part_facts (s : ByteArray) (hs : s.size ≤ 1048576) : ∃ d1 nm id b D, PartF s d1 nm id b D := by
  have hp : pcB 46 s = bA (dots s.data.toList).1 :: (dots s.data.toList).2.map bA := by unfold pcB; rw [dots_pcs, List.map_cons]
  have hcut := cutV_H (bA (dots s.data.toList).1)
  rw [bA_list] at hcut
  have hsz : ∀ x, x ∈ pcs 46 s.data.toList → x.length ≤ 1048576 := fun x hx => by have := pcs_size 46 _ x hx; rw [data_len] at this; omega
  rw [dots_pcs] at hsz
  have h1 := hsz _ List.mem_cons_self
  have h2 := cutH_size (dots s.data.toList).1
  have hE : ofL (prI s.data.toList) = ⟨bA (cutH (dots s.data.toList).1).1, bA (cutH (dots s.data.toList).1).2.1, (dots s.data.toList).2.map bA⟩ := rfl
  have hL : ((dots s.data.toList).2.map bA).length ≤ 1048576 := by
    have := pcB_len 46 s
    rw [hp] at this
    have h3 := count_le_size 46 s
    simp only [List.length_cons] at this
    omega
  obtain ⟨ha, hb⟩ := prs_prI s.data.toList
  refine ⟨_, _, _, _, _, hp, hcut, fun hg hn => ?_, fun hg => ?_, ?_, ?_, ?_, fun i hi => ?_, hL⟩
  · rw [← hE] at hg ⊢
    have hok : prIok s.data.toList := by
      refine ⟨?_, fun hc => hn ⟨hc.1, (bA_nil _).2 hc.2⟩⟩
      have := (partB_L _).1 hg
      rw [toL_ofL] at this
      exact this
    unfold prP
    rw [ha hok]
    rfl
  · have hno : ¬ prIok s.data.toList := by
      rintro ⟨c1, c2⟩
      rcases hg with hg | hg
      · rw [← hE] at hg
        have : partB (ofL (prI s.data.toList)) = true := (partB_L _).2 (by rw [toL_ofL]; exact c1)
        rw [this] at hg
        cases hg
      · exact c2 ⟨hg.1, (bA_nil _).1 hg.2⟩
    unfold prP
    rw [hb hno]
    rfl
  · rw [bA_size]; exact h1
  · rw [bA_size]; omega
  · rw [bA_size]; omega
  · rw [List.length_map] at hi
    have e : strAt ((dots s.data.toList).2.map bA) i = bA ((dots s.data.toList).2[i]) := by simp [strAt, hi]
    rw [e, bA_size]
    exact hsz _ (List.mem_cons_of_mem _ (List.getElem_mem _))
end Go.Proofs.YtnkmdmmlpidcmaaDoor
