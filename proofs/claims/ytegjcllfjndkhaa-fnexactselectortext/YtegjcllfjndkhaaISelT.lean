/-
  The text of a selector, the program's; each theorem names its conditions.
-/
import Derived.Test.YtegjcllfjndkhaaSSelT
import Derived.Test.YtegjcllfjndkhaaBuf
namespace Go.Proofs.Ytegjcllfjndkhaa
open Go.ChangeShapes Go.WideShapes Go.ChangeAt Go.RowKit
set_option linter.unusedVariables false

theorem app_assoc (a b c : ByteArray) : (a ++ b) ++ c = a ++ (b ++ c) := by
  apply ByteArray.ext; simp
theorem nil_app (a : ByteArray) : (⟨#[]⟩ : ByteArray) ++ a = a := by
  apply ByteArray.ext; simp
theorem app_nil (a : ByteArray) : a ++ (⟨#[]⟩ : ByteArray) = a := by
  apply ByteArray.ext; simp
/-- While a part is written: the list v holds t, the part's copy lies in the block g. -/
structure St (w0 w : World) (g : Nat) (ty id : ByteArray) (sl : Value) (v : Value) (t : ByteArray) : Prop where
  nw : Nw w0 w
  buf : Buf w w0.heap.size v t
  lt : g < w.heap.size
  ap : v.ownBlock ≠ some g
  c0 : w.cell? ⟨g, 0, none⟩ = some (.string ty)
  c1 : w.cell? ⟨g, 1, none⟩ = some (.string id)
  c2 : w.cell? ⟨g, 2, none⟩ = some sl
section
variable {w0 w w' : World} {g : Nat} {ty id : ByteArray} {sl v v' : Value} {t t' : ByteArray}
theorem St.ext (h : St w0 w g ty id sl v t) (k : Ext v v' w w') (b : Buf w' w0.heap.size v' t') : St w0 w' g ty id sl v' t' :=
  ⟨Below.trans h.nw (k.below (fun x e => (World.ownsRow.lt h.buf x e).1) (Below.size h.nw)), b, Nat.lt_of_lt_of_le h.lt k.size, k.apart h.lt h.ap, (k.cell h.lt h.ap 0).trans h.c0, (k.cell h.lt h.ap 1).trans h.c1, (k.cell h.lt h.ap 2).trans h.c2⟩
theorem St.alloc (h : St w0 w g ty id sl v t) (o : Obj) : St w0 (w.alloc o) g ty id sl v t := by
  have k : Nw w (w.alloc o) := (Below.refl _ _).alloc (Nat.le_refl _) _
  exact ⟨h.nw.trans k, h.buf.nw k, Nat.lt_of_lt_of_le h.lt (Below.size k), h.ap, ((bcell k).1 _ _ h.lt).trans h.c0, ((bcell k).1 _ _ h.lt).trans h.c1, ((bcell k).1 _ _ h.lt).trans h.c2⟩
theorem St.text (h : St w0 w g ty id sl v t) (e : t = t') : St w0 w g ty id sl v t' := e ▸ h
theorem St.begin (h : Nw w0 w) (b : Buf w w0.heap.size v t) (T : TypeId) : St w0 (w.alloc (.cells #[.string ty, .string id, sl] T)) w.heap.size ty id sl v t := by
  have k : Nw w (w.alloc (.cells #[.string ty, .string id, sl] T)) := (Below.refl _ _).alloc (Nat.le_refl _) _
  exact ⟨h.trans k, b.nw k, by simp, fun e => by have := (World.ownsRow.lt b _ e).2; omega, by simp, by simp, by simp⟩
end

set_option maxHeartbeats 8000000 in
set_option maxRecDepth 100000 in
theorem iappSel (w0 w : World) (a : Option Addr) (c : Nat) (l : List PD) (v : Value) (t : ByteArray) (hl : l.length ≤ 5) (hs : PsTo l l.length) (hr : Parts w0 a l) (hw : Nw w0 w) (hb : Buf w w0.heap.size v t) (ht : t.size ≤ 1000000) :
    Calls Try.prog 14 #[v, .slice a l.length c] w fun e w' => ∃ v', e = .returned v' ∧ Nw w0 w' ∧ Buf w' w0.heap.size v' (t ++ selT l l.length) := by
  have HR : Hid (Parts w0 a l) := hr
  have HS : Hid (PsTo l l.length) := hs
  have HB0 : Hid (Buf w w0.heap.size v t) := hb
  have HW0 : Hid (Nw w0 w) := hw
  clear hr hs hb hw
  go_enter Try.func14, Try.ntmps14
  go_wp2
  go_loopw [0, 11] (fun x i wr => ∃ k : Nat, k ≤ l.length ∧ i = .int .i64 k ∧ Nw w0 wr ∧ Buf wr w0.heap.size x (t ++ selT l k)) (fun _ i _ => l.length - (intOf i).toNat)
  case atStart => exact ⟨0, Nat.zero_le _, rfl, HW0.out, by rw [selT, app_nil]; exact HB0.out⟩
  case round =>
    obtain ⟨k, hk, rfl, hw, hb⟩ := hrel
    obtain ⟨W1, hW1⟩ : ∃ W1, W1 = wr := ⟨_, rfl⟩
    subst hW1
    rename_i x _
    have HB : Hid (Buf W1 w0.heap.size _ (t ++ selT l k)) := hb
    have HW : Hid (Nw w0 W1) := hw
    clear hb
    by_cases hlt : k < l.length
    · rcases HR.out with h | ⟨b, off, rfl, hbk, hc⟩
      · rw [h] at hlt; simp at hlt
      obtain ⟨q0, q1, ⟨qa, qc, q2, qcap, q4⟩⟩ := hc k hlt
      replace q0 := ((bcell hw).1 _ _ hbk).trans q0
      replace q1 := ((bcell hw).1 _ _ hbk).trans q1
      replace q2 := ((bcell hw).1 _ _ hbk).trans q2
      have hz : partB ⟨(partAt l k).ty, (partAt l k).id, (partAt l k).cls⟩ = true := HS.out k hlt
      have HQ : Hid (Strs w0 qa (partAt l k).cls) := q4
      obtain ⟨z4, hcl, _, _, z1, z2⟩ := partB_parts hz
      have HC : Hid (ClsTo (partAt l k).cls (partAt l k).cls.length) := hcl
      have y1 := selT_size k fun i hi => HS.out i (by omega)
      have hsel : selT l (k + 1) = sepT (selT l k) k ++ partT ⟨(partAt l k).ty, (partAt l k).id, (partAt l k).cls⟩ := rfl
      have HE : Hid (selT l (k + 1) = sepT (selT l k) k ++ partT ⟨(partAt l k).ty, (partAt l k).id, (partAt l k).cls⟩) := hsel
      clear hc hw q4 hz hcl hsel
      generalize (partAt l k).ty = ty at *
      generalize (partAt l k).id = id at *
      generalize (partAt l k).cls = cls at *
      have HF : ∀ H, headT ⟨ty, id, cls⟩ = H → partT ⟨ty, id, cls⟩ = clsTo H cls cls.length := fun H e => by unfold partT; rw [e]
      rcases idWay id with ⟨rfl, _⟩ | ⟨d1, d2, _⟩
      · have HP : Hid (partT ⟨ty, ⟨#[]⟩, cls⟩ = clsTo ty cls cls.length) := HF _ (headT_no (by simp [ByteArray.toList_eq]))
        have hH : ty.size ≤ 100 := by omega
        clear HF
        by_cases h0 : 0 < k
        · have hsep : sepT (selT l k) k = selT l k ++ (⟨#[32]⟩ : ByteArray) := by unfold sepT; rw [if_pos h0]
          have HS2 : Hid _ := hsep
          clear hsep
          have S0 : Hid (St w0 (W1.alloc (.cells #[.string ty, .string ⟨#[]⟩, .slice qa cls.length qc] 36)) W1.heap.size ty ⟨#[]⟩ (.slice qa cls.length qc) _ (t ++ selT l k)) := St.begin HW.out HB.out _
          have ys : (t ++ selT l k).size ≤ 1002000 := by rw [size_app]; omega
          go_wp2_with (at_builtin; (refine wp_byte _ rfl _ _ rfl w0.heap.size _ _ 32 rfl (S0.out.alloc _).buf _ rfl ?c1 ?c2 ?c3 ?_))
          case c1 => simp
          case c2 => first | omega | (simp only [size_app]; omega)
          case c3 => exact Below.size (S0.out.alloc _).nw
          intro v1 w1 b1 e1
          have S1 : Hid (St w0 w1 W1.heap.size ty ⟨#[]⟩ (.slice qa cls.length qc) v1 ((t ++ selT l k) ++ (⟨#[32]⟩ : ByteArray))) := (((S0.out.alloc _).ext e1 b1)).text (by first | rfl | simp only [app_assoc])
          clear b1 e1
          have c0 := S1.out.c0; have c1 := S1.out.c1; have c2 := S1.out.c2
          have ys2 : ((t ++ selT l k) ++ (⟨#[32]⟩ : ByteArray)).size ≤ 1003000 := by rw [size_app]; have e : (⟨#[32]⟩ : ByteArray).size = 1 := rfl; rw [e]; omega
          have HX : Hid (t ++ selT l (k + 1) = ((t ++ selT l k) ++ (⟨#[32]⟩ : ByteArray)) ++ clsTo ty cls cls.length) := by show _ = _; rw [HE.out, HS2.out, HP.out]; simp only [app_assoc]
          generalize ((t ++ selT l k) ++ (⟨#[32]⟩ : ByteArray)) = X at *
          go_wp2_with (at_builtin; (refine wp_text _ rfl _ _ rfl w0.heap.size _ _ rfl S1.out.buf ty rfl ?c1 ?c2 ?_))
          case c1 => first | omega | (simp only [size_app]; omega)
          case c2 => exact Below.size S1.out.nw
          intro v2 w2 b1 e1
          have S2 : Hid (St w0 w2 W1.heap.size ty ⟨#[]⟩ (.slice qa cls.length qc) v2 (X ++ ty)) := (S1.out.ext e1 b1).text (by first | rfl | simp only [app_assoc])
          clear b1 e1
          have c0 := S2.out.c0; have c1 := S2.out.c1; have c2 := S2.out.c2
          have ys3 : (X ++ ty).size ≤ 1004000 := by rw [size_app]; omega
          go_wp2
          go_loopw [0, 38] (fun x j wr => ∃ n : Nat, n ≤ cls.length ∧ j = .int .i64 n ∧ St w0 wr W1.heap.size ty ⟨#[]⟩ (.slice qa cls.length qc) x (X ++ clsTo ty cls n)) (fun _ j _ => cls.length - (intOf j).toNat)
          case atStart => exact ⟨0, Nat.zero_le _, rfl, S2.out⟩
          case round =>
            obtain ⟨m, hm, rfl, hst⟩ := hrel
            obtain ⟨W2, hW2⟩ : ∃ W2, W2 = wr := ⟨_, rfl⟩
            subst hW2
            have T0 : Hid (St w0 W2 W1.heap.size ty ⟨#[]⟩ (.slice qa cls.length qc) _ (X ++ clsTo ty cls m)) := hst
            have hnw := hst.nw
            clear hst
            by_cases hlm : m < cls.length
            · rcases HQ.out with h | ⟨b2, o2, rfl, hb2, hc2⟩
              · rw [h] at hlm; simp at hlm
              have p0 := ((bcell hnw).1 _ _ hb2).trans (hc2 m hlm)
              have y0 := wordB_le (HC.out m hlm)
              have y5 := clsTo_lt HC.out z4 hH m hm
              have hcl : clsTo ty cls (m + 1) = clsTo ty cls m ++ ((⟨#[46]⟩ : ByteArray) ++ strAt cls m) := rfl
              have HCL : Hid _ := hcl
              have ys6 : (X ++ clsTo ty cls m).size ≤ 1006000 := by rw [size_app]; omega
              clear hc2 hnw hcl
              generalize hy : strAt cls m = y at *
              generalize clsTo ty cls m = C at *
              go_wp2_with (at_builtin; (refine wp_byte _ rfl _ _ rfl w0.heap.size _ _ 46 rfl (T0.out.alloc _).buf _ rfl ?c1 ?c2 ?c3 ?_))
              case c1 => simp
              case c2 => omega
              case c3 => exact Below.size (T0.out.alloc _).nw
              intro x1 X1 b1 e1
              have T1 : Hid (St w0 X1 W1.heap.size ty ⟨#[]⟩ (.slice (some ⟨b2, o2, none⟩) cls.length qc) x1 ((X ++ C) ++ (⟨#[46]⟩ : ByteArray))) := (T0.out.alloc _).ext e1 b1
              clear b1 e1
              have ys7 : ((X ++ C) ++ (⟨#[46]⟩ : ByteArray)).size ≤ 1007000 := by rw [size_app]; have e : (⟨#[46]⟩ : ByteArray).size = 1 := rfl; rw [e]; omega
              go_wp2_with (at_builtin; (refine wp_text _ rfl _ _ rfl w0.heap.size _ _ rfl T1.out.buf y rfl ?c1 ?c2 ?_))
              case c1 => omega
              case c2 => exact Below.size T1.out.nw
              intro x2 X2 b1 e1
              have T2 : Hid (St w0 X2 W1.heap.size ty ⟨#[]⟩ (.slice (some ⟨b2, o2, none⟩) cls.length qc) x2 (X ++ (C ++ ((⟨#[46]⟩ : ByteArray) ++ y)))) := (T1.out.ext e1 b1).text (by first | rfl | simp only [app_assoc])
              clear b1 e1
              go_wp2
              go_roundw
              case rel => exact ⟨m + 1, by omega, by go_num, by rw [HCL.out]; exact T2.out⟩
              case measure => simp [intOf]; omega
            · have e : m = cls.length := by omega
              subst e
              clear hnw
              go_wp2
              go_roundw
              case rel => exact ⟨k + 1, by omega, by go_num, T0.out.nw, by rw [HX.out]; exact T0.out.buf⟩
              case measure => simp [intOf]; omega
        · have hsep : sepT (selT l k) k = selT l k := by unfold sepT; rw [if_neg h0]
          have HS2 : Hid _ := hsep
          clear hsep
          have S0 : Hid (St w0 (W1.alloc (.cells #[.string ty, .string ⟨#[]⟩, .slice qa cls.length qc] 36)) W1.heap.size ty ⟨#[]⟩ (.slice qa cls.length qc) _ (t ++ selT l k)) := St.begin HW.out HB.out _
          have ys : (t ++ selT l k).size ≤ 1002000 := by rw [size_app]; omega
          have ys2 : (t ++ selT l k).size ≤ 1003000 := by omega
          have HX : Hid (t ++ selT l (k + 1) = (t ++ selT l k) ++ clsTo ty cls cls.length) := by show _ = _; rw [HE.out, HS2.out, HP.out]; simp only [app_assoc]
          generalize (t ++ selT l k) = X at *
          go_wp2_with (at_builtin; (refine wp_text _ rfl _ _ rfl w0.heap.size _ _ rfl S0.out.buf ty rfl ?c1 ?c2 ?_))
          case c1 => first | omega | (simp only [size_app]; omega)
          case c2 => exact Below.size S0.out.nw
          intro v1 w1 b1 e1
          have S1 : Hid (St w0 w1 W1.heap.size ty ⟨#[]⟩ (.slice qa cls.length qc) v1 (X ++ ty)) := (S0.out.ext e1 b1).text (by first | rfl | simp only [app_assoc])
          clear b1 e1
          have c0 := S1.out.c0; have c1 := S1.out.c1; have c2 := S1.out.c2
          have ys3 : (X ++ ty).size ≤ 1004000 := by rw [size_app]; omega
          go_wp2
          go_loopw [0, 38] (fun x j wr => ∃ n : Nat, n ≤ cls.length ∧ j = .int .i64 n ∧ St w0 wr W1.heap.size ty ⟨#[]⟩ (.slice qa cls.length qc) x (X ++ clsTo ty cls n)) (fun _ j _ => cls.length - (intOf j).toNat)
          case atStart => exact ⟨0, Nat.zero_le _, rfl, S1.out⟩
          case round =>
            obtain ⟨m, hm, rfl, hst⟩ := hrel
            obtain ⟨W2, hW2⟩ : ∃ W2, W2 = wr := ⟨_, rfl⟩
            subst hW2
            have T0 : Hid (St w0 W2 W1.heap.size ty ⟨#[]⟩ (.slice qa cls.length qc) _ (X ++ clsTo ty cls m)) := hst
            have hnw := hst.nw
            clear hst
            by_cases hlm : m < cls.length
            · rcases HQ.out with h | ⟨b2, o2, rfl, hb2, hc2⟩
              · rw [h] at hlm; simp at hlm
              have p0 := ((bcell hnw).1 _ _ hb2).trans (hc2 m hlm)
              have y0 := wordB_le (HC.out m hlm)
              have y5 := clsTo_lt HC.out z4 hH m hm
              have hcl : clsTo ty cls (m + 1) = clsTo ty cls m ++ ((⟨#[46]⟩ : ByteArray) ++ strAt cls m) := rfl
              have HCL : Hid _ := hcl
              have ys6 : (X ++ clsTo ty cls m).size ≤ 1006000 := by rw [size_app]; omega
              clear hc2 hnw hcl
              generalize hy : strAt cls m = y at *
              generalize clsTo ty cls m = C at *
              go_wp2_with (at_builtin; (refine wp_byte _ rfl _ _ rfl w0.heap.size _ _ 46 rfl (T0.out.alloc _).buf _ rfl ?c1 ?c2 ?c3 ?_))
              case c1 => simp
              case c2 => omega
              case c3 => exact Below.size (T0.out.alloc _).nw
              intro x1 X1 b1 e1
              have T1 : Hid (St w0 X1 W1.heap.size ty ⟨#[]⟩ (.slice (some ⟨b2, o2, none⟩) cls.length qc) x1 ((X ++ C) ++ (⟨#[46]⟩ : ByteArray))) := (T0.out.alloc _).ext e1 b1
              clear b1 e1
              have ys7 : ((X ++ C) ++ (⟨#[46]⟩ : ByteArray)).size ≤ 1007000 := by rw [size_app]; have e : (⟨#[46]⟩ : ByteArray).size = 1 := rfl; rw [e]; omega
              go_wp2_with (at_builtin; (refine wp_text _ rfl _ _ rfl w0.heap.size _ _ rfl T1.out.buf y rfl ?c1 ?c2 ?_))
              case c1 => omega
              case c2 => exact Below.size T1.out.nw
              intro x2 X2 b1 e1
              have T2 : Hid (St w0 X2 W1.heap.size ty ⟨#[]⟩ (.slice (some ⟨b2, o2, none⟩) cls.length qc) x2 (X ++ (C ++ ((⟨#[46]⟩ : ByteArray) ++ y)))) := (T1.out.ext e1 b1).text (by first | rfl | simp only [app_assoc])
              clear b1 e1
              go_wp2
              go_roundw
              case rel => exact ⟨m + 1, by omega, by go_num, by rw [HCL.out]; exact T2.out⟩
              case measure => simp [intOf]; omega
            · have e : m = cls.length := by omega
              subst e
              clear hnw
              go_wp2
              go_roundw
              case rel => exact ⟨k + 1, by omega, by go_num, T0.out.nw, by rw [HX.out]; exact T0.out.buf⟩
              case measure => simp [intOf]; omega
      · have HP : Hid (partT ⟨ty, id, cls⟩ = clsTo (ty ++ ((⟨#[35]⟩ : ByteArray) ++ id)) cls cls.length) := HF _ (headT_yes d2)
        have hH : (ty ++ ((⟨#[35]⟩ : ByteArray) ++ id)).size ≤ 100 := by
          have e : (⟨#[35]⟩ : ByteArray).size = 1 := rfl
          rw [size_app, size_app, e]; omega
        clear HF
        by_cases h0 : 0 < k
        · have hsep : sepT (selT l k) k = selT l k ++ (⟨#[32]⟩ : ByteArray) := by unfold sepT; rw [if_pos h0]
          have HS2 : Hid _ := hsep
          clear hsep
          have S0 : Hid (St w0 (W1.alloc (.cells #[.string ty, .string id, .slice qa cls.length qc] 36)) W1.heap.size ty id (.slice qa cls.length qc) _ (t ++ selT l k)) := St.begin HW.out HB.out _
          have ys : (t ++ selT l k).size ≤ 1002000 := by rw [size_app]; omega
          go_wp2_with (at_builtin; (refine wp_byte _ rfl _ _ rfl w0.heap.size _ _ 32 rfl (S0.out.alloc _).buf _ rfl ?c1 ?c2 ?c3 ?_))
          case c1 => simp
          case c2 => first | omega | (simp only [size_app]; omega)
          case c3 => exact Below.size (S0.out.alloc _).nw
          intro v1 w1 b1 e1
          have S1 : Hid (St w0 w1 W1.heap.size ty id (.slice qa cls.length qc) v1 ((t ++ selT l k) ++ (⟨#[32]⟩ : ByteArray))) := (((S0.out.alloc _).ext e1 b1)).text (by first | rfl | simp only [app_assoc])
          clear b1 e1
          have c0 := S1.out.c0; have c1 := S1.out.c1; have c2 := S1.out.c2
          have ys2 : ((t ++ selT l k) ++ (⟨#[32]⟩ : ByteArray)).size ≤ 1003000 := by rw [size_app]; have e : (⟨#[32]⟩ : ByteArray).size = 1 := rfl; rw [e]; omega
          have HX : Hid (t ++ selT l (k + 1) = ((t ++ selT l k) ++ (⟨#[32]⟩ : ByteArray)) ++ clsTo (ty ++ ((⟨#[35]⟩ : ByteArray) ++ id)) cls cls.length) := by show _ = _; rw [HE.out, HS2.out, HP.out]; simp only [app_assoc]
          generalize ((t ++ selT l k) ++ (⟨#[32]⟩ : ByteArray)) = X at *
          go_wp2_with (at_builtin; (refine wp_text _ rfl _ _ rfl w0.heap.size _ _ rfl S1.out.buf ty rfl ?c1 ?c2 ?_))
          case c1 => first | omega | (simp only [size_app]; omega)
          case c2 => exact Below.size S1.out.nw
          intro v2 w2 b1 e1
          have S2 : Hid (St w0 w2 W1.heap.size ty id (.slice qa cls.length qc) v2 (X ++ ty)) := (S1.out.ext e1 b1).text (by first | rfl | simp only [app_assoc])
          clear b1 e1
          have c0 := S2.out.c0; have c1 := S2.out.c1; have c2 := S2.out.c2
          have ys3 : (X ++ ty).size ≤ 1004000 := by rw [size_app]; omega
          go_wp2_with (at_builtin; (refine wp_byte _ rfl _ _ rfl w0.heap.size _ _ 35 rfl (S2.out.alloc _).buf _ rfl ?c1 ?c2 ?c3 ?_))
          case c1 => simp
          case c2 => first | omega | (simp only [size_app]; omega)
          case c3 => exact Below.size (S2.out.alloc _).nw
          intro v3 w3 b1 e1
          have S3 : Hid (St w0 w3 W1.heap.size ty id (.slice qa cls.length qc) v3 ((X ++ ty) ++ (⟨#[35]⟩ : ByteArray))) := (((S2.out.alloc _).ext e1 b1)).text (by first | rfl | simp only [app_assoc])
          clear b1 e1
          have c0 := S3.out.c0; have c1 := S3.out.c1; have c2 := S3.out.c2
          have ys4 : ((X ++ ty) ++ (⟨#[35]⟩ : ByteArray)).size ≤ 1005000 := by rw [size_app]; have e : (⟨#[35]⟩ : ByteArray).size = 1 := rfl; rw [e]; omega
          go_wp2_with (at_builtin; (refine wp_text _ rfl _ _ rfl w0.heap.size _ _ rfl S3.out.buf id rfl ?c1 ?c2 ?_))
          case c1 => first | omega | (simp only [size_app]; omega)
          case c2 => exact Below.size S3.out.nw
          intro v4 w4 b1 e1
          have S4 : Hid (St w0 w4 W1.heap.size ty id (.slice qa cls.length qc) v4 (X ++ (ty ++ ((⟨#[35]⟩ : ByteArray) ++ id)))) := (S3.out.ext e1 b1).text (by first | rfl | simp only [app_assoc])
          clear b1 e1
          have c0 := S4.out.c0; have c1 := S4.out.c1; have c2 := S4.out.c2
          go_wp2
          go_loopw [0, 38] (fun x j wr => ∃ n : Nat, n ≤ cls.length ∧ j = .int .i64 n ∧ St w0 wr W1.heap.size ty id (.slice qa cls.length qc) x (X ++ clsTo (ty ++ ((⟨#[35]⟩ : ByteArray) ++ id)) cls n)) (fun _ j _ => cls.length - (intOf j).toNat)
          case atStart => exact ⟨0, Nat.zero_le _, rfl, S4.out⟩
          case round =>
            obtain ⟨m, hm, rfl, hst⟩ := hrel
            obtain ⟨W2, hW2⟩ : ∃ W2, W2 = wr := ⟨_, rfl⟩
            subst hW2
            have T0 : Hid (St w0 W2 W1.heap.size ty id (.slice qa cls.length qc) _ (X ++ clsTo (ty ++ ((⟨#[35]⟩ : ByteArray) ++ id)) cls m)) := hst
            have hnw := hst.nw
            clear hst
            by_cases hlm : m < cls.length
            · rcases HQ.out with h | ⟨b2, o2, rfl, hb2, hc2⟩
              · rw [h] at hlm; simp at hlm
              have p0 := ((bcell hnw).1 _ _ hb2).trans (hc2 m hlm)
              have y0 := wordB_le (HC.out m hlm)
              have y5 := clsTo_lt HC.out z4 hH m hm
              have hcl : clsTo (ty ++ ((⟨#[35]⟩ : ByteArray) ++ id)) cls (m + 1) = clsTo (ty ++ ((⟨#[35]⟩ : ByteArray) ++ id)) cls m ++ ((⟨#[46]⟩ : ByteArray) ++ strAt cls m) := rfl
              have HCL : Hid _ := hcl
              have ys6 : (X ++ clsTo (ty ++ ((⟨#[35]⟩ : ByteArray) ++ id)) cls m).size ≤ 1006000 := by rw [size_app]; omega
              clear hc2 hnw hcl
              generalize hy : strAt cls m = y at *
              generalize clsTo (ty ++ ((⟨#[35]⟩ : ByteArray) ++ id)) cls m = C at *
              go_wp2_with (at_builtin; (refine wp_byte _ rfl _ _ rfl w0.heap.size _ _ 46 rfl (T0.out.alloc _).buf _ rfl ?c1 ?c2 ?c3 ?_))
              case c1 => simp
              case c2 => omega
              case c3 => exact Below.size (T0.out.alloc _).nw
              intro x1 X1 b1 e1
              have T1 : Hid (St w0 X1 W1.heap.size ty id (.slice (some ⟨b2, o2, none⟩) cls.length qc) x1 ((X ++ C) ++ (⟨#[46]⟩ : ByteArray))) := (T0.out.alloc _).ext e1 b1
              clear b1 e1
              have ys7 : ((X ++ C) ++ (⟨#[46]⟩ : ByteArray)).size ≤ 1007000 := by rw [size_app]; have e : (⟨#[46]⟩ : ByteArray).size = 1 := rfl; rw [e]; omega
              go_wp2_with (at_builtin; (refine wp_text _ rfl _ _ rfl w0.heap.size _ _ rfl T1.out.buf y rfl ?c1 ?c2 ?_))
              case c1 => omega
              case c2 => exact Below.size T1.out.nw
              intro x2 X2 b1 e1
              have T2 : Hid (St w0 X2 W1.heap.size ty id (.slice (some ⟨b2, o2, none⟩) cls.length qc) x2 (X ++ (C ++ ((⟨#[46]⟩ : ByteArray) ++ y)))) := (T1.out.ext e1 b1).text (by first | rfl | simp only [app_assoc])
              clear b1 e1
              go_wp2
              go_roundw
              case rel => exact ⟨m + 1, by omega, by go_num, by rw [HCL.out]; exact T2.out⟩
              case measure => simp [intOf]; omega
            · have e : m = cls.length := by omega
              subst e
              clear hnw
              go_wp2
              go_roundw
              case rel => exact ⟨k + 1, by omega, by go_num, T0.out.nw, by rw [HX.out]; exact T0.out.buf⟩
              case measure => simp [intOf]; omega
        · have hsep : sepT (selT l k) k = selT l k := by unfold sepT; rw [if_neg h0]
          have HS2 : Hid _ := hsep
          clear hsep
          have S0 : Hid (St w0 (W1.alloc (.cells #[.string ty, .string id, .slice qa cls.length qc] 36)) W1.heap.size ty id (.slice qa cls.length qc) _ (t ++ selT l k)) := St.begin HW.out HB.out _
          have ys : (t ++ selT l k).size ≤ 1002000 := by rw [size_app]; omega
          have ys2 : (t ++ selT l k).size ≤ 1003000 := by omega
          have HX : Hid (t ++ selT l (k + 1) = (t ++ selT l k) ++ clsTo (ty ++ ((⟨#[35]⟩ : ByteArray) ++ id)) cls cls.length) := by show _ = _; rw [HE.out, HS2.out, HP.out]; simp only [app_assoc]
          generalize (t ++ selT l k) = X at *
          go_wp2_with (at_builtin; (refine wp_text _ rfl _ _ rfl w0.heap.size _ _ rfl S0.out.buf ty rfl ?c1 ?c2 ?_))
          case c1 => first | omega | (simp only [size_app]; omega)
          case c2 => exact Below.size S0.out.nw
          intro v1 w1 b1 e1
          have S1 : Hid (St w0 w1 W1.heap.size ty id (.slice qa cls.length qc) v1 (X ++ ty)) := (S0.out.ext e1 b1).text (by first | rfl | simp only [app_assoc])
          clear b1 e1
          have c0 := S1.out.c0; have c1 := S1.out.c1; have c2 := S1.out.c2
          have ys3 : (X ++ ty).size ≤ 1004000 := by rw [size_app]; omega
          go_wp2_with (at_builtin; (refine wp_byte _ rfl _ _ rfl w0.heap.size _ _ 35 rfl (S1.out.alloc _).buf _ rfl ?c1 ?c2 ?c3 ?_))
          case c1 => simp
          case c2 => first | omega | (simp only [size_app]; omega)
          case c3 => exact Below.size (S1.out.alloc _).nw
          intro v2 w2 b1 e1
          have S2 : Hid (St w0 w2 W1.heap.size ty id (.slice qa cls.length qc) v2 ((X ++ ty) ++ (⟨#[35]⟩ : ByteArray))) := (((S1.out.alloc _).ext e1 b1)).text (by first | rfl | simp only [app_assoc])
          clear b1 e1
          have c0 := S2.out.c0; have c1 := S2.out.c1; have c2 := S2.out.c2
          have ys4 : ((X ++ ty) ++ (⟨#[35]⟩ : ByteArray)).size ≤ 1005000 := by rw [size_app]; have e : (⟨#[35]⟩ : ByteArray).size = 1 := rfl; rw [e]; omega
          go_wp2_with (at_builtin; (refine wp_text _ rfl _ _ rfl w0.heap.size _ _ rfl S2.out.buf id rfl ?c1 ?c2 ?_))
          case c1 => first | omega | (simp only [size_app]; omega)
          case c2 => exact Below.size S2.out.nw
          intro v3 w3 b1 e1
          have S3 : Hid (St w0 w3 W1.heap.size ty id (.slice qa cls.length qc) v3 (X ++ (ty ++ ((⟨#[35]⟩ : ByteArray) ++ id)))) := (S2.out.ext e1 b1).text (by first | rfl | simp only [app_assoc])
          clear b1 e1
          have c0 := S3.out.c0; have c1 := S3.out.c1; have c2 := S3.out.c2
          go_wp2
          go_loopw [0, 38] (fun x j wr => ∃ n : Nat, n ≤ cls.length ∧ j = .int .i64 n ∧ St w0 wr W1.heap.size ty id (.slice qa cls.length qc) x (X ++ clsTo (ty ++ ((⟨#[35]⟩ : ByteArray) ++ id)) cls n)) (fun _ j _ => cls.length - (intOf j).toNat)
          case atStart => exact ⟨0, Nat.zero_le _, rfl, S3.out⟩
          case round =>
            obtain ⟨m, hm, rfl, hst⟩ := hrel
            obtain ⟨W2, hW2⟩ : ∃ W2, W2 = wr := ⟨_, rfl⟩
            subst hW2
            have T0 : Hid (St w0 W2 W1.heap.size ty id (.slice qa cls.length qc) _ (X ++ clsTo (ty ++ ((⟨#[35]⟩ : ByteArray) ++ id)) cls m)) := hst
            have hnw := hst.nw
            clear hst
            by_cases hlm : m < cls.length
            · rcases HQ.out with h | ⟨b2, o2, rfl, hb2, hc2⟩
              · rw [h] at hlm; simp at hlm
              have p0 := ((bcell hnw).1 _ _ hb2).trans (hc2 m hlm)
              have y0 := wordB_le (HC.out m hlm)
              have y5 := clsTo_lt HC.out z4 hH m hm
              have hcl : clsTo (ty ++ ((⟨#[35]⟩ : ByteArray) ++ id)) cls (m + 1) = clsTo (ty ++ ((⟨#[35]⟩ : ByteArray) ++ id)) cls m ++ ((⟨#[46]⟩ : ByteArray) ++ strAt cls m) := rfl
              have HCL : Hid _ := hcl
              have ys6 : (X ++ clsTo (ty ++ ((⟨#[35]⟩ : ByteArray) ++ id)) cls m).size ≤ 1006000 := by rw [size_app]; omega
              clear hc2 hnw hcl
              generalize hy : strAt cls m = y at *
              generalize clsTo (ty ++ ((⟨#[35]⟩ : ByteArray) ++ id)) cls m = C at *
              go_wp2_with (at_builtin; (refine wp_byte _ rfl _ _ rfl w0.heap.size _ _ 46 rfl (T0.out.alloc _).buf _ rfl ?c1 ?c2 ?c3 ?_))
              case c1 => simp
              case c2 => omega
              case c3 => exact Below.size (T0.out.alloc _).nw
              intro x1 X1 b1 e1
              have T1 : Hid (St w0 X1 W1.heap.size ty id (.slice (some ⟨b2, o2, none⟩) cls.length qc) x1 ((X ++ C) ++ (⟨#[46]⟩ : ByteArray))) := (T0.out.alloc _).ext e1 b1
              clear b1 e1
              have ys7 : ((X ++ C) ++ (⟨#[46]⟩ : ByteArray)).size ≤ 1007000 := by rw [size_app]; have e : (⟨#[46]⟩ : ByteArray).size = 1 := rfl; rw [e]; omega
              go_wp2_with (at_builtin; (refine wp_text _ rfl _ _ rfl w0.heap.size _ _ rfl T1.out.buf y rfl ?c1 ?c2 ?_))
              case c1 => omega
              case c2 => exact Below.size T1.out.nw
              intro x2 X2 b1 e1
              have T2 : Hid (St w0 X2 W1.heap.size ty id (.slice (some ⟨b2, o2, none⟩) cls.length qc) x2 (X ++ (C ++ ((⟨#[46]⟩ : ByteArray) ++ y)))) := (T1.out.ext e1 b1).text (by first | rfl | simp only [app_assoc])
              clear b1 e1
              go_wp2
              go_roundw
              case rel => exact ⟨m + 1, by omega, by go_num, by rw [HCL.out]; exact T2.out⟩
              case measure => simp [intOf]; omega
            · have e : m = cls.length := by omega
              subst e
              clear hnw
              go_wp2
              go_roundw
              case rel => exact ⟨k + 1, by omega, by go_num, T0.out.nw, by rw [HX.out]; exact T0.out.buf⟩
              case measure => simp [intOf]; omega
    · have e : k = l.length := by omega
      subst e
      clear hw
      go_wp2
      go_ret
      exact ⟨_, rfl, HW.out, HB.out⟩
end Go.Proofs.Ytegjcllfjndkhaa
