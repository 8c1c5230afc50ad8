/-
  A text parted at a byte, and declarations read by the specification; each theorem names its conditions.
-/
import Derived.Test.YtnkmdmmlpidcmaaDoorDcS
import Derived.Test.YtnkmdmmlpidcmaaDoorDeI
namespace Go.Proofs.YtnkmdmmlpidcmaaDoor
open Go.ChangeShapes Go.WideShapes Go.ChangeAt Go.RowKit
set_option linter.unusedVariables false

structure SpSt (c : UInt8) (s : ByteArray) (at_ pos : Nat) (D : List ByteArray) : Prop where
  le1 : at_ ≤ pos
  le2 : pos ≤ s.size
  len : D.length ≤ pos
  pc : pcB c s = D ++ (pcs c (s.data.toList.drop at_)).map bA
  br : brk c (s.data.toList.drop at_) = pos - at_ + brk c (s.data.toList.drop pos)
theorem SpSt.start (c : UInt8) (s : ByteArray) : SpSt c s 0 0 [] := ⟨Nat.le_refl _, Nat.zero_le _, Nat.zero_le _, rfl, by simp⟩
theorem SpSt.other {c : UInt8} {s : ByteArray} {a pos : Nat} {D : List ByteArray} (h : SpSt c s a pos D) (hlt : pos < s.size) (hc : s[pos] ≠ c) : SpSt c s a (pos + 1) D := by
  refine ⟨by have := h.le1; omega, hlt, by have := h.len; omega, h.pc, ?_⟩
  have h1 := h.le1
  rw [h.br, hd_byte s pos hlt, brk_cons, if_neg hc]
  omega
theorem SpSt.cut {c : UInt8} {s : ByteArray} {a pos : Nat} {D : List ByteArray} (h : SpSt c s a pos D) (hlt : pos < s.size) (hc : s[pos] = c) : SpSt c s (pos + 1) (pos + 1) (D ++ [s.extract a pos]) := by
  have h1 := h.le1
  have hb : brk c (s.data.toList.drop a) = pos - a := by
    rw [h.br, hd_byte s pos hlt, brk_cons, if_pos hc]
    omega
  refine ⟨Nat.le_refl _, hlt, by rw [List.length_append]; have := h.len; simp; omega, ?_, by simp⟩
  rw [h.pc, pcs_hit c _ (by rw [hb, List.length_drop, data_len]; omega), hb, List.drop_drop, List.map_cons, List.append_assoc]
  have e1 : a + (pos - a + 1) = pos + 1 := by omega
  have e2 : s.extract a pos = bA ((s.data.toList.drop a).take (pos - a)) := by
    have := ext_mid s a (pos - a)
    rw [show a + (pos - a) = pos by omega] at this
    exact this
  rw [e1, e2]
  rfl
theorem SpSt.fin {c : UInt8} {s : ByteArray} {a pos : Nat} {D : List ByteArray} (h : SpSt c s a pos D) (hlt : ¬ pos < s.size) : pcB c s = D ++ [s.extract a pos] := by
  have h1 := h.le1
  have h2 := h.le2
  have hb : brk c (s.data.toList.drop a) = pos - a := by
    rw [h.br, hd_none s pos hlt]
    rfl
  rw [h.pc, pcs_miss c _ (by rw [hb, List.length_drop, data_len]; omega)]
  have e2 : s.extract a pos = bA (s.data.toList.drop a) := by
    have e : pos = s.size := by omega
    rw [e, ext_tail]
  rw [e2]
  rfl
theorem byte_eq {b c : UInt8} (h : b = c) : ((b.toNat : Int) == (c.toNat : Int)) = true := by rw [h]; simp
theorem byte_neq {b c : UInt8} (h : b ≠ c) : ((b.toNat : Int) == (c.toNat : Int)) = false := by
  rw [beq_eq_false_iff_ne]
  intro e
  exact h (UInt8.toNat_inj.1 (by omega))
set_option maxHeartbeats 8000000 in
theorem ssplit (s : ByteArray) (c : UInt8) (w : World) (hs : s.size ≤ 1048576) :
    Calls Tryd.prog 52 #[.string s, .int .u8 (c.toNat : Int)] w fun e w' => ∃ v, e = .returned v ∧ Txs w' w.heap.size v (pcB c s) ∧ Nw w w' := by
  go_enter Tryd.func52, Tryd.ntmps52
  go_wp2
  go_loopw [5, 6, 7] (fun v y i wr => Nw w wr ∧ ((∃ (a pos : Nat) (D : List ByteArray), i = .int .i64 (pos : Int) ∧ y = .int .i64 (a : Int) ∧ SpSt c s a pos D ∧ Txs wr w.heap.size v D) ∨ (i = .int .i64 ((s.size + 1 : Nat) : Int) ∧ (∃ a : Int, y = .int .i64 a) ∧ Txs wr w.heap.size v (pcB c s)))) (fun _ _ i _ => s.size + 2 - (intOf i).toNat)
  case atStart => exact ⟨Below.refl _ _, Or.inl ⟨0, 0, [], rfl, rfl, SpSt.start c s, Txs.nil _ _⟩⟩
  case round =>
    obtain ⟨hw, ⟨a, pos, D, rfl, rfl, hst, hv⟩ | ⟨rfl, ⟨a, rfl⟩, hv⟩⟩ := hrel
    · have HW : Hid (Nw w wr) := hw
      have HV : Hid (Txs wr w.heap.size _ D) := hv
      have h1 := hst.le1
      have h2 := hst.le2
      have hcl : D.length ≤ 10000000 := by have := hst.len; omega
      have HB : ∀ o1, Hid (Nw wr (wr.alloc o1)) := fun o1 => (Below.refl _ _).alloc (Nat.le_refl _) _
      have hBs : ∀ o1, Hid (w.heap.size ≤ (wr.alloc o1).heap.size) := fun o1 => Nat.le_trans (Below.size hw) (Below.size (HB o1).out)
      clear hw hv
      have hleI : (pos : Int) ≤ (s.size : Int) := by omega
      by_cases hlt : pos < s.size
      · have hne : ((pos : Int) == (s.size : Int)) = false := by rw [beq_eq_false_iff_ne]; omega
        by_cases hc : s[pos] = c
        · have g1 := byte_eq hc
          have HS : Hid (SpSt c s (pos + 1) (pos + 1) (D ++ [s.extract a pos])) := hst.cut hlt hc
          clear hst hc
          go_wp2_with (at_builtin; (refine wp_tx _ rfl _ _ rfl w.heap.size _ _ (s.extract a pos) rfl (HV.out.nw (HB _).out) _ rfl ?c1 hcl ?c3 ?_))
          case c1 => simp
          case c3 => exact (hBs _).out
          intro v' w' q1 q2
          have HN : Hid (Nw w w') := Below.trans (HW.out.trans (HB _).out) (Txs.below (HV.out.nw (HB _).out) q2 (hBs _).out)
          have H1 : Hid (Txs w' w.heap.size v' (D ++ [s.extract a pos])) := q1
          clear q1 q2
          go_wp2
          go_roundw
          case rel => exact ⟨HN.out, Or.inl ⟨pos + 1, pos + 1, _, by go_num, by go_num, HS.out, H1.out⟩⟩
          case measure => simp [intOf]; try omega
        · have g1 := byte_neq hc
          have HS : Hid (SpSt c s a (pos + 1) D) := hst.other hlt hc
          clear hst hc
          go_wp2
          go_roundw
          case rel => exact ⟨HW.out, Or.inl ⟨a, pos + 1, D, by go_num, rfl, HS.out, HV.out⟩⟩
          case measure => simp [intOf]; try omega
      · have e : pos = s.size := by omega
        have hne : ((pos : Int) == (s.size : Int)) = true := by rw [e]; simp
        have HE : Hid (pcB c s = D ++ [s.extract a pos]) := hst.fin hlt
        have HPS : Hid (pos = s.size) := e
        clear hst e
        go_wp2_with (at_builtin; (refine wp_tx _ rfl _ _ rfl w.heap.size _ _ (s.extract a pos) rfl (HV.out.nw (HB _).out) _ rfl ?c1 hcl ?c3 ?_))
        case c1 => simp
        case c3 => exact (hBs _).out
        intro v' w' q1 q2
        have HN : Hid (Nw w w') := Below.trans (HW.out.trans (HB _).out) (Txs.below (HV.out.nw (HB _).out) q2 (hBs _).out)
        have H1 : Hid (Txs w' w.heap.size v' (pcB c s)) := by show Txs _ _ _ _; rw [HE.out]; exact q1
        clear q1 q2
        go_wp2
        go_roundw
        case rel => exact ⟨HN.out, Or.inr ⟨by rw [← HPS.out]; go_num, ⟨_, rfl⟩, H1.out⟩⟩
        case measure => simp [intOf]; try omega
    · have HW : Hid (Nw w wr) := hw
      have HV : Hid (Txs wr w.heap.size _ (pcB c s)) := hv
      clear hw hv
      have hgt : ¬ (((s.size + 1 : Nat) : Int) ≤ (s.size : Int)) := by omega
      go_wp2
      go_ret
      exact ⟨_, rfl, HV.out, HW.out⟩
set_option maxHeartbeats 8000000 in
theorem sdecls (s : ByteArray) (w : World) (hs : s.size ≤ 1048576) :
    Calls Tryd.prog 25 #[.string s] w fun e w' => DeclsSays s w w' e ∧ Nw w w' := by
  have HSZ : Hid (∀ i, (strAt (pcB 59 s) i).size ≤ 1048576) := fun i => pcB_size 59 s hs i
  have hpl : (pcB 59 s).length ≤ 1048577 := by rw [pcB_len]; have := count_le_size 59 s; omega
  have HI : Hid (Calls Tryd.prog 52 #[.string s, .int .u8 59] w fun e w' => ∃ v, e = .returned v ∧ Txs w' w.heap.size v (pcB 59 s) ∧ Nw w w') := ssplit s 59 w hs
  unfold DeclsSays
  generalize pcB 59 s = ps at *
  go_enter Tryd.func25, Tryd.ntmps25
  go_wp2_with fail
  refine Calls.mono HI.out ?_
  rintro e w1 ⟨v, rfl, hv, k1⟩
  clear HI
  obtain ⟨pa, pc, rfl, hst⟩ := hv.strs
  have HST : Hid (Strs w1 pa ps) := hst
  have HN1 : Hid (Nw w w1) := k1
  clear hv hst k1
  go_wp2
  go_loopw [3, 11] (fun v i wr => ∃ (k : Nat) (els : List (El DD)), k ≤ ps.length ∧ i = .int .i64 k ∧ RowO 50 3 EDecl wr w1.heap.size v els ∧ els.map El.x = dcs (ps.take k) ∧ Nw w1 wr) (fun _ i _ => ps.length - (intOf i).toNat)
  case atStart => exact ⟨0, [], Nat.zero_le _, rfl, RowO.nil _ _ _ _ _, rfl, Below.refl _ _⟩
  case round =>
    obtain ⟨k, els, hk, rfl, hro, hmx, hw⟩ := hrel
    have hel : els.length = (dcs (ps.take k)).length := by have := congrArg List.length hmx; simpa using this
    have h12 := dcs_le (ps.take k)
    obtain ⟨va, vc, hv⟩ := hro.slice
    subst hv
    have HR : Hid (RowO 50 3 EDecl wr w1.heap.size (.slice va els.length vc) els) := hro
    have HM : Hid (els.map El.x = dcs (ps.take k)) := hmx
    have HW : Hid (Nw w1 wr) := hw
    have HEL : Hid (els.length = (dcs (ps.take k)).length) := hel
    have hel12 : els.length ≤ 12 := by omega
    clear hro hmx hel h12
    by_cases hlt : k < ps.length
    · rcases (HST.out.nw hw) with h | ⟨b, o, rfl, hb, hc⟩
      · rw [h] at hlt; simp at hlt
      have q0 := hc k hlt
      have hz := HSZ.out k
      have HTK : Hid (ps.take (k + 1) = ps.take k ++ [strAt ps k]) := take_at hlt
      clear hw hc
      generalize strAt ps k = x at *
      have hkI : (k : Int) < (ps.length : Int) := by omega
      go_wp2_with fail
      refine Calls.mono (sdecl x _ hz) ?_
      rintro e w2 ⟨⟨d, hp, rfl⟩ | ⟨hp, tx, ty, tb, rfl⟩, k2⟩
      · by_cases h5 : els.length = 12
        · have HX : Hid (dcs (ps.take (k + 1)) = dcs (ps.take k)) := by show _ = _; rw [HTK.out]; exact dcs_full (by rw [← HEL.out]; exact h5)
          have HR2 : ∀ o, Hid (RowO 50 3 EDecl (w2.alloc o) w1.heap.size (.slice va els.length vc) els) := fun o => (HR.out.nw EDecl.kept k2).nw EDecl.kept ((Below.refl _ _).alloc (Nat.le_refl _) _)
          have HN2 : ∀ o, Hid (Nw w1 (w2.alloc o)) := fun o => Nw.trans (Nw.trans HW.out k2) ((Below.refl _ _).alloc (Nat.le_refl _) _)
          have g12 : ¬ ((els.length : Int) < 12) := by omega
          clear k2 q0 hp h5
          go_wp2
          go_roundw
          case rel => exact ⟨k + 1, els, by omega, by go_num, (HR2 _).out, by rw [HX.out]; exact HM.out, (HN2 _).out⟩
          case measure => simp [intOf]; omega
        · have HX : Hid (dcs (ps.take (k + 1)) = dcs (ps.take k) ++ [d]) := by show _ = _; rw [HTK.out]; exact dcs_more hp (by rw [← HEL.out]; omega)
          have HK2 : Hid (Nw wr w2) := k2
          have g12 : (els.length : Int) < 12 := by omega
          have HL12 : Hid (els.length ≤ 10000000) := by show _ ≤ _; omega
          clear k2 q0 hp h5
          obtain ⟨dn, dv, di⟩ := d
          simp only
          have HNA : ∀ o1 o2, Hid (Nw wr ((w2.alloc o1).alloc o2)) := fun o1 o2 => Nw.trans HK2.out (((Below.refl _ _).alloc (Nat.le_refl _) _).alloc (by simp) _)
          have HEP : ∀ o1 o2, Hid (EDecl ((w2.alloc o1).alloc o2) [.string dn, .string dv, .bool di] ⟨dn, dv, di⟩ (iv wr ((w2.alloc o1).alloc o2))) := fun o1 o2 => rfl
          go_wp2_with (at_builtin; (refine wp_rw EDecl.kept Tryd.underlying22 Tryd.info50 rfl (by decide) (by decide) wr _ rfl _ _ rfl w1.heap.size _ els rfl HR.out (HNA _ _).out (Below.size HW.out) _ rfl ⟨dn, dv, di⟩ [.string dn, .string dv, .bool di] ?c1 rfl ?c2 (HEP _ _).out HL12.out ?_))
          case c1 =>
            intro j y hj
            rcases (show j = 0 ∨ j = 1 ∨ j = 2 ∨ 3 ≤ j by omega) with rfl | rfl | rfl | h
            · simp at hj; subst hj; simp
            · simp at hj; subst hj; simp
            · simp at hj; subst hj; simp
            · rw [List.getElem?_eq_none (by simpa using h)] at hj; cases hj
          case c2 =>
            intro y hy
            simp only [List.mem_cons, List.not_mem_nil, or_false] at hy
            rcases hy with rfl | rfl | rfl <;> rfl
          intro v' w' h1 h2
          have HN : Hid (Nw w1 w') := Below.trans (HW.out.trans (HNA _ _).out) (Ext.below h2 (fun g e => (HR.out.lt g e).1) (Nat.le_trans (Below.size HW.out) (Below.size (HNA _ _).out)))
          have H1 : Hid _ := h1
          clear h1 h2
          go_wp2
          go_roundw
          case rel => exact ⟨k + 1, _, by omega, by go_num, H1.out, by rw [HX.out, List.map_append, HM.out]; rfl, HN.out⟩
          case measure => simp [intOf]; omega
      · have HX : Hid (dcs (ps.take (k + 1)) = dcs (ps.take k)) := by show _ = _; rw [HTK.out]; exact dcs_none hp
        have HR2 : ∀ o, Hid (RowO 50 3 EDecl (w2.alloc o) w1.heap.size (.slice va els.length vc) els) := fun o => (HR.out.nw EDecl.kept k2).nw EDecl.kept ((Below.refl _ _).alloc (Nat.le_refl _) _)
        have HN2 : ∀ o, Hid (Nw w1 (w2.alloc o)) := fun o => Nw.trans (Nw.trans HW.out k2) ((Below.refl _ _).alloc (Nat.le_refl _) _)
        clear k2 q0 hp
        go_wp2
        go_roundw
        case rel => exact ⟨k + 1, els, by omega, by go_num, (HR2 _).out, by rw [HX.out]; exact HM.out, (HN2 _).out⟩
        case measure => simp [intOf]; omega
    · have hk2 : k = ps.length := by omega
      have HE : Hid (els.map El.x = dcs ps) := by show _ = _; rw [HM.out, hk2, List.take_length]
      have hkn : ¬ ((k : Int) < (ps.length : Int)) := by omega
      clear hk2 hw
      go_wp2
      go_ret
      refine ⟨⟨_, rfl, ?_⟩, Nw.trans HN1.out HW.out⟩
      rw [← HE.out]
      exact RowO.row HR.out (fun b h1 h2 => ⟨Nat.le_trans (Below.size HN1.out) h1, h2⟩)
end Go.Proofs.YtnkmdmmlpidcmaaDoor
