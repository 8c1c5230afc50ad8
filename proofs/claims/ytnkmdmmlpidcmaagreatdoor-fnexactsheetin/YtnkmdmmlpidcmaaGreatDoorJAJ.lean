/-
  A selector read by the specification; each theorem names its conditions.
  How much a selector holds; each theorem names its conditions.
-/
import Derived.Test.YtnkmdmmlpidcmaaGreatDoorJAG
import Derived.Test.YtnkmdmmlpidcmaaGreatDoorJAI
import Derived.Test.YtnkmdmmlpidcmaaGreatDoorJAD
namespace Go.Proofs.YtnkmdmmlpidcmaaGreatDoor
open Go.ChangeShapes Go.WideShapes Go.ChangeAt Go.RowKit
set_option linter.unusedVariables false

/-- Parts that have been read. -/
def OutS (w wr : World) (v : Value) (ws : List ByteArray) : Prop := ∃ els : List (El PD), RowO 67 3 EPart wr w.heap.size v els ∧ els.map El.x = ws.map prD ∧ ws.all okW = true ∧ els.length ≤ 5
theorem OutS.len {ws : List ByteArray} {els : List (El PD)} (h : els.map El.x = ws.map prD) : els.length = ws.length := by
  have := congrArg List.length h
  simpa using this
set_option maxHeartbeats 16000000 in
theorem sselector (w : World) (s : ByteArray) (hs : s.size ≤ 1048576) :
    Calls Tryz.prog 82 #[.string s] w fun e w' => SelSays s w w' e ∧ Nw w w' := by
  go_enter Tryz.func82, Tryz.ntmps82
  go_wp2
  go_loopw [4, 5, 6] (fun v x i wr => Nw w wr ∧ ((∃ pos st acc, i = .int .i64 (pos : Nat) ∧ x = .string (opnT s st pos) ∧ WdSt s pos st acc ∧ OutS w wr v (cutT s acc)) ∨ (i = .int .i64 ((s.size + 1 : Nat) : Int) ∧ OutS w wr v (wordsOf s)))) (fun _ _ i _ => s.size + 2 - (intOf i).toNat)
  case atStart => exact ⟨Below.refl _ _, Or.inl ⟨0, none, [], rfl, rfl, WdSt.start s, [], RowO.nil _ _ _ _ _, rfl, rfl, Nat.zero_le _⟩⟩
  case round =>
    obtain ⟨hw, ⟨pos, st, acc, rfl, rfl, hst, hv⟩ | ⟨rfl, hv⟩⟩ := hrel
    · have HW : Hid (Nw w wr) := hw
      have HV : Hid (OutS w wr _ (cutT s acc)) := hv
      obtain ⟨els, hro, hmx, hall, hle⟩ := hv
      have HCL : Hid ((cutT s acc).length = els.length) := (OutS.len hmx).symm
      obtain ⟨va, vc, hvv⟩ := hro.slice
      subst hvv
      have HR : Hid (RowO 67 3 EPart wr w.heap.size (.slice va els.length vc) els) := hro
      have HM : Hid (els.map El.x = (cutT s acc).map prD) := hmx
      have HA : Hid ((cutT s acc).all okW = true) := hall
      have HLE : Hid (els.length ≤ 5) := hle
      have hpos := hst.le
      clear hw hro hmx hall hle
      by_cases hlt : pos < s.size
      · have hby := byN_of s pos hlt
        have h255 : s[pos].toNat ≤ 255 := by have := UInt8.toNat_lt s[pos]; omega
        cases hb : blankN (byN s pos)
        · have hb' : blankN s[pos].toNat = false := by rw [← hby]; exact hb
          cases st with
          | none =>
            have HS : Hid (WdSt s (pos + 1) (some pos) acc) := hst.word_none hlt hb
            have HE : Hid ((⟨#[]⟩ : ByteArray) ++ s.extract pos (pos + 1) = s.extract pos (pos + 1)) := by show _ = _; exact ByteArray.empty_append
            have he0 : opnT s none pos = ⟨#[]⟩ := rfl
            rw [he0]
            clear hst hb hby
            have hsz : (s.extract pos (pos + 1)).size ≤ 1048576 := by rw [ByteArray.size_extract]; omega
            go_wp2_with (go_at_call 106; refine (sblank _ _ h255).mono ?_; rw [hb']; rintro e w' ⟨rfl, hq⟩; have hq2 := hq.symm; clear hq; subst hq2)
            go_roundw
            case rel => exact ⟨HW.out, Or.inl ⟨pos + 1, some pos, acc, by go_num, by first | rfl | (rw [HE.out]; rfl), HS.out, HV.out⟩⟩
            case measure => simp [intOf]; try omega
          | some a =>
            have ha := hst.open_ a rfl
            have HS : Hid (WdSt s (pos + 1) (some a) acc) := hst.word_some hlt hb
            have HE : Hid (s.extract a pos ++ s.extract pos (pos + 1) = s.extract a (pos + 1)) := by show _ = _; exact (ByteArray.extract_eq_extract_append_extract pos (by omega) (by omega)).symm
            have he0 : opnT s (some a) pos = s.extract a pos := rfl
            rw [he0]
            clear hst hb hby
            have hsz : (s.extract pos (pos + 1)).size ≤ 1048576 := by rw [ByteArray.size_extract]; omega
            have hsz2 : (s.extract a pos).size ≤ 1048576 := by rw [ByteArray.size_extract]; omega
            generalize hX : s.extract a pos = X at *
            go_wp2_with (go_at_call 106; refine (sblank _ _ h255).mono ?_; rw [hb']; rintro e w' ⟨rfl, hq⟩; have hq2 := hq.symm; clear hq; subst hq2)
            go_roundw
            case rel => exact ⟨HW.out, Or.inl ⟨pos + 1, some a, acc, by go_num, by rw [HE.out]; rfl, HS.out, HV.out⟩⟩
            case measure => simp [intOf]; try omega
        · have hb' : blankN s[pos].toNat = true := by rw [← hby]; exact hb
          cases st with
          | none =>
            have HS : Hid (WdSt s (pos + 1) none acc) := hst.blank_none hlt hb
            have he0 : opnT s none pos = ⟨#[]⟩ := rfl
            rw [he0]
            clear hst hb hby
            go_wp2_with (go_at_call 106; refine (sblank _ _ h255).mono ?_; rw [hb']; rintro e w' ⟨rfl, hq⟩; have hq2 := hq.symm; clear hq; subst hq2)
            go_roundw
            case rel => exact ⟨HW.out, Or.inl ⟨pos + 1, none, acc, by go_num, rfl, HS.out, HV.out⟩⟩
            case measure => simp [intOf]; try omega
          | some a =>
            have ha := hst.open_ a rfl
            have HS : Hid (WdSt s (pos + 1) none (acc ++ [(a, pos)])) := hst.blank_some hlt hb
            have HPRE : Hid (cutT s acc ++ [s.extract a pos] <+: wordsOf s) := by show _ <+: _; rw [← cutT_snoc]; exact HS.out.pre
            have he0 : opnT s (some a) pos = s.extract a pos := rfl
            rw [he0]
            have hsz2 : 0 < (s.extract a pos).size := by rw [ByteArray.size_extract]; omega
            have hsz : (s.extract a pos).size ≤ 1048576 := by rw [ByteArray.size_extract]; omega
            have n1 := ne_nil hsz2
            have n2 := ne_emp hsz2
            have HC : Hid (cutT s (acc ++ [(a, pos)]) = cutT s acc ++ [s.extract a pos]) := cutT_snoc s acc a pos
            clear hst hb hby hsz2 HV
            generalize s.extract a pos = X at *
            go_wp2_with (go_at_call 106; refine (sblank _ _ h255).mono ?_; rw [hb']; rintro e w' ⟨rfl, hq⟩; have hq2 := hq.symm; clear hq; subst hq2)
            skip
            refine Calls.mono (spart _ X hsz) ?_
            rintro e w2 ⟨⟨p, u, hp, rfl, hu⟩ | ⟨hp, tx, ty, ta, tn, tc, rfl⟩, k2⟩
            · obtain ⟨hd, hok⟩ := prD_of hp
              by_cases h5 : els.length = 5
              · have HX : Hid (selOkW (wordsOf s) = false) := selOkW_many (by have := HPRE.out.length_le; rw [List.length_append, HCL.out, h5] at this; simp at this; omega)
                have HN2 : Hid (Nw w w2) := Nw.trans HW.out k2
                obtain ⟨ua, uc, rfl, _⟩ := hu.slice
                have g5 : ((els.length : Int) == 5) = true := by rw [h5]; rfl
                clear hu k2 hp hd hok h5
                go_wp2
                go_ret2
                refine ⟨⟨.slice none 0 0, by rw [selOk, HX.out]; rfl, by rw [selL, selLW_no HX.out]; exact RowM.nil _ _ _ _⟩, ?_⟩
                exact HN2.out.alloc (Below.size HN2.out) _
              · obtain ⟨ua, uc, rfl, _⟩ := hu.slice
                have HU : Hid (RowM 1 EStr w2 (.slice ua p.cls.length uc) p.cls (iv wr w2)) := hu
                have HK2 : Hid (Nw wr w2) := k2
                have HD : Hid (prD X = p) := hd
                have HOK : Hid (okW X = true) := hok
                have g5 : ((els.length : Int) == 5) = false := by simp; omega
                have HL6 : Hid (els.length + 1 ≤ 5) := by show _ ≤ _; have := HLE.out; omega
                clear hu k2 hp hd hok h5
                have HNA : ∀ o1 o2, Hid (Nw wr ((w2.alloc o1).alloc o2)) := fun o1 o2 => Nw.trans HK2.out (((Below.refl _ _).alloc (Nat.le_refl _) _).alloc (by simp) _)
                have HEP : ∀ o1 o2, Hid (EPart ((w2.alloc o1).alloc o2) [.string p.ty, .string p.id, .slice ua p.cls.length uc] p (iv wr ((w2.alloc o1).alloc o2))) := fun o1 o2 => ⟨_, rfl, (HU.out.nw EStr.kept (((Below.refl _ _).alloc (Nat.le_refl _) _).alloc (by simp) _)).mono (iv_mono (by simp; omega))⟩
                go_wp2_with (at_builtin; (refine wp_rw EPart.kept Tryz.underlying34 Tryz.info67 rfl (by decide) (by decide) wr _ rfl _ _ rfl w.heap.size _ els rfl HR.out (HNA _ _).out (Below.size HW.out) _ rfl p [.string p.ty, .string p.id, .slice ua p.cls.length uc] ?c1 rfl ?c2 (HEP _ _).out (by have := HL6.out; omega) ?_))
                case c1 =>
                  intro j y hj
                  rcases (show j = 0 ∨ j = 1 ∨ j = 2 ∨ 3 ≤ j by omega) with rfl | rfl | rfl | h
                  · simp at hj; subst hj; simp
                  · simp at hj; subst hj; simp
                  · simp at hj; subst hj; simp
                  · rw [List.getElem?_eq_none (by simpa using h)] at hj; cases hj
                case c2 =>
                  intro y hy
                  simp only [List.mem_cons, List.not_mem_nil, or_false] at hy
                  rcases hy with rfl | rfl | rfl <;> rfl
                intro v' w' h1 h2
                have HN : Hid (Nw w w') := Below.trans (HW.out.trans (HNA _ _).out) (Ext.below h2 (fun g e => (HR.out.lt g e).1) (Nat.le_trans (Below.size HW.out) (Below.size (HNA _ _).out)))
                have H1 : Hid _ := h1
                have HMX : Hid (∀ e : El PD, e.x = p → (els ++ [e]).map El.x = (cutT s acc ++ [X]).map prD) := by
                  intro e he
                  rw [List.map_append, List.map_append, HM.out]
                  show _ ++ [e.x] = _ ++ [prD X]
                  rw [HD.out, he]
                have HAX : Hid ((cutT s acc ++ [X]).all okW = true) := by show _ = _; rw [List.all_append, HA.out]; simp [HOK.out]
                clear h1 h2
                go_wp2
                go_roundw
                case rel => exact ⟨HN.out, Or.inl ⟨pos + 1, none, _, by go_num, rfl, HS.out, _, H1.out, by rw [HC.out]; exact HMX.out _ rfl, by rw [HC.out]; exact HAX.out, by rw [List.length_append]; exact HL6.out⟩⟩
                case measure => simp [intOf]; try omega
            · have HX : Hid (selOkW (wordsOf s) = false) := selOkW_bad (HPRE.out.subset (List.mem_append_right _ (List.mem_singleton.2 rfl))) (okW_no hp)
              have HN2 : Hid (Nw w w2) := Nw.trans HW.out k2
              clear k2 hp
              go_wp2
              go_ret2
              refine ⟨⟨.slice none 0 0, by rw [selOk, HX.out]; rfl, by rw [selL, selLW_no HX.out]; exact RowM.nil _ _ _ _⟩, ?_⟩
              exact HN2.out.alloc (Below.size HN2.out) _
      · have e : pos = s.size := by omega
        cases st with
        | none =>
          have HE : Hid (wordsOf s = cutT s acc) := hst.end_none hlt
          have he0 : opnT s none pos = ⟨#[]⟩ := rfl
          rw [he0]
          subst e
          clear hst
          go_wp2
          go_roundw
          case rel => exact ⟨HW.out, Or.inr ⟨by go_num, by rw [HE.out]; exact HV.out⟩⟩
          case measure => simp [intOf]; try omega
        | some a =>
          have ha := hst.open_ a rfl
          have HE : Hid (wordsOf s = cutT s acc ++ [s.extract a pos]) := hst.end_some hlt
          have HPRE : Hid (cutT s acc ++ [s.extract a pos] <+: wordsOf s) := by show _ <+: _; rw [HE.out]; exact List.prefix_refl _
          have he0 : opnT s (some a) pos = s.extract a pos := rfl
          rw [he0]
          have hsz2 : 0 < (s.extract a pos).size := by rw [ByteArray.size_extract]; omega
          have hsz : (s.extract a pos).size ≤ 1048576 := by rw [ByteArray.size_extract]; omega
          have n1 := ne_nil hsz2
          have n2 := ne_emp hsz2
          clear hst hsz2 HV
          generalize s.extract a pos = X at *
          subst e
          go_wp2_with fail
          skip
          refine Calls.mono (spart _ X hsz) ?_
          rintro e w2 ⟨⟨p, u, hp, rfl, hu⟩ | ⟨hp, tx, ty, ta, tn, tc, rfl⟩, k2⟩
          · obtain ⟨hd, hok⟩ := prD_of hp
            by_cases h5 : els.length = 5
            · have HX : Hid (selOkW (wordsOf s) = false) := selOkW_many (by have := HPRE.out.length_le; rw [List.length_append, HCL.out, h5] at this; simp at this; omega)
              have HN2 : Hid (Nw w w2) := Nw.trans HW.out k2
              obtain ⟨ua, uc, rfl, _⟩ := hu.slice
              have g5 : ((els.length : Int) == 5) = true := by rw [h5]; rfl
              clear hu k2 hp hd hok h5
              go_wp2
              go_ret2
              refine ⟨⟨.slice none 0 0, by rw [selOk, HX.out]; rfl, by rw [selL, selLW_no HX.out]; exact RowM.nil _ _ _ _⟩, ?_⟩
              exact HN2.out.alloc (Below.size HN2.out) _
            · obtain ⟨ua, uc, rfl, _⟩ := hu.slice
              have HU : Hid (RowM 1 EStr w2 (.slice ua p.cls.length uc) p.cls (iv wr w2)) := hu
              have HK2 : Hid (Nw wr w2) := k2
              have HD : Hid (prD X = p) := hd
              have HOK : Hid (okW X = true) := hok
              have g5 : ((els.length : Int) == 5) = false := by simp; omega
              have HL6 : Hid (els.length + 1 ≤ 5) := by show _ ≤ _; have := HLE.out; omega
              clear hu k2 hp hd hok h5
              have HNA : ∀ o1 o2, Hid (Nw wr ((w2.alloc o1).alloc o2)) := fun o1 o2 => Nw.trans HK2.out (((Below.refl _ _).alloc (Nat.le_refl _) _).alloc (by simp) _)
              have HEP : ∀ o1 o2, Hid (EPart ((w2.alloc o1).alloc o2) [.string p.ty, .string p.id, .slice ua p.cls.length uc] p (iv wr ((w2.alloc o1).alloc o2))) := fun o1 o2 => ⟨_, rfl, (HU.out.nw EStr.kept (((Below.refl _ _).alloc (Nat.le_refl _) _).alloc (by simp) _)).mono (iv_mono (by simp; omega))⟩
              go_wp2_with (at_builtin; (refine wp_rw EPart.kept Tryz.underlying34 Tryz.info67 rfl (by decide) (by decide) wr _ rfl _ _ rfl w.heap.size _ els rfl HR.out (HNA _ _).out (Below.size HW.out) _ rfl p [.string p.ty, .string p.id, .slice ua p.cls.length uc] ?c1 rfl ?c2 (HEP _ _).out (by have := HL6.out; omega) ?_))
              case c1 =>
                intro j y hj
                rcases (show j = 0 ∨ j = 1 ∨ j = 2 ∨ 3 ≤ j by omega) with rfl | rfl | rfl | h
                · simp at hj; subst hj; simp
                · simp at hj; subst hj; simp
                · simp at hj; subst hj; simp
                · rw [List.getElem?_eq_none (by simpa using h)] at hj; cases hj
              case c2 =>
                intro y hy
                simp only [List.mem_cons, List.not_mem_nil, or_false] at hy
                rcases hy with rfl | rfl | rfl <;> rfl
              intro v' w' h1 h2
              have HN : Hid (Nw w w') := Below.trans (HW.out.trans (HNA _ _).out) (Ext.below h2 (fun g e => (HR.out.lt g e).1) (Nat.le_trans (Below.size HW.out) (Below.size (HNA _ _).out)))
              have H1 : Hid _ := h1
              have HMX : Hid (∀ e : El PD, e.x = p → (els ++ [e]).map El.x = (cutT s acc ++ [X]).map prD) := by
                intro e he
                rw [List.map_append, List.map_append, HM.out]
                show _ ++ [e.x] = _ ++ [prD X]
                rw [HD.out, he]
              have HAX : Hid ((cutT s acc ++ [X]).all okW = true) := by show _ = _; rw [List.all_append, HA.out]; simp [HOK.out]
              clear h1 h2
              go_wp2
              go_roundw
              case rel => exact ⟨HN.out, Or.inr ⟨by go_num, _, H1.out, by rw [HE.out]; exact HMX.out _ rfl, by rw [HE.out]; exact HAX.out, by rw [List.length_append]; exact HL6.out⟩⟩
              case measure => simp [intOf]; try omega
          · have HX : Hid (selOkW (wordsOf s) = false) := selOkW_bad (HPRE.out.subset (List.mem_append_right _ (List.mem_singleton.2 rfl))) (okW_no hp)
            have HN2 : Hid (Nw w w2) := Nw.trans HW.out k2
            clear k2 hp
            go_wp2
            go_ret2
            refine ⟨⟨.slice none 0 0, by rw [selOk, HX.out]; rfl, by rw [selL, selLW_no HX.out]; exact RowM.nil _ _ _ _⟩, ?_⟩
            exact HN2.out.alloc (Below.size HN2.out) _
    · have HW : Hid (Nw w wr) := hw
      obtain ⟨els, hro, hmx, hall, hle⟩ := hv
      have hcl := OutS.len hmx
      obtain ⟨va, vc, hvv⟩ := hro.slice
      subst hvv
      have HR : Hid (RowO 67 3 EPart wr w.heap.size (.slice va els.length vc) els) := hro
      obtain ⟨e1, e2⟩ := selW_end (by omega) hall
      have HE1 : Hid (selOkW (wordsOf s) = decide (0 < els.length)) := by show _ = _; rw [e1, hcl]
      have HE2 : Hid (els.map El.x = selLW (wordsOf s)) := by show _ = _; rw [e2, hmx]
      clear hw hro hmx hall hle e1 e2 hcl
      have hgt : ¬ (((s.size + 1 : Nat) : Int) ≤ (s.size : Int)) := by omega
      generalize hn : els.length = n at *
      have HNN : Hid (els.length = n) := hn
      clear hn
      go_wp2
      go_ret2
      refine ⟨⟨_, by rw [selOk, HE1.out]; first | rfl | simp, ?_⟩, HW.out⟩
      rw [selL, ← HE2.out]
      exact RowO.row HR.out (fun b h1 h2 => ⟨h1, h2⟩)
end Go.Proofs.YtnkmdmmlpidcmaaGreatDoor
namespace Go.Proofs.YtnkmdmmlpidcmaaGreatDoor
open Go.ChangeShapes Go.WideShapes Go.ChangeAt Go.RowKit
set_option linter.unusedVariables false

theorem prD_small {s : ByteArray} (h : okW s = true) : (prD s).cls.length ≤ 4 := by
  unfold okW at h
  unfold prD prP at *
  cases e : prs s.data.toList with
  | none => rw [e] at h; cases h
  | some p =>
    rw [Option.map_some, Option.getD_some]
    unfold ofL
    simp only [List.length_map]
    exact (prs_sound e).1.few
theorem selL_small (s : ByteArray) : (selL s).length ≤ 5 ∧ ∀ p, p ∈ selL s → p.cls.length ≤ 4 := by
  unfold selL
  cases h : selOkW (wordsOf s) with
  | false => rw [selLW_no h]; exact ⟨Nat.zero_le _, (fun p hp => by cases hp)⟩
  | true =>
    rw [selLW_yes h]
    unfold selOkW at h
    rw [Bool.and_eq_true, decide_eq_true_eq] at h
    refine ⟨by rw [List.length_map]; exact h.1.2, fun p hp => ?_⟩
    obtain ⟨x, hx, rfl⟩ := List.mem_map.1 hp
    exact prD_small (List.all_eq_true.1 h.2 x hx)
theorem cntPs_bd (l : List PD) (h : ∀ p, p ∈ l → p.cls.length ≤ 4) : cntPs l ≤ 6 * l.length := by
  unfold cntPs
  induction l with
  | nil => simp
  | cons p l ih =>
    have h1 := h p List.mem_cons_self
    have h2 := ih (fun q hq => h q (List.mem_cons_of_mem _ hq))
    rw [List.map_cons, List.sum_cons, List.length_cons]
    show 2 + p.cls.length + _ ≤ _
    omega
theorem lenPs_of {l : List PD} (h : ∀ p, p ∈ l → p.cls.length ≤ 4) : lenPs l := by
  intro i hi
  have := h (partAt l i) (by simp [partAt, hi])
  omega
end Go.Proofs.YtnkmdmmlpidcmaaGreatDoor
