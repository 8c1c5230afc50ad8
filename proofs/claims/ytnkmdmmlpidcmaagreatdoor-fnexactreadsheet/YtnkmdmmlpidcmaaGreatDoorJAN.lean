/-
  The words of a text, as the program tells them: strings.FieldsFunc at the blanks; each theorem names its conditions.
  A selector read by the program; each theorem names its conditions.
  Selectors and rules read by the program; each theorem names its conditions.
  Rules read by the program; each theorem names its conditions.
-/
import Derived.Test.YtnkmdmmlpidcmaaGreatDoorJAM
import Derived.Test.YtnkmdmmlpidcmaaGreatDoorJAC
import Derived.Test.YtnkmdmmlpidcmaaGreatDoorJAI
namespace Go.Proofs.YtnkmdmmlpidcmaaGreatDoor
open Go.ChangeShapes Go.WideShapes Go.ChangeAt Go.RowKit Go.Shelf
set_option linter.unusedVariables false

theorem blank_pays (w : World) : PredGrows Tryz.prog 40 #[] blankN w := by
  intro W x hx hb
  exact blankRune W x hx
theorem iwords (w : World) (s : ByteArray) (hs : s.size ≤ 1048576) :
    Calls Tryz.prog 39 #[.string s, .func (.func 40) #[] #[]] w fun e w' => ∃ v, e = .returned v ∧ Txs w' w.heap.size v (wordsOf s) ∧ Nw w w' := by
  refine (Tryz.strings_FieldsFunc_grows 40 #[] (enters_of Tryz.func40 (by kernel_rfl) rfl) blankN s w (by omega) (blank_pays w)).mono ?_
  rintro e w' ⟨g, rfl, hg, hown, hb⟩
  rw [fields_words] at hown
  refine ⟨_, rfl, ?_, hb⟩
  rw [fields_words]
  exact hown
end Go.Proofs.YtnkmdmmlpidcmaaGreatDoor
namespace Go.Proofs.YtnkmdmmlpidcmaaGreatDoor
open Go.ChangeShapes Go.WideShapes Go.ChangeAt Go.RowKit
set_option linter.unusedVariables false

theorem els_len {α : Type} {els : List (El α)} {xs : List α} (h : els.map El.x = xs) : els.length = xs.length := by rw [← h, List.length_map]
theorem all_take {ws : List ByteArray} {k : Nat} (h : (ws.take k).all okW = true) (hk : k < ws.length) (hx : okW (strAt ws k) = true) : (ws.take (k + 1)).all okW = true := by
  rw [List.take_succ_eq_append_getElem hk, List.all_append, h]
  have e : strAt ws k = ws[k] := by simp [strAt, hk]
  rw [e] at hx
  simp [hx]
theorem map_take {ws : List ByteArray} {k : Nat} (hk : k < ws.length) : (ws.take (k + 1)).map prD = (ws.take k).map prD ++ [prD (strAt ws k)] := by
  rw [List.take_succ_eq_append_getElem hk, List.map_append]
  simp [strAt, hk]
theorem str_mem {ws : List ByteArray} {k : Nat} (hk : k < ws.length) : strAt ws k ∈ ws := by
  have e : strAt ws k = ws[k] := by simp [strAt, hk]
  rw [e]
  exact List.getElem_mem _
set_option maxHeartbeats 8000000 in
theorem ireadSel (w : World) (s : ByteArray) (hs : s.size ≤ 1048576) :
    Calls Tryz.prog 14 #[.string s] w fun e w' => SelSays s w w' e ∧ Nw w w' := by
  have HSZ : Hid (∀ i, (strAt (wordsOf s) i).size ≤ 1048576) := fun i => Nat.le_trans (wordsOf_size s i) hs
  have HWL : Hid ((wordsOf s).length ≤ 1048577) := Nat.le_trans (wordsOf_len s) (by omega)
  have hso : selOk s = selOkW (wordsOf s) := rfl
  have hsl : selL s = selLW (wordsOf s) := rfl
  unfold SelSays
  rw [hso, hsl]
  clear hso hsl
  have HI : Hid (Calls Tryz.prog 39 #[.string s, .func (.func 40) #[] #[]] w fun e w' => ∃ v, e = .returned v ∧ Txs w' w.heap.size v (wordsOf s) ∧ Nw w w') := iwords w s hs
  generalize wordsOf s = ws at *
  have hwl : ws.length ≤ 1048577 := HWL.out
  go_enter Tryz.func14, Tryz.ntmps14
  go_wp2_with fail
  refine Calls.mono HI.out ?_
  rintro e w1 ⟨v, rfl, hv, k1⟩
  clear HI
  obtain ⟨a, c, rfl, hst⟩ := hv.strs
  have HST : Hid (Strs w1 a ws) := hst
  have HN1 : Hid (Nw w w1) := k1
  clear hv hst k1
  go_wp2
  go_loopw [4, 12] (fun v i wr => ∃ (k : Nat) (els : List (El PD)), k ≤ ws.length ∧ k ≤ 5 ∧ i = .int .i64 k ∧ RowO 67 3 EPart wr w1.heap.size v els ∧ els.map El.x = (ws.take k).map prD ∧ (ws.take k).all okW = true ∧ Nw w1 wr) (fun _ i _ => ws.length - (intOf i).toNat)
  case atStart => exact ⟨0, [], Nat.zero_le _, by omega, rfl, RowO.nil _ _ _ _ _, rfl, rfl, Below.refl _ _⟩
  case round =>
    obtain ⟨k, els, hk, hk5, rfl, hro, hmx, hall, hw⟩ := hrel
    have hel : els.length = k := by rw [els_len hmx, List.length_map, List.length_take]; omega
    obtain ⟨va, vc, hv⟩ := hro.slice
    subst hv
    have HEL : Hid (els.length = k) := hel
    rw [hel] at hro ⊢
    have HR : Hid (RowO 67 3 EPart wr w1.heap.size (.slice va k vc) els) := hro
    have HM : Hid (els.map El.x = (ws.take k).map prD) := hmx
    have HA : Hid ((ws.take k).all okW = true) := hall
    have HW : Hid (Nw w1 wr) := hw
    clear hro hmx hall hel
    by_cases hlt : k < ws.length
    · rcases (HST.out.nw hw) with h | ⟨b, o, rfl, hb, hc⟩
      · rw [h] at hlt; simp at hlt
      have q0 := hc k hlt
      have hz := HSZ.out k
      have HMT : Hid ((ws.take (k + 1)).map prD = (ws.take k).map prD ++ [prD (strAt ws k)]) := map_take hlt
      have HAT : Hid (okW (strAt ws k) = true → (ws.take (k + 1)).all okW = true) := fun h => all_take HA.out hlt h
      have HBD : Hid (okW (strAt ws k) = false → selOkW ws = false) := fun h => selOkW_bad (str_mem hlt) h
      clear hc hw
      generalize strAt ws k = x at *
      go_wp2_with fail
      refine Calls.mono (ipartOf _ x hz) ?_
      rintro e w2 ⟨⟨p, u, hp, rfl, hu⟩ | ⟨hp, tx, ty, ta, tn, tc, rfl⟩, k2⟩
      · obtain ⟨hd, hok⟩ := prD_of hp
        by_cases h5 : k = 5
        · have HX : Hid (selOkW ws = false) := selOkW_many (by omega)
          have HN2 : Hid (Nw w w2) := Nw.trans HN1.out (Nw.trans HW.out k2)
          obtain ⟨ua, uc, rfl, _⟩ := hu.slice
          subst h5
          clear hu k2 q0 hp hd hok
          go_wp2
          go_ret2
          refine ⟨⟨.slice none 0 0, by rw [HX.out]; rfl, by rw [selLW_no HX.out]; exact RowM.nil _ _ _ _⟩, ?_⟩
          exact HN2.out.alloc (Below.size HN2.out) _
        · obtain ⟨ua, uc, rfl, _⟩ := hu.slice
          have HU : Hid (RowM 1 EStr w2 (.slice ua p.cls.length uc) p.cls (iv wr w2)) := hu
          have HK2 : Hid (Nw wr w2) := k2
          have HD : Hid (prD x = p) := hd
          have HOK : Hid (okW x = true) := hok
          have h5I : ((k : Int) == 5) = false := by simp; omega
          clear hu k2 q0 hp hd hok
          have HNA : ∀ o1 o2, Hid (Nw wr ((w2.alloc o1).alloc o2)) := fun o1 o2 => Nw.trans HK2.out (((Below.refl _ _).alloc (Nat.le_refl _) _).alloc (by simp) _)
          have HEP : ∀ o1 o2, Hid (EPart ((w2.alloc o1).alloc o2) [.string p.ty, .string p.id, .slice ua p.cls.length uc] p (iv wr ((w2.alloc o1).alloc o2))) := fun o1 o2 => ⟨_, rfl, (HU.out.nw EStr.kept (((Below.refl _ _).alloc (Nat.le_refl _) _).alloc (by simp) _)).mono (iv_mono (by simp; omega))⟩
          go_wp2_with (at_builtin; (refine wp_rw EPart.kept Tryz.underlying34 Tryz.info67 rfl (by decide) (by decide) wr _ rfl _ _ rfl w1.heap.size _ els rfl HR.out (HNA _ _).out (Below.size HW.out) _ rfl p [.string p.ty, .string p.id, .slice ua p.cls.length uc] ?c1 rfl ?c2 (HEP _ _).out (by rw [HEL.out]; omega) ?_))
          case c1 =>
            intro j y hj
            rcases (show j = 0 ∨ j = 1 ∨ j = 2 ∨ 3 ≤ j by omega) with rfl | rfl | rfl | h
            · simp at hj; subst hj; simp
            · simp at hj; subst hj; simp
            · simp at hj; subst hj; simp
            · rw [List.getElem?_eq_none (by simpa using h)] at hj; cases hj
          case c2 =>
            intro y hy
            simp only [List.mem_cons, List.not_mem_nil, or_false] at hy
            rcases hy with rfl | rfl | rfl <;> rfl
          intro v' w' h1 h2
          have HN : Hid (Nw w1 w') := Below.trans (HW.out.trans (HNA _ _).out) (Ext.below h2 (fun g e => (HR.out.lt g e).1) (Nat.le_trans (Below.size HW.out) (Below.size (HNA _ _).out)))
          have H1 : Hid _ := h1
          clear h1 h2
          go_wp2
          go_roundw
          case rel => exact ⟨k + 1, _, by omega, by omega, by go_num, H1.out, by rw [List.map_append, HM.out, HMT.out, HD.out]; rfl, HAT.out HOK.out, HN.out⟩
          case measure => simp [intOf]; omega
      · have HX : Hid (selOkW ws = false) := HBD.out (okW_no hp)
        have HN2 : Hid (Nw w w2) := Nw.trans HN1.out (Nw.trans HW.out k2)
        clear k2 q0 hp
        go_wp2
        go_ret2
        refine ⟨⟨.slice none 0 0, by rw [HX.out]; rfl, by rw [selLW_no HX.out]; exact RowM.nil _ _ _ _⟩, ?_⟩
        exact HN2.out.alloc (Below.size HN2.out) _
    · have hk2 : k = ws.length := by omega
      have hA := HA.out
      have hM := HM.out
      rw [hk2, List.take_length] at hA hM
      obtain ⟨e1, e2⟩ := selW_end (by omega) hA
      have HE1 : Hid (selOkW ws = decide (0 < k)) := by show _ = _; rw [e1, hk2]
      have HE2 : Hid (els.map El.x = selLW ws) := by show _ = _; rw [e2, hM]
      clear e1 e2 hA hM hw hk2
      have hkn : ¬ ((k : Int) < (ws.length : Int)) := by omega
      go_wp2
      go_ret2
      refine ⟨⟨_, by rw [HE1.out]; first | rfl | simp, ?_⟩, Nw.trans HN1.out HW.out⟩
      rw [← HE2.out]
      exact RowO.row HR.out (fun b h1 h2 => ⟨Nat.le_trans (Below.size HN1.out) h1, h2⟩)
end Go.Proofs.YtnkmdmmlpidcmaaGreatDoor
namespace Go.Proofs.YtnkmdmmlpidcmaaGreatDoor
open Go.ChangeShapes Go.WideShapes Go.ChangeAt Go.RowKit
set_option linter.unusedVariables false

def SelsSays (s : ByteArray) (w w' : World) (e : Ending) : Prop := ∃ v, e = .returned (.tuple #[v, .bool (selsOk s)]) ∧ RowM 1 ESel w' v (if selsOk s then selsW s else []) (iv w w')
theorem allSel_take {ps : List ByteArray} {k : Nat} (h : (ps.take k).all selOk = true) (hk : k < ps.length) (hx : selOk (strAt ps k) = true) : (ps.take (k + 1)).all selOk = true := by
  rw [take_at hk, List.all_append, h]
  simp [hx]
set_option maxHeartbeats 8000000 in
theorem iselectors (s : ByteArray) (w : World) (hs : s.size ≤ 1048576) :
    Calls Tryz.prog 68 #[.string s] w fun e w' => SelsSays s w w' e ∧ Nw w w' := by
  have HSZ : Hid (∀ i, (strAt (pcB 44 s) i).size ≤ 1048576) := fun i => pcB_size 44 s hs i
  have hpl : (pcB 44 s).length ≤ 1048577 := by rw [pcB_len]; have := count_le_size 44 s; omega
  have HI : Hid (Calls Tryz.prog 76 #[.string s, .string ⟨#[44]⟩] w fun e w' => e = .returned (.slice (some ⟨w.heap.size, 0, none⟩) (pcB 44 s).length (pcB 44 s).length) ∧ Nw w w' ∧ LayS w' w.heap.size (pcB 44 s) (pcB 44 s).length) := isplit s 44 w hs
  have HSO : Hid (∀ ps, pcB 44 s = ps → selsOk s = ps.all selOk ∧ selsW s = ps.map selL) := fun ps h => by unfold selsOk selsW; rw [h]; exact ⟨rfl, rfl⟩
  obtain ⟨ps, hps⟩ : ∃ ps, pcB 44 s = ps := ⟨_, rfl⟩
  have HSP : Hid (selsOk s = ps.all selOk ∧ selsW s = ps.map selL) := HSO.out ps hps
  rw [hps] at HSZ hpl HI
  clear HSO hps
  go_enter Tryz.func68, Tryz.ntmps68
  go_wp2_with fail
  refine Calls.mono HI.out ?_
  rintro e w1 ⟨rfl, k1, l1⟩
  have HN1 : Hid (Nw w w1) := k1
  have HL1 : Hid (LayS w1 w.heap.size ps ps.length) := l1
  clear HI k1 l1
  go_wp2
  go_loopw [4, 12] (fun v i wr => ∃ (k : Nat) (els : List (El (List PD))), k ≤ ps.length ∧ i = .int .i64 k ∧ RowO 34 1 ESel wr w1.heap.size v els ∧ els.map El.x = (ps.take k).map selL ∧ (ps.take k).all selOk = true ∧ Nw w1 wr) (fun _ i _ => ps.length - (intOf i).toNat)
  case atStart => exact ⟨0, [], Nat.zero_le _, rfl, RowO.nil _ _ _ _ _, rfl, rfl, Below.refl _ _⟩
  case round =>
    obtain ⟨k, els, hk, rfl, hro, hmx, hall, hw⟩ := hrel
    have hel : els.length = k := by have := congrArg List.length hmx; simp at this; omega
    obtain ⟨va, vc, hv⟩ := hro.slice
    subst hv
    have HR : Hid (RowO 34 1 ESel wr w1.heap.size (.slice va els.length vc) els) := hro
    have HM : Hid (els.map El.x = (ps.take k).map selL) := hmx
    have HA : Hid ((ps.take k).all selOk = true) := hall
    have HW : Hid (Nw w1 wr) := hw
    have HEL : Hid (els.length ≤ 10000000) := by show _ ≤ _; omega
    clear hro hmx hall hel
    by_cases hlt : k < ps.length
    · have q0 := (HL1.out.nw hw).2.1 k hlt
      have hgq := (HL1.out.nw hw).1
      have hz := HSZ.out k
      have HTK : Hid ((ps.take (k + 1)).map selL = (ps.take k).map selL ++ [selL (strAt ps k)]) := by show _ = _; rw [take_at hlt, List.map_append]; rfl
      have HAT : Hid (selOk (strAt ps k) = true → (ps.take (k + 1)).all selOk = true) := fun h => allSel_take HA.out hlt h
      have HBD : Hid (selOk (strAt ps k) = false → ps.all selOk = false) := fun h => by
        rw [List.all_eq_false]
        exact ⟨strAt ps k, str_mem hlt, by rw [h]; simp⟩
      clear hw
      generalize strAt ps k = x at *
      have hkI : (k : Int) < (ps.length : Int) := by omega
      go_wp2_with fail
      refine Calls.mono (ireadSel _ x hz) ?_
      rintro e w2 ⟨⟨u, rfl, hu⟩, k2⟩
      obtain ⟨ua, uc, hue, _⟩ := hu.slice
      subst hue
      cases hok : selOk x
      · have HX : Hid (ps.all selOk = false) := HBD.out hok
        have HN2 : Hid (Nw w w2) := Nw.trans HN1.out (Nw.trans HW.out k2)
        clear hu k2 q0
        go_wp2
        go_ret2
        exact ⟨⟨.slice none 0 0, by rw [HSP.out.1, HX.out]; rfl, by rw [HSP.out.1, HX.out]; exact RowM.nil _ _ _ _⟩, HN2.out⟩
      · have HU : Hid (RowM 3 EPart w2 (.slice ua (selL x).length uc) (selL x) (iv wr w2)) := hu
        have HK2 : Hid (Nw wr w2) := k2
        have HOK : Hid (selOk x = true) := hok
        clear hu k2 q0 hok
        have HNA : ∀ o1, Hid (Nw wr (w2.alloc o1)) := fun o1 => Nw.trans HK2.out ((Below.refl _ _).alloc (Nat.le_refl _) _)
        have HEP : ∀ o1, Hid (ESel (w2.alloc o1) [.slice ua (selL x).length uc] (selL x) (iv wr (w2.alloc o1))) := fun o1 => ⟨_, rfl, (HU.out.nw EPart.kept ((Below.refl _ _).alloc (Nat.le_refl _) _)).mono (iv_mono (by simp))⟩
        go_wp2_with (at_builtin; (refine wp_rw ESel.kept Tryz.underlying29 info_sel rfl (by decide) (by decide) wr _ rfl _ _ rfl w1.heap.size _ els rfl HR.out (HNA _).out (Below.size HW.out) _ rfl (selL x) [.slice ua (selL x).length uc] ?c1 rfl ?c2 (HEP _).out HEL.out ?_))
        case c1 =>
          intro j y hj
          cases j with
          | zero => simp at hj; subst hj; simp
          | succ j => simp at hj
        case c2 =>
          intro y hy
          simp only [List.mem_cons, List.not_mem_nil, or_false] at hy
          subst hy; rfl
        intro v' w' h1 h2
        have HN : Hid (Nw w1 w') := Below.trans (HW.out.trans (HNA _).out) (Ext.below h2 (fun g e => (HR.out.lt g e).1) (Nat.le_trans (Below.size HW.out) (Below.size (HNA _).out)))
        have H1 : Hid _ := h1
        clear h1 h2
        go_wp2
        go_roundw
        case rel => exact ⟨k + 1, _, by omega, by go_num, H1.out, by rw [HTK.out, List.map_append, HM.out]; rfl, HAT.out HOK.out, HN.out⟩
        case measure => simp [intOf]; omega
    · have hk2 : k = ps.length := by omega
      have HE : Hid (els.map El.x = ps.map selL) := by show _ = _; rw [HM.out, hk2, List.take_length]
      have HAL : Hid (ps.all selOk = true) := by show _ = _; have := HA.out; rw [hk2, List.take_length] at this; exact this
      have hkn : ¬ ((k : Int) < (ps.length : Int)) := by omega
      clear hk2 hw
      go_wp2
      go_ret2
      refine ⟨⟨.slice va els.length vc, ?_, ?_⟩, Nw.trans HN1.out HW.out⟩
      · rw [HSP.out.1, HAL.out]
        rfl
      · rw [HSP.out.1, HSP.out.2, HAL.out]
        show RowM 1 ESel wr (.slice va els.length vc) (ps.map selL) (iv w wr)
        rw [← HE.out]
        exact RowO.row HR.out (fun b h1 h2 => ⟨Nat.le_trans (Below.size HN1.out) h1, h2⟩)
/-- A scope with one label, to which the run jumps ahead. -/
theorem scope_ahead {c rest : Code} {Q : Exit → Act → World → Prop} {a : Act} {w : World} (l : Nat) (hf : findLabel c l = some rest) (h : c.wp Tryz.prog (Exit.jump l (fun a w => rest.wp Tryz.prog (Exit.noGoto Q) a w) Q) a w) : (Code.scope c).wp Tryz.prog Q a w :=
  wp_scope_jumps l (fun a w => rest.wp Tryz.prog (Exit.noGoto Q) a w) (fun _ _ => 0) hf h (fun a w hJ => wp_mono hJ (fun e a' w' hq => by
    cases e with
    | goto l' => exact hq.elim
    | _ => exact hq))
theorem cutV_at (c : UInt8) (s : ByteArray) : cutV c s = .tuple #[.string (bA (s.data.toList.take (brk c s.data.toList))), .string (bA (s.data.toList.drop (brk c s.data.toList + 1))), .bool (decide (brk c s.data.toList < s.size))] := by
  unfold cutV
  by_cases h : brk c s.data.toList < s.size
  · rw [if_pos h, ext_head, ext_tail, decide_eq_true h]
  · have hb := brk_le c s.data.toList
    rw [data_len] at hb
    rw [if_neg h, decide_eq_false h, List.take_of_length_le (by rw [data_len]; omega), List.drop_eq_nil_of_le (by rw [data_len]; omega), bA_data]
    rfl
end Go.Proofs.YtnkmdmmlpidcmaaGreatDoor
namespace Go.Proofs.YtnkmdmmlpidcmaaGreatDoor
open Go.ChangeShapes Go.WideShapes Go.ChangeAt Go.RowKit
set_option linter.unusedVariables false

def RulesSays (s : ByteArray) (w w' : World) (e : Ending) : Prop := ∃ v, e = .returned v ∧ RowM 2 ERule w' v (rules30 s) (iv w w')
theorem jump_ret {l : Nat} {J : Act → World → Prop} {Q : Exit → Act → World → Prop} {a : Act} {w : World} : Exit.jump l J Q .ret a w = Q .ret a w := rfl
set_option maxHeartbeats 8000000 in
theorem irules (s : ByteArray) (w : World) (hs : s.size ≤ 1048576) :
    Calls Tryz.prog 31 #[.string s] w fun e w' => RulesSays s w w' e ∧ Nw w w' := by
  go_enter Tryz.func31, Tryz.ntmps31
  go_wp2
  go_loopw [0, 3] (fun t v wr => ∃ (r : ByteArray) (els : List (El RD)), t = .string r ∧ r.size ≤ s.size ∧ RowO 32 2 ERule wr w.heap.size v els ∧ RuSt s r.data.toList (els.map El.x) ∧ Nw w wr) (fun t _ _ => Lib.strSize t)
  case atStart => exact ⟨s, [], rfl, Nat.le_refl _, RowO.nil _ _ _ _ _, RuSt.start s, Below.refl _ _⟩
  case round =>
    obtain ⟨r, els, rfl, hrs, hro, hst, hw⟩ := hrel
    have h30 : els.length ≤ 30 := by have := hst.le; simpa using this
    have hr2 : r.size ≤ 1048576 := by omega
    obtain ⟨va, vc, hv⟩ := hro.slice
    subst hv
    have HR : Hid (RowO 32 2 ERule wr w.heap.size (.slice va els.length vc) els) := hro
    have HST : Hid (RuSt s r.data.toList (els.map El.x)) := hst
    have HW : Hid (Nw w wr) := hw
    have HCT : Hid _ := cutV_at 123 r
    clear hro hst hw
    by_cases hm : brk 123 r.data.toList < r.size
    · have HM : Hid (brk 123 r.data.toList < r.data.toList.length) := by show _ < _; rw [data_len]; exact hm
      rw [decide_eq_true hm] at HCT
      have HC2 : Hid _ := cutV_at 125 (bA (behindL r.data.toList))
      rw [bA_list] at HC2
      have hrl := restL_len HM.out
      rw [data_len] at hrl
      have hal : (bA (aheadL r.data.toList)).size ≤ 1048576 := by rw [bA_size]; unfold aheadL; rw [List.length_take, data_len]; omega
      have hbl : (bA (behindL r.data.toList)).size ≤ 1048576 := by rw [bA_size]; unfold behindL; rw [List.length_drop, data_len]; omega
      have hil : (bA (insideL r.data.toList)).size ≤ 1048576 := by rw [bA_size]; unfold insideL behindL; rw [List.length_take, List.length_drop, data_len]; omega
      have hcl : (bA (restL r.data.toList)).size < r.size := by rw [bA_size]; exact hrl
      have HSN : Hid (selsOk (bA (aheadL r.data.toList)) = false → RuSt s (bA (restL r.data.toList)).data.toList (els.map El.x)) := fun h => by rw [bA_list]; exact HST.out.bad HM.out h
      have HSF : Hid (els.length = 30 → RuSt s (bA (restL r.data.toList)).data.toList (els.map El.x)) := fun h => by rw [bA_list]; exact HST.out.full HM.out (by rw [List.length_map]; exact h)
      have HSM : Hid (selsOk (bA (aheadL r.data.toList)) = true → els.length < 30 → RuSt s (bA (restL r.data.toList)).data.toList (els.map El.x ++ [⟨selsW (bA (aheadL r.data.toList)), dcs (pcB 59 (bA (insideL r.data.toList)))⟩])) := fun h1 h2 => by rw [bA_list]; exact HST.out.more HM.out h1 (by rw [List.length_map]; exact h2)
      have HCT2 : Hid (cutV 123 r = .tuple #[.string (bA (aheadL r.data.toList)), .string (bA (behindL r.data.toList)), .bool true]) := HCT.out
      obtain ⟨b2, hb2⟩ : ∃ b2, cutV 125 (bA (behindL r.data.toList)) = .tuple #[.string (bA (insideL r.data.toList)), .string (bA (restL r.data.toList)), .bool b2] := ⟨_, HC2.out⟩
      have HC3 : Hid (cutV 125 (bA (behindL r.data.toList)) = .tuple #[.string (bA (insideL r.data.toList)), .string (bA (restL r.data.toList)), .bool b2]) := hb2
      clear hm HCT HC2 hrl HM HST hb2
      generalize bA (aheadL r.data.toList) = A1 at *
      generalize bA (behindL r.data.toList) = A2 at *
      generalize bA (insideL r.data.toList) = C1 at *
      generalize bA (restL r.data.toList) = C2 at *
      go_wp2_with fail
      refine scope_ahead 0 (rest := _) rfl ?_
      go_wp2_with fail
      refine Calls.mono (cut1 r 123 _ hr2) ?_
      rw [HCT2.out]
      rintro e w1 ⟨rfl, k1⟩
      have HK1 : Hid (Nw wr w1) := k1
      clear k1
      go_wp2_with fail
      refine Calls.mono (cut1 A2 125 _ hbl) ?_
      rw [HC3.out]
      rintro e w2 ⟨rfl, k2⟩
      have HK2 : Hid (Nw wr w2) := Nw.trans HK1.out k2
      clear k2 HK1
      go_wp2_with fail
      refine Calls.mono (iselectors A1 _ hal) ?_
      rintro e w3 ⟨⟨u, rfl, hu⟩, k3⟩
      obtain ⟨ua, uc, hue, _⟩ := hu.slice
      subst hue
      have HK23 : Hid (Nw w2 w3) := k3
      have HK3 : Hid (Nw wr w3) := Nw.trans HK2.out k3
      have HN3 : Hid (Nw w w3) := Nw.trans HW.out HK3.out
      have HR3 : Hid (RowO 32 2 ERule w3 w.heap.size (.slice va els.length vc) els) := HR.out.nw ERule.kept HK3.out
      cases hok : selsOk A1
      · have HX : Hid (RuSt s C2.data.toList (els.map El.x)) := HSN.out hok
        have hu0 : (if false = true then selsW A1 else []).length = 0 := rfl
        rw [hu0]
        clear hu0
        clear hu k3 hok
        go_wp2
        apply wp_goto
        refine ⟨rfl, ?_⟩
        go_wp2
        show Exit.inBlock 1 _ Exit.normal _ _
        go_wp2
        go_roundw
        case rel => exact ⟨C2, els, rfl, by omega, HR3.out, HX.out, HN3.out⟩
        case measure => simp [Lib.strSize]; omega
      · rw [hok] at hu
        have hul : (if true = true then selsW A1 else []) = selsW A1 := rfl
        rw [hul] at hu ⊢
        have HU : Hid (RowM 1 ESel w3 (.slice ua (selsW A1).length uc) (selsW A1) (iv w2 w3)) := hu
        have HOK : Hid (selsOk A1 = true) := hok
        clear hu k3 hok hul
        by_cases h3 : els.length = 30
        · have HX : Hid (RuSt s C2.data.toList (els.map El.x)) := HSF.out h3
          have g30 : ((els.length : Int) == 30) = true := by rw [h3]; rfl
          clear h3
          go_wp2
          apply wp_goto
          refine ⟨rfl, ?_⟩
          go_wp2
          show Exit.inBlock 1 _ Exit.normal _ _
          go_wp2
          go_roundw
          case rel => exact ⟨C2, els, rfl, by omega, HR3.out, HX.out, HN3.out⟩
          case measure => simp [Lib.strSize]; omega
        · have HX : Hid _ := HSM.out HOK.out (by omega)
          have g30 : ((els.length : Int) == 30) = false := by rw [beq_eq_false_iff_ne]; omega
          have HL30 : Hid (els.length ≤ 10000000) := by show _ ≤ _; omega
          go_wp2_with fail
          refine Calls.mono (ideclsOf C1 _ hil) ?_
          rintro e w4 ⟨⟨d, rfl, hd⟩, k4⟩
          obtain ⟨da, dc, hde, _⟩ := hd.slice
          subst hde
          have HK4 : Hid (Nw w3 w4) := k4
          have HD : Hid (RowM 3 EDecl w4 (.slice da (dcs (pcB 59 C1)).length dc) (dcs (pcB 59 C1)) (iv w3 w4)) := hd
          clear hd k4 h3
          have HNA : ∀ o1, Hid (Nw wr (w4.alloc o1)) := fun o1 => Nw.trans (Nw.trans HK3.out HK4.out) ((Below.refl _ _).alloc (Nat.le_refl _) _)
          have HEP : ∀ o1, Hid (ERule (w4.alloc o1) [.slice ua (selsW A1).length uc, .slice da (dcs (pcB 59 C1)).length dc] ⟨selsW A1, dcs (pcB 59 C1)⟩ (iv wr (w4.alloc o1))) := fun o1 => by
            have z1 := Below.size HK2.out
            have z2 := Below.size HK23.out
            have z3 := Below.size HK4.out
            have a0 : Nw w4 (w4.alloc o1) := (Below.refl _ _).alloc (Nat.le_refl _) _
            have z4 : w4.heap.size ≤ (w4.alloc o1).heap.size := Below.size a0
            refine ⟨_, _, iv w2 w3, iv w3 w4, rfl, (HU.out.nw ESel.kept HK4.out).nw ESel.kept a0, HD.out.nw EDecl.kept a0, fun b hb => ⟨by have := hb.1; omega, by have := hb.2; omega⟩, fun b hb => ⟨by have := hb.1; omega, by have := hb.2; omega⟩, fun b hb hc => ?_⟩
            have := hb.2
            have := hc.1
            omega
          go_wp2_with (at_builtin; (refine wp_rw ERule.kept Tryz.underlying23 info_rule rfl (by decide) (by decide) wr _ rfl _ _ rfl w.heap.size _ els rfl HR.out (HNA _).out (Below.size HW.out) _ rfl ⟨selsW A1, dcs (pcB 59 C1)⟩ [.slice ua (selsW A1).length uc, .slice da (dcs (pcB 59 C1)).length dc] ?c1 rfl ?c2 (HEP _).out HL30.out ?_))
          case c1 =>
            intro j y hj
            rcases (show j = 0 ∨ j = 1 ∨ 2 ≤ j by omega) with rfl | rfl | h
            · simp at hj; subst hj; simp
            · simp at hj; subst hj; simp
            · rw [List.getElem?_eq_none (by simpa using h)] at hj; cases hj
          case c2 =>
            intro y hy
            simp only [List.mem_cons, List.not_mem_nil, or_false] at hy
            rcases hy with rfl | rfl <;> rfl
          intro v' w' h1 h2
          have HN : Hid (Nw w w') := Below.trans (HW.out.trans (HNA _).out) (Ext.below h2 (fun g e => (HR.out.lt g e).1) (Nat.le_trans (Below.size HW.out) (Below.size (HNA _).out)))
          have H1 : Hid _ := h1
          clear h1 h2
          go_wp2
          apply wp_label
          go_wp2
          show Exit.inBlock 1 _ Exit.normal _ _
          go_wp2
          go_roundw
          case rel => exact ⟨C2, _, rfl, by omega, H1.out, by rw [List.map_append]; exact HX.out, HN.out⟩
          case measure => simp [Lib.strSize]; omega
    · have HM : Hid (¬ brk 123 r.data.toList < r.data.toList.length) := by show ¬ _; rw [data_len]; exact hm
      rw [decide_eq_false hm] at HCT
      generalize bA (r.data.toList.take (brk 123 r.data.toList)) = A1 at *
      generalize bA (r.data.toList.drop (brk 123 r.data.toList + 1)) = A2 at *
      have HE : Hid (els.map El.x = rules30 s) := HST.out.fin HM.out
      clear hm
      go_wp2_with fail
      refine scope_ahead 0 (rest := _) rfl ?_
      go_wp2_with fail
      refine Calls.mono (cut1 r 123 _ hr2) ?_
      rw [HCT.out]
      rintro e w1 ⟨rfl, k1⟩
      have HN1 : Hid (Nw w w1) := Nw.trans HW.out k1
      have HR1 : Hid (RowO 32 2 ERule w1 w.heap.size (.slice va els.length vc) els) := HR.out.nw ERule.kept k1
      clear k1
      go_wp2
      rw [jump_ret]
      show Exit.inBlock 1 _ Exit.ret _ _
      go_wp2
      go_ret
      exact ⟨⟨_, rfl, by rw [← HE.out]; exact RowO.row HR1.out (fun b h1 h2 => ⟨h1, h2⟩)⟩, HN1.out⟩
end Go.Proofs.YtnkmdmmlpidcmaaGreatDoor
