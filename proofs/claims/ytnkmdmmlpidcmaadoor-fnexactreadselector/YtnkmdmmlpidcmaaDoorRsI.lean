/-
  A selector read by the program; each theorem names its conditions.
-/
import Derived.Test.YtnkmdmmlpidcmaaDoorRsQ
import Derived.Test.YtnkmdmmlpidcmaaDoorPtO
import Derived.Test.YtnkmdmmlpidcmaaDoorIWds
namespace Go.Proofs.YtnkmdmmlpidcmaaDoor
open Go.ChangeShapes Go.WideShapes Go.ChangeAt Go.RowKit
set_option linter.unusedVariables false

theorem els_len {α : Type} {els : List (El α)} {xs : List α} (h : els.map El.x = xs) : els.length = xs.length := by rw [← h, List.length_map]
theorem all_take {ws : List ByteArray} {k : Nat} (h : (ws.take k).all okW = true) (hk : k < ws.length) (hx : okW (strAt ws k) = true) : (ws.take (k + 1)).all okW = true := by
  rw [List.take_succ_eq_append_getElem hk, List.all_append, h]
  have e : strAt ws k = ws[k] := by simp [strAt, hk]
  rw [e] at hx
  simp [hx]
theorem map_take {ws : List ByteArray} {k : Nat} (hk : k < ws.length) : (ws.take (k + 1)).map prD = (ws.take k).map prD ++ [prD (strAt ws k)] := by
  rw [List.take_succ_eq_append_getElem hk, List.map_append]
  simp [strAt, hk]
theorem str_mem {ws : List ByteArray} {k : Nat} (hk : k < ws.length) : strAt ws k ∈ ws := by
  have e : strAt ws k = ws[k] := by simp [strAt, hk]
  rw [e]
  exact List.getElem_mem _
set_option maxHeartbeats 8000000 in
theorem ireadSel (w : World) (s : ByteArray) (hs : s.size ≤ 1048576) :
    Calls Tryd.prog 13 #[.string s] w fun e w' => SelSays s w w' e ∧ Nw w w' := by
  have HSZ : Hid (∀ i, (strAt (wordsOf s) i).size ≤ 1048576) := fun i => Nat.le_trans (wordsOf_size s i) hs
  have HWL : Hid ((wordsOf s).length ≤ 1048577) := Nat.le_trans (wordsOf_len s) (by omega)
  have hso : selOk s = selOkW (wordsOf s) := rfl
  have hsl : selL s = selLW (wordsOf s) := rfl
  unfold SelSays
  rw [hso, hsl]
  clear hso hsl
  have HI : Hid (Calls Tryd.prog 32 #[.string s, .func (.func 33) #[] #[]] w fun e w' => ∃ v, e = .returned v ∧ Txs w' w.heap.size v (wordsOf s) ∧ Nw w w') := iwords w s hs
  generalize wordsOf s = ws at *
  have hwl : ws.length ≤ 1048577 := HWL.out
  go_enter Tryd.func13, Tryd.ntmps13
  go_wp2_with fail
  refine Calls.mono HI.out ?_
  rintro e w1 ⟨v, rfl, hv, k1⟩
  clear HI
  obtain ⟨a, c, rfl, hst⟩ := hv.strs
  have HST : Hid (Strs w1 a ws) := hst
  have HN1 : Hid (Nw w w1) := k1
  clear hv hst k1
  go_wp2
  go_loopw [4, 12] (fun v i wr => ∃ (k : Nat) (els : List (El PD)), k ≤ ws.length ∧ k ≤ 5 ∧ i = .int .i64 k ∧ RowO 56 3 EPart wr w1.heap.size v els ∧ els.map El.x = (ws.take k).map prD ∧ (ws.take k).all okW = true ∧ Nw w1 wr) (fun _ i _ => ws.length - (intOf i).toNat)
  case atStart => exact ⟨0, [], Nat.zero_le _, by omega, rfl, RowO.nil _ _ _ _ _, rfl, rfl, Below.refl _ _⟩
  case round =>
    obtain ⟨k, els, hk, hk5, rfl, hro, hmx, hall, hw⟩ := hrel
    have hel : els.length = k := by rw [els_len hmx, List.length_map, List.length_take]; omega
    obtain ⟨va, vc, hv⟩ := hro.slice
    subst hv
    have HEL : Hid (els.length = k) := hel
    rw [hel] at hro ⊢
    have HR : Hid (RowO 56 3 EPart wr w1.heap.size (.slice va k vc) els) := hro
    have HM : Hid (els.map El.x = (ws.take k).map prD) := hmx
    have HA : Hid ((ws.take k).all okW = true) := hall
    have HW : Hid (Nw w1 wr) := hw
    clear hro hmx hall hel
    by_cases hlt : k < ws.length
    · rcases (HST.out.nw hw) with h | ⟨b, o, rfl, hb, hc⟩
      · rw [h] at hlt; simp at hlt
      have q0 := hc k hlt
      have hz := HSZ.out k
      have HMT : Hid ((ws.take (k + 1)).map prD = (ws.take k).map prD ++ [prD (strAt ws k)]) := map_take hlt
      have HAT : Hid (okW (strAt ws k) = true → (ws.take (k + 1)).all okW = true) := fun h => all_take HA.out hlt h
      have HBD : Hid (okW (strAt ws k) = false → selOkW ws = false) := fun h => selOkW_bad (str_mem hlt) h
      clear hc hw
      generalize strAt ws k = x at *
      go_wp2_with fail
      refine Calls.mono (ipartOf _ x hz) ?_
      rintro e w2 ⟨⟨p, u, hp, rfl, hu⟩ | ⟨hp, tx, ty, ta, tn, tc, rfl⟩, k2⟩
      · obtain ⟨hd, hok⟩ := prD_of hp
        by_cases h5 : k = 5
        · have HX : Hid (selOkW ws = false) := selOkW_many (by omega)
          have HN2 : Hid (Nw w w2) := Nw.trans HN1.out (Nw.trans HW.out k2)
          obtain ⟨ua, uc, rfl, _⟩ := hu.slice
          subst h5
          clear hu k2 q0 hp hd hok
          go_wp2
          go_ret2
          refine ⟨⟨.slice none 0 0, by rw [HX.out]; rfl, by rw [selLW_no HX.out]; exact RowM.nil _ _ _ _⟩, ?_⟩
          exact HN2.out.alloc (Below.size HN2.out) _
        · obtain ⟨ua, uc, rfl, _⟩ := hu.slice
          have HU : Hid (RowM 1 EStr w2 (.slice ua p.cls.length uc) p.cls (iv wr w2)) := hu
          have HK2 : Hid (Nw wr w2) := k2
          have HD : Hid (prD x = p) := hd
          have HOK : Hid (okW x = true) := hok
          have h5I : ((k : Int) == 5) = false := by simp; omega
          clear hu k2 q0 hp hd hok
          have HNA : ∀ o1 o2, Hid (Nw wr ((w2.alloc o1).alloc o2)) := fun o1 o2 => Nw.trans HK2.out (((Below.refl _ _).alloc (Nat.le_refl _) _).alloc (by simp) _)
          have HEP : ∀ o1 o2, Hid (EPart ((w2.alloc o1).alloc o2) [.string p.ty, .string p.id, .slice ua p.cls.length uc] p (iv wr ((w2.alloc o1).alloc o2))) := fun o1 o2 => ⟨_, rfl, (HU.out.nw EStr.kept (((Below.refl _ _).alloc (Nat.le_refl _) _).alloc (by simp) _)).mono (iv_mono (by simp; omega))⟩
          go_wp2_with (at_builtin; (refine wp_rw EPart.kept Tryd.underlying28 Tryd.info56 rfl (by decide) (by decide) wr _ rfl _ _ rfl w1.heap.size _ els rfl HR.out (HNA _ _).out (Below.size HW.out) _ rfl p [.string p.ty, .string p.id, .slice ua p.cls.length uc] ?c1 rfl ?c2 (HEP _ _).out (by rw [HEL.out]; omega) ?_))
          case c1 =>
            intro j y hj
            rcases (show j = 0 ∨ j = 1 ∨ j = 2 ∨ 3 ≤ j by omega) with rfl | rfl | rfl | h
            · simp at hj; subst hj; simp
            · simp at hj; subst hj; simp
            · simp at hj; subst hj; simp
            · rw [List.getElem?_eq_none (by simpa using h)] at hj; cases hj
          case c2 =>
            intro y hy
            simp only [List.mem_cons, List.not_mem_nil, or_false] at hy
            rcases hy with rfl | rfl | rfl <;> rfl
          intro v' w' h1 h2
          have HN : Hid (Nw w1 w') := Below.trans (HW.out.trans (HNA _ _).out) (Ext.below h2 (fun g e => (HR.out.lt g e).1) (Nat.le_trans (Below.size HW.out) (Below.size (HNA _ _).out)))
          have H1 : Hid _ := h1
          clear h1 h2
          go_wp2
          go_roundw
          case rel => exact ⟨k + 1, _, by omega, by omega, by go_num, H1.out, by rw [List.map_append, HM.out, HMT.out, HD.out]; rfl, HAT.out HOK.out, HN.out⟩
          case measure => simp [intOf]; omega
      · have HX : Hid (selOkW ws = false) := HBD.out (okW_no hp)
        have HN2 : Hid (Nw w w2) := Nw.trans HN1.out (Nw.trans HW.out k2)
        clear k2 q0 hp
        go_wp2
        go_ret2
        refine ⟨⟨.slice none 0 0, by rw [HX.out]; rfl, by rw [selLW_no HX.out]; exact RowM.nil _ _ _ _⟩, ?_⟩
        exact HN2.out.alloc (Below.size HN2.out) _
    · have hk2 : k = ws.length := by omega
      have hA := HA.out
      have hM := HM.out
      rw [hk2, List.take_length] at hA hM
      obtain ⟨e1, e2⟩ := selW_end (by omega) hA
      have HE1 : Hid (selOkW ws = decide (0 < k)) := by show _ = _; rw [e1, hk2]
      have HE2 : Hid (els.map El.x = selLW ws) := by show _ = _; rw [e2, hM]
      clear e1 e2 hA hM hw hk2
      have hkn : ¬ ((k : Int) < (ws.length : Int)) := by omega
      go_wp2
      go_ret2
      refine ⟨⟨_, by rw [HE1.out]; first | rfl | simp, ?_⟩, Nw.trans HN1.out HW.out⟩
      rw [← HE2.out]
      exact RowO.row HR.out (fun b h1 h2 => ⟨Nat.le_trans (Below.size HN1.out) h1, h2⟩)
end Go.Proofs.YtnkmdmmlpidcmaaDoor
