/-
  Elements and texts that are good: the program's looks; each theorem names its conditions.
-/
import Derived.Test.YtgjnemmkpbkfhaaDoorMkAttrs
import Derived.Deep.RegionWith
import Derived.Deep.RegionHeld3
namespace Go.Proofs.YtgjnemmkpbkfhaaDoor
open Go.ChangeShapes Go.WideShapes Go.ChangeAt Go.RowKit
set_option linter.unusedVariables false

def elemB (n : ND) : Bool := nameB n.name && (decide (n.text.size = 0) && attrsB n.attrs)
def textB (n : ND) : Bool := decide (n.name.size = 0) && (decide (n.attrs.length = 0) && (!decide (n.text.size = 0) && runesB n.text))
structure smallN (n : ND) : Prop where
  name : n.name.size ≤ 1048576
  text : n.text.size ≤ 1048576
  len : n.attrs.length ≤ 1048576
  attrs : smallA n.attrs
  up : -9223372036854775808 ≤ n.up ∧ n.up ≤ 9223372036854775807

theorem iisElem (w : World) (name : ByteArray) (up : Int) (v : Value) (text : ByteArray) :
    Calls Tryd.prog 40 #[.agg #[.string name, .int .i64 up, v, .string text]] w fun e w' => e = .returned (.bool (!decide (name.size = 0))) ∧ Nw w w' := by
  by_cases h : name.size = 0
  · obtain rfl := empty_of h
    go_enter Tryd.func40, Tryd.ntmps40
    go_wp2
    go_ret
    exact ⟨rfl, (Below.refl _ _).alloc (Nat.le_refl _) _⟩
  · have hn1 := ne_nil (s := name) (by omega)
    have hn2 := ne_emp (s := name) (by omega)
    have hd : decide (name.size = 0) = false := by simp [h]
    go_enter Tryd.func40, Tryd.ntmps40
    go_wp2
    all_goals
      go_ret
      exact ⟨ret_bool (by rw [hd]; first | rfl | simp [hn1, hn2]), (Below.refl _ _).alloc (Nat.le_refl _) _⟩

set_option maxHeartbeats 4000000 in
theorem igoodElem (w : World) (name : ByteArray) (up : Int) (l : List Pair) (text : ByteArray) (a : Option Addr) (c : Nat) (ht : Tb w) (hz : smallN ⟨name, up, l, text⟩) (hcap : l.length ≤ c) (hr : Attrs w a l) :
    Calls Tryd.prog 83 #[.agg #[.string name, .int .i64 up, .slice a l.length c, .string text]] w fun e w' => e = .returned (.bool (elemB ⟨name, up, l, text⟩)) ∧ Nw w w' := by
  obtain ⟨z1, z2, z3, z4, z5⟩ := hz
  simp only at z1 z2 z3 z4 z5
  clear z5
  by_cases hn : nameB name = true
  · by_cases h : text.size = 0
    · obtain rfl := empty_of h
      by_cases h12 : (l.length : Int) ≤ 12
      · have HT : Hid (Tb w) := ht
        have HR : Hid (Attrs w a l) := hr
        have HZ : Hid (smallA l) := z4
        clear ht hr z4 h
        go_enter Tryd.func83, Tryd.ntmps83
        go_wp2_with (go_at_call 133; refine (iname _ name z1).mono ?_; rw [hn]; rintro e w' ⟨rfl, rfl⟩)
        go_loopw [23] (fun i wr => ∃ k : Nat, k ≤ l.length ∧ i = .int .i64 k ∧ AttrsTo l k ∧ Nw w wr ∧ w.heap.size < wr.heap.size ∧ wr.cell? ⟨w.heap.size, 2, none⟩ = some (.slice a l.length c)) (fun i _ => l.length - (intOf i).toNat)
        case atStart => exact ⟨0, Nat.zero_le _, rfl, fun i hi => absurd hi (by omega), (Below.refl _ _).alloc (Nat.le_refl _) _, by simp, by simp⟩
        case round =>
          obtain ⟨k, hk, rfl, hto, hw, hbx, cb⟩ := hrel
          have HO : Hid (AttrsTo l k) := hto
          have HW : Hid (Nw w wr) := hw
          clear hto
          by_cases hlt : k < l.length
          · have HRR := (HR.out.nw hw)
            rcases HRR with h | ⟨b, o, rfl, hb, hc⟩
            · rw [h] at hlt; simp at hlt
            obtain ⟨q0, q1⟩ := hc k hlt
            obtain ⟨y1, y2⟩ := HZ.out k hlt
            have hkc : k ≤ c := by omega
            clear hc hw
            by_cases hnk : nameB (pairAt l k).1 = true
            · by_cases hgk : runesB (pairAt l k).2 = true
              · rcases none_or l (pairAt l k).1 k (by omega) with hno | ⟨j, hj, hj1, hj2⟩
                · have HK : Hid (AttrOk l k) := ⟨hnk, hgk, hno⟩
                  have HNo : Hid (NoneTo l (pairAt l k).1 k) := hno
                  clear hno
                  generalize hx : (pairAt l k).1 = x at *
                  generalize (pairAt l k).2 = y at *
                  clear hx
                  have M1 : Hid (Nw wr (wr.alloc (.cells #[.string x, .string y] 119))) := (Below.refl _ _).alloc (Nat.le_refl _) _
                  have D1 : Hid (Tb (wr.alloc (.cells #[.string x, .string y] 119)).drew) := HT.out.nw ((HW.out.trans M1.out).trans (show Nw _ (wr.alloc (.cells #[.string x, .string y] 119)).drew from (Below.refl _ _).drew))
                  go_wp2_with fail
                  go_region_with (first
                    | (go_at_call 133; refine (iname _ x y1).mono ?_; rw [hnk]; rintro e w' ⟨rfl, rfl⟩)
                    | (go_at_call 134; refine (igood _ y y2 D1.out).mono ?_; rw [hgk]; rintro e w2 ⟨rfl, k2⟩; obtain ⟨hc2, hf2⟩ := bcell k2; have M2 : Hid (Nw wr w2) := M1.out.trans k2.drw)
                    | (go_at_call 135; refine (place_no _ _ c l x k hk z3 (HR.out.nw (HW.out.trans M2.out)) HNo.out).mono ?_; rintro e w3 ⟨rfl, k3⟩; have M3 : Hid (Nw wr w3) := M2.out.trans k3))
                  all_goals
                    go_wp2
                    go_roundw
                    case rel => exact ⟨k + 1, by omega, by go_num, HO.out.step HK.out, HW.out.trans M3.out, Nat.lt_of_lt_of_le hbx (Below.size M3.out), ((bcell M3.out).1 _ _ hbx).trans cb⟩
                    case measure => simp [intOf]; omega
                · have HF : Hid (elemB ⟨name, up, l, ⟨#[]⟩⟩ = false) := by
                    show elemB _ = false
                    unfold elemB
                    rw [attrsB_no fun h => (h.2 k hlt).2.2 j hj hj2]; simp
                  have HJ1 : Hid (NoneTo l (pairAt l k).1 j) := hj1
                  have HJ2 : Hid ((pairAt l j).1 = (pairAt l k).1) := hj2
                  have hj0 : decide ((0 : Int) ≤ (j : Int)) = true := by simp
                  clear hj1 hj2
                  generalize hx : (pairAt l k).1 = x at *
                  generalize (pairAt l k).2 = y at *
                  clear hx
                  have M1 : Hid (Nw wr (wr.alloc (.cells #[.string x, .string y] 119))) := (Below.refl _ _).alloc (Nat.le_refl _) _
                  have D1 : Hid (Tb (wr.alloc (.cells #[.string x, .string y] 119)).drew) := HT.out.nw ((HW.out.trans M1.out).trans (show Nw _ (wr.alloc (.cells #[.string x, .string y] 119)).drew from (Below.refl _ _).drew))
                  go_wp2_with fail
                  go_region_with (first
                    | (go_at_call 133; refine (iname _ x y1).mono ?_; rw [hnk]; rintro e w' ⟨rfl, rfl⟩)
                    | (go_at_call 134; refine (igood _ y y2 D1.out).mono ?_; rw [hgk]; rintro e w2 ⟨rfl, k2⟩; obtain ⟨hc2, hf2⟩ := bcell k2; have M2 : Hid (Nw wr w2) := M1.out.trans k2.drw)
                    | (go_at_call 135; refine (place_yes _ _ c l x k j hk z3 (HR.out.nw (HW.out.trans M2.out)) hj HJ1.out HJ2.out).mono ?_; rintro e w3 ⟨rfl, k3⟩; have M3 : Hid (Nw wr w3) := M2.out.trans k3))
                  all_goals
                    go_wp2
                    go_ret
                    exact ⟨ret_bool HF.out.symm, HW.out.trans M3.out⟩
              · have HF : Hid (elemB ⟨name, up, l, ⟨#[]⟩⟩ = false) := by
                  show elemB _ = false
                  unfold elemB
                  rw [attrsB_no fun h => hgk (h.2 k hlt).2.1]; simp
                have hgk' : runesB (pairAt l k).2 = false := by simpa using hgk
                clear hgk
                generalize hx : (pairAt l k).1 = x at *
                generalize (pairAt l k).2 = y at *
                clear hx
                have M1 : Hid (Nw wr (wr.alloc (.cells #[.string x, .string y] 119))) := (Below.refl _ _).alloc (Nat.le_refl _) _
                have D1 : Hid (Tb (wr.alloc (.cells #[.string x, .string y] 119)).drew) := HT.out.nw ((HW.out.trans M1.out).trans (show Nw _ (wr.alloc (.cells #[.string x, .string y] 119)).drew from (Below.refl _ _).drew))
                go_wp2_with fail
                first
                | go_region_with (first
                  | (go_at_call 133; refine (iname _ x y1).mono ?_; rw [hnk]; rintro e w' ⟨rfl, rfl⟩)
                  | (go_at_call 134; refine (igood _ y y2 D1.out).mono ?_; rw [hgk']; rintro e w2 ⟨rfl, k2⟩; obtain ⟨hc2, hf2⟩ := bcell k2; have M2 : Hid (Nw wr w2) := M1.out.trans k2.drw))
                | fail
                all_goals
                  go_wp2
                  go_ret
                  exact ⟨ret_bool HF.out.symm, HW.out.trans M2.out⟩
            · have HF : Hid (elemB ⟨name, up, l, ⟨#[]⟩⟩ = false) := by
                show elemB _ = false
                unfold elemB
                rw [attrsB_no fun h => hnk (h.2 k hlt).1]; simp
              have hnk' : nameB (pairAt l k).1 = false := by simpa using hnk
              clear hnk
              generalize hx : (pairAt l k).1 = x at *
              generalize (pairAt l k).2 = y at *
              clear hx
              go_wp2_with fail
              have HQ : ∀ W, Hid (Calls Tryd.prog 133 #[.string x] W fun e w' => e = .returned (.bool false) ∧ w' = W) := fun W => by have := iname W x y1; rw [hnk'] at this; exact this
              go_quiet ((go_at_call 133; exact Calls.quiet_of_same (HQ _).out))
              go_wp2
              go_ret
              exact ⟨ret_bool HF.out.symm, HW.out.trans (((Kp.refl wr).alloc _ _).drewN _).nw⟩
          · have e : k = l.length := by omega
            have HB : Hid (elemB ⟨name, up, l, ⟨#[]⟩⟩ = true) := by
              show elemB _ = true
              unfold elemB
              simp only
              rw [hn, attrsB_yes ⟨by omega, by have := HO.out; rwa [e] at this⟩]; rfl
            clear hw
            go_wp2
            go_ret
            exact ⟨ret_bool HB.out.symm, HW.out⟩
      · have HF : Hid (elemB ⟨name, up, l, ⟨#[]⟩⟩ = false) := by
          show elemB _ = false
          unfold elemB
          rw [attrsB_no fun h => by have := h.1; simp only at this; omega]; simp
        clear ht hr z4 h
        go_enter Tryd.func83, Tryd.ntmps83
        go_wp2_with (go_at_call 133; refine (iname _ name z1).mono ?_; rw [hn]; rintro e w' ⟨rfl, rfl⟩)
        go_ret
        exact ⟨ret_bool HF.out.symm, (Below.refl _ _).alloc (Nat.le_refl _) _⟩
    · have hn1 := ne_nil (s := text) (by omega)
      have hn2 := ne_emp (s := text) (by omega)
      have HF : Hid (elemB ⟨name, up, l, text⟩ = false) := by
        show elemB _ = false
        unfold elemB
        simp [h]
      clear ht hr z4 h
      go_enter Tryd.func83, Tryd.ntmps83
      go_wp2_with (go_at_call 133; refine (iname _ name z1).mono ?_; rw [hn]; rintro e w' ⟨rfl, rfl⟩)
      go_ret
      exact ⟨ret_bool HF.out.symm, (Below.refl _ _).alloc (Nat.le_refl _) _⟩
  · have hn' : nameB name = false := by simpa using hn
    have HF : Hid (elemB ⟨name, up, l, text⟩ = false) := by
      show elemB _ = false
      unfold elemB
      simp [hn']
    clear ht hr z4 hn
    go_enter Tryd.func83, Tryd.ntmps83
    go_wp2_with (go_at_call 133; refine (iname _ name z1).mono ?_; rw [hn']; rintro e w' ⟨rfl, rfl⟩)
    go_ret
    exact ⟨ret_bool HF.out.symm, (Below.refl _ _).alloc (Nat.le_refl _) _⟩

set_option maxHeartbeats 4000000 in
theorem igoodText (w : World) (name : ByteArray) (up : Int) (l : List Pair) (text : ByteArray) (a : Option Addr) (c : Nat) (ht : Tb w) (hz : smallN ⟨name, up, l, text⟩) :
    Calls Tryd.prog 84 #[.agg #[.string name, .int .i64 up, .slice a l.length c, .string text]] w fun e w' => e = .returned (.bool (textB ⟨name, up, l, text⟩)) ∧ Nw w w' := by
  obtain ⟨z1, z2, z3, z4, z5⟩ := hz
  simp only at z1 z2 z3 z4 z5
  clear z4 z5
  have HT : ∀ w2, Nw w w2 → Tb w2 := fun w2 k => ht.nw k
  have HT2 : Hid _ := HT
  clear HT ht
  by_cases h : name.size = 0
  · have hd : decide (name.size = 0) = true := by simp [h]
    by_cases h2 : l.length = 0
    · have e0 : l = [] := List.eq_nil_of_length_eq_zero h2
      subst e0
      by_cases h3 : text.size = 0
      · have HF : Hid (textB ⟨name, up, [], text⟩ = false) := by show textB _ = false; unfold textB; simp [h3]
        obtain rfl := empty_of h3
        clear h h2
        go_enter Tryd.func84, Tryd.ntmps84
        go_wp2_with (go_at_call 40; refine (iisElem _ _ _ _ _).mono ?_; rw [hd]; rintro e w1 ⟨rfl, k1⟩; obtain ⟨hc, hf⟩ := bcell k1)
        go_ret
        exact ⟨ret_bool HF.out.symm, Below.trans ((Below.refl _ _).alloc (Nat.le_refl _) _) (Below.mono k1 (by simp))⟩
      · have HF : Hid (textB ⟨name, up, [], text⟩ = runesB text) := by show textB _ = _; unfold textB; simp [h, h3]
        have hn1 := ne_nil (s := text) (by omega)
        have hn2 := ne_emp (s := text) (by omega)
        clear h h2 h3
        go_enter Tryd.func84, Tryd.ntmps84
        go_wp2_with (first | (go_at_call 40; refine (iisElem _ _ _ _ _).mono ?_; rw [hd]; rintro e w1 ⟨rfl, k1⟩; obtain ⟨hc, hf⟩ := bcell k1; have N1 : Hid (Nw w w1) := Below.trans ((Below.refl _ _).alloc (Nat.le_refl _) _) (Below.mono k1 (by simp))) | (go_at_call 134; refine (igood _ _ z2 (HT2.out _ N1.out)).mono ?_; rintro e w2 ⟨rfl, k2⟩))
        go_ret
        exact ⟨ret_bool HF.out.symm, N1.out.trans k2⟩
    · have HF : Hid (textB ⟨name, up, l, text⟩ = false) := by show textB _ = false; unfold textB; simp [h2]
      have hne : ((l.length : Int) == 0) = false := beq_eq_false_iff_ne.2 (by omega)
      clear h
      go_enter Tryd.func84, Tryd.ntmps84
      go_wp2_with (go_at_call 40; refine (iisElem _ _ _ _ _).mono ?_; rw [hd]; rintro e w1 ⟨rfl, k1⟩; obtain ⟨hc, hf⟩ := bcell k1)
      go_ret
      exact ⟨ret_bool HF.out.symm, Below.trans ((Below.refl _ _).alloc (Nat.le_refl _) _) (Below.mono k1 (by simp))⟩
  · have hd : decide (name.size = 0) = false := by simp [h]
    have HF : Hid (textB ⟨name, up, l, text⟩ = false) := by show textB _ = false; unfold textB; simp [h]
    clear h
    go_enter Tryd.func84, Tryd.ntmps84
    go_wp2_with (go_at_call 40; refine (iisElem _ _ _ _ _).mono ?_; rw [hd]; rintro e w1 ⟨rfl, k1⟩; obtain ⟨hc, hf⟩ := bcell k1)
    go_ret
    exact ⟨ret_bool HF.out.symm, Below.trans ((Below.refl _ _).alloc (Nat.le_refl _) _) (Below.mono k1 (by simp))⟩
end Go.Proofs.YtgjnemmkpbkfhaaDoor
