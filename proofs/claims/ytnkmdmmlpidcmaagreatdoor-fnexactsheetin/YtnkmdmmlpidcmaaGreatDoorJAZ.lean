/-
  Good nodes: the specification's look at them; each theorem names its conditions.
  The sheet of a tree, the specification's; each theorem names its conditions.
  Nodes whose bulk is small have small parts; each theorem names its conditions.
  The law on SheetIn: the walk of its text, where utf8's two tables lie; each theorem names its conditions.
-/
import Derived.Test.YtnkmdmmlpidcmaaGreatDoorJAX
import Derived.Test.YtnkmdmmlpidcmaaGreatDoorJAY
import Derived.Test.YtnkmdmmlpidcmaaGreatDoorJAQ
import Derived.Test.YtnkmdmmlpidcmaaGreatDoorJAV
import Derived.Test.YtnkmdmmlpidcmaaGreatDoorJAU
namespace Go.Proofs.YtnkmdmmlpidcmaaGreatDoor
open Go.ChangeShapes Go.WideShapes Go.ChangeAt Go.RowKit
set_option linter.unusedVariables false

theorem attrsB_nil {l : List Pair} (h : l.length = 0) : attrsB l = true := attrsB_yes ⟨by omega, fun i hi => absurd hi (by omega)⟩
theorem bad_of {l : List ND} {k : Nat} (hk : k < l.length) (h : okB l k = false) : goodB l = false := goodB_no fun g => by have := g.2 k hk; rw [h] at this; simp at this
theorem okB_s (l : List ND) (j : Nat) : okB l (j + 1) = ((elemB (nodeAt l (j + 1)) || textB (nodeAt l (j + 1))) && placeB l j) := rfl
theorem ok_place {l : List ND} {j : Nat} (h : placeB l j = false) : okB l (j + 1) = false := by rw [okB_s, h]; simp
theorem place_meets {l : List ND} {j : Nat} (h : meetsN l (upAt l (j + 1)) (j : Int) = false) : placeB l j = false := by unfold placeB; rw [h]; rfl
theorem place_in {l : List ND} {j : Nat} (hu : Ups l (j + 1)) (hj : j + 1 ≤ l.length) (h : ¬ (0 ≤ upAt l (j + 1) ∧ upAt l (j + 1) ≤ j)) : placeB l j = false := by
  refine place_meets ?_
  cases e : meetsN l (upAt l (j + 1)) (j : Int) with
  | false => rfl
  | true => exact absurd (meetsN_le l _ (j + 1) hu hj (j + 1) (j : Int) (by omega) (by omega) e) h
theorem ok_attrs {l : List ND} {j : Nat} (h : attrsB (nodeAt l (j + 1)).attrs = false) : okB l (j + 1) = false := by
  rw [okB_s]
  have h1 : elemB (nodeAt l (j + 1)) = false := by unfold elemB; rw [h]; simp
  have h2 : textB (nodeAt l (j + 1)) = false := by
    unfold textB
    by_cases c : (nodeAt l (j + 1)).attrs.length = 0
    · rw [attrsB_nil c] at h; simp at h
    · simp [c]
  rw [h1, h2]; rfl
/-- Ahead of the cases: where the way up meets the up. -/
theorem place_u {l : List ND} {j u : Nat} (hm : meetsN l (upAt l (j + 1)) (j : Int) = true) (hu : upAt l (j + 1) = (u : Int)) :
    placeB l j = (named l u && (if named l (j + 1) = true then decide (deepN l (u : Int) < 10) else (named l j || !decide (upAt l j = (u : Int))))) := by
  unfold placeB; rw [hm, hu]; simp
def SAttrsSays (w : World) (a : Option Addr) (c : Nat) (l : List Pair) : Prop := Calls Tryz.prog 88 #[.slice a l.length c] w fun e w' => e = .returned (.bool (attrsB l)) ∧ Nw w w'

set_option maxRecDepth 100000 in
set_option maxHeartbeats 16000000 in
theorem sgoodNodes (w : World) (a : Option Addr) (c : Nat) (l : List ND) (hl : l.length ≤ 1048576) (hz : Small l) (hr : Nodes w a l) :
    Calls Tryz.prog 49 #[.slice a l.length c] w fun e w' => e = .returned (.bool (goodB l)) ∧ Nw w w' := by
  have HR : Hid (Nodes w a l) := hr
  have HZ : Hid (Small l) := hz
  clear hr hz
  by_cases hn : 1 ≤ l.length ∧ l.length ≤ 60
  · have hd : decide ((1 : Int) ≤ (l.length : Int) ∧ (l.length : Int) ≤ 60) = true := by simp; omega
    have hn1 : 0 < l.length := by omega
    rcases HR.out with h | ⟨b, o, rfl, hb, hc⟩
    · rw [h] at hn1; simp at hn1
    clear hc
    have HP : Hid (1 ≤ l.length ∧ l.length ≤ 60) := hn
    clear hn
    go_enter Tryz.func49, Tryz.ntmps49
    go_wp2_with (go_at_call 61; refine (in_any _ _ _ _).mono ?_; rw [hd]; rintro e w' ⟨rfl, hq⟩; have hq2 := hq.symm; clear hq; subst hq2)
    go_loopw [12] (fun i wr => ∃ k : Nat, k ≤ l.length ∧ i = .int .i64 k ∧ OkTo l k ∧ Nw w wr) (fun i _ => l.length - (intOf i).toNat)
    case atStart => exact ⟨0, by omega, rfl, fun i hi => absurd hi (by omega), Below.refl _ _⟩
    case round =>
      obtain ⟨k, hk, rfl, hto, hw⟩ := hrel
      clear hd
      have HO : Hid (OkTo l k) := hto
      have HW : Hid (Nw w wr) := hw
      by_cases hlt : k < l.length
      · have HU : Hid (Ups l k) := ups_of l k (by omega) hto
        have hbr : b < wr.heap.size := Nat.lt_of_lt_of_le hb (Below.size hw)
        have HRR : Hid (Nodes wr (some ⟨b, o, none⟩) l) := HR.out.nw hw
        have HCL : Hid (∀ i, i < l.length → wr.cell? ⟨b, o + i * 4, none⟩ = some (.string (nodeAt l i).name) ∧ wr.cell? ⟨b, o + i * 4 + 1, none⟩ = some (.int .i64 (nodeAt l i).up) ∧
            (∃ aa c, wr.cell? ⟨b, o + i * 4 + 2, none⟩ = some (.slice aa (nodeAt l i).attrs.length c) ∧ (nodeAt l i).attrs.length ≤ c ∧ Attrs wr aa (nodeAt l i).attrs) ∧ wr.cell? ⟨b, o + i * 4 + 3, none⟩ = some (.string (nodeAt l i).text)) := by
          rcases HRR.out with h | ⟨b', o', e', hb', hc⟩
          · rw [h] at hn1; simp at hn1
          simp only [Option.some.injEq, Addr.mk.injEq, and_true] at e'
          obtain ⟨rfl, rfl⟩ := e'
          exact hc
        obtain ⟨q0, q1, ⟨qa, qc, q2, qcap, q4⟩, q3⟩ := HCL.out k hlt
        obtain ⟨y1, y2, y3, y4, y5⟩ := HZ.out k hlt
        have HA : ∀ W, Nw wr W → Hid (SAttrsSays W qa qc (nodeAt l k).attrs) := fun W kW => sattrs W qa qc (nodeAt l k).attrs y3 y4 qcap (q4.nw kW)
        clear hto hw q4 y4
        cases k with
        | zero =>
          simp only [Nat.zero_mul, Nat.add_zero] at q0 q1 q2 q3
          have i0 : (0 : Int) < (l.length : Int) := by omega
          by_cases hm1 : (nodeAt l 0).up = -1
          · have hin : decide ((-1 : Int) ≤ -1 ∧ (-1 : Int) ≤ -1) = true := by decide
            have HM : Hid (upAt l 0 = -1) := hm1
            rw [hm1] at q1
            clear hm1
            by_cases hat : attrsB (nodeAt l 0).attrs = true
            · by_cases sk : (nodeAt l 0).name.size = 0
              · have HN : Hid (goodB l = false) := bad_of hlt (by simp [okB, elemB, nameB_no (s := (nodeAt l 0).name) (fun h => by have := h.1.1; omega)])
                rw [empty_of sk] at q0
                clear sk
                go_wp2_with (first | (go_at_call 61; refine (in_any _ _ _ _).mono ?_; rw [hin]; rintro e w' ⟨rfl, rfl⟩) | (go_at_call 88; refine Calls.mono (HA _ ((Below.refl _ _).alloc (Nat.le_refl _) _)).out ?_; rw [hat]; rintro e w2 ⟨rfl, k2⟩; obtain ⟨hc2, hf2⟩ := bcell k2))
                go_ret
                exact ⟨ret_bool HN.out.symm, HW.out.trans (Nw.trans (show Nw wr (wr.alloc _) from (Below.refl _ _).alloc (Nat.le_refl _) _) k2)⟩
              · have n1 := ne_nil (s := (nodeAt l 0).name) (by omega)
                have n2 := ne_emp (s := (nodeAt l 0).name) (by omega)
                clear sk
                by_cases hnb : nameB (nodeAt l 0).name = true
                · by_cases st : (nodeAt l 0).text.size = 0
                  · have hups : Ups l 1 := by
                      intro i hi
                      obtain rfl : i = 0 := by omega
                      rw [HM.out]; omega
                    have hdn : deepN l 0 = 1 := by
                      have := deepN_up l 0 1 hups (by omega) (by omega) (by omega)
                      simp only [Int.toNat_zero] at this
                      rw [this, HM.out, deepN_neg l (-1) (by omega)]
                    have HDK : Hid (∀ W, Nw wr W → Hid (Calls Tryz.prog 90 #[.slice (some ⟨b, o, none⟩) l.length c, .int .i64 0] W fun e w' => e = .returned (.int .i64 1) ∧ w' = W)) := by
                      intro W kW
                      have := sdeep W (some ⟨b, o, none⟩) c l 1 0 hl (HRR.out.nw kW) hups (by omega) (by omega) (by omega)
                      rw [hdn] at this
                      exact this
                    have HK : Hid (okB l 0 = true) := by show okB l 0 = true; simp [okB, elemB, hnb, hat, st, HM.out]
                    rw [empty_of st] at q3
                    clear st hups hdn
                    go_wp2_with (first | (go_at_call 61; refine (in_any _ _ _ _).mono ?_; rw [hin]; rintro e w' ⟨rfl, rfl⟩) | (go_at_call 88; refine Calls.mono (HA _ ((Below.refl _ _).alloc (Nat.le_refl _) _)).out ?_; rw [hat]; rintro e w2 ⟨rfl, k2⟩; obtain ⟨hc2, hf2⟩ := bcell k2) | (go_at_call 89; refine (sname _ _ y1).mono ?_; rw [hnb]; rintro e w3 ⟨rfl, hq⟩; have hq2 := hq.symm; clear hq; subst hq2) | (go_at_call 90; refine Calls.mono (HDK.out _ (Nw.trans (show Nw wr (wr.alloc _) from (Below.refl _ _).alloc (Nat.le_refl _) _) k2)).out ?_; rintro e w3 ⟨rfl, hq⟩; have hq2 := hq.symm; clear hq; subst hq2))
                    go_roundw
                    case rel => exact ⟨0 + 1, by omega, by go_num, HO.out.step HK.out, HW.out.trans (Nw.trans (show Nw wr (wr.alloc _) from (Below.refl _ _).alloc (Nat.le_refl _) _) k2)⟩
                    case measure => simp [intOf]; omega
                  · have t1 := ne_nil (s := (nodeAt l 0).text) (by omega)
                    have t2 := ne_emp (s := (nodeAt l 0).text) (by omega)
                    have HN : Hid (goodB l = false) := bad_of hlt (by simp [okB, elemB, st])
                    clear st
                    go_wp2_with (first | (go_at_call 61; refine (in_any _ _ _ _).mono ?_; rw [hin]; rintro e w' ⟨rfl, rfl⟩) | (go_at_call 88; refine Calls.mono (HA _ ((Below.refl _ _).alloc (Nat.le_refl _) _)).out ?_; rw [hat]; rintro e w2 ⟨rfl, k2⟩; obtain ⟨hc2, hf2⟩ := bcell k2) | (go_at_call 89; refine (sname _ _ y1).mono ?_; rw [hnb]; rintro e w3 ⟨rfl, hq⟩; have hq2 := hq.symm; clear hq; subst hq2))
                    go_ret
                    exact ⟨ret_bool HN.out.symm, HW.out.trans (Nw.trans (show Nw wr (wr.alloc _) from (Below.refl _ _).alloc (Nat.le_refl _) _) k2)⟩
                · have hnb' : nameB (nodeAt l 0).name = false := by simpa using hnb
                  have HN : Hid (goodB l = false) := bad_of hlt (by simp [okB, elemB, hnb'])
                  clear hnb
                  go_wp2_with (first | (go_at_call 61; refine (in_any _ _ _ _).mono ?_; rw [hin]; rintro e w' ⟨rfl, rfl⟩) | (go_at_call 88; refine Calls.mono (HA _ ((Below.refl _ _).alloc (Nat.le_refl _) _)).out ?_; rw [hat]; rintro e w2 ⟨rfl, k2⟩; obtain ⟨hc2, hf2⟩ := bcell k2) | (go_at_call 89; refine (sname _ _ y1).mono ?_; rw [hnb']; rintro e w3 ⟨rfl, hq⟩; have hq2 := hq.symm; clear hq; subst hq2))
                  go_ret
                  exact ⟨ret_bool HN.out.symm, HW.out.trans (Nw.trans (show Nw wr (wr.alloc _) from (Below.refl _ _).alloc (Nat.le_refl _) _) k2)⟩
            · have hat' : attrsB (nodeAt l 0).attrs = false := by simpa using hat
              have HN : Hid (goodB l = false) := bad_of hlt (by simp [okB, elemB, hat'])
              clear hat
              go_wp2_with (first | (go_at_call 61; refine (in_any _ _ _ _).mono ?_; rw [hin]; rintro e w' ⟨rfl, rfl⟩) | (go_at_call 88; refine Calls.mono (HA _ ((Below.refl _ _).alloc (Nat.le_refl _) _)).out ?_; rw [hat']; rintro e w2 ⟨rfl, k2⟩; obtain ⟨hc2, hf2⟩ := bcell k2))
              go_ret
              exact ⟨ret_bool HN.out.symm, HW.out.trans (Nw.trans (show Nw wr (wr.alloc _) from (Below.refl _ _).alloc (Nat.le_refl _) _) k2)⟩
          · have HN : Hid (goodB l = false) := bad_of hlt (by simp [okB, upAt, hm1])
            have hin : decide ((-1 : Int) ≤ (nodeAt l 0).up ∧ (nodeAt l 0).up ≤ -1) = false := decide_eq_false (by omega)
            clear hm1
            go_wp2_with (go_at_call 61; refine (in_any _ _ _ _).mono ?_; rw [hin]; rintro e w' ⟨rfl, rfl⟩)
            go_ret
            exact ⟨ret_bool HN.out.symm, HW.out.trans ((Below.refl _ _).alloc (Nat.le_refl _) _)⟩
        | succ j =>
          by_cases hrg : 0 ≤ (nodeAt l (j + 1)).up ∧ (nodeAt l (j + 1)).up ≤ j
          · obtain ⟨u, hu2⟩ := Int.eq_ofNat_of_zero_le hrg.1
            have huj : u < j + 1 := by omega
            have hul : u < l.length := by omega
            have hin : decide ((-1 : Int) ≤ (u : Int) ∧ (u : Int) ≤ (j : Int)) = true := decide_eq_true (by omega)
            have hku : upAt l (j + 1) = (u : Int) := hu2
            have HKU : Hid (upAt l (j + 1) = (u : Int)) := hku
            rw [hu2] at q1
            have hu1 : ((u : Int) == -1) = false := beq_eq_false_iff_ne.2 (by omega)
            have hj0 : ((j : Int) + 1 == 0) = false := beq_eq_false_iff_ne.2 (by omega)
            have hj1 : 0 < (j : Int) + 1 := by omega
            clear hu2 hku hrg
            by_cases hat : attrsB (nodeAt l (j + 1)).attrs = true
            · obtain ⟨x0, x1, ⟨xa, xc, x2, xcap, x4⟩, x3⟩ := HCL.out u hul
              obtain ⟨j0, j1, ⟨ja, jc, j2, jcap, j4⟩, j3⟩ := HCL.out j (by omega)
              clear x1 x2 x3 x4 xcap j2 j3 j4 jcap
              have HDK : Hid (∀ W, Nw wr W → Hid (Calls Tryz.prog 90 #[.slice (some ⟨b, o, none⟩) l.length c, .int .i64 ((j : Int) + 1)] W fun e w' => e = .returned (.int .i64 (deepN l ((j : Int) + 1))) ∧ w' = W)) := by
                intro W kW
                have hups : Ups l (j + 1 + 1) := by
                  intro i hi
                  by_cases ci : i < j + 1
                  · exact HU.out i ci
                  · have : i = j + 1 := by omega
                    subst this
                    rw [HKU.out]; omega
                exact sdeep W (some ⟨b, o, none⟩) c l (j + 1 + 1) ((j : Int) + 1) hl (HRR.out.nw kW) hups (by omega) (by omega) (by omega)
              by_cases hmt : meetsN l (u : Int) (j : Int) = true
              · have HD : Hid (meetsN l (u : Int) (j : Int) = true) := hmt
                have HPU : Hid (placeB l j = (named l u && (if named l (j + 1) = true then decide (deepN l (u : Int) < 10) else (named l j || !decide (upAt l j = (u : Int)))))) := place_u (by rw [HKU.out]; exact hmt) HKU.out
                clear hmt
                by_cases su : (nodeAt l u).name.size = 0
                · have HN : Hid (goodB l = false) := bad_of hlt (ok_place (by rw [HPU.out]; simp [named, su]))
                  rw [empty_of su] at x0
                  clear su
                  go_wp2_with (first | (go_at_call 61; refine (in_any _ _ _ _).mono ?_; rw [hin]; rintro e w' ⟨rfl, rfl⟩) | (go_at_call 88; refine Calls.mono (HA _ ((Below.refl _ _).alloc (Nat.le_refl _) _)).out ?_; rw [hat]; rintro e w2 ⟨rfl, k2⟩; obtain ⟨hc2, hf2⟩ := bcell k2))
                  go_loop [5] (fun y => ∃ K : Int, -1 ≤ K ∧ K < (j : Int) + 1 ∧ y = .int .i64 K ∧ meetsN l (u : Int) K = true) (fun y => ((intOf y) + 1).toNat)
                  case atStart => exact ⟨(j : Int), by omega, by omega, rfl, HD.out⟩
                  case round =>
                    obtain ⟨K, hK0, hK1, rfl, hdd⟩ := hrel
                    by_cases hneg : K < 0
                    · rw [meetsN_neg l _ K hneg] at hdd; simp at hdd
                    · obtain ⟨m, rfl⟩ := Int.eq_ofNat_of_zero_le (show 0 ≤ K by omega)
                      have hm : m < l.length := by omega
                      have mi : (m : Int) < (l.length : Int) := by omega
                      by_cases hx : (m : Int) = (u : Int)
                      · have hmu : m = u := by omega
                        subst hmu
                        clear hdd hneg hx
                        go_wp2_with fail
                        go_ret
                        exact ⟨ret_bool HN.out.symm, HW.out.trans (Nw.trans (show Nw wr (wr.alloc _) from (Below.refl _ _).alloc (Nat.le_refl _) _) k2)⟩
                      · have hnx : ((m : Int) != (u : Int)) = true := bne_iff_ne.2 hx
                        have hup := HU.out m (by omega)
                        have hdu := meetsN_up l (u : Int) (m : Int) (j + 1) HU.out (by omega) (by omega) (by omega) hx
                        simp only [Int.toNat_natCast] at hdu
                        obtain ⟨_, m1, _, _⟩ := HCL.out m hm
                        have HNX : Hid (meetsN l (u : Int) (upAt l m) = true) := by show meetsN l _ _ = _; rw [← hdu]; exact hdd
                        unfold upAt at hup HNX
                        clear hdd hdu
                        generalize (nodeAt l m).up = UM at *
                        go_wp2
                        go_round
                        case rel => exact ⟨UM, by omega, by omega, rfl, HNX.out⟩
                        case measure => simp [intOf]; omega
                · have hnu : named l u = true := by simp [named, su]
                  have u1 := ne_nil (s := (nodeAt l u).name) (by omega)
                  have u2 := ne_emp (s := (nodeAt l u).name) (by omega)
                  rw [hnu, Bool.true_and] at HPU
                  clear su hnu
                  by_cases sk : (nodeAt l (j + 1)).name.size = 0
                  · have hnk : ¬ named l (j + 1) = true := by simp [named, sk]
                    rw [if_neg hnk] at HPU
                    have hel : elemB (nodeAt l (j + 1)) = false := by
                      unfold elemB
                      rw [nameB_no fun h => by have := h.1.1; omega]; rfl
                    have HEL : Hid (elemB (nodeAt l (j + 1)) = false) := hel
                    rw [empty_of sk] at q0
                    clear hnk hel
                    by_cases sa : (nodeAt l (j + 1)).attrs.length = 0
                    · have HA2 : ∀ W, Nw wr W → Hid (Calls Tryz.prog 88 #[.slice qa 0 qc] W fun e w' => e = .returned (.bool (attrsB (nodeAt l (j + 1)).attrs)) ∧ Nw W w') := fun W kW => by
                        have h := (HA W kW).out
                        unfold SAttrsSays at h
                        rw [sa] at h
                        exact h
                      rw [sa] at q2
                      clear HA
                      have HA := HA2
                      clear HA2
                      by_cases st : (nodeAt l (j + 1)).text.size = 0
                      · have HN : Hid (goodB l = false) := bad_of hlt (by rw [okB_s, HEL.out]; simp [textB, st])
                        rw [empty_of st] at q3
                        clear st sk sa
                        go_wp2_with (first | (go_at_call 61; refine (in_any _ _ _ _).mono ?_; rw [hin]; rintro e w' ⟨rfl, rfl⟩) | (go_at_call 88; refine Calls.mono (HA _ ((Below.refl _ _).alloc (Nat.le_refl _) _)).out ?_; rw [hat]; rintro e w2 ⟨rfl, k2⟩; obtain ⟨hc2, hf2⟩ := bcell k2))
                        go_loop [5] (fun y => ∃ K : Int, -1 ≤ K ∧ K < (j : Int) + 1 ∧ y = .int .i64 K ∧ meetsN l (u : Int) K = true) (fun y => ((intOf y) + 1).toNat)
                        case atStart => exact ⟨(j : Int), by omega, by omega, rfl, HD.out⟩
                        case round =>
                          obtain ⟨K, hK0, hK1, rfl, hdd⟩ := hrel
                          by_cases hneg : K < 0
                          · rw [meetsN_neg l _ K hneg] at hdd; simp at hdd
                          · obtain ⟨m, rfl⟩ := Int.eq_ofNat_of_zero_le (show 0 ≤ K by omega)
                            have hm : m < l.length := by omega
                            have mi : (m : Int) < (l.length : Int) := by omega
                            by_cases hx : (m : Int) = (u : Int)
                            · have hmu : m = u := by omega
                              subst hmu
                              clear hdd hneg hx
                              go_wp2_with fail
                              go_ret
                              exact ⟨ret_bool HN.out.symm, HW.out.trans (Nw.trans (show Nw wr (wr.alloc _) from (Below.refl _ _).alloc (Nat.le_refl _) _) k2)⟩
                            · have hnx : ((m : Int) != (u : Int)) = true := bne_iff_ne.2 hx
                              have hup := HU.out m (by omega)
                              have hdu := meetsN_up l (u : Int) (m : Int) (j + 1) HU.out (by omega) (by omega) (by omega) hx
                              simp only [Int.toNat_natCast] at hdu
                              obtain ⟨_, m1, _, _⟩ := HCL.out m hm
                              have HNX : Hid (meetsN l (u : Int) (upAt l m) = true) := by show meetsN l _ _ = _; rw [← hdu]; exact hdd
                              unfold upAt at hup HNX
                              clear hdd hdu
                              generalize (nodeAt l m).up = UM at *
                              go_wp2
                              go_round
                              case rel => exact ⟨UM, by omega, by omega, rfl, HNX.out⟩
                              case measure => simp [intOf]; omega
                      · have t1 := ne_nil (s := (nodeAt l (j + 1)).text) (by omega)
                        have t2 := ne_emp (s := (nodeAt l (j + 1)).text) (by omega)
                        by_cases hrn : runesB (nodeAt l (j + 1)).text = true
                        · have hsb : decide (0 ≤ sbadV (nodeAt l (j + 1)).text) = false := by rw [sbad_ge, hrn]; rfl
                          have HTX : Hid (textB (nodeAt l (j + 1)) = true) := by show textB _ = true; simp [textB, sk, sa, st, hrn]
                          clear st sk hrn
                          by_cases sj : (nodeAt l j).name.size = 0
                          · rw [empty_of sj] at j0
                            by_cases uj : (nodeAt l j).up = (u : Int)
                            · have HN : Hid (goodB l = false) := bad_of hlt (ok_place (by rw [HPU.out]; simp [named, sj, upAt, uj]))
                              rw [uj] at j1
                              have ub : ((u : Int) == (u : Int)) = true := by simp
                              clear sj uj sa
                              go_wp2_with (first | (go_at_call 61; refine (in_any _ _ _ _).mono ?_; rw [hin]; rintro e w' ⟨rfl, rfl⟩) | (go_at_call 88; refine Calls.mono (HA _ ((Below.refl _ _).alloc (Nat.le_refl _) _)).out ?_; rw [hat]; rintro e w2 ⟨rfl, k2⟩; obtain ⟨hc2, hf2⟩ := bcell k2))
                              go_loop [5] (fun y => ∃ K : Int, -1 ≤ K ∧ K < (j : Int) + 1 ∧ y = .int .i64 K ∧ meetsN l (u : Int) K = true) (fun y => ((intOf y) + 1).toNat)
                              case atStart => exact ⟨(j : Int), by omega, by omega, rfl, HD.out⟩
                              case round =>
                                obtain ⟨K, hK0, hK1, rfl, hdd⟩ := hrel
                                by_cases hneg : K < 0
                                · rw [meetsN_neg l _ K hneg] at hdd; simp at hdd
                                · obtain ⟨m, rfl⟩ := Int.eq_ofNat_of_zero_le (show 0 ≤ K by omega)
                                  have hm : m < l.length := by omega
                                  have mi : (m : Int) < (l.length : Int) := by omega
                                  by_cases hx : (m : Int) = (u : Int)
                                  · have hmu : m = u := by omega
                                    subst hmu
                                    clear hdd hneg hx
                                    go_wp2_with (go_at_call 91; refine (sbad _ _ y2).mono ?_; rintro e w3 ⟨rfl, hq⟩; have hq2 := hq.symm; clear hq; subst hq2)
                                    have NN : Nw wr w2 := Nw.trans (show Nw wr (wr.alloc _) from (Below.refl _ _).alloc (Nat.le_refl _) _) k2
                                    have z0 := ((bcell NN).1 _ _ hbr).trans j0
                                    have z1 := ((bcell NN).1 _ _ hbr).trans j1
                                    have zu : w2.cell? ⟨wr.heap.size, 1, none⟩ = some (.int .i64 (m : Int)) := (hc2 _ 1 (by simp)).trans (by simp)
                                    have hw1 : IntKind.i64.wrap ((j : Int) + 1 - 1) = (j : Int) := by rw [show (j : Int) + 1 - 1 = j by omega]; exact IntWalk.i64_in _ ⟨by omega, by omega⟩
                                    have g1 : (0 : Int) ≤ (j : Int) := by omega
                                    have g2 : (j : Int) < (l.length : Int) := by omega
                                    clear hc2 hf2 NN HA
                                    go_quiet (fail)
                                    go_wp2
                                    go_ret
                                    exact ⟨ret_bool HN.out.symm, HW.out.trans (Nw.trans (Nw.trans (show Nw wr (wr.alloc _) from (Below.refl _ _).alloc (Nat.le_refl _) _) k2) ((Kp.refl _).drewN _).nw)⟩
                                  · have hnx : ((m : Int) != (u : Int)) = true := bne_iff_ne.2 hx
                                    have hup := HU.out m (by omega)
                                    have hdu := meetsN_up l (u : Int) (m : Int) (j + 1) HU.out (by omega) (by omega) (by omega) hx
                                    simp only [Int.toNat_natCast] at hdu
                                    obtain ⟨_, m1, _, _⟩ := HCL.out m hm
                                    have HNX : Hid (meetsN l (u : Int) (upAt l m) = true) := by show meetsN l _ _ = _; rw [← hdu]; exact hdd
                                    unfold upAt at hup HNX
                                    clear hdd hdu
                                    generalize (nodeAt l m).up = UM at *
                                    go_wp2
                                    go_round
                                    case rel => exact ⟨UM, by omega, by omega, rfl, HNX.out⟩
                                    case measure => simp [intOf]; omega
                            · have HK : Hid (okB l (j + 1) = true) := by show okB l (j + 1) = true; rw [okB_s, HTX.out, HPU.out]; simp [named, sj, upAt, uj]
                              have ub : ((nodeAt l j).up == (u : Int)) = false := beq_eq_false_iff_ne.2 uj
                              clear sj uj sa
                              go_wp2_with (first | (go_at_call 61; refine (in_any _ _ _ _).mono ?_; rw [hin]; rintro e w' ⟨rfl, rfl⟩) | (go_at_call 88; refine Calls.mono (HA _ ((Below.refl _ _).alloc (Nat.le_refl _) _)).out ?_; rw [hat]; rintro e w2 ⟨rfl, k2⟩; obtain ⟨hc2, hf2⟩ := bcell k2))
                              go_loop [5] (fun y => ∃ K : Int, -1 ≤ K ∧ K < (j : Int) + 1 ∧ y = .int .i64 K ∧ meetsN l (u : Int) K = true) (fun y => ((intOf y) + 1).toNat)
                              case atStart => exact ⟨(j : Int), by omega, by omega, rfl, HD.out⟩
                              case round =>
                                obtain ⟨K, hK0, hK1, rfl, hdd⟩ := hrel
                                by_cases hneg : K < 0
                                · rw [meetsN_neg l _ K hneg] at hdd; simp at hdd
                                · obtain ⟨m, rfl⟩ := Int.eq_ofNat_of_zero_le (show 0 ≤ K by omega)
                                  have hm : m < l.length := by omega
                                  have mi : (m : Int) < (l.length : Int) := by omega
                                  by_cases hx : (m : Int) = (u : Int)
                                  · have hmu : m = u := by omega
                                    subst hmu
                                    clear hdd hneg hx
                                    go_wp2_with (go_at_call 91; refine (sbad _ _ y2).mono ?_; rintro e w3 ⟨rfl, hq⟩; have hq2 := hq.symm; clear hq; subst hq2)
                                    have NN : Nw wr w2 := Nw.trans (show Nw wr (wr.alloc _) from (Below.refl _ _).alloc (Nat.le_refl _) _) k2
                                    have z0 := ((bcell NN).1 _ _ hbr).trans j0
                                    have z1 := ((bcell NN).1 _ _ hbr).trans j1
                                    have zu : w2.cell? ⟨wr.heap.size, 1, none⟩ = some (.int .i64 (m : Int)) := (hc2 _ 1 (by simp)).trans (by simp)
                                    have hw1 : IntKind.i64.wrap ((j : Int) + 1 - 1) = (j : Int) := by rw [show (j : Int) + 1 - 1 = j by omega]; exact IntWalk.i64_in _ ⟨by omega, by omega⟩
                                    have g1 : (0 : Int) ≤ (j : Int) := by omega
                                    have g2 : (j : Int) < (l.length : Int) := by omega
                                    clear hc2 hf2 NN HA
                                    go_quiet (fail)
                                    go_wp2
                                    go_roundw
                                    case rel => exact ⟨j + 1 + 1, by omega, by go_num, HO.out.step HK.out, HW.out.trans (Nw.trans (Nw.trans (show Nw wr (wr.alloc _) from (Below.refl _ _).alloc (Nat.le_refl _) _) k2) ((Kp.refl _).drewN _).nw)⟩
                                    case measure => simp [intOf]; omega
                                  · have hnx : ((m : Int) != (u : Int)) = true := bne_iff_ne.2 hx
                                    have hup := HU.out m (by omega)
                                    have hdu := meetsN_up l (u : Int) (m : Int) (j + 1) HU.out (by omega) (by omega) (by omega) hx
                                    simp only [Int.toNat_natCast] at hdu
                                    obtain ⟨_, m1, _, _⟩ := HCL.out m hm
                                    have HNX : Hid (meetsN l (u : Int) (upAt l m) = true) := by show meetsN l _ _ = _; rw [← hdu]; exact hdd
                                    unfold upAt at hup HNX
                                    clear hdd hdu
                                    generalize (nodeAt l m).up = UM at *
                                    go_wp2
                                    go_round
                                    case rel => exact ⟨UM, by omega, by omega, rfl, HNX.out⟩
                                    case measure => simp [intOf]; omega
                          · have v1 := ne_nil (s := (nodeAt l j).name) (by omega)
                            have v2 := ne_emp (s := (nodeAt l j).name) (by omega)
                            have HK : Hid (okB l (j + 1) = true) := by show okB l (j + 1) = true; rw [okB_s, HTX.out, HPU.out]; simp [named, sj]
                            clear sj sa
                            go_wp2_with (first | (go_at_call 61; refine (in_any _ _ _ _).mono ?_; rw [hin]; rintro e w' ⟨rfl, rfl⟩) | (go_at_call 88; refine Calls.mono (HA _ ((Below.refl _ _).alloc (Nat.le_refl _) _)).out ?_; rw [hat]; rintro e w2 ⟨rfl, k2⟩; obtain ⟨hc2, hf2⟩ := bcell k2))
                            go_loop [5] (fun y => ∃ K : Int, -1 ≤ K ∧ K < (j : Int) + 1 ∧ y = .int .i64 K ∧ meetsN l (u : Int) K = true) (fun y => ((intOf y) + 1).toNat)
                            case atStart => exact ⟨(j : Int), by omega, by omega, rfl, HD.out⟩
                            case round =>
                              obtain ⟨K, hK0, hK1, rfl, hdd⟩ := hrel
                              by_cases hneg : K < 0
                              · rw [meetsN_neg l _ K hneg] at hdd; simp at hdd
                              · obtain ⟨m, rfl⟩ := Int.eq_ofNat_of_zero_le (show 0 ≤ K by omega)
                                have hm : m < l.length := by omega
                                have mi : (m : Int) < (l.length : Int) := by omega
                                by_cases hx : (m : Int) = (u : Int)
                                · have hmu : m = u := by omega
                                  subst hmu
                                  clear hdd hneg hx
                                  go_wp2_with (go_at_call 91; refine (sbad _ _ y2).mono ?_; rintro e w3 ⟨rfl, hq⟩; have hq2 := hq.symm; clear hq; subst hq2)
                                  have NN : Nw wr w2 := Nw.trans (show Nw wr (wr.alloc _) from (Below.refl _ _).alloc (Nat.le_refl _) _) k2
                                  have z0 := ((bcell NN).1 _ _ hbr).trans j0
                                  have z1 := ((bcell NN).1 _ _ hbr).trans j1
                                  have zu : w2.cell? ⟨wr.heap.size, 1, none⟩ = some (.int .i64 (m : Int)) := (hc2 _ 1 (by simp)).trans (by simp)
                                  have hw1 : IntKind.i64.wrap ((j : Int) + 1 - 1) = (j : Int) := by rw [show (j : Int) + 1 - 1 = j by omega]; exact IntWalk.i64_in _ ⟨by omega, by omega⟩
                                  have g1 : (0 : Int) ≤ (j : Int) := by omega
                                  have g2 : (j : Int) < (l.length : Int) := by omega
                                  clear hc2 hf2 NN HA
                                  go_quiet (fail)
                                  go_wp2
                                  go_roundw
                                  case rel => exact ⟨j + 1 + 1, by omega, by go_num, HO.out.step HK.out, HW.out.trans (Nw.trans (Nw.trans (show Nw wr (wr.alloc _) from (Below.refl _ _).alloc (Nat.le_refl _) _) k2) ((Kp.refl _).drewN _).nw)⟩
                                  case measure => simp [intOf]; omega
                                · have hnx : ((m : Int) != (u : Int)) = true := bne_iff_ne.2 hx
                                  have hup := HU.out m (by omega)
                                  have hdu := meetsN_up l (u : Int) (m : Int) (j + 1) HU.out (by omega) (by omega) (by omega) hx
                                  simp only [Int.toNat_natCast] at hdu
                                  obtain ⟨_, m1, _, _⟩ := HCL.out m hm
                                  have HNX : Hid (meetsN l (u : Int) (upAt l m) = true) := by show meetsN l _ _ = _; rw [← hdu]; exact hdd
                                  unfold upAt at hup HNX
                                  clear hdd hdu
                                  generalize (nodeAt l m).up = UM at *
                                  go_wp2
                                  go_round
                                  case rel => exact ⟨UM, by omega, by omega, rfl, HNX.out⟩
                                  case measure => simp [intOf]; omega
                        · have hsb : decide (0 ≤ sbadV (nodeAt l (j + 1)).text) = true := by rw [sbad_ge]; simpa using hrn
                          have HN : Hid (goodB l = false) := bad_of hlt (by rw [okB_s, HEL.out]; simp [textB, hrn])
                          clear st sk hrn sa
                          go_wp2_with (first | (go_at_call 61; refine (in_any _ _ _ _).mono ?_; rw [hin]; rintro e w' ⟨rfl, rfl⟩) | (go_at_call 88; refine Calls.mono (HA _ ((Below.refl _ _).alloc (Nat.le_refl _) _)).out ?_; rw [hat]; rintro e w2 ⟨rfl, k2⟩; obtain ⟨hc2, hf2⟩ := bcell k2))
                          go_loop [5] (fun y => ∃ K : Int, -1 ≤ K ∧ K < (j : Int) + 1 ∧ y = .int .i64 K ∧ meetsN l (u : Int) K = true) (fun y => ((intOf y) + 1).toNat)
                          case atStart => exact ⟨(j : Int), by omega, by omega, rfl, HD.out⟩
                          case round =>
                            obtain ⟨K, hK0, hK1, rfl, hdd⟩ := hrel
                            by_cases hneg : K < 0
                            · rw [meetsN_neg l _ K hneg] at hdd; simp at hdd
                            · obtain ⟨m, rfl⟩ := Int.eq_ofNat_of_zero_le (show 0 ≤ K by omega)
                              have hm : m < l.length := by omega
                              have mi : (m : Int) < (l.length : Int) := by omega
                              by_cases hx : (m : Int) = (u : Int)
                              · have hmu : m = u := by omega
                                subst hmu
                                clear hdd hneg hx
                                go_wp2_with (go_at_call 91; refine (sbad _ _ y2).mono ?_; rintro e w3 ⟨rfl, hq⟩; have hq2 := hq.symm; clear hq; subst hq2)
                                go_ret
                                exact ⟨ret_bool HN.out.symm, HW.out.trans (Nw.trans (show Nw wr (wr.alloc _) from (Below.refl _ _).alloc (Nat.le_refl _) _) k2)⟩
                              · have hnx : ((m : Int) != (u : Int)) = true := bne_iff_ne.2 hx
                                have hup := HU.out m (by omega)
                                have hdu := meetsN_up l (u : Int) (m : Int) (j + 1) HU.out (by omega) (by omega) (by omega) hx
                                simp only [Int.toNat_natCast] at hdu
                                obtain ⟨_, m1, _, _⟩ := HCL.out m hm
                                have HNX : Hid (meetsN l (u : Int) (upAt l m) = true) := by show meetsN l _ _ = _; rw [← hdu]; exact hdd
                                unfold upAt at hup HNX
                                clear hdd hdu
                                generalize (nodeAt l m).up = UM at *
                                go_wp2
                                go_round
                                case rel => exact ⟨UM, by omega, by omega, rfl, HNX.out⟩
                                case measure => simp [intOf]; omega
                    · have ha1 : 0 < (nodeAt l (j + 1)).attrs.length := by omega
                      have ha2 : ¬ (nodeAt l (j + 1)).attrs = [] := by intro e; rw [e] at ha1; simp at ha1
                      have HN : Hid (goodB l = false) := bad_of hlt (by rw [okB_s, HEL.out]; simp [textB, sa])
                      clear sk sa
                      go_wp2_with (first | (go_at_call 61; refine (in_any _ _ _ _).mono ?_; rw [hin]; rintro e w' ⟨rfl, rfl⟩) | (go_at_call 88; refine Calls.mono (HA _ ((Below.refl _ _).alloc (Nat.le_refl _) _)).out ?_; rw [hat]; rintro e w2 ⟨rfl, k2⟩; obtain ⟨hc2, hf2⟩ := bcell k2))
                      go_loop [5] (fun y => ∃ K : Int, -1 ≤ K ∧ K < (j : Int) + 1 ∧ y = .int .i64 K ∧ meetsN l (u : Int) K = true) (fun y => ((intOf y) + 1).toNat)
                      case atStart => exact ⟨(j : Int), by omega, by omega, rfl, HD.out⟩
                      case round =>
                        obtain ⟨K, hK0, hK1, rfl, hdd⟩ := hrel
                        by_cases hneg : K < 0
                        · rw [meetsN_neg l _ K hneg] at hdd; simp at hdd
                        · obtain ⟨m, rfl⟩ := Int.eq_ofNat_of_zero_le (show 0 ≤ K by omega)
                          have hm : m < l.length := by omega
                          have mi : (m : Int) < (l.length : Int) := by omega
                          by_cases hx : (m : Int) = (u : Int)
                          · have hmu : m = u := by omega
                            subst hmu
                            clear hdd hneg hx
                            go_wp2_with fail
                            go_ret
                            exact ⟨ret_bool HN.out.symm, HW.out.trans (Nw.trans (show Nw wr (wr.alloc _) from (Below.refl _ _).alloc (Nat.le_refl _) _) k2)⟩
                          · have hnx : ((m : Int) != (u : Int)) = true := bne_iff_ne.2 hx
                            have hup := HU.out m (by omega)
                            have hdu := meetsN_up l (u : Int) (m : Int) (j + 1) HU.out (by omega) (by omega) (by omega) hx
                            simp only [Int.toNat_natCast] at hdu
                            obtain ⟨_, m1, _, _⟩ := HCL.out m hm
                            have HNX : Hid (meetsN l (u : Int) (upAt l m) = true) := by show meetsN l _ _ = _; rw [← hdu]; exact hdd
                            unfold upAt at hup HNX
                            clear hdd hdu
                            generalize (nodeAt l m).up = UM at *
                            go_wp2
                            go_round
                            case rel => exact ⟨UM, by omega, by omega, rfl, HNX.out⟩
                            case measure => simp [intOf]; omega
                  · have hnk : named l (j + 1) = true := by simp [named, sk]
                    rw [if_pos hnk] at HPU
                    have HTX : Hid (textB (nodeAt l (j + 1)) = false) := by show textB _ = false; simp [textB, sk]
                    have n1 := ne_nil (s := (nodeAt l (j + 1)).name) (by omega)
                    have n2 := ne_emp (s := (nodeAt l (j + 1)).name) (by omega)
                    clear hnk sk
                    by_cases hnb : nameB (nodeAt l (j + 1)).name = true
                    · by_cases st : (nodeAt l (j + 1)).text.size = 0
                      · have hdn : deepN l ((j : Int) + 1) = deepN l (u : Int) + 1 := by
                          have hups : Ups l (j + 1 + 1) := by
                            intro i hi
                            by_cases ci : i < j + 1
                            · exact HU.out i ci
                            · have : i = j + 1 := by omega
                              subst this
                              rw [HKU.out]; omega
                          have := deepN_up l ((j : Int) + 1) (j + 1 + 1) hups (by omega) (by omega) (by omega)
                          rw [show ((j : Int) + 1).toNat = j + 1 by omega, HKU.out] at this
                          exact this
                        have HEL : Hid (elemB (nodeAt l (j + 1)) = true) := by show elemB _ = true; unfold elemB; rw [hnb, hat]; simp [st]
                        rw [empty_of st] at q3
                        clear st
                        by_cases hdp : deepN l (u : Int) < 10
                        · have hd9 : decide ((10 : Int) < (deepN l ((j : Int) + 1) : Int)) = false := decide_eq_false (by omega)
                          have HK : Hid (okB l (j + 1) = true) := by show okB l (j + 1) = true; rw [okB_s, HEL.out, HPU.out]; simp [hdp]
                          clear hdp hdn
                          go_wp2_with (first | (go_at_call 61; refine (in_any _ _ _ _).mono ?_; rw [hin]; rintro e w' ⟨rfl, rfl⟩) | (go_at_call 88; refine Calls.mono (HA _ ((Below.refl _ _).alloc (Nat.le_refl _) _)).out ?_; rw [hat]; rintro e w2 ⟨rfl, k2⟩; obtain ⟨hc2, hf2⟩ := bcell k2))
                          go_loop [5] (fun y => ∃ K : Int, -1 ≤ K ∧ K < (j : Int) + 1 ∧ y = .int .i64 K ∧ meetsN l (u : Int) K = true) (fun y => ((intOf y) + 1).toNat)
                          case atStart => exact ⟨(j : Int), by omega, by omega, rfl, HD.out⟩
                          case round =>
                            obtain ⟨K, hK0, hK1, rfl, hdd⟩ := hrel
                            by_cases hneg : K < 0
                            · rw [meetsN_neg l _ K hneg] at hdd; simp at hdd
                            · obtain ⟨m, rfl⟩ := Int.eq_ofNat_of_zero_le (show 0 ≤ K by omega)
                              have hm : m < l.length := by omega
                              have mi : (m : Int) < (l.length : Int) := by omega
                              by_cases hx : (m : Int) = (u : Int)
                              · have hmu : m = u := by omega
                                subst hmu
                                clear hdd hneg hx
                                go_wp2_with (first | (go_at_call 89; refine (sname _ _ y1).mono ?_; rw [hnb]; rintro e w3 ⟨rfl, hq⟩; have hq2 := hq.symm; clear hq; subst hq2) | (go_at_call 90; refine Calls.mono (HDK.out _ (Nw.trans (show Nw wr (wr.alloc _) from (Below.refl _ _).alloc (Nat.le_refl _) _) k2)).out ?_; rintro e w3 ⟨rfl, hq⟩; have hq2 := hq.symm; clear hq; subst hq2))
                                go_roundw
                                case rel => exact ⟨j + 1 + 1, by omega, by go_num, HO.out.step HK.out, HW.out.trans (Nw.trans (show Nw wr (wr.alloc _) from (Below.refl _ _).alloc (Nat.le_refl _) _) k2)⟩
                                case measure => simp [intOf]; omega
                              · have hnx : ((m : Int) != (u : Int)) = true := bne_iff_ne.2 hx
                                have hup := HU.out m (by omega)
                                have hdu := meetsN_up l (u : Int) (m : Int) (j + 1) HU.out (by omega) (by omega) (by omega) hx
                                simp only [Int.toNat_natCast] at hdu
                                obtain ⟨_, m1, _, _⟩ := HCL.out m hm
                                have HNX : Hid (meetsN l (u : Int) (upAt l m) = true) := by show meetsN l _ _ = _; rw [← hdu]; exact hdd
                                unfold upAt at hup HNX
                                clear hdd hdu
                                generalize (nodeAt l m).up = UM at *
                                go_wp2
                                go_round
                                case rel => exact ⟨UM, by omega, by omega, rfl, HNX.out⟩
                                case measure => simp [intOf]; omega
                        · have hd9 : decide ((10 : Int) < (deepN l ((j : Int) + 1) : Int)) = true := decide_eq_true (by omega)
                          have HN : Hid (goodB l = false) := bad_of hlt (ok_place (by rw [HPU.out]; simp; omega))
                          clear hdp hdn
                          go_wp2_with (first | (go_at_call 61; refine (in_any _ _ _ _).mono ?_; rw [hin]; rintro e w' ⟨rfl, rfl⟩) | (go_at_call 88; refine Calls.mono (HA _ ((Below.refl _ _).alloc (Nat.le_refl _) _)).out ?_; rw [hat]; rintro e w2 ⟨rfl, k2⟩; obtain ⟨hc2, hf2⟩ := bcell k2))
                          go_loop [5] (fun y => ∃ K : Int, -1 ≤ K ∧ K < (j : Int) + 1 ∧ y = .int .i64 K ∧ meetsN l (u : Int) K = true) (fun y => ((intOf y) + 1).toNat)
                          case atStart => exact ⟨(j : Int), by omega, by omega, rfl, HD.out⟩
                          case round =>
                            obtain ⟨K, hK0, hK1, rfl, hdd⟩ := hrel
                            by_cases hneg : K < 0
                            · rw [meetsN_neg l _ K hneg] at hdd; simp at hdd
                            · obtain ⟨m, rfl⟩ := Int.eq_ofNat_of_zero_le (show 0 ≤ K by omega)
                              have hm : m < l.length := by omega
                              have mi : (m : Int) < (l.length : Int) := by omega
                              by_cases hx : (m : Int) = (u : Int)
                              · have hmu : m = u := by omega
                                subst hmu
                                clear hdd hneg hx
                                go_wp2_with (first | (go_at_call 89; refine (sname _ _ y1).mono ?_; rw [hnb]; rintro e w3 ⟨rfl, hq⟩; have hq2 := hq.symm; clear hq; subst hq2) | (go_at_call 90; refine Calls.mono (HDK.out _ (Nw.trans (show Nw wr (wr.alloc _) from (Below.refl _ _).alloc (Nat.le_refl _) _) k2)).out ?_; rintro e w3 ⟨rfl, hq⟩; have hq2 := hq.symm; clear hq; subst hq2))
                                go_ret
                                exact ⟨ret_bool HN.out.symm, HW.out.trans (Nw.trans (show Nw wr (wr.alloc _) from (Below.refl _ _).alloc (Nat.le_refl _) _) k2)⟩
                              · have hnx : ((m : Int) != (u : Int)) = true := bne_iff_ne.2 hx
                                have hup := HU.out m (by omega)
                                have hdu := meetsN_up l (u : Int) (m : Int) (j + 1) HU.out (by omega) (by omega) (by omega) hx
                                simp only [Int.toNat_natCast] at hdu
                                obtain ⟨_, m1, _, _⟩ := HCL.out m hm
                                have HNX : Hid (meetsN l (u : Int) (upAt l m) = true) := by show meetsN l _ _ = _; rw [← hdu]; exact hdd
                                unfold upAt at hup HNX
                                clear hdd hdu
                                generalize (nodeAt l m).up = UM at *
                                go_wp2
                                go_round
                                case rel => exact ⟨UM, by omega, by omega, rfl, HNX.out⟩
                                case measure => simp [intOf]; omega
                      · have t1 := ne_nil (s := (nodeAt l (j + 1)).text) (by omega)
                        have t2 := ne_emp (s := (nodeAt l (j + 1)).text) (by omega)
                        have HN : Hid (goodB l = false) := bad_of hlt (by rw [okB_s, HTX.out]; simp [elemB, st])
                        clear st
                        go_wp2_with (first | (go_at_call 61; refine (in_any _ _ _ _).mono ?_; rw [hin]; rintro e w' ⟨rfl, rfl⟩) | (go_at_call 88; refine Calls.mono (HA _ ((Below.refl _ _).alloc (Nat.le_refl _) _)).out ?_; rw [hat]; rintro e w2 ⟨rfl, k2⟩; obtain ⟨hc2, hf2⟩ := bcell k2))
                        go_loop [5] (fun y => ∃ K : Int, -1 ≤ K ∧ K < (j : Int) + 1 ∧ y = .int .i64 K ∧ meetsN l (u : Int) K = true) (fun y => ((intOf y) + 1).toNat)
                        case atStart => exact ⟨(j : Int), by omega, by omega, rfl, HD.out⟩
                        case round =>
                          obtain ⟨K, hK0, hK1, rfl, hdd⟩ := hrel
                          by_cases hneg : K < 0
                          · rw [meetsN_neg l _ K hneg] at hdd; simp at hdd
                          · obtain ⟨m, rfl⟩ := Int.eq_ofNat_of_zero_le (show 0 ≤ K by omega)
                            have hm : m < l.length := by omega
                            have mi : (m : Int) < (l.length : Int) := by omega
                            by_cases hx : (m : Int) = (u : Int)
                            · have hmu : m = u := by omega
                              subst hmu
                              clear hdd hneg hx
                              go_wp2_with (go_at_call 89; refine (sname _ _ y1).mono ?_; rw [hnb]; rintro e w3 ⟨rfl, hq⟩; have hq2 := hq.symm; clear hq; subst hq2)
                              go_ret
                              exact ⟨ret_bool HN.out.symm, HW.out.trans (Nw.trans (show Nw wr (wr.alloc _) from (Below.refl _ _).alloc (Nat.le_refl _) _) k2)⟩
                            · have hnx : ((m : Int) != (u : Int)) = true := bne_iff_ne.2 hx
                              have hup := HU.out m (by omega)
                              have hdu := meetsN_up l (u : Int) (m : Int) (j + 1) HU.out (by omega) (by omega) (by omega) hx
                              simp only [Int.toNat_natCast] at hdu
                              obtain ⟨_, m1, _, _⟩ := HCL.out m hm
                              have HNX : Hid (meetsN l (u : Int) (upAt l m) = true) := by show meetsN l _ _ = _; rw [← hdu]; exact hdd
                              unfold upAt at hup HNX
                              clear hdd hdu
                              generalize (nodeAt l m).up = UM at *
                              go_wp2
                              go_round
                              case rel => exact ⟨UM, by omega, by omega, rfl, HNX.out⟩
                              case measure => simp [intOf]; omega
                    · have hnb' : nameB (nodeAt l (j + 1)).name = false := by simpa using hnb
                      have HN : Hid (goodB l = false) := bad_of hlt (by rw [okB_s, HTX.out]; simp [elemB, hnb'])
                      clear hnb
                      go_wp2_with (first | (go_at_call 61; refine (in_any _ _ _ _).mono ?_; rw [hin]; rintro e w' ⟨rfl, rfl⟩) | (go_at_call 88; refine Calls.mono (HA _ ((Below.refl _ _).alloc (Nat.le_refl _) _)).out ?_; rw [hat]; rintro e w2 ⟨rfl, k2⟩; obtain ⟨hc2, hf2⟩ := bcell k2))
                      go_loop [5] (fun y => ∃ K : Int, -1 ≤ K ∧ K < (j : Int) + 1 ∧ y = .int .i64 K ∧ meetsN l (u : Int) K = true) (fun y => ((intOf y) + 1).toNat)
                      case atStart => exact ⟨(j : Int), by omega, by omega, rfl, HD.out⟩
                      case round =>
                        obtain ⟨K, hK0, hK1, rfl, hdd⟩ := hrel
                        by_cases hneg : K < 0
                        · rw [meetsN_neg l _ K hneg] at hdd; simp at hdd
                        · obtain ⟨m, rfl⟩ := Int.eq_ofNat_of_zero_le (show 0 ≤ K by omega)
                          have hm : m < l.length := by omega
                          have mi : (m : Int) < (l.length : Int) := by omega
                          by_cases hx : (m : Int) = (u : Int)
                          · have hmu : m = u := by omega
                            subst hmu
                            clear hdd hneg hx
                            go_wp2_with (go_at_call 89; refine (sname _ _ y1).mono ?_; rw [hnb']; rintro e w3 ⟨rfl, hq⟩; have hq2 := hq.symm; clear hq; subst hq2)
                            go_ret
                            exact ⟨ret_bool HN.out.symm, HW.out.trans (Nw.trans (show Nw wr (wr.alloc _) from (Below.refl _ _).alloc (Nat.le_refl _) _) k2)⟩
                          · have hnx : ((m : Int) != (u : Int)) = true := bne_iff_ne.2 hx
                            have hup := HU.out m (by omega)
                            have hdu := meetsN_up l (u : Int) (m : Int) (j + 1) HU.out (by omega) (by omega) (by omega) hx
                            simp only [Int.toNat_natCast] at hdu
                            obtain ⟨_, m1, _, _⟩ := HCL.out m hm
                            have HNX : Hid (meetsN l (u : Int) (upAt l m) = true) := by show meetsN l _ _ = _; rw [← hdu]; exact hdd
                            unfold upAt at hup HNX
                            clear hdd hdu
                            generalize (nodeAt l m).up = UM at *
                            go_wp2
                            go_round
                            case rel => exact ⟨UM, by omega, by omega, rfl, HNX.out⟩
                            case measure => simp [intOf]; omega
              · have hmt' : meetsN l (u : Int) (j : Int) = false := by simpa using hmt
                have HD : Hid (meetsN l (u : Int) (j : Int) = false) := hmt'
                have HN : Hid (goodB l = false) := bad_of hlt (ok_place (place_meets (by rw [HKU.out]; exact hmt')))
                clear hmt hmt'
                go_wp2_with (first | (go_at_call 61; refine (in_any _ _ _ _).mono ?_; rw [hin]; rintro e w' ⟨rfl, rfl⟩) | (go_at_call 88; refine Calls.mono (HA _ ((Below.refl _ _).alloc (Nat.le_refl _) _)).out ?_; rw [hat]; rintro e w2 ⟨rfl, k2⟩; obtain ⟨hc2, hf2⟩ := bcell k2))
                go_loop [5] (fun y => ∃ K : Int, -1 ≤ K ∧ K < (j : Int) + 1 ∧ y = .int .i64 K ∧ meetsN l (u : Int) K = false) (fun y => ((intOf y) + 1).toNat)
                case atStart => exact ⟨(j : Int), by omega, by omega, rfl, HD.out⟩
                case round =>
                  obtain ⟨K, hK0, hK1, rfl, hdd⟩ := hrel
                  by_cases hneg : K < 0
                  · have hK : K = -1 := by omega
                    subst hK
                    clear hdd hneg
                    go_wp2_with fail
                    go_ret
                    exact ⟨ret_bool HN.out.symm, HW.out.trans (Nw.trans (show Nw wr (wr.alloc _) from (Below.refl _ _).alloc (Nat.le_refl _) _) k2)⟩
                  · obtain ⟨m, rfl⟩ := Int.eq_ofNat_of_zero_le (show 0 ≤ K by omega)
                    have hm : m < l.length := by omega
                    have mi : (m : Int) < (l.length : Int) := by omega
                    by_cases hx : (m : Int) = (u : Int)
                    · rw [hx, meetsN_same l _ (by omega)] at hdd; simp at hdd
                    · have hnx : ((m : Int) != (u : Int)) = true := bne_iff_ne.2 hx
                      have hup := HU.out m (by omega)
                      have hdu := meetsN_up l (u : Int) (m : Int) (j + 1) HU.out (by omega) (by omega) (by omega) hx
                      simp only [Int.toNat_natCast] at hdu
                      obtain ⟨_, m1, _, _⟩ := HCL.out m hm
                      have HNX : Hid (meetsN l (u : Int) (upAt l m) = false) := by show meetsN l _ _ = _; rw [← hdu]; exact hdd
                      unfold upAt at hup HNX
                      clear hdd hdu
                      generalize (nodeAt l m).up = UM at *
                      go_wp2
                      go_round
                      case rel => exact ⟨UM, by omega, by omega, rfl, HNX.out⟩
                      case measure => simp [intOf]; omega
            · have hat' : attrsB (nodeAt l (j + 1)).attrs = false := by simpa using hat
              have HN : Hid (goodB l = false) := bad_of hlt (ok_attrs hat')
              clear hat
              go_wp2_with (first | (go_at_call 61; refine (in_any _ _ _ _).mono ?_; rw [hin]; rintro e w' ⟨rfl, rfl⟩) | (go_at_call 88; refine Calls.mono (HA _ ((Below.refl _ _).alloc (Nat.le_refl _) _)).out ?_; rw [hat']; rintro e w2 ⟨rfl, k2⟩; obtain ⟨hc2, hf2⟩ := bcell k2))
              go_ret
              exact ⟨ret_bool HN.out.symm, HW.out.trans (Nw.trans (show Nw wr (wr.alloc _) from (Below.refl _ _).alloc (Nat.le_refl _) _) k2)⟩
          · have HN : Hid (goodB l = false) := bad_of hlt (ok_place (place_in HU.out (by omega) hrg))
            by_cases hm1 : (nodeAt l (j + 1)).up = -1
            · have hin : decide ((-1 : Int) ≤ -1 ∧ (-1 : Int) ≤ (j : Int)) = true := decide_eq_true (by omega)
              rw [hm1] at q1
              have hj0 : ((j : Int) + 1 == 0) = false := beq_eq_false_iff_ne.2 (by omega)
              clear hm1 hrg
              go_wp2_with (go_at_call 61; refine (in_any _ _ _ _).mono ?_; rw [hin]; rintro e w' ⟨rfl, rfl⟩)
              go_ret
              exact ⟨ret_bool HN.out.symm, HW.out.trans ((Below.refl _ _).alloc (Nat.le_refl _) _)⟩
            · have hin : decide ((-1 : Int) ≤ (nodeAt l (j + 1)).up ∧ (nodeAt l (j + 1)).up ≤ (j : Int)) = false := by simp; omega
              clear hm1 hrg
              go_wp2_with (go_at_call 61; refine (in_any _ _ _ _).mono ?_; rw [hin]; rintro e w' ⟨rfl, rfl⟩)
              go_ret
              exact ⟨ret_bool HN.out.symm, HW.out.trans ((Below.refl _ _).alloc (Nat.le_refl _) _)⟩
      · have e : k = l.length := by omega
        have HN : Hid (goodB l = true) := goodB_yes ⟨HP.out, by have := HO.out; rwa [e] at this⟩
        clear hto hw
        go_wp2
        go_ret
        exact ⟨ret_bool HN.out.symm, HW.out⟩
  · have hd : decide ((1 : Int) ≤ (l.length : Int) ∧ (l.length : Int) ≤ 60) = false := by simp; omega
    have HN : Hid (goodB l = false) := goodB_no fun h => hn h.1
    clear hn
    go_enter Tryz.func49, Tryz.ntmps49
    go_wp2_with (go_at_call 61; refine (in_any _ _ _ _).mono ?_; rw [hd]; rintro e w' ⟨rfl, rfl⟩)
    go_ret
    exact ⟨ret_bool HN.out.symm, Below.refl _ _⟩
end Go.Proofs.YtnkmdmmlpidcmaaGreatDoor
namespace Go.Proofs.YtnkmdmmlpidcmaaGreatDoor
open Go.ChangeShapes Go.WideShapes Go.ChangeAt Go.RowKit
set_option linter.unusedVariables false

theorem lit_no (u : ByteArray) (l : List UInt8) (h : u ≠ ⟨l.toArray⟩) : (u.toList == l) = false := by
  rw [beq_eq_false_iff_ne]
  intro e
  apply h
  apply ByteArray.ext
  apply Array.toList_inj.1
  rw [← e, ByteArray.toList_eq]
theorem lit_yes (u : ByteArray) (l : List UInt8) (h : u = ⟨l.toArray⟩) : (u.toList == l) = true := by
  subst h; simp [ByteArray.toList_eq]
set_option maxHeartbeats 2000000 in
theorem ssheetA (s : ByteArray) (w : World) :
    Calls Tryz.prog 15 #[.string s] w fun e w' => ShtSays s w w' e ∧ Nw w w' := by
  by_cases h : 1500 < s.size
  · unfold ShtSays shtL
    have hd : decide (1500 < (s.size : Int)) = true := by simp; omega
    rw [if_pos h, decide_eq_true h]
    go_enter Tryz.func15, Tryz.ntmps15
    go_wp2
    go_ret2
    exact ⟨⟨_, rfl, RowM.nil _ _ _ _⟩, Below.refl _ _⟩
  · exact ssheet s w (by omega)
set_option maxHeartbeats 8000000 in
theorem sl6In (w : World) (a : Option Addr) (c : Nat) (l : List ND) (hg : GoodP l) (hz : Small l) (hr : Nodes w a l) :
    Calls Tryz.prog 50 #[.slice a l.length c] w fun e w' => ∃ v, e = .returned v ∧ RowM 2 ERule w' v (shP l l.length) (iv w w') ∧ Nw w w' := by
  have h60 : l.length ≤ 60 := hg.1.2
  have HR : Hid (Nodes w a l) := hr
  have HG : Hid (GoodP l) := hg
  have HZ : Hid (Small l) := hz
  clear hr hz hg
  go_enter Tryz.func50, Tryz.ntmps50
  go_wp2
  go_loopw [3, 12] (fun v i wr => ∃ (k : Nat) (els : List (El RD)), k ≤ l.length ∧ i = .int .i64 k ∧ RowO 32 2 ERule wr w.heap.size v els ∧ els.map El.x = shP l k ∧ Nw w wr) (fun _ i _ => l.length - (intOf i).toNat)
  case atStart => exact ⟨0, [], Nat.zero_le _, rfl, RowO.nil _ _ _ _ _, rfl, Below.refl _ _⟩
  case round =>
    obtain ⟨k, els, hk, rfl, hro, hxs, hw⟩ := hrel
    obtain ⟨va, vc, hv⟩ := hro.slice
    subst hv
    have h30 : els.length ≤ 30 := by have := congrArg List.length hxs; rw [List.length_map] at this; rw [this]; exact shP_len l k
    have HRO : Hid (RowO 32 2 ERule wr w.heap.size (.slice va els.length vc) els) := hro
    have HX : Hid (els.map El.x = shP l k) := hxs
    have HW : Hid (Nw w wr) := hw
    have HRw : Hid (Nodes wr a l) := HR.out.nw hw
    clear hro hxs hw
    by_cases hlt : k < l.length
    · have HSU : ∀ o, Hid (Calls Tryz.prog 92 #[.slice a l.length c, .int .i64 k] (wr.alloc o) fun e w' => e = .returned (.string (unT l k (l.length - k - 1))) ∧ w' = wr.alloc o) := fun o => sunder _ a c l k hlt h60 HG.out HZ.out (HRw.out.nw ((Below.refl _ _).alloc (Nat.le_refl _) _))
      rcases HRw.out with h | ⟨b, o, rfl, hb, hc⟩
      · rw [h] at hlt; simp at hlt
      obtain ⟨q0, q1, ⟨aa, cc, q2, qc, qa⟩, q3⟩ := hc k hlt
      have HSN : Hid (isSty l k = false → shP l (k + 1) = shP l k) := fun h => shP_no h
      have HSY : Hid (isSty l k = true → shP l (k + 1) = (shP l k ++ shtL (unT l k (l.length - k - 1))).take 30) := fun h => shP_yes h
      have HS : Hid (isSty l k = decide ((nodeAt l k).name = styT)) := rfl
      have hltI : (k : Int) < (l.length : Int) := by omega
      clear hc qa qc
      generalize (nodeAt l k).name = nm at *
      generalize (nodeAt l k).up = up at *
      generalize (nodeAt l k).text = tx at *
      by_cases hnu : nm = styT
      · have hq := lit_yes nm [115, 116, 121, 108, 101] hnu
        have HP : Hid (shP l (k + 1) = (shP l k ++ shtL (unT l k (l.length - k - 1))).take 30) := HSY.out (by rw [HS.out]; exact decide_eq_true hnu)
        clear hnu HSN HSY HS
        generalize unT l k (l.length - k - 1) = s at *
        have HNA : ∀ o, Hid (Nw wr (wr.alloc o)) := fun o => (Below.refl _ _).alloc (Nat.le_refl _) _
        go_wp2_with fail
        refine Calls.mono (HSU _).out ?_
        rintro e w1 ⟨rfl, hq1⟩
        subst hq1
        go_wp2_with fail
        refine Calls.mono (ssheetA s _) ?_
        rintro e w2 ⟨⟨v2, rfl, hr2⟩, k2⟩
        have HN2 : Hid (Nw wr w2) := Nw.trans (HNA _).out k2
        have hr3 := hr2.mono (iv_upR (w := wr) (w2 := w2) (Below.size (HNA _).out))
        obtain ⟨va2, vc2, l2, hv2, _, hx2, hly⟩ := hr3.lies
        subst hv2
        have HLY : Hid (Lies2 w2 va2 l2 (iv wr w2)) := hly
        have HX2 : Hid (l2.map El.x = shtL s) := hx2
        have hl2 : l2.length ≤ 30 := by have := congrArg List.length hx2; rw [List.length_map] at this; rw [this]; exact (shtL_small s).1
        have HST : Hid (InL w wr w2 (els.map El.x) l2 0 (.slice va els.length vc) els w2) := InL.start HRO.out HN2.out h30 hly
        clear hr2 hr3 hx2 hly k2 q0 q1 q2 q3
        obtain ⟨wo, hwo⟩ : ∃ x, x = wr := ⟨_, rfl⟩
        subst hwo
        go_wp2
        go_loopw [3, 29] (fun v i wq => ∃ (j : Nat) (el3 : List (El RD)), j ≤ l2.length ∧ i = .int .i64 j ∧ InL w wo w2 (els.map El.x) l2 j v el3 wq) (fun _ i _ => l2.length - (intOf i).toNat)
        case atStart => exact ⟨0, els, Nat.zero_le _, rfl, HST.out⟩
        case round =>
          obtain ⟨j, el3, hj, rfl, hin⟩ := hrel
          obtain ⟨ua, uc, hv⟩ := hin.row.slice
          subst hv
          have HIN : Hid (InL w wo w2 (els.map El.x) l2 j (.slice ua el3.length uc) el3 wr) := hin
          have h3 : el3.length ≤ 30 := by have := congrArg List.length hin.xs; rw [List.length_map] at this; rw [this, List.length_take]; omega
          by_cases hjl : j < l2.length
          · have HJ : Hid (l2[j]? = some l2[j]) := List.getElem?_eq_getElem hjl
            have hjI : (j : Int) < (l2.length : Int) := by omega
            rcases hin.lies HLY.out with h0 | ⟨g, hg0, hA⟩
            · rw [h0] at hjl; simp at hjl
            subst hg0
            generalize l2[j] = e2 at *
            obtain ⟨x1, n1, c1, x2, n2, c2, hcs⟩ := (hA.el e2 (List.mem_of_getElem? HJ.out)).1.two
            have p0 := hA.cell j e2 HJ.out 0 (.slice x1 n1 c1) (by rw [hcs]; rfl)
            have p1 := hA.cell j e2 HJ.out 1 (.slice x2 n2 c2) (by rw [hcs]; rfl)
            rw [Nat.add_zero] at p0
            have hgl : g < wr.heap.size := hA.lt
            have HCS : Hid (e2.cs = [.slice x1 n1 c1, .slice x2 n2 c2]) := hcs
            clear hcs hA hin
            by_cases h4 : el3.length < 30
            · have h4I : (el3.length : Int) < 30 := by omega
              have HN : ∀ o1 o2, Hid (InL w wo w2 (els.map El.x) l2 j (.slice ua el3.length uc) el3 ((wr.alloc o1).alloc o2)) := fun o1 o2 => HIN.out.up (((Below.refl _ _).alloc (Nat.le_refl _) _).alloc (by simp) _)
              have HB : ∀ o1 o2, Hid (w.heap.size ≤ ((wr.alloc o1).alloc o2).heap.size) := fun o1 o2 => by
                have := (HN o1 o2).out.wr.size
                have := Below.size HN2.out
                have := Below.size HW.out
                show _ ≤ _
                omega
              have HONE : Hid (∀ y ∈ ([e2] : List (El RD)).flatMap (·.cs), y.oneCell' = true) := by
                intro y hy
                simp only [List.flatMap_cons, List.flatMap_nil, List.append_nil, HCS.out, List.mem_cons, List.not_mem_nil, or_false] at hy
                rcases hy with rfl | rfl <;> rfl
              have HLL : Hid (el3.length + ([e2] : List (El RD)).length ≤ 10000000) := by show _ ≤ _; simp; omega
              go_wp2_with (at_builtin; (refine wp_rws ERule.kept Tryz.underlying23 info_rule rfl (by decide) (by decide) _ rfl _ _ rfl w.heap.size _ el3 rfl (HN _ _).out.row (HB _ _).out _ rfl [e2] (Or.inr ⟨_, _, rfl, ?c1⟩) HONE.out ((HN _ _).out.elts HLY.out (Below.size HW.out) HJ.out) HLL.out ?_))
              case c1 =>
                intro i y hy
                simp only [List.flatMap_cons, List.flatMap_nil, List.append_nil, HCS.out] at hy
                match i, hy with
                | 0, hy => simp at hy; subst hy; simp
                | 1, hy => simp at hy; subst hy; simp
              intro v' w' r1 r2
              obtain ⟨xa, xc, hx⟩ := r1.slice
              have hx2 : v' = .slice xa (el3.length + 1) xc := by rw [hx]; simp
              clear hx
              subst hx2
              have HI : Hid (InL w wo w2 (els.map El.x) l2 (j + 1) (.slice xa (el3.length + 1) xc) (el3 ++ [e2]) w') := (HN _ _).out.put HLY.out.apart HJ.out h4 r1 r2
              clear r1 r2 p0 p1
              go_wp2
              go_roundw
              case rel => exact ⟨j + 1, _, by omega, by go_num, HI.out⟩
              case measure => simp [intOf]; omega
            · have h4I : ¬ ((el3.length : Int) < 30) := by omega
              have HI : ∀ o, Hid (InL w wo w2 (els.map El.x) l2 (j + 1) (.slice ua el3.length uc) el3 (wr.alloc o)) := fun o => (HIN.out.skip HJ.out h4).up ((Below.refl _ _).alloc (Nat.le_refl _) _)
              go_wp2
              go_roundw
              case rel => exact ⟨j + 1, _, by omega, by go_num, (HI _).out⟩
              case measure => simp [intOf]; omega
          · have hje : j = l2.length := by omega
            subst hje
            have hjI : ¬ ((l2.length : Int) < (l2.length : Int)) := by omega
            have HE : Hid (el3.map El.x = shP l (k + 1)) := by
              show _ = _
              have h5 := hin.xs
              have e2 : (shtL s).take l2.length = shtL s := List.take_of_length_le (by rw [← HX2.out, List.length_map]; exact Nat.le_refl _)
              rw [HX2.out, HX.out, e2] at h5
              rw [h5, HP.out]
            have HNW : Hid (Nw w wr) := hin.nw (Nw.trans HW.out HN2.out) (Nat.le_trans (Below.size HW.out) (Below.size HN2.out))
            have HRR : Hid (RowO 32 2 ERule wr w.heap.size (.slice ua el3.length uc) el3) := hin.row
            clear hin
            go_wp2
            go_roundw
            case rel => exact ⟨k + 1, el3, by omega, by go_num, HRR.out, HE.out, HNW.out⟩
            case measure => simp [intOf]; omega
      · have hq := lit_no nm [115, 116, 121, 108, 101] hnu
        have HE : Hid (els.map El.x = shP l (k + 1)) := by show _ = _; rw [HSN.out (by rw [HS.out]; exact decide_eq_false hnu)]; exact HX.out
        have HNA : ∀ o, Hid (Nw wr (wr.alloc o)) := fun o => (Below.refl _ _).alloc (Nat.le_refl _) _
        clear hnu HSN HSY HS HSU
        go_wp2
        go_roundw
        case rel => exact ⟨k + 1, els, by omega, by go_num, HRO.out.nw ERule.kept (HNA _).out, HE.out, Nw.trans HW.out (HNA _).out⟩
        case measure => simp [intOf]; omega
    · have hltI : ¬ ((k : Int) < (l.length : Int)) := by omega
      have hke : k = l.length := by omega
      subst hke
      go_wp2
      go_ret
      exact ⟨_, rfl, by rw [← HX.out]; exact RowO.row HRO.out (fun b h1 h2 => ⟨h1, h2⟩), HW.out⟩
set_option maxHeartbeats 2000000 in
theorem ssheetIn (w : World) (a : Option Addr) (c : Nat) (l : List ND) (hl : l.length ≤ 1048576) (hz : Small l) (hr : Nodes w a l) : ShnSays 20 w a c l := by
  unfold ShnSays shN
  have HR : Hid (Nodes w a l) := hr
  have HZ : Hid (Small l) := hz
  clear hr hz
  cases hg : goodB l
  · go_enter Tryz.func20, Tryz.ntmps20
    go_wp2_with (go_at_call 49; refine Calls.mono (sgoodNodes _ _ _ l hl HZ.out HR.out) ?_; rw [hg]; rintro e w1 ⟨rfl, k1⟩)
    go_ret
    exact ⟨_, rfl, RowM.nil _ _ _ _, k1⟩
  · have HP : Hid (GoodP l) := (goodB_iff l).1 hg
    rw [if_pos rfl]
    go_enter Tryz.func20, Tryz.ntmps20
    go_wp2_with fail
    refine Calls.mono (sgoodNodes _ _ _ l hl HZ.out HR.out) ?_
    rw [hg]
    rintro e w1 ⟨rfl, k1⟩
    have S1 : Hid (Nw w w1) := k1
    clear k1
    go_wp2_with fail
    refine Calls.mono (sl6In _ a c l HP.out HZ.out (HR.out.nw S1.out)) ?_
    rintro e w2 ⟨v, rfl, hv, k2⟩
    obtain ⟨xa, xc, rfl, _⟩ := hv.slice
    have HV : Hid (RowM 2 ERule w2 (.slice xa (shP l l.length).length xc) (shP l l.length) (iv w w2)) := hv.mono (iv_upR (Below.size S1.out))
    have S2 : Hid (Nw w w2) := Nw.trans S1.out k2
    clear hv k2
    go_wp2
    go_ret
    exact ⟨_, rfl, HV.out, S2.out⟩
end Go.Proofs.YtnkmdmmlpidcmaaGreatDoor
namespace Go.Proofs.YtnkmdmmlpidcmaaGreatDoor
open Go.ChangeShapes Go.WideShapes Go.ChangeAt Go.RowKit
set_option linter.unusedVariables false

theorem bulkL_at (l : List ND) (k : Nat) (h : k < l.length) : bulkN (nodeAt l k) ≤ bulkL l := by
  have h1 := bulkL_step l k h
  have h2 := bulkL_le l (k + 1)
  omega
theorem small_of {l : List ND} (ho : okAll l) (hb : ((l.length + bulkL l : Nat) : Int) ≤ 1048576) : Small l ∧ lenOk l := by
  have key : ∀ i, i < l.length → smallN (nodeAt l i) := by
    intro i hi
    have h1 := bulkL_at l i hi
    have ok := ho i hi
    unfold bulkN at h1
    refine ⟨by omega, by omega, by omega, fun k hk => ?_, ok.up⟩
    have h3 := bulk2_step (nodeAt l i).attrs k hk
    have h4 := bulk2_le (nodeAt l i).attrs (k + 1)
    omega
  exact ⟨key, fun i hi => (key i hi).len⟩
end Go.Proofs.YtnkmdmmlpidcmaaGreatDoor
namespace Go.Proofs.YtnkmdmmlpidcmaaGreatDoor
open Go.ChangeShapes Go.WideShapes Go.ChangeAt Go.RowKit
set_option linter.unusedVariables false

theorem Mid.wr {lo hi : Nat} {w w' : World} (h : Mid lo hi w w') : Wr (fun b => lo ≤ b ∧ b < hi) w w' :=
  ⟨h.os, h.tape, h.output, h.size, fun b hb hn => h.block b hb (by omega)⟩
set_option maxHeartbeats 8000000 in
theorem walk_shin (w : World) (ht : Tb w) (hm : MaxL w) (a : Option Addr) (l : List ND) (c : Nat) (hr : Nodes w a l) (ho : okAll l) (hl : l.length ≤ maxLen) :
    Calls Tryz.prog 5 #[.slice a l.length c] w fun e w' => e = .returned (.bool true) ∧ Below w.heap.size w w' := by
  have HR : Hid (Nodes w a l) := hr
  have HT : Hid (Tb w) := ht
  have HML : Hid (MaxL w) := hm
  have HO : Hid (okAll l) := ho
  have HL : Hid (l.length ≤ maxLen) := hl
  clear hr ht ho hl hm
  by_cases hb : ((l.length + bulkL l : Nat) : Int) ≤ 1048576
  · have hs : szL l 1048576 = 1048576 - ((l.length + bulkL l : Nat) : Int) := by unfold szL; rw [if_pos hb]
    have hneg : decide ((1048576 : Int) - ((l.length + bulkL l : Nat) : Int) < 0) = false := decide_eq_false (by omega)
    have hll : l.length ≤ 1048576 := by omega
    have hbk : bulkL l ≤ 1048576 := by omega
    have HBK : Hid (bulkL l ≤ 1048576) := hbk
    obtain ⟨hsm, hlo⟩ := small_of HO.out hb
    have HS : Hid (Small l) := hsm
    have HLO : Hid (lenOk l) := hlo
    have HC1 : ∀ W a c, Nodes W a l → Hid (ShnSays 20 W a c l) := fun W a c h => ssheetIn W a c l hll HS.out h
    have HC2 : ∀ W a, Tb W → MaxL W → Nodes W a l → Hid (ShnSays 22 W a l.length l) := fun W a t m h => isheetIn W a l.length l hll (Nat.le_refl _) t m HS.out h
    unfold ShnSays at HC1 HC2
    obtain ⟨hcb, hsel, hlr⟩ := shN_small l
    have hl12 := shN_len l
    have HSEL : Hid (∀ i, i < (shN l).length → (ruleAt (shN l) i).sels.length ≤ 1000000) := hsel
    have HLR : Hid (lenRs (shN l)) := hlr
    clear hsel hlr
    generalize shN l = R at *
    have HCB : Hid (1 + cntRs R ≤ 1000000) := by show _ ≤ _; omega
    obtain ⟨M, hM⟩ : ∃ M, 1 + cntRs R = M := ⟨_, rfl⟩
    have HM : Hid (1 + cntRs R = M) := hM
    clear hM
    generalize ((l.length + bulkL l : Nat) : Int) = B at *
    clear hsm hlo hb hbk
    go_enter Tryz.func5, Tryz.ntmps5
    go_wp2_with fail
    refine Calls.mono (szNodeS_any _ a c l _ (by omega) (by omega) HL.out HR.out HO.out) ?_
    rw [hs]
    rintro e w1 ⟨rfl, k1⟩
    have S1 : Hid (Nw w w1) := k1
    clear k1
    go_wp2_with fail
    refine Calls.mono (toNodeS_any _ a c l hll HLO.out (HR.out.nw S1.out)) ?_
    rintro e w2 ⟨rfl, k1, t1⟩
    have S2 : Hid (Nw w w2) := S1.out.trans k1
    have N2 : Hid (Nodes w2 (some ⟨w1.heap.size, 0, none⟩) l) := t1.nodes
    clear k1 t1
    go_wp2_with fail
    refine Calls.mono (HC1 _ _ _ N2.out).out ?_
    rintro e w3 ⟨v1, rfl, r1, k1⟩
    obtain ⟨a1, c1, rfl, _⟩ := r1.slice
    have S3 : Hid (Nw w w3) := S2.out.trans k1
    have R3 : Hid (RowM 2 ERule w3 (.slice a1 R.length c1) R (iv w2 w3)) := r1
    clear k1 N2 r1
    go_wp2_with fail
    refine Calls.mono (toNodeS_any _ a c l hll HLO.out (HR.out.nw S3.out)) ?_
    rintro e w4 ⟨rfl, k1, t1⟩
    have S4 : Hid (Nw w w4) := S3.out.trans k1
    have N4 : Hid (Nodes w4 (some ⟨w3.heap.size, 0, none⟩) l) := t1.nodes
    have M4 : Hid (NodesW w3.heap.size w4.heap.size w4 w3.heap.size l) := t1.nodesW rfl
    have R4 : Hid (RowM 2 ERule w4 (.slice a1 R.length c1) R (iv w2 w3)) := R3.out.nw ERule.kept k1
    have G34 : Hid (w3.heap.size ≤ w4.heap.size) := Below.size k1
    clear k1 t1 R3
    go_wp2_with fail
    refine Calls.mono (HC2 _ _ (HT.out.nw S4.out) (HML.out.nw S4.out) N4.out).out ?_
    rintro e w5 ⟨v2, rfl, r2, k1⟩
    obtain ⟨a2, c2, rfl, _⟩ := r2.slice
    have S5 : Hid (Nw w w5) := S4.out.trans k1
    have N5 : Hid (Nodes w5 (some ⟨w3.heap.size, 0, none⟩) l) := N4.out.nw k1
    have M5 : Hid (NodesW w3.heap.size w4.heap.size w5 w3.heap.size l) := M4.out.nw k1
    have R5 : Hid (RowM 2 ERule w5 (.slice a1 R.length c1) R (iv w2 w3)) := R4.out.nw ERule.kept k1
    have Q5 : Hid (RowM 2 ERule w5 (.slice a2 R.length c2) R (iv w4 w5)) := r2
    clear k1 N4 M4 R4 r2
    go_wp2_with fail
    refine Calls.mono (eqRuleS_any _ _ _ R _ _ (by omega) HLR.out Q5.out R5.out) ?_
    rintro e w6 ⟨rfl, k1⟩
    have S6 : Hid (Nw w w6) := S5.out.trans k1
    have N6 : Hid (Nodes w6 (some ⟨w3.heap.size, 0, none⟩) l) := N5.out.nw k1
    have M6 : Hid (NodesW w3.heap.size w4.heap.size w6 w3.heap.size l) := M5.out.nw k1
    have R6 : Hid (RowM 2 ERule w6 (.slice a1 R.length c1) R (iv w2 w3)) := R5.out.nw ERule.kept k1
    have Q6 : Hid (RowM 2 ERule w6 (.slice a2 R.length c2) R (iv w4 w5)) := Q5.out.nw ERule.kept k1
    clear k1 N5 M5 R5 Q5
    go_wp2_with fail
    refine Calls.mono (toNodeS_any _ a c l hll HLO.out (HR.out.nw S6.out)) ?_
    rintro e w7 ⟨rfl, k1, t1⟩
    have S7 : Hid (Nw w w7) := S6.out.trans k1
    have N7 : Hid (Nodes w7 (some ⟨w3.heap.size, 0, none⟩) l) := N6.out.nw k1
    have P7 : Hid (Nodes w7 (some ⟨w6.heap.size, 0, none⟩) l) := t1.nodes
    have M7 : Hid (NodesW w3.heap.size w4.heap.size w7 w3.heap.size l) := M6.out.nw k1
    have R7 : Hid (RowM 2 ERule w7 (.slice a1 R.length c1) R (iv w2 w3)) := R6.out.nw ERule.kept k1
    have Q7 : Hid (RowM 2 ERule w7 (.slice a2 R.length c2) R (iv w4 w5)) := Q6.out.nw ERule.kept k1
    clear k1 t1 N6 M6 R6 Q6
    go_wp2_with fail
    refine Calls.mono (eqNodeS_any _ _ _ _ _ l hll HLO.out N7.out P7.out) ?_
    rintro e w8 ⟨rfl, k1⟩
    have S8 : Hid (Nw w w8) := S7.out.trans k1
    have M8 : Hid (NodesW w3.heap.size w4.heap.size w8 w3.heap.size l) := M7.out.nw k1
    have R8 : Hid (RowM 2 ERule w8 (.slice a1 R.length c1) R (iv w2 w3)) := R7.out.nw ERule.kept k1
    have Q8 : Hid (RowM 2 ERule w8 (.slice a2 R.length c2) R (iv w4 w5)) := Q7.out.nw ERule.kept k1
    clear k1 N7 P7 M7 R7 Q7
    go_wp2_with fail
    refine Calls.mono (markN_any _ _ _ _ _ l hll HBK.out M8.out) ?_
    rintro e w9 ⟨⟨X, hX, rfl⟩, m9⟩
    have hXn : decide ((X : Int) < 0) = false := decide_eq_false (by omega)
    have S9 : Hid (Nw w w9) := Below.trans (show Below w.heap.size w w8 from S8.out) (Below.mono (m9.below (Nat.le_of_lt M8.out.lt)) (Below.size S3.out))
    have R9 : Hid (RowM 2 ERule w9 (.slice a1 R.length c1) R (iv w2 w3)) := R8.out.kept ERule.kept m9.wr (fun b hb hc => by have := hb.2; have := hc.1; omega)
    have Q9 : Hid (RowM 2 ERule w9 (.slice a2 R.length c2) R (iv w4 w5)) := Q8.out.kept ERule.kept m9.wr (fun b hb hc => by have := hb.1; have := hc.2; omega)
    clear m9 M8 R8 Q8
    go_wp2_with fail
    refine Calls.mono (eqRuleS_any _ _ _ R _ _ (by omega) HLR.out Q9.out R9.out) ?_
    rintro e w10 ⟨rfl, k1⟩
    have S10 : Hid (Nw w w10) := S9.out.trans k1
    have R10 : Hid (RowM 2 ERule w10 (.slice a1 R.length c1) R (iv w2 w3)) := R9.out.nw ERule.kept k1
    have Q10 : Hid (RowM 2 ERule w10 (.slice a2 R.length c2) R (iv w4 w5)) := Q9.out.nw ERule.kept k1
    clear k1 R9 Q9
    go_wp2_with fail
    refine Calls.mono (markRs_any _ (.slice a2 R.length c2) 1 R (iv w4 w5) (by omega) HSEL.out (by omega) (by omega) Q10.out) ?_
    rintro e w11 ⟨rfl, k4, r4⟩
    rw [HM.out]
    have S11 : Hid (Nw w w11) := Below.trans (show Below w.heap.size w w10 from S10.out) (k4.below (B := w.heap.size) (fun x hx => Nat.le_trans (Below.size S4.out) hx.1) (Below.size S10.out))
    have R11 : Hid (RowM 2 ERule w11 (.slice a1 R.length c1) R (iv w2 w3)) := R10.out.kept ERule.kept k4 (fun b hb hc => by have h1 := hb.2; have h2 := hc.1; have h3 := G34.out; omega)
    have Q11 : Hid (RowM 2 ERule w11 (.slice a2 R.length c2) (mkRs 1 R) (iv w4 w5)) := r4
    clear k4 r4 R10 Q10
    go_wp2_with fail
    refine Calls.mono (heldRs_any _ (.slice a2 R.length c2) 1 R (iv w4 w5) (by omega) HSEL.out (by omega) (by omega) Q11.out) ?_
    rintro e w12 ⟨rfl, k1⟩
    rw [HM.out]
    have S12 : Hid (Nw w w12) := S11.out.trans k1
    have R12 : Hid (RowM 2 ERule w12 (.slice a1 R.length c1) R (iv w2 w3)) := R11.out.nw ERule.kept k1
    have Q12 : Hid (RowM 2 ERule w12 (.slice a2 R.length c2) (mkRs 1 R) (iv w4 w5)) := Q11.out.nw ERule.kept k1
    clear k1 R11 Q11
    go_wp2_with fail
    refine Calls.mono (toNodeS_any _ a c l hll HLO.out (HR.out.nw S12.out)) ?_
    rintro e w13 ⟨rfl, k1, t1⟩
    have S13 : Hid (Nw w w13) := S12.out.trans k1
    have N13 : Hid (Nodes w13 (some ⟨w12.heap.size, 0, none⟩) l) := t1.nodes
    have R13 : Hid (RowM 2 ERule w13 (.slice a1 R.length c1) R (iv w2 w3)) := R12.out.nw ERule.kept k1
    have Q13 : Hid (RowM 2 ERule w13 (.slice a2 R.length c2) (mkRs 1 R) (iv w4 w5)) := Q12.out.nw ERule.kept k1
    clear k1 t1 R12 Q12
    go_wp2_with fail
    refine Calls.mono (HC2 _ _ (HT.out.nw S13.out) (HML.out.nw S13.out) N13.out).out ?_
    rintro e w14 ⟨v3, rfl, r3, k1⟩
    obtain ⟨a3, c3, rfl, _⟩ := r3.slice
    have S14 : Hid (Nw w w14) := S13.out.trans k1
    have R14 : Hid (RowM 2 ERule w14 (.slice a1 R.length c1) R (iv w2 w3)) := R13.out.nw ERule.kept k1
    have Q14 : Hid (RowM 2 ERule w14 (.slice a2 R.length c2) (mkRs 1 R) (iv w4 w5)) := Q13.out.nw ERule.kept k1
    have P14 : Hid (RowM 2 ERule w14 (.slice a3 R.length c3) R (iv w13 w14)) := r3
    clear k1 r3 R13 Q13 N13
    go_wp2_with fail
    refine Calls.mono (eqRuleS_any _ _ _ R _ _ (by omega) HLR.out P14.out R14.out) ?_
    rintro e w15 ⟨rfl, k1⟩
    have S15 : Hid (Nw w w15) := S14.out.trans k1
    have Q15 : Hid (RowM 2 ERule w15 (.slice a2 R.length c2) (mkRs 1 R) (iv w4 w5)) := Q14.out.nw ERule.kept k1
    clear k1 R14 Q14 P14
    go_wp2_with fail
    refine Calls.mono (heldRs_any _ (.slice a2 R.length c2) 1 R (iv w4 w5) (by omega) HSEL.out (by omega) HCB.out Q15.out) ?_
    rintro e w16 ⟨rfl, k1⟩
    rw [HM.out]
    have S16 : Hid (Nw w w16) := S15.out.trans k1
    clear k1
    go_wp2
    go_ret
    exact ⟨rfl, S16.out⟩
  · have hs : szL l 1048576 = -1 := by unfold szL; rw [if_neg hb]
    clear hb
    go_enter Tryz.func5, Tryz.ntmps5
    go_wp2_with fail
    refine Calls.mono (szNodeS_any _ a c l _ (by omega) (by omega) HL.out HR.out HO.out) ?_
    rw [hs]
    rintro e w1 ⟨rfl, k1⟩
    go_wp2
    go_ret
    exact ⟨rfl, k1⟩
end Go.Proofs.YtnkmdmmlpidcmaaGreatDoor
