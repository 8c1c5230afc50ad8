/-
  Good nodes: the specification's look at them; each theorem names its conditions.
-/
import Derived.Test.YtgjnemmkpbkfhaaDoorMkGood
namespace Go.Proofs.YtgjnemmkpbkfhaaDoor
open Go.ChangeShapes Go.WideShapes Go.ChangeAt Go.RowKit
set_option linter.unusedVariables false

theorem attrsB_nil {l : List Pair} (h : l.length = 0) : attrsB l = true := attrsB_yes ⟨by omega, fun i hi => absurd hi (by omega)⟩
theorem bad_of {l : List ND} {k : Nat} (hk : k < l.length) (h : okB l k = false) : goodB l = false := goodB_no fun g => by have := g.2 k hk; rw [h] at this; simp at this
theorem okB_s (l : List ND) (j : Nat) : okB l (j + 1) = ((elemB (nodeAt l (j + 1)) || textB (nodeAt l (j + 1))) && placeB l j) := rfl
theorem ok_place {l : List ND} {j : Nat} (h : placeB l j = false) : okB l (j + 1) = false := by rw [okB_s, h]; simp
theorem place_meets {l : List ND} {j : Nat} (h : meetsN l (upAt l (j + 1)) (j : Int) = false) : placeB l j = false := by unfold placeB; rw [h]; rfl
theorem place_in {l : List ND} {j : Nat} (hu : Ups l (j + 1)) (hj : j + 1 ≤ l.length) (h : ¬ (0 ≤ upAt l (j + 1) ∧ upAt l (j + 1) ≤ j)) : placeB l j = false := by
  refine place_meets ?_
  cases e : meetsN l (upAt l (j + 1)) (j : Int) with
  | false => rfl
  | true => exact absurd (meetsN_le l _ (j + 1) hu hj (j + 1) (j : Int) (by omega) (by omega) e) h
theorem ok_attrs {l : List ND} {j : Nat} (h : attrsB (nodeAt l (j + 1)).attrs = false) : okB l (j + 1) = false := by
  rw [okB_s]
  have h1 : elemB (nodeAt l (j + 1)) = false := by unfold elemB; rw [h]; simp
  have h2 : textB (nodeAt l (j + 1)) = false := by
    unfold textB
    by_cases c : (nodeAt l (j + 1)).attrs.length = 0
    · rw [attrsB_nil c] at h; simp at h
    · simp [c]
  rw [h1, h2]; rfl
/-- Ahead of the cases: where the way up meets the up. -/
theorem place_u {l : List ND} {j u : Nat} (hm : meetsN l (upAt l (j + 1)) (j : Int) = true) (hu : upAt l (j + 1) = (u : Int)) :
    placeB l j = (named l u && (if named l (j + 1) = true then decide (deepN l (u : Int) < 10) else (named l j || !decide (upAt l j = (u : Int))))) := by
  unfold placeB; rw [hm, hu]; simp
def SAttrsSays (w : World) (a : Option Addr) (c : Nat) (l : List Pair) : Prop := Calls Tryd.prog 77 #[.slice a l.length c] w fun e w' => e = .returned (.bool (attrsB l)) ∧ Nw w w'

set_option maxRecDepth 100000 in
set_option maxHeartbeats 16000000 in
theorem sgoodNodes (w : World) (a : Option Addr) (c : Nat) (l : List ND) (hl : l.length ≤ 1048576) (hz : Small l) (hr : Nodes w a l) :
    Calls Tryd.prog 35 #[.slice a l.length c] w fun e w' => e = .returned (.bool (goodB l)) ∧ Nw w w' := by
  have HR : Hid (Nodes w a l) := hr
  have HZ : Hid (Small l) := hz
  clear hr hz
  by_cases hn : 1 ≤ l.length ∧ l.length ≤ 60
  · have hd : decide ((1 : Int) ≤ (l.length : Int) ∧ (l.length : Int) ≤ 60) = true := by simp; omega
    have hn1 : 0 < l.length := by omega
    rcases HR.out with h | ⟨b, o, rfl, hb, hc⟩
    · rw [h] at hn1; simp at hn1
    clear hc
    have HP : Hid (1 ≤ l.length ∧ l.length ≤ 60) := hn
    clear hn
    go_enter Tryd.func35, Tryd.ntmps35
    go_wp2_with (go_at_call 44; refine (in_any _ _ _ _).mono ?_; rw [hd]; rintro e w' ⟨rfl, hq⟩; have hq2 := hq.symm; clear hq; subst hq2)
    go_loopw [12] (fun i wr => ∃ k : Nat, k ≤ l.length ∧ i = .int .i64 k ∧ OkTo l k ∧ Nw w wr) (fun i _ => l.length - (intOf i).toNat)
    case atStart => exact ⟨0, by omega, rfl, fun i hi => absurd hi (by omega), Below.refl _ _⟩
    case round =>
      obtain ⟨k, hk, rfl, hto, hw⟩ := hrel
      clear hd
      have HO : Hid (OkTo l k) := hto
      have HW : Hid (Nw w wr) := hw
      by_cases hlt : k < l.length
      · have HU : Hid (Ups l k) := ups_of l k (by omega) hto
        have hbr : b < wr.heap.size := Nat.lt_of_lt_of_le hb (Below.size hw)
        have HRR : Hid (Nodes wr (some ⟨b, o, none⟩) l) := HR.out.nw hw
        have HCL : Hid (∀ i, i < l.length → wr.cell? ⟨b, o + i * 4, none⟩ = some (.string (nodeAt l i).name) ∧ wr.cell? ⟨b, o + i * 4 + 1, none⟩ = some (.int .i64 (nodeAt l i).up) ∧
            (∃ aa c, wr.cell? ⟨b, o + i * 4 + 2, none⟩ = some (.slice aa (nodeAt l i).attrs.length c) ∧ (nodeAt l i).attrs.length ≤ c ∧ Attrs wr aa (nodeAt l i).attrs) ∧ wr.cell? ⟨b, o + i * 4 + 3, none⟩ = some (.string (nodeAt l i).text)) := by
          rcases HRR.out with h | ⟨b', o', e', hb', hc⟩
          · rw [h] at hn1; simp at hn1
          simp only [Option.some.injEq, Addr.mk.injEq, and_true] at e'
          obtain ⟨rfl, rfl⟩ := e'
          exact hc
        obtain ⟨q0, q1, ⟨qa, qc, q2, qcap, q4⟩, q3⟩ := HCL.out k hlt
        obtain ⟨y1, y2, y3, y4, y5⟩ := HZ.out k hlt
        have HA : ∀ W, Nw wr W → Hid (SAttrsSays W qa qc (nodeAt l k).attrs) := fun W kW => sattrs W qa qc (nodeAt l k).attrs y3 y4 qcap (q4.nw kW)
        clear hto hw q4 y4
        cases k with
        | zero =>
          simp only [Nat.zero_mul, Nat.add_zero] at q0 q1 q2 q3
          have i0 : (0 : Int) < (l.length : Int) := by omega
          by_cases hm1 : (nodeAt l 0).up = -1
          · have hin : decide ((-1 : Int) ≤ -1 ∧ (-1 : Int) ≤ -1) = true := by decide
            have HM : Hid (upAt l 0 = -1) := hm1
            rw [hm1] at q1
            clear hm1
            by_cases hat : attrsB (nodeAt l 0).attrs = true
            · by_cases sk : (nodeAt l 0).name.size = 0
              · have HN : Hid (goodB l = false) := bad_of hlt (by simp [okB, elemB, nameB_no (s := (nodeAt l 0).name) (fun h => by have := h.1.1; omega)])
                rw [empty_of sk] at q0
                clear sk
                go_wp2_with (first | (go_at_call 44; refine (in_any _ _ _ _).mono ?_; rw [hin]; rintro e w' ⟨rfl, rfl⟩) | (go_at_call 77; refine Calls.mono (HA _ ((Below.refl _ _).alloc (Nat.le_refl _) _)).out ?_; rw [hat]; rintro e w2 ⟨rfl, k2⟩; obtain ⟨hc2, hf2⟩ := bcell k2))
                go_ret
                exact ⟨ret_bool HN.out.symm, HW.out.trans (Nw.trans (show Nw wr (wr.alloc _) from (Below.refl _ _).alloc (Nat.le_refl _) _) k2)⟩
              · have n1 := ne_nil (s := (nodeAt l 0).name) (by omega)
                have n2 := ne_emp (s := (nodeAt l 0).name) (by omega)
                clear sk
                by_cases hnb : nameB (nodeAt l 0).name = true
                · by_cases st : (nodeAt l 0).text.size = 0
                  · have hups : Ups l 1 := by
                      intro i hi
                      obtain rfl : i = 0 := by omega
                      rw [HM.out]; omega
                    have hdn : deepN l 0 = 1 := by
                      have := deepN_up l 0 1 hups (by omega) (by omega) (by omega)
                      simp only [Int.toNat_zero] at this
                      rw [this, HM.out, deepN_neg l (-1) (by omega)]
                    have HDK : Hid (∀ W, Nw wr W → Hid (Calls Tryd.prog 79 #[.slice (some ⟨b, o, none⟩) l.length c, .int .i64 0] W fun e w' => e = .returned (.int .i64 1) ∧ w' = W)) := by
                      intro W kW
                      have := sdeep W (some ⟨b, o, none⟩) c l 1 0 hl (HRR.out.nw kW) hups (by omega) (by omega) (by omega)
                      rw [hdn] at this
                      exact this
                    have HK : Hid (okB l 0 = true) := by show okB l 0 = true; simp [okB, elemB, hnb, hat, st, HM.out]
                    rw [empty_of st] at q3
                    clear st hups hdn
                    go_wp2_with (first | (go_at_call 44; refine (in_any _ _ _ _).mono ?_; rw [hin]; rintro e w' ⟨rfl, rfl⟩) | (go_at_call 77; refine Calls.mono (HA _ ((Below.refl _ _).alloc (Nat.le_refl _) _)).out ?_; rw [hat]; rintro e w2 ⟨rfl, k2⟩; obtain ⟨hc2, hf2⟩ := bcell k2) | (go_at_call 78; refine (sname _ _ y1).mono ?_; rw [hnb]; rintro e w3 ⟨rfl, hq⟩; have hq2 := hq.symm; clear hq; subst hq2) | (go_at_call 79; refine Calls.mono (HDK.out _ (Nw.trans (show Nw wr (wr.alloc _) from (Below.refl _ _).alloc (Nat.le_refl _) _) k2)).out ?_; rintro e w3 ⟨rfl, hq⟩; have hq2 := hq.symm; clear hq; subst hq2))
                    go_roundw
                    case rel => exact ⟨0 + 1, by omega, by go_num, HO.out.step HK.out, HW.out.trans (Nw.trans (show Nw wr (wr.alloc _) from (Below.refl _ _).alloc (Nat.le_refl _) _) k2)⟩
                    case measure => simp [intOf]; omega
                  · have t1 := ne_nil (s := (nodeAt l 0).text) (by omega)
                    have t2 := ne_emp (s := (nodeAt l 0).text) (by omega)
                    have HN : Hid (goodB l = false) := bad_of hlt (by simp [okB, elemB, st])
                    clear st
                    go_wp2_with (first | (go_at_call 44; refine (in_any _ _ _ _).mono ?_; rw [hin]; rintro e w' ⟨rfl, rfl⟩) | (go_at_call 77; refine Calls.mono (HA _ ((Below.refl _ _).alloc (Nat.le_refl _) _)).out ?_; rw [hat]; rintro e w2 ⟨rfl, k2⟩; obtain ⟨hc2, hf2⟩ := bcell k2) | (go_at_call 78; refine (sname _ _ y1).mono ?_; rw [hnb]; rintro e w3 ⟨rfl, hq⟩; have hq2 := hq.symm; clear hq; subst hq2))
                    go_ret
                    exact ⟨ret_bool HN.out.symm, HW.out.trans (Nw.trans (show Nw wr (wr.alloc _) from (Below.refl _ _).alloc (Nat.le_refl _) _) k2)⟩
                · have hnb' : nameB (nodeAt l 0).name = false := by simpa using hnb
                  have HN : Hid (goodB l = false) := bad_of hlt (by simp [okB, elemB, hnb'])
                  clear hnb
                  go_wp2_with (first | (go_at_call 44; refine (in_any _ _ _ _).mono ?_; rw [hin]; rintro e w' ⟨rfl, rfl⟩) | (go_at_call 77; refine Calls.mono (HA _ ((Below.refl _ _).alloc (Nat.le_refl _) _)).out ?_; rw [hat]; rintro e w2 ⟨rfl, k2⟩; obtain ⟨hc2, hf2⟩ := bcell k2) | (go_at_call 78; refine (sname _ _ y1).mono ?_; rw [hnb']; rintro e w3 ⟨rfl, hq⟩; have hq2 := hq.symm; clear hq; subst hq2))
                  go_ret
                  exact ⟨ret_bool HN.out.symm, HW.out.trans (Nw.trans (show Nw wr (wr.alloc _) from (Below.refl _ _).alloc (Nat.le_refl _) _) k2)⟩
            · have hat' : attrsB (nodeAt l 0).attrs = false := by simpa using hat
              have HN : Hid (goodB l = false) := bad_of hlt (by simp [okB, elemB, hat'])
              clear hat
              go_wp2_with (first | (go_at_call 44; refine (in_any _ _ _ _).mono ?_; rw [hin]; rintro e w' ⟨rfl, rfl⟩) | (go_at_call 77; refine Calls.mono (HA _ ((Below.refl _ _).alloc (Nat.le_refl _) _)).out ?_; rw [hat']; rintro e w2 ⟨rfl, k2⟩; obtain ⟨hc2, hf2⟩ := bcell k2))
              go_ret
              exact ⟨ret_bool HN.out.symm, HW.out.trans (Nw.trans (show Nw wr (wr.alloc _) from (Below.refl _ _).alloc (Nat.le_refl _) _) k2)⟩
          · have HN : Hid (goodB l = false) := bad_of hlt (by simp [okB, upAt, hm1])
            have hin : decide ((-1 : Int) ≤ (nodeAt l 0).up ∧ (nodeAt l 0).up ≤ -1) = false := decide_eq_false (by omega)
            clear hm1
            go_wp2_with (go_at_call 44; refine (in_any _ _ _ _).mono ?_; rw [hin]; rintro e w' ⟨rfl, rfl⟩)
            go_ret
            exact ⟨ret_bool HN.out.symm, HW.out.trans ((Below.refl _ _).alloc (Nat.le_refl _) _)⟩
        | succ j =>
          by_cases hrg : 0 ≤ (nodeAt l (j + 1)).up ∧ (nodeAt l (j + 1)).up ≤ j
          · obtain ⟨u, hu2⟩ := Int.eq_ofNat_of_zero_le hrg.1
            have huj : u < j + 1 := by omega
            have hul : u < l.length := by omega
            have hin : decide ((-1 : Int) ≤ (u : Int) ∧ (u : Int) ≤ (j : Int)) = true := decide_eq_true (by omega)
            have hku : upAt l (j + 1) = (u : Int) := hu2
            have HKU : Hid (upAt l (j + 1) = (u : Int)) := hku
            rw [hu2] at q1
            have hu1 : ((u : Int) == -1) = false := beq_eq_false_iff_ne.2 (by omega)
            have hj0 : ((j : Int) + 1 == 0) = false := beq_eq_false_iff_ne.2 (by omega)
            have hj1 : 0 < (j : Int) + 1 := by omega
            clear hu2 hku hrg
            by_cases hat : attrsB (nodeAt l (j + 1)).attrs = true
            · obtain ⟨x0, x1, ⟨xa, xc, x2, xcap, x4⟩, x3⟩ := HCL.out u hul
              obtain ⟨j0, j1, ⟨ja, jc, j2, jcap, j4⟩, j3⟩ := HCL.out j (by omega)
              clear x1 x2 x3 x4 xcap j2 j3 j4 jcap
              have HDK : Hid (∀ W, Nw wr W → Hid (Calls Tryd.prog 79 #[.slice (some ⟨b, o, none⟩) l.length c, .int .i64 ((j : Int) + 1)] W fun e w' => e = .returned (.int .i64 (deepN l ((j : Int) + 1))) ∧ w' = W)) := by
                intro W kW
                have hups : Ups l (j + 1 + 1) := by
                  intro i hi
                  by_cases ci : i < j + 1
                  · exact HU.out i ci
                  · have : i = j + 1 := by omega
                    subst this
                    rw [HKU.out]; omega
                exact sdeep W (some ⟨b, o, none⟩) c l (j + 1 + 1) ((j : Int) + 1) hl (HRR.out.nw kW) hups (by omega) (by omega) (by omega)
              by_cases hmt : meetsN l (u : Int) (j : Int) = true
              · have HD : Hid (meetsN l (u : Int) (j : Int) = true) := hmt
                have HPU : Hid (placeB l j = (named l u && (if named l (j + 1) = true then decide (deepN l (u : Int) < 10) else (named l j || !decide (upAt l j = (u : Int)))))) := place_u (by rw [HKU.out]; exact hmt) HKU.out
                clear hmt
                by_cases su : (nodeAt l u).name.size = 0
                · have HN : Hid (goodB l = false) := bad_of hlt (ok_place (by rw [HPU.out]; simp [named, su]))
                  rw [empty_of su] at x0
                  clear su
                  go_wp2_with (first | (go_at_call 44; refine (in_any _ _ _ _).mono ?_; rw [hin]; rintro e w' ⟨rfl, rfl⟩) | (go_at_call 77; refine Calls.mono (HA _ ((Below.refl _ _).alloc (Nat.le_refl _) _)).out ?_; rw [hat]; rintro e w2 ⟨rfl, k2⟩; obtain ⟨hc2, hf2⟩ := bcell k2))
                  go_loop [5] (fun y => ∃ K : Int, -1 ≤ K ∧ K < (j : Int) + 1 ∧ y = .int .i64 K ∧ meetsN l (u : Int) K = true) (fun y => ((intOf y) + 1).toNat)
                  case atStart => exact ⟨(j : Int), by omega, by omega, rfl, HD.out⟩
                  case round =>
                    obtain ⟨K, hK0, hK1, rfl, hdd⟩ := hrel
                    by_cases hneg : K < 0
                    · rw [meetsN_neg l _ K hneg] at hdd; simp at hdd
                    · obtain ⟨m, rfl⟩ := Int.eq_ofNat_of_zero_le (show 0 ≤ K by omega)
                      have hm : m < l.length := by omega
                      have mi : (m : Int) < (l.length : Int) := by omega
                      by_cases hx : (m : Int) = (u : Int)
                      · have hmu : m = u := by omega
                        subst hmu
                        clear hdd hneg hx
                        go_wp2_with fail
                        go_ret
                        exact ⟨ret_bool HN.out.symm, HW.out.trans (Nw.trans (show Nw wr (wr.alloc _) from (Below.refl _ _).alloc (Nat.le_refl _) _) k2)⟩
                      · have hnx : ((m : Int) != (u : Int)) = true := bne_iff_ne.2 hx
                        have hup := HU.out m (by omega)
                        have hdu := meetsN_up l (u : Int) (m : Int) (j + 1) HU.out (by omega) (by omega) (by omega) hx
                        simp only [Int.toNat_natCast] at hdu
                        obtain ⟨_, m1, _, _⟩ := HCL.out m hm
                        have HNX : Hid (meetsN l (u : Int) (upAt l m) = true) := by show meetsN l _ _ = _; rw [← hdu]; exact hdd
                        unfold upAt at hup HNX
                        clear hdd hdu
                        generalize (nodeAt l m).up = UM at *
                        go_wp2
                        go_round
                        case rel => exact ⟨UM, by omega, by omega, rfl, HNX.out⟩
                        case measure => simp [intOf]; omega
                · have hnu : named l u = true := by simp [named, su]
                  have u1 := ne_nil (s := (nodeAt l u).name) (by omega)
                  have u2 := ne_emp (s := (nodeAt l u).name) (by omega)
                  rw [hnu, Bool.true_and] at HPU
                  clear su hnu
                  by_cases sk : (nodeAt l (j + 1)).name.size = 0
                  · have hnk : ¬ named l (j + 1) = true := by simp [named, sk]
                    rw [if_neg hnk] at HPU
                    have hel : elemB (nodeAt l (j + 1)) = false := by
                      unfold elemB
                      rw [nameB_no fun h => by have := h.1.1; omega]; rfl
                    have HEL : Hid (elemB (nodeAt l (j + 1)) = false) := hel
                    rw [empty_of sk] at q0
                    clear hnk hel
                    by_cases sa : (nodeAt l (j + 1)).attrs.length = 0
                    · have HA2 : ∀ W, Nw wr W → Hid (Calls Tryd.prog 77 #[.slice qa 0 qc] W fun e w' => e = .returned (.bool (attrsB (nodeAt l (j + 1)).attrs)) ∧ Nw W w') := fun W kW => by
                        have h := (HA W kW).out
                        unfold SAttrsSays at h
                        rw [sa] at h
                        exact h
                      rw [sa] at q2
                      clear HA
                      have HA := HA2
                      clear HA2
                      by_cases st : (nodeAt l (j + 1)).text.size = 0
                      · have HN : Hid (goodB l = false) := bad_of hlt (by rw [okB_s, HEL.out]; simp [textB, st])
                        rw [empty_of st] at q3
                        clear st sk sa
                        go_wp2_with (first | (go_at_call 44; refine (in_any _ _ _ _).mono ?_; rw [hin]; rintro e w' ⟨rfl, rfl⟩) | (go_at_call 77; refine Calls.mono (HA _ ((Below.refl _ _).alloc (Nat.le_refl _) _)).out ?_; rw [hat]; rintro e w2 ⟨rfl, k2⟩; obtain ⟨hc2, hf2⟩ := bcell k2))
                        go_loop [5] (fun y => ∃ K : Int, -1 ≤ K ∧ K < (j : Int) + 1 ∧ y = .int .i64 K ∧ meetsN l (u : Int) K = true) (fun y => ((intOf y) + 1).toNat)
                        case atStart => exact ⟨(j : Int), by omega, by omega, rfl, HD.out⟩
                        case round =>
                          obtain ⟨K, hK0, hK1, rfl, hdd⟩ := hrel
                          by_cases hneg : K < 0
                          · rw [meetsN_neg l _ K hneg] at hdd; simp at hdd
                          · obtain ⟨m, rfl⟩ := Int.eq_ofNat_of_zero_le (show 0 ≤ K by omega)
                            have hm : m < l.length := by omega
                            have mi : (m : Int) < (l.length : Int) := by omega
                            by_cases hx : (m : Int) = (u : Int)
                            · have hmu : m = u := by omega
                              subst hmu
                              clear hdd hneg hx
                              go_wp2_with fail
                              go_ret
                              exact ⟨ret_bool HN.out.symm, HW.out.trans (Nw.trans (show Nw wr (wr.alloc _) from (Below.refl _ _).alloc (Nat.le_refl _) _) k2)⟩
                            · have hnx : ((m : Int) != (u : Int)) = true := bne_iff_ne.2 hx
                              have hup := HU.out m (by omega)
                              have hdu := meetsN_up l (u : Int) (m : Int) (j + 1) HU.out (by omega) (by omega) (by omega) hx
                              simp only [Int.toNat_natCast] at hdu
                              obtain ⟨_, m1, _, _⟩ := HCL.out m hm
                              have HNX : Hid (meetsN l (u : Int) (upAt l m) = true) := by show meetsN l _ _ = _; rw [← hdu]; exact hdd
                              unfold upAt at hup HNX
                              clear hdd hdu
                              generalize (nodeAt l m).up = UM at *
                              go_wp2
                              go_round
                              case rel => exact ⟨UM, by omega, by omega, rfl, HNX.out⟩
                              case measure => simp [intOf]; omega
                      · have t1 := ne_nil (s := (nodeAt l (j + 1)).text) (by omega)
                        have t2 := ne_emp (s := (nodeAt l (j + 1)).text) (by omega)
                        by_cases hrn : runesB (nodeAt l (j + 1)).text = true
                        · have hsb : decide (0 ≤ sbadV (nodeAt l (j + 1)).text) = false := by rw [sbad_ge, hrn]; rfl
                          have HTX : Hid (textB (nodeAt l (j + 1)) = true) := by show textB _ = true; simp [textB, sk, sa, st, hrn]
                          clear st sk hrn
                          by_cases sj : (nodeAt l j).name.size = 0
                          · rw [empty_of sj] at j0
                            by_cases uj : (nodeAt l j).up = (u : Int)
                            · have HN : Hid (goodB l = false) := bad_of hlt (ok_place (by rw [HPU.out]; simp [named, sj, upAt, uj]))
                              rw [uj] at j1
                              have ub : ((u : Int) == (u : Int)) = true := by simp
                              clear sj uj sa
                              go_wp2_with (first | (go_at_call 44; refine (in_any _ _ _ _).mono ?_; rw [hin]; rintro e w' ⟨rfl, rfl⟩) | (go_at_call 77; refine Calls.mono (HA _ ((Below.refl _ _).alloc (Nat.le_refl _) _)).out ?_; rw [hat]; rintro e w2 ⟨rfl, k2⟩; obtain ⟨hc2, hf2⟩ := bcell k2))
                              go_loop [5] (fun y => ∃ K : Int, -1 ≤ K ∧ K < (j : Int) + 1 ∧ y = .int .i64 K ∧ meetsN l (u : Int) K = true) (fun y => ((intOf y) + 1).toNat)
                              case atStart => exact ⟨(j : Int), by omega, by omega, rfl, HD.out⟩
                              case round =>
                                obtain ⟨K, hK0, hK1, rfl, hdd⟩ := hrel
                                by_cases hneg : K < 0
                                · rw [meetsN_neg l _ K hneg] at hdd; simp at hdd
                                · obtain ⟨m, rfl⟩ := Int.eq_ofNat_of_zero_le (show 0 ≤ K by omega)
                                  have hm : m < l.length := by omega
                                  have mi : (m : Int) < (l.length : Int) := by omega
                                  by_cases hx : (m : Int) = (u : Int)
                                  · have hmu : m = u := by omega
                                    subst hmu
                                    clear hdd hneg hx
                                    go_wp2_with (go_at_call 80; refine (sbad _ _ y2).mono ?_; rintro e w3 ⟨rfl, hq⟩; have hq2 := hq.symm; clear hq; subst hq2)
                                    have NN : Nw wr w2 := Nw.trans (show Nw wr (wr.alloc _) from (Below.refl _ _).alloc (Nat.le_refl _) _) k2
                                    have z0 := ((bcell NN).1 _ _ hbr).trans j0
                                    have z1 := ((bcell NN).1 _ _ hbr).trans j1
                                    have zu : w2.cell? ⟨wr.heap.size, 1, none⟩ = some (.int .i64 (m : Int)) := (hc2 _ 1 (by simp)).trans (by simp)
                                    have hw1 : IntKind.i64.wrap ((j : Int) + 1 - 1) = (j : Int) := by rw [show (j : Int) + 1 - 1 = j by omega]; exact IntWalk.i64_in _ ⟨by omega, by omega⟩
                                    have g1 : (0 : Int) ≤ (j : Int) := by omega
                                    have g2 : (j : Int) < (l.length : Int) := by omega
                                    clear hc2 hf2 NN HA
                                    go_quiet (fail)
                                    go_wp2
                                    go_ret
                                    exact ⟨ret_bool HN.out.symm, HW.out.trans (Nw.trans (Nw.trans (show Nw wr (wr.alloc _) from (Below.refl _ _).alloc (Nat.le_refl _) _) k2) ((Kp.refl _).drewN _).nw)⟩
                                  · have hnx : ((m : Int) != (u : Int)) = true := bne_iff_ne.2 hx
                                    have hup := HU.out m (by omega)
                                    have hdu := meetsN_up l (u : Int) (m : Int) (j + 1) HU.out (by omega) (by omega) (by omega) hx
                                    simp only [Int.toNat_natCast] at hdu
                                    obtain ⟨_, m1, _, _⟩ := HCL.out m hm
                                    have HNX : Hid (meetsN l (u : Int) (upAt l m) = true) := by show meetsN l _ _ = _; rw [← hdu]; exact hdd
                                    unfold upAt at hup HNX
                                    clear hdd hdu
                                    generalize (nodeAt l m).up = UM at *
                                    go_wp2
                                    go_round
                                    case rel => exact ⟨UM, by omega, by omega, rfl, HNX.out⟩
                                    case measure => simp [intOf]; omega
                            · have HK : Hid (okB l (j + 1) = true) := by show okB l (j + 1) = true; rw [okB_s, HTX.out, HPU.out]; simp [named, sj, upAt, uj]
                              have ub : ((nodeAt l j).up == (u : Int)) = false := beq_eq_false_iff_ne.2 uj
                              clear sj uj sa
                              go_wp2_with (first | (go_at_call 44; refine (in_any _ _ _ _).mono ?_; rw [hin]; rintro e w' ⟨rfl, rfl⟩) | (go_at_call 77; refine Calls.mono (HA _ ((Below.refl _ _).alloc (Nat.le_refl _) _)).out ?_; rw [hat]; rintro e w2 ⟨rfl, k2⟩; obtain ⟨hc2, hf2⟩ := bcell k2))
                              go_loop [5] (fun y => ∃ K : Int, -1 ≤ K ∧ K < (j : Int) + 1 ∧ y = .int .i64 K ∧ meetsN l (u : Int) K = true) (fun y => ((intOf y) + 1).toNat)
                              case atStart => exact ⟨(j : Int), by omega, by omega, rfl, HD.out⟩
                              case round =>
                                obtain ⟨K, hK0, hK1, rfl, hdd⟩ := hrel
                                by_cases hneg : K < 0
                                · rw [meetsN_neg l _ K hneg] at hdd; simp at hdd
                                · obtain ⟨m, rfl⟩ := Int.eq_ofNat_of_zero_le (show 0 ≤ K by omega)
                                  have hm : m < l.length := by omega
                                  have mi : (m : Int) < (l.length : Int) := by omega
                                  by_cases hx : (m : Int) = (u : Int)
                                  · have hmu : m = u := by omega
                                    subst hmu
                                    clear hdd hneg hx
                                    go_wp2_with (go_at_call 80; refine (sbad _ _ y2).mono ?_; rintro e w3 ⟨rfl, hq⟩; have hq2 := hq.symm; clear hq; subst hq2)
                                    have NN : Nw wr w2 := Nw.trans (show Nw wr (wr.alloc _) from (Below.refl _ _).alloc (Nat.le_refl _) _) k2
                                    have z0 := ((bcell NN).1 _ _ hbr).trans j0
                                    have z1 := ((bcell NN).1 _ _ hbr).trans j1
                                    have zu : w2.cell? ⟨wr.heap.size, 1, none⟩ = some (.int .i64 (m : Int)) := (hc2 _ 1 (by simp)).trans (by simp)
                                    have hw1 : IntKind.i64.wrap ((j : Int) + 1 - 1) = (j : Int) := by rw [show (j : Int) + 1 - 1 = j by omega]; exact IntWalk.i64_in _ ⟨by omega, by omega⟩
                                    have g1 : (0 : Int) ≤ (j : Int) := by omega
                                    have g2 : (j : Int) < (l.length : Int) := by omega
                                    clear hc2 hf2 NN HA
                                    go_quiet (fail)
                                    go_wp2
                                    go_roundw
                                    case rel => exact ⟨j + 1 + 1, by omega, by go_num, HO.out.step HK.out, HW.out.trans (Nw.trans (Nw.trans (show Nw wr (wr.alloc _) from (Below.refl _ _).alloc (Nat.le_refl _) _) k2) ((Kp.refl _).drewN _).nw)⟩
                                    case measure => simp [intOf]; omega
                                  · have hnx : ((m : Int) != (u : Int)) = true := bne_iff_ne.2 hx
                                    have hup := HU.out m (by omega)
                                    have hdu := meetsN_up l (u : Int) (m : Int) (j + 1) HU.out (by omega) (by omega) (by omega) hx
                                    simp only [Int.toNat_natCast] at hdu
                                    obtain ⟨_, m1, _, _⟩ := HCL.out m hm
                                    have HNX : Hid (meetsN l (u : Int) (upAt l m) = true) := by show meetsN l _ _ = _; rw [← hdu]; exact hdd
                                    unfold upAt at hup HNX
                                    clear hdd hdu
                                    generalize (nodeAt l m).up = UM at *
                                    go_wp2
                                    go_round
                                    case rel => exact ⟨UM, by omega, by omega, rfl, HNX.out⟩
                                    case measure => simp [intOf]; omega
                          · have v1 := ne_nil (s := (nodeAt l j).name) (by omega)
                            have v2 := ne_emp (s := (nodeAt l j).name) (by omega)
                            have HK : Hid (okB l (j + 1) = true) := by show okB l (j + 1) = true; rw [okB_s, HTX.out, HPU.out]; simp [named, sj]
                            clear sj sa
                            go_wp2_with (first | (go_at_call 44; refine (in_any _ _ _ _).mono ?_; rw [hin]; rintro e w' ⟨rfl, rfl⟩) | (go_at_call 77; refine Calls.mono (HA _ ((Below.refl _ _).alloc (Nat.le_refl _) _)).out ?_; rw [hat]; rintro e w2 ⟨rfl, k2⟩; obtain ⟨hc2, hf2⟩ := bcell k2))
                            go_loop [5] (fun y => ∃ K : Int, -1 ≤ K ∧ K < (j : Int) + 1 ∧ y = .int .i64 K ∧ meetsN l (u : Int) K = true) (fun y => ((intOf y) + 1).toNat)
                            case atStart => exact ⟨(j : Int), by omega, by omega, rfl, HD.out⟩
                            case round =>
                              obtain ⟨K, hK0, hK1, rfl, hdd⟩ := hrel
                              by_cases hneg : K < 0
                              · rw [meetsN_neg l _ K hneg] at hdd; simp at hdd
                              · obtain ⟨m, rfl⟩ := Int.eq_ofNat_of_zero_le (show 0 ≤ K by omega)
                                have hm : m < l.length := by omega
                                have mi : (m : Int) < (l.length : Int) := by omega
                                by_cases hx : (m : Int) = (u : Int)
                                · have hmu : m = u := by omega
                                  subst hmu
                                  clear hdd hneg hx
                                  go_wp2_with (go_at_call 80; refine (sbad _ _ y2).mono ?_; rintro e w3 ⟨rfl, hq⟩; have hq2 := hq.symm; clear hq; subst hq2)
                                  have NN : Nw wr w2 := Nw.trans (show Nw wr (wr.alloc _) from (Below.refl _ _).alloc (Nat.le_refl _) _) k2
                                  have z0 := ((bcell NN).1 _ _ hbr).trans j0
                                  have z1 := ((bcell NN).1 _ _ hbr).trans j1
                                  have zu : w2.cell? ⟨wr.heap.size, 1, none⟩ = some (.int .i64 (m : Int)) := (hc2 _ 1 (by simp)).trans (by simp)
                                  have hw1 : IntKind.i64.wrap ((j : Int) + 1 - 1) = (j : Int) := by rw [show (j : Int) + 1 - 1 = j by omega]; exact IntWalk.i64_in _ ⟨by omega, by omega⟩
                                  have g1 : (0 : Int) ≤ (j : Int) := by omega
                                  have g2 : (j : Int) < (l.length : Int) := by omega
                                  clear hc2 hf2 NN HA
                                  go_quiet (fail)
                                  go_wp2
                                  go_roundw
                                  case rel => exact ⟨j + 1 + 1, by omega, by go_num, HO.out.step HK.out, HW.out.trans (Nw.trans (Nw.trans (show Nw wr (wr.alloc _) from (Below.refl _ _).alloc (Nat.le_refl _) _) k2) ((Kp.refl _).drewN _).nw)⟩
                                  case measure => simp [intOf]; omega
                                · have hnx : ((m : Int) != (u : Int)) = true := bne_iff_ne.2 hx
                                  have hup := HU.out m (by omega)
                                  have hdu := meetsN_up l (u : Int) (m : Int) (j + 1) HU.out (by omega) (by omega) (by omega) hx
                                  simp only [Int.toNat_natCast] at hdu
                                  obtain ⟨_, m1, _, _⟩ := HCL.out m hm
                                  have HNX : Hid (meetsN l (u : Int) (upAt l m) = true) := by show meetsN l _ _ = _; rw [← hdu]; exact hdd
                                  unfold upAt at hup HNX
                                  clear hdd hdu
                                  generalize (nodeAt l m).up = UM at *
                                  go_wp2
                                  go_round
                                  case rel => exact ⟨UM, by omega, by omega, rfl, HNX.out⟩
                                  case measure => simp [intOf]; omega
                        · have hsb : decide (0 ≤ sbadV (nodeAt l (j + 1)).text) = true := by rw [sbad_ge]; simpa using hrn
                          have HN : Hid (goodB l = false) := bad_of hlt (by rw [okB_s, HEL.out]; simp [textB, hrn])
                          clear st sk hrn sa
                          go_wp2_with (first | (go_at_call 44; refine (in_any _ _ _ _).mono ?_; rw [hin]; rintro e w' ⟨rfl, rfl⟩) | (go_at_call 77; refine Calls.mono (HA _ ((Below.refl _ _).alloc (Nat.le_refl _) _)).out ?_; rw [hat]; rintro e w2 ⟨rfl, k2⟩; obtain ⟨hc2, hf2⟩ := bcell k2))
                          go_loop [5] (fun y => ∃ K : Int, -1 ≤ K ∧ K < (j : Int) + 1 ∧ y = .int .i64 K ∧ meetsN l (u : Int) K = true) (fun y => ((intOf y) + 1).toNat)
                          case atStart => exact ⟨(j : Int), by omega, by omega, rfl, HD.out⟩
                          case round =>
                            obtain ⟨K, hK0, hK1, rfl, hdd⟩ := hrel
                            by_cases hneg : K < 0
                            · rw [meetsN_neg l _ K hneg] at hdd; simp at hdd
                            · obtain ⟨m, rfl⟩ := Int.eq_ofNat_of_zero_le (show 0 ≤ K by omega)
                              have hm : m < l.length := by omega
                              have mi : (m : Int) < (l.length : Int) := by omega
                              by_cases hx : (m : Int) = (u : Int)
                              · have hmu : m = u := by omega
                                subst hmu
                                clear hdd hneg hx
                                go_wp2_with (go_at_call 80; refine (sbad _ _ y2).mono ?_; rintro e w3 ⟨rfl, hq⟩; have hq2 := hq.symm; clear hq; subst hq2)
                                go_ret
                                exact ⟨ret_bool HN.out.symm, HW.out.trans (Nw.trans (show Nw wr (wr.alloc _) from (Below.refl _ _).alloc (Nat.le_refl _) _) k2)⟩
                              · have hnx : ((m : Int) != (u : Int)) = true := bne_iff_ne.2 hx
                                have hup := HU.out m (by omega)
                                have hdu := meetsN_up l (u : Int) (m : Int) (j + 1) HU.out (by omega) (by omega) (by omega) hx
                                simp only [Int.toNat_natCast] at hdu
                                obtain ⟨_, m1, _, _⟩ := HCL.out m hm
                                have HNX : Hid (meetsN l (u : Int) (upAt l m) = true) := by show meetsN l _ _ = _; rw [← hdu]; exact hdd
                                unfold upAt at hup HNX
                                clear hdd hdu
                                generalize (nodeAt l m).up = UM at *
                                go_wp2
                                go_round
                                case rel => exact ⟨UM, by omega, by omega, rfl, HNX.out⟩
                                case measure => simp [intOf]; omega
                    · have ha1 : 0 < (nodeAt l (j + 1)).attrs.length := by omega
                      have ha2 : ¬ (nodeAt l (j + 1)).attrs = [] := by intro e; rw [e] at ha1; simp at ha1
                      have HN : Hid (goodB l = false) := bad_of hlt (by rw [okB_s, HEL.out]; simp [textB, sa])
                      clear sk sa
                      go_wp2_with (first | (go_at_call 44; refine (in_any _ _ _ _).mono ?_; rw [hin]; rintro e w' ⟨rfl, rfl⟩) | (go_at_call 77; refine Calls.mono (HA _ ((Below.refl _ _).alloc (Nat.le_refl _) _)).out ?_; rw [hat]; rintro e w2 ⟨rfl, k2⟩; obtain ⟨hc2, hf2⟩ := bcell k2))
                      go_loop [5] (fun y => ∃ K : Int, -1 ≤ K ∧ K < (j : Int) + 1 ∧ y = .int .i64 K ∧ meetsN l (u : Int) K = true) (fun y => ((intOf y) + 1).toNat)
                      case atStart => exact ⟨(j : Int), by omega, by omega, rfl, HD.out⟩
                      case round =>
                        obtain ⟨K, hK0, hK1, rfl, hdd⟩ := hrel
                        by_cases hneg : K < 0
                        · rw [meetsN_neg l _ K hneg] at hdd; simp at hdd
                        · obtain ⟨m, rfl⟩ := Int.eq_ofNat_of_zero_le (show 0 ≤ K by omega)
                          have hm : m < l.length := by omega
                          have mi : (m : Int) < (l.length : Int) := by omega
                          by_cases hx : (m : Int) = (u : Int)
                          · have hmu : m = u := by omega
                            subst hmu
                            clear hdd hneg hx
                            go_wp2_with fail
                            go_ret
                            exact ⟨ret_bool HN.out.symm, HW.out.trans (Nw.trans (show Nw wr (wr.alloc _) from (Below.refl _ _).alloc (Nat.le_refl _) _) k2)⟩
                          · have hnx : ((m : Int) != (u : Int)) = true := bne_iff_ne.2 hx
                            have hup := HU.out m (by omega)
                            have hdu := meetsN_up l (u : Int) (m : Int) (j + 1) HU.out (by omega) (by omega) (by omega) hx
                            simp only [Int.toNat_natCast] at hdu
                            obtain ⟨_, m1, _, _⟩ := HCL.out m hm
                            have HNX : Hid (meetsN l (u : Int) (upAt l m) = true) := by show meetsN l _ _ = _; rw [← hdu]; exact hdd
                            unfold upAt at hup HNX
                            clear hdd hdu
                            generalize (nodeAt l m).up = UM at *
                            go_wp2
                            go_round
                            case rel => exact ⟨UM, by omega, by omega, rfl, HNX.out⟩
                            case measure => simp [intOf]; omega
                  · have hnk : named l (j + 1) = true := by simp [named, sk]
                    rw [if_pos hnk] at HPU
                    have HTX : Hid (textB (nodeAt l (j + 1)) = false) := by show textB _ = false; simp [textB, sk]
                    have n1 := ne_nil (s := (nodeAt l (j + 1)).name) (by omega)
                    have n2 := ne_emp (s := (nodeAt l (j + 1)).name) (by omega)
                    clear hnk sk
                    by_cases hnb : nameB (nodeAt l (j + 1)).name = true
                    · by_cases st : (nodeAt l (j + 1)).text.size = 0
                      · have hdn : deepN l ((j : Int) + 1) = deepN l (u : Int) + 1 := by
                          have hups : Ups l (j + 1 + 1) := by
                            intro i hi
                            by_cases ci : i < j + 1
                            · exact HU.out i ci
                            · have : i = j + 1 := by omega
                              subst this
                              rw [HKU.out]; omega
                          have := deepN_up l ((j : Int) + 1) (j + 1 + 1) hups (by omega) (by omega) (by omega)
                          rw [show ((j : Int) + 1).toNat = j + 1 by omega, HKU.out] at this
                          exact this
                        have HEL : Hid (elemB (nodeAt l (j + 1)) = true) := by show elemB _ = true; unfold elemB; rw [hnb, hat]; simp [st]
                        rw [empty_of st] at q3
                        clear st
                        by_cases hdp : deepN l (u : Int) < 10
                        · have hd9 : decide ((10 : Int) < (deepN l ((j : Int) + 1) : Int)) = false := decide_eq_false (by omega)
                          have HK : Hid (okB l (j + 1) = true) := by show okB l (j + 1) = true; rw [okB_s, HEL.out, HPU.out]; simp [hdp]
                          clear hdp hdn
                          go_wp2_with (first | (go_at_call 44; refine (in_any _ _ _ _).mono ?_; rw [hin]; rintro e w' ⟨rfl, rfl⟩) | (go_at_call 77; refine Calls.mono (HA _ ((Below.refl _ _).alloc (Nat.le_refl _) _)).out ?_; rw [hat]; rintro e w2 ⟨rfl, k2⟩; obtain ⟨hc2, hf2⟩ := bcell k2))
                          go_loop [5] (fun y => ∃ K : Int, -1 ≤ K ∧ K < (j : Int) + 1 ∧ y = .int .i64 K ∧ meetsN l (u : Int) K = true) (fun y => ((intOf y) + 1).toNat)
                          case atStart => exact ⟨(j : Int), by omega, by omega, rfl, HD.out⟩
                          case round =>
                            obtain ⟨K, hK0, hK1, rfl, hdd⟩ := hrel
                            by_cases hneg : K < 0
                            · rw [meetsN_neg l _ K hneg] at hdd; simp at hdd
                            · obtain ⟨m, rfl⟩ := Int.eq_ofNat_of_zero_le (show 0 ≤ K by omega)
                              have hm : m < l.length := by omega
                              have mi : (m : Int) < (l.length : Int) := by omega
                              by_cases hx : (m : Int) = (u : Int)
                              · have hmu : m = u := by omega
                                subst hmu
                                clear hdd hneg hx
                                go_wp2_with (first | (go_at_call 78; refine (sname _ _ y1).mono ?_; rw [hnb]; rintro e w3 ⟨rfl, hq⟩; have hq2 := hq.symm; clear hq; subst hq2) | (go_at_call 79; refine Calls.mono (HDK.out _ (Nw.trans (show Nw wr (wr.alloc _) from (Below.refl _ _).alloc (Nat.le_refl _) _) k2)).out ?_; rintro e w3 ⟨rfl, hq⟩; have hq2 := hq.symm; clear hq; subst hq2))
                                go_roundw
                                case rel => exact ⟨j + 1 + 1, by omega, by go_num, HO.out.step HK.out, HW.out.trans (Nw.trans (show Nw wr (wr.alloc _) from (Below.refl _ _).alloc (Nat.le_refl _) _) k2)⟩
                                case measure => simp [intOf]; omega
                              · have hnx : ((m : Int) != (u : Int)) = true := bne_iff_ne.2 hx
                                have hup := HU.out m (by omega)
                                have hdu := meetsN_up l (u : Int) (m : Int) (j + 1) HU.out (by omega) (by omega) (by omega) hx
                                simp only [Int.toNat_natCast] at hdu
                                obtain ⟨_, m1, _, _⟩ := HCL.out m hm
                                have HNX : Hid (meetsN l (u : Int) (upAt l m) = true) := by show meetsN l _ _ = _; rw [← hdu]; exact hdd
                                unfold upAt at hup HNX
                                clear hdd hdu
                                generalize (nodeAt l m).up = UM at *
                                go_wp2
                                go_round
                                case rel => exact ⟨UM, by omega, by omega, rfl, HNX.out⟩
                                case measure => simp [intOf]; omega
                        · have hd9 : decide ((10 : Int) < (deepN l ((j : Int) + 1) : Int)) = true := decide_eq_true (by omega)
                          have HN : Hid (goodB l = false) := bad_of hlt (ok_place (by rw [HPU.out]; simp; omega))
                          clear hdp hdn
                          go_wp2_with (first | (go_at_call 44; refine (in_any _ _ _ _).mono ?_; rw [hin]; rintro e w' ⟨rfl, rfl⟩) | (go_at_call 77; refine Calls.mono (HA _ ((Below.refl _ _).alloc (Nat.le_refl _) _)).out ?_; rw [hat]; rintro e w2 ⟨rfl, k2⟩; obtain ⟨hc2, hf2⟩ := bcell k2))
                          go_loop [5] (fun y => ∃ K : Int, -1 ≤ K ∧ K < (j : Int) + 1 ∧ y = .int .i64 K ∧ meetsN l (u : Int) K = true) (fun y => ((intOf y) + 1).toNat)
                          case atStart => exact ⟨(j : Int), by omega, by omega, rfl, HD.out⟩
                          case round =>
                            obtain ⟨K, hK0, hK1, rfl, hdd⟩ := hrel
                            by_cases hneg : K < 0
                            · rw [meetsN_neg l _ K hneg] at hdd; simp at hdd
                            · obtain ⟨m, rfl⟩ := Int.eq_ofNat_of_zero_le (show 0 ≤ K by omega)
                              have hm : m < l.length := by omega
                              have mi : (m : Int) < (l.length : Int) := by omega
                              by_cases hx : (m : Int) = (u : Int)
                              · have hmu : m = u := by omega
                                subst hmu
                                clear hdd hneg hx
                                go_wp2_with (first | (go_at_call 78; refine (sname _ _ y1).mono ?_; rw [hnb]; rintro e w3 ⟨rfl, hq⟩; have hq2 := hq.symm; clear hq; subst hq2) | (go_at_call 79; refine Calls.mono (HDK.out _ (Nw.trans (show Nw wr (wr.alloc _) from (Below.refl _ _).alloc (Nat.le_refl _) _) k2)).out ?_; rintro e w3 ⟨rfl, hq⟩; have hq2 := hq.symm; clear hq; subst hq2))
                                go_ret
                                exact ⟨ret_bool HN.out.symm, HW.out.trans (Nw.trans (show Nw wr (wr.alloc _) from (Below.refl _ _).alloc (Nat.le_refl _) _) k2)⟩
                              · have hnx : ((m : Int) != (u : Int)) = true := bne_iff_ne.2 hx
                                have hup := HU.out m (by omega)
                                have hdu := meetsN_up l (u : Int) (m : Int) (j + 1) HU.out (by omega) (by omega) (by omega) hx
                                simp only [Int.toNat_natCast] at hdu
                                obtain ⟨_, m1, _, _⟩ := HCL.out m hm
                                have HNX : Hid (meetsN l (u : Int) (upAt l m) = true) := by show meetsN l _ _ = _; rw [← hdu]; exact hdd
                                unfold upAt at hup HNX
                                clear hdd hdu
                                generalize (nodeAt l m).up = UM at *
                                go_wp2
                                go_round
                                case rel => exact ⟨UM, by omega, by omega, rfl, HNX.out⟩
                                case measure => simp [intOf]; omega
                      · have t1 := ne_nil (s := (nodeAt l (j + 1)).text) (by omega)
                        have t2 := ne_emp (s := (nodeAt l (j + 1)).text) (by omega)
                        have HN : Hid (goodB l = false) := bad_of hlt (by rw [okB_s, HTX.out]; simp [elemB, st])
                        clear st
                        go_wp2_with (first | (go_at_call 44; refine (in_any _ _ _ _).mono ?_; rw [hin]; rintro e w' ⟨rfl, rfl⟩) | (go_at_call 77; refine Calls.mono (HA _ ((Below.refl _ _).alloc (Nat.le_refl _) _)).out ?_; rw [hat]; rintro e w2 ⟨rfl, k2⟩; obtain ⟨hc2, hf2⟩ := bcell k2))
                        go_loop [5] (fun y => ∃ K : Int, -1 ≤ K ∧ K < (j : Int) + 1 ∧ y = .int .i64 K ∧ meetsN l (u : Int) K = true) (fun y => ((intOf y) + 1).toNat)
                        case atStart => exact ⟨(j : Int), by omega, by omega, rfl, HD.out⟩
                        case round =>
                          obtain ⟨K, hK0, hK1, rfl, hdd⟩ := hrel
                          by_cases hneg : K < 0
                          · rw [meetsN_neg l _ K hneg] at hdd; simp at hdd
                          · obtain ⟨m, rfl⟩ := Int.eq_ofNat_of_zero_le (show 0 ≤ K by omega)
                            have hm : m < l.length := by omega
                            have mi : (m : Int) < (l.length : Int) := by omega
                            by_cases hx : (m : Int) = (u : Int)
                            · have hmu : m = u := by omega
                              subst hmu
                              clear hdd hneg hx
                              go_wp2_with (go_at_call 78; refine (sname _ _ y1).mono ?_; rw [hnb]; rintro e w3 ⟨rfl, hq⟩; have hq2 := hq.symm; clear hq; subst hq2)
                              go_ret
                              exact ⟨ret_bool HN.out.symm, HW.out.trans (Nw.trans (show Nw wr (wr.alloc _) from (Below.refl _ _).alloc (Nat.le_refl _) _) k2)⟩
                            · have hnx : ((m : Int) != (u : Int)) = true := bne_iff_ne.2 hx
                              have hup := HU.out m (by omega)
                              have hdu := meetsN_up l (u : Int) (m : Int) (j + 1) HU.out (by omega) (by omega) (by omega) hx
                              simp only [Int.toNat_natCast] at hdu
                              obtain ⟨_, m1, _, _⟩ := HCL.out m hm
                              have HNX : Hid (meetsN l (u : Int) (upAt l m) = true) := by show meetsN l _ _ = _; rw [← hdu]; exact hdd
                              unfold upAt at hup HNX
                              clear hdd hdu
                              generalize (nodeAt l m).up = UM at *
                              go_wp2
                              go_round
                              case rel => exact ⟨UM, by omega, by omega, rfl, HNX.out⟩
                              case measure => simp [intOf]; omega
                    · have hnb' : nameB (nodeAt l (j + 1)).name = false := by simpa using hnb
                      have HN : Hid (goodB l = false) := bad_of hlt (by rw [okB_s, HTX.out]; simp [elemB, hnb'])
                      clear hnb
                      go_wp2_with (first | (go_at_call 44; refine (in_any _ _ _ _).mono ?_; rw [hin]; rintro e w' ⟨rfl, rfl⟩) | (go_at_call 77; refine Calls.mono (HA _ ((Below.refl _ _).alloc (Nat.le_refl _) _)).out ?_; rw [hat]; rintro e w2 ⟨rfl, k2⟩; obtain ⟨hc2, hf2⟩ := bcell k2))
                      go_loop [5] (fun y => ∃ K : Int, -1 ≤ K ∧ K < (j : Int) + 1 ∧ y = .int .i64 K ∧ meetsN l (u : Int) K = true) (fun y => ((intOf y) + 1).toNat)
                      case atStart => exact ⟨(j : Int), by omega, by omega, rfl, HD.out⟩
                      case round =>
                        obtain ⟨K, hK0, hK1, rfl, hdd⟩ := hrel
                        by_cases hneg : K < 0
                        · rw [meetsN_neg l _ K hneg] at hdd; simp at hdd
                        · obtain ⟨m, rfl⟩ := Int.eq_ofNat_of_zero_le (show 0 ≤ K by omega)
                          have hm : m < l.length := by omega
                          have mi : (m : Int) < (l.length : Int) := by omega
                          by_cases hx : (m : Int) = (u : Int)
                          · have hmu : m = u := by omega
                            subst hmu
                            clear hdd hneg hx
                            go_wp2_with (go_at_call 78; refine (sname _ _ y1).mono ?_; rw [hnb']; rintro e w3 ⟨rfl, hq⟩; have hq2 := hq.symm; clear hq; subst hq2)
                            go_ret
                            exact ⟨ret_bool HN.out.symm, HW.out.trans (Nw.trans (show Nw wr (wr.alloc _) from (Below.refl _ _).alloc (Nat.le_refl _) _) k2)⟩
                          · have hnx : ((m : Int) != (u : Int)) = true := bne_iff_ne.2 hx
                            have hup := HU.out m (by omega)
                            have hdu := meetsN_up l (u : Int) (m : Int) (j + 1) HU.out (by omega) (by omega) (by omega) hx
                            simp only [Int.toNat_natCast] at hdu
                            obtain ⟨_, m1, _, _⟩ := HCL.out m hm
                            have HNX : Hid (meetsN l (u : Int) (upAt l m) = true) := by show meetsN l _ _ = _; rw [← hdu]; exact hdd
                            unfold upAt at hup HNX
                            clear hdd hdu
                            generalize (nodeAt l m).up = UM at *
                            go_wp2
                            go_round
                            case rel => exact ⟨UM, by omega, by omega, rfl, HNX.out⟩
                            case measure => simp [intOf]; omega
              · have hmt' : meetsN l (u : Int) (j : Int) = false := by simpa using hmt
                have HD : Hid (meetsN l (u : Int) (j : Int) = false) := hmt'
                have HN : Hid (goodB l = false) := bad_of hlt (ok_place (place_meets (by rw [HKU.out]; exact hmt')))
                clear hmt hmt'
                go_wp2_with (first | (go_at_call 44; refine (in_any _ _ _ _).mono ?_; rw [hin]; rintro e w' ⟨rfl, rfl⟩) | (go_at_call 77; refine Calls.mono (HA _ ((Below.refl _ _).alloc (Nat.le_refl _) _)).out ?_; rw [hat]; rintro e w2 ⟨rfl, k2⟩; obtain ⟨hc2, hf2⟩ := bcell k2))
                go_loop [5] (fun y => ∃ K : Int, -1 ≤ K ∧ K < (j : Int) + 1 ∧ y = .int .i64 K ∧ meetsN l (u : Int) K = false) (fun y => ((intOf y) + 1).toNat)
                case atStart => exact ⟨(j : Int), by omega, by omega, rfl, HD.out⟩
                case round =>
                  obtain ⟨K, hK0, hK1, rfl, hdd⟩ := hrel
                  by_cases hneg : K < 0
                  · have hK : K = -1 := by omega
                    subst hK
                    clear hdd hneg
                    go_wp2_with fail
                    go_ret
                    exact ⟨ret_bool HN.out.symm, HW.out.trans (Nw.trans (show Nw wr (wr.alloc _) from (Below.refl _ _).alloc (Nat.le_refl _) _) k2)⟩
                  · obtain ⟨m, rfl⟩ := Int.eq_ofNat_of_zero_le (show 0 ≤ K by omega)
                    have hm : m < l.length := by omega
                    have mi : (m : Int) < (l.length : Int) := by omega
                    by_cases hx : (m : Int) = (u : Int)
                    · rw [hx, meetsN_same l _ (by omega)] at hdd; simp at hdd
                    · have hnx : ((m : Int) != (u : Int)) = true := bne_iff_ne.2 hx
                      have hup := HU.out m (by omega)
                      have hdu := meetsN_up l (u : Int) (m : Int) (j + 1) HU.out (by omega) (by omega) (by omega) hx
                      simp only [Int.toNat_natCast] at hdu
                      obtain ⟨_, m1, _, _⟩ := HCL.out m hm
                      have HNX : Hid (meetsN l (u : Int) (upAt l m) = false) := by show meetsN l _ _ = _; rw [← hdu]; exact hdd
                      unfold upAt at hup HNX
                      clear hdd hdu
                      generalize (nodeAt l m).up = UM at *
                      go_wp2
                      go_round
                      case rel => exact ⟨UM, by omega, by omega, rfl, HNX.out⟩
                      case measure => simp [intOf]; omega
            · have hat' : attrsB (nodeAt l (j + 1)).attrs = false := by simpa using hat
              have HN : Hid (goodB l = false) := bad_of hlt (ok_attrs hat')
              clear hat
              go_wp2_with (first | (go_at_call 44; refine (in_any _ _ _ _).mono ?_; rw [hin]; rintro e w' ⟨rfl, rfl⟩) | (go_at_call 77; refine Calls.mono (HA _ ((Below.refl _ _).alloc (Nat.le_refl _) _)).out ?_; rw [hat']; rintro e w2 ⟨rfl, k2⟩; obtain ⟨hc2, hf2⟩ := bcell k2))
              go_ret
              exact ⟨ret_bool HN.out.symm, HW.out.trans (Nw.trans (show Nw wr (wr.alloc _) from (Below.refl _ _).alloc (Nat.le_refl _) _) k2)⟩
          · have HN : Hid (goodB l = false) := bad_of hlt (ok_place (place_in HU.out (by omega) hrg))
            by_cases hm1 : (nodeAt l (j + 1)).up = -1
            · have hin : decide ((-1 : Int) ≤ -1 ∧ (-1 : Int) ≤ (j : Int)) = true := decide_eq_true (by omega)
              rw [hm1] at q1
              have hj0 : ((j : Int) + 1 == 0) = false := beq_eq_false_iff_ne.2 (by omega)
              clear hm1 hrg
              go_wp2_with (go_at_call 44; refine (in_any _ _ _ _).mono ?_; rw [hin]; rintro e w' ⟨rfl, rfl⟩)
              go_ret
              exact ⟨ret_bool HN.out.symm, HW.out.trans ((Below.refl _ _).alloc (Nat.le_refl _) _)⟩
            · have hin : decide ((-1 : Int) ≤ (nodeAt l (j + 1)).up ∧ (nodeAt l (j + 1)).up ≤ (j : Int)) = false := by simp; omega
              clear hm1 hrg
              go_wp2_with (go_at_call 44; refine (in_any _ _ _ _).mono ?_; rw [hin]; rintro e w' ⟨rfl, rfl⟩)
              go_ret
              exact ⟨ret_bool HN.out.symm, HW.out.trans ((Below.refl _ _).alloc (Nat.le_refl _) _)⟩
      · have e : k = l.length := by omega
        have HN : Hid (goodB l = true) := goodB_yes ⟨HP.out, by have := HO.out; rwa [e] at this⟩
        clear hto hw
        go_wp2
        go_ret
        exact ⟨ret_bool HN.out.symm, HW.out⟩
  · have hd : decide ((1 : Int) ≤ (l.length : Int) ∧ (l.length : Int) ≤ 60) = false := by simp; omega
    have HN : Hid (goodB l = false) := goodB_no fun h => hn h.1
    clear hn
    go_enter Tryd.func35, Tryd.ntmps35
    go_wp2_with (go_at_call 44; refine (in_any _ _ _ _).mono ?_; rw [hd]; rintro e w' ⟨rfl, rfl⟩)
    go_ret
    exact ⟨ret_bool HN.out.symm, Below.refl _ _⟩
end Go.Proofs.YtgjnemmkpbkfhaaDoor
