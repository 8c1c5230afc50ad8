/-
  Good nodes, as a plain property, and the program's look at them; each theorem names its conditions.
-/
import Derived.Test.YtgjnemmkpbkfhaaDoorMkPlace
namespace Go.Proofs.YtgjnemmkpbkfhaaDoor
open Go.ChangeShapes Go.WideShapes Go.ChangeAt Go.RowKit
set_option linter.unusedVariables false

/-- The node k is good where the ones ahead are. -/
def okB (l : List ND) : Nat → Bool
  | 0 => elemB (nodeAt l 0) && decide (upAt l 0 = -1)
  | j + 1 => (elemB (nodeAt l (j + 1)) || textB (nodeAt l (j + 1))) && placeB l j
def OkTo (l : List ND) (k : Nat) : Prop := ∀ i, i < k → okB l i = true
theorem OkTo.step {l : List ND} {k : Nat} (h : OkTo l k) (e : okB l k = true) : OkTo l (k + 1) := by
  intro i hi
  by_cases c : i = k
  · subst c; exact e
  · exact h i (by omega)
def GoodP (l : List ND) : Prop := (1 ≤ l.length ∧ l.length ≤ 60) ∧ OkTo l l.length
def goodB (l : List ND) : Bool := decide (1 ≤ l.length ∧ l.length ≤ 60) && (List.range l.length).all (okB l)
theorem goodB_iff (l : List ND) : goodB l = true ↔ GoodP l := by
  unfold goodB GoodP OkTo
  rw [Bool.and_eq_true, decide_eq_true_eq, List.all_eq_true]
  simp only [List.mem_range]
theorem goodB_yes {l : List ND} (h : GoodP l) : goodB l = true := (goodB_iff l).2 h
theorem goodB_no {l : List ND} (h : ¬ GoodP l) : goodB l = false := by
  cases e : goodB l with
  | false => rfl
  | true => exact absurd ((goodB_iff l).1 e) h
theorem ups_of (l : List ND) : ∀ k, k ≤ l.length → OkTo l k → Ups l k := by
  intro k
  induction k with
  | zero => intro _ _ i hi; omega
  | succ k ih =>
    intro hk h i hi
    have hu := ih (by omega) (fun i hi => h i (by omega))
    by_cases c : i < k
    · exact hu i c
    · have e : i = k := by omega
      subst e
      have hok := h i (by omega)
      cases i with
      | zero => simp [okB] at hok; omega
      | succ j =>
        simp only [okB, Bool.and_eq_true] at hok
        have hp := hok.2
        unfold placeB at hp
        simp only [Bool.and_eq_true] at hp
        have := meetsN_le l (upAt l (j + 1)) (j + 1) hu (by omega) (j + 1) (j : Int) (by omega) (by omega) hp.1
        omega
def Small (l : List ND) : Prop := ∀ i, i < l.length → smallN (nodeAt l i)

def ElemSays (w : World) (n : ND) (a : Option Addr) (c : Nat) : Prop := Calls Tryd.prog 83 #[.agg #[.string n.name, .int .i64 n.up, .slice a n.attrs.length c, .string n.text]] w fun e w' => e = .returned (.bool (elemB n)) ∧ Nw w w'
def TextSays (w : World) (n : ND) (a : Option Addr) (c : Nat) : Prop := Calls Tryd.prog 84 #[.agg #[.string n.name, .int .i64 n.up, .slice a n.attrs.length c, .string n.text]] w fun e w' => e = .returned (.bool (textB n)) ∧ Nw w w'
def PlaceSays (w : World) (a : Option Addr) (c : Nat) (l : List ND) (j : Nat) : Prop := Calls Tryd.prog 85 #[.slice a l.length c, .int .i64 ((j : Int) + 1)] w fun e w' => e = .returned (.bool (placeB l j)) ∧ Nw w w'

set_option maxHeartbeats 4000000 in
theorem igoodNodes (w : World) (a : Option Addr) (c : Nat) (l : List ND) (hl : l.length ≤ 1048576) (ht : Tb w) (hz : Small l) (hr : Nodes w a l) :
    Calls Tryd.prog 38 #[.slice a l.length c] w fun e w' => e = .returned (.bool (goodB l)) ∧ Nw w w' := by
  have HR : Hid (Nodes w a l) := hr
  have HT : Hid (Tb w) := ht
  have HZ : Hid (Small l) := hz
  clear hr ht hz
  by_cases h0 : l.length = 0
  · have HN : Hid (goodB l = false) := goodB_no fun h => by have := h.1.1; omega
    have e : ((l.length : Int) == 0) = true := beq_iff_eq.2 (by omega)
    go_enter Tryd.func38, Tryd.ntmps38
    go_wp2
    go_ret
    exact ⟨ret_bool HN.out.symm, Below.refl _ _⟩
  have e0 : ((l.length : Int) == 0) = false := beq_eq_false_iff_ne.2 (by omega)
  by_cases h60 : 60 < (l.length : Int)
  · have HN : Hid (goodB l = false) := goodB_no fun h => by have := h.1.2; omega
    go_enter Tryd.func38, Tryd.ntmps38
    go_wp2
    go_ret
    exact ⟨ret_bool HN.out.symm, Below.refl _ _⟩
  rcases HR.out with h | ⟨b, o, rfl, hb, hc⟩
  · rw [h] at h0; simp at h0
  obtain ⟨q0, q1, ⟨qa, qc, q2, qcap, q4⟩, q3⟩ := hc 0 (by omega)
  have i0 : (0 : Int) < (l.length : Int) := by omega
  have HE2 : Hid (ElemSays w (nodeAt l 0) qa qc) := igoodElem w (nodeAt l 0).name (nodeAt l 0).up (nodeAt l 0).attrs (nodeAt l 0).text qa qc HT.out (HZ.out 0 (by omega)) qcap q4
  simp only [Nat.zero_mul, Nat.add_zero] at q0 q1 q2 q3
  clear hc q4
  by_cases hel : elemB (nodeAt l 0) = true
  · by_cases hup : (nodeAt l 0).up = -1
    · have hok0 : okB l 0 = true := by simp [okB, hel, upAt, hup]
      have HOK : Hid (okB l 0 = true) := hok0
      have HE3 : Hid (Calls Tryd.prog 83 #[.agg #[.string (nodeAt l 0).name, .int .i64 (-1), .slice qa (nodeAt l 0).attrs.length qc, .string (nodeAt l 0).text]] w fun e w' => e = .returned (.bool true) ∧ Nw w w') := by
        have h : ElemSays w (nodeAt l 0) qa qc := HE2.out
        unfold ElemSays at h
        rw [hup, hel] at h
        exact h
      rw [hup] at q1
      clear hok0 hup hel HE2
      go_enter Tryd.func38, Tryd.ntmps38
      go_wp2_with (go_at_call 83; refine Calls.mono HE3.out ?_; rintro e w1 ⟨rfl, k1⟩; obtain ⟨hc1, hf1⟩ := bcell k1)
      go_loopw [3] (fun i wr => ∃ k : Nat, k ≤ l.length ∧ 1 ≤ k ∧ i = .int .i64 k ∧ OkTo l k ∧ Nw w wr) (fun i _ => l.length - (intOf i).toNat)
      case atStart =>
        refine ⟨1, by omega, by omega, rfl, fun i hi => ?_, k1⟩
        obtain rfl : i = 0 := by omega
        exact HOK.out
      case round =>
        obtain ⟨k, hk, hk1, rfl, hto, hw⟩ := hrel
        clear hc1 hf1 k1 q0 q1 q2 q3
        have HO : Hid (OkTo l k) := hto
        have HW : Hid (Nw w wr) := hw
        by_cases hlt : k < l.length
        · obtain ⟨j, rfl⟩ : ∃ j, k = j + 1 := ⟨k - 1, by omega⟩
          have HU : Hid (Ups l (j + 1)) := ups_of l (j + 1) (by omega) hto
          have hbr : b < wr.heap.size := Nat.lt_of_lt_of_le hb (Below.size hw)
          rcases HR.out.nw hw with h | ⟨b', o', e', hb', hc⟩
          · rw [h] at h0; simp at h0
          obtain ⟨rfl, rfl⟩ : b' = b ∧ o' = o := by simp at e'; omega
          obtain ⟨q0, q1, ⟨qa, qc, q2, qcap, q4⟩, q3⟩ := hc (j + 1) hlt
          have HE : Hid (ElemSays wr (nodeAt l (j + 1)) qa qc) := igoodElem wr (nodeAt l (j + 1)).name (nodeAt l (j + 1)).up (nodeAt l (j + 1)).attrs (nodeAt l (j + 1)).text qa qc (HT.out.nw hw) (HZ.out (j + 1) hlt) qcap q4
          have HX : ∀ W, Nw wr W → Hid (TextSays W (nodeAt l (j + 1)) qa qc) := fun W kW => igoodText W (nodeAt l (j + 1)).name (nodeAt l (j + 1)).up (nodeAt l (j + 1)).attrs (nodeAt l (j + 1)).text qa qc ((HT.out.nw hw).nw kW) (HZ.out (j + 1) hlt)
          have HP : ∀ W, Nw wr W → Hid (PlaceSays W (some ⟨b', o', none⟩) c l j) := fun W kW => iplace W (some ⟨b', o', none⟩) c l j hl ((HR.out.nw hw).nw kW) HU.out hlt
          have hokd : okB l (j + 1) = ((elemB (nodeAt l (j + 1)) || textB (nodeAt l (j + 1))) && placeB l j) := rfl
          have HOD : Hid (okB l (j + 1) = ((elemB (nodeAt l (j + 1)) || textB (nodeAt l (j + 1))) && placeB l j)) := hokd
          clear hto hw hc q4 hokd e' hb'
          by_cases hel : elemB (nodeAt l (j + 1)) = true
          · by_cases hpl : placeB l j = true
            · go_wp2_with (first
                | (go_at_call 83; refine Calls.mono HE.out ?_; rw [hel]; rintro e w1 ⟨rfl, k1⟩; obtain ⟨hc1, hf1⟩ := bcell k1)
                | (go_at_call 85; refine Calls.mono (HP _ k1).out ?_; rw [hpl]; rintro e w2 ⟨rfl, k2⟩))
              go_roundw
              case rel => exact ⟨j + 1 + 1, by omega, by omega, by go_num, HO.out.step (by rw [HOD.out, hel, hpl]; rfl), (HW.out.trans k1).trans k2⟩
              case measure => simp [intOf]; omega
            · have hpl' : placeB l j = false := by simpa using hpl
              have HN : Hid (goodB l = false) := goodB_no fun h => by have := h.2 (j + 1) hlt; rw [HOD.out, hpl'] at this; simp at this
              clear hpl
              go_wp2_with (first
                | (go_at_call 83; refine Calls.mono HE.out ?_; rw [hel]; rintro e w1 ⟨rfl, k1⟩; obtain ⟨hc1, hf1⟩ := bcell k1)
                | (go_at_call 85; refine Calls.mono (HP _ k1).out ?_; rw [hpl']; rintro e w2 ⟨rfl, k2⟩))
              go_ret
              exact ⟨ret_bool HN.out.symm, (HW.out.trans k1).trans k2⟩
          · have hel' : elemB (nodeAt l (j + 1)) = false := by simpa using hel
            clear hel
            by_cases htx : textB (nodeAt l (j + 1)) = true
            · by_cases hpl : placeB l j = true
              · go_wp2_with (first
                  | (go_at_call 83; refine Calls.mono HE.out ?_; rw [hel']; rintro e w1 ⟨rfl, k1⟩; obtain ⟨hc1, hf1⟩ := bcell k1)
                  | (go_at_call 84; refine Calls.mono (HX _ k1).out ?_; rw [htx]; rintro e w2 ⟨rfl, k2⟩; obtain ⟨hc2, hf2⟩ := bcell k2)
                  | (go_at_call 85; refine Calls.mono (HP _ (k1.trans k2)).out ?_; rw [hpl]; rintro e w3 ⟨rfl, k3⟩))
                go_roundw
                case rel => exact ⟨j + 1 + 1, by omega, by omega, by go_num, HO.out.step (by rw [HOD.out, hel', htx, hpl]; rfl), ((HW.out.trans k1).trans k2).trans k3⟩
                case measure => simp [intOf]; omega
              · have hpl' : placeB l j = false := by simpa using hpl
                have HN : Hid (goodB l = false) := goodB_no fun h => by have := h.2 (j + 1) hlt; rw [HOD.out, hpl'] at this; simp at this
                clear hpl
                go_wp2_with (first
                  | (go_at_call 83; refine Calls.mono HE.out ?_; rw [hel']; rintro e w1 ⟨rfl, k1⟩; obtain ⟨hc1, hf1⟩ := bcell k1)
                  | (go_at_call 84; refine Calls.mono (HX _ k1).out ?_; rw [htx]; rintro e w2 ⟨rfl, k2⟩; obtain ⟨hc2, hf2⟩ := bcell k2)
                  | (go_at_call 85; refine Calls.mono (HP _ (k1.trans k2)).out ?_; rw [hpl']; rintro e w3 ⟨rfl, k3⟩))
                go_ret
                exact ⟨ret_bool HN.out.symm, ((HW.out.trans k1).trans k2).trans k3⟩
            · have htx' : textB (nodeAt l (j + 1)) = false := by simpa using htx
              have HN : Hid (goodB l = false) := goodB_no fun h => by have := h.2 (j + 1) hlt; rw [HOD.out, hel', htx'] at this; simp at this
              clear htx
              go_wp2_with (first
                | (go_at_call 83; refine Calls.mono HE.out ?_; rw [hel']; rintro e w1 ⟨rfl, k1⟩; obtain ⟨hc1, hf1⟩ := bcell k1)
                | (go_at_call 84; refine Calls.mono (HX _ k1).out ?_; rw [htx']; rintro e w2 ⟨rfl, k2⟩))
              go_ret
              exact ⟨ret_bool HN.out.symm, (HW.out.trans k1).trans k2⟩
        · have e : k = l.length := by omega
          have HN : Hid (goodB l = true) := goodB_yes ⟨⟨by omega, by omega⟩, by have := HO.out; rwa [e] at this⟩
          clear hto hw
          go_wp2
          go_ret
          exact ⟨ret_bool HN.out.symm, HW.out⟩
    · have HN : Hid (goodB l = false) := goodB_no fun h => by have := h.2 0 (by omega); simp [okB, upAt, hup] at this
      have hne : ((nodeAt l 0).up != -1) = true := bne_iff_ne.2 hup
      clear hup
      go_enter Tryd.func38, Tryd.ntmps38
      go_wp2_with (go_at_call 83; refine Calls.mono HE2.out ?_; rw [hel]; rintro e w1 ⟨rfl, k1⟩; obtain ⟨hc1, hf1⟩ := bcell k1)
      go_ret
      exact ⟨ret_bool HN.out.symm, k1⟩
  · have hel' : elemB (nodeAt l 0) = false := by simpa using hel
    have HN : Hid (goodB l = false) := goodB_no fun h => by have := h.2 0 (by omega); simp [okB, hel'] at this
    clear hel
    go_enter Tryd.func38, Tryd.ntmps38
    go_wp2_with (go_at_call 83; refine Calls.mono HE2.out ?_; rw [hel']; rintro e w1 ⟨rfl, k1⟩; obtain ⟨hc1, hf1⟩ := bcell k1)
    go_ret
    exact ⟨ret_bool HN.out.symm, k1⟩
end Go.Proofs.YtgjnemmkpbkfhaaDoor
