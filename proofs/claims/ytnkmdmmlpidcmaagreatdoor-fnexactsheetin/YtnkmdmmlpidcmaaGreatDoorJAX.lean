/-
  Good nodes, as a plain property, and the program's look at them; each theorem names its conditions.
  What lies below a node, on lists; each theorem names its conditions.
  The text under a node, on lists; and the specification's loops over it; each theorem names its conditions.
  The sheet of a tree, as a list: the rules of all its style elements, cut at thirty; each theorem names its conditions.
-/
import Derived.Test.YtnkmdmmlpidcmaaGreatDoorJAW
import Derived.Test.YtnkmdmmlpidcmaaGreatDoorJAR
namespace Go.Proofs.YtnkmdmmlpidcmaaGreatDoor
open Go.ChangeShapes Go.WideShapes Go.ChangeAt Go.RowKit
set_option linter.unusedVariables false

/-- The node k is good where the ones ahead are. -/
def okB (l : List ND) : Nat → Bool
  | 0 => elemB (nodeAt l 0) && decide (upAt l 0 = -1)
  | j + 1 => (elemB (nodeAt l (j + 1)) || textB (nodeAt l (j + 1))) && placeB l j
def OkTo (l : List ND) (k : Nat) : Prop := ∀ i, i < k → okB l i = true
theorem OkTo.step {l : List ND} {k : Nat} (h : OkTo l k) (e : okB l k = true) : OkTo l (k + 1) := by
  intro i hi
  by_cases c : i = k
  · subst c; exact e
  · exact h i (by omega)
def GoodP (l : List ND) : Prop := (1 ≤ l.length ∧ l.length ≤ 60) ∧ OkTo l l.length
def goodB (l : List ND) : Bool := decide (1 ≤ l.length ∧ l.length ≤ 60) && (List.range l.length).all (okB l)
theorem goodB_iff (l : List ND) : goodB l = true ↔ GoodP l := by
  unfold goodB GoodP OkTo
  rw [Bool.and_eq_true, decide_eq_true_eq, List.all_eq_true]
  simp only [List.mem_range]
theorem goodB_yes {l : List ND} (h : GoodP l) : goodB l = true := (goodB_iff l).2 h
theorem goodB_no {l : List ND} (h : ¬ GoodP l) : goodB l = false := by
  cases e : goodB l with
  | false => rfl
  | true => exact absurd ((goodB_iff l).1 e) h
theorem ups_of (l : List ND) : ∀ k, k ≤ l.length → OkTo l k → Ups l k := by
  intro k
  induction k with
  | zero => intro _ _ i hi; omega
  | succ k ih =>
    intro hk h i hi
    have hu := ih (by omega) (fun i hi => h i (by omega))
    by_cases c : i < k
    · exact hu i c
    · have e : i = k := by omega
      subst e
      have hok := h i (by omega)
      cases i with
      | zero => simp [okB] at hok; omega
      | succ j =>
        simp only [okB, Bool.and_eq_true] at hok
        have hp := hok.2
        unfold placeB at hp
        simp only [Bool.and_eq_true] at hp
        have := meetsN_le l (upAt l (j + 1)) (j + 1) hu (by omega) (j + 1) (j : Int) (by omega) (by omega) hp.1
        omega
def Small (l : List ND) : Prop := ∀ i, i < l.length → smallN (nodeAt l i)

def ElemSays (w : World) (n : ND) (a : Option Addr) (c : Nat) : Prop := Calls Tryz.prog 94 #[.agg #[.string n.name, .int .i64 n.up, .slice a n.attrs.length c, .string n.text]] w fun e w' => e = .returned (.bool (elemB n)) ∧ Nw w w'
def TextSays (w : World) (n : ND) (a : Option Addr) (c : Nat) : Prop := Calls Tryz.prog 95 #[.agg #[.string n.name, .int .i64 n.up, .slice a n.attrs.length c, .string n.text]] w fun e w' => e = .returned (.bool (textB n)) ∧ Nw w w'
def PlaceSays (w : World) (a : Option Addr) (c : Nat) (l : List ND) (j : Nat) : Prop := Calls Tryz.prog 96 #[.slice a l.length c, .int .i64 ((j : Int) + 1)] w fun e w' => e = .returned (.bool (placeB l j)) ∧ Nw w w'

set_option maxHeartbeats 4000000 in
theorem igoodNodes (w : World) (a : Option Addr) (c : Nat) (l : List ND) (hl : l.length ≤ 1048576) (ht : Tb w) (hz : Small l) (hr : Nodes w a l) :
    Calls Tryz.prog 52 #[.slice a l.length c] w fun e w' => e = .returned (.bool (goodB l)) ∧ Nw w w' := by
  have HR : Hid (Nodes w a l) := hr
  have HT : Hid (Tb w) := ht
  have HZ : Hid (Small l) := hz
  clear hr ht hz
  by_cases h0 : l.length = 0
  · have HN : Hid (goodB l = false) := goodB_no fun h => by have := h.1.1; omega
    have e : ((l.length : Int) == 0) = true := beq_iff_eq.2 (by omega)
    go_enter Tryz.func52, Tryz.ntmps52
    go_wp2
    go_ret
    exact ⟨ret_bool HN.out.symm, Below.refl _ _⟩
  have e0 : ((l.length : Int) == 0) = false := beq_eq_false_iff_ne.2 (by omega)
  by_cases h60 : 60 < (l.length : Int)
  · have HN : Hid (goodB l = false) := goodB_no fun h => by have := h.1.2; omega
    go_enter Tryz.func52, Tryz.ntmps52
    go_wp2
    go_ret
    exact ⟨ret_bool HN.out.symm, Below.refl _ _⟩
  rcases HR.out with h | ⟨b, o, rfl, hb, hc⟩
  · rw [h] at h0; simp at h0
  obtain ⟨q0, q1, ⟨qa, qc, q2, qcap, q4⟩, q3⟩ := hc 0 (by omega)
  have i0 : (0 : Int) < (l.length : Int) := by omega
  have HE2 : Hid (ElemSays w (nodeAt l 0) qa qc) := igoodElem w (nodeAt l 0).name (nodeAt l 0).up (nodeAt l 0).attrs (nodeAt l 0).text qa qc HT.out (HZ.out 0 (by omega)) qcap q4
  simp only [Nat.zero_mul, Nat.add_zero] at q0 q1 q2 q3
  clear hc q4
  by_cases hel : elemB (nodeAt l 0) = true
  · by_cases hup : (nodeAt l 0).up = -1
    · have hok0 : okB l 0 = true := by simp [okB, hel, upAt, hup]
      have HOK : Hid (okB l 0 = true) := hok0
      have HE3 : Hid (Calls Tryz.prog 94 #[.agg #[.string (nodeAt l 0).name, .int .i64 (-1), .slice qa (nodeAt l 0).attrs.length qc, .string (nodeAt l 0).text]] w fun e w' => e = .returned (.bool true) ∧ Nw w w') := by
        have h : ElemSays w (nodeAt l 0) qa qc := HE2.out
        unfold ElemSays at h
        rw [hup, hel] at h
        exact h
      rw [hup] at q1
      clear hok0 hup hel HE2
      go_enter Tryz.func52, Tryz.ntmps52
      go_wp2_with (go_at_call 94; refine Calls.mono HE3.out ?_; rintro e w1 ⟨rfl, k1⟩; obtain ⟨hc1, hf1⟩ := bcell k1)
      go_loopw [3] (fun i wr => ∃ k : Nat, k ≤ l.length ∧ 1 ≤ k ∧ i = .int .i64 k ∧ OkTo l k ∧ Nw w wr) (fun i _ => l.length - (intOf i).toNat)
      case atStart =>
        refine ⟨1, by omega, by omega, rfl, fun i hi => ?_, k1⟩
        obtain rfl : i = 0 := by omega
        exact HOK.out
      case round =>
        obtain ⟨k, hk, hk1, rfl, hto, hw⟩ := hrel
        clear hc1 hf1 k1 q0 q1 q2 q3
        have HO : Hid (OkTo l k) := hto
        have HW : Hid (Nw w wr) := hw
        by_cases hlt : k < l.length
        · obtain ⟨j, rfl⟩ : ∃ j, k = j + 1 := ⟨k - 1, by omega⟩
          have HU : Hid (Ups l (j + 1)) := ups_of l (j + 1) (by omega) hto
          have hbr : b < wr.heap.size := Nat.lt_of_lt_of_le hb (Below.size hw)
          rcases HR.out.nw hw with h | ⟨b', o', e', hb', hc⟩
          · rw [h] at h0; simp at h0
          obtain ⟨rfl, rfl⟩ : b' = b ∧ o' = o := by simp at e'; omega
          obtain ⟨q0, q1, ⟨qa, qc, q2, qcap, q4⟩, q3⟩ := hc (j + 1) hlt
          have HE : Hid (ElemSays wr (nodeAt l (j + 1)) qa qc) := igoodElem wr (nodeAt l (j + 1)).name (nodeAt l (j + 1)).up (nodeAt l (j + 1)).attrs (nodeAt l (j + 1)).text qa qc (HT.out.nw hw) (HZ.out (j + 1) hlt) qcap q4
          have HX : ∀ W, Nw wr W → Hid (TextSays W (nodeAt l (j + 1)) qa qc) := fun W kW => igoodText W (nodeAt l (j + 1)).name (nodeAt l (j + 1)).up (nodeAt l (j + 1)).attrs (nodeAt l (j + 1)).text qa qc ((HT.out.nw hw).nw kW) (HZ.out (j + 1) hlt)
          have HP : ∀ W, Nw wr W → Hid (PlaceSays W (some ⟨b', o', none⟩) c l j) := fun W kW => iplace W (some ⟨b', o', none⟩) c l j hl ((HR.out.nw hw).nw kW) HU.out hlt
          have hokd : okB l (j + 1) = ((elemB (nodeAt l (j + 1)) || textB (nodeAt l (j + 1))) && placeB l j) := rfl
          have HOD : Hid (okB l (j + 1) = ((elemB (nodeAt l (j + 1)) || textB (nodeAt l (j + 1))) && placeB l j)) := hokd
          clear hto hw hc q4 hokd e' hb'
          by_cases hel : elemB (nodeAt l (j + 1)) = true
          · by_cases hpl : placeB l j = true
            · go_wp2_with (first
                | (go_at_call 94; refine Calls.mono HE.out ?_; rw [hel]; rintro e w1 ⟨rfl, k1⟩; obtain ⟨hc1, hf1⟩ := bcell k1)
                | (go_at_call 96; refine Calls.mono (HP _ k1).out ?_; rw [hpl]; rintro e w2 ⟨rfl, k2⟩))
              go_roundw
              case rel => exact ⟨j + 1 + 1, by omega, by omega, by go_num, HO.out.step (by rw [HOD.out, hel, hpl]; rfl), (HW.out.trans k1).trans k2⟩
              case measure => simp [intOf]; omega
            · have hpl' : placeB l j = false := by simpa using hpl
              have HN : Hid (goodB l = false) := goodB_no fun h => by have := h.2 (j + 1) hlt; rw [HOD.out, hpl'] at this; simp at this
              clear hpl
              go_wp2_with (first
                | (go_at_call 94; refine Calls.mono HE.out ?_; rw [hel]; rintro e w1 ⟨rfl, k1⟩; obtain ⟨hc1, hf1⟩ := bcell k1)
                | (go_at_call 96; refine Calls.mono (HP _ k1).out ?_; rw [hpl']; rintro e w2 ⟨rfl, k2⟩))
              go_ret
              exact ⟨ret_bool HN.out.symm, (HW.out.trans k1).trans k2⟩
          · have hel' : elemB (nodeAt l (j + 1)) = false := by simpa using hel
            clear hel
            by_cases htx : textB (nodeAt l (j + 1)) = true
            · by_cases hpl : placeB l j = true
              · go_wp2_with (first
                  | (go_at_call 94; refine Calls.mono HE.out ?_; rw [hel']; rintro e w1 ⟨rfl, k1⟩; obtain ⟨hc1, hf1⟩ := bcell k1)
                  | (go_at_call 95; refine Calls.mono (HX _ k1).out ?_; rw [htx]; rintro e w2 ⟨rfl, k2⟩; obtain ⟨hc2, hf2⟩ := bcell k2)
                  | (go_at_call 96; refine Calls.mono (HP _ (k1.trans k2)).out ?_; rw [hpl]; rintro e w3 ⟨rfl, k3⟩))
                go_roundw
                case rel => exact ⟨j + 1 + 1, by omega, by omega, by go_num, HO.out.step (by rw [HOD.out, hel', htx, hpl]; rfl), ((HW.out.trans k1).trans k2).trans k3⟩
                case measure => simp [intOf]; omega
              · have hpl' : placeB l j = false := by simpa using hpl
                have HN : Hid (goodB l = false) := goodB_no fun h => by have := h.2 (j + 1) hlt; rw [HOD.out, hpl'] at this; simp at this
                clear hpl
                go_wp2_with (first
                  | (go_at_call 94; refine Calls.mono HE.out ?_; rw [hel']; rintro e w1 ⟨rfl, k1⟩; obtain ⟨hc1, hf1⟩ := bcell k1)
                  | (go_at_call 95; refine Calls.mono (HX _ k1).out ?_; rw [htx]; rintro e w2 ⟨rfl, k2⟩; obtain ⟨hc2, hf2⟩ := bcell k2)
                  | (go_at_call 96; refine Calls.mono (HP _ (k1.trans k2)).out ?_; rw [hpl']; rintro e w3 ⟨rfl, k3⟩))
                go_ret
                exact ⟨ret_bool HN.out.symm, ((HW.out.trans k1).trans k2).trans k3⟩
            · have htx' : textB (nodeAt l (j + 1)) = false := by simpa using htx
              have HN : Hid (goodB l = false) := goodB_no fun h => by have := h.2 (j + 1) hlt; rw [HOD.out, hel', htx'] at this; simp at this
              clear htx
              go_wp2_with (first
                | (go_at_call 94; refine Calls.mono HE.out ?_; rw [hel']; rintro e w1 ⟨rfl, k1⟩; obtain ⟨hc1, hf1⟩ := bcell k1)
                | (go_at_call 95; refine Calls.mono (HX _ k1).out ?_; rw [htx']; rintro e w2 ⟨rfl, k2⟩))
              go_ret
              exact ⟨ret_bool HN.out.symm, (HW.out.trans k1).trans k2⟩
        · have e : k = l.length := by omega
          have HN : Hid (goodB l = true) := goodB_yes ⟨⟨by omega, by omega⟩, by have := HO.out; rwa [e] at this⟩
          clear hto hw
          go_wp2
          go_ret
          exact ⟨ret_bool HN.out.symm, HW.out⟩
    · have HN : Hid (goodB l = false) := goodB_no fun h => by have := h.2 0 (by omega); simp [okB, upAt, hup] at this
      have hne : ((nodeAt l 0).up != -1) = true := bne_iff_ne.2 hup
      clear hup
      go_enter Tryz.func52, Tryz.ntmps52
      go_wp2_with (go_at_call 94; refine Calls.mono HE2.out ?_; rw [hel]; rintro e w1 ⟨rfl, k1⟩; obtain ⟨hc1, hf1⟩ := bcell k1)
      go_ret
      exact ⟨ret_bool HN.out.symm, k1⟩
  · have hel' : elemB (nodeAt l 0) = false := by simpa using hel
    have HN : Hid (goodB l = false) := goodB_no fun h => by have := h.2 0 (by omega); simp [okB, hel'] at this
    clear hel
    go_enter Tryz.func52, Tryz.ntmps52
    go_wp2_with (go_at_call 94; refine Calls.mono HE2.out ?_; rw [hel']; rintro e w1 ⟨rfl, k1⟩; obtain ⟨hc1, hf1⟩ := bcell k1)
    go_ret
    exact ⟨ret_bool HN.out.symm, k1⟩
end Go.Proofs.YtnkmdmmlpidcmaaGreatDoor
namespace Go.Proofs.YtnkmdmmlpidcmaaGreatDoor
open Go.ChangeShapes Go.WideShapes Go.ChangeAt Go.RowKit
set_option linter.unusedVariables false

theorem meetsN_trans (l : List ND) (n : Nat) (hu : Ups l n) (hn : n ≤ l.length) (x u : Int) : ∀ (f : Nat) (k : Int), k < f → k < n → meetsN l u k = true → meetsN l x u = true → meetsN l x k = true := by
  intro f
  induction f with
  | zero => intro k h _ hm _; rw [meetsN_neg l u k (by omega)] at hm; simp at hm
  | succ f ih =>
    intro k h hk hm hx
    by_cases c : k < 0
    · rw [meetsN_neg l u k c] at hm; simp at hm
    · by_cases e : k = u
      · rw [e]; exact hx
      · have hh := hu k.toNat (by omega)
        rw [meetsN_up l u k n hu hn (by omega) hk e] at hm
        have h2 := ih _ (by omega) (by omega) hm hx
        by_cases e2 : k = x
        · rw [e2]; exact meetsN_same l x (by omega)
        · rw [meetsN_up l x k n hu hn (by omega) hk e2]; exact h2
theorem meetsN_small (l : List ND) (n : Nat) (hu : Ups l n) (hn : n ≤ l.length) (x k : Int) (h1 : k < x) (hk : k < n) (h0 : 0 ≤ x) : meetsN l x k = false := by
  cases h : meetsN l x k with
  | false => rfl
  | true =>
    have := meetsN_le l x n hu hn (k.toNat + 1) k (by omega) hk h
    omega
/-- The nodes behind k whose ups have all been k or more are below k. -/
theorem under_in (l : List ND) (n : Nat) (hu : Ups l n) (hn : n ≤ l.length) (k : Nat) : ∀ (m i : Nat), i < m → k < i → i < n → (∀ j, k < j → j ≤ i → (k : Int) ≤ upAt l j) → meetsN l k i = true := by
  intro m
  induction m with
  | zero => intro i h; omega
  | succ m ih =>
    intro i hm hk hi hj
    have h1 := hj i hk (Nat.le_refl _)
    have h2 := hu i hi
    rw [meetsN_up l k i n hu hn (by omega) (by omega) (by omega)]
    have e : ((i : Int)).toNat = i := by omega
    rw [e]
    by_cases c : upAt l i = k
    · rw [c]; exact meetsN_same l k (by omega)
    · have e2 : upAt l i = ((upAt l i).toNat : Int) := by omega
      rw [e2]
      exact ih _ (by omega) (by omega) (by omega) fun j h3 h4 => hj j h3 (by omega)
/-- From the first node on whose up is less, none is below k. -/
theorem under_out {l : List ND} (hg : GoodP l) (k i0 : Nat) (h0 : k < i0) (hl : i0 < l.length) (hup : upAt l i0 < k) : ∀ d, i0 + d < l.length → meetsN l k ((i0 + d : Nat) : Int) = false := by
  have hu := ups_of l l.length (Nat.le_refl _) hg.2
  intro d
  induction d with
  | zero =>
    intro _
    have h2 := hu i0 hl
    rw [meetsN_up l k _ l.length hu (Nat.le_refl _) (by omega) (by omega) (by omega)]
    have e : (((i0 + 0 : Nat) : Int)).toNat = i0 := by omega
    rw [e]
    exact meetsN_small l l.length hu (Nat.le_refl _) _ _ hup (by omega) (by omega)
  | succ d ih =>
    intro hlt
    have ih := ih (by omega)
    have h2 := hu (i0 + (d + 1)) hlt
    cases h : meetsN l k ((i0 + (d + 1) : Nat) : Int) with
    | false => rfl
    | true =>
      rw [meetsN_up l k _ l.length hu (Nat.le_refl _) (by omega) (by omega) (by omega)] at h
      have e : (((i0 + (d + 1) : Nat) : Int)).toNat = i0 + d + 1 := by omega
      rw [e] at h
      have hok := hg.2 (i0 + d + 1) (by omega)
      simp only [okB, Bool.and_eq_true] at hok
      have hp := hok.2
      unfold placeB at hp
      simp only [Bool.and_eq_true] at hp
      have := meetsN_trans l l.length hu (Nat.le_refl _) k (upAt l (i0 + d + 1)) (i0 + d + 1) ((i0 + d : Nat) : Int) (by omega) (by omega) hp.1 h
      rw [ih] at this; cases this
/-- What is below k ends at n: all ahead of it have ups of k or more, and it has not (or is the end). -/
structure EndAt (l : List ND) (k n : Nat) : Prop where
  lt : k < n
  le : n ≤ l.length
  ins : ∀ j, k < j → j < n → (k : Int) ≤ upAt l j
  out : n < l.length → upAt l n < k
end Go.Proofs.YtnkmdmmlpidcmaaGreatDoor
namespace Go.Proofs.YtnkmdmmlpidcmaaGreatDoor
open Go.ChangeShapes Go.WideShapes Go.ChangeAt Go.RowKit
set_option linter.unusedVariables false

def textAt (l : List ND) (i : Nat) : ByteArray := (nodeAt l i).text
/-- The text of k and of the first n nodes behind it that are below it. -/
def unT (l : List ND) (k : Nat) : Nat → ByteArray
  | 0 => textAt l k
  | n + 1 => if meetsN l k ((k + 1 + n : Nat) : Int) = true then unT l k n ++ textAt l (k + 1 + n) else unT l k n
theorem unT_yes {l : List ND} {k n : Nat} (h : meetsN l k ((k + 1 + n : Nat) : Int) = true) : unT l k (n + 1) = unT l k n ++ textAt l (k + 1 + n) := by rw [unT, if_pos h]
theorem unT_no {l : List ND} {k n : Nat} (h : meetsN l k ((k + 1 + n : Nat) : Int) = false) : unT l k (n + 1) = unT l k n := by rw [unT, if_neg (by rw [h]; simp)]
theorem unT_rest {l : List ND} (hg : GoodP l) (k n : Nat) (hl : k + 1 + n < l.length) (hup : upAt l (k + 1 + n) < k) : ∀ d, k + 1 + n + d ≤ l.length → unT l k (n + d) = unT l k n := by
  intro d
  induction d with
  | zero => intro _; rfl
  | succ d ih =>
    intro h
    have e : n + (d + 1) = (n + d) + 1 := by omega
    have h2 := under_out hg k (k + 1 + n) (by omega) hl hup d (by omega)
    have e2 : k + 1 + (n + d) = k + 1 + n + d := by omega
    rw [e, unT_no (by rw [e2]; exact h2)]
    exact ih (by omega)
theorem unT_size {l : List ND} (hz : Small l) (k : Nat) : ∀ n, k + n < l.length → (unT l k n).size ≤ 1048576 * n + 1048576 := by
  intro n
  induction n with
  | zero =>
    intro h
    have h1 : (textAt l k).size ≤ 1048576 := (hz k (by omega)).text
    have e : unT l k 0 = textAt l k := rfl
    rw [e]; omega
  | succ n ih =>
    intro h
    have h1 := ih (by omega)
    have h2 : (textAt l (k + 1 + n)).size ≤ 1048576 := (hz (k + 1 + n) (by omega)).text
    rw [unT]
    split
    · rw [ByteArray.size_append]
      omega
    · omega
/-- What TextUnder answers. -/
def underOk (l : List ND) (k : Int) : Bool := goodB l && decide (0 ≤ k ∧ k < l.length)
def underS (l : List ND) (k : Int) : ByteArray := if underOk l k then unT l k.toNat (l.length - k.toNat - 1) else ⟨#[]⟩
def underV (l : List ND) (k : Int) : Value := .tuple #[.string (underS l k), .bool (underOk l k)]
theorem underV_no {l : List ND} {k : Int} (h : underOk l k = false) : underV l k = .tuple #[.string ⟨#[]⟩, .bool false] := by unfold underV underS; rw [h]; rfl
theorem underV_yes {l : List ND} {k : Nat} (h : underOk l k = true) : underV l k = .tuple #[.string (unT l k (l.length - k - 1)), .bool true] := by unfold underV underS; rw [h]; rfl

set_option maxHeartbeats 4000000 in
theorem sunder (w : World) (a : Option Addr) (c : Nat) (l : List ND) (k : Nat) (hk : k < l.length) (hl : l.length ≤ 60) (hg : GoodP l) (hz : Small l) (hr : Nodes w a l) :
    Calls Tryz.prog 92 #[.slice a l.length c, .int .i64 k] w fun e w' => e = .returned (.string (unT l k (l.length - k - 1))) ∧ w' = w := by
  have hu := ups_of l l.length (Nat.le_refl _) hg.2
  rcases hr with h | ⟨b, o, rfl, hb, hc⟩
  · rw [h] at hk; simp at hk
  have q3 : w.cell? ⟨b, o + k * 4 + 3, none⟩ = some (.string (textAt l k)) := (hc k hk).2.2.2
  have HC : Hid (∀ i, i < l.length → w.cell? ⟨b, o + i * 4 + 1, none⟩ = some (.int .i64 (upAt l i)) ∧ w.cell? ⟨b, o + i * 4 + 3, none⟩ = some (.string (textAt l i))) := fun i hi => ⟨(hc i hi).2.1, (hc i hi).2.2.2⟩
  have HU : Hid (Ups l l.length) := hu
  have HZ : Hid (Small l) := hz
  have HB : Hid (b < w.heap.size) := hb
  clear hc hu hz hg hb
  go_enter Tryz.func92, Tryz.ntmps92
  go_wp2
  go_loop [5, 6] (fun x i => ∃ n : Nat, k + n < l.length ∧ i = .int .i64 ((k + 1 + n : Nat) : Int) ∧ x = .string (unT l k n)) (fun _ i => l.length - (intOf i).toNat)
  case atStart => exact ⟨0, by omega, by go_num, rfl⟩
  case round =>
    obtain ⟨n, hn, rfl, rfl⟩ := hrel
    clear q3
    by_cases hlt : k + 1 + n < l.length
    · have y1 := unT_size HZ.out k n hn
      have y2 : (textAt l (k + 1 + n)).size ≤ 1048576 := (HZ.out (k + 1 + n) hlt).text
      have y3 : (unT l k n).size ≤ 100000000 := by omega
      have hlt' : ((k + 1 + n : Nat) : Int) < l.length := by omega
      have q3 := (HC.out (k + 1 + n) hlt).2
      clear y1
      have HY : Hid (∀ h : Bool, meetsN l k ((k + 1 + n : Nat) : Int) = h → unT l k (n + 1) = if h = true then unT l k n ++ textAt l (k + 1 + n) else unT l k n) := fun h e => by
        subst e; rfl
      generalize hI : k + 1 + n = I at *
      go_wp2
      go_loop [7] (fun x => ∃ at' : Int, x = .int .i64 at' ∧ -1 ≤ at' ∧ at' ≤ I ∧ meetsN l k at' = meetsN l k (I : Int)) (fun x => (intOf x + 1).toNat)
      case atStart => exact ⟨(I : Int), rfl, by omega, by omega, rfl⟩
      case round =>
        obtain ⟨t, rfl, t0, t1, hme⟩ := hrel
        have HM : Hid (meetsN l k t = meetsN l k (I : Int)) := hme
        clear hme
        by_cases hgt : (k : Int) < t
        · obtain ⟨T, rfl⟩ : ∃ T : Nat, t = T := ⟨t.toNat, by omega⟩
          have p1 := (HC.out T (by omega)).1
          have hup := HU.out T (by omega)
          have HQ : Hid (meetsN l k (upAt l T) = meetsN l k (I : Int)) := by
            show _ = _
            rw [← HM.out, meetsN_up l k T l.length HU.out (Nat.le_refl _) (by omega) (by omega) (by omega)]
            simp
          have hTl : (T : Int) < l.length := by omega
          generalize upAt l T = U at *
          go_wp2
          go_round
          case rel => exact ⟨U, rfl, by omega, by omega, HQ.out⟩
          case measure => simp [intOf]; omega
        · by_cases he : t = k
          · subst he
            have HT : Hid (unT l k (n + 1) = unT l k n ++ textAt l I) := by
              show _ = _
              rw [HY.out true (by rw [← HM.out]; exact meetsN_same l k (by omega)), if_pos rfl]
            go_wp2
            go_round
            case rel => exact ⟨n + 1, by omega, by go_num, by rw [HT.out]⟩
            case measure => simp [intOf]; omega
          · have HT : Hid (unT l k (n + 1) = unT l k n) := by
              show _ = _
              rw [HY.out false (by rw [← HM.out]; exact meetsN_small l l.length HU.out (Nat.le_refl _) _ _ (by omega) (by omega) (by omega)), if_neg (by simp)]
            have hne : (t == (k : Int)) = false := beq_eq_false_iff_ne.2 he
            go_wp2
            go_round
            case rel => exact ⟨n + 1, by omega, by go_num, by rw [HT.out]⟩
            case measure => simp [intOf]; omega
    · have e : n = l.length - k - 1 := by omega
      have hlt' : ¬ ((k + 1 + n : Nat) : Int) < l.length := by omega
      subst e
      go_wp2
      go_ret
      exact ⟨rfl, rfl⟩
end Go.Proofs.YtnkmdmmlpidcmaaGreatDoor
namespace Go.Proofs.YtnkmdmmlpidcmaaGreatDoor
open Go.ChangeShapes Go.WideShapes Go.ChangeAt Go.RowKit
set_option linter.unusedVariables false

def styT : ByteArray := ⟨#[115, 116, 121, 108, 101]⟩
def isSty (l : List ND) (k : Nat) : Bool := decide ((nodeAt l k).name = styT)
def styL (l : List ND) (k : Nat) : List RD := shtL (unT l k (l.length - k - 1))
/-- The rules of the first k nodes. -/
def shP (l : List ND) : Nat → List RD
  | 0 => []
  | k + 1 => if isSty l k = true then (shP l k ++ styL l k).take 30 else shP l k
theorem shP_no {l : List ND} {k : Nat} (h : isSty l k = false) : shP l (k + 1) = shP l k := by rw [shP, if_neg (by rw [h]; simp)]
theorem shP_yes {l : List ND} {k : Nat} (h : isSty l k = true) : shP l (k + 1) = (shP l k ++ styL l k).take 30 := by rw [shP, if_pos h]
theorem shP_len (l : List ND) : ∀ k, (shP l k).length ≤ 30 := by
  intro k
  induction k with
  | zero => simp [shP]
  | succ k ih =>
    rw [shP]
    split
    · rw [List.length_take]; omega
    · exact ih
theorem take_join {α : Type} (a b : List α) (h : a.length ≤ 30) : (a ++ b).take 30 = a ++ b.take (30 - a.length) := by
  rw [List.take_append, List.take_of_length_le h]
/-- What the tree's sheet is. -/
def shN (l : List ND) : List RD := if goodB l = true then shP l l.length else []
theorem shN_len (l : List ND) : (shN l).length ≤ 30 := by
  unfold shN
  split
  · exact shP_len l _
  · simp
theorem pcs_sum (c : UInt8) : ∀ (l : List UInt8), ((pcs c l).map (fun x => x.length + 1)).sum = l.length + 1 := by
  intro l
  induction l with
  | nil => simp [pcs]
  | cons b l ih =>
    unfold pcs
    split
    · simp only [List.map_cons, List.sum_cons, List.length_cons, List.length_nil]; omega
    · split
      · next h => exact absurd h (pcs_ne c l)
      · next x r h =>
        rw [h] at ih
        simp only [List.map_cons, List.sum_cons, List.length_cons] at *
        omega
theorem two_sum : ∀ (ps : List (List UInt8)), (∀ x, x ∈ ps → 0 < x.length) → 2 * ps.length ≤ (ps.map (fun x => x.length + 1)).sum := by
  intro ps
  induction ps with
  | nil => intro _; simp
  | cons x ps ih =>
    intro h
    have h1 := h x List.mem_cons_self
    have h2 := ih (fun y hy => h y (List.mem_cons_of_mem _ hy))
    simp only [List.map_cons, List.sum_cons, List.length_cons]
    omega
theorem selOk_ne {x : List UInt8} (h : selOk (bA x) = true) : 0 < x.length := by
  cases x with
  | nil => exact absurd h (by decide)
  | cons a l => simp
theorem sels_two {l : List UInt8} (h : selsOk (bA l) = true) : 2 * (selsW (bA l)).length ≤ l.length + 1 := by
  unfold selsOk pcB at h
  unfold selsW pcB
  rw [List.length_map, List.length_map]
  rw [List.all_map, List.all_eq_true, bA_list] at h
  rw [bA_list, ← pcs_sum 44 l]
  exact two_sum _ (fun x hx => selOk_ne (h x hx))
theorem two_rules : ∀ (f : Nat) (l : List UInt8), ∀ r, r ∈ rulesF f l → 2 * r.sels.length ≤ l.length + 1 := by
  intro f
  induction f with
  | zero => intro l r h; cases h
  | succ f ih =>
    intro l r h
    unfold rulesF at h
    split at h
    · next hb =>
      rcases List.mem_append.1 h with h | h
      · unfold oneR at h
        split at h
        · next hs =>
          rw [List.mem_singleton] at h
          subst h
          have h1 := sels_two hs
          have h2 : (aheadL l).length ≤ l.length := by unfold aheadL; rw [List.length_take]; omega
          show 2 * (selsW (bA (aheadL l))).length ≤ _
          omega
        · cases h
      · have h1 := ih _ r h
        have h2 := restL_len hb
        omega
    · cases h
/-- A rule out of a sheet. -/
def SmQ (r : RD) : Prop := SmR r ∧ r.sels.length ≤ 750
theorem smQ_sht (s : ByteArray) : ∀ r, r ∈ shtL s → SmQ r := by
  intro r hr
  unfold shtL at hr
  split at hr
  · cases hr
  · next h =>
    have hm := List.mem_of_mem_take hr
    refine ⟨smR_rules _ _ _ hm, ?_⟩
    have hb := bareB_size s
    have h1 := two_rules _ _ r hm
    rw [data_len] at h1
    omega
theorem smQ_shP (l : List ND) : ∀ k r, r ∈ shP l k → SmQ r := by
  intro k
  induction k with
  | zero => intro r h; cases h
  | succ k ih =>
    intro r h
    rw [shP] at h
    split at h
    · rcases List.mem_append.1 (List.mem_of_mem_take h) with h | h
      · exact ih r h
      · exact smQ_sht _ r h
    · exact ih r h
theorem smQ_shN (l : List ND) : ∀ r, r ∈ shN l → SmQ r := by
  intro r h
  unfold shN at h
  split at h
  · exact smQ_shP l _ r h
  · cases h
theorem cntRs_smQ : ∀ (l : List RD), (∀ r, r ∈ l → SmQ r) → cntRs l ≤ 22536 * l.length := by
  intro l
  induction l with
  | nil => intro _; simp [cntRs]
  | cons r l ih =>
    intro h
    obtain ⟨⟨⟨a, h1⟩, h2⟩, h6⟩ := h r List.mem_cons_self
    have h3 := ih (fun q hq => h q (List.mem_cons_of_mem _ hq))
    have h4 := cntSS_bd a
    rw [← h1] at h4
    have h5 : cntR r = cntSS r.sels + 3 * r.decls.length := rfl
    unfold cntRs at *
    simp only [List.map_cons, List.sum_cons, List.length_cons]
    omega
theorem shN_small (l : List ND) : cntRs (shN l) ≤ 676080 ∧ (∀ i, i < (shN l).length → (ruleAt (shN l) i).sels.length ≤ 1000000) ∧ lenRs (shN l) := by
  have h1 := cntRs_smQ (shN l) (smQ_shN l)
  have h2 := shN_len l
  have hm : ∀ i, i < (shN l).length → SmQ (ruleAt (shN l) i) := fun i hi => smQ_shN l _ (by simp [ruleAt, hi])
  refine ⟨by omega, fun i hi => ?_, fun i hi => ?_⟩
  · have := (hm i hi).2; omega
  · obtain ⟨⟨⟨a, h6⟩, h7⟩, h8⟩ := hm i hi
    exact ⟨by omega, by rw [h6]; exact lenSS_sels a, by omega⟩
end Go.Proofs.YtnkmdmmlpidcmaaGreatDoor
