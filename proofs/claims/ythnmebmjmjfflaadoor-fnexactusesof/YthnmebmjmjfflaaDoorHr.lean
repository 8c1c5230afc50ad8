/-
  What a node names: its href, the program's and the specification's; each theorem names its conditions.
-/
import Derived.Test.YthnmebmjmjfflaaDoorAttrV
import Derived.Test.YthnmebmjmjfflaaDoorBoxN
namespace Go.Proofs.YthnmebmjmjfflaaDoor
open Go.ChangeShapes Go.WideShapes Go.ChangeAt Go.RowKit
set_option linter.unusedVariables false

def idA : ByteArray := ⟨#[105, 100]⟩
def useT : ByteArray := ⟨#[117, 115, 101]⟩
def hrefT : ByteArray := ⟨#[104, 114, 101, 102]⟩
def xhrefT : ByteArray := ⟨#[120, 108, 105, 110, 107, 58, 104, 114, 101, 102]⟩
def hrefV (l : List Pair) : ByteArray := if attrO l hrefT = true then attrV l hrefT else attrV l xhrefT
def hashB (v : ByteArray) : Bool := match v.data.toList with | [] => false | x :: _ => decide (x = 35)
def cutHash (v : ByteArray) : ByteArray := if hashB v = true then v.extract 1 v.size else ⟨#[]⟩
def refV (l : List Pair) : ByteArray := cutHash (hrefV l)
theorem hashB_empty : hashB ⟨#[]⟩ = false := rfl
theorem hrefV_size {l : List Pair} (h : ∀ i, i < l.length → (pairAt l i).2.size ≤ 1048576) : (hrefV l).size ≤ 1048576 := by
  unfold hrefV; split <;> exact attrV_size h
theorem hashB_iff (v : ByteArray) : hashB v = true ↔ ∃ l, v.data.toList = 35 :: l := by
  unfold hashB
  cases v.data.toList with
  | nil => simp
  | cons x l => simp
theorem cut_yes {v : ByteArray} (h : hashB v = true) : (⟨(Lib.trimPrefix v.data.toList [35]).toArray⟩ : ByteArray) = cutHash v ∧ Lib.hasPrefix v.data.toList [35] = true := by
  obtain ⟨l, hl⟩ := (hashB_iff v).1 h
  have e : (v.extract 1 v.size).data.toList = l := by
    have h2 : v.data.toList.length = l.length + 1 := by rw [hl]; rfl
    have h3 : v.size = v.data.toList.length := (Array.length_toList (xs := v.data)).symm
    rw [ByteArray.data_extract, Array.toList_extract, hl]
    simp only [List.extract_eq_take_drop, List.drop_succ_cons, List.drop_zero]
    exact List.take_of_length_le (by omega)
  unfold cutHash
  rw [if_pos h, hl]
  refine ⟨?_, by simp [Lib.hasPrefix]⟩
  apply ByteArray.ext
  apply Array.toList_inj.1
  rw [e]
  simp [Lib.trimPrefix, Lib.hasPrefix]
theorem cut_no {v : ByteArray} (h : hashB v = false) : Lib.hasPrefix v.data.toList [35] = false := by
  unfold hashB at h
  cases e : v.data.toList with
  | nil => simp [Lib.hasPrefix]
  | cons x l =>
    rw [e] at h
    simp at h
    have hx : ((35 : UInt8) == x) = false := beq_eq_false_iff_ne.2 fun h2 => h h2.symm
    show ((35 : UInt8) == x && _) = false
    rw [hx]; rfl
/-- The first byte. -/
theorem byte0_no {v : ByteArray} (h : hashB v = false) (h0 : 0 < v.size) : ((v[0]'h0).toNat : Int) ≠ 35 := by
  intro e
  have e2 : (v[0]'h0) = 35 := UInt8.toNat_inj.1 (by simpa using Int.ofNat_inj.1 e)
  have : hashB v = true := by
    rw [hashB_iff]
    refine ⟨v.data.toList.tail, ?_⟩
    cases hl : v.data.toList with
    | nil => have : v.size = 0 := by rw [← ByteArray.size_data]; simpa using congrArg List.length hl
             omega
    | cons x l =>
      have e3 : (v[0]'h0) = x := by
        show v.data[0] = x
        have h5 : v.data.toList[0]? = some x := by rw [hl]; rfl
        rw [Array.getElem?_toList] at h5
        exact (Array.getElem?_eq_some_iff.1 h5).2
      rw [e2] at e3
      rw [← e3]; rfl
  rw [h] at this; cases this
theorem byte0_yes {v : ByteArray} (h : hashB v = true) : ∃ h0 : 0 < v.size, ((v[0]'h0).toNat : Int) = 35 := by
  obtain ⟨l, hl⟩ := (hashB_iff v).1 h
  have h0 : 0 < v.size := by
    have : v.data.toList.length = l.length + 1 := by rw [hl]; simp
    have h2 : v.size = v.data.toList.length := (Array.length_toList (xs := v.data)).symm
    omega
  refine ⟨h0, ?_⟩
  have e3 : (v[0]'h0) = 35 := by
    show v.data[0] = 35
    have h5 : v.data.toList[0]? = some 35 := by rw [hl]; rfl
    rw [Array.getElem?_toList] at h5
    exact (Array.getElem?_eq_some_iff.1 h5).2
  rw [e3]; rfl

set_option maxHeartbeats 2000000 in
theorem ihref (w : World) (name : ByteArray) (up : Int) (l : List Pair) (text : ByteArray) (a : Option Addr) (c : Nat) (hl : l.length ≤ 1048576) (hv : ∀ i, i < l.length → (pairAt l i).2.size ≤ 1048576) (hr : Attrs w a l) :
    Calls Tryd.prog 44 #[.agg #[.string name, .int .i64 up, .slice a l.length c, .string text]] w fun e w' => e = .returned (.string (refV l)) ∧ Nw w w' := by
  have S0 : Hid (Nw w (w.alloc (.cells #[.string name, .int .i64 up, .slice a l.length c, .string text] 46))) := (Below.refl _ _).alloc (Nat.le_refl _) _
  have HA : Hid (Attrs w a l) := hr
  have HV : Hid (∀ i, i < l.length → (pairAt l i).2.size ≤ 1048576) := hv
  have HF : Hid (hrefV l = if attrO l hrefT = true then attrV l hrefT else attrV l xhrefT) := rfl
  have HR : Hid (refV l = cutHash (hrefV l)) := rfl
  clear hr hv
  have tail : ∀ (v : ByteArray) (W : World), Calls Tryd.prog 62 #[.string v, .string ⟨#[35]⟩] W fun e w' => (e = .returned (.tuple #[.string (cutHash v), .bool true]) ∧ hashB v = true ∧ w' = W) ∨ (∃ x, e = .returned (.tuple #[.string x, .bool false]) ∧ cutHash v = ⟨#[]⟩ ∧ w' = W) := by
    intro v W
    refine (Tryd.strings_CutPrefix v ⟨#[35]⟩ W).mono ?_
    rintro e w' ⟨rfl, rfl⟩
    have e35 : (⟨#[35]⟩ : ByteArray).data.toList = [35] := rfl
    rw [e35]
    cases h : hashB v
    · rw [cut_no h]
      exact Or.inr ⟨_, rfl, by unfold cutHash; rw [h]; rfl, rfl⟩
    · obtain ⟨h1, h2⟩ := cut_yes h
      rw [h1, h2]
      exact Or.inl ⟨rfl, rfl, rfl⟩
  have HT : Hid (∀ (v : ByteArray) (W : World), Calls Tryd.prog 62 #[.string v, .string ⟨#[35]⟩] W fun e w' => (e = .returned (.tuple #[.string (cutHash v), .bool true]) ∧ hashB v = true ∧ w' = W) ∨ (∃ x, e = .returned (.tuple #[.string x, .bool false]) ∧ cutHash v = ⟨#[]⟩ ∧ w' = W)) := tail
  clear tail
  go_enter Tryd.func44, Tryd.ntmps44
  go_wp2_with fail
  refine Calls.mono (iattrV _ name up l text a c hrefT hl HV.out (HA.out.nw S0.out)) ?_
  rintro e w1 ⟨rfl, k1⟩
  have S1 : Hid (Nw w w1) := S0.out.trans k1
  have B1 := (BoxN.new w name up (.slice a l.length c) text 46).nw k1
  clear k1
  obtain ⟨b0, d0, d1, d2, d3⟩ := B1
  cases ho : attrO l hrefT
  · have HX : Hid (refV l = cutHash (attrV l xhrefT)) := by show _ = _; rw [HR.out, HF.out, ho]; rfl
    go_wp2_with fail
    refine Calls.mono (iattrV _ name up l text a c xhrefT hl HV.out (HA.out.nw S1.out)) ?_
    rintro e w2 ⟨rfl, k2⟩
    have S2 : Hid (Nw w w2) := S1.out.trans k2
    clear k2
    generalize attrV l xhrefT = v at *
    generalize attrO l xhrefT = vo at *
    go_wp2_with fail
    refine Calls.mono (HT.out v _) ?_
    rintro e w3 (⟨rfl, hh, hq⟩ | ⟨x, rfl, hh, hq⟩)
    · have hq2 := hq.symm; clear hq; subst hq2
      go_wp2
      go_ret
      exact ⟨by rw [HX.out]; rfl, S2.out⟩
    · have hq2 := hq.symm; clear hq; subst hq2
      have HY : Hid (refV l = ⟨#[]⟩) := HX.out.trans hh
      clear hh
      go_wp2
      go_ret
      exact ⟨by rw [HY.out]; rfl, S2.out⟩
  · have HX : Hid (refV l = cutHash (attrV l hrefT)) := by show _ = _; rw [HR.out, HF.out, ho]; rfl
    generalize attrV l hrefT = v at *
    go_wp2_with fail
    refine Calls.mono (HT.out v _) ?_
    rintro e w3 (⟨rfl, hh, hq⟩ | ⟨x, rfl, hh, hq⟩)
    · have hq2 := hq.symm; clear hq; subst hq2
      go_wp2
      go_ret
      exact ⟨by rw [HX.out]; rfl, S1.out⟩
    · have hq2 := hq.symm; clear hq; subst hq2
      have HY : Hid (refV l = ⟨#[]⟩) := HX.out.trans hh
      clear hh
      go_wp2
      go_ret
      exact ⟨by rw [HY.out]; rfl, S1.out⟩

set_option maxHeartbeats 2000000 in
theorem shref (w : World) (name : ByteArray) (up : Int) (l : List Pair) (text : ByteArray) (a : Option Addr) (c : Nat) (hl : l.length ≤ 1048576) (hv : ∀ i, i < l.length → (pairAt l i).2.size ≤ 1048576) (hr : Attrs w a l) :
    Calls Tryd.prog 36 #[.agg #[.string name, .int .i64 up, .slice a l.length c, .string text]] w fun e w' => e = .returned (.string (refV l)) ∧ Nw w w' := by
  have S0 : Hid (Nw w (w.alloc (.cells #[.string name, .int .i64 up, .slice a l.length c, .string text] 46))) := (Below.refl _ _).alloc (Nat.le_refl _) _
  have HA : Hid (Attrs w a l) := hr
  have HV : Hid (∀ i, i < l.length → (pairAt l i).2.size ≤ 1048576) := hv
  have HF : Hid (hrefV l = if attrO l hrefT = true then attrV l hrefT else attrV l xhrefT) := rfl
  have HR : Hid (refV l = cutHash (hrefV l)) := rfl
  clear hr hv
  go_enter Tryd.func36, Tryd.ntmps36
  go_wp2_with fail
  refine Calls.mono (sattrV _ name up l text a c hrefT hl (HA.out.nw S0.out)) ?_
  rintro e w1 ⟨rfl, k1⟩
  have S1 : Hid (Nw w w1) := S0.out.trans k1
  have B1 := (BoxN.new w name up (.slice a l.length c) text 46).nw k1
  clear k1
  obtain ⟨b0, d0, d1, d2, d3⟩ := B1
  have ways : ∀ v : ByteArray, v.size ≤ 1048576 → (v = ⟨#[]⟩ ∧ cutHash v = ⟨#[]⟩) ∨ (∃ h0 : 0 < v.size, ((v[0]'h0).toNat : Int) ≠ 35 ∧ cutHash v = ⟨#[]⟩) ∨ (∃ h0 : 0 < v.size, ((v[0]'h0).toNat : Int) = 35 ∧ cutHash v = v.extract 1 v.size) := by
    intro v hv
    cases h : hashB v
    · have hc : cutHash v = ⟨#[]⟩ := by unfold cutHash; rw [h]; rfl
      by_cases h0 : 0 < v.size
      · exact Or.inr (Or.inl ⟨h0, byte0_no h h0, hc⟩)
      · exact Or.inl ⟨ByteArray.ext (Array.eq_empty_of_size_eq_zero (show v.data.size = 0 by have : v.data.size = v.size := rfl; omega)), hc⟩
    · obtain ⟨h0, h1⟩ := byte0_yes h
      exact Or.inr (Or.inr ⟨h0, h1, by unfold cutHash; rw [h]; rfl⟩)
  cases ho : attrO l hrefT
  · have HX : Hid (refV l = cutHash (attrV l xhrefT)) := by show _ = _; rw [HR.out, HF.out, ho]; rfl
    have hz := attrV_size (s := xhrefT) HV.out
    go_wp2_with fail
    refine Calls.mono (sattrV _ name up l text a c xhrefT hl (HA.out.nw S1.out)) ?_
    rintro e w2 ⟨rfl, k2⟩
    have S2 : Hid (Nw w w2) := S1.out.trans k2
    clear k2
    generalize attrV l xhrefT = v at *
    generalize attrO l xhrefT = vo at *
    rcases ways v hz with ⟨rfl, hc⟩ | ⟨h0, h1, hc⟩ | ⟨h0, h1, hc⟩
    all_goals
      try (have hs0 : ((v.size : Int) == 0) = false := beq_eq_false_iff_ne.2 (by omega); have hs1 : ¬ v = ByteArray.empty := by (rintro rfl; exact absurd h0 (by decide)))
      have HY : Hid (refV l = _) := HX.out.trans hc
      clear hc ways
      go_wp2
      go_ret
      exact ⟨by rw [HY.out]; rfl, S2.out⟩
  · have HX : Hid (refV l = cutHash (attrV l hrefT)) := by show _ = _; rw [HR.out, HF.out, ho]; rfl
    have hz := attrV_size (s := hrefT) HV.out
    generalize attrV l hrefT = v at *
    rcases ways v hz with ⟨rfl, hc⟩ | ⟨h0, h1, hc⟩ | ⟨h0, h1, hc⟩
    all_goals
      try (have hs0 : ((v.size : Int) == 0) = false := beq_eq_false_iff_ne.2 (by omega); have hs1 : ¬ v = ByteArray.empty := by (rintro rfl; exact absurd h0 (by decide)))
      have HY : Hid (refV l = _) := HX.out.trans hc
      clear hc ways
      go_wp2
      go_ret
      exact ⟨by rw [HY.out]; rfl, S1.out⟩
end Go.Proofs.YthnmebmjmjfflaaDoor
