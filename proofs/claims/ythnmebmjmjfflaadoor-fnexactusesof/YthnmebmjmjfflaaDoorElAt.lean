/-
  Whether a number is that of an element, the program's look and the specification's; each theorem names its conditions.
-/
import Derived.Test.YthnmebmjmjfflaaDoorMkElem
import Derived.Test.YthnmebmjmjfflaaDoorMkNs
namespace Go.Proofs.YthnmebmjmjfflaaDoor
open Go.ChangeShapes Go.WideShapes Go.ChangeAt Go.RowKit
set_option linter.unusedVariables false

def elB (l : List ND) (k : Int) : Bool := decide (0 ≤ k ∧ k < l.length) && !decide ((nodeAt l k.toNat).name.size = 0)
theorem elB_no {l : List ND} {k : Int} (h : ¬ (0 ≤ k ∧ k < l.length)) : elB l k = false := by unfold elB; rw [decide_eq_false h]; rfl
theorem elB_yes {l : List ND} {k : Nat} (h : k < l.length) : elB l k = !decide ((nodeAt l k).name.size = 0) := by
  unfold elB; rw [decide_eq_true (by omega), Int.toNat_natCast]; rfl
set_option maxHeartbeats 2000000 in
theorem ielement (w : World) (a : Option Addr) (c : Nat) (l : List ND) (k : Int) (hk : -9223372036854775808 ≤ k ∧ k ≤ 9223372036854775807) (hl : l.length ≤ 1048576) (hr : Nodes w a l) :
    Calls Tryd.prog 22 #[.slice a l.length c, .int .i64 k] w fun e w' => e = .returned (.bool (elB l k)) ∧ Nw w w' := by
  by_cases h : 0 ≤ k ∧ k < l.length
  · obtain ⟨n, rfl⟩ : ∃ n : Nat, k = (n : Int) := ⟨k.toNat, by omega⟩
    have hn : n < l.length := by omega
    have HX : Hid (elB l n = !decide ((nodeAt l n).name.size = 0)) := elB_yes hn
    rcases hr with h0 | ⟨b, o, rfl, hb, hc⟩
    · rw [h0] at hn; simp at hn
    obtain ⟨q0, q1, ⟨qa, qc, q2, qcap, q4⟩, q3⟩ := hc n hn
    clear hc q4 qcap
    have HI : Hid (Calls Tryd.prog 41 #[.agg #[.string (nodeAt l n).name, .int .i64 (nodeAt l n).up, .slice qa (nodeAt l n).attrs.length qc, .string (nodeAt l n).text]] w fun e w' => e = .returned (.bool (elB l n)) ∧ Nw w w') := by
      show Calls _ _ _ _ _
      rw [HX.out]
      exact iisElem _ _ _ _ _
    generalize elB l n = eb at *
    clear HX
    go_enter Tryd.func22, Tryd.ntmps22
    go_wp2_with (go_at_call 41; refine Calls.mono HI.out ?_; rintro e w1 ⟨rfl, k1⟩)
    go_ret
    exact ⟨rfl, k1⟩
  · have HX : Hid (elB l k = false) := elB_no h
    clear hr
    by_cases h0 : 0 ≤ k
    · have h1 : ¬ k < (l.length : Int) := by omega
      clear h
      go_enter Tryd.func22, Tryd.ntmps22
      go_wp2
      go_ret
      exact ⟨ret_bool HX.out.symm, Below.refl _ _⟩
    · clear h
      go_enter Tryd.func22, Tryd.ntmps22
      go_wp2
      go_ret
      exact ⟨ret_bool HX.out.symm, Below.refl _ _⟩
set_option maxHeartbeats 2000000 in
theorem selement (w : World) (a : Option Addr) (c : Nat) (l : List ND) (k : Int) (hk : -9223372036854775808 ≤ k ∧ k ≤ 9223372036854775807) (hl : l.length ≤ 1048576) (hr : Nodes w a l) :
    Calls Tryd.prog 18 #[.slice a l.length c, .int .i64 k] w fun e w' => e = .returned (.bool (elB l k)) ∧ Nw w w' := by
  by_cases h : 0 ≤ k ∧ k < l.length
  · obtain ⟨n, rfl⟩ : ∃ n : Nat, k = (n : Int) := ⟨k.toNat, by omega⟩
    have hn : n < l.length := by omega
    have hx : elB l n = !decide ((nodeAt l n).name.size = 0) := elB_yes hn
    have hd : decide ((0 : Int) ≤ (n : Int) ∧ (n : Int) ≤ (l.length : Int) - 1) = true := by simp; omega
    rcases hr with h0 | ⟨b, o, rfl, hb, hc⟩
    · rw [h0] at hn; simp at hn
    obtain ⟨q0, q1, ⟨qa, qc, q2, qcap, q4⟩, q3⟩ := hc n hn
    clear hc q4 qcap q1 q2 q3
    by_cases hz : (nodeAt l n).name.size = 0
    · have HX : Hid (elB l n = false) := by show _ = _; rw [hx, hz]; rfl
      have hq := empty_of hz
      rw [hq] at q0
      clear hx hz hq
      go_enter Tryd.func18, Tryd.ntmps18
      go_wp2_with (go_at_call 29; refine (in_any _ _ _ _).mono ?_; rw [hd]; rintro e w' ⟨rfl, hq⟩; have hq2 := hq.symm; clear hq; subst hq2)
      go_ret
      exact ⟨ret_bool HX.out.symm, Below.refl _ _⟩
    · have HX : Hid (elB l n = true) := by show _ = _; rw [hx]; simp [hz]
      have n1 := ne_nil (s := (nodeAt l n).name) (by omega)
      have n2 := ne_emp (s := (nodeAt l n).name) (by omega)
      generalize (nodeAt l n).name = nm at *
      clear hx hz
      go_enter Tryd.func18, Tryd.ntmps18
      go_wp2_with (go_at_call 29; refine (in_any _ _ _ _).mono ?_; rw [hd]; rintro e w' ⟨rfl, hq⟩; have hq2 := hq.symm; clear hq; subst hq2)
      go_ret
      exact ⟨ret_bool HX.out.symm, Below.refl _ _⟩
  · have HX : Hid (elB l k = false) := elB_no h
    have hd : decide ((0 : Int) ≤ k ∧ k ≤ (l.length : Int) - 1) = false := by simp; omega
    clear hr h
    go_enter Tryd.func18, Tryd.ntmps18
    go_wp2_with (go_at_call 29; refine (in_any _ _ _ _).mono ?_; rw [hd]; rintro e w' ⟨rfl, hq⟩; have hq2 := hq.symm; clear hq; subst hq2)
    go_ret
    exact ⟨ret_bool HX.out.symm, Below.refl _ _⟩
end Go.Proofs.YthnmebmjmjfflaaDoor
