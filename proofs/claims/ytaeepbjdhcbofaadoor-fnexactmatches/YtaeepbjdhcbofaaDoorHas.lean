/-
  A text among texts: the specification's look and the program's; each theorem names its conditions.
-/
import Derived.Test.YtaeepbjdhcbofaaDoorPs
import Derived.Test.YtaeepbjdhcbofaaDoorLet
namespace Go.Proofs.YtaeepbjdhcbofaaDoor
open Go.ChangeShapes Go.WideShapes Go.ChangeAt Go.RowKit
set_option linter.unusedVariables false

theorem beq_no {x y : ByteArray} (h : x ≠ y) : (x.toList == y.toList) = false := (Lib.bytes_beq_false_iff _ _).2 h
def hasB (l : List ByteArray) (s : ByteArray) : Bool := l.any fun x => decide (x = s)
theorem hasB_yes {l : List ByteArray} {s : ByteArray} {k : Nat} (hk : k < l.length) (h : strAt l k = s) : hasB l s = true := by
  unfold hasB
  rw [List.any_eq_true]
  refine ⟨l[k], List.getElem_mem hk, ?_⟩
  have e : strAt l k = l[k] := by simp [strAt, hk]
  rw [← e]; simpa using h
theorem hasB_no {l : List ByteArray} {s : ByteArray} (h : ∀ j, j < l.length → strAt l j ≠ s) : hasB l s = false := by
  unfold hasB
  rw [List.any_eq_false]
  intro x hx
  obtain ⟨j, hj, rfl⟩ := List.getElem_of_mem hx
  have := h j hj
  have e : strAt l j = l[j] := by simp [strAt, hj]
  rw [e] at this
  simpa using this
/-- A text among texts. -/
theorem shas (w : World) (a : Option Addr) (c : Nat) (l : List ByteArray) (s : ByteArray) (hl : l.length ≤ 2000000) (hr : Strs w a l) :
    Calls Tryd.prog 53 #[.slice a l.length c, .string s] w fun e w' => e = .returned (.bool (hasB l s)) ∧ w' = w := by
  have HR : Hid (Strs w a l) := hr
  clear hr
  go_enter Tryd.func53, Tryd.ntmps53
  go_wp2
  go_loop [9] (fun i => ∃ k : Nat, k ≤ l.length ∧ i = .int .i64 k ∧ ∀ j, j < k → strAt l j ≠ s) (fun i => l.length - (intOf i).toNat)
  case atStart => exact ⟨0, Nat.zero_le _, rfl, fun j hj => absurd hj (by omega)⟩
  case round =>
    obtain ⟨k, hk, rfl, hno⟩ := hrel
    have HN : Hid (∀ j, j < k → strAt l j ≠ s) := hno
    clear hno
    by_cases hlt : k < l.length
    · rcases HR.out with h | ⟨b, off, rfl, hbk, hc⟩
      · rw [h] at hlt; simp at hlt
      have q0 := hc k hlt
      clear hc hbk
      by_cases he : strAt l k = s
      · have HE : Hid (hasB l s = true) := hasB_yes hlt he
        have hqq : ((strAt l k).toList == s.toList) = true := by rw [he]; simp
        generalize strAt l k = n at *
        clear he
        go_wp2
        go_ret
        exact ⟨ret_bool HE.out.symm, rfl⟩
      · have hq := beq_no he
        have HO : Hid (∀ j, j < k + 1 → strAt l j ≠ s) := fun j hj => by
          by_cases e : j = k
          · subst e; exact he
          · exact HN.out j (by omega)
        clear he
        go_wp2
        go_round
        case rel => exact ⟨k + 1, by omega, by go_num, HO.out⟩
        case measure => simp [intOf]; omega
    · have e : k = l.length := by omega
      subst e
      have HE : Hid (hasB l s = false) := hasB_no HN.out
      go_wp2
      go_ret
      exact ⟨ret_bool HE.out.symm, rfl⟩
end Go.Proofs.YtaeepbjdhcbofaaDoor
