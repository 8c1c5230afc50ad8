/-
  A text among texts: slices.Contains; each theorem names its conditions.
-/
import Derived.Test.YtaeepbjdhcbofaaDoorHas
namespace Go.Proofs.YtaeepbjdhcbofaaDoor
open Go.ChangeShapes Go.WideShapes Go.ChangeAt Go.RowKit
set_option linter.unusedVariables false

def HasSays (l : List ByteArray) (s : ByteArray) (e : Ending) : Prop := ∃ z : Int, e = .returned (.int .i64 z) ∧ decide (0 ≤ z) = hasB l s ∧ -1 ≤ z
theorem slIndex (w : World) (a : Option Addr) (c : Nat) (l : List ByteArray) (s : ByteArray) (hl : l.length ≤ 2000000) (hr : Strs w a l) :
    Calls Tryd.prog 75 #[.slice a l.length c, .string s] w fun e w' => HasSays l s e ∧ w' = w := by
  have HR : Hid (Strs w a l) := hr
  clear hr
  go_enter Tryd.func75, Tryd.ntmps75
  go_wp2
  go_loop [8] (fun i => ∃ k : Nat, k ≤ l.length ∧ i = .int .i64 k ∧ ∀ j, j < k → strAt l j ≠ s) (fun i => l.length - (intOf i).toNat)
  case atStart => exact ⟨0, Nat.zero_le _, rfl, fun j hj => absurd hj (by omega)⟩
  case round =>
    obtain ⟨k, hk, rfl, hno⟩ := hrel
    have HN : Hid (∀ j, j < k → strAt l j ≠ s) := hno
    clear hno
    by_cases hlt : k < l.length
    · rcases HR.out with h | ⟨b, off, rfl, hbk, hc⟩
      · rw [h] at hlt; simp at hlt
      have q0 := hc k hlt
      clear hc hbk
      by_cases he : strAt l k = s
      · have HE : Hid (HasSays l s (.returned (.int .i64 (k : Int)))) := ⟨_, rfl, by rw [hasB_yes hlt he]; simp, by omega⟩
        have hqq : (s.toList == (strAt l k).toList) = true := by rw [he]; simp
        generalize strAt l k = n at *
        clear he
        go_wp2
        go_ret
        exact ⟨HE.out, rfl⟩
      · have hq : (s.toList == (strAt l k).toList) = false := beq_no fun e => he e.symm
        have HO : Hid (∀ j, j < k + 1 → strAt l j ≠ s) := fun j hj => by
          by_cases e : j = k
          · subst e; exact he
          · exact HN.out j (by omega)
        clear he
        go_wp2
        go_round
        case rel => exact ⟨k + 1, by omega, by go_num, HO.out⟩
        case measure => simp [intOf]; omega
    · have e : k = l.length := by omega
      subst e
      have HE : Hid (HasSays l s (.returned (.int .i64 (-1)))) := ⟨_, rfl, by rw [hasB_no HN.out]; simp, by omega⟩
      go_wp2
      go_ret
      exact ⟨HE.out, rfl⟩
theorem ihas (w : World) (a : Option Addr) (c : Nat) (l : List ByteArray) (s : ByteArray) (hl : l.length ≤ 2000000) (hr : Strs w a l) :
    Calls Tryd.prog 64 #[.slice a l.length c, .string s] w fun e w' => e = .returned (.bool (hasB l s)) ∧ w' = w := by
  have HI : Hid (Calls Tryd.prog 75 #[.slice a l.length c, .string s] w fun e w' => HasSays l s e ∧ w' = w) := slIndex w a c l s hl hr
  clear hr
  go_enter Tryd.func64, Tryd.ntmps64
  go_wp2_with (go_at_call 75; refine Calls.mono HI.out ?_; rintro e w' ⟨⟨z, rfl, hz, hz1⟩, hq⟩; have hq2 := hq.symm; clear hq; subst hq2)
  all_goals
    go_ret
    exact ⟨by first | exact ret_bool hz | rfl, rfl⟩
end Go.Proofs.YtaeepbjdhcbofaaDoor
