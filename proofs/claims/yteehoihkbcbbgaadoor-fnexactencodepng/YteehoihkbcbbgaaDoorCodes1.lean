/-
  What the program's helpers over lengths answer: goodLengths, countLengths, completeCounts; and the laws' helpers over lists of numbers; each theorem names its conditions.
-/
import Derived.Test.YteehoihkbcbbgaaDoorTab
namespace Go.Proofs.YteehoihkbcbbgaaDoor
open Go.ChangeShapes Go.WideShapes Go.ChangeAt Go.RowKit
set_option linter.unusedVariables false

set_option maxHeartbeats 1000000 in
theorem good_any (w : World) (b off cap : Nat) (zs : List Int) (hl : zs.length ≤ 1048576) (hc : ∀ i, i < zs.length → w.cell? ⟨b, off + i, none⟩ = some (.int .i64 (zs.getD i 0))) :
    Calls Tryd.prog 54 #[.slice (some ⟨b, off, none⟩) zs.length cap] w fun e w' => e = .returned (.bool (fit zs)) ∧ w' = w := by
  by_cases h3 : zs.length ≤ 300
  · have d1 : decide ((300 : Int) < (zs.length : Int)) = false := by simp; omega
    have HC : Hid _ := hc
    clear hc
    go_enter Tryd.func54, Tryd.ntmps54
    go_wp2
    go_loop [10] (fun i => ∃ k : Nat, k ≤ zs.length ∧ i = .int .i64 k ∧ ∀ j, j < k → 0 ≤ zs.getD j 0 ∧ zs.getD j 0 ≤ 15) (fun i => zs.length - (intOf i).toNat)
    case atStart => exact ⟨0, Nat.zero_le _, rfl, fun j hj => absurd hj (by omega)⟩
    case round =>
      obtain ⟨k, hk, rfl, hall⟩ := hrel
      have HA : Hid _ := hall
      clear hall
      by_cases hlt : k < zs.length
      · have c0 := HC.out k hlt
        by_cases h0 : 0 ≤ zs.getD k 0
        · by_cases h15 : zs.getD k 0 ≤ 15
          · have HN : Hid (∀ j, j < k + 1 → 0 ≤ zs.getD j 0 ∧ zs.getD j 0 ≤ 15) := by
              intro j hj
              by_cases e : j = k
              · subst e; exact ⟨h0, h15⟩
              · exact HA.out j (by omega)
            have e1 : decide (zs.getD k 0 < 0) = false := decide_eq_false (by omega)
            have e2 : decide (15 < zs.getD k 0) = false := decide_eq_false (by omega)
            generalize zs.getD k 0 = x at *
            go_wp2
            go_round
            case rel => exact ⟨k + 1, by omega, by go_num, HN.out⟩
            case measure => simp [intOf]; omega
          · have HF : Hid (fit zs = false) := fit_no h3 k hlt (by omega)
            have e1 : decide (zs.getD k 0 < 0) = false := decide_eq_false (by omega)
            have e2 : decide (15 < zs.getD k 0) = true := decide_eq_true (by omega)
            generalize zs.getD k 0 = x at *
            go_wp2
            go_ret
            exact ⟨by rw [HF.out]; rfl, rfl⟩
        · have HF : Hid (fit zs = false) := fit_no h3 k hlt (by omega)
          have e1 : decide (zs.getD k 0 < 0) = true := decide_eq_true (by omega)
          generalize zs.getD k 0 = x at *
          go_wp2
          go_ret
          exact ⟨by rw [HF.out]; rfl, rfl⟩
      · have HF : Hid (fit zs = true) := by
          show fit zs = true
          simp [fit]
          refine ⟨h3, fun x hx => ?_⟩
          obtain ⟨j, hj, rfl⟩ := List.getElem_of_mem hx
          have := HA.out j (by omega)
          simpa [hj] using this
        go_wp2
        go_ret
        exact ⟨by rw [HF.out]; rfl, rfl⟩
  · have d1 : decide ((300 : Int) < (zs.length : Int)) = true := by simp; omega
    have HF : Hid (fit zs = false) := by show fit zs = false; simp [fit]; intro h; omega
    clear hc
    go_enter Tryd.func54, Tryd.ntmps54
    go_wp2
    go_ret
    exact ⟨by rw [HF.out]; rfl, rfl⟩
end Go.Proofs.YteehoihkbcbbgaaDoor
