/-
  The lengths of the fixed codes, as the program and the specification make them; each theorem names its conditions.
-/
import Derived.Test.YteehoihkbcbbgaaDoorPlaces
import Derived.Test.YteehoihkbcbbgaaDoorCodes6
namespace Go.Proofs.YteehoihkbcbbgaaDoor
open Go.ChangeShapes Go.WideShapes Go.ChangeAt Go.RowKit
set_option linter.unusedVariables false

def flp (i j : Nat) : Int := if j < i then fl j else 0
theorem flp_set (i : Nat) (h : i < 288) (v : Int) (hv : fl i = v) : (tab 288 (flp i)).setIfInBounds i (.int .i64 v) = tab 288 (flp (i + 1)) := by
  apply tab_set _ _ _ i _ h
  · intro j hj hne
    unfold flp
    by_cases h2 : j < i
    · rw [if_pos h2, if_pos (by omega)]
    · rw [if_neg h2, if_neg (by omega)]
  · unfold flp; rw [if_pos (by omega)]; exact hv
theorem flp_all : tab 288 (flp 288) = cellsOf .i64 fixedL := by
  rw [cellsOf_tab, fixedL_len]
  apply tab_congr
  intro j hj
  rw [fixedL_get j hj]
  unfold flp; rw [if_pos hj]
theorem flp_zero : tab 288 (flp 0) = tab 288 (fun _ => 0) := by
  apply tab_congr; intro j hj; unfold flp; rw [if_neg (by omega)]

set_option maxHeartbeats 2000000 in
theorem fixedLengths_any (w : World) : Calls Tryd.prog 24 #[] w fun e w' => e = .returned (.slice (some ⟨w.heap.size, 0, none⟩) 288 288) ∧ w' = w.alloc (.cells (cellsOf .i64 fixedL) 3) := by
  have hmk := run_make_row' (P := Tryd.prog) 41 3 (.int .i64 0) 8 Tryd.underlying41 Tryd.info3 rfl .i64 .i64 288 (by omega) (by omega)
  rw [tab_zero, ← flp_zero] at hmk
  have hmk2 : ∀ (W : World), (Instr.makeSlice 41 (Value.int IntKind.i64 288) (Value.int IntKind.i64 288)).run Tryd.prog W = .ok (.slice (some ⟨W.heap.size, 0, none⟩) 288 288) (W.alloc (.cells (tab 288 (flp 0)) 3)) := hmk
  clear hmk
  have HZ : Hid _ := flp_all
  go_enter Tryd.func24, Tryd.ntmps24
  go_wp2
  go_loopw [6] (fun i wr => ∃ k : Nat, k ≤ 288 ∧ i = .int .i64 k ∧ wr = w.alloc (.cells (tab 288 (flp k)) 3)) (fun i _ => 288 - (intOf i).toNat)
  case atStart => exact ⟨0, Nat.zero_le _, rfl, rfl⟩
  case round =>
    obtain ⟨k, hk, rfl, rfl⟩ := hrel
    clear hmk2
    by_cases hlt : k < 288
    · have hg := tab_get 288 (flp k) k hlt
      have x1 : (k : Int) < 288 := by omega
      have d0 : decide ((k : Int) < 288) = true := by simp; omega
      have HS : Hid (∀ v, fl k = v → (tab 288 (flp k)).setIfInBounds k (.int .i64 v) = tab 288 (flp (k + 1))) := fun v hv => flp_set k hlt v hv
      generalize flp k k = y at *
      by_cases h1 : k < 144
      · have HV : Hid _ := HS.out 8 (by unfold fl; rw [if_pos h1])
        have d1 : decide ((k : Int) < 144) = true := by simp; omega
        generalize tab 288 (flp k) = T at *
        go_wp2
        go_roundw
        case rel => exact ⟨k + 1, by omega, by go_num, by rw [← HV.out]⟩
        case measure => simp [intOf]; omega
      · have d1 : decide ((k : Int) < 144) = false := by simp; omega
        by_cases h2 : k < 256
        · have HV : Hid _ := HS.out 9 (by unfold fl; rw [if_neg h1, if_pos h2])
          have d2 : decide ((k : Int) < 256) = true := by simp; omega
          generalize tab 288 (flp k) = T at *
          go_wp2
          go_roundw
          case rel => exact ⟨k + 1, by omega, by go_num, by rw [← HV.out]⟩
          case measure => simp [intOf]; omega
        · have d2 : decide ((k : Int) < 256) = false := by simp; omega
          by_cases h3 : k < 280
          · have HV : Hid _ := HS.out 7 (by unfold fl; rw [if_neg h1, if_neg h2, if_pos h3])
            have d3 : decide ((k : Int) < 280) = true := by simp; omega
            generalize tab 288 (flp k) = T at *
            go_wp2
            go_roundw
            case rel => exact ⟨k + 1, by omega, by go_num, by rw [← HV.out]⟩
            case measure => simp [intOf]; omega
          · have HV : Hid _ := HS.out 8 (by unfold fl; rw [if_neg h1, if_neg h2, if_neg h3])
            have d3 : decide ((k : Int) < 280) = false := by simp; omega
            generalize tab 288 (flp k) = T at *
            go_wp2
            go_roundw
            case rel => exact ⟨k + 1, by omega, by go_num, by rw [← HV.out]⟩
            case measure => simp [intOf]; omega
    · have e : k = 288 := by omega
      subst e
      rw [HZ.out]
      go_wp2
      go_ret
      exact ⟨rfl, rfl⟩
end Go.Proofs.YteehoihkbcbbgaaDoor
