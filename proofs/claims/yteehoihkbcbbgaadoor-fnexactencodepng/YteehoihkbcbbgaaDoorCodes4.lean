/-
  What the specification's l2Codes and CodesOf answer; each theorem names its conditions.
-/
import Derived.Test.YteehoihkbcbbgaaDoorCodes3
namespace Go.Proofs.YteehoihkbcbbgaaDoor
open Go.ChangeShapes Go.WideShapes Go.ChangeAt Go.RowKit
set_option linter.unusedVariables false

theorem nx_two (xs : List Int) (r : Nat) : (nx xs r + cn xs xs.length r) * 2 = nx xs (r + 1) := rfl
theorem nx_small (xs : List Int) (h : xs.length ≤ 300) (l : Nat) (hl : l ≤ 15) : 0 ≤ nx xs l ∧ nx xs l ≤ 19660800 := by
  have a := nx_bd xs h l hl
  have b := pow_bd l hl
  omega

set_option maxHeartbeats 2000000 in
theorem scodes_any (w : World) (b off cap : Nat) (zs : List Int) (hf : fit zs = true) (hb : b < w.heap.size) (hc : ∀ i, i < zs.length → w.cell? ⟨b, off + i, none⟩ = some (.int .i64 (zs.getD i 0))) :
    Calls Tryd.prog 88 #[.slice (some ⟨b, off, none⟩) zs.length cap] w fun e w' => e = .returned (.slice (some ⟨w.heap.size, 0, none⟩) zs.length zs.length) ∧ w' = w.alloc (.cells (cellsOf .i64 (codesL zs)) 3) := by
  have hl := fit_len hf
  have HF : Hid _ := hf
  have HC : Hid _ := hc
  clear hc hf
  have hmk := run_make_row' (P := Tryd.prog) 41 3 (.int .i64 0) 8 Tryd.underlying41 Tryd.info3 rfl .i64 .i64 zs.length (by omega) (by omega)
  rw [tab_zero] at hmk
  have HL1 : Hid _ := lay_first zs
  have HLZ : Hid _ := lay_last zs HF.out
  go_enter Tryd.func88, Tryd.ntmps88
  go_wp2
  go_loopw [4, 5] (fun c n wr => ∃ r : Nat, r ≤ 15 ∧ n = .int .i64 ((r : Int) + 1) ∧ c = .int .i64 (nx zs r + cn zs zs.length r) ∧ wr = w.alloc (.cells (tab zs.length (lay zs (r + 1) 0)) 3)) (fun _ n _ => 16 - (intOf n).toNat)
  case atStart => exact ⟨0, Nat.zero_le _, rfl, by show _ = Value.int .i64 (0 + cn zs zs.length 0); rw [show cn zs zs.length 0 = 0 from rfl]; rfl, by rw [HL1.out]⟩
  case round =>
    obtain ⟨r, hr, rfl, rfl, rfl⟩ := hrel
    clear hmk
    by_cases hr15 : r < 15
    · have h15 : decide ((r : Int) + 1 ≤ 15) = true := by simp; omega
      have HN2 : Hid _ := nx_two zs r
      have b0 := nx_small zs hl r (by omega)
      have b1 := nx_small zs hl (r + 1) (by omega)
      have b2 := cn_bd zs zs.length r
      have hw1 := IntWalk.i64_in ((nx zs r + cn zs zs.length r) * 2) (by omega)
      have hz2 : (nx zs r + cn zs zs.length r) * 2 = nx zs (r + 1) := rfl
      rw [hz2] at hw1
      generalize nx zs r + cn zs zs.length r = C at *
      go_wp2
      go_loopw [4, 19] (fun c ix wr => ∃ i : Nat, i ≤ zs.length ∧ ix = .int .i64 i ∧ c = .int .i64 (nx zs (r + 1) + cn zs i (r + 1)) ∧ wr = w.alloc (.cells (tab zs.length (lay zs (r + 1) i)) 3)) (fun _ ix _ => zs.length - (intOf ix).toNat)
      case atStart => exact ⟨0, Nat.zero_le _, rfl, by rw [cn_zero]; simp, rfl⟩
      case round =>
        obtain ⟨i, hi, rfl, rfl, rfl⟩ := hrel
        by_cases hlt : i < zs.length
        · have c0 := HC.out i hlt
          have b3 := cn_bd zs i (r + 1)
          have hg := tab_get zs.length (lay zs (r + 1) i) i hlt
          have HS : Hid _ := cn_succ zs i (r + 1) hlt
          by_cases he : zs.getD i 0 = ((r + 1 : Nat) : Int)
          · have HY : Hid _ := lay_yes zs (r + 1) i hlt (by omega) he
            have hq : (zs.getD i 0 == (r : Int) + 1) = true := by rw [he]; simp
            have HS2 : Hid (cn zs (i + 1) (r + 1) = cn zs i (r + 1) + 1) := by
              show _ = _; rw [HS.out, if_pos ⟨by omega, he⟩]
            clear he HS
            generalize zs.getD i 0 = x at *
            generalize lay zs (r + 1) i i = y at *
            generalize tab zs.length (lay zs (r + 1) i) = T at *
            generalize cn zs i (r + 1) = D at *
            generalize nx zs (r + 1) = X at *
            go_wp2
            go_roundw
            case rel => exact ⟨i + 1, by omega, by go_num, by rw [HS2.out, ← Int.add_assoc], by rw [← HY.out]⟩
            case measure => simp [intOf]; omega
          · have HY : Hid _ := lay_no zs (r + 1) i he
            have hq : (zs.getD i 0 == (r : Int) + 1) = false := by rw [beq_eq_false_iff_ne]; omega
            have HS2 : Hid (cn zs (i + 1) (r + 1) = cn zs i (r + 1)) := by
              show _ = _; rw [HS.out, if_neg (fun h => he h.2)]; simp
            clear he HS
            generalize zs.getD i 0 = x at *
            generalize lay zs (r + 1) i i = y at *
            generalize tab zs.length (lay zs (r + 1) i) = T at *
            generalize cn zs i (r + 1) = D at *
            generalize nx zs (r + 1) = X at *
            go_wp2
            go_roundw
            case rel => exact ⟨i + 1, by omega, by go_num, by rw [HS2.out], by rw [HY.out]⟩
            case measure => simp [intOf]; omega
        · have e : i = zs.length := by omega
          subst e
          have HY : Hid _ := lay_next zs (r + 1)
          generalize hT : tab zs.length (lay zs (r + 1) zs.length) = T at *
          have HT : Hid _ := hT
          clear hT
          go_wp2
          go_roundw
          case rel => exact ⟨r + 1, by omega, by go_num, rfl, by rw [← HY.out]⟩
          case measure => simp [intOf]; omega
    · have e : r = 15 := by omega
      subst e
      rw [HLZ.out]
      generalize nx zs 15 + cn zs zs.length 15 = C at *
      go_wp2
      go_ret
      exact ⟨rfl, rfl⟩
end Go.Proofs.YteehoihkbcbbgaaDoor
