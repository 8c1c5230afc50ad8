/-
  What the specification's l2Full, l2Codes and CodesOf answer; each theorem names its conditions.
-/
import Derived.Test.YtakdmgnkcpahbaaCodes2
namespace Go.Proofs.Ytakdmgnkcpahbaa
open Go.ChangeShapes Go.WideShapes Go.ChangeAt Go.RowKit
set_option linter.unusedVariables false

set_option maxHeartbeats 1000000 in
theorem full_any (w : World) (b off cap : Nat) (zs : List Int) (hf : fit zs = true) (hc : ∀ i, i < zs.length → w.cell? ⟨b, off + i, none⟩ = some (.int .i64 (zs.getD i 0))) :
    Calls Try.prog 27 #[.slice (some ⟨b, off, none⟩) zs.length cap] w fun e w' => e = .returned (.bool (full zs)) ∧ w' = w := by
  have hl := fit_len hf
  have HF : Hid _ := hf
  have HC : Hid _ := hc
  clear hc hf
  go_enter Try.func27, Try.ntmps27
  go_wp2
  go_loop [3, 8] (fun s i => ∃ k : Nat, k ≤ zs.length ∧ i = .int .i64 k ∧ s = .int .i64 (kr zs k)) (fun _ i => zs.length - (intOf i).toNat)
  case atStart => exact ⟨0, Nat.zero_le _, rfl, rfl⟩
  case round =>
    obtain ⟨k, hk, rfl, rfl⟩ := hrel
    by_cases hlt : k < zs.length
    · have c0 := HC.out k hlt
      have bd := fit_at HF.out k
      have kb := kr_bd zs k
      by_cases hpos : 0 < zs.getD k 0
      · have HN : Hid (kr zs (k + 1) = kr zs k + 2 ^ (15 - (zs.getD k 0).toNat)) := by
          show kr zs k + _ = _; rw [if_pos hpos]
        obtain ⟨l, hl0⟩ := Int.eq_ofNat_of_zero_le bd.1
        rw [hl0] at c0 bd hpos HN
        rw [show ((l : Int)).toNat = l by omega] at HN
        clear hl0
        have hz : ((15 : Int) - (l : Int)) = ((15 - l : Nat) : Int) := by omega
        have hz2 : ((15 - l : Nat) : Int) ≤ 15 := by omega
        have hp := pow_bd (15 - l) (by omega)
        generalize kr zs k = S at *
        generalize 15 - l = m at *
        generalize hE : (2 : Int) ^ m = E at *
        have hw1 := IntWalk.i64_in E (by omega)
        go_wp2
        go_round
        case rel => exact ⟨k + 1, by omega, by go_num, by rw [HN.out]⟩
        case measure => simp [intOf]; omega
      · have e1 : decide (0 < zs.getD k 0) = false := decide_eq_false hpos
        have HN : Hid (kr zs (k + 1) = kr zs k) := by
          show kr zs k + _ = _; rw [if_neg hpos]; simp
        generalize zs.getD k 0 = x at *
        generalize kr zs k = S at *
        go_wp2
        go_round
        case rel => exact ⟨k + 1, by omega, by go_num, by rw [HN.out]⟩
        case measure => simp [intOf]; omega
    · have e : k = zs.length := by omega
      subst e
      have HV : Hid (full zs = decide (kr zs zs.length = 32768)) := rfl
      generalize kr zs zs.length = S at *
      go_wp2
      go_ret
      exact ⟨by rw [HV.out]; simp [BEq.beq], rfl⟩

/-- What has been laid when the length n is at the place i. -/
def lay (xs : List Int) (n i j : Nat) : Int := if 0 < xs.getD j 0 ∧ (xs.getD j 0 < n ∨ (xs.getD j 0 = n ∧ j < i)) then cd xs j else 0
theorem lay_yes (xs : List Int) (n i : Nat) (hi : i < xs.length) (hn : 0 < n) (h : xs.getD i 0 = (n : Int)) :
    (tab xs.length (lay xs n i)).setIfInBounds i (.int .i64 (nx xs n + cn xs i n)) = tab xs.length (lay xs n (i + 1)) := by
  apply tab_set _ _ _ i _ hi
  · intro j hj hne
    unfold lay
    by_cases hd : 0 < xs.getD j 0 ∧ (xs.getD j 0 < n ∨ (xs.getD j 0 = n ∧ j < i))
    · rw [if_pos hd, if_pos (by omega)]
    · rw [if_neg hd, if_neg (by omega)]
  · unfold lay
    rw [if_pos (by omega)]
    unfold cd
    rw [if_pos (by omega), h]; simp
theorem lay_no (xs : List Int) (n i : Nat) (h : xs.getD i 0 ≠ (n : Int)) : tab xs.length (lay xs n (i + 1)) = tab xs.length (lay xs n i) := by
  apply tab_congr
  intro j hj
  unfold lay
  by_cases e : j = i
  · subst e
    by_cases hd : 0 < xs.getD j 0 ∧ (xs.getD j 0 < n ∨ (xs.getD j 0 = n ∧ j < j))
    · rw [if_pos hd, if_pos (by omega)]
    · rw [if_neg hd, if_neg (by omega)]
  · by_cases hd : 0 < xs.getD j 0 ∧ (xs.getD j 0 < n ∨ (xs.getD j 0 = n ∧ j < i))
    · rw [if_pos hd, if_pos (by omega)]
    · rw [if_neg hd, if_neg (by omega)]
theorem lay_next (xs : List Int) (n : Nat) : tab xs.length (lay xs (n + 1) 0) = tab xs.length (lay xs n xs.length) := by
  apply tab_congr
  intro j hj
  unfold lay
  by_cases hd : 0 < xs.getD j 0 ∧ (xs.getD j 0 < n ∨ (xs.getD j 0 = n ∧ j < xs.length))
  · rw [if_pos hd, if_pos (by omega)]
  · rw [if_neg hd, if_neg (by omega)]
theorem lay_first (xs : List Int) : tab xs.length (lay xs 1 0) = tab xs.length (fun _ => 0) := by
  apply tab_congr
  intro j hj
  unfold lay
  rw [if_neg (by omega)]
theorem lay_last (xs : List Int) (hf : fit xs = true) : tab xs.length (lay xs 16 0) = cellsOf .i64 (codesL xs) := by
  rw [← codesL_cells]
  apply tab_congr
  intro j hj
  have := fit_at hf j
  unfold lay
  by_cases h : 0 < xs.getD j 0
  · rw [if_pos (by omega)]
  · rw [if_neg (by omega)]; unfold cd; rw [if_neg h]
end Go.Proofs.Ytakdmgnkcpahbaa
