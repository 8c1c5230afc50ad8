/-
  What the program's helpers over lengths answer: goodLengths, countLengths, completeCounts; and the laws' helpers over lists of numbers; each theorem names its conditions.
  What countLengths and completeCounts answer for lengths in 0..15; each theorem names its conditions.
  What the specification's l2Full, l2Codes and CodesOf answer; each theorem names its conditions.
  What the specification's l2Codes and CodesOf answer; each theorem names its conditions.
-/
import Derived.Test.YtaeicgfebeliiaaGreatDoorJAB
namespace Go.Proofs.YtaeicgfebeliiaaGreatDoor
open Go.ChangeShapes Go.WideShapes Go.ChangeAt Go.RowKit
set_option linter.unusedVariables false

set_option maxHeartbeats 1000000 in
theorem good_any (w : World) (b off cap : Nat) (zs : List Int) (hl : zs.length ≤ 1048576) (hc : ∀ i, i < zs.length → w.cell? ⟨b, off + i, none⟩ = some (.int .i64 (zs.getD i 0))) :
    Calls Tryz.prog 94 #[.slice (some ⟨b, off, none⟩) zs.length cap] w fun e w' => e = .returned (.bool (fit zs)) ∧ w' = w := by
  by_cases h3 : zs.length ≤ 300
  · have d1 : decide ((300 : Int) < (zs.length : Int)) = false := by simp; omega
    have HC : Hid _ := hc
    clear hc
    go_enter Tryz.func94, Tryz.ntmps94
    go_wp2
    go_loop [10] (fun i => ∃ k : Nat, k ≤ zs.length ∧ i = .int .i64 k ∧ ∀ j, j < k → 0 ≤ zs.getD j 0 ∧ zs.getD j 0 ≤ 15) (fun i => zs.length - (intOf i).toNat)
    case atStart => exact ⟨0, Nat.zero_le _, rfl, fun j hj => absurd hj (by omega)⟩
    case round =>
      obtain ⟨k, hk, rfl, hall⟩ := hrel
      have HA : Hid _ := hall
      clear hall
      by_cases hlt : k < zs.length
      · have c0 := HC.out k hlt
        by_cases h0 : 0 ≤ zs.getD k 0
        · by_cases h15 : zs.getD k 0 ≤ 15
          · have HN : Hid (∀ j, j < k + 1 → 0 ≤ zs.getD j 0 ∧ zs.getD j 0 ≤ 15) := by
              intro j hj
              by_cases e : j = k
              · subst e; exact ⟨h0, h15⟩
              · exact HA.out j (by omega)
            have e1 : decide (zs.getD k 0 < 0) = false := decide_eq_false (by omega)
            have e2 : decide (15 < zs.getD k 0) = false := decide_eq_false (by omega)
            generalize zs.getD k 0 = x at *
            go_wp2
            go_round
            case rel => exact ⟨k + 1, by omega, by go_num, HN.out⟩
            case measure => simp [intOf]; omega
          · have HF : Hid (fit zs = false) := fit_no h3 k hlt (by omega)
            have e1 : decide (zs.getD k 0 < 0) = false := decide_eq_false (by omega)
            have e2 : decide (15 < zs.getD k 0) = true := decide_eq_true (by omega)
            generalize zs.getD k 0 = x at *
            go_wp2
            go_ret
            exact ⟨by rw [HF.out]; rfl, rfl⟩
        · have HF : Hid (fit zs = false) := fit_no h3 k hlt (by omega)
          have e1 : decide (zs.getD k 0 < 0) = true := decide_eq_true (by omega)
          generalize zs.getD k 0 = x at *
          go_wp2
          go_ret
          exact ⟨by rw [HF.out]; rfl, rfl⟩
      · have HF : Hid (fit zs = true) := by
          show fit zs = true
          simp [fit]
          refine ⟨h3, fun x hx => ?_⟩
          obtain ⟨j, hj, rfl⟩ := List.getElem_of_mem hx
          have := HA.out j (by omega)
          simpa [hj] using this
        go_wp2
        go_ret
        exact ⟨by rw [HF.out]; rfl, rfl⟩
  · have d1 : decide ((300 : Int) < (zs.length : Int)) = true := by simp; omega
    have HF : Hid (fit zs = false) := by show fit zs = false; simp [fit]; intro h; omega
    clear hc
    go_enter Tryz.func94, Tryz.ntmps94
    go_wp2
    go_ret
    exact ⟨by rw [HF.out]; rfl, rfl⟩
end Go.Proofs.YtaeicgfebeliiaaGreatDoor
namespace Go.Proofs.YtaeicgfebeliiaaGreatDoor
open Go.ChangeShapes Go.WideShapes Go.ChangeAt Go.RowKit
set_option linter.unusedVariables false

theorem cn_next (xs : List Int) (k : Nat) (hk : k < xs.length) (l : Nat) (hl : xs.getD k 0 = (l : Int)) (h0 : l ≠ 0) (h16 : l < 16) :
    (tab 16 (cn xs k)).setIfInBounds l (.int .i64 (cn xs k l + 1)) = tab 16 (cn xs (k + 1)) := by
  apply tab_set 16 _ _ l _ h16
  · intro j hj hne
    rw [cn_succ xs k j hk, if_neg (by rw [hl]; omega)]; simp
  · rw [cn_succ xs k l hk, if_pos ⟨h0, hl⟩]
theorem cn_same (xs : List Int) (k : Nat) (hk : k < xs.length) (hl : ¬ 0 < xs.getD k 0) : tab 16 (cn xs (k + 1)) = tab 16 (cn xs k) := by
  apply tab_congr
  intro j hj
  rw [cn_succ xs k j hk, if_neg (by omega)]; simp

set_option maxHeartbeats 1000000 in
theorem count_any (w : World) (b off cap : Nat) (zs : List Int) (hf : fit zs = true) (hb : b < w.heap.size) (hc : ∀ i, i < zs.length → w.cell? ⟨b, off + i, none⟩ = some (.int .i64 (zs.getD i 0))) :
    Calls Tryz.prog 95 #[.slice (some ⟨b, off, none⟩) zs.length cap] w fun e w' => e = .returned (.agg (tab 16 (cn zs zs.length))) ∧ Kp w w' := by
  have hl := fit_len hf
  have HF : Hid _ := hf
  have HC : Hid _ := hc
  clear hc hf
  have hz : tab 16 (cn zs 0) = #[.int .i64 0, .int .i64 0, .int .i64 0, .int .i64 0, .int .i64 0, .int .i64 0, .int .i64 0, .int .i64 0, .int .i64 0, .int .i64 0, .int .i64 0, .int .i64 0, .int .i64 0, .int .i64 0, .int .i64 0, .int .i64 0] := by
    rw [tab_congr 16 _ (fun _ => 0) (fun j _ => cn_zero zs j)]; rfl
  have HZ : Hid _ := hz
  clear hz
  go_enter Tryz.func95, Tryz.ntmps95
  go_wp2
  go_loopw [8] (fun i wr => ∃ k : Nat, k ≤ zs.length ∧ i = .int .i64 k ∧ wr = (w.alloc (.cells #[.int .i64 0, .int .i64 0, .int .i64 0, .int .i64 0, .int .i64 0, .int .i64 0, .int .i64 0, .int .i64 0, .int .i64 0, .int .i64 0, .int .i64 0, .int .i64 0, .int .i64 0, .int .i64 0, .int .i64 0, .int .i64 0] 108)).alloc (.cells (tab 16 (cn zs k)) 108)) (fun i _ => zs.length - (intOf i).toNat)
  case atStart => exact ⟨0, Nat.zero_le _, rfl, by rw [HZ.out]⟩
  case round =>
    obtain ⟨k, hk, rfl, rfl⟩ := hrel
    by_cases hlt : k < zs.length
    · have c0 := HC.out k hlt
      have bd := fit_at HF.out k
      by_cases hpos : 0 < zs.getD k 0
      · obtain ⟨l, hl0⟩ := Int.eq_ofNat_of_zero_le bd.1
        have HN : Hid _ := cn_next zs k hlt l hl0 (by omega) (by omega)
        rw [hl0] at c0 bd hpos
        clear hl0
        have hg := tab_get 16 (cn zs k) l (by omega)
        have hb1 := cn_bd zs k l
        have l16 : (l : Int) < 16 := by omega
        have l16' : l < 16 := by omega
        generalize tab 16 (cn zs k) = T at *
        generalize cn zs k l = c at *
        go_wp2
        go_roundw
        case rel => exact ⟨k + 1, by omega, by go_num, by rw [← HN.out]⟩
        case measure => simp [intOf]; omega
      · have HN : Hid _ := cn_same zs k hlt hpos
        have e1 : decide (0 < zs.getD k 0) = false := decide_eq_false hpos
        generalize zs.getD k 0 = x at *
        go_wp2
        go_roundw
        case rel => exact ⟨k + 1, by omega, by go_num, by rw [HN.out]⟩
        case measure => simp [intOf]; omega
    · have e : k = zs.length := by omega
      subst e
      rw [tab16]
      go_wp2
      refine bodyPost_ret (v := .agg (tab 16 (cn zs zs.length))) (by rw [tab16]; simp [results, Tryz.results95, go_sem]) rfl ⟨rfl, ((Kp.refl _).alloc _ _).alloc _ _⟩

theorem ix16 (T : Array Value) (k : Nat) (c : Int) (h : k < 16) (c0 : T[k]? = some (.int .i64 c)) (W : World) : (Instr.index 108 (.agg T) (.int .i64 (k : Int))).run Tryz.prog W = .ok (.int .i64 c) W := by
  have h2 : (0 : Int) ≤ (k : Int) ∧ (k : Int) < 16 := by omega
  simp [Instr.index, run_underlying Tryz.underlying108, asIntOf, h2, h, c0, go_sem]

set_option maxHeartbeats 1000000 in
theorem complete_any (w : World) (zs : List Int) (n : Nat) (hn : n ≤ 300) :
    Calls Tryz.prog 96 #[.agg (tab 16 (cn zs n))] w fun e w' => e = .returned (.bool (decide (ks zs n 16 = 32768))) ∧ Kp w w' := by
  have hg := tab_get 16 (cn zs n)
  have hsz := tab_size 16 (cn zs n)
  have HG : Hid _ := hg
  clear hg
  have hx := tab16 (cn zs n)
  go_enter Tryz.func96, Tryz.ntmps96
  go_wp2
  rw [← tab16]
  clear hx
  go_loop [3, 7] (fun s i => ∃ k : Nat, k ≤ 16 ∧ i = .int .i64 k ∧ s = .int .i64 (ks zs n k)) (fun _ i => 16 - (intOf i).toNat)
  case atStart => exact ⟨0, Nat.zero_le _, rfl, rfl⟩
  case round =>
    obtain ⟨k, hk, rfl, rfl⟩ := hrel
    by_cases hlt : k < 16
    · have c0 := HG.out k hlt
      have hlt' : (k : Int) < 16 := by omega
      have b1 := cn_bd zs n k
      have b2 := ks_bd zs n k hn
      have hz : ((15 : Int) - (k : Int)) = ((15 - k : Nat) : Int) := by omega
      have hp := pow_bd (15 - k) (by omega)
      have m1 := Int.mul_nonneg b1.1 (show (0 : Int) ≤ 2 ^ (15 - k) by omega)
      have m2 := Int.mul_le_mul (show cn zs n k ≤ 300 by omega) hp.2 (by omega) (by omega)
      have HN : Hid (ks zs n (k + 1) = ks zs n k + cn zs n k * 2 ^ (15 - k)) := rfl
      generalize tab 16 (cn zs n) = T at *
      generalize cn zs n k = c at *
      generalize ks zs n k = S at *
      have hix := ix16 T k c hlt c0
      have hw1 := IntWalk.i64_in (c * 2 ^ (15 - k)) (by omega)
      generalize hE : c * 2 ^ (15 - k) = E at *
      go_wp2
      go_round
      case rel => exact ⟨k + 1, by omega, by go_num, by rw [HN.out]⟩
      case measure => simp [intOf]; omega
    · have e : k = 16 := by omega
      subst e
      go_wp2
      go_ret
      exact ⟨rfl, (Kp.refl _).alloc _ _⟩
end Go.Proofs.YtaeicgfebeliiaaGreatDoor
namespace Go.Proofs.YtaeicgfebeliiaaGreatDoor
open Go.ChangeShapes Go.WideShapes Go.ChangeAt Go.RowKit
set_option linter.unusedVariables false

/-- What has been laid when the length n is at the place i. -/
def lay (xs : List Int) (n i j : Nat) : Int := if 0 < xs.getD j 0 ∧ (xs.getD j 0 < n ∨ (xs.getD j 0 = n ∧ j < i)) then cd xs j else 0
theorem lay_yes (xs : List Int) (n i : Nat) (hi : i < xs.length) (hn : 0 < n) (h : xs.getD i 0 = (n : Int)) :
    (tab xs.length (lay xs n i)).setIfInBounds i (.int .i64 (nx xs n + cn xs i n)) = tab xs.length (lay xs n (i + 1)) := by
  apply tab_set _ _ _ i _ hi
  · intro j hj hne
    unfold lay
    by_cases hd : 0 < xs.getD j 0 ∧ (xs.getD j 0 < n ∨ (xs.getD j 0 = n ∧ j < i))
    · rw [if_pos hd, if_pos (by omega)]
    · rw [if_neg hd, if_neg (by omega)]
  · unfold lay
    rw [if_pos (by omega)]
    unfold cd
    rw [if_pos (by omega), h]; simp
theorem lay_no (xs : List Int) (n i : Nat) (h : xs.getD i 0 ≠ (n : Int)) : tab xs.length (lay xs n (i + 1)) = tab xs.length (lay xs n i) := by
  apply tab_congr
  intro j hj
  unfold lay
  by_cases e : j = i
  · subst e
    by_cases hd : 0 < xs.getD j 0 ∧ (xs.getD j 0 < n ∨ (xs.getD j 0 = n ∧ j < j))
    · rw [if_pos hd, if_pos (by omega)]
    · rw [if_neg hd, if_neg (by omega)]
  · by_cases hd : 0 < xs.getD j 0 ∧ (xs.getD j 0 < n ∨ (xs.getD j 0 = n ∧ j < i))
    · rw [if_pos hd, if_pos (by omega)]
    · rw [if_neg hd, if_neg (by omega)]
theorem lay_next (xs : List Int) (n : Nat) : tab xs.length (lay xs (n + 1) 0) = tab xs.length (lay xs n xs.length) := by
  apply tab_congr
  intro j hj
  unfold lay
  by_cases hd : 0 < xs.getD j 0 ∧ (xs.getD j 0 < n ∨ (xs.getD j 0 = n ∧ j < xs.length))
  · rw [if_pos hd, if_pos (by omega)]
  · rw [if_neg hd, if_neg (by omega)]
theorem lay_first (xs : List Int) : tab xs.length (lay xs 1 0) = tab xs.length (fun _ => 0) := by
  apply tab_congr
  intro j hj
  unfold lay
  rw [if_neg (by omega)]
theorem lay_last (xs : List Int) (hf : fit xs = true) : tab xs.length (lay xs 16 0) = cellsOf .i64 (codesL xs) := by
  rw [← codesL_cells]
  apply tab_congr
  intro j hj
  have := fit_at hf j
  unfold lay
  by_cases h : 0 < xs.getD j 0
  · rw [if_pos (by omega)]
  · rw [if_neg (by omega)]; unfold cd; rw [if_neg h]
end Go.Proofs.YtaeicgfebeliiaaGreatDoor
namespace Go.Proofs.YtaeicgfebeliiaaGreatDoor
open Go.ChangeShapes Go.WideShapes Go.ChangeAt Go.RowKit
set_option linter.unusedVariables false

theorem nx_two (xs : List Int) (r : Nat) : (nx xs r + cn xs xs.length r) * 2 = nx xs (r + 1) := rfl
theorem nx_small (xs : List Int) (h : xs.length ≤ 300) (l : Nat) (hl : l ≤ 15) : 0 ≤ nx xs l ∧ nx xs l ≤ 19660800 := by
  have a := nx_bd xs h l hl
  have b := pow_bd l hl
  omega

set_option maxHeartbeats 2000000 in
theorem scodes_any (w : World) (b off cap : Nat) (zs : List Int) (hf : fit zs = true) (hb : b < w.heap.size) (hc : ∀ i, i < zs.length → w.cell? ⟨b, off + i, none⟩ = some (.int .i64 (zs.getD i 0))) :
    Calls Tryz.prog 100 #[.slice (some ⟨b, off, none⟩) zs.length cap] w fun e w' => e = .returned (.slice (some ⟨w.heap.size, 0, none⟩) zs.length zs.length) ∧ w' = w.alloc (.cells (cellsOf .i64 (codesL zs)) 3) := by
  have hl := fit_len hf
  have HF : Hid _ := hf
  have HC : Hid _ := hc
  clear hc hf
  have hmk := run_make_row' (P := Tryz.prog) 54 3 (.int .i64 0) 8 Tryz.underlying54 Tryz.info3 rfl .i64 .i64 zs.length (by omega) (by omega)
  rw [tab_zero] at hmk
  have HL1 : Hid _ := lay_first zs
  have HLZ : Hid _ := lay_last zs HF.out
  go_enter Tryz.func100, Tryz.ntmps100
  go_wp2
  go_loopw [4, 5] (fun c n wr => ∃ r : Nat, r ≤ 15 ∧ n = .int .i64 ((r : Int) + 1) ∧ c = .int .i64 (nx zs r + cn zs zs.length r) ∧ wr = w.alloc (.cells (tab zs.length (lay zs (r + 1) 0)) 3)) (fun _ n _ => 16 - (intOf n).toNat)
  case atStart => exact ⟨0, Nat.zero_le _, rfl, by show _ = Value.int .i64 (0 + cn zs zs.length 0); rw [show cn zs zs.length 0 = 0 from rfl]; rfl, by rw [HL1.out]⟩
  case round =>
    obtain ⟨r, hr, rfl, rfl, rfl⟩ := hrel
    clear hmk
    by_cases hr15 : r < 15
    · have h15 : decide ((r : Int) + 1 ≤ 15) = true := by simp; omega
      have HN2 : Hid _ := nx_two zs r
      have b0 := nx_small zs hl r (by omega)
      have b1 := nx_small zs hl (r + 1) (by omega)
      have b2 := cn_bd zs zs.length r
      have hw1 := IntWalk.i64_in ((nx zs r + cn zs zs.length r) * 2) (by omega)
      have hz2 : (nx zs r + cn zs zs.length r) * 2 = nx zs (r + 1) := rfl
      rw [hz2] at hw1
      generalize nx zs r + cn zs zs.length r = C at *
      go_wp2
      go_loopw [4, 19] (fun c ix wr => ∃ i : Nat, i ≤ zs.length ∧ ix = .int .i64 i ∧ c = .int .i64 (nx zs (r + 1) + cn zs i (r + 1)) ∧ wr = w.alloc (.cells (tab zs.length (lay zs (r + 1) i)) 3)) (fun _ ix _ => zs.length - (intOf ix).toNat)
      case atStart => exact ⟨0, Nat.zero_le _, rfl, by rw [cn_zero]; simp, rfl⟩
      case round =>
        obtain ⟨i, hi, rfl, rfl, rfl⟩ := hrel
        by_cases hlt : i < zs.length
        · have c0 := HC.out i hlt
          have b3 := cn_bd zs i (r + 1)
          have hg := tab_get zs.length (lay zs (r + 1) i) i hlt
          have HS : Hid _ := cn_succ zs i (r + 1) hlt
          by_cases he : zs.getD i 0 = ((r + 1 : Nat) : Int)
          · have HY : Hid _ := lay_yes zs (r + 1) i hlt (by omega) he
            have hq : (zs.getD i 0 == (r : Int) + 1) = true := by rw [he]; simp
            have HS2 : Hid (cn zs (i + 1) (r + 1) = cn zs i (r + 1) + 1) := by
              show _ = _; rw [HS.out, if_pos ⟨by omega, he⟩]
            clear he HS
            generalize zs.getD i 0 = x at *
            generalize lay zs (r + 1) i i = y at *
            generalize tab zs.length (lay zs (r + 1) i) = T at *
            generalize cn zs i (r + 1) = D at *
            generalize nx zs (r + 1) = X at *
            go_wp2
            go_roundw
            case rel => exact ⟨i + 1, by omega, by go_num, by rw [HS2.out, ← Int.add_assoc], by rw [← HY.out]⟩
            case measure => simp [intOf]; omega
          · have HY : Hid _ := lay_no zs (r + 1) i he
            have hq : (zs.getD i 0 == (r : Int) + 1) = false := by rw [beq_eq_false_iff_ne]; omega
            have HS2 : Hid (cn zs (i + 1) (r + 1) = cn zs i (r + 1)) := by
              show _ = _; rw [HS.out, if_neg (fun h => he h.2)]; simp
            clear he HS
            generalize zs.getD i 0 = x at *
            generalize lay zs (r + 1) i i = y at *
            generalize tab zs.length (lay zs (r + 1) i) = T at *
            generalize cn zs i (r + 1) = D at *
            generalize nx zs (r + 1) = X at *
            go_wp2
            go_roundw
            case rel => exact ⟨i + 1, by omega, by go_num, by rw [HS2.out], by rw [HY.out]⟩
            case measure => simp [intOf]; omega
        · have e : i = zs.length := by omega
          subst e
          have HY : Hid _ := lay_next zs (r + 1)
          generalize hT : tab zs.length (lay zs (r + 1) zs.length) = T at *
          have HT : Hid _ := hT
          clear hT
          go_wp2
          go_roundw
          case rel => exact ⟨r + 1, by omega, by go_num, rfl, by rw [← HY.out]⟩
          case measure => simp [intOf]; omega
    · have e : r = 15 := by omega
      subst e
      rw [HLZ.out]
      generalize nx zs 15 + cn zs zs.length 15 = C at *
      go_wp2
      go_ret
      exact ⟨rfl, rfl⟩
end Go.Proofs.YtaeicgfebeliiaaGreatDoor
