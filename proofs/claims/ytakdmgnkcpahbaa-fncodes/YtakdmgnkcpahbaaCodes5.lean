/-
  What the specification's CodesOf and the program's CodesOf answer; each theorem names its conditions.
-/
import Derived.Test.YtakdmgnkcpahbaaCodes4
namespace Go.Proofs.Ytakdmgnkcpahbaa
open Go.ChangeShapes Go.WideShapes Go.ChangeAt Go.RowKit
set_option linter.unusedVariables false

set_option maxHeartbeats 400000 in
theorem in_any (n : Int) (w : World) : Calls Try.prog 26 #[.int .i64 n, .int .i64 0, .int .i64 15] w fun e w' => e = .returned (.bool (decide (0 ≤ n) && decide (n ≤ 15))) ∧ w' = w := by
  by_cases h : 0 ≤ n
  · have d : decide (0 ≤ n) = true := by simp [h]
    go_enter Try.func26, Try.ntmps26
    go_wp2
    go_ret
    exact ⟨by simp [h], rfl⟩
  · have d : decide (0 ≤ n) = false := by simp [h]
    have D : Hid _ := d
    clear h
    go_enter Try.func26, Try.ntmps26
    go_wp2
    go_ret
    exact ⟨by rw [D.out]; rfl, rfl⟩

/-- A new list at the block B. -/
def New (w w' : World) (B : Nat) (cs : List Int) : Prop :=
  Kp w w' ∧ w.heap.size ≤ B ∧ B < w'.heap.size ∧ ∀ i, i < cs.length → w'.cell? ⟨B, 0 + i, none⟩ = some (.int .i64 (cs.getD i 0))
theorem row_cells (k : IntKind) (w : World) (zs : List Int) (t : TypeId) : ∀ i, i < zs.length → (w.alloc (.cells (cellsOf k zs) t)).cell? ⟨w.heap.size, 0 + i, none⟩ = some (.int k (zs.getD i 0)) := by
  intro i hi
  have := cellsOf_get k zs i hi
  simp [this]

set_option maxHeartbeats 1000000 in
theorem scodesOf_yes (w : World) (b off cap : Nat) (zs : List Int) (hl : zs.length ≤ 1048576) (hb : b < w.heap.size) (hc : ∀ i, i < zs.length → w.cell? ⟨b, off + i, none⟩ = some (.int .i64 (zs.getD i 0))) (hf : fit zs = true) (hfu : full zs = true) :
    Calls Try.prog 9 #[.slice (some ⟨b, off, none⟩) zs.length cap] w fun e w' => e = .returned (.tuple #[.slice (some ⟨w.heap.size, 0, none⟩) zs.length zs.length, .bool true]) ∧ w' = w.alloc (.cells (cellsOf .i64 (codesL zs)) 3) := by
  have h300 := fit_len hf
  have d1 : decide ((300 : Int) < (zs.length : Int)) = false := by simp; omega
  have HU : Hid (∀ W, W = w → Calls Try.prog 27 #[.slice (some ⟨b, off, none⟩) zs.length cap] W fun e w' => e = .returned (.bool true) ∧ w' = W) := by
    intro W hW; subst hW; rw [← hfu]; exact full_any W b off cap zs hf hc
  have HO : Hid (∀ W, W = w → Calls Try.prog 28 #[.slice (some ⟨b, off, none⟩) zs.length cap] W fun e w' => e = .returned (.slice (some ⟨w.heap.size, 0, none⟩) zs.length zs.length) ∧ w' = w.alloc (.cells (cellsOf .i64 (codesL zs)) 3)) := by
    intro W hW; subst hW; exact scodes_any W b off cap zs hf hb hc
  have HIN : Hid (∀ (k : Nat) W, Calls Try.prog 26 #[.int .i64 (zs.getD k 0), .int .i64 0, .int .i64 15] W fun e w' => e = .returned (.bool true) ∧ w' = W) := by
    intro k W
    have b := fit_at hf k
    have := in_any (zs.getD k 0) W
    rw [decide_eq_true b.1, decide_eq_true b.2] at this
    exact this
  have HC : Hid _ := hc
  clear hc hf hfu
  go_enter Try.func9, Try.ntmps9
  go_wp2
  go_loop [11] (fun i => ∃ k : Nat, k ≤ zs.length ∧ i = .int .i64 k) (fun i => zs.length - (intOf i).toNat)
  case atStart => exact ⟨0, Nat.zero_le _, rfl⟩
  case round =>
    obtain ⟨k, hk, rfl⟩ := hrel
    by_cases hlt : k < zs.length
    · have c0 := HC.out k hlt
      have HI := HIN.out k
      have HI' : Hid _ := HI
      clear HI
      generalize zs.getD k 0 = x at *
      go_wp2_with fail
      refine Calls.mono (HI'.out _) ?_
      rintro e w1 ⟨rfl, rfl⟩
      go_wp2
      go_round
      case rel => exact ⟨k + 1, by omega, by go_num⟩
      case measure => simp [intOf]; omega
    · go_wp2_with fail
      refine Calls.mono (HU.out _ rfl) ?_
      rintro e w1 ⟨rfl, rfl⟩
      go_wp2_with fail
      refine Calls.mono (HO.out _ rfl) ?_
      rintro e w1 ⟨rfl, rfl⟩
      go_wp2
      go_ret2
      exact ⟨rfl, rfl⟩

set_option maxHeartbeats 1000000 in
theorem scodesOf_half (w : World) (b off cap : Nat) (zs : List Int) (hl : zs.length ≤ 1048576) (hb : b < w.heap.size) (hc : ∀ i, i < zs.length → w.cell? ⟨b, off + i, none⟩ = some (.int .i64 (zs.getD i 0))) (hf : fit zs = true) (hfu : full zs = false) :
    Calls Try.prog 9 #[.slice (some ⟨b, off, none⟩) zs.length cap] w fun e w' => e = .returned (.tuple #[.slice none 0 0, .bool false]) ∧ Kp w w' := by
  have h300 := fit_len hf
  have d1 : decide ((300 : Int) < (zs.length : Int)) = false := by simp; omega
  have HU : Hid (∀ W, W = w → Calls Try.prog 27 #[.slice (some ⟨b, off, none⟩) zs.length cap] W fun e w' => e = .returned (.bool false) ∧ w' = W) := by
    intro W hW; subst hW; rw [← hfu]; exact full_any W b off cap zs hf hc
  have HO : Hid (∀ W, W = w → Calls Try.prog 28 #[.slice (some ⟨b, off, none⟩) zs.length cap] W fun e w' => e = .returned (.slice (some ⟨w.heap.size, 0, none⟩) zs.length zs.length) ∧ w' = w.alloc (.cells (cellsOf .i64 (codesL zs)) 3)) := by
    intro W hW; subst hW; exact scodes_any W b off cap zs hf hb hc
  have HIN : Hid (∀ (k : Nat) W, Calls Try.prog 26 #[.int .i64 (zs.getD k 0), .int .i64 0, .int .i64 15] W fun e w' => e = .returned (.bool true) ∧ w' = W) := by
    intro k W
    have b := fit_at hf k
    have := in_any (zs.getD k 0) W
    rw [decide_eq_true b.1, decide_eq_true b.2] at this
    exact this
  have HC : Hid _ := hc
  clear hc hf hfu
  go_enter Try.func9, Try.ntmps9
  go_wp2
  go_loop [11] (fun i => ∃ k : Nat, k ≤ zs.length ∧ i = .int .i64 k) (fun i => zs.length - (intOf i).toNat)
  case atStart => exact ⟨0, Nat.zero_le _, rfl⟩
  case round =>
    obtain ⟨k, hk, rfl⟩ := hrel
    by_cases hlt : k < zs.length
    · have c0 := HC.out k hlt
      have HI := HIN.out k
      have HI' : Hid _ := HI
      clear HI
      generalize zs.getD k 0 = x at *
      go_wp2_with fail
      refine Calls.mono (HI'.out _) ?_
      rintro e w1 ⟨rfl, rfl⟩
      go_wp2
      go_round
      case rel => exact ⟨k + 1, by omega, by go_num⟩
      case measure => simp [intOf]; omega
    · go_wp2_with fail
      refine Calls.mono (HU.out _ rfl) ?_
      rintro e w1 ⟨rfl, rfl⟩
      go_wp2
      go_ret2
      exact ⟨rfl, Kp.refl _⟩

set_option maxHeartbeats 1000000 in
theorem scodesOf_no (w : World) (b off cap : Nat) (zs : List Int) (hl : zs.length ≤ 1048576) (hb : b < w.heap.size) (hc : ∀ i, i < zs.length → w.cell? ⟨b, off + i, none⟩ = some (.int .i64 (zs.getD i 0))) (hf : fit zs = false) :
    Calls Try.prog 9 #[.slice (some ⟨b, off, none⟩) zs.length cap] w fun e w' => e = .returned (.tuple #[.slice none 0 0, .bool false]) ∧ Kp w w' := by
  by_cases h3 : zs.length ≤ 300
  · have d1 : decide ((300 : Int) < (zs.length : Int)) = false := by simp; omega
    have HC : Hid _ := hc
    have HF : Hid _ := hf
    clear hc hf
    go_enter Try.func9, Try.ntmps9
    go_wp2
    go_loop [11] (fun i => ∃ k : Nat, k ≤ zs.length ∧ i = .int .i64 k ∧ ∀ j, j < k → 0 ≤ zs.getD j 0 ∧ zs.getD j 0 ≤ 15) (fun i => zs.length - (intOf i).toNat)
    case atStart => exact ⟨0, Nat.zero_le _, rfl, fun j hj => absurd hj (by omega)⟩
    case round =>
      obtain ⟨k, hk, rfl, hall⟩ := hrel
      have HA : Hid _ := hall
      clear hall
      by_cases hlt : k < zs.length
      · have c0 := HC.out k hlt
        by_cases h15 : 0 ≤ zs.getD k 0 ∧ zs.getD k 0 ≤ 15
        · have HN : Hid (∀ j, j < k + 1 → 0 ≤ zs.getD j 0 ∧ zs.getD j 0 ≤ 15) := by
            intro j hj
            by_cases e : j = k
            · subst e; exact h15
            · exact HA.out j (by omega)
          have HI : Hid (∀ W, Calls Try.prog 26 #[.int .i64 (zs.getD k 0), .int .i64 0, .int .i64 15] W fun e w' => e = .returned (.bool true) ∧ w' = W) := by
            intro W
            have := in_any (zs.getD k 0) W
            rw [decide_eq_true h15.1, decide_eq_true h15.2] at this
            exact this
          clear h15
          generalize zs.getD k 0 = x at *
          go_wp2_with fail
          refine Calls.mono (HI.out _) ?_
          rintro e w1 ⟨rfl, rfl⟩
          go_wp2
          go_round
          case rel => exact ⟨k + 1, by omega, by go_num, HN.out⟩
          case measure => simp [intOf]; omega
        · have HI : Hid (∀ W, Calls Try.prog 26 #[.int .i64 (zs.getD k 0), .int .i64 0, .int .i64 15] W fun e w' => e = .returned (.bool false) ∧ w' = W) := by
            intro W
            have := in_any (zs.getD k 0) W
            have e : (decide (0 ≤ zs.getD k 0) && decide (zs.getD k 0 ≤ 15)) = false := by
              rw [Bool.and_eq_false_iff, decide_eq_false_iff_not, decide_eq_false_iff_not]; omega
            rw [e] at this
            exact this
          clear h15
          generalize zs.getD k 0 = x at *
          go_wp2_with fail
          refine Calls.mono (HI.out _) ?_
          rintro e w1 ⟨rfl, rfl⟩
          go_wp2
          go_ret2
          exact ⟨rfl, Kp.refl _⟩
      · exfalso
        have ht : fit zs = true := by
          simp [fit]
          refine ⟨h3, fun x hx => ?_⟩
          obtain ⟨j, hj, rfl⟩ := List.getElem_of_mem hx
          have := HA.out j (by omega)
          simpa [hj] using this
        rw [HF.out] at ht
        cases ht
  · have d1 : decide ((300 : Int) < (zs.length : Int)) = true := by simp; omega
    clear hc hf
    go_enter Try.func9, Try.ntmps9
    go_wp2
    go_ret2
    exact ⟨rfl, Kp.refl _⟩

set_option maxHeartbeats 1000000 in
theorem icodesOf_no (w : World) (b off cap : Nat) (zs : List Int) (hl : zs.length ≤ 1048576) (hc : ∀ i, i < zs.length → w.cell? ⟨b, off + i, none⟩ = some (.int .i64 (zs.getD i 0))) (hf : fit zs = false) :
    Calls Try.prog 8 #[.slice (some ⟨b, off, none⟩) zs.length cap] w fun e w' => e = .returned (.tuple #[.slice none 0 0, .bool false]) ∧ Kp w w' := by
  have HG : Hid (∀ W, W = w → Calls Try.prog 23 #[.slice (some ⟨b, off, none⟩) zs.length cap] W fun e w' => e = .returned (.bool false) ∧ w' = W) := by
    intro W hW; subst hW; rw [← hf]; exact good_any W b off cap zs hl hc
  clear hc hf
  go_enter Try.func8, Try.ntmps8
  go_wp2_with fail
  refine Calls.mono (HG.out _ rfl) ?_
  rintro e w1 ⟨rfl, rfl⟩
  go_wp2
  go_ret2
  exact ⟨rfl, Kp.refl _⟩

set_option maxHeartbeats 1000000 in
theorem icodesOf_half (w : World) (b off cap : Nat) (zs : List Int) (hl : zs.length ≤ 1048576) (hb : b < w.heap.size) (hc : ∀ i, i < zs.length → w.cell? ⟨b, off + i, none⟩ = some (.int .i64 (zs.getD i 0))) (hf : fit zs = true) (hfu : full zs = false) :
    Calls Try.prog 8 #[.slice (some ⟨b, off, none⟩) zs.length cap] w fun e w' => e = .returned (.tuple #[.slice none 0 0, .bool false]) ∧ Kp w w' := by
  have h300 := fit_len hf
  have HG : Hid (∀ W, W = w → Calls Try.prog 23 #[.slice (some ⟨b, off, none⟩) zs.length cap] W fun e w' => e = .returned (.bool true) ∧ w' = W) := by
    intro W hW; subst hW; rw [← hf]; exact good_any W b off cap zs hl hc
  have HN : Hid (∀ W, W = w → Calls Try.prog 24 #[.slice (some ⟨b, off, none⟩) zs.length cap] W fun e w' => e = .returned (.agg (tab 16 (cn zs zs.length))) ∧ Kp w w') := by
    intro W hW; subst hW; exact count_any W b off cap zs hf hb hc
  have HK : Hid (∀ W, Calls Try.prog 25 #[.agg (tab 16 (cn zs zs.length))] W fun e w' => e = .returned (.bool false) ∧ Kp W w') := by
    intro W
    have e : decide (ks zs zs.length 16 = 32768) = false := by rw [ks_kr zs hf _ (Nat.le_refl _)]; exact hfu
    rw [← e]
    exact complete_any W zs zs.length h300
  clear hc hf hfu
  have hx := tab16 (cn zs zs.length)
  go_enter Try.func8, Try.ntmps8
  go_wp2_with fail
  refine Calls.mono (HG.out _ rfl) ?_
  rintro e w1 ⟨rfl, rfl⟩
  go_wp2_with fail
  refine Calls.mono (HN.out _ rfl) ?_
  rintro e w2 ⟨rfl, hk⟩
  have HK1 : Hid _ := hk
  clear hk
  go_wp2_with fail
  rw [← tab16]
  refine Calls.mono (HK.out _) ?_
  rintro e w3 ⟨rfl, hk⟩
  have HK2 : Hid _ := hk
  clear hk
  clear hx
  go_wp2
  go_ret2
  exact ⟨rfl, Kp.trans HK1.out (Kp.trans ((Kp.refl _).alloc _ _) HK2.out)⟩

/-- The next codes of each length when i places have been given theirs. -/
def nxt (xs : List Int) (i l : Nat) : Int := nx xs l + cn xs i l
/-- The codes laid so far. -/
def cdp (xs : List Int) (i j : Nat) : Int := if j < i then cd xs j else 0
/-- The first codes laid so far. -/
def nxp (xs : List Int) (r l : Nat) : Int := if l ≤ r then nx xs l else 0
theorem nxp_set (xs : List Int) (r : Nat) (h : r + 1 < 16) : (tab 16 (nxp xs r)).setIfInBounds (r + 1) (.int .i64 ((nx xs r + cn xs xs.length r) * 2)) = tab 16 (nxp xs (r + 1)) := by
  apply tab_set _ _ _ (r + 1) _ h
  · intro j hj hne
    unfold nxp
    by_cases h : j ≤ r
    · rw [if_pos h, if_pos (by omega)]
    · rw [if_neg h, if_neg (by omega)]
  · unfold nxp; rw [if_pos (Nat.le_refl _)]; rfl
theorem nxp_zero (xs : List Int) : tab 16 (nxp xs 1) = tab 16 (fun _ => 0) := by
  apply tab_congr
  intro j hj
  unfold nxp
  by_cases h : j ≤ 1
  · rw [if_pos h]
    have h01 : j = 0 ∨ j = 1 := by omega
    rcases h01 with rfl | rfl <;> rfl
  · rw [if_neg h]
theorem nxp_all (xs : List Int) : tab 16 (nxp xs 15) = tab 16 (nxt xs 0) := by
  apply tab_congr
  intro j hj
  unfold nxp nxt
  rw [if_pos (by omega), cn_zero]; simp
theorem nxt_set (xs : List Int) (i l : Nat) (hi : i < xs.length) (h0 : l ≠ 0) (h16 : l < 16) (hx : xs.getD i 0 = (l : Int)) : (tab 16 (nxt xs i)).setIfInBounds l (.int .i64 (nxt xs i l + 1)) = tab 16 (nxt xs (i + 1)) := by
  apply tab_set _ _ _ l _ h16
  · intro j hj hne
    unfold nxt
    rw [cn_succ xs i j hi, if_neg (by omega)]; simp
  · unfold nxt
    rw [cn_succ xs i l hi, if_pos ⟨h0, hx⟩, Int.add_assoc]
theorem nxt_same (xs : List Int) (i : Nat) (hi : i < xs.length) (h : ¬ 0 < xs.getD i 0) : tab 16 (nxt xs (i + 1)) = tab 16 (nxt xs i) := by
  apply tab_congr
  intro j hj
  unfold nxt
  rw [cn_succ xs i j hi, if_neg (by omega)]; simp
theorem cdp_set (xs : List Int) (i l : Nat) (hi : i < xs.length) (h0 : l ≠ 0) (hx : xs.getD i 0 = (l : Int)) : (tab xs.length (cdp xs i)).setIfInBounds i (.int .i64 (nxt xs i l)) = tab xs.length (cdp xs (i + 1)) := by
  apply tab_set _ _ _ i _ hi
  · intro j hj hne
    unfold cdp
    by_cases h : j < i
    · rw [if_pos h, if_pos (by omega)]
    · rw [if_neg h, if_neg (by omega)]
  · unfold cdp cd nxt
    rw [if_pos (by omega), hx, if_pos (by omega)]; simp
theorem cdp_same (xs : List Int) (i : Nat) (hi : i < xs.length) (h : ¬ 0 < xs.getD i 0) : tab xs.length (cdp xs (i + 1)) = tab xs.length (cdp xs i) := by
  apply tab_congr
  intro j hj
  unfold cdp
  by_cases h2 : j < i
  · rw [if_pos h2, if_pos (by omega)]
  · rw [if_neg h2]
    by_cases e : j = i
    · subst e; rw [if_pos (by omega)]; unfold cd; rw [if_neg h]
    · rw [if_neg (by omega)]
theorem cdp_zero (xs : List Int) : tab xs.length (cdp xs 0) = tab xs.length (fun _ => 0) := by
  apply tab_congr; intro j hj; unfold cdp; rw [if_neg (by omega)]
theorem cdp_all (xs : List Int) : tab xs.length (cdp xs xs.length) = cellsOf .i64 (codesL xs) := by
  rw [← codesL_cells]; apply tab_congr; intro j hj; unfold cdp; rw [if_pos hj]
end Go.Proofs.Ytakdmgnkcpahbaa
