/-
  What countLengths and completeCounts answer for lengths in 0..15; each theorem names its conditions.
-/
import Derived.Test.YteehoihkbcbbgaaDoorCodes1
namespace Go.Proofs.YteehoihkbcbbgaaDoor
open Go.ChangeShapes Go.WideShapes Go.ChangeAt Go.RowKit
set_option linter.unusedVariables false

theorem cn_next (xs : List Int) (k : Nat) (hk : k < xs.length) (l : Nat) (hl : xs.getD k 0 = (l : Int)) (h0 : l ≠ 0) (h16 : l < 16) :
    (tab 16 (cn xs k)).setIfInBounds l (.int .i64 (cn xs k l + 1)) = tab 16 (cn xs (k + 1)) := by
  apply tab_set 16 _ _ l _ h16
  · intro j hj hne
    rw [cn_succ xs k j hk, if_neg (by rw [hl]; omega)]; simp
  · rw [cn_succ xs k l hk, if_pos ⟨h0, hl⟩]
theorem cn_same (xs : List Int) (k : Nat) (hk : k < xs.length) (hl : ¬ 0 < xs.getD k 0) : tab 16 (cn xs (k + 1)) = tab 16 (cn xs k) := by
  apply tab_congr
  intro j hj
  rw [cn_succ xs k j hk, if_neg (by omega)]; simp

set_option maxHeartbeats 1000000 in
theorem count_any (w : World) (b off cap : Nat) (zs : List Int) (hf : fit zs = true) (hb : b < w.heap.size) (hc : ∀ i, i < zs.length → w.cell? ⟨b, off + i, none⟩ = some (.int .i64 (zs.getD i 0))) :
    Calls Tryd.prog 55 #[.slice (some ⟨b, off, none⟩) zs.length cap] w fun e w' => e = .returned (.agg (tab 16 (cn zs zs.length))) ∧ Kp w w' := by
  have hl := fit_len hf
  have HF : Hid _ := hf
  have HC : Hid _ := hc
  clear hc hf
  have hz : tab 16 (cn zs 0) = #[.int .i64 0, .int .i64 0, .int .i64 0, .int .i64 0, .int .i64 0, .int .i64 0, .int .i64 0, .int .i64 0, .int .i64 0, .int .i64 0, .int .i64 0, .int .i64 0, .int .i64 0, .int .i64 0, .int .i64 0, .int .i64 0] := by
    rw [tab_congr 16 _ (fun _ => 0) (fun j _ => cn_zero zs j)]; rfl
  have HZ : Hid _ := hz
  clear hz
  go_enter Tryd.func55, Tryd.ntmps55
  go_wp2
  go_loopw [8] (fun i wr => ∃ k : Nat, k ≤ zs.length ∧ i = .int .i64 k ∧ wr = (w.alloc (.cells #[.int .i64 0, .int .i64 0, .int .i64 0, .int .i64 0, .int .i64 0, .int .i64 0, .int .i64 0, .int .i64 0, .int .i64 0, .int .i64 0, .int .i64 0, .int .i64 0, .int .i64 0, .int .i64 0, .int .i64 0, .int .i64 0] 82)).alloc (.cells (tab 16 (cn zs k)) 82)) (fun i _ => zs.length - (intOf i).toNat)
  case atStart => exact ⟨0, Nat.zero_le _, rfl, by rw [HZ.out]⟩
  case round =>
    obtain ⟨k, hk, rfl, rfl⟩ := hrel
    by_cases hlt : k < zs.length
    · have c0 := HC.out k hlt
      have bd := fit_at HF.out k
      by_cases hpos : 0 < zs.getD k 0
      · obtain ⟨l, hl0⟩ := Int.eq_ofNat_of_zero_le bd.1
        have HN : Hid _ := cn_next zs k hlt l hl0 (by omega) (by omega)
        rw [hl0] at c0 bd hpos
        clear hl0
        have hg := tab_get 16 (cn zs k) l (by omega)
        have hb1 := cn_bd zs k l
        have l16 : (l : Int) < 16 := by omega
        have l16' : l < 16 := by omega
        generalize tab 16 (cn zs k) = T at *
        generalize cn zs k l = c at *
        go_wp2
        go_roundw
        case rel => exact ⟨k + 1, by omega, by go_num, by rw [← HN.out]⟩
        case measure => simp [intOf]; omega
      · have HN : Hid _ := cn_same zs k hlt hpos
        have e1 : decide (0 < zs.getD k 0) = false := decide_eq_false hpos
        generalize zs.getD k 0 = x at *
        go_wp2
        go_roundw
        case rel => exact ⟨k + 1, by omega, by go_num, by rw [HN.out]⟩
        case measure => simp [intOf]; omega
    · have e : k = zs.length := by omega
      subst e
      rw [tab16]
      go_wp2
      refine bodyPost_ret (v := .agg (tab 16 (cn zs zs.length))) (by rw [tab16]; simp [results, Tryd.results55, go_sem]) rfl ⟨rfl, ((Kp.refl _).alloc _ _).alloc _ _⟩

theorem ix16 (T : Array Value) (k : Nat) (c : Int) (h : k < 16) (c0 : T[k]? = some (.int .i64 c)) (W : World) : (Instr.index 82 (.agg T) (.int .i64 (k : Int))).run Tryd.prog W = .ok (.int .i64 c) W := by
  have h2 : (0 : Int) ≤ (k : Int) ∧ (k : Int) < 16 := by omega
  simp [Instr.index, run_underlying Tryd.underlying82, asIntOf, h2, h, c0, go_sem]

set_option maxHeartbeats 1000000 in
theorem complete_any (w : World) (zs : List Int) (n : Nat) (hn : n ≤ 300) :
    Calls Tryd.prog 56 #[.agg (tab 16 (cn zs n))] w fun e w' => e = .returned (.bool (decide (ks zs n 16 = 32768))) ∧ Kp w w' := by
  have hg := tab_get 16 (cn zs n)
  have hsz := tab_size 16 (cn zs n)
  have HG : Hid _ := hg
  clear hg
  have hx := tab16 (cn zs n)
  go_enter Tryd.func56, Tryd.ntmps56
  go_wp2
  rw [← tab16]
  clear hx
  go_loop [3, 7] (fun s i => ∃ k : Nat, k ≤ 16 ∧ i = .int .i64 k ∧ s = .int .i64 (ks zs n k)) (fun _ i => 16 - (intOf i).toNat)
  case atStart => exact ⟨0, Nat.zero_le _, rfl, rfl⟩
  case round =>
    obtain ⟨k, hk, rfl, rfl⟩ := hrel
    by_cases hlt : k < 16
    · have c0 := HG.out k hlt
      have hlt' : (k : Int) < 16 := by omega
      have b1 := cn_bd zs n k
      have b2 := ks_bd zs n k hn
      have hz : ((15 : Int) - (k : Int)) = ((15 - k : Nat) : Int) := by omega
      have hp := pow_bd (15 - k) (by omega)
      have m1 := Int.mul_nonneg b1.1 (show (0 : Int) ≤ 2 ^ (15 - k) by omega)
      have m2 := Int.mul_le_mul (show cn zs n k ≤ 300 by omega) hp.2 (by omega) (by omega)
      have HN : Hid (ks zs n (k + 1) = ks zs n k + cn zs n k * 2 ^ (15 - k)) := rfl
      generalize tab 16 (cn zs n) = T at *
      generalize cn zs n k = c at *
      generalize ks zs n k = S at *
      have hix := ix16 T k c hlt c0
      have hw1 := IntWalk.i64_in (c * 2 ^ (15 - k)) (by omega)
      generalize hE : c * 2 ^ (15 - k) = E at *
      go_wp2
      go_round
      case rel => exact ⟨k + 1, by omega, by go_num, by rw [HN.out]⟩
      case measure => simp [intOf]; omega
    · have e : k = 16 := by omega
      subst e
      go_wp2
      go_ret
      exact ⟨rfl, (Kp.refl _).alloc _ _⟩
end Go.Proofs.YteehoihkbcbbgaaDoor
