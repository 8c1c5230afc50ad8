/-
  What the program's wholeRoot and the specification's l1Root answer, for numbers within the bounds named in each theorem.
-/
import Derived.Test.YtpmclnmdedbfbaaNear
namespace Go.Proofs.Ytpmclnmdedbfbaa
open Go.ChangeShapes Go.WideShapes Go.ChangeAt Go.RowKit

theorem root_uniq (n r s : Int) (hr : 0 ≤ r) (hs : 0 ≤ s) (r1 : r * r ≤ n) (r2 : n < (r + 1) * (r + 1)) (s1 : s * s ≤ n) (s2 : n < (s + 1) * (s + 1)) : r = s := by
  by_cases h : r < s
  · have : (r + 1) * (r + 1) ≤ s * s := Int.mul_le_mul (by omega) (by omega) (by omega) (by omega); omega
  by_cases h' : s < r
  · have : (s + 1) * (s + 1) ≤ r * r := Int.mul_le_mul (by omega) (by omega) (by omega) (by omega); omega
  omega

theorem sq_bd (r : Int) (h0 : 0 ≤ r) (h : r ≤ 2147483648) : 0 ≤ r * r ∧ r * r ≤ 4611686018427387904 :=
  ⟨Int.mul_nonneg h0 h0, Int.mul_le_mul h h h0 (by omega)⟩

set_option maxHeartbeats 1000000 in
theorem whole_any (n : Int) (w : World) (hn : 0 ≤ n) (hn' : n < 4611686018427387904) :
    Calls Try.prog 29 #[.int .i64 n] w fun e w' => ∃ r : Int, e = .returned (.int .i64 r) ∧ 0 ≤ r ∧ r * r ≤ n ∧ n < (r + 1) * (r + 1) ∧ w' = w := by
  go_enter Try.func29, Try.ntmps29
  go_wp2
  go_loop [3, 4] (fun root bit => ∃ (k : Nat) (r T : Int), T = 2 ^ k ∧ k ≤ 31 ∧ 0 ≤ r ∧ r * r ≤ n ∧ n < (r + T) * (r + T) ∧ r + T ≤ 2147483648 ∧ root = .int .i64 r ∧ bit = .int .i64 (T / 2)) (fun _ bit => (intOf bit).toNat)
  case atStart => exact ⟨31, 0, 2147483648, by decide, by omega, by omega, by omega, by omega, by omega, rfl, rfl⟩
  case round =>
    obtain ⟨k, r, T, hT, hk, h0, h1, h2, h3, rfl, rfl⟩ := hrel
    cases k with
    | zero =>
      obtain rfl : T = 1 := by simpa using hT
      clear hT
      go_wp2
      go_ret
      exact ⟨r, rfl, h0, h1, h2, rfl⟩
    | succ j =>
      obtain ⟨B, hB⟩ : ∃ B : Int, B = 2 ^ j := ⟨_, rfl⟩
      have hB1 : 0 < B := by rw [hB]; exact Int.pow_pos (by omega)
      have hTB : T = 2 * B := by rw [hT, hB, Int.pow_succ]; omega
      have HB : Hid (B = 2 ^ j) := hB
      clear hB hT
      subst hTB
      rw [show 2 * B / 2 = B from by omega] at *
      obtain ⟨s1, s2⟩ := sq_bd (r + B) (by omega) (by omega)
      by_cases hc : (r + B) * (r + B) ≤ n
      · go_wp2
        go_round
        case rel => exact ⟨j, r + B, B, HB.out, by omega, by omega, hc, by rw [show r + B + B = r + 2 * B from by omega]; exact h2, by omega, rfl, rfl⟩
        case measure => simp [intOf]; omega
      · go_wp2
        go_round
        case rel => exact ⟨j, r, B, HB.out, by omega, h0, h1, by omega, by omega, rfl, rfl⟩
        case measure => simp [intOf]; omega

set_option maxHeartbeats 2000000 in
theorem root_any (n most : Int) (w : World) (hn : 0 ≤ n) (hm : 0 ≤ most) (hm' : most < 4611686018427387904) :
    Calls Try.prog 30 #[.agg #[.int .u64 (n / 18446744073709551616), .int .u64 (n % 18446744073709551616)], .int .u64 most] w fun e w' => ∃ r : Int, e = .returned (.int .u64 r) ∧ 0 ≤ r ∧ r ≤ most ∧ r * r ≤ n ∧ (r = most ∨ n < (r + 1) * (r + 1)) ∧ Kp w w' := by
  generalize hp : n / 18446744073709551616 = p
  generalize hq : n % 18446744073709551616 = q
  have HP : Hid (_ = p) := hp
  have HQ : Hid (_ = q) := hq
  clear hp hq
  go_enter Try.func30, Try.ntmps30
  go_wp2
  go_loopw [5, 6] (fun lo hi W => ∃ l h : Int, 0 ≤ l ∧ l ≤ h ∧ h ≤ most ∧ lo = .int .u64 l ∧ hi = .int .u64 h ∧ l * l ≤ n ∧ (h = most ∨ n < (h + 1) * (h + 1)) ∧ W.cell? ⟨w.heap.size, 0, none⟩ = some (.int .u64 p) ∧ W.cell? ⟨w.heap.size, 1, none⟩ = some (.int .u64 q) ∧ w.heap.size < W.heap.size ∧ Kp w W) (fun lo hi _ => (intOf hi - intOf lo).toNat)
  case atStart => exact ⟨0, most, by omega, hm, by omega, rfl, rfl, by omega, Or.inl rfl, by simp [go_sem], by simp [go_sem], by simp, (Kp.refl w).alloc _ _⟩
  case round =>
    obtain ⟨l, h, h0, h1, h2, rfl, rfl, h3, h4, c0, c1, hz, hk⟩ := hrel
    by_cases hlt : l < h
    · have HK : Hid (Kp w wr) := hk
      have H4 : Hid (h = most ∨ n < (h + 1) * (h + 1)) := h4
      clear hk h4
      by_cases hc : n < (l + (h - l + 1) / 2) * (l + (h - l + 1) / 2)
      · have hd : decide (n < (l + (h - l + 1) / 2) * (l + (h - l + 1) / 2)) = true := by simpa using hc
        go_wp2
        go_region_held3 (fun w' => w'.cell? ⟨w.heap.size, 0, none⟩ = some (.int .u64 p) ∧ w'.cell? ⟨w.heap.size, 1, none⟩ = some (.int .u64 q) ∧ w.heap.size < w'.heap.size) (first | exact ⟨c0, c1, hz⟩ | exact box_alloc ⟨c0, c1, hz⟩ _ | exact box_alloc (box_alloc (box_alloc ⟨c0, c1, hz⟩ _) _) _)
          (first
            | (go_at_call 23; refine (times_any (l + (h - l + 1) / 2) (l + (h - l + 1) / 2) _ (by omega) (by omega) (by omega) (by omega)).mono ?_; rintro e w' ⟨rfl, o1, rfl⟩)
            | (go_at_call 40; refine (less_at n ((l + (h - l + 1) / 2) * (l + (h - l + 1) / 2)) p q HP.out HQ.out _).mono ?_; rintro e w' ⟨rfl, o2, o3, rfl⟩))
        go_wp2
        go_roundw
        case rel =>
          obtain ⟨d0, d1, dz⟩ := box_alloc (box_alloc (box_alloc ⟨c0, c1, hz⟩ (.cells o1 38)) (.cells o2 38)) (.cells o3 38)
          exact ⟨l, l + (h - l + 1) / 2 - 1, h0, by omega, by omega, rfl, rfl, h3, Or.inr (by rw [Int.sub_add_cancel]; exact hc), d0, d1, dz, (((HK.out.alloc _ _).alloc _ _).alloc _ _).drew⟩
        case measure => simp [intOf]; omega
      · have hd : decide (n < (l + (h - l + 1) / 2) * (l + (h - l + 1) / 2)) = false := by simpa using hc
        go_wp2
        go_region_held3 (fun w' => w'.cell? ⟨w.heap.size, 0, none⟩ = some (.int .u64 p) ∧ w'.cell? ⟨w.heap.size, 1, none⟩ = some (.int .u64 q) ∧ w.heap.size < w'.heap.size) (first | exact ⟨c0, c1, hz⟩ | exact box_alloc ⟨c0, c1, hz⟩ _ | exact box_alloc (box_alloc (box_alloc ⟨c0, c1, hz⟩ _) _) _)
          (first
            | (go_at_call 23; refine (times_any (l + (h - l + 1) / 2) (l + (h - l + 1) / 2) _ (by omega) (by omega) (by omega) (by omega)).mono ?_; rintro e w' ⟨rfl, o1, rfl⟩)
            | (go_at_call 40; refine (less_at n ((l + (h - l + 1) / 2) * (l + (h - l + 1) / 2)) p q HP.out HQ.out _).mono ?_; rintro e w' ⟨rfl, o2, o3, rfl⟩))
        go_wp2
        go_roundw
        case rel =>
          obtain ⟨d0, d1, dz⟩ := box_alloc (box_alloc (box_alloc ⟨c0, c1, hz⟩ (.cells o1 38)) (.cells o2 38)) (.cells o3 38)
          exact ⟨l + (h - l + 1) / 2, h, by omega, by omega, h2, rfl, rfl, by omega, H4.out, d0, d1, dz, (((HK.out.alloc _ _).alloc _ _).alloc _ _).drew⟩
        case measure => simp [intOf]; omega
    · obtain rfl : l = h := by omega
      have HK : Hid (Kp w wr) := hk
      have H4 : Hid (l = most ∨ n < (l + 1) * (l + 1)) := h4
      clear hk h4
      go_wp2
      go_ret
      exact ⟨l, rfl, h0, h2, h3, H4.out, HK.out⟩
end Go.Proofs.Ytpmclnmdedbfbaa
