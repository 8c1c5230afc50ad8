/-
  Quotients; each theorem names its conditions.
-/
import Derived.Test.YtnkeljmecbohkaaGreatJAG
import Derived.StillTactics
import Derived.Laws.Pointers
import Derived.Deep.RegionHeld3
import Derived.Test.YtnkeljmecbohkaaGreatJAA
namespace Go.Proofs.YtnkeljmecbohkaaGreat
open Go.ChangeShapes Go.WideShapes Go.ChangeAt Go.RowKit
set_option linter.unusedVariables false
def nearQ (a b : Int) : Int := if b < 0 then (2 * -a + -b) / (2 * -b) else (2 * a + b) / (2 * b)
def cutV (x least greatest : Int) : Int := max least (min x greatest)
def divV (a b : Int) : Int := if -1099511627776 ≤ a ∧ a ≤ 1099511627776 ∧ -1099511627776 ≤ b ∧ b ≤ 1099511627776 ∧ b ≠ 0 then cutV (nearQ (a * 65536) b) (-1099511627776) 1099511627776 else 0
set_option maxHeartbeats 1000000 in
theorem sum_any (n m : Int) (w : World) (hn : 0 ≤ n) (hn' : n < 85070591730234615865843651857942052864) (hm : 0 ≤ m) (hm' : m < 85070591730234615865843651857942052864) :
  Calls Tryz.prog 128 #[.agg #[.int .u64 (n / 18446744073709551616), .int .u64 (n % 18446744073709551616)], .agg #[.int .u64 (m / 18446744073709551616), .int .u64 (m % 18446744073709551616)]] w fun e w' => e = .returned (.agg #[.int .u64 ((n + m) / 18446744073709551616), .int .u64 ((n + m) % 18446744073709551616)]) ∧ Kp w w' := by
 have e1 : (n + m) / 18446744073709551616 = (n / 18446744073709551616 * 18446744073709551616 + n % 18446744073709551616 + m % 18446744073709551616) / 18446744073709551616 + m / 18446744073709551616 := by omega
 have e2 : (n + m) % 18446744073709551616 = (n / 18446744073709551616 * 18446744073709551616 + n % 18446744073709551616 + m % 18446744073709551616) % 18446744073709551616 := by omega
 have b1 : 0 ≤ n / 18446744073709551616 := by omega
 have b2 : n / 18446744073709551616 < 4611686018427387904 := by omega
 have b3 : 0 ≤ n % 18446744073709551616 := by omega
 have b4 : n % 18446744073709551616 < 18446744073709551616 := by omega
 have b5 : 0 ≤ m / 18446744073709551616 := by omega
 have b6 : m / 18446744073709551616 < 4611686018427387904 := by omega
 have b7 : 0 ≤ m % 18446744073709551616 := by omega
 have b8 : m % 18446744073709551616 < 18446744073709551616 := by omega
 rw [e1, e2]; clear e1 e2 hn hn' hm hm'
 generalize n / 18446744073709551616 = p at *
 generalize n % 18446744073709551616 = q at *
 generalize m / 18446744073709551616 = r at *
 generalize m % 18446744073709551616 = s at *
 have c1 : 0 ≤ (p * 18446744073709551616 + q + s) / 18446744073709551616 := by omega
 have c2 : (p * 18446744073709551616 + q + s) / 18446744073709551616 < 9223372036854775808 := by omega
 generalize hu : (p * 18446744073709551616 + q + s) / 18446744073709551616 = u at *
 generalize hv : (p * 18446744073709551616 + q + s) % 18446744073709551616 = v at *
 have HU : Hid (_ = u) := hu
 have HV : Hid (_ = v) := hv
 clear hu hv
 go_enter Tryz.func128, Tryz.ntmps128
 go_wp2_with fail
 refine (plus_any _ _ _ _ (by omega) (by omega) (by omega) (by omega) (by omega) (by omega)).mono ?_
 rintro e w1 ⟨rfl, hk⟩
 rw [HU.out, HV.out]
 obtain ⟨hc, hf⟩ := hk.cells
 have hz : w.heap.size + 3 ≤ w1.heap.size := by have := hk.size; simp at this; omega
 have c00 : w1.cell? ⟨w.heap.size, 0, none⟩ = some (.int .u64 p) := by rw [hc _ _ (by simp <;> omega)]; simp [go_sem]
 have c01 : w1.cell? ⟨w.heap.size, 1, none⟩ = some (.int .u64 q) := by rw [hc _ _ (by simp <;> omega)]; simp [go_sem]
 have c10 : w1.cell? ⟨w.heap.size + 1, 0, none⟩ = some (.int .u64 r) := by rw [hc _ _ (by simp <;> omega)]; simp [go_sem]
 have c11 : w1.cell? ⟨w.heap.size + 1, 1, none⟩ = some (.int .u64 s) := by rw [hc _ _ (by simp <;> omega)]; simp [go_sem]
 have c20 : w1.cell? ⟨w.heap.size + 1 + 1, 0, none⟩ = some (.int .u64 0) := by rw [hc _ _ (by simp <;> omega)]; simp [go_sem]
 have c21 : w1.cell? ⟨w.heap.size + 1 + 1, 1, none⟩ = some (.int .u64 0) := by rw [hc _ _ (by simp <;> omega)]; simp [go_sem]
 have f0 : ∀ o, w1.frozen? ⟨w.heap.size, o, none⟩ = false := by intro o; rw [hf]; simp [go_sem]
 have f2 : ∀ o, w1.frozen? ⟨w.heap.size + 1 + 1, o, none⟩ = false := by intro o; rw [hf]; simp [go_sem]
 have HK : Hid (Kp w w1) := ((((Kp.refl w).alloc _ _).alloc _ _).alloc _ _).trans hk
 clear hc hf hk
 go_wp2
 simp [bodyPost, results, Tryz.results128, go_sem, c20, c21]
 exact ((((HK.out.setCell (by simp) _).setCell (by simp) _).setCell (by simp) _).setCell (by simp <;> omega) _).setCell (by simp <;> omega) _
theorem box_alloc {B : Nat} {W : World} {p q : Value} (h : W.cell? ⟨B, 0, none⟩ = some p ∧ W.cell? ⟨B, 1, none⟩ = some q ∧ B < W.heap.size) (o : Obj) :
  (W.alloc o).cell? ⟨B, 0, none⟩ = some p ∧ (W.alloc o).cell? ⟨B, 1, none⟩ = some q ∧ B < (W.alloc o).heap.size := by
 obtain ⟨h1, h2, h3⟩ := h
 exact ⟨by rw [World.cell?_alloc_past _ _ _ h3]; exact h1, by rw [World.cell?_alloc_past _ _ _ h3]; exact h2, by simp; omega⟩
set_option maxHeartbeats 2000000 in
theorem over_any (n b most : Int) (w : World) (hn : 0 ≤ n) (hb : 0 < b) (hb' : b < 4611686018427387904) (hm : 0 ≤ most) (hm' : most < 4611686018427387904) :
  Calls Tryz.prog 130 #[.agg #[.int .u64 (n / 18446744073709551616), .int .u64 (n % 18446744073709551616)], .int .u64 b, .int .u64 most] w fun e w' => ∃ r : Int, e = .returned (.int .u64 r) ∧ 0 ≤ r ∧ r ≤ most ∧ r * b ≤ n ∧ (r = most ∨ n < (r + 1) * b) ∧ Kp w w' := by
 generalize hp : n / 18446744073709551616 = p
 generalize hq : n % 18446744073709551616 = q
 have HP : Hid (_ = p) := hp
 have HQ : Hid (_ = q) := hq
 clear hp hq
 go_enter Tryz.func130, Tryz.ntmps130
 go_wp2
 go_loopw [7, 8] (fun lo hi W => ∃ l h : Int, 0 ≤ l ∧ l ≤ h ∧ h ≤ most ∧ lo = .int .u64 l ∧ hi = .int .u64 h ∧ l * b ≤ n ∧ (h = most ∨ n < (h + 1) * b) ∧ W.cell? ⟨w.heap.size, 0, none⟩ = some (.int .u64 p) ∧ W.cell? ⟨w.heap.size, 1, none⟩ = some (.int .u64 q) ∧ w.heap.size < W.heap.size ∧ Kp w W) (fun lo hi _ => (intOf hi - intOf lo).toNat)
 case atStart => exact ⟨0, most, by omega, hm, by omega, rfl, rfl, by omega, Or.inl rfl, by simp [go_sem], by simp [go_sem], by simp, (Kp.refl w).alloc _ _⟩
 case round =>
  obtain ⟨l, h, h0, h1, h2, rfl, rfl, h3, h4, c0, c1, hz, hk⟩ := hrel
  by_cases hlt : l < h
  ·have HK : Hid (Kp w wr) := hk
   have H4 : Hid (h = most ∨ n < (h + 1) * b) := h4
   clear hk h4
   by_cases hc : n < (l + (h - l + 1) / 2) * b
   ·have hd : decide (n < (l + (h - l + 1) / 2) * b) = true := by simpa using hc
    go_wp2
    go_region_held3 (fun w' => w'.cell? ⟨w.heap.size, 0, none⟩ = some (.int .u64 p) ∧ w'.cell? ⟨w.heap.size, 1, none⟩ = some (.int .u64 q) ∧ w.heap.size < w'.heap.size) (first | exact ⟨c0, c1, hz⟩ | exact box_alloc ⟨c0, c1, hz⟩ _ | exact box_alloc (box_alloc (box_alloc ⟨c0, c1, hz⟩ _) _) _)
     (first
      | (go_at_call 121; refine (times_any (l + (h - l + 1) / 2) b _ (by omega) (by omega) (by omega) (by omega)).mono ?_; rintro e w' ⟨rfl, o1, rfl⟩)
      | (go_at_call 137; refine (less_at n ((l + (h - l + 1) / 2) * b) p q HP.out HQ.out _).mono ?_; rintro e w' ⟨rfl, o2, o3, rfl⟩))
    go_wp2
    go_roundw
    case rel =>
     obtain ⟨d0, d1, dz⟩ := box_alloc (box_alloc (box_alloc ⟨c0, c1, hz⟩ (.cells o1 149)) (.cells o2 149)) (.cells o3 149)
     exact ⟨l, l + (h - l + 1) / 2 - 1, h0, by omega, by omega, rfl, rfl, h3, Or.inr (by rw [Int.sub_add_cancel]; exact hc), d0, d1, dz, (((HK.out.alloc _ _).alloc _ _).alloc _ _).drew⟩
    case measure => simp [intOf]; omega
   ·have hd : decide (n < (l + (h - l + 1) / 2) * b) = false := by simpa using hc
    go_wp2
    go_region_held3 (fun w' => w'.cell? ⟨w.heap.size, 0, none⟩ = some (.int .u64 p) ∧ w'.cell? ⟨w.heap.size, 1, none⟩ = some (.int .u64 q) ∧ w.heap.size < w'.heap.size) (first | exact ⟨c0, c1, hz⟩ | exact box_alloc ⟨c0, c1, hz⟩ _ | exact box_alloc (box_alloc (box_alloc ⟨c0, c1, hz⟩ _) _) _)
     (first
      | (go_at_call 121; refine (times_any (l + (h - l + 1) / 2) b _ (by omega) (by omega) (by omega) (by omega)).mono ?_; rintro e w' ⟨rfl, o1, rfl⟩)
      | (go_at_call 137; refine (less_at n ((l + (h - l + 1) / 2) * b) p q HP.out HQ.out _).mono ?_; rintro e w' ⟨rfl, o2, o3, rfl⟩))
    go_wp2
    go_roundw
    case rel =>
     obtain ⟨d0, d1, dz⟩ := box_alloc (box_alloc (box_alloc ⟨c0, c1, hz⟩ (.cells o1 149)) (.cells o2 149)) (.cells o3 149)
     exact ⟨l + (h - l + 1) / 2, h, by omega, by omega, h2, rfl, rfl, by omega, H4.out, d0, d1, dz, (((HK.out.alloc _ _).alloc _ _).alloc _ _).drew⟩
    case measure => simp [intOf]; omega
  ·obtain rfl : l = h := by omega
   have HK : Hid (Kp w wr) := hk
   have H4 : Hid (l = most ∨ n < (l + 1) * b) := h4
   clear hk h4
   go_wp2
   go_ret
   exact ⟨l, rfl, h0, h2, h3, H4.out, HK.out⟩
def cutM (x : Int) : Int := if 1099511627776 < x then 1099511627776 else if x < -1099511627776 then -1099511627776 else x
set_option maxHeartbeats 400000 in
theorem cut_any (x : Int) (w : World) : Calls Tryz.prog 131 #[.int .i64 x] w fun e w' => e = .returned (.int .i64 (cutM x)) ∧ w' = w := by
 go_enter Tryz.func131, Tryz.ntmps131
 go_wp2
 all_goals go_ret
 all_goals exact ⟨ret_int (by unfold cutM; omega), rfl⟩
def absV (x : Int) : Int := if x < 0 then -x else x
set_option maxHeartbeats 400000 in
theorem abs_any (x : Int) (w : World) (h : -9223372036854775807 ≤ x) : Calls Tryz.prog 122 #[.int .i64 x] w fun e w' => e = .returned (.int .i64 (absV x)) ∧ w' = w := by
 go_enter Tryz.func122, Tryz.ntmps122
 go_wp2
 all_goals go_ret
 all_goals exact ⟨ret_int (by unfold absV; omega), rfl⟩
theorem abs_neg (x : Int) (w : World) (h : -9223372036854775807 ≤ x) (hx : x < 0) : Calls Tryz.prog 122 #[.int .i64 x] w fun e w' => e = .returned (.int .i64 (-x)) ∧ w' = w := by
 have := abs_any x w h
 unfold absV at this; rw [if_pos hx] at this; exact this
theorem abs_nn (x : Int) (w : World) (hx : 0 ≤ x) : Calls Tryz.prog 122 #[.int .i64 x] w fun e w' => e = .returned (.int .i64 x) ∧ w' = w := by
 have := abs_any x w (by omega)
 unfold absV at this; rw [if_neg (by omega)] at this; exact this
theorem sgoodQ_yes (x : Int) (w : World) (h1 : -1099511627776 ≤ x) (h2 : x ≤ 1099511627776) : Calls Tryz.prog 119 #[.int .i64 x] w fun e w' => e = .returned (.bool true) ∧ w' = w := by
 go_enter Tryz.func119, Tryz.ntmps119
 go_wp2
 go_ret
 exact ⟨rfl, rfl⟩
theorem sgoodQ_no (x : Int) (w : World) (h : ¬ (-1099511627776 ≤ x ∧ x ≤ 1099511627776)) : Calls Tryz.prog 119 #[.int .i64 x] w fun e w' => e = .returned (.bool false) ∧ w' = w := by
 by_cases h1 : -1099511627776 ≤ x
 ·have h2 : 1099511627776 < x := by omega
  have h3 : decide (x ≤ 1099511627776) = false := by simp; omega
  clear h
  go_enter Tryz.func119, Tryz.ntmps119
  go_wp2
  go_ret
  exact ⟨rfl, rfl⟩
 ·clear h
  go_enter Tryz.func119, Tryz.ntmps119
  go_wp2
  go_ret
  exact ⟨rfl, rfl⟩
theorem igoodQ_yes (x : Int) (w : World) (h1 : -1099511627776 ≤ x) (h2 : x ≤ 1099511627776) : Calls Tryz.prog 112 #[.int .i64 x] w fun e w' => e = .returned (.bool true) ∧ w' = w := by
 go_enter Tryz.func112, Tryz.ntmps112
 go_wp2
 go_ret
 exact ⟨rfl, rfl⟩
theorem igoodQ_no (x : Int) (w : World) (h : ¬ (-1099511627776 ≤ x ∧ x ≤ 1099511627776)) : Calls Tryz.prog 112 #[.int .i64 x] w fun e w' => e = .returned (.bool false) ∧ w' = w := by
 by_cases h1 : -1099511627776 ≤ x
 ·have h2 : 1099511627776 < x := by omega
  have h3 : decide (x ≤ 1099511627776) = false := by simp; omega
  clear h
  go_enter Tryz.func112, Tryz.ntmps112
  go_wp2
  go_ret
  exact ⟨rfl, rfl⟩
 ·clear h
  go_enter Tryz.func112, Tryz.ntmps112
  go_wp2
  go_ret
  exact ⟨rfl, rfl⟩
theorem plus_wide (m b : Int) (w : World) (hm : 0 ≤ m) (hm' : m < 170141183460469231731687303715884105728) (hb : 0 ≤ b) (hb' : b < 18446744073709551616) :
  Calls Tryz.prog 129 #[.agg #[.int .u64 (m / 18446744073709551616), .int .u64 (m % 18446744073709551616)], .int .u64 b] w fun e w' => e = .returned (.agg #[.int .u64 ((m + b) / 18446744073709551616), .int .u64 ((m + b) % 18446744073709551616)]) ∧ Kp w w' := by
 have h := plus_any (m / 18446744073709551616) (m % 18446744073709551616) b w (by omega) (by omega) (by omega) (by omega) hb hb'
 rw [show m / 18446744073709551616 * 18446744073709551616 + m % 18446744073709551616 + b = m + b from by omega] at h
 exact h
set_option maxHeartbeats 2000000 in
theorem near_pos (n b : Int) (w : World) (hn : 0 ≤ n) (hn' : n < 42535295865117307932921825928971026432) (hb : 0 < b) (hb' : b < 1152921504606846976) :
  Calls Tryz.prog 120 #[.bool false, .agg #[.int .u64 (n / 18446744073709551616), .int .u64 (n % 18446744073709551616)], .int .u64 b] w fun e w' => ∃ r : Int, e = .returned (.int .i64 (cutM r)) ∧ 0 ≤ r ∧ r ≤ 4398046511104 ∧ r * (2 * b) ≤ 2 * n + b ∧ (r = 4398046511104 ∨ 2 * n + b < (r + 1) * (2 * b)) ∧ Kp w w' := by
 go_enter Tryz.func120, Tryz.ntmps120
 go_wp2_with fail
 refine (sum_any n n _ hn (by omega) hn (by omega)).mono ?_
 rintro e w1 ⟨rfl, hk⟩
 have hz : w.heap.size + 1 ≤ w1.heap.size := by have := hk.size; simp at this; omega
 have HK : Hid (Kp w w1) := ((Kp.refl w).alloc _ _).trans hk
 clear hk
 go_wp2_with fail
 refine (plus_wide (n + n) b _ (by omega) (by omega) (by omega) (by omega)).mono ?_
 rintro e w2 ⟨rfl, hk⟩
 obtain ⟨hc, hf⟩ := hk.cells
 have hz2 : w1.heap.size + 1 ≤ w2.heap.size := by have := hk.size; simp at this; omega
 have c0 : w2.cell? ⟨w1.heap.size, 0, none⟩ = some (.int .u64 ((n + n) / 18446744073709551616)) := by rw [hc _ _ (by simp)]; simp [go_sem]
 have c1 : w2.cell? ⟨w1.heap.size, 1, none⟩ = some (.int .u64 ((n + n) % 18446744073709551616)) := by rw [hc _ _ (by simp)]; simp [go_sem]
 have f0 : ∀ o, w2.frozen? ⟨w1.heap.size, o, none⟩ = false := by intro o; rw [hf]; simp [go_sem]
 have HK2 : Hid (Kp w w2) := (HK.out.alloc _ _).trans hk
 clear hk hc hf HK
 rw [show n + n + b = 2 * n + b from by omega]
 go_wp2_with fail
 refine (over_any (2 * n + b) (2 * b) 4398046511104 _ (by omega) (by omega) (by omega) (by omega) (by omega)).mono ?_
 rintro e w3 ⟨r, rfl, r0, r1, r2, r3, hk⟩
 have HK3 : Hid (Kp w w3) := ((HK2.out.setCell (by simp <;> omega) _).setCell (by simp <;> omega) _).trans hk
 have R3 : Hid _ := r3
 clear hk HK2 c0 c1 f0 r3
 go_wp2_with fail
 refine (cut_any _ _).mono ?_
 rintro e w4 ⟨rfl, rfl⟩
 go_wp2
 go_ret
 exact ⟨r, rfl, r0, r1, r2, R3.out, HK3.out⟩
set_option maxHeartbeats 2000000 in
theorem near_neg (n b : Int) (w : World) (hn : 0 ≤ n) (hn' : n < 42535295865117307932921825928971026432) (hb : 0 < b) (hb' : b < 1152921504606846976) :
  Calls Tryz.prog 120 #[.bool true, .agg #[.int .u64 (n / 18446744073709551616), .int .u64 (n % 18446744073709551616)], .int .u64 b] w fun e w' => ∃ r : Int, e = .returned (.int .i64 (cutM (-r))) ∧ 0 ≤ r ∧ r ≤ 4398046511104 ∧ r * (2 * b) ≤ 2 * n + b - 1 ∧ (r = 4398046511104 ∨ 2 * n + b - 1 < (r + 1) * (2 * b)) ∧ Kp w w' := by
 go_enter Tryz.func120, Tryz.ntmps120
 go_wp2_with fail
 refine (sum_any n n _ hn (by omega) hn (by omega)).mono ?_
 rintro e w1 ⟨rfl, hk⟩
 have hz : w.heap.size + 1 ≤ w1.heap.size := by have := hk.size; simp at this; omega
 have HK : Hid (Kp w w1) := ((Kp.refl w).alloc _ _).trans hk
 clear hk
 go_wp2_with fail
 refine (plus_wide (n + n) b _ (by omega) (by omega) (by omega) (by omega)).mono ?_
 rintro e w2 ⟨rfl, hk⟩
 obtain ⟨hc, hf⟩ := hk.cells
 have hz2 : w1.heap.size + 1 ≤ w2.heap.size := by have := hk.size; simp at this; omega
 have c0 : w2.cell? ⟨w1.heap.size, 0, none⟩ = some (.int .u64 ((n + n) / 18446744073709551616)) := by rw [hc _ _ (by simp)]; simp [go_sem]
 have c1 : w2.cell? ⟨w1.heap.size, 1, none⟩ = some (.int .u64 ((n + n) % 18446744073709551616)) := by rw [hc _ _ (by simp)]; simp [go_sem]
 have f0 : ∀ o, w2.frozen? ⟨w1.heap.size, o, none⟩ = false := by intro o; rw [hf]; simp [go_sem]
 have HK2 : Hid (Kp w w2) := (HK.out.alloc _ _).trans hk
 clear hk hc hf HK
 rw [show n + n + b = 2 * n + b from by omega]
 generalize hP : (2 * n + b) / 18446744073709551616 = P
 generalize hL : (2 * n + b) % 18446744073709551616 = L
 generalize (n + n) / 18446744073709551616 = A at *
 generalize (n + n) % 18446744073709551616 = B at *
 have p1 : 0 ≤ P := by omega
 have p2 : P < 9223372036854775807 := by omega
 have l1 : 0 ≤ L := by omega
 have l2 : L < 18446744073709551616 := by omega
 by_cases hl : L = 0
 ·have HP : Hid (P - 1 = (2 * n + b - 1) / 18446744073709551616) := by show _ = _; omega
  obtain ⟨M, gw⟩ : ∃ M : Int, IntKind.u64.wrap (-1) = M := ⟨_, rfl⟩
  have HL : Hid (M = (2 * n + b - 1) % 18446744073709551616) := by show _ = _; rw [← gw, IntKind.wrap_u64]; omega
  have p3 : 1 ≤ P := by omega
  clear hP hL l1 l2
  subst hl
  have q1 : ((((w2.setCell ⟨w1.heap.size, 0, none⟩ (.int .u64 P)).setCell ⟨w1.heap.size, 1, none⟩ (.int .u64 0)).setCell ⟨w1.heap.size, 0, none⟩ (.int .u64 (P - 1))).setCell ⟨w1.heap.size, 1, none⟩ (.int .u64 M)).cell? ⟨w1.heap.size, 1, none⟩ = some (.int .u64 M) := by
   apply World.cell?_setCell_same (u := .int .u64 0)
   rw [World.cell?_setCell_other _ _ _ _ (by simp)]
   apply World.cell?_setCell_same (u := .int .u64 B)
   rw [World.cell?_setCell_other _ _ _ _ (by simp)]
   exact c1
  go_wp2_with fail
  rw [HP.out, HL.out]
  refine (over_any (2 * n + b - 1) (2 * b) 4398046511104 _ (by omega) (by omega) (by omega) (by omega) (by omega)).mono ?_
  rintro e w3 ⟨r, rfl, r0, r1, r2, r3, hk⟩
  have HK3 : Hid (Kp w w3) := ((((HK2.out.setCell (by simp <;> omega) _).setCell (by simp <;> omega) _).setCell (by simp <;> omega) _).setCell (by simp <;> omega) _).trans hk
  have R3 : Hid _ := r3
  clear hk HK2 c0 c1 f0 r3
  go_wp2_with fail
  refine (cut_any _ _).mono ?_
  rintro e w4 ⟨rfl, rfl⟩
  go_wp2
  go_ret
  exact ⟨r, rfl, r0, r1, r2, R3.out, HK3.out⟩
 ·have HP : Hid (P = (2 * n + b - 1) / 18446744073709551616) := by show _ = _; omega
  have HL : Hid (L - 1 = (2 * n + b - 1) % 18446744073709551616) := by show _ = _; omega
  have hl1 : (L == 0) = false := by simpa using hl
  have l3 : 1 ≤ L := by omega
  clear hP hL
  have q1 : (((w2.setCell ⟨w1.heap.size, 0, none⟩ (.int .u64 P)).setCell ⟨w1.heap.size, 1, none⟩ (.int .u64 L)).setCell ⟨w1.heap.size, 1, none⟩ (.int .u64 (L - 1))).cell? ⟨w1.heap.size, 1, none⟩ = some (.int .u64 (L - 1)) := by
   apply World.cell?_setCell_same (u := .int .u64 L)
   apply World.cell?_setCell_same (u := .int .u64 B)
   rw [World.cell?_setCell_other _ _ _ _ (by simp)]
   exact c1
  go_wp2_with fail
  rw [HP.out, HL.out]
  refine (over_any (2 * n + b - 1) (2 * b) 4398046511104 _ (by omega) (by omega) (by omega) (by omega) (by omega)).mono ?_
  rintro e w3 ⟨r, rfl, r0, r1, r2, r3, hk⟩
  have HK3 : Hid (Kp w w3) := (((HK2.out.setCell (by simp <;> omega) _).setCell (by simp <;> omega) _).setCell (by simp <;> omega) _).trans hk
  have R3 : Hid _ := r3
  clear hk HK2 c0 c1 f0 r3
  go_wp2_with fail
  refine (cut_any _ _).mono ?_
  rintro e w4 ⟨rfl, rfl⟩
  go_wp2
  go_ret
  exact ⟨r, rfl, r0, r1, r2, R3.out, HK3.out⟩
theorem quot_uniq (m d r : Int) (hd : 0 < d) (h1 : r * d ≤ m) (h2 : m < (r + 1) * d) : m / d = r := by
 have a1 : r ≤ m / d := (Int.le_ediv_iff_mul_le hd).2 h1
 have a2 : m / d < r + 1 := (Int.ediv_lt_iff_lt_mul hd).2 h2
 omega
theorem quot_pos (m d r : Int) (hd : 0 < d) (h0 : 0 ≤ r) (h1 : r * d ≤ m) (h2 : r = 4398046511104 ∨ m < (r + 1) * d) :
  cutV (m / d) (-1099511627776) 1099511627776 = cutM r := by
 have a1 : r ≤ m / d := (Int.le_ediv_iff_mul_le hd).2 h1
 unfold cutV cutM
 rcases h2 with h2 | h2
 ·omega
 ·have := quot_uniq m d r hd h1 h2; omega
theorem quot_neg (m d r : Int) (hd : 0 < d) (h0 : 0 ≤ r) (h1 : r * d ≤ m) (h2 : r = 4398046511104 ∨ m < (r + 1) * d) :
  cutV (-(m / d)) (-1099511627776) 1099511627776 = cutM (-r) := by
 have a1 : r ≤ m / d := (Int.le_ediv_iff_mul_le hd).2 h1
 unfold cutV cutM
 rcases h2 with h2 | h2
 ·omega
 ·have := quot_uniq m d r hd h1 h2; omega
theorem neg_quot (m y : Int) (hy : 0 < y) : (y - 2 * m) / (2 * y) = -((2 * m + y - 1) / (2 * y)) := by
 have h1 := Int.mul_ediv_add_emod (2 * m + y - 1) (2 * y)
 have h2 := Int.emod_nonneg (2 * m + y - 1) (b := 2 * y) (by omega)
 have h3 := Int.emod_lt_of_pos (2 * m + y - 1) (b := 2 * y) (by omega)
 generalize (2 * m + y - 1) / (2 * y) = q at *
 generalize (2 * m + y - 1) % (2 * y) = r at *
 apply quot_uniq _ _ _ (by omega)
 ·rw [Int.neg_mul, Int.mul_comm q]; omega
 ·rw [Int.add_mul, Int.neg_mul, Int.mul_comm q]; omega
set_option maxHeartbeats 1000000 in
theorem sfixDiv_yes (a b : Int) (w : World) (a1 : -1099511627776 ≤ a) (a2 : a ≤ 1099511627776) (b1 : -1099511627776 ≤ b) (b2 : b ≤ 1099511627776) (b0 : b ≠ 0) :
  Calls Tryz.prog 110 #[.int .i64 a, .int .i64 b] w fun e w' => e = .returned (.int .i64 (cutV (nearQ (a * 65536) b) (-1099511627776) 1099511627776)) ∧ Kp w w' := by
 have hz : (b == 0) = false := by simpa using b0
 by_cases ha : a < 0
 ·have hda : decide (a < 0) = true := by simpa using ha
  by_cases hb : b < 0
  ·have hdb : decide (b < 0) = true := by simpa using hb
   have HE : Hid (nearQ (a * 65536) b = (2 * (-a * 65536) + -b) / (2 * -b)) := by show _ = _; unfold nearQ; rw [if_pos hb]; congr 1 <;> omega
   go_enter Tryz.func110, Tryz.ntmps110
   go_wp2_with (go_at_call 119; refine (sgoodQ_yes _ _ (by omega) (by omega)).mono ?_; rintro e w' ⟨rfl, rfl⟩)
   refine (abs_neg a _ (by omega) ha).mono ?_
   rintro e w' ⟨rfl, rfl⟩
   go_wp2_with fail
   refine (times_any (-a) 65536 _ (by omega) (by omega) (by omega) (by omega)).mono ?_
   rintro e w' ⟨rfl, c1, rfl⟩
   go_wp2_with fail
   refine (abs_neg b _ (by omega) hb).mono ?_
   rintro e w' ⟨rfl, rfl⟩
   go_wp2_with fail
   refine (near_pos (-a * 65536) (-b) _ (by omega) (by omega) (by omega) (by omega)).mono ?_
   rintro e w1 ⟨r, rfl, r0, r1, r2, r3, hk⟩
   have HR : Hid _ := quot_pos _ _ r (by omega) r0 r2 r3
   have HK : Hid _ := hk
   clear r2 r3 hk
   go_wp2
   go_ret
   exact ⟨ret_int (by rw [HE.out]; exact HR.out.symm), ((Kp.refl _).alloc _ _).trans HK.out⟩
  ·have hdb : decide (b < 0) = false := by simpa using hb
   have HE : Hid (nearQ (a * 65536) b = -((2 * (-a * 65536) + b - 1) / (2 * b))) := by show _ = _; rw [← neg_quot _ _ (by omega)]; unfold nearQ; rw [if_neg hb]; congr 1 <;> omega
   go_enter Tryz.func110, Tryz.ntmps110
   go_wp2_with (go_at_call 119; refine (sgoodQ_yes _ _ (by omega) (by omega)).mono ?_; rintro e w' ⟨rfl, rfl⟩)
   refine (abs_neg a _ (by omega) ha).mono ?_
   rintro e w' ⟨rfl, rfl⟩
   go_wp2_with fail
   refine (times_any (-a) 65536 _ (by omega) (by omega) (by omega) (by omega)).mono ?_
   rintro e w' ⟨rfl, c1, rfl⟩
   go_wp2_with fail
   refine (abs_nn b _ (by omega)).mono ?_
   rintro e w' ⟨rfl, rfl⟩
   go_wp2_with fail
   refine (near_neg (-a * 65536) (b) _ (by omega) (by omega) (by omega) (by omega)).mono ?_
   rintro e w1 ⟨r, rfl, r0, r1, r2, r3, hk⟩
   have HR : Hid _ := quot_neg _ _ r (by omega) r0 r2 r3
   have HK : Hid _ := hk
   clear r2 r3 hk
   go_wp2
   go_ret
   exact ⟨ret_int (by rw [HE.out]; exact HR.out.symm), ((Kp.refl _).alloc _ _).trans HK.out⟩
 ·have hda : decide (a < 0) = false := by simpa using ha
  by_cases hb : b < 0
  ·have hdb : decide (b < 0) = true := by simpa using hb
   have HE : Hid (nearQ (a * 65536) b = -((2 * (a * 65536) + -b - 1) / (2 * -b))) := by show _ = _; rw [← neg_quot _ _ (by omega)]; unfold nearQ; rw [if_pos hb]; congr 1 <;> omega
   go_enter Tryz.func110, Tryz.ntmps110
   go_wp2_with (go_at_call 119; refine (sgoodQ_yes _ _ (by omega) (by omega)).mono ?_; rintro e w' ⟨rfl, rfl⟩)
   refine (abs_nn a _ (by omega)).mono ?_
   rintro e w' ⟨rfl, rfl⟩
   go_wp2_with fail
   refine (times_any (a) 65536 _ (by omega) (by omega) (by omega) (by omega)).mono ?_
   rintro e w' ⟨rfl, c1, rfl⟩
   go_wp2_with fail
   refine (abs_neg b _ (by omega) hb).mono ?_
   rintro e w' ⟨rfl, rfl⟩
   go_wp2_with fail
   refine (near_neg (a * 65536) (-b) _ (by omega) (by omega) (by omega) (by omega)).mono ?_
   rintro e w1 ⟨r, rfl, r0, r1, r2, r3, hk⟩
   have HR : Hid _ := quot_neg _ _ r (by omega) r0 r2 r3
   have HK : Hid _ := hk
   clear r2 r3 hk
   go_wp2
   go_ret
   exact ⟨ret_int (by rw [HE.out]; exact HR.out.symm), ((Kp.refl _).alloc _ _).trans HK.out⟩
  ·have hdb : decide (b < 0) = false := by simpa using hb
   have HE : Hid (nearQ (a * 65536) b = (2 * (a * 65536) + b) / (2 * b)) := by show _ = _; unfold nearQ; rw [if_neg hb]
   go_enter Tryz.func110, Tryz.ntmps110
   go_wp2_with (go_at_call 119; refine (sgoodQ_yes _ _ (by omega) (by omega)).mono ?_; rintro e w' ⟨rfl, rfl⟩)
   refine (abs_nn a _ (by omega)).mono ?_
   rintro e w' ⟨rfl, rfl⟩
   go_wp2_with fail
   refine (times_any (a) 65536 _ (by omega) (by omega) (by omega) (by omega)).mono ?_
   rintro e w' ⟨rfl, c1, rfl⟩
   go_wp2_with fail
   refine (abs_nn b _ (by omega)).mono ?_
   rintro e w' ⟨rfl, rfl⟩
   go_wp2_with fail
   refine (near_pos (a * 65536) (b) _ (by omega) (by omega) (by omega) (by omega)).mono ?_
   rintro e w1 ⟨r, rfl, r0, r1, r2, r3, hk⟩
   have HR : Hid _ := quot_pos _ _ r (by omega) r0 r2 r3
   have HK : Hid _ := hk
   clear r2 r3 hk
   go_wp2
   go_ret
   exact ⟨ret_int (by rw [HE.out]; exact HR.out.symm), ((Kp.refl _).alloc _ _).trans HK.out⟩
theorem sfixDiv_no (a b : Int) (w : World) (h : ¬ (-1099511627776 ≤ a ∧ a ≤ 1099511627776)) :
  Calls Tryz.prog 110 #[.int .i64 a, .int .i64 b] w fun e w' => e = .returned (.int .i64 0) ∧ w' = w := by
 have H : Hid _ := h
 clear h
 go_enter Tryz.func110, Tryz.ntmps110
 go_wp2_with (go_at_call 119; refine (sgoodQ_no a _ H.out).mono ?_; rintro e w' ⟨rfl, rfl⟩)
 go_ret
 exact ⟨rfl, rfl⟩
theorem sfixDiv_no2 (a b : Int) (w : World) (a1 : -1099511627776 ≤ a) (a2 : a ≤ 1099511627776) (h : ¬ (-1099511627776 ≤ b ∧ b ≤ 1099511627776)) :
  Calls Tryz.prog 110 #[.int .i64 a, .int .i64 b] w fun e w' => e = .returned (.int .i64 0) ∧ w' = w := by
 have H : Hid _ := h
 clear h
 go_enter Tryz.func110, Tryz.ntmps110
 go_wp2_with fail
 refine (sgoodQ_yes a _ a1 a2).mono ?_; rintro e w' ⟨rfl, rfl⟩
 go_wp2_with fail
 refine (sgoodQ_no b _ H.out).mono ?_; rintro e w' ⟨rfl, rfl⟩
 go_wp2
 go_ret
 exact ⟨rfl, rfl⟩
theorem sfixDiv_no3 (a : Int) (w : World) (a1 : -1099511627776 ≤ a) (a2 : a ≤ 1099511627776) :
  Calls Tryz.prog 110 #[.int .i64 a, .int .i64 0] w fun e w' => e = .returned (.int .i64 0) ∧ w' = w := by
 go_enter Tryz.func110, Tryz.ntmps110
 go_wp2_with (go_at_call 119; refine (sgoodQ_yes _ _ (by omega) (by omega)).mono ?_; rintro e w' ⟨rfl, rfl⟩)
 go_ret
 exact ⟨rfl, rfl⟩
set_option maxHeartbeats 400000 in
theorem divDown_any (a b : Int) (w : World) (hb : 0 < b) (hb' : b ≤ 4611686018427387904) (h1 : -4611686018427387904 ≤ a) (h2 : a ≤ 4611686018427387904) :
  Calls Tryz.prog 84 #[.int .i64 a, .int .i64 b] w fun e w' => e = .returned (.int .i64 (a / b)) ∧ w' = w := by
 by_cases ha : 0 ≤ a
 ·have hd := ediv_bd a b ha hb
  have hm := Int.emod_nonneg a (b := b) (by omega)
  have hm' := Int.emod_lt_of_pos a hb
  go_enter Tryz.func84, Tryz.ntmps84
  go_wp2
  all_goals go_ret
  all_goals exact ⟨rfl, rfl⟩
 ·have e1 := tdiv_neg_of a b (by omega)
  have e2 := tmod_neg_of a b (by omega)
  have e3 := ediv_neg_of a b hb
  have hd := ediv_bd (-a) b (by omega) hb
  have hm := Int.emod_nonneg (-a) (b := b) (by omega)
  have hm' := Int.emod_lt_of_pos (-a) hb
  by_cases hz : (-a) % b = 0
  ·rw [if_pos hz] at e3
   rw [e3]
   clear e3
   generalize (-a) / b = q at *
   generalize (-a) % b = r at *
   go_enter Tryz.func84, Tryz.ntmps84
   go_wp2
   all_goals go_ret
   all_goals exact ⟨rfl, rfl⟩
  ·rw [if_neg hz] at e3
   rw [e3]
   clear e3
   generalize (-a) / b = q at *
   generalize (-a) % b = r at *
   go_enter Tryz.func84, Tryz.ntmps84
   go_wp2
   all_goals go_ret
   all_goals exact ⟨rfl, rfl⟩
end Go.Proofs.YtnkeljmecbohkaaGreat
