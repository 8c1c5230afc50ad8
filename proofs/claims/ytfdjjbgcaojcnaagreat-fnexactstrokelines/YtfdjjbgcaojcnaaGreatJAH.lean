/-
  What the program's own division helpers answer: nearest, cut
-/
import Derived.Test.YtfdjjbgcaojcnaaGreatJAG
import Derived.Test.YtfdjjbgcaojcnaaGreatJAA
import Derived.Laws.Bits64b
import Derived.StillTactics
import Derived.Laws.Pointers
import Derived.Deep.RegionHeld3
namespace Go.Proofs.YtfdjjbgcaojcnaaGreat
open Go.ChangeShapes Go.WideShapes Go.ChangeAt Go.RowKit
def nearV (a b : Int) : Int := if b < 0 then (2 * -a + -b) / (2 * -b) else (2 * a + b) / (2 * b)
set_option maxHeartbeats 400000 in
theorem nearest_any (a b : Int) (w : World) (hb : b ≠ 0) (hb1 : -1152921504606846976 ≤ b) (hb2 : b ≤ 1152921504606846976) (h1 : -1152921504606846976 ≤ a) (h2 : a ≤ 1152921504606846976) :
  Calls Tryz.prog 117 #[.int .i64 a, .int .i64 b] w fun e w' => e = .returned (.int .i64 (nearV a b)) ∧ w' = w := by
 by_cases hn : b < 0
 ·have e : nearV a b = (2 * -a + -b) / (2 * -b) := by unfold nearV; rw [if_pos hn]
  rw [e]; clear e
  go_enter Tryz.func117, Tryz.ntmps117
  go_wp2_with (go_at_call 84; refine (divDown_any _ _ _ (by omega) (by omega) (by omega) (by omega)).mono ?_; rintro e w' ⟨rfl, rfl⟩)
  go_ret
  exact ⟨rfl, rfl⟩
 ·have e : nearV a b = (2 * a + b) / (2 * b) := by unfold nearV; rw [if_neg hn]
  rw [e]; clear e
  go_enter Tryz.func117, Tryz.ntmps117
  go_wp2_with (go_at_call 84; refine (divDown_any _ _ _ (by omega) (by omega) (by omega) (by omega)).mono ?_; rintro e w' ⟨rfl, rfl⟩)
  go_ret
  exact ⟨rfl, rfl⟩
def cutV (x least greatest : Int) : Int := max least (min x greatest)
set_option maxHeartbeats 400000 in
theorem cutTo_any (x l g : Int) (w : World) :
  Calls Tryz.prog 116 #[.int .i64 x, .int .i64 l, .int .i64 g] w fun e w' => e = .returned (.int .i64 (cutV x l g)) ∧ w' = w := by
 go_enter Tryz.func116, Tryz.ntmps116
 go_wp2
 all_goals go_ret
 all_goals exact ⟨ret_int (by unfold cutV; omega), rfl⟩
def divV (a b : Int) : Int := if -1099511627776 ≤ a ∧ a ≤ 1099511627776 ∧ -1099511627776 ≤ b ∧ b ≤ 1099511627776 ∧ b ≠ 0 then cutV (nearV (a * 65536) b) (-1099511627776) 1099511627776 else 0
set_option maxHeartbeats 800000 in
theorem fixDiv_yes (a b : Int) (w : World) (a1 : -1099511627776 ≤ a) (a2 : a ≤ 1099511627776) (b1 : -1099511627776 ≤ b) (b2 : b ≤ 1099511627776) (b0 : b ≠ 0) :
  Calls Tryz.prog 105 #[.int .i64 a, .int .i64 b] w fun e w' => e = .returned (.int .i64 (cutV (nearV (a * 65536) b) (-1099511627776) 1099511627776)) ∧ w' = w := by
 have hz : (b == 0) = false := by simpa using b0
 go_enter Tryz.func105, Tryz.ntmps105
 go_wp2_with (first | (go_at_call 117; refine (nearest_any _ _ _ (by omega) (by omega) (by omega) (by omega) (by omega)).mono ?_; rintro e w' ⟨rfl, rfl⟩) | (go_at_call 116; refine (cutTo_any _ _ _ _).mono ?_; rintro e w' ⟨rfl, rfl⟩) | go_in)
 go_ret
 exact ⟨rfl, rfl⟩
theorem half_mul (a b : Int) (ha : 0 ≤ a) (ha' : a ≤ 4294967295) (hb : 0 ≤ b) (hb' : b ≤ 4294967295) : 0 ≤ a * b ∧ a * b ≤ 18446744065119617025 :=
 ⟨Int.mul_nonneg ha hb, Int.mul_le_mul ha' hb' hb (by omega)⟩
theorem or_low (m r : Int) (hr : 0 ≤ r) (hr' : r < 4294967296) : bits .or .u64 (IntKind.u64.wrap (m * 4294967296)) r = (m % 4294967296) * 4294967296 + r := by
 have e : IntKind.u64.wrap (m * 4294967296) = (m % 4294967296) * 4294967296 := by rw [IntKind.wrap_u64]; omega
 rw [e]
 obtain ⟨x, hx⟩ := Int.eq_ofNat_of_zero_le (a := m % 4294967296) (by omega)
 obtain ⟨y, rfl⟩ := Int.eq_ofNat_of_zero_le hr
 rw [hx]
 have hx' : x < 4294967296 := by omega
 have h := bits_or_u64_nat (x * 4294967296) y (by omega) (by omega)
 have h2 := Nat.two_pow_add_eq_or_of_lt (i := 32) (b := y) (by omega) x
 have e2 : ((x : Int) * 4294967296) = ((x * 4294967296 : Nat) : Int) := by omega
 have e3 : x * 4294967296 = 2 ^ 32 * x := by omega
 rw [e2, h, e3, ← h2]
 omega
theorem split_prod (a b : Int) : a * b = a / 4294967296 * (b / 4294967296) * 18446744073709551616 + (a / 4294967296 * (b % 4294967296) + a % 4294967296 * (b / 4294967296)) * 4294967296 + a % 4294967296 * (b % 4294967296) := by
 have h1 := Int.mul_ediv_add_emod a 4294967296
 have h2 := Int.mul_ediv_add_emod b 4294967296
 generalize a / 4294967296 = y at *
 generalize a % 4294967296 = x at *
 generalize b / 4294967296 = v at *
 generalize b % 4294967296 = u at *
 rw [← h1, ← h2, Int.add_mul, Int.mul_add, Int.mul_add]
 have e1 : 4294967296 * y * (4294967296 * v) = y * v * 18446744073709551616 := by
  rw [Int.mul_assoc, Int.mul_left_comm y 4294967296 v]; omega
 have e2 : 4294967296 * y * u = y * u * 4294967296 := by rw [Int.mul_assoc]; omega
 have e3 : x * (4294967296 * v) = x * v * 4294967296 := by rw [Int.mul_left_comm]; omega
 rw [e1, e2, e3]; omega
theorem times_eqs (a b : Int) (ha : 0 ≤ a) (ha' : a < 18446744073709551616) (hb : 0 ≤ b) (hb' : b < 18446744073709551616) :
    (a / 4294967296 * (b / 4294967296) + (a / 4294967296 * (b % 4294967296) + a % 4294967296 * (b % 4294967296) / 4294967296) / 4294967296 +
          (a % 4294967296 * (b / 4294967296) + (a / 4294967296 * (b % 4294967296) + a % 4294967296 * (b % 4294967296) / 4294967296) % 4294967296) / 4294967296 = a * b / 18446744073709551616) ∧
    (bits BinOp.or IntKind.u64 (IntKind.u64.wrap ((a % 4294967296 * (b / 4294967296) + (a / 4294967296 * (b % 4294967296) + a % 4294967296 * (b % 4294967296) / 4294967296) % 4294967296) * 4294967296))
          (a % 4294967296 * (b % 4294967296) % 4294967296) = a * b % 18446744073709551616) := by
  obtain ⟨p1, p2⟩ := half_mul (a % 4294967296) (b % 4294967296) (by omega) (by omega) (by omega) (by omega)
  obtain ⟨q1, q2⟩ := half_mul (a / 4294967296) (b % 4294967296) (by omega) (by omega) (by omega) (by omega)
  obtain ⟨r1, r2⟩ := half_mul (a % 4294967296) (b / 4294967296) (by omega) (by omega) (by omega) (by omega)
  obtain ⟨s1, s2⟩ := half_mul (a / 4294967296) (b / 4294967296) (by omega) (by omega) (by omega) (by omega)
  have e := split_prod a b
  generalize a / 4294967296 * (b / 4294967296) = s at *
  generalize a / 4294967296 * (b % 4294967296) = q at *
  generalize a % 4294967296 * (b / 4294967296) = r at *
  generalize a % 4294967296 * (b % 4294967296) = p at *
  rw [e, or_low _ _ (by omega) (by omega)]
  exact ⟨by omega, by omega⟩
set_option maxHeartbeats 1000000 in
theorem times_any (a b : Int) (w : World) (ha : 0 ≤ a) (ha' : a < 18446744073709551616) (hb : 0 ≤ b) (hb' : b < 18446744073709551616) :
  Calls Tryz.prog 121 #[.int .u64 a, .int .u64 b] w fun e w' => e = .returned (.agg #[.int .u64 (a * b / 18446744073709551616), .int .u64 (a * b % 18446744073709551616)]) ∧ ∃ c1 : Array Value, w' = w.alloc (.cells c1 149) := by
 obtain ⟨p1, p2⟩ := half_mul (a % 4294967296) (b % 4294967296) (by omega) (by omega) (by omega) (by omega)
 obtain ⟨q1, q2⟩ := half_mul (a / 4294967296) (b % 4294967296) (by omega) (by omega) (by omega) (by omega)
 obtain ⟨r1, r2⟩ := half_mul (a % 4294967296) (b / 4294967296) (by omega) (by omega) (by omega) (by omega)
 obtain ⟨s1, s2⟩ := half_mul (a / 4294967296) (b / 4294967296) (by omega) (by omega) (by omega) (by omega)
 go_enter Tryz.func121, Tryz.ntmps121
 go_wp2
 simp [bodyPost, results, Tryz.results121, go_sem]
 exact ⟨times_eqs a b ha ha' hb hb', _, rfl⟩
set_option maxHeartbeats 1000000 in
theorem less_any (a b : Int) (w : World) :
  Calls Tryz.prog 137 #[.agg #[.int .u64 (a / 18446744073709551616), .int .u64 (a % 18446744073709551616)], .agg #[.int .u64 (b / 18446744073709551616), .int .u64 (b % 18446744073709551616)]] w fun e w' => e = .returned (.bool (decide (a < b))) ∧ ∃ c1 c2 : Array Value, w' = (w.alloc (.cells c1 149)).alloc (.cells c2 149) := by
 have h1 : a / 18446744073709551616 < b / 18446744073709551616 ∨ (a / 18446744073709551616 = b / 18446744073709551616 ∧ a % 18446744073709551616 < b % 18446744073709551616) ↔ a < b := by omega
 generalize a / 18446744073709551616 = p at *
 generalize a % 18446744073709551616 = q at *
 generalize b / 18446744073709551616 = r at *
 generalize b % 18446744073709551616 = s at *
 by_cases c1 : p < r
 ·have e : decide (a < b) = true := by simp only [decide_eq_true_eq]; exact h1.1 (Or.inl c1)
  rw [e]; clear e h1
  go_enter Tryz.func137, Tryz.ntmps137
  go_wp2
  go_ret
  exact ⟨rfl, _, _, rfl⟩
 by_cases c2 : p = r
 ·subst c2
  by_cases c3 : q < s
  ·have e : decide (a < b) = true := by simp only [decide_eq_true_eq]; exact h1.1 (Or.inr ⟨rfl, c3⟩)
   rw [e]; clear e h1
   go_enter Tryz.func137, Tryz.ntmps137
   go_wp2
   go_ret
   exact ⟨rfl, _, _, rfl⟩
  ·have e : decide (a < b) = false := by simp only [decide_eq_false_iff_not]; intro h; have := h1.2 h; omega
   rw [e]; clear e h1
   go_enter Tryz.func137, Tryz.ntmps137
   go_wp2
   go_ret
   exact ⟨rfl, _, _, rfl⟩
 ·have e : decide (a < b) = false := by simp only [decide_eq_false_iff_not]; intro h; have := h1.2 h; omega
  rw [e]; clear e h1
  go_enter Tryz.func137, Tryz.ntmps137
  go_wp2
  go_ret
  exact ⟨rfl, _, _, rfl⟩
theorem less_at (a b p q : Int) (hp : a / 18446744073709551616 = p) (hq : a % 18446744073709551616 = q) (w : World) :
  Calls Tryz.prog 137 #[.agg #[.int .u64 p, .int .u64 q], .agg #[.int .u64 (b / 18446744073709551616), .int .u64 (b % 18446744073709551616)]] w fun e w' => e = .returned (.bool (decide (a < b))) ∧ ∃ c1 c2 : Array Value, w' = (w.alloc (.cells c1 149)).alloc (.cells c2 149) := by
 rw [← hp, ← hq]; exact less_any a b w
set_option maxHeartbeats 1000000 in
theorem plus_any (p q b : Int) (w : World) (hp : 0 ≤ p) (hp' : p < 18446744073709551615) (hq : 0 ≤ q) (hq' : q < 18446744073709551616) (hb : 0 ≤ b) (hb' : b < 18446744073709551616) :
  Calls Tryz.prog 129 #[.agg #[.int .u64 p, .int .u64 q], .int .u64 b] w fun e w' => e = .returned (.agg #[.int .u64 ((p * 18446744073709551616 + q + b) / 18446744073709551616), .int .u64 ((p * 18446744073709551616 + q + b) % 18446744073709551616)]) ∧ Kp w w' := by
 by_cases c : q + b < 18446744073709551616
 ·have e1 : (p * 18446744073709551616 + q + b) / 18446744073709551616 = p := by omega
  have e2 : (p * 18446744073709551616 + q + b) % 18446744073709551616 = q + b := by omega
  rw [e1, e2]; clear e1 e2
  go_enter Tryz.func129, Tryz.ntmps129
  go_wp2
  simp [bodyPost, results, Tryz.results129, go_sem]
  exact ((Kp.refl w).alloc _ _).alloc _ _
 ·have e1 : (p * 18446744073709551616 + q + b) / 18446744073709551616 = p + 1 := by omega
  have e2 : (p * 18446744073709551616 + q + b) % 18446744073709551616 = q + b - 18446744073709551616 := by omega
  rw [e1, e2]; clear e1 e2
  have hw : IntKind.u64.wrap (q + b) = q + b - 18446744073709551616 := by rw [IntKind.wrap_u64]; omega
  go_enter Tryz.func129, Tryz.ntmps129
  go_wp2
  simp [bodyPost, results, Tryz.results129, go_sem]
  exact ((Kp.refl w).alloc _ _).alloc _ _
set_option maxHeartbeats 1000000 in
theorem sum_any (n m : Int) (w : World) (hn : 0 ≤ n) (hn' : n < 85070591730234615865843651857942052864) (hm : 0 ≤ m) (hm' : m < 85070591730234615865843651857942052864) :
  Calls Tryz.prog 128 #[.agg #[.int .u64 (n / 18446744073709551616), .int .u64 (n % 18446744073709551616)], .agg #[.int .u64 (m / 18446744073709551616), .int .u64 (m % 18446744073709551616)]] w fun e w' => e = .returned (.agg #[.int .u64 ((n + m) / 18446744073709551616), .int .u64 ((n + m) % 18446744073709551616)]) ∧ Kp w w' := by
 have e1 : (n + m) / 18446744073709551616 = (n / 18446744073709551616 * 18446744073709551616 + n % 18446744073709551616 + m % 18446744073709551616) / 18446744073709551616 + m / 18446744073709551616 := by omega
 have e2 : (n + m) % 18446744073709551616 = (n / 18446744073709551616 * 18446744073709551616 + n % 18446744073709551616 + m % 18446744073709551616) % 18446744073709551616 := by omega
 have b1 : 0 ≤ n / 18446744073709551616 := by omega
 have b2 : n / 18446744073709551616 < 4611686018427387904 := by omega
 have b3 : 0 ≤ n % 18446744073709551616 := by omega
 have b4 : n % 18446744073709551616 < 18446744073709551616 := by omega
 have b5 : 0 ≤ m / 18446744073709551616 := by omega
 have b6 : m / 18446744073709551616 < 4611686018427387904 := by omega
 have b7 : 0 ≤ m % 18446744073709551616 := by omega
 have b8 : m % 18446744073709551616 < 18446744073709551616 := by omega
 rw [e1, e2]; clear e1 e2 hn hn' hm hm'
 generalize n / 18446744073709551616 = p at *
 generalize n % 18446744073709551616 = q at *
 generalize m / 18446744073709551616 = r at *
 generalize m % 18446744073709551616 = s at *
 have c1 : 0 ≤ (p * 18446744073709551616 + q + s) / 18446744073709551616 := by omega
 have c2 : (p * 18446744073709551616 + q + s) / 18446744073709551616 < 9223372036854775808 := by omega
 generalize hu : (p * 18446744073709551616 + q + s) / 18446744073709551616 = u at *
 generalize hv : (p * 18446744073709551616 + q + s) % 18446744073709551616 = v at *
 have HU : Hid (_ = u) := hu
 have HV : Hid (_ = v) := hv
 clear hu hv
 go_enter Tryz.func128, Tryz.ntmps128
 go_wp2_with fail
 refine (plus_any _ _ _ _ (by omega) (by omega) (by omega) (by omega) (by omega) (by omega)).mono ?_
 rintro e w1 ⟨rfl, hk⟩
 rw [HU.out, HV.out]
 obtain ⟨hc, hf⟩ := hk.cells
 have hz : w.heap.size + 3 ≤ w1.heap.size := by have := hk.size; simp at this; omega
 have c00 : w1.cell? ⟨w.heap.size, 0, none⟩ = some (.int .u64 p) := by rw [hc _ _ (by simp <;> omega)]; simp [go_sem]
 have c01 : w1.cell? ⟨w.heap.size, 1, none⟩ = some (.int .u64 q) := by rw [hc _ _ (by simp <;> omega)]; simp [go_sem]
 have c10 : w1.cell? ⟨w.heap.size + 1, 0, none⟩ = some (.int .u64 r) := by rw [hc _ _ (by simp <;> omega)]; simp [go_sem]
 have c11 : w1.cell? ⟨w.heap.size + 1, 1, none⟩ = some (.int .u64 s) := by rw [hc _ _ (by simp <;> omega)]; simp [go_sem]
 have c20 : w1.cell? ⟨w.heap.size + 1 + 1, 0, none⟩ = some (.int .u64 0) := by rw [hc _ _ (by simp <;> omega)]; simp [go_sem]
 have c21 : w1.cell? ⟨w.heap.size + 1 + 1, 1, none⟩ = some (.int .u64 0) := by rw [hc _ _ (by simp <;> omega)]; simp [go_sem]
 have f0 : ∀ o, w1.frozen? ⟨w.heap.size, o, none⟩ = false := by intro o; rw [hf]; simp [go_sem]
 have f2 : ∀ o, w1.frozen? ⟨w.heap.size + 1 + 1, o, none⟩ = false := by intro o; rw [hf]; simp [go_sem]
 have HK : Hid (Kp w w1) := ((((Kp.refl w).alloc _ _).alloc _ _).alloc _ _).trans hk
 clear hc hf hk
 go_wp2
 simp [bodyPost, results, Tryz.results128, go_sem, c20, c21]
 exact ((((HK.out.setCell (by simp) _).setCell (by simp) _).setCell (by simp) _).setCell (by simp <;> omega) _).setCell (by simp <;> omega) _
theorem box_alloc {B : Nat} {W : World} {p q : Value} (h : W.cell? ⟨B, 0, none⟩ = some p ∧ W.cell? ⟨B, 1, none⟩ = some q ∧ B < W.heap.size) (o : Obj) :
  (W.alloc o).cell? ⟨B, 0, none⟩ = some p ∧ (W.alloc o).cell? ⟨B, 1, none⟩ = some q ∧ B < (W.alloc o).heap.size := by
 obtain ⟨h1, h2, h3⟩ := h
 exact ⟨by rw [World.cell?_alloc_past _ _ _ h3]; exact h1, by rw [World.cell?_alloc_past _ _ _ h3]; exact h2, by simp; omega⟩
set_option maxHeartbeats 2000000 in
theorem over_any (n b most : Int) (w : World) (hn : 0 ≤ n) (hb : 0 < b) (hb' : b < 4611686018427387904) (hm : 0 ≤ most) (hm' : most < 4611686018427387904) :
  Calls Tryz.prog 130 #[.agg #[.int .u64 (n / 18446744073709551616), .int .u64 (n % 18446744073709551616)], .int .u64 b, .int .u64 most] w fun e w' => ∃ r : Int, e = .returned (.int .u64 r) ∧ 0 ≤ r ∧ r ≤ most ∧ r * b ≤ n ∧ (r = most ∨ n < (r + 1) * b) ∧ Kp w w' := by
 generalize hp : n / 18446744073709551616 = p
 generalize hq : n % 18446744073709551616 = q
 have HP : Hid (_ = p) := hp
 have HQ : Hid (_ = q) := hq
 clear hp hq
 go_enter Tryz.func130, Tryz.ntmps130
 go_wp2
 go_loopw [7, 8] (fun lo hi W => ∃ l h : Int, 0 ≤ l ∧ l ≤ h ∧ h ≤ most ∧ lo = .int .u64 l ∧ hi = .int .u64 h ∧ l * b ≤ n ∧ (h = most ∨ n < (h + 1) * b) ∧ W.cell? ⟨w.heap.size, 0, none⟩ = some (.int .u64 p) ∧ W.cell? ⟨w.heap.size, 1, none⟩ = some (.int .u64 q) ∧ w.heap.size < W.heap.size ∧ Kp w W) (fun lo hi _ => (intOf hi - intOf lo).toNat)
 case atStart => exact ⟨0, most, by omega, hm, by omega, rfl, rfl, by omega, Or.inl rfl, by simp [go_sem], by simp [go_sem], by simp, (Kp.refl w).alloc _ _⟩
 case round =>
  obtain ⟨l, h, h0, h1, h2, rfl, rfl, h3, h4, c0, c1, hz, hk⟩ := hrel
  by_cases hlt : l < h
  ·have HK : Hid (Kp w wr) := hk
   have H4 : Hid (h = most ∨ n < (h + 1) * b) := h4
   clear hk h4
   by_cases hc : n < (l + (h - l + 1) / 2) * b
   ·have hd : decide (n < (l + (h - l + 1) / 2) * b) = true := by simpa using hc
    go_wp2
    go_region_held3 (fun w' => w'.cell? ⟨w.heap.size, 0, none⟩ = some (.int .u64 p) ∧ w'.cell? ⟨w.heap.size, 1, none⟩ = some (.int .u64 q) ∧ w.heap.size < w'.heap.size) (first | exact ⟨c0, c1, hz⟩ | exact box_alloc ⟨c0, c1, hz⟩ _ | exact box_alloc (box_alloc (box_alloc ⟨c0, c1, hz⟩ _) _) _)
     (first
      | (go_at_call 121; refine (times_any (l + (h - l + 1) / 2) b _ (by omega) (by omega) (by omega) (by omega)).mono ?_; rintro e w' ⟨rfl, o1, rfl⟩)
      | (go_at_call 137; refine (less_at n ((l + (h - l + 1) / 2) * b) p q HP.out HQ.out _).mono ?_; rintro e w' ⟨rfl, o2, o3, rfl⟩))
    go_wp2
    go_roundw
    case rel =>
     obtain ⟨d0, d1, dz⟩ := box_alloc (box_alloc (box_alloc ⟨c0, c1, hz⟩ (.cells o1 149)) (.cells o2 149)) (.cells o3 149)
     exact ⟨l, l + (h - l + 1) / 2 - 1, h0, by omega, by omega, rfl, rfl, h3, Or.inr (by rw [Int.sub_add_cancel]; exact hc), d0, d1, dz, (((HK.out.alloc _ _).alloc _ _).alloc _ _).drew⟩
    case measure => simp [intOf]; omega
   ·have hd : decide (n < (l + (h - l + 1) / 2) * b) = false := by simpa using hc
    go_wp2
    go_region_held3 (fun w' => w'.cell? ⟨w.heap.size, 0, none⟩ = some (.int .u64 p) ∧ w'.cell? ⟨w.heap.size, 1, none⟩ = some (.int .u64 q) ∧ w.heap.size < w'.heap.size) (first | exact ⟨c0, c1, hz⟩ | exact box_alloc ⟨c0, c1, hz⟩ _ | exact box_alloc (box_alloc (box_alloc ⟨c0, c1, hz⟩ _) _) _)
     (first
      | (go_at_call 121; refine (times_any (l + (h - l + 1) / 2) b _ (by omega) (by omega) (by omega) (by omega)).mono ?_; rintro e w' ⟨rfl, o1, rfl⟩)
      | (go_at_call 137; refine (less_at n ((l + (h - l + 1) / 2) * b) p q HP.out HQ.out _).mono ?_; rintro e w' ⟨rfl, o2, o3, rfl⟩))
    go_wp2
    go_roundw
    case rel =>
     obtain ⟨d0, d1, dz⟩ := box_alloc (box_alloc (box_alloc ⟨c0, c1, hz⟩ (.cells o1 149)) (.cells o2 149)) (.cells o3 149)
     exact ⟨l + (h - l + 1) / 2, h, by omega, by omega, h2, rfl, rfl, by omega, H4.out, d0, d1, dz, (((HK.out.alloc _ _).alloc _ _).alloc _ _).drew⟩
    case measure => simp [intOf]; omega
  ·obtain rfl : l = h := by omega
   have HK : Hid (Kp w wr) := hk
   have H4 : Hid (l = most ∨ n < (l + 1) * b) := h4
   clear hk h4
   go_wp2
   go_ret
   exact ⟨l, rfl, h0, h2, h3, H4.out, HK.out⟩
def cutM (x : Int) : Int := if 1099511627776 < x then 1099511627776 else if x < -1099511627776 then -1099511627776 else x
set_option maxHeartbeats 400000 in
theorem cut_any (x : Int) (w : World) : Calls Tryz.prog 131 #[.int .i64 x] w fun e w' => e = .returned (.int .i64 (cutM x)) ∧ w' = w := by
 go_enter Tryz.func131, Tryz.ntmps131
 go_wp2
 all_goals go_ret
 all_goals exact ⟨ret_int (by unfold cutM; omega), rfl⟩
def absV (x : Int) : Int := if x < 0 then -x else x
set_option maxHeartbeats 400000 in
theorem abs_any (x : Int) (w : World) (h : -9223372036854775807 ≤ x) : Calls Tryz.prog 122 #[.int .i64 x] w fun e w' => e = .returned (.int .i64 (absV x)) ∧ w' = w := by
 go_enter Tryz.func122, Tryz.ntmps122
 go_wp2
 all_goals go_ret
 all_goals exact ⟨ret_int (by unfold absV; omega), rfl⟩
theorem abs_neg (x : Int) (w : World) (h : -9223372036854775807 ≤ x) (hx : x < 0) : Calls Tryz.prog 122 #[.int .i64 x] w fun e w' => e = .returned (.int .i64 (-x)) ∧ w' = w := by
 have := abs_any x w h
 unfold absV at this; rw [if_pos hx] at this; exact this
theorem abs_nn (x : Int) (w : World) (hx : 0 ≤ x) : Calls Tryz.prog 122 #[.int .i64 x] w fun e w' => e = .returned (.int .i64 x) ∧ w' = w := by
 have := abs_any x w (by omega)
 unfold absV at this; rw [if_neg (by omega)] at this; exact this
theorem sgood_yes (x : Int) (w : World) (h1 : -1099511627776 ≤ x) (h2 : x ≤ 1099511627776) : Calls Tryz.prog 119 #[.int .i64 x] w fun e w' => e = .returned (.bool true) ∧ w' = w := by
 go_enter Tryz.func119, Tryz.ntmps119
 go_wp2
 go_ret
 exact ⟨rfl, rfl⟩
theorem sgood_no (x : Int) (w : World) (h : ¬ (-1099511627776 ≤ x ∧ x ≤ 1099511627776)) : Calls Tryz.prog 119 #[.int .i64 x] w fun e w' => e = .returned (.bool false) ∧ w' = w := by
 by_cases h1 : -1099511627776 ≤ x
 ·have h2 : 1099511627776 < x := by omega
  have h3 : decide (x ≤ 1099511627776) = false := by simp; omega
  clear h
  go_enter Tryz.func119, Tryz.ntmps119
  go_wp2
  go_ret
  exact ⟨rfl, rfl⟩
 ·clear h
  go_enter Tryz.func119, Tryz.ntmps119
  go_wp2
  go_ret
  exact ⟨rfl, rfl⟩
theorem igood_yes (x : Int) (w : World) (h1 : -1099511627776 ≤ x) (h2 : x ≤ 1099511627776) : Calls Tryz.prog 112 #[.int .i64 x] w fun e w' => e = .returned (.bool true) ∧ w' = w := by
 go_enter Tryz.func112, Tryz.ntmps112
 go_wp2
 go_ret
 exact ⟨rfl, rfl⟩
theorem igood_no (x : Int) (w : World) (h : ¬ (-1099511627776 ≤ x ∧ x ≤ 1099511627776)) : Calls Tryz.prog 112 #[.int .i64 x] w fun e w' => e = .returned (.bool false) ∧ w' = w := by
 by_cases h1 : -1099511627776 ≤ x
 ·have h2 : 1099511627776 < x := by omega
  have h3 : decide (x ≤ 1099511627776) = false := by simp; omega
  clear h
  go_enter Tryz.func112, Tryz.ntmps112
  go_wp2
  go_ret
  exact ⟨rfl, rfl⟩
 ·clear h
  go_enter Tryz.func112, Tryz.ntmps112
  go_wp2
  go_ret
  exact ⟨rfl, rfl⟩
theorem plus_wide (m b : Int) (w : World) (hm : 0 ≤ m) (hm' : m < 170141183460469231731687303715884105728) (hb : 0 ≤ b) (hb' : b < 18446744073709551616) :
  Calls Tryz.prog 129 #[.agg #[.int .u64 (m / 18446744073709551616), .int .u64 (m % 18446744073709551616)], .int .u64 b] w fun e w' => e = .returned (.agg #[.int .u64 ((m + b) / 18446744073709551616), .int .u64 ((m + b) % 18446744073709551616)]) ∧ Kp w w' := by
 have h := plus_any (m / 18446744073709551616) (m % 18446744073709551616) b w (by omega) (by omega) (by omega) (by omega) hb hb'
 rw [show m / 18446744073709551616 * 18446744073709551616 + m % 18446744073709551616 + b = m + b from by omega] at h
 exact h
set_option maxHeartbeats 2000000 in
theorem near_pos (n b : Int) (w : World) (hn : 0 ≤ n) (hn' : n < 42535295865117307932921825928971026432) (hb : 0 < b) (hb' : b < 1152921504606846976) :
  Calls Tryz.prog 120 #[.bool false, .agg #[.int .u64 (n / 18446744073709551616), .int .u64 (n % 18446744073709551616)], .int .u64 b] w fun e w' => ∃ r : Int, e = .returned (.int .i64 (cutM r)) ∧ 0 ≤ r ∧ r ≤ 4398046511104 ∧ r * (2 * b) ≤ 2 * n + b ∧ (r = 4398046511104 ∨ 2 * n + b < (r + 1) * (2 * b)) ∧ Kp w w' := by
 go_enter Tryz.func120, Tryz.ntmps120
 go_wp2_with fail
 refine (sum_any n n _ hn (by omega) hn (by omega)).mono ?_
 rintro e w1 ⟨rfl, hk⟩
 have hz : w.heap.size + 1 ≤ w1.heap.size := by have := hk.size; simp at this; omega
 have HK : Hid (Kp w w1) := ((Kp.refl w).alloc _ _).trans hk
 clear hk
 go_wp2_with fail
 refine (plus_wide (n + n) b _ (by omega) (by omega) (by omega) (by omega)).mono ?_
 rintro e w2 ⟨rfl, hk⟩
 obtain ⟨hc, hf⟩ := hk.cells
 have hz2 : w1.heap.size + 1 ≤ w2.heap.size := by have := hk.size; simp at this; omega
 have c0 : w2.cell? ⟨w1.heap.size, 0, none⟩ = some (.int .u64 ((n + n) / 18446744073709551616)) := by rw [hc _ _ (by simp)]; simp [go_sem]
 have c1 : w2.cell? ⟨w1.heap.size, 1, none⟩ = some (.int .u64 ((n + n) % 18446744073709551616)) := by rw [hc _ _ (by simp)]; simp [go_sem]
 have f0 : ∀ o, w2.frozen? ⟨w1.heap.size, o, none⟩ = false := by intro o; rw [hf]; simp [go_sem]
 have HK2 : Hid (Kp w w2) := (HK.out.alloc _ _).trans hk
 clear hk hc hf HK
 rw [show n + n + b = 2 * n + b from by omega]
 go_wp2_with fail
 refine (over_any (2 * n + b) (2 * b) 4398046511104 _ (by omega) (by omega) (by omega) (by omega) (by omega)).mono ?_
 rintro e w3 ⟨r, rfl, r0, r1, r2, r3, hk⟩
 have HK3 : Hid (Kp w w3) := ((HK2.out.setCell (by simp <;> omega) _).setCell (by simp <;> omega) _).trans hk
 have R3 : Hid _ := r3
 clear hk HK2 c0 c1 f0 r3
 go_wp2_with fail
 refine (cut_any _ _).mono ?_
 rintro e w4 ⟨rfl, rfl⟩
 go_wp2
 go_ret
 exact ⟨r, rfl, r0, r1, r2, R3.out, HK3.out⟩
set_option maxHeartbeats 2000000 in
theorem near_neg (n b : Int) (w : World) (hn : 0 ≤ n) (hn' : n < 42535295865117307932921825928971026432) (hb : 0 < b) (hb' : b < 1152921504606846976) :
  Calls Tryz.prog 120 #[.bool true, .agg #[.int .u64 (n / 18446744073709551616), .int .u64 (n % 18446744073709551616)], .int .u64 b] w fun e w' => ∃ r : Int, e = .returned (.int .i64 (cutM (-r))) ∧ 0 ≤ r ∧ r ≤ 4398046511104 ∧ r * (2 * b) ≤ 2 * n + b - 1 ∧ (r = 4398046511104 ∨ 2 * n + b - 1 < (r + 1) * (2 * b)) ∧ Kp w w' := by
 go_enter Tryz.func120, Tryz.ntmps120
 go_wp2_with fail
 refine (sum_any n n _ hn (by omega) hn (by omega)).mono ?_
 rintro e w1 ⟨rfl, hk⟩
 have hz : w.heap.size + 1 ≤ w1.heap.size := by have := hk.size; simp at this; omega
 have HK : Hid (Kp w w1) := ((Kp.refl w).alloc _ _).trans hk
 clear hk
 go_wp2_with fail
 refine (plus_wide (n + n) b _ (by omega) (by omega) (by omega) (by omega)).mono ?_
 rintro e w2 ⟨rfl, hk⟩
 obtain ⟨hc, hf⟩ := hk.cells
 have hz2 : w1.heap.size + 1 ≤ w2.heap.size := by have := hk.size; simp at this; omega
 have c0 : w2.cell? ⟨w1.heap.size, 0, none⟩ = some (.int .u64 ((n + n) / 18446744073709551616)) := by rw [hc _ _ (by simp)]; simp [go_sem]
 have c1 : w2.cell? ⟨w1.heap.size, 1, none⟩ = some (.int .u64 ((n + n) % 18446744073709551616)) := by rw [hc _ _ (by simp)]; simp [go_sem]
 have f0 : ∀ o, w2.frozen? ⟨w1.heap.size, o, none⟩ = false := by intro o; rw [hf]; simp [go_sem]
 have HK2 : Hid (Kp w w2) := (HK.out.alloc _ _).trans hk
 clear hk hc hf HK
 rw [show n + n + b = 2 * n + b from by omega]
 generalize hP : (2 * n + b) / 18446744073709551616 = P
 generalize hL : (2 * n + b) % 18446744073709551616 = L
 generalize (n + n) / 18446744073709551616 = A at *
 generalize (n + n) % 18446744073709551616 = B at *
 have p1 : 0 ≤ P := by omega
 have p2 : P < 9223372036854775807 := by omega
 have l1 : 0 ≤ L := by omega
 have l2 : L < 18446744073709551616 := by omega
 by_cases hl : L = 0
 ·have HP : Hid (P - 1 = (2 * n + b - 1) / 18446744073709551616) := by show _ = _; omega
  obtain ⟨M, gw⟩ : ∃ M : Int, IntKind.u64.wrap (-1) = M := ⟨_, rfl⟩
  have HL : Hid (M = (2 * n + b - 1) % 18446744073709551616) := by show _ = _; rw [← gw, IntKind.wrap_u64]; omega
  have p3 : 1 ≤ P := by omega
  clear hP hL l1 l2
  subst hl
  have q1 : ((((w2.setCell ⟨w1.heap.size, 0, none⟩ (.int .u64 P)).setCell ⟨w1.heap.size, 1, none⟩ (.int .u64 0)).setCell ⟨w1.heap.size, 0, none⟩ (.int .u64 (P - 1))).setCell ⟨w1.heap.size, 1, none⟩ (.int .u64 M)).cell? ⟨w1.heap.size, 1, none⟩ = some (.int .u64 M) := by
   apply World.cell?_setCell_same (u := .int .u64 0)
   rw [World.cell?_setCell_other _ _ _ _ (by simp)]
   apply World.cell?_setCell_same (u := .int .u64 B)
   rw [World.cell?_setCell_other _ _ _ _ (by simp)]
   exact c1
  go_wp2_with fail
  rw [HP.out, HL.out]
  refine (over_any (2 * n + b - 1) (2 * b) 4398046511104 _ (by omega) (by omega) (by omega) (by omega) (by omega)).mono ?_
  rintro e w3 ⟨r, rfl, r0, r1, r2, r3, hk⟩
  have HK3 : Hid (Kp w w3) := ((((HK2.out.setCell (by simp <;> omega) _).setCell (by simp <;> omega) _).setCell (by simp <;> omega) _).setCell (by simp <;> omega) _).trans hk
  have R3 : Hid _ := r3
  clear hk HK2 c0 c1 f0 r3
  go_wp2_with fail
  refine (cut_any _ _).mono ?_
  rintro e w4 ⟨rfl, rfl⟩
  go_wp2
  go_ret
  exact ⟨r, rfl, r0, r1, r2, R3.out, HK3.out⟩
 ·have HP : Hid (P = (2 * n + b - 1) / 18446744073709551616) := by show _ = _; omega
  have HL : Hid (L - 1 = (2 * n + b - 1) % 18446744073709551616) := by show _ = _; omega
  have hl1 : (L == 0) = false := by simpa using hl
  have l3 : 1 ≤ L := by omega
  clear hP hL
  have q1 : (((w2.setCell ⟨w1.heap.size, 0, none⟩ (.int .u64 P)).setCell ⟨w1.heap.size, 1, none⟩ (.int .u64 L)).setCell ⟨w1.heap.size, 1, none⟩ (.int .u64 (L - 1))).cell? ⟨w1.heap.size, 1, none⟩ = some (.int .u64 (L - 1)) := by
   apply World.cell?_setCell_same (u := .int .u64 L)
   apply World.cell?_setCell_same (u := .int .u64 B)
   rw [World.cell?_setCell_other _ _ _ _ (by simp)]
   exact c1
  go_wp2_with fail
  rw [HP.out, HL.out]
  refine (over_any (2 * n + b - 1) (2 * b) 4398046511104 _ (by omega) (by omega) (by omega) (by omega) (by omega)).mono ?_
  rintro e w3 ⟨r, rfl, r0, r1, r2, r3, hk⟩
  have HK3 : Hid (Kp w w3) := (((HK2.out.setCell (by simp <;> omega) _).setCell (by simp <;> omega) _).setCell (by simp <;> omega) _).trans hk
  have R3 : Hid _ := r3
  clear hk HK2 c0 c1 f0 r3
  go_wp2_with fail
  refine (cut_any _ _).mono ?_
  rintro e w4 ⟨rfl, rfl⟩
  go_wp2
  go_ret
  exact ⟨r, rfl, r0, r1, r2, R3.out, HK3.out⟩
theorem quot_uniq (m d r : Int) (hd : 0 < d) (h1 : r * d ≤ m) (h2 : m < (r + 1) * d) : m / d = r := by
 have a1 : r ≤ m / d := (Int.le_ediv_iff_mul_le hd).2 h1
 have a2 : m / d < r + 1 := (Int.ediv_lt_iff_lt_mul hd).2 h2
 omega
theorem quot_pos (m d r : Int) (hd : 0 < d) (h0 : 0 ≤ r) (h1 : r * d ≤ m) (h2 : r = 4398046511104 ∨ m < (r + 1) * d) :
  cutV (m / d) (-1099511627776) 1099511627776 = cutM r := by
 have a1 : r ≤ m / d := (Int.le_ediv_iff_mul_le hd).2 h1
 unfold cutV cutM
 rcases h2 with h2 | h2
 ·omega
 ·have := quot_uniq m d r hd h1 h2; omega
theorem quot_neg (m d r : Int) (hd : 0 < d) (h0 : 0 ≤ r) (h1 : r * d ≤ m) (h2 : r = 4398046511104 ∨ m < (r + 1) * d) :
  cutV (-(m / d)) (-1099511627776) 1099511627776 = cutM (-r) := by
 have a1 : r ≤ m / d := (Int.le_ediv_iff_mul_le hd).2 h1
 unfold cutV cutM
 rcases h2 with h2 | h2
 ·omega
 ·have := quot_uniq m d r hd h1 h2; omega
theorem neg_quot (m y : Int) (hy : 0 < y) : (y - 2 * m) / (2 * y) = -((2 * m + y - 1) / (2 * y)) := by
 have h1 := Int.mul_ediv_add_emod (2 * m + y - 1) (2 * y)
 have h2 := Int.emod_nonneg (2 * m + y - 1) (b := 2 * y) (by omega)
 have h3 := Int.emod_lt_of_pos (2 * m + y - 1) (b := 2 * y) (by omega)
 generalize (2 * m + y - 1) / (2 * y) = q at *
 generalize (2 * m + y - 1) % (2 * y) = r at *
 apply quot_uniq _ _ _ (by omega)
 ·rw [Int.neg_mul, Int.mul_comm q]; omega
 ·rw [Int.add_mul, Int.neg_mul, Int.mul_comm q]; omega
set_option maxHeartbeats 1000000 in
theorem sfixDiv_yes (a b : Int) (w : World) (a1 : -1099511627776 ≤ a) (a2 : a ≤ 1099511627776) (b1 : -1099511627776 ≤ b) (b2 : b ≤ 1099511627776) (b0 : b ≠ 0) :
  Calls Tryz.prog 110 #[.int .i64 a, .int .i64 b] w fun e w' => e = .returned (.int .i64 (cutV (nearV (a * 65536) b) (-1099511627776) 1099511627776)) ∧ Kp w w' := by
 have hz : (b == 0) = false := by simpa using b0
 by_cases ha : a < 0
 ·have hda : decide (a < 0) = true := by simpa using ha
  by_cases hb : b < 0
  ·have hdb : decide (b < 0) = true := by simpa using hb
   have HE : Hid (nearV (a * 65536) b = (2 * (-a * 65536) + -b) / (2 * -b)) := by show _ = _; unfold nearV; rw [if_pos hb]; congr 1 <;> omega
   go_enter Tryz.func110, Tryz.ntmps110
   go_wp2_with (go_at_call 119; refine (sgood_yes _ _ (by omega) (by omega)).mono ?_; rintro e w' ⟨rfl, rfl⟩)
   refine (abs_neg a _ (by omega) ha).mono ?_
   rintro e w' ⟨rfl, rfl⟩
   go_wp2_with fail
   refine (times_any (-a) 65536 _ (by omega) (by omega) (by omega) (by omega)).mono ?_
   rintro e w' ⟨rfl, c1, rfl⟩
   go_wp2_with fail
   refine (abs_neg b _ (by omega) hb).mono ?_
   rintro e w' ⟨rfl, rfl⟩
   go_wp2_with fail
   refine (near_pos (-a * 65536) (-b) _ (by omega) (by omega) (by omega) (by omega)).mono ?_
   rintro e w1 ⟨r, rfl, r0, r1, r2, r3, hk⟩
   have HR : Hid _ := quot_pos _ _ r (by omega) r0 r2 r3
   have HK : Hid _ := hk
   clear r2 r3 hk
   go_wp2
   go_ret
   exact ⟨ret_int (by rw [HE.out]; exact HR.out.symm), ((Kp.refl _).alloc _ _).trans HK.out⟩
  ·have hdb : decide (b < 0) = false := by simpa using hb
   have HE : Hid (nearV (a * 65536) b = -((2 * (-a * 65536) + b - 1) / (2 * b))) := by show _ = _; rw [← neg_quot _ _ (by omega)]; unfold nearV; rw [if_neg hb]; congr 1 <;> omega
   go_enter Tryz.func110, Tryz.ntmps110
   go_wp2_with (go_at_call 119; refine (sgood_yes _ _ (by omega) (by omega)).mono ?_; rintro e w' ⟨rfl, rfl⟩)
   refine (abs_neg a _ (by omega) ha).mono ?_
   rintro e w' ⟨rfl, rfl⟩
   go_wp2_with fail
   refine (times_any (-a) 65536 _ (by omega) (by omega) (by omega) (by omega)).mono ?_
   rintro e w' ⟨rfl, c1, rfl⟩
   go_wp2_with fail
   refine (abs_nn b _ (by omega)).mono ?_
   rintro e w' ⟨rfl, rfl⟩
   go_wp2_with fail
   refine (near_neg (-a * 65536) (b) _ (by omega) (by omega) (by omega) (by omega)).mono ?_
   rintro e w1 ⟨r, rfl, r0, r1, r2, r3, hk⟩
   have HR : Hid _ := quot_neg _ _ r (by omega) r0 r2 r3
   have HK : Hid _ := hk
   clear r2 r3 hk
   go_wp2
   go_ret
   exact ⟨ret_int (by rw [HE.out]; exact HR.out.symm), ((Kp.refl _).alloc _ _).trans HK.out⟩
 ·have hda : decide (a < 0) = false := by simpa using ha
  by_cases hb : b < 0
  ·have hdb : decide (b < 0) = true := by simpa using hb
   have HE : Hid (nearV (a * 65536) b = -((2 * (a * 65536) + -b - 1) / (2 * -b))) := by show _ = _; rw [← neg_quot _ _ (by omega)]; unfold nearV; rw [if_pos hb]; congr 1 <;> omega
   go_enter Tryz.func110, Tryz.ntmps110
   go_wp2_with (go_at_call 119; refine (sgood_yes _ _ (by omega) (by omega)).mono ?_; rintro e w' ⟨rfl, rfl⟩)
   refine (abs_nn a _ (by omega)).mono ?_
   rintro e w' ⟨rfl, rfl⟩
   go_wp2_with fail
   refine (times_any (a) 65536 _ (by omega) (by omega) (by omega) (by omega)).mono ?_
   rintro e w' ⟨rfl, c1, rfl⟩
   go_wp2_with fail
   refine (abs_neg b _ (by omega) hb).mono ?_
   rintro e w' ⟨rfl, rfl⟩
   go_wp2_with fail
   refine (near_neg (a * 65536) (-b) _ (by omega) (by omega) (by omega) (by omega)).mono ?_
   rintro e w1 ⟨r, rfl, r0, r1, r2, r3, hk⟩
   have HR : Hid _ := quot_neg _ _ r (by omega) r0 r2 r3
   have HK : Hid _ := hk
   clear r2 r3 hk
   go_wp2
   go_ret
   exact ⟨ret_int (by rw [HE.out]; exact HR.out.symm), ((Kp.refl _).alloc _ _).trans HK.out⟩
  ·have hdb : decide (b < 0) = false := by simpa using hb
   have HE : Hid (nearV (a * 65536) b = (2 * (a * 65536) + b) / (2 * b)) := by show _ = _; unfold nearV; rw [if_neg hb]
   go_enter Tryz.func110, Tryz.ntmps110
   go_wp2_with (go_at_call 119; refine (sgood_yes _ _ (by omega) (by omega)).mono ?_; rintro e w' ⟨rfl, rfl⟩)
   refine (abs_nn a _ (by omega)).mono ?_
   rintro e w' ⟨rfl, rfl⟩
   go_wp2_with fail
   refine (times_any (a) 65536 _ (by omega) (by omega) (by omega) (by omega)).mono ?_
   rintro e w' ⟨rfl, c1, rfl⟩
   go_wp2_with fail
   refine (abs_nn b _ (by omega)).mono ?_
   rintro e w' ⟨rfl, rfl⟩
   go_wp2_with fail
   refine (near_pos (a * 65536) (b) _ (by omega) (by omega) (by omega) (by omega)).mono ?_
   rintro e w1 ⟨r, rfl, r0, r1, r2, r3, hk⟩
   have HR : Hid _ := quot_pos _ _ r (by omega) r0 r2 r3
   have HK : Hid _ := hk
   clear r2 r3 hk
   go_wp2
   go_ret
   exact ⟨ret_int (by rw [HE.out]; exact HR.out.symm), ((Kp.refl _).alloc _ _).trans HK.out⟩
theorem sfixDiv_no (a b : Int) (w : World) (h : ¬ (-1099511627776 ≤ a ∧ a ≤ 1099511627776)) :
  Calls Tryz.prog 110 #[.int .i64 a, .int .i64 b] w fun e w' => e = .returned (.int .i64 0) ∧ w' = w := by
 have H : Hid _ := h
 clear h
 go_enter Tryz.func110, Tryz.ntmps110
 go_wp2_with (go_at_call 119; refine (sgood_no a _ H.out).mono ?_; rintro e w' ⟨rfl, rfl⟩)
 go_ret
 exact ⟨rfl, rfl⟩
theorem sfixDiv_no2 (a b : Int) (w : World) (a1 : -1099511627776 ≤ a) (a2 : a ≤ 1099511627776) (h : ¬ (-1099511627776 ≤ b ∧ b ≤ 1099511627776)) :
  Calls Tryz.prog 110 #[.int .i64 a, .int .i64 b] w fun e w' => e = .returned (.int .i64 0) ∧ w' = w := by
 have H : Hid _ := h
 clear h
 go_enter Tryz.func110, Tryz.ntmps110
 go_wp2_with fail
 refine (sgood_yes a _ a1 a2).mono ?_; rintro e w' ⟨rfl, rfl⟩
 go_wp2_with fail
 refine (sgood_no b _ H.out).mono ?_; rintro e w' ⟨rfl, rfl⟩
 go_wp2
 go_ret
 exact ⟨rfl, rfl⟩
theorem sfixDiv_no3 (a : Int) (w : World) (a1 : -1099511627776 ≤ a) (a2 : a ≤ 1099511627776) :
  Calls Tryz.prog 110 #[.int .i64 a, .int .i64 0] w fun e w' => e = .returned (.int .i64 0) ∧ w' = w := by
 go_enter Tryz.func110, Tryz.ntmps110
 go_wp2_with (go_at_call 119; refine (sgood_yes _ _ (by omega) (by omega)).mono ?_; rintro e w' ⟨rfl, rfl⟩)
 go_ret
 exact ⟨rfl, rfl⟩
theorem fixDiv_no (a b : Int) (w : World) (h : ¬ (-1099511627776 ≤ a ∧ a ≤ 1099511627776)) :
  Calls Tryz.prog 105 #[.int .i64 a, .int .i64 b] w fun e w' => e = .returned (.int .i64 0) ∧ w' = w := by
 have H : Hid _ := h
 clear h
 go_enter Tryz.func105, Tryz.ntmps105
 go_wp2_with (go_at_call 112; refine (igood_no a _ H.out).mono ?_; rintro e w' ⟨rfl, rfl⟩)
 go_ret
 exact ⟨rfl, rfl⟩
theorem fixDiv_no2 (a b : Int) (w : World) (a1 : -1099511627776 ≤ a) (a2 : a ≤ 1099511627776) (h : ¬ (-1099511627776 ≤ b ∧ b ≤ 1099511627776)) :
  Calls Tryz.prog 105 #[.int .i64 a, .int .i64 b] w fun e w' => e = .returned (.int .i64 0) ∧ w' = w := by
 have H : Hid _ := h
 clear h
 go_enter Tryz.func105, Tryz.ntmps105
 go_wp2_with fail
 refine (igood_yes a _ a1 a2).mono ?_; rintro e w' ⟨rfl, rfl⟩
 go_wp2_with fail
 refine (igood_no b _ H.out).mono ?_; rintro e w' ⟨rfl, rfl⟩
 go_wp2
 go_ret
 exact ⟨rfl, rfl⟩
theorem fixDiv_no3 (a : Int) (w : World) (a1 : -1099511627776 ≤ a) (a2 : a ≤ 1099511627776) :
  Calls Tryz.prog 105 #[.int .i64 a, .int .i64 0] w fun e w' => e = .returned (.int .i64 0) ∧ w' = w := by
 go_enter Tryz.func105, Tryz.ntmps105
 go_wp2_with (go_at_call 112; refine (igood_yes _ _ (by omega) (by omega)).mono ?_; rintro e w' ⟨rfl, rfl⟩)
 go_ret
 exact ⟨rfl, rfl⟩
end Go.Proofs.YtfdjjbgcaojcnaaGreat
namespace Go.Proofs.YtfdjjbgcaojcnaaGreat.fnExactFixDiv
open Go.ChangeShapes Go.WideShapes Go.ChangeAt Go.RowKit
set_option linter.unusedVariables false
end Go.Proofs.YtfdjjbgcaojcnaaGreat.fnExactFixDiv
