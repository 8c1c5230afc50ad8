/-
  What the specification's l1Over answers, for numbers within 
-/
import Derived.Test.YtdjemnbdaddegaaJAJ
import Derived.StillTactics
import Derived.Laws.Pointers
import Derived.Deep.RegionHeld3
import Derived.Laws.Externs
import Derived.Test.YtdjemnbdaddegaaJAI
import Derived.Test.YtdjemnbdaddegaaJAF
import Derived.Test.YtdjemnbdaddegaaJAA
namespace Go.Proofs.Ytdjemnbdaddegaa
open Go.ChangeShapes Go.WideShapes Go.ChangeAt Go.RowKit
theorem box_alloc {B : Nat} {W : World} {p q : Value} (h : W.cell? ⟨B, 0, none⟩ = some p ∧ W.cell? ⟨B, 1, none⟩ = some q ∧ B < W.heap.size) (o : Obj) :
  (W.alloc o).cell? ⟨B, 0, none⟩ = some p ∧ (W.alloc o).cell? ⟨B, 1, none⟩ = some q ∧ B < (W.alloc o).heap.size := by
 obtain ⟨h1, h2, h3⟩ := h
 exact ⟨by rw [World.cell?_alloc_past _ _ _ h3]; exact h1, by rw [World.cell?_alloc_past _ _ _ h3]; exact h2, by simp; omega⟩
set_option maxHeartbeats 2000000 in
theorem over_any (n b most : Int) (w : World) (hn : 0 ≤ n) (hb : 0 < b) (hb' : b < 4611686018427387904) (hm : 0 ≤ most) (hm' : most < 4611686018427387904) :
  Calls Try.prog 139 #[.agg #[.int .u64 (n / 18446744073709551616), .int .u64 (n % 18446744073709551616)], .int .u64 b, .int .u64 most] w fun e w' => ∃ r : Int, e = .returned (.int .u64 r) ∧ 0 ≤ r ∧ r ≤ most ∧ r * b ≤ n ∧ (r = most ∨ n < (r + 1) * b) ∧ Kp w w' := by
 generalize hp : n / 18446744073709551616 = p
 generalize hq : n % 18446744073709551616 = q
 have HP : Hid (_ = p) := hp
 have HQ : Hid (_ = q) := hq
 clear hp hq
 go_enter Try.func139, Try.ntmps139
 go_wp2
 go_loopw [7, 8] (fun lo hi W => ∃ l h : Int, 0 ≤ l ∧ l ≤ h ∧ h ≤ most ∧ lo = .int .u64 l ∧ hi = .int .u64 h ∧ l * b ≤ n ∧ (h = most ∨ n < (h + 1) * b) ∧ W.cell? ⟨w.heap.size, 0, none⟩ = some (.int .u64 p) ∧ W.cell? ⟨w.heap.size, 1, none⟩ = some (.int .u64 q) ∧ w.heap.size < W.heap.size ∧ Kp w W) (fun lo hi _ => (intOf hi - intOf lo).toNat)
 case atStart => exact ⟨0, most, by omega, hm, by omega, rfl, rfl, by omega, Or.inl rfl, by simp [go_sem], by simp [go_sem], by simp, (Kp.refl w).alloc _ _⟩
 case round =>
  obtain ⟨l, h, h0, h1, h2, rfl, rfl, h3, h4, c0, c1, hz, hk⟩ := hrel
  by_cases hlt : l < h
  ·have HK : Hid (Kp w wr) := hk
   have H4 : Hid (h = most ∨ n < (h + 1) * b) := h4
   clear hk h4
   by_cases hc : n < (l + (h - l + 1) / 2) * b
   ·have hd : decide (n < (l + (h - l + 1) / 2) * b) = true := by simpa using hc
    go_wp2
    go_region_held3 (fun w' => w'.cell? ⟨w.heap.size, 0, none⟩ = some (.int .u64 p) ∧ w'.cell? ⟨w.heap.size, 1, none⟩ = some (.int .u64 q) ∧ w.heap.size < w'.heap.size) (first | exact ⟨c0, c1, hz⟩ | exact box_alloc ⟨c0, c1, hz⟩ _ | exact box_alloc (box_alloc (box_alloc ⟨c0, c1, hz⟩ _) _) _)
     (first
      | (go_at_call 118; refine (times_any (l + (h - l + 1) / 2) b _ (by omega) (by omega) (by omega) (by omega)).mono ?_; rintro e w' ⟨rfl, o1, rfl⟩)
      | (go_at_call 147; refine (less_at n ((l + (h - l + 1) / 2) * b) p q HP.out HQ.out _).mono ?_; rintro e w' ⟨rfl, o2, o3, rfl⟩))
    go_wp2
    go_roundw
    case rel =>
     obtain ⟨d0, d1, dz⟩ := box_alloc (box_alloc (box_alloc ⟨c0, c1, hz⟩ (.cells o1 163)) (.cells o2 163)) (.cells o3 163)
     exact ⟨l, l + (h - l + 1) / 2 - 1, h0, by omega, by omega, rfl, rfl, h3, Or.inr (by rw [Int.sub_add_cancel]; exact hc), d0, d1, dz, (((HK.out.alloc _ _).alloc _ _).alloc _ _).drew⟩
    case measure => simp [intOf]; omega
   ·have hd : decide (n < (l + (h - l + 1) / 2) * b) = false := by simpa using hc
    go_wp2
    go_region_held3 (fun w' => w'.cell? ⟨w.heap.size, 0, none⟩ = some (.int .u64 p) ∧ w'.cell? ⟨w.heap.size, 1, none⟩ = some (.int .u64 q) ∧ w.heap.size < w'.heap.size) (first | exact ⟨c0, c1, hz⟩ | exact box_alloc ⟨c0, c1, hz⟩ _ | exact box_alloc (box_alloc (box_alloc ⟨c0, c1, hz⟩ _) _) _)
     (first
      | (go_at_call 118; refine (times_any (l + (h - l + 1) / 2) b _ (by omega) (by omega) (by omega) (by omega)).mono ?_; rintro e w' ⟨rfl, o1, rfl⟩)
      | (go_at_call 147; refine (less_at n ((l + (h - l + 1) / 2) * b) p q HP.out HQ.out _).mono ?_; rintro e w' ⟨rfl, o2, o3, rfl⟩))
    go_wp2
    go_roundw
    case rel =>
     obtain ⟨d0, d1, dz⟩ := box_alloc (box_alloc (box_alloc ⟨c0, c1, hz⟩ (.cells o1 163)) (.cells o2 163)) (.cells o3 163)
     exact ⟨l + (h - l + 1) / 2, h, by omega, by omega, h2, rfl, rfl, by omega, H4.out, d0, d1, dz, (((HK.out.alloc _ _).alloc _ _).alloc _ _).drew⟩
    case measure => simp [intOf]; omega
  ·obtain rfl : l = h := by omega
   have HK : Hid (Kp w wr) := hk
   have H4 : Hid (l = most ∨ n < (l + 1) * b) := h4
   clear hk h4
   go_wp2
   go_ret
   exact ⟨l, rfl, h0, h2, h3, H4.out, HK.out⟩
def cutM (x : Int) : Int := if 1099511627776 < x then 1099511627776 else if x < -1099511627776 then -1099511627776 else x
set_option maxHeartbeats 400000 in
theorem cut_any (x : Int) (w : World) : Calls Try.prog 140 #[.int .i64 x] w fun e w' => e = .returned (.int .i64 (cutM x)) ∧ w' = w := by
 go_enter Try.func140, Try.ntmps140
 go_wp2
 all_goals go_ret
 all_goals exact ⟨ret_int (by unfold cutM; omega), rfl⟩
def absV (x : Int) : Int := if x < 0 then -x else x
set_option maxHeartbeats 400000 in
theorem abs_any (x : Int) (w : World) (h : -9223372036854775807 ≤ x) : Calls Try.prog 119 #[.int .i64 x] w fun e w' => e = .returned (.int .i64 (absV x)) ∧ w' = w := by
 go_enter Try.func119, Try.ntmps119
 go_wp2
 all_goals go_ret
 all_goals exact ⟨ret_int (by unfold absV; omega), rfl⟩
theorem abs_neg (x : Int) (w : World) (h : -9223372036854775807 ≤ x) (hx : x < 0) : Calls Try.prog 119 #[.int .i64 x] w fun e w' => e = .returned (.int .i64 (-x)) ∧ w' = w := by
 have := abs_any x w h
 unfold absV at this; rw [if_pos hx] at this; exact this
theorem abs_nn (x : Int) (w : World) (hx : 0 ≤ x) : Calls Try.prog 119 #[.int .i64 x] w fun e w' => e = .returned (.int .i64 x) ∧ w' = w := by
 have := abs_any x w (by omega)
 unfold absV at this; rw [if_neg (by omega)] at this; exact this
theorem sgoodQ_yes (x : Int) (w : World) (h1 : -1099511627776 ≤ x) (h2 : x ≤ 1099511627776) : Calls Try.prog 69 #[.int .i64 x] w fun e w' => e = .returned (.bool true) ∧ w' = w := by
 go_enter Try.func69, Try.ntmps69
 go_wp2
 go_ret
 exact ⟨rfl, rfl⟩
theorem sgoodQ_no (x : Int) (w : World) (h : ¬ (-1099511627776 ≤ x ∧ x ≤ 1099511627776)) : Calls Try.prog 69 #[.int .i64 x] w fun e w' => e = .returned (.bool false) ∧ w' = w := by
 by_cases h1 : -1099511627776 ≤ x
 ·have h2 : 1099511627776 < x := by omega
  have h3 : decide (x ≤ 1099511627776) = false := by simp; omega
  clear h
  go_enter Try.func69, Try.ntmps69
  go_wp2
  go_ret
  exact ⟨rfl, rfl⟩
 ·clear h
  go_enter Try.func69, Try.ntmps69
  go_wp2
  go_ret
  exact ⟨rfl, rfl⟩
theorem igoodQ_yes (x : Int) (w : World) (h1 : -1099511627776 ≤ x) (h2 : x ≤ 1099511627776) : Calls Try.prog 99 #[.int .i64 x] w fun e w' => e = .returned (.bool true) ∧ w' = w := by
 go_enter Try.func99, Try.ntmps99
 go_wp2
 go_ret
 exact ⟨rfl, rfl⟩
theorem igoodQ_no (x : Int) (w : World) (h : ¬ (-1099511627776 ≤ x ∧ x ≤ 1099511627776)) : Calls Try.prog 99 #[.int .i64 x] w fun e w' => e = .returned (.bool false) ∧ w' = w := by
 by_cases h1 : -1099511627776 ≤ x
 ·have h2 : 1099511627776 < x := by omega
  have h3 : decide (x ≤ 1099511627776) = false := by simp; omega
  clear h
  go_enter Try.func99, Try.ntmps99
  go_wp2
  go_ret
  exact ⟨rfl, rfl⟩
 ·clear h
  go_enter Try.func99, Try.ntmps99
  go_wp2
  go_ret
  exact ⟨rfl, rfl⟩
theorem plus_wide (m b : Int) (w : World) (hm : 0 ≤ m) (hm' : m < 170141183460469231731687303715884105728) (hb : 0 ≤ b) (hb' : b < 18446744073709551616) :
  Calls Try.prog 138 #[.agg #[.int .u64 (m / 18446744073709551616), .int .u64 (m % 18446744073709551616)], .int .u64 b] w fun e w' => e = .returned (.agg #[.int .u64 ((m + b) / 18446744073709551616), .int .u64 ((m + b) % 18446744073709551616)]) ∧ Kp w w' := by
 have h := plus_any (m / 18446744073709551616) (m % 18446744073709551616) b w (by omega) (by omega) (by omega) (by omega) hb hb'
 rw [show m / 18446744073709551616 * 18446744073709551616 + m % 18446744073709551616 + b = m + b from by omega] at h
 exact h
set_option maxHeartbeats 2000000 in
theorem near_pos (n b : Int) (w : World) (hn : 0 ≤ n) (hn' : n < 42535295865117307932921825928971026432) (hb : 0 < b) (hb' : b < 1152921504606846976) :
  Calls Try.prog 117 #[.bool false, .agg #[.int .u64 (n / 18446744073709551616), .int .u64 (n % 18446744073709551616)], .int .u64 b] w fun e w' => ∃ r : Int, e = .returned (.int .i64 (cutM r)) ∧ 0 ≤ r ∧ r ≤ 4398046511104 ∧ r * (2 * b) ≤ 2 * n + b ∧ (r = 4398046511104 ∨ 2 * n + b < (r + 1) * (2 * b)) ∧ Kp w w' := by
 go_enter Try.func117, Try.ntmps117
 go_wp2_with fail
 refine (sum_any n n _ hn (by omega) hn (by omega)).mono ?_
 rintro e w1 ⟨rfl, hk⟩
 have hz : w.heap.size + 1 ≤ w1.heap.size := by have := hk.size; simp at this; omega
 have HK : Hid (Kp w w1) := ((Kp.refl w).alloc _ _).trans hk
 clear hk
 go_wp2_with fail
 refine (plus_wide (n + n) b _ (by omega) (by omega) (by omega) (by omega)).mono ?_
 rintro e w2 ⟨rfl, hk⟩
 obtain ⟨hc, hf⟩ := hk.cells
 have hz2 : w1.heap.size + 1 ≤ w2.heap.size := by have := hk.size; simp at this; omega
 have c0 : w2.cell? ⟨w1.heap.size, 0, none⟩ = some (.int .u64 ((n + n) / 18446744073709551616)) := by rw [hc _ _ (by simp)]; simp [go_sem]
 have c1 : w2.cell? ⟨w1.heap.size, 1, none⟩ = some (.int .u64 ((n + n) % 18446744073709551616)) := by rw [hc _ _ (by simp)]; simp [go_sem]
 have f0 : ∀ o, w2.frozen? ⟨w1.heap.size, o, none⟩ = false := by intro o; rw [hf]; simp [go_sem]
 have HK2 : Hid (Kp w w2) := (HK.out.alloc _ _).trans hk
 clear hk hc hf HK
 rw [show n + n + b = 2 * n + b from by omega]
 go_wp2_with fail
 refine (over_any (2 * n + b) (2 * b) 4398046511104 _ (by omega) (by omega) (by omega) (by omega) (by omega)).mono ?_
 rintro e w3 ⟨r, rfl, r0, r1, r2, r3, hk⟩
 have HK3 : Hid (Kp w w3) := ((HK2.out.setCell (by simp <;> omega) _).setCell (by simp <;> omega) _).trans hk
 have R3 : Hid _ := r3
 clear hk HK2 c0 c1 f0 r3
 go_wp2_with fail
 refine (cut_any _ _).mono ?_
 rintro e w4 ⟨rfl, rfl⟩
 go_wp2
 go_ret
 exact ⟨r, rfl, r0, r1, r2, R3.out, HK3.out⟩
set_option maxHeartbeats 2000000 in
theorem near_neg (n b : Int) (w : World) (hn : 0 ≤ n) (hn' : n < 42535295865117307932921825928971026432) (hb : 0 < b) (hb' : b < 1152921504606846976) :
  Calls Try.prog 117 #[.bool true, .agg #[.int .u64 (n / 18446744073709551616), .int .u64 (n % 18446744073709551616)], .int .u64 b] w fun e w' => ∃ r : Int, e = .returned (.int .i64 (cutM (-r))) ∧ 0 ≤ r ∧ r ≤ 4398046511104 ∧ r * (2 * b) ≤ 2 * n + b - 1 ∧ (r = 4398046511104 ∨ 2 * n + b - 1 < (r + 1) * (2 * b)) ∧ Kp w w' := by
 go_enter Try.func117, Try.ntmps117
 go_wp2_with fail
 refine (sum_any n n _ hn (by omega) hn (by omega)).mono ?_
 rintro e w1 ⟨rfl, hk⟩
 have hz : w.heap.size + 1 ≤ w1.heap.size := by have := hk.size; simp at this; omega
 have HK : Hid (Kp w w1) := ((Kp.refl w).alloc _ _).trans hk
 clear hk
 go_wp2_with fail
 refine (plus_wide (n + n) b _ (by omega) (by omega) (by omega) (by omega)).mono ?_
 rintro e w2 ⟨rfl, hk⟩
 obtain ⟨hc, hf⟩ := hk.cells
 have hz2 : w1.heap.size + 1 ≤ w2.heap.size := by have := hk.size; simp at this; omega
 have c0 : w2.cell? ⟨w1.heap.size, 0, none⟩ = some (.int .u64 ((n + n) / 18446744073709551616)) := by rw [hc _ _ (by simp)]; simp [go_sem]
 have c1 : w2.cell? ⟨w1.heap.size, 1, none⟩ = some (.int .u64 ((n + n) % 18446744073709551616)) := by rw [hc _ _ (by simp)]; simp [go_sem]
 have f0 : ∀ o, w2.frozen? ⟨w1.heap.size, o, none⟩ = false := by intro o; rw [hf]; simp [go_sem]
 have HK2 : Hid (Kp w w2) := (HK.out.alloc _ _).trans hk
 clear hk hc hf HK
 rw [show n + n + b = 2 * n + b from by omega]
 generalize hP : (2 * n + b) / 18446744073709551616 = P
 generalize hL : (2 * n + b) % 18446744073709551616 = L
 generalize (n + n) / 18446744073709551616 = A at *
 generalize (n + n) % 18446744073709551616 = B at *
 have p1 : 0 ≤ P := by omega
 have p2 : P < 9223372036854775807 := by omega
 have l1 : 0 ≤ L := by omega
 have l2 : L < 18446744073709551616 := by omega
 by_cases hl : L = 0
 ·have HP : Hid (P - 1 = (2 * n + b - 1) / 18446744073709551616) := by show _ = _; omega
  obtain ⟨M, gw⟩ : ∃ M : Int, IntKind.u64.wrap (-1) = M := ⟨_, rfl⟩
  have HL : Hid (M = (2 * n + b - 1) % 18446744073709551616) := by show _ = _; rw [← gw, IntKind.wrap_u64]; omega
  have p3 : 1 ≤ P := by omega
  clear hP hL l1 l2
  subst hl
  have q1 : ((((w2.setCell ⟨w1.heap.size, 0, none⟩ (.int .u64 P)).setCell ⟨w1.heap.size, 1, none⟩ (.int .u64 0)).setCell ⟨w1.heap.size, 0, none⟩ (.int .u64 (P - 1))).setCell ⟨w1.heap.size, 1, none⟩ (.int .u64 M)).cell? ⟨w1.heap.size, 1, none⟩ = some (.int .u64 M) := by
   apply World.cell?_setCell_same (u := .int .u64 0)
   rw [World.cell?_setCell_other _ _ _ _ (by simp)]
   apply World.cell?_setCell_same (u := .int .u64 B)
   rw [World.cell?_setCell_other _ _ _ _ (by simp)]
   exact c1
  go_wp2_with fail
  rw [HP.out, HL.out]
  refine (over_any (2 * n + b - 1) (2 * b) 4398046511104 _ (by omega) (by omega) (by omega) (by omega) (by omega)).mono ?_
  rintro e w3 ⟨r, rfl, r0, r1, r2, r3, hk⟩
  have HK3 : Hid (Kp w w3) := ((((HK2.out.setCell (by simp <;> omega) _).setCell (by simp <;> omega) _).setCell (by simp <;> omega) _).setCell (by simp <;> omega) _).trans hk
  have R3 : Hid _ := r3
  clear hk HK2 c0 c1 f0 r3
  go_wp2_with fail
  refine (cut_any _ _).mono ?_
  rintro e w4 ⟨rfl, rfl⟩
  go_wp2
  go_ret
  exact ⟨r, rfl, r0, r1, r2, R3.out, HK3.out⟩
 ·have HP : Hid (P = (2 * n + b - 1) / 18446744073709551616) := by show _ = _; omega
  have HL : Hid (L - 1 = (2 * n + b - 1) % 18446744073709551616) := by show _ = _; omega
  have hl1 : (L == 0) = false := by simpa using hl
  have l3 : 1 ≤ L := by omega
  clear hP hL
  have q1 : (((w2.setCell ⟨w1.heap.size, 0, none⟩ (.int .u64 P)).setCell ⟨w1.heap.size, 1, none⟩ (.int .u64 L)).setCell ⟨w1.heap.size, 1, none⟩ (.int .u64 (L - 1))).cell? ⟨w1.heap.size, 1, none⟩ = some (.int .u64 (L - 1)) := by
   apply World.cell?_setCell_same (u := .int .u64 L)
   apply World.cell?_setCell_same (u := .int .u64 B)
   rw [World.cell?_setCell_other _ _ _ _ (by simp)]
   exact c1
  go_wp2_with fail
  rw [HP.out, HL.out]
  refine (over_any (2 * n + b - 1) (2 * b) 4398046511104 _ (by omega) (by omega) (by omega) (by omega) (by omega)).mono ?_
  rintro e w3 ⟨r, rfl, r0, r1, r2, r3, hk⟩
  have HK3 : Hid (Kp w w3) := (((HK2.out.setCell (by simp <;> omega) _).setCell (by simp <;> omega) _).setCell (by simp <;> omega) _).trans hk
  have R3 : Hid _ := r3
  clear hk HK2 c0 c1 f0 r3
  go_wp2_with fail
  refine (cut_any _ _).mono ?_
  rintro e w4 ⟨rfl, rfl⟩
  go_wp2
  go_ret
  exact ⟨r, rfl, r0, r1, r2, R3.out, HK3.out⟩
theorem and_low (a : Int) (h0 : 0 ≤ a) (h : a < 18446744073709551616) : bits .and .u64 a 4294967295 = a % 4294967296 := by
 obtain ⟨x, rfl⟩ := Int.eq_ofNat_of_zero_le h0
 have e := bits_and_u64_nat x 4294967295 (by omega) (by omega)
 have e2 : x &&& 4294967295 = x % 4294967296 := Nat.and_two_pow_sub_one_eq_mod x 32
 rw [e2] at e
 exact e
theorem mul_hi (a b : Int) (ha : 0 ≤ a) (ha' : a < 18446744073709551616) (hb : 0 ≤ b) (hb' : b < 18446744073709551616) :
    a / 4294967296 * (b / 4294967296) + (a / 4294967296 * (b % 4294967296) + a % 4294967296 * (b % 4294967296) / 4294967296) / 4294967296 +
          ((a / 4294967296 * (b % 4294967296) + a % 4294967296 * (b % 4294967296) / 4294967296) % 4294967296 + a % 4294967296 * (b / 4294967296)) / 4294967296 = a * b / 18446744073709551616 := by
  have h := (times_eqs a b ha ha' hb hb').1
  rw [← h, Int.add_comm (a % 4294967296 * (b / 4294967296))]
set_option maxHeartbeats 1000000 in
theorem mul64_any (a b : Int) (w : World) (ha : 0 ≤ a) (ha' : a < 18446744073709551616) (hb : 0 ≤ b) (hb' : b < 18446744073709551616) :
  Calls Try.prog 122 #[.int .u64 a, .int .u64 b] w fun e w' => e = .returned (.tuple #[.int .u64 (a * b / 18446744073709551616), .int .u64 (a * b % 18446744073709551616)]) ∧ w' = w := by
 obtain ⟨p1, p2⟩ := half_mul (a % 4294967296) (b % 4294967296) (by omega) (by omega) (by omega) (by omega)
 obtain ⟨q1, q2⟩ := half_mul (a / 4294967296) (b % 4294967296) (by omega) (by omega) (by omega) (by omega)
 obtain ⟨r1, r2⟩ := half_mul (a % 4294967296) (b / 4294967296) (by omega) (by omega) (by omega) (by omega)
 obtain ⟨s1, s2⟩ := half_mul (a / 4294967296) (b / 4294967296) (by omega) (by omega) (by omega) (by omega)
 have m1 := and_low a ha ha'
 have m2 := and_low b hb hb'
 have m3 := and_low (a / 4294967296 * (b % 4294967296) + a % 4294967296 * (b % 4294967296) / 4294967296) (by omega) (by omega)
 have HH : Hid _ := mul_hi a b ha ha' hb hb'
 have HL : Hid _ := IntKind.wrap_u64 (a * b)
 go_enter Try.func122, Try.ntmps122
 go_wp2
 rw [HH.out, HL.out]
 go_ret2
 exact ⟨rfl, rfl⟩
theorem add64 (x y : Int) (hx : 0 ≤ x) (hy : 0 ≤ y) (w : World) : (callFunc 124 #[.int .u64 x, .int .u64 y, .int .u64 0]).run Try.prog w =
  .ok (.value (.tuple #[.int .u64 ((x + y) % 18446744073709551616), .int .u64 ((x + y) / 18446744073709551616)])) w := by
 rw [run_callFunc_extern Try.func124 (by kernel_rfl) (by kernel_rfl) (by kernel_rfl) (e := add64Entry) (by kernel_rfl)]
 have h := run_add64 (P := Try.prog) x y 0 hx hy (by omega) (by omega) w
 rw [Int.add_zero] at h
 rw [h]
 rfl
theorem size_neg (x : Int) (w : World) (h : -1099511627776 ≤ x) (hx : x < 0) : Calls Try.prog 123 #[.int .i64 x] w fun e w' => e = .returned (.int .u64 (-x)) ∧ w' = w := by
 go_enter Try.func123, Try.ntmps123
 go_wp2
 go_ret
 exact ⟨rfl, rfl⟩
theorem size_nn (x : Int) (w : World) (hx : 0 ≤ x) (h : x ≤ 1099511627776) : Calls Try.prog 123 #[.int .i64 x] w fun e w' => e = .returned (.int .u64 x) ∧ w' = w := by
 go_enter Try.func123, Try.ntmps123
 go_wp2
 go_ret
 exact ⟨rfl, rfl⟩
def posV (P : Int) : Int := min 1099511627776 ((P + 32768) / 65536)
def negV (P : Int) : Int := -(min 1099511627776 ((P + 32767) / 65536))
theorem prod_bd (x y : Int) (hx : 0 ≤ x) (hx' : x ≤ 1099511627776) (hy : 0 ≤ y) (hy' : y ≤ 1099511627776) : 0 ≤ x * y ∧ x * y ≤ 1208925819614629174706176 :=
 ⟨Int.mul_nonneg hx hy, Int.mul_le_mul hx' hy' hy (by omega)⟩
set_option maxHeartbeats 1000000 in
theorem fixMul_pp (a b : Int) (w : World) (a1 : -1099511627776 ≤ a) (a2 : a ≤ 1099511627776) (b1 : -1099511627776 ≤ b) (b2 : b ≤ 1099511627776) (ha : 0 ≤ a) (hb : 0 ≤ b) :
  Calls Try.prog 100 #[.int .i64 a, .int .i64 b] w fun e w' => e = .returned (.int .i64 (posV (a * b))) ∧ w' = w := by
 have hda : decide (a < 0) = false := by simp; omega
 have hdb : decide (b < 0) = false := by simp; omega
 obtain ⟨P, hP⟩ : ∃ P, a * b = P := ⟨_, rfl⟩
 have pb := prod_bd (a) (b) (by omega) (by omega) (by omega) (by omega)
 rw [hP] at pb ⊢
 obtain ⟨p0, p1⟩ := pb
 have HP : Hid _ := hP
 clear hP
 have k0 : 0 ≤ P % 18446744073709551616 := by omega
 have HA : Hid _ := add64 (P % 18446744073709551616) 32768 k0 (by omega)
 by_cases hT : P + 32768 < 18446744073709551616
 ·have hq : (P / 18446744073709551616 + (P % 18446744073709551616 + 32768) / 18446744073709551616 == 0) = true := by rw [beq_iff_eq]; omega
  have e1 : (P % 18446744073709551616 + 32768) % 18446744073709551616 = P + 32768 := by omega
  go_enter Try.func100, Try.ntmps100
  go_wp2_with (go_at_call 99; refine (igoodQ_yes _ _ (by omega) (by omega)).mono ?_; rintro e w' ⟨rfl, rfl⟩)
  refine (size_nn a _ ha a2).mono ?_; rintro e w' ⟨rfl, rfl⟩
  go_wp2_with fail
  refine (size_nn b _ hb b2).mono ?_; rintro e w' ⟨rfl, rfl⟩
  go_wp2_with fail
  refine (mul64_any (a) (b) _ (by omega) (by omega) (by omega) (by omega)).mono ?_; rintro e w' ⟨rfl, rfl⟩
  rw [HP.out]
  go_wp2_with (simp only [HA.out])
  all_goals go_ret
  all_goals exact ⟨ret_int (by unfold posV; omega), rfl⟩
 ·have hq : (P / 18446744073709551616 + (P % 18446744073709551616 + 32768) / 18446744073709551616 == 0) = false := by rw [beq_eq_false_iff_ne]; omega
  go_enter Try.func100, Try.ntmps100
  go_wp2_with (go_at_call 99; refine (igoodQ_yes _ _ (by omega) (by omega)).mono ?_; rintro e w' ⟨rfl, rfl⟩)
  refine (size_nn a _ ha a2).mono ?_; rintro e w' ⟨rfl, rfl⟩
  go_wp2_with fail
  refine (size_nn b _ hb b2).mono ?_; rintro e w' ⟨rfl, rfl⟩
  go_wp2_with fail
  refine (mul64_any (a) (b) _ (by omega) (by omega) (by omega) (by omega)).mono ?_; rintro e w' ⟨rfl, rfl⟩
  rw [HP.out]
  go_wp2_with (simp only [HA.out])
  all_goals go_ret
  all_goals exact ⟨ret_int (by unfold posV; omega), rfl⟩
set_option maxHeartbeats 1000000 in
theorem fixMul_nn (a b : Int) (w : World) (a1 : -1099511627776 ≤ a) (a2 : a ≤ 1099511627776) (b1 : -1099511627776 ≤ b) (b2 : b ≤ 1099511627776) (ha : a < 0) (hb : b < 0) :
  Calls Try.prog 100 #[.int .i64 a, .int .i64 b] w fun e w' => e = .returned (.int .i64 (posV (-a * -b))) ∧ w' = w := by
 have hda : decide (a < 0) = true := by simp; exact ha
 have hdb : decide (b < 0) = true := by simp; exact hb
 obtain ⟨P, hP⟩ : ∃ P, -a * -b = P := ⟨_, rfl⟩
 have pb := prod_bd (-a) (-b) (by omega) (by omega) (by omega) (by omega)
 rw [hP] at pb ⊢
 obtain ⟨p0, p1⟩ := pb
 have HP : Hid _ := hP
 clear hP
 have k0 : 0 ≤ P % 18446744073709551616 := by omega
 have HA : Hid _ := add64 (P % 18446744073709551616) 32768 k0 (by omega)
 by_cases hT : P + 32768 < 18446744073709551616
 ·have hq : (P / 18446744073709551616 + (P % 18446744073709551616 + 32768) / 18446744073709551616 == 0) = true := by rw [beq_iff_eq]; omega
  have e1 : (P % 18446744073709551616 + 32768) % 18446744073709551616 = P + 32768 := by omega
  go_enter Try.func100, Try.ntmps100
  go_wp2_with (go_at_call 99; refine (igoodQ_yes _ _ (by omega) (by omega)).mono ?_; rintro e w' ⟨rfl, rfl⟩)
  refine (size_neg a _ a1 ha).mono ?_; rintro e w' ⟨rfl, rfl⟩
  go_wp2_with fail
  refine (size_neg b _ b1 hb).mono ?_; rintro e w' ⟨rfl, rfl⟩
  go_wp2_with fail
  refine (mul64_any (-a) (-b) _ (by omega) (by omega) (by omega) (by omega)).mono ?_; rintro e w' ⟨rfl, rfl⟩
  rw [HP.out]
  go_wp2_with (simp only [HA.out])
  all_goals go_ret
  all_goals exact ⟨ret_int (by unfold posV; omega), rfl⟩
 ·have hq : (P / 18446744073709551616 + (P % 18446744073709551616 + 32768) / 18446744073709551616 == 0) = false := by rw [beq_eq_false_iff_ne]; omega
  go_enter Try.func100, Try.ntmps100
  go_wp2_with (go_at_call 99; refine (igoodQ_yes _ _ (by omega) (by omega)).mono ?_; rintro e w' ⟨rfl, rfl⟩)
  refine (size_neg a _ a1 ha).mono ?_; rintro e w' ⟨rfl, rfl⟩
  go_wp2_with fail
  refine (size_neg b _ b1 hb).mono ?_; rintro e w' ⟨rfl, rfl⟩
  go_wp2_with fail
  refine (mul64_any (-a) (-b) _ (by omega) (by omega) (by omega) (by omega)).mono ?_; rintro e w' ⟨rfl, rfl⟩
  rw [HP.out]
  go_wp2_with (simp only [HA.out])
  all_goals go_ret
  all_goals exact ⟨ret_int (by unfold posV; omega), rfl⟩
set_option maxHeartbeats 1000000 in
theorem fixMul_np (a b : Int) (w : World) (a1 : -1099511627776 ≤ a) (a2 : a ≤ 1099511627776) (b1 : -1099511627776 ≤ b) (b2 : b ≤ 1099511627776) (ha : a < 0) (hb : 0 ≤ b) :
  Calls Try.prog 100 #[.int .i64 a, .int .i64 b] w fun e w' => e = .returned (.int .i64 (negV (-a * b))) ∧ w' = w := by
 have hda : decide (a < 0) = true := by simp; exact ha
 have hdb : decide (b < 0) = false := by simp; omega
 obtain ⟨P, hP⟩ : ∃ P, -a * b = P := ⟨_, rfl⟩
 have pb := prod_bd (-a) (b) (by omega) (by omega) (by omega) (by omega)
 rw [hP] at pb ⊢
 obtain ⟨p0, p1⟩ := pb
 have HP : Hid _ := hP
 clear hP
 have k0 : 0 ≤ P % 18446744073709551616 := by omega
 have HA : Hid _ := add64 (P % 18446744073709551616) 32767 k0 (by omega)
 by_cases hT : P + 32767 < 18446744073709551616
 ·have hq : (P / 18446744073709551616 + (P % 18446744073709551616 + 32767) / 18446744073709551616 == 0) = true := by rw [beq_iff_eq]; omega
  have e1 : (P % 18446744073709551616 + 32767) % 18446744073709551616 = P + 32767 := by omega
  go_enter Try.func100, Try.ntmps100
  go_wp2_with (go_at_call 99; refine (igoodQ_yes _ _ (by omega) (by omega)).mono ?_; rintro e w' ⟨rfl, rfl⟩)
  refine (size_neg a _ a1 ha).mono ?_; rintro e w' ⟨rfl, rfl⟩
  go_wp2_with fail
  refine (size_nn b _ hb b2).mono ?_; rintro e w' ⟨rfl, rfl⟩
  go_wp2_with fail
  refine (mul64_any (-a) (b) _ (by omega) (by omega) (by omega) (by omega)).mono ?_; rintro e w' ⟨rfl, rfl⟩
  rw [HP.out]
  go_wp2_with (simp only [HA.out])
  all_goals go_ret
  all_goals exact ⟨ret_int (by unfold negV; omega), rfl⟩
 ·have hq : (P / 18446744073709551616 + (P % 18446744073709551616 + 32767) / 18446744073709551616 == 0) = false := by rw [beq_eq_false_iff_ne]; omega
  go_enter Try.func100, Try.ntmps100
  go_wp2_with (go_at_call 99; refine (igoodQ_yes _ _ (by omega) (by omega)).mono ?_; rintro e w' ⟨rfl, rfl⟩)
  refine (size_neg a _ a1 ha).mono ?_; rintro e w' ⟨rfl, rfl⟩
  go_wp2_with fail
  refine (size_nn b _ hb b2).mono ?_; rintro e w' ⟨rfl, rfl⟩
  go_wp2_with fail
  refine (mul64_any (-a) (b) _ (by omega) (by omega) (by omega) (by omega)).mono ?_; rintro e w' ⟨rfl, rfl⟩
  rw [HP.out]
  go_wp2_with (simp only [HA.out])
  all_goals go_ret
  all_goals exact ⟨ret_int (by unfold negV; omega), rfl⟩
set_option maxHeartbeats 1000000 in
theorem fixMul_pn (a b : Int) (w : World) (a1 : -1099511627776 ≤ a) (a2 : a ≤ 1099511627776) (b1 : -1099511627776 ≤ b) (b2 : b ≤ 1099511627776) (ha : 0 ≤ a) (hb : b < 0) :
  Calls Try.prog 100 #[.int .i64 a, .int .i64 b] w fun e w' => e = .returned (.int .i64 (negV (a * -b))) ∧ w' = w := by
 have hda : decide (a < 0) = false := by simp; omega
 have hdb : decide (b < 0) = true := by simp; exact hb
 obtain ⟨P, hP⟩ : ∃ P, a * -b = P := ⟨_, rfl⟩
 have pb := prod_bd (a) (-b) (by omega) (by omega) (by omega) (by omega)
 rw [hP] at pb ⊢
 obtain ⟨p0, p1⟩ := pb
 have HP : Hid _ := hP
 clear hP
 have k0 : 0 ≤ P % 18446744073709551616 := by omega
 have HA : Hid _ := add64 (P % 18446744073709551616) 32767 k0 (by omega)
 by_cases hT : P + 32767 < 18446744073709551616
 ·have hq : (P / 18446744073709551616 + (P % 18446744073709551616 + 32767) / 18446744073709551616 == 0) = true := by rw [beq_iff_eq]; omega
  have e1 : (P % 18446744073709551616 + 32767) % 18446744073709551616 = P + 32767 := by omega
  go_enter Try.func100, Try.ntmps100
  go_wp2_with (go_at_call 99; refine (igoodQ_yes _ _ (by omega) (by omega)).mono ?_; rintro e w' ⟨rfl, rfl⟩)
  refine (size_nn a _ ha a2).mono ?_; rintro e w' ⟨rfl, rfl⟩
  go_wp2_with fail
  refine (size_neg b _ b1 hb).mono ?_; rintro e w' ⟨rfl, rfl⟩
  go_wp2_with fail
  refine (mul64_any (a) (-b) _ (by omega) (by omega) (by omega) (by omega)).mono ?_; rintro e w' ⟨rfl, rfl⟩
  rw [HP.out]
  go_wp2_with (simp only [HA.out])
  all_goals go_ret
  all_goals exact ⟨ret_int (by unfold negV; omega), rfl⟩
 ·have hq : (P / 18446744073709551616 + (P % 18446744073709551616 + 32767) / 18446744073709551616 == 0) = false := by rw [beq_eq_false_iff_ne]; omega
  go_enter Try.func100, Try.ntmps100
  go_wp2_with (go_at_call 99; refine (igoodQ_yes _ _ (by omega) (by omega)).mono ?_; rintro e w' ⟨rfl, rfl⟩)
  refine (size_nn a _ ha a2).mono ?_; rintro e w' ⟨rfl, rfl⟩
  go_wp2_with fail
  refine (size_neg b _ b1 hb).mono ?_; rintro e w' ⟨rfl, rfl⟩
  go_wp2_with fail
  refine (mul64_any (a) (-b) _ (by omega) (by omega) (by omega) (by omega)).mono ?_; rintro e w' ⟨rfl, rfl⟩
  rw [HP.out]
  go_wp2_with (simp only [HA.out])
  all_goals go_ret
  all_goals exact ⟨ret_int (by unfold negV; omega), rfl⟩
set_option maxHeartbeats 1000000 in
theorem sfixMul_pp (a b : Int) (w : World) (a1 : -1099511627776 ≤ a) (a2 : a ≤ 1099511627776) (b1 : -1099511627776 ≤ b) (b2 : b ≤ 1099511627776) (ha : 0 ≤ a) (hb : 0 ≤ b) :
  Calls Try.prog 90 #[.int .i64 a, .int .i64 b] w fun e w' => e = .returned (.int .i64 (posV (a * b))) ∧ Kp w w' := by
 have hda : decide (a < 0) = false := by simp; omega
 have hdb : decide (b < 0) = false := by simp; omega
 obtain ⟨P, hP⟩ : ∃ P, a * b = P := ⟨_, rfl⟩
 have pb := prod_bd (a) (b) (by omega) (by omega) (by omega) (by omega)
 rw [hP] at pb ⊢
 obtain ⟨p0, p1⟩ := pb
 have HP : Hid _ := hP
 clear hP
 go_enter Try.func90, Try.ntmps90
 go_wp2_with (go_at_call 69; refine (sgoodQ_yes _ _ (by omega) (by omega)).mono ?_; rintro e w' ⟨rfl, rfl⟩)
 refine (abs_nn a _ ha).mono ?_; rintro e w' ⟨rfl, rfl⟩
 go_wp2_with fail
 refine (abs_nn b _ hb).mono ?_; rintro e w' ⟨rfl, rfl⟩
 go_wp2_with fail
 refine (times_any (a) (b) _ (by omega) (by omega) (by omega) (by omega)).mono ?_; rintro e w' ⟨rfl, c1, rfl⟩
 rw [HP.out]
 go_wp2_with fail
 refine (near_pos P 65536 _ (by omega) (by omega) (by omega) (by omega)).mono ?_
 rintro e w1 ⟨r, rfl, r0, r1, r2, r3, hk⟩
 have HR : Hid (cutM r = posV P) := by show _ = _; unfold cutM posV; omega
 have HK : Hid _ := hk
 clear r2 r3 hk
 go_wp2
 go_ret
 exact ⟨ret_int HR.out, ((Kp.refl _).alloc _ _).trans HK.out⟩
set_option maxHeartbeats 1000000 in
theorem sfixMul_nn (a b : Int) (w : World) (a1 : -1099511627776 ≤ a) (a2 : a ≤ 1099511627776) (b1 : -1099511627776 ≤ b) (b2 : b ≤ 1099511627776) (ha : a < 0) (hb : b < 0) :
  Calls Try.prog 90 #[.int .i64 a, .int .i64 b] w fun e w' => e = .returned (.int .i64 (posV (-a * -b))) ∧ Kp w w' := by
 have hda : decide (a < 0) = true := by simp; exact ha
 have hdb : decide (b < 0) = true := by simp; exact hb
 obtain ⟨P, hP⟩ : ∃ P, -a * -b = P := ⟨_, rfl⟩
 have pb := prod_bd (-a) (-b) (by omega) (by omega) (by omega) (by omega)
 rw [hP] at pb ⊢
 obtain ⟨p0, p1⟩ := pb
 have HP : Hid _ := hP
 clear hP
 go_enter Try.func90, Try.ntmps90
 go_wp2_with (go_at_call 69; refine (sgoodQ_yes _ _ (by omega) (by omega)).mono ?_; rintro e w' ⟨rfl, rfl⟩)
 refine (abs_neg a _ (by omega) ha).mono ?_; rintro e w' ⟨rfl, rfl⟩
 go_wp2_with fail
 refine (abs_neg b _ (by omega) hb).mono ?_; rintro e w' ⟨rfl, rfl⟩
 go_wp2_with fail
 refine (times_any (-a) (-b) _ (by omega) (by omega) (by omega) (by omega)).mono ?_; rintro e w' ⟨rfl, c1, rfl⟩
 rw [HP.out]
 go_wp2_with fail
 refine (near_pos P 65536 _ (by omega) (by omega) (by omega) (by omega)).mono ?_
 rintro e w1 ⟨r, rfl, r0, r1, r2, r3, hk⟩
 have HR : Hid (cutM r = posV P) := by show _ = _; unfold cutM posV; omega
 have HK : Hid _ := hk
 clear r2 r3 hk
 go_wp2
 go_ret
 exact ⟨ret_int HR.out, ((Kp.refl _).alloc _ _).trans HK.out⟩
set_option maxHeartbeats 1000000 in
theorem sfixMul_np (a b : Int) (w : World) (a1 : -1099511627776 ≤ a) (a2 : a ≤ 1099511627776) (b1 : -1099511627776 ≤ b) (b2 : b ≤ 1099511627776) (ha : a < 0) (hb : 0 ≤ b) :
  Calls Try.prog 90 #[.int .i64 a, .int .i64 b] w fun e w' => e = .returned (.int .i64 (negV (-a * b))) ∧ Kp w w' := by
 have hda : decide (a < 0) = true := by simp; exact ha
 have hdb : decide (b < 0) = false := by simp; omega
 obtain ⟨P, hP⟩ : ∃ P, -a * b = P := ⟨_, rfl⟩
 have pb := prod_bd (-a) (b) (by omega) (by omega) (by omega) (by omega)
 rw [hP] at pb ⊢
 obtain ⟨p0, p1⟩ := pb
 have HP : Hid _ := hP
 clear hP
 go_enter Try.func90, Try.ntmps90
 go_wp2_with (go_at_call 69; refine (sgoodQ_yes _ _ (by omega) (by omega)).mono ?_; rintro e w' ⟨rfl, rfl⟩)
 refine (abs_neg a _ (by omega) ha).mono ?_; rintro e w' ⟨rfl, rfl⟩
 go_wp2_with fail
 refine (abs_nn b _ hb).mono ?_; rintro e w' ⟨rfl, rfl⟩
 go_wp2_with fail
 refine (times_any (-a) (b) _ (by omega) (by omega) (by omega) (by omega)).mono ?_; rintro e w' ⟨rfl, c1, rfl⟩
 rw [HP.out]
 go_wp2_with fail
 refine (near_neg P 65536 _ (by omega) (by omega) (by omega) (by omega)).mono ?_
 rintro e w1 ⟨r, rfl, r0, r1, r2, r3, hk⟩
 have HR : Hid (cutM (-r) = negV P) := by show _ = _; unfold cutM negV; omega
 have HK : Hid _ := hk
 clear r2 r3 hk
 go_wp2
 go_ret
 exact ⟨ret_int HR.out, ((Kp.refl _).alloc _ _).trans HK.out⟩
set_option maxHeartbeats 1000000 in
theorem sfixMul_pn (a b : Int) (w : World) (a1 : -1099511627776 ≤ a) (a2 : a ≤ 1099511627776) (b1 : -1099511627776 ≤ b) (b2 : b ≤ 1099511627776) (ha : 0 ≤ a) (hb : b < 0) :
  Calls Try.prog 90 #[.int .i64 a, .int .i64 b] w fun e w' => e = .returned (.int .i64 (negV (a * -b))) ∧ Kp w w' := by
 have hda : decide (a < 0) = false := by simp; omega
 have hdb : decide (b < 0) = true := by simp; exact hb
 obtain ⟨P, hP⟩ : ∃ P, a * -b = P := ⟨_, rfl⟩
 have pb := prod_bd (a) (-b) (by omega) (by omega) (by omega) (by omega)
 rw [hP] at pb ⊢
 obtain ⟨p0, p1⟩ := pb
 have HP : Hid _ := hP
 clear hP
 go_enter Try.func90, Try.ntmps90
 go_wp2_with (go_at_call 69; refine (sgoodQ_yes _ _ (by omega) (by omega)).mono ?_; rintro e w' ⟨rfl, rfl⟩)
 refine (abs_nn a _ ha).mono ?_; rintro e w' ⟨rfl, rfl⟩
 go_wp2_with fail
 refine (abs_neg b _ (by omega) hb).mono ?_; rintro e w' ⟨rfl, rfl⟩
 go_wp2_with fail
 refine (times_any (a) (-b) _ (by omega) (by omega) (by omega) (by omega)).mono ?_; rintro e w' ⟨rfl, c1, rfl⟩
 rw [HP.out]
 go_wp2_with fail
 refine (near_neg P 65536 _ (by omega) (by omega) (by omega) (by omega)).mono ?_
 rintro e w1 ⟨r, rfl, r0, r1, r2, r3, hk⟩
 have HR : Hid (cutM (-r) = negV P) := by show _ = _; unfold cutM negV; omega
 have HK : Hid _ := hk
 clear r2 r3 hk
 go_wp2
 go_ret
 exact ⟨ret_int HR.out, ((Kp.refl _).alloc _ _).trans HK.out⟩
theorem sfixMul_no (a b : Int) (w : World) (h : ¬ (-1099511627776 ≤ a ∧ a ≤ 1099511627776)) :
  Calls Try.prog 90 #[.int .i64 a, .int .i64 b] w fun e w' => e = .returned (.int .i64 0) ∧ w' = w := by
 have H : Hid _ := h
 clear h
 go_enter Try.func90, Try.ntmps90
 go_wp2_with (go_at_call 69; refine (sgoodQ_no a _ H.out).mono ?_; rintro e w' ⟨rfl, rfl⟩)
 go_ret
 exact ⟨rfl, rfl⟩
theorem sfixMul_no2 (a b : Int) (w : World) (a1 : -1099511627776 ≤ a) (a2 : a ≤ 1099511627776) (h : ¬ (-1099511627776 ≤ b ∧ b ≤ 1099511627776)) :
  Calls Try.prog 90 #[.int .i64 a, .int .i64 b] w fun e w' => e = .returned (.int .i64 0) ∧ w' = w := by
 have H : Hid _ := h
 clear h
 go_enter Try.func90, Try.ntmps90
 go_wp2_with fail
 refine (sgoodQ_yes a _ a1 a2).mono ?_; rintro e w' ⟨rfl, rfl⟩
 go_wp2_with fail
 refine (sgoodQ_no b _ H.out).mono ?_; rintro e w' ⟨rfl, rfl⟩
 go_wp2
 go_ret
 exact ⟨rfl, rfl⟩
theorem fixMul_no (a b : Int) (w : World) (h : ¬ (-1099511627776 ≤ a ∧ a ≤ 1099511627776)) :
  Calls Try.prog 100 #[.int .i64 a, .int .i64 b] w fun e w' => e = .returned (.int .i64 0) ∧ w' = w := by
 have H : Hid _ := h
 clear h
 go_enter Try.func100, Try.ntmps100
 go_wp2_with (go_at_call 99; refine (igoodQ_no a _ H.out).mono ?_; rintro e w' ⟨rfl, rfl⟩)
 go_ret
 exact ⟨rfl, rfl⟩
theorem fixMul_no2 (a b : Int) (w : World) (a1 : -1099511627776 ≤ a) (a2 : a ≤ 1099511627776) (h : ¬ (-1099511627776 ≤ b ∧ b ≤ 1099511627776)) :
  Calls Try.prog 100 #[.int .i64 a, .int .i64 b] w fun e w' => e = .returned (.int .i64 0) ∧ w' = w := by
 have H : Hid _ := h
 clear h
 go_enter Try.func100, Try.ntmps100
 go_wp2_with fail
 refine (igoodQ_yes a _ a1 a2).mono ?_; rintro e w' ⟨rfl, rfl⟩
 go_wp2_with fail
 refine (igoodQ_no b _ H.out).mono ?_; rintro e w' ⟨rfl, rfl⟩
 go_wp2
 go_ret
 exact ⟨rfl, rfl⟩
end Go.Proofs.Ytdjemnbdaddegaa
namespace Go.Proofs.Ytdjemnbdaddegaa.fnExactFixMul
open Go.ChangeShapes Go.WideShapes Go.ChangeAt Go.RowKit
set_option linter.unusedVariables false
end Go.Proofs.Ytdjemnbdaddegaa.fnExactFixMul
namespace Go.Proofs.Ytdjemnbdaddegaa
open Go.ChangeShapes Go.WideShapes Go.ChangeAt Go.RowKit
set_option linter.unusedVariables false
def fmV (a b : Int) : Int := if fixB a = true ∧ fixB b = true then cutM ((a * b + 32768) / 65536) else 0
theorem cutM_bd (x : Int) : -1099511627776 ≤ cutM x ∧ cutM x ≤ 1099511627776 := by unfold cutM; omega
theorem fmV_bd (a b : Int) : -1099511627776 ≤ fmV a b ∧ fmV a b ≤ 1099511627776 := by
 unfold fmV; split
 ·exact cutM_bd _
 ·omega
theorem posV_cut (P : Int) (h : 0 ≤ P) : posV P = cutM ((P + 32768) / 65536) := by unfold posV cutM; omega
theorem negV_cut (P : Int) (h : 0 ≤ P) : negV P = cutM ((-P + 32768) / 65536) := by unfold negV cutM; omega
theorem fm_both (a b : Int) : (∀ w, Calls Try.prog 90 #[.int .i64 a, .int .i64 b] w fun e w' => e = .returned (.int .i64 (fmV a b)) ∧ Kp w w') ∧ (∀ w, Calls Try.prog 100 #[.int .i64 a, .int .i64 b] w fun e w' => e = .returned (.int .i64 (fmV a b)) ∧ w' = w) := by
 by_cases ha : -1099511627776 ≤ a ∧ a ≤ 1099511627776
 ·by_cases hb : -1099511627776 ≤ b ∧ b ≤ 1099511627776
  ·have e : fmV a b = cutM ((a * b + 32768) / 65536) := by unfold fmV; rw [if_pos ⟨fixB_iff.2 ha, fixB_iff.2 hb⟩]
   rw [e]
   obtain ⟨a1, a2⟩ := ha
   obtain ⟨b1, b2⟩ := hb
   by_cases na : a < 0
   ·by_cases nb : b < 0
    ·have h := posV_cut (-a * -b) (Int.mul_nonneg (by omega) (by omega))
     rw [Int.neg_mul_neg] at h
     rw [← h, ← Int.neg_mul_neg]
     exact ⟨fun w => sfixMul_nn a b w a1 a2 b1 b2 na nb, fun w => fixMul_nn a b w a1 a2 b1 b2 na nb⟩
    ·have h := negV_cut (-a * b) (Int.mul_nonneg (by omega) (by omega))
     rw [show -(-a * b) = a * b by rw [Int.neg_mul, Int.neg_neg]] at h
     rw [← h]
     exact ⟨fun w => sfixMul_np a b w a1 a2 b1 b2 na (by omega), fun w => fixMul_np a b w a1 a2 b1 b2 na (by omega)⟩
   ·by_cases nb : b < 0
    ·have h := negV_cut (a * -b) (Int.mul_nonneg (by omega) (by omega))
     rw [show -(a * -b) = a * b by rw [Int.mul_neg, Int.neg_neg]] at h
     rw [← h]
     exact ⟨fun w => sfixMul_pn a b w a1 a2 b1 b2 (by omega) nb, fun w => fixMul_pn a b w a1 a2 b1 b2 (by omega) nb⟩
    ·rw [← posV_cut (a * b) (Int.mul_nonneg (by omega) (by omega))]
     exact ⟨fun w => sfixMul_pp a b w a1 a2 b1 b2 (by omega) (by omega), fun w => fixMul_pp a b w a1 a2 b1 b2 (by omega) (by omega)⟩
  ·have e : fmV a b = 0 := by unfold fmV; rw [if_neg (fun h => hb (fixB_iff.1 h.2))]
   rw [e]
   exact ⟨fun w => (sfixMul_no2 a b w ha.1 ha.2 hb).mono fun e w' ⟨h1, h2⟩ => ⟨h1, h2 ▸ Kp.refl _⟩, fun w => fixMul_no2 a b w ha.1 ha.2 hb⟩
 ·have e : fmV a b = 0 := by unfold fmV; rw [if_neg (fun h => ha (fixB_iff.1 h.1))]
  rw [e]
  exact ⟨fun w => (sfixMul_no a b w ha).mono fun e w' ⟨h1, h2⟩ => ⟨h1, h2 ▸ Kp.refl _⟩, fun w => fixMul_no a b w ha⟩
theorem sfm (a b : Int) (w : World) : Calls Try.prog 90 #[.int .i64 a, .int .i64 b] w fun e w' => e = .returned (.int .i64 (fmV a b)) ∧ Kp w w' := (fm_both a b).1 w
theorem ifm (a b : Int) (w : World) : Calls Try.prog 100 #[.int .i64 a, .int .i64 b] w fun e w' => e = .returned (.int .i64 (fmV a b)) ∧ w' = w := (fm_both a b).2 w
def cosV (k : Nat) : Int := asin ((128 * (k : Int) + 1024) % 4096)
def sinV (k : Nat) : Int := asin (128 * (k : Int) % 4096)
def roundP (cx cy rx ry : Int) (k : Nat) : Pnt := (cx + fmV rx (cosV k), cy + fmV ry (sinV k))
def roundsP (cx cy rx ry : Int) (f n : Nat) : List Pnt := (List.range n).map fun i => roundP cx cy rx ry (f + i)
theorem roundsP_len (cx cy rx ry : Int) (f n : Nat) : (roundsP cx cy rx ry f n).length = n := by simp [roundsP]
theorem roundsP_succ (cx cy rx ry : Int) (f n : Nat) : roundsP cx cy rx ry f (n + 1) = roundsP cx cy rx ry f n ++ [roundP cx cy rx ry (f + n)] := by simp [roundsP, List.range_succ]
theorem scosK (k : Nat) (hk : k ≤ 32) (w : World) : Calls Try.prog 97 #[.int .i64 (128 * (k : Int))] w fun e w' => e = .returned (.int .i64 (cosV k)) ∧ Kp w w' :=
 scos_any (128 * (k : Int)) w (by omega) (by omega)
theorem ssinK (k : Nat) (hk : k ≤ 32) (w : World) : Calls Try.prog 98 #[.int .i64 (128 * (k : Int))] w fun e w' => e = .returned (.int .i64 (sinV k)) ∧ Kp w w' := by
 unfold sinV
 by_cases h : k < 32
 ·rw [Int.emod_eq_of_lt (by omega) (by omega)]
  exact ssin_any (128 * (k : Int)) w (by omega) (by omega)
 ·obtain rfl : k = 32 := by omega
  exact ssin_low 4096 0 0 w (by omega) (by omega) (by decide) (by omega) (by omega) (by omega)
set_option maxHeartbeats 4000000 in
theorem sround (w : World) (cx cy rx ry : Int) (k : Nat) (hk : k ≤ 32) (c1 : -4398046511104 ≤ cx) (c2 : cx ≤ 4398046511104) (d1 : -4398046511104 ≤ cy) (d2 : cy ≤ 4398046511104) :
  Calls Try.prog 70 #[.int .i64 cx, .int .i64 cy, .int .i64 rx, .int .i64 ry, .int .i64 (k : Int)] w fun e w' => e = .returned (ptV (roundP cx cy rx ry k)) ∧ Kp w w' := by
 have HC : Hid _ := fun w => scosK k hk w
 have HS : Hid _ := fun w => ssinK k hk w
 have HM1 : Hid _ := fun w => sfm rx (cosV k) w
 have HM2 : Hid _ := fun w => sfm ry (sinV k) w
 have b1 := fmV_bd rx (cosV k)
 have b2 := fmV_bd ry (sinV k)
 unfold ptV roundP
 generalize cosV k = vc at *
 generalize sinV k = vs at *
 generalize fmV rx vc = m1 at *
 generalize fmV ry vs = m2 at *
 go_enter Try.func70, Try.ntmps70
 go_wp2_with fail
 refine (HC.out _).mono ?_
 rintro e w1 ⟨rfl, k1⟩
 have K1 : Hid _ := k1
 clear k1
 go_wp2_with fail
 refine (HM1.out _).mono ?_
 rintro e w2 ⟨rfl, k2⟩
 have K2 : Hid _ := Kp.trans K1.out k2
 clear k2
 go_wp2_with fail
 refine (HS.out _).mono ?_
 rintro e w3 ⟨rfl, k3⟩
 have K3 : Hid _ := Kp.trans K2.out k3
 clear k3
 go_wp2_with fail
 refine (HM2.out _).mono ?_
 rintro e w4 ⟨rfl, k4⟩
 have K4 : Hid (Kp (w.alloc (.cells #[.int .i64 0, .int .i64 0] 27)) w4) := Kp.trans K3.out k4
 clear k4
 have hs : w.heap.size < (w.alloc (.cells #[.int .i64 0, .int .i64 0] 27)).heap.size := by simp
 have z0 : w4.cell? ⟨w.heap.size, 0, none⟩ = some (.int .i64 0) := ((Kp.cells K4.out).1 _ _ hs).trans (by simp)
 have z1 : w4.cell? ⟨w.heap.size, 1, none⟩ = some (.int .i64 0) := ((Kp.cells K4.out).1 _ _ hs).trans (by simp)
 have zf : ∀ o, w4.frozen? ⟨w.heap.size, o, none⟩ = false := fun o => ((Kp.cells K4.out).2 _ _).trans (World.frozen?_alloc_at _ _ _ _ rfl)
 clear hs
 go_wp2
 have y1 : ((w4.setCell ⟨w.heap.size, 0, none⟩ (.int .i64 (cx + m1))).setCell ⟨w.heap.size, 1, none⟩ (.int .i64 (cy + m2))).cell? ⟨w.heap.size, 1, none⟩ = some (.int .i64 (cy + m2)) := World.cell?_setCell_same _ ⟨w.heap.size, 1, none⟩ _ ((World.cell?_setCell_other _ _ _ _ (fun h => by injection h; omega)).trans z1)
 have y0 : ((w4.setCell ⟨w.heap.size, 0, none⟩ (.int .i64 (cx + m1))).setCell ⟨w.heap.size, 1, none⟩ (.int .i64 (cy + m2))).cell? ⟨w.heap.size, 0, none⟩ = some (.int .i64 (cx + m1)) := by
  rw [World.cell?_setCell_other _ _ _ _ (fun h => by injection h; omega)]
  exact World.cell?_setCell_same w4 ⟨w.heap.size, 0, none⟩ _ z0
 refine bodyPost_ret (v := .agg #[.int .i64 (cx + m1), .int .i64 (cy + m2)]) (by simp [results, Try.results70, go_sem, y0, y1]) rfl ⟨rfl, ?_⟩
 exact ((Kp.trans ((Kp.refl w).alloc _ _) K4.out).setCell (Nat.le_refl _) _).setCell (Nat.le_refl _) _
abbrev Oval (w : World) (b : Nat) (cx cy rx ry : Int) : Prop :=
 w.cell? ⟨b, 0, none⟩ = some (.int .i64 cx) ∧ w.cell? ⟨b, 1, none⟩ = some (.int .i64 cy) ∧ w.cell? ⟨b, 2, none⟩ = some (.int .i64 rx) ∧ w.cell? ⟨b, 3, none⟩ = some (.int .i64 ry)
theorem Oval.below {w w' : World} {b bx : Nat} {cx cy rx ry : Int} (h : Oval w b cx cy rx ry) (k : Below bx w w') (hb : b < bx) : Oval w' b cx cy rx ry :=
 ⟨(k.cell (p := ⟨b, 0, none⟩) hb).trans h.1, (k.cell (p := ⟨b, 1, none⟩) hb).trans h.2.1, (k.cell (p := ⟨b, 2, none⟩) hb).trans h.2.2.1, (k.cell (p := ⟨b, 3, none⟩) hb).trans h.2.2.2⟩
end Go.Proofs.Ytdjemnbdaddegaa
