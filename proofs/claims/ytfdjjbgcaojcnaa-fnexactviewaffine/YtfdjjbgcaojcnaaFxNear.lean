/-
  What the specification's l1Near, l1Cut and l1Abs answer, for numbers within the bounds named in each theorem.
-/
import Derived.Test.YtfdjjbgcaojcnaaFxOver
namespace Go.Proofs.Ytfdjjbgcaojcnaa
open Go.ChangeShapes Go.WideShapes Go.ChangeAt Go.RowKit

def cutM (x : Int) : Int := if 1099511627776 < x then 1099511627776 else if x < -1099511627776 then -1099511627776 else x

set_option maxHeartbeats 400000 in
theorem cut_any (x : Int) (w : World) : Calls Try.prog 146 #[.int .i64 x] w fun e w' => e = .returned (.int .i64 (cutM x)) ∧ w' = w := by
  go_enter Try.func146, Try.ntmps146
  go_wp2
  all_goals go_ret
  all_goals exact ⟨ret_int (by unfold cutM; omega), rfl⟩

def absV (x : Int) : Int := if x < 0 then -x else x

set_option maxHeartbeats 400000 in
theorem abs_any (x : Int) (w : World) (h : -9223372036854775807 ≤ x) : Calls Try.prog 123 #[.int .i64 x] w fun e w' => e = .returned (.int .i64 (absV x)) ∧ w' = w := by
  go_enter Try.func123, Try.ntmps123
  go_wp2
  all_goals go_ret
  all_goals exact ⟨ret_int (by unfold absV; omega), rfl⟩

theorem abs_neg (x : Int) (w : World) (h : -9223372036854775807 ≤ x) (hx : x < 0) : Calls Try.prog 123 #[.int .i64 x] w fun e w' => e = .returned (.int .i64 (-x)) ∧ w' = w := by
  have := abs_any x w h
  unfold absV at this; rw [if_pos hx] at this; exact this
theorem abs_nn (x : Int) (w : World) (hx : 0 ≤ x) : Calls Try.prog 123 #[.int .i64 x] w fun e w' => e = .returned (.int .i64 x) ∧ w' = w := by
  have := abs_any x w (by omega)
  unfold absV at this; rw [if_neg (by omega)] at this; exact this
theorem sgood_yes (x : Int) (w : World) (h1 : -1099511627776 ≤ x) (h2 : x ≤ 1099511627776) : Calls Try.prog 64 #[.int .i64 x] w fun e w' => e = .returned (.bool true) ∧ w' = w := by
  go_enter Try.func64, Try.ntmps64
  go_wp2
  go_ret
  exact ⟨rfl, rfl⟩
theorem sgood_no (x : Int) (w : World) (h : ¬ (-1099511627776 ≤ x ∧ x ≤ 1099511627776)) : Calls Try.prog 64 #[.int .i64 x] w fun e w' => e = .returned (.bool false) ∧ w' = w := by
  by_cases h1 : -1099511627776 ≤ x
  · have h2 : 1099511627776 < x := by omega
    have h3 : decide (x ≤ 1099511627776) = false := by simp; omega
    clear h
    go_enter Try.func64, Try.ntmps64
    go_wp2
    go_ret
    exact ⟨rfl, rfl⟩
  · clear h
    go_enter Try.func64, Try.ntmps64
    go_wp2
    go_ret
    exact ⟨rfl, rfl⟩
theorem igood_yes (x : Int) (w : World) (h1 : -1099511627776 ≤ x) (h2 : x ≤ 1099511627776) : Calls Try.prog 99 #[.int .i64 x] w fun e w' => e = .returned (.bool true) ∧ w' = w := by
  go_enter Try.func99, Try.ntmps99
  go_wp2
  go_ret
  exact ⟨rfl, rfl⟩
theorem igood_no (x : Int) (w : World) (h : ¬ (-1099511627776 ≤ x ∧ x ≤ 1099511627776)) : Calls Try.prog 99 #[.int .i64 x] w fun e w' => e = .returned (.bool false) ∧ w' = w := by
  by_cases h1 : -1099511627776 ≤ x
  · have h2 : 1099511627776 < x := by omega
    have h3 : decide (x ≤ 1099511627776) = false := by simp; omega
    clear h
    go_enter Try.func99, Try.ntmps99
    go_wp2
    go_ret
    exact ⟨rfl, rfl⟩
  · clear h
    go_enter Try.func99, Try.ntmps99
    go_wp2
    go_ret
    exact ⟨rfl, rfl⟩

theorem plus_wide (m b : Int) (w : World) (hm : 0 ≤ m) (hm' : m < 170141183460469231731687303715884105728) (hb : 0 ≤ b) (hb' : b < 18446744073709551616) :
    Calls Try.prog 144 #[.agg #[.int .u64 (m / 18446744073709551616), .int .u64 (m % 18446744073709551616)], .int .u64 b] w fun e w' => e = .returned (.agg #[.int .u64 ((m + b) / 18446744073709551616), .int .u64 ((m + b) % 18446744073709551616)]) ∧ Kp w w' := by
  have h := plus_any (m / 18446744073709551616) (m % 18446744073709551616) b w (by omega) (by omega) (by omega) (by omega) hb hb'
  rw [show m / 18446744073709551616 * 18446744073709551616 + m % 18446744073709551616 + b = m + b from by omega] at h
  exact h

set_option maxHeartbeats 2000000 in
theorem near_pos (n b : Int) (w : World) (hn : 0 ≤ n) (hn' : n < 42535295865117307932921825928971026432) (hb : 0 < b) (hb' : b < 1152921504606846976) :
    Calls Try.prog 121 #[.bool false, .agg #[.int .u64 (n / 18446744073709551616), .int .u64 (n % 18446744073709551616)], .int .u64 b] w fun e w' => ∃ r : Int, e = .returned (.int .i64 (cutM r)) ∧ 0 ≤ r ∧ r ≤ 4398046511104 ∧ r * (2 * b) ≤ 2 * n + b ∧ (r = 4398046511104 ∨ 2 * n + b < (r + 1) * (2 * b)) ∧ Kp w w' := by
  go_enter Try.func121, Try.ntmps121
  go_wp2_with fail
  refine (sum_any n n _ hn (by omega) hn (by omega)).mono ?_
  rintro e w1 ⟨rfl, hk⟩
  have hz : w.heap.size + 1 ≤ w1.heap.size := by have := hk.size; simp at this; omega
  have HK : Hid (Kp w w1) := ((Kp.refl w).alloc _ _).trans hk
  clear hk
  go_wp2_with fail
  refine (plus_wide (n + n) b _ (by omega) (by omega) (by omega) (by omega)).mono ?_
  rintro e w2 ⟨rfl, hk⟩
  obtain ⟨hc, hf⟩ := hk.cells
  have hz2 : w1.heap.size + 1 ≤ w2.heap.size := by have := hk.size; simp at this; omega
  have c0 : w2.cell? ⟨w1.heap.size, 0, none⟩ = some (.int .u64 ((n + n) / 18446744073709551616)) := by rw [hc _ _ (by simp)]; simp [go_sem]
  have c1 : w2.cell? ⟨w1.heap.size, 1, none⟩ = some (.int .u64 ((n + n) % 18446744073709551616)) := by rw [hc _ _ (by simp)]; simp [go_sem]
  have f0 : ∀ o, w2.frozen? ⟨w1.heap.size, o, none⟩ = false := by intro o; rw [hf]; simp [go_sem]
  have HK2 : Hid (Kp w w2) := (HK.out.alloc _ _).trans hk
  clear hk hc hf HK
  rw [show n + n + b = 2 * n + b from by omega]
  go_wp2_with fail
  refine (over_any (2 * n + b) (2 * b) 4398046511104 _ (by omega) (by omega) (by omega) (by omega) (by omega)).mono ?_
  rintro e w3 ⟨r, rfl, r0, r1, r2, r3, hk⟩
  have HK3 : Hid (Kp w w3) := ((HK2.out.setCell (by simp <;> omega) _).setCell (by simp <;> omega) _).trans hk
  have R3 : Hid _ := r3
  clear hk HK2 c0 c1 f0 r3
  go_wp2_with fail
  refine (cut_any _ _).mono ?_
  rintro e w4 ⟨rfl, rfl⟩
  go_wp2
  go_ret
  exact ⟨r, rfl, r0, r1, r2, R3.out, HK3.out⟩

set_option maxHeartbeats 2000000 in
theorem near_neg (n b : Int) (w : World) (hn : 0 ≤ n) (hn' : n < 42535295865117307932921825928971026432) (hb : 0 < b) (hb' : b < 1152921504606846976) :
    Calls Try.prog 121 #[.bool true, .agg #[.int .u64 (n / 18446744073709551616), .int .u64 (n % 18446744073709551616)], .int .u64 b] w fun e w' => ∃ r : Int, e = .returned (.int .i64 (cutM (-r))) ∧ 0 ≤ r ∧ r ≤ 4398046511104 ∧ r * (2 * b) ≤ 2 * n + b - 1 ∧ (r = 4398046511104 ∨ 2 * n + b - 1 < (r + 1) * (2 * b)) ∧ Kp w w' := by
  go_enter Try.func121, Try.ntmps121
  go_wp2_with fail
  refine (sum_any n n _ hn (by omega) hn (by omega)).mono ?_
  rintro e w1 ⟨rfl, hk⟩
  have hz : w.heap.size + 1 ≤ w1.heap.size := by have := hk.size; simp at this; omega
  have HK : Hid (Kp w w1) := ((Kp.refl w).alloc _ _).trans hk
  clear hk
  go_wp2_with fail
  refine (plus_wide (n + n) b _ (by omega) (by omega) (by omega) (by omega)).mono ?_
  rintro e w2 ⟨rfl, hk⟩
  obtain ⟨hc, hf⟩ := hk.cells
  have hz2 : w1.heap.size + 1 ≤ w2.heap.size := by have := hk.size; simp at this; omega
  have c0 : w2.cell? ⟨w1.heap.size, 0, none⟩ = some (.int .u64 ((n + n) / 18446744073709551616)) := by rw [hc _ _ (by simp)]; simp [go_sem]
  have c1 : w2.cell? ⟨w1.heap.size, 1, none⟩ = some (.int .u64 ((n + n) % 18446744073709551616)) := by rw [hc _ _ (by simp)]; simp [go_sem]
  have f0 : ∀ o, w2.frozen? ⟨w1.heap.size, o, none⟩ = false := by intro o; rw [hf]; simp [go_sem]
  have HK2 : Hid (Kp w w2) := (HK.out.alloc _ _).trans hk
  clear hk hc hf HK
  rw [show n + n + b = 2 * n + b from by omega]
  generalize hP : (2 * n + b) / 18446744073709551616 = P
  generalize hL : (2 * n + b) % 18446744073709551616 = L
  generalize (n + n) / 18446744073709551616 = A at *
  generalize (n + n) % 18446744073709551616 = B at *
  have p1 : 0 ≤ P := by omega
  have p2 : P < 9223372036854775807 := by omega
  have l1 : 0 ≤ L := by omega
  have l2 : L < 18446744073709551616 := by omega
  by_cases hl : L = 0
  · have HP : Hid (P - 1 = (2 * n + b - 1) / 18446744073709551616) := by show _ = _; omega
    obtain ⟨M, gw⟩ : ∃ M : Int, IntKind.u64.wrap (-1) = M := ⟨_, rfl⟩
    have HL : Hid (M = (2 * n + b - 1) % 18446744073709551616) := by show _ = _; rw [← gw, IntKind.wrap_u64]; omega
    have p3 : 1 ≤ P := by omega
    clear hP hL l1 l2
    subst hl
    have q1 : ((((w2.setCell ⟨w1.heap.size, 0, none⟩ (.int .u64 P)).setCell ⟨w1.heap.size, 1, none⟩ (.int .u64 0)).setCell ⟨w1.heap.size, 0, none⟩ (.int .u64 (P - 1))).setCell ⟨w1.heap.size, 1, none⟩ (.int .u64 M)).cell? ⟨w1.heap.size, 1, none⟩ = some (.int .u64 M) := by
      apply World.cell?_setCell_same (u := .int .u64 0)
      rw [World.cell?_setCell_other _ _ _ _ (by simp)]
      apply World.cell?_setCell_same (u := .int .u64 B)
      rw [World.cell?_setCell_other _ _ _ _ (by simp)]
      exact c1
    go_wp2_with fail
    rw [HP.out, HL.out]
    refine (over_any (2 * n + b - 1) (2 * b) 4398046511104 _ (by omega) (by omega) (by omega) (by omega) (by omega)).mono ?_
    rintro e w3 ⟨r, rfl, r0, r1, r2, r3, hk⟩
    have HK3 : Hid (Kp w w3) := ((((HK2.out.setCell (by simp <;> omega) _).setCell (by simp <;> omega) _).setCell (by simp <;> omega) _).setCell (by simp <;> omega) _).trans hk
    have R3 : Hid _ := r3
    clear hk HK2 c0 c1 f0 r3
    go_wp2_with fail
    refine (cut_any _ _).mono ?_
    rintro e w4 ⟨rfl, rfl⟩
    go_wp2
    go_ret
    exact ⟨r, rfl, r0, r1, r2, R3.out, HK3.out⟩

  · have HP : Hid (P = (2 * n + b - 1) / 18446744073709551616) := by show _ = _; omega
    have HL : Hid (L - 1 = (2 * n + b - 1) % 18446744073709551616) := by show _ = _; omega
    have hl1 : (L == 0) = false := by simpa using hl
    have l3 : 1 ≤ L := by omega
    clear hP hL
    have q1 : (((w2.setCell ⟨w1.heap.size, 0, none⟩ (.int .u64 P)).setCell ⟨w1.heap.size, 1, none⟩ (.int .u64 L)).setCell ⟨w1.heap.size, 1, none⟩ (.int .u64 (L - 1))).cell? ⟨w1.heap.size, 1, none⟩ = some (.int .u64 (L - 1)) := by
      apply World.cell?_setCell_same (u := .int .u64 L)
      apply World.cell?_setCell_same (u := .int .u64 B)
      rw [World.cell?_setCell_other _ _ _ _ (by simp)]
      exact c1
    go_wp2_with fail
    rw [HP.out, HL.out]
    refine (over_any (2 * n + b - 1) (2 * b) 4398046511104 _ (by omega) (by omega) (by omega) (by omega) (by omega)).mono ?_
    rintro e w3 ⟨r, rfl, r0, r1, r2, r3, hk⟩
    have HK3 : Hid (Kp w w3) := (((HK2.out.setCell (by simp <;> omega) _).setCell (by simp <;> omega) _).setCell (by simp <;> omega) _).trans hk
    have R3 : Hid _ := r3
    clear hk HK2 c0 c1 f0 r3
    go_wp2_with fail
    refine (cut_any _ _).mono ?_
    rintro e w4 ⟨rfl, rfl⟩
    go_wp2
    go_ret
    exact ⟨r, rfl, r0, r1, r2, R3.out, HK3.out⟩


end Go.Proofs.Ytfdjjbgcaojcnaa
