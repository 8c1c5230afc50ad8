/-
  Turns of angles, the specification; each theorem names its conditions.
  Sines, the specification; each theorem names its conditions.
  What the specification's helpers on products of two words answer: l1Times, l1Plus, l1Sum, l1Less, each for words within the bounds named in its theorem.
  Quotients; each theorem names its conditions.
-/
import Derived.Test.YtpfhnedklihdoaaGreatDoorJAD
import Derived.Test.YtpfhnedklihdoaaGreatDoorJAA
import Derived.Deep.QuietTactic
import Derived.BigQuiet
import Derived.Laws.Bits64b
namespace Go.Proofs.YtpfhnedklihdoaaGreatDoor
open Go.ChangeShapes Go.WideShapes Go.ChangeAt Go.RowKit
set_option linter.unusedVariables false

set_option maxHeartbeats 400000 in
theorem smod_any (a b : Int) (w : World) (hb : 0 < b) (hb' : b ≤ 1000000000) (h1 : -4611686018427387904 ≤ a) (h2 : a ≤ 4611686018427387904) :
    Calls Tryz.prog 97 #[.int .i64 a, .int .i64 b] w fun e w' => e = .returned (.int .i64 (a % b)) ∧ w' = w := by
  have e := Int.emod_def a b
  have m1 := Int.emod_nonneg a (b := b) (by omega)
  have m2 := Int.emod_lt_of_pos a hb
  rw [e] at m1 m2 ⊢
  clear e
  go_enter Tryz.func97, Tryz.ntmps97
  go_wp2_with (go_at_call 68; refine (sdown_any _ _ _ (by omega) (by omega) (by omega) (by omega)).mono ?_; rintro e w' ⟨rfl, rfl⟩)
  go_ret
  exact ⟨rfl, rfl⟩
set_option maxHeartbeats 400000 in
theorem sturn_yes (d : Int) (w : World) (h1 : -1099511627776 ≤ d) (h2 : d ≤ 1099511627776) :
    Calls Tryz.prog 86 #[.int .i64 d] w fun e w' => e = .returned (.int .i64 ((d * 2048 + 5898240) / 11796480 % 4096)) ∧ w' = w := by
  go_enter Tryz.func86, Tryz.ntmps86
  go_wp2_with (first | (go_at_call 68; refine (sdown_any _ _ _ (by omega) (by omega) (by omega) (by omega)).mono ?_; rintro e w' ⟨rfl, rfl⟩) | (go_at_call 97; refine (smod_any _ _ _ (by omega) (by omega) (by omega) (by omega)).mono ?_; rintro e w' ⟨rfl, rfl⟩) | go_in)
  go_ret
  exact ⟨rfl, rfl⟩
set_option maxHeartbeats 400000 in
theorem sturn_no (d : Int) (w : World) (h : ¬ (-1099511627776 ≤ d ∧ d ≤ 1099511627776)) :
    Calls Tryz.prog 86 #[.int .i64 d] w fun e w' => e = .returned (.int .i64 0) ∧ w' = w := by
  by_cases h1 : -1099511627776 ≤ d
  · have h2 : 1099511627776 < d := by omega
    have h3 : decide (d ≤ 1099511627776) = false := by simp; omega
    clear h
    go_enter Tryz.func86, Tryz.ntmps86
    go_wp2
    go_ret
    exact ⟨rfl, rfl⟩
  · clear h
    go_enter Tryz.func86, Tryz.ntmps86
    go_wp2
    go_ret
    exact ⟨rfl, rfl⟩
end Go.Proofs.YtpfhnedklihdoaaGreatDoor
namespace Go.Proofs.YtpfhnedklihdoaaGreatDoor
open Go.ChangeShapes Go.WideShapes Go.ChangeAt Go.RowKit
set_option linter.unusedVariables false

/-- The table of sines. -/
def sines : List Int := [0, 6424, 12785, 19024, 25080, 30893, 36410, 41576, 46341, 50660, 54491, 57798, 60547, 62714, 64277, 65220, 65536]
def tb (k : Nat) : Int := sines.getD k 0
theorem tb_bd (k : Nat) : 0 ≤ tb k ∧ tb k ≤ 65536 := by
  by_cases h : k < 17
  · have : ∀ i : Fin 17, 0 ≤ tb i ∧ tb i ≤ 65536 := by decide
    exact this ⟨k, h⟩
  · unfold tb; rw [List.getD_eq_getElem?_getD, List.getElem?_eq_none (by show 17 ≤ k; omega)]; simp
def sineCells : Array Value := (sines.map (Value.int .i64)).toArray
theorem sineCells_get (k : Nat) (h : k < 17) : sineCells[k]? = some (.int .i64 (tb k)) := by
  unfold sineCells tb
  rw [List.getElem?_toArray, List.getElem?_map, List.getD_eq_getElem?_getD, List.getElem?_eq_getElem (show k < sines.length from h)]; rfl
set_option maxHeartbeats 400000 in
theorem sdown4_any (a : Int) (w : World) (h1 : -9223372036854775808 ≤ a) (h2 : a ≤ 9223372036854775807) :
    Calls Tryz.prog 68 #[.int .i64 a, .int .i64 4096] w fun e w' => e = .returned (.int .i64 (a / 4096)) ∧ w' = w := by
  by_cases ha : 0 ≤ a
  · have hda : decide (a < 0) = false := by simp; omega
    by_cases hz : a % 4096 = 0
    · have hq : (a % 4096 != 0) = false := by simp [hz]
      clear hz
      go_enter Tryz.func68, Tryz.ntmps68
      go_wp2
      go_ret
      exact ⟨rfl, rfl⟩
    · have hq : (a % 4096 != 0) = true := by simp [hz]
      clear hz
      go_enter Tryz.func68, Tryz.ntmps68
      go_wp2
      go_ret
      exact ⟨rfl, rfl⟩
  · have e1 := tdiv_neg_of a 4096 (by omega)
    have e2 := tmod_neg_of a 4096 (by omega)
    have hda : decide (a < 0) = true := by simp; omega
    have hq0 : 0 ≤ (-a) / 4096 ∧ (-a) / 4096 ≤ 4503599627370496 := by omega
    by_cases hz : (-a) % 4096 = 0
    · have e3 : a / 4096 = -((-a) / 4096) := by omega
      rw [e3]
      clear e3
      rw [hz] at e2
      generalize (-a) / 4096 = q at *
      clear hz
      go_enter Tryz.func68, Tryz.ntmps68
      go_wp2
      go_ret
      exact ⟨rfl, rfl⟩
    · have e3 : a / 4096 = -((-a) / 4096) - 1 := by omega
      rw [e3]
      clear e3
      have hr : 0 < (-a) % 4096 ∧ (-a) % 4096 < 4096 := by omega
      generalize (-a) / 4096 = q at *
      generalize (-a) % 4096 = r at *
      have hq : (-r != 0) = true := by simp; omega
      clear hz
      go_enter Tryz.func68, Tryz.ntmps68
      go_wp2
      go_ret
      exact ⟨rfl, rfl⟩
set_option maxHeartbeats 400000 in
theorem smod4_any (a : Int) (w : World) (h1 : -9223372036854775808 ≤ a) (h2 : a ≤ 9223372036854775807) :
    Calls Tryz.prog 97 #[.int .i64 a, .int .i64 4096] w fun e w' => e = .returned (.int .i64 (a % 4096)) ∧ w' = w := by
  have e : a % 4096 = a - 4096 * (a / 4096) := by omega
  have hb : -9223372036854775808 ≤ 4096 * (a / 4096) ∧ 4096 * (a / 4096) ≤ 9223372036854775807 := by omega
  have hc : 0 ≤ a - 4096 * (a / 4096) ∧ a - 4096 * (a / 4096) < 4096 := by omega
  rw [e]
  clear e
  go_enter Tryz.func97, Tryz.ntmps97
  go_wp2_with (go_at_call 68; refine (sdown4_any _ _ (by omega) (by omega)).mono ?_; rintro e w' ⟨rfl, rfl⟩)
  go_ret
  exact ⟨rfl, rfl⟩
set_option maxHeartbeats 800000 in
theorem table_any (w : World) :
    Calls Tryz.prog 98 #[] w fun e w' => e = .returned (.slice (some ⟨w.heap.size, 0, none⟩) 17 17) ∧ w' = w.alloc (.cells sineCells 3) := by
  go_enter Tryz.func98, Tryz.ntmps98
  go_wp2
  go_ret
  exact ⟨rfl, rfl⟩
/-- What is answered in the first quarter. -/
def qsin (a : Int) : Int := if a = 1024 then 65536 else (tb (a / 64).toNat * (64 - a % 64) + tb ((a / 64).toNat + 1) * (a % 64) + 32) / 64
set_option maxHeartbeats 1000000 in
theorem ssin_top (w : World) : Calls Tryz.prog 88 #[.int .i64 1024] w fun e w' => e = .returned (.int .i64 (qsin 1024)) ∧ Kp w w' := by
  go_enter Tryz.func88, Tryz.ntmps88
  go_wp2_with (go_at_call 97; refine (smod4_any _ _ (by omega) (by omega)).mono ?_; rintro e w' ⟨rfl, rfl⟩)
  go_ret
  exact ⟨rfl, Kp.refl _⟩
set_option maxHeartbeats 1000000 in
theorem ssin_low (c : Int) (q : Nat) (r : Int) (w : World) (c1 : 0 ≤ c) (c2 : c < 100000) (e0 : c % 4096 = 64 * (q : Int) + r) (hq : q < 16) (h1 : 0 ≤ r) (h2 : r < 64) :
    Calls Tryz.prog 88 #[.int .i64 c] w fun e w' => e = .returned (.int .i64 ((tb q * (64 - r) + tb (q + 1) * r + 32) / 64)) ∧ Kp w w' := by
  have e1 : (64 * (q : Int) + r) / 64 = q := by omega
  have e2 : (64 * (q : Int) + r) % 64 = r := by omega
  have t0 := sineCells_get q (by omega)
  have t1 := sineCells_get (q + 1) (by omega)
  have b0 := tb_bd q
  have b1 := tb_bd (q + 1)
  generalize tb q = x at *
  generalize tb (q + 1) = y at *
  have m0 : 0 ≤ x * (64 - r) ∧ x * (64 - r) ≤ 65536 * 64 := ⟨Int.mul_nonneg b0.1 (by omega), by
    have := Int.mul_le_mul b0.2 (show (64 - r : Int) ≤ 64 by omega) (by omega) (by omega); omega⟩
  have m1 : 0 ≤ y * r ∧ y * r ≤ 65536 * 64 := ⟨Int.mul_nonneg b1.1 (by omega), by
    have := Int.mul_le_mul b1.2 (show (r : Int) ≤ 64 by omega) (by omega) (by omega); omega⟩
  go_enter Tryz.func88, Tryz.ntmps88
  go_wp2_with (first | (go_at_call 97; refine (smod4_any _ _ (by omega) (by omega)).mono ?_; rintro e w' ⟨rfl, rfl⟩; rw [e0]) | (go_at_call 98; refine (table_any _).mono ?_; rintro e w' ⟨rfl, rfl⟩))
  rw [e1, e2]
  have c0 : ∀ W : World, (W.alloc (.cells sineCells 3)).cell? ⟨W.heap.size, q, none⟩ = some (.int .i64 x) := by
    intro W; simp [t0]
  have c1 : ∀ W : World, (W.alloc (.cells sineCells 3)).cell? ⟨W.heap.size, q + 1, none⟩ = some (.int .i64 y) := by
    intro W; simp [t1]
  go_quiet (fail)
  go_wp2
  go_ret
  exact ⟨rfl, by repeat (first | exact Kp.refl _ | apply Kp.drew | apply Kp.drewN | apply Kp.alloc)⟩
theorem ssin_q (a : Int) (w : World) (h1 : 0 ≤ a) (h2 : a ≤ 1024) :
    Calls Tryz.prog 88 #[.int .i64 a] w fun e w' => e = .returned (.int .i64 (qsin a)) ∧ Kp w w' := by
  by_cases h : a = 1024
  · subst h; exact ssin_top w
  · have e : a = 64 * ((a / 64).toNat : Int) + a % 64 := by omega
    have k := ssin_low a (a / 64).toNat (a % 64) w (by omega) (by omega) (by omega) (by omega) (by omega) (by omega)
    unfold qsin
    rw [if_neg h]
    exact k
/-- What is answered in the first half. -/
def hsin (a : Int) : Int := if a ≤ 1024 then qsin a else qsin (2048 - a)
def asin (a : Int) : Int := if a < 2048 then hsin a else - hsin (a - 2048)
theorem qsin_bd (a : Int) (h1 : 0 ≤ a) (h2 : a ≤ 1024) : 0 ≤ qsin a ∧ qsin a ≤ 200000 := by
  unfold qsin
  split
  · omega
  · have b0 := tb_bd (a / 64).toNat
    have b1 := tb_bd ((a / 64).toNat + 1)
    generalize tb (a / 64).toNat = x at *
    generalize tb ((a / 64).toNat + 1) = y at *
    have hr : 0 ≤ a % 64 ∧ a % 64 < 64 := by omega
    generalize a % 64 = r at *
    have m0 : 0 ≤ x * (64 - r) ∧ x * (64 - r) ≤ 65536 * 64 := ⟨Int.mul_nonneg b0.1 (by omega), by
      have := Int.mul_le_mul b0.2 (show (64 - r : Int) ≤ 64 by omega) (by omega) (by omega); omega⟩
    have m1 : 0 ≤ y * r ∧ y * r ≤ 65536 * 64 := ⟨Int.mul_nonneg b1.1 (by omega), by
      have := Int.mul_le_mul b1.2 (show (r : Int) ≤ 64 by omega) (by omega) (by omega); omega⟩
    omega
theorem hsin_bd (a : Int) (h1 : 0 ≤ a) (h2 : a ≤ 2048) : 0 ≤ hsin a ∧ hsin a ≤ 200000 := by
  unfold hsin; split
  · exact qsin_bd _ h1 (by omega)
  · exact qsin_bd _ (by omega) (by omega)
set_option maxHeartbeats 1000000 in
theorem ssin_h (a : Int) (w : World) (h1 : 0 ≤ a) (h2 : a < 2048) :
    Calls Tryz.prog 88 #[.int .i64 a] w fun e w' => e = .returned (.int .i64 (hsin a)) ∧ Kp w w' := by
  unfold hsin
  by_cases h : a ≤ 1024
  · rw [if_pos h]; exact ssin_q a w h1 h
  · rw [if_neg h]
    have e0 : a % 4096 = a := by omega
    have b := qsin_bd (2048 - a) (by omega) (by omega)
    have K : Hid _ := ssin_q (2048 - a) w (by omega) (by omega)
    generalize qsin (2048 - a) = v at *
    go_enter Tryz.func88, Tryz.ntmps88
    go_wp2_with (go_at_call 97; refine (smod4_any _ _ (by omega) (by omega)).mono ?_; rintro e w' ⟨rfl, rfl⟩; rw [e0])
    refine Calls.mono K.out ?_
    rintro e w1 ⟨rfl, hk⟩
    have HK : Hid _ := hk
    clear hk
    go_wp2
    go_ret
    exact ⟨rfl, HK.out⟩
set_option maxHeartbeats 1000000 in
theorem ssin_a (a m : Int) (w : World) (hm : a % 4096 = m) (h1 : 0 ≤ a) (h2 : a < 100000) (h3 : 2048 ≤ m) :
    Calls Tryz.prog 88 #[.int .i64 a] w fun e w' => e = .returned (.int .i64 (-hsin (m - 2048))) ∧ Kp w w' := by
  have hm2 : m < 4096 := by omega
  have b := hsin_bd (m - 2048) (by omega) (by omega)
  have K : Hid _ := ssin_h (m - 2048) w (by omega) (by omega)
  generalize hsin (m - 2048) = v at *
  go_enter Tryz.func88, Tryz.ntmps88
  go_wp2_with (go_at_call 97; refine (smod4_any _ _ (by omega) (by omega)).mono ?_; rintro e w' ⟨rfl, rfl⟩; rw [hm])
  refine Calls.mono K.out ?_
  rintro e w1 ⟨rfl, hk⟩
  have HK : Hid _ := hk
  clear hk
  go_wp2
  go_ret
  exact ⟨rfl, HK.out⟩
theorem ssin_any (a : Int) (w : World) (h1 : 0 ≤ a) (h2 : a < 4096) :
    Calls Tryz.prog 88 #[.int .i64 a] w fun e w' => e = .returned (.int .i64 (asin a)) ∧ Kp w w' := by
  unfold asin
  by_cases h : a < 2048
  · rw [if_pos h]; exact ssin_h a w h1 h
  · rw [if_neg h]; exact ssin_a a a w (by omega) h1 (by omega) (by omega)
set_option maxHeartbeats 1000000 in
theorem scos_any (a : Int) (w : World) (h1 : -9223372036854775808 ≤ a) (h2 : a ≤ 9223372036854775807) :
    Calls Tryz.prog 87 #[.int .i64 a] w fun e w' => e = .returned (.int .i64 (asin ((a + 1024) % 4096))) ∧ Kp w w' := by
  have hr : 0 ≤ a % 4096 ∧ a % 4096 < 4096 := by omega
  have K : Hid (∀ W, Calls Tryz.prog 88 #[.int .i64 (a % 4096 + 1024)] W fun e w' => e = .returned (.int .i64 (asin ((a + 1024) % 4096))) ∧ Kp W w') := by
    show ∀ W, Calls Tryz.prog 88 #[.int .i64 (a % 4096 + 1024)] W fun e w' => e = .returned (.int .i64 (asin ((a + 1024) % 4096))) ∧ Kp W w'
    intro W
    have em : (a + 1024) % 4096 = (a % 4096 + 1024) % 4096 := by omega
    rw [em]
    clear em
    generalize a % 4096 = m at *
    by_cases h : m + 1024 < 4096
    · have := ssin_any (m + 1024) W (by omega) (by omega)
      rw [Int.emod_eq_of_lt (by omega) h]; exact this
    · have e : (m + 1024) % 4096 = m - 3072 := by omega
      rw [e]
      have k := ssin_low (m + 1024) ((m - 3072) / 64).toNat ((m - 3072) % 64) W (by omega) (by omega) (by omega) (by omega) (by omega) (by omega)
      unfold asin
      rw [if_pos (by omega)]
      unfold hsin
      rw [if_pos (by omega)]
      unfold qsin
      rw [if_neg (by omega)]
      exact k
  go_enter Tryz.func87, Tryz.ntmps87
  go_wp2_with (go_at_call 97; refine (smod4_any _ _ (by omega) (by omega)).mono ?_; rintro e w' ⟨rfl, rfl⟩)
  refine Calls.mono (K.out _) ?_
  rintro e w1 ⟨rfl, hk⟩
  have HK : Hid _ := hk
  clear hk
  go_wp2
  go_ret
  exact ⟨rfl, HK.out⟩
end Go.Proofs.YtpfhnedklihdoaaGreatDoor
namespace Go.Proofs.YtpfhnedklihdoaaGreatDoor
open Go.ChangeShapes Go.WideShapes Go.ChangeAt Go.RowKit

theorem half_mul (a b : Int) (ha : 0 ≤ a) (ha' : a ≤ 4294967295) (hb : 0 ≤ b) (hb' : b ≤ 4294967295) : 0 ≤ a * b ∧ a * b ≤ 18446744065119617025 :=
  ⟨Int.mul_nonneg ha hb, Int.mul_le_mul ha' hb' hb (by omega)⟩

theorem or_low (m r : Int) (hr : 0 ≤ r) (hr' : r < 4294967296) : bits .or .u64 (IntKind.u64.wrap (m * 4294967296)) r = (m % 4294967296) * 4294967296 + r := by
  have e : IntKind.u64.wrap (m * 4294967296) = (m % 4294967296) * 4294967296 := by rw [IntKind.wrap_u64]; omega
  rw [e]
  obtain ⟨x, hx⟩ := Int.eq_ofNat_of_zero_le (a := m % 4294967296) (by omega)
  obtain ⟨y, rfl⟩ := Int.eq_ofNat_of_zero_le hr
  rw [hx]
  have hx' : x < 4294967296 := by omega
  have h := bits_or_u64_nat (x * 4294967296) y (by omega) (by omega)
  have h2 := Nat.two_pow_add_eq_or_of_lt (i := 32) (b := y) (by omega) x
  have e2 : ((x : Int) * 4294967296) = ((x * 4294967296 : Nat) : Int) := by omega
  have e3 : x * 4294967296 = 2 ^ 32 * x := by omega
  rw [e2, h, e3, ← h2]
  omega

theorem split_prod (a b : Int) : a * b = a / 4294967296 * (b / 4294967296) * 18446744073709551616 + (a / 4294967296 * (b % 4294967296) + a % 4294967296 * (b / 4294967296)) * 4294967296 + a % 4294967296 * (b % 4294967296) := by
  have h1 := Int.mul_ediv_add_emod a 4294967296
  have h2 := Int.mul_ediv_add_emod b 4294967296
  generalize a / 4294967296 = y at *
  generalize a % 4294967296 = x at *
  generalize b / 4294967296 = v at *
  generalize b % 4294967296 = u at *
  rw [← h1, ← h2, Int.add_mul, Int.mul_add, Int.mul_add]
  have e1 : 4294967296 * y * (4294967296 * v) = y * v * 18446744073709551616 := by
    rw [Int.mul_assoc, Int.mul_left_comm y 4294967296 v]; omega
  have e2 : 4294967296 * y * u = y * u * 4294967296 := by rw [Int.mul_assoc]; omega
  have e3 : x * (4294967296 * v) = x * v * 4294967296 := by rw [Int.mul_left_comm]; omega
  rw [e1, e2, e3]; omega

theorem times_eqs (a b : Int) (ha : 0 ≤ a) (ha' : a < 18446744073709551616) (hb : 0 ≤ b) (hb' : b < 18446744073709551616) :
    (a / 4294967296 * (b / 4294967296) + (a / 4294967296 * (b % 4294967296) + a % 4294967296 * (b % 4294967296) / 4294967296) / 4294967296 +
          (a % 4294967296 * (b / 4294967296) + (a / 4294967296 * (b % 4294967296) + a % 4294967296 * (b % 4294967296) / 4294967296) % 4294967296) / 4294967296 = a * b / 18446744073709551616) ∧
    (bits BinOp.or IntKind.u64 (IntKind.u64.wrap ((a % 4294967296 * (b / 4294967296) + (a / 4294967296 * (b % 4294967296) + a % 4294967296 * (b % 4294967296) / 4294967296) % 4294967296) * 4294967296))
          (a % 4294967296 * (b % 4294967296) % 4294967296) = a * b % 18446744073709551616) := by
  obtain ⟨p1, p2⟩ := half_mul (a % 4294967296) (b % 4294967296) (by omega) (by omega) (by omega) (by omega)
  obtain ⟨q1, q2⟩ := half_mul (a / 4294967296) (b % 4294967296) (by omega) (by omega) (by omega) (by omega)
  obtain ⟨r1, r2⟩ := half_mul (a % 4294967296) (b / 4294967296) (by omega) (by omega) (by omega) (by omega)
  obtain ⟨s1, s2⟩ := half_mul (a / 4294967296) (b / 4294967296) (by omega) (by omega) (by omega) (by omega)
  have e := split_prod a b
  generalize a / 4294967296 * (b / 4294967296) = s at *
  generalize a / 4294967296 * (b % 4294967296) = q at *
  generalize a % 4294967296 * (b / 4294967296) = r at *
  generalize a % 4294967296 * (b % 4294967296) = p at *
  rw [e, or_low _ _ (by omega) (by omega)]
  exact ⟨by omega, by omega⟩

set_option maxHeartbeats 1000000 in
theorem times_any (a b : Int) (w : World) (ha : 0 ≤ a) (ha' : a < 18446744073709551616) (hb : 0 ≤ b) (hb' : b < 18446744073709551616) :
    Calls Tryz.prog 47 #[.int .u64 a, .int .u64 b] w fun e w' => e = .returned (.agg #[.int .u64 (a * b / 18446744073709551616), .int .u64 (a * b % 18446744073709551616)]) ∧ ∃ c1 : Array Value, w' = w.alloc (.cells c1 70) := by
  obtain ⟨p1, p2⟩ := half_mul (a % 4294967296) (b % 4294967296) (by omega) (by omega) (by omega) (by omega)
  obtain ⟨q1, q2⟩ := half_mul (a / 4294967296) (b % 4294967296) (by omega) (by omega) (by omega) (by omega)
  obtain ⟨r1, r2⟩ := half_mul (a % 4294967296) (b / 4294967296) (by omega) (by omega) (by omega) (by omega)
  obtain ⟨s1, s2⟩ := half_mul (a / 4294967296) (b / 4294967296) (by omega) (by omega) (by omega) (by omega)
  go_enter Tryz.func47, Tryz.ntmps47
  go_wp2
  simp [bodyPost, results, Tryz.results47, go_sem]
  exact ⟨times_eqs a b ha ha' hb hb', _, rfl⟩

set_option maxHeartbeats 1000000 in
theorem less_any (a b : Int) (w : World) :
    Calls Tryz.prog 90 #[.agg #[.int .u64 (a / 18446744073709551616), .int .u64 (a % 18446744073709551616)], .agg #[.int .u64 (b / 18446744073709551616), .int .u64 (b % 18446744073709551616)]] w fun e w' => e = .returned (.bool (decide (a < b))) ∧ ∃ c1 c2 : Array Value, w' = (w.alloc (.cells c1 70)).alloc (.cells c2 70) := by
  have h1 : a / 18446744073709551616 < b / 18446744073709551616 ∨ (a / 18446744073709551616 = b / 18446744073709551616 ∧ a % 18446744073709551616 < b % 18446744073709551616) ↔ a < b := by omega
  generalize a / 18446744073709551616 = p at *
  generalize a % 18446744073709551616 = q at *
  generalize b / 18446744073709551616 = r at *
  generalize b % 18446744073709551616 = s at *
  by_cases c1 : p < r
  · have e : decide (a < b) = true := by simp only [decide_eq_true_eq]; exact h1.1 (Or.inl c1)
    rw [e]; clear e h1
    go_enter Tryz.func90, Tryz.ntmps90
    go_wp2
    go_ret
    exact ⟨rfl, _, _, rfl⟩
  by_cases c2 : p = r
  · subst c2
    by_cases c3 : q < s
    · have e : decide (a < b) = true := by simp only [decide_eq_true_eq]; exact h1.1 (Or.inr ⟨rfl, c3⟩)
      rw [e]; clear e h1
      go_enter Tryz.func90, Tryz.ntmps90
      go_wp2
      go_ret
      exact ⟨rfl, _, _, rfl⟩
    · have e : decide (a < b) = false := by simp only [decide_eq_false_iff_not]; intro h; have := h1.2 h; omega
      rw [e]; clear e h1
      go_enter Tryz.func90, Tryz.ntmps90
      go_wp2
      go_ret
      exact ⟨rfl, _, _, rfl⟩
  · have e : decide (a < b) = false := by simp only [decide_eq_false_iff_not]; intro h; have := h1.2 h; omega
    rw [e]; clear e h1
    go_enter Tryz.func90, Tryz.ntmps90
    go_wp2
    go_ret
    exact ⟨rfl, _, _, rfl⟩

theorem less_at (a b p q : Int) (hp : a / 18446744073709551616 = p) (hq : a % 18446744073709551616 = q) (w : World) :
    Calls Tryz.prog 90 #[.agg #[.int .u64 p, .int .u64 q], .agg #[.int .u64 (b / 18446744073709551616), .int .u64 (b % 18446744073709551616)]] w fun e w' => e = .returned (.bool (decide (a < b))) ∧ ∃ c1 c2 : Array Value, w' = (w.alloc (.cells c1 70)).alloc (.cells c2 70) := by
  rw [← hp, ← hq]; exact less_any a b w

set_option maxHeartbeats 1000000 in
theorem plus_any (p q b : Int) (w : World) (hp : 0 ≤ p) (hp' : p < 18446744073709551615) (hq : 0 ≤ q) (hq' : q < 18446744073709551616) (hb : 0 ≤ b) (hb' : b < 18446744073709551616) :
    Calls Tryz.prog 73 #[.agg #[.int .u64 p, .int .u64 q], .int .u64 b] w fun e w' => e = .returned (.agg #[.int .u64 ((p * 18446744073709551616 + q + b) / 18446744073709551616), .int .u64 ((p * 18446744073709551616 + q + b) % 18446744073709551616)]) ∧ Kp w w' := by
  by_cases c : q + b < 18446744073709551616
  · have e1 : (p * 18446744073709551616 + q + b) / 18446744073709551616 = p := by omega
    have e2 : (p * 18446744073709551616 + q + b) % 18446744073709551616 = q + b := by omega
    rw [e1, e2]; clear e1 e2
    go_enter Tryz.func73, Tryz.ntmps73
    go_wp2
    simp [bodyPost, results, Tryz.results73, go_sem]
    exact ((Kp.refl w).alloc _ _).alloc _ _
  · have e1 : (p * 18446744073709551616 + q + b) / 18446744073709551616 = p + 1 := by omega
    have e2 : (p * 18446744073709551616 + q + b) % 18446744073709551616 = q + b - 18446744073709551616 := by omega
    rw [e1, e2]; clear e1 e2
    have hw : IntKind.u64.wrap (q + b) = q + b - 18446744073709551616 := by rw [IntKind.wrap_u64]; omega
    go_enter Tryz.func73, Tryz.ntmps73
    go_wp2
    simp [bodyPost, results, Tryz.results73, go_sem]
    exact ((Kp.refl w).alloc _ _).alloc _ _
end Go.Proofs.YtpfhnedklihdoaaGreatDoor
namespace Go.Proofs.YtpfhnedklihdoaaGreatDoor
open Go.ChangeShapes Go.WideShapes Go.ChangeAt Go.RowKit
set_option linter.unusedVariables false

/-- a / b to the nearest, of two as near the greater. -/
def nearQ (a b : Int) : Int := if b < 0 then (2 * -a + -b) / (2 * -b) else (2 * a + b) / (2 * b)
/-- Cut to a range. -/
def cutV (x least greatest : Int) : Int := max least (min x greatest)
/-- What FixDiv answers. -/
def divV (a b : Int) : Int := if -1099511627776 ≤ a ∧ a ≤ 1099511627776 ∧ -1099511627776 ≤ b ∧ b ≤ 1099511627776 ∧ b ≠ 0 then cutV (nearQ (a * 65536) b) (-1099511627776) 1099511627776 else 0
end Go.Proofs.YtpfhnedklihdoaaGreatDoor
