/-
  What the functions of the sine answer, of the program and of the specification, for every int; no condition but those of each line.
-/
import Derived.Test.YtmojppchpeecmaaBase
import Derived.Deep.QuietTactic
import Derived.BigQuiet
namespace Go.Proofs.Ytmojppchpeecmaa
open Go.ChangeShapes Go.WideShapes Go.ChangeAt Go.RowKit
set_option linter.unusedVariables false

/-- The table of sines. -/
def sines : List Int := [0, 6424, 12785, 19024, 25080, 30893, 36410, 41576, 46341, 50660, 54491, 57798, 60547, 62714, 64277, 65220, 65536]
def tb (k : Nat) : Int := sines.getD k 0
theorem tb_bd (k : Nat) : 0 ≤ tb k ∧ tb k ≤ 65536 := by
  by_cases h : k < 17
  · have : ∀ i : Fin 17, 0 ≤ tb i ∧ tb i ≤ 65536 := by decide
    exact this ⟨k, h⟩
  · unfold tb; rw [List.getD_eq_getElem?_getD, List.getElem?_eq_none (by show 17 ≤ k; omega)]; simp
def sineCells : Array Value := (sines.map (Value.int .i64)).toArray
theorem sineCells_get (k : Nat) (h : k < 17) : sineCells[k]? = some (.int .i64 (tb k)) := by
  unfold sineCells tb
  rw [List.getElem?_toArray, List.getElem?_map, List.getD_eq_getElem?_getD, List.getElem?_eq_getElem (show k < sines.length from h)]; rfl

set_option maxHeartbeats 400000 in
theorem modulo_any (a : Int) (w : World) (h1 : -9223372036854775808 ≤ a) (h2 : a ≤ 9223372036854775807) :
    Calls Try.prog 125 #[.int .i64 a, .int .i64 4096] w fun e w' => e = .returned (.int .i64 (a % 4096)) ∧ w' = w := by
  by_cases ha : 0 ≤ a
  · go_enter Try.func125, Try.ntmps125
    go_wp2
    go_ret
    exact ⟨rfl, rfl⟩
  · have e2 := tmod_neg_of a 4096 (by omega)
    by_cases hz : (-a) % 4096 = 0
    · have e3 : a % 4096 = 0 := by omega
      rw [e3]
      rw [hz] at e2
      clear e3 hz
      go_enter Try.func125, Try.ntmps125
      go_wp2
      go_ret
      exact ⟨rfl, rfl⟩
    · have e3 : a % 4096 = -((-a) % 4096) + 4096 := by omega
      rw [e3]
      have hr : 0 < (-a) % 4096 ∧ (-a) % 4096 < 4096 := by omega
      clear e3
      generalize (-a) % 4096 = r at *
      go_enter Try.func125, Try.ntmps125
      go_wp2
      go_ret
      exact ⟨rfl, rfl⟩

set_option maxHeartbeats 400000 in
theorem sdown4_any (a : Int) (w : World) (h1 : -9223372036854775808 ≤ a) (h2 : a ≤ 9223372036854775807) :
    Calls Try.prog 104 #[.int .i64 a, .int .i64 4096] w fun e w' => e = .returned (.int .i64 (a / 4096)) ∧ w' = w := by
  by_cases ha : 0 ≤ a
  · have hda : decide (a < 0) = false := by simp; omega
    by_cases hz : a % 4096 = 0
    · have hq : (a % 4096 != 0) = false := by simp [hz]
      clear hz
      go_enter Try.func104, Try.ntmps104
      go_wp2
      go_ret
      exact ⟨rfl, rfl⟩
    · have hq : (a % 4096 != 0) = true := by simp [hz]
      clear hz
      go_enter Try.func104, Try.ntmps104
      go_wp2
      go_ret
      exact ⟨rfl, rfl⟩
  · have e1 := tdiv_neg_of a 4096 (by omega)
    have e2 := tmod_neg_of a 4096 (by omega)
    have hda : decide (a < 0) = true := by simp; omega
    have hq0 : 0 ≤ (-a) / 4096 ∧ (-a) / 4096 ≤ 4503599627370496 := by omega
    by_cases hz : (-a) % 4096 = 0
    · have e3 : a / 4096 = -((-a) / 4096) := by omega
      rw [e3]
      clear e3
      rw [hz] at e2
      generalize (-a) / 4096 = q at *
      clear hz
      go_enter Try.func104, Try.ntmps104
      go_wp2
      go_ret
      exact ⟨rfl, rfl⟩
    · have e3 : a / 4096 = -((-a) / 4096) - 1 := by omega
      rw [e3]
      clear e3
      have hr : 0 < (-a) % 4096 ∧ (-a) % 4096 < 4096 := by omega
      generalize (-a) / 4096 = q at *
      generalize (-a) % 4096 = r at *
      have hq : (-r != 0) = true := by simp; omega
      clear hz
      go_enter Try.func104, Try.ntmps104
      go_wp2
      go_ret
      exact ⟨rfl, rfl⟩

set_option maxHeartbeats 400000 in
theorem smod_any (a : Int) (w : World) (h1 : -9223372036854775808 ≤ a) (h2 : a ≤ 9223372036854775807) :
    Calls Try.prog 120 #[.int .i64 a, .int .i64 4096] w fun e w' => e = .returned (.int .i64 (a % 4096)) ∧ w' = w := by
  have e : a % 4096 = a - 4096 * (a / 4096) := by omega
  have hb : -9223372036854775808 ≤ 4096 * (a / 4096) ∧ 4096 * (a / 4096) ≤ 9223372036854775807 := by omega
  have hc : 0 ≤ a - 4096 * (a / 4096) ∧ a - 4096 * (a / 4096) < 4096 := by omega
  rw [e]
  clear e
  go_enter Try.func120, Try.ntmps120
  go_wp2_with (go_at_call 104; refine (sdown4_any _ _ (by omega) (by omega)).mono ?_; rintro e w' ⟨rfl, rfl⟩)
  go_ret
  exact ⟨rfl, rfl⟩

set_option maxHeartbeats 800000 in
theorem table_any (w : World) :
    Calls Try.prog 121 #[] w fun e w' => e = .returned (.slice (some ⟨w.heap.size, 0, none⟩) 17 17) ∧ w' = w.alloc (.cells sineCells 3) := by
  go_enter Try.func121, Try.ntmps121
  go_wp2
  go_ret
  exact ⟨rfl, rfl⟩

/-- What is answered in the first quarter. -/
def qsin (a : Int) : Int := if a = 1024 then 65536 else (tb (a / 64).toNat * (64 - a % 64) + tb ((a / 64).toNat + 1) * (a % 64) + 32) / 64

set_option maxHeartbeats 1000000 in
theorem ssin_top (w : World) : Calls Try.prog 98 #[.int .i64 1024] w fun e w' => e = .returned (.int .i64 (qsin 1024)) ∧ Kp w w' := by
  go_enter Try.func98, Try.ntmps98
  go_wp2_with (go_at_call 120; refine (smod_any _ _ (by omega) (by omega)).mono ?_; rintro e w' ⟨rfl, rfl⟩)
  go_ret
  exact ⟨rfl, Kp.refl _⟩

set_option maxHeartbeats 1000000 in
theorem ssin_low (c : Int) (q : Nat) (r : Int) (w : World) (c1 : 0 ≤ c) (c2 : c < 100000) (e0 : c % 4096 = 64 * (q : Int) + r) (hq : q < 16) (h1 : 0 ≤ r) (h2 : r < 64) :
    Calls Try.prog 98 #[.int .i64 c] w fun e w' => e = .returned (.int .i64 ((tb q * (64 - r) + tb (q + 1) * r + 32) / 64)) ∧ Kp w w' := by
  have e1 : (64 * (q : Int) + r) / 64 = q := by omega
  have e2 : (64 * (q : Int) + r) % 64 = r := by omega
  have t0 := sineCells_get q (by omega)
  have t1 := sineCells_get (q + 1) (by omega)
  have b0 := tb_bd q
  have b1 := tb_bd (q + 1)
  generalize tb q = x at *
  generalize tb (q + 1) = y at *
  have m0 : 0 ≤ x * (64 - r) ∧ x * (64 - r) ≤ 65536 * 64 := ⟨Int.mul_nonneg b0.1 (by omega), by
    have := Int.mul_le_mul b0.2 (show (64 - r : Int) ≤ 64 by omega) (by omega) (by omega); omega⟩
  have m1 : 0 ≤ y * r ∧ y * r ≤ 65536 * 64 := ⟨Int.mul_nonneg b1.1 (by omega), by
    have := Int.mul_le_mul b1.2 (show (r : Int) ≤ 64 by omega) (by omega) (by omega); omega⟩
  go_enter Try.func98, Try.ntmps98
  go_wp2_with (first | (go_at_call 120; refine (smod_any _ _ (by omega) (by omega)).mono ?_; rintro e w' ⟨rfl, rfl⟩; rw [e0]) | (go_at_call 121; refine (table_any _).mono ?_; rintro e w' ⟨rfl, rfl⟩))
  rw [e1, e2]
  have c0 : ∀ W : World, (W.alloc (.cells sineCells 3)).cell? ⟨W.heap.size, q, none⟩ = some (.int .i64 x) := by
    intro W; simp [t0]
  have c1 : ∀ W : World, (W.alloc (.cells sineCells 3)).cell? ⟨W.heap.size, q + 1, none⟩ = some (.int .i64 y) := by
    intro W; simp [t1]
  go_quiet (fail)
  go_wp2
  go_ret
  exact ⟨rfl, by repeat (first | exact Kp.refl _ | apply Kp.drew | apply Kp.drewN | apply Kp.alloc)⟩

theorem ssin_q (a : Int) (w : World) (h1 : 0 ≤ a) (h2 : a ≤ 1024) :
    Calls Try.prog 98 #[.int .i64 a] w fun e w' => e = .returned (.int .i64 (qsin a)) ∧ Kp w w' := by
  by_cases h : a = 1024
  · subst h; exact ssin_top w
  · have e : a = 64 * ((a / 64).toNat : Int) + a % 64 := by omega
    have k := ssin_low a (a / 64).toNat (a % 64) w (by omega) (by omega) (by omega) (by omega) (by omega) (by omega)
    unfold qsin
    rw [if_neg h]
    exact k

/-- What is answered in the first half. -/
def hsin (a : Int) : Int := if a ≤ 1024 then qsin a else qsin (2048 - a)
def asin (a : Int) : Int := if a < 2048 then hsin a else - hsin (a - 2048)
theorem qsin_bd (a : Int) (h1 : 0 ≤ a) (h2 : a ≤ 1024) : 0 ≤ qsin a ∧ qsin a ≤ 200000 := by
  unfold qsin
  split
  · omega
  · have b0 := tb_bd (a / 64).toNat
    have b1 := tb_bd ((a / 64).toNat + 1)
    generalize tb (a / 64).toNat = x at *
    generalize tb ((a / 64).toNat + 1) = y at *
    have hr : 0 ≤ a % 64 ∧ a % 64 < 64 := by omega
    generalize a % 64 = r at *
    have m0 : 0 ≤ x * (64 - r) ∧ x * (64 - r) ≤ 65536 * 64 := ⟨Int.mul_nonneg b0.1 (by omega), by
      have := Int.mul_le_mul b0.2 (show (64 - r : Int) ≤ 64 by omega) (by omega) (by omega); omega⟩
    have m1 : 0 ≤ y * r ∧ y * r ≤ 65536 * 64 := ⟨Int.mul_nonneg b1.1 (by omega), by
      have := Int.mul_le_mul b1.2 (show (r : Int) ≤ 64 by omega) (by omega) (by omega); omega⟩
    omega
theorem hsin_bd (a : Int) (h1 : 0 ≤ a) (h2 : a ≤ 2048) : 0 ≤ hsin a ∧ hsin a ≤ 200000 := by
  unfold hsin; split
  · exact qsin_bd _ h1 (by omega)
  · exact qsin_bd _ (by omega) (by omega)

set_option maxHeartbeats 1000000 in
theorem ssin_h (a : Int) (w : World) (h1 : 0 ≤ a) (h2 : a < 2048) :
    Calls Try.prog 98 #[.int .i64 a] w fun e w' => e = .returned (.int .i64 (hsin a)) ∧ Kp w w' := by
  unfold hsin
  by_cases h : a ≤ 1024
  · rw [if_pos h]; exact ssin_q a w h1 h
  · rw [if_neg h]
    have e0 : a % 4096 = a := by omega
    have b := qsin_bd (2048 - a) (by omega) (by omega)
    have K : Hid _ := ssin_q (2048 - a) w (by omega) (by omega)
    generalize qsin (2048 - a) = v at *
    go_enter Try.func98, Try.ntmps98
    go_wp2_with (go_at_call 120; refine (smod_any _ _ (by omega) (by omega)).mono ?_; rintro e w' ⟨rfl, rfl⟩; rw [e0])
    refine Calls.mono K.out ?_
    rintro e w1 ⟨rfl, hk⟩
    have HK : Hid _ := hk
    clear hk
    go_wp2
    go_ret
    exact ⟨rfl, HK.out⟩

set_option maxHeartbeats 1000000 in
theorem ssin_a (a m : Int) (w : World) (hm : a % 4096 = m) (h1 : 0 ≤ a) (h2 : a < 100000) (h3 : 2048 ≤ m) :
    Calls Try.prog 98 #[.int .i64 a] w fun e w' => e = .returned (.int .i64 (-hsin (m - 2048))) ∧ Kp w w' := by
  have hm2 : m < 4096 := by omega
  have b := hsin_bd (m - 2048) (by omega) (by omega)
  have K : Hid _ := ssin_h (m - 2048) w (by omega) (by omega)
  generalize hsin (m - 2048) = v at *
  go_enter Try.func98, Try.ntmps98
  go_wp2_with (go_at_call 120; refine (smod_any _ _ (by omega) (by omega)).mono ?_; rintro e w' ⟨rfl, rfl⟩; rw [hm])
  refine Calls.mono K.out ?_
  rintro e w1 ⟨rfl, hk⟩
  have HK : Hid _ := hk
  clear hk
  go_wp2
  go_ret
  exact ⟨rfl, HK.out⟩

theorem ssin_any (a : Int) (w : World) (h1 : 0 ≤ a) (h2 : a < 4096) :
    Calls Try.prog 98 #[.int .i64 a] w fun e w' => e = .returned (.int .i64 (asin a)) ∧ Kp w w' := by
  unfold asin
  by_cases h : a < 2048
  · rw [if_pos h]; exact ssin_h a w h1 h
  · rw [if_neg h]; exact ssin_a a a w (by omega) h1 (by omega) (by omega)

set_option maxHeartbeats 1000000 in
theorem scos_any (a : Int) (w : World) (h1 : -9223372036854775808 ≤ a) (h2 : a ≤ 9223372036854775807) :
    Calls Try.prog 97 #[.int .i64 a] w fun e w' => e = .returned (.int .i64 (asin ((a + 1024) % 4096))) ∧ Kp w w' := by
  have hr : 0 ≤ a % 4096 ∧ a % 4096 < 4096 := by omega
  have K : Hid (∀ W, Calls Try.prog 98 #[.int .i64 (a % 4096 + 1024)] W fun e w' => e = .returned (.int .i64 (asin ((a + 1024) % 4096))) ∧ Kp W w') := by
    show ∀ W, Calls Try.prog 98 #[.int .i64 (a % 4096 + 1024)] W fun e w' => e = .returned (.int .i64 (asin ((a + 1024) % 4096))) ∧ Kp W w'
    intro W
    have em : (a + 1024) % 4096 = (a % 4096 + 1024) % 4096 := by omega
    rw [em]
    clear em
    generalize a % 4096 = m at *
    by_cases h : m + 1024 < 4096
    · have := ssin_any (m + 1024) W (by omega) (by omega)
      rw [Int.emod_eq_of_lt (by omega) h]; exact this
    · have e : (m + 1024) % 4096 = m - 3072 := by omega
      rw [e]
      have k := ssin_low (m + 1024) ((m - 3072) / 64).toNat ((m - 3072) % 64) W (by omega) (by omega) (by omega) (by omega) (by omega) (by omega)
      unfold asin
      rw [if_pos (by omega)]
      unfold hsin
      rw [if_pos (by omega)]
      unfold qsin
      rw [if_neg (by omega)]
      exact k
  go_enter Try.func97, Try.ntmps97
  go_wp2_with (go_at_call 120; refine (smod_any _ _ (by omega) (by omega)).mono ?_; rintro e w' ⟨rfl, rfl⟩)
  refine Calls.mono (K.out _) ?_
  rintro e w1 ⟨rfl, hk⟩
  have HK : Hid _ := hk
  clear hk
  go_wp2
  go_ret
  exact ⟨rfl, HK.out⟩

set_option maxHeartbeats 1000000 in
theorem isine_at (k : Nat) (w : World) (hk : k < 17) :
    Calls Try.prog 141 #[.int .i64 k] w fun e w' => e = .returned (.int .i64 (tb k)) ∧ Kp w w' := by
  have t0 := sineCells_get k hk
  generalize tb k = x at *
  go_enter Try.func141, Try.ntmps141
  obtain ⟨hh, t1⟩ := Array.getElem?_eq_some_iff.1 t0
  clear t0
  have T1 : Hid _ := t1
  clear t1
  go_wp2
  go_ret
  exact ⟨congrArg Ending.returned T1.out, by repeat (first | exact Kp.refl _ | apply Kp.drew | apply Kp.drewN | apply Kp.alloc)⟩

set_option maxHeartbeats 1000000 in
theorem isin_lowA (q : Nat) (r : Int) (w : World) (hq : q < 16) (h1 : 0 < r) (h2 : r < 64) (d : Int) (e1 : d / 64 = q) (e2 : d % 64 = r) (d1 : 0 ≤ d) (d2 : d ≤ 1024) :
    Calls Try.prog 126 #[.int .i64 d] w fun e w' => e = .returned (.int .i64 ((tb q * (64 - r) + tb (q + 1) * r + 32) / 64)) ∧ Kp w w' := by
  have t0 : Hid (∀ W, Calls Try.prog 141 #[.int .i64 q] W fun e w' => e = .returned (.int .i64 (tb q)) ∧ Kp W w') := fun W => isine_at q W (by omega)
  have t1 : Hid (∀ W, Calls Try.prog 141 #[.int .i64 (q + 1)] W fun e w' => e = .returned (.int .i64 (tb (q + 1))) ∧ Kp W w') := fun W => isine_at (q + 1) W (by omega)
  have b0 := tb_bd q
  have b1 := tb_bd (q + 1)
  generalize tb q = x at *
  generalize tb (q + 1) = y at *
  have m0 : 0 ≤ x * (64 - r) ∧ x * (64 - r) ≤ 65536 * 64 := ⟨Int.mul_nonneg b0.1 (by omega), by
    have := Int.mul_le_mul b0.2 (show (64 - r : Int) ≤ 64 by omega) (by omega) (by omega); omega⟩
  have m1 : 0 ≤ y * r ∧ y * r ≤ 65536 * 64 := ⟨Int.mul_nonneg b1.1 (by omega), by
    have := Int.mul_le_mul b1.2 (show (r : Int) ≤ 64 by omega) (by omega) (by omega); omega⟩
  have hz : (r == 0) = false := by rw [beq_eq_false_iff_ne]; omega
  go_enter Try.func126, Try.ntmps126
  go_wp2_with fail
  refine Calls.mono (t0.out _) ?_
  rintro e w1 ⟨rfl, hk⟩
  have HK : Hid _ := hk
  clear hk
  go_wp2_with fail
  refine Calls.mono (t1.out _) ?_
  rintro e w2 ⟨rfl, hk⟩
  have HK2 : Hid _ := hk
  clear hk
  go_wp2
  go_ret
  exact ⟨rfl, Kp.trans HK HK2⟩

set_option maxHeartbeats 1000000 in
theorem isin_zeroA (q : Nat) (w : World) (hq : q ≤ 16) (d : Int) (e1 : d / 64 = q) (e2 : d % 64 = 0) (d1 : 0 ≤ d) (d2 : d ≤ 1024) :
    Calls Try.prog 126 #[.int .i64 d] w fun e w' => e = .returned (.int .i64 (tb q)) ∧ Kp w w' := by
  have t0 : Hid (∀ W, Calls Try.prog 141 #[.int .i64 q] W fun e w' => e = .returned (.int .i64 (tb q)) ∧ Kp W w') := fun W => isine_at q W (by omega)
  generalize tb q = x at *
  go_enter Try.func126, Try.ntmps126
  go_wp2_with fail
  refine Calls.mono (t0.out _) ?_
  rintro e w1 ⟨rfl, hk⟩
  have HK : Hid _ := hk
  clear hk
  go_wp2
  go_ret
  exact ⟨rfl, HK⟩

set_option maxHeartbeats 1000000 in
theorem isin_lowB (q : Nat) (r : Int) (w : World) (hq : q < 16) (h1 : 0 < r) (h2 : r < 64) (d : Int) (e1 : (2048 - d) / 64 = q) (e2 : (2048 - d) % 64 = r) (d1 : 1024 < d) (d2 : d ≤ 2048) :
    Calls Try.prog 126 #[.int .i64 d] w fun e w' => e = .returned (.int .i64 ((tb q * (64 - r) + tb (q + 1) * r + 32) / 64)) ∧ Kp w w' := by
  have t0 : Hid (∀ W, Calls Try.prog 141 #[.int .i64 q] W fun e w' => e = .returned (.int .i64 (tb q)) ∧ Kp W w') := fun W => isine_at q W (by omega)
  have t1 : Hid (∀ W, Calls Try.prog 141 #[.int .i64 (q + 1)] W fun e w' => e = .returned (.int .i64 (tb (q + 1))) ∧ Kp W w') := fun W => isine_at (q + 1) W (by omega)
  have b0 := tb_bd q
  have b1 := tb_bd (q + 1)
  generalize tb q = x at *
  generalize tb (q + 1) = y at *
  have m0 : 0 ≤ x * (64 - r) ∧ x * (64 - r) ≤ 65536 * 64 := ⟨Int.mul_nonneg b0.1 (by omega), by
    have := Int.mul_le_mul b0.2 (show (64 - r : Int) ≤ 64 by omega) (by omega) (by omega); omega⟩
  have m1 : 0 ≤ y * r ∧ y * r ≤ 65536 * 64 := ⟨Int.mul_nonneg b1.1 (by omega), by
    have := Int.mul_le_mul b1.2 (show (r : Int) ≤ 64 by omega) (by omega) (by omega); omega⟩
  have hz : (r == 0) = false := by rw [beq_eq_false_iff_ne]; omega
  go_enter Try.func126, Try.ntmps126
  go_wp2_with fail
  refine Calls.mono (t0.out _) ?_
  rintro e w1 ⟨rfl, hk⟩
  have HK : Hid _ := hk
  clear hk
  go_wp2_with fail
  refine Calls.mono (t1.out _) ?_
  rintro e w2 ⟨rfl, hk⟩
  have HK2 : Hid _ := hk
  clear hk
  go_wp2
  go_ret
  exact ⟨rfl, Kp.trans HK HK2⟩

set_option maxHeartbeats 1000000 in
theorem isin_zeroB (q : Nat) (w : World) (hq : q ≤ 16) (d : Int) (e1 : (2048 - d) / 64 = q) (e2 : (2048 - d) % 64 = 0) (d1 : 1024 < d) (d2 : d ≤ 2048) :
    Calls Try.prog 126 #[.int .i64 d] w fun e w' => e = .returned (.int .i64 (tb q)) ∧ Kp w w' := by
  have t0 : Hid (∀ W, Calls Try.prog 141 #[.int .i64 q] W fun e w' => e = .returned (.int .i64 (tb q)) ∧ Kp W w') := fun W => isine_at q W (by omega)
  generalize tb q = x at *
  go_enter Try.func126, Try.ntmps126
  go_wp2_with fail
  refine Calls.mono (t0.out _) ?_
  rintro e w1 ⟨rfl, hk⟩
  have HK : Hid _ := hk
  clear hk
  go_wp2
  go_ret
  exact ⟨rfl, HK⟩

theorem isin_h (d : Int) (w : World) (h1 : 0 ≤ d) (h2 : d < 2048) :
    Calls Try.prog 126 #[.int .i64 d] w fun e w' => e = .returned (.int .i64 (hsin d)) ∧ Kp w w' := by
  have key : ∀ c : Int, 0 ≤ c → c ≤ 1024 → c % 64 = 0 → tb (c / 64).toNat = qsin c := by
    intro c c1 c2 c3
    unfold qsin
    split
    · rename_i h; subst h; rfl
    · rw [c3]; omega
  have low : ∀ c : Int, 0 ≤ c → c ≤ 1024 → c % 64 ≠ 0 → (tb (c / 64).toNat * (64 - c % 64) + tb ((c / 64).toNat + 1) * (c % 64) + 32) / 64 = qsin c := by
    intro c c1 c2 c3
    unfold qsin
    rw [if_neg (by omega)]
  unfold hsin
  by_cases h : d ≤ 1024
  · rw [if_pos h]
    by_cases hz : d % 64 = 0
    · rw [← key d h1 h hz]
      exact isin_zeroA (d / 64).toNat w (by omega) d (by omega) hz h1 h
    · rw [← low d h1 h hz]
      exact isin_lowA (d / 64).toNat (d % 64) w (by omega) (by omega) (by omega) d (by omega) rfl h1 h
  · rw [if_neg h]
    by_cases hz : (2048 - d) % 64 = 0
    · rw [← key (2048 - d) (by omega) (by omega) hz]
      exact isin_zeroB ((2048 - d) / 64).toNat w (by omega) d (by omega) hz (by omega) (by omega)
    · rw [← low (2048 - d) (by omega) (by omega) hz]
      exact isin_lowB ((2048 - d) / 64).toNat ((2048 - d) % 64) w (by omega) (by omega) (by omega) d (by omega) rfl (by omega) (by omega)

set_option maxHeartbeats 1000000 in
theorem isin_any (a m : Int) (w : World) (h1 : 0 ≤ a) (h2 : a < 100000) (hm : a % 4096 = m) :
    Calls Try.prog 102 #[.int .i64 a] w fun e w' => e = .returned (.int .i64 (asin m)) ∧ Kp w w' := by
  have m1 : 0 ≤ m := by omega
  have m2 : m < 4096 := by omega
  unfold asin
  by_cases h : m < 2048
  · rw [if_pos h]
    have K : Hid (∀ W, Calls Try.prog 126 #[.int .i64 m] W fun e w' => e = .returned (.int .i64 (hsin m)) ∧ Kp W w') := fun W => isin_h m W (by omega) (by omega)
    generalize hsin m = v at *
    go_enter Try.func102, Try.ntmps102
    go_wp2_with (go_at_call 125; refine (modulo_any _ _ (by omega) (by omega)).mono ?_; rintro e w' ⟨rfl, rfl⟩; rw [hm])
    refine Calls.mono (K.out _) ?_
    rintro e w1 ⟨rfl, hk⟩
    have HK : Hid _ := hk
    clear hk
    go_wp2
    go_ret
    exact ⟨rfl, HK⟩
  · rw [if_neg h]
    have b := hsin_bd (m - 2048) (by omega) (by omega)
    have K : Hid (∀ W, Calls Try.prog 126 #[.int .i64 (m - 2048)] W fun e w' => e = .returned (.int .i64 (hsin (m - 2048))) ∧ Kp W w') := fun W => isin_h (m - 2048) W (by omega) (by omega)
    generalize hsin (m - 2048) = v at *
    go_enter Try.func102, Try.ntmps102
    go_wp2_with (go_at_call 125; refine (modulo_any _ _ (by omega) (by omega)).mono ?_; rintro e w' ⟨rfl, rfl⟩; rw [hm])
    refine Calls.mono (K.out _) ?_
    rintro e w1 ⟨rfl, hk⟩
    have HK : Hid _ := hk
    clear hk
    go_wp2
    go_ret
    exact ⟨rfl, HK⟩

set_option maxHeartbeats 1000000 in
theorem icos_any (a : Int) (w : World) (h1 : -9223372036854775808 ≤ a) (h2 : a ≤ 9223372036854775807) :
    Calls Try.prog 101 #[.int .i64 a] w fun e w' => e = .returned (.int .i64 (asin ((a + 1024) % 4096))) ∧ Kp w w' := by
  have hr : 0 ≤ a % 4096 ∧ a % 4096 < 4096 := by omega
  have K : Hid (∀ W, Calls Try.prog 102 #[.int .i64 (a % 4096 + 1024)] W fun e w' => e = .returned (.int .i64 (asin ((a + 1024) % 4096))) ∧ Kp W w') := fun W => isin_any (a % 4096 + 1024) _ W (by omega) (by omega) (by omega)
  generalize asin ((a + 1024) % 4096) = v at *
  go_enter Try.func101, Try.ntmps101
  go_wp2_with (go_at_call 125; refine (modulo_any _ _ (by omega) (by omega)).mono ?_; rintro e w' ⟨rfl, rfl⟩)
  refine Calls.mono (K.out _) ?_
  rintro e w1 ⟨rfl, hk⟩
  have HK : Hid _ := hk
  clear hk
  go_wp2
  go_ret
  exact ⟨rfl, HK⟩
end Go.Proofs.Ytmojppchpeecmaa
