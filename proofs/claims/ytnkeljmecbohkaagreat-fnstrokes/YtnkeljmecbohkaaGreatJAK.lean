/-
  What the functions of the sine answer, of the program and of
-/
import Derived.Test.YtnkeljmecbohkaaGreatJAJ
import Derived.Test.YtnkeljmecbohkaaGreatJAA
import Derived.Deep.QuietTactic
import Derived.BigQuiet
import Derived.Test.YtnkeljmecbohkaaGreatJAD
import Derived.Test.YtnkeljmecbohkaaGreatJAI
import Derived.Deep.RegionHeld3
import Derived.Test.YtnkeljmecbohkaaGreatJAB
import Derived.Test.YtnkeljmecbohkaaGreatJAC
import Derived.Deep.DeepCutAuto
import Derived.Deep.CutBlock
import Derived.Test.YtnkeljmecbohkaaGreatJAG
namespace Go.Proofs.YtnkeljmecbohkaaGreat
open Go.ChangeShapes Go.WideShapes Go.ChangeAt Go.RowKit
set_option linter.unusedVariables false
set_option maxHeartbeats 400000 in
theorem modulo_any (a : Int) (w : World) (h1 : -9223372036854775808 ≤ a) (h2 : a ≤ 9223372036854775807) :
  Calls Tryz.prog 139 #[.int .i64 a, .int .i64 4096] w fun e w' => e = .returned (.int .i64 (a % 4096)) ∧ w' = w := by
 by_cases ha : 0 ≤ a
 ·go_enter Tryz.func139, Tryz.ntmps139
  go_wp2
  go_ret
  exact ⟨rfl, rfl⟩
 ·have e2 := tmod_neg_of a 4096 (by omega)
  by_cases hz : (-a) % 4096 = 0
  ·have e3 : a % 4096 = 0 := by omega
   rw [e3]
   rw [hz] at e2
   clear e3 hz
   go_enter Tryz.func139, Tryz.ntmps139
   go_wp2
   go_ret
   exact ⟨rfl, rfl⟩
  ·have e3 : a % 4096 = -((-a) % 4096) + 4096 := by omega
   rw [e3]
   have hr : 0 < (-a) % 4096 ∧ (-a) % 4096 < 4096 := by omega
   clear e3
   generalize (-a) % 4096 = r at *
   go_enter Tryz.func139, Tryz.ntmps139
   go_wp2
   go_ret
   exact ⟨rfl, rfl⟩
set_option maxHeartbeats 1000000 in
theorem isine_at (k : Nat) (w : World) (hk : k < 17) :
  Calls Tryz.prog 141 #[.int .i64 k] w fun e w' => e = .returned (.int .i64 (tb k)) ∧ Kp w w' := by
 have t0 := sineCells_get k hk
 generalize tb k = x at *
 go_enter Tryz.func141, Tryz.ntmps141
 obtain ⟨hh, t1⟩ := Array.getElem?_eq_some_iff.1 t0
 clear t0
 have T1 : Hid _ := t1
 clear t1
 go_wp2
 go_ret
 exact ⟨congrArg Ending.returned T1.out, by repeat (first | exact Kp.refl _ | apply Kp.drew | apply Kp.drewN | apply Kp.alloc)⟩
set_option maxHeartbeats 1000000 in
theorem isin_lowA (q : Nat) (r : Int) (w : World) (hq : q < 16) (h1 : 0 < r) (h2 : r < 64) (d : Int) (e1 : d / 64 = q) (e2 : d % 64 = r) (d1 : 0 ≤ d) (d2 : d ≤ 1024) :
  Calls Tryz.prog 140 #[.int .i64 d] w fun e w' => e = .returned (.int .i64 ((tb q * (64 - r) + tb (q + 1) * r + 32) / 64)) ∧ Kp w w' := by
 have t0 : Hid (∀ W, Calls Tryz.prog 141 #[.int .i64 q] W fun e w' => e = .returned (.int .i64 (tb q)) ∧ Kp W w') := fun W => isine_at q W (by omega)
 have t1 : Hid (∀ W, Calls Tryz.prog 141 #[.int .i64 (q + 1)] W fun e w' => e = .returned (.int .i64 (tb (q + 1))) ∧ Kp W w') := fun W => isine_at (q + 1) W (by omega)
 have b0 := tb_bd q
 have b1 := tb_bd (q + 1)
 generalize tb q = x at *
 generalize tb (q + 1) = y at *
 have m0 : 0 ≤ x * (64 - r) ∧ x * (64 - r) ≤ 65536 * 64 := ⟨Int.mul_nonneg b0.1 (by omega), by
  have := Int.mul_le_mul b0.2 (show (64 - r : Int) ≤ 64 by omega) (by omega) (by omega); omega⟩
 have m1 : 0 ≤ y * r ∧ y * r ≤ 65536 * 64 := ⟨Int.mul_nonneg b1.1 (by omega), by
  have := Int.mul_le_mul b1.2 (show (r : Int) ≤ 64 by omega) (by omega) (by omega); omega⟩
 have hz : (r == 0) = false := by rw [beq_eq_false_iff_ne]; omega
 go_enter Tryz.func140, Tryz.ntmps140
 go_wp2_with fail
 refine Calls.mono (t0.out _) ?_
 rintro e w1 ⟨rfl, hk⟩
 have HK : Hid _ := hk
 clear hk
 go_wp2_with fail
 refine Calls.mono (t1.out _) ?_
 rintro e w2 ⟨rfl, hk⟩
 have HK2 : Hid _ := hk
 clear hk
 go_wp2
 go_ret
 exact ⟨rfl, Kp.trans HK HK2⟩
set_option maxHeartbeats 1000000 in
theorem isin_zeroA (q : Nat) (w : World) (hq : q ≤ 16) (d : Int) (e1 : d / 64 = q) (e2 : d % 64 = 0) (d1 : 0 ≤ d) (d2 : d ≤ 1024) :
  Calls Tryz.prog 140 #[.int .i64 d] w fun e w' => e = .returned (.int .i64 (tb q)) ∧ Kp w w' := by
 have t0 : Hid (∀ W, Calls Tryz.prog 141 #[.int .i64 q] W fun e w' => e = .returned (.int .i64 (tb q)) ∧ Kp W w') := fun W => isine_at q W (by omega)
 generalize tb q = x at *
 go_enter Tryz.func140, Tryz.ntmps140
 go_wp2_with fail
 refine Calls.mono (t0.out _) ?_
 rintro e w1 ⟨rfl, hk⟩
 have HK : Hid _ := hk
 clear hk
 go_wp2
 go_ret
 exact ⟨rfl, HK⟩
set_option maxHeartbeats 1000000 in
theorem isin_lowB (q : Nat) (r : Int) (w : World) (hq : q < 16) (h1 : 0 < r) (h2 : r < 64) (d : Int) (e1 : (2048 - d) / 64 = q) (e2 : (2048 - d) % 64 = r) (d1 : 1024 < d) (d2 : d ≤ 2048) :
  Calls Tryz.prog 140 #[.int .i64 d] w fun e w' => e = .returned (.int .i64 ((tb q * (64 - r) + tb (q + 1) * r + 32) / 64)) ∧ Kp w w' := by
 have t0 : Hid (∀ W, Calls Tryz.prog 141 #[.int .i64 q] W fun e w' => e = .returned (.int .i64 (tb q)) ∧ Kp W w') := fun W => isine_at q W (by omega)
 have t1 : Hid (∀ W, Calls Tryz.prog 141 #[.int .i64 (q + 1)] W fun e w' => e = .returned (.int .i64 (tb (q + 1))) ∧ Kp W w') := fun W => isine_at (q + 1) W (by omega)
 have b0 := tb_bd q
 have b1 := tb_bd (q + 1)
 generalize tb q = x at *
 generalize tb (q + 1) = y at *
 have m0 : 0 ≤ x * (64 - r) ∧ x * (64 - r) ≤ 65536 * 64 := ⟨Int.mul_nonneg b0.1 (by omega), by
  have := Int.mul_le_mul b0.2 (show (64 - r : Int) ≤ 64 by omega) (by omega) (by omega); omega⟩
 have m1 : 0 ≤ y * r ∧ y * r ≤ 65536 * 64 := ⟨Int.mul_nonneg b1.1 (by omega), by
  have := Int.mul_le_mul b1.2 (show (r : Int) ≤ 64 by omega) (by omega) (by omega); omega⟩
 have hz : (r == 0) = false := by rw [beq_eq_false_iff_ne]; omega
 go_enter Tryz.func140, Tryz.ntmps140
 go_wp2_with fail
 refine Calls.mono (t0.out _) ?_
 rintro e w1 ⟨rfl, hk⟩
 have HK : Hid _ := hk
 clear hk
 go_wp2_with fail
 refine Calls.mono (t1.out _) ?_
 rintro e w2 ⟨rfl, hk⟩
 have HK2 : Hid _ := hk
 clear hk
 go_wp2
 go_ret
 exact ⟨rfl, Kp.trans HK HK2⟩
set_option maxHeartbeats 1000000 in
theorem isin_zeroB (q : Nat) (w : World) (hq : q ≤ 16) (d : Int) (e1 : (2048 - d) / 64 = q) (e2 : (2048 - d) % 64 = 0) (d1 : 1024 < d) (d2 : d ≤ 2048) :
  Calls Tryz.prog 140 #[.int .i64 d] w fun e w' => e = .returned (.int .i64 (tb q)) ∧ Kp w w' := by
 have t0 : Hid (∀ W, Calls Tryz.prog 141 #[.int .i64 q] W fun e w' => e = .returned (.int .i64 (tb q)) ∧ Kp W w') := fun W => isine_at q W (by omega)
 generalize tb q = x at *
 go_enter Tryz.func140, Tryz.ntmps140
 go_wp2_with fail
 refine Calls.mono (t0.out _) ?_
 rintro e w1 ⟨rfl, hk⟩
 have HK : Hid _ := hk
 clear hk
 go_wp2
 go_ret
 exact ⟨rfl, HK⟩
theorem isin_h (d : Int) (w : World) (h1 : 0 ≤ d) (h2 : d < 2048) :
  Calls Tryz.prog 140 #[.int .i64 d] w fun e w' => e = .returned (.int .i64 (hsin d)) ∧ Kp w w' := by
 have key : ∀ c : Int, 0 ≤ c → c ≤ 1024 → c % 64 = 0 → tb (c / 64).toNat = qsin c := by
  intro c c1 c2 c3
  unfold qsin
  split
  ·rename_i h; subst h; rfl
  ·rw [c3]; omega
 have low : ∀ c : Int, 0 ≤ c → c ≤ 1024 → c % 64 ≠ 0 → (tb (c / 64).toNat * (64 - c % 64) + tb ((c / 64).toNat + 1) * (c % 64) + 32) / 64 = qsin c := by
  intro c c1 c2 c3
  unfold qsin
  rw [if_neg (by omega)]
 unfold hsin
 by_cases h : d ≤ 1024
 ·rw [if_pos h]
  by_cases hz : d % 64 = 0
  ·rw [← key d h1 h hz]
   exact isin_zeroA (d / 64).toNat w (by omega) d (by omega) hz h1 h
  ·rw [← low d h1 h hz]
   exact isin_lowA (d / 64).toNat (d % 64) w (by omega) (by omega) (by omega) d (by omega) rfl h1 h
 ·rw [if_neg h]
  by_cases hz : (2048 - d) % 64 = 0
  ·rw [← key (2048 - d) (by omega) (by omega) hz]
   exact isin_zeroB ((2048 - d) / 64).toNat w (by omega) d (by omega) hz (by omega) (by omega)
  ·rw [← low (2048 - d) (by omega) (by omega) hz]
   exact isin_lowB ((2048 - d) / 64).toNat ((2048 - d) % 64) w (by omega) (by omega) (by omega) d (by omega) rfl (by omega) (by omega)
set_option maxHeartbeats 1000000 in
theorem isin_any (a m : Int) (w : World) (h1 : 0 ≤ a) (h2 : a < 100000) (hm : a % 4096 = m) :
  Calls Tryz.prog 136 #[.int .i64 a] w fun e w' => e = .returned (.int .i64 (asin m)) ∧ Kp w w' := by
 have m1 : 0 ≤ m := by omega
 have m2 : m < 4096 := by omega
 unfold asin
 by_cases h : m < 2048
 ·rw [if_pos h]
  have K : Hid (∀ W, Calls Tryz.prog 140 #[.int .i64 m] W fun e w' => e = .returned (.int .i64 (hsin m)) ∧ Kp W w') := fun W => isin_h m W (by omega) (by omega)
  generalize hsin m = v at *
  go_enter Tryz.func136, Tryz.ntmps136
  go_wp2_with (go_at_call 139; refine (modulo_any _ _ (by omega) (by omega)).mono ?_; rintro e w' ⟨rfl, rfl⟩; rw [hm])
  refine Calls.mono (K.out _) ?_
  rintro e w1 ⟨rfl, hk⟩
  have HK : Hid _ := hk
  clear hk
  go_wp2
  go_ret
  exact ⟨rfl, HK⟩
 ·rw [if_neg h]
  have b := hsin_bd (m - 2048) (by omega) (by omega)
  have K : Hid (∀ W, Calls Tryz.prog 140 #[.int .i64 (m - 2048)] W fun e w' => e = .returned (.int .i64 (hsin (m - 2048))) ∧ Kp W w') := fun W => isin_h (m - 2048) W (by omega) (by omega)
  generalize hsin (m - 2048) = v at *
  go_enter Tryz.func136, Tryz.ntmps136
  go_wp2_with (go_at_call 139; refine (modulo_any _ _ (by omega) (by omega)).mono ?_; rintro e w' ⟨rfl, rfl⟩; rw [hm])
  refine Calls.mono (K.out _) ?_
  rintro e w1 ⟨rfl, hk⟩
  have HK : Hid _ := hk
  clear hk
  go_wp2
  go_ret
  exact ⟨rfl, HK⟩
set_option maxHeartbeats 1000000 in
theorem icos_any (a : Int) (w : World) (h1 : -9223372036854775808 ≤ a) (h2 : a ≤ 9223372036854775807) :
  Calls Tryz.prog 135 #[.int .i64 a] w fun e w' => e = .returned (.int .i64 (asin ((a + 1024) % 4096))) ∧ Kp w w' := by
 have hr : 0 ≤ a % 4096 ∧ a % 4096 < 4096 := by omega
 have K : Hid (∀ W, Calls Tryz.prog 136 #[.int .i64 (a % 4096 + 1024)] W fun e w' => e = .returned (.int .i64 (asin ((a + 1024) % 4096))) ∧ Kp W w') := fun W => isin_any (a % 4096 + 1024) _ W (by omega) (by omega) (by omega)
 generalize asin ((a + 1024) % 4096) = v at *
 go_enter Tryz.func135, Tryz.ntmps135
 go_wp2_with (go_at_call 139; refine (modulo_any _ _ (by omega) (by omega)).mono ?_; rintro e w' ⟨rfl, rfl⟩)
 refine Calls.mono (K.out _) ?_
 rintro e w1 ⟨rfl, hk⟩
 have HK : Hid _ := hk
 clear hk
 go_wp2
 go_ret
 exact ⟨rfl, HK⟩
def cosV (k : Nat) : Int := asin ((128 * (k : Int) + 1024) % 4096)
def sinV (k : Nat) : Int := asin (128 * (k : Int) % 4096)
def roundP (cx cy rx ry : Int) (k : Nat) : Pnt := (cx + fmV rx (cosV k), cy + fmV ry (sinV k))
def roundsP (cx cy rx ry : Int) (f n : Nat) : List Pnt := (List.range n).map fun i => roundP cx cy rx ry (f + i)
theorem roundsP_len (cx cy rx ry : Int) (f n : Nat) : (roundsP cx cy rx ry f n).length = n := by simp [roundsP]
theorem roundsP_succ (cx cy rx ry : Int) (f n : Nat) : roundsP cx cy rx ry f (n + 1) = roundsP cx cy rx ry f n ++ [roundP cx cy rx ry (f + n)] := by simp [roundsP, List.range_succ]
theorem icosK (k : Nat) (hk : k ≤ 32) (w : World) : Calls Tryz.prog 135 #[.int .i64 ((k : Int) * 128)] w fun e w' => e = .returned (.int .i64 (cosV k)) ∧ Kp w w' := by
 have h := icos_any ((k : Int) * 128) w (by omega) (by omega)
 unfold cosV
 rw [Int.mul_comm 128]
 exact h
theorem isinK (k : Nat) (hk : k ≤ 32) (w : World) : Calls Tryz.prog 136 #[.int .i64 ((k : Int) * 128)] w fun e w' => e = .returned (.int .i64 (sinV k)) ∧ Kp w w' := by
 have h := isin_any ((k : Int) * 128) _ w (by omega) (by omega) rfl
 unfold sinV
 rw [Int.mul_comm 128]
 exact h
theorem scosK (k : Nat) (hk : k ≤ 32) (w : World) : Calls Tryz.prog 123 #[.int .i64 (128 * (k : Int))] w fun e w' => e = .returned (.int .i64 (cosV k)) ∧ Kp w w' :=
 scos_any (128 * (k : Int)) w (by omega) (by omega)
theorem ssinK (k : Nat) (hk : k ≤ 32) (w : World) : Calls Tryz.prog 124 #[.int .i64 (128 * (k : Int))] w fun e w' => e = .returned (.int .i64 (sinV k)) ∧ Kp w w' := by
 unfold sinV
 by_cases h : k < 32
 ·rw [Int.emod_eq_of_lt (by omega) (by omega)]
  exact ssin_any (128 * (k : Int)) w (by omega) (by omega)
 ·obtain rfl : k = 32 := by omega
  exact ssin_low 4096 0 0 w (by omega) (by omega) (by decide) (by omega) (by omega) (by omega)
theorem sinV_bd (k : Nat) : -200000 ≤ sinV k ∧ sinV k ≤ 200000 := by
 unfold sinV asin
 have h : 0 ≤ 128 * (k : Int) % 4096 ∧ 128 * (k : Int) % 4096 < 4096 := by omega
 generalize 128 * (k : Int) % 4096 = a at *
 split
 ·have := hsin_bd a (by omega) (by omega); omega
 ·have := hsin_bd (a - 2048) (by omega) (by omega); omega
set_option maxHeartbeats 4000000 in
theorem sround (w : World) (cx cy rx ry : Int) (k : Nat) (hk : k ≤ 32) (c1 : -4398046511104 ≤ cx) (c2 : cx ≤ 4398046511104) (d1 : -4398046511104 ≤ cy) (d2 : cy ≤ 4398046511104) :
  Calls Tryz.prog 111 #[.int .i64 cx, .int .i64 cy, .int .i64 rx, .int .i64 ry, .int .i64 (k : Int)] w fun e w' => e = .returned (ptV (roundP cx cy rx ry k)) ∧ Kp w w' := by
 have HC : Hid _ := fun w => scosK k hk w
 have HS : Hid _ := fun w => ssinK k hk w
 have HM1 : Hid _ := fun w => sfm rx (cosV k) w
 have HM2 : Hid _ := fun w => sfm ry (sinV k) w
 have b1 := fmV_bd rx (cosV k)
 have b2 := fmV_bd ry (sinV k)
 unfold ptV roundP
 generalize cosV k = vc at *
 generalize sinV k = vs at *
 generalize fmV rx vc = m1 at *
 generalize fmV ry vs = m2 at *
 go_enter Tryz.func111, Tryz.ntmps111
 go_wp2_with fail
 refine (HC.out _).mono ?_
 rintro e w1 ⟨rfl, k1⟩
 have K1 : Hid _ := k1
 clear k1
 go_wp2_with fail
 refine (HM1.out _).mono ?_
 rintro e w2 ⟨rfl, k2⟩
 have K2 : Hid _ := Kp.trans K1.out k2
 clear k2
 go_wp2_with fail
 refine (HS.out _).mono ?_
 rintro e w3 ⟨rfl, k3⟩
 have K3 : Hid _ := Kp.trans K2.out k3
 clear k3
 go_wp2_with fail
 refine (HM2.out _).mono ?_
 rintro e w4 ⟨rfl, k4⟩
 have K4 : Hid (Kp (w.alloc (.cells #[.int .i64 0, .int .i64 0] 34)) w4) := Kp.trans K3.out k4
 clear k4
 have hs : w.heap.size < (w.alloc (.cells #[.int .i64 0, .int .i64 0] 34)).heap.size := by simp
 have z0 : w4.cell? ⟨w.heap.size, 0, none⟩ = some (.int .i64 0) := ((Kp.cells K4.out).1 _ _ hs).trans (by simp)
 have z1 : w4.cell? ⟨w.heap.size, 1, none⟩ = some (.int .i64 0) := ((Kp.cells K4.out).1 _ _ hs).trans (by simp)
 have zf : ∀ o, w4.frozen? ⟨w.heap.size, o, none⟩ = false := fun o => ((Kp.cells K4.out).2 _ _).trans (World.frozen?_alloc_at _ _ _ _ rfl)
 clear hs
 go_wp2
 have y1 : ((w4.setCell ⟨w.heap.size, 0, none⟩ (.int .i64 (cx + m1))).setCell ⟨w.heap.size, 1, none⟩ (.int .i64 (cy + m2))).cell? ⟨w.heap.size, 1, none⟩ = some (.int .i64 (cy + m2)) := World.cell?_setCell_same _ ⟨w.heap.size, 1, none⟩ _ ((World.cell?_setCell_other _ _ _ _ (fun h => by injection h; omega)).trans z1)
 have y0 : ((w4.setCell ⟨w.heap.size, 0, none⟩ (.int .i64 (cx + m1))).setCell ⟨w.heap.size, 1, none⟩ (.int .i64 (cy + m2))).cell? ⟨w.heap.size, 0, none⟩ = some (.int .i64 (cx + m1)) := by
  rw [World.cell?_setCell_other _ _ _ _ (fun h => by injection h; omega)]
  exact World.cell?_setCell_same w4 ⟨w.heap.size, 0, none⟩ _ z0
 refine bodyPost_ret (v := .agg #[.int .i64 (cx + m1), .int .i64 (cy + m2)]) (by simp [results, Tryz.results111, go_sem, y0, y1]) rfl ⟨rfl, ?_⟩
 exact ((Kp.trans ((Kp.refl w).alloc _ _) K4.out).setCell (Nat.le_refl _) _).setCell (Nat.le_refl _) _
abbrev Oval (w : World) (b : Nat) (cx cy rx ry : Int) : Prop :=
 w.cell? ⟨b, 0, none⟩ = some (.int .i64 cx) ∧ w.cell? ⟨b, 1, none⟩ = some (.int .i64 cy) ∧ w.cell? ⟨b, 2, none⟩ = some (.int .i64 rx) ∧ w.cell? ⟨b, 3, none⟩ = some (.int .i64 ry)
theorem Oval.below {w w' : World} {b bx : Nat} {cx cy rx ry : Int} (h : Oval w b cx cy rx ry) (k : Below bx w w') (hb : b < bx) : Oval w' b cx cy rx ry :=
 ⟨(k.cell (p := ⟨b, 0, none⟩) hb).trans h.1, (k.cell (p := ⟨b, 1, none⟩) hb).trans h.2.1, (k.cell (p := ⟨b, 2, none⟩) hb).trans h.2.2.1, (k.cell (p := ⟨b, 3, none⟩) hb).trans h.2.2.2⟩
theorem roundsP_at (cx cy rx ry : Int) (f k : Nat) (h : f ≤ k) : roundsP cx cy rx ry f (k + 1 - f) = roundsP cx cy rx ry f (k - f) ++ [roundP cx cy rx ry k] := by
 have e : k + 1 - f = (k - f) + 1 := by omega
 rw [e, roundsP_succ, show f + (k - f) = k by omega]
set_option maxRecDepth 100000 in
set_option maxHeartbeats 8000000 in
theorem istretch (w : World) (cx cy rx ry : Int) (f t : Nat) (hf : f ≤ t) (ht : t ≤ 32) (c1 : -4398046511104 ≤ cx) (c2 : cx ≤ 4398046511104) (d1 : -4398046511104 ≤ cy) (d2 : cy ≤ 4398046511104) :
  Calls Tryz.prog 127 #[.agg #[.int .i64 cx, .int .i64 cy, .int .i64 rx, .int .i64 ry], .int .i64 (f : Int), .int .i64 (t : Int)] w fun e w' => ∃ v, e = .returned v ∧ OwnP w' w.heap.size v (roundsP cx cy rx ry f (t + 1 - f)) ∧ Nw w w' := by
 obtain ⟨R, hR⟩ : ∃ R : Nat → List Pnt, (fun k => roundsP cx cy rx ry f (k - f)) = R := ⟨_, rfl⟩
 have HR : Hid (∀ k, roundsP cx cy rx ry f (k - f) = R k) := fun k => by rw [← hR]
 rw [HR.out (t + 1)]
 clear hR
 go_enter Tryz.func127, Tryz.ntmps127
 go_wp2
 go_loopw [8] (fun i wr => ∃ k : Nat, f ≤ k ∧ k ≤ t + 1 ∧ i = .int .i64 (k : Int) ∧ LV (w.heap.size + 1) wr (R k) ∧ Nw w wr ∧ Oval wr w.heap.size cx cy rx ry) (fun i _ => t + 1 - (intOf i).toNat)
 case atStart =>
  have e0 : R f = [] := by rw [← HR.out, Nat.sub_self]; rfl
  have hl := LV.new (w.alloc (.cells #[.int .i64 cx, .int .i64 cy, .int .i64 rx, .int .i64 ry] 153)) 64
  rw [World.size_alloc] at hl
  refine ⟨f, Nat.le_refl _, by omega, rfl, by rw [e0]; exact hl, ((Below.refl _ _).alloc (Nat.le_refl _) _).alloc (by simp) _, ?_⟩
  refine ⟨?_, ?_, ?_, ?_⟩ <;> simp [World.cell?_alloc_past]
 case round =>
  obtain ⟨k, hk0, hk1, rfl, hl, hw, ho⟩ := hrel
  by_cases hlt : k ≤ t
  ·have HC : Hid _ := fun w => icosK k (by omega) w
   have HS : Hid _ := fun w => isinK k (by omega) w
   have HM1 : Hid _ := fun w => ifm rx (cosV k) w
   have HM2 : Hid _ := fun w => ifm ry (sinV k) w
   have b1 := fmV_bd rx (cosV k)
   have b2 := fmV_bd ry (sinV k)
   have HE : Hid (R (k + 1) = R k ++ [(cx + fmV rx (cosV k), cy + fmV ry (sinV k))]) := by show _ = _; rw [← HR.out, ← HR.out, roundsP_at _ _ _ _ _ _ hk0]; rfl
   have HLn : Hid ((R k).length + 1 ≤ 1000000) := by show _ ≤ _; rw [← HR.out, roundsP_len]; omega
   generalize cosV k = vc at *
   generalize sinV k = vs at *
   generalize fmV rx vc = m1 at *
   generalize fmV ry vs = m2 at *
   have x1 : IntKind.i64.wrap (cx + m1) = cx + m1 := IntWalk.i64_in _ ⟨by omega, by omega⟩
   have x2 : IntKind.i64.wrap (cy + m2) = cy + m2 := IntWalk.i64_in _ ⟨by omega, by omega⟩
   have HL : Hid (LV (w.heap.size + 1) wr.drew (R k)) := LV.nw hl ((Below.refl _ _).drew)
   have HW : Hid (Nw w wr.drew) := Nw.trans hw ((Below.refl _ _).drew)
   have HO : Hid (Oval wr.drew w.heap.size cx cy rx ry) := ho
   have hsz : Hid (w.heap.size < wr.drew.heap.size) := World.block_lt_of_cell? wr ⟨w.heap.size, 0, none⟩ ho.1
   clear hl hw ho
   go_wp2
   go_region_held3 (fun w' => w'.cell? ⟨w.heap.size, 0, none⟩ = some (.int .i64 cx) ∧ w'.cell? ⟨w.heap.size, 1, none⟩ = some (.int .i64 cy) ∧ w'.cell? ⟨w.heap.size, 2, none⟩ = some (.int .i64 rx) ∧ w'.cell? ⟨w.heap.size, 3, none⟩ = some (.int .i64 ry))
    (first | with_reducible exact HO.out | with_reducible exact Oval.below HO.out ((Below.refl _ _).alloc (Nat.le_refl _) _) hsz.out)
    (first
     | (go_at_call 135; refine Calls.mono (HC.out _) ?_; rintro e w' ⟨rfl, hk⟩; replace HL := (show Hid (LV (w.heap.size + 1) w' (R k)) from LV.nw HL.out hk.nw); replace HW := (show Hid (Nw w w') from Nw.trans HW.out hk.nw); replace HO := (show Hid (Oval w' w.heap.size cx cy rx ry) from Oval.below HO.out hk.nw hsz.out); replace hsz := (show Hid (w.heap.size < w'.heap.size) from Nat.lt_of_lt_of_le hsz.out hk.size); clear hk)
     | (go_at_call 136; refine Calls.mono (HS.out _) ?_; rintro e w' ⟨rfl, hk⟩; replace HL := (show Hid (LV (w.heap.size + 1) w' (R k)) from LV.nw HL.out hk.nw); replace HW := (show Hid (Nw w w') from Nw.trans HW.out hk.nw); replace HO := (show Hid (Oval w' w.heap.size cx cy rx ry) from Oval.below HO.out hk.nw hsz.out); replace hsz := (show Hid (w.heap.size < w'.heap.size) from Nat.lt_of_lt_of_le hsz.out hk.size); clear hk)
     | (go_at_call_of 104 (Value.int .i64 vc); refine Calls.mono (HM1.out _) ?_; rintro e w' ⟨rfl, rfl⟩)
     | (go_at_call_of 104 (Value.int .i64 vs); refine Calls.mono (HM2.out _) ?_; rintro e w' ⟨rfl, rfl⟩)
     | (go_at_call 61; refine Calls.mono (iadd_one _ (w.heap.size + 1) (R k) (cx + m1) (cy + m2) _ HL.out HLn.out) ?_; rintro e w' ⟨rfl, hl2, hb2⟩; replace HL := (show Hid (LV (w.heap.size + 1) w' (R k ++ [(cx + m1, cy + m2)])) from hl2); replace HW := (show Hid (Nw w w') from Below.trans HW.out (Below.mono hb2 (Nat.le_succ _))); replace HO := (show Hid (Oval w' w.heap.size cx cy rx ry) from Oval.below HO.out hb2 (Nat.lt_succ_self _)); clear hl2 hb2))
   all_goals
    go_wp2
    go_roundw
    case rel => exact ⟨k + 1, by omega, by omega, by go_num, by rw [HE.out]; exact HL.out, HW.out, HO.out⟩
    case measure => simp [intOf]; omega
  ·have HN : Hid (Nw w wr) := hw
   have e : k = t + 1 := by omega
   subst e
   obtain ⟨a, c, hv, hown⟩ := LV.val hl
   have HO : Hid (OwnP wr w.heap.size (.slice a (R (t + 1)).length c) (R (t + 1))) := OwnQ.base hown (by omega)
   clear hl hw ho hown
   go_wp2
   go_ret
   exact ⟨_, rfl, HO.out, HN.out⟩
theorem igoodP (w : World) (x y : Int) : Calls Tryz.prog 138 #[.agg #[.int .i64 x, .int .i64 y]] w fun e w' => e = .returned (.bool (ptB (x, y))) ∧ Kp w w' := by
 have hv : [x, y].all fixB = ptB (x, y) := by simp [ptB]
 have HC : Hid (∀ (w : World) (b : Nat), w.cell? ⟨b, 0, none⟩ = some (.int .i64 x) → w.cell? ⟨b, 1, none⟩ = some (.int .i64 y) → Calls Tryz.prog 125 #[.slice (some ⟨b, 0, none⟩) 2 2] w fun e w' => e = .returned (.bool ([x, y].all fixB)) ∧ w' = w) := fun w b h0 h1 => iall_any w b 0 2 [x, y] (by simp) (fun i hi => by
  have : i = 0 ∨ i = 1 := by simp at hi; omega
  rcases this with rfl | rfl
  ·exact h0
  ·exact h1)
 rw [hv] at HC
 generalize ptB (x, y) = V at *
 clear hv
 go_enter Tryz.func138, Tryz.ntmps138
 go_wp2_with fail
 refine Calls.mono (HC.out _ _ (by simp) (by simp)) ?_
 rintro e w1 ⟨rfl, rfl⟩
 go_wp2
 go_ret
 exact ⟨rfl, ((Kp.refl w).alloc _ _).alloc _ _⟩
set_option maxHeartbeats 1000000 in
theorem igoodPs (w : World) (a : Option Addr) (c : Nat) (l : List Pnt) (hl : l.length ≤ 1048576) (hr : Pts w a l) :
  Calls Tryz.prog 134 #[.slice a l.length c] w fun e w' => e = .returned (.bool (ptsB l)) ∧ Kp w w' := by
 obtain ⟨V, hV⟩ : ∃ V, ptsB l = V := ⟨_, rfl⟩
 rw [hV]
 have HV : Hid _ := hV
 have HR : Hid (Pts w a l) := hr
 clear hr hV
 go_enter Tryz.func134, Tryz.ntmps134
 go_wp2
 go_loopw [7] (fun i wr => ∃ k : Nat, k ≤ l.length ∧ i = .int .i64 k ∧ (∀ j, j < k → ptB (ptAt l j) = true) ∧ Kp w wr) (fun i _ => l.length - (intOf i).toNat)
 case atStart => exact ⟨0, Nat.zero_le _, rfl, fun j hj => absurd hj (by omega), Kp.refl _⟩
 case round =>
  obtain ⟨k, hk, rfl, ha, hw⟩ := hrel
  have HA : Hid _ := ha
  have HW : Hid (Kp w wr) := hw
  clear ha hw
  by_cases hlt : k < l.length
  ·rcases (HR.out.nw HW.out.nw) with h | ⟨b, off, rfl, hb, hc⟩
   ·rw [h] at hlt; simp at hlt
   obtain ⟨q0, q1⟩ := hc k hlt
   clear hc
   obtain ⟨p, hp⟩ : ∃ p, ptAt l k = p := ⟨_, rfl⟩
   have HP : Hid (ptAt l k = p) := hp
   rw [hp] at q0 q1
   clear hp
   obtain ⟨x, y⟩ := p
   have hcall : Hid _ := fun w => igoodP w x y
   cases hf : ptB (x, y) with
   | true =>
    rw [hf] at hcall
    have HF : Hid (ptB (x, y) = true) := hf
    clear hf
    go_wp2_with fail
    refine (hcall.out _).mono ?_
    rintro e w1 ⟨rfl, k1⟩
    have K1 : Hid (Kp w w1) := Kp.trans (HW.out.alloc _ _) k1
    clear k1
    go_wp2
    go_roundw
    case rel =>
     refine ⟨k + 1, by omega, by go_num, fun j hj => ?_, K1.out⟩
     rcases Nat.lt_succ_iff_lt_or_eq.1 hj with h | h
     ·exact HA.out j h
     ·rw [h, HP.out]; exact HF.out
    case measure => simp [intOf]; omega
   | false =>
    rw [hf] at hcall
    have HF : Hid (V = false) := HV.out.symm.trans (all_false _ (0, 0) l k hlt (show ptB (ptAt l k) = false by rw [HP.out]; exact hf))
    clear hf
    go_wp2_with fail
    refine (hcall.out _).mono ?_
    rintro e w1 ⟨rfl, k1⟩
    have K1 : Hid (Kp w w1) := Kp.trans (HW.out.alloc _ _) k1
    clear k1
    go_wp2
    go_ret
    exact ⟨ret_bool HF.out.symm, K1.out⟩
  ·have HX : Hid (V = true) := HV.out.symm.trans (all_true _ (0, 0) _ (fun j hj => HA.out j (by omega)))
   clear HA
   go_wp2
   go_ret
   exact ⟨ret_bool HX.out.symm, HW.out⟩
set_option maxHeartbeats 1000000 in
theorem iclosed_yes (w : World) (a : Option Addr) (c : Nat) (l : List Pnt) (hl : l.length ≤ 1048576) (hr : Pts w a l) (hg : ptsB l = true) :
  Calls Tryz.prog 126 #[.slice a l.length c] w fun e w' => e = .returned (.tuple #[.agg #[.slice a l.length c, .bool true], .bool true]) ∧ Kp w w' := by
 have HG : Hid _ := fun (w : World) (h : Pts w a l) => igoodPs w a c l hl h
 rw [hg] at HG
 have H1 : Hid _ := hr.nw ((Below.refl w.heap.size w).alloc (Nat.le_refl _) (.cells #[.slice none 0 0, .bool false] 25))
 clear hr hg
 go_enter Tryz.func126, Tryz.ntmps126
 go_wp2_with fail
 refine Calls.mono (HG.out _ H1.out) ?_
 rintro e w1 ⟨rfl, k1⟩
 have K1 : Hid _ := k1
 clear k1
 obtain ⟨z0, z1, zf, hz⟩ := box2 w w1 K1.out
 go_wp2
 obtain ⟨y0, y1⟩ := set2 w1 w.heap.size (.slice a l.length c) (.bool true) z0 z1
 refine bodyPost_ret (v := .tuple #[.agg #[.slice a l.length c, .bool true], .bool true]) (by simp [results, Tryz.results126, go_sem, y0, y1]) rfl ⟨rfl, ?_⟩
 exact ((kp_box K1.out).setCell (Nat.le_refl _) _).setCell (Nat.le_refl _) _
set_option maxHeartbeats 1000000 in
theorem iclosed_no (w : World) (a : Option Addr) (c : Nat) (l : List Pnt) (hl : l.length ≤ 1048576) (hr : Pts w a l) (hg : ptsB l = false) :
  Calls Tryz.prog 126 #[.slice a l.length c] w fun e w' => e = .returned (.tuple #[.agg #[.slice none 0 0, .bool false], .bool false]) ∧ Kp w w' := by
 have HG : Hid _ := fun (w : World) (h : Pts w a l) => igoodPs w a c l hl h
 rw [hg] at HG
 have H1 : Hid _ := hr.nw ((Below.refl w.heap.size w).alloc (Nat.le_refl _) (.cells #[.slice none 0 0, .bool false] 25))
 clear hr hg
 go_enter Tryz.func126, Tryz.ntmps126
 go_wp2_with fail
 refine Calls.mono (HG.out _ H1.out) ?_
 rintro e w1 ⟨rfl, k1⟩
 have K1 : Hid _ := k1
 clear k1
 obtain ⟨z0, z1, zf, hz⟩ := box2 w w1 K1.out
 go_wp2
 obtain ⟨y0, y1⟩ := set2 w1 w.heap.size (.slice none 0 0) (.bool false) z0 z1
 refine bodyPost_ret (v := .tuple #[.agg #[.slice none 0 0, .bool false], .bool false]) (by simp [results, Tryz.results126, go_sem, y0, y1]) rfl ⟨rfl, ?_⟩
 exact ((kp_box K1.out).setCell (Nat.le_refl _) _).setCell (Nat.le_refl _) _
theorem iclosed (w : World) (B : Nat) (v : Value) (l : List Pnt) (hl : l.length ≤ 1048576) (hr : OwnP w B v l) :
  Calls Tryz.prog 126 #[v] w fun e w' => ∃ v', e = .returned (.tuple #[.agg #[v', .bool (ptsB l)], .bool (ptsB l)]) ∧ OwnP w' B v' (if ptsB l = true then l else []) ∧ Kp w w' := by
 obtain ⟨a, c, rfl, hp⟩ := hr.pts
 cases hg : ptsB l with
 | true =>
  refine (iclosed_yes w a c l hl hp hg).mono ?_
  rintro e w' ⟨rfl, k⟩
  exact ⟨_, rfl, hr.nw k.nw, k⟩
 | false =>
  refine (iclosed_no w a c l hl hp hg).mono ?_
  rintro e w' ⟨rfl, k⟩
  exact ⟨_, rfl, OwnP.nil _ _, k⟩
def okEl (cx cy rx ry : Int) : Bool := [cx, cy, rx, ry].all fixB && (decide (0 ≤ rx) && decide (0 ≤ ry))
def elV (cx cy rx ry : Int) : List Pnt × Bool := if okEl cx cy rx ry = true ∧ ptsB (roundsP cx cy rx ry 0 32) = true then (roundsP cx cy rx ry 0 32, true) else ([], false)
def LnSays (f : FuncId) (args : Array Value) (r : List Pnt × Bool) : Prop := ∀ w, Calls Tryz.prog f args w fun e w' => ∃ v, e = .returned (.tuple #[.agg #[v, .bool r.2], .bool r.2]) ∧ OwnP w' w.heap.size v r.1 ∧ Nw w w'
abbrev elA (cx cy rx ry : Int) : Array Value := #[.int .i64 cx, .int .i64 cy, .int .i64 rx, .int .i64 ry]
theorem iall4 (cx cy rx ry : Int) (w : World) (b : Nat) (h0 : w.cell? ⟨b, 0, none⟩ = some (.int .i64 cx)) (h1 : w.cell? ⟨b, 1, none⟩ = some (.int .i64 cy)) (h2 : w.cell? ⟨b, 2, none⟩ = some (.int .i64 rx)) (h3 : w.cell? ⟨b, 3, none⟩ = some (.int .i64 ry)) :
  Calls Tryz.prog 125 #[.slice (some ⟨b, 0, none⟩) 4 4] w fun e w' => e = .returned (.bool ([cx, cy, rx, ry].all fixB)) ∧ w' = w :=
 iall_any w b 0 4 [cx, cy, rx, ry] (by simp) (fun i hi => by
  have : i = 0 ∨ i = 1 ∨ i = 2 ∨ i = 3 := by simp at hi; omega
  rcases this with rfl | rfl | rfl | rfl
  ·exact h0
  ·exact h1
  ·exact h2
  ·exact h3)
set_option maxHeartbeats 2000000 in
theorem iellipse (cx cy rx ry : Int) : LnSays 118 (elA cx cy rx ry) (elV cx cy rx ry) := by
 intro w
 have HA : Hid _ := fun w b h0 h1 h2 h3 => iall4 cx cy rx ry w b h0 h1 h2 h3
 unfold elA
 cases hf : [cx, cy, rx, ry].all fixB with
 | false =>
  rw [hf] at HA
  have e : elV cx cy rx ry = ([], false) := by unfold elV okEl; rw [if_neg (fun h => by rw [hf] at h; cases h.1)]
  rw [e]
  clear e hf
  go_enter Tryz.func118, Tryz.ntmps118
  go_wp2_with fail
  refine Calls.mono (HA.out _ _ (by simp) (by simp) (by simp) (by simp)) ?_
  rintro e w1 ⟨rfl, rfl⟩
  go_wp2
  refine bodyPost_ret (v := .tuple #[.agg #[.slice none 0 0, .bool false], .bool false]) (by simp [results, Tryz.results118, go_sem]) rfl ⟨_, rfl, OwnP.nil _ _, ?_⟩
  exact ((Kp.refl w).alloc _ _ |>.alloc _ _).nw
 | true =>
  rw [hf] at HA
  have hfx : fixB cx = true ∧ fixB cy = true ∧ fixB rx = true ∧ fixB ry = true := by simpa using hf
  have bcx := fixB_iff.1 hfx.1
  have bcy := fixB_iff.1 hfx.2.1
  by_cases hm : 0 ≤ rx ∧ 0 ≤ ry
  ·have hmin1 : decide (rx < 0) = false := decide_eq_false (by omega)
   have hmin2 : decide (ry < 0) = false := decide_eq_false (by omega)
   have e : elV cx cy rx ry = (if ptsB (roundsP cx cy rx ry 0 32) = true then roundsP cx cy rx ry 0 32 else [], ptsB (roundsP cx cy rx ry 0 32)) := by
    unfold elV okEl
    rw [hf, decide_eq_true hm.1, decide_eq_true hm.2]
    cases ptsB (roundsP cx cy rx ry 0 32) <;> rfl
   rw [e]
   have HS : Hid _ := fun w => istretch w cx cy rx ry 0 31 (by omega) (by omega) (by omega) (by omega) (by omega) (by omega)
   have HL : Hid ((roundsP cx cy rx ry 0 32).length ≤ 1048576) := by show _ ≤ _; rw [roundsP_len]; omega
   rw [show 31 + 1 - 0 = 32 from rfl] at HS
   clear e hf
   generalize roundsP cx cy rx ry 0 32 = l at *
   have HC : Hid _ := fun (w : World) (B : Nat) (v : Value) (h : OwnP w B v l) => iclosed w B v l HL.out h
   obtain ⟨rl, hrl⟩ : ∃ rl, (if ptsB l = true then l else []) = rl := ⟨_, rfl⟩
   rw [hrl] at HC ⊢
   generalize ptsB l = ok at *
   clear hrl
   by_cases hmn : ry < rx
   all_goals
    go_enter Tryz.func118, Tryz.ntmps118
    go_wp2_with fail
    refine Calls.mono (HA.out _ _ (by simp) (by simp) (by simp) (by simp)) ?_
    rintro e w1 ⟨rfl, rfl⟩
    go_wp2_with fail
    refine Calls.mono (HS.out _) ?_
    rintro e w2 ⟨v, rfl, o2, n2⟩
    have O2 : Hid _ := o2
    have N2 : Hid _ := n2
    clear o2 n2
    go_wp2_with fail
    refine Calls.mono (HC.out _ _ v O2.out) ?_
    rintro e w3 ⟨v', rfl, o3, k3⟩
    have N3 : Hid (Nw (w.alloc (.cells #[.slice none 0 0, .bool false] 25)) w3) := Nw.trans (((Kp.refl _).alloc _ _ |>.alloc _ _).nw) (Nw.trans N2.out k3.nw)
    have O3 : Hid (OwnP w3 (w.heap.size + 1) v' rl) := OwnQ.base o3 (by simp)
    obtain ⟨va, vc, hv, _⟩ := o3.pts
    generalize rl.length = vn at hv
    subst hv
    clear o3 k3 N2 O2
    obtain ⟨z0, z1, zf, hz⟩ := nbox2 w w3 N3.out
    go_wp2
    obtain ⟨y0, y1⟩ := set2 w3 w.heap.size (.slice va vn vc) (.bool ok) z0 z1
    have hne : (Value.slice va vn vc).ownBlock ≠ some w.heap.size := fun e => by have := (OwnQ.lt O3.out _ e).1; omega
    refine bodyPost_ret (v := .tuple #[.agg #[.slice va vn vc, .bool ok], .bool ok]) (by simp [results, Tryz.results118, go_sem, y0, y1]) rfl ⟨_, rfl, ?_, ?_⟩
    ·exact OwnQ.base (OwnQ.far (OwnQ.far O3.out _ _ _ hne) _ _ _ hne) (by omega)
    ·exact (Below.setCell (nw_box N3.out) (Nat.le_refl _) _).setCell (Nat.le_refl _) _
  ·have hmin : (if ry < rx then ry else rx) < 0 := by split <;> omega
   have e : elV cx cy rx ry = ([], false) := by
    unfold elV okEl
    rw [if_neg (fun h => ?_)]
    simp at h; omega
   rw [e]
   clear e hf
   by_cases hmn : ry < rx
   all_goals
    go_enter Tryz.func118, Tryz.ntmps118
    go_wp2_with fail
    refine Calls.mono (HA.out _ _ (by simp) (by simp) (by simp) (by simp)) ?_
    rintro e w1 ⟨rfl, rfl⟩
    go_wp2
    refine bodyPost_ret (v := .tuple #[.agg #[.slice none 0 0, .bool false], .bool false]) (by simp [results, Tryz.results118, go_sem]) rfl ⟨_, rfl, OwnP.nil _ _, ?_⟩
    exact ((Kp.refl w).alloc _ _ |>.alloc _ _).nw
theorem ring_end {w W w3 w4 : World} {br : Nat} {cs : Array Value} {T : TypeId} {x v : Value} {l : List Pnt} (hw : Kp w W) (hb : w.heap.size ≤ br) (z0 : W.cell? ⟨br, 0, none⟩ = some x) (z1 : ∃ u, W.cell? ⟨br, 1, none⟩ = some (.bool u)) (k3 : Kp W.drew w3) (k4 : Kp (w3.alloc (.cells cs T)) w4)
  (ho : ∀ B, B ≤ w3.heap.size → OwnP (w3.alloc (.cells cs T)) B v l) : ((w4.setCell ⟨br, 0, none⟩ v).setCell ⟨br, 1, none⟩ (.bool true)).cell? ⟨br, 0, none⟩ = some v ∧ ((w4.setCell ⟨br, 0, none⟩ v).setCell ⟨br, 1, none⟩ (.bool true)).cell? ⟨br, 1, none⟩ = some (.bool true) ∧ OwnP ((w4.setCell ⟨br, 0, none⟩ v).setCell ⟨br, 1, none⟩ (.bool true)) w.heap.size v l ∧ Kp w ((w4.setCell ⟨br, 0, none⟩ v).setCell ⟨br, 1, none⟩ (.bool true)) := by
 obtain ⟨u, z1⟩ := z1
 have hlt := World.block_lt_of_cell? W ⟨br, 0, none⟩ z0
 simp only at hlt
 replace k3 : Kp W w3 := undrew k3
 have h3 := Kp.size k3
 have k4' : Kp W w4 := Kp.trans k3 (Kp.trans ((Kp.refl w3).alloc _ _) k4)
 obtain ⟨y0, y1⟩ := set2 w4 br v (.bool true) (rq_at k4' z0) (rq_at k4' z1)
 have o4 : OwnP w4 (br + 1) v l := OwnP.nw (ho (br + 1) (by omega)) k4.nw
 have hne : v.ownBlock ≠ some br := fun e => by have := (OwnQ.lt o4 _ e).1; omega
 exact ⟨y0, y1, OwnQ.base (OwnQ.far (OwnQ.far o4 _ _ _ hne) _ _ _ hne) (by omega), ((Kp.trans hw k4').setCell hb _).setCell hb _⟩
def RingSays (f : FuncId) (args : Array Value) (l : List Pnt) : Prop := ∀ w, Calls Tryz.prog f args w fun e w' => ∃ v, e = .returned (.agg #[v, .bool true]) ∧ OwnP w' w.heap.size v l ∧ Nw w w'
abbrev sgV (fx fy tx ty sx sy : Int) : Value := .agg #[.int .i64 fx, .int .i64 fy, .int .i64 tx, .int .i64 ty, .int .i64 sx, .int .i64 sy]
theorem iband (fx fy tx ty sx sy : Int) (h0 : wid fx) (h1 : wid fy) (h2 : wid tx) (h3 : wid ty) (h4 : wid sx) (h5 : wid sy) : RingSays 90 #[sgV fx fy tx ty sx sy] [(fx + sx, fy + sy), (tx + sx, ty + sy), (tx - sx, ty - sy), (fx - sx, fy - sy)] := by
 intro w
 obtain ⟨W, hW⟩ : ∃ W, (w.alloc (.cells #[.int .i64 fx, .int .i64 fy, .int .i64 tx, .int .i64 ty, .int .i64 sx, .int .i64 sy] 112)).alloc (.cells #[.slice none 0 0, .bool false] 25) = W := ⟨_, rfl⟩
 have c0 : W.cell? ⟨w.heap.size, 0, none⟩ = some (.int .i64 fx) := by rw [← hW]; simp
 have c1 : W.cell? ⟨w.heap.size, 1, none⟩ = some (.int .i64 fy) := by rw [← hW]; simp
 have c2 : W.cell? ⟨w.heap.size, 2, none⟩ = some (.int .i64 tx) := by rw [← hW]; simp
 have c3 : W.cell? ⟨w.heap.size, 3, none⟩ = some (.int .i64 ty) := by rw [← hW]; simp
 have c4 : W.cell? ⟨w.heap.size, 4, none⟩ = some (.int .i64 sx) := by rw [← hW]; simp
 have c5 : W.cell? ⟨w.heap.size, 5, none⟩ = some (.int .i64 sy) := by rw [← hW]; simp
 have z0 : W.cell? ⟨w.heap.size + 1, 0, none⟩ = some (.slice none 0 0) := by rw [← hW]; simp
 have z1 : W.cell? ⟨w.heap.size + 1, 1, none⟩ = some (.bool false) := by rw [← hW]; simp
 have zf : ∀ o, W.frozen? ⟨w.heap.size + 1, o, none⟩ = false := fun o => by rw [← hW]; exact World.frozen?_alloc_at _ _ _ _ (by simp)
 have KW : Hid (Kp w W) := by show Kp w W; rw [← hW]; exact ((Kp.refl w).alloc _ _).alloc _ _
 have HW : Hid (_ = W) := hW
 clear hW
 go_enter Tryz.func90, Tryz.ntmps90
 go_wp2_with fail
 rw [HW.out]
 refine reg_change (ops' := opsOf 1 Tryz.f90) (by kernel_rfl) ?_
 refine BND.run ⟨fx, fy, tx, ty, sx, sy, w.heap.size, w.heap.size + 1, W.drew, _⟩ ⟨c0, c1, c2, c3, c4, c5, h0, h1, h2, h3, h4, h5, z0, ⟨_, z1⟩, zf, rfl, rfl, rfl⟩ W (Kp.refl _) ?_
 rintro γ w2 ⟨w3, w4, k3, k4, rfl⟩
 obtain ⟨y0, y1, o, k⟩ := ring_end (v := .slice (some ⟨w3.heap.size, 0, none⟩) 4 4) KW.out (Nat.le_succ _) z0 ⟨_, z1⟩ k3 k4 (fun B hB => ownp4 w3 B hB _ _ _ _ _ _ _ _)
 have O : Hid _ := o
 have K : Hid _ := k
 clear o k c0 c1 c2 c3 c4 c5 z0 z1 zf k3 k4 KW HW
 simp only [Act.put, List.setIfInBounds_toArray, List.set_cons_zero, List.set_cons_succ]
 go_wp2
 refine bodyPost_ret (v := .agg #[.slice (some ⟨w3.heap.size, 0, none⟩) 4 4, .bool true]) (by simp [results, Tryz.results90, go_sem, y0, y1]) rfl ⟨_, rfl, O.out, Kp.nw K.out⟩
def crossV (ux uy vx vy : Int) : Int := wrap64 (wrap64 (ux * vy) - wrap64 (uy * vx))
abbrev cnV (ax ay bx by' sx sy cx cy dx dy tx ty h : Int) : Value := .agg #[.int .i64 ax, .int .i64 ay, .int .i64 bx, .int .i64 by', .int .i64 sx, .int .i64 sy, .int .i64 cx, .int .i64 cy, .int .i64 dx, .int .i64 dy, .int .i64 tx, .int .i64 ty, .int .i64 h]
theorem icross (w : World) (ax ay bx by' sx sy cx cy dx dy tx ty h : Int) (h0 : wid ax) (h1 : wid ay) (h2 : wid bx) (h3 : wid by') (h4 : wid cx) (h5 : wid cy) (h6 : wid dx) (h7 : wid dy) :
  Calls Tryz.prog 108 #[cnV ax ay bx by' sx sy cx cy dx dy tx ty h] w fun e w' => e = .returned (.int .i64 (crossV (bx - ax) (by' - ay) (dx - cx) (dy - cy))) ∧ Kp w w' := by
 obtain ⟨W, hW⟩ : ∃ W, (w.alloc (.cells #[.int .i64 ax, .int .i64 ay, .int .i64 bx, .int .i64 by', .int .i64 sx, .int .i64 sy, .int .i64 cx, .int .i64 cy, .int .i64 dx, .int .i64 dy, .int .i64 tx, .int .i64 ty, .int .i64 h] 128)) = W := ⟨_, rfl⟩
 have c0 : W.cell? ⟨w.heap.size, 0, none⟩ = some (.int .i64 ax) := by rw [← hW]; simp
 have c1 : W.cell? ⟨w.heap.size, 1, none⟩ = some (.int .i64 ay) := by rw [← hW]; simp
 have c2 : W.cell? ⟨w.heap.size, 2, none⟩ = some (.int .i64 bx) := by rw [← hW]; simp
 have c3 : W.cell? ⟨w.heap.size, 3, none⟩ = some (.int .i64 by') := by rw [← hW]; simp
 have c4 : W.cell? ⟨w.heap.size, 4, none⟩ = some (.int .i64 sx) := by rw [← hW]; simp
 have c5 : W.cell? ⟨w.heap.size, 5, none⟩ = some (.int .i64 sy) := by rw [← hW]; simp
 have c6 : W.cell? ⟨w.heap.size, 6, none⟩ = some (.int .i64 cx) := by rw [← hW]; simp
 have c7 : W.cell? ⟨w.heap.size, 7, none⟩ = some (.int .i64 cy) := by rw [← hW]; simp
 have c8 : W.cell? ⟨w.heap.size, 8, none⟩ = some (.int .i64 dx) := by rw [← hW]; simp
 have c9 : W.cell? ⟨w.heap.size, 9, none⟩ = some (.int .i64 dy) := by rw [← hW]; simp
 have c10 : W.cell? ⟨w.heap.size, 10, none⟩ = some (.int .i64 tx) := by rw [← hW]; simp
 have c11 : W.cell? ⟨w.heap.size, 11, none⟩ = some (.int .i64 ty) := by rw [← hW]; simp
 have c12 : W.cell? ⟨w.heap.size, 12, none⟩ = some (.int .i64 h) := by rw [← hW]; simp
 have KW : Hid (Kp w W) := by show Kp w W; rw [← hW]; exact (Kp.refl w).alloc _ _
 have HW : Hid (_ = W) := hW
 clear hW
 go_enter Tryz.func108, Tryz.ntmps108
 go_wp2_with fail
 rw [HW.out]
 refine reg_change (ops' := opsOf 1 Tryz.f108) (by kernel_rfl) ?_
 refine CRS.run ⟨ax, ay, bx, by', cx, cy, dx, dy, w.heap.size, W.drew, _⟩ ⟨c0, c1, c2, c3, c6, c7, c8, c9, h0, h1, h2, h3, h4, h5, h6, h7, rfl, rfl⟩ W (Kp.refl _) ?_
 intro w2 g0 g1 k2 _ _ _ y0 y1 y2 y3
 have K : Hid (Kp w w2) := Kp.trans KW.out (undrew k2)
 clear k2 KW HW c0 c1 c2 c3 c4 c5 c6 c7 c8 c9 c10 c11 c12
 obtain ⟨ux, hux⟩ : ∃ u, bx - ax = u := ⟨_, rfl⟩
 obtain ⟨uy, huy⟩ : ∃ u, by' - ay = u := ⟨_, rfl⟩
 obtain ⟨vx, hvx⟩ : ∃ u, dx - cx = u := ⟨_, rfl⟩
 obtain ⟨vy, hvy⟩ : ∃ u, dy - cy = u := ⟨_, rfl⟩
 simp only [hux, huy, hvx, hvy] at y0 y1 y2 y3 ⊢
 simp only [Act.put, List.setIfInBounds_toArray, List.set_cons_zero, List.set_cons_succ]
 go_wp2
 refine bodyPost_ret (v := .int .i64 (crossV ux uy vx vy)) (by simp [results, Tryz.results108, go_sem, crossV]) rfl ⟨rfl, K.out⟩
def bevelL (ax ay bx by' sx sy cx cy dx dy tx ty : Int) : List Pnt := if crossV (bx - ax) (by' - ay) (dx - cx) (dy - cy) < 0 then [(cx, cy), (cx + sx, cy + sy), (cx + tx, cy + ty)] else [(cx, cy), (cx - sx, cy - sy), (cx - tx, cy - ty)]
set_option maxHeartbeats 2000000 in
theorem ibevel (ax ay bx by' sx sy cx cy dx dy tx ty h : Int) (h0 : wid ax) (h1 : wid ay) (h2 : wid bx) (h3 : wid by') (h4 : wid cx) (h5 : wid cy) (h6 : wid dx) (h7 : wid dy) (h8 : wid sx) (h9 : wid sy) (h10 : wid tx) (h11 : wid ty) : RingSays 92 #[cnV ax ay bx by' sx sy cx cy dx dy tx ty h] (bevelL ax ay bx by' sx sy cx cy dx dy tx ty) := by
 intro w
 have HC : Hid (∀ w, _) := fun w => icross w ax ay bx by' sx sy cx cy dx dy tx ty h h0 h1 h2 h3 h4 h5 h6 h7
 unfold bevelL
 generalize crossV (bx - ax) (by' - ay) (dx - cx) (dy - cy) = r at HC ⊢
 obtain ⟨W, hW⟩ : ∃ W, ((w.alloc (.cells #[.int .i64 ax, .int .i64 ay, .int .i64 bx, .int .i64 by', .int .i64 sx, .int .i64 sy, .int .i64 cx, .int .i64 cy, .int .i64 dx, .int .i64 dy, .int .i64 tx, .int .i64 ty, .int .i64 h] 128)).alloc (.cells #[.slice none 0 0, .bool false] 25)).alloc (.cells #[.int .i64 cx, .int .i64 cy] 34) = W := ⟨_, rfl⟩
 have c4 : W.cell? ⟨w.heap.size, 4, none⟩ = some (.int .i64 sx) := by rw [← hW]; exact rq_at ((Kp.refl _).alloc _ _) (by simp)
 have c5 : W.cell? ⟨w.heap.size, 5, none⟩ = some (.int .i64 sy) := by rw [← hW]; exact rq_at ((Kp.refl _).alloc _ _) (by simp)
 have c10 : W.cell? ⟨w.heap.size, 10, none⟩ = some (.int .i64 tx) := by rw [← hW]; exact rq_at ((Kp.refl _).alloc _ _) (by simp)
 have c11 : W.cell? ⟨w.heap.size, 11, none⟩ = some (.int .i64 ty) := by rw [← hW]; exact rq_at ((Kp.refl _).alloc _ _) (by simp)
 have z0 : W.cell? ⟨w.heap.size + 1, 0, none⟩ = some (.slice none 0 0) := by rw [← hW]; exact rq_at ((Kp.refl _).alloc _ _) (by simp)
 have z1 : W.cell? ⟨w.heap.size + 1, 1, none⟩ = some (.bool false) := by rw [← hW]; exact rq_at ((Kp.refl _).alloc _ _) (by simp)
 have p0 : W.cell? ⟨w.heap.size + 1 + 1, 0, none⟩ = some (.int .i64 cx) := by rw [← hW, World.cell?_alloc_at _ _ _ _ (by simp)]; rfl
 have p1 : W.cell? ⟨w.heap.size + 1 + 1, 1, none⟩ = some (.int .i64 cy) := by rw [← hW, World.cell?_alloc_at _ _ _ _ (by simp)]; rfl
 have zf : ∀ o, W.frozen? ⟨w.heap.size + 1, o, none⟩ = false := fun o => by rw [← hW, World.frozen?_alloc_old _ _ _ (by simp)]; exact World.frozen?_alloc_at _ _ _ _ (by simp)
 have KW : Hid (Kp w W) := by show Kp w W; rw [← hW]; exact (((Kp.refl w).alloc _ _).alloc _ _).alloc _ _
 have HW : Hid (_ = W) := hW
 clear hW
 by_cases hr : r < 0
 ·rw [if_pos hr]
  go_enter Tryz.func92, Tryz.ntmps92
  go_wp2_with fail
  rw [HW.out]
  refine Calls.mono (HC.out _) ?_
  rintro e w1 ⟨rfl, k1⟩
  have K1 : Hid (Kp w w1) := Kp.trans KW.out k1
  replace c4 := rq_at k1 c4
  replace c5 := rq_at k1 c5
  replace c10 := rq_at k1 c10
  replace c11 := rq_at k1 c11
  replace z0 := rq_at k1 z0
  replace z1 := rq_at k1 z1
  replace p0 := rq_at k1 p0
  replace p1 := rq_at k1 p1
  replace zf : ∀ o, w1.frozen? ⟨w.heap.size + 1, o, none⟩ = false := fun o => (k1.cells.2 _ _).trans (zf o)
  clear k1 KW HW HC
  go_wp2_with fail
  refine reg_change (ops' := opsOf 3 Tryz.f92) (by kernel_rfl) ?_
  refine BV3.run ⟨cx, cy, sx, sy, tx, ty, w.heap.size, w.heap.size + 1 + 1, w.heap.size + 1, w1.drew, _⟩ ⟨p0, p1, c4, c5, c10, c11, h4, h5, h8, h9, h10, h11, z0, ⟨_, z1⟩, zf, rfl, rfl, rfl, rfl⟩ w1 (Kp.refl _) ?_
  rintro γ w2 ⟨w3, w4, k3, k4, rfl⟩
  obtain ⟨y0, y1, o, k⟩ := ring_end (v := .slice (some ⟨w3.heap.size, 0, none⟩) 3 3) K1.out (Nat.le_succ _) z0 ⟨_, z1⟩ k3 k4 (fun B hB => ownp3 w3 B hB _ _ _ _ _ _)
  have O : Hid _ := o
  have K : Hid _ := k
  clear o k c4 c5 c10 c11 p0 p1 z0 z1 zf k3 k4 K1
  simp only [Act.put, List.setIfInBounds_toArray, List.set_cons_zero, List.set_cons_succ]
  go_wp2
  refine bodyPost_ret (v := .agg #[.slice (some ⟨w3.heap.size, 0, none⟩) 3 3, .bool true]) (by simp [results, Tryz.results92, go_sem, y0, y1]) rfl ⟨_, rfl, O.out, Kp.nw K.out⟩
 ·rw [if_neg hr]
  go_enter Tryz.func92, Tryz.ntmps92
  go_wp2_with fail
  rw [HW.out]
  refine Calls.mono (HC.out _) ?_
  rintro e w1 ⟨rfl, k1⟩
  have K1 : Hid (Kp w w1) := Kp.trans KW.out k1
  replace c4 := rq_at k1 c4
  replace c5 := rq_at k1 c5
  replace c10 := rq_at k1 c10
  replace c11 := rq_at k1 c11
  replace z0 := rq_at k1 z0
  replace z1 := rq_at k1 z1
  replace p0 := rq_at k1 p0
  replace p1 := rq_at k1 p1
  replace zf : ∀ o, w1.frozen? ⟨w.heap.size + 1, o, none⟩ = false := fun o => (k1.cells.2 _ _).trans (zf o)
  clear k1 KW HW HC
  go_wp2_with fail
  refine reg_change (ops' := opsOf 4 Tryz.f92) (by kernel_rfl) ?_
  refine BV4.run ⟨cx, cy, sx, sy, tx, ty, w.heap.size, w.heap.size + 1 + 1, w.heap.size + 1, w1.drew, _⟩ ⟨p0, p1, c4, c5, c10, c11, h4, h5, h8, h9, h10, h11, z0, ⟨_, z1⟩, zf, rfl, rfl, rfl, rfl⟩ w1 (Kp.refl _) ?_
  rintro γ w2 ⟨w3, w4, k3, k4, rfl⟩
  obtain ⟨y0, y1, o, k⟩ := ring_end (v := .slice (some ⟨w3.heap.size, 0, none⟩) 3 3) K1.out (Nat.le_succ _) z0 ⟨_, z1⟩ k3 k4 (fun B hB => ownp3 w3 B hB _ _ _ _ _ _)
  have O : Hid _ := o
  have K : Hid _ := k
  clear o k c4 c5 c10 c11 p0 p1 z0 z1 zf k3 k4 K1
  simp only [Act.put, List.setIfInBounds_toArray, List.set_cons_zero, List.set_cons_succ]
  go_wp2
  refine bodyPost_ret (v := .agg #[.slice (some ⟨w3.heap.size, 0, none⟩) 3 3, .bool true]) (by simp [results, Tryz.results92, go_sem, y0, y1]) rfl ⟨_, rfl, O.out, Kp.nw K.out⟩
theorem nw_at {W w : World} {b o : Nat} {v : Value} (k : Nw W w) (h : W.cell? ⟨b, o, none⟩ = some v) : w.cell? ⟨b, o, none⟩ = some v := ((bcell k).1 _ _ (World.block_lt_of_cell? W ⟨b, o, none⟩ h)).trans h
theorem ownln1 {w : World} {B : Nat} {u : Value} {ld : LD} (hB : B ≤ w.heap.size) (hu : OwnP w B u ld.pts) : OwnLn (w.alloc (.cells #[u, .bool ld.closed] 25)) B (.slice (some ⟨w.heap.size, 0, none⟩) 1 1) [(u, ld)] := by
 refine ⟨World.ownsRow_lit w #[u, .bool ld.closed] 1 hB (by unfold maxLen; omega) (by simp), fun i hi => ?_, fun i hi b hb e => ?_, fun i j hij hi hj => ?_⟩
 ·have : i = 0 := by simpa using hi
  subst this
  exact OwnP.nw hu ((Below.refl _ _).alloc (Nat.le_refl _) _)
 ·have : i = 0 := by simpa using hi
  subst this
  have h1 := (OwnQ.lt hu b hb).2
  have h2 : w.heap.size = b := by injection e
  omega
 ·simp at hi hj; omega
theorem iroundAt (px py h : Int) (H : elV px py h h = (roundsP px py h h 0 32, true)) : RingSays 107 #[.agg #[.int .i64 px, .int .i64 py], .int .i64 h] (roundsP px py h h 0 32) := by
 intro w
 have HE : Hid _ := iellipse px py h h
 rw [H] at HE
 generalize roundsP px py h h 0 32 = l at *
 obtain ⟨W, hW⟩ : ∃ W, (w.alloc (.cells #[.int .i64 px, .int .i64 py] 34)).alloc (.cells #[.slice none 0 0, .bool false] 25) = W := ⟨_, rfl⟩
 have z0 : W.cell? ⟨w.heap.size + 1, 0, none⟩ = some (.slice none 0 0) := by rw [← hW]; simp
 have z1 : W.cell? ⟨w.heap.size + 1, 1, none⟩ = some (.bool false) := by rw [← hW]; simp
 have zf : ∀ o, W.frozen? ⟨w.heap.size + 1, o, none⟩ = false := fun o => by rw [← hW]; exact World.frozen?_alloc_at _ _ _ _ (by simp)
 have hs : W.heap.size = w.heap.size + 1 + 1 := by rw [← hW]; simp
 have KW : Hid (Kp w W) := by show Kp w W; rw [← hW]; exact ((Kp.refl w).alloc _ _).alloc _ _
 have HW : Hid (_ = W) := hW
 clear hW H
 go_enter Tryz.func107, Tryz.ntmps107
 go_wp2_with fail
 rw [HW.out]
 refine Calls.mono (HE.out _) ?_
 rintro e w1 ⟨v, rfl, o1, n1⟩
 obtain ⟨va, vc, hv, _⟩ := o1.pts
 have N1 : Hid (Nw w w1) := Nw.trans KW.out.nw n1
 have O1 : Hid (OwnP w1 (w.heap.size + 1 + 1) v l) := by rw [← hs]; exact o1
 have hlt : w.heap.size + 1 < w1.heap.size := by have := Below.size n1; omega
 replace z0 := nw_at n1 z0
 replace z1 := nw_at n1 z1
 replace zf : ∀ o, w1.frozen? ⟨w.heap.size + 1, o, none⟩ = false := fun o => ((bcell n1).2 _ _ (by omega)).trans (zf o)
 clear o1 n1 KW HW HE hs
 generalize l.length = vn at hv
 subst hv
 obtain ⟨w2, hw2⟩ : ∃ w2, w1.alloc (.cells #[.slice va vn vc, .bool true] 25) = w2 := ⟨_, rfl⟩
 have k2 : Nw w1 w2 := by rw [← hw2]; exact (Below.refl _ _).alloc (Nat.le_refl _) _
 have y0 := nw_at k2 z0
 have y1 := nw_at k2 z1
 have yf : ∀ o, w2.frozen? ⟨w.heap.size + 1, o, none⟩ = false := fun o => ((bcell k2).2 _ _ hlt).trans (zf o)
 have x0 : w2.cell? ⟨w1.heap.size, 0, none⟩ = some (.slice va vn vc) := by rw [← hw2]; simp
 have x1 : w2.cell? ⟨w1.heap.size, 1, none⟩ = some (.bool true) := by rw [← hw2]; simp
 have H2 : Hid (_ = w2) := hw2
 have K2 : Hid (Nw w1 w2) := k2
 clear hw2 k2 z0 z1 zf
 go_upto_region 2 with fail
 rw [H2.out]
 clear H2
 go_wp2
 obtain ⟨u0, u1⟩ := set2 w2 (w.heap.size + 1) (.slice va vn vc) (.bool true) y0 y1
 have o2 : OwnP w2 (w.heap.size + 1 + 1) (.slice va vn vc) l := OwnP.nw O1.out K2.out
 have hne : (Value.slice va vn vc).ownBlock ≠ some (w.heap.size + 1) := fun e => by have := (OwnQ.lt o2 _ e).1; omega
 refine bodyPost_ret (v := .agg #[.slice va vn vc, .bool true]) (by simp [results, Tryz.results107, go_sem, u0, u1]) rfl ⟨_, rfl, OwnQ.base (OwnQ.far (OwnQ.far o2 _ _ _ hne) _ _ _ hne) (by omega), ?_⟩
 exact (Below.setCell (Nw.trans N1.out K2.out) (Nat.le_succ _) _).setCell (Nat.le_succ _) _
set_option maxHeartbeats 1000000 in
theorem icround (ax ay bx by' sx sy cx cy dx dy tx ty h : Int) (H : elV cx cy h h = (roundsP cx cy h h 0 32, true)) : RingSays 91 #[cnV ax ay bx by' sx sy cx cy dx dy tx ty h] (roundsP cx cy h h 0 32) := by
 intro w
 have HE : Hid _ := iroundAt cx cy h H
 clear H
 generalize roundsP cx cy h h 0 32 = l at *
 obtain ⟨W, hW⟩ : ∃ W, (w.alloc (.cells #[.int .i64 ax, .int .i64 ay, .int .i64 bx, .int .i64 by', .int .i64 sx, .int .i64 sy, .int .i64 cx, .int .i64 cy, .int .i64 dx, .int .i64 dy, .int .i64 tx, .int .i64 ty, .int .i64 h] 128)).alloc (.cells #[.slice none 0 0, .bool false] 25) = W := ⟨_, rfl⟩
 have z0 : W.cell? ⟨w.heap.size + 1, 0, none⟩ = some (.slice none 0 0) := by rw [← hW]; simp
 have z1 : W.cell? ⟨w.heap.size + 1, 1, none⟩ = some (.bool false) := by rw [← hW]; simp
 have zf : ∀ o, W.frozen? ⟨w.heap.size + 1, o, none⟩ = false := fun o => by rw [← hW]; exact World.frozen?_alloc_at _ _ _ _ (by simp)
 have hs : W.heap.size = w.heap.size + 1 + 1 := by rw [← hW]; simp
 have KW : Hid (Kp w W) := by show Kp w W; rw [← hW]; exact ((Kp.refl w).alloc _ _).alloc _ _
 have HW : Hid (_ = W) := hW
 clear hW
 go_enter Tryz.func91, Tryz.ntmps91
 go_wp2_with fail
 rw [HW.out]
 refine Calls.mono (HE.out _) ?_
 rintro e w1 ⟨v, rfl, o1, n1⟩
 obtain ⟨va, vc, hv, _⟩ := o1.pts
 have N1 : Hid (Nw w w1) := Nw.trans KW.out.nw n1
 have O1 : Hid (OwnP w1 (w.heap.size + 1 + 1) v l) := by rw [← hs]; exact o1
 replace z0 := nw_at n1 z0
 replace z1 := nw_at n1 z1
 replace zf : ∀ o, w1.frozen? ⟨w.heap.size + 1, o, none⟩ = false := fun o => ((bcell n1).2 _ _ (by omega)).trans (zf o)
 clear o1 n1 KW HW HE hs
 generalize l.length = vn at hv
 subst hv
 go_wp2
 obtain ⟨u0, u1⟩ := set2 w1 (w.heap.size + 1) (.slice va vn vc) (.bool true) z0 z1
 have hne : (Value.slice va vn vc).ownBlock ≠ some (w.heap.size + 1) := fun e => by have := (OwnQ.lt O1.out _ e).1; omega
 refine bodyPost_ret (v := .agg #[.slice va vn vc, .bool true]) (by simp [results, Tryz.results91, go_sem, u0, u1]) rfl ⟨_, rfl, OwnQ.base (OwnQ.far (OwnQ.far O1.out _ _ _ hne) _ _ _ hne) (by omega), ?_⟩
 exact (Below.setCell N1.out (Nat.le_succ _) _).setCell (Nat.le_succ _) _
abbrev tpV (px py sx sy ox oy h : Int) : Value := .agg #[.int .i64 px, .int .i64 py, .int .i64 sx, .int .i64 sy, .int .i64 ox, .int .i64 oy, .int .i64 h]
def LsSays (f : FuncId) (args : Array Value) (o : List LD) : Prop := ∀ w, Calls Tryz.prog f args w fun e w' => ∃ v, e = .returned v ∧ LsOk w' w.heap.size v o ∧ Nw w w'
theorem itbutt (px py sx sy ox oy h : Int) : LsSays 95 #[tpV px py sx sy ox oy h] [] := by
 intro w
 go_enter Tryz.func95, Tryz.ntmps95
 go_wp2
 refine bodyPost_ret (v := .slice none 0 0) (by simp [results, Tryz.results95, go_sem]) rfl ⟨_, rfl, LsOk.of (OwnLn.nil _ _) rfl, ?_⟩
 exact Kp.nw ((Kp.refl w).alloc _ _)
theorem itround (px py sx sy ox oy h : Int) (H : elV px py h h = (roundsP px py h h 0 32, true)) : LsSays 93 #[tpV px py sx sy ox oy h] [⟨roundsP px py h h 0 32, true⟩] := by
 intro w
 have HE : Hid _ := iroundAt px py h H
 clear H
 generalize roundsP px py h h 0 32 = l at *
 go_enter Tryz.func93, Tryz.ntmps93
 go_wp2_with fail
 refine Calls.mono (HE.out _) ?_
 rintro e w1 ⟨v, rfl, o1, n1⟩
 obtain ⟨va, vc, hv, _⟩ := o1.pts
 have N1 : Hid (Nw w w1) := Nw.trans (Kp.nw ((Kp.refl w).alloc _ _)) n1
 have O1 : Hid (OwnP w1 w.heap.size v l) := OwnQ.base o1 (by simp)
 clear o1 n1 HE
 generalize l.length = vn at hv
 subst hv
 go_wp2
 refine bodyPost_ret (v := .slice (some ⟨w1.heap.size, 0, none⟩) 1 1) (by simp [results, Tryz.results93, go_sem]) rfl ⟨_, rfl, LsOk.of (ownln1 (ld := ⟨l, true⟩) (Below.size N1.out) O1.out) rfl, ?_⟩
 exact Nw.trans N1.out ((Below.refl _ _).alloc (Nat.le_refl _) _)
def squareL (px py sx sy ox oy : Int) : List Pnt := [(px + sx, py + sy), (px + sx + ox, py + sy + oy), (px - sx + ox, py - sy + oy), (px - sx, py - sy)]
set_option maxHeartbeats 1000000 in
theorem itsquare (px py sx sy ox oy h : Int) (h0 : wid px) (h1 : wid py) (h2 : wid sx) (h3 : wid sy) (h4 : wid ox) (h5 : wid oy) (e0 : wid (px + sx)) (e1 : wid (py + sy)) (e2 : wid (px - sx)) (e3 : wid (py - sy)) : LsSays 94 #[tpV px py sx sy ox oy h] [⟨squareL px py sx sy ox oy, true⟩] := by
 intro w
 unfold squareL
 obtain ⟨W, hW⟩ : ∃ W, w.alloc (.cells #[.int .i64 px, .int .i64 py, .int .i64 sx, .int .i64 sy, .int .i64 ox, .int .i64 oy, .int .i64 h] 115) = W := ⟨_, rfl⟩
 have c0 : W.cell? ⟨w.heap.size, 0, none⟩ = some (.int .i64 px) := by rw [← hW]; simp
 have c1 : W.cell? ⟨w.heap.size, 1, none⟩ = some (.int .i64 py) := by rw [← hW]; simp
 have c2 : W.cell? ⟨w.heap.size, 2, none⟩ = some (.int .i64 sx) := by rw [← hW]; simp
 have c3 : W.cell? ⟨w.heap.size, 3, none⟩ = some (.int .i64 sy) := by rw [← hW]; simp
 have c4 : W.cell? ⟨w.heap.size, 4, none⟩ = some (.int .i64 ox) := by rw [← hW]; simp
 have c5 : W.cell? ⟨w.heap.size, 5, none⟩ = some (.int .i64 oy) := by rw [← hW]; simp
 have KW : Hid (Kp w W) := by show Kp w W; rw [← hW]; exact (Kp.refl w).alloc _ _
 have HW : Hid (_ = W) := hW
 clear hW
 go_enter Tryz.func94, Tryz.ntmps94
 go_wp2_with fail
 rw [HW.out]
 refine reg_change (ops' := opsOf 1 Tryz.f94) (by kernel_rfl) ?_
 refine SQ1.run ⟨px, py, sx, sy, w.heap.size, W.drew, _⟩ ⟨c0, c1, c2, c3, h0, h1, h2, h3, rfl, rfl⟩ W (Kp.refl _) ?_
 intro w2 g0 g1 k2 _ _ _ y0 y1 y2 y3
 have K2 : Hid (Kp w w2) := Kp.trans KW.out (undrew k2)
 replace c4 := rq_at (undrew k2) c4
 replace c5 := rq_at (undrew k2) c5
 clear k2 KW HW c0 c1 c2 c3
 simp only [Act.put, List.setIfInBounds_toArray, List.set_cons_zero, List.set_cons_succ]
 go_wp2_with fail
 refine reg_change (ops' := opsOf 2 Tryz.f94) (by kernel_rfl) ?_
 refine SQ2.run ⟨px + sx, py + sy, px - sx, py - sy, ox, oy, w.heap.size, g0, g1, w2.drew, _⟩ ⟨y0, y1, y2, y3, c4, c5, e0, e1, e2, e3, h4, h5, rfl, rfl, rfl, rfl⟩ w2 (Kp.refl _) ?_
 rintro γ w3 ⟨w4, w5, k4, k5, hg, rfl⟩
 replace k4 : Kp w2 w4 := undrew k4
 have O5 : Hid (OwnP w5 w.heap.size (.slice (some ⟨w4.heap.size, 0, none⟩) 4 4) _) := OwnP.nw (ownp4 w4 w.heap.size (Kp.size (Kp.trans K2.out k4)) (px + sx) (py + sy) (px + sx + ox) (py + sy + oy) (px - sx + ox) (py - sy + oy) (px - sx) (py - sy)) (Kp.nw k5)
 have N5 : Hid (Nw w w5) := Kp.nw (Kp.trans (Kp.trans K2.out k4) (Kp.trans ((Kp.refl _).alloc _ _) k5))
 clear k4 k5 K2 c4 c5 y0 y1 y2 y3
 simp only [hg, Act.put, List.setIfInBounds_toArray, List.set_cons_zero, List.set_cons_succ]
 go_wp2
 refine bodyPost_ret (v := .slice (some ⟨w5.heap.size, 0, none⟩) 1 1) (by simp [results, Tryz.results94, go_sem]) rfl ⟨_, rfl, LsOk.of (ownln1 (ld := ⟨_, true⟩) (Below.size N5.out) O5.out) rfl, ?_⟩
 exact Nw.trans N5.out ((Below.refl _ _).alloc (Nat.le_refl _) _)
def nxtP (q : List Pnt) (k : Nat) : Pnt := ptAt q ((k + 1) % q.length)
def segP (q : List Pnt) (h : Int) (k : Nat) : Sg := ⟨ptAt q k, nxtP q k, (sdV (ptAt q k) (nxtP q k) h).1⟩
def segsK (q : List Pnt) (h : Int) (k : Nat) : List Sg := (List.range k).map (segP q h)
theorem segsK_len (q : List Pnt) (h : Int) (k : Nat) : (segsK q h k).length = k := by simp [segsK]
theorem segsK_succ (q : List Pnt) (h : Int) (k : Nat) : segsK q h (k + 1) = segsK q h k ++ [segP q h k] := by simp [segsK, List.range_succ]
def segN (cl : Bool) (n : Nat) : Nat := bif cl then n else n - 1
set_option maxRecDepth 100000 in
set_option maxHeartbeats 4000000 in
theorem isegs (w : World) (a : Option Addr) (c : Nat) (q : List Pnt) (cl : Bool) (h : Int) (hq : 2 ≤ q.length) (hq2 : q.length ≤ 900000) (hr : Pts w a q) :
  Calls Tryz.prog 70 #[.slice a q.length c, .bool cl, .int .i64 h] w fun e w' => ∃ v, e = .returned v ∧ OwnG w' w.heap.size v (segsK q h (segN cl q.length)) ∧ Nw w w' := by
 obtain ⟨M, hM⟩ : ∃ M, segN cl q.length = M := ⟨_, rfl⟩
 rw [hM]
 have HR : Hid (Pts w a q) := hr
 clear hr
 have HS : Hid (∀ k, segsK q h (k + 1) = segsK q h k ++ [⟨ptAt q k, ptAt q ((k + 1) % q.length), (sdV (ptAt q k) (ptAt q ((k + 1) % q.length)) h).1⟩]) := fun k => segsK_succ q h k
 have HL : Hid (∀ k, (segsK q h k).length = k) := segsK_len q h
 have H0 : Hid (segsK q h 0 = []) := rfl
 obtain ⟨G, hG⟩ : ∃ G, segsK q h = G := ⟨_, rfl⟩
 rw [hG] at HS HL H0 ⊢
 clear hG
 obtain ⟨n, hn⟩ : ∃ n, q.length = n := ⟨_, rfl⟩
 have HN : Hid (q.length = n) := hn
 rw [hn] at HS hM hq hq2 ⊢
 clear hn
 have hMn : M ≤ n ∧ n ≤ M + 1 := by rw [← hM]; unfold segN; cases cl <;> simp <;> omega
 go_enter Tryz.func70, Tryz.ntmps70
 go_wp2
 go_loopw [15, 7] (fun i v wr => ∃ k : Nat, k ≤ M ∧ i = .int .i64 (k : Int) ∧ OwnG wr w.heap.size v (G k) ∧ Nw w wr) (fun i _ _ => n - (intOf i).toNat)
 case atStart => exact ⟨0, Nat.zero_le _, rfl, by rw [H0.out]; exact OwnG.nil _ _, Below.refl _ _⟩
 case round =>
  obtain ⟨k, hk, rfl, ho, hw⟩ := hrel
  have HO : Hid (OwnG wr w.heap.size _ (G k)) := ho
  have HW : Hid (Nw w wr) := hw
  obtain ⟨va, vc, hv⟩ := ho.slice
  rw [HL.out k] at hv
  subst hv
  clear ho hw
  by_cases hlt : k < M
  ·have hkn : k < n := by omega
   obtain ⟨m, hm⟩ : ∃ m, (k + 1) % n = m := ⟨_, rfl⟩
   have hmn : m < n := by rw [← hm]; exact Nat.mod_lt _ (by omega)
   have hrm : ((k : Int) + 1).tmod (n : Int) = (m : Int) := by
    rw [← hm, Int.tmod_eq_emod_of_nonneg (by omega)]
    first | exact (Int.natCast_emod (k + 1) n).symm | rfl
   have HE := HS.out k
   rw [hm] at HE
   rcases (Pts.nw HR.out HW.out) with h0 | ⟨b, off, rfl, hb, hc⟩
   ·have := HN.out; rw [h0] at this; simp at this; omega
   obtain ⟨q0, q1⟩ := hc k (by rw [HN.out]; exact hkn)
   obtain ⟨r0, r1⟩ := hc m (by rw [HN.out]; exact hmn)
   clear hc hm
   generalize ptAt q k = A at *
   generalize ptAt q m = B at *
   obtain ⟨ax, ay⟩ := A
   obtain ⟨bx, by'⟩ := B
   have HD : Hid (∀ w, _) := fun w => isideOf w (ax, ay) (bx, by') h
   obtain ⟨r, hrr⟩ : ∃ r, sdV (ax, ay) (bx, by') h = r := ⟨_, rfl⟩
   rw [hrr] at HE HD
   clear hrr
   obtain ⟨⟨sx, sy⟩, sb⟩ := r
   have HE' : Hid _ := HE
   have HLk : Hid ((G k).length + 1 ≤ 1000000) := by show _ ≤ _; rw [HL.out]; omega
   simp only at q0 q1 r0 r1 HD
   clear HE
   have hcase : (cl = true ∧ k + 1 = n) ∨ k + 1 < n := by
    cases cl
    ·right; rw [← hM] at hlt; simp only [segN, cond_false] at hlt; omega
    ·by_cases e : k + 1 = n
     ·exact Or.inl ⟨rfl, e⟩
     ·exact Or.inr (by omega)
   have d1 : decide ((k : Int) < (n : Int)) = true := by simp; omega
   have HKM : Hid (k + 1 ≤ M) := hlt
   rcases hcase with ⟨rfl, e⟩ | e
   ·have d2 : ((k : Int) == (n : Int) - 1) = true := by simp; omega
    clear hMn hM hlt
    go_upto_region 6 with fail
    go_wp2_with fail
    refine Calls.mono (HD.out _) ?_
    rintro e w1 ⟨rfl, k1⟩
    have N1 : Hid (Nw wr w1) := Nw.trans (Kp.nw (((Kp.refl wr).alloc _ _).alloc _ _)) (Kp.nw k1)
    have x0 := rq_at k1 (show ((wr.alloc (.cells #[.int .i64 ax, .int .i64 ay] 34)).alloc (.cells #[.int .i64 bx, .int .i64 by'] 34)).cell? ⟨wr.heap.size, 0, none⟩ = some (.int .i64 ax) by simp)
    have x1 := rq_at k1 (show ((wr.alloc (.cells #[.int .i64 ax, .int .i64 ay] 34)).alloc (.cells #[.int .i64 bx, .int .i64 by'] 34)).cell? ⟨wr.heap.size, 1, none⟩ = some (.int .i64 ay) by simp)
    have x2 := rq_at k1 (show ((wr.alloc (.cells #[.int .i64 ax, .int .i64 ay] 34)).alloc (.cells #[.int .i64 bx, .int .i64 by'] 34)).cell? ⟨wr.heap.size + 1, 0, none⟩ = some (.int .i64 bx) by simp)
    have x3 := rq_at k1 (show ((wr.alloc (.cells #[.int .i64 ax, .int .i64 ay] 34)).alloc (.cells #[.int .i64 bx, .int .i64 by'] 34)).cell? ⟨wr.heap.size + 1, 1, none⟩ = some (.int .i64 by') by simp)
    have hlt1 : wr.heap.size + 1 < w1.heap.size := World.block_lt_of_cell? w1 ⟨wr.heap.size + 1, 0, none⟩ x2
    have hlt0 : wr.heap.size < w1.heap.size := by omega
    have O1 : Hid (OwnG w1 w.heap.size (.slice va k vc) (G k)) := OwnG.nw HO.out N1.out
    clear k1 q0 q1 r0 r1
    go_wp2_with (at_builtin; (refine wpl_g _ rfl (.tmp 44) (.tmp 49) rfl w.heap.size (.slice va k vc) (G k) ⟨(ax, ay), (bx, by'), (sx, sy)⟩ rfl ?own (w1.heap.size + 1) ?hx ?hc HLk.out ?hB ?_))
    case own => exact OwnG.nw O1.out (Kp.nw (((Kp.refl w1).alloc _ _).alloc _ _))
    case hx => rfl
    case hc =>
     intro j u hj
     rw [World.cell?_alloc_at _ _ _ _ (by simp)]
     simpa [sgC] using hj
    case hB =>
     have b1 := Below.size HW.out
     have b2 := Below.size N1.out
     simp
     omega
    intro g' c' w9 h2 h3
    have H2 : Hid _ := h2
    have N9 : Hid (Nw w w9) := Below.trans (Nw.trans (Nw.trans HW.out N1.out) (Kp.nw (((Kp.refl w1).alloc _ _).alloc _ _))) (Ext.below h3 (fun g hg => (OwnG.lt HO.out g hg).1) (by
     have b1 := Below.size HW.out
     have b2 := Below.size N1.out
     simp
     omega))
    clear h2 h3 x0 x1 x2 x3
    go_wp2
    go_roundw
    case rel => exact ⟨k + 1, HKM.out, by go_num, by rw [HE'.out]; exact H2.out, N9.out⟩
    case measure => simp [intOf]; omega
   ·clear hMn hM hlt
    go_wp2_with fail
    refine Calls.mono (HD.out _) ?_
    rintro e w1 ⟨rfl, k1⟩
    have N1 : Hid (Nw wr w1) := Nw.trans (Kp.nw (((Kp.refl wr).alloc _ _).alloc _ _)) (Kp.nw k1)
    have x0 := rq_at k1 (show ((wr.alloc (.cells #[.int .i64 ax, .int .i64 ay] 34)).alloc (.cells #[.int .i64 bx, .int .i64 by'] 34)).cell? ⟨wr.heap.size, 0, none⟩ = some (.int .i64 ax) by simp)
    have x1 := rq_at k1 (show ((wr.alloc (.cells #[.int .i64 ax, .int .i64 ay] 34)).alloc (.cells #[.int .i64 bx, .int .i64 by'] 34)).cell? ⟨wr.heap.size, 1, none⟩ = some (.int .i64 ay) by simp)
    have x2 := rq_at k1 (show ((wr.alloc (.cells #[.int .i64 ax, .int .i64 ay] 34)).alloc (.cells #[.int .i64 bx, .int .i64 by'] 34)).cell? ⟨wr.heap.size + 1, 0, none⟩ = some (.int .i64 bx) by simp)
    have x3 := rq_at k1 (show ((wr.alloc (.cells #[.int .i64 ax, .int .i64 ay] 34)).alloc (.cells #[.int .i64 bx, .int .i64 by'] 34)).cell? ⟨wr.heap.size + 1, 1, none⟩ = some (.int .i64 by') by simp)
    have hlt1 : wr.heap.size + 1 < w1.heap.size := World.block_lt_of_cell? w1 ⟨wr.heap.size + 1, 0, none⟩ x2
    have hlt0 : wr.heap.size < w1.heap.size := by omega
    have O1 : Hid (OwnG w1 w.heap.size (.slice va k vc) (G k)) := OwnG.nw HO.out N1.out
    clear k1 q0 q1 r0 r1
    go_wp2_with (at_builtin; (refine wpl_g _ rfl (.tmp 44) (.tmp 49) rfl w.heap.size (.slice va k vc) (G k) ⟨(ax, ay), (bx, by'), (sx, sy)⟩ rfl ?own (w1.heap.size + 1) ?hx ?hc HLk.out ?hB ?_))
    case own => exact OwnG.nw O1.out (Kp.nw (((Kp.refl w1).alloc _ _).alloc _ _))
    case hx => rfl
    case hc =>
     intro j u hj
     rw [World.cell?_alloc_at _ _ _ _ (by simp)]
     simpa [sgC] using hj
    case hB =>
     have b1 := Below.size HW.out
     have b2 := Below.size N1.out
     simp
     omega
    intro g' c' w9 h2 h3
    have H2 : Hid _ := h2
    have N9 : Hid (Nw w w9) := Below.trans (Nw.trans (Nw.trans HW.out N1.out) (Kp.nw (((Kp.refl w1).alloc _ _).alloc _ _))) (Ext.below h3 (fun g hg => (OwnG.lt HO.out g hg).1) (by
     have b1 := Below.size HW.out
     have b2 := Below.size N1.out
     simp
     omega))
    clear h2 h3 x0 x1 x2 x3
    go_wp2
    go_roundw
    case rel => exact ⟨k + 1, HKM.out, by go_num, by rw [HE'.out]; exact H2.out, N9.out⟩
    case measure => simp [intOf]; omega
  ·have hkM : k = M := by omega
   subst hkM
   cases cl with
   | true =>
    have hkn : k = n := by rw [← hM]; rfl
    subst hkn
    have d1 : decide ((k : Int) < (k : Int)) = false := by simp
    go_wp2
    go_ret
    exact ⟨_, rfl, HO.out, HW.out⟩
   | false =>
    have hkn : k + 1 = n := by rw [← hM]; simp only [segN, cond_false]; omega
    have d1 : decide ((k : Int) < (n : Int)) = true := by simp; omega
    have d2 : ((k : Int) == (n : Int) - 1) = true := by simp; omega
    rcases (Pts.nw HR.out HW.out) with h0 | ⟨b, off, rfl, hb, hc⟩
    ·have := HN.out; rw [h0] at this; simp at this; omega
    obtain ⟨q0, q1⟩ := hc k (by rw [HN.out]; omega)
    clear hc
    generalize ptAt q k = A at *
    obtain ⟨ax, ay⟩ := A
    simp only at q0 q1
    clear hMn hM
    go_wp2
    go_ret
    exact ⟨_, rfl, OwnG.nw HO.out (Kp.nw ((Kp.refl wr).alloc _ _)), Nw.trans HW.out (Kp.nw ((Kp.refl wr).alloc _ _))⟩
end Go.Proofs.YtnkeljmecbohkaaGreat
