/-
  Good points, by the reference; no condition.
-/
import Derived.Test.YtdjemnbdaddegaaJAI
import Derived.Test.YtdjemnbdaddegaaJAA
import Derived.Deep.QuietTactic
import Derived.BigQuiet
import Derived.Laws.Bits64b
namespace Go.Proofs.Ytdjemnbdaddegaa
open Go.ChangeShapes Go.WideShapes Go.ChangeAt Go.RowKit
set_option linter.unusedVariables false
theorem sgoodP (w : World) (x y : Int) : Calls Try.prog 46 #[.agg #[.int .i64 x, .int .i64 y]] w fun e w' => e = .returned (.bool (ptB (x, y))) ∧ Kp w w' := by
 have HX : Hid _ := fun w => sgoodF x w
 have HY : Hid _ := fun w => sgoodF y w
 have hv : ptB (x, y) = (fixB x && fixB y) := rfl
 rw [hv]
 clear hv
 generalize fixB x = bx at *
 generalize fixB y = by' at *
 cases bx with
 | false =>
  go_enter Try.func46, Try.ntmps46
  go_wp2_with fail
  refine (HX.out _).mono ?_
  rintro e w1 ⟨rfl, rfl⟩
  go_wp2
  go_ret
  exact ⟨rfl, (Kp.refl w).alloc _ _⟩
 | true =>
  rw [Bool.true_and]
  go_enter Try.func46, Try.ntmps46
  go_wp2_with fail
  refine (HX.out _).mono ?_
  rintro e w1 ⟨rfl, rfl⟩
  go_wp2_with fail
  refine (HY.out _).mono ?_
  rintro e w1 ⟨rfl, rfl⟩
  go_wp2
  go_ret
  exact ⟨rfl, (Kp.refl w).alloc _ _⟩
set_option maxHeartbeats 2000000 in
theorem sgoodL (w : World) (a : Option Addr) (c : Nat) (l : List LD) (hl : l.length ≤ 1048576) (hm : manyL l ≤ 1048576) (hr : Lines w a l) :
  Calls Try.prog 55 #[.slice a l.length c] w fun e w' => e = .returned (.bool (goodL l)) ∧ Kp w w' := by
 obtain ⟨V, hV⟩ : ∃ V, goodL l = V := ⟨_, rfl⟩
 have HV : Hid (goodL l = V) := hV
 rw [hV]
 clear hV
 have HR : Hid (Lines w a l) := hr
 clear hr
 go_enter Try.func55, Try.ntmps55
 go_wp2
 go_loopw [9] (fun i wr => ∃ k : Nat, k ≤ l.length ∧ i = .int .i64 k ∧ (∀ m, m < k → ptsB (lnAt l m).pts = true) ∧ Kp w wr) (fun i _ => l.length - (intOf i).toNat)
 case atStart => exact ⟨0, Nat.zero_le _, rfl, fun m hm => absurd hm (by omega), Kp.refl _⟩
 case round =>
  obtain ⟨k, hk, rfl, ha, hw⟩ := hrel
  have HW : Hid (Kp w wr) := hw
  have HA : Hid _ := ha
  clear hw ha
  by_cases hlt : k < l.length
  ·rcases (HR.out.nw HW.out.nw) with h | ⟨b, off, rfl, hb, hc⟩
   ·rw [h] at hlt; simp at hlt
   obtain ⟨⟨pa, pc, q0, qp⟩, q1⟩ := hc k hlt
   clear hc
   have HP : Hid (Pts wr pa (lnAt l k).pts) := qp
   have hn := manyL_at l k hlt
   have HF : Hid (∀ j, j < (lnAt l k).pts.length → ptB (ptAt (lnAt l k).pts j) = false → V = false) := fun j hj h => by
    have := fixL_false hlt hj h
    rw [← HV.out]; unfold goodL; rw [this]; rfl
   have HT : Hid ((∀ j, j < (lnAt l k).pts.length → ptB (ptAt (lnAt l k).pts j) = true) → ptsB (lnAt l k).pts = true) := fun h => all_true _ (0, 0) _ h
   clear qp
   generalize (lnAt l k).closed = cl at *
   generalize hps : (lnAt l k).pts = ps at *
   have HPS : Hid ((lnAt l k).pts = ps) := hps
   clear hps
   obtain ⟨W1, hW1⟩ : ∃ W1, wr = W1 := ⟨_, rfl⟩
   rw [hW1] at HW HP q0 q1 hb ⊢
   clear hW1
   go_wp2
   go_loopw [16] (fun i wr => ∃ j : Nat, j ≤ ps.length ∧ i = .int .i64 j ∧ (∀ m, m < j → ptB (ptAt ps m) = true) ∧ Kp W1 wr) (fun i _ => ps.length - (intOf i).toNat)
   case atStart => exact ⟨0, Nat.zero_le _, rfl, fun m hm => absurd hm (by omega), (Kp.refl _).alloc _ _⟩
   case round =>
    obtain ⟨j, hj, rfl, ha, hw⟩ := hrel
    have HW2 : Hid _ := hw
    have HA2 : Hid _ := ha
    clear hw ha
    by_cases hlt2 : j < ps.length
    ·rcases (Pts.nw HP.out (Kp.nw HW2.out)) with h | ⟨b2, off2, rfl, hb2, hc⟩
     ·rw [h] at hlt2; simp at hlt2
     obtain ⟨p0, p1⟩ := hc j hlt2
     clear hc
     obtain ⟨p, hp⟩ : ∃ p, ptAt ps j = p := ⟨_, rfl⟩
     have HPP : Hid (ptAt ps j = p) := hp
     rw [hp] at p0 p1
     clear hp
     obtain ⟨x, y⟩ := p
     have hcall : Hid _ := fun w => sgoodP w x y
     cases hf : ptB (x, y) with
     | true =>
      rw [hf] at hcall
      have HFF : Hid (ptB (x, y) = true) := hf
      clear hf
      go_wp2_with fail
      refine (hcall.out _).mono ?_
      rintro e w1 ⟨rfl, k1⟩
      have K1 : Hid (Kp W1 w1) := Kp.trans (Kp.alloc HW2.out _ _) k1
      clear k1
      go_wp2
      go_roundw
      case rel =>
       refine ⟨j + 1, by omega, by go_num, fun m hm => ?_, K1.out⟩
       rcases Nat.lt_succ_iff_lt_or_eq.1 hm with h | h
       ·exact HA2.out m h
       ·rw [h, HPP.out]; exact HFF.out
      case measure => simp [intOf]; omega
     | false =>
      rw [hf] at hcall
      have HFF : Hid (V = false) := HF.out j hlt2 (by rw [HPP.out]; exact hf)
      clear hf
      go_wp2_with fail
      refine (hcall.out _).mono ?_
      rintro e w1 ⟨rfl, k1⟩
      have K1 : Hid (Kp W1 w1) := Kp.trans (Kp.alloc HW2.out _ _) k1
      clear k1
      go_wp2
      go_ret
      exact ⟨ret_bool HFF.out.symm, Kp.trans HW.out K1.out⟩
    ·have HX : Hid (ptsB (lnAt l k).pts = true) := by
      show _ = _
      rw [HPS.out]
      exact HT.out (fun m hm => HA2.out m (by omega))
     clear HA2
     go_wp2
     go_roundw
     case rel =>
      refine ⟨k + 1, by omega, by go_num, fun m hm => ?_, Kp.trans HW.out HW2.out⟩
      rcases Nat.lt_succ_iff_lt_or_eq.1 hm with h | h
      ·exact HA.out m h
      ·rw [h]; exact HX.out
     case measure => simp [intOf]; omega
  ·have HX : Hid (decide (manyL l ≤ 600) = V) := by
    show _ = _
    rw [← HV.out]; unfold goodL
    rw [fixL_true (fun m hm => HA.out m (by omega))]; rfl
   have HM : Hid _ := fun (w : World) (h : Lines w a l) => smany w a c l hl hm h
   have HQ : Hid _ := HR.out.nw HW.out.nw
   have hd : decide ((manyL l : Int) ≤ 600) = decide (manyL l ≤ 600) := by
    rw [Bool.eq_iff_iff]; simp; omega
   rw [HX.out] at hd
   clear HA
   go_wp2_with fail
   refine Calls.mono (HM.out _ HQ.out) ?_
   rintro e w1 ⟨rfl, k1⟩
   have K1 : Hid (Kp w w1) := Kp.trans HW.out k1
   clear k1
   go_wp2
   go_ret
   exact ⟨rfl, K1.out⟩
def sines : List Int := [0, 6424, 12785, 19024, 25080, 30893, 36410, 41576, 46341, 50660, 54491, 57798, 60547, 62714, 64277, 65220, 65536]
def tb (k : Nat) : Int := sines.getD k 0
theorem tb_bd (k : Nat) : 0 ≤ tb k ∧ tb k ≤ 65536 := by
 by_cases h : k < 17
 ·have : ∀ i : Fin 17, 0 ≤ tb i ∧ tb i ≤ 65536 := by decide
  exact this ⟨k, h⟩
 ·unfold tb; rw [List.getD_eq_getElem?_getD, List.getElem?_eq_none (by show 17 ≤ k; omega)]; simp
def sineCells : Array Value := (sines.map (Value.int .i64)).toArray
theorem sineCells_get (k : Nat) (h : k < 17) : sineCells[k]? = some (.int .i64 (tb k)) := by
 unfold sineCells tb
 rw [List.getElem?_toArray, List.getElem?_map, List.getD_eq_getElem?_getD, List.getElem?_eq_getElem (show k < sines.length from h)]; rfl
set_option maxHeartbeats 400000 in
theorem sdown4_any (a : Int) (w : World) (h1 : -9223372036854775808 ≤ a) (h2 : a ≤ 9223372036854775807) :
  Calls Try.prog 104 #[.int .i64 a, .int .i64 4096] w fun e w' => e = .returned (.int .i64 (a / 4096)) ∧ w' = w := by
 by_cases ha : 0 ≤ a
 ·have hda : decide (a < 0) = false := by simp; omega
  by_cases hz : a % 4096 = 0
  ·have hq : (a % 4096 != 0) = false := by simp [hz]
   clear hz
   go_enter Try.func104, Try.ntmps104
   go_wp2
   go_ret
   exact ⟨rfl, rfl⟩
  ·have hq : (a % 4096 != 0) = true := by simp [hz]
   clear hz
   go_enter Try.func104, Try.ntmps104
   go_wp2
   go_ret
   exact ⟨rfl, rfl⟩
 ·have e1 := tdiv_neg_of a 4096 (by omega)
  have e2 := tmod_neg_of a 4096 (by omega)
  have hda : decide (a < 0) = true := by simp; omega
  have hq0 : 0 ≤ (-a) / 4096 ∧ (-a) / 4096 ≤ 4503599627370496 := by omega
  by_cases hz : (-a) % 4096 = 0
  ·have e3 : a / 4096 = -((-a) / 4096) := by omega
   rw [e3]
   clear e3
   rw [hz] at e2
   generalize (-a) / 4096 = q at *
   clear hz
   go_enter Try.func104, Try.ntmps104
   go_wp2
   go_ret
   exact ⟨rfl, rfl⟩
  ·have e3 : a / 4096 = -((-a) / 4096) - 1 := by omega
   rw [e3]
   clear e3
   have hr : 0 < (-a) % 4096 ∧ (-a) % 4096 < 4096 := by omega
   generalize (-a) / 4096 = q at *
   generalize (-a) % 4096 = r at *
   have hq : (-r != 0) = true := by simp; omega
   clear hz
   go_enter Try.func104, Try.ntmps104
   go_wp2
   go_ret
   exact ⟨rfl, rfl⟩
set_option maxHeartbeats 400000 in
theorem smod4_any (a : Int) (w : World) (h1 : -9223372036854775808 ≤ a) (h2 : a ≤ 9223372036854775807) :
  Calls Try.prog 120 #[.int .i64 a, .int .i64 4096] w fun e w' => e = .returned (.int .i64 (a % 4096)) ∧ w' = w := by
 have e : a % 4096 = a - 4096 * (a / 4096) := by omega
 have hb : -9223372036854775808 ≤ 4096 * (a / 4096) ∧ 4096 * (a / 4096) ≤ 9223372036854775807 := by omega
 have hc : 0 ≤ a - 4096 * (a / 4096) ∧ a - 4096 * (a / 4096) < 4096 := by omega
 rw [e]
 clear e
 go_enter Try.func120, Try.ntmps120
 go_wp2_with (go_at_call 104; refine (sdown4_any _ _ (by omega) (by omega)).mono ?_; rintro e w' ⟨rfl, rfl⟩)
 go_ret
 exact ⟨rfl, rfl⟩
set_option maxHeartbeats 800000 in
theorem table_any (w : World) :
  Calls Try.prog 121 #[] w fun e w' => e = .returned (.slice (some ⟨w.heap.size, 0, none⟩) 17 17) ∧ w' = w.alloc (.cells sineCells 3) := by
 go_enter Try.func121, Try.ntmps121
 go_wp2
 go_ret
 exact ⟨rfl, rfl⟩
def qsin (a : Int) : Int := if a = 1024 then 65536 else (tb (a / 64).toNat * (64 - a % 64) + tb ((a / 64).toNat + 1) * (a % 64) + 32) / 64
set_option maxHeartbeats 1000000 in
theorem ssin_top (w : World) : Calls Try.prog 98 #[.int .i64 1024] w fun e w' => e = .returned (.int .i64 (qsin 1024)) ∧ Kp w w' := by
 go_enter Try.func98, Try.ntmps98
 go_wp2_with (go_at_call 120; refine (smod4_any _ _ (by omega) (by omega)).mono ?_; rintro e w' ⟨rfl, rfl⟩)
 go_ret
 exact ⟨rfl, Kp.refl _⟩
set_option maxHeartbeats 1000000 in
theorem ssin_low (c : Int) (q : Nat) (r : Int) (w : World) (c1 : 0 ≤ c) (c2 : c < 100000) (e0 : c % 4096 = 64 * (q : Int) + r) (hq : q < 16) (h1 : 0 ≤ r) (h2 : r < 64) :
  Calls Try.prog 98 #[.int .i64 c] w fun e w' => e = .returned (.int .i64 ((tb q * (64 - r) + tb (q + 1) * r + 32) / 64)) ∧ Kp w w' := by
 have e1 : (64 * (q : Int) + r) / 64 = q := by omega
 have e2 : (64 * (q : Int) + r) % 64 = r := by omega
 have t0 := sineCells_get q (by omega)
 have t1 := sineCells_get (q + 1) (by omega)
 have b0 := tb_bd q
 have b1 := tb_bd (q + 1)
 generalize tb q = x at *
 generalize tb (q + 1) = y at *
 have m0 : 0 ≤ x * (64 - r) ∧ x * (64 - r) ≤ 65536 * 64 := ⟨Int.mul_nonneg b0.1 (by omega), by
  have := Int.mul_le_mul b0.2 (show (64 - r : Int) ≤ 64 by omega) (by omega) (by omega); omega⟩
 have m1 : 0 ≤ y * r ∧ y * r ≤ 65536 * 64 := ⟨Int.mul_nonneg b1.1 (by omega), by
  have := Int.mul_le_mul b1.2 (show (r : Int) ≤ 64 by omega) (by omega) (by omega); omega⟩
 go_enter Try.func98, Try.ntmps98
 go_wp2_with (first | (go_at_call 120; refine (smod4_any _ _ (by omega) (by omega)).mono ?_; rintro e w' ⟨rfl, rfl⟩; rw [e0]) | (go_at_call 121; refine (table_any _).mono ?_; rintro e w' ⟨rfl, rfl⟩))
 rw [e1, e2]
 have c0 : ∀ W : World, (W.alloc (.cells sineCells 3)).cell? ⟨W.heap.size, q, none⟩ = some (.int .i64 x) := by
  intro W; simp [t0]
 have c1 : ∀ W : World, (W.alloc (.cells sineCells 3)).cell? ⟨W.heap.size, q + 1, none⟩ = some (.int .i64 y) := by
  intro W; simp [t1]
 go_quiet (fail)
 go_wp2
 go_ret
 exact ⟨rfl, by repeat (first | exact Kp.refl _ | apply Kp.drew | apply Kp.drewN | apply Kp.alloc)⟩
theorem ssin_q (a : Int) (w : World) (h1 : 0 ≤ a) (h2 : a ≤ 1024) :
  Calls Try.prog 98 #[.int .i64 a] w fun e w' => e = .returned (.int .i64 (qsin a)) ∧ Kp w w' := by
 by_cases h : a = 1024
 ·subst h; exact ssin_top w
 ·have e : a = 64 * ((a / 64).toNat : Int) + a % 64 := by omega
  have k := ssin_low a (a / 64).toNat (a % 64) w (by omega) (by omega) (by omega) (by omega) (by omega) (by omega)
  unfold qsin
  rw [if_neg h]
  exact k
def hsin (a : Int) : Int := if a ≤ 1024 then qsin a else qsin (2048 - a)
def asin (a : Int) : Int := if a < 2048 then hsin a else - hsin (a - 2048)
theorem qsin_bd (a : Int) (h1 : 0 ≤ a) (h2 : a ≤ 1024) : 0 ≤ qsin a ∧ qsin a ≤ 200000 := by
 unfold qsin
 split
 ·omega
 ·have b0 := tb_bd (a / 64).toNat
  have b1 := tb_bd ((a / 64).toNat + 1)
  generalize tb (a / 64).toNat = x at *
  generalize tb ((a / 64).toNat + 1) = y at *
  have hr : 0 ≤ a % 64 ∧ a % 64 < 64 := by omega
  generalize a % 64 = r at *
  have m0 : 0 ≤ x * (64 - r) ∧ x * (64 - r) ≤ 65536 * 64 := ⟨Int.mul_nonneg b0.1 (by omega), by
   have := Int.mul_le_mul b0.2 (show (64 - r : Int) ≤ 64 by omega) (by omega) (by omega); omega⟩
  have m1 : 0 ≤ y * r ∧ y * r ≤ 65536 * 64 := ⟨Int.mul_nonneg b1.1 (by omega), by
   have := Int.mul_le_mul b1.2 (show (r : Int) ≤ 64 by omega) (by omega) (by omega); omega⟩
  omega
theorem hsin_bd (a : Int) (h1 : 0 ≤ a) (h2 : a ≤ 2048) : 0 ≤ hsin a ∧ hsin a ≤ 200000 := by
 unfold hsin; split
 ·exact qsin_bd _ h1 (by omega)
 ·exact qsin_bd _ (by omega) (by omega)
set_option maxHeartbeats 1000000 in
theorem ssin_h (a : Int) (w : World) (h1 : 0 ≤ a) (h2 : a < 2048) :
  Calls Try.prog 98 #[.int .i64 a] w fun e w' => e = .returned (.int .i64 (hsin a)) ∧ Kp w w' := by
 unfold hsin
 by_cases h : a ≤ 1024
 ·rw [if_pos h]; exact ssin_q a w h1 h
 ·rw [if_neg h]
  have e0 : a % 4096 = a := by omega
  have b := qsin_bd (2048 - a) (by omega) (by omega)
  have K : Hid _ := ssin_q (2048 - a) w (by omega) (by omega)
  generalize qsin (2048 - a) = v at *
  go_enter Try.func98, Try.ntmps98
  go_wp2_with (go_at_call 120; refine (smod4_any _ _ (by omega) (by omega)).mono ?_; rintro e w' ⟨rfl, rfl⟩; rw [e0])
  refine Calls.mono K.out ?_
  rintro e w1 ⟨rfl, hk⟩
  have HK : Hid _ := hk
  clear hk
  go_wp2
  go_ret
  exact ⟨rfl, HK.out⟩
set_option maxHeartbeats 1000000 in
theorem ssin_a (a m : Int) (w : World) (hm : a % 4096 = m) (h1 : 0 ≤ a) (h2 : a < 100000) (h3 : 2048 ≤ m) :
  Calls Try.prog 98 #[.int .i64 a] w fun e w' => e = .returned (.int .i64 (-hsin (m - 2048))) ∧ Kp w w' := by
 have hm2 : m < 4096 := by omega
 have b := hsin_bd (m - 2048) (by omega) (by omega)
 have K : Hid _ := ssin_h (m - 2048) w (by omega) (by omega)
 generalize hsin (m - 2048) = v at *
 go_enter Try.func98, Try.ntmps98
 go_wp2_with (go_at_call 120; refine (smod4_any _ _ (by omega) (by omega)).mono ?_; rintro e w' ⟨rfl, rfl⟩; rw [hm])
 refine Calls.mono K.out ?_
 rintro e w1 ⟨rfl, hk⟩
 have HK : Hid _ := hk
 clear hk
 go_wp2
 go_ret
 exact ⟨rfl, HK.out⟩
theorem ssin_any (a : Int) (w : World) (h1 : 0 ≤ a) (h2 : a < 4096) :
  Calls Try.prog 98 #[.int .i64 a] w fun e w' => e = .returned (.int .i64 (asin a)) ∧ Kp w w' := by
 unfold asin
 by_cases h : a < 2048
 ·rw [if_pos h]; exact ssin_h a w h1 h
 ·rw [if_neg h]; exact ssin_a a a w (by omega) h1 (by omega) (by omega)
set_option maxHeartbeats 1000000 in
theorem scos_any (a : Int) (w : World) (h1 : -9223372036854775808 ≤ a) (h2 : a ≤ 9223372036854775807) :
  Calls Try.prog 97 #[.int .i64 a] w fun e w' => e = .returned (.int .i64 (asin ((a + 1024) % 4096))) ∧ Kp w w' := by
 have hr : 0 ≤ a % 4096 ∧ a % 4096 < 4096 := by omega
 have K : Hid (∀ W, Calls Try.prog 98 #[.int .i64 (a % 4096 + 1024)] W fun e w' => e = .returned (.int .i64 (asin ((a + 1024) % 4096))) ∧ Kp W w') := by
  show ∀ W, Calls Try.prog 98 #[.int .i64 (a % 4096 + 1024)] W fun e w' => e = .returned (.int .i64 (asin ((a + 1024) % 4096))) ∧ Kp W w'
  intro W
  have em : (a + 1024) % 4096 = (a % 4096 + 1024) % 4096 := by omega
  rw [em]
  clear em
  generalize a % 4096 = m at *
  by_cases h : m + 1024 < 4096
  ·have := ssin_any (m + 1024) W (by omega) (by omega)
   rw [Int.emod_eq_of_lt (by omega) h]; exact this
  ·have e : (m + 1024) % 4096 = m - 3072 := by omega
   rw [e]
   have k := ssin_low (m + 1024) ((m - 3072) / 64).toNat ((m - 3072) % 64) W (by omega) (by omega) (by omega) (by omega) (by omega) (by omega)
   unfold asin
   rw [if_pos (by omega)]
   unfold hsin
   rw [if_pos (by omega)]
   unfold qsin
   rw [if_neg (by omega)]
   exact k
 go_enter Try.func97, Try.ntmps97
 go_wp2_with (go_at_call 120; refine (smod4_any _ _ (by omega) (by omega)).mono ?_; rintro e w' ⟨rfl, rfl⟩)
 refine Calls.mono (K.out _) ?_
 rintro e w1 ⟨rfl, hk⟩
 have HK : Hid _ := hk
 clear hk
 go_wp2
 go_ret
 exact ⟨rfl, HK.out⟩

theorem half_mul (a b : Int) (ha : 0 ≤ a) (ha' : a ≤ 4294967295) (hb : 0 ≤ b) (hb' : b ≤ 4294967295) : 0 ≤ a * b ∧ a * b ≤ 18446744065119617025 :=
 ⟨Int.mul_nonneg ha hb, Int.mul_le_mul ha' hb' hb (by omega)⟩
theorem or_low (m r : Int) (hr : 0 ≤ r) (hr' : r < 4294967296) : bits .or .u64 (IntKind.u64.wrap (m * 4294967296)) r = (m % 4294967296) * 4294967296 + r := by
 have e : IntKind.u64.wrap (m * 4294967296) = (m % 4294967296) * 4294967296 := by rw [IntKind.wrap_u64]; omega
 rw [e]
 obtain ⟨x, hx⟩ := Int.eq_ofNat_of_zero_le (a := m % 4294967296) (by omega)
 obtain ⟨y, rfl⟩ := Int.eq_ofNat_of_zero_le hr
 rw [hx]
 have hx' : x < 4294967296 := by omega
 have h := bits_or_u64_nat (x * 4294967296) y (by omega) (by omega)
 have h2 := Nat.two_pow_add_eq_or_of_lt (i := 32) (b := y) (by omega) x
 have e2 : ((x : Int) * 4294967296) = ((x * 4294967296 : Nat) : Int) := by omega
 have e3 : x * 4294967296 = 2 ^ 32 * x := by omega
 rw [e2, h, e3, ← h2]
 omega
theorem split_prod (a b : Int) : a * b = a / 4294967296 * (b / 4294967296) * 18446744073709551616 + (a / 4294967296 * (b % 4294967296) + a % 4294967296 * (b / 4294967296)) * 4294967296 + a % 4294967296 * (b % 4294967296) := by
 have h1 := Int.mul_ediv_add_emod a 4294967296
 have h2 := Int.mul_ediv_add_emod b 4294967296
 generalize a / 4294967296 = y at *
 generalize a % 4294967296 = x at *
 generalize b / 4294967296 = v at *
 generalize b % 4294967296 = u at *
 rw [← h1, ← h2, Int.add_mul, Int.mul_add, Int.mul_add]
 have e1 : 4294967296 * y * (4294967296 * v) = y * v * 18446744073709551616 := by
  rw [Int.mul_assoc, Int.mul_left_comm y 4294967296 v]; omega
 have e2 : 4294967296 * y * u = y * u * 4294967296 := by rw [Int.mul_assoc]; omega
 have e3 : x * (4294967296 * v) = x * v * 4294967296 := by rw [Int.mul_left_comm]; omega
 rw [e1, e2, e3]; omega
theorem times_eqs (a b : Int) (ha : 0 ≤ a) (ha' : a < 18446744073709551616) (hb : 0 ≤ b) (hb' : b < 18446744073709551616) :
    (a / 4294967296 * (b / 4294967296) + (a / 4294967296 * (b % 4294967296) + a % 4294967296 * (b % 4294967296) / 4294967296) / 4294967296 +
          (a % 4294967296 * (b / 4294967296) + (a / 4294967296 * (b % 4294967296) + a % 4294967296 * (b % 4294967296) / 4294967296) % 4294967296) / 4294967296 = a * b / 18446744073709551616) ∧
    (bits BinOp.or IntKind.u64 (IntKind.u64.wrap ((a % 4294967296 * (b / 4294967296) + (a / 4294967296 * (b % 4294967296) + a % 4294967296 * (b % 4294967296) / 4294967296) % 4294967296) * 4294967296))
          (a % 4294967296 * (b % 4294967296) % 4294967296) = a * b % 18446744073709551616) := by
  obtain ⟨p1, p2⟩ := half_mul (a % 4294967296) (b % 4294967296) (by omega) (by omega) (by omega) (by omega)
  obtain ⟨q1, q2⟩ := half_mul (a / 4294967296) (b % 4294967296) (by omega) (by omega) (by omega) (by omega)
  obtain ⟨r1, r2⟩ := half_mul (a % 4294967296) (b / 4294967296) (by omega) (by omega) (by omega) (by omega)
  obtain ⟨s1, s2⟩ := half_mul (a / 4294967296) (b / 4294967296) (by omega) (by omega) (by omega) (by omega)
  have e := split_prod a b
  generalize a / 4294967296 * (b / 4294967296) = s at *
  generalize a / 4294967296 * (b % 4294967296) = q at *
  generalize a % 4294967296 * (b / 4294967296) = r at *
  generalize a % 4294967296 * (b % 4294967296) = p at *
  rw [e, or_low _ _ (by omega) (by omega)]
  exact ⟨by omega, by omega⟩
set_option maxHeartbeats 1000000 in
theorem times_any (a b : Int) (w : World) (ha : 0 ≤ a) (ha' : a < 18446744073709551616) (hb : 0 ≤ b) (hb' : b < 18446744073709551616) :
  Calls Try.prog 118 #[.int .u64 a, .int .u64 b] w fun e w' => e = .returned (.agg #[.int .u64 (a * b / 18446744073709551616), .int .u64 (a * b % 18446744073709551616)]) ∧ ∃ c1 : Array Value, w' = w.alloc (.cells c1 163) := by
 obtain ⟨p1, p2⟩ := half_mul (a % 4294967296) (b % 4294967296) (by omega) (by omega) (by omega) (by omega)
 obtain ⟨q1, q2⟩ := half_mul (a / 4294967296) (b % 4294967296) (by omega) (by omega) (by omega) (by omega)
 obtain ⟨r1, r2⟩ := half_mul (a % 4294967296) (b / 4294967296) (by omega) (by omega) (by omega) (by omega)
 obtain ⟨s1, s2⟩ := half_mul (a / 4294967296) (b / 4294967296) (by omega) (by omega) (by omega) (by omega)
 go_enter Try.func118, Try.ntmps118
 go_wp2
 simp [bodyPost, results, Try.results118, go_sem]
 exact ⟨times_eqs a b ha ha' hb hb', _, rfl⟩
set_option maxHeartbeats 1000000 in
theorem less_any (a b : Int) (w : World) :
  Calls Try.prog 147 #[.agg #[.int .u64 (a / 18446744073709551616), .int .u64 (a % 18446744073709551616)], .agg #[.int .u64 (b / 18446744073709551616), .int .u64 (b % 18446744073709551616)]] w fun e w' => e = .returned (.bool (decide (a < b))) ∧ ∃ c1 c2 : Array Value, w' = (w.alloc (.cells c1 163)).alloc (.cells c2 163) := by
 have h1 : a / 18446744073709551616 < b / 18446744073709551616 ∨ (a / 18446744073709551616 = b / 18446744073709551616 ∧ a % 18446744073709551616 < b % 18446744073709551616) ↔ a < b := by omega
 generalize a / 18446744073709551616 = p at *
 generalize a % 18446744073709551616 = q at *
 generalize b / 18446744073709551616 = r at *
 generalize b % 18446744073709551616 = s at *
 by_cases c1 : p < r
 ·have e : decide (a < b) = true := by simp only [decide_eq_true_eq]; exact h1.1 (Or.inl c1)
  rw [e]; clear e h1
  go_enter Try.func147, Try.ntmps147
  go_wp2
  go_ret
  exact ⟨rfl, _, _, rfl⟩
 by_cases c2 : p = r
 ·subst c2
  by_cases c3 : q < s
  ·have e : decide (a < b) = true := by simp only [decide_eq_true_eq]; exact h1.1 (Or.inr ⟨rfl, c3⟩)
   rw [e]; clear e h1
   go_enter Try.func147, Try.ntmps147
   go_wp2
   go_ret
   exact ⟨rfl, _, _, rfl⟩
  ·have e : decide (a < b) = false := by simp only [decide_eq_false_iff_not]; intro h; have := h1.2 h; omega
   rw [e]; clear e h1
   go_enter Try.func147, Try.ntmps147
   go_wp2
   go_ret
   exact ⟨rfl, _, _, rfl⟩
 ·have e : decide (a < b) = false := by simp only [decide_eq_false_iff_not]; intro h; have := h1.2 h; omega
  rw [e]; clear e h1
  go_enter Try.func147, Try.ntmps147
  go_wp2
  go_ret
  exact ⟨rfl, _, _, rfl⟩
theorem less_at (a b p q : Int) (hp : a / 18446744073709551616 = p) (hq : a % 18446744073709551616 = q) (w : World) :
  Calls Try.prog 147 #[.agg #[.int .u64 p, .int .u64 q], .agg #[.int .u64 (b / 18446744073709551616), .int .u64 (b % 18446744073709551616)]] w fun e w' => e = .returned (.bool (decide (a < b))) ∧ ∃ c1 c2 : Array Value, w' = (w.alloc (.cells c1 163)).alloc (.cells c2 163) := by
 rw [← hp, ← hq]; exact less_any a b w
set_option maxHeartbeats 1000000 in
theorem plus_any (p q b : Int) (w : World) (hp : 0 ≤ p) (hp' : p < 18446744073709551615) (hq : 0 ≤ q) (hq' : q < 18446744073709551616) (hb : 0 ≤ b) (hb' : b < 18446744073709551616) :
  Calls Try.prog 138 #[.agg #[.int .u64 p, .int .u64 q], .int .u64 b] w fun e w' => e = .returned (.agg #[.int .u64 ((p * 18446744073709551616 + q + b) / 18446744073709551616), .int .u64 ((p * 18446744073709551616 + q + b) % 18446744073709551616)]) ∧ Kp w w' := by
 by_cases c : q + b < 18446744073709551616
 ·have e1 : (p * 18446744073709551616 + q + b) / 18446744073709551616 = p := by omega
  have e2 : (p * 18446744073709551616 + q + b) % 18446744073709551616 = q + b := by omega
  rw [e1, e2]; clear e1 e2
  go_enter Try.func138, Try.ntmps138
  go_wp2
  simp [bodyPost, results, Try.results138, go_sem]
  exact ((Kp.refl w).alloc _ _).alloc _ _
 ·have e1 : (p * 18446744073709551616 + q + b) / 18446744073709551616 = p + 1 := by omega
  have e2 : (p * 18446744073709551616 + q + b) % 18446744073709551616 = q + b - 18446744073709551616 := by omega
  rw [e1, e2]; clear e1 e2
  have hw : IntKind.u64.wrap (q + b) = q + b - 18446744073709551616 := by rw [IntKind.wrap_u64]; omega
  go_enter Try.func138, Try.ntmps138
  go_wp2
  simp [bodyPost, results, Try.results138, go_sem]
  exact ((Kp.refl w).alloc _ _).alloc _ _
set_option maxHeartbeats 1000000 in
theorem sum_any (n m : Int) (w : World) (hn : 0 ≤ n) (hn' : n < 85070591730234615865843651857942052864) (hm : 0 ≤ m) (hm' : m < 85070591730234615865843651857942052864) :
  Calls Try.prog 137 #[.agg #[.int .u64 (n / 18446744073709551616), .int .u64 (n % 18446744073709551616)], .agg #[.int .u64 (m / 18446744073709551616), .int .u64 (m % 18446744073709551616)]] w fun e w' => e = .returned (.agg #[.int .u64 ((n + m) / 18446744073709551616), .int .u64 ((n + m) % 18446744073709551616)]) ∧ Kp w w' := by
 have e1 : (n + m) / 18446744073709551616 = (n / 18446744073709551616 * 18446744073709551616 + n % 18446744073709551616 + m % 18446744073709551616) / 18446744073709551616 + m / 18446744073709551616 := by omega
 have e2 : (n + m) % 18446744073709551616 = (n / 18446744073709551616 * 18446744073709551616 + n % 18446744073709551616 + m % 18446744073709551616) % 18446744073709551616 := by omega
 have b1 : 0 ≤ n / 18446744073709551616 := by omega
 have b2 : n / 18446744073709551616 < 4611686018427387904 := by omega
 have b3 : 0 ≤ n % 18446744073709551616 := by omega
 have b4 : n % 18446744073709551616 < 18446744073709551616 := by omega
 have b5 : 0 ≤ m / 18446744073709551616 := by omega
 have b6 : m / 18446744073709551616 < 4611686018427387904 := by omega
 have b7 : 0 ≤ m % 18446744073709551616 := by omega
 have b8 : m % 18446744073709551616 < 18446744073709551616 := by omega
 rw [e1, e2]; clear e1 e2 hn hn' hm hm'
 generalize n / 18446744073709551616 = p at *
 generalize n % 18446744073709551616 = q at *
 generalize m / 18446744073709551616 = r at *
 generalize m % 18446744073709551616 = s at *
 have c1 : 0 ≤ (p * 18446744073709551616 + q + s) / 18446744073709551616 := by omega
 have c2 : (p * 18446744073709551616 + q + s) / 18446744073709551616 < 9223372036854775808 := by omega
 generalize hu : (p * 18446744073709551616 + q + s) / 18446744073709551616 = u at *
 generalize hv : (p * 18446744073709551616 + q + s) % 18446744073709551616 = v at *
 have HU : Hid (_ = u) := hu
 have HV : Hid (_ = v) := hv
 clear hu hv
 go_enter Try.func137, Try.ntmps137
 go_wp2_with fail
 refine (plus_any _ _ _ _ (by omega) (by omega) (by omega) (by omega) (by omega) (by omega)).mono ?_
 rintro e w1 ⟨rfl, hk⟩
 rw [HU.out, HV.out]
 obtain ⟨hc, hf⟩ := hk.cells
 have hz : w.heap.size + 3 ≤ w1.heap.size := by have := hk.size; simp at this; omega
 have c00 : w1.cell? ⟨w.heap.size, 0, none⟩ = some (.int .u64 p) := by rw [hc _ _ (by simp <;> omega)]; simp [go_sem]
 have c01 : w1.cell? ⟨w.heap.size, 1, none⟩ = some (.int .u64 q) := by rw [hc _ _ (by simp <;> omega)]; simp [go_sem]
 have c10 : w1.cell? ⟨w.heap.size + 1, 0, none⟩ = some (.int .u64 r) := by rw [hc _ _ (by simp <;> omega)]; simp [go_sem]
 have c11 : w1.cell? ⟨w.heap.size + 1, 1, none⟩ = some (.int .u64 s) := by rw [hc _ _ (by simp <;> omega)]; simp [go_sem]
 have c20 : w1.cell? ⟨w.heap.size + 1 + 1, 0, none⟩ = some (.int .u64 0) := by rw [hc _ _ (by simp <;> omega)]; simp [go_sem]
 have c21 : w1.cell? ⟨w.heap.size + 1 + 1, 1, none⟩ = some (.int .u64 0) := by rw [hc _ _ (by simp <;> omega)]; simp [go_sem]
 have f0 : ∀ o, w1.frozen? ⟨w.heap.size, o, none⟩ = false := by intro o; rw [hf]; simp [go_sem]
 have f2 : ∀ o, w1.frozen? ⟨w.heap.size + 1 + 1, o, none⟩ = false := by intro o; rw [hf]; simp [go_sem]
 have HK : Hid (Kp w w1) := ((((Kp.refl w).alloc _ _).alloc _ _).alloc _ _).trans hk
 clear hc hf hk
 go_wp2
 simp [bodyPost, results, Try.results137, go_sem, c20, c21]
 exact ((((HK.out.setCell (by simp) _).setCell (by simp) _).setCell (by simp) _).setCell (by simp <;> omega) _).setCell (by simp <;> omega) _
end Go.Proofs.Ytdjemnbdaddegaa
