/-
  MulAffine of both where an argument is not good, and of the specification where both are; no condition.
  MulAffine of both in one word; each theorem names its conditions.
  What FnTransforms wants of MulAffine with the affine that does nothing, and of lists of numbers held against each other; each theorem names its conditions.
  What a row wants of the call, the world's shape handed to the walk; each theorem names its conditions.
-/
import Derived.Test.YtpfhnedklihdoaaGreatDoorJAL
import Derived.Test.YtpfhnedklihdoaaGreatDoorJAT
import Derived.Test.YtpfhnedklihdoaaGreatDoorJAM
import Derived.Deep.QuietTactic
import Derived.BigQuiet
import Derived.Test.YtpfhnedklihdoaaGreatDoorRows
import Derived.Handed
import Derived.ProofKit
namespace Go.Proofs.YtpfhnedklihdoaaGreatDoor
open Go.ChangeShapes Go.WideShapes Go.ChangeAt Go.RowKit
set_option linter.unusedVariables false

set_option maxHeartbeats 2000000 in
theorem imul_bad (w : World) (a b c d e f a' b' c' d' e' f' : Int) (h : gA a b c d e f = false ∨ gA a' b' c' d' e' f' = false) : Calls Tryz.prog 5 #[affV a b c d e f, affV a' b' c' d' e' f'] w fun x w' => x = .returned (.tuple #[affV 0 0 0 0 0 0, .bool false]) ∧ Kp w w' := by
  have HGA : Hid _ := fun w => igoodAff w a b c d e f
  have HGB : Hid _ := fun w => igoodAff w a' b' c' d' e' f'
  cases hA : gA a b c d e f with
  | false =>
    rw [hA] at HGA
    clear h hA
    unfold affV at *
    go_enter Tryz.func5, Tryz.ntmps5
    go_wp2_with fail
    refine (HGA.out _).mono ?_; rintro x w1 ⟨rfl, k1⟩
    generalize hW : ((w.alloc (.cells #[.int .i64 a, .int .i64 b, .int .i64 c, .int .i64 d, .int .i64 e, .int .i64 f] 24)).alloc (.cells #[.int .i64 a', .int .i64 b', .int .i64 c', .int .i64 d', .int .i64 e', .int .i64 f'] 24)).alloc (.cells #[.int .i64 0, .int .i64 0, .int .i64 0, .int .i64 0, .int .i64 0, .int .i64 0] 24) = W at *
    have hsz : W.heap.size = w.heap.size + 3 := by rw [← hW]; simp
    have hall : W.cell? ⟨w.heap.size, 0, none⟩ = some (.int .i64 a) ∧ W.cell? ⟨w.heap.size, 1, none⟩ = some (.int .i64 b) ∧ W.cell? ⟨w.heap.size, 2, none⟩ = some (.int .i64 c) ∧ W.cell? ⟨w.heap.size, 3, none⟩ = some (.int .i64 d) ∧ W.cell? ⟨w.heap.size, 4, none⟩ = some (.int .i64 e) ∧ W.cell? ⟨w.heap.size, 5, none⟩ = some (.int .i64 f) ∧ W.cell? ⟨w.heap.size + 1, 0, none⟩ = some (.int .i64 a') ∧ W.cell? ⟨w.heap.size + 1, 1, none⟩ = some (.int .i64 b') ∧ W.cell? ⟨w.heap.size + 1, 2, none⟩ = some (.int .i64 c') ∧ W.cell? ⟨w.heap.size + 1, 3, none⟩ = some (.int .i64 d') ∧ W.cell? ⟨w.heap.size + 1, 4, none⟩ = some (.int .i64 e') ∧ W.cell? ⟨w.heap.size + 1, 5, none⟩ = some (.int .i64 f') := by
      refine ⟨?_, ?_, ?_, ?_, ?_, ?_, ?_, ?_, ?_, ?_, ?_, ?_⟩
      all_goals (rw [← hW]; first | (rw [cells3a]; rfl) | (rw [cells3b]; rfl))
    have hz : ∀ j, j < 6 → W.cell? ⟨w.heap.size + 1 + 1, j, none⟩ = some (.int .i64 0) := fun j hj => by
      rw [← hW, cells3c]
      rcases (show j = 0 ∨ j = 1 ∨ j = 2 ∨ j = 3 ∨ j = 4 ∨ j = 5 by omega) with rfl | rfl | rfl | rfl | rfl | rfl <;> rfl
    have hf : ∀ j, W.frozen? ⟨w.heap.size + 1 + 1, j, none⟩ = false := fun j => by rw [← hW, cells3f]
    have HW0 : Hid (Kp w W) := by rw [← hW]; exact kp3 w _ _ _ _
    have hall1 := keep6 w.heap.size a b c d e f a' b' c' d' e' f' (by omega) k1 hall
    have hz1 := keepZ (w.heap.size + 1 + 1) (by omega) k1 hz hf
    have HK1 : Hid (Kp w w1) := Kp.trans HW0.out k1
    have ks1 := Kp.size k1
    clear hW hall k1 hz hf HW0
    obtain ⟨B, hB⟩ : ∃ B, w.heap.size = B := ⟨_, rfl⟩
    have HBw : Hid (w.heap.size ≤ B + 1 + 1) := (show _ ≤ _ by omega)
    rw [hB] at hsz hall1 hz1 ⊢
    clear hB
    obtain ⟨h0, h1, h2, h3, h4, h5, g0, g1, g2, g3, g4, g5⟩ := hall1
    obtain ⟨hz, hf⟩ := hz1
    clear HGA HGB hsz ks1
    go_wp2
    obtain ⟨y0, y1, y2, y3, y4, y5⟩ := six_set w1 (B + 1 + 1) (.int .i64 0) (.int .i64 0) (.int .i64 0) (.int .i64 0) (.int .i64 0) (.int .i64 0) hz
    refine bodyPost_ret (v := .tuple #[affV 0 0 0 0 0 0, .bool false]) (by simp [results, Tryz.results5, go_sem, y0, y1, y2, y3, y4, y5]) rfl ⟨rfl, ?_⟩
    exact (((((HK1.out.setCell HBw.out _).setCell HBw.out _).setCell HBw.out _).setCell HBw.out _).setCell HBw.out _).setCell HBw.out _
  | true =>
    have hB' : gA a' b' c' d' e' f' = false := by rcases h with h | h; rw [hA] at h; cases h; exact h
    rw [hA] at HGA
    rw [hB'] at HGB
    clear h hA hB'
    unfold affV at *
    go_enter Tryz.func5, Tryz.ntmps5
    go_wp2_with fail
    refine (HGA.out _).mono ?_; rintro x w1 ⟨rfl, k1⟩
    generalize hW : ((w.alloc (.cells #[.int .i64 a, .int .i64 b, .int .i64 c, .int .i64 d, .int .i64 e, .int .i64 f] 24)).alloc (.cells #[.int .i64 a', .int .i64 b', .int .i64 c', .int .i64 d', .int .i64 e', .int .i64 f'] 24)).alloc (.cells #[.int .i64 0, .int .i64 0, .int .i64 0, .int .i64 0, .int .i64 0, .int .i64 0] 24) = W at *
    have hsz : W.heap.size = w.heap.size + 3 := by rw [← hW]; simp
    have hall : W.cell? ⟨w.heap.size, 0, none⟩ = some (.int .i64 a) ∧ W.cell? ⟨w.heap.size, 1, none⟩ = some (.int .i64 b) ∧ W.cell? ⟨w.heap.size, 2, none⟩ = some (.int .i64 c) ∧ W.cell? ⟨w.heap.size, 3, none⟩ = some (.int .i64 d) ∧ W.cell? ⟨w.heap.size, 4, none⟩ = some (.int .i64 e) ∧ W.cell? ⟨w.heap.size, 5, none⟩ = some (.int .i64 f) ∧ W.cell? ⟨w.heap.size + 1, 0, none⟩ = some (.int .i64 a') ∧ W.cell? ⟨w.heap.size + 1, 1, none⟩ = some (.int .i64 b') ∧ W.cell? ⟨w.heap.size + 1, 2, none⟩ = some (.int .i64 c') ∧ W.cell? ⟨w.heap.size + 1, 3, none⟩ = some (.int .i64 d') ∧ W.cell? ⟨w.heap.size + 1, 4, none⟩ = some (.int .i64 e') ∧ W.cell? ⟨w.heap.size + 1, 5, none⟩ = some (.int .i64 f') := by
      refine ⟨?_, ?_, ?_, ?_, ?_, ?_, ?_, ?_, ?_, ?_, ?_, ?_⟩
      all_goals (rw [← hW]; first | (rw [cells3a]; rfl) | (rw [cells3b]; rfl))
    have hz : ∀ j, j < 6 → W.cell? ⟨w.heap.size + 1 + 1, j, none⟩ = some (.int .i64 0) := fun j hj => by
      rw [← hW, cells3c]
      rcases (show j = 0 ∨ j = 1 ∨ j = 2 ∨ j = 3 ∨ j = 4 ∨ j = 5 by omega) with rfl | rfl | rfl | rfl | rfl | rfl <;> rfl
    have hf : ∀ j, W.frozen? ⟨w.heap.size + 1 + 1, j, none⟩ = false := fun j => by rw [← hW, cells3f]
    have HW0 : Hid (Kp w W) := by rw [← hW]; exact kp3 w _ _ _ _
    have hall1 := keep6 w.heap.size a b c d e f a' b' c' d' e' f' (by omega) k1 hall
    have hz1 := keepZ (w.heap.size + 1 + 1) (by omega) k1 hz hf
    have HK1 : Hid (Kp w w1) := Kp.trans HW0.out k1
    have ks1 := Kp.size k1
    clear hW hall k1 hz hf HW0
    obtain ⟨B, hB⟩ : ∃ B, w.heap.size = B := ⟨_, rfl⟩
    have HBw : Hid (w.heap.size ≤ B + 1 + 1) := (show _ ≤ _ by omega)
    rw [hB] at hsz hall1 hz1 ⊢
    clear hB
    obtain ⟨h0, h1, h2, h3, h4, h5, g0, g1, g2, g3, g4, g5⟩ := hall1
    go_wp2_with fail
    refine (HGB.out _).mono ?_; rintro x w2 ⟨rfl, k2⟩
    obtain ⟨hz, hf⟩ := keepZ (B + 1 + 1) (by omega) k2 hz1.1 hz1.2
    have HK2 : Hid (Kp w w2) := Kp.trans HK1.out k2
    clear k2 h0 h1 h2 h3 h4 h5 g0 g1 g2 g3 g4 g5 hz1 hsz ks1 HGA HGB
    go_wp2
    obtain ⟨y0, y1, y2, y3, y4, y5⟩ := six_set w2 (B + 1 + 1) (.int .i64 0) (.int .i64 0) (.int .i64 0) (.int .i64 0) (.int .i64 0) (.int .i64 0) hz
    refine bodyPost_ret (v := .tuple #[affV 0 0 0 0 0 0, .bool false]) (by simp [results, Tryz.results5, go_sem, y0, y1, y2, y3, y4, y5]) rfl ⟨rfl, ?_⟩
    exact (((((HK2.out.setCell HBw.out _).setCell HBw.out _).setCell HBw.out _).setCell HBw.out _).setCell HBw.out _).setCell HBw.out _
set_option maxHeartbeats 2000000 in
theorem smul_bad (w : World) (a b c d e f a' b' c' d' e' f' : Int) (h : gA a b c d e f = false ∨ gA a' b' c' d' e' f' = false) : Calls Tryz.prog 6 #[affV a b c d e f, affV a' b' c' d' e' f'] w fun x w' => x = .returned (.tuple #[affV 0 0 0 0 0 0, .bool false]) ∧ Kp w w' := by
  have HGA : Hid _ := fun w => sgoodAff w a b c d e f
  have HGB : Hid _ := fun w => sgoodAff w a' b' c' d' e' f'
  cases hA : gA a b c d e f with
  | false =>
    rw [hA] at HGA
    clear h hA
    unfold affV at *
    go_enter Tryz.func6, Tryz.ntmps6
    go_wp2_with fail
    refine (HGA.out _).mono ?_; rintro x w1 ⟨rfl, k1⟩
    generalize hW : ((w.alloc (.cells #[.int .i64 a, .int .i64 b, .int .i64 c, .int .i64 d, .int .i64 e, .int .i64 f] 24)).alloc (.cells #[.int .i64 a', .int .i64 b', .int .i64 c', .int .i64 d', .int .i64 e', .int .i64 f'] 24)).alloc (.cells #[.int .i64 0, .int .i64 0, .int .i64 0, .int .i64 0, .int .i64 0, .int .i64 0] 24) = W at *
    have hsz : W.heap.size = w.heap.size + 3 := by rw [← hW]; simp
    have hall : W.cell? ⟨w.heap.size, 0, none⟩ = some (.int .i64 a) ∧ W.cell? ⟨w.heap.size, 1, none⟩ = some (.int .i64 b) ∧ W.cell? ⟨w.heap.size, 2, none⟩ = some (.int .i64 c) ∧ W.cell? ⟨w.heap.size, 3, none⟩ = some (.int .i64 d) ∧ W.cell? ⟨w.heap.size, 4, none⟩ = some (.int .i64 e) ∧ W.cell? ⟨w.heap.size, 5, none⟩ = some (.int .i64 f) ∧ W.cell? ⟨w.heap.size + 1, 0, none⟩ = some (.int .i64 a') ∧ W.cell? ⟨w.heap.size + 1, 1, none⟩ = some (.int .i64 b') ∧ W.cell? ⟨w.heap.size + 1, 2, none⟩ = some (.int .i64 c') ∧ W.cell? ⟨w.heap.size + 1, 3, none⟩ = some (.int .i64 d') ∧ W.cell? ⟨w.heap.size + 1, 4, none⟩ = some (.int .i64 e') ∧ W.cell? ⟨w.heap.size + 1, 5, none⟩ = some (.int .i64 f') := by
      refine ⟨?_, ?_, ?_, ?_, ?_, ?_, ?_, ?_, ?_, ?_, ?_, ?_⟩
      all_goals (rw [← hW]; first | (rw [cells3a]; rfl) | (rw [cells3b]; rfl))
    have hz : ∀ j, j < 6 → W.cell? ⟨w.heap.size + 1 + 1, j, none⟩ = some (.int .i64 0) := fun j hj => by
      rw [← hW, cells3c]
      rcases (show j = 0 ∨ j = 1 ∨ j = 2 ∨ j = 3 ∨ j = 4 ∨ j = 5 by omega) with rfl | rfl | rfl | rfl | rfl | rfl <;> rfl
    have hf : ∀ j, W.frozen? ⟨w.heap.size + 1 + 1, j, none⟩ = false := fun j => by rw [← hW, cells3f]
    have HW0 : Hid (Kp w W) := by rw [← hW]; exact kp3 w _ _ _ _
    have hall1 := keep6 w.heap.size a b c d e f a' b' c' d' e' f' (by omega) k1 hall
    have hz1 := keepZ (w.heap.size + 1 + 1) (by omega) k1 hz hf
    have HK1 : Hid (Kp w w1) := Kp.trans HW0.out k1
    have ks1 := Kp.size k1
    clear hW hall k1 hz hf HW0
    obtain ⟨B, hB⟩ : ∃ B, w.heap.size = B := ⟨_, rfl⟩
    have HBw : Hid (w.heap.size ≤ B + 1 + 1) := (show _ ≤ _ by omega)
    rw [hB] at hsz hall1 hz1 ⊢
    clear hB
    obtain ⟨h0, h1, h2, h3, h4, h5, g0, g1, g2, g3, g4, g5⟩ := hall1
    obtain ⟨hz, hf⟩ := hz1
    clear HGA HGB hsz ks1
    go_wp2
    obtain ⟨y0, y1, y2, y3, y4, y5⟩ := six_set w1 (B + 1 + 1) (.int .i64 0) (.int .i64 0) (.int .i64 0) (.int .i64 0) (.int .i64 0) (.int .i64 0) hz
    refine bodyPost_ret (v := .tuple #[affV 0 0 0 0 0 0, .bool false]) (by simp [results, Tryz.results6, go_sem, y0, y1, y2, y3, y4, y5]) rfl ⟨rfl, ?_⟩
    exact (((((HK1.out.setCell HBw.out _).setCell HBw.out _).setCell HBw.out _).setCell HBw.out _).setCell HBw.out _).setCell HBw.out _
  | true =>
    have hB' : gA a' b' c' d' e' f' = false := by rcases h with h | h; rw [hA] at h; cases h; exact h
    rw [hA] at HGA
    rw [hB'] at HGB
    clear h hA hB'
    unfold affV at *
    go_enter Tryz.func6, Tryz.ntmps6
    go_wp2_with fail
    refine (HGA.out _).mono ?_; rintro x w1 ⟨rfl, k1⟩
    generalize hW : ((w.alloc (.cells #[.int .i64 a, .int .i64 b, .int .i64 c, .int .i64 d, .int .i64 e, .int .i64 f] 24)).alloc (.cells #[.int .i64 a', .int .i64 b', .int .i64 c', .int .i64 d', .int .i64 e', .int .i64 f'] 24)).alloc (.cells #[.int .i64 0, .int .i64 0, .int .i64 0, .int .i64 0, .int .i64 0, .int .i64 0] 24) = W at *
    have hsz : W.heap.size = w.heap.size + 3 := by rw [← hW]; simp
    have hall : W.cell? ⟨w.heap.size, 0, none⟩ = some (.int .i64 a) ∧ W.cell? ⟨w.heap.size, 1, none⟩ = some (.int .i64 b) ∧ W.cell? ⟨w.heap.size, 2, none⟩ = some (.int .i64 c) ∧ W.cell? ⟨w.heap.size, 3, none⟩ = some (.int .i64 d) ∧ W.cell? ⟨w.heap.size, 4, none⟩ = some (.int .i64 e) ∧ W.cell? ⟨w.heap.size, 5, none⟩ = some (.int .i64 f) ∧ W.cell? ⟨w.heap.size + 1, 0, none⟩ = some (.int .i64 a') ∧ W.cell? ⟨w.heap.size + 1, 1, none⟩ = some (.int .i64 b') ∧ W.cell? ⟨w.heap.size + 1, 2, none⟩ = some (.int .i64 c') ∧ W.cell? ⟨w.heap.size + 1, 3, none⟩ = some (.int .i64 d') ∧ W.cell? ⟨w.heap.size + 1, 4, none⟩ = some (.int .i64 e') ∧ W.cell? ⟨w.heap.size + 1, 5, none⟩ = some (.int .i64 f') := by
      refine ⟨?_, ?_, ?_, ?_, ?_, ?_, ?_, ?_, ?_, ?_, ?_, ?_⟩
      all_goals (rw [← hW]; first | (rw [cells3a]; rfl) | (rw [cells3b]; rfl))
    have hz : ∀ j, j < 6 → W.cell? ⟨w.heap.size + 1 + 1, j, none⟩ = some (.int .i64 0) := fun j hj => by
      rw [← hW, cells3c]
      rcases (show j = 0 ∨ j = 1 ∨ j = 2 ∨ j = 3 ∨ j = 4 ∨ j = 5 by omega) with rfl | rfl | rfl | rfl | rfl | rfl <;> rfl
    have hf : ∀ j, W.frozen? ⟨w.heap.size + 1 + 1, j, none⟩ = false := fun j => by rw [← hW, cells3f]
    have HW0 : Hid (Kp w W) := by rw [← hW]; exact kp3 w _ _ _ _
    have hall1 := keep6 w.heap.size a b c d e f a' b' c' d' e' f' (by omega) k1 hall
    have hz1 := keepZ (w.heap.size + 1 + 1) (by omega) k1 hz hf
    have HK1 : Hid (Kp w w1) := Kp.trans HW0.out k1
    have ks1 := Kp.size k1
    clear hW hall k1 hz hf HW0
    obtain ⟨B, hB⟩ : ∃ B, w.heap.size = B := ⟨_, rfl⟩
    have HBw : Hid (w.heap.size ≤ B + 1 + 1) := (show _ ≤ _ by omega)
    rw [hB] at hsz hall1 hz1 ⊢
    clear hB
    obtain ⟨h0, h1, h2, h3, h4, h5, g0, g1, g2, g3, g4, g5⟩ := hall1
    go_wp2_with fail
    refine (HGB.out _).mono ?_; rintro x w2 ⟨rfl, k2⟩
    obtain ⟨hz, hf⟩ := keepZ (B + 1 + 1) (by omega) k2 hz1.1 hz1.2
    have HK2 : Hid (Kp w w2) := Kp.trans HK1.out k2
    clear k2 h0 h1 h2 h3 h4 h5 g0 g1 g2 g3 g4 g5 hz1 hsz ks1 HGA HGB
    go_wp2
    obtain ⟨y0, y1, y2, y3, y4, y5⟩ := six_set w2 (B + 1 + 1) (.int .i64 0) (.int .i64 0) (.int .i64 0) (.int .i64 0) (.int .i64 0) (.int .i64 0) hz
    refine bodyPost_ret (v := .tuple #[affV 0 0 0 0 0 0, .bool false]) (by simp [results, Tryz.results6, go_sem, y0, y1, y2, y3, y4, y5]) rfl ⟨rfl, ?_⟩
    exact (((((HK2.out.setCell HBw.out _).setCell HBw.out _).setCell HBw.out _).setCell HBw.out _).setCell HBw.out _).setCell HBw.out _
set_option maxHeartbeats 2000000 in
theorem smul_yes (w : World) (a b c d e f a' b' c' d' e' f' x0 x1 x2 x3 x4 x5 : Int) (HM : Hid (∀ w, Calls Tryz.prog 15 #[affV a b c d e f, affV a' b' c' d' e' f'] w fun x w' => x = .returned (affV x0 x1 x2 x3 x4 x5) ∧ Kp w w')) (hgm : gA x0 x1 x2 x3 x4 x5 = true) (hgA : gA a b c d e f = true) (hgB : gA a' b' c' d' e' f' = true) :
    Calls Tryz.prog 6 #[affV a b c d e f, affV a' b' c' d' e' f'] w fun x w' => x = .returned (.tuple #[affV x0 x1 x2 x3 x4 x5, .bool true]) ∧ Kp w w' := by
  have HGA : Hid _ := fun w => sgoodAff w a b c d e f
  have HGB : Hid _ := fun w => sgoodAff w a' b' c' d' e' f'
  have HGM : Hid _ := fun w => sgoodAff w x0 x1 x2 x3 x4 x5
  rw [hgA] at HGA
  rw [hgB] at HGB
  rw [hgm] at HGM
  clear hgA hgB hgm
  unfold affV at *
  go_enter Tryz.func6, Tryz.ntmps6
  go_wp2_with fail
  refine (HGA.out _).mono ?_; rintro x w1 ⟨rfl, k1⟩
  generalize hW : ((w.alloc (.cells #[.int .i64 a, .int .i64 b, .int .i64 c, .int .i64 d, .int .i64 e, .int .i64 f] 24)).alloc (.cells #[.int .i64 a', .int .i64 b', .int .i64 c', .int .i64 d', .int .i64 e', .int .i64 f'] 24)).alloc (.cells #[.int .i64 0, .int .i64 0, .int .i64 0, .int .i64 0, .int .i64 0, .int .i64 0] 24) = W at *
  have hsz : W.heap.size = w.heap.size + 3 := by rw [← hW]; simp
  have hall : W.cell? ⟨w.heap.size, 0, none⟩ = some (.int .i64 a) ∧ W.cell? ⟨w.heap.size, 1, none⟩ = some (.int .i64 b) ∧ W.cell? ⟨w.heap.size, 2, none⟩ = some (.int .i64 c) ∧ W.cell? ⟨w.heap.size, 3, none⟩ = some (.int .i64 d) ∧ W.cell? ⟨w.heap.size, 4, none⟩ = some (.int .i64 e) ∧ W.cell? ⟨w.heap.size, 5, none⟩ = some (.int .i64 f) ∧ W.cell? ⟨w.heap.size + 1, 0, none⟩ = some (.int .i64 a') ∧ W.cell? ⟨w.heap.size + 1, 1, none⟩ = some (.int .i64 b') ∧ W.cell? ⟨w.heap.size + 1, 2, none⟩ = some (.int .i64 c') ∧ W.cell? ⟨w.heap.size + 1, 3, none⟩ = some (.int .i64 d') ∧ W.cell? ⟨w.heap.size + 1, 4, none⟩ = some (.int .i64 e') ∧ W.cell? ⟨w.heap.size + 1, 5, none⟩ = some (.int .i64 f') := by
    refine ⟨?_, ?_, ?_, ?_, ?_, ?_, ?_, ?_, ?_, ?_, ?_, ?_⟩
    all_goals (rw [← hW]; first | (rw [cells3a]; rfl) | (rw [cells3b]; rfl))
  have hz : ∀ j, j < 6 → W.cell? ⟨w.heap.size + 1 + 1, j, none⟩ = some (.int .i64 0) := fun j hj => by
    rw [← hW, cells3c]
    rcases (show j = 0 ∨ j = 1 ∨ j = 2 ∨ j = 3 ∨ j = 4 ∨ j = 5 by omega) with rfl | rfl | rfl | rfl | rfl | rfl <;> rfl
  have hf : ∀ j, W.frozen? ⟨w.heap.size + 1 + 1, j, none⟩ = false := fun j => by rw [← hW, cells3f]
  have HW0 : Hid (Kp w W) := by rw [← hW]; exact kp3 w _ _ _ _
  have hall1 := keep6 w.heap.size a b c d e f a' b' c' d' e' f' (by omega) k1 hall
  have hz1 := keepZ (w.heap.size + 1 + 1) (by omega) k1 hz hf
  have HK1 : Hid (Kp w w1) := Kp.trans HW0.out k1
  have ks1 := Kp.size k1
  clear hW hall k1 hz hf HW0
  obtain ⟨B, hB⟩ : ∃ B, w.heap.size = B := ⟨_, rfl⟩
  have HBw : Hid (w.heap.size ≤ B + 1 + 1) := (show _ ≤ _ by omega)
  rw [hB] at hsz hall1 hz1 ⊢
  clear hB
  obtain ⟨h0, h1, h2, h3, h4, h5, g0, g1, g2, g3, g4, g5⟩ := hall1
  go_wp2_with fail
  refine (HGB.out _).mono ?_; rintro x w2 ⟨rfl, k2⟩
  have hall2 := keep6 B a b c d e f a' b' c' d' e' f' (by omega) k2 ⟨h0, h1, h2, h3, h4, h5, g0, g1, g2, g3, g4, g5⟩
  obtain ⟨hz2, hf2⟩ := keepZ (B + 1 + 1) (by omega) k2 hz1.1 hz1.2
  have ks2 := Kp.size k2
  have HK2 : Hid (Kp w w2) := Kp.trans HK1.out k2
  have HB2 : Hid (B + 1 + 1 < w2.heap.size) := (show _ < _ by omega)
  clear k2 h0 h1 h2 h3 h4 h5 g0 g1 g2 g3 g4 g5 hz1 HK1
  obtain ⟨h0, h1, h2, h3, h4, h5, g0, g1, g2, g3, g4, g5⟩ := hall2
  clear hsz ks1 ks2
  go_wp2_with fail
  refine (HM.out _).mono ?_; rintro x w3 ⟨rfl, k3⟩
  obtain ⟨hz3, hf3⟩ := keepZ (B + 1 + 1) HB2.out k3 hz2 hf2
  have HB3 : Hid (B + 1 + 1 < w3.heap.size) := (show _ < _ by have := Kp.size k3; have := HB2.out; omega)
  have HK3 : Hid (Kp w w3) := Kp.trans HK2.out k3
  clear k3 hz2 hf2 h0 h1 h2 h3 h4 h5 g0 g1 g2 g3 g4 g5 HB2 HK2
  obtain ⟨w4, hw4⟩ : ∃ w4, w3.alloc (.cells #[.int .i64 x0, .int .i64 x1, .int .i64 x2, .int .i64 x3, .int .i64 x4, .int .i64 x5] 24) = w4 := ⟨_, rfl⟩
  have m3 : ∀ o, w4.cell? ⟨w3.heap.size, o, none⟩ = (#[.int .i64 x0, .int .i64 x1, .int .i64 x2, .int .i64 x3, .int .i64 x4, .int .i64 x5] : Array Value)[o]? := fun o => by rw [← hw4]; exact World.cell?_alloc_at _ _ _ _ rfl
  have k4 : Kp w3 w4 := by rw [← hw4]; exact (Kp.refl w3).alloc _ _
  obtain ⟨hz4, hf4⟩ := keepZ (B + 1 + 1) HB3.out k4 hz3 hf3
  have HB4 : Hid (B + 1 + 1 < w4.heap.size) := (show _ < _ by have := Kp.size k4; have := HB3.out; omega)
  have HK4 : Hid (Kp w w4) := Kp.trans HK3.out k4
  have m0 : w4.cell? ⟨w3.heap.size, 0, none⟩ = some (.int .i64 x0) := m3 0
  have m1 : w4.cell? ⟨w3.heap.size, 1, none⟩ = some (.int .i64 x1) := m3 1
  have m2 : w4.cell? ⟨w3.heap.size, 2, none⟩ = some (.int .i64 x2) := m3 2
  have m3' : w4.cell? ⟨w3.heap.size, 3, none⟩ = some (.int .i64 x3) := m3 3
  have m4 : w4.cell? ⟨w3.heap.size, 4, none⟩ = some (.int .i64 x4) := m3 4
  have m5 : w4.cell? ⟨w3.heap.size, 5, none⟩ = some (.int .i64 x5) := m3 5
  have HN4 : Hid (w3.heap.size < w4.heap.size) := World.block_lt_of_cell? w4 ⟨w3.heap.size, 0, none⟩ m0
  clear m3 k4 HK3 HB3
  go_wp2_with fail
  refine (HGM.out _).mono ?_; rintro x w5 ⟨rfl, k5⟩
  have kc := (Kp.cells k5).1
  have n0 := (kc _ 0 HN4.out).trans m0
  have n1 := (kc _ 1 HN4.out).trans m1
  have n2 := (kc _ 2 HN4.out).trans m2
  have n3 := (kc _ 3 HN4.out).trans m3'
  have n4 := (kc _ 4 HN4.out).trans m4
  have n5 := (kc _ 5 HN4.out).trans m5
  obtain ⟨hz, hf⟩ := keepZ (B + 1 + 1) HB4.out k5 hz4 hf4
  have HK5 : Hid (Kp w w5) := Kp.trans HK4.out k5
  clear k5 kc m0 m1 m2 m3' m4 m5 hz3 hf3 hz4 hf4 hw4
  go_wp2
  obtain ⟨y0, y1, y2, y3, y4, y5⟩ := six_set w5 (B + 1 + 1) (.int .i64 x0) (.int .i64 x1) (.int .i64 x2) (.int .i64 x3) (.int .i64 x4) (.int .i64 x5) hz
  refine bodyPost_ret (v := .tuple #[affV x0 x1 x2 x3 x4 x5, .bool true]) (by simp [results, Tryz.results6, go_sem, y0, y1, y2, y3, y4, y5]) rfl ⟨rfl, ?_⟩
  exact (((((HK5.out.setCell HBw.out _).setCell HBw.out _).setCell HBw.out _).setCell HBw.out _).setCell HBw.out _).setCell HBw.out _
set_option maxHeartbeats 2000000 in
theorem smul_no (w : World) (a b c d e f a' b' c' d' e' f' x0 x1 x2 x3 x4 x5 : Int) (HM : Hid (∀ w, Calls Tryz.prog 15 #[affV a b c d e f, affV a' b' c' d' e' f'] w fun x w' => x = .returned (affV x0 x1 x2 x3 x4 x5) ∧ Kp w w')) (hgm : gA x0 x1 x2 x3 x4 x5 = false) (hgA : gA a b c d e f = true) (hgB : gA a' b' c' d' e' f' = true) :
    Calls Tryz.prog 6 #[affV a b c d e f, affV a' b' c' d' e' f'] w fun x w' => x = .returned (.tuple #[affV 0 0 0 0 0 0, .bool false]) ∧ Kp w w' := by
  have HGA : Hid _ := fun w => sgoodAff w a b c d e f
  have HGB : Hid _ := fun w => sgoodAff w a' b' c' d' e' f'
  have HGM : Hid _ := fun w => sgoodAff w x0 x1 x2 x3 x4 x5
  rw [hgA] at HGA
  rw [hgB] at HGB
  rw [hgm] at HGM
  clear hgA hgB hgm
  unfold affV at *
  go_enter Tryz.func6, Tryz.ntmps6
  go_wp2_with fail
  refine (HGA.out _).mono ?_; rintro x w1 ⟨rfl, k1⟩
  generalize hW : ((w.alloc (.cells #[.int .i64 a, .int .i64 b, .int .i64 c, .int .i64 d, .int .i64 e, .int .i64 f] 24)).alloc (.cells #[.int .i64 a', .int .i64 b', .int .i64 c', .int .i64 d', .int .i64 e', .int .i64 f'] 24)).alloc (.cells #[.int .i64 0, .int .i64 0, .int .i64 0, .int .i64 0, .int .i64 0, .int .i64 0] 24) = W at *
  have hsz : W.heap.size = w.heap.size + 3 := by rw [← hW]; simp
  have hall : W.cell? ⟨w.heap.size, 0, none⟩ = some (.int .i64 a) ∧ W.cell? ⟨w.heap.size, 1, none⟩ = some (.int .i64 b) ∧ W.cell? ⟨w.heap.size, 2, none⟩ = some (.int .i64 c) ∧ W.cell? ⟨w.heap.size, 3, none⟩ = some (.int .i64 d) ∧ W.cell? ⟨w.heap.size, 4, none⟩ = some (.int .i64 e) ∧ W.cell? ⟨w.heap.size, 5, none⟩ = some (.int .i64 f) ∧ W.cell? ⟨w.heap.size + 1, 0, none⟩ = some (.int .i64 a') ∧ W.cell? ⟨w.heap.size + 1, 1, none⟩ = some (.int .i64 b') ∧ W.cell? ⟨w.heap.size + 1, 2, none⟩ = some (.int .i64 c') ∧ W.cell? ⟨w.heap.size + 1, 3, none⟩ = some (.int .i64 d') ∧ W.cell? ⟨w.heap.size + 1, 4, none⟩ = some (.int .i64 e') ∧ W.cell? ⟨w.heap.size + 1, 5, none⟩ = some (.int .i64 f') := by
    refine ⟨?_, ?_, ?_, ?_, ?_, ?_, ?_, ?_, ?_, ?_, ?_, ?_⟩
    all_goals (rw [← hW]; first | (rw [cells3a]; rfl) | (rw [cells3b]; rfl))
  have hz : ∀ j, j < 6 → W.cell? ⟨w.heap.size + 1 + 1, j, none⟩ = some (.int .i64 0) := fun j hj => by
    rw [← hW, cells3c]
    rcases (show j = 0 ∨ j = 1 ∨ j = 2 ∨ j = 3 ∨ j = 4 ∨ j = 5 by omega) with rfl | rfl | rfl | rfl | rfl | rfl <;> rfl
  have hf : ∀ j, W.frozen? ⟨w.heap.size + 1 + 1, j, none⟩ = false := fun j => by rw [← hW, cells3f]
  have HW0 : Hid (Kp w W) := by rw [← hW]; exact kp3 w _ _ _ _
  have hall1 := keep6 w.heap.size a b c d e f a' b' c' d' e' f' (by omega) k1 hall
  have hz1 := keepZ (w.heap.size + 1 + 1) (by omega) k1 hz hf
  have HK1 : Hid (Kp w w1) := Kp.trans HW0.out k1
  have ks1 := Kp.size k1
  clear hW hall k1 hz hf HW0
  obtain ⟨B, hB⟩ : ∃ B, w.heap.size = B := ⟨_, rfl⟩
  have HBw : Hid (w.heap.size ≤ B + 1 + 1) := (show _ ≤ _ by omega)
  rw [hB] at hsz hall1 hz1 ⊢
  clear hB
  obtain ⟨h0, h1, h2, h3, h4, h5, g0, g1, g2, g3, g4, g5⟩ := hall1
  go_wp2_with fail
  refine (HGB.out _).mono ?_; rintro x w2 ⟨rfl, k2⟩
  have hall2 := keep6 B a b c d e f a' b' c' d' e' f' (by omega) k2 ⟨h0, h1, h2, h3, h4, h5, g0, g1, g2, g3, g4, g5⟩
  obtain ⟨hz2, hf2⟩ := keepZ (B + 1 + 1) (by omega) k2 hz1.1 hz1.2
  have ks2 := Kp.size k2
  have HK2 : Hid (Kp w w2) := Kp.trans HK1.out k2
  have HB2 : Hid (B + 1 + 1 < w2.heap.size) := (show _ < _ by omega)
  clear k2 h0 h1 h2 h3 h4 h5 g0 g1 g2 g3 g4 g5 hz1 HK1
  obtain ⟨h0, h1, h2, h3, h4, h5, g0, g1, g2, g3, g4, g5⟩ := hall2
  clear hsz ks1 ks2
  go_wp2_with fail
  refine (HM.out _).mono ?_; rintro x w3 ⟨rfl, k3⟩
  obtain ⟨hz3, hf3⟩ := keepZ (B + 1 + 1) HB2.out k3 hz2 hf2
  have HB3 : Hid (B + 1 + 1 < w3.heap.size) := (show _ < _ by have := Kp.size k3; have := HB2.out; omega)
  have HK3 : Hid (Kp w w3) := Kp.trans HK2.out k3
  clear k3 hz2 hf2 h0 h1 h2 h3 h4 h5 g0 g1 g2 g3 g4 g5 HB2 HK2
  obtain ⟨w4, hw4⟩ : ∃ w4, w3.alloc (.cells #[.int .i64 x0, .int .i64 x1, .int .i64 x2, .int .i64 x3, .int .i64 x4, .int .i64 x5] 24) = w4 := ⟨_, rfl⟩
  have m3 : ∀ o, w4.cell? ⟨w3.heap.size, o, none⟩ = (#[.int .i64 x0, .int .i64 x1, .int .i64 x2, .int .i64 x3, .int .i64 x4, .int .i64 x5] : Array Value)[o]? := fun o => by rw [← hw4]; exact World.cell?_alloc_at _ _ _ _ rfl
  have k4 : Kp w3 w4 := by rw [← hw4]; exact (Kp.refl w3).alloc _ _
  obtain ⟨hz4, hf4⟩ := keepZ (B + 1 + 1) HB3.out k4 hz3 hf3
  have HB4 : Hid (B + 1 + 1 < w4.heap.size) := (show _ < _ by have := Kp.size k4; have := HB3.out; omega)
  have HK4 : Hid (Kp w w4) := Kp.trans HK3.out k4
  have m0 : w4.cell? ⟨w3.heap.size, 0, none⟩ = some (.int .i64 x0) := m3 0
  have m1 : w4.cell? ⟨w3.heap.size, 1, none⟩ = some (.int .i64 x1) := m3 1
  have m2 : w4.cell? ⟨w3.heap.size, 2, none⟩ = some (.int .i64 x2) := m3 2
  have m3' : w4.cell? ⟨w3.heap.size, 3, none⟩ = some (.int .i64 x3) := m3 3
  have m4 : w4.cell? ⟨w3.heap.size, 4, none⟩ = some (.int .i64 x4) := m3 4
  have m5 : w4.cell? ⟨w3.heap.size, 5, none⟩ = some (.int .i64 x5) := m3 5
  have HN4 : Hid (w3.heap.size < w4.heap.size) := World.block_lt_of_cell? w4 ⟨w3.heap.size, 0, none⟩ m0
  clear m3 k4 HK3 HB3
  go_wp2_with fail
  refine (HGM.out _).mono ?_; rintro x w5 ⟨rfl, k5⟩
  have kc := (Kp.cells k5).1
  have n0 := (kc _ 0 HN4.out).trans m0
  have n1 := (kc _ 1 HN4.out).trans m1
  have n2 := (kc _ 2 HN4.out).trans m2
  have n3 := (kc _ 3 HN4.out).trans m3'
  have n4 := (kc _ 4 HN4.out).trans m4
  have n5 := (kc _ 5 HN4.out).trans m5
  obtain ⟨hz, hf⟩ := keepZ (B + 1 + 1) HB4.out k5 hz4 hf4
  have HK5 : Hid (Kp w w5) := Kp.trans HK4.out k5
  clear k5 kc m0 m1 m2 m3' m4 m5 hz3 hf3 hz4 hf4 hw4
  go_wp2
  obtain ⟨y0, y1, y2, y3, y4, y5⟩ := six_set w5 (B + 1 + 1) (.int .i64 0) (.int .i64 0) (.int .i64 0) (.int .i64 0) (.int .i64 0) (.int .i64 0) hz
  refine bodyPost_ret (v := .tuple #[affV 0 0 0 0 0 0, .bool false]) (by simp [results, Tryz.results6, go_sem, y0, y1, y2, y3, y4, y5]) rfl ⟨rfl, ?_⟩
  exact (((((HK5.out.setCell HBw.out _).setCell HBw.out _).setCell HBw.out _).setCell HBw.out _).setCell HBw.out _).setCell HBw.out _
end Go.Proofs.YtpfhnedklihdoaaGreatDoor
namespace Go.Proofs.YtpfhnedklihdoaaGreatDoor
open Go.ChangeShapes Go.WideShapes Go.ChangeAt Go.RowKit
set_option linter.unusedVariables false

/-- Six numbers and whether they are told. -/
structure MR where
  x0 : Int
  x1 : Int
  x2 : Int
  x3 : Int
  x4 : Int
  x5 : Int
  ok : Bool
def MR.v (r : MR) : Value := .tuple #[affV r.x0 r.x1 r.x2 r.x3 r.x4 r.x5, .bool r.ok]
/-- One answer of both. -/
theorem mul_both (a b c d e f a' b' c' d' e' f' : Int) : ∃ r : MR, (∀ w, Calls Tryz.prog 6 #[affV a b c d e f, affV a' b' c' d' e' f'] w fun x w' => x = .returned r.v ∧ Kp w w') ∧ (∀ w, Calls Tryz.prog 5 #[affV a b c d e f, affV a' b' c' d' e' f'] w fun x w' => x = .returned r.v ∧ Kp w w') := by
  by_cases hbad : gA a b c d e f = false ∨ gA a' b' c' d' e' f' = false
  · exact ⟨⟨0, 0, 0, 0, 0, 0, false⟩, fun w => smul_bad w a b c d e f a' b' c' d' e' f' hbad, fun w => imul_bad w a b c d e f a' b' c' d' e' f' hbad⟩
  · have hA : gA a b c d e f = true := by cases h : gA a b c d e f with | true => rfl | false => exact absurd (Or.inl h) hbad
    have hB : gA a' b' c' d' e' f' = true := by cases h : gA a' b' c' d' e' f' with | true => rfl | false => exact absurd (Or.inr h) hbad
    have hm : ∃ m : Int → Int → Int, (∀ x y w, Calls Tryz.prog 31 #[.int .i64 x, .int .i64 y] w fun e w' => e = .returned (.int .i64 (m x y)) ∧ Kp w w') ∧ (∀ x y w, Calls Tryz.prog 14 #[.int .i64 x, .int .i64 y] w fun e w' => e = .returned (.int .i64 (m x y)) ∧ w' = w) :=
      ⟨fun x y => Classical.choose (fixMul_both x y), fun x y w => (Classical.choose_spec (fixMul_both x y)).1 w, fun x y w => (Classical.choose_spec (fixMul_both x y)).2 w⟩
    obtain ⟨m, hS, hI⟩ := hm
    have HM := fun w => sl7mul w a b c d e f a' b' c' d' e' f' m hS
    unfold mulV at HM
    obtain ⟨x0, hx0⟩ : ∃ x0, IntKind.i64.wrap (m a a' + m c b') = x0 := ⟨_, rfl⟩
    obtain ⟨x1, hx1⟩ : ∃ x1, IntKind.i64.wrap (m b a' + m d b') = x1 := ⟨_, rfl⟩
    obtain ⟨x2, hx2⟩ : ∃ x2, IntKind.i64.wrap (m a c' + m c d') = x2 := ⟨_, rfl⟩
    obtain ⟨x3, hx3⟩ : ∃ x3, IntKind.i64.wrap (m b c' + m d d') = x3 := ⟨_, rfl⟩
    obtain ⟨x4, hx4⟩ : ∃ x4, IntKind.i64.wrap (IntKind.i64.wrap (m a e' + m c f') + e) = x4 := ⟨_, rfl⟩
    obtain ⟨x5, hx5⟩ : ∃ x5, IntKind.i64.wrap (IntKind.i64.wrap (m b e' + m d f') + f) = x5 := ⟨_, rfl⟩
    rw [hx0, hx1, hx2, hx3, hx4, hx5] at HM
    cases hg : gA x0 x1 x2 x3 x4 x5 with
    | true => exact ⟨⟨x0, x1, x2, x3, x4, x5, true⟩, fun w => smul_yes w a b c d e f a' b' c' d' e' f' x0 x1 x2 x3 x4 x5 HM hg hA hB, fun w => imul_yes w a b c d e f a' b' c' d' e' f' m x0 x1 x2 x3 x4 x5 hx0 hx1 hx2 hx3 hx4 hx5 hg hA hB hI⟩
    | false => exact ⟨⟨0, 0, 0, 0, 0, 0, false⟩, fun w => smul_no w a b c d e f a' b' c' d' e' f' x0 x1 x2 x3 x4 x5 HM hg hA hB, fun w => imul_no w a b c d e f a' b' c' d' e' f' m x0 x1 x2 x3 x4 x5 hx0 hx1 hx2 hx3 hx4 hx5 hg hA hB hI⟩
end Go.Proofs.YtpfhnedklihdoaaGreatDoor
namespace Go.Proofs.YtpfhnedklihdoaaGreatDoor
open Go.ChangeShapes Go.WideShapes Go.ChangeAt Go.RowKit
set_option linter.unusedVariables false

theorem fmV_one2 {x : Int} (h : fixB x = true) : fmV x 65536 = x := by
  unfold fmV
  rw [if_pos ⟨h, by decide⟩]
  have := fixB_iff.1 h
  unfold cutM
  omega
theorem fmV_zero2 (x : Int) : fmV x 0 = 0 := by
  unfold fmV
  split
  · rw [Int.mul_zero]; decide
  · rfl
theorem gA_iff {a b c d e f : Int} (h : gA a b c d e f = true) : (-4294967296 ≤ a ∧ a ≤ 4294967296) ∧ (-4294967296 ≤ b ∧ b ≤ 4294967296) ∧ (-4294967296 ≤ c ∧ c ≤ 4294967296) ∧ (-4294967296 ≤ d ∧ d ≤ 4294967296) ∧ (-4294967296 ≤ e ∧ e ≤ 4294967296) ∧ (-4294967296 ≤ f ∧ f ≤ 4294967296) := by
  unfold gA at h
  have h' := List.all_eq_true.1 h
  have k := fun i (hi : i < 6) => h' i (List.mem_range.2 hi)
  have h0 := k 0 (by omega)
  have h1 := k 1 (by omega)
  have h2 := k 2 (by omega)
  have h3 := k 3 (by omega)
  have h4 := k 4 (by omega)
  have h5 := k 5 (by omega)
  simp [el, inR] at h0 h1 h2 h3 h4 h5
  exact ⟨h0, h1, h2, h3, h4, h5⟩
theorem wr_id (x : Int) (h1 : -4294967296 ≤ x) (h2 : x ≤ 4294967296) : IntKind.i64.wrap x = x := IntWalk.i64_in _ ⟨by omega, by omega⟩
theorem fixB_of {x : Int} (h1 : -4294967296 ≤ x) (h2 : x ≤ 4294967296) : fixB x = true := fixB_iff.2 ⟨by omega, by omega⟩
/-- MulAffine of a good affine and the one that does nothing. -/
theorem mul_idR (a b c d e f : Int) : ∃ r : MR, (∀ w, Calls Tryz.prog 5 #[affV a b c d e f, affV 65536 0 0 65536 0 0] w fun x w' => x = .returned r.v ∧ Kp w w') ∧ (gA a b c d e f = true → r = ⟨a, b, c, d, e, f, true⟩) := by
  cases hg : gA a b c d e f with
  | false =>
    obtain ⟨r, _, h⟩ := mul_both a b c d e f 65536 0 0 65536 0 0
    exact ⟨r, h, fun h => by cases h⟩
  | true =>
    obtain ⟨⟨a1, a2⟩, ⟨b1, b2⟩, ⟨c1, c2⟩, ⟨d1, d2⟩, ⟨e1, e2⟩, ⟨f1, f2⟩⟩ := gA_iff hg
    refine ⟨⟨a, b, c, d, e, f, true⟩, fun w => ?_, fun _ => rfl⟩
    refine imul_yes w a b c d e f 65536 0 0 65536 0 0 fmV a b c d e f ?_ ?_ ?_ ?_ ?_ ?_ hg hg (by decide) ifm
    all_goals
      simp only [fmV_zero2, fmV_one2 (fixB_of a1 a2), fmV_one2 (fixB_of b1 b2), fmV_one2 (fixB_of c1 c2), fmV_one2 (fixB_of d1 d2), Int.add_zero, Int.zero_add]
      first
        | exact wr_id _ (by omega) (by omega)
        | (rw [wr_id 0 (by omega) (by omega), Int.zero_add]; exact wr_id _ (by omega) (by omega))
theorem mul_idL (a b c d e f : Int) : ∃ r : MR, (∀ w, Calls Tryz.prog 5 #[affV 65536 0 0 65536 0 0, affV a b c d e f] w fun x w' => x = .returned r.v ∧ Kp w w') ∧ (gA a b c d e f = true → r = ⟨a, b, c, d, e, f, true⟩) := by
  cases hg : gA a b c d e f with
  | false =>
    obtain ⟨r, _, h⟩ := mul_both 65536 0 0 65536 0 0 a b c d e f
    exact ⟨r, h, fun h => by cases h⟩
  | true =>
    obtain ⟨⟨a1, a2⟩, ⟨b1, b2⟩, ⟨c1, c2⟩, ⟨d1, d2⟩, ⟨e1, e2⟩, ⟨f1, f2⟩⟩ := gA_iff hg
    refine ⟨⟨a, b, c, d, e, f, true⟩, fun w => ?_, fun _ => rfl⟩
    refine imul_yes w 65536 0 0 65536 0 0 a b c d e f fmV a b c d e f ?_ ?_ ?_ ?_ ?_ ?_ hg (by decide) hg ifm
    all_goals
      simp only [fmV_zero, fmV_one (fixB_of a1 a2), fmV_one (fixB_of b1 b2), fmV_one (fixB_of c1 c2), fmV_one (fixB_of d1 d2), fmV_one (fixB_of e1 e2), fmV_one (fixB_of f1 f2), Int.add_zero, Int.zero_add]
      first
        | exact wr_id _ (by omega) (by omega)
        | (rw [wr_id e e1 e2, Int.add_zero]; exact wr_id _ (by omega) (by omega))
        | (rw [wr_id f f1 f2, Int.add_zero]; exact wr_id _ (by omega) (by omega))
        | (rw [wr_id e e1 e2]; exact wr_id _ (by omega) (by omega))
        | (rw [wr_id f f1 f2]; exact wr_id _ (by omega) (by omega))
theorem nw_drewN4 (w : World) (n : Nat) : Nw w (w.drewN n) := ⟨rfl, rfl, rfl, Nat.le_refl _, fun _ _ => rfl⟩
set_option maxHeartbeats 4000000 in
theorem sameInts_any (w : World) (a1 a2 : Option Addr) (c1 c2 : Nat) (l : List Int) (hl : l.length ≤ 1048576) (h1 : Nms w a1 l) (h2 : Nms w a2 l) :
    Calls Tryz.prog 11 #[.slice a1 l.length c1, .slice a2 l.length c2] w fun e w' => e = .returned (.bool true) ∧ ∃ n, w' = w.drewN n := by
  have H1 : Hid (Nms w a1 l) := h1
  have H2 : Hid (Nms w a2 l) := h2
  clear h1 h2
  go_enter Tryz.func11, Tryz.ntmps11
  go_wp2
  go_loopw [13] (fun i wr => ∃ k n : Nat, k ≤ l.length ∧ i = .int .i64 k ∧ wr = w.drewN n) (fun i _ => l.length - (intOf i).toNat)
  case atStart => exact ⟨0, 0, Nat.zero_le _, rfl, rfl⟩
  case round =>
    obtain ⟨k, n, hk, rfl, rfl⟩ := hrel
    by_cases hlt : k < l.length
    · obtain ⟨b1, e1, hb1, q1⟩ := H1.out k hlt
      obtain ⟨b2, e2, hb2, q2⟩ := H2.out k hlt
      subst e1 e2
      have i1 : (0 : Int) ≤ (k : Int) := by omega
      have i2 : (k : Int) < (l.length : Int) := by omega
      go_wp2_with fail
      go_quiet (fail)
      go_wp2
      go_roundw
      case rel => exact ⟨k + 1, _, by omega, by go_num, rfl⟩
      case measure => simp [intOf]; omega
    · go_wp2
      go_ret
      exact ⟨rfl, _, rfl⟩
end Go.Proofs.YtpfhnedklihdoaaGreatDoor
namespace Go.Proofs.YtpfhnedklihdoaaGreatDoor
open Go.ChangeShapes Go.WideShapes Go.ChangeAt Go.RowKit
set_option linter.unusedVariables false

theorem handed_shaped {H : Type} {enc : TypeId × Value → H} {a : Assume} {C : Checked} {os : Os} {f : FuncId} {fn : Func} {s : ChangeSpec} {conds : List PathCond} {apart fresh handsOn again : Bool} {X : World → Array Value → Prop}
    (hX : ∀ (w w' : World) (args : Array Value), w.heap = w'.heap → X w args → X w' args)
    (own : ownKnob C.prog.godebug = none) (started : os.Started) (noInit : C.prog.inits.idxOf? f = none) (hfn : C.prog.funcs[f]? = some fn)
    (witness : ∃ (w : World) (tape : Tape) (i : Input), w.os = os ∧ (w.forCall tape i).Shaped C.prog ∧ i.vars = [] ∧ Input.okWide C.prog (w.forCall tape i) .any w.heap.size f i ∧
      ((s.pre enc C.prog fn conds apart (w.forCall tape i).memory i.args ∧ X (w.forCall tape i).memory i.args) ∧ sizedMet enc C.prog fn (OpenSpec.ofChange s) apart (w.forCall tape i).memory i.args) ∧ a.holds C.prog (lone (Frame.enter C.prog f i.args .normal) [] (w.forCall tape i)))
    (contract : ∀ (W : World) (base : Nat) (args : Array Value) (ds gs : List (DataW H)) (before : List MemPlace),
      (∀ (j : Nat) t v, fn.params[j]? = some t → args[j]? = some v → Value.okWide C.prog W .any base t v) →
      DataW.Whole enc C.prog fn.params.toList s.vars apart W args.toList ds gs before →
      conds.all (PathCond.test C.prog ⟨fn.params.toList, ds, s.plain.varTypes C.prog, gs⟩) = true →
      (DataW.weightsEach C.prog (fn.params.toList ++ s.plain.varTypes C.prog) (ds ++ gs)).all (· ≤ reachBytes) = true → X W args →
      W.ShapedOpen C.prog →
      a.holds C.prog (lone (Frame.enter C.prog f args .normal) [] W) →
      Calls C.prog f args W fun e W' => ∃ v, e = .returned v ∧ s.post enc C.prog fn apart fresh handsOn again W args v W') :
    ReturnsInHanded a C os f .any (fun w args => (s.pre enc C.prog fn conds apart w args ∧ X w args) ∧ sizedMet enc C.prog fn (OpenSpec.ofChange s) apart w args) (s.post enc C.prog fn apart fresh handsOn again) := by
  refine returnsInHanded_of_calls own started noInit witness fun w tape i _ hsh _ hok hpre hh => ?_
  obtain ⟨_, _, _, fn2, hfn2, _, _, _, _, hval⟩ := hok
  obtain rfl : fn2 = fn := Option.some.inj (hfn2.symm.trans hfn)
  obtain ⟨⟨⟨ds, gs, bf, hw, hc⟩, hx⟩, hz⟩ := hpre
  have call := contract (w.forCall tape i) w.heap.size i.args ds gs bf hval (DataW.Whole.of_heap (w' := w.forCall tape i) (by rfl) hw) hc (hz.weights hw) (hX _ _ _ (by rfl) hx) hsh hh
  refine call.mono fun e W' ⟨v, he, hp⟩ => ?_
  subst he
  exact ChangeSpec.post_blind hp
end Go.Proofs.YtpfhnedklihdoaaGreatDoor
