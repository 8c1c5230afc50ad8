/-
  MulAffine of both where an argument is not good, and of the specification where both are; no condition.
-/
import Derived.Test.YtfodmjdhpolnkaaAfMulS
namespace Go.Proofs.Ytfodmjdhpolnkaa
open Go.ChangeShapes Go.WideShapes Go.ChangeAt Go.RowKit
set_option linter.unusedVariables false

set_option maxHeartbeats 2000000 in
theorem imul_bad (w : World) (a b c d e f a' b' c' d' e' f' : Int) (h : gA a b c d e f = false ∨ gA a' b' c' d' e' f' = false) : Calls Try.prog 7 #[affV a b c d e f, affV a' b' c' d' e' f'] w fun x w' => x = .returned (.tuple #[affV 0 0 0 0 0 0, .bool false]) ∧ Kp w w' := by
  have HGA : Hid _ := fun w => igoodAff w a b c d e f
  have HGB : Hid _ := fun w => igoodAff w a' b' c' d' e' f'
  cases hA : gA a b c d e f with
  | false =>
    rw [hA] at HGA
    clear h hA
    unfold affV at *
    go_enter Try.func7, Try.ntmps7
    go_wp2_with fail
    refine (HGA.out _).mono ?_; rintro x w1 ⟨rfl, k1⟩
    generalize hW : ((w.alloc (.cells #[.int .i64 a, .int .i64 b, .int .i64 c, .int .i64 d, .int .i64 e, .int .i64 f] 24)).alloc (.cells #[.int .i64 a', .int .i64 b', .int .i64 c', .int .i64 d', .int .i64 e', .int .i64 f'] 24)).alloc (.cells #[.int .i64 0, .int .i64 0, .int .i64 0, .int .i64 0, .int .i64 0, .int .i64 0] 24) = W at *
    have hsz : W.heap.size = w.heap.size + 3 := by rw [← hW]; simp
    have hall : W.cell? ⟨w.heap.size, 0, none⟩ = some (.int .i64 a) ∧ W.cell? ⟨w.heap.size, 1, none⟩ = some (.int .i64 b) ∧ W.cell? ⟨w.heap.size, 2, none⟩ = some (.int .i64 c) ∧ W.cell? ⟨w.heap.size, 3, none⟩ = some (.int .i64 d) ∧ W.cell? ⟨w.heap.size, 4, none⟩ = some (.int .i64 e) ∧ W.cell? ⟨w.heap.size, 5, none⟩ = some (.int .i64 f) ∧ W.cell? ⟨w.heap.size + 1, 0, none⟩ = some (.int .i64 a') ∧ W.cell? ⟨w.heap.size + 1, 1, none⟩ = some (.int .i64 b') ∧ W.cell? ⟨w.heap.size + 1, 2, none⟩ = some (.int .i64 c') ∧ W.cell? ⟨w.heap.size + 1, 3, none⟩ = some (.int .i64 d') ∧ W.cell? ⟨w.heap.size + 1, 4, none⟩ = some (.int .i64 e') ∧ W.cell? ⟨w.heap.size + 1, 5, none⟩ = some (.int .i64 f') := by
      refine ⟨?_, ?_, ?_, ?_, ?_, ?_, ?_, ?_, ?_, ?_, ?_, ?_⟩
      all_goals (rw [← hW]; first | (rw [cells3a]; rfl) | (rw [cells3b]; rfl))
    have hz : ∀ j, j < 6 → W.cell? ⟨w.heap.size + 1 + 1, j, none⟩ = some (.int .i64 0) := fun j hj => by
      rw [← hW, cells3c]
      rcases (show j = 0 ∨ j = 1 ∨ j = 2 ∨ j = 3 ∨ j = 4 ∨ j = 5 by omega) with rfl | rfl | rfl | rfl | rfl | rfl <;> rfl
    have hf : ∀ j, W.frozen? ⟨w.heap.size + 1 + 1, j, none⟩ = false := fun j => by rw [← hW, cells3f]
    have HW0 : Hid (Kp w W) := by rw [← hW]; exact kp3 w _ _ _ _
    have hall1 := keep6 w.heap.size a b c d e f a' b' c' d' e' f' (by omega) k1 hall
    have hz1 := keepZ (w.heap.size + 1 + 1) (by omega) k1 hz hf
    have HK1 : Hid (Kp w w1) := Kp.trans HW0.out k1
    have ks1 := Kp.size k1
    clear hW hall k1 hz hf HW0
    obtain ⟨B, hB⟩ : ∃ B, w.heap.size = B := ⟨_, rfl⟩
    have HBw : Hid (w.heap.size ≤ B + 1 + 1) := (show _ ≤ _ by omega)
    rw [hB] at hsz hall1 hz1 ⊢
    clear hB
    obtain ⟨h0, h1, h2, h3, h4, h5, g0, g1, g2, g3, g4, g5⟩ := hall1
    obtain ⟨hz, hf⟩ := hz1
    clear HGA HGB hsz ks1
    go_wp2
    obtain ⟨y0, y1, y2, y3, y4, y5⟩ := six_set w1 (B + 1 + 1) (.int .i64 0) (.int .i64 0) (.int .i64 0) (.int .i64 0) (.int .i64 0) (.int .i64 0) hz
    refine bodyPost_ret (v := .tuple #[affV 0 0 0 0 0 0, .bool false]) (by simp [results, Try.results7, go_sem, y0, y1, y2, y3, y4, y5]) rfl ⟨rfl, ?_⟩
    exact (((((HK1.out.setCell HBw.out _).setCell HBw.out _).setCell HBw.out _).setCell HBw.out _).setCell HBw.out _).setCell HBw.out _
  | true =>
    have hB' : gA a' b' c' d' e' f' = false := by rcases h with h | h; rw [hA] at h; cases h; exact h
    rw [hA] at HGA
    rw [hB'] at HGB
    clear h hA hB'
    unfold affV at *
    go_enter Try.func7, Try.ntmps7
    go_wp2_with fail
    refine (HGA.out _).mono ?_; rintro x w1 ⟨rfl, k1⟩
    generalize hW : ((w.alloc (.cells #[.int .i64 a, .int .i64 b, .int .i64 c, .int .i64 d, .int .i64 e, .int .i64 f] 24)).alloc (.cells #[.int .i64 a', .int .i64 b', .int .i64 c', .int .i64 d', .int .i64 e', .int .i64 f'] 24)).alloc (.cells #[.int .i64 0, .int .i64 0, .int .i64 0, .int .i64 0, .int .i64 0, .int .i64 0] 24) = W at *
    have hsz : W.heap.size = w.heap.size + 3 := by rw [← hW]; simp
    have hall : W.cell? ⟨w.heap.size, 0, none⟩ = some (.int .i64 a) ∧ W.cell? ⟨w.heap.size, 1, none⟩ = some (.int .i64 b) ∧ W.cell? ⟨w.heap.size, 2, none⟩ = some (.int .i64 c) ∧ W.cell? ⟨w.heap.size, 3, none⟩ = some (.int .i64 d) ∧ W.cell? ⟨w.heap.size, 4, none⟩ = some (.int .i64 e) ∧ W.cell? ⟨w.heap.size, 5, none⟩ = some (.int .i64 f) ∧ W.cell? ⟨w.heap.size + 1, 0, none⟩ = some (.int .i64 a') ∧ W.cell? ⟨w.heap.size + 1, 1, none⟩ = some (.int .i64 b') ∧ W.cell? ⟨w.heap.size + 1, 2, none⟩ = some (.int .i64 c') ∧ W.cell? ⟨w.heap.size + 1, 3, none⟩ = some (.int .i64 d') ∧ W.cell? ⟨w.heap.size + 1, 4, none⟩ = some (.int .i64 e') ∧ W.cell? ⟨w.heap.size + 1, 5, none⟩ = some (.int .i64 f') := by
      refine ⟨?_, ?_, ?_, ?_, ?_, ?_, ?_, ?_, ?_, ?_, ?_, ?_⟩
      all_goals (rw [← hW]; first | (rw [cells3a]; rfl) | (rw [cells3b]; rfl))
    have hz : ∀ j, j < 6 → W.cell? ⟨w.heap.size + 1 + 1, j, none⟩ = some (.int .i64 0) := fun j hj => by
      rw [← hW, cells3c]
      rcases (show j = 0 ∨ j = 1 ∨ j = 2 ∨ j = 3 ∨ j = 4 ∨ j = 5 by omega) with rfl | rfl | rfl | rfl | rfl | rfl <;> rfl
    have hf : ∀ j, W.frozen? ⟨w.heap.size + 1 + 1, j, none⟩ = false := fun j => by rw [← hW, cells3f]
    have HW0 : Hid (Kp w W) := by rw [← hW]; exact kp3 w _ _ _ _
    have hall1 := keep6 w.heap.size a b c d e f a' b' c' d' e' f' (by omega) k1 hall
    have hz1 := keepZ (w.heap.size + 1 + 1) (by omega) k1 hz hf
    have HK1 : Hid (Kp w w1) := Kp.trans HW0.out k1
    have ks1 := Kp.size k1
    clear hW hall k1 hz hf HW0
    obtain ⟨B, hB⟩ : ∃ B, w.heap.size = B := ⟨_, rfl⟩
    have HBw : Hid (w.heap.size ≤ B + 1 + 1) := (show _ ≤ _ by omega)
    rw [hB] at hsz hall1 hz1 ⊢
    clear hB
    obtain ⟨h0, h1, h2, h3, h4, h5, g0, g1, g2, g3, g4, g5⟩ := hall1
    go_wp2_with fail
    refine (HGB.out _).mono ?_; rintro x w2 ⟨rfl, k2⟩
    obtain ⟨hz, hf⟩ := keepZ (B + 1 + 1) (by omega) k2 hz1.1 hz1.2
    have HK2 : Hid (Kp w w2) := Kp.trans HK1.out k2
    clear k2 h0 h1 h2 h3 h4 h5 g0 g1 g2 g3 g4 g5 hz1 hsz ks1 HGA HGB
    go_wp2
    obtain ⟨y0, y1, y2, y3, y4, y5⟩ := six_set w2 (B + 1 + 1) (.int .i64 0) (.int .i64 0) (.int .i64 0) (.int .i64 0) (.int .i64 0) (.int .i64 0) hz
    refine bodyPost_ret (v := .tuple #[affV 0 0 0 0 0 0, .bool false]) (by simp [results, Try.results7, go_sem, y0, y1, y2, y3, y4, y5]) rfl ⟨rfl, ?_⟩
    exact (((((HK2.out.setCell HBw.out _).setCell HBw.out _).setCell HBw.out _).setCell HBw.out _).setCell HBw.out _).setCell HBw.out _
set_option maxHeartbeats 2000000 in
theorem smul_bad (w : World) (a b c d e f a' b' c' d' e' f' : Int) (h : gA a b c d e f = false ∨ gA a' b' c' d' e' f' = false) : Calls Try.prog 5 #[affV a b c d e f, affV a' b' c' d' e' f'] w fun x w' => x = .returned (.tuple #[affV 0 0 0 0 0 0, .bool false]) ∧ Kp w w' := by
  have HGA : Hid _ := fun w => sgoodAff w a b c d e f
  have HGB : Hid _ := fun w => sgoodAff w a' b' c' d' e' f'
  cases hA : gA a b c d e f with
  | false =>
    rw [hA] at HGA
    clear h hA
    unfold affV at *
    go_enter Try.func5, Try.ntmps5
    go_wp2_with fail
    refine (HGA.out _).mono ?_; rintro x w1 ⟨rfl, k1⟩
    generalize hW : ((w.alloc (.cells #[.int .i64 a, .int .i64 b, .int .i64 c, .int .i64 d, .int .i64 e, .int .i64 f] 24)).alloc (.cells #[.int .i64 a', .int .i64 b', .int .i64 c', .int .i64 d', .int .i64 e', .int .i64 f'] 24)).alloc (.cells #[.int .i64 0, .int .i64 0, .int .i64 0, .int .i64 0, .int .i64 0, .int .i64 0] 24) = W at *
    have hsz : W.heap.size = w.heap.size + 3 := by rw [← hW]; simp
    have hall : W.cell? ⟨w.heap.size, 0, none⟩ = some (.int .i64 a) ∧ W.cell? ⟨w.heap.size, 1, none⟩ = some (.int .i64 b) ∧ W.cell? ⟨w.heap.size, 2, none⟩ = some (.int .i64 c) ∧ W.cell? ⟨w.heap.size, 3, none⟩ = some (.int .i64 d) ∧ W.cell? ⟨w.heap.size, 4, none⟩ = some (.int .i64 e) ∧ W.cell? ⟨w.heap.size, 5, none⟩ = some (.int .i64 f) ∧ W.cell? ⟨w.heap.size + 1, 0, none⟩ = some (.int .i64 a') ∧ W.cell? ⟨w.heap.size + 1, 1, none⟩ = some (.int .i64 b') ∧ W.cell? ⟨w.heap.size + 1, 2, none⟩ = some (.int .i64 c') ∧ W.cell? ⟨w.heap.size + 1, 3, none⟩ = some (.int .i64 d') ∧ W.cell? ⟨w.heap.size + 1, 4, none⟩ = some (.int .i64 e') ∧ W.cell? ⟨w.heap.size + 1, 5, none⟩ = some (.int .i64 f') := by
      refine ⟨?_, ?_, ?_, ?_, ?_, ?_, ?_, ?_, ?_, ?_, ?_, ?_⟩
      all_goals (rw [← hW]; first | (rw [cells3a]; rfl) | (rw [cells3b]; rfl))
    have hz : ∀ j, j < 6 → W.cell? ⟨w.heap.size + 1 + 1, j, none⟩ = some (.int .i64 0) := fun j hj => by
      rw [← hW, cells3c]
      rcases (show j = 0 ∨ j = 1 ∨ j = 2 ∨ j = 3 ∨ j = 4 ∨ j = 5 by omega) with rfl | rfl | rfl | rfl | rfl | rfl <;> rfl
    have hf : ∀ j, W.frozen? ⟨w.heap.size + 1 + 1, j, none⟩ = false := fun j => by rw [← hW, cells3f]
    have HW0 : Hid (Kp w W) := by rw [← hW]; exact kp3 w _ _ _ _
    have hall1 := keep6 w.heap.size a b c d e f a' b' c' d' e' f' (by omega) k1 hall
    have hz1 := keepZ (w.heap.size + 1 + 1) (by omega) k1 hz hf
    have HK1 : Hid (Kp w w1) := Kp.trans HW0.out k1
    have ks1 := Kp.size k1
    clear hW hall k1 hz hf HW0
    obtain ⟨B, hB⟩ : ∃ B, w.heap.size = B := ⟨_, rfl⟩
    have HBw : Hid (w.heap.size ≤ B + 1 + 1) := (show _ ≤ _ by omega)
    rw [hB] at hsz hall1 hz1 ⊢
    clear hB
    obtain ⟨h0, h1, h2, h3, h4, h5, g0, g1, g2, g3, g4, g5⟩ := hall1
    obtain ⟨hz, hf⟩ := hz1
    clear HGA HGB hsz ks1
    go_wp2
    obtain ⟨y0, y1, y2, y3, y4, y5⟩ := six_set w1 (B + 1 + 1) (.int .i64 0) (.int .i64 0) (.int .i64 0) (.int .i64 0) (.int .i64 0) (.int .i64 0) hz
    refine bodyPost_ret (v := .tuple #[affV 0 0 0 0 0 0, .bool false]) (by simp [results, Try.results5, go_sem, y0, y1, y2, y3, y4, y5]) rfl ⟨rfl, ?_⟩
    exact (((((HK1.out.setCell HBw.out _).setCell HBw.out _).setCell HBw.out _).setCell HBw.out _).setCell HBw.out _).setCell HBw.out _
  | true =>
    have hB' : gA a' b' c' d' e' f' = false := by rcases h with h | h; rw [hA] at h; cases h; exact h
    rw [hA] at HGA
    rw [hB'] at HGB
    clear h hA hB'
    unfold affV at *
    go_enter Try.func5, Try.ntmps5
    go_wp2_with fail
    refine (HGA.out _).mono ?_; rintro x w1 ⟨rfl, k1⟩
    generalize hW : ((w.alloc (.cells #[.int .i64 a, .int .i64 b, .int .i64 c, .int .i64 d, .int .i64 e, .int .i64 f] 24)).alloc (.cells #[.int .i64 a', .int .i64 b', .int .i64 c', .int .i64 d', .int .i64 e', .int .i64 f'] 24)).alloc (.cells #[.int .i64 0, .int .i64 0, .int .i64 0, .int .i64 0, .int .i64 0, .int .i64 0] 24) = W at *
    have hsz : W.heap.size = w.heap.size + 3 := by rw [← hW]; simp
    have hall : W.cell? ⟨w.heap.size, 0, none⟩ = some (.int .i64 a) ∧ W.cell? ⟨w.heap.size, 1, none⟩ = some (.int .i64 b) ∧ W.cell? ⟨w.heap.size, 2, none⟩ = some (.int .i64 c) ∧ W.cell? ⟨w.heap.size, 3, none⟩ = some (.int .i64 d) ∧ W.cell? ⟨w.heap.size, 4, none⟩ = some (.int .i64 e) ∧ W.cell? ⟨w.heap.size, 5, none⟩ = some (.int .i64 f) ∧ W.cell? ⟨w.heap.size + 1, 0, none⟩ = some (.int .i64 a') ∧ W.cell? ⟨w.heap.size + 1, 1, none⟩ = some (.int .i64 b') ∧ W.cell? ⟨w.heap.size + 1, 2, none⟩ = some (.int .i64 c') ∧ W.cell? ⟨w.heap.size + 1, 3, none⟩ = some (.int .i64 d') ∧ W.cell? ⟨w.heap.size + 1, 4, none⟩ = some (.int .i64 e') ∧ W.cell? ⟨w.heap.size + 1, 5, none⟩ = some (.int .i64 f') := by
      refine ⟨?_, ?_, ?_, ?_, ?_, ?_, ?_, ?_, ?_, ?_, ?_, ?_⟩
      all_goals (rw [← hW]; first | (rw [cells3a]; rfl) | (rw [cells3b]; rfl))
    have hz : ∀ j, j < 6 → W.cell? ⟨w.heap.size + 1 + 1, j, none⟩ = some (.int .i64 0) := fun j hj => by
      rw [← hW, cells3c]
      rcases (show j = 0 ∨ j = 1 ∨ j = 2 ∨ j = 3 ∨ j = 4 ∨ j = 5 by omega) with rfl | rfl | rfl | rfl | rfl | rfl <;> rfl
    have hf : ∀ j, W.frozen? ⟨w.heap.size + 1 + 1, j, none⟩ = false := fun j => by rw [← hW, cells3f]
    have HW0 : Hid (Kp w W) := by rw [← hW]; exact kp3 w _ _ _ _
    have hall1 := keep6 w.heap.size a b c d e f a' b' c' d' e' f' (by omega) k1 hall
    have hz1 := keepZ (w.heap.size + 1 + 1) (by omega) k1 hz hf
    have HK1 : Hid (Kp w w1) := Kp.trans HW0.out k1
    have ks1 := Kp.size k1
    clear hW hall k1 hz hf HW0
    obtain ⟨B, hB⟩ : ∃ B, w.heap.size = B := ⟨_, rfl⟩
    have HBw : Hid (w.heap.size ≤ B + 1 + 1) := (show _ ≤ _ by omega)
    rw [hB] at hsz hall1 hz1 ⊢
    clear hB
    obtain ⟨h0, h1, h2, h3, h4, h5, g0, g1, g2, g3, g4, g5⟩ := hall1
    go_wp2_with fail
    refine (HGB.out _).mono ?_; rintro x w2 ⟨rfl, k2⟩
    obtain ⟨hz, hf⟩ := keepZ (B + 1 + 1) (by omega) k2 hz1.1 hz1.2
    have HK2 : Hid (Kp w w2) := Kp.trans HK1.out k2
    clear k2 h0 h1 h2 h3 h4 h5 g0 g1 g2 g3 g4 g5 hz1 hsz ks1 HGA HGB
    go_wp2
    obtain ⟨y0, y1, y2, y3, y4, y5⟩ := six_set w2 (B + 1 + 1) (.int .i64 0) (.int .i64 0) (.int .i64 0) (.int .i64 0) (.int .i64 0) (.int .i64 0) hz
    refine bodyPost_ret (v := .tuple #[affV 0 0 0 0 0 0, .bool false]) (by simp [results, Try.results5, go_sem, y0, y1, y2, y3, y4, y5]) rfl ⟨rfl, ?_⟩
    exact (((((HK2.out.setCell HBw.out _).setCell HBw.out _).setCell HBw.out _).setCell HBw.out _).setCell HBw.out _).setCell HBw.out _
set_option maxHeartbeats 2000000 in
theorem smul_yes (w : World) (a b c d e f a' b' c' d' e' f' x0 x1 x2 x3 x4 x5 : Int) (HM : Hid (∀ w, Calls Try.prog 11 #[affV a b c d e f, affV a' b' c' d' e' f'] w fun x w' => x = .returned (affV x0 x1 x2 x3 x4 x5) ∧ Kp w w')) (hgm : gA x0 x1 x2 x3 x4 x5 = true) (hgA : gA a b c d e f = true) (hgB : gA a' b' c' d' e' f' = true) :
    Calls Try.prog 5 #[affV a b c d e f, affV a' b' c' d' e' f'] w fun x w' => x = .returned (.tuple #[affV x0 x1 x2 x3 x4 x5, .bool true]) ∧ Kp w w' := by
  have HGA : Hid _ := fun w => sgoodAff w a b c d e f
  have HGB : Hid _ := fun w => sgoodAff w a' b' c' d' e' f'
  have HGM : Hid _ := fun w => sgoodAff w x0 x1 x2 x3 x4 x5
  rw [hgA] at HGA
  rw [hgB] at HGB
  rw [hgm] at HGM
  clear hgA hgB hgm
  unfold affV at *
  go_enter Try.func5, Try.ntmps5
  go_wp2_with fail
  refine (HGA.out _).mono ?_; rintro x w1 ⟨rfl, k1⟩
  generalize hW : ((w.alloc (.cells #[.int .i64 a, .int .i64 b, .int .i64 c, .int .i64 d, .int .i64 e, .int .i64 f] 24)).alloc (.cells #[.int .i64 a', .int .i64 b', .int .i64 c', .int .i64 d', .int .i64 e', .int .i64 f'] 24)).alloc (.cells #[.int .i64 0, .int .i64 0, .int .i64 0, .int .i64 0, .int .i64 0, .int .i64 0] 24) = W at *
  have hsz : W.heap.size = w.heap.size + 3 := by rw [← hW]; simp
  have hall : W.cell? ⟨w.heap.size, 0, none⟩ = some (.int .i64 a) ∧ W.cell? ⟨w.heap.size, 1, none⟩ = some (.int .i64 b) ∧ W.cell? ⟨w.heap.size, 2, none⟩ = some (.int .i64 c) ∧ W.cell? ⟨w.heap.size, 3, none⟩ = some (.int .i64 d) ∧ W.cell? ⟨w.heap.size, 4, none⟩ = some (.int .i64 e) ∧ W.cell? ⟨w.heap.size, 5, none⟩ = some (.int .i64 f) ∧ W.cell? ⟨w.heap.size + 1, 0, none⟩ = some (.int .i64 a') ∧ W.cell? ⟨w.heap.size + 1, 1, none⟩ = some (.int .i64 b') ∧ W.cell? ⟨w.heap.size + 1, 2, none⟩ = some (.int .i64 c') ∧ W.cell? ⟨w.heap.size + 1, 3, none⟩ = some (.int .i64 d') ∧ W.cell? ⟨w.heap.size + 1, 4, none⟩ = some (.int .i64 e') ∧ W.cell? ⟨w.heap.size + 1, 5, none⟩ = some (.int .i64 f') := by
    refine ⟨?_, ?_, ?_, ?_, ?_, ?_, ?_, ?_, ?_, ?_, ?_, ?_⟩
    all_goals (rw [← hW]; first | (rw [cells3a]; rfl) | (rw [cells3b]; rfl))
  have hz : ∀ j, j < 6 → W.cell? ⟨w.heap.size + 1 + 1, j, none⟩ = some (.int .i64 0) := fun j hj => by
    rw [← hW, cells3c]
    rcases (show j = 0 ∨ j = 1 ∨ j = 2 ∨ j = 3 ∨ j = 4 ∨ j = 5 by omega) with rfl | rfl | rfl | rfl | rfl | rfl <;> rfl
  have hf : ∀ j, W.frozen? ⟨w.heap.size + 1 + 1, j, none⟩ = false := fun j => by rw [← hW, cells3f]
  have HW0 : Hid (Kp w W) := by rw [← hW]; exact kp3 w _ _ _ _
  have hall1 := keep6 w.heap.size a b c d e f a' b' c' d' e' f' (by omega) k1 hall
  have hz1 := keepZ (w.heap.size + 1 + 1) (by omega) k1 hz hf
  have HK1 : Hid (Kp w w1) := Kp.trans HW0.out k1
  have ks1 := Kp.size k1
  clear hW hall k1 hz hf HW0
  obtain ⟨B, hB⟩ : ∃ B, w.heap.size = B := ⟨_, rfl⟩
  have HBw : Hid (w.heap.size ≤ B + 1 + 1) := (show _ ≤ _ by omega)
  rw [hB] at hsz hall1 hz1 ⊢
  clear hB
  obtain ⟨h0, h1, h2, h3, h4, h5, g0, g1, g2, g3, g4, g5⟩ := hall1
  go_wp2_with fail
  refine (HGB.out _).mono ?_; rintro x w2 ⟨rfl, k2⟩
  have hall2 := keep6 B a b c d e f a' b' c' d' e' f' (by omega) k2 ⟨h0, h1, h2, h3, h4, h5, g0, g1, g2, g3, g4, g5⟩
  obtain ⟨hz2, hf2⟩ := keepZ (B + 1 + 1) (by omega) k2 hz1.1 hz1.2
  have ks2 := Kp.size k2
  have HK2 : Hid (Kp w w2) := Kp.trans HK1.out k2
  have HB2 : Hid (B + 1 + 1 < w2.heap.size) := (show _ < _ by omega)
  clear k2 h0 h1 h2 h3 h4 h5 g0 g1 g2 g3 g4 g5 hz1 HK1
  obtain ⟨h0, h1, h2, h3, h4, h5, g0, g1, g2, g3, g4, g5⟩ := hall2
  clear hsz ks1 ks2
  go_wp2_with fail
  refine (HM.out _).mono ?_; rintro x w3 ⟨rfl, k3⟩
  obtain ⟨hz3, hf3⟩ := keepZ (B + 1 + 1) HB2.out k3 hz2 hf2
  have HB3 : Hid (B + 1 + 1 < w3.heap.size) := (show _ < _ by have := Kp.size k3; have := HB2.out; omega)
  have HK3 : Hid (Kp w w3) := Kp.trans HK2.out k3
  clear k3 hz2 hf2 h0 h1 h2 h3 h4 h5 g0 g1 g2 g3 g4 g5 HB2 HK2
  obtain ⟨w4, hw4⟩ : ∃ w4, w3.alloc (.cells #[.int .i64 x0, .int .i64 x1, .int .i64 x2, .int .i64 x3, .int .i64 x4, .int .i64 x5] 24) = w4 := ⟨_, rfl⟩
  have m3 : ∀ o, w4.cell? ⟨w3.heap.size, o, none⟩ = (#[.int .i64 x0, .int .i64 x1, .int .i64 x2, .int .i64 x3, .int .i64 x4, .int .i64 x5] : Array Value)[o]? := fun o => by rw [← hw4]; exact World.cell?_alloc_at _ _ _ _ rfl
  have k4 : Kp w3 w4 := by rw [← hw4]; exact (Kp.refl w3).alloc _ _
  obtain ⟨hz4, hf4⟩ := keepZ (B + 1 + 1) HB3.out k4 hz3 hf3
  have HB4 : Hid (B + 1 + 1 < w4.heap.size) := (show _ < _ by have := Kp.size k4; have := HB3.out; omega)
  have HK4 : Hid (Kp w w4) := Kp.trans HK3.out k4
  have m0 : w4.cell? ⟨w3.heap.size, 0, none⟩ = some (.int .i64 x0) := m3 0
  have m1 : w4.cell? ⟨w3.heap.size, 1, none⟩ = some (.int .i64 x1) := m3 1
  have m2 : w4.cell? ⟨w3.heap.size, 2, none⟩ = some (.int .i64 x2) := m3 2
  have m3' : w4.cell? ⟨w3.heap.size, 3, none⟩ = some (.int .i64 x3) := m3 3
  have m4 : w4.cell? ⟨w3.heap.size, 4, none⟩ = some (.int .i64 x4) := m3 4
  have m5 : w4.cell? ⟨w3.heap.size, 5, none⟩ = some (.int .i64 x5) := m3 5
  have HN4 : Hid (w3.heap.size < w4.heap.size) := World.block_lt_of_cell? w4 ⟨w3.heap.size, 0, none⟩ m0
  clear m3 k4 HK3 HB3
  go_wp2_with fail
  refine (HGM.out _).mono ?_; rintro x w5 ⟨rfl, k5⟩
  have kc := (Kp.cells k5).1
  have n0 := (kc _ 0 HN4.out).trans m0
  have n1 := (kc _ 1 HN4.out).trans m1
  have n2 := (kc _ 2 HN4.out).trans m2
  have n3 := (kc _ 3 HN4.out).trans m3'
  have n4 := (kc _ 4 HN4.out).trans m4
  have n5 := (kc _ 5 HN4.out).trans m5
  obtain ⟨hz, hf⟩ := keepZ (B + 1 + 1) HB4.out k5 hz4 hf4
  have HK5 : Hid (Kp w w5) := Kp.trans HK4.out k5
  clear k5 kc m0 m1 m2 m3' m4 m5 hz3 hf3 hz4 hf4 hw4
  go_wp2
  obtain ⟨y0, y1, y2, y3, y4, y5⟩ := six_set w5 (B + 1 + 1) (.int .i64 x0) (.int .i64 x1) (.int .i64 x2) (.int .i64 x3) (.int .i64 x4) (.int .i64 x5) hz
  refine bodyPost_ret (v := .tuple #[affV x0 x1 x2 x3 x4 x5, .bool true]) (by simp [results, Try.results5, go_sem, y0, y1, y2, y3, y4, y5]) rfl ⟨rfl, ?_⟩
  exact (((((HK5.out.setCell HBw.out _).setCell HBw.out _).setCell HBw.out _).setCell HBw.out _).setCell HBw.out _).setCell HBw.out _
set_option maxHeartbeats 2000000 in
theorem smul_no (w : World) (a b c d e f a' b' c' d' e' f' x0 x1 x2 x3 x4 x5 : Int) (HM : Hid (∀ w, Calls Try.prog 11 #[affV a b c d e f, affV a' b' c' d' e' f'] w fun x w' => x = .returned (affV x0 x1 x2 x3 x4 x5) ∧ Kp w w')) (hgm : gA x0 x1 x2 x3 x4 x5 = false) (hgA : gA a b c d e f = true) (hgB : gA a' b' c' d' e' f' = true) :
    Calls Try.prog 5 #[affV a b c d e f, affV a' b' c' d' e' f'] w fun x w' => x = .returned (.tuple #[affV 0 0 0 0 0 0, .bool false]) ∧ Kp w w' := by
  have HGA : Hid _ := fun w => sgoodAff w a b c d e f
  have HGB : Hid _ := fun w => sgoodAff w a' b' c' d' e' f'
  have HGM : Hid _ := fun w => sgoodAff w x0 x1 x2 x3 x4 x5
  rw [hgA] at HGA
  rw [hgB] at HGB
  rw [hgm] at HGM
  clear hgA hgB hgm
  unfold affV at *
  go_enter Try.func5, Try.ntmps5
  go_wp2_with fail
  refine (HGA.out _).mono ?_; rintro x w1 ⟨rfl, k1⟩
  generalize hW : ((w.alloc (.cells #[.int .i64 a, .int .i64 b, .int .i64 c, .int .i64 d, .int .i64 e, .int .i64 f] 24)).alloc (.cells #[.int .i64 a', .int .i64 b', .int .i64 c', .int .i64 d', .int .i64 e', .int .i64 f'] 24)).alloc (.cells #[.int .i64 0, .int .i64 0, .int .i64 0, .int .i64 0, .int .i64 0, .int .i64 0] 24) = W at *
  have hsz : W.heap.size = w.heap.size + 3 := by rw [← hW]; simp
  have hall : W.cell? ⟨w.heap.size, 0, none⟩ = some (.int .i64 a) ∧ W.cell? ⟨w.heap.size, 1, none⟩ = some (.int .i64 b) ∧ W.cell? ⟨w.heap.size, 2, none⟩ = some (.int .i64 c) ∧ W.cell? ⟨w.heap.size, 3, none⟩ = some (.int .i64 d) ∧ W.cell? ⟨w.heap.size, 4, none⟩ = some (.int .i64 e) ∧ W.cell? ⟨w.heap.size, 5, none⟩ = some (.int .i64 f) ∧ W.cell? ⟨w.heap.size + 1, 0, none⟩ = some (.int .i64 a') ∧ W.cell? ⟨w.heap.size + 1, 1, none⟩ = some (.int .i64 b') ∧ W.cell? ⟨w.heap.size + 1, 2, none⟩ = some (.int .i64 c') ∧ W.cell? ⟨w.heap.size + 1, 3, none⟩ = some (.int .i64 d') ∧ W.cell? ⟨w.heap.size + 1, 4, none⟩ = some (.int .i64 e') ∧ W.cell? ⟨w.heap.size + 1, 5, none⟩ = some (.int .i64 f') := by
    refine ⟨?_, ?_, ?_, ?_, ?_, ?_, ?_, ?_, ?_, ?_, ?_, ?_⟩
    all_goals (rw [← hW]; first | (rw [cells3a]; rfl) | (rw [cells3b]; rfl))
  have hz : ∀ j, j < 6 → W.cell? ⟨w.heap.size + 1 + 1, j, none⟩ = some (.int .i64 0) := fun j hj => by
    rw [← hW, cells3c]
    rcases (show j = 0 ∨ j = 1 ∨ j = 2 ∨ j = 3 ∨ j = 4 ∨ j = 5 by omega) with rfl | rfl | rfl | rfl | rfl | rfl <;> rfl
  have hf : ∀ j, W.frozen? ⟨w.heap.size + 1 + 1, j, none⟩ = false := fun j => by rw [← hW, cells3f]
  have HW0 : Hid (Kp w W) := by rw [← hW]; exact kp3 w _ _ _ _
  have hall1 := keep6 w.heap.size a b c d e f a' b' c' d' e' f' (by omega) k1 hall
  have hz1 := keepZ (w.heap.size + 1 + 1) (by omega) k1 hz hf
  have HK1 : Hid (Kp w w1) := Kp.trans HW0.out k1
  have ks1 := Kp.size k1
  clear hW hall k1 hz hf HW0
  obtain ⟨B, hB⟩ : ∃ B, w.heap.size = B := ⟨_, rfl⟩
  have HBw : Hid (w.heap.size ≤ B + 1 + 1) := (show _ ≤ _ by omega)
  rw [hB] at hsz hall1 hz1 ⊢
  clear hB
  obtain ⟨h0, h1, h2, h3, h4, h5, g0, g1, g2, g3, g4, g5⟩ := hall1
  go_wp2_with fail
  refine (HGB.out _).mono ?_; rintro x w2 ⟨rfl, k2⟩
  have hall2 := keep6 B a b c d e f a' b' c' d' e' f' (by omega) k2 ⟨h0, h1, h2, h3, h4, h5, g0, g1, g2, g3, g4, g5⟩
  obtain ⟨hz2, hf2⟩ := keepZ (B + 1 + 1) (by omega) k2 hz1.1 hz1.2
  have ks2 := Kp.size k2
  have HK2 : Hid (Kp w w2) := Kp.trans HK1.out k2
  have HB2 : Hid (B + 1 + 1 < w2.heap.size) := (show _ < _ by omega)
  clear k2 h0 h1 h2 h3 h4 h5 g0 g1 g2 g3 g4 g5 hz1 HK1
  obtain ⟨h0, h1, h2, h3, h4, h5, g0, g1, g2, g3, g4, g5⟩ := hall2
  clear hsz ks1 ks2
  go_wp2_with fail
  refine (HM.out _).mono ?_; rintro x w3 ⟨rfl, k3⟩
  obtain ⟨hz3, hf3⟩ := keepZ (B + 1 + 1) HB2.out k3 hz2 hf2
  have HB3 : Hid (B + 1 + 1 < w3.heap.size) := (show _ < _ by have := Kp.size k3; have := HB2.out; omega)
  have HK3 : Hid (Kp w w3) := Kp.trans HK2.out k3
  clear k3 hz2 hf2 h0 h1 h2 h3 h4 h5 g0 g1 g2 g3 g4 g5 HB2 HK2
  obtain ⟨w4, hw4⟩ : ∃ w4, w3.alloc (.cells #[.int .i64 x0, .int .i64 x1, .int .i64 x2, .int .i64 x3, .int .i64 x4, .int .i64 x5] 24) = w4 := ⟨_, rfl⟩
  have m3 : ∀ o, w4.cell? ⟨w3.heap.size, o, none⟩ = (#[.int .i64 x0, .int .i64 x1, .int .i64 x2, .int .i64 x3, .int .i64 x4, .int .i64 x5] : Array Value)[o]? := fun o => by rw [← hw4]; exact World.cell?_alloc_at _ _ _ _ rfl
  have k4 : Kp w3 w4 := by rw [← hw4]; exact (Kp.refl w3).alloc _ _
  obtain ⟨hz4, hf4⟩ := keepZ (B + 1 + 1) HB3.out k4 hz3 hf3
  have HB4 : Hid (B + 1 + 1 < w4.heap.size) := (show _ < _ by have := Kp.size k4; have := HB3.out; omega)
  have HK4 : Hid (Kp w w4) := Kp.trans HK3.out k4
  have m0 : w4.cell? ⟨w3.heap.size, 0, none⟩ = some (.int .i64 x0) := m3 0
  have m1 : w4.cell? ⟨w3.heap.size, 1, none⟩ = some (.int .i64 x1) := m3 1
  have m2 : w4.cell? ⟨w3.heap.size, 2, none⟩ = some (.int .i64 x2) := m3 2
  have m3' : w4.cell? ⟨w3.heap.size, 3, none⟩ = some (.int .i64 x3) := m3 3
  have m4 : w4.cell? ⟨w3.heap.size, 4, none⟩ = some (.int .i64 x4) := m3 4
  have m5 : w4.cell? ⟨w3.heap.size, 5, none⟩ = some (.int .i64 x5) := m3 5
  have HN4 : Hid (w3.heap.size < w4.heap.size) := World.block_lt_of_cell? w4 ⟨w3.heap.size, 0, none⟩ m0
  clear m3 k4 HK3 HB3
  go_wp2_with fail
  refine (HGM.out _).mono ?_; rintro x w5 ⟨rfl, k5⟩
  have kc := (Kp.cells k5).1
  have n0 := (kc _ 0 HN4.out).trans m0
  have n1 := (kc _ 1 HN4.out).trans m1
  have n2 := (kc _ 2 HN4.out).trans m2
  have n3 := (kc _ 3 HN4.out).trans m3'
  have n4 := (kc _ 4 HN4.out).trans m4
  have n5 := (kc _ 5 HN4.out).trans m5
  obtain ⟨hz, hf⟩ := keepZ (B + 1 + 1) HB4.out k5 hz4 hf4
  have HK5 : Hid (Kp w w5) := Kp.trans HK4.out k5
  clear k5 kc m0 m1 m2 m3' m4 m5 hz3 hf3 hz4 hf4 hw4
  go_wp2
  obtain ⟨y0, y1, y2, y3, y4, y5⟩ := six_set w5 (B + 1 + 1) (.int .i64 0) (.int .i64 0) (.int .i64 0) (.int .i64 0) (.int .i64 0) (.int .i64 0) hz
  refine bodyPost_ret (v := .tuple #[affV 0 0 0 0 0 0, .bool false]) (by simp [results, Try.results5, go_sem, y0, y1, y2, y3, y4, y5]) rfl ⟨rfl, ?_⟩
  exact (((((HK5.out.setCell HBw.out _).setCell HBw.out _).setCell HBw.out _).setCell HBw.out _).setCell HBw.out _).setCell HBw.out _
end Go.Proofs.Ytfodmjdhpolnkaa
