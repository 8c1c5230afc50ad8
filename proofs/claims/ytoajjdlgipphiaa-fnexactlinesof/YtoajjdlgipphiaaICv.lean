/-
  The program's point of a curve; each theorem names its conditions.
-/
import Derived.Test.YtoajjdlgipphiaaCv
namespace Go.Proofs.Ytoajjdlgipphiaa
open Go.ChangeShapes Go.WideShapes Go.ChangeAt Go.RowKit
set_option linter.unusedVariables false

/-- The sums on the way: four products. -/
def pSum (p0 p1 p2 p3 : Int) : Nat → Int
  | 0 => 256
  | 1 => 256 + p0
  | 2 => 256 + p0 + p1
  | 3 => 256 + p0 + p1 + p2
  | _ => 256 + p0 + p1 + p2 + p3
theorem pSum_0 (p0 p1 p2 p3 : Int) : pSum p0 p1 p2 p3 0 = 256 := rfl
theorem pSum_1 (p0 p1 p2 p3 : Int) : pSum p0 p1 p2 p3 1 = 256 + p0 := rfl
theorem pSum_2 (p0 p1 p2 p3 : Int) : pSum p0 p1 p2 p3 2 = 256 + p0 + p1 := rfl
theorem pSum_3 (p0 p1 p2 p3 : Int) : pSum p0 p1 p2 p3 3 = 256 + p0 + p1 + p2 := rfl
theorem pSum_4 (p0 p1 p2 p3 : Int) : pSum p0 p1 p2 p3 4 = 256 + p0 + p1 + p2 + p3 := rfl
theorem vint {a b : Int} (h : a = b) : Value.int .i64 a = .int .i64 b := by rw [h]
set_option maxRecDepth 100000 in
set_option maxHeartbeats 4000000 in
theorem icurve0 (w : World) (b off c : Nat) (x0 y0 x1 y1 x2 y2 x3 y3 : Int) (h : Four w b off x0 y0 x1 y1 x2 y2 x3 y3) (f0 : fx x0) (f1 : fx y0) (f2 : fx x1) (f3 : fx y1) (f4 : fx x2) (f5 : fx y2) (f6 : fx x3) (f7 : fx y3) :
    Calls Try.prog 84 #[.slice (some ⟨b, off, none⟩) 4 c, .int .i64 0] w fun e w' => e = .returned (.agg #[.int .i64 (bez x0 x1 x2 x3 0), .int .i64 (bez y0 y1 y2 y3 0)]) ∧ Kp w w' := by
  have ex : bez x0 x1 x2 x3 0 = (pSum (512 * x0) (0 * x1) (0 * x2) (0 * x3) 4) / 512 := by unfold bez; simp only [pSum]; omega
  have ey : bez y0 y1 y2 y3 0 = (pSum (512 * y0) (0 * y1) (0 * y2) (0 * y3) 4) / 512 := by unfold bez; simp only [pSum]; omega
  obtain ⟨vx, hvx⟩ : ∃ v, pSum (512 * x0) (0 * x1) (0 * x2) (0 * x3) 4 = v := ⟨_, rfl⟩
  obtain ⟨vy, hvy⟩ : ∃ v, pSum (512 * y0) (0 * y1) (0 * y2) (0 * y3) 4 = v := ⟨_, rfl⟩
  rw [ex, ey, hvx, hvy]
  have HVX : Hid _ := hvx
  have HVY : Hid _ := hvy
  have bx : -4611686018427387904 ≤ vx ∧ vx ≤ 4611686018427387904 := by have h := pSum_4 (512 * x0) (0 * x1) (0 * x2) (0 * x3); unfold fx at *; omega
  have by' : -4611686018427387904 ≤ vy ∧ vy ≤ 4611686018427387904 := by have h := pSum_4 (512 * y0) (0 * y1) (0 * y2) (0 * y3); unfold fx at *; omega
  clear hvx hvy
  have HE : Hid (∀ o, ((w.alloc o).cell? ⟨b, off, none⟩ = some (.int .i64 x0) ∧ (w.alloc o).cell? ⟨b, off + 1, none⟩ = some (.int .i64 y0) ∧ (w.alloc o).cell? ⟨b, off + 2, none⟩ = some (.int .i64 x1) ∧ (w.alloc o).cell? ⟨b, off + 2 + 1, none⟩ = some (.int .i64 y1) ∧ (w.alloc o).cell? ⟨b, off + 4, none⟩ = some (.int .i64 x2) ∧ (w.alloc o).cell? ⟨b, off + 4 + 1, none⟩ = some (.int .i64 y2) ∧ (w.alloc o).cell? ⟨b, off + 6, none⟩ = some (.int .i64 x3) ∧ (w.alloc o).cell? ⟨b, off + 6 + 1, none⟩ = some (.int .i64 y3))) := fun o => by
    obtain ⟨q0, q1, q2, q3, q4, q5, q6, q7⟩ := h
    have kc : ∀ x v, w.cell? ⟨b, x, none⟩ = some v → (w.alloc o).cell? ⟨b, x, none⟩ = some v := fun x v hv => (Below.cell ((Below.refl w.heap.size w).alloc (Nat.le_refl _) o) (p := ⟨b, x, none⟩) (World.block_lt_of_cell? w ⟨b, x, none⟩ hv)).trans hv
    exact ⟨kc _ _ q0, kc _ _ q1, kc _ _ q2, kc _ _ q3, kc _ _ q4, kc _ _ q5, kc _ _ q6, kc _ _ q7⟩
  clear ex ey h
  unfold fx at *
  go_enter Try.func84, Try.ntmps84
  go_wp2
  go_loop [6, 7, 35] (fun x y i => ∃ j : Nat, j ≤ 4 ∧ i = .int .i64 j ∧ x = .int .i64 (pSum (512 * x0) (0 * x1) (0 * x2) (0 * x3) j) ∧ y = .int .i64 (pSum (512 * y0) (0 * y1) (0 * y2) (0 * y3) j)) (fun _ _ i => 4 - (intOf i).toNat)
  case atStart => exact ⟨0, by omega, rfl, rfl, rfl⟩
  case round =>
    obtain ⟨j, hj, rfl, rfl, rfl⟩ := hrel
    obtain ⟨q0, q1, q2, q3, q4, q5, q6, q7⟩ := HE.out (.cells #[.int .i64 0, .int .i64 0] 54)
    clear HE
    rcases (show j = 0 ∨ j = 1 ∨ j = 2 ∨ j = 3 ∨ j = 4 by omega) with rfl | rfl | rfl | rfl | rfl
    · have i0 : ∀ w, (Instr.index 115 (.agg #[.int .i64 512, .int .i64 0, .int .i64 0, .int .i64 0]) (.int .i64 0)).run Try.prog w = .ok (.int .i64 512) w := fun _ => by kernel_rfl
      rw [pSum_0 (512 * x0) (0 * x1) (0 * x2) (0 * x3), pSum_0 (512 * y0) (0 * y1) (0 * y2) (0 * y3)]
      clear hj
      go_wp2
      go_round
      case rel => exact ⟨1, by omega, by go_num, vint (by have h := pSum_1 (512 * x0) (0 * x1) (0 * x2) (0 * x3); omega), vint (by have h := pSum_1 (512 * y0) (0 * y1) (0 * y2) (0 * y3); omega)⟩
      case measure => simp [intOf]
    · have i0 : ∀ w, (Instr.index 115 (.agg #[.int .i64 512, .int .i64 0, .int .i64 0, .int .i64 0]) (.int .i64 1)).run Try.prog w = .ok (.int .i64 0) w := fun _ => by kernel_rfl
      rw [pSum_1 (512 * x0) (0 * x1) (0 * x2) (0 * x3), pSum_1 (512 * y0) (0 * y1) (0 * y2) (0 * y3)]
      clear hj
      go_wp2
      go_round
      case rel => exact ⟨2, by omega, by go_num, vint (by have h := pSum_2 (512 * x0) (0 * x1) (0 * x2) (0 * x3); omega), vint (by have h := pSum_2 (512 * y0) (0 * y1) (0 * y2) (0 * y3); omega)⟩
      case measure => simp [intOf]
    · have i0 : ∀ w, (Instr.index 115 (.agg #[.int .i64 512, .int .i64 0, .int .i64 0, .int .i64 0]) (.int .i64 2)).run Try.prog w = .ok (.int .i64 0) w := fun _ => by kernel_rfl
      rw [pSum_2 (512 * x0) (0 * x1) (0 * x2) (0 * x3), pSum_2 (512 * y0) (0 * y1) (0 * y2) (0 * y3)]
      clear hj
      go_wp2
      go_round
      case rel => exact ⟨3, by omega, by go_num, vint (by have h := pSum_3 (512 * x0) (0 * x1) (0 * x2) (0 * x3); omega), vint (by have h := pSum_3 (512 * y0) (0 * y1) (0 * y2) (0 * y3); omega)⟩
      case measure => simp [intOf]
    · have i0 : ∀ w, (Instr.index 115 (.agg #[.int .i64 512, .int .i64 0, .int .i64 0, .int .i64 0]) (.int .i64 3)).run Try.prog w = .ok (.int .i64 0) w := fun _ => by kernel_rfl
      rw [pSum_3 (512 * x0) (0 * x1) (0 * x2) (0 * x3), pSum_3 (512 * y0) (0 * y1) (0 * y2) (0 * y3)]
      clear hj
      go_wp2
      go_round
      case rel => exact ⟨4, by omega, by go_num, vint (by have h := pSum_4 (512 * x0) (0 * x1) (0 * x2) (0 * x3); omega), vint (by have h := pSum_4 (512 * y0) (0 * y1) (0 * y2) (0 * y3); omega)⟩
      case measure => simp [intOf]
    · clear hj q0 q1 q2 q3 q4 q5 q6 q7
      rw [HVX.out, HVY.out]
      go_wp2_with (go_at_call 81; refine (divDown_any _ _ _ (by omega) (by omega) (by omega) (by omega)).mono ?_; rintro e w' ⟨rfl, rfl⟩)
      exact bodyPost_ret (v := .agg #[.int .i64 (vx / 512), .int .i64 (vy / 512)]) (by simp [results, Try.results84, go_sem]) rfl ⟨rfl, (Kp.refl w).alloc _ _⟩
set_option maxRecDepth 100000 in
set_option maxHeartbeats 4000000 in
theorem icurve1 (w : World) (b off c : Nat) (x0 y0 x1 y1 x2 y2 x3 y3 : Int) (h : Four w b off x0 y0 x1 y1 x2 y2 x3 y3) (f0 : fx x0) (f1 : fx y0) (f2 : fx x1) (f3 : fx y1) (f4 : fx x2) (f5 : fx y2) (f6 : fx x3) (f7 : fx y3) :
    Calls Try.prog 84 #[.slice (some ⟨b, off, none⟩) 4 c, .int .i64 1] w fun e w' => e = .returned (.agg #[.int .i64 (bez x0 x1 x2 x3 1), .int .i64 (bez y0 y1 y2 y3 1)]) ∧ Kp w w' := by
  have ex : bez x0 x1 x2 x3 1 = (pSum (343 * x0) (147 * x1) (21 * x2) (1 * x3) 4) / 512 := by unfold bez; simp only [pSum]; omega
  have ey : bez y0 y1 y2 y3 1 = (pSum (343 * y0) (147 * y1) (21 * y2) (1 * y3) 4) / 512 := by unfold bez; simp only [pSum]; omega
  obtain ⟨vx, hvx⟩ : ∃ v, pSum (343 * x0) (147 * x1) (21 * x2) (1 * x3) 4 = v := ⟨_, rfl⟩
  obtain ⟨vy, hvy⟩ : ∃ v, pSum (343 * y0) (147 * y1) (21 * y2) (1 * y3) 4 = v := ⟨_, rfl⟩
  rw [ex, ey, hvx, hvy]
  have HVX : Hid _ := hvx
  have HVY : Hid _ := hvy
  have bx : -4611686018427387904 ≤ vx ∧ vx ≤ 4611686018427387904 := by have h := pSum_4 (343 * x0) (147 * x1) (21 * x2) (1 * x3); unfold fx at *; omega
  have by' : -4611686018427387904 ≤ vy ∧ vy ≤ 4611686018427387904 := by have h := pSum_4 (343 * y0) (147 * y1) (21 * y2) (1 * y3); unfold fx at *; omega
  clear hvx hvy
  have HE : Hid (∀ o, ((w.alloc o).cell? ⟨b, off, none⟩ = some (.int .i64 x0) ∧ (w.alloc o).cell? ⟨b, off + 1, none⟩ = some (.int .i64 y0) ∧ (w.alloc o).cell? ⟨b, off + 2, none⟩ = some (.int .i64 x1) ∧ (w.alloc o).cell? ⟨b, off + 2 + 1, none⟩ = some (.int .i64 y1) ∧ (w.alloc o).cell? ⟨b, off + 4, none⟩ = some (.int .i64 x2) ∧ (w.alloc o).cell? ⟨b, off + 4 + 1, none⟩ = some (.int .i64 y2) ∧ (w.alloc o).cell? ⟨b, off + 6, none⟩ = some (.int .i64 x3) ∧ (w.alloc o).cell? ⟨b, off + 6 + 1, none⟩ = some (.int .i64 y3))) := fun o => by
    obtain ⟨q0, q1, q2, q3, q4, q5, q6, q7⟩ := h
    have kc : ∀ x v, w.cell? ⟨b, x, none⟩ = some v → (w.alloc o).cell? ⟨b, x, none⟩ = some v := fun x v hv => (Below.cell ((Below.refl w.heap.size w).alloc (Nat.le_refl _) o) (p := ⟨b, x, none⟩) (World.block_lt_of_cell? w ⟨b, x, none⟩ hv)).trans hv
    exact ⟨kc _ _ q0, kc _ _ q1, kc _ _ q2, kc _ _ q3, kc _ _ q4, kc _ _ q5, kc _ _ q6, kc _ _ q7⟩
  clear ex ey h
  unfold fx at *
  go_enter Try.func84, Try.ntmps84
  go_wp2
  go_loop [6, 7, 35] (fun x y i => ∃ j : Nat, j ≤ 4 ∧ i = .int .i64 j ∧ x = .int .i64 (pSum (343 * x0) (147 * x1) (21 * x2) (1 * x3) j) ∧ y = .int .i64 (pSum (343 * y0) (147 * y1) (21 * y2) (1 * y3) j)) (fun _ _ i => 4 - (intOf i).toNat)
  case atStart => exact ⟨0, by omega, rfl, rfl, rfl⟩
  case round =>
    obtain ⟨j, hj, rfl, rfl, rfl⟩ := hrel
    obtain ⟨q0, q1, q2, q3, q4, q5, q6, q7⟩ := HE.out (.cells #[.int .i64 0, .int .i64 0] 54)
    clear HE
    rcases (show j = 0 ∨ j = 1 ∨ j = 2 ∨ j = 3 ∨ j = 4 by omega) with rfl | rfl | rfl | rfl | rfl
    · have i0 : ∀ w, (Instr.index 115 (.agg #[.int .i64 343, .int .i64 147, .int .i64 21, .int .i64 1]) (.int .i64 0)).run Try.prog w = .ok (.int .i64 343) w := fun _ => by kernel_rfl
      rw [pSum_0 (343 * x0) (147 * x1) (21 * x2) (1 * x3), pSum_0 (343 * y0) (147 * y1) (21 * y2) (1 * y3)]
      clear hj
      go_wp2
      go_round
      case rel => exact ⟨1, by omega, by go_num, vint (by have h := pSum_1 (343 * x0) (147 * x1) (21 * x2) (1 * x3); omega), vint (by have h := pSum_1 (343 * y0) (147 * y1) (21 * y2) (1 * y3); omega)⟩
      case measure => simp [intOf]
    · have i0 : ∀ w, (Instr.index 115 (.agg #[.int .i64 343, .int .i64 147, .int .i64 21, .int .i64 1]) (.int .i64 1)).run Try.prog w = .ok (.int .i64 147) w := fun _ => by kernel_rfl
      rw [pSum_1 (343 * x0) (147 * x1) (21 * x2) (1 * x3), pSum_1 (343 * y0) (147 * y1) (21 * y2) (1 * y3)]
      clear hj
      go_wp2
      go_round
      case rel => exact ⟨2, by omega, by go_num, vint (by have h := pSum_2 (343 * x0) (147 * x1) (21 * x2) (1 * x3); omega), vint (by have h := pSum_2 (343 * y0) (147 * y1) (21 * y2) (1 * y3); omega)⟩
      case measure => simp [intOf]
    · have i0 : ∀ w, (Instr.index 115 (.agg #[.int .i64 343, .int .i64 147, .int .i64 21, .int .i64 1]) (.int .i64 2)).run Try.prog w = .ok (.int .i64 21) w := fun _ => by kernel_rfl
      rw [pSum_2 (343 * x0) (147 * x1) (21 * x2) (1 * x3), pSum_2 (343 * y0) (147 * y1) (21 * y2) (1 * y3)]
      clear hj
      go_wp2
      go_round
      case rel => exact ⟨3, by omega, by go_num, vint (by have h := pSum_3 (343 * x0) (147 * x1) (21 * x2) (1 * x3); omega), vint (by have h := pSum_3 (343 * y0) (147 * y1) (21 * y2) (1 * y3); omega)⟩
      case measure => simp [intOf]
    · have i0 : ∀ w, (Instr.index 115 (.agg #[.int .i64 343, .int .i64 147, .int .i64 21, .int .i64 1]) (.int .i64 3)).run Try.prog w = .ok (.int .i64 1) w := fun _ => by kernel_rfl
      rw [pSum_3 (343 * x0) (147 * x1) (21 * x2) (1 * x3), pSum_3 (343 * y0) (147 * y1) (21 * y2) (1 * y3)]
      clear hj
      go_wp2
      go_round
      case rel => exact ⟨4, by omega, by go_num, vint (by have h := pSum_4 (343 * x0) (147 * x1) (21 * x2) (1 * x3); omega), vint (by have h := pSum_4 (343 * y0) (147 * y1) (21 * y2) (1 * y3); omega)⟩
      case measure => simp [intOf]
    · clear hj q0 q1 q2 q3 q4 q5 q6 q7
      rw [HVX.out, HVY.out]
      go_wp2_with (go_at_call 81; refine (divDown_any _ _ _ (by omega) (by omega) (by omega) (by omega)).mono ?_; rintro e w' ⟨rfl, rfl⟩)
      exact bodyPost_ret (v := .agg #[.int .i64 (vx / 512), .int .i64 (vy / 512)]) (by simp [results, Try.results84, go_sem]) rfl ⟨rfl, (Kp.refl w).alloc _ _⟩
set_option maxRecDepth 100000 in
set_option maxHeartbeats 4000000 in
theorem icurve2 (w : World) (b off c : Nat) (x0 y0 x1 y1 x2 y2 x3 y3 : Int) (h : Four w b off x0 y0 x1 y1 x2 y2 x3 y3) (f0 : fx x0) (f1 : fx y0) (f2 : fx x1) (f3 : fx y1) (f4 : fx x2) (f5 : fx y2) (f6 : fx x3) (f7 : fx y3) :
    Calls Try.prog 84 #[.slice (some ⟨b, off, none⟩) 4 c, .int .i64 2] w fun e w' => e = .returned (.agg #[.int .i64 (bez x0 x1 x2 x3 2), .int .i64 (bez y0 y1 y2 y3 2)]) ∧ Kp w w' := by
  have ex : bez x0 x1 x2 x3 2 = (pSum (216 * x0) (216 * x1) (72 * x2) (8 * x3) 4) / 512 := by unfold bez; simp only [pSum]; omega
  have ey : bez y0 y1 y2 y3 2 = (pSum (216 * y0) (216 * y1) (72 * y2) (8 * y3) 4) / 512 := by unfold bez; simp only [pSum]; omega
  obtain ⟨vx, hvx⟩ : ∃ v, pSum (216 * x0) (216 * x1) (72 * x2) (8 * x3) 4 = v := ⟨_, rfl⟩
  obtain ⟨vy, hvy⟩ : ∃ v, pSum (216 * y0) (216 * y1) (72 * y2) (8 * y3) 4 = v := ⟨_, rfl⟩
  rw [ex, ey, hvx, hvy]
  have HVX : Hid _ := hvx
  have HVY : Hid _ := hvy
  have bx : -4611686018427387904 ≤ vx ∧ vx ≤ 4611686018427387904 := by have h := pSum_4 (216 * x0) (216 * x1) (72 * x2) (8 * x3); unfold fx at *; omega
  have by' : -4611686018427387904 ≤ vy ∧ vy ≤ 4611686018427387904 := by have h := pSum_4 (216 * y0) (216 * y1) (72 * y2) (8 * y3); unfold fx at *; omega
  clear hvx hvy
  have HE : Hid (∀ o, ((w.alloc o).cell? ⟨b, off, none⟩ = some (.int .i64 x0) ∧ (w.alloc o).cell? ⟨b, off + 1, none⟩ = some (.int .i64 y0) ∧ (w.alloc o).cell? ⟨b, off + 2, none⟩ = some (.int .i64 x1) ∧ (w.alloc o).cell? ⟨b, off + 2 + 1, none⟩ = some (.int .i64 y1) ∧ (w.alloc o).cell? ⟨b, off + 4, none⟩ = some (.int .i64 x2) ∧ (w.alloc o).cell? ⟨b, off + 4 + 1, none⟩ = some (.int .i64 y2) ∧ (w.alloc o).cell? ⟨b, off + 6, none⟩ = some (.int .i64 x3) ∧ (w.alloc o).cell? ⟨b, off + 6 + 1, none⟩ = some (.int .i64 y3))) := fun o => by
    obtain ⟨q0, q1, q2, q3, q4, q5, q6, q7⟩ := h
    have kc : ∀ x v, w.cell? ⟨b, x, none⟩ = some v → (w.alloc o).cell? ⟨b, x, none⟩ = some v := fun x v hv => (Below.cell ((Below.refl w.heap.size w).alloc (Nat.le_refl _) o) (p := ⟨b, x, none⟩) (World.block_lt_of_cell? w ⟨b, x, none⟩ hv)).trans hv
    exact ⟨kc _ _ q0, kc _ _ q1, kc _ _ q2, kc _ _ q3, kc _ _ q4, kc _ _ q5, kc _ _ q6, kc _ _ q7⟩
  clear ex ey h
  unfold fx at *
  go_enter Try.func84, Try.ntmps84
  go_wp2
  go_loop [6, 7, 35] (fun x y i => ∃ j : Nat, j ≤ 4 ∧ i = .int .i64 j ∧ x = .int .i64 (pSum (216 * x0) (216 * x1) (72 * x2) (8 * x3) j) ∧ y = .int .i64 (pSum (216 * y0) (216 * y1) (72 * y2) (8 * y3) j)) (fun _ _ i => 4 - (intOf i).toNat)
  case atStart => exact ⟨0, by omega, rfl, rfl, rfl⟩
  case round =>
    obtain ⟨j, hj, rfl, rfl, rfl⟩ := hrel
    obtain ⟨q0, q1, q2, q3, q4, q5, q6, q7⟩ := HE.out (.cells #[.int .i64 0, .int .i64 0] 54)
    clear HE
    rcases (show j = 0 ∨ j = 1 ∨ j = 2 ∨ j = 3 ∨ j = 4 by omega) with rfl | rfl | rfl | rfl | rfl
    · have i0 : ∀ w, (Instr.index 115 (.agg #[.int .i64 216, .int .i64 216, .int .i64 72, .int .i64 8]) (.int .i64 0)).run Try.prog w = .ok (.int .i64 216) w := fun _ => by kernel_rfl
      rw [pSum_0 (216 * x0) (216 * x1) (72 * x2) (8 * x3), pSum_0 (216 * y0) (216 * y1) (72 * y2) (8 * y3)]
      clear hj
      go_wp2
      go_round
      case rel => exact ⟨1, by omega, by go_num, vint (by have h := pSum_1 (216 * x0) (216 * x1) (72 * x2) (8 * x3); omega), vint (by have h := pSum_1 (216 * y0) (216 * y1) (72 * y2) (8 * y3); omega)⟩
      case measure => simp [intOf]
    · have i0 : ∀ w, (Instr.index 115 (.agg #[.int .i64 216, .int .i64 216, .int .i64 72, .int .i64 8]) (.int .i64 1)).run Try.prog w = .ok (.int .i64 216) w := fun _ => by kernel_rfl
      rw [pSum_1 (216 * x0) (216 * x1) (72 * x2) (8 * x3), pSum_1 (216 * y0) (216 * y1) (72 * y2) (8 * y3)]
      clear hj
      go_wp2
      go_round
      case rel => exact ⟨2, by omega, by go_num, vint (by have h := pSum_2 (216 * x0) (216 * x1) (72 * x2) (8 * x3); omega), vint (by have h := pSum_2 (216 * y0) (216 * y1) (72 * y2) (8 * y3); omega)⟩
      case measure => simp [intOf]
    · have i0 : ∀ w, (Instr.index 115 (.agg #[.int .i64 216, .int .i64 216, .int .i64 72, .int .i64 8]) (.int .i64 2)).run Try.prog w = .ok (.int .i64 72) w := fun _ => by kernel_rfl
      rw [pSum_2 (216 * x0) (216 * x1) (72 * x2) (8 * x3), pSum_2 (216 * y0) (216 * y1) (72 * y2) (8 * y3)]
      clear hj
      go_wp2
      go_round
      case rel => exact ⟨3, by omega, by go_num, vint (by have h := pSum_3 (216 * x0) (216 * x1) (72 * x2) (8 * x3); omega), vint (by have h := pSum_3 (216 * y0) (216 * y1) (72 * y2) (8 * y3); omega)⟩
      case measure => simp [intOf]
    · have i0 : ∀ w, (Instr.index 115 (.agg #[.int .i64 216, .int .i64 216, .int .i64 72, .int .i64 8]) (.int .i64 3)).run Try.prog w = .ok (.int .i64 8) w := fun _ => by kernel_rfl
      rw [pSum_3 (216 * x0) (216 * x1) (72 * x2) (8 * x3), pSum_3 (216 * y0) (216 * y1) (72 * y2) (8 * y3)]
      clear hj
      go_wp2
      go_round
      case rel => exact ⟨4, by omega, by go_num, vint (by have h := pSum_4 (216 * x0) (216 * x1) (72 * x2) (8 * x3); omega), vint (by have h := pSum_4 (216 * y0) (216 * y1) (72 * y2) (8 * y3); omega)⟩
      case measure => simp [intOf]
    · clear hj q0 q1 q2 q3 q4 q5 q6 q7
      rw [HVX.out, HVY.out]
      go_wp2_with (go_at_call 81; refine (divDown_any _ _ _ (by omega) (by omega) (by omega) (by omega)).mono ?_; rintro e w' ⟨rfl, rfl⟩)
      exact bodyPost_ret (v := .agg #[.int .i64 (vx / 512), .int .i64 (vy / 512)]) (by simp [results, Try.results84, go_sem]) rfl ⟨rfl, (Kp.refl w).alloc _ _⟩
set_option maxRecDepth 100000 in
set_option maxHeartbeats 4000000 in
theorem icurve3 (w : World) (b off c : Nat) (x0 y0 x1 y1 x2 y2 x3 y3 : Int) (h : Four w b off x0 y0 x1 y1 x2 y2 x3 y3) (f0 : fx x0) (f1 : fx y0) (f2 : fx x1) (f3 : fx y1) (f4 : fx x2) (f5 : fx y2) (f6 : fx x3) (f7 : fx y3) :
    Calls Try.prog 84 #[.slice (some ⟨b, off, none⟩) 4 c, .int .i64 3] w fun e w' => e = .returned (.agg #[.int .i64 (bez x0 x1 x2 x3 3), .int .i64 (bez y0 y1 y2 y3 3)]) ∧ Kp w w' := by
  have ex : bez x0 x1 x2 x3 3 = (pSum (125 * x0) (225 * x1) (135 * x2) (27 * x3) 4) / 512 := by unfold bez; simp only [pSum]; omega
  have ey : bez y0 y1 y2 y3 3 = (pSum (125 * y0) (225 * y1) (135 * y2) (27 * y3) 4) / 512 := by unfold bez; simp only [pSum]; omega
  obtain ⟨vx, hvx⟩ : ∃ v, pSum (125 * x0) (225 * x1) (135 * x2) (27 * x3) 4 = v := ⟨_, rfl⟩
  obtain ⟨vy, hvy⟩ : ∃ v, pSum (125 * y0) (225 * y1) (135 * y2) (27 * y3) 4 = v := ⟨_, rfl⟩
  rw [ex, ey, hvx, hvy]
  have HVX : Hid _ := hvx
  have HVY : Hid _ := hvy
  have bx : -4611686018427387904 ≤ vx ∧ vx ≤ 4611686018427387904 := by have h := pSum_4 (125 * x0) (225 * x1) (135 * x2) (27 * x3); unfold fx at *; omega
  have by' : -4611686018427387904 ≤ vy ∧ vy ≤ 4611686018427387904 := by have h := pSum_4 (125 * y0) (225 * y1) (135 * y2) (27 * y3); unfold fx at *; omega
  clear hvx hvy
  have HE : Hid (∀ o, ((w.alloc o).cell? ⟨b, off, none⟩ = some (.int .i64 x0) ∧ (w.alloc o).cell? ⟨b, off + 1, none⟩ = some (.int .i64 y0) ∧ (w.alloc o).cell? ⟨b, off + 2, none⟩ = some (.int .i64 x1) ∧ (w.alloc o).cell? ⟨b, off + 2 + 1, none⟩ = some (.int .i64 y1) ∧ (w.alloc o).cell? ⟨b, off + 4, none⟩ = some (.int .i64 x2) ∧ (w.alloc o).cell? ⟨b, off + 4 + 1, none⟩ = some (.int .i64 y2) ∧ (w.alloc o).cell? ⟨b, off + 6, none⟩ = some (.int .i64 x3) ∧ (w.alloc o).cell? ⟨b, off + 6 + 1, none⟩ = some (.int .i64 y3))) := fun o => by
    obtain ⟨q0, q1, q2, q3, q4, q5, q6, q7⟩ := h
    have kc : ∀ x v, w.cell? ⟨b, x, none⟩ = some v → (w.alloc o).cell? ⟨b, x, none⟩ = some v := fun x v hv => (Below.cell ((Below.refl w.heap.size w).alloc (Nat.le_refl _) o) (p := ⟨b, x, none⟩) (World.block_lt_of_cell? w ⟨b, x, none⟩ hv)).trans hv
    exact ⟨kc _ _ q0, kc _ _ q1, kc _ _ q2, kc _ _ q3, kc _ _ q4, kc _ _ q5, kc _ _ q6, kc _ _ q7⟩
  clear ex ey h
  unfold fx at *
  go_enter Try.func84, Try.ntmps84
  go_wp2
  go_loop [6, 7, 35] (fun x y i => ∃ j : Nat, j ≤ 4 ∧ i = .int .i64 j ∧ x = .int .i64 (pSum (125 * x0) (225 * x1) (135 * x2) (27 * x3) j) ∧ y = .int .i64 (pSum (125 * y0) (225 * y1) (135 * y2) (27 * y3) j)) (fun _ _ i => 4 - (intOf i).toNat)
  case atStart => exact ⟨0, by omega, rfl, rfl, rfl⟩
  case round =>
    obtain ⟨j, hj, rfl, rfl, rfl⟩ := hrel
    obtain ⟨q0, q1, q2, q3, q4, q5, q6, q7⟩ := HE.out (.cells #[.int .i64 0, .int .i64 0] 54)
    clear HE
    rcases (show j = 0 ∨ j = 1 ∨ j = 2 ∨ j = 3 ∨ j = 4 by omega) with rfl | rfl | rfl | rfl | rfl
    · have i0 : ∀ w, (Instr.index 115 (.agg #[.int .i64 125, .int .i64 225, .int .i64 135, .int .i64 27]) (.int .i64 0)).run Try.prog w = .ok (.int .i64 125) w := fun _ => by kernel_rfl
      rw [pSum_0 (125 * x0) (225 * x1) (135 * x2) (27 * x3), pSum_0 (125 * y0) (225 * y1) (135 * y2) (27 * y3)]
      clear hj
      go_wp2
      go_round
      case rel => exact ⟨1, by omega, by go_num, vint (by have h := pSum_1 (125 * x0) (225 * x1) (135 * x2) (27 * x3); omega), vint (by have h := pSum_1 (125 * y0) (225 * y1) (135 * y2) (27 * y3); omega)⟩
      case measure => simp [intOf]
    · have i0 : ∀ w, (Instr.index 115 (.agg #[.int .i64 125, .int .i64 225, .int .i64 135, .int .i64 27]) (.int .i64 1)).run Try.prog w = .ok (.int .i64 225) w := fun _ => by kernel_rfl
      rw [pSum_1 (125 * x0) (225 * x1) (135 * x2) (27 * x3), pSum_1 (125 * y0) (225 * y1) (135 * y2) (27 * y3)]
      clear hj
      go_wp2
      go_round
      case rel => exact ⟨2, by omega, by go_num, vint (by have h := pSum_2 (125 * x0) (225 * x1) (135 * x2) (27 * x3); omega), vint (by have h := pSum_2 (125 * y0) (225 * y1) (135 * y2) (27 * y3); omega)⟩
      case measure => simp [intOf]
    · have i0 : ∀ w, (Instr.index 115 (.agg #[.int .i64 125, .int .i64 225, .int .i64 135, .int .i64 27]) (.int .i64 2)).run Try.prog w = .ok (.int .i64 135) w := fun _ => by kernel_rfl
      rw [pSum_2 (125 * x0) (225 * x1) (135 * x2) (27 * x3), pSum_2 (125 * y0) (225 * y1) (135 * y2) (27 * y3)]
      clear hj
      go_wp2
      go_round
      case rel => exact ⟨3, by omega, by go_num, vint (by have h := pSum_3 (125 * x0) (225 * x1) (135 * x2) (27 * x3); omega), vint (by have h := pSum_3 (125 * y0) (225 * y1) (135 * y2) (27 * y3); omega)⟩
      case measure => simp [intOf]
    · have i0 : ∀ w, (Instr.index 115 (.agg #[.int .i64 125, .int .i64 225, .int .i64 135, .int .i64 27]) (.int .i64 3)).run Try.prog w = .ok (.int .i64 27) w := fun _ => by kernel_rfl
      rw [pSum_3 (125 * x0) (225 * x1) (135 * x2) (27 * x3), pSum_3 (125 * y0) (225 * y1) (135 * y2) (27 * y3)]
      clear hj
      go_wp2
      go_round
      case rel => exact ⟨4, by omega, by go_num, vint (by have h := pSum_4 (125 * x0) (225 * x1) (135 * x2) (27 * x3); omega), vint (by have h := pSum_4 (125 * y0) (225 * y1) (135 * y2) (27 * y3); omega)⟩
      case measure => simp [intOf]
    · clear hj q0 q1 q2 q3 q4 q5 q6 q7
      rw [HVX.out, HVY.out]
      go_wp2_with (go_at_call 81; refine (divDown_any _ _ _ (by omega) (by omega) (by omega) (by omega)).mono ?_; rintro e w' ⟨rfl, rfl⟩)
      exact bodyPost_ret (v := .agg #[.int .i64 (vx / 512), .int .i64 (vy / 512)]) (by simp [results, Try.results84, go_sem]) rfl ⟨rfl, (Kp.refl w).alloc _ _⟩
set_option maxRecDepth 100000 in
set_option maxHeartbeats 4000000 in
theorem icurve4 (w : World) (b off c : Nat) (x0 y0 x1 y1 x2 y2 x3 y3 : Int) (h : Four w b off x0 y0 x1 y1 x2 y2 x3 y3) (f0 : fx x0) (f1 : fx y0) (f2 : fx x1) (f3 : fx y1) (f4 : fx x2) (f5 : fx y2) (f6 : fx x3) (f7 : fx y3) :
    Calls Try.prog 84 #[.slice (some ⟨b, off, none⟩) 4 c, .int .i64 4] w fun e w' => e = .returned (.agg #[.int .i64 (bez x0 x1 x2 x3 4), .int .i64 (bez y0 y1 y2 y3 4)]) ∧ Kp w w' := by
  have ex : bez x0 x1 x2 x3 4 = (pSum (64 * x0) (192 * x1) (192 * x2) (64 * x3) 4) / 512 := by unfold bez; simp only [pSum]; omega
  have ey : bez y0 y1 y2 y3 4 = (pSum (64 * y0) (192 * y1) (192 * y2) (64 * y3) 4) / 512 := by unfold bez; simp only [pSum]; omega
  obtain ⟨vx, hvx⟩ : ∃ v, pSum (64 * x0) (192 * x1) (192 * x2) (64 * x3) 4 = v := ⟨_, rfl⟩
  obtain ⟨vy, hvy⟩ : ∃ v, pSum (64 * y0) (192 * y1) (192 * y2) (64 * y3) 4 = v := ⟨_, rfl⟩
  rw [ex, ey, hvx, hvy]
  have HVX : Hid _ := hvx
  have HVY : Hid _ := hvy
  have bx : -4611686018427387904 ≤ vx ∧ vx ≤ 4611686018427387904 := by have h := pSum_4 (64 * x0) (192 * x1) (192 * x2) (64 * x3); unfold fx at *; omega
  have by' : -4611686018427387904 ≤ vy ∧ vy ≤ 4611686018427387904 := by have h := pSum_4 (64 * y0) (192 * y1) (192 * y2) (64 * y3); unfold fx at *; omega
  clear hvx hvy
  have HE : Hid (∀ o, ((w.alloc o).cell? ⟨b, off, none⟩ = some (.int .i64 x0) ∧ (w.alloc o).cell? ⟨b, off + 1, none⟩ = some (.int .i64 y0) ∧ (w.alloc o).cell? ⟨b, off + 2, none⟩ = some (.int .i64 x1) ∧ (w.alloc o).cell? ⟨b, off + 2 + 1, none⟩ = some (.int .i64 y1) ∧ (w.alloc o).cell? ⟨b, off + 4, none⟩ = some (.int .i64 x2) ∧ (w.alloc o).cell? ⟨b, off + 4 + 1, none⟩ = some (.int .i64 y2) ∧ (w.alloc o).cell? ⟨b, off + 6, none⟩ = some (.int .i64 x3) ∧ (w.alloc o).cell? ⟨b, off + 6 + 1, none⟩ = some (.int .i64 y3))) := fun o => by
    obtain ⟨q0, q1, q2, q3, q4, q5, q6, q7⟩ := h
    have kc : ∀ x v, w.cell? ⟨b, x, none⟩ = some v → (w.alloc o).cell? ⟨b, x, none⟩ = some v := fun x v hv => (Below.cell ((Below.refl w.heap.size w).alloc (Nat.le_refl _) o) (p := ⟨b, x, none⟩) (World.block_lt_of_cell? w ⟨b, x, none⟩ hv)).trans hv
    exact ⟨kc _ _ q0, kc _ _ q1, kc _ _ q2, kc _ _ q3, kc _ _ q4, kc _ _ q5, kc _ _ q6, kc _ _ q7⟩
  clear ex ey h
  unfold fx at *
  go_enter Try.func84, Try.ntmps84
  go_wp2
  go_loop [6, 7, 35] (fun x y i => ∃ j : Nat, j ≤ 4 ∧ i = .int .i64 j ∧ x = .int .i64 (pSum (64 * x0) (192 * x1) (192 * x2) (64 * x3) j) ∧ y = .int .i64 (pSum (64 * y0) (192 * y1) (192 * y2) (64 * y3) j)) (fun _ _ i => 4 - (intOf i).toNat)
  case atStart => exact ⟨0, by omega, rfl, rfl, rfl⟩
  case round =>
    obtain ⟨j, hj, rfl, rfl, rfl⟩ := hrel
    obtain ⟨q0, q1, q2, q3, q4, q5, q6, q7⟩ := HE.out (.cells #[.int .i64 0, .int .i64 0] 54)
    clear HE
    rcases (show j = 0 ∨ j = 1 ∨ j = 2 ∨ j = 3 ∨ j = 4 by omega) with rfl | rfl | rfl | rfl | rfl
    · have i0 : ∀ w, (Instr.index 115 (.agg #[.int .i64 64, .int .i64 192, .int .i64 192, .int .i64 64]) (.int .i64 0)).run Try.prog w = .ok (.int .i64 64) w := fun _ => by kernel_rfl
      rw [pSum_0 (64 * x0) (192 * x1) (192 * x2) (64 * x3), pSum_0 (64 * y0) (192 * y1) (192 * y2) (64 * y3)]
      clear hj
      go_wp2
      go_round
      case rel => exact ⟨1, by omega, by go_num, vint (by have h := pSum_1 (64 * x0) (192 * x1) (192 * x2) (64 * x3); omega), vint (by have h := pSum_1 (64 * y0) (192 * y1) (192 * y2) (64 * y3); omega)⟩
      case measure => simp [intOf]
    · have i0 : ∀ w, (Instr.index 115 (.agg #[.int .i64 64, .int .i64 192, .int .i64 192, .int .i64 64]) (.int .i64 1)).run Try.prog w = .ok (.int .i64 192) w := fun _ => by kernel_rfl
      rw [pSum_1 (64 * x0) (192 * x1) (192 * x2) (64 * x3), pSum_1 (64 * y0) (192 * y1) (192 * y2) (64 * y3)]
      clear hj
      go_wp2
      go_round
      case rel => exact ⟨2, by omega, by go_num, vint (by have h := pSum_2 (64 * x0) (192 * x1) (192 * x2) (64 * x3); omega), vint (by have h := pSum_2 (64 * y0) (192 * y1) (192 * y2) (64 * y3); omega)⟩
      case measure => simp [intOf]
    · have i0 : ∀ w, (Instr.index 115 (.agg #[.int .i64 64, .int .i64 192, .int .i64 192, .int .i64 64]) (.int .i64 2)).run Try.prog w = .ok (.int .i64 192) w := fun _ => by kernel_rfl
      rw [pSum_2 (64 * x0) (192 * x1) (192 * x2) (64 * x3), pSum_2 (64 * y0) (192 * y1) (192 * y2) (64 * y3)]
      clear hj
      go_wp2
      go_round
      case rel => exact ⟨3, by omega, by go_num, vint (by have h := pSum_3 (64 * x0) (192 * x1) (192 * x2) (64 * x3); omega), vint (by have h := pSum_3 (64 * y0) (192 * y1) (192 * y2) (64 * y3); omega)⟩
      case measure => simp [intOf]
    · have i0 : ∀ w, (Instr.index 115 (.agg #[.int .i64 64, .int .i64 192, .int .i64 192, .int .i64 64]) (.int .i64 3)).run Try.prog w = .ok (.int .i64 64) w := fun _ => by kernel_rfl
      rw [pSum_3 (64 * x0) (192 * x1) (192 * x2) (64 * x3), pSum_3 (64 * y0) (192 * y1) (192 * y2) (64 * y3)]
      clear hj
      go_wp2
      go_round
      case rel => exact ⟨4, by omega, by go_num, vint (by have h := pSum_4 (64 * x0) (192 * x1) (192 * x2) (64 * x3); omega), vint (by have h := pSum_4 (64 * y0) (192 * y1) (192 * y2) (64 * y3); omega)⟩
      case measure => simp [intOf]
    · clear hj q0 q1 q2 q3 q4 q5 q6 q7
      rw [HVX.out, HVY.out]
      go_wp2_with (go_at_call 81; refine (divDown_any _ _ _ (by omega) (by omega) (by omega) (by omega)).mono ?_; rintro e w' ⟨rfl, rfl⟩)
      exact bodyPost_ret (v := .agg #[.int .i64 (vx / 512), .int .i64 (vy / 512)]) (by simp [results, Try.results84, go_sem]) rfl ⟨rfl, (Kp.refl w).alloc _ _⟩
set_option maxRecDepth 100000 in
set_option maxHeartbeats 4000000 in
theorem icurve5 (w : World) (b off c : Nat) (x0 y0 x1 y1 x2 y2 x3 y3 : Int) (h : Four w b off x0 y0 x1 y1 x2 y2 x3 y3) (f0 : fx x0) (f1 : fx y0) (f2 : fx x1) (f3 : fx y1) (f4 : fx x2) (f5 : fx y2) (f6 : fx x3) (f7 : fx y3) :
    Calls Try.prog 84 #[.slice (some ⟨b, off, none⟩) 4 c, .int .i64 5] w fun e w' => e = .returned (.agg #[.int .i64 (bez x0 x1 x2 x3 5), .int .i64 (bez y0 y1 y2 y3 5)]) ∧ Kp w w' := by
  have ex : bez x0 x1 x2 x3 5 = (pSum (27 * x0) (135 * x1) (225 * x2) (125 * x3) 4) / 512 := by unfold bez; simp only [pSum]; omega
  have ey : bez y0 y1 y2 y3 5 = (pSum (27 * y0) (135 * y1) (225 * y2) (125 * y3) 4) / 512 := by unfold bez; simp only [pSum]; omega
  obtain ⟨vx, hvx⟩ : ∃ v, pSum (27 * x0) (135 * x1) (225 * x2) (125 * x3) 4 = v := ⟨_, rfl⟩
  obtain ⟨vy, hvy⟩ : ∃ v, pSum (27 * y0) (135 * y1) (225 * y2) (125 * y3) 4 = v := ⟨_, rfl⟩
  rw [ex, ey, hvx, hvy]
  have HVX : Hid _ := hvx
  have HVY : Hid _ := hvy
  have bx : -4611686018427387904 ≤ vx ∧ vx ≤ 4611686018427387904 := by have h := pSum_4 (27 * x0) (135 * x1) (225 * x2) (125 * x3); unfold fx at *; omega
  have by' : -4611686018427387904 ≤ vy ∧ vy ≤ 4611686018427387904 := by have h := pSum_4 (27 * y0) (135 * y1) (225 * y2) (125 * y3); unfold fx at *; omega
  clear hvx hvy
  have HE : Hid (∀ o, ((w.alloc o).cell? ⟨b, off, none⟩ = some (.int .i64 x0) ∧ (w.alloc o).cell? ⟨b, off + 1, none⟩ = some (.int .i64 y0) ∧ (w.alloc o).cell? ⟨b, off + 2, none⟩ = some (.int .i64 x1) ∧ (w.alloc o).cell? ⟨b, off + 2 + 1, none⟩ = some (.int .i64 y1) ∧ (w.alloc o).cell? ⟨b, off + 4, none⟩ = some (.int .i64 x2) ∧ (w.alloc o).cell? ⟨b, off + 4 + 1, none⟩ = some (.int .i64 y2) ∧ (w.alloc o).cell? ⟨b, off + 6, none⟩ = some (.int .i64 x3) ∧ (w.alloc o).cell? ⟨b, off + 6 + 1, none⟩ = some (.int .i64 y3))) := fun o => by
    obtain ⟨q0, q1, q2, q3, q4, q5, q6, q7⟩ := h
    have kc : ∀ x v, w.cell? ⟨b, x, none⟩ = some v → (w.alloc o).cell? ⟨b, x, none⟩ = some v := fun x v hv => (Below.cell ((Below.refl w.heap.size w).alloc (Nat.le_refl _) o) (p := ⟨b, x, none⟩) (World.block_lt_of_cell? w ⟨b, x, none⟩ hv)).trans hv
    exact ⟨kc _ _ q0, kc _ _ q1, kc _ _ q2, kc _ _ q3, kc _ _ q4, kc _ _ q5, kc _ _ q6, kc _ _ q7⟩
  clear ex ey h
  unfold fx at *
  go_enter Try.func84, Try.ntmps84
  go_wp2
  go_loop [6, 7, 35] (fun x y i => ∃ j : Nat, j ≤ 4 ∧ i = .int .i64 j ∧ x = .int .i64 (pSum (27 * x0) (135 * x1) (225 * x2) (125 * x3) j) ∧ y = .int .i64 (pSum (27 * y0) (135 * y1) (225 * y2) (125 * y3) j)) (fun _ _ i => 4 - (intOf i).toNat)
  case atStart => exact ⟨0, by omega, rfl, rfl, rfl⟩
  case round =>
    obtain ⟨j, hj, rfl, rfl, rfl⟩ := hrel
    obtain ⟨q0, q1, q2, q3, q4, q5, q6, q7⟩ := HE.out (.cells #[.int .i64 0, .int .i64 0] 54)
    clear HE
    rcases (show j = 0 ∨ j = 1 ∨ j = 2 ∨ j = 3 ∨ j = 4 by omega) with rfl | rfl | rfl | rfl | rfl
    · have i0 : ∀ w, (Instr.index 115 (.agg #[.int .i64 27, .int .i64 135, .int .i64 225, .int .i64 125]) (.int .i64 0)).run Try.prog w = .ok (.int .i64 27) w := fun _ => by kernel_rfl
      rw [pSum_0 (27 * x0) (135 * x1) (225 * x2) (125 * x3), pSum_0 (27 * y0) (135 * y1) (225 * y2) (125 * y3)]
      clear hj
      go_wp2
      go_round
      case rel => exact ⟨1, by omega, by go_num, vint (by have h := pSum_1 (27 * x0) (135 * x1) (225 * x2) (125 * x3); omega), vint (by have h := pSum_1 (27 * y0) (135 * y1) (225 * y2) (125 * y3); omega)⟩
      case measure => simp [intOf]
    · have i0 : ∀ w, (Instr.index 115 (.agg #[.int .i64 27, .int .i64 135, .int .i64 225, .int .i64 125]) (.int .i64 1)).run Try.prog w = .ok (.int .i64 135) w := fun _ => by kernel_rfl
      rw [pSum_1 (27 * x0) (135 * x1) (225 * x2) (125 * x3), pSum_1 (27 * y0) (135 * y1) (225 * y2) (125 * y3)]
      clear hj
      go_wp2
      go_round
      case rel => exact ⟨2, by omega, by go_num, vint (by have h := pSum_2 (27 * x0) (135 * x1) (225 * x2) (125 * x3); omega), vint (by have h := pSum_2 (27 * y0) (135 * y1) (225 * y2) (125 * y3); omega)⟩
      case measure => simp [intOf]
    · have i0 : ∀ w, (Instr.index 115 (.agg #[.int .i64 27, .int .i64 135, .int .i64 225, .int .i64 125]) (.int .i64 2)).run Try.prog w = .ok (.int .i64 225) w := fun _ => by kernel_rfl
      rw [pSum_2 (27 * x0) (135 * x1) (225 * x2) (125 * x3), pSum_2 (27 * y0) (135 * y1) (225 * y2) (125 * y3)]
      clear hj
      go_wp2
      go_round
      case rel => exact ⟨3, by omega, by go_num, vint (by have h := pSum_3 (27 * x0) (135 * x1) (225 * x2) (125 * x3); omega), vint (by have h := pSum_3 (27 * y0) (135 * y1) (225 * y2) (125 * y3); omega)⟩
      case measure => simp [intOf]
    · have i0 : ∀ w, (Instr.index 115 (.agg #[.int .i64 27, .int .i64 135, .int .i64 225, .int .i64 125]) (.int .i64 3)).run Try.prog w = .ok (.int .i64 125) w := fun _ => by kernel_rfl
      rw [pSum_3 (27 * x0) (135 * x1) (225 * x2) (125 * x3), pSum_3 (27 * y0) (135 * y1) (225 * y2) (125 * y3)]
      clear hj
      go_wp2
      go_round
      case rel => exact ⟨4, by omega, by go_num, vint (by have h := pSum_4 (27 * x0) (135 * x1) (225 * x2) (125 * x3); omega), vint (by have h := pSum_4 (27 * y0) (135 * y1) (225 * y2) (125 * y3); omega)⟩
      case measure => simp [intOf]
    · clear hj q0 q1 q2 q3 q4 q5 q6 q7
      rw [HVX.out, HVY.out]
      go_wp2_with (go_at_call 81; refine (divDown_any _ _ _ (by omega) (by omega) (by omega) (by omega)).mono ?_; rintro e w' ⟨rfl, rfl⟩)
      exact bodyPost_ret (v := .agg #[.int .i64 (vx / 512), .int .i64 (vy / 512)]) (by simp [results, Try.results84, go_sem]) rfl ⟨rfl, (Kp.refl w).alloc _ _⟩
set_option maxRecDepth 100000 in
set_option maxHeartbeats 4000000 in
theorem icurve6 (w : World) (b off c : Nat) (x0 y0 x1 y1 x2 y2 x3 y3 : Int) (h : Four w b off x0 y0 x1 y1 x2 y2 x3 y3) (f0 : fx x0) (f1 : fx y0) (f2 : fx x1) (f3 : fx y1) (f4 : fx x2) (f5 : fx y2) (f6 : fx x3) (f7 : fx y3) :
    Calls Try.prog 84 #[.slice (some ⟨b, off, none⟩) 4 c, .int .i64 6] w fun e w' => e = .returned (.agg #[.int .i64 (bez x0 x1 x2 x3 6), .int .i64 (bez y0 y1 y2 y3 6)]) ∧ Kp w w' := by
  have ex : bez x0 x1 x2 x3 6 = (pSum (8 * x0) (72 * x1) (216 * x2) (216 * x3) 4) / 512 := by unfold bez; simp only [pSum]; omega
  have ey : bez y0 y1 y2 y3 6 = (pSum (8 * y0) (72 * y1) (216 * y2) (216 * y3) 4) / 512 := by unfold bez; simp only [pSum]; omega
  obtain ⟨vx, hvx⟩ : ∃ v, pSum (8 * x0) (72 * x1) (216 * x2) (216 * x3) 4 = v := ⟨_, rfl⟩
  obtain ⟨vy, hvy⟩ : ∃ v, pSum (8 * y0) (72 * y1) (216 * y2) (216 * y3) 4 = v := ⟨_, rfl⟩
  rw [ex, ey, hvx, hvy]
  have HVX : Hid _ := hvx
  have HVY : Hid _ := hvy
  have bx : -4611686018427387904 ≤ vx ∧ vx ≤ 4611686018427387904 := by have h := pSum_4 (8 * x0) (72 * x1) (216 * x2) (216 * x3); unfold fx at *; omega
  have by' : -4611686018427387904 ≤ vy ∧ vy ≤ 4611686018427387904 := by have h := pSum_4 (8 * y0) (72 * y1) (216 * y2) (216 * y3); unfold fx at *; omega
  clear hvx hvy
  have HE : Hid (∀ o, ((w.alloc o).cell? ⟨b, off, none⟩ = some (.int .i64 x0) ∧ (w.alloc o).cell? ⟨b, off + 1, none⟩ = some (.int .i64 y0) ∧ (w.alloc o).cell? ⟨b, off + 2, none⟩ = some (.int .i64 x1) ∧ (w.alloc o).cell? ⟨b, off + 2 + 1, none⟩ = some (.int .i64 y1) ∧ (w.alloc o).cell? ⟨b, off + 4, none⟩ = some (.int .i64 x2) ∧ (w.alloc o).cell? ⟨b, off + 4 + 1, none⟩ = some (.int .i64 y2) ∧ (w.alloc o).cell? ⟨b, off + 6, none⟩ = some (.int .i64 x3) ∧ (w.alloc o).cell? ⟨b, off + 6 + 1, none⟩ = some (.int .i64 y3))) := fun o => by
    obtain ⟨q0, q1, q2, q3, q4, q5, q6, q7⟩ := h
    have kc : ∀ x v, w.cell? ⟨b, x, none⟩ = some v → (w.alloc o).cell? ⟨b, x, none⟩ = some v := fun x v hv => (Below.cell ((Below.refl w.heap.size w).alloc (Nat.le_refl _) o) (p := ⟨b, x, none⟩) (World.block_lt_of_cell? w ⟨b, x, none⟩ hv)).trans hv
    exact ⟨kc _ _ q0, kc _ _ q1, kc _ _ q2, kc _ _ q3, kc _ _ q4, kc _ _ q5, kc _ _ q6, kc _ _ q7⟩
  clear ex ey h
  unfold fx at *
  go_enter Try.func84, Try.ntmps84
  go_wp2
  go_loop [6, 7, 35] (fun x y i => ∃ j : Nat, j ≤ 4 ∧ i = .int .i64 j ∧ x = .int .i64 (pSum (8 * x0) (72 * x1) (216 * x2) (216 * x3) j) ∧ y = .int .i64 (pSum (8 * y0) (72 * y1) (216 * y2) (216 * y3) j)) (fun _ _ i => 4 - (intOf i).toNat)
  case atStart => exact ⟨0, by omega, rfl, rfl, rfl⟩
  case round =>
    obtain ⟨j, hj, rfl, rfl, rfl⟩ := hrel
    obtain ⟨q0, q1, q2, q3, q4, q5, q6, q7⟩ := HE.out (.cells #[.int .i64 0, .int .i64 0] 54)
    clear HE
    rcases (show j = 0 ∨ j = 1 ∨ j = 2 ∨ j = 3 ∨ j = 4 by omega) with rfl | rfl | rfl | rfl | rfl
    · have i0 : ∀ w, (Instr.index 115 (.agg #[.int .i64 8, .int .i64 72, .int .i64 216, .int .i64 216]) (.int .i64 0)).run Try.prog w = .ok (.int .i64 8) w := fun _ => by kernel_rfl
      rw [pSum_0 (8 * x0) (72 * x1) (216 * x2) (216 * x3), pSum_0 (8 * y0) (72 * y1) (216 * y2) (216 * y3)]
      clear hj
      go_wp2
      go_round
      case rel => exact ⟨1, by omega, by go_num, vint (by have h := pSum_1 (8 * x0) (72 * x1) (216 * x2) (216 * x3); omega), vint (by have h := pSum_1 (8 * y0) (72 * y1) (216 * y2) (216 * y3); omega)⟩
      case measure => simp [intOf]
    · have i0 : ∀ w, (Instr.index 115 (.agg #[.int .i64 8, .int .i64 72, .int .i64 216, .int .i64 216]) (.int .i64 1)).run Try.prog w = .ok (.int .i64 72) w := fun _ => by kernel_rfl
      rw [pSum_1 (8 * x0) (72 * x1) (216 * x2) (216 * x3), pSum_1 (8 * y0) (72 * y1) (216 * y2) (216 * y3)]
      clear hj
      go_wp2
      go_round
      case rel => exact ⟨2, by omega, by go_num, vint (by have h := pSum_2 (8 * x0) (72 * x1) (216 * x2) (216 * x3); omega), vint (by have h := pSum_2 (8 * y0) (72 * y1) (216 * y2) (216 * y3); omega)⟩
      case measure => simp [intOf]
    · have i0 : ∀ w, (Instr.index 115 (.agg #[.int .i64 8, .int .i64 72, .int .i64 216, .int .i64 216]) (.int .i64 2)).run Try.prog w = .ok (.int .i64 216) w := fun _ => by kernel_rfl
      rw [pSum_2 (8 * x0) (72 * x1) (216 * x2) (216 * x3), pSum_2 (8 * y0) (72 * y1) (216 * y2) (216 * y3)]
      clear hj
      go_wp2
      go_round
      case rel => exact ⟨3, by omega, by go_num, vint (by have h := pSum_3 (8 * x0) (72 * x1) (216 * x2) (216 * x3); omega), vint (by have h := pSum_3 (8 * y0) (72 * y1) (216 * y2) (216 * y3); omega)⟩
      case measure => simp [intOf]
    · have i0 : ∀ w, (Instr.index 115 (.agg #[.int .i64 8, .int .i64 72, .int .i64 216, .int .i64 216]) (.int .i64 3)).run Try.prog w = .ok (.int .i64 216) w := fun _ => by kernel_rfl
      rw [pSum_3 (8 * x0) (72 * x1) (216 * x2) (216 * x3), pSum_3 (8 * y0) (72 * y1) (216 * y2) (216 * y3)]
      clear hj
      go_wp2
      go_round
      case rel => exact ⟨4, by omega, by go_num, vint (by have h := pSum_4 (8 * x0) (72 * x1) (216 * x2) (216 * x3); omega), vint (by have h := pSum_4 (8 * y0) (72 * y1) (216 * y2) (216 * y3); omega)⟩
      case measure => simp [intOf]
    · clear hj q0 q1 q2 q3 q4 q5 q6 q7
      rw [HVX.out, HVY.out]
      go_wp2_with (go_at_call 81; refine (divDown_any _ _ _ (by omega) (by omega) (by omega) (by omega)).mono ?_; rintro e w' ⟨rfl, rfl⟩)
      exact bodyPost_ret (v := .agg #[.int .i64 (vx / 512), .int .i64 (vy / 512)]) (by simp [results, Try.results84, go_sem]) rfl ⟨rfl, (Kp.refl w).alloc _ _⟩
set_option maxRecDepth 100000 in
set_option maxHeartbeats 4000000 in
theorem icurve7 (w : World) (b off c : Nat) (x0 y0 x1 y1 x2 y2 x3 y3 : Int) (h : Four w b off x0 y0 x1 y1 x2 y2 x3 y3) (f0 : fx x0) (f1 : fx y0) (f2 : fx x1) (f3 : fx y1) (f4 : fx x2) (f5 : fx y2) (f6 : fx x3) (f7 : fx y3) :
    Calls Try.prog 84 #[.slice (some ⟨b, off, none⟩) 4 c, .int .i64 7] w fun e w' => e = .returned (.agg #[.int .i64 (bez x0 x1 x2 x3 7), .int .i64 (bez y0 y1 y2 y3 7)]) ∧ Kp w w' := by
  have ex : bez x0 x1 x2 x3 7 = (pSum (1 * x0) (21 * x1) (147 * x2) (343 * x3) 4) / 512 := by unfold bez; simp only [pSum]; omega
  have ey : bez y0 y1 y2 y3 7 = (pSum (1 * y0) (21 * y1) (147 * y2) (343 * y3) 4) / 512 := by unfold bez; simp only [pSum]; omega
  obtain ⟨vx, hvx⟩ : ∃ v, pSum (1 * x0) (21 * x1) (147 * x2) (343 * x3) 4 = v := ⟨_, rfl⟩
  obtain ⟨vy, hvy⟩ : ∃ v, pSum (1 * y0) (21 * y1) (147 * y2) (343 * y3) 4 = v := ⟨_, rfl⟩
  rw [ex, ey, hvx, hvy]
  have HVX : Hid _ := hvx
  have HVY : Hid _ := hvy
  have bx : -4611686018427387904 ≤ vx ∧ vx ≤ 4611686018427387904 := by have h := pSum_4 (1 * x0) (21 * x1) (147 * x2) (343 * x3); unfold fx at *; omega
  have by' : -4611686018427387904 ≤ vy ∧ vy ≤ 4611686018427387904 := by have h := pSum_4 (1 * y0) (21 * y1) (147 * y2) (343 * y3); unfold fx at *; omega
  clear hvx hvy
  have HE : Hid (∀ o, ((w.alloc o).cell? ⟨b, off, none⟩ = some (.int .i64 x0) ∧ (w.alloc o).cell? ⟨b, off + 1, none⟩ = some (.int .i64 y0) ∧ (w.alloc o).cell? ⟨b, off + 2, none⟩ = some (.int .i64 x1) ∧ (w.alloc o).cell? ⟨b, off + 2 + 1, none⟩ = some (.int .i64 y1) ∧ (w.alloc o).cell? ⟨b, off + 4, none⟩ = some (.int .i64 x2) ∧ (w.alloc o).cell? ⟨b, off + 4 + 1, none⟩ = some (.int .i64 y2) ∧ (w.alloc o).cell? ⟨b, off + 6, none⟩ = some (.int .i64 x3) ∧ (w.alloc o).cell? ⟨b, off + 6 + 1, none⟩ = some (.int .i64 y3))) := fun o => by
    obtain ⟨q0, q1, q2, q3, q4, q5, q6, q7⟩ := h
    have kc : ∀ x v, w.cell? ⟨b, x, none⟩ = some v → (w.alloc o).cell? ⟨b, x, none⟩ = some v := fun x v hv => (Below.cell ((Below.refl w.heap.size w).alloc (Nat.le_refl _) o) (p := ⟨b, x, none⟩) (World.block_lt_of_cell? w ⟨b, x, none⟩ hv)).trans hv
    exact ⟨kc _ _ q0, kc _ _ q1, kc _ _ q2, kc _ _ q3, kc _ _ q4, kc _ _ q5, kc _ _ q6, kc _ _ q7⟩
  clear ex ey h
  unfold fx at *
  go_enter Try.func84, Try.ntmps84
  go_wp2
  go_loop [6, 7, 35] (fun x y i => ∃ j : Nat, j ≤ 4 ∧ i = .int .i64 j ∧ x = .int .i64 (pSum (1 * x0) (21 * x1) (147 * x2) (343 * x3) j) ∧ y = .int .i64 (pSum (1 * y0) (21 * y1) (147 * y2) (343 * y3) j)) (fun _ _ i => 4 - (intOf i).toNat)
  case atStart => exact ⟨0, by omega, rfl, rfl, rfl⟩
  case round =>
    obtain ⟨j, hj, rfl, rfl, rfl⟩ := hrel
    obtain ⟨q0, q1, q2, q3, q4, q5, q6, q7⟩ := HE.out (.cells #[.int .i64 0, .int .i64 0] 54)
    clear HE
    rcases (show j = 0 ∨ j = 1 ∨ j = 2 ∨ j = 3 ∨ j = 4 by omega) with rfl | rfl | rfl | rfl | rfl
    · have i0 : ∀ w, (Instr.index 115 (.agg #[.int .i64 1, .int .i64 21, .int .i64 147, .int .i64 343]) (.int .i64 0)).run Try.prog w = .ok (.int .i64 1) w := fun _ => by kernel_rfl
      rw [pSum_0 (1 * x0) (21 * x1) (147 * x2) (343 * x3), pSum_0 (1 * y0) (21 * y1) (147 * y2) (343 * y3)]
      clear hj
      go_wp2
      go_round
      case rel => exact ⟨1, by omega, by go_num, vint (by have h := pSum_1 (1 * x0) (21 * x1) (147 * x2) (343 * x3); omega), vint (by have h := pSum_1 (1 * y0) (21 * y1) (147 * y2) (343 * y3); omega)⟩
      case measure => simp [intOf]
    · have i0 : ∀ w, (Instr.index 115 (.agg #[.int .i64 1, .int .i64 21, .int .i64 147, .int .i64 343]) (.int .i64 1)).run Try.prog w = .ok (.int .i64 21) w := fun _ => by kernel_rfl
      rw [pSum_1 (1 * x0) (21 * x1) (147 * x2) (343 * x3), pSum_1 (1 * y0) (21 * y1) (147 * y2) (343 * y3)]
      clear hj
      go_wp2
      go_round
      case rel => exact ⟨2, by omega, by go_num, vint (by have h := pSum_2 (1 * x0) (21 * x1) (147 * x2) (343 * x3); omega), vint (by have h := pSum_2 (1 * y0) (21 * y1) (147 * y2) (343 * y3); omega)⟩
      case measure => simp [intOf]
    · have i0 : ∀ w, (Instr.index 115 (.agg #[.int .i64 1, .int .i64 21, .int .i64 147, .int .i64 343]) (.int .i64 2)).run Try.prog w = .ok (.int .i64 147) w := fun _ => by kernel_rfl
      rw [pSum_2 (1 * x0) (21 * x1) (147 * x2) (343 * x3), pSum_2 (1 * y0) (21 * y1) (147 * y2) (343 * y3)]
      clear hj
      go_wp2
      go_round
      case rel => exact ⟨3, by omega, by go_num, vint (by have h := pSum_3 (1 * x0) (21 * x1) (147 * x2) (343 * x3); omega), vint (by have h := pSum_3 (1 * y0) (21 * y1) (147 * y2) (343 * y3); omega)⟩
      case measure => simp [intOf]
    · have i0 : ∀ w, (Instr.index 115 (.agg #[.int .i64 1, .int .i64 21, .int .i64 147, .int .i64 343]) (.int .i64 3)).run Try.prog w = .ok (.int .i64 343) w := fun _ => by kernel_rfl
      rw [pSum_3 (1 * x0) (21 * x1) (147 * x2) (343 * x3), pSum_3 (1 * y0) (21 * y1) (147 * y2) (343 * y3)]
      clear hj
      go_wp2
      go_round
      case rel => exact ⟨4, by omega, by go_num, vint (by have h := pSum_4 (1 * x0) (21 * x1) (147 * x2) (343 * x3); omega), vint (by have h := pSum_4 (1 * y0) (21 * y1) (147 * y2) (343 * y3); omega)⟩
      case measure => simp [intOf]
    · clear hj q0 q1 q2 q3 q4 q5 q6 q7
      rw [HVX.out, HVY.out]
      go_wp2_with (go_at_call 81; refine (divDown_any _ _ _ (by omega) (by omega) (by omega) (by omega)).mono ?_; rintro e w' ⟨rfl, rfl⟩)
      exact bodyPost_ret (v := .agg #[.int .i64 (vx / 512), .int .i64 (vy / 512)]) (by simp [results, Try.results84, go_sem]) rfl ⟨rfl, (Kp.refl w).alloc _ _⟩
set_option maxRecDepth 100000 in
set_option maxHeartbeats 4000000 in
theorem icurve8 (w : World) (b off c : Nat) (x0 y0 x1 y1 x2 y2 x3 y3 : Int) (h : Four w b off x0 y0 x1 y1 x2 y2 x3 y3) (f0 : fx x0) (f1 : fx y0) (f2 : fx x1) (f3 : fx y1) (f4 : fx x2) (f5 : fx y2) (f6 : fx x3) (f7 : fx y3) :
    Calls Try.prog 84 #[.slice (some ⟨b, off, none⟩) 4 c, .int .i64 8] w fun e w' => e = .returned (.agg #[.int .i64 (bez x0 x1 x2 x3 8), .int .i64 (bez y0 y1 y2 y3 8)]) ∧ Kp w w' := by
  have ex : bez x0 x1 x2 x3 8 = (pSum (0 * x0) (0 * x1) (0 * x2) (512 * x3) 4) / 512 := by unfold bez; simp only [pSum]; omega
  have ey : bez y0 y1 y2 y3 8 = (pSum (0 * y0) (0 * y1) (0 * y2) (512 * y3) 4) / 512 := by unfold bez; simp only [pSum]; omega
  obtain ⟨vx, hvx⟩ : ∃ v, pSum (0 * x0) (0 * x1) (0 * x2) (512 * x3) 4 = v := ⟨_, rfl⟩
  obtain ⟨vy, hvy⟩ : ∃ v, pSum (0 * y0) (0 * y1) (0 * y2) (512 * y3) 4 = v := ⟨_, rfl⟩
  rw [ex, ey, hvx, hvy]
  have HVX : Hid _ := hvx
  have HVY : Hid _ := hvy
  have bx : -4611686018427387904 ≤ vx ∧ vx ≤ 4611686018427387904 := by have h := pSum_4 (0 * x0) (0 * x1) (0 * x2) (512 * x3); unfold fx at *; omega
  have by' : -4611686018427387904 ≤ vy ∧ vy ≤ 4611686018427387904 := by have h := pSum_4 (0 * y0) (0 * y1) (0 * y2) (512 * y3); unfold fx at *; omega
  clear hvx hvy
  have HE : Hid (∀ o, ((w.alloc o).cell? ⟨b, off, none⟩ = some (.int .i64 x0) ∧ (w.alloc o).cell? ⟨b, off + 1, none⟩ = some (.int .i64 y0) ∧ (w.alloc o).cell? ⟨b, off + 2, none⟩ = some (.int .i64 x1) ∧ (w.alloc o).cell? ⟨b, off + 2 + 1, none⟩ = some (.int .i64 y1) ∧ (w.alloc o).cell? ⟨b, off + 4, none⟩ = some (.int .i64 x2) ∧ (w.alloc o).cell? ⟨b, off + 4 + 1, none⟩ = some (.int .i64 y2) ∧ (w.alloc o).cell? ⟨b, off + 6, none⟩ = some (.int .i64 x3) ∧ (w.alloc o).cell? ⟨b, off + 6 + 1, none⟩ = some (.int .i64 y3))) := fun o => by
    obtain ⟨q0, q1, q2, q3, q4, q5, q6, q7⟩ := h
    have kc : ∀ x v, w.cell? ⟨b, x, none⟩ = some v → (w.alloc o).cell? ⟨b, x, none⟩ = some v := fun x v hv => (Below.cell ((Below.refl w.heap.size w).alloc (Nat.le_refl _) o) (p := ⟨b, x, none⟩) (World.block_lt_of_cell? w ⟨b, x, none⟩ hv)).trans hv
    exact ⟨kc _ _ q0, kc _ _ q1, kc _ _ q2, kc _ _ q3, kc _ _ q4, kc _ _ q5, kc _ _ q6, kc _ _ q7⟩
  clear ex ey h
  unfold fx at *
  go_enter Try.func84, Try.ntmps84
  go_wp2
  go_loop [6, 7, 35] (fun x y i => ∃ j : Nat, j ≤ 4 ∧ i = .int .i64 j ∧ x = .int .i64 (pSum (0 * x0) (0 * x1) (0 * x2) (512 * x3) j) ∧ y = .int .i64 (pSum (0 * y0) (0 * y1) (0 * y2) (512 * y3) j)) (fun _ _ i => 4 - (intOf i).toNat)
  case atStart => exact ⟨0, by omega, rfl, rfl, rfl⟩
  case round =>
    obtain ⟨j, hj, rfl, rfl, rfl⟩ := hrel
    obtain ⟨q0, q1, q2, q3, q4, q5, q6, q7⟩ := HE.out (.cells #[.int .i64 0, .int .i64 0] 54)
    clear HE
    rcases (show j = 0 ∨ j = 1 ∨ j = 2 ∨ j = 3 ∨ j = 4 by omega) with rfl | rfl | rfl | rfl | rfl
    · have i0 : ∀ w, (Instr.index 115 (.agg #[.int .i64 0, .int .i64 0, .int .i64 0, .int .i64 512]) (.int .i64 0)).run Try.prog w = .ok (.int .i64 0) w := fun _ => by kernel_rfl
      rw [pSum_0 (0 * x0) (0 * x1) (0 * x2) (512 * x3), pSum_0 (0 * y0) (0 * y1) (0 * y2) (512 * y3)]
      clear hj
      go_wp2
      go_round
      case rel => exact ⟨1, by omega, by go_num, vint (by have h := pSum_1 (0 * x0) (0 * x1) (0 * x2) (512 * x3); omega), vint (by have h := pSum_1 (0 * y0) (0 * y1) (0 * y2) (512 * y3); omega)⟩
      case measure => simp [intOf]
    · have i0 : ∀ w, (Instr.index 115 (.agg #[.int .i64 0, .int .i64 0, .int .i64 0, .int .i64 512]) (.int .i64 1)).run Try.prog w = .ok (.int .i64 0) w := fun _ => by kernel_rfl
      rw [pSum_1 (0 * x0) (0 * x1) (0 * x2) (512 * x3), pSum_1 (0 * y0) (0 * y1) (0 * y2) (512 * y3)]
      clear hj
      go_wp2
      go_round
      case rel => exact ⟨2, by omega, by go_num, vint (by have h := pSum_2 (0 * x0) (0 * x1) (0 * x2) (512 * x3); omega), vint (by have h := pSum_2 (0 * y0) (0 * y1) (0 * y2) (512 * y3); omega)⟩
      case measure => simp [intOf]
    · have i0 : ∀ w, (Instr.index 115 (.agg #[.int .i64 0, .int .i64 0, .int .i64 0, .int .i64 512]) (.int .i64 2)).run Try.prog w = .ok (.int .i64 0) w := fun _ => by kernel_rfl
      rw [pSum_2 (0 * x0) (0 * x1) (0 * x2) (512 * x3), pSum_2 (0 * y0) (0 * y1) (0 * y2) (512 * y3)]
      clear hj
      go_wp2
      go_round
      case rel => exact ⟨3, by omega, by go_num, vint (by have h := pSum_3 (0 * x0) (0 * x1) (0 * x2) (512 * x3); omega), vint (by have h := pSum_3 (0 * y0) (0 * y1) (0 * y2) (512 * y3); omega)⟩
      case measure => simp [intOf]
    · have i0 : ∀ w, (Instr.index 115 (.agg #[.int .i64 0, .int .i64 0, .int .i64 0, .int .i64 512]) (.int .i64 3)).run Try.prog w = .ok (.int .i64 512) w := fun _ => by kernel_rfl
      rw [pSum_3 (0 * x0) (0 * x1) (0 * x2) (512 * x3), pSum_3 (0 * y0) (0 * y1) (0 * y2) (512 * y3)]
      clear hj
      go_wp2
      go_round
      case rel => exact ⟨4, by omega, by go_num, vint (by have h := pSum_4 (0 * x0) (0 * x1) (0 * x2) (512 * x3); omega), vint (by have h := pSum_4 (0 * y0) (0 * y1) (0 * y2) (512 * y3); omega)⟩
      case measure => simp [intOf]
    · clear hj q0 q1 q2 q3 q4 q5 q6 q7
      rw [HVX.out, HVY.out]
      go_wp2_with (go_at_call 81; refine (divDown_any _ _ _ (by omega) (by omega) (by omega) (by omega)).mono ?_; rintro e w' ⟨rfl, rfl⟩)
      exact bodyPost_ret (v := .agg #[.int .i64 (vx / 512), .int .i64 (vy / 512)]) (by simp [results, Try.results84, go_sem]) rfl ⟨rfl, (Kp.refl w).alloc _ _⟩
theorem icurve_any (w : World) (a : Option Addr) (c : Nat) (l : List Pnt) (k : Int) (hl : l.length = 4) (hr : Pts w a l) (hg : ptsB l = true) (h0 : 0 ≤ k) (h1 : k ≤ 8) :
    Calls Try.prog 84 #[.slice a 4 c, .int .i64 k] w fun e w' => e = .returned (ptV (curveP l k)) ∧ Kp w w' := by
  obtain ⟨b, off, rfl, hb, h4⟩ := four_of hl hr
  have f0 := ptB_fx (ptsB_at hg 0 (by omega))
  have f1 := ptB_fx (ptsB_at hg 1 (by omega))
  have f2 := ptB_fx (ptsB_at hg 2 (by omega))
  have f3 := ptB_fx (ptsB_at hg 3 (by omega))
  rcases nine h0 h1 with rfl | rfl | rfl | rfl | rfl | rfl | rfl | rfl | rfl
  · exact icurve0 w b off c _ _ _ _ _ _ _ _ h4 f0.1 f0.2 f1.1 f1.2 f2.1 f2.2 f3.1 f3.2
  · exact icurve1 w b off c _ _ _ _ _ _ _ _ h4 f0.1 f0.2 f1.1 f1.2 f2.1 f2.2 f3.1 f3.2
  · exact icurve2 w b off c _ _ _ _ _ _ _ _ h4 f0.1 f0.2 f1.1 f1.2 f2.1 f2.2 f3.1 f3.2
  · exact icurve3 w b off c _ _ _ _ _ _ _ _ h4 f0.1 f0.2 f1.1 f1.2 f2.1 f2.2 f3.1 f3.2
  · exact icurve4 w b off c _ _ _ _ _ _ _ _ h4 f0.1 f0.2 f1.1 f1.2 f2.1 f2.2 f3.1 f3.2
  · exact icurve5 w b off c _ _ _ _ _ _ _ _ h4 f0.1 f0.2 f1.1 f1.2 f2.1 f2.2 f3.1 f3.2
  · exact icurve6 w b off c _ _ _ _ _ _ _ _ h4 f0.1 f0.2 f1.1 f1.2 f2.1 f2.2 f3.1 f3.2
  · exact icurve7 w b off c _ _ _ _ _ _ _ _ h4 f0.1 f0.2 f1.1 f1.2 f2.1 f2.2 f3.1 f3.2
  · exact icurve8 w b off c _ _ _ _ _ _ _ _ h4 f0.1 f0.2 f1.1 f1.2 f2.1 f2.2 f3.1 f3.2
end Go.Proofs.Ytoajjdlgipphiaa
