/-
  The walk of the law on FineOf; each theorem names its conditions.
-/
import Derived.Test.YtllljknpicmmjaaFi
namespace Go.Proofs.Ytllljknpicmmjaa
open Go.ChangeShapes Go.WideShapes Go.ChangeAt Go.RowKit
set_option linter.unusedVariables false

set_option maxRecDepth 100000 in
set_option maxHeartbeats 2000000 in
theorem walk_fine (w : World) (x y : Int) (hb : (-9223372036854775808 ≤ x ∧ x ≤ 9223372036854775807) ∧ (-9223372036854775808 ≤ y ∧ y ≤ 9223372036854775807)) :
    Calls Try.prog 4 #[.agg #[.int .i64 x, .int .i64 y]] w fun e w' => e = .returned (.bool true) ∧ Below w.heap.size w w' := by
  have HT : Hid _ := fun w => toPoint_any w x y
  have HS : Hid _ := fun w => sfineOf w x y
  have HI : Hid _ := fun w => ifineOf w x y
  generalize fiV x y = r at *
  obtain ⟨⟨r1, r2⟩, r3⟩ := r
  simp only at HS HI
  have e1 : (r1 != r1) = false := by simp
  have e2 : (r2 != r2) = false := by simp
  have e3 : (r3 != r3) = false := by cases r3 <;> rfl
  clear hb
  go_enter Try.func4, Try.ntmps4
  go_wp2_with fail
  refine Calls.mono (HT.out _) ?_
  rintro e w1 ⟨rfl, k1⟩
  have K1 : Hid (Kp (w.alloc (.cells #[.int .i64 x, .int .i64 y] 42)) w1) := k1
  clear k1
  go_wp2_with fail
  refine Calls.mono (HS.out _) ?_
  rintro e w2 ⟨rfl, k2⟩
  have K2 : Hid (Kp (w.alloc (.cells #[.int .i64 x, .int .i64 y] 42)) w2) := Kp.trans K1.out k2
  have q0 : w2.cell? ⟨w.heap.size, 0, none⟩ = some (.int .i64 x) := (K2.out.cells.1 _ _ (by simp)).trans (by simp)
  have q1 : w2.cell? ⟨w.heap.size, 1, none⟩ = some (.int .i64 y) := (K2.out.cells.1 _ _ (by simp)).trans (by simp)
  clear k2
  go_wp2_with fail
  refine Calls.mono (HT.out _) ?_
  rintro e w3 ⟨rfl, k3⟩
  have K3 : Hid (Kp (w.alloc (.cells #[.int .i64 x, .int .i64 y] 42)) w3) := Kp.trans K2.out k3
  clear k3 q0 q1
  go_wp2_with fail
  refine Calls.mono (HI.out _) ?_
  rintro e w4 ⟨rfl, k4⟩
  have K4 : Hid (Kp w w4) := Kp.trans ((Kp.refl w).alloc _ _) (Kp.trans K3.out k4)
  clear k4
  go_wp2
  go_ret
  exact ⟨rfl, K4.out.nw⟩
end Go.Proofs.Ytllljknpicmmjaa
