/-
  The walk of the law on SizeOf; no condition.
-/
import Derived.Test.YtolpiapkmlbccaaSzR
namespace Go.Proofs.Ytolpiapkmlbccaa
open Go.ChangeShapes Go.WideShapes Go.ChangeAt Go.RowKit
set_option linter.unusedVariables false

set_option maxRecDepth 100000 in
set_option maxHeartbeats 4000000 in
/-- The walk of the law on SizeOf. -/
theorem walk_size (w : World) (ax ay bx by' : Int) (h1 : (-9223372036854775808 ≤ ax ∧ ax ≤ 9223372036854775807) ∧ (-9223372036854775808 ≤ ay ∧ ay ≤ 9223372036854775807)) (h2 : (-9223372036854775808 ≤ bx ∧ bx ≤ 9223372036854775807) ∧ (-9223372036854775808 ≤ by' ∧ by' ≤ 9223372036854775807)) :
    Calls Try.prog 4 #[.agg #[.int .i64 ax, .int .i64 ay], .agg #[.int .i64 bx, .int .i64 by']] w fun e w' => e = .returned (.bool true) ∧ Below w.heap.size w w' := by
  clear h1 h2
  obtain ⟨r, hr⟩ : ∃ r, soV (ax, ay) (bx, by') = r := ⟨_, rfl⟩
  obtain ⟨rn, rb⟩ := r
  have hn : (rn != rn) = false := by simp
  have hb : (rb != rb) = false := by cases rb <;> rfl
  go_enter Try.func4, Try.ntmps4
  go_wp2
  generalize hW : (w.alloc (.cells #[.int .i64 ax, .int .i64 ay] 32)).alloc (.cells #[.int .i64 bx, .int .i64 by'] 32) = W
  have hk : Kp ((w.alloc (.cells #[.int .i64 ax, .int .i64 ay] 32)).alloc (.cells #[.int .i64 bx, .int .i64 by'] 32)) W := by rw [hW]; exact Kp.refl W
  obtain ⟨⟨q0, q1⟩, ⟨q2, q3⟩, _⟩ := boxes2 hk
  have KK : Hid (Kp w W) := by show Kp w W; rw [← hW]; exact ((Kp.refl w).alloc _ _).alloc _ _
  clear hW hk
  refine reg_change (ops' := opsOf 1 Try.f4) (by kernel_rfl) ?_
  refine ZA.run ⟨ax, ay, bx, by', w.heap.size, w.heap.size + 1, W.drew, _⟩ ⟨q0, q1, q2, q3, rfl, rfl, rfl⟩ W (Kp.refl _) ?_
  intro γ w1 h
  replace h : Kp W w1 := undrew h
  have p0 := rq_at h q0
  have p1 := rq_at h q1
  have p2 := rq_at h q2
  have p3 := rq_at h q3
  have K1 : Hid (Kp w w1) := Kp.trans KK.out h
  clear h q0 q1 q2 q3 KK
  simp only [hr, Act.put, List.setIfInBounds_toArray, List.set_cons_zero, List.set_cons_succ]
  go_wp2
  refine reg_change (ops' := opsOf 2 Try.f4) (by kernel_rfl) ?_
  refine ZB2.run ⟨ax, ay, bx, by', w.heap.size, w.heap.size + 1, w1.drew, _⟩ ⟨p0, p1, p2, p3, rfl, rfl, rfl⟩ w1 (Kp.refl _) ?_
  intro γ w2 h
  replace h : Kp w1 w2 := undrew h
  have K2 : Hid (Kp w w2) := Kp.trans K1.out h
  clear h p0 p1 p2 p3 K1
  simp only [hr, Act.put, List.setIfInBounds_toArray, List.set_cons_zero, List.set_cons_succ]
  go_wp2
  go_ret
  exact ⟨rfl, K2.out.1⟩
end Go.Proofs.Ytolpiapkmlbccaa
