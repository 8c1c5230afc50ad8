/-
  The walk of the law on SideOf; no condition.
-/
import Derived.Test.YtolpiapkmlbccaaSdWR
namespace Go.Proofs.Ytolpiapkmlbccaa
open Go.ChangeShapes Go.WideShapes Go.ChangeAt Go.RowKit
set_option linter.unusedVariables false

set_option maxRecDepth 100000 in
set_option maxHeartbeats 4000000 in
/-- The walk of the law on SideOf. -/
theorem walk_side (w : World) (ax ay bx by' h : Int) (h1 : (-9223372036854775808 ≤ ax ∧ ax ≤ 9223372036854775807) ∧ (-9223372036854775808 ≤ ay ∧ ay ≤ 9223372036854775807)) (h2 : (-9223372036854775808 ≤ bx ∧ bx ≤ 9223372036854775807) ∧ (-9223372036854775808 ≤ by' ∧ by' ≤ 9223372036854775807)) (h3 : -9223372036854775808 ≤ h ∧ h ≤ 9223372036854775807) :
    Calls Try.prog 6 #[.agg #[.int .i64 ax, .int .i64 ay], .agg #[.int .i64 bx, .int .i64 by'], .int .i64 h] w fun e w' => e = .returned (.bool true) ∧ Below w.heap.size w w' := by
  clear h1 h2 h3
  obtain ⟨r, hr⟩ : ∃ r, sdV (ax, ay) (bx, by') h = r := ⟨_, rfl⟩
  obtain ⟨⟨rx, ry⟩, rb⟩ := r
  have hb : (rb != rb) = false := by cases rb <;> rfl
  have HQ : Hid _ := fun w => eqPoint_any w rx ry
  go_enter Try.func6, Try.ntmps6
  go_wp2
  generalize hW : (w.alloc (.cells #[.int .i64 ax, .int .i64 ay] 32)).alloc (.cells #[.int .i64 bx, .int .i64 by'] 32) = W
  have hk : Kp ((w.alloc (.cells #[.int .i64 ax, .int .i64 ay] 32)).alloc (.cells #[.int .i64 bx, .int .i64 by'] 32)) W := by rw [hW]; exact Kp.refl W
  obtain ⟨⟨q0, q1⟩, ⟨q2, q3⟩, _⟩ := boxes2 hk
  have KK : Hid (Kp w W) := by show Kp w W; rw [← hW]; exact ((Kp.refl w).alloc _ _).alloc _ _
  clear hW hk
  refine reg_change (ops' := opsOf 1 Try.f6) (by kernel_rfl) ?_
  refine YA.run ⟨ax, ay, bx, by', h, w.heap.size, w.heap.size + 1, W.drew, _⟩ ⟨q0, q1, q2, q3, rfl, rfl, rfl, rfl⟩ W (Kp.refl _) ?_
  rintro γ w1 ⟨g, hg, hgs, ⟨g0, g1⟩, gf, k1⟩
  replace k1 : Kp W w1 := undrew k1
  have p0 := rq_at k1 q0
  have p1 := rq_at k1 q1
  have p2 := rq_at k1 q2
  have p3 := rq_at k1 q3
  have K1 : Hid (Kp w w1) := Kp.trans KK.out k1
  clear k1 q0 q1 q2 q3 KK gf hgs
  simp only [hr] at g0 g1
  simp only [hg, hr, Act.put, List.setIfInBounds_toArray, List.set_cons_zero, List.set_cons_succ]
  go_wp2
  refine reg_change (ops' := opsOf 2 Try.f6) (by kernel_rfl) ?_
  refine YB.run ⟨ax, ay, bx, by', h, w.heap.size, w.heap.size + 1, w1.drew, _⟩ ⟨p0, p1, p2, p3, rfl, rfl, rfl, rfl⟩ w1 (Kp.refl _) ?_
  rintro γ w2 ⟨k, hk, hks, ⟨k0, k1⟩, kf, k2⟩
  replace k2 : Kp w1 w2 := undrew k2
  replace g0 := rq_at k2 g0
  replace g1 := rq_at k2 g1
  have K2 : Hid (Kp w w2) := Kp.trans K1.out k2
  clear k2 p0 p1 p2 p3 K1 kf hks
  simp only [hr] at k0 k1
  simp only [hk, hr, Act.put, List.setIfInBounds_toArray, List.set_cons_zero, List.set_cons_succ]
  go_wp2_with fail
  refine Calls.mono (HQ.out _) ?_
  rintro e w3 ⟨rfl, n3⟩
  have K3 : Hid (Below w.heap.size w w3) := Below.trans K2.out.1 (Below.mono n3 K2.out.size)
  clear n3 g0 g1 k0 k1
  go_wp2
  go_ret
  exact ⟨rfl, K3.out⟩
end Go.Proofs.Ytolpiapkmlbccaa
