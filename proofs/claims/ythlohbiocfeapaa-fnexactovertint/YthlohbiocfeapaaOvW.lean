/-
  The walk of the law on OverTint; each theorem names its conditions.
-/
import Derived.Test.YthlohbiocfeapaaOvWR
namespace Go.Proofs.Ythlohbiocfeapaa
open Go.ChangeShapes Go.WideShapes Go.ChangeAt Go.RowKit
set_option linter.unusedVariables false

set_option maxRecDepth 100000 in
set_option maxHeartbeats 4000000 in
theorem walk_over (w : World) (tr tg tb ta ur ug ub ua : Int) (hb : (-9223372036854775808 ≤ tr ∧ tr ≤ 9223372036854775807) ∧ (-9223372036854775808 ≤ tg ∧ tg ≤ 9223372036854775807) ∧ (-9223372036854775808 ≤ tb ∧ tb ≤ 9223372036854775807) ∧ (-9223372036854775808 ≤ ta ∧ ta ≤ 9223372036854775807)) (hc : (-9223372036854775808 ≤ ur ∧ ur ≤ 9223372036854775807) ∧ (-9223372036854775808 ≤ ug ∧ ug ≤ 9223372036854775807) ∧ (-9223372036854775808 ≤ ub ∧ ub ≤ 9223372036854775807) ∧ (-9223372036854775808 ≤ ua ∧ ua ≤ 9223372036854775807)) :
    Calls Try.prog 6 #[.agg #[.int .i64 tr, .int .i64 tg, .int .i64 tb, .int .i64 ta], .agg #[.int .i64 ur, .int .i64 ug, .int .i64 ub, .int .i64 ua]] w fun e w' => e = .returned (.bool true) ∧ Below w.heap.size w w' := by
  clear hb hc
  have HE : Hid _ := fun w t => eqTint_any w t
  unfold edV at HE
  replace HE : Hid _ := fun w => HE.out w (ovV ⟨tr, tg, tb, ta⟩ ⟨ur, ug, ub, ua⟩).1
  obtain ⟨W, hW⟩ : ∃ W, (w.alloc (.cells #[.int .i64 tr, .int .i64 tg, .int .i64 tb, .int .i64 ta] 35)).alloc (.cells #[.int .i64 ur, .int .i64 ug, .int .i64 ub, .int .i64 ua] 35) = W := ⟨_, rfl⟩
  have N0 : Hid (Nw w W) := by show Nw w W; rw [← hW]; exact Nw.trans (QBnw _ _) (QBnw _ _)
  have HP : Hid (QB W w.heap.size ⟨tr, tg, tb, ta⟩) := by show QB _ _ _; rw [← hW]; exact (QB.new w ⟨tr, tg, tb, ta⟩ _).nw (QBnw _ _)
  have HQ : Hid (QB W (w.heap.size + 1) ⟨ur, ug, ub, ua⟩) := by
    show QB _ _ _
    rw [← hW]
    have := QB.new (w.alloc (.cells #[.int .i64 tr, .int .i64 tg, .int .i64 tb, .int .i64 ta] 35)) ⟨ur, ug, ub, ua⟩ 35
    rw [World.size_alloc] at this
    exact this
  have HW : Hid (_ = W) := hW
  clear hW
  go_enter Try.func6, Try.ntmps6
  go_wp2
  rw [HW.out]
  have ND : Hid (Nw W W.drew) := (Below.refl _ _).drew
  obtain ⟨p0, p1, p2, p3, _⟩ := QB.nw HP.out ND.out
  obtain ⟨q0, q1, q2, q3, _⟩ := QB.nw HQ.out ND.out
  refine reg_change (ops' := opsOf 1 Try.f6) (by kernel_rfl) ?_
  refine OA.run ⟨tr, tg, tb, ta, ur, ug, ub, ua, w.heap.size, w.heap.size + 1, W.drew, _⟩ ⟨p0, p1, p2, p3, q0, q1, q2, q3, rfl, rfl, rfl⟩ W (Kp.refl _) ?_
  rintro γ w1 ⟨g1, e1, _, ⟨x0, x1, x2, x3⟩, xf, k1⟩
  simp only at e1 x0 x1 x2 x3 k1
  have N1 : Hid (Nw W w1) := Nw.trans ND.out k1.nw
  clear k1 p0 p1 p2 p3 q0 q1 q2 q3
  obtain ⟨V, hV⟩ : ∃ V, ovV ⟨tr, tg, tb, ta⟩ ⟨ur, ug, ub, ua⟩ = V := ⟨_, rfl⟩
  have HV : Hid (ovV ⟨tr, tg, tb, ta⟩ ⟨ur, ug, ub, ua⟩ = V) := hV
  rw [hV] at x0 x1 x2 x3 HE
  have X1 : Hid (QB w1 g1 V.1) := ⟨x0, x1, x2, x3, xf⟩
  clear x0 x1 x2 x3 xf
  simp only [e1, hV, Act.put, List.setIfInBounds_toArray, List.set_cons_zero, List.set_cons_succ]
  clear e1 γ hV
  obtain ⟨⟨v0, v1, v2, v3⟩, vb⟩ := V
  simp only at HE X1 ⊢
  have hbb : (vb != vb) = false := by cases vb <;> rfl
  go_wp2
  have ND1 : Hid (Nw W w1.drew) := Below.drew N1.out
  obtain ⟨p0, p1, p2, p3, _⟩ := QB.nw HP.out ND1.out
  obtain ⟨q0, q1, q2, q3, _⟩ := QB.nw HQ.out ND1.out
  refine reg_change (ops' := opsOf 2 Try.f6) (by kernel_rfl) ?_
  refine OB.run ⟨tr, tg, tb, ta, ur, ug, ub, ua, w.heap.size, w.heap.size + 1, w1.drew, _⟩ ⟨p0, p1, p2, p3, q0, q1, q2, q3, rfl, rfl, rfl⟩ w1 (Kp.refl _) ?_
  rintro γ w2 ⟨g2, e2, _, ⟨x0, x1, x2, x3⟩, xf, k2⟩
  simp only at e2 x0 x1 x2 x3 k2
  have N2 : Hid (Nw w1 w2) := Nw.trans ((Below.refl _ _).drew) k2.nw
  clear k2 p0 p1 p2 p3 q0 q1 q2 q3 xf
  rw [HV.out] at x0 x1 x2 x3
  simp only [e2, HV.out, Act.put, List.setIfInBounds_toArray, List.set_cons_zero, List.set_cons_succ]
  clear e2 γ
  obtain ⟨z0, z1, z2, z3, _⟩ := QB.nw X1.out N2.out
  simp only at x0 x1 x2 x3 z0 z1 z2 z3
  go_wp2_with fail
  refine Calls.mono (HE.out _) ?_
  rintro e w3 ⟨rfl, k3⟩
  have N3 : Hid (Nw w w3) := Nw.trans N0.out (Nw.trans N1.out (Nw.trans N2.out k3))
  clear k3 x0 x1 x2 x3 z0 z1 z2 z3
  go_wp2
  go_ret
  exact ⟨rfl, N3.out⟩
end Go.Proofs.Ythlohbiocfeapaa
