/-
  The walk of the law on TintOf; each theorem names its conditions.
-/
import Derived.Test.YthlohbiocfeapaaTnT
import Derived.Test.YthlohbiocfeapaaTn
import Derived.Test.YthlohbiocfeapaaToCol
import Derived.Test.YthlohbiocfeapaaTnK
namespace Go.Proofs.Ythlohbiocfeapaa
open Go.ChangeShapes Go.WideShapes Go.ChangeAt Go.RowKit
set_option linter.unusedVariables false

set_option maxRecDepth 100000 in
set_option maxHeartbeats 4000000 in
theorem walk_tintof (w : World) (cr cg cb p : Int) (hb : (-9223372036854775808 ≤ cr ∧ cr ≤ 9223372036854775807) ∧ (-9223372036854775808 ≤ cg ∧ cg ≤ 9223372036854775807) ∧ (-9223372036854775808 ≤ cb ∧ cb ≤ 9223372036854775807)) (hp : -9223372036854775808 ≤ p ∧ p ≤ 9223372036854775807) :
    Calls Try.prog 5 #[.agg #[.int .i64 cr, .int .i64 cg, .int .i64 cb], .int .i64 p] w fun e w' => e = .returned (.bool true) ∧ Below w.heap.size w w' := by
  have HT : Hid _ := fun w => toColor_any w cr cg cb
  have HS : Hid _ := fun w => stintOf w cr cg cb p
  have HI : Hid _ := fun w => itintOf w cr cg cb p
  have HE : Hid _ := fun w t => eqTint_any w t
  unfold edV at  HS HI HE
  generalize coV cr cg cb p = V at *
  obtain ⟨⟨v0, v1, v2, v3⟩, vb⟩ := V
  simp only at HS HI
  replace HE : Hid _ := fun w => HE.out w ⟨v0, v1, v2, v3⟩
  simp only at HE
  have hbb : (vb != vb) = false := by cases vb <;> rfl
  clear hb hp
  have HB : Hid (∀ w1, Nw (w.alloc (.cells #[.int .i64 cr, .int .i64 cg, .int .i64 cb] 39)) w1 → w1.cell? ⟨w.heap.size, 0, none⟩ = some (.int .i64 cr) ∧ w1.cell? ⟨w.heap.size, 1, none⟩ = some (.int .i64 cg) ∧ w1.cell? ⟨w.heap.size, 2, none⟩ = some (.int .i64 cb)) := fun w1 k => ⟨((bcell k).1 _ _ (by simp)).trans (by simp), ((bcell k).1 _ _ (by simp)).trans (by simp), ((bcell k).1 _ _ (by simp)).trans (by simp)⟩
  go_enter Try.func5, Try.ntmps5
  go_wp2_with fail
  refine Calls.mono (HT.out _) ?_
  rintro e w1 ⟨rfl, k1⟩
  have K1 : Hid (Nw (w.alloc (.cells #[.int .i64 cr, .int .i64 cg, .int .i64 cb] 39)) w1) := k1.nw
  clear k1
  go_wp2_with fail
  refine Calls.mono (HS.out _) ?_
  rintro e w2 ⟨rfl, k2⟩
  have K2 : Hid (Nw (w.alloc (.cells #[.int .i64 cr, .int .i64 cg, .int .i64 cb] 39)) w2) := Nw.trans K1.out k2.nw
  clear k2
  obtain ⟨W2, hW2⟩ : ∃ W2, w2.alloc (.cells #[.int .i64 v0, .int .i64 v1, .int .i64 v2, .int .i64 v3] 24) = W2 := ⟨_, rfl⟩
  have P2 : Hid (QB W2 w2.heap.size ⟨v0, v1, v2, v3⟩) := by show QB _ _ _; rw [← hW2]; exact QB.new w2 ⟨v0, v1, v2, v3⟩ _
  have N2 : Hid (Nw (w.alloc (.cells #[.int .i64 cr, .int .i64 cg, .int .i64 cb] 39)) W2) := by show Nw _ W2; rw [← hW2]; exact Nw.trans K2.out (QBnw _ _)
  have H2 : Hid (_ = W2) := hW2
  clear hW2
  obtain ⟨q0, q1, q2⟩ := HB.out _ N2.out
  rw [← H2.out] at q0 q1 q2
  go_wp2_with fail
  rw [H2.out]
  refine Calls.mono (HT.out _) ?_
  rintro e w3 ⟨rfl, k3⟩
  have K3 : Hid (Nw W2 w3) := k3.nw
  clear k3 q0 q1 q2
  go_wp2_with fail
  refine Calls.mono (HI.out _) ?_
  rintro e w4 ⟨rfl, k4⟩
  have K4 : Hid (Nw W2 w4) := Nw.trans K3.out k4.nw
  clear k4
  obtain ⟨W4, hW4⟩ : ∃ W4, w4.alloc (.cells #[.int .i64 v0, .int .i64 v1, .int .i64 v2, .int .i64 v3] 24) = W4 := ⟨_, rfl⟩
  have N4 : Hid (Nw W2 W4) := by show Nw _ W4; rw [← hW4]; exact Nw.trans K4.out (QBnw _ _)
  have H4 : Hid (_ = W4) := hW4
  clear hW4
  obtain ⟨z0, z1, z2, z3, _⟩ := QB.nw P2.out N4.out
  simp only at z0 z1 z2 z3
  rw [← H4.out] at z0 z1 z2 z3
  go_wp2_with fail
  rw [H4.out]
  refine Calls.mono (HE.out _) ?_
  rintro e w5 ⟨rfl, k5⟩
  have K5 : Hid (Nw w w5) := Nw.trans (QBnw _ _) (Nw.trans N2.out (Nw.trans N4.out k5))
  clear k5 z0 z1 z2 z3
  go_wp2
  go_ret
  exact ⟨rfl, K5.out⟩
end Go.Proofs.Ythlohbiocfeapaa
