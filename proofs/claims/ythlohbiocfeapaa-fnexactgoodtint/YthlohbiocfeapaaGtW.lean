/-
  The walk of the law on GoodTint; each theorem names its conditions.
-/
import Derived.Test.YthlohbiocfeapaaTnT
import Derived.Test.YthlohbiocfeapaaTn
import Derived.Test.YthlohbiocfeapaaTnK
namespace Go.Proofs.Ythlohbiocfeapaa
open Go.ChangeShapes Go.WideShapes Go.ChangeAt Go.RowKit
set_option linter.unusedVariables false

set_option maxRecDepth 100000 in
set_option maxHeartbeats 2000000 in
theorem walk_gtint (w : World) (tr tg tb ta : Int) (hb : (-9223372036854775808 ≤ tr ∧ tr ≤ 9223372036854775807) ∧ (-9223372036854775808 ≤ tg ∧ tg ≤ 9223372036854775807) ∧ (-9223372036854775808 ≤ tb ∧ tb ≤ 9223372036854775807) ∧ (-9223372036854775808 ≤ ta ∧ ta ≤ 9223372036854775807)) :
    Calls Try.prog 4 #[.agg #[.int .i64 tr, .int .i64 tg, .int .i64 tb, .int .i64 ta]] w fun e w' => e = .returned (.bool true) ∧ Below w.heap.size w w' := by
  have HT : Hid _ := fun w => toTint_any w ⟨tr, tg, tb, ta⟩
  have HS : Hid _ := fun w => sgoodTn w ⟨tr, tg, tb, ta⟩
  have HI : Hid _ := fun w => igoodTn w ⟨tr, tg, tb, ta⟩
  unfold edV at HT HS HI
  simp only at HT HS HI
  generalize tnB ⟨tr, tg, tb, ta⟩ = V at *
  have hbb : (V != V) = false := by cases V <;> rfl
  clear hb
  have HB : Hid (∀ w1, Nw (w.alloc (.cells #[.int .i64 tr, .int .i64 tg, .int .i64 tb, .int .i64 ta] 35)) w1 → QB w1 w.heap.size ⟨tr, tg, tb, ta⟩) := fun w1 k => (QB.new w ⟨tr, tg, tb, ta⟩ _).nw k
  go_enter Try.func4, Try.ntmps4
  go_wp2_with fail
  refine Calls.mono (HT.out _) ?_
  rintro e w1 ⟨rfl, k1⟩
  have K1 : Hid (Nw (w.alloc (.cells #[.int .i64 tr, .int .i64 tg, .int .i64 tb, .int .i64 ta] 35)) w1) := k1.nw
  clear k1
  go_wp2_with fail
  refine Calls.mono (HS.out _) ?_
  rintro e w2 ⟨rfl, k2⟩
  have K2 : Hid (Nw (w.alloc (.cells #[.int .i64 tr, .int .i64 tg, .int .i64 tb, .int .i64 ta] 35)) w2) := Nw.trans K1.out k2.nw
  clear k2
  obtain ⟨q0, q1, q2, q3, _⟩ := HB.out _ K2.out
  simp only at q0 q1 q2 q3
  go_wp2_with fail
  refine Calls.mono (HT.out _) ?_
  rintro e w3 ⟨rfl, k3⟩
  have K3 : Hid (Nw (w.alloc (.cells #[.int .i64 tr, .int .i64 tg, .int .i64 tb, .int .i64 ta] 35)) w3) := Nw.trans K2.out k3.nw
  clear k3 q0 q1 q2 q3
  go_wp2_with fail
  refine Calls.mono (HI.out _) ?_
  rintro e w4 ⟨rfl, k4⟩
  have K4 : Hid (Nw w w4) := Nw.trans (QBnw _ _) (Nw.trans K3.out k4.nw)
  clear k4
  go_wp2
  go_ret
  exact ⟨rfl, K4.out⟩
end Go.Proofs.Ythlohbiocfeapaa
