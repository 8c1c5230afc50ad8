/-
  What the laws' helper does that copies a color; each theorem names its conditions.
-/
import Derived.Test.YthlohbiocfeapaaMkl
namespace Go.Proofs.Ythlohbiocfeapaa
open Go.ChangeShapes Go.WideShapes Go.ChangeAt Go.RowKit
set_option linter.unusedVariables false

theorem toColor_any (w : World) (r g b : Int) :
    Calls Try.prog 25 #[.agg #[.int .i64 r, .int .i64 g, .int .i64 b]] w fun e w' => e = .returned (.agg #[.int .i64 r, .int .i64 g, .int .i64 b]) ∧ Kp w w' := by
  go_enter Try.func25, Try.ntmps25
  go_wp2
  exact bodyPost_ret (v := .agg #[.int .i64 r, .int .i64 g, .int .i64 b]) (by simp [results, Try.results25, go_sem]) rfl ⟨rfl, (((Kp.refl w).alloc _ _).alloc _ _).alloc _ _⟩
end Go.Proofs.Ythlohbiocfeapaa
