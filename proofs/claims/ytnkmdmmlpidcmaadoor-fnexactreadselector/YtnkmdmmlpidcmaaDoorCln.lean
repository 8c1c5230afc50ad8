/-
  A text copied, by the program; each theorem names its conditions.
-/
import Derived.Test.YtnkmdmmlpidcmaaDoorMkl
import Derived.Test.YtnkmdmmlpidcmaaDoorShelf
namespace Go.Proofs.YtnkmdmmlpidcmaaDoor
open Go.ChangeShapes Go.WideShapes Go.ChangeAt Go.RowKit
set_option linter.unusedVariables false

theorem clone_any (w : World) (s : ByteArray) (hs : s.size ≤ 1048576) : Calls Tryd.prog 63 #[.string s] w fun e w' => e = .returned (.string s) ∧ Nw w w' := by
  go_enter Tryd.func63, Tryd.ntmps63
  go_wp2_with (go_at_call 100; refine (Tryd.stringslite_Clone _ _ (by omega)).mono ?_; rintro e w' ⟨rfl, k1⟩)
  go_ret
  exact ⟨rfl, k1⟩
end Go.Proofs.YtnkmdmmlpidcmaaDoor
