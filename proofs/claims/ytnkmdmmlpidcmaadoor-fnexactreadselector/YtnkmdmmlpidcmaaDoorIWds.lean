/-
  The words of a text, as the program tells them: strings.FieldsFunc at the blanks; each theorem names its conditions.
-/
import Derived.Test.YtnkmdmmlpidcmaaDoorBlankR
import Derived.Test.YtnkmdmmlpidcmaaDoorTxs
namespace Go.Proofs.YtnkmdmmlpidcmaaDoor
open Go.ChangeShapes Go.WideShapes Go.ChangeAt Go.RowKit Go.Shelf
set_option linter.unusedVariables false

theorem blank_pays (w : World) : PredGrows Tryd.prog 33 #[] blankN w := by
  intro W x hx hb
  exact blankRune W x hx
theorem iwords (w : World) (s : ByteArray) (hs : s.size ≤ 1048576) :
    Calls Tryd.prog 32 #[.string s, .func (.func 33) #[] #[]] w fun e w' => ∃ v, e = .returned v ∧ Txs w' w.heap.size v (wordsOf s) ∧ Nw w w' := by
  refine (Tryd.strings_FieldsFunc_grows 33 #[] (enters_of Tryd.func33 (by kernel_rfl) rfl) blankN s w (by omega) (blank_pays w)).mono ?_
  rintro e w' ⟨g, rfl, hg, hown, hb⟩
  rw [fields_words] at hown
  refine ⟨_, rfl, ?_, hb⟩
  rw [fields_words]
  exact hown
end Go.Proofs.YtnkmdmmlpidcmaaDoor
