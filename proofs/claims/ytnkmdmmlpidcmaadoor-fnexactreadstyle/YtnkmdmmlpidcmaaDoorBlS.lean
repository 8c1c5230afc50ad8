/-
  What a builder answers; each theorem names its conditions.
-/
import Derived.Test.YtnkmdmmlpidcmaaDoorBld
import Derived.Test.YtnkmdmmlpidcmaaDoorShelf
namespace Go.Proofs.YtnkmdmmlpidcmaaDoor
open Go.ChangeShapes Go.WideShapes Go.ChangeAt Go.RowKit
set_option linter.unusedVariables false

theorem bld_string (B b : Nat) (t : ByteArray) (w : World) (h : Bld B b t w) (hBw : B ≤ w.heap.size) :
    Calls Tryd.prog 58 #[.pointer (some ⟨b, 0, none⟩)] w fun e w' => e = .returned (.string t) ∧ Below B w w' := by
  have e1 : Lib.byteCells t.data.toList = Lib.strCells t := by simp [Lib.byteCells, Lib.strCells]
  refine (Any.Builder_String_any_k Tryd.lays169 Tryd.Builder_Extra_169 B b t.data.toList w (by rw [e1]; exact h) hBw).mono ?_
  rintro e w' ⟨rfl, _, h2, _⟩
  exact ⟨by simp, h2⟩
theorem Bld.alloc {B b : Nat} {t : ByteArray} {w : World} (h : Bld B b t w) (o : Obj) : Bld B b t (w.alloc o) := h.elim (fun x => .inl (x.alloc o)) (fun x => .inr (x.alloc o))
end Go.Proofs.YtnkmdmmlpidcmaaDoor
