/-
  DERIVED. GIVEN WITH THE SEED: THE PROGRAM's TIES (one call each: nine closed facts by the kernel) AND EACH ROW's TIE, after the 31st guide's Derived/Test/Toyas{Tie, Card}.lean. No idea stands in it: it is a product of the set-up. Laid BY PROGRAM, IN A SANDBOX (cutbox-door.mjs). By AI agents, Wed Nov 11 2026. No macro, syntax, notation, axiom, sorry.
-/
import Derived.Test.YtaeicgfebeliiaaGreatDoorRows
import Derived.LaidByTextLater
import Derived.SevenTiedAt
import Derived.LaidSub
import Derived.LaidOnce
namespace Go.Proofs.YtaeicgfebeliiaaGreatDoor
open Go
set_option maxRecDepth 100000
theorem seatTie1 : Tryz.prog.laidByTextLater [("loop.example/g00137/impl.lengthBases", Rows.laid_loop_example_g00137_impl_lengthBases), ("loop.example/g00137/impl.lengthExtras", Rows.laid_loop_example_g00137_impl_lengthExtras), ("loop.example/g00137/impl.distanceBases", Rows.laid_loop_example_g00137_impl_distanceBases), ("loop.example/g00137/impl.distanceExtras", Rows.laid_loop_example_g00137_impl_distanceExtras), ("loop.example/g00137/impl.lengthsOrder", Rows.laid_loop_example_g00137_impl_lengthsOrder)] [.data, .data, .data, .data, .data] true :=
  Program.laidByTextLater_by_one 34 8 31 (by kernel_rfl) (by kernel_rfl) (by kernel_rfl) (by kernel_rfl) (by kernel_rfl) (by kernel_rfl) (fun _ _ => by kernel_rfl)
theorem noOwnUnsafe : Tryz.pinned.checked.prog.headLifts.contains "ownunsafe" = false := by kernel_rfl
theorem tie : Tryz.prog.laidByTextLater [("loop.example/g00137/impl.lengthBases", Rows.laid_loop_example_g00137_impl_lengthBases), ("loop.example/g00137/impl.lengthExtras", Rows.laid_loop_example_g00137_impl_lengthExtras), ("loop.example/g00137/impl.distanceBases", Rows.laid_loop_example_g00137_impl_distanceBases), ("loop.example/g00137/impl.distanceExtras", Rows.laid_loop_example_g00137_impl_distanceExtras), ("loop.example/g00137/impl.lengthsOrder", Rows.laid_loop_example_g00137_impl_lengthsOrder)] [.data, .data, .data, .data, .data] true :=
  Program.laidByTextLater.sub seatTie1 ["loop.example/g00137/impl.lengthBases", "loop.example/g00137/impl.lengthExtras", "loop.example/g00137/impl.distanceBases", "loop.example/g00137/impl.distanceExtras", "loop.example/g00137/impl.lengthsOrder"] (by kernel_rfl) (by kernel_rfl)
theorem fnPictures_row_tie : Rows.fnPicturesRow.laidByTextAt .later Tryz.pinned [.data, .data, .data, .data, .data] true :=
  OpenClaim.laidByTextAt_later rfl rfl tie noOwnUnsafe
theorem fnPicturesUpto_row_tie : Rows.fnPicturesUptoRow.laidByTextAt .later Tryz.pinned [.data, .data, .data, .data, .data] true :=
  OpenClaim.laidByTextAt_later rfl rfl tie noOwnUnsafe
end Go.Proofs.YtaeicgfebeliiaaGreatDoor
