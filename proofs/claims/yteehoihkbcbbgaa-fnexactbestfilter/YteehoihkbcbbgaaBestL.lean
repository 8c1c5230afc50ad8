/-
  What BestFilter answers, of the specification, and where nothing may be filtered; each theorem names its conditions.
-/
import Derived.Test.YteehoihkbcbbgaaBest
import Derived.Test.YteehoihkbcbbgaaRowfL
namespace Go.Proofs.Yteehoihkbcbbgaa
open Go.ChangeShapes Go.WideShapes Go.ChangeAt Go.RowKit
set_option linter.unusedVariables false

theorem sbestF (W : World) (br or cr ba oa ca n : Nat) (zr za : List Int) (hn : RowOk n n) (hzr : zr.length = n) (hza : za.length = n) (hr : Lie W br or zr) (ha : Lie W ba oa za) (h8r : ∀ z ∈ zr, 0 ≤ z ∧ z ≤ 255) (h8a : ∀ z ∈ za, 0 ≤ z ∧ z ≤ 255) :
    Calls Try.prog 20 #[.slice (some ⟨br, or, none⟩) n cr, .slice (some ⟨ba, oa, none⟩) n ca] W fun e w' => e = .returned (.tuple #[.int .i64 (best zr za : Int), .bool true]) ∧ Nw W w' := by
  have HG : Hid _ := sl3row_yes W (some ⟨br, or, none⟩) (some ⟨ba, oa, none⟩) n cr ca hn
  have HB : Hid _ := sl3best W br or cr ba oa ca n zr za (by have := hn.2.2.1; omega) hzr hza hr ha h8r h8a
  clear hr ha h8r h8a hn hzr hza
  generalize (best zr za : Int) = q at *
  go_enter Try.func20, Try.ntmps20
  go_wp2_with fail
  refine Calls.mono HG.out ?_
  rintro e w1 ⟨rfl, rfl⟩
  go_wp2_with fail
  refine Calls.mono HB.out ?_
  rintro e w2 ⟨rfl, h1⟩
  have H1 : Hid _ := h1
  clear h1 HG HB
  go_wp2
  go_ret2
  exact ⟨rfl, H1.out⟩
theorem sbestF_no (W : World) (a1 a2 : Option Addr) (n m c1 c2 : Nat) (hn : n ≤ 1048576) (hm : m ≤ 1048576) (h : ¬ RowOk n m) :
    Calls Try.prog 20 #[.slice a1 n c1, .slice a2 m c2] W fun e w' => e = .returned (.tuple #[.int .i64 0, .bool false]) ∧ w' = W := by
  have HG : Hid _ := sl3row_no W a1 a2 n m c1 c2 hn hm h
  clear h
  go_enter Try.func20, Try.ntmps20
  go_wp2_with fail
  refine Calls.mono HG.out ?_
  rintro e w1 ⟨rfl, rfl⟩
  go_wp2
  go_ret2
  exact ⟨rfl, rfl⟩
theorem ibestF_no (W : World) (a1 a2 : Option Addr) (n m c1 c2 : Nat) (hn : n ≤ 1048576) (hm : m ≤ 1048576) (h : ¬ RowOk n m) :
    Calls Try.prog 21 #[.slice a1 n c1, .slice a2 m c2] W fun e w' => e = .returned (.tuple #[.int .i64 0, .bool false]) ∧ w' = W := by
  have HG : Hid _ := igoodRows_no W a1 a2 n m c1 c2 hn hm h
  clear h
  go_enter Try.func21, Try.ntmps21
  go_wp2_with fail
  refine Calls.mono HG.out ?_
  rintro e w1 ⟨rfl, rfl⟩
  go_wp2
  go_ret2
  exact ⟨rfl, rfl⟩
end Go.Proofs.Yteehoihkbcbbgaa
