/-
  Points that came in, opened: what their reading says of the memory; each theorem names its conditions.
-/
import Derived.Test.YtllljknpicmmjaaPt
import Derived.Deep.SlicePairs
import Derived.Lib.SmallJoins
import Derived.ShutString
import Derived.ChangeOld
namespace Go.Proofs.Ytllljknpicmmjaa
open Go.ChangeShapes Go.WideShapes Go.ChangeAt Go.RowKit Go.Deep
set_option linter.unusedVariables false

def iv : Value → Int
  | .int _ x => x
  | _ => 0
section
variable {H : Type} {enc : TypeId × Value → H} {W : World} {base : Nat} {held : Bool}
theorem open_pts {fuel : Nat} {v : Value} {x : DataW H × List MemPlace} (h : DataW.trod enc Try.prog W base (fun _ => true) held fuel 82 [v] = some x) :
    ∃ a l c, v = .slice a l.length c ∧ Pts W a l ∧ l.length ≤ maxLen := by
  rcases open_slice_pairs Try.underlying82 Try.underlying42 (by kernel_rfl) rfl rfl (by kernel_rfl) (by kernel_rfl) h with ⟨hcs, _⟩ | ⟨a, len, cap, m, n, V0, V1, D0, D1, P0, P1, hcs, _, hl, hm, hmm, _, hx⟩
  · simp at hcs
    exact ⟨none, [], 0, hcs, Or.inl rfl, by simp⟩
  · simp at hcs hmm
    subst hmm
    have key : ∀ i, i < m → ∃ s t : Int, V0 i = .int .i64 s ∧ V1 i = .int .i64 t := by
      intro i hi
      obtain ⟨_, _, g0, g1⟩ := hx i hi
      obtain ⟨s, e0, _, hs⟩ := DataW.trod_int Try.underlying3 g0
      obtain ⟨t, e1, _, ht⟩ := DataW.trod_int Try.underlying3 g1
      simp at e0 e1
      exact ⟨s, t, e0, e1⟩
    refine ⟨some a, (List.range len).map fun i => (iv (V0 i), iv (V1 i)), m, by simpa using hcs, ?_, by simp; omega⟩
    by_cases h0 : len = 0
    · subst h0; exact Or.inl rfl
    · have ea := addr_spot (show W.cell? (a.add 0) = some (V0 0) by simpa using (hx 0 (by omega)).1)
      refine Or.inr ⟨a.block, a.off, by rw [← ea], ?_, fun i hi => ?_⟩
      · have := (hx 0 (by omega)).1
        rw [ea, add_at] at this
        exact World.block_lt_of_cell? W ⟨a.block, a.off + 0 * 2, none⟩ this
      · have hi' : i < len := by simpa using hi
        obtain ⟨s, t, e0, e1⟩ := key i (by omega)
        obtain ⟨g0, g1, _, _⟩ := hx i (by omega)
        rw [ea, add_at] at g0 g1
        have ep : ptAt ((List.range len).map fun i => (iv (V0 i), iv (V1 i))) i = (s, t) := by simp [ptAt, hi', e0, e1, iv]
        rw [ep, g0, e0, Nat.add_assoc, g1, e1]
        exact ⟨rfl, rfl⟩
set_option maxRecDepth 100000 in
theorem open_points {r : Reach} {b0 : Nat} {v : Value} {d : DataW H} {p : List MemPlace} (hv : Value.okWide Try.prog W r b0 82 v) (h : DataW.Trod enc Try.prog W base (fun _ => true) held 82 v d p) :
    ∃ a l c, v = .slice a l.length c ∧ Pts W a l ∧ l.length ≤ maxLen := by
  obtain ⟨a0, len, cap, rfl⟩ := okWide_slice Try.underlying82 hv
  obtain ⟨fuel, hf⟩ := h
  exact open_pts (by simpa [Value.cells] using hf)
end
end Go.Proofs.Ytllljknpicmmjaa
