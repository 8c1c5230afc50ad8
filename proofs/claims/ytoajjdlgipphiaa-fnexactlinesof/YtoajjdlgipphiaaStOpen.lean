/-
  Steps that came in, opened: what their reading says of the memory; each theorem names its conditions.
-/
import Derived.Test.YtoajjdlgipphiaaStT
import Derived.Test.YtoajjdlgipphiaaIntsOpen
import Derived.Deep.SlicePairs
import Derived.Lib.SmallJoins
import Derived.ShutString
import Derived.ChangeOld
namespace Go.Proofs.Ytoajjdlgipphiaa
open Go.ChangeShapes Go.WideShapes Go.ChangeAt Go.RowKit Go.Deep
set_option linter.unusedVariables false

section
variable {H : Type} {enc : TypeId × Value → H} {W : World} {base : Nat} {held : Bool}
set_option maxRecDepth 100000 in
theorem open_steps {r : Reach} {b0 : Nat} {v : Value} {d : DataW H} {p : List MemPlace} (hv : Value.okWide Try.prog W r b0 42 v) (h : DataW.Trod enc Try.prog W base (fun _ => true) held 42 v d p) :
    ∃ a l c, v = .slice a l.length c ∧ Steps W a l ∧ (∀ i, i < l.length → (stAt l i).ns.length ≤ maxLen) ∧ l.length ≤ maxLen := by
  obtain ⟨a0, len0, cap0, rfl⟩ := okWide_slice Try.underlying42 hv
  obtain ⟨fuel, hf⟩ := h
  rcases open_slice_pairs Try.underlying42 Try.underlying72 (by kernel_rfl) rfl rfl (by kernel_rfl) (by kernel_rfl) (show DataW.trod enc Try.prog W base (fun _ => true) held fuel 42 [.slice a0 len0 cap0] = _ by simpa [Value.cells] using hf) with ⟨hcs, _⟩ | ⟨a, len, cap, m, n, V0, V1, D0, D1, P0, P1, hcs, _, hl, hm, hmm, _, hx⟩
  · simp at hcs
    obtain ⟨rfl, rfl, rfl⟩ := hcs
    exact ⟨none, [], 0, rfl, Or.inl rfl, fun i hi => absurd hi (by simp), by simp⟩
  · simp at hcs hmm
    subst hmm
    have key : ∀ i, i < m → ∃ x : SD, V0 i = .int .i64 x.kind ∧ (∃ pa pc, V1 i = .slice pa x.ns.length pc ∧ Ints W pa x.ns) ∧ x.ns.length ≤ maxLen := by
      intro i hi
      obtain ⟨_, _, g0, g1⟩ := hx i hi
      obtain ⟨t, e0, _, _⟩ := DataW.trod_int Try.underlying3 g0
      obtain ⟨pa, ps, pc, e1, hp, hpl⟩ := open_ints g1
      simp at e0
      exact ⟨⟨t, ps⟩, e0, ⟨pa, pc, e1, hp⟩, hpl⟩
    haveI : Inhabited SD := ⟨noSD⟩
    obtain ⟨N, hN⟩ := choose_lt key
    have en : ∀ i, i < len → stAt ((List.range len).map N) i = N i := fun i hi => by simp [stAt, hi]
    refine ⟨some a, (List.range len).map N, m, by simpa using hcs, ?_, fun i hi => ?_, by simp; omega⟩
    · by_cases h0 : len = 0
      · subst h0; exact Or.inl rfl
      · have ea := addr_spot (show W.cell? (a.add 0) = some (V0 0) by simpa using (hx 0 (by omega)).1)
        refine Or.inr ⟨a.block, a.off, by rw [← ea], ?_, fun i hi => ?_⟩
        · have := (hx 0 (by omega)).1
          rw [ea, add_at] at this
          exact World.block_lt_of_cell? W ⟨a.block, a.off + 0 * 2, none⟩ this
        · have hi' : i < len := by simpa using hi
          obtain ⟨e0, ⟨pa, pc, e1, hp⟩, _⟩ := hN i (by omega)
          obtain ⟨g0, g1, _, _⟩ := hx i (by omega)
          rw [ea, add_at] at g0 g1
          rw [en i hi']
          exact ⟨by rw [g0, e0], pa, pc, by rw [Nat.add_assoc, g1, e1], hp⟩
    · have hi' : i < len := by simpa using hi
      rw [en i hi']
      exact (hN i (by omega)).2.2
end
end Go.Proofs.Ytoajjdlgipphiaa
