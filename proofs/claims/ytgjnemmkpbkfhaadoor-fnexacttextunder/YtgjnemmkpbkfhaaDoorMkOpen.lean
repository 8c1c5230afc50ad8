/-
  Nodes that came in, opened: what their reading says of the memory; each theorem names its conditions.
-/
import Derived.Test.YtgjnemmkpbkfhaaDoorMk
import Derived.Deep.SlicePairs
import Derived.Lib.SmallJoins
import Derived.ShutString
import Derived.ChangeOld
namespace Go.Proofs.YtgjnemmkpbkfhaaDoor
open Go.ChangeShapes Go.WideShapes Go.ChangeAt Go.RowKit Go.Deep
set_option linter.unusedVariables false

def sv : Value → ByteArray
  | .string s => s
  | _ => ⟨#[]⟩
section
variable {H : Type} {enc : TypeId × Value → H} {W : World} {base : Nat} {held : Bool}
theorem open_attrs {fuel : Nat} {v : Value} {x : DataW H × List MemPlace} (h : DataW.trod enc Tryd.prog W base (fun _ => true) held fuel 56 [v] = some x) :
    ∃ a l c, v = .slice a l.length c ∧ Attrs W a l ∧ okSizes l ∧ l.length ≤ maxLen := by
  rcases open_slice_pairs Tryd.underlying56 Tryd.underlying156 (by kernel_rfl) rfl rfl (by kernel_rfl) (by kernel_rfl) h with ⟨hcs, _⟩ | ⟨a, len, cap, m, n, V0, V1, D0, D1, P0, P1, hcs, _, hl, hm, hmm, _, hx⟩
  · simp at hcs
    exact ⟨none, [], 0, hcs, Or.inl rfl, fun i hi => absurd hi (by simp), by simp⟩
  · simp at hcs hmm
    subst hmm
    have key : ∀ i, i < m → ∃ s t, V0 i = .string s ∧ V1 i = .string t ∧ s.size ≤ maxLen ∧ t.size ≤ maxLen := by
      intro i hi
      obtain ⟨_, _, g0, g1⟩ := hx i hi
      obtain ⟨s, e0, _, hs⟩ := DataW.trod_string Tryd.underlying9 g0
      obtain ⟨t, e1, _, ht⟩ := DataW.trod_string Tryd.underlying9 g1
      simp at e0 e1
      exact ⟨s, t, e0, e1, hs, ht⟩
    refine ⟨some a, (List.range len).map fun i => (sv (V0 i), sv (V1 i)), m, by simpa using hcs, ?_, ?_, by simp; omega⟩
    · by_cases h0 : len = 0
      · subst h0; exact Or.inl rfl
      · have ea := addr_spot (show W.cell? (a.add 0) = some (V0 0) by simpa using (hx 0 (by omega)).1)
        refine Or.inr ⟨a.block, a.off, by rw [← ea], ?_, fun i hi => ?_⟩
        · have := (hx 0 (by omega)).1
          rw [ea, add_at] at this
          exact World.block_lt_of_cell? W ⟨a.block, a.off + 0 * 2, none⟩ this
        · have hi' : i < len := by simpa using hi
          obtain ⟨s, t, e0, e1, _, _⟩ := key i (by omega)
          obtain ⟨g0, g1, _, _⟩ := hx i (by omega)
          rw [ea, add_at] at g0 g1
          have ep : pairAt ((List.range len).map fun i => (sv (V0 i), sv (V1 i))) i = (s, t) := by simp [pairAt, hi', e0, e1, sv]
          rw [ep, g0, e0, Nat.add_assoc, g1, e1]
          exact ⟨rfl, rfl⟩
    · intro i hi
      have hi' : i < len := by simpa using hi
      obtain ⟨s, t, e0, e1, hs, ht⟩ := key i (by omega)
      have ep : pairAt ((List.range len).map fun i => (sv (V0 i), sv (V1 i))) i = (s, t) := by simp [pairAt, hi', e0, e1, sv]
      rw [ep]
      exact ⟨hs, ht⟩
theorem node_of {fuel : Nat} {v0 v1 v2 v3 : Value} {y0 y1 y2 y3 : DataW H × List MemPlace}
    (h0 : DataW.trod enc Tryd.prog W base (fun _ => true) held fuel 9 [v0] = some y0) (h1 : DataW.trod enc Tryd.prog W base (fun _ => true) held fuel 3 [v1] = some y1)
    (h2 : DataW.trod enc Tryd.prog W base (fun _ => true) held fuel 56 [v2] = some y2) (h3 : DataW.trod enc Tryd.prog W base (fun _ => true) held fuel 9 [v3] = some y3) :
    ∃ name up l text a c, v0 = .string name ∧ v1 = .int .i64 up ∧ v2 = .slice a l.length c ∧ v3 = .string text ∧ okND ⟨name, up, l, text⟩ ∧ Attrs W a l := by
  obtain ⟨s, e0, _, hs⟩ := DataW.trod_string Tryd.underlying9 h0
  obtain ⟨t, e3, _, ht⟩ := DataW.trod_string Tryd.underlying9 h3
  obtain ⟨n, e1, _, hn⟩ := DataW.trod_int Tryd.underlying3 h1
  obtain ⟨a, l, c, rfl, hat, hok, hlen⟩ := open_attrs h2
  simp at e0 e1 e3
  subst e0 e1 e3
  exact ⟨s, n, l, t, a, c, rfl, rfl, rfl, rfl, ⟨hs, ht, i64_bd hn, hlen, hok⟩, hat⟩
set_option maxRecDepth 100000 in
theorem open_node {r : Reach} {b0 : Nat} {v : Value} {d : DataW H} {p : List MemPlace} (hv : Value.okWide Tryd.prog W r b0 58 v) (h : DataW.Trod enc Tryd.prog W base (fun _ => true) held 58 v d p) :
    ∃ name up l text a c, v = .agg #[.string name, .int .i64 up, .slice a l.length c, .string text] ∧ okND ⟨name, up, l, text⟩ ∧ Attrs W a l := by
  obtain ⟨v0, v1, v2, v3, y0, y1, y2, y3, n, rfl, _, _, h0, h1, h2, h3⟩ := Joins.open_agg4 Tryd.underlying58 (by kernel_rfl) (by kernel_rfl) hv h
  obtain ⟨name, up, l, text, a, c, rfl, rfl, rfl, rfl, hok, hat⟩ := node_of h0 h1 h2 h3
  exact ⟨name, up, l, text, a, c, rfl, hok, hat⟩
end
end Go.Proofs.YtgjnemmkpbkfhaaDoor
