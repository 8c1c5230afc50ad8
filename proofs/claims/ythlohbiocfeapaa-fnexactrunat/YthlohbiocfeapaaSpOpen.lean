/-
  Stops that came in, opened: what their reading says of the memory; each theorem names its conditions.
-/
import Derived.Test.YthlohbiocfeapaaSp
import Derived.Deep.SlicePairs
import Derived.Lib.SmallJoins
import Derived.ShutString
import Derived.ChangeOld
namespace Go.Proofs.Ythlohbiocfeapaa
open Go.ChangeShapes Go.WideShapes Go.ChangeAt Go.RowKit Go.Deep
set_option linter.unusedVariables false

theorem list5 {α : Type} {cs : List α} (h : cs.length = 5) : ∃ c0 c1 c2 c3 c4, cs = [c0, c1, c2, c3, c4] := by
  match cs, h with
  | [c0, c1, c2, c3, c4], _ => exact ⟨c0, c1, c2, c3, c4, rfl⟩
section
variable {H : Type} {enc : TypeId × Value → H} {W : World} {base : Nat} {held : Bool}
theorem intp_of {n : Nat} {c : Value} {o : Option (DataW H × List MemPlace)} (h : DataW.trod enc Try.prog W base (fun _ => true) held n 3 [c] = o) (ho : o.isSome = true) : ∃ a : Int, c = .int .i64 a := by
  obtain ⟨y, rfl⟩ := Option.isSome_iff_exists.1 ho
  obtain ⟨x, e, _, hx⟩ := DataW.trod_int Try.underlying3 h
  simp at e
  exact ⟨x, e⟩
set_option maxRecDepth 100000 in
theorem open_stops {r : Reach} {b0 : Nat} {v : Value} {d : DataW H} {p : List MemPlace} (hv : Value.okWide Try.prog W r b0 48 v) (h : DataW.Trod enc Try.prog W base (fun _ => true) held 48 v d p) :
    ∃ a l c, v = .slice a l.length c ∧ Stps W a l ∧ l.length ≤ maxLen := by
  obtain ⟨a0, len0, cap0, rfl⟩ := okWide_slice Try.underlying48 hv
  obtain ⟨fuel, hf⟩ := h
  rcases open_slice Try.underlying48 (show DataW.trod enc Try.prog W base (fun _ => true) held fuel 48 [.slice a0 len0 cap0] = _ by simpa [Value.cells] using hf) with ⟨hcs, _⟩ | ⟨a, len, cap, m, n, D, Pl, hcs, _, hl, hm, hmm, _, hx⟩
  · simp at hcs
    obtain ⟨rfl, rfl, rfl⟩ := hcs
    exact ⟨none, [], 0, rfl, Or.inl rfl, by simp⟩
  · simp at hcs hmm
    subst hmm
    have ce : Try.prog.cellsOf 109 = 5 := by kernel_rfl
    rw [ce] at hx
    have key : ∀ i, i < m → ∃ e : Stp, W.cell? ((a.add (i * 5)).add 0) = some (.int .i64 e.p) ∧ W.cell? ((a.add (i * 5)).add 1) = some (.int .i64 e.t.ax) ∧ W.cell? ((a.add (i * 5)).add 2) = some (.int .i64 e.t.ay) ∧ W.cell? ((a.add (i * 5)).add 3) = some (.int .i64 e.t.bx) ∧ W.cell? ((a.add (i * 5)).add 4) = some (.int .i64 e.t.cy) := by
      intro i hi
      obtain ⟨cs', h1, h2⟩ := hx i hi
      obtain ⟨_, hlen, hcell⟩ := World.cells?_some h1
      obtain ⟨c0, c1, c2, c3, c4, rfl⟩ := list5 hlen
      obtain ⟨xs, n', _, _, _, hlen2, hf⟩ := DataW.trod_struct Try.underlying109 h2
      have hl2 : xs.length = 2 := hlen2
      have some_ : ∀ i, i < 2 → (xs[i]?).isSome = true := fun i hi => by rw [List.getElem?_eq_getElem (by omega)]; rfl
      obtain ⟨q, rfl⟩ := intp_of (hf 0 _ rfl) (some_ 0 (by omega))
      have ht := hf 1 _ rfl
      obtain ⟨y, hy⟩ := Option.isSome_iff_exists.1 (some_ 1 (by omega))
      rw [hy] at ht
      obtain ⟨ys, n2, _, _, _, hlen3, hg⟩ := DataW.trod_struct Try.underlying35 ht
      have hl4 : ys.length = 4 := hlen3
      have some2 : ∀ i, i < 4 → (ys[i]?).isSome = true := fun i hi => by rw [List.getElem?_eq_getElem (by omega)]; rfl
      obtain ⟨r, rfl⟩ := intp_of (hg 0 _ rfl) (some2 0 (by omega))
      obtain ⟨g, rfl⟩ := intp_of (hg 1 _ rfl) (some2 1 (by omega))
      obtain ⟨b, rfl⟩ := intp_of (hg 2 _ rfl) (some2 2 (by omega))
      obtain ⟨al, rfl⟩ := intp_of (hg 3 _ rfl) (some2 3 (by omega))
      have g0 := hcell 0 (by simp)
      have g1 := hcell 1 (by simp)
      have g2 := hcell 2 (by simp)
      have g3 := hcell 3 (by simp)
      have g4 := hcell 4 (by simp)
      exact ⟨⟨q, ⟨r, g, b, al⟩⟩, by simpa using g0, by simpa using g1, by simpa using g2, by simpa using g3, by simpa using g4⟩
    haveI : Inhabited Stp := ⟨noS⟩
    obtain ⟨N, hN⟩ := choose_lt key
    have en : ∀ i, i < len → spAt ((List.range len).map N) i = N i := fun i hi => by simp [spAt, hi]
    refine ⟨some a, (List.range len).map N, m, by simpa using hcs, ?_, by simp; omega⟩
    by_cases h0 : len = 0
    · subst h0; exact Or.inl rfl
    · have hc := (hN 0 (by omega)).1
      have ez : ∀ b : Addr, b.add 0 = b := fun b => rfl
      rw [ez] at hc
      have ea := addr_spot (show W.cell? (a.add 0) = some _ by simpa using hc)
      refine Or.inr ⟨a.block, a.off, by rw [← ea], ?_, fun i hi => ?_⟩
      · rw [ea, add_at] at hc
        exact World.block_lt_of_cell? W ⟨a.block, a.off + 0 * 5, none⟩ hc
      · have hi' : i < len := by simpa using hi
        obtain ⟨g0, g1, g2, g3, g4⟩ := hN i (by omega)
        rw [ea, add_at, add_at] at g0 g1 g2 g3 g4
        rw [en i hi']
        exact ⟨g0, g1, g2, g3, g4⟩
end
end Go.Proofs.Ythlohbiocfeapaa
