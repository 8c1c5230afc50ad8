/-
  A sheet that came in, opened: what its reading says of the memory; each theorem names its conditions.
-/
import Derived.Test.YthlohbiocfeapaaQ4
import Derived.Test.YthlohbiocfeapaaMkl
import Derived.Deep.SlicePairs
import Derived.Lib.SmallJoins
import Derived.ShutString
import Derived.ChangeOld
namespace Go.Proofs.Ythlohbiocfeapaa
open Go.ChangeShapes Go.WideShapes Go.ChangeAt Go.RowKit Go.Deep
set_option linter.unusedVariables false

theorem arr3s {α : Type} {cs : Array α} (h : cs.size = 3) : ∃ c0 c1 c2, cs = #[c0, c1, c2] := by
  obtain ⟨l⟩ := cs
  match l, h with
  | [c0, c1, c2], _ => exact ⟨c0, c1, c2, rfl⟩
theorem list4 {α : Type} {cs : List α} (h : cs.length = 4) : ∃ c0 c1 c2 c3, cs = [c0, c1, c2, c3] := by
  match cs, h with
  | [c0, c1, c2, c3], _ => exact ⟨c0, c1, c2, c3, rfl⟩
section
variable {H : Type} {enc : TypeId × Value → H} {W : World} {base : Nat} {held : Bool}
theorem ints_of {n : Nat} {c : Value} {o : Option (DataW H × List MemPlace)} (h : DataW.trod enc Try.prog W base (fun _ => true) held n 3 [c] = o) (ho : o.isSome = true) : ∃ a : Int, c = .int .i64 a := by
  obtain ⟨y, rfl⟩ := Option.isSome_iff_exists.1 ho
  obtain ⟨x, e, _, hx⟩ := DataW.trod_int Try.underlying3 h
  simp at e
  exact ⟨x, e⟩
set_option maxRecDepth 100000 in
theorem open_tints {fuel : Nat} {v : Value} {x : DataW H × List MemPlace} (h : DataW.trod enc Try.prog W base (fun _ => true) held fuel 63 [v] = some x) :
    ∃ a l c, v = .slice a l.length c ∧ Edgs W a l ∧ l.length ≤ maxLen := by
  rcases open_slice Try.underlying63 h with ⟨hcs, _⟩ | ⟨a, len, cap, m, n, D, Pl, hcs, _, hl, hm, hmm, _, hx⟩
  · simp at hcs
    exact ⟨none, [], 0, hcs, Or.inl rfl, by simp⟩
  · simp at hcs hmm
    subst hmm
    have ce : Try.prog.cellsOf 35 = 4 := by kernel_rfl
    rw [ce] at hx
    have key : ∀ i, i < m → ∃ e : Edg, W.cell? ((a.add (i * 4)).add 0) = some (.int .i64 e.ax) ∧ W.cell? ((a.add (i * 4)).add 1) = some (.int .i64 e.ay) ∧ W.cell? ((a.add (i * 4)).add 2) = some (.int .i64 e.bx) ∧ W.cell? ((a.add (i * 4)).add 3) = some (.int .i64 e.cy) := by
      intro i hi
      obtain ⟨cs', h1, h2⟩ := hx i hi
      obtain ⟨_, hlen, hcell⟩ := World.cells?_some h1
      obtain ⟨c0, c1, c2, c3, rfl⟩ := list4 hlen
      obtain ⟨xs, n', _, _, _, hlen2, hf⟩ := DataW.trod_struct Try.underlying35 h2
      have hl4 : xs.length = 4 := hlen2
      have some_ : ∀ i, i < 4 → (xs[i]?).isSome = true := fun i hi => by rw [List.getElem?_eq_getElem (by omega)]; rfl
      obtain ⟨r, rfl⟩ := ints_of (hf 0 _ rfl) (some_ 0 (by omega))
      obtain ⟨g, rfl⟩ := ints_of (hf 1 _ rfl) (some_ 1 (by omega))
      obtain ⟨b, rfl⟩ := ints_of (hf 2 _ rfl) (some_ 2 (by omega))
      obtain ⟨al, rfl⟩ := ints_of (hf 3 _ rfl) (some_ 3 (by omega))
      have g0 := hcell 0 (by simp)
      have g1 := hcell 1 (by simp)
      have g2 := hcell 2 (by simp)
      have g3 := hcell 3 (by simp)
      exact ⟨⟨r, g, b, al⟩, by simpa using g0, by simpa using g1, by simpa using g2, by simpa using g3⟩
    haveI : Inhabited Edg := ⟨noE⟩
    obtain ⟨N, hN⟩ := choose_lt key
    have en : ∀ i, i < len → edAt ((List.range len).map N) i = N i := fun i hi => by simp [edAt, hi]
    refine ⟨some a, (List.range len).map N, m, by simpa using hcs, ?_, by simp; omega⟩
    by_cases h0 : len = 0
    · subst h0; exact Or.inl rfl
    · have hc := (hN 0 (by omega)).1
      have ez : ∀ b : Addr, b.add 0 = b := fun b => rfl
      rw [ez] at hc
      have ea := addr_spot (show W.cell? (a.add 0) = some _ by simpa using hc)
      refine Or.inr ⟨a.block, a.off, by rw [← ea], ?_, fun i hi => ?_⟩
      · rw [ea, add_at] at hc
        exact World.block_lt_of_cell? W ⟨a.block, a.off + 0 * 4, none⟩ hc
      · have hi' : i < len := by simpa using hi
        obtain ⟨g0, g1, g2, g3⟩ := hN i (by omega)
        rw [ea, add_at, add_at] at g0 g1 g2 g3
        rw [en i hi']
        exact ⟨g0, g1, g2, g3⟩
set_option maxRecDepth 100000 in
theorem open_sheet {r : Reach} {b0 : Nat} {v : Value} {d : DataW H} {p : List MemPlace} (hv : Value.okWide Try.prog W r b0 65 v) (h : DataW.Trod enc Try.prog W base (fun _ => true) held 65 v d p) :
    ∃ (mw mh : Int) (a : Option Addr) (l : List Edg) (c : Nat), v = .agg #[.int .i64 mw, .int .i64 mh, .slice a l.length c] ∧ Edgs W a l ∧ l.length ≤ maxLen := by
  obtain ⟨cs, rfl, hsz⟩ := okWide_struct Try.underlying65 hv
  have hC : Try.prog.cellsOf 65 = 3 := by kernel_rfl
  obtain ⟨c0, c1, c2, rfl⟩ := arr3s (hsz.trans hC)
  obtain ⟨fuel, hf⟩ := h
  obtain ⟨xs, n, _, _, _, hlen, hx⟩ := DataW.trod_struct Try.underlying65 hf
  have h0 := hx 0 _ rfl
  have h1 := hx 1 _ rfl
  have h2 := hx 2 _ rfl
  have hl3 : xs.length = 3 := hlen
  have some_ : ∀ i, i < 3 → (xs[i]?).isSome = true := fun i hi => by rw [List.getElem?_eq_getElem (by omega)]; rfl
  simp only [Value.cells] at h0 h1 h2
  obtain ⟨mw, rfl⟩ := ints_of h0 (some_ 0 (by omega))
  obtain ⟨mh, rfl⟩ := ints_of h1 (some_ 1 (by omega))
  obtain ⟨y, hy⟩ := Option.isSome_iff_exists.1 (some_ 2 (by omega))
  rw [hy] at h2
  obtain ⟨a, l, c, rfl, hi, hl⟩ := open_tints h2
  exact ⟨mw, mh, a, l, c, rfl, hi, hl⟩
end
end Go.Proofs.Ythlohbiocfeapaa
