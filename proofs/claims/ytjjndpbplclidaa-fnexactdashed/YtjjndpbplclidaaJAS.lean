/-
  Numbers that came in, opened: what their reading says of the memory; each theorem names its conditions.
  A line that came in, opened: what its reading says of the memory; each theorem names its conditions.
-/
import Derived.Test.YtjjndpbplclidaaJAH
import Derived.Deep.SlicePairs
import Derived.Lib.SmallJoins
import Derived.ShutString
import Derived.ChangeOld
import Derived.Test.YtjjndpbplclidaaJAR
namespace Go.Proofs.Ytjjndpbplclidaa
open Go.ChangeShapes Go.WideShapes Go.ChangeAt Go.RowKit Go.Deep
set_option linter.unusedVariables false

section
variable {H : Type} {enc : TypeId × Value → H} {W : World} {base : Nat} {held : Bool}
set_option maxRecDepth 100000 in
theorem open_ints {fuel : Nat} {v : Value} {x : DataW H × List MemPlace} (h : DataW.trod enc Try.prog W base (fun _ => true) held fuel 25 [v] = some x) :
    ∃ a l c, v = .slice a l.length c ∧ Ints W a l ∧ l.length ≤ maxLen := by
  rcases open_slice Try.underlying25 h with ⟨hcs, _⟩ | ⟨a, len, cap, m, n, D, Pl, hcs, _, hl, hm, hmm, _, hx⟩
  · simp at hcs
    exact ⟨none, [], 0, hcs, Or.inl rfl, by simp⟩
  · simp at hcs hmm
    subst hmm
    have ce : Try.prog.cellsOf 3 = 1 := by kernel_rfl
    rw [ce] at hx
    have key : ∀ i, i < m → ∃ n : Int, W.cell? (a.add (i * 1)) = some (.int .i64 n) := by
      intro i hi
      obtain ⟨cs', h1, h2⟩ := hx i hi
      obtain ⟨_, hlen, hcell⟩ := World.cells?_some h1
      obtain ⟨t, e1, _, _⟩ := DataW.trod_int Try.underlying3 h2
      subst e1
      have c0 := hcell 0 (by omega)
      have ez : ∀ b : Addr, b.add 0 = b := fun b => rfl
      rw [ez] at c0
      exact ⟨t, by simpa using c0⟩
    obtain ⟨N, hN⟩ := choose_lt key
    have en : ∀ i, i < len → intAt ((List.range len).map N) i = N i := fun i hi => by simp [intAt, hi]
    refine ⟨some a, (List.range len).map N, m, by simpa using hcs, ?_, by simp; omega⟩
    by_cases h0 : len = 0
    · subst h0; exact Or.inl rfl
    · have hc := hN 0 (by omega)
      have ea := addr_spot (show W.cell? (a.add 0) = some _ by simpa using hc)
      refine Or.inr ⟨a.block, a.off, by rw [← ea], ?_, fun i hi => ?_⟩
      · rw [ea, add_at] at hc
        exact World.block_lt_of_cell? W ⟨a.block, a.off + 0 * 1, none⟩ hc
      · have hi' : i < len := by simpa using hi
        have g0 := hN i (by omega)
        rw [ea, add_at, Nat.mul_one] at g0
        rw [en i hi']
        exact g0
set_option maxRecDepth 100000 in
theorem open_ints1 {r : Reach} {b0 : Nat} {v : Value} {d : DataW H} {p : List MemPlace} (hv : Value.okWide Try.prog W r b0 25 v) (h : DataW.Trod enc Try.prog W base (fun _ => true) held 25 v d p) :
    ∃ a l c, v = .slice a l.length c ∧ Ints W a l ∧ l.length ≤ maxLen := by
  obtain ⟨a0, len, cap, rfl⟩ := okWide_slice Try.underlying25 hv
  obtain ⟨fuel, hf⟩ := h
  exact open_ints (by simpa [Value.cells] using hf)
end
end Go.Proofs.Ytjjndpbplclidaa
namespace Go.Proofs.Ytjjndpbplclidaa
open Go.ChangeShapes Go.WideShapes Go.ChangeAt Go.RowKit Go.Deep
set_option linter.unusedVariables false

theorem array2 {α : Type} {cs : Array α} (h : cs.size = 2) : ∃ c0 c1, cs = #[c0, c1] := by
  obtain ⟨l⟩ := cs
  match l, h with
  | [c0, c1], _ => exact ⟨c0, c1, rfl⟩
section
variable {H : Type} {enc : TypeId × Value → H} {W : World} {base : Nat} {held : Bool}
theorem bool1_of {n : Nat} {c : Value} {x : DataW H × List MemPlace} (h : DataW.trod enc Try.prog W base (fun _ => true) held n 4 [c] = some x) : ∃ b : Bool, c = .bool b := by
  obtain ⟨t, e, _⟩ := DataW.trod_bool Try.underlying4 h
  simp at e
  exact ⟨t, e⟩
set_option maxRecDepth 100000 in
theorem open_line {r : Reach} {b0 : Nat} {v : Value} {d : DataW H} {p : List MemPlace} (hv : Value.okWide Try.prog W r b0 24 v) (h : DataW.Trod enc Try.prog W base (fun _ => true) held 24 v d p) :
    ∃ (a : Option Addr) (l : List Pnt) (c : Nat) (cl : Bool), v = .agg #[.slice a l.length c, .bool cl] ∧ Pts W a l ∧ l.length ≤ maxLen := by
  obtain ⟨cs, rfl, hsz⟩ := okWide_struct Try.underlying24 hv
  have hC : Try.prog.cellsOf 24 = 2 := by kernel_rfl
  obtain ⟨c0, c1, rfl⟩ := array2 (hsz.trans hC)
  obtain ⟨fuel, hf⟩ := h
  obtain ⟨xs, n, _, _, _, hlen, hx⟩ := DataW.trod_struct Try.underlying24 hf
  have h0 := hx 0 _ rfl
  have h1 := hx 1 _ rfl
  have hl2 : xs.length = 2 := hlen
  have some_ : ∀ i, i < 2 → (xs[i]?).isSome = true := fun i hi => by rw [List.getElem?_eq_getElem (by omega)]; rfl
  simp only [Value.cells] at h0 h1
  obtain ⟨y, hy⟩ := Option.isSome_iff_exists.1 (some_ 0 (by omega))
  rw [hy] at h0
  obtain ⟨a, l, c, rfl, hi, hl⟩ := open_pts h0
  obtain ⟨z, hz⟩ := Option.isSome_iff_exists.1 (some_ 1 (by omega))
  rw [hz] at h1
  obtain ⟨b, rfl⟩ := bool1_of h1
  exact ⟨a, l, c, b, rfl, hi, hl⟩
end
end Go.Proofs.Ytjjndpbplclidaa
