/-
  Lines that came in, opened: what their reading says of the memory; each theorem names its conditions.
  Numbers that came in, opened: what their reading says of the memory; each theorem names its conditions.
  A pen that came in, opened: what its reading says of the memory; each theorem names its conditions.
-/
import Derived.Test.YtfdjjbgcaojcnaaGreatJBG
import Derived.Test.YtfdjjbgcaojcnaaGreatJAD
import Derived.Test.YtfdjjbgcaojcnaaGreatJAQ
import Derived.Deep.SlicePairs
import Derived.Lib.SmallJoins
import Derived.ShutString
import Derived.ChangeOld
namespace Go.Proofs.YtfdjjbgcaojcnaaGreat
open Go.ChangeShapes Go.WideShapes Go.ChangeAt Go.RowKit Go.Deep
set_option linter.unusedVariables false

section
variable {H : Type} {enc : TypeId × Value → H} {W : World} {base : Nat} {held : Bool}
set_option maxRecDepth 100000 in
theorem open_lines {r : Reach} {b0 : Nat} {v : Value} {d : DataW H} {p : List MemPlace} (hv : Value.okWide Tryz.prog W r b0 41 v) (h : DataW.Trod enc Tryz.prog W base (fun _ => true) held 41 v d p) :
    ∃ a l c, v = .slice a l.length c ∧ Lines W a l ∧ (∀ i, i < l.length → (lnAt l i).pts.length ≤ maxLen) ∧ l.length ≤ maxLen := by
  obtain ⟨a0, len0, cap0, rfl⟩ := okWide_slice Tryz.underlying41 hv
  obtain ⟨fuel, hf⟩ := h
  rcases open_slice_pairs Tryz.underlying41 Tryz.underlying81 (by kernel_rfl) rfl rfl (by kernel_rfl) (by kernel_rfl) (show DataW.trod enc Tryz.prog W base (fun _ => true) held fuel 41 [.slice a0 len0 cap0] = _ by simpa [Value.cells] using hf) with ⟨hcs, _⟩ | ⟨a, len, cap, m, n, V0, V1, D0, D1, P0, P1, hcs, _, hl, hm, hmm, _, hx⟩
  · simp at hcs
    obtain ⟨rfl, rfl, rfl⟩ := hcs
    exact ⟨none, [], 0, rfl, Or.inl rfl, fun i hi => absurd hi (by simp), by simp⟩
  · simp at hcs hmm
    subst hmm
    have key : ∀ i, i < m → ∃ x : LD, (∃ pa pc, V0 i = .slice pa x.pts.length pc ∧ Pts W pa x.pts) ∧ x.pts.length ≤ maxLen ∧ V1 i = .bool x.closed := by
      intro i hi
      obtain ⟨_, _, g0, g1⟩ := hx i hi
      obtain ⟨pa, ps, pc, e0, hp, hpl⟩ := open_pts g0
      obtain ⟨t, e1, _⟩ := DataW.trod_bool Tryz.underlying4 g1
      simp at e1
      exact ⟨⟨ps, t⟩, ⟨pa, pc, e0, hp⟩, hpl, e1⟩
    haveI : Inhabited LD := ⟨noLD⟩
    obtain ⟨N, hN⟩ := choose_lt key
    have en : ∀ i, i < len → lnAt ((List.range len).map N) i = N i := fun i hi => by simp [lnAt, hi]
    refine ⟨some a, (List.range len).map N, m, by simpa using hcs, ?_, fun i hi => ?_, by simp; omega⟩
    · by_cases h0 : len = 0
      · subst h0; exact Or.inl rfl
      · have ea := addr_spot (show W.cell? (a.add 0) = some (V0 0) by simpa using (hx 0 (by omega)).1)
        refine Or.inr ⟨a.block, a.off, by rw [← ea], ?_, fun i hi => ?_⟩
        · have := (hx 0 (by omega)).1
          rw [ea, add_at] at this
          exact World.block_lt_of_cell? W ⟨a.block, a.off + 0 * 2, none⟩ this
        · have hi' : i < len := by simpa using hi
          obtain ⟨⟨pa, pc, e0, hp⟩, _, e1⟩ := hN i (by omega)
          obtain ⟨g0, g1, _, _⟩ := hx i (by omega)
          rw [ea, add_at] at g0 g1
          rw [en i hi']
          exact ⟨⟨pa, pc, by rw [g0, e0], hp⟩, by rw [Nat.add_assoc, g1, e1]⟩
    · have hi' : i < len := by simpa using hi
      rw [en i hi']
      exact (hN i (by omega)).2.1
end
end Go.Proofs.YtfdjjbgcaojcnaaGreat
namespace Go.Proofs.YtfdjjbgcaojcnaaGreat
open Go.ChangeShapes Go.WideShapes Go.ChangeAt Go.RowKit Go.Deep
set_option linter.unusedVariables false

section
variable {H : Type} {enc : TypeId × Value → H} {W : World} {base : Nat} {held : Bool}
set_option maxRecDepth 100000 in
theorem open_ints {fuel : Nat} {v : Value} {x : DataW H × List MemPlace} (h : DataW.trod enc Tryz.prog W base (fun _ => true) held fuel 26 [v] = some x) :
    ∃ a l c, v = .slice a l.length c ∧ Ints W a l ∧ l.length ≤ maxLen := by
  rcases open_slice Tryz.underlying26 h with ⟨hcs, _⟩ | ⟨a, len, cap, m, n, D, Pl, hcs, _, hl, hm, hmm, _, hx⟩
  · simp at hcs
    exact ⟨none, [], 0, hcs, Or.inl rfl, by simp⟩
  · simp at hcs hmm
    subst hmm
    have ce : Tryz.prog.cellsOf 3 = 1 := by kernel_rfl
    rw [ce] at hx
    have key : ∀ i, i < m → ∃ n : Int, W.cell? (a.add (i * 1)) = some (.int .i64 n) := by
      intro i hi
      obtain ⟨cs', h1, h2⟩ := hx i hi
      obtain ⟨_, hlen, hcell⟩ := World.cells?_some h1
      obtain ⟨t, e1, _, _⟩ := DataW.trod_int Tryz.underlying3 h2
      subst e1
      have c0 := hcell 0 (by omega)
      have ez : ∀ b : Addr, b.add 0 = b := fun b => rfl
      rw [ez] at c0
      exact ⟨t, by simpa using c0⟩
    obtain ⟨N, hN⟩ := choose_lt key
    have en : ∀ i, i < len → intAt ((List.range len).map N) i = N i := fun i hi => by simp [intAt, hi]
    refine ⟨some a, (List.range len).map N, m, by simpa using hcs, ?_, by simp; omega⟩
    by_cases h0 : len = 0
    · subst h0; exact Or.inl rfl
    · have hc := hN 0 (by omega)
      have ea := addr_spot (show W.cell? (a.add 0) = some _ by simpa using hc)
      refine Or.inr ⟨a.block, a.off, by rw [← ea], ?_, fun i hi => ?_⟩
      · rw [ea, add_at] at hc
        exact World.block_lt_of_cell? W ⟨a.block, a.off + 0 * 1, none⟩ hc
      · have hi' : i < len := by simpa using hi
        have g0 := hN i (by omega)
        rw [ea, add_at, Nat.mul_one] at g0
        rw [en i hi']
        exact g0
set_option maxRecDepth 100000 in
theorem open_ints1 {r : Reach} {b0 : Nat} {v : Value} {d : DataW H} {p : List MemPlace} (hv : Value.okWide Tryz.prog W r b0 26 v) (h : DataW.Trod enc Tryz.prog W base (fun _ => true) held 26 v d p) :
    ∃ a l c, v = .slice a l.length c ∧ Ints W a l ∧ l.length ≤ maxLen := by
  obtain ⟨a0, len, cap, rfl⟩ := okWide_slice Tryz.underlying26 hv
  obtain ⟨fuel, hf⟩ := h
  exact open_ints (by simpa [Value.cells] using hf)
end
end Go.Proofs.YtfdjjbgcaojcnaaGreat
namespace Go.Proofs.YtfdjjbgcaojcnaaGreat
open Go.ChangeShapes Go.WideShapes Go.ChangeAt Go.RowKit Go.Deep
set_option linter.unusedVariables false

theorem array5 {α : Type} {cs : Array α} (h : cs.size = 5) : ∃ c0 c1 c2 c3 c4, cs = #[c0, c1, c2, c3, c4] := by
  obtain ⟨l⟩ := cs
  match l, h with
  | [c0, c1, c2, c3, c4], _ => exact ⟨c0, c1, c2, c3, c4, rfl⟩
section
variable {H : Type} {enc : TypeId × Value → H} {W : World} {base : Nat} {held : Bool}
theorem int5_of {n : Nat} {c : Value} {o : Option (DataW H × List MemPlace)} (h : DataW.trod enc Tryz.prog W base (fun _ => true) held n 3 [c] = o) (ho : o.isSome = true) : ∃ a : Int, c = .int .i64 a := by
  obtain ⟨y, rfl⟩ := Option.isSome_iff_exists.1 ho
  obtain ⟨x, e, _, hx⟩ := DataW.trod_int Tryz.underlying3 h
  simp at e
  exact ⟨x, e⟩
set_option maxRecDepth 100000 in
theorem open_pen {r : Reach} {b0 : Nat} {v : Value} {d : DataW H} {p : List MemPlace} (hv : Value.okWide Tryz.prog W r b0 42 v) (h : DataW.Trod enc Tryz.prog W base (fun _ => true) held 42 v d p) :
    ∃ (pw pj pc : Int) (a : Option Addr) (l : List Int) (c : Nat) (pf : Int), v = .agg #[.int .i64 pw, .int .i64 pj, .int .i64 pc, .slice a l.length c, .int .i64 pf] ∧ Ints W a l ∧ l.length ≤ maxLen := by
  obtain ⟨cs, rfl, hsz⟩ := okWide_struct Tryz.underlying42 hv
  have hC : Tryz.prog.cellsOf 42 = 5 := by kernel_rfl
  obtain ⟨c0, c1, c2, c3, c4, rfl⟩ := array5 (hsz.trans hC)
  obtain ⟨fuel, hf⟩ := h
  obtain ⟨xs, n, _, _, _, hlen, hx⟩ := DataW.trod_struct Tryz.underlying42 hf
  have h0 := hx 0 _ rfl
  have h1 := hx 1 _ rfl
  have h2 := hx 2 _ rfl
  have h3 := hx 3 _ rfl
  have h4 := hx 4 _ rfl
  have hl5 : xs.length = 5 := hlen
  have some_ : ∀ i, i < 5 → (xs[i]?).isSome = true := fun i hi => by rw [List.getElem?_eq_getElem (by omega)]; rfl
  simp only [Value.cells] at h0 h1 h2 h3 h4
  obtain ⟨pw, rfl⟩ := int5_of h0 (some_ 0 (by omega))
  obtain ⟨pj, rfl⟩ := int5_of h1 (some_ 1 (by omega))
  obtain ⟨pc, rfl⟩ := int5_of h2 (some_ 2 (by omega))
  obtain ⟨pf, rfl⟩ := int5_of h4 (some_ 4 (by omega))
  obtain ⟨y, hy⟩ := Option.isSome_iff_exists.1 (some_ 3 (by omega))
  rw [hy] at h3
  obtain ⟨a, l, c, rfl, hi, hl⟩ := open_ints h3
  exact ⟨pw, pj, pc, a, l, c, pf, rfl, hi, hl⟩
end
end Go.Proofs.YtfdjjbgcaojcnaaGreat
