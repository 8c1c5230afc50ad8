/-
  A pen that came in, opened: what its reading says of the memory; each theorem names its conditions.
-/
import Derived.Test.YtolpiapkmlbccaaIntsOpen
namespace Go.Proofs.Ytolpiapkmlbccaa
open Go.ChangeShapes Go.WideShapes Go.ChangeAt Go.RowKit Go.Deep
set_option linter.unusedVariables false

theorem array5 {α : Type} {cs : Array α} (h : cs.size = 5) : ∃ c0 c1 c2 c3 c4, cs = #[c0, c1, c2, c3, c4] := by
  obtain ⟨l⟩ := cs
  match l, h with
  | [c0, c1, c2, c3, c4], _ => exact ⟨c0, c1, c2, c3, c4, rfl⟩
section
variable {H : Type} {enc : TypeId × Value → H} {W : World} {base : Nat} {held : Bool}
theorem int5_of {n : Nat} {c : Value} {o : Option (DataW H × List MemPlace)} (h : DataW.trod enc Try.prog W base (fun _ => true) held n 3 [c] = o) (ho : o.isSome = true) : ∃ a : Int, c = .int .i64 a := by
  obtain ⟨y, rfl⟩ := Option.isSome_iff_exists.1 ho
  obtain ⟨x, e, _, hx⟩ := DataW.trod_int Try.underlying3 h
  simp at e
  exact ⟨x, e⟩
set_option maxRecDepth 100000 in
theorem open_pen {r : Reach} {b0 : Nat} {v : Value} {d : DataW H} {p : List MemPlace} (hv : Value.okWide Try.prog W r b0 24 v) (h : DataW.Trod enc Try.prog W base (fun _ => true) held 24 v d p) :
    ∃ (pw pj pc : Int) (a : Option Addr) (l : List Int) (c : Nat) (pf : Int), v = .agg #[.int .i64 pw, .int .i64 pj, .int .i64 pc, .slice a l.length c, .int .i64 pf] ∧ Ints W a l ∧ l.length ≤ maxLen := by
  obtain ⟨cs, rfl, hsz⟩ := okWide_struct Try.underlying24 hv
  have hC : Try.prog.cellsOf 24 = 5 := by kernel_rfl
  obtain ⟨c0, c1, c2, c3, c4, rfl⟩ := array5 (hsz.trans hC)
  obtain ⟨fuel, hf⟩ := h
  obtain ⟨xs, n, _, _, _, hlen, hx⟩ := DataW.trod_struct Try.underlying24 hf
  have h0 := hx 0 _ rfl
  have h1 := hx 1 _ rfl
  have h2 := hx 2 _ rfl
  have h3 := hx 3 _ rfl
  have h4 := hx 4 _ rfl
  have hl5 : xs.length = 5 := hlen
  have some_ : ∀ i, i < 5 → (xs[i]?).isSome = true := fun i hi => by rw [List.getElem?_eq_getElem (by omega)]; rfl
  simp only [Value.cells] at h0 h1 h2 h3 h4
  obtain ⟨pw, rfl⟩ := int5_of h0 (some_ 0 (by omega))
  obtain ⟨pj, rfl⟩ := int5_of h1 (some_ 1 (by omega))
  obtain ⟨pc, rfl⟩ := int5_of h2 (some_ 2 (by omega))
  obtain ⟨pf, rfl⟩ := int5_of h4 (some_ 4 (by omega))
  obtain ⟨y, hy⟩ := Option.isSome_iff_exists.1 (some_ 3 (by omega))
  rw [hy] at h3
  obtain ⟨a, l, c, rfl, hi, hl⟩ := open_ints h3
  exact ⟨pw, pj, pc, a, l, c, pf, rfl, hi, hl⟩
end
end Go.Proofs.Ytolpiapkmlbccaa
