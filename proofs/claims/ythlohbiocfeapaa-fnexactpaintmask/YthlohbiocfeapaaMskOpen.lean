/-
  A mask that came in, opened: what its reading says of the memory; each theorem names its conditions.
-/
import Derived.Test.YthlohbiocfeapaaIntsOpen
namespace Go.Proofs.Ythlohbiocfeapaa
open Go.ChangeShapes Go.WideShapes Go.ChangeAt Go.RowKit Go.Deep
set_option linter.unusedVariables false

theorem array3 {α : Type} {cs : Array α} (h : cs.size = 3) : ∃ c0 c1 c2, cs = #[c0, c1, c2] := by
  obtain ⟨l⟩ := cs
  match l, h with
  | [c0, c1, c2], _ => exact ⟨c0, c1, c2, rfl⟩
section
variable {H : Type} {enc : TypeId × Value → H} {W : World} {base : Nat} {held : Bool}
theorem int3_of {n : Nat} {c : Value} {o : Option (DataW H × List MemPlace)} (h : DataW.trod enc Try.prog W base (fun _ => true) held n 3 [c] = o) (ho : o.isSome = true) : ∃ a : Int, c = .int .i64 a := by
  obtain ⟨y, rfl⟩ := Option.isSome_iff_exists.1 ho
  obtain ⟨x, e, _, hx⟩ := DataW.trod_int Try.underlying3 h
  simp at e
  exact ⟨x, e⟩
set_option maxRecDepth 100000 in
theorem open_mask {r : Reach} {b0 : Nat} {v : Value} {d : DataW H} {p : List MemPlace} (hv : Value.okWide Try.prog W r b0 72 v) (h : DataW.Trod enc Try.prog W base (fun _ => true) held 72 v d p) :
    ∃ (mw mh : Int) (a : Option Addr) (l : List Int) (c : Nat), v = .agg #[.int .i64 mw, .int .i64 mh, .slice a l.length c] ∧ Ints W a l ∧ l.length ≤ maxLen := by
  obtain ⟨cs, rfl, hsz⟩ := okWide_struct Try.underlying72 hv
  have hC : Try.prog.cellsOf 72 = 3 := by kernel_rfl
  obtain ⟨c0, c1, c2, rfl⟩ := array3 (hsz.trans hC)
  obtain ⟨fuel, hf⟩ := h
  obtain ⟨xs, n, _, _, _, hlen, hx⟩ := DataW.trod_struct Try.underlying72 hf
  have h0 := hx 0 _ rfl
  have h1 := hx 1 _ rfl
  have h2 := hx 2 _ rfl
  have hl3 : xs.length = 3 := hlen
  have some_ : ∀ i, i < 3 → (xs[i]?).isSome = true := fun i hi => by rw [List.getElem?_eq_getElem (by omega)]; rfl
  simp only [Value.cells] at h0 h1 h2
  obtain ⟨mw, rfl⟩ := int3_of h0 (some_ 0 (by omega))
  obtain ⟨mh, rfl⟩ := int3_of h1 (some_ 1 (by omega))
  obtain ⟨y, hy⟩ := Option.isSome_iff_exists.1 (some_ 2 (by omega))
  rw [hy] at h2
  obtain ⟨a, l, c, rfl, hi, hl⟩ := open_ints h2
  exact ⟨mw, mh, a, l, c, rfl, hi, hl⟩
end
end Go.Proofs.Ythlohbiocfeapaa
