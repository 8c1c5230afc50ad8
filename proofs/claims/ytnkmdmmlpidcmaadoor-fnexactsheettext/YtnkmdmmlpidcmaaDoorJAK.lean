/-
  Selectors of a bounded size have small parts; no condition but those of each line.
  Parts that came in, opened: what their reading says of the memory; each theorem names its conditions.
-/
import Derived.Test.YtnkmdmmlpidcmaaDoorJAH
import Derived.Test.YtnkmdmmlpidcmaaDoorJAE
import Derived.SliceStrings
import Derived.Deep.SlicePairs
import Derived.Lib.SmallJoins
import Derived.ShutString
import Derived.ChangeOld
namespace Go.Proofs.YtnkmdmmlpidcmaaDoor
open Go.ChangeShapes Go.WideShapes Go.ChangeAt Go.RowKit
set_option linter.unusedVariables false

theorem bulkPs_at (l : List PD) (k : Nat) (h : k < l.length) : bulkP (partAt l k) ≤ bulkPs l := by
  have h1 := bulkPs_step l k h
  have h2 := bulkPs_le l (k + 1)
  omega
theorem smallPs_of {l : List PD} (hb : ((l.length + bulkPs l : Nat) : Int) ≤ 1048576) : smallPs l ∧ lenPs l := by
  have key : ∀ i, i < l.length → smallP (partAt l i) := by
    intro i hi
    have h1 := bulkPs_at l i hi
    unfold bulkP at h1
    refine ⟨by omega, by omega, by omega, fun k hk => ?_⟩
    have h3 := bulk1_step (partAt l i).cls k hk
    have h4 := bulk1_le (partAt l i).cls (k + 1)
    omega
  exact ⟨key, fun i hi => (key i hi).len⟩
end Go.Proofs.YtnkmdmmlpidcmaaDoor
namespace Go.Proofs.YtnkmdmmlpidcmaaDoor
open Go.ChangeShapes Go.WideShapes Go.ChangeAt Go.RowKit Go.Deep
set_option linter.unusedVariables false

section
variable {H : Type} {enc : TypeId × Value → H} {W : World} {base : Nat} {held : Bool}
theorem open_strs {fuel : Nat} {v : Value} {x : DataW H × List MemPlace} (h : DataW.trod enc Tryd.prog W base (fun _ => true) held fuel 52 [v] = some x) :
    ∃ a l c, v = .slice a l.length c ∧ Strs W a l ∧ okStrs l ∧ l.length ≤ maxLen ∧ l.length ≤ c := by
  rcases open_strings Tryd.underlying52 Tryd.underlying9 (by kernel_rfl) h with ⟨hcs, _⟩ | ⟨a, len, cap, ss, hcs, _, hl, hm, hz, _, hcell, hsz⟩
  · simp at hcs
    exact ⟨none, [], 0, hcs, Or.inl rfl, fun i hi => absurd hi (by simp), by simp, by simp⟩
  · simp at hcs hz
    have el : (ss.take len).length = len := by simp; omega
    have es : ∀ i, i < len → strAt (ss.take len) i = ss.getD i ByteArray.empty := fun i hi => by
      simp [strAt, List.getD_eq_getElem?_getD, hi]; rfl
    refine ⟨some a, ss.take len, cap, by rw [el]; exact hcs, ?_, ?_, by rw [el]; omega, by rw [el]; omega⟩
    · by_cases h0 : len = 0
      · subst h0; exact Or.inl (by simp)
      · have h1 := hcell 0 (by omega)
        have ea := addr_spot h1
        refine Or.inr ⟨a.block, a.off, by rw [← ea], ?_, fun i hi => ?_⟩
        · rw [ea, add_at] at h1
          exact World.block_lt_of_cell? W ⟨a.block, a.off + 0, none⟩ h1
        · rw [el] at hi
          have h2 := hcell i (by omega)
          rw [ea, add_at] at h2
          rw [es i hi]
          exact h2
    · intro i hi
      rw [el] at hi
      rw [es i hi]
      have hlt : i < ss.length := by omega
      have e : ss.getD i ByteArray.empty = ss[i] := by simp [hlt]
      rw [e]
      exact hsz _ (List.getElem_mem hlt)
theorem part_of {fuel : Nat} {v0 v1 v2 : Value} {y0 y1 y2 : DataW H × List MemPlace}
    (h0 : DataW.trod enc Tryd.prog W base (fun _ => true) held fuel 9 [v0] = some y0) (h1 : DataW.trod enc Tryd.prog W base (fun _ => true) held fuel 9 [v1] = some y1)
    (h2 : DataW.trod enc Tryd.prog W base (fun _ => true) held fuel 52 [v2] = some y2) :
    ∃ ty id l a c, v0 = .string ty ∧ v1 = .string id ∧ v2 = .slice a l.length c ∧ l.length ≤ c ∧ okPD ⟨ty, id, l⟩ ∧ Strs W a l := by
  obtain ⟨s, e0, _, hs⟩ := DataW.trod_string Tryd.underlying9 h0
  obtain ⟨t, e1, _, ht⟩ := DataW.trod_string Tryd.underlying9 h1
  obtain ⟨a, l, c, rfl, hat, hok, hlen, hcap⟩ := open_strs h2
  simp at e0 e1
  subst e0 e1
  exact ⟨s, t, l, a, c, rfl, rfl, rfl, hcap, ⟨hs, ht, hlen, hok⟩, hat⟩
set_option maxRecDepth 100000 in
theorem parts_of {fuel : Nat} {v : Value} {x : DataW H × List MemPlace} (hf : DataW.trod enc Tryd.prog W base (fun _ => true) held fuel 123 [v] = some x) :
    ∃ a l c, v = .slice a l.length c ∧ Parts W a l ∧ okPDs l ∧ l.length ≤ maxLen ∧ l.length ≤ c := by
  rcases open_slice Tryd.underlying123 hf with ⟨hcs, _⟩ | ⟨a, len, cap, m, n, D, Pl, hcs, _, hl, hm, hmm, _, hx⟩
  · simp at hcs
    exact ⟨none, [], 0, hcs, Or.inl rfl, fun i hi => absurd hi (by simp), by simp, by simp⟩
  · simp at hcs hmm
    subst hmm
    have ce : Tryd.prog.cellsOf 149 = 3 := by kernel_rfl
    rw [ce] at hx
    have key : ∀ i, i < m → ∃ n : PD, okPD n ∧ W.cell? (a.add (i * 3)) = some (.string n.ty) ∧ W.cell? (a.add (i * 3 + 1)) = some (.string n.id) ∧ (∃ aa c, W.cell? (a.add (i * 3 + 2)) = some (.slice aa n.cls.length c) ∧ n.cls.length ≤ c ∧ Strs W aa n.cls) := by
      intro i hi
      obtain ⟨cs', h1, h2⟩ := hx i hi
      obtain ⟨_, hlen, hcell⟩ := World.cells?_some h1
      obtain ⟨xs, k, hk, hxy, _, hxl, hf⟩ := DataW.trod_struct Tryd.underlying149 h2
      match xs, hxl, cs', hlen with
      | [y0, y1, y2], _, [v0, v1, v2], _ =>
        have g0 := hf 0 _ rfl
        have g1 := hf 1 _ rfl
        have g2 := hf 2 _ rfl
        have e9 : Tryd.prog.cellsOf 9 = 1 := by kernel_rfl
        have es : Tryd.prog.cellsOf 52 = 1 := by kernel_rfl
        simp [e9, es] at g0 g1 g2
        obtain ⟨ty, id, l, aa, c, rfl, rfl, rfl, hcap, hok, hat⟩ := part_of g0 g1 g2
        have c0 := hcell 0 (by omega)
        have c1 := hcell 1 (by omega)
        have c2 := hcell 2 (by omega)
        rw [add_add] at c0 c1 c2
        exact ⟨⟨ty, id, l⟩, hok, by simpa using c0, by simpa using c1, ⟨_, _, by simpa using c2, hcap, hat⟩⟩
    haveI : Inhabited PD := ⟨noPD⟩
    obtain ⟨N, hN⟩ := choose_lt key
    have en : ∀ i, i < len → partAt ((List.range len).map N) i = N i := fun i hi => by simp [partAt, hi]
    refine ⟨some a, (List.range len).map N, m, by simp [hcs], ?_, fun i hi => ?_, by simp; omega, by simp; omega⟩
    · by_cases h0 : len = 0
      · subst h0; exact Or.inl rfl
      · have hc := (hN 0 (by omega)).2.1
        have ea := addr_spot (show W.cell? (a.add 0) = some _ by simpa using hc)
        refine Or.inr ⟨a.block, a.off, by rw [← ea], ?_, fun i hi => ?_⟩
        · rw [ea, add_at] at hc
          exact World.block_lt_of_cell? W ⟨a.block, a.off + 0 * 3, none⟩ hc
        · have hi' : i < len := by simpa using hi
          obtain ⟨_, g0, g1, ⟨aa, c, g2, hcap, hat⟩⟩ := hN i (by omega)
          rw [ea, add_at] at g0 g1 g2
          rw [en i hi']
          exact ⟨g0, by rw [Nat.add_assoc]; exact g1, ⟨aa, c, by rw [Nat.add_assoc]; exact g2, hcap, hat⟩⟩
    · have hi' : i < len := by simpa using hi
      rw [en i hi']
      exact (hN i (by omega)).1
set_option maxRecDepth 100000 in
theorem open_parts {r : Reach} {b0 : Nat} {v : Value} {d : DataW H} {p : List MemPlace} (hv : Value.okWide Tryd.prog W r b0 123 v) (h : DataW.Trod enc Tryd.prog W base (fun _ => true) held 123 v d p) :
    ∃ a l c, v = .slice a l.length c ∧ Parts W a l ∧ okPDs l ∧ l.length ≤ maxLen := by
  obtain ⟨a0, len0, cap0, rfl⟩ := okWide_slice Tryd.underlying123 hv
  obtain ⟨fuel, hf⟩ := h
  obtain ⟨a, l, c, h1, h2, h3, h4, _⟩ := parts_of (v := .slice a0 len0 cap0) (by simpa [Value.cells] using hf)
  exact ⟨a, l, c, h1, h2, h3, h4⟩
end
end Go.Proofs.YtnkmdmmlpidcmaaDoor
