/-
  A part read from a word, as the program reads it: pure facts; each theorem names its conditions.
-/
import Derived.Test.YtnkmdmmlpidcmaaDoorCut1
import Derived.Test.YtnkmdmmlpidcmaaDoorRwP
namespace Go.Proofs.YtnkmdmmlpidcmaaDoor
open Go.ChangeShapes Go.WideShapes Go.ChangeAt Go.RowKit
set_option linter.unusedVariables false

theorem pcs_size (c : UInt8) : ∀ (l x : List UInt8), x ∈ pcs c l → x.length ≤ l.length := by
  intro l
  induction l with
  | nil => intro x hx; simp [pcs] at hx; subst hx; exact Nat.le_refl _
  | cons b l ih =>
    intro x hx
    rw [pcs] at hx
    split at hx
    · rcases List.mem_cons.1 hx with e | h
      · subst e; exact Nat.zero_le _
      · have := ih x h; simp; omega
    · cases hp : pcs c l with
      | nil => exact absurd hp (pcs_ne c l)
      | cons y r =>
        rw [hp] at hx ih
        rcases List.mem_cons.1 hx with e | h
        · subst e
          have := ih y List.mem_cons_self
          simp; omega
        · have := ih x (List.mem_cons_of_mem _ h)
          simp; omega
theorem cutV_H (t : ByteArray) : cutV 35 t = .tuple #[.string (bA (cutH t.data.toList).1), .string (bA (cutH t.data.toList).2.1), .bool (cutH t.data.toList).2.2] := by
  unfold cutV
  rw [cutH_brk, data_len]
  by_cases h : brk 35 t.data.toList < t.size
  · rw [if_pos h, if_pos h, ext_head, ext_tail]
  · rw [if_neg h, if_neg h, bA_data]; rfl
theorem cutH_size (l : List UInt8) : (cutH l).1.length ≤ l.length ∧ (cutH l).2.1.length ≤ l.length := by
  rw [cutH_brk]
  split
  · simp; omega
  · simp
/-- What a reader of a part says. -/
def PartSays (s : ByteArray) (w w' : World) (e : Ending) : Prop :=
  (∃ p u, prP s = some p ∧ e = .returned (.tuple #[.agg #[.string p.ty, .string p.id, u], .bool true]) ∧ RowM 1 EStr w' u p.cls (iv w w')) ∨
  (prP s = none ∧ ∃ x y a n c, e = .returned (.tuple #[.agg #[.string x, .string y, .slice a n c], .bool false]))
structure PartF (s d1 nm id : ByteArray) (b : Bool) (D : List ByteArray) : Prop where
  pc : pcB 46 s = d1 :: D
  cut : cutV 35 d1 = .tuple #[.string nm, .string id, .bool b]
  yes : partB ⟨nm, id, D⟩ = true → ¬ (b = true ∧ id = ⟨#[]⟩) → prP s = some ⟨nm, id, D⟩
  no : partB ⟨nm, id, D⟩ = false ∨ (b = true ∧ id = ⟨#[]⟩) → prP s = none
  s1 : d1.size ≤ 1048576
  s2 : nm.size ≤ 1048576
  s3 : id.size ≤ 1048576
  s4 : ∀ i, i < D.length → (strAt D i).size ≤ 1048576
  s5 : D.length ≤ 1048576
theorem bA_nil (l : List UInt8) : bA l = ⟨#[]⟩ ↔ l = [] := by
  constructor
  · intro h
    have := congrArg (fun x : ByteArray => x.data.toList) h
    simpa [bA] using this
  · rintro rfl; rfl
theorem part_facts (s : ByteArray) (hs : s.size ≤ 1048576) : ∃ d1 nm id b D, PartF s d1 nm id b D := by
  have hp : pcB 46 s = bA (dots s.data.toList).1 :: (dots s.data.toList).2.map bA := by unfold pcB; rw [dots_pcs, List.map_cons]
  have hcut := cutV_H (bA (dots s.data.toList).1)
  rw [bA_list] at hcut
  have hsz : ∀ x, x ∈ pcs 46 s.data.toList → x.length ≤ 1048576 := fun x hx => by have := pcs_size 46 _ x hx; rw [data_len] at this; omega
  rw [dots_pcs] at hsz
  have h1 := hsz _ List.mem_cons_self
  have h2 := cutH_size (dots s.data.toList).1
  have hE : ofL (prI s.data.toList) = ⟨bA (cutH (dots s.data.toList).1).1, bA (cutH (dots s.data.toList).1).2.1, (dots s.data.toList).2.map bA⟩ := rfl
  have hL : ((dots s.data.toList).2.map bA).length ≤ 1048576 := by
    have := pcB_len 46 s
    rw [hp] at this
    have h3 := count_le_size 46 s
    simp only [List.length_cons] at this
    omega
  obtain ⟨ha, hb⟩ := prs_prI s.data.toList
  refine ⟨_, _, _, _, _, hp, hcut, fun hg hn => ?_, fun hg => ?_, ?_, ?_, ?_, fun i hi => ?_, hL⟩
  · rw [← hE] at hg ⊢
    have hok : prIok s.data.toList := by
      refine ⟨?_, fun hc => hn ⟨hc.1, (bA_nil _).2 hc.2⟩⟩
      have := (partB_L _).1 hg
      rw [toL_ofL] at this
      exact this
    unfold prP
    rw [ha hok]
    rfl
  · have hno : ¬ prIok s.data.toList := by
      rintro ⟨c1, c2⟩
      rcases hg with hg | hg
      · rw [← hE] at hg
        have : partB (ofL (prI s.data.toList)) = true := (partB_L _).2 (by rw [toL_ofL]; exact c1)
        rw [this] at hg
        cases hg
      · exact c2 ⟨hg.1, (bA_nil _).1 hg.2⟩
    unfold prP
    rw [hb hno]
    rfl
  · rw [bA_size]; exact h1
  · rw [bA_size]; omega
  · rw [bA_size]; omega
  · rw [List.length_map] at hi
    have e : strAt ((dots s.data.toList).2.map bA) i = bA ((dots s.data.toList).2[i]) := by simp [strAt, hi]
    rw [e, bA_size]
    exact hsz _ (List.mem_cons_of_mem _ (List.getElem_mem _))
end Go.Proofs.YtnkmdmmlpidcmaaDoor
