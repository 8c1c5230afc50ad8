/-
  What is written from the front, on lists: sizes and what is open; each theorem names its conditions.
-/
import Derived.Test.YtgjnemmkpbkfhaaDoorMtP
namespace Go.Proofs.YtgjnemmkpbkfhaaDoor
open Go.ChangeShapes Go.WideShapes Go.ChangeAt Go.RowKit
set_option linter.unusedVariables false

theorem closeP_mem (l : List ND) (up : Int) : ∀ rs o, (∀ x, x ∈ (closeP l up rs o).1 → x ∈ rs) ∧ (closeP l up rs o).1.length ≤ rs.length := by
  intro rs
  induction rs with
  | nil => intro o; exact ⟨fun x h => h, Nat.le_refl _⟩
  | cons k rs ih =>
    intro o
    rw [closeP]
    split
    · exact ⟨fun x h => h, Nat.le_refl _⟩
    · have := ih (o ++ endT l k)
      exact ⟨fun x h => List.mem_cons_of_mem _ (this.1 x h), Nat.le_succ_of_le this.2⟩
theorem closeP_big (l : List ND) (up : Int) : ∀ rs o, o.size ≤ (closeP l up rs o).2.size := by
  intro rs
  induction rs with
  | nil => intro o; exact Nat.le_refl _
  | cons k rs ih =>
    intro o
    rw [closeP]
    split
    · exact Nat.le_refl _
    · have := ih (o ++ endT l k)
      rw [ByteArray.size_append] at this
      omega
def runN (l : List ND) (n : Nat) : List Nat × ByteArray := runP l 0 n ([], ByteArray.empty)
theorem runN_succ (l : List ND) (n : Nat) : runN l (n + 1) = stepP l n (runN l n) := by
  unfold runN
  rw [runP_add l n 0 1, Nat.zero_add]
  rfl
theorem step_big (l : List ND) (k : Nat) (s : List Nat × ByteArray) : (closeP l (upAt l k) s.1 s.2).2.size ≤ (stepP l k s).2.size := by
  unfold stepP
  split
  · simp only [ByteArray.size_append]; omega
  · split
    · simp only [ByteArray.size_append]; omega
    · simp only [ByteArray.size_append]; omega
theorem run_big (l : List ND) : ∀ n i s, s.2.size ≤ (runP l i n s).2.size := by
  intro n
  induction n with
  | zero => intro i s; exact Nat.le_refl _
  | succ n ih =>
    intro i s
    rw [runP]
    have h1 := ih (i + 1) (stepP l i s)
    have h2 := step_big l i s
    have h3 := closeP_big l (upAt l i) s.1 s.2
    omega
theorem runN_open (l : List ND) : ∀ n, (∀ x, x ∈ (runN l n).1 → x < n) ∧ (runN l n).1.length ≤ n := by
  intro n
  induction n with
  | zero => exact ⟨(fun x h => by cases h), Nat.le_refl _⟩
  | succ n ih =>
    rw [runN_succ]
    have h := closeP_mem l (upAt l n) (runN l n).1 (runN l n).2
    unfold stepP
    split
    · exact ⟨(fun x hx => by have := ih.1 x (h.1 x hx); omega), (by show (closeP l (upAt l n) (runN l n).1 (runN l n).2).1.length ≤ n + 1; have := h.2; have := ih.2; omega)⟩
    · split
      · refine ⟨fun x hx => ?_, by have := h.2; have := ih.2; simp only [List.length_cons]; omega⟩
        rcases List.mem_cons.1 hx with e | hx
        · omega
        · have := ih.1 x (h.1 x hx); omega
      · exact ⟨(fun x hx => by have := ih.1 x (h.1 x hx); omega), (by show (closeP l (upAt l n) (runN l n).1 (runN l n).2).1.length ≤ n + 1; have := h.2; have := ih.2; omega)⟩
/-- All that is ever written is no more than the whole text. -/
theorem runN_size {l : List ND} (hg : GoodP l) (hb : bulkL l ≤ 1048576) {n : Nat} (hn : n ≤ l.length) : (runN l n).2.size ≤ 6300000 := by
  obtain ⟨h1, h2⟩ := run_all hg
  have h3 := run_big l (l.length - n) (0 + n) (runN l n)
  have e : runP l (0 + n) (l.length - n) (runN l n) = runP l 0 l.length ([], ByteArray.empty) := by
    unfold runN
    rw [← runP_add, show n + (l.length - n) = l.length by omega]
  rw [e] at h3
  have h4 := closeP_big l (-1) (runP l 0 l.length ([], ByteArray.empty)).1 (runP l 0 l.length ([], ByteArray.empty)).2
  rw [h1] at h4
  have h5 : wtN l l.length ≤ 6300000 := by
    unfold wtN
    rw [List.take_length]
    have := hg.1.2
    omega
  omega
theorem tX_size {l : List ND} (hg : GoodP l) (hb : bulkL l ≤ 1048576) : (tX l 0).size ≤ 6300000 := by
  obtain ⟨_, h2⟩ := run_all hg
  have h5 : wtN l l.length ≤ 6300000 := by
    unfold wtN
    rw [List.take_length]
    have := hg.1.2
    omega
  omega
/-- What MarksText answers. -/
def mtOk (l : List ND) : Bool := goodB l && decide ((tX l 0).size ≤ 3000)
def mtS (l : List ND) : ByteArray := if mtOk l = true then tX l 0 else ⟨#[]⟩
def mtV (l : List ND) : Value := .tuple #[.string (mtS l), .bool (mtOk l)]
theorem mtV_no {l : List ND} (h : mtOk l = false) : mtV l = .tuple #[.string ⟨#[]⟩, .bool false] := by unfold mtV mtS; rw [h]; rfl
theorem mtV_yes {l : List ND} (h : mtOk l = true) : mtV l = .tuple #[.string (tX l 0), .bool true] := by unfold mtV mtS; rw [h]; rfl
end Go.Proofs.YtgjnemmkpbkfhaaDoor
