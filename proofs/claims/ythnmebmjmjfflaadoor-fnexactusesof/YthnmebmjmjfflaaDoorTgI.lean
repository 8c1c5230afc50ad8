/-
  The node with an id, on lists; each theorem names its conditions.
-/
import Derived.Test.YthnmebmjmjfflaaDoorHr
import Derived.Test.YthnmebmjmjfflaaDoorMkNs
namespace Go.Proofs.YthnmebmjmjfflaaDoor
open Go.ChangeShapes Go.WideShapes Go.ChangeAt Go.RowKit
set_option linter.unusedVariables false

def idAt (l : List ND) (i : Nat) : ByteArray := attrV (nodeAt l i).attrs idA
def NoId (l : List ND) (id : ByteArray) (k : Nat) : Prop := ∀ i, i < k → idAt l i ≠ id
theorem NoId.step {l : List ND} {id : ByteArray} {k : Nat} (h : NoId l id k) (e : idAt l k ≠ id) : NoId l id (k + 1) := by
  intro i hi
  by_cases c : i = k
  · subst c; exact e
  · exact h i (by omega)
/-- The first node with an id that is not empty, or -1. -/
def nodeI (l : List ND) (id : ByteArray) : Int := if id.size = 0 then -1 else match (List.range l.length).find? (fun i => decide (idAt l i = id)) with | some k => (k : Int) | none => -1
theorem nodeI_empty (l : List ND) {id : ByteArray} (h : id.size = 0) : nodeI l id = -1 := by unfold nodeI; rw [if_pos h]
theorem nodeI_none {l : List ND} {id : ByteArray} (h : NoId l id l.length) : nodeI l id = -1 := by
  unfold nodeI
  split
  · rfl
  · rw [List.find?_eq_none.2 (fun i hi => by simpa using h i (List.mem_range.1 hi))]
theorem nodeI_some {l : List ND} {id : ByteArray} {k : Nat} (hs : id.size ≠ 0) (hk : k < l.length) (h : NoId l id k) (e : idAt l k = id) : nodeI l id = k := by
  unfold nodeI
  rw [if_neg hs]
  have hf : (List.range l.length).find? (fun i => decide (idAt l i = id)) = some k := by
    rw [List.find?_range_eq_some]
    exact ⟨by simpa using e, by simpa using hk, fun j hj => by simpa using h j hj⟩
  rw [hf]
theorem nodeI_ways (l : List ND) (id : ByteArray) : id.size = 0 ∨ (id.size ≠ 0 ∧ NoId l id l.length) ∨ (id.size ≠ 0 ∧ ∃ k, k < l.length ∧ NoId l id k ∧ idAt l k = id) := by
  by_cases h0 : id.size = 0
  · exact Or.inl h0
  · have key : ∀ n, n ≤ l.length → NoId l id n ∨ ∃ k, k < l.length ∧ NoId l id k ∧ idAt l k = id := by
      intro n
      induction n with
      | zero => intro _; exact Or.inl fun i hi => absurd hi (by omega)
      | succ n ih =>
        intro hn
        rcases ih (by omega) with h | h
        · by_cases e : idAt l n = id
          · exact Or.inr ⟨n, by omega, h, e⟩
          · exact Or.inl (h.step e)
        · exact Or.inr h
    rcases key l.length (Nat.le_refl _) with h | h
    · exact Or.inr (Or.inl ⟨h0, h⟩)
    · exact Or.inr (Or.inr ⟨h0, h⟩)
theorem nodeI_bd (l : List ND) (id : ByteArray) : -1 ≤ nodeI l id ∧ nodeI l id < l.length ∨ nodeI l id = -1 := by
  rcases nodeI_ways l id with h | ⟨_, h⟩ | ⟨h0, k, hk, hn, e⟩
  · exact Or.inr (nodeI_empty l h)
  · exact Or.inr (nodeI_none h)
  · exact Or.inl (by rw [nodeI_some h0 hk hn e]; omega)
end Go.Proofs.YthnmebmjmjfflaaDoor
