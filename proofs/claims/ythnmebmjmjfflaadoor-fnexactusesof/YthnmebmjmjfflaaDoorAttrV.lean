/-
  The first attribute of a name as one answer, the program's and the specification's; each theorem names its conditions.
-/
import Derived.Test.YthnmebmjmjfflaaDoorMkA
namespace Go.Proofs.YthnmebmjmjfflaaDoor
open Go.ChangeShapes Go.WideShapes Go.ChangeAt Go.RowKit
set_option linter.unusedVariables false

/-- The value of the first attribute of a name, or nothing. -/
def attrV (l : List Pair) (s : ByteArray) : ByteArray := match l.find? (fun p => decide (p.1 = s)) with | some p => p.2 | none => ⟨#[]⟩
def attrO (l : List Pair) (s : ByteArray) : Bool := (l.find? (fun p => decide (p.1 = s))).isSome
theorem find_none {l : List Pair} {s : ByteArray} (h : NoneTo l s l.length) : l.find? (fun p => decide (p.1 = s)) = none := by
  rw [List.find?_eq_none]
  intro x hx
  obtain ⟨j, hj, rfl⟩ := List.getElem_of_mem hx
  have := h j hj
  have e : pairAt l j = l[j] := by simp [pairAt, hj]
  rw [e] at this
  simpa using this
theorem find_some {l : List Pair} {s : ByteArray} {K : Nat} (h : FirstAt l s K) : l.find? (fun p => decide (p.1 = s)) = some (pairAt l K) := by
  obtain ⟨hK, hn, he⟩ := h
  have e : pairAt l K = l[K] := by simp [pairAt, hK]
  have hsplit : l = l.take K ++ l[K] :: l.drop (K + 1) := by simp
  rw [List.find?_eq_some_iff_append]
  refine ⟨by simpa using he, l.take K, l.drop (K + 1), by rw [e]; exact hsplit, fun x hx => ?_⟩
  obtain ⟨j, hj, rfl⟩ := List.getElem_of_mem hx
  have hj2 : j < K := by simp at hj; omega
  have := hn j hj2
  have e2 : pairAt l j = l[j] := by simp [pairAt, show j < l.length by omega]
  rw [e2] at this
  simpa using this
theorem attrV_no {l : List Pair} {s : ByteArray} (h : NoneTo l s l.length) : attrV l s = ⟨#[]⟩ ∧ attrO l s = false := by
  unfold attrV attrO; rw [find_none h]; exact ⟨rfl, rfl⟩
theorem attrV_yes {l : List Pair} {s : ByteArray} {K : Nat} (h : FirstAt l s K) : attrV l s = (pairAt l K).2 ∧ attrO l s = true := by
  unfold attrV attrO; rw [find_some h]; exact ⟨rfl, rfl⟩
theorem attrV_size {l : List Pair} {s : ByteArray} (h : ∀ i, i < l.length → (pairAt l i).2.size ≤ 1048576) : (attrV l s).size ≤ 1048576 := by
  rcases firstAt_or l s with h0 | ⟨K, h0⟩
  · rw [(attrV_no h0).1]; exact Nat.zero_le _
  · rw [(attrV_yes h0).1]; exact h K h0.1

theorem iattrV (w : World) (name : ByteArray) (up : Int) (l : List Pair) (text : ByteArray) (a : Option Addr) (c : Nat) (s : ByteArray) (hl : l.length ≤ 1048576) (hv : ∀ i, i < l.length → (pairAt l i).2.size ≤ 1048576) (hr : Attrs w a l) :
    Calls Tryd.prog 61 #[.agg #[.string name, .int .i64 up, .slice a l.length c, .string text], .string s] w fun e w' => e = .returned (.tuple #[.string (attrV l s), .bool (attrO l s)]) ∧ Nw w w' := by
  rcases firstAt_or l s with h0 | ⟨K, h0⟩
  · rw [(attrV_no h0).1, (attrV_no h0).2]
    exact iattrOf_no w ⟨name, up, l, text⟩ a c s hl hr h0
  · rw [(attrV_yes h0).1, (attrV_yes h0).2]
    exact iattrOf_yes w ⟨name, up, l, text⟩ a c s K hl (hv K h0.1) hr h0
theorem sattrV (w : World) (name : ByteArray) (up : Int) (l : List Pair) (text : ByteArray) (a : Option Addr) (c : Nat) (s : ByteArray) (hl : l.length ≤ 1048576) (hr : Attrs w a l) :
    Calls Tryd.prog 52 #[.agg #[.string name, .int .i64 up, .slice a l.length c, .string text], .string s] w fun e w' => e = .returned (.tuple #[.string (attrV l s), .bool (attrO l s)]) ∧ Nw w w' := by
  rcases firstAt_or l s with h0 | ⟨K, h0⟩
  · rw [(attrV_no h0).1, (attrV_no h0).2]
    exact sattrOf_no w ⟨name, up, l, text⟩ a c s hl hr h0
  · rw [(attrV_yes h0).1, (attrV_yes h0).2]
    exact sattrOf_yes w ⟨name, up, l, text⟩ a c s K hl hr h0
theorem attrO_no {l : List Pair} {s : ByteArray} (h : attrO l s = false) : attrV l s = ⟨#[]⟩ := by
  unfold attrO at h; unfold attrV
  cases e : l.find? (fun p => decide (p.1 = s)) with
  | none => rfl
  | some p => rw [e] at h; simp at h
end Go.Proofs.YthnmebmjmjfflaaDoor
