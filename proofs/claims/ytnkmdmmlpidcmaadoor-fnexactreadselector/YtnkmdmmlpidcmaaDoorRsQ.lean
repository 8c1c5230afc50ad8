/-
  A selector read from a text: pure facts; each theorem names its conditions.
-/
import Derived.Test.YtnkmdmmlpidcmaaDoorPtP
import Derived.Test.YtnkmdmmlpidcmaaDoorRwA
import Derived.Test.YtnkmdmmlpidcmaaDoorWd0
namespace Go.Proofs.YtnkmdmmlpidcmaaDoor
open Go.ChangeShapes Go.WideShapes Go.ChangeAt Go.RowKit
set_option linter.unusedVariables false

def okW (s : ByteArray) : Bool := (prP s).isSome
def selOkW (ws : List ByteArray) : Bool := decide (1 ≤ ws.length ∧ ws.length ≤ 5) && ws.all okW
def selOk (s : ByteArray) : Bool := selOkW (wordsOf s)
def selLW (ws : List ByteArray) : List PD := if selOkW ws then ws.map prD else []
def selL (s : ByteArray) : List PD := selLW (wordsOf s)
/-- What a reader of a selector says. -/
def SelSays (s : ByteArray) (w w' : World) (e : Ending) : Prop := ∃ v, e = .returned (.tuple #[v, .bool (selOk s)]) ∧ RowM 3 EPart w' v (selL s) (iv w w')
theorem prD_of {s : ByteArray} {p : PD} (h : prP s = some p) : prD s = p ∧ okW s = true := by unfold prD okW; rw [h]; exact ⟨rfl, rfl⟩
theorem okW_no {s : ByteArray} (h : prP s = none) : okW s = false := by unfold okW; rw [h]; rfl
theorem selOkW_bad {ws : List ByteArray} {x : ByteArray} (hx : x ∈ ws) (h : okW x = false) : selOkW ws = false := by
  unfold selOkW
  have : ws.all okW = false := by
    rw [List.all_eq_false]
    exact ⟨x, hx, by rw [h]; simp⟩
  rw [this, Bool.and_false]
theorem selOkW_many {ws : List ByteArray} (h : 5 < ws.length) : selOkW ws = false := by
  unfold selOkW
  rw [decide_eq_false (by omega), Bool.false_and]
theorem selOkW_none : selOkW [] = false := rfl
theorem selOkW_yes {ws : List ByteArray} (h1 : 1 ≤ ws.length) (h5 : ws.length ≤ 5) (h : ws.all okW = true) : selOkW ws = true := by
  unfold selOkW
  rw [decide_eq_true ⟨h1, h5⟩, h]; rfl
theorem selLW_no {ws : List ByteArray} (h : selOkW ws = false) : selLW ws = [] := by unfold selLW; rw [h]; rfl
theorem selLW_yes {ws : List ByteArray} (h : selOkW ws = true) : selLW ws = ws.map prD := by unfold selLW; rw [h]; rfl
/-- Behind all words. -/
theorem selW_end {ws : List ByteArray} (h5 : ws.length ≤ 5) (h : ws.all okW = true) : selOkW ws = decide (0 < ws.length) ∧ selLW ws = ws.map prD := by
  by_cases h1 : 1 ≤ ws.length
  · have := selOkW_yes h1 h5 h
    exact ⟨by rw [this, decide_eq_true (by omega)], selLW_yes this⟩
  · have e : ws = [] := List.eq_nil_of_length_eq_zero (by omega)
    subst e
    exact ⟨rfl, rfl⟩
theorem wordsOf_size (s : ByteArray) (i : Nat) : (strAt (wordsOf s) i).size ≤ s.size := by
  unfold strAt wordsOf
  by_cases h : i < (Lib.closeSpans s (spB s s.size 0 none [])).length
  · simp [h]; omega
  · simp [h]; exact Nat.zero_le _
/-- What has been told stays. -/
theorem spB_pre (s : ByteArray) : ∀ (f pos : Nat) (st : Option Nat) (acc : List (Nat × Nat)), acc <+: (spB s f pos st acc).1 := by
  intro f
  induction f with
  | zero => intro pos st acc; exact List.prefix_refl _
  | succ f ih =>
    intro pos st acc
    unfold spB
    split
    · split
      · cases st with
        | none => exact ih _ _ _
        | some a => exact (List.prefix_append _ _).trans (ih _ _ _)
      · cases st with
        | none => exact ih _ _ _
        | some a => exact ih _ _ _
    · exact List.prefix_refl _
theorem WdSt.pre {s : ByteArray} {pos : Nat} {st : Option Nat} {acc : List (Nat × Nat)} (h : WdSt s pos st acc) : cutT s acc <+: wordsOf s := by
  have h1 := spB_pre s (s.size - pos) pos st acc
  rw [h.rest] at h1
  unfold wordsOf cutT
  refine (h1.map _).trans ?_
  unfold Lib.closeSpans
  split
  · rw [List.map_append]; exact List.prefix_append _ _
  · exact List.prefix_refl _
end Go.Proofs.YtnkmdmmlpidcmaaDoor
