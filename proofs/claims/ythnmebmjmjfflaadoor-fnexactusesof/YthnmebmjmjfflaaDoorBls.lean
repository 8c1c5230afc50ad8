/-
  A list of bools of the call's own; each theorem names its conditions.
-/
import Derived.Test.YthnmebmjmjfflaaDoorMkl
namespace Go.Proofs.YthnmebmjmjfflaaDoor
open Go.ChangeShapes Go.WideShapes Go.ChangeAt Go.RowKit
set_option linter.unusedVariables false

/-- The bools f 0 .. f (n - 1) lie in the block g, which may be written. -/
def Bls (w : World) (g n : Nat) (f : Nat → Bool) : Prop :=
  g < w.heap.size ∧ (∀ i, i < n → w.cell? ⟨g, i, none⟩ = some (.bool (f i))) ∧ ∀ o, w.frozen? ⟨g, o, none⟩ = false
theorem Bls.made (w : World) (n : Nat) (t : TypeId) : Bls (w.alloc (.cells (madeCells #[.bool false] n) t)) w.heap.size n (fun _ => false) := by
  refine ⟨by simp, fun i hi => ?_, fun o => World.frozen?_alloc_at _ _ _ _ rfl⟩
  have := madeCells_get #[Value.bool false] n i hi
  simp [this, Nat.mod_one]
theorem Bls.low {w w' : World} {g n B : Nat} {f : Nat → Bool} (h : Bls w g n f) (k : Below B w w') (hg : g < B) : Bls w' g n f :=
  ⟨Nat.lt_of_lt_of_le h.1 (Below.size k), fun i hi => (Below.cell k (p := ⟨g, i, none⟩) hg).trans (h.2.1 i hi), fun o => (Below.frozen k (p := ⟨g, o, none⟩) hg).trans (h.2.2 o)⟩
theorem Bls.nw {w w' : World} {g n : Nat} {f : Nat → Bool} (h : Bls w g n f) (k : Nw w w') : Bls w' g n f := h.low k h.1
theorem Bls.congr {w : World} {g n : Nat} {f f' : Nat → Bool} (h : Bls w g n f) (e : ∀ i, i < n → f' i = f i) : Bls w g n f' :=
  ⟨h.1, fun i hi => by rw [e i hi]; exact h.2.1 i hi, h.2.2⟩
theorem Bls.set {w : World} {g n : Nat} {f f' : Nat → Bool} (h : Bls w g n f) (t : Nat) (ht : t < n) (e : ∀ i, f' i = (f i || decide (i = t))) : Bls (w.setCell ⟨g, t, none⟩ (.bool true)) g n f' := by
  have hc := h.2.1 t ht
  refine ⟨by simpa using h.1, fun i hi => ?_, fun o => by rw [World.frozen?_setCell]; exact h.2.2 o⟩
  by_cases c : i = t
  · subst c
    rw [World.cell?_setCell_same w ⟨g, i, none⟩ _ hc, e i]
    simp
  · rw [World.cell?_setCell_other _ _ _ _ (fun x => by injection x; omega), h.2.1 i hi, e i, decide_eq_false c, Bool.or_false]
end Go.Proofs.YthnmebmjmjfflaaDoor
