/-
  A list of sets of the call's own; each theorem names its conditions.
-/
import Derived.Test.YthnmebmjmjfflaaDoorMkl
namespace Go.Proofs.YthnmebmjmjfflaaDoor
open Go.ChangeShapes Go.WideShapes Go.ChangeAt Go.RowKit
set_option linter.unusedVariables false

/-- The numbers F 0 .. F (n - 1) lie in the block g, which may be written. -/
def Sts (w : World) (g n : Nat) (F : Nat → Nat) : Prop :=
  g < w.heap.size ∧ (∀ i, i < n → w.cell? ⟨g, i, none⟩ = some (.int .u64 ((F i : Nat) : Int))) ∧ ∀ o, w.frozen? ⟨g, o, none⟩ = false
theorem Sts.made (w : World) (n : Nat) (t : TypeId) : Sts (w.alloc (.cells (madeCells #[.int .u64 0] n) t)) w.heap.size n (fun _ => 0) := by
  refine ⟨by simp, fun i hi => ?_, fun o => World.frozen?_alloc_at _ _ _ _ rfl⟩
  have := madeCells_get #[Value.int .u64 0] n i hi
  simp [this, Nat.mod_one]
theorem Sts.low {w w' : World} {g n B : Nat} {F : Nat → Nat} (h : Sts w g n F) (k : Below B w w') (hg : g < B) : Sts w' g n F :=
  ⟨Nat.lt_of_lt_of_le h.1 (Below.size k), fun i hi => (Below.cell k (p := ⟨g, i, none⟩) hg).trans (h.2.1 i hi), fun o => (Below.frozen k (p := ⟨g, o, none⟩) hg).trans (h.2.2 o)⟩
theorem Sts.nw {w w' : World} {g n : Nat} {F : Nat → Nat} (h : Sts w g n F) (k : Nw w w') : Sts w' g n F := h.low k h.1
theorem Sts.congr {w : World} {g n : Nat} {F F' : Nat → Nat} (h : Sts w g n F) (e : ∀ i, i < n → F' i = F i) : Sts w g n F' :=
  ⟨h.1, fun i hi => by rw [e i hi]; exact h.2.1 i hi, h.2.2⟩
theorem Sts.set {w : World} {g n : Nat} {F F' : Nat → Nat} (h : Sts w g n F) (t x : Nat) (ht : t < n) (e1 : F' t = x) (e2 : ∀ i, i < n → i ≠ t → F' i = F i) : Sts (w.setCell ⟨g, t, none⟩ (.int .u64 (x : Int))) g n F' := by
  have hc := h.2.1 t ht
  refine ⟨by simpa using h.1, fun i hi => ?_, fun o => by rw [World.frozen?_setCell]; exact h.2.2 o⟩
  by_cases c : i = t
  · subst c
    rw [World.cell?_setCell_same w ⟨g, i, none⟩ _ hc, e1]
  · rw [World.cell?_setCell_other _ _ _ _ (fun x => by injection x; omega), h.2.1 i hi, e2 i hi c]
end Go.Proofs.YthnmebmjmjfflaaDoor
