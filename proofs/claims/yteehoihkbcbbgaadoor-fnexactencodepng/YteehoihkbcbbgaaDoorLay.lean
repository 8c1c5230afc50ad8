/-
  A new list of bytes that is being written, and what stands left in a row; each theorem names its conditions.
-/
import Derived.Test.YteehoihkbcbbgaaDoorLow
namespace Go.Proofs.YteehoihkbcbbgaaDoor
open Go.ChangeShapes Go.WideShapes Go.ChangeAt Go.RowKit
set_option linter.unusedVariables false

/-- The first k numbers of zs have been written into the block B, noughts stand behind them; nothing ahead of B has changed. -/
def Lay (W wr : World) (B : Nat) (zs : List Int) (k : Nat) : Prop :=
  Below B W wr ∧ B < wr.heap.size ∧ (∀ m, m < k → wr.cell? ⟨B, 0 + m, none⟩ = some (.int .u8 (zs.getD m 0))) ∧ (∀ m, k ≤ m → m < zs.length → wr.cell? ⟨B, 0 + m, none⟩ = some (.int .u8 0)) ∧ ∀ o, wr.frozen? ⟨B, o, none⟩ = false
theorem Lay.start (W W1 : World) (B n : Nat) (zs : List Int) (t : TypeId) (hn : zs.length = n) (hB : W1.heap.size = B) (h : Below B W W1) : Lay W (W1.alloc (.cells (madeCells #[Value.int .u8 0] n) t)) B zs 0 := by
  subst hn hB
  have e := part_none .u8 zs
  refine ⟨h.alloc (Nat.le_refl _) _, by simp, fun m hm => absurd hm (by omega), fun m _ hm => ?_, fun o => World.frozen?_alloc_at _ _ _ _ rfl⟩
  have e2 : (part .u8 zs 0)[m]? = some (.int .u8 0) := by
    simp [part, hm]
  rw [e]
  simp [e2]
theorem Lay.step {W wr : World} {B : Nat} {zs : List Int} {k : Nat} (h : Lay W wr B zs k) (hk : k < zs.length) : Lay W (wr.drew.setCell ⟨B, k, none⟩ (.int .u8 (zs.getD k 0))) B zs (k + 1) := by
  obtain ⟨h1, h2, h3, h4, h5⟩ := h
  have c0 := h4 k (Nat.le_refl _) hk
  rw [Nat.zero_add] at c0
  refine ⟨h1.drew.setCell (show B ≤ (Addr.mk B k none).block from Nat.le_refl B) _, by simpa [World.setCell] using h2, fun m hm => ?_, fun m hm1 hm2 => ?_, fun o => ?_⟩
  · by_cases e : m = k
    · subst e; rw [Nat.zero_add]; exact World.cell?_setCell_same wr.drew ⟨B, m, none⟩ _ c0
    · rw [World.cell?_setCell_other _ _ _ _ (fun h => by injection h; omega)]; exact h3 m (by omega)
  · rw [World.cell?_setCell_other _ _ _ _ (fun h => by injection h; omega)]; exact h4 m (by omega) hm2
  · rw [World.frozen?_setCell]; exact h5 o
theorem Lay.done {W wr : World} {B : Nat} {zs : List Int} (h : Lay W wr B zs zs.length) : At wr B zs :=
  ⟨h.2.1, h.2.2.1, h.2.2.2.2⟩
def left (zs : List Int) (k : Nat) : Int := if k < 4 then 0 else zs.getD (k - 4) 0
end Go.Proofs.YteehoihkbcbbgaaDoor
