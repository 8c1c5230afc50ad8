/-
  What the specification's CodesOf and the program's CodesOf answer; each theorem names its conditions.
-/
import Derived.Test.YteehoihkbcbbgaaDoorCodes4
namespace Go.Proofs.YteehoihkbcbbgaaDoor
open Go.ChangeShapes Go.WideShapes Go.ChangeAt Go.RowKit
set_option linter.unusedVariables false

/-- A new list at the block B. -/
def New (w w' : World) (B : Nat) (cs : List Int) : Prop :=
  Kp w w' ∧ w.heap.size ≤ B ∧ B < w'.heap.size ∧ ∀ i, i < cs.length → w'.cell? ⟨B, 0 + i, none⟩ = some (.int .i64 (cs.getD i 0))
theorem row_cells (k : IntKind) (w : World) (zs : List Int) (t : TypeId) : ∀ i, i < zs.length → (w.alloc (.cells (cellsOf k zs) t)).cell? ⟨w.heap.size, 0 + i, none⟩ = some (.int k (zs.getD i 0)) := by
  intro i hi
  have := cellsOf_get k zs i hi
  simp [this]

/-- The next codes of each length when i places have been given theirs. -/
def nxt (xs : List Int) (i l : Nat) : Int := nx xs l + cn xs i l
/-- The codes laid so far. -/
def cdp (xs : List Int) (i j : Nat) : Int := if j < i then cd xs j else 0
/-- The first codes laid so far. -/
def nxp (xs : List Int) (r l : Nat) : Int := if l ≤ r then nx xs l else 0
theorem nxp_set (xs : List Int) (r : Nat) (h : r + 1 < 16) : (tab 16 (nxp xs r)).setIfInBounds (r + 1) (.int .i64 ((nx xs r + cn xs xs.length r) * 2)) = tab 16 (nxp xs (r + 1)) := by
  apply tab_set _ _ _ (r + 1) _ h
  · intro j hj hne
    unfold nxp
    by_cases h : j ≤ r
    · rw [if_pos h, if_pos (by omega)]
    · rw [if_neg h, if_neg (by omega)]
  · unfold nxp; rw [if_pos (Nat.le_refl _)]; rfl
theorem nxp_zero (xs : List Int) : tab 16 (nxp xs 1) = tab 16 (fun _ => 0) := by
  apply tab_congr
  intro j hj
  unfold nxp
  by_cases h : j ≤ 1
  · rw [if_pos h]
    have h01 : j = 0 ∨ j = 1 := by omega
    rcases h01 with rfl | rfl <;> rfl
  · rw [if_neg h]
theorem nxp_all (xs : List Int) : tab 16 (nxp xs 15) = tab 16 (nxt xs 0) := by
  apply tab_congr
  intro j hj
  unfold nxp nxt
  rw [if_pos (by omega), cn_zero]; simp
theorem nxt_set (xs : List Int) (i l : Nat) (hi : i < xs.length) (h0 : l ≠ 0) (h16 : l < 16) (hx : xs.getD i 0 = (l : Int)) : (tab 16 (nxt xs i)).setIfInBounds l (.int .i64 (nxt xs i l + 1)) = tab 16 (nxt xs (i + 1)) := by
  apply tab_set _ _ _ l _ h16
  · intro j hj hne
    unfold nxt
    rw [cn_succ xs i j hi, if_neg (by omega)]; simp
  · unfold nxt
    rw [cn_succ xs i l hi, if_pos ⟨h0, hx⟩, Int.add_assoc]
theorem nxt_same (xs : List Int) (i : Nat) (hi : i < xs.length) (h : ¬ 0 < xs.getD i 0) : tab 16 (nxt xs (i + 1)) = tab 16 (nxt xs i) := by
  apply tab_congr
  intro j hj
  unfold nxt
  rw [cn_succ xs i j hi, if_neg (by omega)]; simp
theorem cdp_set (xs : List Int) (i l : Nat) (hi : i < xs.length) (h0 : l ≠ 0) (hx : xs.getD i 0 = (l : Int)) : (tab xs.length (cdp xs i)).setIfInBounds i (.int .i64 (nxt xs i l)) = tab xs.length (cdp xs (i + 1)) := by
  apply tab_set _ _ _ i _ hi
  · intro j hj hne
    unfold cdp
    by_cases h : j < i
    · rw [if_pos h, if_pos (by omega)]
    · rw [if_neg h, if_neg (by omega)]
  · unfold cdp cd nxt
    rw [if_pos (by omega), hx, if_pos (by omega)]; simp
theorem cdp_same (xs : List Int) (i : Nat) (hi : i < xs.length) (h : ¬ 0 < xs.getD i 0) : tab xs.length (cdp xs (i + 1)) = tab xs.length (cdp xs i) := by
  apply tab_congr
  intro j hj
  unfold cdp
  by_cases h2 : j < i
  · rw [if_pos h2, if_pos (by omega)]
  · rw [if_neg h2]
    by_cases e : j = i
    · subst e; rw [if_pos (by omega)]; unfold cd; rw [if_neg h]
    · rw [if_neg (by omega)]
theorem cdp_zero (xs : List Int) : tab xs.length (cdp xs 0) = tab xs.length (fun _ => 0) := by
  apply tab_congr; intro j hj; unfold cdp; rw [if_neg (by omega)]
theorem cdp_all (xs : List Int) : tab xs.length (cdp xs xs.length) = cellsOf .i64 (codesL xs) := by
  rw [← codesL_cells]; apply tab_congr; intro j hj; unfold cdp; rw [if_pos hj]
end Go.Proofs.YteehoihkbcbbgaaDoor
