/-
  The edges of lines, as pure functions; each theorem names its conditions.
-/
import Derived.Test.YtllljknpicmmjaaFiR
import Derived.Test.YtllljknpicmmjaaEd4
import Derived.Test.YtllljknpicmmjaaCvL
namespace Go.Proofs.Ytllljknpicmmjaa
open Go.ChangeShapes Go.WideShapes Go.ChangeAt Go.RowKit
set_option linter.unusedVariables false

/-- The edge that begins at point i. -/
def eOf (ps : List Pnt) (i : Nat) : Edg := ⟨fnV (ptAt ps i).1, fnV (ptAt ps i).2, fnV (ptAt ps ((i + 1) % ps.length)).1, fnV (ptAt ps ((i + 1) % ps.length)).2⟩
def eL (ps : List Pnt) (k : Nat) : List Edg := (List.range k).map (eOf ps)
theorem eL_len (ps : List Pnt) (k : Nat) : (eL ps k).length = k := by simp [eL]
theorem eL_step (ps : List Pnt) (k : Nat) : eL ps (k + 1) = eL ps k ++ [eOf ps k] := by simp [eL, List.range_succ]
def eAll (l : List LD) (k : Nat) : List Edg := (l.take k).flatMap fun x => eL x.pts x.pts.length
theorem eAll_step (l : List LD) (k : Nat) (h : k < l.length) : eAll l (k + 1) = eAll l k ++ eL (lnAt l k).pts (lnAt l k).pts.length := by
  unfold eAll lnAt
  have e : l.getD k noLD = l[k] := by simp [h]
  rw [List.take_succ_eq_append_getElem h, List.flatMap_append, e]
  simp
theorem eAll_len (l : List LD) (k : Nat) : (eAll l k).length = manyL (l.take k) := by
  unfold eAll manyL
  generalize l.take k = m
  induction m with
  | nil => rfl
  | cons x m ih => simp only [List.flatMap_cons, List.length_append, eL_len, List.map_cons, List.sum_cons, ih]
theorem okE_of {ps : List Pnt} (h : nearsB ps = true) {i : Nat} (hi : i < ps.length) : okE (eOf ps i) := by
  have h1 := nearB_nr (nearsB_at h i hi)
  have h2 := nearB_nr (nearsB_at h ((i + 1) % ps.length) (Nat.mod_lt _ (by omega)))
  exact ⟨fnV_bd h1.1, fnV_bd h1.2, fnV_bd h2.1, fnV_bd h2.2⟩
theorem okE_all {l : List LD} (h : nearL l = true) {e : Edg} (he : e ∈ eAll l l.length) : okE e := by
  unfold eAll at he
  rw [List.take_length] at he
  obtain ⟨x, hx, h2⟩ := List.mem_flatMap.1 he
  unfold eL at h2
  obtain ⟨i, hi, rfl⟩ := List.mem_map.1 h2
  have hn : nearsB x.pts = true := by
    unfold nearL at h
    rw [List.all_eq_true] at h
    exact h x hx
  exact okE_of hn (List.mem_range.1 hi)
theorem edAt_mem {l : List Edg} {i : Nat} (h : i < l.length) : edAt l i ∈ l := by
  unfold edAt
  rw [show l.getD i noE = l[i] by simp [h]]
  exact List.getElem_mem h
/-- The edges that are not flat, as the specification keeps them. -/
def nfl (l : List Edg) : List Edg := l.filter fun e => decide (e.ay ≠ e.cy)
theorem nfl_app (l m : List Edg) : nfl (l ++ m) = nfl l ++ nfl m := by simp [nfl]
theorem nfl_len (l : List Edg) : (nfl l).length ≤ l.length := List.length_filter_le _ _
/-- The next point's number. -/
theorem next_mod {k n : Nat} (h : k < n) : ((k : Int) + 1).tmod (n : Int) = (((k + 1) % n : Nat) : Int) := by
  rw [Int.tmod_eq_emod_of_nonneg (by omega)]
  simp
end Go.Proofs.Ytllljknpicmmjaa
