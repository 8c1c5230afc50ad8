/-
  Lines out of steps, as pure functions: what has been drawn behind each step; each theorem names its conditions.
-/
import Derived.Test.YtoajjdlgipphiaaStG
import Derived.Test.YtoajjdlgipphiaaLn
import Derived.Test.YtoajjdlgipphiaaCv
namespace Go.Proofs.Ytoajjdlgipphiaa
open Go.ChangeShapes Go.WideShapes Go.ChangeAt Go.RowKit
set_option linter.unusedVariables false

/-- A line is ended: it counts where it has more than one point. -/
def endL (o : List LD) (p : List Pnt) (c : Bool) : List LD := if 1 < p.length then o ++ [⟨p, c⟩] else o
/-- Points out of numbers. -/
def prs : List Int → List Pnt
  | x :: y :: l => (x, y) :: prs l
  | _ => []
def lastP (p : List Pnt) : Pnt := ptAt p (p.length - 1)
def crv (p : List Pnt) (ns : List Int) : List Pnt := (List.range 8).map fun (k : Nat) => curveP (lastP p :: prs ns) ((k : Int) + 1)
structure DS where
  o : List LD
  p : List Pnt
def drS (d : DS) (s : SD) : DS :=
  if s.kind = 1 then ⟨endL d.o d.p false, prs s.ns⟩
  else if s.kind = 2 then ⟨d.o, d.p ++ prs s.ns⟩
  else if s.kind = 3 then ⟨d.o, d.p ++ crv d.p s.ns⟩
  else ⟨endL d.o d.p true, [ptAt d.p 0]⟩
/-- What has been drawn behind k steps. -/
def stS (l : List SD) : Nat → DS
  | 0 => ⟨[], []⟩
  | k + 1 => drS (stS l k) (stAt l k)
def lnsP (l : List SD) : List LD := endL (stS l l.length).o (stS l l.length).p false
theorem stOk_some {l : List SD} {i : Nat} (h : stOk l i = true) : kdB (stAt l i).kind = true ∧ ((stAt l i).ns.length : Int) = kdN (stAt l i).kind ∧ (stAt l i).ns.all fixB = true ∧ (i ≠ 0 ∨ (stAt l i).kind = 1) := by
  unfold stOk at h
  simp only [Bool.and_eq_true, Bool.or_eq_true, decide_eq_true_eq] at h
  exact h
theorem kd_cases {k : Int} (h : kdB k = true) : k = 1 ∨ k = 2 ∨ k = 3 ∨ k = 4 := by
  unfold kdB at h
  simp only [Bool.or_eq_true, decide_eq_true_eq] at h
  exact h
theorem ns_two {ns : List Int} (h : ns.length = 2) : ∃ x y, ns = [x, y] := by
  match ns, h with
  | [x, y], _ => exact ⟨x, y, rfl⟩
theorem ns_six {ns : List Int} (h : ns.length = 6) : ∃ a b c d e f, ns = [a, b, c, d, e, f] := by
  match ns, h with
  | [a, b, c, d, e, f], _ => exact ⟨a, b, c, d, e, f, rfl⟩
theorem manyL_app (a b : List LD) : manyL (a ++ b) = manyL a + manyL b := by simp [manyL]
theorem endL_many (o : List LD) (p : List Pnt) (c : Bool) : manyL (endL o p c) ≤ manyL o + p.length := by
  unfold endL
  split
  · rw [manyL_app]; simp [manyL]
  · omega
theorem crv_len (p : List Pnt) (ns : List Int) : (crv p ns).length = 8 := by simp [crv]
theorem endL_len (o : List LD) (p : List Pnt) (c : Bool) : (endL o p c).length ≤ o.length + 1 := by
  unfold endL
  split <;> simp
theorem stS_bd {l : List SD} (h : ∀ i, i < l.length → stOk l i = true) : ∀ k, k ≤ l.length → manyL (stS l k).o + (stS l k).p.length ≤ 9 * k ∧ (stS l k).p.length ≤ 9 * k ∧ (stS l k).o.length ≤ k ∧ (0 < k → 0 < (stS l k).p.length)
  | 0, _ => ⟨by simp [stS, manyL], by simp [stS], by simp [stS], fun h => absurd h (by omega)⟩
  | k + 1, hk => by
    obtain ⟨h1, h2, h3, h4⟩ := stS_bd h k (by omega)
    obtain ⟨k1, k2, k3, k4⟩ := stOk_some (h k (by omega))
    have e1 := endL_many (stS l k).o (stS l k).p false
    have e2 := endL_many (stS l k).o (stS l k).p true
    have f1 := endL_len (stS l k).o (stS l k).p false
    have f2 := endL_len (stS l k).o (stS l k).p true
    show manyL (drS (stS l k) (stAt l k)).o + (drS (stS l k) (stAt l k)).p.length ≤ 9 * (k + 1) ∧ (drS (stS l k) (stAt l k)).p.length ≤ 9 * (k + 1) ∧ (drS (stS l k) (stAt l k)).o.length ≤ k + 1 ∧ (0 < k + 1 → 0 < (drS (stS l k) (stAt l k)).p.length)
    unfold drS
    rcases kd_cases k1 with e | e | e | e
    · have : (stAt l k).ns.length = 2 := by unfold kdN at k2; rw [if_pos e] at k2; omega
      obtain ⟨x, y, hn⟩ := ns_two this
      simp only [e, if_true, hn, prs, List.length_cons, List.length_nil]
      omega
    · have : (stAt l k).ns.length = 2 := by unfold kdN at k2; rw [if_neg (by omega), if_pos e] at k2; omega
      obtain ⟨x, y, hn⟩ := ns_two this
      simp only [e, show ¬ ((2 : Int) = 1) by omega, if_false, if_true, hn, prs, List.length_append, List.length_cons, List.length_nil]
      omega
    · simp only [e, show ¬ ((3 : Int) = 1) by omega, show ¬ ((3 : Int) = 2) by omega, if_false, if_true, List.length_append, crv_len]
      omega
    · simp only [e, show ¬ ((4 : Int) = 1) by omega, show ¬ ((4 : Int) = 2) by omega, show ¬ ((4 : Int) = 3) by omega, if_false, List.length_cons, List.length_nil]
      have hk0 : k ≠ 0 := by
        rcases k4 with h | h
        · exact h
        · omega
      have := h4 (by omega)
      omega
theorem lns_many {l : List SD} (h : ∀ i, i < l.length → stOk l i = true) (hl : l.length ≤ 60) : manyL (lnsP l) ≤ 600 := by
  have := (stS_bd h l.length (Nat.le_refl _)).1
  have e := endL_many (stS l l.length).o (stS l l.length).p false
  unfold lnsP
  omega
theorem prs_good : ∀ ns : List Int, ns.all fixB = true → ptsB (prs ns) = true
  | [], _ => rfl
  | [x], _ => rfl
  | x :: y :: l, h => by
    simp only [List.all_cons, Bool.and_eq_true] at h
    have := prs_good l h.2.2
    unfold ptsB at this ⊢
    simp only [prs, List.all_cons, Bool.and_eq_true]
    exact ⟨by unfold ptB; rw [h.1, h.2.1]; rfl, this⟩
theorem endL_good {o : List LD} {p : List Pnt} (c : Bool) (ho : fixL o = true) (hp : ptsB p = true) : fixL (endL o p c) = true := by
  unfold endL
  split
  · unfold fixL at ho ⊢
    rw [List.all_append, ho]
    simp [hp]
  · exact ho
theorem crv_good {p : List Pnt} {ns : List Int} (hp : ptsB p = true) (h0 : 0 < p.length) (hn : ns.length = 6) (hg : ns.all fixB = true) : ptsB (crv p ns) = true := by
  unfold ptsB
  rw [List.all_eq_true]
  intro q hq
  unfold crv at hq
  obtain ⟨k, hk, rfl⟩ := List.mem_map.1 hq
  have hk := List.mem_range.1 hk
  refine curve_good ?_ ?_ (by omega) (by omega)
  · obtain ⟨a, b, c, d, e, f, rfl⟩ := ns_six hn
    rfl
  · have h1 := ptsB_at hp (p.length - 1) (by omega)
    have h2 := prs_good ns hg
    unfold ptsB at h2 ⊢
    simp only [List.all_cons, Bool.and_eq_true]
    exact ⟨h1, h2⟩
theorem stS_good {l : List SD} (h : ∀ i, i < l.length → stOk l i = true) : ∀ k, k ≤ l.length → fixL (stS l k).o = true ∧ ptsB (stS l k).p = true
  | 0, _ => ⟨rfl, rfl⟩
  | k + 1, hk => by
    obtain ⟨h1, h2⟩ := stS_good h k (by omega)
    obtain ⟨k1, k2, k3, k4⟩ := stOk_some (h k (by omega))
    obtain ⟨_, _, _, hp⟩ := stS_bd h k (by omega)
    show fixL (drS (stS l k) (stAt l k)).o = true ∧ ptsB (drS (stS l k) (stAt l k)).p = true
    unfold drS
    have happ : ∀ a b : List Pnt, ptsB a = true → ptsB b = true → ptsB (a ++ b) = true := fun a b ha hb => by unfold ptsB at *; rw [List.all_append, ha, hb]; rfl
    rcases kd_cases k1 with e | e | e | e
    · simp only [e, if_true]
      exact ⟨endL_good _ h1 h2, prs_good _ k3⟩
    · simp only [e, show ¬ ((2 : Int) = 1) by omega, if_false, if_true]
      exact ⟨h1, happ _ _ h2 (prs_good _ k3)⟩
    · simp only [e, show ¬ ((3 : Int) = 1) by omega, show ¬ ((3 : Int) = 2) by omega, if_false, if_true]
      have hn : (stAt l k).ns.length = 6 := by unfold kdN at k2; rw [if_neg (by omega), if_neg (by omega), if_pos e] at k2; omega
      have hk0 : k ≠ 0 := by
        rcases k4 with h | h
        · exact h
        · omega
      exact ⟨h1, happ _ _ h2 (crv_good h2 (hp (by omega)) hn k3)⟩
    · simp only [e, show ¬ ((4 : Int) = 1) by omega, show ¬ ((4 : Int) = 2) by omega, show ¬ ((4 : Int) = 3) by omega, if_false]
      have hk0 : k ≠ 0 := by
        rcases k4 with h | h
        · exact h
        · omega
      refine ⟨endL_good _ h1 h2, ?_⟩
      have := ptsB_at h2 0 (hp (by omega))
      unfold ptsB
      simp [this]
theorem lns_good {l : List SD} (h : ∀ i, i < l.length → stOk l i = true) (hl : l.length ≤ 60) : goodL (lnsP l) = true := by
  obtain ⟨h1, h2⟩ := stS_good h l.length (Nat.le_refl _)
  unfold goodL
  rw [Bool.and_eq_true]
  exact ⟨endL_good _ h1 h2, decide_eq_true (lns_many h hl)⟩
end Go.Proofs.Ytoajjdlgipphiaa
