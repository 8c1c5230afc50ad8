/-
  Lists of lines of the call's own, to which is appended; each theorem names its conditions.
-/
import Derived.Test.YtoajjdlgipphiaaLnS
import Derived.Test.YtoajjdlgipphiaaPls
import Derived.Test.YtoajjdlgipphiaaLnIt
namespace Go.Proofs.Ytoajjdlgipphiaa
open Go.ChangeShapes Go.WideShapes Go.ChangeAt Go.RowKit
set_option linter.unusedVariables false

def vLn (it : Its) : List VV := it.map fun p => (p.1, .bool p.2.closed)
theorem vLn_len (it : Its) : (vLn it).length = it.length := by simp [vLn]
theorem vLn_append (l m : Its) : vLn (l ++ m) = vLn l ++ vLn m := by simp [vLn]
theorem vLn_at (it : Its) (i : Nat) (h : i < it.length) : vvAt (vLn it) i = ((itAt it i).1, .bool (itAt it i).2.closed) := by simp [vvAt, vLn, itAt, h]
structure OwnLn (w : World) (B : Nat) (v : Value) (it : Its) : Prop where
  own : OwnQ 32 w B v (vLn it)
  pts : ∀ i, i < it.length → OwnP w B (itAt it i).1 (itAt it i).2.pts
  far : ∀ i, i < it.length → ∀ b, (itAt it i).1.ownBlock = some b → v.ownBlock ≠ some b
  apart : ∀ i j, i ≠ j → i < it.length → j < it.length → ∀ b, (itAt it i).1.ownBlock = some b → (itAt it j).1.ownBlock ≠ some b
theorem OwnLn.nil (w : World) (B : Nat) : OwnLn w B (.slice none 0 0) [] :=
  ⟨OwnQ.nil _ w B, fun i h => absurd h (by simp), fun i h => absurd h (by simp), fun i j _ h => absurd h (by simp)⟩
theorem OwnLn.nw {w w' : World} {B : Nat} {v : Value} {it : Its} (h : OwnLn w B v it) (k : Nw w w') : OwnLn w' B v it :=
  ⟨h.own.nw k, fun i hi => (h.pts i hi).nw k, h.far, h.apart⟩
theorem OwnLn.base {w : World} {B B' : Nat} {v : Value} {it : Its} (h : OwnLn w B v it) (hB : B' ≤ B) : OwnLn w B' v it :=
  ⟨OwnQ.base h.own hB, fun i hi => OwnQ.base (h.pts i hi) hB, h.far, h.apart⟩
theorem OwnLn.row {w : World} {B : Nat} {v : Value} {it : Its} (h : OwnLn w B v it) : RowL w v (it.map (·.2)) := by
  rcases OwnQ.form h.own with ⟨rfl, h2⟩ | ⟨g, c, rfl, h2, h3, _, _, h4, h5⟩
  · have : it = [] := by simpa [vLn] using h2
    subst this
    exact ⟨none, 0, rfl, Or.inl rfl⟩
  · rw [vLn_len] at h4 ⊢
    refine ⟨some ⟨g, 0, none⟩, c, by simp, Or.inr ⟨g, 0, rfl, h3, fun i hi => ?_⟩⟩
    have hi' : i < it.length := by simpa using hi
    obtain ⟨q0, q1⟩ := h4 i hi'
    rw [vLn_at it i hi'] at q0 q1
    rw [ld_at it i hi']
    obtain ⟨pa, pc, e, hp⟩ := (h.pts i hi').pts
    rw [e] at q0
    exact ⟨⟨pa, pc, by rw [Nat.zero_add]; exact q0, hp⟩, by rw [Nat.zero_add]; exact q1⟩
/-- As the marks want it. -/
theorem OwnLn.marks {w : World} {B : Nat} {v : Value} {it : Its} (h : OwnLn w B v it) (K : Nat) : (v = .slice none 0 0 ∧ it = []) ∨ ∃ g c, v = .slice (some ⟨g, 0, none⟩) it.length c ∧ SF B w.heap.size g (vsOf it) ∧ MkLn w g (vsOf it) (nsOf it) K 0 := by
  rcases OwnQ.form h.own with ⟨rfl, h2⟩ | ⟨g, c, rfl, h2, h3, _, _, h4, h5⟩
  · exact Or.inl ⟨rfl, by simpa [vLn] using h2⟩
  · have hl : (vsOf it).length = it.length := by simp [vsOf]
    rw [vLn_len] at h4
    refine Or.inr ⟨g, c, by rw [vLn_len], ⟨⟨h2, h3⟩, fun i hi b hb => ?_, fun i j hij hi hj b hb => ?_⟩, ⟨h3, h5, fun i hi => ?_, fun i hi => absurd hi (by omega), fun i _ hi => ?_, fun i hi => absurd hi (by omega), fun i _ hi => ?_⟩⟩
    · rw [hl] at hi
      rw [vsOf_at it i hi] at hb
      have h6 := OwnQ.lt (h.pts i hi) b hb
      refine ⟨h6.1, h6.2, fun e => h.far i hi b hb ?_⟩
      rw [e]; rfl
    · rw [hl] at hi hj
      rw [vsOf_at it i hi] at hb
      rw [vsOf_at it j hj]
      exact h.apart i j hij hi hj b hb
    · rw [hl] at hi
      rw [vsOf_at it i hi]
      have := (h4 i hi).1
      rw [vLn_at it i hi] at this
      exact this
    · rw [hl] at hi
      have := (h4 i hi).2
      rw [vLn_at it i hi] at this
      exact ⟨_, this⟩
    · rw [hl] at hi
      rw [vsOf_at it i hi, nsOf_at it i hi]
      rcases (h.pts i hi).lay with ⟨e1, e2⟩ | ⟨g2, c2, e1, _, e3⟩
      · exact Or.inl ⟨e1, by rw [e2]; rfl⟩
      · exact Or.inr ⟨g2, c2, e1, LayPt.any e3⟩
theorem under_lns : Try.prog.underlying 27 = some (.slice 32) := Try.underlying27
/-- One more line: what an append leaves. -/
theorem OwnLn.put {wS w w' : World} {B : Nat} {v v' u : Value} {it : Its} {ld : LD} (h : OwnLn wS B v it) (k : Nw wS w) (hB : B ≤ wS.heap.size) (hu : OwnP w wS.heap.size u ld.pts) (ho : OwnQ 32 w' B v' (vLn (it ++ [(u, ld)]))) (x : Ext v v' w w') : OwnLn w' B v' (it ++ [(u, ld)]) := by
  have hlt : ∀ i, i < it.length → ∀ b, (itAt it i).1.ownBlock = some b → b < wS.heap.size := fun i hi b hb => (OwnQ.lt (h.pts i hi) b hb).2
  have hvl : ∀ b, v.ownBlock = some b → b < wS.heap.size := fun b hb => (OwnQ.lt h.own b hb).2
  have hul : ∀ b, u.ownBlock = some b → wS.heap.size ≤ b ∧ b < w.heap.size := fun b hb => OwnQ.lt hu b hb
  have hne : ∀ i, i < it.length → ∀ b, (itAt it i).1.ownBlock = some b → v.ownBlock ≠ some b := h.far
  have hs : wS.heap.size ≤ w.heap.size := Below.size k
  refine ⟨ho, fun i hi => ?_, fun i hi b hb => ?_, fun i j hij hi hj b hb => ?_⟩
  · rw [List.length_append, List.length_singleton] at hi
    by_cases e : i = it.length
    · subst e
      rw [itAt_new]
      refine OwnQ.base (OwnQ.keep hu x ?_) hB
      cases hc : u.ownBlock with
      | none => exact Or.inl rfl
      | some b => exact Or.inr (fun e => by have h1 := hul b hc; have h2 := hvl b e.symm; omega)
    · have hi' : i < it.length := by omega
      rw [itAt_old it _ i hi']
      refine OwnQ.keep (OwnQ.nw (h.pts i hi') k) x ?_
      cases hc : (itAt it i).1.ownBlock with
      | none => exact Or.inl rfl
      | some b => exact Or.inr (fun e => hne i hi' b hc e.symm)
  · rw [List.length_append, List.length_singleton] at hi
    by_cases e : i = it.length
    · subst e
      rw [itAt_new] at hb
      have h1 := hul b hb
      exact Ext.apart x h1.2 (fun e => by have h2 := hvl b e; omega)
    · have hi' : i < it.length := by omega
      rw [itAt_old it _ i hi'] at hb
      have h1 := hlt i hi' b hb
      exact Ext.apart x (by omega) (hne i hi' b hb)
  · rw [List.length_append, List.length_singleton] at hi hj
    by_cases e : i = it.length
    · subst e
      rw [itAt_new] at hb
      have hj' : j < it.length := by omega
      rw [itAt_old it _ j hj']
      intro e2
      have h1 := hul b hb
      have h2 := hlt j hj' b e2
      omega
    · have hi' : i < it.length := by omega
      rw [itAt_old it _ i hi'] at hb
      by_cases e2 : j = it.length
      · subst e2
        rw [itAt_new]
        intro e3
        have h1 := hul b e3
        have h2 := hlt i hi' b hb
        omega
      · have hj' : j < it.length := by omega
        rw [itAt_old it _ j hj']
        exact h.apart i j hij hi' hj' b hb
theorem OwnLn.farSet {w : World} {B : Nat} {v : Value} {it : Its} (h : OwnLn w B v it) (b o : Nat) (u : Value) (hb : b < B) : OwnLn (w.setCell ⟨b, o, none⟩ u) B v it :=
  ⟨OwnQ.far h.own b o u (fun e => by have := (OwnQ.lt h.own b e).1; omega), fun i hi => OwnQ.far (h.pts i hi) b o u (fun e => by have := (OwnQ.lt (h.pts i hi) b e).1; omega), h.far, h.apart⟩
end Go.Proofs.Ytoajjdlgipphiaa
