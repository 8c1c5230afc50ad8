/-
  Stops: five numbers; rows of them in memory; which are good, as a pure function; each theorem names its conditions.
-/
import Derived.Test.YthlohbiocfeapaaTnP
import Derived.Test.YthlohbiocfeapaaMkl
namespace Go.Proofs.Ythlohbiocfeapaa
open Go.ChangeShapes Go.WideShapes Go.ChangeAt Go.RowKit
set_option linter.unusedVariables false

structure Stp where
  p : Int
  t : Edg
def noS : Stp := ⟨0, noE⟩
def spAt (l : List Stp) (i : Nat) : Stp := l.getD i noS
abbrev spV (s : Stp) : Value := .agg #[.int .i64 s.p, .int .i64 s.t.ax, .int .i64 s.t.ay, .int .i64 s.t.bx, .int .i64 s.t.cy]
/-- The stops l lie at a. -/
def Stps (w : World) (a : Option Addr) (l : List Stp) : Prop :=
  l = [] ∨ ∃ b off, a = some ⟨b, off, none⟩ ∧ b < w.heap.size ∧ ∀ i, i < l.length → w.cell? ⟨b, off + i * 5, none⟩ = some (.int .i64 (spAt l i).p) ∧ w.cell? ⟨b, off + i * 5 + 1, none⟩ = some (.int .i64 (spAt l i).t.ax) ∧ w.cell? ⟨b, off + i * 5 + 2, none⟩ = some (.int .i64 (spAt l i).t.ay) ∧ w.cell? ⟨b, off + i * 5 + 3, none⟩ = some (.int .i64 (spAt l i).t.bx) ∧ w.cell? ⟨b, off + i * 5 + 4, none⟩ = some (.int .i64 (spAt l i).t.cy)
theorem Stps.nw {w w' : World} {a : Option Addr} {l : List Stp} (h : Stps w a l) (k : Nw w w') : Stps w' a l := by
  rcases h with h | ⟨b, off, rfl, hb, hc⟩
  · exact Or.inl h
  · refine Or.inr ⟨b, off, rfl, Nat.lt_of_lt_of_le hb (Below.size k), fun i hi => ?_⟩
    obtain ⟨h0, h1, h2, h3, h4⟩ := hc i hi
    exact ⟨((bcell k).1 _ _ hb).trans h0, ((bcell k).1 _ _ hb).trans h1, ((bcell k).1 _ _ hb).trans h2, ((bcell k).1 _ _ hb).trans h3, ((bcell k).1 _ _ hb).trans h4⟩
/-- A stop that is good where it stands. -/
def spOk (l : List Stp) (i : Nat) : Bool := inN (spAt l i).p 0 65536 && (tnB (spAt l i).t && (decide (i = 0) || decide ((spAt l (i - 1)).p ≤ (spAt l i).p)))
def sgB (l : List Stp) : Bool := inN (l.length : Int) 1 8 && (List.range l.length).all (spOk l)
theorem sgB_false {l : List Stp} {k : Nat} (hk : k < l.length) (h : spOk l k = false) : (List.range l.length).all (spOk l) = false := by
  rw [List.all_eq_false]
  exact ⟨k, List.mem_range.2 hk, by rw [h]; decide⟩
theorem sgB_true {l : List Stp} (h : ∀ k, k < l.length → spOk l k = true) : (List.range l.length).all (spOk l) = true := by
  rw [List.all_eq_true]
  exact fun k hk => h k (List.mem_range.1 hk)
theorem sgB_at {l : List Stp} (h : sgB l = true) (k : Nat) (hk : k < l.length) : spOk l k = true := by
  unfold sgB at h
  rw [Bool.and_eq_true, List.all_eq_true] at h
  exact h.2 k (List.mem_range.2 hk)
end Go.Proofs.Ythlohbiocfeapaa
