/-
  Rows of lines: marks in a list of the call's own, nil too; each theorem names its conditions.
-/
import Derived.Test.YtoajjdlgipphiaaLo
import Derived.Test.YtoajjdlgipphiaaMd
namespace Go.Proofs.Ytoajjdlgipphiaa
open Go.ChangeShapes Go.WideShapes Go.ChangeAt Go.RowKit
set_option linter.unusedVariables false

theorem OwnQ.mid {T : TypeId} {w w' : World} {B lo hi : Nat} {v : Value} {l : List VV} (h : OwnQ T w B v l) (k : Mid lo hi w w') (hh : hi ≤ B) : OwnQ T w' B v l := by
  refine ⟨h.1, ?_⟩
  rcases h.2 with hn | ⟨g, cap, cur, rfl, hb, hgg, rest⟩
  · exact .inl hn
  · refine .inr ⟨g, cap, cur, rfl, hb, ?_, rest⟩
    rw [k.block g (Array.getElem?_eq_some_iff.1 hgg).1 (Or.inr (by omega))]
    exact hgg
theorem OwnLn.mid {w w' : World} {B lo hi : Nat} {v : Value} {it : Its} (h : OwnLn w B v it) (k : Mid lo hi w w') (hh : hi ≤ B) : OwnLn w' B v it :=
  ⟨OwnQ.mid h.own k hh, fun i hi => OwnQ.mid (h.pts i hi) k hh, h.far, h.apart⟩
theorem kAt_sum (it : Its) (K : Nat) : ∀ i, i ≤ it.length → kAt (nsOf it) K i = K + 2 * manyL ((it.map (·.2)).take i) + i
  | 0, _ => by simp [kAt, manyL]
  | i + 1, h => by
    have ih := kAt_sum it K i (by omega)
    have hs := manyL_step (it.map (·.2)) i (by simp; omega)
    rw [ld_at it i (by omega)] at hs
    simp only [kAt]
    rw [ih, nsOf_at it i (by omega), hs]
    omega
theorem kAt_all (it : Its) (K : Nat) : kAt (nsOf it) K it.length = K + 2 * manyL (it.map (·.2)) + it.length := by
  have h := kAt_sum it K it.length (Nat.le_refl _)
  rw [List.take_of_length_le (by simp)] at h
  exact h
theorem nsOf_le (it : Its) (i : Nat) (h : i < it.length) : nAt (nsOf it) i ≤ manyL (it.map (·.2)) := by
  rw [nsOf_at it i h, ← ld_at it i h]
  exact manyL_at _ i (by simpa using h)
/-- A list that bears its marks. -/
def MkdL (w : World) (v : Value) (it : Its) (K : Nat) : Prop := (v = .slice none 0 0 ∧ it = []) ∨ ∃ g c, v = .slice (some ⟨g, 0, none⟩) it.length c ∧ MkLn w g (vsOf it) (nsOf it) K it.length
theorem Mkd.nwL {w w' : World} {v : Value} {n K : Nat} (h : Mkd w v n K) (k : Nw w w') : Mkd w' v n K := h.nw k
theorem AnyPt.nwL {w w' : World} {g n : Nat} (h : AnyPt w g n) (k : Nw w w') : AnyPt w' g n :=
  ⟨Nat.lt_of_lt_of_le h.1 (Below.size k), fun i hi => by obtain ⟨⟨x, hx⟩, y, hy⟩ := h.2.1 i hi; exact ⟨⟨x, ((bcell k).1 _ _ h.1).trans hx⟩, y, ((bcell k).1 _ _ h.1).trans hy⟩, fun o => ((bcell k).2 _ _ h.1).trans (h.2.2 o)⟩
theorem AnyV.nwL {w w' : World} {v : Value} {n : Nat} (h : AnyV w v n) (k : Nw w w') : AnyV w' v n := by
  rcases h with h | ⟨g, c, h1, h2⟩
  · exact Or.inl h
  · exact Or.inr ⟨g, c, h1, h2.nwL k⟩
theorem MkLn.nw {w w' : World} {g K j : Nat} {vs : List Value} {ns : List Nat} (h : MkLn w g vs ns K j) (k : Nw w w') : MkLn w' g vs ns K j :=
  ⟨Nat.lt_of_lt_of_le h.lt (Below.size k), fun o => ((bcell k).2 _ _ h.lt).trans (h.free o), fun i hi => ((bcell k).1 _ _ h.lt).trans (h.sl i hi), fun i a b => ((bcell k).1 _ _ h.lt).trans (h.c1 i a b),
    fun i a b => by obtain ⟨x, hx⟩ := h.c2 i a b; exact ⟨x, ((bcell k).1 _ _ h.lt).trans hx⟩, fun i a b => (h.p1 i a b).nwL k, fun i a b => (h.p2 i a b).nwL k⟩
theorem MkdL.nw {w w' : World} {v : Value} {it : Its} {K : Nat} (h : MkdL w v it K) (k : Nw w w') : MkdL w' v it K := by
  rcases h with h | ⟨g, c, h1, h2⟩
  · exact Or.inl h
  · exact Or.inr ⟨g, c, h1, h2.nw k⟩
theorem markL_own (w : World) (B : Nat) (v : Value) (it : Its) (h : OwnLn w B v it) (hn : it.length ≤ 1048576) (hm : manyL (it.map (·.2)) ≤ 1048576) :
    Calls Try.prog 15 #[v, .int .i64 1] w fun e w' => e = .returned (.int .i64 (kAt (nsOf it) 1 it.length : Int)) ∧ Mid B w.heap.size w w' ∧ MkdL w' v it 1 := by
  have hl : (vsOf it).length = it.length := by simp [vsOf]
  rcases h.marks 1 with ⟨rfl, rfl⟩ | ⟨g, c, rfl, hs, hk⟩
  · refine (markLineS_nil w 1 (by omega)).mono ?_
    rintro e w' ⟨rfl, rfl⟩
    exact ⟨rfl, Mid.refl _ _ _, Or.inl ⟨rfl, rfl⟩⟩
  · have := markLineS_any w B w.heap.size g c (vsOf it) (nsOf it) 1 hs (by rw [hl]; exact hn) (fun i hi => Nat.le_trans (nsOf_le it i (by rw [← hl]; exact hi)) hm) (by rw [hl, kAt_all]; omega) hk
    rw [hl] at this
    refine this.mono ?_
    rintro e w' ⟨rfl, h1, h2⟩
    exact ⟨rfl, h1, Or.inr ⟨g, c, rfl, h2⟩⟩
theorem heldL_own (w : World) (v : Value) (it : Its) (h : MkdL w v it 1) (hn : it.length ≤ 1048576) (hm : manyL (it.map (·.2)) ≤ 1048576) :
    Calls Try.prog 16 #[v, .int .i64 1] w fun e w' => e = .returned (.int .i64 (kAt (nsOf it) 1 it.length : Int)) ∧ w' = w := by
  have hl : (vsOf it).length = it.length := by simp [vsOf]
  rcases h with ⟨rfl, rfl⟩ | ⟨g, c, rfl, hk⟩
  · exact heldLineS_nil w 1 (by omega)
  · have := heldLineS_any w g c (vsOf it) (nsOf it) 1 (by rw [hl]; exact hn) (fun i hi => Nat.le_trans (nsOf_le it i (by rw [← hl]; exact hi)) hm) (by rw [hl, kAt_all]; omega) (by rw [hl]; exact hk)
    rw [hl] at this
    exact this
end Go.Proofs.Ytoajjdlgipphiaa
