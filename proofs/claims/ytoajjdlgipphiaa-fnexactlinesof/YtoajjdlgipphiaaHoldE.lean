/-
  What the laws' helpers do that hold two lists of numbers against each other, and mark one; each theorem names its conditions.
-/
import Derived.Test.YtoajjdlgipphiaaIns
namespace Go.Proofs.Ytoajjdlgipphiaa
open Go.ChangeShapes Go.WideShapes Go.ChangeAt Go.RowKit
set_option linter.unusedVariables false

/-- The numbers l are what v holds. -/
def RowI (w : World) (v : Value) (l : List Int) : Prop :=
  (v = .slice none 0 0 ∧ l = []) ∨ ∃ g c, v = .slice (some ⟨g, 0, none⟩) l.length c ∧ g < w.heap.size ∧ ∀ i, i < l.length → w.cell? ⟨g, i, none⟩ = some (.int .i64 (intAt l i))
theorem RowI.nw {w w' : World} {v : Value} {l : List Int} (h : RowI w v l) (k : Nw w w') : RowI w' v l := by
  rcases h with h | ⟨g, c, h1, h2, h3⟩
  · exact Or.inl h
  · exact Or.inr ⟨g, c, h1, Nat.lt_of_lt_of_le h2 (Below.size k), fun i hi => ((bcell k).1 _ _ h2).trans (h3 i hi)⟩
theorem LayI.row {w : World} {g c : Nat} {l : List Int} (h : LayI w g l) : RowI w (.slice (some ⟨g, 0, none⟩) l.length c) l := Or.inr ⟨g, c, rfl, h.1, h.2.1⟩
theorem Ins.row {w : World} {B : Nat} {v : Value} {l : List Int} (h : Ins w B v l) : RowI w v l := by
  rcases h.lay with h | ⟨g, c, h1, _, h3⟩
  · exact Or.inl h
  · rw [h1]; exact h3.row
set_option maxHeartbeats 1000000 in
theorem eqI_any (w : World) (v1 v2 : Value) (l : List Int) (hl : l.length ≤ 1048576) (h1 : RowI w v1 l) (h2 : RowI w v2 l) :
    Calls Try.prog 12 #[v1, v2] w fun e w' => e = .returned (.bool true) ∧ Nw w w' := by
  have form : ∀ v, RowI w v l → ∃ a c, v = .slice a l.length c := fun v h => by
    rcases h with ⟨rfl, rfl⟩ | ⟨g, c, rfl, _⟩
    · exact ⟨none, 0, rfl⟩
    · exact ⟨_, c, rfl⟩
  obtain ⟨a1, c1, rfl⟩ := form v1 h1
  obtain ⟨a2, c2, rfl⟩ := form v2 h2
  clear form
  have H1 : Hid (RowI w (.slice a1 l.length c1) l) := h1
  have H2 : Hid (RowI w (.slice a2 l.length c2) l) := h2
  clear h1 h2
  go_enter Try.func12, Try.ntmps12
  go_wp2
  go_loopw [5] (fun i wr => ∃ j : Nat, j ≤ l.length ∧ i = .int .i64 j ∧ Nw w wr) (fun i _ => l.length - (intOf i).toNat)
  case atStart => exact ⟨0, Nat.zero_le _, rfl, Below.refl _ _⟩
  case round =>
    obtain ⟨j, hj, rfl, hw⟩ := hrel
    by_cases hlt : j < l.length
    · rcases RowI.nw H1.out hw with ⟨_, e⟩ | ⟨g1, d1, e1, f1, k1⟩
      · rw [e] at hlt; simp at hlt
      rcases RowI.nw H2.out hw with ⟨_, e⟩ | ⟨g2, d2, e2, f2, k2⟩
      · rw [e] at hlt; simp at hlt
      injection e1 with e1 _ x1
      injection e2 with e2 _ x2
      subst e1 e2 x1 x2
      have q1 := k1 j hlt
      have q2 := k2 j hlt
      have HW : Hid (Nw w wr) := hw
      clear hw k1 k2 f1 f2 H1 H2
      generalize intAt l j = x at *
      go_wp2
      go_region
      all_goals
        go_wp2
        go_roundw
        case rel => exact ⟨j + 1, by omega, by go_num, Nw.trans HW.out ((Below.refl _ _).drew)⟩
        case measure => simp [intOf]; omega
    · have e : j = l.length := by omega
      have HW : Hid (Nw w wr) := hw
      clear hw
      subst e
      go_wp2
      go_ret
      exact ⟨rfl, HW.out⟩

def mkL (K n : Nat) : List Int := (List.range n).map fun i => ((K + i : Nat) : Int)
theorem mkL_len (K n : Nat) : (mkL K n).length = n := by simp [mkL]
theorem mkL_at (K n i : Nat) (h : i < n) : intAt (mkL K n) i = ((K + i : Nat) : Int) := by simp [intAt, mkL, h]
theorem grI_refl (w : World) (r : Option Nat) : w.grownBy w r := ⟨rfl, rfl, rfl, Nat.le_refl _, fun _ _ _ => rfl⟩
theorem grI_set {a b : World} {g : Nat} (h : a.grownBy b (some g)) (o : Nat) (v : Value) : a.grownBy (b.setCell ⟨g, o, none⟩ v) (some g) :=
  ⟨h.os, h.tape, h.output, by simpa [World.setCell] using h.size, fun i hi hne => by
    rw [Below.heap_setCell _ _ _ _ (by intro e; apply hne; rw [e])]
    exact h.block i hi hne⟩
theorem grI_below {a b : World} {g B : Nat} (h : a.grownBy b (some g)) (hg : B ≤ g) (hB : B ≤ a.heap.size) : Below B a b :=
  ⟨h.os, h.tape, h.output, h.size, fun i hi => h.block i (by omega) (by intro e; injection e; omega)⟩
theorem RowI.grown {w w' : World} {g : Nat} {v : Value} {l : List Int} (h : RowI w v l) (k : w.grownBy w' (some g)) (hne : v.ownBlock ≠ some g) : RowI w' v l := by
  rcases h with h | ⟨b, c, rfl, hb, hc⟩
  · exact Or.inl h
  · refine Or.inr ⟨b, c, rfl, Nat.lt_of_lt_of_le hb k.size, fun i hi => ?_⟩
    exact (World.cell?_of_block (w := w) (a := ⟨b, i, none⟩) (k.block b hb (by intro e; apply hne; rw [← e]; rfl))).trans (hc i hi)
/-- A row of numbers of which the first j bear marks. -/
def MkI (w : World) (g K n j : Nat) : Prop :=
  g < w.heap.size ∧ (∀ i, i < j → w.cell? ⟨g, i, none⟩ = some (.int .i64 ((K + i : Nat) : Int))) ∧ (∀ i, j ≤ i → i < n → ∃ x : Int, w.cell? ⟨g, i, none⟩ = some (.int .i64 x)) ∧ ∀ o, w.frozen? ⟨g, o, none⟩ = false
theorem MkI.step {w : World} {g K n j : Nat} (h : MkI w g K n j) (hj : j < n) : MkI (w.setCell ⟨g, j, none⟩ (.int .i64 ((K + j : Nat) : Int))) g K n (j + 1) := by
  obtain ⟨h1, h2, h3, h4⟩ := h
  obtain ⟨s0, c0⟩ := h3 j (Nat.le_refl _) hj
  have far : ∀ o, o ≠ j → (w.setCell ⟨g, j, none⟩ (.int .i64 ((K + j : Nat) : Int))).cell? ⟨g, o, none⟩ = w.cell? ⟨g, o, none⟩ := by
    intro o a
    rw [World.cell?_setCell_other _ _ _ _ (fun h => by injection h; omega)]
  refine ⟨by simpa [World.setCell] using h1, fun i hi => ?_, fun i a b => ?_, fun o => by rw [World.frozen?_setCell]; exact h4 o⟩
  · by_cases e : i = j
    · subst e; exact World.cell?_setCell_same w ⟨g, i, none⟩ _ c0
    · rw [far i e]; exact h2 i (by omega)
  · rw [far i (by omega)]; exact h3 i (by omega) b
theorem MkI.lay {w : World} {g K n : Nat} (h : MkI w g K n n) : LayI w g (mkL K n) :=
  ⟨h.1, fun i hi => by rw [mkL_len] at hi; rw [mkL_at K n i hi]; exact h.2.1 i hi, h.2.2.2⟩
set_option maxHeartbeats 1000000 in
theorem markI_any (w : World) (g c K : Nat) (l : List Int) (hl : l.length ≤ 1048576) (hK2 : K ≤ 50000000) (h : LayI w g l) :
    Calls Try.prog 14 #[.slice (some ⟨g, 0, none⟩) l.length c, .int .i64 (K : Int)] w fun e w' => e = .returned (.int .i64 ((K + l.length : Nat) : Int)) ∧ w.grownBy w' (some g) ∧ LayI w' g (mkL K l.length) := by
  have HS : Hid (MkI w g K l.length 0) := ⟨h.1, fun i hi => absurd hi (by omega), fun i _ b => ⟨_, h.2.1 i b⟩, h.2.2⟩
  clear h
  go_enter Try.func14, Try.ntmps14
  go_wp2
  go_loopw [1, 5] (fun x i wr => ∃ j : Nat, j ≤ l.length ∧ i = .int .i64 j ∧ x = .int .i64 ((K + j : Nat) : Int) ∧ w.grownBy wr (some g) ∧ MkI wr g K l.length j) (fun _ i _ => l.length - (intOf i).toNat)
  case atStart => exact ⟨0, Nat.zero_le _, rfl, rfl, grI_refl _ _, HS.out⟩
  case round =>
    obtain ⟨j, hj, rfl, rfl, hw, hm⟩ := hrel
    have HW : Hid (w.grownBy wr (some g)) := hw
    have HM : Hid (MkI wr g K l.length j) := hm
    clear hw hm
    by_cases hlt : j < l.length
    · obtain ⟨s0, c0⟩ := HM.out.2.2.1 j (Nat.le_refl _) hlt
      have hf0 := HM.out.2.2.2
      go_wp2
      go_roundw
      case rel =>
        refine ⟨j + 1, by omega, by go_num, by go_num, grI_set HW.out _ _, ?_⟩
        have h := HM.out.step hlt
        rw [show ((K + j : Nat) : Int) = (K : Int) + (j : Int) by omega] at h
        exact h
      case measure => simp [intOf]; omega
    · have e : j = l.length := by omega
      subst e
      go_wp2
      go_ret
      exact ⟨rfl, HW.out, HM.out.lay⟩
end Go.Proofs.Ytoajjdlgipphiaa
