/-
  Marks laid into a list of texts and looked for: what the laws' helpers do; each theorem names its conditions.
-/
import Derived.Test.YtnkmdmmlpidcmaaDoorMarkT
import Derived.Test.YtnkmdmmlpidcmaaDoorTxs
import Derived.Test.YtnkmdmmlpidcmaaDoorLet
import Derived.Lib.SlBytesRow
namespace Go.Proofs.YtnkmdmmlpidcmaaDoor
open Go.ChangeShapes Go.WideShapes Go.ChangeAt Go.RowKit
set_option linter.unusedVariables false

def markL (K n : Nat) : List ByteArray := (List.range n).map fun i => markT (K + i)
theorem markL_len (K n : Nat) : (markL K n).length = n := by simp [markL]
theorem markL_at (K n i : Nat) (h : i < n) : strAt (markL K n) i = markT (K + i) := by simp [strAt, markL, h]
theorem grown_refl (w : World) (r : Option Nat) : w.grownBy w r := ⟨rfl, rfl, rfl, Nat.le_refl _, fun _ _ _ => rfl⟩
theorem grown_nw {a b c : World} {r : Option Nat} (h : a.grownBy b r) (k : Nw b c) : a.grownBy c r :=
  ⟨(Below.os k).trans h.os, (Below.tape k).trans h.tape, (Below.output k).trans h.output, Nat.le_trans h.size (Below.size k), fun i hi hne => (Below.block k i (Nat.lt_of_lt_of_le hi h.size)).trans (h.block i hi hne)⟩
theorem grown_set {a b : World} {g : Nat} (h : a.grownBy b (some g)) (o : Nat) (v : Value) : a.grownBy (b.setCell ⟨g, o, none⟩ v) (some g) :=
  ⟨h.os, h.tape, h.output, by simpa [World.setCell] using h.size, fun i hi hne => by
    rw [Below.heap_setCell _ _ _ _ (by intro e; apply hne; rw [e])]
    exact h.block i hi hne⟩
theorem grown_below {a b : World} {g B : Nat} (h : a.grownBy b (some g)) (hg : B ≤ g) (hB : B ≤ a.heap.size) : Below B a b :=
  ⟨h.os, h.tape, h.output, h.size, fun i hi => h.block i (by omega) (by intro e; injection e; omega)⟩
theorem Strs.grown {w w' : World} {b off g : Nat} {l : List ByteArray} (h : Strs w (some ⟨b, off, none⟩) l) (k : w.grownBy w' (some g)) (hne : b ≠ g) : Strs w' (some ⟨b, off, none⟩) l := by
  rcases h with h | ⟨b', off', e, hb, hc⟩
  · exact Or.inl h
  · injection e with e; injection e with e1 e2; subst e1 e2
    refine Or.inr ⟨b, off, rfl, Nat.lt_of_lt_of_le hb k.size, fun i hi => ?_⟩
    exact (World.cell?_of_block (w := w) (a := ⟨b, off + i, none⟩) (k.block b hb (by intro e; injection e; omega))).trans (hc i hi)
/-- A row of texts of which the first j bear marks. -/
def MkTo (w : World) (g K n j : Nat) : Prop :=
  g < w.heap.size ∧ (∀ i, i < j → w.cell? ⟨g, i, none⟩ = some (.string (markT (K + i)))) ∧ (∀ i, j ≤ i → i < n → ∃ s, w.cell? ⟨g, i, none⟩ = some (.string s)) ∧ ∀ o, w.frozen? ⟨g, o, none⟩ = false
theorem MkTo.nw {w w' : World} {g K n j : Nat} (h : MkTo w g K n j) (k : Nw w w') : MkTo w' g K n j :=
  ⟨Nat.lt_of_lt_of_le h.1 (Below.size k), fun i hi => ((bcell k).1 _ _ h.1).trans (h.2.1 i hi), fun i a b => by obtain ⟨s, e⟩ := h.2.2.1 i a b; exact ⟨s, ((bcell k).1 _ _ h.1).trans e⟩, fun o => ((bcell k).2 _ _ h.1).trans (h.2.2.2 o)⟩
theorem MkTo.step {w : World} {g K n j : Nat} (h : MkTo w g K n j) (hj : j < n) : MkTo (w.setCell ⟨g, j, none⟩ (.string (markT (K + j)))) g K n (j + 1) := by
  obtain ⟨h1, h2, h3, h4⟩ := h
  obtain ⟨s0, c0⟩ := h3 j (Nat.le_refl _) hj
  have far : ∀ o, o ≠ j → (w.setCell ⟨g, j, none⟩ (.string (markT (K + j)))).cell? ⟨g, o, none⟩ = w.cell? ⟨g, o, none⟩ := by
    intro o a
    rw [World.cell?_setCell_other _ _ _ _ (fun h => by injection h; omega)]
  refine ⟨by simpa [World.setCell] using h1, fun i hi => ?_, fun i a b => ?_, fun o => by rw [World.frozen?_setCell]; exact h4 o⟩
  · by_cases e : i = j
    · subst e; exact World.cell?_setCell_same w ⟨g, i, none⟩ _ c0
    · rw [far i e]; exact h2 i (by omega)
  · rw [far i (by omega)]; exact h3 i (by omega) b
theorem MkTo.lay {w : World} {g K n : Nat} (h : MkTo w g K n n) : LayS w g (markL K n) n :=
  ⟨h.1, fun i hi => by rw [markL_at K n i hi]; exact h.2.1 i hi, fun i a b => by rw [markL_len] at b; omega, h.2.2.2⟩
set_option maxHeartbeats 1000000 in
theorem markS_any (w : World) (g c K : Nat) (l : List ByteArray) (hl : l.length ≤ 1048576) (hK : 1 ≤ K) (hK2 : K ≤ 50000000) (h : LayS w g l l.length) :
    Calls Tryd.prog 36 #[.slice (some ⟨g, 0, none⟩) l.length c, .int .i64 (K : Int)] w fun e w' => e = .returned (.int .i64 ((K + l.length : Nat) : Int)) ∧ w.grownBy w' (some g) ∧ LayS w' g (markL K l.length) l.length := by
  have HS : Hid (MkTo w g K l.length 0) := ⟨h.1, fun i hi => absurd hi (by omega), fun i _ b => ⟨_, h.2.1 i b⟩, h.2.2.2⟩
  clear h
  go_enter Tryd.func36, Tryd.ntmps36
  go_wp2
  go_loopw [1, 5] (fun x i wr => ∃ j : Nat, j ≤ l.length ∧ i = .int .i64 j ∧ x = .int .i64 ((K + j : Nat) : Int) ∧ w.grownBy wr (some g) ∧ MkTo wr g K l.length j) (fun _ i _ => l.length - (intOf i).toNat)
  case atStart => exact ⟨0, Nat.zero_le _, rfl, rfl, grown_refl _ _, HS.out⟩
  case round =>
    obtain ⟨j, hj, rfl, rfl, hw, hm⟩ := hrel
    have HW : Hid (w.grownBy wr (some g)) := hw
    have HM : Hid (MkTo wr g K l.length j) := hm
    clear hw hm
    by_cases hlt : j < l.length
    · obtain ⟨s0, c0⟩ := HM.out.2.2.1 j (Nat.le_refl _) hlt
      have hf0 := HM.out.2.2.2
      have hg0 := HM.out.1
      go_wp2_with (go_at_call 30; refine Calls.mono (markText_any _ (K + j) (by omega) (by omega)) ?_; rintro e w1 ⟨rfl, k1⟩; have d0 := ((bcell k1).1 _ j hg0).trans c0; have df : ∀ o, w1.frozen? ⟨g, o, none⟩ = false := fun o => ((bcell k1).2 _ o hg0).trans (hf0 o))
      go_roundw
      case rel => exact ⟨j + 1, by omega, by go_num, by go_num, grown_set (grown_nw HW.out k1) _ _, (HM.out.nw k1).step hlt⟩
      case measure => simp [intOf]; omega
    · have e : j = l.length := by omega
      subst e
      go_wp2
      go_ret
      exact ⟨rfl, HW.out, HM.out.lay⟩
set_option maxHeartbeats 4000000 in
theorem heldS_any (w : World) (g c K n : Nat) (hl : n ≤ 1048576) (hK : 1 ≤ K) (hK2 : K ≤ 50000000) (h : LayS w g (markL K n) n) :
    Calls Tryd.prog 37 #[.slice (some ⟨g, 0, none⟩) n c, .int .i64 (K : Int)] w fun e w' => e = .returned (.int .i64 ((K + n : Nat) : Int)) ∧ Nw w w' := by
  have HS : Hid (LayS w g (markL K n) n) := h
  clear h
  go_enter Tryd.func37, Tryd.ntmps37
  go_wp2
  go_loopw [1, 5] (fun x i wr => ∃ j : Nat, j ≤ n ∧ i = .int .i64 j ∧ x = .int .i64 ((K + j : Nat) : Int) ∧ Nw w wr) (fun _ i _ => n - (intOf i).toNat)
  case atStart => exact ⟨0, Nat.zero_le _, rfl, rfl, Below.refl _ _⟩
  case round =>
    obtain ⟨j, hj, rfl, rfl, hw⟩ := hrel
    by_cases hlt : j < n
    · have hs := HS.out.nw hw
      have c0 := hs.2.1 j hlt
      have hg0 := hs.1
      rw [markL_at K n j hlt] at c0
      have HW : Hid (Nw w wr) := hw
      clear hw hs
      have hg1 : g < wr.drew.heap.size := hg0
      have C1 : wr.drew.cell? ⟨g, j, none⟩ = some (.string (markT (K + j))) := c0
      go_wp2
      go_region_with (go_at_call 30; refine Calls.mono (markText_any _ (K + j) (by omega) (by omega)) ?_; rintro e w1 ⟨rfl, k1⟩; have d0 := ((bcell k1).1 _ j hg1).trans C1)
      all_goals
        go_wp2
        go_roundw
        case rel => exact ⟨j + 1, by omega, by go_num, by go_num, HW.out.trans k1.drw⟩
        case measure => simp [intOf]; omega
    · have e : j = n := by omega
      subst e
      have HW : Hid (Nw w wr) := hw
      clear hw
      go_wp2
      go_ret
      exact ⟨rfl, HW.out⟩
end Go.Proofs.YtnkmdmmlpidcmaaDoor
