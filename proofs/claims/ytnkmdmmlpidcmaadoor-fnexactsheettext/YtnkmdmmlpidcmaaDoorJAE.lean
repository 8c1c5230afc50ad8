/-
  Marks laid into a list of texts and looked for: what the laws' helpers do; each theorem names its conditions.
  Rows of parts: what the laws' helpers that measure them, copy them and hold two against each other do; each theorem names its conditions.
  Rows of texts and of parts with memory of their own, and marks in them; each theorem names its conditions.
  Marks laid into rows of parts and looked for; each theorem names its conditions.
-/
import Derived.Test.YtnkmdmmlpidcmaaDoorJAC
import Derived.Test.YtnkmdmmlpidcmaaDoorJAD
import Derived.Lib.SlBytesRow
namespace Go.Proofs.YtnkmdmmlpidcmaaDoor
open Go.ChangeShapes Go.WideShapes Go.ChangeAt Go.RowKit
set_option linter.unusedVariables false

def markL (K n : Nat) : List ByteArray := (List.range n).map fun i => markT (K + i)
theorem markL_len (K n : Nat) : (markL K n).length = n := by simp [markL]
theorem markL_at (K n i : Nat) (h : i < n) : strAt (markL K n) i = markT (K + i) := by simp [strAt, markL, h]
theorem grown_refl (w : World) (r : Option Nat) : w.grownBy w r := ⟨rfl, rfl, rfl, Nat.le_refl _, fun _ _ _ => rfl⟩
theorem grown_nw {a b c : World} {r : Option Nat} (h : a.grownBy b r) (k : Nw b c) : a.grownBy c r :=
  ⟨(Below.os k).trans h.os, (Below.tape k).trans h.tape, (Below.output k).trans h.output, Nat.le_trans h.size (Below.size k), fun i hi hne => (Below.block k i (Nat.lt_of_lt_of_le hi h.size)).trans (h.block i hi hne)⟩
theorem grown_set {a b : World} {g : Nat} (h : a.grownBy b (some g)) (o : Nat) (v : Value) : a.grownBy (b.setCell ⟨g, o, none⟩ v) (some g) :=
  ⟨h.os, h.tape, h.output, by simpa [World.setCell] using h.size, fun i hi hne => by
    rw [Below.heap_setCell _ _ _ _ (by intro e; apply hne; rw [e])]
    exact h.block i hi hne⟩
theorem grown_below {a b : World} {g B : Nat} (h : a.grownBy b (some g)) (hg : B ≤ g) (hB : B ≤ a.heap.size) : Below B a b :=
  ⟨h.os, h.tape, h.output, h.size, fun i hi => h.block i (by omega) (by intro e; injection e; omega)⟩
theorem Strs.grown {w w' : World} {b off g : Nat} {l : List ByteArray} (h : Strs w (some ⟨b, off, none⟩) l) (k : w.grownBy w' (some g)) (hne : b ≠ g) : Strs w' (some ⟨b, off, none⟩) l := by
  rcases h with h | ⟨b', off', e, hb, hc⟩
  · exact Or.inl h
  · injection e with e; injection e with e1 e2; subst e1 e2
    refine Or.inr ⟨b, off, rfl, Nat.lt_of_lt_of_le hb k.size, fun i hi => ?_⟩
    exact (World.cell?_of_block (w := w) (a := ⟨b, off + i, none⟩) (k.block b hb (by intro e; injection e; omega))).trans (hc i hi)
/-- A row of texts of which the first j bear marks. -/
def MkTo (w : World) (g K n j : Nat) : Prop :=
  g < w.heap.size ∧ (∀ i, i < j → w.cell? ⟨g, i, none⟩ = some (.string (markT (K + i)))) ∧ (∀ i, j ≤ i → i < n → ∃ s, w.cell? ⟨g, i, none⟩ = some (.string s)) ∧ ∀ o, w.frozen? ⟨g, o, none⟩ = false
theorem MkTo.nw {w w' : World} {g K n j : Nat} (h : MkTo w g K n j) (k : Nw w w') : MkTo w' g K n j :=
  ⟨Nat.lt_of_lt_of_le h.1 (Below.size k), fun i hi => ((bcell k).1 _ _ h.1).trans (h.2.1 i hi), fun i a b => by obtain ⟨s, e⟩ := h.2.2.1 i a b; exact ⟨s, ((bcell k).1 _ _ h.1).trans e⟩, fun o => ((bcell k).2 _ _ h.1).trans (h.2.2.2 o)⟩
theorem MkTo.step {w : World} {g K n j : Nat} (h : MkTo w g K n j) (hj : j < n) : MkTo (w.setCell ⟨g, j, none⟩ (.string (markT (K + j)))) g K n (j + 1) := by
  obtain ⟨h1, h2, h3, h4⟩ := h
  obtain ⟨s0, c0⟩ := h3 j (Nat.le_refl _) hj
  have far : ∀ o, o ≠ j → (w.setCell ⟨g, j, none⟩ (.string (markT (K + j)))).cell? ⟨g, o, none⟩ = w.cell? ⟨g, o, none⟩ := by
    intro o a
    rw [World.cell?_setCell_other _ _ _ _ (fun h => by injection h; omega)]
  refine ⟨by simpa [World.setCell] using h1, fun i hi => ?_, fun i a b => ?_, fun o => by rw [World.frozen?_setCell]; exact h4 o⟩
  · by_cases e : i = j
    · subst e; exact World.cell?_setCell_same w ⟨g, i, none⟩ _ c0
    · rw [far i e]; exact h2 i (by omega)
  · rw [far i (by omega)]; exact h3 i (by omega) b
theorem MkTo.lay {w : World} {g K n : Nat} (h : MkTo w g K n n) : LayS w g (markL K n) n :=
  ⟨h.1, fun i hi => by rw [markL_at K n i hi]; exact h.2.1 i hi, fun i a b => by rw [markL_len] at b; omega, h.2.2.2⟩
set_option maxHeartbeats 1000000 in
theorem markS_any (w : World) (g c K : Nat) (l : List ByteArray) (hl : l.length ≤ 1048576) (hK : 1 ≤ K) (hK2 : K ≤ 50000000) (h : LayS w g l l.length) :
    Calls Tryd.prog 36 #[.slice (some ⟨g, 0, none⟩) l.length c, .int .i64 (K : Int)] w fun e w' => e = .returned (.int .i64 ((K + l.length : Nat) : Int)) ∧ w.grownBy w' (some g) ∧ LayS w' g (markL K l.length) l.length := by
  have HS : Hid (MkTo w g K l.length 0) := ⟨h.1, fun i hi => absurd hi (by omega), fun i _ b => ⟨_, h.2.1 i b⟩, h.2.2.2⟩
  clear h
  go_enter Tryd.func36, Tryd.ntmps36
  go_wp2
  go_loopw [1, 5] (fun x i wr => ∃ j : Nat, j ≤ l.length ∧ i = .int .i64 j ∧ x = .int .i64 ((K + j : Nat) : Int) ∧ w.grownBy wr (some g) ∧ MkTo wr g K l.length j) (fun _ i _ => l.length - (intOf i).toNat)
  case atStart => exact ⟨0, Nat.zero_le _, rfl, rfl, grown_refl _ _, HS.out⟩
  case round =>
    obtain ⟨j, hj, rfl, rfl, hw, hm⟩ := hrel
    have HW : Hid (w.grownBy wr (some g)) := hw
    have HM : Hid (MkTo wr g K l.length j) := hm
    clear hw hm
    by_cases hlt : j < l.length
    · obtain ⟨s0, c0⟩ := HM.out.2.2.1 j (Nat.le_refl _) hlt
      have hf0 := HM.out.2.2.2
      have hg0 := HM.out.1
      go_wp2_with (go_at_call 30; refine Calls.mono (markText_any _ (K + j) (by omega) (by omega)) ?_; rintro e w1 ⟨rfl, k1⟩; have d0 := ((bcell k1).1 _ j hg0).trans c0; have df : ∀ o, w1.frozen? ⟨g, o, none⟩ = false := fun o => ((bcell k1).2 _ o hg0).trans (hf0 o))
      go_roundw
      case rel => exact ⟨j + 1, by omega, by go_num, by go_num, grown_set (grown_nw HW.out k1) _ _, (HM.out.nw k1).step hlt⟩
      case measure => simp [intOf]; omega
    · have e : j = l.length := by omega
      subst e
      go_wp2
      go_ret
      exact ⟨rfl, HW.out, HM.out.lay⟩
set_option maxHeartbeats 4000000 in
theorem heldS_any (w : World) (g c K n : Nat) (hl : n ≤ 1048576) (hK : 1 ≤ K) (hK2 : K ≤ 50000000) (h : LayS w g (markL K n) n) :
    Calls Tryd.prog 37 #[.slice (some ⟨g, 0, none⟩) n c, .int .i64 (K : Int)] w fun e w' => e = .returned (.int .i64 ((K + n : Nat) : Int)) ∧ Nw w w' := by
  have HS : Hid (LayS w g (markL K n) n) := h
  clear h
  go_enter Tryd.func37, Tryd.ntmps37
  go_wp2
  go_loopw [1, 5] (fun x i wr => ∃ j : Nat, j ≤ n ∧ i = .int .i64 j ∧ x = .int .i64 ((K + j : Nat) : Int) ∧ Nw w wr) (fun _ i _ => n - (intOf i).toNat)
  case atStart => exact ⟨0, Nat.zero_le _, rfl, rfl, Below.refl _ _⟩
  case round =>
    obtain ⟨j, hj, rfl, rfl, hw⟩ := hrel
    by_cases hlt : j < n
    · have hs := HS.out.nw hw
      have c0 := hs.2.1 j hlt
      have hg0 := hs.1
      rw [markL_at K n j hlt] at c0
      have HW : Hid (Nw w wr) := hw
      clear hw hs
      have hg1 : g < wr.drew.heap.size := hg0
      have C1 : wr.drew.cell? ⟨g, j, none⟩ = some (.string (markT (K + j))) := c0
      go_wp2
      go_region_with (go_at_call 30; refine Calls.mono (markText_any _ (K + j) (by omega) (by omega)) ?_; rintro e w1 ⟨rfl, k1⟩; have d0 := ((bcell k1).1 _ j hg1).trans C1)
      all_goals
        go_wp2
        go_roundw
        case rel => exact ⟨j + 1, by omega, by go_num, by go_num, HW.out.trans k1.drw⟩
        case measure => simp [intOf]; omega
    · have e : j = n := by omega
      subst e
      have HW : Hid (Nw w wr) := hw
      clear hw
      go_wp2
      go_ret
      exact ⟨rfl, HW.out⟩
end Go.Proofs.YtnkmdmmlpidcmaaDoor
namespace Go.Proofs.YtnkmdmmlpidcmaaDoor
open Go.ChangeShapes Go.WideShapes Go.ChangeAt Go.RowKit
set_option linter.unusedVariables false

def noPD : PD := ⟨⟨#[]⟩, ⟨#[]⟩, []⟩
def partAt (l : List PD) (i : Nat) : PD := l.getD i noPD
/-- The parts l lie at a. -/
def Parts (w : World) (a : Option Addr) (l : List PD) : Prop :=
  l = [] ∨ ∃ b off, a = some ⟨b, off, none⟩ ∧ b < w.heap.size ∧ ∀ i, i < l.length → w.cell? ⟨b, off + i * 3, none⟩ = some (.string (partAt l i).ty) ∧ w.cell? ⟨b, off + i * 3 + 1, none⟩ = some (.string (partAt l i).id) ∧
    (∃ aa c, w.cell? ⟨b, off + i * 3 + 2, none⟩ = some (.slice aa (partAt l i).cls.length c) ∧ (partAt l i).cls.length ≤ c ∧ Strs w aa (partAt l i).cls)
theorem Parts.nw {w w' : World} {a : Option Addr} {l : List PD} (h : Parts w a l) (k : Nw w w') : Parts w' a l := by
  rcases h with h | ⟨b, off, rfl, hb, hc⟩
  · exact Or.inl h
  · refine Or.inr ⟨b, off, rfl, Nat.lt_of_lt_of_le hb (Below.size k), fun i hi => ?_⟩
    obtain ⟨h0, h1, ⟨aa, c, h2, hcap, h3⟩⟩ := hc i hi
    exact ⟨((bcell k).1 _ _ hb).trans h0, ((bcell k).1 _ _ hb).trans h1, ⟨aa, c, ((bcell k).1 _ _ hb).trans h2, hcap, h3.nw k⟩⟩

def bulkPs (l : List PD) : Nat := (l.map bulkP).sum
theorem bulkPs_step (l : List PD) (k : Nat) (h : k < l.length) : bulkPs (l.take (k + 1)) = bulkPs (l.take k) + bulkP (partAt l k) := by
  unfold bulkPs partAt
  have e : l.getD k noPD = l[k] := by simp [h]
  rw [List.take_succ_eq_append_getElem h, List.map_append, List.sum_append, e]
  simp only [List.map_cons, List.map_nil, List.sum_cons, List.sum_nil]
  omega
theorem bulkPs_le (l : List PD) (k : Nat) : bulkPs (l.take k) ≤ bulkPs l := by
  unfold bulkPs
  conv => rhs; rw [← List.take_append_drop k l]
  rw [List.map_append, List.sum_append]
  omega
def szPs (l : List PD) (left : Int) : Int := if ((l.length + bulkPs l : Nat) : Int) ≤ left then left - ((l.length + bulkPs l : Nat) : Int) else -1
def okPDs (l : List PD) : Prop := ∀ i, i < l.length → okPD (partAt l i)
/-- A new row of which the first k parts have been laid. -/
def LayPs (w : World) (g : Nat) (l : List PD) (k : Nat) : Prop :=
  g < w.heap.size ∧ (∀ i, i < k → w.cell? ⟨g, i * 3, none⟩ = some (.string (partAt l i).ty) ∧ w.cell? ⟨g, i * 3 + 1, none⟩ = some (.string (partAt l i).id) ∧
      (∃ ga, g < ga ∧ w.cell? ⟨g, i * 3 + 2, none⟩ = some (.slice (some ⟨ga, 0, none⟩) (partAt l i).cls.length (partAt l i).cls.length) ∧ LayS w ga (partAt l i).cls (partAt l i).cls.length)) ∧
    (∀ i, k ≤ i → i < l.length → w.cell? ⟨g, i * 3, none⟩ = some (.string ⟨#[]⟩) ∧ w.cell? ⟨g, i * 3 + 1, none⟩ = some (.string ⟨#[]⟩) ∧ w.cell? ⟨g, i * 3 + 2, none⟩ = some (.slice none 0 0)) ∧ ∀ o, w.frozen? ⟨g, o, none⟩ = false
theorem LayPs.nw {w w' : World} {g k : Nat} {l : List PD} (h : LayPs w g l k) (q : Nw w w') : LayPs w' g l k := by
  have C := fun o => (bcell q).1 g o h.1
  refine ⟨Nat.lt_of_lt_of_le h.1 (Below.size q), fun i hi => ?_, fun i hi hj => ?_, fun o => ((bcell q).2 g o h.1).trans (h.2.2.2 o)⟩
  · obtain ⟨h0, h1, ⟨ga, hg, h2, h3⟩⟩ := h.2.1 i hi
    exact ⟨(C _).trans h0, (C _).trans h1, ⟨ga, hg, (C _).trans h2, h3.nw q⟩⟩
  · obtain ⟨h0, h1, h2⟩ := h.2.2.1 i hi hj
    exact ⟨(C _).trans h0, (C _).trans h1, (C _).trans h2⟩
theorem LayPs.parts {w : World} {g : Nat} {l : List PD} (h : LayPs w g l l.length) : Parts w (some ⟨g, 0, none⟩) l := by
  refine Or.inr ⟨g, 0, rfl, h.1, fun i hi => ?_⟩
  obtain ⟨h0, h1, ⟨ga, hg, h2, h3⟩⟩ := h.2.1 i hi
  refine ⟨by simpa using h0, by simpa using h1, ⟨some ⟨ga, 0, none⟩, (partAt l i).cls.length, by simpa using h2, Nat.le_refl _, h3.strs⟩⟩
theorem LayPs.step {w w' : World} {g k ga : Nat} {l : List PD} (h : LayPs w g l k) (q : Nw w w') (hk : k < l.length) (hg : w.heap.size ≤ ga) (hp : LayS w' ga (partAt l k).cls (partAt l k).cls.length) :
    LayPs (((w'.setCell ⟨g, k * 3, none⟩ (.string (partAt l k).ty)).setCell ⟨g, k * 3 + 1, none⟩ (.string (partAt l k).id)).setCell ⟨g, k * 3 + 2, none⟩ (.slice (some ⟨ga, 0, none⟩) (partAt l k).cls.length (partAt l k).cls.length)) g l (k + 1) := by
  have hga : g < ga := Nat.lt_of_lt_of_le h.1 hg
  have h' := h.nw q
  obtain ⟨z0, z1, z2⟩ := h'.2.2.1 k (Nat.le_refl _) hk
  have far : ∀ o, o ≠ k * 3 → o ≠ k * 3 + 1 → o ≠ k * 3 + 2 → (((w'.setCell ⟨g, k * 3, none⟩ (.string (partAt l k).ty)).setCell ⟨g, k * 3 + 1, none⟩ (.string (partAt l k).id)).setCell ⟨g, k * 3 + 2, none⟩ (.slice (some ⟨ga, 0, none⟩) (partAt l k).cls.length (partAt l k).cls.length)).cell? ⟨g, o, none⟩ = w'.cell? ⟨g, o, none⟩ := by
    intro o a b c
    rw [World.cell?_setCell_other _ _ _ _ (fun h => by injection h; omega), World.cell?_setCell_other _ _ _ _ (fun h => by injection h; omega), World.cell?_setCell_other _ _ _ _ (fun h => by injection h; omega)]
  refine ⟨by simpa [World.setCell] using h'.1, fun m hm => ?_, fun m hm1 hm2 => ?_, fun o => ?_⟩
  · by_cases e : m = k
    · subst e
      refine ⟨?_, ?_, ⟨ga, hga, ?_, ((hp.off _ _ _ (by omega)).off _ _ _ (by omega)).off _ _ _ (by omega)⟩⟩
      · rw [World.cell?_setCell_other _ _ _ _ (fun h => by injection h; omega), World.cell?_setCell_other _ _ _ _ (fun h => by injection h; omega)]
        exact World.cell?_setCell_same w' ⟨g, m * 3, none⟩ _ z0
      · rw [World.cell?_setCell_other _ _ _ _ (fun h => by injection h; omega)]
        exact World.cell?_setCell_same _ ⟨g, m * 3 + 1, none⟩ _ ((World.cell?_setCell_other _ _ _ _ (fun h => by injection h; omega)).trans z1)
      · exact World.cell?_setCell_same _ ⟨g, m * 3 + 2, none⟩ _ ((World.cell?_setCell_other _ _ _ _ (fun h => by injection h; omega)).trans ((World.cell?_setCell_other _ _ _ _ (fun h => by injection h; omega)).trans z2))
    · obtain ⟨h0, h1, ⟨gb, hgb, h2, h3⟩⟩ := h'.2.1 m (by omega)
      refine ⟨by rw [far _ (by omega) (by omega) (by omega)]; exact h0, by rw [far _ (by omega) (by omega) (by omega)]; exact h1, ⟨gb, hgb, by rw [far _ (by omega) (by omega) (by omega)]; exact h2, ((h3.off _ _ _ (by omega)).off _ _ _ (by omega)).off _ _ _ (by omega)⟩⟩
  · rw [far _ (by omega) (by omega) (by omega), far _ (by omega) (by omega) (by omega), far _ (by omega) (by omega) (by omega)]
    exact h'.2.2.1 m (by omega) hm2
  · rw [World.frozen?_setCell, World.frozen?_setCell, World.frozen?_setCell]; exact h'.2.2.2 o
theorem Tryd.info56 : (Tryd.prog.info? 56).map (fun i => (i.zero, i.size, i.bytes)) = some (some (.agg #[.string ⟨#[]⟩, .string ⟨#[]⟩, .slice none 0 0]), 3, 56) := by kernel_rfl
theorem LayPs.start (w : World) (l : List PD) (t : TypeId) : LayPs (w.alloc (.cells (madeCells #[.string ⟨#[]⟩, .string ⟨#[]⟩, .slice none 0 0] (l.length * 3)) t)) w.heap.size l 0 := by
  refine ⟨by simp, fun i hi => absurd hi (by omega), fun i _ hi => ⟨?_, ?_, ?_⟩, fun o => World.frozen?_alloc_at _ _ _ _ rfl⟩
  · have := madeCells_get #[.string ⟨#[]⟩, .string ⟨#[]⟩, .slice none 0 0] (l.length * 3) (i * 3) (by omega)
    simp at this
    simp [this]
  · have := madeCells_get #[.string ⟨#[]⟩, .string ⟨#[]⟩, .slice none 0 0] (l.length * 3) (i * 3 + 1) (by omega)
    have e : (i * 3 + 1) % 3 = 1 := by omega
    simp [e] at this
    simp [this]
  · have := madeCells_get #[.string ⟨#[]⟩, .string ⟨#[]⟩, .slice none 0 0] (l.length * 3) (i * 3 + 2) (by omega)
    have e : (i * 3 + 2) % 3 = 2 := by omega
    simp [e] at this
    simp [this]
def lenPs (l : List PD) : Prop := ∀ i, i < l.length → (partAt l i).cls.length ≤ 1048576
set_option maxHeartbeats 4000000 in
theorem eqPartS_any (w : World) (a1 a2 : Option Addr) (c1 c2 : Nat) (l : List PD) (hl : l.length ≤ 1048576) (hla : lenPs l) (h1 : Parts w a1 l) (h2 : Parts w a2 l) :
    Calls Tryd.prog 14 #[.slice a1 l.length c1, .slice a2 l.length c2] w fun e w' => e = .returned (.bool true) ∧ Nw w w' := by
  have H1 : Hid (Parts w a1 l) := h1
  have H2 : Hid (Parts w a2 l) := h2
  have HLA : Hid (lenPs l) := hla
  clear h1 h2 hla
  go_enter Tryd.func14, Tryd.ntmps14
  go_wp2
  go_loopw [5] (fun i wr => ∃ k : Nat, k ≤ l.length ∧ i = .int .i64 k ∧ Nw w wr) (fun i _ => l.length - (intOf i).toNat)
  case atStart => exact ⟨0, Nat.zero_le _, rfl, Below.refl _ _⟩
  case round =>
    obtain ⟨k, hk, rfl, hw⟩ := hrel
    by_cases hlt : k < l.length
    · rcases (H1.out.nw hw) with h | ⟨b1, o1, rfl, hb1, hc1⟩
      · rw [h] at hlt; simp at hlt
      rcases (H2.out.nw hw) with h | ⟨b2, o2, rfl, hb2, hc2⟩
      · rw [h] at hlt; simp at hlt
      obtain ⟨q0, q1, ⟨qa, qc, q2, qcap, q4⟩⟩ := hc1 k hlt
      obtain ⟨r0, r1, ⟨ra, rc, r2, rcap, r4⟩⟩ := hc2 k hlt
      have hlk := HLA.out k hlt
      have Q4 : Hid (Strs wr.drew qa (partAt l k).cls) := q4.nw ((Below.refl _ _).drew)
      have R4 : Hid (Strs wr.drew ra (partAt l k).cls) := r4.nw ((Below.refl _ _).drew)
      clear hc1 hc2 H1 H2 q4 r4
      have HW : Hid (Nw w wr) := hw
      clear hw
      go_wp2
      go_region_with (go_at_call 35; refine Calls.mono (eqPart_any _ (partAt l k) qa ra qc rc hlk Q4.out R4.out) ?_; rintro e w' ⟨rfl, k1⟩)
      all_goals
        go_wp2
        go_roundw
        case rel => exact ⟨k + 1, by omega, by go_num, HW.out.trans k1.drw⟩
        case measure => simp [intOf]; omega
    · have HW : Hid (Nw w wr) := hw
      clear hw
      go_wp2
      go_ret
      exact ⟨rfl, HW.out⟩
end Go.Proofs.YtnkmdmmlpidcmaaDoor
namespace Go.Proofs.YtnkmdmmlpidcmaaDoor
open Go.ChangeShapes Go.WideShapes Go.ChangeAt Go.RowKit
set_option linter.unusedVariables false

def EStr : Els ByteArray := fun _ cs x _ => cs = [.string x]
theorem EStr.kept : KeptE EStr := fun w w' cs x F G h _ _ => h
def EPart : Els PD := fun w cs p F => ∃ u, cs = [.string p.ty, .string p.id, u] ∧ RowM 1 EStr w u p.cls F
theorem EPart.kept : KeptE EPart := fun w w' cs x F G ⟨u, h1, h2⟩ k d => ⟨u, h1, h2.kept EStr.kept k d⟩
theorem el_at {α : Type} {els : List (El α)} {xs : List α} (h : els.map El.x = xs) (i : Nat) (hi : i < xs.length) (d : α) : ∃ e, els[i]? = some e ∧ e.x = xs.getD i d := by
  subst h
  rw [List.length_map] at hi
  refine ⟨els[i], List.getElem?_eq_getElem hi, ?_⟩
  simp [hi]
theorem RowM.lay {w : World} {v : Value} {l : List ByteArray} {F : Nat → Prop} (h : RowM 1 EStr w v l F) : (v = .slice none 0 0 ∧ l = []) ∨ ∃ g c, v = .slice (some ⟨g, 0, none⟩) l.length c ∧ l.length ≤ c ∧ F g ∧ LayS w g l l.length := by
  rcases h with h | ⟨g, c, els, h1, h2, h3, h4⟩
  · exact Or.inl h
  · refine Or.inr ⟨g, c, h1, h2, h4.inF, h4.lt, fun i hi => ?_, fun i a b => absurd b (by omega), h4.fz⟩
    obtain ⟨e, he, hx⟩ := el_at h3 i hi ⟨#[]⟩
    have hc := (h4.el e (List.mem_of_getElem? he)).1
    have := h4.cell i e he 0 (.string e.x) (by rw [hc]; rfl)
    rw [hx] at this
    simpa [strAt] using this
theorem RowM.ofLay {w : World} {g c : Nat} {l : List ByteArray} {F : Nat → Prop} (h : LayS w g l l.length) (hF : F g) (hc : l.length ≤ c) : RowM 1 EStr w (.slice (some ⟨g, 0, none⟩) l.length c) l F := by
  refine Or.inr ⟨g, c, l.map fun s => ⟨s, [.string s], fun _ => False⟩, rfl, hc, by rw [List.map_map]; exact List.map_id l, h.1, h.2.2.2, hF, fun i e hi j u hj => ?_, fun e he => ?_, ?_⟩
  · rw [List.getElem?_map, Option.map_eq_some_iff] at hi
    obtain ⟨s, hs, rfl⟩ := hi
    have hi' := (List.getElem?_eq_some_iff.1 hs).1
    have hv := (List.getElem?_eq_some_iff.1 hs).2
    cases j with
    | zero =>
      simp at hj
      subst hj
      have := h.2.1 i hi'
      rw [Nat.mul_one, Nat.add_zero, this]
      simp [strAt, hi', hv]
    | succ j => simp at hj
  · obtain ⟨s, _, rfl⟩ := List.mem_map.1 he
    exact ⟨rfl, rfl, (fun b hb => hb.elim)⟩
  · rw [List.pairwise_iff_getElem]
    intro i j hi hj _ b hb
    simp at hb
theorem RowM.strs {w : World} {v : Value} {l : List ByteArray} {F : Nat → Prop} (h : RowM 1 EStr w v l F) : ∃ a c, v = .slice a l.length c ∧ l.length ≤ c ∧ Strs w a l := by
  rcases h.lay with ⟨h1, h2⟩ | ⟨g, c, h1, h2, _, h3⟩
  · exact ⟨none, 0, by rw [h2]; exact h1, by rw [h2]; exact Nat.le_refl _, Or.inl h2⟩
  · exact ⟨_, c, h1, h2, h3.strs⟩
theorem RowM.parts {w : World} {v : Value} {l : List PD} {F : Nat → Prop} (h : RowM 3 EPart w v l F) : ∃ a c, v = .slice a l.length c ∧ l.length ≤ c ∧ Parts w a l := by
  rcases h with ⟨h1, h2⟩ | ⟨g, c, els, h1, h2, h3, h4⟩
  · exact ⟨none, 0, by rw [h2]; exact h1, by rw [h2]; exact Nat.le_refl _, Or.inl h2⟩
  · refine ⟨_, c, h1, h2, Or.inr ⟨g, 0, rfl, h4.lt, fun i hi => ?_⟩⟩
    obtain ⟨e, he, hx⟩ := el_at h3 i hi noPD
    obtain ⟨u, hc, hu⟩ := (h4.el e (List.mem_of_getElem? he)).1
    have c0 := h4.cell i e he 0 (.string e.x.ty) (by rw [hc]; rfl)
    have c1 := h4.cell i e he 1 (.string e.x.id) (by rw [hc]; rfl)
    have c2 := h4.cell i e he 2 u (by rw [hc]; rfl)
    have hp : partAt l i = e.x := hx.symm
    rw [hp]
    obtain ⟨a, c', hv, hcap, hs⟩ := hu.strs
    rw [hv] at c2
    exact ⟨by simpa using c0, by simpa using c1, a, c', by simpa using c2, hcap, hs⟩
theorem RowM.ofTxs {w : World} {B : Nat} {v : Value} {l : List ByteArray} (h : Txs w B v l) {F : Nat → Prop} (hF : ∀ b, B ≤ b → b < w.heap.size → F b) : RowM 1 EStr w v l F := by
  rcases h.2 with ⟨hn, h0⟩ | ⟨g, cap, cur, h1, h2, h3, h4, _⟩
  · exact Or.inl ⟨hn, List.eq_nil_of_length_eq_zero h0⟩
  · rcases h.lay with ⟨hv, _⟩ | ⟨g2, c2, e2, hg2, hl⟩
    · rw [h1] at hv; cases hv
    · rw [h1] at e2
      injection e2 with e3 e4 e5
      injection e3 with e3
      injection e3 with e3
      subst e3 e5
      subst h1
      exact RowM.ofLay hl (hF g hg2 hl.1) h4
/-! ### Marks -/
def cntP (p : PD) : Nat := 2 + p.cls.length
def mkP (K : Nat) (p : PD) : PD := ⟨markT K, markT (K + 1), markL (K + 2) p.cls.length⟩
def mkPs : Nat → List PD → List PD
  | _, [] => []
  | K, p :: l => mkP K p :: mkPs (K + cntP p) l
def cntPs (l : List PD) : Nat := (l.map cntP).sum
theorem mkPs_len (l : List PD) : ∀ K, (mkPs K l).length = l.length := by
  induction l with
  | nil => intro K; rfl
  | cons p l ih => intro K; simp [mkPs, ih]
theorem mkPs_at (l : List PD) : ∀ K k, k < l.length → (mkPs K l)[k]? = some (mkP (K + cntPs (l.take k)) (partAt l k)) := by
  induction l with
  | nil => intro K k h; simp at h
  | cons p l ih =>
    intro K k h
    cases k with
    | zero => simp [mkPs, cntPs, partAt]
    | succ k =>
      have := ih (K + cntP p) k (by simpa using h)
      simp only [mkPs, List.getElem?_cons_succ, this]
      simp [cntPs, partAt, Nat.add_assoc]
theorem cntPs_step (l : List PD) (k : Nat) (h : k < l.length) : cntPs (l.take (k + 1)) = cntPs (l.take k) + cntP (partAt l k) := by
  unfold cntPs partAt
  rw [List.take_succ_eq_append_getElem h, List.map_append, List.sum_append]
  simp [h]
theorem cntPs_le (l : List PD) (k : Nat) : cntPs (l.take k) ≤ cntPs l := by
  unfold cntPs
  conv => rhs; rw [← List.take_append_drop k l, List.map_append, List.sum_append]
  omega
theorem cntPs_len (l : List PD) : l.length ≤ cntPs l := by
  unfold cntPs
  induction l with
  | nil => simp
  | cons p l ih => simp [cntP]; omega
theorem markSt_any (w : World) (v : Value) (K : Nat) (l : List ByteArray) (F : Nat → Prop) (hl : l.length ≤ 1048576) (hK : 1 ≤ K) (hK2 : K ≤ 50000000) (h : RowM 1 EStr w v l F) :
    Calls Tryd.prog 36 #[v, .int .i64 (K : Int)] w fun e w' => e = .returned (.int .i64 ((K + l.length : Nat) : Int)) ∧ Wr F w w' ∧ RowM 1 EStr w' v (markL K l.length) F := by
  rcases h.lay with ⟨rfl, rfl⟩ | ⟨g, c, rfl, hc, hF, hl2⟩
  · clear h
    go_enter Tryd.func36, Tryd.ntmps36
    go_wp2
    go_loopw [1, 5] (fun x i wr => x = .int .i64 (K : Int) ∧ i = .int .i64 0 ∧ wr = w) (fun _ _ _ => 0)
    case atStart => exact ⟨rfl, rfl, rfl⟩
    case round =>
      obtain ⟨rfl, rfl, rfl⟩ := hrel
      go_wp2
      go_ret
      exact ⟨rfl, Wr.refl _ _, Or.inl ⟨rfl, rfl⟩⟩
  · refine (markS_any w g c K l hl hK hK2 hl2).mono ?_
    rintro e w' ⟨rfl, k1, k2⟩
    refine ⟨rfl, Wr.grown k1 hF, ?_⟩
    have := RowM.ofLay (c := c) (F := F) (w := w') (g := g) (l := markL K l.length) (by rw [markL_len]; exact k2) hF (by rw [markL_len]; exact hc)
    rw [markL_len] at this
    exact this
theorem heldSt_any (w : World) (v : Value) (K n : Nat) (F : Nat → Prop) (hl : n ≤ 1048576) (hK : 1 ≤ K) (hK2 : K ≤ 50000000) (h : RowM 1 EStr w v (markL K n) F) :
    Calls Tryd.prog 37 #[v, .int .i64 (K : Int)] w fun e w' => e = .returned (.int .i64 ((K + n : Nat) : Int)) ∧ Nw w w' := by
  rcases h.lay with ⟨rfl, h0⟩ | ⟨g, c, rfl, hc, hF, hl2⟩
  · have hn : n = 0 := by have := congrArg List.length h0; rw [markL_len] at this; exact this
    subst hn
    clear h h0
    go_enter Tryd.func37, Tryd.ntmps37
    go_wp2
    go_loopw [1, 5] (fun x i wr => x = .int .i64 (K : Int) ∧ i = .int .i64 0 ∧ wr = w) (fun _ _ _ => 0)
    case atStart => exact ⟨rfl, rfl, rfl⟩
    case round =>
      obtain ⟨rfl, rfl, rfl⟩ := hrel
      go_wp2
      go_ret
      exact ⟨rfl, Below.refl _ _⟩
  · rw [markL_len] at *
    exact heldS_any w g c K n hl hK hK2 hl2
end Go.Proofs.YtnkmdmmlpidcmaaDoor
namespace Go.Proofs.YtnkmdmmlpidcmaaDoor
open Go.ChangeShapes Go.WideShapes Go.ChangeAt Go.RowKit
set_option linter.unusedVariables false

theorem set_far {w : World} {g i j : Nat} {u : Value} (h : i ≠ j) : (w.setCell ⟨g, i, none⟩ u).cell? ⟨g, j, none⟩ = w.cell? ⟨g, j, none⟩ := World.cell?_setCell_other _ _ _ _ (fun e => by injection e; omega)
set_option maxHeartbeats 4000000 in
theorem markPt_any (w : World) (v : Value) (K : Nat) (l : List PD) (F : Nat → Prop) (hK : 1 ≤ K) (hK2 : K + cntPs l ≤ 1000000) (h : RowM 3 EPart w v l F) :
    Calls Tryd.prog 15 #[v, .int .i64 (K : Int)] w fun e w' => e = .returned (.int .i64 ((K + cntPs l : Nat) : Int)) ∧ Wr F w w' ∧ RowM 3 EPart w' v (mkPs K l) F := by
  rcases h with ⟨rfl, rfl⟩ | ⟨g, c, els, rfl, hc, hx, hA⟩
  · go_enter Tryd.func15, Tryd.ntmps15
    go_wp2
    go_loopw [1, 5] (fun x i wr => x = .int .i64 (K : Int) ∧ i = .int .i64 0 ∧ wr = w) (fun _ _ _ => 0)
    case atStart => exact ⟨rfl, rfl, rfl⟩
    case round =>
      obtain ⟨rfl, rfl, rfl⟩ := hrel
      go_wp2
      go_ret
      exact ⟨rfl, Wr.refl _ _, Or.inl ⟨rfl, rfl⟩⟩
  · have HA : Hid (RowA 3 EPart w g els F) := hA
    have HX : Hid (els.map El.x = l) := hx
    have hl := cntPs_len l
    clear hA hx
    have HC : Hid (l.length ≤ c) := hc
    go_enter Tryd.func15, Tryd.ntmps15
    go_wp2
    go_loopw [1, 5] (fun x i wr => ∃ (j : Nat) (es : List (El PD)), j ≤ l.length ∧ i = .int .i64 j ∧ x = .int .i64 ((K + cntPs (l.take j) : Nat) : Int) ∧ Wr F w wr ∧ es.map El.x = (mkPs K l).take j ++ l.drop j ∧ RowA 3 EPart wr g es F) (fun _ i _ => l.length - (intOf i).toNat)
    case atStart => exact ⟨0, els, Nat.zero_le _, rfl, rfl, Wr.refl _ _, HX.out, HA.out⟩
    case round =>
      obtain ⟨j, es, hj, rfl, rfl, hw, he, hA⟩ := hrel
      have HW : Hid (Wr F w wr) := hw
      have HE : Hid (es.map El.x = (mkPs K l).take j ++ l.drop j) := he
      by_cases hlt : j < l.length
      · obtain ⟨e, hje, hex⟩ := el_at he j (by rw [List.length_append, List.length_take, List.length_drop, mkPs_len]; omega) noPD
        have hex2 : e.x = partAt l j := by
          rw [hex]
          show ((mkPs K l).take j ++ l.drop j).getD j noPD = l.getD j noPD
          rw [List.getD_eq_getElem?_getD, marked_at _ _ _ (mkPs_len l K) hlt, ← List.getD_eq_getElem?_getD]
        obtain ⟨⟨u, hcs, hu⟩, hlen, hFe⟩ := hA.el e (List.mem_of_getElem? hje)
        have c0 := hA.cell j e hje 0 (.string e.x.ty) (by rw [hcs]; rfl)
        have c1 := hA.cell j e hje 1 (.string e.x.id) (by rw [hcs]; rfl)
        have c2 := hA.cell j e hje 2 u (by rw [hcs]; rfl)
        have hst := cntPs_step l j hlt
        have hle := cntPs_le l (j + 1)
        have HMK : Hid _ := mkPs_at l K j hlt
        have hg := hA.lt
        have hfz := hA.fz
        rw [hex2] at hu c0 c1
        rw [Nat.add_zero] at c0
        have HU : Hid (RowM 1 EStr wr u (partAt l j).cls e.F) := hu
        have HRA : Hid (RowA 3 EPart wr g es F) := hA
        have HJE : Hid (es[j]? = some e) := hje
        have HFE : Hid (∀ b, e.F b → F b ∧ b ≠ g) := hFe
        have HIF : Hid (F g) := hA.inF
        obtain ⟨ua, uc, hue, _⟩ := hu.slice
        subst hue
        have hcn : cntP (partAt l j) = 2 + (partAt l j).cls.length := rfl
        rw [hcn] at hst
        rw [hst] at hle
        have HST : Hid (cntPs (l.take (j + 1)) = cntPs (l.take j) + (2 + (partAt l j).cls.length)) := hst
        have HSM : Hid _ := fun x hx => set_marked (mkPs K l) l j x (mkPs_len l K) hlt hx
        clear hst hcn hu hA hje hFe hex hex2 hcs hlen he hw
        generalize partAt l j = p at *
        generalize cntPs (l.take j) = C at *
        go_wp2_with fail
        refine Calls.mono (markText_any _ (K + C) (by omega) (by omega)) ?_
        rintro e1 w1 ⟨rfl, k1⟩
        have hg1 : g < w1.heap.size := Nat.lt_of_lt_of_le hg (Below.size k1)
        have d0 := ((bcell k1).1 _ (j * 3) hg).trans c0
        have d1 := ((bcell k1).1 _ (j * 3 + 1) hg).trans c1
        have d2 := ((bcell k1).1 _ (j * 3 + 2) hg).trans c2
        have df : ∀ o, w1.frozen? ⟨g, o, none⟩ = false := fun o => ((bcell k1).2 _ o hg).trans (hfz o)
        have HK1 : Hid (Nw wr w1) := k1
        clear k1 c0 c1 c2
        go_wp2_with fail
        refine Calls.mono (markText_any _ (K + C + 1) (by omega) (by omega)) ?_
        rintro e2 w2 ⟨rfl, k2⟩
        have hgS : g < (w1.setCell ⟨g, j * 3, none⟩ (.string (markT (K + C)))).heap.size := by simpa [World.setCell] using hg1
        have hg2 : g < w2.heap.size := Nat.lt_of_lt_of_le hgS (Below.size k2)
        have f0 := ((bcell k2).1 _ (j * 3) hgS).trans (World.cell?_setCell_same w1 ⟨g, j * 3, none⟩ _ d0)
        have f1 := ((bcell k2).1 _ (j * 3 + 1) hgS).trans ((set_far (by omega)).trans d1)
        have f2 := ((bcell k2).1 _ (j * 3 + 2) hgS).trans ((set_far (by omega)).trans d2)
        have ff : ∀ o, w2.frozen? ⟨g, o, none⟩ = false := fun o => ((bcell k2).2 _ o hgS).trans (by rw [World.frozen?_setCell]; exact df o)
        have HK2 : Hid (Nw (w1.setCell ⟨g, j * 3, none⟩ (.string (markT (K + C)))) w2) := k2
        clear k2 d0 d1 d2 df
        go_wp2_with fail
        have HU1 : Hid (RowM 1 EStr (w2.setCell ⟨g, j * 3 + 1, none⟩ (.string (markT (K + C + 1)))) (.slice ua p.cls.length uc) p.cls e.F) := by
          have a1 := HU.out.nw EStr.kept HK1.out
          have a2 := a1.kept EStr.kept (Wr.set (F := fun b => b = g) (Wr.refl _ _) rfl (j * 3) (.string (markT (K + C)))) (fun b hb => (HFE.out b hb).2)
          have a3 := a2.nw EStr.kept HK2.out
          exact a3.kept EStr.kept (Wr.set (F := fun b => b = g) (Wr.refl _ _) rfl (j * 3 + 1) (.string (markT (K + C + 1)))) (fun b hb => (HFE.out b hb).2)
        refine Calls.mono (markSt_any _ (.slice ua p.cls.length uc) (K + C + 2) p.cls e.F (by omega) (by omega) (by omega) HU1.out) ?_
        rintro e3 w3 ⟨rfl, k3, m3⟩
        have HWR : Hid (Wr (fun b => b = g ∨ e.F b) wr w3) := by
          have b1 : Wr (fun b => b = g ∨ e.F b) wr w1 := Wr.nw HK1.out
          have b2 := b1.set (Or.inl rfl) (j * 3) (.string (markT (K + C)))
          have b3 := b2.trans (Wr.nw HK2.out)
          have b4 := b3.set (Or.inl rfl) (j * 3 + 1) (.string (markT (K + C + 1)))
          exact b4.trans (k3.mono (fun b hb => Or.inr hb))
        have hgS2 : g < (w2.setCell ⟨g, j * 3 + 1, none⟩ (.string (markT (K + C + 1)))).heap.size := by simpa [World.setCell] using hg2
        have hblk := k3.block g hgS2 (fun hb => (HFE.out g hb).2 rfl)
        have cc : ∀ o, w3.cell? ⟨g, o, none⟩ = (w2.setCell ⟨g, j * 3 + 1, none⟩ (.string (markT (K + C + 1)))).cell? ⟨g, o, none⟩ := fun o => World.cell?_of_block (w := (w2.setCell ⟨g, j * 3 + 1, none⟩ (.string (markT (K + C + 1))))) (a := ⟨g, o, none⟩) hblk
        have HNX : Hid (RowA 3 EPart w3 g (es.set j ⟨mkP (K + C) p, [.string (markT (K + C)), .string (markT (K + C + 1)), .slice ua p.cls.length uc], e.F⟩) F) := by
          refine HRA.out.step EPart.kept j e _ _ HJE.out rfl HWR.out (fun o => ?_) (fun i y hi => ?_) (fun i m him hm => ?_) ⟨_, rfl, ?_⟩
          · rw [World.frozen?_of_block (w := (w2.setCell ⟨g, j * 3 + 1, none⟩ (.string (markT (K + C + 1))))) (a := ⟨g, o, none⟩) hblk, World.frozen?_setCell]
            exact ff o
          · rw [cc]
            rcases (show i = 0 ∨ i = 1 ∨ i = 2 ∨ 3 ≤ i by omega) with rfl | rfl | rfl | h
            · simp at hi; subst hi; rw [set_far (by omega), Nat.add_zero]; exact f0
            · simp at hi; subst hi; exact World.cell?_setCell_same w2 ⟨g, j * 3 + 1, none⟩ _ f1
            · simp at hi; subst hi; rw [set_far (by omega)]; exact f2
            · rw [List.getElem?_eq_none (by simpa using h)] at hi; cases hi
          · rw [cc, set_far (by omega), (bcell HK2.out).1 _ _ hgS, set_far (by omega), (bcell HK1.out).1 _ _ hg]
          · exact m3
        have HW3 : Hid (Wr F w w3) := HW.out.trans (HWR.out.mono (fun b hb => by
          rcases hb with rfl | hb
          · exact HIF.out
          · exact (HFE.out b hb).1))
        clear m3 hblk cc k3 f0 f1 f2 ff
        go_wp2
        go_roundw
        case rel =>
          refine ⟨j + 1, _, by omega, by go_num, by rw [HST.out]; go_num, HW3.out, ?_, HNX.out⟩
          rw [List.map_set, HE.out, HSM.out _ HMK.out]
        case measure => simp [intOf]; omega
      · have e : j = l.length := by omega
        subst e
        rw [List.take_length] at *
        have HRA : Hid (RowA 3 EPart wr g es F) := hA
        have HE2 : Hid (es.map El.x = mkPs K l) := by
          show _ = _
          rw [he, ← mkPs_len l K, List.take_length]
          rw [mkPs_len, List.drop_length, List.append_nil]
        have HLN : Hid ((mkPs K l).length = l.length) := mkPs_len l K
        clear hA he hw
        go_wp2
        go_ret
        refine ⟨rfl, HW.out, Or.inr ⟨g, c, es, ?_, ?_, HE2.out, HRA.out⟩⟩
        · rw [HLN.out]
        · rw [HLN.out]; exact HC.out
end Go.Proofs.YtnkmdmmlpidcmaaDoor
