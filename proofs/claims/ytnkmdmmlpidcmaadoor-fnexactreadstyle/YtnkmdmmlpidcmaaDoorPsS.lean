/-
  Rows of parts: what the laws' helpers that measure them, copy them and hold two against each other do; each theorem names its conditions.
-/
import Derived.Test.YtnkmdmmlpidcmaaDoorPs
namespace Go.Proofs.YtnkmdmmlpidcmaaDoor
open Go.ChangeShapes Go.WideShapes Go.ChangeAt Go.RowKit
set_option linter.unusedVariables false

def noPD : PD := ⟨⟨#[]⟩, ⟨#[]⟩, []⟩
def partAt (l : List PD) (i : Nat) : PD := l.getD i noPD
/-- The parts l lie at a. -/
def Parts (w : World) (a : Option Addr) (l : List PD) : Prop :=
  l = [] ∨ ∃ b off, a = some ⟨b, off, none⟩ ∧ b < w.heap.size ∧ ∀ i, i < l.length → w.cell? ⟨b, off + i * 3, none⟩ = some (.string (partAt l i).ty) ∧ w.cell? ⟨b, off + i * 3 + 1, none⟩ = some (.string (partAt l i).id) ∧
    (∃ aa c, w.cell? ⟨b, off + i * 3 + 2, none⟩ = some (.slice aa (partAt l i).cls.length c) ∧ (partAt l i).cls.length ≤ c ∧ Strs w aa (partAt l i).cls)
theorem Parts.nw {w w' : World} {a : Option Addr} {l : List PD} (h : Parts w a l) (k : Nw w w') : Parts w' a l := by
  rcases h with h | ⟨b, off, rfl, hb, hc⟩
  · exact Or.inl h
  · refine Or.inr ⟨b, off, rfl, Nat.lt_of_lt_of_le hb (Below.size k), fun i hi => ?_⟩
    obtain ⟨h0, h1, ⟨aa, c, h2, hcap, h3⟩⟩ := hc i hi
    exact ⟨((bcell k).1 _ _ hb).trans h0, ((bcell k).1 _ _ hb).trans h1, ⟨aa, c, ((bcell k).1 _ _ hb).trans h2, hcap, h3.nw k⟩⟩

def bulkPs (l : List PD) : Nat := (l.map bulkP).sum
theorem bulkPs_step (l : List PD) (k : Nat) (h : k < l.length) : bulkPs (l.take (k + 1)) = bulkPs (l.take k) + bulkP (partAt l k) := by
  unfold bulkPs partAt
  have e : l.getD k noPD = l[k] := by simp [h]
  rw [List.take_succ_eq_append_getElem h, List.map_append, List.sum_append, e]
  simp only [List.map_cons, List.map_nil, List.sum_cons, List.sum_nil]
  omega
theorem bulkPs_le (l : List PD) (k : Nat) : bulkPs (l.take k) ≤ bulkPs l := by
  unfold bulkPs
  conv => rhs; rw [← List.take_append_drop k l]
  rw [List.map_append, List.sum_append]
  omega
def szPs (l : List PD) (left : Int) : Int := if ((l.length + bulkPs l : Nat) : Int) ≤ left then left - ((l.length + bulkPs l : Nat) : Int) else -1
def okPDs (l : List PD) : Prop := ∀ i, i < l.length → okPD (partAt l i)
/-- A new row of which the first k parts have been laid. -/
def LayPs (w : World) (g : Nat) (l : List PD) (k : Nat) : Prop :=
  g < w.heap.size ∧ (∀ i, i < k → w.cell? ⟨g, i * 3, none⟩ = some (.string (partAt l i).ty) ∧ w.cell? ⟨g, i * 3 + 1, none⟩ = some (.string (partAt l i).id) ∧
      (∃ ga, g < ga ∧ w.cell? ⟨g, i * 3 + 2, none⟩ = some (.slice (some ⟨ga, 0, none⟩) (partAt l i).cls.length (partAt l i).cls.length) ∧ LayS w ga (partAt l i).cls (partAt l i).cls.length)) ∧
    (∀ i, k ≤ i → i < l.length → w.cell? ⟨g, i * 3, none⟩ = some (.string ⟨#[]⟩) ∧ w.cell? ⟨g, i * 3 + 1, none⟩ = some (.string ⟨#[]⟩) ∧ w.cell? ⟨g, i * 3 + 2, none⟩ = some (.slice none 0 0)) ∧ ∀ o, w.frozen? ⟨g, o, none⟩ = false
theorem LayPs.nw {w w' : World} {g k : Nat} {l : List PD} (h : LayPs w g l k) (q : Nw w w') : LayPs w' g l k := by
  have C := fun o => (bcell q).1 g o h.1
  refine ⟨Nat.lt_of_lt_of_le h.1 (Below.size q), fun i hi => ?_, fun i hi hj => ?_, fun o => ((bcell q).2 g o h.1).trans (h.2.2.2 o)⟩
  · obtain ⟨h0, h1, ⟨ga, hg, h2, h3⟩⟩ := h.2.1 i hi
    exact ⟨(C _).trans h0, (C _).trans h1, ⟨ga, hg, (C _).trans h2, h3.nw q⟩⟩
  · obtain ⟨h0, h1, h2⟩ := h.2.2.1 i hi hj
    exact ⟨(C _).trans h0, (C _).trans h1, (C _).trans h2⟩
theorem LayPs.parts {w : World} {g : Nat} {l : List PD} (h : LayPs w g l l.length) : Parts w (some ⟨g, 0, none⟩) l := by
  refine Or.inr ⟨g, 0, rfl, h.1, fun i hi => ?_⟩
  obtain ⟨h0, h1, ⟨ga, hg, h2, h3⟩⟩ := h.2.1 i hi
  refine ⟨by simpa using h0, by simpa using h1, ⟨some ⟨ga, 0, none⟩, (partAt l i).cls.length, by simpa using h2, Nat.le_refl _, h3.strs⟩⟩
theorem LayPs.step {w w' : World} {g k ga : Nat} {l : List PD} (h : LayPs w g l k) (q : Nw w w') (hk : k < l.length) (hg : w.heap.size ≤ ga) (hp : LayS w' ga (partAt l k).cls (partAt l k).cls.length) :
    LayPs (((w'.setCell ⟨g, k * 3, none⟩ (.string (partAt l k).ty)).setCell ⟨g, k * 3 + 1, none⟩ (.string (partAt l k).id)).setCell ⟨g, k * 3 + 2, none⟩ (.slice (some ⟨ga, 0, none⟩) (partAt l k).cls.length (partAt l k).cls.length)) g l (k + 1) := by
  have hga : g < ga := Nat.lt_of_lt_of_le h.1 hg
  have h' := h.nw q
  obtain ⟨z0, z1, z2⟩ := h'.2.2.1 k (Nat.le_refl _) hk
  have far : ∀ o, o ≠ k * 3 → o ≠ k * 3 + 1 → o ≠ k * 3 + 2 → (((w'.setCell ⟨g, k * 3, none⟩ (.string (partAt l k).ty)).setCell ⟨g, k * 3 + 1, none⟩ (.string (partAt l k).id)).setCell ⟨g, k * 3 + 2, none⟩ (.slice (some ⟨ga, 0, none⟩) (partAt l k).cls.length (partAt l k).cls.length)).cell? ⟨g, o, none⟩ = w'.cell? ⟨g, o, none⟩ := by
    intro o a b c
    rw [World.cell?_setCell_other _ _ _ _ (fun h => by injection h; omega), World.cell?_setCell_other _ _ _ _ (fun h => by injection h; omega), World.cell?_setCell_other _ _ _ _ (fun h => by injection h; omega)]
  refine ⟨by simpa [World.setCell] using h'.1, fun m hm => ?_, fun m hm1 hm2 => ?_, fun o => ?_⟩
  · by_cases e : m = k
    · subst e
      refine ⟨?_, ?_, ⟨ga, hga, ?_, ((hp.off _ _ _ (by omega)).off _ _ _ (by omega)).off _ _ _ (by omega)⟩⟩
      · rw [World.cell?_setCell_other _ _ _ _ (fun h => by injection h; omega), World.cell?_setCell_other _ _ _ _ (fun h => by injection h; omega)]
        exact World.cell?_setCell_same w' ⟨g, m * 3, none⟩ _ z0
      · rw [World.cell?_setCell_other _ _ _ _ (fun h => by injection h; omega)]
        exact World.cell?_setCell_same _ ⟨g, m * 3 + 1, none⟩ _ ((World.cell?_setCell_other _ _ _ _ (fun h => by injection h; omega)).trans z1)
      · exact World.cell?_setCell_same _ ⟨g, m * 3 + 2, none⟩ _ ((World.cell?_setCell_other _ _ _ _ (fun h => by injection h; omega)).trans ((World.cell?_setCell_other _ _ _ _ (fun h => by injection h; omega)).trans z2))
    · obtain ⟨h0, h1, ⟨gb, hgb, h2, h3⟩⟩ := h'.2.1 m (by omega)
      refine ⟨by rw [far _ (by omega) (by omega) (by omega)]; exact h0, by rw [far _ (by omega) (by omega) (by omega)]; exact h1, ⟨gb, hgb, by rw [far _ (by omega) (by omega) (by omega)]; exact h2, ((h3.off _ _ _ (by omega)).off _ _ _ (by omega)).off _ _ _ (by omega)⟩⟩
  · rw [far _ (by omega) (by omega) (by omega), far _ (by omega) (by omega) (by omega), far _ (by omega) (by omega) (by omega)]
    exact h'.2.2.1 m (by omega) hm2
  · rw [World.frozen?_setCell, World.frozen?_setCell, World.frozen?_setCell]; exact h'.2.2.2 o
theorem Tryd.info56 : (Tryd.prog.info? 56).map (fun i => (i.zero, i.size, i.bytes)) = some (some (.agg #[.string ⟨#[]⟩, .string ⟨#[]⟩, .slice none 0 0]), 3, 56) := by kernel_rfl
theorem LayPs.start (w : World) (l : List PD) (t : TypeId) : LayPs (w.alloc (.cells (madeCells #[.string ⟨#[]⟩, .string ⟨#[]⟩, .slice none 0 0] (l.length * 3)) t)) w.heap.size l 0 := by
  refine ⟨by simp, fun i hi => absurd hi (by omega), fun i _ hi => ⟨?_, ?_, ?_⟩, fun o => World.frozen?_alloc_at _ _ _ _ rfl⟩
  · have := madeCells_get #[.string ⟨#[]⟩, .string ⟨#[]⟩, .slice none 0 0] (l.length * 3) (i * 3) (by omega)
    simp at this
    simp [this]
  · have := madeCells_get #[.string ⟨#[]⟩, .string ⟨#[]⟩, .slice none 0 0] (l.length * 3) (i * 3 + 1) (by omega)
    have e : (i * 3 + 1) % 3 = 1 := by omega
    simp [e] at this
    simp [this]
  · have := madeCells_get #[.string ⟨#[]⟩, .string ⟨#[]⟩, .slice none 0 0] (l.length * 3) (i * 3 + 2) (by omega)
    have e : (i * 3 + 2) % 3 = 2 := by omega
    simp [e] at this
    simp [this]
def lenPs (l : List PD) : Prop := ∀ i, i < l.length → (partAt l i).cls.length ≤ 1048576
set_option maxHeartbeats 4000000 in
theorem eqPartS_any (w : World) (a1 a2 : Option Addr) (c1 c2 : Nat) (l : List PD) (hl : l.length ≤ 1048576) (hla : lenPs l) (h1 : Parts w a1 l) (h2 : Parts w a2 l) :
    Calls Tryd.prog 14 #[.slice a1 l.length c1, .slice a2 l.length c2] w fun e w' => e = .returned (.bool true) ∧ Nw w w' := by
  have H1 : Hid (Parts w a1 l) := h1
  have H2 : Hid (Parts w a2 l) := h2
  have HLA : Hid (lenPs l) := hla
  clear h1 h2 hla
  go_enter Tryd.func14, Tryd.ntmps14
  go_wp2
  go_loopw [5] (fun i wr => ∃ k : Nat, k ≤ l.length ∧ i = .int .i64 k ∧ Nw w wr) (fun i _ => l.length - (intOf i).toNat)
  case atStart => exact ⟨0, Nat.zero_le _, rfl, Below.refl _ _⟩
  case round =>
    obtain ⟨k, hk, rfl, hw⟩ := hrel
    by_cases hlt : k < l.length
    · rcases (H1.out.nw hw) with h | ⟨b1, o1, rfl, hb1, hc1⟩
      · rw [h] at hlt; simp at hlt
      rcases (H2.out.nw hw) with h | ⟨b2, o2, rfl, hb2, hc2⟩
      · rw [h] at hlt; simp at hlt
      obtain ⟨q0, q1, ⟨qa, qc, q2, qcap, q4⟩⟩ := hc1 k hlt
      obtain ⟨r0, r1, ⟨ra, rc, r2, rcap, r4⟩⟩ := hc2 k hlt
      have hlk := HLA.out k hlt
      have Q4 : Hid (Strs wr.drew qa (partAt l k).cls) := q4.nw ((Below.refl _ _).drew)
      have R4 : Hid (Strs wr.drew ra (partAt l k).cls) := r4.nw ((Below.refl _ _).drew)
      clear hc1 hc2 H1 H2 q4 r4
      have HW : Hid (Nw w wr) := hw
      clear hw
      go_wp2
      go_region_with (go_at_call 35; refine Calls.mono (eqPart_any _ (partAt l k) qa ra qc rc hlk Q4.out R4.out) ?_; rintro e w' ⟨rfl, k1⟩)
      all_goals
        go_wp2
        go_roundw
        case rel => exact ⟨k + 1, by omega, by go_num, HW.out.trans k1.drw⟩
        case measure => simp [intOf]; omega
    · have HW : Hid (Nw w wr) := hw
      clear hw
      go_wp2
      go_ret
      exact ⟨rfl, HW.out⟩
end Go.Proofs.YtnkmdmmlpidcmaaDoor
