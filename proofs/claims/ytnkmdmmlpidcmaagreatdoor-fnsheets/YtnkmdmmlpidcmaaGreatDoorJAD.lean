/-
  Parts of selectors and their classes in memory, and what the laws' helpers that measure them, copy them and hold two against each other do; each theorem names its conditions.
  Rows of parts: what the laws' helpers that measure them, copy them and hold two against each other do; each theorem names its conditions.
  Whether a number lies between two others, by the specification; no condition.
  Looks at a byte: letters and digits, the program's and the specification's; each theorem names its conditions.
-/
import Derived.Test.YtnkmdmmlpidcmaaGreatDoorJAB
import Derived.Test.YtnkmdmmlpidcmaaGreatDoorJAA
import Derived.Lib.SlicesS
namespace Go.Proofs.YtnkmdmmlpidcmaaGreatDoor
open Go.ChangeShapes Go.WideShapes Go.ChangeAt Go.RowKit
set_option linter.unusedVariables false

def strAt (l : List ByteArray) (i : Nat) : ByteArray := l.getD i ⟨#[]⟩
/-- The texts l lie at a. -/
def Strs (w : World) (a : Option Addr) (l : List ByteArray) : Prop :=
  l = [] ∨ ∃ b off, a = some ⟨b, off, none⟩ ∧ b < w.heap.size ∧ ∀ i, i < l.length → w.cell? ⟨b, off + i, none⟩ = some (.string (strAt l i))
theorem Strs.nw {w w' : World} {a : Option Addr} {l : List ByteArray} (h : Strs w a l) (k : Nw w w') : Strs w' a l := by
  rcases h with h | ⟨b, off, rfl, hb, hc⟩
  · exact Or.inl h
  · exact Or.inr ⟨b, off, rfl, Nat.lt_of_lt_of_le hb (Below.size k), fun i hi => (Below.cell k (p := ⟨b, off + i, none⟩) hb).trans (hc i hi)⟩
def bulk1 (l : List ByteArray) : Nat := (l.map fun p => p.size).sum
theorem bulk1_step (l : List ByteArray) (k : Nat) (h : k < l.length) : bulk1 (l.take (k + 1)) = bulk1 (l.take k) + (strAt l k).size := by
  unfold bulk1 strAt
  have e : l.getD k ⟨#[]⟩ = l[k] := by simp [h]
  rw [List.take_succ_eq_append_getElem h, List.map_append, List.sum_append, e]
  simp only [List.map_cons, List.map_nil, List.sum_cons, List.sum_nil]
  omega
theorem bulk1_le (l : List ByteArray) (k : Nat) : bulk1 (l.take k) ≤ bulk1 l := by
  unfold bulk1
  conv => rhs; rw [← List.take_append_drop k l]
  rw [List.map_append, List.sum_append]
  omega
def szS (l : List ByteArray) (left : Int) : Int := if ((l.length + bulk1 l : Nat) : Int) ≤ left then left - ((l.length + bulk1 l : Nat) : Int) else -1
def okStrs (l : List ByteArray) : Prop := ∀ i, i < l.length → (strAt l i).size ≤ maxLen
/-- A new list of which the first k texts have been laid. -/
def LayS (w : World) (g : Nat) (l : List ByteArray) (k : Nat) : Prop :=
  g < w.heap.size ∧ (∀ i, i < k → w.cell? ⟨g, i, none⟩ = some (.string (strAt l i))) ∧ (∀ i, k ≤ i → i < l.length → w.cell? ⟨g, i, none⟩ = some (.string ⟨#[]⟩)) ∧ ∀ o, w.frozen? ⟨g, o, none⟩ = false
theorem LayS.nw {w w' : World} {g k : Nat} {l : List ByteArray} (h : LayS w g l k) (q : Nw w w') : LayS w' g l k :=
  ⟨Nat.lt_of_lt_of_le h.1 (Below.size q), fun i hi => (Below.cell q (p := ⟨g, i, none⟩) h.1).trans (h.2.1 i hi), fun i hi hj => (Below.cell q (p := ⟨g, i, none⟩) h.1).trans (h.2.2.1 i hi hj), fun o => (Below.frozen q (p := ⟨g, o, none⟩) h.1).trans (h.2.2.2 o)⟩
theorem LayS.step {w : World} {g k : Nat} {l : List ByteArray} (h : LayS w g l k) (hk : k < l.length) : LayS (w.setCell ⟨g, k, none⟩ (.string (strAt l k))) g l (k + 1) := by
  obtain ⟨h2, h3, h4, h5⟩ := h
  have c0 := h4 k (Nat.le_refl _) hk
  have far : ∀ o, o ≠ k → (w.setCell ⟨g, k, none⟩ (.string (strAt l k))).cell? ⟨g, o, none⟩ = w.cell? ⟨g, o, none⟩ := by
    intro o a
    rw [World.cell?_setCell_other _ _ _ _ (fun h => by injection h; omega)]
  refine ⟨by simpa [World.setCell] using h2, fun m hm => ?_, fun m hm1 hm2 => ?_, fun o => ?_⟩
  · by_cases e : m = k
    · subst e
      exact World.cell?_setCell_same w ⟨g, m, none⟩ _ c0
    · rw [far _ (by omega)]; exact h3 m (by omega)
  · rw [far _ (by omega)]; exact h4 m (by omega) hm2
  · rw [World.frozen?_setCell]; exact h5 o
theorem LayS.off {w : World} {g k : Nat} {l : List ByteArray} (h : LayS w g l k) (b o : Nat) (v : Value) (hne : b ≠ g) : LayS (w.setCell ⟨b, o, none⟩ v) g l k := by
  have far : ∀ x, (w.setCell ⟨b, o, none⟩ v).cell? ⟨g, x, none⟩ = w.cell? ⟨g, x, none⟩ := fun x => World.cell?_setCell_other _ _ _ _ (fun h => by injection h; omega)
  refine ⟨by simpa [World.setCell] using h.1, fun m hm => ?_, fun m hm1 hm2 => ?_, fun x => ?_⟩
  · rw [far]; exact h.2.1 m hm
  · rw [far]; exact h.2.2.1 m hm1 hm2
  · rw [World.frozen?_setCell]; exact h.2.2.2 x
theorem LayS.strs {w : World} {g : Nat} {l : List ByteArray} (h : LayS w g l l.length) : Strs w (some ⟨g, 0, none⟩) l :=
  Or.inr ⟨g, 0, rfl, h.1, fun i hi => by simpa using h.2.1 i hi⟩
theorem Tryz.info9 : (Tryz.prog.info? 9).map (fun i => (i.zero, i.size, i.bytes)) = some (some (.string ⟨#[]⟩), 1, 16) := by kernel_rfl
theorem LayS.start (w : World) (l : List ByteArray) (t : TypeId) : LayS (w.alloc (.cells (madeCells #[.string ⟨#[]⟩] l.length) t)) w.heap.size l 0 := by
  refine ⟨by simp, fun i hi => absurd hi (by omega), fun i _ hi => ?_, fun o => World.frozen?_alloc_at _ _ _ _ rfl⟩
  have := madeCells_get #[.string ⟨#[]⟩] l.length i (by omega)
  have e : i % 1 = 0 := by omega
  simp [e] at this
  simp [this]
theorem eqStringS_any (w : World) (a1 a2 : Option Addr) (c1 c2 : Nat) (l : List ByteArray) (hl : l.length ≤ 1048576) (h1 : Strs w a1 l) (h2 : Strs w a2 l) :
    Calls Tryz.prog 177 #[.slice a1 l.length c1, .slice a2 l.length c2] w fun e w' => e = .returned (.bool true) ∧ Nw w w' := by
  have H1 : Hid (Strs w a1 l) := h1
  have H2 : Hid (Strs w a2 l) := h2
  clear h1 h2
  go_enter Tryz.func177, Tryz.ntmps177
  go_wp2
  go_loopw [5] (fun i wr => ∃ k : Nat, k ≤ l.length ∧ i = .int .i64 k ∧ Nw w wr) (fun i _ => l.length - (intOf i).toNat)
  case atStart => exact ⟨0, Nat.zero_le _, rfl, Below.refl _ _⟩
  case round =>
    obtain ⟨k, hk, rfl, hw⟩ := hrel
    by_cases hlt : k < l.length
    · rcases (H1.out.nw hw) with h | ⟨b1, o1, rfl, hb1, hc1⟩
      · rw [h] at hlt; simp at hlt
      rcases (H2.out.nw hw) with h | ⟨b2, o2, rfl, hb2, hc2⟩
      · rw [h] at hlt; simp at hlt
      have q0 := hc1 k hlt
      have r0 := hc2 k hlt
      clear hc1 hc2 H1 H2
      have HW : Hid (Nw w wr) := hw
      clear hw
      generalize strAt l k = s at *
      go_wp2
      first
        | (go_region_with fail
           all_goals
             go_wp2
             go_roundw
             case rel => exact ⟨k + 1, by omega, by go_num, HW.out.trans ((Below.refl _ _).drew)⟩
             case measure => simp [intOf]; omega)
        | (go_roundw
           case rel => exact ⟨k + 1, by omega, by go_num, HW.out⟩
           case measure => simp [intOf]; omega)
    · have HW : Hid (Nw w wr) := hw
      clear hw
      go_wp2
      go_ret
      exact ⟨rfl, HW.out⟩

/-- A part: its type, its id, its classes. -/
structure PD where
  ty : ByteArray
  id : ByteArray
  cls : List ByteArray
def partV (p : PD) (a : Option Addr) (c : Nat) : Value := .agg #[.string p.ty, .string p.id, .slice a p.cls.length c]
def bulkP (p : PD) : Nat := p.ty.size + p.id.size + (p.cls.length + bulk1 p.cls)
structure okPD (p : PD) : Prop where
  ty : p.ty.size ≤ maxLen
  id : p.id.size ≤ maxLen
  len : p.cls.length ≤ maxLen
  cls : okStrs p.cls

theorem eqPart_any (w : World) (n : PD) (a1 a2 : Option Addr) (c1 c2 : Nat) (hl : n.cls.length ≤ 1048576) (h1 : Strs w a1 n.cls) (h2 : Strs w a2 n.cls) :
    Calls Tryz.prog 158 #[partV n a1 c1, partV n a2 c2] w fun e w' => e = .returned (.bool true) ∧ Nw w w' := by
  obtain ⟨ty, id, cls⟩ := n
  unfold partV
  simp only at *
  have H1 : ∀ o1 o2, Hid (Strs ((w.alloc o1).alloc o2) a1 cls) := fun o1 o2 => h1.nw (((Below.refl _ _).alloc (Nat.le_refl _) _).alloc (by simp) _)
  have H2 : ∀ o1 o2, Hid (Strs ((w.alloc o1).alloc o2) a2 cls) := fun o1 o2 => h2.nw (((Below.refl _ _).alloc (Nat.le_refl _) _).alloc (by simp) _)
  clear h1 h2
  go_enter Tryz.func158, Tryz.ntmps158
  go_wp2_with (go_at_call 177; refine (eqStringS_any _ a1 a2 c1 c2 cls hl (H1 _ _).out (H2 _ _).out).mono ?_; rintro e w' ⟨rfl, k1⟩; obtain ⟨hc, hf⟩ := bcell k1)
  go_ret
  exact ⟨rfl, Below.trans (((Below.refl _ _).alloc (Nat.le_refl _) _).alloc (by simp) _) (Below.mono k1 (by simp; omega))⟩
end Go.Proofs.YtnkmdmmlpidcmaaGreatDoor
namespace Go.Proofs.YtnkmdmmlpidcmaaGreatDoor
open Go.ChangeShapes Go.WideShapes Go.ChangeAt Go.RowKit
set_option linter.unusedVariables false

def noPD : PD := ⟨⟨#[]⟩, ⟨#[]⟩, []⟩
def partAt (l : List PD) (i : Nat) : PD := l.getD i noPD
/-- The parts l lie at a. -/
def Parts (w : World) (a : Option Addr) (l : List PD) : Prop :=
  l = [] ∨ ∃ b off, a = some ⟨b, off, none⟩ ∧ b < w.heap.size ∧ ∀ i, i < l.length → w.cell? ⟨b, off + i * 3, none⟩ = some (.string (partAt l i).ty) ∧ w.cell? ⟨b, off + i * 3 + 1, none⟩ = some (.string (partAt l i).id) ∧
    (∃ aa c, w.cell? ⟨b, off + i * 3 + 2, none⟩ = some (.slice aa (partAt l i).cls.length c) ∧ (partAt l i).cls.length ≤ c ∧ Strs w aa (partAt l i).cls)
theorem Parts.nw {w w' : World} {a : Option Addr} {l : List PD} (h : Parts w a l) (k : Nw w w') : Parts w' a l := by
  rcases h with h | ⟨b, off, rfl, hb, hc⟩
  · exact Or.inl h
  · refine Or.inr ⟨b, off, rfl, Nat.lt_of_lt_of_le hb (Below.size k), fun i hi => ?_⟩
    obtain ⟨h0, h1, ⟨aa, c, h2, hcap, h3⟩⟩ := hc i hi
    exact ⟨((bcell k).1 _ _ hb).trans h0, ((bcell k).1 _ _ hb).trans h1, ⟨aa, c, ((bcell k).1 _ _ hb).trans h2, hcap, h3.nw k⟩⟩

def bulkPs (l : List PD) : Nat := (l.map bulkP).sum
theorem bulkPs_step (l : List PD) (k : Nat) (h : k < l.length) : bulkPs (l.take (k + 1)) = bulkPs (l.take k) + bulkP (partAt l k) := by
  unfold bulkPs partAt
  have e : l.getD k noPD = l[k] := by simp [h]
  rw [List.take_succ_eq_append_getElem h, List.map_append, List.sum_append, e]
  simp only [List.map_cons, List.map_nil, List.sum_cons, List.sum_nil]
  omega
theorem bulkPs_le (l : List PD) (k : Nat) : bulkPs (l.take k) ≤ bulkPs l := by
  unfold bulkPs
  conv => rhs; rw [← List.take_append_drop k l]
  rw [List.map_append, List.sum_append]
  omega
def szPs (l : List PD) (left : Int) : Int := if ((l.length + bulkPs l : Nat) : Int) ≤ left then left - ((l.length + bulkPs l : Nat) : Int) else -1
def okPDs (l : List PD) : Prop := ∀ i, i < l.length → okPD (partAt l i)
/-- A new row of which the first k parts have been laid. -/
def LayPs (w : World) (g : Nat) (l : List PD) (k : Nat) : Prop :=
  g < w.heap.size ∧ (∀ i, i < k → w.cell? ⟨g, i * 3, none⟩ = some (.string (partAt l i).ty) ∧ w.cell? ⟨g, i * 3 + 1, none⟩ = some (.string (partAt l i).id) ∧
      (∃ ga, g < ga ∧ w.cell? ⟨g, i * 3 + 2, none⟩ = some (.slice (some ⟨ga, 0, none⟩) (partAt l i).cls.length (partAt l i).cls.length) ∧ LayS w ga (partAt l i).cls (partAt l i).cls.length)) ∧
    (∀ i, k ≤ i → i < l.length → w.cell? ⟨g, i * 3, none⟩ = some (.string ⟨#[]⟩) ∧ w.cell? ⟨g, i * 3 + 1, none⟩ = some (.string ⟨#[]⟩) ∧ w.cell? ⟨g, i * 3 + 2, none⟩ = some (.slice none 0 0)) ∧ ∀ o, w.frozen? ⟨g, o, none⟩ = false
theorem LayPs.nw {w w' : World} {g k : Nat} {l : List PD} (h : LayPs w g l k) (q : Nw w w') : LayPs w' g l k := by
  have C := fun o => (bcell q).1 g o h.1
  refine ⟨Nat.lt_of_lt_of_le h.1 (Below.size q), fun i hi => ?_, fun i hi hj => ?_, fun o => ((bcell q).2 g o h.1).trans (h.2.2.2 o)⟩
  · obtain ⟨h0, h1, ⟨ga, hg, h2, h3⟩⟩ := h.2.1 i hi
    exact ⟨(C _).trans h0, (C _).trans h1, ⟨ga, hg, (C _).trans h2, h3.nw q⟩⟩
  · obtain ⟨h0, h1, h2⟩ := h.2.2.1 i hi hj
    exact ⟨(C _).trans h0, (C _).trans h1, (C _).trans h2⟩
theorem LayPs.parts {w : World} {g : Nat} {l : List PD} (h : LayPs w g l l.length) : Parts w (some ⟨g, 0, none⟩) l := by
  refine Or.inr ⟨g, 0, rfl, h.1, fun i hi => ?_⟩
  obtain ⟨h0, h1, ⟨ga, hg, h2, h3⟩⟩ := h.2.1 i hi
  refine ⟨by simpa using h0, by simpa using h1, ⟨some ⟨ga, 0, none⟩, (partAt l i).cls.length, by simpa using h2, Nat.le_refl _, h3.strs⟩⟩
theorem LayPs.step {w w' : World} {g k ga : Nat} {l : List PD} (h : LayPs w g l k) (q : Nw w w') (hk : k < l.length) (hg : w.heap.size ≤ ga) (hp : LayS w' ga (partAt l k).cls (partAt l k).cls.length) :
    LayPs (((w'.setCell ⟨g, k * 3, none⟩ (.string (partAt l k).ty)).setCell ⟨g, k * 3 + 1, none⟩ (.string (partAt l k).id)).setCell ⟨g, k * 3 + 2, none⟩ (.slice (some ⟨ga, 0, none⟩) (partAt l k).cls.length (partAt l k).cls.length)) g l (k + 1) := by
  have hga : g < ga := Nat.lt_of_lt_of_le h.1 hg
  have h' := h.nw q
  obtain ⟨z0, z1, z2⟩ := h'.2.2.1 k (Nat.le_refl _) hk
  have far : ∀ o, o ≠ k * 3 → o ≠ k * 3 + 1 → o ≠ k * 3 + 2 → (((w'.setCell ⟨g, k * 3, none⟩ (.string (partAt l k).ty)).setCell ⟨g, k * 3 + 1, none⟩ (.string (partAt l k).id)).setCell ⟨g, k * 3 + 2, none⟩ (.slice (some ⟨ga, 0, none⟩) (partAt l k).cls.length (partAt l k).cls.length)).cell? ⟨g, o, none⟩ = w'.cell? ⟨g, o, none⟩ := by
    intro o a b c
    rw [World.cell?_setCell_other _ _ _ _ (fun h => by injection h; omega), World.cell?_setCell_other _ _ _ _ (fun h => by injection h; omega), World.cell?_setCell_other _ _ _ _ (fun h => by injection h; omega)]
  refine ⟨by simpa [World.setCell] using h'.1, fun m hm => ?_, fun m hm1 hm2 => ?_, fun o => ?_⟩
  · by_cases e : m = k
    · subst e
      refine ⟨?_, ?_, ⟨ga, hga, ?_, ((hp.off _ _ _ (by omega)).off _ _ _ (by omega)).off _ _ _ (by omega)⟩⟩
      · rw [World.cell?_setCell_other _ _ _ _ (fun h => by injection h; omega), World.cell?_setCell_other _ _ _ _ (fun h => by injection h; omega)]
        exact World.cell?_setCell_same w' ⟨g, m * 3, none⟩ _ z0
      · rw [World.cell?_setCell_other _ _ _ _ (fun h => by injection h; omega)]
        exact World.cell?_setCell_same _ ⟨g, m * 3 + 1, none⟩ _ ((World.cell?_setCell_other _ _ _ _ (fun h => by injection h; omega)).trans z1)
      · exact World.cell?_setCell_same _ ⟨g, m * 3 + 2, none⟩ _ ((World.cell?_setCell_other _ _ _ _ (fun h => by injection h; omega)).trans ((World.cell?_setCell_other _ _ _ _ (fun h => by injection h; omega)).trans z2))
    · obtain ⟨h0, h1, ⟨gb, hgb, h2, h3⟩⟩ := h'.2.1 m (by omega)
      refine ⟨by rw [far _ (by omega) (by omega) (by omega)]; exact h0, by rw [far _ (by omega) (by omega) (by omega)]; exact h1, ⟨gb, hgb, by rw [far _ (by omega) (by omega) (by omega)]; exact h2, ((h3.off _ _ _ (by omega)).off _ _ _ (by omega)).off _ _ _ (by omega)⟩⟩
  · rw [far _ (by omega) (by omega) (by omega), far _ (by omega) (by omega) (by omega), far _ (by omega) (by omega) (by omega)]
    exact h'.2.2.1 m (by omega) hm2
  · rw [World.frozen?_setCell, World.frozen?_setCell, World.frozen?_setCell]; exact h'.2.2.2 o
theorem Tryz.info67 : (Tryz.prog.info? 67).map (fun i => (i.zero, i.size, i.bytes)) = some (some (.agg #[.string ⟨#[]⟩, .string ⟨#[]⟩, .slice none 0 0]), 3, 56) := by kernel_rfl
theorem LayPs.start (w : World) (l : List PD) (t : TypeId) : LayPs (w.alloc (.cells (madeCells #[.string ⟨#[]⟩, .string ⟨#[]⟩, .slice none 0 0] (l.length * 3)) t)) w.heap.size l 0 := by
  refine ⟨by simp, fun i hi => absurd hi (by omega), fun i _ hi => ⟨?_, ?_, ?_⟩, fun o => World.frozen?_alloc_at _ _ _ _ rfl⟩
  · have := madeCells_get #[.string ⟨#[]⟩, .string ⟨#[]⟩, .slice none 0 0] (l.length * 3) (i * 3) (by omega)
    simp at this
    simp [this]
  · have := madeCells_get #[.string ⟨#[]⟩, .string ⟨#[]⟩, .slice none 0 0] (l.length * 3) (i * 3 + 1) (by omega)
    have e : (i * 3 + 1) % 3 = 1 := by omega
    simp [e] at this
    simp [this]
  · have := madeCells_get #[.string ⟨#[]⟩, .string ⟨#[]⟩, .slice none 0 0] (l.length * 3) (i * 3 + 2) (by omega)
    have e : (i * 3 + 2) % 3 = 2 := by omega
    simp [e] at this
    simp [this]
def lenPs (l : List PD) : Prop := ∀ i, i < l.length → (partAt l i).cls.length ≤ 1048576
set_option maxHeartbeats 4000000 in
theorem eqPartS_any (w : World) (a1 a2 : Option Addr) (c1 c2 : Nat) (l : List PD) (hl : l.length ≤ 1048576) (hla : lenPs l) (h1 : Parts w a1 l) (h2 : Parts w a2 l) :
    Calls Tryz.prog 115 #[.slice a1 l.length c1, .slice a2 l.length c2] w fun e w' => e = .returned (.bool true) ∧ Nw w w' := by
  have H1 : Hid (Parts w a1 l) := h1
  have H2 : Hid (Parts w a2 l) := h2
  have HLA : Hid (lenPs l) := hla
  clear h1 h2 hla
  go_enter Tryz.func115, Tryz.ntmps115
  go_wp2
  go_loopw [5] (fun i wr => ∃ k : Nat, k ≤ l.length ∧ i = .int .i64 k ∧ Nw w wr) (fun i _ => l.length - (intOf i).toNat)
  case atStart => exact ⟨0, Nat.zero_le _, rfl, Below.refl _ _⟩
  case round =>
    obtain ⟨k, hk, rfl, hw⟩ := hrel
    by_cases hlt : k < l.length
    · rcases (H1.out.nw hw) with h | ⟨b1, o1, rfl, hb1, hc1⟩
      · rw [h] at hlt; simp at hlt
      rcases (H2.out.nw hw) with h | ⟨b2, o2, rfl, hb2, hc2⟩
      · rw [h] at hlt; simp at hlt
      obtain ⟨q0, q1, ⟨qa, qc, q2, qcap, q4⟩⟩ := hc1 k hlt
      obtain ⟨r0, r1, ⟨ra, rc, r2, rcap, r4⟩⟩ := hc2 k hlt
      have hlk := HLA.out k hlt
      have Q4 : Hid (Strs wr.drew qa (partAt l k).cls) := q4.nw ((Below.refl _ _).drew)
      have R4 : Hid (Strs wr.drew ra (partAt l k).cls) := r4.nw ((Below.refl _ _).drew)
      clear hc1 hc2 H1 H2 q4 r4
      have HW : Hid (Nw w wr) := hw
      clear hw
      go_wp2
      go_region_with (go_at_call 158; refine Calls.mono (eqPart_any _ (partAt l k) qa ra qc rc hlk Q4.out R4.out) ?_; rintro e w' ⟨rfl, k1⟩)
      all_goals
        go_wp2
        go_roundw
        case rel => exact ⟨k + 1, by omega, by go_num, HW.out.trans k1.drw⟩
        case measure => simp [intOf]; omega
    · have HW : Hid (Nw w wr) := hw
      clear hw
      go_wp2
      go_ret
      exact ⟨rfl, HW.out⟩
end Go.Proofs.YtnkmdmmlpidcmaaGreatDoor
namespace Go.Proofs.YtnkmdmmlpidcmaaGreatDoor
open Go.ChangeShapes Go.WideShapes Go.ChangeAt Go.RowKit
set_option linter.unusedVariables false

theorem ret_bool {a b : Bool} (h : a = b) : Ending.returned (.bool a) = .returned (.bool b) := by rw [h]
theorem in_any (w : World) (n lo hi : Int) : Calls Tryz.prog 61 #[.int .i64 n, .int .i64 lo, .int .i64 hi] w fun e w' => e = .returned (.bool (decide (lo ≤ n ∧ n ≤ hi))) ∧ w' = w := by
  go_enter Tryz.func61, Tryz.ntmps61
  go_wp2
  all_goals
    go_ret
    exact ⟨ret_bool (by rw [Bool.eq_iff_iff]; simp; omega), rfl⟩

theorem all_false {α : Type} (f : α → Bool) (d : α) (l : List α) (k : Nat) (hk : k < l.length) (h : f (l.getD k d) = false) : l.all f = false := by
  rw [List.all_eq_false]
  refine ⟨l.getD k d, ?_, by rw [h]; decide⟩
  rw [show l.getD k d = l[k] by simp [hk]]
  exact List.getElem_mem hk
theorem all_true {α : Type} (f : α → Bool) (d : α) (l : List α) (h : ∀ k, k < l.length → f (l.getD k d) = true) : l.all f = true := by
  rw [List.all_eq_true]
  intro x hx
  obtain ⟨k, hk, rfl⟩ := List.getElem_of_mem hx
  have := h k hk
  rw [show l.getD k d = l[k] by simp [hk]] at this
  exact this
end Go.Proofs.YtnkmdmmlpidcmaaGreatDoor
namespace Go.Proofs.YtnkmdmmlpidcmaaGreatDoor
open Go.ChangeShapes Go.WideShapes Go.ChangeAt Go.RowKit
set_option linter.unusedVariables false

def letB (c : Int) : Bool := decide ((97 ≤ c ∧ c ≤ 122) ∨ (65 ≤ c ∧ c ≤ 90))
def firstB (c : Int) : Bool := decide ((97 ≤ c ∧ c ≤ 122) ∨ (65 ≤ c ∧ c ≤ 90) ∨ c = 95)
def digB (c : Int) : Bool := decide (48 ≤ c ∧ c ≤ 57)

theorem sletter (w : World) (c : Int) (h0 : 0 ≤ c) (h1 : c ≤ 255) : Calls Tryz.prog 120 #[.int .u8 c] w fun e w' => e = .returned (.bool (firstB c)) ∧ w' = w := by
  go_enter Tryz.func120, Tryz.ntmps120
  go_wp2
  all_goals
    go_ret
    exact ⟨ret_bool (by rw [Bool.eq_iff_iff]; simp [firstB]; omega), rfl⟩
theorem iletter (w : World) (c : Int) (h0 : 0 ≤ c) (h1 : c ≤ 255) : Calls Tryz.prog 161 #[.int .u8 c] w fun e w' => e = .returned (.bool (letB c)) ∧ w' = w := by
  go_enter Tryz.func161, Tryz.ntmps161
  go_wp2
  all_goals
    go_ret
    exact ⟨ret_bool (by rw [Bool.eq_iff_iff]; simp [letB]; omega), rfl⟩
theorem sdigit (w : World) (c : Int) (h0 : 0 ≤ c) (h1 : c ≤ 255) : Calls Tryz.prog 146 #[.int .u8 c] w fun e w' => e = .returned (.bool (digB c)) ∧ w' = w := by
  go_enter Tryz.func146, Tryz.ntmps146
  go_wp2
  all_goals
    go_ret
    exact ⟨ret_bool (by rw [Bool.eq_iff_iff]; simp [digB]; omega), rfl⟩
theorem idigit (w : World) (c : Int) (h0 : 0 ≤ c) (h1 : c ≤ 255) : Calls Tryz.prog 132 #[.int .u8 c] w fun e w' => e = .returned (.bool (digB c)) ∧ w' = w := by
  go_enter Tryz.func132, Tryz.ntmps132
  go_wp2
  all_goals
    go_ret
    exact ⟨ret_bool (by rw [Bool.eq_iff_iff]; simp [digB]; omega), rfl⟩

/-- The byte at i. -/
def bt (s : ByteArray) (i : Nat) : Int := if h : i < s.size then (s[i].toNat : Int) else 0
theorem bt_of (s : ByteArray) (i : Nat) (h : i < s.size) : bt s i = (s[i].toNat : Int) := by simp [bt, h]
theorem bt_bd (s : ByteArray) (i : Nat) : 0 ≤ bt s i ∧ bt s i ≤ 255 := by
  unfold bt
  split
  · rename_i h; have := UInt8.toNat_lt s[i]; omega
  · omega
theorem size_toList (s : ByteArray) : s.toList.length = s.size := by rw [ByteArray.toList_eq]; exact Array.length_toList
theorem ne_nil {s : ByteArray} (h : 0 < s.size) : ¬ s.toList = [] := by
  intro e; have := size_toList s; rw [e] at this; simp at this; omega
theorem ne_emp {s : ByteArray} (h : 0 < s.size) : s.toList.isEmpty = false := by
  have := ne_nil h
  cases hl : s.toList with
  | nil => exact absurd hl this
  | cons => rfl
theorem empty_of {s : ByteArray} (h : s.size = 0) : s = ⟨#[]⟩ := ByteArray.ext (Array.eq_empty_of_size_eq_zero h)
end Go.Proofs.YtnkmdmmlpidcmaaGreatDoor
