/-
  Parts of selectors and their classes in memory, and what the laws' helpers that measure them, copy them and hold two against each other do; each theorem names its conditions.
-/
import Derived.Test.YtnkmdmmlpidcmaaDoorMkl
namespace Go.Proofs.YtnkmdmmlpidcmaaDoor
open Go.ChangeShapes Go.WideShapes Go.ChangeAt Go.RowKit
set_option linter.unusedVariables false

def strAt (l : List ByteArray) (i : Nat) : ByteArray := l.getD i ⟨#[]⟩
/-- The texts l lie at a. -/
def Strs (w : World) (a : Option Addr) (l : List ByteArray) : Prop :=
  l = [] ∨ ∃ b off, a = some ⟨b, off, none⟩ ∧ b < w.heap.size ∧ ∀ i, i < l.length → w.cell? ⟨b, off + i, none⟩ = some (.string (strAt l i))
theorem Strs.nw {w w' : World} {a : Option Addr} {l : List ByteArray} (h : Strs w a l) (k : Nw w w') : Strs w' a l := by
  rcases h with h | ⟨b, off, rfl, hb, hc⟩
  · exact Or.inl h
  · exact Or.inr ⟨b, off, rfl, Nat.lt_of_lt_of_le hb (Below.size k), fun i hi => (Below.cell k (p := ⟨b, off + i, none⟩) hb).trans (hc i hi)⟩
def bulk1 (l : List ByteArray) : Nat := (l.map fun p => p.size).sum
theorem bulk1_step (l : List ByteArray) (k : Nat) (h : k < l.length) : bulk1 (l.take (k + 1)) = bulk1 (l.take k) + (strAt l k).size := by
  unfold bulk1 strAt
  have e : l.getD k ⟨#[]⟩ = l[k] := by simp [h]
  rw [List.take_succ_eq_append_getElem h, List.map_append, List.sum_append, e]
  simp only [List.map_cons, List.map_nil, List.sum_cons, List.sum_nil]
  omega
theorem bulk1_le (l : List ByteArray) (k : Nat) : bulk1 (l.take k) ≤ bulk1 l := by
  unfold bulk1
  conv => rhs; rw [← List.take_append_drop k l]
  rw [List.map_append, List.sum_append]
  omega
def szS (l : List ByteArray) (left : Int) : Int := if ((l.length + bulk1 l : Nat) : Int) ≤ left then left - ((l.length + bulk1 l : Nat) : Int) else -1
def okStrs (l : List ByteArray) : Prop := ∀ i, i < l.length → (strAt l i).size ≤ maxLen
/-- A new list of which the first k texts have been laid. -/
def LayS (w : World) (g : Nat) (l : List ByteArray) (k : Nat) : Prop :=
  g < w.heap.size ∧ (∀ i, i < k → w.cell? ⟨g, i, none⟩ = some (.string (strAt l i))) ∧ (∀ i, k ≤ i → i < l.length → w.cell? ⟨g, i, none⟩ = some (.string ⟨#[]⟩)) ∧ ∀ o, w.frozen? ⟨g, o, none⟩ = false
theorem LayS.nw {w w' : World} {g k : Nat} {l : List ByteArray} (h : LayS w g l k) (q : Nw w w') : LayS w' g l k :=
  ⟨Nat.lt_of_lt_of_le h.1 (Below.size q), fun i hi => (Below.cell q (p := ⟨g, i, none⟩) h.1).trans (h.2.1 i hi), fun i hi hj => (Below.cell q (p := ⟨g, i, none⟩) h.1).trans (h.2.2.1 i hi hj), fun o => (Below.frozen q (p := ⟨g, o, none⟩) h.1).trans (h.2.2.2 o)⟩
theorem LayS.step {w : World} {g k : Nat} {l : List ByteArray} (h : LayS w g l k) (hk : k < l.length) : LayS (w.setCell ⟨g, k, none⟩ (.string (strAt l k))) g l (k + 1) := by
  obtain ⟨h2, h3, h4, h5⟩ := h
  have c0 := h4 k (Nat.le_refl _) hk
  have far : ∀ o, o ≠ k → (w.setCell ⟨g, k, none⟩ (.string (strAt l k))).cell? ⟨g, o, none⟩ = w.cell? ⟨g, o, none⟩ := by
    intro o a
    rw [World.cell?_setCell_other _ _ _ _ (fun h => by injection h; omega)]
  refine ⟨by simpa [World.setCell] using h2, fun m hm => ?_, fun m hm1 hm2 => ?_, fun o => ?_⟩
  · by_cases e : m = k
    · subst e
      exact World.cell?_setCell_same w ⟨g, m, none⟩ _ c0
    · rw [far _ (by omega)]; exact h3 m (by omega)
  · rw [far _ (by omega)]; exact h4 m (by omega) hm2
  · rw [World.frozen?_setCell]; exact h5 o
theorem LayS.off {w : World} {g k : Nat} {l : List ByteArray} (h : LayS w g l k) (b o : Nat) (v : Value) (hne : b ≠ g) : LayS (w.setCell ⟨b, o, none⟩ v) g l k := by
  have far : ∀ x, (w.setCell ⟨b, o, none⟩ v).cell? ⟨g, x, none⟩ = w.cell? ⟨g, x, none⟩ := fun x => World.cell?_setCell_other _ _ _ _ (fun h => by injection h; omega)
  refine ⟨by simpa [World.setCell] using h.1, fun m hm => ?_, fun m hm1 hm2 => ?_, fun x => ?_⟩
  · rw [far]; exact h.2.1 m hm
  · rw [far]; exact h.2.2.1 m hm1 hm2
  · rw [World.frozen?_setCell]; exact h.2.2.2 x
theorem LayS.strs {w : World} {g : Nat} {l : List ByteArray} (h : LayS w g l l.length) : Strs w (some ⟨g, 0, none⟩) l :=
  Or.inr ⟨g, 0, rfl, h.1, fun i hi => by simpa using h.2.1 i hi⟩
theorem Tryd.info9 : (Tryd.prog.info? 9).map (fun i => (i.zero, i.size, i.bytes)) = some (some (.string ⟨#[]⟩), 1, 16) := by kernel_rfl
theorem LayS.start (w : World) (l : List ByteArray) (t : TypeId) : LayS (w.alloc (.cells (madeCells #[.string ⟨#[]⟩] l.length) t)) w.heap.size l 0 := by
  refine ⟨by simp, fun i hi => absurd hi (by omega), fun i _ hi => ?_, fun o => World.frozen?_alloc_at _ _ _ _ rfl⟩
  have := madeCells_get #[.string ⟨#[]⟩] l.length i (by omega)
  have e : i % 1 = 0 := by omega
  simp [e] at this
  simp [this]
theorem eqStringS_any (w : World) (a1 a2 : Option Addr) (c1 c2 : Nat) (l : List ByteArray) (hl : l.length ≤ 1048576) (h1 : Strs w a1 l) (h2 : Strs w a2 l) :
    Calls Tryd.prog 65 #[.slice a1 l.length c1, .slice a2 l.length c2] w fun e w' => e = .returned (.bool true) ∧ Nw w w' := by
  have H1 : Hid (Strs w a1 l) := h1
  have H2 : Hid (Strs w a2 l) := h2
  clear h1 h2
  go_enter Tryd.func65, Tryd.ntmps65
  go_wp2
  go_loopw [5] (fun i wr => ∃ k : Nat, k ≤ l.length ∧ i = .int .i64 k ∧ Nw w wr) (fun i _ => l.length - (intOf i).toNat)
  case atStart => exact ⟨0, Nat.zero_le _, rfl, Below.refl _ _⟩
  case round =>
    obtain ⟨k, hk, rfl, hw⟩ := hrel
    by_cases hlt : k < l.length
    · rcases (H1.out.nw hw) with h | ⟨b1, o1, rfl, hb1, hc1⟩
      · rw [h] at hlt; simp at hlt
      rcases (H2.out.nw hw) with h | ⟨b2, o2, rfl, hb2, hc2⟩
      · rw [h] at hlt; simp at hlt
      have q0 := hc1 k hlt
      have r0 := hc2 k hlt
      clear hc1 hc2 H1 H2
      have HW : Hid (Nw w wr) := hw
      clear hw
      generalize strAt l k = s at *
      go_wp2
      first
        | (go_region_with fail
           all_goals
             go_wp2
             go_roundw
             case rel => exact ⟨k + 1, by omega, by go_num, HW.out.trans ((Below.refl _ _).drew)⟩
             case measure => simp [intOf]; omega)
        | (go_roundw
           case rel => exact ⟨k + 1, by omega, by go_num, HW.out⟩
           case measure => simp [intOf]; omega)
    · have HW : Hid (Nw w wr) := hw
      clear hw
      go_wp2
      go_ret
      exact ⟨rfl, HW.out⟩

/-- A part: its type, its id, its classes. -/
structure PD where
  ty : ByteArray
  id : ByteArray
  cls : List ByteArray
def partV (p : PD) (a : Option Addr) (c : Nat) : Value := .agg #[.string p.ty, .string p.id, .slice a p.cls.length c]
def bulkP (p : PD) : Nat := p.ty.size + p.id.size + (p.cls.length + bulk1 p.cls)
structure okPD (p : PD) : Prop where
  ty : p.ty.size ≤ maxLen
  id : p.id.size ≤ maxLen
  len : p.cls.length ≤ maxLen
  cls : okStrs p.cls

theorem eqPart_any (w : World) (n : PD) (a1 a2 : Option Addr) (c1 c2 : Nat) (hl : n.cls.length ≤ 1048576) (h1 : Strs w a1 n.cls) (h2 : Strs w a2 n.cls) :
    Calls Tryd.prog 35 #[partV n a1 c1, partV n a2 c2] w fun e w' => e = .returned (.bool true) ∧ Nw w w' := by
  obtain ⟨ty, id, cls⟩ := n
  unfold partV
  simp only at *
  have H1 : ∀ o1 o2, Hid (Strs ((w.alloc o1).alloc o2) a1 cls) := fun o1 o2 => h1.nw (((Below.refl _ _).alloc (Nat.le_refl _) _).alloc (by simp) _)
  have H2 : ∀ o1 o2, Hid (Strs ((w.alloc o1).alloc o2) a2 cls) := fun o1 o2 => h2.nw (((Below.refl _ _).alloc (Nat.le_refl _) _).alloc (by simp) _)
  clear h1 h2
  go_enter Tryd.func35, Tryd.ntmps35
  go_wp2_with (go_at_call 65; refine (eqStringS_any _ a1 a2 c1 c2 cls hl (H1 _ _).out (H2 _ _).out).mono ?_; rintro e w' ⟨rfl, k1⟩; obtain ⟨hc, hf⟩ := bcell k1)
  go_ret
  exact ⟨rfl, Below.trans (((Below.refl _ _).alloc (Nat.le_refl _) _).alloc (by simp) _) (Below.mono k1 (by simp; omega))⟩
end Go.Proofs.YtnkmdmmlpidcmaaDoor
