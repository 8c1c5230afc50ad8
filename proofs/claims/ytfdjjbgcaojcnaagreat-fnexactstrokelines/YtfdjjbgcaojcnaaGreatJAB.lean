/-
  Points in memory, and what the laws' helpers do that measure rows of them, copy them, hold two against each other, mark one and look for the marks; each theorem names its conditions.
  Whether a number lies between two others, by the specification; no condition.
  Fixed numbers: GoodFixed of both, for all ints; no condition.
  Points: whether they are fixed, by the specification; numbers that are all fixed, by the program; each theorem names its conditions.
-/
import Derived.Test.YtfdjjbgcaojcnaaGreatJAA
namespace Go.Proofs.YtfdjjbgcaojcnaaGreat
open Go.ChangeShapes Go.WideShapes Go.ChangeAt Go.RowKit
set_option linter.unusedVariables false

abbrev Pnt := Int × Int
def ptAt (l : List Pnt) (i : Nat) : Pnt := l.getD i (0, 0)
abbrev ptV (p : Pnt) : Value := .agg #[.int .i64 p.1, .int .i64 p.2]
/-- The points l lie at a. -/
def Pts (w : World) (a : Option Addr) (l : List Pnt) : Prop :=
  l = [] ∨ ∃ b off, a = some ⟨b, off, none⟩ ∧ b < w.heap.size ∧ ∀ i, i < l.length → w.cell? ⟨b, off + i * 2, none⟩ = some (.int .i64 (ptAt l i).1) ∧ w.cell? ⟨b, off + i * 2 + 1, none⟩ = some (.int .i64 (ptAt l i).2)
theorem Pts.nw {w w' : World} {a : Option Addr} {l : List Pnt} (h : Pts w a l) (k : Nw w w') : Pts w' a l := by
  rcases h with h | ⟨b, off, rfl, hb, hc⟩
  · exact Or.inl h
  · exact Or.inr ⟨b, off, rfl, Nat.lt_of_lt_of_le hb (Below.size k), fun i hi => ⟨((bcell k).1 _ _ hb).trans (hc i hi).1, ((bcell k).1 _ _ hb).trans (hc i hi).2⟩⟩

theorem toPoint_any (w : World) (x y : Int) :
    Calls Tryz.prog 102 #[.agg #[.int .i64 x, .int .i64 y]] w fun e w' => e = .returned (.agg #[.int .i64 x, .int .i64 y]) ∧ Kp w w' := by
  go_enter Tryz.func102, Tryz.ntmps102
  go_wp2
  exact bodyPost_ret (v := .agg #[.int .i64 x, .int .i64 y]) (by simp [results, Tryz.results102, go_sem]) rfl ⟨rfl, (((Kp.refl w).alloc _ _).alloc _ _).alloc _ _⟩

theorem eqPoint_any (w : World) (x y : Int) :
    Calls Tryz.prog 103 #[.agg #[.int .i64 x, .int .i64 y], .agg #[.int .i64 x, .int .i64 y]] w fun e w' => e = .returned (.bool true) ∧ Nw w w' := by
  have hne : (x != x) = false := by simp
  have hne2 : (y != y) = false := by simp
  go_enter Tryz.func103, Tryz.ntmps103
  go_wp2
  go_ret
  exact ⟨rfl, ((Below.refl _ _).alloc (Nat.le_refl _) _).alloc (by simp) _⟩

theorem szPointS_any (w : World) (a : Option Addr) (n c : Nat) (left : Int) (h0 : 0 ≤ left) (h1 : left ≤ 1048576) (hm : n ≤ maxLen) :
    Calls Tryz.prog 79 #[.slice a n c, .int .i64 left] w fun e w' => e = .returned (.int .i64 (if (n : Int) ≤ left then left - (n : Int) else -1)) ∧ w' = w := by
  unfold maxLen at hm
  by_cases c1 : (n : Int) ≤ left
  · rw [if_pos c1]
    go_enter Tryz.func79, Tryz.ntmps79
    go_wp2
    go_ret
    exact ⟨rfl, rfl⟩
  · rw [if_neg c1]
    go_enter Tryz.func79, Tryz.ntmps79
    go_wp2
    go_ret
    exact ⟨rfl, rfl⟩

/-- A new list of which the first k points have been laid. -/
def LayPt (w : World) (g : Nat) (l : List Pnt) (k : Nat) : Prop :=
  g < w.heap.size ∧ (∀ i, i < k → w.cell? ⟨g, i * 2, none⟩ = some (.int .i64 (ptAt l i).1) ∧ w.cell? ⟨g, i * 2 + 1, none⟩ = some (.int .i64 (ptAt l i).2)) ∧ (∀ i, k ≤ i → i < l.length → w.cell? ⟨g, i * 2, none⟩ = some (.int .i64 0) ∧ w.cell? ⟨g, i * 2 + 1, none⟩ = some (.int .i64 0)) ∧ ∀ o, w.frozen? ⟨g, o, none⟩ = false
theorem LayPt.nw {w w' : World} {g k : Nat} {l : List Pnt} (h : LayPt w g l k) (q : Nw w w') : LayPt w' g l k :=
  ⟨Nat.lt_of_lt_of_le h.1 (Below.size q), fun i hi => ⟨((bcell q).1 _ _ h.1).trans (h.2.1 i hi).1, ((bcell q).1 _ _ h.1).trans (h.2.1 i hi).2⟩,
    fun i hi hj => ⟨((bcell q).1 _ _ h.1).trans (h.2.2.1 i hi hj).1, ((bcell q).1 _ _ h.1).trans (h.2.2.1 i hi hj).2⟩, fun o => ((bcell q).2 _ _ h.1).trans (h.2.2.2 o)⟩
theorem LayPt.step {w : World} {g k : Nat} {l : List Pnt} (h : LayPt w g l k) (hk : k < l.length) : LayPt ((w.setCell ⟨g, k * 2, none⟩ (.int .i64 (ptAt l k).1)).setCell ⟨g, k * 2 + 1, none⟩ (.int .i64 (ptAt l k).2)) g l (k + 1) := by
  obtain ⟨h2, h3, h4, h5⟩ := h
  obtain ⟨c0, c1⟩ := h4 k (Nat.le_refl _) hk
  have far : ∀ o, o ≠ k * 2 → o ≠ k * 2 + 1 → ((w.setCell ⟨g, k * 2, none⟩ (.int .i64 (ptAt l k).1)).setCell ⟨g, k * 2 + 1, none⟩ (.int .i64 (ptAt l k).2)).cell? ⟨g, o, none⟩ = w.cell? ⟨g, o, none⟩ := by
    intro o a b
    rw [World.cell?_setCell_other _ _ _ _ (fun h => by injection h; omega), World.cell?_setCell_other _ _ _ _ (fun h => by injection h; omega)]
  refine ⟨by simpa [World.setCell] using h2, fun m hm => ?_, fun m hm1 hm2 => ?_, fun o => ?_⟩
  · by_cases e : m = k
    · subst e
      refine ⟨?_, World.cell?_setCell_same (w.setCell ⟨g, m * 2, none⟩ _) ⟨g, m * 2 + 1, none⟩ _ ((World.cell?_setCell_other _ _ _ _ (fun h => by injection h; omega)).trans c1)⟩
      rw [World.cell?_setCell_other _ _ _ _ (fun h => by injection h; omega)]
      exact World.cell?_setCell_same w ⟨g, m * 2, none⟩ _ c0
    · rw [far _ (by omega) (by omega), far _ (by omega) (by omega)]; exact h3 m (by omega)
  · rw [far _ (by omega) (by omega), far _ (by omega) (by omega)]; exact h4 m (by omega) hm2
  · rw [World.frozen?_setCell, World.frozen?_setCell]; exact h5 o
theorem LayPt.off {w : World} {g k : Nat} {l : List Pnt} (h : LayPt w g l k) (b o : Nat) (v : Value) (hne : b ≠ g) : LayPt (w.setCell ⟨b, o, none⟩ v) g l k := by
  have far : ∀ x, (w.setCell ⟨b, o, none⟩ v).cell? ⟨g, x, none⟩ = w.cell? ⟨g, x, none⟩ := fun x => World.cell?_setCell_other _ _ _ _ (fun h => by injection h; omega)
  refine ⟨by simpa [World.setCell] using h.1, fun m hm => ?_, fun m hm1 hm2 => ?_, fun x => ?_⟩
  · rw [far, far]; exact h.2.1 m hm
  · rw [far, far]; exact h.2.2.1 m hm1 hm2
  · rw [World.frozen?_setCell]; exact h.2.2.2 x
theorem LayPt.pts {w : World} {g : Nat} {l : List Pnt} (h : LayPt w g l l.length) : Pts w (some ⟨g, 0, none⟩) l :=
  Or.inr ⟨g, 0, rfl, h.1, fun i hi => by simpa using h.2.1 i hi⟩
theorem Tryz.info34 : (Tryz.prog.info? 34).map (fun i => (i.zero, i.size, i.bytes)) = some (some (.agg #[.int .i64 0, .int .i64 0]), 2, 16) := by kernel_rfl
theorem LayPt.start (w : World) (l : List Pnt) (t : TypeId) : LayPt (w.alloc (.cells (madeCells #[.int .i64 0, .int .i64 0] (l.length * 2)) t)) w.heap.size l 0 := by
  refine ⟨by simp, fun i hi => absurd hi (by omega), fun i _ hi => ⟨?_, ?_⟩, fun o => World.frozen?_alloc_at _ _ _ _ rfl⟩
  · have := madeCells_get #[.int .i64 0, .int .i64 0] (l.length * 2) (i * 2) (by omega)
    simp at this
    simp [this]
  · have := madeCells_get #[.int .i64 0, .int .i64 0] (l.length * 2) (i * 2 + 1) (by omega)
    have e : (i * 2 + 1) % 2 = 1 := by omega
    simp [e] at this
    simp [this]
theorem toPointS_any (w : World) (a : Option Addr) (c : Nat) (l : List Pnt) (hm : l.length ≤ 1048576) (hr : Pts w a l) :
    Calls Tryz.prog 80 #[.slice a l.length c] w fun e w' => e = .returned (.slice (some ⟨w.heap.size, 0, none⟩) l.length l.length) ∧ Nw w w' ∧ LayPt w' w.heap.size l l.length := by
  have HR : Hid (Pts w a l) := hr
  clear hr
  have hmk := run_mk 23 34 _ 2 16 Tryz.underlying23 Tryz.info34 l.length (by omega) (by omega)
  have hcs : (Value.agg #[.int .i64 0, .int .i64 0]).cells = #[.int .i64 0, .int .i64 0] := rfl
  rw [hcs] at hmk
  go_enter Tryz.func80, Tryz.ntmps80
  go_wp2
  go_loopw [4] (fun i wr => ∃ k : Nat, k ≤ l.length ∧ i = .int .i64 k ∧ Nw w wr ∧ LayPt wr w.heap.size l k) (fun i _ => l.length - (intOf i).toNat)
  case atStart => exact ⟨0, Nat.zero_le _, rfl, (Below.refl _ _).alloc (Nat.le_refl _) _, LayPt.start w l _⟩
  case round =>
    obtain ⟨k, hk, rfl, hw, hlay⟩ := hrel
    clear hmk hcs
    by_cases hlt : k < l.length
    · rcases (HR.out.nw hw) with h | ⟨b, off, rfl, hbk, hc⟩
      · rw [h] at hlt; simp at hlt
      obtain ⟨q0, q1⟩ := hc k hlt
      clear hc
      have HW : Hid (Nw w wr) := hw
      obtain ⟨z0, z1⟩ := hlay.2.2.1 k (Nat.le_refl _) hlt
      have zf := hlay.2.2.2
      have HL : Hid _ := hlay
      clear hw hlay
      have hg : w.heap.size < wr.heap.size := HL.out.1
      go_wp2_with (go_at_call 102; refine (toPoint_any _ _ _).mono ?_; rintro e w' ⟨rfl, k1⟩; have y0 := ((Kp.cells k1).1 _ (k * 2) hg).trans z0; have y1 := ((Kp.cells k1).1 _ (k * 2 + 1) hg).trans z1; have yf : ∀ o, w'.frozen? ⟨w.heap.size, o, none⟩ = false := fun o => ((Kp.cells k1).2 _ o).trans (zf o); clear z0 z1 zf)
      go_roundw
      case rel =>
        refine ⟨k + 1, by omega, by go_num, ?_, LayPt.step (LayPt.nw HL.out k1.nw) hlt⟩
        have kb : Below w.heap.size w w' := HW.out.trans k1.nw
        exact (kb.setCell (Nat.le_refl _) _).setCell (Nat.le_refl _) _
      case measure => simp [intOf]; omega
    · have e : k = l.length := by omega
      subst e
      have HN : Hid (Nw w wr ∧ LayPt wr w.heap.size l l.length) := ⟨hw, hlay⟩
      clear hw hlay
      go_wp2
      go_ret
      exact ⟨rfl, HN.out⟩

theorem eqPointS_any (w : World) (a1 a2 : Option Addr) (c1 c2 : Nat) (l : List Pnt) (hl : l.length ≤ 1048576) (h1 : Pts w a1 l) (h2 : Pts w a2 l) :
    Calls Tryz.prog 81 #[.slice a1 l.length c1, .slice a2 l.length c2] w fun e w' => e = .returned (.bool true) ∧ Nw w w' := by
  have H1 : Hid (Pts w a1 l) := h1
  have H2 : Hid (Pts w a2 l) := h2
  clear h1 h2
  go_enter Tryz.func81, Tryz.ntmps81
  go_wp2
  go_loopw [5] (fun i wr => ∃ k : Nat, k ≤ l.length ∧ i = .int .i64 k ∧ Nw w wr) (fun i _ => l.length - (intOf i).toNat)
  case atStart => exact ⟨0, Nat.zero_le _, rfl, Below.refl _ _⟩
  case round =>
    obtain ⟨k, hk, rfl, hw⟩ := hrel
    by_cases hlt : k < l.length
    · rcases (H1.out.nw hw) with h | ⟨b1, o1, rfl, hb1, hc1⟩
      · rw [h] at hlt; simp at hlt
      rcases (H2.out.nw hw) with h | ⟨b2, o2, rfl, hb2, hc2⟩
      · rw [h] at hlt; simp at hlt
      obtain ⟨q0, q1⟩ := hc1 k hlt
      obtain ⟨r0, r1⟩ := hc2 k hlt
      clear hc1 hc2 H1 H2
      have HW : Hid (Nw w wr) := hw
      clear hw
      generalize (ptAt l k).1 = s at *
      generalize (ptAt l k).2 = t at *
      go_wp2
      go_region_with (go_at_call 103; refine (eqPoint_any _ _ _).mono ?_; rintro e w' ⟨rfl, k1⟩)
      all_goals
        go_wp2
        go_roundw
        case rel => exact ⟨k + 1, by omega, by go_num, HW.out.trans k1.drw⟩
        case measure => simp [intOf]; omega
    · have HW : Hid (Nw w wr) := hw
      clear hw
      go_wp2
      go_ret
      exact ⟨rfl, HW.out⟩

/-! ### Marks -/
/-- The points of a marked list. -/
def mkP (K n : Nat) : List Pnt := (List.range n).map fun i => (((K + 2 * i : Nat) : Int), ((K + 2 * i + 1 : Nat) : Int))
theorem mkP_len (K n : Nat) : (mkP K n).length = n := by simp [mkP]
theorem mkP_at (K n i : Nat) (h : i < n) : ptAt (mkP K n) i = (((K + 2 * i : Nat) : Int), ((K + 2 * i + 1 : Nat) : Int)) := by simp [ptAt, mkP, h]
/-- Points in the block g, which may be written: n of them, whatever they are. -/
def AnyPt (w : World) (g n : Nat) : Prop :=
  g < w.heap.size ∧ (∀ i, i < n → (∃ x : Int, w.cell? ⟨g, i * 2, none⟩ = some (.int .i64 x)) ∧ ∃ y : Int, w.cell? ⟨g, i * 2 + 1, none⟩ = some (.int .i64 y)) ∧ ∀ o, w.frozen? ⟨g, o, none⟩ = false
theorem LayPt.any {w : World} {g : Nat} {l : List Pnt} (h : LayPt w g l l.length) : AnyPt w g l.length := ⟨h.1, fun i hi => ⟨⟨_, (h.2.1 i hi).1⟩, ⟨_, (h.2.1 i hi).2⟩⟩, h.2.2.2⟩
theorem grP_refl (w : World) (r : Option Nat) : w.grownBy w r := ⟨rfl, rfl, rfl, Nat.le_refl _, fun _ _ _ => rfl⟩
theorem grP_set {a b : World} {g : Nat} (h : a.grownBy b (some g)) (o : Nat) (v : Value) : a.grownBy (b.setCell ⟨g, o, none⟩ v) (some g) :=
  ⟨h.os, h.tape, h.output, by simpa [World.setCell] using h.size, fun i hi hne => by
    rw [Below.heap_setCell _ _ _ _ (by intro e; apply hne; rw [e])]
    exact h.block i hi hne⟩
theorem grP_below {a b : World} {g B : Nat} (h : a.grownBy b (some g)) (hg : B ≤ g) (hB : B ≤ a.heap.size) : Below B a b :=
  ⟨h.os, h.tape, h.output, h.size, fun i hi => h.block i (by omega) (by intro e; injection e; omega)⟩
/-- A row of points of which the first j bear marks. -/
def MkPt (w : World) (g K n j : Nat) : Prop :=
  g < w.heap.size ∧ (∀ i, i < j → w.cell? ⟨g, i * 2, none⟩ = some (.int .i64 ((K + 2 * i : Nat) : Int)) ∧ w.cell? ⟨g, i * 2 + 1, none⟩ = some (.int .i64 ((K + 2 * i + 1 : Nat) : Int))) ∧
    (∀ i, j ≤ i → i < n → (∃ x : Int, w.cell? ⟨g, i * 2, none⟩ = some (.int .i64 x)) ∧ ∃ y : Int, w.cell? ⟨g, i * 2 + 1, none⟩ = some (.int .i64 y)) ∧ ∀ o, w.frozen? ⟨g, o, none⟩ = false
theorem AnyPt.mk0 {w : World} {g n : Nat} (h : AnyPt w g n) (K : Nat) : MkPt w g K n 0 := ⟨h.1, fun i hi => absurd hi (by omega), fun i _ b => h.2.1 i b, h.2.2⟩
theorem MkPt.step {w : World} {g K n j : Nat} (h : MkPt w g K n j) (hj : j < n) : MkPt ((w.setCell ⟨g, j * 2, none⟩ (.int .i64 ((K + 2 * j : Nat) : Int))).setCell ⟨g, j * 2 + 1, none⟩ (.int .i64 ((K + 2 * j + 1 : Nat) : Int))) g K n (j + 1) := by
  obtain ⟨h1, h2, h3, h4⟩ := h
  obtain ⟨⟨s0, c0⟩, ⟨s1, c1⟩⟩ := h3 j (Nat.le_refl _) hj
  have far : ∀ o, o ≠ j * 2 → o ≠ j * 2 + 1 → ((w.setCell ⟨g, j * 2, none⟩ (.int .i64 ((K + 2 * j : Nat) : Int))).setCell ⟨g, j * 2 + 1, none⟩ (.int .i64 ((K + 2 * j + 1 : Nat) : Int))).cell? ⟨g, o, none⟩ = w.cell? ⟨g, o, none⟩ := by
    intro o a b
    rw [World.cell?_setCell_other _ _ _ _ (fun h => by injection h; omega), World.cell?_setCell_other _ _ _ _ (fun h => by injection h; omega)]
  refine ⟨by simpa [World.setCell] using h1, fun i hi => ?_, fun i a b => ?_, fun o => by rw [World.frozen?_setCell, World.frozen?_setCell]; exact h4 o⟩
  · by_cases e : i = j
    · subst e
      refine ⟨?_, World.cell?_setCell_same (w.setCell ⟨g, i * 2, none⟩ _) ⟨g, i * 2 + 1, none⟩ _ ((World.cell?_setCell_other _ _ _ _ (fun h => by injection h; omega)).trans c1)⟩
      rw [World.cell?_setCell_other _ _ _ _ (fun h => by injection h; omega)]
      exact World.cell?_setCell_same w ⟨g, i * 2, none⟩ _ c0
    · rw [far _ (by omega) (by omega), far _ (by omega) (by omega)]; exact h2 i (by omega)
  · rw [far _ (by omega) (by omega), far _ (by omega) (by omega)]; exact h3 i (by omega) b
theorem MkPt.lay {w : World} {g K n : Nat} (h : MkPt w g K n n) : LayPt w g (mkP K n) n :=
  ⟨h.1, fun i hi => by rw [mkP_at K n i hi]; exact h.2.1 i hi, fun i a b => absurd b (by rw [mkP_len]; omega), h.2.2.2⟩
set_option maxHeartbeats 1000000 in
theorem markPt_any (w : World) (g c K n : Nat) (hl : n ≤ 1048576) (hK2 : K ≤ 50000000) (h : AnyPt w g n) :
    Calls Tryz.prog 54 #[.slice (some ⟨g, 0, none⟩) n c, .int .i64 (K : Int)] w fun e w' => e = .returned (.int .i64 ((K + 2 * n : Nat) : Int)) ∧ w.grownBy w' (some g) ∧ LayPt w' g (mkP K n) n := by
  have HS : Hid (MkPt w g K n 0) := h.mk0 K
  clear h
  go_enter Tryz.func54, Tryz.ntmps54
  go_wp2
  go_loopw [1, 5] (fun x i wr => ∃ j : Nat, j ≤ n ∧ i = .int .i64 j ∧ x = .int .i64 ((K + 2 * j : Nat) : Int) ∧ w.grownBy wr (some g) ∧ MkPt wr g K n j) (fun _ i _ => n - (intOf i).toNat)
  case atStart => exact ⟨0, Nat.zero_le _, rfl, rfl, grP_refl _ _, HS.out⟩
  case round =>
    obtain ⟨j, hj, rfl, rfl, hw, hm⟩ := hrel
    have HW : Hid (w.grownBy wr (some g)) := hw
    have HM : Hid (MkPt wr g K n j) := hm
    clear hw hm
    by_cases hlt : j < n
    · obtain ⟨⟨s0, c0⟩, ⟨s1, c1⟩⟩ := HM.out.2.2.1 j (Nat.le_refl _) hlt
      have hf0 := HM.out.2.2.2
      have HK : Hid ((K : Int) + 2 * (j : Int) = ((K + 2 * j : Nat) : Int)) := by show _ = _; omega
      go_wp2
      go_roundw
      case rel =>
        refine ⟨j + 1, by omega, by go_num, by go_num, grP_set (grP_set HW.out _ _) _ _, ?_⟩
        have h := HM.out.step hlt
        rw [show ((K + 2 * j : Nat) : Int) = (K : Int) + 2 * (j : Int) by omega, show ((K + 2 * j + 1 : Nat) : Int) = (K : Int) + 2 * (j : Int) + 1 by omega] at h
        exact h
      case measure => simp [intOf]; omega
    · have e : j = n := by omega
      subst e
      go_wp2
      go_ret
      exact ⟨rfl, HW.out, HM.out.lay⟩
/-- The same of no list at all. -/
theorem markPt_nil (w : World) (K : Nat) (hK2 : K ≤ 50000000) :
    Calls Tryz.prog 54 #[.slice none 0 0, .int .i64 (K : Int)] w fun e w' => e = .returned (.int .i64 (K : Int)) ∧ w' = w := by
  go_enter Tryz.func54, Tryz.ntmps54
  go_wp2
  go_loop [1, 5] (fun x i => x = .int .i64 (K : Int) ∧ i = .int .i64 0) (fun _ _ => 0)
  case atStart => exact ⟨rfl, rfl⟩
  case round =>
    obtain ⟨rfl, rfl⟩ := hrel
    go_wp2
    go_ret
    exact ⟨rfl, rfl⟩
end Go.Proofs.YtfdjjbgcaojcnaaGreat
namespace Go.Proofs.YtfdjjbgcaojcnaaGreat
open Go.ChangeShapes Go.WideShapes Go.ChangeAt Go.RowKit
set_option linter.unusedVariables false

theorem ret_bool {a b : Bool} (h : a = b) : Ending.returned (.bool a) = .returned (.bool b) := by rw [h]
theorem in_any (w : World) (n lo hi : Int) : Calls Tryz.prog 36 #[.int .i64 n, .int .i64 lo, .int .i64 hi] w fun e w' => e = .returned (.bool (decide (lo ≤ n ∧ n ≤ hi))) ∧ w' = w := by
  go_enter Tryz.func36, Tryz.ntmps36
  go_wp2
  all_goals
    go_ret
    exact ⟨ret_bool (by rw [Bool.eq_iff_iff]; simp; omega), rfl⟩

theorem all_false {α : Type} (f : α → Bool) (d : α) (l : List α) (k : Nat) (hk : k < l.length) (h : f (l.getD k d) = false) : l.all f = false := by
  rw [List.all_eq_false]
  refine ⟨l.getD k d, ?_, by rw [h]; decide⟩
  rw [show l.getD k d = l[k] by simp [hk]]
  exact List.getElem_mem hk
theorem all_true {α : Type} (f : α → Bool) (d : α) (l : List α) (h : ∀ k, k < l.length → f (l.getD k d) = true) : l.all f = true := by
  rw [List.all_eq_true]
  intro x hx
  obtain ⟨k, hk, rfl⟩ := List.getElem_of_mem hx
  have := h k hk
  rw [show l.getD k d = l[k] by simp [hk]] at this
  exact this
end Go.Proofs.YtfdjjbgcaojcnaaGreat
namespace Go.Proofs.YtfdjjbgcaojcnaaGreat
open Go.ChangeShapes Go.WideShapes Go.ChangeAt Go.RowKit
set_option linter.unusedVariables false

def fixB (x : Int) : Bool := decide (-1099511627776 ≤ x) && decide (x ≤ 1099511627776)
theorem fixB_iff {x : Int} : fixB x = true ↔ -1099511627776 ≤ x ∧ x ≤ 1099511627776 := by unfold fixB; simp
theorem fixB_no {x : Int} : fixB x = false ↔ ¬ (-1099511627776 ≤ x ∧ x ≤ 1099511627776) := by
  rw [← fixB_iff]; cases fixB x <;> simp
theorem igoodF (x : Int) (w : World) : Calls Tryz.prog 112 #[.int .i64 x] w fun e w' => e = .returned (.bool (fixB x)) ∧ w' = w := by
  go_enter Tryz.func112, Tryz.ntmps112
  go_wp2
  all_goals
    go_ret
    exact ⟨ret_bool (by unfold fixB; rw [Bool.eq_iff_iff]; simp; omega), rfl⟩
theorem sgoodF (x : Int) (w : World) : Calls Tryz.prog 119 #[.int .i64 x] w fun e w' => e = .returned (.bool (fixB x)) ∧ w' = w := by
  have H : Hid (∀ w, Calls Tryz.prog 36 #[.int .i64 x, .int .i64 (-1099511627776), .int .i64 1099511627776] w fun e w' => e = .returned (.bool (fixB x)) ∧ w' = w) := fun w => by
    refine Calls.mono (in_any w x (-1099511627776) 1099511627776) ?_
    rintro e w' ⟨rfl, rfl⟩
    exact ⟨ret_bool (by unfold fixB; rw [Bool.eq_iff_iff]; simp), rfl⟩
  go_enter Tryz.func119, Tryz.ntmps119
  go_wp2_with fail
  refine Calls.mono (H.out _) ?_
  rintro e w1 ⟨rfl, rfl⟩
  go_wp2
  go_ret
  exact ⟨rfl, rfl⟩
end Go.Proofs.YtfdjjbgcaojcnaaGreat
namespace Go.Proofs.YtfdjjbgcaojcnaaGreat
open Go.ChangeShapes Go.WideShapes Go.ChangeAt Go.RowKit
set_option linter.unusedVariables false

def ptB (p : Pnt) : Bool := fixB p.1 && fixB p.2
def ptsB (l : List Pnt) : Bool := l.all ptB
set_option maxHeartbeats 1000000 in
/-- The numbers zs, all fixed or not. -/
theorem iall_any (w : World) (b off c : Nat) (zs : List Int) (hl : zs.length ≤ 1048576) (hc : ∀ i, i < zs.length → w.cell? ⟨b, off + i, none⟩ = some (.int .i64 (zs.getD i 0))) :
    Calls Tryz.prog 125 #[.slice (some ⟨b, off, none⟩) zs.length c] w fun e w' => e = .returned (.bool (zs.all fixB)) ∧ w' = w := by
  obtain ⟨V, hV⟩ : ∃ V, zs.all fixB = V := ⟨_, rfl⟩
  rw [hV]
  have HV : Hid _ := hV
  have HC : Hid _ := hc
  clear hc hV
  go_enter Tryz.func125, Tryz.ntmps125
  go_wp2
  go_loop [7] (fun i => ∃ k : Nat, k ≤ zs.length ∧ i = .int .i64 k ∧ ∀ j, j < k → fixB (zs.getD j 0) = true) (fun i => zs.length - (intOf i).toNat)
  case atStart => exact ⟨0, Nat.zero_le _, rfl, fun j hj => absurd hj (by omega)⟩
  case round =>
    obtain ⟨k, hk, rfl, ha⟩ := hrel
    have HA : Hid _ := ha
    clear ha
    by_cases hlt : k < zs.length
    · have q := HC.out k hlt
      have hcall : Hid (∀ w, Calls Tryz.prog 112 #[.int .i64 (zs.getD k 0)] w fun e w' => e = .returned (.bool (fixB (zs.getD k 0))) ∧ w' = w) := fun w => igoodF _ w
      obtain ⟨x, hx⟩ : ∃ x, zs.getD k 0 = x := ⟨_, rfl⟩
      have HX : Hid (zs.getD k 0 = x) := hx
      rw [hx] at q hcall
      clear hx
      cases hf : fixB x with
      | true =>
        rw [hf] at hcall
        have HF : Hid (fixB x = true) := hf
        clear hf
        go_wp2_with fail
        refine (hcall.out _).mono ?_
        rintro e w1 ⟨rfl, rfl⟩
        go_wp2
        go_round
        case rel =>
          refine ⟨k + 1, by omega, by go_num, fun j hj => ?_⟩
          rcases Nat.lt_succ_iff_lt_or_eq.1 hj with h | h
          · exact HA.out j h
          · rw [h, HX.out]; exact HF.out
        case measure => simp [intOf]; omega
      | false =>
        rw [hf] at hcall
        have HF : Hid (V = false) := HV.out.symm.trans (all_false _ 0 zs k hlt (HX.out ▸ hf))
        clear hf
        go_wp2_with fail
        refine (hcall.out _).mono ?_
        rintro e w1 ⟨rfl, rfl⟩
        go_wp2
        go_ret
        exact ⟨ret_bool HF.out.symm, rfl⟩
    · have e : k = zs.length := by omega
      have HX : Hid (V = true) := HV.out.symm.trans (all_true _ 0 _ (fun j hj => HA.out j (by omega)))
      clear HA
      go_wp2
      go_ret
      exact ⟨ret_bool HX.out.symm, rfl⟩
end Go.Proofs.YtfdjjbgcaojcnaaGreat
