/-
  Points in memory, and what the laws' helpers do that measure rows of them, copy them, hold two against each other, mark one and look for the marks; each theorem names its conditions.
  What an append leaves as it was; each theorem names its conditions.
  Lists of the call's own whose elements are two cells each, to which is appended; each theorem names its conditions.
  Whether a number lies between two others, by the specification; no condition.
-/
import Derived.Test.YtjjndpbplclidaaJAA
import Derived.Maps.AppendAt
import Derived.OwnWalk
import Derived.Handy
import Derived.Deep.AppendLies
namespace Go.Proofs.Ytjjndpbplclidaa
open Go.ChangeShapes Go.WideShapes Go.ChangeAt Go.RowKit
set_option linter.unusedVariables false

abbrev Pnt := Int × Int
def ptAt (l : List Pnt) (i : Nat) : Pnt := l.getD i (0, 0)
abbrev ptV (p : Pnt) : Value := .agg #[.int .i64 p.1, .int .i64 p.2]
/-- The points l lie at a. -/
def Pts (w : World) (a : Option Addr) (l : List Pnt) : Prop :=
  l = [] ∨ ∃ b off, a = some ⟨b, off, none⟩ ∧ b < w.heap.size ∧ ∀ i, i < l.length → w.cell? ⟨b, off + i * 2, none⟩ = some (.int .i64 (ptAt l i).1) ∧ w.cell? ⟨b, off + i * 2 + 1, none⟩ = some (.int .i64 (ptAt l i).2)
theorem Pts.nw {w w' : World} {a : Option Addr} {l : List Pnt} (h : Pts w a l) (k : Nw w w') : Pts w' a l := by
  rcases h with h | ⟨b, off, rfl, hb, hc⟩
  · exact Or.inl h
  · exact Or.inr ⟨b, off, rfl, Nat.lt_of_lt_of_le hb (Below.size k), fun i hi => ⟨((bcell k).1 _ _ hb).trans (hc i hi).1, ((bcell k).1 _ _ hb).trans (hc i hi).2⟩⟩

theorem toPoint_any (w : World) (x y : Int) :
    Calls Try.prog 56 #[.agg #[.int .i64 x, .int .i64 y]] w fun e w' => e = .returned (.agg #[.int .i64 x, .int .i64 y]) ∧ Kp w w' := by
  go_enter Try.func56, Try.ntmps56
  go_wp2
  exact bodyPost_ret (v := .agg #[.int .i64 x, .int .i64 y]) (by simp [results, Try.results56, go_sem]) rfl ⟨rfl, (((Kp.refl w).alloc _ _).alloc _ _).alloc _ _⟩

theorem eqPoint_any (w : World) (x y : Int) :
    Calls Try.prog 64 #[.agg #[.int .i64 x, .int .i64 y], .agg #[.int .i64 x, .int .i64 y]] w fun e w' => e = .returned (.bool true) ∧ Nw w w' := by
  have hne : (x != x) = false := by simp
  have hne2 : (y != y) = false := by simp
  go_enter Try.func64, Try.ntmps64
  go_wp2
  go_ret
  exact ⟨rfl, ((Below.refl _ _).alloc (Nat.le_refl _) _).alloc (by simp) _⟩

theorem szPointS_any (w : World) (a : Option Addr) (n c : Nat) (left : Int) (h0 : 0 ≤ left) (h1 : left ≤ 1048576) (hm : n ≤ maxLen) :
    Calls Try.prog 23 #[.slice a n c, .int .i64 left] w fun e w' => e = .returned (.int .i64 (if (n : Int) ≤ left then left - (n : Int) else -1)) ∧ w' = w := by
  unfold maxLen at hm
  by_cases c1 : (n : Int) ≤ left
  · rw [if_pos c1]
    go_enter Try.func23, Try.ntmps23
    go_wp2
    go_ret
    exact ⟨rfl, rfl⟩
  · rw [if_neg c1]
    go_enter Try.func23, Try.ntmps23
    go_wp2
    go_ret
    exact ⟨rfl, rfl⟩

/-- A new list of which the first k points have been laid. -/
def LayPt (w : World) (g : Nat) (l : List Pnt) (k : Nat) : Prop :=
  g < w.heap.size ∧ (∀ i, i < k → w.cell? ⟨g, i * 2, none⟩ = some (.int .i64 (ptAt l i).1) ∧ w.cell? ⟨g, i * 2 + 1, none⟩ = some (.int .i64 (ptAt l i).2)) ∧ (∀ i, k ≤ i → i < l.length → w.cell? ⟨g, i * 2, none⟩ = some (.int .i64 0) ∧ w.cell? ⟨g, i * 2 + 1, none⟩ = some (.int .i64 0)) ∧ ∀ o, w.frozen? ⟨g, o, none⟩ = false
theorem LayPt.nw {w w' : World} {g k : Nat} {l : List Pnt} (h : LayPt w g l k) (q : Nw w w') : LayPt w' g l k :=
  ⟨Nat.lt_of_lt_of_le h.1 (Below.size q), fun i hi => ⟨((bcell q).1 _ _ h.1).trans (h.2.1 i hi).1, ((bcell q).1 _ _ h.1).trans (h.2.1 i hi).2⟩,
    fun i hi hj => ⟨((bcell q).1 _ _ h.1).trans (h.2.2.1 i hi hj).1, ((bcell q).1 _ _ h.1).trans (h.2.2.1 i hi hj).2⟩, fun o => ((bcell q).2 _ _ h.1).trans (h.2.2.2 o)⟩
theorem LayPt.step {w : World} {g k : Nat} {l : List Pnt} (h : LayPt w g l k) (hk : k < l.length) : LayPt ((w.setCell ⟨g, k * 2, none⟩ (.int .i64 (ptAt l k).1)).setCell ⟨g, k * 2 + 1, none⟩ (.int .i64 (ptAt l k).2)) g l (k + 1) := by
  obtain ⟨h2, h3, h4, h5⟩ := h
  obtain ⟨c0, c1⟩ := h4 k (Nat.le_refl _) hk
  have far : ∀ o, o ≠ k * 2 → o ≠ k * 2 + 1 → ((w.setCell ⟨g, k * 2, none⟩ (.int .i64 (ptAt l k).1)).setCell ⟨g, k * 2 + 1, none⟩ (.int .i64 (ptAt l k).2)).cell? ⟨g, o, none⟩ = w.cell? ⟨g, o, none⟩ := by
    intro o a b
    rw [World.cell?_setCell_other _ _ _ _ (fun h => by injection h; omega), World.cell?_setCell_other _ _ _ _ (fun h => by injection h; omega)]
  refine ⟨by simpa [World.setCell] using h2, fun m hm => ?_, fun m hm1 hm2 => ?_, fun o => ?_⟩
  · by_cases e : m = k
    · subst e
      refine ⟨?_, World.cell?_setCell_same (w.setCell ⟨g, m * 2, none⟩ _) ⟨g, m * 2 + 1, none⟩ _ ((World.cell?_setCell_other _ _ _ _ (fun h => by injection h; omega)).trans c1)⟩
      rw [World.cell?_setCell_other _ _ _ _ (fun h => by injection h; omega)]
      exact World.cell?_setCell_same w ⟨g, m * 2, none⟩ _ c0
    · rw [far _ (by omega) (by omega), far _ (by omega) (by omega)]; exact h3 m (by omega)
  · rw [far _ (by omega) (by omega), far _ (by omega) (by omega)]; exact h4 m (by omega) hm2
  · rw [World.frozen?_setCell, World.frozen?_setCell]; exact h5 o
theorem LayPt.off {w : World} {g k : Nat} {l : List Pnt} (h : LayPt w g l k) (b o : Nat) (v : Value) (hne : b ≠ g) : LayPt (w.setCell ⟨b, o, none⟩ v) g l k := by
  have far : ∀ x, (w.setCell ⟨b, o, none⟩ v).cell? ⟨g, x, none⟩ = w.cell? ⟨g, x, none⟩ := fun x => World.cell?_setCell_other _ _ _ _ (fun h => by injection h; omega)
  refine ⟨by simpa [World.setCell] using h.1, fun m hm => ?_, fun m hm1 hm2 => ?_, fun x => ?_⟩
  · rw [far, far]; exact h.2.1 m hm
  · rw [far, far]; exact h.2.2.1 m hm1 hm2
  · rw [World.frozen?_setCell]; exact h.2.2.2 x
theorem LayPt.pts {w : World} {g : Nat} {l : List Pnt} (h : LayPt w g l l.length) : Pts w (some ⟨g, 0, none⟩) l :=
  Or.inr ⟨g, 0, rfl, h.1, fun i hi => by simpa using h.2.1 i hi⟩
theorem Try.info54 : (Try.prog.info? 54).map (fun i => (i.zero, i.size, i.bytes)) = some (some (.agg #[.int .i64 0, .int .i64 0]), 2, 16) := by kernel_rfl
theorem LayPt.start (w : World) (l : List Pnt) (t : TypeId) : LayPt (w.alloc (.cells (madeCells #[.int .i64 0, .int .i64 0] (l.length * 2)) t)) w.heap.size l 0 := by
  refine ⟨by simp, fun i hi => absurd hi (by omega), fun i _ hi => ⟨?_, ?_⟩, fun o => World.frozen?_alloc_at _ _ _ _ rfl⟩
  · have := madeCells_get #[.int .i64 0, .int .i64 0] (l.length * 2) (i * 2) (by omega)
    simp at this
    simp [this]
  · have := madeCells_get #[.int .i64 0, .int .i64 0] (l.length * 2) (i * 2 + 1) (by omega)
    have e : (i * 2 + 1) % 2 = 1 := by omega
    simp [e] at this
    simp [this]
theorem toPointS_any (w : World) (a : Option Addr) (c : Nat) (l : List Pnt) (hm : l.length ≤ 1048576) (hr : Pts w a l) :
    Calls Try.prog 28 #[.slice a l.length c] w fun e w' => e = .returned (.slice (some ⟨w.heap.size, 0, none⟩) l.length l.length) ∧ Nw w w' ∧ LayPt w' w.heap.size l l.length := by
  have HR : Hid (Pts w a l) := hr
  clear hr
  have hmk := run_mk 30 54 _ 2 16 Try.underlying30 Try.info54 l.length (by omega) (by omega)
  have hcs : (Value.agg #[.int .i64 0, .int .i64 0]).cells = #[.int .i64 0, .int .i64 0] := rfl
  rw [hcs] at hmk
  go_enter Try.func28, Try.ntmps28
  go_wp2
  go_loopw [4] (fun i wr => ∃ k : Nat, k ≤ l.length ∧ i = .int .i64 k ∧ Nw w wr ∧ LayPt wr w.heap.size l k) (fun i _ => l.length - (intOf i).toNat)
  case atStart => exact ⟨0, Nat.zero_le _, rfl, (Below.refl _ _).alloc (Nat.le_refl _) _, LayPt.start w l _⟩
  case round =>
    obtain ⟨k, hk, rfl, hw, hlay⟩ := hrel
    clear hmk hcs
    by_cases hlt : k < l.length
    · rcases (HR.out.nw hw) with h | ⟨b, off, rfl, hbk, hc⟩
      · rw [h] at hlt; simp at hlt
      obtain ⟨q0, q1⟩ := hc k hlt
      clear hc
      have HW : Hid (Nw w wr) := hw
      obtain ⟨z0, z1⟩ := hlay.2.2.1 k (Nat.le_refl _) hlt
      have zf := hlay.2.2.2
      have HL : Hid _ := hlay
      clear hw hlay
      have hg : w.heap.size < wr.heap.size := HL.out.1
      go_wp2_with (go_at_call 56; refine (toPoint_any _ _ _).mono ?_; rintro e w' ⟨rfl, k1⟩; have y0 := ((Kp.cells k1).1 _ (k * 2) hg).trans z0; have y1 := ((Kp.cells k1).1 _ (k * 2 + 1) hg).trans z1; have yf : ∀ o, w'.frozen? ⟨w.heap.size, o, none⟩ = false := fun o => ((Kp.cells k1).2 _ o).trans (zf o); clear z0 z1 zf)
      go_roundw
      case rel =>
        refine ⟨k + 1, by omega, by go_num, ?_, LayPt.step (LayPt.nw HL.out k1.nw) hlt⟩
        have kb : Below w.heap.size w w' := HW.out.trans k1.nw
        exact (kb.setCell (Nat.le_refl _) _).setCell (Nat.le_refl _) _
      case measure => simp [intOf]; omega
    · have e : k = l.length := by omega
      subst e
      have HN : Hid (Nw w wr ∧ LayPt wr w.heap.size l l.length) := ⟨hw, hlay⟩
      clear hw hlay
      go_wp2
      go_ret
      exact ⟨rfl, HN.out⟩

theorem eqPointS_any (w : World) (a1 a2 : Option Addr) (c1 c2 : Nat) (l : List Pnt) (hl : l.length ≤ 1048576) (h1 : Pts w a1 l) (h2 : Pts w a2 l) :
    Calls Try.prog 39 #[.slice a1 l.length c1, .slice a2 l.length c2] w fun e w' => e = .returned (.bool true) ∧ Nw w w' := by
  have H1 : Hid (Pts w a1 l) := h1
  have H2 : Hid (Pts w a2 l) := h2
  clear h1 h2
  go_enter Try.func39, Try.ntmps39
  go_wp2
  go_loopw [5] (fun i wr => ∃ k : Nat, k ≤ l.length ∧ i = .int .i64 k ∧ Nw w wr) (fun i _ => l.length - (intOf i).toNat)
  case atStart => exact ⟨0, Nat.zero_le _, rfl, Below.refl _ _⟩
  case round =>
    obtain ⟨k, hk, rfl, hw⟩ := hrel
    by_cases hlt : k < l.length
    · rcases (H1.out.nw hw) with h | ⟨b1, o1, rfl, hb1, hc1⟩
      · rw [h] at hlt; simp at hlt
      rcases (H2.out.nw hw) with h | ⟨b2, o2, rfl, hb2, hc2⟩
      · rw [h] at hlt; simp at hlt
      obtain ⟨q0, q1⟩ := hc1 k hlt
      obtain ⟨r0, r1⟩ := hc2 k hlt
      clear hc1 hc2 H1 H2
      have HW : Hid (Nw w wr) := hw
      clear hw
      generalize (ptAt l k).1 = s at *
      generalize (ptAt l k).2 = t at *
      go_wp2
      go_region_with (go_at_call 64; refine (eqPoint_any _ _ _).mono ?_; rintro e w' ⟨rfl, k1⟩)
      all_goals
        go_wp2
        go_roundw
        case rel => exact ⟨k + 1, by omega, by go_num, HW.out.trans k1.drw⟩
        case measure => simp [intOf]; omega
    · have HW : Hid (Nw w wr) := hw
      clear hw
      go_wp2
      go_ret
      exact ⟨rfl, HW.out⟩

/-! ### Marks -/
/-- The points of a marked list. -/
def mkP (K n : Nat) : List Pnt := (List.range n).map fun i => (((K + 2 * i : Nat) : Int), ((K + 2 * i + 1 : Nat) : Int))
theorem mkP_len (K n : Nat) : (mkP K n).length = n := by simp [mkP]
theorem mkP_at (K n i : Nat) (h : i < n) : ptAt (mkP K n) i = (((K + 2 * i : Nat) : Int), ((K + 2 * i + 1 : Nat) : Int)) := by simp [ptAt, mkP, h]
/-- Points in the block g, which may be written: n of them, whatever they are. -/
def AnyPt (w : World) (g n : Nat) : Prop :=
  g < w.heap.size ∧ (∀ i, i < n → (∃ x : Int, w.cell? ⟨g, i * 2, none⟩ = some (.int .i64 x)) ∧ ∃ y : Int, w.cell? ⟨g, i * 2 + 1, none⟩ = some (.int .i64 y)) ∧ ∀ o, w.frozen? ⟨g, o, none⟩ = false
theorem LayPt.any {w : World} {g : Nat} {l : List Pnt} (h : LayPt w g l l.length) : AnyPt w g l.length := ⟨h.1, fun i hi => ⟨⟨_, (h.2.1 i hi).1⟩, ⟨_, (h.2.1 i hi).2⟩⟩, h.2.2.2⟩
theorem grP_refl (w : World) (r : Option Nat) : w.grownBy w r := ⟨rfl, rfl, rfl, Nat.le_refl _, fun _ _ _ => rfl⟩
theorem grP_set {a b : World} {g : Nat} (h : a.grownBy b (some g)) (o : Nat) (v : Value) : a.grownBy (b.setCell ⟨g, o, none⟩ v) (some g) :=
  ⟨h.os, h.tape, h.output, by simpa [World.setCell] using h.size, fun i hi hne => by
    rw [Below.heap_setCell _ _ _ _ (by intro e; apply hne; rw [e])]
    exact h.block i hi hne⟩
theorem grP_below {a b : World} {g B : Nat} (h : a.grownBy b (some g)) (hg : B ≤ g) (hB : B ≤ a.heap.size) : Below B a b :=
  ⟨h.os, h.tape, h.output, h.size, fun i hi => h.block i (by omega) (by intro e; injection e; omega)⟩
/-- A row of points of which the first j bear marks. -/
def MkPt (w : World) (g K n j : Nat) : Prop :=
  g < w.heap.size ∧ (∀ i, i < j → w.cell? ⟨g, i * 2, none⟩ = some (.int .i64 ((K + 2 * i : Nat) : Int)) ∧ w.cell? ⟨g, i * 2 + 1, none⟩ = some (.int .i64 ((K + 2 * i + 1 : Nat) : Int))) ∧
    (∀ i, j ≤ i → i < n → (∃ x : Int, w.cell? ⟨g, i * 2, none⟩ = some (.int .i64 x)) ∧ ∃ y : Int, w.cell? ⟨g, i * 2 + 1, none⟩ = some (.int .i64 y)) ∧ ∀ o, w.frozen? ⟨g, o, none⟩ = false
theorem AnyPt.mk0 {w : World} {g n : Nat} (h : AnyPt w g n) (K : Nat) : MkPt w g K n 0 := ⟨h.1, fun i hi => absurd hi (by omega), fun i _ b => h.2.1 i b, h.2.2⟩
theorem MkPt.step {w : World} {g K n j : Nat} (h : MkPt w g K n j) (hj : j < n) : MkPt ((w.setCell ⟨g, j * 2, none⟩ (.int .i64 ((K + 2 * j : Nat) : Int))).setCell ⟨g, j * 2 + 1, none⟩ (.int .i64 ((K + 2 * j + 1 : Nat) : Int))) g K n (j + 1) := by
  obtain ⟨h1, h2, h3, h4⟩ := h
  obtain ⟨⟨s0, c0⟩, ⟨s1, c1⟩⟩ := h3 j (Nat.le_refl _) hj
  have far : ∀ o, o ≠ j * 2 → o ≠ j * 2 + 1 → ((w.setCell ⟨g, j * 2, none⟩ (.int .i64 ((K + 2 * j : Nat) : Int))).setCell ⟨g, j * 2 + 1, none⟩ (.int .i64 ((K + 2 * j + 1 : Nat) : Int))).cell? ⟨g, o, none⟩ = w.cell? ⟨g, o, none⟩ := by
    intro o a b
    rw [World.cell?_setCell_other _ _ _ _ (fun h => by injection h; omega), World.cell?_setCell_other _ _ _ _ (fun h => by injection h; omega)]
  refine ⟨by simpa [World.setCell] using h1, fun i hi => ?_, fun i a b => ?_, fun o => by rw [World.frozen?_setCell, World.frozen?_setCell]; exact h4 o⟩
  · by_cases e : i = j
    · subst e
      refine ⟨?_, World.cell?_setCell_same (w.setCell ⟨g, i * 2, none⟩ _) ⟨g, i * 2 + 1, none⟩ _ ((World.cell?_setCell_other _ _ _ _ (fun h => by injection h; omega)).trans c1)⟩
      rw [World.cell?_setCell_other _ _ _ _ (fun h => by injection h; omega)]
      exact World.cell?_setCell_same w ⟨g, i * 2, none⟩ _ c0
    · rw [far _ (by omega) (by omega), far _ (by omega) (by omega)]; exact h2 i (by omega)
  · rw [far _ (by omega) (by omega), far _ (by omega) (by omega)]; exact h3 i (by omega) b
theorem MkPt.lay {w : World} {g K n : Nat} (h : MkPt w g K n n) : LayPt w g (mkP K n) n :=
  ⟨h.1, fun i hi => by rw [mkP_at K n i hi]; exact h.2.1 i hi, fun i a b => absurd b (by rw [mkP_len]; omega), h.2.2.2⟩
set_option maxHeartbeats 1000000 in
theorem markPt_any (w : World) (g c K n : Nat) (hl : n ≤ 1048576) (hK2 : K ≤ 50000000) (h : AnyPt w g n) :
    Calls Try.prog 40 #[.slice (some ⟨g, 0, none⟩) n c, .int .i64 (K : Int)] w fun e w' => e = .returned (.int .i64 ((K + 2 * n : Nat) : Int)) ∧ w.grownBy w' (some g) ∧ LayPt w' g (mkP K n) n := by
  have HS : Hid (MkPt w g K n 0) := h.mk0 K
  clear h
  go_enter Try.func40, Try.ntmps40
  go_wp2
  go_loopw [1, 5] (fun x i wr => ∃ j : Nat, j ≤ n ∧ i = .int .i64 j ∧ x = .int .i64 ((K + 2 * j : Nat) : Int) ∧ w.grownBy wr (some g) ∧ MkPt wr g K n j) (fun _ i _ => n - (intOf i).toNat)
  case atStart => exact ⟨0, Nat.zero_le _, rfl, rfl, grP_refl _ _, HS.out⟩
  case round =>
    obtain ⟨j, hj, rfl, rfl, hw, hm⟩ := hrel
    have HW : Hid (w.grownBy wr (some g)) := hw
    have HM : Hid (MkPt wr g K n j) := hm
    clear hw hm
    by_cases hlt : j < n
    · obtain ⟨⟨s0, c0⟩, ⟨s1, c1⟩⟩ := HM.out.2.2.1 j (Nat.le_refl _) hlt
      have hf0 := HM.out.2.2.2
      have HK : Hid ((K : Int) + 2 * (j : Int) = ((K + 2 * j : Nat) : Int)) := by show _ = _; omega
      go_wp2
      go_roundw
      case rel =>
        refine ⟨j + 1, by omega, by go_num, by go_num, grP_set (grP_set HW.out _ _) _ _, ?_⟩
        have h := HM.out.step hlt
        rw [show ((K + 2 * j : Nat) : Int) = (K : Int) + 2 * (j : Int) by omega, show ((K + 2 * j + 1 : Nat) : Int) = (K : Int) + 2 * (j : Int) + 1 by omega] at h
        exact h
      case measure => simp [intOf]; omega
    · have e : j = n := by omega
      subst e
      go_wp2
      go_ret
      exact ⟨rfl, HW.out, HM.out.lay⟩
/-- The same of no list at all. -/
theorem markPt_nil (w : World) (K : Nat) (hK2 : K ≤ 50000000) :
    Calls Try.prog 40 #[.slice none 0 0, .int .i64 (K : Int)] w fun e w' => e = .returned (.int .i64 (K : Int)) ∧ w' = w := by
  go_enter Try.func40, Try.ntmps40
  go_wp2
  go_loop [1, 5] (fun x i => x = .int .i64 (K : Int) ∧ i = .int .i64 0) (fun _ _ => 0)
  case atStart => exact ⟨rfl, rfl⟩
  case round =>
    obtain ⟨rfl, rfl⟩ := hrel
    go_wp2
    go_ret
    exact ⟨rfl, rfl⟩
end Go.Proofs.Ytjjndpbplclidaa
namespace Go.Proofs.Ytjjndpbplclidaa
open Go.ChangeShapes Go.WideShapes Go.ChangeAt Go.RowKit
set_option linter.unusedVariables false

/-- Behind an append to v, which is v' now. -/
def Ext (v v' : Value) (w w' : World) : Prop := w.grownBy w' v.ownBlock ∧ (v'.ownBlock = v.ownBlock ∨ ∃ g, v'.ownBlock = some g ∧ w.heap.size ≤ g)
theorem Ext.refl (v : Value) (w : World) : Ext v v w w := ⟨⟨rfl, rfl, rfl, Nat.le_refl _, fun _ _ _ => rfl⟩, Or.inl rfl⟩
theorem Ext.size {v v' : Value} {w w' : World} (h : Ext v v' w w') : w.heap.size ≤ w'.heap.size := h.1.size
theorem Ext.trans {v v1 v2 : Value} {w w1 w2 : World} (h : Ext v v1 w w1) (k : Ext v1 v2 w1 w2) : Ext v v2 w w2 := by
  refine ⟨⟨k.1.os.trans h.1.os, k.1.tape.trans h.1.tape, k.1.output.trans h.1.output, Nat.le_trans h.1.size k.1.size, fun b hb hne => ?_⟩, ?_⟩
  · rw [k.1.block b (Nat.lt_of_lt_of_le hb h.1.size) ?_, h.1.block b hb hne]
    rcases h.2 with e | ⟨g, e, hg⟩
    · rw [e]; exact hne
    · rw [e]; intro e2; injection e2; omega
  · rcases k.2 with e | ⟨g, e, hg⟩
    · rcases h.2 with e2 | ⟨g, e2, hg⟩
      · exact Or.inl (e.trans e2)
      · exact Or.inr ⟨g, e.trans e2, hg⟩
    · exact Or.inr ⟨g, e, Nat.le_trans h.1.size hg⟩
theorem Nw.ext {v v' : Value} {a b c : World} (h : Nw a b) (k : Ext v v' b c) : Ext v v' a c := by
  have hs := Below.size h
  refine ⟨⟨k.1.os.trans (Below.os h), k.1.tape.trans (Below.tape h), k.1.output.trans (Below.output h), Nat.le_trans hs k.1.size, fun b hb hne => ?_⟩, ?_⟩
  · rw [k.1.block b (by omega) hne, Below.block h b hb]
  · rcases k.2 with e | ⟨g, e, hg⟩
    · exact Or.inl e
    · exact Or.inr ⟨g, e, by omega⟩
theorem Ext.nw {v v' : Value} {a b c : World} (h : Ext v v' a b) (k : Nw b c) : Ext v v' a c := by
  have hs := h.1.size
  refine ⟨⟨(Below.os k).trans h.1.os, (Below.tape k).trans h.1.tape, (Below.output k).trans h.1.output, Nat.le_trans hs (Below.size k), fun b hb hne => ?_⟩, h.2⟩
  rw [Below.block k b (by omega), h.1.block b hb hne]
theorem Ext.below {v v' : Value} {w w' : World} {B : Nat} (h : Ext v v' w w') (hv : ∀ g, v.ownBlock = some g → B ≤ g) (hB : B ≤ w.heap.size) : Below B w w' :=
  ⟨h.1.os, h.1.tape, h.1.output, h.1.size, fun k hk => h.1.block k (by omega) (fun e => by have := hv k e.symm; omega)⟩
theorem Ext.apart {v v' : Value} {w w' : World} {b : Nat} (h : Ext v v' w w') (hb : b < w.heap.size) (hne : v.ownBlock ≠ some b) : v'.ownBlock ≠ some b := by
  rcases h.2 with e | ⟨g, e, hg⟩
  · rw [e]; exact hne
  · rw [e]; intro e2; injection e2; omega
theorem Ext.cell {v v' : Value} {w w' : World} {b : Nat} (h : Ext v v' w w') (hb : b < w.heap.size) (hne : v.ownBlock ≠ some b) (o : Nat) : w'.cell? ⟨b, o, none⟩ = w.cell? ⟨b, o, none⟩ :=
  World.cell?_of_block (w := w) (a := ⟨b, o, none⟩) (h.1.block b hb (fun e => hne e.symm))

theorem set_grown {w : World} {b o : Nat} {u : Value} : w.grownBy (w.setCell ⟨b, o, none⟩ u) (some b) :=
  ⟨rfl, rfl, rfl, by simp [World.setCell], fun i hi hne => Below.heap_setCell _ _ _ _ (by intro e; apply hne; rw [e])⟩
end Go.Proofs.Ytjjndpbplclidaa
namespace Go.Proofs.Ytjjndpbplclidaa
open Go.ChangeShapes Go.WideShapes Go.ChangeAt Go.RowKit
set_option linter.unusedVariables false

abbrev VV := Value × Value
def flat2 : List VV → List Value
  | [] => []
  | p :: l => p.1 :: p.2 :: flat2 l
theorem flat2_len (l : List VV) : (flat2 l).length = l.length * 2 := by
  induction l with
  | nil => rfl
  | cons p l ih => simp only [flat2, List.length_cons, ih]; omega
theorem flat2_append (l m : List VV) : flat2 (l ++ m) = flat2 l ++ flat2 m := by
  induction l with
  | nil => rfl
  | cons p l ih => simp only [flat2, List.cons_append, ih]
def vvAt (l : List VV) (i : Nat) : VV := l.getD i (undef, undef)
theorem flat2_at (l : List VV) : ∀ i, i < l.length → (flat2 l)[i * 2]? = some (vvAt l i).1 ∧ (flat2 l)[i * 2 + 1]? = some (vvAt l i).2 := by
  induction l with
  | nil => intro i hi; simp at hi
  | cons p l ih =>
    intro i hi
    cases i with
    | zero => exact ⟨rfl, rfl⟩
    | succ i =>
      have h := ih i (by simpa using hi)
      have e : (i + 1) * 2 = i * 2 + 2 := by omega
      rw [e]
      simpa [flat2, vvAt] using h
/-- The elements l in a list of the call's own, nil or in a block from B on. -/
def OwnQ (T : TypeId) (w : World) (B : Nat) (v : Value) (l : List VV) : Prop := w.ownsRow B T 2 v l.length (flat2 l)
theorem OwnQ.nil (T : TypeId) (w : World) (B : Nat) : OwnQ T w B (.slice none 0 0) [] := World.ownsRow_nil w B T 2
theorem OwnQ.nw {T : TypeId} {w w' : World} {B : Nat} {v : Value} {l : List VV} (h : OwnQ T w B v l) (k : Nw w w') : OwnQ T w' B v l :=
  World.ownsRow.kept h (row := none) ⟨Below.os k, Below.tape k, Below.output k, Below.size k, fun b hb _ => Below.block k b hb⟩ (by cases hv : v.ownBlock <;> simp)
theorem OwnQ.keep {T : TypeId} {w w' : World} {B : Nat} {u v v' : Value} {l : List VV} (h : OwnQ T w B u l) (k : Ext v v' w w') (hne : u.ownBlock = none ∨ u.ownBlock ≠ v.ownBlock) : OwnQ T w' B u l :=
  World.ownsRow.kept h k.1 hne
theorem OwnQ.lt {T : TypeId} {w : World} {B : Nat} {v : Value} {l : List VV} (h : OwnQ T w B v l) : ∀ g, v.ownBlock = some g → B ≤ g ∧ g < w.heap.size := World.ownsRow.lt h
theorem OwnQ.base {T : TypeId} {w : World} {B B' : Nat} {v : Value} {l : List VV} (h : OwnQ T w B v l) (hB : B' ≤ B) : OwnQ T w B' v l := by
  refine ⟨h.1, ?_⟩
  rcases h.2 with hn | ⟨g, cap, cur, h1, h2, h3⟩
  · exact Or.inl hn
  · exact Or.inr ⟨g, cap, cur, h1, by omega, h3⟩
theorem OwnQ.far {T : TypeId} {w : World} {B : Nat} {v : Value} {l : List VV} (h : OwnQ T w B v l) (b o : Nat) (u : Value) (hne : v.ownBlock ≠ some b) : OwnQ T (w.setCell ⟨b, o, none⟩ u) B v l :=
  World.ownsRow.kept h set_grown (Or.inr hne)
/-- Nil, or where it lies. -/
theorem OwnQ.form {T : TypeId} {w : World} {B : Nat} {v : Value} {l : List VV} (h : OwnQ T w B v l) : (v = .slice none 0 0 ∧ l = []) ∨ ∃ g c, v = .slice (some ⟨g, 0, none⟩) l.length c ∧ B ≤ g ∧ g < w.heap.size ∧ l.length ≤ c ∧ c ≤ maxLen ∧
    (∀ i, i < l.length → w.cell? ⟨g, i * 2, none⟩ = some (vvAt l i).1 ∧ w.cell? ⟨g, i * 2 + 1, none⟩ = some (vvAt l i).2) ∧ ∀ o, w.frozen? ⟨g, o, none⟩ = false := by
  have h0 := h
  unfold OwnQ at h0
  rcases h.2 with ⟨hn, h1⟩ | ⟨g, cap, cur, h1, h2, h3, h4, h5, h6, h7⟩
  · exact Or.inl ⟨hn, List.eq_nil_of_length_eq_zero h1⟩
  · subst h1
    refine Or.inr ⟨g, cap, rfl, h2, (h.lt g rfl).2, h4, h5, fun i hi => ?_, fun o => World.ownsRow.frozenAt h0 o⟩
    obtain ⟨e1, e2⟩ := flat2_at l i hi
    have c1 := World.ownsRow.cellAt h0 (i * 2) (by omega)
    have c2 := World.ownsRow.cellAt h0 (i * 2 + 1) (by omega)
    rw [c1, c2, e1, e2]
    exact ⟨rfl, rfl⟩
theorem append_mix (t u ty e : TypeId) (ht : Try.prog.underlying t = some (.slice e)) (hu : Try.prog.underlying u = some (.slice e)) (sa : Option Addr) (sn sc : Nat) (x : Value) (w : World) :
    (Builtin.append_ #[t, u] ty #[.slice sa sn sc, x]).run Try.prog w = (Builtin.append_ #[t, t] ty #[.slice sa sn sc, x]).run Try.prog w := by
  have h : ∀ w', (underlying u).run Try.prog w' = (underlying t).run Try.prog w' := fun w' => by rw [run_underlying hu, run_underlying ht]
  simp only [Builtin.append_, Sem.run_bind, List.getElem?_toArray, List.getElem?_cons_zero, List.getElem?_cons_succ, run_underlying ht, Result.andThen_ok, h]
theorem OwnQ.slice {T : TypeId} {w : World} {B : Nat} {v : Value} {l : List VV} (h : OwnQ T w B v l) : ∃ a n c, v = .slice a n c := by
  rcases h.2 with ⟨hn, _⟩ | ⟨g, cap, cur, h1, _⟩
  · exact ⟨_, _, _, hn⟩
  · exact ⟨_, _, _, h1⟩
section
variable (T t1 t2 : TypeId) (z0 z1 : Value) (bytes : Nat) (ht1 : Try.prog.underlying t1 = some (.slice T)) (ht2 : Try.prog.underlying t2 = some (.slice T))
  (hinfo : (Try.prog.info? T).map (fun i => (i.zero, i.size, i.bytes)) = some (some (.agg #[z0, z1]), 2, bytes)) (hb : bytes ≤ 64) (hzz : (Value.agg #[z0, z1]).cells.size = 2)
include ht1 ht2 hinfo hb hzz
theorem run_q (ty : TypeId) (w : World) (B : Nat) (v : Value) (l news : List VV) (hown : OwnQ T w B v l) (g off c : Nat)
    (hc : ∀ i, i < news.length → w.cell? ⟨g, off + i * 2, none⟩ = some (vvAt news i).1 ∧ w.cell? ⟨g, off + i * 2 + 1, none⟩ = some (vvAt news i).2) (h1 : ∀ u ∈ flat2 news, u.oneCell' = true)
    (hn : 0 < news.length) (hl : l.length + news.length ≤ 10000000) (hB : B ≤ w.heap.size) :
    ∃ g' c' w', (Builtin.append_ #[t1, t2] ty #[v, .slice (some ⟨g, off, none⟩) news.length c]).run Try.prog w = .ok (.slice (some ⟨g', 0, none⟩) (l.length + news.length) c') w' ∧
      OwnQ T w' B (.slice (some ⟨g', 0, none⟩) (l.length + news.length) c') (l ++ news) ∧ Ext v (.slice (some ⟨g', 0, none⟩) (l.length + news.length) c') w w' := by
  obtain ⟨i0, hi, hzz'⟩ := Option.map_eq_some_iff.1 hinfo
  simp only [Prod.mk.injEq] at hzz'
  obtain ⟨hz0, hz1, hz2⟩ := hzz'
  obtain ⟨sa, sn, sc, rfl⟩ := hown.slice
  rw [append_mix t1 t2 ty T ht1 ht2]
  have hnews : ∀ j u, (flat2 news)[j]? = some u → w.cell? ((⟨g, off, none⟩ : Addr).add j) = some u := by
    intro j u hj
    have hj2 : j < news.length * 2 := by
      have := (List.getElem?_eq_some_iff.1 hj).1
      rw [flat2_len] at this; exact this
    rw [add_at]
    have e := flat2_at news (j / 2) (by omega)
    have c0 := hc (j / 2) (by omega)
    rcases (show j = j / 2 * 2 ∨ j = j / 2 * 2 + 1 by omega) with h | h
    · rw [h] at hj ⊢
      rw [e.1] at hj
      rw [c0.1]; exact hj
    · rw [h] at hj ⊢
      rw [e.2] at hj
      rw [← Nat.add_assoc, c0.2]; exact hj
  obtain ⟨g', cap, w', hr, h2, h3, h4, h5⟩ := run_append_lies (P := Try.prog) w t1 ty B T i0 (.agg #[z0, z1]) 2 bytes ht1 hi hz0 hz1 hz2 hzz (by decide) (.slice sa sn sc) l.length (flat2 l) hown ⟨g, off, none⟩ news.length c (flat2 news) (flat2_len news) hnews h1 hn (by unfold maxLen; omega)
    (Nat.le_trans (Nat.mul_le_mul hl hb) (by decide)) hB w.heap.size rfl
  refine ⟨g', cap, w', hr, ?_, h3, ?_⟩
  · unfold OwnQ
    rw [List.length_append, flat2_append]
    exact h2
  · rcases h4 with h4 | h4
    · exact Or.inl (by rw [h4]; rfl)
    · exact Or.inr ⟨g', rfl, by omega⟩
variable (w : World) {ops : Array Oper} {o : Oper} {a : Act} (s x : Operand) (ho : o.op = .call { callee := .builtin .append, args := #[s, x], argTypes := #[t1, t2] })
  (B : Nat) (v : Value) (l news : List VV) (hs : a.eval s = v) (hown : OwnQ T w B v l) (g off m c : Nat) (hm : m = news.length) (hx : a.eval x = .slice (some ⟨g, off, none⟩) m c)
  (hc : ∀ i, i < news.length → w.cell? ⟨g, off + i * 2, none⟩ = some (vvAt news i).1 ∧ w.cell? ⟨g, off + i * 2 + 1, none⟩ = some (vvAt news i).2) (h1 : ∀ u ∈ flat2 news, u.oneCell' = true)
  (hn : 0 < news.length) (hl : l.length + news.length ≤ 10000000) (hB : B ≤ w.heap.size)
include ho hs hown hx hc h1 hn hl hB hm
theorem wp_q {K : Act → World → Prop} {Q : Exit → Act → World → Prop}
    (h : ∀ g' c' w', OwnQ T w' B (.slice (some ⟨g', 0, none⟩) (l.length + m) c') (l ++ news) → Ext v (.slice (some ⟨g', 0, none⟩) (l.length + m) c') w w' → K (a.put o.dst (.slice (some ⟨g', 0, none⟩) (l.length + m) c')) w') : o.wp Try.prog a w K Q := by
  subst hm
  obtain ⟨g', c', w', hr, h2, h3⟩ := run_q T t1 t2 z0 z1 bytes ht1 ht2 hinfo hb hzz o.type w B v l news hown g off c hc h1 hn hl hB
  unfold Oper.wp execOp
  simp only [ho, resolve, invoke, builtin, Sem.run_bind, Sem.run_pure, Result.andThen_ok, List.map_toArray, List.map_cons, List.map_nil, hs, hx, hr]
  exact h g' c' w' h2 h3
theorem wpl_q (hgd : o.guard = none) {rest : List Oper} {Q : Exit → Act → World → Prop}
    (h : ∀ g' c' w', OwnQ T w' B (.slice (some ⟨g', 0, none⟩) (l.length + m) c') (l ++ news) → Ext v (.slice (some ⟨g', 0, none⟩) (l.length + m) c') w w' → wpList Try.prog ops Q rest (a.put o.dst (.slice (some ⟨g', 0, none⟩) (l.length + m) c')) w') : wpList Try.prog ops Q (o :: rest) a w :=
  wpList_plain hgd fun _ hK => wp_q T t1 t2 z0 z1 bytes ht1 ht2 hinfo hb hzz w s x ho B v l news hs hown g off m c hm hx hc h1 hn hl hB fun g' c' w' h2 h3 => hK _ _ (h g' c' w' h2 h3)
theorem st_q (hgd : o.guard = none) {K : Act → World → Prop} {Q : Exit → Act → World → Prop} {E : Prop}
    (h : ∀ g' c' w', OwnQ T w' B (.slice (some ⟨g', 0, none⟩) (l.length + m) c') (l ++ news) → Ext v (.slice (some ⟨g', 0, none⟩) (l.length + m) c') w w' → K (a.put o.dst (.slice (some ⟨g', 0, none⟩) (l.length + m) c')) w') :
    if Region.wanted o (yielded ops a.tmps) = true then Oper.wp Try.prog o a w K Q else E := by
  have hw : Region.wanted o (yielded ops a.tmps) = true := by simp [Region.wanted, hgd]
  rw [if_pos hw]
  exact wp_q T t1 t2 z0 z1 bytes ht1 ht2 hinfo hb hzz w s x ho B v l news hs hown g off m c hm hx hc h1 hn hl hB h
end
/-! ### Points -/
def vP (l : List Pnt) : List VV := l.map fun p => (.int .i64 p.1, .int .i64 p.2)
theorem vP_len (l : List Pnt) : (vP l).length = l.length := by simp [vP]
theorem vP_append (l m : List Pnt) : vP (l ++ m) = vP l ++ vP m := by simp [vP]
theorem vP_at (l : List Pnt) (i : Nat) (h : i < l.length) : vvAt (vP l) i = (.int .i64 (ptAt l i).1, .int .i64 (ptAt l i).2) := by simp [vvAt, vP, ptAt, h]
theorem vP_one (l : List Pnt) : ∀ u ∈ flat2 (vP l), u.oneCell' = true := by
  induction l with
  | nil => intro u hu; simp [vP, flat2] at hu
  | cons p l ih =>
    intro u hu
    simp only [vP, List.map_cons, flat2, List.mem_cons] at hu
    rcases hu with rfl | rfl | hu
    · rfl
    · rfl
    · exact ih u hu
/-- The points l in a list of the call's own. -/
def OwnP (w : World) (B : Nat) (v : Value) (l : List Pnt) : Prop := OwnQ 54 w B v (vP l)
theorem OwnP.nil (w : World) (B : Nat) : OwnP w B (.slice none 0 0) [] := OwnQ.nil _ w B
theorem OwnP.nw {w w' : World} {B : Nat} {v : Value} {l : List Pnt} (h : OwnP w B v l) (k : Nw w w') : OwnP w' B v l := OwnQ.nw h k
theorem OwnP.lay {w : World} {B : Nat} {v : Value} {l : List Pnt} (h : OwnP w B v l) : (v = .slice none 0 0 ∧ l = []) ∨ ∃ g c, v = .slice (some ⟨g, 0, none⟩) l.length c ∧ B ≤ g ∧ LayPt w g l l.length := by
  rcases OwnQ.form h with ⟨h1, h2⟩ | ⟨g, c, h1, h2, h3, _, _, h4, h5⟩
  · exact Or.inl ⟨h1, by simpa [vP] using h2⟩
  · rw [vP_len] at h1 h4
    refine Or.inr ⟨g, c, h1, h2, h3, fun i hi => ?_, fun i a b => by omega, h5⟩
    rw [← show (vvAt (vP l) i).1 = Value.int .i64 (ptAt l i).1 by rw [vP_at l i hi], ← show (vvAt (vP l) i).2 = Value.int .i64 (ptAt l i).2 by rw [vP_at l i hi]]
    exact h4 i hi
theorem OwnP.pts {w : World} {B : Nat} {v : Value} {l : List Pnt} (h : OwnP w B v l) : ∃ a c, v = .slice a l.length c ∧ Pts w a l := by
  rcases h.lay with ⟨rfl, rfl⟩ | ⟨g, c, rfl, _, h3⟩
  · exact ⟨none, 0, rfl, Or.inl rfl⟩
  · exact ⟨_, c, rfl, h3.pts⟩
end Go.Proofs.Ytjjndpbplclidaa
namespace Go.Proofs.Ytjjndpbplclidaa
open Go.ChangeShapes Go.WideShapes Go.ChangeAt Go.RowKit
set_option linter.unusedVariables false

theorem ret_bool {a b : Bool} (h : a = b) : Ending.returned (.bool a) = .returned (.bool b) := by rw [h]
theorem in_any (w : World) (n lo hi : Int) : Calls Try.prog 24 #[.int .i64 n, .int .i64 lo, .int .i64 hi] w fun e w' => e = .returned (.bool (decide (lo ≤ n ∧ n ≤ hi))) ∧ w' = w := by
  go_enter Try.func24, Try.ntmps24
  go_wp2
  all_goals
    go_ret
    exact ⟨ret_bool (by rw [Bool.eq_iff_iff]; simp; omega), rfl⟩

theorem all_false {α : Type} (f : α → Bool) (d : α) (l : List α) (k : Nat) (hk : k < l.length) (h : f (l.getD k d) = false) : l.all f = false := by
  rw [List.all_eq_false]
  refine ⟨l.getD k d, ?_, by rw [h]; decide⟩
  rw [show l.getD k d = l[k] by simp [hk]]
  exact List.getElem_mem hk
theorem all_true {α : Type} (f : α → Bool) (d : α) (l : List α) (h : ∀ k, k < l.length → f (l.getD k d) = true) : l.all f = true := by
  rw [List.all_eq_true]
  intro x hx
  obtain ⟨k, hk, rfl⟩ := List.getElem_of_mem hx
  have := h k hk
  rw [show l.getD k d = l[k] by simp [hk]] at this
  exact this
end Go.Proofs.Ytjjndpbplclidaa
