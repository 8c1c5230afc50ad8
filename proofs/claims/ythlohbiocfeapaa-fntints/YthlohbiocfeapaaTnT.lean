/-
  Tints: what the laws' helpers do that copy one, and rows of them: measure, copy, hold two against each other, mark one and look for the marks; each theorem names its conditions.
-/
import Derived.Test.YthlohbiocfeapaaQ4
import Derived.Test.YthlohbiocfeapaaMkl
namespace Go.Proofs.Ythlohbiocfeapaa
open Go.ChangeShapes Go.WideShapes Go.ChangeAt Go.RowKit
set_option linter.unusedVariables false

theorem toTint_any (w : World) (t : Edg) :
    Calls Try.prog 23 #[edV t] w fun e w' => e = .returned (edV t) ∧ Kp w w' := by
  obtain ⟨r, g, b, a⟩ := t
  unfold edV
  simp only
  go_enter Try.func23, Try.ntmps23
  go_wp2
  exact bodyPost_ret (v := .agg #[.int .i64 r, .int .i64 g, .int .i64 b, .int .i64 a]) (by simp [results, Try.results23, go_sem]) rfl ⟨rfl, (((Kp.refl w).alloc _ _).alloc _ _).alloc _ _⟩
theorem eqTint_any (w : World) (t : Edg) :
    Calls Try.prog 27 #[edV t, edV t] w fun e w' => e = .returned (.bool true) ∧ Nw w w' := by
  obtain ⟨r, g, b, a⟩ := t
  unfold edV
  simp only
  have h1 : (r != r) = false := by simp
  have h2 : (g != g) = false := by simp
  have h3 : (b != b) = false := by simp
  have h4 : (a != a) = false := by simp
  go_enter Try.func27, Try.ntmps27
  go_wp2
  go_ret
  exact ⟨rfl, ((Below.refl _ _).alloc (Nat.le_refl _) _).alloc (by simp) _⟩
theorem szTintS_any (w : World) (a : Option Addr) (n c : Nat) (left : Int) (h0 : 0 ≤ left) (h1 : left ≤ 1048576) (hm : n ≤ maxLen) :
    Calls Try.prog 90 #[.slice a n c, .int .i64 left] w fun e w' => e = .returned (.int .i64 (if (n : Int) ≤ left then left - (n : Int) else -1)) ∧ w' = w := by
  unfold maxLen at hm
  by_cases c1 : (n : Int) ≤ left
  · rw [if_pos c1]
    go_enter Try.func90, Try.ntmps90
    go_wp2
    go_ret
    exact ⟨rfl, rfl⟩
  · rw [if_neg c1]
    go_enter Try.func90, Try.ntmps90
    go_wp2
    go_ret
    exact ⟨rfl, rfl⟩
/-- A new list of which the first k have been laid. -/
def LayQ (w : World) (g : Nat) (l : List Edg) (k : Nat) : Prop :=
  g < w.heap.size ∧ (∀ i, i < k → w.cell? ⟨g, i * 4, none⟩ = some (.int .i64 (edAt l i).ax) ∧ w.cell? ⟨g, i * 4 + 1, none⟩ = some (.int .i64 (edAt l i).ay) ∧ w.cell? ⟨g, i * 4 + 2, none⟩ = some (.int .i64 (edAt l i).bx) ∧ w.cell? ⟨g, i * 4 + 3, none⟩ = some (.int .i64 (edAt l i).cy)) ∧ (∀ i, k ≤ i → i < l.length → w.cell? ⟨g, i * 4, none⟩ = some (.int .i64 0) ∧ w.cell? ⟨g, i * 4 + 1, none⟩ = some (.int .i64 0) ∧ w.cell? ⟨g, i * 4 + 2, none⟩ = some (.int .i64 0) ∧ w.cell? ⟨g, i * 4 + 3, none⟩ = some (.int .i64 0)) ∧ ∀ o, w.frozen? ⟨g, o, none⟩ = false
theorem LayQ.nw {w w' : World} {g k : Nat} {l : List Edg} (h : LayQ w g l k) (q : Nw w w') : LayQ w' g l k :=
  ⟨Nat.lt_of_lt_of_le h.1 (Below.size q), fun i hi => ⟨((bcell q).1 _ _ h.1).trans (h.2.1 i hi).1, ((bcell q).1 _ _ h.1).trans (h.2.1 i hi).2.1, ((bcell q).1 _ _ h.1).trans (h.2.1 i hi).2.2.1, ((bcell q).1 _ _ h.1).trans (h.2.1 i hi).2.2.2⟩,
    fun i hi hj => ⟨((bcell q).1 _ _ h.1).trans (h.2.2.1 i hi hj).1, ((bcell q).1 _ _ h.1).trans (h.2.2.1 i hi hj).2.1, ((bcell q).1 _ _ h.1).trans (h.2.2.1 i hi hj).2.2.1, ((bcell q).1 _ _ h.1).trans (h.2.2.1 i hi hj).2.2.2⟩, fun o => ((bcell q).2 _ _ h.1).trans (h.2.2.2 o)⟩
theorem set4_at (w : World) (g b : Nat) (x0 x1 x2 x3 : Value) {u0 u1 u2 u3 : Value} (h0 : w.cell? ⟨g, b, none⟩ = some u0) (h1 : w.cell? ⟨g, b + 1, none⟩ = some u1) (h2 : w.cell? ⟨g, b + 2, none⟩ = some u2) (h3 : w.cell? ⟨g, b + 3, none⟩ = some u3) :
    ((((w.setCell ⟨g, b, none⟩ x0).setCell ⟨g, b + 1, none⟩ x1).setCell ⟨g, b + 2, none⟩ x2).setCell ⟨g, b + 3, none⟩ x3).cell? ⟨g, b, none⟩ = some x0 ∧ ((((w.setCell ⟨g, b, none⟩ x0).setCell ⟨g, b + 1, none⟩ x1).setCell ⟨g, b + 2, none⟩ x2).setCell ⟨g, b + 3, none⟩ x3).cell? ⟨g, b + 1, none⟩ = some x1 ∧
    ((((w.setCell ⟨g, b, none⟩ x0).setCell ⟨g, b + 1, none⟩ x1).setCell ⟨g, b + 2, none⟩ x2).setCell ⟨g, b + 3, none⟩ x3).cell? ⟨g, b + 2, none⟩ = some x2 ∧ ((((w.setCell ⟨g, b, none⟩ x0).setCell ⟨g, b + 1, none⟩ x1).setCell ⟨g, b + 2, none⟩ x2).setCell ⟨g, b + 3, none⟩ x3).cell? ⟨g, b + 3, none⟩ = some x3 := by
  have far : ∀ (w : World) (o o' : Nat) (u : Value), o ≠ o' → (w.setCell ⟨g, o, none⟩ u).cell? ⟨g, o', none⟩ = w.cell? ⟨g, o', none⟩ := fun w o o' u h => World.cell?_setCell_other _ _ _ _ (fun e => by injection e; omega)
  refine ⟨?_, ?_, ?_, ?_⟩
  · rw [far _ (b + 3) b _ (by omega), far _ (b + 2) b _ (by omega), far _ (b + 1) b _ (by omega)]
    exact World.cell?_setCell_same w ⟨g, b, none⟩ _ h0
  · rw [far _ (b + 3) (b + 1) _ (by omega), far _ (b + 2) (b + 1) _ (by omega)]
    exact World.cell?_setCell_same _ ⟨g, b + 1, none⟩ _ ((far _ b (b + 1) _ (by omega)).trans h1)
  · rw [far _ (b + 3) (b + 2) _ (by omega)]
    exact World.cell?_setCell_same _ ⟨g, b + 2, none⟩ _ ((far _ (b + 1) (b + 2) _ (by omega)).trans ((far _ b (b + 2) _ (by omega)).trans h2))
  · exact World.cell?_setCell_same _ ⟨g, b + 3, none⟩ _ ((far _ (b + 2) (b + 3) _ (by omega)).trans ((far _ (b + 1) (b + 3) _ (by omega)).trans ((far _ b (b + 3) _ (by omega)).trans h3)))
theorem set4_far (w : World) (g b o : Nat) (x0 x1 x2 x3 : Value) (h : o < b ∨ b + 3 < o) :
    ((((w.setCell ⟨g, b, none⟩ x0).setCell ⟨g, b + 1, none⟩ x1).setCell ⟨g, b + 2, none⟩ x2).setCell ⟨g, b + 3, none⟩ x3).cell? ⟨g, o, none⟩ = w.cell? ⟨g, o, none⟩ := by
  rw [World.cell?_setCell_other _ _ _ _ (fun e => by injection e; omega), World.cell?_setCell_other _ _ _ _ (fun e => by injection e; omega), World.cell?_setCell_other _ _ _ _ (fun e => by injection e; omega), World.cell?_setCell_other _ _ _ _ (fun e => by injection e; omega)]
theorem LayQ.step {w : World} {g k : Nat} {l : List Edg} (h : LayQ w g l k) (hk : k < l.length) : LayQ ((((w.setCell ⟨g, k * 4, none⟩ (.int .i64 (edAt l k).ax)).setCell ⟨g, k * 4 + 1, none⟩ (.int .i64 (edAt l k).ay)).setCell ⟨g, k * 4 + 2, none⟩ (.int .i64 (edAt l k).bx)).setCell ⟨g, k * 4 + 3, none⟩ (.int .i64 (edAt l k).cy)) g l (k + 1) := by
  obtain ⟨h2, h3, h4, h5⟩ := h
  obtain ⟨c0, c1, c2, c3⟩ := h4 k (Nat.le_refl _) hk
  refine ⟨by simpa [World.setCell] using h2, fun m hm => ?_, fun m hm1 hm2 => ?_, fun o => by rw [World.frozen?_setCell, World.frozen?_setCell, World.frozen?_setCell, World.frozen?_setCell]; exact h5 o⟩
  · by_cases e : m = k
    · subst e
      exact set4_at w g (m * 4) _ _ _ _ c0 c1 c2 c3
    · rw [set4_far _ _ _ _ _ _ _ _ (by omega), set4_far _ _ _ _ _ _ _ _ (by omega), set4_far _ _ _ _ _ _ _ _ (by omega), set4_far _ _ _ _ _ _ _ _ (by omega)]
      exact h3 m (by omega)
  · rw [set4_far _ _ _ _ _ _ _ _ (by omega), set4_far _ _ _ _ _ _ _ _ (by omega), set4_far _ _ _ _ _ _ _ _ (by omega), set4_far _ _ _ _ _ _ _ _ (by omega)]
    exact h4 m (by omega) hm2
theorem LayQ.off {w : World} {g k : Nat} {l : List Edg} (h : LayQ w g l k) (b o : Nat) (v : Value) (hne : b ≠ g) : LayQ (w.setCell ⟨b, o, none⟩ v) g l k := by
  have far : ∀ x, (w.setCell ⟨b, o, none⟩ v).cell? ⟨g, x, none⟩ = w.cell? ⟨g, x, none⟩ := fun x => World.cell?_setCell_other _ _ _ _ (fun h => by injection h; omega)
  refine ⟨by simpa [World.setCell] using h.1, fun m hm => ?_, fun m hm1 hm2 => ?_, fun x => ?_⟩
  · rw [far, far, far, far]; exact h.2.1 m hm
  · rw [far, far, far, far]; exact h.2.2.1 m hm1 hm2
  · rw [World.frozen?_setCell]; exact h.2.2.2 x
theorem LayQ.edgs {w : World} {g : Nat} {l : List Edg} (h : LayQ w g l l.length) : Edgs w (some ⟨g, 0, none⟩) l :=
  Or.inr ⟨g, 0, rfl, h.1, fun i hi => by rw [Nat.zero_add]; exact h.2.1 i hi⟩
theorem info_tint : (Try.prog.info? 24).map (fun i => (i.zero, i.size, i.bytes)) = some (some (.agg #[.int .i64 0, .int .i64 0, .int .i64 0, .int .i64 0]), 4, 32) := by kernel_rfl
theorem LayQ.start (w : World) (l : List Edg) (t : TypeId) : LayQ (w.alloc (.cells (madeCells #[.int .i64 0, .int .i64 0, .int .i64 0, .int .i64 0] (l.length * 4)) t)) w.heap.size l 0 := by
  refine ⟨by simp, fun i hi => absurd hi (by omega), fun i _ hi => ⟨?_, ?_, ?_, ?_⟩, fun o => World.frozen?_alloc_at _ _ _ _ rfl⟩
  · have := madeCells_get #[.int .i64 0, .int .i64 0, .int .i64 0, .int .i64 0] (l.length * 4) (i * 4) (by omega)
    have e : (i * 4) % 4 = 0 := by omega
    simp [e] at this
    simp [this]
  · have := madeCells_get #[.int .i64 0, .int .i64 0, .int .i64 0, .int .i64 0] (l.length * 4) (i * 4 + 1) (by omega)
    have e : (i * 4 + 1) % 4 = 1 := by omega
    simp [e] at this
    simp [this]
  · have := madeCells_get #[.int .i64 0, .int .i64 0, .int .i64 0, .int .i64 0] (l.length * 4) (i * 4 + 2) (by omega)
    have e : (i * 4 + 2) % 4 = 2 := by omega
    simp [e] at this
    simp [this]
  · have := madeCells_get #[.int .i64 0, .int .i64 0, .int .i64 0, .int .i64 0] (l.length * 4) (i * 4 + 3) (by omega)
    have e : (i * 4 + 3) % 4 = 3 := by omega
    simp [e] at this
    simp [this]
set_option maxHeartbeats 1000000 in
theorem toTintS_any (w : World) (a : Option Addr) (c : Nat) (l : List Edg) (hm : l.length ≤ 1048576) (hr : Edgs w a l) :
    Calls Try.prog 91 #[.slice a l.length c] w fun e w' => e = .returned (.slice (some ⟨w.heap.size, 0, none⟩) l.length l.length) ∧ Nw w w' ∧ LayQ w' w.heap.size l l.length := by
  have HR : Hid (Edgs w a l) := hr
  clear hr
  have hmk := run_mk 55 24 _ 4 32 Try.underlying55 info_tint l.length (by omega) (by omega)
  have hcs : (Value.agg #[.int .i64 0, .int .i64 0, .int .i64 0, .int .i64 0]).cells = #[.int .i64 0, .int .i64 0, .int .i64 0, .int .i64 0] := rfl
  rw [hcs] at hmk
  go_enter Try.func91, Try.ntmps91
  go_wp2
  go_loopw [4] (fun i wr => ∃ k : Nat, k ≤ l.length ∧ i = .int .i64 k ∧ Nw w wr ∧ LayQ wr w.heap.size l k) (fun i _ => l.length - (intOf i).toNat)
  case atStart => exact ⟨0, Nat.zero_le _, rfl, (Below.refl _ _).alloc (Nat.le_refl _) _, LayQ.start w l _⟩
  case round =>
    obtain ⟨k, hk, rfl, hw, hlay⟩ := hrel
    clear hmk hcs
    by_cases hlt : k < l.length
    · rcases (HR.out.nw hw) with h | ⟨b, off, rfl, hbk, hc⟩
      · rw [h] at hlt; simp at hlt
      obtain ⟨q0, q1, q2, q3⟩ := hc k hlt
      clear hc
      have HW : Hid (Nw w wr) := hw
      obtain ⟨z0, z1, z2, z3⟩ := hlay.2.2.1 k (Nat.le_refl _) hlt
      have zf := hlay.2.2.2
      have HL : Hid _ := hlay
      clear hw hlay
      have hg : w.heap.size < wr.heap.size := HL.out.1
      have HT : Hid (∀ w, _) := fun w => toTint_any w (edAt l k)
      unfold edV at HT
      go_wp2_with (go_at_call 23; refine (HT.out _).mono ?_; rintro e w' ⟨rfl, k1⟩; have y0 := ((Kp.cells k1).1 _ (k * 4) hg).trans z0; have y1 := ((Kp.cells k1).1 _ (k * 4 + 1) hg).trans z1; have y2 := ((Kp.cells k1).1 _ (k * 4 + 2) hg).trans z2; have y3 := ((Kp.cells k1).1 _ (k * 4 + 3) hg).trans z3; have yf : ∀ o, w'.frozen? ⟨w.heap.size, o, none⟩ = false := fun o => ((Kp.cells k1).2 _ o).trans (zf o); clear z0 z1 z2 z3 zf)
      go_roundw
      case rel =>
        refine ⟨k + 1, by omega, by go_num, ?_, LayQ.step (LayQ.nw HL.out k1.nw) hlt⟩
        have kb : Below w.heap.size w w' := HW.out.trans k1.nw
        exact (((kb.setCell (Nat.le_refl _) _).setCell (Nat.le_refl _) _).setCell (Nat.le_refl _) _).setCell (Nat.le_refl _) _
      case measure => simp [intOf]; omega
    · have e : k = l.length := by omega
      subst e
      have HN : Hid (Nw w wr ∧ LayQ wr w.heap.size l l.length) := ⟨hw, hlay⟩
      clear hw hlay
      go_wp2
      go_ret
      exact ⟨rfl, HN.out⟩
/-- The tints l are what v holds. -/
def RowQ (w : World) (v : Value) (l : List Edg) : Prop := ∃ a c, v = .slice a l.length c ∧ Edgs w a l
theorem RowQ.nw {w w' : World} {v : Value} {l : List Edg} (h : RowQ w v l) (k : Nw w w') : RowQ w' v l := by
  obtain ⟨a, c, rfl, h2⟩ := h
  exact ⟨a, c, rfl, h2.nw k⟩
theorem LayQ.row {w : World} {g c : Nat} {l : List Edg} (h : LayQ w g l l.length) : RowQ w (.slice (some ⟨g, 0, none⟩) l.length c) l := ⟨_, c, rfl, h.edgs⟩
set_option maxHeartbeats 1000000 in
theorem eqTintS_any (w : World) (v1 v2 : Value) (l : List Edg) (hl : l.length ≤ 1048576) (h1 : RowQ w v1 l) (h2 : RowQ w v2 l) :
    Calls Try.prog 87 #[v1, v2] w fun e w' => e = .returned (.bool true) ∧ Nw w w' := by
  obtain ⟨a1, c1, rfl, p1⟩ := h1
  obtain ⟨a2, c2, rfl, p2⟩ := h2
  have H1 : Hid (Edgs w a1 l) := p1
  have H2 : Hid (Edgs w a2 l) := p2
  clear p1 p2
  go_enter Try.func87, Try.ntmps87
  go_wp2
  go_loopw [5] (fun i wr => ∃ k : Nat, k ≤ l.length ∧ i = .int .i64 k ∧ Nw w wr) (fun i _ => l.length - (intOf i).toNat)
  case atStart => exact ⟨0, Nat.zero_le _, rfl, Below.refl _ _⟩
  case round =>
    obtain ⟨k, hk, rfl, hw⟩ := hrel
    by_cases hlt : k < l.length
    · rcases (H1.out.nw hw) with h | ⟨b1, o1, rfl, hb1, hc1⟩
      · rw [h] at hlt; simp at hlt
      rcases (H2.out.nw hw) with h | ⟨b2, o2, rfl, hb2, hc2⟩
      · rw [h] at hlt; simp at hlt
      obtain ⟨q0, q1, q2, q3⟩ := hc1 k hlt
      obtain ⟨r0, r1, r2, r3⟩ := hc2 k hlt
      clear hc1 hc2 H1 H2
      have HW : Hid (Nw w wr) := hw
      have HT : Hid (∀ w, _) := fun w => eqTint_any w (edAt l k)
      unfold edV at HT
      clear hw
      generalize edAt l k = e at *
      obtain ⟨x0, x1, x2, x3⟩ := e
      simp only at q0 q1 q2 q3 r0 r1 r2 r3 HT
      go_wp2
      go_region_with (go_at_call 27; refine (HT.out _).mono ?_; rintro e w' ⟨rfl, k1⟩)
      all_goals
        go_wp2
        go_roundw
        case rel => exact ⟨k + 1, by omega, by go_num, HW.out.trans k1.drw⟩
        case measure => simp [intOf]; omega
    · have HW : Hid (Nw w wr) := hw
      clear hw
      go_wp2
      go_ret
      exact ⟨rfl, HW.out⟩
/-! ### Marks -/
def mkQ (K n : Nat) : List Edg := (List.range n).map fun i => ⟨((K + 4 * i : Nat) : Int), ((K + 4 * i + 1 : Nat) : Int), ((K + 4 * i + 2 : Nat) : Int), ((K + 4 * i + 3 : Nat) : Int)⟩
theorem mkQ_len (K n : Nat) : (mkQ K n).length = n := by simp [mkQ]
theorem mkQ_at (K n i : Nat) (h : i < n) : edAt (mkQ K n) i = ⟨((K + 4 * i : Nat) : Int), ((K + 4 * i + 1 : Nat) : Int), ((K + 4 * i + 2 : Nat) : Int), ((K + 4 * i + 3 : Nat) : Int)⟩ := by simp [edAt, mkQ, h]
/-- Four numbers each in the block g, which may be written: n of them, whatever they are. -/
def AnyQ (w : World) (g n : Nat) : Prop :=
  g < w.heap.size ∧ (∀ i, i < n → ∃ x0 x1 x2 x3 : Int, w.cell? ⟨g, i * 4, none⟩ = some (.int .i64 x0) ∧ w.cell? ⟨g, i * 4 + 1, none⟩ = some (.int .i64 x1) ∧ w.cell? ⟨g, i * 4 + 2, none⟩ = some (.int .i64 x2) ∧ w.cell? ⟨g, i * 4 + 3, none⟩ = some (.int .i64 x3)) ∧ ∀ o, w.frozen? ⟨g, o, none⟩ = false
theorem LayQ.any {w : World} {g : Nat} {l : List Edg} (h : LayQ w g l l.length) : AnyQ w g l.length := ⟨h.1, fun i hi => ⟨_, _, _, _, h.2.1 i hi⟩, h.2.2.2⟩
def MkQ (w : World) (g K n j : Nat) : Prop :=
  g < w.heap.size ∧ (∀ i, i < j → w.cell? ⟨g, i * 4, none⟩ = some (.int .i64 ((K + 4 * i : Nat) : Int)) ∧ w.cell? ⟨g, i * 4 + 1, none⟩ = some (.int .i64 ((K + 4 * i + 1 : Nat) : Int)) ∧ w.cell? ⟨g, i * 4 + 2, none⟩ = some (.int .i64 ((K + 4 * i + 2 : Nat) : Int)) ∧ w.cell? ⟨g, i * 4 + 3, none⟩ = some (.int .i64 ((K + 4 * i + 3 : Nat) : Int))) ∧ (∀ i, j ≤ i → i < n → ∃ x0 x1 x2 x3 : Int, w.cell? ⟨g, i * 4, none⟩ = some (.int .i64 x0) ∧ w.cell? ⟨g, i * 4 + 1, none⟩ = some (.int .i64 x1) ∧ w.cell? ⟨g, i * 4 + 2, none⟩ = some (.int .i64 x2) ∧ w.cell? ⟨g, i * 4 + 3, none⟩ = some (.int .i64 x3)) ∧ ∀ o, w.frozen? ⟨g, o, none⟩ = false
theorem MkQ.step {w : World} {g K n j : Nat} (h : MkQ w g K n j) (hj : j < n) : MkQ ((((w.setCell ⟨g, j * 4, none⟩ (.int .i64 ((K + 4 * j : Nat) : Int))).setCell ⟨g, j * 4 + 1, none⟩ (.int .i64 ((K + 4 * j + 1 : Nat) : Int))).setCell ⟨g, j * 4 + 2, none⟩ (.int .i64 ((K + 4 * j + 2 : Nat) : Int))).setCell ⟨g, j * 4 + 3, none⟩ (.int .i64 ((K + 4 * j + 3 : Nat) : Int))) g K n (j + 1) := by
  obtain ⟨h1, h2, h3, h4⟩ := h
  obtain ⟨s0, s1, s2, s3, c0, c1, c2, c3⟩ := h3 j (Nat.le_refl _) hj
  refine ⟨by simpa [World.setCell] using h1, fun m hm => ?_, fun m hm1 hm2 => ?_, fun o => by rw [World.frozen?_setCell, World.frozen?_setCell, World.frozen?_setCell, World.frozen?_setCell]; exact h4 o⟩
  · by_cases e : m = j
    · subst e
      exact set4_at w g (m * 4) _ _ _ _ c0 c1 c2 c3
    · rw [set4_far _ _ _ _ _ _ _ _ (by omega), set4_far _ _ _ _ _ _ _ _ (by omega), set4_far _ _ _ _ _ _ _ _ (by omega), set4_far _ _ _ _ _ _ _ _ (by omega)]
      exact h2 m (by omega)
  · obtain ⟨y0, y1, y2, y3, hy⟩ := h3 m (by omega) hm2
    refine ⟨y0, y1, y2, y3, ?_⟩
    rw [set4_far _ _ _ _ _ _ _ _ (by omega), set4_far _ _ _ _ _ _ _ _ (by omega), set4_far _ _ _ _ _ _ _ _ (by omega), set4_far _ _ _ _ _ _ _ _ (by omega)]
    exact hy
theorem MkQ.lay {w : World} {g K n : Nat} (h : MkQ w g K n n) : LayQ w g (mkQ K n) n :=
  ⟨h.1, fun i hi => by rw [mkQ_at K n i hi]; exact h.2.1 i hi, fun i a b => absurd b (by rw [mkQ_len]; omega), h.2.2.2⟩
theorem grQ_refl (w : World) (r : Option Nat) : w.grownBy w r := ⟨rfl, rfl, rfl, Nat.le_refl _, fun _ _ _ => rfl⟩
theorem grQ_set {a b : World} {g : Nat} (h : a.grownBy b (some g)) (o : Nat) (v : Value) : a.grownBy (b.setCell ⟨g, o, none⟩ v) (some g) :=
  ⟨h.os, h.tape, h.output, by simpa [World.setCell] using h.size, fun i hi hne => by
    rw [Below.heap_setCell _ _ _ _ (by intro e; apply hne; rw [e])]
    exact h.block i hi hne⟩
set_option maxHeartbeats 2000000 in
theorem markQ_any (w : World) (g c K n : Nat) (hl : n ≤ 1048576) (hK2 : K ≤ 50000000) (h : AnyQ w g n) :
    Calls Try.prog 88 #[.slice (some ⟨g, 0, none⟩) n c, .int .i64 (K : Int)] w fun e w' => e = .returned (.int .i64 ((K + 4 * n : Nat) : Int)) ∧ w.grownBy w' (some g) ∧ LayQ w' g (mkQ K n) n := by
  have HS : Hid (MkQ w g K n 0) := ⟨h.1, fun i hi => absurd hi (by omega), fun i _ b => h.2.1 i b, h.2.2⟩
  clear h
  go_enter Try.func88, Try.ntmps88
  go_wp2
  go_loopw [1, 5] (fun x i wr => ∃ j : Nat, j ≤ n ∧ i = .int .i64 j ∧ x = .int .i64 ((K + 4 * j : Nat) : Int) ∧ w.grownBy wr (some g) ∧ MkQ wr g K n j) (fun _ i _ => n - (intOf i).toNat)
  case atStart => exact ⟨0, Nat.zero_le _, rfl, rfl, grQ_refl _ _, HS.out⟩
  case round =>
    obtain ⟨j, hj, rfl, rfl, hw, hm⟩ := hrel
    have HW : Hid (w.grownBy wr (some g)) := hw
    have HM : Hid (MkQ wr g K n j) := hm
    clear hw hm
    by_cases hlt : j < n
    · obtain ⟨s0, s1, s2, s3, c0, c1, c2, c3⟩ := HM.out.2.2.1 j (Nat.le_refl _) hlt
      have hf0 := HM.out.2.2.2
      go_wp2
      go_roundw
      case rel =>
        refine ⟨j + 1, by omega, by go_num, by go_num, grQ_set (grQ_set (grQ_set (grQ_set HW.out _ _) _ _) _ _) _ _, ?_⟩
        have h := HM.out.step hlt
        rw [show ((K + 4 * j : Nat) : Int) = (K : Int) + 4 * (j : Int) by omega, show ((K + 4 * j + 1 : Nat) : Int) = (K : Int) + 4 * (j : Int) + 1 by omega, show ((K + 4 * j + 2 : Nat) : Int) = (K : Int) + 4 * (j : Int) + 1 + 1 by omega, show ((K + 4 * j + 3 : Nat) : Int) = (K : Int) + 4 * (j : Int) + 1 + 1 + 1 by omega] at h
        exact h
      case measure => simp [intOf]; omega
    · have e : j = n := by omega
      subst e
      go_wp2
      go_ret
      exact ⟨rfl, HW.out, HM.out.lay⟩
set_option maxHeartbeats 2000000 in
theorem heldQ_any (w : World) (g c K n : Nat) (hl : n ≤ 1048576) (hK2 : K ≤ 50000000) (h : LayQ w g (mkQ K n) n) :
    Calls Try.prog 89 #[.slice (some ⟨g, 0, none⟩) n c, .int .i64 (K : Int)] w fun e w' => e = .returned (.int .i64 ((K + 4 * n : Nat) : Int)) ∧ w' = w := by
  have HS : Hid (LayQ w g (mkQ K n) n) := h
  clear h
  go_enter Try.func89, Try.ntmps89
  go_wp2
  go_loop [1, 5] (fun x i => ∃ j : Nat, j ≤ n ∧ i = .int .i64 j ∧ x = .int .i64 ((K + 4 * j : Nat) : Int)) (fun _ i => n - (intOf i).toNat)
  case atStart => exact ⟨0, Nat.zero_le _, rfl, rfl⟩
  case round =>
    obtain ⟨j, hj, rfl, rfl⟩ := hrel
    by_cases hlt : j < n
    · obtain ⟨c0, c1, c2, c3⟩ := HS.out.2.1 j hlt
      rw [mkQ_at K n j hlt] at c0 c1 c2 c3
      have e1 : ((K + 4 * j + 1 : Nat) : Int) = ((K + 4 * j : Nat) : Int) + 1 := by omega
      have e2 : ((K + 4 * j + 2 : Nat) : Int) = ((K + 4 * j : Nat) : Int) + 1 + 1 := by omega
      have e3 : ((K + 4 * j + 3 : Nat) : Int) = ((K + 4 * j : Nat) : Int) + 1 + 1 + 1 := by omega
      simp only [e1, e2, e3] at c0 c1 c2 c3
      have hb : ((K + 4 * j : Nat) : Int) ≤ 100000000 := by omega
      have hb0 : 0 ≤ ((K + 4 * j : Nat) : Int) := by omega
      have HJ : Hid (((K + 4 * (j + 1) : Nat) : Int) = ((K + 4 * j : Nat) : Int) + 1 + 1 + 1 + 1) := by show _ = _; omega
      clear e1 e2 e3
      generalize ((K + 4 * j : Nat) : Int) = Z at *
      have hne : (Z != Z) = false := by simp
      have hne2 : (Z + 1 != Z + 1) = false := by simp
      have hne3 : (Z + 1 + 1 != Z + 1 + 1) = false := by simp
      have hne4 : (Z + 1 + 1 + 1 != Z + 1 + 1 + 1) = false := by simp
      go_wp2
      go_round
      case rel => exact ⟨j + 1, by omega, by go_num, by rw [HJ.out]⟩
      case measure => simp [intOf]; omega
    · have e : j = n := by omega
      subst e
      go_wp2
      go_ret
      exact ⟨rfl, rfl⟩
theorem markQ_nil (w : World) (K : Nat) (hK2 : K ≤ 50000000) :
    Calls Try.prog 88 #[.slice none 0 0, .int .i64 (K : Int)] w fun e w' => e = .returned (.int .i64 (K : Int)) ∧ w' = w := by
  go_enter Try.func88, Try.ntmps88
  go_wp2
  go_loop [1, 5] (fun x i => x = .int .i64 (K : Int) ∧ i = .int .i64 0) (fun _ _ => 0)
  case atStart => exact ⟨rfl, rfl⟩
  case round =>
    obtain ⟨rfl, rfl⟩ := hrel
    go_wp2
    go_ret
    exact ⟨rfl, rfl⟩
theorem heldQ_nil (w : World) (K : Nat) (hK2 : K ≤ 50000000) :
    Calls Try.prog 89 #[.slice none 0 0, .int .i64 (K : Int)] w fun e w' => e = .returned (.int .i64 (K : Int)) ∧ w' = w := by
  go_enter Try.func89, Try.ntmps89
  go_wp2
  go_loop [1, 5] (fun x i => x = .int .i64 (K : Int) ∧ i = .int .i64 0) (fun _ _ => 0)
  case atStart => exact ⟨rfl, rfl⟩
  case round =>
    obtain ⟨rfl, rfl⟩ := hrel
    go_wp2
    go_ret
    exact ⟨rfl, rfl⟩
end Go.Proofs.Ythlohbiocfeapaa
