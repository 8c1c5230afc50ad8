/-
  Stops: what the laws' helpers do that measure rows of them, copy them and hold two against each other; each theorem names its conditions.
-/
import Derived.Test.YthlohbiocfeapaaSp
import Derived.Test.YthlohbiocfeapaaTnT
namespace Go.Proofs.Ythlohbiocfeapaa
open Go.ChangeShapes Go.WideShapes Go.ChangeAt Go.RowKit
set_option linter.unusedVariables false

set_option maxHeartbeats 1000000 in
theorem toStop_any (w : World) (s : Stp) :
    Calls Try.prog 81 #[spV s] w fun e w' => e = .returned (spV s) ∧ Kp w w' := by
  obtain ⟨p, ⟨r, g, b, a⟩⟩ := s
  have HT : Hid (∀ w, _) := fun w => toTint_any w ⟨r, g, b, a⟩
  unfold edV at HT
  unfold spV
  simp only at HT ⊢
  go_enter Try.func81, Try.ntmps81
  go_wp2_with (go_at_call 23; refine (HT.out _).mono ?_; rintro e w' ⟨rfl, k1⟩; obtain ⟨hc, hf⟩ := Kp.cells k1)
  have K0 : Kp w w' := Kp.trans ((((Kp.refl w).alloc _ _).alloc _ _).alloc _ _) k1
  have hz : w.heap.size + 1 + 1 < w'.heap.size := by have := k1.size; simp at this; omega
  refine bodyPost_ret (v := .agg #[.int .i64 p, .int .i64 r, .int .i64 g, .int .i64 b, .int .i64 a]) (by simp [results, Try.results81, go_sem, hc]) rfl ⟨rfl, ?_⟩
  exact ((((((((K0.setCell (by first | (simp; done) | (simp; omega)) _).setCell (by first | (simp; done) | (simp; omega)) _).setCell (by first | (simp; done) | (simp; omega)) _).setCell (by first | (simp; done) | (simp; omega)) _).setCell (by first | (simp; done) | (simp; omega)) _).setCell (by first | (simp; done) | (simp; omega)) _).setCell (by first | (simp; done) | (simp; omega)) _).setCell (by first | (simp; done) | (simp; omega)) _).setCell (by first | (simp; done) | (simp; omega)) _
theorem eqStop_any (w : World) (s : Stp) :
    Calls Try.prog 82 #[spV s, spV s] w fun e w' => e = .returned (.bool true) ∧ Nw w w' := by
  obtain ⟨p, ⟨r, g, b, a⟩⟩ := s
  have HT : Hid (∀ w, _) := fun w => eqTint_any w ⟨r, g, b, a⟩
  unfold edV at HT
  unfold spV
  simp only at HT ⊢
  have h1 : (p != p) = false := by simp
  go_enter Try.func82, Try.ntmps82
  go_wp2_with fail
  refine Calls.mono (HT.out _) ?_
  rintro e w1 ⟨rfl, k1⟩
  have K1 : Hid (Nw w w1) := Nw.trans (Nw.trans ((Below.refl _ _).alloc (Nat.le_refl _) _) ((Below.refl _ _).alloc (Nat.le_refl _) _)) k1
  clear k1
  go_wp2
  go_ret
  exact ⟨rfl, K1.out⟩
theorem szStopS_any (w : World) (a : Option Addr) (n c : Nat) (left : Int) (h0 : 0 ≤ left) (h1 : left ≤ 1048576) (hm : n ≤ maxLen) :
    Calls Try.prog 30 #[.slice a n c, .int .i64 left] w fun e w' => e = .returned (.int .i64 (if (n : Int) ≤ left then left - (n : Int) else -1)) ∧ w' = w := by
  unfold maxLen at hm
  by_cases c1 : (n : Int) ≤ left
  · rw [if_pos c1]
    go_enter Try.func30, Try.ntmps30
    go_wp2
    go_ret
    exact ⟨rfl, rfl⟩
  · rw [if_neg c1]
    go_enter Try.func30, Try.ntmps30
    go_wp2
    go_ret
    exact ⟨rfl, rfl⟩
/-- A new list of which the first k have been laid. -/
def LayF (w : World) (g : Nat) (l : List Stp) (k : Nat) : Prop :=
  g < w.heap.size ∧ (∀ i, i < k → w.cell? ⟨g, i * 5, none⟩ = some (.int .i64 (spAt l i).p) ∧ w.cell? ⟨g, i * 5 + 1, none⟩ = some (.int .i64 (spAt l i).t.ax) ∧ w.cell? ⟨g, i * 5 + 2, none⟩ = some (.int .i64 (spAt l i).t.ay) ∧ w.cell? ⟨g, i * 5 + 3, none⟩ = some (.int .i64 (spAt l i).t.bx) ∧ w.cell? ⟨g, i * 5 + 4, none⟩ = some (.int .i64 (spAt l i).t.cy)) ∧ (∀ i, k ≤ i → i < l.length → w.cell? ⟨g, i * 5, none⟩ = some (.int .i64 0) ∧ w.cell? ⟨g, i * 5 + 1, none⟩ = some (.int .i64 0) ∧ w.cell? ⟨g, i * 5 + 2, none⟩ = some (.int .i64 0) ∧ w.cell? ⟨g, i * 5 + 3, none⟩ = some (.int .i64 0) ∧ w.cell? ⟨g, i * 5 + 4, none⟩ = some (.int .i64 0)) ∧ ∀ o, w.frozen? ⟨g, o, none⟩ = false
theorem LayF.nw {w w' : World} {g k : Nat} {l : List Stp} (h : LayF w g l k) (q : Nw w w') : LayF w' g l k :=
  ⟨Nat.lt_of_lt_of_le h.1 (Below.size q), fun i hi => ⟨((bcell q).1 _ _ h.1).trans (h.2.1 i hi).1, ((bcell q).1 _ _ h.1).trans (h.2.1 i hi).2.1, ((bcell q).1 _ _ h.1).trans (h.2.1 i hi).2.2.1, ((bcell q).1 _ _ h.1).trans (h.2.1 i hi).2.2.2.1, ((bcell q).1 _ _ h.1).trans (h.2.1 i hi).2.2.2.2⟩,
    fun i hi hj => ⟨((bcell q).1 _ _ h.1).trans (h.2.2.1 i hi hj).1, ((bcell q).1 _ _ h.1).trans (h.2.2.1 i hi hj).2.1, ((bcell q).1 _ _ h.1).trans (h.2.2.1 i hi hj).2.2.1, ((bcell q).1 _ _ h.1).trans (h.2.2.1 i hi hj).2.2.2.1, ((bcell q).1 _ _ h.1).trans (h.2.2.1 i hi hj).2.2.2.2⟩, fun o => ((bcell q).2 _ _ h.1).trans (h.2.2.2 o)⟩
theorem set5_far (w : World) (g b o : Nat) (x0 x1 x2 x3 x4 : Value) (h : o < b ∨ b + 4 < o) :
    (((((w.setCell ⟨g, b, none⟩ x0).setCell ⟨g, b + 1, none⟩ x1).setCell ⟨g, b + 2, none⟩ x2).setCell ⟨g, b + 3, none⟩ x3).setCell ⟨g, b + 4, none⟩ x4).cell? ⟨g, o, none⟩ = w.cell? ⟨g, o, none⟩ := by
  rw [World.cell?_setCell_other _ _ _ _ (fun e => by injection e; omega)]
  exact set4_far w g b o x0 x1 x2 x3 (by omega)
theorem set5_at (w : World) (g b : Nat) (x0 x1 x2 x3 x4 : Value) {u0 u1 u2 u3 u4 : Value} (h0 : w.cell? ⟨g, b, none⟩ = some u0) (h1 : w.cell? ⟨g, b + 1, none⟩ = some u1) (h2 : w.cell? ⟨g, b + 2, none⟩ = some u2) (h3 : w.cell? ⟨g, b + 3, none⟩ = some u3) (h4 : w.cell? ⟨g, b + 4, none⟩ = some u4) :
    ∀ W, (((((w.setCell ⟨g, b, none⟩ x0).setCell ⟨g, b + 1, none⟩ x1).setCell ⟨g, b + 2, none⟩ x2).setCell ⟨g, b + 3, none⟩ x3).setCell ⟨g, b + 4, none⟩ x4) = W → W.cell? ⟨g, b, none⟩ = some x0 ∧ W.cell? ⟨g, b + 1, none⟩ = some x1 ∧ W.cell? ⟨g, b + 2, none⟩ = some x2 ∧ W.cell? ⟨g, b + 3, none⟩ = some x3 ∧ W.cell? ⟨g, b + 4, none⟩ = some x4 := by
  rintro W rfl
  obtain ⟨a0, a1, a2, a3⟩ := set4_at w g b x0 x1 x2 x3 h0 h1 h2 h3
  refine ⟨?_, ?_, ?_, ?_, World.cell?_setCell_same _ ⟨g, b + 4, none⟩ _ ((set4_far w g b (b + 4) x0 x1 x2 x3 (by omega)).trans h4)⟩
  · rw [World.cell?_setCell_other _ _ _ _ (fun e => by injection e; omega)]; exact a0
  · rw [World.cell?_setCell_other _ _ _ _ (fun e => by injection e; omega)]; exact a1
  · rw [World.cell?_setCell_other _ _ _ _ (fun e => by injection e; omega)]; exact a2
  · rw [World.cell?_setCell_other _ _ _ _ (fun e => by injection e; omega)]; exact a3
theorem LayF.step {w : World} {g k : Nat} {l : List Stp} (h : LayF w g l k) (hk : k < l.length) : LayF (((((w.setCell ⟨g, k * 5, none⟩ (.int .i64 (spAt l k).p)).setCell ⟨g, k * 5 + 1, none⟩ (.int .i64 (spAt l k).t.ax)).setCell ⟨g, k * 5 + 2, none⟩ (.int .i64 (spAt l k).t.ay)).setCell ⟨g, k * 5 + 3, none⟩ (.int .i64 (spAt l k).t.bx)).setCell ⟨g, k * 5 + 4, none⟩ (.int .i64 (spAt l k).t.cy)) g l (k + 1) := by
  obtain ⟨h2, h3, h4, h5⟩ := h
  obtain ⟨c0, c1, c2, c3, c4⟩ := h4 k (Nat.le_refl _) hk
  refine ⟨by simpa [World.setCell] using h2, fun m hm => ?_, fun m hm1 hm2 => ?_, fun o => by rw [World.frozen?_setCell, World.frozen?_setCell, World.frozen?_setCell, World.frozen?_setCell, World.frozen?_setCell]; exact h5 o⟩
  · by_cases e : m = k
    · subst e
      exact set5_at w g (m * 5) _ _ _ _ _ c0 c1 c2 c3 c4 _ rfl
    · rw [set5_far _ _ _ _ _ _ _ _ _ (by omega), set5_far _ _ _ _ _ _ _ _ _ (by omega), set5_far _ _ _ _ _ _ _ _ _ (by omega), set5_far _ _ _ _ _ _ _ _ _ (by omega), set5_far _ _ _ _ _ _ _ _ _ (by omega)]
      exact h3 m (by omega)
  · rw [set5_far _ _ _ _ _ _ _ _ _ (by omega), set5_far _ _ _ _ _ _ _ _ _ (by omega), set5_far _ _ _ _ _ _ _ _ _ (by omega), set5_far _ _ _ _ _ _ _ _ _ (by omega), set5_far _ _ _ _ _ _ _ _ _ (by omega)]
    exact h4 m (by omega) hm2
theorem info_stop : (Try.prog.info? 106).map (fun i => (i.zero, i.size, i.bytes)) = some (some (.agg #[.int .i64 0, .int .i64 0, .int .i64 0, .int .i64 0, .int .i64 0]), 5, 40) := by kernel_rfl
theorem LayF.start (w : World) (l : List Stp) (t : TypeId) : LayF (w.alloc (.cells (madeCells #[.int .i64 0, .int .i64 0, .int .i64 0, .int .i64 0, .int .i64 0] (l.length * 5)) t)) w.heap.size l 0 := by
  refine ⟨by simp, fun i hi => absurd hi (by omega), fun i _ hi => ⟨?_, ?_, ?_, ?_, ?_⟩, fun o => World.frozen?_alloc_at _ _ _ _ rfl⟩
  · have := madeCells_get #[.int .i64 0, .int .i64 0, .int .i64 0, .int .i64 0, .int .i64 0] (l.length * 5) (i * 5) (by omega)
    have e : (i * 5) % 5 = 0 := by omega
    simp [e] at this
    simp [this]
  · have := madeCells_get #[.int .i64 0, .int .i64 0, .int .i64 0, .int .i64 0, .int .i64 0] (l.length * 5) (i * 5 + 1) (by omega)
    have e : (i * 5 + 1) % 5 = 1 := by omega
    simp [e] at this
    simp [this]
  · have := madeCells_get #[.int .i64 0, .int .i64 0, .int .i64 0, .int .i64 0, .int .i64 0] (l.length * 5) (i * 5 + 2) (by omega)
    have e : (i * 5 + 2) % 5 = 2 := by omega
    simp [e] at this
    simp [this]
  · have := madeCells_get #[.int .i64 0, .int .i64 0, .int .i64 0, .int .i64 0, .int .i64 0] (l.length * 5) (i * 5 + 3) (by omega)
    have e : (i * 5 + 3) % 5 = 3 := by omega
    simp [e] at this
    simp [this]
  · have := madeCells_get #[.int .i64 0, .int .i64 0, .int .i64 0, .int .i64 0, .int .i64 0] (l.length * 5) (i * 5 + 4) (by omega)
    have e : (i * 5 + 4) % 5 = 4 := by omega
    simp [e] at this
    simp [this]
set_option maxHeartbeats 2000000 in
theorem toStopS_any (w : World) (a : Option Addr) (c : Nat) (l : List Stp) (hm : l.length ≤ 1048576) (hr : Stps w a l) :
    Calls Try.prog 32 #[.slice a l.length c] w fun e w' => e = .returned (.slice (some ⟨w.heap.size, 0, none⟩) l.length l.length) ∧ Nw w w' ∧ Stps w' (some ⟨w.heap.size, 0, none⟩) l := by
  have HR : Hid (Stps w a l) := hr
  clear hr
  have hmk := run_mk 30 106 _ 5 40 Try.underlying30 info_stop l.length (by omega) (by omega)
  have hcs : (Value.agg #[.int .i64 0, .int .i64 0, .int .i64 0, .int .i64 0, .int .i64 0]).cells = #[.int .i64 0, .int .i64 0, .int .i64 0, .int .i64 0, .int .i64 0] := rfl
  rw [hcs] at hmk
  go_enter Try.func32, Try.ntmps32
  go_wp2
  go_loopw [4] (fun i wr => ∃ k : Nat, k ≤ l.length ∧ i = .int .i64 k ∧ Nw w wr ∧ LayF wr w.heap.size l k) (fun i _ => l.length - (intOf i).toNat)
  case atStart => exact ⟨0, Nat.zero_le _, rfl, (Below.refl _ _).alloc (Nat.le_refl _) _, LayF.start w l _⟩
  case round =>
    obtain ⟨k, hk, rfl, hw, hlay⟩ := hrel
    clear hmk hcs
    by_cases hlt : k < l.length
    · rcases (HR.out.nw hw) with h | ⟨b, off, rfl, hbk, hc⟩
      · rw [h] at hlt; simp at hlt
      obtain ⟨q0, q1, q2, q3, q4⟩ := hc k hlt
      clear hc
      have HW : Hid (Nw w wr) := hw
      obtain ⟨z0, z1, z2, z3, z4⟩ := hlay.2.2.1 k (Nat.le_refl _) hlt
      have zf := hlay.2.2.2
      have HL : Hid _ := hlay
      clear hw hlay
      have hg : w.heap.size < wr.heap.size := HL.out.1
      have HT : Hid (∀ w, _) := fun w => toStop_any w (spAt l k)
      unfold spV at HT
      go_wp2_with (go_at_call 81; refine (HT.out _).mono ?_; rintro e w' ⟨rfl, k1⟩; have y0 := ((Kp.cells k1).1 _ (k * 5) hg).trans z0; have y1 := ((Kp.cells k1).1 _ (k * 5 + 1) hg).trans z1; have y2 := ((Kp.cells k1).1 _ (k * 5 + 2) hg).trans z2; have y3 := ((Kp.cells k1).1 _ (k * 5 + 3) hg).trans z3; have y4 := ((Kp.cells k1).1 _ (k * 5 + 4) hg).trans z4; have yf : ∀ o, w'.frozen? ⟨w.heap.size, o, none⟩ = false := fun o => ((Kp.cells k1).2 _ o).trans (zf o); clear z0 z1 z2 z3 z4 zf)
      go_roundw
      case rel =>
        refine ⟨k + 1, by omega, by go_num, ?_, LayF.step (LayF.nw HL.out k1.nw) hlt⟩
        have kb : Below w.heap.size w w' := HW.out.trans k1.nw
        exact ((((kb.setCell (Nat.le_refl _) _).setCell (Nat.le_refl _) _).setCell (Nat.le_refl _) _).setCell (Nat.le_refl _) _).setCell (Nat.le_refl _) _
      case measure => simp [intOf]; omega
    · have e : k = l.length := by omega
      subst e
      have HN : Hid (Nw w wr ∧ LayF wr w.heap.size l l.length) := ⟨hw, hlay⟩
      clear hw hlay
      go_wp2
      go_ret
      exact ⟨rfl, HN.out.1, Or.inr ⟨_, 0, rfl, HN.out.2.1, fun i hi => by rw [Nat.zero_add]; exact HN.out.2.2.1 i hi⟩⟩
set_option maxHeartbeats 2000000 in
theorem eqStopS_any (w : World) (a1 a2 : Option Addr) (c1 c2 : Nat) (l : List Stp) (hl : l.length ≤ 1048576) (h1 : Stps w a1 l) (h2 : Stps w a2 l) :
    Calls Try.prog 34 #[.slice a1 l.length c1, .slice a2 l.length c2] w fun e w' => e = .returned (.bool true) ∧ Nw w w' := by
  have H1 : Hid (Stps w a1 l) := h1
  have H2 : Hid (Stps w a2 l) := h2
  clear h1 h2
  go_enter Try.func34, Try.ntmps34
  go_wp2
  go_loopw [5] (fun i wr => ∃ k : Nat, k ≤ l.length ∧ i = .int .i64 k ∧ Nw w wr) (fun i _ => l.length - (intOf i).toNat)
  case atStart => exact ⟨0, Nat.zero_le _, rfl, Below.refl _ _⟩
  case round =>
    obtain ⟨k, hk, rfl, hw⟩ := hrel
    by_cases hlt : k < l.length
    · rcases (H1.out.nw hw) with h | ⟨b1, o1, rfl, hb1, hc1⟩
      · rw [h] at hlt; simp at hlt
      rcases (H2.out.nw hw) with h | ⟨b2, o2, rfl, hb2, hc2⟩
      · rw [h] at hlt; simp at hlt
      obtain ⟨q0, q1, q2, q3, q4⟩ := hc1 k hlt
      obtain ⟨r0, r1, r2, r3, r4⟩ := hc2 k hlt
      clear hc1 hc2 H1 H2
      have HW : Hid (Nw w wr) := hw
      have HT : Hid (∀ w, _) := fun w => eqStop_any w (spAt l k)
      unfold spV at HT
      clear hw
      generalize spAt l k = e at *
      obtain ⟨x, ⟨x0, x1, x2, x3⟩⟩ := e
      simp only at q0 q1 q2 q3 q4 r0 r1 r2 r3 r4 HT
      go_wp2
      go_region_with (go_at_call 82; refine (HT.out _).mono ?_; rintro e w' ⟨rfl, k1⟩)
      all_goals
        go_wp2
        go_roundw
        case rel => exact ⟨k + 1, by omega, by go_num, HW.out.trans k1.drw⟩
        case measure => simp [intOf]; omega
    · have HW : Hid (Nw w wr) := hw
      clear hw
      go_wp2
      go_ret
      exact ⟨rfl, HW.out⟩
end Go.Proofs.Ythlohbiocfeapaa
