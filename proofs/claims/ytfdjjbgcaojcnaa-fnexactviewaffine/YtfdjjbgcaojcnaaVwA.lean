/-
  ViewAffine of both, for all ints; no condition.
-/
import Derived.Test.YtfdjjbgcaojcnaaFd
import Derived.Test.YtfdjjbgcaojcnaaBx
import Derived.Test.YtfdjjbgcaojcnaaAf0
import Derived.Test.YtfdjjbgcaojcnaaRfDown
import Derived.Test.YtfdjjbgcaojcnaaPtG0
namespace Go.Proofs.Ytfdjjbgcaojcnaa
open Go.ChangeShapes Go.WideShapes Go.ChangeAt Go.RowKit
set_option linter.unusedVariables false

/-- The scale of a view. -/
def vwS (wide high vw vh : Int) : Int := if divV (high * 65536) vh < divV (wide * 65536) vw then divV (high * 65536) vh else divV (wide * 65536) vw
/-- How far a view is moved along one side. -/
def vwE (wide x vw s : Int) : Int := (wide * 65536 - fmV vw s) / 2 - fmV x s
def sideB (n : Int) : Bool := decide (1 ≤ n ∧ n ≤ 36)
def aboveB (n : Int) : Bool := decide (1 ≤ n ∧ n ≤ 1099511627776)
/-- What is asked of the numbers. -/
def vwB (wide high x y vw vh : Int) : Bool := sideB wide && sideB high && fixB x && fixB y && aboveB vw && aboveB vh
theorem wrapIn {x : Int} (h1 : -9223372036854775808 ≤ x) (h2 : x ≤ 9223372036854775807) : IntKind.i64.wrap x = x := by
  unfold IntKind.wrap; simp [IntKind.signed, IntKind.bits]; omega
theorem vw_bd (wide x vw s : Int) (h : 1 ≤ wide ∧ wide ≤ 36) : (IntKind.i64.wrap (wide * 65536) = wide * 65536) ∧ (IntKind.i64.wrap (wide * 65536 - fmV vw s) = wide * 65536 - fmV vw s) ∧ (IntKind.i64.wrap ((wide * 65536 - fmV vw s) / 2 - fmV x s) = (wide * 65536 - fmV vw s) / 2 - fmV x s) ∧ (-4611686018427387904 ≤ wide * 65536 - fmV vw s ∧ wide * 65536 - fmV vw s ≤ 4611686018427387904) := by
  have h1 := fmV_bd vw s
  have h2 := fmV_bd x s
  refine ⟨?_, ?_, ?_, ?_⟩
  · exact wrapIn (by omega) (by omega)
  · exact wrapIn (by omega) (by omega)
  · exact wrapIn (by omega) (by omega)
  · omega
theorem sl3side (w : World) (n : Int) : Calls Try.prog 63 #[.int .i64 n] w fun e w' => e = .returned (.bool (sideB n)) ∧ w' = w := by
  have H : Hid (∀ w, _) := fun w => in_any w n 1 36
  change Hid (∀ w, Calls _ _ _ w fun e w' => e = .returned (.bool (sideB n)) ∧ w' = w) at H
  generalize sideB n = V at *
  go_enter Try.func63, Try.ntmps63
  go_wp2_with fail
  refine Calls.mono (H.out _) ?_
  rintro e w1 ⟨rfl, rfl⟩
  go_wp2
  go_ret
  exact ⟨rfl, rfl⟩
theorem igoodSide (w : World) (n : Int) : Calls Try.prog 66 #[.int .i64 n] w fun e w' => e = .returned (.bool (sideB n)) ∧ w' = w := by
  go_enter Try.func66, Try.ntmps66
  go_wp2
  all_goals
    go_ret
    exact ⟨ret_bool (by unfold sideB; rw [Bool.eq_iff_iff]; simp; omega), rfl⟩
/-- Six numbers made at the beginning, later on. -/
theorem box6 (w w1 : World) (t : TypeId) (k : Kp (w.alloc (.cells #[.int .i64 0, .int .i64 0, .int .i64 0, .int .i64 0, .int .i64 0, .int .i64 0] t)) w1) :
    (w1.cell? ⟨w.heap.size, 0, none⟩ = some (.int .i64 0) ∧ w1.cell? ⟨w.heap.size, 1, none⟩ = some (.int .i64 0) ∧ w1.cell? ⟨w.heap.size, 2, none⟩ = some (.int .i64 0) ∧ w1.cell? ⟨w.heap.size, 3, none⟩ = some (.int .i64 0) ∧ w1.cell? ⟨w.heap.size, 4, none⟩ = some (.int .i64 0) ∧ w1.cell? ⟨w.heap.size, 5, none⟩ = some (.int .i64 0)) ∧ (∀ o, w1.frozen? ⟨w.heap.size, o, none⟩ = false) := by
  have hs : w.heap.size < (w.alloc (.cells #[.int .i64 0, .int .i64 0, .int .i64 0, .int .i64 0, .int .i64 0, .int .i64 0] t)).heap.size := by simp
  exact ⟨⟨(k.cells.1 _ _ hs).trans (by simp), (k.cells.1 _ _ hs).trans (by simp), (k.cells.1 _ _ hs).trans (by simp), (k.cells.1 _ _ hs).trans (by simp), (k.cells.1 _ _ hs).trans (by simp), (k.cells.1 _ _ hs).trans (by simp)⟩, fun o => (k.cells.2 _ _).trans (World.frozen?_alloc_at _ _ _ _ rfl)⟩
theorem set6 (w : World) (g : Nat) (x0 x1 x2 x3 x4 x5 : Value) {u0 u1 u2 u3 u4 u5 : Value} (h0 : w.cell? ⟨g, 0, none⟩ = some u0) (h1 : w.cell? ⟨g, 1, none⟩ = some u1) (h2 : w.cell? ⟨g, 2, none⟩ = some u2) (h3 : w.cell? ⟨g, 3, none⟩ = some u3) (h4 : w.cell? ⟨g, 4, none⟩ = some u4) (h5 : w.cell? ⟨g, 5, none⟩ = some u5) :
    ((((((w.setCell ⟨g, 0, none⟩ x0).setCell ⟨g, 1, none⟩ x1).setCell ⟨g, 2, none⟩ x2).setCell ⟨g, 3, none⟩ x3).setCell ⟨g, 4, none⟩ x4).setCell ⟨g, 5, none⟩ x5).cell? ⟨g, 0, none⟩ = some x0 ∧ ((((((w.setCell ⟨g, 0, none⟩ x0).setCell ⟨g, 1, none⟩ x1).setCell ⟨g, 2, none⟩ x2).setCell ⟨g, 3, none⟩ x3).setCell ⟨g, 4, none⟩ x4).setCell ⟨g, 5, none⟩ x5).cell? ⟨g, 1, none⟩ = some x1 ∧ ((((((w.setCell ⟨g, 0, none⟩ x0).setCell ⟨g, 1, none⟩ x1).setCell ⟨g, 2, none⟩ x2).setCell ⟨g, 3, none⟩ x3).setCell ⟨g, 4, none⟩ x4).setCell ⟨g, 5, none⟩ x5).cell? ⟨g, 2, none⟩ = some x2 ∧ ((((((w.setCell ⟨g, 0, none⟩ x0).setCell ⟨g, 1, none⟩ x1).setCell ⟨g, 2, none⟩ x2).setCell ⟨g, 3, none⟩ x3).setCell ⟨g, 4, none⟩ x4).setCell ⟨g, 5, none⟩ x5).cell? ⟨g, 3, none⟩ = some x3 ∧ ((((((w.setCell ⟨g, 0, none⟩ x0).setCell ⟨g, 1, none⟩ x1).setCell ⟨g, 2, none⟩ x2).setCell ⟨g, 3, none⟩ x3).setCell ⟨g, 4, none⟩ x4).setCell ⟨g, 5, none⟩ x5).cell? ⟨g, 4, none⟩ = some x4 ∧ ((((((w.setCell ⟨g, 0, none⟩ x0).setCell ⟨g, 1, none⟩ x1).setCell ⟨g, 2, none⟩ x2).setCell ⟨g, 3, none⟩ x3).setCell ⟨g, 4, none⟩ x4).setCell ⟨g, 5, none⟩ x5).cell? ⟨g, 5, none⟩ = some x5 := by
  have far : ∀ (w : World) (o o' : Nat) (u : Value), o ≠ o' → (w.setCell ⟨g, o, none⟩ u).cell? ⟨g, o', none⟩ = w.cell? ⟨g, o', none⟩ := fun w o o' u h => World.cell?_setCell_other _ _ _ _ (fun e => by injection e; omega)
  refine ⟨?_, ?_, ?_, ?_, ?_, ?_⟩
  · rw [far _ 5 0 _ (by omega), far _ 4 0 _ (by omega), far _ 3 0 _ (by omega), far _ 2 0 _ (by omega), far _ 1 0 _ (by omega)]; exact World.cell?_setCell_same _ ⟨g, 0, none⟩ _ h0
  · rw [far _ 5 1 _ (by omega), far _ 4 1 _ (by omega), far _ 3 1 _ (by omega), far _ 2 1 _ (by omega)]; exact World.cell?_setCell_same _ ⟨g, 1, none⟩ _ ((far _ 0 1 _ (by omega)).trans h1)
  · rw [far _ 5 2 _ (by omega), far _ 4 2 _ (by omega), far _ 3 2 _ (by omega)]; exact World.cell?_setCell_same _ ⟨g, 2, none⟩ _ ((far _ 1 2 _ (by omega)).trans ((far _ 0 2 _ (by omega)).trans h2))
  · rw [far _ 5 3 _ (by omega), far _ 4 3 _ (by omega)]; exact World.cell?_setCell_same _ ⟨g, 3, none⟩ _ ((far _ 2 3 _ (by omega)).trans ((far _ 1 3 _ (by omega)).trans ((far _ 0 3 _ (by omega)).trans h3)))
  · rw [far _ 5 4 _ (by omega)]; exact World.cell?_setCell_same _ ⟨g, 4, none⟩ _ ((far _ 3 4 _ (by omega)).trans ((far _ 2 4 _ (by omega)).trans ((far _ 1 4 _ (by omega)).trans ((far _ 0 4 _ (by omega)).trans h4))))
  · exact World.cell?_setCell_same _ ⟨g, 5, none⟩ _ ((far _ 4 5 _ (by omega)).trans ((far _ 3 5 _ (by omega)).trans ((far _ 2 5 _ (by omega)).trans ((far _ 1 5 _ (by omega)).trans ((far _ 0 5 _ (by omega)).trans h5)))))
theorem at6 {W w1 : World} {g : Nat} (k : Kp W w1) (h : (W.cell? ⟨g, 0, none⟩ = some (.int .i64 0) ∧ W.cell? ⟨g, 1, none⟩ = some (.int .i64 0) ∧ W.cell? ⟨g, 2, none⟩ = some (.int .i64 0) ∧ W.cell? ⟨g, 3, none⟩ = some (.int .i64 0) ∧ W.cell? ⟨g, 4, none⟩ = some (.int .i64 0) ∧ W.cell? ⟨g, 5, none⟩ = some (.int .i64 0)) ∧ (∀ o, W.frozen? ⟨g, o, none⟩ = false)) :
    (w1.cell? ⟨g, 0, none⟩ = some (.int .i64 0) ∧ w1.cell? ⟨g, 1, none⟩ = some (.int .i64 0) ∧ w1.cell? ⟨g, 2, none⟩ = some (.int .i64 0) ∧ w1.cell? ⟨g, 3, none⟩ = some (.int .i64 0) ∧ w1.cell? ⟨g, 4, none⟩ = some (.int .i64 0) ∧ w1.cell? ⟨g, 5, none⟩ = some (.int .i64 0)) ∧ (∀ o, w1.frozen? ⟨g, o, none⟩ = false) := by
  have f : ∀ o v, W.cell? ⟨g, o, none⟩ = some v → w1.cell? ⟨g, o, none⟩ = some v := fun o v h => (k.cells.1 _ _ (World.block_lt_of_cell? W ⟨g, o, none⟩ h)).trans h
  exact ⟨⟨f _ _ h.1.1, f _ _ h.1.2.1, f _ _ h.1.2.2.1, f _ _ h.1.2.2.2.1, f _ _ h.1.2.2.2.2.1, f _ _ h.1.2.2.2.2.2⟩, fun o => (k.cells.2 _ _).trans (h.2 o)⟩
theorem kp_set6 {w w1 : World} (g : Nat) (x0 x1 x2 x3 x4 x5 : Value) (k : Kp w w1) (h : w.heap.size ≤ g) : Kp w ((((((w1.setCell ⟨g, 0, none⟩ x0).setCell ⟨g, 1, none⟩ x1).setCell ⟨g, 2, none⟩ x2).setCell ⟨g, 3, none⟩ x3).setCell ⟨g, 4, none⟩ x4).setCell ⟨g, 5, none⟩ x5) :=
  (((((k.setCell h _).setCell h _).setCell h _).setCell h _).setCell h _).setCell h _

set_option maxRecDepth 100000 in
set_option maxHeartbeats 4000000 in
theorem sview (w : World) (wide high x y vw vh : Int) (h1 : 1 ≤ wide ∧ wide ≤ 36) (h2 : 1 ≤ high ∧ high ≤ 36) :
    Calls Try.prog 65 #[.int .i64 wide, .int .i64 high, .int .i64 x, .int .i64 y, .int .i64 vw, .int .i64 vh] w fun e w' => e = .returned (affV (vwS wide high vw vh) 0 0 (vwS wide high vw vh) (vwE wide x vw (vwS wide high vw vh)) (vwE high y vh (vwS wide high vw vh))) ∧ Kp w w' := by
  have HD1 : Hid _ := fun w => sfd (wide * 65536) vw w
  have HD2 : Hid _ := fun w => sfd (high * 65536) vh w
  unfold affV
  obtain ⟨s, hs⟩ : ∃ s, vwS wide high vw vh = s := ⟨_, rfl⟩
  rw [hs]
  have HM1 : Hid _ := fun w => sfm vw s w
  have HM2 : Hid _ := fun w => sfm x s w
  have HM3 : Hid _ := fun w => sfm vh s w
  have HM4 : Hid _ := fun w => sfm y s w
  have b1 := fmV_bd vw s
  have b2 := fmV_bd x s
  have b3 := fmV_bd vh s
  have b4 := fmV_bd y s
  unfold vwS at hs
  unfold vwE
  generalize divV (wide * 65536) vw = p at *
  generalize divV (high * 65536) vh = q at *
  generalize fmV vw s = m1 at *
  generalize fmV x s = m2 at *
  generalize fmV vh s = m3 at *
  generalize fmV y s = m4 at *
  have HQ1 : Hid _ := fun w => sdown_any (wide * 65536 - m1) 2 w (by decide) (by decide) (by omega) (by omega)
  have HQ2 : Hid _ := fun w => sdown_any (high * 65536 - m3) 2 w (by decide) (by decide) (by omega) (by omega)
  have c1 : -4611686018427387904 ≤ (wide * 65536 - m1) / 2 ∧ (wide * 65536 - m1) / 2 ≤ 4611686018427387904 := by omega
  have c2 : -4611686018427387904 ≤ (high * 65536 - m3) / 2 ∧ (high * 65536 - m3) / 2 ≤ 4611686018427387904 := by omega
  generalize (wide * 65536 - m1) / 2 = d1 at *
  generalize (high * 65536 - m3) / 2 = d2 at *
  have KW : Hid (∀ w1, Kp (w.alloc (.cells #[.int .i64 0, .int .i64 0, .int .i64 0, .int .i64 0, .int .i64 0, .int .i64 0] 31)) w1 → _) := fun w1 k => box6 w w1 _ k
  have e0 : (q < p ∧ s = q) ∨ (decide (q < p) = false ∧ s = p) := by
    rcases Int.lt_or_le q p with h | h
    · rw [if_pos h] at hs; exact Or.inl ⟨h, hs.symm⟩
    · rw [if_neg (by omega)] at hs; exact Or.inr ⟨by simp; omega, hs.symm⟩
  clear hs
  rcases e0 with ⟨hlt, rfl⟩ | ⟨hlt, rfl⟩
  all_goals
    go_enter Try.func65, Try.ntmps65
    go_wp2_with fail
    refine Calls.mono (HD1.out _) ?_
    rintro e w1 ⟨rfl, k1⟩
    go_wp2_with fail
    refine Calls.mono (HD2.out _) ?_
    rintro e w2 ⟨rfl, k2⟩
    have K2 : Hid (Kp _ w2) := Kp.trans k1 k2
    clear k1 k2
    go_wp2_with fail
    refine Calls.mono (HM1.out _) ?_
    rintro e w3 ⟨rfl, k3⟩
    go_wp2_with fail
    refine Calls.mono (HQ1.out _) ?_
    rintro e w4 ⟨rfl, rfl⟩
    go_wp2_with fail
    refine Calls.mono (HM2.out _) ?_
    rintro e w5 ⟨rfl, k5⟩
    have K5 : Hid (Kp _ w5) := Kp.trans K2.out (Kp.trans k3 k5)
    clear k3 k5 K2
    go_wp2_with fail
    refine Calls.mono (HM3.out _) ?_
    rintro e w6 ⟨rfl, k6⟩
    go_wp2_with fail
    refine Calls.mono (HQ2.out _) ?_
    rintro e w7 ⟨rfl, rfl⟩
    go_wp2_with fail
    refine Calls.mono (HM4.out _) ?_
    rintro e w8 ⟨rfl, k8⟩
    have K8 : Hid (Kp _ w8) := Kp.trans K5.out (Kp.trans k6 k8)
    clear k6 k8 K5
    obtain ⟨⟨z0, z1, z2, z3, z4, z5⟩, zf⟩ := KW.out w8 K8.out
    obtain ⟨y0, y1, y2, y3, y4, y5⟩ := set6 w8 w.heap.size (.int .i64 s) (.int .i64 0) (.int .i64 0) (.int .i64 s) (.int .i64 (d1 - m2)) (.int .i64 (d2 - m4)) z0 z1 z2 z3 z4 z5
    go_wp2
    refine bodyPost_ret (v := .agg #[.int .i64 s, .int .i64 0, .int .i64 0, .int .i64 s, .int .i64 (d1 - m2), .int .i64 (d2 - m4)]) (by simp [results, Try.results65, go_sem, y0, y1, y2, y3, y4, y5]) rfl ⟨rfl, ?_⟩
    exact kp_set6 _ _ _ _ _ _ _ (Kp.trans ((Kp.refl w).alloc _ _) K8.out) (Nat.le_refl _)
end Go.Proofs.Ytfdjjbgcaojcnaa
