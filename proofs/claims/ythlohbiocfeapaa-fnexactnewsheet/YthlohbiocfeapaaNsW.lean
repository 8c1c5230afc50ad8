/-
  The walk of the law on NewSheet; each theorem names its conditions.
-/
import Derived.Test.YthlohbiocfeapaaNs
import Derived.Test.YthlohbiocfeapaaNsI
namespace Go.Proofs.Ythlohbiocfeapaa
open Go.ChangeShapes Go.WideShapes Go.ChangeAt Go.RowKit
set_option linter.unusedVariables false

set_option maxRecDepth 100000 in
set_option maxHeartbeats 4000000 in
theorem walk_new (w : World) (x y : Int) (hx : -9223372036854775808 ≤ x ∧ x ≤ 9223372036854775807) (hy : -9223372036854775808 ≤ y ∧ y ≤ 9223372036854775807) :
    Calls Try.prog 10 #[.int .i64 x, .int .i64 y] w fun e w' => e = .returned (.bool true) ∧ Below w.heap.size w w' := by
  have HS : Hid _ := fun w => snew w x y
  have HI : Hid _ := fun w => inew w x y
  have hRl : (nsR x y).length ≤ 1048576 := Nat.le_trans (nsR_len x y) (by decide)
  generalize nsR x y = L at *
  generalize nsB x y = V at *
  generalize nsD x y = D at *
  obtain ⟨dw, dh⟩ := D
  have HE : Hid (∀ (w : World) (v1 v2 : Value), RowQ w v1 L → RowQ w v2 L → _) := fun w v1 v2 h1 h2 => eqSheet_any w ⟨dw, dh⟩ v1 v2 L hRl h1 h2
  have HMG : Hid (∀ (w : World) (v : Value), NumQ w v L → _) := fun w v h => markSh_any w ⟨dw, dh⟩ v L 1 hRl (by omega) h
  have HHG : Hid (∀ (w : World) (v : Value), NumQ w v (mkQ 1 L.length) → _) := fun w v h => heldSh_any w ⟨dw, dh⟩ v L.length 1 hRl (by omega) h
  unfold mskV at HS HI HE HMG HHG
  simp only at HS HI HE HMG HHG
  have hbb : (V != V) = false := by cases V <;> rfl
  obtain ⟨Z, hZ⟩ : ∃ Z : Int, ((1 + 4 * L.length : Nat) : Int) = Z := ⟨_, rfl⟩
  rw [hZ] at HMG HHG
  have hz0 : decide (Z < 0) = false := decide_eq_false (by omega)
  have hzz : (Z != Z) = false := by simp
  clear hx hy hZ hRl
  go_enter Try.func10, Try.ntmps10
  go_wp2_with fail
  refine Calls.mono (HS.out _) ?_
  rintro e w1 ⟨v0, rfl, hI, n1⟩
  obtain ⟨s0, m0, d0, rfl⟩ := hI.slice
  have N1 : Hid (Nw w w1) := n1
  have V1 : Hid (NumQ w1 (.slice s0 m0 d0) L) := hI.1
  clear n1 hI
  obtain ⟨W1, hW1⟩ : ∃ W1, w1.alloc (.cells #[.int .i64 dw, .int .i64 dh, .slice s0 m0 d0] 57) = W1 := ⟨_, rfl⟩
  have N1a : Hid (Nw w1 W1) := by show Nw w1 W1; rw [← hW1]; exact QBnw _ _
  have P1 : Hid (MB W1 w1.heap.size ⟨dw, dh⟩ (.slice s0 m0 d0)) := by show MB _ _ _ _; rw [← hW1]; exact MB.new w1 ⟨dw, dh⟩ _ _
  have H1 : Hid (_ = W1) := hW1
  clear hW1
  go_wp2_with fail
  rw [H1.out]
  refine Calls.mono (HI.out _) ?_
  rintro e w2 ⟨v1, rfl, hI, n2⟩
  obtain ⟨s1, m1, d1, rfl⟩ := hI.slice
  have N2 : Hid (Nw W1 w2) := n2
  have V2 : Hid (NumQ w2 (.slice s1 m1 d1) L) := hI.1
  have O2 : Hid (∀ b, (Value.slice s1 m1 d1).ownBlock = some b → W1.heap.size ≤ b ∧ b < w2.heap.size) := fun b e => ⟨hI.2 b e, NumQ.own hI.1 e⟩
  clear n2 hI
  obtain ⟨W2, hW2⟩ : ∃ W2, w2.alloc (.cells #[.int .i64 dw, .int .i64 dh, .slice s1 m1 d1] 57) = W2 := ⟨_, rfl⟩
  have N2a : Hid (Nw w2 W2) := by show Nw w2 W2; rw [← hW2]; exact QBnw _ _
  have P2 : Hid (MB W2 w2.heap.size ⟨dw, dh⟩ (.slice s1 m1 d1)) := by show MB _ _ _ _; rw [← hW2]; exact MB.new w2 ⟨dw, dh⟩ _ _
  have H2 : Hid (_ = W2) := hW2
  have N12 : Hid (Nw W1 W2) := Nw.trans N2.out N2a.out
  clear hW2
  obtain ⟨z0, z1, z2⟩ := MB.nw P1.out N12.out
  simp only at z0 z1 z2
  rw [← H2.out] at z0 z1 z2
  go_wp2_with fail
  rw [H2.out]
  refine Calls.mono (HE.out _ _ _ (NumQ.row (NumQ.nw V2.out N2a.out)) (NumQ.row (NumQ.nw (NumQ.nw V1.out N1a.out) N12.out))) ?_
  rintro e w3 ⟨rfl, n3⟩
  have N3 : Hid (Nw W2 w3) := n3
  clear n3 z0 z1 z2
  have P23 : Hid (MB w3 w2.heap.size ⟨dw, dh⟩ (.slice s1 m1 d1)) := MB.nw P2.out N3.out
  obtain ⟨q0, q1, q2⟩ := P23.out
  simp only at q0 q1 q2
  go_wp2_with fail
  refine Calls.mono (HMG.out _ _ (NumQ.nw (NumQ.nw V2.out N2a.out) N3.out)) ?_
  rintro e w4 ⟨rfl, k4, v4⟩
  have K4 : Hid (w3.grownBy w4 (Value.slice s1 m1 d1).ownBlock) := k4
  have V4 : Hid (NumQ w4 (.slice s1 m1 d1) (mkQ 1 L.length)) := v4
  clear k4 v4 q0 q1 q2
  have P4 : Hid (MB w4 w2.heap.size ⟨dw, dh⟩ (.slice s1 m1 d1)) := MB.grown P23.out K4.out (fun e => by have := (O2.out _ e.symm).2; omega)
  have N14 : Hid (Nw W1 w4) := gr_below (Nw.trans N12.out N3.out) K4.out (fun g e => (O2.out g e).1) (Nat.le_trans (Below.size N12.out) (Below.size N3.out))
  obtain ⟨q0, q1, q2⟩ := P4.out
  simp only at q0 q1 q2
  go_wp2_with fail
  refine Calls.mono (HHG.out _ _ V4.out) ?_
  rintro e w5 ⟨rfl, n5⟩
  have N5 : Hid (Nw w4 w5) := n5
  clear n5 q0 q1 q2
  go_wp2_with fail
  refine Calls.mono (HI.out _) ?_
  rintro e w6 ⟨v3, rfl, hI, n6⟩
  obtain ⟨s3, m3, d3, rfl⟩ := hI.slice
  have N6 : Hid (Nw w4 w6) := Nw.trans N5.out n6
  have V6 : Hid (NumQ w6 (.slice s3 m3 d3) L) := hI.1
  clear n6 hI
  obtain ⟨W6, hW6⟩ : ∃ W6, w6.alloc (.cells #[.int .i64 dw, .int .i64 dh, .slice s3 m3 d3] 57) = W6 := ⟨_, rfl⟩
  have N6a : Hid (Nw w6 W6) := by show Nw w6 W6; rw [← hW6]; exact QBnw _ _
  have H6 : Hid (_ = W6) := hW6
  clear hW6
  obtain ⟨z0, z1, z2⟩ := MB.nw P1.out (Nw.trans N14.out (Nw.trans N6.out N6a.out))
  simp only at z0 z1 z2
  rw [← H6.out] at z0 z1 z2
  go_wp2_with fail
  rw [H6.out]
  refine Calls.mono (HE.out _ _ _ (NumQ.row (NumQ.nw V6.out N6a.out)) (NumQ.row (NumQ.nw (NumQ.nw V1.out N1a.out) (Nw.trans N14.out (Nw.trans N6.out N6a.out))))) ?_
  rintro e w7 ⟨rfl, n7⟩
  have N7 : Hid (Nw w4 w7) := Nw.trans N6.out (Nw.trans N6a.out n7)
  clear n7 z0 z1 z2
  obtain ⟨q0, q1, q2⟩ := MB.nw P4.out N7.out
  simp only at q0 q1 q2
  go_wp2_with fail
  refine Calls.mono (HHG.out _ _ (NumQ.nw V4.out N7.out)) ?_
  rintro e w8 ⟨rfl, n8⟩
  have N8 : Hid (Nw w w8) := Nw.trans N1.out (Nw.trans N1a.out (Nw.trans N14.out (Nw.trans N7.out n8)))
  clear n8 q0 q1 q2
  go_wp2
  go_ret
  exact ⟨rfl, N8.out⟩
end Go.Proofs.Ythlohbiocfeapaa
