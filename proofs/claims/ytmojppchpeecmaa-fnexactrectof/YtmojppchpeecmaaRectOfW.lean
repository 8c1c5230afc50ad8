/-
  The walk of the law on RectOf; no condition but that the numbers are ints.
-/
import Derived.Test.YtmojppchpeecmaaSRcN
import Derived.Test.YtmojppchpeecmaaLnH
namespace Go.Proofs.Ytmojppchpeecmaa
open Go.ChangeShapes Go.WideShapes Go.ChangeAt Go.RowKit
set_option linter.unusedVariables false

set_option maxHeartbeats 4000000 in
/-- The walk of the law on RectOf. -/
theorem walk_rect (w : World) (x0 x1 x2 x3 x4 : Int) (_h0 : -9223372036854775808 ≤ x0 ∧ x0 ≤ 9223372036854775807) (_h1 : -9223372036854775808 ≤ x1 ∧ x1 ≤ 9223372036854775807) (_h2 : -9223372036854775808 ≤ x2 ∧ x2 ≤ 9223372036854775807) (_h3 : -9223372036854775808 ≤ x3 ∧ x3 ≤ 9223372036854775807) (_h4 : -9223372036854775808 ≤ x4 ∧ x4 ≤ 9223372036854775807) :
    Calls Try.prog 7 #[.int .i64 x0, .int .i64 x1, .int .i64 x2, .int .i64 x3, .int .i64 x4] w fun e w' => e = .returned (.bool true) ∧ Below w.heap.size w w' := by
  have HS : Hid (LnSays 34 (rcA x0 x1 x2 x3 x4) (rectV x0 x1 x2 x3 x4)) := srect x0 x1 x2 x3 x4
  have HI : Hid (LnSays 35 (rcA x0 x1 x2 x3 x4) (rectV x0 x1 x2 x3 x4)) := irect x0 x1 x2 x3 x4
  have hn : (rectV x0 x1 x2 x3 x4).1.length ≤ 1048576 := rectV_len x0 x1 x2 x3 x4
  unfold LnSays rcA at HS HI
  generalize rectV x0 x1 x2 x3 x4 = r at *
  obtain ⟨l, ok⟩ := r
  simp only at *
  have hbb : (ok != ok) = false := by cases ok <;> rfl
  have hnn : ((((1 + 2 * l.length : Nat) : Int)) != ((1 + 2 * l.length : Nat) : Int)) = false := by simp
  have hn0 : decide (((1 + 2 * l.length : Nat) : Int) < 0) = false := decide_eq_false (by omega)
  go_enter Try.func7, Try.ntmps7
  go_wp2_with fail
  refine Calls.mono (HS.out _) ?_
  rintro e w1 ⟨v1, rfl, o1, n1⟩
  obtain ⟨s1, m1, d1, hv1⟩ := OwnQ.slice o1
  subst hv1
  have R1 : Hid (RowP w1 (.slice s1 m1 d1) l) := o1.row
  have F1 : Hid (∀ g, w1.heap.size ≤ g → (Value.slice s1 m1 d1).ownBlock ≠ some g) := fun g hg e => by have := (OwnQ.lt o1 g e).2; omega
  have N1 : Hid (Nw w w1) := n1
  clear o1 n1
  go_wp2_with fail
  refine Calls.mono (HI.out _) ?_
  rintro e w2 ⟨v2, rfl, o2, n2⟩
  obtain ⟨s2, m2, d2, hv2⟩ := OwnQ.slice o2
  subst hv2
  have a1 : Nw w1 (w1.alloc (.cells #[.slice s1 m1 d1, .bool ok] 55)) := (Below.refl _ _).alloc (Nat.le_refl _) _
  have a2 : Nw w2 (w2.alloc (.cells #[.slice s2 m2 d2, .bool ok] 55)) := (Below.refl _ _).alloc (Nat.le_refl _) _
  have O2 : Hid (OwnP (w2.alloc (.cells #[.slice s2 m2 d2, .bool ok] 55)) (w1.heap.size + 1) (.slice s2 m2 d2) l) := (OwnQ.base o2 (by simp)).nw a2
  have R2 : Hid (RowP (w2.alloc (.cells #[.slice s2 m2 d2, .bool ok] 55)) (.slice s1 m1 d1) l) := ((R1.out.nw a1).nw n2).nw a2
  have N2 : Hid (Nw w (w2.alloc (.cells #[.slice s2 m2 d2, .bool ok] 55))) := Nw.trans N1.out (Nw.trans a1 (Nw.trans n2 a2))
  have hz : w1.heap.size < (w1.alloc (.cells #[.slice s1 m1 d1, .bool ok] 55)).heap.size := by simp
  have hz2 : w1.heap.size < w2.heap.size := Nat.lt_of_lt_of_le hz (Below.size n2)
  have p0 : w2.cell? ⟨w1.heap.size, 0, none⟩ = some (.slice s1 m1 d1) := ((bcell n2).1 _ _ hz).trans (by simp)
  have p1 : w2.cell? ⟨w1.heap.size, 1, none⟩ = some (.bool ok) := ((bcell n2).1 _ _ hz).trans (by simp)
  have q0 : (w2.alloc (.cells #[.slice s2 m2 d2, .bool ok] 55)).cell? ⟨w1.heap.size, 0, none⟩ = some (.slice s1 m1 d1) := ((bcell a2).1 _ _ hz2).trans p0
  have q1 : (w2.alloc (.cells #[.slice s2 m2 d2, .bool ok] 55)).cell? ⟨w1.heap.size, 1, none⟩ = some (.bool ok) := ((bcell a2).1 _ _ hz2).trans p1
  have hF : Hid ((Value.slice s2 m2 d2).ownBlock ≠ some w1.heap.size ∧ (Value.slice s2 m2 d2).ownBlock ≠ some w2.heap.size) := ⟨fun e => by have := (OwnQ.lt O2.out _ e).1; omega, fun e => by have := (OwnQ.lt o2 _ e).2; omega⟩
  have HS1 : Hid (w1.heap.size < w2.heap.size) := hz2
  have HN1 : Hid (w.heap.size ≤ w1.heap.size) := Below.size N1.out
  have HZ : Hid (w2.heap.size < (w2.alloc (.cells #[.slice s2 m2 d2, .bool ok] 55)).heap.size) := by show _ < _; simp
  have HR0 : Hid ((w2.alloc (.cells #[.slice s2 m2 d2, .bool ok] 55)).cell? ⟨w2.heap.size, 0, none⟩ = some (.slice s2 m2 d2)) := by show _ = _; simp
  have HR1 : Hid ((w2.alloc (.cells #[.slice s2 m2 d2, .bool ok] 55)).cell? ⟨w2.heap.size, 1, none⟩ = some (.bool ok)) := by show _ = _; simp
  have HQ0 : Hid _ := q0
  have HQ1 : Hid _ := q1
  clear a1 a2 n2 o2 p0 p1 hz hz2 R1 N1
  go_wp2_with fail
  refine Calls.mono (eqLine_any _ _ _ l ok hn O2.out.row R2.out) ?_
  rintro e w3 ⟨rfl, n3⟩
  have O3 : Hid (OwnP w3 (w1.heap.size + 1) (.slice s2 m2 d2) l) := OwnP.nw O2.out n3
  have R3 : Hid (RowP w3 (.slice s1 m1 d1) l) := RowP.nw R2.out n3
  have N3 : Hid (Nw w w3) := Nw.trans N2.out n3
  have S3 : Hid (w2.heap.size < w3.heap.size) := Nat.lt_of_lt_of_le HZ.out (Below.size n3)
  have c0 : w3.cell? ⟨w1.heap.size, 0, none⟩ = some (.slice s1 m1 d1) := ((bcell n3).1 _ _ (Nat.lt_trans HS1.out HZ.out)).trans HQ0.out
  have c1 : w3.cell? ⟨w1.heap.size, 1, none⟩ = some (.bool ok) := ((bcell n3).1 _ _ (Nat.lt_trans HS1.out HZ.out)).trans HQ1.out
  have e0 : w3.cell? ⟨w2.heap.size, 0, none⟩ = some (.slice s2 m2 d2) := ((bcell n3).1 _ _ HZ.out).trans HR0.out
  have e1 : w3.cell? ⟨w2.heap.size, 1, none⟩ = some (.bool ok) := ((bcell n3).1 _ _ HZ.out).trans HR1.out
  clear n3 O2 R2 N2 q0 q1 HQ0 HQ1 HR0 HR1 HZ
  obtain ⟨B1, hB1⟩ : ∃ B, w1.heap.size = B := ⟨_, rfl⟩
  obtain ⟨B2, hB2⟩ : ∃ B, w2.heap.size = B := ⟨_, rfl⟩
  rw [hB1] at c0 c1 O3 hF F1 HN1 HS1 ⊢
  rw [hB2] at e0 e1 hF HS1 S3 ⊢
  clear hB1 hB2
  go_wp2_with fail
  refine Calls.mono (markLine_any _ _ _ l ok 1 hn (by omega) O3.out) ?_
  rintro e w4 ⟨rfl, g4, k4⟩
  have gb := fun b o (h : b < w3.heap.size) (hne : (Value.slice s2 m2 d2).ownBlock ≠ some b) => World.cell?_of_block (w := w3) (w' := w4) (a := ⟨b, o, none⟩) (g4.block b h (fun e => hne e.symm))
  have S4 : Hid (B2 < w4.heap.size) := Nat.lt_of_lt_of_le S3.out g4.size
  replace c0 := (gb B1 0 (Nat.lt_trans HS1.out S3.out) hF.out.1).trans c0
  replace c1 := (gb B1 1 (Nat.lt_trans HS1.out S3.out) hF.out.1).trans c1
  replace e0 := (gb B2 0 S3.out hF.out.2).trans e0
  replace e1 := (gb B2 1 S3.out hF.out.2).trans e1
  have K4 : Hid (Mkd w4 (.slice s2 m2 d2) l.length 1) := k4
  have R4 : Hid (RowP w4 (.slice s1 m1 d1) l) := RowP.grown R3.out g4 (by
    cases hs : (Value.slice s2 m2 d2).ownBlock with
    | none => cases hs1 : (Value.slice s1 m1 d1).ownBlock with
      | none => exact Or.inl rfl
      | some g => exact Or.inr (fun e => by cases e)
    | some g => exact Or.inr (F1.out g (by have := (OwnQ.lt O3.out g hs).1; omega)))
  have N4 : Hid (Below w.heap.size w w4) := Below.trans N3.out ⟨g4.os, g4.tape, g4.output, g4.size, fun i hi => g4.block i (Nat.lt_of_lt_of_le hi (Below.size N3.out)) (fun e => by have := (OwnQ.lt O3.out i e.symm).1; have := HN1.out; omega)⟩
  clear gb g4 k4 O3 R3 N3 S3
  go_wp2_with fail
  refine Calls.mono (heldLine_any _ _ l.length ok 1 hn (by omega) K4.out) ?_
  rintro e w5 ⟨rfl, n5⟩
  replace c0 := ((bcell n5).1 _ _ (Nat.lt_trans HS1.out S4.out)).trans c0
  replace c1 := ((bcell n5).1 _ _ (Nat.lt_trans HS1.out S4.out)).trans c1
  replace e0 := ((bcell n5).1 _ _ S4.out).trans e0
  replace e1 := ((bcell n5).1 _ _ S4.out).trans e1
  have S5 : Hid (B2 < w5.heap.size) := Nat.lt_of_lt_of_le S4.out (Below.size n5)
  have K5 : Hid _ := Mkd.nw K4.out n5
  have R5 : Hid _ := RowP.nw R4.out n5
  have N5 : Hid (Nw w w5) := Nw.trans N4.out n5
  clear n5 K4 R4 N4 S4
  go_wp2_with fail
  refine Calls.mono (HI.out _) ?_
  rintro e w6 ⟨v6, rfl, o6, n6⟩
  obtain ⟨s6, m6, d6, hv6⟩ := OwnQ.slice o6
  subst hv6
  have a6 : Nw w6 (w6.alloc (.cells #[.slice s6 m6 d6, .bool ok] 55)) := (Below.refl _ _).alloc (Nat.le_refl _) _
  have n56 : Nw w5 (w6.alloc (.cells #[.slice s6 m6 d6, .bool ok] 55)) := Nw.trans n6 a6
  have x0 : (w6.alloc (.cells #[.slice s6 m6 d6, .bool ok] 55)).cell? ⟨B1, 0, none⟩ = some (.slice s1 m1 d1) := ((bcell n56).1 _ _ (Nat.lt_trans HS1.out S5.out)).trans c0
  have x1 : (w6.alloc (.cells #[.slice s6 m6 d6, .bool ok] 55)).cell? ⟨B1, 1, none⟩ = some (.bool ok) := ((bcell n56).1 _ _ (Nat.lt_trans HS1.out S5.out)).trans c1
  have HX0 : Hid ((w6.alloc (.cells #[.slice s6 m6 d6, .bool ok] 55)).cell? ⟨B2, 0, none⟩ = some (.slice s2 m2 d2)) := ((bcell n56).1 _ _ S5.out).trans e0
  have HX1 : Hid ((w6.alloc (.cells #[.slice s6 m6 d6, .bool ok] 55)).cell? ⟨B2, 1, none⟩ = some (.bool ok)) := ((bcell n56).1 _ _ S5.out).trans e1
  have O6 : Hid (RowP (w6.alloc (.cells #[.slice s6 m6 d6, .bool ok] 55)) (.slice s6 m6 d6) l) := RowP.nw o6.row a6
  have R6 : Hid _ := RowP.nw R5.out n56
  have K6 : Hid _ := Mkd.nw K5.out n56
  have N6 : Hid (Nw w _) := Nw.trans N5.out n56
  have S6 : Hid (B2 < (w6.alloc (.cells #[.slice s6 m6 d6, .bool ok] 55)).heap.size) := Nat.lt_of_lt_of_le S5.out (Below.size n56)
  clear n56 a6 n6 o6 c0 c1 e0 e1 R5 K5 N5 S5
  go_wp2_with fail
  refine Calls.mono (eqLine_any _ _ _ l ok hn O6.out R6.out) ?_
  rintro e w7 ⟨rfl, n7⟩
  have e0 : w7.cell? ⟨B2, 0, none⟩ = some (.slice s2 m2 d2) := ((bcell n7).1 _ _ S6.out).trans HX0.out
  have e1 : w7.cell? ⟨B2, 1, none⟩ = some (.bool ok) := ((bcell n7).1 _ _ S6.out).trans HX1.out
  have K7 : Hid _ := Mkd.nw K6.out n7
  have N7 : Hid (Nw w w7) := Nw.trans N6.out n7
  clear n7 x0 x1 HX0 HX1 O6 R6 K6 N6 S6
  go_wp2_with fail
  refine Calls.mono (heldLine_any _ _ l.length ok 1 hn (by omega) K7.out) ?_
  rintro e w8 ⟨rfl, n8⟩
  have N8 : Hid (Nw w w8) := Nw.trans N7.out n8
  clear n8
  go_wp2
  go_ret
  exact ⟨rfl, N8.out⟩
end Go.Proofs.Ytmojppchpeecmaa
