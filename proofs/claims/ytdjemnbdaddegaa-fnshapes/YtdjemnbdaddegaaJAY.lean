/-
  What FnShapes wants of curves at their ends and of lines tha
-/
import Derived.Test.YtdjemnbdaddegaaJAV
import Derived.Test.YtdjemnbdaddegaaJAW
import Derived.Test.YtdjemnbdaddegaaJAX
import Derived.Deep.DeepCutAuto
import Derived.Deep.QuietTactic
import Derived.BigQuiet
import Derived.Test.YtdjemnbdaddegaaJAA
namespace Go.Proofs.Ytdjemnbdaddegaa
open Go.ChangeShapes Go.WideShapes Go.ChangeAt Go.RowKit
set_option linter.unusedVariables false
theorem fmV_one1 {x : Int} (h : fixB x = true) : fmV 65536 x = x := by
 unfold fmV
 rw [if_pos ⟨by decide, h⟩]
 have := fixB_iff.1 h
 unfold cutM
 omega
theorem fmV_zero1 (x : Int) : fmV 0 x = 0 := by
 unfold fmV
 split
 ·rw [Int.zero_mul]; decide
 ·rfl
def affId : Aff := ⟨65536, 0, 0, 65536, 0, 0⟩
theorem mvP_id {p : Pnt} (h : ptB p = true) : mvP affId p = p := by
 unfold ptB at h
 rw [Bool.and_eq_true] at h
 unfold mvP affId
 simp only [fmV_one1 h.1, fmV_one1 h.2, fmV_zero1, Int.add_zero, Int.zero_add]
theorem mvLD_id {x : LD} (h : mvsB affId x.pts = true) : mvLD affId x = x := by
 unfold mvLD
 have e : x.pts.map (mvP affId) = x.pts := by
  unfold mvsB at h
  rw [List.all_eq_true] at h
  conv => rhs; rw [← List.map_id x.pts]
  refine List.map_congr_left fun p hp => ?_
  have := h p hp
  unfold mvB at this
  rw [Bool.and_eq_true] at this
  exact mvP_id this.1
 rw [e]
theorem mvR_id {l : List LD} (h : mvAll affId l = true) : mvR affId l = l := by
 unfold mvR
 rw [if_pos h]
 unfold mvAll at h
 simp only [Bool.and_eq_true] at h
 have h2 := h.2
 unfold mvlB at h2
 rw [List.all_eq_true] at h2
 conv => rhs; rw [← List.map_id l]
 exact List.map_congr_left fun x hx => mvLD_id (h2 x hx)
theorem bez_0 (a b c d : Int) : bez a b c d 0 = a := by
 unfold bez
 simp only [Int.mul_zero, Int.add_zero, Int.sub_zero]
 omega
theorem bez_8 (a b c d : Int) : bez a b c d 8 = d := by
 unfold bez
 simp only [Int.sub_self, Int.mul_zero, Int.zero_mul, Int.zero_add]
 omega
theorem cv_0 {l : List Pnt} {k : Int} (h : (cvV l k).2 = true) : l.length = 4 ∧ cvV l 0 = (ptAt l 0, true) ∧ cvV l 8 = (ptAt l 3, true) := by
 unfold cvV at h
 split at h
 case isFalse => cases h
 case isTrue hh =>
  obtain ⟨h1, _, h3⟩ := hh
  refine ⟨h1, ?_, ?_⟩
  ·unfold cvV
   rw [if_pos ⟨h1, by decide, h3⟩]
   unfold curveP
   rw [bez_0, bez_0]
  ·unfold cvV
   rw [if_pos ⟨h1, by decide, h3⟩]
   unfold curveP
   rw [bez_8, bez_8]
theorem lenL_of {l : List LD} (h : manyL l ≤ 10000) : lenL l := fun i hi => by have := manyL_at l i hi; omega
def PtC (w : World) (b : Nat) (p : Pnt) : Prop := w.cell? ⟨b, 0, none⟩ = some (.int .i64 p.1) ∧ w.cell? ⟨b, 1, none⟩ = some (.int .i64 p.2)
theorem PtC.nw {w w' : World} {b : Nat} {p : Pnt} (h : PtC w b p) (k : Nw w w') : PtC w' b p := by
 have hb := World.block_lt_of_cell? w ⟨b, 0, none⟩ h.1
 exact ⟨((bcell k).1 b 0 hb).trans h.1, ((bcell k).1 b 1 hb).trans h.2⟩
theorem PtC.new (w : World) (p : Pnt) (t : TypeId) : PtC (w.alloc (.cells #[.int .i64 p.1, .int .i64 p.2] t)) w.heap.size p := ⟨by simp, by simp⟩
set_option maxRecDepth 100000 in
set_option maxHeartbeats 16000000 in
theorem walk_shapes (w : World) (a0 : Option Addr) (len0 cap0 : Nat) (a1 : Option Addr) (len1 cap1 : Nat) (ml0 : len0 ≤ 9223372036854775807) (ml1 : len1 ≤ 9223372036854775807) (hd0 : Code w w.heap.size a0 len0) (hd1 : Code w w.heap.size a1 len1) :
  Calls Try.prog 3 #[.slice a0 len0 cap0, .slice a1 len1 cap1] w fun e w' => e = .returned (.bool true) ∧ Below w.heap.size w w' := by
 have HC0 : Hid _ := hd0
 have HC1 : Hid (∀ W, Nw w W → Code W W.heap.size a1 len1) := fun W k => by
  have h := Code.below hd1 k
  rcases h with h | ⟨b, off, h1, h2, h3⟩
  ·exact Or.inl h
  ·exact Or.inr ⟨b, off, h1, Nat.lt_of_lt_of_le h2 (Below.size k), h3⟩
 clear hd0 hd1
 by_cases hbig : 1048576 < wrap64 ((len0 : Int) + (len1 : Int))
 ·go_enter Try.func3, Try.ntmps3
  go_wp2
  go_ret
  exact ⟨rfl, Below.refl _ _⟩
 ·go_enter Try.func3, Try.ntmps3
  go_wp2_with fail
  refine (drawCurve_any w a0 len0 cap0 ml0 HC0.out).mono ?_
  rintro e w1 ⟨pa, pc, p, k, rfl, hp, hp4, n1⟩
  have HP : Hid (∀ W, Nw w1 W → Pts W pa p) := fun W k => hp.nw k
  have N1 : Hid (Nw w w1) := n1
  obtain ⟨V, hV⟩ : ∃ V, cvV p k = V := ⟨_, rfl⟩
  have HIC : ∀ W, Nw w1 W → Calls Try.prog 10 #[.slice pa p.length pc, .int .i64 k] W fun e w' => e = .returned (.tuple #[.agg #[.int .i64 V.1.1, .int .i64 V.1.2], .bool V.2]) ∧ Kp W w' := fun W h => by rw [← hV]; exact icurveAt p k (by omega) W pa pc (hp.nw h)
  have HSC : ∀ W, Nw w1 W → Calls Try.prog 11 #[.slice pa p.length pc, .int .i64 k] W fun e w' => e = .returned (.tuple #[.agg #[.int .i64 V.1.1, .int .i64 V.1.2], .bool V.2]) ∧ Kp W w' := fun W h => by rw [← hV]; exact scurveAt p k (by omega) W pa pc (hp.nw h)
  have HI0 : Hid (∀ W, Nw w1 W → Calls Try.prog 10 #[.slice pa p.length pc, .int .i64 k] W fun e w' => e = .returned (.tuple #[.agg #[.int .i64 V.1.1, .int .i64 V.1.2], .bool V.2]) ∧ Kp W w') := HIC
  have HS0 : Hid (∀ W, Nw w1 W → Calls Try.prog 11 #[.slice pa p.length pc, .int .i64 k] W fun e w' => e = .returned (.tuple #[.agg #[.int .i64 V.1.1, .int .i64 V.1.2], .bool V.2]) ∧ Kp W w') := HSC
  have HE : Hid (V.2 = true → p.length = 4 ∧ (∀ W, Nw w1 W → Calls Try.prog 10 #[.slice pa p.length pc, .int .i64 0] W fun e w' => e = .returned (.tuple #[.agg #[.int .i64 (ptAt p 0).1, .int .i64 (ptAt p 0).2], .bool true]) ∧ Kp W w') ∧ (∀ W, Nw w1 W → Calls Try.prog 10 #[.slice pa p.length pc, .int .i64 8] W fun e w' => e = .returned (.tuple #[.agg #[.int .i64 (ptAt p 3).1, .int .i64 (ptAt p 3).2], .bool true]) ∧ Kp W w')) := fun h => by
   obtain ⟨h1, h2, h3⟩ := cv_0 (by rw [hV]; exact h)
   refine ⟨h1, fun W hw => ?_, fun W hw => ?_⟩
   ·have := icurveAt p 0 (by omega) W pa pc (hp.nw hw)
    rw [h2] at this
    exact this
   ·have := icurveAt p 8 (by omega) W pa pc (hp.nw hw)
    rw [h3] at this
    exact this
  obtain ⟨⟨vx, vy⟩, vb⟩ := V
  simp only at HI0 HS0 HE
  clear hp n1 hV HIC HSC
  go_wp2_with fail
  refine Calls.mono (HI0.out w1 (Below.refl _ _)) ?_
  rintro e w2 ⟨rfl, k2⟩
  obtain ⟨X2, hX2⟩ : ∃ X, w2.alloc (.cells #[.int .i64 vx, .int .i64 vy] 27) = X := ⟨_, rfl⟩
  obtain ⟨b2, hb2⟩ : ∃ b, w2.heap.size = b := ⟨_, rfl⟩
  have P2 : Hid (PtC X2 b2 (vx, vy)) := by show PtC _ _ _; rw [← hX2, ← hb2]; exact PtC.new w2 (vx, vy) _
  have M2 : Hid (Nw w1 X2) := by show Nw _ _; rw [← hX2]; exact k2.nw.trans ((Below.refl _ _).alloc (Nat.le_refl _) _)
  have HX2 : Hid (_ = X2) := hX2
  clear k2 hX2
  go_upto_region 5 with fail
  rw [HX2.out]
  clear HX2
  go_wp2_with fail
  refine Calls.mono (HS0.out X2 M2.out) ?_
  rintro e w3 ⟨rfl, k3⟩
  obtain ⟨X3, hX3⟩ : ∃ X, w3.alloc (.cells #[.int .i64 vx, .int .i64 vy] 27) = X := ⟨_, rfl⟩
  obtain ⟨b3, hb3⟩ : ∃ b, w3.heap.size = b := ⟨_, rfl⟩
  have P3 : Hid (PtC X3 b3 (vx, vy)) := by show PtC _ _ _; rw [← hX3, ← hb3]; exact PtC.new w3 (vx, vy) _
  have K3 : Nw w3 X3 := by rw [← hX3]; exact (Below.refl _ _).alloc (Nat.le_refl _) _
  have M3 : Hid (Nw w1 X3) := (M2.out.trans k3.nw).trans K3
  have P23 : Hid (PtC X3 b2 (vx, vy)) := P2.out.nw (k3.nw.trans K3)
  have HX3 : Hid (_ = X3) := hX3
  clear k3 hX3 K3 P2 hb2
  go_upto_region 6 with fail
  rw [HX3.out]
  clear HX3 hb3
  obtain ⟨y0, y1⟩ := P23.out
  obtain ⟨z0, z1⟩ := P3.out
  have hne : (vx != vx) = false := by simp
  have hne2 : (vy != vy) = false := by simp
  have hne3 : (vb != vb) = false := by simp
  simp only at y0 y1 z0 z1
  go_upto_if 52 with fail
  clear y0 y1 z0 z1 hne hne2 hne3 P23 P3
  go_cut [] (fun wx => Nw w1 wx)
  case first =>
   cases vb with
   | false =>
    go_wp2
    go_meet
    exact M3.out
   | true =>
    obtain ⟨h4, hA0, hA8⟩ := HE.out rfl
    have HA0 : Hid _ := hA0
    have HA8 : Hid _ := hA8
    have i0 : (0 : Int) < (p.length : Int) := by omega
    have i3 : (3 : Int) < (p.length : Int) := by omega
    have j0 : ¬ p.length = 0 := by omega
    have j3 : 3 < p.length := by omega
    clear hA0 hA8 h4
    go_wp2_with fail
    refine Calls.mono (HA0.out X3 M3.out) ?_
    rintro e w4 ⟨rfl, k4⟩
    obtain ⟨X4, hX4⟩ : ∃ X, w4.alloc (.cells #[.int .i64 (ptAt p 0).1, .int .i64 (ptAt p 0).2] 27) = X := ⟨_, rfl⟩
    obtain ⟨b4, hb4⟩ : ∃ b, w4.heap.size = b := ⟨_, rfl⟩
    have P4 : Hid (PtC X4 b4 (ptAt p 0)) := by show PtC _ _ _; rw [← hX4, ← hb4]; exact PtC.new w4 (ptAt p 0) _
    have M4 : Hid (Nw w1 X4) := by show Nw _ _; rw [← hX4]; exact (M3.out.trans k4.nw).trans ((Below.refl _ _).alloc (Nat.le_refl _) _)
    have HX4 : Hid (_ = X4) := hX4
    clear k4 hX4
    go_upto_region 10 with fail
    rw [HX4.out]
    clear HX4
    go_wp2_with fail
    refine Calls.mono (HA8.out X4 M4.out) ?_
    rintro e w5 ⟨rfl, k5⟩
    obtain ⟨X5, hX5⟩ : ∃ X, w5.alloc (.cells #[.int .i64 (ptAt p 3).1, .int .i64 (ptAt p 3).2] 27) = X := ⟨_, rfl⟩
    obtain ⟨b5, hb5⟩ : ∃ b, w5.heap.size = b := ⟨_, rfl⟩
    have P5 : Hid (PtC X5 b5 (ptAt p 3)) := by show PtC _ _ _; rw [← hX5, ← hb5]; exact PtC.new w5 (ptAt p 3) _
    have K5 : Nw w5 X5 := by rw [← hX5]; exact (Below.refl _ _).alloc (Nat.le_refl _) _
    have M5 : Hid (Nw w1 X5) := (M4.out.trans k5.nw).trans K5
    have P45 : Hid (PtC X5 b4 (ptAt p 0)) := P4.out.nw (k5.nw.trans K5)
    have HX5 : Hid (_ = X5) := hX5
    clear k5 hX5 K5 P4
    go_upto_region 11 with fail
    rw [HX5.out]
    clear HX5 hb5 hb4
    rcases HP.out X5 M5.out with h | ⟨b, off, hpa, hb, hc⟩
    ·rw [h] at i0; simp at i0
    obtain ⟨c0, c1⟩ := hc 0 (by omega)
    obtain ⟨c6, c7⟩ := hc 3 j3
    simp only [Nat.zero_mul, Nat.add_zero] at c0 c1
    obtain ⟨y0, y1⟩ := P45.out
    obtain ⟨z0, z1⟩ := P5.out
    generalize ptAt p 0 = p0 at *
    generalize ptAt p 3 = p3 at *
    obtain ⟨x0, x1⟩ := p0
    obtain ⟨x6, x7⟩ := p3
    simp only at y0 y1 z0 z1 c0 c1 c6 c7
    have e0 : (x0 != x0) = false := by simp
    have e1 : (x1 != x1) = false := by simp
    have e6 : (x6 != x6) = false := by simp
    have e7 : (x7 != x7) = false := by simp
    subst hpa
    clear hc
    go_quiet (fail)
    go_wp2
    go_meet
    exact M5.out.trans (nw_drwN _ _)
  case rest =>
   clear HI0 HS0 HE HP M3 M2
   have N3 : Hid (Nw w wc) := N1.out.trans hcut
   clear hcut N1
   go_wp2_with fail
   refine (drawMove_any wc a1 len1 cap1 ml1 (HC1.out wc N3.out)).mono ?_
   rintro e w4 ⟨xa, xb, xc, xd, xe, xf, la, lc, l, rfl, hln, hl1, hl2, n4⟩
   obtain ⟨X4, hX4⟩ : ∃ X, w4.alloc (.cells #[.int .i64 xa, .int .i64 xb, .int .i64 xc, .int .i64 xd, .int .i64 xe, .int .i64 xf] 31) = X := ⟨_, rfl⟩
   have K4 : Nw w4 X4 := by rw [← hX4]; exact (Below.refl _ _).alloc (Nat.le_refl _) _
   have N4 : Hid (Nw w X4) := (N3.out.trans n4).trans K4
   have HL : Hid (∀ W, Nw X4 W → Lines W la l) := fun W h => hln.nw (K4.trans h)
   have HX4 : Hid (_ = X4) := hX4
   clear hln n4 K4 hX4 N3
   go_upto_region 14 with fail
   rw [HX4.out]
   clear HX4
   obtain ⟨V, hV⟩ : ∃ V, mvAll affId l = V := ⟨_, rfl⟩
   have HI : Hid (∀ W, Nw X4 W → Calls Try.prog 13 #[.agg #[.int .i64 65536, .int .i64 0, .int .i64 0, .int .i64 65536, .int .i64 0, .int .i64 0], .slice la l.length lc] W fun e w' => ∃ (va : Option Addr) (vc : Nat), e = .returned (.tuple #[.slice va (mvR affId l).length vc, .bool V]) ∧ Lines w' va (mvR affId l) ∧ Nw W w') := fun W h => by
    rw [← hV]
    refine (imove W affId la lc l (by omega) (by omega) (HL.out W h)).mono ?_
    rintro e w' ⟨v, it, rfl, ho, hm, n⟩
    obtain ⟨va, vc, rfl, hln⟩ := OwnLn.lines ho
    rw [hm] at hln ⊢
    exact ⟨va, vc, rfl, hln, n⟩
   have HS : Hid (∀ W, Nw X4 W → Calls Try.prog 14 #[.agg #[.int .i64 65536, .int .i64 0, .int .i64 0, .int .i64 65536, .int .i64 0, .int .i64 0], .slice la l.length lc] W fun e w' => ∃ (va : Option Addr) (vc : Nat), e = .returned (.tuple #[.slice va (mvR affId l).length vc, .bool V]) ∧ Nw W w') := fun W h => by
    rw [← hV]
    refine (smove W affId la lc l (by omega) (by omega) (HL.out W h)).mono ?_
    rintro e w' ⟨v, it, rfl, ho, hm, n⟩
    obtain ⟨va, vc, rfl, hln⟩ := OwnLn.lines ho
    rw [hm]
    exact ⟨va, vc, rfl, n⟩
   have HR : Hid (V = true → mvR affId l = l) := fun h => mvR_id (hV.trans h)
   clear hV
   have hVV : (V != V) = false := by simp
   generalize mvR affId l = m at *
   go_wp2_with fail
   refine Calls.mono (HI.out X4 (Below.refl _ _)) ?_
   rintro e w5 ⟨va, vc, rfl, hm, n5⟩
   have HM : Hid (∀ W, Nw w5 W → Lines W va m) := fun W h => hm.nw h
   have N5 : Hid (Nw X4 w5) := n5
   clear hm n5
   go_wp2_with fail
   refine Calls.mono (HS.out w5 N5.out) ?_
   rintro e w6 ⟨vb2, vc2, rfl, n6⟩
   have N6 : Hid (Nw w5 w6) := n6
   clear n6
   cases V with
   | false =>
    go_wp2
    go_ret
    exact ⟨rfl, (N4.out.trans N5.out).trans N6.out⟩
   | true =>
    have hml := HR.out rfl
    subst hml
    go_wp2_with fail
    refine (sameLines_any w6 va la vc lc m (by omega) (lenL_of hl2) (HM.out w6 N6.out) (HL.out w6 (N5.out.trans N6.out))).mono ?_
    rintro e w7 ⟨rfl, n7⟩
    have N7 : Hid (Nw w6 w7) := n7
    clear n7
    go_wp2
    go_ret
    exact ⟨rfl, ((N4.out.trans N5.out).trans N6.out).trans N7.out⟩
end Go.Proofs.Ytdjemnbdaddegaa
