/-
  What the specification makes of one word of a transform, som
-/
import Derived.Test.YtdjemnbdaddegaaJAU
import Derived.Test.YtdjemnbdaddegaaJAT
import Derived.Test.YtdjemnbdaddegaaJAS
import Derived.Test.YtdjemnbdaddegaaJAN
import Derived.Test.YtdjemnbdaddegaaJAA
namespace Go.Proofs.Ytdjemnbdaddegaa
open Go.ChangeShapes Go.WideShapes Go.ChangeAt Go.RowKit
set_option linter.unusedVariables false
set_option maxRecDepth 100000 in
set_option maxHeartbeats 16000000 in
theorem one_M (w : World) (word : ByteArray) (va : Option Addr) (vc : Nat) (l : List Int) (hl : l.length ≤ 60) (hn : Nms w va l) (hkn : Kn word l false false false true false false false false false true) :
  Calls Try.prog 130 #[.string word, .slice va l.length vc] w fun e w' => AffSome e ∧ Nw w w' := by
 have HN : Hid (Nms w va l) := hn
 clear hn
 obtain ⟨W0, hW0⟩ : ∃ W0, w.alloc (.cells #[.int .i64 0, .int .i64 0, .int .i64 0, .int .i64 0, .int .i64 0, .int .i64 0] 31) = W0 := ⟨_, rfl⟩
 have HW0 : Hid (_ = W0) := hW0
 clear hW0
 go_enter Try.func130, Try.ntmps130
 go_wp2_with fail
 rw [HW0.out]
 refine (ssame W0).mono ?_
 rintro e w1 ⟨rfl, h1⟩
 have HO : Hid (OS w _ w1.heap.size) := OS.start w W0 w1 HW0.out h1
 clear h1 HW0
 obtain ⟨W, hW⟩ : ∃ W, w1.alloc (.cells #[.int .i64 65536, .int .i64 0, .int .i64 0, .int .i64 65536, .int .i64 0, .int .i64 0] 31) = W := ⟨_, rfl⟩
 have HW : Hid (_ = W) := hW
 rw [hW] at HO
 clear hW
 go_upto_block 0 with fail
 rw [HW.out]
 clear HW
 generalize w1.heap.size = P at *
 clear w1
 go_cut [] (fun wx => OS w wx P)
 case first =>
  have h := hkn
  clear hkn
  ·have hk : l.length = 6 := by have := h.k6; simp at this; omega
   obtain ⟨c0, c1, c2, c3, c4, c5, k1, k2, k3, k6⟩ := h
   obtain ⟨g, rfl, hg, n0⟩ := HN.out 0 (by omega)
   have b0 : (0 : Int) < (l.length : Int) := by omega
   have hgP : g ≠ P := by have := HO.out.hP; omega
   have m0 := ((bcell HO.out.nw).1 _ 0 hg).trans n0
   obtain ⟨g1, e1, _, n1⟩ := HN.out 1 (by omega)
   injection e1 with e1; injection e1 with e1; subst e1
   have b1 : (1 : Int) < (l.length : Int) := by omega
   have m1 := ((bcell HO.out.nw).1 _ 1 hg).trans n1
   obtain ⟨g2, e2, _, n2⟩ := HN.out 2 (by omega)
   injection e2 with e2; injection e2 with e2; subst e2
   have b2 : (2 : Int) < (l.length : Int) := by omega
   have m2 := ((bcell HO.out.nw).1 _ 2 hg).trans n2
   obtain ⟨g3, e3, _, n3⟩ := HN.out 3 (by omega)
   injection e3 with e3; injection e3 with e3; subst e3
   have b3 : (3 : Int) < (l.length : Int) := by omega
   have m3 := ((bcell HO.out.nw).1 _ 3 hg).trans n3
   obtain ⟨g4, e4, _, n4⟩ := HN.out 4 (by omega)
   injection e4 with e4; injection e4 with e4; subst e4
   have b4 : (4 : Int) < (l.length : Int) := by omega
   have m4 := ((bcell HO.out.nw).1 _ 4 hg).trans n4
   obtain ⟨g5, e5, _, n5⟩ := HN.out 5 (by omega)
   injection e5 with e5; injection e5 with e5; subst e5
   have b5 : (5 : Int) < (l.length : Int) := by omega
   have m5 := ((bcell HO.out.nw).1 _ 5 hg).trans n5
   clear hk
   obtain ⟨a0, a1, a2, a3, a4, a5, y0, y1, y2, y3, y4, y5, yf⟩ := HO.out.p.get
   have hl0 : ¬ l.length = 0 := by omega
   go_wp2_with fail
   refine OM.run ⟨intAt l 0, intAt l 1, intAt l 2, intAt l 3, intAt l 4, intAt l 5, g, l.length, vc, P, W, _⟩ ⟨m0, m1, m2, m3, m4, m5, hl0, b0, b1, b2, b3, b4, b5, ⟨_, y0⟩, ⟨_, y1⟩, ⟨_, y2⟩, ⟨_, y3⟩, ⟨_, y4⟩, ⟨_, y5⟩, yf, rfl, rfl, rfl⟩ W ((Kp.refl _).drew) ?_
   rintro γ w7 ⟨w8, k8, rfl⟩
   simp only at k8
   have O8 : Hid (OS w w8 P) := HO.out.go k8.nw
   clear k8 y0 y1 y2 y3 y4 y5 yf m0 m1 m2 m3 m4 m5 n0 n1 n2 n3 n4 n5
   simp only [Act.put, List.setIfInBounds_toArray, List.set_cons_zero, List.set_cons_succ]
   clear γ
   go_wp2
   go_meet
   exact O8.out.all _ _ _ _ _ _
 case rest =>
  have OE : Hid (OS w wc P) := hcut
  clear hcut HO HN
  obtain ⟨a0, a1, a2, a3, a4, a5, y0, y1, y2, y3, y4, y5, yf⟩ := OE.out.p.get
  obtain ⟨z0, z1, z2, z3, z4, z5, q0, q1, q2, q3, q4, q5, qf⟩ := OE.out.r.get
  have hPl := OE.out.p.lt
  have hRl := OE.out.r.lt
  clear yf
  go_wp2_with fail
  go_region_with (go_at_call 54; refine (sgoodAff _ a0 a1 a2 a3 a4 a5).mono ?_; rintro e w9 ⟨rfl, k9⟩; have kk := bcell k9.nw; have v0 := (kk.1 _ 0 hPl).trans y0; have v1 := (kk.1 _ 1 hPl).trans y1; have v2 := (kk.1 _ 2 hPl).trans y2; have v3 := (kk.1 _ 3 hPl).trans y3; have v4 := (kk.1 _ 4 hPl).trans y4; have v5 := (kk.1 _ 5 hPl).trans y5; have s0 := (kk.1 _ 0 hRl).trans q0; have s1 := (kk.1 _ 1 hRl).trans q1; have s2 := (kk.1 _ 2 hRl).trans q2; have s3 := (kk.1 _ 3 hRl).trans q3; have s4 := (kk.1 _ 4 hRl).trans q4; have s5 := (kk.1 _ 5 hRl).trans q5; have sf := fun o => (kk.2 _ o hRl).trans (qf o); clear kk)
  all_goals
   have N9 : Hid (Nw w w9) := Nw.trans OE.out.nw (nw_und k9.nw)
   obtain ⟨t0, t1, t2, t3, t4, t5⟩ := sset6 w9 w.heap.size (.int .i64 a0) (.int .i64 a1) (.int .i64 a2) (.int .i64 a3) (.int .i64 a4) (.int .i64 a5) s0 s1 s2 s3 s4 s5
   go_wp2
   refine bodyPost_ret (v := .tuple #[.agg #[.int .i64 a0, .int .i64 a1, .int .i64 a2, .int .i64 a3, .int .i64 a4, .int .i64 a5], .bool (gA a0 a1 a2 a3 a4 a5)]) (by simp [results, Try.results130, go_sem, t0, t1, t2, t3, t4, t5]) rfl ⟨⟨_, _, _, _, _, _, _, rfl⟩, nw_six N9.out (Nat.le_refl _) _ _ _ _ _ _⟩
set_option maxRecDepth 100000 in
set_option maxHeartbeats 16000000 in
theorem one_S (w : World) (word : ByteArray) (va : Option Addr) (vc : Nat) (l : List Int) (hl : l.length ≤ 60) (hn : Nms w va l) (hkn : Kn word l false false true false false false false false true false) :
  Calls Try.prog 130 #[.string word, .slice va l.length vc] w fun e w' => AffSome e ∧ Nw w w' := by
 have HN : Hid (Nms w va l) := hn
 clear hn
 obtain ⟨W0, hW0⟩ : ∃ W0, w.alloc (.cells #[.int .i64 0, .int .i64 0, .int .i64 0, .int .i64 0, .int .i64 0, .int .i64 0] 31) = W0 := ⟨_, rfl⟩
 have HW0 : Hid (_ = W0) := hW0
 clear hW0
 go_enter Try.func130, Try.ntmps130
 go_wp2_with fail
 rw [HW0.out]
 refine (ssame W0).mono ?_
 rintro e w1 ⟨rfl, h1⟩
 have HO : Hid (OS w _ w1.heap.size) := OS.start w W0 w1 HW0.out h1
 clear h1 HW0
 obtain ⟨W, hW⟩ : ∃ W, w1.alloc (.cells #[.int .i64 65536, .int .i64 0, .int .i64 0, .int .i64 65536, .int .i64 0, .int .i64 0] 31) = W := ⟨_, rfl⟩
 have HW : Hid (_ = W) := hW
 rw [hW] at HO
 clear hW
 go_upto_block 0 with fail
 rw [HW.out]
 clear HW
 generalize w1.heap.size = P at *
 clear w1
 go_cut [] (fun wx => OS w wx P)
 case first =>
  have h := hkn
  clear hkn
  ·have hk : l.length = 3 := by have := h.k3; simp at this; omega
   obtain ⟨c0, c1, c2, c3, c4, c5, k1, k2, k3, k6⟩ := h
   obtain ⟨g, rfl, hg, n0⟩ := HN.out 0 (by omega)
   have b0 : (0 : Int) < (l.length : Int) := by omega
   have hgP : g ≠ P := by have := HO.out.hP; omega
   have m0 := ((bcell HO.out.nw).1 _ 0 hg).trans n0
   obtain ⟨g1, e1, _, n1⟩ := HN.out 1 (by omega)
   injection e1 with e1; injection e1 with e1; subst e1
   have b1 : (1 : Int) < (l.length : Int) := by omega
   have m1 := ((bcell HO.out.nw).1 _ 1 hg).trans n1
   obtain ⟨g2, e2, _, n2⟩ := HN.out 2 (by omega)
   injection e2 with e2; injection e2 with e2; subst e2
   have b2 : (2 : Int) < (l.length : Int) := by omega
   have m2 := ((bcell HO.out.nw).1 _ 2 hg).trans n2
   clear hk
   obtain ⟨a0, a1, a2, a3, a4, a5, y0, y1, y2, y3, y4, y5, yf⟩ := HO.out.p.get
   obtain ⟨t, ht, hT⟩ := turn_some (intAt l 0)
   obtain ⟨sv, hS⟩ := sin_some t ht
   obtain ⟨cv, hC⟩ := cos_some t ht
   have HT : Hid _ := hT
   have HS : Hid _ := hS
   have HC : Hid _ := hC
   clear hT hS hC ht
   go_wp2_with fail
   refine (HT.out W).mono ?_
   rintro e w2 ⟨rfl, hq⟩
   have hq2 := hq.symm; clear hq; subst hq2
   go_wp2_with fail
   refine (HC.out W).mono ?_
   rintro e w3 ⟨rfl, k3'⟩
   have O3 : Hid (OS w w3 P) := HO.out.go k3'.nw
   clear k3'
   go_wp2_with fail
   refine (HS.out w3).mono ?_
   rintro e w4 ⟨rfl, k4'⟩
   have O4 : Hid (OS w w4 P) := O3.out.go k4'.nw
   clear k4'
   go_wp2_with fail
   refine (HS.out w4).mono ?_
   rintro e w5 ⟨rfl, k5'⟩
   have O5 : Hid (OS w w5 P) := O4.out.go k5'.nw
   clear k5'
   go_wp2_with fail
   refine (HC.out w5).mono ?_
   rintro e w6 ⟨rfl, k6'⟩
   have O6 : Hid (OS w w6 P) := O5.out.go k6'.nw
   clear k6' y0 y1 y2 y3 y4 y5 yf
   obtain ⟨a0, a1, a2, a3, a4, a5, y0, y1, y2, y3, y4, y5, yf⟩ := O6.out.p.get
   go_wp2_with fail
   refine (ssame _).mono ?_
   rintro e w8 ⟨rfl, k8⟩
   have O8 : Hid (OS w w8 P) := (O6.out.all cv sv _ cv 0 0).go k8
   obtain ⟨WT, hWT⟩ : ∃ WT, w8.alloc (.cells #[.int .i64 65536, .int .i64 0, .int .i64 0, .int .i64 65536, .int .i64 0, .int .i64 0] 31) = WT := ⟨_, rfl⟩
   have O9 : Hid (OS w WT P) := by show OS _ _ _; rw [← hWT]; exact O8.out.go ((Below.refl _ _).alloc (Nat.le_refl _) _)
   have T9 : Hid (SixE WT w8.heap.size) := by show SixE _ _; rw [← hWT]; exact Six.new w8 _ _ _ _ _ _ _
   have hT1 : Hid (w.heap.size < w8.heap.size ∧ P < w8.heap.size) := ⟨O8.out.r.lt, O8.out.p.lt⟩
   have hT2 : Hid (g < w8.heap.size) := Nat.lt_trans hg O8.out.r.lt
   have HWT : Hid (_ = WT) := hWT
   clear hWT k8 y0 y1 y2 y3 y4 y5 yf m0 m1 m2 O6 O5 O4 O3 HS HC HT O8
   go_upto_region 19 with fail
   rw [HWT.out]
   clear HWT
   generalize w8.heap.size = T at *
   clear w8
   obtain ⟨x0, x1, x2, x3, x4, x5, p0, p1, p2, p3, p4, p5, pf⟩ := T9.out.get
   have hgT : g ≠ T := by have := hT2.out; omega
   have m1 := ((bcell O9.out.nw).1 _ 1 hg).trans n1
   have m2 : (WT.setCell ⟨T, 4, none⟩ (.int .i64 (intAt l 1))).cell? ⟨g, 2, none⟩ = some (.int .i64 (intAt l 2)) := (World.cell?_setCell_other _ _ _ _ (fun e => by injection e; omega)).trans (((bcell O9.out.nw).1 _ 2 hg).trans n2)
   obtain ⟨WU, hWU⟩ : ∃ WU, (WT.setCell ⟨T, 4, none⟩ (.int .i64 (intAt l 1))).setCell ⟨T, 5, none⟩ (.int .i64 (intAt l 2)) = WU := ⟨_, rfl⟩
   have O10 : Hid (OS w WU P) := by show OS _ _ _; rw [← hWU]; exact (O9.out.off T 4 _ (by have := hT1.out; omega) (by have := hT1.out; omega)).off T 5 _ (by have := hT1.out; omega) (by have := hT1.out; omega)
   have T10 : Hid (SixE WU T) := by show SixE _ _; rw [← hWU]; exact (T9.out.set 4 _ (by omega)).set 5 _ (by omega)
   have HWU : Hid (_ = WU) := hWU
   clear hWU
   go_upto_region 21 with fail
   rw [HWU.out]
   clear HWU m1 m2 p0 p1 p2 p3 p4 p5 pf O9 T9
   go_wp2_with fail
   refine (ssame _).mono ?_
   rintro e w11 ⟨rfl, k11⟩
   obtain ⟨WB, hWB⟩ : ∃ WB, w11.alloc (.cells #[.int .i64 65536, .int .i64 0, .int .i64 0, .int .i64 65536, .int .i64 0, .int .i64 0] 31) = WB := ⟨_, rfl⟩
   have NB : Nw WU WB := by rw [← hWB]; exact k11.alloc (Below.size k11) _
   have O12 : Hid (OS w WB P) := O10.out.go NB
   have T12 : Hid (SixE WB T) := T10.out.nw NB
   have B12 : Hid (SixE WB w11.heap.size) := by show SixE _ _; rw [← hWB]; exact Six.new w11 _ _ _ _ _ _ _
   have hB1 : Hid (w.heap.size < w11.heap.size ∧ P < w11.heap.size ∧ T < w11.heap.size ∧ g < w11.heap.size) := by
    have h1 := Below.size k11
    have h2 := O10.out.r.lt
    have h3 := O10.out.p.lt
    have h4 := T10.out.lt
    exact ⟨by omega, by omega, by omega, by omega⟩
   have HWB : Hid (_ = WB) := hWB
   clear hWB NB k11 O10 T10
   go_upto_region 22 with fail
   rw [HWB.out]
   clear HWB
   generalize w11.heap.size = K at *
   clear w11
   obtain ⟨x0, x1, x2, x3, x4, x5, p0, p1, p2, p3, p4, p5, pf⟩ := B12.out.get
   have hgK : g ≠ K := by have := hB1.out; omega
   have m1 := ((bcell O12.out.nw).1 _ 1 hg).trans n1
   have m2 : (WB.setCell ⟨K, 4, none⟩ (.int .i64 (wrap64 (-intAt l 1)))).cell? ⟨g, 2, none⟩ = some (.int .i64 (intAt l 2)) := (World.cell?_setCell_other _ _ _ _ (fun e => by injection e; omega)).trans (((bcell O12.out.nw).1 _ 2 hg).trans n2)
   obtain ⟨WC, hWC⟩ : ∃ WC, (WB.setCell ⟨K, 4, none⟩ (.int .i64 (wrap64 (-intAt l 1)))).setCell ⟨K, 5, none⟩ (.int .i64 (wrap64 (-intAt l 2))) = WC := ⟨_, rfl⟩
   have O13 : Hid (OS w WC P) := by show OS _ _ _; rw [← hWC]; exact (O12.out.off K 4 _ (by have := hB1.out; omega) (by have := hB1.out; omega)).off K 5 _ (by have := hB1.out; omega) (by have := hB1.out; omega)
   have T13 : Hid (SixE WC T) := by show SixE _ _; rw [← hWC]; exact (T12.out.off _ _ (by have := hB1.out; omega)).off _ _ (by have := hB1.out; omega)
   have B13 : Hid (SixE WC K) := by show SixE _ _; rw [← hWC]; exact (B12.out.set 4 _ (by omega)).set 5 _ (by omega)
   have HWC : Hid (_ = WC) := hWC
   clear hWC
   go_upto_region 24 with fail
   rw [HWC.out]
   clear HWC m1 m2 p0 p1 p2 p3 p4 p5 pf O12 T12 B12
   obtain ⟨x0, x1, x2, x3, x4, x5, p0, p1, p2, p3, p4, p5, pf⟩ := T13.out.get
   obtain ⟨gd, hG⟩ := good_some1 x0 x1 x2 x3 x4 x5
   have HG : Hid _ := hG
   clear hG
   go_wp2_with fail
   refine (HG.out WC).mono ?_
   rintro e w14 ⟨rfl, k14⟩
   have O14 : Hid (OS w w14 P) := O13.out.go k14.nw
   have T14 := fun o => (bcell k14.nw).1 T o T13.out.lt
   have F14 := (bcell k14.nw).2
   have B14 : Hid (SixE w14 K) := B13.out.nw k14.nw
   replace p0 := (T14 0).trans p0
   replace p1 := (T14 1).trans p1
   replace p2 := (T14 2).trans p2
   replace p3 := (T14 3).trans p3
   replace p4 := (T14 4).trans p4
   replace p5 := (T14 5).trans p5
   obtain ⟨a0, a1, a2, a3, a4, a5, y0, y1, y2, y3, y4, y5, yf⟩ := O14.out.p.get
   clear k14 T14 F14 pf
   cases gd with
   | false =>
    obtain ⟨z0, z1, z2, z3, z4, z5, q0, q1, q2, q3, q4, q5, qf⟩ := O14.out.r.get
    obtain ⟨t0, t1, t2, t3, t4, t5⟩ := sset6 w14 w.heap.size (.int .i64 a0) (.int .i64 a1) (.int .i64 a2) (.int .i64 a3) (.int .i64 a4) (.int .i64 a5) q0 q1 q2 q3 q4 q5
    go_wp2
    refine bodyPost_ret (v := .tuple #[.agg #[.int .i64 a0, .int .i64 a1, .int .i64 a2, .int .i64 a3, .int .i64 a4, .int .i64 a5], .bool false]) (by simp [results, Try.results130, go_sem, t0, t1, t2, t3, t4, t5]) rfl ⟨⟨_, _, _, _, _, _, _, rfl⟩, nw_six O14.out.nw (Nat.le_refl _) _ _ _ _ _ _⟩
   | true =>
    obtain ⟨f0, f1, f2, f3, f4, f5, r0, r1, r2, r3, r4, r5, rf⟩ := B14.out.get
    obtain ⟨u0, u1, u2, u3, u4, u5, hM1⟩ := mul_some1 x0 x1 x2 x3 x4 x5 a0 a1 a2 a3 a4 a5
    obtain ⟨v0, v1, v2, v3, v4, v5, hM2⟩ := mul_some1 u0 u1 u2 u3 u4 u5 f0 f1 f2 f3 f4 f5
    have HM1 : Hid _ := hM1
    have HM2 : Hid _ := hM2
    clear hM1 hM2
    go_wp2_with fail
    refine OR.run ⟨x0, x1, x2, x3, x4, x5, a0, a1, a2, a3, a4, a5, u0, u1, u2, u3, u4, u5, f0, f1, f2, f3, f4, f5, v0, v1, v2, v3, v4, v5, T, P, K, w14, _⟩ ⟨p0, p1, p2, p3, p4, p5, y0, y1, y2, y3, y4, y5, r0, r1, r2, r3, r4, r5, HM1.out, HM2.out, ⟨_, y0⟩, ⟨_, y1⟩, ⟨_, y2⟩, ⟨_, y3⟩, ⟨_, y4⟩, ⟨_, y5⟩, yf, rfl, rfl, rfl, rfl⟩ w14 ((Kp.refl _).drew) ?_
    rintro γ w15 ⟨w16, k16, rfl⟩
    simp only at k16
    have O16 : Hid (OS w w16 P) := O14.out.go k16.nw
    clear k16 y0 y1 y2 y3 y4 y5 yf p0 p1 p2 p3 p4 p5 r0 r1 r2 r3 r4 r5 rf
    simp only [Act.put, List.setIfInBounds_toArray, List.set_cons_zero, List.set_cons_succ]
    clear γ
    go_wp2
    go_meet
    exact O16.out.all _ _ _ _ _ _
 case rest =>
  have OE : Hid (OS w wc P) := hcut
  clear hcut HO HN
  obtain ⟨a0, a1, a2, a3, a4, a5, y0, y1, y2, y3, y4, y5, yf⟩ := OE.out.p.get
  obtain ⟨z0, z1, z2, z3, z4, z5, q0, q1, q2, q3, q4, q5, qf⟩ := OE.out.r.get
  have hPl := OE.out.p.lt
  have hRl := OE.out.r.lt
  clear yf
  go_wp2_with fail
  go_region_with (go_at_call 54; refine (sgoodAff _ a0 a1 a2 a3 a4 a5).mono ?_; rintro e w9 ⟨rfl, k9⟩; have kk := bcell k9.nw; have v0 := (kk.1 _ 0 hPl).trans y0; have v1 := (kk.1 _ 1 hPl).trans y1; have v2 := (kk.1 _ 2 hPl).trans y2; have v3 := (kk.1 _ 3 hPl).trans y3; have v4 := (kk.1 _ 4 hPl).trans y4; have v5 := (kk.1 _ 5 hPl).trans y5; have s0 := (kk.1 _ 0 hRl).trans q0; have s1 := (kk.1 _ 1 hRl).trans q1; have s2 := (kk.1 _ 2 hRl).trans q2; have s3 := (kk.1 _ 3 hRl).trans q3; have s4 := (kk.1 _ 4 hRl).trans q4; have s5 := (kk.1 _ 5 hRl).trans q5; have sf := fun o => (kk.2 _ o hRl).trans (qf o); clear kk)
  all_goals
   have N9 : Hid (Nw w w9) := Nw.trans OE.out.nw (nw_und k9.nw)
   obtain ⟨t0, t1, t2, t3, t4, t5⟩ := sset6 w9 w.heap.size (.int .i64 a0) (.int .i64 a1) (.int .i64 a2) (.int .i64 a3) (.int .i64 a4) (.int .i64 a5) s0 s1 s2 s3 s4 s5
   go_wp2
   refine bodyPost_ret (v := .tuple #[.agg #[.int .i64 a0, .int .i64 a1, .int .i64 a2, .int .i64 a3, .int .i64 a4, .int .i64 a5], .bool (gA a0 a1 a2 a3 a4 a5)]) (by simp [results, Try.results130, go_sem, t0, t1, t2, t3, t4, t5]) rfl ⟨⟨_, _, _, _, _, _, _, rfl⟩, nw_six N9.out (Nat.le_refl _) _ _ _ _ _ _⟩
set_option maxRecDepth 100000 in
set_option maxHeartbeats 16000000 in
theorem one_C (w : World) (word : ByteArray) (va : Option Addr) (vc : Nat) (l : List Int) (hl : l.length ≤ 60) (hn : Nms w va l) (n1 n2 n3 n6 : Bool) (hkn : (Kn word l false false false false false false n1 n2 n3 n6) ∨ (Kn word l true false false false false false false false n3 n6) ∨ (Kn word l false true false false false false false false n3 n6) ∨ (Kn word l false false true false false false false n2 false n6) ∨ (Kn word l false false false true false false n1 n2 n3 false) ∨ (Kn word l false false false false true false false n2 n3 n6) ∨ (Kn word l false false false false false true false n2 n3 n6)) :
  Calls Try.prog 130 #[.string word, .slice va l.length vc] w fun e w' => AffSome e ∧ Nw w w' := by
 have HN : Hid (Nms w va l) := hn
 clear hn
 obtain ⟨W0, hW0⟩ : ∃ W0, w.alloc (.cells #[.int .i64 0, .int .i64 0, .int .i64 0, .int .i64 0, .int .i64 0, .int .i64 0] 31) = W0 := ⟨_, rfl⟩
 have HW0 : Hid (_ = W0) := hW0
 clear hW0
 go_enter Try.func130, Try.ntmps130
 go_wp2_with fail
 rw [HW0.out]
 refine (ssame W0).mono ?_
 rintro e w1 ⟨rfl, h1⟩
 have HO : Hid (OS w _ w1.heap.size) := OS.start w W0 w1 HW0.out h1
 clear h1 HW0
 obtain ⟨W, hW⟩ : ∃ W, w1.alloc (.cells #[.int .i64 65536, .int .i64 0, .int .i64 0, .int .i64 65536, .int .i64 0, .int .i64 0] 31) = W := ⟨_, rfl⟩
 have HW : Hid (_ = W) := hW
 rw [hW] at HO
 clear hW
 go_upto_block 0 with fail
 rw [HW.out]
 clear HW
 generalize w1.heap.size = P at *
 clear w1
 obtain ⟨a0, a1, a2, a3, a4, a5, y0, y1, y2, y3, y4, y5, yf⟩ := HO.out.p.get
 obtain ⟨z0, z1, z2, z3, z4, z5, q0, q1, q2, q3, q4, q5, qf⟩ := HO.out.r.get
 obtain ⟨t0, t1, t2, t3, t4, t5⟩ := sset6 W w.heap.size (.int .i64 a0) (.int .i64 a1) (.int .i64 a2) (.int .i64 a3) (.int .i64 a4) (.int .i64 a5) q0 q1 q2 q3 q4 q5
 rcases hkn with h | h | h | h | h | h | h
 all_goals
  obtain ⟨c0, c1, c2, c3, c4, c5, k1, k2, k3, k6⟩ := h
  go_wp2
  refine bodyPost_ret (v := .tuple #[.agg #[.int .i64 a0, .int .i64 a1, .int .i64 a2, .int .i64 a3, .int .i64 a4, .int .i64 a5], .bool false]) (by simp [results, Try.results130, go_sem, t0, t1, t2, t3, t4, t5]) rfl ⟨⟨_, _, _, _, _, _, _, rfl⟩, nw_six HO.out.nw (Nat.le_refl _) _ _ _ _ _ _⟩
theorem one_some : OneS := by
 intro w word va vc l hl hn
 by_cases hw : word = ⟨#[116, 114, 97, 110, 115, 108, 97, 116, 101]⟩
 ·by_cases hk : l.length = 1
  ·exact one_A w word va vc l hl hn (Or.inl ⟨beqy word [116, 114, 97, 110, 115, 108, 97, 116, 101] hw, beqn word [115, 99, 97, 108, 101] (by rw [hw]; decide), beqn word [114, 111, 116, 97, 116, 101] (by rw [hw]; decide), beqn word [109, 97, 116, 114, 105, 120] (by rw [hw]; decide), beqn word [115, 107, 101, 119, 88] (by rw [hw]; decide), beqn word [115, 107, 101, 119, 89] (by rw [hw]; decide), by rw [hk]; rfl, beq_eq_false_iff_ne.2 (by omega), beq_eq_false_iff_ne.2 (by omega), beq_eq_false_iff_ne.2 (by omega)⟩)
  by_cases hk : l.length = 2
  ·exact one_A w word va vc l hl hn (Or.inr (Or.inl ⟨beqy word [116, 114, 97, 110, 115, 108, 97, 116, 101] hw, beqn word [115, 99, 97, 108, 101] (by rw [hw]; decide), beqn word [114, 111, 116, 97, 116, 101] (by rw [hw]; decide), beqn word [109, 97, 116, 114, 105, 120] (by rw [hw]; decide), beqn word [115, 107, 101, 119, 88] (by rw [hw]; decide), beqn word [115, 107, 101, 119, 89] (by rw [hw]; decide), beq_eq_false_iff_ne.2 (by omega), by rw [hk]; rfl, beq_eq_false_iff_ne.2 (by omega), beq_eq_false_iff_ne.2 (by omega)⟩))
  exact one_C w word va vc l hl hn ((l.length : Int) == 1) ((l.length : Int) == 2) ((l.length : Int) == 3) ((l.length : Int) == 6) (Or.inr (Or.inl ⟨beqy word [116, 114, 97, 110, 115, 108, 97, 116, 101] hw, beqn word [115, 99, 97, 108, 101] (by rw [hw]; decide), beqn word [114, 111, 116, 97, 116, 101] (by rw [hw]; decide), beqn word [109, 97, 116, 114, 105, 120] (by rw [hw]; decide), beqn word [115, 107, 101, 119, 88] (by rw [hw]; decide), beqn word [115, 107, 101, 119, 89] (by rw [hw]; decide), beq_eq_false_iff_ne.2 (by omega), beq_eq_false_iff_ne.2 (by omega), rfl, rfl⟩))
 have hw0 := hw
 clear hw
 by_cases hw : word = ⟨#[115, 99, 97, 108, 101]⟩
 ·by_cases hk : l.length = 1
  ·exact one_A w word va vc l hl hn (Or.inr (Or.inr (Or.inl ⟨beqn word [116, 114, 97, 110, 115, 108, 97, 116, 101] (by rw [hw]; decide), beqy word [115, 99, 97, 108, 101] hw, beqn word [114, 111, 116, 97, 116, 101] (by rw [hw]; decide), beqn word [109, 97, 116, 114, 105, 120] (by rw [hw]; decide), beqn word [115, 107, 101, 119, 88] (by rw [hw]; decide), beqn word [115, 107, 101, 119, 89] (by rw [hw]; decide), by rw [hk]; rfl, beq_eq_false_iff_ne.2 (by omega), beq_eq_false_iff_ne.2 (by omega), beq_eq_false_iff_ne.2 (by omega)⟩)))
  by_cases hk : l.length = 2
  ·exact one_A w word va vc l hl hn (Or.inr (Or.inr (Or.inr ⟨beqn word [116, 114, 97, 110, 115, 108, 97, 116, 101] (by rw [hw]; decide), beqy word [115, 99, 97, 108, 101] hw, beqn word [114, 111, 116, 97, 116, 101] (by rw [hw]; decide), beqn word [109, 97, 116, 114, 105, 120] (by rw [hw]; decide), beqn word [115, 107, 101, 119, 88] (by rw [hw]; decide), beqn word [115, 107, 101, 119, 89] (by rw [hw]; decide), beq_eq_false_iff_ne.2 (by omega), by rw [hk]; rfl, beq_eq_false_iff_ne.2 (by omega), beq_eq_false_iff_ne.2 (by omega)⟩)))
  exact one_C w word va vc l hl hn ((l.length : Int) == 1) ((l.length : Int) == 2) ((l.length : Int) == 3) ((l.length : Int) == 6) (Or.inr (Or.inr (Or.inl ⟨beqn word [116, 114, 97, 110, 115, 108, 97, 116, 101] (by rw [hw]; decide), beqy word [115, 99, 97, 108, 101] hw, beqn word [114, 111, 116, 97, 116, 101] (by rw [hw]; decide), beqn word [109, 97, 116, 114, 105, 120] (by rw [hw]; decide), beqn word [115, 107, 101, 119, 88] (by rw [hw]; decide), beqn word [115, 107, 101, 119, 89] (by rw [hw]; decide), beq_eq_false_iff_ne.2 (by omega), beq_eq_false_iff_ne.2 (by omega), rfl, rfl⟩)))
 have hw1 := hw
 clear hw
 by_cases hw : word = ⟨#[114, 111, 116, 97, 116, 101]⟩
 ·by_cases hk : l.length = 1
  ·exact one_R w word va vc l hl hn ⟨beqn word [116, 114, 97, 110, 115, 108, 97, 116, 101] (by rw [hw]; decide), beqn word [115, 99, 97, 108, 101] (by rw [hw]; decide), beqy word [114, 111, 116, 97, 116, 101] hw, beqn word [109, 97, 116, 114, 105, 120] (by rw [hw]; decide), beqn word [115, 107, 101, 119, 88] (by rw [hw]; decide), beqn word [115, 107, 101, 119, 89] (by rw [hw]; decide), by rw [hk]; rfl, beq_eq_false_iff_ne.2 (by omega), beq_eq_false_iff_ne.2 (by omega), beq_eq_false_iff_ne.2 (by omega)⟩
  by_cases hk : l.length = 3
  ·exact one_S w word va vc l hl hn ⟨beqn word [116, 114, 97, 110, 115, 108, 97, 116, 101] (by rw [hw]; decide), beqn word [115, 99, 97, 108, 101] (by rw [hw]; decide), beqy word [114, 111, 116, 97, 116, 101] hw, beqn word [109, 97, 116, 114, 105, 120] (by rw [hw]; decide), beqn word [115, 107, 101, 119, 88] (by rw [hw]; decide), beqn word [115, 107, 101, 119, 89] (by rw [hw]; decide), beq_eq_false_iff_ne.2 (by omega), beq_eq_false_iff_ne.2 (by omega), by rw [hk]; rfl, beq_eq_false_iff_ne.2 (by omega)⟩
  exact one_C w word va vc l hl hn ((l.length : Int) == 1) ((l.length : Int) == 2) ((l.length : Int) == 3) ((l.length : Int) == 6) (Or.inr (Or.inr (Or.inr (Or.inl ⟨beqn word [116, 114, 97, 110, 115, 108, 97, 116, 101] (by rw [hw]; decide), beqn word [115, 99, 97, 108, 101] (by rw [hw]; decide), beqy word [114, 111, 116, 97, 116, 101] hw, beqn word [109, 97, 116, 114, 105, 120] (by rw [hw]; decide), beqn word [115, 107, 101, 119, 88] (by rw [hw]; decide), beqn word [115, 107, 101, 119, 89] (by rw [hw]; decide), beq_eq_false_iff_ne.2 (by omega), rfl, beq_eq_false_iff_ne.2 (by omega), rfl⟩))))
 have hw2 := hw
 clear hw
 by_cases hw : word = ⟨#[109, 97, 116, 114, 105, 120]⟩
 ·by_cases hk : l.length = 6
  ·exact one_M w word va vc l hl hn ⟨beqn word [116, 114, 97, 110, 115, 108, 97, 116, 101] (by rw [hw]; decide), beqn word [115, 99, 97, 108, 101] (by rw [hw]; decide), beqn word [114, 111, 116, 97, 116, 101] (by rw [hw]; decide), beqy word [109, 97, 116, 114, 105, 120] hw, beqn word [115, 107, 101, 119, 88] (by rw [hw]; decide), beqn word [115, 107, 101, 119, 89] (by rw [hw]; decide), beq_eq_false_iff_ne.2 (by omega), beq_eq_false_iff_ne.2 (by omega), beq_eq_false_iff_ne.2 (by omega), by rw [hk]; rfl⟩
  exact one_C w word va vc l hl hn ((l.length : Int) == 1) ((l.length : Int) == 2) ((l.length : Int) == 3) ((l.length : Int) == 6) (Or.inr (Or.inr (Or.inr (Or.inr (Or.inl ⟨beqn word [116, 114, 97, 110, 115, 108, 97, 116, 101] (by rw [hw]; decide), beqn word [115, 99, 97, 108, 101] (by rw [hw]; decide), beqn word [114, 111, 116, 97, 116, 101] (by rw [hw]; decide), beqy word [109, 97, 116, 114, 105, 120] hw, beqn word [115, 107, 101, 119, 88] (by rw [hw]; decide), beqn word [115, 107, 101, 119, 89] (by rw [hw]; decide), rfl, rfl, rfl, beq_eq_false_iff_ne.2 (by omega)⟩)))))
 have hw3 := hw
 clear hw
 by_cases hw : word = ⟨#[115, 107, 101, 119, 88]⟩
 ·by_cases hk : l.length = 1
  ·exact one_K w word va vc l hl hn (Or.inl ⟨beqn word [116, 114, 97, 110, 115, 108, 97, 116, 101] (by rw [hw]; decide), beqn word [115, 99, 97, 108, 101] (by rw [hw]; decide), beqn word [114, 111, 116, 97, 116, 101] (by rw [hw]; decide), beqn word [109, 97, 116, 114, 105, 120] (by rw [hw]; decide), beqy word [115, 107, 101, 119, 88] hw, beqn word [115, 107, 101, 119, 89] (by rw [hw]; decide), by rw [hk]; rfl, beq_eq_false_iff_ne.2 (by omega), beq_eq_false_iff_ne.2 (by omega), beq_eq_false_iff_ne.2 (by omega)⟩)
  exact one_C w word va vc l hl hn ((l.length : Int) == 1) ((l.length : Int) == 2) ((l.length : Int) == 3) ((l.length : Int) == 6) (Or.inr (Or.inr (Or.inr (Or.inr (Or.inr (Or.inl ⟨beqn word [116, 114, 97, 110, 115, 108, 97, 116, 101] (by rw [hw]; decide), beqn word [115, 99, 97, 108, 101] (by rw [hw]; decide), beqn word [114, 111, 116, 97, 116, 101] (by rw [hw]; decide), beqn word [109, 97, 116, 114, 105, 120] (by rw [hw]; decide), beqy word [115, 107, 101, 119, 88] hw, beqn word [115, 107, 101, 119, 89] (by rw [hw]; decide), beq_eq_false_iff_ne.2 (by omega), rfl, rfl, rfl⟩))))))
 have hw4 := hw
 clear hw
 by_cases hw : word = ⟨#[115, 107, 101, 119, 89]⟩
 ·by_cases hk : l.length = 1
  ·exact one_K w word va vc l hl hn (Or.inr ⟨beqn word [116, 114, 97, 110, 115, 108, 97, 116, 101] (by rw [hw]; decide), beqn word [115, 99, 97, 108, 101] (by rw [hw]; decide), beqn word [114, 111, 116, 97, 116, 101] (by rw [hw]; decide), beqn word [109, 97, 116, 114, 105, 120] (by rw [hw]; decide), beqn word [115, 107, 101, 119, 88] (by rw [hw]; decide), beqy word [115, 107, 101, 119, 89] hw, by rw [hk]; rfl, beq_eq_false_iff_ne.2 (by omega), beq_eq_false_iff_ne.2 (by omega), beq_eq_false_iff_ne.2 (by omega)⟩)
  exact one_C w word va vc l hl hn ((l.length : Int) == 1) ((l.length : Int) == 2) ((l.length : Int) == 3) ((l.length : Int) == 6) (Or.inr (Or.inr (Or.inr (Or.inr (Or.inr (Or.inr ⟨beqn word [116, 114, 97, 110, 115, 108, 97, 116, 101] (by rw [hw]; decide), beqn word [115, 99, 97, 108, 101] (by rw [hw]; decide), beqn word [114, 111, 116, 97, 116, 101] (by rw [hw]; decide), beqn word [109, 97, 116, 114, 105, 120] (by rw [hw]; decide), beqn word [115, 107, 101, 119, 88] (by rw [hw]; decide), beqy word [115, 107, 101, 119, 89] hw, beq_eq_false_iff_ne.2 (by omega), rfl, rfl, rfl⟩))))))
 have hw5 := hw
 clear hw
 exact one_C w word va vc l hl hn ((l.length : Int) == 1) ((l.length : Int) == 2) ((l.length : Int) == 3) ((l.length : Int) == 6) (Or.inl ⟨beqn word [116, 114, 97, 110, 115, 108, 97, 116, 101] hw0, beqn word [115, 99, 97, 108, 101] hw1, beqn word [114, 111, 116, 97, 116, 101] hw2, beqn word [109, 97, 116, 114, 105, 120] hw3, beqn word [115, 107, 101, 119, 88] hw4, beqn word [115, 107, 101, 119, 89] hw5, rfl, rfl, rfl, rfl⟩)
def MovD (w : World) (e : Ending) (w' : World) : Prop := ∃ (a b c d x y : Int) (la : Option Addr) (lc : Nat) (l : List LD), e = .returned (.tuple #[.agg #[.int .i64 a, .int .i64 b, .int .i64 c, .int .i64 d, .int .i64 x, .int .i64 y], .slice la l.length lc]) ∧ Lines w' la l ∧ l.length ≤ 1000 ∧ manyL l ≤ 10000 ∧ Nw w w'
set_option maxRecDepth 100000 in
set_option maxHeartbeats 8000000 in
theorem drawMove_any (w : World) (ca : Option Addr) (len cap : Nat) (hl : len ≤ 9223372036854775807) (hd : Code w w.heap.size ca len) :
  Calls Try.prog 12 #[.slice ca len cap] w fun e w' => MovD w e w' := by
 obtain ⟨R, hR⟩ : ∃ R, w.heap.size = R := ⟨_, rfl⟩
 have HR : Hid (w.heap.size = R) := hR
 obtain ⟨W0, hW0⟩ : ∃ W0, w.alloc (.cells #[.int .i64 0, .int .i64 0, .int .i64 0, .int .i64 0, .int .i64 0, .int .i64 0] 31) = W0 := ⟨_, rfl⟩
 have hs0 : W0.heap.size = R + 1 := by rw [← hW0, ← hR]; simp
 have R0 : SixE W0 R := by rw [← hW0, ← hR]; exact Six.new w 0 0 0 0 0 0 _
 have N0 : Nw w W0 := by rw [← hW0]; exact (Below.refl _ _).alloc (Nat.le_refl _) _
 obtain ⟨W, hW⟩ : ∃ W, W0.alloc (.cells #[.slice ca len cap, .int .i64 0, .int .u64 0] 72) = W := ⟨_, rfl⟩
 have R1 : Hid (SixE W R) := by show SixE _ _; rw [← hW]; exact R0.nw ((Below.refl _ _).alloc (Nat.le_refl _) _)
 have N1 : Hid (Nw w W) := by show Nw _ _; rw [← hW]; exact N0.alloc (Below.size N0) _
 have C1 : Hid (Cur W (R + 1) ca len cap 0) := by show Cur _ _ _ _ _ _; rw [← hW, ← hs0]; exact cur0 W0 ca len cap
 have D1 : Hid (∀ w', Nw w w' → Code w' (R + 1) ca len) := fun w' h => Code.past hd h (by omega)
 have HW0 : Hid (_ = W0) := hW0
 have HW : Hid (_ = W) := hW
 have HS : Hid (W0.heap.size = R + 1) := hs0
 clear hW0 hW hd hs0 R0 N0 hR
 have hnw : Hid (∀ x, Gr (R + 1) W x → Nw w x) := fun x h => by
  have h1 := N1.out
  have h0 := HR.out
  have h' : W.grownBy x (some (R + 1)) := h
  exact ⟨h'.os.trans (Below.os h1), h'.tape.trans (Below.tape h1), h'.output.trans (Below.output h1), Nat.le_trans (Below.size h1) h'.size, fun i hi => (h'.block i (Nat.lt_of_lt_of_le hi (Below.size h1)) (fun e => by have := Option.some.inj e; omega)).trans (Below.block h1 i hi)⟩
 have H1 : Hid OneS := one_some
 go_enter Try.func12, Try.ntmps12
 go_wp2_with fail
 rw [HW0.out, HR.out]
 first | rw [HS.out] | skip
 rw [HW.out]
 refine (affine_any H1.out W (R + 1) ca len cap 0 hl (by omega) C1.out (D1.out _ N1.out)).mono ?_
 rintro e w2 ⟨⟨a, b, c, d, x, y, rfl⟩, hc2, hg2⟩
 have R2 : Hid (SixE w2 R) := R1.out.gr hg2 (by omega)
 have C2 : Hid (Cur w2 (R + 1) ca len cap (0 + 200)) := hc2
 have G2 : Hid (Gr (R + 1) W w2) := hg2
 clear hc2 hg2 R1 C1 HW HW0
 go_wp2_with fail
 refine (linesOf_any w2 (R + 1) ca len cap (0 + 200) hl (by omega) C2.out (D1.out _ (hnw.out _ G2.out))).mono ?_
 rintro e w3 ⟨⟨la, lc, l, rfl, hln, hl1, hl2, hg3⟩, hc3⟩
 have hR2 := R2.out.lt
 have R3 : Hid (SixE w3 R) := R2.out.gr hg3 (by omega)
 have N3 : Hid (Nw w w3) := hnw.out _ (G2.out.trans hg3)
 have HL : ∀ v0 v1 v2 v3 v4 v5 : Value, Hid (LinesF w2.heap.size ((((((w3.setCell ⟨R, 0, none⟩ v0).setCell ⟨R, 1, none⟩ v1).setCell ⟨R, 2, none⟩ v2).setCell ⟨R, 3, none⟩ v3).setCell ⟨R, 4, none⟩ v4).setCell ⟨R, 5, none⟩ v5) la l) := fun v0 v1 v2 v3 v4 v5 => (((((hln.far R 0 v0 hR2).far R 1 v1 hR2).far R 2 v2 hR2).far R 3 v3 hR2).far R 4 v4 hR2).far R 5 v5 hR2
 clear hc3 hg3 R2 C2 G2 hln
 obtain ⟨z0, z1, z2, z3, z4, z5, q0, q1, q2, q3, q4, q5, qf⟩ := R3.out.get
 obtain ⟨u0, u1, u2, u3, u4, u5⟩ := sset6 w3 R (.int .i64 a) (.int .i64 b) (.int .i64 c) (.int .i64 d) (.int .i64 x) (.int .i64 y) q0 q1 q2 q3 q4 q5
 go_wp2
 refine bodyPost_ret (v := .tuple #[.agg #[.int .i64 a, .int .i64 b, .int .i64 c, .int .i64 d, .int .i64 x, .int .i64 y], .slice la l.length lc]) (by simp [results, Try.results12, go_sem, u0, u1, u2, u3, u4, u5]) rfl ⟨a, b, c, d, x, y, la, lc, l, rfl, (HL _ _ _ _ _ _).out.lines, hl1, hl2, nw_six N3.out (by rw [HR.out]; exact Nat.le_refl _) _ _ _ _ _ _⟩
def CrvD (w : World) (e : Ending) (w' : World) : Prop := ∃ (a : Option Addr) (c : Nat) (l : List Pnt) (k : Int), e = .returned (.tuple #[.slice a l.length c, .int .i64 k]) ∧ Pts w' a l ∧ l.length ≤ 4 ∧ Nw w w'
set_option maxRecDepth 100000 in
set_option maxHeartbeats 8000000 in
theorem drawCurve_any (w : World) (ca : Option Addr) (len cap : Nat) (hl : len ≤ 9223372036854775807) (hd : Code w w.heap.size ca len) :
  Calls Try.prog 9 #[.slice ca len cap] w fun e w' => CrvD w e w' := by
 obtain ⟨R, hR⟩ : ∃ R, w.heap.size = R := ⟨_, rfl⟩
 have HR : Hid (w.heap.size = R) := hR
 obtain ⟨W, hW⟩ : ∃ W, w.alloc (.cells #[.slice ca len cap, .int .i64 0, .int .u64 0] 72) = W := ⟨_, rfl⟩
 have N1 : Hid (Nw w W) := by show Nw _ _; rw [← hW]; exact (Below.refl _ _).alloc (Nat.le_refl _) _
 have C1 : Hid (Cur W R ca len cap 0) := by show Cur _ _ _ _ _ _; rw [← hW, ← hR]; exact cur0 w ca len cap
 have D1 : Hid (∀ w', Nw w w' → Code w' R ca len) := fun w' h => Code.past hd h (by omega)
 have HW : Hid (_ = W) := hW
 clear hW hd hR
 have hnw : Hid (∀ x, Gr R W x → Nw w x) := fun x h => by
  have h1 := N1.out
  have h0 := HR.out
  have h' : W.grownBy x (some R) := h
  exact ⟨h'.os.trans (Below.os h1), h'.tape.trans (Below.tape h1), h'.output.trans (Below.output h1), Nat.le_trans (Below.size h1) h'.size, fun i hi => (h'.block i (Nat.lt_of_lt_of_le hi (Below.size h1)) (fun e => by have := Option.some.inj e; omega)).trans (Below.block h1 i hi)⟩
 go_enter Try.func9, Try.ntmps9
 go_wp2_with fail
 rw [HR.out, HW.out]
 refine (point_any W R ca len cap _ hl (by omega) C1.out (D1.out _ N1.out)).mono ?_
 rintro e w2 ⟨⟨x0, y0, rfl⟩, hc, hg⟩
 have C2 : Hid (Cur w2 R ca len cap 42) := hc
 have G2 : Hid (Gr R W w2) := hg
 clear hc hg C1 HW
 go_wp2_with fail
 refine (point_any w2 R ca len cap _ hl (by omega) C2.out (D1.out _ (hnw.out _ G2.out))).mono ?_
 rintro e w3 ⟨⟨x1, y1, rfl⟩, hc, hg⟩
 have C3 : Hid (Cur w3 R ca len cap 84) := hc
 have G3 : Hid (Gr R W w3) := G2.out.trans hg
 clear hc hg C2 G2
 go_wp2_with fail
 refine (point_any w3 R ca len cap _ hl (by omega) C3.out (D1.out _ (hnw.out _ G3.out))).mono ?_
 rintro e w4 ⟨⟨x2, y2, rfl⟩, hc, hg⟩
 have C4 : Hid (Cur w4 R ca len cap 126) := hc
 have G4 : Hid (Gr R W w4) := G3.out.trans hg
 clear hc hg C3 G3
 go_wp2_with fail
 refine (point_any w4 R ca len cap _ hl (by omega) C4.out (D1.out _ (hnw.out _ G4.out))).mono ?_
 rintro e w5 ⟨⟨x3, y3, rfl⟩, hc, hg⟩
 have C5 : Hid (Cur w5 R ca len cap 168) := hc
 have G5 : Hid (Gr R W w5) := G4.out.trans hg
 clear hc hg C4 G4
 obtain ⟨X, hX⟩ : ∃ X, w5.alloc (.cells #[.int .i64 x0, .int .i64 y0, .int .i64 x1, .int .i64 y1, .int .i64 x2, .int .i64 y2, .int .i64 x3, .int .i64 y3] 27) = X := ⟨_, rfl⟩
 obtain ⟨g, hg⟩ : ∃ g, w5.heap.size = g := ⟨_, rfl⟩
 have HgX : Hid (g < X.heap.size ∧ R < g) := by
  refine ⟨by rw [← hX, ← hg]; simp, ?_⟩
  have := C5.out.lt
  omega
 have HP : Hid (∀ i, i < 4 → X.cell? ⟨g, i * 2, none⟩ = some (.int .i64 (ptAt [(x0, y0), (x1, y1), (x2, y2), (x3, y3)] i).1) ∧ X.cell? ⟨g, i * 2 + 1, none⟩ = some (.int .i64 (ptAt [(x0, y0), (x1, y1), (x2, y2), (x3, y3)] i).2)) := fun i hi => by
  rw [← hX, ← hg]
  rcases (show i = 0 ∨ i = 1 ∨ i = 2 ∨ i = 3 by omega) with rfl | rfl | rfl | rfl <;> simp [ptAt]
 have CX : Hid (Cur X R ca len cap 168) := by show Cur _ _ _ _ _ _; rw [← hX]; exact C5.out.alloc _ _
 have GX : Hid (Gr R W X) := by show Gr _ _ _; rw [← hX]; exact G5.out.alloc _
 have HX : Hid (_ = X) := hX
 clear hX C5 G5
 go_wp2_with fail
 rw [HX.out]
 clear HX hg
 refine (one_any X R ca len cap _ 20 hl (by omega) (by omega) (by omega) CX.out (D1.out _ (hnw.out _ GX.out))).mono ?_
 rintro e w6 ⟨b6, rfl, hc6, hb6⟩
 have C6 : Hid (Cur w6 R ca len cap 170) := hc6
 have G6 : Hid (Gr R X w6) := Gr.of_sel hb6
 clear hc6 hb6 CX
 go_upto_if 20 with fail
 go_cut [5] (fun x wx => ∃ (o : Nat) (l : List Pnt) (c : Nat), x = .slice (some ⟨g, o, none⟩) l.length c ∧ l.length ≤ 4 ∧ (∀ i, i < l.length → ∃ j, j < 4 ∧ o + i * 2 = j * 2 ∧ ptAt l i = ptAt [(x0, y0), (x1, y1), (x2, y2), (x3, y3)] j) ∧ w6 = wx)
 case first =>
  cases b6 with
  | true =>
   go_wp2
   go_meet
   exact ⟨2, [(x1, y1), (x2, y2), (x3, y3)], 3, rfl, by simp, fun i hi => ⟨i + 1, by simp at hi; omega, by omega, by rcases (show i = 0 ∨ i = 1 ∨ i = 2 by simp at hi; omega) with rfl | rfl | rfl <;> rfl⟩, rfl⟩
  | false =>
   go_wp2
   go_meet
   exact ⟨0, [(x0, y0), (x1, y1), (x2, y2), (x3, y3)], 4, rfl, by simp, fun i hi => ⟨i, by simpa using hi, by omega, rfl⟩, rfl⟩
 case rest =>
  obtain ⟨o, l, lc, rfl, hl4, hpt, rfl⟩ := hcut
  have HPT : Hid _ := hpt
  clear hpt
  generalize hpl : [(x0, y0), (x1, y1), (x2, y2), (x3, y3)] = pl at *
  have HFIN : Hid (∀ x, Gr R X x → Pts x (some ⟨g, o, none⟩) l ∧ Nw w x) := fun x h => by
   have h1 := HgX.out
   refine ⟨Or.inr ⟨g, o, rfl, Nat.lt_of_lt_of_le h1.1 h.size, fun i hi => ?_⟩, hnw.out _ (GX.out.trans h)⟩
   obtain ⟨j, hj, hoj, he⟩ := HPT.out i hi
   obtain ⟨k1, k2⟩ := HP.out j hj
   rw [he, hoj]
   exact ⟨(h.cell h1.1 (by omega) _).trans k1, (h.cell h1.1 (by omega) _).trans k2⟩
  clear hpl HP HPT
  go_wp2_with fail
  refine (pick_any w6 R ca len cap _ 9 hl (by omega) (by omega) (by omega) C6.out (D1.out _ (HFIN.out _ G6.out).2)).mono ?_
  rintro e w7 ⟨k, rfl, k0, k1, hc, hg⟩
  have C7 : Hid (Cur w7 R ca len cap 172) := hc
  have G7 : Hid (Gr R X w7) := G6.out.trans (Gr.of_sel hg)
  clear hc hg C6 G6
  go_wp2_with fail
  refine (one_any w7 R ca len cap _ 20 hl (by omega) (by omega) (by omega) C7.out (D1.out _ (HFIN.out _ G7.out).2)).mono ?_
  rintro e w8 ⟨b8, rfl, hc, hg⟩
  have C8 : Hid (Cur w8 R ca len cap 174) := hc
  have G8 : Hid (Gr R X w8) := G7.out.trans (Gr.of_sel hg)
  clear hc hg C7 G7
  cases b8 with
  | false =>
   go_wp2
   go_ret2
   exact ⟨_, lc, l, k, rfl, (HFIN.out _ G8.out).1, hl4, (HFIN.out _ G8.out).2⟩
  | true =>
   have hR8 := C8.out.lt
   go_wp2_with fail
   refine (among_any _ R w8.heap.size 2 [-1, 9] rfl ca len cap 174 hl (by omega) (by omega) (by omega) (by omega) (nums_alloc [-1, 9] w8 3) (C8.out.alloc _ _) (D1.out _ ((HFIN.out _ G8.out).2.trans ((Below.refl _ _).alloc (Nat.le_refl _) _)))).mono ?_
   rintro e w9 ⟨u, rfl, _, _, hb9⟩
   have G9 : Hid (Gr R X w9) := (G8.out.alloc _).trans (Gr.of_sel hb9)
   clear hb9
   go_wp2
   go_ret2
   exact ⟨_, lc, l, u, rfl, (HFIN.out _ G9.out).1, hl4, (HFIN.out _ G9.out).2⟩
def pSum (p0 p1 p2 p3 : Int) : Nat → Int
 | 0 => 256
 | 1 => 256 + p0
 | 2 => 256 + p0 + p1
 | 3 => 256 + p0 + p1 + p2
 | _ => 256 + p0 + p1 + p2 + p3
theorem pSum_0 (p0 p1 p2 p3 : Int) : pSum p0 p1 p2 p3 0 = 256 := rfl
theorem pSum_1 (p0 p1 p2 p3 : Int) : pSum p0 p1 p2 p3 1 = 256 + p0 := rfl
theorem pSum_2 (p0 p1 p2 p3 : Int) : pSum p0 p1 p2 p3 2 = 256 + p0 + p1 := rfl
theorem pSum_3 (p0 p1 p2 p3 : Int) : pSum p0 p1 p2 p3 3 = 256 + p0 + p1 + p2 := rfl
theorem pSum_4 (p0 p1 p2 p3 : Int) : pSum p0 p1 p2 p3 4 = 256 + p0 + p1 + p2 + p3 := rfl
theorem vint {a b : Int} (h : a = b) : Value.int .i64 a = .int .i64 b := by rw [h]
set_option maxRecDepth 100000 in
set_option maxHeartbeats 4000000 in
theorem icurve0 (w : World) (b off c : Nat) (x0 y0 x1 y1 x2 y2 x3 y3 : Int) (h : Four w b off x0 y0 x1 y1 x2 y2 x3 y3) (f0 : fx x0) (f1 : fx y0) (f2 : fx x1) (f3 : fx y1) (f4 : fx x2) (f5 : fx y2) (f6 : fx x3) (f7 : fx y3) :
  Calls Try.prog 44 #[.slice (some ⟨b, off, none⟩) 4 c, .int .i64 0] w fun e w' => e = .returned (.agg #[.int .i64 (bez x0 x1 x2 x3 0), .int .i64 (bez y0 y1 y2 y3 0)]) ∧ Kp w w' := by
 have ex : bez x0 x1 x2 x3 0 = (pSum (512 * x0) (0 * x1) (0 * x2) (0 * x3) 4) / 512 := by unfold bez; simp only [pSum]; omega
 have ey : bez y0 y1 y2 y3 0 = (pSum (512 * y0) (0 * y1) (0 * y2) (0 * y3) 4) / 512 := by unfold bez; simp only [pSum]; omega
 obtain ⟨vx, hvx⟩ : ∃ v, pSum (512 * x0) (0 * x1) (0 * x2) (0 * x3) 4 = v := ⟨_, rfl⟩
 obtain ⟨vy, hvy⟩ : ∃ v, pSum (512 * y0) (0 * y1) (0 * y2) (0 * y3) 4 = v := ⟨_, rfl⟩
 rw [ex, ey, hvx, hvy]
 have HVX : Hid _ := hvx
 have HVY : Hid _ := hvy
 have bx : -4611686018427387904 ≤ vx ∧ vx ≤ 4611686018427387904 := by have h := pSum_4 (512 * x0) (0 * x1) (0 * x2) (0 * x3); unfold fx at *; omega
 have by' : -4611686018427387904 ≤ vy ∧ vy ≤ 4611686018427387904 := by have h := pSum_4 (512 * y0) (0 * y1) (0 * y2) (0 * y3); unfold fx at *; omega
 clear hvx hvy
 have HE : Hid (∀ o, ((w.alloc o).cell? ⟨b, off, none⟩ = some (.int .i64 x0) ∧ (w.alloc o).cell? ⟨b, off + 1, none⟩ = some (.int .i64 y0) ∧ (w.alloc o).cell? ⟨b, off + 2, none⟩ = some (.int .i64 x1) ∧ (w.alloc o).cell? ⟨b, off + 2 + 1, none⟩ = some (.int .i64 y1) ∧ (w.alloc o).cell? ⟨b, off + 4, none⟩ = some (.int .i64 x2) ∧ (w.alloc o).cell? ⟨b, off + 4 + 1, none⟩ = some (.int .i64 y2) ∧ (w.alloc o).cell? ⟨b, off + 6, none⟩ = some (.int .i64 x3) ∧ (w.alloc o).cell? ⟨b, off + 6 + 1, none⟩ = some (.int .i64 y3))) := fun o => by
  obtain ⟨q0, q1, q2, q3, q4, q5, q6, q7⟩ := h
  have kc : ∀ x v, w.cell? ⟨b, x, none⟩ = some v → (w.alloc o).cell? ⟨b, x, none⟩ = some v := fun x v hv => (Below.cell ((Below.refl w.heap.size w).alloc (Nat.le_refl _) o) (p := ⟨b, x, none⟩) (World.block_lt_of_cell? w ⟨b, x, none⟩ hv)).trans hv
  exact ⟨kc _ _ q0, kc _ _ q1, kc _ _ q2, kc _ _ q3, kc _ _ q4, kc _ _ q5, kc _ _ q6, kc _ _ q7⟩
 clear ex ey h
 unfold fx at *
 go_enter Try.func44, Try.ntmps44
 go_wp2
 go_loop [6, 7, 35] (fun x y i => ∃ j : Nat, j ≤ 4 ∧ i = .int .i64 j ∧ x = .int .i64 (pSum (512 * x0) (0 * x1) (0 * x2) (0 * x3) j) ∧ y = .int .i64 (pSum (512 * y0) (0 * y1) (0 * y2) (0 * y3) j)) (fun _ _ i => 4 - (intOf i).toNat)
 case atStart => exact ⟨0, by omega, rfl, rfl, rfl⟩
 case round =>
  obtain ⟨j, hj, rfl, rfl, rfl⟩ := hrel
  obtain ⟨q0, q1, q2, q3, q4, q5, q6, q7⟩ := HE.out (.cells #[.int .i64 0, .int .i64 0] 27)
  clear HE
  rcases (show j = 0 ∨ j = 1 ∨ j = 2 ∨ j = 3 ∨ j = 4 by omega) with rfl | rfl | rfl | rfl | rfl
  ·have i0 : ∀ w, (Instr.index 121 (.agg #[.int .i64 512, .int .i64 0, .int .i64 0, .int .i64 0]) (.int .i64 0)).run Try.prog w = .ok (.int .i64 512) w := fun _ => by kernel_rfl
   rw [pSum_0 (512 * x0) (0 * x1) (0 * x2) (0 * x3), pSum_0 (512 * y0) (0 * y1) (0 * y2) (0 * y3)]
   clear hj
   go_wp2
   go_round
   case rel => exact ⟨1, by omega, by go_num, vint (by have h := pSum_1 (512 * x0) (0 * x1) (0 * x2) (0 * x3); omega), vint (by have h := pSum_1 (512 * y0) (0 * y1) (0 * y2) (0 * y3); omega)⟩
   case measure => simp [intOf]
  ·have i0 : ∀ w, (Instr.index 121 (.agg #[.int .i64 512, .int .i64 0, .int .i64 0, .int .i64 0]) (.int .i64 1)).run Try.prog w = .ok (.int .i64 0) w := fun _ => by kernel_rfl
   rw [pSum_1 (512 * x0) (0 * x1) (0 * x2) (0 * x3), pSum_1 (512 * y0) (0 * y1) (0 * y2) (0 * y3)]
   clear hj
   go_wp2
   go_round
   case rel => exact ⟨2, by omega, by go_num, vint (by have h := pSum_2 (512 * x0) (0 * x1) (0 * x2) (0 * x3); omega), vint (by have h := pSum_2 (512 * y0) (0 * y1) (0 * y2) (0 * y3); omega)⟩
   case measure => simp [intOf]
  ·have i0 : ∀ w, (Instr.index 121 (.agg #[.int .i64 512, .int .i64 0, .int .i64 0, .int .i64 0]) (.int .i64 2)).run Try.prog w = .ok (.int .i64 0) w := fun _ => by kernel_rfl
   rw [pSum_2 (512 * x0) (0 * x1) (0 * x2) (0 * x3), pSum_2 (512 * y0) (0 * y1) (0 * y2) (0 * y3)]
   clear hj
   go_wp2
   go_round
   case rel => exact ⟨3, by omega, by go_num, vint (by have h := pSum_3 (512 * x0) (0 * x1) (0 * x2) (0 * x3); omega), vint (by have h := pSum_3 (512 * y0) (0 * y1) (0 * y2) (0 * y3); omega)⟩
   case measure => simp [intOf]
  ·have i0 : ∀ w, (Instr.index 121 (.agg #[.int .i64 512, .int .i64 0, .int .i64 0, .int .i64 0]) (.int .i64 3)).run Try.prog w = .ok (.int .i64 0) w := fun _ => by kernel_rfl
   rw [pSum_3 (512 * x0) (0 * x1) (0 * x2) (0 * x3), pSum_3 (512 * y0) (0 * y1) (0 * y2) (0 * y3)]
   clear hj
   go_wp2
   go_round
   case rel => exact ⟨4, by omega, by go_num, vint (by have h := pSum_4 (512 * x0) (0 * x1) (0 * x2) (0 * x3); omega), vint (by have h := pSum_4 (512 * y0) (0 * y1) (0 * y2) (0 * y3); omega)⟩
   case measure => simp [intOf]
  ·clear hj q0 q1 q2 q3 q4 q5 q6 q7
   rw [HVX.out, HVY.out]
   go_wp2_with (go_at_call 80; refine (divDown_any _ _ _ (by omega) (by omega) (by omega) (by omega)).mono ?_; rintro e w' ⟨rfl, rfl⟩)
   exact bodyPost_ret (v := .agg #[.int .i64 (vx / 512), .int .i64 (vy / 512)]) (by simp [results, Try.results44, go_sem]) rfl ⟨rfl, (Kp.refl w).alloc _ _⟩
set_option maxRecDepth 100000 in
set_option maxHeartbeats 4000000 in
theorem icurve1 (w : World) (b off c : Nat) (x0 y0 x1 y1 x2 y2 x3 y3 : Int) (h : Four w b off x0 y0 x1 y1 x2 y2 x3 y3) (f0 : fx x0) (f1 : fx y0) (f2 : fx x1) (f3 : fx y1) (f4 : fx x2) (f5 : fx y2) (f6 : fx x3) (f7 : fx y3) :
  Calls Try.prog 44 #[.slice (some ⟨b, off, none⟩) 4 c, .int .i64 1] w fun e w' => e = .returned (.agg #[.int .i64 (bez x0 x1 x2 x3 1), .int .i64 (bez y0 y1 y2 y3 1)]) ∧ Kp w w' := by
 have ex : bez x0 x1 x2 x3 1 = (pSum (343 * x0) (147 * x1) (21 * x2) (1 * x3) 4) / 512 := by unfold bez; simp only [pSum]; omega
 have ey : bez y0 y1 y2 y3 1 = (pSum (343 * y0) (147 * y1) (21 * y2) (1 * y3) 4) / 512 := by unfold bez; simp only [pSum]; omega
 obtain ⟨vx, hvx⟩ : ∃ v, pSum (343 * x0) (147 * x1) (21 * x2) (1 * x3) 4 = v := ⟨_, rfl⟩
 obtain ⟨vy, hvy⟩ : ∃ v, pSum (343 * y0) (147 * y1) (21 * y2) (1 * y3) 4 = v := ⟨_, rfl⟩
 rw [ex, ey, hvx, hvy]
 have HVX : Hid _ := hvx
 have HVY : Hid _ := hvy
 have bx : -4611686018427387904 ≤ vx ∧ vx ≤ 4611686018427387904 := by have h := pSum_4 (343 * x0) (147 * x1) (21 * x2) (1 * x3); unfold fx at *; omega
 have by' : -4611686018427387904 ≤ vy ∧ vy ≤ 4611686018427387904 := by have h := pSum_4 (343 * y0) (147 * y1) (21 * y2) (1 * y3); unfold fx at *; omega
 clear hvx hvy
 have HE : Hid (∀ o, ((w.alloc o).cell? ⟨b, off, none⟩ = some (.int .i64 x0) ∧ (w.alloc o).cell? ⟨b, off + 1, none⟩ = some (.int .i64 y0) ∧ (w.alloc o).cell? ⟨b, off + 2, none⟩ = some (.int .i64 x1) ∧ (w.alloc o).cell? ⟨b, off + 2 + 1, none⟩ = some (.int .i64 y1) ∧ (w.alloc o).cell? ⟨b, off + 4, none⟩ = some (.int .i64 x2) ∧ (w.alloc o).cell? ⟨b, off + 4 + 1, none⟩ = some (.int .i64 y2) ∧ (w.alloc o).cell? ⟨b, off + 6, none⟩ = some (.int .i64 x3) ∧ (w.alloc o).cell? ⟨b, off + 6 + 1, none⟩ = some (.int .i64 y3))) := fun o => by
  obtain ⟨q0, q1, q2, q3, q4, q5, q6, q7⟩ := h
  have kc : ∀ x v, w.cell? ⟨b, x, none⟩ = some v → (w.alloc o).cell? ⟨b, x, none⟩ = some v := fun x v hv => (Below.cell ((Below.refl w.heap.size w).alloc (Nat.le_refl _) o) (p := ⟨b, x, none⟩) (World.block_lt_of_cell? w ⟨b, x, none⟩ hv)).trans hv
  exact ⟨kc _ _ q0, kc _ _ q1, kc _ _ q2, kc _ _ q3, kc _ _ q4, kc _ _ q5, kc _ _ q6, kc _ _ q7⟩
 clear ex ey h
 unfold fx at *
 go_enter Try.func44, Try.ntmps44
 go_wp2
 go_loop [6, 7, 35] (fun x y i => ∃ j : Nat, j ≤ 4 ∧ i = .int .i64 j ∧ x = .int .i64 (pSum (343 * x0) (147 * x1) (21 * x2) (1 * x3) j) ∧ y = .int .i64 (pSum (343 * y0) (147 * y1) (21 * y2) (1 * y3) j)) (fun _ _ i => 4 - (intOf i).toNat)
 case atStart => exact ⟨0, by omega, rfl, rfl, rfl⟩
 case round =>
  obtain ⟨j, hj, rfl, rfl, rfl⟩ := hrel
  obtain ⟨q0, q1, q2, q3, q4, q5, q6, q7⟩ := HE.out (.cells #[.int .i64 0, .int .i64 0] 27)
  clear HE
  rcases (show j = 0 ∨ j = 1 ∨ j = 2 ∨ j = 3 ∨ j = 4 by omega) with rfl | rfl | rfl | rfl | rfl
  ·have i0 : ∀ w, (Instr.index 121 (.agg #[.int .i64 343, .int .i64 147, .int .i64 21, .int .i64 1]) (.int .i64 0)).run Try.prog w = .ok (.int .i64 343) w := fun _ => by kernel_rfl
   rw [pSum_0 (343 * x0) (147 * x1) (21 * x2) (1 * x3), pSum_0 (343 * y0) (147 * y1) (21 * y2) (1 * y3)]
   clear hj
   go_wp2
   go_round
   case rel => exact ⟨1, by omega, by go_num, vint (by have h := pSum_1 (343 * x0) (147 * x1) (21 * x2) (1 * x3); omega), vint (by have h := pSum_1 (343 * y0) (147 * y1) (21 * y2) (1 * y3); omega)⟩
   case measure => simp [intOf]
  ·have i0 : ∀ w, (Instr.index 121 (.agg #[.int .i64 343, .int .i64 147, .int .i64 21, .int .i64 1]) (.int .i64 1)).run Try.prog w = .ok (.int .i64 147) w := fun _ => by kernel_rfl
   rw [pSum_1 (343 * x0) (147 * x1) (21 * x2) (1 * x3), pSum_1 (343 * y0) (147 * y1) (21 * y2) (1 * y3)]
   clear hj
   go_wp2
   go_round
   case rel => exact ⟨2, by omega, by go_num, vint (by have h := pSum_2 (343 * x0) (147 * x1) (21 * x2) (1 * x3); omega), vint (by have h := pSum_2 (343 * y0) (147 * y1) (21 * y2) (1 * y3); omega)⟩
   case measure => simp [intOf]
  ·have i0 : ∀ w, (Instr.index 121 (.agg #[.int .i64 343, .int .i64 147, .int .i64 21, .int .i64 1]) (.int .i64 2)).run Try.prog w = .ok (.int .i64 21) w := fun _ => by kernel_rfl
   rw [pSum_2 (343 * x0) (147 * x1) (21 * x2) (1 * x3), pSum_2 (343 * y0) (147 * y1) (21 * y2) (1 * y3)]
   clear hj
   go_wp2
   go_round
   case rel => exact ⟨3, by omega, by go_num, vint (by have h := pSum_3 (343 * x0) (147 * x1) (21 * x2) (1 * x3); omega), vint (by have h := pSum_3 (343 * y0) (147 * y1) (21 * y2) (1 * y3); omega)⟩
   case measure => simp [intOf]
  ·have i0 : ∀ w, (Instr.index 121 (.agg #[.int .i64 343, .int .i64 147, .int .i64 21, .int .i64 1]) (.int .i64 3)).run Try.prog w = .ok (.int .i64 1) w := fun _ => by kernel_rfl
   rw [pSum_3 (343 * x0) (147 * x1) (21 * x2) (1 * x3), pSum_3 (343 * y0) (147 * y1) (21 * y2) (1 * y3)]
   clear hj
   go_wp2
   go_round
   case rel => exact ⟨4, by omega, by go_num, vint (by have h := pSum_4 (343 * x0) (147 * x1) (21 * x2) (1 * x3); omega), vint (by have h := pSum_4 (343 * y0) (147 * y1) (21 * y2) (1 * y3); omega)⟩
   case measure => simp [intOf]
  ·clear hj q0 q1 q2 q3 q4 q5 q6 q7
   rw [HVX.out, HVY.out]
   go_wp2_with (go_at_call 80; refine (divDown_any _ _ _ (by omega) (by omega) (by omega) (by omega)).mono ?_; rintro e w' ⟨rfl, rfl⟩)
   exact bodyPost_ret (v := .agg #[.int .i64 (vx / 512), .int .i64 (vy / 512)]) (by simp [results, Try.results44, go_sem]) rfl ⟨rfl, (Kp.refl w).alloc _ _⟩
set_option maxRecDepth 100000 in
set_option maxHeartbeats 4000000 in
theorem icurve2 (w : World) (b off c : Nat) (x0 y0 x1 y1 x2 y2 x3 y3 : Int) (h : Four w b off x0 y0 x1 y1 x2 y2 x3 y3) (f0 : fx x0) (f1 : fx y0) (f2 : fx x1) (f3 : fx y1) (f4 : fx x2) (f5 : fx y2) (f6 : fx x3) (f7 : fx y3) :
  Calls Try.prog 44 #[.slice (some ⟨b, off, none⟩) 4 c, .int .i64 2] w fun e w' => e = .returned (.agg #[.int .i64 (bez x0 x1 x2 x3 2), .int .i64 (bez y0 y1 y2 y3 2)]) ∧ Kp w w' := by
 have ex : bez x0 x1 x2 x3 2 = (pSum (216 * x0) (216 * x1) (72 * x2) (8 * x3) 4) / 512 := by unfold bez; simp only [pSum]; omega
 have ey : bez y0 y1 y2 y3 2 = (pSum (216 * y0) (216 * y1) (72 * y2) (8 * y3) 4) / 512 := by unfold bez; simp only [pSum]; omega
 obtain ⟨vx, hvx⟩ : ∃ v, pSum (216 * x0) (216 * x1) (72 * x2) (8 * x3) 4 = v := ⟨_, rfl⟩
 obtain ⟨vy, hvy⟩ : ∃ v, pSum (216 * y0) (216 * y1) (72 * y2) (8 * y3) 4 = v := ⟨_, rfl⟩
 rw [ex, ey, hvx, hvy]
 have HVX : Hid _ := hvx
 have HVY : Hid _ := hvy
 have bx : -4611686018427387904 ≤ vx ∧ vx ≤ 4611686018427387904 := by have h := pSum_4 (216 * x0) (216 * x1) (72 * x2) (8 * x3); unfold fx at *; omega
 have by' : -4611686018427387904 ≤ vy ∧ vy ≤ 4611686018427387904 := by have h := pSum_4 (216 * y0) (216 * y1) (72 * y2) (8 * y3); unfold fx at *; omega
 clear hvx hvy
 have HE : Hid (∀ o, ((w.alloc o).cell? ⟨b, off, none⟩ = some (.int .i64 x0) ∧ (w.alloc o).cell? ⟨b, off + 1, none⟩ = some (.int .i64 y0) ∧ (w.alloc o).cell? ⟨b, off + 2, none⟩ = some (.int .i64 x1) ∧ (w.alloc o).cell? ⟨b, off + 2 + 1, none⟩ = some (.int .i64 y1) ∧ (w.alloc o).cell? ⟨b, off + 4, none⟩ = some (.int .i64 x2) ∧ (w.alloc o).cell? ⟨b, off + 4 + 1, none⟩ = some (.int .i64 y2) ∧ (w.alloc o).cell? ⟨b, off + 6, none⟩ = some (.int .i64 x3) ∧ (w.alloc o).cell? ⟨b, off + 6 + 1, none⟩ = some (.int .i64 y3))) := fun o => by
  obtain ⟨q0, q1, q2, q3, q4, q5, q6, q7⟩ := h
  have kc : ∀ x v, w.cell? ⟨b, x, none⟩ = some v → (w.alloc o).cell? ⟨b, x, none⟩ = some v := fun x v hv => (Below.cell ((Below.refl w.heap.size w).alloc (Nat.le_refl _) o) (p := ⟨b, x, none⟩) (World.block_lt_of_cell? w ⟨b, x, none⟩ hv)).trans hv
  exact ⟨kc _ _ q0, kc _ _ q1, kc _ _ q2, kc _ _ q3, kc _ _ q4, kc _ _ q5, kc _ _ q6, kc _ _ q7⟩
 clear ex ey h
 unfold fx at *
 go_enter Try.func44, Try.ntmps44
 go_wp2
 go_loop [6, 7, 35] (fun x y i => ∃ j : Nat, j ≤ 4 ∧ i = .int .i64 j ∧ x = .int .i64 (pSum (216 * x0) (216 * x1) (72 * x2) (8 * x3) j) ∧ y = .int .i64 (pSum (216 * y0) (216 * y1) (72 * y2) (8 * y3) j)) (fun _ _ i => 4 - (intOf i).toNat)
 case atStart => exact ⟨0, by omega, rfl, rfl, rfl⟩
 case round =>
  obtain ⟨j, hj, rfl, rfl, rfl⟩ := hrel
  obtain ⟨q0, q1, q2, q3, q4, q5, q6, q7⟩ := HE.out (.cells #[.int .i64 0, .int .i64 0] 27)
  clear HE
  rcases (show j = 0 ∨ j = 1 ∨ j = 2 ∨ j = 3 ∨ j = 4 by omega) with rfl | rfl | rfl | rfl | rfl
  ·have i0 : ∀ w, (Instr.index 121 (.agg #[.int .i64 216, .int .i64 216, .int .i64 72, .int .i64 8]) (.int .i64 0)).run Try.prog w = .ok (.int .i64 216) w := fun _ => by kernel_rfl
   rw [pSum_0 (216 * x0) (216 * x1) (72 * x2) (8 * x3), pSum_0 (216 * y0) (216 * y1) (72 * y2) (8 * y3)]
   clear hj
   go_wp2
   go_round
   case rel => exact ⟨1, by omega, by go_num, vint (by have h := pSum_1 (216 * x0) (216 * x1) (72 * x2) (8 * x3); omega), vint (by have h := pSum_1 (216 * y0) (216 * y1) (72 * y2) (8 * y3); omega)⟩
   case measure => simp [intOf]
  ·have i0 : ∀ w, (Instr.index 121 (.agg #[.int .i64 216, .int .i64 216, .int .i64 72, .int .i64 8]) (.int .i64 1)).run Try.prog w = .ok (.int .i64 216) w := fun _ => by kernel_rfl
   rw [pSum_1 (216 * x0) (216 * x1) (72 * x2) (8 * x3), pSum_1 (216 * y0) (216 * y1) (72 * y2) (8 * y3)]
   clear hj
   go_wp2
   go_round
   case rel => exact ⟨2, by omega, by go_num, vint (by have h := pSum_2 (216 * x0) (216 * x1) (72 * x2) (8 * x3); omega), vint (by have h := pSum_2 (216 * y0) (216 * y1) (72 * y2) (8 * y3); omega)⟩
   case measure => simp [intOf]
  ·have i0 : ∀ w, (Instr.index 121 (.agg #[.int .i64 216, .int .i64 216, .int .i64 72, .int .i64 8]) (.int .i64 2)).run Try.prog w = .ok (.int .i64 72) w := fun _ => by kernel_rfl
   rw [pSum_2 (216 * x0) (216 * x1) (72 * x2) (8 * x3), pSum_2 (216 * y0) (216 * y1) (72 * y2) (8 * y3)]
   clear hj
   go_wp2
   go_round
   case rel => exact ⟨3, by omega, by go_num, vint (by have h := pSum_3 (216 * x0) (216 * x1) (72 * x2) (8 * x3); omega), vint (by have h := pSum_3 (216 * y0) (216 * y1) (72 * y2) (8 * y3); omega)⟩
   case measure => simp [intOf]
  ·have i0 : ∀ w, (Instr.index 121 (.agg #[.int .i64 216, .int .i64 216, .int .i64 72, .int .i64 8]) (.int .i64 3)).run Try.prog w = .ok (.int .i64 8) w := fun _ => by kernel_rfl
   rw [pSum_3 (216 * x0) (216 * x1) (72 * x2) (8 * x3), pSum_3 (216 * y0) (216 * y1) (72 * y2) (8 * y3)]
   clear hj
   go_wp2
   go_round
   case rel => exact ⟨4, by omega, by go_num, vint (by have h := pSum_4 (216 * x0) (216 * x1) (72 * x2) (8 * x3); omega), vint (by have h := pSum_4 (216 * y0) (216 * y1) (72 * y2) (8 * y3); omega)⟩
   case measure => simp [intOf]
  ·clear hj q0 q1 q2 q3 q4 q5 q6 q7
   rw [HVX.out, HVY.out]
   go_wp2_with (go_at_call 80; refine (divDown_any _ _ _ (by omega) (by omega) (by omega) (by omega)).mono ?_; rintro e w' ⟨rfl, rfl⟩)
   exact bodyPost_ret (v := .agg #[.int .i64 (vx / 512), .int .i64 (vy / 512)]) (by simp [results, Try.results44, go_sem]) rfl ⟨rfl, (Kp.refl w).alloc _ _⟩
set_option maxRecDepth 100000 in
set_option maxHeartbeats 4000000 in
theorem icurve3 (w : World) (b off c : Nat) (x0 y0 x1 y1 x2 y2 x3 y3 : Int) (h : Four w b off x0 y0 x1 y1 x2 y2 x3 y3) (f0 : fx x0) (f1 : fx y0) (f2 : fx x1) (f3 : fx y1) (f4 : fx x2) (f5 : fx y2) (f6 : fx x3) (f7 : fx y3) :
  Calls Try.prog 44 #[.slice (some ⟨b, off, none⟩) 4 c, .int .i64 3] w fun e w' => e = .returned (.agg #[.int .i64 (bez x0 x1 x2 x3 3), .int .i64 (bez y0 y1 y2 y3 3)]) ∧ Kp w w' := by
 have ex : bez x0 x1 x2 x3 3 = (pSum (125 * x0) (225 * x1) (135 * x2) (27 * x3) 4) / 512 := by unfold bez; simp only [pSum]; omega
 have ey : bez y0 y1 y2 y3 3 = (pSum (125 * y0) (225 * y1) (135 * y2) (27 * y3) 4) / 512 := by unfold bez; simp only [pSum]; omega
 obtain ⟨vx, hvx⟩ : ∃ v, pSum (125 * x0) (225 * x1) (135 * x2) (27 * x3) 4 = v := ⟨_, rfl⟩
 obtain ⟨vy, hvy⟩ : ∃ v, pSum (125 * y0) (225 * y1) (135 * y2) (27 * y3) 4 = v := ⟨_, rfl⟩
 rw [ex, ey, hvx, hvy]
 have HVX : Hid _ := hvx
 have HVY : Hid _ := hvy
 have bx : -4611686018427387904 ≤ vx ∧ vx ≤ 4611686018427387904 := by have h := pSum_4 (125 * x0) (225 * x1) (135 * x2) (27 * x3); unfold fx at *; omega
 have by' : -4611686018427387904 ≤ vy ∧ vy ≤ 4611686018427387904 := by have h := pSum_4 (125 * y0) (225 * y1) (135 * y2) (27 * y3); unfold fx at *; omega
 clear hvx hvy
 have HE : Hid (∀ o, ((w.alloc o).cell? ⟨b, off, none⟩ = some (.int .i64 x0) ∧ (w.alloc o).cell? ⟨b, off + 1, none⟩ = some (.int .i64 y0) ∧ (w.alloc o).cell? ⟨b, off + 2, none⟩ = some (.int .i64 x1) ∧ (w.alloc o).cell? ⟨b, off + 2 + 1, none⟩ = some (.int .i64 y1) ∧ (w.alloc o).cell? ⟨b, off + 4, none⟩ = some (.int .i64 x2) ∧ (w.alloc o).cell? ⟨b, off + 4 + 1, none⟩ = some (.int .i64 y2) ∧ (w.alloc o).cell? ⟨b, off + 6, none⟩ = some (.int .i64 x3) ∧ (w.alloc o).cell? ⟨b, off + 6 + 1, none⟩ = some (.int .i64 y3))) := fun o => by
  obtain ⟨q0, q1, q2, q3, q4, q5, q6, q7⟩ := h
  have kc : ∀ x v, w.cell? ⟨b, x, none⟩ = some v → (w.alloc o).cell? ⟨b, x, none⟩ = some v := fun x v hv => (Below.cell ((Below.refl w.heap.size w).alloc (Nat.le_refl _) o) (p := ⟨b, x, none⟩) (World.block_lt_of_cell? w ⟨b, x, none⟩ hv)).trans hv
  exact ⟨kc _ _ q0, kc _ _ q1, kc _ _ q2, kc _ _ q3, kc _ _ q4, kc _ _ q5, kc _ _ q6, kc _ _ q7⟩
 clear ex ey h
 unfold fx at *
 go_enter Try.func44, Try.ntmps44
 go_wp2
 go_loop [6, 7, 35] (fun x y i => ∃ j : Nat, j ≤ 4 ∧ i = .int .i64 j ∧ x = .int .i64 (pSum (125 * x0) (225 * x1) (135 * x2) (27 * x3) j) ∧ y = .int .i64 (pSum (125 * y0) (225 * y1) (135 * y2) (27 * y3) j)) (fun _ _ i => 4 - (intOf i).toNat)
 case atStart => exact ⟨0, by omega, rfl, rfl, rfl⟩
 case round =>
  obtain ⟨j, hj, rfl, rfl, rfl⟩ := hrel
  obtain ⟨q0, q1, q2, q3, q4, q5, q6, q7⟩ := HE.out (.cells #[.int .i64 0, .int .i64 0] 27)
  clear HE
  rcases (show j = 0 ∨ j = 1 ∨ j = 2 ∨ j = 3 ∨ j = 4 by omega) with rfl | rfl | rfl | rfl | rfl
  ·have i0 : ∀ w, (Instr.index 121 (.agg #[.int .i64 125, .int .i64 225, .int .i64 135, .int .i64 27]) (.int .i64 0)).run Try.prog w = .ok (.int .i64 125) w := fun _ => by kernel_rfl
   rw [pSum_0 (125 * x0) (225 * x1) (135 * x2) (27 * x3), pSum_0 (125 * y0) (225 * y1) (135 * y2) (27 * y3)]
   clear hj
   go_wp2
   go_round
   case rel => exact ⟨1, by omega, by go_num, vint (by have h := pSum_1 (125 * x0) (225 * x1) (135 * x2) (27 * x3); omega), vint (by have h := pSum_1 (125 * y0) (225 * y1) (135 * y2) (27 * y3); omega)⟩
   case measure => simp [intOf]
  ·have i0 : ∀ w, (Instr.index 121 (.agg #[.int .i64 125, .int .i64 225, .int .i64 135, .int .i64 27]) (.int .i64 1)).run Try.prog w = .ok (.int .i64 225) w := fun _ => by kernel_rfl
   rw [pSum_1 (125 * x0) (225 * x1) (135 * x2) (27 * x3), pSum_1 (125 * y0) (225 * y1) (135 * y2) (27 * y3)]
   clear hj
   go_wp2
   go_round
   case rel => exact ⟨2, by omega, by go_num, vint (by have h := pSum_2 (125 * x0) (225 * x1) (135 * x2) (27 * x3); omega), vint (by have h := pSum_2 (125 * y0) (225 * y1) (135 * y2) (27 * y3); omega)⟩
   case measure => simp [intOf]
  ·have i0 : ∀ w, (Instr.index 121 (.agg #[.int .i64 125, .int .i64 225, .int .i64 135, .int .i64 27]) (.int .i64 2)).run Try.prog w = .ok (.int .i64 135) w := fun _ => by kernel_rfl
   rw [pSum_2 (125 * x0) (225 * x1) (135 * x2) (27 * x3), pSum_2 (125 * y0) (225 * y1) (135 * y2) (27 * y3)]
   clear hj
   go_wp2
   go_round
   case rel => exact ⟨3, by omega, by go_num, vint (by have h := pSum_3 (125 * x0) (225 * x1) (135 * x2) (27 * x3); omega), vint (by have h := pSum_3 (125 * y0) (225 * y1) (135 * y2) (27 * y3); omega)⟩
   case measure => simp [intOf]
  ·have i0 : ∀ w, (Instr.index 121 (.agg #[.int .i64 125, .int .i64 225, .int .i64 135, .int .i64 27]) (.int .i64 3)).run Try.prog w = .ok (.int .i64 27) w := fun _ => by kernel_rfl
   rw [pSum_3 (125 * x0) (225 * x1) (135 * x2) (27 * x3), pSum_3 (125 * y0) (225 * y1) (135 * y2) (27 * y3)]
   clear hj
   go_wp2
   go_round
   case rel => exact ⟨4, by omega, by go_num, vint (by have h := pSum_4 (125 * x0) (225 * x1) (135 * x2) (27 * x3); omega), vint (by have h := pSum_4 (125 * y0) (225 * y1) (135 * y2) (27 * y3); omega)⟩
   case measure => simp [intOf]
  ·clear hj q0 q1 q2 q3 q4 q5 q6 q7
   rw [HVX.out, HVY.out]
   go_wp2_with (go_at_call 80; refine (divDown_any _ _ _ (by omega) (by omega) (by omega) (by omega)).mono ?_; rintro e w' ⟨rfl, rfl⟩)
   exact bodyPost_ret (v := .agg #[.int .i64 (vx / 512), .int .i64 (vy / 512)]) (by simp [results, Try.results44, go_sem]) rfl ⟨rfl, (Kp.refl w).alloc _ _⟩
set_option maxRecDepth 100000 in
set_option maxHeartbeats 4000000 in
theorem icurve4 (w : World) (b off c : Nat) (x0 y0 x1 y1 x2 y2 x3 y3 : Int) (h : Four w b off x0 y0 x1 y1 x2 y2 x3 y3) (f0 : fx x0) (f1 : fx y0) (f2 : fx x1) (f3 : fx y1) (f4 : fx x2) (f5 : fx y2) (f6 : fx x3) (f7 : fx y3) :
  Calls Try.prog 44 #[.slice (some ⟨b, off, none⟩) 4 c, .int .i64 4] w fun e w' => e = .returned (.agg #[.int .i64 (bez x0 x1 x2 x3 4), .int .i64 (bez y0 y1 y2 y3 4)]) ∧ Kp w w' := by
 have ex : bez x0 x1 x2 x3 4 = (pSum (64 * x0) (192 * x1) (192 * x2) (64 * x3) 4) / 512 := by unfold bez; simp only [pSum]; omega
 have ey : bez y0 y1 y2 y3 4 = (pSum (64 * y0) (192 * y1) (192 * y2) (64 * y3) 4) / 512 := by unfold bez; simp only [pSum]; omega
 obtain ⟨vx, hvx⟩ : ∃ v, pSum (64 * x0) (192 * x1) (192 * x2) (64 * x3) 4 = v := ⟨_, rfl⟩
 obtain ⟨vy, hvy⟩ : ∃ v, pSum (64 * y0) (192 * y1) (192 * y2) (64 * y3) 4 = v := ⟨_, rfl⟩
 rw [ex, ey, hvx, hvy]
 have HVX : Hid _ := hvx
 have HVY : Hid _ := hvy
 have bx : -4611686018427387904 ≤ vx ∧ vx ≤ 4611686018427387904 := by have h := pSum_4 (64 * x0) (192 * x1) (192 * x2) (64 * x3); unfold fx at *; omega
 have by' : -4611686018427387904 ≤ vy ∧ vy ≤ 4611686018427387904 := by have h := pSum_4 (64 * y0) (192 * y1) (192 * y2) (64 * y3); unfold fx at *; omega
 clear hvx hvy
 have HE : Hid (∀ o, ((w.alloc o).cell? ⟨b, off, none⟩ = some (.int .i64 x0) ∧ (w.alloc o).cell? ⟨b, off + 1, none⟩ = some (.int .i64 y0) ∧ (w.alloc o).cell? ⟨b, off + 2, none⟩ = some (.int .i64 x1) ∧ (w.alloc o).cell? ⟨b, off + 2 + 1, none⟩ = some (.int .i64 y1) ∧ (w.alloc o).cell? ⟨b, off + 4, none⟩ = some (.int .i64 x2) ∧ (w.alloc o).cell? ⟨b, off + 4 + 1, none⟩ = some (.int .i64 y2) ∧ (w.alloc o).cell? ⟨b, off + 6, none⟩ = some (.int .i64 x3) ∧ (w.alloc o).cell? ⟨b, off + 6 + 1, none⟩ = some (.int .i64 y3))) := fun o => by
  obtain ⟨q0, q1, q2, q3, q4, q5, q6, q7⟩ := h
  have kc : ∀ x v, w.cell? ⟨b, x, none⟩ = some v → (w.alloc o).cell? ⟨b, x, none⟩ = some v := fun x v hv => (Below.cell ((Below.refl w.heap.size w).alloc (Nat.le_refl _) o) (p := ⟨b, x, none⟩) (World.block_lt_of_cell? w ⟨b, x, none⟩ hv)).trans hv
  exact ⟨kc _ _ q0, kc _ _ q1, kc _ _ q2, kc _ _ q3, kc _ _ q4, kc _ _ q5, kc _ _ q6, kc _ _ q7⟩
 clear ex ey h
 unfold fx at *
 go_enter Try.func44, Try.ntmps44
 go_wp2
 go_loop [6, 7, 35] (fun x y i => ∃ j : Nat, j ≤ 4 ∧ i = .int .i64 j ∧ x = .int .i64 (pSum (64 * x0) (192 * x1) (192 * x2) (64 * x3) j) ∧ y = .int .i64 (pSum (64 * y0) (192 * y1) (192 * y2) (64 * y3) j)) (fun _ _ i => 4 - (intOf i).toNat)
 case atStart => exact ⟨0, by omega, rfl, rfl, rfl⟩
 case round =>
  obtain ⟨j, hj, rfl, rfl, rfl⟩ := hrel
  obtain ⟨q0, q1, q2, q3, q4, q5, q6, q7⟩ := HE.out (.cells #[.int .i64 0, .int .i64 0] 27)
  clear HE
  rcases (show j = 0 ∨ j = 1 ∨ j = 2 ∨ j = 3 ∨ j = 4 by omega) with rfl | rfl | rfl | rfl | rfl
  ·have i0 : ∀ w, (Instr.index 121 (.agg #[.int .i64 64, .int .i64 192, .int .i64 192, .int .i64 64]) (.int .i64 0)).run Try.prog w = .ok (.int .i64 64) w := fun _ => by kernel_rfl
   rw [pSum_0 (64 * x0) (192 * x1) (192 * x2) (64 * x3), pSum_0 (64 * y0) (192 * y1) (192 * y2) (64 * y3)]
   clear hj
   go_wp2
   go_round
   case rel => exact ⟨1, by omega, by go_num, vint (by have h := pSum_1 (64 * x0) (192 * x1) (192 * x2) (64 * x3); omega), vint (by have h := pSum_1 (64 * y0) (192 * y1) (192 * y2) (64 * y3); omega)⟩
   case measure => simp [intOf]
  ·have i0 : ∀ w, (Instr.index 121 (.agg #[.int .i64 64, .int .i64 192, .int .i64 192, .int .i64 64]) (.int .i64 1)).run Try.prog w = .ok (.int .i64 192) w := fun _ => by kernel_rfl
   rw [pSum_1 (64 * x0) (192 * x1) (192 * x2) (64 * x3), pSum_1 (64 * y0) (192 * y1) (192 * y2) (64 * y3)]
   clear hj
   go_wp2
   go_round
   case rel => exact ⟨2, by omega, by go_num, vint (by have h := pSum_2 (64 * x0) (192 * x1) (192 * x2) (64 * x3); omega), vint (by have h := pSum_2 (64 * y0) (192 * y1) (192 * y2) (64 * y3); omega)⟩
   case measure => simp [intOf]
  ·have i0 : ∀ w, (Instr.index 121 (.agg #[.int .i64 64, .int .i64 192, .int .i64 192, .int .i64 64]) (.int .i64 2)).run Try.prog w = .ok (.int .i64 192) w := fun _ => by kernel_rfl
   rw [pSum_2 (64 * x0) (192 * x1) (192 * x2) (64 * x3), pSum_2 (64 * y0) (192 * y1) (192 * y2) (64 * y3)]
   clear hj
   go_wp2
   go_round
   case rel => exact ⟨3, by omega, by go_num, vint (by have h := pSum_3 (64 * x0) (192 * x1) (192 * x2) (64 * x3); omega), vint (by have h := pSum_3 (64 * y0) (192 * y1) (192 * y2) (64 * y3); omega)⟩
   case measure => simp [intOf]
  ·have i0 : ∀ w, (Instr.index 121 (.agg #[.int .i64 64, .int .i64 192, .int .i64 192, .int .i64 64]) (.int .i64 3)).run Try.prog w = .ok (.int .i64 64) w := fun _ => by kernel_rfl
   rw [pSum_3 (64 * x0) (192 * x1) (192 * x2) (64 * x3), pSum_3 (64 * y0) (192 * y1) (192 * y2) (64 * y3)]
   clear hj
   go_wp2
   go_round
   case rel => exact ⟨4, by omega, by go_num, vint (by have h := pSum_4 (64 * x0) (192 * x1) (192 * x2) (64 * x3); omega), vint (by have h := pSum_4 (64 * y0) (192 * y1) (192 * y2) (64 * y3); omega)⟩
   case measure => simp [intOf]
  ·clear hj q0 q1 q2 q3 q4 q5 q6 q7
   rw [HVX.out, HVY.out]
   go_wp2_with (go_at_call 80; refine (divDown_any _ _ _ (by omega) (by omega) (by omega) (by omega)).mono ?_; rintro e w' ⟨rfl, rfl⟩)
   exact bodyPost_ret (v := .agg #[.int .i64 (vx / 512), .int .i64 (vy / 512)]) (by simp [results, Try.results44, go_sem]) rfl ⟨rfl, (Kp.refl w).alloc _ _⟩
set_option maxRecDepth 100000 in
set_option maxHeartbeats 4000000 in
theorem icurve5 (w : World) (b off c : Nat) (x0 y0 x1 y1 x2 y2 x3 y3 : Int) (h : Four w b off x0 y0 x1 y1 x2 y2 x3 y3) (f0 : fx x0) (f1 : fx y0) (f2 : fx x1) (f3 : fx y1) (f4 : fx x2) (f5 : fx y2) (f6 : fx x3) (f7 : fx y3) :
  Calls Try.prog 44 #[.slice (some ⟨b, off, none⟩) 4 c, .int .i64 5] w fun e w' => e = .returned (.agg #[.int .i64 (bez x0 x1 x2 x3 5), .int .i64 (bez y0 y1 y2 y3 5)]) ∧ Kp w w' := by
 have ex : bez x0 x1 x2 x3 5 = (pSum (27 * x0) (135 * x1) (225 * x2) (125 * x3) 4) / 512 := by unfold bez; simp only [pSum]; omega
 have ey : bez y0 y1 y2 y3 5 = (pSum (27 * y0) (135 * y1) (225 * y2) (125 * y3) 4) / 512 := by unfold bez; simp only [pSum]; omega
 obtain ⟨vx, hvx⟩ : ∃ v, pSum (27 * x0) (135 * x1) (225 * x2) (125 * x3) 4 = v := ⟨_, rfl⟩
 obtain ⟨vy, hvy⟩ : ∃ v, pSum (27 * y0) (135 * y1) (225 * y2) (125 * y3) 4 = v := ⟨_, rfl⟩
 rw [ex, ey, hvx, hvy]
 have HVX : Hid _ := hvx
 have HVY : Hid _ := hvy
 have bx : -4611686018427387904 ≤ vx ∧ vx ≤ 4611686018427387904 := by have h := pSum_4 (27 * x0) (135 * x1) (225 * x2) (125 * x3); unfold fx at *; omega
 have by' : -4611686018427387904 ≤ vy ∧ vy ≤ 4611686018427387904 := by have h := pSum_4 (27 * y0) (135 * y1) (225 * y2) (125 * y3); unfold fx at *; omega
 clear hvx hvy
 have HE : Hid (∀ o, ((w.alloc o).cell? ⟨b, off, none⟩ = some (.int .i64 x0) ∧ (w.alloc o).cell? ⟨b, off + 1, none⟩ = some (.int .i64 y0) ∧ (w.alloc o).cell? ⟨b, off + 2, none⟩ = some (.int .i64 x1) ∧ (w.alloc o).cell? ⟨b, off + 2 + 1, none⟩ = some (.int .i64 y1) ∧ (w.alloc o).cell? ⟨b, off + 4, none⟩ = some (.int .i64 x2) ∧ (w.alloc o).cell? ⟨b, off + 4 + 1, none⟩ = some (.int .i64 y2) ∧ (w.alloc o).cell? ⟨b, off + 6, none⟩ = some (.int .i64 x3) ∧ (w.alloc o).cell? ⟨b, off + 6 + 1, none⟩ = some (.int .i64 y3))) := fun o => by
  obtain ⟨q0, q1, q2, q3, q4, q5, q6, q7⟩ := h
  have kc : ∀ x v, w.cell? ⟨b, x, none⟩ = some v → (w.alloc o).cell? ⟨b, x, none⟩ = some v := fun x v hv => (Below.cell ((Below.refl w.heap.size w).alloc (Nat.le_refl _) o) (p := ⟨b, x, none⟩) (World.block_lt_of_cell? w ⟨b, x, none⟩ hv)).trans hv
  exact ⟨kc _ _ q0, kc _ _ q1, kc _ _ q2, kc _ _ q3, kc _ _ q4, kc _ _ q5, kc _ _ q6, kc _ _ q7⟩
 clear ex ey h
 unfold fx at *
 go_enter Try.func44, Try.ntmps44
 go_wp2
 go_loop [6, 7, 35] (fun x y i => ∃ j : Nat, j ≤ 4 ∧ i = .int .i64 j ∧ x = .int .i64 (pSum (27 * x0) (135 * x1) (225 * x2) (125 * x3) j) ∧ y = .int .i64 (pSum (27 * y0) (135 * y1) (225 * y2) (125 * y3) j)) (fun _ _ i => 4 - (intOf i).toNat)
 case atStart => exact ⟨0, by omega, rfl, rfl, rfl⟩
 case round =>
  obtain ⟨j, hj, rfl, rfl, rfl⟩ := hrel
  obtain ⟨q0, q1, q2, q3, q4, q5, q6, q7⟩ := HE.out (.cells #[.int .i64 0, .int .i64 0] 27)
  clear HE
  rcases (show j = 0 ∨ j = 1 ∨ j = 2 ∨ j = 3 ∨ j = 4 by omega) with rfl | rfl | rfl | rfl | rfl
  ·have i0 : ∀ w, (Instr.index 121 (.agg #[.int .i64 27, .int .i64 135, .int .i64 225, .int .i64 125]) (.int .i64 0)).run Try.prog w = .ok (.int .i64 27) w := fun _ => by kernel_rfl
   rw [pSum_0 (27 * x0) (135 * x1) (225 * x2) (125 * x3), pSum_0 (27 * y0) (135 * y1) (225 * y2) (125 * y3)]
   clear hj
   go_wp2
   go_round
   case rel => exact ⟨1, by omega, by go_num, vint (by have h := pSum_1 (27 * x0) (135 * x1) (225 * x2) (125 * x3); omega), vint (by have h := pSum_1 (27 * y0) (135 * y1) (225 * y2) (125 * y3); omega)⟩
   case measure => simp [intOf]
  ·have i0 : ∀ w, (Instr.index 121 (.agg #[.int .i64 27, .int .i64 135, .int .i64 225, .int .i64 125]) (.int .i64 1)).run Try.prog w = .ok (.int .i64 135) w := fun _ => by kernel_rfl
   rw [pSum_1 (27 * x0) (135 * x1) (225 * x2) (125 * x3), pSum_1 (27 * y0) (135 * y1) (225 * y2) (125 * y3)]
   clear hj
   go_wp2
   go_round
   case rel => exact ⟨2, by omega, by go_num, vint (by have h := pSum_2 (27 * x0) (135 * x1) (225 * x2) (125 * x3); omega), vint (by have h := pSum_2 (27 * y0) (135 * y1) (225 * y2) (125 * y3); omega)⟩
   case measure => simp [intOf]
  ·have i0 : ∀ w, (Instr.index 121 (.agg #[.int .i64 27, .int .i64 135, .int .i64 225, .int .i64 125]) (.int .i64 2)).run Try.prog w = .ok (.int .i64 225) w := fun _ => by kernel_rfl
   rw [pSum_2 (27 * x0) (135 * x1) (225 * x2) (125 * x3), pSum_2 (27 * y0) (135 * y1) (225 * y2) (125 * y3)]
   clear hj
   go_wp2
   go_round
   case rel => exact ⟨3, by omega, by go_num, vint (by have h := pSum_3 (27 * x0) (135 * x1) (225 * x2) (125 * x3); omega), vint (by have h := pSum_3 (27 * y0) (135 * y1) (225 * y2) (125 * y3); omega)⟩
   case measure => simp [intOf]
  ·have i0 : ∀ w, (Instr.index 121 (.agg #[.int .i64 27, .int .i64 135, .int .i64 225, .int .i64 125]) (.int .i64 3)).run Try.prog w = .ok (.int .i64 125) w := fun _ => by kernel_rfl
   rw [pSum_3 (27 * x0) (135 * x1) (225 * x2) (125 * x3), pSum_3 (27 * y0) (135 * y1) (225 * y2) (125 * y3)]
   clear hj
   go_wp2
   go_round
   case rel => exact ⟨4, by omega, by go_num, vint (by have h := pSum_4 (27 * x0) (135 * x1) (225 * x2) (125 * x3); omega), vint (by have h := pSum_4 (27 * y0) (135 * y1) (225 * y2) (125 * y3); omega)⟩
   case measure => simp [intOf]
  ·clear hj q0 q1 q2 q3 q4 q5 q6 q7
   rw [HVX.out, HVY.out]
   go_wp2_with (go_at_call 80; refine (divDown_any _ _ _ (by omega) (by omega) (by omega) (by omega)).mono ?_; rintro e w' ⟨rfl, rfl⟩)
   exact bodyPost_ret (v := .agg #[.int .i64 (vx / 512), .int .i64 (vy / 512)]) (by simp [results, Try.results44, go_sem]) rfl ⟨rfl, (Kp.refl w).alloc _ _⟩
set_option maxRecDepth 100000 in
set_option maxHeartbeats 4000000 in
theorem icurve6 (w : World) (b off c : Nat) (x0 y0 x1 y1 x2 y2 x3 y3 : Int) (h : Four w b off x0 y0 x1 y1 x2 y2 x3 y3) (f0 : fx x0) (f1 : fx y0) (f2 : fx x1) (f3 : fx y1) (f4 : fx x2) (f5 : fx y2) (f6 : fx x3) (f7 : fx y3) :
  Calls Try.prog 44 #[.slice (some ⟨b, off, none⟩) 4 c, .int .i64 6] w fun e w' => e = .returned (.agg #[.int .i64 (bez x0 x1 x2 x3 6), .int .i64 (bez y0 y1 y2 y3 6)]) ∧ Kp w w' := by
 have ex : bez x0 x1 x2 x3 6 = (pSum (8 * x0) (72 * x1) (216 * x2) (216 * x3) 4) / 512 := by unfold bez; simp only [pSum]; omega
 have ey : bez y0 y1 y2 y3 6 = (pSum (8 * y0) (72 * y1) (216 * y2) (216 * y3) 4) / 512 := by unfold bez; simp only [pSum]; omega
 obtain ⟨vx, hvx⟩ : ∃ v, pSum (8 * x0) (72 * x1) (216 * x2) (216 * x3) 4 = v := ⟨_, rfl⟩
 obtain ⟨vy, hvy⟩ : ∃ v, pSum (8 * y0) (72 * y1) (216 * y2) (216 * y3) 4 = v := ⟨_, rfl⟩
 rw [ex, ey, hvx, hvy]
 have HVX : Hid _ := hvx
 have HVY : Hid _ := hvy
 have bx : -4611686018427387904 ≤ vx ∧ vx ≤ 4611686018427387904 := by have h := pSum_4 (8 * x0) (72 * x1) (216 * x2) (216 * x3); unfold fx at *; omega
 have by' : -4611686018427387904 ≤ vy ∧ vy ≤ 4611686018427387904 := by have h := pSum_4 (8 * y0) (72 * y1) (216 * y2) (216 * y3); unfold fx at *; omega
 clear hvx hvy
 have HE : Hid (∀ o, ((w.alloc o).cell? ⟨b, off, none⟩ = some (.int .i64 x0) ∧ (w.alloc o).cell? ⟨b, off + 1, none⟩ = some (.int .i64 y0) ∧ (w.alloc o).cell? ⟨b, off + 2, none⟩ = some (.int .i64 x1) ∧ (w.alloc o).cell? ⟨b, off + 2 + 1, none⟩ = some (.int .i64 y1) ∧ (w.alloc o).cell? ⟨b, off + 4, none⟩ = some (.int .i64 x2) ∧ (w.alloc o).cell? ⟨b, off + 4 + 1, none⟩ = some (.int .i64 y2) ∧ (w.alloc o).cell? ⟨b, off + 6, none⟩ = some (.int .i64 x3) ∧ (w.alloc o).cell? ⟨b, off + 6 + 1, none⟩ = some (.int .i64 y3))) := fun o => by
  obtain ⟨q0, q1, q2, q3, q4, q5, q6, q7⟩ := h
  have kc : ∀ x v, w.cell? ⟨b, x, none⟩ = some v → (w.alloc o).cell? ⟨b, x, none⟩ = some v := fun x v hv => (Below.cell ((Below.refl w.heap.size w).alloc (Nat.le_refl _) o) (p := ⟨b, x, none⟩) (World.block_lt_of_cell? w ⟨b, x, none⟩ hv)).trans hv
  exact ⟨kc _ _ q0, kc _ _ q1, kc _ _ q2, kc _ _ q3, kc _ _ q4, kc _ _ q5, kc _ _ q6, kc _ _ q7⟩
 clear ex ey h
 unfold fx at *
 go_enter Try.func44, Try.ntmps44
 go_wp2
 go_loop [6, 7, 35] (fun x y i => ∃ j : Nat, j ≤ 4 ∧ i = .int .i64 j ∧ x = .int .i64 (pSum (8 * x0) (72 * x1) (216 * x2) (216 * x3) j) ∧ y = .int .i64 (pSum (8 * y0) (72 * y1) (216 * y2) (216 * y3) j)) (fun _ _ i => 4 - (intOf i).toNat)
 case atStart => exact ⟨0, by omega, rfl, rfl, rfl⟩
 case round =>
  obtain ⟨j, hj, rfl, rfl, rfl⟩ := hrel
  obtain ⟨q0, q1, q2, q3, q4, q5, q6, q7⟩ := HE.out (.cells #[.int .i64 0, .int .i64 0] 27)
  clear HE
  rcases (show j = 0 ∨ j = 1 ∨ j = 2 ∨ j = 3 ∨ j = 4 by omega) with rfl | rfl | rfl | rfl | rfl
  ·have i0 : ∀ w, (Instr.index 121 (.agg #[.int .i64 8, .int .i64 72, .int .i64 216, .int .i64 216]) (.int .i64 0)).run Try.prog w = .ok (.int .i64 8) w := fun _ => by kernel_rfl
   rw [pSum_0 (8 * x0) (72 * x1) (216 * x2) (216 * x3), pSum_0 (8 * y0) (72 * y1) (216 * y2) (216 * y3)]
   clear hj
   go_wp2
   go_round
   case rel => exact ⟨1, by omega, by go_num, vint (by have h := pSum_1 (8 * x0) (72 * x1) (216 * x2) (216 * x3); omega), vint (by have h := pSum_1 (8 * y0) (72 * y1) (216 * y2) (216 * y3); omega)⟩
   case measure => simp [intOf]
  ·have i0 : ∀ w, (Instr.index 121 (.agg #[.int .i64 8, .int .i64 72, .int .i64 216, .int .i64 216]) (.int .i64 1)).run Try.prog w = .ok (.int .i64 72) w := fun _ => by kernel_rfl
   rw [pSum_1 (8 * x0) (72 * x1) (216 * x2) (216 * x3), pSum_1 (8 * y0) (72 * y1) (216 * y2) (216 * y3)]
   clear hj
   go_wp2
   go_round
   case rel => exact ⟨2, by omega, by go_num, vint (by have h := pSum_2 (8 * x0) (72 * x1) (216 * x2) (216 * x3); omega), vint (by have h := pSum_2 (8 * y0) (72 * y1) (216 * y2) (216 * y3); omega)⟩
   case measure => simp [intOf]
  ·have i0 : ∀ w, (Instr.index 121 (.agg #[.int .i64 8, .int .i64 72, .int .i64 216, .int .i64 216]) (.int .i64 2)).run Try.prog w = .ok (.int .i64 216) w := fun _ => by kernel_rfl
   rw [pSum_2 (8 * x0) (72 * x1) (216 * x2) (216 * x3), pSum_2 (8 * y0) (72 * y1) (216 * y2) (216 * y3)]
   clear hj
   go_wp2
   go_round
   case rel => exact ⟨3, by omega, by go_num, vint (by have h := pSum_3 (8 * x0) (72 * x1) (216 * x2) (216 * x3); omega), vint (by have h := pSum_3 (8 * y0) (72 * y1) (216 * y2) (216 * y3); omega)⟩
   case measure => simp [intOf]
  ·have i0 : ∀ w, (Instr.index 121 (.agg #[.int .i64 8, .int .i64 72, .int .i64 216, .int .i64 216]) (.int .i64 3)).run Try.prog w = .ok (.int .i64 216) w := fun _ => by kernel_rfl
   rw [pSum_3 (8 * x0) (72 * x1) (216 * x2) (216 * x3), pSum_3 (8 * y0) (72 * y1) (216 * y2) (216 * y3)]
   clear hj
   go_wp2
   go_round
   case rel => exact ⟨4, by omega, by go_num, vint (by have h := pSum_4 (8 * x0) (72 * x1) (216 * x2) (216 * x3); omega), vint (by have h := pSum_4 (8 * y0) (72 * y1) (216 * y2) (216 * y3); omega)⟩
   case measure => simp [intOf]
  ·clear hj q0 q1 q2 q3 q4 q5 q6 q7
   rw [HVX.out, HVY.out]
   go_wp2_with (go_at_call 80; refine (divDown_any _ _ _ (by omega) (by omega) (by omega) (by omega)).mono ?_; rintro e w' ⟨rfl, rfl⟩)
   exact bodyPost_ret (v := .agg #[.int .i64 (vx / 512), .int .i64 (vy / 512)]) (by simp [results, Try.results44, go_sem]) rfl ⟨rfl, (Kp.refl w).alloc _ _⟩
set_option maxRecDepth 100000 in
set_option maxHeartbeats 4000000 in
theorem icurve7 (w : World) (b off c : Nat) (x0 y0 x1 y1 x2 y2 x3 y3 : Int) (h : Four w b off x0 y0 x1 y1 x2 y2 x3 y3) (f0 : fx x0) (f1 : fx y0) (f2 : fx x1) (f3 : fx y1) (f4 : fx x2) (f5 : fx y2) (f6 : fx x3) (f7 : fx y3) :
  Calls Try.prog 44 #[.slice (some ⟨b, off, none⟩) 4 c, .int .i64 7] w fun e w' => e = .returned (.agg #[.int .i64 (bez x0 x1 x2 x3 7), .int .i64 (bez y0 y1 y2 y3 7)]) ∧ Kp w w' := by
 have ex : bez x0 x1 x2 x3 7 = (pSum (1 * x0) (21 * x1) (147 * x2) (343 * x3) 4) / 512 := by unfold bez; simp only [pSum]; omega
 have ey : bez y0 y1 y2 y3 7 = (pSum (1 * y0) (21 * y1) (147 * y2) (343 * y3) 4) / 512 := by unfold bez; simp only [pSum]; omega
 obtain ⟨vx, hvx⟩ : ∃ v, pSum (1 * x0) (21 * x1) (147 * x2) (343 * x3) 4 = v := ⟨_, rfl⟩
 obtain ⟨vy, hvy⟩ : ∃ v, pSum (1 * y0) (21 * y1) (147 * y2) (343 * y3) 4 = v := ⟨_, rfl⟩
 rw [ex, ey, hvx, hvy]
 have HVX : Hid _ := hvx
 have HVY : Hid _ := hvy
 have bx : -4611686018427387904 ≤ vx ∧ vx ≤ 4611686018427387904 := by have h := pSum_4 (1 * x0) (21 * x1) (147 * x2) (343 * x3); unfold fx at *; omega
 have by' : -4611686018427387904 ≤ vy ∧ vy ≤ 4611686018427387904 := by have h := pSum_4 (1 * y0) (21 * y1) (147 * y2) (343 * y3); unfold fx at *; omega
 clear hvx hvy
 have HE : Hid (∀ o, ((w.alloc o).cell? ⟨b, off, none⟩ = some (.int .i64 x0) ∧ (w.alloc o).cell? ⟨b, off + 1, none⟩ = some (.int .i64 y0) ∧ (w.alloc o).cell? ⟨b, off + 2, none⟩ = some (.int .i64 x1) ∧ (w.alloc o).cell? ⟨b, off + 2 + 1, none⟩ = some (.int .i64 y1) ∧ (w.alloc o).cell? ⟨b, off + 4, none⟩ = some (.int .i64 x2) ∧ (w.alloc o).cell? ⟨b, off + 4 + 1, none⟩ = some (.int .i64 y2) ∧ (w.alloc o).cell? ⟨b, off + 6, none⟩ = some (.int .i64 x3) ∧ (w.alloc o).cell? ⟨b, off + 6 + 1, none⟩ = some (.int .i64 y3))) := fun o => by
  obtain ⟨q0, q1, q2, q3, q4, q5, q6, q7⟩ := h
  have kc : ∀ x v, w.cell? ⟨b, x, none⟩ = some v → (w.alloc o).cell? ⟨b, x, none⟩ = some v := fun x v hv => (Below.cell ((Below.refl w.heap.size w).alloc (Nat.le_refl _) o) (p := ⟨b, x, none⟩) (World.block_lt_of_cell? w ⟨b, x, none⟩ hv)).trans hv
  exact ⟨kc _ _ q0, kc _ _ q1, kc _ _ q2, kc _ _ q3, kc _ _ q4, kc _ _ q5, kc _ _ q6, kc _ _ q7⟩
 clear ex ey h
 unfold fx at *
 go_enter Try.func44, Try.ntmps44
 go_wp2
 go_loop [6, 7, 35] (fun x y i => ∃ j : Nat, j ≤ 4 ∧ i = .int .i64 j ∧ x = .int .i64 (pSum (1 * x0) (21 * x1) (147 * x2) (343 * x3) j) ∧ y = .int .i64 (pSum (1 * y0) (21 * y1) (147 * y2) (343 * y3) j)) (fun _ _ i => 4 - (intOf i).toNat)
 case atStart => exact ⟨0, by omega, rfl, rfl, rfl⟩
 case round =>
  obtain ⟨j, hj, rfl, rfl, rfl⟩ := hrel
  obtain ⟨q0, q1, q2, q3, q4, q5, q6, q7⟩ := HE.out (.cells #[.int .i64 0, .int .i64 0] 27)
  clear HE
  rcases (show j = 0 ∨ j = 1 ∨ j = 2 ∨ j = 3 ∨ j = 4 by omega) with rfl | rfl | rfl | rfl | rfl
  ·have i0 : ∀ w, (Instr.index 121 (.agg #[.int .i64 1, .int .i64 21, .int .i64 147, .int .i64 343]) (.int .i64 0)).run Try.prog w = .ok (.int .i64 1) w := fun _ => by kernel_rfl
   rw [pSum_0 (1 * x0) (21 * x1) (147 * x2) (343 * x3), pSum_0 (1 * y0) (21 * y1) (147 * y2) (343 * y3)]
   clear hj
   go_wp2
   go_round
   case rel => exact ⟨1, by omega, by go_num, vint (by have h := pSum_1 (1 * x0) (21 * x1) (147 * x2) (343 * x3); omega), vint (by have h := pSum_1 (1 * y0) (21 * y1) (147 * y2) (343 * y3); omega)⟩
   case measure => simp [intOf]
  ·have i0 : ∀ w, (Instr.index 121 (.agg #[.int .i64 1, .int .i64 21, .int .i64 147, .int .i64 343]) (.int .i64 1)).run Try.prog w = .ok (.int .i64 21) w := fun _ => by kernel_rfl
   rw [pSum_1 (1 * x0) (21 * x1) (147 * x2) (343 * x3), pSum_1 (1 * y0) (21 * y1) (147 * y2) (343 * y3)]
   clear hj
   go_wp2
   go_round
   case rel => exact ⟨2, by omega, by go_num, vint (by have h := pSum_2 (1 * x0) (21 * x1) (147 * x2) (343 * x3); omega), vint (by have h := pSum_2 (1 * y0) (21 * y1) (147 * y2) (343 * y3); omega)⟩
   case measure => simp [intOf]
  ·have i0 : ∀ w, (Instr.index 121 (.agg #[.int .i64 1, .int .i64 21, .int .i64 147, .int .i64 343]) (.int .i64 2)).run Try.prog w = .ok (.int .i64 147) w := fun _ => by kernel_rfl
   rw [pSum_2 (1 * x0) (21 * x1) (147 * x2) (343 * x3), pSum_2 (1 * y0) (21 * y1) (147 * y2) (343 * y3)]
   clear hj
   go_wp2
   go_round
   case rel => exact ⟨3, by omega, by go_num, vint (by have h := pSum_3 (1 * x0) (21 * x1) (147 * x2) (343 * x3); omega), vint (by have h := pSum_3 (1 * y0) (21 * y1) (147 * y2) (343 * y3); omega)⟩
   case measure => simp [intOf]
  ·have i0 : ∀ w, (Instr.index 121 (.agg #[.int .i64 1, .int .i64 21, .int .i64 147, .int .i64 343]) (.int .i64 3)).run Try.prog w = .ok (.int .i64 343) w := fun _ => by kernel_rfl
   rw [pSum_3 (1 * x0) (21 * x1) (147 * x2) (343 * x3), pSum_3 (1 * y0) (21 * y1) (147 * y2) (343 * y3)]
   clear hj
   go_wp2
   go_round
   case rel => exact ⟨4, by omega, by go_num, vint (by have h := pSum_4 (1 * x0) (21 * x1) (147 * x2) (343 * x3); omega), vint (by have h := pSum_4 (1 * y0) (21 * y1) (147 * y2) (343 * y3); omega)⟩
   case measure => simp [intOf]
  ·clear hj q0 q1 q2 q3 q4 q5 q6 q7
   rw [HVX.out, HVY.out]
   go_wp2_with (go_at_call 80; refine (divDown_any _ _ _ (by omega) (by omega) (by omega) (by omega)).mono ?_; rintro e w' ⟨rfl, rfl⟩)
   exact bodyPost_ret (v := .agg #[.int .i64 (vx / 512), .int .i64 (vy / 512)]) (by simp [results, Try.results44, go_sem]) rfl ⟨rfl, (Kp.refl w).alloc _ _⟩
set_option maxRecDepth 100000 in
set_option maxHeartbeats 4000000 in
theorem icurve8 (w : World) (b off c : Nat) (x0 y0 x1 y1 x2 y2 x3 y3 : Int) (h : Four w b off x0 y0 x1 y1 x2 y2 x3 y3) (f0 : fx x0) (f1 : fx y0) (f2 : fx x1) (f3 : fx y1) (f4 : fx x2) (f5 : fx y2) (f6 : fx x3) (f7 : fx y3) :
  Calls Try.prog 44 #[.slice (some ⟨b, off, none⟩) 4 c, .int .i64 8] w fun e w' => e = .returned (.agg #[.int .i64 (bez x0 x1 x2 x3 8), .int .i64 (bez y0 y1 y2 y3 8)]) ∧ Kp w w' := by
 have ex : bez x0 x1 x2 x3 8 = (pSum (0 * x0) (0 * x1) (0 * x2) (512 * x3) 4) / 512 := by unfold bez; simp only [pSum]; omega
 have ey : bez y0 y1 y2 y3 8 = (pSum (0 * y0) (0 * y1) (0 * y2) (512 * y3) 4) / 512 := by unfold bez; simp only [pSum]; omega
 obtain ⟨vx, hvx⟩ : ∃ v, pSum (0 * x0) (0 * x1) (0 * x2) (512 * x3) 4 = v := ⟨_, rfl⟩
 obtain ⟨vy, hvy⟩ : ∃ v, pSum (0 * y0) (0 * y1) (0 * y2) (512 * y3) 4 = v := ⟨_, rfl⟩
 rw [ex, ey, hvx, hvy]
 have HVX : Hid _ := hvx
 have HVY : Hid _ := hvy
 have bx : -4611686018427387904 ≤ vx ∧ vx ≤ 4611686018427387904 := by have h := pSum_4 (0 * x0) (0 * x1) (0 * x2) (512 * x3); unfold fx at *; omega
 have by' : -4611686018427387904 ≤ vy ∧ vy ≤ 4611686018427387904 := by have h := pSum_4 (0 * y0) (0 * y1) (0 * y2) (512 * y3); unfold fx at *; omega
 clear hvx hvy
 have HE : Hid (∀ o, ((w.alloc o).cell? ⟨b, off, none⟩ = some (.int .i64 x0) ∧ (w.alloc o).cell? ⟨b, off + 1, none⟩ = some (.int .i64 y0) ∧ (w.alloc o).cell? ⟨b, off + 2, none⟩ = some (.int .i64 x1) ∧ (w.alloc o).cell? ⟨b, off + 2 + 1, none⟩ = some (.int .i64 y1) ∧ (w.alloc o).cell? ⟨b, off + 4, none⟩ = some (.int .i64 x2) ∧ (w.alloc o).cell? ⟨b, off + 4 + 1, none⟩ = some (.int .i64 y2) ∧ (w.alloc o).cell? ⟨b, off + 6, none⟩ = some (.int .i64 x3) ∧ (w.alloc o).cell? ⟨b, off + 6 + 1, none⟩ = some (.int .i64 y3))) := fun o => by
  obtain ⟨q0, q1, q2, q3, q4, q5, q6, q7⟩ := h
  have kc : ∀ x v, w.cell? ⟨b, x, none⟩ = some v → (w.alloc o).cell? ⟨b, x, none⟩ = some v := fun x v hv => (Below.cell ((Below.refl w.heap.size w).alloc (Nat.le_refl _) o) (p := ⟨b, x, none⟩) (World.block_lt_of_cell? w ⟨b, x, none⟩ hv)).trans hv
  exact ⟨kc _ _ q0, kc _ _ q1, kc _ _ q2, kc _ _ q3, kc _ _ q4, kc _ _ q5, kc _ _ q6, kc _ _ q7⟩
 clear ex ey h
 unfold fx at *
 go_enter Try.func44, Try.ntmps44
 go_wp2
 go_loop [6, 7, 35] (fun x y i => ∃ j : Nat, j ≤ 4 ∧ i = .int .i64 j ∧ x = .int .i64 (pSum (0 * x0) (0 * x1) (0 * x2) (512 * x3) j) ∧ y = .int .i64 (pSum (0 * y0) (0 * y1) (0 * y2) (512 * y3) j)) (fun _ _ i => 4 - (intOf i).toNat)
 case atStart => exact ⟨0, by omega, rfl, rfl, rfl⟩
 case round =>
  obtain ⟨j, hj, rfl, rfl, rfl⟩ := hrel
  obtain ⟨q0, q1, q2, q3, q4, q5, q6, q7⟩ := HE.out (.cells #[.int .i64 0, .int .i64 0] 27)
  clear HE
  rcases (show j = 0 ∨ j = 1 ∨ j = 2 ∨ j = 3 ∨ j = 4 by omega) with rfl | rfl | rfl | rfl | rfl
  ·have i0 : ∀ w, (Instr.index 121 (.agg #[.int .i64 0, .int .i64 0, .int .i64 0, .int .i64 512]) (.int .i64 0)).run Try.prog w = .ok (.int .i64 0) w := fun _ => by kernel_rfl
   rw [pSum_0 (0 * x0) (0 * x1) (0 * x2) (512 * x3), pSum_0 (0 * y0) (0 * y1) (0 * y2) (512 * y3)]
   clear hj
   go_wp2
   go_round
   case rel => exact ⟨1, by omega, by go_num, vint (by have h := pSum_1 (0 * x0) (0 * x1) (0 * x2) (512 * x3); omega), vint (by have h := pSum_1 (0 * y0) (0 * y1) (0 * y2) (512 * y3); omega)⟩
   case measure => simp [intOf]
  ·have i0 : ∀ w, (Instr.index 121 (.agg #[.int .i64 0, .int .i64 0, .int .i64 0, .int .i64 512]) (.int .i64 1)).run Try.prog w = .ok (.int .i64 0) w := fun _ => by kernel_rfl
   rw [pSum_1 (0 * x0) (0 * x1) (0 * x2) (512 * x3), pSum_1 (0 * y0) (0 * y1) (0 * y2) (512 * y3)]
   clear hj
   go_wp2
   go_round
   case rel => exact ⟨2, by omega, by go_num, vint (by have h := pSum_2 (0 * x0) (0 * x1) (0 * x2) (512 * x3); omega), vint (by have h := pSum_2 (0 * y0) (0 * y1) (0 * y2) (512 * y3); omega)⟩
   case measure => simp [intOf]
  ·have i0 : ∀ w, (Instr.index 121 (.agg #[.int .i64 0, .int .i64 0, .int .i64 0, .int .i64 512]) (.int .i64 2)).run Try.prog w = .ok (.int .i64 0) w := fun _ => by kernel_rfl
   rw [pSum_2 (0 * x0) (0 * x1) (0 * x2) (512 * x3), pSum_2 (0 * y0) (0 * y1) (0 * y2) (512 * y3)]
   clear hj
   go_wp2
   go_round
   case rel => exact ⟨3, by omega, by go_num, vint (by have h := pSum_3 (0 * x0) (0 * x1) (0 * x2) (512 * x3); omega), vint (by have h := pSum_3 (0 * y0) (0 * y1) (0 * y2) (512 * y3); omega)⟩
   case measure => simp [intOf]
  ·have i0 : ∀ w, (Instr.index 121 (.agg #[.int .i64 0, .int .i64 0, .int .i64 0, .int .i64 512]) (.int .i64 3)).run Try.prog w = .ok (.int .i64 512) w := fun _ => by kernel_rfl
   rw [pSum_3 (0 * x0) (0 * x1) (0 * x2) (512 * x3), pSum_3 (0 * y0) (0 * y1) (0 * y2) (512 * y3)]
   clear hj
   go_wp2
   go_round
   case rel => exact ⟨4, by omega, by go_num, vint (by have h := pSum_4 (0 * x0) (0 * x1) (0 * x2) (512 * x3); omega), vint (by have h := pSum_4 (0 * y0) (0 * y1) (0 * y2) (512 * y3); omega)⟩
   case measure => simp [intOf]
  ·clear hj q0 q1 q2 q3 q4 q5 q6 q7
   rw [HVX.out, HVY.out]
   go_wp2_with (go_at_call 80; refine (divDown_any _ _ _ (by omega) (by omega) (by omega) (by omega)).mono ?_; rintro e w' ⟨rfl, rfl⟩)
   exact bodyPost_ret (v := .agg #[.int .i64 (vx / 512), .int .i64 (vy / 512)]) (by simp [results, Try.results44, go_sem]) rfl ⟨rfl, (Kp.refl w).alloc _ _⟩
theorem icurve_any (w : World) (a : Option Addr) (c : Nat) (l : List Pnt) (k : Int) (hl : l.length = 4) (hr : Pts w a l) (hg : ptsB l = true) (h0 : 0 ≤ k) (h1 : k ≤ 8) :
  Calls Try.prog 44 #[.slice a 4 c, .int .i64 k] w fun e w' => e = .returned (ptV (curveP l k)) ∧ Kp w w' := by
 obtain ⟨b, off, rfl, hb, h4⟩ := four_of hl hr
 have f0 := ptB_fx (ptsB_at hg 0 (by omega))
 have f1 := ptB_fx (ptsB_at hg 1 (by omega))
 have f2 := ptB_fx (ptsB_at hg 2 (by omega))
 have f3 := ptB_fx (ptsB_at hg 3 (by omega))
 rcases nine h0 h1 with rfl | rfl | rfl | rfl | rfl | rfl | rfl | rfl | rfl
 ·exact icurve0 w b off c _ _ _ _ _ _ _ _ h4 f0.1 f0.2 f1.1 f1.2 f2.1 f2.2 f3.1 f3.2
 ·exact icurve1 w b off c _ _ _ _ _ _ _ _ h4 f0.1 f0.2 f1.1 f1.2 f2.1 f2.2 f3.1 f3.2
 ·exact icurve2 w b off c _ _ _ _ _ _ _ _ h4 f0.1 f0.2 f1.1 f1.2 f2.1 f2.2 f3.1 f3.2
 ·exact icurve3 w b off c _ _ _ _ _ _ _ _ h4 f0.1 f0.2 f1.1 f1.2 f2.1 f2.2 f3.1 f3.2
 ·exact icurve4 w b off c _ _ _ _ _ _ _ _ h4 f0.1 f0.2 f1.1 f1.2 f2.1 f2.2 f3.1 f3.2
 ·exact icurve5 w b off c _ _ _ _ _ _ _ _ h4 f0.1 f0.2 f1.1 f1.2 f2.1 f2.2 f3.1 f3.2
 ·exact icurve6 w b off c _ _ _ _ _ _ _ _ h4 f0.1 f0.2 f1.1 f1.2 f2.1 f2.2 f3.1 f3.2
 ·exact icurve7 w b off c _ _ _ _ _ _ _ _ h4 f0.1 f0.2 f1.1 f1.2 f2.1 f2.2 f3.1 f3.2
 ·exact icurve8 w b off c _ _ _ _ _ _ _ _ h4 f0.1 f0.2 f1.1 f1.2 f2.1 f2.2 f3.1 f3.2
end Go.Proofs.Ytdjemnbdaddegaa
