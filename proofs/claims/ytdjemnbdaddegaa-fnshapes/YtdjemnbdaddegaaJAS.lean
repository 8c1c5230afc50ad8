/-
  What the specification makes of a path; each theorem names i
-/
import Derived.Test.YtdjemnbdaddegaaJAR
import Derived.Test.YtdjemnbdaddegaaJAF
import Derived.Test.YtdjemnbdaddegaaJAN
import Derived.Test.YtdjemnbdaddegaaJAJ
import Derived.Test.YtdjemnbdaddegaaJAK
import Derived.Test.YtdjemnbdaddegaaJAB
import Derived.Deep.RegionHeld3
import Derived.Test.YtdjemnbdaddegaaJAA
namespace Go.Proofs.Ytdjemnbdaddegaa
open Go.ChangeShapes Go.WideShapes Go.ChangeAt Go.RowKit
set_option linter.unusedVariables false
set_option maxRecDepth 100000 in
set_option maxHeartbeats 8000000 in
theorem shape_path (w : World) (nm tx : ByteArray) (up : Int) (a : Option Addr) (n c : Nat) (hn : n ≤ 1000) (hr : AtR w a n) (hnm : nm = ⟨#[112, 97, 116, 104]⟩) :
  Calls Try.prog 84 #[.agg #[.string nm, .int .i64 up, .slice a n c, .string tx]] w fun e w' => LinesS w e w' := by
 subst hnm
 obtain ⟨W, hW⟩ : ∃ W, w.alloc (.cells #[.string ⟨#[112, 97, 116, 104]⟩, .int .i64 up, .slice a n c, .string tx] 131) = W := ⟨_, rfl⟩
 have NW : Hid (Nw w W) := by show Nw _ _; rw [← hW]; exact (Below.refl _ _).alloc (Nat.le_refl _) _
 have ND : Hid (NdB W w.heap.size ⟨#[112, 97, 116, 104]⟩ tx up a n c) := by show NdB _ _ _ _ _ _ _ _; rw [← hW]; exact NdB.new w _ tx up a n c _ hr
 have HW : Hid (_ = W) := hW
 obtain ⟨R, hR⟩ : ∃ R, w.heap.size = R := ⟨_, rfl⟩
 have HR : Hid (w.heap.size = R) := hR
 rw [hR] at ND
 clear hW hr hR
 go_enter Try.func84, Try.ntmps84
 go_upto_region 1 with fail
 rw [HW.out, HR.out]
 clear HW
 obtain ⟨y0, y1, y2, y3, _, _⟩ := ND.out
 go_wp2_with fail
 refine (sattr_some W _ tx ⟨#[100]⟩ up a n c hn ND.out.2.2.2.2.1).mono ?_
 rintro e w1 ⟨y, ok, rfl, hy, k1⟩
 have N1 : Hid (Nw w w1) := NW.out.trans k1
 have D1 : Hid (NdB w1 R _ tx up a n c) := ND.out.nw k1
 clear k1
 clear y0 y1 y2 y3
 go_wp2_with fail
 refine (rpath_some y _ (by omega)).mono ?_
 rintro e w2 ⟨sa, sc, l, ok2, rfl, hst, hl6, hk6, k2⟩
 have N2 : Hid (Nw w w2) := N1.out.trans k2
 have HST : Hid (Steps w2 sa l) := hst
 have HK6 : Hid (∀ i, i < l.length → (stAt l i).ns.length ≤ 6) := hk6
 clear hst hk6 k2
 cases ok2 with
 | false =>
  go_wp2
  go_ret2
  exact LinesS.nil N2.out false
 | true =>
  go_wp2_with fail
  refine (linesOf_some w2 sa sc l hl6 HK6.out HST.out).mono ?_
  rintro e w5 ⟨la, lc, ll, okk, rfl, hll, hl1, hl2, hk5⟩
  have HLL : Hid (LinesS w (.returned (.tuple #[.slice la ll.length lc, .bool okk])) w5) := ⟨la, lc, ll, okk, rfl, hll.mono (Below.size N2.out), hl1, hl2, N2.out.trans hk5⟩
  clear hll hl1 hl2 hk5
  go_wp2
  go_ret2
  exact HLL.out
theorem shape_some (w : World) (nm tx : ByteArray) (up : Int) (a : Option Addr) (n c : Nat) (hn : n ≤ 1000) (hr : AtR w a n) :
  Calls Try.prog 84 #[.agg #[.string nm, .int .i64 up, .slice a n c, .string tx]] w fun e w' => LinesS w e w' := by
 by_cases h0 : nm = ⟨#[114, 101, 99, 116]⟩
 ·exact shape_rect w nm tx up a n c hn hr h0
 by_cases h1 : nm = ⟨#[99, 105, 114, 99, 108, 101]⟩
 ·exact shape_circle w nm tx up a n c hn hr h1
 by_cases h2 : nm = ⟨#[101, 108, 108, 105, 112, 115, 101]⟩
 ·exact shape_ellipse w nm tx up a n c hn hr h2
 by_cases h3 : nm = ⟨#[108, 105, 110, 101]⟩
 ·exact shape_line w nm tx up a n c hn hr h3
 by_cases h4 : nm = ⟨#[112, 111, 108, 121, 108, 105, 110, 101]⟩
 ·exact shape_polyline w nm tx up a n c hn hr h4
 by_cases h5 : nm = ⟨#[112, 111, 108, 121, 103, 111, 110]⟩
 ·exact shape_polygon w nm tx up a n c hn hr h5
 by_cases h6 : nm = ⟨#[112, 97, 116, 104]⟩
 ·exact shape_path w nm tx up a n c hn hr h6
 exact shape_none w nm tx up a n c hn hr h0 h1 h2 h3 h4 h5 h6
theorem PtsF.gr {lo B : Nat} {w w' : World} {a : Option Addr} {l : List Pnt} (h : PtsF lo w a l) (k : Gr B w w') (hB : B < lo) : PtsF lo w' a l := by
 rcases h with h | ⟨b, off, e, h1, hb, hc⟩
 ·exact Or.inl h
 ·exact Or.inr ⟨b, off, e, h1, Nat.lt_of_lt_of_le hb k.size, fun i hi => ⟨(k.cell hb (by omega) _).trans (hc i hi).1, (k.cell hb (by omega) _).trans (hc i hi).2⟩⟩
def LnsD (w : World) (B : Nat) (e : Ending) (w' : World) : Prop := ∃ (a : Option Addr) (c : Nat) (l : List LD), e = .returned (.slice a l.length c) ∧ LinesF w.heap.size w' a l ∧ l.length ≤ 1000 ∧ manyL l ≤ 10000 ∧ Gr B w w'
set_option maxRecDepth 100000 in
set_option maxHeartbeats 8000000 in
theorem linesOf_any (w : World) (B : Nat) (ca : Option Addr) (len cap n : Nat) (hl : len ≤ 9223372036854775807) (hn : n ≤ 300000) (hc : Cur w B ca len cap n) (hd : Code w B ca len) :
  Calls Try.prog 49 #[.pointer (some ⟨B, 0, none⟩)] w fun e w' => LnsD w B e w' ∧ Cur w' B ca len cap (n + 4000) := by
 have hB := hc.lt
 have HB : Hid (B < w.heap.size) := hB
 have C0 : Hid (Cur w B ca len cap n) := hc
 have DC : Hid (∀ w', Gr B w w' → Code w' B ca len) := fun w' h => Code.below hd (h.below (by omega))
 clear hc hd hB
 go_enter Try.func49, Try.ntmps49
 go_wp2_with fail
 refine (shapeNode_any w B ca len cap n hl (by omega) C0.out (DC.out _ (Gr.refl _ _))).mono ?_
 rintro e w1 ⟨⟨nm, tx, up, a, m, c, rfl, hm, hat, hg⟩, hc⟩
 have C1 : Hid (Cur w1 B ca len cap (n + 3000)) := hc
 have G1 : Hid (Gr B w w1) := hg
 have AT : Hid (AtR w1 a m) := hat
 clear hc hg hat C0
 go_wp2_with fail
 refine (shape_some w1 nm tx up a m c hm AT.out).mono ?_
 rintro e w2 ⟨la, lc, l, ok, rfl, hln, hl1, hl2, hk⟩
 have C2 : Hid (Cur w2 B ca len cap (n + 3000)) := C1.out.nw hk
 have G2 : Hid (Gr B w w2) := G1.out.trans (Gr.of_nw hk)
 have HLN : Hid (LinesF w.heap.size w2 la l) := hln.mono G1.out.size
 clear hk hln C1 G1 AT
 cases ok with
 | true =>
  go_wp2
  go_ret
  exact ⟨⟨la, lc, l, rfl, HLN.out, hl1, hl2, G2.out⟩, C2.out.mono (by omega)⟩
 | false =>
  clear HLN
  go_wp2_with fail
  refine (point_any w2 B ca len cap _ hl (by omega) C2.out (DC.out _ G2.out)).mono ?_
  rintro e w3 ⟨⟨x0, y0, rfl⟩, hc, hg⟩
  have C3 : Hid (Cur w3 B ca len cap (n + 3042)) := hc
  have G3 : Hid (Gr B w w3) := G2.out.trans hg
  clear hc hg C2 G2
  go_wp2_with fail
  refine (point_any w3 B ca len cap _ hl (by omega) C3.out (DC.out _ G3.out)).mono ?_
  rintro e w4 ⟨⟨x1, y1, rfl⟩, hc, hg⟩
  have C4 : Hid (Cur w4 B ca len cap (n + 3084)) := hc
  have G4 : Hid (Gr B w w4) := G3.out.trans hg
  clear hc hg C3 G3
  go_wp2_with fail
  refine (point_any w4 B ca len cap _ hl (by omega) C4.out (DC.out _ G4.out)).mono ?_
  rintro e w5 ⟨⟨x2, y2, rfl⟩, hc, hg⟩
  have C5 : Hid (Cur w5 B ca len cap (n + 3126)) := hc
  have G5 : Hid (Gr B w w5) := G4.out.trans hg
  clear hc hg C4 G4
  obtain ⟨X, hX⟩ : ∃ X, w5.alloc (.cells #[.int .i64 x0, .int .i64 y0, .int .i64 x1, .int .i64 y1, .int .i64 x2, .int .i64 y2] 27) = X := ⟨_, rfl⟩
  obtain ⟨g, hg⟩ : ∃ g, w5.heap.size = g := ⟨_, rfl⟩
  have HP : Hid (PtsF w.heap.size X (some ⟨g, 0, none⟩) [(x0, y0), (x1, y1), (x2, y2)]) := by
   show PtsF _ _ _ _
   rw [← hX, ← hg]
   refine Or.inr ⟨w5.heap.size, 0, rfl, G5.out.size, by simp, fun i hi => ?_⟩
   rcases (show i = 0 ∨ i = 1 ∨ i = 2 by simp at hi; omega) with rfl | rfl | rfl <;> simp [ptAt]
  have CX : Hid (Cur X B ca len cap (n + 3126)) := by show Cur _ _ _ _ _ _; rw [← hX]; exact C5.out.alloc _ _
  have GX : Hid (Gr B w X) := by show Gr _ _ _; rw [← hX]; exact G5.out.alloc _
  have HX : Hid (_ = X) := hX
  clear hX C5 G5
  go_wp2_with fail
  rw [HX.out]
  clear HX hg
  refine (one_any X B ca len cap _ 2 hl (by omega) (by omega) (by omega) CX.out (DC.out _ GX.out)).mono ?_
  rintro e w6 ⟨b6, rfl, hc6, hb6⟩
  have C6 : Hid (Cur w6 B ca len cap (n + 3128)) := hc6
  have G6 : Hid (Gr B w w6) := GX.out.trans (Gr.of_sel hb6)
  have HP6 : Hid (PtsF w.heap.size w6 (some ⟨g, 0, none⟩) [(x0, y0), (x1, y1), (x2, y2)]) := HP.out.gr (Gr.of_sel hb6) HB.out
  clear hc6 hb6 CX GX HP
  go_wp2
  go_ret
  exact ⟨⟨_, 1, [⟨[(x0, y0), (x1, y1), (x2, y2)], b6⟩], rfl, lines_newly w.heap.size w6 _ 3 _ b6 G6.out.size HP6.out _, by simp, by simp [manyL], G6.out.alloc _⟩, (C6.out.alloc _ _).mono (by omega)⟩
set_option maxHeartbeats 400000 in
theorem smod_any (a b : Int) (w : World) (hb : 0 < b) (hb' : b ≤ 1000000000) (h1 : -4611686018427387904 ≤ a) (h2 : a ≤ 4611686018427387904) :
  Calls Try.prog 120 #[.int .i64 a, .int .i64 b] w fun e w' => e = .returned (.int .i64 (a % b)) ∧ w' = w := by
 have e := Int.emod_def a b
 have m1 := Int.emod_nonneg a (b := b) (by omega)
 have m2 := Int.emod_lt_of_pos a hb
 rw [e] at m1 m2 ⊢
 clear e
 go_enter Try.func120, Try.ntmps120
 go_wp2_with (go_at_call 104; refine (sdown_any _ _ _ (by omega) (by omega) (by omega) (by omega)).mono ?_; rintro e w' ⟨rfl, rfl⟩)
 go_ret
 exact ⟨rfl, rfl⟩
set_option maxHeartbeats 400000 in
theorem sturn_yes (d : Int) (w : World) (h1 : -1099511627776 ≤ d) (h2 : d ≤ 1099511627776) :
  Calls Try.prog 143 #[.int .i64 d] w fun e w' => e = .returned (.int .i64 ((d * 2048 + 5898240) / 11796480 % 4096)) ∧ w' = w := by
 go_enter Try.func143, Try.ntmps143
 go_wp2_with (first | (go_at_call 104; refine (sdown_any _ _ _ (by omega) (by omega) (by omega) (by omega)).mono ?_; rintro e w' ⟨rfl, rfl⟩) | (go_at_call 120; refine (smod_any _ _ _ (by omega) (by omega) (by omega) (by omega)).mono ?_; rintro e w' ⟨rfl, rfl⟩) | go_in)
 go_ret
 exact ⟨rfl, rfl⟩
set_option maxHeartbeats 400000 in
theorem sturn_no (d : Int) (w : World) (h : ¬ (-1099511627776 ≤ d ∧ d ≤ 1099511627776)) :
  Calls Try.prog 143 #[.int .i64 d] w fun e w' => e = .returned (.int .i64 0) ∧ w' = w := by
 by_cases h1 : -1099511627776 ≤ d
 ·have h2 : 1099511627776 < d := by omega
  have h3 : decide (d ≤ 1099511627776) = false := by simp; omega
  clear h
  go_enter Try.func143, Try.ntmps143
  go_wp2
  go_ret
  exact ⟨rfl, rfl⟩
 ·clear h
  go_enter Try.func143, Try.ntmps143
  go_wp2
  go_ret
  exact ⟨rfl, rfl⟩
def nearQ (a b : Int) : Int := if b < 0 then (2 * -a + -b) / (2 * -b) else (2 * a + b) / (2 * b)
def cutV (x least greatest : Int) : Int := max least (min x greatest)
theorem quot_uniq (m d r : Int) (hd : 0 < d) (h1 : r * d ≤ m) (h2 : m < (r + 1) * d) : m / d = r := by
 have a1 : r ≤ m / d := (Int.le_ediv_iff_mul_le hd).2 h1
 have a2 : m / d < r + 1 := (Int.ediv_lt_iff_lt_mul hd).2 h2
 omega
theorem quot_pos (m d r : Int) (hd : 0 < d) (h0 : 0 ≤ r) (h1 : r * d ≤ m) (h2 : r = 4398046511104 ∨ m < (r + 1) * d) :
  cutV (m / d) (-1099511627776) 1099511627776 = cutM r := by
 have a1 : r ≤ m / d := (Int.le_ediv_iff_mul_le hd).2 h1
 unfold cutV cutM
 rcases h2 with h2 | h2
 ·omega
 ·have := quot_uniq m d r hd h1 h2; omega
theorem quot_neg (m d r : Int) (hd : 0 < d) (h0 : 0 ≤ r) (h1 : r * d ≤ m) (h2 : r = 4398046511104 ∨ m < (r + 1) * d) :
  cutV (-(m / d)) (-1099511627776) 1099511627776 = cutM (-r) := by
 have a1 : r ≤ m / d := (Int.le_ediv_iff_mul_le hd).2 h1
 unfold cutV cutM
 rcases h2 with h2 | h2
 ·omega
 ·have := quot_uniq m d r hd h1 h2; omega
theorem neg_quot (m y : Int) (hy : 0 < y) : (y - 2 * m) / (2 * y) = -((2 * m + y - 1) / (2 * y)) := by
 have h1 := Int.mul_ediv_add_emod (2 * m + y - 1) (2 * y)
 have h2 := Int.emod_nonneg (2 * m + y - 1) (b := 2 * y) (by omega)
 have h3 := Int.emod_lt_of_pos (2 * m + y - 1) (b := 2 * y) (by omega)
 generalize (2 * m + y - 1) / (2 * y) = q at *
 generalize (2 * m + y - 1) % (2 * y) = r at *
 apply quot_uniq _ _ _ (by omega)
 ·rw [Int.neg_mul, Int.mul_comm q]; omega
 ·rw [Int.add_mul, Int.neg_mul, Int.mul_comm q]; omega
set_option maxHeartbeats 1000000 in
theorem sfixDiv_yes (a b : Int) (w : World) (a1 : -1099511627776 ≤ a) (a2 : a ≤ 1099511627776) (b1 : -1099511627776 ≤ b) (b2 : b ≤ 1099511627776) (b0 : b ≠ 0) :
  Calls Try.prog 144 #[.int .i64 a, .int .i64 b] w fun e w' => e = .returned (.int .i64 (cutV (nearQ (a * 65536) b) (-1099511627776) 1099511627776)) ∧ Kp w w' := by
 have hz : (b == 0) = false := by simpa using b0
 by_cases ha : a < 0
 ·have hda : decide (a < 0) = true := by simpa using ha
  by_cases hb : b < 0
  ·have hdb : decide (b < 0) = true := by simpa using hb
   have HE : Hid (nearQ (a * 65536) b = (2 * (-a * 65536) + -b) / (2 * -b)) := by show _ = _; unfold nearQ; rw [if_pos hb]; congr 1 <;> omega
   go_enter Try.func144, Try.ntmps144
   go_wp2_with (go_at_call 69; refine (sgoodQ_yes _ _ (by omega) (by omega)).mono ?_; rintro e w' ⟨rfl, rfl⟩)
   refine (abs_neg a _ (by omega) ha).mono ?_
   rintro e w' ⟨rfl, rfl⟩
   go_wp2_with fail
   refine (times_any (-a) 65536 _ (by omega) (by omega) (by omega) (by omega)).mono ?_
   rintro e w' ⟨rfl, c1, rfl⟩
   go_wp2_with fail
   refine (abs_neg b _ (by omega) hb).mono ?_
   rintro e w' ⟨rfl, rfl⟩
   go_wp2_with fail
   refine (near_pos (-a * 65536) (-b) _ (by omega) (by omega) (by omega) (by omega)).mono ?_
   rintro e w1 ⟨r, rfl, r0, r1, r2, r3, hk⟩
   have HR : Hid _ := quot_pos _ _ r (by omega) r0 r2 r3
   have HK : Hid _ := hk
   clear r2 r3 hk
   go_wp2
   go_ret
   exact ⟨ret_int (by rw [HE.out]; exact HR.out.symm), ((Kp.refl _).alloc _ _).trans HK.out⟩
  ·have hdb : decide (b < 0) = false := by simpa using hb
   have HE : Hid (nearQ (a * 65536) b = -((2 * (-a * 65536) + b - 1) / (2 * b))) := by show _ = _; rw [← neg_quot _ _ (by omega)]; unfold nearQ; rw [if_neg hb]; congr 1 <;> omega
   go_enter Try.func144, Try.ntmps144
   go_wp2_with (go_at_call 69; refine (sgoodQ_yes _ _ (by omega) (by omega)).mono ?_; rintro e w' ⟨rfl, rfl⟩)
   refine (abs_neg a _ (by omega) ha).mono ?_
   rintro e w' ⟨rfl, rfl⟩
   go_wp2_with fail
   refine (times_any (-a) 65536 _ (by omega) (by omega) (by omega) (by omega)).mono ?_
   rintro e w' ⟨rfl, c1, rfl⟩
   go_wp2_with fail
   refine (abs_nn b _ (by omega)).mono ?_
   rintro e w' ⟨rfl, rfl⟩
   go_wp2_with fail
   refine (near_neg (-a * 65536) (b) _ (by omega) (by omega) (by omega) (by omega)).mono ?_
   rintro e w1 ⟨r, rfl, r0, r1, r2, r3, hk⟩
   have HR : Hid _ := quot_neg _ _ r (by omega) r0 r2 r3
   have HK : Hid _ := hk
   clear r2 r3 hk
   go_wp2
   go_ret
   exact ⟨ret_int (by rw [HE.out]; exact HR.out.symm), ((Kp.refl _).alloc _ _).trans HK.out⟩
 ·have hda : decide (a < 0) = false := by simpa using ha
  by_cases hb : b < 0
  ·have hdb : decide (b < 0) = true := by simpa using hb
   have HE : Hid (nearQ (a * 65536) b = -((2 * (a * 65536) + -b - 1) / (2 * -b))) := by show _ = _; rw [← neg_quot _ _ (by omega)]; unfold nearQ; rw [if_pos hb]; congr 1 <;> omega
   go_enter Try.func144, Try.ntmps144
   go_wp2_with (go_at_call 69; refine (sgoodQ_yes _ _ (by omega) (by omega)).mono ?_; rintro e w' ⟨rfl, rfl⟩)
   refine (abs_nn a _ (by omega)).mono ?_
   rintro e w' ⟨rfl, rfl⟩
   go_wp2_with fail
   refine (times_any (a) 65536 _ (by omega) (by omega) (by omega) (by omega)).mono ?_
   rintro e w' ⟨rfl, c1, rfl⟩
   go_wp2_with fail
   refine (abs_neg b _ (by omega) hb).mono ?_
   rintro e w' ⟨rfl, rfl⟩
   go_wp2_with fail
   refine (near_neg (a * 65536) (-b) _ (by omega) (by omega) (by omega) (by omega)).mono ?_
   rintro e w1 ⟨r, rfl, r0, r1, r2, r3, hk⟩
   have HR : Hid _ := quot_neg _ _ r (by omega) r0 r2 r3
   have HK : Hid _ := hk
   clear r2 r3 hk
   go_wp2
   go_ret
   exact ⟨ret_int (by rw [HE.out]; exact HR.out.symm), ((Kp.refl _).alloc _ _).trans HK.out⟩
  ·have hdb : decide (b < 0) = false := by simpa using hb
   have HE : Hid (nearQ (a * 65536) b = (2 * (a * 65536) + b) / (2 * b)) := by show _ = _; unfold nearQ; rw [if_neg hb]
   go_enter Try.func144, Try.ntmps144
   go_wp2_with (go_at_call 69; refine (sgoodQ_yes _ _ (by omega) (by omega)).mono ?_; rintro e w' ⟨rfl, rfl⟩)
   refine (abs_nn a _ (by omega)).mono ?_
   rintro e w' ⟨rfl, rfl⟩
   go_wp2_with fail
   refine (times_any (a) 65536 _ (by omega) (by omega) (by omega) (by omega)).mono ?_
   rintro e w' ⟨rfl, c1, rfl⟩
   go_wp2_with fail
   refine (abs_nn b _ (by omega)).mono ?_
   rintro e w' ⟨rfl, rfl⟩
   go_wp2_with fail
   refine (near_pos (a * 65536) (b) _ (by omega) (by omega) (by omega) (by omega)).mono ?_
   rintro e w1 ⟨r, rfl, r0, r1, r2, r3, hk⟩
   have HR : Hid _ := quot_pos _ _ r (by omega) r0 r2 r3
   have HK : Hid _ := hk
   clear r2 r3 hk
   go_wp2
   go_ret
   exact ⟨ret_int (by rw [HE.out]; exact HR.out.symm), ((Kp.refl _).alloc _ _).trans HK.out⟩
theorem sfixDiv_no (a b : Int) (w : World) (h : ¬ (-1099511627776 ≤ a ∧ a ≤ 1099511627776)) :
  Calls Try.prog 144 #[.int .i64 a, .int .i64 b] w fun e w' => e = .returned (.int .i64 0) ∧ w' = w := by
 have H : Hid _ := h
 clear h
 go_enter Try.func144, Try.ntmps144
 go_wp2_with (go_at_call 69; refine (sgoodQ_no a _ H.out).mono ?_; rintro e w' ⟨rfl, rfl⟩)
 go_ret
 exact ⟨rfl, rfl⟩
theorem sfixDiv_no2 (a b : Int) (w : World) (a1 : -1099511627776 ≤ a) (a2 : a ≤ 1099511627776) (h : ¬ (-1099511627776 ≤ b ∧ b ≤ 1099511627776)) :
  Calls Try.prog 144 #[.int .i64 a, .int .i64 b] w fun e w' => e = .returned (.int .i64 0) ∧ w' = w := by
 have H : Hid _ := h
 clear h
 go_enter Try.func144, Try.ntmps144
 go_wp2_with fail
 refine (sgoodQ_yes a _ a1 a2).mono ?_; rintro e w' ⟨rfl, rfl⟩
 go_wp2_with fail
 refine (sgoodQ_no b _ H.out).mono ?_; rintro e w' ⟨rfl, rfl⟩
 go_wp2
 go_ret
 exact ⟨rfl, rfl⟩
theorem sfixDiv_no3 (a : Int) (w : World) (a1 : -1099511627776 ≤ a) (a2 : a ≤ 1099511627776) :
  Calls Try.prog 144 #[.int .i64 a, .int .i64 0] w fun e w' => e = .returned (.int .i64 0) ∧ w' = w := by
 go_enter Try.func144, Try.ntmps144
 go_wp2_with (go_at_call 69; refine (sgoodQ_yes _ _ (by omega) (by omega)).mono ?_; rintro e w' ⟨rfl, rfl⟩)
 go_ret
 exact ⟨rfl, rfl⟩
theorem keep6 {w w1 : World} (B : Nat) (a b c d e f a' b' c' d' e' f' : Int) (hB : B + 1 < w.heap.size) (k : Kp w w1)
  (h : w.cell? ⟨B, 0, none⟩ = some (.int .i64 a) ∧ w.cell? ⟨B, 1, none⟩ = some (.int .i64 b) ∧ w.cell? ⟨B, 2, none⟩ = some (.int .i64 c) ∧ w.cell? ⟨B, 3, none⟩ = some (.int .i64 d) ∧ w.cell? ⟨B, 4, none⟩ = some (.int .i64 e) ∧ w.cell? ⟨B, 5, none⟩ = some (.int .i64 f) ∧ w.cell? ⟨B + 1, 0, none⟩ = some (.int .i64 a') ∧ w.cell? ⟨B + 1, 1, none⟩ = some (.int .i64 b') ∧ w.cell? ⟨B + 1, 2, none⟩ = some (.int .i64 c') ∧ w.cell? ⟨B + 1, 3, none⟩ = some (.int .i64 d') ∧ w.cell? ⟨B + 1, 4, none⟩ = some (.int .i64 e') ∧ w.cell? ⟨B + 1, 5, none⟩ = some (.int .i64 f')) :
  w1.cell? ⟨B, 0, none⟩ = some (.int .i64 a) ∧ w1.cell? ⟨B, 1, none⟩ = some (.int .i64 b) ∧ w1.cell? ⟨B, 2, none⟩ = some (.int .i64 c) ∧ w1.cell? ⟨B, 3, none⟩ = some (.int .i64 d) ∧ w1.cell? ⟨B, 4, none⟩ = some (.int .i64 e) ∧ w1.cell? ⟨B, 5, none⟩ = some (.int .i64 f) ∧ w1.cell? ⟨B + 1, 0, none⟩ = some (.int .i64 a') ∧ w1.cell? ⟨B + 1, 1, none⟩ = some (.int .i64 b') ∧ w1.cell? ⟨B + 1, 2, none⟩ = some (.int .i64 c') ∧ w1.cell? ⟨B + 1, 3, none⟩ = some (.int .i64 d') ∧ w1.cell? ⟨B + 1, 4, none⟩ = some (.int .i64 e') ∧ w1.cell? ⟨B + 1, 5, none⟩ = some (.int .i64 f') := by
 have kc := (Kp.cells k).1
 obtain ⟨h0, h1, h2, h3, h4, h5, g0, g1, g2, g3, g4, g5⟩ := h
 refine ⟨?_, ?_, ?_, ?_, ?_, ?_, ?_, ?_, ?_, ?_, ?_, ?_⟩
 all_goals (rw [kc _ _ (by omega)]; assumption)
theorem keepS {w : World} (B : Nat) (a b c d e f a' b' c' d' e' f' : Int) (v0 v1 v2 v3 v4 v5 : Value)
  (h : w.cell? ⟨B, 0, none⟩ = some (.int .i64 a) ∧ w.cell? ⟨B, 1, none⟩ = some (.int .i64 b) ∧ w.cell? ⟨B, 2, none⟩ = some (.int .i64 c) ∧ w.cell? ⟨B, 3, none⟩ = some (.int .i64 d) ∧ w.cell? ⟨B, 4, none⟩ = some (.int .i64 e) ∧ w.cell? ⟨B, 5, none⟩ = some (.int .i64 f) ∧ w.cell? ⟨B + 1, 0, none⟩ = some (.int .i64 a') ∧ w.cell? ⟨B + 1, 1, none⟩ = some (.int .i64 b') ∧ w.cell? ⟨B + 1, 2, none⟩ = some (.int .i64 c') ∧ w.cell? ⟨B + 1, 3, none⟩ = some (.int .i64 d') ∧ w.cell? ⟨B + 1, 4, none⟩ = some (.int .i64 e') ∧ w.cell? ⟨B + 1, 5, none⟩ = some (.int .i64 f')) :
  ((((((w.setCell ⟨B + 1 + 1, 0, none⟩ v0).setCell ⟨B + 1 + 1, 1, none⟩ v1).setCell ⟨B + 1 + 1, 2, none⟩ v2).setCell ⟨B + 1 + 1, 3, none⟩ v3).setCell ⟨B + 1 + 1, 4, none⟩ v4).setCell ⟨B + 1 + 1, 5, none⟩ v5).cell? ⟨B, 0, none⟩ = some (.int .i64 a) ∧ ((((((w.setCell ⟨B + 1 + 1, 0, none⟩ v0).setCell ⟨B + 1 + 1, 1, none⟩ v1).setCell ⟨B + 1 + 1, 2, none⟩ v2).setCell ⟨B + 1 + 1, 3, none⟩ v3).setCell ⟨B + 1 + 1, 4, none⟩ v4).setCell ⟨B + 1 + 1, 5, none⟩ v5).cell? ⟨B, 1, none⟩ = some (.int .i64 b) ∧ ((((((w.setCell ⟨B + 1 + 1, 0, none⟩ v0).setCell ⟨B + 1 + 1, 1, none⟩ v1).setCell ⟨B + 1 + 1, 2, none⟩ v2).setCell ⟨B + 1 + 1, 3, none⟩ v3).setCell ⟨B + 1 + 1, 4, none⟩ v4).setCell ⟨B + 1 + 1, 5, none⟩ v5).cell? ⟨B, 2, none⟩ = some (.int .i64 c) ∧ ((((((w.setCell ⟨B + 1 + 1, 0, none⟩ v0).setCell ⟨B + 1 + 1, 1, none⟩ v1).setCell ⟨B + 1 + 1, 2, none⟩ v2).setCell ⟨B + 1 + 1, 3, none⟩ v3).setCell ⟨B + 1 + 1, 4, none⟩ v4).setCell ⟨B + 1 + 1, 5, none⟩ v5).cell? ⟨B, 3, none⟩ = some (.int .i64 d) ∧ ((((((w.setCell ⟨B + 1 + 1, 0, none⟩ v0).setCell ⟨B + 1 + 1, 1, none⟩ v1).setCell ⟨B + 1 + 1, 2, none⟩ v2).setCell ⟨B + 1 + 1, 3, none⟩ v3).setCell ⟨B + 1 + 1, 4, none⟩ v4).setCell ⟨B + 1 + 1, 5, none⟩ v5).cell? ⟨B, 4, none⟩ = some (.int .i64 e) ∧ ((((((w.setCell ⟨B + 1 + 1, 0, none⟩ v0).setCell ⟨B + 1 + 1, 1, none⟩ v1).setCell ⟨B + 1 + 1, 2, none⟩ v2).setCell ⟨B + 1 + 1, 3, none⟩ v3).setCell ⟨B + 1 + 1, 4, none⟩ v4).setCell ⟨B + 1 + 1, 5, none⟩ v5).cell? ⟨B, 5, none⟩ = some (.int .i64 f) ∧ ((((((w.setCell ⟨B + 1 + 1, 0, none⟩ v0).setCell ⟨B + 1 + 1, 1, none⟩ v1).setCell ⟨B + 1 + 1, 2, none⟩ v2).setCell ⟨B + 1 + 1, 3, none⟩ v3).setCell ⟨B + 1 + 1, 4, none⟩ v4).setCell ⟨B + 1 + 1, 5, none⟩ v5).cell? ⟨B + 1, 0, none⟩ = some (.int .i64 a') ∧ ((((((w.setCell ⟨B + 1 + 1, 0, none⟩ v0).setCell ⟨B + 1 + 1, 1, none⟩ v1).setCell ⟨B + 1 + 1, 2, none⟩ v2).setCell ⟨B + 1 + 1, 3, none⟩ v3).setCell ⟨B + 1 + 1, 4, none⟩ v4).setCell ⟨B + 1 + 1, 5, none⟩ v5).cell? ⟨B + 1, 1, none⟩ = some (.int .i64 b') ∧ ((((((w.setCell ⟨B + 1 + 1, 0, none⟩ v0).setCell ⟨B + 1 + 1, 1, none⟩ v1).setCell ⟨B + 1 + 1, 2, none⟩ v2).setCell ⟨B + 1 + 1, 3, none⟩ v3).setCell ⟨B + 1 + 1, 4, none⟩ v4).setCell ⟨B + 1 + 1, 5, none⟩ v5).cell? ⟨B + 1, 2, none⟩ = some (.int .i64 c') ∧ ((((((w.setCell ⟨B + 1 + 1, 0, none⟩ v0).setCell ⟨B + 1 + 1, 1, none⟩ v1).setCell ⟨B + 1 + 1, 2, none⟩ v2).setCell ⟨B + 1 + 1, 3, none⟩ v3).setCell ⟨B + 1 + 1, 4, none⟩ v4).setCell ⟨B + 1 + 1, 5, none⟩ v5).cell? ⟨B + 1, 3, none⟩ = some (.int .i64 d') ∧ ((((((w.setCell ⟨B + 1 + 1, 0, none⟩ v0).setCell ⟨B + 1 + 1, 1, none⟩ v1).setCell ⟨B + 1 + 1, 2, none⟩ v2).setCell ⟨B + 1 + 1, 3, none⟩ v3).setCell ⟨B + 1 + 1, 4, none⟩ v4).setCell ⟨B + 1 + 1, 5, none⟩ v5).cell? ⟨B + 1, 4, none⟩ = some (.int .i64 e') ∧ ((((((w.setCell ⟨B + 1 + 1, 0, none⟩ v0).setCell ⟨B + 1 + 1, 1, none⟩ v1).setCell ⟨B + 1 + 1, 2, none⟩ v2).setCell ⟨B + 1 + 1, 3, none⟩ v3).setCell ⟨B + 1 + 1, 4, none⟩ v4).setCell ⟨B + 1 + 1, 5, none⟩ v5).cell? ⟨B + 1, 5, none⟩ = some (.int .i64 f') := by
 obtain ⟨h0, h1, h2, h3, h4, h5, g0, g1, g2, g3, g4, g5⟩ := h
 refine ⟨?_, ?_, ?_, ?_, ?_, ?_, ?_, ?_, ?_, ?_, ?_, ?_⟩
 all_goals
  iterate 6 rw [World.cell?_setCell_other _ _ _ _ (fun h => by injection h; omega)]
  assumption
theorem keepZ {w w1 : World} (B : Nat) (hB : B < w.heap.size) (k : Kp w w1) (h : ∀ j, j < 6 → w.cell? ⟨B, j, none⟩ = some (.int .i64 0)) (hf : ∀ j, w.frozen? ⟨B, j, none⟩ = false) :
  (∀ j, j < 6 → w1.cell? ⟨B, j, none⟩ = some (.int .i64 0)) ∧ ∀ j, w1.frozen? ⟨B, j, none⟩ = false :=
 ⟨fun j hj => by rw [(Kp.cells k).1 _ _ hB]; exact h j hj, fun j => by rw [(Kp.cells k).2]; exact hf j⟩
theorem cells3a (w : World) (C1 C2 C3 : Array Value) (t : TypeId) (o : Nat) : (((w.alloc (.cells C1 t)).alloc (.cells C2 t)).alloc (.cells C3 t)).cell? ⟨w.heap.size, o, none⟩ = C1[o]? := by
 rw [World.cell?_alloc_past _ _ _ (by simp; omega), World.cell?_alloc_past _ _ _ (by simp), World.cell?_alloc_at _ _ _ _ rfl]
theorem cells3b (w : World) (C1 C2 C3 : Array Value) (t : TypeId) (o : Nat) : (((w.alloc (.cells C1 t)).alloc (.cells C2 t)).alloc (.cells C3 t)).cell? ⟨w.heap.size + 1, o, none⟩ = C2[o]? := by
 rw [World.cell?_alloc_past _ _ _ (by simp), World.cell?_alloc_at _ _ _ _ (by simp)]
theorem cells3c (w : World) (C1 C2 C3 : Array Value) (t : TypeId) (o : Nat) : (((w.alloc (.cells C1 t)).alloc (.cells C2 t)).alloc (.cells C3 t)).cell? ⟨w.heap.size + 1 + 1, o, none⟩ = C3[o]? := by
 rw [World.cell?_alloc_at _ _ _ _ (by simp)]
theorem cells3f (w : World) (C1 C2 C3 : Array Value) (t : TypeId) (o : Nat) : (((w.alloc (.cells C1 t)).alloc (.cells C2 t)).alloc (.cells C3 t)).frozen? ⟨w.heap.size + 1 + 1, o, none⟩ = false := by
 exact World.frozen?_alloc_at _ _ _ _ (by simp)
theorem kp3 (w : World) (C1 C2 C3 : Array Value) (t : TypeId) : Kp w (((w.alloc (.cells C1 t)).alloc (.cells C2 t)).alloc (.cells C3 t)) := (((Kp.refl w).alloc _ _).alloc _ _).alloc _ _
theorem six_set (w : World) (B : Nat) (v0 v1 v2 v3 v4 v5 : Value) (h : ∀ j, j < 6 → w.cell? ⟨B, j, none⟩ = some (.int .i64 0)) :
  ((((((w.setCell ⟨B, 0, none⟩ v0).setCell ⟨B, 1, none⟩ v1).setCell ⟨B, 2, none⟩ v2).setCell ⟨B, 3, none⟩ v3).setCell ⟨B, 4, none⟩ v4).setCell ⟨B, 5, none⟩ v5).cell? ⟨B, 0, none⟩ = some v0 ∧ ((((((w.setCell ⟨B, 0, none⟩ v0).setCell ⟨B, 1, none⟩ v1).setCell ⟨B, 2, none⟩ v2).setCell ⟨B, 3, none⟩ v3).setCell ⟨B, 4, none⟩ v4).setCell ⟨B, 5, none⟩ v5).cell? ⟨B, 1, none⟩ = some v1 ∧ ((((((w.setCell ⟨B, 0, none⟩ v0).setCell ⟨B, 1, none⟩ v1).setCell ⟨B, 2, none⟩ v2).setCell ⟨B, 3, none⟩ v3).setCell ⟨B, 4, none⟩ v4).setCell ⟨B, 5, none⟩ v5).cell? ⟨B, 2, none⟩ = some v2 ∧ ((((((w.setCell ⟨B, 0, none⟩ v0).setCell ⟨B, 1, none⟩ v1).setCell ⟨B, 2, none⟩ v2).setCell ⟨B, 3, none⟩ v3).setCell ⟨B, 4, none⟩ v4).setCell ⟨B, 5, none⟩ v5).cell? ⟨B, 3, none⟩ = some v3 ∧ ((((((w.setCell ⟨B, 0, none⟩ v0).setCell ⟨B, 1, none⟩ v1).setCell ⟨B, 2, none⟩ v2).setCell ⟨B, 3, none⟩ v3).setCell ⟨B, 4, none⟩ v4).setCell ⟨B, 5, none⟩ v5).cell? ⟨B, 4, none⟩ = some v4 ∧ ((((((w.setCell ⟨B, 0, none⟩ v0).setCell ⟨B, 1, none⟩ v1).setCell ⟨B, 2, none⟩ v2).setCell ⟨B, 3, none⟩ v3).setCell ⟨B, 4, none⟩ v4).setCell ⟨B, 5, none⟩ v5).cell? ⟨B, 5, none⟩ = some v5 := by
 refine ⟨?_, ?_, ?_, ?_, ?_, ?_⟩
 ·iterate 5 rw [World.cell?_setCell_other _ _ _ _ (fun h => by injection h; omega)]
  exact World.cell?_setCell_same _ ⟨B, 0, none⟩ _ (by exact h 0 (by omega))
 ·iterate 4 rw [World.cell?_setCell_other _ _ _ _ (fun h => by injection h; omega)]
  exact World.cell?_setCell_same _ ⟨B, 1, none⟩ _ (by (iterate 1 (rw [World.cell?_setCell_other _ _ _ _ (fun h => by injection h; omega)])); exact h 1 (by omega))
 ·iterate 3 rw [World.cell?_setCell_other _ _ _ _ (fun h => by injection h; omega)]
  exact World.cell?_setCell_same _ ⟨B, 2, none⟩ _ (by (iterate 2 (rw [World.cell?_setCell_other _ _ _ _ (fun h => by injection h; omega)])); exact h 2 (by omega))
 ·iterate 2 rw [World.cell?_setCell_other _ _ _ _ (fun h => by injection h; omega)]
  exact World.cell?_setCell_same _ ⟨B, 3, none⟩ _ (by (iterate 3 (rw [World.cell?_setCell_other _ _ _ _ (fun h => by injection h; omega)])); exact h 3 (by omega))
 ·iterate 1 rw [World.cell?_setCell_other _ _ _ _ (fun h => by injection h; omega)]
  exact World.cell?_setCell_same _ ⟨B, 4, none⟩ _ (by (iterate 4 (rw [World.cell?_setCell_other _ _ _ _ (fun h => by injection h; omega)])); exact h 4 (by omega))
 ·exact World.cell?_setCell_same _ ⟨B, 5, none⟩ _ (by (iterate 5 (rw [World.cell?_setCell_other _ _ _ _ (fun h => by injection h; omega)])); exact h 5 (by omega))
abbrev mulV (m : Int → Int → Int) (a b c d e f a' b' c' d' e' f' : Int) : Value :=
 affV (IntKind.i64.wrap (m a a' + m c b')) (IntKind.i64.wrap (m b a' + m d b')) (IntKind.i64.wrap (m a c' + m c d')) (IntKind.i64.wrap (m b c' + m d d')) (IntKind.i64.wrap (IntKind.i64.wrap (m a e' + m c f') + e)) (IntKind.i64.wrap (IntKind.i64.wrap (m b e' + m d f') + f))
set_option maxHeartbeats 4000000 in
theorem sl7mul (w : World) (a b c d e f a' b' c' d' e' f' : Int) (m : Int → Int → Int) (hS : ∀ x y w, Calls Try.prog 90 #[.int .i64 x, .int .i64 y] w fun e w' => e = .returned (.int .i64 (m x y)) ∧ Kp w w') :
  Calls Try.prog 131 #[affV a b c d e f, affV a' b' c' d' e' f'] w fun x w' => x = .returned (mulV m a b c d e f a' b' c' d' e' f') ∧ Kp w w' := by
 have HS : Hid _ := hS
 clear hS
 unfold mulV affV
 go_enter Try.func131, Try.ntmps131
 go_wp2_with fail
 generalize hW : ((w.alloc (.cells #[.int .i64 a, .int .i64 b, .int .i64 c, .int .i64 d, .int .i64 e, .int .i64 f] 31)).alloc (.cells #[.int .i64 a', .int .i64 b', .int .i64 c', .int .i64 d', .int .i64 e', .int .i64 f'] 31)).alloc (.cells #[.int .i64 0, .int .i64 0, .int .i64 0, .int .i64 0, .int .i64 0, .int .i64 0] 31) = W
 have hsz : W.heap.size = w.heap.size + 3 := by rw [← hW]; simp
 have hall : W.cell? ⟨w.heap.size, 0, none⟩ = some (.int .i64 a) ∧ W.cell? ⟨w.heap.size, 1, none⟩ = some (.int .i64 b) ∧ W.cell? ⟨w.heap.size, 2, none⟩ = some (.int .i64 c) ∧ W.cell? ⟨w.heap.size, 3, none⟩ = some (.int .i64 d) ∧ W.cell? ⟨w.heap.size, 4, none⟩ = some (.int .i64 e) ∧ W.cell? ⟨w.heap.size, 5, none⟩ = some (.int .i64 f) ∧ W.cell? ⟨w.heap.size + 1, 0, none⟩ = some (.int .i64 a') ∧ W.cell? ⟨w.heap.size + 1, 1, none⟩ = some (.int .i64 b') ∧ W.cell? ⟨w.heap.size + 1, 2, none⟩ = some (.int .i64 c') ∧ W.cell? ⟨w.heap.size + 1, 3, none⟩ = some (.int .i64 d') ∧ W.cell? ⟨w.heap.size + 1, 4, none⟩ = some (.int .i64 e') ∧ W.cell? ⟨w.heap.size + 1, 5, none⟩ = some (.int .i64 f') := by
  refine ⟨?_, ?_, ?_, ?_, ?_, ?_, ?_, ?_, ?_, ?_, ?_, ?_⟩
  all_goals (rw [← hW]; first | (rw [cells3a]; rfl) | (rw [cells3b]; rfl))
 have hz : ∀ j, j < 6 → W.cell? ⟨w.heap.size + 1 + 1, j, none⟩ = some (.int .i64 0) := fun j hj => by
  rw [← hW, cells3c]
  rcases (show j = 0 ∨ j = 1 ∨ j = 2 ∨ j = 3 ∨ j = 4 ∨ j = 5 by omega) with rfl | rfl | rfl | rfl | rfl | rfl <;> rfl
 have hf : ∀ j, W.frozen? ⟨w.heap.size + 1 + 1, j, none⟩ = false := fun j => by rw [← hW, cells3f]
 have HW : Hid (Kp w W) := by rw [← hW]; exact kp3 w _ _ _ _
 clear hW
 obtain ⟨B, hB⟩ : ∃ B, w.heap.size = B := ⟨_, rfl⟩
 have hB2 : Hid (w.heap.size ≤ B + 1 + 1) := (show _ ≤ _ by omega)
 rw [hB] at hsz hall hz hf ⊢
 have HZ : Hid _ := And.intro hz hf
 obtain ⟨h0, h1, h2, h3, h4, h5, g0, g1, g2, g3, g4, g5⟩ := hall
 have HK : Hid (Kp W W.drew) := (Kp.refl W).drew
 have HB : Hid (B + 1 < W.heap.size) := (show _ < _ by omega)
 have HB3 : Hid (B + 1 + 1 < W.heap.size) := (show _ < _ by omega)
 clear hsz
 simp only [List.append_eq, List.cons_append, List.nil_append]
 go_region_held3 (fun w' => w'.cell? ⟨B, 0, none⟩ = some (.int .i64 a) ∧ w'.cell? ⟨B, 1, none⟩ = some (.int .i64 b) ∧ w'.cell? ⟨B, 2, none⟩ = some (.int .i64 c) ∧ w'.cell? ⟨B, 3, none⟩ = some (.int .i64 d) ∧ w'.cell? ⟨B, 4, none⟩ = some (.int .i64 e) ∧ w'.cell? ⟨B, 5, none⟩ = some (.int .i64 f) ∧ w'.cell? ⟨B + 1, 0, none⟩ = some (.int .i64 a') ∧ w'.cell? ⟨B + 1, 1, none⟩ = some (.int .i64 b') ∧ w'.cell? ⟨B + 1, 2, none⟩ = some (.int .i64 c') ∧ w'.cell? ⟨B + 1, 3, none⟩ = some (.int .i64 d') ∧ w'.cell? ⟨B + 1, 4, none⟩ = some (.int .i64 e') ∧ w'.cell? ⟨B + 1, 5, none⟩ = some (.int .i64 f'))
  (first | with_reducible exact keep6 B a b c d e f a' b' c' d' e' f' HB.out HK.out ⟨h0, h1, h2, h3, h4, h5, g0, g1, g2, g3, g4, g5⟩ | with_reducible exact keepS B a b c d e f a' b' c' d' e' f' _ _ _ _ _ _ (keep6 B a b c d e f a' b' c' d' e' f' HB.out HK.out ⟨h0, h1, h2, h3, h4, h5, g0, g1, g2, g3, g4, g5⟩))
  (first | (go_at_call 90; refine (HS.out _ _ _).mono ?_; rintro e w' ⟨rfl, hk⟩; replace HK := (show Hid (Kp W w') from Kp.trans HK.out hk); clear hk hz hf; obtain ⟨hz, hf⟩ := keepZ (B + 1 + 1) HB3.out HK.out HZ.out.1 HZ.out.2))
 go_wp2
 obtain ⟨y0, y1, y2, y3, y4, y5⟩ := six_set w' (B + 1 + 1) (.int .i64 (IntKind.i64.wrap (m a a' + m c b'))) (.int .i64 (IntKind.i64.wrap (m b a' + m d b'))) (.int .i64 (IntKind.i64.wrap (m a c' + m c d'))) (.int .i64 (IntKind.i64.wrap (m b c' + m d d'))) (.int .i64 (IntKind.i64.wrap (IntKind.i64.wrap (m a e' + m c f') + e))) (.int .i64 (IntKind.i64.wrap (IntKind.i64.wrap (m b e' + m d f') + f))) hz
 refine bodyPost_ret (v := mulV m a b c d e f a' b' c' d' e' f') (by simp [results, Try.results131, go_sem, y0, y1, y2, y3, y4, y5]) rfl ⟨rfl, ?_⟩
 exact ((((((Kp.trans HW.out HK.out).setCell hB2.out _).setCell hB2.out _).setCell hB2.out _).setCell hB2.out _).setCell hB2.out _).setCell hB2.out _
end Go.Proofs.Ytdjemnbdaddegaa
