/-
  What the specification draws as a transform's text: some tex
-/
import Derived.Test.YtdjemnbdaddegaaJAB
import Derived.Test.YtdjemnbdaddegaaJAT
import Derived.Test.YtdjemnbdaddegaaJAE
import Derived.Test.YtdjemnbdaddegaaJAG
import Derived.Test.YtdjemnbdaddegaaJAA
namespace Go.Proofs.Ytdjemnbdaddegaa
open Go.ChangeShapes Go.WideShapes Go.ChangeAt Go.RowKit
set_option linter.unusedVariables false
set_option maxRecDepth 100000 in
set_option maxHeartbeats 8000000 in
theorem transformText_any (w : World) (B : Nat) (ca : Option Addr) (len cap n : Nat) (hl : len ≤ 9223372036854775807) (hn : n ≤ 10000000) (hc : Cur w B ca len cap n) (hd : Code w B ca len) :
  Calls Try.prog 83 #[.pointer (some ⟨B, 0, none⟩)] w fun e w' => TextDrawn 100 e ∧ Cur w' B ca len cap (n + 20) ∧ Gr B w w' := by
 have hB := hc.lt
 have HC0 : Hid (Cur w B ca len cap n) := hc
 have DC : Hid (∀ w', Gr B w w' → Code w' B ca len) := fun w' h => Code.below hd (h.below (by omega))
 clear hc hd hB
 go_enter Try.func83, Try.ntmps83
 go_wp2_with fail
 refine (pick_any w B ca len cap n 4 hl (by omega) (by omega) (by omega) HC0.out (DC.out _ (Gr.refl _ _))).mono ?_
 rintro e w1 ⟨v, rfl, v0, v1, hc1, hb1⟩
 have C1 : Hid (Cur w1 B ca len cap (n + 2)) := hc1
 have G1 : Hid (Gr B w w1) := Gr.of_sel hb1
 obtain ⟨m, rfl⟩ := Int.eq_ofNat_of_zero_le v0
 have hm2 : m ≤ 3 := by omega
 clear hc1 hb1 v0 v1 HC0
 go_wp2
 go_loopw [3, 4] (fun v i wr => ∃ (k : Nat) (s : ByteArray), i = .int .i64 (k : Int) ∧ v = .string s ∧ k ≤ 3 ∧ s.size + 23 * k ≤ 69 ∧ Cur wr B ca len cap (n + 2 + 4 * (3 - k)) ∧ Gr B w wr) (fun _ i _ => (intOf i).toNat)
 case atStart => exact ⟨m, ⟨#[]⟩, rfl, rfl, by omega, by have : (⟨#[]⟩ : ByteArray).size = 0 := rfl; omega, C1.out.mono (by omega), G1.out⟩
 case round =>
  obtain ⟨k, s, rfl, rfl, hk4, hsk, hcr, hgr⟩ := hrel
  have CR : Hid (Cur wr B ca len cap (n + 2 + 4 * (3 - k))) := hcr
  have GR : Hid (Gr B w wr) := hgr
  clear hcr hgr
  by_cases hk0 : 0 < k
  ·have dk : decide ((0 : Int) < (k : Int)) = true := by simp; omega
   obtain ⟨k2, hk2⟩ : ∃ k2, k = k2 + 1 := ⟨k - 1, by omega⟩
   subst hk2
   go_wp2_with fail
   refine (of_lit wr B 19 [⟨#[116, 114, 97, 110, 115, 108, 97, 116, 101, 40, 49, 32, 50, 41]⟩, ⟨#[116, 114, 97, 110, 115, 108, 97, 116, 101, 40, 45, 51, 46, 53, 41]⟩, ⟨#[115, 99, 97, 108, 101, 40, 50, 41]⟩, ⟨#[115, 99, 97, 108, 101, 40, 46, 53, 44, 51, 41]⟩, ⟨#[114, 111, 116, 97, 116, 101, 40, 57, 48, 41]⟩, ⟨#[114, 111, 116, 97, 116, 101, 40, 51, 48, 32, 49, 32, 49, 41]⟩, ⟨#[109, 97, 116, 114, 105, 120, 40, 49, 32, 48, 32, 48, 32, 49, 32, 53, 32, 54, 41]⟩, ⟨#[115, 107, 101, 119, 88, 40, 50, 48, 41]⟩, ⟨#[115, 107, 101, 119, 89, 40, 45, 49, 48, 41]⟩, ⟨#[114, 111, 116, 97, 116, 101, 40, 52, 53, 41]⟩] (by decide) 9 ca len cap _ hl (by omega) (by decide) (by decide) CR.out (DC.out _ GR.out)).mono ?_
   rintro e w3 ⟨x, rfl, hx, hc3, hg3⟩
   have C3 : Hid (Cur w3 B ca len cap (n + 2 + 4 * (3 - (k2 + 1)) + 2)) := hc3
   have G3 : Hid (Gr B w w3) := GR.out.trans hg3
   clear hc3 hg3
   go_wp2_with fail
   refine (of_lit w3 B 3 [⟨#[32]⟩, ⟨#[44]⟩, ⟨#[32, 44, 32]⟩, ⟨#[]⟩] (by decide) 9 ca len cap _ hl (by omega) (by decide) (by decide) C3.out (DC.out _ G3.out)).mono ?_
   rintro e w4 ⟨y, rfl, hy, hc4, hg4⟩
   have C4 : Hid (Cur w4 B ca len cap (n + 2 + 4 * (3 - (k2 + 1)) + 4)) := hc4
   have G4 : Hid (Gr B w w4) := G3.out.trans hg4
   clear hc4 hg4
   have a1 : x.size + y.size ≤ 9223372036854775807 := by omega
   have a2 : s.size + (x ++ y).size ≤ 9223372036854775807 := by rw [app_sz]; omega
   go_wp2
   go_roundw
   case rel => exact ⟨k2, s ++ (x ++ y), by go_num, rfl, by omega, by rw [app_sz, app_sz]; omega, C4.out.mono (by omega), G4.out⟩
   case measure => simp [intOf]
  ·have hk1 : k = 0 := by omega
   subst hk1
   go_wp2
   go_ret
   exact ⟨⟨s, rfl, by omega⟩, CR.out.mono (by omega), GR.out⟩
theorem SixE.gr {w w' : World} {b B : Nat} (h : SixE w b) (k : Gr B w w') (hne : b ≠ B) : SixE w' b := by
 obtain ⟨x, hx⟩ := h
 exact ⟨x, fun j hj => (k.cell hx.lt hne j).trans (hx.1 j hj), fun o => (k.frozen hx.lt hne o).trans (hx.2 o)⟩
set_option maxHeartbeats 4000000 in
theorem readT_some (H1 : OneS) (w : World) (s : ByteArray) (hs : s.size ≤ 600) :
  Calls Try.prog 82 #[.string s] w fun e w' => AffSome e ∧ Nw w w' := by
 have hd : decide (600 < (s.size : Int)) = false := decide_eq_false (by omega)
 obtain ⟨W0, hW0⟩ : ∃ W0, w.alloc (.cells #[.int .i64 0, .int .i64 0, .int .i64 0, .int .i64 0, .int .i64 0, .int .i64 0] 31) = W0 := ⟨_, rfl⟩
 have R0 : Hid (SixE W0 w.heap.size) := by show SixE _ _; rw [← hW0]; exact Six.new w 0 0 0 0 0 0 _
 have N0 : Hid (Nw w W0) := by show Nw _ _; rw [← hW0]; exact (Below.refl _ _).alloc (Nat.le_refl _) _
 have HW0 : Hid (_ = W0) := hW0
 clear hW0
 go_enter Try.func82, Try.ntmps82
 go_wp2_with fail
 rw [HW0.out]
 refine (l7trans_some H1 W0 s hs).mono ?_
 rintro e w1 ⟨⟨a, b, c, d, x, y, ok, rfl⟩, k1⟩
 have N1 : Hid (Nw w w1) := Nw.trans N0.out k1
 obtain ⟨z0, z1, z2, z3, z4, z5, q0, q1, q2, q3, q4, q5, qf⟩ := (R0.out.nw k1).get
 obtain ⟨t0, t1, t2, t3, t4, t5⟩ := sset6 w1 w.heap.size (.int .i64 a) (.int .i64 b) (.int .i64 c) (.int .i64 d) (.int .i64 x) (.int .i64 y) q0 q1 q2 q3 q4 q5
 clear k1
 go_wp2
 refine bodyPost_ret (v := .tuple #[.agg #[.int .i64 a, .int .i64 b, .int .i64 c, .int .i64 d, .int .i64 x, .int .i64 y], .bool ok]) (by simp [results, Try.results82, go_sem, t0, t1, t2, t3, t4, t5]) rfl ⟨⟨_, _, _, _, _, _, _, rfl⟩, nw_six N1.out (Nat.le_refl _) _ _ _ _ _ _⟩
def Aff1 (e : Ending) : Prop := ∃ a b c d x y : Int, e = .returned (.agg #[.int .i64 a, .int .i64 b, .int .i64 c, .int .i64 d, .int .i64 x, .int .i64 y])
set_option maxRecDepth 100000 in
set_option maxHeartbeats 8000000 in
theorem affine_any (H1 : OneS) (w : World) (B : Nat) (ca : Option Addr) (len cap n : Nat) (hl : len ≤ 9223372036854775807) (hn : n ≤ 1000000) (hc : Cur w B ca len cap n) (hd : Code w B ca len) :
  Calls Try.prog 48 #[.pointer (some ⟨B, 0, none⟩)] w fun e w' => Aff1 e ∧ Cur w' B ca len cap (n + 200) ∧ Gr B w w' := by
 have hB := hc.lt
 have HB : Hid (B < w.heap.size) := hB
 obtain ⟨W0, hW0⟩ : ∃ W0, w.alloc (.cells #[.int .i64 0, .int .i64 0, .int .i64 0, .int .i64 0, .int .i64 0, .int .i64 0] 31) = W0 := ⟨_, rfl⟩
 have R0 : Hid (SixE W0 w.heap.size) := by show SixE _ _; rw [← hW0]; exact Six.new w 0 0 0 0 0 0 _
 have C0 : Hid (Cur W0 B ca len cap n) := by show Cur _ _ _ _ _ _; rw [← hW0]; exact hc.alloc _ _
 have G0 : Hid (Gr B w W0) := by show Gr _ _ _; rw [← hW0]; exact (Gr.refl B w).alloc _
 have DC : Hid (∀ w', Gr B w w' → Code w' B ca len) := fun w' h => Code.below hd (h.below (by omega))
 have HW0 : Hid (_ = W0) := hW0
 have HNB : Hid (w.heap.size ≠ B) := by show _ ≠ _; omega
 clear hc hd hB hW0
 go_enter Try.func48, Try.ntmps48
 go_wp2_with fail
 rw [HW0.out]
 refine (one_any W0 B ca len cap n 2 hl (by omega) (by omega) (by omega) C0.out (DC.out _ G0.out)).mono ?_
 rintro e w1 ⟨b1, rfl, hc1, hb1⟩
 have R1 : Hid (SixE w1 w.heap.size) := R0.out.gr (Gr.of_sel hb1) HNB.out
 have C1 : Hid (Cur w1 B ca len cap (n + 2)) := hc1
 have G1 : Hid (Gr B w w1) := G0.out.trans (Gr.of_sel hb1)
 clear hc1 hb1 R0 C0 G0 HW0
 go_upto_if 6 with fail
 go_cut [] (fun wx => SixE wx w.heap.size ∧ Cur wx B ca len cap (n + 22) ∧ Gr B w wx)
 case first =>
  cases b1 with
  | false =>
   go_wp2
   go_meet
   exact ⟨R1.out, C1.out.mono (by omega), G1.out⟩
  | true =>
   go_wp2_with fail
   refine (transformText_any w1 B ca len cap _ hl (by omega) C1.out (DC.out _ G1.out)).mono ?_
   rintro e w2 ⟨⟨s, rfl, hs⟩, hc2, hg2⟩
   have R2 : Hid (SixE w2 w.heap.size) := R1.out.gr hg2 HNB.out
   have C2 : Hid (Cur w2 B ca len cap (n + 22)) := hc2
   have G2 : Hid (Gr B w w2) := G1.out.trans hg2
   clear hc2 hg2 R1 C1 G1
   go_wp2_with fail
   refine (readT_some H1 w2 s (by omega)).mono ?_
   rintro e w3 ⟨⟨a, b, c, d, x, y, ok, rfl⟩, k3⟩
   have R3 : Hid (SixE w3 w.heap.size) := R2.out.nw k3
   have C3 : Hid (Cur w3 B ca len cap (n + 22)) := C2.out.nw k3
   have G3 : Hid (Gr B w w3) := G2.out.trans (Gr.of_nw k3)
   clear k3 R2 C2 G2
   obtain ⟨W3, hW3⟩ : ∃ W3, w3.alloc (.cells #[.int .i64 a, .int .i64 b, .int .i64 c, .int .i64 d, .int .i64 x, .int .i64 y] 31) = W3 := ⟨_, rfl⟩
   have R4 : Hid (SixE W3 w.heap.size) := by show SixE _ _; rw [← hW3]; exact R3.out.nw ((Below.refl _ _).alloc (Nat.le_refl _) _)
   have C4 : Hid (Cur W3 B ca len cap (n + 22)) := by show Cur _ _ _ _ _ _; rw [← hW3]; exact C3.out.alloc _ _
   have G4 : Hid (Gr B w W3) := by show Gr _ _ _; rw [← hW3]; exact G3.out.alloc _
   have B4 : SixE W3 w3.heap.size := by rw [← hW3]; exact Six.new w3 _ _ _ _ _ _ _
   obtain ⟨e0, e1, e2, e3, e4, e5, x0, x1, x2, x3, x4, x5, xf⟩ := B4.get
   obtain ⟨z0, z1, z2, z3, z4, z5, q0, q1, q2, q3, q4, q5, qf⟩ := R4.out.get
   obtain ⟨t0, t1, t2, t3, t4, t5⟩ := sset6 W3 w.heap.size (.int .i64 e0) (.int .i64 e1) (.int .i64 e2) (.int .i64 e3) (.int .i64 e4) (.int .i64 e5) q0 q1 q2 q3 q4 q5
   go_upto_region 3 with fail
   cases ok with
   | true =>
    go_wp2
    refine bodyPost_ret (v := .agg #[.int .i64 e0, .int .i64 e1, .int .i64 e2, .int .i64 e3, .int .i64 e4, .int .i64 e5]) (by simp [results, Try.results48, go_sem, t0, t1, t2, t3, t4, t5]) rfl ⟨⟨_, _, _, _, _, _, rfl⟩, ?_, ?_⟩
    ·exact Cur.mono ((((((C4.out.set HNB.out _ _).set HNB.out _ _).set HNB.out _ _).set HNB.out _ _).set HNB.out _ _).set HNB.out _ _) (by omega)
    ·exact (((((G4.out.set (Nat.le_refl _) _ _).set (Nat.le_refl _) _ _).set (Nat.le_refl _) _ _).set (Nat.le_refl _) _ _).set (Nat.le_refl _) _ _).set (Nat.le_refl _) _ _
   | false =>
    clear t0 t1 t2 t3 t4 t5
    go_wp2
    go_meet
    exact ⟨R4.out, C4.out, G4.out⟩
 case rest =>
  obtain ⟨hr, hc, hg⟩ := hcut
  have R5 : Hid (SixE wc w.heap.size) := hr
  have C5 : Hid (Cur wc B ca len cap (n + 22)) := hc
  have G5 : Hid (Gr B w wc) := hg
  clear hr hc hg R1 C1 G1
  go_wp2_with fail
  refine (fixed_gr wc B ca len cap _ hl (by omega) C5.out (DC.out _ G5.out)).mono ?_
  rintro e w2 ⟨v0, rfl, _, hc, hg⟩
  have R6 : Hid (SixE w2 w.heap.size) := R5.out.gr hg HNB.out
  have C6 : Hid (Cur w2 B ca len cap (n + 42)) := hc
  have G6 : Hid (Gr B w w2) := G5.out.trans hg
  clear hc hg R5 C5 G5
  go_wp2_with fail
  refine (fixed_gr w2 B ca len cap _ hl (by omega) C6.out (DC.out _ G6.out)).mono ?_
  rintro e w3 ⟨v1, rfl, _, hc, hg⟩
  have R7 : Hid (SixE w3 w.heap.size) := R6.out.gr hg HNB.out
  have C7 : Hid (Cur w3 B ca len cap (n + 62)) := hc
  have G7 : Hid (Gr B w w3) := G6.out.trans hg
  clear hc hg R6 C6 G6
  go_wp2_with fail
  refine (fixed_gr w3 B ca len cap _ hl (by omega) C7.out (DC.out _ G7.out)).mono ?_
  rintro e w4 ⟨v2, rfl, _, hc, hg⟩
  have R8 : Hid (SixE w4 w.heap.size) := R7.out.gr hg HNB.out
  have C8 : Hid (Cur w4 B ca len cap (n + 82)) := hc
  have G8 : Hid (Gr B w w4) := G7.out.trans hg
  clear hc hg R7 C7 G7
  go_wp2_with fail
  refine (fixed_gr w4 B ca len cap _ hl (by omega) C8.out (DC.out _ G8.out)).mono ?_
  rintro e w5 ⟨v3, rfl, _, hc, hg⟩
  have R9 : Hid (SixE w5 w.heap.size) := R8.out.gr hg HNB.out
  have C9 : Hid (Cur w5 B ca len cap (n + 102)) := hc
  have G9 : Hid (Gr B w w5) := G8.out.trans hg
  clear hc hg R8 C8 G8
  go_wp2_with fail
  refine (fixed_gr w5 B ca len cap _ hl (by omega) C9.out (DC.out _ G9.out)).mono ?_
  rintro e w6 ⟨v4, rfl, _, hc, hg⟩
  have R10 : Hid (SixE w6 w.heap.size) := R9.out.gr hg HNB.out
  have C10 : Hid (Cur w6 B ca len cap (n + 122)) := hc
  have G10 : Hid (Gr B w w6) := G9.out.trans hg
  clear hc hg R9 C9 G9
  go_wp2_with fail
  refine (fixed_gr w6 B ca len cap _ hl (by omega) C10.out (DC.out _ G10.out)).mono ?_
  rintro e w7 ⟨v5, rfl, _, hc, hg⟩
  have R11 : Hid (SixE w7 w.heap.size) := R10.out.gr hg HNB.out
  have C11 : Hid (Cur w7 B ca len cap (n + 142)) := hc
  have G11 : Hid (Gr B w w7) := G10.out.trans hg
  clear hc hg R10 C10 G10
  obtain ⟨z0, z1, z2, z3, z4, z5, q0, q1, q2, q3, q4, q5, qf⟩ := R11.out.get
  obtain ⟨t0, t1, t2, t3, t4, t5⟩ := sset6 w7 w.heap.size (.int .i64 (v0 / 256)) (.int .i64 (v1 / 256)) (.int .i64 (v2 / 256)) (.int .i64 (v3 / 256)) (.int .i64 (v4 / 256)) (.int .i64 (v5 / 256)) q0 q1 q2 q3 q4 q5
  go_wp2
  refine bodyPost_ret (v := .agg #[.int .i64 (v0 / 256), .int .i64 (v1 / 256), .int .i64 (v2 / 256), .int .i64 (v3 / 256), .int .i64 (v4 / 256), .int .i64 (v5 / 256)]) (by simp [results, Try.results48, go_sem, t0, t1, t2, t3, t4, t5]) rfl ⟨⟨_, _, _, _, _, _, rfl⟩, ?_, ?_⟩
  ·exact Cur.mono ((((((C11.out.set HNB.out _ _).set HNB.out _ _).set HNB.out _ _).set HNB.out _ _).set HNB.out _ _).set HNB.out _ _) (by omega)
  ·exact (((((G11.out.set (Nat.le_refl _) _ _).set (Nat.le_refl _) _ _).set (Nat.le_refl _) _ _).set (Nat.le_refl _) _ _).set (Nat.le_refl _) _ _).set (Nat.le_refl _) _ _
set_option maxRecDepth 100000 in
set_option maxHeartbeats 16000000 in
theorem one_A (w : World) (word : ByteArray) (va : Option Addr) (vc : Nat) (l : List Int) (hl : l.length ≤ 60) (hn : Nms w va l) (hkn : Kn word l true false false false false false true false false false ∨ Kn word l true false false false false false false true false false ∨ Kn word l false true false false false false true false false false ∨ Kn word l false true false false false false false true false false) :
  Calls Try.prog 130 #[.string word, .slice va l.length vc] w fun e w' => AffSome e ∧ Nw w w' := by
 have HN : Hid (Nms w va l) := hn
 clear hn
 obtain ⟨W0, hW0⟩ : ∃ W0, w.alloc (.cells #[.int .i64 0, .int .i64 0, .int .i64 0, .int .i64 0, .int .i64 0, .int .i64 0] 31) = W0 := ⟨_, rfl⟩
 have HW0 : Hid (_ = W0) := hW0
 clear hW0
 go_enter Try.func130, Try.ntmps130
 go_wp2_with fail
 rw [HW0.out]
 refine (ssame W0).mono ?_
 rintro e w1 ⟨rfl, h1⟩
 have HO : Hid (OS w _ w1.heap.size) := OS.start w W0 w1 HW0.out h1
 clear h1 HW0
 obtain ⟨W, hW⟩ : ∃ W, w1.alloc (.cells #[.int .i64 65536, .int .i64 0, .int .i64 0, .int .i64 65536, .int .i64 0, .int .i64 0] 31) = W := ⟨_, rfl⟩
 have HW : Hid (_ = W) := hW
 rw [hW] at HO
 clear hW
 go_upto_block 0 with fail
 rw [HW.out]
 clear HW
 generalize w1.heap.size = P at *
 clear w1
 go_cut [] (fun wx => OS w wx P)
 case first =>
  rcases hkn with h | h | h | h
  ·have hk : l.length = 1 := by have := h.k1; simp at this; omega
   obtain ⟨c0, c1, c2, c3, c4, c5, k1, k2, k3, k6⟩ := h
   obtain ⟨g, rfl, hg, n0⟩ := HN.out 0 (by omega)
   have b0 : (0 : Int) < (l.length : Int) := by omega
   have hgP : g ≠ P := by have := HO.out.hP; omega
   have m0 := ((bcell HO.out.nw).1 _ 0 hg).trans n0
   clear hk
   obtain ⟨a0, a1, a2, a3, a4, a5, y0, y1, y2, y3, y4, y5, yf⟩ := HO.out.p.get
   have HE : Hid _ := HO.out.set 4 (intAt l 0) (by omega)
   go_wp2
   go_meet
   exact HE.out
  ·have hk : l.length = 2 := by have := h.k2; simp at this; omega
   obtain ⟨c0, c1, c2, c3, c4, c5, k1, k2, k3, k6⟩ := h
   obtain ⟨g, rfl, hg, n0⟩ := HN.out 0 (by omega)
   have b0 : (0 : Int) < (l.length : Int) := by omega
   have hgP : g ≠ P := by have := HO.out.hP; omega
   have m0 := ((bcell HO.out.nw).1 _ 0 hg).trans n0
   obtain ⟨g1, e1, _, n1⟩ := HN.out 1 (by omega)
   injection e1 with e1; injection e1 with e1; subst e1
   have b1 : (1 : Int) < (l.length : Int) := by omega
   have m1 := ((bcell HO.out.nw).1 _ 1 hg).trans n1
   clear hk
   obtain ⟨a0, a1, a2, a3, a4, a5, y0, y1, y2, y3, y4, y5, yf⟩ := HO.out.p.get
   have m1q : (W.setCell ⟨P, 4, none⟩ (.int .i64 (intAt l 0))).cell? ⟨g, 1, none⟩ = some (.int .i64 (intAt l 1)) := (World.cell?_setCell_other _ _ _ _ (fun e => by injection e; omega)).trans m1
   have HE : Hid _ := (HO.out.set 4 (intAt l 0) (by omega)).set 5 (intAt l 1) (by omega)
   go_wp2
   go_meet
   exact HE.out
  ·have hk : l.length = 1 := by have := h.k1; simp at this; omega
   obtain ⟨c0, c1, c2, c3, c4, c5, k1, k2, k3, k6⟩ := h
   obtain ⟨g, rfl, hg, n0⟩ := HN.out 0 (by omega)
   have b0 : (0 : Int) < (l.length : Int) := by omega
   have hgP : g ≠ P := by have := HO.out.hP; omega
   have m0 := ((bcell HO.out.nw).1 _ 0 hg).trans n0
   clear hk
   obtain ⟨a0, a1, a2, a3, a4, a5, y0, y1, y2, y3, y4, y5, yf⟩ := HO.out.p.get
   have m0q : (W.setCell ⟨P, 0, none⟩ (.int .i64 (intAt l 0))).cell? ⟨g, 0, none⟩ = some (.int .i64 (intAt l 0)) := (World.cell?_setCell_other _ _ _ _ (fun e => by injection e; omega)).trans m0
   have HE : Hid _ := (HO.out.set 0 (intAt l 0) (by omega)).set 3 (intAt l 0) (by omega)
   go_wp2
   go_meet
   exact HE.out
  ·have hk : l.length = 2 := by have := h.k2; simp at this; omega
   obtain ⟨c0, c1, c2, c3, c4, c5, k1, k2, k3, k6⟩ := h
   obtain ⟨g, rfl, hg, n0⟩ := HN.out 0 (by omega)
   have b0 : (0 : Int) < (l.length : Int) := by omega
   have hgP : g ≠ P := by have := HO.out.hP; omega
   have m0 := ((bcell HO.out.nw).1 _ 0 hg).trans n0
   obtain ⟨g1, e1, _, n1⟩ := HN.out 1 (by omega)
   injection e1 with e1; injection e1 with e1; subst e1
   have b1 : (1 : Int) < (l.length : Int) := by omega
   have m1 := ((bcell HO.out.nw).1 _ 1 hg).trans n1
   clear hk
   obtain ⟨a0, a1, a2, a3, a4, a5, y0, y1, y2, y3, y4, y5, yf⟩ := HO.out.p.get
   have m1q : (W.setCell ⟨P, 0, none⟩ (.int .i64 (intAt l 0))).cell? ⟨g, 1, none⟩ = some (.int .i64 (intAt l 1)) := (World.cell?_setCell_other _ _ _ _ (fun e => by injection e; omega)).trans m1
   have HE : Hid _ := (HO.out.set 0 (intAt l 0) (by omega)).set 3 (intAt l 1) (by omega)
   go_wp2
   go_meet
   exact HE.out
 case rest =>
  have OE : Hid (OS w wc P) := hcut
  clear hcut HO HN
  obtain ⟨a0, a1, a2, a3, a4, a5, y0, y1, y2, y3, y4, y5, yf⟩ := OE.out.p.get
  obtain ⟨z0, z1, z2, z3, z4, z5, q0, q1, q2, q3, q4, q5, qf⟩ := OE.out.r.get
  have hPl := OE.out.p.lt
  have hRl := OE.out.r.lt
  clear yf
  go_wp2_with fail
  go_region_with (go_at_call 54; refine (sgoodAff _ a0 a1 a2 a3 a4 a5).mono ?_; rintro e w9 ⟨rfl, k9⟩; have kk := bcell k9.nw; have v0 := (kk.1 _ 0 hPl).trans y0; have v1 := (kk.1 _ 1 hPl).trans y1; have v2 := (kk.1 _ 2 hPl).trans y2; have v3 := (kk.1 _ 3 hPl).trans y3; have v4 := (kk.1 _ 4 hPl).trans y4; have v5 := (kk.1 _ 5 hPl).trans y5; have s0 := (kk.1 _ 0 hRl).trans q0; have s1 := (kk.1 _ 1 hRl).trans q1; have s2 := (kk.1 _ 2 hRl).trans q2; have s3 := (kk.1 _ 3 hRl).trans q3; have s4 := (kk.1 _ 4 hRl).trans q4; have s5 := (kk.1 _ 5 hRl).trans q5; have sf := fun o => (kk.2 _ o hRl).trans (qf o); clear kk)
  all_goals
   have N9 : Hid (Nw w w9) := Nw.trans OE.out.nw (nw_und k9.nw)
   obtain ⟨t0, t1, t2, t3, t4, t5⟩ := sset6 w9 w.heap.size (.int .i64 a0) (.int .i64 a1) (.int .i64 a2) (.int .i64 a3) (.int .i64 a4) (.int .i64 a5) s0 s1 s2 s3 s4 s5
   go_wp2
   refine bodyPost_ret (v := .tuple #[.agg #[.int .i64 a0, .int .i64 a1, .int .i64 a2, .int .i64 a3, .int .i64 a4, .int .i64 a5], .bool (gA a0 a1 a2 a3 a4 a5)]) (by simp [results, Try.results130, go_sem, t0, t1, t2, t3, t4, t5]) rfl ⟨⟨_, _, _, _, _, _, _, rfl⟩, nw_six N9.out (Nat.le_refl _) _ _ _ _ _ _⟩
set_option maxRecDepth 100000 in
set_option maxHeartbeats 16000000 in
theorem one_K (w : World) (word : ByteArray) (va : Option Addr) (vc : Nat) (l : List Int) (hl : l.length ≤ 60) (hn : Nms w va l) (hkn : Kn word l false false false false true false true false false false ∨ Kn word l false false false false false true true false false false) :
  Calls Try.prog 130 #[.string word, .slice va l.length vc] w fun e w' => AffSome e ∧ Nw w w' := by
 have HN : Hid (Nms w va l) := hn
 clear hn
 obtain ⟨W0, hW0⟩ : ∃ W0, w.alloc (.cells #[.int .i64 0, .int .i64 0, .int .i64 0, .int .i64 0, .int .i64 0, .int .i64 0] 31) = W0 := ⟨_, rfl⟩
 have HW0 : Hid (_ = W0) := hW0
 clear hW0
 go_enter Try.func130, Try.ntmps130
 go_wp2_with fail
 rw [HW0.out]
 refine (ssame W0).mono ?_
 rintro e w1 ⟨rfl, h1⟩
 have HO : Hid (OS w _ w1.heap.size) := OS.start w W0 w1 HW0.out h1
 clear h1 HW0
 obtain ⟨W, hW⟩ : ∃ W, w1.alloc (.cells #[.int .i64 65536, .int .i64 0, .int .i64 0, .int .i64 65536, .int .i64 0, .int .i64 0] 31) = W := ⟨_, rfl⟩
 have HW : Hid (_ = W) := hW
 rw [hW] at HO
 clear hW
 go_upto_block 0 with fail
 rw [HW.out]
 clear HW
 generalize w1.heap.size = P at *
 clear w1
 go_cut [] (fun wx => OS w wx P)
 case first =>
  rcases hkn with h | h
  ·have hk : l.length = 1 := by have := h.k1; simp at this; omega
   obtain ⟨c0, c1, c2, c3, c4, c5, k1, k2, k3, k6⟩ := h
   obtain ⟨g, rfl, hg, n0⟩ := HN.out 0 (by omega)
   have b0 : (0 : Int) < (l.length : Int) := by omega
   have hgP : g ≠ P := by have := HO.out.hP; omega
   have m0 := ((bcell HO.out.nw).1 _ 0 hg).trans n0
   clear hk
   obtain ⟨a0, a1, a2, a3, a4, a5, y0, y1, y2, y3, y4, y5, yf⟩ := HO.out.p.get
   obtain ⟨t, ht, hT⟩ := turn_some (intAt l 0)
   obtain ⟨sv, hS⟩ := sin_some t ht
   obtain ⟨cv, hC⟩ := cos_some t ht
   obtain ⟨dv, hD⟩ := div_some sv cv
   have HT : Hid _ := hT
   have HS : Hid _ := hS
   have HC : Hid _ := hC
   have HD : Hid _ := hD
   clear hT hS hC hD ht
   go_wp2_with fail
   refine (HT.out W).mono ?_
   rintro e w2 ⟨rfl, hq⟩
   have hq2 := hq.symm; clear hq; subst hq2
   go_wp2_with fail
   refine (HS.out W).mono ?_
   rintro e w3 ⟨rfl, k3'⟩
   have O3 : Hid (OS w w3 P) := HO.out.go k3'.nw
   clear k3'
   go_wp2_with fail
   refine (HC.out w3).mono ?_
   rintro e w4 ⟨rfl, k4'⟩
   have O4 : Hid (OS w w4 P) := O3.out.go k4'.nw
   clear k4'
   go_wp2_with fail
   refine (HD.out w4).mono ?_
   rintro e w5 ⟨rfl, k5'⟩
   have O5 : Hid (OS w w5 P) := O4.out.go k5'.nw
   clear k5' y0 y1 y2 y3 y4 y5 yf
   obtain ⟨a0, a1, a2, a3, a4, a5, y0, y1, y2, y3, y4, y5, yf⟩ := O5.out.p.get
   have HE : Hid _ := O5.out.set 2 dv (by omega)
   go_wp2
   go_meet
   exact HE.out
  ·have hk : l.length = 1 := by have := h.k1; simp at this; omega
   obtain ⟨c0, c1, c2, c3, c4, c5, k1, k2, k3, k6⟩ := h
   obtain ⟨g, rfl, hg, n0⟩ := HN.out 0 (by omega)
   have b0 : (0 : Int) < (l.length : Int) := by omega
   have hgP : g ≠ P := by have := HO.out.hP; omega
   have m0 := ((bcell HO.out.nw).1 _ 0 hg).trans n0
   clear hk
   obtain ⟨a0, a1, a2, a3, a4, a5, y0, y1, y2, y3, y4, y5, yf⟩ := HO.out.p.get
   obtain ⟨t, ht, hT⟩ := turn_some (intAt l 0)
   obtain ⟨sv, hS⟩ := sin_some t ht
   obtain ⟨cv, hC⟩ := cos_some t ht
   obtain ⟨dv, hD⟩ := div_some sv cv
   have HT : Hid _ := hT
   have HS : Hid _ := hS
   have HC : Hid _ := hC
   have HD : Hid _ := hD
   clear hT hS hC hD ht
   go_wp2_with fail
   refine (HT.out W).mono ?_
   rintro e w2 ⟨rfl, hq⟩
   have hq2 := hq.symm; clear hq; subst hq2
   go_wp2_with fail
   refine (HS.out W).mono ?_
   rintro e w3 ⟨rfl, k3'⟩
   have O3 : Hid (OS w w3 P) := HO.out.go k3'.nw
   clear k3'
   go_wp2_with fail
   refine (HC.out w3).mono ?_
   rintro e w4 ⟨rfl, k4'⟩
   have O4 : Hid (OS w w4 P) := O3.out.go k4'.nw
   clear k4'
   go_wp2_with fail
   refine (HD.out w4).mono ?_
   rintro e w5 ⟨rfl, k5'⟩
   have O5 : Hid (OS w w5 P) := O4.out.go k5'.nw
   clear k5' y0 y1 y2 y3 y4 y5 yf
   obtain ⟨a0, a1, a2, a3, a4, a5, y0, y1, y2, y3, y4, y5, yf⟩ := O5.out.p.get
   have HE : Hid _ := O5.out.set 1 dv (by omega)
   go_wp2
   go_meet
   exact HE.out
 case rest =>
  have OE : Hid (OS w wc P) := hcut
  clear hcut HO HN
  obtain ⟨a0, a1, a2, a3, a4, a5, y0, y1, y2, y3, y4, y5, yf⟩ := OE.out.p.get
  obtain ⟨z0, z1, z2, z3, z4, z5, q0, q1, q2, q3, q4, q5, qf⟩ := OE.out.r.get
  have hPl := OE.out.p.lt
  have hRl := OE.out.r.lt
  clear yf
  go_wp2_with fail
  go_region_with (go_at_call 54; refine (sgoodAff _ a0 a1 a2 a3 a4 a5).mono ?_; rintro e w9 ⟨rfl, k9⟩; have kk := bcell k9.nw; have v0 := (kk.1 _ 0 hPl).trans y0; have v1 := (kk.1 _ 1 hPl).trans y1; have v2 := (kk.1 _ 2 hPl).trans y2; have v3 := (kk.1 _ 3 hPl).trans y3; have v4 := (kk.1 _ 4 hPl).trans y4; have v5 := (kk.1 _ 5 hPl).trans y5; have s0 := (kk.1 _ 0 hRl).trans q0; have s1 := (kk.1 _ 1 hRl).trans q1; have s2 := (kk.1 _ 2 hRl).trans q2; have s3 := (kk.1 _ 3 hRl).trans q3; have s4 := (kk.1 _ 4 hRl).trans q4; have s5 := (kk.1 _ 5 hRl).trans q5; have sf := fun o => (kk.2 _ o hRl).trans (qf o); clear kk)
  all_goals
   have N9 : Hid (Nw w w9) := Nw.trans OE.out.nw (nw_und k9.nw)
   obtain ⟨t0, t1, t2, t3, t4, t5⟩ := sset6 w9 w.heap.size (.int .i64 a0) (.int .i64 a1) (.int .i64 a2) (.int .i64 a3) (.int .i64 a4) (.int .i64 a5) s0 s1 s2 s3 s4 s5
   go_wp2
   refine bodyPost_ret (v := .tuple #[.agg #[.int .i64 a0, .int .i64 a1, .int .i64 a2, .int .i64 a3, .int .i64 a4, .int .i64 a5], .bool (gA a0 a1 a2 a3 a4 a5)]) (by simp [results, Try.results130, go_sem, t0, t1, t2, t3, t4, t5]) rfl ⟨⟨_, _, _, _, _, _, _, rfl⟩, nw_six N9.out (Nat.le_refl _) _ _ _ _ _ _⟩
set_option maxRecDepth 100000 in
set_option maxHeartbeats 16000000 in
theorem one_R (w : World) (word : ByteArray) (va : Option Addr) (vc : Nat) (l : List Int) (hl : l.length ≤ 60) (hn : Nms w va l) (hkn : Kn word l false false true false false false true false false false) :
  Calls Try.prog 130 #[.string word, .slice va l.length vc] w fun e w' => AffSome e ∧ Nw w w' := by
 have HN : Hid (Nms w va l) := hn
 clear hn
 obtain ⟨W0, hW0⟩ : ∃ W0, w.alloc (.cells #[.int .i64 0, .int .i64 0, .int .i64 0, .int .i64 0, .int .i64 0, .int .i64 0] 31) = W0 := ⟨_, rfl⟩
 have HW0 : Hid (_ = W0) := hW0
 clear hW0
 go_enter Try.func130, Try.ntmps130
 go_wp2_with fail
 rw [HW0.out]
 refine (ssame W0).mono ?_
 rintro e w1 ⟨rfl, h1⟩
 have HO : Hid (OS w _ w1.heap.size) := OS.start w W0 w1 HW0.out h1
 clear h1 HW0
 obtain ⟨W, hW⟩ : ∃ W, w1.alloc (.cells #[.int .i64 65536, .int .i64 0, .int .i64 0, .int .i64 65536, .int .i64 0, .int .i64 0] 31) = W := ⟨_, rfl⟩
 have HW : Hid (_ = W) := hW
 rw [hW] at HO
 clear hW
 go_upto_block 0 with fail
 rw [HW.out]
 clear HW
 generalize w1.heap.size = P at *
 clear w1
 go_cut [] (fun wx => OS w wx P)
 case first =>
  have h := hkn
  clear hkn
  ·have hk : l.length = 1 := by have := h.k1; simp at this; omega
   obtain ⟨c0, c1, c2, c3, c4, c5, k1, k2, k3, k6⟩ := h
   obtain ⟨g, rfl, hg, n0⟩ := HN.out 0 (by omega)
   have b0 : (0 : Int) < (l.length : Int) := by omega
   have hgP : g ≠ P := by have := HO.out.hP; omega
   have m0 := ((bcell HO.out.nw).1 _ 0 hg).trans n0
   clear hk
   obtain ⟨a0, a1, a2, a3, a4, a5, y0, y1, y2, y3, y4, y5, yf⟩ := HO.out.p.get
   obtain ⟨t, ht, hT⟩ := turn_some (intAt l 0)
   obtain ⟨sv, hS⟩ := sin_some t ht
   obtain ⟨cv, hC⟩ := cos_some t ht
   have HT : Hid _ := hT
   have HS : Hid _ := hS
   have HC : Hid _ := hC
   clear hT hS hC ht
   go_wp2_with fail
   refine (HT.out W).mono ?_
   rintro e w2 ⟨rfl, hq⟩
   have hq2 := hq.symm; clear hq; subst hq2
   go_wp2_with fail
   refine (HC.out W).mono ?_
   rintro e w3 ⟨rfl, k3'⟩
   have O3 : Hid (OS w w3 P) := HO.out.go k3'.nw
   clear k3'
   go_wp2_with fail
   refine (HS.out w3).mono ?_
   rintro e w4 ⟨rfl, k4'⟩
   have O4 : Hid (OS w w4 P) := O3.out.go k4'.nw
   clear k4'
   go_wp2_with fail
   refine (HS.out w4).mono ?_
   rintro e w5 ⟨rfl, k5'⟩
   have O5 : Hid (OS w w5 P) := O4.out.go k5'.nw
   clear k5'
   go_wp2_with fail
   refine (HC.out w5).mono ?_
   rintro e w6 ⟨rfl, k6'⟩
   have O6 : Hid (OS w w6 P) := O5.out.go k6'.nw
   clear k6' y0 y1 y2 y3 y4 y5 yf
   obtain ⟨a0, a1, a2, a3, a4, a5, y0, y1, y2, y3, y4, y5, yf⟩ := O6.out.p.get
   go_wp2
   go_meet
   exact O6.out.all cv sv _ cv 0 0
 case rest =>
  have OE : Hid (OS w wc P) := hcut
  clear hcut HO HN
  obtain ⟨a0, a1, a2, a3, a4, a5, y0, y1, y2, y3, y4, y5, yf⟩ := OE.out.p.get
  obtain ⟨z0, z1, z2, z3, z4, z5, q0, q1, q2, q3, q4, q5, qf⟩ := OE.out.r.get
  have hPl := OE.out.p.lt
  have hRl := OE.out.r.lt
  clear yf
  go_wp2_with fail
  go_region_with (go_at_call 54; refine (sgoodAff _ a0 a1 a2 a3 a4 a5).mono ?_; rintro e w9 ⟨rfl, k9⟩; have kk := bcell k9.nw; have v0 := (kk.1 _ 0 hPl).trans y0; have v1 := (kk.1 _ 1 hPl).trans y1; have v2 := (kk.1 _ 2 hPl).trans y2; have v3 := (kk.1 _ 3 hPl).trans y3; have v4 := (kk.1 _ 4 hPl).trans y4; have v5 := (kk.1 _ 5 hPl).trans y5; have s0 := (kk.1 _ 0 hRl).trans q0; have s1 := (kk.1 _ 1 hRl).trans q1; have s2 := (kk.1 _ 2 hRl).trans q2; have s3 := (kk.1 _ 3 hRl).trans q3; have s4 := (kk.1 _ 4 hRl).trans q4; have s5 := (kk.1 _ 5 hRl).trans q5; have sf := fun o => (kk.2 _ o hRl).trans (qf o); clear kk)
  all_goals
   have N9 : Hid (Nw w w9) := Nw.trans OE.out.nw (nw_und k9.nw)
   obtain ⟨t0, t1, t2, t3, t4, t5⟩ := sset6 w9 w.heap.size (.int .i64 a0) (.int .i64 a1) (.int .i64 a2) (.int .i64 a3) (.int .i64 a4) (.int .i64 a5) s0 s1 s2 s3 s4 s5
   go_wp2
   refine bodyPost_ret (v := .tuple #[.agg #[.int .i64 a0, .int .i64 a1, .int .i64 a2, .int .i64 a3, .int .i64 a4, .int .i64 a5], .bool (gA a0 a1 a2 a3 a4 a5)]) (by simp [results, Try.results130, go_sem, t0, t1, t2, t3, t4, t5]) rfl ⟨⟨_, _, _, _, _, _, _, rfl⟩, nw_six N9.out (Nat.le_refl _) _ _ _ _ _ _⟩
set_option linter.unusedSimpArgs false
structure OM where
 x0 : Int
 x1 : Int
 x2 : Int
 x3 : Int
 x4 : Int
 x5 : Int
 g : Nat
 n : Nat
 c : Nat
 bP : Nat
 W : World
 a0 : Act
structure OMOk (X : OM) : Prop where
 c0 : X.W.cell? ⟨X.g, 0, none⟩ = some (.int .i64 X.x0)
 c1 : X.W.cell? ⟨X.g, 1, none⟩ = some (.int .i64 X.x1)
 c2 : X.W.cell? ⟨X.g, 2, none⟩ = some (.int .i64 X.x2)
 c3 : X.W.cell? ⟨X.g, 3, none⟩ = some (.int .i64 X.x3)
 c4 : X.W.cell? ⟨X.g, 4, none⟩ = some (.int .i64 X.x4)
 c5 : X.W.cell? ⟨X.g, 5, none⟩ = some (.int .i64 X.x5)
 n0 : ¬ X.n = 0
 b0 : (0 : Int) < (X.n : Int)
 b1 : (1 : Int) < (X.n : Int)
 b2 : (2 : Int) < (X.n : Int)
 b3 : (3 : Int) < (X.n : Int)
 b4 : (4 : Int) < (X.n : Int)
 b5 : (5 : Int) < (X.n : Int)
 z0 : ∃ u, X.W.cell? ⟨X.bP, 0, none⟩ = some u
 z1 : ∃ u, X.W.cell? ⟨X.bP, 1, none⟩ = some u
 z2 : ∃ u, X.W.cell? ⟨X.bP, 2, none⟩ = some u
 z3 : ∃ u, X.W.cell? ⟨X.bP, 3, none⟩ = some u
 z4 : ∃ u, X.W.cell? ⟨X.bP, 4, none⟩ = some u
 z5 : ∃ u, X.W.cell? ⟨X.bP, 5, none⟩ = some u
 zf : ∀ o, X.W.frozen? ⟨X.bP, o, none⟩ = false
 e1 : X.a0.eval (.tmp 1) = .slice (some ⟨X.g, 0, none⟩) X.n X.c
 e6 : X.a0.eval (.tmp 6) = .pointer (some ⟨X.bP, 0, none⟩)
 sz : X.a0.tmps.size = 199
def OM.val0 (X : OM) : Nat → Value
 | 1 => .slice (some ⟨X.g, 0, none⟩) X.n X.c
 | 6 => .pointer (some ⟨X.bP, 0, none⟩)
 | 141 => .slice (some ⟨X.g, 0, none⟩) X.n X.c
 | 142 => .pointer (some ⟨X.g, 0, none⟩)
 | 143 => .int .i64 X.x0
 | 144 => .slice (some ⟨X.g, 0, none⟩) X.n X.c
 | 145 => .pointer (some ⟨X.g, 1, none⟩)
 | 146 => .int .i64 X.x1
 | 147 => .slice (some ⟨X.g, 0, none⟩) X.n X.c
 | 148 => .pointer (some ⟨X.g, 2, none⟩)
 | 149 => .int .i64 X.x2
 | 150 => .slice (some ⟨X.g, 0, none⟩) X.n X.c
 | 151 => .pointer (some ⟨X.g, 3, none⟩)
 | 152 => .int .i64 X.x3
 | 153 => .slice (some ⟨X.g, 0, none⟩) X.n X.c
 | 154 => .pointer (some ⟨X.g, 4, none⟩)
 | 155 => .int .i64 X.x4
 | 156 => .slice (some ⟨X.g, 0, none⟩) X.n X.c
 | 157 => .pointer (some ⟨X.g, 5, none⟩)
 | 158 => .int .i64 X.x5
 | 159 => .agg #[.int .i64 X.x0, .int .i64 X.x1, .int .i64 X.x2, .int .i64 X.x3, .int .i64 X.x4, .int .i64 X.x5]
 | _ => undef
def OM.av : Nat → Option Nat
 | _ => none
def OM.acts : List Nat := [19]
def OM.Wd (X : OM) : Nat → (Nat → Value) → World → Prop
  | 0, _, w => Kp X.W w
  | _, _, w => ∃ w1, Kp X.W w1 ∧ w = ((((((w1.setCell ⟨X.bP, 0, none⟩ (.int .i64 X.x0)).setCell ⟨X.bP, 1, none⟩ (.int .i64 X.x1)).setCell ⟨X.bP, 2, none⟩ (.int .i64 X.x2)).setCell ⟨X.bP, 3, none⟩ (.int .i64 X.x3)).setCell ⟨X.bP, 4, none⟩ (.int .i64 X.x4)).setCell ⟨X.bP, 5, none⟩ (.int .i64 X.x5))
theorem OM.chain : chainG (opsOf 28 Try.f130) OM.acts = true := by kernel_rfl
theorem OM.nodup : OM.acts.Nodup := by decide
def OM.L : List (Option Nat × Op × Option (Nat × Bool)) := [
 (some 141, .move (.tmp 1), none),
 (some 142, .indexAddr 77 (.tmp 141) (.const (.int .i64 0)), none),
 (some 143, .load 3 (.tmp 142), none),
 (some 144, .move (.tmp 1), none),
 (some 145, .indexAddr 77 (.tmp 144) (.const (.int .i64 1)), none),
 (some 146, .load 3 (.tmp 145), none),
 (some 147, .move (.tmp 1), none),
 (some 148, .indexAddr 77 (.tmp 147) (.const (.int .i64 2)), none),
 (some 149, .load 3 (.tmp 148), none),
 (some 150, .move (.tmp 1), none),
 (some 151, .indexAddr 77 (.tmp 150) (.const (.int .i64 3)), none),
 (some 152, .load 3 (.tmp 151), none),
 (some 153, .move (.tmp 1), none),
 (some 154, .indexAddr 77 (.tmp 153) (.const (.int .i64 4)), none),
 (some 155, .load 3 (.tmp 154), none),
 (some 156, .move (.tmp 1), none),
 (some 157, .indexAddr 77 (.tmp 156) (.const (.int .i64 5)), none),
 (some 158, .load 3 (.tmp 157), none),
 (some 159, .build 31 #[(0, (.tmp 143)), (1, (.tmp 146)), (2, (.tmp 149)), (3, (.tmp 152)), (4, (.tmp 155)), (5, (.tmp 158))], none),
 (none, .store 31 (.tmp 6) (.tmp 159), none)]
theorem OM.isL : (opsOf 28 Try.f130).toList.map tri = OM.L := by kernel_rfl
theorem OM.ini {X : OM} (ok : OMOk X) : ∀ n ∈ [1, 6], X.a0.eval (.tmp n) = X.val0 n := by
 simp only [List.forall_mem_cons]
 exact ⟨ok.e1, ok.e6, List.forall_mem_nil _⟩
abbrev OM.St (X : OM) (Q : PQ) (i : Nat) : Prop := StepG (opsOf 28 Try.f130) OM.acts OM.av X.val0 X.Wd X.a0 Q i
theorem OM.plain (X : OM) (ok : OMOk X) {Q : PQ} : ∀ i ∈ [0, 1, 3, 4, 6, 7, 9, 10, 12, 13, 15, 16, 18], OM.St X Q i := by
 simp only [List.forall_mem_cons]
 refine ⟨?_, ?_, ?_, ?_, ?_, ?_, ?_, ?_, ?_, ?_, ?_, ?_, ?_, List.forall_mem_nil _⟩
 all_goals
  refine st_plain OM.isL (OM.ini ok) ok.sz rfl (by kernel_rfl) ?_
  intro γ w n o hW hop
  unfold execOp
  rw [hop]
  simp [envR, valG, OM.av, OM.val0, ok.b0, ok.n0, ok.b1, ok.b2, ok.b3, ok.b4, ok.b5, go_sem]
theorem OM.early (X : OM) (ok : OMOk X) {Q : PQ} : ∀ i ∈ [2, 5, 8, 11, 14, 17], OM.St X Q i := by
 simp only [List.forall_mem_cons]
 refine ⟨?_, ?_, ?_, ?_, ?_, ?_, List.forall_mem_nil _⟩
 all_goals
  refine st_plainM (m := 0) OM.isL (OM.ini ok) ok.sz rfl (by kernel_rfl) ?_
  intro γ w n o hn hW hop
  obtain rfl : n = 0 := by omega
  have hk : Kp X.W w := hW
  have hc_c0 := rq_at hk ok.c0
  have hc_c1 := rq_at hk ok.c1
  have hc_c2 := rq_at hk ok.c2
  have hc_c3 := rq_at hk ok.c3
  have hc_c4 := rq_at hk ok.c4
  have hc_c5 := rq_at hk ok.c5
  unfold execOp
  rw [hop]
  simp [envR, valG, OM.av, OM.val0, hc_c0, hc_c1, hc_c2, hc_c3, hc_c4, hc_c5, go_sem]
theorem OM.s19 (X : OM) (ok : OMOk X) {Q : PQ} : OM.St X Q 19 := by
 intro γ listed a w o hF hC hW h1 ho h2
 obtain ⟨hd, hop, hg⟩ := fieldsL OM.isL (i := 19) rfl ho
 have e6 : a.eval (.tmp 6) = .pointer (some ⟨X.bP, 0, none⟩) := known hF ho h2 (OM.ini ok) ok.sz (by kernel_rfl)
 have e159 : a.eval (.tmp 159) = .agg #[.int .i64 X.x0, .int .i64 X.x1, .int .i64 X.x2, .int .i64 X.x3, .int .i64 X.x4, .int .i64 X.x5] := known hF ho h2 (OM.ini ok) ok.sz (by kernel_rfl)
 have hu := unl (hF.lt ho) h1
 refine st_actG (k := 0) OM.chain OM.nodup rfl hF hC hW h1 ho h2 (Or.inl hd) (injG (by kernel_rfl) hu) hg ?_
 intro hW0 K hK
 obtain ⟨u0, z0⟩ := ok.z0
 replace z0 := rq_at hW0 z0
 obtain ⟨u1, z1⟩ := ok.z1
 replace z1 := rq_at hW0 z1
 obtain ⟨u2, z2⟩ := ok.z2
 replace z2 := rq_at hW0 z2
 obtain ⟨u3, z3⟩ := ok.z3
 replace z3 := rq_at hW0 z3
 obtain ⟨u4, z4⟩ := ok.z4
 replace z4 := rq_at hW0 z4
 obtain ⟨u5, z5⟩ := ok.z5
 replace z5 := rq_at hW0 z5
 have zf : ∀ o, w.frozen? ⟨X.bP, o, none⟩ = false := fun o => (hW0.cells.2 _ _).trans (ok.zf o)
 have hr : (execOp a.eval o).run Try.prog w = .ok .skip ((((((w.setCell ⟨X.bP, 0, none⟩ (.int .i64 X.x0)).setCell ⟨X.bP, 1, none⟩ (.int .i64 X.x1)).setCell ⟨X.bP, 2, none⟩ (.int .i64 X.x2)).setCell ⟨X.bP, 3, none⟩ (.int .i64 X.x3)).setCell ⟨X.bP, 4, none⟩ (.int .i64 X.x4)).setCell ⟨X.bP, 5, none⟩ (.int .i64 X.x5)) := by
  generalize a.eval = ρ at e6 e159 ⊢
  unfold execOp
  rw [hop]
  simp [e6, e159, z0, z1, z2, z3, z4, z5, zf, go_sem]
 unfold Oper.wp
 rw [hr]
 exact hK _ _ ⟨w, hW0, rfl⟩
theorem OM.size : (opsOf 28 Try.f130).size = 20 := by kernel_rfl
theorem OM.rest (X : OM) (ok : OMOk X) {Q : PQ} : ∀ i ∈ [19], OM.St X Q i := by
 simp only [List.forall_mem_cons]
 exact ⟨OM.s19 X ok, List.forall_mem_nil _⟩
theorem OM.steps (X : OM) (ok : OMOk X) {Q : PQ} (i : Nat) (hi : i < (opsOf 28 Try.f130).size) : OM.St X Q i := by
 rw [OM.size] at hi
 rcases (by decide : ∀ i, i < 20 → i ∈ [0, 1, 3, 4, 6, 7, 9, 10, 12, 13, 15, 16, 18] ∨ i ∈ [2, 5, 8, 11, 14, 17] ∨ i ∈ [19]) i hi with h | h | h
 · exact OM.plain X ok i h
 · exact OM.early X ok i h
 · exact OM.rest X ok i h
theorem OM.run (X : OM) (ok : OMOk X) {Q : PQ} (w : World) (h0 : X.Wd 0 (fun _ => undef) w.drew) (hend : ∀ (γ : Nat → Value) w', X.Wd 1 γ w' → Q .normal (((((((((((((((((((X.a0.put (some 141) (.slice (some ⟨X.g, 0, none⟩) X.n X.c)).put (some 142) (.pointer (some ⟨X.g, 0, none⟩))).put (some 143) (.int .i64 X.x0)).put (some 144) (.slice (some ⟨X.g, 0, none⟩) X.n X.c)).put (some 145) (.pointer (some ⟨X.g, 1, none⟩))).put (some 146) (.int .i64 X.x1)).put (some 147) (.slice (some ⟨X.g, 0, none⟩) X.n X.c)).put (some 148) (.pointer (some ⟨X.g, 2, none⟩))).put (some 149) (.int .i64 X.x2)).put (some 150) (.slice (some ⟨X.g, 0, none⟩) X.n X.c)).put (some 151) (.pointer (some ⟨X.g, 3, none⟩))).put (some 152) (.int .i64 X.x3)).put (some 153) (.slice (some ⟨X.g, 0, none⟩) X.n X.c)).put (some 154) (.pointer (some ⟨X.g, 4, none⟩))).put (some 155) (.int .i64 X.x4)).put (some 156) (.slice (some ⟨X.g, 0, none⟩) X.n X.c)).put (some 157) (.pointer (some ⟨X.g, 5, none⟩))).put (some 158) (.int .i64 X.x5)).put (some 159) (.agg #[.int .i64 X.x0, .int .i64 X.x1, .int .i64 X.x2, .int .i64 X.x3, .int .i64 X.x4, .int .i64 X.x5])) w') : (Code.region 28 (opsOf 28 Try.f130) true).wp Try.prog Q X.a0 w := by
 refine reg_act (acts := OM.acts) (av := OM.av) (val0 := X.val0) (Wd := X.Wd) (by kernel_rfl) (by kernel_rfl) (by rw [OM.size]; decide) (fun i hi => OM.steps X ok i hi) _ h0 ?_
 intro γ w' h
 exact end_at (hend γ w' h) (by kernel_rfl)
structure OR where
 x0 : Int
 x1 : Int
 x2 : Int
 x3 : Int
 x4 : Int
 x5 : Int
 y0 : Int
 y1 : Int
 y2 : Int
 y3 : Int
 y4 : Int
 y5 : Int
 m0 : Int
 m1 : Int
 m2 : Int
 m3 : Int
 m4 : Int
 m5 : Int
 z0 : Int
 z1 : Int
 z2 : Int
 z3 : Int
 z4 : Int
 z5 : Int
 r0 : Int
 r1 : Int
 r2 : Int
 r3 : Int
 r4 : Int
 r5 : Int
 bT : Nat
 bP : Nat
 bB : Nat
 W : World
 a0 : Act
structure OROk (X : OR) : Prop where
 t0 : X.W.cell? ⟨X.bT, 0, none⟩ = some (.int .i64 X.x0)
 t1 : X.W.cell? ⟨X.bT, 1, none⟩ = some (.int .i64 X.x1)
 t2 : X.W.cell? ⟨X.bT, 2, none⟩ = some (.int .i64 X.x2)
 t3 : X.W.cell? ⟨X.bT, 3, none⟩ = some (.int .i64 X.x3)
 t4 : X.W.cell? ⟨X.bT, 4, none⟩ = some (.int .i64 X.x4)
 t5 : X.W.cell? ⟨X.bT, 5, none⟩ = some (.int .i64 X.x5)
 p0 : X.W.cell? ⟨X.bP, 0, none⟩ = some (.int .i64 X.y0)
 p1 : X.W.cell? ⟨X.bP, 1, none⟩ = some (.int .i64 X.y1)
 p2 : X.W.cell? ⟨X.bP, 2, none⟩ = some (.int .i64 X.y2)
 p3 : X.W.cell? ⟨X.bP, 3, none⟩ = some (.int .i64 X.y3)
 p4 : X.W.cell? ⟨X.bP, 4, none⟩ = some (.int .i64 X.y4)
 p5 : X.W.cell? ⟨X.bP, 5, none⟩ = some (.int .i64 X.y5)
 q0 : X.W.cell? ⟨X.bB, 0, none⟩ = some (.int .i64 X.z0)
 q1 : X.W.cell? ⟨X.bB, 1, none⟩ = some (.int .i64 X.z1)
 q2 : X.W.cell? ⟨X.bB, 2, none⟩ = some (.int .i64 X.z2)
 q3 : X.W.cell? ⟨X.bB, 3, none⟩ = some (.int .i64 X.z3)
 q4 : X.W.cell? ⟨X.bB, 4, none⟩ = some (.int .i64 X.z4)
 q5 : X.W.cell? ⟨X.bB, 5, none⟩ = some (.int .i64 X.z5)
 h1 : ∀ w, Calls Try.prog 131 #[.agg #[.int .i64 X.x0, .int .i64 X.x1, .int .i64 X.x2, .int .i64 X.x3, .int .i64 X.x4, .int .i64 X.x5], .agg #[.int .i64 X.y0, .int .i64 X.y1, .int .i64 X.y2, .int .i64 X.y3, .int .i64 X.y4, .int .i64 X.y5]] w fun e w' => e = .returned (.agg #[.int .i64 X.m0, .int .i64 X.m1, .int .i64 X.m2, .int .i64 X.m3, .int .i64 X.m4, .int .i64 X.m5]) ∧ Kp w w'
 h2 : ∀ w, Calls Try.prog 131 #[.agg #[.int .i64 X.m0, .int .i64 X.m1, .int .i64 X.m2, .int .i64 X.m3, .int .i64 X.m4, .int .i64 X.m5], .agg #[.int .i64 X.z0, .int .i64 X.z1, .int .i64 X.z2, .int .i64 X.z3, .int .i64 X.z4, .int .i64 X.z5]] w fun e w' => e = .returned (.agg #[.int .i64 X.r0, .int .i64 X.r1, .int .i64 X.r2, .int .i64 X.r3, .int .i64 X.r4, .int .i64 X.r5]) ∧ Kp w w'
 z0 : ∃ u, X.W.cell? ⟨X.bP, 0, none⟩ = some u
 z1 : ∃ u, X.W.cell? ⟨X.bP, 1, none⟩ = some u
 z2 : ∃ u, X.W.cell? ⟨X.bP, 2, none⟩ = some u
 z3 : ∃ u, X.W.cell? ⟨X.bP, 3, none⟩ = some u
 z4 : ∃ u, X.W.cell? ⟨X.bP, 4, none⟩ = some u
 z5 : ∃ u, X.W.cell? ⟨X.bP, 5, none⟩ = some u
 zf : ∀ o, X.W.frozen? ⟨X.bP, o, none⟩ = false
 e6 : X.a0.eval (.tmp 6) = .pointer (some ⟨X.bP, 0, none⟩)
 e8 : X.a0.eval (.tmp 8) = .pointer (some ⟨X.bT, 0, none⟩)
 e9 : X.a0.eval (.tmp 9) = .pointer (some ⟨X.bB, 0, none⟩)
 sz : X.a0.tmps.size = 199
def OR.val0 (X : OR) : Nat → Value
 | 6 => .pointer (some ⟨X.bP, 0, none⟩)
 | 8 => .pointer (some ⟨X.bT, 0, none⟩)
 | 9 => .pointer (some ⟨X.bB, 0, none⟩)
 | 128 => .agg #[.int .i64 X.x0, .int .i64 X.x1, .int .i64 X.x2, .int .i64 X.x3, .int .i64 X.x4, .int .i64 X.x5]
 | 129 => .agg #[.int .i64 X.y0, .int .i64 X.y1, .int .i64 X.y2, .int .i64 X.y3, .int .i64 X.y4, .int .i64 X.y5]
 | 130 => .agg #[.int .i64 X.m0, .int .i64 X.m1, .int .i64 X.m2, .int .i64 X.m3, .int .i64 X.m4, .int .i64 X.m5]
 | 131 => .agg #[.int .i64 X.z0, .int .i64 X.z1, .int .i64 X.z2, .int .i64 X.z3, .int .i64 X.z4, .int .i64 X.z5]
 | 132 => .agg #[.int .i64 X.r0, .int .i64 X.r1, .int .i64 X.r2, .int .i64 X.r3, .int .i64 X.r4, .int .i64 X.r5]
 | _ => undef
def OR.av : Nat → Option Nat
 | _ => none
def OR.acts : List Nat := [5]
def OR.Wd (X : OR) : Nat → (Nat → Value) → World → Prop
  | 0, _, w => Kp X.W w
  | _, _, w => ∃ w1, Kp X.W w1 ∧ w = ((((((w1.setCell ⟨X.bP, 0, none⟩ (.int .i64 X.r0)).setCell ⟨X.bP, 1, none⟩ (.int .i64 X.r1)).setCell ⟨X.bP, 2, none⟩ (.int .i64 X.r2)).setCell ⟨X.bP, 3, none⟩ (.int .i64 X.r3)).setCell ⟨X.bP, 4, none⟩ (.int .i64 X.r4)).setCell ⟨X.bP, 5, none⟩ (.int .i64 X.r5))
theorem OR.chain : chainG (opsOf 26 Try.f130) OR.acts = true := by kernel_rfl
theorem OR.nodup : OR.acts.Nodup := by decide
def OR.L : List (Option Nat × Op × Option (Nat × Bool)) := [
 (some 128, .load 31 (.tmp 8), none),
 (some 129, .load 31 (.tmp 6), none),
 (some 130, .call { callee := .value (.func 131), args := #[(.tmp 128), (.tmp 129)], argTypes := #[31, 31] }, none),
 (some 131, .load 31 (.tmp 9), none),
 (some 132, .call { callee := .value (.func 131), args := #[(.tmp 130), (.tmp 131)], argTypes := #[31, 31] }, none),
 (none, .store 31 (.tmp 6) (.tmp 132), none)]
theorem OR.isL : (opsOf 26 Try.f130).toList.map tri = OR.L := by kernel_rfl
theorem OR.ini {X : OR} (ok : OROk X) : ∀ n ∈ [6, 8, 9], X.a0.eval (.tmp n) = X.val0 n := by
 simp only [List.forall_mem_cons]
 exact ⟨ok.e6, ok.e8, ok.e9, List.forall_mem_nil _⟩
abbrev OR.St (X : OR) (Q : PQ) (i : Nat) : Prop := StepG (opsOf 26 Try.f130) OR.acts OR.av X.val0 X.Wd X.a0 Q i
theorem OR.early (X : OR) (ok : OROk X) {Q : PQ} : ∀ i ∈ [0, 1, 3], OR.St X Q i := by
 simp only [List.forall_mem_cons]
 refine ⟨?_, ?_, ?_, List.forall_mem_nil _⟩
 all_goals
  refine st_plainM (m := 0) OR.isL (OR.ini ok) ok.sz rfl (by kernel_rfl) ?_
  intro γ w n o hn hW hop
  obtain rfl : n = 0 := by omega
  have hk : Kp X.W w := hW
  have hc_t0 := rq_at hk ok.t0
  have hc_t1 := rq_at hk ok.t1
  have hc_t2 := rq_at hk ok.t2
  have hc_t3 := rq_at hk ok.t3
  have hc_t4 := rq_at hk ok.t4
  have hc_t5 := rq_at hk ok.t5
  have hc_p0 := rq_at hk ok.p0
  have hc_p1 := rq_at hk ok.p1
  have hc_p2 := rq_at hk ok.p2
  have hc_p3 := rq_at hk ok.p3
  have hc_p4 := rq_at hk ok.p4
  have hc_p5 := rq_at hk ok.p5
  have hc_q0 := rq_at hk ok.q0
  have hc_q1 := rq_at hk ok.q1
  have hc_q2 := rq_at hk ok.q2
  have hc_q3 := rq_at hk ok.q3
  have hc_q4 := rq_at hk ok.q4
  have hc_q5 := rq_at hk ok.q5
  unfold execOp
  rw [hop]
  simp [envR, valG, OR.av, OR.val0, hc_t0, hc_t1, hc_t2, hc_t3, hc_t4, hc_t5, hc_p0, hc_p1, hc_p2, hc_p3, hc_p4, hc_p5, hc_q0, hc_q1, hc_q2, hc_q3, hc_q4, hc_q5, go_sem]
theorem OR.s5 (X : OR) (ok : OROk X) {Q : PQ} : OR.St X Q 5 := by
 intro γ listed a w o hF hC hW h1 ho h2
 obtain ⟨hd, hop, hg⟩ := fieldsL OR.isL (i := 5) rfl ho
 have e6 : a.eval (.tmp 6) = .pointer (some ⟨X.bP, 0, none⟩) := known hF ho h2 (OR.ini ok) ok.sz (by kernel_rfl)
 have e132 : a.eval (.tmp 132) = .agg #[.int .i64 X.r0, .int .i64 X.r1, .int .i64 X.r2, .int .i64 X.r3, .int .i64 X.r4, .int .i64 X.r5] := known hF ho h2 (OR.ini ok) ok.sz (by kernel_rfl)
 have hu := unl (hF.lt ho) h1
 refine st_actG (k := 0) OR.chain OR.nodup rfl hF hC hW h1 ho h2 (Or.inl hd) (injG (by kernel_rfl) hu) hg ?_
 intro hW0 K hK
 obtain ⟨u0, z0⟩ := ok.z0
 replace z0 := rq_at hW0 z0
 obtain ⟨u1, z1⟩ := ok.z1
 replace z1 := rq_at hW0 z1
 obtain ⟨u2, z2⟩ := ok.z2
 replace z2 := rq_at hW0 z2
 obtain ⟨u3, z3⟩ := ok.z3
 replace z3 := rq_at hW0 z3
 obtain ⟨u4, z4⟩ := ok.z4
 replace z4 := rq_at hW0 z4
 obtain ⟨u5, z5⟩ := ok.z5
 replace z5 := rq_at hW0 z5
 have zf : ∀ o, w.frozen? ⟨X.bP, o, none⟩ = false := fun o => (hW0.cells.2 _ _).trans (ok.zf o)
 have hr : (execOp a.eval o).run Try.prog w = .ok .skip ((((((w.setCell ⟨X.bP, 0, none⟩ (.int .i64 X.r0)).setCell ⟨X.bP, 1, none⟩ (.int .i64 X.r1)).setCell ⟨X.bP, 2, none⟩ (.int .i64 X.r2)).setCell ⟨X.bP, 3, none⟩ (.int .i64 X.r3)).setCell ⟨X.bP, 4, none⟩ (.int .i64 X.r4)).setCell ⟨X.bP, 5, none⟩ (.int .i64 X.r5)) := by
  generalize a.eval = ρ at e6 e132 ⊢
  unfold execOp
  rw [hop]
  simp [e6, e132, z0, z1, z2, z3, z4, z5, zf, go_sem]
 unfold Oper.wp
 rw [hr]
 exact hK _ _ ⟨w, hW0, rfl⟩
theorem OR.size : (opsOf 26 Try.f130).size = 6 := by kernel_rfl
theorem OR.rest (X : OR) (ok : OROk X) {Q : PQ} : ∀ i ∈ [2, 4, 5], OR.St X Q i := by
 simp only [List.forall_mem_cons]
 exact ⟨st_callZ OR.isL (OR.ini ok) ok.sz rfl (by kernel_rfl) (fun _ _ => by simp [go_sem]) (fun γ w hW => ok.h1 w) (fun _ _ _ hW hk => Kp.trans hW hk),
  st_callZ OR.isL (OR.ini ok) ok.sz rfl (by kernel_rfl) (fun _ _ => by simp [go_sem]) (fun γ w hW => ok.h2 w) (fun _ _ _ hW hk => Kp.trans hW hk),
  OR.s5 X ok, List.forall_mem_nil _⟩
theorem OR.steps (X : OR) (ok : OROk X) {Q : PQ} (i : Nat) (hi : i < (opsOf 26 Try.f130).size) : OR.St X Q i := by
 rw [OR.size] at hi
 rcases (by decide : ∀ i, i < 6 → i ∈ [0, 1, 3] ∨ i ∈ [2, 4, 5]) i hi with h | h
 · exact OR.early X ok i h
 · exact OR.rest X ok i h
theorem OR.run (X : OR) (ok : OROk X) {Q : PQ} (w : World) (h0 : X.Wd 0 (fun _ => undef) w.drew) (hend : ∀ (γ : Nat → Value) w', X.Wd 1 γ w' → Q .normal (((((X.a0.put (some 128) (.agg #[.int .i64 X.x0, .int .i64 X.x1, .int .i64 X.x2, .int .i64 X.x3, .int .i64 X.x4, .int .i64 X.x5])).put (some 129) (.agg #[.int .i64 X.y0, .int .i64 X.y1, .int .i64 X.y2, .int .i64 X.y3, .int .i64 X.y4, .int .i64 X.y5])).put (some 130) (.agg #[.int .i64 X.m0, .int .i64 X.m1, .int .i64 X.m2, .int .i64 X.m3, .int .i64 X.m4, .int .i64 X.m5])).put (some 131) (.agg #[.int .i64 X.z0, .int .i64 X.z1, .int .i64 X.z2, .int .i64 X.z3, .int .i64 X.z4, .int .i64 X.z5])).put (some 132) (.agg #[.int .i64 X.r0, .int .i64 X.r1, .int .i64 X.r2, .int .i64 X.r3, .int .i64 X.r4, .int .i64 X.r5])) w') : (Code.region 26 (opsOf 26 Try.f130) true).wp Try.prog Q X.a0 w := by
 refine reg_act (acts := OR.acts) (av := OR.av) (val0 := X.val0) (Wd := X.Wd) (by kernel_rfl) (by kernel_rfl) (by rw [OR.size]; decide) (fun i hi => OR.steps X ok i hi) _ h0 ?_
 intro γ w' h
 exact end_at (hend γ w' h) (by kernel_rfl)
end Go.Proofs.Ytdjemnbdaddegaa
