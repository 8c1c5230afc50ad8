/-
  What the specification draws of points and of small numbers 
-/
import Derived.Test.YtdjemnbdaddegaaJAB
import Derived.Test.YtdjemnbdaddegaaJAE
import Derived.Test.YtdjemnbdaddegaaJAD
import Derived.Test.YtdjemnbdaddegaaJAC
import Derived.Test.YtdjemnbdaddegaaJAA
import Derived.Deep.Onto
import Derived.Deep.CutBlock
import Derived.Deep.RegionHeld3
namespace Go.Proofs.Ytdjemnbdaddegaa
open Go.ChangeShapes Go.WideShapes Go.ChangeAt Go.RowKit
set_option linter.unusedVariables false
def PtDrawn (e : Ending) : Prop := ∃ x y : Int, e = .returned (.agg #[.int .i64 x, .int .i64 y])
theorem set_two (w : World) (b : Nat) (v0 v1 : Value) {u0 u1 : Value} (h0 : w.cell? ⟨b, 0, none⟩ = some u0) (h1 : w.cell? ⟨b, 1, none⟩ = some u1) :
  ((w.setCell ⟨b, 0, none⟩ v0).setCell ⟨b, 1, none⟩ v1).cell? ⟨b, 0, none⟩ = some v0 ∧ ((w.setCell ⟨b, 0, none⟩ v0).setCell ⟨b, 1, none⟩ v1).cell? ⟨b, 1, none⟩ = some v1 := by
 refine ⟨?_, ?_⟩
 ·rw [World.cell?_setCell_other _ _ _ _ (fun e => by injection e; omega)]
  exact World.cell?_setCell_same w ⟨b, 0, none⟩ _ h0
 ·exact World.cell?_setCell_same _ ⟨b, 1, none⟩ _ ((World.cell?_setCell_other _ _ _ _ (fun e => by injection e; omega)).trans h1)
set_option maxHeartbeats 4000000 in
theorem point_any (w : World) (B : Nat) (ca : Option Addr) (len cap n : Nat) (hl : len ≤ 9223372036854775807) (hn : n ≤ 10000000) (hc : Cur w B ca len cap n) (hd : Code w B ca len) :
  Calls Try.prog 39 #[.pointer (some ⟨B, 0, none⟩)] w fun e w' => PtDrawn e ∧ Cur w' B ca len cap (n + 42) ∧ Gr B w w' := by
 have hB := hc.lt
 have HB : Hid (B < w.heap.size) := hB
 obtain ⟨R, hR⟩ : ∃ R, w.heap.size = R := ⟨_, rfl⟩
 have HR : Hid (w.heap.size = R) := hR
 obtain ⟨W, hW⟩ : ∃ W, w.alloc (.cells #[.int .i64 0, .int .i64 0] 27) = W := ⟨_, rfl⟩
 have C0 : Hid (Cur W B ca len cap n) := by show Cur _ _ _ _ _ _; rw [← hW]; exact hc.alloc _ _
 have G0 : Hid (Gr B w W) := by show Gr _ _ _; rw [← hW]; exact (Gr.refl B w).alloc _
 have r0 : W.cell? ⟨R, 0, none⟩ = some (.int .i64 0) := by rw [← hW, ← hR]; simp
 have r1 : W.cell? ⟨R, 1, none⟩ = some (.int .i64 0) := by rw [← hW, ← hR]; simp
 have rf : ∀ o, W.frozen? ⟨R, o, none⟩ = false := fun o => by rw [← hW, ← hR]; exact World.frozen?_alloc_at _ _ _ _ rfl
 have hRW : R < W.heap.size := by rw [← hW, ← hR]; simp
 have DC : Hid (∀ w', Gr B w w' → Code w' B ca len) := fun w' h => Code.below hd (h.below (by omega))
 have hRB : R ≠ B := by omega
 have HW : Hid (_ = W) := hW
 have HX : Hid (∀ w', Gr B W w' → (w'.cell? ⟨R, 0, none⟩ = some (.int .i64 0) ∧ w'.cell? ⟨R, 1, none⟩ = some (.int .i64 0) ∧ ∀ o, w'.frozen? ⟨R, o, none⟩ = false)) := fun w' h => ⟨(h.cell hRW hRB 0).trans r0, (h.cell hRW hRB 1).trans r1, fun o => (h.frozen hRW hRB o).trans (rf o)⟩
 clear hc hd hB hW r0 r1 rf hRW
 go_enter Try.func39, Try.ntmps39
 go_wp2_with fail
 rw [HW.out]
 clear HW hR
 refine (one_any W B ca len cap n 16 hl (by omega) (by omega) (by omega) C0.out (DC.out _ G0.out)).mono ?_
 rintro e w1 ⟨b1, rfl, hc1, hb1⟩
 have C1 : Hid (Cur w1 B ca len cap (n + 2)) := hc1
 have G1 : Hid (Gr B W w1) := Gr.of_sel hb1
 clear hc1 hb1 C0
 cases b1 with
 | true =>
  go_wp2_with fail
  refine (fixed_gr w1 B ca len cap _ hl (by omega) C1.out (DC.out _ (G0.out.trans G1.out))).mono ?_
  rintro e w2 ⟨x, rfl, _, hc, hg⟩
  have C2 : Hid (Cur w2 B ca len cap (n + 22)) := hc
  have G2 : Hid (Gr B W w2) := G1.out.trans hg
  clear hc hg C1 G1
  go_wp2_with fail
  refine (fixed_gr w2 B ca len cap _ hl (by omega) C2.out (DC.out _ (G0.out.trans G2.out))).mono ?_
  rintro e w3 ⟨y, rfl, _, hc, hg⟩
  have C3 : Hid (Cur w3 B ca len cap (n + 42)) := hc
  have G3 : Hid (Gr B W w3) := G2.out.trans hg
  clear hc hg C2 G2
  obtain ⟨z0, z1, zf⟩ := HX.out w3 G3.out
  obtain ⟨s0, s1⟩ := set_two w3 R (.int .i64 x) (.int .i64 y) z0 z1
  go_wp2
  refine bodyPost_ret (v := .agg #[.int .i64 x, .int .i64 y]) (by simp [results, Try.results39, go_sem, s0, s1]) rfl ⟨⟨x, y, rfl⟩, (C3.out.set hRB _ _).set hRB _ _, ((G0.out.trans G3.out).set (by rw [HR.out]; exact Nat.le_refl _) _ _).set (by rw [HR.out]; exact Nat.le_refl _) _ _⟩
 | false =>
  go_wp2_with fail
  refine (pick_any w1 B ca len cap _ 80 hl (by omega) (by omega) (by omega) C1.out (DC.out _ (G0.out.trans G1.out))).mono ?_
  rintro e w2 ⟨x, rfl, x0, x1, hc, hg⟩
  have C2 : Hid (Cur w2 B ca len cap (n + 4)) := hc
  have G2 : Hid (Gr B W w2) := G1.out.trans (Gr.of_sel hg)
  clear hc hg C1 G1
  go_wp2_with fail
  refine (pick_any w2 B ca len cap _ 80 hl (by omega) (by omega) (by omega) C2.out (DC.out _ (G0.out.trans G2.out))).mono ?_
  rintro e w3 ⟨y, rfl, y0, y1, hc, hg⟩
  have C3 : Hid (Cur w3 B ca len cap (n + 6)) := hc
  have G3 : Hid (Gr B W w3) := G2.out.trans (Gr.of_sel hg)
  clear hc hg C2 G2
  obtain ⟨z0, z1, zf⟩ := HX.out w3 G3.out
  obtain ⟨s0, s1⟩ := set_two w3 R (.int .i64 ((x - 20) * 13107)) (.int .i64 ((y - 20) * 13107)) z0 z1
  go_wp2
  refine bodyPost_ret (v := .agg #[.int .i64 ((x - 20) * 13107), .int .i64 ((y - 20) * 13107)]) (by simp [results, Try.results39, go_sem, s0, s1]) rfl ⟨⟨_, _, rfl⟩, Cur.mono ((C3.out.set hRB _ _).set hRB _ _) (by omega), ((G0.out.trans G3.out).set (by rw [HR.out]; exact Nat.le_refl _) _ _).set (by rw [HR.out]; exact Nat.le_refl _) _ _⟩
def LenS (w : World) (e : Ending) (w' : World) : Prop := ∃ (v : Int) (ok : Bool), e = .returned (.tuple #[.int .i64 v, .bool ok]) ∧ w' = w
set_option maxHeartbeats 4000000 in
theorem rlen_some (s : ByteArray) (w : World) (hs : s.size ≤ 1048576) : Calls Try.prog 133 #[.string s] w fun e w' => LenS w e w' := by
 by_cases h6 : s.size ≤ 600
 case neg =>
  have hd : decide ((600 : Int) < (s.size : Int)) = true := decide_eq_true (by omega)
  go_enter Try.func133, Try.ntmps133
  go_wp2
  go_ret2
  exact ⟨0, false, rfl, rfl⟩
 have hd : decide ((600 : Int) < (s.size : Int)) = false := decide_eq_false (by omega)
 go_enter Try.func133, Try.ntmps133
 go_wp2_with fail
 refine (trim_some s _ hs).mono ?_
 rintro e w1 ⟨t, rfl, ht, hq⟩
 have hq2 := hq.symm; clear hq; subst hq2
 go_wp2_with fail
 refine (dec_some t _ (by omega)).mono ?_
 rintro e w2 ⟨n, y, rfl, hn, hq⟩
 have hq2 := hq.symm; clear hq; subst hq2
 by_cases hn0 : n = 0
 ·subst hn0
  go_wp2
  go_ret2
  exact ⟨0, false, rfl, rfl⟩
 have z : ((n : Int) == 0) = false := by rw [beq_eq_false_iff_ne]; omega
 obtain ⟨u, hu⟩ : ∃ u, t.extract n t.size = u := ⟨_, rfl⟩
 go_upto_block 0 with fail
 go_cut [5, 6, 7] (fun a b c wx => ∃ x m d : Int, a = .int .i64 x ∧ b = .int .i64 m ∧ c = .int .i64 d ∧ 0 < d ∧ d ≤ 1000000 ∧ w = wx)
 case first =>
  by_cases c : u = ⟨#[]⟩
  ·have q0 : u.toList.isEmpty = true := by rw [c, Lib.toList_data]; rfl
   have q0b : u.toList = [] := by rw [c, Lib.toList_data]
   clear c
   go_wp2
   go_meet
   exact ⟨y, 1, 1, rfl, rfl, rfl, by omega, by omega, rfl⟩
  obtain ⟨q0, q0b⟩ := empn u c
  clear c
  by_cases c : u = ⟨#[112, 120]⟩
  ·have q1 := beqy u [112, 120] c
   clear c
   go_wp2
   go_meet
   exact ⟨y, 1, 1, rfl, rfl, rfl, by omega, by omega, rfl⟩
  have q1 := beqn u [112, 120] c
  clear c
  by_cases c : u = ⟨#[112, 116]⟩
  ·have q2 := beqy u [112, 116] c
   clear c
   go_wp2
   go_meet
   exact ⟨y, 400, 300, rfl, rfl, rfl, by omega, by omega, rfl⟩
  have q2 := beqn u [112, 116] c
  clear c
  by_cases c : u = ⟨#[112, 99]⟩
  ·have q3 := beqy u [112, 99] c
   clear c
   go_wp2
   go_meet
   exact ⟨y, 1600, 100, rfl, rfl, rfl, by omega, by omega, rfl⟩
  have q3 := beqn u [112, 99] c
  clear c
  by_cases c : u = ⟨#[105, 110]⟩
  ·have q4 := beqy u [105, 110] c
   clear c
   go_wp2
   go_meet
   exact ⟨y, 9600, 100, rfl, rfl, rfl, by omega, by omega, rfl⟩
  have q4 := beqn u [105, 110] c
  clear c
  by_cases c : u = ⟨#[99, 109]⟩
  ·have q5 := beqy u [99, 109] c
   clear c
   go_wp2
   go_meet
   exact ⟨y, 9600, 254, rfl, rfl, rfl, by omega, by omega, rfl⟩
  have q5 := beqn u [99, 109] c
  clear c
  by_cases c : u = ⟨#[109, 109]⟩
  ·have q6 := beqy u [109, 109] c
   clear c
   go_wp2
   go_meet
   exact ⟨y, 9600, 2540, rfl, rfl, rfl, by omega, by omega, rfl⟩
  have q6 := beqn u [109, 109] c
  clear c
  go_wp2
  go_ret2
  exact ⟨0, false, rfl, rfl⟩
 case rest =>
  clear hu
  obtain ⟨x, m, d, rfl, rfl, rfl, hd0, hd1, rfl⟩ := hcut
  go_wp2_with fail
  refine (dwn_any _ d hd0 hd1 _).mono ?_
  rintro e w' ⟨v, rfl, rfl⟩
  go_wp2_with fail
  refine (gfix_any _ _).mono ?_
  rintro e w' ⟨b, rfl, rfl⟩
  cases b with
  | true =>
   go_wp2
   go_ret2
   exact ⟨_, _, rfl, rfl⟩
  | false =>
   go_wp2
   go_ret2
   exact ⟨_, _, rfl, rfl⟩
set_option maxHeartbeats 2000000 in
theorem rnums_few (s : ByteArray) (w : World) (hs : s.size ≤ 1048576) : Calls Try.prog 112 #[.string s] w fun e w' => FewS w e w' := by
 by_cases h6 : s.size ≤ 600
 case neg =>
  have hd : decide ((600 : Int) < (s.size : Int)) = true := decide_eq_true (by omega)
  go_enter Try.func112, Try.ntmps112
  go_wp2
  go_ret2
  exact ⟨_, [], false, rfl, by simp, Ins.nil _ _, Below.refl _ _⟩
 have hd : decide ((600 : Int) < (s.size : Int)) = false := decide_eq_false (by omega)
 go_enter Try.func112, Try.ntmps112
 go_wp2_with fail
 refine (snums_few s _ hs).mono ?_
 rintro e w1 ⟨v, l, ok, rfl, hl, hi, hb⟩
 go_wp2
 go_ret2
 exact ⟨v, l, ok, rfl, hl, hi, hb⟩
theorem under_pts : Try.prog.underlying 23 = some (.slice 27) := Try.underlying23
theorem under_lpts : Try.prog.underlying 100 = some (.slice 27) := by kernel_rfl
def LieP (w : World) (g off : Nat) (its : List Pnt) : Prop := g < w.heap.size ∧ ∀ i, i < its.length → w.cell? ⟨g, off + i * 2, none⟩ = some (.int .i64 (ptAt its i).1) ∧ w.cell? ⟨g, off + i * 2 + 1, none⟩ = some (.int .i64 (ptAt its i).2)
theorem LieP.vv {w : World} {g off : Nat} {its : List Pnt} (h : LieP w g off its) : ∀ i, i < (vP its).length → w.cell? ⟨g, off + i * 2, none⟩ = some (vvAt (vP its) i).1 ∧ w.cell? ⟨g, off + i * 2 + 1, none⟩ = some (vvAt (vP its) i).2 := fun i hi => by
 rw [vP_len] at hi
 rw [vP_at its i hi]
 exact h.2 i hi
theorem LieP.nw {w w' : World} {g off : Nat} {its : List Pnt} (h : LieP w g off its) (k : Nw w w') : LieP w' g off its :=
 ⟨Nat.lt_of_lt_of_le h.1 (Below.size k), fun i hi => ⟨((bcell k).1 _ _ h.1).trans (h.2 i hi).1, ((bcell k).1 _ _ h.1).trans (h.2 i hi).2⟩⟩
theorem Pts.lie {w : World} {a : Option Addr} {l : List Pnt} (h : Pts w a l) (hn : 0 < l.length) : ∃ g off, a = some ⟨g, off, none⟩ ∧ LieP w g off l := by
 rcases h with h | ⟨b, off, rfl, hb, hc⟩
 ·rw [h] at hn; simp at hn
 ·exact ⟨b, off, rfl, hb, hc⟩
theorem liep_one (w : World) (x y : Int) (t : TypeId) : LieP (w.alloc (.cells #[.int .i64 x, .int .i64 y] t)) w.heap.size 0 [(x, y)] := by
 refine ⟨by simp, fun i hi => ?_⟩
 have : i = 0 := by simp at hi; omega
 subst this
 simp [ptAt]
set_option maxHeartbeats 1000000 in
theorem iaddP (w : World) (b o B : Nat) (v : Value) (l its : List Pnt) (g off m c : Nat) (hm : m = its.length) (hbox : w.cell? ⟨b, o, none⟩ = some v) (hfr : w.frozen? ⟨b, o, none⟩ = false) (hown : OwnP w B v l) (hits : LieP w g off its)
  (hn : 0 < its.length) (hlen : l.length + its.length ≤ 1000000) (hB : B ≤ w.heap.size) (hne : v.ownBlock ≠ some b) :
  Calls Try.prog 74 #[.pointer (some ⟨b, o, none⟩), .slice (some ⟨g, off, none⟩) m c] w fun e w' => e = .returned (.tuple #[]) ∧ ∃ g' c' w1, OwnP w1 B (.slice (some ⟨g', 0, none⟩) (l ++ its).length c') (l ++ its) ∧ Ext v (.slice (some ⟨g', 0, none⟩) (l ++ its).length c') w w1 ∧ w' = w1.setCell ⟨b, o, none⟩ (.slice (some ⟨g', 0, none⟩) (l ++ its).length c') := by
 subst hm
 have hb : b < w.heap.size := World.block_lt_of_cell? w ⟨b, o, none⟩ hbox
 obtain ⟨sa, sn, sc, rfl⟩ := OwnQ.slice hown
 have HO : Hid (OwnP w B (.slice sa sn sc) l) := hown
 have HI : Hid _ := hits.vv
 have HB : Hid (B ≤ w.heap.size) := hB
 have HN : Hid (0 < its.length) := hn
 have HL : Hid (l.length + its.length ≤ 1000000) := hlen
 have HE : Hid ((Value.slice sa sn sc).ownBlock ≠ some b) := hne
 clear hown hits hB hn hlen hne
 go_enter Try.func74, Try.ntmps74
 go_wp2_with (at_builtin; (refine wpl_q 27 100 23 (.int .i64 0) (.int .i64 0) 16 under_lpts under_pts Try.info27 (by decide) rfl w (.tmp 7) (.tmp 8) rfl B (.slice sa sn sc) (vP l) (vP its) rfl HO.out g off its.length c (vP_len its).symm rfl HI.out (vP_one its) (by rw [vP_len]; exact HN.out) ?cl HB.out rfl ?_))
 case cl => rw [vP_len, vP_len]; have := HL.out; omega
 intro g' c' w1 h2 h3
 rw [vP_len, ← vP_append] at h2
 rw [vP_len] at h3
 have y0 : w1.cell? ⟨b, o, none⟩ = some (.slice sa sn sc) := (Ext.cell h3 hb HE.out o).trans hbox
 have y1 : w1.frozen? ⟨b, o, none⟩ = false := (World.frozen?_of_block (w := w) (a := ⟨b, o, none⟩) (h3.1.block b hb (fun e => HE.out e.symm))).trans hfr
 have H2 : Hid _ := h2
 have H3 : Hid _ := h3
 rw [vP_len]
 clear h2 h3 hbox hfr
 go_wp2
 go_end0
 refine ⟨rfl, g', c', w1, ?_, ?_, ?_⟩
 ·rw [List.length_append]; exact H2.out
 ·rw [List.length_append]; exact H3.out
 ·rw [List.length_append]
def LV (bx : Nat) (w : World) (l : List Pnt) : Prop := ∃ v, w.cell? ⟨bx, 0, none⟩ = some v ∧ (∀ o, w.frozen? ⟨bx, o, none⟩ = false) ∧ OwnP w (bx + 1) v l
theorem LV.lt {bx : Nat} {w : World} {l : List Pnt} (h : LV bx w l) : bx < w.heap.size := by
 obtain ⟨v, h1, _⟩ := h
 exact World.block_lt_of_cell? w ⟨bx, 0, none⟩ h1
theorem LV.nw {bx : Nat} {w w' : World} {l : List Pnt} (h : LV bx w l) (k : Nw w w') : LV bx w' l := by
 have hb := h.lt
 obtain ⟨v, h1, h2, h3⟩ := h
 exact ⟨v, ((bcell k).1 _ _ hb).trans h1, fun o => ((bcell k).2 _ _ hb).trans (h2 o), h3.nw k⟩
theorem LV.new (w : World) (t : TypeId) : LV w.heap.size (w.alloc (.cells #[.slice none 0 0] t)) [] :=
 ⟨.slice none 0 0, by simp, fun o => World.frozen?_alloc_at _ _ _ _ rfl, OwnP.nil _ _⟩
theorem LV.val {bx : Nat} {w : World} {l : List Pnt} (h : LV bx w l) : ∃ a c, w.cell? ⟨bx, 0, none⟩ = some (.slice a l.length c) ∧ OwnP w (bx + 1) (.slice a l.length c) l := by
 obtain ⟨v, h1, h2, h3⟩ := h
 obtain ⟨a, c, rfl, _⟩ := h3.pts
 exact ⟨a, c, h1, h3⟩
theorem Nw.below {b : Nat} {w w' : World} (h : Nw w w') (hb : b ≤ w.heap.size) : Below b w w' := Below.mono h hb
theorem iadd_lv (w : World) (bx : Nat) (l its : List Pnt) (g off m c : Nat) (hm : m = its.length) (h : LV bx w l) (hits : LieP w g off its) (hn : 0 < its.length) (hlen : l.length + its.length ≤ 1000000) :
  Calls Try.prog 74 #[.pointer (some ⟨bx, 0, none⟩), .slice (some ⟨g, off, none⟩) m c] w fun e w' => e = .returned (.tuple #[]) ∧ LV bx w' (l ++ its) ∧ Below bx w w' := by
 have hb := h.lt
 obtain ⟨v, h1, h2, h3⟩ := h
 have hne : v.ownBlock ≠ some bx := fun e => by have := (OwnQ.lt h3 bx e).1; omega
 refine (iaddP w bx 0 (bx + 1) v l its g off m c hm h1 (h2 0) h3 hits hn hlen (by omega) hne).mono ?_
 rintro e w' ⟨rfl, g', c', w1, k1, k2, rfl⟩
 have hne2 : (Value.slice (some ⟨g', 0, none⟩) (l ++ its).length c').ownBlock ≠ some bx := Ext.apart k2 hb hne
 have hf : ∀ o, w1.frozen? ⟨bx, o, none⟩ = false := fun o => (World.frozen?_of_block (w := w) (a := ⟨bx, o, none⟩) (k2.1.block bx hb (fun e => hne e.symm))).trans (h2 o)
 refine ⟨rfl, ⟨_, World.cell?_setCell_same w1 ⟨bx, 0, none⟩ _ ((Ext.cell k2 hb hne 0).trans h1), fun o => by rw [World.frozen?_setCell]; exact hf o, OwnQ.far k1 bx 0 _ hne2⟩, ?_⟩
 exact (k2.below (fun g e => Nat.le_of_succ_le (OwnQ.lt h3 g e).1) (by omega)).setCell (Nat.le_refl _) _
theorem iadd_one (w : World) (bx : Nat) (l : List Pnt) (x y : Int) (t : TypeId) (h : LV bx w l) (hlen : l.length + 1 ≤ 1000000) :
  Calls Try.prog 74 #[.pointer (some ⟨bx, 0, none⟩), .slice (some ⟨w.heap.size, 0, none⟩) 1 1] (w.alloc (.cells #[.int .i64 x, .int .i64 y] t)) fun e w' => e = .returned (.tuple #[]) ∧ LV bx w' (l ++ [(x, y)]) ∧ Below bx w w' := by
 have n1 : Nw w (w.alloc (.cells #[.int .i64 x, .int .i64 y] t)) := (Below.refl _ _).alloc (Nat.le_refl _) _
 refine (iadd_lv _ bx l [(x, y)] w.heap.size 0 1 1 rfl (h.nw n1) (liep_one w x y t) (by simp) (by simpa using hlen)).mono ?_
 rintro e w' ⟨rfl, k1, k2⟩
 exact ⟨rfl, k1, Below.trans (n1.below (Nat.le_of_lt h.lt)) k2⟩
def AtR (w : World) (a : Option Addr) (n : Nat) : Prop := n = 0 ∨ ∃ b, a = some ⟨b, 0, none⟩ ∧ b < w.heap.size ∧ ∀ i, i < n → ∃ x y : ByteArray, w.cell? ⟨b, i * 2, none⟩ = some (.string x) ∧ w.cell? ⟨b, i * 2 + 1, none⟩ = some (.string y) ∧ y.size ≤ 3000
theorem AtR.nw {w w' : World} {a : Option Addr} {n : Nat} (h : AtR w a n) (k : Nw w w') : AtR w' a n := by
 rcases h with h | ⟨b, rfl, hb, hc⟩
 ·exact Or.inl h
 ·refine Or.inr ⟨b, rfl, Nat.lt_of_lt_of_le hb (Below.size k), fun i hi => ?_⟩
  obtain ⟨x, y, h1, h2, h3⟩ := hc i hi
  exact ⟨x, y, ((bcell k).1 _ _ hb).trans h1, ((bcell k).1 _ _ hb).trans h2, h3⟩
def AttrS (w : World) (e : Ending) (w' : World) : Prop := ∃ (y : ByteArray) (ok : Bool), e = .returned (.tuple #[.string y, .bool ok]) ∧ y.size ≤ 3000 ∧ Nw w w'
set_option maxHeartbeats 2000000 in
theorem sattr_some (w : World) (nm tx s : ByteArray) (up : Int) (a : Option Addr) (n c : Nat) (hn : n ≤ 1000) (hr : AtR w a n) :
  Calls Try.prog 107 #[.agg #[.string nm, .int .i64 up, .slice a n c, .string tx], .string s] w fun e w' => AttrS w e w' := by
 have HR : Hid (AtR w a n) := hr
 clear hr
 go_enter Try.func107, Try.ntmps107
 go_wp2
 go_loopw [11] (fun i wr => ∃ k : Nat, k ≤ n ∧ i = .int .i64 k ∧ Nw w wr) (fun i _ => n - (intOf i).toNat)
 case atStart => exact ⟨0, Nat.zero_le _, rfl, (Below.refl _ _).alloc (Nat.le_refl _) _⟩
 case round =>
  obtain ⟨k, hk, rfl, hw⟩ := hrel
  have HW : Hid (Nw w wr) := hw
  by_cases hlt : k < n
  ·rcases (HR.out.nw hw) with h | ⟨b, rfl, hb, hc⟩
   ·omega
   obtain ⟨x, y, q0, q1, hy⟩ := hc k hlt
   clear hc hw
   cases hq : (x.toList == s.toList) with
   | true =>
    go_wp2
    go_ret2
    exact ⟨y, true, rfl, hy, HW.out.trans ((Below.refl _ _).alloc (Nat.le_refl _) _)⟩
   | false =>
    go_wp2
    go_roundw
    case rel => exact ⟨k + 1, by omega, by go_num, HW.out.trans ((Below.refl _ _).alloc (Nat.le_refl _) _)⟩
    case measure => simp [intOf]; omega
  ·clear hw
   go_wp2
   go_ret2
   exact ⟨⟨#[]⟩, false, rfl, by show (0 : Nat) ≤ 3000; omega, HW.out⟩
def LensS (m : Nat) (w : World) (e : Ending) (w' : World) : Prop := ∃ (v : Value) (l : List Int) (ok : Bool), e = .returned (.tuple #[v, .bool ok]) ∧ (ok = true → l.length = m) ∧ l.length ≤ m ∧ Ins w' w.heap.size v l ∧ Nw w w'
set_option maxHeartbeats 4000000 in
theorem slens_some (w : World) (nm tx : ByteArray) (up : Int) (a : Option Addr) (n c : Nat) (hn : n ≤ 1000) (hr : AtR w a n) (L m : Nat) (l : List ByteArray) (hlm : l.length = m) (hm : m ≤ 100) (hL : L < w.heap.size) (hN : Txts w L l) :
  Calls Try.prog 108 #[.agg #[.string nm, .int .i64 up, .slice a n c, .string tx], .slice (some ⟨L, 0, none⟩) m m] w fun e w' => LensS m w e w' := by
 have HR : Hid (AtR w a n) := hr
 have HN : Hid (∀ i, i < m → ∃ s : ByteArray, w.cell? ⟨L, i, none⟩ = some (.string s)) := fun i hi => ⟨_, hN i (by omega)⟩
 clear hr hN hlm
 obtain ⟨W, hW⟩ : ∃ W, w.alloc (.cells #[.string nm, .int .i64 up, .slice a n c, .string tx] 131) = W := ⟨_, rfl⟩
 have NW : Hid (Nw w W) := by show Nw _ _; rw [← hW]; exact (Below.refl _ _).alloc (Nat.le_refl _) _
 have h0 : W.cell? ⟨w.heap.size, 0, none⟩ = some (.string nm) := by rw [← hW]; simp
 have h1 : W.cell? ⟨w.heap.size, 1, none⟩ = some (.int .i64 up) := by rw [← hW]; simp
 have h2 : W.cell? ⟨w.heap.size, 2, none⟩ = some (.slice a n c) := by rw [← hW]; simp
 have h3 : W.cell? ⟨w.heap.size, 3, none⟩ = some (.string tx) := by rw [← hW]; simp
 have hWs : w.heap.size < W.heap.size := by rw [← hW]; simp
 have HW : Hid (_ = W) := hW
 clear hW
 go_enter Try.func108, Try.ntmps108
 go_wp2
 rw [HW.out]
 go_loopw [6, 16] (fun x i wr => ∃ (k : Nat) (out : List Int) (xv : Value), x = xv ∧ k ≤ m ∧ i = .int .i64 k ∧ out.length = k ∧ Ins wr W.heap.size xv out ∧ Nw W wr) (fun _ i _ => m - (intOf i).toNat)
 case atStart => exact ⟨0, [], _, rfl, Nat.zero_le _, rfl, rfl, Ins.nil _ _, Below.refl _ _⟩
 case round =>
  obtain ⟨k, out, xv, hx, hk, rfl, hlen, hins, hw⟩ := hrel
  have hx2 := hx.symm
  clear hx
  subst hx2
  subst hlen
  have HI : Hid (Ins wr W.heap.size _ out) := hins
  have HWR : Hid (Nw W wr) := hw
  have NR : Hid (Nw w wr) := NW.out.trans hw
  obtain ⟨va, vc, rfl⟩ := few_form hins
  have y0 := ((bcell hw).1 w.heap.size 0 hWs).trans h0
  have y1 := ((bcell hw).1 w.heap.size 1 hWs).trans h1
  have y2 := ((bcell hw).1 w.heap.size 2 hWs).trans h2
  have y3 := ((bcell hw).1 w.heap.size 3 hWs).trans h3
  clear hins hw
  by_cases hlt : out.length < m
  ·obtain ⟨s, hs⟩ := HN.out out.length hlt
   have hs2 := ((bcell NR.out).1 L out.length hL).trans hs
   clear hs h0 h1 h2 h3
   go_wp2_with fail
   refine (sattr_some wr nm tx s up a n c hn (HR.out.nw NR.out)).mono ?_
   rintro e w1 ⟨y, ok, rfl, hy, k1⟩
   have HI1 : Hid (Ins w1 W.heap.size (.slice va out.length vc) out) := HI.out.nw k1
   have HW1 : Hid (Nw W w1) := HWR.out.trans k1
   have N1 : Hid (Nw w w1) := NR.out.trans k1
   clear k1 hs2 y0 y1 y2 y3 HI HWR NR
   go_upto_if 26 with fail
   go_cut [11] (fun z wx => ∃ v : Int, z = .int .i64 v ∧ w1 = wx)
   case first =>
    cases ok with
    | true =>
     go_wp2_with fail
     refine (rlen_some y w1 (by omega)).mono ?_
     rintro e w2 ⟨v, ok2, rfl, hq⟩
     have hq2 := hq.symm; clear hq; subst hq2
     cases ok2 with
     | true =>
      go_wp2
      go_meet
      exact ⟨v, rfl, rfl⟩
     | false =>
      go_wp2
      go_ret2
      exact ⟨_, [], false, rfl, fun h => (by cases h), by simp, Ins.nil _ _, N1.out⟩
    | false =>
     go_wp2
     go_meet
     exact ⟨0, rfl, rfl⟩
   case rest =>
    obtain ⟨v, rfl, rfl⟩ := hcut
    have HB0 : ∀ o, Hid (Nw w1 (w1.alloc o)) := fun o => (Below.refl _ _).alloc (Nat.le_refl _) o
    have HA0 : ∀ o, Hid (Nw W (w1.alloc o)) := fun o => HW1.out.trans (HB0 o).out
    have hol : out.length ≤ 10000000 := by omega
    go_wp2_with (at_builtin; (refine wp_in _ rfl _ _ rfl W.heap.size _ out v rfl (HI1.out.nw (HB0 _).out) _ rfl ?c1 hol ?c3 ?_))
    case c1 => simp
    case c3 => exact Below.size (HA0 _).out
    intro v' w' h1 h2
    have H1 : Hid (Ins w' W.heap.size v' (out ++ [v])) := h1
    have HE : Hid (Nw W w') := Below.trans (HA0 _).out (Ins.below (HI1.out.nw (HB0 _).out) h2 (Below.size (HA0 _).out))
    clear h1 h2 HB0 HA0
    go_wp2
    go_roundw
    case rel => exact ⟨out.length + 1, out ++ [v], _, rfl, by omega, by go_num, by simp, H1.out, HE.out⟩
    case measure => simp [intOf]; omega
  ·have hlen : out.length = m := by omega
   go_wp2
   go_ret2
   exact ⟨_, out, true, rfl, fun _ => hlen, by omega, World.ownsRow.mono HI.out (Below.size NW.out), NR.out⟩
theorem nw_drx (w : World) : Nw w w.drew := ⟨rfl, rfl, rfl, Nat.le_refl _, fun _ _ => rfl⟩
def AtV (x : VV) : Prop := ∃ a b : ByteArray, x = (.string a, .string b) ∧ b.size ≤ 3000
def AtVs (q : List VV) : Prop := ∀ i, i < q.length → AtV (vvAt q i)
theorem info_atr : (Try.prog.info? 159).map (fun i => (i.zero, i.size, i.bytes)) = some (some (.agg #[.string ⟨#[]⟩, .string ⟨#[]⟩]), 2, 32) := by kernel_rfl
structure NdG (B R Q : Nat) (w w' : World) (nm : ByteArray) (v : Value) (q : List VV) : Prop where
 c0 : w'.cell? ⟨Q, 0, none⟩ = some (.string nm)
 c1 : w'.cell? ⟨Q, 1, none⟩ = some (.int .i64 0)
 c2 : w'.cell? ⟨Q, 2, none⟩ = some v
 c3 : w'.cell? ⟨Q, 3, none⟩ = some (.string ⟨#[]⟩)
 qf : ∀ o, w'.frozen? ⟨Q, o, none⟩ = false
 r0 : w'.cell? ⟨R, 0, none⟩ = some (.string ⟨#[]⟩)
 r1 : w'.cell? ⟨R, 1, none⟩ = some (.int .i64 0)
 r2 : w'.cell? ⟨R, 2, none⟩ = some (.slice none 0 0)
 r3 : w'.cell? ⟨R, 3, none⟩ = some (.string ⟨#[]⟩)
 rf : ∀ o, w'.frozen? ⟨R, o, none⟩ = false
 own : OwnQ 159 w' (Q + 1) v q
 ats : AtVs q
 g : Gr B w w'
 o1 : B < w.heap.size
 o2 : w.heap.size ≤ R
 o3 : R < Q
section
variable {B R Q : Nat} {w w1 w2 : World} {nm : ByteArray} {v : Value} {q : List VV}
theorem NdG.lt (h : NdG B R Q w w1 nm v q) : Q < w1.heap.size := World.block_lt_of_cell? w1 ⟨Q, 0, none⟩ h.c0
theorem NdG.ne (h : NdG B R Q w w1 nm v q) (b : Nat) (hb : b ≤ Q) : v.ownBlock ≠ some b := fun e => by have := (OwnQ.lt h.own b e).1; omega
theorem NdG.go (h : NdG B R Q w w1 nm v q) (k : Gr B w1 w2) : NdG B R Q w w2 nm v q := by
 have hl := h.lt
 have o1 := h.o1
 have o2 := h.o2
 have o3 := h.o3
 have eq := fun o => k.cell (g := Q) hl (by omega) o
 have er := fun o => k.cell (g := R) (by omega) (by omega) o
 exact ⟨(eq 0).trans h.c0, (eq 1).trans h.c1, (eq 2).trans h.c2, (eq 3).trans h.c3, fun o => (k.frozen hl (by omega) o).trans (h.qf o), (er 0).trans h.r0, (er 1).trans h.r1, (er 2).trans h.r2, (er 3).trans h.r3, fun o => (k.frozen (by omega) (by omega) o).trans (h.rf o),
  World.ownsRow.kept h.own k (Or.inr (h.ne B (by omega))), h.ats, h.g.trans k, o1, o2, o3⟩
theorem NdG.name (h : NdG B R Q w w1 nm v q) (nm' : ByteArray) : NdG B R Q w (w1.setCell ⟨Q, 0, none⟩ (.string nm')) nm' v q := by
 have o1 := h.o1
 have o2 := h.o2
 have o3 := h.o3
 have e : ∀ o', o' ≠ 0 → _ := fun o' ho => offc w1 Q 0 o' (.string nm') ho
 have er : ∀ o', (w1.setCell ⟨Q, 0, none⟩ (.string nm')).cell? ⟨R, o', none⟩ = w1.cell? ⟨R, o', none⟩ := fun o' => World.cell?_setCell_other _ _ _ _ (fun e => by injection e; omega)
 exact ⟨World.cell?_setCell_same w1 ⟨Q, 0, none⟩ _ h.c0, (e 1 (by omega)).trans h.c1, (e 2 (by omega)).trans h.c2, (e 3 (by omega)).trans h.c3, fun o => by rw [World.frozen?_setCell]; exact h.qf o, (er 0).trans h.r0, (er 1).trans h.r1, (er 2).trans h.r2, (er 3).trans h.r3, fun o => by rw [World.frozen?_setCell]; exact h.rf o,
  OwnQ.far h.own Q 0 _ (h.ne Q (Nat.le_refl _)), h.ats, h.g.set (by omega) _ _, o1, o2, o3⟩
theorem NdG.row {v' : Value} {q' : List VV} (h : NdG B R Q w w1 nm v q) (hc : ∀ o, w2.cell? ⟨Q, o, none⟩ = w1.cell? ⟨Q, o, none⟩) (hf : ∀ o, w2.frozen? ⟨Q, o, none⟩ = w1.frozen? ⟨Q, o, none⟩) (hr : ∀ o, w2.cell? ⟨R, o, none⟩ = w1.cell? ⟨R, o, none⟩) (hrf : ∀ o, w2.frozen? ⟨R, o, none⟩ = w1.frozen? ⟨R, o, none⟩) (hg : Gr B w w2)
  (ho : OwnQ 159 w2 (Q + 1) v' q') (ha : AtVs q') : NdG B R Q w (w2.setCell ⟨Q, 2, none⟩ v') nm v' q' := by
 have o1 := h.o1
 have o2 := h.o2
 have o3 := h.o3
 have e : ∀ o', o' ≠ 2 → _ := fun o' ho => offc w2 Q 2 o' v' ho
 have er : ∀ o', (w2.setCell ⟨Q, 2, none⟩ v').cell? ⟨R, o', none⟩ = w2.cell? ⟨R, o', none⟩ := fun o' => World.cell?_setCell_other _ _ _ _ (fun e => by injection e; omega)
 exact ⟨(e 0 (by omega)).trans ((hc 0).trans h.c0), (e 1 (by omega)).trans ((hc 1).trans h.c1), World.cell?_setCell_same w2 ⟨Q, 2, none⟩ _ ((hc 2).trans h.c2), (e 3 (by omega)).trans ((hc 3).trans h.c3), fun o => by rw [World.frozen?_setCell]; exact (hf o).trans (h.qf o),
  (er 0).trans ((hr 0).trans h.r0), (er 1).trans ((hr 1).trans h.r1), (er 2).trans ((hr 2).trans h.r2), (er 3).trans ((hr 3).trans h.r3), fun o => by rw [World.frozen?_setCell]; exact (hrf o).trans (h.rf o),
  OwnQ.far ho Q 2 v' (fun e => by have := (OwnQ.lt ho Q e).1; omega), ha, hg.set (by omega) _ _, o1, o2, o3⟩
theorem NdG.put {v' : Value} {q' : List VV} (h : NdG B R Q w w1 nm v q) (k : Ext v v' w1 w2) (ho : OwnQ 159 w2 (Q + 1) v' q') (ha : AtVs q') : NdG B R Q w (w2.setCell ⟨Q, 2, none⟩ v') nm v' q' := by
 have hl := h.lt
 have o1 := h.o1
 have o2 := h.o2
 have o3 := h.o3
 have hQ := h.ne Q (Nat.le_refl _)
 have hR := h.ne R (by omega)
 refine h.row (fun o => k.cell hl hQ o) (fun o => World.frozen?_of_block (w := w1) (a := ⟨Q, o, none⟩) (k.1.block Q hl (fun e => hQ e.symm))) (fun o => k.cell (by omega) hR o) (fun o => World.frozen?_of_block (w := w1) (a := ⟨R, o, none⟩) (k.1.block R (by omega) (fun e => hR e.symm))) (h.g.put k (fun g e => by have := (OwnQ.lt h.own g e).1; omega)) ho ha
theorem NdG.lit (h : NdG B R Q w w1 nm v q) (a b : ByteArray) (hb : b.size ≤ 3000) : NdG B R Q w ((w1.alloc (.cells #[.string a, .string b] 159)).setCell ⟨Q, 2, none⟩ (.slice (some ⟨w1.heap.size, 0, none⟩) 1 1)) nm (.slice (some ⟨w1.heap.size, 0, none⟩) 1 1) [(.string a, .string b)] := by
 have hl := h.lt
 have o3 := h.o3
 have k : Nw w1 (w1.alloc (.cells #[.string a, .string b] 159)) := (Below.refl _ _).alloc (Nat.le_refl _) _
 refine h.row (fun o => (bcell k).1 _ _ hl) (fun o => (bcell k).2 _ _ hl) (fun o => (bcell k).1 _ _ (by omega)) (fun o => (bcell k).2 _ _ (by omega)) (h.g.trans (Gr.of_nw k)) (World.ownsRow_lit w1 #[.string a, .string b] 1 (by omega) (by unfold maxLen; omega) (by simp)) ?_
 intro i hi
 obtain rfl : i = 0 := by simpa using hi
 exact ⟨a, b, rfl, hb⟩
theorem NdG.at1 {g c : Nat} {a b : ByteArray} (h : NdG B R Q w w1 nm (.slice (some ⟨g, 0, none⟩) 1 c) [(.string a, .string b)]) : Q < g ∧ w1.cell? ⟨g, 1, none⟩ = some (.string b) ∧ ∀ o, w1.frozen? ⟨g, o, none⟩ = false := by
 have hg := (OwnQ.lt h.own g rfl).1
 rcases OwnQ.form h.own with ⟨_, e2⟩ | ⟨g', c', e1, hB, h3, _, _, h4, h5⟩
 ·cases e2
 ·injection e1 with e1 _ _
  injection e1 with e1
  injection e1 with e1 _ _
  subst e1
  exact ⟨by omega, (h4 0 (by simp)).2, h5⟩
theorem NdG.val {g c : Nat} {a b : ByteArray} (h : NdG B R Q w w1 nm (.slice (some ⟨g, 0, none⟩) 1 c) [(.string a, .string b)]) (s : ByteArray) (hs : s.size ≤ 3000) : NdG B R Q w (w1.setCell ⟨g, 1, none⟩ (.string s)) nm (.slice (some ⟨g, 0, none⟩) 1 c) [(.string a, .string s)] := by
 have hl := h.lt
 have o1 := h.o1
 have o2 := h.o2
 have o3 := h.o3
 have hg := (OwnQ.lt h.own g rfl).1
 have e : ∀ b' o', b' ≤ Q → (w1.setCell ⟨g, 1, none⟩ (.string s)).cell? ⟨b', o', none⟩ = w1.cell? ⟨b', o', none⟩ := fun b' o' hb' => World.cell?_setCell_other _ _ _ _ (fun e => by injection e; omega)
 have ho : w1.ownsRow (Q + 1) 159 2 (.slice (some ⟨g, 0, none⟩) 1 c) 1 [.string a, .string b] := h.own
 have ho2 := (World.ownsRow.stored ho 1 (.string s)).1
 exact ⟨(e Q 0 (Nat.le_refl _)).trans h.c0, (e Q 1 (Nat.le_refl _)).trans h.c1, (e Q 2 (Nat.le_refl _)).trans h.c2, (e Q 3 (Nat.le_refl _)).trans h.c3, fun o => by rw [World.frozen?_setCell]; exact h.qf o, (e R 0 (by omega)).trans h.r0, (e R 1 (by omega)).trans h.r1, (e R 2 (by omega)).trans h.r2, (e R 3 (by omega)).trans h.r3, fun o => by rw [World.frozen?_setCell]; exact h.rf o,
  ho2, fun i hi => by obtain rfl : i = 0 := (by simpa using hi); exact ⟨a, s, rfl, hs⟩, h.g.set (by omega) _ _, o1, o2, o3⟩
end
theorem cur_ext {w w' : World} {B : Nat} {ca : Option Addr} {len cap n : Nat} {v v' : Value} (h : Cur w B ca len cap n) (k : Ext v v' w w') (hne : v.ownBlock ≠ some B) : Cur w' B ca len cap n := by
 obtain ⟨k', sd, h1, h2, h3, c0, c1, c2, hf, hB⟩ := h
 have e := fun o => k.cell hB hne o
 exact ⟨k', sd, h1, h2, h3, (e _).trans c0, (e _).trans c1, (e _).trans c2, fun o => (World.frozen?_of_block (w := w) (a := ⟨B, o, none⟩) (k.1.block B hB (fun e => hne e.symm))).trans (hf o), Nat.lt_of_lt_of_le hB k.size⟩
def NodeS (w : World) (B : Nat) (e : Ending) (w' : World) : Prop := ∃ (nm tx : ByteArray) (up : Int) (a : Option Addr) (n c : Nat), e = .returned (.agg #[.string nm, .int .i64 up, .slice a n c, .string tx]) ∧ n ≤ 1000 ∧ AtR w' a n ∧ Gr B w w'
theorem NdG.done {B R Q : Nat} {w w1 : World} {nm : ByteArray} {a : Option Addr} {c : Nat} {q : List VV} (h : NdG B R Q w w1 nm (.slice a q.length c) q) (hq : q.length ≤ 1000) (u0 u1 u2 u3 : Value) :
  NodeS w B (.returned (.agg #[.string nm, .int .i64 0, .slice a q.length c, .string ⟨#[]⟩])) ((((w1.setCell ⟨R, 0, none⟩ u0).setCell ⟨R, 1, none⟩ u1).setCell ⟨R, 2, none⟩ u2).setCell ⟨R, 3, none⟩ u3) := by
 have o1 := h.o1
 have o2 := h.o2
 have o3 := h.o3
 refine ⟨nm, _, 0, a, q.length, c, rfl, hq, ?_, (((h.g.set (by omega) _ _).set (by omega) _ _).set (by omega) _ _).set (by omega) _ _⟩
 rcases OwnQ.form h.own with ⟨_, e2⟩ | ⟨g, c', e1, hB, h3, _, _, h4, _⟩
 ·exact Or.inl (by rw [e2]; rfl)
 ·injection e1 with e1 _ _
  subst e1
  refine Or.inr ⟨g, rfl, by simpa [World.setCell] using h3, fun i hi => ?_⟩
  obtain ⟨x, y, e, hy⟩ := h.ats i hi
  obtain ⟨k1, k2⟩ := h4 i hi
  rw [e] at k1 k2
  have far : ∀ o', ((((w1.setCell ⟨R, 0, none⟩ u0).setCell ⟨R, 1, none⟩ u1).setCell ⟨R, 2, none⟩ u2).setCell ⟨R, 3, none⟩ u3).cell? ⟨g, o', none⟩ = w1.cell? ⟨g, o', none⟩ := fun o' => by
   rw [World.cell?_setCell_other _ _ _ _ (fun e => by injection e; omega), World.cell?_setCell_other _ _ _ _ (fun e => by injection e; omega), World.cell?_setCell_other _ _ _ _ (fun e => by injection e; omega), World.cell?_setCell_other _ _ _ _ (fun e => by injection e; omega)]
  exact ⟨x, y, (far _).trans k1, (far _).trans k2, hy⟩
theorem set_four (w : World) (b : Nat) (v0 v1 v2 v3 : Value) {u0 u1 u2 u3 : Value} (h0 : w.cell? ⟨b, 0, none⟩ = some u0) (h1 : w.cell? ⟨b, 1, none⟩ = some u1) (h2 : w.cell? ⟨b, 2, none⟩ = some u2) (h3 : w.cell? ⟨b, 3, none⟩ = some u3) :
  let W := (((w.setCell ⟨b, 0, none⟩ v0).setCell ⟨b, 1, none⟩ v1).setCell ⟨b, 2, none⟩ v2).setCell ⟨b, 3, none⟩ v3
  W.cell? ⟨b, 0, none⟩ = some v0 ∧ W.cell? ⟨b, 1, none⟩ = some v1 ∧ W.cell? ⟨b, 2, none⟩ = some v2 ∧ W.cell? ⟨b, 3, none⟩ = some v3 := by
 have far : ∀ (w : World) (o o' : Nat) (u : Value), o ≠ o' → (w.setCell ⟨b, o, none⟩ u).cell? ⟨b, o', none⟩ = w.cell? ⟨b, o', none⟩ := fun w o o' u h => World.cell?_setCell_other _ _ _ _ (fun e => by injection e; omega)
 refine ⟨?_, ?_, ?_, ?_⟩
 ·rw [far _ 3 0 _ (by omega), far _ 2 0 _ (by omega), far _ 1 0 _ (by omega)]
  exact World.cell?_setCell_same w ⟨b, 0, none⟩ _ h0
 ·rw [far _ 3 1 _ (by omega), far _ 2 1 _ (by omega)]
  exact World.cell?_setCell_same _ ⟨b, 1, none⟩ _ ((far _ 0 1 _ (by omega)).trans h1)
 ·rw [far _ 3 2 _ (by omega)]
  exact World.cell?_setCell_same _ ⟨b, 2, none⟩ _ ((far _ 1 2 _ (by omega)).trans ((far _ 0 2 _ (by omega)).trans h2))
 ·exact World.cell?_setCell_same _ ⟨b, 3, none⟩ _ ((far _ 2 3 _ (by omega)).trans ((far _ 1 3 _ (by omega)).trans ((far _ 0 3 _ (by omega)).trans h3)))
theorem NdG.new {B R : Nat} {w W w1 : World} (nm : ByteArray) (t : TypeId) (hB : B < w.heap.size) (hR : w.heap.size = R) (hW : w.alloc (.cells #[.string ⟨#[]⟩, .int .i64 0, .slice none 0 0, .string ⟨#[]⟩] t) = W) (k : Gr B W w1) :
  NdG B R w1.heap.size w (w1.alloc (.cells #[.string nm, .int .i64 0, .slice none 0 0, .string ⟨#[]⟩] t)) nm (.slice none 0 0) [] := by
 subst hW
 subst hR
 have h1 := k.size
 rw [World.size_alloc] at h1
 have hne : w.heap.size ≠ B := by omega
 have hlt : w.heap.size < (w.alloc (.cells #[.string ⟨#[]⟩, .int .i64 0, .slice none 0 0, .string ⟨#[]⟩] t)).heap.size := by simp
 have k2 : Nw w1 (w1.alloc (.cells #[.string nm, .int .i64 0, .slice none 0 0, .string ⟨#[]⟩] t)) := (Below.refl _ _).alloc (Nat.le_refl _) _
 have er := fun o => ((bcell k2).1 w.heap.size o (by omega)).trans (k.cell hlt hne o)
 exact ⟨by simp, by simp, by simp, by simp, fun o => World.frozen?_alloc_at _ _ _ _ rfl, (er 0).trans (by simp), (er 1).trans (by simp), (er 2).trans (by simp), (er 3).trans (by simp), fun o => ((bcell k2).2 w.heap.size o (by omega)).trans ((k.frozen hlt hne o).trans (World.frozen?_alloc_at _ _ _ _ rfl)),
  OwnQ.nil _ _ _, fun i hi => absurd hi (by simp), ((Gr.of_nw ((Below.refl _ _).alloc (Nat.le_refl _) _)).trans k).trans (Gr.of_nw k2), hB, Nat.le_refl _, by omega⟩
def TxE (w : World) (NL : Nat) : Prop := NL < w.heap.size ∧ ∀ i, i < 13 → ∃ s : ByteArray, w.cell? ⟨NL, i, none⟩ = some (.string s)
theorem TxE.gr {w w' : World} {NL B : Nat} (h : TxE w NL) (k : Gr B w w') (hne : NL ≠ B) : TxE w' NL := ⟨Nat.lt_of_lt_of_le h.1 k.size, fun i hi => by obtain ⟨s, hs⟩ := h.2 i hi; exact ⟨s, (k.cell h.1 hne i).trans hs⟩⟩
theorem TxE.ext {w w' : World} {NL : Nat} {v v' : Value} (h : TxE w NL) (k : Ext v v' w w') (hne : v.ownBlock ≠ some NL) : TxE w' NL := ⟨Nat.lt_of_lt_of_le h.1 k.size, fun i hi => by obtain ⟨s, hs⟩ := h.2 i hi; exact ⟨s, (k.cell h.1 hne i).trans hs⟩⟩
theorem TxE.set {w : World} {NL b o : Nat} {u : Value} (h : TxE w NL) (hne : b ≠ NL) : TxE (w.setCell ⟨b, o, none⟩ u) NL := ⟨by simpa [World.setCell] using h.1, fun i hi => by obtain ⟨s, hs⟩ := h.2 i hi; exact ⟨s, by rw [World.cell?_setCell_other _ _ _ _ (fun e => by injection e; omega)]; exact hs⟩⟩
theorem ownq_form {T : TypeId} {w : World} {B : Nat} {v : Value} {l : List VV} (h : OwnQ T w B v l) : ∃ a c, v = .slice a l.length c := by
 rcases OwnQ.form h with ⟨h1, h2⟩ | ⟨g, c, h1, _⟩
 ·subst h2; exact ⟨none, 0, h1⟩
 ·exact ⟨_, c, h1⟩
theorem atVs_put {q : List VV} (h : AtVs q) (a b : ByteArray) (hb : b.size ≤ 3000) : AtVs (q ++ [(.string a, .string b)]) := fun i hi => by
 rw [List.length_append, List.length_singleton] at hi
 by_cases e : i < q.length
 ·have e1 : vvAt (q ++ [(.string a, .string b)]) i = vvAt q i := by simp [vvAt, List.getElem?_append, e]
  rw [e1]; exact h i e
 ·obtain rfl : i = q.length := by omega
  have e1 : vvAt (q ++ [(.string a, .string b)]) q.length = (.string a, .string b) := by simp [vvAt]
  rw [e1]; exact ⟨a, b, rfl, hb⟩
set_option maxRecDepth 100000 in
set_option maxHeartbeats 8000000 in
theorem shapeNode_any (w : World) (B : Nat) (ca : Option Addr) (len cap n : Nat) (hl : len ≤ 9223372036854775807) (hn : n ≤ 300000) (hc : Cur w B ca len cap n) (hd : Code w B ca len) :
  Calls Try.prog 85 #[.pointer (some ⟨B, 0, none⟩)] w fun e w' => NodeS w B e w' ∧ Cur w' B ca len cap (n + 3000) := by
 have hB := hc.lt
 have HB : Hid (B < w.heap.size) := hB
 have DC : Hid (∀ w', Gr B w w' → Code w' B ca len) := fun w' h => Code.below hd (h.below (by omega))
 obtain ⟨R, hR⟩ : ∃ R, w.heap.size = R := ⟨_, rfl⟩
 have HR : Hid (w.heap.size = R) := hR
 obtain ⟨W, hW⟩ : ∃ W, w.alloc (.cells #[.string ⟨#[]⟩, .int .i64 0, .slice none 0 0, .string ⟨#[]⟩] 131) = W := ⟨_, rfl⟩
 have HW : Hid (_ = W) := hW
 have C0 : Hid (Cur W B ca len cap n) := by show Cur _ _ _ _ _ _; rw [← hW]; exact hc.alloc _ _
 have G0 : Hid (Gr B w W) := by show Gr _ _ _; rw [← hW]; exact (Gr.refl B w).alloc _
 have HWs : Hid (W.heap.size = R + 1) := by show _ = _; rw [← hW, ← hR]; simp
 clear hc hd hB hW
 go_enter Try.func85, Try.ntmps85
 go_wp2_with fail
 rw [HW.out]
 refine (of_litL W B 8 (R + 1) HWs.out [⟨#[114, 101, 99, 116]⟩, ⟨#[99, 105, 114, 99, 108, 101]⟩, ⟨#[101, 108, 108, 105, 112, 115, 101]⟩, ⟨#[108, 105, 110, 101]⟩, ⟨#[112, 111, 108, 121, 108, 105, 110, 101]⟩, ⟨#[112, 111, 108, 121, 103, 111, 110]⟩, ⟨#[112, 97, 116, 104]⟩] (by decide) 9 ca len cap _ hl (by omega) (by decide) (by decide) C0.out (DC.out _ G0.out)).mono ?_
 rintro e w1 ⟨nm, rfl, hnm, hc1, hg1⟩
 have C1 : Hid (Cur w1 B ca len cap (n + 2)) := hc1
 have HG : Hid (Gr B W w1) := hg1
 obtain ⟨W1, hW1⟩ : ∃ W1, w1.alloc (.cells #[.string nm, .int .i64 0, .slice none 0 0, .string ⟨#[]⟩] 131) = W1 := ⟨_, rfl⟩
 obtain ⟨Q, hQ⟩ : ∃ Q, w1.heap.size = Q := ⟨_, rfl⟩
 have N1 : Hid (NdG B R Q w W1 nm (.slice none 0 0) []) := by show NdG _ _ _ _ _ _ _ _; rw [← hW1, ← hQ]; exact NdG.new nm _ HB.out HR.out HW.out hg1
 have C2 : Hid (Cur W1 B ca len cap (n + 2)) := by show Cur _ _ _ _ _ _; rw [← hW1]; exact hc1.alloc _ _
 have HW1 : Hid (_ = W1) := hW1
 clear hc1 hg1 C1 HG hW1 C0 G0 HWs HW
 go_upto_region 2 with fail
 rw [HW1.out]
 clear HW1
 obtain ⟨W2, hW2⟩ : ∃ W2, W1.alloc (.cells #[.string ⟨#[120]⟩, .string ⟨#[121]⟩, .string ⟨#[119, 105, 100, 116, 104]⟩, .string ⟨#[104, 101, 105, 103, 104, 116]⟩, .string ⟨#[114, 120]⟩, .string ⟨#[114, 121]⟩, .string ⟨#[99, 120]⟩, .string ⟨#[99, 121]⟩, .string ⟨#[114]⟩, .string ⟨#[120, 49]⟩, .string ⟨#[121, 49]⟩, .string ⟨#[120, 50]⟩, .string ⟨#[121, 50]⟩] 9) = W2 := ⟨_, rfl⟩
 obtain ⟨NL, hNL⟩ : ∃ NL, W1.heap.size = NL := ⟨_, rfl⟩
 have TX : Hid (Txts W2 NL [⟨#[120]⟩, ⟨#[121]⟩, ⟨#[119, 105, 100, 116, 104]⟩, ⟨#[104, 101, 105, 103, 104, 116]⟩, ⟨#[114, 120]⟩, ⟨#[114, 121]⟩, ⟨#[99, 120]⟩, ⟨#[99, 121]⟩, ⟨#[114]⟩, ⟨#[120, 49]⟩, ⟨#[121, 49]⟩, ⟨#[120, 50]⟩, ⟨#[121, 50]⟩]) := by show Txts _ _ _; rw [← hW2, ← hNL]; exact txts_alloc [⟨#[120]⟩, ⟨#[121]⟩, ⟨#[119, 105, 100, 116, 104]⟩, ⟨#[104, 101, 105, 103, 104, 116]⟩, ⟨#[114, 120]⟩, ⟨#[114, 121]⟩, ⟨#[99, 120]⟩, ⟨#[99, 121]⟩, ⟨#[114]⟩, ⟨#[120, 49]⟩, ⟨#[121, 49]⟩, ⟨#[120, 50]⟩, ⟨#[121, 50]⟩] W1 9
 have N2 : Hid (NdG B R Q w W2 nm (.slice none 0 0) []) := by show NdG _ _ _ _ _ _ _ _; rw [← hW2]; exact N1.out.go (Gr.of_nw ((Below.refl _ _).alloc (Nat.le_refl _) _))
 have C3 : Hid (Cur W2 B ca len cap (n + 2)) := by show Cur _ _ _ _ _ _; rw [← hW2]; exact C2.out.alloc _ _
 have HQN : Hid (Q < NL) := by show _ < _; rw [← hNL]; exact N1.out.lt
 have HNW : Hid (NL < W2.heap.size) := by show _ < _; rw [← hW2, ← hNL]; simp
 have HW2 : Hid (_ = W2) := hW2
 clear hW2 N1 C2
 go_upto_region 3 with fail
 rw [HW2.out]
 have HT2 : Hid (TxE W2 NL) := ⟨HNW.out, fun i hi => ⟨_, TX.out i hi⟩⟩
 have hNB : NL ≠ B := by have := HB.out; have := N2.out.o2; have := N2.out.o3; have := HQN.out; omega
 have hNQ : Q ≠ NL := by have := HQN.out; omega
 clear HW2 TX HNW hNL hQ hR
 go_wp2
 go_loopw [15] (fun i wr => ∃ (k : Nat) (v : Value) (q : List VV), i = .int .i64 (k : Int) ∧ k ≤ 13 ∧ q.length ≤ k ∧ NdG B R Q w wr nm v q ∧ Cur wr B ca len cap (n + 2 + 20 * k) ∧ TxE wr NL ∧ v.ownBlock ≠ some NL) (fun i _ => 13 - (intOf i).toNat)
 case atStart => exact ⟨0, _, [], rfl, by omega, by simp, N2.out, C3.out, HT2.out, fun e => by cases e⟩
 case round =>
  clear N2 C3 HT2
  obtain ⟨k, v, q, rfl, hk, hqk, hnd, hcr, htx, hvn⟩ := hrel
  have N0 : Hid (NdG B R Q w wr nm v q) := hnd
  have C0 : Hid (Cur wr B ca len cap (n + 2 + 20 * k)) := hcr
  have T0 : Hid (TxE wr NL) := htx
  have HVN : Hid (v.ownBlock ≠ some NL) := hvn
  obtain ⟨N, hN⟩ : ∃ N, n + 2 + 20 * k = N := ⟨_, rfl⟩
  have hN2 : N + 20 ≤ n + 2 + 20 * (k + 1) := by omega
  have hN3 : N ≤ 400000 := by omega
  have hN4 : N ≤ n + 262 := by omega
  rw [hN] at C0
  clear hnd hcr hvn hN
  by_cases hlt : k < 13
  ·obtain ⟨s, hs⟩ := htx.2 k hlt
   clear htx
   go_wp2_with fail
   refine (one_any wr B ca len cap _ 2 hl (by omega) (by omega) (by omega) C0.out (DC.out _ N0.out.g)).mono ?_
   rintro e w1 ⟨b2, rfl, hc1, hb1⟩
   have C1 : Hid (Cur w1 B ca len cap (N + 2)) := hc1
   have N1 : Hid (NdG B R Q w w1 nm v q) := N0.out.go (Gr.of_sel hb1)
   have T1 : Hid (TxE w1 NL) := T0.out.gr (Gr.of_sel hb1) hNB
   clear hc1 hb1 N0 C0 T0 hs
   cases b2 with
   | true =>
    go_wp2
    go_roundw
    case rel => exact ⟨k + 1, v, q, by go_num, by omega, by omega, N1.out, C1.out.mono (by omega), T1.out, HVN.out⟩
    case measure => simp [intOf]; omega
   | false =>
    go_wp2_with fail
    refine (pick_any w1 B ca len cap _ 24 hl (by omega) (by omega) (by omega) C1.out (DC.out _ N1.out.g)).mono ?_
    rintro e w2 ⟨pv, rfl, v0, v1, hc2, hb2⟩
    have C2 : Hid (Cur w2 B ca len cap (N + 4)) := hc2
    have N2 : Hid (NdG B R Q w w2 nm v q) := N1.out.go (Gr.of_sel hb2)
    have T2 : Hid (TxE w2 NL) := T1.out.gr (Gr.of_sel hb2) hNB
    obtain ⟨m, rfl⟩ := Int.eq_ofNat_of_zero_le v0
    have hm23 : m ≤ 99 := by omega
    clear hc2 hb2 v0 v1 C1 N1 T1
    go_wp2_with fail
    refine (num_small w2 m hm23).mono ?_
    rintro e w3 ⟨⟨y, rfl, hy⟩, k3⟩
    have C3 : Hid (Cur w3 B ca len cap (N + 4)) := C2.out.nw k3
    have N3 : Hid (NdG B R Q w w3 nm v q) := N2.out.go (Gr.of_nw k3)
    have T3 : Hid (TxE w3 NL) := T2.out.gr (Gr.of_nw (B := B) k3) hNB
    clear k3 C2 N2 T2
    go_wp2_with fail
    refine (one_any w3 B ca len cap _ 3 hl (by omega) (by omega) (by omega) C3.out (DC.out _ N3.out.g)).mono ?_
    rintro e w4 ⟨b3, rfl, hc4, hb4⟩
    have C4 : Hid (Cur w4 B ca len cap (N + 6)) := hc4
    have N4 : Hid (NdG B R Q w w4 nm v q) := N3.out.go (Gr.of_sel hb4)
    have T4 : Hid (TxE w4 NL) := T3.out.gr (Gr.of_sel hb4) hNB
    clear hc4 hb4 C3 N3 T3
    go_upto_if 25 with fail
    go_cut [7] (fun x wx => ∃ y : ByteArray, x = .string y ∧ y.size ≤ 20 ∧ NdG B R Q w wx nm v q ∧ Cur wx B ca len cap (N + 8) ∧ TxE wx NL)
    case first =>
     cases b3 with
     | true =>
      go_wp2_with fail
      refine (of_lit w4 B 3 [⟨#[46, 53]⟩, ⟨#[112, 120]⟩, ⟨#[46, 50, 53]⟩] (by decide) 9 ca len cap _ hl (by omega) (by decide) (by decide) C4.out (DC.out _ N4.out.g)).mono ?_
      rintro e w5 ⟨z, rfl, hz, hc5, hg5⟩
      have C5 : Hid (Cur w5 B ca len cap (N + 8)) := hc5
      have N5 : Hid (NdG B R Q w w5 nm v q) := N4.out.go hg5
      have T5 : Hid (TxE w5 NL) := T4.out.gr hg5 hNB
      clear hc5 hg5
      have a1 : y.size + z.size ≤ 9223372036854775807 := by omega
      go_wp2
      go_meet
      exact ⟨y ++ z, rfl, by rw [app_sz]; omega, N5.out, C5.out, T5.out⟩
     | false =>
      go_wp2
      go_meet
      exact ⟨y, rfl, by omega, N4.out, C4.out.mono (by omega), T4.out⟩
    case rest =>
     clear C4 N4 T4 hy
     obtain ⟨y, rfl, hy, hnd, hcr, htx⟩ := hcut
     have C5 : Hid (Cur wc B ca len cap (N + 8)) := hcr
     have N5 : Hid (NdG B R Q w wc nm v q) := hnd
     have T5 : Hid (TxE wc NL) := htx
     clear hnd hcr htx
     go_wp2_with fail
     refine (one_any wc B ca len cap _ 40 hl (by omega) (by omega) (by omega) C5.out (DC.out _ N5.out.g)).mono ?_
     rintro e w6 ⟨b4, rfl, hc6, hb6⟩
     have C6 : Hid (Cur w6 B ca len cap (N + 10)) := hc6
     have N6 : Hid (NdG B R Q w w6 nm v q) := N5.out.go (Gr.of_sel hb6)
     have T6 : Hid (TxE w6 NL) := T5.out.gr (Gr.of_sel hb6) hNB
     clear hc6 hb6 C5 N5 T5
     go_upto_if 32 with fail
     go_cut [7] (fun x wx => ∃ y : ByteArray, x = .string y ∧ y.size ≤ 20 ∧ NdG B R Q w wx nm v q ∧ Cur wx B ca len cap (N + 12) ∧ TxE wx NL)
     case first =>
      cases b4 with
      | true =>
       go_wp2_with fail
       refine (of_lit w6 B 3 [⟨#[45, 51]⟩, ⟨#[]⟩, ⟨#[49, 101, 109]⟩] (by decide) 9 ca len cap _ hl (by omega) (by decide) (by decide) C6.out (DC.out _ N6.out.g)).mono ?_
       rintro e w7 ⟨z, rfl, hz, hc7, hg7⟩
       have C7 : Hid (Cur w7 B ca len cap (N + 12)) := hc7
       have N7 : Hid (NdG B R Q w w7 nm v q) := N6.out.go hg7
       have T7 : Hid (TxE w7 NL) := T6.out.gr hg7 hNB
       clear hc7 hg7
       go_wp2
       go_meet
       exact ⟨z, rfl, by omega, N7.out, C7.out, T7.out⟩
      | false =>
       go_wp2
       go_meet
       exact ⟨y, rfl, by omega, N6.out, C6.out.mono (by omega), T6.out⟩
     case rest =>
      clear C6 N6 T6 hy
      obtain ⟨y, rfl, hy, hnd, hcr, htx⟩ := hcut
      have C7 : Hid (Cur wc B ca len cap (N + 12)) := hcr
      have N7 : Hid (NdG B R Q w wc nm v q) := hnd
      have T7 : Hid (TxE wc NL) := htx
      clear hnd hcr htx
      obtain ⟨va, vc, hv⟩ := ownq_form N7.out.own
      subst hv
      have y2 := N7.out.c2
      have yf := N7.out.qf
      have hQl : Q < wc.heap.size := N7.out.lt
      have HB0 : ∀ o, Hid (Nw wc (wc.alloc o)) := fun o => (Below.refl _ _).alloc (Nat.le_refl _) o
      have HA : ∀ o, Hid (NdG B R Q w (wc.alloc o) nm (.slice va q.length vc) q) := fun o => N7.out.go (Gr.of_nw (HB0 o).out)
      have hql : q.length ≤ 100 := by omega
      go_wp2_with (at_builtin; (refine wpl_q 159 129 129 (.string ⟨#[]⟩) (.string ⟨#[]⟩) 32 Try.underlying129 Try.underlying129 info_atr (by decide) rfl _ (.tmp 37) (.tmp 41) rfl (Q + 1) (.slice va q.length vc) q [(.string s, .string y)] rfl (HA _).out.own wc.heap.size 0 1 1 rfl rfl ?cc ?co (by simp) (by simp; omega) (by simp; omega) rfl ?_))
      case cc => intro i hi; obtain rfl : i = 0 := (by simpa using hi); simp [vvAt]
      case co => intro u hu; simp [flat2] at hu; rcases hu with rfl | rfl <;> rfl
      intro g' c' w8 h1 h2
      have X := (HA (.cells #[.string s, .string y] 159)).out
      have N8 : Hid (NdG B R Q w (w8.setCell ⟨Q, 2, none⟩ (.slice (some ⟨g', 0, none⟩) (q.length + 1) c')) nm (.slice (some ⟨g', 0, none⟩) (q.length + 1) c') (q ++ [(.string s, .string y)])) := X.put h2 h1 (atVs_put X.ats s y (by omega))
      have TA : TxE (wc.alloc (.cells #[.string s, .string y] 159)) NL := T7.out.gr (Gr.of_nw (B := B) (HB0 _).out) hNB
      have T8 : Hid (TxE (w8.setCell ⟨Q, 2, none⟩ (.slice (some ⟨g', 0, none⟩) (q.length + 1) c')) NL) := (TA.ext h2 HVN.out).set hNQ
      have HV8 : Hid ((Value.slice (some ⟨g', 0, none⟩) (q.length + 1) c').ownBlock ≠ some NL) := h2.apart TA.1 HVN.out
      have hBown : (Value.slice va q.length vc).ownBlock ≠ some B := N7.out.ne B (by have := N7.out.o1; have := N7.out.o2; have := N7.out.o3; omega)
      have C8 : Hid (Cur (w8.setCell ⟨Q, 2, none⟩ (.slice (some ⟨g', 0, none⟩) (q.length + 1) c')) B ca len cap (N + 12)) := by
       have hQB : Q ≠ B := by have := N7.out.o1; have := N7.out.o2; have := N7.out.o3; omega
       have hA : Cur (wc.alloc (.cells #[.string s, .string y] 159)) B ca len cap (N + 12) := C7.out.alloc _ _
       exact (cur_ext hA h2 hBown).set hQB _ _
      have z2 : w8.cell? ⟨Q, 2, none⟩ = some (.slice va q.length vc) := (h2.cell X.lt (X.ne Q (Nat.le_refl _)) 2).trans X.c2
      have zf : ∀ o, w8.frozen? ⟨Q, o, none⟩ = false := fun o => (World.frozen?_of_block (w := wc.alloc (.cells #[.string s, .string y] 159)) (a := ⟨Q, o, none⟩) (h2.1.block Q X.lt (fun e => X.ne Q (Nat.le_refl _) e.symm))).trans (X.qf o)
      clear h1 h2 X TA HA HB0 y2 yf C7 N7 T7 HVN
      generalize hql2 : q.length = ql at *
      go_wp2
      go_roundw
      case rel => exact ⟨k + 1, _, q ++ [(.string s, .string y)], by go_num, by omega, by simp; omega, N8.out, C8.out.mono (by omega), T8.out, HV8.out⟩
      case measure => simp [intOf]; omega
  ·clear htx T0 HVN hN2
   have hq13 : q.length ≤ 13 := by omega
   have y0 := N0.out.c0
   go_upto_block 2 with fail
   clear y0
   go_cut [] (fun wx => ∃ v q, q.length ≤ 13 ∧ NdG B R Q w wx nm v q ∧ Cur wx B ca len cap (n + 2800))
   case first =>
    by_cases e0 : nm = ⟨#[112, 111, 108, 121, 108, 105, 110, 101]⟩
    ·have q0 := beqy nm [112, 111, 108, 121, 108, 105, 110, 101] e0
     clear e0
     go_wp2_with fail
     refine (pick_any wr B ca len cap _ 5 hl (by omega) (by omega) (by omega) C0.out (DC.out _ N0.out.g)).mono ?_
     rintro e w1 ⟨pv, rfl, v0, v1, hc1, hb1⟩
     have C1 : Hid (Cur w1 B ca len cap (N + 2)) := hc1
     have N1 : Hid (NdG B R Q w w1 nm v q) := N0.out.go (Gr.of_sel hb1)
     obtain ⟨m, rfl⟩ := Int.eq_ofNat_of_zero_le v0
     have hm4 : m ≤ 4 := by omega
     clear hc1 hb1 v0 v1
     obtain ⟨M, hM⟩ : ∃ M, 2 * (1 + m) = M := ⟨_, rfl⟩
     have hMi : 2 * (1 + (m : Int)) = (M : Int) := by omega
     have hM10 : M ≤ 10 := by omega
     clear hM
     go_wp2_with fail
     refine (numbersText_any w1 B ca len cap _ M (by omega) hl (by omega) C1.out (DC.out _ N1.out.g)).mono ?_
     rintro e w2 ⟨⟨y, rfl, hy⟩, hc2, hg2⟩
     have C2 : Hid (Cur w2 B ca len cap (N + 2 + 42 * 10)) := hc2.mono (by omega)
     have N2 : Hid (NdG B R Q w w2 nm v q) := N1.out.go hg2
     clear hc2 hg2 C1 N1 hMi
     have y2 := N2.out.c2
     have yf := N2.out.qf
     have hQl : Q < w2.heap.size := N2.out.lt
     have y2a : ∀ oo, (w2.alloc oo).cell? ⟨Q, 2, none⟩ = some v := fun oo => ((bcell (show Nw w2 (w2.alloc oo) from (Below.refl _ _).alloc (Nat.le_refl _) _)).1 Q 2 hQl).trans y2
     have yfa : ∀ oo o, (w2.alloc oo).frozen? ⟨Q, o, none⟩ = false := fun oo o => ((bcell (show Nw w2 (w2.alloc oo) from (Below.refl _ _).alloc (Nat.le_refl _) _)).2 Q o hQl).trans (yf o)
     obtain ⟨G, hG⟩ : ∃ G, w2.heap.size = G := ⟨_, rfl⟩
     obtain ⟨W3, hW3⟩ : ∃ W3, (w2.alloc (.cells #[.string ⟨#[112, 111, 105, 110, 116, 115]⟩, .string y] 159)).setCell ⟨Q, 2, none⟩ (.slice (some ⟨G, 0, none⟩) 1 1) = W3 := ⟨_, rfl⟩
     have hQB : Q ≠ B := by have := N2.out.o1; have := N2.out.o2; have := N2.out.o3; omega
     have N3 : Hid (NdG B R Q w W3 nm (.slice (some ⟨G, 0, none⟩) 1 1) [(.string ⟨#[112, 111, 105, 110, 116, 115]⟩, .string y)]) := by show NdG _ _ _ _ _ _ _ _; rw [← hW3, ← hG]; exact N2.out.lit _ y (by omega)
     have C3 : Hid (Cur W3 B ca len cap (N + 2 + 42 * 10)) := by show Cur _ _ _ _ _ _; rw [← hW3]; exact (C2.out.alloc _ _).set hQB _ _
     go_upto_region 18 with fail
     clear hW3 y2 yf y2a yfa hQl C2 N2
     go_wp2_with fail
     refine (one_any W3 B ca len cap _ 10 hl (by omega) (by omega) (by omega) C3.out (DC.out _ N3.out.g)).mono ?_
     rintro e w4 ⟨b5, rfl, hc4, hb4⟩
     have C4 : Hid (Cur w4 B ca len cap (N + 4 + 42 * 10)) := hc4.mono (by omega)
     have N4 : Hid (NdG B R Q w w4 nm (.slice (some ⟨G, 0, none⟩) 1 1) [(.string ⟨#[112, 111, 105, 110, 116, 115]⟩, .string y)]) := N3.out.go (Gr.of_sel hb4)
     clear hc4 hb4 C3 N3
     cases b5 with
     | false =>
      go_wp2
      go_meet
      exact ⟨_, _, by simp, N4.out, C4.out.mono (by omega)⟩
     | true =>
      have HS : Hid (w4.cell? ⟨Q, 2, none⟩ = some (.slice (some ⟨G, 0, none⟩) 1 1)) := N4.out.c2
      have HQ4 : Hid (Q < w4.heap.size) := N4.out.lt
      have HQB : Hid (Q ≠ B) := hQB
      have K0 : Hid (Gr B w4 w4) := Gr.refl _ _
      have HA1 : Hid (∀ o, (w4.alloc o).drew.cell? ⟨Q, 2, none⟩ = some (.slice (some ⟨G, 0, none⟩) 1 1)) := fun o => ((bcell (show Nw w4 (w4.alloc o) from (Below.refl _ _).alloc (Nat.le_refl _) _)).1 Q 2 HQ4.out).trans HS.out
      go_upto_region 19 with fail
      go_region_held3 (fun w' => w'.cell? ⟨Q, 2, none⟩ = some (.slice (some ⟨G, 0, none⟩) 1 1))
       (first | exact HS.out | exact HA1.out _ | exact (K0.out.cell HQ4.out HQB.out 2).trans HS.out | exact ((K0.out.trans (Gr.of_nw (nw_drx _))).cell HQ4.out HQB.out 2).trans HS.out | exact ((K0.out.trans (Gr.of_nw (Nw.trans (nw_drx _) ((Below.refl _ _).alloc (Nat.le_refl _) _)))).cell HQ4.out HQB.out 2).trans HS.out | exact (World.cell?_setCell_other _ _ _ _ (fun e => by injection e; omega)).trans ((K0.out.cell HQ4.out HQB.out 2).trans HS.out))
       (first | (go_at_call 106; refine (of_litL w4.drew B 8 _ rfl [⟨#[]⟩, ⟨#[32]⟩, ⟨#[49]⟩, ⟨#[49, 32, 50, 32, 51]⟩, ⟨#[97]⟩] (by decide) 9 ca len cap _ hl (by omega) (by decide) (by decide) C4.out (DC.out _ (N4.out.g.trans (Gr.of_nw (nw_drx _))))).mono ?_; rintro e w5 ⟨x, rfl, hx, hc5, hg5⟩; replace K0 := (show Hid (Gr B w4 w5) from (Gr.of_nw (nw_drx _)).trans hg5); have C5 : Hid (Cur w5 B ca len cap (N + 6 + 42 * 10)) := hc5.mono (by omega); have N5 : Hid (NdG B R Q w w5 nm (.slice (some ⟨G, 0, none⟩) 1 1) [(.string ⟨#[112, 111, 105, 110, 116, 115]⟩, .string y)]) := N4.out.go K0.out; obtain ⟨hGQ, yc, ycf⟩ := N5.out.at1; clear hc5 hg5))
      have N6 : Hid (NdG B R Q w (w5.setCell ⟨G, 1, none⟩ (.string x)) nm (.slice (some ⟨G, 0, none⟩) 1 1) [(.string ⟨#[112, 111, 105, 110, 116, 115]⟩, .string x)]) := N5.out.val x (by omega)
      have C6 : Hid (Cur (w5.setCell ⟨G, 1, none⟩ (.string x)) B ca len cap (N + 6 + 42 * 10)) := C5.out.set (by have := N5.out.o1; have := N5.out.o2; have := N5.out.o3; omega) _ _
      go_wp2
      go_meet
      exact ⟨_, _, by simp, N6.out, C6.out.mono (by omega)⟩
    have z0 := beqn nm [112, 111, 108, 121, 108, 105, 110, 101] e0
    clear e0
    by_cases e1 : nm = ⟨#[112, 111, 108, 121, 103, 111, 110]⟩
    ·have q1 := beqy nm [112, 111, 108, 121, 103, 111, 110] e1
     clear e1
     go_wp2_with fail
     refine (pick_any wr B ca len cap _ 5 hl (by omega) (by omega) (by omega) C0.out (DC.out _ N0.out.g)).mono ?_
     rintro e w1 ⟨pv, rfl, v0, v1, hc1, hb1⟩
     have C1 : Hid (Cur w1 B ca len cap (N + 2)) := hc1
     have N1 : Hid (NdG B R Q w w1 nm v q) := N0.out.go (Gr.of_sel hb1)
     obtain ⟨m, rfl⟩ := Int.eq_ofNat_of_zero_le v0
     have hm4 : m ≤ 4 := by omega
     clear hc1 hb1 v0 v1
     obtain ⟨M, hM⟩ : ∃ M, 2 * (1 + m) = M := ⟨_, rfl⟩
     have hMi : 2 * (1 + (m : Int)) = (M : Int) := by omega
     have hM10 : M ≤ 10 := by omega
     clear hM
     go_wp2_with fail
     refine (numbersText_any w1 B ca len cap _ M (by omega) hl (by omega) C1.out (DC.out _ N1.out.g)).mono ?_
     rintro e w2 ⟨⟨y, rfl, hy⟩, hc2, hg2⟩
     have C2 : Hid (Cur w2 B ca len cap (N + 2 + 42 * 10)) := hc2.mono (by omega)
     have N2 : Hid (NdG B R Q w w2 nm v q) := N1.out.go hg2
     clear hc2 hg2 C1 N1 hMi
     have y2 := N2.out.c2
     have yf := N2.out.qf
     have hQl : Q < w2.heap.size := N2.out.lt
     have y2a : ∀ oo, (w2.alloc oo).cell? ⟨Q, 2, none⟩ = some v := fun oo => ((bcell (show Nw w2 (w2.alloc oo) from (Below.refl _ _).alloc (Nat.le_refl _) _)).1 Q 2 hQl).trans y2
     have yfa : ∀ oo o, (w2.alloc oo).frozen? ⟨Q, o, none⟩ = false := fun oo o => ((bcell (show Nw w2 (w2.alloc oo) from (Below.refl _ _).alloc (Nat.le_refl _) _)).2 Q o hQl).trans (yf o)
     obtain ⟨G, hG⟩ : ∃ G, w2.heap.size = G := ⟨_, rfl⟩
     obtain ⟨W3, hW3⟩ : ∃ W3, (w2.alloc (.cells #[.string ⟨#[112, 111, 105, 110, 116, 115]⟩, .string y] 159)).setCell ⟨Q, 2, none⟩ (.slice (some ⟨G, 0, none⟩) 1 1) = W3 := ⟨_, rfl⟩
     have hQB : Q ≠ B := by have := N2.out.o1; have := N2.out.o2; have := N2.out.o3; omega
     have N3 : Hid (NdG B R Q w W3 nm (.slice (some ⟨G, 0, none⟩) 1 1) [(.string ⟨#[112, 111, 105, 110, 116, 115]⟩, .string y)]) := by show NdG _ _ _ _ _ _ _ _; rw [← hW3, ← hG]; exact N2.out.lit _ y (by omega)
     have C3 : Hid (Cur W3 B ca len cap (N + 2 + 42 * 10)) := by show Cur _ _ _ _ _ _; rw [← hW3]; exact (C2.out.alloc _ _).set hQB _ _
     go_upto_region 18 with fail
     clear hW3 y2 yf y2a yfa hQl C2 N2
     go_wp2_with fail
     refine (one_any W3 B ca len cap _ 10 hl (by omega) (by omega) (by omega) C3.out (DC.out _ N3.out.g)).mono ?_
     rintro e w4 ⟨b5, rfl, hc4, hb4⟩
     have C4 : Hid (Cur w4 B ca len cap (N + 4 + 42 * 10)) := hc4.mono (by omega)
     have N4 : Hid (NdG B R Q w w4 nm (.slice (some ⟨G, 0, none⟩) 1 1) [(.string ⟨#[112, 111, 105, 110, 116, 115]⟩, .string y)]) := N3.out.go (Gr.of_sel hb4)
     clear hc4 hb4 C3 N3
     cases b5 with
     | false =>
      go_wp2
      go_meet
      exact ⟨_, _, by simp, N4.out, C4.out.mono (by omega)⟩
     | true =>
      have HS : Hid (w4.cell? ⟨Q, 2, none⟩ = some (.slice (some ⟨G, 0, none⟩) 1 1)) := N4.out.c2
      have HQ4 : Hid (Q < w4.heap.size) := N4.out.lt
      have HQB : Hid (Q ≠ B) := hQB
      have K0 : Hid (Gr B w4 w4) := Gr.refl _ _
      have HA1 : Hid (∀ o, (w4.alloc o).drew.cell? ⟨Q, 2, none⟩ = some (.slice (some ⟨G, 0, none⟩) 1 1)) := fun o => ((bcell (show Nw w4 (w4.alloc o) from (Below.refl _ _).alloc (Nat.le_refl _) _)).1 Q 2 HQ4.out).trans HS.out
      go_upto_region 19 with fail
      go_region_held3 (fun w' => w'.cell? ⟨Q, 2, none⟩ = some (.slice (some ⟨G, 0, none⟩) 1 1))
       (first | exact HS.out | exact HA1.out _ | exact (K0.out.cell HQ4.out HQB.out 2).trans HS.out | exact ((K0.out.trans (Gr.of_nw (nw_drx _))).cell HQ4.out HQB.out 2).trans HS.out | exact ((K0.out.trans (Gr.of_nw (Nw.trans (nw_drx _) ((Below.refl _ _).alloc (Nat.le_refl _) _)))).cell HQ4.out HQB.out 2).trans HS.out | exact (World.cell?_setCell_other _ _ _ _ (fun e => by injection e; omega)).trans ((K0.out.cell HQ4.out HQB.out 2).trans HS.out))
       (first | (go_at_call 106; refine (of_litL w4.drew B 8 _ rfl [⟨#[]⟩, ⟨#[32]⟩, ⟨#[49]⟩, ⟨#[49, 32, 50, 32, 51]⟩, ⟨#[97]⟩] (by decide) 9 ca len cap _ hl (by omega) (by decide) (by decide) C4.out (DC.out _ (N4.out.g.trans (Gr.of_nw (nw_drx _))))).mono ?_; rintro e w5 ⟨x, rfl, hx, hc5, hg5⟩; replace K0 := (show Hid (Gr B w4 w5) from (Gr.of_nw (nw_drx _)).trans hg5); have C5 : Hid (Cur w5 B ca len cap (N + 6 + 42 * 10)) := hc5.mono (by omega); have N5 : Hid (NdG B R Q w w5 nm (.slice (some ⟨G, 0, none⟩) 1 1) [(.string ⟨#[112, 111, 105, 110, 116, 115]⟩, .string y)]) := N4.out.go K0.out; obtain ⟨hGQ, yc, ycf⟩ := N5.out.at1; clear hc5 hg5))
      have N6 : Hid (NdG B R Q w (w5.setCell ⟨G, 1, none⟩ (.string x)) nm (.slice (some ⟨G, 0, none⟩) 1 1) [(.string ⟨#[112, 111, 105, 110, 116, 115]⟩, .string x)]) := N5.out.val x (by omega)
      have C6 : Hid (Cur (w5.setCell ⟨G, 1, none⟩ (.string x)) B ca len cap (N + 6 + 42 * 10)) := C5.out.set (by have := N5.out.o1; have := N5.out.o2; have := N5.out.o3; omega) _ _
      go_wp2
      go_meet
      exact ⟨_, _, by simp, N6.out, C6.out.mono (by omega)⟩
    have z1 := beqn nm [112, 111, 108, 121, 103, 111, 110] e1
    clear e1
    by_cases e2 : nm = ⟨#[112, 97, 116, 104]⟩
    ·have q2 := beqy nm [112, 97, 116, 104] e2
     clear e2
     go_wp2_with fail
     refine (pathText_any wr B ca len cap _ hl (by omega) C0.out (DC.out _ N0.out.g)).mono ?_
     rintro e w2 ⟨⟨y, rfl, hy⟩, hc2, hg2⟩
     have C2 : Hid (Cur w2 B ca len cap (N + 2000)) := hc2
     have N2 : Hid (NdG B R Q w w2 nm v q) := N0.out.go hg2
     clear hc2 hg2
     have y2 := N2.out.c2
     have yf := N2.out.qf
     have hQl : Q < w2.heap.size := N2.out.lt
     have y2a : ∀ oo, (w2.alloc oo).cell? ⟨Q, 2, none⟩ = some v := fun oo => ((bcell (show Nw w2 (w2.alloc oo) from (Below.refl _ _).alloc (Nat.le_refl _) _)).1 Q 2 hQl).trans y2
     have yfa : ∀ oo o, (w2.alloc oo).frozen? ⟨Q, o, none⟩ = false := fun oo o => ((bcell (show Nw w2 (w2.alloc oo) from (Below.refl _ _).alloc (Nat.le_refl _) _)).2 Q o hQl).trans (yf o)
     obtain ⟨G, hG⟩ : ∃ G, w2.heap.size = G := ⟨_, rfl⟩
     obtain ⟨W3, hW3⟩ : ∃ W3, (w2.alloc (.cells #[.string ⟨#[100]⟩, .string y] 159)).setCell ⟨Q, 2, none⟩ (.slice (some ⟨G, 0, none⟩) 1 1) = W3 := ⟨_, rfl⟩
     have hQB : Q ≠ B := by have := N2.out.o1; have := N2.out.o2; have := N2.out.o3; omega
     have N3 : Hid (NdG B R Q w W3 nm (.slice (some ⟨G, 0, none⟩) 1 1) [(.string ⟨#[100]⟩, .string y)]) := by show NdG _ _ _ _ _ _ _ _; rw [← hW3, ← hG]; exact N2.out.lit _ y (by omega)
     have C3 : Hid (Cur W3 B ca len cap (N + 2000)) := by show Cur _ _ _ _ _ _; rw [← hW3]; exact (C2.out.alloc _ _).set hQB _ _
     go_wp2
     clear hW3
     go_meet
     exact ⟨_, _, by simp, N3.out, C3.out.mono (by omega)⟩
    have z2 := beqn nm [112, 97, 116, 104] e2
    clear e2
    go_wp2
    go_meet
    exact ⟨v, q, by omega, N0.out, C0.out.mono (by omega)⟩
   case rest =>
    clear N0 C0
    obtain ⟨v, q, hq13, hnd, hcr⟩ := hcut
    have N1 : Hid (NdG B R Q w wc nm v q) := hnd
    have C1 : Hid (Cur wc B ca len cap (n + 2800)) := hcr
    clear hnd hcr
    go_wp2_with fail
    refine (one_any wc B ca len cap _ 30 hl (by omega) (by omega) (by omega) C1.out (DC.out _ N1.out.g)).mono ?_
    rintro e w2 ⟨b5, rfl, hc2, hb2⟩
    have C2 : Hid (Cur w2 B ca len cap (n + 2802)) := hc2
    have N2 : Hid (NdG B R Q w w2 nm v q) := N1.out.go (Gr.of_sel hb2)
    clear hc2 hb2 C1 N1
    go_upto_if 76 with fail
    go_cut [] (fun wx => ∃ nm, NdG B R Q w wx nm v q ∧ Cur wx B ca len cap (n + 2804))
    case first =>
     cases b5 with
     | true =>
      go_wp2_with fail
      refine (of_lit w2 B 3 [⟨#[103]⟩, ⟨#[]⟩] (by decide) 9 ca len cap _ hl (by omega) (by decide) (by decide) C2.out (DC.out _ N2.out.g)).mono ?_
      rintro e w3 ⟨z, rfl, hz, hc3, hg3⟩
      have N3 : Hid (NdG B R Q w w3 nm v q) := N2.out.go hg3
      have C3 : Hid (Cur w3 B ca len cap (n + 2804)) := hc3
      have y0 := N3.out.c0
      have yf := N3.out.qf
      have hQB : Q ≠ B := by have := N3.out.o1; have := N3.out.o2; have := N3.out.o3; omega
      clear hc3 hg3
      go_wp2
      go_meet
      exact ⟨z, N3.out.name z, C3.out.set hQB _ _⟩
     | false =>
      go_wp2
      go_meet
      exact ⟨nm, N2.out, C2.out.mono (by omega)⟩
    case rest =>
     clear N2 C2
     obtain ⟨nm2, hnd, hcr⟩ := hcut
     have N3 : Hid (NdG B R Q w wc nm2 v q) := hnd
     have C3 : Hid (Cur wc B ca len cap (n + 2804)) := hcr
     obtain ⟨va, vc, hv⟩ := ownq_form hnd.own
     subst hv
     clear hnd hcr
     have y0 := N3.out.c0
     have y1 := N3.out.c1
     have y2 := N3.out.c2
     have y3 := N3.out.c3
     have rf := N3.out.rf
     have z0 := N3.out.r0
     have z1 := N3.out.r1
     have z2 := N3.out.r2
     have z3 := N3.out.r3
     have hRB : R ≠ B := by have := N3.out.o1; have := N3.out.o2; omega
     obtain ⟨s0, s1, s2, s3⟩ := set_four wc R (.string nm2) (.int .i64 0) (.slice va q.length vc) (.string ⟨#[]⟩) z0 z1 z2 z3
     have HD := N3.out.done (by omega) (.string nm2) (.int .i64 0) (.slice va q.length vc) (.string ⟨#[]⟩)
     have HDD : Hid _ := HD
     clear HD
     go_wp2
     refine bodyPost_ret (v := .agg #[.string nm2, .int .i64 0, .slice va q.length vc, .string ⟨#[]⟩]) (by simp [results, Try.results85, go_sem, s0, s1, s2, s3]) rfl ⟨HDD.out, Cur.mono ((((C3.out.set hRB _ _).set hRB _ _).set hRB _ _).set hRB _ _) (by omega)⟩
end Go.Proofs.Ytdjemnbdaddegaa
