/-
  Strokes: the disk of the specification; each theorem names i
-/
import Derived.Test.YtnkeljmecbohkaaGreatJAK
import Derived.Test.YtnkeljmecbohkaaGreatJAQ
import Derived.Deep.RegionLaw
import Derived.Test.YtnkeljmecbohkaaGreatJAJ
import Derived.Test.YtnkeljmecbohkaaGreatJAP
import Derived.Test.YtnkeljmecbohkaaGreatJAA
import Derived.Test.YtnkeljmecbohkaaGreatJAE
import Derived.Test.YtnkeljmecbohkaaGreatJAF
namespace Go.Proofs.YtnkeljmecbohkaaGreat
open Go.ChangeShapes Go.WideShapes Go.ChangeAt Go.RowKit
set_option linter.unusedVariables false
set_option maxRecDepth 100000 in
set_option maxHeartbeats 8000000 in
theorem sdisk (px py h : Int) (c1 : -4398046511104 ≤ px) (c2 : px ≤ 4398046511104) (d1 : -4398046511104 ≤ py) (d2 : py ≤ 4398046511104) : RingSays 101 #[.agg #[.int .i64 px, .int .i64 py], .int .i64 h] (roundsP px py h h 0 32) := by
 intro w
 obtain ⟨R, hR⟩ : ∃ R : Nat → List Pnt, roundsP px py h h 0 = R := ⟨_, rfl⟩
 have HR : Hid (roundsP px py h h 0 = R) := hR
 rw [hR]
 clear hR
 obtain ⟨W, hW⟩ : ∃ W, (w.alloc (.cells #[.int .i64 px, .int .i64 py] 34)).alloc (.cells #[.slice none 0 0, .bool false] 25) = W := ⟨_, rfl⟩
 have p0 : W.cell? ⟨w.heap.size, 0, none⟩ = some (.int .i64 px) := by rw [← hW]; simp
 have p1 : W.cell? ⟨w.heap.size, 1, none⟩ = some (.int .i64 py) := by rw [← hW]; simp
 have z0 : W.cell? ⟨w.heap.size + 1, 0, none⟩ = some (.slice none 0 0) := by rw [← hW]; simp
 have z1 : W.cell? ⟨w.heap.size + 1, 1, none⟩ = some (.bool false) := by rw [← hW]; simp
 have zf : ∀ o, W.frozen? ⟨w.heap.size + 1, o, none⟩ = false := fun o => by rw [← hW]; exact World.frozen?_alloc_at _ _ _ _ (by simp)
 have hs : W.heap.size = w.heap.size + 1 + 1 := by rw [← hW]; simp
 have KW : Hid (Kp w W) := by show Kp w W; rw [← hW]; exact ((Kp.refl w).alloc _ _).alloc _ _
 have HW : Hid (_ = W) := hW
 clear hW
 go_enter Tryz.func101, Tryz.ntmps101
 go_wp2
 go_loopw [6] (fun i wr => ∃ (k : Nat) (v : Value), k ≤ 32 ∧ i = .int .i64 (k : Int) ∧ LnB (w.heap.size + 1 + 1) wr v (R k) true ∧ Below (w.heap.size + 1 + 1) W wr) (fun i _ => 32 - (intOf i).toNat)
 case atStart =>
  have e0 : R 0 = [] := by rw [← HR.out]; rfl
  have hl := LnB.new W 25 true
  rw [hs] at hl
  rw [HW.out]
  exact ⟨0, _, by omega, rfl, by rw [e0]; exact hl, (Below.refl _ _).alloc (by rw [hs]; exact Nat.le_refl _) _⟩
 case round =>
  obtain ⟨k, v, hk, rfl, hl, hw⟩ := hrel
  have n0 : Nw W wr := Below.mono hw (by omega)
  replace p0 := nw_at n0 p0
  replace p1 := nw_at n0 p1
  replace z0 := nw_at n0 z0
  replace z1 := nw_at n0 z1
  replace zf : ∀ o, wr.frozen? ⟨w.heap.size + 1, o, none⟩ = false := fun o => ((bcell n0).2 _ _ (by omega)).trans (zf o)
  clear HW n0
  by_cases hlt : k < 32
  ·have HRd : Hid _ := fun w => sround w px py h h k (by omega) (by omega) (by omega) (by omega) (by omega)
   unfold ptV at HRd
   have HE : Hid (R (k + 1) = R k ++ [roundP px py h h k]) := by show _ = _; rw [← HR.out, roundsP_succ, Nat.zero_add]
   have HLn : Hid ((R k).length + 1 ≤ 1000000) := by show _ ≤ _; rw [← HR.out, roundsP_len]; omega
   generalize roundP px py h h k = P at *
   obtain ⟨qx, qy⟩ := P
   obtain ⟨va, vc, hv, _⟩ := hl.own.pts
   generalize (R k).length = vn at hv
   subst hv
   have HL : Hid (LnB (w.heap.size + 1 + 1) wr.drew (.slice va vn vc) (R k) true) := LnB.nw hl ((Below.refl _ _).drew)
   have HW : Hid (Below (w.heap.size + 1 + 1) W wr.drew) := hw.drew
   have q0 : wr.cell? ⟨w.heap.size + 1 + 1, 0, none⟩ = some (.slice va vn vc) := hl.c0
   have qb : w.heap.size + 1 + 1 < wr.heap.size := hl.lt
   clear hl hw z0 z1 zf KW hs
   go_wp2
   go_region_law
    (first
     | (refine st_call 111 #[.int .i64 px, .int .i64 py, .int .i64 h, .int .i64 h, .int .i64 (k : Int)] rfl (by simp [go_sem]) ?_; refine Calls.mono (HRd.out _) ?_; rintro e w' ⟨rfl, hk⟩; refine ⟨_, rfl, ?_⟩; replace HL := (show Hid (LnB (w.heap.size + 1 + 1) w' (.slice va vn vc) (R k) true) from LnB.nw HL.out hk.nw); replace HW := (show Hid (Below (w.heap.size + 1 + 1) W w') from Below.trans HW.out (Below.mono hk.1 (Nat.le_of_lt qb))); replace q0 := HL.out.c0; replace qb := HL.out.lt; clear hk)
     | (refine st_one _ (.tmp 13) (.tmp 22) rfl (w.heap.size + 1 + 1) (.slice va vn vc) (R k) true qx qy _ rfl HL.out rfl HLn.out rfl ?_; intro g' c' w9 h2 h3; obtain ⟨t0, tf⟩ := LnB.there HL.out h3; have HP : Hid _ := LnB.put HL.out h3 h2; clear h2 h3))
   all_goals
    go_wp2
    go_roundw
    case rel => exact ⟨k + 1, _, by omega, by go_num, by rw [HE.out]; exact HP.out.1, Below.trans HW.out HP.out.2⟩
    case measure => simp [intOf]; omega
  ·obtain rfl : k = 32 := by omega
   have N : Hid (Nw w wr) := Nw.trans (Kp.nw KW.out) (Below.mono hw (by omega))
   obtain ⟨va, vc, hv, _⟩ := hl.own.pts
   have q0 := hl.c0
   have q1 := hl.c1
   have HL : Hid (OwnP wr (w.heap.size + 1 + 1) v (R 32)) := OwnQ.base hl.own (Nat.le_succ _)
   generalize (R 32).length = vn at hv
   subst hv
   clear hl hw KW p0 p1
   go_wp2
   obtain ⟨y0, y1⟩ := set2 wr (w.heap.size + 1) (.slice va vn vc) (.bool true) z0 z1
   have hne : (Value.slice va vn vc).ownBlock ≠ some (w.heap.size + 1) := fun e => by have := (OwnQ.lt HL.out _ e).1; omega
   refine bodyPost_ret (v := .agg #[.slice va vn vc, .bool true]) (by simp [results, Tryz.results101, go_sem, y0, y1]) rfl ⟨_, rfl, OwnQ.base (OwnQ.far (OwnQ.far HL.out _ _ _ hne) _ _ _ hne) (by omega), ?_⟩
   exact (Below.setCell N.out (Nat.le_succ _) _).setCell (Nat.le_succ _) _
theorem boxes4 {w : World} {ax ay px py bx by' : Int} : ∃ W, (((w.alloc (.cells #[.int .i64 ax, .int .i64 ay] 34)).alloc (.cells #[.int .i64 px, .int .i64 py] 34)).alloc (.cells #[.int .i64 bx, .int .i64 by'] 34)).alloc (.cells #[.slice none 0 0, .bool false] 25) = W ∧ Kp w W ∧ W.heap.size = w.heap.size + 1 + 1 + 1 + 1 ∧ (W.cell? ⟨w.heap.size, 0, none⟩ = some (.int .i64 ax) ∧ W.cell? ⟨w.heap.size, 1, none⟩ = some (.int .i64 ay)) ∧ (W.cell? ⟨w.heap.size + 1, 0, none⟩ = some (.int .i64 px) ∧ W.cell? ⟨w.heap.size + 1, 1, none⟩ = some (.int .i64 py)) ∧ (W.cell? ⟨w.heap.size + 1 + 1, 0, none⟩ = some (.int .i64 bx) ∧ W.cell? ⟨w.heap.size + 1 + 1, 1, none⟩ = some (.int .i64 by')) ∧
  W.cell? ⟨w.heap.size + 1 + 1 + 1, 0, none⟩ = some (.slice none 0 0) ∧ W.cell? ⟨w.heap.size + 1 + 1 + 1, 1, none⟩ = some (.bool false) ∧ ∀ o, W.frozen? ⟨w.heap.size + 1 + 1 + 1, o, none⟩ = false := by
 refine ⟨_, rfl, ((((Kp.refl w).alloc _ _).alloc _ _).alloc _ _).alloc _ _, by simp, ?_, ?_, ?_, ?_, ?_, ?_⟩
 ·exact ⟨rq_at (((Kp.refl _).alloc _ _).alloc _ _) (by simp), rq_at (((Kp.refl _).alloc _ _).alloc _ _) (by simp)⟩
 ·exact ⟨rq_at (((Kp.refl _).alloc _ _).alloc _ _) (by simp), rq_at (((Kp.refl _).alloc _ _).alloc _ _) (by simp)⟩
 ·constructor
  ·refine rq_at ((Kp.refl _).alloc _ _) ?_
   rw [World.cell?_alloc_at _ _ _ _ (by simp)]; rfl
  ·refine rq_at ((Kp.refl _).alloc _ _) ?_
   rw [World.cell?_alloc_at _ _ _ _ (by simp)]; rfl
 ·rw [World.cell?_alloc_at _ _ _ _ (by simp)]; rfl
 ·rw [World.cell?_alloc_at _ _ _ _ (by simp)]; rfl
 ·intro o; exact World.frozen?_alloc_at _ _ _ _ (by simp)
theorem sjoin_round (ax ay px py bx by' h : Int) (c1 : -4398046511104 ≤ px) (c2 : px ≤ 4398046511104) (d1 : -4398046511104 ≤ py) (d2 : py ≤ 4398046511104) : RingSays 100 #[.agg #[.int .i64 ax, .int .i64 ay], .agg #[.int .i64 px, .int .i64 py], .agg #[.int .i64 bx, .int .i64 by'], .int .i64 h, .int .i64 2] (roundsP px py h h 0 32) := by
 intro w
 have HD : Hid _ := sdisk px py h c1 c2 d1 d2
 generalize roundsP px py h h 0 32 = l at *
 obtain ⟨W, hW, hK, hs, ⟨a0, a1⟩, ⟨p0, p1⟩, ⟨b0, b1⟩, z0, z1, zf⟩ := boxes4 (w := w) (ax := ax) (ay := ay) (px := px) (py := py) (bx := bx) (by' := by')
 have KW : Hid (Kp w W) := hK
 have HW : Hid (_ = W) := hW
 clear hW hK
 go_enter Tryz.func100, Tryz.ntmps100
 go_upto_region 1 with fail
 rw [HW.out]
 go_wp2_with fail
 refine Calls.mono (HD.out _) ?_
 rintro e w1 ⟨v, rfl, o1, n1⟩
 obtain ⟨va, vc, hv, _⟩ := o1.pts
 have N1 : Hid (Nw w w1) := Nw.trans KW.out.nw n1
 have O1 : Hid (OwnP w1 (w.heap.size + 1 + 1 + 1 + 1) v l) := by rw [← hs]; exact o1
 replace z0 := nw_at n1 z0
 replace z1 := nw_at n1 z1
 replace zf : ∀ o, w1.frozen? ⟨w.heap.size + 1 + 1 + 1, o, none⟩ = false := fun o => ((bcell n1).2 _ _ (by omega)).trans (zf o)
 clear o1 n1 KW HW HD hs a0 a1 p0 p1 b0 b1
 generalize l.length = vn at hv
 subst hv
 go_wp2
 obtain ⟨u0, u1⟩ := set2 w1 (w.heap.size + 1 + 1 + 1) (.slice va vn vc) (.bool true) z0 z1
 have hne : (Value.slice va vn vc).ownBlock ≠ some (w.heap.size + 1 + 1 + 1) := fun e => by have := (OwnQ.lt O1.out _ e).1; omega
 refine bodyPost_ret (v := .agg #[.slice va vn vc, .bool true]) (by simp [results, Tryz.results100, go_sem, u0, u1]) rfl ⟨_, rfl, OwnQ.base (OwnQ.far (OwnQ.far O1.out _ _ _ hne) _ _ _ hne) (by omega), ?_⟩
 exact (Below.setCell N1.out (show w.heap.size ≤ w.heap.size + 1 + 1 + 1 by omega) _).setCell (show w.heap.size ≤ w.heap.size + 1 + 1 + 1 by omega) _
set_option maxRecDepth 100000 in
set_option maxHeartbeats 8000000 in
theorem sjoin_bevel (ax ay px py bx by' h j : Int) (hj : j ≠ 2) (na : nearB (ax, ay) = true) (np : nearB (px, py) = true) (nb : nearB (bx, by') = true) (sx sy tx ty : Int) (es : sideP (ax, ay) (px, py) h = (sx, sy)) (et : sideP (px, py) (bx, by') h = (tx, ty)) (k0 : wid sx) (k1 : wid sy) (k2 : wid tx) (k3 : wid ty) :
  RingSays 100 #[.agg #[.int .i64 ax, .int .i64 ay], .agg #[.int .i64 px, .int .i64 py], .agg #[.int .i64 bx, .int .i64 by'], .int .i64 h, .int .i64 j] (bevelL ax ay px py sx sy px py bx by' tx ty) := by
 intro w
 have HS : Hid (∀ w, _) := fun w => sside w (ax, ay) (px, py) h na np
 have HT : Hid (∀ w, _) := fun w => sside w (px, py) (bx, by') h np nb
 rw [es] at HS
 rw [et] at HT
 obtain ⟨qa1, qa2⟩ := nearB_nr na
 obtain ⟨qp1, qp2⟩ := nearB_nr np
 obtain ⟨qb1, qb2⟩ := nearB_nr nb
 have wa1 : wid ax := by unfold nr at qa1; unfold wid; simp only at *; omega
 have wa2 : wid ay := by unfold nr at qa2; unfold wid; simp only at *; omega
 have wp1 : wid px := by unfold nr at qp1; unfold wid; simp only at *; omega
 have wp2 : wid py := by unfold nr at qp2; unfold wid; simp only at *; omega
 have wb1 : wid bx := by unfold nr at qb1; unfold wid; simp only at *; omega
 have wb2 : wid by' := by unfold nr at qb2; unfold wid; simp only at *; omega
 have HU : Hid (∀ w, _) := fun w => sless w px py ax ay wp1 wp2 wa1 wa2
 have HV : Hid (∀ w, _) := fun w => sless w bx by' px py wb1 wb2 wp1 wp2
 clear qa1 qa2 qp1 qp2 qb1 qb2 na np nb es et wa1 wa2 wb1 wb2
 unfold bevelL
 obtain ⟨ux, hux⟩ : ∃ u, px - ax = u := ⟨_, rfl⟩
 obtain ⟨uy, huy⟩ : ∃ u, py - ay = u := ⟨_, rfl⟩
 obtain ⟨vx, hvx⟩ : ∃ u, bx - px = u := ⟨_, rfl⟩
 obtain ⟨vy, hvy⟩ : ∃ u, by' - py = u := ⟨_, rfl⟩
 rw [hux, huy] at HU ⊢
 rw [hvx, hvy] at HV ⊢
 clear hux huy hvx hvy
 obtain ⟨W, hW, hK, hs, ⟨a0, a1⟩, ⟨p0, p1⟩, ⟨b0, b1⟩, z0, z1, zf⟩ := boxes4 (w := w) (ax := ax) (ay := ay) (px := px) (py := py) (bx := bx) (by' := by')
 have KW : Hid (Kp w W) := hK
 have HW : Hid (_ = W) := hW
 clear hW hK
 by_cases hr : crossV ux uy vx vy < 0
 ·rw [if_pos hr]
  unfold crossV at hr
  go_enter Tryz.func100, Tryz.ntmps100
  go_upto_region 1 with fail
  rw [HW.out]
  clear HW
  go_wp2_with fail
  refine Calls.mono (HS.out _) ?_
  rintro e w1 ⟨rfl, k⟩
  obtain ⟨w2, hw⟩ : ∃ x, w1.alloc (.cells #[.int .i64 sx, .int .i64 sy] 34) = x := ⟨_, rfl⟩
  have k' : Kp w1 w2 := by rw [← hw]; exact (Kp.refl _).alloc _ _
  replace k := Kp.trans k k'
  replace a0 := rq_at k a0
  replace a1 := rq_at k a1
  replace p0 := rq_at k p0
  replace p1 := rq_at k p1
  replace b0 := rq_at k b0
  replace b1 := rq_at k b1
  replace z0 := rq_at k z0
  replace z1 := rq_at k z1
  replace zf : ∀ o, w2.frozen? ⟨w.heap.size + 1 + 1 + 1, o, none⟩ = false := fun o => (k.cells.2 _ _).trans (zf o)
  have s0 : w2.cell? ⟨w1.heap.size, 0, none⟩ = some (.int .i64 sx) := by rw [← hw]; simp
  have s1 : w2.cell? ⟨w1.heap.size, 1, none⟩ = some (.int .i64 sy) := by rw [← hw]; simp
  have K1 : Hid (Kp w w2) := Kp.trans KW.out k
  have H1 : Hid (_ = w2) := hw
  clear hw k k' KW
  go_upto_region 4 with fail
  rw [H1.out]
  clear H1
  go_wp2_with fail
  refine Calls.mono (HT.out _) ?_
  rintro e w3 ⟨rfl, k⟩
  obtain ⟨w4, hw⟩ : ∃ x, w3.alloc (.cells #[.int .i64 tx, .int .i64 ty] 34) = x := ⟨_, rfl⟩
  have k' : Kp w3 w4 := by rw [← hw]; exact (Kp.refl _).alloc _ _
  replace k := Kp.trans k k'
  replace a0 := rq_at k a0
  replace a1 := rq_at k a1
  replace p0 := rq_at k p0
  replace p1 := rq_at k p1
  replace b0 := rq_at k b0
  replace b1 := rq_at k b1
  replace z0 := rq_at k z0
  replace z1 := rq_at k z1
  replace s0 := rq_at k s0
  replace s1 := rq_at k s1
  replace zf : ∀ o, w4.frozen? ⟨w.heap.size + 1 + 1 + 1, o, none⟩ = false := fun o => (k.cells.2 _ _).trans (zf o)
  have t0 : w4.cell? ⟨w3.heap.size, 0, none⟩ = some (.int .i64 tx) := by rw [← hw]; simp
  have t1 : w4.cell? ⟨w3.heap.size, 1, none⟩ = some (.int .i64 ty) := by rw [← hw]; simp
  have K2 : Hid (Kp w w4) := Kp.trans K1.out k
  have H2 : Hid (_ = w4) := hw
  clear hw k k' K1
  go_upto_region 5 with fail
  rw [H2.out]
  clear H2
  go_wp2_with fail
  refine Calls.mono (HU.out _) ?_
  rintro e w5 ⟨rfl, k⟩
  obtain ⟨w6, hw⟩ : ∃ x, w5.alloc (.cells #[.int .i64 ux, .int .i64 uy] 34) = x := ⟨_, rfl⟩
  have k' : Kp w5 w6 := by rw [← hw]; exact (Kp.refl _).alloc _ _
  replace k := Kp.trans k k'
  replace a0 := rq_at k a0
  replace a1 := rq_at k a1
  replace p0 := rq_at k p0
  replace p1 := rq_at k p1
  replace b0 := rq_at k b0
  replace b1 := rq_at k b1
  replace z0 := rq_at k z0
  replace z1 := rq_at k z1
  replace s0 := rq_at k s0
  replace s1 := rq_at k s1
  replace t0 := rq_at k t0
  replace t1 := rq_at k t1
  replace zf : ∀ o, w6.frozen? ⟨w.heap.size + 1 + 1 + 1, o, none⟩ = false := fun o => (k.cells.2 _ _).trans (zf o)
  have u0 : w6.cell? ⟨w5.heap.size, 0, none⟩ = some (.int .i64 ux) := by rw [← hw]; simp
  have u1 : w6.cell? ⟨w5.heap.size, 1, none⟩ = some (.int .i64 uy) := by rw [← hw]; simp
  have K3 : Hid (Kp w w6) := Kp.trans K2.out k
  have H3 : Hid (_ = w6) := hw
  clear hw k k' K2
  go_upto_region 6 with fail
  rw [H3.out]
  clear H3
  go_wp2_with fail
  refine Calls.mono (HV.out _) ?_
  rintro e w7 ⟨rfl, k⟩
  obtain ⟨w8, hw⟩ : ∃ x, w7.alloc (.cells #[.int .i64 vx, .int .i64 vy] 34) = x := ⟨_, rfl⟩
  have k' : Kp w7 w8 := by rw [← hw]; exact (Kp.refl _).alloc _ _
  replace k := Kp.trans k k'
  replace a0 := rq_at k a0
  replace a1 := rq_at k a1
  replace p0 := rq_at k p0
  replace p1 := rq_at k p1
  replace b0 := rq_at k b0
  replace b1 := rq_at k b1
  replace z0 := rq_at k z0
  replace z1 := rq_at k z1
  replace s0 := rq_at k s0
  replace s1 := rq_at k s1
  replace t0 := rq_at k t0
  replace t1 := rq_at k t1
  replace u0 := rq_at k u0
  replace u1 := rq_at k u1
  replace zf : ∀ o, w8.frozen? ⟨w.heap.size + 1 + 1 + 1, o, none⟩ = false := fun o => (k.cells.2 _ _).trans (zf o)
  have v0 : w8.cell? ⟨w7.heap.size, 0, none⟩ = some (.int .i64 vx) := by rw [← hw]; simp
  have v1 : w8.cell? ⟨w7.heap.size, 1, none⟩ = some (.int .i64 vy) := by rw [← hw]; simp
  have K4 : Hid (Kp w w8) := Kp.trans K3.out k
  have H4 : Hid (_ = w8) := hw
  clear hw k k' K3
  go_upto_region 7 with fail
  rw [H4.out]
  clear H4
  go_wp2_with fail
  refine reg_change (ops' := opsOf 8 Tryz.f100) (by kernel_rfl) ?_
  refine JN8.run ⟨px, py, sx, sy, tx, ty, w.heap.size + 1, w1.heap.size, w3.heap.size, w.heap.size + 1 + 1 + 1, w8.drew, _⟩ ⟨p0, p1, s0, s1, t0, t1, wp1, wp2, k0, k1, k2, k3, z0, ⟨_, z1⟩, zf, rfl, rfl, rfl, rfl, rfl⟩ w8 (Kp.refl _) ?_
  rintro γ w9 ⟨wa, wb, ka, kb, rfl⟩
  obtain ⟨y0, y1, o, k⟩ := ring_end (v := .slice (some ⟨wa.heap.size, 0, none⟩) 3 3) K4.out (show w.heap.size ≤ w.heap.size + 1 + 1 + 1 by omega) z0 ⟨_, z1⟩ ka kb (fun B hB => ownp3 wa B hB _ _ _ _ _ _)
  have O : Hid _ := o
  have K : Hid _ := k
  clear o k ka kb K4 z0 z1 zf a0 a1 p0 p1 b0 b1 s0 s1 t0 t1 u0 u1 v0 v1
  simp only [Act.put, List.setIfInBounds_toArray, List.set_cons_zero, List.set_cons_succ]
  go_wp2
  refine bodyPost_ret (v := .agg #[.slice (some ⟨wa.heap.size, 0, none⟩) 3 3, .bool true]) (by simp [results, Tryz.results100, go_sem, y0, y1]) rfl ⟨_, rfl, O.out, Kp.nw K.out⟩
 ·rw [if_neg hr]
  unfold crossV at hr
  go_enter Tryz.func100, Tryz.ntmps100
  go_upto_region 1 with fail
  rw [HW.out]
  clear HW
  go_wp2_with fail
  refine Calls.mono (HS.out _) ?_
  rintro e w1 ⟨rfl, k⟩
  obtain ⟨w2, hw⟩ : ∃ x, w1.alloc (.cells #[.int .i64 sx, .int .i64 sy] 34) = x := ⟨_, rfl⟩
  have k' : Kp w1 w2 := by rw [← hw]; exact (Kp.refl _).alloc _ _
  replace k := Kp.trans k k'
  replace a0 := rq_at k a0
  replace a1 := rq_at k a1
  replace p0 := rq_at k p0
  replace p1 := rq_at k p1
  replace b0 := rq_at k b0
  replace b1 := rq_at k b1
  replace z0 := rq_at k z0
  replace z1 := rq_at k z1
  replace zf : ∀ o, w2.frozen? ⟨w.heap.size + 1 + 1 + 1, o, none⟩ = false := fun o => (k.cells.2 _ _).trans (zf o)
  have s0 : w2.cell? ⟨w1.heap.size, 0, none⟩ = some (.int .i64 sx) := by rw [← hw]; simp
  have s1 : w2.cell? ⟨w1.heap.size, 1, none⟩ = some (.int .i64 sy) := by rw [← hw]; simp
  have K1 : Hid (Kp w w2) := Kp.trans KW.out k
  have H1 : Hid (_ = w2) := hw
  clear hw k k' KW
  go_upto_region 4 with fail
  rw [H1.out]
  clear H1
  go_wp2_with fail
  refine Calls.mono (HT.out _) ?_
  rintro e w3 ⟨rfl, k⟩
  obtain ⟨w4, hw⟩ : ∃ x, w3.alloc (.cells #[.int .i64 tx, .int .i64 ty] 34) = x := ⟨_, rfl⟩
  have k' : Kp w3 w4 := by rw [← hw]; exact (Kp.refl _).alloc _ _
  replace k := Kp.trans k k'
  replace a0 := rq_at k a0
  replace a1 := rq_at k a1
  replace p0 := rq_at k p0
  replace p1 := rq_at k p1
  replace b0 := rq_at k b0
  replace b1 := rq_at k b1
  replace z0 := rq_at k z0
  replace z1 := rq_at k z1
  replace s0 := rq_at k s0
  replace s1 := rq_at k s1
  replace zf : ∀ o, w4.frozen? ⟨w.heap.size + 1 + 1 + 1, o, none⟩ = false := fun o => (k.cells.2 _ _).trans (zf o)
  have t0 : w4.cell? ⟨w3.heap.size, 0, none⟩ = some (.int .i64 tx) := by rw [← hw]; simp
  have t1 : w4.cell? ⟨w3.heap.size, 1, none⟩ = some (.int .i64 ty) := by rw [← hw]; simp
  have K2 : Hid (Kp w w4) := Kp.trans K1.out k
  have H2 : Hid (_ = w4) := hw
  clear hw k k' K1
  go_upto_region 5 with fail
  rw [H2.out]
  clear H2
  go_wp2_with fail
  refine Calls.mono (HU.out _) ?_
  rintro e w5 ⟨rfl, k⟩
  obtain ⟨w6, hw⟩ : ∃ x, w5.alloc (.cells #[.int .i64 ux, .int .i64 uy] 34) = x := ⟨_, rfl⟩
  have k' : Kp w5 w6 := by rw [← hw]; exact (Kp.refl _).alloc _ _
  replace k := Kp.trans k k'
  replace a0 := rq_at k a0
  replace a1 := rq_at k a1
  replace p0 := rq_at k p0
  replace p1 := rq_at k p1
  replace b0 := rq_at k b0
  replace b1 := rq_at k b1
  replace z0 := rq_at k z0
  replace z1 := rq_at k z1
  replace s0 := rq_at k s0
  replace s1 := rq_at k s1
  replace t0 := rq_at k t0
  replace t1 := rq_at k t1
  replace zf : ∀ o, w6.frozen? ⟨w.heap.size + 1 + 1 + 1, o, none⟩ = false := fun o => (k.cells.2 _ _).trans (zf o)
  have u0 : w6.cell? ⟨w5.heap.size, 0, none⟩ = some (.int .i64 ux) := by rw [← hw]; simp
  have u1 : w6.cell? ⟨w5.heap.size, 1, none⟩ = some (.int .i64 uy) := by rw [← hw]; simp
  have K3 : Hid (Kp w w6) := Kp.trans K2.out k
  have H3 : Hid (_ = w6) := hw
  clear hw k k' K2
  go_upto_region 6 with fail
  rw [H3.out]
  clear H3
  go_wp2_with fail
  refine Calls.mono (HV.out _) ?_
  rintro e w7 ⟨rfl, k⟩
  obtain ⟨w8, hw⟩ : ∃ x, w7.alloc (.cells #[.int .i64 vx, .int .i64 vy] 34) = x := ⟨_, rfl⟩
  have k' : Kp w7 w8 := by rw [← hw]; exact (Kp.refl _).alloc _ _
  replace k := Kp.trans k k'
  replace a0 := rq_at k a0
  replace a1 := rq_at k a1
  replace p0 := rq_at k p0
  replace p1 := rq_at k p1
  replace b0 := rq_at k b0
  replace b1 := rq_at k b1
  replace z0 := rq_at k z0
  replace z1 := rq_at k z1
  replace s0 := rq_at k s0
  replace s1 := rq_at k s1
  replace t0 := rq_at k t0
  replace t1 := rq_at k t1
  replace u0 := rq_at k u0
  replace u1 := rq_at k u1
  replace zf : ∀ o, w8.frozen? ⟨w.heap.size + 1 + 1 + 1, o, none⟩ = false := fun o => (k.cells.2 _ _).trans (zf o)
  have v0 : w8.cell? ⟨w7.heap.size, 0, none⟩ = some (.int .i64 vx) := by rw [← hw]; simp
  have v1 : w8.cell? ⟨w7.heap.size, 1, none⟩ = some (.int .i64 vy) := by rw [← hw]; simp
  have K4 : Hid (Kp w w8) := Kp.trans K3.out k
  have H4 : Hid (_ = w8) := hw
  clear hw k k' K3
  go_upto_region 7 with fail
  rw [H4.out]
  clear H4
  go_wp2_with fail
  refine reg_change (ops' := opsOf 9 Tryz.f100) (by kernel_rfl) ?_
  refine JN9.run ⟨px, py, sx, sy, tx, ty, w.heap.size + 1, w1.heap.size, w3.heap.size, w.heap.size + 1 + 1 + 1, w8.drew, _⟩ ⟨p0, p1, s0, s1, t0, t1, wp1, wp2, k0, k1, k2, k3, z0, ⟨_, z1⟩, zf, rfl, rfl, rfl, rfl, rfl⟩ w8 (Kp.refl _) ?_
  rintro γ w9 ⟨wa, wb, ka, kb, rfl⟩
  obtain ⟨y0, y1, o, k⟩ := ring_end (v := .slice (some ⟨wa.heap.size, 0, none⟩) 3 3) K4.out (show w.heap.size ≤ w.heap.size + 1 + 1 + 1 by omega) z0 ⟨_, z1⟩ ka kb (fun B hB => ownp3 wa B hB _ _ _ _ _ _)
  have O : Hid _ := o
  have K : Hid _ := k
  clear o k ka kb K4 z0 z1 zf a0 a1 p0 p1 b0 b1 s0 s1 t0 t1 u0 u1 v0 v1
  simp only [Act.put, List.setIfInBounds_toArray, List.set_cons_zero, List.set_cons_succ]
  go_wp2
  refine bodyPost_ret (v := .agg #[.slice (some ⟨wa.heap.size, 0, none⟩) 3 3, .bool true]) (by simp [results, Tryz.results100, go_sem, y0, y1]) rfl ⟨_, rfl, O.out, Kp.nw K.out⟩
def ShortOr (L R : List Pnt) : Prop := (L = R ∧ 2 ≤ R.length) ∨ (L.length < 2 ∧ R.length < 2)
theorem ShortOr.of {L R : List Pnt} (h : L = R) : ShortOr L R := by
 by_cases h2 : 2 ≤ R.length
 ·exact Or.inl ⟨h, h2⟩
 ·exact Or.inr ⟨by rw [h]; omega, by omega⟩
theorem trim_exit {cl : Bool} {Q : List Pnt} {s t : Nat} (hs : Q.length = s + 1) (hc : t = s + 1 ∨ (t = s ∧ cl = true ∧ ptAt Q s = ptAt Q 0 ∧ 0 < s)) (hx : cl = false ∨ t ≤ 1 ∨ ptAt Q (t - 1) ≠ ptAt Q 0) : ShortOr (Q.take t) (trimQ cl Q) := by
 unfold trimQ
 rw [hs, Nat.add_sub_cancel]
 rcases hc with rfl | ⟨rfl, h1, h2, h3⟩
 ·have e : Q.take (s + 1) = Q := by rw [← hs, List.take_length]
  rw [e]
  by_cases hh : cl = true ∧ ptAt Q s = ptAt Q 0
  ·rw [if_pos hh]
   rcases hx with h | h | h
   ·rw [hh.1] at h; cases h
   ·exact Or.inr ⟨by omega, by simp; omega⟩
   ·rw [Nat.add_sub_cancel] at h; exact absurd hh.2 h
  ·rw [if_neg hh]; exact ShortOr.of rfl
 ·rw [if_pos ⟨h1, h2⟩]; exact ShortOr.of rfl
def lenV : Value → Nat
 | .slice _ n _ => n
 | _ => 0
theorem cornS_len (j h : Int) (q : List Pnt) (cl : Bool) : ∀ k, (cornS j h q cl k).length ≤ k
 | 0 => Nat.le_refl _
 | k + 1 => by
  have := cornS_len j h q cl k
  rw [cornS, List.length_append]
  split <;> simp <;> omega
theorem sjoin (j h : Int) (a p b : Pnt) (na : nearB a = true) (np : nearB p = true) (nb : nearB b = true) (h0 : 0 ≤ h) (h1 : h ≤ 4194304) : RingSays 100 #[.agg #[.int .i64 a.1, .int .i64 a.2], .agg #[.int .i64 p.1, .int .i64 p.2], .agg #[.int .i64 b.1, .int .i64 b.2], .int .i64 h, .int .i64 j] (joinS j h a p b) := by
 obtain ⟨n1, n2⟩ := nearB_nr np
 unfold nr at n1 n2
 unfold joinS
 by_cases hj : j = 2
 ·rw [if_pos hj, hj]
  exact sjoin_round _ _ _ _ _ _ h (by omega) (by omega) (by omega) (by omega)
 ·rw [if_neg hj]
  exact sjoin_bevel _ _ _ _ _ _ h j hj na np nb _ _ _ _ rfl rfl (side_wid _ _ _).1 (side_wid _ _ _).2 (side_wid _ _ _).1 (side_wid _ _ _).2
theorem sq_one (ax ay sx sy : Int) : [(ax + sx, ay + sy), (ax + sx - sy, ay + sy - -sx), (ax - sx - sy, ay - sy - -sx), (ax - sx, ay - sy)] = squareL ax ay sx sy (-sy) sx := by
 unfold squareL
 simp only [Int.sub_eq_add_neg, Int.neg_neg]
theorem capsS_says {pc h : Int} {q : List Pnt} : capsS pc h q = (if pc = 2 then [⟨roundsP (ptAt q 0).1 (ptAt q 0).2 h h 0 32, true⟩, ⟨roundsP (lastP q).1 (lastP q).2 h h 0 32, true⟩]
 else if pc = 3 then [⟨squareL (ptAt q 0).1 (ptAt q 0).2 (sideP (ptAt q 0) (ptAt q 1) h).1 (sideP (ptAt q 0) (ptAt q 1) h).2 (-(sideP (ptAt q 0) (ptAt q 1) h).2) (sideP (ptAt q 0) (ptAt q 1) h).1, true⟩,
  ⟨squareL (lastP q).1 (lastP q).2 (sideP (ptAt q (q.length - 2)) (lastP q) h).1 (sideP (ptAt q (q.length - 2)) (lastP q) h).2 (sideP (ptAt q (q.length - 2)) (lastP q) h).2 (-(sideP (ptAt q (q.length - 2)) (lastP q) h).1), true⟩] else []) := rfl
set_option maxRecDepth 100000 in
set_option maxHeartbeats 16000000 in
theorem sline (w : World) (a : Option Addr) (c : Nat) (l : LD) (p : PD) (dv : Value) (hdv : ∃ x y z, dv = .slice x y z) (hp : 0 < l.pts.length) (hp2 : l.pts.length ≤ 600) (hn : ∀ x, x ∈ l.pts → nearB x = true) (hw0 : 0 ≤ p.w) (hw1 : p.w ≤ 4194304) (hr : Pts w a l.pts) :
  Calls Tryz.prog 78 #[.agg #[.slice a l.pts.length c, .bool l.closed], penV p dv] w fun e w' => ∃ v, e = .returned v ∧ LsOk w' w.heap.size v (strkL l (p.w / 2) p.j p.c) ∧ Nw w w' := by
 obtain ⟨pts, cl⟩ := l
 simp only at hp hp2 hn hr ⊢
 obtain ⟨dx, dy, dz, rfl⟩ := hdv
 obtain ⟨pw, pj, pc, pf⟩ := p
 simp only [penV] at hw0 hw1 ⊢
 obtain ⟨b, off, rfl, hlie⟩ := Pts.lie hr hp
 clear hr
 have HR : Hid (LieP w b off pts) := hlie
 clear hlie
 obtain ⟨h, hh⟩ : ∃ h, pw / 2 = h := ⟨_, rfl⟩
 have hh0 : 0 ≤ h := by rw [← hh]; omega
 have hh1 : h ≤ 4194304 := by rw [← hh]; omega
 have HQ : Hid (2 ≤ (ddP pts cl).length → GQ (ddP pts cl) cl h) := fun h2 => GQ.of (l := ⟨pts, cl⟩) h2 hp2 hn hh0 hh1
 have hst : strkL ⟨pts, cl⟩ h pj pc = if (ddP pts cl).length < 2 then [] else strkQ (ddP pts cl) cl h pj pc := rfl
 have hh2 : pw.tdiv 2 = h := by rw [Int.tdiv_eq_ediv_of_nonneg hw0]; exact hh
 rw [hh, hst]
 clear hst hn
 have HY : Hid (∀ k, (k = 0 ∨ ptAt pts k ≠ ptAt pts (k - 1)) → ddK pts (k + 1) = ddK pts k ++ [ptAt pts k]) := fun k h => by rw [ddK, if_pos h]
 have HX : Hid (∀ k, ¬ (k = 0 ∨ ptAt pts k ≠ ptAt pts (k - 1)) → ddK pts (k + 1) = ddK pts k) := fun k h => by rw [ddK, if_neg h]
 have HL : Hid (∀ k, (ddK pts k).length ≤ k) := ddK_len pts
 have HP : Hid (∀ k, 0 < k → 0 < (ddK pts k).length) := ddK_pos pts
 have HLA : Hid (∀ k, 0 < k → ptAt (ddK pts k) ((ddK pts k).length - 1) = ptAt pts (k - 1)) := ddK_last pts
 have HU : Hid (unlQ (ddK pts pts.length)) := ddK_unl pts pts.length
 have H0 : Hid (ddK pts 0 = []) := rfl
 have HT : Hid (ddP pts cl = trimQ cl (ddK pts pts.length)) := rfl
 obtain ⟨D, hD⟩ : ∃ D, ddK pts = D := ⟨_, rfl⟩
 rw [hD] at HY HX HL H0 HT HP HLA HU
 clear hD
 generalize ddP pts cl = R at *
 obtain ⟨RES, hRES⟩ : ∃ X, (if R.length < 2 then [] else strkQ R cl h pj pc) = X := ⟨_, rfl⟩
 rw [hRES]
 have HRES : Hid ((if R.length < 2 then [] else strkQ R cl h pj pc) = RES) := hRES
 clear hRES
 obtain ⟨n, hn⟩ : ∃ n, pts.length = n := ⟨_, rfl⟩
 have HN : Hid (pts.length = n) := hn
 rw [hn] at HT HU hp hp2 ⊢
 clear hn
 obtain ⟨W, hW⟩ : ∃ W, (w.alloc (.cells #[.slice (some ⟨b, off, none⟩) n c, .bool cl] 25)).alloc (.cells #[.int .i64 pw, .int .i64 pj, .int .i64 pc, .slice dx dy dz, .int .i64 pf] 36) = W := ⟨_, rfl⟩
 obtain ⟨bl, hbl⟩ : ∃ bl, w.heap.size = bl := ⟨_, rfl⟩
 have z0 : W.cell? ⟨bl, 0, none⟩ = some (.slice (some ⟨b, off, none⟩) n c) := by rw [← hW, ← hbl]; simp
 have z1 : W.cell? ⟨bl, 1, none⟩ = some (.bool cl) := by rw [← hW, ← hbl]; simp
 have y0 : W.cell? ⟨bl + 1, 0, none⟩ = some (.int .i64 pw) := by rw [← hW, ← hbl]; simp
 have y1 : W.cell? ⟨bl + 1, 1, none⟩ = some (.int .i64 pj) := by rw [← hW, ← hbl]; simp
 have y2 : W.cell? ⟨bl + 1, 2, none⟩ = some (.int .i64 pc) := by rw [← hW, ← hbl]; simp
 have NW : Hid (Nw w W) := by show Nw _ _; rw [← hW]; exact Nw.trans ((Below.refl _ _).alloc (Nat.le_refl _) _) ((Below.refl _ _).alloc (Nat.le_refl _) _)
 have HBL : Hid (w.heap.size = bl) := hbl
 have HW : Hid (_ = W) := hW
 have HC : Hid (∀ w', Nw W w' → w'.cell? ⟨bl, 1, none⟩ = some (.bool cl) ∧ w'.cell? ⟨bl + 1, 1, none⟩ = some (.int .i64 pj) ∧ w'.cell? ⟨bl + 1, 2, none⟩ = some (.int .i64 pc)) := fun w' k => ⟨nw_at k z1, nw_at k y1, nw_at k y2⟩
 clear hW
 go_enter Tryz.func78, Tryz.ntmps78
 go_upto_block 0 with fail
 rw [HW.out]
 clear z0 z1 y0 y1 y2
 go_cut [6] (fun v wx => OwnP wx W.heap.size v (D n) ∧ Nw W wx)
 case first =>
  go_wp2
  go_loopw [27, 6] (fun i v wr => ∃ k : Nat, k ≤ n ∧ i = .int .i64 (k : Int) ∧ OwnP wr W.heap.size v (D k) ∧ Nw W wr) (fun i _ _ => n - (intOf i).toNat)
  case atStart => exact ⟨0, Nat.zero_le _, rfl, by rw [H0.out]; exact OwnP.nil _ _, Below.refl _ _⟩
  case round =>
   obtain ⟨k, hk, rfl, ho, hw⟩ := hrel
   have HO : Hid (OwnP wr W.heap.size _ (D k)) := ho
   have HWr : Hid (Nw W wr) := hw
   by_cases hlt : k < n
   ·have d1 : decide ((k : Int) < (n : Int)) = true := by simp; omega
    have hlie := LieP.nw HR.out (Nw.trans NW.out hw)
    obtain ⟨r0, r1⟩ := hlie.2 k (by rw [HN.out]; exact hlt)
    obtain ⟨A, hA⟩ : ∃ q, ptAt pts k = q := ⟨_, rfl⟩
    have HYk := HY.out k
    have HXk := HX.out k
    rw [hA] at r0 r1 HYk HXk
    obtain ⟨ax, ay⟩ := A
    simp only at r0 r1
    by_cases hk0 : k = 0
    ·have HE : Hid (D (k + 1) = D k ++ [(ax, ay)]) := HYk (Or.inl hk0)
     have hz : (D k).length = 0 := by rw [hk0, H0.out]; rfl
     obtain ⟨va, vc, hv, _⟩ := ho.pts
     rw [hz] at hv
     subst hv
     clear HYk HXk hlie hA ho hw hk0 hz
     go_wp2
     go_quiet (fail)
     have n1 : Nw wr ((wr.alloc (.cells #[.int .i64 ax, .int .i64 ay] 34)).drewN nq) := below_drewN ((Below.refl _ _).alloc (Nat.le_refl _) _) _
     have q0 : ((wr.alloc (.cells #[.int .i64 ax, .int .i64 ay] 34)).drewN nq).cell? ⟨wr.heap.size, 0, none⟩ = some (.int .i64 ax) := by simp
     have q1 : ((wr.alloc (.cells #[.int .i64 ax, .int .i64 ay] 34)).drewN nq).cell? ⟨wr.heap.size, 1, none⟩ = some (.int .i64 ay) := by simp
     generalize (wr.alloc (.cells #[.int .i64 ax, .int .i64 ay] 34)).drewN nq = w1 at *
     have O1 : Hid (OwnP w1 W.heap.size (.slice va 0 vc) (D k)) := OwnP.nw HO.out n1
     have N1 : Hid (Nw W w1) := Nw.trans HWr.out n1
     have HLk : Hid ((D k).length ≤ 600) := by show _ ≤ _; have := HL.out k; omega
     clear n1 r0 r1
     go_wp2_with (at_builtin; (refine wpl_q 34 23 23 (.int .i64 0) (.int .i64 0) 16 under_pts under_pts Tryz.info34 (by decide) rfl _ (.tmp 44) (.tmp 46) rfl W.heap.size (.slice va 0 vc) (vP (D k)) (vP [(ax, ay)]) rfl ?own w1.heap.size 0 1 1 rfl rfl ?hc (vP_one _) (by simp [vP]) ?hl ?hB rfl ?_))
     case own => exact OwnP.nw O1.out (Kp.nw ((Kp.refl w1).alloc _ _))
     case hc => exact (liep_one w1 ax ay 34).vv
     case hl => rw [vP_len, vP_len]; have := HLk.out; simp; omega
     case hB => have b1 := Below.size N1.out; simp; omega
     intro g' c' w9 h2 h3
     rw [← vP_append, ← HE.out] at h2
     have H2 : Hid (OwnP w9 W.heap.size _ (D (k + 1))) := h2
     have N9 : Hid (Nw W w9) := Below.trans (Nw.trans N1.out (Kp.nw ((Kp.refl w1).alloc _ _))) (Ext.below h3 (fun g hg => (OwnQ.lt HO.out g hg).1) (by have b1 := Below.size N1.out; simp; omega))
     clear h2 h3 q0 q1
     go_wp2
     go_roundw
     case rel => exact ⟨k + 1, by omega, by go_num, H2.out, N9.out⟩
     case measure => simp [intOf]; omega
    ·obtain ⟨m, hm⟩ : ∃ m, k - 1 = m := ⟨_, rfl⟩
     have hpos := HP.out k (by omega)
     have hla := HLA.out k (by omega)
     have hQl : (D k).length ≤ k := HL.out k
     obtain ⟨s, hs⟩ : ∃ s, (D k).length = s + 1 := ⟨(D k).length - 1, by omega⟩
     rcases OwnQ.form ho with ⟨_, e0⟩ | ⟨g, c2, e0, hg1, hg2, hlc, hlm, hcs, hfz⟩
     ·have := congrArg List.length e0
      rw [vP_len, hs] at this
      simp at this
     rw [vP_len, hs] at e0 hlc hcs
     have hct := hcs s (by omega)
     rw [vP_at _ s (by omega)] at hct
     rw [hs, Nat.add_sub_cancel, hm] at hla
     rw [hla] at hct
     obtain ⟨Pm, hPm⟩ : ∃ q, ptAt pts m = q := ⟨_, rfl⟩
     rw [hm] at HYk HXk
     rw [hPm] at hct HYk HXk
     obtain ⟨px, py⟩ := Pm
     obtain ⟨s0, s1⟩ := hct
     simp only at s0 s1
     have hwr : IntKind.i64.wrap (s : Int) = (s : Int) := IntWalk.i64_in _ ⟨by omega, by omega⟩
     have d0 : (((s : Int) + 1) == 0) = false := by simp; omega
     rw [hs] at hQl
     subst e0
     clear hlie hPm hA hm hcs hfz hla hpos ho hw
     by_cases ex : px = ax
     ·by_cases ey : py = ay
      ·have HE : Hid (D (k + 1) = D k) := HXk (fun h => h.elim (fun e => hk0 e) (fun e => e (by rw [ex, ey])))
       have e1 : (px == ax) = true := by simp [ex]
       have e2 : (py == ay) = true := by simp [ey]
       clear HYk HXk ex ey hk0
       go_wp2
       go_quiet (fail)
       have n1 : Nw wr ((wr.alloc (.cells #[.int .i64 ax, .int .i64 ay] 34)).drewN nq) := below_drewN ((Below.refl _ _).alloc (Nat.le_refl _) _) _
       generalize (wr.alloc (.cells #[.int .i64 ax, .int .i64 ay] 34)).drewN nq = w1 at *
       have O1 : Hid (OwnP w1 W.heap.size (.slice (some ⟨g, 0, none⟩) (s + 1) c2) (D (k + 1))) := by show OwnP _ _ _ _; rw [HE.out]; exact OwnP.nw HO.out n1
       have N1 : Hid (Nw W w1) := Nw.trans HWr.out n1
       clear n1 r0 r1 s0 s1
       go_wp2
       go_roundw
       case rel => exact ⟨k + 1, by omega, by go_num, O1.out, N1.out⟩
       case measure => simp [intOf]; omega
      ·have HE : Hid (D (k + 1) = D k ++ [(ax, ay)]) := HYk (Or.inr (fun e => ey (by injection e with e1 e2; exact e2.symm)))
       have e1 : (px == ax) = true := by simp [ex]
       have e2 : (py == ay) = false := by simp [ey]
       clear HYk HXk ex ey hk0
       go_wp2
       go_quiet (fail)
       have n1 : Nw wr ((wr.alloc (.cells #[.int .i64 ax, .int .i64 ay] 34)).drewN nq) := below_drewN ((Below.refl _ _).alloc (Nat.le_refl _) _) _
       have q0 : ((wr.alloc (.cells #[.int .i64 ax, .int .i64 ay] 34)).drewN nq).cell? ⟨wr.heap.size, 0, none⟩ = some (.int .i64 ax) := by simp
       have q1 : ((wr.alloc (.cells #[.int .i64 ax, .int .i64 ay] 34)).drewN nq).cell? ⟨wr.heap.size, 1, none⟩ = some (.int .i64 ay) := by simp
       generalize (wr.alloc (.cells #[.int .i64 ax, .int .i64 ay] 34)).drewN nq = w1 at *
       have O1 : Hid (OwnP w1 W.heap.size (.slice (some ⟨g, 0, none⟩) (s + 1) c2) (D k)) := OwnP.nw HO.out n1
       have N1 : Hid (Nw W w1) := Nw.trans HWr.out n1
       have HLk : Hid ((D k).length ≤ 600) := by show _ ≤ _; have := HL.out k; omega
       clear n1 r0 r1 s0 s1
       go_wp2_with (at_builtin; (refine wpl_q 34 23 23 (.int .i64 0) (.int .i64 0) 16 under_pts under_pts Tryz.info34 (by decide) rfl _ (.tmp 44) (.tmp 46) rfl W.heap.size (.slice (some ⟨g, 0, none⟩) (s + 1) c2) (vP (D k)) (vP [(ax, ay)]) rfl ?own w1.heap.size 0 1 1 rfl rfl ?hc (vP_one _) (by simp [vP]) ?hl ?hB rfl ?_))
       case own => exact OwnP.nw O1.out (Kp.nw ((Kp.refl w1).alloc _ _))
       case hc => exact (liep_one w1 ax ay 34).vv
       case hl => rw [vP_len, vP_len]; have := HLk.out; simp; omega
       case hB => have b1 := Below.size N1.out; simp; omega
       intro g' c' w9 h2 h3
       rw [← vP_append, ← HE.out] at h2
       have H2 : Hid (OwnP w9 W.heap.size _ (D (k + 1))) := h2
       have N9 : Hid (Nw W w9) := Below.trans (Nw.trans N1.out (Kp.nw ((Kp.refl w1).alloc _ _))) (Ext.below h3 (fun g hg => (OwnQ.lt HO.out g hg).1) (by have b1 := Below.size N1.out; simp; omega))
       clear h2 h3 q0 q1
       go_wp2
       go_roundw
       case rel => exact ⟨k + 1, by omega, by go_num, H2.out, N9.out⟩
       case measure => simp [intOf]; omega
     ·have HE : Hid (D (k + 1) = D k ++ [(ax, ay)]) := HYk (Or.inr (fun e => ex (by injection e with e1 e2; exact e1.symm)))
      have e1 : (px == ax) = false := by simp [ex]
      clear HYk HXk ex hk0
      go_wp2
      go_quiet (fail)
      have n1 : Nw wr ((wr.alloc (.cells #[.int .i64 ax, .int .i64 ay] 34)).drewN nq) := below_drewN ((Below.refl _ _).alloc (Nat.le_refl _) _) _
      have q0 : ((wr.alloc (.cells #[.int .i64 ax, .int .i64 ay] 34)).drewN nq).cell? ⟨wr.heap.size, 0, none⟩ = some (.int .i64 ax) := by simp
      have q1 : ((wr.alloc (.cells #[.int .i64 ax, .int .i64 ay] 34)).drewN nq).cell? ⟨wr.heap.size, 1, none⟩ = some (.int .i64 ay) := by simp
      generalize (wr.alloc (.cells #[.int .i64 ax, .int .i64 ay] 34)).drewN nq = w1 at *
      have O1 : Hid (OwnP w1 W.heap.size (.slice (some ⟨g, 0, none⟩) (s + 1) c2) (D k)) := OwnP.nw HO.out n1
      have N1 : Hid (Nw W w1) := Nw.trans HWr.out n1
      have HLk : Hid ((D k).length ≤ 600) := by show _ ≤ _; have := HL.out k; omega
      clear n1 r0 r1 s0 s1
      go_wp2_with (at_builtin; (refine wpl_q 34 23 23 (.int .i64 0) (.int .i64 0) 16 under_pts under_pts Tryz.info34 (by decide) rfl _ (.tmp 44) (.tmp 46) rfl W.heap.size (.slice (some ⟨g, 0, none⟩) (s + 1) c2) (vP (D k)) (vP [(ax, ay)]) rfl ?own w1.heap.size 0 1 1 rfl rfl ?hc (vP_one _) (by simp [vP]) ?hl ?hB rfl ?_))
      case own => exact OwnP.nw O1.out (Kp.nw ((Kp.refl w1).alloc _ _))
      case hc => exact (liep_one w1 ax ay 34).vv
      case hl => rw [vP_len, vP_len]; have := HLk.out; simp; omega
      case hB => have b1 := Below.size N1.out; simp; omega
      intro g' c' w9 h2 h3
      rw [← vP_append, ← HE.out] at h2
      have H2 : Hid (OwnP w9 W.heap.size _ (D (k + 1))) := h2
      have N9 : Hid (Nw W w9) := Below.trans (Nw.trans N1.out (Kp.nw ((Kp.refl w1).alloc _ _))) (Ext.below h3 (fun g hg => (OwnQ.lt HO.out g hg).1) (by have b1 := Below.size N1.out; simp; omega))
      clear h2 h3 q0 q1
      go_wp2
      go_roundw
      case rel => exact ⟨k + 1, by omega, by go_num, H2.out, N9.out⟩
      case measure => simp [intOf]; omega
   ·obtain rfl : k = n := by omega
    have d1 : decide ((k : Int) < (k : Int)) = false := by simp
    clear ho hw
    go_wp2
    go_meet
    exact ⟨HO.out, HWr.out⟩
 case rest =>
  obtain ⟨ho, hw⟩ := hcut
  obtain ⟨w1, hw1⟩ : ∃ x, x = wc := ⟨_, rfl⟩
  subst hw1
  have N1 : Hid (Nw W w1) := hw
  have hQl : (D n).length ≤ n := HL.out n
  have hpos := HP.out n hp
  rcases OwnQ.form ho with ⟨_, e0⟩ | ⟨g, c2, e0, hg1, hg2, hlc, hlm, hcs, hfz⟩
  ·have := congrArg List.length e0
   rw [vP_len] at this
   simp at this
   rw [this] at hpos
   simp at hpos
  rw [vP_len] at e0 hlc hcs
  have HPT0 : Hid (∀ i, i < (D n).length → w1.cell? ⟨g, i * 2, none⟩ = some (.int .i64 (ptAt (D n) i).1) ∧ w1.cell? ⟨g, i * 2 + 1, none⟩ = some (.int .i64 (ptAt (D n) i).2)) := fun i hi => by
   have := hcs i hi
   rw [vP_at _ i hi] at this
   exact this
  clear hcs hfz ho hw HY HX HL H0 HP HLA
  generalize D n = Q at *
  obtain ⟨s, hs⟩ : ∃ s, Q.length = s + 1 := ⟨Q.length - 1, by omega⟩
  have HS : Hid (Q.length = s + 1) := hs
  rw [hs] at e0 hlc HPT0 hQl
  subst e0
  go_upto_block 2 with fail
  go_cut [6] (fun v wx => ∃ (L : List Pnt) (g' c' : Nat), v = .slice (some ⟨g', 0, none⟩) L.length c' ∧ Pts wx (some ⟨g', 0, none⟩) L ∧ ShortOr L R ∧ Nw W wx)
  case first =>
   go_wp2
   go_loopw [6] (fun v wr => ∃ t : Nat, v = .slice (some ⟨g, 0, none⟩) t c2 ∧ (t = s + 1 ∨ (t = s ∧ cl = true ∧ ptAt Q s = ptAt Q 0 ∧ 0 < s)) ∧ Nw w1 wr) (fun v _ => lenV v)
   case atStart => exact ⟨s + 1, rfl, Or.inl rfl, Below.refl _ _⟩
   case round =>
    obtain ⟨t, rfl, hca, hnw⟩ := hrel
    have hts : t ≤ s + 1 := by rcases hca with h | ⟨h, _⟩ <;> omega
    have ht0 : 0 < t := by rcases hca with h | ⟨h, _, _, h2⟩ <;> omega
    have HCA : Hid _ := hca
    have NWr : Hid (Nw W wr) := Nw.trans N1.out hnw
    have HTL : Hid ((Q.take t).length = t) := by show _ = _; rw [List.length_take, HS.out]; omega
    have HPT : Hid (Pts wr (some ⟨g, 0, none⟩) (Q.take t)) := by
     refine Pts.nw ?_ hnw
     refine Or.inr ⟨g, 0, rfl, hg2, fun i hi => ?_⟩
     rw [HTL.out] at hi
     rw [Nat.zero_add, ptAt_take _ _ _ hi]
     exact HPT0.out i (by omega)
    obtain ⟨x1, _, _⟩ := HC.out wr NWr.out
    obtain ⟨m, hm⟩ : ∃ m, t = m + 1 := ⟨t - 1, by omega⟩
    obtain ⟨t0, t1⟩ := HPT0.out m (by omega)
    obtain ⟨f0, f1⟩ := HPT0.out 0 (by omega)
    replace t0 := nw_at hnw t0
    replace t1 := nw_at hnw t1
    replace f0 := nw_at hnw f0
    replace f1 := nw_at hnw f1
    rw [Nat.zero_mul] at f0 f1
    have HNWr : Hid (Nw w1 wr) := hnw
    clear hca hnw
    have hwt : IntKind.i64.wrap ((t : Int) - 1) = (m : Int) := by rw [show (t : Int) - 1 = (m : Int) by omega]; exact IntWalk.i64_in _ ⟨by omega, by omega⟩
    have hwt2 : (t : Int) - 1 = (m : Int) := by omega
    have hmt : m < t := by omega
    have HM : Hid (t = m + 1) := hm
    clear hm
    cases cl with
    | false =>
     have HSO : Hid (ShortOr (Q.take t) R) := by show ShortOr _ _; rw [HT.out]; exact trim_exit HS.out HCA.out (Or.inl rfl)
     clear t0 t1 f0 f1
     go_wp2
     go_quiet (fail)
     go_wp2
     go_meet
     exact ⟨Q.take t, g, c2, by rw [HTL.out], Pts.nw HPT.out (below_drewN (Below.refl _ _) _), HSO.out, Nw.trans NWr.out (below_drewN (Below.refl _ _) _)⟩
    | true =>
     by_cases h1 : 1 < t
     ·have d1 : decide ((1 : Int) < (t : Int)) = true := by simp; omega
      obtain ⟨A, hA⟩ : ∃ A, ptAt Q 0 = A := ⟨_, rfl⟩
      obtain ⟨B, hB⟩ : ∃ B, ptAt Q m = B := ⟨_, rfl⟩
      rw [hA] at f0 f1
      rw [hB] at t0 t1
      have HNE : Hid (B ≠ A → ptAt Q (t - 1) ≠ ptAt Q 0) := fun h => by rw [HM.out, Nat.add_sub_cancel, hA, hB]; exact h
      have HEQ : Hid (B = A → ptAt Q m = ptAt Q 0) := fun h => by rw [hA, hB]; exact h
      clear hA hB
      obtain ⟨ax, ay⟩ := A
      obtain ⟨bx, by'⟩ := B
      simp only at f0 f1 t0 t1
      by_cases ex : bx = ax
      ·by_cases ey : by' = ay
       ·have heq := HEQ.out (by rw [ex, ey])
        rcases HCA.out with h | ⟨h, _, h2, h3⟩
        ·have e1 : (bx == ax) = true := by simp [ex]
         have e2 : (by' == ay) = true := by simp [ey]
         have hms : m = s := by have := HM.out; omega
         have HNX : Hid (m = s ∧ true = true ∧ ptAt Q s = ptAt Q 0 ∧ 0 < s) := ⟨hms, rfl, by rw [← hms]; exact heq, by omega⟩
         have hmc : m ≤ c2 := by omega
         clear ex ey heq h hms
         go_wp2
         go_quiet (fail)
         go_wp2
         go_roundw
         case rel => exact ⟨m, rfl, Or.inr HNX.out, Nw.trans HNWr.out (below_drewN (Below.refl _ _) _)⟩
         case measure => simp [lenV]; omega
        ·exfalso
         have hm2 : m + 1 = s := by have := HM.out; omega
         have := HU.out m (by rw [HS.out]; omega)
         rw [hm2, h2] at this
         exact this heq
       ·have HSO : Hid (ShortOr (Q.take t) R) := by show ShortOr _ _; rw [HT.out]; exact trim_exit HS.out HCA.out (Or.inr (Or.inr (HNE.out (fun e => ey (by injection e)))))
        have e1 : (bx == ax) = true := by simp [ex]
        have e2 : (by' == ay) = false := by simp [ey]
        clear ex ey
        go_wp2
        go_quiet (fail)
        go_wp2
        go_meet
        exact ⟨Q.take t, g, c2, by rw [HTL.out], Pts.nw HPT.out (below_drewN (Below.refl _ _) _), HSO.out, Nw.trans NWr.out (below_drewN (Below.refl _ _) _)⟩
      ·have HSO : Hid (ShortOr (Q.take t) R) := by show ShortOr _ _; rw [HT.out]; exact trim_exit HS.out HCA.out (Or.inr (Or.inr (HNE.out (fun e => ex (by injection e)))))
       have e1 : (bx == ax) = false := by simp [ex]
       clear ex
       go_wp2
       go_quiet (fail)
       go_wp2
       go_meet
       exact ⟨Q.take t, g, c2, by rw [HTL.out], Pts.nw HPT.out (below_drewN (Below.refl _ _) _), HSO.out, Nw.trans NWr.out (below_drewN (Below.refl _ _) _)⟩
     ·have HSO : Hid (ShortOr (Q.take t) R) := by show ShortOr _ _; rw [HT.out]; exact trim_exit HS.out HCA.out (Or.inr (Or.inl (by omega)))
      have d1 : decide ((1 : Int) < (t : Int)) = false := by simp; omega
      clear h1 t0 t1 f0 f1
      go_wp2
      go_quiet (fail)
      go_wp2
      go_meet
      exact ⟨Q.take t, g, c2, by rw [HTL.out], Pts.nw HPT.out (below_drewN (Below.refl _ _) _), HSO.out, Nw.trans NWr.out (below_drewN (Below.refl _ _) _)⟩
  case rest =>
   obtain ⟨L, g, c2, hv, hpt, hso, hw⟩ := hcut
   obtain ⟨w2, hw2⟩ : ∃ x, x = wc := ⟨_, rfl⟩
   subst hw2
   subst hv
   have N2 : Hid (Nw W w2) := hw
   rcases hso.symm with ⟨hl, hr⟩ | ⟨rfl, h2⟩
   ·have HE : Hid (RES = []) := by show _ = _; rw [← HRES.out, if_pos hr]
    generalize L.length = ll at *
    have d1 : decide ((ll : Int) < 2) = true := by simp; omega
    clear hpt hw
    go_wp2
    go_ret
    exact ⟨_, rfl, by rw [HE.out]; exact LsOk.of (OwnLn.nil _ _) rfl, Nw.trans NW.out N2.out⟩
   have hq := HQ.out h2
   have hnl : ¬ L.length < 2 := by omega
   have hE : RES = (segsK L h (segN cl L.length)).map bandL ++ cornS pj h L cl L.length ++ (if cl then [] else capsS pc h L) := by
    rw [← HRES.out, if_neg hnl, ← strkR_is hq]; rfl
   clear HRES HT HU hnl HPT0
   have hsN := segN_le cl L.length
   have hs0 := segN_pos (cl := cl) h2
   have hm6 := hq.many
   have HCS : Hid (∀ k, cornS pj h L cl (k + 1) = cornS pj h L cl k ++ (if cl = true ∨ (0 < k ∧ k < L.length - 1) then [⟨joinS pj h (prvP L k) (ptAt L k) (nxtP L k), true⟩] else [])) := fun k => rfl
   have HC0 : Hid (cornS pj h L cl 0 = []) := rfl
   have HCL : Hid (∀ k, (cornS pj h L cl k).length ≤ k) := fun k => cornS_len pj h L cl k
   have HJ : Hid (∀ k, k < L.length → _) := fun k hk => sjoin pj h (prvP L k) (ptAt L k) (nxtP L k) (hq.near _ (Nat.mod_lt _ (by omega))) (hq.near k hk) (hq.nx k) hh0 hh1
   have HG : Hid (∀ k, (segsK L h (k + 1)).map bandL = (segsK L h k).map bandL ++ [bandL (segP L h k)]) := fun k => by rw [segsK_succ, List.map_append]; rfl
   have HG0 : Hid ((segsK L h 0).map bandL = []) := rfl
   have HGL : Hid (∀ k, ((segsK L h k).map bandL).length = k) := fun k => by rw [List.length_map, segsK_len]
   have HSG : Hid (∀ k, k < segN cl L.length → segP L h k = ⟨ptAt L k, nxtP L k, sideP (ptAt L k) (nxtP L k) h⟩) := fun k hk => hq.seg hk
   have HNR : Hid (∀ i, i < L.length → nearB (ptAt L i) = true) := hq.near
   have HCAP : Hid _ := capsS_says (pc := pc) (q := L) (h := h)
   obtain ⟨G, hG⟩ : ∃ G : Nat → List LD, (fun k => (segsK L h k).map bandL) = G := ⟨_, rfl⟩
   have hG' : ∀ k, (segsK L h k).map bandL = G k := fun k => congrFun hG k
   simp only [hG'] at HG HG0 HGL hE
   clear hG hG'
   obtain ⟨CS, hCS⟩ : ∃ CS, cornS pj h L cl = CS := ⟨_, rfl⟩
   rw [hCS] at HCS HC0 HCL hE
   clear hCS
   obtain ⟨CP, hCP⟩ : ∃ CP, capsS pc h L = CP := ⟨_, rfl⟩
   have HCP : Hid (capsS pc h L = CP) := hCP
   rw [hCP] at hE
   clear hCP hq HQ
   obtain ⟨sn, hsn⟩ : ∃ sn, segN cl L.length = sn := ⟨_, rfl⟩
   have HSN : Hid (segN cl L.length = sn) := hsn
   rw [hsn] at hsN hs0 HSG hE
   clear hsn
   have HCQ : Hid (∀ w', Nw w2 w' → ∀ i, i < L.length → w'.cell? ⟨g, 0 + i * 2, none⟩ = some (.int .i64 (ptAt L i).1) ∧ w'.cell? ⟨g, 0 + i * 2 + 1, none⟩ = some (.int .i64 (ptAt L i).2)) := fun w' k i hi => by
    obtain ⟨g', o', e, hl⟩ := Pts.lie (Pts.nw hpt k) (by omega)
    injection e with e; injection e with e1 e2
    rw [e1, e2]
    exact hl.2 i hi
   clear hpt hw
   obtain ⟨r, hr⟩ : ∃ r, L.length = r := ⟨_, rfl⟩
   have HRL : Hid (L.length = r) := hr
   rw [hr] at h2 hm6 hsN HCS HJ HNR HSN HCQ hE ⊢
   clear hr
   have HRS : Hid _ := hE
   clear hE
   have d2 : decide ((r : Int) < 2) = false := by simp; omega
   have hrm1 : IntKind.i64.wrap ((r : Int) - 1) = (r : Int) - 1 := IntWalk.i64_in _ ⟨by omega, by omega⟩
   obtain ⟨x1, x2, x3⟩ := HC.out w2 N2.out
   have hx1 := x1
   go_upto_if 80 with fail
   go_cut [11] (fun v wx => v = .int .i64 (sn : Int) ∧ w2 = wx)
   case first =>
    cases cl with
    | true =>
     have e : sn = r := by rw [← HSN.out]; rfl
     subst e
     go_wp2
     go_meet
     exact ⟨rfl, rfl⟩
    | false =>
     have e : (sn : Int) = (r : Int) - 1 := by have := HSN.out; simp only [segN, cond_false] at this; omega
     go_wp2
     go_meet
     exact ⟨by rw [e], rfl⟩
   case rest =>
    obtain ⟨hv, hw⟩ := hcut
    subst hv
    subst hw
    go_upto_block 4 with fail
    go_cut [10] (fun v wx => LsOk wx w2.heap.size v (G sn) ∧ Nw w2 wx)
    case first =>
     go_wp2
     go_loopw [12, 10] (fun i v wr => ∃ (k : Nat) (it : Its), k ≤ sn ∧ i = .int .i64 (k : Int) ∧ OwnLn wr w2.heap.size v it ∧ it.map (·.2) = G k ∧ Nw w2 wr) (fun i _ _ => sn - (intOf i).toNat)
     case atStart => exact ⟨0, [], Nat.zero_le _, rfl, OwnLn.nil _ _, by rw [HG0.out]; rfl, Below.refl _ _⟩
     case round =>
      obtain ⟨k, it, hk, rfl, ho, he, hw⟩ := hrel
      have HE : Hid (it.map (·.2) = G k) := he
      have HO : Hid (OwnLn wr w2.heap.size _ it) := ho
      have HWr : Hid (Nw w2 wr) := hw
      have hil : it.length = k := by have := HGL.out k; rw [← he, List.length_map] at this; exact this
      obtain ⟨va, vn, vc, hv⟩ := OwnQ.slice ho.own
      subst hv
      clear ho hw he
      by_cases hlt : k < sn
      ·have d1 : decide ((k : Int) < (sn : Int)) = true := by simp; omega
       obtain ⟨m, hm⟩ : ∃ m, (k + 1) % r = m := ⟨_, rfl⟩
       have hmr : m < r := by rw [← hm]; exact Nat.mod_lt _ (by omega)
       have hrm : ((k : Int) + 1).tmod (r : Int) = (m : Int) := by
        rw [← hm, Int.tmod_eq_emod_of_nonneg (by omega)]
        first | exact (Int.natCast_emod (k + 1) r).symm | rfl
       obtain ⟨q0, q1⟩ := HCQ.out wr HWr.out k (by omega)
       obtain ⟨r0, r1⟩ := HCQ.out wr HWr.out m hmr
       rw [Nat.zero_add] at q0 q1 r0 r1
       have hgw : g < wr.heap.size := World.block_lt_of_cell? wr ⟨g, _, none⟩ q0
       have hsg := HSG.out k hlt
       have hnx : nxtP L k = ptAt L m := by unfold nxtP; rw [HRL.out, hm]
       rw [hnx] at hsg
       have na := HNR.out k (by omega)
       have nb := HNR.out m hmr
       obtain ⟨A, hA⟩ : ∃ A, ptAt L k = A := ⟨_, rfl⟩
       obtain ⟨B, hB⟩ : ∃ B, ptAt L m = B := ⟨_, rfl⟩
       rw [hA] at q0 q1 hsg na
       rw [hB] at r0 r1 hsg nb
       obtain ⟨ax, ay⟩ := A
       obtain ⟨bx, by'⟩ := B
       obtain ⟨wa1, wa2⟩ := near_wid na
       obtain ⟨wb1, wb2⟩ := near_wid nb
       obtain ⟨ws1, ws2⟩ := side_wid (ax, ay) (bx, by') h
       have HD : Hid (∀ w, _) := fun w => sside w (ax, ay) (bx, by') h na nb
       obtain ⟨SP, hSP⟩ : ∃ SP, sideP (ax, ay) (bx, by') h = SP := ⟨_, rfl⟩
       rw [hSP] at HD ws1 ws2 hsg
       obtain ⟨sx, sy⟩ := SP
       simp only at q0 q1 r0 r1 HD wa1 wa2 wb1 wb2 ws1 ws2
       have HGk : Hid (G (k + 1) = G k ++ [bandL ⟨(ax, ay), (bx, by'), (sx, sy)⟩]) := by show _ = _; rw [HG.out k, hsg]
       have HWID : Hid _ := And.intro (And.intro wa1 wa2) (And.intro (And.intro wb1 wb2) (And.intro ws1 ws2))
       clear hA hB hSP hsg hnx na nb wa1 wa2 wb1 wb2 ws1 ws2 hm
       obtain ⟨W5, hW5⟩ : ∃ W5, (wr.alloc (.cells #[.int .i64 ax, .int .i64 ay] 34)).alloc (.cells #[.int .i64 bx, .int .i64 by'] 34) = W5 := ⟨_, rfl⟩
       have a0 : W5.cell? ⟨wr.heap.size, 0, none⟩ = some (.int .i64 ax) := by rw [← hW5]; simp
       have a1 : W5.cell? ⟨wr.heap.size, 1, none⟩ = some (.int .i64 ay) := by rw [← hW5]; simp
       have b0 : W5.cell? ⟨wr.heap.size + 1, 0, none⟩ = some (.int .i64 bx) := by rw [← hW5]; simp
       have b1 : W5.cell? ⟨wr.heap.size + 1, 1, none⟩ = some (.int .i64 by') := by rw [← hW5]; simp
       have N5 : Hid (Nw wr W5) := by show Nw _ _; rw [← hW5]; exact Kp.nw (((Kp.refl wr).alloc _ _).alloc _ _)
       have HW5 : Hid (_ = W5) := hW5
       clear hW5
       go_wp2_with fail
       rw [HW5.out]
       refine Calls.mono (HD.out _) ?_
       rintro e w6 ⟨rfl, k6⟩
       obtain ⟨W7, hW7⟩ : ∃ W7, w6.alloc (.cells #[.int .i64 sx, .int .i64 sy] 34) = W7 := ⟨_, rfl⟩
       have k67 : Kp w6 W7 := by rw [← hW7]; exact (Kp.refl _).alloc _ _
       have k57 := Kp.trans k6 k67
       have D7 : Hid (Nw W7 W7.drew) := (Below.refl _ _).drew
       have N7 : Hid (Nw wr W7.drew) := Nw.trans N5.out (Nw.trans (Kp.nw k57) D7.out)
       have s0 : W7.cell? ⟨w6.heap.size, 0, none⟩ = some (.int .i64 sx) := by rw [← hW7]; simp
       have s1 : W7.cell? ⟨w6.heap.size, 1, none⟩ = some (.int .i64 sy) := by rw [← hW7]; simp
       have HA7 : Hid _ := And.intro (And.intro (nw_at D7.out (rq_at k57 a0)) (nw_at D7.out (rq_at k57 a1))) (And.intro (And.intro (nw_at D7.out (rq_at k57 b0)) (nw_at D7.out (rq_at k57 b1))) (And.intro (nw_at D7.out s0) (nw_at D7.out s1)))
       have HW7 : Hid (_ = W7) := hW7
       have O7 : Hid (OwnLn W7.drew w2.heap.size (.slice va vn vc) it) := OwnLn.nw HO.out N7.out
       have hBW : Hid (w2.heap.size ≤ W7.drew.heap.size) := Below.size (Nw.trans HWr.out N7.out)
       clear hW7 k6 k67 k57 s0 s1 a0 a1 b0 b1 q0 q1 r0 r1
       go_upto_region 24 with fail
       rw [HW7.out]
       refine reg_change (ops' := opsOf 24 Tryz.f78) (by kernel_rfl) ?_
       refine LL24.run ⟨ax, ay, bx, by', sx, sy, wr.heap.size, wr.heap.size + 1, w6.heap.size, .slice va vn vc, w2.heap.size, it, W7.drew, _⟩ ⟨HA7.out.1.1, HA7.out.1.2, HA7.out.2.1.1, HA7.out.2.1.2, HA7.out.2.2.1, HA7.out.2.2.2, HWID.out.1.1, HWID.out.1.2, HWID.out.2.1.1, HWID.out.2.1.2, HWID.out.2.2.1, HWID.out.2.2.2, O7.out, hBW.out, by show it.length + 1 ≤ _; omega, rfl, rfl, rfl, rfl, rfl⟩ W7 (Kp.refl _) ?_
       rintro γ w9 ⟨u, o9, b9⟩
       have N9 : Hid (Nw w2 w9) := Below.trans (Nw.trans HWr.out N7.out) b9
       obtain ⟨ja, jn, jc, hj⟩ := OwnQ.slice o9.own
       simp only [hj, Act.put, List.setIfInBounds_toArray, List.set_cons_zero, List.set_cons_succ]
       rw [hj] at o9
       have O9 : Hid (OwnLn w9 w2.heap.size (.slice ja jn jc) _) := o9
       clear o9 b9 hj
       generalize γ 0 = y0 at *
       generalize γ 1 = y1 at *
       generalize γ 2 = y2 at *
       generalize γ 3 = y3 at *
       go_wp2
       go_roundw
       case rel => exact ⟨k + 1, _, hlt, by go_num, O9.out, by rw [HGk.out, List.map_append, HE.out]; rfl, N9.out⟩
       case measure => simp [intOf]; omega
      ·obtain rfl : k = sn := by omega
       have d1 : decide ((k : Int) < (k : Int)) = false := by simp
       go_wp2
       go_meet
       exact ⟨LsOk.of HO.out HE.out, HWr.out⟩
    case rest =>
     obtain ⟨⟨it3, o3, e3⟩, n3⟩ := hcut
     obtain ⟨w3, hw3⟩ : ∃ x, x = wc := ⟨_, rfl⟩
     subst hw3
     obtain ⟨oa, on, oc, hov⟩ := OwnQ.slice o3.own
     subst hov
     have O3 : Hid (OwnLn w3 w2.heap.size (.slice oa on oc) it3) := o3
     have E3 : Hid (it3.map (·.2) = G sn) := e3
     have N3 : Hid (Nw w2 w3) := n3
     clear o3 e3 n3 x1 x2 x3 hx1
     go_upto_block 6 with fail
     go_cut [10] (fun v wx => LsOk wx w2.heap.size v (G sn ++ CS r) ∧ Nw w2 wx)
     case first =>
      go_wp2
      go_loopw [16, 10] (fun i v wr => ∃ (k : Nat) (it : Its), k ≤ r ∧ i = .int .i64 (k : Int) ∧ OwnLn wr w2.heap.size v it ∧ it.map (·.2) = G sn ++ CS k ∧ Nw w2 wr) (fun i _ _ => r - (intOf i).toNat)
      case atStart => exact ⟨0, it3, Nat.zero_le _, rfl, O3.out, by rw [HC0.out, List.append_nil]; exact E3.out, N3.out⟩
      case round =>
       obtain ⟨k, it, hk, rfl, ho, he, hw⟩ := hrel
       have HE : Hid (it.map (·.2) = G sn ++ CS k) := he
       have HO : Hid (OwnLn wr w2.heap.size _ it) := ho
       have HWr : Hid (Nw w2 wr) := hw
       have hil : it.length ≤ sn + k := by
        have := congrArg List.length he
        rw [List.length_map, List.length_append] at this
        have h1 := HGL.out sn
        have h2 := HCL.out k
        omega
       obtain ⟨va, vn, vc, hv⟩ := OwnQ.slice ho.own
       subst hv
       obtain ⟨x1, x2, x3⟩ := HC.out wr (Nw.trans N2.out hw)
       clear ho hw he
       by_cases hlt : k < r
       ·have d1 : decide ((k : Int) < (r : Int)) = true := by simp; omega
        cases cl with
        | true =>
         have HYES : Hid (true = true ∨ (0 < k ∧ k < L.length - 1)) := Or.inl rfl
         rw [HRL.out] at HYES
         obtain ⟨ia, hia⟩ : ∃ m, (k + r - 1) % r = m := ⟨_, rfl⟩
         have hiar : ia < r := by rw [← hia]; exact Nat.mod_lt _ (by omega)
         obtain ⟨ib, hib⟩ : ∃ m, (k + 1) % r = m := ⟨_, rfl⟩
         have hibr : ib < r := by rw [← hib]; exact Nat.mod_lt _ (by omega)
         have e3 : ((k : Int) + (r : Int) - 1).tmod (r : Int) = (ia : Int) := by
          rw [← hia, Int.tmod_eq_emod_of_nonneg (by omega), show (k : Int) + (r : Int) - 1 = ((k + r - 1 : Nat) : Int) by omega]
          first | exact (Int.natCast_emod (k + r - 1) r).symm | rfl
         have e5 : ((k : Int) + 1).tmod (r : Int) = (ib : Int) := by
          rw [← hib, Int.tmod_eq_emod_of_nonneg (by omega)]
          first | exact (Int.natCast_emod (k + 1) r).symm | rfl
         have D8 : Hid (Nw wr wr.drew) := (Below.refl _ _).drew
         have N8 : Hid (Nw w2 wr.drew) := Nw.trans HWr.out D8.out
         obtain ⟨q0, q1⟩ := HCQ.out wr.drew N8.out ia hiar
         obtain ⟨q2, q3⟩ := HCQ.out wr.drew N8.out k hlt
         obtain ⟨q4, q5⟩ := HCQ.out wr.drew N8.out ib hibr
         have hjj := HJ.out k hlt
         have hcs := HCS.out k
         rw [if_pos HYES.out] at hcs
         have en : nxtP L k = ptAt L ib := by unfold nxtP; rw [HRL.out, hib]
         have ep : prvP L k = ptAt L ia := by unfold prvP; rw [HRL.out, hia]
         rw [en, ep] at hjj hcs
         obtain ⟨JL, hJL⟩ : ∃ JL, joinS pj h (ptAt L ia) (ptAt L k) (ptAt L ib) = JL := ⟨_, rfl⟩
         rw [hJL] at hjj hcs
         have HJJ : Hid _ := hjj
         have HCK : Hid (CS (k + 1) = CS k ++ [⟨JL, true⟩]) := hcs
         obtain ⟨_, y1, _⟩ := HC.out wr.drew (Nw.trans N2.out N8.out)
         have Q29 : Hid _ := And.intro (And.intro (And.intro q0 q1) (And.intro q2 q3)) (And.intro (And.intro q4 q5) y1)
         have E29 : Hid (IntKind.i64.wrap ((k : Int) + (r : Int)) = (k : Int) + (r : Int) ∧ IntKind.i64.wrap ((k : Int) + (r : Int) - 1) = (k : Int) + (r : Int) - 1 ∧ ((k : Int) + (r : Int) - 1).tmod (r : Int) = (ia : Int) ∧ IntKind.i64.wrap ((k : Int) + 1) = (k : Int) + 1 ∧ ((k : Int) + 1).tmod (r : Int) = (ib : Int)) := ⟨IntWalk.i64_in _ ⟨by omega, by omega⟩, IntWalk.i64_in _ ⟨by omega, by omega⟩, e3, IntWalk.i64_in _ ⟨by omega, by omega⟩, e5⟩
         have K29 : Hid (¬ r = 0 ∧ ia < r ∧ k < r ∧ ib < r) := ⟨by omega, hiar, hlt, hibr⟩
         have O8 : Hid (OwnLn wr.drew w2.heap.size (.slice va vn vc) it) := OwnLn.nw HO.out D8.out
         have B8 : Hid (w2.heap.size ≤ wr.drew.heap.size) := Below.size N8.out
         have L8 : Hid (it.length + 1 ≤ 1000000) := by show _ ≤ _; omega
         generalize ptAt L ia = A at *
         generalize ptAt L k = Pk at *
         generalize ptAt L ib = B at *
         obtain ⟨ax, ay⟩ := A
         obtain ⟨px, py⟩ := Pk
         obtain ⟨ex, ey⟩ := B
         clear q0 q1 q2 q3 q4 q5 y1 hjj hcs en ep hJL e3 e5 hia hib
         go_wp2_with fail
         refine reg_change (ops' := opsOf 29 Tryz.f78) (by kernel_rfl) ?_
         refine LL29.run ⟨ax, ay, px, py, ex, ey, h, pj, g, 0, r, c2, k, ia, ib, bl + 1, JL, .slice va vn vc, w2.heap.size, it, wr.drew, _⟩ ⟨Q29.out.1.1.1, Q29.out.1.1.2, Q29.out.1.2.1, Q29.out.1.2.2, Q29.out.2.1.1, Q29.out.2.1.2, Q29.out.2.2, E29.out.1, E29.out.2.1, E29.out.2.2.1, E29.out.2.2.2.1, E29.out.2.2.2.2, K29.out.1, K29.out.2.1, K29.out.2.2.1, K29.out.2.2.2, HJJ.out, O8.out, B8.out, L8.out, rfl, rfl, rfl, rfl, rfl, rfl, rfl⟩ wr rfl ?_
         rintro γ w9 ⟨u, o9, b9⟩
         have N9 : Hid (Nw w2 w9) := Below.trans N8.out b9
         obtain ⟨ja, jn, jc, hj⟩ := OwnQ.slice o9.own
         simp only [hj, Act.put, List.setIfInBounds_toArray, List.set_cons_zero, List.set_cons_succ]
         rw [hj] at o9
         have O9 : Hid (OwnLn w9 w2.heap.size (.slice ja jn jc) _) := o9
         clear o9 b9 hj Q29 E29
         generalize γ 0 = y0 at *
         generalize γ 1 = y1 at *
         generalize γ 2 = y2 at *
         go_wp2
         go_roundw
         case rel => exact ⟨k + 1, _, hlt, by go_num, O9.out, by rw [HCK.out, List.map_append, HE.out, List.append_assoc]; rfl, N9.out⟩
         case measure => simp [intOf]; omega
        | false =>
         by_cases hk0 : 0 < k
         ·have d3 : decide ((0 : Int) < (k : Int)) = true := by simp; omega
          by_cases hk1 : k < r - 1
          ·have d4 : decide ((k : Int) < (r : Int) - 1) = true := by simp; omega
           have HYES : Hid (false = true ∨ (0 < k ∧ k < r - 1)) := Or.inr ⟨hk0, hk1⟩
           obtain ⟨ia, hia⟩ : ∃ m, (k + r - 1) % r = m := ⟨_, rfl⟩
           have hiar : ia < r := by rw [← hia]; exact Nat.mod_lt _ (by omega)
           obtain ⟨ib, hib⟩ : ∃ m, (k + 1) % r = m := ⟨_, rfl⟩
           have hibr : ib < r := by rw [← hib]; exact Nat.mod_lt _ (by omega)
           have e3 : ((k : Int) + (r : Int) - 1).tmod (r : Int) = (ia : Int) := by
            rw [← hia, Int.tmod_eq_emod_of_nonneg (by omega), show (k : Int) + (r : Int) - 1 = ((k + r - 1 : Nat) : Int) by omega]
            first | exact (Int.natCast_emod (k + r - 1) r).symm | rfl
           have e5 : ((k : Int) + 1).tmod (r : Int) = (ib : Int) := by
            rw [← hib, Int.tmod_eq_emod_of_nonneg (by omega)]
            first | exact (Int.natCast_emod (k + 1) r).symm | rfl
           have D8 : Hid (Nw wr wr.drew) := (Below.refl _ _).drew
           have N8 : Hid (Nw w2 wr.drew) := Nw.trans HWr.out D8.out
           obtain ⟨q0, q1⟩ := HCQ.out wr.drew N8.out ia hiar
           obtain ⟨q2, q3⟩ := HCQ.out wr.drew N8.out k hlt
           obtain ⟨q4, q5⟩ := HCQ.out wr.drew N8.out ib hibr
           have hjj := HJ.out k hlt
           have hcs := HCS.out k
           rw [if_pos HYES.out] at hcs
           have en : nxtP L k = ptAt L ib := by unfold nxtP; rw [HRL.out, hib]
           have ep : prvP L k = ptAt L ia := by unfold prvP; rw [HRL.out, hia]
           rw [en, ep] at hjj hcs
           obtain ⟨JL, hJL⟩ : ∃ JL, joinS pj h (ptAt L ia) (ptAt L k) (ptAt L ib) = JL := ⟨_, rfl⟩
           rw [hJL] at hjj hcs
           have HJJ : Hid _ := hjj
           have HCK : Hid (CS (k + 1) = CS k ++ [⟨JL, true⟩]) := hcs
           obtain ⟨_, y1, _⟩ := HC.out wr.drew (Nw.trans N2.out N8.out)
           have Q29 : Hid _ := And.intro (And.intro (And.intro q0 q1) (And.intro q2 q3)) (And.intro (And.intro q4 q5) y1)
           have E29 : Hid (IntKind.i64.wrap ((k : Int) + (r : Int)) = (k : Int) + (r : Int) ∧ IntKind.i64.wrap ((k : Int) + (r : Int) - 1) = (k : Int) + (r : Int) - 1 ∧ ((k : Int) + (r : Int) - 1).tmod (r : Int) = (ia : Int) ∧ IntKind.i64.wrap ((k : Int) + 1) = (k : Int) + 1 ∧ ((k : Int) + 1).tmod (r : Int) = (ib : Int)) := ⟨IntWalk.i64_in _ ⟨by omega, by omega⟩, IntWalk.i64_in _ ⟨by omega, by omega⟩, e3, IntWalk.i64_in _ ⟨by omega, by omega⟩, e5⟩
           have K29 : Hid (¬ r = 0 ∧ ia < r ∧ k < r ∧ ib < r) := ⟨by omega, hiar, hlt, hibr⟩
           have O8 : Hid (OwnLn wr.drew w2.heap.size (.slice va vn vc) it) := OwnLn.nw HO.out D8.out
           have B8 : Hid (w2.heap.size ≤ wr.drew.heap.size) := Below.size N8.out
           have L8 : Hid (it.length + 1 ≤ 1000000) := by show _ ≤ _; omega
           generalize ptAt L ia = A at *
           generalize ptAt L k = Pk at *
           generalize ptAt L ib = B at *
           obtain ⟨ax, ay⟩ := A
           obtain ⟨px, py⟩ := Pk
           obtain ⟨ex, ey⟩ := B
           clear q0 q1 q2 q3 q4 q5 y1 hjj hcs en ep hJL e3 e5 hia hib
           go_wp2_with fail
           refine reg_change (ops' := opsOf 29 Tryz.f78) (by kernel_rfl) ?_
           refine LL29.run ⟨ax, ay, px, py, ex, ey, h, pj, g, 0, r, c2, k, ia, ib, bl + 1, JL, .slice va vn vc, w2.heap.size, it, wr.drew, _⟩ ⟨Q29.out.1.1.1, Q29.out.1.1.2, Q29.out.1.2.1, Q29.out.1.2.2, Q29.out.2.1.1, Q29.out.2.1.2, Q29.out.2.2, E29.out.1, E29.out.2.1, E29.out.2.2.1, E29.out.2.2.2.1, E29.out.2.2.2.2, K29.out.1, K29.out.2.1, K29.out.2.2.1, K29.out.2.2.2, HJJ.out, O8.out, B8.out, L8.out, rfl, rfl, rfl, rfl, rfl, rfl, rfl⟩ wr rfl ?_
           rintro γ w9 ⟨u, o9, b9⟩
           have N9 : Hid (Nw w2 w9) := Below.trans N8.out b9
           obtain ⟨ja, jn, jc, hj⟩ := OwnQ.slice o9.own
           simp only [hj, Act.put, List.setIfInBounds_toArray, List.set_cons_zero, List.set_cons_succ]
           rw [hj] at o9
           have O9 : Hid (OwnLn w9 w2.heap.size (.slice ja jn jc) _) := o9
           clear o9 b9 hj Q29 E29
           generalize γ 0 = y0 at *
           generalize γ 1 = y1 at *
           generalize γ 2 = y2 at *
           go_wp2
           go_roundw
           case rel => exact ⟨k + 1, _, hlt, by go_num, O9.out, by rw [HCK.out, List.map_append, HE.out, List.append_assoc]; rfl, N9.out⟩
           case measure => simp [intOf]; omega
          ·have d4 : decide ((k : Int) < (r : Int) - 1) = false := by simp; omega
           have HNO : Hid (¬ (false = true ∨ (0 < k ∧ k < r - 1))) := fun h => h.elim (fun e => by cases e) (fun e => hk1 e.2)
           have hcs := HCS.out k
           rw [if_neg HNO.out, List.append_nil] at hcs
           have HCK : Hid (CS (k + 1) = CS k) := hcs
           clear hcs
           go_wp2
           go_roundw
           case rel => exact ⟨k + 1, it, hlt, by go_num, HO.out, by rw [HCK.out]; exact HE.out, HWr.out⟩
           case measure => simp [intOf]; omega
         ·have d3 : decide ((0 : Int) < (k : Int)) = false := by simp; omega
          have HNO : Hid (¬ (false = true ∨ (0 < k ∧ k < r - 1))) := fun h => h.elim (fun e => by cases e) (fun e => hk0 e.1)
          have hcs := HCS.out k
          rw [if_neg HNO.out, List.append_nil] at hcs
          have HCK : Hid (CS (k + 1) = CS k) := hcs
          clear hcs
          go_wp2
          go_roundw
          case rel => exact ⟨k + 1, it, hlt, by go_num, HO.out, by rw [HCK.out]; exact HE.out, HWr.out⟩
          case measure => simp [intOf]; omega
       ·obtain rfl : k = r := by omega
        have d1 : decide ((k : Int) < (k : Int)) = false := by simp
        go_wp2
        go_meet
        exact ⟨LsOk.of HO.out HE.out, HWr.out⟩
     case rest =>
      obtain ⟨⟨it4, o4, e4⟩, n4⟩ := hcut
      obtain ⟨w4, hw4⟩ : ∃ x, x = wc := ⟨_, rfl⟩
      subst hw4
      obtain ⟨oa, on, oc, hov⟩ := OwnQ.slice o4.own
      subst hov
      have O4 : Hid (OwnLn w4 w2.heap.size (.slice oa on oc) it4) := o4
      have E4 : Hid (it4.map (·.2) = G sn ++ CS r) := e4
      have N4 : Hid (Nw w2 w4) := n4
      have NF4 : Hid (Nw w w4) := Nw.trans NW.out (Nw.trans N2.out n4)
      have HB2 : Hid (w.heap.size ≤ w2.heap.size) := Below.size (Nw.trans NW.out N2.out)
      have HBB : Hid (bl ≤ w2.heap.size) := by show bl ≤ _; rw [← HBL.out]; exact HB2.out
      have hil : it4.length ≤ 1800 := by
       have := congrArg List.length e4
       rw [List.length_map, List.length_append] at this
       have h1 := HGL.out sn
       have h2 := HCL.out r
       omega
      obtain ⟨x1, x2, x3⟩ := HC.out w4 (Nw.trans N2.out n4)
      clear o4 e4 n4
      cases cl with
      | true =>
       have HEF : Hid (RES = G sn ++ CS r) := by show _ = _; rw [HRS.out, if_pos rfl, List.append_nil]
       go_wp2
       go_ret
       exact ⟨_, rfl, by rw [HEF.out]; first | exact LsOk.of (OwnLn.base O4.out HB2.out) E4.out | exact LsOk.of (OwnLn.base O4.out HBB.out) E4.out, NF4.out⟩
      | false =>
       have HEF : Hid (RES = G sn ++ CS r ++ CP) := by show _ = _; rw [HRS.out, if_neg (by decide)]
       have hcp : CP = _ := HCP.out.symm.trans HCAP.out
       have hla : lastP L = ptAt L (r - 1) := by unfold lastP; rw [HRL.out]
       rw [hla, HRL.out] at hcp
       clear HCP HCAP hla
       have na := HNR.out 0 (by omega)
       have nb := HNR.out 1 (by omega)
       have ny := HNR.out (r - 2) (by omega)
       have nz := HNR.out (r - 1) (by omega)
       have D4 : Hid (Nw w4 w4.drew) := (Below.refl _ _).drew
       have NQ : Hid (Nw w2 w4.drew) := Nw.trans N4.out D4.out
       have HCQ7 : Hid (∀ w', Nw w2 w' → _) := fun w' k => And.intro (HCQ.out w' k 0 (by omega)) (And.intro (HCQ.out w' k 1 (by omega)) (And.intro (HCQ.out w' k (r - 2) (by omega)) (HCQ.out w' k (r - 1) (by omega))))
       have HQ4 : Hid (∀ w', Nw w4 w' → _) := fun w' k => And.intro (HCQ.out w' (Nw.trans N4.out k) 0 (by omega)) (And.intro (HCQ.out w' (Nw.trans N4.out k) 1 (by omega)) (And.intro (HCQ.out w' (Nw.trans N4.out k) (r - 2) (by omega)) (HCQ.out w' (Nw.trans N4.out k) (r - 1) (by omega))))
       generalize ptAt L 0 = A at *
       generalize ptAt L 1 = B at *
       generalize ptAt L (r - 2) = Y at *
       generalize ptAt L (r - 1) = Z at *
       obtain ⟨ax, ay⟩ := A
       obtain ⟨bx, by'⟩ := B
       obtain ⟨yx, yy⟩ := Y
       obtain ⟨zx, zy⟩ := Z
       simp only at hcp HQ4 HCQ7
       by_cases hc2 : pc = 2
       ·subst hc2
        rw [if_pos rfl] at hcp
        obtain ⟨n1, n2⟩ := nearB_nr na
        obtain ⟨n3, n4⟩ := nearB_nr nz
        unfold nr at n1 n2 n3 n4
        simp only at n1 n2 n3 n4
        have HL1 : Hid _ := sdisk ax ay h (by omega) (by omega) (by omega) (by omega)
        have HL2 : Hid _ := sdisk zx zy h (by omega) (by omega) (by omega) (by omega)
        generalize roundsP ax ay h h 0 32 = L1 at *
        generalize roundsP zx zy h h 0 32 = L2 at *
        have HCPE : Hid _ := hcp
        obtain ⟨⟨q0, q1⟩, _, _, ⟨q6, q7⟩⟩ := HQ4.out _ D4.out
        have Q34 : Hid _ := And.intro (And.intro q0 q1) (And.intro q6 q7)
        obtain ⟨m, hm⟩ : ∃ m, r - 1 = m := ⟨_, rfl⟩
        rw [hm] at Q34
        have M34 : Hid (IntKind.i64.wrap ((r : Int) - 1) = (m : Int) ∧ 0 < r ∧ m < r) := ⟨by rw [show (r : Int) - 1 = (m : Int) by omega]; exact IntWalk.i64_in _ ⟨by omega, by omega⟩, by omega, by omega⟩
        have O34 : Hid (OwnLn w4.drew w2.heap.size (.slice oa on oc) it4) := OwnLn.nw O4.out D4.out
        have L34 : Hid (it4.length + 2 ≤ 1000000) := by show _ ≤ _; omega
        clear q0 q1 q6 q7 na nb ny nz n1 n2 n3 n4 hcp hm
        go_wp2_with fail
        refine reg_change (ops' := opsOf 34 Tryz.f78) (by kernel_rfl) ?_
        refine LL34.run ⟨ax, ay, zx, zy, h, g, 0, r, m, c2, L1, L2, .slice oa on oc, w2.heap.size, it4, w4.drew, _⟩ ⟨Q34.out.1.1, Q34.out.1.2, Q34.out.2.1, Q34.out.2.2, M34.out.1, M34.out.2.1, M34.out.2.2, HL1.out, HL2.out, O34.out, Below.size NQ.out, L34.out, rfl, rfl, rfl, rfl, rfl⟩ w4 rfl ?_
        rintro γ w9 ⟨u, u2, o9, b9⟩
        replace b9 : Below w2.heap.size w4.drew w9 := b9
        have b9' : Below w.heap.size w4.drew w9 := Below.mono b9 HB2.out
        have N9 : Hid (Nw w w9) := Below.trans (Nw.trans NF4.out D4.out) b9'
        obtain ⟨ja, jn, jc, hj⟩ := OwnQ.slice o9.own
        simp only [hj, Act.put, List.setIfInBounds_toArray, List.set_cons_zero, List.set_cons_succ]
        rw [hj] at o9
        have O9 : Hid (LsOk w9 w.heap.size (.slice ja jn jc) (G sn ++ CS r ++ CP)) := LsOk.of (OwnLn.base o9 HB2.out) (by rw [List.map_append, E4.out, HCPE.out]; rfl)
        clear o9 b9 b9' hj Q34
        generalize γ 0 = y0 at *
        generalize γ 1 = y1 at *
        generalize γ 2 = y2 at *
        generalize γ 3 = y3 at *
        go_wp2
        go_ret
        exact ⟨_, rfl, by rw [HEF.out]; first | exact O9.out | (have o := O9.out; rw [HBL.out] at o; exact o), N9.out⟩
       ·have d2c : (pc == 2) = false := by simp [hc2]
        rw [if_neg hc2] at hcp
        by_cases hc3 : pc = 3
        ·subst hc3
         rw [if_pos rfl] at hcp
         obtain ⟨wa1, wa2⟩ := nearB_nr na
         obtain ⟨wz1, wz2⟩ := nearB_nr nz
         unfold nr at wa1 wa2 wz1 wz2
         simp only at wa1 wa2 wz1 wz2
         have bs := side_bd (ax, ay) (bx, by') h
         have bt := side_bd (yx, yy) (zx, zy) h
         have HD1 : Hid (∀ w, _) := fun w => sside w (ax, ay) (bx, by') h na nb
         have HD2 : Hid (∀ w, _) := fun w => sside w (yx, yy) (zx, zy) h ny nz
         generalize sideP (ax, ay) (bx, by') h = S1 at *
         generalize sideP (yx, yy) (zx, zy) h = S2 at *
         obtain ⟨sx, sy⟩ := S1
         obtain ⟨tx, ty⟩ := S2
         simp only at hcp HD1 HD2 bs bt
         obtain ⟨⟨bs1, bs2⟩, bs3, bs4⟩ := bs
         obtain ⟨⟨bt1, bt2⟩, bt3, bt4⟩ := bt
         have hwa : wid ax ∧ wid ay ∧ wid sx ∧ wid sy ∧ wid (-sx) ∧ wid (ax + sx) ∧ wid (ay + sy) ∧ wid (ax - sx) ∧ wid (ay - sy) := by unfold wid; omega
         have HWA : Hid _ := hwa
         have hwz : wid zx ∧ wid zy ∧ wid tx ∧ wid ty ∧ wid (-tx) ∧ wid (zx + tx) ∧ wid (zy + ty) ∧ wid (zx - tx) ∧ wid (zy - ty) := by unfold wid; omega
         have HWZ : Hid _ := hwz
         have HCPE : Hid _ := hcp
         clear na nb ny nz hcp wa1 wa2 wz1 wz2 hwa hwz
         obtain ⟨⟨q0, q1⟩, ⟨q2, q3⟩, _, _⟩ := HQ4.out _ D4.out
         have Q36 : Hid _ := And.intro (And.intro q0 q1) (And.intro q2 q3)
         have K36 : Hid (0 < r ∧ ¬ ((r : Int) ≤ 1)) := ⟨by omega, by omega⟩
         clear q0 q1 q2 q3
         go_wp2_with fail
         refine reg_change (ops' := opsOf 36 Tryz.f78) (by kernel_rfl) ?_
         refine LL36.run ⟨ax, ay, bx, by', sx, sy, h, g, 0, r, c2, w4.drew, _⟩ ⟨Q36.out.1.1, Q36.out.1.2, Q36.out.2.1, Q36.out.2.2, (show 0 < r by omega), (show ¬ ((r : Int) ≤ 1) by omega), HD1.out, rfl, rfl, rfl⟩ w4 (Kp.refl _) ?_
         rintro γ w5 ⟨g17, hγ, hge, ⟨s0, s1⟩, sf, k5⟩
         replace hge : w4.heap.size ≤ g17 := hge
         replace s0 : w5.cell? ⟨g17, 0, none⟩ = some (.int .i64 sx) := s0
         replace s1 : w5.cell? ⟨g17, 1, none⟩ = some (.int .i64 sy) := s1
         replace k5 : Kp w4 w5 := undrew k5
         have h175 : g17 < w5.heap.size := World.block_lt_of_cell? w5 ⟨g17, 0, none⟩ s0
         simp only [hγ, Act.put, List.setIfInBounds_toArray, List.set_cons_zero, List.set_cons_succ]
         obtain ⟨⟨q0, q1⟩, _, _, _⟩ := HQ4.out w5 (Kp.nw k5)
         replace q0 : w5.cell? ⟨g, 0, none⟩ = some (.int .i64 ax) := q0
         replace q1 : w5.cell? ⟨g, 1, none⟩ = some (.int .i64 ay) := q1
         have hg5 : g < w5.heap.size := World.block_lt_of_cell? w5 ⟨g, 0, none⟩ q0
         obtain ⟨W6, hW6⟩ : ∃ W6, (w5.alloc (.cells #[.int .i64 sy, .int .i64 (-sx)] 34)).alloc (.cells #[.int .i64 ax, .int .i64 ay] 34) = W6 := ⟨_, rfl⟩
         have k56 : Kp w5 W6 := by rw [← hW6]; exact ((Kp.refl w5).alloc _ _).alloc _ _
         have D6 : Hid (Nw W6 W6.drew) := (Below.refl _ _).drew
         have t0 : W6.cell? ⟨w5.heap.size, 0, none⟩ = some (.int .i64 sy) := by rw [← hW6]; simp
         have t1 : W6.cell? ⟨w5.heap.size, 1, none⟩ = some (.int .i64 (-sx)) := by rw [← hW6]; simp
         have tf : ∀ o, W6.frozen? ⟨w5.heap.size, o, none⟩ = false := fun o => by rw [← hW6, World.frozen?_alloc_old _ _ _ (by simp)]; exact World.frozen?_alloc_at _ _ _ _ rfl
         have a0 : W6.cell? ⟨w5.heap.size + 1, 0, none⟩ = some (.int .i64 ax) := by rw [← hW6, World.cell?_alloc_at _ _ _ _ (by simp)]; rfl
         have a1 : W6.cell? ⟨w5.heap.size + 1, 1, none⟩ = some (.int .i64 ay) := by rw [← hW6, World.cell?_alloc_at _ _ _ _ (by simp)]; rfl
         have HS6 : Hid (W6.heap.size = w5.heap.size + 2) := by show _ = _; rw [← hW6]; simp
         have Q39 : Hid _ := And.intro (And.intro (nw_at D6.out a0) (nw_at D6.out a1)) (And.intro (And.intro (nw_at D6.out (rq_at k56 s0)) (nw_at D6.out (rq_at k56 s1))) (And.intro (nw_at D6.out t0) (nw_at D6.out t1)))
         have N46 : Hid (Nw w4 W6.drew) := Nw.trans (Kp.nw (Kp.trans k5 k56)) D6.out
         have O6 : Hid (OwnLn W6.drew w2.heap.size (.slice oa on oc) it4) := OwnLn.nw O4.out N46.out
         have F17 : Hid (offLn g17 (.slice oa on oc) it4) := OwnLn.offNew O4.out hge
         have s45 : w4.heap.size ≤ w5.heap.size := Kp.size k5
         have F18 : Hid (offLn w5.heap.size (.slice oa on oc) it4) := OwnLn.offNew O4.out s45
         have Z17 : Hid (∀ o, W6.drew.frozen? ⟨g17, o, none⟩ = false) := fun o => ((bcell (Nw.trans (Kp.nw k56) D6.out)).2 _ _ h175).trans (sf o)
         have Z18 : Hid (∀ o, W6.drew.frozen? ⟨w5.heap.size, o, none⟩ = false) := tf
         have B6 : Hid (w2.heap.size ≤ W6.drew.heap.size) := Below.size (Nw.trans N4.out N46.out)
         have L6 : Hid (it4.length + 1 ≤ 1000000) := by show _ ≤ _; omega
         have HW6 : Hid (_ = W6) := hW6
         have G17 : Hid (w4.heap.size ≤ g17 ∧ g17 < w5.heap.size) := ⟨hge, h175⟩
         clear hW6 k5 k56 t0 t1 tf a0 a1 hγ
         go_upto_region 39 with fail
         rw [HW6.out]
         refine reg_change (ops' := opsOf 39 Tryz.f78) (by kernel_rfl) ?_
         refine LL39.run ⟨ax, ay, sx, sy, sy, -sx, w5.heap.size + 1, g17, w5.heap.size, .slice oa on oc, w2.heap.size, it4, W6.drew, _⟩ ⟨Q39.out.1.1, Q39.out.1.2, Q39.out.2.1.1, Q39.out.2.1.2, Q39.out.2.2.1, Q39.out.2.2.2, HWA.out.1, HWA.out.2.1, HWA.out.2.2.1, HWA.out.2.2.2.1, HWA.out.2.2.2.1, HWA.out.2.2.2.2.1, HWA.out.2.2.2.2.2.1, HWA.out.2.2.2.2.2.2.1, HWA.out.2.2.2.2.2.2.2.1, HWA.out.2.2.2.2.2.2.2.2, O6.out, B6.out, L6.out, rfl, rfl, rfl, rfl, rfl⟩ W6 (Kp.refl _) ?_
         rintro γ2 w7 ⟨u, o7, b7, x7, hu7⟩
         have hs6 := HS6.out
         have g17b := G17.out
         have hlt17 : g17 < W6.drew.heap.size := by show g17 < W6.heap.size; omega
         have hlt18 : w5.heap.size < W6.drew.heap.size := by show w5.heap.size < W6.heap.size; omega
         replace x7 : Ext (.slice oa on oc) (γ2 4) W6.drew w7 := x7
         replace hu7 : ∀ c, u.ownBlock = some c → W6.drew.heap.size ≤ c := hu7
         have f17 := offLn.put F17.out hlt17 x7 hu7 (ld := ⟨[(ax + sx, ay + sy), (ax + sx - sy, ay + sy - -sx), (ax - sx - sy, ay - sy - -sx), (ax - sx, ay - sy)], true⟩)
         have f18 := offLn.put F18.out hlt18 x7 hu7 (ld := ⟨[(ax + sx, ay + sy), (ax + sx - sy, ay + sy - -sx), (ax - sx - sy, ay - sy - -sx), (ax - sx, ay - sy)], true⟩)
         replace o7 : OwnLn w7 w2.heap.size (γ2 4) (it4 ++ [(u, ⟨[(ax + sx, ay + sy), (ax + sx - sy, ay + sy - -sx), (ax - sx - sy, ay - sy - -sx), (ax - sx, ay - sy)], true⟩)]) := o7
         replace b7 : Below w2.heap.size W6.drew w7 := b7
         have v0 : w7.cell? ⟨g17, 0, none⟩ = some (.int .i64 sx) := (Ext.cell x7 hlt17 F17.out.1 0).trans Q39.out.2.1.1
         have v1 : w7.cell? ⟨g17, 1, none⟩ = some (.int .i64 sy) := (Ext.cell x7 hlt17 F17.out.1 1).trans Q39.out.2.1.2
         have u0 : w7.cell? ⟨w5.heap.size, 0, none⟩ = some (.int .i64 sy) := (Ext.cell x7 hlt18 F18.out.1 0).trans Q39.out.2.2.1
         have u1 : w7.cell? ⟨w5.heap.size, 1, none⟩ = some (.int .i64 (-sx)) := (Ext.cell x7 hlt18 F18.out.1 1).trans Q39.out.2.2.2
         have vf : ∀ o, w7.frozen? ⟨g17, o, none⟩ = false := fun o => (World.frozen?_of_block (a := ⟨g17, o, none⟩) (x7.1.block g17 hlt17 (fun e => F17.out.1 e.symm))).trans (Z17.out o)
         have uf : ∀ o, w7.frozen? ⟨w5.heap.size, o, none⟩ = false := fun o => (World.frozen?_of_block (a := ⟨w5.heap.size, o, none⟩) (x7.1.block _ hlt18 (fun e => F18.out.1 e.symm))).trans (Z18.out o)
         obtain ⟨ja, jn, jc, hj⟩ := OwnQ.slice o7.own
         simp only [hj, Act.put, List.setIfInBounds_toArray, List.set_cons_zero, List.set_cons_succ]
         rw [hj] at o7 f17 f18
         have N7 : Hid (Nw w2 w7) := Below.trans (Nw.trans N4.out N46.out) b7
         have O7 : Hid (OwnLn w7 w2.heap.size (.slice ja jn jc) (it4 ++ [(u, _)])) := o7
         have F7 : Hid (offLn g17 (.slice ja jn jc) _ ∧ offLn w5.heap.size (.slice ja jn jc) _) := And.intro f17 f18
         generalize γ2 0 = y0 at *
         generalize γ2 1 = y1 at *
         generalize γ2 2 = y2 at *
         generalize γ2 3 = y3 at *
         have D7 : Hid (Nw w7 w7.drew) := (Below.refl _ _).drew
         obtain ⟨_, _, ⟨q4, q5⟩, q6, q7⟩ := HCQ7.out w7.drew (Nw.trans N7.out D7.out)
         obtain ⟨ia, hia⟩ : ∃ m, r - 2 = m := ⟨_, rfl⟩
         obtain ⟨ib, hib⟩ : ∃ m, r - 1 = m := ⟨_, rfl⟩
         rw [hia] at q4 q5
         rw [hib] at q6 q7
         have Q40 : Hid _ := And.intro (And.intro q4 q5) (And.intro q6 q7)
         have M40 : Hid (IntKind.i64.wrap ((r : Int) - 2) = (ia : Int) ∧ IntKind.i64.wrap ((r : Int) - 1) = (ib : Int) ∧ ia < r ∧ ib < r) := ⟨by rw [show (r : Int) - 2 = (ia : Int) by omega]; exact IntWalk.i64_in _ ⟨by omega, by omega⟩, by rw [show (r : Int) - 1 = (ib : Int) by omega]; exact IntWalk.i64_in _ ⟨by omega, by omega⟩, by omega, by omega⟩
         have V7 : Hid _ := And.intro (And.intro v0 v1) (And.intro u0 u1)
         have VF7 : Hid _ := And.intro vf uf
         have H17 : Hid (g17 < w7.heap.size ∧ w5.heap.size < w7.heap.size ∧ g17 ≠ w5.heap.size) := ⟨World.block_lt_of_cell? w7 ⟨g17, 0, none⟩ v0, World.block_lt_of_cell? w7 ⟨w5.heap.size, 0, none⟩ u0, by omega⟩
         have HIB : Hid ((r : Int) - 1 = (ib : Int) ∧ ib < r) := ⟨by omega, by omega⟩
         clear hj o7 b7 x7 hu7 f17 f18 v0 v1 u0 u1 vf uf q4 q5 q6 q7 s0 s1 q0 q1 hia hib Q39
         go_wp2_with fail
         refine reg_change (ops' := opsOf 40 Tryz.f78) (by kernel_rfl) ?_
         refine LL40.run ⟨yx, yy, zx, zy, tx, ty, h, g, 0, r, ia, ib, c2, g17, w7.drew, _⟩ ⟨Q40.out.1.1, Q40.out.1.2, Q40.out.2.1, Q40.out.2.2, M40.out.1, M40.out.2.1, M40.out.2.2.1, M40.out.2.2.2, HD2.out, ⟨_, V7.out.1.1⟩, ⟨_, V7.out.1.2⟩, VF7.out.1, rfl, rfl, rfl, rfl, rfl⟩ w7 (Kp.refl _) ?_
         rintro γ3 w8 ⟨w8', k8, hw8⟩
         replace k8 : Kp w7 w8' := undrew k8
         replace hw8 : w8 = (w8'.setCell ⟨g17, 0, none⟩ (.int .i64 tx)).setCell ⟨g17, 1, none⟩ (.int .i64 ty) := hw8
         have n28 : Nw w2 w8 := by
          rw [hw8]
          have hb17 : w2.heap.size ≤ g17 := Nat.le_trans (Below.size N4.out) G17.out.1
          exact (Below.setCell (Nw.trans N7.out (Kp.nw k8)) hb17 _).setCell hb17 _
         obtain ⟨z0, z1⟩ := set2 w8' g17 (.int .i64 tx) (.int .i64 ty) (rq_at k8 V7.out.1.1) (rq_at k8 V7.out.1.2)
         rw [← hw8] at z0 z1
         have t0 : w8.cell? ⟨w5.heap.size, 0, none⟩ = some (.int .i64 sy) := by
          rw [hw8, World.cell?_setCell_other _ _ _ _ (fun e => by injection e with e _; exact H17.out.2.2 e), World.cell?_setCell_other _ _ _ _ (fun e => by injection e with e _; exact H17.out.2.2 e)]
          exact rq_at k8 V7.out.2.1
         have t1 : w8.cell? ⟨w5.heap.size, 1, none⟩ = some (.int .i64 (-sx)) := by
          rw [hw8, World.cell?_setCell_other _ _ _ _ (fun e => by injection e with e _; exact H17.out.2.2 e), World.cell?_setCell_other _ _ _ _ (fun e => by injection e with e _; exact H17.out.2.2 e)]
          exact rq_at k8 V7.out.2.2
         have tf : ∀ o, w8.frozen? ⟨w5.heap.size, o, none⟩ = false := fun o => by
          rw [hw8, World.frozen?_setCell, World.frozen?_setCell]
          exact (k8.cells.2 _ _).trans (VF7.out.2 o)
         have O8 : Hid (OwnLn w8 w2.heap.size (.slice ja jn jc) (it4 ++ [(u, ⟨[(ax + sx, ay + sy), (ax + sx - sy, ay + sy - -sx), (ax - sx - sy, ay - sy - -sx), (ax - sx, ay - sy)], true⟩)])) := by
          show OwnLn _ _ _ _
          rw [hw8]
          exact OwnLn.offSet (OwnLn.offSet (OwnLn.nw O7.out (Kp.nw k8)) F7.out.1 _ _) F7.out.1 _ _
         have N8 : Hid (Nw w2 w8) := n28
         clear hw8 k8 n28 O7 Q40 V7 VF7
         simp only [Act.put, List.setIfInBounds_toArray, List.set_cons_zero, List.set_cons_succ]
         obtain ⟨W9, hW9⟩ : ∃ W9, (w8.setCell ⟨w5.heap.size, 0, none⟩ (.int .i64 ty)).setCell ⟨w5.heap.size, 1, none⟩ (.int .i64 (-tx)) = W9 := ⟨_, rfl⟩
         have hb18 : w2.heap.size ≤ w5.heap.size := Nat.le_trans (Below.size N4.out) (Nat.le_trans G17.out.1 (Nat.le_of_lt G17.out.2))
         have n29 : Nw w2 W9 := by rw [← hW9]; exact (Below.setCell N8.out hb18 _).setCell hb18 _
         obtain ⟨r0, r1⟩ := set2 w8 w5.heap.size (.int .i64 ty) (.int .i64 (-tx)) t0 t1
         rw [hW9] at r0 r1
         have p0 : W9.cell? ⟨g17, 0, none⟩ = some (.int .i64 tx) := by
          rw [← hW9, World.cell?_setCell_other _ _ _ _ (fun e => by injection e with e _; exact H17.out.2.2 e.symm), World.cell?_setCell_other _ _ _ _ (fun e => by injection e with e _; exact H17.out.2.2 e.symm)]
          exact z0
         have p1 : W9.cell? ⟨g17, 1, none⟩ = some (.int .i64 ty) := by
          rw [← hW9, World.cell?_setCell_other _ _ _ _ (fun e => by injection e with e _; exact H17.out.2.2 e.symm), World.cell?_setCell_other _ _ _ _ (fun e => by injection e with e _; exact H17.out.2.2 e.symm)]
          exact z1
         have O9 : Hid (OwnLn W9 w2.heap.size (.slice ja jn jc) (it4 ++ [(u, ⟨[(ax + sx, ay + sy), (ax + sx - sy, ay + sy - -sx), (ax - sx - sy, ay - sy - -sx), (ax - sx, ay - sy)], true⟩)])) := by
          show OwnLn _ _ _ _
          rw [← hW9]
          exact OwnLn.offSet (OwnLn.offSet O8.out F7.out.2 _ _) F7.out.2 _ _
         obtain ⟨_, _, _, q6, q7⟩ := HCQ7.out W9 n29
         have hib : r - 1 = ib := by have := HIB.out; omega
         rw [hib, Nat.zero_add] at q6 q7
         have hibr := HIB.out.1
         have hg9 : g < W9.heap.size := World.block_lt_of_cell? W9 ⟨g, _, none⟩ q6
         have P9 : Hid _ := And.intro (And.intro p0 p1) (And.intro r0 r1)
         have N9 : Hid (Nw w2 W9) := n29
         have HW9 : Hid (_ = W9) := hW9
         have hibl := HIB.out.2
         clear hW9 n29 p0 p1 r0 r1
         go_upto_region 42 with fail
         rw [HW9.out]
         clear z0 z1 t0 t1 tf HW9
         obtain ⟨W10, hW10⟩ : ∃ W10, W9.alloc (.cells #[.int .i64 zx, .int .i64 zy] 34) = W10 := ⟨_, rfl⟩
         have k10 : Kp W9 W10 := by rw [← hW10]; exact (Kp.refl _).alloc _ _
         have D10 : Hid (Nw W10 W10.drew) := (Below.refl _ _).drew
         have a0 : W10.cell? ⟨W9.heap.size, 0, none⟩ = some (.int .i64 zx) := by rw [← hW10]; simp
         have a1 : W10.cell? ⟨W9.heap.size, 1, none⟩ = some (.int .i64 zy) := by rw [← hW10]; simp
         have N10 : Hid (Nw w2 W10.drew) := Nw.trans N9.out (Nw.trans (Kp.nw k10) D10.out)
         have Q43 : Hid _ := And.intro (And.intro (nw_at D10.out a0) (nw_at D10.out a1)) (And.intro (And.intro (nw_at D10.out (rq_at k10 P9.out.1.1)) (nw_at D10.out (rq_at k10 P9.out.1.2))) (And.intro (nw_at D10.out (rq_at k10 P9.out.2.1)) (nw_at D10.out (rq_at k10 P9.out.2.2))))
         have O10 : Hid (OwnLn W10.drew w2.heap.size (.slice ja jn jc) (it4 ++ [(u, ⟨[(ax + sx, ay + sy), (ax + sx - sy, ay + sy - -sx), (ax - sx - sy, ay - sy - -sx), (ax - sx, ay - sy)], true⟩)])) := OwnLn.nw O9.out (Nw.trans (Kp.nw k10) D10.out)
         have L10 : Hid ((it4 ++ [(u, (⟨[(ax + sx, ay + sy), (ax + sx - sy, ay + sy - -sx), (ax - sx - sy, ay - sy - -sx), (ax - sx, ay - sy)], true⟩ : LD))]).length + 1 ≤ 1000000) := by show _ ≤ _; rw [List.length_append, List.length_singleton]; omega
         have HW10 : Hid (_ = W10) := hW10
         clear hW10 k10 a0 a1 P9
         go_upto_region 43 with fail
         rw [HW10.out]
         refine reg_change (ops' := opsOf 43 Tryz.f78) (by kernel_rfl) ?_
         refine LL43.run ⟨zx, zy, tx, ty, ty, -tx, W9.heap.size, g17, w5.heap.size, .slice ja jn jc, w2.heap.size, it4 ++ [(u, ⟨[(ax + sx, ay + sy), (ax + sx - sy, ay + sy - -sx), (ax - sx - sy, ay - sy - -sx), (ax - sx, ay - sy)], true⟩)], W10.drew, _⟩ ⟨Q43.out.1.1, Q43.out.1.2, Q43.out.2.1.1, Q43.out.2.1.2, Q43.out.2.2.1, Q43.out.2.2.2, HWZ.out.1, HWZ.out.2.1, HWZ.out.2.2.1, HWZ.out.2.2.2.1, HWZ.out.2.2.2.1, HWZ.out.2.2.2.2.1, HWZ.out.2.2.2.2.2.1, HWZ.out.2.2.2.2.2.2.1, HWZ.out.2.2.2.2.2.2.2.1, HWZ.out.2.2.2.2.2.2.2.2, O10.out, Below.size N10.out, L10.out, rfl, rfl, rfl, rfl, rfl⟩ W10 (Kp.refl _) ?_
         rintro γ4 w11 ⟨u2, o11, b11, _, _⟩
         replace b11 : Below w2.heap.size W10.drew w11 := b11
         have b11' : Below w.heap.size W10.drew w11 := Below.mono b11 HB2.out
         have N11 : Hid (Nw w w11) := Below.trans (Nw.trans NW.out (Nw.trans N2.out N10.out)) b11'
         obtain ⟨ka, kn, kc, hk⟩ := OwnQ.slice o11.own
         simp only [hk, Act.put, List.setIfInBounds_toArray, List.set_cons_zero, List.set_cons_succ]
         rw [hk] at o11
         have O11 : Hid (LsOk w11 w.heap.size (.slice ka kn kc) (G sn ++ CS r ++ CP)) := LsOk.of (OwnLn.base o11 HB2.out) (by rw [List.map_append, List.map_append, E4.out, HCPE.out, List.append_assoc]; show _ ++ ([⟨_, true⟩, ⟨_, true⟩] : List LD) = _; rw [sq_one]; rfl)
         clear o11 b11 b11' hk Q43
         generalize γ4 0 = y0 at *
         generalize γ4 1 = y1 at *
         generalize γ4 2 = y2 at *
         generalize γ4 3 = y3 at *
         go_wp2
         go_ret
         exact ⟨_, rfl, by rw [HEF.out]; first | exact O11.out | (have o := O11.out; rw [HBL.out] at o; exact o), N11.out⟩
        ·have d3c : (pc == 3) = false := by simp [hc3]
         rw [if_neg hc3] at hcp
         have HCPE : Hid (CP = []) := hcp
         clear na nb ny nz hcp HQ4
         go_wp2
         go_ret
         exact ⟨_, rfl, by rw [HEF.out, HCPE.out, List.append_nil]; first | exact LsOk.of (OwnLn.base O4.out HB2.out) E4.out | exact LsOk.of (OwnLn.base O4.out HBB.out) E4.out, NF4.out⟩
set_option maxHeartbeats 400000 in
theorem sdown_any (a b : Int) (w : World) (hb : 0 < b) (hb' : b ≤ 4611686018427387904) (h1 : -4611686018427387904 ≤ a) (h2 : a ≤ 4611686018427387904) :
  Calls Tryz.prog 86 #[.int .i64 a, .int .i64 b] w fun e w' => e = .returned (.int .i64 (a / b)) ∧ w' = w := by
 have hdb : decide (b < 0) = false := by simp; omega
 by_cases ha : 0 ≤ a
 ·have hd := ediv_bd a b ha hb
  have hm := Int.emod_nonneg a (b := b) (by omega)
  have hm' := Int.emod_lt_of_pos a hb
  have hda : decide (a < 0) = false := by simp; omega
  by_cases hz : a % b = 0
  ·have hq : (a % b != 0) = false := by simp [hz]
   clear hz
   go_enter Tryz.func86, Tryz.ntmps86
   go_wp2
   go_ret
   exact ⟨rfl, rfl⟩
  ·have hq : (a % b != 0) = true := by simp [hz]
   clear hz
   go_enter Tryz.func86, Tryz.ntmps86
   go_wp2
   go_ret
   exact ⟨rfl, rfl⟩
 ·have e1 := tdiv_neg_of a b (by omega)
  have e2 := tmod_neg_of a b (by omega)
  have e3 := ediv_neg_of a b hb
  have hd := ediv_bd (-a) b (by omega) hb
  have hm := Int.emod_nonneg (-a) (b := b) (by omega)
  have hm' := Int.emod_lt_of_pos (-a) hb
  have hda : decide (a < 0) = true := by simp; omega
  by_cases hz : (-a) % b = 0
  ·rw [if_pos hz] at e3
   rw [e3]
   clear e3
   generalize (-a) / b = q at *
   rw [hz] at e2 hm hm'
   clear hz hm hm'
   go_enter Tryz.func86, Tryz.ntmps86
   go_wp2
   go_ret
   exact ⟨rfl, rfl⟩
  ·rw [if_neg hz] at e3
   rw [e3]
   clear e3
   generalize (-a) / b = q at *
   generalize (-a) % b = r at *
   have hq : (-r != 0) = true := by simp; omega
   clear hz
   go_enter Tryz.func86, Tryz.ntmps86
   go_wp2
   go_ret
   exact ⟨rfl, rfl⟩
set_option linter.unusedSimpArgs false
structure EWA where
 bx : Nat
 ua : Option Addr
 n : Nat
 uc : Nat
 mn : Int
 W : World
 a0 : Act
structure EWAOk (X : EWA) : Prop where
 c3 : X.W.cell? ⟨X.bx, 3, none⟩ = some (.slice X.ua X.n X.uc)
 h0 : decide ((1 : Int) < (X.n : Int)) = false
 e0 : X.a0.eval (.tmp 0) = .pointer (some ⟨X.bx, 0, none⟩)
 sz : X.a0.tmps.size = 56
def EWA.val0 (X : EWA) : Nat → Value
 | 0 => .pointer (some ⟨X.bx, 0, none⟩)
 | 2 => .pointer (some ⟨X.bx, 0, none⟩)
 | 3 => .pointer (some ⟨X.bx, 0, none⟩)
 | 4 => .pointer (some ⟨X.bx, 3, none⟩)
 | 5 => .slice X.ua X.n X.uc
 | 6 => .int .i64 (X.n : Int)
 | 7 => .bool false
 | 8 => .bool false
 | 20 => .bool false
 | _ => undef
def EWA.av : Nat → Option Nat
 | _ => none
def EWA.acts : List Nat := []
def EWA.Wd (X : EWA) : Nat → (Nat → Value) → World → Prop
  | _, _, w => Kp X.W w
theorem EWA.kp {X : EWA} {n : Nat} {γ : Nat → Value} {w : World} (h : X.Wd n γ w) : Kp X.W w := h
def EWA.L : List (Option Nat × Op × Option (Nat × Bool)) := [
 (some 2, .move (.tmp 0), none),
 (some 3, .nilCheck (.tmp 2), none),
 (some 4, .fieldAddr 100 (.tmp 3) 3, none),
 (some 5, .load 23 (.tmp 4), none),
 (some 6, .call { callee := .builtin .len, args := #[(.tmp 5)], argTypes := #[23] }, none),
 (some 7, .binOp .gtr 3 (.tmp 6) (.const (.int .i64 1)) 3, none),
 (some 8, .move (.tmp 7), none),
 (some 9, .move (.tmp 0), some (6, true)),
 (some 10, .nilCheck (.tmp 9), some (6, true)),
 (some 11, .fieldAddr 100 (.tmp 10) 5, some (6, true)),
 (some 12, .load 3 (.tmp 11), some (6, true)),
 (some 13, .move (.tmp 0), some (6, true)),
 (some 14, .nilCheck (.tmp 13), some (6, true)),
 (some 15, .fieldAddr 100 (.tmp 14) 3, some (6, true)),
 (some 16, .load 23 (.tmp 15), some (6, true)),
 (some 17, .call { callee := .builtin .len, args := #[(.tmp 16)], argTypes := #[23] }, some (6, true)),
 (some 18, .binOp .add 3 (.tmp 12) (.tmp 17) 3, some (6, true)),
 (some 19, .binOp .leq 3 (.tmp 18) (.const (.int .i64 600)) 3, some (6, true)),
 (some 20, .pick (.tmp 8) (.tmp 19) (.const (.bool false)), none)]
theorem EWA.isL : (opsOf 0 Tryz.f68).toList.map tri = EWA.L := by kernel_rfl
theorem EWA.ini {X : EWA} (ok : EWAOk X) : ∀ n ∈ [0], X.a0.eval (.tmp n) = X.val0 n := by
 simp only [List.forall_mem_cons]
 exact ⟨ok.e0, List.forall_mem_nil _⟩
abbrev EWA.St (X : EWA) (Q : PQ) (i : Nat) : Prop := StepG (opsOf 0 Tryz.f68) EWA.acts EWA.av X.val0 X.Wd X.a0 Q i
theorem EWA.plain (X : EWA) (ok : EWAOk X) {Q : PQ} : ∀ i ∈ [0, 1, 2, 3, 4, 5, 6, 18], EWA.St X Q i := by
 simp only [List.forall_mem_cons]
 refine ⟨?_, ?_, ?_, ?_, ?_, ?_, ?_, ?_, List.forall_mem_nil _⟩
 all_goals
  refine st_plain EWA.isL (EWA.ini ok) ok.sz rfl (by kernel_rfl) ?_
  intro γ w n o hW hop
  have hc_c3 := rq_at (EWA.kp hW) ok.c3
  unfold execOp
  rw [hop]
  simp [envR, valG, EWA.av, EWA.val0, hc_c3, ok.h0, go_sem]
theorem EWA.skip (X : EWA) (ok : EWAOk X) {Q : PQ} : ∀ i ∈ [7, 8, 9, 10, 11, 12, 13, 14, 15, 16, 17], EWA.St X Q i := by
 simp only [List.forall_mem_cons]
 refine ⟨?_, ?_, ?_, ?_, ?_, ?_, ?_, ?_, ?_, ?_, ?_, List.forall_mem_nil _⟩
 all_goals
  exact st_plainS EWA.isL (EWA.ini ok) ok.sz rfl rfl (Or.inl rfl) (by kernel_rfl) rfl
theorem EWA.size : (opsOf 0 Tryz.f68).size = 19 := by kernel_rfl
theorem EWA.steps (X : EWA) (ok : EWAOk X) {Q : PQ} (i : Nat) (hi : i < (opsOf 0 Tryz.f68).size) : EWA.St X Q i := by
 rw [EWA.size] at hi
 rcases (by decide : ∀ i, i < 19 → i ∈ [0, 1, 2, 3, 4, 5, 6, 18] ∨ i ∈ [7, 8, 9, 10, 11, 12, 13, 14, 15, 16, 17]) i hi with h | h
 · exact EWA.plain X ok i h
 · exact EWA.skip X ok i h
theorem EWA.run (X : EWA) (ok : EWAOk X) {Q : PQ} (w : World) (h0 : X.Wd 0 (fun _ => undef) w.drew) (hend : ∀ (γ : Nat → Value) w', X.Wd 0 γ w' → Q .normal (((((((((((((((((((X.a0.put (some 2) (.pointer (some ⟨X.bx, 0, none⟩))).put (some 3) (.pointer (some ⟨X.bx, 0, none⟩))).put (some 4) (.pointer (some ⟨X.bx, 3, none⟩))).put (some 5) (.slice X.ua X.n X.uc)).put (some 6) (.int .i64 (X.n : Int))).put (some 7) (.bool false)).put (some 8) (.bool false)).put (some 9) (undef)).put (some 10) (undef)).put (some 11) (undef)).put (some 12) (undef)).put (some 13) (undef)).put (some 14) (undef)).put (some 15) (undef)).put (some 16) (undef)).put (some 17) (undef)).put (some 18) (undef)).put (some 19) (undef)).put (some 20) (.bool false)) w') : (Code.region 0 (opsOf 0 Tryz.f68) true).wp Tryz.prog Q X.a0 w := by
 refine reg_act (acts := EWA.acts) (av := EWA.av) (val0 := X.val0) (Wd := X.Wd) (by kernel_rfl) (by kernel_rfl) (by rw [EWA.size]; decide) (fun i hi => EWA.steps X ok i hi) _ h0 ?_
 intro γ w' h
 exact end_at (hend γ w' h) (by kernel_rfl)
structure EWB where
 bx : Nat
 ua : Option Addr
 n : Nat
 uc : Nat
 mn : Int
 v : Bool
 W : World
 a0 : Act
structure EWBOk (X : EWB) : Prop where
 c3 : X.W.cell? ⟨X.bx, 3, none⟩ = some (.slice X.ua X.n X.uc)
 c5 : X.W.cell? ⟨X.bx, 5, none⟩ = some (.int .i64 X.mn)
 h0 : decide ((1 : Int) < (X.n : Int)) = true
 w1 : IntKind.i64.wrap (X.mn + (X.n : Int)) = X.mn + (X.n : Int)
 hv : decide (X.mn + (X.n : Int) ≤ 600) = X.v
 e0 : X.a0.eval (.tmp 0) = .pointer (some ⟨X.bx, 0, none⟩)
 sz : X.a0.tmps.size = 56
def EWB.val0 (X : EWB) : Nat → Value
 | 0 => .pointer (some ⟨X.bx, 0, none⟩)
 | 2 => .pointer (some ⟨X.bx, 0, none⟩)
 | 3 => .pointer (some ⟨X.bx, 0, none⟩)
 | 4 => .pointer (some ⟨X.bx, 3, none⟩)
 | 5 => .slice X.ua X.n X.uc
 | 6 => .int .i64 (X.n : Int)
 | 7 => .bool true
 | 8 => .bool true
 | 9 => .pointer (some ⟨X.bx, 0, none⟩)
 | 10 => .pointer (some ⟨X.bx, 0, none⟩)
 | 11 => .pointer (some ⟨X.bx, 5, none⟩)
 | 12 => .int .i64 X.mn
 | 13 => .pointer (some ⟨X.bx, 0, none⟩)
 | 14 => .pointer (some ⟨X.bx, 0, none⟩)
 | 15 => .pointer (some ⟨X.bx, 3, none⟩)
 | 16 => .slice X.ua X.n X.uc
 | 17 => .int .i64 (X.n : Int)
 | 18 => .int .i64 (X.mn + (X.n : Int))
 | 19 => .bool X.v
 | 20 => .bool X.v
 | _ => undef
def EWB.av : Nat → Option Nat
 | _ => none
def EWB.acts : List Nat := []
def EWB.Wd (X : EWB) : Nat → (Nat → Value) → World → Prop
  | _, _, w => Kp X.W w
theorem EWB.kp {X : EWB} {n : Nat} {γ : Nat → Value} {w : World} (h : X.Wd n γ w) : Kp X.W w := h
theorem EWB.ini {X : EWB} (ok : EWBOk X) : ∀ n ∈ [0], X.a0.eval (.tmp n) = X.val0 n := by
 simp only [List.forall_mem_cons]
 exact ⟨ok.e0, List.forall_mem_nil _⟩
abbrev EWB.St (X : EWB) (Q : PQ) (i : Nat) : Prop := StepG (opsOf 0 Tryz.f68) EWB.acts EWB.av X.val0 X.Wd X.a0 Q i
theorem EWB.plain (X : EWB) (ok : EWBOk X) {Q : PQ} : ∀ i ∈ [0, 1, 2, 3, 4, 5, 6, 18], EWB.St X Q i := by
 simp only [List.forall_mem_cons]
 refine ⟨?_, ?_, ?_, ?_, ?_, ?_, ?_, ?_, List.forall_mem_nil _⟩
 all_goals
  refine st_plain EWA.isL (EWB.ini ok) ok.sz rfl (by kernel_rfl) ?_
  intro γ w n o hW hop
  have hc_c3 := rq_at (EWB.kp hW) ok.c3
  have hc_c5 := rq_at (EWB.kp hW) ok.c5
  unfold execOp
  rw [hop]
  simp [envR, valG, EWB.av, EWB.val0, hc_c3, ok.h0, hc_c5, ok.w1, ok.hv, go_sem]
theorem EWB.want (X : EWB) (ok : EWBOk X) {Q : PQ} : ∀ i ∈ [7, 8, 9, 10, 11, 12, 13, 14, 15, 16, 17], EWB.St X Q i := by
 simp only [List.forall_mem_cons]
 refine ⟨?_, ?_, ?_, ?_, ?_, ?_, ?_, ?_, ?_, ?_, ?_, List.forall_mem_nil _⟩
 all_goals
  refine st_plainW EWA.isL (EWB.ini ok) ok.sz rfl rfl rfl (by kernel_rfl) ?_
  intro γ w n o hW hop
  have hc_c3 := rq_at (EWB.kp hW) ok.c3
  have hc_c5 := rq_at (EWB.kp hW) ok.c5
  unfold execOp
  rw [hop]
  simp [envR, valG, EWB.av, EWB.val0, hc_c3, ok.h0, hc_c5, ok.w1, ok.hv, go_sem]
theorem EWB.steps (X : EWB) (ok : EWBOk X) {Q : PQ} (i : Nat) (hi : i < (opsOf 0 Tryz.f68).size) : EWB.St X Q i := by
 rw [EWA.size] at hi
 rcases (by decide : ∀ i, i < 19 → i ∈ [0, 1, 2, 3, 4, 5, 6, 18] ∨ i ∈ [7, 8, 9, 10, 11, 12, 13, 14, 15, 16, 17]) i hi with h | h
 · exact EWB.plain X ok i h
 · exact EWB.want X ok i h
theorem EWB.run (X : EWB) (ok : EWBOk X) {Q : PQ} (w : World) (h0 : X.Wd 0 (fun _ => undef) w.drew) (hend : ∀ (γ : Nat → Value) w', X.Wd 0 γ w' → Q .normal (((((((((((((((((((X.a0.put (some 2) (.pointer (some ⟨X.bx, 0, none⟩))).put (some 3) (.pointer (some ⟨X.bx, 0, none⟩))).put (some 4) (.pointer (some ⟨X.bx, 3, none⟩))).put (some 5) (.slice X.ua X.n X.uc)).put (some 6) (.int .i64 (X.n : Int))).put (some 7) (.bool true)).put (some 8) (.bool true)).put (some 9) (.pointer (some ⟨X.bx, 0, none⟩))).put (some 10) (.pointer (some ⟨X.bx, 0, none⟩))).put (some 11) (.pointer (some ⟨X.bx, 5, none⟩))).put (some 12) (.int .i64 X.mn)).put (some 13) (.pointer (some ⟨X.bx, 0, none⟩))).put (some 14) (.pointer (some ⟨X.bx, 0, none⟩))).put (some 15) (.pointer (some ⟨X.bx, 3, none⟩))).put (some 16) (.slice X.ua X.n X.uc)).put (some 17) (.int .i64 (X.n : Int))).put (some 18) (.int .i64 (X.mn + (X.n : Int)))).put (some 19) (.bool X.v)).put (some 20) (.bool X.v)) w') : (Code.region 0 (opsOf 0 Tryz.f68) true).wp Tryz.prog Q X.a0 w := by
 refine reg_act (acts := EWB.acts) (av := EWB.av) (val0 := X.val0) (Wd := X.Wd) (by kernel_rfl) (by kernel_rfl) (by rw [EWA.size]; decide) (fun i hi => EWB.steps X ok i hi) _ h0 ?_
 intro γ w' h
 exact end_at (hend γ w' h) (by kernel_rfl)
structure EW1 where
 bx : Nat
 va : Option Addr
 vn : Nat
 vc : Nat
 it : Its
 ua : Option Addr
 n : Nat
 uc : Nat
 p : List Pnt
 W : World
 a0 : Act
structure EW1Ok (X : EW1) : Prop where
 c4 : X.W.cell? ⟨X.bx, 4, none⟩ = some (.slice X.va X.vn X.vc)
 c3 : X.W.cell? ⟨X.bx, 3, none⟩ = some (.slice X.ua X.n X.uc)
 ff : ∀ o, X.W.frozen? ⟨X.bx, o, none⟩ = false
 own : OwnQ 25 X.W (X.bx + 1) (.slice X.va X.vn X.vc) (vLn X.it)
 nev : (Value.slice X.va X.vn X.vc).ownBlock ≠ some X.bx
 len : X.it.length + 1 ≤ 1000000
 e0 : X.a0.eval (.tmp 0) = .pointer (some ⟨X.bx, 0, none⟩)
 sz : X.a0.tmps.size = 56
def EW1.val0 (X : EW1) : Nat → Value
 | 0 => .pointer (some ⟨X.bx, 0, none⟩)
 | 21 => .pointer (some ⟨X.bx, 0, none⟩)
 | 22 => .pointer (some ⟨X.bx, 0, none⟩)
 | 23 => .pointer (some ⟨X.bx, 0, none⟩)
 | 24 => .pointer (some ⟨X.bx, 4, none⟩)
 | 25 => .slice X.va X.vn X.vc
 | 26 => .pointer (some ⟨X.bx, 0, none⟩)
 | 27 => .pointer (some ⟨X.bx, 0, none⟩)
 | 28 => .pointer (some ⟨X.bx, 3, none⟩)
 | 29 => .slice X.ua X.n X.uc
 | 30 => .agg #[.slice X.ua X.n X.uc, .bool false]
 | 33 => .pointer (some ⟨X.bx, 0, none⟩)
 | 34 => .pointer (some ⟨X.bx, 4, none⟩)
 | _ => undef
def EW1.av : Nat → Option Nat
 | 31 => some 0
 | 32 => some 1
 | _ => none
def EW1.acts : List Nat := [10, 11, 14]
def EW1.Wd (X : EW1) : Nat → (Nat → Value) → World → Prop
  | 0, _, w => w = X.W
  | 1, γ, w => γ 0 = .slice (some ⟨X.W.heap.size, 0, none⟩) 1 1 ∧ w = X.W.alloc (.cells #[.slice X.ua X.n X.uc, .bool false] 25)
  | 2, γ, w => ∃ g c, γ 1 = .slice (some ⟨g, 0, none⟩) (X.it.length + 1) c ∧ OwnQ 25 w (X.bx + 1) (γ 1) (vLn (X.it ++ [(.slice X.ua X.n X.uc, ⟨X.p, false⟩)])) ∧ Ext (.slice X.va X.vn X.vc) (γ 1) X.W w
  | _, γ, w => ∃ w2 g c, γ 1 = .slice (some ⟨g, 0, none⟩) (X.it.length + 1) c ∧ OwnQ 25 w2 (X.bx + 1) (γ 1) (vLn (X.it ++ [(.slice X.ua X.n X.uc, ⟨X.p, false⟩)])) ∧ Ext (.slice X.va X.vn X.vc) (γ 1) X.W w2 ∧ w = w2.setCell ⟨X.bx, 4, none⟩ (γ 1)
theorem EW1.chain : chainG (opsOf 1 Tryz.f68) EW1.acts = true := by kernel_rfl
theorem EW1.nodup : EW1.acts.Nodup := by decide
def EW1.L : List (Option Nat × Op × Option (Nat × Bool)) := [
 (some 21, .move (.tmp 0), none),
 (some 22, .move (.tmp 0), none),
 (some 23, .nilCheck (.tmp 22), none),
 (some 24, .fieldAddr 100 (.tmp 23) 4, none),
 (some 25, .load 29 (.tmp 24), none),
 (some 26, .move (.tmp 0), none),
 (some 27, .nilCheck (.tmp 26), none),
 (some 28, .fieldAddr 100 (.tmp 27) 3, none),
 (some 29, .load 23 (.tmp 28), none),
 (some 30, .build 25 #[(0, (.tmp 29))], none),
 (some 31, .buildSlice 29 1 #[(0, (.tmp 30))], none),
 (some 32, .call { callee := .builtin .append, args := #[(.tmp 25), (.tmp 31)], argTypes := #[29, 29] }, none),
 (some 33, .nilCheck (.tmp 21), none),
 (some 34, .fieldAddr 100 (.tmp 33) 4, none),
 (none, .store 29 (.tmp 34) (.tmp 32), none)]
theorem EW1.isL : (opsOf 1 Tryz.f68).toList.map tri = EW1.L := by kernel_rfl
theorem EW1.ini {X : EW1} (ok : EW1Ok X) : ∀ n ∈ [0], X.a0.eval (.tmp n) = X.val0 n := by
 simp only [List.forall_mem_cons]
 exact ⟨ok.e0, List.forall_mem_nil _⟩
abbrev EW1.St (X : EW1) (Q : PQ) (i : Nat) : Prop := StepG (opsOf 1 Tryz.f68) EW1.acts EW1.av X.val0 X.Wd X.a0 Q i
theorem EW1.plain (X : EW1) (ok : EW1Ok X) {Q : PQ} : ∀ i ∈ [0, 1, 2, 3, 5, 6, 7, 9, 12, 13], EW1.St X Q i := by
 simp only [List.forall_mem_cons]
 refine ⟨?_, ?_, ?_, ?_, ?_, ?_, ?_, ?_, ?_, ?_, List.forall_mem_nil _⟩
 all_goals
  refine st_plain EW1.isL (EW1.ini ok) ok.sz rfl (by kernel_rfl) ?_
  intro γ w n o hW hop
  unfold execOp
  rw [hop]
  simp [envR, valG, EW1.av, EW1.val0, go_sem]
theorem EW1.soon (X : EW1) (ok : EW1Ok X) {Q : PQ} : ∀ i ∈ [8], EW1.St X Q i := by
 simp only [List.forall_mem_cons]
 refine ⟨?_, List.forall_mem_nil _⟩
 all_goals
  refine st_plainM (m := 0) EW1.isL (EW1.ini ok) ok.sz rfl (by kernel_rfl) ?_
  intro γ w n o hn hW hop
  obtain rfl : n = 0 := by omega
  have hk : w = X.W := hW
  subst hk
  unfold execOp
  rw [hop]
  simp [envR, valG, EW1.av, EW1.val0, ok.c3, go_sem]
theorem EW1.s4 (X : EW1) (ok : EW1Ok X) {Q : PQ} : EW1.St X Q 4 := by
 intro γ listed a w o hF hC hW h1 ho h2
 obtain ⟨hd, hop, hg⟩ := fieldsL EW1.isL (i := 4) rfl ho
 have e24 : a.eval (.tmp 24) = .pointer (some ⟨X.bx, 4, none⟩) := known hF ho h2 (EW1.ini ok) ok.sz (by kernel_rfl)
 have hph := phase_leG (acts := EW1.acts) (m := 1) (x := 11) hC (unl (hF.lt ho) h1) rfl [4] (by kernel_rfl) (by decide)
 have hWW := hW
 generalize phase listed EW1.acts = n at hph hWW
 have hk : Nw X.W w := by
  rcases (show n = 0 ∨ n = 1 by omega) with rfl | rfl
  ·have : w = X.W := hWW
   rw [this]; exact Below.refl _ _
  ·obtain ⟨_, h9⟩ := hWW
   rw [h9]; exact (Below.refl _ _).alloc (Nat.le_refl _) _
 have hc := ((bcell hk).1 _ _ (World.block_lt_of_cell? X.W ⟨X.bx, 4, none⟩ ok.c4)).trans ok.c4
 refine st_pureG hF hC hW ho h2 (by decide) hd hg rfl ?_
 show _ = Result.ok (Next.value (.slice X.va X.vn X.vc)) w
 generalize a.eval = ρ at e24 ⊢
 unfold execOp
 rw [hop]
 simp [e24, hc, go_sem]
theorem EW1.s10 (X : EW1) (ok : EW1Ok X) {Q : PQ} : EW1.St X Q 10 := by
 intro γ listed a w o hF hC hW h1 ho h2
 obtain ⟨hd, hop, hg⟩ := fieldsL EW1.isL (i := 10) rfl ho
 have e30 : a.eval (.tmp 30) = .agg #[.slice X.ua X.n X.uc, .bool false] := known hF ho h2 (EW1.ini ok) ok.sz (by kernel_rfl)
 have hu := unl (hF.lt ho) h1
 refine st_actG (k := 0) EW1.chain EW1.nodup rfl hF hC hW h1 ho h2 (Or.inr ⟨31, hd, rfl⟩) (injG (by kernel_rfl) hu) hg ?_
 intro hW0 K hK
 have hw0 : w = X.W := hW0
 have hr : (execOp a.eval o).run Tryz.prog w = .ok (.value (.slice (some ⟨w.heap.size, 0, none⟩) 1 1)) (w.alloc (.cells #[.slice X.ua X.n X.uc, .bool false] 25)) := by
  generalize a.eval = ρ at e30 ⊢
  unfold execOp
  rw [hop]
  simp [e30, go_sem]
 unfold Oper.wp
 rw [hr, hw0]
 exact hK _ _ ⟨rfl, rfl⟩
theorem EW1.s11 (X : EW1) (ok : EW1Ok X) {Q : PQ} : EW1.St X Q 11 := by
 intro γ listed a w o hF hC hW h1 ho h2
 obtain ⟨hd, hop, hg⟩ := fieldsL EW1.isL (i := 11) rfl ho
 have e25 : a.eval (.tmp 25) = .slice X.va X.vn X.vc := known hF ho h2 (EW1.ini ok) ok.sz (by kernel_rfl)
 have e31 : a.eval (.tmp 31) = γ 0 := known hF ho h2 (EW1.ini ok) ok.sz (by kernel_rfl)
 have hu := unl (hF.lt ho) h1
 refine st_actG (k := 1) EW1.chain EW1.nodup rfl hF hC hW h1 ho h2 (Or.inr ⟨32, hd, rfl⟩) (injG (by kernel_rfl) hu) hg ?_
 intro hW0 K hK
 obtain ⟨g0, hw1⟩ := hW0
 rw [g0] at e31
 subst hw1
 have n1 : Nw X.W (X.W.alloc (.cells #[.slice X.ua X.n X.uc, .bool false] 25)) := (Below.refl _ _).alloc (Nat.le_refl _) _
 refine wp_q 25 29 29 (.slice none 0 0) (.bool false) 32 under_lns under_lns info_line (by decide) rfl _ (.tmp 25) (.tmp 31) hop (X.bx + 1) (.slice X.va X.vn X.vc) (vLn X.it) (vLn [(.slice X.ua X.n X.uc, (⟨X.p, false⟩ : LD))]) e25 (OwnQ.nw ok.own n1) X.W.heap.size 0 1 1 rfl e31 ?_ ?_ (by simp [vLn]) (by rw [vLn_len, vLn_len]; have := ok.len; simp; omega) (by have := World.block_lt_of_cell? X.W ⟨X.bx, 4, none⟩ ok.c4; simp at this ⊢; omega) ?_
 ·intro i hi
  have : i = 0 := by simp [vLn] at hi; omega
  subst this
  exact ⟨World.cell?_alloc_at _ _ _ _ rfl, World.cell?_alloc_at _ _ _ _ rfl⟩
 ·intro x hx
  simp only [vLn, List.map_cons, List.map_nil, flat2, List.mem_cons, List.not_mem_nil, or_false] at hx
  rcases hx with rfl | rfl <;> rfl
 intro g' c' w' h3 h4
 rw [vLn_len] at h3 h4 ⊢
 rw [← vLn_append] at h3
 exact hK _ _ ⟨g', c', rfl, h3, n1.ext h4⟩
theorem EW1.s14 (X : EW1) (ok : EW1Ok X) {Q : PQ} : EW1.St X Q 14 := by
 intro γ listed a w o hF hC hW h1 ho h2
 obtain ⟨hd, hop, hg⟩ := fieldsL EW1.isL (i := 14) rfl ho
 have e34 : a.eval (.tmp 34) = .pointer (some ⟨X.bx, 4, none⟩) := known hF ho h2 (EW1.ini ok) ok.sz (by kernel_rfl)
 have e32 : a.eval (.tmp 32) = γ 1 := known hF ho h2 (EW1.ini ok) ok.sz (by kernel_rfl)
 have hu := unl (hF.lt ho) h1
 refine st_actG (k := 2) EW1.chain EW1.nodup rfl hF hC hW h1 ho h2 (Or.inl hd) (injG (by kernel_rfl) hu) hg ?_
 intro hW0 K hK
 obtain ⟨g, cc, g1, o1, x1⟩ := hW0
 have hb := World.block_lt_of_cell? X.W ⟨X.bx, 4, none⟩ ok.c4
 have t0 : w.cell? ⟨X.bx, 4, none⟩ = some (.slice X.va X.vn X.vc) := (Ext.cell x1 hb ok.nev 4).trans ok.c4
 have tf : w.frozen? ⟨X.bx, 4, none⟩ = false := (World.frozen?_of_block (w := X.W) (a := ⟨X.bx, 4, none⟩) (x1.1.block X.bx hb (fun e => ok.nev e.symm))).trans (ok.ff 4)
 have hr : (execOp a.eval o).run Tryz.prog w = .ok .skip (w.setCell ⟨X.bx, 4, none⟩ (γ 1)) := by
  rw [g1] at e32 ⊢
  generalize a.eval = ρ at e32 e34 ⊢
  unfold execOp
  rw [hop]
  simp [e32, e34, t0, tf, go_sem]
 unfold Oper.wp
 rw [hr]
 exact hK undef _ ⟨w, g, cc, g1, o1, x1, rfl⟩
theorem EW1.size : (opsOf 1 Tryz.f68).size = 15 := by kernel_rfl
theorem EW1.rest (X : EW1) (ok : EW1Ok X) {Q : PQ} : ∀ i ∈ [4, 10, 11, 14], EW1.St X Q i := by
 simp only [List.forall_mem_cons]
 exact ⟨EW1.s4 X ok,
  EW1.s10 X ok,
  EW1.s11 X ok,
  EW1.s14 X ok, List.forall_mem_nil _⟩
theorem EW1.steps (X : EW1) (ok : EW1Ok X) {Q : PQ} (i : Nat) (hi : i < (opsOf 1 Tryz.f68).size) : EW1.St X Q i := by
 rw [EW1.size] at hi
 rcases (by decide : ∀ i, i < 15 → i ∈ [0, 1, 2, 3, 5, 6, 7, 9, 12, 13] ∨ i ∈ [8] ∨ i ∈ [4, 10, 11, 14]) i hi with h | h | h
 · exact EW1.plain X ok i h
 · exact EW1.soon X ok i h
 · exact EW1.rest X ok i h
theorem EW1.run (X : EW1) (ok : EW1Ok X) {Q : PQ} (w : World) (h0 : X.Wd 0 (fun _ => undef) w.drew) (hend : ∀ (γ : Nat → Value) w', X.Wd 3 γ w' → Q .normal ((((((((((((((X.a0.put (some 21) (.pointer (some ⟨X.bx, 0, none⟩))).put (some 22) (.pointer (some ⟨X.bx, 0, none⟩))).put (some 23) (.pointer (some ⟨X.bx, 0, none⟩))).put (some 24) (.pointer (some ⟨X.bx, 4, none⟩))).put (some 25) (.slice X.va X.vn X.vc)).put (some 26) (.pointer (some ⟨X.bx, 0, none⟩))).put (some 27) (.pointer (some ⟨X.bx, 0, none⟩))).put (some 28) (.pointer (some ⟨X.bx, 3, none⟩))).put (some 29) (.slice X.ua X.n X.uc)).put (some 30) (.agg #[.slice X.ua X.n X.uc, .bool false])).put (some 31) (γ 0)).put (some 32) (γ 1)).put (some 33) (.pointer (some ⟨X.bx, 0, none⟩))).put (some 34) (.pointer (some ⟨X.bx, 4, none⟩))) w') : (Code.region 1 (opsOf 1 Tryz.f68) true).wp Tryz.prog Q X.a0 w := by
 refine reg_act (acts := EW1.acts) (av := EW1.av) (val0 := X.val0) (Wd := X.Wd) (by kernel_rfl) (by kernel_rfl) (by rw [EW1.size]; decide) (fun i hi => EW1.steps X ok i hi) _ h0 ?_
 intro γ w' h
 exact end_at (hend γ w' h) (by kernel_rfl)
structure EW3 where
 bx : Nat
 ua : Option Addr
 n : Nat
 uc : Nat
 mn : Int
 W : World
 a0 : Act
structure EW3Ok (X : EW3) : Prop where
 c3 : X.W.cell? ⟨X.bx, 3, none⟩ = some (.slice X.ua X.n X.uc)
 c5 : X.W.cell? ⟨X.bx, 5, none⟩ = some (.int .i64 X.mn)
 cz : ∃ z, X.W.cell? ⟨X.bx, 5, none⟩ = some (.int .i64 z)
 ff : ∀ o, X.W.frozen? ⟨X.bx, o, none⟩ = false
 w1 : IntKind.i64.wrap (X.mn + (X.n : Int)) = X.mn + (X.n : Int)
 e0 : X.a0.eval (.tmp 0) = .pointer (some ⟨X.bx, 0, none⟩)
 sz : X.a0.tmps.size = 56
def EW3.val0 (X : EW3) : Nat → Value
 | 0 => .pointer (some ⟨X.bx, 0, none⟩)
 | 41 => .pointer (some ⟨X.bx, 0, none⟩)
 | 42 => .pointer (some ⟨X.bx, 0, none⟩)
 | 43 => .pointer (some ⟨X.bx, 5, none⟩)
 | 44 => .int .i64 X.mn
 | 45 => .pointer (some ⟨X.bx, 0, none⟩)
 | 46 => .pointer (some ⟨X.bx, 0, none⟩)
 | 47 => .pointer (some ⟨X.bx, 3, none⟩)
 | 48 => .slice X.ua X.n X.uc
 | 49 => .int .i64 (X.n : Int)
 | 50 => .int .i64 (X.mn + (X.n : Int))
 | 51 => .pointer (some ⟨X.bx, 0, none⟩)
 | 52 => .pointer (some ⟨X.bx, 5, none⟩)
 | _ => undef
def EW3.av : Nat → Option Nat
 | _ => none
def EW3.acts : List Nat := [12]
def EW3.Wd (X : EW3) : Nat → (Nat → Value) → World → Prop
  | 0, _, w => w = X.W
  | _, _, w => w = X.W.setCell ⟨X.bx, 5, none⟩ (.int .i64 (X.mn + (X.n : Int)))
theorem EW3.chain : chainG (opsOf 3 Tryz.f68) EW3.acts = true := by kernel_rfl
theorem EW3.nodup : EW3.acts.Nodup := by decide
def EW3.L : List (Option Nat × Op × Option (Nat × Bool)) := [
 (some 41, .move (.tmp 0), none),
 (some 42, .nilCheck (.tmp 41), none),
 (some 43, .fieldAddr 100 (.tmp 42) 5, none),
 (some 44, .load 3 (.tmp 43), none),
 (some 45, .move (.tmp 0), none),
 (some 46, .nilCheck (.tmp 45), none),
 (some 47, .fieldAddr 100 (.tmp 46) 3, none),
 (some 48, .load 23 (.tmp 47), none),
 (some 49, .call { callee := .builtin .len, args := #[(.tmp 48)], argTypes := #[23] }, none),
 (some 50, .binOp .add 3 (.tmp 44) (.tmp 49) 3, none),
 (some 51, .nilCheck (.tmp 41), none),
 (some 52, .fieldAddr 100 (.tmp 51) 5, none),
 (none, .store 3 (.tmp 52) (.tmp 50), none)]
theorem EW3.isL : (opsOf 3 Tryz.f68).toList.map tri = EW3.L := by kernel_rfl
theorem EW3.ini {X : EW3} (ok : EW3Ok X) : ∀ n ∈ [0], X.a0.eval (.tmp n) = X.val0 n := by
 simp only [List.forall_mem_cons]
 exact ⟨ok.e0, List.forall_mem_nil _⟩
abbrev EW3.St (X : EW3) (Q : PQ) (i : Nat) : Prop := StepG (opsOf 3 Tryz.f68) EW3.acts EW3.av X.val0 X.Wd X.a0 Q i
theorem EW3.plain (X : EW3) (ok : EW3Ok X) {Q : PQ} : ∀ i ∈ [0, 1, 2, 4, 5, 6, 8, 9, 10, 11], EW3.St X Q i := by
 simp only [List.forall_mem_cons]
 refine ⟨?_, ?_, ?_, ?_, ?_, ?_, ?_, ?_, ?_, ?_, List.forall_mem_nil _⟩
 all_goals
  refine st_plain EW3.isL (EW3.ini ok) ok.sz rfl (by kernel_rfl) ?_
  intro γ w n o hW hop
  unfold execOp
  rw [hop]
  simp [envR, valG, EW3.av, EW3.val0, ok.w1, go_sem]
theorem EW3.soon (X : EW3) (ok : EW3Ok X) {Q : PQ} : ∀ i ∈ [3, 7], EW3.St X Q i := by
 simp only [List.forall_mem_cons]
 refine ⟨?_, ?_, List.forall_mem_nil _⟩
 all_goals
  refine st_plainM (m := 0) EW3.isL (EW3.ini ok) ok.sz rfl (by kernel_rfl) ?_
  intro γ w n o hn hW hop
  obtain rfl : n = 0 := by omega
  have hk : w = X.W := hW
  subst hk
  unfold execOp
  rw [hop]
  simp [envR, valG, EW3.av, EW3.val0, ok.c5, ok.c3, go_sem]
theorem EW3.s12 (X : EW3) (ok : EW3Ok X) {Q : PQ} : EW3.St X Q 12 := by
 intro γ listed a w o hF hC hW h1 ho h2
 obtain ⟨hd, hop, hg⟩ := fieldsL EW3.isL (i := 12) rfl ho
 have e52 : a.eval (.tmp 52) = .pointer (some ⟨X.bx, 5, none⟩) := known hF ho h2 (EW3.ini ok) ok.sz (by kernel_rfl)
 have e50 : a.eval (.tmp 50) = .int .i64 (X.mn + (X.n : Int)) := known hF ho h2 (EW3.ini ok) ok.sz (by kernel_rfl)
 have hu := unl (hF.lt ho) h1
 refine st_actG (k := 0) EW3.chain EW3.nodup rfl hF hC hW h1 ho h2 (Or.inl hd) (injG (by kernel_rfl) hu) hg ?_
 intro hW0 K hK
 have hw0 : w = X.W := hW0
 obtain ⟨z0, f0⟩ := ok.cz
 have ff := ok.ff
 have hr : (execOp a.eval o).run Tryz.prog X.W = .ok .skip (X.W.setCell ⟨X.bx, 5, none⟩ (.int .i64 (X.mn + (X.n : Int)))) := by
  generalize a.eval = ρ at e52 e50 ⊢
  unfold execOp
  rw [hop]
  simp [e52, e50, f0, ff, go_sem]
 unfold Oper.wp
 rw [hw0, hr]
 exact hK undef _ rfl
theorem EW3.size : (opsOf 3 Tryz.f68).size = 13 := by kernel_rfl
theorem EW3.rest (X : EW3) (ok : EW3Ok X) {Q : PQ} : ∀ i ∈ [12], EW3.St X Q i := by
 simp only [List.forall_mem_cons]
 exact ⟨EW3.s12 X ok, List.forall_mem_nil _⟩
theorem EW3.steps (X : EW3) (ok : EW3Ok X) {Q : PQ} (i : Nat) (hi : i < (opsOf 3 Tryz.f68).size) : EW3.St X Q i := by
 rw [EW3.size] at hi
 rcases (by decide : ∀ i, i < 13 → i ∈ [0, 1, 2, 4, 5, 6, 8, 9, 10, 11] ∨ i ∈ [3, 7] ∨ i ∈ [12]) i hi with h | h | h
 · exact EW3.plain X ok i h
 · exact EW3.soon X ok i h
 · exact EW3.rest X ok i h
theorem EW3.run (X : EW3) (ok : EW3Ok X) {Q : PQ} (w : World) (h0 : X.Wd 0 (fun _ => undef) w.drew) (hend : ∀ (γ : Nat → Value) w', X.Wd 1 γ w' → Q .normal ((((((((((((X.a0.put (some 41) (.pointer (some ⟨X.bx, 0, none⟩))).put (some 42) (.pointer (some ⟨X.bx, 0, none⟩))).put (some 43) (.pointer (some ⟨X.bx, 5, none⟩))).put (some 44) (.int .i64 X.mn)).put (some 45) (.pointer (some ⟨X.bx, 0, none⟩))).put (some 46) (.pointer (some ⟨X.bx, 0, none⟩))).put (some 47) (.pointer (some ⟨X.bx, 3, none⟩))).put (some 48) (.slice X.ua X.n X.uc)).put (some 49) (.int .i64 (X.n : Int))).put (some 50) (.int .i64 (X.mn + (X.n : Int)))).put (some 51) (.pointer (some ⟨X.bx, 0, none⟩))).put (some 52) (.pointer (some ⟨X.bx, 5, none⟩))) w') : (Code.region 3 (opsOf 3 Tryz.f68) true).wp Tryz.prog Q X.a0 w := by
 refine reg_act (acts := EW3.acts) (av := EW3.av) (val0 := X.val0) (Wd := X.Wd) (by kernel_rfl) (by kernel_rfl) (by rw [EW3.size]; decide) (fun i hi => EW3.steps X ok i hi) _ h0 ?_
 intro γ w' h
 exact end_at (hend γ w' h) (by kernel_rfl)
structure AWA where
 bx : Nat
 bq : Nat
 x : Int
 y : Int
 k : Int
 r : Int
 W : World
 a0 : Act
structure AWAOk (X : AWA) : Prop where
 c1 : X.W.cell? ⟨X.bx, 1, none⟩ = some (.int .i64 X.k)
 rm : X.k.tmod 2 = X.r
 hr : (X.r == 0) = false
 e0 : X.a0.eval (.tmp 0) = .pointer (some ⟨X.bx, 0, none⟩)
 e3 : X.a0.eval (.tmp 3) = .pointer (some ⟨X.bq, 0, none⟩)
 sz : X.a0.tmps.size = 44
def AWA.val0 (X : AWA) : Nat → Value
 | 0 => .pointer (some ⟨X.bx, 0, none⟩)
 | 3 => .pointer (some ⟨X.bq, 0, none⟩)
 | 4 => .pointer (some ⟨X.bx, 0, none⟩)
 | 5 => .pointer (some ⟨X.bx, 0, none⟩)
 | 6 => .pointer (some ⟨X.bx, 1, none⟩)
 | 7 => .int .i64 X.k
 | 8 => .int .i64 X.r
 | 9 => .bool false
 | 10 => .bool false
 | 33 => .bool false
 | _ => undef
def AWA.av : Nat → Option Nat
 | _ => none
def AWA.acts : List Nat := []
def AWA.Wd (X : AWA) : Nat → (Nat → Value) → World → Prop
  | _, _, w => Kp X.W w
theorem AWA.kp {X : AWA} {n : Nat} {γ : Nat → Value} {w : World} (h : X.Wd n γ w) : Kp X.W w := h
def AWA.L : List (Option Nat × Op × Option (Nat × Bool)) := [
 (some 4, .move (.tmp 0), none),
 (some 5, .nilCheck (.tmp 4), none),
 (some 6, .fieldAddr 100 (.tmp 5) 1, none),
 (some 7, .load 3 (.tmp 6), none),
 (some 8, .binOp .rem 3 (.tmp 7) (.const (.int .i64 2)) 3, none),
 (some 9, .binOp .eql 3 (.tmp 8) (.const (.int .i64 0)) 3, none),
 (some 10, .move (.tmp 9), none),
 (some 11, .move (.tmp 0), some (6, true)),
 (some 12, .nilCheck (.tmp 11), some (6, true)),
 (some 13, .fieldAddr 100 (.tmp 12) 3, some (6, true)),
 (some 14, .load 23 (.tmp 13), some (6, true)),
 (some 15, .call { callee := .builtin .len, args := #[(.tmp 14)], argTypes := #[23] }, some (6, true)),
 (some 16, .binOp .eql 3 (.tmp 15) (.const (.int .i64 0)) 3, some (6, true)),
 (some 17, .move (.tmp 16), some (6, true)),
 (some 18, .move (.tmp 0), some (13, false)),
 (some 19, .nilCheck (.tmp 18), some (13, false)),
 (some 20, .fieldAddr 100 (.tmp 19) 3, some (13, false)),
 (some 21, .load 23 (.tmp 20), some (13, false)),
 (some 22, .move (.tmp 0), some (13, false)),
 (some 23, .nilCheck (.tmp 22), some (13, false)),
 (some 24, .fieldAddr 100 (.tmp 23) 3, some (13, false)),
 (some 25, .load 23 (.tmp 24), some (13, false)),
 (some 26, .call { callee := .builtin .len, args := #[(.tmp 25)], argTypes := #[23] }, some (13, false)),
 (some 27, .binOp .sub 3 (.tmp 26) (.const (.int .i64 1)) 3, some (13, false)),
 (some 28, .indexAddr 23 (.tmp 21) (.tmp 27), some (13, false)),
 (some 29, .load 34 (.tmp 28), some (13, false)),
 (some 30, .load 34 (.tmp 3), some (13, false)),
 (some 31, .binOp .neq 34 (.tmp 29) (.tmp 30) 34, some (13, false)),
 (some 32, .pick (.tmp 17) (.const (.bool true)) (.tmp 31), some (6, true)),
 (some 33, .pick (.tmp 10) (.tmp 32) (.const (.bool false)), none)]
theorem AWA.isL : (opsOf 1 Tryz.f87).toList.map tri = AWA.L := by kernel_rfl
theorem AWA.ini {X : AWA} (ok : AWAOk X) : ∀ n ∈ [0, 3], X.a0.eval (.tmp n) = X.val0 n := by
 simp only [List.forall_mem_cons]
 exact ⟨ok.e0, ok.e3, List.forall_mem_nil _⟩
abbrev AWA.St (X : AWA) (Q : PQ) (i : Nat) : Prop := StepG (opsOf 1 Tryz.f87) AWA.acts AWA.av X.val0 X.Wd X.a0 Q i
theorem AWA.plain (X : AWA) (ok : AWAOk X) {Q : PQ} : ∀ i ∈ [0, 1, 2, 3, 4, 5, 6, 29], AWA.St X Q i := by
 simp only [List.forall_mem_cons]
 refine ⟨?_, ?_, ?_, ?_, ?_, ?_, ?_, ?_, List.forall_mem_nil _⟩
 all_goals
  refine st_plain AWA.isL (AWA.ini ok) ok.sz rfl (by kernel_rfl) ?_
  intro γ w n o hW hop
  have hc_c1 := rq_at (AWA.kp hW) ok.c1
  unfold execOp
  rw [hop]
  simp [envR, valG, AWA.av, AWA.val0, hc_c1, ok.rm, ok.hr, go_sem]
theorem AWA.skip (X : AWA) (ok : AWAOk X) {Q : PQ} : ∀ i ∈ [7, 8, 9, 10, 11, 12, 13, 28], AWA.St X Q i := by
 simp only [List.forall_mem_cons]
 refine ⟨?_, ?_, ?_, ?_, ?_, ?_, ?_, ?_, List.forall_mem_nil _⟩
 all_goals
  exact st_plainS AWA.isL (AWA.ini ok) ok.sz rfl rfl (Or.inl rfl) (by kernel_rfl) rfl
theorem AWA.undo (X : AWA) (ok : AWAOk X) {Q : PQ} : ∀ i ∈ [14, 15, 16, 17, 18, 19, 20, 21, 22, 23, 24, 25, 26, 27], AWA.St X Q i := by
 simp only [List.forall_mem_cons]
 refine ⟨?_, ?_, ?_, ?_, ?_, ?_, ?_, ?_, ?_, ?_, ?_, ?_, ?_, ?_, List.forall_mem_nil _⟩
 all_goals
  exact st_plainS AWA.isL (AWA.ini ok) ok.sz rfl rfl (Or.inr rfl) (by kernel_rfl) rfl
theorem AWA.size : (opsOf 1 Tryz.f87).size = 30 := by kernel_rfl
theorem AWA.steps (X : AWA) (ok : AWAOk X) {Q : PQ} (i : Nat) (hi : i < (opsOf 1 Tryz.f87).size) : AWA.St X Q i := by
 rw [AWA.size] at hi
 rcases (by decide : ∀ i, i < 30 → i ∈ [0, 1, 2, 3, 4, 5, 6, 29] ∨ i ∈ [7, 8, 9, 10, 11, 12, 13, 28] ∨ i ∈ [14, 15, 16, 17, 18, 19, 20, 21, 22, 23, 24, 25, 26, 27]) i hi with h | h | h
 · exact AWA.plain X ok i h
 · exact AWA.skip X ok i h
 · exact AWA.undo X ok i h
theorem AWA.run (X : AWA) (ok : AWAOk X) {Q : PQ} (w : World) (h0 : X.Wd 0 (fun _ => undef) w.drew) (hend : ∀ (γ : Nat → Value) w', X.Wd 0 γ w' → Q .normal ((((((((((((((((((((((((((((((X.a0.put (some 4) (.pointer (some ⟨X.bx, 0, none⟩))).put (some 5) (.pointer (some ⟨X.bx, 0, none⟩))).put (some 6) (.pointer (some ⟨X.bx, 1, none⟩))).put (some 7) (.int .i64 X.k)).put (some 8) (.int .i64 X.r)).put (some 9) (.bool false)).put (some 10) (.bool false)).put (some 11) (undef)).put (some 12) (undef)).put (some 13) (undef)).put (some 14) (undef)).put (some 15) (undef)).put (some 16) (undef)).put (some 17) (undef)).put (some 18) (undef)).put (some 19) (undef)).put (some 20) (undef)).put (some 21) (undef)).put (some 22) (undef)).put (some 23) (undef)).put (some 24) (undef)).put (some 25) (undef)).put (some 26) (undef)).put (some 27) (undef)).put (some 28) (undef)).put (some 29) (undef)).put (some 30) (undef)).put (some 31) (undef)).put (some 32) (undef)).put (some 33) (.bool false)) w') : (Code.region 1 (opsOf 1 Tryz.f87) true).wp Tryz.prog Q X.a0 w := by
 refine reg_act (acts := AWA.acts) (av := AWA.av) (val0 := X.val0) (Wd := X.Wd) (by kernel_rfl) (by kernel_rfl) (by rw [AWA.size]; decide) (fun i hi => AWA.steps X ok i hi) _ h0 ?_
 intro γ w' h
 exact end_at (hend γ w' h) (by kernel_rfl)
structure AWB where
 bx : Nat
 bq : Nat
 x : Int
 y : Int
 k : Int
 r : Int
 ua : Option Addr
 uc : Nat
 W : World
 a0 : Act
structure AWBOk (X : AWB) : Prop where
 c1 : X.W.cell? ⟨X.bx, 1, none⟩ = some (.int .i64 X.k)
 c3 : X.W.cell? ⟨X.bx, 3, none⟩ = some (.slice X.ua 0 X.uc)
 rm : X.k.tmod 2 = X.r
 hr : (X.r == 0) = true
 e0 : X.a0.eval (.tmp 0) = .pointer (some ⟨X.bx, 0, none⟩)
 e3 : X.a0.eval (.tmp 3) = .pointer (some ⟨X.bq, 0, none⟩)
 sz : X.a0.tmps.size = 44
def AWB.val0 (X : AWB) : Nat → Value
 | 0 => .pointer (some ⟨X.bx, 0, none⟩)
 | 3 => .pointer (some ⟨X.bq, 0, none⟩)
 | 4 => .pointer (some ⟨X.bx, 0, none⟩)
 | 5 => .pointer (some ⟨X.bx, 0, none⟩)
 | 6 => .pointer (some ⟨X.bx, 1, none⟩)
 | 7 => .int .i64 X.k
 | 8 => .int .i64 X.r
 | 9 => .bool true
 | 10 => .bool true
 | 11 => .pointer (some ⟨X.bx, 0, none⟩)
 | 12 => .pointer (some ⟨X.bx, 0, none⟩)
 | 13 => .pointer (some ⟨X.bx, 3, none⟩)
 | 14 => .slice X.ua 0 X.uc
 | 15 => .int .i64 0
 | 16 => .bool true
 | 17 => .bool true
 | 32 => .bool true
 | 33 => .bool true
 | _ => undef
def AWB.av : Nat → Option Nat
 | _ => none
def AWB.acts : List Nat := []
def AWB.Wd (X : AWB) : Nat → (Nat → Value) → World → Prop
  | _, _, w => Kp X.W w
theorem AWB.kp {X : AWB} {n : Nat} {γ : Nat → Value} {w : World} (h : X.Wd n γ w) : Kp X.W w := h
theorem AWB.ini {X : AWB} (ok : AWBOk X) : ∀ n ∈ [0, 3], X.a0.eval (.tmp n) = X.val0 n := by
 simp only [List.forall_mem_cons]
 exact ⟨ok.e0, ok.e3, List.forall_mem_nil _⟩
abbrev AWB.St (X : AWB) (Q : PQ) (i : Nat) : Prop := StepG (opsOf 1 Tryz.f87) AWB.acts AWB.av X.val0 X.Wd X.a0 Q i
theorem AWB.plain (X : AWB) (ok : AWBOk X) {Q : PQ} : ∀ i ∈ [0, 1, 2, 3, 4, 5, 6, 29], AWB.St X Q i := by
 simp only [List.forall_mem_cons]
 refine ⟨?_, ?_, ?_, ?_, ?_, ?_, ?_, ?_, List.forall_mem_nil _⟩
 all_goals
  refine st_plain AWA.isL (AWB.ini ok) ok.sz rfl (by kernel_rfl) ?_
  intro γ w n o hW hop
  have hc_c1 := rq_at (AWB.kp hW) ok.c1
  have hc_c3 := rq_at (AWB.kp hW) ok.c3
  unfold execOp
  rw [hop]
  simp [envR, valG, AWB.av, AWB.val0, hc_c1, ok.rm, ok.hr, hc_c3, go_sem]
theorem AWB.want (X : AWB) (ok : AWBOk X) {Q : PQ} : ∀ i ∈ [7, 8, 9, 10, 11, 12, 13, 28], AWB.St X Q i := by
 simp only [List.forall_mem_cons]
 refine ⟨?_, ?_, ?_, ?_, ?_, ?_, ?_, ?_, List.forall_mem_nil _⟩
 all_goals
  refine st_plainW AWA.isL (AWB.ini ok) ok.sz rfl rfl rfl (by kernel_rfl) ?_
  intro γ w n o hW hop
  have hc_c1 := rq_at (AWB.kp hW) ok.c1
  have hc_c3 := rq_at (AWB.kp hW) ok.c3
  unfold execOp
  rw [hop]
  simp [envR, valG, AWB.av, AWB.val0, hc_c1, ok.rm, ok.hr, hc_c3, go_sem]
theorem AWB.skip (X : AWB) (ok : AWBOk X) {Q : PQ} : ∀ i ∈ [14, 15, 16, 17, 18, 19, 20, 21, 22, 23, 24, 25, 26, 27], AWB.St X Q i := by
 simp only [List.forall_mem_cons]
 refine ⟨?_, ?_, ?_, ?_, ?_, ?_, ?_, ?_, ?_, ?_, ?_, ?_, ?_, ?_, List.forall_mem_nil _⟩
 all_goals
  exact st_plainS AWA.isL (AWB.ini ok) ok.sz rfl rfl (Or.inl rfl) (by kernel_rfl) rfl
theorem AWB.steps (X : AWB) (ok : AWBOk X) {Q : PQ} (i : Nat) (hi : i < (opsOf 1 Tryz.f87).size) : AWB.St X Q i := by
 rw [AWA.size] at hi
 rcases (by decide : ∀ i, i < 30 → i ∈ [0, 1, 2, 3, 4, 5, 6, 29] ∨ i ∈ [7, 8, 9, 10, 11, 12, 13, 28] ∨ i ∈ [14, 15, 16, 17, 18, 19, 20, 21, 22, 23, 24, 25, 26, 27]) i hi with h | h | h
 · exact AWB.plain X ok i h
 · exact AWB.want X ok i h
 · exact AWB.skip X ok i h
theorem AWB.run (X : AWB) (ok : AWBOk X) {Q : PQ} (w : World) (h0 : X.Wd 0 (fun _ => undef) w.drew) (hend : ∀ (γ : Nat → Value) w', X.Wd 0 γ w' → Q .normal ((((((((((((((((((((((((((((((X.a0.put (some 4) (.pointer (some ⟨X.bx, 0, none⟩))).put (some 5) (.pointer (some ⟨X.bx, 0, none⟩))).put (some 6) (.pointer (some ⟨X.bx, 1, none⟩))).put (some 7) (.int .i64 X.k)).put (some 8) (.int .i64 X.r)).put (some 9) (.bool true)).put (some 10) (.bool true)).put (some 11) (.pointer (some ⟨X.bx, 0, none⟩))).put (some 12) (.pointer (some ⟨X.bx, 0, none⟩))).put (some 13) (.pointer (some ⟨X.bx, 3, none⟩))).put (some 14) (.slice X.ua 0 X.uc)).put (some 15) (.int .i64 0)).put (some 16) (.bool true)).put (some 17) (.bool true)).put (some 18) (undef)).put (some 19) (undef)).put (some 20) (undef)).put (some 21) (undef)).put (some 22) (undef)).put (some 23) (undef)).put (some 24) (undef)).put (some 25) (undef)).put (some 26) (undef)).put (some 27) (undef)).put (some 28) (undef)).put (some 29) (undef)).put (some 30) (undef)).put (some 31) (undef)).put (some 32) (.bool true)).put (some 33) (.bool true)) w') : (Code.region 1 (opsOf 1 Tryz.f87) true).wp Tryz.prog Q X.a0 w := by
 refine reg_act (acts := AWB.acts) (av := AWB.av) (val0 := X.val0) (Wd := X.Wd) (by kernel_rfl) (by kernel_rfl) (by rw [AWA.size]; decide) (fun i hi => AWB.steps X ok i hi) _ h0 ?_
 intro γ w' h
 exact end_at (hend γ w' h) (by kernel_rfl)
structure AWC where
 bx : Nat
 bq : Nat
 x : Int
 y : Int
 k : Int
 r : Int
 g : Nat
 n : Nat
 m : Nat
 uc : Nat
 W : World
 a0 : Act
structure AWCOk (X : AWC) : Prop where
 c1 : X.W.cell? ⟨X.bx, 1, none⟩ = some (.int .i64 X.k)
 c3 : X.W.cell? ⟨X.bx, 3, none⟩ = some (.slice (some ⟨X.g, 0, none⟩) X.n X.uc)
 q0 : X.W.cell? ⟨X.bq, 0, none⟩ = some (.int .i64 X.x)
 q1 : X.W.cell? ⟨X.bq, 1, none⟩ = some (.int .i64 X.y)
 rm : X.k.tmod 2 = X.r
 hr : (X.r == 0) = true
 h0 : ((X.n : Int) == 0) = false
 wm : IntKind.i64.wrap ((X.n : Int) - 1) = (X.m : Int)
 hm : X.m < X.n
 px : X.W.cell? ⟨X.g, X.m * 2, none⟩ = some (.int .i64 X.x)
 py : X.W.cell? ⟨X.g, X.m * 2 + 1, none⟩ = some (.int .i64 X.y)
 e0 : X.a0.eval (.tmp 0) = .pointer (some ⟨X.bx, 0, none⟩)
 e3 : X.a0.eval (.tmp 3) = .pointer (some ⟨X.bq, 0, none⟩)
 sz : X.a0.tmps.size = 44
def AWC.val0 (X : AWC) : Nat → Value
 | 0 => .pointer (some ⟨X.bx, 0, none⟩)
 | 3 => .pointer (some ⟨X.bq, 0, none⟩)
 | 4 => .pointer (some ⟨X.bx, 0, none⟩)
 | 5 => .pointer (some ⟨X.bx, 0, none⟩)
 | 6 => .pointer (some ⟨X.bx, 1, none⟩)
 | 7 => .int .i64 X.k
 | 8 => .int .i64 X.r
 | 9 => .bool true
 | 10 => .bool true
 | 11 => .pointer (some ⟨X.bx, 0, none⟩)
 | 12 => .pointer (some ⟨X.bx, 0, none⟩)
 | 13 => .pointer (some ⟨X.bx, 3, none⟩)
 | 14 => .slice (some ⟨X.g, 0, none⟩) X.n X.uc
 | 15 => .int .i64 (X.n : Int)
 | 16 => .bool false
 | 17 => .bool false
 | 18 => .pointer (some ⟨X.bx, 0, none⟩)
 | 19 => .pointer (some ⟨X.bx, 0, none⟩)
 | 20 => .pointer (some ⟨X.bx, 3, none⟩)
 | 21 => .slice (some ⟨X.g, 0, none⟩) X.n X.uc
 | 22 => .pointer (some ⟨X.bx, 0, none⟩)
 | 23 => .pointer (some ⟨X.bx, 0, none⟩)
 | 24 => .pointer (some ⟨X.bx, 3, none⟩)
 | 25 => .slice (some ⟨X.g, 0, none⟩) X.n X.uc
 | 26 => .int .i64 (X.n : Int)
 | 27 => .int .i64 (X.m : Int)
 | 28 => .pointer (some ⟨X.g, X.m * 2, none⟩)
 | 29 => .agg #[.int .i64 X.x, .int .i64 X.y]
 | 30 => .agg #[.int .i64 X.x, .int .i64 X.y]
 | 31 => .bool false
 | 32 => .bool false
 | 33 => .bool false
 | _ => undef
def AWC.av : Nat → Option Nat
 | _ => none
def AWC.acts : List Nat := []
def AWC.Wd (X : AWC) : Nat → (Nat → Value) → World → Prop
  | _, _, w => Kp X.W w
theorem AWC.kp {X : AWC} {n : Nat} {γ : Nat → Value} {w : World} (h : X.Wd n γ w) : Kp X.W w := h
theorem AWC.ini {X : AWC} (ok : AWCOk X) : ∀ n ∈ [0, 3], X.a0.eval (.tmp n) = X.val0 n := by
 simp only [List.forall_mem_cons]
 exact ⟨ok.e0, ok.e3, List.forall_mem_nil _⟩
abbrev AWC.St (X : AWC) (Q : PQ) (i : Nat) : Prop := StepG (opsOf 1 Tryz.f87) AWC.acts AWC.av X.val0 X.Wd X.a0 Q i
theorem AWC.plain (X : AWC) (ok : AWCOk X) {Q : PQ} : ∀ i ∈ [0, 1, 2, 3, 4, 5, 6, 29], AWC.St X Q i := by
 simp only [List.forall_mem_cons]
 refine ⟨?_, ?_, ?_, ?_, ?_, ?_, ?_, ?_, List.forall_mem_nil _⟩
 all_goals
  refine st_plain AWA.isL (AWC.ini ok) ok.sz rfl (by kernel_rfl) ?_
  intro γ w n o hW hop
  have hc_c1 := rq_at (AWC.kp hW) ok.c1
  have hc_c3 := rq_at (AWC.kp hW) ok.c3
  have hc_px := rq_at (AWC.kp hW) ok.px
  have hc_py := rq_at (AWC.kp hW) ok.py
  have hc_q0 := rq_at (AWC.kp hW) ok.q0
  have hc_q1 := rq_at (AWC.kp hW) ok.q1
  unfold execOp
  rw [hop]
  simp [envR, valG, AWC.av, AWC.val0, hc_c1, ok.rm, ok.hr, hc_c3, ok.h0, ok.wm, ok.hm, hc_px, hc_py, hc_q0, hc_q1, go_sem]
theorem AWC.want (X : AWC) (ok : AWCOk X) {Q : PQ} : ∀ i ∈ [7, 8, 9, 10, 11, 12, 13, 14, 15, 16, 17, 18, 19, 20, 21, 22, 23, 24, 25, 26, 27, 28], AWC.St X Q i := by
 simp only [List.forall_mem_cons]
 refine ⟨?_, ?_, ?_, ?_, ?_, ?_, ?_, ?_, ?_, ?_, ?_, ?_, ?_, ?_, ?_, ?_, ?_, ?_, ?_, ?_, ?_, ?_, List.forall_mem_nil _⟩
 all_goals
  refine st_plainW AWA.isL (AWC.ini ok) ok.sz rfl rfl rfl (by kernel_rfl) ?_
  intro γ w n o hW hop
  have hc_c1 := rq_at (AWC.kp hW) ok.c1
  have hc_c3 := rq_at (AWC.kp hW) ok.c3
  have hc_px := rq_at (AWC.kp hW) ok.px
  have hc_py := rq_at (AWC.kp hW) ok.py
  have hc_q0 := rq_at (AWC.kp hW) ok.q0
  have hc_q1 := rq_at (AWC.kp hW) ok.q1
  unfold execOp
  rw [hop]
  simp [envR, valG, AWC.av, AWC.val0, hc_c1, ok.rm, ok.hr, hc_c3, ok.h0, ok.wm, ok.hm, hc_px, hc_py, hc_q0, hc_q1, go_sem]
theorem AWC.steps (X : AWC) (ok : AWCOk X) {Q : PQ} (i : Nat) (hi : i < (opsOf 1 Tryz.f87).size) : AWC.St X Q i := by
 rw [AWA.size] at hi
 rcases (by decide : ∀ i, i < 30 → i ∈ [0, 1, 2, 3, 4, 5, 6, 29] ∨ i ∈ [7, 8, 9, 10, 11, 12, 13, 14, 15, 16, 17, 18, 19, 20, 21, 22, 23, 24, 25, 26, 27, 28]) i hi with h | h
 · exact AWC.plain X ok i h
 · exact AWC.want X ok i h
theorem AWC.run (X : AWC) (ok : AWCOk X) {Q : PQ} (w : World) (h0 : X.Wd 0 (fun _ => undef) w.drew) (hend : ∀ (γ : Nat → Value) w', X.Wd 0 γ w' → Q .normal ((((((((((((((((((((((((((((((X.a0.put (some 4) (.pointer (some ⟨X.bx, 0, none⟩))).put (some 5) (.pointer (some ⟨X.bx, 0, none⟩))).put (some 6) (.pointer (some ⟨X.bx, 1, none⟩))).put (some 7) (.int .i64 X.k)).put (some 8) (.int .i64 X.r)).put (some 9) (.bool true)).put (some 10) (.bool true)).put (some 11) (.pointer (some ⟨X.bx, 0, none⟩))).put (some 12) (.pointer (some ⟨X.bx, 0, none⟩))).put (some 13) (.pointer (some ⟨X.bx, 3, none⟩))).put (some 14) (.slice (some ⟨X.g, 0, none⟩) X.n X.uc)).put (some 15) (.int .i64 (X.n : Int))).put (some 16) (.bool false)).put (some 17) (.bool false)).put (some 18) (.pointer (some ⟨X.bx, 0, none⟩))).put (some 19) (.pointer (some ⟨X.bx, 0, none⟩))).put (some 20) (.pointer (some ⟨X.bx, 3, none⟩))).put (some 21) (.slice (some ⟨X.g, 0, none⟩) X.n X.uc)).put (some 22) (.pointer (some ⟨X.bx, 0, none⟩))).put (some 23) (.pointer (some ⟨X.bx, 0, none⟩))).put (some 24) (.pointer (some ⟨X.bx, 3, none⟩))).put (some 25) (.slice (some ⟨X.g, 0, none⟩) X.n X.uc)).put (some 26) (.int .i64 (X.n : Int))).put (some 27) (.int .i64 (X.m : Int))).put (some 28) (.pointer (some ⟨X.g, X.m * 2, none⟩))).put (some 29) (.agg #[.int .i64 X.x, .int .i64 X.y])).put (some 30) (.agg #[.int .i64 X.x, .int .i64 X.y])).put (some 31) (.bool false)).put (some 32) (.bool false)).put (some 33) (.bool false)) w') : (Code.region 1 (opsOf 1 Tryz.f87) true).wp Tryz.prog Q X.a0 w := by
 refine reg_act (acts := AWC.acts) (av := AWC.av) (val0 := X.val0) (Wd := X.Wd) (by kernel_rfl) (by kernel_rfl) (by rw [AWA.size]; decide) (fun i hi => AWC.steps X ok i hi) _ h0 ?_
 intro γ w' h
 exact end_at (hend γ w' h) (by kernel_rfl)
structure AWD where
 bx : Nat
 bq : Nat
 x : Int
 y : Int
 k : Int
 r : Int
 g : Nat
 n : Nat
 m : Nat
 uc : Nat
 lx : Int
 ly : Int
 W : World
 a0 : Act
structure AWDOk (X : AWD) : Prop where
 c1 : X.W.cell? ⟨X.bx, 1, none⟩ = some (.int .i64 X.k)
 c3 : X.W.cell? ⟨X.bx, 3, none⟩ = some (.slice (some ⟨X.g, 0, none⟩) X.n X.uc)
 q0 : X.W.cell? ⟨X.bq, 0, none⟩ = some (.int .i64 X.x)
 q1 : X.W.cell? ⟨X.bq, 1, none⟩ = some (.int .i64 X.y)
 rm : X.k.tmod 2 = X.r
 hr : (X.r == 0) = true
 h0 : ((X.n : Int) == 0) = false
 wm : IntKind.i64.wrap ((X.n : Int) - 1) = (X.m : Int)
 hm : X.m < X.n
 px : X.W.cell? ⟨X.g, X.m * 2, none⟩ = some (.int .i64 X.lx)
 py : X.W.cell? ⟨X.g, X.m * 2 + 1, none⟩ = some (.int .i64 X.ly)
 hv : X.lx = X.x → ¬X.ly = X.y
 e0 : X.a0.eval (.tmp 0) = .pointer (some ⟨X.bx, 0, none⟩)
 e3 : X.a0.eval (.tmp 3) = .pointer (some ⟨X.bq, 0, none⟩)
 sz : X.a0.tmps.size = 44
def AWD.val0 (X : AWD) : Nat → Value
 | 0 => .pointer (some ⟨X.bx, 0, none⟩)
 | 3 => .pointer (some ⟨X.bq, 0, none⟩)
 | 4 => .pointer (some ⟨X.bx, 0, none⟩)
 | 5 => .pointer (some ⟨X.bx, 0, none⟩)
 | 6 => .pointer (some ⟨X.bx, 1, none⟩)
 | 7 => .int .i64 X.k
 | 8 => .int .i64 X.r
 | 9 => .bool true
 | 10 => .bool true
 | 11 => .pointer (some ⟨X.bx, 0, none⟩)
 | 12 => .pointer (some ⟨X.bx, 0, none⟩)
 | 13 => .pointer (some ⟨X.bx, 3, none⟩)
 | 14 => .slice (some ⟨X.g, 0, none⟩) X.n X.uc
 | 15 => .int .i64 (X.n : Int)
 | 16 => .bool false
 | 17 => .bool false
 | 18 => .pointer (some ⟨X.bx, 0, none⟩)
 | 19 => .pointer (some ⟨X.bx, 0, none⟩)
 | 20 => .pointer (some ⟨X.bx, 3, none⟩)
 | 21 => .slice (some ⟨X.g, 0, none⟩) X.n X.uc
 | 22 => .pointer (some ⟨X.bx, 0, none⟩)
 | 23 => .pointer (some ⟨X.bx, 0, none⟩)
 | 24 => .pointer (some ⟨X.bx, 3, none⟩)
 | 25 => .slice (some ⟨X.g, 0, none⟩) X.n X.uc
 | 26 => .int .i64 (X.n : Int)
 | 27 => .int .i64 (X.m : Int)
 | 28 => .pointer (some ⟨X.g, X.m * 2, none⟩)
 | 29 => .agg #[.int .i64 X.lx, .int .i64 X.ly]
 | 30 => .agg #[.int .i64 X.x, .int .i64 X.y]
 | 31 => .bool true
 | 32 => .bool true
 | 33 => .bool true
 | _ => undef
def AWD.av : Nat → Option Nat
 | _ => none
def AWD.acts : List Nat := []
def AWD.Wd (X : AWD) : Nat → (Nat → Value) → World → Prop
  | _, _, w => Kp X.W w
theorem AWD.kp {X : AWD} {n : Nat} {γ : Nat → Value} {w : World} (h : X.Wd n γ w) : Kp X.W w := h
theorem AWD.ini {X : AWD} (ok : AWDOk X) : ∀ n ∈ [0, 3], X.a0.eval (.tmp n) = X.val0 n := by
 simp only [List.forall_mem_cons]
 exact ⟨ok.e0, ok.e3, List.forall_mem_nil _⟩
abbrev AWD.St (X : AWD) (Q : PQ) (i : Nat) : Prop := StepG (opsOf 1 Tryz.f87) AWD.acts AWD.av X.val0 X.Wd X.a0 Q i
theorem AWD.plain (X : AWD) (ok : AWDOk X) {Q : PQ} : ∀ i ∈ [0, 1, 2, 3, 4, 5, 6, 29], AWD.St X Q i := by
 simp only [List.forall_mem_cons]
 refine ⟨?_, ?_, ?_, ?_, ?_, ?_, ?_, ?_, List.forall_mem_nil _⟩
 all_goals
  refine st_plain AWA.isL (AWD.ini ok) ok.sz rfl (by kernel_rfl) ?_
  intro γ w n o hW hop
  have hc_c1 := rq_at (AWD.kp hW) ok.c1
  have hc_c3 := rq_at (AWD.kp hW) ok.c3
  have hc_px := rq_at (AWD.kp hW) ok.px
  have hc_py := rq_at (AWD.kp hW) ok.py
  have hc_q0 := rq_at (AWD.kp hW) ok.q0
  have hc_q1 := rq_at (AWD.kp hW) ok.q1
  unfold execOp
  rw [hop]
  simp [envR, valG, AWD.av, AWD.val0, hc_c1, ok.rm, ok.hr, hc_c3, ok.h0, ok.wm, ok.hm, hc_px, hc_py, hc_q0, hc_q1, go_sem]
  try exact ok.hv
theorem AWD.want (X : AWD) (ok : AWDOk X) {Q : PQ} : ∀ i ∈ [7, 8, 9, 10, 11, 12, 13, 14, 15, 16, 17, 18, 19, 20, 21, 22, 23, 24, 25, 26, 27, 28], AWD.St X Q i := by
 simp only [List.forall_mem_cons]
 refine ⟨?_, ?_, ?_, ?_, ?_, ?_, ?_, ?_, ?_, ?_, ?_, ?_, ?_, ?_, ?_, ?_, ?_, ?_, ?_, ?_, ?_, ?_, List.forall_mem_nil _⟩
 all_goals
  refine st_plainW AWA.isL (AWD.ini ok) ok.sz rfl rfl rfl (by kernel_rfl) ?_
  intro γ w n o hW hop
  have hc_c1 := rq_at (AWD.kp hW) ok.c1
  have hc_c3 := rq_at (AWD.kp hW) ok.c3
  have hc_px := rq_at (AWD.kp hW) ok.px
  have hc_py := rq_at (AWD.kp hW) ok.py
  have hc_q0 := rq_at (AWD.kp hW) ok.q0
  have hc_q1 := rq_at (AWD.kp hW) ok.q1
  unfold execOp
  rw [hop]
  simp [envR, valG, AWD.av, AWD.val0, hc_c1, ok.rm, ok.hr, hc_c3, ok.h0, ok.wm, ok.hm, hc_px, hc_py, hc_q0, hc_q1, go_sem]
  try exact ok.hv
theorem AWD.steps (X : AWD) (ok : AWDOk X) {Q : PQ} (i : Nat) (hi : i < (opsOf 1 Tryz.f87).size) : AWD.St X Q i := by
 rw [AWA.size] at hi
 rcases (by decide : ∀ i, i < 30 → i ∈ [0, 1, 2, 3, 4, 5, 6, 29] ∨ i ∈ [7, 8, 9, 10, 11, 12, 13, 14, 15, 16, 17, 18, 19, 20, 21, 22, 23, 24, 25, 26, 27, 28]) i hi with h | h
 · exact AWD.plain X ok i h
 · exact AWD.want X ok i h
theorem AWD.run (X : AWD) (ok : AWDOk X) {Q : PQ} (w : World) (h0 : X.Wd 0 (fun _ => undef) w.drew) (hend : ∀ (γ : Nat → Value) w', X.Wd 0 γ w' → Q .normal ((((((((((((((((((((((((((((((X.a0.put (some 4) (.pointer (some ⟨X.bx, 0, none⟩))).put (some 5) (.pointer (some ⟨X.bx, 0, none⟩))).put (some 6) (.pointer (some ⟨X.bx, 1, none⟩))).put (some 7) (.int .i64 X.k)).put (some 8) (.int .i64 X.r)).put (some 9) (.bool true)).put (some 10) (.bool true)).put (some 11) (.pointer (some ⟨X.bx, 0, none⟩))).put (some 12) (.pointer (some ⟨X.bx, 0, none⟩))).put (some 13) (.pointer (some ⟨X.bx, 3, none⟩))).put (some 14) (.slice (some ⟨X.g, 0, none⟩) X.n X.uc)).put (some 15) (.int .i64 (X.n : Int))).put (some 16) (.bool false)).put (some 17) (.bool false)).put (some 18) (.pointer (some ⟨X.bx, 0, none⟩))).put (some 19) (.pointer (some ⟨X.bx, 0, none⟩))).put (some 20) (.pointer (some ⟨X.bx, 3, none⟩))).put (some 21) (.slice (some ⟨X.g, 0, none⟩) X.n X.uc)).put (some 22) (.pointer (some ⟨X.bx, 0, none⟩))).put (some 23) (.pointer (some ⟨X.bx, 0, none⟩))).put (some 24) (.pointer (some ⟨X.bx, 3, none⟩))).put (some 25) (.slice (some ⟨X.g, 0, none⟩) X.n X.uc)).put (some 26) (.int .i64 (X.n : Int))).put (some 27) (.int .i64 (X.m : Int))).put (some 28) (.pointer (some ⟨X.g, X.m * 2, none⟩))).put (some 29) (.agg #[.int .i64 X.lx, .int .i64 X.ly])).put (some 30) (.agg #[.int .i64 X.x, .int .i64 X.y])).put (some 31) (.bool true)).put (some 32) (.bool true)).put (some 33) (.bool true)) w') : (Code.region 1 (opsOf 1 Tryz.f87) true).wp Tryz.prog Q X.a0 w := by
 refine reg_act (acts := AWD.acts) (av := AWD.av) (val0 := X.val0) (Wd := X.Wd) (by kernel_rfl) (by kernel_rfl) (by rw [AWA.size]; decide) (fun i hi => AWD.steps X ok i hi) _ h0 ?_
 intro γ w' h
 exact end_at (hend γ w' h) (by kernel_rfl)
structure AW2 where
 bx : Nat
 bq : Nat
 x : Int
 y : Int
 ua : Option Addr
 un : Nat
 uc : Nat
 p : List Pnt
 W : World
 a0 : Act
structure AW2Ok (X : AW2) : Prop where
 c3 : X.W.cell? ⟨X.bx, 3, none⟩ = some (.slice X.ua X.un X.uc)
 q0 : X.W.cell? ⟨X.bq, 0, none⟩ = some (.int .i64 X.x)
 q1 : X.W.cell? ⟨X.bq, 1, none⟩ = some (.int .i64 X.y)
 ff : ∀ o, X.W.frozen? ⟨X.bx, o, none⟩ = false
 own : OwnP X.W (X.bx + 1) (.slice X.ua X.un X.uc) X.p
 neu : (Value.slice X.ua X.un X.uc).ownBlock ≠ some X.bx
 len : X.p.length + 1 ≤ 1000000
 e0 : X.a0.eval (.tmp 0) = .pointer (some ⟨X.bx, 0, none⟩)
 e3 : X.a0.eval (.tmp 3) = .pointer (some ⟨X.bq, 0, none⟩)
 sz : X.a0.tmps.size = 44
def AW2.val0 (X : AW2) : Nat → Value
 | 0 => .pointer (some ⟨X.bx, 0, none⟩)
 | 3 => .pointer (some ⟨X.bq, 0, none⟩)
 | 34 => .pointer (some ⟨X.bx, 0, none⟩)
 | 35 => .pointer (some ⟨X.bx, 0, none⟩)
 | 36 => .pointer (some ⟨X.bx, 0, none⟩)
 | 37 => .pointer (some ⟨X.bx, 3, none⟩)
 | 38 => .slice X.ua X.un X.uc
 | 39 => .agg #[.int .i64 X.x, .int .i64 X.y]
 | 42 => .pointer (some ⟨X.bx, 0, none⟩)
 | 43 => .pointer (some ⟨X.bx, 3, none⟩)
 | _ => undef
def AW2.av : Nat → Option Nat
 | 40 => some 0
 | 41 => some 1
 | _ => none
def AW2.acts : List Nat := [6, 7, 10]
def AW2.Wd (X : AW2) : Nat → (Nat → Value) → World → Prop
  | 0, _, w => w = X.W
  | 1, γ, w => γ 0 = .slice (some ⟨X.W.heap.size, 0, none⟩) 1 1 ∧ w = X.W.alloc (.cells #[.int .i64 X.x, .int .i64 X.y] 34)
  | 2, γ, w => ∃ g c, γ 1 = .slice (some ⟨g, 0, none⟩) (X.p.length + 1) c ∧ OwnP w (X.bx + 1) (γ 1) (X.p ++ [(X.x, X.y)]) ∧ Ext (.slice X.ua X.un X.uc) (γ 1) X.W w
  | _, γ, w => ∃ w2 g c, γ 1 = .slice (some ⟨g, 0, none⟩) (X.p.length + 1) c ∧ OwnP w2 (X.bx + 1) (γ 1) (X.p ++ [(X.x, X.y)]) ∧ Ext (.slice X.ua X.un X.uc) (γ 1) X.W w2 ∧ w = w2.setCell ⟨X.bx, 3, none⟩ (γ 1)
theorem AW2.chain : chainG (opsOf 2 Tryz.f87) AW2.acts = true := by kernel_rfl
theorem AW2.nodup : AW2.acts.Nodup := by decide
def AW2.L : List (Option Nat × Op × Option (Nat × Bool)) := [
 (some 34, .move (.tmp 0), none),
 (some 35, .move (.tmp 0), none),
 (some 36, .nilCheck (.tmp 35), none),
 (some 37, .fieldAddr 100 (.tmp 36) 3, none),
 (some 38, .load 23 (.tmp 37), none),
 (some 39, .load 34 (.tmp 3), none),
 (some 40, .buildSlice 23 1 #[(0, (.tmp 39))], none),
 (some 41, .call { callee := .builtin .append, args := #[(.tmp 38), (.tmp 40)], argTypes := #[23, 23] }, none),
 (some 42, .nilCheck (.tmp 34), none),
 (some 43, .fieldAddr 100 (.tmp 42) 3, none),
 (none, .store 23 (.tmp 43) (.tmp 41), none)]
theorem AW2.isL : (opsOf 2 Tryz.f87).toList.map tri = AW2.L := by kernel_rfl
theorem AW2.ini {X : AW2} (ok : AW2Ok X) : ∀ n ∈ [0, 3], X.a0.eval (.tmp n) = X.val0 n := by
 simp only [List.forall_mem_cons]
 exact ⟨ok.e0, ok.e3, List.forall_mem_nil _⟩
abbrev AW2.St (X : AW2) (Q : PQ) (i : Nat) : Prop := StepG (opsOf 2 Tryz.f87) AW2.acts AW2.av X.val0 X.Wd X.a0 Q i
theorem AW2.plain (X : AW2) (ok : AW2Ok X) {Q : PQ} : ∀ i ∈ [0, 1, 2, 3, 8, 9], AW2.St X Q i := by
 simp only [List.forall_mem_cons]
 refine ⟨?_, ?_, ?_, ?_, ?_, ?_, List.forall_mem_nil _⟩
 all_goals
  refine st_plain AW2.isL (AW2.ini ok) ok.sz rfl (by kernel_rfl) ?_
  intro γ w n o hW hop
  unfold execOp
  rw [hop]
  simp [envR, valG, AW2.av, AW2.val0, go_sem]
theorem AW2.soon (X : AW2) (ok : AW2Ok X) {Q : PQ} : ∀ i ∈ [5], AW2.St X Q i := by
 simp only [List.forall_mem_cons]
 refine ⟨?_, List.forall_mem_nil _⟩
 all_goals
  refine st_plainM (m := 0) AW2.isL (AW2.ini ok) ok.sz rfl (by kernel_rfl) ?_
  intro γ w n o hn hW hop
  obtain rfl : n = 0 := by omega
  have hk : w = X.W := hW
  subst hk
  unfold execOp
  rw [hop]
  simp [envR, valG, AW2.av, AW2.val0, ok.q0, ok.q1, go_sem]
theorem AW2.s4 (X : AW2) (ok : AW2Ok X) {Q : PQ} : AW2.St X Q 4 := by
 intro γ listed a w o hF hC hW h1 ho h2
 obtain ⟨hd, hop, hg⟩ := fieldsL AW2.isL (i := 4) rfl ho
 have e37 : a.eval (.tmp 37) = .pointer (some ⟨X.bx, 3, none⟩) := known hF ho h2 (AW2.ini ok) ok.sz (by kernel_rfl)
 have hph := phase_leG (acts := AW2.acts) (m := 1) (x := 7) hC (unl (hF.lt ho) h1) rfl [4] (by kernel_rfl) (by decide)
 have hWW := hW
 generalize phase listed AW2.acts = n at hph hWW
 have hk : Nw X.W w := by
  rcases (show n = 0 ∨ n = 1 by omega) with rfl | rfl
  ·have : w = X.W := hWW
   rw [this]; exact Below.refl _ _
  ·obtain ⟨_, h9⟩ := hWW
   rw [h9]; exact (Below.refl _ _).alloc (Nat.le_refl _) _
 have hc := ((bcell hk).1 _ _ (World.block_lt_of_cell? X.W ⟨X.bx, 3, none⟩ ok.c3)).trans ok.c3
 refine st_pureG hF hC hW ho h2 (by decide) hd hg rfl ?_
 show _ = Result.ok (Next.value (.slice X.ua X.un X.uc)) w
 generalize a.eval = ρ at e37 ⊢
 unfold execOp
 rw [hop]
 simp [e37, hc, go_sem]
theorem AW2.s6 (X : AW2) (ok : AW2Ok X) {Q : PQ} : AW2.St X Q 6 := by
 intro γ listed a w o hF hC hW h1 ho h2
 obtain ⟨hd, hop, hg⟩ := fieldsL AW2.isL (i := 6) rfl ho
 have e39 : a.eval (.tmp 39) = .agg #[.int .i64 X.x, .int .i64 X.y] := known hF ho h2 (AW2.ini ok) ok.sz (by kernel_rfl)
 have hu := unl (hF.lt ho) h1
 refine st_actG (k := 0) AW2.chain AW2.nodup rfl hF hC hW h1 ho h2 (Or.inr ⟨40, hd, rfl⟩) (injG (by kernel_rfl) hu) hg ?_
 intro hW0 K hK
 have hw0 : w = X.W := hW0
 have hr : (execOp a.eval o).run Tryz.prog w = .ok (.value (.slice (some ⟨w.heap.size, 0, none⟩) 1 1)) (w.alloc (.cells #[.int .i64 X.x, .int .i64 X.y] 34)) := by
  generalize a.eval = ρ at e39 ⊢
  unfold execOp
  rw [hop]
  simp [e39, go_sem]
 unfold Oper.wp
 rw [hr, hw0]
 exact hK _ _ ⟨rfl, rfl⟩
theorem AW2.s7 (X : AW2) (ok : AW2Ok X) {Q : PQ} : AW2.St X Q 7 := by
 intro γ listed a w o hF hC hW h1 ho h2
 obtain ⟨hd, hop, hg⟩ := fieldsL AW2.isL (i := 7) rfl ho
 have e38 : a.eval (.tmp 38) = .slice X.ua X.un X.uc := known hF ho h2 (AW2.ini ok) ok.sz (by kernel_rfl)
 have e40 : a.eval (.tmp 40) = γ 0 := known hF ho h2 (AW2.ini ok) ok.sz (by kernel_rfl)
 have hu := unl (hF.lt ho) h1
 refine st_actG (k := 1) AW2.chain AW2.nodup rfl hF hC hW h1 ho h2 (Or.inr ⟨41, hd, rfl⟩) (injG (by kernel_rfl) hu) hg ?_
 intro hW0 K hK
 obtain ⟨g0, hw1⟩ := hW0
 rw [g0] at e40
 subst hw1
 have n1 : Nw X.W (X.W.alloc (.cells #[.int .i64 X.x, .int .i64 X.y] 34)) := (Below.refl _ _).alloc (Nat.le_refl _) _
 refine wp_q 34 23 23 (.int .i64 0) (.int .i64 0) 16 under_pts under_pts Tryz.info34 (by decide) rfl _ (.tmp 38) (.tmp 40) hop (X.bx + 1) (.slice X.ua X.un X.uc) (vP X.p) (vP [(X.x, X.y)]) e38 (OwnQ.nw ok.own n1) X.W.heap.size 0 1 1 rfl e40 (liep_one X.W X.x X.y _).vv (vP_one _) (by simp [vP]) (by rw [vP_len]; have := ok.len; simp [vP]; omega) (by have := World.block_lt_of_cell? X.W ⟨X.bx, 3, none⟩ ok.c3; simp at this ⊢; omega) ?_
 intro g' c' w' h3 h4
 rw [vP_len] at h3 h4 ⊢
 rw [← vP_append] at h3
 exact hK _ _ ⟨g', c', rfl, h3, n1.ext h4⟩
theorem AW2.s10 (X : AW2) (ok : AW2Ok X) {Q : PQ} : AW2.St X Q 10 := by
 intro γ listed a w o hF hC hW h1 ho h2
 obtain ⟨hd, hop, hg⟩ := fieldsL AW2.isL (i := 10) rfl ho
 have e43 : a.eval (.tmp 43) = .pointer (some ⟨X.bx, 3, none⟩) := known hF ho h2 (AW2.ini ok) ok.sz (by kernel_rfl)
 have e41 : a.eval (.tmp 41) = γ 1 := known hF ho h2 (AW2.ini ok) ok.sz (by kernel_rfl)
 have hu := unl (hF.lt ho) h1
 refine st_actG (k := 2) AW2.chain AW2.nodup rfl hF hC hW h1 ho h2 (Or.inl hd) (injG (by kernel_rfl) hu) hg ?_
 intro hW0 K hK
 obtain ⟨g, cc, g1, o1, x1⟩ := hW0
 have hb := World.block_lt_of_cell? X.W ⟨X.bx, 3, none⟩ ok.c3
 have t0 : w.cell? ⟨X.bx, 3, none⟩ = some (.slice X.ua X.un X.uc) := (Ext.cell x1 hb ok.neu 3).trans ok.c3
 have tf : w.frozen? ⟨X.bx, 3, none⟩ = false := (World.frozen?_of_block (w := X.W) (a := ⟨X.bx, 3, none⟩) (x1.1.block X.bx hb (fun e => ok.neu e.symm))).trans (ok.ff 3)
 have hr : (execOp a.eval o).run Tryz.prog w = .ok .skip (w.setCell ⟨X.bx, 3, none⟩ (γ 1)) := by
  rw [g1] at e41 ⊢
  generalize a.eval = ρ at e41 e43 ⊢
  unfold execOp
  rw [hop]
  simp [e41, e43, t0, tf, go_sem]
 unfold Oper.wp
 rw [hr]
 exact hK undef _ ⟨w, g, cc, g1, o1, x1, rfl⟩
theorem AW2.size : (opsOf 2 Tryz.f87).size = 11 := by kernel_rfl
theorem AW2.rest (X : AW2) (ok : AW2Ok X) {Q : PQ} : ∀ i ∈ [4, 6, 7, 10], AW2.St X Q i := by
 simp only [List.forall_mem_cons]
 exact ⟨AW2.s4 X ok,
  AW2.s6 X ok,
  AW2.s7 X ok,
  AW2.s10 X ok, List.forall_mem_nil _⟩
theorem AW2.steps (X : AW2) (ok : AW2Ok X) {Q : PQ} (i : Nat) (hi : i < (opsOf 2 Tryz.f87).size) : AW2.St X Q i := by
 rw [AW2.size] at hi
 rcases (by decide : ∀ i, i < 11 → i ∈ [0, 1, 2, 3, 8, 9] ∨ i ∈ [5] ∨ i ∈ [4, 6, 7, 10]) i hi with h | h | h
 · exact AW2.plain X ok i h
 · exact AW2.soon X ok i h
 · exact AW2.rest X ok i h
theorem AW2.run (X : AW2) (ok : AW2Ok X) {Q : PQ} (w : World) (h0 : X.Wd 0 (fun _ => undef) w.drew) (hend : ∀ (γ : Nat → Value) w', X.Wd 3 γ w' → Q .normal ((((((((((X.a0.put (some 34) (.pointer (some ⟨X.bx, 0, none⟩))).put (some 35) (.pointer (some ⟨X.bx, 0, none⟩))).put (some 36) (.pointer (some ⟨X.bx, 0, none⟩))).put (some 37) (.pointer (some ⟨X.bx, 3, none⟩))).put (some 38) (.slice X.ua X.un X.uc)).put (some 39) (.agg #[.int .i64 X.x, .int .i64 X.y])).put (some 40) (γ 0)).put (some 41) (γ 1)).put (some 42) (.pointer (some ⟨X.bx, 0, none⟩))).put (some 43) (.pointer (some ⟨X.bx, 3, none⟩))) w') : (Code.region 2 (opsOf 2 Tryz.f87) true).wp Tryz.prog Q X.a0 w := by
 refine reg_act (acts := AW2.acts) (av := AW2.av) (val0 := X.val0) (Wd := X.Wd) (by kernel_rfl) (by kernel_rfl) (by rw [AW2.size]; decide) (fun i hi => AW2.steps X ok i hi) _ h0 ?_
 intro γ w' h
 exact end_at (hend γ w' h) (by kernel_rfl)
end Go.Proofs.YtnkeljmecbohkaaGreat
