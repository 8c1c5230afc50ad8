/-
  below and the functions that it is handed, by the program; each theorem names its conditions.
-/
import Derived.Test.YthlohbiocfeapaaLyIR
import Derived.Test.YthlohbiocfeapaaLy
namespace Go.Proofs.Ythlohbiocfeapaa
open Go.ChangeShapes Go.WideShapes Go.ChangeAt Go.RowKit
set_option linter.unusedVariables false

set_option maxRecDepth 100000 in
set_option maxHeartbeats 8000000 in
theorem ipm1 (w : World) (j gt gm : Nat) (t : Edg) (e : MD) (a2 : Option Addr) (c2 : Nat) (l2 : List Int) (hq : QB w gt t) (hm : MB w gm e (.slice a2 l2.length c2)) (hr : Ints w a2 l2) (hj : j < l2.length) (ht : ok8 t.ax ∧ ok8 t.ay ∧ ok8 t.bx ∧ ok8 t.cy) (hv : 0 ≤ intAt l2 j ∧ intAt l2 j ≤ 16) :
    Calls Try.prog 100 (#[.int .i64 (j : Int)] ++ #[.pointer (some ⟨gt, 0, none⟩), .pointer (some ⟨gm, 0, none⟩)]) w fun e w' => e = .returned (edV (thinT t (16 * intAt l2 j))) ∧ Kp w w' := by
  show Calls Try.prog 100 #[.int .i64 (j : Int), .pointer (some ⟨gt, 0, none⟩), .pointer (some ⟨gm, 0, none⟩)] w _
  obtain ⟨gb, ob, rfl, y0⟩ := Ints.at (k := j) hr hj
  generalize intAt l2 j = m at *
  obtain ⟨n, hn⟩ : ∃ n, l2.length = n := ⟨_, rfl⟩
  rw [hn] at hm hj
  have HJ : Hid (j < n) := hj
  have HQ : Hid _ := hq
  have HM : Hid _ := hm
  have HY : Hid _ := y0
  have HT : Hid _ := ht
  have hwm : IntKind.i64.wrap (m * 16) = 16 * m := by rw [Int.mul_comm]; exact IntWalk.i64_in _ ⟨by omega, by omega⟩
  have hpm : 0 ≤ 16 * m ∧ 16 * m ≤ 256 := by omega
  obtain ⟨t0, t1, t2, t3⟩ := t
  clear hq hm hr y0 ht hj hn hv
  simp only at HQ HT
  obtain ⟨V, hV⟩ : ∃ V, thinT ⟨t0, t1, t2, t3⟩ (16 * m) = V := ⟨_, rfl⟩
  rw [hV]
  have HV : Hid _ := hV
  clear hV
  obtain ⟨W, hW⟩ : ∃ W, w.alloc (.cells #[.int .i64 0, .int .i64 0, .int .i64 0, .int .i64 0] 24) = W := ⟨_, rfl⟩
  have KW : Hid (Kp w W) := by show Kp w W; rw [← hW]; exact (Kp.refl w).alloc _ _
  have HZ : Hid (QB W w.heap.size noE) := by show QB _ _ _; rw [← hW]; exact QB.new w noE 24
  have HW : Hid (_ = W) := hW
  clear hW
  go_enter Try.func100, Try.ntmps100
  go_wp2
  rw [HW.out]
  refine reg_change (ops' := opsOf 1 Try.f100) (by kernel_rfl) ?_
  obtain ⟨z0, z1, z2, z3, zf⟩ := HZ.out
  obtain ⟨q0, q1, q2, q3, _⟩ := QB.nw HQ.out (Kp.nw KW.out)
  have qm := (MB.nw HM.out (Kp.nw KW.out)).c2
  have qv := rq_at KW.out HY.out
  refine PMR.run ⟨j, gt, gm, w.heap.size, gb, ob, n, c2, m, t0, t1, t2, t3, W.drew, _⟩ ⟨q0, q1, q2, q3, qm, HJ.out, qv, hwm, HT.out, hpm, ⟨_, z0⟩, ⟨_, z1⟩, ⟨_, z2⟩, ⟨_, z3⟩, zf, rfl, rfl, rfl, rfl, rfl⟩ W (Kp.refl _) ?_
  rintro γ w5 ⟨w4, k4, rfl⟩
  replace k4 : Kp W w4 := undrew k4
  have K4 : Hid (Kp W w4) := k4
  clear k4 z0 z1 z2 z3 zf
  obtain ⟨z0, z1, z2, z3, zf⟩ := QB.nw HZ.out K4.out.nw
  simp only [noE] at z0 z1 z2 z3
  simp only [Act.put, List.setIfInBounds_toArray, List.set_cons_zero, List.set_cons_succ]
  rw [HV.out]
  clear HV
  obtain ⟨y0, y1, y2, y3⟩ := V
  simp only
  obtain ⟨v0, v1, v2, v3⟩ := set4 w4 w.heap.size (.int .i64 y0) (.int .i64 y1) (.int .i64 y2) (.int .i64 y3) z0 z1 z2 z3
  go_wp2
  refine bodyPost_ret (v := .agg #[.int .i64 y0, .int .i64 y1, .int .i64 y2, .int .i64 y3]) (by simp [results, Try.results100, go_sem, v0, v1, v2, v3]) rfl ⟨rfl, ?_⟩
  exact ((((Kp.trans KW.out K4.out).setCell (by first | (simp; done) | (simp; omega)) _).setCell (by first | (simp; done) | (simp; omega)) _).setCell (by first | (simp; done) | (simp; omega)) _).setCell (by first | (simp; done) | (simp; omega)) _
set_option maxRecDepth 100000 in
set_option maxHeartbeats 8000000 in
theorem ily1 (w : World) (j gl gp : Nat) (p : Int) (e : MD) (a2 : Option Addr) (c2 : Nat) (l2 : List Edg) (hq : w.cell? ⟨gp, 0, none⟩ = some (.int .i64 p)) (hm : MB w gl e (.slice a2 l2.length c2)) (hr : Edgs w a2 l2) (hj : j < l2.length) (ht : ok8 (edAt l2 j).ax ∧ ok8 (edAt l2 j).ay ∧ ok8 (edAt l2 j).bx ∧ ok8 (edAt l2 j).cy) (hp : 0 ≤ p ∧ p ≤ 256) :
    Calls Try.prog 103 (#[.int .i64 (j : Int)] ++ #[.pointer (some ⟨gl, 0, none⟩), .pointer (some ⟨gp, 0, none⟩)]) w fun e w' => e = .returned (edV (thinT (edAt l2 j) p)) ∧ Kp w w' := by
  show Calls Try.prog 103 #[.int .i64 (j : Int), .pointer (some ⟨gl, 0, none⟩), .pointer (some ⟨gp, 0, none⟩)] w _
  obtain ⟨gb, ob, rfl, hcc⟩ := edgs_some hr (by omega)
  obtain ⟨y0, y1, y2, y3⟩ := hcc j hj
  generalize edAt l2 j = t at *
  obtain ⟨n, hn⟩ : ∃ n, l2.length = n := ⟨_, rfl⟩
  rw [hn] at hm hj
  have HJ : Hid (j < n) := hj
  have HQ : Hid _ := hq
  have HM : Hid _ := hm
  have HY0 : Hid _ := y0
  have HY1 : Hid _ := y1
  have HY2 : Hid _ := y2
  have HY3 : Hid _ := y3
  have HT : Hid _ := ht
  have HP : Hid _ := hp
  obtain ⟨t0, t1, t2, t3⟩ := t
  clear hq hm hr y0 y1 y2 y3 ht hj hn hp hcc
  simp only at HY0 HY1 HY2 HY3 HT
  obtain ⟨V, hV⟩ : ∃ V, thinT ⟨t0, t1, t2, t3⟩ p = V := ⟨_, rfl⟩
  rw [hV]
  have HV : Hid _ := hV
  clear hV
  obtain ⟨W, hW⟩ : ∃ W, w.alloc (.cells #[.int .i64 0, .int .i64 0, .int .i64 0, .int .i64 0] 24) = W := ⟨_, rfl⟩
  have KW : Hid (Kp w W) := by show Kp w W; rw [← hW]; exact (Kp.refl w).alloc _ _
  have HZ : Hid (QB W w.heap.size noE) := by show QB _ _ _; rw [← hW]; exact QB.new w noE 24
  have HW : Hid (_ = W) := hW
  clear hW
  go_enter Try.func103, Try.ntmps103
  go_wp2
  rw [HW.out]
  refine reg_change (ops' := opsOf 1 Try.f103) (by kernel_rfl) ?_
  obtain ⟨z0, z1, z2, z3, zf⟩ := HZ.out
  have qm := (MB.nw HM.out (Kp.nw KW.out)).c2
  have qp := rq_at KW.out HQ.out
  have r0 := rq_at KW.out HY0.out
  have r1 := rq_at KW.out HY1.out
  have r2 := rq_at KW.out HY2.out
  have r3 := rq_at KW.out HY3.out
  refine LYR.run ⟨j, gl, gp, w.heap.size, gb, ob, n, c2, p, t0, t1, t2, t3, W.drew, _⟩ ⟨qm, qp, HJ.out, r0, r1, r2, r3, HT.out, HP.out, ⟨_, z0⟩, ⟨_, z1⟩, ⟨_, z2⟩, ⟨_, z3⟩, zf, rfl, rfl, rfl, rfl, rfl⟩ W (Kp.refl _) ?_
  rintro γ w5 ⟨w4, k4, rfl⟩
  replace k4 : Kp W w4 := undrew k4
  have K4 : Hid (Kp W w4) := k4
  clear k4 z0 z1 z2 z3 zf
  obtain ⟨z0, z1, z2, z3, zf⟩ := QB.nw HZ.out K4.out.nw
  simp only [noE] at z0 z1 z2 z3
  simp only [Act.put, List.setIfInBounds_toArray, List.set_cons_zero, List.set_cons_succ]
  rw [HV.out]
  clear HV
  obtain ⟨y0, y1, y2, y3⟩ := V
  simp only
  obtain ⟨v0, v1, v2, v3⟩ := set4 w4 w.heap.size (.int .i64 y0) (.int .i64 y1) (.int .i64 y2) (.int .i64 y3) z0 z1 z2 z3
  go_wp2
  refine bodyPost_ret (v := .agg #[.int .i64 y0, .int .i64 y1, .int .i64 y2, .int .i64 y3]) (by simp [results, Try.results103, go_sem, v0, v1, v2, v3]) rfl ⟨rfl, ?_⟩
  exact ((((Kp.trans KW.out K4.out).setCell (by first | (simp; done) | (simp; omega)) _).setCell (by first | (simp; done) | (simp; omega)) _).setCell (by first | (simp; done) | (simp; omega)) _).setCell (by first | (simp; done) | (simp; omega)) _
/-- What below makes of tints. -/
def blL (l1 : List Edg) (T : Nat → Edg) (k : Nat) : List Edg := (List.range k).map fun i => overT (T i) (edAt l1 i)
theorem blL_len (l1 : List Edg) (T : Nat → Edg) (k : Nat) : (blL l1 T k).length = k := by simp [blL]
theorem blL_step (l1 : List Edg) (T : Nat → Edg) (k : Nat) : blL l1 T (k + 1) = blL l1 T k ++ [overT (T k) (edAt l1 k)] := by simp [blL, List.range_succ]
set_option maxRecDepth 100000 in
set_option maxHeartbeats 8000000 in
theorem ibelow (w : World) (d : MD) (a1 : Option Addr) (c1 : Nat) (l1 : List Edg) (T : Nat → Edg) (fn : FuncId) (cap : Array Value) (hl : l1.length ≤ 1296) (hr : Edgs w a1 l1)
    (hx : ∀ j, j < l1.length → ok8 (edAt l1 j).ax ∧ ok8 (edAt l1 j).ay ∧ ok8 (edAt l1 j).bx ∧ ok8 (edAt l1 j).cy) (hT : ∀ j, j < l1.length → ok8 (T j).ax ∧ ok8 (T j).ay ∧ ok8 (T j).bx ∧ ok8 (T j).cy)
    (hfx : ∀ args w, Sem.run Try.prog (callFunc fn args) w = Result.ok (Next.enter fn args) w)
    (hf : ∀ w1, Nw w w1 → ∀ j : Nat, j < l1.length → Calls Try.prog fn (#[.int .i64 (j : Int)] ++ cap) w1 fun e w' => e = .returned (edV (T j)) ∧ Kp w1 w') :
    Calls Try.prog 99 #[mskV d (.slice a1 l1.length c1), .func (.func fn) #[] cap] w fun x w' => ∃ v, x = .returned (mskV d v) ∧ FrQ w' w.heap.size v (blL l1 T l1.length) ∧ Nw w w' := by
  obtain ⟨pw, ph⟩ := d
  unfold mskV
  simp only
  obtain ⟨n1, hn1⟩ : ∃ n, l1.length = n := ⟨_, rfl⟩
  have HN1 : Hid (l1.length = n1) := hn1
  rw [hn1] at hl hx hT hf ⊢
  have HR : Hid _ := hr
  have HX : Hid _ := hx
  have HT : Hid _ := hT
  have HFX : Hid _ := hfx
  have HF : Hid _ := hf
  clear hr hx hT hfx hf hn1
  obtain ⟨W, hW⟩ : ∃ W, ((w.alloc (.cells #[.int .i64 pw, .int .i64 ph, .slice a1 n1 c1] 114)).alloc (.cells #[.int .i64 0, .int .i64 0, .slice none 0 0] 114)) = W := ⟨_, rfl⟩
  have NW : Hid (Nw w W) := by show Nw w W; rw [← hW]; exact Nw.trans (QBnw _ _) (QBnw _ _)
  have hWs : W.heap.size = w.heap.size + 1 + 1 := by rw [← hW]; simp
  have B0 : Hid (MB W w.heap.size ⟨pw, ph⟩ (.slice a1 n1 c1)) := by
    show MB _ _ _ _
    rw [← hW]
    have := MB.new w ⟨pw, ph⟩ (.slice a1 n1 c1) 114
    exact this.nw (QBnw _ _)
  have B1 : Hid (CvQ (w.heap.size + 1) W ⟨0, 0⟩ (.slice none 0 0) []) := by
    show CvQ _ _ _ _ _
    rw [← hW]
    have := CvQ.new (w.alloc (.cells #[.int .i64 pw, .int .i64 ph, .slice a1 n1 c1] 114)) 114 ⟨0, 0⟩
    simp only [World.size_alloc] at this
    exact this
  obtain ⟨W2, hW2⟩ : ∃ W2, W.alloc (.cells #[.int .i64 pw, .int .i64 ph, .slice none 0 0] 114) = W2 := ⟨_, rfl⟩
  have B2 : Hid (CvQ W.heap.size W2 ⟨pw, ph⟩ (.slice none 0 0) []) := by show CvQ _ _ _ _ _; rw [← hW2]; exact CvQ.new W 114 ⟨pw, ph⟩
  have N2 : Hid (Nw W W2) := by show Nw _ _; rw [← hW2]; exact QBnw _ _
  have HW : Hid ((((w.alloc (.cells #[.int .i64 pw, .int .i64 ph, .slice a1 n1 c1] 114)).alloc (.cells #[.int .i64 0, .int .i64 0, .slice none 0 0] 114))).alloc (.cells #[.int .i64 pw, .int .i64 ph, .slice none 0 0] 114) = W2) := by show _ = _; rw [hW]; exact hW2
  have HWs : Hid (W.heap.size = w.heap.size + 1 + 1) := hWs
  clear hW hW2 hWs
  rw [HWs.out] at B2
  obtain ⟨p0, p1, p2⟩ := MB.nw B0.out N2.out
  simp only at p0 p1 p2
  go_enter Try.func99, Try.ntmps99
  go_wp2
  rw [HW.out]
  clear p0 p1 p2
  go_loopw [14] (fun i wr => ∃ j : Nat, j ≤ n1 ∧ i = .int .i64 (j : Int) ∧ (∃ v, CvQ (w.heap.size + 1 + 1) wr ⟨pw, ph⟩ v (blL l1 T j)) ∧ Nw W wr) (fun i _ => n1 - (intOf i).toNat)
  case atStart => exact ⟨0, Nat.zero_le _, rfl, ⟨_, B2.out⟩, N2.out⟩
  case round =>
    obtain ⟨j, hj, rfl, ⟨v, hcb⟩, hw⟩ := hrel
    obtain ⟨va, vn, vc, hv⟩ := hcb.own.slice
    subst hv
    have HCB : Hid (CvQ (w.heap.size + 1 + 1) wr ⟨pw, ph⟩ (.slice va vn vc) (blL l1 T j)) := hcb
    have HWR : Hid (Nw W wr) := hw
    clear hcb hw
    by_cases hlt : j < n1
    · obtain ⟨ga, oa, rfl, hca⟩ := edgs_some (Edgs.nw HR.out (Nw.trans NW.out HWR.out)) (show 0 < l1.length by rw [HN1.out]; omega)
      obtain ⟨x0, x1, x2, x3⟩ := hca j (by rw [HN1.out]; exact hlt)
      have hx := HX.out j hlt
      have ht := HT.out j hlt
      have HE : Hid _ := blL_step l1 T j
      have HLE : Hid ((blL l1 T j).length ≤ 1000000) := by show _ ≤ _; rw [blL_len]; omega
      have HFJ : Hid (∀ w1, Nw w w1 → _) := fun w1 h => HF.out w1 h j hlt
      generalize edAt l1 j = x at *
      generalize T j = t at *
      generalize blL l1 T j = L at *
      obtain ⟨u0, u1, u2, u3⟩ := x
      obtain ⟨t0, t1, t2, t3⟩ := t
      simp only at x0 x1 x2 x3 hx ht HE
      clear hca
      go_wp2
      obtain ⟨W3, hW3⟩ : ∃ W3, wr.alloc (.cells #[.int .i64 u0, .int .i64 u1, .int .i64 u2, .int .i64 u3] 24) = W3 := ⟨_, rfl⟩
      have PU : Hid (QB W3 wr.heap.size ⟨u0, u1, u2, u3⟩) := by show QB _ _ _; rw [← hW3]; exact QB.new wr ⟨u0, u1, u2, u3⟩ _
      have N2d : Hid (Nw wr W3.drew) := by show Nw wr W3.drew; rw [← hW3]; exact (QBnw _ _).drew
      rw [hW3]
      clear hW3
      obtain ⟨s0, s1, s2, s3, _⟩ := QB.nw PU.out ((Below.refl _ _).drew : Nw W3 W3.drew)
      refine reg_change (ops' := opsOf 5 Try.f99) (by kernel_rfl) ?_
      refine BWR.run ⟨w.heap.size + 1 + 1, wr.heap.size, fn, cap, ⟨pw, ph⟩, va, vn, vc, L, j, t0, t1, t2, t3, u0, u1, u2, u3, W3.drew, _⟩ ⟨CvQ.nw HCB.out N2d.out, HLE.out, s0, s1, s2, s3, ht, hx, HFX.out, fun w1 k => HFJ.out w1 (Nw.trans NW.out (Nw.trans HWR.out (Nw.trans N2d.out k.nw))), rfl, rfl, rfl, rfl, rfl⟩ W3 (Kp.refl _) ?_
      rintro γ w9 ⟨w7, w8, k1, o1, y1', rfl⟩
      simp only at o1 y1' k1 ⊢
      have HPT : Hid _ := CvQ.put ((CvQ.nw HCB.out N2d.out).nw k1.nw) y1' o1
      have HK1 : Hid (Nw wr w7) := Nw.trans N2d.out k1.nw
      generalize γ 1 = v' at *
      generalize γ 0 = v0 at *
      obtain ⟨sa, sn, sc, g1⟩ := o1.slice
      subst g1
      clear o1 y1' k1 x0 x1 x2 x3 hx ht s0 s1 s2 s3
      simp only [Act.put, List.setIfInBounds_toArray, List.set_cons_zero, List.set_cons_succ]
      go_wp2
      go_roundw
      case rel => exact ⟨j + 1, by omega, by go_num, ⟨_, by rw [HE.out]; exact HPT.out.1⟩, Below.trans (Nw.trans HWR.out HK1.out) (show Below W.heap.size _ _ by rw [HWs.out]; exact HPT.out.2)⟩
      case measure => simp [intOf]; omega
    · have hj2 : j = n1 := by omega
      subst hj2
      obtain ⟨b0, b1, b2, bf, bo⟩ := HCB.out
      obtain ⟨z0, z1, z2, zf, _⟩ := CvQ.nw B1.out HWR.out
      have HBO : Hid (OwnE 24 wr (w.heap.size + 1 + 1 + 1) (.slice va vn vc) (blL l1 T j)) := bo
      simp only at b0 b1 b2 z0 z1 z2
      clear bo
      obtain ⟨y0, y1, y2⟩ := set3 wr (w.heap.size + 1) (.int .i64 pw) (.int .i64 ph) (.slice va vn vc) z0 z1 z2
      go_wp2
      refine bodyPost_ret (v := .agg #[.int .i64 pw, .int .i64 ph, .slice va vn vc]) (by simp [results, Try.results99, go_sem, y0, y1, y2]) rfl ⟨_, rfl, ?_, ?_⟩
      · have hne : (Value.slice va vn vc).ownBlock ≠ some (w.heap.size + 1) := fun e => by have := (OwnE.lt HBO.out _ e).1; omega
        exact OwnE.fr ((((OwnE.base HBO.out (by omega)).far _ _ _ hne).far _ _ _ hne).far _ _ _ hne)
      · exact (((Nw.trans NW.out HWR.out).setCell (by first | (simp; done) | (simp; omega)) _).setCell (by first | (simp; done) | (simp; omega)) _).setCell (by first | (simp; done) | (simp; omega)) _
end Go.Proofs.Ythlohbiocfeapaa
