/-
  Masks that meet, of both: MeetMasks; each theorem names its conditions.
-/
import Derived.Test.YtllljknpicmmjaaMeR
import Derived.Test.YtllljknpicmmjaaSMeR
namespace Go.Proofs.Ytllljknpicmmjaa
open Go.ChangeShapes Go.WideShapes Go.ChangeAt Go.RowKit
set_option linter.unusedVariables false

/-- The numbers of two masks that meet, the first k. -/
def mtL (l1 l2 : List Int) (k : Nat) : List Int := (List.range k).map fun i => (intAt l1 i * intAt l2 i + 8) / 16
theorem mtL_len (l1 l2 : List Int) (k : Nat) : (mtL l1 l2 k).length = k := by simp [mtL]
theorem mtL_step (l1 l2 : List Int) (k : Nat) : mtL l1 l2 (k + 1) = mtL l1 l2 k ++ [(intAt l1 k * intAt l2 k + 8) / 16] := by simp [mtL, List.range_succ]
/-- Whether they meet. -/
def mtB (p q : MD) (l1 l2 : List Int) : Bool := mskB p l1 && (mskB q l2 && (decide (p.w = q.w) && decide (p.h = q.h)))
def mtD (p q : MD) (l1 l2 : List Int) : MD := if mtB p q l1 l2 then p else ⟨0, 0⟩
def mtR (p q : MD) (l1 l2 : List Int) : List Int := if mtB p q l1 l2 then mtL l1 l2 l1.length else []
theorem mt_wraps {x y : Int} (hx : 0 ≤ x ∧ x ≤ 16) (hy : 0 ≤ y ∧ y ≤ 16) : IntKind.i64.wrap (x * y) = x * y ∧ IntKind.i64.wrap (x * y + 8) = x * y + 8 ∧ (x * y + 8).tdiv 16 = (x * y + 8) / 16 ∧ IntKind.i64.wrap ((x * y + 8) / 16) = (x * y + 8) / 16 := by
  have h0 : 0 ≤ x * y := Int.mul_nonneg hx.1 hy.1
  have h1 : x * y ≤ 256 := Int.le_trans (Int.mul_le_mul hx.2 hy.2 hy.1 (by decide)) (by decide)
  generalize x * y = z at *
  exact ⟨IntWalk.i64_in _ ⟨by omega, by omega⟩, IntWalk.i64_in _ ⟨by omega, by omega⟩, Int.tdiv_eq_ediv_of_nonneg (by omega), IntWalk.i64_in _ ⟨by omega, by omega⟩⟩
theorem set3 (w : World) (b : Nat) (u0 u1 u2 : Value) {v0 v1 v2 : Value} (z0 : w.cell? ⟨b, 0, none⟩ = some v0) (z1 : w.cell? ⟨b, 1, none⟩ = some v1) (z2 : w.cell? ⟨b, 2, none⟩ = some v2) :
    (((w.setCell ⟨b, 0, none⟩ u0).setCell ⟨b, 1, none⟩ u1).setCell ⟨b, 2, none⟩ u2).cell? ⟨b, 0, none⟩ = some u0 ∧ (((w.setCell ⟨b, 0, none⟩ u0).setCell ⟨b, 1, none⟩ u1).setCell ⟨b, 2, none⟩ u2).cell? ⟨b, 1, none⟩ = some u1 ∧ (((w.setCell ⟨b, 0, none⟩ u0).setCell ⟨b, 1, none⟩ u1).setCell ⟨b, 2, none⟩ u2).cell? ⟨b, 2, none⟩ = some u2 := by
  have far : ∀ (w : World) (o o' : Nat) (u : Value), o ≠ o' → (w.setCell ⟨b, o, none⟩ u).cell? ⟨b, o', none⟩ = w.cell? ⟨b, o', none⟩ := fun w o o' u h => World.cell?_setCell_other _ _ _ _ (fun e => by injection e; omega)
  refine ⟨?_, ?_, ?_⟩
  · rw [far _ 2 0 _ (by omega), far _ 1 0 _ (by omega)]
    exact World.cell?_setCell_same w ⟨b, 0, none⟩ _ z0
  · rw [far _ 2 1 _ (by omega)]
    exact World.cell?_setCell_same _ ⟨b, 1, none⟩ _ ((far _ 0 1 _ (by omega)).trans z1)
  · exact World.cell?_setCell_same _ ⟨b, 2, none⟩ _ ((far _ 1 2 _ (by omega)).trans ((far _ 0 2 _ (by omega)).trans z2))
/-- Two masks and the answer's place in boxes. -/
structure MM (W : World) (s : Nat) (p q : MD) (u v : Value) : Prop where
  one : MB W s p u
  two : MB W (s + 1) q v
  ans : CvB (s + 1 + 1) W ⟨0, 0⟩ (.slice none 0 0) []
theorem MM.nw {W W' : World} {s : Nat} {p q : MD} {u v : Value} (h : MM W s p q u v) (k : Nw W W') : MM W' s p q u v := ⟨h.one.nw k, h.two.nw k, h.ans.nw k⟩
theorem MM.new (w : World) (p q : MD) (u v : Value) (t1 t2 t3 : TypeId) : MM (((w.alloc (.cells (mskC p u) t1)).alloc (.cells (mskC q v) t2)).alloc (.cells #[.int .i64 0, .int .i64 0, .slice none 0 0] t3)) w.heap.size p q u v := by
  refine ⟨((MB.new w p u t1).nw ((Below.refl _ _).alloc (Nat.le_refl _) _)).nw ((Below.refl _ _).alloc (Nat.le_refl _) _), ?_, ?_⟩
  · have := (MB.new (w.alloc (.cells (mskC p u) t1)) q v t2)
    rw [World.size_alloc] at this
    exact this.nw ((Below.refl _ _).alloc (Nat.le_refl _) _)
  · have := CvB.new ((w.alloc (.cells (mskC p u) t1)).alloc (.cells (mskC q v) t2)) t3 ⟨0, 0⟩
    rw [World.size_alloc, World.size_alloc] at this
    exact this
theorem Ins.base {w : World} {B B' : Nat} {v : Value} {l : List Int} (h : Ins w B v l) (hB : B' ≤ B) : Ins w B' v l := by
  refine ⟨h.1, ?_⟩
  rcases h.2 with h2 | ⟨g, cap, cur, h1, h2, h3⟩
  · exact Or.inl h2
  · exact Or.inr ⟨g, cap, cur, h1, Nat.le_trans hB h2, h3⟩
set_option maxRecDepth 100000 in
set_option maxHeartbeats 4000000 in
theorem sl11meet (w : World) (p q : MD) (a1 a2 : Option Addr) (c1 c2 : Nat) (l1 l2 : List Int) (hb1 : mskB p l1 = true) (hb2 : mskB q l2 = true) (hll : l1.length = l2.length) (hr1 : Ints w a1 l1) (hr2 : Ints w a2 l2) :
    Calls Try.prog 67 #[mskV p (.slice a1 l1.length c1), mskV q (.slice a2 l2.length c2)] w fun e w' => ∃ v, e = .returned (mskV p v) ∧ Ins w' w.heap.size v (mtL l1 l2 l1.length) ∧ Nw w w' := by
  obtain ⟨pw, ph⟩ := p
  obtain ⟨qw, qh⟩ := q
  obtain ⟨W, hW⟩ : ∃ W, ((w.alloc (.cells #[.int .i64 pw, .int .i64 ph, .slice a1 l1.length c1] 28)).alloc (.cells #[.int .i64 qw, .int .i64 qh, .slice a2 l2.length c2] 28)).alloc (.cells #[.int .i64 0, .int .i64 0, .slice none 0 0] 28) = W := ⟨_, rfl⟩
  have HMB : Hid (MM W w.heap.size ⟨pw, ph⟩ ⟨qw, qh⟩ (.slice a1 l1.length c1) (.slice a2 l2.length c2)) := by show MM _ _ _ _ _ _; rw [← hW]; exact MM.new w ⟨pw, ph⟩ ⟨qw, qh⟩ _ _ _ _ _
  have NB : Hid (Nw w W) := by show Nw w W; rw [← hW]; exact (((Below.refl _ _).alloc (Nat.le_refl _) _).alloc (by simp) _).alloc (by simp; omega) _
  have hsz : W.heap.size = w.heap.size + 1 + 1 + 1 := by rw [← hW]; simp
  have HB1 : Hid _ := hb1
  have HB2 : Hid _ := hb2
  have HR1 : Hid (Ints w a1 l1) := hr1
  have HR2 : Hid (Ints w a2 l2) := hr2
  unfold mskV
  simp only
  obtain ⟨n1, hn1⟩ : ∃ n, l1.length = n := ⟨_, rfl⟩
  obtain ⟨n2, hn2⟩ : ∃ n, l2.length = n := ⟨_, rfl⟩
  have HN1 : Hid (l1.length = n1) := hn1
  have HN2 : Hid (l2.length = n2) := hn2
  have HLN : Hid (n1 = n2 ∧ n1 ≤ 1296) := ⟨by rw [← hn1, ← hn2, hll], by rw [← hn1]; exact mskB_len hb1⟩
  have h1296 : n1 ≤ 1296 := HLN.out.2
  rw [hn1] at HMB hW ⊢
  rw [hn2] at HMB hW ⊢
  have HW : Hid (_ = W) := hW
  clear hn1 hn2 hb1 hb2 hr1 hr2 hll hW
  obtain ⟨⟨q0, q1, q2⟩, ⟨r0, r1, r2⟩, ⟨z0, z1, z2, zf, _⟩⟩ := HMB.out
  simp only at q0 q1 q2 r0 r1 r2 z0 z1 z2
  go_enter Try.func67, Try.ntmps67
  have HM2 : Hid (MM W w.heap.size ⟨pw, ph⟩ ⟨qw, qh⟩ (.slice a1 n1 c1) (.slice a2 n2 c2)) := HMB.out
  have HR10 : Hid (Ints W a1 l1) := Ints.nw HR1.out NB.out
  have HR20 : Hid (Ints W a2 l2) := Ints.nw HR2.out NB.out
  have hs2 : w.heap.size + 1 + 1 < W.heap.size := HM2.out.ans.lt
  go_wp2
  rw [HW.out]
  go_loopw [16] (fun i wr => ∃ j : Nat, j ≤ n1 ∧ i = .int .i64 (j : Int) ∧ (∃ v, CvB (w.heap.size + 1 + 1 + 1) wr ⟨pw, ph⟩ v (mtL l1 l2 j)) ∧ Nw W wr) (fun i _ => n1 - (intOf i).toNat)
  case atStart => exact ⟨0, Nat.zero_le _, rfl, ⟨_, by have := CvB.new W 28 ⟨pw, ph⟩; rw [hsz] at this; exact this⟩, (Below.refl _ _).alloc (Nat.le_refl _) _⟩
  case round =>
    obtain ⟨j, hj, rfl, ⟨v, hcb⟩, hw⟩ := hrel
    obtain ⟨va, vn, vc, hv⟩ := hcb.own.slice
    subst hv
    have HCB : Hid (CvB (w.heap.size + 1 + 1 + 1) wr ⟨pw, ph⟩ (.slice va vn vc) (mtL l1 l2 j)) := hcb
    have HWR : Hid (Nw W wr) := hw
    clear hcb hw q0 q1 q2 r0 r1 r2 z0 z1 z2 zf
    obtain ⟨⟨q0, q1, q2⟩, ⟨r0, r1, r2⟩, ⟨z0, z1, z2, zf, _⟩⟩ := MM.nw HM2.out HWR.out
    simp only at q0 q1 q2 r0 r1 r2 z0 z1 z2
    by_cases hlt : j < n1
    · obtain ⟨ga, oa, rfl, x0⟩ := Ints.at (k := j) (Ints.nw HR10.out HWR.out) (by rw [HN1.out]; exact hlt)
      obtain ⟨gb, ob, rfl, y0⟩ := Ints.at (k := j) (Ints.nw HR20.out HWR.out) (by rw [HN2.out, ← HLN.out.1]; exact hlt)
      have hx := mskB_at HB1.out j (by rw [HN1.out]; exact hlt)
      have hy := mskB_at HB2.out j (by rw [HN2.out, ← HLN.out.1]; exact hlt)
      have HE : Hid _ := mtL_step l1 l2 j
      have HLE : Hid ((mtL l1 l2 j).length ≤ 1000000) := by show _ ≤ _; rw [mtL_len]; have := HLN.out.2; omega
      have HJ : Hid (j < n2) := by show j < n2; rw [← HLN.out.1]; exact hlt
      generalize intAt l1 j = x at *
      generalize intAt l2 j = y at *
      obtain ⟨m1, m2, m3, m4⟩ := mt_wraps hx hy
      generalize mtL l1 l2 j = L at *
      go_wp2
      refine reg_change (ops' := opsOf 5 Try.f67) (by kernel_rfl) ?_
      refine SMM.run ⟨(w.heap.size + 1 + 1 + 1), w.heap.size + 1, ⟨pw, ph⟩, va, vn, vc, L, gb, ob, n2, c2, j, x, y, wr.drew, _⟩ ⟨CvB.nw HCB.out ((Below.refl _ _).drew), HLE.out, r2, HJ.out, y0, m1, m2, m3, m4, rfl, rfl, rfl, rfl, rfl⟩ wr (Kp.refl _) ?_
      rintro γ w9 ⟨w7, w8, k1, o1, y1, rfl⟩
      simp only at o1 y1 k1 ⊢
      have HPT : Hid _ := CvB.put ((CvB.nw HCB.out ((Below.refl _ _).drew)).nw k1.nw) y1 o1
      have HK1 : Hid (Nw wr w7) := Nw.trans ((Below.refl _ _).drew) k1.nw
      generalize γ 1 = v' at *
      generalize γ 0 = v0 at *
      obtain ⟨sa, sn, sc, g1⟩ := o1.slice
      subst g1
      clear o1 y1 k1 m1 m2 m3 m4 q0 q1 q2 r0 r1 r2 z0 z1 z2 zf x0 y0 HJ hx hy
      simp only [Act.put, List.setIfInBounds_toArray, List.set_cons_zero, List.set_cons_succ]
      go_wp2
      go_roundw
      case rel => exact ⟨j + 1, by omega, by go_num, ⟨_, by rw [HE.out]; exact HPT.out.1⟩, Below.trans (Nw.trans HWR.out HK1.out) (Below.mono HPT.out.2 (by omega))⟩
      case measure => simp [intOf]; omega
    · have hj2 : j = n1 := by omega
      subst hj2
      obtain ⟨b0, b1, b2, bf, bo⟩ := HCB.out
      have HBO : Hid (Ins wr ((w.heap.size + 1 + 1 + 1) + 1) (.slice va vn vc) (mtL l1 l2 j)) := bo
      simp only at b0 b1 b2
      clear bo q0 q1 q2 r0 r1 r2
      obtain ⟨y0, y1, y2⟩ := set3 wr (w.heap.size + 1 + 1) (.int .i64 pw) (.int .i64 ph) (.slice va vn vc) z0 z1 z2
      go_wp2
      refine bodyPost_ret (v := .agg #[.int .i64 pw, .int .i64 ph, .slice va vn vc]) (by simp [results, Try.results67, go_sem, y0, y1, y2]) rfl ⟨_, rfl, ?_, ?_⟩
      · have hne : (Value.slice va vn vc).ownBlock ≠ some (w.heap.size + 1 + 1) := fun e => by have := (World.ownsRow.lt HBO.out _ e).1; omega
        exact (((Ins.base HBO.out (by omega)).far _ _ _ hne).far _ _ _ hne).far _ _ _ hne
      · exact (((Nw.trans NB.out HWR.out).setCell (by simp; omega) _).setCell (by simp; omega) _).setCell (by simp; omega) _
set_option maxRecDepth 100000 in
set_option maxHeartbeats 4000000 in
theorem imeet (w : World) (p q : MD) (a1 a2 : Option Addr) (c1 c2 : Nat) (l1 l2 : List Int) (hl1 : l1.length ≤ 1048576) (hl2 : l2.length ≤ 1048576) (hr1 : Ints w a1 l1) (hr2 : Ints w a2 l2) :
    Calls Try.prog 15 #[mskV p (.slice a1 l1.length c1), mskV q (.slice a2 l2.length c2)] w fun e w' => ∃ v, e = .returned (.tuple #[mskV (mtD p q l1 l2) v, .bool (mtB p q l1 l2)]) ∧ Ins w' w.heap.size v (mtR p q l1 l2) ∧ Nw w w' := by
  obtain ⟨pw, ph⟩ := p
  obtain ⟨qw, qh⟩ := q
  have HG1 : Hid (∀ w : World, Ints w a1 l1 → _) := fun w h => igoodMask w ⟨pw, ph⟩ a1 c1 l1 hl1 h
  have HG2 : Hid (∀ w : World, Ints w a2 l2 → _) := fun w h => igoodMask w ⟨qw, qh⟩ a2 c2 l2 hl2 h
  have HR1 : Hid (Ints w a1 l1) := hr1
  have HR2 : Hid (Ints w a2 l2) := hr2
  clear hr1 hr2
  obtain ⟨W, hW⟩ : ∃ W, ((w.alloc (.cells #[.int .i64 pw, .int .i64 ph, .slice a1 l1.length c1] 28)).alloc (.cells #[.int .i64 qw, .int .i64 qh, .slice a2 l2.length c2] 28)).alloc (.cells #[.int .i64 0, .int .i64 0, .slice none 0 0] 28) = W := ⟨_, rfl⟩
  have HM : Hid (MM W w.heap.size ⟨pw, ph⟩ ⟨qw, qh⟩ (.slice a1 l1.length c1) (.slice a2 l2.length c2)) := by show MM _ _ _ _ _ _; rw [← hW]; exact MM.new w ⟨pw, ph⟩ ⟨qw, qh⟩ _ _ _ _ _
  have NW : Hid (Nw w W) := by show Nw w W; rw [← hW]; exact (((Below.refl _ _).alloc (Nat.le_refl _) _).alloc (by simp) _).alloc (by simp; omega) _
  have HW : Hid (_ = W) := hW
  clear hW
  unfold mtD mtR
  obtain ⟨V, hV⟩ : ∃ V, mtB ⟨pw, ph⟩ ⟨qw, qh⟩ l1 l2 = V := ⟨_, rfl⟩
  rw [hV]
  have HV : Hid (V = (mskB ⟨pw, ph⟩ l1 && (mskB ⟨qw, qh⟩ l2 && (decide (pw = qw) && decide (ph = qh))))) := hV.symm
  clear hV
  unfold mskV at HG1 HG2 ⊢
  simp only at HG1 HG2 ⊢
  obtain ⟨n1, hn1⟩ : ∃ n, l1.length = n := ⟨_, rfl⟩
  obtain ⟨n2, hn2⟩ : ∃ n, l2.length = n := ⟨_, rfl⟩
  have HN1 : Hid (l1.length = n1) := hn1
  have HN2 : Hid (l2.length = n2) := hn2
  rw [hn1] at HG1 HM HW hl1 ⊢
  rw [hn2] at HG2 HM HW hl2 ⊢
  clear hn1 hn2
  cases b1 : mskB ⟨pw, ph⟩ l1 with
  | false =>
    rw [b1] at HG1 HV
    rw [Bool.false_and] at HV
    obtain rfl := HV.out
    clear HV b1
    simp only [Bool.false_eq_true, if_false]
    go_enter Try.func15, Try.ntmps15
    go_wp2_with fail
    rw [HW.out]
    refine Calls.mono (HG1.out _ (Ints.nw HR1.out NW.out)) ?_
    rintro e w1 ⟨rfl, k1⟩
    have N1 : Hid (Nw W w1) := k1.nw
    clear k1
    obtain ⟨⟨q0, q1, q2⟩, ⟨r0, r1, r2⟩, ⟨z0, z1, z2, zf, _⟩⟩ := MM.nw HM.out N1.out
    simp only at q0 q1 q2 r0 r1 r2 z0 z1 z2
    obtain ⟨y0, y1, y2⟩ := set3 w1 (w.heap.size + 1 + 1) (.int .i64 0) (.int .i64 0) (.slice none 0 0) z0 z1 z2
    go_wp2
    refine bodyPost_ret (v := .tuple #[.agg #[.int .i64 0, .int .i64 0, .slice none 0 0], .bool false]) (by simp [results, Try.results15, go_sem, y0, y1, y2]) rfl ⟨_, rfl, Ins.nil _ _, ?_⟩
    exact (((Nw.trans NW.out N1.out).setCell (by simp; omega) _).setCell (by simp; omega) _).setCell (by simp; omega) _
  | true =>
    rw [b1] at HG1 HV
    rw [Bool.true_and] at HV
    cases b2 : mskB ⟨qw, qh⟩ l2 with
    | false =>
      rw [b2] at HG2 HV
      rw [Bool.false_and] at HV
      obtain rfl := HV.out
      clear HV b1 b2
      simp only [Bool.false_eq_true, if_false]
      go_enter Try.func15, Try.ntmps15
      go_wp2_with fail
      rw [HW.out]
      refine Calls.mono (HG1.out _ (Ints.nw HR1.out NW.out)) ?_
      rintro e w1 ⟨rfl, k1⟩
      have N1 : Hid (Nw W w1) := k1.nw
      clear k1
      obtain ⟨⟨q0, q1, q2⟩, ⟨r0, r1, r2⟩, ⟨z0, z1, z2, zf, _⟩⟩ := MM.nw HM.out N1.out
      simp only at q0 q1 q2 r0 r1 r2 z0 z1 z2
      go_wp2_with fail
      refine Calls.mono (HG2.out _ (Ints.nw HR2.out (Nw.trans NW.out N1.out))) ?_
      rintro e w2 ⟨rfl, k2⟩
      have N2 : Hid (Nw W w2) := Nw.trans N1.out k2.nw
      clear k2 q0 q1 q2 r0 r1 r2 z0 z1 z2 zf
      obtain ⟨⟨q0, q1, q2⟩, ⟨r0, r1, r2⟩, ⟨z0, z1, z2, zf, _⟩⟩ := MM.nw HM.out N2.out
      simp only at q0 q1 q2 r0 r1 r2 z0 z1 z2
      obtain ⟨y0, y1, y2⟩ := set3 w2 (w.heap.size + 1 + 1) (.int .i64 0) (.int .i64 0) (.slice none 0 0) z0 z1 z2
      go_wp2
      refine bodyPost_ret (v := .tuple #[.agg #[.int .i64 0, .int .i64 0, .slice none 0 0], .bool false]) (by simp [results, Try.results15, go_sem, y0, y1, y2]) rfl ⟨_, rfl, Ins.nil _ _, ?_⟩
      exact (((Nw.trans NW.out N2.out).setCell (by simp; omega) _).setCell (by simp; omega) _).setCell (by simp; omega) _
    | true =>
      rw [b2] at HG2 HV
      rw [Bool.true_and] at HV
      by_cases e1 : pw = qw
      · rw [decide_eq_true e1, Bool.true_and] at HV
        have hd1 : (pw != qw) = false := by simp [e1]
        by_cases e2 : ph = qh
        · rw [decide_eq_true e2] at HV
          have hd2 : (ph != qh) = false := by simp [e2]
          obtain rfl := HV.out
          simp only [if_true]
          have HB1 : Hid _ := b1
          have HB2 : Hid _ := b2
          have HLN : Hid (n1 = n2 ∧ n1 ≤ 1296) := by
            have h1 := (mskB_some b1).2.2.1
            have h2 := (mskB_some b2).2.2.1
            have h3 := mskB_len b1
            rw [HN1.out] at h1 h3
            rw [HN2.out] at h2
            simp only at h1 h2
            rw [e1, e2, ← h2] at h1
            exact ⟨by omega, h3⟩
          clear HV b1 b2 e1 e2
          go_enter Try.func15, Try.ntmps15
          go_wp2_with fail
          rw [HW.out]
          refine Calls.mono (HG1.out _ (Ints.nw HR1.out NW.out)) ?_
          rintro e w1 ⟨rfl, k1⟩
          have N1 : Hid (Nw W w1) := k1.nw
          clear k1
          obtain ⟨⟨q0, q1, q2⟩, ⟨r0, r1, r2⟩, ⟨z0, z1, z2, zf, _⟩⟩ := MM.nw HM.out N1.out
          simp only at q0 q1 q2 r0 r1 r2 z0 z1 z2
          go_wp2_with fail
          refine Calls.mono (HG2.out _ (Ints.nw HR2.out (Nw.trans NW.out N1.out))) ?_
          rintro e w2 ⟨rfl, k2⟩
          have N2 : Hid (Nw W w2) := Nw.trans N1.out k2.nw
          clear k2 q0 q1 q2 r0 r1 r2 z0 z1 z2 zf
          obtain ⟨⟨q0, q1, q2⟩, ⟨r0, r1, r2⟩, ⟨z0, z1, z2, zf, _⟩⟩ := MM.nw HM.out N2.out
          simp only at q0 q1 q2 r0 r1 r2 z0 z1 z2
          have HMB : Hid (MM w2 w.heap.size ⟨pw, ph⟩ ⟨qw, qh⟩ (.slice a1 n1 c1) (.slice a2 n2 c2)) := MM.nw HM.out N2.out
          have NB : Hid (Nw w w2) := Nw.trans NW.out N2.out
          have h1296 : n1 ≤ 1296 := HLN.out.2
          have q3 := (MM.nw (W' := w2.alloc (.cells #[.int .i64 pw, .int .i64 ph, .slice none 0 0] 28)) HMB.out ((Below.refl _ _).alloc (Nat.le_refl _) _)).one.c2
          have HM2 : Hid (MM w2 w.heap.size ⟨pw, ph⟩ ⟨qw, qh⟩ (.slice a1 n1 c1) (.slice a2 n2 c2)) := HMB.out
          have HR10 : Hid (Ints w2 a1 l1) := Ints.nw HR1.out NB.out
          have HR20 : Hid (Ints w2 a2 l2) := Ints.nw HR2.out NB.out
          have hs2 : w.heap.size + 1 + 1 < w2.heap.size := HM2.out.ans.lt
          go_wp2
          go_loopw [40] (fun i wr => ∃ j : Nat, j ≤ n1 ∧ i = .int .i64 (j : Int) ∧ (∃ v, CvB w2.heap.size wr ⟨pw, ph⟩ v (mtL l1 l2 j)) ∧ Nw w2 wr) (fun i _ => n1 - (intOf i).toNat)
          case atStart => exact ⟨0, Nat.zero_le _, rfl, ⟨_, CvB.new _ _ ⟨pw, ph⟩⟩, (Below.refl _ _).alloc (Nat.le_refl _) _⟩
          case round =>
            obtain ⟨j, hj, rfl, ⟨v, hcb⟩, hw⟩ := hrel
            obtain ⟨va, vn, vc, hv⟩ := hcb.own.slice
            subst hv
            have HCB : Hid (CvB w2.heap.size wr ⟨pw, ph⟩ (.slice va vn vc) (mtL l1 l2 j)) := hcb
            have HWR : Hid (Nw w2 wr) := hw
            clear hcb hw q0 q1 q2 r0 r1 r2 z0 z1 z2 zf
            obtain ⟨⟨q0, q1, q2⟩, ⟨r0, r1, r2⟩, ⟨z0, z1, z2, zf, _⟩⟩ := MM.nw HM2.out HWR.out
            simp only at q0 q1 q2 r0 r1 r2 z0 z1 z2
            by_cases hlt : j < n1
            · obtain ⟨ga, oa, rfl, x0⟩ := Ints.at (k := j) (Ints.nw HR10.out HWR.out) (by rw [HN1.out]; exact hlt)
              obtain ⟨gb, ob, rfl, y0⟩ := Ints.at (k := j) (Ints.nw HR20.out HWR.out) (by rw [HN2.out, ← HLN.out.1]; exact hlt)
              have hx := mskB_at HB1.out j (by rw [HN1.out]; exact hlt)
              have hy := mskB_at HB2.out j (by rw [HN2.out, ← HLN.out.1]; exact hlt)
              have HE : Hid _ := mtL_step l1 l2 j
              have HLE : Hid ((mtL l1 l2 j).length ≤ 1000000) := by show _ ≤ _; rw [mtL_len]; have := HLN.out.2; omega
              have HJ : Hid (j < n2) := by show j < n2; rw [← HLN.out.1]; exact hlt
              generalize intAt l1 j = x at *
              generalize intAt l2 j = y at *
              obtain ⟨m1, m2, m3, m4⟩ := mt_wraps hx hy
              generalize mtL l1 l2 j = L at *
              go_wp2
              refine reg_change (ops' := opsOf 7 Try.f15) (by kernel_rfl) ?_
              refine IM.run ⟨w2.heap.size, w.heap.size + 1, ⟨pw, ph⟩, va, vn, vc, L, gb, ob, n2, c2, j, x, y, wr.drew, _⟩ ⟨CvB.nw HCB.out ((Below.refl _ _).drew), HLE.out, r2, HJ.out, y0, m1, m2, m3, m4, rfl, rfl, rfl, rfl, rfl⟩ wr (Kp.refl _) ?_
              rintro γ w9 ⟨w7, w8, k1, o1, y1, rfl⟩
              simp only at o1 y1 k1 ⊢
              have HPT : Hid _ := CvB.put ((CvB.nw HCB.out ((Below.refl _ _).drew)).nw k1.nw) y1 o1
              have HK1 : Hid (Nw wr w7) := Nw.trans ((Below.refl _ _).drew) k1.nw
              generalize γ 1 = v' at *
              generalize γ 0 = v0 at *
              obtain ⟨sa, sn, sc, g1⟩ := o1.slice
              subst g1
              clear o1 y1 k1 m1 m2 m3 m4 q0 q1 q2 r0 r1 r2 z0 z1 z2 zf x0 y0 HJ hx hy
              simp only [Act.put, List.setIfInBounds_toArray, List.set_cons_zero, List.set_cons_succ]
              go_wp2
              go_roundw
              case rel => exact ⟨j + 1, by omega, by go_num, ⟨_, by rw [HE.out]; exact HPT.out.1⟩, Below.trans (Nw.trans HWR.out HK1.out) (Below.mono HPT.out.2 (by omega))⟩
              case measure => simp [intOf]; omega
            · have hj2 : j = n1 := by omega
              subst hj2
              obtain ⟨b0, b1, b2, bf, bo⟩ := HCB.out
              have HBO : Hid (Ins wr (w2.heap.size + 1) (.slice va vn vc) (mtL l1 l2 j)) := bo
              simp only at b0 b1 b2
              clear bo q0 q1 q2 r0 r1 r2
              obtain ⟨y0, y1, y2⟩ := set3 wr (w.heap.size + 1 + 1) (.int .i64 pw) (.int .i64 ph) (.slice va vn vc) z0 z1 z2
              go_wp2
              refine bodyPost_ret (v := .tuple #[.agg #[.int .i64 pw, .int .i64 ph, .slice va vn vc], .bool true]) (by simp [results, Try.results15, go_sem, y0, y1, y2]) rfl ⟨_, rfl, ?_, ?_⟩
              · have hne : (Value.slice va vn vc).ownBlock ≠ some (w.heap.size + 1 + 1) := fun e => by have := (World.ownsRow.lt HBO.out _ e).1; omega
                exact (((Ins.base HBO.out (by omega)).far _ _ _ hne).far _ _ _ hne).far _ _ _ hne
              · exact (((Nw.trans NB.out HWR.out).setCell (by simp; omega) _).setCell (by simp; omega) _).setCell (by simp; omega) _
        · rw [decide_eq_false e2] at HV
          have hd2 : (ph != qh) = true := by simp [e2]
          obtain rfl := HV.out
          clear HV b1 b2 e1 e2
          simp only [Bool.false_eq_true, if_false]
          go_enter Try.func15, Try.ntmps15
          go_wp2_with fail
          rw [HW.out]
          refine Calls.mono (HG1.out _ (Ints.nw HR1.out NW.out)) ?_
          rintro e w1 ⟨rfl, k1⟩
          have N1 : Hid (Nw W w1) := k1.nw
          clear k1
          obtain ⟨⟨q0, q1, q2⟩, ⟨r0, r1, r2⟩, ⟨z0, z1, z2, zf, _⟩⟩ := MM.nw HM.out N1.out
          simp only at q0 q1 q2 r0 r1 r2 z0 z1 z2
          go_wp2_with fail
          refine Calls.mono (HG2.out _ (Ints.nw HR2.out (Nw.trans NW.out N1.out))) ?_
          rintro e w2 ⟨rfl, k2⟩
          have N2 : Hid (Nw W w2) := Nw.trans N1.out k2.nw
          clear k2 q0 q1 q2 r0 r1 r2 z0 z1 z2 zf
          obtain ⟨⟨q0, q1, q2⟩, ⟨r0, r1, r2⟩, ⟨z0, z1, z2, zf, _⟩⟩ := MM.nw HM.out N2.out
          simp only at q0 q1 q2 r0 r1 r2 z0 z1 z2
          obtain ⟨y0, y1, y2⟩ := set3 w2 (w.heap.size + 1 + 1) (.int .i64 0) (.int .i64 0) (.slice none 0 0) z0 z1 z2
          go_wp2
          refine bodyPost_ret (v := .tuple #[.agg #[.int .i64 0, .int .i64 0, .slice none 0 0], .bool false]) (by simp [results, Try.results15, go_sem, y0, y1, y2]) rfl ⟨_, rfl, Ins.nil _ _, ?_⟩
          exact (((Nw.trans NW.out N2.out).setCell (by simp; omega) _).setCell (by simp; omega) _).setCell (by simp; omega) _
      · rw [decide_eq_false e1, Bool.false_and] at HV
        have hd1 : (pw != qw) = true := by simp [e1]
        obtain rfl := HV.out
        clear HV b1 b2 e1
        simp only [Bool.false_eq_true, if_false]
        go_enter Try.func15, Try.ntmps15
        go_wp2_with fail
        rw [HW.out]
        refine Calls.mono (HG1.out _ (Ints.nw HR1.out NW.out)) ?_
        rintro e w1 ⟨rfl, k1⟩
        have N1 : Hid (Nw W w1) := k1.nw
        clear k1
        obtain ⟨⟨q0, q1, q2⟩, ⟨r0, r1, r2⟩, ⟨z0, z1, z2, zf, _⟩⟩ := MM.nw HM.out N1.out
        simp only at q0 q1 q2 r0 r1 r2 z0 z1 z2
        go_wp2_with fail
        refine Calls.mono (HG2.out _ (Ints.nw HR2.out (Nw.trans NW.out N1.out))) ?_
        rintro e w2 ⟨rfl, k2⟩
        have N2 : Hid (Nw W w2) := Nw.trans N1.out k2.nw
        clear k2 q0 q1 q2 r0 r1 r2 z0 z1 z2 zf
        obtain ⟨⟨q0, q1, q2⟩, ⟨r0, r1, r2⟩, ⟨z0, z1, z2, zf, _⟩⟩ := MM.nw HM.out N2.out
        simp only at q0 q1 q2 r0 r1 r2 z0 z1 z2
        obtain ⟨y0, y1, y2⟩ := set3 w2 (w.heap.size + 1 + 1) (.int .i64 0) (.int .i64 0) (.slice none 0 0) z0 z1 z2
        go_wp2
        refine bodyPost_ret (v := .tuple #[.agg #[.int .i64 0, .int .i64 0, .slice none 0 0], .bool false]) (by simp [results, Try.results15, go_sem, y0, y1, y2]) rfl ⟨_, rfl, Ins.nil _ _, ?_⟩
        exact (((Nw.trans NW.out N2.out).setCell (by simp; omega) _).setCell (by simp; omega) _).setCell (by simp; omega) _
set_option maxRecDepth 100000 in
set_option maxHeartbeats 4000000 in
theorem smeet (w : World) (p q : MD) (a1 a2 : Option Addr) (c1 c2 : Nat) (l1 l2 : List Int) (hl1 : l1.length ≤ 1048576) (hl2 : l2.length ≤ 1048576) (hr1 : Ints w a1 l1) (hr2 : Ints w a2 l2) :
    Calls Try.prog 33 #[mskV p (.slice a1 l1.length c1), mskV q (.slice a2 l2.length c2)] w fun e w' => ∃ v, e = .returned (.tuple #[mskV (mtD p q l1 l2) v, .bool (mtB p q l1 l2)]) ∧ Ins w' w.heap.size v (mtR p q l1 l2) ∧ Nw w w' := by
  obtain ⟨pw, ph⟩ := p
  obtain ⟨qw, qh⟩ := q
  have HG1 : Hid (∀ w : World, Ints w a1 l1 → _) := fun w h => sgoodMask w ⟨pw, ph⟩ a1 c1 l1 hl1 h
  have HG2 : Hid (∀ w : World, Ints w a2 l2 → _) := fun w h => sgoodMask w ⟨qw, qh⟩ a2 c2 l2 hl2 h
  have HR1 : Hid (Ints w a1 l1) := hr1
  have HR2 : Hid (Ints w a2 l2) := hr2
  clear hr1 hr2
  obtain ⟨W, hW⟩ : ∃ W, ((w.alloc (.cells #[.int .i64 pw, .int .i64 ph, .slice a1 l1.length c1] 28)).alloc (.cells #[.int .i64 qw, .int .i64 qh, .slice a2 l2.length c2] 28)).alloc (.cells #[.int .i64 0, .int .i64 0, .slice none 0 0] 28) = W := ⟨_, rfl⟩
  have HM : Hid (MM W w.heap.size ⟨pw, ph⟩ ⟨qw, qh⟩ (.slice a1 l1.length c1) (.slice a2 l2.length c2)) := by show MM _ _ _ _ _ _; rw [← hW]; exact MM.new w ⟨pw, ph⟩ ⟨qw, qh⟩ _ _ _ _ _
  have NW : Hid (Nw w W) := by show Nw w W; rw [← hW]; exact (((Below.refl _ _).alloc (Nat.le_refl _) _).alloc (by simp) _).alloc (by simp; omega) _
  have HW : Hid (_ = W) := hW
  clear hW
  unfold mtD mtR
  obtain ⟨V, hV⟩ : ∃ V, mtB ⟨pw, ph⟩ ⟨qw, qh⟩ l1 l2 = V := ⟨_, rfl⟩
  rw [hV]
  have HV : Hid (V = (mskB ⟨pw, ph⟩ l1 && (mskB ⟨qw, qh⟩ l2 && (decide (pw = qw) && decide (ph = qh))))) := hV.symm
  clear hV
  unfold mskV at HG1 HG2 ⊢
  simp only at HG1 HG2 ⊢
  obtain ⟨n1, hn1⟩ : ∃ n, l1.length = n := ⟨_, rfl⟩
  obtain ⟨n2, hn2⟩ : ∃ n, l2.length = n := ⟨_, rfl⟩
  have HN1 : Hid (l1.length = n1) := hn1
  have HN2 : Hid (l2.length = n2) := hn2
  rw [hn1] at HG1 HM HW hl1 ⊢
  rw [hn2] at HG2 HM HW hl2 ⊢
  clear hn1 hn2
  cases b1 : mskB ⟨pw, ph⟩ l1 with
  | false =>
    rw [b1] at HG1 HV
    rw [Bool.false_and] at HV
    obtain rfl := HV.out
    clear HV b1
    simp only [Bool.false_eq_true, if_false]
    go_enter Try.func33, Try.ntmps33
    go_wp2_with fail
    rw [HW.out]
    refine Calls.mono (HG1.out _ (Ints.nw HR1.out NW.out)) ?_
    rintro e w1 ⟨rfl, k1⟩
    have N1 : Hid (Nw W w1) := k1.nw
    clear k1
    obtain ⟨⟨q0, q1, q2⟩, ⟨r0, r1, r2⟩, ⟨z0, z1, z2, zf, _⟩⟩ := MM.nw HM.out N1.out
    simp only at q0 q1 q2 r0 r1 r2 z0 z1 z2
    obtain ⟨y0, y1, y2⟩ := set3 w1 (w.heap.size + 1 + 1) (.int .i64 0) (.int .i64 0) (.slice none 0 0) z0 z1 z2
    go_wp2
    refine bodyPost_ret (v := .tuple #[.agg #[.int .i64 0, .int .i64 0, .slice none 0 0], .bool false]) (by simp [results, Try.results33, go_sem, y0, y1, y2]) rfl ⟨_, rfl, Ins.nil _ _, ?_⟩
    exact (((Nw.trans NW.out N1.out).setCell (by simp; omega) _).setCell (by simp; omega) _).setCell (by simp; omega) _
  | true =>
    rw [b1] at HG1 HV
    rw [Bool.true_and] at HV
    cases b2 : mskB ⟨qw, qh⟩ l2 with
    | false =>
      rw [b2] at HG2 HV
      rw [Bool.false_and] at HV
      obtain rfl := HV.out
      clear HV b1 b2
      simp only [Bool.false_eq_true, if_false]
      go_enter Try.func33, Try.ntmps33
      go_wp2_with fail
      rw [HW.out]
      refine Calls.mono (HG1.out _ (Ints.nw HR1.out NW.out)) ?_
      rintro e w1 ⟨rfl, k1⟩
      have N1 : Hid (Nw W w1) := k1.nw
      clear k1
      obtain ⟨⟨q0, q1, q2⟩, ⟨r0, r1, r2⟩, ⟨z0, z1, z2, zf, _⟩⟩ := MM.nw HM.out N1.out
      simp only at q0 q1 q2 r0 r1 r2 z0 z1 z2
      go_wp2_with fail
      refine Calls.mono (HG2.out _ (Ints.nw HR2.out (Nw.trans NW.out N1.out))) ?_
      rintro e w2 ⟨rfl, k2⟩
      have N2 : Hid (Nw W w2) := Nw.trans N1.out k2.nw
      clear k2 q0 q1 q2 r0 r1 r2 z0 z1 z2 zf
      obtain ⟨⟨q0, q1, q2⟩, ⟨r0, r1, r2⟩, ⟨z0, z1, z2, zf, _⟩⟩ := MM.nw HM.out N2.out
      simp only at q0 q1 q2 r0 r1 r2 z0 z1 z2
      obtain ⟨y0, y1, y2⟩ := set3 w2 (w.heap.size + 1 + 1) (.int .i64 0) (.int .i64 0) (.slice none 0 0) z0 z1 z2
      go_wp2
      refine bodyPost_ret (v := .tuple #[.agg #[.int .i64 0, .int .i64 0, .slice none 0 0], .bool false]) (by simp [results, Try.results33, go_sem, y0, y1, y2]) rfl ⟨_, rfl, Ins.nil _ _, ?_⟩
      exact (((Nw.trans NW.out N2.out).setCell (by simp; omega) _).setCell (by simp; omega) _).setCell (by simp; omega) _
    | true =>
      rw [b2] at HG2 HV
      rw [Bool.true_and] at HV
      by_cases e1 : pw = qw
      · rw [decide_eq_true e1, Bool.true_and] at HV
        have hd1 : (pw != qw) = false := by simp [e1]
        by_cases e2 : ph = qh
        · rw [decide_eq_true e2] at HV
          have hd2 : (ph != qh) = false := by simp [e2]
          obtain rfl := HV.out
          simp only [if_true]
          have HB1 : Hid _ := b1
          have HB2 : Hid _ := b2
          have HLN : Hid (n1 = n2 ∧ n1 ≤ 1296) := by
            have h1 := (mskB_some b1).2.2.1
            have h2 := (mskB_some b2).2.2.1
            have h3 := mskB_len b1
            rw [HN1.out] at h1 h3
            rw [HN2.out] at h2
            simp only at h1 h2
            rw [e1, e2, ← h2] at h1
            exact ⟨by omega, h3⟩
          clear HV b1 b2 e1 e2
          go_enter Try.func33, Try.ntmps33
          go_wp2_with fail
          rw [HW.out]
          refine Calls.mono (HG1.out _ (Ints.nw HR1.out NW.out)) ?_
          rintro e w1 ⟨rfl, k1⟩
          have N1 : Hid (Nw W w1) := k1.nw
          clear k1
          obtain ⟨⟨q0, q1, q2⟩, ⟨r0, r1, r2⟩, ⟨z0, z1, z2, zf, _⟩⟩ := MM.nw HM.out N1.out
          simp only at q0 q1 q2 r0 r1 r2 z0 z1 z2
          go_wp2_with fail
          refine Calls.mono (HG2.out _ (Ints.nw HR2.out (Nw.trans NW.out N1.out))) ?_
          rintro e w2 ⟨rfl, k2⟩
          have N2 : Hid (Nw W w2) := Nw.trans N1.out k2.nw
          clear k2 q0 q1 q2 r0 r1 r2 z0 z1 z2 zf
          obtain ⟨⟨q0, q1, q2⟩, ⟨r0, r1, r2⟩, ⟨z0, z1, z2, zf, _⟩⟩ := MM.nw HM.out N2.out
          simp only at q0 q1 q2 r0 r1 r2 z0 z1 z2
          have HMB : Hid (MM w2 w.heap.size ⟨pw, ph⟩ ⟨qw, qh⟩ (.slice a1 n1 c1) (.slice a2 n2 c2)) := MM.nw HM.out N2.out
          have NB : Hid (Nw w w2) := Nw.trans NW.out N2.out
          have HC : Hid _ := sl11meet w2 ⟨pw, ph⟩ ⟨qw, qh⟩ a1 a2 c1 c2 l1 l2 HB1.out HB2.out (by rw [HN1.out, HN2.out]; exact HLN.out.1) (Ints.nw HR1.out NB.out) (Ints.nw HR2.out NB.out)
          unfold mskV at HC
          rw [HN1.out, HN2.out] at HC
          simp only at HC
          have hs2 : w.heap.size + 1 + 1 < w2.heap.size := HMB.out.ans.lt
          go_wp2_with fail
          refine Calls.mono HC.out ?_
          rintro e w3 ⟨v, rfl, o3, n3⟩
          obtain ⟨va, vn, vc, hv⟩ := o3.slice
          subst hv
          have N3 : Hid (Nw w2 w3) := n3
          have HBO : Hid (Ins w3 w2.heap.size (.slice va vn vc) (mtL l1 l2 n1)) := o3
          clear n3 o3 q0 q1 q2 r0 r1 r2 z0 z1 z2 zf HC
          obtain ⟨_, _, ⟨z0, z1, z2, zf, _⟩⟩ := MM.nw HMB.out N3.out
          simp only at z0 z1 z2
          obtain ⟨y0, y1, y2⟩ := set3 w3 (w.heap.size + 1 + 1) (.int .i64 pw) (.int .i64 ph) (.slice va vn vc) z0 z1 z2
          go_wp2
          refine bodyPost_ret (v := .tuple #[.agg #[.int .i64 pw, .int .i64 ph, .slice va vn vc], .bool true]) (by simp [results, Try.results33, go_sem, y0, y1, y2]) rfl ⟨_, rfl, ?_, ?_⟩
          · have hne : (Value.slice va vn vc).ownBlock ≠ some (w.heap.size + 1 + 1) := fun e => by have := (World.ownsRow.lt HBO.out _ e).1; omega
            exact (((Ins.base HBO.out (by omega)).far _ _ _ hne).far _ _ _ hne).far _ _ _ hne
          · exact (((Nw.trans NB.out N3.out).setCell (by simp; omega) _).setCell (by simp; omega) _).setCell (by simp; omega) _
        · rw [decide_eq_false e2] at HV
          have hd2 : (ph != qh) = true := by simp [e2]
          obtain rfl := HV.out
          clear HV b1 b2 e1 e2
          simp only [Bool.false_eq_true, if_false]
          go_enter Try.func33, Try.ntmps33
          go_wp2_with fail
          rw [HW.out]
          refine Calls.mono (HG1.out _ (Ints.nw HR1.out NW.out)) ?_
          rintro e w1 ⟨rfl, k1⟩
          have N1 : Hid (Nw W w1) := k1.nw
          clear k1
          obtain ⟨⟨q0, q1, q2⟩, ⟨r0, r1, r2⟩, ⟨z0, z1, z2, zf, _⟩⟩ := MM.nw HM.out N1.out
          simp only at q0 q1 q2 r0 r1 r2 z0 z1 z2
          go_wp2_with fail
          refine Calls.mono (HG2.out _ (Ints.nw HR2.out (Nw.trans NW.out N1.out))) ?_
          rintro e w2 ⟨rfl, k2⟩
          have N2 : Hid (Nw W w2) := Nw.trans N1.out k2.nw
          clear k2 q0 q1 q2 r0 r1 r2 z0 z1 z2 zf
          obtain ⟨⟨q0, q1, q2⟩, ⟨r0, r1, r2⟩, ⟨z0, z1, z2, zf, _⟩⟩ := MM.nw HM.out N2.out
          simp only at q0 q1 q2 r0 r1 r2 z0 z1 z2
          obtain ⟨y0, y1, y2⟩ := set3 w2 (w.heap.size + 1 + 1) (.int .i64 0) (.int .i64 0) (.slice none 0 0) z0 z1 z2
          go_wp2
          refine bodyPost_ret (v := .tuple #[.agg #[.int .i64 0, .int .i64 0, .slice none 0 0], .bool false]) (by simp [results, Try.results33, go_sem, y0, y1, y2]) rfl ⟨_, rfl, Ins.nil _ _, ?_⟩
          exact (((Nw.trans NW.out N2.out).setCell (by simp; omega) _).setCell (by simp; omega) _).setCell (by simp; omega) _
      · rw [decide_eq_false e1, Bool.false_and] at HV
        have hd1 : (pw != qw) = true := by simp [e1]
        obtain rfl := HV.out
        clear HV b1 b2 e1
        simp only [Bool.false_eq_true, if_false]
        go_enter Try.func33, Try.ntmps33
        go_wp2_with fail
        rw [HW.out]
        refine Calls.mono (HG1.out _ (Ints.nw HR1.out NW.out)) ?_
        rintro e w1 ⟨rfl, k1⟩
        have N1 : Hid (Nw W w1) := k1.nw
        clear k1
        obtain ⟨⟨q0, q1, q2⟩, ⟨r0, r1, r2⟩, ⟨z0, z1, z2, zf, _⟩⟩ := MM.nw HM.out N1.out
        simp only at q0 q1 q2 r0 r1 r2 z0 z1 z2
        go_wp2_with fail
        refine Calls.mono (HG2.out _ (Ints.nw HR2.out (Nw.trans NW.out N1.out))) ?_
        rintro e w2 ⟨rfl, k2⟩
        have N2 : Hid (Nw W w2) := Nw.trans N1.out k2.nw
        clear k2 q0 q1 q2 r0 r1 r2 z0 z1 z2 zf
        obtain ⟨⟨q0, q1, q2⟩, ⟨r0, r1, r2⟩, ⟨z0, z1, z2, zf, _⟩⟩ := MM.nw HM.out N2.out
        simp only at q0 q1 q2 r0 r1 r2 z0 z1 z2
        obtain ⟨y0, y1, y2⟩ := set3 w2 (w.heap.size + 1 + 1) (.int .i64 0) (.int .i64 0) (.slice none 0 0) z0 z1 z2
        go_wp2
        refine bodyPost_ret (v := .tuple #[.agg #[.int .i64 0, .int .i64 0, .slice none 0 0], .bool false]) (by simp [results, Try.results33, go_sem, y0, y1, y2]) rfl ⟨_, rfl, Ins.nil _ _, ?_⟩
        exact (((Nw.trans NW.out N2.out).setCell (by simp; omega) _).setCell (by simp; omega) _).setCell (by simp; omega) _
end Go.Proofs.Ytllljknpicmmjaa
