/-
  Sheets laid over one another, and painted, by the specification: LaySheet, PaintMask; each theorem names its conditions.
-/
import Derived.Test.YthlohbiocfeapaaLyR
namespace Go.Proofs.Ythlohbiocfeapaa
open Go.ChangeShapes Go.WideShapes Go.ChangeAt Go.RowKit
set_option linter.unusedVariables false

theorem edgs_some {w : World} {a : Option Addr} {l : List Edg} (h : Edgs w a l) (h0 : 0 < l.length) : ∃ b off, a = some ⟨b, off, none⟩ ∧ ∀ i, i < l.length → w.cell? ⟨b, off + i * 4, none⟩ = some (.int .i64 (edAt l i).ax) ∧ w.cell? ⟨b, off + i * 4 + 1, none⟩ = some (.int .i64 (edAt l i).ay) ∧ w.cell? ⟨b, off + i * 4 + 2, none⟩ = some (.int .i64 (edAt l i).bx) ∧ w.cell? ⟨b, off + i * 4 + 3, none⟩ = some (.int .i64 (edAt l i).cy) := by
  rcases h with h | ⟨b, off, rfl, _, hc⟩
  · rw [h] at h0; simp at h0
  · exact ⟨b, off, rfl, hc⟩
set_option maxRecDepth 100000 in
set_option maxHeartbeats 8000000 in
theorem slay (w : World) (d e : MD) (a1 a2 : Option Addr) (c1 c2 : Nat) (l1 l2 : List Edg) (p : Int) (hl1 : l1.length ≤ 1048576) (hl2 : l2.length ≤ 1048576) (hr1 : Edgs w a1 l1) (hr2 : Edgs w a2 l2) :
    Calls Try.prog 50 #[mskV d (.slice a1 l1.length c1), mskV e (.slice a2 l2.length c2), .int .i64 p] w fun x w' => ∃ v, x = .returned (.tuple #[mskV (lyD d e l1 l2 p) v, .bool (lyB d e l1 l2 p)]) ∧ FrQ w' w.heap.size v (lyR d e l1 l2 p) ∧ Nw w w' := by
  obtain ⟨pw, ph⟩ := d
  obtain ⟨qw, qh⟩ := e
  have H1 : Hid (∀ w : World, Edgs w a1 l1 → _) := fun w h => sgoodSh w ⟨pw, ph⟩ a1 c1 l1 hl1 h
  have H2 : Hid (∀ w : World, Edgs w a2 l2 → _) := fun w h => sgoodSh w ⟨qw, qh⟩ a2 c2 l2 hl2 h
  have H5 : Hid (∀ w : World, _) := fun w => spart w p
  have HR1 : Hid (Edgs w a1 l1) := hr1
  have HR2 : Hid (Edgs w a2 l2) := hr2
  clear hr1 hr2
  obtain ⟨W, hW⟩ : ∃ W, ((w.alloc (.cells #[.int .i64 pw, .int .i64 ph, .slice a1 l1.length c1] 57)).alloc (.cells #[.int .i64 qw, .int .i64 qh, .slice a2 l2.length c2] 57)).alloc (.cells #[.int .i64 0, .int .i64 0, .slice none 0 0] 57) = W := ⟨_, rfl⟩
  have NW : Hid (Nw w W) := by show Nw w W; rw [← hW]; exact Nw.trans (Nw.trans (QBnw _ _) (QBnw _ _)) (QBnw _ _)
  have B0 : Hid (MB W (w.heap.size) ⟨pw, ph⟩ (.slice a1 l1.length c1)) := by
    show MB W (w.heap.size) ⟨pw, ph⟩ (.slice a1 l1.length c1)
    rw [← hW]
    have := MB.new (w) ⟨pw, ph⟩ (.slice a1 l1.length c1) 57
    exact ((this.nw (QBnw _ _)).nw (QBnw _ _))
  have B1 : Hid (MB W (w.heap.size + 1) ⟨qw, qh⟩ (.slice a2 l2.length c2)) := by
    show MB W (w.heap.size + 1) ⟨qw, qh⟩ (.slice a2 l2.length c2)
    rw [← hW]
    have := MB.new ((w.alloc (.cells #[.int .i64 pw, .int .i64 ph, .slice a1 l1.length c1] 57))) ⟨qw, qh⟩ (.slice a2 l2.length c2) 57
    simp only [World.size_alloc] at this
    exact (this.nw (QBnw _ _))
  have B2 : Hid (CvQ (w.heap.size + 1 + 1) W ⟨0, 0⟩ (.slice none 0 0) []) := by
    show CvQ (w.heap.size + 1 + 1) W ⟨0, 0⟩ (.slice none 0 0) []
    rw [← hW]
    have := CvQ.new (((w.alloc (.cells #[.int .i64 pw, .int .i64 ph, .slice a1 l1.length c1] 57)).alloc (.cells #[.int .i64 qw, .int .i64 qh, .slice a2 l2.length c2] 57))) 57 ⟨0, 0⟩
    simp only [World.size_alloc] at this
    exact this
  have HW : Hid (_ = W) := hW
  clear hW
  unfold lyD lyR
  obtain ⟨V, hV⟩ : ∃ V, lyB ⟨pw, ph⟩ ⟨qw, qh⟩ l1 l2 p = V := ⟨_, rfl⟩
  rw [hV]
  have HV : Hid (V = (shB ⟨pw, ph⟩ l1 && (shB ⟨qw, qh⟩ l2 && (decide (pw = qw) && (decide (ph = qh) && inN p 0 256))))) := hV.symm
  clear hV
  unfold mskV at H1 H2 ⊢
  simp only at H1 H2 ⊢
  obtain ⟨n1, hn1⟩ : ∃ n, l1.length = n := ⟨_, rfl⟩
  obtain ⟨n2, hn2⟩ : ∃ n, l2.length = n := ⟨_, rfl⟩
  have HN1 : Hid (l1.length = n1) := hn1
  have HN2 : Hid (l2.length = n2) := hn2
  rw [hn1] at H1 B0 HW hl1 ⊢
  rw [hn2] at H2 B1 HW hl2 ⊢
  clear hn1 hn2
  have HBX : Hid (∀ w1, Nw W w1 → MB w1 w.heap.size ⟨pw, ph⟩ (.slice a1 n1 c1) ∧ MB w1 (w.heap.size + 1) ⟨qw, qh⟩ (.slice a2 n2 c2) ∧ CvQ (w.heap.size + 1 + 1) w1 ⟨0, 0⟩ (.slice none 0 0) []) := fun w1 k => ⟨MB.nw B0.out k, MB.nw B1.out k, CvQ.nw B2.out k⟩
  cases b1 : shB ⟨pw, ph⟩ l1 with
  | false =>
    rw [b1] at H1 HV
    rw [Bool.false_and] at HV
    obtain rfl := HV.out
    clear HV b1
    simp only [Bool.false_eq_true, if_false]
    go_enter Try.func50, Try.ntmps50
    go_wp2_with fail
    rw [HW.out]
    refine Calls.mono (H1.out _ (Edgs.nw HR1.out NW.out)) ?_
    rintro e w1 ⟨rfl, k1⟩
    have N1 : Hid (Nw W w1) := k1.nw
    clear k1
    obtain ⟨⟨q0, q1, q2⟩, ⟨r0, r1, r2⟩, ⟨z0, z1, z2, zf, _⟩⟩ := HBX.out _ N1.out
    simp only at q0 q1 q2 r0 r1 r2 z0 z1 z2
    obtain ⟨y0, y1, y2⟩ := set3 w1 (w.heap.size + 1 + 1) (.int .i64 0) (.int .i64 0) (.slice none 0 0) z0 z1 z2
    go_wp2
    refine bodyPost_ret (v := .tuple #[.agg #[.int .i64 0, .int .i64 0, .slice none 0 0], .bool false]) (by simp [results, Try.results50, go_sem, y0, y1, y2]) rfl ⟨_, rfl, FrQ.nil _ _, ?_⟩
    exact (((Nw.trans NW.out N1.out).setCell (by simp; omega) _).setCell (by simp; omega) _).setCell (by simp; omega) _
  | true =>
    rw [b1] at H1 HV
    rw [Bool.true_and] at HV
    cases b2 : shB ⟨qw, qh⟩ l2 with
    | false =>
      rw [b2] at H2 HV
      rw [Bool.false_and] at HV
      obtain rfl := HV.out
      clear HV b1 b2
      simp only [Bool.false_eq_true, if_false]
      go_enter Try.func50, Try.ntmps50
      go_wp2_with fail
      rw [HW.out]
      refine Calls.mono (H1.out _ (Edgs.nw HR1.out NW.out)) ?_
      rintro e w1 ⟨rfl, k1⟩
      have N1 : Hid (Nw W w1) := k1.nw
      clear k1
      obtain ⟨⟨q0, q1, q2⟩, ⟨r0, r1, r2⟩, ⟨z0, z1, z2, zf, _⟩⟩ := HBX.out _ N1.out
      simp only at q0 q1 q2 r0 r1 r2 z0 z1 z2
      go_wp2_with fail
      refine Calls.mono (H2.out _ (Edgs.nw HR2.out (Nw.trans NW.out N1.out))) ?_
      rintro e w2 ⟨rfl, k2⟩
      have N2 : Hid (Nw W w2) := Nw.trans N1.out k2.nw
      clear k2 q0 q1 q2 r0 r1 r2 z0 z1 z2 zf
      obtain ⟨⟨q0, q1, q2⟩, ⟨r0, r1, r2⟩, ⟨z0, z1, z2, zf, _⟩⟩ := HBX.out _ N2.out
      simp only at q0 q1 q2 r0 r1 r2 z0 z1 z2
      obtain ⟨y0, y1, y2⟩ := set3 w2 (w.heap.size + 1 + 1) (.int .i64 0) (.int .i64 0) (.slice none 0 0) z0 z1 z2
      go_wp2
      refine bodyPost_ret (v := .tuple #[.agg #[.int .i64 0, .int .i64 0, .slice none 0 0], .bool false]) (by simp [results, Try.results50, go_sem, y0, y1, y2]) rfl ⟨_, rfl, FrQ.nil _ _, ?_⟩
      exact (((Nw.trans NW.out N2.out).setCell (by simp; omega) _).setCell (by simp; omega) _).setCell (by simp; omega) _
    | true =>
      rw [b2] at H2 HV
      rw [Bool.true_and] at HV
      by_cases e1 : pw = qw
      · rw [decide_eq_true e1, Bool.true_and] at HV
        have hd1 : (pw != qw) = false := by simp [e1]
        by_cases e2 : ph = qh
        · rw [decide_eq_true e2, Bool.true_and] at HV
          have hd2 : (ph != qh) = false := by simp [e2]
          cases b5 : inN p 0 256 with
          | false =>
            rw [b5] at H5 HV
            obtain rfl := HV.out
            clear HV b1 b2 b5 e1 e2
            simp only [Bool.false_eq_true, if_false]
            go_enter Try.func50, Try.ntmps50
            go_wp2_with fail
            rw [HW.out]
            refine Calls.mono (H1.out _ (Edgs.nw HR1.out NW.out)) ?_
            rintro e w1 ⟨rfl, k1⟩
            have N1 : Hid (Nw W w1) := k1.nw
            clear k1
            obtain ⟨⟨q0, q1, q2⟩, ⟨r0, r1, r2⟩, ⟨z0, z1, z2, zf, _⟩⟩ := HBX.out _ N1.out
            simp only at q0 q1 q2 r0 r1 r2 z0 z1 z2
            go_wp2_with fail
            refine Calls.mono (H2.out _ (Edgs.nw HR2.out (Nw.trans NW.out N1.out))) ?_
            rintro e w2 ⟨rfl, k2⟩
            have N2 : Hid (Nw W w2) := Nw.trans N1.out k2.nw
            clear k2 q0 q1 q2 r0 r1 r2 z0 z1 z2 zf
            obtain ⟨⟨q0, q1, q2⟩, ⟨r0, r1, r2⟩, ⟨z0, z1, z2, zf, _⟩⟩ := HBX.out _ N2.out
            simp only at q0 q1 q2 r0 r1 r2 z0 z1 z2
            go_wp2_with fail
            refine Calls.mono (H5.out _) ?_
            rintro e w3 ⟨rfl, k3⟩
            have N3 : Hid (Nw W w3) := by rw [k3]; exact N2.out
            clear k3 q0 q1 q2 r0 r1 r2 z0 z1 z2 zf
            obtain ⟨⟨q0, q1, q2⟩, ⟨r0, r1, r2⟩, ⟨z0, z1, z2, zf, _⟩⟩ := HBX.out _ N3.out
            simp only at q0 q1 q2 r0 r1 r2 z0 z1 z2
            obtain ⟨y0, y1, y2⟩ := set3 w3 (w.heap.size + 1 + 1) (.int .i64 0) (.int .i64 0) (.slice none 0 0) z0 z1 z2
            go_wp2
            refine bodyPost_ret (v := .tuple #[.agg #[.int .i64 0, .int .i64 0, .slice none 0 0], .bool false]) (by simp [results, Try.results50, go_sem, y0, y1, y2]) rfl ⟨_, rfl, FrQ.nil _ _, ?_⟩
            exact (((Nw.trans NW.out N3.out).setCell (by simp; omega) _).setCell (by simp; omega) _).setCell (by simp; omega) _
          | true =>
            rw [b5] at H5 HV
            obtain rfl := HV.out
            simp only [if_true]
            have HB1 : Hid _ := b1
            have HB2 : Hid _ := b2
            have HP : Hid (0 ≤ p ∧ p ≤ 256) := by show _ ∧ _; have := b5; unfold inN at this; simpa using this
            have HLN : Hid (n1 = n2 ∧ n1 ≤ 1296) := by
              have h1 := (shB_some b1).2.2.1
              have h2 := (shB_some b2).2.2.1
              have h3 := shB_len b1
              rw [HN1.out] at h1 h3
              rw [HN2.out] at h2
              simp only at h1 h2
              rw [e1, e2, ← h2] at h1
              exact ⟨by omega, h3⟩
            clear HV b1 b2 b5 e1 e2
            go_enter Try.func50, Try.ntmps50
            go_wp2_with fail
            rw [HW.out]
            refine Calls.mono (H1.out _ (Edgs.nw HR1.out NW.out)) ?_
            rintro e w1 ⟨rfl, k1⟩
            have N1 : Hid (Nw W w1) := k1.nw
            clear k1
            obtain ⟨⟨q0, q1, q2⟩, ⟨r0, r1, r2⟩, ⟨z0, z1, z2, zf, _⟩⟩ := HBX.out _ N1.out
            simp only at q0 q1 q2 r0 r1 r2 z0 z1 z2
            go_wp2_with fail
            refine Calls.mono (H2.out _ (Edgs.nw HR2.out (Nw.trans NW.out N1.out))) ?_
            rintro e w2 ⟨rfl, k2⟩
            have N2 : Hid (Nw W w2) := Nw.trans N1.out k2.nw
            clear k2 q0 q1 q2 r0 r1 r2 z0 z1 z2 zf
            obtain ⟨⟨q0, q1, q2⟩, ⟨r0, r1, r2⟩, ⟨z0, z1, z2, zf, _⟩⟩ := HBX.out _ N2.out
            simp only at q0 q1 q2 r0 r1 r2 z0 z1 z2
            go_wp2_with fail
            refine Calls.mono (H5.out _) ?_
            rintro e w3 ⟨rfl, k3⟩
            have N3 : Hid (Nw W w3) := by rw [k3]; exact N2.out
            clear k3 q0 q1 q2 r0 r1 r2 z0 z1 z2 zf
            obtain ⟨⟨q0, q1, q2⟩, ⟨r0, r1, r2⟩, ⟨z0, z1, z2, zf, _⟩⟩ := HBX.out _ N3.out
            simp only at q0 q1 q2 r0 r1 r2 z0 z1 z2
            have NB : Hid (Nw w w3) := Nw.trans NW.out N3.out
            have HR10 : Hid (Edgs w3 a1 l1) := Edgs.nw HR1.out NB.out
            have HR20 : Hid (Edgs w3 a2 l2) := Edgs.nw HR2.out NB.out
            have h1296 : n1 ≤ 1296 := HLN.out.2
            have hs2 : w.heap.size + 1 + 1 < w3.heap.size := (HBX.out _ N3.out).2.2.lt
            have q3 := (HBX.out (w3.alloc (.cells #[.int .i64 pw, .int .i64 ph, .slice none 0 0] 57)) (Nw.trans N3.out (QBnw _ _))).1.c2
            go_wp2
            go_loopw [47] (fun i wr => ∃ j : Nat, j ≤ n1 ∧ i = .int .i64 (j : Int) ∧ (∃ v, CvQ w3.heap.size wr ⟨pw, ph⟩ v (lyL l1 l2 p j)) ∧ Nw w3 wr) (fun i _ => n1 - (intOf i).toNat)
            case atStart => exact ⟨0, Nat.zero_le _, rfl, ⟨_, CvQ.new _ _ ⟨pw, ph⟩⟩, QBnw _ _⟩
            case round =>
              obtain ⟨j, hj, rfl, ⟨v, hcb⟩, hw⟩ := hrel
              obtain ⟨va, vn, vc, hv⟩ := hcb.own.slice
              subst hv
              have HCB : Hid (CvQ w3.heap.size wr ⟨pw, ph⟩ (.slice va vn vc) (lyL l1 l2 p j)) := hcb
              have HWR : Hid (Nw w3 wr) := hw
              clear hcb hw q0 q1 q2 r0 r1 r2 z0 z1 z2 zf q3
              obtain ⟨⟨q0, q1, q2⟩, ⟨r0, r1, r2⟩, ⟨z0, z1, z2, zf, _⟩⟩ := HBX.out _ (Nw.trans N3.out HWR.out)
              simp only at q0 q1 q2 r0 r1 r2 z0 z1 z2
              by_cases hlt : j < n1
              · obtain ⟨ga, oa, rfl, hca⟩ := edgs_some (Edgs.nw HR10.out HWR.out) (show 0 < l1.length by rw [HN1.out]; omega)
                obtain ⟨x0, x1, x2, x3⟩ := hca j (by rw [HN1.out]; exact hlt)
                have hx := ok8_of (shB_at HB1.out j (by rw [HN1.out]; exact hlt))
                obtain ⟨gb, ob, rfl, hcc⟩ := edgs_some (Edgs.nw HR20.out HWR.out) (show 0 < l2.length by rw [HN2.out, ← HLN.out.1]; omega)
                obtain ⟨y0, y1, y2, y3⟩ := hcc j (by rw [HN2.out, ← HLN.out.1]; exact hlt)
                have hy := ok8_of (shB_at HB2.out j (by rw [HN2.out, ← HLN.out.1]; exact hlt))
                have HE : Hid _ := lyL_step l1 l2 p j
                have HLE : Hid ((lyL l1 l2 p j).length ≤ 1000000) := by show _ ≤ _; rw [lyL_len]; have := HLN.out.2; omega
                have HJ : Hid (j < n2) := by show j < n2; rw [← HLN.out.1]; exact hlt
                unfold lyF at HE
                generalize edAt l1 j = x at *
                generalize edAt l2 j = y at *
                generalize lyL l1 l2 p j = L at *
                obtain ⟨u0, u1, u2, u3⟩ := x
                obtain ⟨t0, t1, t2, t3⟩ := y
                simp only at x0 x1 x2 x3 hx HE y0 y1 y2 y3 hy
                clear hca hcc
                go_wp2
                obtain ⟨W2, hW2⟩ : ∃ W2, wr.alloc (.cells #[.int .i64 u0, .int .i64 u1, .int .i64 u2, .int .i64 u3] 24) = W2 := ⟨_, rfl⟩
                have PU : Hid (QB W2 wr.heap.size ⟨u0, u1, u2, u3⟩) := by show QB _ _ _; rw [← hW2]; exact QB.new wr ⟨u0, u1, u2, u3⟩ _
                have N2d : Hid (Nw wr W2.drew) := by show Nw wr W2.drew; rw [← hW2]; exact (QBnw _ _).drew
                rw [hW2]
                clear hW2
                obtain ⟨s0, s1, s2, s3, _⟩ := QB.nw PU.out ((Below.refl _ _).drew : Nw W2 W2.drew)
                have cc := (HBX.out _ (Nw.trans N3.out (Nw.trans HWR.out N2d.out))).2.1.c2
                have hgl : gb < wr.heap.size := World.block_lt_of_cell? wr ⟨gb, _, none⟩ y0
                replace y0 := ((bcell N2d.out).1 _ _ hgl).trans y0
                replace y1 := ((bcell N2d.out).1 _ _ hgl).trans y1
                replace y2 := ((bcell N2d.out).1 _ _ hgl).trans y2
                replace y3 := ((bcell N2d.out).1 _ _ hgl).trans y3
                refine reg_change (ops' := opsOf 7 Try.f50) (by kernel_rfl) ?_
                refine LA.run ⟨w3.heap.size, w.heap.size + 1, wr.heap.size, p, ⟨pw, ph⟩, va, vn, vc, L, gb, ob, n2, c2, j, t0, t1, t2, t3, u0, u1, u2, u3, W2.drew, _⟩ ⟨CvQ.nw HCB.out N2d.out, HLE.out, cc, HJ.out, y0, y1, y2, y3, s0, s1, s2, s3, hy, hx, HP.out, rfl, rfl, rfl, rfl, rfl, rfl⟩ W2 (Kp.refl _) ?_
                rintro γ w9 ⟨w7, w8, k1, o1, y1', rfl⟩
                simp only at o1 y1' k1 ⊢
                have HPT : Hid _ := CvQ.put ((CvQ.nw HCB.out N2d.out).nw k1.nw) y1' o1
                have HK1 : Hid (Nw wr w7) := Nw.trans N2d.out k1.nw
                generalize γ 1 = v' at *
                generalize γ 0 = v0 at *
                obtain ⟨sa, sn, sc, g1⟩ := o1.slice
                subst g1
                clear o1 y1' k1 q0 q1 q2 r0 r1 r2 z0 z1 z2 zf x0 x1 x2 x3 hx s0 s1 s2 s3 cc y0 y1 y2 y3 hy hgl HJ
                simp only [Act.put, List.setIfInBounds_toArray, List.set_cons_zero, List.set_cons_succ]
                go_wp2
                go_roundw
                case rel => exact ⟨j + 1, by omega, by go_num, ⟨_, by rw [HE.out]; exact HPT.out.1⟩, Below.trans (Nw.trans HWR.out HK1.out) HPT.out.2⟩
                case measure => simp [intOf]; omega
              · have hj2 : j = n1 := by omega
                subst hj2
                obtain ⟨b0, b1, b2, bf, bo⟩ := HCB.out
                have HBO : Hid (OwnE 24 wr (w3.heap.size + 1) (.slice va vn vc) (lyL l1 l2 p j)) := bo
                simp only at b0 b1 b2
                clear bo q0 q1 q2 r0 r1 r2
                obtain ⟨y0, y1, y2⟩ := set3 wr (w.heap.size + 1 + 1) (.int .i64 pw) (.int .i64 ph) (.slice va vn vc) z0 z1 z2
                go_wp2
                refine bodyPost_ret (v := .tuple #[.agg #[.int .i64 pw, .int .i64 ph, .slice va vn vc], .bool true]) (by simp [results, Try.results50, go_sem, y0, y1, y2]) rfl ⟨_, rfl, ?_, ?_⟩
                · have hne : (Value.slice va vn vc).ownBlock ≠ some (w.heap.size + 1 + 1) := fun e => by have := (OwnE.lt HBO.out _ e).1; omega
                  exact OwnE.fr ((((OwnE.base HBO.out (by omega)).far _ _ _ hne).far _ _ _ hne).far _ _ _ hne)
                · exact (((Nw.trans NB.out HWR.out).setCell (by simp; omega) _).setCell (by simp; omega) _).setCell (by simp; omega) _
        · rw [decide_eq_false e2, Bool.false_and] at HV
          have hd2 : (ph != qh) = true := by simp [e2]
          obtain rfl := HV.out
          clear HV b1 b2 e1 e2
          simp only [Bool.false_eq_true, if_false]
          go_enter Try.func50, Try.ntmps50
          go_wp2_with fail
          rw [HW.out]
          refine Calls.mono (H1.out _ (Edgs.nw HR1.out NW.out)) ?_
          rintro e w1 ⟨rfl, k1⟩
          have N1 : Hid (Nw W w1) := k1.nw
          clear k1
          obtain ⟨⟨q0, q1, q2⟩, ⟨r0, r1, r2⟩, ⟨z0, z1, z2, zf, _⟩⟩ := HBX.out _ N1.out
          simp only at q0 q1 q2 r0 r1 r2 z0 z1 z2
          go_wp2_with fail
          refine Calls.mono (H2.out _ (Edgs.nw HR2.out (Nw.trans NW.out N1.out))) ?_
          rintro e w2 ⟨rfl, k2⟩
          have N2 : Hid (Nw W w2) := Nw.trans N1.out k2.nw
          clear k2 q0 q1 q2 r0 r1 r2 z0 z1 z2 zf
          obtain ⟨⟨q0, q1, q2⟩, ⟨r0, r1, r2⟩, ⟨z0, z1, z2, zf, _⟩⟩ := HBX.out _ N2.out
          simp only at q0 q1 q2 r0 r1 r2 z0 z1 z2
          obtain ⟨y0, y1, y2⟩ := set3 w2 (w.heap.size + 1 + 1) (.int .i64 0) (.int .i64 0) (.slice none 0 0) z0 z1 z2
          go_wp2
          refine bodyPost_ret (v := .tuple #[.agg #[.int .i64 0, .int .i64 0, .slice none 0 0], .bool false]) (by simp [results, Try.results50, go_sem, y0, y1, y2]) rfl ⟨_, rfl, FrQ.nil _ _, ?_⟩
          exact (((Nw.trans NW.out N2.out).setCell (by simp; omega) _).setCell (by simp; omega) _).setCell (by simp; omega) _
      · rw [decide_eq_false e1, Bool.false_and] at HV
        have hd1 : (pw != qw) = true := by simp [e1]
        obtain rfl := HV.out
        clear HV b1 b2 e1
        simp only [Bool.false_eq_true, if_false]
        go_enter Try.func50, Try.ntmps50
        go_wp2_with fail
        rw [HW.out]
        refine Calls.mono (H1.out _ (Edgs.nw HR1.out NW.out)) ?_
        rintro e w1 ⟨rfl, k1⟩
        have N1 : Hid (Nw W w1) := k1.nw
        clear k1
        obtain ⟨⟨q0, q1, q2⟩, ⟨r0, r1, r2⟩, ⟨z0, z1, z2, zf, _⟩⟩ := HBX.out _ N1.out
        simp only at q0 q1 q2 r0 r1 r2 z0 z1 z2
        go_wp2_with fail
        refine Calls.mono (H2.out _ (Edgs.nw HR2.out (Nw.trans NW.out N1.out))) ?_
        rintro e w2 ⟨rfl, k2⟩
        have N2 : Hid (Nw W w2) := Nw.trans N1.out k2.nw
        clear k2 q0 q1 q2 r0 r1 r2 z0 z1 z2 zf
        obtain ⟨⟨q0, q1, q2⟩, ⟨r0, r1, r2⟩, ⟨z0, z1, z2, zf, _⟩⟩ := HBX.out _ N2.out
        simp only at q0 q1 q2 r0 r1 r2 z0 z1 z2
        obtain ⟨y0, y1, y2⟩ := set3 w2 (w.heap.size + 1 + 1) (.int .i64 0) (.int .i64 0) (.slice none 0 0) z0 z1 z2
        go_wp2
        refine bodyPost_ret (v := .tuple #[.agg #[.int .i64 0, .int .i64 0, .slice none 0 0], .bool false]) (by simp [results, Try.results50, go_sem, y0, y1, y2]) rfl ⟨_, rfl, FrQ.nil _ _, ?_⟩
        exact (((Nw.trans NW.out N2.out).setCell (by simp; omega) _).setCell (by simp; omega) _).setCell (by simp; omega) _
set_option maxRecDepth 100000 in
set_option maxHeartbeats 8000000 in
theorem spaint (w : World) (d e : MD) (a1 a2 : Option Addr) (c1 c2 : Nat) (l1 : List Edg) (l2 : List Int) (t : Edg) (hl1 : l1.length ≤ 1048576) (hl2 : l2.length ≤ 1048576) (hr1 : Edgs w a1 l1) (hr2 : Ints w a2 l2) :
    Calls Try.prog 45 #[mskV d (.slice a1 l1.length c1), mskV e (.slice a2 l2.length c2), edV t] w fun x w' => ∃ v, x = .returned (.tuple #[mskV (pmD d e l1 l2 t) v, .bool (pmB d e l1 l2 t)]) ∧ FrQ w' w.heap.size v (pmR d e l1 l2 t) ∧ Nw w w' := by
  obtain ⟨pw, ph⟩ := d
  obtain ⟨qw, qh⟩ := e
  obtain ⟨tr, tg, tb, ta⟩ := t
  have H1 : Hid (∀ w : World, Edgs w a1 l1 → _) := fun w h => sgoodSh w ⟨pw, ph⟩ a1 c1 l1 hl1 h
  have H2 : Hid (∀ w : World, Ints w a2 l2 → _) := fun w h => sgoodMask w ⟨qw, qh⟩ a2 c2 l2 hl2 h
  have H5 : Hid (∀ w : World, _) := fun w => sgoodTn w ⟨tr, tg, tb, ta⟩
  have HR1 : Hid (Edgs w a1 l1) := hr1
  have HR2 : Hid (Ints w a2 l2) := hr2
  clear hr1 hr2
  obtain ⟨W, hW⟩ : ∃ W, (((w.alloc (.cells #[.int .i64 pw, .int .i64 ph, .slice a1 l1.length c1] 57)).alloc (.cells #[.int .i64 qw, .int .i64 qh, .slice a2 l2.length c2] 75)).alloc (.cells #[.int .i64 tr, .int .i64 tg, .int .i64 tb, .int .i64 ta] 24)).alloc (.cells #[.int .i64 0, .int .i64 0, .slice none 0 0] 57) = W := ⟨_, rfl⟩
  have NW : Hid (Nw w W) := by show Nw w W; rw [← hW]; exact Nw.trans (Nw.trans (Nw.trans (QBnw _ _) (QBnw _ _)) (QBnw _ _)) (QBnw _ _)
  have B0 : Hid (MB W (w.heap.size) ⟨pw, ph⟩ (.slice a1 l1.length c1)) := by
    show MB W (w.heap.size) ⟨pw, ph⟩ (.slice a1 l1.length c1)
    rw [← hW]
    have := MB.new (w) ⟨pw, ph⟩ (.slice a1 l1.length c1) 57
    exact (((this.nw (QBnw _ _)).nw (QBnw _ _)).nw (QBnw _ _))
  have B1 : Hid (MB W (w.heap.size + 1) ⟨qw, qh⟩ (.slice a2 l2.length c2)) := by
    show MB W (w.heap.size + 1) ⟨qw, qh⟩ (.slice a2 l2.length c2)
    rw [← hW]
    have := MB.new ((w.alloc (.cells #[.int .i64 pw, .int .i64 ph, .slice a1 l1.length c1] 57))) ⟨qw, qh⟩ (.slice a2 l2.length c2) 75
    simp only [World.size_alloc] at this
    exact ((this.nw (QBnw _ _)).nw (QBnw _ _))
  have B2 : Hid (QB W (w.heap.size + 1 + 1) ⟨tr, tg, tb, ta⟩) := by
    show QB W (w.heap.size + 1 + 1) ⟨tr, tg, tb, ta⟩
    rw [← hW]
    have := QB.new (((w.alloc (.cells #[.int .i64 pw, .int .i64 ph, .slice a1 l1.length c1] 57)).alloc (.cells #[.int .i64 qw, .int .i64 qh, .slice a2 l2.length c2] 75))) ⟨tr, tg, tb, ta⟩ 24
    simp only [World.size_alloc] at this
    exact (this.nw (QBnw _ _))
  have B3 : Hid (CvQ (w.heap.size + 1 + 1 + 1) W ⟨0, 0⟩ (.slice none 0 0) []) := by
    show CvQ (w.heap.size + 1 + 1 + 1) W ⟨0, 0⟩ (.slice none 0 0) []
    rw [← hW]
    have := CvQ.new ((((w.alloc (.cells #[.int .i64 pw, .int .i64 ph, .slice a1 l1.length c1] 57)).alloc (.cells #[.int .i64 qw, .int .i64 qh, .slice a2 l2.length c2] 75)).alloc (.cells #[.int .i64 tr, .int .i64 tg, .int .i64 tb, .int .i64 ta] 24))) 57 ⟨0, 0⟩
    simp only [World.size_alloc] at this
    exact this
  have HW : Hid (_ = W) := hW
  clear hW
  unfold pmD pmR
  obtain ⟨V, hV⟩ : ∃ V, pmB ⟨pw, ph⟩ ⟨qw, qh⟩ l1 l2 ⟨tr, tg, tb, ta⟩ = V := ⟨_, rfl⟩
  rw [hV]
  have HV : Hid (V = (shB ⟨pw, ph⟩ l1 && (mskB ⟨qw, qh⟩ l2 && (decide (pw = qw) && (decide (ph = qh) && tnB ⟨tr, tg, tb, ta⟩))))) := hV.symm
  clear hV
  unfold mskV at H1 H2 ⊢
  unfold edV at H5 ⊢
  simp only at H1 H2 H5 ⊢
  obtain ⟨n1, hn1⟩ : ∃ n, l1.length = n := ⟨_, rfl⟩
  obtain ⟨n2, hn2⟩ : ∃ n, l2.length = n := ⟨_, rfl⟩
  have HN1 : Hid (l1.length = n1) := hn1
  have HN2 : Hid (l2.length = n2) := hn2
  rw [hn1] at H1 B0 HW hl1 ⊢
  rw [hn2] at H2 B1 HW hl2 ⊢
  clear hn1 hn2
  have HBX : Hid (∀ w1, Nw W w1 → MB w1 w.heap.size ⟨pw, ph⟩ (.slice a1 n1 c1) ∧ MB w1 (w.heap.size + 1) ⟨qw, qh⟩ (.slice a2 n2 c2) ∧ QB w1 (w.heap.size + 1 + 1) ⟨tr, tg, tb, ta⟩ ∧ CvQ (w.heap.size + 1 + 1 + 1) w1 ⟨0, 0⟩ (.slice none 0 0) []) := fun w1 k => ⟨MB.nw B0.out k, MB.nw B1.out k, QB.nw B2.out k, CvQ.nw B3.out k⟩
  cases b1 : shB ⟨pw, ph⟩ l1 with
  | false =>
    rw [b1] at H1 HV
    rw [Bool.false_and] at HV
    obtain rfl := HV.out
    clear HV b1
    simp only [Bool.false_eq_true, if_false]
    go_enter Try.func45, Try.ntmps45
    go_wp2_with fail
    rw [HW.out]
    refine Calls.mono (H1.out _ (Edgs.nw HR1.out NW.out)) ?_
    rintro e w1 ⟨rfl, k1⟩
    have N1 : Hid (Nw W w1) := k1.nw
    clear k1
    obtain ⟨⟨q0, q1, q2⟩, ⟨r0, r1, r2⟩, ⟨t0, t1, t2, t3, _⟩, ⟨z0, z1, z2, zf, _⟩⟩ := HBX.out _ N1.out
    simp only at q0 q1 q2 r0 r1 r2 t0 t1 t2 t3 z0 z1 z2
    obtain ⟨y0, y1, y2⟩ := set3 w1 (w.heap.size + 1 + 1 + 1) (.int .i64 0) (.int .i64 0) (.slice none 0 0) z0 z1 z2
    go_wp2
    refine bodyPost_ret (v := .tuple #[.agg #[.int .i64 0, .int .i64 0, .slice none 0 0], .bool false]) (by simp [results, Try.results45, go_sem, y0, y1, y2]) rfl ⟨_, rfl, FrQ.nil _ _, ?_⟩
    exact (((Nw.trans NW.out N1.out).setCell (by simp; omega) _).setCell (by simp; omega) _).setCell (by simp; omega) _
  | true =>
    rw [b1] at H1 HV
    rw [Bool.true_and] at HV
    cases b2 : mskB ⟨qw, qh⟩ l2 with
    | false =>
      rw [b2] at H2 HV
      rw [Bool.false_and] at HV
      obtain rfl := HV.out
      clear HV b1 b2
      simp only [Bool.false_eq_true, if_false]
      go_enter Try.func45, Try.ntmps45
      go_wp2_with fail
      rw [HW.out]
      refine Calls.mono (H1.out _ (Edgs.nw HR1.out NW.out)) ?_
      rintro e w1 ⟨rfl, k1⟩
      have N1 : Hid (Nw W w1) := k1.nw
      clear k1
      obtain ⟨⟨q0, q1, q2⟩, ⟨r0, r1, r2⟩, ⟨t0, t1, t2, t3, _⟩, ⟨z0, z1, z2, zf, _⟩⟩ := HBX.out _ N1.out
      simp only at q0 q1 q2 r0 r1 r2 t0 t1 t2 t3 z0 z1 z2
      go_wp2_with fail
      refine Calls.mono (H2.out _ (Ints.nw HR2.out (Nw.trans NW.out N1.out))) ?_
      rintro e w2 ⟨rfl, k2⟩
      have N2 : Hid (Nw W w2) := Nw.trans N1.out k2.nw
      clear k2 q0 q1 q2 r0 r1 r2 t0 t1 t2 t3 z0 z1 z2 zf
      obtain ⟨⟨q0, q1, q2⟩, ⟨r0, r1, r2⟩, ⟨t0, t1, t2, t3, _⟩, ⟨z0, z1, z2, zf, _⟩⟩ := HBX.out _ N2.out
      simp only at q0 q1 q2 r0 r1 r2 t0 t1 t2 t3 z0 z1 z2
      obtain ⟨y0, y1, y2⟩ := set3 w2 (w.heap.size + 1 + 1 + 1) (.int .i64 0) (.int .i64 0) (.slice none 0 0) z0 z1 z2
      go_wp2
      refine bodyPost_ret (v := .tuple #[.agg #[.int .i64 0, .int .i64 0, .slice none 0 0], .bool false]) (by simp [results, Try.results45, go_sem, y0, y1, y2]) rfl ⟨_, rfl, FrQ.nil _ _, ?_⟩
      exact (((Nw.trans NW.out N2.out).setCell (by simp; omega) _).setCell (by simp; omega) _).setCell (by simp; omega) _
    | true =>
      rw [b2] at H2 HV
      rw [Bool.true_and] at HV
      by_cases e1 : pw = qw
      · rw [decide_eq_true e1, Bool.true_and] at HV
        have hd1 : (pw != qw) = false := by simp [e1]
        by_cases e2 : ph = qh
        · rw [decide_eq_true e2, Bool.true_and] at HV
          have hd2 : (ph != qh) = false := by simp [e2]
          cases b5 : tnB ⟨tr, tg, tb, ta⟩ with
          | false =>
            rw [b5] at H5 HV
            obtain rfl := HV.out
            clear HV b1 b2 b5 e1 e2
            simp only [Bool.false_eq_true, if_false]
            go_enter Try.func45, Try.ntmps45
            go_wp2_with fail
            rw [HW.out]
            refine Calls.mono (H1.out _ (Edgs.nw HR1.out NW.out)) ?_
            rintro e w1 ⟨rfl, k1⟩
            have N1 : Hid (Nw W w1) := k1.nw
            clear k1
            obtain ⟨⟨q0, q1, q2⟩, ⟨r0, r1, r2⟩, ⟨t0, t1, t2, t3, _⟩, ⟨z0, z1, z2, zf, _⟩⟩ := HBX.out _ N1.out
            simp only at q0 q1 q2 r0 r1 r2 t0 t1 t2 t3 z0 z1 z2
            go_wp2_with fail
            refine Calls.mono (H2.out _ (Ints.nw HR2.out (Nw.trans NW.out N1.out))) ?_
            rintro e w2 ⟨rfl, k2⟩
            have N2 : Hid (Nw W w2) := Nw.trans N1.out k2.nw
            clear k2 q0 q1 q2 r0 r1 r2 t0 t1 t2 t3 z0 z1 z2 zf
            obtain ⟨⟨q0, q1, q2⟩, ⟨r0, r1, r2⟩, ⟨t0, t1, t2, t3, _⟩, ⟨z0, z1, z2, zf, _⟩⟩ := HBX.out _ N2.out
            simp only at q0 q1 q2 r0 r1 r2 t0 t1 t2 t3 z0 z1 z2
            go_wp2_with fail
            refine Calls.mono (H5.out _) ?_
            rintro e w3 ⟨rfl, k3⟩
            have N3 : Hid (Nw W w3) := Nw.trans N2.out k3.nw
            clear k3 q0 q1 q2 r0 r1 r2 t0 t1 t2 t3 z0 z1 z2 zf
            obtain ⟨⟨q0, q1, q2⟩, ⟨r0, r1, r2⟩, ⟨t0, t1, t2, t3, _⟩, ⟨z0, z1, z2, zf, _⟩⟩ := HBX.out _ N3.out
            simp only at q0 q1 q2 r0 r1 r2 t0 t1 t2 t3 z0 z1 z2
            obtain ⟨y0, y1, y2⟩ := set3 w3 (w.heap.size + 1 + 1 + 1) (.int .i64 0) (.int .i64 0) (.slice none 0 0) z0 z1 z2
            go_wp2
            refine bodyPost_ret (v := .tuple #[.agg #[.int .i64 0, .int .i64 0, .slice none 0 0], .bool false]) (by simp [results, Try.results45, go_sem, y0, y1, y2]) rfl ⟨_, rfl, FrQ.nil _ _, ?_⟩
            exact (((Nw.trans NW.out N3.out).setCell (by simp; omega) _).setCell (by simp; omega) _).setCell (by simp; omega) _
          | true =>
            rw [b5] at H5 HV
            obtain rfl := HV.out
            simp only [if_true]
            have HB1 : Hid _ := b1
            have HB2 : Hid _ := b2
            have HP : Hid _ := ok8_of b5
            have HLN : Hid (n1 = n2 ∧ n1 ≤ 1296) := by
              have h1 := (shB_some b1).2.2.1
              have h2 := (mskB_some b2).2.2.1
              have h3 := shB_len b1
              rw [HN1.out] at h1 h3
              rw [HN2.out] at h2
              simp only at h1 h2
              rw [e1, e2, ← h2] at h1
              exact ⟨by omega, h3⟩
            clear HV b1 b2 b5 e1 e2
            go_enter Try.func45, Try.ntmps45
            go_wp2_with fail
            rw [HW.out]
            refine Calls.mono (H1.out _ (Edgs.nw HR1.out NW.out)) ?_
            rintro e w1 ⟨rfl, k1⟩
            have N1 : Hid (Nw W w1) := k1.nw
            clear k1
            obtain ⟨⟨q0, q1, q2⟩, ⟨r0, r1, r2⟩, ⟨t0, t1, t2, t3, _⟩, ⟨z0, z1, z2, zf, _⟩⟩ := HBX.out _ N1.out
            simp only at q0 q1 q2 r0 r1 r2 t0 t1 t2 t3 z0 z1 z2
            go_wp2_with fail
            refine Calls.mono (H2.out _ (Ints.nw HR2.out (Nw.trans NW.out N1.out))) ?_
            rintro e w2 ⟨rfl, k2⟩
            have N2 : Hid (Nw W w2) := Nw.trans N1.out k2.nw
            clear k2 q0 q1 q2 r0 r1 r2 t0 t1 t2 t3 z0 z1 z2 zf
            obtain ⟨⟨q0, q1, q2⟩, ⟨r0, r1, r2⟩, ⟨t0, t1, t2, t3, _⟩, ⟨z0, z1, z2, zf, _⟩⟩ := HBX.out _ N2.out
            simp only at q0 q1 q2 r0 r1 r2 t0 t1 t2 t3 z0 z1 z2
            go_wp2_with fail
            refine Calls.mono (H5.out _) ?_
            rintro e w3 ⟨rfl, k3⟩
            have N3 : Hid (Nw W w3) := Nw.trans N2.out k3.nw
            clear k3 q0 q1 q2 r0 r1 r2 t0 t1 t2 t3 z0 z1 z2 zf
            obtain ⟨⟨q0, q1, q2⟩, ⟨r0, r1, r2⟩, ⟨t0, t1, t2, t3, _⟩, ⟨z0, z1, z2, zf, _⟩⟩ := HBX.out _ N3.out
            simp only at q0 q1 q2 r0 r1 r2 t0 t1 t2 t3 z0 z1 z2
            have NB : Hid (Nw w w3) := Nw.trans NW.out N3.out
            have HR10 : Hid (Edgs w3 a1 l1) := Edgs.nw HR1.out NB.out
            have HR20 : Hid (Ints w3 a2 l2) := Ints.nw HR2.out NB.out
            have h1296 : n1 ≤ 1296 := HLN.out.2
            have hs2 : w.heap.size + 1 + 1 + 1 < w3.heap.size := (HBX.out _ N3.out).2.2.2.lt
            have q3 := (HBX.out (w3.alloc (.cells #[.int .i64 pw, .int .i64 ph, .slice none 0 0] 57)) (Nw.trans N3.out (QBnw _ _))).1.c2
            go_wp2
            go_loopw [47] (fun i wr => ∃ j : Nat, j ≤ n1 ∧ i = .int .i64 (j : Int) ∧ (∃ v, CvQ w3.heap.size wr ⟨pw, ph⟩ v (pmL l1 l2 ⟨tr, tg, tb, ta⟩ j)) ∧ Nw w3 wr) (fun i _ => n1 - (intOf i).toNat)
            case atStart => exact ⟨0, Nat.zero_le _, rfl, ⟨_, CvQ.new _ _ ⟨pw, ph⟩⟩, QBnw _ _⟩
            case round =>
              obtain ⟨j, hj, rfl, ⟨v, hcb⟩, hw⟩ := hrel
              obtain ⟨va, vn, vc, hv⟩ := hcb.own.slice
              subst hv
              have HCB : Hid (CvQ w3.heap.size wr ⟨pw, ph⟩ (.slice va vn vc) (pmL l1 l2 ⟨tr, tg, tb, ta⟩ j)) := hcb
              have HWR : Hid (Nw w3 wr) := hw
              clear hcb hw q0 q1 q2 r0 r1 r2 t0 t1 t2 t3 z0 z1 z2 zf q3
              obtain ⟨⟨q0, q1, q2⟩, ⟨r0, r1, r2⟩, ⟨t0, t1, t2, t3, _⟩, ⟨z0, z1, z2, zf, _⟩⟩ := HBX.out _ (Nw.trans N3.out HWR.out)
              simp only at q0 q1 q2 r0 r1 r2 t0 t1 t2 t3 z0 z1 z2
              by_cases hlt : j < n1
              · obtain ⟨ga, oa, rfl, hca⟩ := edgs_some (Edgs.nw HR10.out HWR.out) (show 0 < l1.length by rw [HN1.out]; omega)
                obtain ⟨x0, x1, x2, x3⟩ := hca j (by rw [HN1.out]; exact hlt)
                have hx := ok8_of (shB_at HB1.out j (by rw [HN1.out]; exact hlt))
                obtain ⟨gb, ob, rfl, y0⟩ := Ints.at (k := j) (Ints.nw HR20.out HWR.out) (by rw [HN2.out, ← HLN.out.1]; exact hlt)
                have hy := mskB_at HB2.out j (by rw [HN2.out, ← HLN.out.1]; exact hlt)
                have HE : Hid _ := pmL_step l1 l2 ⟨tr, tg, tb, ta⟩ j
                have HLE : Hid ((pmL l1 l2 ⟨tr, tg, tb, ta⟩ j).length ≤ 1000000) := by show _ ≤ _; rw [pmL_len]; have := HLN.out.2; omega
                have HJ : Hid (j < n2) := by show j < n2; rw [← HLN.out.1]; exact hlt
                unfold pmF at HE
                generalize edAt l1 j = x at *
                generalize intAt l2 j = m at *
                generalize pmL l1 l2 ⟨tr, tg, tb, ta⟩ j = L at *
                obtain ⟨u0, u1, u2, u3⟩ := x
                simp only at x0 x1 x2 x3 hx HE
                clear hca
                go_wp2
                obtain ⟨W2, hW2⟩ : ∃ W2, wr.alloc (.cells #[.int .i64 u0, .int .i64 u1, .int .i64 u2, .int .i64 u3] 24) = W2 := ⟨_, rfl⟩
                have PU : Hid (QB W2 wr.heap.size ⟨u0, u1, u2, u3⟩) := by show QB _ _ _; rw [← hW2]; exact QB.new wr ⟨u0, u1, u2, u3⟩ _
                have N2d : Hid (Nw wr W2.drew) := by show Nw wr W2.drew; rw [← hW2]; exact (QBnw _ _).drew
                rw [hW2]
                clear hW2
                obtain ⟨s0, s1, s2, s3, _⟩ := QB.nw PU.out ((Below.refl _ _).drew : Nw W2 W2.drew)
                have cc := (HBX.out _ (Nw.trans N3.out (Nw.trans HWR.out N2d.out))).2.1.c2
                have hgl : gb < wr.heap.size := World.block_lt_of_cell? wr ⟨gb, _, none⟩ y0
                replace y0 := ((bcell N2d.out).1 _ _ hgl).trans y0
                obtain ⟨k0, k1', k2', k3', _⟩ := (HBX.out _ (Nw.trans N3.out (Nw.trans HWR.out N2d.out))).2.2.1
                have hwm : IntKind.i64.wrap (16 * m) = 16 * m := IntWalk.i64_in _ ⟨by omega, by omega⟩
                have hpm : 0 ≤ 16 * m ∧ 16 * m ≤ 256 := by omega
                refine reg_change (ops' := opsOf 7 Try.f45) (by kernel_rfl) ?_
                refine LB.run ⟨w3.heap.size, w.heap.size + 1 + 1, wr.heap.size, w.heap.size + 1, m, ⟨pw, ph⟩, va, vn, vc, L, gb, ob, n2, c2, j, tr, tg, tb, ta, u0, u1, u2, u3, W2.drew, _⟩ ⟨CvQ.nw HCB.out N2d.out, HLE.out, cc, HJ.out, y0, hwm, k0, k1', k2', k3', s0, s1, s2, s3, HP.out, hx, hpm, rfl, rfl, rfl, rfl, rfl, rfl⟩ W2 (Kp.refl _) ?_
                rintro γ w9 ⟨w7, w8, k1, o1, y1', rfl⟩
                simp only at o1 y1' k1 ⊢
                have HPT : Hid _ := CvQ.put ((CvQ.nw HCB.out N2d.out).nw k1.nw) y1' o1
                have HK1 : Hid (Nw wr w7) := Nw.trans N2d.out k1.nw
                generalize γ 1 = v' at *
                generalize γ 0 = v0 at *
                obtain ⟨sa, sn, sc, g1⟩ := o1.slice
                subst g1
                clear o1 y1' k1 q0 q1 q2 r0 r1 r2 t0 t1 t2 t3 z0 z1 z2 zf x0 x1 x2 x3 hx s0 s1 s2 s3 cc y0 hy hgl k0 k1' k2' k3' hwm hpm HJ
                simp only [Act.put, List.setIfInBounds_toArray, List.set_cons_zero, List.set_cons_succ]
                go_wp2
                go_roundw
                case rel => exact ⟨j + 1, by omega, by go_num, ⟨_, by rw [HE.out]; exact HPT.out.1⟩, Below.trans (Nw.trans HWR.out HK1.out) HPT.out.2⟩
                case measure => simp [intOf]; omega
              · have hj2 : j = n1 := by omega
                subst hj2
                obtain ⟨b0, b1, b2, bf, bo⟩ := HCB.out
                have HBO : Hid (OwnE 24 wr (w3.heap.size + 1) (.slice va vn vc) (pmL l1 l2 ⟨tr, tg, tb, ta⟩ j)) := bo
                simp only at b0 b1 b2
                clear bo q0 q1 q2 r0 r1 r2 t0 t1 t2 t3
                obtain ⟨y0, y1, y2⟩ := set3 wr (w.heap.size + 1 + 1 + 1) (.int .i64 pw) (.int .i64 ph) (.slice va vn vc) z0 z1 z2
                go_wp2
                refine bodyPost_ret (v := .tuple #[.agg #[.int .i64 pw, .int .i64 ph, .slice va vn vc], .bool true]) (by simp [results, Try.results45, go_sem, y0, y1, y2]) rfl ⟨_, rfl, ?_, ?_⟩
                · have hne : (Value.slice va vn vc).ownBlock ≠ some (w.heap.size + 1 + 1 + 1) := fun e => by have := (OwnE.lt HBO.out _ e).1; omega
                  exact OwnE.fr ((((OwnE.base HBO.out (by omega)).far _ _ _ hne).far _ _ _ hne).far _ _ _ hne)
                · exact (((Nw.trans NB.out HWR.out).setCell (by simp; omega) _).setCell (by simp; omega) _).setCell (by simp; omega) _
        · rw [decide_eq_false e2, Bool.false_and] at HV
          have hd2 : (ph != qh) = true := by simp [e2]
          obtain rfl := HV.out
          clear HV b1 b2 e1 e2
          simp only [Bool.false_eq_true, if_false]
          go_enter Try.func45, Try.ntmps45
          go_wp2_with fail
          rw [HW.out]
          refine Calls.mono (H1.out _ (Edgs.nw HR1.out NW.out)) ?_
          rintro e w1 ⟨rfl, k1⟩
          have N1 : Hid (Nw W w1) := k1.nw
          clear k1
          obtain ⟨⟨q0, q1, q2⟩, ⟨r0, r1, r2⟩, ⟨t0, t1, t2, t3, _⟩, ⟨z0, z1, z2, zf, _⟩⟩ := HBX.out _ N1.out
          simp only at q0 q1 q2 r0 r1 r2 t0 t1 t2 t3 z0 z1 z2
          go_wp2_with fail
          refine Calls.mono (H2.out _ (Ints.nw HR2.out (Nw.trans NW.out N1.out))) ?_
          rintro e w2 ⟨rfl, k2⟩
          have N2 : Hid (Nw W w2) := Nw.trans N1.out k2.nw
          clear k2 q0 q1 q2 r0 r1 r2 t0 t1 t2 t3 z0 z1 z2 zf
          obtain ⟨⟨q0, q1, q2⟩, ⟨r0, r1, r2⟩, ⟨t0, t1, t2, t3, _⟩, ⟨z0, z1, z2, zf, _⟩⟩ := HBX.out _ N2.out
          simp only at q0 q1 q2 r0 r1 r2 t0 t1 t2 t3 z0 z1 z2
          obtain ⟨y0, y1, y2⟩ := set3 w2 (w.heap.size + 1 + 1 + 1) (.int .i64 0) (.int .i64 0) (.slice none 0 0) z0 z1 z2
          go_wp2
          refine bodyPost_ret (v := .tuple #[.agg #[.int .i64 0, .int .i64 0, .slice none 0 0], .bool false]) (by simp [results, Try.results45, go_sem, y0, y1, y2]) rfl ⟨_, rfl, FrQ.nil _ _, ?_⟩
          exact (((Nw.trans NW.out N2.out).setCell (by simp; omega) _).setCell (by simp; omega) _).setCell (by simp; omega) _
      · rw [decide_eq_false e1, Bool.false_and] at HV
        have hd1 : (pw != qw) = true := by simp [e1]
        obtain rfl := HV.out
        clear HV b1 b2 e1
        simp only [Bool.false_eq_true, if_false]
        go_enter Try.func45, Try.ntmps45
        go_wp2_with fail
        rw [HW.out]
        refine Calls.mono (H1.out _ (Edgs.nw HR1.out NW.out)) ?_
        rintro e w1 ⟨rfl, k1⟩
        have N1 : Hid (Nw W w1) := k1.nw
        clear k1
        obtain ⟨⟨q0, q1, q2⟩, ⟨r0, r1, r2⟩, ⟨t0, t1, t2, t3, _⟩, ⟨z0, z1, z2, zf, _⟩⟩ := HBX.out _ N1.out
        simp only at q0 q1 q2 r0 r1 r2 t0 t1 t2 t3 z0 z1 z2
        go_wp2_with fail
        refine Calls.mono (H2.out _ (Ints.nw HR2.out (Nw.trans NW.out N1.out))) ?_
        rintro e w2 ⟨rfl, k2⟩
        have N2 : Hid (Nw W w2) := Nw.trans N1.out k2.nw
        clear k2 q0 q1 q2 r0 r1 r2 t0 t1 t2 t3 z0 z1 z2 zf
        obtain ⟨⟨q0, q1, q2⟩, ⟨r0, r1, r2⟩, ⟨t0, t1, t2, t3, _⟩, ⟨z0, z1, z2, zf, _⟩⟩ := HBX.out _ N2.out
        simp only at q0 q1 q2 r0 r1 r2 t0 t1 t2 t3 z0 z1 z2
        obtain ⟨y0, y1, y2⟩ := set3 w2 (w.heap.size + 1 + 1 + 1) (.int .i64 0) (.int .i64 0) (.slice none 0 0) z0 z1 z2
        go_wp2
        refine bodyPost_ret (v := .tuple #[.agg #[.int .i64 0, .int .i64 0, .slice none 0 0], .bool false]) (by simp [results, Try.results45, go_sem, y0, y1, y2]) rfl ⟨_, rfl, FrQ.nil _ _, ?_⟩
        exact (((Nw.trans NW.out N2.out).setCell (by simp; omega) _).setCell (by simp; omega) _).setCell (by simp; omega) _
end Go.Proofs.Ythlohbiocfeapaa
