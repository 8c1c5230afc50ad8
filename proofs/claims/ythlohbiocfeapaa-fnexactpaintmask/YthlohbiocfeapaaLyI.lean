/-
  Sheets laid over one another, and painted, by the program: PaintMask, LaySheet; each theorem names its conditions.
-/
import Derived.Test.YthlohbiocfeapaaLyIB
import Derived.Test.YthlohbiocfeapaaLyJR
namespace Go.Proofs.Ythlohbiocfeapaa
open Go.ChangeShapes Go.WideShapes Go.ChangeAt Go.RowKit
set_option linter.unusedVariables false

set_option maxRecDepth 100000 in
set_option maxHeartbeats 8000000 in
theorem ipaint (w : World) (d e : MD) (a1 a2 : Option Addr) (c1 c2 : Nat) (l1 : List Edg) (l2 : List Int) (t : Edg) (hl1 : l1.length ≤ 1048576) (hl2 : l2.length ≤ 1048576) (hr1 : Edgs w a1 l1) (hr2 : Ints w a2 l2) :
    Calls Try.prog 47 #[mskV d (.slice a1 l1.length c1), mskV e (.slice a2 l2.length c2), edV t] w fun x w' => ∃ v, x = .returned (.tuple #[mskV (pmD d e l1 l2 t) v, .bool (pmB d e l1 l2 t)]) ∧ FrQ w' w.heap.size v (pmR d e l1 l2 t) ∧ Nw w w' := by
  obtain ⟨pw, ph⟩ := d
  obtain ⟨qw, qh⟩ := e
  obtain ⟨tr, tg, tb, ta⟩ := t
  have HL : Hid (∀ w : World, _) := fun w => ilayerOf w ⟨pw, ph⟩ a1 l1.length c1
  have HS : Hid (∀ (w : World) (a : Option Addr) (n c : Nat), _) := fun w a n c => ilsheet w ⟨pw, ph⟩ a n c
  have H1 : Hid (∀ w : World, Edgs w a1 l1 → _) := fun w h => iisGood w ⟨pw, ph⟩ a1 c1 l1 hl1 h
  have H2 : Hid (∀ w : World, Ints w a2 l2 → _) := fun w h => igoodMask w ⟨qw, qh⟩ a2 c2 l2 hl2 h
  have H3 : Hid (∀ w : World, _) := fun w => iisOf w pw ph qw qh
  have H5 : Hid (∀ w : World, _) := fun w => igoodTn w ⟨tr, tg, tb, ta⟩
  have HR1 : Hid (Edgs w a1 l1) := hr1
  have HR2 : Hid (Ints w a2 l2) := hr2
  clear hr1 hr2
  obtain ⟨W, hW⟩ : ∃ W, (((w.alloc (.cells #[.int .i64 pw, .int .i64 ph, .slice a1 l1.length c1] 57)).alloc (.cells #[.int .i64 qw, .int .i64 qh, .slice a2 l2.length c2] 75)).alloc (.cells #[.int .i64 tr, .int .i64 tg, .int .i64 tb, .int .i64 ta] 24)).alloc (.cells #[.int .i64 0, .int .i64 0, .slice none 0 0] 57) = W := ⟨_, rfl⟩
  have NW : Hid (Nw w W) := by show Nw w W; rw [← hW]; exact Nw.trans (Nw.trans (Nw.trans (QBnw _ _) (QBnw _ _)) (QBnw _ _)) (QBnw _ _)
  have B0 : Hid (MB W (w.heap.size) ⟨pw, ph⟩ (.slice a1 l1.length c1)) := by
    show MB W (w.heap.size) ⟨pw, ph⟩ (.slice a1 l1.length c1)
    rw [← hW]
    have := MB.new (w) ⟨pw, ph⟩ (.slice a1 l1.length c1) 57
    exact (((this.nw (QBnw _ _)).nw (QBnw _ _)).nw (QBnw _ _))
  have B1 : Hid (MB W (w.heap.size + 1) ⟨qw, qh⟩ (.slice a2 l2.length c2)) := by
    show MB W (w.heap.size + 1) ⟨qw, qh⟩ (.slice a2 l2.length c2)
    rw [← hW]
    have := MB.new ((w.alloc (.cells #[.int .i64 pw, .int .i64 ph, .slice a1 l1.length c1] 57))) ⟨qw, qh⟩ (.slice a2 l2.length c2) 75
    simp only [World.size_alloc] at this
    exact ((this.nw (QBnw _ _)).nw (QBnw _ _))
  have B2 : Hid (QB W (w.heap.size + 1 + 1) ⟨tr, tg, tb, ta⟩) := by
    show QB W (w.heap.size + 1 + 1) ⟨tr, tg, tb, ta⟩
    rw [← hW]
    have := QB.new (((w.alloc (.cells #[.int .i64 pw, .int .i64 ph, .slice a1 l1.length c1] 57)).alloc (.cells #[.int .i64 qw, .int .i64 qh, .slice a2 l2.length c2] 75))) ⟨tr, tg, tb, ta⟩ 24
    simp only [World.size_alloc] at this
    exact (this.nw (QBnw _ _))
  have B3 : Hid (CvQ (w.heap.size + 1 + 1 + 1) W ⟨0, 0⟩ (.slice none 0 0) []) := by
    show CvQ (w.heap.size + 1 + 1 + 1) W ⟨0, 0⟩ (.slice none 0 0) []
    rw [← hW]
    have := CvQ.new ((((w.alloc (.cells #[.int .i64 pw, .int .i64 ph, .slice a1 l1.length c1] 57)).alloc (.cells #[.int .i64 qw, .int .i64 qh, .slice a2 l2.length c2] 75)).alloc (.cells #[.int .i64 tr, .int .i64 tg, .int .i64 tb, .int .i64 ta] 24))) 57 ⟨0, 0⟩
    simp only [World.size_alloc] at this
    exact this
  have HW : Hid (_ = W) := hW
  clear hW
  have HC : Hid (shB ⟨pw, ph⟩ l1 = true → mskB ⟨qw, qh⟩ l2 = true → l1.length = l2.length → tnB ⟨tr, tg, tb, ta⟩ = true → ∀ w1 : World, Nw W w1 → ∀ w2, Nw w1 w2 → Calls Try.prog 99 #[mskV ⟨pw, ph⟩ (.slice a1 l1.length c1), .func (.func 100) #[] #[.pointer (some ⟨w.heap.size + 1 + 1, 0, none⟩), .pointer (some ⟨w.heap.size + 1, 0, none⟩)]] w2 fun x w' => ∃ v, x = .returned (mskV ⟨pw, ph⟩ v) ∧ FrQ w' w2.heap.size v (blL l1 (fun j => thinT ⟨tr, tg, tb, ta⟩ (16 * intAt l2 j)) l1.length) ∧ Nw w2 w') := by
    intro b1 b2 hle b5 w1 k1 w2 k2
    have nn : Nw w w2 := Nw.trans NW.out (Nw.trans k1 k2)
    have hp : True := trivial
    refine ibelow w2 ⟨pw, ph⟩ a1 c1 l1 (fun j => thinT ⟨tr, tg, tb, ta⟩ (16 * intAt l2 j)) 100 _ (shB_len b1) (Edgs.nw HR1.out nn) (fun j hj => ok8_of (shB_at b1 j hj)) (fun j hj => ok8_thin (ok8_of b5) (by have := mskB_at b2 j (by rw [← hle]; exact hj); omega)) (fun _ _ => by simp [go_sem]) (fun w3 k3 j hj => ?_)
    exact ipm1 w3 j (w.heap.size + 1 + 1) (w.heap.size + 1) ⟨tr, tg, tb, ta⟩ ⟨qw, qh⟩ a2 c2 l2 (QB.nw B2.out (Nw.trans k1 (Nw.trans k2 k3))) (MB.nw B1.out (Nw.trans k1 (Nw.trans k2 k3))) (Ints.nw HR2.out (Nw.trans nn k3)) (by rw [← hle]; exact hj) (ok8_of b5) (mskB_at b2 j (by rw [← hle]; exact hj))
  unfold pmD pmR
  obtain ⟨V, hV⟩ : ∃ V, pmB ⟨pw, ph⟩ ⟨qw, qh⟩ l1 l2 ⟨tr, tg, tb, ta⟩ = V := ⟨_, rfl⟩
  rw [hV]
  have HV : Hid (V = (shB ⟨pw, ph⟩ l1 && (mskB ⟨qw, qh⟩ l2 && ((decide (pw = qw) && decide (ph = qh)) && tnB ⟨tr, tg, tb, ta⟩)))) := by show _ = _; rw [← hV]; unfold pmB; simp only [Bool.and_assoc]
  clear hV
  unfold mskV at HL HS H1 H2 HC ⊢
  unfold edV at H5 ⊢
  simp only at HL HS H1 H2 H5 HC ⊢
  obtain ⟨n1, hn1⟩ : ∃ n, l1.length = n := ⟨_, rfl⟩
  obtain ⟨n2, hn2⟩ : ∃ n, l2.length = n := ⟨_, rfl⟩
  have HN1 : Hid (l1.length = n1) := hn1
  have HN2 : Hid (l2.length = n2) := hn2
  rw [hn1] at HL H1 B0 HW hl1 HC ⊢
  rw [hn2] at H2 B1 HW hl2 HC ⊢
  clear hn1 hn2
  have HBX : Hid (∀ w1, Nw W w1 → MB w1 w.heap.size ⟨pw, ph⟩ (.slice a1 n1 c1) ∧ MB w1 (w.heap.size + 1) ⟨qw, qh⟩ (.slice a2 n2 c2) ∧ QB w1 (w.heap.size + 1 + 1) ⟨tr, tg, tb, ta⟩ ∧ CvQ (w.heap.size + 1 + 1 + 1) w1 ⟨0, 0⟩ (.slice none 0 0) []) := fun w1 k => ⟨MB.nw B0.out k, MB.nw B1.out k, QB.nw B2.out k, CvQ.nw B3.out k⟩
  cases b1 : shB ⟨pw, ph⟩ l1 with
  | false =>
    rw [b1] at H1 HV
    rw [Bool.false_and] at HV
    obtain rfl := HV.out
    clear HV b1 HC
    simp only [Bool.false_eq_true, if_false]
    go_enter Try.func47, Try.ntmps47
    go_wp2_with fail
    rw [HW.out]
    refine Calls.mono (HL.out _) ?_
    rintro e w1 ⟨rfl, k1⟩
    obtain ⟨W1, hW1⟩ : ∃ W1, w1.alloc (.cells #[.int .i64 pw, .int .i64 ph, .slice a1 n1 c1] 114) = W1 := ⟨_, rfl⟩
    have BL0 : Hid (MB W1 w1.heap.size ⟨pw, ph⟩ (.slice a1 n1 c1)) := by show MB _ _ _ _; rw [← hW1]; exact MB.new w1 ⟨pw, ph⟩ _ _
    have N1b : Hid (Nw W W1) := by show Nw _ _; rw [← hW1]; exact Nw.trans k1.nw (QBnw _ _)
    have HW1 : Hid (_ = W1) := hW1
    clear k1 hW1
    go_wp2_with fail
    rw [HW1.out]
    refine Calls.mono (H1.out _ (Edgs.nw HR1.out (Nw.trans NW.out N1b.out))) ?_
    rintro e w2 ⟨rfl, k2⟩
    have N2 : Hid (Nw W1 w2) := k2.nw
    clear k2
    obtain ⟨⟨q0, q1, q2⟩, ⟨r0, r1, r2⟩, ⟨t0, t1, t2, t3, _⟩, ⟨z0, z1, z2, zf, _⟩⟩ := HBX.out _ (Nw.trans N1b.out N2.out)
    simp only at q0 q1 q2 r0 r1 r2 t0 t1 t2 t3 z0 z1 z2
    obtain ⟨l0, l1', l2'⟩ := MB.nw BL0.out N2.out
    simp only at l0 l1' l2'
    obtain ⟨y0, y1, y2⟩ := set3 w2 (w.heap.size + 1 + 1 + 1) (.int .i64 0) (.int .i64 0) (.slice none 0 0) z0 z1 z2
    go_wp2
    refine bodyPost_ret (v := .tuple #[.agg #[.int .i64 0, .int .i64 0, .slice none 0 0], .bool false]) (by simp [results, Try.results47, go_sem, y0, y1, y2]) rfl ⟨_, rfl, FrQ.nil _ _, ?_⟩
    exact (((Nw.trans NW.out (Nw.trans N1b.out N2.out)).setCell (by first | (simp; done) | (simp; omega)) _).setCell (by first | (simp; done) | (simp; omega)) _).setCell (by first | (simp; done) | (simp; omega)) _
  | true =>
    rw [b1] at H1 HV
    rw [Bool.true_and] at HV
    cases b2 : mskB ⟨qw, qh⟩ l2 with
    | false =>
      rw [b2] at H2 HV
      rw [Bool.false_and] at HV
      obtain rfl := HV.out
      clear HV b1 b2 HC
      simp only [Bool.false_eq_true, if_false]
      go_enter Try.func47, Try.ntmps47
      go_wp2_with fail
      rw [HW.out]
      refine Calls.mono (HL.out _) ?_
      rintro e w1 ⟨rfl, k1⟩
      obtain ⟨W1, hW1⟩ : ∃ W1, w1.alloc (.cells #[.int .i64 pw, .int .i64 ph, .slice a1 n1 c1] 114) = W1 := ⟨_, rfl⟩
      have BL0 : Hid (MB W1 w1.heap.size ⟨pw, ph⟩ (.slice a1 n1 c1)) := by show MB _ _ _ _; rw [← hW1]; exact MB.new w1 ⟨pw, ph⟩ _ _
      have N1b : Hid (Nw W W1) := by show Nw _ _; rw [← hW1]; exact Nw.trans k1.nw (QBnw _ _)
      have HW1 : Hid (_ = W1) := hW1
      clear k1 hW1
      go_wp2_with fail
      rw [HW1.out]
      refine Calls.mono (H1.out _ (Edgs.nw HR1.out (Nw.trans NW.out N1b.out))) ?_
      rintro e w2 ⟨rfl, k2⟩
      have N2 : Hid (Nw W1 w2) := k2.nw
      clear k2
      obtain ⟨⟨q0, q1, q2⟩, ⟨r0, r1, r2⟩, ⟨t0, t1, t2, t3, _⟩, ⟨z0, z1, z2, zf, _⟩⟩ := HBX.out _ (Nw.trans N1b.out N2.out)
      simp only at q0 q1 q2 r0 r1 r2 t0 t1 t2 t3 z0 z1 z2
      obtain ⟨l0, l1', l2'⟩ := MB.nw BL0.out N2.out
      simp only at l0 l1' l2'
      go_wp2_with fail
      refine Calls.mono (H2.out _ (Ints.nw HR2.out (Nw.trans NW.out (Nw.trans N1b.out N2.out)))) ?_
      rintro e w3 ⟨rfl, k3⟩
      have N3 : Hid (Nw W1 w3) := Nw.trans N2.out k3.nw
      clear k3 l0 l1' l2' q0 q1 q2 r0 r1 r2 t0 t1 t2 t3 z0 z1 z2 zf
      obtain ⟨⟨q0, q1, q2⟩, ⟨r0, r1, r2⟩, ⟨t0, t1, t2, t3, _⟩, ⟨z0, z1, z2, zf, _⟩⟩ := HBX.out _ (Nw.trans N1b.out N3.out)
      simp only at q0 q1 q2 r0 r1 r2 t0 t1 t2 t3 z0 z1 z2
      obtain ⟨l0, l1', l2'⟩ := MB.nw BL0.out N3.out
      simp only at l0 l1' l2'
      obtain ⟨y0, y1, y2⟩ := set3 w3 (w.heap.size + 1 + 1 + 1) (.int .i64 0) (.int .i64 0) (.slice none 0 0) z0 z1 z2
      go_wp2
      refine bodyPost_ret (v := .tuple #[.agg #[.int .i64 0, .int .i64 0, .slice none 0 0], .bool false]) (by simp [results, Try.results47, go_sem, y0, y1, y2]) rfl ⟨_, rfl, FrQ.nil _ _, ?_⟩
      exact (((Nw.trans NW.out (Nw.trans N1b.out N3.out)).setCell (by first | (simp; done) | (simp; omega)) _).setCell (by first | (simp; done) | (simp; omega)) _).setCell (by first | (simp; done) | (simp; omega)) _
    | true =>
      rw [b2] at H2 HV
      rw [Bool.true_and] at HV
      cases b3 : (decide (pw = qw) && decide (ph = qh)) with
      | false =>
        rw [b3] at H3 HV
        rw [Bool.false_and] at HV
        obtain rfl := HV.out
        clear HV b1 b2 b3 HC
        simp only [Bool.false_eq_true, if_false]
        go_enter Try.func47, Try.ntmps47
        go_wp2_with fail
        rw [HW.out]
        refine Calls.mono (HL.out _) ?_
        rintro e w1 ⟨rfl, k1⟩
        obtain ⟨W1, hW1⟩ : ∃ W1, w1.alloc (.cells #[.int .i64 pw, .int .i64 ph, .slice a1 n1 c1] 114) = W1 := ⟨_, rfl⟩
        have BL0 : Hid (MB W1 w1.heap.size ⟨pw, ph⟩ (.slice a1 n1 c1)) := by show MB _ _ _ _; rw [← hW1]; exact MB.new w1 ⟨pw, ph⟩ _ _
        have N1b : Hid (Nw W W1) := by show Nw _ _; rw [← hW1]; exact Nw.trans k1.nw (QBnw _ _)
        have HW1 : Hid (_ = W1) := hW1
        clear k1 hW1
        go_wp2_with fail
        rw [HW1.out]
        refine Calls.mono (H1.out _ (Edgs.nw HR1.out (Nw.trans NW.out N1b.out))) ?_
        rintro e w2 ⟨rfl, k2⟩
        have N2 : Hid (Nw W1 w2) := k2.nw
        clear k2
        obtain ⟨⟨q0, q1, q2⟩, ⟨r0, r1, r2⟩, ⟨t0, t1, t2, t3, _⟩, ⟨z0, z1, z2, zf, _⟩⟩ := HBX.out _ (Nw.trans N1b.out N2.out)
        simp only at q0 q1 q2 r0 r1 r2 t0 t1 t2 t3 z0 z1 z2
        obtain ⟨l0, l1', l2'⟩ := MB.nw BL0.out N2.out
        simp only at l0 l1' l2'
        go_wp2_with fail
        refine Calls.mono (H2.out _ (Ints.nw HR2.out (Nw.trans NW.out (Nw.trans N1b.out N2.out)))) ?_
        rintro e w3 ⟨rfl, k3⟩
        have N3 : Hid (Nw W1 w3) := Nw.trans N2.out k3.nw
        clear k3 l0 l1' l2' q0 q1 q2 r0 r1 r2 t0 t1 t2 t3 z0 z1 z2 zf
        obtain ⟨⟨q0, q1, q2⟩, ⟨r0, r1, r2⟩, ⟨t0, t1, t2, t3, _⟩, ⟨z0, z1, z2, zf, _⟩⟩ := HBX.out _ (Nw.trans N1b.out N3.out)
        simp only at q0 q1 q2 r0 r1 r2 t0 t1 t2 t3 z0 z1 z2
        obtain ⟨l0, l1', l2'⟩ := MB.nw BL0.out N3.out
        simp only at l0 l1' l2'
        go_wp2_with fail
        refine Calls.mono (H3.out _) ?_
        rintro e w4 ⟨rfl, k4⟩
        have N4 : Hid (Nw W1 w4) := Nw.trans N3.out k4.nw
        clear k4 l0 l1' l2' q0 q1 q2 r0 r1 r2 t0 t1 t2 t3 z0 z1 z2 zf
        obtain ⟨⟨q0, q1, q2⟩, ⟨r0, r1, r2⟩, ⟨t0, t1, t2, t3, _⟩, ⟨z0, z1, z2, zf, _⟩⟩ := HBX.out _ (Nw.trans N1b.out N4.out)
        simp only at q0 q1 q2 r0 r1 r2 t0 t1 t2 t3 z0 z1 z2
        obtain ⟨l0, l1', l2'⟩ := MB.nw BL0.out N4.out
        simp only at l0 l1' l2'
        obtain ⟨y0, y1, y2⟩ := set3 w4 (w.heap.size + 1 + 1 + 1) (.int .i64 0) (.int .i64 0) (.slice none 0 0) z0 z1 z2
        go_wp2
        refine bodyPost_ret (v := .tuple #[.agg #[.int .i64 0, .int .i64 0, .slice none 0 0], .bool false]) (by simp [results, Try.results47, go_sem, y0, y1, y2]) rfl ⟨_, rfl, FrQ.nil _ _, ?_⟩
        exact (((Nw.trans NW.out (Nw.trans N1b.out N4.out)).setCell (by first | (simp; done) | (simp; omega)) _).setCell (by first | (simp; done) | (simp; omega)) _).setCell (by first | (simp; done) | (simp; omega)) _
      | true =>
        rw [b3] at H3 HV
        rw [Bool.true_and] at HV
        cases b5 : tnB ⟨tr, tg, tb, ta⟩ with
        | false =>
          rw [b5] at H5 HV
          obtain rfl := HV.out
          clear HV b1 b2 b3 b5 HC
          simp only [Bool.false_eq_true, if_false]
          go_enter Try.func47, Try.ntmps47
          go_wp2_with fail
          rw [HW.out]
          refine Calls.mono (HL.out _) ?_
          rintro e w1 ⟨rfl, k1⟩
          obtain ⟨W1, hW1⟩ : ∃ W1, w1.alloc (.cells #[.int .i64 pw, .int .i64 ph, .slice a1 n1 c1] 114) = W1 := ⟨_, rfl⟩
          have BL0 : Hid (MB W1 w1.heap.size ⟨pw, ph⟩ (.slice a1 n1 c1)) := by show MB _ _ _ _; rw [← hW1]; exact MB.new w1 ⟨pw, ph⟩ _ _
          have N1b : Hid (Nw W W1) := by show Nw _ _; rw [← hW1]; exact Nw.trans k1.nw (QBnw _ _)
          have HW1 : Hid (_ = W1) := hW1
          clear k1 hW1
          go_wp2_with fail
          rw [HW1.out]
          refine Calls.mono (H1.out _ (Edgs.nw HR1.out (Nw.trans NW.out N1b.out))) ?_
          rintro e w2 ⟨rfl, k2⟩
          have N2 : Hid (Nw W1 w2) := k2.nw
          clear k2
          obtain ⟨⟨q0, q1, q2⟩, ⟨r0, r1, r2⟩, ⟨t0, t1, t2, t3, _⟩, ⟨z0, z1, z2, zf, _⟩⟩ := HBX.out _ (Nw.trans N1b.out N2.out)
          simp only at q0 q1 q2 r0 r1 r2 t0 t1 t2 t3 z0 z1 z2
          obtain ⟨l0, l1', l2'⟩ := MB.nw BL0.out N2.out
          simp only at l0 l1' l2'
          go_wp2_with fail
          refine Calls.mono (H2.out _ (Ints.nw HR2.out (Nw.trans NW.out (Nw.trans N1b.out N2.out)))) ?_
          rintro e w3 ⟨rfl, k3⟩
          have N3 : Hid (Nw W1 w3) := Nw.trans N2.out k3.nw
          clear k3 l0 l1' l2' q0 q1 q2 r0 r1 r2 t0 t1 t2 t3 z0 z1 z2 zf
          obtain ⟨⟨q0, q1, q2⟩, ⟨r0, r1, r2⟩, ⟨t0, t1, t2, t3, _⟩, ⟨z0, z1, z2, zf, _⟩⟩ := HBX.out _ (Nw.trans N1b.out N3.out)
          simp only at q0 q1 q2 r0 r1 r2 t0 t1 t2 t3 z0 z1 z2
          obtain ⟨l0, l1', l2'⟩ := MB.nw BL0.out N3.out
          simp only at l0 l1' l2'
          go_wp2_with fail
          refine Calls.mono (H3.out _) ?_
          rintro e w4 ⟨rfl, k4⟩
          have N4 : Hid (Nw W1 w4) := Nw.trans N3.out k4.nw
          clear k4 l0 l1' l2' q0 q1 q2 r0 r1 r2 t0 t1 t2 t3 z0 z1 z2 zf
          obtain ⟨⟨q0, q1, q2⟩, ⟨r0, r1, r2⟩, ⟨t0, t1, t2, t3, _⟩, ⟨z0, z1, z2, zf, _⟩⟩ := HBX.out _ (Nw.trans N1b.out N4.out)
          simp only at q0 q1 q2 r0 r1 r2 t0 t1 t2 t3 z0 z1 z2
          obtain ⟨l0, l1', l2'⟩ := MB.nw BL0.out N4.out
          simp only at l0 l1' l2'
          go_wp2_with fail
          refine Calls.mono (H5.out _) ?_
          rintro e w5 ⟨rfl, k5⟩
          have N5 : Hid (Nw W1 w5) := Nw.trans N4.out k5.nw
          clear k5 l0 l1' l2' q0 q1 q2 r0 r1 r2 t0 t1 t2 t3 z0 z1 z2 zf
          obtain ⟨⟨q0, q1, q2⟩, ⟨r0, r1, r2⟩, ⟨t0, t1, t2, t3, _⟩, ⟨z0, z1, z2, zf, _⟩⟩ := HBX.out _ (Nw.trans N1b.out N5.out)
          simp only at q0 q1 q2 r0 r1 r2 t0 t1 t2 t3 z0 z1 z2
          obtain ⟨l0, l1', l2'⟩ := MB.nw BL0.out N5.out
          simp only at l0 l1' l2'
          obtain ⟨y0, y1, y2⟩ := set3 w5 (w.heap.size + 1 + 1 + 1) (.int .i64 0) (.int .i64 0) (.slice none 0 0) z0 z1 z2
          go_wp2
          refine bodyPost_ret (v := .tuple #[.agg #[.int .i64 0, .int .i64 0, .slice none 0 0], .bool false]) (by simp [results, Try.results47, go_sem, y0, y1, y2]) rfl ⟨_, rfl, FrQ.nil _ _, ?_⟩
          exact (((Nw.trans NW.out (Nw.trans N1b.out N5.out)).setCell (by first | (simp; done) | (simp; omega)) _).setCell (by first | (simp; done) | (simp; omega)) _).setCell (by first | (simp; done) | (simp; omega)) _
        | true =>
          rw [b5] at H5 HV
          obtain rfl := HV.out
          simp only [if_true]
          have hle : n1 = n2 := by
            have h1 := (shB_some b1).2.2.1
            have h2 := (mskB_some b2).2.2.1
            rw [Bool.and_eq_true, decide_eq_true_eq, decide_eq_true_eq] at b3
            rw [HN1.out] at h1
            rw [HN2.out] at h2
            simp only at h1 h2
            rw [b3.1, b3.2, ← h2] at h1
            omega
          have HCB : Hid _ := HC.out b1 b2 hle b5
          have HLL : Hid (pmL l1 l2 ⟨tr, tg, tb, ta⟩ n1 = blL l1 (fun j => thinT ⟨tr, tg, tb, ta⟩ (16 * intAt l2 j)) n1) := by show _ = _; rfl
          rw [HLL.out]
          generalize blL l1 (fun j => thinT ⟨tr, tg, tb, ta⟩ (16 * intAt l2 j)) n1 = L at *
          clear HV b1 b2 b3 b5 HC hle HLL
          go_enter Try.func47, Try.ntmps47
          go_wp2_with fail
          rw [HW.out]
          refine Calls.mono (HL.out _) ?_
          rintro e w1 ⟨rfl, k1⟩
          obtain ⟨W1, hW1⟩ : ∃ W1, w1.alloc (.cells #[.int .i64 pw, .int .i64 ph, .slice a1 n1 c1] 114) = W1 := ⟨_, rfl⟩
          have BL0 : Hid (MB W1 w1.heap.size ⟨pw, ph⟩ (.slice a1 n1 c1)) := by show MB _ _ _ _; rw [← hW1]; exact MB.new w1 ⟨pw, ph⟩ _ _
          have N1b : Hid (Nw W W1) := by show Nw _ _; rw [← hW1]; exact Nw.trans k1.nw (QBnw _ _)
          have HW1 : Hid (_ = W1) := hW1
          clear k1 hW1
          go_wp2_with fail
          rw [HW1.out]
          refine Calls.mono (H1.out _ (Edgs.nw HR1.out (Nw.trans NW.out N1b.out))) ?_
          rintro e w2 ⟨rfl, k2⟩
          have N2 : Hid (Nw W1 w2) := k2.nw
          clear k2
          obtain ⟨⟨q0, q1, q2⟩, ⟨r0, r1, r2⟩, ⟨t0, t1, t2, t3, _⟩, ⟨z0, z1, z2, zf, _⟩⟩ := HBX.out _ (Nw.trans N1b.out N2.out)
          simp only at q0 q1 q2 r0 r1 r2 t0 t1 t2 t3 z0 z1 z2
          obtain ⟨l0, l1', l2'⟩ := MB.nw BL0.out N2.out
          simp only at l0 l1' l2'
          go_wp2_with fail
          refine Calls.mono (H2.out _ (Ints.nw HR2.out (Nw.trans NW.out (Nw.trans N1b.out N2.out)))) ?_
          rintro e w3 ⟨rfl, k3⟩
          have N3 : Hid (Nw W1 w3) := Nw.trans N2.out k3.nw
          clear k3 l0 l1' l2' q0 q1 q2 r0 r1 r2 t0 t1 t2 t3 z0 z1 z2 zf
          obtain ⟨⟨q0, q1, q2⟩, ⟨r0, r1, r2⟩, ⟨t0, t1, t2, t3, _⟩, ⟨z0, z1, z2, zf, _⟩⟩ := HBX.out _ (Nw.trans N1b.out N3.out)
          simp only at q0 q1 q2 r0 r1 r2 t0 t1 t2 t3 z0 z1 z2
          obtain ⟨l0, l1', l2'⟩ := MB.nw BL0.out N3.out
          simp only at l0 l1' l2'
          go_wp2_with fail
          refine Calls.mono (H3.out _) ?_
          rintro e w4 ⟨rfl, k4⟩
          have N4 : Hid (Nw W1 w4) := Nw.trans N3.out k4.nw
          clear k4 l0 l1' l2' q0 q1 q2 r0 r1 r2 t0 t1 t2 t3 z0 z1 z2 zf
          obtain ⟨⟨q0, q1, q2⟩, ⟨r0, r1, r2⟩, ⟨t0, t1, t2, t3, _⟩, ⟨z0, z1, z2, zf, _⟩⟩ := HBX.out _ (Nw.trans N1b.out N4.out)
          simp only at q0 q1 q2 r0 r1 r2 t0 t1 t2 t3 z0 z1 z2
          obtain ⟨l0, l1', l2'⟩ := MB.nw BL0.out N4.out
          simp only at l0 l1' l2'
          go_wp2_with fail
          refine Calls.mono (H5.out _) ?_
          rintro e w5 ⟨rfl, k5⟩
          have N5 : Hid (Nw W1 w5) := Nw.trans N4.out k5.nw
          clear k5 l0 l1' l2' q0 q1 q2 r0 r1 r2 t0 t1 t2 t3 z0 z1 z2 zf
          obtain ⟨⟨q0, q1, q2⟩, ⟨r0, r1, r2⟩, ⟨t0, t1, t2, t3, _⟩, ⟨z0, z1, z2, zf, _⟩⟩ := HBX.out _ (Nw.trans N1b.out N5.out)
          simp only at q0 q1 q2 r0 r1 r2 t0 t1 t2 t3 z0 z1 z2
          obtain ⟨l0, l1', l2'⟩ := MB.nw BL0.out N5.out
          simp only at l0 l1' l2'
          have hpl : w.heap.size + 1 + 1 + 1 < w5.heap.size := World.block_lt_of_cell? w5 ⟨_, 0, none⟩ z0
          have HPL : Hid (w.heap.size + 1 + 1 + 1 < w5.heap.size) := hpl
          clear hpl
          go_wp2_with fail
          refine Calls.mono (HCB.out _ N1b.out _ N5.out) ?_
          rintro e w6 ⟨v, rfl, hfr, k6⟩
          obtain ⟨va, vn, vc, hv⟩ := hfr.slice
          subst hv
          have HFR : Hid (FrQ w6 w5.heap.size (.slice va vn vc) L) := hfr
          have N6 : Hid (Nw W1 w6) := Nw.trans N5.out k6
          clear hfr k6 q0 q1 q2 r0 r1 r2 t0 t1 t2 t3 z0 z1 z2 zf l0 l1' l2'
          go_wp2_with fail
          refine Calls.mono (HS.out _ va vn vc) ?_
          rintro e w7 ⟨rfl, k7⟩
          have N67 : Hid (Nw w6 w7) := Nw.trans (QBnw _ _) k7.nw
          have N7 : Hid (Nw W1 w7) := Nw.trans N6.out N67.out
          clear k7
          obtain ⟨⟨q0, q1, q2⟩, ⟨r0, r1, r2⟩, ⟨t0, t1, t2, t3, _⟩, ⟨z0, z1, z2, zf, _⟩⟩ := HBX.out _ (Nw.trans N1b.out N7.out)
          simp only at q0 q1 q2 r0 r1 r2 t0 t1 t2 t3 z0 z1 z2
          obtain ⟨y0, y1, y2⟩ := set3 w7 (w.heap.size + 1 + 1 + 1) (.int .i64 pw) (.int .i64 ph) (.slice va vn vc) z0 z1 z2
          go_wp2
          refine bodyPost_ret (v := .tuple #[.agg #[.int .i64 pw, .int .i64 ph, .slice va vn vc], .bool true]) (by simp [results, Try.results47, go_sem, y0, y1, y2]) rfl ⟨_, rfl, ?_, ?_⟩
          · have h := (((FrQ.nw HFR.out N67.out).far (w.heap.size + 1 + 1 + 1) 0 (.int .i64 pw) HPL.out).far (w.heap.size + 1 + 1 + 1) 1 (.int .i64 ph) HPL.out).far (w.heap.size + 1 + 1 + 1) 2 (.slice va vn vc) HPL.out
            exact ⟨h.1, fun b hb => by have := h.2 b hb; have := HPL.out; omega⟩
          · exact (((Nw.trans NW.out (Nw.trans N1b.out N7.out)).setCell (by first | (simp; done) | (simp; omega)) _).setCell (by first | (simp; done) | (simp; omega)) _).setCell (by first | (simp; done) | (simp; omega)) _
set_option maxRecDepth 100000 in
set_option maxHeartbeats 8000000 in
theorem ilay (w : World) (d e : MD) (a1 a2 : Option Addr) (c1 c2 : Nat) (l1 l2 : List Edg) (p : Int) (hl1 : l1.length ≤ 1048576) (hl2 : l2.length ≤ 1048576) (hr1 : Edgs w a1 l1) (hr2 : Edgs w a2 l2) :
    Calls Try.prog 51 #[mskV d (.slice a1 l1.length c1), mskV e (.slice a2 l2.length c2), .int .i64 p] w fun x w' => ∃ v, x = .returned (.tuple #[mskV (lyD d e l1 l2 p) v, .bool (lyB d e l1 l2 p)]) ∧ FrQ w' w.heap.size v (lyR d e l1 l2 p) ∧ Nw w w' := by
  obtain ⟨pw, ph⟩ := d
  obtain ⟨qw, qh⟩ := e
  have HL : Hid (∀ w : World, _) := fun w => ilayerOf w ⟨pw, ph⟩ a1 l1.length c1
  have HS : Hid (∀ (w : World) (a : Option Addr) (n c : Nat), _) := fun w a n c => ilsheet w ⟨pw, ph⟩ a n c
  have H1 : Hid (∀ w : World, Edgs w a1 l1 → _) := fun w h => iisGood w ⟨pw, ph⟩ a1 c1 l1 hl1 h
  have H2 : Hid (∀ w : World, Edgs w a2 l2 → _) := fun w h => iisGood w ⟨qw, qh⟩ a2 c2 l2 hl2 h
  have H3 : Hid (∀ w : World, _) := fun w => iisOf w pw ph qw qh
  have H5 : Hid (∀ w : World, _) := fun w => ipart w p
  have HR1 : Hid (Edgs w a1 l1) := hr1
  have HR2 : Hid (Edgs w a2 l2) := hr2
  clear hr1 hr2
  obtain ⟨W, hW⟩ : ∃ W, (((w.alloc (.cells #[.int .i64 pw, .int .i64 ph, .slice a1 l1.length c1] 57)).alloc (.cells #[.int .i64 qw, .int .i64 qh, .slice a2 l2.length c2] 57)).alloc (.cells #[.int .i64 p] 3)).alloc (.cells #[.int .i64 0, .int .i64 0, .slice none 0 0] 57) = W := ⟨_, rfl⟩
  have NW : Hid (Nw w W) := by show Nw w W; rw [← hW]; exact Nw.trans (Nw.trans (Nw.trans (QBnw _ _) (QBnw _ _)) (QBnw _ _)) (QBnw _ _)
  have B0 : Hid (MB W (w.heap.size) ⟨pw, ph⟩ (.slice a1 l1.length c1)) := by
    show MB W (w.heap.size) ⟨pw, ph⟩ (.slice a1 l1.length c1)
    rw [← hW]
    have := MB.new (w) ⟨pw, ph⟩ (.slice a1 l1.length c1) 57
    exact (((this.nw (QBnw _ _)).nw (QBnw _ _)).nw (QBnw _ _))
  have B1 : Hid (MB W (w.heap.size + 1) ⟨qw, qh⟩ (.slice a2 l2.length c2)) := by
    show MB W (w.heap.size + 1) ⟨qw, qh⟩ (.slice a2 l2.length c2)
    rw [← hW]
    have := MB.new ((w.alloc (.cells #[.int .i64 pw, .int .i64 ph, .slice a1 l1.length c1] 57))) ⟨qw, qh⟩ (.slice a2 l2.length c2) 57
    simp only [World.size_alloc] at this
    exact ((this.nw (QBnw _ _)).nw (QBnw _ _))
  have B2 : Hid (W.cell? ⟨w.heap.size + 1 + 1, 0, none⟩ = some (.int .i64 p)) := by
    have h1 : ∀ (w : World) (v : Value) (ty : TypeId), (w.alloc (.cells #[v] ty)).cell? ⟨w.heap.size, 0, none⟩ = some v := fun _ _ _ => by simp
    have h := h1 (((w.alloc (.cells #[.int .i64 pw, .int .i64 ph, .slice a1 l1.length c1] 57)).alloc (.cells #[.int .i64 qw, .int .i64 qh, .slice a2 l2.length c2] 57))) (.int .i64 p) 3
    simp only [World.size_alloc] at h
    show _ = _
    rw [← hW]
    exact ((bcell (QBnw _ _)).1 _ _ (World.block_lt_of_cell? _ ⟨_, 0, none⟩ h)).trans h
  have B3 : Hid (CvQ (w.heap.size + 1 + 1 + 1) W ⟨0, 0⟩ (.slice none 0 0) []) := by
    show CvQ (w.heap.size + 1 + 1 + 1) W ⟨0, 0⟩ (.slice none 0 0) []
    rw [← hW]
    have := CvQ.new ((((w.alloc (.cells #[.int .i64 pw, .int .i64 ph, .slice a1 l1.length c1] 57)).alloc (.cells #[.int .i64 qw, .int .i64 qh, .slice a2 l2.length c2] 57)).alloc (.cells #[.int .i64 p] 3))) 57 ⟨0, 0⟩
    simp only [World.size_alloc] at this
    exact this
  have HW : Hid (_ = W) := hW
  clear hW
  have HC : Hid (shB ⟨pw, ph⟩ l1 = true → shB ⟨qw, qh⟩ l2 = true → l1.length = l2.length → inN p 0 256 = true → ∀ w1 : World, Nw W w1 → ∀ g1, MB w1 g1 ⟨qw, qh⟩ (.slice a2 l2.length c2) → ∀ w2, Nw w1 w2 → Calls Try.prog 99 #[mskV ⟨pw, ph⟩ (.slice a1 l1.length c1), .func (.func 103) #[] #[.pointer (some ⟨g1, 0, none⟩), .pointer (some ⟨w.heap.size + 1 + 1, 0, none⟩)]] w2 fun x w' => ∃ v, x = .returned (mskV ⟨pw, ph⟩ v) ∧ FrQ w' w2.heap.size v (blL l1 (fun j => thinT (edAt l2 j) p) l1.length) ∧ Nw w2 w') := by
    intro b1 b2 hle b5 w1 k1 g1 hg1 w2 k2
    have nn : Nw w w2 := Nw.trans NW.out (Nw.trans k1 k2)
    have hp : 0 ≤ p ∧ p ≤ 256 := by have := b5; unfold inN at this; simpa using this
    refine ibelow w2 ⟨pw, ph⟩ a1 c1 l1 (fun j => thinT (edAt l2 j) p) 103 _ (shB_len b1) (Edgs.nw HR1.out nn) (fun j hj => ok8_of (shB_at b1 j hj)) (fun j hj => ok8_thin (ok8_of (shB_at b2 j (by rw [← hle]; exact hj))) hp) (fun _ _ => by simp [go_sem]) (fun w3 k3 j hj => ?_)
    exact ily1 w3 j g1 (w.heap.size + 1 + 1) p ⟨qw, qh⟩ a2 c2 l2 (((bcell (Nw.trans k1 (Nw.trans k2 k3))).1 _ _ (World.block_lt_of_cell? _ ⟨_, 0, none⟩ B2.out)).trans B2.out) (MB.nw hg1 (Nw.trans k2 k3)) (Edgs.nw HR2.out (Nw.trans nn k3)) (by rw [← hle]; exact hj) (ok8_of (shB_at b2 j (by rw [← hle]; exact hj))) hp
  unfold lyD lyR
  obtain ⟨V, hV⟩ : ∃ V, lyB ⟨pw, ph⟩ ⟨qw, qh⟩ l1 l2 p = V := ⟨_, rfl⟩
  rw [hV]
  have HV : Hid (V = (shB ⟨pw, ph⟩ l1 && (shB ⟨qw, qh⟩ l2 && ((decide (pw = qw) && decide (ph = qh)) && inN p 0 256)))) := by show _ = _; rw [← hV]; unfold lyB; simp only [Bool.and_assoc]
  clear hV
  unfold mskV at HL HS H1 H2 HC ⊢
  simp only at HL HS H1 H2 HC ⊢
  obtain ⟨n1, hn1⟩ : ∃ n, l1.length = n := ⟨_, rfl⟩
  obtain ⟨n2, hn2⟩ : ∃ n, l2.length = n := ⟨_, rfl⟩
  have HN1 : Hid (l1.length = n1) := hn1
  have HN2 : Hid (l2.length = n2) := hn2
  rw [hn1] at HL H1 B0 HW hl1 HC ⊢
  rw [hn2] at H2 B1 HW hl2 HC ⊢
  clear hn1 hn2
  have HBX : Hid (∀ w1, Nw W w1 → MB w1 w.heap.size ⟨pw, ph⟩ (.slice a1 n1 c1) ∧ MB w1 (w.heap.size + 1) ⟨qw, qh⟩ (.slice a2 n2 c2) ∧ w1.cell? ⟨w.heap.size + 1 + 1, 0, none⟩ = some (.int .i64 p) ∧ CvQ (w.heap.size + 1 + 1 + 1) w1 ⟨0, 0⟩ (.slice none 0 0) []) := fun w1 k => ⟨MB.nw B0.out k, MB.nw B1.out k, ((bcell k).1 _ _ (World.block_lt_of_cell? _ ⟨_, 0, none⟩ B2.out)).trans B2.out, CvQ.nw B3.out k⟩
  cases b1 : shB ⟨pw, ph⟩ l1 with
  | false =>
    rw [b1] at H1 HV
    rw [Bool.false_and] at HV
    obtain rfl := HV.out
    clear HV b1 HC
    simp only [Bool.false_eq_true, if_false]
    go_enter Try.func51, Try.ntmps51
    go_wp2
    rw [HW.out]
    refine reg_change (ops' := opsOf 1 Try.f51) (by kernel_rfl) ?_
    refine LSR.run ⟨w.heap.size, w.heap.size + 1, ⟨pw, ph⟩, ⟨qw, qh⟩, a1, n1, c1, a2, n2, c2, W.drew, _⟩ ⟨B0.out.nw ((Below.refl _ _).drew : Nw W W.drew), B1.out.nw ((Below.refl _ _).drew : Nw W W.drew), rfl, rfl, rfl⟩ W (Kp.refl _) ?_
    rintro γ W1 g0 g1 hg0 hg1 k1 hm0 hm1
    have N1b : Hid (Nw W W1) := (undrew k1).nw
    have BL0 : Hid (MB W1 g0 ⟨pw, ph⟩ (.slice a1 n1 c1)) := hm0
    have BL1 : Hid (MB W1 g1 ⟨qw, qh⟩ (.slice a2 n2 c2)) := hm1
    simp only [Act.put, List.setIfInBounds_toArray, List.set_cons_zero, List.set_cons_succ, hg0, hg1]
    clear k1 hm0 hm1 hg0 hg1
    obtain ⟨l0, l1', l2'⟩ := BL0.out
    obtain ⟨m0, m1, m2⟩ := BL1.out
    simp only at l0 l1' l2' m0 m1 m2
    go_wp2_with fail
    refine Calls.mono (H1.out _ (Edgs.nw HR1.out (Nw.trans NW.out N1b.out))) ?_
    rintro e w2 ⟨rfl, k2⟩
    have N2 : Hid (Nw W1 w2) := k2.nw
    clear k2 l0 l1' l2' m0 m1 m2
    obtain ⟨⟨q0, q1, q2⟩, ⟨r0, r1, r2⟩, t0, ⟨z0, z1, z2, zf, _⟩⟩ := HBX.out _ (Nw.trans N1b.out N2.out)
    simp only at q0 q1 q2 r0 r1 r2 z0 z1 z2
    obtain ⟨l0, l1', l2'⟩ := MB.nw BL0.out N2.out
    obtain ⟨m0, m1, m2⟩ := MB.nw BL1.out N2.out
    simp only at l0 l1' l2' m0 m1 m2
    obtain ⟨y0, y1, y2⟩ := set3 w2 (w.heap.size + 1 + 1 + 1) (.int .i64 0) (.int .i64 0) (.slice none 0 0) z0 z1 z2
    go_wp2
    refine bodyPost_ret (v := .tuple #[.agg #[.int .i64 0, .int .i64 0, .slice none 0 0], .bool false]) (by simp [results, Try.results51, go_sem, y0, y1, y2]) rfl ⟨_, rfl, FrQ.nil _ _, ?_⟩
    exact (((Nw.trans NW.out (Nw.trans N1b.out N2.out)).setCell (by first | (simp; done) | (simp; omega)) _).setCell (by first | (simp; done) | (simp; omega)) _).setCell (by first | (simp; done) | (simp; omega)) _
  | true =>
    rw [b1] at H1 HV
    rw [Bool.true_and] at HV
    cases b2 : shB ⟨qw, qh⟩ l2 with
    | false =>
      rw [b2] at H2 HV
      rw [Bool.false_and] at HV
      obtain rfl := HV.out
      clear HV b1 b2 HC
      simp only [Bool.false_eq_true, if_false]
      go_enter Try.func51, Try.ntmps51
      go_wp2
      rw [HW.out]
      refine reg_change (ops' := opsOf 1 Try.f51) (by kernel_rfl) ?_
      refine LSR.run ⟨w.heap.size, w.heap.size + 1, ⟨pw, ph⟩, ⟨qw, qh⟩, a1, n1, c1, a2, n2, c2, W.drew, _⟩ ⟨B0.out.nw ((Below.refl _ _).drew : Nw W W.drew), B1.out.nw ((Below.refl _ _).drew : Nw W W.drew), rfl, rfl, rfl⟩ W (Kp.refl _) ?_
      rintro γ W1 g0 g1 hg0 hg1 k1 hm0 hm1
      have N1b : Hid (Nw W W1) := (undrew k1).nw
      have BL0 : Hid (MB W1 g0 ⟨pw, ph⟩ (.slice a1 n1 c1)) := hm0
      have BL1 : Hid (MB W1 g1 ⟨qw, qh⟩ (.slice a2 n2 c2)) := hm1
      simp only [Act.put, List.setIfInBounds_toArray, List.set_cons_zero, List.set_cons_succ, hg0, hg1]
      clear k1 hm0 hm1 hg0 hg1
      obtain ⟨l0, l1', l2'⟩ := BL0.out
      obtain ⟨m0, m1, m2⟩ := BL1.out
      simp only at l0 l1' l2' m0 m1 m2
      go_wp2_with fail
      refine Calls.mono (H1.out _ (Edgs.nw HR1.out (Nw.trans NW.out N1b.out))) ?_
      rintro e w2 ⟨rfl, k2⟩
      have N2 : Hid (Nw W1 w2) := k2.nw
      clear k2 l0 l1' l2' m0 m1 m2
      obtain ⟨⟨q0, q1, q2⟩, ⟨r0, r1, r2⟩, t0, ⟨z0, z1, z2, zf, _⟩⟩ := HBX.out _ (Nw.trans N1b.out N2.out)
      simp only at q0 q1 q2 r0 r1 r2 z0 z1 z2
      obtain ⟨l0, l1', l2'⟩ := MB.nw BL0.out N2.out
      obtain ⟨m0, m1, m2⟩ := MB.nw BL1.out N2.out
      simp only at l0 l1' l2' m0 m1 m2
      go_wp2_with fail
      refine Calls.mono (H2.out _ (Edgs.nw HR2.out (Nw.trans NW.out (Nw.trans N1b.out N2.out)))) ?_
      rintro e w3 ⟨rfl, k3⟩
      have N3 : Hid (Nw W1 w3) := Nw.trans N2.out k3.nw
      clear k3 l0 l1' l2' m0 m1 m2 q0 q1 q2 r0 r1 r2 t0 z0 z1 z2 zf
      obtain ⟨⟨q0, q1, q2⟩, ⟨r0, r1, r2⟩, t0, ⟨z0, z1, z2, zf, _⟩⟩ := HBX.out _ (Nw.trans N1b.out N3.out)
      simp only at q0 q1 q2 r0 r1 r2 z0 z1 z2
      obtain ⟨l0, l1', l2'⟩ := MB.nw BL0.out N3.out
      obtain ⟨m0, m1, m2⟩ := MB.nw BL1.out N3.out
      simp only at l0 l1' l2' m0 m1 m2
      obtain ⟨y0, y1, y2⟩ := set3 w3 (w.heap.size + 1 + 1 + 1) (.int .i64 0) (.int .i64 0) (.slice none 0 0) z0 z1 z2
      go_wp2
      refine bodyPost_ret (v := .tuple #[.agg #[.int .i64 0, .int .i64 0, .slice none 0 0], .bool false]) (by simp [results, Try.results51, go_sem, y0, y1, y2]) rfl ⟨_, rfl, FrQ.nil _ _, ?_⟩
      exact (((Nw.trans NW.out (Nw.trans N1b.out N3.out)).setCell (by first | (simp; done) | (simp; omega)) _).setCell (by first | (simp; done) | (simp; omega)) _).setCell (by first | (simp; done) | (simp; omega)) _
    | true =>
      rw [b2] at H2 HV
      rw [Bool.true_and] at HV
      cases b3 : (decide (pw = qw) && decide (ph = qh)) with
      | false =>
        rw [b3] at H3 HV
        rw [Bool.false_and] at HV
        obtain rfl := HV.out
        clear HV b1 b2 b3 HC
        simp only [Bool.false_eq_true, if_false]
        go_enter Try.func51, Try.ntmps51
        go_wp2
        rw [HW.out]
        refine reg_change (ops' := opsOf 1 Try.f51) (by kernel_rfl) ?_
        refine LSR.run ⟨w.heap.size, w.heap.size + 1, ⟨pw, ph⟩, ⟨qw, qh⟩, a1, n1, c1, a2, n2, c2, W.drew, _⟩ ⟨B0.out.nw ((Below.refl _ _).drew : Nw W W.drew), B1.out.nw ((Below.refl _ _).drew : Nw W W.drew), rfl, rfl, rfl⟩ W (Kp.refl _) ?_
        rintro γ W1 g0 g1 hg0 hg1 k1 hm0 hm1
        have N1b : Hid (Nw W W1) := (undrew k1).nw
        have BL0 : Hid (MB W1 g0 ⟨pw, ph⟩ (.slice a1 n1 c1)) := hm0
        have BL1 : Hid (MB W1 g1 ⟨qw, qh⟩ (.slice a2 n2 c2)) := hm1
        simp only [Act.put, List.setIfInBounds_toArray, List.set_cons_zero, List.set_cons_succ, hg0, hg1]
        clear k1 hm0 hm1 hg0 hg1
        obtain ⟨l0, l1', l2'⟩ := BL0.out
        obtain ⟨m0, m1, m2⟩ := BL1.out
        simp only at l0 l1' l2' m0 m1 m2
        go_wp2_with fail
        refine Calls.mono (H1.out _ (Edgs.nw HR1.out (Nw.trans NW.out N1b.out))) ?_
        rintro e w2 ⟨rfl, k2⟩
        have N2 : Hid (Nw W1 w2) := k2.nw
        clear k2 l0 l1' l2' m0 m1 m2
        obtain ⟨⟨q0, q1, q2⟩, ⟨r0, r1, r2⟩, t0, ⟨z0, z1, z2, zf, _⟩⟩ := HBX.out _ (Nw.trans N1b.out N2.out)
        simp only at q0 q1 q2 r0 r1 r2 z0 z1 z2
        obtain ⟨l0, l1', l2'⟩ := MB.nw BL0.out N2.out
        obtain ⟨m0, m1, m2⟩ := MB.nw BL1.out N2.out
        simp only at l0 l1' l2' m0 m1 m2
        go_wp2_with fail
        refine Calls.mono (H2.out _ (Edgs.nw HR2.out (Nw.trans NW.out (Nw.trans N1b.out N2.out)))) ?_
        rintro e w3 ⟨rfl, k3⟩
        have N3 : Hid (Nw W1 w3) := Nw.trans N2.out k3.nw
        clear k3 l0 l1' l2' m0 m1 m2 q0 q1 q2 r0 r1 r2 t0 z0 z1 z2 zf
        obtain ⟨⟨q0, q1, q2⟩, ⟨r0, r1, r2⟩, t0, ⟨z0, z1, z2, zf, _⟩⟩ := HBX.out _ (Nw.trans N1b.out N3.out)
        simp only at q0 q1 q2 r0 r1 r2 z0 z1 z2
        obtain ⟨l0, l1', l2'⟩ := MB.nw BL0.out N3.out
        obtain ⟨m0, m1, m2⟩ := MB.nw BL1.out N3.out
        simp only at l0 l1' l2' m0 m1 m2
        go_wp2_with fail
        refine Calls.mono (H3.out _) ?_
        rintro e w4 ⟨rfl, k4⟩
        have N4 : Hid (Nw W1 w4) := Nw.trans N3.out k4.nw
        clear k4 l0 l1' l2' m0 m1 m2 q0 q1 q2 r0 r1 r2 t0 z0 z1 z2 zf
        obtain ⟨⟨q0, q1, q2⟩, ⟨r0, r1, r2⟩, t0, ⟨z0, z1, z2, zf, _⟩⟩ := HBX.out _ (Nw.trans N1b.out N4.out)
        simp only at q0 q1 q2 r0 r1 r2 z0 z1 z2
        obtain ⟨l0, l1', l2'⟩ := MB.nw BL0.out N4.out
        obtain ⟨m0, m1, m2⟩ := MB.nw BL1.out N4.out
        simp only at l0 l1' l2' m0 m1 m2
        obtain ⟨y0, y1, y2⟩ := set3 w4 (w.heap.size + 1 + 1 + 1) (.int .i64 0) (.int .i64 0) (.slice none 0 0) z0 z1 z2
        go_wp2
        refine bodyPost_ret (v := .tuple #[.agg #[.int .i64 0, .int .i64 0, .slice none 0 0], .bool false]) (by simp [results, Try.results51, go_sem, y0, y1, y2]) rfl ⟨_, rfl, FrQ.nil _ _, ?_⟩
        exact (((Nw.trans NW.out (Nw.trans N1b.out N4.out)).setCell (by first | (simp; done) | (simp; omega)) _).setCell (by first | (simp; done) | (simp; omega)) _).setCell (by first | (simp; done) | (simp; omega)) _
      | true =>
        rw [b3] at H3 HV
        rw [Bool.true_and] at HV
        cases b5 : inN p 0 256 with
        | false =>
          rw [b5] at H5 HV
          obtain rfl := HV.out
          clear HV b1 b2 b3 b5 HC
          simp only [Bool.false_eq_true, if_false]
          go_enter Try.func51, Try.ntmps51
          go_wp2
          rw [HW.out]
          refine reg_change (ops' := opsOf 1 Try.f51) (by kernel_rfl) ?_
          refine LSR.run ⟨w.heap.size, w.heap.size + 1, ⟨pw, ph⟩, ⟨qw, qh⟩, a1, n1, c1, a2, n2, c2, W.drew, _⟩ ⟨B0.out.nw ((Below.refl _ _).drew : Nw W W.drew), B1.out.nw ((Below.refl _ _).drew : Nw W W.drew), rfl, rfl, rfl⟩ W (Kp.refl _) ?_
          rintro γ W1 g0 g1 hg0 hg1 k1 hm0 hm1
          have N1b : Hid (Nw W W1) := (undrew k1).nw
          have BL0 : Hid (MB W1 g0 ⟨pw, ph⟩ (.slice a1 n1 c1)) := hm0
          have BL1 : Hid (MB W1 g1 ⟨qw, qh⟩ (.slice a2 n2 c2)) := hm1
          simp only [Act.put, List.setIfInBounds_toArray, List.set_cons_zero, List.set_cons_succ, hg0, hg1]
          clear k1 hm0 hm1 hg0 hg1
          obtain ⟨l0, l1', l2'⟩ := BL0.out
          obtain ⟨m0, m1, m2⟩ := BL1.out
          simp only at l0 l1' l2' m0 m1 m2
          go_wp2_with fail
          refine Calls.mono (H1.out _ (Edgs.nw HR1.out (Nw.trans NW.out N1b.out))) ?_
          rintro e w2 ⟨rfl, k2⟩
          have N2 : Hid (Nw W1 w2) := k2.nw
          clear k2 l0 l1' l2' m0 m1 m2
          obtain ⟨⟨q0, q1, q2⟩, ⟨r0, r1, r2⟩, t0, ⟨z0, z1, z2, zf, _⟩⟩ := HBX.out _ (Nw.trans N1b.out N2.out)
          simp only at q0 q1 q2 r0 r1 r2 z0 z1 z2
          obtain ⟨l0, l1', l2'⟩ := MB.nw BL0.out N2.out
          obtain ⟨m0, m1, m2⟩ := MB.nw BL1.out N2.out
          simp only at l0 l1' l2' m0 m1 m2
          go_wp2_with fail
          refine Calls.mono (H2.out _ (Edgs.nw HR2.out (Nw.trans NW.out (Nw.trans N1b.out N2.out)))) ?_
          rintro e w3 ⟨rfl, k3⟩
          have N3 : Hid (Nw W1 w3) := Nw.trans N2.out k3.nw
          clear k3 l0 l1' l2' m0 m1 m2 q0 q1 q2 r0 r1 r2 t0 z0 z1 z2 zf
          obtain ⟨⟨q0, q1, q2⟩, ⟨r0, r1, r2⟩, t0, ⟨z0, z1, z2, zf, _⟩⟩ := HBX.out _ (Nw.trans N1b.out N3.out)
          simp only at q0 q1 q2 r0 r1 r2 z0 z1 z2
          obtain ⟨l0, l1', l2'⟩ := MB.nw BL0.out N3.out
          obtain ⟨m0, m1, m2⟩ := MB.nw BL1.out N3.out
          simp only at l0 l1' l2' m0 m1 m2
          go_wp2_with fail
          refine Calls.mono (H3.out _) ?_
          rintro e w4 ⟨rfl, k4⟩
          have N4 : Hid (Nw W1 w4) := Nw.trans N3.out k4.nw
          clear k4 l0 l1' l2' m0 m1 m2 q0 q1 q2 r0 r1 r2 t0 z0 z1 z2 zf
          obtain ⟨⟨q0, q1, q2⟩, ⟨r0, r1, r2⟩, t0, ⟨z0, z1, z2, zf, _⟩⟩ := HBX.out _ (Nw.trans N1b.out N4.out)
          simp only at q0 q1 q2 r0 r1 r2 z0 z1 z2
          obtain ⟨l0, l1', l2'⟩ := MB.nw BL0.out N4.out
          obtain ⟨m0, m1, m2⟩ := MB.nw BL1.out N4.out
          simp only at l0 l1' l2' m0 m1 m2
          go_wp2_with fail
          refine Calls.mono (H5.out _) ?_
          rintro e w5 ⟨rfl, k5⟩
          have N5 : Hid (Nw W1 w5) := by rw [k5]; exact N4.out
          clear k5 l0 l1' l2' m0 m1 m2 q0 q1 q2 r0 r1 r2 t0 z0 z1 z2 zf
          obtain ⟨⟨q0, q1, q2⟩, ⟨r0, r1, r2⟩, t0, ⟨z0, z1, z2, zf, _⟩⟩ := HBX.out _ (Nw.trans N1b.out N5.out)
          simp only at q0 q1 q2 r0 r1 r2 z0 z1 z2
          obtain ⟨l0, l1', l2'⟩ := MB.nw BL0.out N5.out
          obtain ⟨m0, m1, m2⟩ := MB.nw BL1.out N5.out
          simp only at l0 l1' l2' m0 m1 m2
          obtain ⟨y0, y1, y2⟩ := set3 w5 (w.heap.size + 1 + 1 + 1) (.int .i64 0) (.int .i64 0) (.slice none 0 0) z0 z1 z2
          go_wp2
          refine bodyPost_ret (v := .tuple #[.agg #[.int .i64 0, .int .i64 0, .slice none 0 0], .bool false]) (by simp [results, Try.results51, go_sem, y0, y1, y2]) rfl ⟨_, rfl, FrQ.nil _ _, ?_⟩
          exact (((Nw.trans NW.out (Nw.trans N1b.out N5.out)).setCell (by first | (simp; done) | (simp; omega)) _).setCell (by first | (simp; done) | (simp; omega)) _).setCell (by first | (simp; done) | (simp; omega)) _
        | true =>
          rw [b5] at H5 HV
          obtain rfl := HV.out
          simp only [if_true]
          have hle : n1 = n2 := by
            have h1 := (shB_some b1).2.2.1
            have h2 := (shB_some b2).2.2.1
            rw [Bool.and_eq_true, decide_eq_true_eq, decide_eq_true_eq] at b3
            rw [HN1.out] at h1
            rw [HN2.out] at h2
            simp only at h1 h2
            rw [b3.1, b3.2, ← h2] at h1
            omega
          have HCB : Hid _ := HC.out b1 b2 hle b5
          have HLL : Hid (lyL l1 l2 p n1 = blL l1 (fun j => thinT (edAt l2 j) p) n1) := by show _ = _; rfl
          rw [HLL.out]
          generalize blL l1 (fun j => thinT (edAt l2 j) p) n1 = L at *
          clear HV b1 b2 b3 b5 HC hle HLL
          go_enter Try.func51, Try.ntmps51
          go_wp2
          rw [HW.out]
          refine reg_change (ops' := opsOf 1 Try.f51) (by kernel_rfl) ?_
          refine LSR.run ⟨w.heap.size, w.heap.size + 1, ⟨pw, ph⟩, ⟨qw, qh⟩, a1, n1, c1, a2, n2, c2, W.drew, _⟩ ⟨B0.out.nw ((Below.refl _ _).drew : Nw W W.drew), B1.out.nw ((Below.refl _ _).drew : Nw W W.drew), rfl, rfl, rfl⟩ W (Kp.refl _) ?_
          rintro γ W1 g0 g1 hg0 hg1 k1 hm0 hm1
          have N1b : Hid (Nw W W1) := (undrew k1).nw
          have BL0 : Hid (MB W1 g0 ⟨pw, ph⟩ (.slice a1 n1 c1)) := hm0
          have BL1 : Hid (MB W1 g1 ⟨qw, qh⟩ (.slice a2 n2 c2)) := hm1
          simp only [Act.put, List.setIfInBounds_toArray, List.set_cons_zero, List.set_cons_succ, hg0, hg1]
          clear k1 hm0 hm1 hg0 hg1
          obtain ⟨l0, l1', l2'⟩ := BL0.out
          obtain ⟨m0, m1, m2⟩ := BL1.out
          simp only at l0 l1' l2' m0 m1 m2
          go_wp2_with fail
          refine Calls.mono (H1.out _ (Edgs.nw HR1.out (Nw.trans NW.out N1b.out))) ?_
          rintro e w2 ⟨rfl, k2⟩
          have N2 : Hid (Nw W1 w2) := k2.nw
          clear k2 l0 l1' l2' m0 m1 m2
          obtain ⟨⟨q0, q1, q2⟩, ⟨r0, r1, r2⟩, t0, ⟨z0, z1, z2, zf, _⟩⟩ := HBX.out _ (Nw.trans N1b.out N2.out)
          simp only at q0 q1 q2 r0 r1 r2 z0 z1 z2
          obtain ⟨l0, l1', l2'⟩ := MB.nw BL0.out N2.out
          obtain ⟨m0, m1, m2⟩ := MB.nw BL1.out N2.out
          simp only at l0 l1' l2' m0 m1 m2
          go_wp2_with fail
          refine Calls.mono (H2.out _ (Edgs.nw HR2.out (Nw.trans NW.out (Nw.trans N1b.out N2.out)))) ?_
          rintro e w3 ⟨rfl, k3⟩
          have N3 : Hid (Nw W1 w3) := Nw.trans N2.out k3.nw
          clear k3 l0 l1' l2' m0 m1 m2 q0 q1 q2 r0 r1 r2 t0 z0 z1 z2 zf
          obtain ⟨⟨q0, q1, q2⟩, ⟨r0, r1, r2⟩, t0, ⟨z0, z1, z2, zf, _⟩⟩ := HBX.out _ (Nw.trans N1b.out N3.out)
          simp only at q0 q1 q2 r0 r1 r2 z0 z1 z2
          obtain ⟨l0, l1', l2'⟩ := MB.nw BL0.out N3.out
          obtain ⟨m0, m1, m2⟩ := MB.nw BL1.out N3.out
          simp only at l0 l1' l2' m0 m1 m2
          go_wp2_with fail
          refine Calls.mono (H3.out _) ?_
          rintro e w4 ⟨rfl, k4⟩
          have N4 : Hid (Nw W1 w4) := Nw.trans N3.out k4.nw
          clear k4 l0 l1' l2' m0 m1 m2 q0 q1 q2 r0 r1 r2 t0 z0 z1 z2 zf
          obtain ⟨⟨q0, q1, q2⟩, ⟨r0, r1, r2⟩, t0, ⟨z0, z1, z2, zf, _⟩⟩ := HBX.out _ (Nw.trans N1b.out N4.out)
          simp only at q0 q1 q2 r0 r1 r2 z0 z1 z2
          obtain ⟨l0, l1', l2'⟩ := MB.nw BL0.out N4.out
          obtain ⟨m0, m1, m2⟩ := MB.nw BL1.out N4.out
          simp only at l0 l1' l2' m0 m1 m2
          go_wp2_with fail
          refine Calls.mono (H5.out _) ?_
          rintro e w5 ⟨rfl, k5⟩
          have N5 : Hid (Nw W1 w5) := by rw [k5]; exact N4.out
          clear k5 l0 l1' l2' m0 m1 m2 q0 q1 q2 r0 r1 r2 t0 z0 z1 z2 zf
          obtain ⟨⟨q0, q1, q2⟩, ⟨r0, r1, r2⟩, t0, ⟨z0, z1, z2, zf, _⟩⟩ := HBX.out _ (Nw.trans N1b.out N5.out)
          simp only at q0 q1 q2 r0 r1 r2 z0 z1 z2
          obtain ⟨l0, l1', l2'⟩ := MB.nw BL0.out N5.out
          obtain ⟨m0, m1, m2⟩ := MB.nw BL1.out N5.out
          simp only at l0 l1' l2' m0 m1 m2
          have hpl : w.heap.size + 1 + 1 + 1 < w5.heap.size := World.block_lt_of_cell? w5 ⟨_, 0, none⟩ z0
          have HPL : Hid (w.heap.size + 1 + 1 + 1 < w5.heap.size) := hpl
          clear hpl
          go_wp2_with fail
          refine Calls.mono (HCB.out _ N1b.out _ BL1.out _ N5.out) ?_
          rintro e w6 ⟨v, rfl, hfr, k6⟩
          obtain ⟨va, vn, vc, hv⟩ := hfr.slice
          subst hv
          have HFR : Hid (FrQ w6 w5.heap.size (.slice va vn vc) L) := hfr
          have N6 : Hid (Nw W1 w6) := Nw.trans N5.out k6
          clear hfr k6 q0 q1 q2 r0 r1 r2 t0 z0 z1 z2 zf l0 l1' l2' m0 m1 m2
          go_wp2_with fail
          refine Calls.mono (HS.out _ va vn vc) ?_
          rintro e w7 ⟨rfl, k7⟩
          have N67 : Hid (Nw w6 w7) := Nw.trans (QBnw _ _) k7.nw
          have N7 : Hid (Nw W1 w7) := Nw.trans N6.out N67.out
          clear k7
          obtain ⟨⟨q0, q1, q2⟩, ⟨r0, r1, r2⟩, t0, ⟨z0, z1, z2, zf, _⟩⟩ := HBX.out _ (Nw.trans N1b.out N7.out)
          simp only at q0 q1 q2 r0 r1 r2 z0 z1 z2
          obtain ⟨y0, y1, y2⟩ := set3 w7 (w.heap.size + 1 + 1 + 1) (.int .i64 pw) (.int .i64 ph) (.slice va vn vc) z0 z1 z2
          go_wp2
          refine bodyPost_ret (v := .tuple #[.agg #[.int .i64 pw, .int .i64 ph, .slice va vn vc], .bool true]) (by simp [results, Try.results51, go_sem, y0, y1, y2]) rfl ⟨_, rfl, ?_, ?_⟩
          · have h := (((FrQ.nw HFR.out N67.out).far (w.heap.size + 1 + 1 + 1) 0 (.int .i64 pw) HPL.out).far (w.heap.size + 1 + 1 + 1) 1 (.int .i64 ph) HPL.out).far (w.heap.size + 1 + 1 + 1) 2 (.slice va vn vc) HPL.out
            exact ⟨h.1, fun b hb => by have := h.2 b hb; have := HPL.out; omega⟩
          · exact (((Nw.trans NW.out (Nw.trans N1b.out N7.out)).setCell (by first | (simp; done) | (simp; omega)) _).setCell (by first | (simp; done) | (simp; omega)) _).setCell (by first | (simp; done) | (simp; omega)) _
end Go.Proofs.Ythlohbiocfeapaa
