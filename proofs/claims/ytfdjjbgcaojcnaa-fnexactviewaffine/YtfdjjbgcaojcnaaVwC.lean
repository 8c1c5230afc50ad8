/-
  ViewAffine of the program, and the walk of the law; no condition but that the numbers are ints.
-/
import Derived.Test.YtfdjjbgcaojcnaaVwB
namespace Go.Proofs.Ytfdjjbgcaojcnaa
open Go.ChangeShapes Go.WideShapes Go.ChangeAt Go.RowKit
set_option linter.unusedVariables false

theorem iall4 (W : World) (b : Nat) (x y z u : Int) (h0 : W.cell? ⟨b, 0, none⟩ = some (.int .i64 x)) (h1 : W.cell? ⟨b, 1, none⟩ = some (.int .i64 y)) (h2 : W.cell? ⟨b, 2, none⟩ = some (.int .i64 z)) (h3 : W.cell? ⟨b, 3, none⟩ = some (.int .i64 u)) :
    Calls Try.prog 67 #[.slice (some ⟨b, 0, none⟩) 4 4] W fun e w' => e = .returned (.bool (fixB x && fixB y && fixB z && fixB u)) ∧ w' = W := by
  refine Calls.mono (iall_any W b 0 4 [x, y, z, u] (by simp) ?_) ?_
  · intro i hi
    have hc : i = 0 ∨ i = 1 ∨ i = 2 ∨ i = 3 := by simp at hi; omega
    rcases hc with rfl | rfl | rfl | rfl
    · exact h0
    · exact h1
    · exact h2
    · exact h3
  · rintro e w' ⟨rfl, rfl⟩
    exact ⟨ret_bool (by simp [Bool.and_assoc]), rfl⟩
set_option maxRecDepth 100000 in
set_option maxHeartbeats 4000000 in
theorem iviewA (w : World) (wide high x y vw vh : Int) :
    Calls Try.prog 26 #[.int .i64 wide, .int .i64 high, .int .i64 x, .int .i64 y, .int .i64 vw, .int .i64 vh] w fun e w' => e = .returned (vwR (vwV wide high x y vw vh)) ∧ Kp w w' := by
  have H0 : Hid _ := fun w => igoodSide w wide
  have H1 : Hid _ := fun w => igoodSide w high
  have H2 : Hid _ := fun W b => iall4 W b x y vw vh
  have HN : Hid (vwB wide high x y vw vh = false → _) := fun h => vwV_no h
  unfold vwR
  cases hb0 : sideB wide with
  | false =>
    have hn : vwB wide high x y vw vh = false := by unfold vwB; rw [hb0]; simp
    rw [HN.out hn]
    rw [hb0] at H0
    clear HN hn hb0
    go_enter Try.func26, Try.ntmps26
    go_wp2_with fail
    refine Calls.mono (H0.out _) ?_
    rintro e w0 ⟨rfl, rfl⟩
    go_wp2
    exact bodyPost_ret (v := .tuple #[.agg #[.int .i64 0, .int .i64 0, .int .i64 0, .int .i64 0, .int .i64 0, .int .i64 0], .bool false]) (by simp [results, Try.results26, go_sem]) rfl ⟨rfl, (Kp.refl w).alloc _ _⟩
  | true =>
    rw [hb0] at H0
    cases hb1 : sideB high with
    | false =>
      have hn : vwB wide high x y vw vh = false := by unfold vwB; rw [hb0, hb1]; simp
      rw [HN.out hn]
      rw [hb1] at H1
      clear HN hn hb0 hb1
      go_enter Try.func26, Try.ntmps26
      go_wp2_with fail
      refine Calls.mono (H0.out _) ?_
      rintro e w0 ⟨rfl, rfl⟩
      go_wp2_with fail
      refine Calls.mono (H1.out _) ?_
      rintro e w1 ⟨rfl, rfl⟩
      go_wp2
      exact bodyPost_ret (v := .tuple #[.agg #[.int .i64 0, .int .i64 0, .int .i64 0, .int .i64 0, .int .i64 0, .int .i64 0], .bool false]) (by simp [results, Try.results26, go_sem]) rfl ⟨rfl, (Kp.refl w).alloc _ _⟩
    | true =>
      rw [hb1] at H1
      cases hb2 : (fixB x && fixB y && fixB vw && fixB vh) with
      | false =>
        have hn : vwB wide high x y vw vh = false := by
            unfold vwB; rw [hb0, hb1]
            cases hx : fixB x <;> cases hy : fixB y <;> simp only [hx, hy, Bool.true_and, Bool.false_and, Bool.and_false] at hb2 ⊢
            cases h1 : fixB vw with
            | false =>
              have : aboveB vw = false := by have := fixB_no.1 h1; unfold aboveB; simp; omega
              rw [this]; rfl
            | true =>
              rw [h1] at hb2
              have h2 : fixB vh = false := hb2
              have : aboveB vh = false := by have := fixB_no.1 h2; unfold aboveB; simp; omega
              rw [this]; simp
        rw [HN.out hn]
        rw [hb2] at H2
        clear HN hn hb0 hb1 hb2
        go_enter Try.func26, Try.ntmps26
        go_wp2_with fail
        refine Calls.mono (H0.out _) ?_
        rintro e w0 ⟨rfl, rfl⟩
        go_wp2_with fail
        refine Calls.mono (H1.out _) ?_
        rintro e w1 ⟨rfl, rfl⟩
        go_wp2_with fail
        refine Calls.mono (H2.out _ _ (by simp) (by simp) (by simp) (by simp)) ?_
        rintro e w2 ⟨rfl, rfl⟩
        go_wp2
        exact bodyPost_ret (v := .tuple #[.agg #[.int .i64 0, .int .i64 0, .int .i64 0, .int .i64 0, .int .i64 0, .int .i64 0], .bool false]) (by simp [results, Try.results26, go_sem]) rfl ⟨rfl, ((Kp.refl w).alloc _ _).alloc _ _⟩
      | true =>
        rw [hb2] at H2
        obtain ⟨M, hM⟩ : ∃ M : Int, (if vh < vw then vh else vw) = M := ⟨_, rfl⟩
        simp only [Bool.and_eq_true] at hb2
        obtain ⟨⟨⟨hx, hy⟩, hvw⟩, hvh⟩ := hb2
        by_cases hm : M ≤ 0
        · have hn : vwB wide high x y vw vh = false := by
            unfold vwB
            rw [hb0, hb1, hx, hy]
            split at hM
            · have : aboveB vh = false := by unfold aboveB; simp; omega
              rw [this]; simp
            · have : aboveB vw = false := by unfold aboveB; simp; omega
              rw [this]; simp
          rw [HN.out hn]
          clear HN hn hb0 hb1 hx hy hvw hvh
          go_enter Try.func26, Try.ntmps26
          go_wp2_with fail
          refine Calls.mono (H0.out _) ?_
          rintro e w0 ⟨rfl, rfl⟩
          go_wp2_with fail
          refine Calls.mono (H1.out _) ?_
          rintro e w1 ⟨rfl, rfl⟩
          go_wp2_with fail
          refine Calls.mono (H2.out _ _ (by simp) (by simp) (by simp) (by simp)) ?_
          rintro e w2 ⟨rfl, rfl⟩
          go_wp2
          exact bodyPost_ret (v := .tuple #[.agg #[.int .i64 0, .int .i64 0, .int .i64 0, .int .i64 0, .int .i64 0, .int .i64 0], .bool false]) (by simp [results, Try.results26, go_sem]) rfl ⟨rfl, ((Kp.refl w).alloc _ _).alloc _ _⟩
        · have hm2 : decide (M ≤ 0) = false := by simp; omega
          have hy2 : vwB wide high x y vw vh = true := by
            have h1 := fixB_iff.1 hvw
            have h2 := fixB_iff.1 hvh
            unfold vwB
            rw [hb0, hb1, hx, hy, aboveB_iff.2 (by split at hM <;> omega), aboveB_iff.2 (by split at hM <;> omega)]; simp
          have g1 := sideB_iff.1 hb0
          have g2 := sideB_iff.1 hb1
          have HD1 : Hid _ := fun w => ifd (wide * 65536) vw w
          have HD2 : Hid _ := fun w => ifd (high * 65536) vh w
          obtain ⟨s, hs⟩ : ∃ s, vwS wide high vw vh = s := ⟨_, rfl⟩
          have hv : Hid (vwV wide high x y vw vh = if gA s 0 0 s (vwE wide x vw s) (vwE high y vh s) = true then (s, vwE wide x vw s, vwE high y vh s, true) else (0, 0, 0, false)) := by
            show _ = _
            unfold vwV; rw [hs]
            cases hg : gA s 0 0 s (vwE wide x vw s) (vwE high y vh s) with
            | true => rw [if_pos ⟨hy2, rfl⟩, if_pos rfl]
            | false => rw [if_neg (fun e => absurd e.2 (by decide)), if_neg (by decide)]
          have HM1 : Hid _ := fun w => ifm vw s w
          have HM2 : Hid _ := fun w => ifm x s w
          have HM3 : Hid _ := fun w => ifm vh s w
          have HM4 : Hid _ := fun w => ifm y s w
          have HG : Hid _ := fun w => igoodAff w s 0 0 s (vwE wide x vw s) (vwE high y vh s)
          unfold affV at HG
          have b1 := fmV_bd vw s
          have b2 := fmV_bd x s
          have b3 := fmV_bd vh s
          have b4 := fmV_bd y s
          clear HN hb0 hb1 hx hy hvw hvh hy2
          unfold vwS at hs
          unfold vwE at hv HG
          generalize divV (wide * 65536) vw = p at *
          generalize divV (high * 65536) vh = q at *
          generalize fmV vw s = m1 at *
          generalize fmV x s = m2 at *
          generalize fmV vh s = m3 at *
          generalize fmV y s = m4 at *
          have HQ1 : Hid _ := fun w => divDown_any (wide * 65536 - m1) 2 w (by decide) (by decide) (by omega) (by omega)
          have HQ2 : Hid _ := fun w => divDown_any (high * 65536 - m3) 2 w (by decide) (by decide) (by omega) (by omega)
          have c1 : -4611686018427387904 ≤ (wide * 65536 - m1) / 2 ∧ (wide * 65536 - m1) / 2 ≤ 4611686018427387904 := by omega
          have c2 : -4611686018427387904 ≤ (high * 65536 - m3) / 2 ∧ (high * 65536 - m3) / 2 ≤ 4611686018427387904 := by omega
          generalize (wide * 65536 - m1) / 2 = d1 at *
          generalize (high * 65536 - m3) / 2 = d2 at *
          cases hg : gA s 0 0 s (d1 - m2) (d2 - m4) with
          | true =>
            rw [hv.out, hg, if_pos rfl]
            rw [hg] at HG
            clear hv hg
            go_enter Try.func26, Try.ntmps26
            go_wp2_with fail
            refine Calls.mono (H0.out _) ?_
            rintro e w0 ⟨rfl, rfl⟩
            go_wp2_with fail
            refine Calls.mono (H1.out _) ?_
            rintro e w1 ⟨rfl, rfl⟩
            go_wp2_with fail
            refine Calls.mono (H2.out _ _ (by simp) (by simp) (by simp) (by simp)) ?_
            rintro e w2 ⟨rfl, rfl⟩
            go_wp2_with fail
            refine Calls.mono (HD1.out _) ?_
            rintro e w9 ⟨rfl, rfl⟩
            go_wp2_with fail
            refine Calls.mono (HD2.out _) ?_
            rintro e w9 ⟨rfl, rfl⟩
            go_wp2_with fail
            refine Calls.mono (HM1.out _) ?_
            rintro e w9 ⟨rfl, rfl⟩
            go_wp2_with fail
            refine Calls.mono (HQ1.out _) ?_
            rintro e w9 ⟨rfl, rfl⟩
            go_wp2_with fail
            refine Calls.mono (HM2.out _) ?_
            rintro e w9 ⟨rfl, rfl⟩
            go_wp2_with fail
            refine Calls.mono (HM3.out _) ?_
            rintro e w9 ⟨rfl, rfl⟩
            go_wp2_with fail
            refine Calls.mono (HQ2.out _) ?_
            rintro e w9 ⟨rfl, rfl⟩
            go_wp2_with fail
            refine Calls.mono (HM4.out _) ?_
            rintro e w9 ⟨rfl, rfl⟩
            go_wp2_with fail
            refine Calls.mono (HG.out _) ?_
            rintro e w3 ⟨rfl, k3⟩
            have K3 : Hid (Kp w w3) := Kp.trans ((((Kp.refl w).alloc _ _).alloc _ _).alloc _ _) k3
            have KZ : Hid _ := box6 w w3 _ (Kp.trans (((Kp.refl _).alloc _ _).alloc _ _) k3)
            have c6 := lbox6 k3
            simp only [World.size_alloc] at c6
            obtain ⟨c0, c1, c2, c3, c4, c5⟩ := c6
            clear k3
            obtain ⟨⟨z0, z1, z2, z3, z4, z5⟩, zf⟩ := KZ.out
            go_wp2
            obtain ⟨y0, y1, y2, y3, y4, y5⟩ := set6 w3 w.heap.size (.int .i64 s) (.int .i64 0) (.int .i64 0) (.int .i64 s) (.int .i64 (d1 - m2)) (.int .i64 (d2 - m4)) z0 z1 z2 z3 z4 z5
            refine bodyPost_ret (v := .tuple #[.agg #[.int .i64 s, .int .i64 0, .int .i64 0, .int .i64 s, .int .i64 (d1 - m2), .int .i64 (d2 - m4)], .bool true]) (by simp [results, Try.results26, go_sem, y0, y1, y2, y3, y4, y5]) rfl ⟨rfl, ?_⟩
            exact kp_set6 _ _ _ _ _ _ _ K3.out (Nat.le_refl _)
          | false =>
            rw [hv.out, hg, if_neg (by decide)]
            rw [hg] at HG
            clear hv hg
            go_enter Try.func26, Try.ntmps26
            go_wp2_with fail
            refine Calls.mono (H0.out _) ?_
            rintro e w0 ⟨rfl, rfl⟩
            go_wp2_with fail
            refine Calls.mono (H1.out _) ?_
            rintro e w1 ⟨rfl, rfl⟩
            go_wp2_with fail
            refine Calls.mono (H2.out _ _ (by simp) (by simp) (by simp) (by simp)) ?_
            rintro e w2 ⟨rfl, rfl⟩
            go_wp2_with fail
            refine Calls.mono (HD1.out _) ?_
            rintro e w9 ⟨rfl, rfl⟩
            go_wp2_with fail
            refine Calls.mono (HD2.out _) ?_
            rintro e w9 ⟨rfl, rfl⟩
            go_wp2_with fail
            refine Calls.mono (HM1.out _) ?_
            rintro e w9 ⟨rfl, rfl⟩
            go_wp2_with fail
            refine Calls.mono (HQ1.out _) ?_
            rintro e w9 ⟨rfl, rfl⟩
            go_wp2_with fail
            refine Calls.mono (HM2.out _) ?_
            rintro e w9 ⟨rfl, rfl⟩
            go_wp2_with fail
            refine Calls.mono (HM3.out _) ?_
            rintro e w9 ⟨rfl, rfl⟩
            go_wp2_with fail
            refine Calls.mono (HQ2.out _) ?_
            rintro e w9 ⟨rfl, rfl⟩
            go_wp2_with fail
            refine Calls.mono (HM4.out _) ?_
            rintro e w9 ⟨rfl, rfl⟩
            go_wp2_with fail
            refine Calls.mono (HG.out _) ?_
            rintro e w3 ⟨rfl, k3⟩
            have K3 : Hid (Kp w w3) := Kp.trans ((((Kp.refl w).alloc _ _).alloc _ _).alloc _ _) k3
            have KZ : Hid _ := box6 w w3 _ (Kp.trans (((Kp.refl _).alloc _ _).alloc _ _) k3)
            have c6 := lbox6 k3
            simp only [World.size_alloc] at c6
            obtain ⟨c0, c1, c2, c3, c4, c5⟩ := c6
            clear k3
            obtain ⟨⟨z0, z1, z2, z3, z4, z5⟩, zf⟩ := KZ.out
            go_wp2
            obtain ⟨y0, y1, y2, y3, y4, y5⟩ := set6 w3 w.heap.size (.int .i64 0) (.int .i64 0) (.int .i64 0) (.int .i64 0) (.int .i64 0) (.int .i64 0) z0 z1 z2 z3 z4 z5
            refine bodyPost_ret (v := .tuple #[.agg #[.int .i64 0, .int .i64 0, .int .i64 0, .int .i64 0, .int .i64 0, .int .i64 0], .bool false]) (by simp [results, Try.results26, go_sem, y0, y1, y2, y3, y4, y5]) rfl ⟨rfl, ?_⟩
            exact kp_set6 _ _ _ _ _ _ _ K3.out (Nat.le_refl _)
theorem eqAff_same (w : World) (a b c d e f : Int) : Calls Try.prog 27 #[affV a b c d e f, affV a b c d e f] w fun x w' => x = .returned (.bool true) ∧ Kp w w' := by
  unfold affV
  go_enter Try.func27, Try.ntmps27
  go_wp2
  go_ret
  exact ⟨rfl, ((Kp.refl w).alloc _ _).alloc _ _⟩
set_option maxRecDepth 100000 in
set_option maxHeartbeats 4000000 in
/-- The walk of the law on ViewAffine. -/
theorem walk_view (w : World) (wide high x y vw vh : Int) (h0 : -9223372036854775808 ≤ wide ∧ wide ≤ 9223372036854775807) (h1 : -9223372036854775808 ≤ high ∧ high ≤ 9223372036854775807) (h2 : -9223372036854775808 ≤ x ∧ x ≤ 9223372036854775807) (h3 : -9223372036854775808 ≤ y ∧ y ≤ 9223372036854775807) (h4 : -9223372036854775808 ≤ vw ∧ vw ≤ 9223372036854775807) (h5 : -9223372036854775808 ≤ vh ∧ vh ≤ 9223372036854775807) :
    Calls Try.prog 5 #[.int .i64 wide, .int .i64 high, .int .i64 x, .int .i64 y, .int .i64 vw, .int .i64 vh] w fun e w' => e = .returned (.bool true) ∧ Below w.heap.size w w' := by
  clear h0 h1 h2 h3 h4 h5
  have HS : Hid _ := fun w => sviewA w wide high x y vw vh
  have HI : Hid _ := fun w => iviewA w wide high x y vw vh
  unfold vwR at HS HI
  generalize vwV wide high x y vw vh = r at *
  obtain ⟨s, E, F, b⟩ := r
  have HE : Hid _ := fun w => eqAff_same w s 0 0 s E F
  unfold affV at HE
  have hb : (b != b) = false := by cases b <;> rfl
  go_enter Try.func5, Try.ntmps5
  go_wp2_with fail
  refine Calls.mono (HS.out _) ?_
  rintro e w1 ⟨rfl, k1⟩
  have K1 : Hid (Kp w w1) := k1
  clear k1
  go_wp2_with fail
  refine Calls.mono (HI.out _) ?_
  rintro e w2 ⟨rfl, k2⟩
  have c6 := lbox6 (Kp.trans k2 ((Kp.refl w2).alloc #[.int .i64 s, .int .i64 0, .int .i64 0, .int .i64 s, .int .i64 E, .int .i64 F] 31))
  have K2 : Hid (Kp w w2) := Kp.trans (K1.out.alloc _ _) k2
  clear k2 K1
  obtain ⟨c0, c1, c2, c3, c4, c5⟩ := c6
  go_wp2_with fail
  refine Calls.mono (HE.out _) ?_
  rintro e w3 ⟨rfl, k3⟩
  have K3 : Hid (Kp w w3) := Kp.trans (K2.out.alloc _ _) k3
  clear k3 K2
  go_wp2
  go_ret
  exact ⟨rfl, K3.out.1⟩
end Go.Proofs.Ytfdjjbgcaojcnaa
