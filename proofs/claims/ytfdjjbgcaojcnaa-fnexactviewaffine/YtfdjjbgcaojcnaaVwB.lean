/-
  ViewAffine of both in one word, and the walk of the law; no condition but that the numbers are ints.
-/
import Derived.Test.YtfdjjbgcaojcnaaVwA
namespace Go.Proofs.Ytfdjjbgcaojcnaa
open Go.ChangeShapes Go.WideShapes Go.ChangeAt Go.RowKit
set_option linter.unusedVariables false

/-- What ViewAffine answers: the scale, the two moves, and whether they are told. -/
def vwV (wide high x y vw vh : Int) : Int × Int × Int × Bool :=
  if vwB wide high x y vw vh = true ∧ gA (vwS wide high vw vh) 0 0 (vwS wide high vw vh) (vwE wide x vw (vwS wide high vw vh)) (vwE high y vh (vwS wide high vw vh)) = true then (vwS wide high vw vh, vwE wide x vw (vwS wide high vw vh), vwE high y vh (vwS wide high vw vh), true) else (0, 0, 0, false)
abbrev vwR (v : Int × Int × Int × Bool) : Value := .tuple #[.agg #[.int .i64 v.1, .int .i64 0, .int .i64 0, .int .i64 v.1, .int .i64 v.2.1, .int .i64 v.2.2.1], .bool v.2.2.2]
theorem vwV_no {wide high x y vw vh : Int} (h : vwB wide high x y vw vh = false) : vwV wide high x y vw vh = (0, 0, 0, false) := by
  unfold vwV; rw [if_neg (fun e => by rw [h] at e; exact absurd e.1 (by decide))]
theorem sideB_iff {n : Int} : sideB n = true ↔ 1 ≤ n ∧ n ≤ 36 := by unfold sideB; simp
theorem aboveB_iff {n : Int} : aboveB n = true ↔ 1 ≤ n ∧ n ≤ 1099511627776 := by unfold aboveB; simp
theorem sabove (w : World) (n : Int) : Calls Try.prog 34 #[.int .i64 n, .int .i64 1, .int .i64 1099511627776] w fun e w' => e = .returned (.bool (aboveB n)) ∧ w' = w := in_any w n 1 1099511627776
/-- Six values that were made a box just now, later on. -/
theorem lbox6 {w w1 : World} {x0 x1 x2 x3 x4 x5 : Value} {t : TypeId} (k : Kp (w.alloc (.cells #[x0, x1, x2, x3, x4, x5] t)) w1) :
    w1.cell? ⟨w.heap.size, 0, none⟩ = some x0 ∧ w1.cell? ⟨w.heap.size, 1, none⟩ = some x1 ∧ w1.cell? ⟨w.heap.size, 2, none⟩ = some x2 ∧ w1.cell? ⟨w.heap.size, 3, none⟩ = some x3 ∧ w1.cell? ⟨w.heap.size, 4, none⟩ = some x4 ∧ w1.cell? ⟨w.heap.size, 5, none⟩ = some x5 := by
  have hs : w.heap.size < (w.alloc (.cells #[x0, x1, x2, x3, x4, x5] t)).heap.size := by simp
  exact ⟨(k.cells.1 _ _ hs).trans (by simp), (k.cells.1 _ _ hs).trans (by simp), (k.cells.1 _ _ hs).trans (by simp), (k.cells.1 _ _ hs).trans (by simp), (k.cells.1 _ _ hs).trans (by simp), (k.cells.1 _ _ hs).trans (by simp)⟩
set_option maxRecDepth 100000 in
set_option maxHeartbeats 4000000 in
theorem sviewA (w : World) (wide high x y vw vh : Int) :
    Calls Try.prog 25 #[.int .i64 wide, .int .i64 high, .int .i64 x, .int .i64 y, .int .i64 vw, .int .i64 vh] w fun e w' => e = .returned (vwR (vwV wide high x y vw vh)) ∧ Kp w w' := by
  have H0 : Hid _ := fun w => sl3side w wide
  have H1 : Hid _ := fun w => sl3side w high
  have H2 : Hid _ := fun w => sgoodF x w
  have H3 : Hid _ := fun w => sgoodF y w
  have H4 : Hid _ := fun w => sabove w vw
  have H5 : Hid _ := fun w => sabove w vh
  have HV : Hid (sideB wide = true → sideB high = true → ∀ w, _) := fun h1 h2 w => sview w wide high x y vw vh (sideB_iff.1 h1) (sideB_iff.1 h2)
  have HN : Hid (vwB wide high x y vw vh = false → _) := fun h => vwV_no h
  have KW : Hid (∀ w1, Kp (w.alloc (.cells #[.int .i64 0, .int .i64 0, .int .i64 0, .int .i64 0, .int .i64 0, .int .i64 0] 31)) w1 → _) := fun w1 k => box6 w w1 _ k
  unfold vwR
  cases hb0 : sideB wide with
  | false =>
    have hn : vwB wide high x y vw vh = false := by unfold vwB; rw [hb0]; simp
    rw [HN.out hn]
    rw [hb0] at H0
    clear HN hn HV hb0
    go_enter Try.func25, Try.ntmps25
    go_wp2_with fail
    refine Calls.mono (H0.out _) ?_
    rintro e w0 ⟨rfl, rfl⟩
    go_wp2
    exact bodyPost_ret (v := .tuple #[.agg #[.int .i64 0, .int .i64 0, .int .i64 0, .int .i64 0, .int .i64 0, .int .i64 0], .bool false]) (by simp [results, Try.results25, go_sem]) rfl ⟨rfl, (Kp.refl w).alloc _ _⟩
  | true =>
    rw [hb0] at H0
    cases hb1 : sideB high with
    | false =>
      have hn : vwB wide high x y vw vh = false := by unfold vwB; rw [hb0, hb1]; simp
      rw [HN.out hn]
      rw [hb1] at H1
      clear HN hn HV hb0 hb1
      go_enter Try.func25, Try.ntmps25
      go_wp2_with fail
      refine Calls.mono (H0.out _) ?_
      rintro e w0 ⟨rfl, rfl⟩
      go_wp2_with fail
      refine Calls.mono (H1.out _) ?_
      rintro e w1 ⟨rfl, rfl⟩
      go_wp2
      exact bodyPost_ret (v := .tuple #[.agg #[.int .i64 0, .int .i64 0, .int .i64 0, .int .i64 0, .int .i64 0, .int .i64 0], .bool false]) (by simp [results, Try.results25, go_sem]) rfl ⟨rfl, (Kp.refl w).alloc _ _⟩
    | true =>
      rw [hb1] at H1
      cases hb2 : fixB x with
      | false =>
        have hn : vwB wide high x y vw vh = false := by unfold vwB; rw [hb0, hb1, hb2]; simp
        rw [HN.out hn]
        rw [hb2] at H2
        clear HN hn HV hb0 hb1 hb2
        go_enter Try.func25, Try.ntmps25
        go_wp2_with fail
        refine Calls.mono (H0.out _) ?_
        rintro e w0 ⟨rfl, rfl⟩
        go_wp2_with fail
        refine Calls.mono (H1.out _) ?_
        rintro e w1 ⟨rfl, rfl⟩
        go_wp2_with fail
        refine Calls.mono (H2.out _) ?_
        rintro e w2 ⟨rfl, rfl⟩
        go_wp2
        exact bodyPost_ret (v := .tuple #[.agg #[.int .i64 0, .int .i64 0, .int .i64 0, .int .i64 0, .int .i64 0, .int .i64 0], .bool false]) (by simp [results, Try.results25, go_sem]) rfl ⟨rfl, (Kp.refl w).alloc _ _⟩
      | true =>
        rw [hb2] at H2
        cases hb3 : fixB y with
        | false =>
          have hn : vwB wide high x y vw vh = false := by unfold vwB; rw [hb0, hb1, hb2, hb3]; simp
          rw [HN.out hn]
          rw [hb3] at H3
          clear HN hn HV hb0 hb1 hb2 hb3
          go_enter Try.func25, Try.ntmps25
          go_wp2_with fail
          refine Calls.mono (H0.out _) ?_
          rintro e w0 ⟨rfl, rfl⟩
          go_wp2_with fail
          refine Calls.mono (H1.out _) ?_
          rintro e w1 ⟨rfl, rfl⟩
          go_wp2_with fail
          refine Calls.mono (H2.out _) ?_
          rintro e w2 ⟨rfl, rfl⟩
          go_wp2_with fail
          refine Calls.mono (H3.out _) ?_
          rintro e w3 ⟨rfl, rfl⟩
          go_wp2
          exact bodyPost_ret (v := .tuple #[.agg #[.int .i64 0, .int .i64 0, .int .i64 0, .int .i64 0, .int .i64 0, .int .i64 0], .bool false]) (by simp [results, Try.results25, go_sem]) rfl ⟨rfl, (Kp.refl w).alloc _ _⟩
        | true =>
          rw [hb3] at H3
          cases hb4 : aboveB vw with
          | false =>
            have hn : vwB wide high x y vw vh = false := by unfold vwB; rw [hb0, hb1, hb2, hb3, hb4]; simp
            rw [HN.out hn]
            rw [hb4] at H4
            clear HN hn HV hb0 hb1 hb2 hb3 hb4
            go_enter Try.func25, Try.ntmps25
            go_wp2_with fail
            refine Calls.mono (H0.out _) ?_
            rintro e w0 ⟨rfl, rfl⟩
            go_wp2_with fail
            refine Calls.mono (H1.out _) ?_
            rintro e w1 ⟨rfl, rfl⟩
            go_wp2_with fail
            refine Calls.mono (H2.out _) ?_
            rintro e w2 ⟨rfl, rfl⟩
            go_wp2_with fail
            refine Calls.mono (H3.out _) ?_
            rintro e w3 ⟨rfl, rfl⟩
            go_wp2_with fail
            refine Calls.mono (H4.out _) ?_
            rintro e w4 ⟨rfl, rfl⟩
            go_wp2
            exact bodyPost_ret (v := .tuple #[.agg #[.int .i64 0, .int .i64 0, .int .i64 0, .int .i64 0, .int .i64 0, .int .i64 0], .bool false]) (by simp [results, Try.results25, go_sem]) rfl ⟨rfl, (Kp.refl w).alloc _ _⟩
          | true =>
            rw [hb4] at H4
            cases hb5 : aboveB vh with
            | false =>
              have hn : vwB wide high x y vw vh = false := by unfold vwB; rw [hb0, hb1, hb2, hb3, hb4, hb5]; simp
              rw [HN.out hn]
              rw [hb5] at H5
              clear HN hn HV hb0 hb1 hb2 hb3 hb4 hb5
              go_enter Try.func25, Try.ntmps25
              go_wp2_with fail
              refine Calls.mono (H0.out _) ?_
              rintro e w0 ⟨rfl, rfl⟩
              go_wp2_with fail
              refine Calls.mono (H1.out _) ?_
              rintro e w1 ⟨rfl, rfl⟩
              go_wp2_with fail
              refine Calls.mono (H2.out _) ?_
              rintro e w2 ⟨rfl, rfl⟩
              go_wp2_with fail
              refine Calls.mono (H3.out _) ?_
              rintro e w3 ⟨rfl, rfl⟩
              go_wp2_with fail
              refine Calls.mono (H4.out _) ?_
              rintro e w4 ⟨rfl, rfl⟩
              go_wp2_with fail
              refine Calls.mono (H5.out _) ?_
              rintro e w5 ⟨rfl, rfl⟩
              go_wp2
              exact bodyPost_ret (v := .tuple #[.agg #[.int .i64 0, .int .i64 0, .int .i64 0, .int .i64 0, .int .i64 0, .int .i64 0], .bool false]) (by simp [results, Try.results25, go_sem]) rfl ⟨rfl, (Kp.refl w).alloc _ _⟩
            | true =>
              rw [hb5] at H5
              have hy : vwB wide high x y vw vh = true := by unfold vwB; rw [hb0, hb1, hb2, hb3, hb4, hb5]; simp
              replace HV : Hid _ := HV.out hb0 hb1
              clear HN hb0 hb1 hb2 hb3 hb4 hb5
              unfold affV at HV
              obtain ⟨s, hs⟩ : ∃ s, vwS wide high vw vh = s := ⟨_, rfl⟩
              have hv : Hid (vwV wide high x y vw vh = if gA s 0 0 s (vwE wide x vw s) (vwE high y vh s) = true then (s, vwE wide x vw s, vwE high y vh s, true) else (0, 0, 0, false)) := by
                show _ = _
                unfold vwV; rw [hs]
                cases hg : gA s 0 0 s (vwE wide x vw s) (vwE high y vh s) with
                | true => rw [if_pos ⟨hy, rfl⟩, if_pos rfl]
                | false => rw [if_neg (fun e => absurd e.2 (by decide)), if_neg (by decide)]
              rw [hs] at HV
              clear hs hy
              generalize vwE wide x vw s = E at *
              generalize vwE high y vh s = F at *
              have HG : Hid _ := fun w => sgoodAff w s 0 0 s E F
              unfold affV at HG
              cases hg : gA s 0 0 s E F with
              | true =>
                rw [hv.out, hg, if_pos rfl]
                rw [hg] at HG
                clear hv hg
                go_enter Try.func25, Try.ntmps25
                go_wp2_with fail
                refine Calls.mono (H0.out _) ?_
                rintro e w0 ⟨rfl, rfl⟩
                go_wp2_with fail
                refine Calls.mono (H1.out _) ?_
                rintro e w1 ⟨rfl, rfl⟩
                go_wp2_with fail
                refine Calls.mono (H2.out _) ?_
                rintro e w2 ⟨rfl, rfl⟩
                go_wp2_with fail
                refine Calls.mono (H3.out _) ?_
                rintro e w3 ⟨rfl, rfl⟩
                go_wp2_with fail
                refine Calls.mono (H4.out _) ?_
                rintro e w4 ⟨rfl, rfl⟩
                go_wp2_with fail
                refine Calls.mono (H5.out _) ?_
                rintro e w5 ⟨rfl, rfl⟩
                go_wp2_with fail
                refine Calls.mono (HV.out _) ?_
                rintro e w6 ⟨rfl, k6⟩
                have K6 : Hid (Kp (w.alloc (.cells #[.int .i64 0, .int .i64 0, .int .i64 0, .int .i64 0, .int .i64 0, .int .i64 0] 31)) w6) := k6
                clear k6
                go_wp2_with fail
                refine Calls.mono (HG.out _) ?_
                rintro e w7 ⟨rfl, k7⟩
                have K7 : Hid (Kp (w.alloc (.cells #[.int .i64 0, .int .i64 0, .int .i64 0, .int .i64 0, .int .i64 0, .int .i64 0] 31)) w7) := Kp.trans (K6.out.alloc _ _) k7
                have c6 := lbox6 k7
                clear k7 K6
                obtain ⟨c0, c1, c2, c3, c4, c5⟩ := c6
                obtain ⟨⟨z0, z1, z2, z3, z4, z5⟩, zf⟩ := KW.out _ K7.out
                go_wp2
                obtain ⟨y0, y1, y2, y3, y4, y5⟩ := set6 w7 w.heap.size (.int .i64 s) (.int .i64 0) (.int .i64 0) (.int .i64 s) (.int .i64 E) (.int .i64 F) z0 z1 z2 z3 z4 z5
                refine bodyPost_ret (v := .tuple #[.agg #[.int .i64 s, .int .i64 0, .int .i64 0, .int .i64 s, .int .i64 E, .int .i64 F], .bool true]) (by simp [results, Try.results25, go_sem, y0, y1, y2, y3, y4, y5]) rfl ⟨rfl, ?_⟩
                exact kp_set6 _ _ _ _ _ _ _ (Kp.trans ((Kp.refl w).alloc _ _) K7.out) (Nat.le_refl _)
              | false =>
                rw [hv.out, hg, if_neg (by decide)]
                rw [hg] at HG
                clear hv hg
                go_enter Try.func25, Try.ntmps25
                go_wp2_with fail
                refine Calls.mono (H0.out _) ?_
                rintro e w0 ⟨rfl, rfl⟩
                go_wp2_with fail
                refine Calls.mono (H1.out _) ?_
                rintro e w1 ⟨rfl, rfl⟩
                go_wp2_with fail
                refine Calls.mono (H2.out _) ?_
                rintro e w2 ⟨rfl, rfl⟩
                go_wp2_with fail
                refine Calls.mono (H3.out _) ?_
                rintro e w3 ⟨rfl, rfl⟩
                go_wp2_with fail
                refine Calls.mono (H4.out _) ?_
                rintro e w4 ⟨rfl, rfl⟩
                go_wp2_with fail
                refine Calls.mono (H5.out _) ?_
                rintro e w5 ⟨rfl, rfl⟩
                go_wp2_with fail
                refine Calls.mono (HV.out _) ?_
                rintro e w6 ⟨rfl, k6⟩
                have K6 : Hid (Kp (w.alloc (.cells #[.int .i64 0, .int .i64 0, .int .i64 0, .int .i64 0, .int .i64 0, .int .i64 0] 31)) w6) := k6
                clear k6
                go_wp2_with fail
                refine Calls.mono (HG.out _) ?_
                rintro e w7 ⟨rfl, k7⟩
                have K7 : Hid (Kp (w.alloc (.cells #[.int .i64 0, .int .i64 0, .int .i64 0, .int .i64 0, .int .i64 0, .int .i64 0] 31)) w7) := Kp.trans (K6.out.alloc _ _) k7
                clear k7 K6
                obtain ⟨⟨z0, z1, z2, z3, z4, z5⟩, zf⟩ := KW.out _ K7.out
                go_wp2
                obtain ⟨y0, y1, y2, y3, y4, y5⟩ := set6 w7 w.heap.size (.int .i64 0) (.int .i64 0) (.int .i64 0) (.int .i64 0) (.int .i64 0) (.int .i64 0) z0 z1 z2 z3 z4 z5
                refine bodyPost_ret (v := .tuple #[.agg #[.int .i64 0, .int .i64 0, .int .i64 0, .int .i64 0, .int .i64 0, .int .i64 0], .bool false]) (by simp [results, Try.results25, go_sem, y0, y1, y2, y3, y4, y5]) rfl ⟨rfl, ?_⟩
                exact kp_set6 _ _ _ _ _ _ _ (Kp.trans ((Kp.refl w).alloc _ _) K7.out) (Nat.le_refl _)
end Go.Proofs.Ytfdjjbgcaojcnaa
