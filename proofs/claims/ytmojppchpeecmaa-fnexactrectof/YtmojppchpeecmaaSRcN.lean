/-
  RectOf of the specification, all ways; no condition.
-/
import Derived.Test.YtmojppchpeecmaaSRcA
import Derived.Test.YtmojppchpeecmaaSRcB
import Derived.Test.YtmojppchpeecmaaSRcC
import Derived.Test.YtmojppchpeecmaaSRcD
namespace Go.Proofs.Ytmojppchpeecmaa
open Go.ChangeShapes Go.WideShapes Go.ChangeAt Go.RowKit
set_option linter.unusedVariables false

set_option maxRecDepth 100000 in
set_option maxHeartbeats 2000000 in
theorem srect_no (x y wide high r : Int) (w : World) (hok : okR x y wide high r = false) : Calls Try.prog 34 (rcA x y wide high r) w fun e w' => e = .returned (.tuple #[.agg #[.slice none 0 0, .bool false], .bool false]) ∧ Nw w w' := by
  have HG0 : Hid _ := fun w => sgoodF x w
  have HG1 : Hid _ := fun w => sgoodF y w
  have HI2 : Hid _ := fun w => in_any w wide 0 1099511627776
  have HI3 : Hid _ := fun w => in_any w high 0 1099511627776
  have HI4 : Hid _ := fun w => in_any w r 0 1099511627776
  have HN : Hid (¬ (fixB x = true ∧ fixB y = true ∧ decide (0 ≤ wide ∧ wide ≤ 1099511627776) = true ∧ decide (0 ≤ high ∧ high ≤ 1099511627776) = true ∧ decide (0 ≤ r ∧ r ≤ 1099511627776) = true)) := by
    rintro ⟨h0, h1, h2, h3, h4⟩
    have e2 := of_decide_eq_true h2
    have e3 := of_decide_eq_true h3
    have e4 := of_decide_eq_true h4
    have : okR x y wide high r = true := by
      unfold okR
      have f2 : fixB wide = true := fixB_iff.2 (by omega)
      have f3 : fixB high = true := fixB_iff.2 (by omega)
      have f4 : fixB r = true := fixB_iff.2 (by omega)
      simp [h0, h1, f2, f3, f4, e2.1, e3.1, e4.1]
    rw [this] at hok; cases hok
  unfold rcA
  clear hok
  generalize fixB x = b0 at *
  generalize fixB y = b1 at *
  generalize decide (0 ≤ wide ∧ wide ≤ 1099511627776) = b2 at *
  generalize decide (0 ≤ high ∧ high ≤ 1099511627776) = b3 at *
  generalize decide (0 ≤ r ∧ r ≤ 1099511627776) = b4 at *
  cases b0 with
  | false =>
    go_enter Try.func34, Try.ntmps34
    go_wp2_with fail
    refine (HG0.out _).mono ?_
    rintro e w1 ⟨rfl, rfl⟩
    go_wp2
    exact bodyPost_ret (v := .tuple #[.agg #[.slice none 0 0, .bool false], .bool false]) (by simp [results, Try.results34, go_sem]) rfl ⟨rfl, ((Kp.refl w).alloc _ _).nw⟩
  | true =>
    cases b1 with
    | false =>
      go_enter Try.func34, Try.ntmps34
      go_wp2_with fail
      refine (HG0.out _).mono ?_
      rintro e w1 ⟨rfl, rfl⟩
      go_wp2_with fail
      refine (HG1.out _).mono ?_
      rintro e w1 ⟨rfl, rfl⟩
      go_wp2
      exact bodyPost_ret (v := .tuple #[.agg #[.slice none 0 0, .bool false], .bool false]) (by simp [results, Try.results34, go_sem]) rfl ⟨rfl, ((Kp.refl w).alloc _ _).nw⟩
    | true =>
      cases b2 with
      | false =>
        go_enter Try.func34, Try.ntmps34
        go_wp2_with fail
        refine (HG0.out _).mono ?_
        rintro e w1 ⟨rfl, rfl⟩
        go_wp2_with fail
        refine (HG1.out _).mono ?_
        rintro e w1 ⟨rfl, rfl⟩
        go_wp2_with fail
        refine (HI2.out _).mono ?_
        rintro e w1 ⟨rfl, rfl⟩
        go_wp2
        exact bodyPost_ret (v := .tuple #[.agg #[.slice none 0 0, .bool false], .bool false]) (by simp [results, Try.results34, go_sem]) rfl ⟨rfl, ((Kp.refl w).alloc _ _).nw⟩
      | true =>
        cases b3 with
        | false =>
          go_enter Try.func34, Try.ntmps34
          go_wp2_with fail
          refine (HG0.out _).mono ?_
          rintro e w1 ⟨rfl, rfl⟩
          go_wp2_with fail
          refine (HG1.out _).mono ?_
          rintro e w1 ⟨rfl, rfl⟩
          go_wp2_with fail
          refine (HI2.out _).mono ?_
          rintro e w1 ⟨rfl, rfl⟩
          go_wp2_with fail
          refine (HI3.out _).mono ?_
          rintro e w1 ⟨rfl, rfl⟩
          go_wp2
          exact bodyPost_ret (v := .tuple #[.agg #[.slice none 0 0, .bool false], .bool false]) (by simp [results, Try.results34, go_sem]) rfl ⟨rfl, ((Kp.refl w).alloc _ _).nw⟩
        | true =>
          cases b4 with
          | false =>
            go_enter Try.func34, Try.ntmps34
            go_wp2_with fail
            refine (HG0.out _).mono ?_
            rintro e w1 ⟨rfl, rfl⟩
            go_wp2_with fail
            refine (HG1.out _).mono ?_
            rintro e w1 ⟨rfl, rfl⟩
            go_wp2_with fail
            refine (HI2.out _).mono ?_
            rintro e w1 ⟨rfl, rfl⟩
            go_wp2_with fail
            refine (HI3.out _).mono ?_
            rintro e w1 ⟨rfl, rfl⟩
            go_wp2_with fail
            refine (HI4.out _).mono ?_
            rintro e w1 ⟨rfl, rfl⟩
            go_wp2
            exact bodyPost_ret (v := .tuple #[.agg #[.slice none 0 0, .bool false], .bool false]) (by simp [results, Try.results34, go_sem]) rfl ⟨rfl, ((Kp.refl w).alloc _ _).nw⟩
          | true =>
            exact absurd ⟨rfl, rfl, rfl, rfl, rfl⟩ HN.out
theorem srect (x y wide high r : Int) : LnSays 34 (rcA x y wide high r) (rectV x y wide high r) := by
  intro w
  cases hok : okR x y wide high r with
  | true =>
    rw [rectV_yes hok]
    by_cases hz : cutR wide high r = 0
    · have e : rectP x y wide high r = sqP x y wide high := by unfold rectP; rw [if_pos hz]
      rw [e]
      by_cases c1 : wide / 2 < r
      · by_cases c2 : high / 2 < wide / 2
        · exact srect_sqA x y wide high r w hok hz c1 c2
        · exact srect_sqB x y wide high r w hok hz c1 c2
      · by_cases c2 : high / 2 < r
        · exact srect_sqC x y wide high r w hok hz c1 c2
        · exact srect_sqD x y wide high r w hok hz c1 c2
    · have e : rectP x y wide high r = qsP x y wide high (cutR wide high r) 4 := by unfold rectP; rw [if_neg hz]
      rw [e]
      by_cases c1 : wide / 2 < r
      · by_cases c2 : high / 2 < wide / 2
        · exact srect_rdA x y wide high r w hok hz c1 c2
        · exact srect_rdB x y wide high r w hok hz c1 c2
      · by_cases c2 : high / 2 < r
        · exact srect_rdC x y wide high r w hok hz c1 c2
        · exact srect_rdD x y wide high r w hok hz c1 c2
  | false =>
    have e : rectV x y wide high r = ([], false) := by unfold rectV; rw [if_neg (fun h => by rw [hok] at h; cases h.1)]
    rw [e]
    refine (srect_no x y wide high r w hok).mono ?_
    rintro e w' ⟨rfl, k⟩
    exact ⟨_, rfl, OwnP.nil _ _, k⟩
end Go.Proofs.Ytmojppchpeecmaa
