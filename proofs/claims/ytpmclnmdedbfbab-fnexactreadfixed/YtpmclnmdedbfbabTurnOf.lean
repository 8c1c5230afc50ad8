/-
  The law on TurnOf returns true at every int, and its argument reads afterwards as it read before; there is no further condition.
-/
import Derived.Test.YtpmclnmdedbfbabBase
namespace Go.Proofs.Ytpmclnmdedbfbab
open Go.ChangeShapes Go.WideShapes Go.ChangeAt Go.RowKit

set_option maxHeartbeats 400000 in
theorem divDown_any (a b : Int) (w : World) (hb : 0 < b) (hb' : b ≤ 4611686018427387904) (h1 : -4611686018427387904 ≤ a) (h2 : a ≤ 4611686018427387904) :
    Calls Try.prog 14 #[.int .i64 a, .int .i64 b] w fun e w' => e = .returned (.int .i64 (a / b)) ∧ w' = w := by
  by_cases ha : 0 ≤ a
  · have hd := ediv_bd a b ha hb
    have hm := Int.emod_nonneg a (b := b) (by omega)
    have hm' := Int.emod_lt_of_pos a hb
    go_enter Try.func14, Try.ntmps14
    go_wp2
    all_goals go_ret
    all_goals exact ⟨rfl, rfl⟩
  · have e1 := tdiv_neg_of a b (by omega)
    have e2 := tmod_neg_of a b (by omega)
    have e3 := ediv_neg_of a b hb
    have hd := ediv_bd (-a) b (by omega) hb
    have hm := Int.emod_nonneg (-a) (b := b) (by omega)
    have hm' := Int.emod_lt_of_pos (-a) hb
    by_cases hz : (-a) % b = 0
    · rw [if_pos hz] at e3
      rw [e3]
      clear e3
      generalize (-a) / b = q at *
      generalize (-a) % b = r at *
      go_enter Try.func14, Try.ntmps14
      go_wp2
      all_goals go_ret
      all_goals exact ⟨rfl, rfl⟩
    · rw [if_neg hz] at e3
      rw [e3]
      clear e3
      generalize (-a) / b = q at *
      generalize (-a) % b = r at *
      go_enter Try.func14, Try.ntmps14
      go_wp2
      all_goals go_ret
      all_goals exact ⟨rfl, rfl⟩


set_option maxHeartbeats 400000 in
theorem sdown_any (a b : Int) (w : World) (hb : 0 < b) (hb' : b ≤ 4611686018427387904) (h1 : -4611686018427387904 ≤ a) (h2 : a ≤ 4611686018427387904) :
    Calls Try.prog 11 #[.int .i64 a, .int .i64 b] w fun e w' => e = .returned (.int .i64 (a / b)) ∧ w' = w := by
  have hdb : decide (b < 0) = false := by simp; omega
  by_cases ha : 0 ≤ a
  · have hd := ediv_bd a b ha hb
    have hm := Int.emod_nonneg a (b := b) (by omega)
    have hm' := Int.emod_lt_of_pos a hb
    have hda : decide (a < 0) = false := by simp; omega
    by_cases hz : a % b = 0
    · have hq : (a % b != 0) = false := by simp [hz]
      clear hz
      go_enter Try.func11, Try.ntmps11
      go_wp2
      go_ret
      exact ⟨rfl, rfl⟩
    · have hq : (a % b != 0) = true := by simp [hz]
      clear hz
      go_enter Try.func11, Try.ntmps11
      go_wp2
      go_ret
      exact ⟨rfl, rfl⟩
  · have e1 := tdiv_neg_of a b (by omega)
    have e2 := tmod_neg_of a b (by omega)
    have e3 := ediv_neg_of a b hb
    have hd := ediv_bd (-a) b (by omega) hb
    have hm := Int.emod_nonneg (-a) (b := b) (by omega)
    have hm' := Int.emod_lt_of_pos (-a) hb
    have hda : decide (a < 0) = true := by simp; omega
    by_cases hz : (-a) % b = 0
    · rw [if_pos hz] at e3
      rw [e3]
      clear e3
      generalize (-a) / b = q at *
      rw [hz] at e2 hm hm'
      clear hz hm hm'
      go_enter Try.func11, Try.ntmps11
      go_wp2
      go_ret
      exact ⟨rfl, rfl⟩
    · rw [if_neg hz] at e3
      rw [e3]
      clear e3
      generalize (-a) / b = q at *
      generalize (-a) % b = r at *
      have hq : (-r != 0) = true := by simp; omega
      clear hz
      go_enter Try.func11, Try.ntmps11
      go_wp2
      go_ret
      exact ⟨rfl, rfl⟩

set_option maxHeartbeats 400000 in
theorem smod_any (a b : Int) (w : World) (hb : 0 < b) (hb' : b ≤ 1000000000) (h1 : -4611686018427387904 ≤ a) (h2 : a ≤ 4611686018427387904) :
    Calls Try.prog 10 #[.int .i64 a, .int .i64 b] w fun e w' => e = .returned (.int .i64 (a % b)) ∧ w' = w := by
  have e := Int.emod_def a b
  have m1 := Int.emod_nonneg a (b := b) (by omega)
  have m2 := Int.emod_lt_of_pos a hb
  rw [e] at m1 m2 ⊢
  clear e
  go_enter Try.func10, Try.ntmps10
  go_wp2_with (go_at_call 11; refine (sdown_any _ _ _ (by omega) (by omega) (by omega) (by omega)).mono ?_; rintro e w' ⟨rfl, rfl⟩)
  go_ret
  exact ⟨rfl, rfl⟩

set_option maxHeartbeats 400000 in
theorem modulo_any (a b : Int) (w : World) (hb : 0 < b) (hb' : b ≤ 1000000000) (h1 : -4611686018427387904 ≤ a) (h2 : a ≤ 4611686018427387904) :
    Calls Try.prog 13 #[.int .i64 a, .int .i64 b] w fun e w' => e = .returned (.int .i64 (a % b)) ∧ w' = w := by
  by_cases ha : 0 ≤ a
  · have hm := Int.emod_nonneg a (b := b) (by omega)
    have hm' := Int.emod_lt_of_pos a hb
    go_enter Try.func13, Try.ntmps13
    go_wp2
    go_ret
    exact ⟨rfl, rfl⟩
  · have e2 := tmod_neg_of a b (by omega)
    have hm := Int.emod_nonneg (-a) (b := b) (by omega)
    have hm' := Int.emod_lt_of_pos (-a) hb
    have e3 : a % b = if (-a) % b = 0 then 0 else -((-a) % b) + b := by
      have h1 := Int.emod_def a b
      have h3 := Int.emod_def (-a) b
      have h4 := ediv_neg_of a b hb
      split
      · rename_i hz; rw [if_pos hz] at h4; rw [h1, h4, Int.mul_neg]; omega
      · rename_i hz; rw [if_neg hz] at h4; rw [h1, h4, Int.mul_sub, Int.mul_neg]; omega
    by_cases hz : (-a) % b = 0
    · rw [if_pos hz] at e3
      rw [e3]
      rw [hz] at e2
      clear e3 hz hm hm'
      go_enter Try.func13, Try.ntmps13
      go_wp2
      go_ret
      exact ⟨rfl, rfl⟩
    · rw [if_neg hz] at e3
      rw [e3]
      clear e3
      generalize (-a) % b = r at *
      go_enter Try.func13, Try.ntmps13
      go_wp2
      go_ret
      exact ⟨rfl, rfl⟩

set_option maxHeartbeats 400000 in
theorem sturn_yes (d : Int) (w : World) (h1 : -1099511627776 ≤ d) (h2 : d ≤ 1099511627776) :
    Calls Try.prog 5 #[.int .i64 d] w fun e w' => e = .returned (.int .i64 ((d * 2048 + 5898240) / 11796480 % 4096)) ∧ w' = w := by
  go_enter Try.func5, Try.ntmps5
  go_wp2_with (first | (go_at_call 11; refine (sdown_any _ _ _ (by omega) (by omega) (by omega) (by omega)).mono ?_; rintro e w' ⟨rfl, rfl⟩) | (go_at_call 10; refine (smod_any _ _ _ (by omega) (by omega) (by omega) (by omega)).mono ?_; rintro e w' ⟨rfl, rfl⟩) | go_in)
  go_ret
  exact ⟨rfl, rfl⟩
set_option maxHeartbeats 400000 in
theorem turn_yes (d : Int) (w : World) (h1 : -1099511627776 ≤ d) (h2 : d ≤ 1099511627776) :
    Calls Try.prog 6 #[.int .i64 d] w fun e w' => e = .returned (.int .i64 ((d * 2048 + 5898240) / 11796480 % 4096)) ∧ w' = w := by
  go_enter Try.func6, Try.ntmps6
  go_wp2_with (first | (go_at_call 14; refine (divDown_any _ _ _ (by omega) (by omega) (by omega) (by omega)).mono ?_; rintro e w' ⟨rfl, rfl⟩) | (go_at_call 13; refine (modulo_any _ _ _ (by omega) (by omega) (by omega) (by omega)).mono ?_; rintro e w' ⟨rfl, rfl⟩) | go_in)
  go_ret
  exact ⟨rfl, rfl⟩

set_option maxHeartbeats 400000 in
theorem sturn_no (d : Int) (w : World) (h : ¬ (-1099511627776 ≤ d ∧ d ≤ 1099511627776)) :
    Calls Try.prog 5 #[.int .i64 d] w fun e w' => e = .returned (.int .i64 0) ∧ w' = w := by
  by_cases h1 : -1099511627776 ≤ d
  · have h2 : 1099511627776 < d := by omega
    have h3 : decide (d ≤ 1099511627776) = false := by simp; omega
    clear h
    go_enter Try.func5, Try.ntmps5
    go_wp2
    go_ret
    exact ⟨rfl, rfl⟩
  · clear h
    go_enter Try.func5, Try.ntmps5
    go_wp2
    go_ret
    exact ⟨rfl, rfl⟩

set_option maxHeartbeats 400000 in
theorem turn_no (d : Int) (w : World) (h : ¬ (-1099511627776 ≤ d ∧ d ≤ 1099511627776)) :
    Calls Try.prog 6 #[.int .i64 d] w fun e w' => e = .returned (.int .i64 0) ∧ w' = w := by
  by_cases h1 : -1099511627776 ≤ d
  · have h2 : 1099511627776 < d := by omega
    have h3 : decide (d ≤ 1099511627776) = false := by simp; omega
    clear h
    go_enter Try.func6, Try.ntmps6
    go_wp2
    go_ret
    exact ⟨rfl, rfl⟩
  · clear h
    go_enter Try.func6, Try.ntmps6
    go_wp2
    go_ret
    exact ⟨rfl, rfl⟩

theorem turn_both (a : Int) : ∃ v : Int, (∀ w, Calls Try.prog 5 #[.int .i64 a] w fun e w' => e = .returned (.int .i64 v) ∧ w' = w) ∧ (∀ w, Calls Try.prog 6 #[.int .i64 a] w fun e w' => e = .returned (.int .i64 v) ∧ w' = w) := by
  by_cases h : -1099511627776 ≤ a ∧ a ≤ 1099511627776
  · exact ⟨_, fun w => sturn_yes a w h.1 h.2, fun w => turn_yes a w h.1 h.2⟩
  · exact ⟨0, fun w => sturn_no a w h, fun w => turn_no a w h⟩
end Go.Proofs.Ytpmclnmdedbfbab

namespace Go.Proofs.Ytpmclnmdedbfbab.fnExactTurnOf
open Go.ChangeShapes Go.WideShapes Go.ChangeAt Go.RowKit
set_option linter.unusedVariables false      -- a walk need not use every 'w<i>' (that an integer argument fits its kind)

theorem own : ownKnob Try.prog.godebug = none := by kernel_rfl

/-! ### STEP 1: THE WALK: the Go text returns true. 'Grown w w'': the world has at most new blocks (Derived/RowKit3.lean). Part the cases AHEAD of 'go_enter' where a test parts the walk; take each callee by a contract of your own. -/
theorem walk (a0 : Int) (w0 : (Lit.int .i64 a0).wf = true) (w : World) :
    Calls Try.prog 3 #[.int .i64 a0] w fun e w' => e = .returned (.bool true) ∧ Grown w w' := by
  obtain ⟨v, hs, hi⟩ := turn_both a0
  have HS : Hid _ := hs
  have HI : Hid _ := hi
  clear hs hi
  go_enter Try.func3, Try.ntmps3
  go_wp2_with fail
  refine (HS.out _).mono ?_
  rintro e w1 ⟨rfl, rfl⟩
  go_wp2_with fail
  refine (HI.out _).mono ?_
  rintro e w2 ⟨rfl, rfl⟩
  go_wp2
  go_ret
  exact ⟨rfl, Grown.refl _⟩

/-! ### THE ROW's STEP: WRITTEN OUT: LEAVE IT -/
set_option maxRecDepth 100000 in
theorem lifted (os : Os) (started : os.Started) (H : Type) (enc : TypeId × Value → H) :
    ReturnsInHanded {} Try.checked os 3 .any (Rows.fnExactTurnOfSpec.pre6 enc Try.prog Try.f3 Rows.fnExactTurnOfRow.domain false) (Rows.fnExactTurnOfSpec.post enc Try.prog Try.f3 false true false false) := by
  refine returnsInHanded_of_change (C := Try.checked) own started (by kernel_rfl) Try.func3
    (ChangeSpec.witness6 (enc := enc) (C := Try.checked) false ⟨#[], #[.int .i64 0], []⟩ 8 (by kernel_rfl) (by kernel_rfl) (by kernel_rfl) (by kernel_rfl)) ?_
  intro W base args ds gs before hval0 hW hcnd _
  have hval : ∀ (j : Nat) t v, Try.f3.params[j]? = some t → args[j]? = some v → Value.okWide Try.prog W .any base t v := hval0
  have hW' := hW
  obtain ⟨p, q, hA0, hV, rfl, hfz, hnd⟩ := hW
  have hA : DataW.TrodAll enc Try.prog W 0 (fun _ => true) true Try.f3.params.toList args.toList ds p := hA0
  rw [Try.params3] at hA hval
  obtain ⟨v0, vs0, d0, ds0, p0, q0, hargs, rfl, rfl, h0, r0⟩ := trodAll_cons hA
  obtain ⟨rfl, rfl, rfl⟩ := trodAll_nil r0
  obtain rfl : args = #[v0] := by cases args; simp_all
  obtain ⟨rfl, rfl⟩ := trodVars_none hV
  obtain ⟨a0, rfl, rfl, rfl, w0⟩ := open_int Try.underlying3 (hval 0 3 v0 rfl rfl) h0
  clear hA0 hval0
  simp only [List.append_nil] at hW'
  refine (walk a0 w0 W).mono fun e W' ⟨he, hg⟩ => ?_
  subst he
  exact ⟨_, rfl, post_of_same (pa := []) (pv := []) hW' (fun _ _ _ => (trodAll_cons_mk (shut_bool Try.underlying4 _) trodAll_mk0)) (fun sp _ => (trodAll_cons_mk (shut_int Try.underlying3 w0) trodAll_mk0)) (fun _ _ => rfl) rfl
    (hg.frame _) hg.2.1 (ok_one (by kernel_rfl) rfl (okWide_bool_mk Try.underlying4 _))⟩

theorem over : Rows.fnExactTurnOfRow.holds Try.pinned (OpenSpec.ofChange Rows.fnExactTurnOfSpec) :=
  OpenClaim.holds_of_wide 3 Try.f3 rfl rfl rfl rfl rfl rfl rfl ⟨rfl, rfl, rfl, rfl, rfl⟩ rfl rfl rfl rfl rfl (by kernel_rfl) Try.func3 (by kernel_rfl)
    (of_decide_eq_true (by kernel_rfl)) (by unfold Func.isWrapper; first | (rw [if_pos (by decide +kernel)]; kernel_rfl) | (rw [if_neg (by decide +kernel)]; exact ⟨rfl, rfl⟩))
    (fun os started H enc _ => lifted os started H enc)

/-- ████ THE STATEMENT ████ -/
theorem proved : Rows.FnExactTurnOfSaid :=
  over
#print axioms proved
end Go.Proofs.Ytpmclnmdedbfbab.fnExactTurnOf
