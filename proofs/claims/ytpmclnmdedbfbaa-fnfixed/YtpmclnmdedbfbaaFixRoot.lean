/-
  The law on FixRoot returns true at every int, and its argument reads afterwards as it read before; there is no further condition.
-/
import Derived.Test.YtpmclnmdedbfbaaRoots
namespace Go.Proofs.Ytpmclnmdedbfbaa
open Go.ChangeShapes Go.WideShapes Go.ChangeAt Go.RowKit

set_option maxHeartbeats 1000000 in
theorem fixRoot_yes (a : Int) (w : World) (a1 : 0 ≤ a) (a2 : a ≤ 1099511627776) :
    Calls Try.prog 14 #[.int .i64 a] w fun e w' => ∃ r : Int, e = .returned (.int .i64 r) ∧ 0 ≤ r ∧ r * r ≤ a * 65536 ∧ a * 65536 < (r + 1) * (r + 1) ∧ w' = w := by
  go_enter Try.func14, Try.ntmps14
  go_wp2_with (go_at_call 17; refine (igood_yes _ _ (by omega) (by omega)).mono ?_; rintro e w' ⟨rfl, rfl⟩)
  refine (whole_any _ _ (by omega) (by omega)).mono ?_
  rintro e w' ⟨r, rfl, r0, r1, r2, rfl⟩
  have R2 : Hid _ := r2
  clear r2
  go_wp2
  go_ret
  exact ⟨r, rfl, r0, r1, R2.out, rfl⟩

set_option maxHeartbeats 1000000 in
theorem sfixRoot_yes (a : Int) (w : World) (a1 : 0 ≤ a) (a2 : a ≤ 1099511627776) :
    Calls Try.prog 15 #[.int .i64 a] w fun e w' => ∃ r : Int, e = .returned (.int .i64 r) ∧ 0 ≤ r ∧ r * r ≤ a * 65536 ∧ a * 65536 < (r + 1) * (r + 1) ∧ Kp w w' := by
  go_enter Try.func15, Try.ntmps15
  go_wp2_with (go_at_call 16; refine (sgood_yes _ _ (by omega) (by omega)).mono ?_; rintro e w' ⟨rfl, rfl⟩)
  refine (times_any a 65536 _ (by omega) (by omega) (by omega) (by omega)).mono ?_
  rintro e w' ⟨rfl, c1, rfl⟩
  go_wp2_with fail
  refine (root_any (a * 65536) 1099511627776 _ (by omega) (by omega) (by omega)).mono ?_
  rintro e w1 ⟨r, rfl, r0, r1, r2, r3, hk⟩
  have R3 : Hid (a * 65536 < (r + 1) * (r + 1)) := by
    rcases r3 with rfl | h
    · exfalso; omega
    · exact h
  have HK : Hid _ := hk
  clear r3 hk
  go_wp2
  go_ret
  exact ⟨r, rfl, r0, r2, R3.out, ((Kp.refl _).alloc _ _).trans HK.out⟩

theorem fixRoot_no (a : Int) (w : World) (h : ¬ (-1099511627776 ≤ a ∧ a ≤ 1099511627776)) :
    Calls Try.prog 14 #[.int .i64 a] w fun e w' => e = .returned (.int .i64 0) ∧ w' = w := by
  have H : Hid _ := h
  clear h
  go_enter Try.func14, Try.ntmps14
  go_wp2_with (go_at_call 17; refine (igood_no a _ H.out).mono ?_; rintro e w' ⟨rfl, rfl⟩)
  go_ret
  exact ⟨rfl, rfl⟩
theorem fixRoot_no2 (a : Int) (w : World) (a1 : -1099511627776 ≤ a) (a2 : a < 0) :
    Calls Try.prog 14 #[.int .i64 a] w fun e w' => e = .returned (.int .i64 0) ∧ w' = w := by
  go_enter Try.func14, Try.ntmps14
  go_wp2_with (go_at_call 17; refine (igood_yes a _ (by omega) (by omega)).mono ?_; rintro e w' ⟨rfl, rfl⟩)
  go_ret
  exact ⟨rfl, rfl⟩
theorem sfixRoot_no (a : Int) (w : World) (h : a < 0) :
    Calls Try.prog 15 #[.int .i64 a] w fun e w' => e = .returned (.int .i64 0) ∧ w' = w := by
  go_enter Try.func15, Try.ntmps15
  go_wp2
  go_ret
  exact ⟨rfl, rfl⟩
theorem sfixRoot_no2 (a : Int) (w : World) (h0 : 0 ≤ a) (h : ¬ (-1099511627776 ≤ a ∧ a ≤ 1099511627776)) :
    Calls Try.prog 15 #[.int .i64 a] w fun e w' => e = .returned (.int .i64 0) ∧ w' = w := by
  have H : Hid _ := h
  clear h
  go_enter Try.func15, Try.ntmps15
  go_wp2_with (go_at_call 16; refine (sgood_no a _ H.out).mono ?_; rintro e w' ⟨rfl, rfl⟩)
  go_ret
  exact ⟨rfl, rfl⟩

/-- Every number has a root, rounded down. -/
theorem root_nat (n : Nat) : ∃ r : Nat, r * r ≤ n ∧ n < (r + 1) * (r + 1) := by
  induction n with
  | zero => exact ⟨0, by omega, by omega⟩
  | succ n ih =>
    obtain ⟨r, h1, h2⟩ := ih
    by_cases h : n + 1 < (r + 1) * (r + 1)
    · exact ⟨r, by omega, h⟩
    · refine ⟨r + 1, by omega, ?_⟩
      have : (r + 1) * (r + 1) < (r + 1 + 1) * (r + 1 + 1) := Nat.mul_lt_mul_of_lt_of_lt (by omega) (by omega)
      omega
theorem root_ex (a : Int) (h : 0 ≤ a) : ∃ v : Int, 0 ≤ v ∧ v * v ≤ a * 65536 ∧ a * 65536 < (v + 1) * (v + 1) := by
  obtain ⟨r, h1, h2⟩ := root_nat (a * 65536).toNat
  refine ⟨r, by omega, ?_, ?_⟩
  · have := Int.natCast_mul r r; omega
  · have e : (((r + 1) * (r + 1) : Nat) : Int) = ((r : Int) + 1) * ((r : Int) + 1) := by rw [Int.natCast_mul]; rfl
    omega

theorem fixRoot_both (a : Int) : ∃ v : Int, (∀ w, Calls Try.prog 15 #[.int .i64 a] w fun e w' => e = .returned (.int .i64 v) ∧ Kp w w') ∧ (∀ w, Calls Try.prog 14 #[.int .i64 a] w fun e w' => e = .returned (.int .i64 v) ∧ w' = w) := by
  by_cases h0 : a < 0
  · refine ⟨0, fun w => (sfixRoot_no a w h0).mono fun e w' ⟨h1, h2⟩ => ⟨h1, h2 ▸ Kp.refl _⟩, fun w => ?_⟩
    by_cases h1 : -1099511627776 ≤ a
    · exact fixRoot_no2 a w h1 h0
    · exact fixRoot_no a w (by omega)
  · by_cases h1 : a ≤ 1099511627776
    · obtain ⟨v, v0, v1, v2⟩ : ∃ v : Int, 0 ≤ v ∧ v * v ≤ a * 65536 ∧ a * 65536 < (v + 1) * (v + 1) := root_ex a (by omega)
      refine ⟨v, fun w => (sfixRoot_yes a w (by omega) h1).mono fun e w' ⟨r, he, r0, r1, r2, hk⟩ => ⟨?_, hk⟩, fun w => (fixRoot_yes a w (by omega) h1).mono fun e w' ⟨r, he, r0, r1, r2, hk⟩ => ⟨?_, hk⟩⟩
      · rw [he, root_uniq _ r v r0 v0 r1 r2 v1 v2]
      · rw [he, root_uniq _ r v r0 v0 r1 r2 v1 v2]
    · exact ⟨0, fun w => (sfixRoot_no2 a w (by omega) (by omega)).mono fun e w' ⟨h1, h2⟩ => ⟨h1, h2 ▸ Kp.refl _⟩, fun w => fixRoot_no a w (by omega)⟩
end Go.Proofs.Ytpmclnmdedbfbaa

namespace Go.Proofs.Ytpmclnmdedbfbaa.fnExactFixRoot
open Go.ChangeShapes Go.WideShapes Go.ChangeAt Go.RowKit
set_option linter.unusedVariables false      -- a walk need not use every 'w<i>' (that an integer argument fits its kind)

theorem own : ownKnob Try.prog.godebug = none := by kernel_rfl

/-! ### STEP 1: THE WALK: the Go text returns true. 'Grown w w'': the world has at most new blocks (Derived/RowKit3.lean). Part the cases AHEAD of 'go_enter' where a test parts the walk; take each callee by a contract of your own. -/
theorem walk (a0 : Int) (w0 : (Lit.int .i64 a0).wf = true) (w : World) :
    Calls Try.prog 7 #[.int .i64 a0] w fun e w' => e = .returned (.bool true) ∧ Grown w w' := by
  obtain ⟨v, hs, hi⟩ := fixRoot_both a0
  have HS : Hid _ := hs
  have HI : Hid _ := hi
  clear hs hi
  go_enter Try.func7, Try.ntmps7
  go_wp2_with fail
  refine (HS.out _).mono ?_
  rintro e w1 ⟨rfl, hk⟩
  have HK : Hid _ := hk
  clear hk
  go_wp2_with fail
  refine (HI.out _).mono ?_
  rintro e w2 ⟨rfl, rfl⟩
  go_wp2
  go_ret
  exact ⟨rfl, Kp.grown HK.out⟩

/-! ### THE ROW's STEP: WRITTEN OUT: LEAVE IT -/
set_option maxRecDepth 100000 in
theorem lifted (os : Os) (started : os.Started) (H : Type) (enc : TypeId × Value → H) :
    ReturnsInHanded {} Try.checked os 7 .any (Rows.fnExactFixRootSpec.pre6 enc Try.prog Try.f7 Rows.fnExactFixRootRow.domain false) (Rows.fnExactFixRootSpec.post enc Try.prog Try.f7 false true false false) := by
  refine returnsInHanded_of_change (C := Try.checked) own started (by kernel_rfl) Try.func7
    (ChangeSpec.witness6 (enc := enc) (C := Try.checked) false ⟨#[], #[.int .i64 0], []⟩ 8 (by kernel_rfl) (by kernel_rfl) (by kernel_rfl) (by kernel_rfl)) ?_
  intro W base args ds gs before hval0 hW hcnd _
  have hval : ∀ (j : Nat) t v, Try.f7.params[j]? = some t → args[j]? = some v → Value.okWide Try.prog W .any base t v := hval0
  have hW' := hW
  obtain ⟨p, q, hA0, hV, rfl, hfz, hnd⟩ := hW
  have hA : DataW.TrodAll enc Try.prog W 0 (fun _ => true) true Try.f7.params.toList args.toList ds p := hA0
  rw [Try.params7] at hA hval
  obtain ⟨v0, vs0, d0, ds0, p0, q0, hargs, rfl, rfl, h0, r0⟩ := trodAll_cons hA
  obtain ⟨rfl, rfl, rfl⟩ := trodAll_nil r0
  obtain rfl : args = #[v0] := by cases args; simp_all
  obtain ⟨rfl, rfl⟩ := trodVars_none hV
  obtain ⟨a0, rfl, rfl, rfl, w0⟩ := open_int Try.underlying3 (hval 0 3 v0 rfl rfl) h0
  clear hA0 hval0
  simp only [List.append_nil] at hW'
  refine (walk a0 w0 W).mono fun e W' ⟨he, hg⟩ => ?_
  subst he
  exact ⟨_, rfl, post_of_same (pa := []) (pv := []) hW' (fun _ _ _ => (trodAll_cons_mk (shut_bool Try.underlying4 _) trodAll_mk0)) (fun sp _ => (trodAll_cons_mk (shut_int Try.underlying3 w0) trodAll_mk0)) (fun _ _ => rfl) rfl
    (hg.frame _) hg.2.1 (ok_one (by kernel_rfl) rfl (okWide_bool_mk Try.underlying4 _))⟩

theorem over : Rows.fnExactFixRootRow.holds Try.pinned (OpenSpec.ofChange Rows.fnExactFixRootSpec) :=
  OpenClaim.holds_of_wide 7 Try.f7 rfl rfl rfl rfl rfl rfl rfl ⟨rfl, rfl, rfl, rfl, rfl⟩ rfl rfl rfl rfl rfl (by kernel_rfl) Try.func7 (by kernel_rfl)
    (of_decide_eq_true (by kernel_rfl)) (by unfold Func.isWrapper; first | (rw [if_pos (by decide +kernel)]; kernel_rfl) | (rw [if_neg (by decide +kernel)]; exact ⟨rfl, rfl⟩))
    (fun os started H enc _ => lifted os started H enc)

/-- ████ THE STATEMENT ████ -/
theorem proved : Rows.FnExactFixRootSaid :=
  over
#print axioms proved
end Go.Proofs.Ytpmclnmdedbfbaa.fnExactFixRoot
