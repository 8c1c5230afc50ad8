/-
  Runs of colors, by the specification: RunAt; each theorem names its conditions.
-/
import Derived.Test.YthlohbiocfeapaaRn
namespace Go.Proofs.Ythlohbiocfeapaa
open Go.ChangeShapes Go.WideShapes Go.ChangeAt Go.RowKit
set_option linter.unusedVariables false

set_option maxRecDepth 100000 in
set_option maxHeartbeats 4000000 in
theorem srunAt (w : World) (a : Option Addr) (c : Nat) (l : List Stp) (x s : Int) (hl : l.length ≤ 1048576) (hr : Stps w a l) :
    Calls Try.prog 21 #[.slice a l.length c, .int .i64 x, .int .i64 s] w fun e w' => e = .returned (.tuple #[edV (ruV l x s), .bool (ruB l x s)]) ∧ Kp w w' := by
  obtain ⟨W, hW⟩ : ∃ W, w.alloc (.cells #[.int .i64 0, .int .i64 0, .int .i64 0, .int .i64 0] 24) = W := ⟨_, rfl⟩
  have KW : Hid (Kp w W) := by show Kp w W; rw [← hW]; exact (Kp.refl w).alloc _ _
  have HZ : Hid (QB W w.heap.size noE) := by show QB _ _ _; rw [← hW]; exact QB.new w noE 24
  have HW : Hid (_ = W) := hW
  clear hW
  have HR : Hid (Stps W a l) := Stps.nw hr KW.out.nw
  have Nw_refl : ∀ w : World, Nw w w := fun w => (Kp.refl w).nw
  have H1 : Hid (∀ w1, Nw W w1 → _) := fun w1 k => sstops w1 a c l hl (Stps.nw HR.out k)
  have H2 : Hid (∀ w, _) := fun w => sfixed w x
  have H3 : Hid (∀ w, Calls Try.prog 70 #[.int .i64 s, .int .i64 1, .int .i64 3] w fun e w' => e = .returned (.bool (inN s 1 3)) ∧ w' = w) := fun w => in_any w s 1 3
  have HC : sgB l = true → inN x (-1099511627776) 1099511627776 = true → inN s 1 3 = true → Hid (∀ w1, Nw W w1 → _) := fun c1 c2 c3 w1 k => srun w1 a c l x s c1 (by unfold inN at c2; simpa using c2) (by unfold inN at c3; simpa using c3) (Stps.nw HR.out k)
  generalize hn : l.length = n at *
  clear hn
  unfold ruV ruB
  cases c1 : sgB l with
  | false =>
    rw [c1] at H1
    clear HC
    simp only [Bool.false_and, Bool.false_eq_true, if_false]
    unfold edV
    simp only [noE]
    go_enter Try.func21, Try.ntmps21
    go_wp2_with fail
    rw [HW.out]
    refine Calls.mono (H1.out _ (Nw_refl _)) ?_
    rintro e w1 ⟨rfl, k1⟩
    have K1 : Hid (Kp W w1) := k1
    clear k1
    obtain ⟨z0, z1, z2, z3, zf⟩ := QB.nw HZ.out K1.out.nw
    simp only [noE] at z0 z1 z2 z3
    obtain ⟨y0, y1, y2, y3⟩ := set4 w1 w.heap.size (.int .i64 0) (.int .i64 0) (.int .i64 0) (.int .i64 0) z0 z1 z2 z3
    go_wp2
    refine bodyPost_ret (v := .tuple #[.agg #[.int .i64 0, .int .i64 0, .int .i64 0, .int .i64 0], .bool false]) (by simp [results, Try.results21, go_sem, y0, y1, y2, y3]) rfl ⟨rfl, ?_⟩
    exact ((((Kp.trans KW.out K1.out).setCell (by first | (simp; done) | (simp; omega)) _).setCell (by first | (simp; done) | (simp; omega)) _).setCell (by first | (simp; done) | (simp; omega)) _).setCell (by first | (simp; done) | (simp; omega)) _
  | true =>
    rw [c1] at H1
    cases c2 : inN x (-1099511627776) 1099511627776 with
    | false =>
      rw [c2] at H2
      clear HC
      simp only [Bool.false_and, Bool.and_false, Bool.false_eq_true, if_false]
      unfold edV
      simp only [noE]
      go_enter Try.func21, Try.ntmps21
      go_wp2_with fail
      rw [HW.out]
      refine Calls.mono (H1.out _ (Nw_refl _)) ?_
      rintro e w1 ⟨rfl, k1⟩
      have K1 : Hid (Kp W w1) := k1
      clear k1
      go_wp2_with fail
      refine Calls.mono (H2.out _) ?_
      rintro e w2 ⟨rfl, k2⟩
      rw [k2]
      clear k2
      obtain ⟨z0, z1, z2, z3, zf⟩ := QB.nw HZ.out K1.out.nw
      simp only [noE] at z0 z1 z2 z3
      obtain ⟨y0, y1, y2, y3⟩ := set4 w1 w.heap.size (.int .i64 0) (.int .i64 0) (.int .i64 0) (.int .i64 0) z0 z1 z2 z3
      go_wp2
      refine bodyPost_ret (v := .tuple #[.agg #[.int .i64 0, .int .i64 0, .int .i64 0, .int .i64 0], .bool false]) (by simp [results, Try.results21, go_sem, y0, y1, y2, y3]) rfl ⟨rfl, ?_⟩
      exact ((((Kp.trans KW.out K1.out).setCell (by first | (simp; done) | (simp; omega)) _).setCell (by first | (simp; done) | (simp; omega)) _).setCell (by first | (simp; done) | (simp; omega)) _).setCell (by first | (simp; done) | (simp; omega)) _
    | true =>
      rw [c2] at H2
      cases c3 : inN s 1 3 with
      | false =>
        rw [c3] at H3
        clear HC
        simp only [Bool.and_false, Bool.false_eq_true, if_false]
        unfold edV
        simp only [noE]
        go_enter Try.func21, Try.ntmps21
        go_wp2_with fail
        rw [HW.out]
        refine Calls.mono (H1.out _ (Nw_refl _)) ?_
        rintro e w1 ⟨rfl, k1⟩
        have K1 : Hid (Kp W w1) := k1
        clear k1
        go_wp2_with fail
        refine Calls.mono (H2.out _) ?_
        rintro e w2 ⟨rfl, k2⟩
        rw [k2]
        clear k2
        go_wp2_with fail
        refine Calls.mono (H3.out _) ?_
        rintro e w2 ⟨rfl, k2⟩
        rw [k2]
        clear k2
        obtain ⟨z0, z1, z2, z3, zf⟩ := QB.nw HZ.out K1.out.nw
        simp only [noE] at z0 z1 z2 z3
        obtain ⟨y0, y1, y2, y3⟩ := set4 w1 w.heap.size (.int .i64 0) (.int .i64 0) (.int .i64 0) (.int .i64 0) z0 z1 z2 z3
        go_wp2
        refine bodyPost_ret (v := .tuple #[.agg #[.int .i64 0, .int .i64 0, .int .i64 0, .int .i64 0], .bool false]) (by simp [results, Try.results21, go_sem, y0, y1, y2, y3]) rfl ⟨rfl, ?_⟩
        exact ((((Kp.trans KW.out K1.out).setCell (by first | (simp; done) | (simp; omega)) _).setCell (by first | (simp; done) | (simp; omega)) _).setCell (by first | (simp; done) | (simp; omega)) _).setCell (by first | (simp; done) | (simp; omega)) _
      | true =>
        rw [c3] at H3
        replace HC := HC c1 c2 c3
        simp only [Bool.true_and, if_true]
        unfold edV at HC ⊢
        generalize rnT l (rnA x s) = V at *
        obtain ⟨v0, v1, v2, v3⟩ := V
        simp only at HC ⊢
        go_enter Try.func21, Try.ntmps21
        go_wp2_with fail
        rw [HW.out]
        refine Calls.mono (H1.out _ (Nw_refl _)) ?_
        rintro e w1 ⟨rfl, k1⟩
        have K1 : Hid (Kp W w1) := k1
        clear k1
        go_wp2_with fail
        refine Calls.mono (H2.out _) ?_
        rintro e w2 ⟨rfl, k2⟩
        rw [k2]
        clear k2
        go_wp2_with fail
        refine Calls.mono (H3.out _) ?_
        rintro e w2 ⟨rfl, k2⟩
        rw [k2]
        clear k2
        go_wp2_with fail
        refine Calls.mono (HC.out _ K1.out.nw) ?_
        rintro e wc ⟨rfl, kc⟩
        have KC : Hid (Kp W wc) := Kp.trans K1.out kc
        clear kc
        obtain ⟨z0, z1, z2, z3, zf⟩ := QB.nw HZ.out KC.out.nw
        simp only [noE] at z0 z1 z2 z3
        obtain ⟨y0, y1, y2, y3⟩ := set4 wc w.heap.size (.int .i64 v0) (.int .i64 v1) (.int .i64 v2) (.int .i64 v3) z0 z1 z2 z3
        go_wp2
        refine bodyPost_ret (v := .tuple #[.agg #[.int .i64 v0, .int .i64 v1, .int .i64 v2, .int .i64 v3], .bool true]) (by simp [results, Try.results21, go_sem, y0, y1, y2, y3]) rfl ⟨rfl, ?_⟩
        exact ((((Kp.trans KW.out KC.out).setCell (by first | (simp; done) | (simp; omega)) _).setCell (by first | (simp; done) | (simp; omega)) _).setCell (by first | (simp; done) | (simp; omega)) _).setCell (by first | (simp; done) | (simp; omega)) _
end Go.Proofs.Ythlohbiocfeapaa
