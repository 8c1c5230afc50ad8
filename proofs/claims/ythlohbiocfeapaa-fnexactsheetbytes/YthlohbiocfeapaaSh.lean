/-
  Good sheets, by the specification: GoodSheet; each theorem names its conditions.
-/
import Derived.Test.YthlohbiocfeapaaTn
import Derived.Test.YthlohbiocfeapaaShT
import Derived.Test.YthlohbiocfeapaaSd
namespace Go.Proofs.Ythlohbiocfeapaa
open Go.ChangeShapes Go.WideShapes Go.ChangeAt Go.RowKit
set_option linter.unusedVariables false

/-- A good sheet. -/
def shB (p : MD) (l : List Edg) : Bool := sdB p.w && (sdB p.h && (decide ((l.length : Int) = p.w * p.h) && l.all tnB))
theorem shB_some {p : MD} {l : List Edg} (h : shB p l = true) : sdB p.w = true ∧ sdB p.h = true ∧ (l.length : Int) = p.w * p.h ∧ l.all tnB = true := by
  unfold shB at h
  simp only [Bool.and_eq_true, decide_eq_true_eq] at h
  exact h
theorem shB_len {p : MD} {l : List Edg} (h : shB p l = true) : l.length ≤ 1296 := by
  obtain ⟨h1, h2, h3, _⟩ := shB_some h
  have := (sd_mul h1 h2).2
  omega
theorem shB_at {p : MD} {l : List Edg} (h : shB p l = true) (i : Nat) (hi : i < l.length) : tnB (edAt l i) = true := by
  obtain ⟨_, _, _, h4⟩ := shB_some h
  rw [List.all_eq_true] at h4
  unfold edAt
  rw [show l.getD i noE = l[i] by simp [hi]]
  exact h4 _ (List.getElem_mem hi)
set_option maxRecDepth 100000 in
set_option maxHeartbeats 4000000 in
theorem sgoodSh (w : World) (p : MD) (a : Option Addr) (c : Nat) (l : List Edg) (hl : l.length ≤ 1048576) (hr : Edgs w a l) :
    Calls Try.prog 41 #[mskV p (.slice a l.length c)] w fun e w' => e = .returned (.bool (shB p l)) ∧ Kp w w' := by
  obtain ⟨pw, ph⟩ := p
  unfold mskV
  simp only
  obtain ⟨V, hV⟩ : ∃ V, shB ⟨pw, ph⟩ l = V := ⟨_, rfl⟩
  rw [hV]
  have HV : Hid (V = (sdB pw && (sdB ph && (decide ((l.length : Int) = pw * ph) && l.all tnB)))) := hV.symm
  have k1 : ∀ o t, Kp w (w.alloc (.cells o t)) := fun o t => (Kp.refl w).alloc _ _
  have HR : Hid (∀ o t, Edgs (w.alloc (.cells o t)) a l) := fun o t => hr.nw (k1 o t).nw
  have H1 : Hid _ := fun w => sgoodSide w pw
  have H2 : Hid _ := fun w => sgoodSide w ph
  clear hr hV
  cases b1 : sdB pw with
  | false =>
    rw [b1] at H1 HV
    rw [Bool.false_and] at HV
    clear b1
    go_enter Try.func41, Try.ntmps41
    go_wp2_with fail
    refine Calls.mono (H1.out _) ?_
    rintro e w9 ⟨rfl, rfl⟩
    go_wp2
    go_ret
    exact ⟨ret_bool HV.out.symm, k1 _ _⟩
  | true =>
    rw [b1] at H1 HV
    rw [Bool.true_and] at HV
    cases b2 : sdB ph with
    | false =>
      rw [b2] at H2 HV
      rw [Bool.false_and] at HV
      clear b1 b2
      go_enter Try.func41, Try.ntmps41
      go_wp2_with fail
      refine Calls.mono (H1.out _) ?_
      rintro e w9 ⟨rfl, rfl⟩
      go_wp2_with fail
      refine Calls.mono (H2.out _) ?_
      rintro e w9 ⟨rfl, rfl⟩
      go_wp2
      go_ret
      exact ⟨ret_bool HV.out.symm, k1 _ _⟩
    | true =>
      rw [b2] at H2 HV
      rw [Bool.true_and] at HV
      obtain ⟨m1, m2⟩ := sd_mul b1 b2
      clear b1 b2
      by_cases b3 : (l.length : Int) = pw * ph
      · rw [decide_eq_true b3, Bool.true_and] at HV
        have hne : ((l.length : Int) != pw * ph) = false := by simp [b3]
        have HB : Hid ((l.length : Int) = pw * ph) := b3
        clear b3
        go_enter Try.func41, Try.ntmps41
        go_wp2_with fail
        refine Calls.mono (H1.out _) ?_
        rintro e w9 ⟨rfl, rfl⟩
        go_wp2_with fail
        refine Calls.mono (H2.out _) ?_
        rintro e w9 ⟨rfl, rfl⟩
        go_wp2
        clear hne m1 m2
        go_loopw [29] (fun i wr => ∃ k : Nat, k ≤ l.length ∧ i = .int .i64 k ∧ (∀ j, j < k → tnB (edAt l j) = true) ∧ Kp (w.alloc (.cells #[.int .i64 pw, .int .i64 ph, .slice a l.length c] 57)) wr) (fun i _ => l.length - (intOf i).toNat)
        case atStart => exact ⟨0, Nat.zero_le _, rfl, fun j hj => absurd hj (by omega), Kp.refl _⟩
        case round =>
          obtain ⟨k, hk, rfl, ha, hw⟩ := hrel
          have HA : Hid _ := ha
          have HWR : Hid _ := hw
          clear ha hw
          by_cases hlt : k < l.length
          · rcases Edgs.nw (HR.out #[.int .i64 pw, .int .i64 ph, .slice a l.length c] 57) (Kp.nw HWR.out) with h | ⟨b, off, rfl, hbk, hcc⟩
            · rw [h] at hlt; simp at hlt
            obtain ⟨q0, q1, q2, q3⟩ := hcc k hlt
            clear hcc
            obtain ⟨x, hx⟩ : ∃ x, edAt l k = x := ⟨_, rfl⟩
            have HXX : Hid (edAt l k = x) := hx
            rw [hx] at q0 q1 q2 q3
            clear hx
            have HC : Hid (∀ w, _) := fun w => sgoodTn w x
            cases hdn : tnB x with
            | false =>
              have HY : Hid (V = false) := HV.out.trans (all_false tnB noE l k hlt (show tnB (edAt l k) = false by rw [HXX.out]; exact hdn))
              rw [hdn] at HC
              clear hdn
              obtain ⟨x0, x1, x2, x3⟩ := x
              unfold edV at HC
              simp only at q0 q1 q2 q3 HC
              go_wp2_with fail
              refine (HC.out _).mono ?_
              rintro e w2 ⟨rfl, k2⟩
              have K2 : Hid (Kp w w2) := Kp.trans (k1 _ _) (Kp.trans (Kp.alloc HWR.out _ _) k2)
              clear k2
              go_wp2
              go_ret
              exact ⟨ret_bool HY.out.symm, K2.out⟩
            | true =>
              have HY : Hid (tnB (edAt l k) = true) := by show _ = _; rw [HXX.out]; exact hdn
              rw [hdn] at HC
              clear hdn
              obtain ⟨x0, x1, x2, x3⟩ := x
              unfold edV at HC
              simp only at q0 q1 q2 q3 HC
              go_wp2_with fail
              refine (HC.out _).mono ?_
              rintro e w2 ⟨rfl, k2⟩
              have K2 : Hid (Kp _ w2) := Kp.trans (Kp.alloc HWR.out _ _) k2
              clear k2
              go_wp2
              go_roundw
              case rel =>
                refine ⟨k + 1, by omega, by go_num, fun j hj => ?_, K2.out⟩
                rcases Nat.lt_succ_iff_lt_or_eq.1 hj with h | h
                · exact HA.out j h
                · rw [h]; exact HY.out
              case measure => simp [intOf]; omega
          · have HY : Hid (V = true) := HV.out.trans (all_true tnB noE l (fun j hj => HA.out j (by omega)))
            clear HA
            go_wp2
            go_ret
            exact ⟨ret_bool HY.out.symm, Kp.trans (k1 _ _) HWR.out⟩
      · rw [decide_eq_false b3, Bool.false_and] at HV
        have hne : ((l.length : Int) != pw * ph) = true := by simp [b3]
        clear b3
        go_enter Try.func41, Try.ntmps41
        go_wp2_with fail
        refine Calls.mono (H1.out _) ?_
        rintro e w9 ⟨rfl, rfl⟩
        go_wp2_with fail
        refine Calls.mono (H2.out _) ?_
        rintro e w9 ⟨rfl, rfl⟩
        go_wp2
        go_ret
        exact ⟨ret_bool HV.out.symm, k1 _ _⟩
end Go.Proofs.Ythlohbiocfeapaa
