/-
  Layers and good sheets, by the program; each theorem names its conditions.
-/
import Derived.Test.YthlohbiocfeapaaTnI
import Derived.Test.YthlohbiocfeapaaShIR
namespace Go.Proofs.Ythlohbiocfeapaa
open Go.ChangeShapes Go.WideShapes Go.ChangeAt Go.RowKit
set_option linter.unusedVariables false

theorem ilayerOf (w : World) (p : MD) (a : Option Addr) (n c : Nat) : Calls Try.prog 92 #[mskV p (.slice a n c)] w fun e w' => e = .returned (mskV p (.slice a n c)) ∧ Kp w w' := by
  obtain ⟨pw, ph⟩ := p
  unfold mskV
  simp only
  go_enter Try.func92, Try.ntmps92
  go_wp2
  exact bodyPost_ret (v := .agg #[.int .i64 pw, .int .i64 ph, .slice a n c]) (by simp [results, Try.results92, go_sem]) rfl ⟨rfl, ((Kp.refl w).alloc _ _).alloc _ _⟩
theorem ilsheet (w : World) (p : MD) (a : Option Addr) (n c : Nat) : Calls Try.prog 86 #[mskV p (.slice a n c)] w fun e w' => e = .returned (mskV p (.slice a n c)) ∧ Kp w w' := by
  obtain ⟨pw, ph⟩ := p
  unfold mskV
  simp only
  go_enter Try.func86, Try.ntmps86
  go_wp2
  exact bodyPost_ret (v := .agg #[.int .i64 pw, .int .i64 ph, .slice a n c]) (by simp [results, Try.results86, go_sem]) rfl ⟨rfl, ((Kp.refl w).alloc _ _).alloc _ _⟩
theorem iisOf (w : World) (pw ph qw qh : Int) : Calls Try.prog 98 #[.agg #[.int .i64 pw, .int .i64 ph], .int .i64 qw, .int .i64 qh] w fun e w' => e = .returned (.bool (decide (pw = qw) && decide (ph = qh))) ∧ Kp w w' := by
  by_cases e1 : pw = qw
  · have d1 : (pw == qw) = true := by simp [e1]
    by_cases e2 : ph = qh
    · have d2 : (ph == qh) = true := by simp [e2]
      rw [decide_eq_true e1, decide_eq_true e2]
      clear e1 e2
      go_enter Try.func98, Try.ntmps98
      go_wp2
      go_ret
      exact ⟨rfl, (Kp.refl w).alloc _ _⟩
    · have d2 : (ph == qh) = false := by simp [e2]
      rw [decide_eq_true e1, decide_eq_false e2]
      clear e1 e2
      go_enter Try.func98, Try.ntmps98
      go_wp2
      go_ret
      exact ⟨rfl, (Kp.refl w).alloc _ _⟩
  · have d1 : (pw == qw) = false := by simp [e1]
    rw [decide_eq_false e1, Bool.false_and]
    clear e1
    go_enter Try.func98, Try.ntmps98
    go_wp2
    go_ret
    exact ⟨rfl, (Kp.refl w).alloc _ _⟩
set_option maxRecDepth 100000 in
set_option maxHeartbeats 4000000 in
theorem iisGood (w : World) (p : MD) (a : Option Addr) (c : Nat) (l : List Edg) (hl : l.length ≤ 1048576) (hr : Edgs w a l) :
    Calls Try.prog 93 #[mskV p (.slice a l.length c)] w fun e w' => e = .returned (.bool (shB p l)) ∧ Kp w w' := by
  obtain ⟨pw, ph⟩ := p
  unfold mskV
  simp only
  obtain ⟨V, hV⟩ : ∃ V, shB ⟨pw, ph⟩ l = V := ⟨_, rfl⟩
  rw [hV]
  have HV : Hid (V = (sdB pw && (sdB ph && (decide ((l.length : Int) = pw * ph) && l.all tnB)))) := hV.symm
  obtain ⟨W, hW⟩ : ∃ W, w.alloc (.cells #[.int .i64 pw, .int .i64 ph, .slice a l.length c] 114) = W := ⟨_, rfl⟩
  have KW : Hid (Kp w W) := by show Kp w W; rw [← hW]; exact (Kp.refl w).alloc _ _
  have HB : Hid (MB W w.heap.size ⟨pw, ph⟩ (.slice a l.length c)) := by show MB _ _ _ _; rw [← hW]; exact MB.new w ⟨pw, ph⟩ (.slice a l.length c) _
  have HR : Hid (Edgs W a l) := hr.nw KW.out.nw
  have HW : Hid (_ = W) := hW
  clear hr hV hW
  cases b1 : (sdB pw && sdB ph) with
  | false =>
    rw [← Bool.and_assoc, b1, Bool.false_and] at HV
    go_enter Try.func93, Try.ntmps93
    go_wp2
    rw [HW.out]
    refine reg_change (ops' := opsOf 1 Try.f93) (by kernel_rfl) ?_
    obtain ⟨c0, c1, c2⟩ := HB.out
    refine SHA.run ⟨w.heap.size, pw, ph, a, l.length, c, W.drew, _⟩ ⟨c0, c1, c2, b1, rfl, rfl⟩ W (Kp.refl _) ?_
    rintro γ w9 k9
    have K9 : Hid (Kp W w9) := undrew k9
    clear k9 c0 c1 c2
    simp only [Act.put, List.setIfInBounds_toArray, List.set_cons_zero, List.set_cons_succ]
    go_wp2
    go_ret
    exact ⟨ret_bool HV.out.symm, Kp.trans KW.out K9.out⟩
  | true =>
    rw [← Bool.and_assoc, b1, Bool.true_and] at HV
    have hb1 := b1
    rw [Bool.and_eq_true] at hb1
    have hm := sd_mul hb1.1 hb1.2
    clear hb1
    by_cases b3 : (l.length : Int) = pw * ph
    · rw [decide_eq_true b3, Bool.true_and] at HV
      have hne : ((l.length : Int) != pw * ph) = false := by simp [b3]
      clear b3
      go_enter Try.func93, Try.ntmps93
      go_wp2
      rw [HW.out]
      refine reg_change (ops' := opsOf 1 Try.f93) (by kernel_rfl) ?_
      obtain ⟨c0, c1, c2⟩ := HB.out
      refine SHC.run ⟨w.heap.size, pw, ph, a, l.length, c, W.drew, _⟩ ⟨c0, c1, c2, b1, hm, hne, rfl, rfl⟩ W (Kp.refl _) ?_
      rintro γ w9 k9
      have K9 : Hid (Kp W w9) := undrew k9
      clear k9 c0 c1 c2
      simp only [Act.put, List.setIfInBounds_toArray, List.set_cons_zero, List.set_cons_succ]
      clear b1 hm hne
      obtain ⟨c0, c1, c2⟩ := MB.nw HB.out K9.out.nw
      have HR9 : Hid (Edgs w9 a l) := Edgs.nw HR.out K9.out.nw
      go_wp2
      go_loopw [21] (fun i wr => ∃ k : Nat, k ≤ l.length ∧ i = .int .i64 k ∧ (∀ j, j < k → tnB (edAt l j) = true) ∧ Kp w9 wr) (fun i _ => l.length - (intOf i).toNat)
      case atStart => exact ⟨0, Nat.zero_le _, rfl, fun j hj => absurd hj (by omega), Kp.refl _⟩
      case round =>
        obtain ⟨k, hk, rfl, ha, hw⟩ := hrel
        have HA : Hid _ := ha
        have HWR : Hid _ := hw
        clear ha hw
        by_cases hlt : k < l.length
        · rcases Edgs.nw HR9.out (Kp.nw HWR.out) with h | ⟨b, off, rfl, hbk, hcc⟩
          · rw [h] at hlt; simp at hlt
          obtain ⟨q0, q1, q2, q3⟩ := hcc k hlt
          clear hcc
          obtain ⟨x, hx⟩ : ∃ x, edAt l k = x := ⟨_, rfl⟩
          have HXX : Hid (edAt l k = x) := hx
          rw [hx] at q0 q1 q2 q3
          clear hx
          have HC : Hid (∀ w, _) := fun w => igoodTn w x
          cases hdn : tnB x with
          | false =>
            have HY : Hid (V = false) := HV.out.trans (all_false tnB noE l k hlt (show tnB (edAt l k) = false by rw [HXX.out]; exact hdn))
            rw [hdn] at HC
            clear hdn
            obtain ⟨x0, x1, x2, x3⟩ := x
            unfold edV at HC
            simp only at q0 q1 q2 q3 HC
            go_wp2_with fail
            refine (HC.out _).mono ?_
            rintro e w2 ⟨rfl, k2⟩
            have K2 : Hid (Kp w9 w2) := Kp.trans (Kp.alloc HWR.out _ _) k2
            clear k2
            go_wp2
            go_ret
            exact ⟨ret_bool HY.out.symm, Kp.trans KW.out (Kp.trans K9.out K2.out)⟩
          | true =>
            have HY : Hid (tnB (edAt l k) = true) := by show _ = _; rw [HXX.out]; exact hdn
            rw [hdn] at HC
            clear hdn
            obtain ⟨x0, x1, x2, x3⟩ := x
            unfold edV at HC
            simp only at q0 q1 q2 q3 HC
            go_wp2_with fail
            refine (HC.out _).mono ?_
            rintro e w2 ⟨rfl, k2⟩
            have K2 : Hid (Kp w9 w2) := Kp.trans (Kp.alloc HWR.out _ _) k2
            clear k2
            go_wp2
            go_roundw
            case rel =>
              refine ⟨k + 1, by omega, by go_num, fun j hj => ?_, K2.out⟩
              rcases Nat.lt_succ_iff_lt_or_eq.1 hj with h | h
              · exact HA.out j h
              · rw [h]; exact HY.out
            case measure => simp [intOf]; omega
        · have HY : Hid (V = true) := HV.out.trans (all_true tnB noE l (fun j hj => HA.out j (by omega)))
          clear HA
          go_wp2
          go_ret
          exact ⟨ret_bool HY.out.symm, Kp.trans KW.out (Kp.trans K9.out HWR.out)⟩
    · rw [decide_eq_false b3, Bool.false_and] at HV
      have hne : ((l.length : Int) != pw * ph) = true := by simp [b3]
      clear b3
      go_enter Try.func93, Try.ntmps93
      go_wp2
      rw [HW.out]
      refine reg_change (ops' := opsOf 1 Try.f93) (by kernel_rfl) ?_
      obtain ⟨c0, c1, c2⟩ := HB.out
      refine SHB.run ⟨w.heap.size, pw, ph, a, l.length, c, W.drew, _⟩ ⟨c0, c1, c2, b1, hm, hne, rfl, rfl⟩ W (Kp.refl _) ?_
      rintro γ w9 k9
      have K9 : Hid (Kp W w9) := undrew k9
      clear k9 c0 c1 c2
      simp only [Act.put, List.setIfInBounds_toArray, List.set_cons_zero, List.set_cons_succ]
      go_wp2
      go_ret
      exact ⟨ret_bool HV.out.symm, Kp.trans KW.out K9.out⟩
theorem igoodSh (w : World) (p : MD) (a : Option Addr) (c : Nat) (l : List Edg) (hl : l.length ≤ 1048576) (hr : Edgs w a l) :
    Calls Try.prog 43 #[mskV p (.slice a l.length c)] w fun e w' => e = .returned (.bool (shB p l)) ∧ Kp w w' := by
  have H1 : Hid (∀ w, _) := fun w => ilayerOf w p a l.length c
  have H2 : Hid (∀ w1, Kp w w1 → _) := fun w1 (k : Kp w w1) => iisGood w1 p a c l hl (hr.nw k.nw)
  generalize shB p l = V at *
  obtain ⟨pw, ph⟩ := p
  unfold mskV at H1 H2 ⊢
  simp only at H1 H2 ⊢
  generalize l.length = n at *
  clear hr
  go_enter Try.func43, Try.ntmps43
  go_wp2_with fail
  refine (H1.out _).mono ?_
  rintro e w1 ⟨rfl, k1⟩
  have K1 : Hid (Kp w w1) := Kp.trans ((Kp.refl w).alloc _ _) k1
  clear k1
  go_wp2_with fail
  refine (H2.out _ K1.out).mono ?_
  rintro e w2 ⟨rfl, k2⟩
  have K2 : Hid (Kp w w2) := Kp.trans K1.out k2
  clear k2
  go_wp2
  go_ret
  exact ⟨rfl, K2.out⟩
end Go.Proofs.Ythlohbiocfeapaa
