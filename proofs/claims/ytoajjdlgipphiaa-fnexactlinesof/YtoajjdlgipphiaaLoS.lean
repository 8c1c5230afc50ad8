/-
  Good steps, by the reference: l9Steps; each theorem names its conditions.
-/
import Derived.Test.YtoajjdlgipphiaaStG
namespace Go.Proofs.Ytoajjdlgipphiaa
open Go.ChangeShapes Go.WideShapes Go.ChangeAt Go.RowKit
set_option linter.unusedVariables false

theorem stOk_bad {l : List SD} {k : Nat} (h : (kdB (stAt l k).kind = true → ((stAt l k).ns.length : Int) = kdN (stAt l k).kind → (stAt l k).ns.all fixB = true → ¬ (k ≠ 0 ∨ (stAt l k).kind = 1))) : stOk l k = false := by
  cases hb : stOk l k with
  | false => rfl
  | true =>
    unfold stOk at hb
    simp only [Bool.and_eq_true, Bool.or_eq_true, decide_eq_true_eq] at hb
    exact absurd hb.2.2.2 (h hb.1 hb.2.1 hb.2.2.1)
theorem stOk_yes {l : List SD} {k : Nat} (h1 : kdB (stAt l k).kind = true) (h2 : ((stAt l k).ns.length : Int) = kdN (stAt l k).kind) (h3 : (stAt l k).ns.all fixB = true) (h4 : k ≠ 0 ∨ (stAt l k).kind = 1) : stOk l k = true := by
  unfold stOk
  simp only [Bool.and_eq_true, Bool.or_eq_true, decide_eq_true_eq]
  exact ⟨h1, h2, h3, h4⟩
set_option maxRecDepth 100000 in
set_option maxHeartbeats 16000000 in
theorem sgoodSteps (w : World) (a : Option Addr) (c : Nat) (l : List SD) (hl : l.length ≤ 1048576) (hns : ∀ i, i < l.length → (stAt l i).ns.length ≤ 1048576) (hr : Steps w a l) :
    Calls Try.prog 43 #[.slice a l.length c] w fun e w' => e = .returned (.bool (stsB l)) ∧ Kp w w' := by
  have HR : Hid (Steps w a l) := hr
  have HNS : Hid _ := hns
  clear hr hns
  unfold stsB
  by_cases h60 : l.length ≤ 60
  · rw [decide_eq_true h60, Bool.true_and]
    have hd : decide ((60 : Int) < l.length) = false := decide_eq_false (by omega)
    obtain ⟨V, hV⟩ : ∃ V, (List.range l.length).all (stOk l) = V := ⟨_, rfl⟩
    have HV : Hid ((List.range l.length).all (stOk l) = V) := hV
    rw [hV]
    clear hV
    go_enter Try.func43, Try.ntmps43
    go_wp2
    clear hd
    go_loopw [13] (fun i wr => ∃ k : Nat, k ≤ l.length ∧ i = .int .i64 (k : Int) ∧ (∀ j, j < k → stOk l j = true) ∧ Kp w wr) (fun i _ => l.length - (intOf i).toNat)
    case atStart => exact ⟨0, Nat.zero_le _, rfl, fun j hj => absurd hj (by omega), Kp.refl _⟩
    case round =>
      obtain ⟨k, hk, rfl, ha, hw⟩ := hrel
      have HA : Hid _ := ha
      have HW : Hid (Kp w wr) := hw
      clear ha hw
      by_cases hlt : k < l.length
      · rcases (Steps.nw HR.out HW.out.nw) with h | ⟨b, off, rfl, hb, hc⟩
        · rw [h] at hlt; simp at hlt
        obtain ⟨q0, pa, pc, q1, qi⟩ := hc k hlt
        clear hc
        have HBAD : Hid ((kdB (stAt l k).kind = true → ((stAt l k).ns.length : Int) = kdN (stAt l k).kind → (stAt l k).ns.all fixB = true → ¬ (k ≠ 0 ∨ (stAt l k).kind = 1)) → V = false) := fun h => HV.out.symm.trans (stsB_false hlt (stOk_bad h))
        have HYES : Hid (kdB (stAt l k).kind = true → ((stAt l k).ns.length : Int) = kdN (stAt l k).kind → (stAt l k).ns.all fixB = true → (k ≠ 0 ∨ (stAt l k).kind = 1) → stOk l k = true) := fun h1 h2 h3 h4 => stOk_yes h1 h2 h3 h4
        have HI : Hid (Ints wr pa (stAt l k).ns) := qi
        have hnl : (stAt l k).ns.length ≤ 1048576 := HNS.out k hlt
        clear qi
        generalize hkd : (stAt l k).kind = kd at *
        clear hkd
        generalize (stAt l k).ns = ns at *
        obtain ⟨W1, hW1⟩ : ∃ W1, wr = W1 := ⟨_, rfl⟩
        rw [hW1] at HW HI q0 q1 hb ⊢
        clear hW1
        by_cases h1 : kd = 1
        · subst h1
          by_cases hm : (ns.length : Int) = 2
          · have HNM : Hid ((ns.length : Int) = kdN 1) := hm
            have hne : ((ns.length : Int) != 2) = false := by simp [hm]
            clear hm
            by_cases hk0 : k = 0
            · subst hk0
              simp only [Nat.zero_mul, Nat.add_zero] at q0 q1
              obtain ⟨W2, hW2⟩ : ∃ W2, W1.alloc (.cells #[.int .i64 1, .slice pa ns.length pc] 76) = W2 := ⟨_, rfl⟩
              have N2 : Hid (Kp W1 W2) := by show Kp _ _; rw [← hW2]; exact (Kp.refl W1).alloc _ _
              have HI2 : Hid (Ints W2 pa ns) := Ints.nw HI.out N2.out.nw
              have HW2 : Hid (_ = W2) := hW2
              clear hW2 hb
              go_wp2
              rw [HW2.out]
              go_loop [44] (fun i => ∃ j : Nat, j ≤ ns.length ∧ i = .int .i64 (j : Int) ∧ ∀ m, m < j → fixB (intAt ns m) = true) (fun i => ns.length - (intOf i).toNat)
              case atStart => exact ⟨0, Nat.zero_le _, rfl, fun m hm => absurd hm (by omega)⟩
              case round =>
                obtain ⟨j, hj, rfl, ha⟩ := hrel
                have HA2 : Hid _ := ha
                clear ha
                by_cases hlt2 : j < ns.length
                · rcases HI2.out with h | ⟨b2, off2, rfl, hb2, hc2⟩
                  · rw [h] at hlt2; simp at hlt2
                  have q2 := hc2 j hlt2
                  clear hc2
                  obtain ⟨x, hx⟩ : ∃ x, intAt ns j = x := ⟨_, rfl⟩
                  have HX : Hid (intAt ns j = x) := hx
                  rw [hx] at q2
                  clear hx
                  have hcall : Hid _ := fun w => sgoodF x w
                  cases hf : fixB x with
                  | true =>
                    rw [hf] at hcall
                    have HF : Hid (fixB x = true) := hf
                    clear hf
                    go_wp2_with fail
                    refine (hcall.out _).mono ?_
                    rintro e w1 ⟨rfl, rfl⟩
                    go_wp2
                    go_round
                    case rel =>
                      refine ⟨j + 1, by omega, by go_num, fun m hm => ?_⟩
                      rcases Nat.lt_succ_iff_lt_or_eq.1 hm with h | h
                      · exact HA2.out m h
                      · rw [h, HX.out]; exact HF.out
                    case measure => simp [intOf]; omega
                  | false =>
                    rw [hf] at hcall
                    have HF : Hid (V = false) := HBAD.out (fun _ _ h3 => by
                      have := all_false _ 0 ns j hlt2 (HX.out ▸ hf)
                      rw [h3] at this
                      cases this)
                    clear hf
                    go_wp2_with fail
                    refine (hcall.out _).mono ?_
                    rintro e w1 ⟨rfl, rfl⟩
                    go_wp2
                    go_ret
                    exact ⟨ret_bool HF.out.symm, Kp.trans HW.out N2.out⟩
                · have HT : Hid (stOk l 0 = true) := HYES.out rfl HNM.out (all_true _ 0 _ (fun m hm => HA2.out m (by omega))) (by first | exact Or.inl hk0 | exact Or.inr rfl | exact Or.inr trivial)
                  clear HA2
                  go_wp2
                  go_roundw
                  case rel =>
                    refine ⟨0 + 1, by omega, by go_num, fun j hj => ?_, Kp.trans HW.out N2.out⟩
                    rcases Nat.lt_succ_iff_lt_or_eq.1 hj with h | h
                    · exact HA.out j h
                    · rw [h]; exact HT.out
                  case measure => simp [intOf]; omega
            · have hz : ((k : Int) == 0) = false := by simp; omega
              obtain ⟨W2, hW2⟩ : ∃ W2, W1.alloc (.cells #[.int .i64 1, .slice pa ns.length pc] 76) = W2 := ⟨_, rfl⟩
              have N2 : Hid (Kp W1 W2) := by show Kp _ _; rw [← hW2]; exact (Kp.refl W1).alloc _ _
              have HI2 : Hid (Ints W2 pa ns) := Ints.nw HI.out N2.out.nw
              have HW2 : Hid (_ = W2) := hW2
              clear hW2 hb
              go_wp2
              rw [HW2.out]
              go_loop [44] (fun i => ∃ j : Nat, j ≤ ns.length ∧ i = .int .i64 (j : Int) ∧ ∀ m, m < j → fixB (intAt ns m) = true) (fun i => ns.length - (intOf i).toNat)
              case atStart => exact ⟨0, Nat.zero_le _, rfl, fun m hm => absurd hm (by omega)⟩
              case round =>
                obtain ⟨j, hj, rfl, ha⟩ := hrel
                have HA2 : Hid _ := ha
                clear ha
                by_cases hlt2 : j < ns.length
                · rcases HI2.out with h | ⟨b2, off2, rfl, hb2, hc2⟩
                  · rw [h] at hlt2; simp at hlt2
                  have q2 := hc2 j hlt2
                  clear hc2
                  obtain ⟨x, hx⟩ : ∃ x, intAt ns j = x := ⟨_, rfl⟩
                  have HX : Hid (intAt ns j = x) := hx
                  rw [hx] at q2
                  clear hx
                  have hcall : Hid _ := fun w => sgoodF x w
                  cases hf : fixB x with
                  | true =>
                    rw [hf] at hcall
                    have HF : Hid (fixB x = true) := hf
                    clear hf
                    go_wp2_with fail
                    refine (hcall.out _).mono ?_
                    rintro e w1 ⟨rfl, rfl⟩
                    go_wp2
                    go_round
                    case rel =>
                      refine ⟨j + 1, by omega, by go_num, fun m hm => ?_⟩
                      rcases Nat.lt_succ_iff_lt_or_eq.1 hm with h | h
                      · exact HA2.out m h
                      · rw [h, HX.out]; exact HF.out
                    case measure => simp [intOf]; omega
                  | false =>
                    rw [hf] at hcall
                    have HF : Hid (V = false) := HBAD.out (fun _ _ h3 => by
                      have := all_false _ 0 ns j hlt2 (HX.out ▸ hf)
                      rw [h3] at this
                      cases this)
                    clear hf
                    go_wp2_with fail
                    refine (hcall.out _).mono ?_
                    rintro e w1 ⟨rfl, rfl⟩
                    go_wp2
                    go_ret
                    exact ⟨ret_bool HF.out.symm, Kp.trans HW.out N2.out⟩
                · have HT : Hid (stOk l k = true) := HYES.out rfl HNM.out (all_true _ 0 _ (fun m hm => HA2.out m (by omega))) (by first | exact Or.inl hk0 | exact Or.inr rfl | exact Or.inr trivial)
                  clear HA2
                  go_wp2
                  go_roundw
                  case rel =>
                    refine ⟨k + 1, by omega, by go_num, fun j hj => ?_, Kp.trans HW.out N2.out⟩
                    rcases Nat.lt_succ_iff_lt_or_eq.1 hj with h | h
                    · exact HA.out j h
                    · rw [h]; exact HT.out
                  case measure => simp [intOf]; omega
          · have HF : Hid (V = false) := HBAD.out (fun _ h => absurd h hm)
            have hne : ((ns.length : Int) != 2) = true := bne_iff_ne.2 hm
            clear hm
            go_wp2
            go_ret
            exact ⟨ret_bool HF.out.symm, Kp.trans HW.out ((Kp.refl W1).alloc _ _)⟩
        · by_cases h2 : kd = 2
          · subst h2
            by_cases hm : (ns.length : Int) = 2
            · have HNM : Hid ((ns.length : Int) = kdN 2) := hm
              have hne : ((ns.length : Int) != 2) = false := by simp [hm]
              clear hm
              by_cases hk0 : k = 0
              · subst hk0
                simp only [Nat.zero_mul, Nat.add_zero] at q0 q1
                have HF : Hid (V = false) := HBAD.out (fun _ _ _ h => by rcases h with h | h <;> omega)
                go_wp2
                go_ret
                exact ⟨ret_bool HF.out.symm, Kp.trans HW.out ((Kp.refl W1).alloc _ _)⟩
              · have hz : ((k : Int) == 0) = false := by simp; omega
                obtain ⟨W2, hW2⟩ : ∃ W2, W1.alloc (.cells #[.int .i64 2, .slice pa ns.length pc] 76) = W2 := ⟨_, rfl⟩
                have N2 : Hid (Kp W1 W2) := by show Kp _ _; rw [← hW2]; exact (Kp.refl W1).alloc _ _
                have HI2 : Hid (Ints W2 pa ns) := Ints.nw HI.out N2.out.nw
                have HW2 : Hid (_ = W2) := hW2
                clear hW2 hb
                go_wp2
                rw [HW2.out]
                go_loop [44] (fun i => ∃ j : Nat, j ≤ ns.length ∧ i = .int .i64 (j : Int) ∧ ∀ m, m < j → fixB (intAt ns m) = true) (fun i => ns.length - (intOf i).toNat)
                case atStart => exact ⟨0, Nat.zero_le _, rfl, fun m hm => absurd hm (by omega)⟩
                case round =>
                  obtain ⟨j, hj, rfl, ha⟩ := hrel
                  have HA2 : Hid _ := ha
                  clear ha
                  by_cases hlt2 : j < ns.length
                  · rcases HI2.out with h | ⟨b2, off2, rfl, hb2, hc2⟩
                    · rw [h] at hlt2; simp at hlt2
                    have q2 := hc2 j hlt2
                    clear hc2
                    obtain ⟨x, hx⟩ : ∃ x, intAt ns j = x := ⟨_, rfl⟩
                    have HX : Hid (intAt ns j = x) := hx
                    rw [hx] at q2
                    clear hx
                    have hcall : Hid _ := fun w => sgoodF x w
                    cases hf : fixB x with
                    | true =>
                      rw [hf] at hcall
                      have HF : Hid (fixB x = true) := hf
                      clear hf
                      go_wp2_with fail
                      refine (hcall.out _).mono ?_
                      rintro e w1 ⟨rfl, rfl⟩
                      go_wp2
                      go_round
                      case rel =>
                        refine ⟨j + 1, by omega, by go_num, fun m hm => ?_⟩
                        rcases Nat.lt_succ_iff_lt_or_eq.1 hm with h | h
                        · exact HA2.out m h
                        · rw [h, HX.out]; exact HF.out
                      case measure => simp [intOf]; omega
                    | false =>
                      rw [hf] at hcall
                      have HF : Hid (V = false) := HBAD.out (fun _ _ h3 => by
                        have := all_false _ 0 ns j hlt2 (HX.out ▸ hf)
                        rw [h3] at this
                        cases this)
                      clear hf
                      go_wp2_with fail
                      refine (hcall.out _).mono ?_
                      rintro e w1 ⟨rfl, rfl⟩
                      go_wp2
                      go_ret
                      exact ⟨ret_bool HF.out.symm, Kp.trans HW.out N2.out⟩
                  · have HT : Hid (stOk l k = true) := HYES.out rfl HNM.out (all_true _ 0 _ (fun m hm => HA2.out m (by omega))) (by first | exact Or.inl hk0 | exact Or.inr rfl | exact Or.inr trivial)
                    clear HA2
                    go_wp2
                    go_roundw
                    case rel =>
                      refine ⟨k + 1, by omega, by go_num, fun j hj => ?_, Kp.trans HW.out N2.out⟩
                      rcases Nat.lt_succ_iff_lt_or_eq.1 hj with h | h
                      · exact HA.out j h
                      · rw [h]; exact HT.out
                    case measure => simp [intOf]; omega
            · have HF : Hid (V = false) := HBAD.out (fun _ h => absurd h hm)
              have hne : ((ns.length : Int) != 2) = true := bne_iff_ne.2 hm
              clear hm
              go_wp2
              go_ret
              exact ⟨ret_bool HF.out.symm, Kp.trans HW.out ((Kp.refl W1).alloc _ _)⟩
          · by_cases h3 : kd = 3
            · subst h3
              by_cases hm : (ns.length : Int) = 6
              · have HNM : Hid ((ns.length : Int) = kdN 3) := hm
                have hne : ((ns.length : Int) != 6) = false := by simp [hm]
                clear hm
                by_cases hk0 : k = 0
                · subst hk0
                  simp only [Nat.zero_mul, Nat.add_zero] at q0 q1
                  have HF : Hid (V = false) := HBAD.out (fun _ _ _ h => by rcases h with h | h <;> omega)
                  go_wp2
                  go_ret
                  exact ⟨ret_bool HF.out.symm, Kp.trans HW.out ((Kp.refl W1).alloc _ _)⟩
                · have hz : ((k : Int) == 0) = false := by simp; omega
                  obtain ⟨W2, hW2⟩ : ∃ W2, W1.alloc (.cells #[.int .i64 3, .slice pa ns.length pc] 76) = W2 := ⟨_, rfl⟩
                  have N2 : Hid (Kp W1 W2) := by show Kp _ _; rw [← hW2]; exact (Kp.refl W1).alloc _ _
                  have HI2 : Hid (Ints W2 pa ns) := Ints.nw HI.out N2.out.nw
                  have HW2 : Hid (_ = W2) := hW2
                  clear hW2 hb
                  go_wp2
                  rw [HW2.out]
                  go_loop [44] (fun i => ∃ j : Nat, j ≤ ns.length ∧ i = .int .i64 (j : Int) ∧ ∀ m, m < j → fixB (intAt ns m) = true) (fun i => ns.length - (intOf i).toNat)
                  case atStart => exact ⟨0, Nat.zero_le _, rfl, fun m hm => absurd hm (by omega)⟩
                  case round =>
                    obtain ⟨j, hj, rfl, ha⟩ := hrel
                    have HA2 : Hid _ := ha
                    clear ha
                    by_cases hlt2 : j < ns.length
                    · rcases HI2.out with h | ⟨b2, off2, rfl, hb2, hc2⟩
                      · rw [h] at hlt2; simp at hlt2
                      have q2 := hc2 j hlt2
                      clear hc2
                      obtain ⟨x, hx⟩ : ∃ x, intAt ns j = x := ⟨_, rfl⟩
                      have HX : Hid (intAt ns j = x) := hx
                      rw [hx] at q2
                      clear hx
                      have hcall : Hid _ := fun w => sgoodF x w
                      cases hf : fixB x with
                      | true =>
                        rw [hf] at hcall
                        have HF : Hid (fixB x = true) := hf
                        clear hf
                        go_wp2_with fail
                        refine (hcall.out _).mono ?_
                        rintro e w1 ⟨rfl, rfl⟩
                        go_wp2
                        go_round
                        case rel =>
                          refine ⟨j + 1, by omega, by go_num, fun m hm => ?_⟩
                          rcases Nat.lt_succ_iff_lt_or_eq.1 hm with h | h
                          · exact HA2.out m h
                          · rw [h, HX.out]; exact HF.out
                        case measure => simp [intOf]; omega
                      | false =>
                        rw [hf] at hcall
                        have HF : Hid (V = false) := HBAD.out (fun _ _ h3 => by
                          have := all_false _ 0 ns j hlt2 (HX.out ▸ hf)
                          rw [h3] at this
                          cases this)
                        clear hf
                        go_wp2_with fail
                        refine (hcall.out _).mono ?_
                        rintro e w1 ⟨rfl, rfl⟩
                        go_wp2
                        go_ret
                        exact ⟨ret_bool HF.out.symm, Kp.trans HW.out N2.out⟩
                    · have HT : Hid (stOk l k = true) := HYES.out rfl HNM.out (all_true _ 0 _ (fun m hm => HA2.out m (by omega))) (by first | exact Or.inl hk0 | exact Or.inr rfl | exact Or.inr trivial)
                      clear HA2
                      go_wp2
                      go_roundw
                      case rel =>
                        refine ⟨k + 1, by omega, by go_num, fun j hj => ?_, Kp.trans HW.out N2.out⟩
                        rcases Nat.lt_succ_iff_lt_or_eq.1 hj with h | h
                        · exact HA.out j h
                        · rw [h]; exact HT.out
                      case measure => simp [intOf]; omega
              · have HF : Hid (V = false) := HBAD.out (fun _ h => absurd h hm)
                have hne : ((ns.length : Int) != 6) = true := bne_iff_ne.2 hm
                clear hm
                go_wp2
                go_ret
                exact ⟨ret_bool HF.out.symm, Kp.trans HW.out ((Kp.refl W1).alloc _ _)⟩
            · by_cases h4 : kd = 4
              · subst h4
                by_cases hm : (ns.length : Int) = 0
                · have HNM : Hid ((ns.length : Int) = kdN 4) := hm
                  have hne : ((ns.length : Int) != 0) = false := by simp [hm]
                  clear hm
                  by_cases hk0 : k = 0
                  · subst hk0
                    simp only [Nat.zero_mul, Nat.add_zero] at q0 q1
                    have HF : Hid (V = false) := HBAD.out (fun _ _ _ h => by rcases h with h | h <;> omega)
                    go_wp2
                    go_ret
                    exact ⟨ret_bool HF.out.symm, Kp.trans HW.out ((Kp.refl W1).alloc _ _)⟩
                  · have hz : ((k : Int) == 0) = false := by simp; omega
                    obtain ⟨W2, hW2⟩ : ∃ W2, W1.alloc (.cells #[.int .i64 4, .slice pa ns.length pc] 76) = W2 := ⟨_, rfl⟩
                    have N2 : Hid (Kp W1 W2) := by show Kp _ _; rw [← hW2]; exact (Kp.refl W1).alloc _ _
                    have HI2 : Hid (Ints W2 pa ns) := Ints.nw HI.out N2.out.nw
                    have HW2 : Hid (_ = W2) := hW2
                    clear hW2 hb
                    go_wp2
                    rw [HW2.out]
                    go_loop [44] (fun i => ∃ j : Nat, j ≤ ns.length ∧ i = .int .i64 (j : Int) ∧ ∀ m, m < j → fixB (intAt ns m) = true) (fun i => ns.length - (intOf i).toNat)
                    case atStart => exact ⟨0, Nat.zero_le _, rfl, fun m hm => absurd hm (by omega)⟩
                    case round =>
                      obtain ⟨j, hj, rfl, ha⟩ := hrel
                      have HA2 : Hid _ := ha
                      clear ha
                      by_cases hlt2 : j < ns.length
                      · rcases HI2.out with h | ⟨b2, off2, rfl, hb2, hc2⟩
                        · rw [h] at hlt2; simp at hlt2
                        have q2 := hc2 j hlt2
                        clear hc2
                        obtain ⟨x, hx⟩ : ∃ x, intAt ns j = x := ⟨_, rfl⟩
                        have HX : Hid (intAt ns j = x) := hx
                        rw [hx] at q2
                        clear hx
                        have hcall : Hid _ := fun w => sgoodF x w
                        cases hf : fixB x with
                        | true =>
                          rw [hf] at hcall
                          have HF : Hid (fixB x = true) := hf
                          clear hf
                          go_wp2_with fail
                          refine (hcall.out _).mono ?_
                          rintro e w1 ⟨rfl, rfl⟩
                          go_wp2
                          go_round
                          case rel =>
                            refine ⟨j + 1, by omega, by go_num, fun m hm => ?_⟩
                            rcases Nat.lt_succ_iff_lt_or_eq.1 hm with h | h
                            · exact HA2.out m h
                            · rw [h, HX.out]; exact HF.out
                          case measure => simp [intOf]; omega
                        | false =>
                          rw [hf] at hcall
                          have HF : Hid (V = false) := HBAD.out (fun _ _ h3 => by
                            have := all_false _ 0 ns j hlt2 (HX.out ▸ hf)
                            rw [h3] at this
                            cases this)
                          clear hf
                          go_wp2_with fail
                          refine (hcall.out _).mono ?_
                          rintro e w1 ⟨rfl, rfl⟩
                          go_wp2
                          go_ret
                          exact ⟨ret_bool HF.out.symm, Kp.trans HW.out N2.out⟩
                      · have HT : Hid (stOk l k = true) := HYES.out rfl HNM.out (all_true _ 0 _ (fun m hm => HA2.out m (by omega))) (by first | exact Or.inl hk0 | exact Or.inr rfl | exact Or.inr trivial)
                        clear HA2
                        go_wp2
                        go_roundw
                        case rel =>
                          refine ⟨k + 1, by omega, by go_num, fun j hj => ?_, Kp.trans HW.out N2.out⟩
                          rcases Nat.lt_succ_iff_lt_or_eq.1 hj with h | h
                          · exact HA.out j h
                          · rw [h]; exact HT.out
                        case measure => simp [intOf]; omega
                · have HF : Hid (V = false) := HBAD.out (fun _ h => absurd h hm)
                  have hne : ((ns.length : Int) != 0) = true := bne_iff_ne.2 hm
                  clear hm
                  go_wp2
                  go_ret
                  exact ⟨ret_bool HF.out.symm, Kp.trans HW.out ((Kp.refl W1).alloc _ _)⟩
              · have HF : Hid (V = false) := HBAD.out (fun h => by unfold kdB at h; simp [h1, h2, h3, h4] at h)
                have e1 : (kd == 1) = false := by simp [h1]
                have e2 : (kd == 2) = false := by simp [h2]
                have e3 : (kd == 3) = false := by simp [h3]
                have e4 : (kd == 4) = false := by simp [h4]
                have hne : ((ns.length : Int) != (-1)) = true := bne_iff_ne.2 (by omega)
                clear h1 h2 h3 h4
                go_wp2
                go_ret
                exact ⟨ret_bool HF.out.symm, Kp.trans HW.out ((Kp.refl W1).alloc _ _)⟩
      · have HF : Hid (V = true) := HV.out.symm.trans (stsB_true (fun j hj => HA.out j (by omega)))
        clear HA
        go_wp2
        go_ret
        exact ⟨ret_bool HF.out.symm, HW.out⟩
  · rw [decide_eq_false h60, Bool.false_and]
    have hd : decide ((60 : Int) < l.length) = true := decide_eq_true (by omega)
    clear h60
    go_enter Try.func43, Try.ntmps43
    go_wp2
    go_ret
    exact ⟨rfl, Kp.refl _⟩
end Go.Proofs.Ytoajjdlgipphiaa
