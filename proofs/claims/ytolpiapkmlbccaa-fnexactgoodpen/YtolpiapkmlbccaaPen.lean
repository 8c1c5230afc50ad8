/-
  Good pens, of both: GoodPen; each theorem names its conditions.
-/
import Derived.Test.YtolpiapkmlbccaaPenT
import Derived.Test.YtolpiapkmlbccaaNr
namespace Go.Proofs.Ytolpiapkmlbccaa
open Go.ChangeShapes Go.WideShapes Go.ChangeAt Go.RowKit
set_option linter.unusedVariables false

def dnB (x : Int) : Bool := decide (0 ≤ x ∧ x ≤ 67108864)
/-- A good dash. -/
def dshB (l : List Int) (f : Int) : Bool := decide (l.length ≤ 8) && (dnB f && l.all dnB)
def penB (p : PD) (l : List Int) : Bool := decide (0 ≤ p.w ∧ p.w ≤ 4194304) && (decide (1 ≤ p.j ∧ p.j ≤ 3) && (decide (1 ≤ p.c ∧ p.c ≤ 3) && dshB l p.f))
theorem Ints.at {w : World} {a : Option Addr} {l : List Int} (h : Ints w a l) {k : Nat} (hk : k < l.length) : ∃ b off, a = some ⟨b, off, none⟩ ∧ w.cell? ⟨b, off + k, none⟩ = some (.int .i64 (intAt l k)) := by
  rcases h with h | ⟨b, off, rfl, hb, hc⟩
  · rw [h] at hk; simp at hk
  · exact ⟨b, off, rfl, hc k hk⟩
set_option maxHeartbeats 2000000 in
theorem igoodDash (w : World) (a : Option Addr) (c : Nat) (l : List Int) (f : Int) (hl : l.length ≤ 1048576) (hr : Ints w a l) :
    Calls Try.prog 40 #[.slice a l.length c, .int .i64 f] w fun e w' => e = .returned (.bool (dshB l f)) ∧ w' = w := by
  obtain ⟨V, hV⟩ : ∃ V, dshB l f = V := ⟨_, rfl⟩
  rw [hV]
  have HV : Hid (dshB l f = V) := hV
  have HR : Hid (Ints w a l) := hr
  have HF : Hid (∀ w, Calls Try.prog 39 #[.int .i64 f, .int .i64 0, .int .i64 67108864] w fun e w' => e = .returned (.bool (dnB f)) ∧ w' = w) := fun w => iin_any w f 0 67108864
  clear hr hV
  by_cases h8 : l.length ≤ 8
  · have hd : decide ((8 : Int) < l.length) = false := decide_eq_false (by omega)
    cases hf : dnB f with
    | false =>
      have HX : Hid (V = false) := by show V = false; rw [← HV.out]; unfold dshB; rw [hf]; simp
      rw [hf] at HF
      clear hf
      go_enter Try.func40, Try.ntmps40
      go_wp2_with fail
      refine (HF.out _).mono ?_
      rintro e w1 ⟨rfl, rfl⟩
      go_wp2
      go_ret
      exact ⟨ret_bool HX.out.symm, rfl⟩
    | true =>
      rw [hf] at HF
      have HX : Hid (V = l.all dnB) := by show V = _; rw [← HV.out]; unfold dshB; rw [hf, decide_eq_true h8]; simp
      clear hf HV
      go_enter Try.func40, Try.ntmps40
      go_wp2_with fail
      refine (HF.out _).mono ?_
      rintro e w1 ⟨rfl, rfl⟩
      go_wp2
      go_loop [17] (fun i => ∃ k : Nat, k ≤ l.length ∧ i = .int .i64 k ∧ ∀ j, j < k → dnB (intAt l j) = true) (fun i => l.length - (intOf i).toNat)
      case atStart => exact ⟨0, Nat.zero_le _, rfl, fun j hj => absurd hj (by omega)⟩
      case round =>
        obtain ⟨k, hk, rfl, ha⟩ := hrel
        have HA : Hid _ := ha
        clear ha
        by_cases hlt : k < l.length
        · obtain ⟨b, off, rfl, q⟩ := Ints.at HR.out hlt
          obtain ⟨x, hx⟩ : ∃ x, intAt l k = x := ⟨_, rfl⟩
          have HXX : Hid (intAt l k = x) := hx
          rw [hx] at q
          clear hx
          have HC : Hid (∀ w, Calls Try.prog 39 #[.int .i64 x, .int .i64 0, .int .i64 67108864] w fun e w' => e = .returned (.bool (dnB x)) ∧ w' = w) := fun w => iin_any w x 0 67108864
          cases hdn : dnB x with
          | false =>
            have HY : Hid (V = false) := HX.out.trans (all_false dnB 0 l k hlt (show dnB (intAt l k) = false by rw [HXX.out]; exact hdn))
            rw [hdn] at HC
            clear hdn
            go_wp2_with fail
            refine (HC.out _).mono ?_
            rintro e w2 ⟨rfl, rfl⟩
            go_wp2
            go_ret
            exact ⟨ret_bool HY.out.symm, rfl⟩
          | true =>
            have HY : Hid (dnB (intAt l k) = true) := by show _ = _; rw [HXX.out]; exact hdn
            rw [hdn] at HC
            clear hdn
            go_wp2_with fail
            refine (HC.out _).mono ?_
            rintro e w2 ⟨rfl, rfl⟩
            go_wp2
            go_round
            case rel =>
              refine ⟨k + 1, by omega, by go_num, fun j hj => ?_⟩
              rcases Nat.lt_succ_iff_lt_or_eq.1 hj with h | h
              · exact HA.out j h
              · rw [h]; exact HY.out
            case measure => simp [intOf]; omega
        · have HY : Hid (V = true) := HX.out.trans (all_true dnB 0 l (fun j hj => HA.out j (by omega)))
          clear HA
          go_wp2
          go_ret
          exact ⟨ret_bool HY.out.symm, rfl⟩
  · have hd : decide ((8 : Int) < l.length) = true := decide_eq_true (by omega)
    have HX : Hid (V = false) := by show V = false; rw [← HV.out]; unfold dshB; rw [decide_eq_false h8]; simp
    go_enter Try.func40, Try.ntmps40
    go_wp2
    go_ret
    exact ⟨ret_bool HX.out.symm, rfl⟩
set_option maxRecDepth 100000 in
set_option maxHeartbeats 4000000 in
theorem igoodPen (w : World) (p : PD) (a : Option Addr) (c : Nat) (l : List Int) (hl : l.length ≤ 1048576) (hr : Ints w a l) :
    Calls Try.prog 11 #[penV p (.slice a l.length c)] w fun e w' => e = .returned (.bool (penB p l)) ∧ Kp w w' := by
  obtain ⟨pw, pj, pc, pf⟩ := p
  unfold penV penB
  simp only
  have k1 : ∀ o t, Kp w (w.alloc (.cells o t)) := fun o t => (Kp.refl w).alloc _ _
  have HD : Hid (∀ o t, _) := fun o t => igoodDash (w.alloc (.cells o t)) a c l pf hl (hr.nw (k1 o t).nw)
  have H1 : Hid _ := fun w => iin_any w pw 0 4194304
  have H2 : Hid _ := fun w => iin_any w pj 1 3
  have H3 : Hid _ := fun w => iin_any w pc 1 3
  clear hr
  generalize l.length = n at *
  generalize decide (0 ≤ pw ∧ pw ≤ 4194304) = b1 at *
  generalize decide (1 ≤ pj ∧ pj ≤ 3) = b2 at *
  generalize decide (1 ≤ pc ∧ pc ≤ 3) = b3 at *
  generalize dshB l pf = b4 at *
  cases b1 with
  | false =>
    go_enter Try.func11, Try.ntmps11
    go_wp2_with fail
    refine Calls.mono (H1.out _) ?_
    rintro e w9 ⟨rfl, rfl⟩
    go_wp2
    go_ret
    exact ⟨rfl, k1 _ _⟩
  | true =>
    rw [Bool.true_and]
    cases b2 with
    | false =>
      go_enter Try.func11, Try.ntmps11
      go_wp2_with fail
      refine Calls.mono (H1.out _) ?_
      rintro e w9 ⟨rfl, rfl⟩
      go_wp2_with fail
      refine Calls.mono (H2.out _) ?_
      rintro e w9 ⟨rfl, rfl⟩
      go_wp2
      go_ret
      exact ⟨rfl, k1 _ _⟩
    | true =>
      rw [Bool.true_and]
      cases b3 with
      | false =>
        go_enter Try.func11, Try.ntmps11
        go_wp2_with fail
        refine Calls.mono (H1.out _) ?_
        rintro e w9 ⟨rfl, rfl⟩
        go_wp2_with fail
        refine Calls.mono (H2.out _) ?_
        rintro e w9 ⟨rfl, rfl⟩
        go_wp2_with fail
        refine Calls.mono (H3.out _) ?_
        rintro e w9 ⟨rfl, rfl⟩
        go_wp2
        go_ret
        exact ⟨rfl, k1 _ _⟩
      | true =>
        rw [Bool.true_and]
        go_enter Try.func11, Try.ntmps11
        go_wp2_with fail
        refine Calls.mono (H1.out _) ?_
        rintro e w9 ⟨rfl, rfl⟩
        go_wp2_with fail
        refine Calls.mono (H2.out _) ?_
        rintro e w9 ⟨rfl, rfl⟩
        go_wp2_with fail
        refine Calls.mono (H3.out _) ?_
        rintro e w9 ⟨rfl, rfl⟩
        go_wp2_with fail
        refine Calls.mono (HD.out _ _) ?_
        rintro e w9 ⟨rfl, rfl⟩
        go_wp2
        go_ret
        exact ⟨rfl, k1 _ _⟩
set_option maxRecDepth 100000 in
set_option maxHeartbeats 4000000 in
theorem sgoodPen (w : World) (p : PD) (a : Option Addr) (c : Nat) (l : List Int) (hl : l.length ≤ 1048576) (hr : Ints w a l) :
    Calls Try.prog 9 #[penV p (.slice a l.length c)] w fun e w' => e = .returned (.bool (penB p l)) ∧ Kp w w' := by
  obtain ⟨pw, pj, pc, pf⟩ := p
  unfold penV penB dshB
  simp only
  have k1 : ∀ o t, Kp w (w.alloc (.cells o t)) := fun o t => (Kp.refl w).alloc _ _
  have HR : Hid (∀ o t, Ints (w.alloc (.cells o t)) a l) := fun o t => hr.nw (k1 o t).nw
  have H1 : Hid _ := fun w => in_any w pw 0 4194304
  have H2 : Hid _ := fun w => in_any w pj 1 3
  have H3 : Hid _ := fun w => in_any w pc 1 3
  have H4 : Hid (∀ w, Calls Try.prog 38 #[.int .i64 pf, .int .i64 0, .int .i64 67108864] w fun e w' => e = .returned (.bool (dnB pf)) ∧ w' = w) := fun w => in_any w pf 0 67108864
  clear hr
  generalize decide (0 ≤ pw ∧ pw ≤ 4194304) = b1 at *
  generalize decide (1 ≤ pj ∧ pj ≤ 3) = b2 at *
  generalize decide (1 ≤ pc ∧ pc ≤ 3) = b3 at *
  generalize dnB pf = b4 at *
  cases b1 with
  | false =>
    go_enter Try.func9, Try.ntmps9
    go_wp2_with fail
    refine Calls.mono (H1.out _) ?_
    rintro e w9 ⟨rfl, rfl⟩
    go_wp2
    go_ret
    exact ⟨rfl, k1 _ _⟩
  | true =>
    rw [Bool.true_and]
    cases b2 with
    | false =>
      go_enter Try.func9, Try.ntmps9
      go_wp2_with fail
      refine Calls.mono (H1.out _) ?_
      rintro e w9 ⟨rfl, rfl⟩
      go_wp2_with fail
      refine Calls.mono (H2.out _) ?_
      rintro e w9 ⟨rfl, rfl⟩
      go_wp2
      go_ret
      exact ⟨rfl, k1 _ _⟩
    | true =>
      rw [Bool.true_and]
      cases b3 with
      | false =>
        go_enter Try.func9, Try.ntmps9
        go_wp2_with fail
        refine Calls.mono (H1.out _) ?_
        rintro e w9 ⟨rfl, rfl⟩
        go_wp2_with fail
        refine Calls.mono (H2.out _) ?_
        rintro e w9 ⟨rfl, rfl⟩
        go_wp2_with fail
        refine Calls.mono (H3.out _) ?_
        rintro e w9 ⟨rfl, rfl⟩
        go_wp2
        go_ret
        exact ⟨rfl, k1 _ _⟩
      | true =>
        rw [Bool.true_and]
        by_cases h8 : l.length ≤ 8
        · have hd : decide ((8 : Int) < l.length) = false := decide_eq_false (by omega)
          rw [decide_eq_true h8, Bool.true_and]
          cases b4 with
          | false =>
            go_enter Try.func9, Try.ntmps9
            go_wp2_with fail
            refine Calls.mono (H1.out _) ?_
            rintro e w9 ⟨rfl, rfl⟩
            go_wp2_with fail
            refine Calls.mono (H2.out _) ?_
            rintro e w9 ⟨rfl, rfl⟩
            go_wp2_with fail
            refine Calls.mono (H3.out _) ?_
            rintro e w9 ⟨rfl, rfl⟩
            go_wp2_with fail
            refine Calls.mono (H4.out _) ?_
            rintro e w9 ⟨rfl, rfl⟩
            go_wp2
            go_ret
            exact ⟨rfl, k1 _ _⟩
          | true =>
            rw [Bool.true_and]
            obtain ⟨V, hV⟩ : ∃ V, l.all dnB = V := ⟨_, rfl⟩
            rw [hV]
            have HX : Hid (l.all dnB = V) := hV
            clear hV
            go_enter Try.func9, Try.ntmps9
            go_wp2_with fail
            refine Calls.mono (H1.out _) ?_
            rintro e w9 ⟨rfl, rfl⟩
            go_wp2_with fail
            refine Calls.mono (H2.out _) ?_
            rintro e w9 ⟨rfl, rfl⟩
            go_wp2_with fail
            refine Calls.mono (H3.out _) ?_
            rintro e w9 ⟨rfl, rfl⟩
            go_wp2_with fail
            refine Calls.mono (H4.out _) ?_
            rintro e w9 ⟨rfl, rfl⟩
            go_wp2
            go_loop [36] (fun i => ∃ k : Nat, k ≤ l.length ∧ i = .int .i64 k ∧ ∀ j, j < k → dnB (intAt l j) = true) (fun i => l.length - (intOf i).toNat)
            case atStart => exact ⟨0, Nat.zero_le _, rfl, fun j hj => absurd hj (by omega)⟩
            case round =>
              obtain ⟨k, hk, rfl, ha⟩ := hrel
              have HA : Hid _ := ha
              clear ha
              by_cases hlt : k < l.length
              · obtain ⟨b, off, rfl, q⟩ := Ints.at (HR.out #[.int .i64 pw, .int .i64 pj, .int .i64 pc, .slice a l.length c, .int .i64 pf] 27) hlt
                obtain ⟨x, hx⟩ : ∃ x, intAt l k = x := ⟨_, rfl⟩
                have HXX : Hid (intAt l k = x) := hx
                rw [hx] at q
                clear hx
                have HC : Hid (∀ w, Calls Try.prog 38 #[.int .i64 x, .int .i64 0, .int .i64 67108864] w fun e w' => e = .returned (.bool (dnB x)) ∧ w' = w) := fun w => in_any w x 0 67108864
                cases hdn : dnB x with
                | false =>
                  have HY : Hid (V = false) := HX.out.symm.trans (all_false dnB 0 l k hlt (show dnB (intAt l k) = false by rw [HXX.out]; exact hdn))
                  rw [hdn] at HC
                  clear hdn
                  go_wp2_with fail
                  refine (HC.out _).mono ?_
                  rintro e w2 ⟨rfl, rfl⟩
                  go_wp2
                  go_ret
                  exact ⟨ret_bool HY.out.symm, k1 _ _⟩
                | true =>
                  have HY : Hid (dnB (intAt l k) = true) := by show _ = _; rw [HXX.out]; exact hdn
                  rw [hdn] at HC
                  clear hdn
                  go_wp2_with fail
                  refine (HC.out _).mono ?_
                  rintro e w2 ⟨rfl, rfl⟩
                  go_wp2
                  go_round
                  case rel =>
                    refine ⟨k + 1, by omega, by go_num, fun j hj => ?_⟩
                    rcases Nat.lt_succ_iff_lt_or_eq.1 hj with h | h
                    · exact HA.out j h
                    · rw [h]; exact HY.out
                  case measure => simp [intOf]; omega
              · have HY : Hid (V = true) := HX.out.symm.trans (all_true dnB 0 l (fun j hj => HA.out j (by omega)))
                clear HA
                go_wp2
                go_ret
                exact ⟨ret_bool HY.out.symm, k1 _ _⟩
        · have hd : decide ((8 : Int) < l.length) = true := decide_eq_true (by omega)
          rw [decide_eq_false h8, Bool.false_and]
          go_enter Try.func9, Try.ntmps9
          go_wp2_with fail
          refine Calls.mono (H1.out _) ?_
          rintro e w9 ⟨rfl, rfl⟩
          go_wp2_with fail
          refine Calls.mono (H2.out _) ?_
          rintro e w9 ⟨rfl, rfl⟩
          go_wp2_with fail
          refine Calls.mono (H3.out _) ?_
          rintro e w9 ⟨rfl, rfl⟩
          go_wp2
          go_ret
          exact ⟨rfl, k1 _ _⟩
end Go.Proofs.Ytolpiapkmlbccaa
