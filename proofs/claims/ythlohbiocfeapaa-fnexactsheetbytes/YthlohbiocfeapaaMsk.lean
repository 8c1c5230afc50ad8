/-
  Good masks, of both: GoodMask, and the sum of one's numbers; each theorem names its conditions.
-/
import Derived.Test.YthlohbiocfeapaaMskT
import Derived.Test.YthlohbiocfeapaaIw
import Derived.Test.YthlohbiocfeapaaSd
namespace Go.Proofs.Ythlohbiocfeapaa
open Go.ChangeShapes Go.WideShapes Go.ChangeAt Go.RowKit
set_option linter.unusedVariables false

def cvB (x : Int) : Bool := decide (0 ≤ x ∧ x ≤ 16)
/-- A good mask. -/
def mskB (p : MD) (l : List Int) : Bool := sdB p.w && (sdB p.h && (decide ((l.length : Int) = p.w * p.h) && l.all cvB))
theorem cvB_iff {x : Int} : cvB x = true ↔ 0 ≤ x ∧ x ≤ 16 := by unfold cvB; simp
theorem mskB_some {p : MD} {l : List Int} (h : mskB p l = true) : sdB p.w = true ∧ sdB p.h = true ∧ (l.length : Int) = p.w * p.h ∧ l.all cvB = true := by
  unfold mskB at h
  simp only [Bool.and_eq_true, decide_eq_true_eq] at h
  exact h
theorem mskB_len {p : MD} {l : List Int} (h : mskB p l = true) : l.length ≤ 1296 := by
  obtain ⟨h1, h2, h3, _⟩ := mskB_some h
  have := (sd_mul h1 h2).2
  omega
theorem mskB_at {p : MD} {l : List Int} (h : mskB p l = true) (i : Nat) (hi : i < l.length) : 0 ≤ intAt l i ∧ intAt l i ≤ 16 := by
  obtain ⟨_, _, _, h4⟩ := mskB_some h
  rw [List.all_eq_true] at h4
  unfold intAt
  rw [show l.getD i 0 = l[i] by simp [hi]]
  exact cvB_iff.1 (h4 _ (List.getElem_mem hi))
theorem Ints.at {w : World} {a : Option Addr} {l : List Int} (h : Ints w a l) {k : Nat} (hk : k < l.length) : ∃ b off, a = some ⟨b, off, none⟩ ∧ w.cell? ⟨b, off + k, none⟩ = some (.int .i64 (intAt l k)) := by
  rcases h with h | ⟨b, off, rfl, hb, hc⟩
  · rw [h] at hk; simp at hk
  · exact ⟨b, off, rfl, hc k hk⟩
set_option maxRecDepth 100000 in
set_option maxHeartbeats 4000000 in
theorem igoodMask (w : World) (p : MD) (a : Option Addr) (c : Nat) (l : List Int) (hl : l.length ≤ 1048576) (hr : Ints w a l) :
    Calls Try.prog 97 #[mskV p (.slice a l.length c)] w fun e w' => e = .returned (.bool (mskB p l)) ∧ Kp w w' := by
  obtain ⟨pw, ph⟩ := p
  unfold mskV
  simp only
  obtain ⟨V, hV⟩ : ∃ V, mskB ⟨pw, ph⟩ l = V := ⟨_, rfl⟩
  rw [hV]
  have HV : Hid (V = (sdB pw && (sdB ph && (decide ((l.length : Int) = pw * ph) && l.all cvB)))) := hV.symm
  have k1 : ∀ o t, Kp w (w.alloc (.cells o t)) := fun o t => (Kp.refl w).alloc _ _
  have HR : Hid (∀ o t, Ints (w.alloc (.cells o t)) a l) := fun o t => hr.nw (k1 o t).nw
  have H1 : Hid _ := fun w => igoodSide w pw
  have H2 : Hid _ := fun w => igoodSide w ph
  clear hr hV
  cases b1 : sdB pw with
  | false =>
    rw [b1] at H1 HV
    rw [Bool.false_and] at HV
    clear b1
    go_enter Try.func97, Try.ntmps97
    go_wp2_with fail
    refine Calls.mono (H1.out _) ?_
    rintro e w9 ⟨rfl, rfl⟩
    go_wp2
    go_ret
    exact ⟨ret_bool HV.out.symm, k1 _ _⟩
  | true =>
    rw [b1] at H1 HV
    rw [Bool.true_and] at HV
    cases b2 : sdB ph with
    | false =>
      rw [b2] at H2 HV
      rw [Bool.false_and] at HV
      clear b1 b2
      go_enter Try.func97, Try.ntmps97
      go_wp2_with fail
      refine Calls.mono (H1.out _) ?_
      rintro e w9 ⟨rfl, rfl⟩
      go_wp2_with fail
      refine Calls.mono (H2.out _) ?_
      rintro e w9 ⟨rfl, rfl⟩
      go_wp2
      go_ret
      exact ⟨ret_bool HV.out.symm, k1 _ _⟩
    | true =>
      rw [b2] at H2 HV
      rw [Bool.true_and] at HV
      obtain ⟨m1, m2⟩ := sd_mul b1 b2
      clear b1 b2
      by_cases b3 : (l.length : Int) = pw * ph
      · rw [decide_eq_true b3, Bool.true_and] at HV
        have hne : ((l.length : Int) != pw * ph) = false := by simp [b3]
        have HB : Hid ((l.length : Int) = pw * ph) := b3
        clear b3
        go_enter Try.func97, Try.ntmps97
        go_wp2_with fail
        refine Calls.mono (H1.out _) ?_
        rintro e w9 ⟨rfl, rfl⟩
        go_wp2_with fail
        refine Calls.mono (H2.out _) ?_
        rintro e w9 ⟨rfl, rfl⟩
        go_wp2
        clear hne m1 m2
        go_loop [29] (fun i => ∃ k : Nat, k ≤ l.length ∧ i = .int .i64 k ∧ ∀ j, j < k → cvB (intAt l j) = true) (fun i => l.length - (intOf i).toNat)
        case atStart => exact ⟨0, Nat.zero_le _, rfl, fun j hj => absurd hj (by omega)⟩
        case round =>
          obtain ⟨k, hk, rfl, ha⟩ := hrel
          have HA : Hid _ := ha
          clear ha
          by_cases hlt : k < l.length
          · obtain ⟨b, off, rfl, q⟩ := Ints.at (HR.out #[.int .i64 pw, .int .i64 ph, .slice a l.length c] 75) hlt
            obtain ⟨x, hx⟩ : ∃ x, intAt l k = x := ⟨_, rfl⟩
            have HXX : Hid (intAt l k = x) := hx
            rw [hx] at q
            clear hx
            have HC : Hid (∀ w, Calls Try.prog 60 #[.int .i64 x, .int .i64 0, .int .i64 16] w fun e w' => e = .returned (.bool (cvB x)) ∧ w' = w) := fun w => iin_any w x 0 16
            cases hdn : cvB x with
            | false =>
              have HY : Hid (V = false) := HV.out.trans (all_false cvB 0 l k hlt (show cvB (intAt l k) = false by rw [HXX.out]; exact hdn))
              rw [hdn] at HC
              clear hdn
              go_wp2_with fail
              refine (HC.out _).mono ?_
              rintro e w2 ⟨rfl, rfl⟩
              go_wp2
              go_ret
              exact ⟨ret_bool HY.out.symm, k1 _ _⟩
            | true =>
              have HY : Hid (cvB (intAt l k) = true) := by show _ = _; rw [HXX.out]; exact hdn
              rw [hdn] at HC
              clear hdn
              go_wp2_with fail
              refine (HC.out _).mono ?_
              rintro e w2 ⟨rfl, rfl⟩
              go_wp2
              go_round
              case rel =>
                refine ⟨k + 1, by omega, by go_num, fun j hj => ?_⟩
                rcases Nat.lt_succ_iff_lt_or_eq.1 hj with h | h
                · exact HA.out j h
                · rw [h]; exact HY.out
              case measure => simp [intOf]; omega
          · have HY : Hid (V = true) := HV.out.trans (all_true cvB 0 l (fun j hj => HA.out j (by omega)))
            clear HA
            go_wp2
            go_ret
            exact ⟨ret_bool HY.out.symm, k1 _ _⟩
      · rw [decide_eq_false b3, Bool.false_and] at HV
        have hne : ((l.length : Int) != pw * ph) = true := by simp [b3]
        clear b3
        go_enter Try.func97, Try.ntmps97
        go_wp2_with fail
        refine Calls.mono (H1.out _) ?_
        rintro e w9 ⟨rfl, rfl⟩
        go_wp2_with fail
        refine Calls.mono (H2.out _) ?_
        rintro e w9 ⟨rfl, rfl⟩
        go_wp2
        go_ret
        exact ⟨ret_bool HV.out.symm, k1 _ _⟩
set_option maxRecDepth 100000 in
set_option maxHeartbeats 4000000 in
theorem sgoodMask (w : World) (p : MD) (a : Option Addr) (c : Nat) (l : List Int) (hl : l.length ≤ 1048576) (hr : Ints w a l) :
    Calls Try.prog 95 #[mskV p (.slice a l.length c)] w fun e w' => e = .returned (.bool (mskB p l)) ∧ Kp w w' := by
  obtain ⟨pw, ph⟩ := p
  unfold mskV
  simp only
  obtain ⟨V, hV⟩ : ∃ V, mskB ⟨pw, ph⟩ l = V := ⟨_, rfl⟩
  rw [hV]
  have HV : Hid (V = (sdB pw && (sdB ph && (decide ((l.length : Int) = pw * ph) && l.all cvB)))) := hV.symm
  have k1 : ∀ o t, Kp w (w.alloc (.cells o t)) := fun o t => (Kp.refl w).alloc _ _
  have HR : Hid (∀ o t, Ints (w.alloc (.cells o t)) a l) := fun o t => hr.nw (k1 o t).nw
  have H1 : Hid _ := fun w => sgoodSide w pw
  have H2 : Hid _ := fun w => sgoodSide w ph
  clear hr hV
  cases b1 : sdB pw with
  | false =>
    rw [b1] at H1 HV
    rw [Bool.false_and] at HV
    clear b1
    go_enter Try.func95, Try.ntmps95
    go_wp2_with fail
    refine Calls.mono (H1.out _) ?_
    rintro e w9 ⟨rfl, rfl⟩
    go_wp2
    go_ret
    exact ⟨ret_bool HV.out.symm, k1 _ _⟩
  | true =>
    rw [b1] at H1 HV
    rw [Bool.true_and] at HV
    cases b2 : sdB ph with
    | false =>
      rw [b2] at H2 HV
      rw [Bool.false_and] at HV
      clear b1 b2
      go_enter Try.func95, Try.ntmps95
      go_wp2_with fail
      refine Calls.mono (H1.out _) ?_
      rintro e w9 ⟨rfl, rfl⟩
      go_wp2_with fail
      refine Calls.mono (H2.out _) ?_
      rintro e w9 ⟨rfl, rfl⟩
      go_wp2
      go_ret
      exact ⟨ret_bool HV.out.symm, k1 _ _⟩
    | true =>
      rw [b2] at H2 HV
      rw [Bool.true_and] at HV
      obtain ⟨m1, m2⟩ := sd_mul b1 b2
      clear b1 b2
      by_cases b3 : (l.length : Int) = pw * ph
      · rw [decide_eq_true b3, Bool.true_and] at HV
        have hne : ((l.length : Int) != pw * ph) = false := by simp [b3]
        have HB : Hid ((l.length : Int) = pw * ph) := b3
        clear b3
        go_enter Try.func95, Try.ntmps95
        go_wp2_with fail
        refine Calls.mono (H1.out _) ?_
        rintro e w9 ⟨rfl, rfl⟩
        go_wp2_with fail
        refine Calls.mono (H2.out _) ?_
        rintro e w9 ⟨rfl, rfl⟩
        go_wp2
        clear hne m1 m2
        go_loop [29] (fun i => ∃ k : Nat, k ≤ l.length ∧ i = .int .i64 k ∧ ∀ j, j < k → cvB (intAt l j) = true) (fun i => l.length - (intOf i).toNat)
        case atStart => exact ⟨0, Nat.zero_le _, rfl, fun j hj => absurd hj (by omega)⟩
        case round =>
          obtain ⟨k, hk, rfl, ha⟩ := hrel
          have HA : Hid _ := ha
          clear ha
          by_cases hlt : k < l.length
          · obtain ⟨b, off, rfl, q⟩ := Ints.at (HR.out #[.int .i64 pw, .int .i64 ph, .slice a l.length c] 75) hlt
            obtain ⟨x, hx⟩ : ∃ x, intAt l k = x := ⟨_, rfl⟩
            have HXX : Hid (intAt l k = x) := hx
            rw [hx] at q
            clear hx
            have HC : Hid (∀ w, Calls Try.prog 70 #[.int .i64 x, .int .i64 0, .int .i64 16] w fun e w' => e = .returned (.bool (cvB x)) ∧ w' = w) := fun w => in_any w x 0 16
            cases hdn : cvB x with
            | false =>
              have HY : Hid (V = false) := HV.out.trans (all_false cvB 0 l k hlt (show cvB (intAt l k) = false by rw [HXX.out]; exact hdn))
              rw [hdn] at HC
              clear hdn
              go_wp2_with fail
              refine (HC.out _).mono ?_
              rintro e w2 ⟨rfl, rfl⟩
              go_wp2
              go_ret
              exact ⟨ret_bool HY.out.symm, k1 _ _⟩
            | true =>
              have HY : Hid (cvB (intAt l k) = true) := by show _ = _; rw [HXX.out]; exact hdn
              rw [hdn] at HC
              clear hdn
              go_wp2_with fail
              refine (HC.out _).mono ?_
              rintro e w2 ⟨rfl, rfl⟩
              go_wp2
              go_round
              case rel =>
                refine ⟨k + 1, by omega, by go_num, fun j hj => ?_⟩
                rcases Nat.lt_succ_iff_lt_or_eq.1 hj with h | h
                · exact HA.out j h
                · rw [h]; exact HY.out
              case measure => simp [intOf]; omega
          · have HY : Hid (V = true) := HV.out.trans (all_true cvB 0 l (fun j hj => HA.out j (by omega)))
            clear HA
            go_wp2
            go_ret
            exact ⟨ret_bool HY.out.symm, k1 _ _⟩
      · rw [decide_eq_false b3, Bool.false_and] at HV
        have hne : ((l.length : Int) != pw * ph) = true := by simp [b3]
        clear b3
        go_enter Try.func95, Try.ntmps95
        go_wp2_with fail
        refine Calls.mono (H1.out _) ?_
        rintro e w9 ⟨rfl, rfl⟩
        go_wp2_with fail
        refine Calls.mono (H2.out _) ?_
        rintro e w9 ⟨rfl, rfl⟩
        go_wp2
        go_ret
        exact ⟨ret_bool HV.out.symm, k1 _ _⟩
end Go.Proofs.Ythlohbiocfeapaa
