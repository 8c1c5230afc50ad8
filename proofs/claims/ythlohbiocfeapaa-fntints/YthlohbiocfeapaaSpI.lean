/-
  Good stops, by the program: StopsGood; each theorem names its conditions.
-/
import Derived.Test.YthlohbiocfeapaaSp
import Derived.Test.YthlohbiocfeapaaTnI
namespace Go.Proofs.Ythlohbiocfeapaa
open Go.ChangeShapes Go.WideShapes Go.ChangeAt Go.RowKit
set_option linter.unusedVariables false

/-- The least place that the stop k may have. -/
def lsA (l : List Stp) (k : Nat) : Int := if k = 0 then 0 else (spAt l (k - 1)).p
theorem lsA_succ (l : List Stp) (k : Nat) : lsA l (k + 1) = (spAt l k).p := by unfold lsA; simp
theorem lsA_nn {l : List Stp} {k : Nat} (h : ∀ j, j < k → spOk l j = true) : 0 ≤ lsA l k := by
  unfold lsA
  by_cases hk : k = 0
  · rw [if_pos hk]; exact Int.le_refl 0
  · rw [if_neg hk]
    have := h (k - 1) (by omega)
    unfold spOk inN at this
    simp only [Bool.and_eq_true, decide_eq_true_eq] at this
    omega
theorem spOk_ls {l : List Stp} {k : Nat} (h : ∀ j, j < k → spOk l j = true) : spOk l k = (inN (spAt l k).p (lsA l k) 65536 && tnB (spAt l k).t) := by
  have h0 := lsA_nn h
  unfold spOk
  by_cases hk : k = 0
  · have e : lsA l k = 0 := by unfold lsA; rw [if_pos hk]
    rw [e, decide_eq_true hk, Bool.true_or, Bool.and_true]
  · have e : lsA l k = (spAt l (k - 1)).p := by unfold lsA; rw [if_neg hk]
    rw [← e, decide_eq_false hk, Bool.false_or]
    unfold inN
    rw [Bool.eq_iff_iff]
    simp only [Bool.and_eq_true, decide_eq_true_eq]
    constructor
    · rintro ⟨h1, h2, h3⟩; exact ⟨⟨h3, h1.2⟩, h2⟩
    · rintro ⟨h1, h2⟩; exact ⟨⟨by omega, h1.2⟩, h2, h1.1⟩
set_option maxRecDepth 100000 in
set_option maxHeartbeats 4000000 in
theorem istops (w : World) (a : Option Addr) (c : Nat) (l : List Stp) (hl : l.length ≤ 1048576) (hr : Stps w a l) :
    Calls Try.prog 33 #[.slice a l.length c] w fun e w' => e = .returned (.bool (sgB l)) ∧ Kp w w' := by
  have HR : Hid (Stps w a l) := hr
  have H1 : Hid (∀ w, Calls Try.prog 60 #[.int .i64 (l.length : Int), .int .i64 1, .int .i64 8] w fun e w' => e = .returned (.bool (inN (l.length : Int) 1 8)) ∧ w' = w) := fun w => iin_any w _ _ _
  clear hr
  unfold sgB
  cases b1 : inN (l.length : Int) 1 8 with
  | false =>
    rw [b1] at H1
    rw [Bool.false_and]
    clear b1
    go_enter Try.func33, Try.ntmps33
    go_wp2_with fail
    refine Calls.mono (H1.out _) ?_
    rintro e w1 ⟨rfl, rfl⟩
    go_wp2
    go_ret
    exact ⟨rfl, Kp.refl _⟩
  | true =>
    rw [b1] at H1
    rw [Bool.true_and]
    obtain ⟨V, hV⟩ : ∃ V, (List.range l.length).all (spOk l) = V := ⟨_, rfl⟩
    have HV : Hid ((List.range l.length).all (spOk l) = V) := hV
    rw [hV]
    clear b1 hV
    go_enter Try.func33, Try.ntmps33
    go_wp2_with fail
    refine Calls.mono (H1.out _) ?_
    rintro e w0 ⟨rfl, hw0⟩
    obtain rfl := hw0
    go_wp2
    go_loopw [12, 3] (fun i ls wr => ∃ k : Nat, k ≤ l.length ∧ i = .int .i64 (k : Int) ∧ ls = .int .i64 (lsA l k) ∧ (∀ j, j < k → spOk l j = true) ∧ Kp w0 wr) (fun i _ _ => l.length - (intOf i).toNat)
    case atStart => exact ⟨0, Nat.zero_le _, rfl, rfl, fun j hj => absurd hj (by omega), Kp.refl _⟩
    case round =>
      obtain ⟨k, hk, rfl, rfl, ha, hw⟩ := hrel
      have HA : Hid _ := ha
      have HW : Hid (Kp w0 wr) := hw
      clear ha hw
      by_cases hlt : k < l.length
      · rcases (Stps.nw HR.out HW.out.nw) with h | ⟨b, off, rfl, hb, hc⟩
        · rw [h] at hlt; simp at hlt
        obtain ⟨q0, q1, q2, q3, q4⟩ := hc k hlt
        have HOK : Hid _ := spOk_ls HA.out
        have HFA : Hid (spOk l k = false → V = false) := fun h => HV.out.symm.trans (sgB_false hlt h)
        have HLS : Hid (lsA l (k + 1) = (spAt l k).p) := lsA_succ l k
        clear hc
        generalize lsA l k = ls at *
        generalize spAt l k = x at *
        obtain ⟨p, ⟨t0, t1, t2, t3⟩⟩ := x
        simp only at q0 q1 q2 q3 q4 HOK HLS
        have H2 : Hid (∀ w, Calls Try.prog 60 #[.int .i64 p, .int .i64 ls, .int .i64 65536] w fun e w' => e = .returned (.bool (inN p ls 65536)) ∧ w' = w) := fun w => iin_any w _ _ _
        have H3 : Hid (∀ w, _) := fun w => igoodTn w ⟨t0, t1, t2, t3⟩
        unfold edV at H3
        simp only at H3
        cases c1 : inN p ls 65536 with
        | false =>
          have HF : Hid (V = false) := HFA.out (by rw [HOK.out, c1]; rfl)
          rw [c1] at H2
          clear c1
          go_wp2_with fail
          refine Calls.mono (H2.out _) ?_
          rintro e w2 ⟨rfl, rfl⟩
          go_wp2
          go_ret
          exact ⟨ret_bool HF.out.symm, Kp.alloc HW.out _ _⟩
        | true =>
          rw [c1] at H2
          cases c2 : tnB ⟨t0, t1, t2, t3⟩ with
          | false =>
            have HF : Hid (V = false) := HFA.out (by rw [HOK.out, c1, c2]; rfl)
            rw [c2] at H3
            clear c1 c2
            go_wp2_with fail
            refine Calls.mono (H2.out _) ?_
            rintro e w2 ⟨rfl, rfl⟩
            go_wp2_with fail
            refine Calls.mono (H3.out _) ?_
            rintro e w3 ⟨rfl, k3⟩
            have K3 : Hid (Kp w0 w3) := Kp.trans (Kp.alloc HW.out _ _) k3
            clear k3
            go_wp2
            go_ret
            exact ⟨ret_bool HF.out.symm, K3.out⟩
          | true =>
            have HT : Hid (spOk l k = true) := by show _ = _; rw [HOK.out, c1, c2]; rfl
            rw [c2] at H3
            clear c1 c2
            go_wp2_with fail
            refine Calls.mono (H2.out _) ?_
            rintro e w2 ⟨rfl, rfl⟩
            go_wp2_with fail
            refine Calls.mono (H3.out _) ?_
            rintro e w3 ⟨rfl, k3⟩
            have K3 : Hid (Kp w0 w3) := Kp.trans (Kp.alloc HW.out _ _) k3
            have r0 := rq_at k3 (show (wr.alloc (.cells #[.int .i64 p, .int .i64 t0, .int .i64 t1, .int .i64 t2, .int .i64 t3] 106)).cell? ⟨wr.heap.size, 0, none⟩ = some (.int .i64 p) by simp)
            clear k3
            go_wp2
            go_roundw
            case rel =>
              refine ⟨k + 1, by omega, by go_num, by rw [HLS.out], fun j hj => ?_, K3.out⟩
              rcases Nat.lt_succ_iff_lt_or_eq.1 hj with h | h
              · exact HA.out j h
              · rw [h]; exact HT.out
            case measure => simp [intOf]; omega
      · have HF : Hid (V = true) := HV.out.symm.trans (sgB_true (fun j hj => HA.out j (by omega)))
        clear HA
        go_wp2
        go_ret
        exact ⟨ret_bool HF.out.symm, HW.out⟩
end Go.Proofs.Ythlohbiocfeapaa
