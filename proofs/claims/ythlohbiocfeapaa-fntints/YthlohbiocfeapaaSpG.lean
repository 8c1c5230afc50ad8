/-
  Good stops, by the specification: StopsGood; each theorem names its conditions.
-/
import Derived.Test.YthlohbiocfeapaaSpGR
namespace Go.Proofs.Ythlohbiocfeapaa
open Go.ChangeShapes Go.WideShapes Go.ChangeAt Go.RowKit
set_option linter.unusedVariables false

set_option maxRecDepth 100000 in
set_option maxHeartbeats 4000000 in
theorem sstops (w : World) (a : Option Addr) (c : Nat) (l : List Stp) (hl : l.length ≤ 1048576) (hr : Stps w a l) :
    Calls Try.prog 31 #[.slice a l.length c] w fun e w' => e = .returned (.bool (sgB l)) ∧ Kp w w' := by
  have HR : Hid (Stps w a l) := hr
  have H1 : Hid (∀ w, Calls Try.prog 70 #[.int .i64 (l.length : Int), .int .i64 1, .int .i64 8] w fun e w' => e = .returned (.bool (inN (l.length : Int) 1 8)) ∧ w' = w) := fun w => in_any w _ _ _
  clear hr
  unfold sgB
  cases b1 : inN (l.length : Int) 1 8 with
  | false =>
    rw [b1] at H1
    rw [Bool.false_and]
    clear b1
    go_enter Try.func31, Try.ntmps31
    go_wp2_with fail
    refine Calls.mono (H1.out _) ?_
    rintro e w1 ⟨rfl, rfl⟩
    go_wp2
    go_ret
    exact ⟨rfl, Kp.refl _⟩
  | true =>
    rw [b1] at H1
    rw [Bool.true_and]
    obtain ⟨V, hV⟩ : ∃ V, (List.range l.length).all (spOk l) = V := ⟨_, rfl⟩
    have HV : Hid ((List.range l.length).all (spOk l) = V) := hV
    rw [hV]
    clear b1 hV
    go_enter Try.func31, Try.ntmps31
    go_wp2_with fail
    refine Calls.mono (H1.out _) ?_
    rintro e w0 ⟨rfl, hw0⟩
    obtain rfl := hw0
    go_wp2
    go_loopw [11] (fun i wr => ∃ k : Nat, k ≤ l.length ∧ i = .int .i64 (k : Int) ∧ (∀ j, j < k → spOk l j = true) ∧ Kp w0 wr) (fun i _ => l.length - (intOf i).toNat)
    case atStart => exact ⟨0, Nat.zero_le _, rfl, fun j hj => absurd hj (by omega), Kp.refl _⟩
    case round =>
      obtain ⟨k, hk, rfl, ha, hw⟩ := hrel
      have HA : Hid _ := ha
      have HW : Hid (Kp w0 wr) := hw
      clear ha hw
      by_cases hlt : k < l.length
      · rcases (Stps.nw HR.out HW.out.nw) with h | ⟨b, off, rfl, hb, hc⟩
        · rw [h] at hlt; simp at hlt
        obtain ⟨q0, q1, q2, q3, q4⟩ := hc k hlt
        have HPV : Hid (0 < k → wr.cell? ⟨b, off + (k - 1) * 5, none⟩ = some (.int .i64 (spAt l (k - 1)).p)) := fun h => (hc (k - 1) (by omega)).1
        have hokv : spOk l k = (inN (spAt l k).p 0 65536 && (tnB (spAt l k).t && (decide (k = 0) || decide ((spAt l (k - 1)).p ≤ (spAt l k).p)))) := rfl
        have HOK : Hid _ := hokv
        have HFA : Hid (spOk l k = false → V = false) := fun h => HV.out.symm.trans (sgB_false hlt h)
        clear hc hokv
        generalize spAt l (k - 1) = pr at *
        generalize spAt l k = x at *
        obtain ⟨p, ⟨t0, t1, t2, t3⟩⟩ := x
        simp only at q0 q1 q2 q3 q4 HOK
        go_wp2
        obtain ⟨W2, hW2⟩ : ∃ W2, wr.alloc (.cells #[.int .i64 p, .int .i64 t0, .int .i64 t1, .int .i64 t2, .int .i64 t3] 106) = W2 := ⟨_, rfl⟩
        have K2 : Hid (Kp wr W2) := by show Kp wr W2; rw [← hW2]; exact (Kp.refl wr).alloc _ _
        have C2 : Hid (∀ o v, (wr.alloc (.cells #[.int .i64 p, .int .i64 t0, .int .i64 t1, .int .i64 t2, .int .i64 t3] 106)).cell? ⟨wr.heap.size, o, none⟩ = some v → W2.drew.cell? ⟨wr.heap.size, o, none⟩ = some v) := fun o v h => by rw [← hW2]; exact h
        have s0 := C2.out 0 (.int .i64 p) (by simp)
        have s1 := C2.out 1 (.int .i64 t0) (by simp)
        have s2 := C2.out 2 (.int .i64 t1) (by simp)
        have s3 := C2.out 3 (.int .i64 t2) (by simp)
        have s4 := C2.out 4 (.int .i64 t3) (by simp)
        rw [hW2]
        clear hW2 C2 q0 q1 q2 q3 q4
        cases c1 : inN p 0 65536 with
        | false =>
          have HF : Hid (V = false) := HFA.out (by rw [HOK.out, c1]; rfl)
          refine reg_change (ops' := opsOf 6 Try.f31) (by kernel_rfl) ?_
          refine SGA.run ⟨wr.heap.size, k, p, t0, t1, t2, t3, W2.drew, _⟩ ⟨s0, s1, s2, s3, s4, c1, rfl, rfl, rfl⟩ W2 (Kp.refl _) ?_
          rintro γ w9 k9
          have K9 : Hid (Kp w0 w9) := Kp.trans HW.out (Kp.trans K2.out (undrew k9))
          clear k9 s0 s1 s2 s3 s4
          simp only [Act.put, List.setIfInBounds_toArray, List.set_cons_zero, List.set_cons_succ]
          go_wp2
          go_ret
          exact ⟨ret_bool HF.out.symm, K9.out⟩
        | true =>
          cases c2 : tnB ⟨t0, t1, t2, t3⟩ with
          | false =>
            have HF : Hid (V = false) := HFA.out (by rw [HOK.out, c1, c2]; rfl)
            refine reg_change (ops' := opsOf 6 Try.f31) (by kernel_rfl) ?_
            refine SGB.run ⟨wr.heap.size, k, p, t0, t1, t2, t3, W2.drew, _⟩ ⟨s0, s1, s2, s3, s4, c1, c2, rfl, rfl, rfl⟩ W2 (Kp.refl _) ?_
            rintro γ w9 k9
            have K9 : Hid (Kp w0 w9) := Kp.trans HW.out (Kp.trans K2.out (undrew k9))
            clear k9 s0 s1 s2 s3 s4
            simp only [Act.put, List.setIfInBounds_toArray, List.set_cons_zero, List.set_cons_succ]
            go_wp2
            go_ret
            exact ⟨ret_bool HF.out.symm, K9.out⟩
          | true =>
            by_cases hk0 : k = 0
            · have HT : Hid (spOk l k = true) := by show _ = _; rw [HOK.out, c1, c2, decide_eq_true hk0]; rfl
              refine reg_change (ops' := opsOf 6 Try.f31) (by kernel_rfl) ?_
              refine SGC.run ⟨wr.heap.size, k, p, t0, t1, t2, t3, W2.drew, _⟩ ⟨s0, s1, s2, s3, s4, c1, c2, hk0, rfl, rfl, rfl⟩ W2 (Kp.refl _) ?_
              rintro γ w9 k9
              have K9 : Hid (Kp w0 w9) := Kp.trans HW.out (Kp.trans K2.out (undrew k9))
              clear k9 s0 s1 s2 s3 s4
              simp only [Act.put, List.setIfInBounds_toArray, List.set_cons_zero, List.set_cons_succ]
              go_wp2
              go_roundw
              case rel =>
                refine ⟨k + 1, by omega, by go_num, fun j hj => ?_, K9.out⟩
                rcases Nat.lt_succ_iff_lt_or_eq.1 hj with h | h
                · exact HA.out j h
                · rw [h]; exact HT.out
              case measure => simp [intOf]; omega
            · have hpc := (HPV.out (by omega))
              have hpl : b < wr.heap.size := World.block_lt_of_cell? wr ⟨b, _, none⟩ hpc
              replace hpc := (K2.out.drew.cells.1 _ _ hpl).trans hpc
              have hwk : IntKind.i64.wrap ((k : Int) - 1) = (k : Int) - 1 := IntWalk.i64_in _ ⟨by omega, by omega⟩
              have hek : (k : Int) - 1 = ((k - 1 : Nat) : Int) := by omega
              by_cases hle : pr.p ≤ p
              · have HT : Hid (spOk l k = true) := by show _ = _; rw [HOK.out, c1, c2, decide_eq_true hle]; simp
                have hdl : decide (p < pr.p) = false := decide_eq_false (by omega)
                refine reg_change (ops' := opsOf 6 Try.f31) (by kernel_rfl) ?_
                refine SGE.run ⟨wr.heap.size, k, p, t0, t1, t2, t3, b, off, l.length, c, pr.p, W2.drew, _⟩ ⟨s0, s1, s2, s3, s4, c1, c2, show 0 < k by omega, show k - 1 < l.length by omega, hwk, hek, hpc, hdl, rfl, rfl, rfl, rfl⟩ W2 (Kp.refl _) ?_
                rintro γ w9 k9
                have K9 : Hid (Kp w0 w9) := Kp.trans HW.out (Kp.trans K2.out (undrew k9))
                clear k9 s0 s1 s2 s3 s4
                simp only [Act.put, List.setIfInBounds_toArray, List.set_cons_zero, List.set_cons_succ]
                clear hpc hwk hek hdl hpl
                go_wp2
                go_roundw
                case rel =>
                  refine ⟨k + 1, by omega, by go_num, fun j hj => ?_, K9.out⟩
                  rcases Nat.lt_succ_iff_lt_or_eq.1 hj with h | h
                  · exact HA.out j h
                  · rw [h]; exact HT.out
                case measure => simp [intOf]; omega
              · have HF : Hid (V = false) := HFA.out (by rw [HOK.out, c1, c2, decide_eq_false hle, decide_eq_false hk0]; rfl)
                have hdl : decide (p < pr.p) = true := decide_eq_true (by omega)
                refine reg_change (ops' := opsOf 6 Try.f31) (by kernel_rfl) ?_
                refine SGD.run ⟨wr.heap.size, k, p, t0, t1, t2, t3, b, off, l.length, c, pr.p, W2.drew, _⟩ ⟨s0, s1, s2, s3, s4, c1, c2, show 0 < k by omega, show k - 1 < l.length by omega, hwk, hek, hpc, hdl, rfl, rfl, rfl, rfl⟩ W2 (Kp.refl _) ?_
                rintro γ w9 k9
                have K9 : Hid (Kp w0 w9) := Kp.trans HW.out (Kp.trans K2.out (undrew k9))
                clear k9 s0 s1 s2 s3 s4
                simp only [Act.put, List.setIfInBounds_toArray, List.set_cons_zero, List.set_cons_succ]
                clear hpc hwk hek hdl hpl
                go_wp2
                go_ret
                exact ⟨ret_bool HF.out.symm, K9.out⟩
      · have HF : Hid (V = true) := HV.out.symm.trans (sgB_true (fun j hj => HA.out j (by omega)))
        clear HA
        go_wp2
        go_ret
        exact ⟨ret_bool HF.out.symm, HW.out⟩
end Go.Proofs.Ythlohbiocfeapaa
