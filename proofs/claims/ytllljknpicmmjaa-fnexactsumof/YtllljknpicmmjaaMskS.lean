/-
  The sum of the numbers of a mask, of both: SumOf; each theorem names its conditions.
-/
import Derived.Test.YtllljknpicmmjaaMsk
namespace Go.Proofs.Ytllljknpicmmjaa
open Go.ChangeShapes Go.WideShapes Go.ChangeAt Go.RowKit
set_option linter.unusedVariables false

theorem sum_step (l : List Int) (k : Nat) (h : k < l.length) : (l.take (k + 1)).sum = (l.take k).sum + intAt l k := by
  rw [List.take_succ_eq_append_getElem h, List.sum_append]
  simp [intAt, h]
theorem sum_bd (l : List Int) (h : ∀ i, i < l.length → 0 ≤ intAt l i ∧ intAt l i ≤ 16) (k : Nat) (hk : k ≤ l.length) : 0 ≤ (l.take k).sum ∧ (l.take k).sum ≤ 16 * (k : Int) := by
  induction k with
  | zero => simp
  | succ k ih =>
    have := ih (by omega)
    have h2 := h k (by omega)
    rw [sum_step l k (by omega)]
    omega
/-- What SumOf answers. -/
def smV (p : MD) (l : List Int) : Int := if mskB p l then l.sum else 0
set_option maxHeartbeats 2000000 in
theorem isum (w : World) (a : Option Addr) (c : Nat) (l : List Int) (hl : l.length ≤ 1296) (hb : ∀ i, i < l.length → 0 ≤ intAt l i ∧ intAt l i ≤ 16) (hr : Ints w a l) :
    Calls Try.prog 47 #[.slice a l.length c] w fun e w' => e = .returned (.int .i64 l.sum) ∧ w' = w := by
  have HR : Hid (Ints w a l) := hr
  have HB : Hid _ := hb
  clear hr hb
  go_enter Try.func47, Try.ntmps47
  go_wp2
  go_loop [3, 8] (fun x i => ∃ k : Nat, k ≤ l.length ∧ i = .int .i64 k ∧ x = .int .i64 (l.take k).sum) (fun _ i => l.length - (intOf i).toNat)
  case atStart => exact ⟨0, Nat.zero_le _, rfl, rfl⟩
  case round =>
    obtain ⟨k, hk, rfl, rfl⟩ := hrel
    have hbd := sum_bd l HB.out k hk
    by_cases hlt : k < l.length
    · obtain ⟨b, off, rfl, q⟩ := Ints.at HR.out hlt
      have hx := HB.out k hlt
      have HE : Hid _ := sum_step l k hlt
      generalize (l.take k).sum = z at *
      generalize intAt l k = x at *
      go_wp2
      go_round
      case rel => exact ⟨k + 1, by omega, by go_num, by rw [HE.out]⟩
      case measure => simp [intOf]; omega
    · have e : k = l.length := by omega
      subst e
      rw [List.take_length] at *
      go_wp2
      go_ret
      exact ⟨rfl, rfl⟩
set_option maxRecDepth 100000 in
set_option maxHeartbeats 4000000 in
theorem isumOf (w : World) (p : MD) (a : Option Addr) (c : Nat) (l : List Int) (hl : l.length ≤ 1048576) (hr : Ints w a l) :
    Calls Try.prog 16 #[mskV p (.slice a l.length c)] w fun e w' => e = .returned (.tuple #[.int .i64 (smV p l), .bool (mskB p l)]) ∧ Kp w w' := by
  obtain ⟨pw, ph⟩ := p
  have HG : Hid (∀ o t, _) := fun o t => igoodMask (w.alloc (.cells o t)) ⟨pw, ph⟩ a c l hl (hr.nw ((Kp.refl w).alloc _ _).nw)
  have HR : Hid (Ints w a l) := hr
  unfold smV
  unfold mskV at HG ⊢
  simp only at HG ⊢
  obtain ⟨V, hV⟩ : ∃ V, mskB ⟨pw, ph⟩ l = V := ⟨_, rfl⟩
  have HV : Hid (mskB ⟨pw, ph⟩ l = V) := hV
  rw [hV] at HG ⊢
  clear hr hV
  have k0 : ∀ o t, Kp w (w.alloc (.cells o t)) := fun o t => (Kp.refl w).alloc _ _
  obtain ⟨W, hW⟩ : ∃ W, w.alloc (.cells #[.int .i64 pw, .int .i64 ph, .slice a l.length c] 28) = W := ⟨_, rfl⟩
  have HP : Hid (MB W w.heap.size ⟨pw, ph⟩ (.slice a l.length c)) := by show MB _ _ _ _; rw [← hW]; exact MB.new w ⟨pw, ph⟩ _ _
  have K0 : Hid (Kp w W) := by show Kp w W; rw [← hW]; exact (Kp.refl w).alloc _ _
  have HW : Hid (_ = W) := hW
  clear hW k0
  cases V with
  | false =>
    go_enter Try.func16, Try.ntmps16
    go_wp2_with fail
    refine Calls.mono (HG.out _ _) ?_
    rw [HW.out]
    rintro e w1 ⟨rfl, k1⟩
    have K1 : Hid (Kp w w1) := Kp.trans K0.out k1
    clear k1
    go_wp2
    go_ret2
    exact ⟨rfl, K1.out⟩
  | true =>
    have HB : Hid _ := fun i hi => mskB_at HV.out i hi
    have HL : Hid _ := mskB_len HV.out
    go_enter Try.func16, Try.ntmps16
    go_wp2_with fail
    refine Calls.mono (HG.out _ _) ?_
    rw [HW.out]
    rintro e w1 ⟨rfl, k1⟩
    have K1 : Hid (Kp w w1) := Kp.trans K0.out k1
    obtain ⟨q0, q1, q2⟩ := MB.nw HP.out k1.nw
    simp only at q0 q1 q2
    clear k1
    go_wp2_with fail
    refine Calls.mono (isum w1 a c l HL.out HB.out (Ints.nw HR.out K1.out.nw)) ?_
    rintro e w2 ⟨rfl, rfl⟩
    go_wp2
    go_ret2
    exact ⟨rfl, K1.out⟩
set_option maxRecDepth 100000 in
set_option maxHeartbeats 4000000 in
theorem ssumOf (w : World) (p : MD) (a : Option Addr) (c : Nat) (l : List Int) (hl : l.length ≤ 1048576) (hr : Ints w a l) :
    Calls Try.prog 34 #[mskV p (.slice a l.length c)] w fun e w' => e = .returned (.tuple #[.int .i64 (smV p l), .bool (mskB p l)]) ∧ Kp w w' := by
  obtain ⟨pw, ph⟩ := p
  have HG : Hid (∀ o t, _) := fun o t => sgoodMask (w.alloc (.cells o t)) ⟨pw, ph⟩ a c l hl (hr.nw ((Kp.refl w).alloc _ _).nw)
  have HR : Hid (Ints w a l) := hr
  unfold smV
  unfold mskV at HG ⊢
  simp only at HG ⊢
  obtain ⟨V, hV⟩ : ∃ V, mskB ⟨pw, ph⟩ l = V := ⟨_, rfl⟩
  have HV : Hid (mskB ⟨pw, ph⟩ l = V) := hV
  rw [hV] at HG ⊢
  clear hr hV
  obtain ⟨W, hW⟩ : ∃ W, w.alloc (.cells #[.int .i64 pw, .int .i64 ph, .slice a l.length c] 28) = W := ⟨_, rfl⟩
  have HP : Hid (MB W w.heap.size ⟨pw, ph⟩ (.slice a l.length c)) := by show MB _ _ _ _; rw [← hW]; exact MB.new w ⟨pw, ph⟩ _ _
  have K0 : Hid (Kp w W) := by show Kp w W; rw [← hW]; exact (Kp.refl w).alloc _ _
  have HW : Hid (_ = W) := hW
  clear hW
  cases V with
  | false =>
    go_enter Try.func34, Try.ntmps34
    go_wp2_with fail
    refine Calls.mono (HG.out _ _) ?_
    rw [HW.out]
    rintro e w1 ⟨rfl, k1⟩
    have K1 : Hid (Kp w w1) := Kp.trans K0.out k1
    clear k1
    go_wp2
    go_ret2
    exact ⟨rfl, K1.out⟩
  | true =>
    have HB : Hid _ := fun i hi => mskB_at HV.out i hi
    have hln := mskB_len HV.out
    go_enter Try.func34, Try.ntmps34
    go_wp2_with fail
    refine Calls.mono (HG.out _ _) ?_
    rw [HW.out]
    rintro e w1 ⟨rfl, k1⟩
    have K1 : Hid (Kp w w1) := Kp.trans K0.out k1
    obtain ⟨q0, q1, q2⟩ := MB.nw HP.out k1.nw
    simp only at q0 q1 q2
    clear k1
    go_wp2
    go_loop [4, 13] (fun x i => ∃ k : Nat, k ≤ l.length ∧ i = .int .i64 k ∧ x = .int .i64 (l.take k).sum) (fun _ i => l.length - (intOf i).toNat)
    case atStart => exact ⟨0, Nat.zero_le _, rfl, rfl⟩
    case round =>
      obtain ⟨k, hk, rfl, rfl⟩ := hrel
      have hbd := sum_bd l HB.out k hk
      by_cases hlt : k < l.length
      · obtain ⟨b, off, rfl, q⟩ := Ints.at (Ints.nw HR.out K1.out.nw) hlt
        have hx := HB.out k hlt
        have HE : Hid _ := sum_step l k hlt
        generalize (l.take k).sum = z at *
        generalize intAt l k = x at *
        go_wp2
        go_round
        case rel => exact ⟨k + 1, by omega, by go_num, by rw [HE.out]⟩
        case measure => simp [intOf]; omega
      · have e : k = l.length := by omega
        subst e
        rw [List.take_length] at *
        go_wp2
        go_ret2
        exact ⟨rfl, K1.out⟩
end Go.Proofs.Ytllljknpicmmjaa
