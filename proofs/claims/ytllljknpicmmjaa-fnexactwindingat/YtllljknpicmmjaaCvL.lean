/-
  Lines that can be covered: near ones, not too many points, of both; each theorem names its conditions.
-/
import Derived.Test.YtllljknpicmmjaaNr0
import Derived.Test.YtllljknpicmmjaaLn0
namespace Go.Proofs.Ytllljknpicmmjaa
open Go.ChangeShapes Go.WideShapes Go.ChangeAt Go.RowKit
set_option linter.unusedVariables false

def nearL (l : List LD) : Bool := l.all fun x => nearsB x.pts
/-- Lines that can be covered. -/
def cvL (l : List LD) : Bool := decide (manyL l ≤ 4800) && nearL l
theorem nearL_false {l : List LD} {k : Nat} (hk : k < l.length) (h : nearsB (lnAt l k).pts = false) : nearL l = false := all_false _ noLD l k hk h
theorem nearL_true {l : List LD} (h : ∀ k, k < l.length → nearsB (lnAt l k).pts = true) : nearL l = true := all_true _ noLD l h
theorem nearL_at {l : List LD} (h : nearL l = true) (k : Nat) (hk : k < l.length) : nearsB (lnAt l k).pts = true := by
  unfold nearL at h
  rw [List.all_eq_true] at h
  unfold lnAt
  rw [show l.getD k noLD = l[k] by simp [hk]]
  exact h _ (List.getElem_mem hk)
theorem cvL_some {l : List LD} (h : cvL l = true) : manyL l ≤ 4800 ∧ nearL l = true := by
  unfold cvL at h
  simpa using h
set_option maxHeartbeats 1000000 in
theorem inearL (w : World) (a : Option Addr) (c : Nat) (l : List LD) (hl : l.length ≤ 1048576) (hm : manyL l ≤ 1048576) (hr : Lines w a l) :
    Calls Try.prog 71 #[.slice a l.length c] w fun e w' => e = .returned (.bool (nearL l)) ∧ Kp w w' := by
  obtain ⟨V, hV⟩ : ∃ V, nearL l = V := ⟨_, rfl⟩
  have HV : Hid (nearL l = V) := hV
  rw [hV]
  have HR : Hid (Lines w a l) := hr
  clear hr hV
  go_enter Try.func71, Try.ntmps71
  go_wp2
  go_loopw [7] (fun i wr => ∃ k : Nat, k ≤ l.length ∧ i = .int .i64 k ∧ (∀ m, m < k → nearsB (lnAt l m).pts = true) ∧ Kp w wr) (fun i _ => l.length - (intOf i).toNat)
  case atStart => exact ⟨0, Nat.zero_le _, rfl, fun m hm => absurd hm (by omega), Kp.refl _⟩
  case round =>
    obtain ⟨k, hk, rfl, ha, hw⟩ := hrel
    have HW : Hid (Kp w wr) := hw
    have HA : Hid _ := ha
    clear hw ha
    by_cases hlt : k < l.length
    · rcases (HR.out.nw HW.out.nw) with h | ⟨b, off, rfl, hb, hc⟩
      · rw [h] at hlt; simp at hlt
      obtain ⟨⟨pa, pc, q0, qp⟩, q1⟩ := hc k hlt
      clear hc
      have hn := manyL_at l k hlt
      have HC : Hid (∀ o, _) := fun o => inear (wr.alloc o) pa pc (lnAt l k).pts (by omega) (qp.nw ((Below.refl _ _).alloc (Nat.le_refl _) _))
      cases hf : nearsB (lnAt l k).pts with
      | false =>
        have HF : Hid (V = false) := HV.out.symm.trans (nearL_false hlt hf)
        rw [hf] at HC
        clear hf qp
        generalize (lnAt l k).closed = cl at *
        generalize (lnAt l k).pts.length = n at *
        go_wp2_with fail
        refine Calls.mono (HC.out _) ?_
        rintro e w1 ⟨rfl, k1⟩
        have K1 : Hid (Kp w w1) := Kp.trans (Kp.alloc HW.out _ _) k1
        clear k1
        go_wp2
        go_ret
        exact ⟨ret_bool HF.out.symm, K1.out⟩
      | true =>
        have HF : Hid (nearsB (lnAt l k).pts = true) := hf
        rw [hf] at HC
        clear hf qp
        generalize (lnAt l k).closed = cl at *
        generalize hnn : (lnAt l k).pts.length = n at *
        clear hnn
        go_wp2_with fail
        refine Calls.mono (HC.out _) ?_
        rintro e w1 ⟨rfl, k1⟩
        have K1 : Hid (Kp w w1) := Kp.trans (Kp.alloc HW.out _ _) k1
        clear k1
        go_wp2
        go_roundw
        case rel =>
          refine ⟨k + 1, by omega, by go_num, fun m hm => ?_, K1.out⟩
          rcases Nat.lt_succ_iff_lt_or_eq.1 hm with h | h
          · exact HA.out m h
          · rw [h]; exact HF.out
        case measure => simp [intOf]; omega
    · have HX : Hid (V = true) := HV.out.symm.trans (nearL_true (fun m hm => HA.out m (by omega)))
      clear HA
      go_wp2
      go_ret
      exact ⟨ret_bool HX.out.symm, HW.out⟩
theorem icover (w : World) (a : Option Addr) (c : Nat) (l : List LD) (hl : l.length ≤ 1048576) (hm : manyL l ≤ 1048576) (hr : Lines w a l) :
    Calls Try.prog 39 #[.slice a l.length c] w fun e w' => e = .returned (.bool (cvL l)) ∧ Kp w w' := by
  have HM : Hid _ := imany w a c l hl hm hr
  have HN : Hid (∀ w, Lines w a l → _) := fun w h => inearL w a c l hl hm h
  have HR : Hid (Lines w a l) := hr
  clear hr
  unfold cvL
  by_cases h : manyL l ≤ 4800
  · rw [decide_eq_true h, Bool.true_and]
    have hd : decide ((manyL l : Int) ≤ 4800) = true := decide_eq_true (by omega)
    generalize nearL l = V at *
    generalize manyL l = m at *
    generalize l.length = n at *
    go_enter Try.func39, Try.ntmps39
    go_wp2_with fail
    refine Calls.mono HM.out ?_
    rintro e w1 ⟨rfl, k1⟩
    have K1 : Hid (Kp w w1) := k1
    clear k1
    go_wp2_with fail
    refine Calls.mono (HN.out _ (Lines.nw HR.out K1.out.nw)) ?_
    rintro e w2 ⟨rfl, k2⟩
    have K2 : Hid (Kp w w2) := Kp.trans K1.out k2
    clear k2
    go_wp2
    go_ret
    exact ⟨rfl, K2.out⟩
  · rw [decide_eq_false h, Bool.false_and]
    have hd : decide ((manyL l : Int) ≤ 4800) = false := decide_eq_false (by omega)
    generalize manyL l = m at *
    generalize l.length = n at *
    go_enter Try.func39, Try.ntmps39
    go_wp2_with fail
    refine Calls.mono HM.out ?_
    rintro e w1 ⟨rfl, k1⟩
    have K1 : Hid (Kp w w1) := k1
    clear k1
    go_wp2
    go_ret
    exact ⟨rfl, K1.out⟩
set_option maxHeartbeats 2000000 in
theorem scover (w : World) (a : Option Addr) (c : Nat) (l : List LD) (hl : l.length ≤ 1048576) (hm : manyL l ≤ 1048576) (hr : Lines w a l) :
    Calls Try.prog 44 #[.slice a l.length c] w fun e w' => e = .returned (.bool (cvL l)) ∧ Kp w w' := by
  have HM : Hid _ := smany w a c l hl hm hr
  have HR : Hid (Lines w a l) := hr
  clear hr
  by_cases h48 : manyL l ≤ 4800
  · obtain ⟨V, hV⟩ : ∃ V, nearL l = V := ⟨_, rfl⟩
    have HV : Hid (nearL l = V) := hV
    have hcv : cvL l = V := by unfold cvL; rw [decide_eq_true h48, Bool.true_and, hV]
    rw [hcv]
    clear hV hcv
    have hd : decide ((4800 : Int) < manyL l) = false := decide_eq_false (by omega)
    have HMN : Hid (∀ k, k < l.length → (lnAt l k).pts.length ≤ 4800) := fun k hk => Nat.le_trans (manyL_at l k hk) h48
    go_enter Try.func44, Try.ntmps44
    go_wp2_with fail
    refine Calls.mono HM.out ?_
    rintro e w0 ⟨rfl, k0⟩
    have K0 : Hid (Kp w w0) := k0
    have HR0 : Hid (Lines w0 a l) := Lines.nw HR.out k0.nw
    clear k0 hm h48 HM
    go_wp2
    clear hd
    go_loopw [12] (fun i wr => ∃ k : Nat, k ≤ l.length ∧ i = .int .i64 k ∧ (∀ m, m < k → nearsB (lnAt l m).pts = true) ∧ Kp w0 wr) (fun i _ => l.length - (intOf i).toNat)
    case atStart => exact ⟨0, Nat.zero_le _, rfl, fun m hm => absurd hm (by omega), Kp.refl _⟩
    case round =>
      obtain ⟨k, hk, rfl, ha, hw⟩ := hrel
      have HW : Hid (Kp w0 wr) := hw
      have HA : Hid _ := ha
      clear hw ha
      by_cases hlt : k < l.length
      · rcases (HR0.out.nw HW.out.nw) with h | ⟨b, off, rfl, hb, hc⟩
        · rw [h] at hlt; simp at hlt
        obtain ⟨⟨pa, pc, q0, qp⟩, q1⟩ := hc k hlt
        clear hc
        have HP : Hid (Pts wr pa (lnAt l k).pts) := qp
        have hn := HMN.out k hlt
        have HF : Hid (∀ j, j < (lnAt l k).pts.length → nearB (ptAt (lnAt l k).pts j) = false → V = false) := fun j hj h => by
          rw [← HV.out]
          exact nearL_false hlt (all_false _ (0, 0) _ j hj h)
        have HT : Hid ((∀ j, j < (lnAt l k).pts.length → nearB (ptAt (lnAt l k).pts j) = true) → nearsB (lnAt l k).pts = true) := fun h => all_true _ (0, 0) _ h
        clear qp
        generalize (lnAt l k).closed = cl at *
        generalize hps : (lnAt l k).pts = ps at *
        have HPS : Hid ((lnAt l k).pts = ps) := hps
        clear hps
        obtain ⟨W1, hW1⟩ : ∃ W1, wr = W1 := ⟨_, rfl⟩
        rw [hW1] at HW HP q0 q1 hb ⊢
        clear hW1
        go_wp2
        go_loopw [19] (fun i wr => ∃ j : Nat, j ≤ ps.length ∧ i = .int .i64 j ∧ (∀ m, m < j → nearB (ptAt ps m) = true) ∧ Kp W1 wr) (fun i _ => ps.length - (intOf i).toNat)
        case atStart => exact ⟨0, Nat.zero_le _, rfl, fun m hm => absurd hm (by omega), (Kp.refl _).alloc _ _⟩
        case round =>
          obtain ⟨j, hj, rfl, ha, hw⟩ := hrel
          have HW2 : Hid _ := hw
          have HA2 : Hid _ := ha
          clear hw ha
          by_cases hlt2 : j < ps.length
          · rcases (Pts.nw HP.out (Kp.nw HW2.out)) with h | ⟨b2, off2, rfl, hb2, hc⟩
            · rw [h] at hlt2; simp at hlt2
            obtain ⟨p0, p1⟩ := hc j hlt2
            clear hc
            obtain ⟨p, hp⟩ : ∃ p, ptAt ps j = p := ⟨_, rfl⟩
            have HPP : Hid (ptAt ps j = p) := hp
            rw [hp] at p0 p1
            clear hp
            obtain ⟨x, y⟩ := p
            have hcall : Hid _ := fun w => snear w x y
            cases hf : nearB (x, y) with
            | true =>
              rw [hf] at hcall
              have HFF : Hid (nearB (x, y) = true) := hf
              clear hf
              go_wp2_with fail
              refine (hcall.out _).mono ?_
              rintro e w1 ⟨rfl, k1⟩
              have K1 : Hid (Kp W1 w1) := Kp.trans (Kp.alloc HW2.out _ _) k1
              clear k1
              go_wp2
              go_roundw
              case rel =>
                refine ⟨j + 1, by omega, by go_num, fun m hm => ?_, K1.out⟩
                rcases Nat.lt_succ_iff_lt_or_eq.1 hm with h | h
                · exact HA2.out m h
                · rw [h, HPP.out]; exact HFF.out
              case measure => simp [intOf]; omega
            | false =>
              rw [hf] at hcall
              have HFF : Hid (V = false) := HF.out j hlt2 (by rw [HPP.out]; exact hf)
              clear hf
              go_wp2_with fail
              refine (hcall.out _).mono ?_
              rintro e w1 ⟨rfl, k1⟩
              have K1 : Hid (Kp W1 w1) := Kp.trans (Kp.alloc HW2.out _ _) k1
              clear k1
              go_wp2
              go_ret
              exact ⟨ret_bool HFF.out.symm, Kp.trans K0.out (Kp.trans HW.out K1.out)⟩
          · have HX : Hid (nearsB (lnAt l k).pts = true) := by
              show _ = _
              rw [HPS.out]
              exact HT.out (fun m hm => HA2.out m (by omega))
            clear HA2
            go_wp2
            go_roundw
            case rel =>
              refine ⟨k + 1, by omega, by go_num, fun m hm => ?_, Kp.trans HW.out HW2.out⟩
              rcases Nat.lt_succ_iff_lt_or_eq.1 hm with h | h
              · exact HA.out m h
              · rw [h]; exact HX.out
            case measure => simp [intOf]; omega
      · have HX : Hid (V = true) := HV.out.symm.trans (nearL_true (fun m hm => HA.out m (by omega)))
        clear HA
        go_wp2
        go_ret
        exact ⟨ret_bool HX.out.symm, Kp.trans K0.out HW.out⟩
  · have hcv : cvL l = false := by unfold cvL; rw [decide_eq_false h48, Bool.false_and]
    rw [hcv]
    have hd : decide ((4800 : Int) < manyL l) = true := decide_eq_true (by omega)
    clear h48 hcv
    generalize manyL l = m at *
    go_enter Try.func44, Try.ntmps44
    go_wp2_with fail
    refine Calls.mono HM.out ?_
    rintro e w0 ⟨rfl, k0⟩
    have K0 : Hid (Kp w w0) := k0
    clear k0
    go_wp2
    go_ret
    exact ⟨rfl, K0.out⟩
end Go.Proofs.Ytllljknpicmmjaa
