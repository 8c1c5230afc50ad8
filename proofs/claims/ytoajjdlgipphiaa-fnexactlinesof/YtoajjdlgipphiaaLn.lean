/-
  Lines in memory; whether their points are fixed and how many they are, of both; each theorem names its conditions.
-/
import Derived.Test.YtoajjdlgipphiaaPtG0
import Derived.Test.YtoajjdlgipphiaaLn0
namespace Go.Proofs.Ytoajjdlgipphiaa
open Go.ChangeShapes Go.WideShapes Go.ChangeAt Go.RowKit
set_option linter.unusedVariables false

/-- All points are fixed. -/
def fixL (l : List LD) : Bool := l.all fun x => ptsB x.pts
def goodL (l : List LD) : Bool := fixL l && decide (manyL l ≤ 600)
theorem fixL_false {l : List LD} {k j : Nat} (hk : k < l.length) (hj : j < (lnAt l k).pts.length) (h : ptB (ptAt (lnAt l k).pts j) = false) : fixL l = false := by
  refine all_false _ noLD l k hk ?_
  exact all_false _ (0, 0) _ j hj h
theorem fixL_true {l : List LD} (h : ∀ k, k < l.length → ptsB (lnAt l k).pts = true) : fixL l = true := all_true _ noLD l h
set_option maxHeartbeats 2000000 in
theorem sgoodL (w : World) (a : Option Addr) (c : Nat) (l : List LD) (hl : l.length ≤ 1048576) (hm : manyL l ≤ 1048576) (hr : Lines w a l) :
    Calls Try.prog 45 #[.slice a l.length c] w fun e w' => e = .returned (.bool (goodL l)) ∧ Kp w w' := by
  obtain ⟨V, hV⟩ : ∃ V, goodL l = V := ⟨_, rfl⟩
  have HV : Hid (goodL l = V) := hV
  rw [hV]
  clear hV
  have HR : Hid (Lines w a l) := hr
  clear hr
  go_enter Try.func45, Try.ntmps45
  go_wp2
  go_loopw [9] (fun i wr => ∃ k : Nat, k ≤ l.length ∧ i = .int .i64 k ∧ (∀ m, m < k → ptsB (lnAt l m).pts = true) ∧ Kp w wr) (fun i _ => l.length - (intOf i).toNat)
  case atStart => exact ⟨0, Nat.zero_le _, rfl, fun m hm => absurd hm (by omega), Kp.refl _⟩
  case round =>
    obtain ⟨k, hk, rfl, ha, hw⟩ := hrel
    have HW : Hid (Kp w wr) := hw
    have HA : Hid _ := ha
    clear hw ha
    by_cases hlt : k < l.length
    · rcases (HR.out.nw HW.out.nw) with h | ⟨b, off, rfl, hb, hc⟩
      · rw [h] at hlt; simp at hlt
      obtain ⟨⟨pa, pc, q0, qp⟩, q1⟩ := hc k hlt
      clear hc
      have HP : Hid (Pts wr pa (lnAt l k).pts) := qp
      have hn := manyL_at l k hlt
      have HF : Hid (∀ j, j < (lnAt l k).pts.length → ptB (ptAt (lnAt l k).pts j) = false → V = false) := fun j hj h => by
        have := fixL_false hlt hj h
        rw [← HV.out]; unfold goodL; rw [this]; rfl
      have HT : Hid ((∀ j, j < (lnAt l k).pts.length → ptB (ptAt (lnAt l k).pts j) = true) → ptsB (lnAt l k).pts = true) := fun h => all_true _ (0, 0) _ h
      clear qp
      generalize (lnAt l k).closed = cl at *
      generalize hps : (lnAt l k).pts = ps at *
      have HPS : Hid ((lnAt l k).pts = ps) := hps
      clear hps
      obtain ⟨W1, hW1⟩ : ∃ W1, wr = W1 := ⟨_, rfl⟩
      rw [hW1] at HW HP q0 q1 hb ⊢
      clear hW1
      go_wp2
      go_loopw [16] (fun i wr => ∃ j : Nat, j ≤ ps.length ∧ i = .int .i64 j ∧ (∀ m, m < j → ptB (ptAt ps m) = true) ∧ Kp W1 wr) (fun i _ => ps.length - (intOf i).toNat)
      case atStart => exact ⟨0, Nat.zero_le _, rfl, fun m hm => absurd hm (by omega), (Kp.refl _).alloc _ _⟩
      case round =>
        obtain ⟨j, hj, rfl, ha, hw⟩ := hrel
        have HW2 : Hid _ := hw
        have HA2 : Hid _ := ha
        clear hw ha
        by_cases hlt2 : j < ps.length
        · rcases (Pts.nw HP.out (Kp.nw HW2.out)) with h | ⟨b2, off2, rfl, hb2, hc⟩
          · rw [h] at hlt2; simp at hlt2
          obtain ⟨p0, p1⟩ := hc j hlt2
          clear hc
          obtain ⟨p, hp⟩ : ∃ p, ptAt ps j = p := ⟨_, rfl⟩
          have HPP : Hid (ptAt ps j = p) := hp
          rw [hp] at p0 p1
          clear hp
          obtain ⟨x, y⟩ := p
          have hcall : Hid _ := fun w => sgoodP w x y
          cases hf : ptB (x, y) with
          | true =>
            rw [hf] at hcall
            have HFF : Hid (ptB (x, y) = true) := hf
            clear hf
            go_wp2_with fail
            refine (hcall.out _).mono ?_
            rintro e w1 ⟨rfl, k1⟩
            have K1 : Hid (Kp W1 w1) := Kp.trans (Kp.alloc HW2.out _ _) k1
            clear k1
            go_wp2
            go_roundw
            case rel =>
              refine ⟨j + 1, by omega, by go_num, fun m hm => ?_, K1.out⟩
              rcases Nat.lt_succ_iff_lt_or_eq.1 hm with h | h
              · exact HA2.out m h
              · rw [h, HPP.out]; exact HFF.out
            case measure => simp [intOf]; omega
          | false =>
            rw [hf] at hcall
            have HFF : Hid (V = false) := HF.out j hlt2 (by rw [HPP.out]; exact hf)
            clear hf
            go_wp2_with fail
            refine (hcall.out _).mono ?_
            rintro e w1 ⟨rfl, k1⟩
            have K1 : Hid (Kp W1 w1) := Kp.trans (Kp.alloc HW2.out _ _) k1
            clear k1
            go_wp2
            go_ret
            exact ⟨ret_bool HFF.out.symm, Kp.trans HW.out K1.out⟩
        · have HX : Hid (ptsB (lnAt l k).pts = true) := by
            show _ = _
            rw [HPS.out]
            exact HT.out (fun m hm => HA2.out m (by omega))
          clear HA2
          go_wp2
          go_roundw
          case rel =>
            refine ⟨k + 1, by omega, by go_num, fun m hm => ?_, Kp.trans HW.out HW2.out⟩
            rcases Nat.lt_succ_iff_lt_or_eq.1 hm with h | h
            · exact HA.out m h
            · rw [h]; exact HX.out
          case measure => simp [intOf]; omega
    · have HX : Hid (decide (manyL l ≤ 600) = V) := by
        show _ = _
        rw [← HV.out]; unfold goodL
        rw [fixL_true (fun m hm => HA.out m (by omega))]; rfl
      have HM : Hid _ := fun (w : World) (h : Lines w a l) => smany w a c l hl hm h
      have HQ : Hid _ := HR.out.nw HW.out.nw
      have hd : decide ((manyL l : Int) ≤ 600) = decide (manyL l ≤ 600) := by
        rw [Bool.eq_iff_iff]; simp; omega
      rw [HX.out] at hd
      clear HA
      go_wp2_with fail
      refine Calls.mono (HM.out _ HQ.out) ?_
      rintro e w1 ⟨rfl, k1⟩
      have K1 : Hid (Kp w w1) := Kp.trans HW.out k1
      clear k1
      go_wp2
      go_ret
      exact ⟨rfl, K1.out⟩
end Go.Proofs.Ytoajjdlgipphiaa
