/-
  Good steps, by the program: goodSteps; each theorem names its conditions.
-/
import Derived.Test.YtoajjdlgipphiaaStT
import Derived.Test.YtoajjdlgipphiaaPtG0
namespace Go.Proofs.Ytoajjdlgipphiaa
open Go.ChangeShapes Go.WideShapes Go.ChangeAt Go.RowKit
set_option linter.unusedVariables false

/-- How many numbers a step of a kind has, and whether there is such a kind. -/
def kdN (k : Int) : Int := if k = 1 then 2 else if k = 2 then 2 else if k = 3 then 6 else 0
def kdB (k : Int) : Bool := decide (k = 1) || (decide (k = 2) || (decide (k = 3) || decide (k = 4)))
/-- A step that is good where it stands. -/
def stOk (l : List SD) (i : Nat) : Bool := kdB (stAt l i).kind && (decide (((stAt l i).ns.length : Int) = kdN (stAt l i).kind) && ((stAt l i).ns.all fixB && (decide (i ≠ 0) || decide ((stAt l i).kind = 1))))
def stsB (l : List SD) : Bool := decide (l.length ≤ 60) && (List.range l.length).all (stOk l)
theorem stsB_false {l : List SD} {k : Nat} (hk : k < l.length) (h : stOk l k = false) : (List.range l.length).all (stOk l) = false := by
  rw [List.all_eq_false]
  exact ⟨k, List.mem_range.2 hk, by rw [h]; decide⟩
theorem stsB_true {l : List SD} (h : ∀ k, k < l.length → stOk l k = true) : (List.range l.length).all (stOk l) = true := by
  rw [List.all_eq_true]
  exact fun k hk => h k (List.mem_range.1 hk)
theorem inum (w : World) (k : Int) : Calls Try.prog 70 #[.int .i64 k] w fun e w' => e = .returned (.tuple #[.int .i64 (kdN k), .bool (kdB k)]) ∧ w' = w := by
  unfold kdN kdB
  by_cases h1 : k = 1
  · subst h1
    go_enter Try.func70, Try.ntmps70
    go_wp2
    go_ret2
    exact ⟨rfl, rfl⟩
  · by_cases h2 : k = 2
    · subst h2
      go_enter Try.func70, Try.ntmps70
      go_wp2
      go_ret2
      exact ⟨rfl, rfl⟩
    · by_cases h3 : k = 3
      · subst h3
        go_enter Try.func70, Try.ntmps70
        go_wp2
        go_ret2
        exact ⟨rfl, rfl⟩
      · by_cases h4 : k = 4
        · subst h4
          go_enter Try.func70, Try.ntmps70
          go_wp2
          go_ret2
          exact ⟨rfl, rfl⟩
        · rw [if_neg h1, if_neg h2, if_neg h3, decide_eq_false h1, decide_eq_false h2, decide_eq_false h3, decide_eq_false h4]
          have e1 : (k == 1) = false := by simp [h1]
          have e2 : (k == 2) = false := by simp [h2]
          have e3 : (k == 3) = false := by simp [h3]
          have e4 : (k == 4) = false := by simp [h4]
          clear h1 h2 h3 h4
          go_enter Try.func70, Try.ntmps70
          go_wp2
          go_ret2
          exact ⟨rfl, rfl⟩
theorem iallI (w : World) (a : Option Addr) (c : Nat) (zs : List Int) (hl : zs.length ≤ 1048576) (hr : Ints w a zs) :
    Calls Try.prog 71 #[.slice a zs.length c] w fun e w' => e = .returned (.bool (zs.all fixB)) ∧ w' = w := by
  rcases hr with rfl | ⟨b, off, rfl, _, hc⟩
  · show Calls Try.prog 71 #[.slice a 0 c] w fun e w' => e = .returned (.bool true) ∧ w' = w
    go_enter Try.func71, Try.ntmps71
    go_wp2
    go_loop [7] (fun i => i = .int .i64 0) (fun _ => 0)
    case atStart => rfl
    case round =>
      obtain rfl := hrel
      go_wp2
      go_ret
      exact ⟨rfl, rfl⟩
  · exact iall_any w b off c zs hl hc
set_option maxRecDepth 100000 in
set_option maxHeartbeats 4000000 in
theorem igoodSteps (w : World) (a : Option Addr) (c : Nat) (l : List SD) (hl : l.length ≤ 1048576) (hns : ∀ i, i < l.length → (stAt l i).ns.length ≤ 1048576) (hr : Steps w a l) :
    Calls Try.prog 47 #[.slice a l.length c] w fun e w' => e = .returned (.bool (stsB l)) ∧ Kp w w' := by
  have HR : Hid (Steps w a l) := hr
  have HNS : Hid _ := hns
  clear hr hns
  unfold stsB
  by_cases h60 : l.length ≤ 60
  · rw [decide_eq_true h60, Bool.true_and]
    have hd : decide ((60 : Int) < l.length) = false := decide_eq_false (by omega)
    obtain ⟨V, hV⟩ : ∃ V, (List.range l.length).all (stOk l) = V := ⟨_, rfl⟩
    have HV : Hid ((List.range l.length).all (stOk l) = V) := hV
    rw [hV]
    clear hV
    go_enter Try.func47, Try.ntmps47
    go_wp2
    clear hd
    go_loopw [12] (fun i wr => ∃ k : Nat, k ≤ l.length ∧ i = .int .i64 (k : Int) ∧ (∀ j, j < k → stOk l j = true) ∧ Kp w wr) (fun i _ => l.length - (intOf i).toNat)
    case atStart => exact ⟨0, Nat.zero_le _, rfl, fun j hj => absurd hj (by omega), Kp.refl _⟩
    case round =>
      obtain ⟨k, hk, rfl, ha, hw⟩ := hrel
      have HA : Hid _ := ha
      have HW : Hid (Kp w wr) := hw
      clear ha hw
      by_cases hlt : k < l.length
      · rcases (Steps.nw HR.out HW.out.nw) with h | ⟨b, off, rfl, hb, hc⟩
        · rw [h] at hlt; simp at hlt
        obtain ⟨q0, pa, pc, q1, qi⟩ := hc k hlt
        clear hc
        have HOK : Hid (stOk l k = (kdB (stAt l k).kind && (decide (((stAt l k).ns.length : Int) = kdN (stAt l k).kind) && ((stAt l k).ns.all fixB && (decide (k ≠ 0) || decide ((stAt l k).kind = 1)))))) := rfl
        have HFA : Hid (stOk l k = false → V = false) := fun h => HV.out.symm.trans (stsB_false hlt h)
        have HN : Hid (∀ w, _) := fun w => inum w (stAt l k).kind
        have HI : Hid (Ints wr pa (stAt l k).ns) := qi
        have HAL : Hid (∀ w, Ints w pa (stAt l k).ns → _) := fun w h => iallI w pa pc (stAt l k).ns (HNS.out k hlt) h
        have hnl : (stAt l k).ns.length ≤ 1048576 := HNS.out k hlt
        clear qi
        generalize hkd : (stAt l k).kind = kd at *
        clear hkd
        generalize (stAt l k).ns.all fixB = bf at *
        generalize hnn : (stAt l k).ns.length = n at *
        clear hnn
        generalize kdN kd = m at *
        generalize kdB kd = kb at *
        have NK : ∀ o t, Kp wr (wr.alloc (.cells o t)) := fun o t => (Kp.refl wr).alloc _ _
        cases kb with
        | false =>
          have HF : Hid (V = false) := HFA.out HOK.out
          go_wp2_with fail
          refine Calls.mono (HN.out _) ?_
          rintro e w1 ⟨rfl, hw1⟩
          obtain rfl := hw1
          go_wp2
          go_ret
          exact ⟨ret_bool HF.out.symm, Kp.trans HW.out (NK _ _)⟩
        | true =>
          rw [Bool.true_and] at HOK
          by_cases hm : (n : Int) = m
          · rw [decide_eq_true hm, Bool.true_and] at HOK
            have hne : ((n : Int) != m) = false := by simp [hm]
            clear hm
            cases bf with
            | false =>
              have HF : Hid (V = false) := HFA.out HOK.out
              go_wp2_with fail
              refine Calls.mono (HN.out _) ?_
              rintro e w1 ⟨rfl, hw1⟩
              obtain rfl := hw1
              go_wp2_with fail
              refine Calls.mono (HAL.out _ (Ints.nw HI.out (NK _ _).nw)) ?_
              rintro e w1 ⟨rfl, hw1⟩
              obtain rfl := hw1
              go_wp2
              go_ret
              exact ⟨ret_bool HF.out.symm, Kp.trans HW.out (NK _ _)⟩
            | true =>
              rw [Bool.true_and] at HOK
              by_cases hk0 : k = 0
              · subst hk0
                simp only [Nat.zero_mul, Nat.add_zero] at q0 q1
                by_cases h1 : kd = 1
                · subst h1
                  have HT : Hid (stOk l 0 = true) := by show _ = _; rw [HOK.out]; rfl
                  go_wp2_with fail
                  refine Calls.mono (HN.out _) ?_
                  rintro e w1 ⟨rfl, hw1⟩
                  obtain rfl := hw1
                  go_wp2_with fail
                  refine Calls.mono (HAL.out _ (Ints.nw HI.out (NK _ _).nw)) ?_
                  rintro e w1 ⟨rfl, hw1⟩
                  obtain rfl := hw1
                  go_wp2
                  go_roundw
                  case rel =>
                    refine ⟨0 + 1, by omega, by go_num, fun j hj => ?_, Kp.trans HW.out (NK _ _)⟩
                    obtain rfl : j = 0 := by omega
                    exact HT.out
                  case measure => simp [intOf]; omega
                · have HF : Hid (V = false) := HFA.out (by rw [HOK.out, decide_eq_false h1]; rfl)
                  have hn1 : (kd != 1) = true := by simp [h1]
                  clear h1
                  go_wp2_with fail
                  refine Calls.mono (HN.out _) ?_
                  rintro e w1 ⟨rfl, hw1⟩
                  obtain rfl := hw1
                  go_wp2_with fail
                  refine Calls.mono (HAL.out _ (Ints.nw HI.out (NK _ _).nw)) ?_
                  rintro e w1 ⟨rfl, hw1⟩
                  obtain rfl := hw1
                  go_wp2
                  go_ret
                  exact ⟨ret_bool HF.out.symm, Kp.trans HW.out (NK _ _)⟩
              · have HT : Hid (stOk l k = true) := by show _ = _; rw [HOK.out, decide_eq_true (show k ≠ 0 from hk0)]; rfl
                have hz : ((k : Int) == 0) = false := by simp; omega
                go_wp2_with fail
                refine Calls.mono (HN.out _) ?_
                rintro e w1 ⟨rfl, hw1⟩
                obtain rfl := hw1
                go_wp2_with fail
                refine Calls.mono (HAL.out _ (Ints.nw HI.out (NK _ _).nw)) ?_
                rintro e w1 ⟨rfl, hw1⟩
                obtain rfl := hw1
                go_wp2
                go_roundw
                case rel =>
                  refine ⟨k + 1, by omega, by go_num, fun j hj => ?_, Kp.trans HW.out (NK _ _)⟩
                  rcases Nat.lt_succ_iff_lt_or_eq.1 hj with h | h
                  · exact HA.out j h
                  · rw [h]; exact HT.out
                case measure => simp [intOf]; omega
          · have HF : Hid (V = false) := HFA.out (by rw [HOK.out, decide_eq_false hm]; rfl)
            have hne : ((n : Int) != m) = true := by simp [hm]
            clear hm
            go_wp2_with fail
            refine Calls.mono (HN.out _) ?_
            rintro e w1 ⟨rfl, hw1⟩
            obtain rfl := hw1
            go_wp2
            go_ret
            exact ⟨ret_bool HF.out.symm, Kp.trans HW.out (NK _ _)⟩
      · have HF : Hid (V = true) := HV.out.symm.trans (stsB_true (fun j hj => HA.out j (by omega)))
        clear HA
        go_wp2
        go_ret
        exact ⟨ret_bool HF.out.symm, HW.out⟩
  · rw [decide_eq_false h60, Bool.false_and]
    have hd : decide ((60 : Int) < l.length) = true := decide_eq_true (by omega)
    clear h60
    go_enter Try.func47, Try.ntmps47
    go_wp2
    go_ret
    exact ⟨rfl, Kp.refl _⟩
end Go.Proofs.Ytoajjdlgipphiaa
