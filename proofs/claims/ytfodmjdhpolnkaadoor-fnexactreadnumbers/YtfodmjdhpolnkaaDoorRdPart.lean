/-
  ReadPart of both, and the walk of its law; for texts of at most 1048576 bytes (the law asks for no longer ones).
-/
import Derived.Test.YtfodmjdhpolnkaaDoorTrB
import Derived.Test.YtfodmjdhpolnkaaDoorNuDec
namespace Go.Proofs.YtfodmjdhpolnkaaDoor
open Go.ChangeShapes Go.WideShapes Go.ChangeAt Go.RowKit
set_option linter.unusedVariables false

theorem rf_bd (σ : Int) (l : List UInt8) : -1099511627776 ≤ (rf σ l).1 ∧ (rf σ l).1 ≤ 1099511627776 := by
  have f : ∀ N, -1099511627776 ≤ (fin σ N).1 ∧ (fin σ N).1 ≤ 1099511627776 := fun N => by
    unfold fin
    split
    · rename_i h
      unfold okFix at h
      simp only [Bool.and_eq_true, decide_eq_true_eq] at h
      exact h
    · constructor <;> decide
  obtain ⟨a, t, rfl, ha, ht⟩ := parts l
  rcases ht with rfl | ⟨c, b, rfl, hc⟩
  · rw [List.append_nil, rf_all σ a ha]
    split
    · exact f _
    · constructor <;> decide
  · rw [rf_split σ a c b ha hc]
    split
    · exact f _
    · constructor <;> decide
theorem rfS_bd (l : List UInt8) : -1099511627776 ≤ (rfS l).1 ∧ (rfS l).1 ≤ 1099511627776 := by
  match l with
  | [] => exact rf_bd _ _
  | c :: t =>
    rw [rfS_cons]
    by_cases h45 : c = 45
    · rw [if_pos h45]; exact rf_bd _ _
    · rw [if_neg h45]
      by_cases h43 : c = 43
      · rw [if_pos h43]; exact rf_bd _ _
      · rw [if_neg h43]; exact rf_bd _ _

def cutI (x : Int) : Int := if x < 0 then 0 else if 65536 < x then 65536 else x
theorem icut (x : Int) (w : World) : Calls Tryd.prog 45 #[.int .i64 x, .int .i64 0, .int .i64 65536] w fun e w' => e = .returned (.int .i64 (cutI x)) ∧ w' = w := by
  by_cases h1 : x < 0
  · have h : cutI x = 0 := by unfold cutI; rw [if_pos h1]
    rw [h]
    go_enter Tryd.func45, Tryd.ntmps45
    go_wp2
    go_ret
    exact ⟨by simp; omega, rfl⟩
  · by_cases h2 : 65536 < x
    · have h : cutI x = 65536 := by unfold cutI; rw [if_neg h1, if_pos h2]
      rw [h]
      go_enter Tryd.func45, Tryd.ntmps45
      go_wp2
      go_ret
      exact ⟨by simp; omega, rfl⟩
    · have h : cutI x = x := by unfold cutI; rw [if_neg h1, if_neg h2]
      rw [h]
      go_enter Tryd.func45, Tryd.ntmps45
      go_wp2
      go_ret
      exact ⟨by simp; omega, rfl⟩
/-- What ReadPart answers. -/
def ptV (s : ByteArray) : Int × Bool :=
  if 600 < s.size then (0, false) else if (rfS (TB s).data.toList).2 = true then ((cutI (rfS (TB s).data.toList).1 * 256 + 32768) / 65536, true) else (0, false)
theorem cutI_bd (x : Int) : 0 ≤ cutI x ∧ cutI x ≤ 65536 := by
  unfold cutI
  by_cases h1 : x < 0
  · rw [if_pos h1]; constructor <;> decide
  · rw [if_neg h1]
    by_cases h2 : 65536 < x
    · rw [if_pos h2]; constructor <;> decide
    · rw [if_neg h2]; constructor <;> omega
set_option maxHeartbeats 1000000 in
theorem sl7part (s : ByteArray) (w : World) (hs : s.size ≤ 600) : Calls Tryd.prog 44 #[.string s] w fun e w' => e = .returned (.tuple #[.int .i64 (ptV s).1, .bool (ptV s).2]) ∧ w' = w := by
  have hle := TB_le s
  have HT : Hid _ := fun w => strim s w (by omega)
  have HR : Hid _ := fun w => sread_x (TB s) w (by omega)
  have hbd := rfS_bd (TB s).data.toList
  have HF : Hid _ := rfS_false (TB s).data.toList
  have HV : Hid (ptV s = if (rfS (TB s).data.toList).2 = true then ((cutI (rfS (TB s).data.toList).1 * 256 + 32768) / 65536, true) else (0, false)) := by
    show _ = _
    unfold ptV; rw [if_neg (by omega)]
  clear hle
  generalize rfS (TB s).data.toList = r at *
  obtain ⟨x, ok⟩ := r
  cases ok with
  | false =>
    obtain rfl : x = 0 := by have := HF.out rfl; exact congrArg Prod.fst this
    have HE : Hid (ptV s = (0, false)) := HV.out
    go_enter Tryd.func44, Tryd.ntmps44
    go_wp2_with fail
    refine (HT.out _).mono ?_; rintro e w1 ⟨rfl, rfl⟩
    go_wp2_with fail
    refine (HR.out _).mono ?_; rintro e w1 ⟨rfl, rfl⟩
    go_wp2
    go_ret2
    exact ⟨by rw [HE.out]; rfl, rfl⟩
  | true =>
    have HE : Hid (ptV s = ((cutI x * 256 + 32768) / 65536, true)) := HV.out
    obtain ⟨b1, b2⟩ := hbd
    simp only at b1 b2
    by_cases h1 : x < 0
    · have h : cutI x = 0 := by unfold cutI; rw [if_pos h1]
      rw [h] at HE
      clear h HF HV
      go_enter Tryd.func44, Tryd.ntmps44
      go_wp2_with fail
      refine (HT.out _).mono ?_; rintro e w1 ⟨rfl, rfl⟩
      go_wp2_with fail
      refine (HR.out _).mono ?_; rintro e w1 ⟨rfl, rfl⟩
      go_wp2
      go_ret2
      exact ⟨by rw [HE.out]; rfl, rfl⟩
    · by_cases h2 : 65536 < x
      · have h : cutI x = 65536 := by unfold cutI; rw [if_neg h1, if_pos h2]
        rw [h] at HE
        clear h HF HV
        go_enter Tryd.func44, Tryd.ntmps44
        go_wp2_with fail
        refine (HT.out _).mono ?_; rintro e w1 ⟨rfl, rfl⟩
        go_wp2_with fail
        refine (HR.out _).mono ?_; rintro e w1 ⟨rfl, rfl⟩
        go_wp2
        go_ret2
        exact ⟨by rw [HE.out]; rfl, rfl⟩
      · have h : cutI x = x := by unfold cutI; rw [if_neg h1, if_neg h2]
        rw [h] at HE
        clear h HF HV
        have hd : Int.tdiv (x * 256 + 32768) 65536 = (x * 256 + 32768) / 65536 := Int.tdiv_eq_ediv_of_nonneg (by omega)
        go_enter Tryd.func44, Tryd.ntmps44
        go_wp2_with fail
        refine (HT.out _).mono ?_; rintro e w1 ⟨rfl, rfl⟩
        go_wp2_with fail
        refine (HR.out _).mono ?_; rintro e w1 ⟨rfl, rfl⟩
        go_wp2
        go_ret2
        exact ⟨by rw [HE.out]; rfl, rfl⟩
theorem spart (s : ByteArray) (w : World) (hs : s.size ≤ 1048576) : Calls Tryd.prog 19 #[.string s] w fun e w' => e = .returned (.tuple #[.int .i64 (ptV s).1, .bool (ptV s).2]) ∧ w' = w := by
  by_cases h : 600 < s.size
  · have HE : Hid (ptV s = (0, false)) := by show _ = _; unfold ptV; rw [if_pos h]
    go_enter Tryd.func19, Tryd.ntmps19
    go_wp2
    go_ret2
    exact ⟨by rw [HE.out]; rfl, rfl⟩
  · have HT : Hid _ := fun w => sl7part s w (by omega)
    have hd : decide (600 < (s.size : Int)) = false := by simp; omega
    generalize ptV s = r at *
    obtain ⟨x, ok⟩ := r
    go_enter Tryd.func19, Tryd.ntmps19
    go_wp2_with fail
    refine (HT.out _).mono ?_; rintro e w1 ⟨rfl, rfl⟩
    go_wp2
    go_ret2
    exact ⟨rfl, rfl⟩
set_option maxHeartbeats 1000000 in
theorem ipart (s : ByteArray) (w : World) (hs : s.size ≤ 1048576) : Calls Tryd.prog 20 #[.string s] w fun e w' => e = .returned (.tuple #[.int .i64 (ptV s).1, .bool (ptV s).2]) ∧ Below w.heap.size w w' := by
  have HT : Hid _ := fun w => ivalue s w hs
  by_cases h : 600 < s.size
  · have HE : Hid (ptV s = (0, false)) := by show _ = _; unfold ptV; rw [if_pos h]
    rw [if_pos h, decide_eq_true h] at HT
    have HR : Hid _ := fun w => iread_x ⟨#[]⟩ (by decide) w
    generalize rfS (⟨#[]⟩ : ByteArray).data.toList = r at *
    obtain ⟨x, ok⟩ := r
    go_enter Tryd.func20, Tryd.ntmps20
    go_wp2_with fail
    refine (HT.out _).mono ?_; rintro e w1 ⟨rfl, hb⟩
    have HB : Hid _ := hb
    clear hb
    go_wp2_with fail
    refine (HR.out _).mono ?_; rintro e w2 ⟨rfl, hk⟩
    have HK : Hid (Kp _ _) := hk
    clear hk
    go_wp2
    go_ret2
    exact ⟨by rw [HE.out]; rfl, Below.trans HB.out (Below.mono HK.out.1 (Below.size HB.out))⟩
  · rw [if_neg h, decide_eq_false h] at HT
    have hle := TB_le s
    have HR : Hid _ := fun w => iread_x (TB s) (by omega) w
    have hbd := rfS_bd (TB s).data.toList
    have HF : Hid _ := rfS_false (TB s).data.toList
    have HV : Hid (ptV s = if (rfS (TB s).data.toList).2 = true then ((cutI (rfS (TB s).data.toList).1 * 256 + 32768) / 65536, true) else (0, false)) := by
      show _ = _
      unfold ptV; rw [if_neg (by omega)]
    clear hle
    generalize rfS (TB s).data.toList = r at *
    obtain ⟨x, ok⟩ := r
    cases ok with
    | false =>
      obtain rfl : x = 0 := by have := HF.out rfl; exact congrArg Prod.fst this
      have HE : Hid (ptV s = (0, false)) := HV.out
      go_enter Tryd.func20, Tryd.ntmps20
      go_wp2_with fail
      refine (HT.out _).mono ?_; rintro e w1 ⟨rfl, hb⟩
      have HB : Hid _ := hb
      clear hb
      go_wp2_with fail
      refine (HR.out _).mono ?_; rintro e w2 ⟨rfl, hk⟩
      have HK : Hid (Kp _ _) := hk
      clear hk
      go_wp2
      go_ret2
      exact ⟨by rw [HE.out]; rfl, Below.trans HB.out (Below.mono HK.out.1 (Below.size HB.out))⟩
    | true =>
      have HE : Hid (ptV s = ((cutI x * 256 + 32768) / 65536, true)) := HV.out
      obtain ⟨b1, b2⟩ := cutI_bd x
      have HC : Hid _ := fun w => icut x w
      generalize cutI x = y at *
      have hd : Int.tdiv (y * 256 + 32768) 65536 = (y * 256 + 32768) / 65536 := Int.tdiv_eq_ediv_of_nonneg (by omega)
      clear hbd HF HV
      go_enter Tryd.func20, Tryd.ntmps20
      go_wp2_with fail
      refine (HT.out _).mono ?_; rintro e w1 ⟨rfl, hb⟩
      have HB : Hid _ := hb
      clear hb
      go_wp2_with fail
      refine (HR.out _).mono ?_; rintro e w2 ⟨rfl, hk⟩
      have HK : Hid (Kp _ _) := hk
      clear hk
      go_wp2_with fail
      refine (HC.out _).mono ?_; rintro e w3 ⟨rfl, rfl⟩
      go_wp2
      go_ret2
      exact ⟨by rw [HE.out]; rfl, Below.trans HB.out (Below.mono HK.out.1 (Below.size HB.out))⟩
/-- The walk of the law on ReadPart. -/
theorem walk_part (w : World) (s : ByteArray) (hs : s.size ≤ maxLen) : Calls Tryd.prog 6 #[.string s] w fun e w' => e = .returned (.bool true) ∧ Below w.heap.size w w' := by
  unfold maxLen at hs
  by_cases h : 1048576 < s.size
  · go_enter Tryd.func6, Tryd.ntmps6
    go_wp2
    go_ret
    exact ⟨rfl, Below.refl _ _⟩
  · have HS : Hid _ := fun w => spart s w (by omega)
    have HI : Hid _ := fun w => ipart s w (by omega)
    have hd : decide (1048576 < (s.size : Int)) = false := by simp; omega
    generalize ptV s = r at *
    obtain ⟨x, ok⟩ := r
    go_enter Tryd.func6, Tryd.ntmps6
    go_wp2_with fail
    refine (HS.out _).mono ?_; rintro e w1 ⟨rfl, rfl⟩
    go_wp2_with fail
    refine (HI.out _).mono ?_; rintro e w2 ⟨rfl, hb⟩
    have HB : Hid _ := hb
    clear hb
    go_wp2
    go_ret
    exact ⟨rfl, HB.out⟩
end Go.Proofs.YtfodmjdhpolnkaaDoor
