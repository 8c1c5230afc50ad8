/-
  What the program's nextNumber answers; for texts of at most 1048576 bytes that are not empty.
-/
import Derived.Test.YtfodmjdhpolnkaaDoorNuSize
namespace Go.Proofs.YtfodmjdhpolnkaaDoor
open Go.ChangeShapes Go.WideShapes Go.ChangeAt Go.RowKit
set_option linter.unusedVariables false

def dropT (s : ByteArray) : ByteArray := ⟨(dropB s.data.toList).toArray⟩
theorem ileft (s : ByteArray) (w : World) : Calls Tryd.prog 91 #[.string s, .string ⟨#[9, 10, 13, 32]⟩] w fun e w' => e = .returned (.string (dropT s)) ∧ Below w.heap.size w w' :=
  Any.strings_TrimLeft_laid Tryd.lays161 (by kernel_rfl) s ⟨#[9, 10, 13, 32]⟩ w (by decide) (ascii_of_all (by decide))
theorem gapT_size (s : ByteArray) : (gapT s).size ≤ s.size := by
  unfold gapT; rw [Lib.size_mk, Lib.size_eq]; exact gapB_len _
theorem gap_cut (s : ByteArray) (h : Lib.hasPrefix (dropT s).data.toList [44] = true) : dropT ⟨(Lib.trimPrefix (dropT s).data.toList [44]).toArray⟩ = gapT s := by
  have e0 : (dropT s).data.toList = dropB s.data.toList := rfl
  rw [e0] at h ⊢
  unfold Lib.trimPrefix
  rw [if_pos h]
  unfold Lib.hasPrefix at h
  unfold dropT gapT gapB
  match hd : dropB s.data.toList with
  | [] => rw [hd] at h; cases h
  | c :: t =>
    rw [hd] at h
    have hc : c = 44 := by
      simp [List.isPrefixOf] at h
      exact h.symm
    show _ = (⟨(if c = 44 then dropB t else c :: t).toArray⟩ : ByteArray)
    rw [if_pos hc]
    rfl
theorem gap_not (s : ByteArray) (h : Lib.hasPrefix (dropT s).data.toList [44] = false) : dropT s = gapT s := by
  have e0 : (dropT s).data.toList = dropB s.data.toList := rfl
  rw [e0] at h
  unfold Lib.hasPrefix at h
  unfold dropT gapT gapB
  match hd : dropB s.data.toList with
  | [] => rfl
  | c :: t =>
    rw [hd] at h
    have hc : ¬ c = 44 := by
      intro e
      subst e
      simp [List.isPrefixOf] at h
    show _ = (⟨(if c = 44 then dropB t else c :: t).toArray⟩ : ByteArray)
    rw [if_neg hc]
theorem part_val (s : ByteArray) (h : 0 < s.size) : partB s.data.toList = (decide ((gapT s).size < s.size) || isS s[0]) := by
  obtain ⟨c, e, _⟩ := drop_head s 0 h
  rw [List.drop_zero] at e
  have hc : s[0] = c := at_of s 0 c (by rw [e]; rfl) h
  unfold partB gapT
  rw [Lib.size_mk, Lib.size_eq, hc]
  congr 1
  rw [e]
  rfl
set_option maxHeartbeats 1000000 in
theorem inext (s : ByteArray) (w : World) (h0 : 0 < s.size) (hs : s.size ≤ 1048576) : Calls Tryd.prog 62 #[.string s] w fun e w' => e = .returned (.tuple #[.string (gapT s), .bool (partB s.data.toList)]) ∧ Below w.heap.size w w' := by
  have HL : Hid _ := fun w => ileft s w
  have HC : Hid _ := fun w => Tryd.strings_CutPrefix (dropT s) ⟨#[44]⟩ w
  have HL2 : Hid _ := fun w => ileft ⟨(Lib.trimPrefix (dropT s).data.toList [44]).toArray⟩ w
  have HG1 : Hid _ := gap_cut s
  have HG2 : Hid _ := gap_not s
  have HV : Hid _ := part_val s h0
  have hgs := gapT_size s
  have e44 : (⟨#[44]⟩ : ByteArray).data.toList = [44] := rfl
  rw [e44] at HC
  clear e44
  cases hp : Lib.hasPrefix (dropT s).data.toList [44] with
  | true =>
    rw [hp] at HC
    have e1 := HG1.out hp
    rw [e1] at HL2
    clear HG1 HG2 hp e1
    generalize (⟨(Lib.trimPrefix (dropT s).data.toList [44]).toArray⟩ : ByteArray) = b at *
    generalize dropT s = d at *
    generalize gapT s = g at *
    by_cases hlt : g.size < s.size
    · have HV2 : Hid (partB s.data.toList = true) := by show _ = _; rw [HV.out, decide_eq_true hlt]; rfl
      clear HV
      go_enter Tryd.func62, Tryd.ntmps62
      go_wp2_with fail
      refine (HL.out _).mono ?_; rintro e w1 ⟨rfl, b1⟩
      have B1 : Hid _ := b1
      clear b1
      go_wp2_with fail
      refine (HC.out _).mono ?_; rintro e w2 ⟨rfl, rfl⟩
      go_wp2_with fail
      refine (HL2.out _).mono ?_; rintro e w3 ⟨rfl, b2⟩
      have B2 : Hid _ := b2
      clear b2
      go_wp2
      go_ret2
      exact ⟨by rw [HV2.out]; rfl, Below.trans B1.out (Below.mono B2.out (Below.size B1.out))⟩
    · have hd : decide ((g.size : Int) < (s.size : Int)) = false := by simp; omega
      have HV2 : Hid (partB s.data.toList = isS s[0]) := by show _ = _; rw [HV.out, decide_eq_false hlt]; rfl
      clear HV
      go_enter Tryd.func62, Tryd.ntmps62
      go_wp2_with fail
      refine (HL.out _).mono ?_; rintro e w1 ⟨rfl, b1⟩
      have B1 : Hid _ := b1
      clear b1
      go_wp2_with fail
      refine (HC.out _).mono ?_; rintro e w2 ⟨rfl, rfl⟩
      go_wp2_with fail
      refine (HL2.out _).mono ?_; rintro e w3 ⟨rfl, b2⟩
      have B2 : Hid _ := b2
      clear b2
      go_wp2_with fail
      refine (isgn s[0] _).mono ?_; rintro e w4 ⟨rfl, rfl⟩
      go_wp2
      go_ret2
      exact ⟨by rw [HV2.out]; rfl, Below.trans B1.out (Below.mono B2.out (Below.size B1.out))⟩
  | false =>
    rw [hp] at HC
    have e1 := HG2.out hp
    rw [e1] at HL HC
    clear HG1 HG2 hp e1 HL2
    generalize (⟨(Lib.trimPrefix (gapT s).data.toList [44]).toArray⟩ : ByteArray) = b at *
    generalize gapT s = g at *
    by_cases hlt : g.size < s.size
    · have HV2 : Hid (partB s.data.toList = true) := by show _ = _; rw [HV.out, decide_eq_true hlt]; rfl
      clear HV
      go_enter Tryd.func62, Tryd.ntmps62
      go_wp2_with fail
      refine (HL.out _).mono ?_; rintro e w1 ⟨rfl, b1⟩
      have B1 : Hid _ := b1
      clear b1
      go_wp2_with fail
      refine (HC.out _).mono ?_; rintro e w2 ⟨rfl, rfl⟩
      go_wp2
      go_ret2
      exact ⟨by rw [HV2.out]; rfl, B1.out⟩
    · have hd : decide ((g.size : Int) < (s.size : Int)) = false := by simp; omega
      have HV2 : Hid (partB s.data.toList = isS s[0]) := by show _ = _; rw [HV.out, decide_eq_false hlt]; rfl
      clear HV
      go_enter Tryd.func62, Tryd.ntmps62
      go_wp2_with fail
      refine (HL.out _).mono ?_; rintro e w1 ⟨rfl, b1⟩
      have B1 : Hid _ := b1
      clear b1
      go_wp2_with fail
      refine (HC.out _).mono ?_; rintro e w2 ⟨rfl, rfl⟩
      go_wp2_with fail
      refine (isgn s[0] _).mono ?_; rintro e w4 ⟨rfl, rfl⟩
      go_wp2
      go_ret2
      exact ⟨by rw [HV2.out]; rfl, B1.out⟩
end Go.Proofs.YtfodmjdhpolnkaaDoor
