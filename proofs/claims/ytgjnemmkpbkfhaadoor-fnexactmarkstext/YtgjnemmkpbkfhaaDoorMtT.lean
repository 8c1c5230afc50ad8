/-
  A text as it is told with its entities: the specification's loop and the program's table; each theorem names its conditions.
-/
import Derived.Test.YtgjnemmkpbkfhaaDoorMtE
import Derived.Test.YtgjnemmkpbkfhaaDoorMarkT
import Derived.Test.YtgjnemmkpbkfhaaDoorLet
import Derived.Deep.RegionWith
namespace Go.Proofs.YtgjnemmkpbkfhaaDoor
open Go.ChangeShapes Go.WideShapes Go.ChangeAt Go.RowKit
set_option linter.unusedVariables false

theorem byteAt_of (s : ByteArray) (i : Nat) (h : i < s.size) : byteAt s i = s[i] := by
  unfold byteAt
  have h1 : i < s.data.toList.length := by simpa using h
  rw [List.getD_eq_getElem?_getD, List.getElem?_eq_getElem h1]
  rfl
theorem one_of (s : ByteArray) (i : Nat) (h : i < s.size) : s.extract i (i + 1) = ⟨#[s[i]]⟩ := by
  apply ByteArray.ext
  apply Array.toList_inj.1
  rw [ByteArray.data_extract, Array.toList_extract]
  have h1 : i < s.data.toList.length := by simpa using h
  rw [List.extract_eq_take_drop, show i + 1 - i = 1 by omega, List.drop_eq_getElem_cons h1]
  rfl
theorem entB_at (s : ByteArray) (i : Nat) (h : i < s.size) : entB (byteAt s i) = entB s[i] := by rw [byteAt_of s i h]
theorem conv_at (c : UInt8) (W : World) (g : Nat) (h : W.cell? ⟨g, 0, none⟩ = some (.int .u8 (c.toNat : Int))) : (convert 66 9 (.slice (some ⟨g, 0, none⟩) 1 1)).run Tryd.prog W = .ok (.string ⟨#[c]⟩) W := by
  have hu : Tryd.prog.underlying 9 = some .string := Tryd.underlying9
  have h8 : Tryd.prog.underlying 5 = some (.int .u8) := Tryd.underlying5
  refine Lib.run_convert_whole _ _ _ _ Tryd.underlying66 h8 hu g 0 ⟨#[c]⟩ ?_ 1
  intro i hi
  have e : i = 0 := by have : (⟨#[c]⟩ : ByteArray).size = 1 := rfl; omega
  subst e
  simp
  exact h
/-- Some numbers as texts. -/
theorem num_9 (w : World) : Calls Tryd.prog 131 #[.int .i64 9] w fun e w' => e = .returned (.string ⟨#[57]⟩) ∧ Nw w w' := by
  have hcv : (convert 66 9 (.slice (some ⟨w.heap.size, 0, none⟩) 1 1)).run Tryd.prog (w.alloc (.cells #[.int .u8 57] 5)) = .ok (.string ⟨#[57]⟩) (w.alloc (.cells #[.int .u8 57] 5)) := conv_byte w 57
  go_enter Tryd.func131, Tryd.ntmps131
  go_wp2
  go_ret
  exact ⟨rfl, (Below.refl _ _).alloc (Nat.le_refl _) _⟩
theorem num_1 (w : World) : Calls Tryd.prog 131 #[.int .i64 1] w fun e w' => e = .returned (.string ⟨#[49]⟩) ∧ w' = w.alloc (.cells #[.int .u8 49] 5) := by
  have hcv : (convert 66 9 (.slice (some ⟨w.heap.size, 0, none⟩) 1 1)).run Tryd.prog (w.alloc (.cells #[.int .u8 49] 5)) = .ok (.string ⟨#[49]⟩) (w.alloc (.cells #[.int .u8 49] 5)) := conv_byte w 49
  go_enter Tryd.func131, Tryd.ntmps131
  go_wp2
  go_ret
  exact ⟨rfl, rfl⟩
set_option maxHeartbeats 1000000 in
set_option maxRecDepth 100000 in
theorem num_10 (w : World) : Calls Tryd.prog 131 #[.int .i64 10] w fun e w' => e = .returned (.string ⟨#[49, 48]⟩) ∧ Nw w w' := by
  have f1 : (convert 66 9 (.slice (some ⟨w.heap.size + 1, 0, none⟩) 1 1)).run Tryd.prog (((w.alloc (.cells #[.int .u8 49] 5)).alloc (.cells #[.int .u8 48] 5)).drew) = .ok (.string ⟨#[48]⟩) (((w.alloc (.cells #[.int .u8 49] 5)).alloc (.cells #[.int .u8 48] 5)).drew) := conv_at 48 _ _ (by simp)
  have f2 : (convert 66 9 (.slice (some ⟨w.heap.size, 0, none⟩) 1 1)).run Tryd.prog (((w.alloc (.cells #[.int .u8 48] 5)).alloc (.cells #[.int .u8 49] 5)).drew) = .ok (.string ⟨#[48]⟩) (((w.alloc (.cells #[.int .u8 48] 5)).alloc (.cells #[.int .u8 49] 5)).drew) := conv_at 48 _ _ (by simp)
  have f3 : (convert 66 9 (.slice (some ⟨w.heap.size, 0, none⟩) 1 1)).run Tryd.prog ((w.alloc (.cells #[.int .u8 48] 5)).drew) = .ok (.string ⟨#[48]⟩) ((w.alloc (.cells #[.int .u8 48] 5)).drew) := conv_at 48 _ _ (by simp)
  have hw1 : IntKind.i64.wrap 48 = 48 := by decide
  have hw2 : IntKind.u8.wrap 48 = 48 := by decide
  have hw3 : IntKind.i64.wrap 1 = 1 := by decide
  have hs1 : (⟨#[49]⟩ : ByteArray).size = 1 := rfl
  have hs2 : (⟨#[48]⟩ : ByteArray).size = 1 := rfl
  go_enter Tryd.func131, Tryd.ntmps131
  go_wp2
  go_region_with (go_at_call 131; refine Calls.mono (num_1 _) ?_; rintro e w1 ⟨rfl, rfl⟩)
  all_goals
    go_wp2
    go_ret
    exact ⟨by first | rfl | kernel_rfl, (((Below.refl _ _).alloc (Nat.le_refl _) _).alloc (by simp) _).drew⟩
set_option maxHeartbeats 1000000 in
set_option maxRecDepth 100000 in
theorem num_13 (w : World) : Calls Tryd.prog 131 #[.int .i64 13] w fun e w' => e = .returned (.string ⟨#[49, 51]⟩) ∧ Nw w w' := by
  have f1 : (convert 66 9 (.slice (some ⟨w.heap.size + 1, 0, none⟩) 1 1)).run Tryd.prog (((w.alloc (.cells #[.int .u8 49] 5)).alloc (.cells #[.int .u8 51] 5)).drew) = .ok (.string ⟨#[51]⟩) (((w.alloc (.cells #[.int .u8 49] 5)).alloc (.cells #[.int .u8 51] 5)).drew) := conv_at 51 _ _ (by simp)
  have f2 : (convert 66 9 (.slice (some ⟨w.heap.size, 0, none⟩) 1 1)).run Tryd.prog (((w.alloc (.cells #[.int .u8 51] 5)).alloc (.cells #[.int .u8 49] 5)).drew) = .ok (.string ⟨#[51]⟩) (((w.alloc (.cells #[.int .u8 51] 5)).alloc (.cells #[.int .u8 49] 5)).drew) := conv_at 51 _ _ (by simp)
  have f3 : (convert 66 9 (.slice (some ⟨w.heap.size, 0, none⟩) 1 1)).run Tryd.prog ((w.alloc (.cells #[.int .u8 51] 5)).drew) = .ok (.string ⟨#[51]⟩) ((w.alloc (.cells #[.int .u8 51] 5)).drew) := conv_at 51 _ _ (by simp)
  have hw1 : IntKind.i64.wrap 51 = 51 := by decide
  have hw2 : IntKind.u8.wrap 51 = 51 := by decide
  have hw3 : IntKind.i64.wrap 1 = 1 := by decide
  have hs1 : (⟨#[49]⟩ : ByteArray).size = 1 := rfl
  have hs2 : (⟨#[51]⟩ : ByteArray).size = 1 := rfl
  go_enter Tryd.func131, Tryd.ntmps131
  go_wp2
  go_region_with (go_at_call 131; refine Calls.mono (num_1 _) ?_; rintro e w1 ⟨rfl, rfl⟩)
  all_goals
    go_wp2
    go_ret
    exact ⟨by first | rfl | kernel_rfl, (((Below.refl _ _).alloc (Nat.le_refl _) _).alloc (by simp) _).drew⟩
theorem ne_byte {b c : UInt8} (h : ¬ b = c) : ((b.toNat : Int) == (c.toNat : Int)) = false := beq_eq_false_iff_ne.2 fun e => h (UInt8.toNat_inj.1 (by omega))
set_option maxHeartbeats 4000000 in
theorem stold (w : World) (s : ByteArray) (hs : s.size ≤ 1048576) :
    Calls Tryd.prog 81 #[.string s] w fun e w' => e = .returned (.string (told s)) ∧ Nw w w' := by
  go_enter Tryd.func81, Tryd.ntmps81
  go_wp2
  go_loopw [3, 4] (fun x i wr => ∃ n : Nat, n ≤ s.size ∧ i = .int .i64 n ∧ x = .string (toldN s n) ∧ Nw w wr) (fun _ i _ => s.size - (intOf i).toNat)
  case atStart => exact ⟨0, Nat.zero_le _, rfl, rfl, Below.refl _ _⟩
  case round =>
    obtain ⟨n, hn, rfl, rfl, hw⟩ := hrel
    have HW : Hid (Nw w wr) := hw
    clear hw
    by_cases hlt : n < s.size
    · have hz := (toldN_size s n).2
      have HT : Hid (toldN s (n + 1) = toldN s n ++ entB s[n]) := by show _ = _; rw [toldN, entB_at s n hlt]
      have ho := one_of s n hlt
      have hz2 : (toldN s n).size ≤ 10000000 := by omega
      have hx := entB s[n]
      have HD : Hid (s[n] = s[n]) := rfl
      generalize hb : s[n] = b at *
      generalize toldN s n = t at *
      clear hz hx HD
      by_cases c38 : b = 38
      · subst c38
        go_wp2
        go_roundw
        case rel => exact ⟨n + 1, by omega, by go_num, by rw [HT.out]; rfl, HW.out⟩
        case measure => simp [intOf]; omega
      have d38 : ((b.toNat : Int) == 38) = false := ne_byte c38
      by_cases c60 : b = 60
      · subst c60
        go_wp2
        go_roundw
        case rel => exact ⟨n + 1, by omega, by go_num, by rw [HT.out]; rfl, HW.out⟩
        case measure => simp [intOf]; omega
      have d60 : ((b.toNat : Int) == 60) = false := ne_byte c60
      by_cases c62 : b = 62
      · subst c62
        go_wp2
        go_roundw
        case rel => exact ⟨n + 1, by omega, by go_num, by rw [HT.out]; rfl, HW.out⟩
        case measure => simp [intOf]; omega
      have d62 : ((b.toNat : Int) == 62) = false := ne_byte c62
      by_cases c34 : b = 34
      · subst c34
        go_wp2
        go_roundw
        case rel => exact ⟨n + 1, by omega, by go_num, by rw [HT.out]; rfl, HW.out⟩
        case measure => simp [intOf]; omega
      have d34 : ((b.toNat : Int) == 34) = false := ne_byte c34
      by_cases c9 : b = 9
      · subst c9
        have hcc : ((9 : UInt8).toNat : Int) = 9 := rfl
        have hn1 : (⟨#[57]⟩ : ByteArray).size = 1 := rfl
        have HN : ∀ W, Hid (Calls Tryd.prog 131 #[.int .i64 9] W fun e w' => e = .returned (.string ⟨#[57]⟩) ∧ Nw W w') := fun W => num_9 W
        go_wp2_with (go_at_call 131; refine Calls.mono (HN _).out ?_; rintro e w1 ⟨rfl, k1⟩)
        go_roundw
        case rel => exact ⟨n + 1, by omega, by go_num, by rw [HT.out]; rfl, HW.out.trans k1⟩
        case measure => simp [intOf]; omega
      have d9 : ((b.toNat : Int) == 9) = false := ne_byte c9
      by_cases c10 : b = 10
      · subst c10
        have hcc : ((10 : UInt8).toNat : Int) = 10 := rfl
        have hn1 : (⟨#[49, 48]⟩ : ByteArray).size = 2 := rfl
        have HN : ∀ W, Hid (Calls Tryd.prog 131 #[.int .i64 10] W fun e w' => e = .returned (.string ⟨#[49, 48]⟩) ∧ Nw W w') := fun W => num_10 W
        go_wp2_with (go_at_call 131; refine Calls.mono (HN _).out ?_; rintro e w1 ⟨rfl, k1⟩)
        go_roundw
        case rel => exact ⟨n + 1, by omega, by go_num, by rw [HT.out]; rfl, HW.out.trans k1⟩
        case measure => simp [intOf]; omega
      have d10 : ((b.toNat : Int) == 10) = false := ne_byte c10
      by_cases c13 : b = 13
      · subst c13
        have hcc : ((13 : UInt8).toNat : Int) = 13 := rfl
        have hn1 : (⟨#[49, 51]⟩ : ByteArray).size = 2 := rfl
        have HN : ∀ W, Hid (Calls Tryd.prog 131 #[.int .i64 13] W fun e w' => e = .returned (.string ⟨#[49, 51]⟩) ∧ Nw W w') := fun W => num_13 W
        go_wp2_with (go_at_call 131; refine Calls.mono (HN _).out ?_; rintro e w1 ⟨rfl, k1⟩)
        go_roundw
        case rel => exact ⟨n + 1, by omega, by go_num, by rw [HT.out]; rfl, HW.out.trans k1⟩
        case measure => simp [intOf]; omega
      have d13 : ((b.toNat : Int) == 13) = false := ne_byte c13
      have HE : Hid (entB b = ⟨#[b]⟩) := by show _ = _; unfold entB; rw [if_neg c38, if_neg c60, if_neg c62, if_neg c34, if_neg c9, if_neg c10, if_neg c13]
      have hs1 : (⟨#[b]⟩ : ByteArray).size = 1 := rfl
      clear c38 c60 c62 c34 c9 c10 c13
      go_wp2
      go_roundw
      case rel => exact ⟨n + 1, by omega, by go_num, by rw [HT.out, HE.out], HW.out⟩
      case measure => simp [intOf]; omega
    · have e : n = s.size := by omega
      subst e
      go_wp2
      go_ret
      exact ⟨rfl, HW.out⟩
end Go.Proofs.YtgjnemmkpbkfhaaDoor
