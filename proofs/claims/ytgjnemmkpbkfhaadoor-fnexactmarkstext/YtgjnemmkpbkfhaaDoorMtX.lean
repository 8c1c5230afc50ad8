/-
  The writer of marks, the program's: entities, ends and beginnings; each theorem names its conditions.
-/
import Derived.Test.YtgjnemmkpbkfhaaDoorMtW
import Derived.Test.YtgjnemmkpbkfhaaDoorMtP
import Derived.Test.YtgjnemmkpbkfhaaDoorMkGood
namespace Go.Proofs.YtgjnemmkpbkfhaaDoor
open Go.ChangeShapes Go.WideShapes Go.ChangeAt Go.RowKit
set_option linter.unusedVariables false

theorem one_ne {b c : UInt8} (h : ¬ b = c) : ((⟨#[b]⟩ : ByteArray).toList == [c]) = false := by
  rw [beq_eq_false_iff_ne, ByteArray.toList_eq]
  intro e
  exact h (by simpa using e)
set_option maxHeartbeats 2000000 in
theorem ientity (w : World) (b : UInt8) : Calls Tryd.prog 87 #[.string ⟨#[b]⟩] w fun e w' => e = .returned (.string (entB b)) ∧ w' = w := by
  by_cases c38 : b = 38
  · subst c38
    go_enter Tryd.func87, Tryd.ntmps87
    go_wp2
    go_ret
    exact ⟨rfl, rfl⟩
  have d38 : ((⟨#[b]⟩ : ByteArray).toList == [38]) = false := one_ne c38
  by_cases c60 : b = 60
  · subst c60
    go_enter Tryd.func87, Tryd.ntmps87
    go_wp2
    go_ret
    exact ⟨rfl, rfl⟩
  have d60 : ((⟨#[b]⟩ : ByteArray).toList == [60]) = false := one_ne c60
  by_cases c62 : b = 62
  · subst c62
    go_enter Tryd.func87, Tryd.ntmps87
    go_wp2
    go_ret
    exact ⟨rfl, rfl⟩
  have d62 : ((⟨#[b]⟩ : ByteArray).toList == [62]) = false := one_ne c62
  by_cases c34 : b = 34
  · subst c34
    go_enter Tryd.func87, Tryd.ntmps87
    go_wp2
    go_ret
    exact ⟨rfl, rfl⟩
  have d34 : ((⟨#[b]⟩ : ByteArray).toList == [34]) = false := one_ne c34
  by_cases c9 : b = 9
  · subst c9
    go_enter Tryd.func87, Tryd.ntmps87
    go_wp2
    go_ret
    exact ⟨rfl, rfl⟩
  have d9 : ((⟨#[b]⟩ : ByteArray).toList == [9]) = false := one_ne c9
  by_cases c10 : b = 10
  · subst c10
    go_enter Tryd.func87, Tryd.ntmps87
    go_wp2
    go_ret
    exact ⟨rfl, rfl⟩
  have d10 : ((⟨#[b]⟩ : ByteArray).toList == [10]) = false := one_ne c10
  by_cases c13 : b = 13
  · subst c13
    go_enter Tryd.func87, Tryd.ntmps87
    go_wp2
    go_ret
    exact ⟨rfl, rfl⟩
  have d13 : ((⟨#[b]⟩ : ByteArray).toList == [13]) = false := one_ne c13
  have HE : Hid (entB b = ⟨#[b]⟩) := by show _ = _; unfold entB; rw [if_neg c38, if_neg c60, if_neg c62, if_neg c34, if_neg c9, if_neg c10, if_neg c13]
  clear c38 c60 c62 c34 c9 c10 c13
  generalize hX : (⟨#[b]⟩ : ByteArray) = X at *
  go_enter Tryd.func87, Tryd.ntmps87
  go_wp2
  go_ret
  exact ⟨by rw [HE.out]; rfl, rfl⟩
theorem catN_one (s : ByteArray) : catN [s] 1 = s := by show ByteArray.empty ++ s = s; exact ByteArray.empty_append
set_option maxHeartbeats 2000000 in
set_option maxRecDepth 100000 in
theorem iescaped (w : World) (b : Nat) (nv vo vt : Value) (st : List Int) (o s : ByteArray) (h : Wr w b nv vo vt st o) (hs : s.size ≤ 1048576) (hsz : o.size + (told s).size ≤ 9000000) :
    Calls Tryd.prog 42 #[.pointer (some ⟨b, 0, none⟩), .string s] w fun e w' => e = .returned (.tuple #[]) ∧ ∃ vt', Wr w' b nv vo vt' st (o ++ told s) ∧ Tch b vt vt' w w' := by
  have H0 : Hid (Wr w b nv vo vt st o) := h
  clear h
  go_enter Tryd.func42, Tryd.ntmps42
  go_wp2
  go_loopw [4] (fun i wr => ∃ (n : Nat) (vt' : Value), n ≤ s.size ∧ i = .int .i64 n ∧ Wr wr b nv vo vt' st (o ++ toldN s n) ∧ Tch b vt vt' w wr) (fun i _ => s.size - (intOf i).toNat)
  case atStart => exact ⟨0, vt, Nat.zero_le _, rfl, by show Wr w b nv vo vt st (o ++ ByteArray.empty); rw [ByteArray.append_empty]; exact H0.out, Tch.refl _ _ _⟩
  case round =>
    obtain ⟨n, v1, hle, rfl, hwr, hbw⟩ := hrel
    have HW : Hid (Wr wr b nv vo v1 st (o ++ toldN s n)) := hwr
    have HB : Hid (Tch b vt v1 w wr) := hbw
    clear hwr hbw
    by_cases hlt : n < s.size
    · have ho := one_of s n hlt
      have hle2 : (toldN s (n + 1)).size ≤ (told s).size := by
        have : ∀ d, (toldN s (n + 1)).size ≤ (toldN s (n + 1 + d)).size := by
          intro d
          induction d with
          | zero => exact Nat.le_refl _
          | succ d ih => rw [← Nat.add_assoc]; show _ ≤ (toldN s (n + 1 + d) ++ entB (byteAt s (n + 1 + d))).size; rw [ByteArray.size_append]; omega
        have h2 := this (s.size - (n + 1))
        rwa [show n + 1 + (s.size - (n + 1)) = s.size by omega] at h2
      have hTN : toldN s (n + 1) = toldN s n ++ entB s[n] := by rw [toldN, entB_at s n hlt]
      have hs2 : (o ++ toldN s n).size + (catN [entB s[n]] 1).size ≤ 9000000 := by
        rw [catN_one, ByteArray.size_append]
        rw [hTN, ByteArray.size_append] at hle2
        omega
      have HTN : Hid (o ++ toldN s (n + 1) = (o ++ toldN s n) ++ entB s[n]) := by show _ = _; rw [hTN, ByteArray.append_assoc]
      clear hTN hle2
      generalize hb : s[n] = bt at *
      generalize o ++ toldN s n = T at *
      have HC : Hid (Calls Tryd.prog 86 #[.pointer (some ⟨b, 0, none⟩), .slice (some ⟨wr.heap.size, 0, none⟩) 1 1] (wr.alloc (.cells #[.string (entB bt)] 9)) fun e w' => e = .returned (.tuple #[]) ∧ ∃ vt', Wr w' b nv vo vt' st (T ++ catN [entB bt] 1) ∧ Tch b v1 vt' (wr.alloc (.cells #[.string (entB bt)] 9)) w') := by
        refine iwrite _ b nv vo v1 st T wr.heap.size 1 [entB bt] (HW.out.nw ((Below.refl _ _).alloc (Nat.le_refl _) _)) ⟨by simp, fun i hi => ?_⟩ (by have := HW.out.lt; omega) (fun e => by have := HW.out.vt_lt _ e; omega) (by simp) hs2
        have : i = 0 := by simp at hi; omega
        subst this
        simp [strAt]
      rw [catN_one] at HC
      have HA : Hid (Nw wr (wr.alloc (.cells #[.string (entB bt)] 9))) := (Below.refl _ _).alloc (Nat.le_refl _) _
      clear hs2
      go_wp2_with (first | (go_at_call 87; refine Calls.mono (ientity _ _) ?_; rintro e w9 ⟨rfl, hq⟩; have hq2 := hq.symm; clear hq; subst hq2) | (go_at_call 86; refine Calls.mono HC.out ?_; rintro e w1 ⟨rfl, v2, hw2, k1⟩))
      go_roundw
      case rel => exact ⟨n + 1, v2, by omega, by go_num, by rw [HTN.out]; exact hw2, HB.out.trans (HA.out.tch k1 HW.out.lt)⟩
      case measure => simp [intOf]; omega
    · have e : n = s.size := by omega
      subst e
      go_wp2
      go_end0
      exact ⟨rfl, v1, HW.out, HB.out⟩
end Go.Proofs.YtgjnemmkpbkfhaaDoor
