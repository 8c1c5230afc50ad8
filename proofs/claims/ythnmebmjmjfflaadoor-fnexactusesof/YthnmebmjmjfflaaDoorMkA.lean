/-
  The first attribute of a name: the program's looks and the specification's; each theorem names its conditions.
-/
import Derived.Test.YthnmebmjmjfflaaDoorMkP
import Derived.Test.YthnmebmjmjfflaaDoorShelf
namespace Go.Proofs.YthnmebmjmjfflaaDoor
open Go.ChangeShapes Go.WideShapes Go.ChangeAt Go.RowKit
set_option linter.unusedVariables false

theorem clone_any (w : World) (s : ByteArray) (hs : s.size ≤ 1048576) : Calls Tryd.prog 67 #[.string s] w fun e w' => e = .returned (.string s) ∧ Nw w w' := by
  go_enter Tryd.func67, Tryd.ntmps67
  go_wp2_with (go_at_call 73; refine (Tryd.stringslite_Clone _ _ (by omega)).mono ?_; rintro e w' ⟨rfl, k1⟩)
  go_ret
  exact ⟨rfl, k1⟩

theorem iattrOf_yes (w : World) (n : ND) (a : Option Addr) (c : Nat) (s : ByteArray) (K : Nat) (hl : n.attrs.length ≤ 1048576) (hv : (pairAt n.attrs K).2.size ≤ 1048576) (hr : Attrs w a n.attrs) (hf : FirstAt n.attrs s K) :
    Calls Tryd.prog 61 #[nodeV n a c, .string s] w fun e w' => e = .returned (.tuple #[.string (pairAt n.attrs K).2, .bool true]) ∧ Nw w w' := by
  obtain ⟨name, up, attrs, text⟩ := n
  unfold nodeV
  simp only at *
  have hK := hf.1
  have H1 : ∀ o1, Hid (Attrs (w.alloc o1) a attrs) := fun o1 => hr.nw ((Below.refl _ _).alloc (Nat.le_refl _) _)
  have HF : Hid (FirstAt attrs s K) := hf
  rcases hr with h | ⟨b, o, rfl, hb, hc⟩
  · rw [h] at hK; simp at hK
  obtain ⟨q0, q1⟩ := hc K hK
  clear hc hf
  go_enter Tryd.func61, Tryd.ntmps61
  go_wp2_with (first | (go_at_call 56; refine (attrPlace_yes _ _ c attrs s K hl (H1 _).out HF.out).mono ?_; rintro e w' ⟨rfl, k1⟩; obtain ⟨hc, hf⟩ := bcell k1; have hb2 : b < w.heap.size + 1 := by omega) | (go_at_call 67; refine (clone_any _ _ hv).mono ?_; rintro e w2 ⟨rfl, k2⟩))
  go_ret2
  exact ⟨rfl, (Below.trans ((Below.refl _ _).alloc (Nat.le_refl _) _) (Below.mono k1 (by simp))).trans (Below.mono k2 (by have := Below.size k1; simp at this; omega))⟩
theorem iattrOf_no (w : World) (n : ND) (a : Option Addr) (c : Nat) (s : ByteArray) (hl : n.attrs.length ≤ 1048576) (hr : Attrs w a n.attrs) (hf : NoneTo n.attrs s n.attrs.length) :
    Calls Tryd.prog 61 #[nodeV n a c, .string s] w fun e w' => e = .returned (.tuple #[.string ⟨#[]⟩, .bool false]) ∧ Nw w w' := by
  obtain ⟨name, up, attrs, text⟩ := n
  unfold nodeV
  simp only at *
  have H1 : ∀ o1, Hid (Attrs (w.alloc o1) a attrs) := fun o1 => hr.nw ((Below.refl _ _).alloc (Nat.le_refl _) _)
  have HF : Hid (NoneTo attrs s attrs.length) := hf
  clear hf hr
  go_enter Tryd.func61, Tryd.ntmps61
  go_wp2_with (go_at_call 56; refine (attrPlace_no _ _ c attrs s hl (H1 _).out HF.out).mono ?_; rintro e w' ⟨rfl, k1⟩; obtain ⟨hc, hf⟩ := bcell k1)
  go_ret2
  exact ⟨rfl, Below.trans ((Below.refl _ _).alloc (Nat.le_refl _) _) (Below.mono k1 (by simp))⟩

theorem sattrOf_yes (w : World) (n : ND) (a : Option Addr) (c : Nat) (s : ByteArray) (K : Nat) (hl : n.attrs.length ≤ 1048576) (hr : Attrs w a n.attrs) (hf : FirstAt n.attrs s K) :
    Calls Tryd.prog 52 #[nodeV n a c, .string s] w fun e w' => e = .returned (.tuple #[.string (pairAt n.attrs K).2, .bool true]) ∧ Nw w w' := by
  obtain ⟨name, up, l, text⟩ := n
  unfold nodeV
  simp only at *
  obtain ⟨hK, hn, he⟩ := hf
  have HR : Hid (Attrs w a l) := hr
  have HN : Hid (NoneTo l s K) := hn
  have HE : Hid ((pairAt l K).1 = s) := he
  clear hr hn he
  go_enter Tryd.func52, Tryd.ntmps52
  go_wp2
  go_loopw [11] (fun i wr => ∃ k : Nat, k ≤ K ∧ i = .int .i64 k ∧ Nw w wr) (fun i _ => l.length - (intOf i).toNat)
  case atStart => exact ⟨0, Nat.zero_le _, rfl, (Below.refl _ _).alloc (Nat.le_refl _) _⟩
  case round =>
    obtain ⟨k, hk, rfl, hw⟩ := hrel
    have hlt : k < l.length := by omega
    rcases (HR.out.nw hw) with h | ⟨b, o, rfl, hb, hc⟩
    · rw [h] at hlt; simp at hlt
    obtain ⟨q0, q1⟩ := hc k hlt
    have HW : Hid (Nw w wr) := hw
    clear hc HR hw
    by_cases e : k = K
    · subst e
      rw [HE.out] at q0
      clear HE HN
      go_wp2
      go_ret2
      exact ⟨rfl, HW.out.trans (((Below.refl _ _).alloc (Nat.le_refl _) _))⟩
    · have hq : ((pairAt l k).1.toList == s.toList) = false := (Lib.bytes_beq_false_iff _ _).2 (HN.out k (by omega))
      generalize (pairAt l k).1 = x at *
      generalize (pairAt l k).2 = y at *
      go_wp2
      go_roundw
      case rel => exact ⟨k + 1, by omega, by go_num, HW.out.trans (((Below.refl _ _).alloc (Nat.le_refl _) _))⟩
      case measure => simp [intOf]; omega
theorem sattrOf_no (w : World) (n : ND) (a : Option Addr) (c : Nat) (s : ByteArray) (hl : n.attrs.length ≤ 1048576) (hr : Attrs w a n.attrs) (hf : NoneTo n.attrs s n.attrs.length) :
    Calls Tryd.prog 52 #[nodeV n a c, .string s] w fun e w' => e = .returned (.tuple #[.string ⟨#[]⟩, .bool false]) ∧ Nw w w' := by
  obtain ⟨name, up, l, text⟩ := n
  unfold nodeV
  simp only at *
  have HR : Hid (Attrs w a l) := hr
  have HN : Hid (NoneTo l s l.length) := hf
  clear hr hf
  go_enter Tryd.func52, Tryd.ntmps52
  go_wp2
  go_loopw [11] (fun i wr => ∃ k : Nat, k ≤ l.length ∧ i = .int .i64 k ∧ Nw w wr) (fun i _ => l.length - (intOf i).toNat)
  case atStart => exact ⟨0, Nat.zero_le _, rfl, (Below.refl _ _).alloc (Nat.le_refl _) _⟩
  case round =>
    obtain ⟨k, hk, rfl, hw⟩ := hrel
    by_cases hlt : k < l.length
    · rcases (HR.out.nw hw) with h | ⟨b, o, rfl, hb, hc⟩
      · rw [h] at hlt; simp at hlt
      obtain ⟨q0, q1⟩ := hc k hlt
      have HW : Hid (Nw w wr) := hw
      clear hc HR hw
      have hq : ((pairAt l k).1.toList == s.toList) = false := (Lib.bytes_beq_false_iff _ _).2 (HN.out k hlt)
      generalize (pairAt l k).1 = x at *
      generalize (pairAt l k).2 = y at *
      go_wp2
      go_roundw
      case rel => exact ⟨k + 1, by omega, by go_num, HW.out.trans (((Below.refl _ _).alloc (Nat.le_refl _) _))⟩
      case measure => simp [intOf]; omega
    · have HW : Hid (Nw w wr) := hw
      clear hw
      go_wp2
      go_ret2
      exact ⟨rfl, HW.out⟩
end Go.Proofs.YthnmebmjmjfflaaDoor
