/-
  Where the first attribute of a name stands; each theorem names its conditions.
-/
import Derived.Test.YtgjnemmkpbkfhaaDoorMk
import Derived.Lib.SlicesS
namespace Go.Proofs.YtgjnemmkpbkfhaaDoor
open Go.ChangeShapes Go.WideShapes Go.ChangeAt Go.RowKit
set_option linter.unusedVariables false

/-- No attribute ahead of k has the name. -/
def NoneTo (l : List Pair) (s : ByteArray) (k : Nat) : Prop := ∀ i, i < k → (pairAt l i).1 ≠ s
theorem NoneTo.step {l : List Pair} {s : ByteArray} {k : Nat} (h : NoneTo l s k) (e : (pairAt l k).1 ≠ s) : NoneTo l s (k + 1) := by
  intro i hi
  by_cases c : i = k
  · subst c; exact e
  · exact h i (by omega)
/-- The place of the first attribute of the name, where there is one. -/
def FirstAt (l : List Pair) (s : ByteArray) (k : Nat) : Prop := k < l.length ∧ NoneTo l s k ∧ (pairAt l k).1 = s
theorem firstAt_or (l : List Pair) (s : ByteArray) : NoneTo l s l.length ∨ ∃ k, FirstAt l s k := by
  have h : ∀ n, n ≤ l.length → NoneTo l s n ∨ ∃ k, FirstAt l s k := by
    intro n
    induction n with
    | zero => intro _; exact Or.inl fun i hi => absurd hi (by omega)
    | succ n ih =>
      intro hn
      rcases ih (by omega) with h | h
      · by_cases e : (pairAt l n).1 = s
        · exact Or.inr ⟨n, by omega, h, e⟩
        · exact Or.inl (h.step e)
      · exact Or.inr h
  exact h _ (Nat.le_refl _)

theorem attrPlace_yes (w : World) (a : Option Addr) (c : Nat) (l : List Pair) (s : ByteArray) (K : Nat) (hl : l.length ≤ 1048576) (hr : Attrs w a l) (hf : FirstAt l s K) :
    Calls Tryd.prog 135 #[.slice a l.length c, .string s] w fun e w' => e = .returned (.int .i64 K) ∧ Nw w w' := by
  obtain ⟨hK, hn, he⟩ := hf
  have HR : Hid (Attrs w a l) := hr
  have HN : Hid (NoneTo l s K) := hn
  have HE : Hid ((pairAt l K).1 = s) := he
  clear hr hn he
  go_enter Tryd.func135, Tryd.ntmps135
  go_wp2
  go_loopw [9] (fun i wr => ∃ k : Nat, k ≤ K ∧ i = .int .i64 k ∧ Nw w wr) (fun i _ => l.length - (intOf i).toNat)
  case atStart => exact ⟨0, Nat.zero_le _, rfl, Below.refl _ _⟩
  case round =>
    obtain ⟨k, hk, rfl, hw⟩ := hrel
    have hlt : k < l.length := by omega
    rcases (HR.out.nw hw) with h | ⟨b, o, rfl, hb, hc⟩
    · rw [h] at hlt; simp at hlt
    obtain ⟨q0, q1⟩ := hc k hlt
    have HW : Hid (Nw w wr) := hw
    clear hc HR hw
    by_cases e : k = K
    · subst e
      rw [HE.out] at q0
      clear HE HN
      go_wp2
      go_ret
      exact ⟨rfl, HW.out.trans (((Below.refl _ _).alloc (Nat.le_refl _) _))⟩
    · have hne := HN.out k (by omega)
      have hq : ((pairAt l k).1.toList == s.toList) = false := (Lib.bytes_beq_false_iff _ _).2 hne
      generalize (pairAt l k).1 = x at *
      generalize (pairAt l k).2 = y at *
      clear hne
      go_wp2
      go_roundw
      case rel => exact ⟨k + 1, by omega, by go_num, HW.out.trans (((Below.refl _ _).alloc (Nat.le_refl _) _))⟩
      case measure => simp [intOf]; omega

theorem attrPlace_no (w : World) (a : Option Addr) (c : Nat) (l : List Pair) (s : ByteArray) (hl : l.length ≤ 1048576) (hr : Attrs w a l) (hf : NoneTo l s l.length) :
    Calls Tryd.prog 135 #[.slice a l.length c, .string s] w fun e w' => e = .returned (.int .i64 (-1)) ∧ Nw w w' := by
  have HR : Hid (Attrs w a l) := hr
  have HN : Hid (NoneTo l s l.length) := hf
  clear hr hf
  go_enter Tryd.func135, Tryd.ntmps135
  go_wp2
  go_loopw [9] (fun i wr => ∃ k : Nat, k ≤ l.length ∧ i = .int .i64 k ∧ Nw w wr) (fun i _ => l.length - (intOf i).toNat)
  case atStart => exact ⟨0, Nat.zero_le _, rfl, Below.refl _ _⟩
  case round =>
    obtain ⟨k, hk, rfl, hw⟩ := hrel
    by_cases hlt : k < l.length
    · rcases (HR.out.nw hw) with h | ⟨b, o, rfl, hb, hc⟩
      · rw [h] at hlt; simp at hlt
      obtain ⟨q0, q1⟩ := hc k hlt
      have HW : Hid (Nw w wr) := hw
      clear hc HR hw
      have hq : ((pairAt l k).1.toList == s.toList) = false := (Lib.bytes_beq_false_iff _ _).2 (HN.out k hlt)
      generalize (pairAt l k).1 = x at *
      generalize (pairAt l k).2 = y at *
      go_wp2
      go_roundw
      case rel => exact ⟨k + 1, by omega, by go_num, HW.out.trans (((Below.refl _ _).alloc (Nat.le_refl _) _))⟩
      case measure => simp [intOf]; omega
    · have HW : Hid (Nw w wr) := hw
      clear hw
      go_wp2
      go_ret
      exact ⟨rfl, HW.out⟩

end Go.Proofs.YtgjnemmkpbkfhaaDoor
