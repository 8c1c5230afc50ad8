/-
  A mark as a text: what the laws' helper makes of a number; each theorem names its conditions.
-/
import Derived.Test.YtnkmdmmlpidcmaaDoorMkl
import Derived.Lib.SlBytesRow
namespace Go.Proofs.YtnkmdmmlpidcmaaDoor
open Go.ChangeShapes Go.WideShapes Go.ChangeAt Go.RowKit
set_option linter.unusedVariables false

/-- The digits of a number. -/
def digT : Nat → Nat → ByteArray → ByteArray
  | 0, _, s => s
  | f + 1, n, s => if n = 0 then s else digT f (n / 10) ((⟨#[UInt8.ofNat (48 + n % 10)]⟩ : ByteArray) ++ s)
theorem digT_fuel : ∀ (f g n : Nat) (s : ByteArray), n ≤ f → n ≤ g → digT f n s = digT g n s
  | 0, 0, _, _, _, _ => rfl
  | 0, g + 1, n, s, h, _ => by
    have : n = 0 := by omega
    subst this; rfl
  | f + 1, 0, n, s, _, h => by
    have : n = 0 := by omega
    subst this; rfl
  | f + 1, g + 1, n, s, h1, h2 => by
    unfold digT
    by_cases h : n = 0
    · rw [if_pos h, if_pos h]
    · rw [if_neg h, if_neg h]
      exact digT_fuel f g (n / 10) _ (by omega) (by omega)
def markT (n : Nat) : ByteArray := (⟨#[109]⟩ : ByteArray) ++ digT n n ⟨#[]⟩
theorem digT_step (n : Nat) (s : ByteArray) (h : ¬ n = 0) : digT n n s = digT (n / 10) (n / 10) ((⟨#[UInt8.ofNat (48 + n % 10)]⟩ : ByteArray) ++ s) := by
  obtain ⟨f, rfl⟩ : ∃ f, n = f + 1 := ⟨n - 1, by omega⟩
  conv => lhs; unfold digT
  rw [if_neg h]
  exact digT_fuel f _ _ _ (by omega) (Nat.le_refl _)
theorem conv_byte (w : World) (c : UInt8) : (convert 73 9 (.slice (some ⟨w.heap.size, 0, none⟩) 1 1)).run Tryd.prog (w.alloc (.cells #[.int .u8 (c.toNat : Int)] 5)) = .ok (.string ⟨#[c]⟩) (w.alloc (.cells #[.int .u8 (c.toNat : Int)] 5)) := by
  have hu : Tryd.prog.underlying 9 = some .string := Tryd.underlying9
  have h8 : Tryd.prog.underlying 5 = some (.int .u8) := Tryd.underlying5
  refine Lib.run_convert_whole _ _ _ _ Tryd.underlying73 h8 hu w.heap.size 0 ⟨#[c]⟩ ?_ 1
  intro i hi
  have e : i = 0 := by have : (⟨#[c]⟩ : ByteArray).size = 1 := rfl; omega
  subst e
  simp; rfl
set_option maxHeartbeats 1000000 in
set_option maxRecDepth 100000 in
theorem markText_any (w : World) (n : Nat) (h1 : 1 ≤ n) (hn : n ≤ 100000000) : Calls Tryd.prog 30 #[.int .i64 (n : Int)] w fun e w' => e = .returned (.string (markT n)) ∧ Nw w w' := by
  have hpos : ¬ ((n : Int) ≤ 0) := by omega
  go_enter Tryd.func30, Tryd.ntmps30
  go_wp2
  go_loopw [0, 3] (fun x y wr => ∃ (m : Nat) (acc : ByteArray), x = .int .i64 m ∧ y = .string acc ∧ m ≤ n ∧ acc.size + m ≤ n ∧ digT m m acc = digT n n ⟨#[]⟩ ∧ Nw w wr) (fun x _ _ => (intOf x).toNat)
  case atStart => exact ⟨n, ⟨#[]⟩, rfl, rfl, Nat.le_refl _, Nat.le_of_eq (Nat.zero_add _), rfl, Below.refl _ _⟩
  case round =>
    obtain ⟨m, acc, rfl, rfl, hm, hz, hd, hw⟩ := hrel
    by_cases h0 : m = 0
    · subst h0
      have HX : Hid (markT n = (⟨#[109]⟩ : ByteArray) ++ acc) := by show markT n = _; unfold markT; rw [← hd]; rfl
      have HW : Hid (Nw w wr) := hw
      clear hd hw
      have hsz : (⟨#[109]⟩ : ByteArray).size = 1 := rfl
      go_wp2
      go_ret
      exact ⟨by rw [HX.out]; rfl, HW.out⟩
    · have hp : (0 : Int) < (m : Int) := by omega
      have HD : Hid (digT (m / 10) (m / 10) ((⟨#[UInt8.ofNat (48 + m % 10)]⟩ : ByteArray) ++ acc) = digT n n ⟨#[]⟩) := by show _ = _; rw [← digT_step m acc h0]; exact hd
      have HW : Hid (Nw w wr) := hw
      clear hd hw
      have ht : (m : Int).tmod 10 = ((m % 10 : Nat) : Int) := by rw [Int.tmod_eq_emod_of_nonneg (by omega)]; omega
      have hq : (m : Int).tdiv 10 = ((m / 10 : Nat) : Int) := by rw [Int.tdiv_eq_ediv_of_nonneg (by omega)]; omega
      have hcv := conv_byte wr (UInt8.ofNat (48 + m % 10))
      have hcn : (UInt8.ofNat (48 + m % 10)).toNat = 48 + m % 10 := by simp; omega
      rw [hcn, show ((48 + m % 10 : Nat) : Int) = 48 + (m : Int) % 10 by omega] at hcv
      clear hcn
      generalize UInt8.ofNat (48 + m % 10) = ch at *
      have hs1 : (⟨#[ch]⟩ : ByteArray).size = 1 := rfl
      go_wp2
      go_roundw
      case rel => exact ⟨m / 10, _, congrArg (Value.int .i64) (by omega), rfl, by omega, by rw [ByteArray.size_append, hs1]; omega, HD.out, HW.out.trans ((Below.refl _ _).alloc (Nat.le_refl _) _)⟩
      case measure => simp [intOf]; omega
end Go.Proofs.YtnkmdmmlpidcmaaDoor
