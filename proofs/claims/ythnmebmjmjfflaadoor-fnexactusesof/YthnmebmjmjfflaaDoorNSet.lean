/-
  Sets of nodes as bits, the program's; each theorem names its conditions.
-/
import Derived.Test.YthnmebmjmjfflaaDoorTg
namespace Go.Proofs.YthnmebmjmjfflaaDoor
open Go.ChangeShapes Go.WideShapes Go.ChangeAt Go.RowKit
set_option linter.unusedVariables false

theorem or64 (a b : Nat) (ha : a < 2^64) (hb : b < 2^64) : Go.bits .or .u64 (a : Int) (b : Int) = ((a ||| b : Nat) : Int) := by
  have h3 : a ||| b < 2^64 := Nat.or_lt_two_pow ha hb
  have ea : (BitVec.ofInt IntKind.u64.bits (a : Int)) = BitVec.ofNat 64 a := by rw [BitVec.ofInt_natCast]; rfl
  have eb : (BitVec.ofInt IntKind.u64.bits (b : Int)) = BitVec.ofNat 64 b := by rw [BitVec.ofInt_natCast]; rfl
  have h : (BitVec.ofNat 64 a ||| BitVec.ofNat 64 b).toNat = a ||| b := by
    rw [BitVec.toNat_or, BitVec.toNat_ofNat, BitVec.toNat_ofNat, Nat.mod_eq_of_lt ha, Nat.mod_eq_of_lt hb]
  show IntKind.u64.wrap (((BitVec.ofInt IntKind.u64.bits (a : Int)) ||| (BitVec.ofInt IntKind.u64.bits (b : Int))).toNat : Int) = _
  rw [ea, eb]
  show IntKind.u64.wrap (((BitVec.ofNat 64 a) ||| (BitVec.ofNat 64 b)).toNat : Int) = _
  rw [h]
  unfold IntKind.wrap
  simp [IntKind.bits, IntKind.signed]
  omega
theorem and1 (a : Nat) (ha : a < 2^64) : Go.bits .and .u64 (a : Int) 1 = ((a % 2 : Nat) : Int) := by
  have ea : (BitVec.ofInt IntKind.u64.bits (a : Int)) = BitVec.ofNat 64 a := by rw [BitVec.ofInt_natCast]; rfl
  have h : (BitVec.ofNat 64 a &&& BitVec.ofNat 64 1).toNat = a % 2 := by
    rw [BitVec.toNat_and, BitVec.toNat_ofNat, BitVec.toNat_ofNat, Nat.mod_eq_of_lt ha]
    exact Nat.and_one_is_mod a
  show IntKind.u64.wrap (((BitVec.ofInt IntKind.u64.bits (a : Int)) &&& (BitVec.ofInt IntKind.u64.bits ((1 : Nat) : Int))).toNat : Int) = _
  rw [ea]
  show IntKind.u64.wrap (((BitVec.ofNat 64 a) &&& (BitVec.ofNat 64 1)).toNat : Int) = _
  rw [h]
  unfold IntKind.wrap
  simp [IntKind.bits, IntKind.signed]
  omega
theorem has64 (s k : Nat) (hs : s < 2^64) : (Go.bits .and .u64 ((s : Int) / 2 ^ k) 1 == 1) = s.testBit k := by
  have e : ((s : Int) / 2 ^ k) = ((s / 2 ^ k : Nat) : Int) := by simp
  have hlt : s / 2 ^ k < 2 ^ 64 := Nat.lt_of_le_of_lt (Nat.div_le_self _ _) hs
  rw [e, and1 _ hlt, Nat.testBit_eq_decide_div_mod_eq]
  rw [Bool.eq_iff_iff]
  simp
  omega
theorem wrap2 (k : Nat) (hk : k < 64) : IntKind.u64.wrap (2 ^ k : Int) = ((2 ^ k : Nat) : Int) := by
  have h : 2 ^ k < 2 ^ 64 := Nat.pow_lt_pow_right (by omega) hk
  have e : (2 ^ k : Int) = ((2 ^ k : Nat) : Int) := by simp
  rw [e]
  generalize 2 ^ k = x at *
  unfold IntKind.wrap
  simp [IntKind.bits, IntKind.signed]
  omega
theorem isetHas (w : World) (s k : Nat) (hs : s < 2 ^ 64) (hk : k < 64) :
    Calls Tryd.prog 24 #[.int .u64 s, .int .i64 k] w fun e w' => e = .returned (.bool (s.testBit k)) ∧ w' = w := by
  have HH : Hid (_ = _) := has64 s k hs
  clear hs
  go_enter Tryd.func24, Tryd.ntmps24
  go_wp2
  go_ret
  exact ⟨ret_bool HH.out, rfl⟩
theorem isetWith (w : World) (s k : Nat) (hs : s < 2 ^ 64) (hk : k < 64) :
    Calls Tryd.prog 45 #[.int .u64 s, .int .i64 k] w fun e w' => e = .returned (.int .u64 ((s ||| 2 ^ k : Nat) : Int)) ∧ w' = w := by
  have HH : Hid (Go.bits .or .u64 (s : Int) (IntKind.u64.wrap (2 ^ k)) = ((s ||| 2 ^ k : Nat) : Int)) := by
    show _ = _
    rw [wrap2 k hk, or64 s (2 ^ k) hs (Nat.pow_lt_pow_right (by omega) hk)]
  clear hs
  go_enter Tryd.func45, Tryd.ntmps45
  go_wp2
  go_ret
  exact ⟨by rw [← HH.out]; rfl, rfl⟩
end Go.Proofs.YthnmebmjmjfflaaDoor
