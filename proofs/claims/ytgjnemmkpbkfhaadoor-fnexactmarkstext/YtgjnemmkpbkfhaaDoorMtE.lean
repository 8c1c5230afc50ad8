/-
  A text told with its entities; each theorem names its conditions.
-/
import Derived.Test.YtgjnemmkpbkfhaaDoorMkl
namespace Go.Proofs.YtgjnemmkpbkfhaaDoor
open Go.ChangeShapes Go.WideShapes Go.ChangeAt Go.RowKit
set_option linter.unusedVariables false

/-- What is written for one byte. -/
def entB (b : UInt8) : ByteArray :=
  if b = 38 then ⟨#[38, 97, 109, 112, 59]⟩ else if b = 60 then ⟨#[38, 108, 116, 59]⟩ else if b = 62 then ⟨#[38, 103, 116, 59]⟩ else if b = 34 then ⟨#[38, 113, 117, 111, 116, 59]⟩
  else if b = 9 then ⟨#[38, 35, 57, 59]⟩ else if b = 10 then ⟨#[38, 35, 49, 48, 59]⟩ else if b = 13 then ⟨#[38, 35, 49, 51, 59]⟩ else ⟨#[b]⟩
def byteAt (s : ByteArray) (i : Nat) : UInt8 := s.data.toList.getD i 0
/-- The first n bytes of a text as they are told. -/
def toldN (s : ByteArray) : Nat → ByteArray
  | 0 => ByteArray.empty
  | n + 1 => toldN s n ++ entB (byteAt s n)
def told (s : ByteArray) : ByteArray := toldN s s.size
theorem entB_size (b : UInt8) : 1 ≤ (entB b).size ∧ (entB b).size ≤ 6 := by
  unfold entB
  repeat' split
  all_goals first | exact ⟨by decide, by decide⟩ | exact ⟨Nat.le_refl 1, (by show 1 ≤ 6; decide)⟩
theorem toldN_size (s : ByteArray) : ∀ n, n ≤ (toldN s n).size ∧ (toldN s n).size ≤ 6 * n := by
  intro n
  induction n with
  | zero => exact ⟨Nat.zero_le _, Nat.le_refl _⟩
  | succ n ih =>
    have h := entB_size (byteAt s n)
    rw [toldN, ByteArray.size_append]
    omega
theorem told_size (s : ByteArray) : s.size ≤ (told s).size ∧ (told s).size ≤ 6 * s.size := toldN_size s s.size
end Go.Proofs.YtgjnemmkpbkfhaaDoor
