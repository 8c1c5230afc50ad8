/-
  Words of a text while they are told; each theorem names its conditions.
-/
import Derived.Test.YtnkmdmmlpidcmaaDoorTxs
import Derived.Test.YtnkmdmmlpidcmaaDoorLet
import Derived.Test.YtnkmdmmlpidcmaaDoorFlds
namespace Go.Proofs.YtnkmdmmlpidcmaaDoor
open Go.ChangeShapes Go.WideShapes Go.ChangeAt Go.RowKit
set_option linter.unusedVariables false

theorem sblank (w : World) (x : Nat) (h : x ≤ 255) : Calls Tryd.prog 60 #[.int .u8 (x : Int)] w fun e w' => e = .returned (.bool (blankN x)) ∧ w' = w := by
  go_enter Tryd.func60, Tryd.ntmps60
  go_wp2
  all_goals
    go_ret
    exact ⟨ret_bool (by rw [Bool.eq_iff_iff]; simp [blankN]; omega), rfl⟩
/-- The word that is open. -/
def opnT (s : ByteArray) (st : Option Nat) (pos : Nat) : ByteArray := match st with | some a => s.extract a pos | none => ⟨#[]⟩
def cutT (s : ByteArray) (acc : List (Nat × Nat)) : List ByteArray := acc.map fun x => s.extract x.1 x.2
theorem cutT_snoc (s : ByteArray) (acc : List (Nat × Nat)) (a b : Nat) : cutT s (acc ++ [(a, b)]) = cutT s acc ++ [s.extract a b] := by simp [cutT]
theorem cutT_len (s : ByteArray) (acc : List (Nat × Nat)) : (cutT s acc).length = acc.length := by simp [cutT]
structure WdSt (s : ByteArray) (pos : Nat) (st : Option Nat) (acc : List (Nat × Nat)) : Prop where
  le : pos ≤ s.size
  open_ : ∀ a, st = some a → a < pos
  len : acc.length ≤ pos
  rest : spB s (s.size - pos) pos st acc = spB s s.size 0 none []
theorem WdSt.start (s : ByteArray) : WdSt s 0 none [] := ⟨Nat.zero_le _, (fun a h => by cases h), Nat.zero_le _, rfl⟩
theorem WdSt.word_none {s : ByteArray} {pos : Nat} {acc : List (Nat × Nat)} (h : WdSt s pos none acc) (hlt : pos < s.size) (hb : blankN (byN s pos) = false) : WdSt s (pos + 1) (some pos) acc := by
  refine ⟨hlt, fun a e => by injection e; omega, by have := h.len; omega, ?_⟩
  rw [← h.rest, show s.size - pos = (s.size - (pos + 1)) + 1 by omega, spB_word_none s _ _ _ hlt hb]
theorem WdSt.word_some {s : ByteArray} {pos a : Nat} {acc : List (Nat × Nat)} (h : WdSt s pos (some a) acc) (hlt : pos < s.size) (hb : blankN (byN s pos) = false) : WdSt s (pos + 1) (some a) acc := by
  refine ⟨hlt, fun b e => by have := h.open_ b e; omega, by have := h.len; omega, ?_⟩
  rw [← h.rest, show s.size - pos = (s.size - (pos + 1)) + 1 by omega, spB_word_some s _ _ _ _ hlt hb]
theorem WdSt.blank_none {s : ByteArray} {pos : Nat} {acc : List (Nat × Nat)} (h : WdSt s pos none acc) (hlt : pos < s.size) (hb : blankN (byN s pos) = true) : WdSt s (pos + 1) none acc := by
  refine ⟨hlt, (fun a e => by cases e), by have := h.len; omega, ?_⟩
  rw [← h.rest, show s.size - pos = (s.size - (pos + 1)) + 1 by omega, spB_blank_none s _ _ _ hlt hb]
theorem WdSt.blank_some {s : ByteArray} {pos a : Nat} {acc : List (Nat × Nat)} (h : WdSt s pos (some a) acc) (hlt : pos < s.size) (hb : blankN (byN s pos) = true) : WdSt s (pos + 1) none (acc ++ [(a, pos)]) := by
  refine ⟨hlt, (fun a e => by cases e), by have := h.len; simp; omega, ?_⟩
  rw [← h.rest, show s.size - pos = (s.size - (pos + 1)) + 1 by omega, spB_blank_some s _ _ _ _ hlt hb]
theorem WdSt.end_none {s : ByteArray} {pos : Nat} {acc : List (Nat × Nat)} (h : WdSt s pos none acc) (hlt : ¬ pos < s.size) : wordsOf s = cutT s acc := by
  unfold wordsOf cutT
  rw [← h.rest, spB_end _ _ _ _ _ hlt]; rfl
theorem WdSt.end_some {s : ByteArray} {pos a : Nat} {acc : List (Nat × Nat)} (h : WdSt s pos (some a) acc) (hlt : ¬ pos < s.size) : wordsOf s = cutT s acc ++ [s.extract a pos] := by
  have e : pos = s.size := by have := h.le; omega
  unfold wordsOf cutT
  rw [← h.rest, spB_end _ _ _ _ _ hlt, e]
  simp [Lib.closeSpans]
end Go.Proofs.YtnkmdmmlpidcmaaDoor
