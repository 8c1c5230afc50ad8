/-
  Nodes held against a selector, on lists; each theorem names its conditions.
-/
import Derived.Test.YtaeepbjdhcbofaaDoorFitB
import Derived.Test.YtaeepbjdhcbofaaDoorMkGood
import Derived.Test.YtaeepbjdhcbofaaDoorSel
namespace Go.Proofs.YtaeepbjdhcbofaaDoor
open Go.ChangeShapes Go.WideShapes Go.ChangeAt Go.RowKit
set_option linter.unusedVariables false

/-- How many parts are left where the way up ends. -/
def climb (l : List ND) (sel : List PD) : Nat → Int → Nat → Nat
  | 0, _, n => n
  | f + 1, k, n => if k < 0 ∨ n = 0 then n else climb l sel f (upAt l k.toNat) (if fitB (nodeAt l k.toNat) (partAt sel (n - 1)) then n - 1 else n)
theorem climb_end {l : List ND} {sel : List PD} {f : Nat} {k : Int} {n : Nat} (h : k < 0 ∨ n = 0) : climb l sel f k n = n := by
  cases f with
  | zero => rfl
  | succ f => unfold climb; rw [if_pos h]
theorem climb_fit {l : List ND} {sel : List PD} {f k m : Nat} (h : fitB (nodeAt l k) (partAt sel m) = true) : climb l sel (f + 1) (k : Int) (m + 1) = climb l sel f (upAt l k) m := by
  conv => lhs; unfold climb
  rw [if_neg (by omega), Int.toNat_natCast, Nat.add_sub_cancel, h]; rfl
theorem climb_not {l : List ND} {sel : List PD} {f k m : Nat} (h : fitB (nodeAt l k) (partAt sel m) = false) : climb l sel (f + 1) (k : Int) (m + 1) = climb l sel f (upAt l k) (m + 1) := by
  conv => lhs; unfold climb
  rw [if_neg (by omega), Int.toNat_natCast, Nat.add_sub_cancel, h]; rfl
def matchB (l : List ND) (k : Nat) (sel : List PD) : Bool := fitB (nodeAt l k) (partAt sel (sel.length - 1)) && decide (climb l sel (l.length + 1) (upAt l k) (sel.length - 1) = 0)
def elB (l : List ND) (k : Int) : Bool := decide (0 ≤ k ∧ k < l.length) && !decide ((nodeAt l k.toNat).name.size = 0)
def matB (l : List ND) (k : Int) (sel : List PD) : Bool := goodB l && (elB l k && (selB sel && matchB l k.toNat sel))
end Go.Proofs.YtaeepbjdhcbofaaDoor
