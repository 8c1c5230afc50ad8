/-
  What FilterRow and UnfilterRow answer, of the program and of the specification; each theorem names its conditions.
-/
import Derived.Test.YteehoihkbcbbgaaDoorIFilt0
import Derived.Test.YteehoihkbcbbgaaDoorIFilt1
import Derived.Test.YteehoihkbcbbgaaDoorIFilt2
import Derived.Test.YteehoihkbcbbgaaDoorIFilt3
import Derived.Test.YteehoihkbcbbgaaDoorIFilt4
namespace Go.Proofs.YteehoihkbcbbgaaDoor
open Go.ChangeShapes Go.WideShapes Go.ChangeAt Go.RowKit
set_option linter.unusedVariables false

def filt (kind : Nat) (zr za : List Int) : List Int := (List.range zr.length).map fun k => (zr.getD k 0 - guess kind (left zr k) (za.getD k 0) (left za k)) % 256
theorem filt_is (kind : Nat) (zr za : List Int) : IsFilt kind zr za (filt kind zr za) := by
  refine ⟨by simp [filt], fun k hk => ?_⟩
  simp [filt, hk]
def unfN (kind : Nat) (zr za : List Int) : Nat → List Int
  | 0 => []
  | n + 1 => unfN kind zr za n ++ [(zr.getD n 0 + guess kind (left (unfN kind zr za n) n) (za.getD n 0) (left za n)) % 256]
theorem unfN_len (kind : Nat) (zr za : List Int) (n : Nat) : (unfN kind zr za n).length = n := by
  induction n with
  | zero => rfl
  | succ n ih => simp [unfN, ih]
theorem unfN_get (kind : Nat) (zr za : List Int) (m n k : Nat) (h : m ≤ n) (hk : k < m) : (unfN kind zr za n).getD k 0 = (unfN kind zr za m).getD k 0 := by
  induction n with
  | zero => omega
  | succ n ih =>
    by_cases e : m = n + 1
    · rw [e]
    · rw [← ih (by omega)]
      have h1 := unfN_len kind zr za n
      simp only [unfN, List.getD_eq_getElem?_getD]
      rw [List.getElem?_append_left (by omega)]
def unf (kind : Nat) (zr za : List Int) : List Int := unfN kind zr za zr.length
theorem unf_is (kind : Nat) (zr za : List Int) : IsUnf kind zr za (unf kind zr za) := by
  refine ⟨unfN_len _ _ _ _, fun k hk => ?_⟩
  unfold unf
  rw [unfN_get kind zr za (k + 1) zr.length k (by omega) (by omega)]
  have h1 := unfN_len kind zr za k
  have e : left (unfN kind zr za zr.length) k = left (unfN kind zr za k) k := by
    unfold left
    split
    · rfl
    · exact unfN_get kind zr za k zr.length (k - 4) (by omega) (by omega)
  rw [e]
  simp only [unfN, List.getD_eq_getElem?_getD]
  rw [List.getElem?_append_right (by omega)]
  simp [h1]
theorem filt_u8 (kind : Nat) (zr za : List Int) : ∀ z ∈ filt kind zr za, 0 ≤ z ∧ z ≤ 255 := by
  intro z hz
  simp [filt] at hz
  obtain ⟨k, hk, rfl⟩ := hz
  omega
theorem filt_len (kind : Nat) (zr za : List Int) : (filt kind zr za).length = zr.length := by simp [filt]
theorem unf_len (kind : Nat) (zr za : List Int) : (unf kind zr za).length = zr.length := unfN_len _ _ _ _
theorem unfN_u8 (kind : Nat) (zr za : List Int) (n : Nat) : ∀ z ∈ unfN kind zr za n, 0 ≤ z ∧ z ≤ 255 := by
  induction n with
  | zero => simp [unfN]
  | succ n ih =>
    intro z hz
    simp only [unfN, List.mem_append, List.mem_singleton] at hz
    rcases hz with hz | rfl
    · exact ih z hz
    · omega

theorem ifilter (W : World) (kind : Nat) (hk : kind ≤ 4) (br or cr ba oa ca n : Nat) (zr za : List Int) (hn : RowOk n n) (hzr : zr.length = n) (hza : za.length = n) (hr : Lie W br or zr) (ha : Lie W ba oa za) (h8r : ∀ z ∈ zr, 0 ≤ z ∧ z ≤ 255) (h8a : ∀ z ∈ za, 0 ≤ z ∧ z ≤ 255) :
    Calls Tryd.prog 72 #[.int .i64 (kind : Int), .slice (some ⟨br, or, none⟩) n cr, .slice (some ⟨ba, oa, none⟩) n ca] W fun e w' => ∃ g, e = .returned (.tuple #[.slice (some ⟨g, 0, none⟩) n n, .bool true]) ∧ Nw W w' ∧ W.heap.size ≤ g ∧ At w' g (filt kind zr za) := by
  have h : kind = 0 ∨ kind = 1 ∨ kind = 2 ∨ kind = 3 ∨ kind = 4 := by omega
  rcases h with rfl | rfl | rfl | rfl | rfl
  · exact ifilt0 W br or cr ba oa ca n zr za _ hn hzr hza hr ha h8r h8a (filt_is _ _ _)
  · exact ifilt1 W br or cr ba oa ca n zr za _ hn hzr hza hr ha h8r h8a (filt_is _ _ _)
  · exact ifilt2 W br or cr ba oa ca n zr za _ hn hzr hza hr ha h8r h8a (filt_is _ _ _)
  · exact ifilt3 W br or cr ba oa ca n zr za _ hn hzr hza hr ha h8r h8a (filt_is _ _ _)
  · exact ifilt4 W br or cr ba oa ca n zr za _ hn hzr hza hr ha h8r h8a (filt_is _ _ _)
theorem iunfilter (W : World) (kind : Nat) (hk : kind ≤ 4) (br or cr ba oa ca n : Nat) (zr za : List Int) (hn : RowOk n n) (hzr : zr.length = n) (hza : za.length = n) (hr : Lie W br or zr) (ha : Lie W ba oa za) (h8r : ∀ z ∈ zr, 0 ≤ z ∧ z ≤ 255) (h8a : ∀ z ∈ za, 0 ≤ z ∧ z ≤ 255) :
    Calls Tryd.prog 81 #[.int .i64 (kind : Int), .slice (some ⟨br, or, none⟩) n cr, .slice (some ⟨ba, oa, none⟩) n ca] W fun e w' => ∃ g, e = .returned (.tuple #[.slice (some ⟨g, 0, none⟩) n n, .bool true]) ∧ Nw W w' ∧ W.heap.size ≤ g ∧ At w' g (unf kind zr za) := by
  have h : kind = 0 ∨ kind = 1 ∨ kind = 2 ∨ kind = 3 ∨ kind = 4 := by omega
  rcases h with rfl | rfl | rfl | rfl | rfl
  · exact iunf0 W br or cr ba oa ca n zr za _ hn hzr hza hr ha h8r h8a (unf_is _ _ _)
  · exact iunf1 W br or cr ba oa ca n zr za _ hn hzr hza hr ha h8r h8a (unf_is _ _ _)
  · exact iunf2 W br or cr ba oa ca n zr za _ hn hzr hza hr ha h8r h8a (unf_is _ _ _)
  · exact iunf3 W br or cr ba oa ca n zr za _ hn hzr hza hr ha h8r h8a (unf_is _ _ _)
  · exact iunf4 W br or cr ba oa ca n zr za _ hn hzr hza hr ha h8r h8a (unf_is _ _ _)
end Go.Proofs.YteehoihkbcbbgaaDoor
