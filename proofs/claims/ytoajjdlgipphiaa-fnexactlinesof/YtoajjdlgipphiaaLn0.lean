/-
  Lines in memory; how many points they have, of both; each theorem names its conditions.
-/
import Derived.Test.YtoajjdlgipphiaaPt
import Derived.Test.YtoajjdlgipphiaaIn
namespace Go.Proofs.Ytoajjdlgipphiaa
open Go.ChangeShapes Go.WideShapes Go.ChangeAt Go.RowKit
set_option linter.unusedVariables false

/-- A line: its points, and whether it is closed. -/
structure LD where
  pts : List Pnt
  closed : Bool
def noLD : LD := ⟨[], false⟩
def lnAt (l : List LD) (i : Nat) : LD := l.getD i noLD
/-- The lines l lie at a. -/
def Lines (w : World) (a : Option Addr) (l : List LD) : Prop :=
  l = [] ∨ ∃ b off, a = some ⟨b, off, none⟩ ∧ b < w.heap.size ∧ ∀ i, i < l.length → (∃ pa pc, w.cell? ⟨b, off + i * 2, none⟩ = some (.slice pa (lnAt l i).pts.length pc) ∧ Pts w pa (lnAt l i).pts) ∧ w.cell? ⟨b, off + i * 2 + 1, none⟩ = some (.bool (lnAt l i).closed)
theorem Lines.nw {w w' : World} {a : Option Addr} {l : List LD} (h : Lines w a l) (k : Nw w w') : Lines w' a l := by
  rcases h with h | ⟨b, off, rfl, hb, hc⟩
  · exact Or.inl h
  · refine Or.inr ⟨b, off, rfl, Nat.lt_of_lt_of_le hb (Below.size k), fun i hi => ?_⟩
    obtain ⟨⟨pa, pc, h1, h2⟩, h3⟩ := hc i hi
    exact ⟨⟨pa, pc, ((bcell k).1 _ _ hb).trans h1, h2.nw k⟩, ((bcell k).1 _ _ hb).trans h3⟩
def manyL (l : List LD) : Nat := (l.map fun x => x.pts.length).sum
theorem manyL_step (l : List LD) (k : Nat) (h : k < l.length) : manyL (l.take (k + 1)) = manyL (l.take k) + (lnAt l k).pts.length := by
  unfold manyL lnAt
  have e : l.getD k noLD = l[k] := by simp [h]
  rw [List.take_succ_eq_append_getElem h, List.map_append, List.sum_append, e]
  simp only [List.map_cons, List.map_nil, List.sum_cons, List.sum_nil]
  omega
theorem manyL_le (l : List LD) (k : Nat) : manyL (l.take k) ≤ manyL l := by
  unfold manyL
  conv => rhs; rw [← List.take_append_drop k l]
  rw [List.map_append, List.sum_append]
  omega
theorem manyL_at (l : List LD) (k : Nat) (h : k < l.length) : (lnAt l k).pts.length ≤ manyL l := by
  have h1 := manyL_step l k h
  have h2 := manyL_le l (k + 1)
  omega
set_option maxHeartbeats 1000000 in
theorem smany (w : World) (a : Option Addr) (c : Nat) (l : List LD) (hl : l.length ≤ 1048576) (hm : manyL l ≤ 1048576) (hr : Lines w a l) :
    Calls Try.prog 69 #[.slice a l.length c] w fun e w' => e = .returned (.int .i64 (manyL l : Int)) ∧ Kp w w' := by
  have HR : Hid (Lines w a l) := hr
  clear hr
  go_enter Try.func69, Try.ntmps69
  go_wp2
  go_loopw [3, 8] (fun x i wr => ∃ k : Nat, k ≤ l.length ∧ i = .int .i64 k ∧ x = .int .i64 (manyL (l.take k) : Int) ∧ Kp w wr) (fun _ i _ => l.length - (intOf i).toNat)
  case atStart => exact ⟨0, Nat.zero_le _, rfl, rfl, Kp.refl _⟩
  case round =>
    obtain ⟨k, hk, rfl, rfl, hw⟩ := hrel
    have HW : Hid (Kp w wr) := hw
    clear hw
    by_cases hlt : k < l.length
    · rcases (HR.out.nw HW.out.nw) with h | ⟨b, off, rfl, hb, hc⟩
      · rw [h] at hlt; simp at hlt
      obtain ⟨⟨pa, pc, q0, _⟩, q1⟩ := hc k hlt
      clear hc
      have hs := manyL_step l k hlt
      have hle := manyL_le l (k + 1)
      have HE : Hid (manyL (l.take (k + 1)) = manyL (l.take k) + (lnAt l k).pts.length) := hs
      rw [hs] at hle
      clear hs
      generalize manyL (l.take k) = m at *
      generalize (lnAt l k).pts.length = n at *
      generalize (lnAt l k).closed = cl at *
      go_wp2
      go_roundw
      case rel => exact ⟨k + 1, by omega, by go_num, by rw [HE.out]; go_num, HW.out.alloc _ _⟩
      case measure => simp [intOf]; omega
    · have e : k = l.length := by omega
      subst e
      rw [List.take_length]
      go_wp2
      go_ret
      exact ⟨rfl, HW.out⟩
set_option maxHeartbeats 1000000 in
theorem imany (w : World) (a : Option Addr) (c : Nat) (l : List LD) (hl : l.length ≤ 1048576) (hm : manyL l ≤ 1048576) (hr : Lines w a l) :
    Calls Try.prog 38 #[.slice a l.length c] w fun e w' => e = .returned (.int .i64 (manyL l : Int)) ∧ Kp w w' := by
  have HR : Hid (Lines w a l) := hr
  clear hr
  go_enter Try.func38, Try.ntmps38
  go_wp2
  go_loopw [3, 8] (fun x i wr => ∃ k : Nat, k ≤ l.length ∧ i = .int .i64 k ∧ x = .int .i64 (manyL (l.take k) : Int) ∧ Kp w wr) (fun _ i _ => l.length - (intOf i).toNat)
  case atStart => exact ⟨0, Nat.zero_le _, rfl, rfl, Kp.refl _⟩
  case round =>
    obtain ⟨k, hk, rfl, rfl, hw⟩ := hrel
    have HW : Hid (Kp w wr) := hw
    clear hw
    by_cases hlt : k < l.length
    · rcases (HR.out.nw HW.out.nw) with h | ⟨b, off, rfl, hb, hc⟩
      · rw [h] at hlt; simp at hlt
      obtain ⟨⟨pa, pc, q0, _⟩, q1⟩ := hc k hlt
      clear hc
      have hs := manyL_step l k hlt
      have hle := manyL_le l (k + 1)
      have HE : Hid (manyL (l.take (k + 1)) = manyL (l.take k) + (lnAt l k).pts.length) := hs
      rw [hs] at hle
      clear hs
      generalize manyL (l.take k) = m at *
      generalize (lnAt l k).pts.length = n at *
      generalize (lnAt l k).closed = cl at *
      go_wp2
      go_roundw
      case rel => exact ⟨k + 1, by omega, by go_num, by rw [HE.out]; go_num, HW.out.alloc _ _⟩
      case measure => simp [intOf]; omega
    · have e : k = l.length := by omega
      subst e
      rw [List.take_length]
      go_wp2
      go_ret
      exact ⟨rfl, HW.out⟩
end Go.Proofs.Ytoajjdlgipphiaa
