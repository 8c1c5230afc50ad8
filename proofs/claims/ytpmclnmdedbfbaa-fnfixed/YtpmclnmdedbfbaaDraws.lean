/-
  What the specification's DrawFixMul and DrawFixRoot answer: some ints, and nothing that was there is written.
-/
import Derived.Test.YtpmclnmdedbfbaaDraw
namespace Go.Proofs.Ytpmclnmdedbfbaa
open Go.ChangeShapes Go.WideShapes Go.ChangeAt Go.RowKit

theorem cur_new (w : World) (ca : Option Addr) (len cap : Nat) : Cur (w.alloc (.cells #[.slice ca len cap, .int .i64 0, .int .u64 0] 43)) w.heap.size ca len cap 0 := by
  refine ⟨0, 0, by omega, by omega, by omega, ?_, ?_, ?_, ?_, by simp⟩
  · rw [World.cell?_alloc_new]; rfl
  · rw [World.cell?_alloc_new]; rfl
  · rw [World.cell?_alloc_new]; rfl
  · intro o; rw [frozen?_alloc_cells]; simp [World.frozen?]

set_option maxHeartbeats 1000000 in
theorem two_any (w : World) (ca : Option Addr) (len cap : Nat) (hl : len ≤ 9223372036854775807) (hd : Code w w.heap.size ca len) :
    Calls Try.prog 18 #[.slice ca len cap] w fun e w' => ∃ a b : Int, e = .returned (.tuple #[.int .i64 a, .int .i64 b]) ∧ (Lit.int .i64 a).wf = true ∧ (Lit.int .i64 b).wf = true ∧ Below w.heap.size w w' := by
  have HD : Hid (Code w w.heap.size ca len) := hd
  clear hd
  go_enter Try.func18, Try.ntmps18
  go_wp2_with fail
  refine (fixed_any _ w.heap.size ca len cap 0 hl (by omega) (cur_new w ca len cap) (HD.out.alloc (Nat.le_refl _) _)).mono ?_
  rintro e w1 ⟨a, rfl, ha, hc1, hb1⟩
  have HC1 : Hid (Cur w1 w.heap.size ca len cap (0 + 20)) := hc1
  have HE1 : Hid (Below w.heap.size w w1) := ((Below.refl _ _).alloc (Nat.le_refl _) _).trans hb1
  have HA : Hid _ := ha
  clear hc1 hb1 ha
  go_wp2_with fail
  refine (fixed_any w1 w.heap.size ca len cap (0 + 20) hl (by omega) HC1.out (Code.below HD.out HE1.out)).mono ?_
  rintro e w2 ⟨b, rfl, hb, hc2, hb2⟩
  have HE2 : Hid (Below w.heap.size w w2) := HE1.out.trans hb2
  have HB : Hid _ := hb
  clear hc2 hb2 hb
  go_wp2
  go_ret2
  exact ⟨a, b, rfl, HA.out, HB.out, HE2.out⟩

set_option maxHeartbeats 1000000 in
theorem drawMul_any (w : World) (ca : Option Addr) (len cap : Nat) (hl : len ≤ 9223372036854775807) (hd : Code w w.heap.size ca len) :
    Calls Try.prog 8 #[.slice ca len cap] w fun e w' => ∃ a b : Int, e = .returned (.tuple #[.int .i64 a, .int .i64 b]) ∧ (Lit.int .i64 a).wf = true ∧ (Lit.int .i64 b).wf = true ∧ Below w.heap.size w w' := by
  have HD : Hid (Code w w.heap.size ca len) := hd
  clear hd
  go_enter Try.func8, Try.ntmps8
  go_wp2_with fail
  refine (two_any w ca len cap hl HD.out).mono ?_
  rintro e w1 ⟨a, b, rfl, ha, hb, hb1⟩
  have HE1 : Hid (Below w.heap.size w w1) := hb1
  have HA : Hid _ := ha
  have HB : Hid _ := hb
  clear hb1 ha hb
  go_wp2
  go_ret2
  exact ⟨a, b, rfl, HA.out, HB.out, HE1.out⟩

set_option maxHeartbeats 1000000 in
theorem drawRoot_any (w : World) (ca : Option Addr) (len cap : Nat) (hl : len ≤ 9223372036854775807) (hd : Code w w.heap.size ca len) :
    Calls Try.prog 13 #[.slice ca len cap] w fun e w' => ∃ a : Int, e = .returned (.int .i64 a) ∧ (Lit.int .i64 a).wf = true ∧ Below w.heap.size w w' := by
  have HD : Hid (Code w w.heap.size ca len) := hd
  clear hd
  go_enter Try.func13, Try.ntmps13
  go_wp2_with fail
  refine (fixed_any _ w.heap.size ca len cap 0 hl (by omega) (cur_new w ca len cap) (HD.out.alloc (Nat.le_refl _) _)).mono ?_
  rintro e w1 ⟨a, rfl, ha, hc1, hb1⟩
  have HC1 : Hid (Cur w1 w.heap.size ca len cap (0 + 20)) := hc1
  have HE1 : Hid (Below w.heap.size w w1) := ((Below.refl _ _).alloc (Nat.le_refl _) _).trans hb1
  have HA : Hid _ := ha
  clear hc1 hb1 ha
  by_cases c1 : a < 0
  · by_cases c2 : -1099511627776 ≤ a
    · go_wp2_with fail
      refine (one_any w1 w.heap.size ca len cap (0 + 20) 8 hl (by omega) (by omega) (by omega) HC1.out (Code.below HD.out HE1.out)).mono ?_
      rintro e w2 ⟨bb, rfl, hc2, hb2⟩
      have HE2 : Hid (Below w.heap.size w w2) := HE1.out.trans (Sel.below hb2)
      clear hc2 hb2
      cases bb
      · go_wp2
        go_ret
        exact ⟨-a, rfl, WalkArith.wf_i64 (by omega), HE2.out⟩
      · go_wp2
        go_ret
        exact ⟨a, rfl, HA.out, HE2.out⟩
    · have d2 : decide (-1099511627776 ≤ a) = false := by simp; omega
      go_wp2
      go_ret
      exact ⟨a, rfl, HA.out, HE1.out⟩
  · go_wp2
    go_ret
    exact ⟨a, rfl, HA.out, HE1.out⟩
end Go.Proofs.Ytpmclnmdedbfbaa
