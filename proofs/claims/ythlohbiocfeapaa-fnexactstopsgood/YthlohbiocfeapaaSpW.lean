/-
  The walk of the law on StopsGood; its argument's length is at most what memory holds; each theorem names its conditions.
-/
import Derived.Test.YthlohbiocfeapaaSpT
import Derived.Test.YthlohbiocfeapaaSpG
import Derived.Test.YthlohbiocfeapaaSpI
namespace Go.Proofs.Ythlohbiocfeapaa
open Go.ChangeShapes Go.WideShapes Go.ChangeAt Go.RowKit
set_option linter.unusedVariables false

set_option maxRecDepth 100000 in
set_option maxHeartbeats 4000000 in
theorem walk_stops (w : World) (a : Option Addr) (l : List Stp) (c : Nat) (hr : Stps w a l) (hl : l.length ≤ maxLen) :
    Calls Try.prog 8 #[.slice a l.length c] w fun e w' => e = .returned (.bool true) ∧ Below w.heap.size w w' := by
  have HZ : Hid _ := fun w => szStopS_any w a l.length c 1048576 (by omega) (by omega) hl
  have HR : Hid (Stps w a l) := hr
  clear hr
  by_cases h : (l.length : Int) ≤ 1048576
  · rw [if_pos h] at HZ
    have hl1 : l.length ≤ 1048576 := by omega
    have HT : Hid (∀ w : World, Stps w a l → _) := fun w h => toStopS_any w a c l hl1 h
    have HS : Hid (∀ (w : World) (g : Nat), Stps w (some ⟨g, 0, none⟩) l → _) := fun w g h => sstops w (some ⟨g, 0, none⟩) l.length l hl1 h
    have HI : Hid (∀ (w : World) (g : Nat), Stps w (some ⟨g, 0, none⟩) l → _) := fun w g h => istops w (some ⟨g, 0, none⟩) l.length l hl1 h
    have HE : Hid (∀ (w : World) (g1 g2 : Nat), Stps w (some ⟨g1, 0, none⟩) l → Stps w (some ⟨g2, 0, none⟩) l → _) := fun w g1 g2 h1 h2 => eqStopS_any w (some ⟨g1, 0, none⟩) (some ⟨g2, 0, none⟩) l.length l.length l hl1 h1 h2
    generalize sgB l = V at *
    have hbb : (V != V) = false := by cases V <;> rfl
    have hd : decide (1048576 - (l.length : Int) < 0) = false := decide_eq_false (by omega)
    generalize l.length = n at *
    clear hl1 hl h
    go_enter Try.func8, Try.ntmps8
    go_wp2_with fail
    refine Calls.mono (HZ.out _) ?_
    rintro e w1 ⟨rfl, hw1⟩
    obtain rfl := hw1
    go_wp2_with fail
    refine Calls.mono (HT.out _ HR.out) ?_
    rintro e w2 ⟨rfl, n2, l2⟩
    have N2 : Hid (Nw w1 w2) := n2
    have L2 : Hid (Stps w2 (some ⟨w1.heap.size, 0, none⟩) l) := l2
    clear n2 l2
    go_wp2_with fail
    refine Calls.mono (HS.out _ _ L2.out) ?_
    rintro e w3 ⟨rfl, k3⟩
    have N3 : Hid (Nw w1 w3) := Nw.trans N2.out k3.nw
    clear k3
    go_wp2_with fail
    refine Calls.mono (HT.out _ (Stps.nw HR.out N3.out)) ?_
    rintro e w4 ⟨rfl, n4, l4⟩
    have N4 : Hid (Nw w1 w4) := Nw.trans N3.out n4
    have L4 : Hid (Stps w4 (some ⟨w3.heap.size, 0, none⟩) l) := l4
    clear n4 l4
    go_wp2_with fail
    refine Calls.mono (HI.out _ _ L4.out) ?_
    rintro e w5 ⟨rfl, k5⟩
    have N5 : Hid (Nw w4 w5) := k5.nw
    clear k5
    go_wp2_with fail
    refine Calls.mono (HT.out _ (Stps.nw HR.out (Nw.trans N4.out N5.out))) ?_
    rintro e w6 ⟨rfl, n6, l6⟩
    have N6 : Hid (Nw w4 w6) := Nw.trans N5.out n6
    have L6 : Hid (Stps w6 (some ⟨w5.heap.size, 0, none⟩) l) := l6
    clear n6 l6
    go_wp2_with fail
    refine Calls.mono (HE.out _ _ _ (Stps.nw L4.out N6.out) L6.out) ?_
    rintro e w7 ⟨rfl, n7⟩
    have N7 : Hid (Nw w1 w7) := Nw.trans N4.out (Nw.trans N6.out n7)
    clear n7
    go_wp2
    go_ret
    exact ⟨rfl, N7.out⟩
  · rw [if_neg h] at HZ
    clear h
    generalize l.length = n at *
    go_enter Try.func8, Try.ntmps8
    go_wp2_with fail
    refine Calls.mono (HZ.out _) ?_
    rintro e w1 ⟨rfl, hw1⟩
    obtain rfl := hw1
    go_wp2
    go_ret
    exact ⟨rfl, Below.refl _ _⟩
end Go.Proofs.Ythlohbiocfeapaa
