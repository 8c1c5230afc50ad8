/-
  The walk of the law on RunAt, from what the program's RunAt answers; its argument's length is at most what memory holds; each theorem names its conditions.
-/
import Derived.Test.YthlohbiocfeapaaSpT
import Derived.Test.YthlohbiocfeapaaRnA
import Derived.Test.YthlohbiocfeapaaTnT
namespace Go.Proofs.Ythlohbiocfeapaa
open Go.ChangeShapes Go.WideShapes Go.ChangeAt Go.RowKit
set_option linter.unusedVariables false

set_option maxRecDepth 100000 in
set_option maxHeartbeats 4000000 in
theorem walk_run_of (irun : ∀ (w : World) (a : Option Addr) (l : List Stp) (x s : Int) (hl : l.length ≤ 1048576) (hr : Stps w a l), Calls Try.prog 20 #[.slice a l.length l.length, .int .i64 x, .int .i64 s] w fun e w' => e = .returned (.tuple #[edV (ruV l x s), .bool (ruB l x s)]) ∧ Kp w w')
    (w : World) (a : Option Addr) (l : List Stp) (c : Nat) (x s : Int) (hr : Stps w a l) (hl : l.length ≤ maxLen) :
    Calls Try.prog 9 #[.slice a l.length c, .int .i64 x, .int .i64 s] w fun e w' => e = .returned (.bool true) ∧ Below w.heap.size w w' := by
  have HZ : Hid _ := fun w => szStopS_any w a l.length c 1048576 (by omega) (by omega) hl
  have HR : Hid (Stps w a l) := hr
  clear hr
  by_cases h : (l.length : Int) ≤ 1048576
  · rw [if_pos h] at HZ
    have hl1 : l.length ≤ 1048576 := by omega
    have HT : Hid (∀ w : World, Stps w a l → _) := fun w h => toStopS_any w a c l hl1 h
    have HS : Hid (∀ (w : World) (g : Nat), Stps w (some ⟨g, 0, none⟩) l → _) := fun w g h => srunAt w (some ⟨g, 0, none⟩) l.length l x s hl1 h
    have HI : Hid (∀ (w : World) (g : Nat), Stps w (some ⟨g, 0, none⟩) l → _) := fun w g h => irun w (some ⟨g, 0, none⟩) l x s hl1 h
    have HE : Hid (∀ (w : World) (g1 g2 : Nat), Stps w (some ⟨g1, 0, none⟩) l → Stps w (some ⟨g2, 0, none⟩) l → _) := fun w g1 g2 h1 h2 => eqStopS_any w (some ⟨g1, 0, none⟩) (some ⟨g2, 0, none⟩) l.length l.length l hl1 h1 h2
    have HQ : Hid (∀ w, _) := fun w => eqTint_any w (ruV l x s)
    clear irun
    generalize ruB l x s = V at *
    generalize ruV l x s = T at *
    obtain ⟨v0, v1, v2, v3⟩ := T
    unfold edV at HS HI HQ
    simp only at HS HI HQ
    have hbb : (V != V) = false := by cases V <;> rfl
    have hd : decide (1048576 - (l.length : Int) < 0) = false := decide_eq_false (by omega)
    generalize l.length = n at *
    clear hl1 hl h
    go_enter Try.func9, Try.ntmps9
    go_wp2_with fail
    refine Calls.mono (HZ.out _) ?_
    rintro e w1 ⟨rfl, hw1⟩
    obtain rfl := hw1
    go_wp2_with fail
    refine Calls.mono (HT.out _ HR.out) ?_
    rintro e w2 ⟨rfl, n2, l2⟩
    have N2 : Hid (Nw w1 w2) := n2
    have L2 : Hid (Stps w2 (some ⟨w1.heap.size, 0, none⟩) l) := l2
    clear n2 l2
    go_wp2_with fail
    refine Calls.mono (HS.out _ _ L2.out) ?_
    rintro e w3 ⟨rfl, k3⟩
    have N3 : Hid (Nw w1 w3) := Nw.trans N2.out k3.nw
    clear k3
    go_wp2_with fail
    have NA : Hid (Nw w3 (w3.alloc (.cells #[.int .i64 v0, .int .i64 v1, .int .i64 v2, .int .i64 v3] 24))) := QBnw _ _
    have QA : Hid (QB (w3.alloc (.cells #[.int .i64 v0, .int .i64 v1, .int .i64 v2, .int .i64 v3] 24)) w3.heap.size ⟨v0, v1, v2, v3⟩) := QB.new w3 ⟨v0, v1, v2, v3⟩ _
    generalize w3.alloc (.cells #[.int .i64 v0, .int .i64 v1, .int .i64 v2, .int .i64 v3] 24) = wa at *
    refine Calls.mono (HT.out _ (Stps.nw HR.out (Nw.trans N3.out NA.out))) ?_
    rintro e w4 ⟨rfl, n4, l4⟩
    have N4a : Hid (Nw wa w4) := n4
    have N4 : Hid (Nw w1 w4) := Nw.trans N3.out (Nw.trans NA.out n4)
    have L4 : Hid (Stps w4 (some ⟨wa.heap.size, 0, none⟩) l) := l4
    clear n4 l4
    go_wp2_with fail
    refine Calls.mono (HI.out _ _ L4.out) ?_
    rintro e w5 ⟨rfl, k5⟩
    have N5 : Hid (Nw w4 w5) := k5.nw
    clear k5
    obtain ⟨p0, p1, p2, p3, _⟩ := QB.nw QA.out (Nw.trans N4a.out (Nw.trans N5.out (QBnw w5 (.cells #[.int .i64 v0, .int .i64 v1, .int .i64 v2, .int .i64 v3] 24))))
    simp only at p0 p1 p2 p3
    go_wp2_with fail
    refine Calls.mono (HQ.out _) ?_
    rintro e w6 ⟨rfl, n6⟩
    have N6 : Hid (Nw w4 w6) := Nw.trans N5.out (Nw.trans (QBnw _ _) n6)
    clear n6 p0 p1 p2 p3
    go_wp2_with fail
    refine Calls.mono (HT.out _ (Stps.nw HR.out (Nw.trans N4.out N6.out))) ?_
    rintro e w7 ⟨rfl, n7, l7⟩
    have N7 : Hid (Nw w4 w7) := Nw.trans N6.out n7
    have L7 : Hid (Stps w7 (some ⟨w6.heap.size, 0, none⟩) l) := l7
    clear n7 l7
    go_wp2_with fail
    refine Calls.mono (HE.out _ _ _ (Stps.nw L4.out N7.out) L7.out) ?_
    rintro e w8 ⟨rfl, n8⟩
    have N8 : Hid (Nw w1 w8) := Nw.trans N4.out (Nw.trans N7.out n8)
    clear n8
    go_wp2
    go_ret
    exact ⟨rfl, N8.out⟩
  · rw [if_neg h] at HZ
    clear h
    generalize l.length = n at *
    go_enter Try.func9, Try.ntmps9
    go_wp2_with fail
    refine Calls.mono (HZ.out _) ?_
    rintro e w1 ⟨rfl, hw1⟩
    obtain rfl := hw1
    go_wp2
    go_ret
    exact ⟨rfl, Below.refl _ _⟩
end Go.Proofs.Ythlohbiocfeapaa
