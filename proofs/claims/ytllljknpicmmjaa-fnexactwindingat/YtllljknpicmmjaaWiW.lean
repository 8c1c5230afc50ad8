/-
  The walk of the law on WindingAt; its argument's lengths are at most what memory holds; each theorem names its conditions.
-/
import Derived.Test.YtllljknpicmmjaaWi
import Derived.Test.YtllljknpicmmjaaLnT
namespace Go.Proofs.Ytllljknpicmmjaa
open Go.ChangeShapes Go.WideShapes Go.ChangeAt Go.RowKit
set_option linter.unusedVariables false

set_option maxRecDepth 100000 in
set_option maxHeartbeats 4000000 in
/-- The walk of the law on WindingAt. -/
theorem walk_wind (w : World) (a : Option Addr) (l : List LD) (c : Nat) (x y : Int) (hr : Lines w a l) (ho : ∀ i, i < l.length → (lnAt l i).pts.length ≤ maxLen) (hl : l.length ≤ maxLen) (hx : -9223372036854775808 ≤ x ∧ x ≤ 9223372036854775807) (hy : -9223372036854775808 ≤ y ∧ y ≤ 9223372036854775807) :
    Calls Try.prog 5 #[.slice a l.length c, .int .i64 x, .int .i64 y] w fun e w' => e = .returned (.bool true) ∧ Below w.heap.size w w' := by
  have HZ : Hid _ := szLineS_any w a c l 1048576 (by omega) (by omega) hl ho hr
  have HR : Hid (Lines w a l) := hr
  unfold szLn at HZ
  clear hx hy hr ho
  by_cases h : ((l.length + manyL l : Nat) : Int) ≤ 1048576
  · rw [if_pos h] at HZ
    have hl1 : l.length ≤ 1048576 := by omega
    have hm1 : manyL l ≤ 1048576 := by omega
    have hle : lenL l := fun i hi => Nat.le_trans (manyL_at l i hi) hm1
    have HT : Hid (∀ w, Lines w a l → _) := fun w h => toLineS_any w a c l hl1 hle h
    have HS : Hid (∀ (w : World) (g : Nat), Lines w (some ⟨g, 0, none⟩) l → _) := fun w g h => swind w (some ⟨g, 0, none⟩) l.length l x y hl1 hm1 h
    have HI : Hid (∀ (w : World) (g : Nat), Lines w (some ⟨g, 0, none⟩) l → _) := fun w g h => iwind w (some ⟨g, 0, none⟩) l.length l x y hl1 hm1 h
    have HE : Hid (∀ (w : World) (g1 g2 : Nat), Lines w (some ⟨g1, 0, none⟩) l → Lines w (some ⟨g2, 0, none⟩) l → _) := fun w g1 g2 h1 h2 => eqLineS_any w (.slice (some ⟨g1, 0, none⟩) l.length l.length) (.slice (some ⟨g2, 0, none⟩) l.length l.length) l hl1 hle ⟨_, _, rfl, h1⟩ ⟨_, _, rfl, h2⟩
    generalize wiB l x y = V at *
    generalize wiV l x y = Z at *
    have hbb : (V != V) = false := by cases V <;> rfl
    have hzz : (Z != Z) = false := by simp
    have hd : decide (1048576 - ((l.length + manyL l : Nat) : Int) < 0) = false := decide_eq_false (by omega)
    generalize ((l.length + manyL l : Nat) : Int) = M at *
    clear hl1 hm1 hle hl
    generalize l.length = n at *
    go_enter Try.func5, Try.ntmps5
    go_wp2_with fail
    refine Calls.mono HZ.out ?_
    rintro e w1 ⟨rfl, n1⟩
    have N1 : Hid (Nw w w1) := n1
    clear n1
    go_wp2_with fail
    refine Calls.mono (HT.out _ (Lines.nw HR.out N1.out)) ?_
    rintro e w2 ⟨rfl, n2, it, hit, l2⟩
    have N2 : Hid (Nw w w2) := Nw.trans N1.out n2
    have L2 : Hid (Lines w2 (some ⟨w1.heap.size, 0, none⟩) l) := by have := l2.lines; rw [hit] at this; exact this
    clear n2 it hit l2
    go_wp2_with fail
    refine Calls.mono (HS.out _ _ L2.out) ?_
    rintro e w3 ⟨rfl, n3⟩
    have N3 : Hid (Nw w w3) := Nw.trans N2.out n3
    clear n3
    go_wp2_with fail
    refine Calls.mono (HT.out _ (Lines.nw HR.out N3.out)) ?_
    rintro e w4 ⟨rfl, n4, it, hit, l4⟩
    have N4 : Hid (Nw w w4) := Nw.trans N3.out n4
    have L4 : Hid (Lines w4 (some ⟨w3.heap.size, 0, none⟩) l) := by have := l4.lines; rw [hit] at this; exact this
    clear n4 it hit l4
    go_wp2_with fail
    refine Calls.mono (HI.out _ _ L4.out) ?_
    rintro e w5 ⟨rfl, n5⟩
    have N5 : Hid (Nw w4 w5) := n5
    clear n5
    go_wp2_with fail
    refine Calls.mono (HT.out _ (Lines.nw HR.out (Nw.trans N4.out N5.out))) ?_
    rintro e w6 ⟨rfl, n6, it, hit, l6⟩
    have N6 : Hid (Nw w4 w6) := Nw.trans N5.out n6
    have L6 : Hid (Lines w6 (some ⟨w5.heap.size, 0, none⟩) l) := by have := l6.lines; rw [hit] at this; exact this
    clear n6 it hit l6
    go_wp2_with fail
    refine Calls.mono (HE.out _ _ _ (Lines.nw L4.out N6.out) L6.out) ?_
    rintro e w7 ⟨rfl, n7⟩
    have N7 : Hid (Nw w w7) := Nw.trans N4.out (Nw.trans N6.out n7)
    clear n7
    go_wp2
    go_ret
    exact ⟨rfl, N7.out⟩
  · rw [if_neg h] at HZ
    clear h
    generalize l.length = n at *
    go_enter Try.func5, Try.ntmps5
    go_wp2_with fail
    refine Calls.mono HZ.out ?_
    rintro e w1 ⟨rfl, n1⟩
    have N1 : Hid (Nw w w1) := n1
    clear n1
    go_wp2
    go_ret
    exact ⟨rfl, N1.out⟩
end Go.Proofs.Ytllljknpicmmjaa
