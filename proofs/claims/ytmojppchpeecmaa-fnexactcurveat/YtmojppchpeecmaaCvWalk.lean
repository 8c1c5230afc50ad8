/-
  The walk of the law on CurveAt; its argument's length is at most what memory holds.
-/
import Derived.Test.YtmojppchpeecmaaCvAt
namespace Go.Proofs.Ytmojppchpeecmaa
open Go.ChangeShapes Go.WideShapes Go.ChangeAt Go.RowKit
set_option linter.unusedVariables false

set_option maxHeartbeats 4000000 in
/-- The walk of the law on CurveAt. -/
theorem walk_curve (w : World) (a : Option Addr) (l : List Pnt) (c : Nat) (k : Int) (hr : Pts w a l) (hl : l.length ≤ maxLen) (hk : -9223372036854775808 ≤ k ∧ k ≤ 9223372036854775807) :
    Calls Try.prog 4 #[.slice a l.length c, .int .i64 k] w fun e w' => e = .returned (.bool true) ∧ Below w.heap.size w w' := by
  have HZ : Hid _ := fun w => szPointS_any w a l.length c 1048576 (by omega) (by omega) hl
  by_cases h : (l.length : Int) ≤ 1048576
  · rw [if_pos h] at HZ
    have HS : Hid (CvSays 11 l k) := scurveAt l k (by omega)
    have HI : Hid (CvSays 10 l k) := icurveAt l k (by omega)
    have HT : Hid _ := fun (w : World) (h : Pts w a l) => toPointS_any w a c l (by omega) h
    have HR : Hid (Pts w a l) := hr
    have hE : Hid _ := fun (w : World) (x1 x2 : Nat) (h1 : Pts w (some ⟨x1, 0, none⟩) l) (h2 : Pts w (some ⟨x2, 0, none⟩) l) => eqPointS_any w _ _ l.length l.length l (by omega) h1 h2
    clear hr
    unfold CvSays at HS HI
    generalize cvV l k = r at *
    obtain ⟨⟨rx, ry⟩, rb⟩ := r
    simp only at *
    have HQ : Hid _ := fun w => eqPoint_any w rx ry
    go_enter Try.func4, Try.ntmps4
    go_wp2_with fail
    refine (HZ.out _).mono ?_
    rintro e w1 ⟨rfl, rfl⟩
    have hlt : ((1048576 : Int) - l.length < 0) = False := by simp; omega
    go_wp2_with fail
    refine Calls.mono (HT.out _ HR.out) ?_
    rintro e w2 ⟨rfl, n2, l2⟩
    have P2 : Hid _ := l2.pts
    have N2 : Hid _ := n2
    clear n2 l2
    go_wp2_with fail
    refine Calls.mono (HS.out _ _ _ P2.out) ?_
    rintro e w3 ⟨rfl, k3⟩
    have N3 : Hid (Nw w1 w3) := Nw.trans N2.out k3.nw
    clear k3 P2 N2
    go_wp2_with fail
    refine Calls.mono (HT.out _ (HR.out.nw (Nw.trans N3.out ((Below.refl _ _).alloc (Nat.le_refl _) _)))) ?_
    rintro e w4 ⟨rfl, n4, l4⟩
    have b0 := ((bcell n4).1 w3.heap.size 0 (by simp)).trans (by simp : _ = some (.int .i64 rx))
    have b1 := ((bcell n4).1 w3.heap.size 1 (by simp)).trans (by simp : _ = some (.int .i64 ry))
    have hs4 : w3.heap.size + 1 < w4.heap.size := by have := l4.1; simpa using this
    have P4 : Hid (Pts w4 (some ⟨w3.heap.size + 1, 0, none⟩) l) := by show Pts _ _ _; have := l4.pts; simpa using this
    have N4 : Hid (Nw w1 w4) := Nw.trans N3.out (Nw.trans ((Below.refl _ _).alloc (Nat.le_refl _) _) n4)
    have hsz : (w3.alloc (.cells #[.int .i64 rx, .int .i64 ry] 27)).heap.size = w3.heap.size + 1 := by simp
    rw [hsz]
    clear hsz n4 l4 N3
    go_wp2_with fail
    refine Calls.mono (HI.out _ _ _ P4.out) ?_
    rintro e w5 ⟨rfl, k5⟩
    replace b0 := (k5.cells.1 _ _ (by omega)).trans b0
    replace b1 := (k5.cells.1 _ _ (by omega)).trans b1
    have hs5 : w3.heap.size + 1 < w5.heap.size := Nat.lt_of_lt_of_le hs4 k5.size
    have P5 : Hid _ := Pts.nw P4.out k5.nw
    have N5 : Hid (Nw w1 w5) := Nw.trans N4.out k5.nw
    clear k5 P4 N4 hs4
    have b2 : (w5.alloc (.cells #[.int .i64 rx, .int .i64 ry] 27)).cell? ⟨w3.heap.size, 0, none⟩ = some (.int .i64 rx) := (Below.cell ((Below.refl w5.heap.size w5).alloc (Nat.le_refl _) _) (p := ⟨w3.heap.size, 0, none⟩) (by simp; omega)).trans b0
    have b3 : (w5.alloc (.cells #[.int .i64 rx, .int .i64 ry] 27)).cell? ⟨w3.heap.size, 1, none⟩ = some (.int .i64 ry) := (Below.cell ((Below.refl w5.heap.size w5).alloc (Nat.le_refl _) _) (p := ⟨w3.heap.size, 1, none⟩) (by simp; omega)).trans b1
    clear b0 b1
    have hbb : (rb != rb) = false := by cases rb <;> rfl
    go_wp2_with fail
    refine (HQ.out _).mono ?_
    rintro e w6 ⟨rfl, n6⟩
    have P6 : Hid _ := Pts.nw P5.out (Nw.trans ((Below.refl _ _).alloc (Nat.le_refl _) _) n6)
    have N6 : Hid (Nw w1 w6) := Nw.trans N5.out (Nw.trans ((Below.refl _ _).alloc (Nat.le_refl _) _) n6)
    clear n6 b2 b3 P5 N5
    go_wp2_with fail
    refine Calls.mono (HT.out _ (HR.out.nw N6.out)) ?_
    rintro e w7 ⟨rfl, n7, l7⟩
    have P7 : Hid _ := Pts.nw P6.out n7
    have L7 : Hid _ := l7.pts
    have N7 : Hid (Nw w1 w7) := Nw.trans N6.out n7
    clear n7 l7 P6 N6
    go_wp2_with fail
    refine Calls.mono (hE.out _ _ _ P7.out L7.out) ?_
    rintro e w8 ⟨rfl, n8⟩
    have N8 : Hid (Nw w1 w8) := Nw.trans N7.out n8
    clear n8
    go_wp2
    go_ret
    exact ⟨rfl, N8.out⟩
  · rw [if_neg h] at HZ
    clear hr
    go_enter Try.func4, Try.ntmps4
    go_wp2_with fail
    refine (HZ.out _).mono ?_
    rintro e w1 ⟨rfl, rfl⟩
    go_wp2
    go_ret
    exact ⟨rfl, Below.refl _ _⟩
end Go.Proofs.Ytmojppchpeecmaa
