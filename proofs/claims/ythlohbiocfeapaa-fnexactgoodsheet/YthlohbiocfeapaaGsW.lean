/-
  The walk of the law on GoodSheet; its argument's length is at most what memory holds; each theorem names its conditions.
-/
import Derived.Test.YthlohbiocfeapaaGsR
import Derived.Test.YthlohbiocfeapaaSh
import Derived.Test.YthlohbiocfeapaaShI
namespace Go.Proofs.Ythlohbiocfeapaa
open Go.ChangeShapes Go.WideShapes Go.ChangeAt Go.RowKit
set_option linter.unusedVariables false

set_option maxRecDepth 100000 in
set_option maxHeartbeats 4000000 in
/-- The walk of the law on GoodSheet. -/
theorem walk_sheet (w : World) (pw ph : Int) (a : Option Addr) (l : List Edg) (c : Nat) (hr : Edgs w a l) (hl : l.length ≤ maxLen) :
    Calls Try.prog 11 #[.agg #[.int .i64 pw, .int .i64 ph, .slice a l.length c]] w fun e w' => e = .returned (.bool true) ∧ Below w.heap.size w w' := by
  have HZ : Hid _ := fun w => szSheet_any w ⟨pw, ph⟩ a l.length c 1048576 (by omega) (by omega) hl
  unfold mskV at HZ
  simp only at HZ
  obtain ⟨W, hW⟩ : ∃ W, w.alloc (.cells #[.int .i64 pw, .int .i64 ph, .slice a l.length c] 65) = W := ⟨_, rfl⟩
  have HP : Hid (MB W w.heap.size ⟨pw, ph⟩ (.slice a l.length c)) := by show MB _ _ _ _; rw [← hW]; exact MB.new w ⟨pw, ph⟩ _ _
  have NW : Hid (Nw w W) := by show Nw w W; rw [← hW]; exact (Below.refl _ _).alloc (Nat.le_refl _) _
  have HI : Hid (Edgs W a l) := hr.nw NW.out
  have HW : Hid (_ = W) := hW
  clear hW hr
  by_cases h : (l.length : Int) ≤ 1048576
  · rw [if_pos h] at HZ
    have hl1 : l.length ≤ 1048576 := by omega
    have HT : Hid (∀ w : World, Edgs w a l → _) := fun w h => toSheet_any w ⟨pw, ph⟩ a c l hl1 h
    have HS : Hid (∀ (w : World) (g : Nat), Edgs w (some ⟨g, 0, none⟩) l → _) := fun w g h => sgoodSh w ⟨pw, ph⟩ (some ⟨g, 0, none⟩) l.length l hl1 h
    have HG : Hid (∀ (w : World) (g : Nat), Edgs w (some ⟨g, 0, none⟩) l → _) := fun w g h => igoodSh w ⟨pw, ph⟩ (some ⟨g, 0, none⟩) l.length l hl1 h
    unfold mskV at HT HS HG
    simp only at HT HS HG
    generalize shB ⟨pw, ph⟩ l = V at *
    have hbb : (V != V) = false := by cases V <;> rfl
    have hd : decide (1048576 - (l.length : Int) < 0) = false := decide_eq_false (by omega)
    have HL : Hid (l.length ≤ 1048576) := hl1
    generalize hn : l.length = n at *
    have HN : Hid (l.length = n) := hn
    clear hl1 hl hn h
    go_enter Try.func11, Try.ntmps11
    go_wp2_with fail
    rw [HW.out]
    refine Calls.mono (HZ.out _) ?_
    rintro e w1 ⟨rfl, n1⟩
    have N1 : Hid (Nw W w1) := n1
    clear n1
    obtain ⟨q0, q1, q2⟩ := MB.nw HP.out N1.out
    simp only at q0 q1 q2
    go_wp2_with fail
    refine Calls.mono (HT.out _ (Edgs.nw HI.out N1.out)) ?_
    rintro e w2 ⟨g2, rfl, n2, _, l2⟩
    have N2 : Hid (Nw W w2) := Nw.trans N1.out n2
    have I2 : Hid (Edgs w2 (some ⟨g2, 0, none⟩) l) := l2.edgs
    clear n2 l2 q0 q1 q2
    go_wp2_with fail
    refine Calls.mono (HS.out _ _ I2.out) ?_
    rintro e w3 ⟨rfl, k3⟩
    have N3 : Hid (Nw W w3) := Nw.trans N2.out k3.nw
    clear k3 I2
    obtain ⟨q0, q1, q2⟩ := MB.nw HP.out N3.out
    simp only at q0 q1 q2
    go_wp2_with fail
    refine Calls.mono (HT.out _ (Edgs.nw HI.out N3.out)) ?_
    rintro e w4 ⟨g4, rfl, n4, _, l4⟩
    have N4 : Hid (Nw W w4) := Nw.trans N3.out n4
    have L4 : Hid (LayS w4 g4 l) := l4
    clear n4 l4 q0 q1 q2
    obtain ⟨W5, hW5⟩ : ∃ W5, w4.alloc (.cells #[.int .i64 pw, .int .i64 ph, .slice (some ⟨g4, 0, none⟩) n n] 57) = W5 := ⟨_, rfl⟩
    have n5 : Nw w4 W5 := by rw [← hW5]; exact (Below.refl _ _).alloc (Nat.le_refl _) _
    have P5 : Hid (MB W5 w4.heap.size ⟨pw, ph⟩ (.slice (some ⟨g4, 0, none⟩) n n)) := by show MB _ _ _ _; rw [← hW5]; exact MB.new w4 ⟨pw, ph⟩ _ _
    have L5 : Hid (LayS W5 g4 l) := LayS.nw L4.out n5
    have N5 : Hid (Nw W W5) := Nw.trans N4.out n5
    have H5 : Hid (_ = W5) := hW5
    clear hW5 n5
    go_wp2_with fail
    rw [H5.out]
    refine Calls.mono (HG.out _ _ (LayS.edgs L5.out)) ?_
    rintro e w6 ⟨rfl, k6⟩
    have N6 : Hid (Nw W w6) := Nw.trans N5.out k6.nw
    have P6 : Hid (MB w6.drew w4.heap.size ⟨pw, ph⟩ (.slice (some ⟨g4, 0, none⟩) n n)) := MB.nw P5.out (Below.drew k6.nw)
    have L6 : Hid (LayS w6.drew g4 l) := LayS.nw L5.out (Below.drew k6.nw)
    clear k6 H5
    go_wp2
    have hq : MB w6.drew w.heap.size ⟨pw, ph⟩ (.slice a l.length c) := by have := MB.nw HP.out (Below.drew N6.out); rw [HN.out]; exact this
    have hro : RowQ w6.drew (.slice (some ⟨g4, 0, none⟩) n n) l := by have := LayS.row (c := n) L6.out; rw [HN.out] at this; exact this
    refine reg_change (ops' := opsOf 10 Try.f11) (by kernel_rfl) ?_
    refine GS.run ⟨w4.heap.size, w.heap.size, ⟨pw, ph⟩, .slice (some ⟨g4, 0, none⟩) n n, a, c, l, w6.drew, _⟩ ⟨P6.out, hq, Edgs.nw HI.out (Below.drew N6.out), hro, by rw [HN.out]; exact HL.out, rfl, rfl, rfl⟩ w6 (Below.refl _ _) ?_
    rintro γ w7 ⟨hg2, n7⟩
    have N7 : Hid (Nw W w7) := Nw.trans N6.out n7.drw
    clear n7 hq hro
    simp only [hg2, Act.put, List.setIfInBounds_toArray, List.set_cons_zero, List.set_cons_succ]
    go_wp2
    go_ret
    exact ⟨rfl, Nw.trans NW.out N7.out⟩
  · rw [if_neg h] at HZ
    clear h
    generalize l.length = n at *
    go_enter Try.func11, Try.ntmps11
    go_wp2_with fail
    rw [HW.out]
    refine Calls.mono (HZ.out _) ?_
    rintro e w1 ⟨rfl, n1⟩
    have N1 : Hid (Nw w w1) := Nw.trans NW.out n1
    clear n1
    go_wp2
    go_ret
    exact ⟨rfl, N1.out⟩
end Go.Proofs.Ythlohbiocfeapaa
