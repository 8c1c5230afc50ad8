/-
  The law on ReadStyle: its walk; each theorem names its conditions.
-/
import Derived.Test.YtnkmdmmlpidcmaaDoorRyI
import Derived.Test.YtnkmdmmlpidcmaaDoorDeM
namespace Go.Proofs.YtnkmdmmlpidcmaaDoor
open Go.ChangeShapes Go.WideShapes Go.ChangeAt Go.RowKit
set_option linter.unusedVariables false

set_option maxHeartbeats 4000000 in
theorem walk_style (w : World) (hm : MaxL w) (s : ByteArray) (hs : s.size ≤ maxLen) : Calls Tryd.prog 3 #[.string s] w fun e w' => e = .returned (.bool true) ∧ Below w.heap.size w w' := by
  unfold maxLen at hs
  have HML : Hid (MaxL w) := hm
  clear hm
  by_cases h : 1048576 < s.size
  · go_enter Tryd.func3, Tryd.ntmps3
    go_wp2
    go_ret
    exact ⟨rfl, Below.refl _ _⟩
  · have hsz : s.size ≤ 1048576 := by omega
    have hd : decide (1048576 < (s.size : Int)) = false := by simp; omega
    have HS : Hid (∀ W, Calls Tryd.prog 7 #[.string s] W fun e w' => StySays s W w' e ∧ Nw W w') := fun W => sstyle s W hsz
    have HI : Hid (∀ W, MaxL W → Calls Tryd.prog 8 #[.string s] W fun e w' => StySays s W w' e ∧ Nw W w') := fun W h => istyle s W h hsz
    have hl12 := styL_le s
    unfold StySays at HS HI
    generalize styL s = l at *
    generalize (!decide (1500 < s.size)) = b at *
    have HCB : Hid (1 + 3 * l.length ≤ 1000000) := by show _ ≤ _; omega
    obtain ⟨M, hM⟩ : ∃ M, 1 + 3 * l.length = M := ⟨_, rfl⟩
    have HM : Hid (1 + 3 * l.length = M) := hM
    clear hM
    go_enter Tryd.func3, Tryd.ntmps3
    go_wp2_with fail
    refine Calls.mono (HS.out _) ?_
    rintro e w1 ⟨⟨v1, rfl, r1⟩, k1⟩
    obtain ⟨a1, c1, rfl, _, p1⟩ := r1.decls
    have P1 : Hid (Decls w1 a1 l) := p1
    have B1 : Hid (Nw w w1) := k1
    clear r1 p1 k1
    go_wp2_with fail
    refine Calls.mono (HI.out _ (HML.out.nw B1.out)) ?_
    rintro e w2 ⟨⟨v2, rfl, r2⟩, k2⟩
    obtain ⟨a2, c2, rfl, _, p2⟩ := r2.decls
    have N2 : Hid (Nw w1 w2) := k2
    have R2 : Hid (RowM 3 EDecl w2 (.slice a2 l.length c2) l (iv w1 w2)) := r2
    have P2 : Hid (Decls w2 a2 l) := p2
    clear r2 p2 k2
    go_wp2_with fail
    refine Calls.mono (eqDeclS_any _ a2 a1 c2 c1 l (by omega) P2.out (P1.out.nw N2.out)) ?_
    rintro e w3 ⟨rfl, k3⟩
    have N3 : Hid (Nw w1 w3) := Nw.trans N2.out k3
    have R3 : Hid (RowM 3 EDecl w3 (.slice a2 l.length c2) l (iv w1 w2)) := R2.out.nw EDecl.kept k3
    clear k3 R2 P2
    go_wp2_with fail
    refine Calls.mono (markDl_any _ (.slice a2 l.length c2) 1 l (iv w1 w2) (by omega) (by omega) R3.out) ?_
    rintro e w4 ⟨rfl, k4, r4⟩
    rw [HM.out]
    have N4 : Hid (Nw w1 w4) := Below.trans N3.out (k4.below (fun x hx => hx.1) (Below.size N3.out))
    have R4 : Hid (RowM 3 EDecl w4 (.slice a2 l.length c2) (mkDs 1 l.length) (iv w1 w2)) := r4
    clear k4 r4 R3
    go_wp2_with fail
    refine Calls.mono (heldDl_any _ (.slice a2 l.length c2) 1 l.length (iv w1 w2) (by omega) (by omega) R4.out) ?_
    rintro e w5 ⟨rfl, k5⟩
    rw [HM.out]
    have N5 : Hid (Nw w1 w5) := Nw.trans N4.out k5
    have R5 : Hid (RowM 3 EDecl w5 (.slice a2 l.length c2) (mkDs 1 l.length) (iv w1 w2)) := R4.out.nw EDecl.kept k5
    clear k5 R4
    go_wp2_with fail
    refine Calls.mono (HI.out _ (HML.out.nw (Nw.trans B1.out N5.out))) ?_
    rintro e w6 ⟨⟨v6, rfl, r6⟩, k6⟩
    obtain ⟨a6, c6, rfl, _, p6⟩ := r6.decls
    have N6 : Hid (Nw w1 w6) := Nw.trans N5.out k6
    have R6 : Hid (RowM 3 EDecl w6 (.slice a2 l.length c2) (mkDs 1 l.length) (iv w1 w2)) := R5.out.nw EDecl.kept k6
    have P6 : Hid (Decls w6 a6 l) := p6
    clear r6 p6 k6 R5
    go_wp2_with fail
    refine Calls.mono (eqDeclS_any _ a6 a1 c6 c1 l (by omega) P6.out (P1.out.nw N6.out)) ?_
    rintro e w7 ⟨rfl, k7⟩
    have N7 : Hid (Nw w1 w7) := Nw.trans N6.out k7
    have R7 : Hid (RowM 3 EDecl w7 (.slice a2 l.length c2) (mkDs 1 l.length) (iv w1 w2)) := R6.out.nw EDecl.kept k7
    clear k7 R6 P6
    go_wp2_with fail
    refine Calls.mono (heldDl_any _ (.slice a2 l.length c2) 1 l.length (iv w1 w2) (by omega) HCB.out R7.out) ?_
    rintro e w8 ⟨rfl, k8⟩
    rw [HM.out]
    have N8 : Hid (Nw w w8) := Nw.trans B1.out (Nw.trans N7.out k8)
    clear k8
    go_wp2
    go_ret
    exact ⟨rfl, N8.out⟩
end Go.Proofs.YtnkmdmmlpidcmaaDoor
