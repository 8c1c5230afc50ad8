/-
  The law on ReadSelector: its walk; each theorem names its conditions.
-/
import Derived.Test.YtnkmdmmlpidcmaaDoorRsI
import Derived.Test.YtnkmdmmlpidcmaaDoorRsS
import Derived.Test.YtnkmdmmlpidcmaaDoorRwH
namespace Go.Proofs.YtnkmdmmlpidcmaaDoor
open Go.ChangeShapes Go.WideShapes Go.ChangeAt Go.RowKit
set_option linter.unusedVariables false

theorem prD_small {s : ByteArray} (h : okW s = true) : (prD s).cls.length ≤ 4 := by
  unfold okW at h
  unfold prD prP at *
  cases e : prs s.data.toList with
  | none => rw [e] at h; cases h
  | some p =>
    rw [Option.map_some, Option.getD_some]
    unfold ofL
    simp only [List.length_map]
    exact (prs_sound e).1.few
theorem selL_small (s : ByteArray) : (selL s).length ≤ 5 ∧ ∀ p, p ∈ selL s → p.cls.length ≤ 4 := by
  unfold selL
  cases h : selOkW (wordsOf s) with
  | false => rw [selLW_no h]; exact ⟨Nat.zero_le _, (fun p hp => by cases hp)⟩
  | true =>
    rw [selLW_yes h]
    unfold selOkW at h
    rw [Bool.and_eq_true, decide_eq_true_eq] at h
    refine ⟨by rw [List.length_map]; exact h.1.2, fun p hp => ?_⟩
    obtain ⟨x, hx, rfl⟩ := List.mem_map.1 hp
    exact prD_small (List.all_eq_true.1 h.2 x hx)
theorem cntPs_bd (l : List PD) (h : ∀ p, p ∈ l → p.cls.length ≤ 4) : cntPs l ≤ 6 * l.length := by
  unfold cntPs
  induction l with
  | nil => simp
  | cons p l ih =>
    have h1 := h p List.mem_cons_self
    have h2 := ih (fun q hq => h q (List.mem_cons_of_mem _ hq))
    rw [List.map_cons, List.sum_cons, List.length_cons]
    show 2 + p.cls.length + _ ≤ _
    omega
theorem lenPs_of {l : List PD} (h : ∀ p, p ∈ l → p.cls.length ≤ 4) : lenPs l := by
  intro i hi
  have := h (partAt l i) (by simp [partAt, hi])
  omega
set_option maxHeartbeats 4000000 in
theorem walk_rsel (w : World) (s : ByteArray) (hs : s.size ≤ maxLen) : Calls Tryd.prog 4 #[.string s] w fun e w' => e = .returned (.bool true) ∧ Below w.heap.size w w' := by
  unfold maxLen at hs
  by_cases h : 1048576 < s.size
  · go_enter Tryd.func4, Tryd.ntmps4
    go_wp2
    go_ret
    exact ⟨rfl, Below.refl _ _⟩
  · have hsz : s.size ≤ 1048576 := by omega
    have hd : decide (1048576 < (s.size : Int)) = false := by simp; omega
    have HS : Hid (∀ W, Calls Tryd.prog 12 #[.string s] W fun e w' => SelSays s W w' e ∧ Nw W w') := fun W => sreadSel W s hsz
    have HI : Hid (∀ W, Calls Tryd.prog 13 #[.string s] W fun e w' => SelSays s W w' e ∧ Nw W w') := fun W => ireadSel W s hsz
    obtain ⟨hl5, hc4⟩ := selL_small s
    have hcb := cntPs_bd _ hc4
    have HLP : Hid (lenPs (selL s)) := lenPs_of hc4
    clear hc4
    unfold SelSays at HS HI
    generalize selL s = l at *
    generalize selOk s = b at *
    have HCB : Hid (1 + cntPs l ≤ 1000000) := by show _ ≤ _; omega
    obtain ⟨M, hM⟩ : ∃ M, 1 + cntPs l = M := ⟨_, rfl⟩
    have HM : Hid (1 + cntPs l = M) := hM
    clear hM
    go_enter Tryd.func4, Tryd.ntmps4
    go_wp2_with fail
    refine Calls.mono (HS.out _) ?_
    rintro e w1 ⟨⟨v1, rfl, r1⟩, k1⟩
    obtain ⟨a1, c1, rfl, _, p1⟩ := r1.parts
    have P1 : Hid (Parts w1 a1 l) := p1
    have B1 : Hid (Nw w w1) := k1
    clear r1 p1 k1
    go_wp2_with fail
    refine Calls.mono (HI.out _) ?_
    rintro e w2 ⟨⟨v2, rfl, r2⟩, k2⟩
    obtain ⟨a2, c2, rfl, _, p2⟩ := r2.parts
    have N2 : Hid (Nw w1 w2) := k2
    have R2 : Hid (RowM 3 EPart w2 (.slice a2 l.length c2) l (iv w1 w2)) := r2
    have P2 : Hid (Parts w2 a2 l) := p2
    clear r2 p2 k2
    go_wp2_with fail
    refine Calls.mono (eqPartS_any _ a2 a1 c2 c1 l (by omega) HLP.out P2.out (P1.out.nw N2.out)) ?_
    rintro e w3 ⟨rfl, k3⟩
    have N3 : Hid (Nw w1 w3) := Nw.trans N2.out k3
    have R3 : Hid (RowM 3 EPart w3 (.slice a2 l.length c2) l (iv w1 w2)) := R2.out.nw EPart.kept k3
    clear k3 R2 P2
    go_wp2_with fail
    refine Calls.mono (markPt_any _ (.slice a2 l.length c2) 1 l (iv w1 w2) (by omega) (by omega) R3.out) ?_
    rintro e w4 ⟨rfl, k4, r4⟩
    rw [HM.out]
    have N4 : Hid (Nw w1 w4) := Below.trans N3.out (k4.below (fun x hx => hx.1) (Below.size N3.out))
    have R4 : Hid (RowM 3 EPart w4 (.slice a2 l.length c2) (mkPs 1 l) (iv w1 w2)) := r4
    clear k4 r4 R3
    go_wp2_with fail
    refine Calls.mono (heldPt_any _ (.slice a2 l.length c2) 1 l (iv w1 w2) (by omega) (by omega) R4.out) ?_
    rintro e w5 ⟨rfl, k5⟩
    rw [HM.out]
    have N5 : Hid (Nw w1 w5) := Nw.trans N4.out k5
    have R5 : Hid (RowM 3 EPart w5 (.slice a2 l.length c2) (mkPs 1 l) (iv w1 w2)) := R4.out.nw EPart.kept k5
    clear k5 R4
    go_wp2_with fail
    refine Calls.mono (HI.out _) ?_
    rintro e w6 ⟨⟨v6, rfl, r6⟩, k6⟩
    obtain ⟨a6, c6, rfl, _, p6⟩ := r6.parts
    have N6 : Hid (Nw w1 w6) := Nw.trans N5.out k6
    have R6 : Hid (RowM 3 EPart w6 (.slice a2 l.length c2) (mkPs 1 l) (iv w1 w2)) := R5.out.nw EPart.kept k6
    have P6 : Hid (Parts w6 a6 l) := p6
    clear r6 p6 k6 R5
    go_wp2_with fail
    refine Calls.mono (eqPartS_any _ a6 a1 c6 c1 l (by omega) HLP.out P6.out (P1.out.nw N6.out)) ?_
    rintro e w7 ⟨rfl, k7⟩
    have N7 : Hid (Nw w1 w7) := Nw.trans N6.out k7
    have R7 : Hid (RowM 3 EPart w7 (.slice a2 l.length c2) (mkPs 1 l) (iv w1 w2)) := R6.out.nw EPart.kept k7
    clear k7 R6 P6
    go_wp2_with fail
    refine Calls.mono (heldPt_any _ (.slice a2 l.length c2) 1 l (iv w1 w2) (by omega) HCB.out R7.out) ?_
    rintro e w8 ⟨rfl, k8⟩
    rw [HM.out]
    have N8 : Hid (Nw w w8) := Nw.trans B1.out (Nw.trans N7.out k8)
    clear k8
    go_wp2
    go_ret
    exact ⟨rfl, N8.out⟩
end Go.Proofs.YtnkmdmmlpidcmaaDoor
