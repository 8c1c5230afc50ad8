/-
  The law on ReadSheet: its walk; each theorem names its conditions.
  What a row wants of the call, the world's shape handed to the walk; each theorem names its conditions.
-/
import Derived.Test.YtnkmdmmlpidcmaaGreatDoorJAP
import Derived.Test.YtnkmdmmlpidcmaaGreatDoorJAQ
import Derived.Test.YtnkmdmmlpidcmaaGreatDoorRows
import Derived.Handed
import Derived.ProofKit
namespace Go.Proofs.YtnkmdmmlpidcmaaGreatDoor
open Go.ChangeShapes Go.WideShapes Go.ChangeAt Go.RowKit
set_option linter.unusedVariables false

set_option maxHeartbeats 4000000 in
theorem walk_rsheet (w : World) (hm : MaxL w) (s : ByteArray) (hs : s.size ≤ maxLen) : Calls Tryz.prog 4 #[.string s] w fun e w' => e = .returned (.bool true) ∧ Below w.heap.size w w' := by
  unfold maxLen at hs
  have HML : Hid (MaxL w) := hm
  clear hm
  by_cases h : 1048576 < s.size
  · go_enter Tryz.func4, Tryz.ntmps4
    go_wp2
    go_ret
    exact ⟨rfl, Below.refl _ _⟩
  · have hsz : s.size ≤ 1048576 := by omega
    have hd : decide (1048576 < (s.size : Int)) = false := by simp; omega
    have HS : Hid (∀ W, Calls Tryz.prog 15 #[.string s] W fun e w' => ShtSays s W w' e ∧ Nw W w') := fun W => ssheet s W hsz
    have HI : Hid (∀ W, MaxL W → Calls Tryz.prog 9 #[.string s] W fun e w' => ShtSays s W w' e ∧ Nw W w') := fun W h => isheet s W h hsz
    obtain ⟨hl12, hcb, hsel⟩ := shtL_small s
    have HSEL : Hid (∀ i, i < (shtL s).length → (ruleAt (shtL s) i).sels.length ≤ 1000000) := hsel
    have HLR : Hid (lenRs (shtL s)) := lenRs_sht s
    clear hsel
    unfold ShtSays at HS HI
    generalize shtL s = l at *
    generalize (!decide (1500 < s.size)) = b at *
    have HCB : Hid (1 + cntRs l ≤ 1000000) := by show _ ≤ _; omega
    obtain ⟨M, hM⟩ : ∃ M, 1 + cntRs l = M := ⟨_, rfl⟩
    have HM : Hid (1 + cntRs l = M) := hM
    clear hM
    go_enter Tryz.func4, Tryz.ntmps4
    go_wp2_with fail
    refine Calls.mono (HS.out _) ?_
    rintro e w1 ⟨⟨v1, rfl, r1⟩, k1⟩
    obtain ⟨a1, c1, rfl, _⟩ := r1.slice
    have P1 : Hid (RowM 2 ERule w1 (.slice a1 l.length c1) l (iv w w1)) := r1
    have B1 : Hid (Nw w w1) := k1
    clear r1 k1
    go_wp2_with fail
    refine Calls.mono (HI.out _ (HML.out.nw B1.out)) ?_
    rintro e w2 ⟨⟨v2, rfl, r2⟩, k2⟩
    obtain ⟨a2, c2, rfl, _⟩ := r2.slice
    have N2 : Hid (Nw w1 w2) := k2
    have R2 : Hid (RowM 2 ERule w2 (.slice a2 l.length c2) l (iv w1 w2)) := r2
    clear r2 k2
    go_wp2_with fail
    refine Calls.mono (eqRuleS_any _ (.slice a2 l.length c2) (.slice a1 l.length c1) l (iv w1 w2) (iv w w1) (by omega) HLR.out R2.out (P1.out.nw ERule.kept N2.out)) ?_
    rintro e w3 ⟨rfl, k3⟩
    have N3 : Hid (Nw w1 w3) := Nw.trans N2.out k3
    have R3 : Hid (RowM 2 ERule w3 (.slice a2 l.length c2) l (iv w1 w2)) := R2.out.nw ERule.kept k3
    clear k3 R2
    go_wp2_with fail
    refine Calls.mono (markRs_any _ (.slice a2 l.length c2) 1 l (iv w1 w2) (by omega) HSEL.out (by omega) (by omega) R3.out) ?_
    rintro e w4 ⟨rfl, k4, r4⟩
    rw [HM.out]
    have N4 : Hid (Nw w1 w4) := Below.trans N3.out (k4.below (fun x hx => hx.1) (Below.size N3.out))
    have R4 : Hid (RowM 2 ERule w4 (.slice a2 l.length c2) (mkRs 1 l) (iv w1 w2)) := r4
    clear k4 r4 R3
    go_wp2_with fail
    refine Calls.mono (heldRs_any _ (.slice a2 l.length c2) 1 l (iv w1 w2) (by omega) HSEL.out (by omega) (by omega) R4.out) ?_
    rintro e w5 ⟨rfl, k5⟩
    rw [HM.out]
    have N5 : Hid (Nw w1 w5) := Nw.trans N4.out k5
    have R5 : Hid (RowM 2 ERule w5 (.slice a2 l.length c2) (mkRs 1 l) (iv w1 w2)) := R4.out.nw ERule.kept k5
    clear k5 R4
    go_wp2_with fail
    refine Calls.mono (HI.out _ (HML.out.nw (Nw.trans B1.out N5.out))) ?_
    rintro e w6 ⟨⟨v6, rfl, r6⟩, k6⟩
    obtain ⟨a6, c6, rfl, _⟩ := r6.slice
    have N6 : Hid (Nw w1 w6) := Nw.trans N5.out k6
    have R6 : Hid (RowM 2 ERule w6 (.slice a2 l.length c2) (mkRs 1 l) (iv w1 w2)) := R5.out.nw ERule.kept k6
    have P6 : Hid (RowM 2 ERule w6 (.slice a6 l.length c6) l (iv w5 w6)) := r6
    clear r6 k6 R5
    go_wp2_with fail
    refine Calls.mono (eqRuleS_any _ (.slice a6 l.length c6) (.slice a1 l.length c1) l (iv w5 w6) (iv w w1) (by omega) HLR.out P6.out (P1.out.nw ERule.kept N6.out)) ?_
    rintro e w7 ⟨rfl, k7⟩
    have N7 : Hid (Nw w1 w7) := Nw.trans N6.out k7
    have R7 : Hid (RowM 2 ERule w7 (.slice a2 l.length c2) (mkRs 1 l) (iv w1 w2)) := R6.out.nw ERule.kept k7
    clear k7 R6 P6
    go_wp2_with fail
    refine Calls.mono (heldRs_any _ (.slice a2 l.length c2) 1 l (iv w1 w2) (by omega) HSEL.out (by omega) HCB.out R7.out) ?_
    rintro e w8 ⟨rfl, k8⟩
    rw [HM.out]
    have N8 : Hid (Nw w w8) := Nw.trans B1.out (Nw.trans N7.out k8)
    clear k8
    go_wp2
    go_ret
    exact ⟨rfl, N8.out⟩
end Go.Proofs.YtnkmdmmlpidcmaaGreatDoor
namespace Go.Proofs.YtnkmdmmlpidcmaaGreatDoor
open Go.ChangeShapes Go.WideShapes Go.ChangeAt Go.RowKit
set_option linter.unusedVariables false

theorem handed_shaped {H : Type} {enc : TypeId × Value → H} {a : Assume} {C : Checked} {os : Os} {f : FuncId} {fn : Func} {s : ChangeSpec} {conds : List PathCond} {apart fresh handsOn again : Bool} {X : World → Array Value → Prop}
    (hX : ∀ (w w' : World) (args : Array Value), w.heap = w'.heap → X w args → X w' args)
    (own : ownKnob C.prog.godebug = none) (started : os.Started) (noInit : C.prog.inits.idxOf? f = none) (hfn : C.prog.funcs[f]? = some fn)
    (witness : ∃ (w : World) (tape : Tape) (i : Input), w.os = os ∧ (w.forCall tape i).Shaped C.prog ∧ i.vars = [] ∧ Input.okWide C.prog (w.forCall tape i) .any w.heap.size f i ∧
      ((s.pre enc C.prog fn conds apart (w.forCall tape i).memory i.args ∧ X (w.forCall tape i).memory i.args) ∧ sizedMet enc C.prog fn (OpenSpec.ofChange s) apart (w.forCall tape i).memory i.args) ∧ a.holds C.prog (lone (Frame.enter C.prog f i.args .normal) [] (w.forCall tape i)))
    (contract : ∀ (W : World) (base : Nat) (args : Array Value) (ds gs : List (DataW H)) (before : List MemPlace),
      (∀ (j : Nat) t v, fn.params[j]? = some t → args[j]? = some v → Value.okWide C.prog W .any base t v) →
      DataW.Whole enc C.prog fn.params.toList s.vars apart W args.toList ds gs before →
      conds.all (PathCond.test C.prog ⟨fn.params.toList, ds, s.plain.varTypes C.prog, gs⟩) = true →
      (DataW.weightsEach C.prog (fn.params.toList ++ s.plain.varTypes C.prog) (ds ++ gs)).all (· ≤ reachBytes) = true → X W args →
      W.ShapedOpen C.prog →
      a.holds C.prog (lone (Frame.enter C.prog f args .normal) [] W) →
      Calls C.prog f args W fun e W' => ∃ v, e = .returned v ∧ s.post enc C.prog fn apart fresh handsOn again W args v W') :
    ReturnsInHanded a C os f .any (fun w args => (s.pre enc C.prog fn conds apart w args ∧ X w args) ∧ sizedMet enc C.prog fn (OpenSpec.ofChange s) apart w args) (s.post enc C.prog fn apart fresh handsOn again) := by
  refine returnsInHanded_of_calls own started noInit witness fun w tape i _ hsh _ hok hpre hh => ?_
  obtain ⟨_, _, _, fn2, hfn2, _, _, _, _, hval⟩ := hok
  obtain rfl : fn2 = fn := Option.some.inj (hfn2.symm.trans hfn)
  obtain ⟨⟨⟨ds, gs, bf, hw, hc⟩, hx⟩, hz⟩ := hpre
  have call := contract (w.forCall tape i) w.heap.size i.args ds gs bf hval (DataW.Whole.of_heap (w' := w.forCall tape i) (by rfl) hw) hc (hz.weights hw) (hX _ _ _ (by rfl) hx) hsh hh
  refine call.mono fun e W' ⟨v, he, hp⟩ => ?_
  subst he
  exact ChangeSpec.post_blind hp
end Go.Proofs.YtnkmdmmlpidcmaaGreatDoor
