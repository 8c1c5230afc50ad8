/-
  The law on SelectorText: the program's side, and the walk of the law's text; each theorem names its conditions.
-/
import Derived.Test.YtegjcllfjndkhaaISelT
import Derived.Test.YtegjcllfjndkhaaPsOpen
namespace Go.Proofs.Ytegjcllfjndkhaa
open Go.ChangeShapes Go.WideShapes Go.ChangeAt Go.RowKit
set_option linter.unusedVariables false

theorem iselectorText (w : World) (a : Option Addr) (c : Nat) (l : List PD) (hl : l.length ≤ 1048576) (hs : smallPs l) (hr : Parts w a l) :
    Calls Try.prog 7 #[.slice a l.length c] w fun e w' => e = .returned (selAns l) ∧ Nw w w' := by
  have HR : Hid (Parts w a l) := hr
  have HS : Hid (smallPs l) := hs
  clear hr hs
  by_cases h : selB l = true
  · have HX : Hid (selAns l = .tuple #[.string (selT l l.length), .bool true]) := selAns_yes h
    have hg : Hid ((1 ≤ l.length ∧ l.length ≤ 5) ∧ PsTo l l.length) := (selB_iff l).1 h
    go_enter Try.func7, Try.ntmps7
    go_wp2_with (first | (go_at_call 13; refine Calls.mono (igoodSel _ _ _ l hl HS.out HR.out) ?_; rw [h]; rintro e w1 ⟨rfl, k1⟩) | (go_at_call 14; refine Calls.mono (iappSel w1 w1 _ _ l _ ⟨#[]⟩ hg.out.1.2 hg.out.2 (HR.out.nw k1) (Below.refl _ _) (Buf.nil _ _) (by decide)) ?_; rintro e w2 ⟨v2, rfl, k2, b2⟩; rw [nil_app] at b2; have hconv := run_buf b2))
    go_ret2
    exact ⟨by rw [HX.out]; rfl, k1.trans k2⟩
  · have h' : selB l = false := by simpa using h
    have HX : Hid (selAns l = .tuple #[.string ⟨#[]⟩, .bool false]) := selAns_no h'
    go_enter Try.func7, Try.ntmps7
    go_wp2_with (go_at_call 13; refine Calls.mono (igoodSel _ _ _ l hl HS.out HR.out) ?_; rw [h']; rintro e w1 ⟨rfl, k1⟩)
    go_ret2
    exact ⟨by rw [HX.out]; rfl, k1⟩

theorem bulkPs_at (l : List PD) (k : Nat) (h : k < l.length) : bulkP (partAt l k) ≤ bulkPs l := by
  have h1 := bulkPs_step l k h
  have h2 := bulkPs_le l (k + 1)
  omega
theorem smallPs_of {l : List PD} (hb : ((l.length + bulkPs l : Nat) : Int) ≤ 1048576) : smallPs l ∧ lenPs l := by
  have key : ∀ i, i < l.length → smallP (partAt l i) := by
    intro i hi
    have h1 := bulkPs_at l i hi
    unfold bulkP at h1
    refine ⟨by omega, by omega, by omega, fun k hk => ?_⟩
    have h3 := bulk1_step (partAt l i).cls k hk
    have h4 := bulk1_le (partAt l i).cls (k + 1)
    omega
  exact ⟨key, fun i hi => (key i hi).len⟩
def ansS (l : List PD) : ByteArray := if selB l then selT l l.length else ⟨#[]⟩
theorem selAns_eq (l : List PD) : selAns l = .tuple #[.string (ansS l), .bool (selB l)] := by
  unfold selAns ansS
  cases selB l <;> rfl
set_option maxHeartbeats 4000000 in
theorem walk_sel (w : World) (a : Option Addr) (l : List PD) (c : Nat) (hr : Parts w a l) (ho : okPDs l) (hl : l.length ≤ maxLen) :
    Calls Try.prog 3 #[.slice a l.length c] w fun e w' => e = .returned (.bool true) ∧ Below w.heap.size w w' := by
  have HR : Hid (Parts w a l) := hr
  have HO : Hid (okPDs l) := ho
  have HL : Hid (l.length ≤ maxLen) := hl
  clear hr ho hl
  by_cases hb : ((l.length + bulkPs l : Nat) : Int) ≤ 1048576
  · have hs : szPs l 1048576 = 1048576 - ((l.length + bulkPs l : Nat) : Int) := by unfold szPs; rw [if_pos hb]
    have hneg : decide ((1048576 : Int) - ((l.length + bulkPs l : Nat) : Int) < 0) = false := decide_eq_false (by omega)
    have hll : l.length ≤ 1048576 := by omega
    obtain ⟨hsm, hlo⟩ := smallPs_of hb
    have HS : Hid (smallPs l) := hsm
    have HLO : Hid (lenPs l) := hlo
    have HA := selAns_eq l
    generalize ansS l = S at *
    generalize selB l = q at *
    generalize ((l.length + bulkPs l : Nat) : Int) = B at *
    clear hsm hlo hb
    go_enter Try.func3, Try.ntmps3
    go_wp2_with fail
    refine Calls.mono (szPartS_any _ a c l _ (by omega) (by omega) HL.out HR.out HO.out) ?_
    rw [hs]
    rintro e w1 ⟨rfl, k1⟩
    have S1 : Hid (Nw w w1) := k1
    clear k1
    go_wp2_with fail
    refine Calls.mono (toPartS_any _ a c l hll HLO.out (HR.out.nw S1.out)) ?_
    rintro e w2 ⟨rfl, k1, t1⟩
    have S2 : Hid (Nw w w2) := S1.out.trans k1
    have N2 : Hid (Parts w2 (some ⟨w1.heap.size, 0, none⟩) l) := t1.parts
    clear k1 t1
    go_wp2_with fail
    refine Calls.mono (sselectorText _ _ _ l hll HS.out N2.out) ?_
    rw [HA]
    rintro e w3 ⟨rfl, k1⟩
    have S3 : Hid (Nw w w3) := S2.out.trans k1
    clear k1 N2
    go_wp2_with fail
    refine Calls.mono (toPartS_any _ a c l hll HLO.out (HR.out.nw S3.out)) ?_
    rintro e w4 ⟨rfl, k1, t1⟩
    have S4 : Hid (Nw w w4) := S3.out.trans k1
    have N4 : Hid (Parts w4 (some ⟨w3.heap.size, 0, none⟩) l) := t1.parts
    clear k1 t1
    go_wp2_with fail
    refine Calls.mono (iselectorText _ _ _ l hll HS.out N4.out) ?_
    rw [HA]
    rintro e w5 ⟨rfl, k1⟩
    have S5 : Hid (Nw w w5) := S4.out.trans k1
    have N5 : Hid (Parts w5 (some ⟨w3.heap.size, 0, none⟩) l) := N4.out.nw k1
    clear k1 N4
    go_wp2_with fail
    refine Calls.mono (toPartS_any _ a c l hll HLO.out (HR.out.nw S5.out)) ?_
    rintro e w6 ⟨rfl, k1, t1⟩
    have S6 : Hid (Nw w w6) := S5.out.trans k1
    have N6 : Hid (Parts w6 (some ⟨w3.heap.size, 0, none⟩) l) := N5.out.nw k1
    have M6 : Hid (Parts w6 (some ⟨w5.heap.size, 0, none⟩) l) := t1.parts
    clear k1 t1 N5
    go_wp2_with fail
    refine Calls.mono (eqPartS_any _ _ _ _ _ l hll HLO.out N6.out M6.out) ?_
    rintro e w7 ⟨rfl, k1⟩
    go_wp2
    go_ret
    exact ⟨rfl, S6.out.trans k1⟩
  · have hs : szPs l 1048576 = -1 := by unfold szPs; rw [if_neg hb]
    clear hb
    go_enter Try.func3, Try.ntmps3
    go_wp2_with fail
    refine Calls.mono (szPartS_any _ a c l _ (by omega) (by omega) HL.out HR.out HO.out) ?_
    rw [hs]
    rintro e w1 ⟨rfl, k1⟩
    go_wp2
    go_ret
    exact ⟨rfl, k1⟩
end Go.Proofs.Ytegjcllfjndkhaa
