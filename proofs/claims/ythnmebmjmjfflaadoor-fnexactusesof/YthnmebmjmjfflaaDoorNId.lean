/-
  The node with an id, the program's and the specification's; each theorem names its conditions.
-/
import Derived.Test.YthnmebmjmjfflaaDoorTgI
import Derived.Test.YthnmebmjmjfflaaDoorLet
namespace Go.Proofs.YthnmebmjmjfflaaDoor
open Go.ChangeShapes Go.WideShapes Go.ChangeAt Go.RowKit
set_option linter.unusedVariables false

def SmV (l : List ND) : Prop := ∀ i, i < l.length → (nodeAt l i).attrs.length ≤ 1048576 ∧ ∀ k, k < (nodeAt l i).attrs.length → (pairAt (nodeAt l i).attrs k).2.size ≤ 1048576
/-- The look of the closure: whether a node's id is the one in the block g. -/
theorem inodeEq (w : World) (name : ByteArray) (up : Int) (l : List Pair) (text : ByteArray) (a : Option Addr) (c g : Nat) (id : ByteArray) (hl : l.length ≤ 1048576) (hv : ∀ i, i < l.length → (pairAt l i).2.size ≤ 1048576) (hr : Attrs w a l) (hg : g < w.heap.size) (hi : w.cell? ⟨g, 0, none⟩ = some (.string id)) :
    Calls Tryd.prog 60 #[.agg #[.string name, .int .i64 up, .slice a l.length c, .string text], .pointer (some ⟨g, 0, none⟩)] w fun e w' => e = .returned (.bool (decide (attrV l idA = id))) ∧ Nw w w' := by
  have S0 : Hid (Nw w (w.alloc (.cells #[.string name, .int .i64 up, .slice a l.length c, .string text] 46))) := (Below.refl _ _).alloc (Nat.le_refl _) _
  have HA : Hid (Attrs w a l) := hr
  have HV : Hid (∀ i, i < l.length → (pairAt l i).2.size ≤ 1048576) := hv
  have HG : Hid (g < w.heap.size) := hg
  have HI : Hid (w.cell? ⟨g, 0, none⟩ = some (.string id)) := hi
  clear hr hv hi
  go_enter Tryd.func60, Tryd.ntmps60
  go_wp2_with fail
  refine Calls.mono (iattrV _ name up l text a c idA hl HV.out (HA.out.nw S0.out)) ?_
  rintro e w1 ⟨rfl, k1⟩
  have S1 : Hid (Nw w w1) := S0.out.trans k1
  have q1 : w1.cell? ⟨g, 0, none⟩ = some (.string id) := ((bcell S1.out).1 _ _ HG.out).trans HI.out
  clear k1
  generalize attrO l idA = vo at *
  by_cases e : attrV l idA = id
  · have hq : ((attrV l idA).toList == id.toList) = true := by rw [e]; simp
    have HD : Hid (decide (attrV l idA = id) = true) := decide_eq_true e
    clear e
    go_wp2
    go_ret
    exact ⟨by rw [HD.out]; rfl, S1.out⟩
  · have hq : ((attrV l idA).toList == id.toList) = false := (Lib.bytes_beq_false_iff _ _).2 e
    have HD : Hid (decide (attrV l idA = id) = false) := decide_eq_false e
    clear e
    go_wp2
    go_ret
    exact ⟨by rw [HD.out]; rfl, S1.out⟩
theorem iindexId (w : World) (a : Option Addr) (c : Nat) (l : List ND) (g : Nat) (id : ByteArray) (hl : l.length ≤ 1048576) (hz : SmV l) (hr : Nodes w a l) (hg : g < w.heap.size) (hi : w.cell? ⟨g, 0, none⟩ = some (.string id)) (hs : id.size ≠ 0) :
    Calls Tryd.prog 59 #[.slice a l.length c, .func (.func 60) #[] #[.pointer (some ⟨g, 0, none⟩)]] w fun e w' => e = .returned (.int .i64 (nodeI l id)) ∧ Nw w w' := by
  have HR : Hid (Nodes w a l) := hr
  have HZ : Hid (SmV l) := hz
  have HG : Hid (g < w.heap.size) := hg
  have HI : Hid (w.cell? ⟨g, 0, none⟩ = some (.string id)) := hi
  have HS : Hid (id.size ≠ 0) := hs
  clear hr hz hg hi hs
  go_enter Tryd.func59, Tryd.ntmps59
  go_wp2
  go_loopw [8] (fun i wr => ∃ k : Nat, k ≤ l.length ∧ i = .int .i64 k ∧ NoId l id k ∧ Nw w wr) (fun i _ => l.length - (intOf i).toNat)
  case atStart => exact ⟨0, Nat.zero_le _, rfl, fun i hi => absurd hi (by omega), Below.refl _ _⟩
  case round =>
    obtain ⟨k, hk, rfl, hno, hw⟩ := hrel
    have HN : Hid (NoId l id k) := hno
    have HW : Hid (Nw w wr) := hw
    clear hno
    by_cases hlt : k < l.length
    · have HI2 : Hid (wr.cell? ⟨g, 0, none⟩ = some (.string id)) := ((bcell hw).1 _ _ HG.out).trans HI.out
      have HG2 : Hid (g < wr.heap.size) := Nat.lt_of_lt_of_le HG.out (Below.size hw)
      rcases (HR.out.nw hw) with h | ⟨b, o, rfl, hb, hc⟩
      · rw [h] at hlt; simp at hlt
      obtain ⟨q0, q1, ⟨aa, cc, q2, qc, qa⟩, q3⟩ := hc k hlt
      have HA : Hid (Attrs wr aa (nodeAt l k).attrs) := qa
      obtain ⟨z1, z2⟩ := HZ.out k hlt
      have HZ2 : Hid (∀ i, i < (nodeAt l k).attrs.length → (pairAt (nodeAt l k).attrs i).2.size ≤ 1048576) := z2
      have HE : Hid (idAt l k = attrV (nodeAt l k).attrs idA) := rfl
      clear hc hw qa z2
      generalize (nodeAt l k).name = nm at *
      generalize (nodeAt l k).up = up at *
      generalize (nodeAt l k).text = tx at *
      generalize (nodeAt l k).attrs = at' at *
      by_cases e : attrV at' idA = id
      · have HX : Hid (nodeI l id = k) := nodeI_some HS.out hlt HN.out (HE.out.trans e)
        have hd : decide (attrV at' idA = id) = true := decide_eq_true e
        clear e
        go_wp2_with (go_at_call 60; refine Calls.mono (inodeEq _ nm up at' tx aa cc g id z1 HZ2.out HA.out HG2.out HI2.out) ?_; rw [hd]; rintro e w1 ⟨rfl, k1⟩)
        go_ret
        exact ⟨by rw [HX.out]; rfl, HW.out.trans k1⟩
      · have HN2 : Hid (NoId l id (k + 1)) := HN.out.step (by rw [HE.out]; exact e)
        have hd : decide (attrV at' idA = id) = false := decide_eq_false e
        clear e
        go_wp2_with (go_at_call 60; refine Calls.mono (inodeEq _ nm up at' tx aa cc g id z1 HZ2.out HA.out HG2.out HI2.out) ?_; rw [hd]; rintro e w1 ⟨rfl, k1⟩)
        go_roundw
        case rel => exact ⟨k + 1, by omega, by go_num, HN2.out, HW.out.trans k1⟩
        case measure => simp [intOf]; omega
    · have e : k = l.length := by omega
      subst e
      have HX : Hid (nodeI l id = -1) := nodeI_none HN.out
      clear hw
      go_wp2
      go_ret
      exact ⟨by rw [HX.out]; rfl, HW.out⟩
theorem inodeId (w : World) (a : Option Addr) (c : Nat) (l : List ND) (id : ByteArray) (hl : l.length ≤ 1048576) (hz : SmV l) (hr : Nodes w a l) :
    Calls Tryd.prog 43 #[.slice a l.length c, .string id] w fun e w' => e = .returned (.int .i64 (nodeI l id)) ∧ Nw w w' := by
  have S0 : Hid (Nw w (w.alloc (.cells #[.string id] 9))) := (Below.refl _ _).alloc (Nat.le_refl _) _
  by_cases h0 : id.size = 0
  · have HX : Hid (nodeI l id = -1) := nodeI_empty l h0
    obtain rfl := empty_of h0
    clear hz hr
    go_enter Tryd.func43, Tryd.ntmps43
    go_wp2
    go_ret
    exact ⟨by rw [HX.out]; rfl, S0.out⟩
  · have hn1 := ne_nil (s := id) (by omega)
    have hn2 := ne_emp (s := id) (by omega)
    have hmf : ∀ (fn : Fn) (first cap : Array Value) (w : World), (Instr.makeFunc fn first cap).run Tryd.prog w = .ok (.func fn first cap) w := fun _ _ _ _ => rfl
    have HC : Hid (Calls Tryd.prog 59 #[.slice a l.length c, .func (.func 60) #[] #[.pointer (some ⟨w.heap.size, 0, none⟩)]] (w.alloc (.cells #[.string id] 9)) fun e w' => e = .returned (.int .i64 (nodeI l id)) ∧ Nw (w.alloc (.cells #[.string id] 9)) w') :=
      iindexId _ a c l w.heap.size id hl hz (hr.nw S0.out) (by simp) (by simp) h0
    clear hz hr
    go_enter Tryd.func43, Tryd.ntmps43
    go_wp2_with (go_at_call 59; refine Calls.mono HC.out ?_; rintro e w1 ⟨rfl, k1⟩)
    all_goals
      go_ret
      exact ⟨rfl, S0.out.trans k1⟩
end Go.Proofs.YthnmebmjmjfflaaDoor
