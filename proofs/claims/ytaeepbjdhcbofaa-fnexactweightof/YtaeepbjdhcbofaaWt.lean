/-
  The weight of a selector, the program's and the specification's, and the walk of the law's text; each theorem names its conditions.
-/
import Derived.Test.YtaeepbjdhcbofaaSel
import Derived.Test.YtaeepbjdhcbofaaPsOpen
import Derived.Test.YtaeepbjdhcbofaaSelSm
namespace Go.Proofs.Ytaeepbjdhcbofaa
open Go.ChangeShapes Go.WideShapes Go.ChangeAt Go.RowKit
set_option linter.unusedVariables false

def ptW (p : PD) : Nat := (if p.id.toList.isEmpty then 0 else 100) + 10 * p.cls.length + (if p.ty.toList.isEmpty || (p.ty.toList == [42]) then 0 else 1)
/-- The weight of the first k parts. -/
def wtTo (l : List PD) : Nat → Nat
  | 0 => 0
  | k + 1 => wtTo l k + ptW (partAt l k)
theorem ptW_le {p : PD} (h : partB p = true) : ptW p ≤ 141 ∧ p.cls.length ≤ 4 := by
  unfold partB at h
  simp only [Bool.and_eq_true, decide_eq_true_eq] at h
  have h4 := h.1
  refine ⟨?_, h4⟩
  unfold ptW
  split <;> split <;> omega
theorem wtTo_le {l : List PD} : ∀ k, PsTo l k → wtTo l k ≤ 141 * k
  | 0, _ => Nat.zero_le _
  | k + 1, hk => by
    have h1 := wtTo_le k fun i hi => hk i (by omega)
    have h2 := (ptW_le (hk k (by omega))).1
    rw [wtTo]; omega
/-- What WeightOf answers. -/
def wtN (l : List PD) : Int := if selB l then (wtTo l l.length : Nat) else 0
theorem wtN_yes {l : List PD} (h : selB l = true) : wtN l = (wtTo l l.length : Nat) := by unfold wtN; rw [h]; rfl
theorem wtN_no {l : List PD} (h : selB l = false) : wtN l = 0 := by unfold wtN; rw [h]; rfl
def wtAns (l : List PD) : Value := .tuple #[.int .i64 (wtN l), .bool (selB l)]
set_option maxHeartbeats 4000000 in
theorem iweightOf (w : World) (a : Option Addr) (c : Nat) (l : List PD) (hl : l.length ≤ 1048576) (hs : smallPs l) (hr : Parts w a l) :
    Calls Try.prog 10 #[.slice a l.length c] w fun e w' => e = .returned (wtAns l) ∧ Nw w w' := by
  have HR : Hid (Parts w a l) := hr
  have HS : Hid (smallPs l) := hs
  clear hr hs
  by_cases h : selB l = true
  · have HX : Hid (wtAns l = .tuple #[.int .i64 (wtTo l l.length : Nat), .bool true]) := by show wtAns l = _; unfold wtAns; rw [wtN_yes h, h]
    have hg := (selB_iff l).1 h
    have h5 := hg.1.2
    have HG : Hid (PsTo l l.length) := hg.2
    clear hg
    go_enter Try.func10, Try.ntmps10
    go_wp2_with (go_at_call 25; refine Calls.mono (igoodSel _ _ _ l hl HS.out HR.out) ?_; rw [h]; rintro e w1 ⟨rfl, k1⟩; have HK1 : Hid (Nw w w1) := k1; clear k1)
    clear h
    go_loopw [4, 12] (fun x i wr => ∃ k : Nat, k ≤ l.length ∧ i = .int .i64 k ∧ x = .int .i64 (wtTo l k : Nat) ∧ Nw w wr) (fun _ i _ => l.length - (intOf i).toNat)
    case atStart => exact ⟨0, Nat.zero_le _, rfl, rfl, HK1.out⟩
    case round =>
      obtain ⟨k, hk, rfl, rfl, hw⟩ := hrel
      have HW : Hid (Nw w wr) := hw
      by_cases hlt : k < l.length
      · rcases (HR.out.nw hw) with h | ⟨b, off, rfl, hbk, hc⟩
        · rw [h] at hlt; simp at hlt
        obtain ⟨q0, q1, ⟨qa, qc, q2, qcap, q4⟩⟩ := hc k hlt
        have hb := HG.out k hlt
        have y1 := wtTo_le k fun i hi => HG.out i (by omega)
        have y2 := (ptW_le hb).2
        have HE : Hid (wtTo l (k + 1) = wtTo l k + ptW (partAt l k)) := rfl
        clear hc hw q4 hb qcap
        generalize wtTo l k = W at *
        generalize partAt l k = p at *
        obtain ⟨ty, id, cls⟩ := p
        simp only at *
        have M1 : Hid (Nw wr (wr.alloc (.cells #[.string ty, .string id, .slice qa cls.length qc] 43))) := (Below.refl _ _).alloc (Nat.le_refl _) _
        have hways := tyWay ty
        have hwayi := idWay id
        generalize typeB ty = tb at *
        generalize idB id = ib at *
        rcases hways with ⟨rfl, _⟩ | ⟨rfl, _⟩ | ⟨t1, t2, t3, _⟩
        all_goals rcases hwayi with ⟨rfl, _⟩ | ⟨d1, d2, _⟩
        all_goals
          have hp := HE.out
          unfold ptW at hp
          simp only at hp
          try rw [t2, t3] at hp
          try rw [d2] at hp
          simp [ByteArray.toList_eq] at hp
          have HP : Hid _ := hp
          clear hp HE
          go_wp2
          go_roundw
          case rel => exact ⟨k + 1, by omega, by go_num, congrArg (Value.int .i64) (by rw [HP.out]; omega), HW.out.trans M1.out⟩
          case measure => simp [intOf]; omega
      · have e : k = l.length := by omega
        subst e
        clear hw
        go_wp2
        go_ret2
        exact ⟨by rw [HX.out]; rfl, HW.out⟩
  · have h' : selB l = false := by simpa using h
    have HX : Hid (wtAns l = .tuple #[.int .i64 0, .bool false]) := by show wtAns l = _; unfold wtAns; rw [wtN_no h', h']
    go_enter Try.func10, Try.ntmps10
    go_wp2_with (go_at_call 25; refine Calls.mono (igoodSel _ _ _ l hl HS.out HR.out) ?_; rw [h']; rintro e w1 ⟨rfl, k1⟩)
    go_ret2
    exact ⟨by rw [HX.out]; rfl, k1⟩
set_option maxHeartbeats 4000000 in
theorem sweight (w : World) (a : Option Addr) (c : Nat) (l : List PD) (h5 : l.length ≤ 5) (hg : PsTo l l.length) (hr : Parts w a l) :
    Calls Try.prog 23 #[.slice a l.length c] w fun e w' => e = .returned (.int .i64 (wtTo l l.length : Nat)) ∧ Nw w w' := by
  have HR : Hid (Parts w a l) := hr
  have HG : Hid (PsTo l l.length) := hg
  clear hr hg
  · go_enter Try.func23, Try.ntmps23
    go_wp2
    go_loopw [3, 8] (fun x i wr => ∃ k : Nat, k ≤ l.length ∧ i = .int .i64 k ∧ x = .int .i64 (wtTo l k : Nat) ∧ Nw w wr) (fun _ i _ => l.length - (intOf i).toNat)
    case atStart => exact ⟨0, Nat.zero_le _, rfl, rfl, Below.refl _ _⟩
    case round =>
      obtain ⟨k, hk, rfl, rfl, hw⟩ := hrel
      have HW : Hid (Nw w wr) := hw
      by_cases hlt : k < l.length
      · rcases (HR.out.nw hw) with h | ⟨b, off, rfl, hbk, hc⟩
        · rw [h] at hlt; simp at hlt
        obtain ⟨q0, q1, ⟨qa, qc, q2, qcap, q4⟩⟩ := hc k hlt
        have hb := HG.out k hlt
        have y1 := wtTo_le k fun i hi => HG.out i (by omega)
        have y2 := (ptW_le hb).2
        have HE : Hid (wtTo l (k + 1) = wtTo l k + ptW (partAt l k)) := rfl
        clear hc hw q4 hb qcap
        generalize wtTo l k = W at *
        generalize partAt l k = p at *
        obtain ⟨ty, id, cls⟩ := p
        simp only at *
        have M1 : Hid (Nw wr (wr.alloc (.cells #[.string ty, .string id, .slice qa cls.length qc] 43))) := (Below.refl _ _).alloc (Nat.le_refl _) _
        have hways := tyWay ty
        have hwayi := idWay id
        generalize typeB ty = tb at *
        generalize idB id = ib at *
        rcases hways with ⟨rfl, _⟩ | ⟨rfl, _⟩ | ⟨t1, t2, t3, _⟩
        all_goals rcases hwayi with ⟨rfl, _⟩ | ⟨d1, d2, _⟩
        all_goals
          have hp := HE.out
          unfold ptW at hp
          simp only at hp
          try rw [t2, t3] at hp
          try rw [d2] at hp
          simp [ByteArray.toList_eq] at hp
          have HP : Hid _ := hp
          clear hp HE
          go_wp2
          go_roundw
          case rel => exact ⟨k + 1, by omega, by go_num, congrArg (Value.int .i64) (by rw [HP.out]; omega), HW.out.trans M1.out⟩
          case measure => simp [intOf]; omega
      · have e : k = l.length := by omega
        subst e
        clear hw
        go_wp2
        go_ret
        exact ⟨rfl, HW.out⟩
theorem sweightOf (w : World) (a : Option Addr) (c : Nat) (l : List PD) (hl : l.length ≤ 1048576) (hs : smallPs l) (hr : Parts w a l) :
    Calls Try.prog 8 #[.slice a l.length c] w fun e w' => e = .returned (wtAns l) ∧ Nw w w' := by
  have HR : Hid (Parts w a l) := hr
  have HS : Hid (smallPs l) := hs
  clear hr hs
  by_cases h : selB l = true
  · have HX : Hid (wtAns l = .tuple #[.int .i64 (wtTo l l.length : Nat), .bool true]) := by show wtAns l = _; unfold wtAns; rw [wtN_yes h, h]
    have hg : Hid ((1 ≤ l.length ∧ l.length ≤ 5) ∧ PsTo l l.length) := (selB_iff l).1 h
    go_enter Try.func8, Try.ntmps8
    go_wp2_with (first | (go_at_call 22; refine Calls.mono (sgoodSel _ _ _ l hl HS.out HR.out) ?_; rw [h]; rintro e w1 ⟨rfl, k1⟩) | (go_at_call 23; refine Calls.mono (sweight _ _ _ l hg.out.1.2 hg.out.2 (HR.out.nw k1)) ?_; rintro e w2 ⟨rfl, k2⟩))
    go_ret2
    exact ⟨by rw [HX.out]; rfl, k1.trans k2⟩
  · have h' : selB l = false := by simpa using h
    have HX : Hid (wtAns l = .tuple #[.int .i64 0, .bool false]) := by show wtAns l = _; unfold wtAns; rw [wtN_no h', h']
    go_enter Try.func8, Try.ntmps8
    go_wp2_with (go_at_call 22; refine Calls.mono (sgoodSel _ _ _ l hl HS.out HR.out) ?_; rw [h']; rintro e w1 ⟨rfl, k1⟩)
    go_ret2
    exact ⟨by rw [HX.out]; rfl, k1⟩
set_option maxHeartbeats 4000000 in
theorem walk_wt (w : World) (a : Option Addr) (l : List PD) (c : Nat) (hr : Parts w a l) (ho : okPDs l) (hl : l.length ≤ maxLen) :
    Calls Try.prog 3 #[.slice a l.length c] w fun e w' => e = .returned (.bool true) ∧ Below w.heap.size w w' := by
  have HR : Hid (Parts w a l) := hr
  have HO : Hid (okPDs l) := ho
  have HL : Hid (l.length ≤ maxLen) := hl
  clear hr ho hl
  by_cases hb : ((l.length + bulkPs l : Nat) : Int) ≤ 1048576
  · have hs : szPs l 1048576 = 1048576 - ((l.length + bulkPs l : Nat) : Int) := by unfold szPs; rw [if_pos hb]
    have hneg : decide ((1048576 : Int) - ((l.length + bulkPs l : Nat) : Int) < 0) = false := decide_eq_false (by omega)
    have hll : l.length ≤ 1048576 := by omega
    obtain ⟨hsm, hlo⟩ := smallPs_of hb
    have HS : Hid (smallPs l) := hsm
    have HLO : Hid (lenPs l) := hlo
    have HA : wtAns l = .tuple #[.int .i64 (wtN l), .bool (selB l)] := rfl
    generalize wtN l = S at *
    generalize selB l = q at *
    generalize ((l.length + bulkPs l : Nat) : Int) = B at *
    clear hsm hlo hb
    go_enter Try.func3, Try.ntmps3
    go_wp2_with fail
    refine Calls.mono (szPartS_any _ a c l _ (by omega) (by omega) HL.out HR.out HO.out) ?_
    rw [hs]
    rintro e w1 ⟨rfl, k1⟩
    have S1 : Hid (Nw w w1) := k1
    clear k1
    go_wp2_with fail
    refine Calls.mono (toPartS_any _ a c l hll HLO.out (HR.out.nw S1.out)) ?_
    rintro e w2 ⟨rfl, k1, t1⟩
    have S2 : Hid (Nw w w2) := S1.out.trans k1
    have N2 : Hid (Parts w2 (some ⟨w1.heap.size, 0, none⟩) l) := t1.parts
    clear k1 t1
    go_wp2_with fail
    refine Calls.mono (sweightOf _ _ _ l hll HS.out N2.out) ?_
    rw [HA]
    rintro e w3 ⟨rfl, k1⟩
    have S3 : Hid (Nw w w3) := S2.out.trans k1
    clear k1 N2
    go_wp2_with fail
    refine Calls.mono (toPartS_any _ a c l hll HLO.out (HR.out.nw S3.out)) ?_
    rintro e w4 ⟨rfl, k1, t1⟩
    have S4 : Hid (Nw w w4) := S3.out.trans k1
    have N4 : Hid (Parts w4 (some ⟨w3.heap.size, 0, none⟩) l) := t1.parts
    clear k1 t1
    go_wp2_with fail
    refine Calls.mono (iweightOf _ _ _ l hll HS.out N4.out) ?_
    rw [HA]
    rintro e w5 ⟨rfl, k1⟩
    have S5 : Hid (Nw w w5) := S4.out.trans k1
    have N5 : Hid (Parts w5 (some ⟨w3.heap.size, 0, none⟩) l) := N4.out.nw k1
    clear k1 N4
    go_wp2_with fail
    refine Calls.mono (toPartS_any _ a c l hll HLO.out (HR.out.nw S5.out)) ?_
    rintro e w6 ⟨rfl, k1, t1⟩
    have S6 : Hid (Nw w w6) := S5.out.trans k1
    have N6 : Hid (Parts w6 (some ⟨w3.heap.size, 0, none⟩) l) := N5.out.nw k1
    have M6 : Hid (Parts w6 (some ⟨w5.heap.size, 0, none⟩) l) := t1.parts
    clear k1 t1 N5
    go_wp2_with fail
    refine Calls.mono (eqPartS_any _ _ _ _ _ l hll HLO.out N6.out M6.out) ?_
    rintro e w7 ⟨rfl, k1⟩
    go_wp2
    go_ret
    exact ⟨rfl, S6.out.trans k1⟩
  · have hs : szPs l 1048576 = -1 := by unfold szPs; rw [if_neg hb]
    clear hb
    go_enter Try.func3, Try.ntmps3
    go_wp2_with fail
    refine Calls.mono (szPartS_any _ a c l _ (by omega) (by omega) HL.out HR.out HO.out) ?_
    rw [hs]
    rintro e w1 ⟨rfl, k1⟩
    go_wp2
    go_ret
    exact ⟨rfl, k1⟩
end Go.Proofs.Ytaeepbjdhcbofaa
