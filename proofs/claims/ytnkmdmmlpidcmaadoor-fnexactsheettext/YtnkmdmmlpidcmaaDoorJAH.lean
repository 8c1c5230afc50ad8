/-
  Texts and parts measured and copied by the laws' helpers; each theorem names its conditions.
  Rows of parts measured and copied by the laws' helpers; each theorem names its conditions.
  Selectors that are good: the program's looks and the specification's; each theorem names its conditions.
  The text of a selector, the specification's; each theorem names its conditions.
-/
import Derived.Test.YtnkmdmmlpidcmaaDoorJAD
import Derived.Test.YtnkmdmmlpidcmaaDoorJAE
import Derived.Test.YtnkmdmmlpidcmaaDoorJAF
namespace Go.Proofs.YtnkmdmmlpidcmaaDoor
open Go.ChangeShapes Go.WideShapes Go.ChangeAt Go.RowKit
set_option linter.unusedVariables false

set_option maxHeartbeats 1000000 in
theorem szStringS_any (w : World) (a : Option Addr) (c : Nat) (l : List ByteArray) (left : Int) (h0 : 0 ≤ left) (h1 : left ≤ 1048576) (hm : l.length ≤ maxLen) (hr : Strs w a l) (hs : okStrs l) :
    Calls Tryd.prog 157 #[.slice a l.length c, .int .i64 left] w fun e w' => e = .returned (.int .i64 (szS l left)) ∧ Nw w w' := by
  unfold maxLen at hm
  by_cases c1 : (l.length : Int) ≤ left
  · have HS : Hid (okStrs l) := hs
    have HR : Hid (Strs w a l) := hr
    clear hs hr
    go_enter Tryd.func157, Tryd.ntmps157
    go_wp2
    go_loopw [1, 5] (fun x i wr => ∃ k : Nat, k ≤ l.length ∧ i = .int .i64 k ∧ x = .int .i64 (left - l.length - (bulk1 (l.take k) : Nat)) ∧ (bulk1 (l.take k) : Int) ≤ left - l.length ∧ Nw w wr) (fun _ i _ => l.length - (intOf i).toNat)
    case atStart => exact ⟨0, Nat.zero_le _, rfl, by simp [bulk1], by simp [bulk1]; omega, Below.refl _ _⟩
    case round =>
      obtain ⟨k, hk, rfl, rfl, hb, hw⟩ := hrel
      by_cases hlt : k < l.length
      · have hs2 := bulk1_step l k hlt
        have hle := bulk1_le l (k + 1)
        have hz := HS.out k hlt
        unfold maxLen at hz
        rcases (HR.out.nw hw) with h | ⟨b, off, rfl, hbk, hc⟩
        · rw [h] at hlt; simp at hlt
        have q0 := hc k hlt
        clear hc
        have HW : Hid (Nw w wr) := hw
        clear hw
        generalize strAt l k = s at *
        generalize bulk1 (l.take k) = b1 at *
        have HE : Hid (bulk1 (l.take (k + 1)) = b1 + s.size) := hs2
        rw [hs2] at hle
        clear hs2
        by_cases c2 : (s.size : Int) ≤ left - l.length - b1
        · go_wp2
          go_roundw
          case rel => exact ⟨k + 1, by omega, by go_num, by rw [HE.out]; go_num, by rw [HE.out]; omega, HW.out⟩
          case measure => simp [intOf]; omega
        · have HX : Hid (szS l left = -1) := by show szS l left = -1; unfold szS; rw [if_neg (by omega)]
          go_wp2
          go_ret
          exact ⟨ret_int HX.out.symm, HW.out⟩
      · have e : k = l.length := by omega
        subst e
        rw [List.take_length] at *
        have HX : Hid (szS l left = left - l.length - bulk1 l) := by show szS l left = _; unfold szS; rw [if_pos (by omega)]; omega
        have HW : Hid (Nw w wr) := hw
        clear hw
        go_wp2
        go_ret
        exact ⟨ret_int HX.out.symm, HW.out⟩
  · have HX : Hid (szS l left = -1) := by show szS l left = -1; unfold szS; rw [if_neg (by omega)]
    clear hr hs
    go_enter Tryd.func157, Tryd.ntmps157
    go_wp2
    go_ret
    exact ⟨ret_int HX.out.symm, Below.refl _ _⟩

theorem toStringS_any (w : World) (a : Option Addr) (c : Nat) (l : List ByteArray) (hm : l.length ≤ 1048576) (hr : Strs w a l) :
    Calls Tryd.prog 158 #[.slice a l.length c] w fun e w' => e = .returned (.slice (some ⟨w.heap.size, 0, none⟩) l.length l.length) ∧ Nw w w' ∧ LayS w' w.heap.size l l.length := by
  have HR : Hid (Strs w a l) := hr
  clear hr
  have hmk := run_mk 52 9 _ 1 16 Tryd.underlying52 Tryd.info9 l.length (by omega) (by omega)
  have hcs : (Value.string ⟨#[]⟩).cells = #[.string ⟨#[]⟩] := rfl
  rw [hcs] at hmk
  go_enter Tryd.func158, Tryd.ntmps158
  go_wp2
  go_loopw [4] (fun i wr => ∃ k : Nat, k ≤ l.length ∧ i = .int .i64 k ∧ Nw w wr ∧ LayS wr w.heap.size l k) (fun i _ => l.length - (intOf i).toNat)
  case atStart => exact ⟨0, Nat.zero_le _, rfl, (Below.refl _ _).alloc (Nat.le_refl _) _, LayS.start w l _⟩
  case round =>
    obtain ⟨k, hk, rfl, hw, hlay⟩ := hrel
    clear hmk hcs
    by_cases hlt : k < l.length
    · rcases (HR.out.nw hw) with h | ⟨b, off, rfl, hbk, hc⟩
      · rw [h] at hlt; simp at hlt
      have q0 := hc k hlt
      clear hc
      have HW : Hid (Nw w wr) := hw
      have z0 := hlay.2.2.1 k (Nat.le_refl _) hlt
      have zf := hlay.2.2.2
      have HL : Hid _ := hlay
      clear hw hlay
      have hg : w.heap.size < wr.heap.size := HL.out.1
      go_wp2
      go_roundw
      case rel =>
        refine ⟨k + 1, by omega, by go_num, ?_, LayS.step HL.out hlt⟩
        have kb : Below w.heap.size w wr := HW.out
        exact kb.setCell (Nat.le_refl _) _
      case measure => simp [intOf]; omega
    · have e : k = l.length := by omega
      subst e
      have HN : Hid (Nw w wr ∧ LayS wr w.heap.size l l.length) := ⟨hw, hlay⟩
      clear hw hlay
      go_wp2
      go_ret
      exact ⟨rfl, HN.out⟩

set_option maxHeartbeats 1000000 in
theorem szPart_any (w : World) (n : PD) (a : Option Addr) (c : Nat) (left : Int) (h0 : 0 ≤ left) (h1 : left ≤ 1048576) (ho : okPD n) (hr : Strs w a n.cls) :
    Calls Tryd.prog 133 #[partV n a c, .int .i64 left] w fun e w' => e = .returned (.int .i64 (if (bulkP n : Int) ≤ left then left - (bulkP n : Int) else -1)) ∧ Nw w w' := by
  obtain ⟨ty, id, cls⟩ := n
  obtain ⟨o1, o2, o4, o5⟩ := ho
  unfold partV bulkP
  simp only at *
  have M : ty.size ≤ 9223372036854775807 ∧ id.size ≤ 9223372036854775807 := by unfold maxLen at o1 o2; omega
  obtain ⟨m1, m2⟩ := M
  clear o1 o2
  have HR : ∀ o, Hid (Strs (w.alloc o) a cls) := fun o => hr.nw ((Below.refl _ _).alloc (Nat.le_refl _) _)
  clear hr
  have H5 : Hid (okStrs cls) := o5
  have H4 : Hid (cls.length ≤ maxLen) := o4
  clear o4 o5
  by_cases c1 : (ty.size : Int) ≤ left
  · by_cases c3 : (id.size : Int) ≤ left - ty.size
    · by_cases c2 : ((cls.length + bulk1 cls : Nat) : Int) ≤ left - ty.size - id.size
      · rw [if_pos (by omega)]
        generalize hB : cls.length + bulk1 cls = B at *
        go_enter Tryd.func133, Tryd.ntmps133
        go_wp2_with (go_at_call 157; refine (szStringS_any _ a c cls _ (by omega) (by omega) H4.out (HR _).out H5.out).mono ?_; rw [szS, hB, if_pos c2]; clear hB; rintro e w' ⟨rfl, k1⟩; obtain ⟨hc, hf⟩ := bcell k1)
        go_ret
        exact ⟨ret_int (by omega), Below.trans ((Below.refl _ _).alloc (Nat.le_refl _) _) (Below.mono k1 (by simp))⟩
      · rw [if_neg (by omega)]
        generalize hB : cls.length + bulk1 cls = B at *
        go_enter Tryd.func133, Tryd.ntmps133
        go_wp2_with (go_at_call 157; refine (szStringS_any _ a c cls _ (by omega) (by omega) H4.out (HR _).out H5.out).mono ?_; rw [szS, hB, if_neg c2]; clear hB; rintro e w' ⟨rfl, k1⟩; obtain ⟨hc, hf⟩ := bcell k1)
        go_ret
        exact ⟨rfl, Below.trans ((Below.refl _ _).alloc (Nat.le_refl _) _) (Below.mono k1 (by simp))⟩
    · rw [if_neg (by omega)]
      go_enter Tryd.func133, Tryd.ntmps133
      go_wp2
      go_ret
      exact ⟨rfl, (Below.refl _ _).alloc (Nat.le_refl _) _⟩
  · rw [if_neg (by omega)]
    go_enter Tryd.func133, Tryd.ntmps133
    go_wp2
    go_ret
    exact ⟨rfl, (Below.refl _ _).alloc (Nat.le_refl _) _⟩

theorem toPart_any (w : World) (n : PD) (a : Option Addr) (c : Nat) (hl : n.cls.length ≤ 1048576) (hr : Strs w a n.cls) :
    Calls Tryd.prog 134 #[partV n a c] w fun e w' => ∃ g, e = .returned (partV n (some ⟨g, 0, none⟩) n.cls.length) ∧ Nw w w' ∧ w.heap.size ≤ g ∧ LayS w' g n.cls n.cls.length := by
  obtain ⟨ty, id, cls⟩ := n
  unfold partV
  simp only at *
  have HR : ∀ o1 o2 o3, Hid (Strs (((w.alloc o1).alloc o2).alloc o3) a cls) := fun o1 o2 o3 => hr.nw ((((Below.refl _ _).alloc (Nat.le_refl _) _).alloc (by simp) _).alloc (by simp; omega) _)
  clear hr
  go_enter Tryd.func134, Tryd.ntmps134
  go_wp2_with (go_at_call 158; refine (toStringS_any _ a c cls hl (HR _ _ _).out).mono ?_; rintro e w' ⟨rfl, k1, k2⟩; obtain ⟨hc, hf⟩ := bcell k1)
  have K0 : Below w.heap.size w w' := Below.trans ((((Below.refl _ _).alloc (Nat.le_refl _) _).alloc (by simp) _).alloc (by simp; omega) _) (Below.mono k1 (by simp; omega))
  have hz : w.heap.size + 1 + 1 + 1 < w'.heap.size := by have := k2.1; simpa using this
  have K2 : LayS w' (w.heap.size + 1 + 1 + 1) cls cls.length := by simpa using k2
  clear k1 k2
  refine bodyPost_ret (v := .agg #[.string ty, .string id, .slice (some ⟨w.heap.size + 1 + 1 + 1, 0, none⟩) cls.length cls.length]) (by simp [results, Tryd.results134, go_sem, hc]) rfl ⟨w.heap.size + 1 + 1 + 1, rfl, ?_, by omega, ?_⟩
  · exact ((((K0.setCell (by simp <;> omega) _).setCell (by simp <;> omega) _).setCell (by simp <;> omega) _).setCell (by simp <;> omega) _)
  · exact ((((K2.off _ _ _ (by omega)).off _ _ _ (by omega)).off _ _ _ (by omega)).off _ _ _ (by omega))
end Go.Proofs.YtnkmdmmlpidcmaaDoor
namespace Go.Proofs.YtnkmdmmlpidcmaaDoor
open Go.ChangeShapes Go.WideShapes Go.ChangeAt Go.RowKit
set_option linter.unusedVariables false

set_option maxHeartbeats 1000000 in
theorem szPartS_any (w : World) (a : Option Addr) (c : Nat) (l : List PD) (left : Int) (h0 : 0 ≤ left) (h1 : left ≤ 1048576) (hm : l.length ≤ maxLen) (hr : Parts w a l) (hs : okPDs l) :
    Calls Tryd.prog 101 #[.slice a l.length c, .int .i64 left] w fun e w' => e = .returned (.int .i64 (szPs l left)) ∧ Nw w w' := by
  unfold maxLen at hm
  by_cases c1 : (l.length : Int) ≤ left
  · have HS : Hid (okPDs l) := hs
    have HR : Hid (Parts w a l) := hr
    clear hs hr
    go_enter Tryd.func101, Tryd.ntmps101
    go_wp2
    go_loopw [1, 5] (fun x i wr => ∃ k : Nat, k ≤ l.length ∧ i = .int .i64 k ∧ x = .int .i64 (left - l.length - (bulkPs (l.take k) : Nat)) ∧ (bulkPs (l.take k) : Int) ≤ left - l.length ∧ Nw w wr) (fun _ i _ => l.length - (intOf i).toNat)
    case atStart => exact ⟨0, Nat.zero_le _, rfl, by simp [bulkPs], by simp [bulkPs]; omega, Below.refl _ _⟩
    case round =>
      obtain ⟨k, hk, rfl, rfl, hb, hw⟩ := hrel
      by_cases hlt : k < l.length
      · have hs2 := bulkPs_step l k hlt
        have hle := bulkPs_le l (k + 1)
        have hz := HS.out k hlt
        rcases (HR.out.nw hw) with h | ⟨b, off, rfl, hbk, hc⟩
        · rw [h] at hlt; simp at hlt
        obtain ⟨q0, q1, ⟨qa, qc, q2, qcap, q4⟩⟩ := hc k hlt
        have Q4 : Hid (Strs wr qa (partAt l k).cls) := q4
        have HZ : Hid (okPD (partAt l k)) := hz
        have HW : Hid (Nw w wr) := hw
        clear hc hw q4 hz
        generalize bulkPs (l.take k) = b1 at *
        have HE : Hid (bulkPs (l.take (k + 1)) = b1 + bulkP (partAt l k)) := hs2
        rw [hs2] at hle
        clear hs2
        by_cases c2 : (bulkP (partAt l k) : Int) ≤ left - l.length - b1
        · go_wp2_with (go_at_call 133; refine Calls.mono (szPart_any _ (partAt l k) qa qc _ (by omega) (by omega) HZ.out Q4.out) ?_; rw [if_pos c2]; rintro e w' ⟨rfl, k1⟩)
          go_roundw
          case rel => exact ⟨k + 1, by omega, by go_num, by rw [HE.out]; go_num, by rw [HE.out]; omega, HW.out.trans k1⟩
          case measure => simp [intOf]; omega
        · have HX : Hid (szPs l left = -1) := by show szPs l left = -1; unfold szPs; rw [if_neg (by omega)]
          go_wp2_with (go_at_call 133; refine Calls.mono (szPart_any _ (partAt l k) qa qc _ (by omega) (by omega) HZ.out Q4.out) ?_; rw [if_neg c2]; rintro e w' ⟨rfl, k1⟩)
          go_ret
          exact ⟨ret_int HX.out.symm, HW.out.trans k1⟩
      · have e : k = l.length := by omega
        subst e
        rw [List.take_length] at *
        have HX : Hid (szPs l left = left - l.length - bulkPs l) := by show szPs l left = _; unfold szPs; rw [if_pos (by omega)]; omega
        have HW : Hid (Nw w wr) := hw
        clear hw
        go_wp2
        go_ret
        exact ⟨ret_int HX.out.symm, HW.out⟩
  · have HX : Hid (szPs l left = -1) := by show szPs l left = -1; unfold szPs; rw [if_neg (by omega)]
    clear hr hs
    go_enter Tryd.func101, Tryd.ntmps101
    go_wp2
    go_ret
    exact ⟨ret_int HX.out.symm, Below.refl _ _⟩

set_option maxHeartbeats 2000000 in
theorem toPartS_any (w : World) (a : Option Addr) (c : Nat) (l : List PD) (hm : l.length ≤ 1048576) (hla : lenPs l) (hr : Parts w a l) :
    Calls Tryd.prog 103 #[.slice a l.length c] w fun e w' => e = .returned (.slice (some ⟨w.heap.size, 0, none⟩) l.length l.length) ∧ Nw w w' ∧ LayPs w' w.heap.size l l.length := by
  have HR : Hid (Parts w a l) := hr
  have HLA : Hid (lenPs l) := hla
  clear hr hla
  have hmk := run_mk 28 56 _ 3 56 Tryd.underlying28 Tryd.info56 l.length (by omega) (by omega)
  have hcs : (Value.agg #[.string ⟨#[]⟩, .string ⟨#[]⟩, .slice none 0 0]).cells = #[.string ⟨#[]⟩, .string ⟨#[]⟩, .slice none 0 0] := rfl
  rw [hcs] at hmk
  go_enter Tryd.func103, Tryd.ntmps103
  go_wp2
  go_loopw [4] (fun i wr => ∃ k : Nat, k ≤ l.length ∧ i = .int .i64 k ∧ Nw w wr ∧ LayPs wr w.heap.size l k) (fun i _ => l.length - (intOf i).toNat)
  case atStart => exact ⟨0, Nat.zero_le _, rfl, (Below.refl _ _).alloc (Nat.le_refl _) _, LayPs.start w l _⟩
  case round =>
    obtain ⟨k, hk, rfl, hw, hlay⟩ := hrel
    clear hmk hcs
    by_cases hlt : k < l.length
    · rcases (HR.out.nw hw) with h | ⟨b, off, rfl, hbk, hc⟩
      · rw [h] at hlt; simp at hlt
      obtain ⟨q0, q1, ⟨qa, qc, q2, qcap, q4⟩⟩ := hc k hlt
      have Q4 : Hid (Strs wr qa (partAt l k).cls) := q4
      have hlk : (partAt l k).cls.length ≤ 1048576 := HLA.out k hlt
      clear hc q4
      have HW : Hid (Nw w wr) := hw
      obtain ⟨z0, z1, z2⟩ := hlay.2.2.1 k (Nat.le_refl _) hlt
      have zf := hlay.2.2.2
      have HL : Hid (LayPs wr w.heap.size l k) := hlay
      have hg : w.heap.size < wr.heap.size := hlay.1
      clear hw hlay
      go_wp2_with (go_at_call 134; refine Calls.mono (toPart_any _ (partAt l k) qa qc hlk Q4.out) ?_; rintro e w' ⟨ga, rfl, k1, hga, hlp⟩; have y0 := ((bcell k1).1 _ (k * 3) hg).trans z0; have y1 := ((bcell k1).1 _ (k * 3 + 1) hg).trans z1; have y2 := ((bcell k1).1 _ (k * 3 + 2) hg).trans z2; have yf : ∀ o, w'.frozen? ⟨w.heap.size, o, none⟩ = false := fun o => ((bcell k1).2 _ o hg).trans (zf o); have HLP : Hid (LayS w' ga (partAt l k).cls (partAt l k).cls.length) := hlp; clear z0 z1 z2 zf hlp; simp only [partV])
      go_roundw
      case rel =>
        refine ⟨k + 1, by omega, by go_num, ?_, LayPs.step HL.out k1 hlt hga HLP.out⟩
        have kb : Below w.heap.size w w' := HW.out.trans k1
        exact ((kb.setCell (Nat.le_refl _) _).setCell (Nat.le_refl _) _).setCell (Nat.le_refl _) _
      case measure => simp [intOf]; omega
    · have e : k = l.length := by omega
      subst e
      have HN : Hid (Nw w wr ∧ LayPs wr w.heap.size l l.length) := ⟨hw, hlay⟩
      clear hw hlay
      go_wp2
      go_ret
      exact ⟨rfl, HN.out⟩
end Go.Proofs.YtnkmdmmlpidcmaaDoor
namespace Go.Proofs.YtnkmdmmlpidcmaaDoor
open Go.ChangeShapes Go.WideShapes Go.ChangeAt Go.RowKit
set_option linter.unusedVariables false

def PsTo (l : List PD) (k : Nat) : Prop := ∀ i, i < k → partB (partAt l i) = true
theorem PsTo.step {l : List PD} {k : Nat} (h : PsTo l k) (e : partB (partAt l k) = true) : PsTo l (k + 1) := by
  intro i hi
  by_cases c : i = k
  · subst c; exact e
  · exact h i (by omega)
def selB (l : List PD) : Bool := decide (1 ≤ l.length ∧ l.length ≤ 5) && (List.range l.length).all fun i => partB (partAt l i)
theorem selB_iff (l : List PD) : selB l = true ↔ (1 ≤ l.length ∧ l.length ≤ 5) ∧ PsTo l l.length := by
  unfold selB PsTo
  rw [Bool.and_eq_true, decide_eq_true_eq, List.all_eq_true]
  simp only [List.mem_range]
theorem selB_no {l : List PD} (h : ¬ ((1 ≤ l.length ∧ l.length ≤ 5) ∧ PsTo l l.length)) : selB l = false := by
  cases e : selB l with
  | false => rfl
  | true => exact absurd ((selB_iff l).1 e) h
def smallPs (l : List PD) : Prop := ∀ i, i < l.length → smallP (partAt l i)
set_option maxHeartbeats 2000000 in
theorem igoodSel (w : World) (a : Option Addr) (c : Nat) (l : List PD) (hl : l.length ≤ 1048576) (hs : smallPs l) (hr : Parts w a l) :
    Calls Tryd.prog 76 #[.slice a l.length c] w fun e w' => e = .returned (.bool (selB l)) ∧ Nw w w' := by
  have HR : Hid (Parts w a l) := hr
  have HS : Hid (smallPs l) := hs
  clear hr hs
  by_cases h1 : 1 ≤ l.length ∧ l.length ≤ 5
  · obtain ⟨h1, h5⟩ := h1
    have hz : ((l.length : Int) == 0) = false := beq_eq_false_iff_ne.2 (by omega)
    go_enter Tryd.func76, Tryd.ntmps76
    go_wp2
    go_loopw [15] (fun i wr => ∃ k : Nat, k ≤ l.length ∧ i = .int .i64 k ∧ PsTo l k ∧ Nw w wr) (fun i _ => l.length - (intOf i).toNat)
    case atStart => exact ⟨0, Nat.zero_le _, rfl, fun i hi => absurd hi (by omega), Below.refl _ _⟩
    case round =>
      obtain ⟨k, hk, rfl, hto, hw⟩ := hrel
      have HO : Hid (PsTo l k) := hto
      have HW : Hid (Nw w wr) := hw
      clear hto
      by_cases hlt : k < l.length
      · rcases (HR.out.nw hw) with h | ⟨b, off, rfl, hbk, hc⟩
        · rw [h] at hlt; simp at hlt
        obtain ⟨q0, q1, ⟨qa, qc, q2, qcap, q4⟩⟩ := hc k hlt
        have hz := HS.out k hlt
        have hpe : partAt l k = ⟨(partAt l k).ty, (partAt l k).id, (partAt l k).cls⟩ := rfl
        have HZ : Hid (smallP ⟨(partAt l k).ty, (partAt l k).id, (partAt l k).cls⟩) := hz
        have M1 : Hid (Nw wr (wr.alloc (.cells #[.string (partAt l k).ty, .string (partAt l k).id, .slice qa (partAt l k).cls.length qc] 56))) := (Below.refl _ _).alloc (Nat.le_refl _) _
        have Q4 : Hid (Strs (wr.alloc (.cells #[.string (partAt l k).ty, .string (partAt l k).id, .slice qa (partAt l k).cls.length qc] 56)) qa (partAt l k).cls) := q4.nw M1.out
        clear hc hw q4 hz
        by_cases hp : partB (partAt l k) = true
        · have HK : Hid (partB (partAt l k) = true) := hp
          have hp2 : partB ⟨(partAt l k).ty, (partAt l k).id, (partAt l k).cls⟩ = true := hp
          clear hp hpe
          go_wp2_with (go_at_call 64; refine Calls.mono (igoodPart _ _ _ _ qa qc HZ.out Q4.out) ?_; rw [hp2]; rintro e w' ⟨rfl, k1⟩)
          go_roundw
          case rel => exact ⟨k + 1, by omega, by go_num, HO.out.step HK.out, HW.out.trans (M1.out.trans k1)⟩
          case measure => simp [intOf]; omega
        · have hp2 : partB ⟨(partAt l k).ty, (partAt l k).id, (partAt l k).cls⟩ = false := by simpa using hp
          have HX : Hid (selB l = false) := selB_no fun h => hp (h.2 k hlt)
          clear hp hpe
          go_wp2_with (go_at_call 64; refine Calls.mono (igoodPart _ _ _ _ qa qc HZ.out Q4.out) ?_; rw [hp2]; rintro e w' ⟨rfl, k1⟩)
          go_ret
          exact ⟨ret_bool HX.out.symm, HW.out.trans (M1.out.trans k1)⟩
      · have HX : Hid (selB l = true) := (selB_iff l).2 ⟨⟨h1, h5⟩, fun i hi => HO.out i (by omega)⟩
        clear hw
        go_wp2
        go_ret
        exact ⟨ret_bool HX.out.symm, HW.out⟩
  · have HX : Hid (selB l = false) := selB_no fun h => h1 h.1
    clear HR HS
    by_cases h0 : l.length = 0
    · have hz : ((l.length : Int) == 0) = true := by simp [h0]
      clear h1 h0
      go_enter Tryd.func76, Tryd.ntmps76
      go_wp2
      go_ret
      exact ⟨ret_bool HX.out.symm, Below.refl _ _⟩
    · have hz : ((l.length : Int) == 0) = false := beq_eq_false_iff_ne.2 (by omega)
      have h5 : 5 < (l.length : Int) := by omega
      clear h1 h0
      go_enter Tryd.func76, Tryd.ntmps76
      go_wp2
      go_ret
      exact ⟨ret_bool HX.out.symm, Below.refl _ _⟩
set_option maxHeartbeats 2000000 in
theorem sgoodSel (w : World) (a : Option Addr) (c : Nat) (l : List PD) (hl : l.length ≤ 1048576) (hs : smallPs l) (hr : Parts w a l) :
    Calls Tryd.prog 39 #[.slice a l.length c] w fun e w' => e = .returned (.bool (selB l)) ∧ Nw w w' := by
  have HR : Hid (Parts w a l) := hr
  have HS : Hid (smallPs l) := hs
  clear hr hs
  by_cases h1 : 1 ≤ l.length ∧ l.length ≤ 5
  · have hd : decide ((1 : Int) ≤ (l.length : Int) ∧ (l.length : Int) ≤ 5) = true := by simp; omega
    go_enter Tryd.func39, Tryd.ntmps39
    go_wp2_with (go_at_call 68; refine (in_any _ _ _ _).mono ?_; rw [hd]; rintro e w' ⟨rfl, hq⟩; have hq2 := hq.symm; clear hq; subst hq2)
    go_loopw [11] (fun i wr => ∃ k : Nat, k ≤ l.length ∧ i = .int .i64 k ∧ PsTo l k ∧ Nw w wr) (fun i _ => l.length - (intOf i).toNat)
    case atStart => exact ⟨0, Nat.zero_le _, rfl, fun i hi => absurd hi (by omega), Below.refl _ _⟩
    case round =>
      obtain ⟨k, hk, rfl, hto, hw⟩ := hrel
      have HO : Hid (PsTo l k) := hto
      have HW : Hid (Nw w wr) := hw
      clear hto
      by_cases hlt : k < l.length
      · rcases (HR.out.nw hw) with h | ⟨b, off, rfl, hbk, hc⟩
        · rw [h] at hlt; simp at hlt
        obtain ⟨q0, q1, ⟨qa, qc, q2, qcap, q4⟩⟩ := hc k hlt
        have hz := HS.out k hlt
        have HZ : Hid (smallP ⟨(partAt l k).ty, (partAt l k).id, (partAt l k).cls⟩) := hz
        have M1 : Hid (Nw wr (wr.alloc (.cells #[.string (partAt l k).ty, .string (partAt l k).id, .slice qa (partAt l k).cls.length qc] 56))) := (Below.refl _ _).alloc (Nat.le_refl _) _
        have Q4 : Hid (Strs (wr.alloc (.cells #[.string (partAt l k).ty, .string (partAt l k).id, .slice qa (partAt l k).cls.length qc] 56)) qa (partAt l k).cls) := q4.nw M1.out
        clear hc hw q4 hz
        by_cases hp : partB (partAt l k) = true
        · have HK : Hid (partB (partAt l k) = true) := hp
          have hp2 : partB ⟨(partAt l k).ty, (partAt l k).id, (partAt l k).cls⟩ = true := hp
          clear hp
          go_wp2_with (go_at_call 69; refine Calls.mono (sgoodPart _ _ _ _ qa qc HZ.out Q4.out) ?_; rw [hp2]; rintro e w' ⟨rfl, k1⟩)
          go_roundw
          case rel => exact ⟨k + 1, by omega, by go_num, HO.out.step HK.out, HW.out.trans (M1.out.trans k1)⟩
          case measure => simp [intOf]; omega
        · have hp2 : partB ⟨(partAt l k).ty, (partAt l k).id, (partAt l k).cls⟩ = false := by simpa using hp
          have HX : Hid (selB l = false) := selB_no fun h => hp (h.2 k hlt)
          clear hp
          go_wp2_with (go_at_call 69; refine Calls.mono (sgoodPart _ _ _ _ qa qc HZ.out Q4.out) ?_; rw [hp2]; rintro e w' ⟨rfl, k1⟩)
          go_ret
          exact ⟨ret_bool HX.out.symm, HW.out.trans (M1.out.trans k1)⟩
      · have HX : Hid (selB l = true) := (selB_iff l).2 ⟨h1, fun i hi => HO.out i (by omega)⟩
        clear hw h1
        go_wp2
        go_ret
        exact ⟨ret_bool HX.out.symm, HW.out⟩
  · have HX : Hid (selB l = false) := selB_no fun h => h1 h.1
    have hd : decide ((1 : Int) ≤ (l.length : Int) ∧ (l.length : Int) ≤ 5) = false := by simp; omega
    clear HR HS h1
    go_enter Tryd.func39, Tryd.ntmps39
    go_wp2_with (go_at_call 68; refine (in_any _ _ _ _).mono ?_; rw [hd]; rintro e w' ⟨rfl, hq⟩; have hq2 := hq.symm; clear hq; subst hq2)
    go_ret
    exact ⟨ret_bool HX.out.symm, Below.refl _ _⟩

/-! ### Texts -/
/-- A head with the first k classes behind it. -/
def clsTo (h : ByteArray) (l : List ByteArray) : Nat → ByteArray
  | 0 => h
  | k + 1 => clsTo h l k ++ ((⟨#[46]⟩ : ByteArray) ++ strAt l k)
def headT (p : PD) : ByteArray := if p.id.toList.isEmpty then p.ty else p.ty ++ ((⟨#[35]⟩ : ByteArray) ++ p.id)
def partT (p : PD) : ByteArray := clsTo (headT p) p.cls p.cls.length
def sepT (t : ByteArray) (k : Nat) : ByteArray := if 0 < k then t ++ (⟨#[32]⟩ : ByteArray) else t
/-- The first k parts, with blanks between. -/
def selT (l : List PD) : Nat → ByteArray
  | 0 => ⟨#[]⟩
  | k + 1 => sepT (selT l k) k ++ partT (partAt l k)
theorem headT_no {ty id : ByteArray} {cls : List ByteArray} (h : id.toList.isEmpty = true) : headT ⟨ty, id, cls⟩ = ty := by unfold headT; simp only; rw [h]; rfl
theorem headT_yes {ty id : ByteArray} {cls : List ByteArray} (h : id.toList.isEmpty = false) : headT ⟨ty, id, cls⟩ = ty ++ ((⟨#[35]⟩ : ByteArray) ++ id) := by unfold headT; simp only; rw [h]; rfl
theorem wordB_le {s : ByteArray} (h : wordB s = true) : s.size ≤ 30 := ((wordB_iff s).1 h).1.2
theorem size_app (a b : ByteArray) : (a ++ b).size = a.size + b.size := by simp
theorem clsTo_size (h : ByteArray) (l : List ByteArray) : ∀ k, ClsTo l k → (clsTo h l k).size ≤ h.size + 31 * k
  | 0, _ => by simp [clsTo]
  | k + 1, hk => by
    have := clsTo_size h l k fun i hi => hk i (by omega)
    have h1 := wordB_le (hk k (by omega))
    rw [clsTo, size_app, size_app]
    have e : (⟨#[46]⟩ : ByteArray).size = 1 := rfl
    rw [e]; omega
theorem partT_size {p : PD} (h : partB p = true) : (partT p).size ≤ 250 := by
  unfold partB at h
  simp only [Bool.and_eq_true, decide_eq_true_eq] at h
  obtain ⟨h4, hc, ht, hi, _⟩ := h
  have h1 := clsTo_size (headT p) p.cls p.cls.length ((clsB_iff _).1 hc)
  have e1 : p.ty.size ≤ 30 := by
    rcases tyWay p.ty with ⟨e, _⟩ | ⟨e, _⟩ | ⟨_, _, _, e⟩
    · rw [e]; decide
    · rw [e]; decide
    · rw [ht] at e; exact wordB_le e
  have e2 : p.id.size ≤ 30 := by
    rcases idWay p.id with ⟨e, _⟩ | ⟨_, _, e⟩
    · rw [e]; decide
    · rw [hi] at e; exact wordB_le e
  have e3 : (headT p).size ≤ 61 := by
    unfold headT
    split
    · omega
    · rw [size_app, size_app]
      have e : (⟨#[35]⟩ : ByteArray).size = 1 := rfl
      rw [e]; omega
  unfold partT
  omega
theorem sepT_size (t : ByteArray) (k : Nat) : t.size ≤ (sepT t k).size ∧ (sepT t k).size ≤ t.size + 1 := by
  unfold sepT
  split
  · rw [size_app]
    have e : (⟨#[32]⟩ : ByteArray).size = 1 := rfl
    rw [e]; omega
  · omega
theorem selT_size {l : List PD} : ∀ k, PsTo l k → (selT l k).size ≤ 251 * k
  | 0, _ => Nat.zero_le _
  | k + 1, hk => by
    have h1 := selT_size k fun i hi => hk i (by omega)
    have h2 := partT_size (hk k (by omega))
    have h3 := sepT_size (selT l k) k
    rw [selT, size_app]
    omega
end Go.Proofs.YtnkmdmmlpidcmaaDoor
namespace Go.Proofs.YtnkmdmmlpidcmaaDoor
open Go.ChangeShapes Go.WideShapes Go.ChangeAt Go.RowKit
set_option linter.unusedVariables false

theorem ret_str {a b : ByteArray} (h : a = b) : Ending.returned (.string a) = .returned (.string b) := by rw [h]
theorem partB_parts {ty id : ByteArray} {cls : List ByteArray} (h : partB ⟨ty, id, cls⟩ = true) : cls.length ≤ 4 ∧ ClsTo cls cls.length ∧ typeB ty = true ∧ idB id = true ∧ ty.size ≤ 30 ∧ id.size ≤ 30 := by
  unfold partB at h
  simp only [Bool.and_eq_true, decide_eq_true_eq] at h
  obtain ⟨h4, hc, ht, hi, _⟩ := h
  refine ⟨h4, (clsB_iff _).1 hc, ht, hi, ?_, ?_⟩
  · rcases tyWay ty with ⟨e, _⟩ | ⟨e, _⟩ | ⟨_, _, _, e⟩
    · rw [e]; decide
    · rw [e]; decide
    · rw [ht] at e; exact wordB_le e
  · rcases idWay id with ⟨e, _⟩ | ⟨_, _, e⟩
    · rw [e]; decide
    · rw [hi] at e; exact wordB_le e
theorem clsTo_lt {H : ByteArray} {l : List ByteArray} {n : Nat} (h : ClsTo l n) (h4 : n ≤ 4) (hH : H.size ≤ 100) (k : Nat) (hk : k ≤ n) : (clsTo H l k).size ≤ 1000 := by
  have := clsTo_size H l k fun i hi => h i (by omega)
  omega
set_option maxHeartbeats 2000000 in
theorem spartT (w : World) (ty id : ByteArray) (cls : List ByteArray) (a : Option Addr) (c : Nat) (hp : partB ⟨ty, id, cls⟩ = true) (hr : Strs w a cls) :
    Calls Tryd.prog 70 #[.agg #[.string ty, .string id, .slice a cls.length c]] w fun e w' => e = .returned (.string (partT ⟨ty, id, cls⟩)) ∧ Nw w w' := by
  obtain ⟨z4, hcl, _, _, z1, z2⟩ := partB_parts hp
  have HC : Hid (ClsTo cls cls.length) := hcl
  clear hp hcl
  have hwn : Nw w (w.alloc (.cells #[.string ty, .string id, .slice a cls.length c] 56)) := (Below.refl _ _).alloc (Nat.le_refl _) _
  have HR2 : Hid (Strs (w.alloc (.cells #[.string ty, .string id, .slice a cls.length c] 56)) a cls) := hr.nw hwn
  have HW : Hid (Nw w (w.alloc (.cells #[.string ty, .string id, .slice a cls.length c] 56))) := hwn
  clear hwn hr
  have fin : ∀ H, headT ⟨ty, id, cls⟩ = H → partT ⟨ty, id, cls⟩ = clsTo H cls cls.length := fun H e => by unfold partT; rw [e]
  rcases idWay id with ⟨rfl, _⟩ | ⟨d1, d2, d3⟩
  · have HF : Hid (partT ⟨ty, ⟨#[]⟩, cls⟩ = clsTo ty cls cls.length) := fin _ (headT_no (by simp [ByteArray.toList_eq]))
    clear fin
    have hH : ty.size ≤ 100 := by omega
    go_enter Tryd.func70, Tryd.ntmps70
    go_wp2
    go_loop [3, 19] (fun x i => ∃ k : Nat, k ≤ cls.length ∧ i = .int .i64 k ∧ x = .string (clsTo ty cls k)) (fun _ i => cls.length - (intOf i).toNat)
    case atStart => exact ⟨0, Nat.zero_le _, rfl, rfl⟩
    case round =>
      obtain ⟨k, hk, rfl, rfl⟩ := hrel
      by_cases hlt : k < cls.length
      · rcases HR2.out with h | ⟨b, o, rfl, hb, hc⟩
        · rw [h] at hlt; simp at hlt
        have q0 := hc k hlt
        have y0 := wordB_le (HC.out k hlt)
        have y1 := clsTo_lt HC.out z4 hH k hk
        clear hc hb HR2
        go_wp2
        go_round
        case rel => exact ⟨k + 1, by omega, by go_num, rfl⟩
        case measure => simp [intOf]; omega
      · have e : k = cls.length := by omega
        subst e
        clear HR2
        go_wp2
        go_ret
        exact ⟨ret_str HF.out.symm, HW.out⟩
  · have HF : Hid (partT ⟨ty, id, cls⟩ = clsTo (ty ++ ((⟨#[35]⟩ : ByteArray) ++ id)) cls cls.length) := fin _ (headT_yes d2)
    clear fin
    have hH : (ty ++ ((⟨#[35]⟩ : ByteArray) ++ id)).size ≤ 100 := by
      have e : (⟨#[35]⟩ : ByteArray).size = 1 := rfl
      rw [size_app, size_app, e]; omega
    go_enter Tryd.func70, Tryd.ntmps70
    go_wp2
    go_loop [3, 19] (fun x i => ∃ k : Nat, k ≤ cls.length ∧ i = .int .i64 k ∧ x = .string (clsTo (ty ++ ((⟨#[35]⟩ : ByteArray) ++ id)) cls k)) (fun _ i => cls.length - (intOf i).toNat)
    case atStart => exact ⟨0, Nat.zero_le _, rfl, rfl⟩
    case round =>
      obtain ⟨k, hk, rfl, rfl⟩ := hrel
      by_cases hlt : k < cls.length
      · rcases HR2.out with h | ⟨b, o, rfl, hb, hc⟩
        · rw [h] at hlt; simp at hlt
        have q0 := hc k hlt
        have y0 := wordB_le (HC.out k hlt)
        have y1 := clsTo_lt HC.out z4 hH k hk
        clear hc hb HR2
        go_wp2
        go_round
        case rel => exact ⟨k + 1, by omega, by go_num, rfl⟩
        case measure => simp [intOf]; omega
      · have e : k = cls.length := by omega
        subst e
        clear HR2
        go_wp2
        go_ret
        exact ⟨ret_str HF.out.symm, HW.out⟩
set_option maxHeartbeats 2000000 in
theorem sselT (w : World) (a : Option Addr) (c : Nat) (l : List PD) (hl : l.length ≤ 5) (hs : PsTo l l.length) (hr : Parts w a l) :
    Calls Tryd.prog 40 #[.slice a l.length c] w fun e w' => e = .returned (.string (selT l l.length)) ∧ Nw w w' := by
  have HR : Hid (Parts w a l) := hr
  have HS : Hid (PsTo l l.length) := hs
  clear hr hs
  go_enter Tryd.func40, Tryd.ntmps40
  go_wp2
  go_loopw [3, 8] (fun x i wr => ∃ k : Nat, k ≤ l.length ∧ i = .int .i64 k ∧ x = .string (selT l k) ∧ Nw w wr) (fun _ i _ => l.length - (intOf i).toNat)
  case atStart => exact ⟨0, Nat.zero_le _, rfl, rfl, Below.refl _ _⟩
  case round =>
    obtain ⟨k, hk, rfl, rfl, hw⟩ := hrel
    have HW : Hid (Nw w wr) := hw
    by_cases hlt : k < l.length
    · rcases (HR.out.nw hw) with h | ⟨b, off, rfl, hbk, hc⟩
      · rw [h] at hlt; simp at hlt
      obtain ⟨q0, q1, ⟨qa, qc, q2, qcap, q4⟩⟩ := hc k hlt
      have hz := HS.out k hlt
      have HZ : Hid (partB ⟨(partAt l k).ty, (partAt l k).id, (partAt l k).cls⟩ = true) := hz
      have y1 := selT_size k fun i hi => HS.out i (by omega)
      have y2 : (partT ⟨(partAt l k).ty, (partAt l k).id, (partAt l k).cls⟩).size ≤ 250 := partT_size hz
      have M1 : Hid (Nw wr (wr.alloc (.cells #[.string (partAt l k).ty, .string (partAt l k).id, .slice qa (partAt l k).cls.length qc] 56))) := (Below.refl _ _).alloc (Nat.le_refl _) _
      have Q4 : Hid (Strs (wr.alloc (.cells #[.string (partAt l k).ty, .string (partAt l k).id, .slice qa (partAt l k).cls.length qc] 56)) qa (partAt l k).cls) := q4.nw M1.out
      clear hc hw q4 hz
      by_cases h0 : 0 < k
      · have HF : Hid (selT l (k + 1) = (selT l k ++ (⟨#[32]⟩ : ByteArray)) ++ partT ⟨(partAt l k).ty, (partAt l k).id, (partAt l k).cls⟩) := by show selT l (k + 1) = _; rw [selT, sepT, if_pos h0]
        go_wp2_with (go_at_call 70; refine Calls.mono (spartT _ _ _ _ qa qc HZ.out Q4.out) ?_; rintro e w' ⟨rfl, k1⟩)
        go_roundw
        case rel => exact ⟨k + 1, by omega, by go_num, by rw [HF.out], HW.out.trans (M1.out.trans k1)⟩
        case measure => simp [intOf]; omega
      · have HF : Hid (selT l (k + 1) = selT l k ++ partT ⟨(partAt l k).ty, (partAt l k).id, (partAt l k).cls⟩) := by show selT l (k + 1) = _; rw [selT, sepT, if_neg h0]
        go_wp2_with (go_at_call 70; refine Calls.mono (spartT _ _ _ _ qa qc HZ.out Q4.out) ?_; rintro e w' ⟨rfl, k1⟩)
        go_roundw
        case rel => exact ⟨k + 1, by omega, by go_num, by rw [HF.out], HW.out.trans (M1.out.trans k1)⟩
        case measure => simp [intOf]; omega
    · have e : k = l.length := by omega
      subst e
      clear hw
      go_wp2
      go_ret
      exact ⟨rfl, HW.out⟩
end Go.Proofs.YtnkmdmmlpidcmaaDoor
