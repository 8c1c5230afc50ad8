/-
  Rules measured by the laws' helpers; each theorem names its conditions.
  A rune held against the four blanks; each theorem names its conditions.
  A rune held against the bytes that no value has; each theorem names its conditions.
  A value held against the bytes that no value has, by the library; each theorem names its conditions.
-/
import Derived.Test.YtnkmdmmlpidcmaaDoorJAM
import Derived.Test.YtnkmdmmlpidcmaaDoorJAD
import Derived.Test.YtnkmdmmlpidcmaaDoorJAB
import Derived.Test.YtnkmdmmlpidcmaaDoorJAG
import Derived.Test.YtnkmdmmlpidcmaaDoorJAL
import Derived.Laws.RangeAny
import Derived.Laws.Runes
import Derived.WalkMore
import Derived.Lib.TrimU
import Derived.Lib.DecodeN
namespace Go.Proofs.YtnkmdmmlpidcmaaDoor
open Go.ChangeShapes Go.WideShapes Go.ChangeAt Go.RowKit
set_option linter.unusedVariables false

def bulkD (d : DD) : Nat := d.nm.size + d.vl.size
structure okD (d : DD) : Prop where
  o1 : d.nm.size ≤ maxLen
  o2 : d.vl.size ≤ maxLen
def bulkX (l : List PD) : Nat := l.length + bulkPs l
structure okX (l : List PD) : Prop where
  o1 : l.length ≤ maxLen
  o2 : okPDs l
def bulkDs (l : List DD) : Nat := (l.map bulkD).sum
theorem bulkDs_step (l : List DD) (k : Nat) (h : k < l.length) : bulkDs (l.take (k + 1)) = bulkDs (l.take k) + bulkD (declAt l k) := by
  unfold bulkDs
  rw [List.take_add_one, List.getElem?_eq_getElem h]
  have e : declAt l k = l[k] := by simp [declAt, h]
  rw [e]
  simp only [Option.toList, List.map_append, List.map_cons, List.map_nil, List.sum_append, List.sum_cons, List.sum_nil, Nat.add_zero]
theorem bulkDs_le (l : List DD) (k : Nat) : bulkDs (l.take k) ≤ bulkDs l := by
  unfold bulkDs
  conv => rhs; rw [← List.take_append_drop k l]
  rw [List.map_append, List.sum_append]
  omega
def szbulkDs (l : List DD) (left : Int) : Int := if ((l.length + bulkDs l : Nat) : Int) ≤ left then left - ((l.length + bulkDs l : Nat) : Int) else -1
def okDs (l : List DD) : Prop := ∀ i, i < l.length → okD (declAt l i)
def bulkSS (l : List (List PD)) : Nat := (l.map bulkX).sum
theorem bulkSS_step (l : List (List PD)) (k : Nat) (h : k < l.length) : bulkSS (l.take (k + 1)) = bulkSS (l.take k) + bulkX (selAt l k) := by
  unfold bulkSS
  rw [List.take_add_one, List.getElem?_eq_getElem h]
  have e : selAt l k = l[k] := by simp [selAt, h]
  rw [e]
  simp only [Option.toList, List.map_append, List.map_cons, List.map_nil, List.sum_append, List.sum_cons, List.sum_nil, Nat.add_zero]
theorem bulkSS_le (l : List (List PD)) (k : Nat) : bulkSS (l.take k) ≤ bulkSS l := by
  unfold bulkSS
  conv => rhs; rw [← List.take_append_drop k l]
  rw [List.map_append, List.sum_append]
  omega
def szbulkSS (l : List (List PD)) (left : Int) : Int := if ((l.length + bulkSS l : Nat) : Int) ≤ left then left - ((l.length + bulkSS l : Nat) : Int) else -1
def okSS (l : List (List PD)) : Prop := ∀ i, i < l.length → okX (selAt l i)
def bulkR (r : RD) : Nat := (r.sels.length + bulkSS r.sels) + (r.decls.length + bulkDs r.decls)
structure okR (r : RD) : Prop where
  o1 : r.sels.length ≤ maxLen
  o2 : okSS r.sels
  o3 : r.decls.length ≤ maxLen
  o4 : okDs r.decls
def bulkRs (l : List RD) : Nat := (l.map bulkR).sum
theorem bulkRs_step (l : List RD) (k : Nat) (h : k < l.length) : bulkRs (l.take (k + 1)) = bulkRs (l.take k) + bulkR (ruleAt l k) := by
  unfold bulkRs
  rw [List.take_add_one, List.getElem?_eq_getElem h]
  have e : ruleAt l k = l[k] := by simp [ruleAt, h]
  rw [e]
  simp only [Option.toList, List.map_append, List.map_cons, List.map_nil, List.sum_append, List.sum_cons, List.sum_nil, Nat.add_zero]
theorem bulkRs_le (l : List RD) (k : Nat) : bulkRs (l.take k) ≤ bulkRs l := by
  unfold bulkRs
  conv => rhs; rw [← List.take_append_drop k l]
  rw [List.map_append, List.sum_append]
  omega
def szbulkRs (l : List RD) (left : Int) : Int := if ((l.length + bulkRs l : Nat) : Int) ≤ left then left - ((l.length + bulkRs l : Nat) : Int) else -1
def okRs (l : List RD) : Prop := ∀ i, i < l.length → okR (ruleAt l i)
set_option maxHeartbeats 1000000 in
theorem szDecl_any (w : World) (n : DD) (left : Int) (h0 : 0 ≤ left) (h1 : left ≤ 1048576) (ho : okD n) :
    Calls Tryd.prog 102 #[.agg #[.string n.nm, .string n.vl, .bool n.im], .int .i64 left] w fun e w' => e = .returned (.int .i64 (if (bulkD n : Int) ≤ left then left - (bulkD n : Int) else -1)) ∧ Nw w w' := by
  obtain ⟨nm, vl, im⟩ := n
  obtain ⟨o1, o2⟩ := ho
  unfold bulkD
  simp only at *
  have M : nm.size ≤ 9223372036854775807 ∧ vl.size ≤ 9223372036854775807 := by unfold maxLen at o1 o2; omega
  obtain ⟨m1, m2⟩ := M
  clear o1 o2
  by_cases c1 : (nm.size : Int) ≤ left
  · by_cases c2 : (vl.size : Int) ≤ left - nm.size
    · rw [if_pos (by omega)]
      go_enter Tryd.func102, Tryd.ntmps102
      go_wp2
      go_ret
      exact ⟨ret_int (by omega), (Below.refl _ _).alloc (Nat.le_refl _) _⟩
    · rw [if_neg (by omega)]
      go_enter Tryd.func102, Tryd.ntmps102
      go_wp2
      go_ret
      exact ⟨rfl, (Below.refl _ _).alloc (Nat.le_refl _) _⟩
  · rw [if_neg (by omega)]
    go_enter Tryd.func102, Tryd.ntmps102
    go_wp2
    go_ret
    exact ⟨rfl, (Below.refl _ _).alloc (Nat.le_refl _) _⟩
set_option maxHeartbeats 1000000 in
theorem szDeclS_any (w : World) (a : Option Addr) (c : Nat) (l : List DD) (left : Int) (h0 : 0 ≤ left) (h1 : left ≤ 1048576) (hm : l.length ≤ maxLen) (hr : DeclsO w a l) (hs : okDs l) :
    Calls Tryd.prog 67 #[.slice a l.length c, .int .i64 left] w fun e w' => e = .returned (.int .i64 (szbulkDs l left)) ∧ Nw w w' := by
  unfold maxLen at hm
  by_cases c1 : (l.length : Int) ≤ left
  · have HS : Hid (okDs l) := hs
    have HR : Hid (DeclsO w a l) := hr
    clear hs hr
    go_enter Tryd.func67, Tryd.ntmps67
    go_wp2
    go_loopw [1, 5] (fun x i wr => ∃ k : Nat, k ≤ l.length ∧ i = .int .i64 k ∧ x = .int .i64 (left - l.length - (bulkDs (l.take k) : Nat)) ∧ (bulkDs (l.take k) : Int) ≤ left - l.length ∧ Nw w wr) (fun _ i _ => l.length - (intOf i).toNat)
    case atStart => exact ⟨0, Nat.zero_le _, rfl, by simp [bulkDs], by simp [bulkDs]; omega, Below.refl _ _⟩
    case round =>
      obtain ⟨k, hk, rfl, rfl, hb, hw⟩ := hrel
      by_cases hlt : k < l.length
      · have hs2 := bulkDs_step l k hlt
        have hle := bulkDs_le l (k + 1)
        have hz := HS.out k hlt
        rcases (HR.out.nw hw) with h | ⟨b, off, rfl, hbk, hc⟩
        · rw [h] at hlt; simp at hlt
        obtain ⟨q0, q1, q2⟩ := hc k hlt
        have HZ : Hid _ := hz
        have HW : Hid (Nw w wr) := hw
        clear hc hw hz
        generalize bulkDs (l.take k) = b1 at *
        have HE : Hid (bulkDs (l.take (k + 1)) = b1 + bulkD (declAt l k)) := hs2
        rw [hs2] at hle
        clear hs2
        by_cases c2 : (bulkD (declAt l k) : Int) ≤ left - l.length - b1
        · go_wp2_with (go_at_call 102; refine Calls.mono (szDecl_any _ (declAt l k) _ (by omega) (by omega) HZ.out) ?_; rw [if_pos c2]; rintro e w' ⟨rfl, k1⟩)
          go_roundw
          case rel => exact ⟨k + 1, by omega, by go_num, by rw [HE.out]; go_num, by rw [HE.out]; omega, HW.out.trans k1⟩
          case measure => simp [intOf]; omega
        · have HX : Hid (szbulkDs l left = -1) := by show szbulkDs l left = -1; unfold szbulkDs; rw [if_neg (by omega)]
          go_wp2_with (go_at_call 102; refine Calls.mono (szDecl_any _ (declAt l k) _ (by omega) (by omega) HZ.out) ?_; rw [if_neg c2]; rintro e w' ⟨rfl, k1⟩)
          go_ret
          exact ⟨ret_int HX.out.symm, HW.out.trans k1⟩
      · have e : k = l.length := by omega
        subst e
        rw [List.take_length] at *
        have HX : Hid (szbulkDs l left = left - l.length - bulkDs l) := by show szbulkDs l left = _; unfold szbulkDs; rw [if_pos (by omega)]; omega
        have HW : Hid (Nw w wr) := hw
        clear hw
        go_wp2
        go_ret
        exact ⟨ret_int HX.out.symm, HW.out⟩
  · have HX : Hid (szbulkDs l left = -1) := by show szbulkDs l left = -1; unfold szbulkDs; rw [if_neg (by omega)]
    clear hr hs
    go_enter Tryd.func67, Tryd.ntmps67
    go_wp2
    go_ret
    exact ⟨ret_int HX.out.symm, Below.refl _ _⟩
theorem szX_eq (l : List PD) (left : Int) : szPs l left = if (bulkX l : Int) ≤ left then left - (bulkX l : Int) else -1 := rfl
theorem szX_any (w : World) (a : Option Addr) (c : Nat) (l : List PD) (left : Int) (h0 : 0 ≤ left) (h1 : left ≤ 1048576) (ho : okX l) (hr : Parts w a l) :
    Calls Tryd.prog 101 #[.slice a l.length c, .int .i64 left] w fun e w' => e = .returned (.int .i64 (if (bulkX l : Int) ≤ left then left - (bulkX l : Int) else -1)) ∧ Nw w w' := by
  rw [← szX_eq]
  exact szPartS_any w a c l left h0 h1 ho.o1 hr ho.o2
set_option maxHeartbeats 1000000 in
theorem szSS_any (w : World) (a : Option Addr) (c : Nat) (l : List (List PD)) (left : Int) (h0 : 0 ≤ left) (h1 : left ≤ 1048576) (hm : l.length ≤ maxLen) (hr : Selss w a l) (hs : okSS l) :
    Calls Tryd.prog 66 #[.slice a l.length c, .int .i64 left] w fun e w' => e = .returned (.int .i64 (szbulkSS l left)) ∧ Nw w w' := by
  unfold maxLen at hm
  by_cases c1 : (l.length : Int) ≤ left
  · have HS : Hid (okSS l) := hs
    have HR : Hid (Selss w a l) := hr
    clear hs hr
    go_enter Tryd.func66, Tryd.ntmps66
    go_wp2
    go_loopw [1, 5] (fun x i wr => ∃ k : Nat, k ≤ l.length ∧ i = .int .i64 k ∧ x = .int .i64 (left - l.length - (bulkSS (l.take k) : Nat)) ∧ (bulkSS (l.take k) : Int) ≤ left - l.length ∧ Nw w wr) (fun _ i _ => l.length - (intOf i).toNat)
    case atStart => exact ⟨0, Nat.zero_le _, rfl, by simp [bulkSS], by simp [bulkSS]; omega, Below.refl _ _⟩
    case round =>
      obtain ⟨k, hk, rfl, rfl, hb, hw⟩ := hrel
      by_cases hlt : k < l.length
      · have hs2 := bulkSS_step l k hlt
        have hle := bulkSS_le l (k + 1)
        have hz := HS.out k hlt
        rcases (HR.out.nw hw) with h | ⟨b, off, rfl, hbk, hc⟩
        · rw [h] at hlt; simp at hlt
        obtain ⟨qa, qc, q0, qcap, q4⟩ := hc k hlt
        have Q4 : Hid (Parts wr qa (selAt l k)) := q4
        clear q4
        have HZ : Hid _ := hz
        have HW : Hid (Nw w wr) := hw
        clear hc hw hz
        generalize bulkSS (l.take k) = b1 at *
        have HE : Hid (bulkSS (l.take (k + 1)) = b1 + bulkX (selAt l k)) := hs2
        rw [hs2] at hle
        clear hs2
        by_cases c2 : (bulkX (selAt l k) : Int) ≤ left - l.length - b1
        · go_wp2_with (go_at_call 101; refine Calls.mono (szX_any _ qa qc (selAt l k) _ (by omega) (by omega) HZ.out Q4.out) ?_; rw [if_pos c2]; rintro e w' ⟨rfl, k1⟩)
          go_roundw
          case rel => exact ⟨k + 1, by omega, by go_num, by rw [HE.out]; go_num, by rw [HE.out]; omega, HW.out.trans k1⟩
          case measure => simp [intOf]; omega
        · have HX : Hid (szbulkSS l left = -1) := by show szbulkSS l left = -1; unfold szbulkSS; rw [if_neg (by omega)]
          go_wp2_with (go_at_call 101; refine Calls.mono (szX_any _ qa qc (selAt l k) _ (by omega) (by omega) HZ.out Q4.out) ?_; rw [if_neg c2]; rintro e w' ⟨rfl, k1⟩)
          go_ret
          exact ⟨ret_int HX.out.symm, HW.out.trans k1⟩
      · have e : k = l.length := by omega
        subst e
        rw [List.take_length] at *
        have HX : Hid (szbulkSS l left = left - l.length - bulkSS l) := by show szbulkSS l left = _; unfold szbulkSS; rw [if_pos (by omega)]; omega
        have HW : Hid (Nw w wr) := hw
        clear hw
        go_wp2
        go_ret
        exact ⟨ret_int HX.out.symm, HW.out⟩
  · have HX : Hid (szbulkSS l left = -1) := by show szbulkSS l left = -1; unfold szbulkSS; rw [if_neg (by omega)]
    clear hr hs
    go_enter Tryd.func66, Tryd.ntmps66
    go_wp2
    go_ret
    exact ⟨ret_int HX.out.symm, Below.refl _ _⟩
set_option maxHeartbeats 2000000 in
theorem szRule_any (w : World) (r : RD) (a1 a2 : Option Addr) (c1 c2 : Nat) (left : Int) (h0 : 0 ≤ left) (h1 : left ≤ 1048576) (ho : okR r) (hs : Selss w a1 r.sels) (hd : DeclsO w a2 r.decls) :
    Calls Tryd.prog 38 #[.agg #[.slice a1 r.sels.length c1, .slice a2 r.decls.length c2], .int .i64 left] w fun e w' => e = .returned (.int .i64 (if (bulkR r : Int) ≤ left then left - (bulkR r : Int) else -1)) ∧ Nw w w' := by
  obtain ⟨ss, ds⟩ := r
  obtain ⟨o1, o2, o3, o4⟩ := ho
  unfold bulkR
  simp only at *
  have H1 : Hid (ss.length ≤ maxLen) := o1
  have H2 : Hid (okSS ss) := o2
  have H3 : Hid (ds.length ≤ maxLen) := o3
  have H4 : Hid (okDs ds) := o4
  have HA : ∀ o, Hid (Nw w (w.alloc o)) := fun o => (Below.refl _ _).alloc (Nat.le_refl _) _
  have HS : Hid (Selss w a1 ss) := hs
  have HD : Hid (DeclsO w a2 ds) := hd
  have HSS : Hid (∀ left, szbulkSS ss left = if ((ss.length + bulkSS ss : Nat) : Int) ≤ left then left - ((ss.length + bulkSS ss : Nat) : Int) else -1) := fun _ => rfl
  have HDD : Hid (∀ left, szbulkDs ds left = if ((ds.length + bulkDs ds : Nat) : Int) ≤ left then left - ((ds.length + bulkDs ds : Nat) : Int) else -1) := fun _ => rfl
  clear o1 o2 o3 o4 hs hd
  generalize ss.length + bulkSS ss = B1 at *
  generalize ds.length + bulkDs ds = B2 at *
  by_cases c1 : (B1 : Int) ≤ left
  · by_cases c2 : (B2 : Int) ≤ left - B1
    · rw [if_pos (by omega)]
      go_enter Tryd.func38, Tryd.ntmps38
      go_wp2_with fail
      refine Calls.mono (szSS_any _ a1 _ ss left h0 h1 H1.out (HS.out.nw (HA _).out) H2.out) ?_
      rw [HSS.out, if_pos (by omega)]
      rintro e w1 ⟨rfl, k1⟩
      obtain ⟨hc, hf⟩ := bcell k1
      have K1 : Hid (Nw w w1) := Nw.trans (HA _).out k1
      clear k1
      go_wp2_with fail
      refine Calls.mono (szDeclS_any _ a2 _ ds _ (by omega) (by omega) H3.out (HD.out.nw K1.out) H4.out) ?_
      rw [HDD.out, if_pos (by omega)]
      rintro e w2 ⟨rfl, k2⟩
      have K2 : Hid (Nw w w2) := Nw.trans K1.out k2
      clear k2
      go_wp2
      go_ret
      exact ⟨ret_int (by omega), K2.out⟩
    · rw [if_neg (by omega)]
      go_enter Tryd.func38, Tryd.ntmps38
      go_wp2_with fail
      refine Calls.mono (szSS_any _ a1 _ ss left h0 h1 H1.out (HS.out.nw (HA _).out) H2.out) ?_
      rw [HSS.out, if_pos (by omega)]
      rintro e w1 ⟨rfl, k1⟩
      obtain ⟨hc, hf⟩ := bcell k1
      have K1 : Hid (Nw w w1) := Nw.trans (HA _).out k1
      clear k1
      go_wp2_with fail
      refine Calls.mono (szDeclS_any _ a2 _ ds _ (by omega) (by omega) H3.out (HD.out.nw K1.out) H4.out) ?_
      rw [HDD.out, if_neg (by omega)]
      rintro e w2 ⟨rfl, k2⟩
      have K2 : Hid (Nw w w2) := Nw.trans K1.out k2
      clear k2
      go_wp2
      go_ret
      exact ⟨rfl, K2.out⟩
  · rw [if_neg (by omega)]
    go_enter Tryd.func38, Tryd.ntmps38
    go_wp2_with fail
    refine Calls.mono (szSS_any _ a1 _ ss left h0 h1 H1.out (HS.out.nw (HA _).out) H2.out) ?_
    rw [HSS.out, if_neg (by omega)]
    rintro e w1 ⟨rfl, k1⟩
    have K1 : Hid (Nw w w1) := Nw.trans (HA _).out k1
    clear k1
    go_wp2
    go_ret
    exact ⟨rfl, K1.out⟩
set_option maxHeartbeats 1000000 in
theorem szRuleS_any (w : World) (a : Option Addr) (c : Nat) (l : List RD) (left : Int) (h0 : 0 ≤ left) (h1 : left ≤ 1048576) (hm : l.length ≤ maxLen) (hr : Rules w a l) (hs : okRs l) :
    Calls Tryd.prog 17 #[.slice a l.length c, .int .i64 left] w fun e w' => e = .returned (.int .i64 (szbulkRs l left)) ∧ Nw w w' := by
  unfold maxLen at hm
  by_cases c1 : (l.length : Int) ≤ left
  · have HS : Hid (okRs l) := hs
    have HR : Hid (Rules w a l) := hr
    clear hs hr
    go_enter Tryd.func17, Tryd.ntmps17
    go_wp2
    go_loopw [1, 5] (fun x i wr => ∃ k : Nat, k ≤ l.length ∧ i = .int .i64 k ∧ x = .int .i64 (left - l.length - (bulkRs (l.take k) : Nat)) ∧ (bulkRs (l.take k) : Int) ≤ left - l.length ∧ Nw w wr) (fun _ i _ => l.length - (intOf i).toNat)
    case atStart => exact ⟨0, Nat.zero_le _, rfl, by simp [bulkRs], by simp [bulkRs]; omega, Below.refl _ _⟩
    case round =>
      obtain ⟨k, hk, rfl, rfl, hb, hw⟩ := hrel
      by_cases hlt : k < l.length
      · have hs2 := bulkRs_step l k hlt
        have hle := bulkRs_le l (k + 1)
        have hz := HS.out k hlt
        rcases (HR.out.nw hw) with h | ⟨b, off, rfl, hbk, hc⟩
        · rw [h] at hlt; simp at hlt
        obtain ⟨⟨qa, qc, q0, qcap, q4⟩, ⟨ra, rc, r0, rcap, r4⟩⟩ := hc k hlt
        have Q4 : Hid (Selss wr qa (ruleAt l k).sels) := q4
        have R4 : Hid (DeclsO wr ra (ruleAt l k).decls) := r4
        clear q4 r4
        have HZ : Hid _ := hz
        have HW : Hid (Nw w wr) := hw
        clear hc hw hz
        generalize bulkRs (l.take k) = b1 at *
        have HE : Hid (bulkRs (l.take (k + 1)) = b1 + bulkR (ruleAt l k)) := hs2
        rw [hs2] at hle
        clear hs2
        by_cases c2 : (bulkR (ruleAt l k) : Int) ≤ left - l.length - b1
        · go_wp2_with (go_at_call 38; refine Calls.mono (szRule_any _ (ruleAt l k) qa ra qc rc _ (by omega) (by omega) HZ.out Q4.out R4.out) ?_; rw [if_pos c2]; rintro e w' ⟨rfl, k1⟩)
          go_roundw
          case rel => exact ⟨k + 1, by omega, by go_num, by rw [HE.out]; go_num, by rw [HE.out]; omega, HW.out.trans k1⟩
          case measure => simp [intOf]; omega
        · have HX : Hid (szbulkRs l left = -1) := by show szbulkRs l left = -1; unfold szbulkRs; rw [if_neg (by omega)]
          go_wp2_with (go_at_call 38; refine Calls.mono (szRule_any _ (ruleAt l k) qa ra qc rc _ (by omega) (by omega) HZ.out Q4.out R4.out) ?_; rw [if_neg c2]; rintro e w' ⟨rfl, k1⟩)
          go_ret
          exact ⟨ret_int HX.out.symm, HW.out.trans k1⟩
      · have e : k = l.length := by omega
        subst e
        rw [List.take_length] at *
        have HX : Hid (szbulkRs l left = left - l.length - bulkRs l) := by show szbulkRs l left = _; unfold szbulkRs; rw [if_pos (by omega)]; omega
        have HW : Hid (Nw w wr) := hw
        clear hw
        go_wp2
        go_ret
        exact ⟨ret_int HX.out.symm, HW.out⟩
  · have HX : Hid (szbulkRs l left = -1) := by show szbulkRs l left = -1; unfold szbulkRs; rw [if_neg (by omega)]
    clear hr hs
    go_enter Tryd.func17, Tryd.ntmps17
    go_wp2
    go_ret
    exact ⟨ret_int HX.out.symm, Below.refl _ _⟩
end Go.Proofs.YtnkmdmmlpidcmaaDoor
namespace Go.Proofs.YtnkmdmmlpidcmaaDoor
open Go.ChangeShapes Go.WideShapes Go.ChangeAt Go.RowKit
set_option linter.unusedVariables false

def blanksT : ByteArray := ⟨#[9, 10, 13, 32]⟩
theorem indexByte_high (t : ByteArray) (y : Nat) (ht : ∀ b ∈ t.data.toList, b.toNat < 128) (h1 : 128 ≤ y) (h2 : y ≤ 255) (W : World) :
    Calls Tryd.prog 129 #[.string t, .int .u8 (y : Int)] W fun e w' => e = .returned (.int .i64 (-1)) ∧ w' = W := by
  refine (Tryd.strings_IndexByte t y W).mono ?_
  rintro e w' ⟨rfl, rfl⟩
  refine ⟨?_, rfl⟩
  have hne : ∀ b ∈ t.data.toList, b ≠ (y : Int).toNat.toUInt8 := fun b hb e => by
    have h := ht b hb
    rw [e] at h
    simp at h
    omega
  rw [← Lib.firstIdx_eq, firstIdx_none _ _ hne]
theorem blanks_low (b : UInt8) (h : b ∈ (⟨#[9, 10, 13, 32]⟩ : ByteArray).data.toList) : b.toNat < 128 := by
  simp at h
  rcases h with rfl | rfl | rfl | rfl <;> decide
theorem bt_blanks (i : Nat) (h : i < (⟨#[9, 10, 13, 32]⟩ : ByteArray).size) : ((⟨#[9, 10, 13, 32]⟩ : ByteArray)[i]'h).toNat < 128 :=
  blanks_low _ (Array.getElem_mem_toList (xs := (⟨#[9, 10, 13, 32]⟩ : ByteArray).data) h)
set_option maxHeartbeats 4000000 in
set_option maxRecDepth 100000 in
theorem indexRune_error (w : World) :
    Calls Tryd.prog 99 #[.string ⟨#[9, 10, 13, 32]⟩, .int .i32 65533] w fun e w' => e = .returned (.int .i64 (-1)) ∧ Nw w w' := by
  have hsz : (⟨#[9, 10, 13, 32]⟩ : ByteArray).size = 4 := rfl
  have HL : Hid (∀ i (h : i < (⟨#[9, 10, 13, 32]⟩ : ByteArray).size), ((⟨#[9, 10, 13, 32]⟩ : ByteArray)[i]'h).toNat < 128) := bt_blanks
  generalize hS : (⟨#[9, 10, 13, 32]⟩ : ByteArray) = S at *
  clear hS
  go_enter Tryd.func99, Tryd.ntmps99
  go_wp2
  go_loopw [] (fun wr => ∃ pos : Nat, pos ≤ S.size ∧ wr = w.iter S pos) (fun wr => S.size - wr.iterPos w.heap.size)
  case atStart => exact ⟨0, Nat.zero_le _, rfl⟩
  case round =>
    obtain ⟨pos, hp, rfl⟩ := hrel
    by_cases hlt : pos < S.size
    · have ha := HL.out pos hlt
      have hnx : ∀ ty, (Instr.next (.pointer (some ⟨w.heap.size, 0, none⟩)) true ty).run Tryd.prog (w.iter S pos) = .ok (.tuple #[.bool true, .int .i64 pos, .int .i32 ((S[pos]'hlt).toNat : Int)]) (w.iter S (pos + 1)) := fun ty => by
        have := run_next_any (P := Tryd.prog) w S pos ty hlt
        rw [decode_ascii S pos hlt ha] at this
        exact this
      have hne : (((S[pos]'hlt).toNat : Int) == 65533) = false := beq_eq_false_iff_ne.2 (by omega)
      generalize (S[pos]'hlt).toNat = x at *
      clear hsz
      go_wp2
      go_roundw
      case rel => exact ⟨pos + 1, by omega, rfl⟩
      case measure => simp; omega
    · have hnx := fun ty => run_next_end (P := Tryd.prog) w S pos ty hlt
      clear hsz
      go_wp2
      go_ret
      exact ⟨rfl, (Below.refl _ _).alloc (Nat.le_refl _) _⟩
set_option maxHeartbeats 4000000 in
set_option maxRecDepth 100000 in
theorem indexRune_bad (w : World) (r : Int) (h1 : 128 ≤ r) (h2 : r ≤ 1114111) (he : ¬ r = 65533) (hv : Lib.validRune r = false) :
    Calls Tryd.prog 99 #[.string ⟨#[9, 10, 13, 32]⟩, .int .i32 r] w fun e w' => e = .returned (.int .i64 (-1)) ∧ Nw w w' := by
  have hne : (r == 65533) = false := beq_eq_false_iff_ne.2 he
  go_enter Tryd.func99, Tryd.ntmps99
  go_wp2_with (go_at_call 130; refine (Tryd.utf8_ValidRune r _).mono ?_; rw [hv]; rintro e w' ⟨rfl, hq⟩; have hq2 := hq.symm; clear hq; subst hq2)
  go_ret
  exact ⟨rfl, Below.refl _ _⟩
set_option maxHeartbeats 4000000 in
set_option maxRecDepth 100000 in
theorem indexRune_far (w : World) (r : Int) (h1 : 128 ≤ r) (h2 : r ≤ 1114111) (he : ¬ r = 65533) (hv : Lib.validRune r = true) :
    Calls Tryd.prog 99 #[.string ⟨#[9, 10, 13, 32]⟩, .int .i32 r] w fun e w' => e = .returned (.int .i64 (-1)) ∧ Nw w w' := by
  have hne : (r == 65533) = false := beq_eq_false_iff_ne.2 he
  have hval : Utf8.valid r = true := by rw [validRune_eq]; exact hv
  obtain ⟨e1, e2, e3⟩ := encode_facts r hval h1
  have hl : (Utf8.encode r).size - 1 < (Utf8.encode r).size := by omega
  have e4 := e3 hl
  generalize hc : Utf8.encode r = c at *
  clear e3 hval
  have hcc : c.size = 2 ∨ c.size = 3 ∨ c.size = 4 := by omega
  have e5 : ∀ j (h : j < c.size), j = c.size - 1 → 128 ≤ (c[j]'h).toNat := fun j h e => by subst e; exact e4
  clear e4 hl
  rcases hcc with hz | hz | hz
  · have hl : 1 < c.size := by omega
    have hwr : IntKind.i64.wrap 2 = 2 := by decide
    have y4 := e5 1 hl (by omega)
    have y5 := UInt8.toNat_lt (c[1]'hl)
    have HB : ∀ W t, (∀ b ∈ t.data.toList, b.toNat < 128) → Hid (Calls Tryd.prog 129 #[.string t, .int .u8 (((c[1]'hl).toNat : Nat) : Int)] W fun e w' => e = .returned (.int .i64 (-1)) ∧ w' = W) := fun W t ht => indexByte_high t _ ht y4 (by omega) W
    have y6 := bt_blanks 1 (by decide)
    have hq : (((((⟨#[9, 10, 13, 32]⟩ : ByteArray)[1]'(by decide)).toNat : Nat) : Int) == (((c[1]'hl).toNat : Nat) : Int)) = false := beq_eq_false_iff_ne.2 (by omega)
    clear e5
    go_enter Tryd.func99, Tryd.ntmps99
    go_wp2_with (go_at_call 130; refine (Tryd.utf8_ValidRune r _).mono ?_; rw [hv]; rintro e w' ⟨rfl, hq⟩; have hq2 := hq.symm; clear hq; subst hq2)
    go_step3
    go_wp2
    go_loopw [9, 10] (fun i f wr => i = .int .i64 1 ∧ f = .int .i64 0 ∧ wr = w) (fun _ _ _ => 0)
    case atStart => exact ⟨by first | rfl | (rw [hz]; rfl), rfl, rfl⟩
    case round =>
      obtain ⟨rfl, rfl, rfl⟩ := hrel
      go_wp2
      go_step3
      go_wp2
      go_quiet (fail)
      go_wp2
      go_quiet ((go_at_call 129; refine Calls.mono (HB _ _ (fun b hb => blanks_low b (mem_extract hb))).out ?_; rintro e w9 ⟨rfl, rfl⟩; exact ⟨rfl, _, rfl⟩))
      go_wp2
      rw [Exit.noGoto_ret]
      go_wp2
      rw [Exit.noGoto_ret]
      go_ret
      exact ⟨rfl, by first | exact (((Kp.refl _).drewN _).drewN _).nw | exact ((Kp.refl _).drewN _).nw⟩
  · have hl : 2 < c.size := by omega
    have hwr : IntKind.i64.wrap 3 = 3 := by decide
    have y4 := e5 2 hl (by omega)
    have y5 := UInt8.toNat_lt (c[2]'hl)
    have HB : ∀ W t, (∀ b ∈ t.data.toList, b.toNat < 128) → Hid (Calls Tryd.prog 129 #[.string t, .int .u8 (((c[2]'hl).toNat : Nat) : Int)] W fun e w' => e = .returned (.int .i64 (-1)) ∧ w' = W) := fun W t ht => indexByte_high t _ ht y4 (by omega) W
    have y6 := bt_blanks 2 (by decide)
    have hq : (((((⟨#[9, 10, 13, 32]⟩ : ByteArray)[2]'(by decide)).toNat : Nat) : Int) == (((c[2]'hl).toNat : Nat) : Int)) = false := beq_eq_false_iff_ne.2 (by omega)
    clear e5
    go_enter Tryd.func99, Tryd.ntmps99
    go_wp2_with (go_at_call 130; refine (Tryd.utf8_ValidRune r _).mono ?_; rw [hv]; rintro e w' ⟨rfl, hq⟩; have hq2 := hq.symm; clear hq; subst hq2)
    go_step3
    go_wp2
    go_loopw [9, 10] (fun i f wr => i = .int .i64 2 ∧ f = .int .i64 0 ∧ wr = w) (fun _ _ _ => 0)
    case atStart => exact ⟨by first | rfl | (rw [hz]; rfl), rfl, rfl⟩
    case round =>
      obtain ⟨rfl, rfl, rfl⟩ := hrel
      go_wp2
      go_step3
      go_wp2
      go_quiet (fail)
      go_wp2
      go_quiet ((go_at_call 129; refine Calls.mono (HB _ _ (fun b hb => blanks_low b (mem_extract hb))).out ?_; rintro e w9 ⟨rfl, rfl⟩; exact ⟨rfl, _, rfl⟩))
      go_wp2
      rw [Exit.noGoto_ret]
      go_wp2
      rw [Exit.noGoto_ret]
      go_ret
      exact ⟨rfl, by first | exact (((Kp.refl _).drewN _).drewN _).nw | exact ((Kp.refl _).drewN _).nw⟩
  · have hl : 3 < c.size := by omega
    have hwr : IntKind.i64.wrap 4 = 4 := by decide
    have y4 := e5 3 hl (by omega)
    have y5 := UInt8.toNat_lt (c[3]'hl)
    have HB : ∀ W t, (∀ b ∈ t.data.toList, b.toNat < 128) → Hid (Calls Tryd.prog 129 #[.string t, .int .u8 (((c[3]'hl).toNat : Nat) : Int)] W fun e w' => e = .returned (.int .i64 (-1)) ∧ w' = W) := fun W t ht => indexByte_high t _ ht y4 (by omega) W
    have y6 := bt_blanks 3 (by decide)
    have hq : (((((⟨#[9, 10, 13, 32]⟩ : ByteArray)[3]'(by decide)).toNat : Nat) : Int) == (((c[3]'hl).toNat : Nat) : Int)) = false := beq_eq_false_iff_ne.2 (by omega)
    clear e5
    go_enter Tryd.func99, Tryd.ntmps99
    go_wp2_with (go_at_call 130; refine (Tryd.utf8_ValidRune r _).mono ?_; rw [hv]; rintro e w' ⟨rfl, hq⟩; have hq2 := hq.symm; clear hq; subst hq2)
    go_step3
    go_wp2
    go_loopw [9, 10] (fun i f wr => i = .int .i64 3 ∧ f = .int .i64 0 ∧ wr = w) (fun _ _ _ => 0)
    case atStart => exact ⟨by first | rfl | (rw [hz]; rfl), rfl, rfl⟩
    case round =>
      obtain ⟨rfl, rfl, rfl⟩ := hrel
      go_wp2
      go_step3
      go_wp2
      go_quiet (fail)
      go_wp2
      go_quiet ((go_at_call 129; refine Calls.mono (HB _ _ (fun b hb => by simp at hb)).out ?_; rintro e w9 ⟨rfl, rfl⟩; exact ⟨rfl, _, rfl⟩))
      go_wp2
      rw [Exit.noGoto_ret]
      go_wp2
      rw [Exit.noGoto_ret]
      go_ret
      exact ⟨rfl, by first | exact (((Kp.refl _).drewN _).drewN _).nw | exact ((Kp.refl _).drewN _).nw⟩
theorem blankRune (W : World) (x : Nat) (hx : x ≤ 1114111) :
    Calls Tryd.prog 33 #[.int .i32 (x : Int)] W fun e w' => e = .returned (.bool (blankN x)) ∧ Nw W w' := by
  by_cases h : x < 128
  · have key : ∀ x : Nat, x < 128 → decide (0 ≤ Lib.indexByte (⟨#[9, 10, 13, 32]⟩ : ByteArray).data.toList ((x : Int)).toNat.toUInt8) = blankN x := by decide
    have k0 := key x h
    go_enter Tryd.func33, Tryd.ntmps33
    go_wp2_with (go_at_call 62; refine (Tryd.strings_ContainsRune_ascii _ x _ (by omega) (by omega)).mono ?_; rw [k0]; rintro e w' ⟨rfl, hq⟩; have hq2 := hq.symm; clear hq; subst hq2)
    go_ret
    exact ⟨rfl, Below.refl _ _⟩
  · have hb : blankN x = false := by unfold blankN; exact decide_eq_false (by omega)
    have key : ∀ w : World, Calls Tryd.prog 99 #[.string ⟨#[9, 10, 13, 32]⟩, .int .i32 (x : Int)] w fun e w' => e = .returned (.int .i64 (-1)) ∧ Nw w w' := fun w => by
      by_cases he : (x : Int) = 65533
      · rw [he]; exact indexRune_error w
      · cases hv : Lib.validRune (x : Int) with
        | false => exact indexRune_bad w x (by omega) (by omega) he hv
        | true => exact indexRune_far w x (by omega) (by omega) he hv
    have HK : ∀ w : World, Hid (Calls Tryd.prog 99 #[.string ⟨#[9, 10, 13, 32]⟩, .int .i32 (x : Int)] w fun e w' => e = .returned (.int .i64 (-1)) ∧ Nw w w') := key
    have cr : Hid (Calls Tryd.prog 62 #[.string ⟨#[9, 10, 13, 32]⟩, .int .i32 (x : Int)] W fun e w' => e = .returned (.bool false) ∧ Nw W w') := by
      clear key
      show Calls _ _ _ _ _
      go_enter Tryd.func62, Tryd.ntmps62
      go_wp2_with (go_at_call 99; refine Calls.mono (HK _).out ?_; rintro e w' ⟨rfl, k1⟩)
      go_ret
      exact ⟨rfl, k1⟩
    clear key HK
    go_enter Tryd.func33, Tryd.ntmps33
    go_wp2_with (go_at_call 62; refine Calls.mono cr.out ?_; rintro e w' ⟨rfl, k1⟩)
    go_ret
    exact ⟨by rw [hb]; rfl, k1⟩
end Go.Proofs.YtnkmdmmlpidcmaaDoor
namespace Go.Proofs.YtnkmdmmlpidcmaaDoor
open Go.ChangeShapes Go.WideShapes Go.ChangeAt Go.RowKit
set_option linter.unusedVariables false

theorem bads_low (b : UInt8) (h : b ∈ (⟨#[59, 123, 125, 47, 33]⟩ : ByteArray).data.toList) : b.toNat < 128 := by
  simp at h
  rcases h with rfl | rfl | rfl | rfl | rfl <;> decide
theorem bt_bads (i : Nat) (h : i < (⟨#[59, 123, 125, 47, 33]⟩ : ByteArray).size) : ((⟨#[59, 123, 125, 47, 33]⟩ : ByteArray)[i]'h).toNat < 128 :=
  bads_low _ (Array.getElem_mem_toList (xs := (⟨#[59, 123, 125, 47, 33]⟩ : ByteArray).data) h)
set_option maxHeartbeats 4000000 in
set_option maxRecDepth 100000 in
theorem indexRuneX_error (w : World) :
    Calls Tryd.prog 99 #[.string ⟨#[59, 123, 125, 47, 33]⟩, .int .i32 65533] w fun e w' => e = .returned (.int .i64 (-1)) ∧ Nw w w' := by
  have hsz : (⟨#[59, 123, 125, 47, 33]⟩ : ByteArray).size = 5 := rfl
  have HL : Hid (∀ i (h : i < (⟨#[59, 123, 125, 47, 33]⟩ : ByteArray).size), ((⟨#[59, 123, 125, 47, 33]⟩ : ByteArray)[i]'h).toNat < 128) := bt_bads
  generalize hS : (⟨#[59, 123, 125, 47, 33]⟩ : ByteArray) = S at *
  clear hS
  go_enter Tryd.func99, Tryd.ntmps99
  go_wp2
  go_loopw [] (fun wr => ∃ pos : Nat, pos ≤ S.size ∧ wr = w.iter S pos) (fun wr => S.size - wr.iterPos w.heap.size)
  case atStart => exact ⟨0, Nat.zero_le _, rfl⟩
  case round =>
    obtain ⟨pos, hp, rfl⟩ := hrel
    by_cases hlt : pos < S.size
    · have ha := HL.out pos hlt
      have hnx : ∀ ty, (Instr.next (.pointer (some ⟨w.heap.size, 0, none⟩)) true ty).run Tryd.prog (w.iter S pos) = .ok (.tuple #[.bool true, .int .i64 pos, .int .i32 ((S[pos]'hlt).toNat : Int)]) (w.iter S (pos + 1)) := fun ty => by
        have := run_next_any (P := Tryd.prog) w S pos ty hlt
        rw [decode_ascii S pos hlt ha] at this
        exact this
      have hne : (((S[pos]'hlt).toNat : Int) == 65533) = false := beq_eq_false_iff_ne.2 (by omega)
      generalize (S[pos]'hlt).toNat = x at *
      clear hsz
      go_wp2
      go_roundw
      case rel => exact ⟨pos + 1, by omega, rfl⟩
      case measure => simp; omega
    · have hnx := fun ty => run_next_end (P := Tryd.prog) w S pos ty hlt
      clear hsz
      go_wp2
      go_ret
      exact ⟨rfl, (Below.refl _ _).alloc (Nat.le_refl _) _⟩
set_option maxHeartbeats 4000000 in
set_option maxRecDepth 100000 in
theorem indexRuneX_bad (w : World) (r : Int) (h1 : 128 ≤ r) (h2 : r ≤ 1114111) (he : ¬ r = 65533) (hv : Lib.validRune r = false) :
    Calls Tryd.prog 99 #[.string ⟨#[59, 123, 125, 47, 33]⟩, .int .i32 r] w fun e w' => e = .returned (.int .i64 (-1)) ∧ Nw w w' := by
  have hne : (r == 65533) = false := beq_eq_false_iff_ne.2 he
  go_enter Tryd.func99, Tryd.ntmps99
  go_wp2_with (go_at_call 130; refine (Tryd.utf8_ValidRune r _).mono ?_; rw [hv]; rintro e w' ⟨rfl, hq⟩; have hq2 := hq.symm; clear hq; subst hq2)
  go_ret
  exact ⟨rfl, Below.refl _ _⟩
set_option maxHeartbeats 4000000 in
set_option maxRecDepth 100000 in
theorem indexRuneX_far (w : World) (r : Int) (h1 : 128 ≤ r) (h2 : r ≤ 1114111) (he : ¬ r = 65533) (hv : Lib.validRune r = true) :
    Calls Tryd.prog 99 #[.string ⟨#[59, 123, 125, 47, 33]⟩, .int .i32 r] w fun e w' => e = .returned (.int .i64 (-1)) ∧ Nw w w' := by
  have hne : (r == 65533) = false := beq_eq_false_iff_ne.2 he
  have hval : Utf8.valid r = true := by rw [validRune_eq]; exact hv
  obtain ⟨e1, e2, e3⟩ := encode_facts r hval h1
  have hl : (Utf8.encode r).size - 1 < (Utf8.encode r).size := by omega
  have e4 := e3 hl
  generalize hc : Utf8.encode r = c at *
  clear e3 hval
  have hcc : c.size = 2 ∨ c.size = 3 ∨ c.size = 4 := by omega
  have e5 : ∀ j (h : j < c.size), j = c.size - 1 → 128 ≤ (c[j]'h).toNat := fun j h e => by subst e; exact e4
  clear e4 hl
  rcases hcc with hz | hz | hz
  · have hl : 1 < c.size := by omega
    have hwr : IntKind.i64.wrap 2 = 2 := by decide
    have y4 := e5 1 hl (by omega)
    have y5 := UInt8.toNat_lt (c[1]'hl)
    have HB : ∀ W t, (∀ b ∈ t.data.toList, b.toNat < 128) → Hid (Calls Tryd.prog 129 #[.string t, .int .u8 (((c[1]'hl).toNat : Nat) : Int)] W fun e w' => e = .returned (.int .i64 (-1)) ∧ w' = W) := fun W t ht => indexByte_high t _ ht y4 (by omega) W
    have y6 := bt_bads 1 (by decide)
    have hq : (((((⟨#[59, 123, 125, 47, 33]⟩ : ByteArray)[1]'(by decide)).toNat : Nat) : Int) == (((c[1]'hl).toNat : Nat) : Int)) = false := beq_eq_false_iff_ne.2 (by omega)
    clear e5
    go_enter Tryd.func99, Tryd.ntmps99
    go_wp2_with (go_at_call 130; refine (Tryd.utf8_ValidRune r _).mono ?_; rw [hv]; rintro e w' ⟨rfl, hq⟩; have hq2 := hq.symm; clear hq; subst hq2)
    go_step3
    go_wp2
    go_loopw [9, 10] (fun i f wr => i = .int .i64 1 ∧ f = .int .i64 0 ∧ wr = w) (fun _ _ _ => 0)
    case atStart => exact ⟨by first | rfl | (rw [hz]; rfl), rfl, rfl⟩
    case round =>
      obtain ⟨rfl, rfl, rfl⟩ := hrel
      go_wp2
      go_step3
      go_wp2
      go_quiet (fail)
      go_wp2
      go_quiet ((go_at_call 129; refine Calls.mono (HB _ _ (fun b hb => bads_low b (mem_extract hb))).out ?_; rintro e w9 ⟨rfl, rfl⟩; exact ⟨rfl, _, rfl⟩))
      go_wp2
      rw [Exit.noGoto_ret]
      go_wp2
      rw [Exit.noGoto_ret]
      go_ret
      exact ⟨rfl, by first | exact (((Kp.refl _).drewN _).drewN _).nw | exact ((Kp.refl _).drewN _).nw⟩
  · have hl : 2 < c.size := by omega
    have hwr : IntKind.i64.wrap 3 = 3 := by decide
    have y4 := e5 2 hl (by omega)
    have y5 := UInt8.toNat_lt (c[2]'hl)
    have HB : ∀ W t, (∀ b ∈ t.data.toList, b.toNat < 128) → Hid (Calls Tryd.prog 129 #[.string t, .int .u8 (((c[2]'hl).toNat : Nat) : Int)] W fun e w' => e = .returned (.int .i64 (-1)) ∧ w' = W) := fun W t ht => indexByte_high t _ ht y4 (by omega) W
    have y6 := bt_bads 2 (by decide)
    have hq : (((((⟨#[59, 123, 125, 47, 33]⟩ : ByteArray)[2]'(by decide)).toNat : Nat) : Int) == (((c[2]'hl).toNat : Nat) : Int)) = false := beq_eq_false_iff_ne.2 (by omega)
    clear e5
    go_enter Tryd.func99, Tryd.ntmps99
    go_wp2_with (go_at_call 130; refine (Tryd.utf8_ValidRune r _).mono ?_; rw [hv]; rintro e w' ⟨rfl, hq⟩; have hq2 := hq.symm; clear hq; subst hq2)
    go_step3
    go_wp2
    go_loopw [9, 10] (fun i f wr => i = .int .i64 2 ∧ f = .int .i64 0 ∧ wr = w) (fun _ _ _ => 0)
    case atStart => exact ⟨by first | rfl | (rw [hz]; rfl), rfl, rfl⟩
    case round =>
      obtain ⟨rfl, rfl, rfl⟩ := hrel
      go_wp2
      go_step3
      go_wp2
      go_quiet (fail)
      go_wp2
      go_quiet ((go_at_call 129; refine Calls.mono (HB _ _ (fun b hb => bads_low b (mem_extract hb))).out ?_; rintro e w9 ⟨rfl, rfl⟩; exact ⟨rfl, _, rfl⟩))
      go_wp2
      rw [Exit.noGoto_ret]
      go_wp2
      rw [Exit.noGoto_ret]
      go_ret
      exact ⟨rfl, by first | exact (((Kp.refl _).drewN _).drewN _).nw | exact ((Kp.refl _).drewN _).nw⟩
  · have hl : 3 < c.size := by omega
    have hwr : IntKind.i64.wrap 4 = 4 := by decide
    have y4 := e5 3 hl (by omega)
    have y5 := UInt8.toNat_lt (c[3]'hl)
    have HB : ∀ W t, (∀ b ∈ t.data.toList, b.toNat < 128) → Hid (Calls Tryd.prog 129 #[.string t, .int .u8 (((c[3]'hl).toNat : Nat) : Int)] W fun e w' => e = .returned (.int .i64 (-1)) ∧ w' = W) := fun W t ht => indexByte_high t _ ht y4 (by omega) W
    have y6 := bt_bads 3 (by decide)
    have hq : (((((⟨#[59, 123, 125, 47, 33]⟩ : ByteArray)[3]'(by decide)).toNat : Nat) : Int) == (((c[3]'hl).toNat : Nat) : Int)) = false := beq_eq_false_iff_ne.2 (by omega)
    clear e5
    go_enter Tryd.func99, Tryd.ntmps99
    go_wp2_with (go_at_call 130; refine (Tryd.utf8_ValidRune r _).mono ?_; rw [hv]; rintro e w' ⟨rfl, hq⟩; have hq2 := hq.symm; clear hq; subst hq2)
    go_step3
    go_wp2
    go_loopw [9, 10] (fun i f wr => i = .int .i64 3 ∧ f = .int .i64 0 ∧ wr = w) (fun _ _ _ => 0)
    case atStart => exact ⟨by first | rfl | (rw [hz]; rfl), rfl, rfl⟩
    case round =>
      obtain ⟨rfl, rfl, rfl⟩ := hrel
      go_wp2
      go_step3
      go_wp2
      go_quiet (fail)
      go_wp2
      go_quiet ((go_at_call 129; refine Calls.mono (HB _ _ (fun b hb => bads_low b (mem_extract hb))).out ?_; rintro e w9 ⟨rfl, rfl⟩; exact ⟨rfl, _, rfl⟩))
      go_wp2
      rw [Exit.noGoto_ret]
      go_wp2
      rw [Exit.noGoto_ret]
      go_ret
      exact ⟨rfl, by first | exact (((Kp.refl _).drewN _).drewN _).nw | exact ((Kp.refl _).drewN _).nw⟩
def badN (x : Nat) : Bool := decide (x = 59 ∨ x = 123 ∨ x = 125 ∨ x = 47 ∨ x = 33)
set_option maxRecDepth 100000 in
theorem badRune (w : World) (x : Nat) (hx : x ≤ 1114111) :
    Calls Tryd.prog 99 #[.string ⟨#[59, 123, 125, 47, 33]⟩, .int .i32 (x : Int)] w fun e w' => (∃ k : Int, e = .returned (.int .i64 k) ∧ decide (0 ≤ k) = badN x) ∧ Nw w w' := by
  by_cases h : x < 128
  · have key : ∀ x : Nat, x < 128 → decide (0 ≤ Lib.indexByte (⟨#[59, 123, 125, 47, 33]⟩ : ByteArray).data.toList ((x : Int)).toNat.toUInt8) = badN x := by decide
    have k0 := key x h
    refine (Tryd.strings_IndexRune_ascii _ x w (by omega) (by omega)).mono ?_
    rintro e w' ⟨rfl, rfl⟩
    exact ⟨⟨_, rfl, k0⟩, Below.refl _ _⟩
  · have hb : badN x = false := by unfold badN; exact decide_eq_false (by omega)
    have key : Calls Tryd.prog 99 #[.string ⟨#[59, 123, 125, 47, 33]⟩, .int .i32 (x : Int)] w fun e w' => e = .returned (.int .i64 (-1)) ∧ Nw w w' := by
      by_cases he : (x : Int) = 65533
      · rw [he]; exact indexRuneX_error w
      · cases hv : Lib.validRune (x : Int) with
        | false => exact indexRuneX_bad w x (by omega) (by omega) he hv
        | true => exact indexRuneX_far w x (by omega) (by omega) he hv
    refine key.mono ?_
    rintro e w' ⟨rfl, k1⟩
    exact ⟨⟨_, rfl, by rw [hb]; rfl⟩, k1⟩
end Go.Proofs.YtnkmdmmlpidcmaaDoor
namespace Go.Proofs.YtnkmdmmlpidcmaaDoor
open Go.ChangeShapes Go.WideShapes Go.ChangeAt Go.RowKit
set_option linter.unusedVariables false

def badB (b : UInt8) : Bool := badN b.toNat
def badL (l : List UInt8) : Bool := l.any badB
theorem bad_mem : ∀ n, n < 256 → ([59, 123, 125, 47, 33] : List UInt8).contains (UInt8.ofNat n) = badB (UInt8.ofNat n) := by decide +kernel
theorem bad_in (b : UInt8) : ([59, 123, 125, 47, 33] : List UInt8).contains b = badB b := by
  have h := bad_mem b.toNat (UInt8.toNat_lt b)
  rw [UInt8.ofNat_toNat] at h
  exact h
theorem indexAny_bad : ∀ l : List UInt8, decide (0 ≤ Lib.indexAny l [59, 123, 125, 47, 33]) = badL l := by
  intro l
  induction l with
  | nil => rfl
  | cons b l ih =>
    have hg := Lib.indexAny_ge [59, 123, 125, 47, 33] l
    unfold badL at *
    rw [List.any_cons, ← ih]
    have e : Lib.indexAny (b :: l) [59, 123, 125, 47, 33] = if ([59, 123, 125, 47, 33] : List UInt8).contains b then 0 else if Lib.indexAny l [59, 123, 125, 47, 33] == -1 then -1 else Lib.indexAny l [59, 123, 125, 47, 33] + 1 := rfl
    rw [e, bad_in]
    clear e
    cases hb : badB b
    · simp only [Bool.false_eq_true, if_false, Bool.false_or]
      by_cases h : Lib.indexAny l [59, 123, 125, 47, 33] = -1
      · rw [h]; rfl
      · have h2 : (Lib.indexAny l [59, 123, 125, 47, 33] == -1) = false := beq_eq_false_iff_ne.2 h
        rw [h2]
        simp only [Bool.false_eq_true, if_false]
        rw [Bool.eq_iff_iff]
        simp
        omega
    · simp
theorem next_at {P : Program} {w : World} {g : Nat} {s : ByteArray} {pos : Nat} (ty : TypeId) (hb : w.heap[g]? = some (.stringIter s pos)) (h : pos < s.size) :
    (Instr.next (.pointer (some ⟨g, 0, none⟩)) true ty).run P w = .ok (.tuple #[.bool true, .int .i64 pos, .int .i32 (Utf8.decode s pos).1]) { w with heap := w.heap.setIfInBounds g (.stringIter s (pos + (Utf8.decode s pos).2)) } := by
  simp only [Instr.next, getObj, setObj, Sem.run_bind, Sem.run, hb, Result.andThen, h, if_true]
  rfl
theorem next_end {P : Program} {w : World} {g : Nat} {s : ByteArray} {pos : Nat} (ty : TypeId) (hb : w.heap[g]? = some (.stringIter s pos)) (h : ¬ pos < s.size) :
    (Instr.next (.pointer (some ⟨g, 0, none⟩)) true ty).run P w = .ok (.tuple #[.bool false]) w := by
  simp only [Instr.next, getObj, setObj, Sem.run_bind, Sem.run, hb, Result.andThen, h, if_false]
  rfl
/-- The world in which a text's reader has gone on. -/
def setIt (w : World) (g : Nat) (s : ByteArray) (p : Nat) : World := { w with heap := w.heap.setIfInBounds g (.stringIter s p) }
theorem setIt_at {w : World} {g : Nat} {s : ByteArray} {p : Nat} (h : g < w.heap.size) : (setIt w g s p).heap[g]? = some (.stringIter s p) := by
  unfold setIt
  simp [h]
theorem setIt_nw {W w : World} {g : Nat} {s : ByteArray} {p : Nat} (h : Nw W w) (hg : W.heap.size ≤ g) : Nw W (setIt w g s p) :=
  ⟨(show w.os = W.os from Below.os h), (show w.tape = W.tape from Below.tape h), (show w.output = W.output from Below.output h), by unfold setIt; simpa using Below.size h, fun k hk => by
    unfold setIt
    simp only
    rw [Array.getElem?_setIfInBounds_ne (by omega)]
    exact Below.block h k hk⟩
theorem any_step {s : ByteArray} {pos K : Nat} (ha : (s.data.toList.take pos).any badB = false) (hK : pos + K ≤ s.size) (h : ∀ j, j < K → ∀ hj : pos + j < s.size, badB s[pos + j] = false) : (s.data.toList.take (pos + K)).any badB = false := by
  rw [List.any_eq_false] at *
  intro x hx
  obtain ⟨i, hi, rfl⟩ := List.mem_iff_getElem.1 hx
  rw [List.length_take, data_len] at hi
  rw [List.getElem_take]
  by_cases h1 : i < pos
  · exact ha _ (List.mem_iff_getElem.2 ⟨i, by rw [List.length_take, data_len]; omega, by rw [List.getElem_take]⟩)
  · have := h (i - pos) (by omega) (by omega)
    rw [getB s (pos + (i - pos)) (by omega)] at this
    simp only [show pos + (i - pos) = i by omega] at this
    rw [this]
    simp
theorem badN_high {x : Nat} (h : 128 ≤ x) : badN x = false := by unfold badN; exact decide_eq_false (by omega)
theorem rune_step {s : ByteArray} {pos : Nat} (h : pos < s.size) (hh : 128 ≤ (s[pos]'h).toNat) : ∃ x K : Nat, Utf8.decode s pos = (x, K) ∧ 128 ≤ x ∧ x ≤ 1114111 ∧ 1 ≤ K ∧ pos + K ≤ s.size ∧ ∀ j, j < K → ∀ hj : pos + j < s.size, badB s[pos + j] = false := by
  obtain ⟨h1, h2⟩ := decode_high s pos h hh
  have hc := Lib.decodeN_conts (s.size - pos) (s.get! pos).toNat (s.get! (pos + 1)).toNat (s.get! (pos + 2)).toNat (s.get! (pos + 3)).toNat
  have hr := Lib.decodeN_rune_le (s.size - pos) (s.get! pos).toNat (s.get! (pos + 1)).toNat (s.get! (pos + 2)).toNat (s.get! (pos + 3)).toNat (UInt8.toNat_lt _)
  rw [← Lib.decode_at] at hc hr
  obtain ⟨c2, c3, c4, c5⟩ := hc
  obtain ⟨x, K, hd⟩ : ∃ x K, Utf8.decode s pos = (x, K) := ⟨_, _, rfl⟩
  rw [hd] at h1 h2 c2 c3 c4 c5 hr
  simp only at *
  have gb : ∀ k (hk : k < s.size), s.get! k = s[k] := fun k hk => by
    show s.data[k]! = s.data[k]
    exact getElem!_pos s.data k hk
  refine ⟨x, K, hd, h1, hr, h2, ?_, fun j hj hjs => ?_⟩
  · rcases (show K = 1 ∨ K = 2 ∨ K = 3 ∨ K = 4 by omega) with rfl | rfl | rfl | rfl
    · omega
    · have := (c2 (by omega)).2; omega
    · have := (c3 (by omega)).2; omega
    · have := (c4 (by omega)).2; omega
  · apply badN_high
    rcases (show j = 0 ∨ j = 1 ∨ j = 2 ∨ j = 3 by omega) with rfl | rfl | rfl | rfl
    · exact hh
    · have := (c2 (by omega)).1; rw [gb _ hjs] at this; omega
    · have := (c3 (by omega)).1; rw [gb _ hjs] at this; omega
    · have := (c4 (by omega)).1; rw [gb _ hjs] at this; omega
set_option maxHeartbeats 4000000 in
set_option maxRecDepth 100000 in
theorem iany_short (s : ByteArray) (w : World) (h8 : s.size ≤ 8) : Calls Tryd.prog 135 #[.string s, .string ⟨#[59, 123, 125, 47, 33]⟩] w fun e w' => (∃ k : Int, e = .returned (.int .i64 k) ∧ decide (0 ≤ k) = badL s.data.toList) ∧ Nw w w' := by
  have hsz : (⟨#[59, 123, 125, 47, 33]⟩ : ByteArray).size = 5 := rfl
  have hne1 : (⟨#[59, 123, 125, 47, 33]⟩ : ByteArray).toList.isEmpty = false := by decide +kernel
  have hne2 : ¬ (⟨#[59, 123, 125, 47, 33]⟩ : ByteArray).toList = [] := by decide +kernel
  have hne3 : ((⟨#[59, 123, 125, 47, 33]⟩ : ByteArray).toList == []) = false := by decide +kernel
  have HBR : Hid (∀ (W : World) (x : Nat), x ≤ 1114111 → Calls Tryd.prog 99 #[.string ⟨#[59, 123, 125, 47, 33]⟩, .int .i32 (x : Int)] W fun e w' => (∃ k : Int, e = .returned (.int .i64 k) ∧ decide (0 ≤ k) = badN x) ∧ Nw W w') := fun W x hx => badRune W x hx
  generalize (⟨#[59, 123, 125, 47, 33]⟩ : ByteArray) = S at *
  go_enter Tryd.func135, Tryd.ntmps135
  go_wp2_with fail
  refine (Tryd.strings_shouldUseASCIISet (s.size : Int) _).mono ?_
  rw [decide_eq_false (by omega)]
  rintro e w1 ⟨rfl, hq⟩
  have hq2 := hq.symm; clear hq; subst hq2
  clear hne1 hne2 hne3 hsz
  go_wp2
  go_loopw [] (fun wr => ∃ pos : Nat, pos ≤ s.size ∧ wr.heap[w.heap.size]? = some (.stringIter s pos) ∧ Nw w wr ∧ (s.data.toList.take pos).any badB = false) (fun wr => s.size - wr.iterPos w.heap.size)
  case atStart => exact ⟨0, Nat.zero_le _, World.iter_heap w s 0, (Below.refl _ _).alloc (Nat.le_refl _) _, rfl⟩
  case round =>
    obtain ⟨pos, hp, hit, hw, hany⟩ := hrel
    have HIT : Hid (wr.heap[w.heap.size]? = some (.stringIter s pos)) := hit
    have HW : Hid (Nw w wr) := hw
    have HAN : Hid ((s.data.toList.take pos).any badB = false) := hany
    have hpos : wr.iterPos w.heap.size = pos := by unfold World.iterPos; rw [hit]
    have HPO : Hid (wr.iterPos w.heap.size = pos) := hpos
    have hlt0 : w.heap.size < wr.heap.size := (Array.getElem?_eq_some_iff.1 hit).1
    clear hit hw hany hpos
    by_cases hlt : pos < s.size
    · by_cases ha : (s[pos]'hlt).toNat < 128
      · have hnx : ∀ ty, (Instr.next (.pointer (some ⟨w.heap.size, 0, none⟩)) true ty).run Tryd.prog wr = .ok (.tuple #[.bool true, .int .i64 pos, .int .i32 ((s[pos]'hlt).toNat : Int)]) (setIt wr w.heap.size s (pos + 1)) := fun ty => by
          have := next_at (P := Tryd.prog) ty HIT.out hlt
          rw [decode_ascii s pos hlt ha] at this
          exact this
        have HI2 : Hid ((setIt wr w.heap.size s (pos + 1)).heap[w.heap.size]? = some (.stringIter s (pos + 1))) := setIt_at hlt0
        have HN2 : Hid (Nw w (setIt wr w.heap.size s (pos + 1))) := setIt_nw HW.out (Nat.le_refl _)
        have HS2 : Hid (w.heap.size < (setIt wr w.heap.size s (pos + 1)).heap.size) := by show _ < _; unfold setIt; simpa using hlt0
        have HB1 : Hid (badB s[pos] = badN (s[pos]'hlt).toNat) := rfl
        have HGO : Hid (badN (s[pos]'hlt).toNat = false → (s.data.toList.take (pos + 1)).any badB = false) := fun h => any_step HAN.out (by omega) (fun j hj hjs => by
          have : j = 0 := by omega
          subst this
          exact h)
        have HFD : Hid (badN (s[pos]'hlt).toNat = true → badL s.data.toList = true) := fun h => by
          unfold badL
          rw [List.any_eq_true]
          exact ⟨s[pos], by rw [getB s pos hlt]; exact List.getElem_mem _, h⟩
        generalize (s[pos]'hlt).toNat = x at *
        generalize setIt wr w.heap.size s (pos + 1) = w2 at *
        clear HB1
        go_wp2_with fail
        refine Calls.mono (HBR.out _ x (by omega)) ?_
        rintro e w3 ⟨⟨k, rfl, hk⟩, k3⟩
        cases hb : badN x with
        | true =>
          have HY := HFD.out hb
          rw [hb] at hk
          have hk0 : 0 ≤ k := of_decide_eq_true hk
          have HX : Hid (badL s.data.toList = true) := HY
          have HN3 : Hid (Nw w w3) := Nw.trans HN2.out k3
          clear hk k3 HY
          go_wp2
          go_ret
          exact ⟨⟨_, rfl, by rw [HX.out]; exact decide_eq_true (by omega)⟩, HN3.out⟩
        | false =>
          have HY : Hid _ := HGO.out hb
          rw [hb] at hk
          have hk0 : ¬ (0 ≤ k) := of_decide_eq_false hk
          have HN3 : Hid (Nw w w3) := Nw.trans HN2.out k3
          have HI3 : Hid (w3.heap[w.heap.size]? = some (.stringIter s (pos + 1))) := (Below.block k3 _ HS2.out).trans HI2.out
          have HP3 : Hid (w3.iterPos w.heap.size = pos + 1) := by show _ = _; unfold World.iterPos; rw [HI3.out]
          clear hk k3
          go_wp2
          go_roundw
          case rel => exact ⟨pos + 1, by omega, HI3.out, HN3.out, HY.out⟩
          case measure => rw [HP3.out, HPO.out]; omega
      · obtain ⟨x, K, hd, hx1, hx2, hK1, hK2, hbs⟩ := rune_step hlt (by omega)
        have hnx : ∀ ty, (Instr.next (.pointer (some ⟨w.heap.size, 0, none⟩)) true ty).run Tryd.prog wr = .ok (.tuple #[.bool true, .int .i64 pos, .int .i32 (x : Int)]) (setIt wr w.heap.size s (pos + K)) := fun ty => by
          have := next_at (P := Tryd.prog) ty HIT.out hlt
          rw [hd] at this
          exact this
        have HI2 : Hid ((setIt wr w.heap.size s (pos + K)).heap[w.heap.size]? = some (.stringIter s (pos + K))) := setIt_at hlt0
        have HN2 : Hid (Nw w (setIt wr w.heap.size s (pos + K))) := setIt_nw HW.out (Nat.le_refl _)
        have HS2 : Hid (w.heap.size < (setIt wr w.heap.size s (pos + K)).heap.size) := by show _ < _; unfold setIt; simpa using hlt0
        have HY : Hid ((s.data.toList.take (pos + K)).any badB = false) := any_step HAN.out hK2 hbs
        have hb : badN x = false := badN_high hx1
        generalize setIt wr w.heap.size s (pos + K) = w2 at *
        clear hd hbs
        go_wp2_with fail
        refine Calls.mono (HBR.out _ x hx2) ?_
        rintro e w3 ⟨⟨k, rfl, hk⟩, k3⟩
        rw [hb] at hk
        have hk0 : ¬ (0 ≤ k) := of_decide_eq_false hk
        have HN3 : Hid (Nw w w3) := Nw.trans HN2.out k3
        have HI3 : Hid (w3.heap[w.heap.size]? = some (.stringIter s (pos + K))) := (Below.block k3 _ HS2.out).trans HI2.out
        have HP3 : Hid (w3.iterPos w.heap.size = pos + K) := by show _ = _; unfold World.iterPos; rw [HI3.out]
        clear hk k3 hb
        go_wp2
        go_roundw
        case rel => exact ⟨pos + K, by omega, HI3.out, HN3.out, HY.out⟩
        case measure => rw [HP3.out, HPO.out]; omega
    · have hnx := fun ty => next_end (P := Tryd.prog) ty HIT.out hlt
      have HX : Hid (badL s.data.toList = false) := by
        have h := HAN.out
        rw [List.take_of_length_le (by rw [data_len]; omega)] at h
        exact h
      go_wp2
      go_ret
      exact ⟨⟨_, rfl, by rw [HX.out]; rfl⟩, HW.out⟩
theorem iany (s : ByteArray) (w : World) (hs : s.size ≤ 1048576) : Calls Tryd.prog 135 #[.string s, .string ⟨#[59, 123, 125, 47, 33]⟩] w fun e w' => (∃ k : Int, e = .returned (.int .i64 k) ∧ decide (0 ≤ k) = badL s.data.toList) ∧ Nw w w' := by
  by_cases h8 : s.size ≤ 8
  · exact iany_short s w h8
  · refine (Tryd.strings_IndexAny_long (fun w => by kernel_rfl) s ⟨#[59, 123, 125, 47, 33]⟩ w (by decide) (by omega) (by omega) (by decide) (fun j b hb => bads_low b (List.mem_of_getElem? hb))).mono ?_
    rintro e w' ⟨rfl, rfl⟩
    exact ⟨⟨_, rfl, indexAny_bad _⟩, ((Below.refl _ _).alloc (Nat.le_refl _) _).alloc (by simp) _⟩
theorem icontains (s : ByteArray) (w : World) (hs : s.size ≤ 1048576) : Calls Tryd.prog 105 #[.string s, .string ⟨#[59, 123, 125, 47, 33]⟩] w fun e w' => e = .returned (.bool (badL s.data.toList)) ∧ Nw w w' := by
  have H : Hid (∀ W, Calls Tryd.prog 135 #[.string s, .string ⟨#[59, 123, 125, 47, 33]⟩] W fun e w' => (∃ k : Int, e = .returned (.int .i64 k) ∧ decide (0 ≤ k) = badL s.data.toList) ∧ Nw W w') := fun W => iany s W hs
  generalize (⟨#[59, 123, 125, 47, 33]⟩ : ByteArray) = S at *
  generalize badL s.data.toList = B at *
  go_enter Tryd.func105, Tryd.ntmps105
  go_wp2_with fail
  refine Calls.mono (H.out _) ?_
  rintro e w1 ⟨⟨k, rfl, hk⟩, k1⟩
  have HK : Hid (decide (0 ≤ k) = B) := hk
  clear hk
  go_wp2
  go_ret
  exact ⟨ret_bool HK.out, k1⟩
end Go.Proofs.YtnkmdmmlpidcmaaDoor
