/-
  The text of a sheet, the program's; each theorem names its conditions.
  Sizes of a sheet that is told, and what SheetText answers; each theorem names its conditions.
  The text of a sheet, the specification's; each theorem names its conditions.
  The statements of the program that look at a declaration and draw their order; each theorem names its conditions.
-/
import Derived.Test.YtnkmdmmlpidcmaaGreatDoorJAX
import Derived.Test.YtnkmdmmlpidcmaaGreatDoorJAK
import Derived.Test.YtnkmdmmlpidcmaaGreatDoorJAL
namespace Go.Proofs.YtnkmdmmlpidcmaaGreatDoor
open Go.ChangeShapes Go.WideShapes Go.ChangeAt Go.RowKit
set_option linter.unusedVariables false

/-- Sizes that a sheet has. -/
structure smRs (l : List RD) : Prop where
  a : l.length ≤ 1048576
  b : ∀ i, i < l.length → smR (ruleAt l i)
  c : bulkRs l ≤ 1048576
theorem bulkRs_at (l : List RD) (k : Nat) (hk : k < l.length) : bulkRs (l.take k) + bulkR (ruleAt l k) ≤ bulkRs l := by
  have h1 := bulkRs_step l k hk
  have h2 := bulkRs_le l (k + 1)
  omega

theorem Buf.shape {w : World} {B : Nat} {v : Value} {s : ByteArray} (h : Buf w B v s) : ∃ a c, v = .slice a s.size c := by
  rcases h.2 with ⟨rfl, h0⟩ | ⟨g, cap, cur, rfl, _⟩
  · exact ⟨none, 0, by rw [h0]⟩
  · exact ⟨_, _, rfl⟩

set_option maxHeartbeats 8000000 in
set_option maxRecDepth 100000 in
theorem isheetT (G : GdI) (w : World) (a : Option Addr) (c : Nat) (l : List RD) (hz : smRs l) (hr : Rules w a l) :
    Calls Tryz.prog 7 #[.slice a l.length c] w fun e w' => e = .returned (sheetAns l) ∧ Nw w w' := by
  obtain ⟨za, zb, zc⟩ := hz
  have HG : Hid GdI := G
  have HB : Hid (∀ i, i < l.length → smR (ruleAt l i)) := zb
  have HC : Hid (bulkRs l ≤ 1048576) := zc
  have HR : Hid (Rules w a l) := hr
  clear G zb zc hr
  by_cases h30 : 30 < l.length
  · have HX : Hid (sheetOk l = false) := by
      show _ = false
      unfold sheetOk
      rw [decide_eq_false (show ¬ l.length ≤ 30 by omega)]
      rfl
    have h30 : 30 < (l.length : Int) := by omega
    go_enter Tryz.func7, Tryz.ntmps7
    go_wp2
    go_ret2
    exact ⟨by rw [sheetAns_no HX.out]; rfl, Below.refl _ _⟩
  have hfew : ¬ 30 < (l.length : Int) := by omega
  go_enter Tryz.func7, Tryz.ntmps7
  go_wp2
  go_loopw [4, 12] (fun x i wr => ∃ k : Nat, k ≤ l.length ∧ i = .int .i64 k ∧ RsTo l k ∧ Nw w wr ∧ Buf wr w.heap.size x (sheetT l k)) (fun _ i _ => l.length - (intOf i).toNat)
  case atStart => exact ⟨0, Nat.zero_le _, rfl, fun i hi => absurd hi (by omega), Below.refl _ _, Buf.nil _ _⟩
  case round =>
    obtain ⟨k, hk, rfl, hto, hw, hb⟩ := hrel
    obtain ⟨W1, hW1⟩ : ∃ W1, W1 = wr := ⟨_, rfl⟩
    subst hW1
    have HO : Hid (RsTo l k) := hto
    have HW : Hid (Nw w W1) := hw
    have HU : Hid (Buf W1 w.heap.size _ (sheetT l k)) := hb
    have hsz := sheetT_bulk l k hk hto
    have hle := bulkRs_le l k
    have hC := HC.out
    clear hto hb
    by_cases hlt : k < l.length
    · rcases HR.out with h | ⟨b, off, rfl, hbk, hc⟩
      · rw [h] at hlt; simp at hlt
      obtain ⟨⟨aa, ca, q0, q1, q2⟩, ⟨ab, cb, p0, p1, p2⟩⟩ := hc k hlt
      replace q0 := ((bcell hw).1 _ _ hbk).trans q0
      replace p0 := ((bcell hw).1 _ _ hbk).trans p0
      have HSZ : Hid (smR (ruleAt l k)) := HB.out k hlt
      have HS : Hid (Selss w aa (ruleAt l k).sels) := q2
      have HD : Hid (DeclsO w ab (ruleAt l k).decls) := p2
      have hat := bulkRs_at l k hlt
      have M1 : Hid (Nw W1 (W1.alloc (.cells #[.slice aa (ruleAt l k).sels.length ca, .slice ab (ruleAt l k).decls.length cb] 32))) := (Below.refl _ _).alloc (Nat.le_refl _) _
      have G1 : Hid (W1.heap.size < (W1.alloc (.cells #[.slice aa (ruleAt l k).sels.length ca, .slice ab (ruleAt l k).decls.length cb] 32)).heap.size) := (by simp : _ < _)
      have C1 : Hid ((W1.alloc (.cells #[.slice aa (ruleAt l k).sels.length ca, .slice ab (ruleAt l k).decls.length cb] 32)).cell? ⟨W1.heap.size, 0, none⟩ = some (.slice aa (ruleAt l k).sels.length ca) ∧ (W1.alloc (.cells #[.slice aa (ruleAt l k).sels.length ca, .slice ab (ruleAt l k).decls.length cb] 32)).cell? ⟨W1.heap.size, 1, none⟩ = some (.slice ab (ruleAt l k).decls.length cb)) := ⟨by simp, by simp⟩
      clear hc hw q2 p2
      have HN : Hid (sheetT l (k + 1) = ruleT (sheetT l k) (ruleAt l k)) := rfl
      have HE : Hid (ruleB (ruleAt l k) = false → sheetOk l = false) := rs_bad hlt
      have HST : Hid (ruleB (ruleAt l k) = true → RsTo l (k + 1)) := fun e => HO.out.step e
      generalize ruleAt l k = r at *
      by_cases hp : ruleB r = true
      · have HK : Hid (ruleB r = true) := hp
        clear hp
        go_wp2_with (first | (go_at_call 26; refine Calls.mono (igoodRule HG.out _ aa ab ca cb r HSZ.out (HS.out.nw (HW.out.trans M1.out)) (HD.out.nw (HW.out.trans M1.out))) ?_; rw [HK.out]; rintro e w2 ⟨rfl, k1⟩; have N2 : Hid (Nw W1 w2) := M1.out.trans k1; have d0 := ((bcell k1).1 _ _ G1.out).trans C1.out.1; have d1 := ((bcell k1).1 _ _ G1.out).trans C1.out.2; clear k1) | (go_at_call 27; refine Calls.mono (iappRule w _ aa ab ca cb r _ _ HK.out HS.out HD.out (HW.out.trans N2.out) (HU.out.nw N2.out) (by omega)) ?_; rintro e w3 ⟨v3, rfl, k3, b3, x3⟩; have N3 : Hid (Nw w w3) := k3; have B3 : Hid (Buf w3 w.heap.size v3 (sheetT l (k + 1))) := (by rw [HN.out]; exact b3); clear k3 b3 x3 d0 d1))
        go_roundw
        case rel => exact ⟨k + 1, by omega, by go_num, HST.out HK.out, N3.out, B3.out⟩
        case measure => simp [intOf]; omega
      · have HK : Hid (ruleB r = false) := (by simpa using hp : _ = false)
        have HX : Hid (sheetOk l = false) := HE.out HK.out
        clear hp
        go_wp2_with (go_at_call 26; refine Calls.mono (igoodRule HG.out _ aa ab ca cb r HSZ.out (HS.out.nw (HW.out.trans M1.out)) (HD.out.nw (HW.out.trans M1.out))) ?_; rw [HK.out]; rintro e w2 ⟨rfl, k1⟩)
        go_ret2
        exact ⟨by rw [sheetAns_no HX.out]; rfl, HW.out.trans (M1.out.trans k1)⟩
    · have e : k = l.length := by omega
      subst e
      have HA : Hid (l.all ruleB = true) := rs_all HO.out
      have hcv := run_buf HU.out
      obtain ⟨xa, xc, hxv⟩ := HU.out.shape
      clear hw
      generalize hX : sheetT l l.length = X at *
      rename_i xv _
      subst hxv
      by_cases hb : 1500 < X.size
      · have HX : Hid (sheetOk l = false) := by
          show _ = false
          unfold sheetOk
          rw [hX, decide_eq_false (show ¬ X.size ≤ 1500 by omega), Bool.and_false]
        have hb' : 1500 < (X.size : Int) := by omega
        go_wp2
        go_ret2
        exact ⟨by rw [sheetAns_no HX.out]; rfl, HW.out⟩
      · have HX : Hid (sheetAns l = .tuple #[.string X, .bool true]) := by
          show _ = _
          rw [sheetAns_yes (by unfold sheetOk; rw [hX, HA.out, decide_eq_true (show l.length ≤ 30 by omega), decide_eq_true (show X.size ≤ 1500 by omega)]; rfl), hX]
        have hb' : ¬ 1500 < (X.size : Int) := by omega
        go_wp2
        go_ret2
        exact ⟨by rw [HX.out]; rfl, HW.out⟩
end Go.Proofs.YtnkmdmmlpidcmaaGreatDoor
namespace Go.Proofs.YtnkmdmmlpidcmaaGreatDoor
open Go.ChangeShapes Go.WideShapes Go.ChangeAt Go.RowKit
set_option linter.unusedVariables false

theorem bulkSS_at (l : List (List PD)) (k : Nat) (hk : k < l.length) : bulkX (selAt l k) ≤ bulkSS l := by
  have h1 := bulkSS_step l k hk
  have h2 := bulkSS_le l (k + 1)
  omega
theorem smR_of {r : RD} (h : bulkR r ≤ 1048576) : smR r ∧ lenR r := by
  unfold bulkR at h
  have key : ∀ i, i < r.sels.length → ((selAt r.sels i).length ≤ 1048576 ∧ smallPs (selAt r.sels i) ∧ lenPs (selAt r.sels i)) := by
    intro i hi
    have h1 := bulkSS_at r.sels i hi
    unfold bulkX at h1
    obtain ⟨a, b⟩ := smallPs_of (l := selAt r.sels i) (by omega)
    exact ⟨by omega, a, b⟩
  refine ⟨⟨by omega, fun i hi => ⟨(key i hi).1, (key i hi).2.1⟩, by omega, fun i hi => ?_⟩, ⟨by omega, fun i hi => ⟨(key i hi).1, (key i hi).2.2⟩, by omega⟩⟩
  have h1 := bulkDs_at r.decls i hi
  unfold bulkD at h1
  omega
theorem smRs_of {l : List RD} (h : ((l.length + bulkRs l : Nat) : Int) ≤ 1048576) : smRs l ∧ lenRs l := by
  have key : ∀ i, i < l.length → bulkR (ruleAt l i) ≤ 1048576 := fun i hi => by
    have := bulkRs_at l i hi
    omega
  exact ⟨⟨by omega, fun i hi => (smR_of (key i hi)).1, by omega⟩, fun i hi => (smR_of (key i hi)).2⟩
def ansT (l : List RD) : ByteArray := if sheetOk l then sheetT l l.length else ⟨#[]⟩
theorem sheetAns_eq (l : List RD) : sheetAns l = .tuple #[.string (ansT l), .bool (sheetOk l)] := by
  unfold sheetAns ansT
  cases sheetOk l <;> rfl
end Go.Proofs.YtnkmdmmlpidcmaaGreatDoor
namespace Go.Proofs.YtnkmdmmlpidcmaaGreatDoor
open Go.ChangeShapes Go.WideShapes Go.ChangeAt Go.RowKit
set_option linter.unusedVariables false

/-- What l5GoodDecl answers. -/
def GdS : Prop := ∀ (w : World) (d : DD), d.nm.size ≤ 1048576 → d.vl.size ≤ 1048576 → Calls Tryz.prog 30 #[.agg #[.string d.nm, .string d.vl, .bool d.im]] w fun e w' => e = .returned (.bool (declB d)) ∧ Nw w w'
theorem selsT_mono (t : ByteArray) (l : List (List PD)) (j : Nat) : ∀ m, (selsT t l j).size ≤ (selsT t l (j + m)).size
  | 0 => Nat.le_refl _
  | m + 1 => by
    have h1 := selsT_mono t l j m
    have h2 := (commaT_size (selsT t l (j + m)) (j + m)).2
    rw [← Nat.add_assoc, selsT, app_size]
    omega
theorem declsT_mono (t : ByteArray) (l : List DD) : ∀ m, t.size ≤ (declsT t l m).size
  | 0 => Nat.le_refl _
  | m + 1 => by
    have h1 := declsT_mono t l m
    rw [declsT, app_size]
    omega
theorem ruleT_ge (t : ByteArray) (r : RD) (j : Nat) (hj : j ≤ r.sels.length) : (selsT t r.sels j).size ≤ (ruleT t r).size := by
  have h1 := selsT_mono t r.sels j (r.sels.length - j)
  rw [show j + (r.sels.length - j) = r.sels.length by omega] at h1
  have h2 := declsT_mono (selsT t r.sels r.sels.length ++ (⟨#[123]⟩ : ByteArray)) r.decls r.decls.length
  rw [app_size] at h2
  unfold ruleT
  rw [app_size]
  omega
theorem sheetT_mono (l : List RD) (j : Nat) : ∀ m, (sheetT l j).size ≤ (sheetT l (j + m)).size
  | 0 => Nat.le_refl _
  | m + 1 => by
    have h1 := sheetT_mono l j m
    have h2 := ruleT_ge (sheetT l (j + m)) (ruleAt l (j + m)) 0 (Nat.zero_le _)
    rw [← Nat.add_assoc, sheetT]
    rw [selsT] at h2
    omega
/-- A text that is too long already. -/
theorem long_no {l : List RD} {k j : Nat} (hk : k < l.length) (hj : j ≤ (ruleAt l k).sels.length) (h : 1500 < (selsT (sheetT l k) (ruleAt l k).sels j).size) : sheetOk l = false := by
  have h1 := ruleT_ge (sheetT l k) (ruleAt l k) j hj
  have h2 := sheetT_mono l (k + 1) (l.length - (k + 1))
  rw [show k + 1 + (l.length - (k + 1)) = l.length by omega, sheetT] at h2
  unfold sheetOk
  rw [decide_eq_false (show ¬ (sheetT l l.length).size ≤ 1500 by omega), Bool.and_false]

set_option maxHeartbeats 8000000 in
set_option maxRecDepth 100000 in
theorem ssheetT (G : GdS) (w : World) (a : Option Addr) (c : Nat) (l : List RD) (hz : smRs l) (hr : Rules w a l) :
    Calls Tryz.prog 8 #[.slice a l.length c] w fun e w' => e = .returned (sheetAns l) ∧ Nw w w' := by
  obtain ⟨za, zb, zc⟩ := hz
  have HG : Hid GdS := G
  have HB : Hid (∀ i, i < l.length → smR (ruleAt l i)) := zb
  have HC : Hid (bulkRs l ≤ 1048576) := zc
  have HR : Hid (Rules w a l) := hr
  clear G zb zc hr
  by_cases h30 : 30 < l.length
  · have HX : Hid (sheetOk l = false) := by
      show _ = false
      unfold sheetOk
      rw [decide_eq_false (show ¬ l.length ≤ 30 by omega)]
      rfl
    have h30 : 30 < (l.length : Int) := by omega
    go_enter Tryz.func8, Tryz.ntmps8
    go_wp2
    go_ret2
    exact ⟨by rw [sheetAns_no HX.out]; rfl, Below.refl _ _⟩
  have hfew : ¬ 30 < (l.length : Int) := by omega
  have e44 : (⟨#[44]⟩ : ByteArray).size = 1 := rfl
  have e123 : (⟨#[123]⟩ : ByteArray).size = 1 := rfl
  have e125 : (⟨#[125]⟩ : ByteArray).size = 1 := rfl
  have e58 : (⟨#[58]⟩ : ByteArray).size = 1 := rfl
  have e59 : (⟨#[59]⟩ : ByteArray).size = 1 := rfl
  go_enter Tryz.func8, Tryz.ntmps8
  go_wp2
  go_loopw [4, 16] (fun x i wr => ∃ k : Nat, k ≤ l.length ∧ i = .int .i64 k ∧ RsTo l k ∧ Nw w wr ∧ x = .string (sheetT l k)) (fun _ i _ => l.length - (intOf i).toNat)
  case atStart => exact ⟨0, Nat.zero_le _, rfl, fun i hi => absurd hi (by omega), Below.refl _ _, rfl⟩
  case round =>
    obtain ⟨k, hk, rfl, hto, hw, rfl⟩ := hrel
    obtain ⟨W1, hW1⟩ : ∃ W1, W1 = wr := ⟨_, rfl⟩
    subst hW1
    have HO : Hid (RsTo l k) := hto
    have HW : Hid (Nw w W1) := hw
    have hsz := sheetT_bulk l k hk hto
    have hle := bulkRs_le l k
    have hC := HC.out
    clear hto
    by_cases hlt : k < l.length
    · rcases HR.out with h | ⟨b, off, rfl, hbk, hc⟩
      · rw [h] at hlt; simp at hlt
      obtain ⟨⟨aa, ca, q0, q1, q2⟩, ⟨ab, cb, p0, p1, p2⟩⟩ := hc k hlt
      replace q0 := ((bcell hw).1 _ _ hbk).trans q0
      replace p0 := ((bcell hw).1 _ _ hbk).trans p0
      have hsm := HB.out k hlt
      have hat := bulkRs_at l k hlt
      have HN : Hid (sheetT l (k + 1) = ruleT (sheetT l k) (ruleAt l k)) := rfl
      have HE : Hid (ruleB (ruleAt l k) = false → sheetOk l = false) := rs_bad hlt
      have HL : Hid (∀ j, j ≤ (ruleAt l k).sels.length → 1500 < (selsT (sheetT l k) (ruleAt l k).sels j).size → sheetOk l = false) := fun j => long_no hlt
      have HST : Hid (ruleB (ruleAt l k) = true → RsTo l (k + 1)) := fun e => HO.out.step e
      clear hc hw
      generalize ruleAt l k = r at *
      obtain ⟨ss, dd⟩ := r
      obtain ⟨sa, sb, sc, sd⟩ := hsm
      unfold bulkR at hat
      have HS : Hid (Selss w aa ss) := q2
      have HD : Hid (DeclsO w ab dd) := p2
      have HSB : Hid (∀ i, i < ss.length → (selAt ss i).length ≤ 1048576 ∧ smallPs (selAt ss i)) := sb
      have HSD : Hid (∀ i, i < dd.length → (declAt dd i).nm.size ≤ 1048576 ∧ (declAt dd i).vl.size ≤ 1048576) := sd
      simp only at q0 p0 hat sa sc
      clear q2 p2 sb sd
      generalize sheetT l k = T at *
      have M1 : Hid (Nw W1 (W1.alloc (.cells #[.slice aa ss.length ca, .slice ab dd.length cb] 32))) := (Below.refl _ _).alloc (Nat.le_refl _) _
      have G1 : Hid (W1.heap.size < (W1.alloc (.cells #[.slice aa ss.length ca, .slice ab dd.length cb] 32)).heap.size) := (by simp : _ < _)
      have C1 : Hid ((W1.alloc (.cells #[.slice aa ss.length ca, .slice ab dd.length cb] 32)).cell? ⟨W1.heap.size, 0, none⟩ = some (.slice aa ss.length ca) ∧ (W1.alloc (.cells #[.slice aa ss.length ca, .slice ab dd.length cb] 32)).cell? ⟨W1.heap.size, 1, none⟩ = some (.slice ab dd.length cb)) := ⟨by simp, by simp⟩
      by_cases h0 : ss.length = 0
      · have HX : Hid (sheetOk l = false) := HE.out (ruleB_no fun h => by have := h.1.1; simp only at this; omega)
        have hz : ((ss.length : Int) == 0) = true := by simp [h0]
        clear h0 sa
        go_wp2
        go_ret2
        exact ⟨by rw [sheetAns_no HX.out]; rfl, HW.out.trans M1.out⟩
      have hz : ((ss.length : Int) == 0) = false := beq_eq_false_iff_ne.2 (by omega)
      by_cases h12 : 12 < dd.length
      · have HX : Hid (sheetOk l = false) := HE.out (ruleB_no fun h => by have := h.1.2; simp only at this; omega)
        have h12 : 12 < (dd.length : Int) := by omega
        go_wp2
        go_ret2
        exact ⟨by rw [sheetAns_no HX.out]; rfl, HW.out.trans M1.out⟩
      have hfw : ¬ 12 < (dd.length : Int) := by omega
      go_wp2
      go_loopw [4, 33] (fun x i wr => ∃ j : Nat, j ≤ ss.length ∧ i = .int .i64 j ∧ SelsTo ss j ∧ Nw (W1.alloc (.cells #[.slice aa ss.length ca, .slice ab dd.length cb] 32)) wr ∧ x = .string (selsT T ss j)) (fun _ i _ => ss.length - (intOf i).toNat)
      case atStart => exact ⟨0, Nat.zero_le _, rfl, fun i hi => absurd hi (by omega), Below.refl _ _, rfl⟩
      case round =>
        obtain ⟨j, hj, rfl, hto, hw, rfl⟩ := hrel
        obtain ⟨W2, hW2⟩ : ∃ W2, W2 = wr := ⟨_, rfl⟩
        subst hW2
        have HP : Hid (SelsTo ss j) := hto
        have HV : Hid (Nw (W1.alloc (.cells #[.slice aa ss.length ca, .slice ab dd.length cb] 32)) W2) := hw
        have HV2 : Hid (Nw w W2) := HW.out.trans (M1.out.trans hw)
        have ys := bulkSS_to ss j hj T
        clear hto hw
        by_cases hlj : j < ss.length
        · rcases HS.out.nw HV2.out with h | ⟨b, off, rfl, hbk, hc⟩
          · rw [h] at hlj; simp at hlj
          obtain ⟨a3, c3, r0, r1, r2⟩ := hc j hlj
          obtain ⟨zl, zs⟩ := HSB.out j hlj
          have HQ : Hid (Parts W2 a3 (selAt ss j)) := r2
          have HZ : Hid (smallPs (selAt ss j)) := zs
          have HE2 : Hid (selB (selAt ss j) = false → sheetOk l = false) := fun e => HE.out (ruleB_no fun h => by have := h.2.1 j hlj; simp only at this; rw [e] at this; cases this)
          have HL2 : Hid (1500 < (selsT T ss (j + 1)).size → sheetOk l = false) := HL.out (j + 1) hlj
          have HP2 : Hid (selB (selAt ss j) = true → SelsTo ss (j + 1)) := fun e => HP.out.step e
          have HN2 : Hid (selsT T ss (j + 1) = commaT (selsT T ss j) j ++ selT (selAt ss j) (selAt ss j).length) := rfl
          clear hc r2 zs
          generalize selAt ss j = sel at *
          by_cases hp : selB sel = true
          · have HK : Hid (selB sel = true) := hp
            have hsel := (selB_iff _).1 hp
            have l5 := hsel.1.2
            have HPS : Hid (PsTo sel sel.length) := hsel.2
            have y2 := selT_size sel.length hsel.2
            clear hp hsel
            by_cases hj0 : 0 < j
            · have HF : Hid (selsT T ss (j + 1) = (selsT T ss j ++ (⟨#[44]⟩ : ByteArray)) ++ selT sel sel.length) := by show _ = _; rw [HN2.out, commaT, if_pos hj0]
              by_cases hlong : 1500 < (selsT T ss (j + 1)).size
              · have HX : Hid (sheetOk l = false) := HL2.out hlong
                rw [HF.out] at hlong
                simp only [size_app, e44] at hlong
                have hlong2 : 1500 < ((selsT T ss j).size : Int) + 1 + ((selT sel sel.length).size : Int) := by omega
                go_wp2_with (first | (go_at_call 28; refine Calls.mono (sgoodSel _ _ _ _ zl HZ.out HQ.out) ?_; rw [HK.out]; rintro e w3 ⟨rfl, k3⟩) | (go_at_call 29; refine Calls.mono (sselT _ _ _ sel l5 HPS.out (HQ.out.nw k3)) ?_; rintro e w4 ⟨rfl, k4⟩))
                go_ret2
                exact ⟨by rw [sheetAns_no HX.out]; rfl, HV2.out.trans (k3.trans k4)⟩
              · rw [HF.out] at hlong
                simp only [size_app, e44] at hlong
                have hlong2 : ¬ 1500 < ((selsT T ss j).size : Int) + 1 + ((selT sel sel.length).size : Int) := by omega
                go_wp2_with (first | (go_at_call 28; refine Calls.mono (sgoodSel _ _ _ _ zl HZ.out HQ.out) ?_; rw [HK.out]; rintro e w3 ⟨rfl, k3⟩) | (go_at_call 29; refine Calls.mono (sselT _ _ _ sel l5 HPS.out (HQ.out.nw k3)) ?_; rintro e w4 ⟨rfl, k4⟩))
                go_roundw
                case rel => exact ⟨j + 1, by omega, by go_num, HP2.out HK.out, HV.out.trans (k3.trans k4), by rw [HF.out]⟩
                case measure => simp [intOf]; omega
            · have HF : Hid (selsT T ss (j + 1) = selsT T ss j ++ selT sel sel.length) := by show _ = _; rw [HN2.out, commaT, if_neg hj0]
              by_cases hlong : 1500 < (selsT T ss (j + 1)).size
              · have HX : Hid (sheetOk l = false) := HL2.out hlong
                rw [HF.out] at hlong
                simp only [size_app] at hlong
                have hlong2 : 1500 < ((selsT T ss j).size : Int) + ((selT sel sel.length).size : Int) := by omega
                go_wp2_with (first | (go_at_call 28; refine Calls.mono (sgoodSel _ _ _ _ zl HZ.out HQ.out) ?_; rw [HK.out]; rintro e w3 ⟨rfl, k3⟩) | (go_at_call 29; refine Calls.mono (sselT _ _ _ sel l5 HPS.out (HQ.out.nw k3)) ?_; rintro e w4 ⟨rfl, k4⟩))
                go_ret2
                exact ⟨by rw [sheetAns_no HX.out]; rfl, HV2.out.trans (k3.trans k4)⟩
              · rw [HF.out] at hlong
                simp only [size_app] at hlong
                have hlong2 : ¬ 1500 < ((selsT T ss j).size : Int) + ((selT sel sel.length).size : Int) := by omega
                go_wp2_with (first | (go_at_call 28; refine Calls.mono (sgoodSel _ _ _ _ zl HZ.out HQ.out) ?_; rw [HK.out]; rintro e w3 ⟨rfl, k3⟩) | (go_at_call 29; refine Calls.mono (sselT _ _ _ sel l5 HPS.out (HQ.out.nw k3)) ?_; rintro e w4 ⟨rfl, k4⟩))
                go_roundw
                case rel => exact ⟨j + 1, by omega, by go_num, HP2.out HK.out, HV.out.trans (k3.trans k4), by rw [HF.out]⟩
                case measure => simp [intOf]; omega
          · have HK : Hid (selB sel = false) := (by simpa using hp : _ = false)
            have HX : Hid (sheetOk l = false) := HE2.out HK.out
            clear hp
            go_wp2_with (go_at_call 28; refine Calls.mono (sgoodSel _ _ _ _ zl HZ.out HQ.out) ?_; rw [HK.out]; rintro e w3 ⟨rfl, k3⟩)
            go_ret2
            exact ⟨by rw [sheetAns_no HX.out]; rfl, HV2.out.trans k3⟩
        · have e : j = ss.length := by omega
          subst e
          have HA : Hid (SelsTo ss ss.length) := HP.out
          have c1 := ((bcell HV.out).1 _ _ G1.out).trans C1.out.2
          have HNR : Hid (sheetT l (k + 1) = declsT (selsT T ss ss.length ++ (⟨#[123]⟩ : ByteArray)) dd dd.length ++ (⟨#[125]⟩ : ByteArray)) := HN.out
          have yX : (selsT T ss ss.length ++ (⟨#[123]⟩ : ByteArray)).size ≤ T.size + 2 * bulkSS ss + ss.length + 1 := by rw [size_app, e123]; omega
          clear HP HL HN
          obtain ⟨Y, hY⟩ : ∃ Y, Y = selsT T ss ss.length ++ (⟨#[123]⟩ : ByteArray) := ⟨_, rfl⟩
          rw [← hY] at HNR yX
          have HY : Hid (Y = selsT T ss ss.length ++ (⟨#[123]⟩ : ByteArray)) := hY
          clear hY
          go_wp2
          go_loopw [4, 58] (fun x i wr => ∃ m : Nat, m ≤ dd.length ∧ i = .int .i64 m ∧ DsTo dd m ∧ Nw w wr ∧ x = .string (declsT Y dd m)) (fun _ i _ => dd.length - (intOf i).toNat)
          case atStart => exact ⟨0, Nat.zero_le _, rfl, fun i hi => absurd hi (by omega), HV2.out, by rw [declsT, HY.out]⟩
          case round =>
            obtain ⟨m, hm, rfl, hto, hw, rfl⟩ := hrel
            obtain ⟨W3, hW3⟩ : ∃ W3, W3 = wr := ⟨_, rfl⟩
            subst hW3
            have HP : Hid (DsTo dd m) := hto
            have HU : Hid (Nw w W3) := hw
            have yd := bulkDs_to dd m hm Y
            clear hto hw
            by_cases hlm : m < dd.length
            · rcases HD.out.nw HU.out with h | ⟨b, off, rfl, hbk, hc⟩
              · rw [h] at hlm; simp at hlm
              obtain ⟨r0, r1, r2⟩ := hc m hlm
              obtain ⟨zl, zs⟩ := HSD.out m hlm
              have HE2 : Hid (declB (declAt dd m) = false → sheetOk l = false) := fun e => HE.out (ruleB_no fun h => by have := h.2.2 m hlm; simp only at this; rw [e] at this; cases this)
              have HP2 : Hid (declB (declAt dd m) = true → DsTo dd (m + 1)) := fun e => HP.out.step e
              have HN2 : Hid (declsT Y dd (m + 1) = declsT Y dd m ++ declT (declAt dd m)) := rfl
              clear hc
              generalize declAt dd m = d at *
              generalize declsT Y dd m = Z at *
              obtain ⟨nm, vl, im⟩ := d
              simp only at r0 r1 r2 zl zs
              have M3 : Hid (Nw W3 (W3.alloc (.cells #[.string nm, .string vl, .bool im] 36))) := (Below.refl _ _).alloc (Nat.le_refl _) _
              have G3 : Hid (W3.heap.size < (W3.alloc (.cells #[.string nm, .string vl, .bool im] 36)).heap.size) := (by simp : _ < _)
              have C3 : Hid ((W3.alloc (.cells #[.string nm, .string vl, .bool im] 36)).cell? ⟨W3.heap.size, 0, none⟩ = some (.string nm) ∧ (W3.alloc (.cells #[.string nm, .string vl, .bool im] 36)).cell? ⟨W3.heap.size, 1, none⟩ = some (.string vl) ∧ (W3.alloc (.cells #[.string nm, .string vl, .bool im] 36)).cell? ⟨W3.heap.size, 2, none⟩ = some (.bool im)) := ⟨by simp, by simp, by simp⟩
              by_cases hp : declB ⟨nm, vl, im⟩ = true
              · have HK : Hid (declB ⟨nm, vl, im⟩ = true) := hp
                clear hp
                cases im with
                | false =>
                  have HF : Hid (declsT Y dd (m + 1) = (Z ++ ((nm ++ (⟨#[58]⟩ : ByteArray)) ++ vl)) ++ (⟨#[59]⟩ : ByteArray)) := by
                    show _ = _
                    rw [HN2.out]; unfold declT headD; simp only [if_false, Bool.false_eq_true, app_assoc]
                  go_wp2_with (go_at_call 30; refine Calls.mono (HG.out _ ⟨nm, vl, false⟩ zl zs) ?_; rw [HK.out]; rintro e w4 ⟨rfl, k4⟩; have d0 := ((bcell k4).1 _ _ G3.out).trans C3.out.1; have d1 := ((bcell k4).1 _ _ G3.out).trans C3.out.2.1; have d2 := ((bcell k4).1 _ _ G3.out).trans C3.out.2.2)
                  go_roundw
                  case rel => exact ⟨m + 1, by omega, by go_num, HP2.out HK.out, HU.out.trans (M3.out.trans k4), by rw [HF.out]⟩
                  case measure => simp [intOf]; omega
                | true =>
                  have HF : Hid (declsT Y dd (m + 1) = ((Z ++ ((nm ++ (⟨#[58]⟩ : ByteArray)) ++ vl)) ++ (⟨#[32, 33, 105, 109, 112, 111, 114, 116, 97, 110, 116]⟩ : ByteArray)) ++ (⟨#[59]⟩ : ByteArray)) := by
                    show _ = _
                    rw [HN2.out]; unfold declT headD impT; simp only [if_true, app_assoc]
                  go_wp2_with (go_at_call 30; refine Calls.mono (HG.out _ ⟨nm, vl, true⟩ zl zs) ?_; rw [HK.out]; rintro e w4 ⟨rfl, k4⟩; have d0 := ((bcell k4).1 _ _ G3.out).trans C3.out.1; have d1 := ((bcell k4).1 _ _ G3.out).trans C3.out.2.1; have d2 := ((bcell k4).1 _ _ G3.out).trans C3.out.2.2)
                  go_roundw
                  case rel => exact ⟨m + 1, by omega, by go_num, HP2.out HK.out, HU.out.trans (M3.out.trans k4), by rw [HF.out]⟩
                  case measure => simp [intOf]; omega
              · have HK : Hid (declB ⟨nm, vl, im⟩ = false) := (by simpa using hp : _ = false)
                have HX : Hid (sheetOk l = false) := HE2.out HK.out
                clear hp
                go_wp2_with (go_at_call 30; refine Calls.mono (HG.out _ ⟨nm, vl, im⟩ zl zs) ?_; rw [HK.out]; rintro e w4 ⟨rfl, k4⟩)
                go_ret2
                exact ⟨by rw [sheetAns_no HX.out]; rfl, HU.out.trans (M3.out.trans k4)⟩
            · have e : m = dd.length := by omega
              subst e
              have HRB : Hid (ruleB ⟨ss, dd⟩ = true) := (ruleB_iff _).2 ⟨⟨by show 0 < ss.length; omega, by show dd.length ≤ 12; omega⟩, HA.out, HP.out⟩
              go_wp2
              go_roundw
              case rel => exact ⟨k + 1, by omega, by go_num, HST.out HRB.out, HU.out, by rw [HNR.out]⟩
              case measure => simp [intOf]; omega
    · have e : k = l.length := by omega
      subst e
      have HA : Hid (l.all ruleB = true) := rs_all HO.out
      clear hw
      generalize hX : sheetT l l.length = X at *
      by_cases hb : 1500 < X.size
      · have HX : Hid (sheetOk l = false) := by
          show _ = false
          unfold sheetOk
          rw [hX, decide_eq_false (show ¬ X.size ≤ 1500 by omega), Bool.and_false]
        have hb' : 1500 < (X.size : Int) := by omega
        go_wp2
        go_ret2
        exact ⟨by rw [sheetAns_no HX.out]; rfl, HW.out⟩
      · have HX : Hid (sheetAns l = .tuple #[.string X, .bool true]) := by
          show _ = _
          rw [sheetAns_yes (by unfold sheetOk; rw [hX, HA.out, decide_eq_true (show l.length ≤ 30 by omega), decide_eq_true (show X.size ≤ 1500 by omega)]; rfl), hX]
        have hb' : ¬ 1500 < (X.size : Int) := by omega
        go_wp2
        go_ret2
        exact ⟨by rw [HX.out]; rfl, HW.out⟩
end Go.Proofs.YtnkmdmmlpidcmaaGreatDoor
namespace Go.Proofs.YtnkmdmmlpidcmaaGreatDoor
open Go.ChangeShapes Go.WideShapes Go.ChangeAt Go.RowKit
set_option linter.unusedVariables false
set_option linter.unusedSimpArgs false

structure GA1 where
 g : Nat
 nm : ByteArray
 vl : ByteArray
 W : World
 a0 : Act
structure GA1Ok (X : GA1) : Prop where
 c0 : X.W.cell? ⟨X.g, 0, none⟩ = some (.string X.nm)
 c1 : X.W.cell? ⟨X.g, 1, none⟩ = some (.string X.vl)
 k2 : ∀ w, Calls Tryz.prog 100 #[.string X.nm] w fun e w' => e = .returned (.bool false) ∧ Nw w w'
 e1 : X.a0.eval (.tmp 1) = .pointer (some ⟨X.g, 0, none⟩)
 sz : X.a0.tmps.size = 37
def GA1.val0 (X : GA1) : Nat → Value
 | 1 => .pointer (some ⟨X.g, 0, none⟩)
 | 3 => .bool false
 | 5 => .pointer (some ⟨X.g, 0, none⟩)
 | 6 => .string X.nm
 | 7 => .bool false
 | 8 => .bool false
 | 15 => .bool false
 | _ => undef
def GA1.av : Nat → Option Nat
 | _ => none
def GA1.acts : List Nat := []
/-- The world, by how many of the acting ones have come up. -/
def GA1.Wd (X : GA1) : Nat → (Nat → Value) → World → Prop
  | _, _, w => Nw X.W w
theorem GA1.kp {X : GA1} {n : Nat} {γ : Nat → Value} {w : World} (h : X.Wd n γ w) : Nw X.W w := h
theorem GA1.keep {X : GA1} {n : Nat} {γ : Nat → Value} {w w' : World} (h : X.Wd n γ w) (k : Nw w w') : X.Wd n γ w' := Nw.trans h k
def GA1.L : List (Option Nat × Op × Option (Nat × Bool)) := [
 (some 5, .fieldAddr 36 (.tmp 1) 0, none),
 (some 6, .load 9 (.tmp 5), none),
 (some 7, .call { callee := .value (.func 100), args := #[(.tmp 6)], argTypes := #[9] }, none),
 (some 8, .move (.tmp 7), none),
 (some 9, .fieldAddr 36 (.tmp 1) 0, some (3, true)),
 (some 10, .load 9 (.tmp 9), some (3, true)),
 (some 11, .fieldAddr 36 (.tmp 1) 0, some (3, true)),
 (some 12, .load 9 (.tmp 11), some (3, true)),
 (some 13, .call { callee := .value (.func 101), args := #[(.tmp 12)], argTypes := #[9] }, some (3, true)),
 (some 14, .binOp .eql 9 (.tmp 10) (.tmp 13) 9, some (3, true)),
 (some 15, .pick (.tmp 8) (.tmp 14) (.const (.bool false)), none),
 (some 3, .assign (.tmp 15), none)]
theorem GA1.isL : (opsOf 1 Tryz.f59).toList.map tri = GA1.L := by kernel_rfl
theorem GA1.ini {X : GA1} (ok : GA1Ok X) : ∀ n ∈ [1], X.a0.eval (.tmp n) = X.val0 n := by
 simp only [List.forall_mem_cons]
 exact ⟨ok.e1, List.forall_mem_nil _⟩
abbrev GA1.St (X : GA1) (Q : Exit → Act → World → Prop) (i : Nat) : Prop := StepG (opsOf 1 Tryz.f59) GA1.acts GA1.av X.val0 X.Wd X.a0 Q i
theorem GA1.plain (X : GA1) (ok : GA1Ok X) {Q : Exit → Act → World → Prop} : ∀ i ∈ [0, 1, 3, 10, 11], GA1.St X Q i := by
 simp only [List.forall_mem_cons]
 refine ⟨?_, ?_, ?_, ?_, ?_, List.forall_mem_nil _⟩
 all_goals
  refine st_plain GA1.isL (GA1.ini ok) ok.sz rfl (by kernel_rfl) ?_
  intro γ w n o hW hop
  have hc_c0 := rq_atN (GA1.kp hW) ok.c0
  unfold execOp
  rw [hop]
  simp [envR, valG, GA1.av, GA1.val0, hc_c0, go_sem]
theorem GA1.skip (X : GA1) (ok : GA1Ok X) {Q : Exit → Act → World → Prop} : ∀ i ∈ [4, 5, 6, 7, 8, 9], GA1.St X Q i := by
 simp only [List.forall_mem_cons]
 refine ⟨?_, ?_, ?_, ?_, ?_, ?_, List.forall_mem_nil _⟩
 all_goals
  exact st_plainS GA1.isL (GA1.ini ok) ok.sz rfl rfl (Or.inl rfl) (by kernel_rfl) rfl
theorem GA1.size : (opsOf 1 Tryz.f59).size = 12 := by kernel_rfl
theorem GA1.rest (X : GA1) (ok : GA1Ok X) {Q : Exit → Act → World → Prop} : ∀ i ∈ [2], GA1.St X Q i := by
 simp only [List.forall_mem_cons]
 exact ⟨st_callKN GA1.isL (GA1.ini ok) ok.sz rfl (by kernel_rfl) (fun _ _ => by simp [go_sem]) (fun γ w n hW => ok.k2 w) (fun _ _ _ _ hW hk => GA1.keep hW hk), List.forall_mem_nil _⟩
theorem GA1.steps (X : GA1) (ok : GA1Ok X) {Q : Exit → Act → World → Prop} (i : Nat) (hi : i < (opsOf 1 Tryz.f59).size) : GA1.St X Q i := by
 rw [GA1.size] at hi
 rcases (by decide : ∀ i, i < 12 → i ∈ [0, 1, 3, 10, 11] ∨ i ∈ [4, 5, 6, 7, 8, 9] ∨ i ∈ [2]) i hi with h | h | h
 · exact GA1.plain X ok i h
 · exact GA1.skip X ok i h
 · exact GA1.rest X ok i h
/-- The region, whatever order comes up. -/
theorem GA1.run (X : GA1) (ok : GA1Ok X) {Q : Exit → Act → World → Prop} (w : World) (h0 : X.Wd 0 (fun _ => undef) w.drew) (hend : ∀ (γ : Nat → Value) w', X.Wd 0 γ w' → Q .normal ((((((((((((X.a0.put (some 5) (.pointer (some ⟨X.g, 0, none⟩))).put (some 6) (.string X.nm)).put (some 7) (.bool false)).put (some 8) (.bool false)).put (some 9) (undef)).put (some 10) (undef)).put (some 11) (undef)).put (some 12) (undef)).put (some 13) (undef)).put (some 14) (undef)).put (some 15) (.bool false)).put (some 3) (.bool false)) w') : (Code.region 1 (opsOf 1 Tryz.f59) true).wp Tryz.prog Q X.a0 w := by
 refine reg_act (acts := GA1.acts) (av := GA1.av) (val0 := X.val0) (Wd := X.Wd) (by kernel_rfl) (by kernel_rfl) (by rw [GA1.size]; decide) (fun i hi => GA1.steps X ok i hi) _ h0 ?_
 intro γ w' h
 exact end_at (hend γ w' h) (by kernel_rfl)
structure GA2 where
 g : Nat
 nm : ByteArray
 vl : ByteArray
 lw : ByteArray
 b : Bool
 W : World
 a0 : Act
structure GA2Ok (X : GA2) : Prop where
 c0 : X.W.cell? ⟨X.g, 0, none⟩ = some (.string X.nm)
 c1 : X.W.cell? ⟨X.g, 1, none⟩ = some (.string X.vl)
 hb : (X.nm.toList == X.lw.toList) = X.b
 k2 : ∀ w, Calls Tryz.prog 100 #[.string X.nm] w fun e w' => e = .returned (.bool true) ∧ Nw w w'
 k8 : ∀ w, Calls Tryz.prog 101 #[.string X.nm] w fun e w' => e = .returned (.string X.lw) ∧ Nw w w'
 e1 : X.a0.eval (.tmp 1) = .pointer (some ⟨X.g, 0, none⟩)
 sz : X.a0.tmps.size = 37
def GA2.val0 (X : GA2) : Nat → Value
 | 1 => .pointer (some ⟨X.g, 0, none⟩)
 | 3 => .bool X.b
 | 5 => .pointer (some ⟨X.g, 0, none⟩)
 | 6 => .string X.nm
 | 7 => .bool true
 | 8 => .bool true
 | 9 => .pointer (some ⟨X.g, 0, none⟩)
 | 10 => .string X.nm
 | 11 => .pointer (some ⟨X.g, 0, none⟩)
 | 12 => .string X.nm
 | 13 => .string X.lw
 | 14 => .bool X.b
 | 15 => .bool X.b
 | _ => undef
def GA2.av : Nat → Option Nat
 | _ => none
def GA2.acts : List Nat := []
/-- The world, by how many of the acting ones have come up. -/
def GA2.Wd (X : GA2) : Nat → (Nat → Value) → World → Prop
  | _, _, w => Nw X.W w
theorem GA2.kp {X : GA2} {n : Nat} {γ : Nat → Value} {w : World} (h : X.Wd n γ w) : Nw X.W w := h
theorem GA2.keep {X : GA2} {n : Nat} {γ : Nat → Value} {w w' : World} (h : X.Wd n γ w) (k : Nw w w') : X.Wd n γ w' := Nw.trans h k
theorem GA2.ini {X : GA2} (ok : GA2Ok X) : ∀ n ∈ [1], X.a0.eval (.tmp n) = X.val0 n := by
 simp only [List.forall_mem_cons]
 exact ⟨ok.e1, List.forall_mem_nil _⟩
abbrev GA2.St (X : GA2) (Q : Exit → Act → World → Prop) (i : Nat) : Prop := StepG (opsOf 1 Tryz.f59) GA2.acts GA2.av X.val0 X.Wd X.a0 Q i
theorem GA2.plain (X : GA2) (ok : GA2Ok X) {Q : Exit → Act → World → Prop} : ∀ i ∈ [0, 1, 3, 10, 11], GA2.St X Q i := by
 simp only [List.forall_mem_cons]
 refine ⟨?_, ?_, ?_, ?_, ?_, List.forall_mem_nil _⟩
 all_goals
  refine st_plain GA1.isL (GA2.ini ok) ok.sz rfl (by kernel_rfl) ?_
  intro γ w n o hW hop
  have hc_c0 := rq_atN (GA2.kp hW) ok.c0
  unfold execOp
  rw [hop]
  simp [envR, valG, GA2.av, GA2.val0, hc_c0, ok.hb, go_sem]
theorem GA2.want (X : GA2) (ok : GA2Ok X) {Q : Exit → Act → World → Prop} : ∀ i ∈ [4, 5, 6, 7, 9], GA2.St X Q i := by
 simp only [List.forall_mem_cons]
 refine ⟨?_, ?_, ?_, ?_, ?_, List.forall_mem_nil _⟩
 all_goals
  refine st_plainW GA1.isL (GA2.ini ok) ok.sz rfl rfl rfl (by kernel_rfl) ?_
  intro γ w n o hW hop
  have hc_c0 := rq_atN (GA2.kp hW) ok.c0
  unfold execOp
  rw [hop]
  simp [envR, valG, GA2.av, GA2.val0, hc_c0, ok.hb, go_sem]
theorem GA2.s8 (X : GA2) (ok : GA2Ok X) {Q : Exit → Act → World → Prop} : GA2.St X Q 8 := by
 intro γ listed a w o hF hC hW h1 ho h2
 obtain ⟨hd, hop, hg⟩ := fieldsL GA1.isL (i := 8) rfl ho
 have eg : a.eval (.tmp 8) = .bool true := known hF ho h2 (GA2.ini ok) ok.sz (by kernel_rfl)
 have hw := wanted_of (ops := (opsOf 1 Tryz.f59)) hg (yl_of (by kernel_rfl : dstOf (opsOf 1 Tryz.f59) 3 = some 8) (by rw [hF.tsize, ok.sz]; decide) eg)
 replace hw : Region.wanted o (yielded (opsOf 1 Tryz.f59) a.tmps) = true := hw
 have e12 : a.eval (.tmp 12) = .string X.nm := known hF ho h2 (GA2.ini ok) ok.sz (by kernel_rfl)
 have ef : a.eval (.func 101) = .func (.func 101) #[] #[] := rfl
 refine st_callWN hF hC hW ho h2 (by decide) hd hw rfl (f := 101) (args := #[.string X.nm]) ?_ ?_ ?_
 · generalize a.eval = ρ at e12 ef ⊢
   unfold execOp
   rw [hop]
   simp [e12, ef, go_sem]
 ·exact ok.k8 w
 ·intro w' hk; exact GA2.keep hW hk
theorem GA2.rest (X : GA2) (ok : GA2Ok X) {Q : Exit → Act → World → Prop} : ∀ i ∈ [2, 8], GA2.St X Q i := by
 simp only [List.forall_mem_cons]
 exact ⟨st_callKN GA1.isL (GA2.ini ok) ok.sz rfl (by kernel_rfl) (fun _ _ => by simp [go_sem]) (fun γ w n hW => ok.k2 w) (fun _ _ _ _ hW hk => GA2.keep hW hk),
  GA2.s8 X ok, List.forall_mem_nil _⟩
theorem GA2.steps (X : GA2) (ok : GA2Ok X) {Q : Exit → Act → World → Prop} (i : Nat) (hi : i < (opsOf 1 Tryz.f59).size) : GA2.St X Q i := by
 rw [GA1.size] at hi
 rcases (by decide : ∀ i, i < 12 → i ∈ [0, 1, 3, 10, 11] ∨ i ∈ [4, 5, 6, 7, 9] ∨ i ∈ [2, 8]) i hi with h | h | h
 · exact GA2.plain X ok i h
 · exact GA2.want X ok i h
 · exact GA2.rest X ok i h
/-- The region, whatever order comes up. -/
theorem GA2.run (X : GA2) (ok : GA2Ok X) {Q : Exit → Act → World → Prop} (w : World) (h0 : X.Wd 0 (fun _ => undef) w.drew) (hend : ∀ (γ : Nat → Value) w', X.Wd 0 γ w' → Q .normal ((((((((((((X.a0.put (some 5) (.pointer (some ⟨X.g, 0, none⟩))).put (some 6) (.string X.nm)).put (some 7) (.bool true)).put (some 8) (.bool true)).put (some 9) (.pointer (some ⟨X.g, 0, none⟩))).put (some 10) (.string X.nm)).put (some 11) (.pointer (some ⟨X.g, 0, none⟩))).put (some 12) (.string X.nm)).put (some 13) (.string X.lw)).put (some 14) (.bool X.b)).put (some 15) (.bool X.b)).put (some 3) (.bool X.b)) w') : (Code.region 1 (opsOf 1 Tryz.f59) true).wp Tryz.prog Q X.a0 w := by
 refine reg_act (acts := GA2.acts) (av := GA2.av) (val0 := X.val0) (Wd := X.Wd) (by kernel_rfl) (by kernel_rfl) (by rw [GA1.size]; decide) (fun i hi => GA2.steps X ok i hi) _ h0 ?_
 intro γ w' h
 exact end_at (hend γ w' h) (by kernel_rfl)
structure GB1 where
 g : Nat
 nm : ByteArray
 vl : ByteArray
 lw : ByteArray
 W : World
 a0 : Act
structure GB1Ok (X : GB1) : Prop where
 c0 : X.W.cell? ⟨X.g, 0, none⟩ = some (.string X.nm)
 c1 : X.W.cell? ⟨X.g, 1, none⟩ = some (.string X.vl)
 hb : ¬ X.vl.toList = X.lw.toList
 k4 : ∀ w, Calls Tryz.prog 102 #[.string X.vl, .string ⟨#[9, 10, 13, 32]⟩] w fun e w' => e = .returned (.string X.lw) ∧ Nw w w'
 e1 : X.a0.eval (.tmp 1) = .pointer (some ⟨X.g, 0, none⟩)
 sz : X.a0.tmps.size = 37
def GB1.val0 (X : GB1) : Nat → Value
 | 1 => .pointer (some ⟨X.g, 0, none⟩)
 | 4 => .bool false
 | 16 => .pointer (some ⟨X.g, 1, none⟩)
 | 17 => .string X.vl
 | 18 => .pointer (some ⟨X.g, 1, none⟩)
 | 19 => .string X.vl
 | 20 => .string X.lw
 | 21 => .bool false
 | 22 => .bool false
 | 27 => .bool false
 | _ => undef
def GB1.av : Nat → Option Nat
 | _ => none
def GB1.acts : List Nat := []
/-- The world, by how many of the acting ones have come up. -/
def GB1.Wd (X : GB1) : Nat → (Nat → Value) → World → Prop
  | _, _, w => Nw X.W w
theorem GB1.kp {X : GB1} {n : Nat} {γ : Nat → Value} {w : World} (h : X.Wd n γ w) : Nw X.W w := h
theorem GB1.keep {X : GB1} {n : Nat} {γ : Nat → Value} {w w' : World} (h : X.Wd n γ w) (k : Nw w w') : X.Wd n γ w' := Nw.trans h k
def GB1.L : List (Option Nat × Op × Option (Nat × Bool)) := [
 (some 16, .fieldAddr 36 (.tmp 1) 1, none),
 (some 17, .load 9 (.tmp 16), none),
 (some 18, .fieldAddr 36 (.tmp 1) 1, none),
 (some 19, .load 9 (.tmp 18), none),
 (some 20, .call { callee := .value (.func 102), args := #[(.tmp 19), (.const (.string ⟨#[9, 10, 13, 32]⟩))], argTypes := #[9, 9] }, none),
 (some 21, .binOp .eql 9 (.tmp 17) (.tmp 20) 9, none),
 (some 22, .move (.tmp 21), none),
 (some 23, .fieldAddr 36 (.tmp 1) 1, some (6, true)),
 (some 24, .load 9 (.tmp 23), some (6, true)),
 (some 25, .call { callee := .value (.func 103), args := #[(.tmp 24), (.const (.string ⟨#[59, 123, 125, 47, 33]⟩))], argTypes := #[9, 9] }, some (6, true)),
 (some 26, .unOp .not 4 (.tmp 25), some (6, true)),
 (some 27, .pick (.tmp 22) (.tmp 26) (.const (.bool false)), none),
 (some 4, .assign (.tmp 27), none)]
theorem GB1.isL : (opsOf 2 Tryz.f59).toList.map tri = GB1.L := by kernel_rfl
theorem GB1.ini {X : GB1} (ok : GB1Ok X) : ∀ n ∈ [1], X.a0.eval (.tmp n) = X.val0 n := by
 simp only [List.forall_mem_cons]
 exact ⟨ok.e1, List.forall_mem_nil _⟩
abbrev GB1.St (X : GB1) (Q : Exit → Act → World → Prop) (i : Nat) : Prop := StepG (opsOf 2 Tryz.f59) GB1.acts GB1.av X.val0 X.Wd X.a0 Q i
theorem GB1.plain (X : GB1) (ok : GB1Ok X) {Q : Exit → Act → World → Prop} : ∀ i ∈ [0, 1, 2, 3, 5, 6, 11, 12], GB1.St X Q i := by
 simp only [List.forall_mem_cons]
 refine ⟨?_, ?_, ?_, ?_, ?_, ?_, ?_, ?_, List.forall_mem_nil _⟩
 all_goals
  refine st_plain GB1.isL (GB1.ini ok) ok.sz rfl (by kernel_rfl) ?_
  intro γ w n o hW hop
  have hc_c1 := rq_atN (GB1.kp hW) ok.c1
  unfold execOp
  rw [hop]
  simp [envR, valG, GB1.av, GB1.val0, hc_c1, ok.hb, go_sem]
theorem GB1.skip (X : GB1) (ok : GB1Ok X) {Q : Exit → Act → World → Prop} : ∀ i ∈ [7, 8, 9, 10], GB1.St X Q i := by
 simp only [List.forall_mem_cons]
 refine ⟨?_, ?_, ?_, ?_, List.forall_mem_nil _⟩
 all_goals
  exact st_plainS GB1.isL (GB1.ini ok) ok.sz rfl rfl (Or.inl rfl) (by kernel_rfl) rfl
theorem GB1.size : (opsOf 2 Tryz.f59).size = 13 := by kernel_rfl
theorem GB1.rest (X : GB1) (ok : GB1Ok X) {Q : Exit → Act → World → Prop} : ∀ i ∈ [4], GB1.St X Q i := by
 simp only [List.forall_mem_cons]
 exact ⟨st_callKN GB1.isL (GB1.ini ok) ok.sz rfl (by kernel_rfl) (fun _ _ => by simp [go_sem]) (fun γ w n hW => ok.k4 w) (fun _ _ _ _ hW hk => GB1.keep hW hk), List.forall_mem_nil _⟩
theorem GB1.steps (X : GB1) (ok : GB1Ok X) {Q : Exit → Act → World → Prop} (i : Nat) (hi : i < (opsOf 2 Tryz.f59).size) : GB1.St X Q i := by
 rw [GB1.size] at hi
 rcases (by decide : ∀ i, i < 13 → i ∈ [0, 1, 2, 3, 5, 6, 11, 12] ∨ i ∈ [7, 8, 9, 10] ∨ i ∈ [4]) i hi with h | h | h
 · exact GB1.plain X ok i h
 · exact GB1.skip X ok i h
 · exact GB1.rest X ok i h
/-- The region, whatever order comes up. -/
theorem GB1.run (X : GB1) (ok : GB1Ok X) {Q : Exit → Act → World → Prop} (w : World) (h0 : X.Wd 0 (fun _ => undef) w.drew) (hend : ∀ (γ : Nat → Value) w', X.Wd 0 γ w' → Q .normal (((((((((((((X.a0.put (some 16) (.pointer (some ⟨X.g, 1, none⟩))).put (some 17) (.string X.vl)).put (some 18) (.pointer (some ⟨X.g, 1, none⟩))).put (some 19) (.string X.vl)).put (some 20) (.string X.lw)).put (some 21) (.bool false)).put (some 22) (.bool false)).put (some 23) (undef)).put (some 24) (undef)).put (some 25) (undef)).put (some 26) (undef)).put (some 27) (.bool false)).put (some 4) (.bool false)) w') : (Code.region 2 (opsOf 2 Tryz.f59) true).wp Tryz.prog Q X.a0 w := by
 refine reg_act (acts := GB1.acts) (av := GB1.av) (val0 := X.val0) (Wd := X.Wd) (by kernel_rfl) (by kernel_rfl) (by rw [GB1.size]; decide) (fun i hi => GB1.steps X ok i hi) _ h0 ?_
 intro γ w' h
 exact end_at (hend γ w' h) (by kernel_rfl)
structure GB2 where
 g : Nat
 nm : ByteArray
 vl : ByteArray
 lw : ByteArray
 b : Bool
 W : World
 a0 : Act
structure GB2Ok (X : GB2) : Prop where
 c0 : X.W.cell? ⟨X.g, 0, none⟩ = some (.string X.nm)
 c1 : X.W.cell? ⟨X.g, 1, none⟩ = some (.string X.vl)
 hb : X.vl.toList = X.lw.toList
 k4 : ∀ w, Calls Tryz.prog 102 #[.string X.vl, .string ⟨#[9, 10, 13, 32]⟩] w fun e w' => e = .returned (.string X.lw) ∧ Nw w w'
 k9 : ∀ w, Calls Tryz.prog 103 #[.string X.vl, .string ⟨#[59, 123, 125, 47, 33]⟩] w fun e w' => e = .returned (.bool X.b) ∧ Nw w w'
 e1 : X.a0.eval (.tmp 1) = .pointer (some ⟨X.g, 0, none⟩)
 sz : X.a0.tmps.size = 37
def GB2.val0 (X : GB2) : Nat → Value
 | 1 => .pointer (some ⟨X.g, 0, none⟩)
 | 4 => .bool (!X.b)
 | 16 => .pointer (some ⟨X.g, 1, none⟩)
 | 17 => .string X.vl
 | 18 => .pointer (some ⟨X.g, 1, none⟩)
 | 19 => .string X.vl
 | 20 => .string X.lw
 | 21 => .bool true
 | 22 => .bool true
 | 23 => .pointer (some ⟨X.g, 1, none⟩)
 | 24 => .string X.vl
 | 25 => .bool X.b
 | 26 => .bool (!X.b)
 | 27 => .bool (!X.b)
 | _ => undef
def GB2.av : Nat → Option Nat
 | _ => none
def GB2.acts : List Nat := []
/-- The world, by how many of the acting ones have come up. -/
def GB2.Wd (X : GB2) : Nat → (Nat → Value) → World → Prop
  | _, _, w => Nw X.W w
theorem GB2.kp {X : GB2} {n : Nat} {γ : Nat → Value} {w : World} (h : X.Wd n γ w) : Nw X.W w := h
theorem GB2.keep {X : GB2} {n : Nat} {γ : Nat → Value} {w w' : World} (h : X.Wd n γ w) (k : Nw w w') : X.Wd n γ w' := Nw.trans h k
theorem GB2.ini {X : GB2} (ok : GB2Ok X) : ∀ n ∈ [1], X.a0.eval (.tmp n) = X.val0 n := by
 simp only [List.forall_mem_cons]
 exact ⟨ok.e1, List.forall_mem_nil _⟩
abbrev GB2.St (X : GB2) (Q : Exit → Act → World → Prop) (i : Nat) : Prop := StepG (opsOf 2 Tryz.f59) GB2.acts GB2.av X.val0 X.Wd X.a0 Q i
theorem GB2.plain (X : GB2) (ok : GB2Ok X) {Q : Exit → Act → World → Prop} : ∀ i ∈ [0, 1, 2, 3, 5, 6, 11, 12], GB2.St X Q i := by
 simp only [List.forall_mem_cons]
 refine ⟨?_, ?_, ?_, ?_, ?_, ?_, ?_, ?_, List.forall_mem_nil _⟩
 all_goals
  refine st_plain GB1.isL (GB2.ini ok) ok.sz rfl (by kernel_rfl) ?_
  intro γ w n o hW hop
  have hc_c1 := rq_atN (GB2.kp hW) ok.c1
  unfold execOp
  rw [hop]
  simp [envR, valG, GB2.av, GB2.val0, hc_c1, ok.hb, go_sem]
theorem GB2.want (X : GB2) (ok : GB2Ok X) {Q : Exit → Act → World → Prop} : ∀ i ∈ [7, 8, 10], GB2.St X Q i := by
 simp only [List.forall_mem_cons]
 refine ⟨?_, ?_, ?_, List.forall_mem_nil _⟩
 all_goals
  refine st_plainW GB1.isL (GB2.ini ok) ok.sz rfl rfl rfl (by kernel_rfl) ?_
  intro γ w n o hW hop
  have hc_c1 := rq_atN (GB2.kp hW) ok.c1
  unfold execOp
  rw [hop]
  simp [envR, valG, GB2.av, GB2.val0, hc_c1, ok.hb, go_sem]
theorem GB2.s9 (X : GB2) (ok : GB2Ok X) {Q : Exit → Act → World → Prop} : GB2.St X Q 9 := by
 intro γ listed a w o hF hC hW h1 ho h2
 obtain ⟨hd, hop, hg⟩ := fieldsL GB1.isL (i := 9) rfl ho
 have eg : a.eval (.tmp 22) = .bool true := known hF ho h2 (GB2.ini ok) ok.sz (by kernel_rfl)
 have hw := wanted_of (ops := (opsOf 2 Tryz.f59)) hg (yl_of (by kernel_rfl : dstOf (opsOf 2 Tryz.f59) 6 = some 22) (by rw [hF.tsize, ok.sz]; decide) eg)
 replace hw : Region.wanted o (yielded (opsOf 2 Tryz.f59) a.tmps) = true := hw
 have e24 : a.eval (.tmp 24) = .string X.vl := known hF ho h2 (GB2.ini ok) ok.sz (by kernel_rfl)
 have ec1 : a.eval (.const (.string ⟨#[59, 123, 125, 47, 33]⟩)) = .string ⟨#[59, 123, 125, 47, 33]⟩ := rfl
 have ef : a.eval (.func 103) = .func (.func 103) #[] #[] := rfl
 refine st_callWN hF hC hW ho h2 (by decide) hd hw rfl (f := 103) (args := #[.string X.vl, .string ⟨#[59, 123, 125, 47, 33]⟩]) ?_ ?_ ?_
 · generalize a.eval = ρ at e24 ec1 ef ⊢
   unfold execOp
   rw [hop]
   simp [e24, ec1, ef, go_sem]
 ·exact ok.k9 w
 ·intro w' hk; exact GB2.keep hW hk
theorem GB2.rest (X : GB2) (ok : GB2Ok X) {Q : Exit → Act → World → Prop} : ∀ i ∈ [4, 9], GB2.St X Q i := by
 simp only [List.forall_mem_cons]
 exact ⟨st_callKN GB1.isL (GB2.ini ok) ok.sz rfl (by kernel_rfl) (fun _ _ => by simp [go_sem]) (fun γ w n hW => ok.k4 w) (fun _ _ _ _ hW hk => GB2.keep hW hk),
  GB2.s9 X ok, List.forall_mem_nil _⟩
theorem GB2.steps (X : GB2) (ok : GB2Ok X) {Q : Exit → Act → World → Prop} (i : Nat) (hi : i < (opsOf 2 Tryz.f59).size) : GB2.St X Q i := by
 rw [GB1.size] at hi
 rcases (by decide : ∀ i, i < 13 → i ∈ [0, 1, 2, 3, 5, 6, 11, 12] ∨ i ∈ [7, 8, 10] ∨ i ∈ [4, 9]) i hi with h | h | h
 · exact GB2.plain X ok i h
 · exact GB2.want X ok i h
 · exact GB2.rest X ok i h
/-- The region, whatever order comes up. -/
theorem GB2.run (X : GB2) (ok : GB2Ok X) {Q : Exit → Act → World → Prop} (w : World) (h0 : X.Wd 0 (fun _ => undef) w.drew) (hend : ∀ (γ : Nat → Value) w', X.Wd 0 γ w' → Q .normal (((((((((((((X.a0.put (some 16) (.pointer (some ⟨X.g, 1, none⟩))).put (some 17) (.string X.vl)).put (some 18) (.pointer (some ⟨X.g, 1, none⟩))).put (some 19) (.string X.vl)).put (some 20) (.string X.lw)).put (some 21) (.bool true)).put (some 22) (.bool true)).put (some 23) (.pointer (some ⟨X.g, 1, none⟩))).put (some 24) (.string X.vl)).put (some 25) (.bool X.b)).put (some 26) (.bool (!X.b))).put (some 27) (.bool (!X.b))).put (some 4) (.bool (!X.b))) w') : (Code.region 2 (opsOf 2 Tryz.f59) true).wp Tryz.prog Q X.a0 w := by
 refine reg_act (acts := GB2.acts) (av := GB2.av) (val0 := X.val0) (Wd := X.Wd) (by kernel_rfl) (by kernel_rfl) (by rw [GB1.size]; decide) (fun i hi => GB2.steps X ok i hi) _ h0 ?_
 intro γ w' h
 exact end_at (hend γ w' h) (by kernel_rfl)
end Go.Proofs.YtnkmdmmlpidcmaaGreatDoor
