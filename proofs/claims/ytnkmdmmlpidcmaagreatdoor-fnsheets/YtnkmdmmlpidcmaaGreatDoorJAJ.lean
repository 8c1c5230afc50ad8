/-
  Marks looked for in rows of parts; each theorem names its conditions.
  Selectors that are good: the program's looks and the specification's; each theorem names its conditions.
  The text of a selector, the specification's; each theorem names its conditions.
  A text without its comments, on lists of bytes: as the specification makes it and as the program does; pure facts.
-/
import Derived.Test.YtnkmdmmlpidcmaaGreatDoorJAI
import Derived.Test.YtnkmdmmlpidcmaaGreatDoorJAE
import Derived.Lib.IndexMore
namespace Go.Proofs.YtnkmdmmlpidcmaaGreatDoor
open Go.ChangeShapes Go.WideShapes Go.ChangeAt Go.RowKit
set_option linter.unusedVariables false

set_option maxHeartbeats 8000000 in
theorem heldPt_any (w : World) (v : Value) (K : Nat) (l : List PD) (F : Nat → Prop) (hK : 1 ≤ K) (hK2 : K + cntPs l ≤ 1000000) (h : RowM 3 EPart w v (mkPs K l) F) :
    Calls Tryz.prog 86 #[v, .int .i64 (K : Int)] w fun e w' => e = .returned (.int .i64 ((K + cntPs l : Nat) : Int)) ∧ Nw w w' := by
  have hl := cntPs_len l
  obtain ⟨va, vc, hv, _⟩ := h.slice
  rw [mkPs_len] at hv
  subst hv
  have HR : Hid (RowM 3 EPart w (.slice va l.length vc) (mkPs K l) F) := h
  clear h
  go_enter Tryz.func86, Tryz.ntmps86
  go_wp2
  go_loopw [1, 5] (fun x i wr => ∃ (j : Nat), j ≤ l.length ∧ i = .int .i64 j ∧ x = .int .i64 ((K + cntPs (l.take j) : Nat) : Int) ∧ Nw w wr) (fun _ i _ => l.length - (intOf i).toNat)
  case atStart => exact ⟨0, Nat.zero_le _, rfl, rfl, Below.refl _ _⟩
  case round =>
    obtain ⟨j, hj, rfl, rfl, hw⟩ := hrel
    have HW : Hid (Nw w wr) := hw
    by_cases hlt : j < l.length
    · rcases HR.out.nw EPart.kept hw with ⟨_, h2⟩ | ⟨g, c, els, h1, h2, h3, h4⟩
      · have := mkPs_len l K; rw [h2] at this; simp at this; omega
      injection h1 with h1a h1b h1c
      subst h1a
      obtain ⟨e, hje, hex⟩ := el_at h3 j (by rw [mkPs_len]; exact hlt) noPD
      have hex2 : e.x = mkP (K + cntPs (l.take j)) (partAt l j) := by
        rw [hex, List.getD_eq_getElem?_getD, mkPs_at l K j hlt]; rfl
      obtain ⟨⟨u, hcs, hu⟩, hlen, hFe⟩ := h4.el e (List.mem_of_getElem? hje)
      have c0 := h4.cell j e hje 0 (.string e.x.ty) (by rw [hcs]; rfl)
      have c1 := h4.cell j e hje 1 (.string e.x.id) (by rw [hcs]; rfl)
      have c2 := h4.cell j e hje 2 u (by rw [hcs]; rfl)
      have hst := cntPs_step l j hlt
      have hle := cntPs_le l (j + 1)
      have hg := h4.lt
      rw [hex2] at hu c0 c1
      rw [Nat.add_zero] at c0
      have hu2 : RowM 1 EStr wr u (markL (K + cntPs (l.take j) + 2) (partAt l j).cls.length) e.F := hu
      have c0' : wr.cell? ⟨g, j * 3, none⟩ = some (.string (markT (K + cntPs (l.take j)))) := c0
      have c1' : wr.cell? ⟨g, j * 3 + 1, none⟩ = some (.string (markT (K + cntPs (l.take j) + 1))) := c1
      obtain ⟨ua, uc, hue, _⟩ := hu2.slice
      rw [markL_len] at hue
      subst hue
      have HU : Hid (RowM 1 EStr wr (.slice ua (partAt l j).cls.length uc) (markL (K + cntPs (l.take j) + 2) (partAt l j).cls.length) e.F) := hu2
      have hcn : cntP (partAt l j) = 2 + (partAt l j).cls.length := rfl
      rw [hcn] at hst
      rw [hst] at hle
      have HST : Hid (cntPs (l.take (j + 1)) = cntPs (l.take j) + (2 + (partAt l j).cls.length)) := hst
      clear hst hcn hu hu2 hje hFe hex hex2 hcs hlen hw c0 c1 h1b h1c h2 h3 h4
      generalize (partAt l j).cls.length = n at *
      generalize cntPs (l.take j) = C at *
      have hgd : g < wr.drew.heap.size := hg
      have C0 : wr.drew.cell? ⟨g, j * 3, none⟩ = some (.string (markT (K + C))) := c0'
      go_wp2
      go_region_with (go_at_call 55; refine Calls.mono (markText_any _ (K + C) (by omega) (by omega)) ?_; rintro e1 w1 ⟨rfl, k1⟩; have d0 := ((bcell k1).1 _ (j * 3) hgd).trans C0)
      all_goals
        have HK1 : Hid (Nw wr w1) := k1.drw
        have hg1 : g < w1.heap.size := Nat.lt_of_lt_of_le hg (Below.size HK1.out)
        have d1 := ((bcell HK1.out).1 _ (j * 3 + 1) hg).trans c1'
        have d2 := ((bcell HK1.out).1 _ (j * 3 + 2) hg).trans c2
        have hgd1 : g < w1.drew.heap.size := hg1
        have D1 : w1.drew.cell? ⟨g, j * 3 + 1, none⟩ = some (.string (markT (K + C + 1))) := d1
        clear C0 c0' c1' c2
        go_wp2
        go_region_with (go_at_call 55; refine Calls.mono (markText_any _ (K + C + 1) (by omega) (by omega)) ?_; rintro e2 w2 ⟨rfl, k2⟩; have f1 := ((bcell k2).1 _ (j * 3 + 1) hgd1).trans D1)
        all_goals
          have HK2 : Hid (Nw wr w2) := Nw.trans HK1.out k2.drw
          have hg2 : g < w2.heap.size := Nat.lt_of_lt_of_le hg (Below.size HK2.out)
          have f2 := ((bcell (Nw.drw k2)).1 _ (j * 3 + 2) hg1).trans d2
          have HU2 : Hid _ := HU.out.nw EStr.kept HK2.out
          clear D1 d1 d2
          go_wp2_with fail
          refine Calls.mono (heldSt_any _ (.slice ua n uc) (K + C + 2) n e.F (by omega) (by omega) (by omega) HU2.out) ?_
          rintro e3 w3 ⟨rfl, k3⟩
          have HN3 : Hid (Nw w w3) := Nw.trans HW.out (Nw.trans HK2.out k3)
          go_wp2
          go_roundw
          case rel => exact ⟨j + 1, by omega, by go_num, by rw [HST.out]; go_num, HN3.out⟩
          case measure => simp [intOf]; omega
    · have e : j = l.length := by omega
      subst e
      rw [List.take_length] at *
      clear hw
      go_wp2
      go_ret
      exact ⟨rfl, HW.out⟩
end Go.Proofs.YtnkmdmmlpidcmaaGreatDoor
namespace Go.Proofs.YtnkmdmmlpidcmaaGreatDoor
open Go.ChangeShapes Go.WideShapes Go.ChangeAt Go.RowKit
set_option linter.unusedVariables false

def PsTo (l : List PD) (k : Nat) : Prop := ∀ i, i < k → partB (partAt l i) = true
theorem PsTo.step {l : List PD} {k : Nat} (h : PsTo l k) (e : partB (partAt l k) = true) : PsTo l (k + 1) := by
  intro i hi
  by_cases c : i = k
  · subst c; exact e
  · exact h i (by omega)
def selB (l : List PD) : Bool := decide (1 ≤ l.length ∧ l.length ≤ 5) && (List.range l.length).all fun i => partB (partAt l i)
theorem selB_iff (l : List PD) : selB l = true ↔ (1 ≤ l.length ∧ l.length ≤ 5) ∧ PsTo l l.length := by
  unfold selB PsTo
  rw [Bool.and_eq_true, decide_eq_true_eq, List.all_eq_true]
  simp only [List.mem_range]
theorem selB_no {l : List PD} (h : ¬ ((1 ≤ l.length ∧ l.length ≤ 5) ∧ PsTo l l.length)) : selB l = false := by
  cases e : selB l with
  | false => rfl
  | true => exact absurd ((selB_iff l).1 e) h
def smallPs (l : List PD) : Prop := ∀ i, i < l.length → smallP (partAt l i)
set_option maxHeartbeats 2000000 in
theorem igoodSel (w : World) (a : Option Addr) (c : Nat) (l : List PD) (hl : l.length ≤ 1048576) (hs : smallPs l) (hr : Parts w a l) :
    Calls Tryz.prog 37 #[.slice a l.length c] w fun e w' => e = .returned (.bool (selB l)) ∧ Nw w w' := by
  have HR : Hid (Parts w a l) := hr
  have HS : Hid (smallPs l) := hs
  clear hr hs
  by_cases h1 : 1 ≤ l.length ∧ l.length ≤ 5
  · obtain ⟨h1, h5⟩ := h1
    have hz : ((l.length : Int) == 0) = false := beq_eq_false_iff_ne.2 (by omega)
    go_enter Tryz.func37, Tryz.ntmps37
    go_wp2
    go_loopw [15] (fun i wr => ∃ k : Nat, k ≤ l.length ∧ i = .int .i64 k ∧ PsTo l k ∧ Nw w wr) (fun i _ => l.length - (intOf i).toNat)
    case atStart => exact ⟨0, Nat.zero_le _, rfl, fun i hi => absurd hi (by omega), Below.refl _ _⟩
    case round =>
      obtain ⟨k, hk, rfl, hto, hw⟩ := hrel
      have HO : Hid (PsTo l k) := hto
      have HW : Hid (Nw w wr) := hw
      clear hto
      by_cases hlt : k < l.length
      · rcases (HR.out.nw hw) with h | ⟨b, off, rfl, hbk, hc⟩
        · rw [h] at hlt; simp at hlt
        obtain ⟨q0, q1, ⟨qa, qc, q2, qcap, q4⟩⟩ := hc k hlt
        have hz := HS.out k hlt
        have hpe : partAt l k = ⟨(partAt l k).ty, (partAt l k).id, (partAt l k).cls⟩ := rfl
        have HZ : Hid (smallP ⟨(partAt l k).ty, (partAt l k).id, (partAt l k).cls⟩) := hz
        have M1 : Hid (Nw wr (wr.alloc (.cells #[.string (partAt l k).ty, .string (partAt l k).id, .slice qa (partAt l k).cls.length qc] 67))) := (Below.refl _ _).alloc (Nat.le_refl _) _
        have Q4 : Hid (Strs (wr.alloc (.cells #[.string (partAt l k).ty, .string (partAt l k).id, .slice qa (partAt l k).cls.length qc] 67)) qa (partAt l k).cls) := q4.nw M1.out
        clear hc hw q4 hz
        by_cases hp : partB (partAt l k) = true
        · have HK : Hid (partB (partAt l k) = true) := hp
          have hp2 : partB ⟨(partAt l k).ty, (partAt l k).id, (partAt l k).cls⟩ = true := hp
          clear hp hpe
          go_wp2_with (go_at_call 74; refine Calls.mono (igoodPart _ _ _ _ qa qc HZ.out Q4.out) ?_; rw [hp2]; rintro e w' ⟨rfl, k1⟩)
          go_roundw
          case rel => exact ⟨k + 1, by omega, by go_num, HO.out.step HK.out, HW.out.trans (M1.out.trans k1)⟩
          case measure => simp [intOf]; omega
        · have hp2 : partB ⟨(partAt l k).ty, (partAt l k).id, (partAt l k).cls⟩ = false := by simpa using hp
          have HX : Hid (selB l = false) := selB_no fun h => hp (h.2 k hlt)
          clear hp hpe
          go_wp2_with (go_at_call 74; refine Calls.mono (igoodPart _ _ _ _ qa qc HZ.out Q4.out) ?_; rw [hp2]; rintro e w' ⟨rfl, k1⟩)
          go_ret
          exact ⟨ret_bool HX.out.symm, HW.out.trans (M1.out.trans k1)⟩
      · have HX : Hid (selB l = true) := (selB_iff l).2 ⟨⟨h1, h5⟩, fun i hi => HO.out i (by omega)⟩
        clear hw
        go_wp2
        go_ret
        exact ⟨ret_bool HX.out.symm, HW.out⟩
  · have HX : Hid (selB l = false) := selB_no fun h => h1 h.1
    clear HR HS
    by_cases h0 : l.length = 0
    · have hz : ((l.length : Int) == 0) = true := by simp [h0]
      clear h1 h0
      go_enter Tryz.func37, Tryz.ntmps37
      go_wp2
      go_ret
      exact ⟨ret_bool HX.out.symm, Below.refl _ _⟩
    · have hz : ((l.length : Int) == 0) = false := beq_eq_false_iff_ne.2 (by omega)
      have h5 : 5 < (l.length : Int) := by omega
      clear h1 h0
      go_enter Tryz.func37, Tryz.ntmps37
      go_wp2
      go_ret
      exact ⟨ret_bool HX.out.symm, Below.refl _ _⟩
set_option maxHeartbeats 2000000 in
theorem sgoodSel (w : World) (a : Option Addr) (c : Nat) (l : List PD) (hl : l.length ≤ 1048576) (hs : smallPs l) (hr : Parts w a l) :
    Calls Tryz.prog 28 #[.slice a l.length c] w fun e w' => e = .returned (.bool (selB l)) ∧ Nw w w' := by
  have HR : Hid (Parts w a l) := hr
  have HS : Hid (smallPs l) := hs
  clear hr hs
  by_cases h1 : 1 ≤ l.length ∧ l.length ≤ 5
  · have hd : decide ((1 : Int) ≤ (l.length : Int) ∧ (l.length : Int) ≤ 5) = true := by simp; omega
    go_enter Tryz.func28, Tryz.ntmps28
    go_wp2_with (go_at_call 61; refine (in_any _ _ _ _).mono ?_; rw [hd]; rintro e w' ⟨rfl, hq⟩; have hq2 := hq.symm; clear hq; subst hq2)
    go_loopw [11] (fun i wr => ∃ k : Nat, k ≤ l.length ∧ i = .int .i64 k ∧ PsTo l k ∧ Nw w wr) (fun i _ => l.length - (intOf i).toNat)
    case atStart => exact ⟨0, Nat.zero_le _, rfl, fun i hi => absurd hi (by omega), Below.refl _ _⟩
    case round =>
      obtain ⟨k, hk, rfl, hto, hw⟩ := hrel
      have HO : Hid (PsTo l k) := hto
      have HW : Hid (Nw w wr) := hw
      clear hto
      by_cases hlt : k < l.length
      · rcases (HR.out.nw hw) with h | ⟨b, off, rfl, hbk, hc⟩
        · rw [h] at hlt; simp at hlt
        obtain ⟨q0, q1, ⟨qa, qc, q2, qcap, q4⟩⟩ := hc k hlt
        have hz := HS.out k hlt
        have HZ : Hid (smallP ⟨(partAt l k).ty, (partAt l k).id, (partAt l k).cls⟩) := hz
        have M1 : Hid (Nw wr (wr.alloc (.cells #[.string (partAt l k).ty, .string (partAt l k).id, .slice qa (partAt l k).cls.length qc] 67))) := (Below.refl _ _).alloc (Nat.le_refl _) _
        have Q4 : Hid (Strs (wr.alloc (.cells #[.string (partAt l k).ty, .string (partAt l k).id, .slice qa (partAt l k).cls.length qc] 67)) qa (partAt l k).cls) := q4.nw M1.out
        clear hc hw q4 hz
        by_cases hp : partB (partAt l k) = true
        · have HK : Hid (partB (partAt l k) = true) := hp
          have hp2 : partB ⟨(partAt l k).ty, (partAt l k).id, (partAt l k).cls⟩ = true := hp
          clear hp
          go_wp2_with (go_at_call 62; refine Calls.mono (sgoodPart _ _ _ _ qa qc HZ.out Q4.out) ?_; rw [hp2]; rintro e w' ⟨rfl, k1⟩)
          go_roundw
          case rel => exact ⟨k + 1, by omega, by go_num, HO.out.step HK.out, HW.out.trans (M1.out.trans k1)⟩
          case measure => simp [intOf]; omega
        · have hp2 : partB ⟨(partAt l k).ty, (partAt l k).id, (partAt l k).cls⟩ = false := by simpa using hp
          have HX : Hid (selB l = false) := selB_no fun h => hp (h.2 k hlt)
          clear hp
          go_wp2_with (go_at_call 62; refine Calls.mono (sgoodPart _ _ _ _ qa qc HZ.out Q4.out) ?_; rw [hp2]; rintro e w' ⟨rfl, k1⟩)
          go_ret
          exact ⟨ret_bool HX.out.symm, HW.out.trans (M1.out.trans k1)⟩
      · have HX : Hid (selB l = true) := (selB_iff l).2 ⟨h1, fun i hi => HO.out i (by omega)⟩
        clear hw h1
        go_wp2
        go_ret
        exact ⟨ret_bool HX.out.symm, HW.out⟩
  · have HX : Hid (selB l = false) := selB_no fun h => h1 h.1
    have hd : decide ((1 : Int) ≤ (l.length : Int) ∧ (l.length : Int) ≤ 5) = false := by simp; omega
    clear HR HS h1
    go_enter Tryz.func28, Tryz.ntmps28
    go_wp2_with (go_at_call 61; refine (in_any _ _ _ _).mono ?_; rw [hd]; rintro e w' ⟨rfl, hq⟩; have hq2 := hq.symm; clear hq; subst hq2)
    go_ret
    exact ⟨ret_bool HX.out.symm, Below.refl _ _⟩

/-! ### Texts -/
/-- A head with the first k classes behind it. -/
def clsTo (h : ByteArray) (l : List ByteArray) : Nat → ByteArray
  | 0 => h
  | k + 1 => clsTo h l k ++ ((⟨#[46]⟩ : ByteArray) ++ strAt l k)
def headT (p : PD) : ByteArray := if p.id.toList.isEmpty then p.ty else p.ty ++ ((⟨#[35]⟩ : ByteArray) ++ p.id)
def partT (p : PD) : ByteArray := clsTo (headT p) p.cls p.cls.length
def sepT (t : ByteArray) (k : Nat) : ByteArray := if 0 < k then t ++ (⟨#[32]⟩ : ByteArray) else t
/-- The first k parts, with blanks between. -/
def selT (l : List PD) : Nat → ByteArray
  | 0 => ⟨#[]⟩
  | k + 1 => sepT (selT l k) k ++ partT (partAt l k)
theorem headT_no {ty id : ByteArray} {cls : List ByteArray} (h : id.toList.isEmpty = true) : headT ⟨ty, id, cls⟩ = ty := by unfold headT; simp only; rw [h]; rfl
theorem headT_yes {ty id : ByteArray} {cls : List ByteArray} (h : id.toList.isEmpty = false) : headT ⟨ty, id, cls⟩ = ty ++ ((⟨#[35]⟩ : ByteArray) ++ id) := by unfold headT; simp only; rw [h]; rfl
theorem wordB_le {s : ByteArray} (h : wordB s = true) : s.size ≤ 30 := ((wordB_iff s).1 h).1.2
theorem size_app (a b : ByteArray) : (a ++ b).size = a.size + b.size := by simp
theorem clsTo_size (h : ByteArray) (l : List ByteArray) : ∀ k, ClsTo l k → (clsTo h l k).size ≤ h.size + 31 * k
  | 0, _ => by simp [clsTo]
  | k + 1, hk => by
    have := clsTo_size h l k fun i hi => hk i (by omega)
    have h1 := wordB_le (hk k (by omega))
    rw [clsTo, size_app, size_app]
    have e : (⟨#[46]⟩ : ByteArray).size = 1 := rfl
    rw [e]; omega
theorem partT_size {p : PD} (h : partB p = true) : (partT p).size ≤ 250 := by
  unfold partB at h
  simp only [Bool.and_eq_true, decide_eq_true_eq] at h
  obtain ⟨h4, hc, ht, hi, _⟩ := h
  have h1 := clsTo_size (headT p) p.cls p.cls.length ((clsB_iff _).1 hc)
  have e1 : p.ty.size ≤ 30 := by
    rcases tyWay p.ty with ⟨e, _⟩ | ⟨e, _⟩ | ⟨_, _, _, e⟩
    · rw [e]; decide
    · rw [e]; decide
    · rw [ht] at e; exact wordB_le e
  have e2 : p.id.size ≤ 30 := by
    rcases idWay p.id with ⟨e, _⟩ | ⟨_, _, e⟩
    · rw [e]; decide
    · rw [hi] at e; exact wordB_le e
  have e3 : (headT p).size ≤ 61 := by
    unfold headT
    split
    · omega
    · rw [size_app, size_app]
      have e : (⟨#[35]⟩ : ByteArray).size = 1 := rfl
      rw [e]; omega
  unfold partT
  omega
theorem sepT_size (t : ByteArray) (k : Nat) : t.size ≤ (sepT t k).size ∧ (sepT t k).size ≤ t.size + 1 := by
  unfold sepT
  split
  · rw [size_app]
    have e : (⟨#[32]⟩ : ByteArray).size = 1 := rfl
    rw [e]; omega
  · omega
theorem selT_size {l : List PD} : ∀ k, PsTo l k → (selT l k).size ≤ 251 * k
  | 0, _ => Nat.zero_le _
  | k + 1, hk => by
    have h1 := selT_size k fun i hi => hk i (by omega)
    have h2 := partT_size (hk k (by omega))
    have h3 := sepT_size (selT l k) k
    rw [selT, size_app]
    omega
end Go.Proofs.YtnkmdmmlpidcmaaGreatDoor
namespace Go.Proofs.YtnkmdmmlpidcmaaGreatDoor
open Go.ChangeShapes Go.WideShapes Go.ChangeAt Go.RowKit
set_option linter.unusedVariables false

theorem ret_str {a b : ByteArray} (h : a = b) : Ending.returned (.string a) = .returned (.string b) := by rw [h]
theorem partB_parts {ty id : ByteArray} {cls : List ByteArray} (h : partB ⟨ty, id, cls⟩ = true) : cls.length ≤ 4 ∧ ClsTo cls cls.length ∧ typeB ty = true ∧ idB id = true ∧ ty.size ≤ 30 ∧ id.size ≤ 30 := by
  unfold partB at h
  simp only [Bool.and_eq_true, decide_eq_true_eq] at h
  obtain ⟨h4, hc, ht, hi, _⟩ := h
  refine ⟨h4, (clsB_iff _).1 hc, ht, hi, ?_, ?_⟩
  · rcases tyWay ty with ⟨e, _⟩ | ⟨e, _⟩ | ⟨_, _, _, e⟩
    · rw [e]; decide
    · rw [e]; decide
    · rw [ht] at e; exact wordB_le e
  · rcases idWay id with ⟨e, _⟩ | ⟨_, _, e⟩
    · rw [e]; decide
    · rw [hi] at e; exact wordB_le e
theorem clsTo_lt {H : ByteArray} {l : List ByteArray} {n : Nat} (h : ClsTo l n) (h4 : n ≤ 4) (hH : H.size ≤ 100) (k : Nat) (hk : k ≤ n) : (clsTo H l k).size ≤ 1000 := by
  have := clsTo_size H l k fun i hi => h i (by omega)
  omega
set_option maxHeartbeats 2000000 in
theorem spartT (w : World) (ty id : ByteArray) (cls : List ByteArray) (a : Option Addr) (c : Nat) (hp : partB ⟨ty, id, cls⟩ = true) (hr : Strs w a cls) :
    Calls Tryz.prog 63 #[.agg #[.string ty, .string id, .slice a cls.length c]] w fun e w' => e = .returned (.string (partT ⟨ty, id, cls⟩)) ∧ Nw w w' := by
  obtain ⟨z4, hcl, _, _, z1, z2⟩ := partB_parts hp
  have HC : Hid (ClsTo cls cls.length) := hcl
  clear hp hcl
  have hwn : Nw w (w.alloc (.cells #[.string ty, .string id, .slice a cls.length c] 67)) := (Below.refl _ _).alloc (Nat.le_refl _) _
  have HR2 : Hid (Strs (w.alloc (.cells #[.string ty, .string id, .slice a cls.length c] 67)) a cls) := hr.nw hwn
  have HW : Hid (Nw w (w.alloc (.cells #[.string ty, .string id, .slice a cls.length c] 67))) := hwn
  clear hwn hr
  have fin : ∀ H, headT ⟨ty, id, cls⟩ = H → partT ⟨ty, id, cls⟩ = clsTo H cls cls.length := fun H e => by unfold partT; rw [e]
  rcases idWay id with ⟨rfl, _⟩ | ⟨d1, d2, d3⟩
  · have HF : Hid (partT ⟨ty, ⟨#[]⟩, cls⟩ = clsTo ty cls cls.length) := fin _ (headT_no (by simp [ByteArray.toList_eq]))
    clear fin
    have hH : ty.size ≤ 100 := by omega
    go_enter Tryz.func63, Tryz.ntmps63
    go_wp2
    go_loop [3, 19] (fun x i => ∃ k : Nat, k ≤ cls.length ∧ i = .int .i64 k ∧ x = .string (clsTo ty cls k)) (fun _ i => cls.length - (intOf i).toNat)
    case atStart => exact ⟨0, Nat.zero_le _, rfl, rfl⟩
    case round =>
      obtain ⟨k, hk, rfl, rfl⟩ := hrel
      by_cases hlt : k < cls.length
      · rcases HR2.out with h | ⟨b, o, rfl, hb, hc⟩
        · rw [h] at hlt; simp at hlt
        have q0 := hc k hlt
        have y0 := wordB_le (HC.out k hlt)
        have y1 := clsTo_lt HC.out z4 hH k hk
        clear hc hb HR2
        go_wp2
        go_round
        case rel => exact ⟨k + 1, by omega, by go_num, rfl⟩
        case measure => simp [intOf]; omega
      · have e : k = cls.length := by omega
        subst e
        clear HR2
        go_wp2
        go_ret
        exact ⟨ret_str HF.out.symm, HW.out⟩
  · have HF : Hid (partT ⟨ty, id, cls⟩ = clsTo (ty ++ ((⟨#[35]⟩ : ByteArray) ++ id)) cls cls.length) := fin _ (headT_yes d2)
    clear fin
    have hH : (ty ++ ((⟨#[35]⟩ : ByteArray) ++ id)).size ≤ 100 := by
      have e : (⟨#[35]⟩ : ByteArray).size = 1 := rfl
      rw [size_app, size_app, e]; omega
    go_enter Tryz.func63, Tryz.ntmps63
    go_wp2
    go_loop [3, 19] (fun x i => ∃ k : Nat, k ≤ cls.length ∧ i = .int .i64 k ∧ x = .string (clsTo (ty ++ ((⟨#[35]⟩ : ByteArray) ++ id)) cls k)) (fun _ i => cls.length - (intOf i).toNat)
    case atStart => exact ⟨0, Nat.zero_le _, rfl, rfl⟩
    case round =>
      obtain ⟨k, hk, rfl, rfl⟩ := hrel
      by_cases hlt : k < cls.length
      · rcases HR2.out with h | ⟨b, o, rfl, hb, hc⟩
        · rw [h] at hlt; simp at hlt
        have q0 := hc k hlt
        have y0 := wordB_le (HC.out k hlt)
        have y1 := clsTo_lt HC.out z4 hH k hk
        clear hc hb HR2
        go_wp2
        go_round
        case rel => exact ⟨k + 1, by omega, by go_num, rfl⟩
        case measure => simp [intOf]; omega
      · have e : k = cls.length := by omega
        subst e
        clear HR2
        go_wp2
        go_ret
        exact ⟨ret_str HF.out.symm, HW.out⟩
set_option maxHeartbeats 2000000 in
theorem sselT (w : World) (a : Option Addr) (c : Nat) (l : List PD) (hl : l.length ≤ 5) (hs : PsTo l l.length) (hr : Parts w a l) :
    Calls Tryz.prog 29 #[.slice a l.length c] w fun e w' => e = .returned (.string (selT l l.length)) ∧ Nw w w' := by
  have HR : Hid (Parts w a l) := hr
  have HS : Hid (PsTo l l.length) := hs
  clear hr hs
  go_enter Tryz.func29, Tryz.ntmps29
  go_wp2
  go_loopw [3, 8] (fun x i wr => ∃ k : Nat, k ≤ l.length ∧ i = .int .i64 k ∧ x = .string (selT l k) ∧ Nw w wr) (fun _ i _ => l.length - (intOf i).toNat)
  case atStart => exact ⟨0, Nat.zero_le _, rfl, rfl, Below.refl _ _⟩
  case round =>
    obtain ⟨k, hk, rfl, rfl, hw⟩ := hrel
    have HW : Hid (Nw w wr) := hw
    by_cases hlt : k < l.length
    · rcases (HR.out.nw hw) with h | ⟨b, off, rfl, hbk, hc⟩
      · rw [h] at hlt; simp at hlt
      obtain ⟨q0, q1, ⟨qa, qc, q2, qcap, q4⟩⟩ := hc k hlt
      have hz := HS.out k hlt
      have HZ : Hid (partB ⟨(partAt l k).ty, (partAt l k).id, (partAt l k).cls⟩ = true) := hz
      have y1 := selT_size k fun i hi => HS.out i (by omega)
      have y2 : (partT ⟨(partAt l k).ty, (partAt l k).id, (partAt l k).cls⟩).size ≤ 250 := partT_size hz
      have M1 : Hid (Nw wr (wr.alloc (.cells #[.string (partAt l k).ty, .string (partAt l k).id, .slice qa (partAt l k).cls.length qc] 67))) := (Below.refl _ _).alloc (Nat.le_refl _) _
      have Q4 : Hid (Strs (wr.alloc (.cells #[.string (partAt l k).ty, .string (partAt l k).id, .slice qa (partAt l k).cls.length qc] 67)) qa (partAt l k).cls) := q4.nw M1.out
      clear hc hw q4 hz
      by_cases h0 : 0 < k
      · have HF : Hid (selT l (k + 1) = (selT l k ++ (⟨#[32]⟩ : ByteArray)) ++ partT ⟨(partAt l k).ty, (partAt l k).id, (partAt l k).cls⟩) := by show selT l (k + 1) = _; rw [selT, sepT, if_pos h0]
        go_wp2_with (go_at_call 63; refine Calls.mono (spartT _ _ _ _ qa qc HZ.out Q4.out) ?_; rintro e w' ⟨rfl, k1⟩)
        go_roundw
        case rel => exact ⟨k + 1, by omega, by go_num, by rw [HF.out], HW.out.trans (M1.out.trans k1)⟩
        case measure => simp [intOf]; omega
      · have HF : Hid (selT l (k + 1) = selT l k ++ partT ⟨(partAt l k).ty, (partAt l k).id, (partAt l k).cls⟩) := by show selT l (k + 1) = _; rw [selT, sepT, if_neg h0]
        go_wp2_with (go_at_call 63; refine Calls.mono (spartT _ _ _ _ qa qc HZ.out Q4.out) ?_; rintro e w' ⟨rfl, k1⟩)
        go_roundw
        case rel => exact ⟨k + 1, by omega, by go_num, by rw [HF.out], HW.out.trans (M1.out.trans k1)⟩
        case measure => simp [intOf]; omega
    · have e : k = l.length := by omega
      subst e
      clear hw
      go_wp2
      go_ret
      exact ⟨rfl, HW.out⟩
end Go.Proofs.YtnkmdmmlpidcmaaGreatDoor
namespace Go.Proofs.YtnkmdmmlpidcmaaGreatDoor
set_option linter.unusedVariables false

/-- A text cut at the first place where x and y stand one behind the other. -/
def cut2 (x y : UInt8) : List UInt8 → Option (List UInt8 × List UInt8)
  | [] => none
  | a :: r => if a = x ∧ r.head? = some y then some ([], r.tail) else (cut2 x y r).map fun z => (a :: z.1, z.2)
theorem pre2 (x y a : UInt8) (r : List UInt8) : [x, y].isPrefixOf (a :: r) = decide (a = x ∧ r.head? = some y) := by
  cases r with
  | nil => simp [List.isPrefixOf]
  | cons b t =>
    simp only [List.isPrefixOf, List.head?_cons, Option.some.injEq, Bool.and_true]
    rw [Bool.eq_iff_iff, Bool.and_eq_true, beq_iff_eq, beq_iff_eq, decide_eq_true_eq]
    constructor
    · rintro ⟨rfl, rfl⟩; exact ⟨rfl, rfl⟩
    · rintro ⟨rfl, rfl⟩; exact ⟨rfl, rfl⟩
theorem cut2_ix (x y : UInt8) : ∀ l, (∀ p q, cut2 x y l = some (p, q) → l = p ++ x :: y :: q ∧ Lib.index l [x, y] = p.length) ∧ (cut2 x y l = none → Lib.index l [x, y] = -1) := by
  intro l
  induction l with
  | nil => exact ⟨(fun p q h => by cases h), fun _ => rfl⟩
  | cons a r ih =>
    by_cases h : a = x ∧ r.head? = some y
    · have e : cut2 x y (a :: r) = some ([], r.tail) := by rw [cut2, if_pos h]
      have hi : Lib.index (a :: r) [x, y] = 0 := by rw [Lib.index, pre2, if_pos (decide_eq_true h)]
      refine ⟨fun p q hp => ?_, fun hn => by rw [e] at hn; cases hn⟩
      rw [e] at hp
      injection hp with hp
      injection hp with h1 h2
      subst h1 h2
      refine ⟨?_, hi⟩
      cases r with
      | nil => exact absurd h.2 (by simp)
      | cons b t =>
        have := h.2
        simp at this
        rw [h.1, this]; rfl
    · have e : cut2 x y (a :: r) = (cut2 x y r).map fun z => (a :: z.1, z.2) := by rw [cut2, if_neg h]
      have hi : Lib.index (a :: r) [x, y] = if Lib.index r [x, y] == -1 then -1 else Lib.index r [x, y] + 1 := by
        rw [Lib.index, pre2, if_neg (by simpa using h)]
      refine ⟨fun p q hp => ?_, fun hn => ?_⟩
      · rw [e, Option.map_eq_some_iff] at hp
        obtain ⟨⟨p', q'⟩, h1, h2⟩ := hp
        injection h2 with h2 h3
        subst h2 h3
        obtain ⟨g1, g2⟩ := ih.1 p' q' h1
        refine ⟨by rw [List.cons_append, ← g1], ?_⟩
        rw [hi, g2, if_neg (by simp <;> omega)]
        simp
      · rw [e, Option.map_eq_none_iff] at hn
        rw [hi, ih.2 hn]; rfl
theorem cut_cut2 (x y : UInt8) (l : List UInt8) : Lib.cut l [x, y] = match cut2 x y l with | some (p, q) => (p, q, true) | none => (l, [], false) := by
  obtain ⟨h1, h2⟩ := cut2_ix x y l
  unfold Lib.cut
  cases e : cut2 x y l with
  | none => rw [h2 e, if_neg (by decide)]
  | some z =>
    obtain ⟨p, q⟩ := z
    obtain ⟨g1, g2⟩ := h1 p q e
    rw [g2, if_pos (by omega)]
    have e1 : ((p.length : Int)).toNat = p.length := by omega
    rw [e1]
    have e2 : l.take p.length = p := by rw [g1, List.take_left]
    have e3 : l.drop (p.length + [x, y].length) = q := by rw [g1, ← List.drop_drop, List.drop_left]; rfl
    rw [e2, e3]
/-- What stands behind a comment's end. -/
def skipC (l : List UInt8) : List UInt8 := match cut2 42 47 l with | some (_, q) => q | none => []
theorem cut2_len {x y : UInt8} {l p q : List UInt8} (h : cut2 x y l = some (p, q)) : l.length = p.length + 2 + q.length := by
  obtain ⟨g1, _⟩ := (cut2_ix x y l).1 p q h
  rw [g1]; simp; omega
theorem skipC_len (l : List UInt8) : (skipC l).length ≤ l.length := by
  unfold skipC
  cases e : cut2 42 47 l with
  | none => exact Nat.zero_le _
  | some z => obtain ⟨p, q⟩ := z; have := cut2_len e; simp only; omega
def bareF : Nat → List UInt8 → List UInt8
  | 0, _ => []
  | f + 1, l => match cut2 47 42 l with | none => l | some (p, q) => p ++ 32 :: bareF f (skipC q)
theorem bareF_fuel : ∀ (f g : Nat) (l : List UInt8), l.length < f → l.length < g → bareF f l = bareF g l := by
  intro f
  induction f with
  | zero => intro g l h; omega
  | succ f ih =>
    intro g l h1 h2
    cases g with
    | zero => omega
    | succ g =>
      unfold bareF
      cases e : cut2 47 42 l with
      | none => rfl
      | some z =>
        obtain ⟨p, q⟩ := z
        have := cut2_len e
        have h3 := skipC_len q
        simp only
        rw [ih g (skipC q) (by omega) (by omega)]
/-- A text with a blank for each comment. -/
def bareL (l : List UInt8) : List UInt8 := bareF (l.length + 1) l
theorem bareL_miss {l : List UInt8} (h : cut2 47 42 l = none) : bareL l = l := by unfold bareL bareF; rw [h]
theorem bareL_hit {l p q : List UInt8} (h : cut2 47 42 l = some (p, q)) : bareL l = p ++ 32 :: bareL (skipC q) := by
  have h1 := cut2_len h
  have h2 := skipC_len q
  unfold bareL
  conv => lhs; unfold bareF
  rw [h]
  simp only
  rw [bareF_fuel l.length ((skipC q).length + 1) (skipC q) (by omega) (by omega)]
theorem bareL_nil : bareL [] = [] := rfl
/-- Byte by byte. -/
theorem bareL_begin (r : List UInt8) (h : r.head? = some 42) : bareL (47 :: r) = 32 :: bareL (skipC r.tail) := by
  rw [bareL_hit (p := []) (q := r.tail) (by rw [cut2, if_pos ⟨rfl, h⟩])]
  rfl
theorem bareL_step (a : UInt8) (r : List UInt8) (h : ¬ (a = 47 ∧ r.head? = some 42)) : bareL (a :: r) = a :: bareL r := by
  cases e : cut2 47 42 r with
  | none => rw [bareL_miss e, bareL_miss (by rw [cut2, if_neg h, e]; rfl)]
  | some z =>
    obtain ⟨p, q⟩ := z
    rw [bareL_hit e, bareL_hit (p := a :: p) (q := q) (by rw [cut2, if_neg h, e]; rfl)]
    rfl
theorem skipC_end (r : List UInt8) (h : r.head? = some 47) : skipC (42 :: r) = r.tail := by
  unfold skipC
  rw [cut2, if_pos ⟨rfl, h⟩]
theorem skipC_step (a : UInt8) (r : List UInt8) (h : ¬ (a = 42 ∧ r.head? = some 47)) : skipC (a :: r) = skipC r := by
  unfold skipC
  rw [cut2, if_neg h]
  cases cut2 42 47 r with
  | none => rfl
  | some z => rfl
theorem bareL_len : ∀ (n : Nat) (l : List UInt8), l.length ≤ n → (bareL l).length ≤ l.length := by
  intro n
  induction n with
  | zero => intro l h; have : l = [] := List.eq_nil_of_length_eq_zero (by omega); subst this; exact Nat.le_refl _
  | succ n ih =>
    intro l h
    cases e : cut2 47 42 l with
    | none => rw [bareL_miss e]; exact Nat.le_refl _
    | some z =>
      obtain ⟨p, q⟩ := z
      have h1 := cut2_len e
      have h2 := skipC_len q
      have h3 := ih (skipC q) (by omega)
      rw [bareL_hit e]
      simp
      omega
def bareB (s : ByteArray) : ByteArray := bA (bareL s.data.toList)
theorem bareB_size (s : ByteArray) : (bareB s).size ≤ s.size := by
  unfold bareB
  rw [bA_size, ← data_len]
  exact bareL_len _ _ (Nat.le_refl _)
end Go.Proofs.YtnkmdmmlpidcmaaGreatDoor
