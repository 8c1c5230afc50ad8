/-
  Selectors that are good: the program's looks and the specification's; each theorem names its conditions.
-/
import Derived.Test.YtaeepbjdhcbofaaDoorPart
namespace Go.Proofs.YtaeepbjdhcbofaaDoor
open Go.ChangeShapes Go.WideShapes Go.ChangeAt Go.RowKit
set_option linter.unusedVariables false

def PsTo (l : List PD) (k : Nat) : Prop := ∀ i, i < k → partB (partAt l i) = true
theorem PsTo.step {l : List PD} {k : Nat} (h : PsTo l k) (e : partB (partAt l k) = true) : PsTo l (k + 1) := by
  intro i hi
  by_cases c : i = k
  · subst c; exact e
  · exact h i (by omega)
def selB (l : List PD) : Bool := decide (1 ≤ l.length ∧ l.length ≤ 5) && (List.range l.length).all fun i => partB (partAt l i)
theorem selB_iff (l : List PD) : selB l = true ↔ (1 ≤ l.length ∧ l.length ≤ 5) ∧ PsTo l l.length := by
  unfold selB PsTo
  rw [Bool.and_eq_true, decide_eq_true_eq, List.all_eq_true]
  simp only [List.mem_range]
theorem selB_no {l : List PD} (h : ¬ ((1 ≤ l.length ∧ l.length ≤ 5) ∧ PsTo l l.length)) : selB l = false := by
  cases e : selB l with
  | false => rfl
  | true => exact absurd ((selB_iff l).1 e) h
def smallPs (l : List PD) : Prop := ∀ i, i < l.length → smallP (partAt l i)
set_option maxHeartbeats 2000000 in
theorem igoodSel (w : World) (a : Option Addr) (c : Nat) (l : List PD) (hl : l.length ≤ 1048576) (hs : smallPs l) (hr : Parts w a l) :
    Calls Tryd.prog 22 #[.slice a l.length c] w fun e w' => e = .returned (.bool (selB l)) ∧ Nw w w' := by
  have HR : Hid (Parts w a l) := hr
  have HS : Hid (smallPs l) := hs
  clear hr hs
  by_cases h1 : 1 ≤ l.length ∧ l.length ≤ 5
  · obtain ⟨h1, h5⟩ := h1
    have hz : ((l.length : Int) == 0) = false := beq_eq_false_iff_ne.2 (by omega)
    go_enter Tryd.func22, Tryd.ntmps22
    go_wp2
    go_loopw [15] (fun i wr => ∃ k : Nat, k ≤ l.length ∧ i = .int .i64 k ∧ PsTo l k ∧ Nw w wr) (fun i _ => l.length - (intOf i).toNat)
    case atStart => exact ⟨0, Nat.zero_le _, rfl, fun i hi => absurd hi (by omega), Below.refl _ _⟩
    case round =>
      obtain ⟨k, hk, rfl, hto, hw⟩ := hrel
      have HO : Hid (PsTo l k) := hto
      have HW : Hid (Nw w wr) := hw
      clear hto
      by_cases hlt : k < l.length
      · rcases (HR.out.nw hw) with h | ⟨b, off, rfl, hbk, hc⟩
        · rw [h] at hlt; simp at hlt
        obtain ⟨q0, q1, ⟨qa, qc, q2, qcap, q4⟩⟩ := hc k hlt
        have hz := HS.out k hlt
        have hpe : partAt l k = ⟨(partAt l k).ty, (partAt l k).id, (partAt l k).cls⟩ := rfl
        have HZ : Hid (smallP ⟨(partAt l k).ty, (partAt l k).id, (partAt l k).cls⟩) := hz
        have M1 : Hid (Nw wr (wr.alloc (.cells #[.string (partAt l k).ty, .string (partAt l k).id, .slice qa (partAt l k).cls.length qc] 49))) := (Below.refl _ _).alloc (Nat.le_refl _) _
        have Q4 : Hid (Strs (wr.alloc (.cells #[.string (partAt l k).ty, .string (partAt l k).id, .slice qa (partAt l k).cls.length qc] 49)) qa (partAt l k).cls) := q4.nw M1.out
        clear hc hw q4 hz
        by_cases hp : partB (partAt l k) = true
        · have HK : Hid (partB (partAt l k) = true) := hp
          have hp2 : partB ⟨(partAt l k).ty, (partAt l k).id, (partAt l k).cls⟩ = true := hp
          clear hp hpe
          go_wp2_with (go_at_call 41; refine Calls.mono (igoodPart _ _ _ _ qa qc HZ.out Q4.out) ?_; rw [hp2]; rintro e w' ⟨rfl, k1⟩)
          go_roundw
          case rel => exact ⟨k + 1, by omega, by go_num, HO.out.step HK.out, HW.out.trans (M1.out.trans k1)⟩
          case measure => simp [intOf]; omega
        · have hp2 : partB ⟨(partAt l k).ty, (partAt l k).id, (partAt l k).cls⟩ = false := by simpa using hp
          have HX : Hid (selB l = false) := selB_no fun h => hp (h.2 k hlt)
          clear hp hpe
          go_wp2_with (go_at_call 41; refine Calls.mono (igoodPart _ _ _ _ qa qc HZ.out Q4.out) ?_; rw [hp2]; rintro e w' ⟨rfl, k1⟩)
          go_ret
          exact ⟨ret_bool HX.out.symm, HW.out.trans (M1.out.trans k1)⟩
      · have HX : Hid (selB l = true) := (selB_iff l).2 ⟨⟨h1, h5⟩, fun i hi => HO.out i (by omega)⟩
        clear hw
        go_wp2
        go_ret
        exact ⟨ret_bool HX.out.symm, HW.out⟩
  · have HX : Hid (selB l = false) := selB_no fun h => h1 h.1
    clear HR HS
    by_cases h0 : l.length = 0
    · have hz : ((l.length : Int) == 0) = true := by simp [h0]
      clear h1 h0
      go_enter Tryd.func22, Tryd.ntmps22
      go_wp2
      go_ret
      exact ⟨ret_bool HX.out.symm, Below.refl _ _⟩
    · have hz : ((l.length : Int) == 0) = false := beq_eq_false_iff_ne.2 (by omega)
      have h5 : 5 < (l.length : Int) := by omega
      clear h1 h0
      go_enter Tryd.func22, Tryd.ntmps22
      go_wp2
      go_ret
      exact ⟨ret_bool HX.out.symm, Below.refl _ _⟩
set_option maxHeartbeats 2000000 in
theorem sgoodSel (w : World) (a : Option Addr) (c : Nat) (l : List PD) (hl : l.length ≤ 1048576) (hs : smallPs l) (hr : Parts w a l) :
    Calls Tryd.prog 16 #[.slice a l.length c] w fun e w' => e = .returned (.bool (selB l)) ∧ Nw w w' := by
  have HR : Hid (Parts w a l) := hr
  have HS : Hid (smallPs l) := hs
  clear hr hs
  by_cases h1 : 1 ≤ l.length ∧ l.length ≤ 5
  · have hd : decide ((1 : Int) ≤ (l.length : Int) ∧ (l.length : Int) ≤ 5) = true := by simp; omega
    go_enter Tryd.func16, Tryd.ntmps16
    go_wp2_with (go_at_call 28; refine (in_any _ _ _ _).mono ?_; rw [hd]; rintro e w' ⟨rfl, hq⟩; have hq2 := hq.symm; clear hq; subst hq2)
    go_loopw [11] (fun i wr => ∃ k : Nat, k ≤ l.length ∧ i = .int .i64 k ∧ PsTo l k ∧ Nw w wr) (fun i _ => l.length - (intOf i).toNat)
    case atStart => exact ⟨0, Nat.zero_le _, rfl, fun i hi => absurd hi (by omega), Below.refl _ _⟩
    case round =>
      obtain ⟨k, hk, rfl, hto, hw⟩ := hrel
      have HO : Hid (PsTo l k) := hto
      have HW : Hid (Nw w wr) := hw
      clear hto
      by_cases hlt : k < l.length
      · rcases (HR.out.nw hw) with h | ⟨b, off, rfl, hbk, hc⟩
        · rw [h] at hlt; simp at hlt
        obtain ⟨q0, q1, ⟨qa, qc, q2, qcap, q4⟩⟩ := hc k hlt
        have hz := HS.out k hlt
        have HZ : Hid (smallP ⟨(partAt l k).ty, (partAt l k).id, (partAt l k).cls⟩) := hz
        have M1 : Hid (Nw wr (wr.alloc (.cells #[.string (partAt l k).ty, .string (partAt l k).id, .slice qa (partAt l k).cls.length qc] 49))) := (Below.refl _ _).alloc (Nat.le_refl _) _
        have Q4 : Hid (Strs (wr.alloc (.cells #[.string (partAt l k).ty, .string (partAt l k).id, .slice qa (partAt l k).cls.length qc] 49)) qa (partAt l k).cls) := q4.nw M1.out
        clear hc hw q4 hz
        by_cases hp : partB (partAt l k) = true
        · have HK : Hid (partB (partAt l k) = true) := hp
          have hp2 : partB ⟨(partAt l k).ty, (partAt l k).id, (partAt l k).cls⟩ = true := hp
          clear hp
          go_wp2_with (go_at_call 33; refine Calls.mono (sgoodPart _ _ _ _ qa qc HZ.out Q4.out) ?_; rw [hp2]; rintro e w' ⟨rfl, k1⟩)
          go_roundw
          case rel => exact ⟨k + 1, by omega, by go_num, HO.out.step HK.out, HW.out.trans (M1.out.trans k1)⟩
          case measure => simp [intOf]; omega
        · have hp2 : partB ⟨(partAt l k).ty, (partAt l k).id, (partAt l k).cls⟩ = false := by simpa using hp
          have HX : Hid (selB l = false) := selB_no fun h => hp (h.2 k hlt)
          clear hp
          go_wp2_with (go_at_call 33; refine Calls.mono (sgoodPart _ _ _ _ qa qc HZ.out Q4.out) ?_; rw [hp2]; rintro e w' ⟨rfl, k1⟩)
          go_ret
          exact ⟨ret_bool HX.out.symm, HW.out.trans (M1.out.trans k1)⟩
      · have HX : Hid (selB l = true) := (selB_iff l).2 ⟨h1, fun i hi => HO.out i (by omega)⟩
        clear hw h1
        go_wp2
        go_ret
        exact ⟨ret_bool HX.out.symm, HW.out⟩
  · have HX : Hid (selB l = false) := selB_no fun h => h1 h.1
    have hd : decide ((1 : Int) ≤ (l.length : Int) ∧ (l.length : Int) ≤ 5) = false := by simp; omega
    clear HR HS h1
    go_enter Tryd.func16, Tryd.ntmps16
    go_wp2_with (go_at_call 28; refine (in_any _ _ _ _).mono ?_; rw [hd]; rintro e w' ⟨rfl, hq⟩; have hq2 := hq.symm; clear hq; subst hq2)
    go_ret
    exact ⟨ret_bool HX.out.symm, Below.refl _ _⟩

/-! ### Texts -/
/-- A head with the first k classes behind it. -/
def clsTo (h : ByteArray) (l : List ByteArray) : Nat → ByteArray
  | 0 => h
  | k + 1 => clsTo h l k ++ ((⟨#[46]⟩ : ByteArray) ++ strAt l k)
def headT (p : PD) : ByteArray := if p.id.toList.isEmpty then p.ty else p.ty ++ ((⟨#[35]⟩ : ByteArray) ++ p.id)
def partT (p : PD) : ByteArray := clsTo (headT p) p.cls p.cls.length
def sepT (t : ByteArray) (k : Nat) : ByteArray := if 0 < k then t ++ (⟨#[32]⟩ : ByteArray) else t
/-- The first k parts, with blanks between. -/
def selT (l : List PD) : Nat → ByteArray
  | 0 => ⟨#[]⟩
  | k + 1 => sepT (selT l k) k ++ partT (partAt l k)
theorem headT_no {ty id : ByteArray} {cls : List ByteArray} (h : id.toList.isEmpty = true) : headT ⟨ty, id, cls⟩ = ty := by unfold headT; simp only; rw [h]; rfl
theorem headT_yes {ty id : ByteArray} {cls : List ByteArray} (h : id.toList.isEmpty = false) : headT ⟨ty, id, cls⟩ = ty ++ ((⟨#[35]⟩ : ByteArray) ++ id) := by unfold headT; simp only; rw [h]; rfl
theorem wordB_le {s : ByteArray} (h : wordB s = true) : s.size ≤ 30 := ((wordB_iff s).1 h).1.2
theorem size_app (a b : ByteArray) : (a ++ b).size = a.size + b.size := by simp
theorem clsTo_size (h : ByteArray) (l : List ByteArray) : ∀ k, ClsTo l k → (clsTo h l k).size ≤ h.size + 31 * k
  | 0, _ => by simp [clsTo]
  | k + 1, hk => by
    have := clsTo_size h l k fun i hi => hk i (by omega)
    have h1 := wordB_le (hk k (by omega))
    rw [clsTo, size_app, size_app]
    have e : (⟨#[46]⟩ : ByteArray).size = 1 := rfl
    rw [e]; omega
theorem partT_size {p : PD} (h : partB p = true) : (partT p).size ≤ 250 := by
  unfold partB at h
  simp only [Bool.and_eq_true, decide_eq_true_eq] at h
  obtain ⟨h4, hc, ht, hi, _⟩ := h
  have h1 := clsTo_size (headT p) p.cls p.cls.length ((clsB_iff _).1 hc)
  have e1 : p.ty.size ≤ 30 := by
    rcases tyWay p.ty with ⟨e, _⟩ | ⟨e, _⟩ | ⟨_, _, _, e⟩
    · rw [e]; decide
    · rw [e]; decide
    · rw [ht] at e; exact wordB_le e
  have e2 : p.id.size ≤ 30 := by
    rcases idWay p.id with ⟨e, _⟩ | ⟨_, _, e⟩
    · rw [e]; decide
    · rw [hi] at e; exact wordB_le e
  have e3 : (headT p).size ≤ 61 := by
    unfold headT
    split
    · omega
    · rw [size_app, size_app]
      have e : (⟨#[35]⟩ : ByteArray).size = 1 := rfl
      rw [e]; omega
  unfold partT
  omega
theorem sepT_size (t : ByteArray) (k : Nat) : t.size ≤ (sepT t k).size ∧ (sepT t k).size ≤ t.size + 1 := by
  unfold sepT
  split
  · rw [size_app]
    have e : (⟨#[32]⟩ : ByteArray).size = 1 := rfl
    rw [e]; omega
  · omega
theorem selT_size {l : List PD} : ∀ k, PsTo l k → (selT l k).size ≤ 251 * k
  | 0, _ => Nat.zero_le _
  | k + 1, hk => by
    have h1 := selT_size k fun i hi => hk i (by omega)
    have h2 := partT_size (hk k (by omega))
    have h3 := sepT_size (selT l k) k
    rw [selT, size_app]
    omega
end Go.Proofs.YtaeepbjdhcbofaaDoor
