/-
  Parts that are good: the program's looks and the specification's; each theorem names its conditions.
-/
import Derived.Test.YtnkmdmmlpidcmaaDoorPsS
import Derived.Test.YtnkmdmmlpidcmaaDoorWord
namespace Go.Proofs.YtnkmdmmlpidcmaaDoor
open Go.ChangeShapes Go.WideShapes Go.ChangeAt Go.RowKit
set_option linter.unusedVariables false

def typeB (t : ByteArray) : Bool := t.toList.isEmpty || (t.toList == [42]) || wordB t
def idB (t : ByteArray) : Bool := t.toList.isEmpty || wordB t
def ClsTo (l : List ByteArray) (k : Nat) : Prop := ∀ i, i < k → wordB (strAt l i) = true
def clsB (l : List ByteArray) : Bool := (List.range l.length).all fun i => wordB (strAt l i)
theorem clsB_iff (l : List ByteArray) : clsB l = true ↔ ClsTo l l.length := by
  unfold clsB ClsTo
  rw [List.all_eq_true]
  simp only [List.mem_range]
theorem ClsTo.step {l : List ByteArray} {k : Nat} (h : ClsTo l k) (e : wordB (strAt l k) = true) : ClsTo l (k + 1) := by
  intro i hi
  by_cases c : i = k
  · subst c; exact e
  · exact h i (by omega)
theorem clsB_no {l : List ByteArray} {k : Nat} (hk : k < l.length) (e : wordB (strAt l k) = false) : clsB l = false := by
  cases h : clsB l with
  | false => rfl
  | true => have := (clsB_iff l).1 h k hk; rw [e] at this; cases this
def someB (p : PD) : Bool := !p.ty.toList.isEmpty || !p.id.toList.isEmpty || decide (0 < p.cls.length)
def partB (p : PD) : Bool := decide (p.cls.length ≤ 4) && (clsB p.cls && (typeB p.ty && (idB p.id && someB p)))
structure smallP (p : PD) : Prop where
  ty : p.ty.size ≤ 1048576
  id : p.id.size ≤ 1048576
  len : p.cls.length ≤ 1048576
  cls : ∀ i, i < p.cls.length → (strAt p.cls i).size ≤ 1048576
/-- The four ways of a type. -/
def TyWay (t : ByteArray) (b : Bool) : Prop := (t = ⟨#[]⟩ ∧ b = true) ∨ (t = ⟨#[42]⟩ ∧ b = true) ∨ ((¬ t.toList = []) ∧ t.toList.isEmpty = false ∧ (t.toList == [42]) = false ∧ wordB t = b)
theorem tyWay (t : ByteArray) : TyWay t (typeB t) := by
  by_cases h0 : t.size = 0
  · obtain rfl := empty_of h0
    exact Or.inl ⟨rfl, by simp [typeB, ByteArray.toList_eq]⟩
  · have n1 := ne_nil (s := t) (by omega)
    have n2 := ne_emp (s := t) (by omega)
    by_cases h1 : t = ⟨#[42]⟩
    · subst h1
      exact Or.inr (Or.inl ⟨rfl, by simp [typeB, ByteArray.toList_eq]⟩)
    · have n3 : (t.toList == [42]) = false := by
        have e : ([42] : List UInt8) = (⟨#[42]⟩ : ByteArray).toList := by rw [ByteArray.toList_eq]
        rw [e]
        exact (Lib.bytes_beq_false_iff _ _).2 h1
      refine Or.inr (Or.inr ⟨n1, n2, n3, ?_⟩)
      unfold typeB
      rw [n2, n3]; simp
def IdWay (t : ByteArray) (b : Bool) : Prop := (t = ⟨#[]⟩ ∧ b = true) ∨ ((¬ t.toList = []) ∧ t.toList.isEmpty = false ∧ wordB t = b)
theorem idWay (t : ByteArray) : IdWay t (idB t) := by
  by_cases h0 : t.size = 0
  · obtain rfl := empty_of h0
    exact Or.inl ⟨rfl, by simp [idB, ByteArray.toList_eq]⟩
  · have n1 := ne_nil (s := t) (by omega)
    have n2 := ne_emp (s := t) (by omega)
    refine Or.inr ⟨n1, n2, ?_⟩
    unfold idB
    rw [n2]; simp

set_option maxHeartbeats 8000000 in
theorem igoodPart (w : World) (ty id : ByteArray) (cls : List ByteArray) (a : Option Addr) (c : Nat) (hz : smallP ⟨ty, id, cls⟩) (hr : Strs w a cls) :
    Calls Tryd.prog 64 #[.agg #[.string ty, .string id, .slice a cls.length c]] w fun e w' => e = .returned (.bool (partB ⟨ty, id, cls⟩)) ∧ Nw w w' := by
  obtain ⟨z1, z2, z3, z4⟩ := hz
  simp only at z1 z2 z3 z4
  have HR : Hid (Strs w a cls) := hr
  have HZ : Hid (∀ i, i < cls.length → (strAt cls i).size ≤ 1048576) := z4
  clear hr z4
  by_cases h4 : cls.length ≤ 4
  · go_enter Tryd.func64, Tryd.ntmps64
    go_wp2
    go_loopw [15] (fun i wr => ∃ k : Nat, k ≤ cls.length ∧ i = .int .i64 k ∧ ClsTo cls k ∧ Nw w wr ∧ w.heap.size < wr.heap.size ∧ wr.cell? ⟨w.heap.size, 0, none⟩ = some (.string ty) ∧ wr.cell? ⟨w.heap.size, 1, none⟩ = some (.string id) ∧ wr.cell? ⟨w.heap.size, 2, none⟩ = some (.slice a cls.length c)) (fun i _ => cls.length - (intOf i).toNat)
    case atStart => exact ⟨0, Nat.zero_le _, rfl, fun i hi => absurd hi (by omega), (Below.refl _ _).alloc (Nat.le_refl _) _, by simp, by simp, by simp, by simp⟩
    case round =>
      obtain ⟨k, hk, rfl, hto, hw, hbx, c0, c1, c2⟩ := hrel
      have HO : Hid (ClsTo cls k) := hto
      have HW : Hid (Nw w wr) := hw
      clear hto
      by_cases hlt : k < cls.length
      · rcases (HR.out.nw hw) with h | ⟨b, o, rfl, hb, hc⟩
        · rw [h] at hlt; simp at hlt
        have q0 := hc k hlt
        have y1 := HZ.out k hlt
        clear hc hw
        by_cases hwd : wordB (strAt cls k) = true
        · have HK : Hid (wordB (strAt cls k) = true) := hwd
          have C0 : Hid (wr.cell? ⟨w.heap.size, 0, none⟩ = some (.string ty) ∧ wr.cell? ⟨w.heap.size, 1, none⟩ = some (.string id) ∧ wr.cell? ⟨w.heap.size, 2, none⟩ = some (.slice (some ⟨b, o, none⟩) cls.length c)) := ⟨c0, c1, c2⟩
          clear c0 c1 c2
          go_wp2_with (go_at_call 94; refine (iword _ _ y1).mono ?_; rw [hwd]; rintro e w' ⟨rfl, k1⟩)
          go_roundw
          case rel =>
            obtain ⟨hc, _⟩ := bcell k1
            exact ⟨k + 1, by omega, by go_num, HO.out.step HK.out, HW.out.trans k1, Nat.lt_of_lt_of_le hbx (Below.size k1), (hc _ _ hbx).trans C0.out.1, (hc _ _ hbx).trans C0.out.2.1, (hc _ _ hbx).trans C0.out.2.2⟩
          case measure => simp [intOf]; omega
        · have hwd' : wordB (strAt cls k) = false := by simpa using hwd
          have HX : Hid (partB ⟨ty, id, cls⟩ = false) := by show partB _ = false; unfold partB; rw [clsB_no hlt hwd']; simp
          clear c0 c1 c2
          go_wp2_with (go_at_call 94; refine (iword _ _ y1).mono ?_; rw [hwd']; rintro e w' ⟨rfl, k1⟩)
          go_ret
          exact ⟨ret_bool HX.out.symm, HW.out.trans k1⟩
      · have hcl : clsB cls = true := (clsB_iff cls).2 fun i hi => HO.out i (by omega)
        have HP : Hid (partB ⟨ty, id, cls⟩ = (typeB ty && (idB id && someB ⟨ty, id, cls⟩))) := by
          show partB _ = _
          unfold partB; simp only; rw [hcl]; simp [h4]
        clear hcl hw
        have ht := tyWay ty
        have hd := idWay id
        unfold someB at HP
        simp only at HP
        generalize typeB ty = tb at *
        generalize idB id = ib at *
        rcases ht with ⟨rfl, rfl⟩ | ⟨rfl, rfl⟩ | ⟨t1, t2, t3, rfl⟩
        all_goals rcases hd with ⟨rfl, rfl⟩ | ⟨d1, d2, rfl⟩
        all_goals
          have hp := HP.out
          try rw [t2] at hp
          try rw [d2] at hp
          simp [ByteArray.toList_eq] at hp
          have HP2 : Hid _ := hp
          clear hp HP
          go_wp2_with (go_at_call 94; refine (iword _ _ (by assumption)).mono ?_; rintro e w' ⟨rfl, k1⟩; obtain ⟨hc, hf⟩ := bcell k1; first | (have hb2 := Nat.lt_of_lt_of_le hb1 (Below.size k1); have HM2 : Hid (Nw w w') := HM.out.trans k1) | (have hb1 := Nat.lt_of_lt_of_le hbx (Below.size k1); have HM : Hid (Nw w w') := HW.out.trans k1))
          all_goals
            go_ret
            refine ⟨ret_bool ?_, by first | exact HM2.out | exact HM.out | exact HW.out⟩
            rw [HP2.out]
            first | rfl | (simp; done) | (rename_i hq; simp [hq]; done) | (rename_i hq1 hq2; simp [hq1, hq2]; done) | trace_state
  · have HX : Hid (partB ⟨ty, id, cls⟩ = false) := by show partB _ = false; unfold partB; simp only; rw [decide_eq_false h4]; simp
    go_enter Tryd.func64, Tryd.ntmps64
    go_wp2
    go_ret
    exact ⟨ret_bool HX.out.symm, (Below.refl _ _).alloc (Nat.le_refl _) _⟩

set_option maxHeartbeats 8000000 in
theorem sgoodPart (w : World) (ty id : ByteArray) (cls : List ByteArray) (a : Option Addr) (c : Nat) (hz : smallP ⟨ty, id, cls⟩) (hr : Strs w a cls) :
    Calls Tryd.prog 69 #[.agg #[.string ty, .string id, .slice a cls.length c]] w fun e w' => e = .returned (.bool (partB ⟨ty, id, cls⟩)) ∧ Nw w w' := by
  obtain ⟨z1, z2, z3, z4⟩ := hz
  simp only at z1 z2 z3 z4
  have HR : Hid (Strs w a cls) := hr
  have HZ : Hid (∀ i, i < cls.length → (strAt cls i).size ≤ 1048576) := z4
  clear hr z4
  have ht := tyWay ty
  have hd := idWay id
  by_cases bt : typeB ty = true
  · by_cases bi : idB id = true
    · by_cases h4 : cls.length ≤ 4
      · have HP : Hid (partB ⟨ty, id, cls⟩ = (clsB cls && someB ⟨ty, id, cls⟩)) := by
          show partB _ = _
          unfold partB; simp only; rw [bt, bi]; simp [h4]
        rw [bt] at ht
        rw [bi] at hd
        unfold someB at HP
        simp only at HP
        clear bt bi
        have hwn : Nw w (w.alloc (.cells #[.string ty, .string id, .slice a cls.length c] 56)) := (Below.refl _ _).alloc (Nat.le_refl _) _
        have HR2 : Hid (Strs (w.alloc (.cells #[.string ty, .string id, .slice a cls.length c] 56)) a cls) := HR.out.nw hwn
        have HW : Hid (Nw w (w.alloc (.cells #[.string ty, .string id, .slice a cls.length c] 56))) := hwn
        clear hwn HR
        rcases ht with ⟨rfl, _⟩ | ⟨rfl, _⟩ | ⟨t1, t2, t3, t4⟩
        all_goals rcases hd with ⟨rfl, _⟩ | ⟨d1, d2, d3⟩
        all_goals
          have hp := HP.out
          try rw [t2] at hp
          try rw [d2] at hp
          simp [ByteArray.toList_eq] at hp
          have HP2 : Hid _ := hp
          clear hp HP
          go_enter Tryd.func69, Tryd.ntmps69
          go_wp2_with (go_at_call 71; refine (sword _ _ (by assumption)).mono ?_; (first | rw [t4] | rw [d3]); rintro e w' ⟨rfl, rfl⟩)
          go_loop [39] (fun i => ∃ k : Nat, k ≤ cls.length ∧ i = .int .i64 k ∧ ClsTo cls k) (fun i => cls.length - (intOf i).toNat)
          case atStart => exact ⟨0, Nat.zero_le _, rfl, fun i hi => absurd hi (by omega)⟩
          case round =>
            obtain ⟨k, hk, rfl, hto⟩ := hrel
            have HO : Hid (ClsTo cls k) := hto
            clear hto
            by_cases hlt : k < cls.length
            · rcases HR2.out with h | ⟨b, o, rfl, hb, hc⟩
              · rw [h] at hlt; simp at hlt
              have q0 := hc k hlt
              have y1 := HZ.out k hlt
              clear hc hb HR2
              by_cases hwd : wordB (strAt cls k) = true
              · have HK : Hid (wordB (strAt cls k) = true) := hwd
                go_wp2_with (go_at_call 71; refine (sword _ _ y1).mono ?_; rw [hwd]; rintro e w' ⟨rfl, rfl⟩)
                go_round
                case rel => exact ⟨k + 1, by omega, by go_num, HO.out.step HK.out⟩
                case measure => simp [intOf]; omega
              · have hwd' : wordB (strAt cls k) = false := by simpa using hwd
                go_wp2_with (go_at_call 71; refine (sword _ _ y1).mono ?_; rw [hwd']; rintro e w' ⟨rfl, rfl⟩)
                go_ret
                exact ⟨ret_bool (by rw [HP2.out, clsB_no hlt hwd']; first | done | simp), HW.out⟩
            · have HX : Hid (clsB cls = true) := (clsB_iff cls).2 fun i hi => HO.out i (by omega)
              clear HR2
              go_wp2
              all_goals
                go_ret
                refine ⟨ret_bool ?_, HW.out⟩
                rw [HP2.out, HX.out]
                first | rfl | (simp; done) | (rename_i hq; simp [hq]; done) | trace_state
      · have HX : Hid (partB ⟨ty, id, cls⟩ = false) := by
          show partB _ = false
          unfold partB; simp only; rw [decide_eq_false h4]; simp
        rw [bt] at ht
        rw [bi] at hd
        clear HR HZ bt bi
        rcases ht with ⟨rfl, _⟩ | ⟨rfl, _⟩ | ⟨t1, t2, t3, t4⟩
        all_goals rcases hd with ⟨rfl, _⟩ | ⟨d1, d2, d3⟩
        all_goals
          go_enter Tryd.func69, Tryd.ntmps69
          go_wp2_with (go_at_call 71; refine (sword _ _ (by assumption)).mono ?_; (first | rw [t4] | rw [d3]); rintro e w' ⟨rfl, rfl⟩)
          go_ret
          exact ⟨ret_bool HX.out.symm, (Below.refl _ _).alloc (Nat.le_refl _) _⟩
    · have bi' : idB id = false := by simpa using bi
      have HX : Hid (partB ⟨ty, id, cls⟩ = false) := by
        show partB _ = false
        unfold partB; simp only; rw [bi']; simp
      rw [bt] at ht
      rw [bi'] at hd
      clear HR HZ bt bi bi'
      rcases hd with ⟨_, h⟩ | ⟨d1, d2, d3⟩
      · cases h
      rcases ht with ⟨rfl, _⟩ | ⟨rfl, _⟩ | ⟨t1, t2, t3, t4⟩
      all_goals
        go_enter Tryd.func69, Tryd.ntmps69
        go_wp2_with (go_at_call 71; refine (sword _ _ (by assumption)).mono ?_; (first | rw [t4] | rw [d3]); rintro e w' ⟨rfl, rfl⟩)
        go_ret
        exact ⟨ret_bool HX.out.symm, (Below.refl _ _).alloc (Nat.le_refl _) _⟩
  · have bt' : typeB ty = false := by simpa using bt
    have HX : Hid (partB ⟨ty, id, cls⟩ = false) := by
      show partB _ = false
      unfold partB; simp only; rw [bt']; simp
    rw [bt'] at ht
    clear HR HZ bt bt' hd
    rcases ht with ⟨_, h⟩ | ⟨_, h⟩ | ⟨t1, t2, t3, t4⟩
    · cases h
    · cases h
    go_enter Tryd.func69, Tryd.ntmps69
    go_wp2_with (go_at_call 71; refine (sword _ _ (by assumption)).mono ?_; rw [t4]; rintro e w' ⟨rfl, rfl⟩)
    go_ret
    exact ⟨ret_bool HX.out.symm, (Below.refl _ _).alloc (Nat.le_refl _) _⟩
end Go.Proofs.YtnkmdmmlpidcmaaDoor
