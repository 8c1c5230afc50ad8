/-
  The text of a selector, the specification's; each theorem names its conditions.
-/
import Derived.Test.YtegjcllfjndkhaaSel
namespace Go.Proofs.Ytegjcllfjndkhaa
open Go.ChangeShapes Go.WideShapes Go.ChangeAt Go.RowKit
set_option linter.unusedVariables false

theorem ret_str {a b : ByteArray} (h : a = b) : Ending.returned (.string a) = .returned (.string b) := by rw [h]
theorem partB_parts {ty id : ByteArray} {cls : List ByteArray} (h : partB ⟨ty, id, cls⟩ = true) : cls.length ≤ 4 ∧ ClsTo cls cls.length ∧ typeB ty = true ∧ idB id = true ∧ ty.size ≤ 30 ∧ id.size ≤ 30 := by
  unfold partB at h
  simp only [Bool.and_eq_true, decide_eq_true_eq] at h
  obtain ⟨h4, hc, ht, hi, _⟩ := h
  refine ⟨h4, (clsB_iff _).1 hc, ht, hi, ?_, ?_⟩
  · rcases tyWay ty with ⟨e, _⟩ | ⟨e, _⟩ | ⟨_, _, _, e⟩
    · rw [e]; decide
    · rw [e]; decide
    · rw [ht] at e; exact wordB_le e
  · rcases idWay id with ⟨e, _⟩ | ⟨_, _, e⟩
    · rw [e]; decide
    · rw [hi] at e; exact wordB_le e
theorem clsTo_lt {H : ByteArray} {l : List ByteArray} {n : Nat} (h : ClsTo l n) (h4 : n ≤ 4) (hH : H.size ≤ 100) (k : Nat) (hk : k ≤ n) : (clsTo H l k).size ≤ 1000 := by
  have := clsTo_size H l k fun i hi => h i (by omega)
  omega
set_option maxHeartbeats 2000000 in
theorem spartT (w : World) (ty id : ByteArray) (cls : List ByteArray) (a : Option Addr) (c : Nat) (hp : partB ⟨ty, id, cls⟩ = true) (hr : Strs w a cls) :
    Calls Try.prog 19 #[.agg #[.string ty, .string id, .slice a cls.length c]] w fun e w' => e = .returned (.string (partT ⟨ty, id, cls⟩)) ∧ Nw w w' := by
  obtain ⟨z4, hcl, _, _, z1, z2⟩ := partB_parts hp
  have HC : Hid (ClsTo cls cls.length) := hcl
  clear hp hcl
  have hwn : Nw w (w.alloc (.cells #[.string ty, .string id, .slice a cls.length c] 36)) := (Below.refl _ _).alloc (Nat.le_refl _) _
  have HR2 : Hid (Strs (w.alloc (.cells #[.string ty, .string id, .slice a cls.length c] 36)) a cls) := hr.nw hwn
  have HW : Hid (Nw w (w.alloc (.cells #[.string ty, .string id, .slice a cls.length c] 36))) := hwn
  clear hwn hr
  have fin : ∀ H, headT ⟨ty, id, cls⟩ = H → partT ⟨ty, id, cls⟩ = clsTo H cls cls.length := fun H e => by unfold partT; rw [e]
  rcases idWay id with ⟨rfl, _⟩ | ⟨d1, d2, d3⟩
  · have HF : Hid (partT ⟨ty, ⟨#[]⟩, cls⟩ = clsTo ty cls cls.length) := fin _ (headT_no (by simp [ByteArray.toList_eq]))
    clear fin
    have hH : ty.size ≤ 100 := by omega
    go_enter Try.func19, Try.ntmps19
    go_wp2
    go_loop [3, 19] (fun x i => ∃ k : Nat, k ≤ cls.length ∧ i = .int .i64 k ∧ x = .string (clsTo ty cls k)) (fun _ i => cls.length - (intOf i).toNat)
    case atStart => exact ⟨0, Nat.zero_le _, rfl, rfl⟩
    case round =>
      obtain ⟨k, hk, rfl, rfl⟩ := hrel
      by_cases hlt : k < cls.length
      · rcases HR2.out with h | ⟨b, o, rfl, hb, hc⟩
        · rw [h] at hlt; simp at hlt
        have q0 := hc k hlt
        have y0 := wordB_le (HC.out k hlt)
        have y1 := clsTo_lt HC.out z4 hH k hk
        clear hc hb HR2
        go_wp2
        go_round
        case rel => exact ⟨k + 1, by omega, by go_num, rfl⟩
        case measure => simp [intOf]; omega
      · have e : k = cls.length := by omega
        subst e
        clear HR2
        go_wp2
        go_ret
        exact ⟨ret_str HF.out.symm, HW.out⟩
  · have HF : Hid (partT ⟨ty, id, cls⟩ = clsTo (ty ++ ((⟨#[35]⟩ : ByteArray) ++ id)) cls cls.length) := fin _ (headT_yes d2)
    clear fin
    have hH : (ty ++ ((⟨#[35]⟩ : ByteArray) ++ id)).size ≤ 100 := by
      have e : (⟨#[35]⟩ : ByteArray).size = 1 := rfl
      rw [size_app, size_app, e]; omega
    go_enter Try.func19, Try.ntmps19
    go_wp2
    go_loop [3, 19] (fun x i => ∃ k : Nat, k ≤ cls.length ∧ i = .int .i64 k ∧ x = .string (clsTo (ty ++ ((⟨#[35]⟩ : ByteArray) ++ id)) cls k)) (fun _ i => cls.length - (intOf i).toNat)
    case atStart => exact ⟨0, Nat.zero_le _, rfl, rfl⟩
    case round =>
      obtain ⟨k, hk, rfl, rfl⟩ := hrel
      by_cases hlt : k < cls.length
      · rcases HR2.out with h | ⟨b, o, rfl, hb, hc⟩
        · rw [h] at hlt; simp at hlt
        have q0 := hc k hlt
        have y0 := wordB_le (HC.out k hlt)
        have y1 := clsTo_lt HC.out z4 hH k hk
        clear hc hb HR2
        go_wp2
        go_round
        case rel => exact ⟨k + 1, by omega, by go_num, rfl⟩
        case measure => simp [intOf]; omega
      · have e : k = cls.length := by omega
        subst e
        clear HR2
        go_wp2
        go_ret
        exact ⟨ret_str HF.out.symm, HW.out⟩
set_option maxHeartbeats 2000000 in
theorem sselT (w : World) (a : Option Addr) (c : Nat) (l : List PD) (hl : l.length ≤ 5) (hs : PsTo l l.length) (hr : Parts w a l) :
    Calls Try.prog 11 #[.slice a l.length c] w fun e w' => e = .returned (.string (selT l l.length)) ∧ Nw w w' := by
  have HR : Hid (Parts w a l) := hr
  have HS : Hid (PsTo l l.length) := hs
  clear hr hs
  go_enter Try.func11, Try.ntmps11
  go_wp2
  go_loopw [3, 8] (fun x i wr => ∃ k : Nat, k ≤ l.length ∧ i = .int .i64 k ∧ x = .string (selT l k) ∧ Nw w wr) (fun _ i _ => l.length - (intOf i).toNat)
  case atStart => exact ⟨0, Nat.zero_le _, rfl, rfl, Below.refl _ _⟩
  case round =>
    obtain ⟨k, hk, rfl, rfl, hw⟩ := hrel
    have HW : Hid (Nw w wr) := hw
    by_cases hlt : k < l.length
    · rcases (HR.out.nw hw) with h | ⟨b, off, rfl, hbk, hc⟩
      · rw [h] at hlt; simp at hlt
      obtain ⟨q0, q1, ⟨qa, qc, q2, qcap, q4⟩⟩ := hc k hlt
      have hz := HS.out k hlt
      have HZ : Hid (partB ⟨(partAt l k).ty, (partAt l k).id, (partAt l k).cls⟩ = true) := hz
      have y1 := selT_size k fun i hi => HS.out i (by omega)
      have y2 : (partT ⟨(partAt l k).ty, (partAt l k).id, (partAt l k).cls⟩).size ≤ 250 := partT_size hz
      have M1 : Hid (Nw wr (wr.alloc (.cells #[.string (partAt l k).ty, .string (partAt l k).id, .slice qa (partAt l k).cls.length qc] 36))) := (Below.refl _ _).alloc (Nat.le_refl _) _
      have Q4 : Hid (Strs (wr.alloc (.cells #[.string (partAt l k).ty, .string (partAt l k).id, .slice qa (partAt l k).cls.length qc] 36)) qa (partAt l k).cls) := q4.nw M1.out
      clear hc hw q4 hz
      by_cases h0 : 0 < k
      · have HF : Hid (selT l (k + 1) = (selT l k ++ (⟨#[32]⟩ : ByteArray)) ++ partT ⟨(partAt l k).ty, (partAt l k).id, (partAt l k).cls⟩) := by show selT l (k + 1) = _; rw [selT, sepT, if_pos h0]
        go_wp2_with (go_at_call 19; refine Calls.mono (spartT _ _ _ _ qa qc HZ.out Q4.out) ?_; rintro e w' ⟨rfl, k1⟩)
        go_roundw
        case rel => exact ⟨k + 1, by omega, by go_num, by rw [HF.out], HW.out.trans (M1.out.trans k1)⟩
        case measure => simp [intOf]; omega
      · have HF : Hid (selT l (k + 1) = selT l k ++ partT ⟨(partAt l k).ty, (partAt l k).id, (partAt l k).cls⟩) := by show selT l (k + 1) = _; rw [selT, sepT, if_neg h0]
        go_wp2_with (go_at_call 19; refine Calls.mono (spartT _ _ _ _ qa qc HZ.out Q4.out) ?_; rintro e w' ⟨rfl, k1⟩)
        go_roundw
        case rel => exact ⟨k + 1, by omega, by go_num, by rw [HF.out], HW.out.trans (M1.out.trans k1)⟩
        case measure => simp [intOf]; omega
    · have e : k = l.length := by omega
      subst e
      clear hw
      go_wp2
      go_ret
      exact ⟨rfl, HW.out⟩
/-- What SelectorText answers. -/
def selAns (l : List PD) : Value := if selB l then .tuple #[.string (selT l l.length), .bool true] else .tuple #[.string ⟨#[]⟩, .bool false]
theorem selAns_yes {l : List PD} (h : selB l = true) : selAns l = .tuple #[.string (selT l l.length), .bool true] := by unfold selAns; rw [h]; rfl
theorem selAns_no {l : List PD} (h : selB l = false) : selAns l = .tuple #[.string ⟨#[]⟩, .bool false] := by unfold selAns; rw [h]; rfl
theorem sselectorText (w : World) (a : Option Addr) (c : Nat) (l : List PD) (hl : l.length ≤ 1048576) (hs : smallPs l) (hr : Parts w a l) :
    Calls Try.prog 5 #[.slice a l.length c] w fun e w' => e = .returned (selAns l) ∧ Nw w w' := by
  have HR : Hid (Parts w a l) := hr
  have HS : Hid (smallPs l) := hs
  clear hr hs
  by_cases h : selB l = true
  · have HX : Hid (selAns l = .tuple #[.string (selT l l.length), .bool true]) := selAns_yes h
    have hg : Hid ((1 ≤ l.length ∧ l.length ≤ 5) ∧ PsTo l l.length) := (selB_iff l).1 h
    go_enter Try.func5, Try.ntmps5
    go_wp2_with (first | (go_at_call 10; refine Calls.mono (sgoodSel _ _ _ l hl HS.out HR.out) ?_; rw [h]; rintro e w1 ⟨rfl, k1⟩) | (go_at_call 11; refine Calls.mono (sselT _ _ _ l hg.out.1.2 hg.out.2 (HR.out.nw k1)) ?_; rintro e w2 ⟨rfl, k2⟩))
    go_ret2
    exact ⟨by rw [HX.out]; rfl, k1.trans k2⟩
  · have h' : selB l = false := by simpa using h
    have HX : Hid (selAns l = .tuple #[.string ⟨#[]⟩, .bool false]) := selAns_no h'
    go_enter Try.func5, Try.ntmps5
    go_wp2_with (go_at_call 10; refine Calls.mono (sgoodSel _ _ _ l hl HS.out HR.out) ?_; rw [h']; rintro e w1 ⟨rfl, k1⟩)
    go_ret2
    exact ⟨by rw [HX.out]; rfl, k1⟩
end Go.Proofs.Ytegjcllfjndkhaa
