/-
  What the library's Index, Cut, Count and Split answer at a separator of one byte, for texts of at most 1048576 bytes.
  A declaration read by the program; each theorem names its conditions.
  An element with memory of its own appended to a row; each theorem names its conditions.
  Rows of declarations, and what the laws' helpers do with them; each theorem names its conditions.
-/
import Derived.Test.YtnkmdmmlpidcmaaGreatDoorJAE
import Derived.Test.YtnkmdmmlpidcmaaGreatDoorJAC
import Derived.Lib.Bytealg
import Derived.Test.YtnkmdmmlpidcmaaGreatDoorJAF
import Derived.Lib.Case
import Derived.Test.YtnkmdmmlpidcmaaGreatDoorJAB
import Derived.Test.YtnkmdmmlpidcmaaGreatDoorJAD
namespace Go.Proofs.YtnkmdmmlpidcmaaGreatDoor
open Go.ChangeShapes Go.WideShapes Go.ChangeAt Go.RowKit
set_option linter.unusedVariables false

theorem ix1s (s : ByteArray) (c : UInt8) (w : World) : (callFunc 185 #[.string s, .int .u8 (c.toNat : Int)]).run Tryz.prog w = .ok (.value (.int .i64 (firstIdx s c))) w := by
  rw [run_callFunc_extern Tryz.func185 (by kernel_rfl) (by kernel_rfl) (by kernel_rfl) (e := Extern.BytealgIndexByte.indexByte) (by kernel_rfl), run_indexByte_string]
  simp [Result.andThen]
theorem cn1s (s : ByteArray) (c : UInt8) (w : World) : (callFunc 176 #[.string s, .int .u8 (c.toNat : Int)]).run Tryz.prog w = .ok (.value (.int .i64 (s.data.toList.count c : Nat))) w := by
  rw [run_callFunc_extern Tryz.func176 (by kernel_rfl) (by kernel_rfl) (by kernel_rfl) (e := Extern.BytealgCount.count) (by kernel_rfl), Lib.run_countString]
  simp [Result.andThen, Lib.countByte]
set_option maxHeartbeats 400000 in
theorem ib1 (s : ByteArray) (c : UInt8) (w : World) :
    Calls Tryz.prog 172 #[.string s, .int .u8 (c.toNat : Int)] w fun e w' => e = .returned (.int .i64 (firstIdx s c)) ∧ w' = w := by
  have H : Hid _ := ix1s s c
  go_enter Tryz.func172, Tryz.ntmps172
  go_wp2_with (simp only [H.out])
  go_ret
  exact ⟨rfl, rfl⟩
theorem one_eq {s : ByteArray} {c : UInt8} (h : ([c] == s.toList) = true) : s = ⟨#[c]⟩ := by
  rw [beq_iff_eq, ByteArray.toList_eq] at h
  rw [← bA_data s, ← h]
  rfl
set_option maxHeartbeats 1000000 in
theorem ixl1 (s : ByteArray) (c : UInt8) (w : World) :
    Calls Tryz.prog 147 #[.string s, .string ⟨#[c]⟩] w fun e w' => e = .returned (.int .i64 (firstIdx s c)) ∧ w' = w := by
  by_cases he : ([c] == s.toList) = true
  · have HZ : Hid (firstIdx s c = 0) := by
      show firstIdx s c = 0
      obtain rfl := one_eq he
      rw [firstIdx_brk]
      have : brk c (⟨#[c]⟩ : ByteArray).data.toList = 0 := by simp [brk]
      rw [this]; rfl
    go_enter Tryz.func147, Tryz.ntmps147
    go_wp2_with (go_at_call 172; fail)
    go_ret
    exact ⟨ret_int HZ.out.symm, rfl⟩
  · have hf : ([c] == s.toList) = false := by simpa using he
    clear he
    go_enter Tryz.func147, Tryz.ntmps147
    go_wp2_with (go_at_call 172; refine (ib1 s c _).mono ?_; rintro e w' ⟨rfl, rfl⟩)
    go_ret
    exact ⟨rfl, rfl⟩
theorem ix1 (s : ByteArray) (c : UInt8) (w : World) :
    Calls Tryz.prog 157 #[.string s, .string ⟨#[c]⟩] w fun e w' => e = .returned (.int .i64 (firstIdx s c)) ∧ w' = w := by
  go_enter Tryz.func157, Tryz.ntmps157
  go_wp2_with (go_at_call 147; refine (ixl1 s c _).mono ?_; rintro e w' ⟨rfl, rfl⟩)
  go_ret
  exact ⟨rfl, rfl⟩
set_option maxRecDepth 100000 in
theorem cnt1 (s : ByteArray) (c : UInt8) (w : World) :
    Calls Tryz.prog 156 #[.string s, .string ⟨#[c]⟩] w fun e w' => e = .returned (.int .i64 (s.data.toList.count c : Nat)) ∧ w' = w := by
  have h1 : 0 < (⟨#[c]⟩ : ByteArray).size := Nat.zero_lt_one
  have H : Hid (∀ w : World, (callFunc 176 #[.string s, .int .u8 (((⟨#[c]⟩ : ByteArray)[0]'h1).toNat : Int)]).run Tryz.prog w = .ok (.value (.int .i64 (s.data.toList.count c : Nat))) w) := cn1s s c
  generalize s.data.toList.count c = N at *
  go_enter Tryz.func156, Tryz.ntmps156
  go_wp2_with (simp only [H.out])
  go_ret
  exact ⟨rfl, rfl⟩
/-- What Cut answers. -/
def cutV (c : UInt8) (s : ByteArray) : Value := if brk c s.data.toList < s.size then .tuple #[.string (s.extract 0 (brk c s.data.toList)), .string (s.extract (brk c s.data.toList + 1) s.size), .bool true] else .tuple #[.string s, .string ⟨#[]⟩, .bool false]
set_option maxHeartbeats 1000000 in
theorem cutl1 (s : ByteArray) (c : UInt8) (w : World) (hs : s.size ≤ 1048576) :
    Calls Tryz.prog 107 #[.string s, .string ⟨#[c]⟩] w fun e w' => e = .returned (cutV c s) ∧ Nw w w' := by
  by_cases h : brk c s.data.toList < s.size
  · have HV : Hid (cutV c s = .tuple #[.string (s.extract 0 (brk c s.data.toList)), .string (s.extract (brk c s.data.toList + 1) s.size), .bool true]) := by show cutV c s = _; unfold cutV; rw [if_pos h]
    have HI : Hid (firstIdx s c = (brk c s.data.toList : Nat)) := by show firstIdx s c = _; rw [firstIdx_brk, if_pos h]
    generalize brk c s.data.toList = k at *
    have hne : (⟨#[c]⟩ : ByteArray).size = 1 := rfl
    go_enter Tryz.func107, Tryz.ntmps107
    go_wp2_with fail
    refine (ixl1 s c _).mono ?_
    rintro e w' ⟨rfl, rfl⟩
    rw [HI.out]
    go_wp2
    go_region
    all_goals go_wp2
    all_goals go_ret3
    all_goals
      refine ⟨by rw [HV.out]; try rfl, ?_⟩
      exact (Below.refl _ _).drew
  · have HV : Hid (cutV c s = .tuple #[.string s, .string ⟨#[]⟩, .bool false]) := by show cutV c s = _; unfold cutV; rw [if_neg h]
    have HI : Hid (firstIdx s c = -1) := by show firstIdx s c = _; rw [firstIdx_brk, if_neg h]
    clear h
    go_enter Tryz.func107, Tryz.ntmps107
    go_wp2_with fail
    refine (ixl1 s c _).mono ?_
    rintro e w' ⟨rfl, rfl⟩
    rw [HI.out]
    go_wp2
    go_ret3
    exact ⟨by rw [HV.out]; rfl, Below.refl _ _⟩
theorem cut1 (s : ByteArray) (c : UInt8) (w : World) (hs : s.size ≤ 1048576) :
    Calls Tryz.prog 67 #[.string s, .string ⟨#[c]⟩] w fun e w' => e = .returned (cutV c s) ∧ Nw w w' := by
  by_cases h : brk c s.data.toList < s.size
  · have HV : Hid (cutV c s = .tuple #[.string (s.extract 0 (brk c s.data.toList)), .string (s.extract (brk c s.data.toList + 1) s.size), .bool true]) := by show cutV c s = _; unfold cutV; rw [if_pos h]
    go_enter Tryz.func67, Tryz.ntmps67
    go_wp2_with (go_at_call 107; refine (cutl1 s c _ hs).mono ?_; rintro e w' ⟨rfl, k1⟩; rw [HV.out])
    go_ret3
    exact ⟨by rw [HV.out]; rfl, k1⟩
  · have HV : Hid (cutV c s = .tuple #[.string s, .string ⟨#[]⟩, .bool false]) := by show cutV c s = _; unfold cutV; rw [if_neg h]
    go_enter Tryz.func67, Tryz.ntmps67
    go_wp2_with (go_at_call 107; refine (cutl1 s c _ hs).mono ?_; rintro e w' ⟨rfl, k1⟩; rw [HV.out])
    go_ret3
    exact ⟨by rw [HV.out]; rfl, k1⟩
/-! ### Split -/
theorem pcs_cnt {c : UInt8} {l : List UInt8} (h : 0 < l.count c) : brk c l < l.length := by
  by_cases hb : brk c l < l.length
  · exact hb
  · have := pcs_len c l
    rw [pcs_miss c l hb] at this
    simp at this
    omega
theorem ext_tail (s : ByteArray) (k : Nat) : s.extract k s.size = bA (s.data.toList.drop k) := by
  rw [ext_bA]
  have : s.data.toList.take s.size = s.data.toList := by rw [← data_len]; exact List.take_length
  rw [this]
theorem ext_head (s : ByteArray) (k : Nat) : s.extract 0 k = bA (s.data.toList.take k) := by rw [ext_bA, List.drop_zero]
def pcB (c : UInt8) (s : ByteArray) : List ByteArray := (pcs c s.data.toList).map bA
theorem pcB_len (c : UInt8) (s : ByteArray) : (pcB c s).length = s.data.toList.count c + 1 := by unfold pcB; rw [List.length_map, pcs_len]
theorem pcB_hit (c : UInt8) (s : ByteArray) (h : brk c s.data.toList < s.size) : pcB c s = s.extract 0 (brk c s.data.toList) :: pcB c (s.extract (brk c s.data.toList + 1) s.size) := by
  unfold pcB
  rw [pcs_hit c _ (by rw [data_len]; exact h), ext_tail, ext_head, bA_list]
  rfl
theorem pcB_miss (c : UInt8) (s : ByteArray) (h : ¬ brk c s.data.toList < s.size) : pcB c s = [s] := by
  unfold pcB
  rw [pcs_miss c _ (by rw [data_len]; exact h), List.map_singleton, bA_data]
theorem count_le_size (c : UInt8) (s : ByteArray) : s.data.toList.count c ≤ s.size := by rw [← data_len]; exact List.count_le_length
set_option maxRecDepth 100000 in
set_option maxHeartbeats 4000000 in
theorem gsplit1 (s : ByteArray) (c : UInt8) (w : World) (hs : s.size ≤ 1048576) :
    Calls Tryz.prog 111 #[.string s, .string ⟨#[c]⟩, .int .i64 0, .int .i64 (-1)] w fun e w' => e = .returned (.slice (some ⟨w.heap.size, 0, none⟩) (pcB c s).length (pcB c s).length) ∧ Nw w w' ∧ LayS w' w.heap.size (pcB c s) (pcB c s).length := by
  have hle := count_le_size c s
  have hlen := pcB_len c s
  have HN : Hid ((pcB c s).length = s.data.toList.count c + 1) := hlen
  rw [hlen]
  clear hlen
  generalize hcnt : s.data.toList.count c = cnt at *
  have hmk := run_mk 65 9 _ 1 16 Tryz.underlying65 Tryz.info9 (cnt + 1) (by omega) (by omega)
  have hcs : (Value.string ⟨#[]⟩).cells = #[.string ⟨#[]⟩] := rfl
  rw [hcs, Nat.mul_one, show ((cnt + 1 : Nat) : Int) = (cnt : Int) + 1 from rfl] at hmk
  have HC : Hid (Calls Tryz.prog 156 #[.string s, .string ⟨#[c]⟩] w fun e w' => e = .returned (.int .i64 (cnt : Nat)) ∧ w' = w) := by
    have := cnt1 s c w
    rw [hcnt] at this
    exact this
  have HCN : Hid (s.data.toList.count c = cnt) := hcnt
  clear hcnt
  have hne : (⟨#[c]⟩ : ByteArray).size = 1 := rfl
  have HST : ∀ t, Hid (LayS (w.alloc (.cells (madeCells #[.string ⟨#[]⟩] (cnt + 1)) t)) w.heap.size (pcB c s) 0) := fun t => by
    have := LayS.start w (pcB c s) t
    rw [HN.out] at this
    exact this
  go_enter Tryz.func111, Tryz.ntmps111
  go_wp2_with (go_at_call 156; refine HC.out.mono ?_; rintro e w' ⟨rfl, hq⟩; have hq2 := hq.symm; clear hq; subst hq2)
  clear HC hmk hcs
  go_loopw [0, 10] (fun x i wr => ∃ (k : Nat) (r : ByteArray), k ≤ cnt ∧ i = .int .i64 k ∧ x = .string r ∧ r.size ≤ s.size ∧ r.data.toList.count c = cnt - k ∧ (∀ j, strAt (pcB c s) (k + j) = strAt (pcB c r) j) ∧ Nw w wr ∧ LayS wr w.heap.size (pcB c s) k) (fun _ i _ => cnt - (intOf i).toNat)
  case atStart => exact ⟨0, s, Nat.zero_le _, rfl, rfl, Nat.le_refl _, HCN.out, fun j => by rw [Nat.zero_add], (Below.refl _ _).alloc (Nat.le_refl _) _, (HST _).out⟩
  case round =>
    obtain ⟨k, r, hk, rfl, rfl, hrs, hrc, hrp, hw, hl⟩ := hrel
    have HW : Hid (Nw w wr) := hw
    have HL : Hid (LayS wr w.heap.size (pcB c s) k) := hl
    have HRP : Hid (∀ j, strAt (pcB c s) (k + j) = strAt (pcB c r) j) := hrp
    have HRC : Hid (r.data.toList.count c = cnt - k) := hrc
    have z0 := hl.2.2.1 k (Nat.le_refl _) (by rw [HN.out]; omega)
    have zf := hl.2.2.2
    have hg : w.heap.size < wr.heap.size := hl.1
    clear hw hl hrp hrc
    by_cases hlt : k < cnt
    · have hb : brk c r.data.toList < r.size := by
        rw [← data_len]
        exact pcs_cnt (by rw [HRC.out]; omega)
      have HI : Hid (firstIdx r c = (brk c r.data.toList : Nat)) := by show firstIdx r c = _; rw [firstIdx_brk, if_pos hb]
      have HH : Hid _ := pcB_hit c r hb
      generalize brk c r.data.toList = m at *
      have hltI : (k : Int) < (cnt : Int) := by omega
      go_wp2_with (go_at_call 157; refine (ix1 r c _).mono ?_; rw [HI.out]; rintro e w' ⟨rfl, hq⟩; have hq2 := hq.symm; clear hq; subst hq2)
      go_roundw
      case rel =>
        have hx : strAt (pcB c s) k = r.extract 0 m := by have := HRP.out 0; rw [HH.out] at this; exact this
        have hc2 : (r.extract (m + 1) r.size).data.toList.count c = cnt - (k + 1) := by
          have e1 := pcB_len c r
          have e2 := pcB_len c (r.extract (m + 1) r.size)
          rw [HH.out, HRC.out, List.length_cons, e2] at e1
          omega
        refine ⟨k + 1, r.extract (m + 1) r.size, by omega, by go_num, by first | rfl | simp, by rw [ByteArray.size_extract]; omega, hc2, fun j => ?_, HW.out.setCell (Nat.le_refl _) _, ?_⟩
        · have := HRP.out (j + 1)
          rw [HH.out] at this
          rw [show k + 1 + j = k + (j + 1) by omega, this]
          rfl
        · have := LayS.step HL.out (by rw [HN.out]; omega)
          rw [hx] at this
          simpa using this
      case measure => simp [intOf]; omega
    · have e : k = cnt := by omega
      subst e
      have hb : ¬ brk c r.data.toList < r.size := by
        intro h
        have e1 := pcB_len c r
        rw [pcB_hit c r h, HRC.out, List.length_cons, pcB_len] at e1
        omega
      have hx : strAt (pcB c s) k = r := by have := HRP.out 0; rw [pcB_miss c r hb] at this; exact this
      have HL2 : Hid _ := LayS.step HL.out (by rw [HN.out]; omega)
      rw [hx] at HL2
      clear hx hb
      go_wp2
      go_ret
      exact ⟨by first | rfl | simp, HW.out.setCell (Nat.le_refl _) _, HL2.out⟩
end Go.Proofs.YtnkmdmmlpidcmaaGreatDoor
namespace Go.Proofs.YtnkmdmmlpidcmaaGreatDoor
open Go.ChangeShapes Go.WideShapes Go.ChangeAt Go.RowKit
set_option linter.unusedVariables false

/-- A declaration. -/
structure DD where
  nm : ByteArray
  vl : ByteArray
  im : Bool
def noDD : DD := ⟨⟨#[]⟩, ⟨#[]⟩, false⟩
def declP (s : ByteArray) : Option DD := (declI s.data.toList).map fun d => ⟨bA d.1, bA d.2.1, d.2.2⟩
def DeclSays (s : ByteArray) (e : Ending) : Prop :=
  (∃ d, declP s = some d ∧ e = .returned (.tuple #[.agg #[.string d.nm, .string d.vl, .bool d.im], .bool true])) ∨
  (declP s = none ∧ ∃ x y b, e = .returned (.tuple #[.agg #[.string x, .string y, .bool b], .bool false]))
theorem cutV_C (s : ByteArray) : ∃ b, cutV 58 s = .tuple #[.string (bA (nmC s.data.toList)), .string (bA (vlC s.data.toList)), .bool b] := by
  unfold cutV nmC vlC
  rw [data_len]
  by_cases h : brk 58 s.data.toList < s.size
  · rw [if_pos h, if_pos h, if_pos h, ext_head, ext_tail]; exact ⟨_, rfl⟩
  · rw [if_neg h, if_neg h, if_neg h, bA_data]; exact ⟨_, rfl⟩
theorem low_lower (l : List UInt8) : Lib.toLowerA l = lowL l := by
  unfold Lib.toLowerA lowL
  apply List.map_congr_left
  intro b _
  have e : Lib.isUpperB b = decide (65 ≤ b.toNat ∧ b.toNat ≤ 90) := by
    unfold Lib.isUpperB
    rw [Bool.eq_iff_iff]
    simp [UInt8.le_iff_toNat_le]
  unfold Lib.lowerB lowB
  rw [e]
  by_cases h : 65 ≤ b.toNat ∧ b.toNat ≤ 90
  · rw [if_pos h, if_pos (decide_eq_true h)]
  · rw [if_neg h, if_neg (by rw [decide_eq_false h]; simp)]
theorem tm_len (l : List UInt8) : (tmL l).length ≤ l.length := by
  obtain ⟨a, b, h, _⟩ := tmL_split l
  conv => rhs; rw [h]
  simp; omega
theorem tr_len (l : List UInt8) : (trL l).length ≤ l.length := by
  obtain ⟨b, h, _⟩ := trL_split l
  conv => rhs; rw [h]
  simp
theorem nmC_len (l : List UInt8) : (nmC l).length ≤ l.length ∧ (vlC l).length ≤ l.length := by
  unfold nmC vlC
  split <;> simp <;> omega
theorem word_ascii {l : List UInt8} (h : wordL l = true) : ∀ (j : Nat) (b : UInt8), l[j]? = some b → b.toNat < 128 := by
  intro j b hb
  unfold wordL at h
  simp only [Bool.and_eq_true] at h
  have := List.all_eq_true.1 h.2.2 b (List.mem_of_getElem? hb)
  unfold wbL at this
  rw [decide_eq_true_eq] at this
  omega
theorem igvs (w : World) (s : ByteArray) (hs : s.size ≤ 1048576) : Calls Tryz.prog 104 #[.string s] w fun e w' => e = .returned (.bool (fit60 s.data.toList)) ∧ w' = w := by
  unfold fit60
  rw [data_len]
  by_cases h0 : s.size = 0
  · obtain rfl := empty_of h0
    go_enter Tryz.func104, Tryz.ntmps104
    go_wp2
    go_ret
    exact ⟨rfl, rfl⟩
  · have n1 := ne_nil (s := s) (by omega)
    have n2 := ne_emp (s := s) (by omega)
    have HX : Hid (decide (1 ≤ s.size ∧ s.size ≤ 60) = decide ((s.size : Int) ≤ 60)) := by
      show _ = _
      rw [Bool.eq_iff_iff]; simp; omega
    go_enter Tryz.func104, Tryz.ntmps104
    go_wp2
    go_ret
    exact ⟨by rw [HX.out]; first | rfl | simp, rfl⟩
theorem itrim (s : ByteArray) (w : World) (hs : s.size ≤ 1048576) : Calls Tryz.prog 102 #[.string s, .string ⟨#[9, 10, 13, 32]⟩] w fun e w' => e = .returned (.string (bA (tmL s.data.toList))) ∧ Nw w w' := by
  refine (Any.strings_Trim_laid Tryz.lays160 (by kernel_rfl) s ⟨#[9, 10, 13, 32]⟩ w (by omega) (by decide) (ascii_of_all (by decide))).mono ?_
  rintro e w' ⟨rfl, h⟩
  exact ⟨rfl, h⟩
theorem itrimR (s : ByteArray) (w : World) (hs : s.size ≤ 1048576) : Calls Tryz.prog 149 #[.string s, .string ⟨#[9, 10, 13, 32]⟩] w fun e w' => e = .returned (.string (bA (trL s.data.toList))) ∧ Nw w w' := by
  refine (Any.strings_TrimRight_laid Tryz.lays162 (by kernel_rfl) s ⟨#[9, 10, 13, 32]⟩ w (by omega) (by decide) (ascii_of_all (by decide))).mono ?_
  rintro e w' ⟨rfl, h⟩
  exact ⟨rfl, h⟩
def sufL (v : List UInt8) : List UInt8 := if markL10.isSuffixOf v then v.take (v.length - 10) else v
theorem icutS (s : ByteArray) (w : World) (hs : s.size ≤ 1048576) : Calls Tryz.prog 148 #[.string s, .string ⟨#[33, 105, 109, 112, 111, 114, 116, 97, 110, 116]⟩] w fun e w' => e = .returned (.tuple #[.string (bA (sufL s.data.toList)), .bool (markL10.isSuffixOf s.data.toList)]) ∧ w' = w := by
  refine (Tryz.strings_CutSuffix s _ w (by omega)).mono ?_
  rintro e w' ⟨rfl, h⟩
  exact ⟨rfl, h⟩
theorem valI_suf (v : List UInt8) : valI v = (trL (sufL v), markL10.isSuffixOf v) := by
  unfold valI sufL
  split
  · rename_i h; rw [h]
  · rename_i h; rw [Bool.not_eq_true] at h; rw [h]
theorem suf_len (v : List UInt8) : (sufL v).length ≤ v.length := by unfold sufL; split <;> simp
theorem set3d (w : World) (b : Nat) (u0 u1 u2 : Value) {v0 v1 v2 : Value} (z0 : w.cell? ⟨b, 0, none⟩ = some v0) (z1 : w.cell? ⟨b, 1, none⟩ = some v1) (z2 : w.cell? ⟨b, 2, none⟩ = some v2) :
    (((w.setCell ⟨b, 0, none⟩ u0).setCell ⟨b, 1, none⟩ u1).setCell ⟨b, 2, none⟩ u2).cell? ⟨b, 0, none⟩ = some u0 ∧ (((w.setCell ⟨b, 0, none⟩ u0).setCell ⟨b, 1, none⟩ u1).setCell ⟨b, 2, none⟩ u2).cell? ⟨b, 1, none⟩ = some u1 ∧ (((w.setCell ⟨b, 0, none⟩ u0).setCell ⟨b, 1, none⟩ u1).setCell ⟨b, 2, none⟩ u2).cell? ⟨b, 2, none⟩ = some u2 := by
  have far : ∀ (w : World) (o o' : Nat) (u : Value), o ≠ o' → (w.setCell ⟨b, o, none⟩ u).cell? ⟨b, o', none⟩ = w.cell? ⟨b, o', none⟩ := fun w o o' u h => World.cell?_setCell_other _ _ _ _ (fun e => by injection e; omega)
  refine ⟨?_, ?_, ?_⟩
  · rw [far _ 2 0 _ (by omega), far _ 1 0 _ (by omega)]
    exact World.cell?_setCell_same w ⟨b, 0, none⟩ _ z0
  · rw [far _ 2 1 _ (by omega)]
    exact World.cell?_setCell_same _ ⟨b, 1, none⟩ _ ((far _ 0 1 _ (by omega)).trans z1)
  · exact World.cell?_setCell_same _ ⟨b, 2, none⟩ _ ((far _ 1 2 _ (by omega)).trans ((far _ 0 2 _ (by omega)).trans z2))
/-- A box of three cells. -/
structure Bx3 (b : Nat) (w : World) (u0 u1 u2 : Value) : Prop where
  c0 : w.cell? ⟨b, 0, none⟩ = some u0
  c1 : w.cell? ⟨b, 1, none⟩ = some u1
  c2 : w.cell? ⟨b, 2, none⟩ = some u2
  fz : ∀ o, w.frozen? ⟨b, o, none⟩ = false
theorem Bx3.lt {b : Nat} {w : World} {u0 u1 u2 : Value} (h : Bx3 b w u0 u1 u2) : b < w.heap.size := World.block_lt_of_cell? w ⟨b, 0, none⟩ h.c0
theorem Bx3.nw {b : Nat} {w w' : World} {u0 u1 u2 : Value} (h : Bx3 b w u0 u1 u2) (k : Nw w w') : Bx3 b w' u0 u1 u2 :=
  ⟨((bcell k).1 _ _ h.lt).trans h.c0, ((bcell k).1 _ _ h.lt).trans h.c1, ((bcell k).1 _ _ h.lt).trans h.c2, fun o => ((bcell k).2 _ _ h.lt).trans (h.fz o)⟩
theorem Bx3.new (w : World) (t : TypeId) (u0 u1 u2 : Value) : Bx3 w.heap.size (w.alloc (.cells #[u0, u1, u2] t)) u0 u1 u2 :=
  ⟨by simp, by simp, by simp, fun o => World.frozen?_alloc_at _ _ _ _ rfl⟩
set_option maxHeartbeats 8000000 in
theorem ideclOf (s : ByteArray) (w : World) (hs : s.size ≤ 1048576) :
    Calls Tryz.prog 108 #[.string s] w fun e w' => DeclSays s e ∧ Nw w w' := by
  obtain ⟨cb, hcut⟩ := cutV_C s
  have HCT : Hid _ := hcut
  obtain ⟨hn, hv⟩ := nmC_len s.data.toList
  rw [data_len] at hn hv
  have hn2 := tm_len (nmC s.data.toList)
  have hv2 := tm_len (vlC s.data.toList)
  have hv3 := suf_len (tmL (vlC s.data.toList))
  have hv4 := tr_len (sufL (tmL (vlC s.data.toList)))
  have hD : declI s.data.toList = if wordL (tmL (nmC s.data.toList)) && fit60 (trL (sufL (tmL (vlC s.data.toList)))) then some (lowL (tmL (nmC s.data.toList)), trL (sufL (tmL (vlC s.data.toList))), markL10.isSuffixOf (tmL (vlC s.data.toList))) else none := by
    unfold declI
    rw [valI_suf]
  have hDP : declP s = (declI s.data.toList).map fun d => ⟨bA d.1, bA d.2.1, d.2.2⟩ := rfl
  rw [hD] at hDP
  have HDP : Hid _ := hDP
  clear hcut hD hDP
  generalize nmC s.data.toList = N at *
  generalize vlC s.data.toList = V at *
  have HB0 : Hid (Bx3 w.heap.size (w.alloc (.cells #[.string ⟨#[]⟩, .string ⟨#[]⟩, .bool false] 36)) (.string ⟨#[]⟩) (.string ⟨#[]⟩) (.bool false)) := Bx3.new _ _ _ _ _
  have HN0 : Hid (Nw w (w.alloc (.cells #[.string ⟨#[]⟩, .string ⟨#[]⟩, .bool false] 36))) := (Below.refl _ _).alloc (Nat.le_refl _) _
  go_enter Tryz.func108, Tryz.ntmps108
  go_wp2_with fail
  refine Calls.mono (cut1 s 58 _ hs) ?_
  rw [HCT.out]
  rintro e w1 ⟨rfl, k1⟩
  have HN1 : Hid (Nw (w.alloc (.cells #[.string ⟨#[]⟩, .string ⟨#[]⟩, .bool false] 36)) w1) := k1
  clear k1
  go_wp2_with fail
  refine Calls.mono (itrim (bA N) _ (by rw [bA_size]; omega)) ?_
  rw [bA_list]
  rintro e w2 ⟨rfl, k2⟩
  have HN2 : Hid _ := Nw.trans HN1.out k2
  clear k2 HN1
  go_wp2_with fail
  refine Calls.mono (itrim (bA V) _ (by rw [bA_size]; omega)) ?_
  rw [bA_list]
  rintro e w3 ⟨rfl, k3⟩
  have HN3 : Hid _ := Nw.trans HN2.out k3
  clear k3 HN2
  go_wp2_with fail
  refine Calls.mono (icutS (bA (tmL V)) _ (by rw [bA_size]; omega)) ?_
  rw [bA_list]
  rintro e w4 ⟨rfl, hq⟩
  have hq2 := hq.symm; clear hq; subst hq2
  go_wp2_with fail
  refine Calls.mono (itrimR (bA (sufL (tmL V))) _ (by rw [bA_size]; omega)) ?_
  rw [bA_list]
  rintro e w5 ⟨rfl, k5⟩
  have HN5 : Hid _ := Nw.trans HN3.out k5
  clear k5 HN3
  generalize tmL N = NM at *
  generalize markL10.isSuffixOf (tmL V) = im at *
  generalize trL (sufL (tmL V)) = VL at *
  go_wp2_with fail
  refine Calls.mono (iword _ (bA NM) (by rw [bA_size]; omega)) ?_
  rw [wordB_L, bA_list]
  rintro e w6 ⟨rfl, k6⟩
  have HN6 : Hid _ := Nw.trans HN5.out k6
  have HB6 : Hid _ := HB0.out.nw HN6.out
  have HNW : Hid (Nw w w6) := Nw.trans HN0.out HN6.out
  clear k6 HN5 HN6
  obtain ⟨z0, z1, z2, zf⟩ := HB6.out
  cases hw : wordL NM
  · have HX : Hid (declP s = none) := by show declP s = none; rw [HDP.out, hw, Bool.false_and]; rfl
    obtain ⟨y0, y1, y2⟩ := set3d w6 w.heap.size (.string ⟨#[]⟩) (.string ⟨#[]⟩) (.bool false) z0 z1 z2
    clear hw
    go_wp2
    refine bodyPost_ret (v := .tuple #[.agg #[.string ⟨#[]⟩, .string ⟨#[]⟩, .bool false], .bool false]) (by simp [results, Tryz.results108, go_sem, y0, y1, y2]) rfl ⟨Or.inr ⟨HX.out, _, _, _, rfl⟩, ?_⟩
    exact ((HNW.out.setCell (Nat.le_refl _) _).setCell (Nat.le_refl _) _).setCell (Nat.le_refl _) _
  · cases hf : fit60 VL
    · have HX : Hid (declP s = none) := by show declP s = none; rw [HDP.out, hf, Bool.and_false]; rfl
      obtain ⟨y0, y1, y2⟩ := set3d w6 w.heap.size (.string ⟨#[]⟩) (.string ⟨#[]⟩) (.bool false) z0 z1 z2
      have HG : Hid (Calls Tryz.prog 104 #[.string (bA VL)] w6 fun e w' => e = .returned (.bool false) ∧ w' = w6) := by
        have := igvs w6 (bA VL) (by rw [bA_size]; omega)
        rw [bA_list, hf] at this
        exact this
      clear hw hf
      go_wp2_with (go_at_call 104; refine HG.out.mono ?_; rintro e w' ⟨rfl, hq⟩; have hq2 := hq.symm; clear hq; subst hq2)
      refine bodyPost_ret (v := .tuple #[.agg #[.string ⟨#[]⟩, .string ⟨#[]⟩, .bool false], .bool false]) (by simp [results, Tryz.results108, go_sem, y0, y1, y2]) rfl ⟨Or.inr ⟨HX.out, _, _, _, rfl⟩, ?_⟩
      exact ((HNW.out.setCell (Nat.le_refl _) _).setCell (Nat.le_refl _) _).setCell (Nat.le_refl _) _
    · have HX : Hid (declP s = some ⟨bA (lowL NM), bA VL, im⟩) := by show declP s = _; rw [HDP.out, hw, hf]; rfl
      have HG : Hid (Calls Tryz.prog 104 #[.string (bA VL)] w6 fun e w' => e = .returned (.bool true) ∧ w' = w6) := by
        have := igvs w6 (bA VL) (by rw [bA_size]; omega)
        rw [bA_list, hf] at this
        exact this
      have HL : Hid (Calls Tryz.prog 101 #[.string (bA NM)] w6 fun e w' => e = .returned (.string (bA (lowL NM))) ∧ Nw w6 w') := by
        refine (Tryz.strings_ToLower_ascii (bA NM) w6 (by rw [bA_size]; omega) (by rw [bA_list]; exact word_ascii hw)).mono ?_
        rw [bA_list, low_lower]
        exact fun e w' h => h
      clear hw hf
      go_wp2_with (go_at_call 104; refine HG.out.mono ?_; rintro e w' ⟨rfl, hq⟩; have hq2 := hq.symm; clear hq; subst hq2)
      refine Calls.mono HL.out ?_
      rintro e w7 ⟨rfl, k7⟩
      have HN7 : Hid (Nw w w7) := Nw.trans HNW.out k7
      obtain ⟨x0, x1, x2, xf⟩ := HB6.out.nw k7
      obtain ⟨y0, y1, y2⟩ := set3d w7 w.heap.size (.string (bA (lowL NM))) (.string (bA VL)) (.bool im) x0 x1 x2
      clear k7 z0 z1 z2 zf
      go_wp2
      refine bodyPost_ret (v := .tuple #[.agg #[.string (bA (lowL NM)), .string (bA VL), .bool im], .bool true]) (by simp [results, Tryz.results108, go_sem, y0, y1, y2]) rfl ⟨Or.inl ⟨_, HX.out, rfl⟩, ?_⟩
      exact ((HN7.out.setCell (Nat.le_refl _) _).setCell (Nat.le_refl _) _).setCell (Nat.le_refl _) _
end Go.Proofs.YtnkmdmmlpidcmaaGreatDoor
namespace Go.Proofs.YtnkmdmmlpidcmaaGreatDoor
open Go.ChangeShapes Go.WideShapes Go.ChangeAt Go.RowKit
set_option linter.unusedVariables false

theorem wp_rw {α : Type} {E : Els α} (hE : KeptE E) {t ts : TypeId} {n bytes : Nat} {z : Value} (ht : Tryz.prog.underlying ts = some (.slice t)) (hinfo : (Tryz.prog.info? t).map (fun i => (i.zero, i.size, i.bytes)) = some (some z, n, bytes)) (hz : z.cells.size = n) (hn : 0 < n) (hby : bytes ≤ 1000)
    {ops : Array Oper} {rest : List Oper} {o : Oper} {a : Act} {Q : Exit → Act → World → Prop} (w0 w : World) (hgd : o.guard = none) (s x : Operand)
    (ho : o.op = .call { callee := .builtin .append, args := #[s, x], argTypes := #[ts, ts] }) (B : Nat) (v : Value) (els : List (El α)) (hs : a.eval s = v) (h0 : RowO t n E w0 B v els) (k : Nw w0 w) (hB : B ≤ w0.heap.size)
    (g : Nat) (hx : a.eval x = .slice (some ⟨g, 0, none⟩) 1 1) (y : α) (cs : List Value) (hc : ∀ j u, cs[j]? = some u → w.cell? ⟨g, j, none⟩ = some u) (hcs : cs.length = n) (h1 : ∀ u ∈ cs, u.oneCell' = true) (hy : E w cs y (iv w0 w)) (hl : els.length ≤ 10000000)
    (h : ∀ v' w', RowO t n E w' B v' (els ++ [⟨y, cs, iv w0 w⟩]) → Ext v v' w w' → wpList Tryz.prog ops Q rest (a.put o.dst v') w') : wpList Tryz.prog ops Q (o :: rest) a w := by
  obtain ⟨i0, hi, hzz'⟩ := Option.map_eq_some_iff.1 hinfo
  simp only [Prod.mk.injEq] at hzz'
  obtain ⟨hz0, hz1, hz2⟩ := hzz'
  have hB2 : B ≤ w.heap.size := Nat.le_trans hB (Below.size k)
  have hmul : (els.length + 1) * bytes ≤ 140737488355328 := by
    have : (els.length + 1) * bytes ≤ 10000001 * 1000 := Nat.mul_le_mul (by omega) hby
    omega
  refine wpList_append_own_at w hgd s x ts ho B t i0 z n bytes ht hi hz0 hz1 hz2 hz hn v els.length (els.flatMap (·.cs)) hs (h0.nw hE k).own ⟨g, 0, none⟩ 1 1 cs hx (by rw [Nat.one_mul]; exact hcs) (fun j u hj => by rw [add_at, Nat.zero_add]; exact hc j u hj) h1 (by unfold maxLen; omega) hmul hB2 ?_
  intro v' w' h2 h3 _ h5
  have hext : Ext v v' w w' := ⟨h3, h5.imp id fun e => ⟨_, e, Nat.le_refl _⟩⟩
  exact h v' w' (RowO.put hE h0 k hB hy hcs h2 hext) hext
theorem iv_mono {w w1 w2 : World} (h : w1.heap.size ≤ w2.heap.size) : ∀ b, iv w w1 b → iv w w2 b := fun b hb => ⟨hb.1, Nat.lt_of_lt_of_le hb.2 h⟩
theorem iv_low {w0 w w1 : World} (h : w0.heap.size ≤ w.heap.size) : ∀ b, iv w w1 b → iv w0 w1 b := fun b hb => ⟨Nat.le_trans h hb.1, hb.2⟩
end Go.Proofs.YtnkmdmmlpidcmaaGreatDoor
namespace Go.Proofs.YtnkmdmmlpidcmaaGreatDoor
open Go.ChangeShapes Go.WideShapes Go.ChangeAt Go.RowKit
set_option linter.unusedVariables false

def EDecl : Els DD := fun _ cs d _ => cs = [.string d.nm, .string d.vl, .bool d.im]
theorem EDecl.kept : KeptE EDecl := fun w w' cs x F G h _ _ => h
theorem Tryz.info36 : (Tryz.prog.info? 36).map (fun i => (i.zero, i.size, i.bytes)) = some (some (.agg #[.string ⟨#[]⟩, .string ⟨#[]⟩, .bool false]), 3, 40) := by kernel_rfl
def declAt (l : List DD) (i : Nat) : DD := l.getD i noDD
/-- The declarations l lie at a. -/
def Decls (w : World) (a : Option Addr) (l : List DD) : Prop :=
  l = [] ∨ ∃ b, a = some ⟨b, 0, none⟩ ∧ b < w.heap.size ∧ ∀ i, i < l.length → w.cell? ⟨b, i * 3, none⟩ = some (.string (declAt l i).nm) ∧ w.cell? ⟨b, i * 3 + 1, none⟩ = some (.string (declAt l i).vl) ∧ w.cell? ⟨b, i * 3 + 2, none⟩ = some (.bool (declAt l i).im)
theorem Decls.nw {w w' : World} {a : Option Addr} {l : List DD} (h : Decls w a l) (k : Nw w w') : Decls w' a l := by
  rcases h with h | ⟨b, rfl, hb, hc⟩
  · exact Or.inl h
  · refine Or.inr ⟨b, rfl, Nat.lt_of_lt_of_le hb (Below.size k), fun i hi => ?_⟩
    obtain ⟨h0, h1, h2⟩ := hc i hi
    exact ⟨((bcell k).1 _ _ hb).trans h0, ((bcell k).1 _ _ hb).trans h1, ((bcell k).1 _ _ hb).trans h2⟩
theorem RowM.decls {w : World} {v : Value} {l : List DD} {F : Nat → Prop} (h : RowM 3 EDecl w v l F) : ∃ a c, v = .slice a l.length c ∧ l.length ≤ c ∧ Decls w a l := by
  rcases h with ⟨h1, h2⟩ | ⟨g, c, els, h1, h2, h3, h4⟩
  · exact ⟨none, 0, by rw [h2]; exact h1, by rw [h2]; exact Nat.le_refl _, Or.inl h2⟩
  · refine ⟨_, c, h1, h2, Or.inr ⟨g, rfl, h4.lt, fun i hi => ?_⟩⟩
    obtain ⟨e, he, hx⟩ := el_at h3 i hi noDD
    have hc := (h4.el e (List.mem_of_getElem? he)).1
    have c0 := h4.cell i e he 0 (.string e.x.nm) (by rw [hc]; rfl)
    have c1 := h4.cell i e he 1 (.string e.x.vl) (by rw [hc]; rfl)
    have c2 := h4.cell i e he 2 (.bool e.x.im) (by rw [hc]; rfl)
    have hp : declAt l i = e.x := hx.symm
    rw [hp]
    exact ⟨c0, c1, c2⟩
theorem eqDecl_any (w : World) (n : DD) : Calls Tryz.prog 116 #[.agg #[.string n.nm, .string n.vl, .bool n.im], .agg #[.string n.nm, .string n.vl, .bool n.im]] w fun e w' => e = .returned (.bool true) ∧ Nw w w' := by
  obtain ⟨nm, vl, im⟩ := n
  simp only
  go_enter Tryz.func116, Tryz.ntmps116
  go_wp2
  go_ret
  exact ⟨rfl, ((Below.refl _ _).alloc (Nat.le_refl _) _).alloc (by simp) _⟩
set_option maxHeartbeats 4000000 in
theorem eqDeclS_any (w : World) (a1 a2 : Option Addr) (c1 c2 : Nat) (l : List DD) (hl : l.length ≤ 1048576) (h1 : Decls w a1 l) (h2 : Decls w a2 l) :
    Calls Tryz.prog 84 #[.slice a1 l.length c1, .slice a2 l.length c2] w fun e w' => e = .returned (.bool true) ∧ Nw w w' := by
  have H1 : Hid (Decls w a1 l) := h1
  have H2 : Hid (Decls w a2 l) := h2
  clear h1 h2
  go_enter Tryz.func84, Tryz.ntmps84
  go_wp2
  go_loopw [5] (fun i wr => ∃ k : Nat, k ≤ l.length ∧ i = .int .i64 k ∧ Nw w wr) (fun i _ => l.length - (intOf i).toNat)
  case atStart => exact ⟨0, Nat.zero_le _, rfl, Below.refl _ _⟩
  case round =>
    obtain ⟨k, hk, rfl, hw⟩ := hrel
    by_cases hlt : k < l.length
    · rcases (H1.out.nw hw) with h | ⟨b1, rfl, hb1, hc1⟩
      · rw [h] at hlt; simp at hlt
      rcases (H2.out.nw hw) with h | ⟨b2, rfl, hb2, hc2⟩
      · rw [h] at hlt; simp at hlt
      obtain ⟨q0, q1, q2⟩ := hc1 k hlt
      obtain ⟨r0, r1, r2⟩ := hc2 k hlt
      clear hc1 hc2 H1 H2
      have HW : Hid (Nw w wr) := hw
      clear hw
      generalize declAt l k = d at *
      go_wp2
      go_region_with (go_at_call 116; refine Calls.mono (eqDecl_any _ d) ?_; rintro e w' ⟨rfl, k1⟩)
      all_goals
        go_wp2
        go_roundw
        case rel => exact ⟨k + 1, by omega, by go_num, HW.out.trans k1.drw⟩
        case measure => simp [intOf]; omega
    · have HW : Hid (Nw w wr) := hw
      clear hw
      go_wp2
      go_ret
      exact ⟨rfl, HW.out⟩
end Go.Proofs.YtnkmdmmlpidcmaaGreatDoor
