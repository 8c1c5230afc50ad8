/-
  What the library's Index, Cut, Count and Split answer at a separator of one byte, for texts of at most 1048576 bytes.
-/
import Derived.Test.YtnkmdmmlpidcmaaDoorSwP
import Derived.Test.YtnkmdmmlpidcmaaDoorTxs
import Derived.Lib.Bytealg
namespace Go.Proofs.YtnkmdmmlpidcmaaDoor
open Go.ChangeShapes Go.WideShapes Go.ChangeAt Go.RowKit
set_option linter.unusedVariables false

theorem ix1s (s : ByteArray) (c : UInt8) (w : World) : (callFunc 168 #[.string s, .int .u8 (c.toNat : Int)]).run Tryd.prog w = .ok (.value (.int .i64 (firstIdx s c))) w := by
  rw [run_callFunc_extern Tryd.func168 (by kernel_rfl) (by kernel_rfl) (by kernel_rfl) (e := Extern.BytealgIndexByte.indexByte) (by kernel_rfl), run_indexByte_string]
  simp [Result.andThen]
theorem cn1s (s : ByteArray) (c : UInt8) (w : World) : (callFunc 148 #[.string s, .int .u8 (c.toNat : Int)]).run Tryd.prog w = .ok (.value (.int .i64 (s.data.toList.count c : Nat))) w := by
  rw [run_callFunc_extern Tryd.func148 (by kernel_rfl) (by kernel_rfl) (by kernel_rfl) (e := Extern.BytealgCount.count) (by kernel_rfl), Lib.run_countString]
  simp [Result.andThen, Lib.countByte]
set_option maxHeartbeats 400000 in
theorem ib1 (s : ByteArray) (c : UInt8) (w : World) :
    Calls Tryd.prog 155 #[.string s, .int .u8 (c.toNat : Int)] w fun e w' => e = .returned (.int .i64 (firstIdx s c)) ∧ w' = w := by
  have H : Hid _ := ix1s s c
  go_enter Tryd.func155, Tryd.ntmps155
  go_wp2_with (simp only [H.out])
  go_ret
  exact ⟨rfl, rfl⟩
theorem one_eq {s : ByteArray} {c : UInt8} (h : ([c] == s.toList) = true) : s = ⟨#[c]⟩ := by
  rw [beq_iff_eq, ByteArray.toList_eq] at h
  rw [← bA_data s, ← h]
  rfl
set_option maxHeartbeats 1000000 in
theorem ixl1 (s : ByteArray) (c : UInt8) (w : World) :
    Calls Tryd.prog 127 #[.string s, .string ⟨#[c]⟩] w fun e w' => e = .returned (.int .i64 (firstIdx s c)) ∧ w' = w := by
  by_cases he : ([c] == s.toList) = true
  · have HZ : Hid (firstIdx s c = 0) := by
      show firstIdx s c = 0
      obtain rfl := one_eq he
      rw [firstIdx_brk]
      have : brk c (⟨#[c]⟩ : ByteArray).data.toList = 0 := by simp [brk]
      rw [this]; rfl
    go_enter Tryd.func127, Tryd.ntmps127
    go_wp2_with (go_at_call 155; fail)
    go_ret
    exact ⟨ret_int HZ.out.symm, rfl⟩
  · have hf : ([c] == s.toList) = false := by simpa using he
    clear he
    go_enter Tryd.func127, Tryd.ntmps127
    go_wp2_with (go_at_call 155; refine (ib1 s c _).mono ?_; rintro e w' ⟨rfl, rfl⟩)
    go_ret
    exact ⟨rfl, rfl⟩
theorem ix1 (s : ByteArray) (c : UInt8) (w : World) :
    Calls Tryd.prog 121 #[.string s, .string ⟨#[c]⟩] w fun e w' => e = .returned (.int .i64 (firstIdx s c)) ∧ w' = w := by
  go_enter Tryd.func121, Tryd.ntmps121
  go_wp2_with (go_at_call 127; refine (ixl1 s c _).mono ?_; rintro e w' ⟨rfl, rfl⟩)
  go_ret
  exact ⟨rfl, rfl⟩
set_option maxRecDepth 100000 in
theorem cnt1 (s : ByteArray) (c : UInt8) (w : World) :
    Calls Tryd.prog 120 #[.string s, .string ⟨#[c]⟩] w fun e w' => e = .returned (.int .i64 (s.data.toList.count c : Nat)) ∧ w' = w := by
  have h1 : 0 < (⟨#[c]⟩ : ByteArray).size := Nat.zero_lt_one
  have H : Hid (∀ w : World, (callFunc 148 #[.string s, .int .u8 (((⟨#[c]⟩ : ByteArray)[0]'h1).toNat : Int)]).run Tryd.prog w = .ok (.value (.int .i64 (s.data.toList.count c : Nat))) w) := cn1s s c
  generalize s.data.toList.count c = N at *
  go_enter Tryd.func120, Tryd.ntmps120
  go_wp2_with (simp only [H.out])
  go_ret
  exact ⟨rfl, rfl⟩
/-- What Cut answers. -/
def cutV (c : UInt8) (s : ByteArray) : Value := if brk c s.data.toList < s.size then .tuple #[.string (s.extract 0 (brk c s.data.toList)), .string (s.extract (brk c s.data.toList + 1) s.size), .bool true] else .tuple #[.string s, .string ⟨#[]⟩, .bool false]
set_option maxHeartbeats 1000000 in
theorem cutl1 (s : ByteArray) (c : UInt8) (w : World) (hs : s.size ≤ 1048576) :
    Calls Tryd.prog 97 #[.string s, .string ⟨#[c]⟩] w fun e w' => e = .returned (cutV c s) ∧ Nw w w' := by
  by_cases h : brk c s.data.toList < s.size
  · have HV : Hid (cutV c s = .tuple #[.string (s.extract 0 (brk c s.data.toList)), .string (s.extract (brk c s.data.toList + 1) s.size), .bool true]) := by show cutV c s = _; unfold cutV; rw [if_pos h]
    have HI : Hid (firstIdx s c = (brk c s.data.toList : Nat)) := by show firstIdx s c = _; rw [firstIdx_brk, if_pos h]
    generalize brk c s.data.toList = k at *
    have hne : (⟨#[c]⟩ : ByteArray).size = 1 := rfl
    go_enter Tryd.func97, Tryd.ntmps97
    go_wp2_with fail
    refine (ixl1 s c _).mono ?_
    rintro e w' ⟨rfl, rfl⟩
    rw [HI.out]
    go_wp2
    go_region
    all_goals go_wp2
    all_goals go_ret3
    all_goals
      refine ⟨by rw [HV.out]; try rfl, ?_⟩
      exact (Below.refl _ _).drew
  · have HV : Hid (cutV c s = .tuple #[.string s, .string ⟨#[]⟩, .bool false]) := by show cutV c s = _; unfold cutV; rw [if_neg h]
    have HI : Hid (firstIdx s c = -1) := by show firstIdx s c = _; rw [firstIdx_brk, if_neg h]
    clear h
    go_enter Tryd.func97, Tryd.ntmps97
    go_wp2_with fail
    refine (ixl1 s c _).mono ?_
    rintro e w' ⟨rfl, rfl⟩
    rw [HI.out]
    go_wp2
    go_ret3
    exact ⟨by rw [HV.out]; rfl, Below.refl _ _⟩
theorem cut1 (s : ByteArray) (c : UInt8) (w : World) (hs : s.size ≤ 1048576) :
    Calls Tryd.prog 56 #[.string s, .string ⟨#[c]⟩] w fun e w' => e = .returned (cutV c s) ∧ Nw w w' := by
  by_cases h : brk c s.data.toList < s.size
  · have HV : Hid (cutV c s = .tuple #[.string (s.extract 0 (brk c s.data.toList)), .string (s.extract (brk c s.data.toList + 1) s.size), .bool true]) := by show cutV c s = _; unfold cutV; rw [if_pos h]
    go_enter Tryd.func56, Tryd.ntmps56
    go_wp2_with (go_at_call 97; refine (cutl1 s c _ hs).mono ?_; rintro e w' ⟨rfl, k1⟩; rw [HV.out])
    go_ret3
    exact ⟨by rw [HV.out]; rfl, k1⟩
  · have HV : Hid (cutV c s = .tuple #[.string s, .string ⟨#[]⟩, .bool false]) := by show cutV c s = _; unfold cutV; rw [if_neg h]
    go_enter Tryd.func56, Tryd.ntmps56
    go_wp2_with (go_at_call 97; refine (cutl1 s c _ hs).mono ?_; rintro e w' ⟨rfl, k1⟩; rw [HV.out])
    go_ret3
    exact ⟨by rw [HV.out]; rfl, k1⟩
/-! ### Split -/
theorem pcs_cnt {c : UInt8} {l : List UInt8} (h : 0 < l.count c) : brk c l < l.length := by
  by_cases hb : brk c l < l.length
  · exact hb
  · have := pcs_len c l
    rw [pcs_miss c l hb] at this
    simp at this
    omega
theorem ext_tail (s : ByteArray) (k : Nat) : s.extract k s.size = bA (s.data.toList.drop k) := by
  rw [ext_bA]
  have : s.data.toList.take s.size = s.data.toList := by rw [← data_len]; exact List.take_length
  rw [this]
theorem ext_head (s : ByteArray) (k : Nat) : s.extract 0 k = bA (s.data.toList.take k) := by rw [ext_bA, List.drop_zero]
def pcB (c : UInt8) (s : ByteArray) : List ByteArray := (pcs c s.data.toList).map bA
theorem pcB_len (c : UInt8) (s : ByteArray) : (pcB c s).length = s.data.toList.count c + 1 := by unfold pcB; rw [List.length_map, pcs_len]
theorem pcB_hit (c : UInt8) (s : ByteArray) (h : brk c s.data.toList < s.size) : pcB c s = s.extract 0 (brk c s.data.toList) :: pcB c (s.extract (brk c s.data.toList + 1) s.size) := by
  unfold pcB
  rw [pcs_hit c _ (by rw [data_len]; exact h), ext_tail, ext_head, bA_list]
  rfl
theorem pcB_miss (c : UInt8) (s : ByteArray) (h : ¬ brk c s.data.toList < s.size) : pcB c s = [s] := by
  unfold pcB
  rw [pcs_miss c _ (by rw [data_len]; exact h), List.map_singleton, bA_data]
theorem count_le_size (c : UInt8) (s : ByteArray) : s.data.toList.count c ≤ s.size := by rw [← data_len]; exact List.count_le_length
set_option maxRecDepth 100000 in
set_option maxHeartbeats 4000000 in
theorem gsplit1 (s : ByteArray) (c : UInt8) (w : World) (hs : s.size ≤ 1048576) :
    Calls Tryd.prog 92 #[.string s, .string ⟨#[c]⟩, .int .i64 0, .int .i64 (-1)] w fun e w' => e = .returned (.slice (some ⟨w.heap.size, 0, none⟩) (pcB c s).length (pcB c s).length) ∧ Nw w w' ∧ LayS w' w.heap.size (pcB c s) (pcB c s).length := by
  have hle := count_le_size c s
  have hlen := pcB_len c s
  have HN : Hid ((pcB c s).length = s.data.toList.count c + 1) := hlen
  rw [hlen]
  clear hlen
  generalize hcnt : s.data.toList.count c = cnt at *
  have hmk := run_mk 52 9 _ 1 16 Tryd.underlying52 Tryd.info9 (cnt + 1) (by omega) (by omega)
  have hcs : (Value.string ⟨#[]⟩).cells = #[.string ⟨#[]⟩] := rfl
  rw [hcs, Nat.mul_one, show ((cnt + 1 : Nat) : Int) = (cnt : Int) + 1 from rfl] at hmk
  have HC : Hid (Calls Tryd.prog 120 #[.string s, .string ⟨#[c]⟩] w fun e w' => e = .returned (.int .i64 (cnt : Nat)) ∧ w' = w) := by
    have := cnt1 s c w
    rw [hcnt] at this
    exact this
  have HCN : Hid (s.data.toList.count c = cnt) := hcnt
  clear hcnt
  have hne : (⟨#[c]⟩ : ByteArray).size = 1 := rfl
  have HST : ∀ t, Hid (LayS (w.alloc (.cells (madeCells #[.string ⟨#[]⟩] (cnt + 1)) t)) w.heap.size (pcB c s) 0) := fun t => by
    have := LayS.start w (pcB c s) t
    rw [HN.out] at this
    exact this
  go_enter Tryd.func92, Tryd.ntmps92
  go_wp2_with (go_at_call 120; refine HC.out.mono ?_; rintro e w' ⟨rfl, hq⟩; have hq2 := hq.symm; clear hq; subst hq2)
  clear HC hmk hcs
  go_loopw [0, 10] (fun x i wr => ∃ (k : Nat) (r : ByteArray), k ≤ cnt ∧ i = .int .i64 k ∧ x = .string r ∧ r.size ≤ s.size ∧ r.data.toList.count c = cnt - k ∧ (∀ j, strAt (pcB c s) (k + j) = strAt (pcB c r) j) ∧ Nw w wr ∧ LayS wr w.heap.size (pcB c s) k) (fun _ i _ => cnt - (intOf i).toNat)
  case atStart => exact ⟨0, s, Nat.zero_le _, rfl, rfl, Nat.le_refl _, HCN.out, fun j => by rw [Nat.zero_add], (Below.refl _ _).alloc (Nat.le_refl _) _, (HST _).out⟩
  case round =>
    obtain ⟨k, r, hk, rfl, rfl, hrs, hrc, hrp, hw, hl⟩ := hrel
    have HW : Hid (Nw w wr) := hw
    have HL : Hid (LayS wr w.heap.size (pcB c s) k) := hl
    have HRP : Hid (∀ j, strAt (pcB c s) (k + j) = strAt (pcB c r) j) := hrp
    have HRC : Hid (r.data.toList.count c = cnt - k) := hrc
    have z0 := hl.2.2.1 k (Nat.le_refl _) (by rw [HN.out]; omega)
    have zf := hl.2.2.2
    have hg : w.heap.size < wr.heap.size := hl.1
    clear hw hl hrp hrc
    by_cases hlt : k < cnt
    · have hb : brk c r.data.toList < r.size := by
        rw [← data_len]
        exact pcs_cnt (by rw [HRC.out]; omega)
      have HI : Hid (firstIdx r c = (brk c r.data.toList : Nat)) := by show firstIdx r c = _; rw [firstIdx_brk, if_pos hb]
      have HH : Hid _ := pcB_hit c r hb
      generalize brk c r.data.toList = m at *
      have hltI : (k : Int) < (cnt : Int) := by omega
      go_wp2_with (go_at_call 121; refine (ix1 r c _).mono ?_; rw [HI.out]; rintro e w' ⟨rfl, hq⟩; have hq2 := hq.symm; clear hq; subst hq2)
      go_roundw
      case rel =>
        have hx : strAt (pcB c s) k = r.extract 0 m := by have := HRP.out 0; rw [HH.out] at this; exact this
        have hc2 : (r.extract (m + 1) r.size).data.toList.count c = cnt - (k + 1) := by
          have e1 := pcB_len c r
          have e2 := pcB_len c (r.extract (m + 1) r.size)
          rw [HH.out, HRC.out, List.length_cons, e2] at e1
          omega
        refine ⟨k + 1, r.extract (m + 1) r.size, by omega, by go_num, by first | rfl | simp, by rw [ByteArray.size_extract]; omega, hc2, fun j => ?_, HW.out.setCell (Nat.le_refl _) _, ?_⟩
        · have := HRP.out (j + 1)
          rw [HH.out] at this
          rw [show k + 1 + j = k + (j + 1) by omega, this]
          rfl
        · have := LayS.step HL.out (by rw [HN.out]; omega)
          rw [hx] at this
          simpa using this
      case measure => simp [intOf]; omega
    · have e : k = cnt := by omega
      subst e
      have hb : ¬ brk c r.data.toList < r.size := by
        intro h
        have e1 := pcB_len c r
        rw [pcB_hit c r h, HRC.out, List.length_cons, pcB_len] at e1
        omega
      have hx : strAt (pcB c s) k = r := by have := HRP.out 0; rw [pcB_miss c r hb] at this; exact this
      have HL2 : Hid _ := LayS.step HL.out (by rw [HN.out]; omega)
      rw [hx] at HL2
      clear hx hb
      go_wp2
      go_ret
      exact ⟨by first | rfl | simp, HW.out.setCell (Nat.le_refl _) _, HL2.out⟩
end Go.Proofs.YtnkmdmmlpidcmaaDoor
