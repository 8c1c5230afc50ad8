/-
  What the library's Index, Cut, Count and Split answer at a separator of one byte, for texts of at most 1048576 bytes.
  A mark as a text: what the laws' helper makes of a number; each theorem names its conditions.
  Marks laid into a list of texts and looked for: what the laws' helpers do; each theorem names its conditions.
  Rows of texts and of parts with memory of their own, and marks in them; each theorem names its conditions.
-/
import Derived.Test.YtnkmdmmlpidcmaaGreatDoorJAE
import Derived.Lib.Bytealg
import Derived.Test.YtnkmdmmlpidcmaaGreatDoorJAB
import Derived.Lib.SlBytesRow
import Derived.Test.YtnkmdmmlpidcmaaGreatDoorJAD
import Derived.Test.YtnkmdmmlpidcmaaGreatDoorJAC
namespace Go.Proofs.YtnkmdmmlpidcmaaGreatDoor
open Go.ChangeShapes Go.WideShapes Go.ChangeAt Go.RowKit
set_option linter.unusedVariables false

theorem ix1s (s : ByteArray) (c : UInt8) (w : World) : (callFunc 185 #[.string s, .int .u8 (c.toNat : Int)]).run Tryz.prog w = .ok (.value (.int .i64 (firstIdx s c))) w := by
  rw [run_callFunc_extern Tryz.func185 (by kernel_rfl) (by kernel_rfl) (by kernel_rfl) (e := Extern.BytealgIndexByte.indexByte) (by kernel_rfl), run_indexByte_string]
  simp [Result.andThen]
theorem cn1s (s : ByteArray) (c : UInt8) (w : World) : (callFunc 176 #[.string s, .int .u8 (c.toNat : Int)]).run Tryz.prog w = .ok (.value (.int .i64 (s.data.toList.count c : Nat))) w := by
  rw [run_callFunc_extern Tryz.func176 (by kernel_rfl) (by kernel_rfl) (by kernel_rfl) (e := Extern.BytealgCount.count) (by kernel_rfl), Lib.run_countString]
  simp [Result.andThen, Lib.countByte]
set_option maxHeartbeats 400000 in
theorem ib1 (s : ByteArray) (c : UInt8) (w : World) :
    Calls Tryz.prog 172 #[.string s, .int .u8 (c.toNat : Int)] w fun e w' => e = .returned (.int .i64 (firstIdx s c)) ∧ w' = w := by
  have H : Hid _ := ix1s s c
  go_enter Tryz.func172, Tryz.ntmps172
  go_wp2_with (simp only [H.out])
  go_ret
  exact ⟨rfl, rfl⟩
theorem one_eq {s : ByteArray} {c : UInt8} (h : ([c] == s.toList) = true) : s = ⟨#[c]⟩ := by
  rw [beq_iff_eq, ByteArray.toList_eq] at h
  rw [← bA_data s, ← h]
  rfl
set_option maxHeartbeats 1000000 in
theorem ixl1 (s : ByteArray) (c : UInt8) (w : World) :
    Calls Tryz.prog 147 #[.string s, .string ⟨#[c]⟩] w fun e w' => e = .returned (.int .i64 (firstIdx s c)) ∧ w' = w := by
  by_cases he : ([c] == s.toList) = true
  · have HZ : Hid (firstIdx s c = 0) := by
      show firstIdx s c = 0
      obtain rfl := one_eq he
      rw [firstIdx_brk]
      have : brk c (⟨#[c]⟩ : ByteArray).data.toList = 0 := by simp [brk]
      rw [this]; rfl
    go_enter Tryz.func147, Tryz.ntmps147
    go_wp2_with (go_at_call 172; fail)
    go_ret
    exact ⟨ret_int HZ.out.symm, rfl⟩
  · have hf : ([c] == s.toList) = false := by simpa using he
    clear he
    go_enter Tryz.func147, Tryz.ntmps147
    go_wp2_with (go_at_call 172; refine (ib1 s c _).mono ?_; rintro e w' ⟨rfl, rfl⟩)
    go_ret
    exact ⟨rfl, rfl⟩
theorem ix1 (s : ByteArray) (c : UInt8) (w : World) :
    Calls Tryz.prog 157 #[.string s, .string ⟨#[c]⟩] w fun e w' => e = .returned (.int .i64 (firstIdx s c)) ∧ w' = w := by
  go_enter Tryz.func157, Tryz.ntmps157
  go_wp2_with (go_at_call 147; refine (ixl1 s c _).mono ?_; rintro e w' ⟨rfl, rfl⟩)
  go_ret
  exact ⟨rfl, rfl⟩
set_option maxRecDepth 100000 in
theorem cnt1 (s : ByteArray) (c : UInt8) (w : World) :
    Calls Tryz.prog 156 #[.string s, .string ⟨#[c]⟩] w fun e w' => e = .returned (.int .i64 (s.data.toList.count c : Nat)) ∧ w' = w := by
  have h1 : 0 < (⟨#[c]⟩ : ByteArray).size := Nat.zero_lt_one
  have H : Hid (∀ w : World, (callFunc 176 #[.string s, .int .u8 (((⟨#[c]⟩ : ByteArray)[0]'h1).toNat : Int)]).run Tryz.prog w = .ok (.value (.int .i64 (s.data.toList.count c : Nat))) w) := cn1s s c
  generalize s.data.toList.count c = N at *
  go_enter Tryz.func156, Tryz.ntmps156
  go_wp2_with (simp only [H.out])
  go_ret
  exact ⟨rfl, rfl⟩
/-- What Cut answers. -/
def cutV (c : UInt8) (s : ByteArray) : Value := if brk c s.data.toList < s.size then .tuple #[.string (s.extract 0 (brk c s.data.toList)), .string (s.extract (brk c s.data.toList + 1) s.size), .bool true] else .tuple #[.string s, .string ⟨#[]⟩, .bool false]
set_option maxHeartbeats 1000000 in
theorem cutl1 (s : ByteArray) (c : UInt8) (w : World) (hs : s.size ≤ 1048576) :
    Calls Tryz.prog 107 #[.string s, .string ⟨#[c]⟩] w fun e w' => e = .returned (cutV c s) ∧ Nw w w' := by
  by_cases h : brk c s.data.toList < s.size
  · have HV : Hid (cutV c s = .tuple #[.string (s.extract 0 (brk c s.data.toList)), .string (s.extract (brk c s.data.toList + 1) s.size), .bool true]) := by show cutV c s = _; unfold cutV; rw [if_pos h]
    have HI : Hid (firstIdx s c = (brk c s.data.toList : Nat)) := by show firstIdx s c = _; rw [firstIdx_brk, if_pos h]
    generalize brk c s.data.toList = k at *
    have hne : (⟨#[c]⟩ : ByteArray).size = 1 := rfl
    go_enter Tryz.func107, Tryz.ntmps107
    go_wp2_with fail
    refine (ixl1 s c _).mono ?_
    rintro e w' ⟨rfl, rfl⟩
    rw [HI.out]
    go_wp2
    go_region
    all_goals go_wp2
    all_goals go_ret3
    all_goals
      refine ⟨by rw [HV.out]; try rfl, ?_⟩
      exact (Below.refl _ _).drew
  · have HV : Hid (cutV c s = .tuple #[.string s, .string ⟨#[]⟩, .bool false]) := by show cutV c s = _; unfold cutV; rw [if_neg h]
    have HI : Hid (firstIdx s c = -1) := by show firstIdx s c = _; rw [firstIdx_brk, if_neg h]
    clear h
    go_enter Tryz.func107, Tryz.ntmps107
    go_wp2_with fail
    refine (ixl1 s c _).mono ?_
    rintro e w' ⟨rfl, rfl⟩
    rw [HI.out]
    go_wp2
    go_ret3
    exact ⟨by rw [HV.out]; rfl, Below.refl _ _⟩
theorem cut1 (s : ByteArray) (c : UInt8) (w : World) (hs : s.size ≤ 1048576) :
    Calls Tryz.prog 67 #[.string s, .string ⟨#[c]⟩] w fun e w' => e = .returned (cutV c s) ∧ Nw w w' := by
  by_cases h : brk c s.data.toList < s.size
  · have HV : Hid (cutV c s = .tuple #[.string (s.extract 0 (brk c s.data.toList)), .string (s.extract (brk c s.data.toList + 1) s.size), .bool true]) := by show cutV c s = _; unfold cutV; rw [if_pos h]
    go_enter Tryz.func67, Tryz.ntmps67
    go_wp2_with (go_at_call 107; refine (cutl1 s c _ hs).mono ?_; rintro e w' ⟨rfl, k1⟩; rw [HV.out])
    go_ret3
    exact ⟨by rw [HV.out]; rfl, k1⟩
  · have HV : Hid (cutV c s = .tuple #[.string s, .string ⟨#[]⟩, .bool false]) := by show cutV c s = _; unfold cutV; rw [if_neg h]
    go_enter Tryz.func67, Tryz.ntmps67
    go_wp2_with (go_at_call 107; refine (cutl1 s c _ hs).mono ?_; rintro e w' ⟨rfl, k1⟩; rw [HV.out])
    go_ret3
    exact ⟨by rw [HV.out]; rfl, k1⟩
/-! ### Split -/
theorem pcs_cnt {c : UInt8} {l : List UInt8} (h : 0 < l.count c) : brk c l < l.length := by
  by_cases hb : brk c l < l.length
  · exact hb
  · have := pcs_len c l
    rw [pcs_miss c l hb] at this
    simp at this
    omega
theorem ext_tail (s : ByteArray) (k : Nat) : s.extract k s.size = bA (s.data.toList.drop k) := by
  rw [ext_bA]
  have : s.data.toList.take s.size = s.data.toList := by rw [← data_len]; exact List.take_length
  rw [this]
theorem ext_head (s : ByteArray) (k : Nat) : s.extract 0 k = bA (s.data.toList.take k) := by rw [ext_bA, List.drop_zero]
def pcB (c : UInt8) (s : ByteArray) : List ByteArray := (pcs c s.data.toList).map bA
theorem pcB_len (c : UInt8) (s : ByteArray) : (pcB c s).length = s.data.toList.count c + 1 := by unfold pcB; rw [List.length_map, pcs_len]
theorem pcB_hit (c : UInt8) (s : ByteArray) (h : brk c s.data.toList < s.size) : pcB c s = s.extract 0 (brk c s.data.toList) :: pcB c (s.extract (brk c s.data.toList + 1) s.size) := by
  unfold pcB
  rw [pcs_hit c _ (by rw [data_len]; exact h), ext_tail, ext_head, bA_list]
  rfl
theorem pcB_miss (c : UInt8) (s : ByteArray) (h : ¬ brk c s.data.toList < s.size) : pcB c s = [s] := by
  unfold pcB
  rw [pcs_miss c _ (by rw [data_len]; exact h), List.map_singleton, bA_data]
theorem count_le_size (c : UInt8) (s : ByteArray) : s.data.toList.count c ≤ s.size := by rw [← data_len]; exact List.count_le_length
set_option maxRecDepth 100000 in
set_option maxHeartbeats 4000000 in
theorem gsplit1 (s : ByteArray) (c : UInt8) (w : World) (hs : s.size ≤ 1048576) :
    Calls Tryz.prog 111 #[.string s, .string ⟨#[c]⟩, .int .i64 0, .int .i64 (-1)] w fun e w' => e = .returned (.slice (some ⟨w.heap.size, 0, none⟩) (pcB c s).length (pcB c s).length) ∧ Nw w w' ∧ LayS w' w.heap.size (pcB c s) (pcB c s).length := by
  have hle := count_le_size c s
  have hlen := pcB_len c s
  have HN : Hid ((pcB c s).length = s.data.toList.count c + 1) := hlen
  rw [hlen]
  clear hlen
  generalize hcnt : s.data.toList.count c = cnt at *
  have hmk := run_mk 65 9 _ 1 16 Tryz.underlying65 Tryz.info9 (cnt + 1) (by omega) (by omega)
  have hcs : (Value.string ⟨#[]⟩).cells = #[.string ⟨#[]⟩] := rfl
  rw [hcs, Nat.mul_one, show ((cnt + 1 : Nat) : Int) = (cnt : Int) + 1 from rfl] at hmk
  have HC : Hid (Calls Tryz.prog 156 #[.string s, .string ⟨#[c]⟩] w fun e w' => e = .returned (.int .i64 (cnt : Nat)) ∧ w' = w) := by
    have := cnt1 s c w
    rw [hcnt] at this
    exact this
  have HCN : Hid (s.data.toList.count c = cnt) := hcnt
  clear hcnt
  have hne : (⟨#[c]⟩ : ByteArray).size = 1 := rfl
  have hmn : min (cnt : Int) (s.size : Int) = (cnt : Int) := by omega
  have HST : ∀ t, Hid (LayS (w.alloc (.cells (madeCells #[.string ⟨#[]⟩] (cnt + 1)) t)) w.heap.size (pcB c s) 0) := fun t => by
    have := LayS.start w (pcB c s) t
    rw [HN.out] at this
    exact this
  go_enter Tryz.func111, Tryz.ntmps111
  go_wp2_with (go_at_call 156; refine HC.out.mono ?_; rintro e w' ⟨rfl, hq⟩; have hq2 := hq.symm; clear hq; subst hq2)
  clear HC hmk hcs
  go_loopw [0, 10] (fun x i wr => ∃ (k : Nat) (r : ByteArray), k ≤ cnt ∧ i = .int .i64 k ∧ x = .string r ∧ r.size ≤ s.size ∧ r.data.toList.count c = cnt - k ∧ (∀ j, strAt (pcB c s) (k + j) = strAt (pcB c r) j) ∧ Nw w wr ∧ LayS wr w.heap.size (pcB c s) k) (fun _ i _ => cnt - (intOf i).toNat)
  case atStart => exact ⟨0, s, Nat.zero_le _, rfl, rfl, Nat.le_refl _, HCN.out, fun j => by rw [Nat.zero_add], (Below.refl _ _).alloc (Nat.le_refl _) _, (HST _).out⟩
  case round =>
    obtain ⟨k, r, hk, rfl, rfl, hrs, hrc, hrp, hw, hl⟩ := hrel
    have HW : Hid (Nw w wr) := hw
    have HL : Hid (LayS wr w.heap.size (pcB c s) k) := hl
    have HRP : Hid (∀ j, strAt (pcB c s) (k + j) = strAt (pcB c r) j) := hrp
    have HRC : Hid (r.data.toList.count c = cnt - k) := hrc
    have z0 := hl.2.2.1 k (Nat.le_refl _) (by rw [HN.out]; omega)
    have zf := hl.2.2.2
    have hg : w.heap.size < wr.heap.size := hl.1
    clear hw hl hrp hrc
    by_cases hlt : k < cnt
    · have hb : brk c r.data.toList < r.size := by
        rw [← data_len]
        exact pcs_cnt (by rw [HRC.out]; omega)
      have HI : Hid (firstIdx r c = (brk c r.data.toList : Nat)) := by show firstIdx r c = _; rw [firstIdx_brk, if_pos hb]
      have HH : Hid _ := pcB_hit c r hb
      generalize brk c r.data.toList = m at *
      have hltI : (k : Int) < (cnt : Int) := by omega
      go_wp2_with (go_at_call 157; refine (ix1 r c _).mono ?_; rw [HI.out]; rintro e w' ⟨rfl, hq⟩; have hq2 := hq.symm; clear hq; subst hq2)
      go_roundw
      case rel =>
        have hx : strAt (pcB c s) k = r.extract 0 m := by have := HRP.out 0; rw [HH.out] at this; exact this
        have hc2 : (r.extract (m + 1) r.size).data.toList.count c = cnt - (k + 1) := by
          have e1 := pcB_len c r
          have e2 := pcB_len c (r.extract (m + 1) r.size)
          rw [HH.out, HRC.out, List.length_cons, e2] at e1
          omega
        refine ⟨k + 1, r.extract (m + 1) r.size, by omega, by go_num, by first | rfl | simp, by rw [ByteArray.size_extract]; omega, hc2, fun j => ?_, HW.out.setCell (Nat.le_refl _) _, ?_⟩
        · have := HRP.out (j + 1)
          rw [HH.out] at this
          rw [show k + 1 + j = k + (j + 1) by omega, this]
          rfl
        · have := LayS.step HL.out (by rw [HN.out]; omega)
          rw [hx] at this
          simpa using this
      case measure => simp [intOf]; omega
    · have e : k = cnt := by omega
      subst e
      have hb : ¬ brk c r.data.toList < r.size := by
        intro h
        have e1 := pcB_len c r
        rw [pcB_hit c r h, HRC.out, List.length_cons, pcB_len] at e1
        omega
      have hx : strAt (pcB c s) k = r := by have := HRP.out 0; rw [pcB_miss c r hb] at this; exact this
      have HL2 : Hid _ := LayS.step HL.out (by rw [HN.out]; omega)
      rw [hx] at HL2
      clear hx hb
      go_wp2
      go_ret
      exact ⟨by first | rfl | simp, HW.out.setCell (Nat.le_refl _) _, HL2.out⟩
end Go.Proofs.YtnkmdmmlpidcmaaGreatDoor
namespace Go.Proofs.YtnkmdmmlpidcmaaGreatDoor
open Go.ChangeShapes Go.WideShapes Go.ChangeAt Go.RowKit
set_option linter.unusedVariables false

/-- The digits of a number. -/
def digT : Nat → Nat → ByteArray → ByteArray
  | 0, _, s => s
  | f + 1, n, s => if n = 0 then s else digT f (n / 10) ((⟨#[UInt8.ofNat (48 + n % 10)]⟩ : ByteArray) ++ s)
theorem digT_fuel : ∀ (f g n : Nat) (s : ByteArray), n ≤ f → n ≤ g → digT f n s = digT g n s
  | 0, 0, _, _, _, _ => rfl
  | 0, g + 1, n, s, h, _ => by
    have : n = 0 := by omega
    subst this; rfl
  | f + 1, 0, n, s, _, h => by
    have : n = 0 := by omega
    subst this; rfl
  | f + 1, g + 1, n, s, h1, h2 => by
    unfold digT
    by_cases h : n = 0
    · rw [if_pos h, if_pos h]
    · rw [if_neg h, if_neg h]
      exact digT_fuel f g (n / 10) _ (by omega) (by omega)
def markT (n : Nat) : ByteArray := (⟨#[109]⟩ : ByteArray) ++ digT n n ⟨#[]⟩
theorem digT_step (n : Nat) (s : ByteArray) (h : ¬ n = 0) : digT n n s = digT (n / 10) (n / 10) ((⟨#[UInt8.ofNat (48 + n % 10)]⟩ : ByteArray) ++ s) := by
  obtain ⟨f, rfl⟩ : ∃ f, n = f + 1 := ⟨n - 1, by omega⟩
  conv => lhs; unfold digT
  rw [if_neg h]
  exact digT_fuel f _ _ _ (by omega) (Nat.le_refl _)
theorem conv_byte (w : World) (c : UInt8) : (convert 22 9 (.slice (some ⟨w.heap.size, 0, none⟩) 1 1)).run Tryz.prog (w.alloc (.cells #[.int .u8 (c.toNat : Int)] 5)) = .ok (.string ⟨#[c]⟩) (w.alloc (.cells #[.int .u8 (c.toNat : Int)] 5)) := by
  have hu : Tryz.prog.underlying 9 = some .string := Tryz.underlying9
  have h8 : Tryz.prog.underlying 5 = some (.int .u8) := Tryz.underlying5
  refine Lib.run_convert_whole _ _ _ _ Tryz.underlying22 h8 hu w.heap.size 0 ⟨#[c]⟩ ?_ 1
  intro i hi
  have e : i = 0 := by have : (⟨#[c]⟩ : ByteArray).size = 1 := rfl; omega
  subst e
  simp; rfl
set_option maxHeartbeats 1000000 in
set_option maxRecDepth 100000 in
theorem markText_any (w : World) (n : Nat) (h1 : 1 ≤ n) (hn : n ≤ 100000000) : Calls Tryz.prog 55 #[.int .i64 (n : Int)] w fun e w' => e = .returned (.string (markT n)) ∧ Nw w w' := by
  have hpos : ¬ ((n : Int) ≤ 0) := by omega
  go_enter Tryz.func55, Tryz.ntmps55
  go_wp2
  go_loopw [0, 3] (fun x y wr => ∃ (m : Nat) (acc : ByteArray), x = .int .i64 m ∧ y = .string acc ∧ m ≤ n ∧ acc.size + m ≤ n ∧ digT m m acc = digT n n ⟨#[]⟩ ∧ Nw w wr) (fun x _ _ => (intOf x).toNat)
  case atStart => exact ⟨n, ⟨#[]⟩, rfl, rfl, Nat.le_refl _, Nat.le_of_eq (Nat.zero_add _), rfl, Below.refl _ _⟩
  case round =>
    obtain ⟨m, acc, rfl, rfl, hm, hz, hd, hw⟩ := hrel
    by_cases h0 : m = 0
    · subst h0
      have HX : Hid (markT n = (⟨#[109]⟩ : ByteArray) ++ acc) := by show markT n = _; unfold markT; rw [← hd]; rfl
      have HW : Hid (Nw w wr) := hw
      clear hd hw
      have hsz : (⟨#[109]⟩ : ByteArray).size = 1 := rfl
      go_wp2
      go_ret
      exact ⟨by rw [HX.out]; rfl, HW.out⟩
    · have hp : (0 : Int) < (m : Int) := by omega
      have HD : Hid (digT (m / 10) (m / 10) ((⟨#[UInt8.ofNat (48 + m % 10)]⟩ : ByteArray) ++ acc) = digT n n ⟨#[]⟩) := by show _ = _; rw [← digT_step m acc h0]; exact hd
      have HW : Hid (Nw w wr) := hw
      clear hd hw
      have ht : (m : Int).tmod 10 = ((m % 10 : Nat) : Int) := by rw [Int.tmod_eq_emod_of_nonneg (by omega)]; omega
      have hq : (m : Int).tdiv 10 = ((m / 10 : Nat) : Int) := by rw [Int.tdiv_eq_ediv_of_nonneg (by omega)]; omega
      have hcv := conv_byte wr (UInt8.ofNat (48 + m % 10))
      have hcn : (UInt8.ofNat (48 + m % 10)).toNat = 48 + m % 10 := by simp; omega
      rw [hcn, show ((48 + m % 10 : Nat) : Int) = 48 + (m : Int) % 10 by omega] at hcv
      clear hcn
      generalize UInt8.ofNat (48 + m % 10) = ch at *
      have hs1 : (⟨#[ch]⟩ : ByteArray).size = 1 := rfl
      go_wp2
      go_roundw
      case rel => exact ⟨m / 10, _, congrArg (Value.int .i64) (by omega), rfl, by omega, by rw [ByteArray.size_append, hs1]; omega, HD.out, HW.out.trans ((Below.refl _ _).alloc (Nat.le_refl _) _)⟩
      case measure => simp [intOf]; omega
end Go.Proofs.YtnkmdmmlpidcmaaGreatDoor
namespace Go.Proofs.YtnkmdmmlpidcmaaGreatDoor
open Go.ChangeShapes Go.WideShapes Go.ChangeAt Go.RowKit
set_option linter.unusedVariables false

def markL (K n : Nat) : List ByteArray := (List.range n).map fun i => markT (K + i)
theorem markL_len (K n : Nat) : (markL K n).length = n := by simp [markL]
theorem markL_at (K n i : Nat) (h : i < n) : strAt (markL K n) i = markT (K + i) := by simp [strAt, markL, h]
theorem grown_refl (w : World) (r : Option Nat) : w.grownBy w r := ⟨rfl, rfl, rfl, Nat.le_refl _, fun _ _ _ => rfl⟩
theorem grown_nw {a b c : World} {r : Option Nat} (h : a.grownBy b r) (k : Nw b c) : a.grownBy c r :=
  ⟨(Below.os k).trans h.os, (Below.tape k).trans h.tape, (Below.output k).trans h.output, Nat.le_trans h.size (Below.size k), fun i hi hne => (Below.block k i (Nat.lt_of_lt_of_le hi h.size)).trans (h.block i hi hne)⟩
theorem grown_set {a b : World} {g : Nat} (h : a.grownBy b (some g)) (o : Nat) (v : Value) : a.grownBy (b.setCell ⟨g, o, none⟩ v) (some g) :=
  ⟨h.os, h.tape, h.output, by simpa [World.setCell] using h.size, fun i hi hne => by
    rw [Below.heap_setCell _ _ _ _ (by intro e; apply hne; rw [e])]
    exact h.block i hi hne⟩
theorem grown_below {a b : World} {g B : Nat} (h : a.grownBy b (some g)) (hg : B ≤ g) (hB : B ≤ a.heap.size) : Below B a b :=
  ⟨h.os, h.tape, h.output, h.size, fun i hi => h.block i (by omega) (by intro e; injection e; omega)⟩
theorem Strs.grown {w w' : World} {b off g : Nat} {l : List ByteArray} (h : Strs w (some ⟨b, off, none⟩) l) (k : w.grownBy w' (some g)) (hne : b ≠ g) : Strs w' (some ⟨b, off, none⟩) l := by
  rcases h with h | ⟨b', off', e, hb, hc⟩
  · exact Or.inl h
  · injection e with e; injection e with e1 e2; subst e1 e2
    refine Or.inr ⟨b, off, rfl, Nat.lt_of_lt_of_le hb k.size, fun i hi => ?_⟩
    exact (World.cell?_of_block (w := w) (a := ⟨b, off + i, none⟩) (k.block b hb (by intro e; injection e; omega))).trans (hc i hi)
/-- A row of texts of which the first j bear marks. -/
def MkTo (w : World) (g K n j : Nat) : Prop :=
  g < w.heap.size ∧ (∀ i, i < j → w.cell? ⟨g, i, none⟩ = some (.string (markT (K + i)))) ∧ (∀ i, j ≤ i → i < n → ∃ s, w.cell? ⟨g, i, none⟩ = some (.string s)) ∧ ∀ o, w.frozen? ⟨g, o, none⟩ = false
theorem MkTo.nw {w w' : World} {g K n j : Nat} (h : MkTo w g K n j) (k : Nw w w') : MkTo w' g K n j :=
  ⟨Nat.lt_of_lt_of_le h.1 (Below.size k), fun i hi => ((bcell k).1 _ _ h.1).trans (h.2.1 i hi), fun i a b => by obtain ⟨s, e⟩ := h.2.2.1 i a b; exact ⟨s, ((bcell k).1 _ _ h.1).trans e⟩, fun o => ((bcell k).2 _ _ h.1).trans (h.2.2.2 o)⟩
theorem MkTo.step {w : World} {g K n j : Nat} (h : MkTo w g K n j) (hj : j < n) : MkTo (w.setCell ⟨g, j, none⟩ (.string (markT (K + j)))) g K n (j + 1) := by
  obtain ⟨h1, h2, h3, h4⟩ := h
  obtain ⟨s0, c0⟩ := h3 j (Nat.le_refl _) hj
  have far : ∀ o, o ≠ j → (w.setCell ⟨g, j, none⟩ (.string (markT (K + j)))).cell? ⟨g, o, none⟩ = w.cell? ⟨g, o, none⟩ := by
    intro o a
    rw [World.cell?_setCell_other _ _ _ _ (fun h => by injection h; omega)]
  refine ⟨by simpa [World.setCell] using h1, fun i hi => ?_, fun i a b => ?_, fun o => by rw [World.frozen?_setCell]; exact h4 o⟩
  · by_cases e : i = j
    · subst e; exact World.cell?_setCell_same w ⟨g, i, none⟩ _ c0
    · rw [far i e]; exact h2 i (by omega)
  · rw [far i (by omega)]; exact h3 i (by omega) b
theorem MkTo.lay {w : World} {g K n : Nat} (h : MkTo w g K n n) : LayS w g (markL K n) n :=
  ⟨h.1, fun i hi => by rw [markL_at K n i hi]; exact h.2.1 i hi, fun i a b => by rw [markL_len] at b; omega, h.2.2.2⟩
set_option maxHeartbeats 1000000 in
theorem markS_any (w : World) (g c K : Nat) (l : List ByteArray) (hl : l.length ≤ 1048576) (hK : 1 ≤ K) (hK2 : K ≤ 50000000) (h : LayS w g l l.length) :
    Calls Tryz.prog 117 #[.slice (some ⟨g, 0, none⟩) l.length c, .int .i64 (K : Int)] w fun e w' => e = .returned (.int .i64 ((K + l.length : Nat) : Int)) ∧ w.grownBy w' (some g) ∧ LayS w' g (markL K l.length) l.length := by
  have HS : Hid (MkTo w g K l.length 0) := ⟨h.1, fun i hi => absurd hi (by omega), fun i _ b => ⟨_, h.2.1 i b⟩, h.2.2.2⟩
  clear h
  go_enter Tryz.func117, Tryz.ntmps117
  go_wp2
  go_loopw [1, 5] (fun x i wr => ∃ j : Nat, j ≤ l.length ∧ i = .int .i64 j ∧ x = .int .i64 ((K + j : Nat) : Int) ∧ w.grownBy wr (some g) ∧ MkTo wr g K l.length j) (fun _ i _ => l.length - (intOf i).toNat)
  case atStart => exact ⟨0, Nat.zero_le _, rfl, rfl, grown_refl _ _, HS.out⟩
  case round =>
    obtain ⟨j, hj, rfl, rfl, hw, hm⟩ := hrel
    have HW : Hid (w.grownBy wr (some g)) := hw
    have HM : Hid (MkTo wr g K l.length j) := hm
    clear hw hm
    by_cases hlt : j < l.length
    · obtain ⟨s0, c0⟩ := HM.out.2.2.1 j (Nat.le_refl _) hlt
      have hf0 := HM.out.2.2.2
      have hg0 := HM.out.1
      go_wp2_with (go_at_call 55; refine Calls.mono (markText_any _ (K + j) (by omega) (by omega)) ?_; rintro e w1 ⟨rfl, k1⟩; have d0 := ((bcell k1).1 _ j hg0).trans c0; have df : ∀ o, w1.frozen? ⟨g, o, none⟩ = false := fun o => ((bcell k1).2 _ o hg0).trans (hf0 o))
      go_roundw
      case rel => exact ⟨j + 1, by omega, by go_num, by go_num, grown_set (grown_nw HW.out k1) _ _, (HM.out.nw k1).step hlt⟩
      case measure => simp [intOf]; omega
    · have e : j = l.length := by omega
      subst e
      go_wp2
      go_ret
      exact ⟨rfl, HW.out, HM.out.lay⟩
set_option maxHeartbeats 4000000 in
theorem heldS_any (w : World) (g c K n : Nat) (hl : n ≤ 1048576) (hK : 1 ≤ K) (hK2 : K ≤ 50000000) (h : LayS w g (markL K n) n) :
    Calls Tryz.prog 118 #[.slice (some ⟨g, 0, none⟩) n c, .int .i64 (K : Int)] w fun e w' => e = .returned (.int .i64 ((K + n : Nat) : Int)) ∧ Nw w w' := by
  have HS : Hid (LayS w g (markL K n) n) := h
  clear h
  go_enter Tryz.func118, Tryz.ntmps118
  go_wp2
  go_loopw [1, 5] (fun x i wr => ∃ j : Nat, j ≤ n ∧ i = .int .i64 j ∧ x = .int .i64 ((K + j : Nat) : Int) ∧ Nw w wr) (fun _ i _ => n - (intOf i).toNat)
  case atStart => exact ⟨0, Nat.zero_le _, rfl, rfl, Below.refl _ _⟩
  case round =>
    obtain ⟨j, hj, rfl, rfl, hw⟩ := hrel
    by_cases hlt : j < n
    · have hs := HS.out.nw hw
      have c0 := hs.2.1 j hlt
      have hg0 := hs.1
      rw [markL_at K n j hlt] at c0
      have HW : Hid (Nw w wr) := hw
      clear hw hs
      have hg1 : g < wr.drew.heap.size := hg0
      have C1 : wr.drew.cell? ⟨g, j, none⟩ = some (.string (markT (K + j))) := c0
      go_wp2
      go_region_with (go_at_call 55; refine Calls.mono (markText_any _ (K + j) (by omega) (by omega)) ?_; rintro e w1 ⟨rfl, k1⟩; have d0 := ((bcell k1).1 _ j hg1).trans C1)
      all_goals
        go_wp2
        go_roundw
        case rel => exact ⟨j + 1, by omega, by go_num, by go_num, HW.out.trans k1.drw⟩
        case measure => simp [intOf]; omega
    · have e : j = n := by omega
      subst e
      have HW : Hid (Nw w wr) := hw
      clear hw
      go_wp2
      go_ret
      exact ⟨rfl, HW.out⟩
end Go.Proofs.YtnkmdmmlpidcmaaGreatDoor
namespace Go.Proofs.YtnkmdmmlpidcmaaGreatDoor
open Go.ChangeShapes Go.WideShapes Go.ChangeAt Go.RowKit
set_option linter.unusedVariables false

def EStr : Els ByteArray := fun _ cs x _ => cs = [.string x]
theorem EStr.kept : KeptE EStr := fun w w' cs x F G h _ _ => h
def EPart : Els PD := fun w cs p F => ∃ u, cs = [.string p.ty, .string p.id, u] ∧ RowM 1 EStr w u p.cls F
theorem EPart.kept : KeptE EPart := fun w w' cs x F G ⟨u, h1, h2⟩ k d => ⟨u, h1, h2.kept EStr.kept k d⟩
theorem el_at {α : Type} {els : List (El α)} {xs : List α} (h : els.map El.x = xs) (i : Nat) (hi : i < xs.length) (d : α) : ∃ e, els[i]? = some e ∧ e.x = xs.getD i d := by
  subst h
  rw [List.length_map] at hi
  refine ⟨els[i], List.getElem?_eq_getElem hi, ?_⟩
  simp [hi]
theorem RowM.lay {w : World} {v : Value} {l : List ByteArray} {F : Nat → Prop} (h : RowM 1 EStr w v l F) : (v = .slice none 0 0 ∧ l = []) ∨ ∃ g c, v = .slice (some ⟨g, 0, none⟩) l.length c ∧ l.length ≤ c ∧ F g ∧ LayS w g l l.length := by
  rcases h with h | ⟨g, c, els, h1, h2, h3, h4⟩
  · exact Or.inl h
  · refine Or.inr ⟨g, c, h1, h2, h4.inF, h4.lt, fun i hi => ?_, fun i a b => absurd b (by omega), h4.fz⟩
    obtain ⟨e, he, hx⟩ := el_at h3 i hi ⟨#[]⟩
    have hc := (h4.el e (List.mem_of_getElem? he)).1
    have := h4.cell i e he 0 (.string e.x) (by rw [hc]; rfl)
    rw [hx] at this
    simpa [strAt] using this
theorem RowM.ofLay {w : World} {g c : Nat} {l : List ByteArray} {F : Nat → Prop} (h : LayS w g l l.length) (hF : F g) (hc : l.length ≤ c) : RowM 1 EStr w (.slice (some ⟨g, 0, none⟩) l.length c) l F := by
  refine Or.inr ⟨g, c, l.map fun s => ⟨s, [.string s], fun _ => False⟩, rfl, hc, by rw [List.map_map]; exact List.map_id l, h.1, h.2.2.2, hF, fun i e hi j u hj => ?_, fun e he => ?_, ?_⟩
  · rw [List.getElem?_map, Option.map_eq_some_iff] at hi
    obtain ⟨s, hs, rfl⟩ := hi
    have hi' := (List.getElem?_eq_some_iff.1 hs).1
    have hv := (List.getElem?_eq_some_iff.1 hs).2
    cases j with
    | zero =>
      simp at hj
      subst hj
      have := h.2.1 i hi'
      rw [Nat.mul_one, Nat.add_zero, this]
      simp [strAt, hi', hv]
    | succ j => simp at hj
  · obtain ⟨s, _, rfl⟩ := List.mem_map.1 he
    exact ⟨rfl, rfl, (fun b hb => hb.elim)⟩
  · rw [List.pairwise_iff_getElem]
    intro i j hi hj _ b hb
    simp at hb
theorem RowM.strs {w : World} {v : Value} {l : List ByteArray} {F : Nat → Prop} (h : RowM 1 EStr w v l F) : ∃ a c, v = .slice a l.length c ∧ l.length ≤ c ∧ Strs w a l := by
  rcases h.lay with ⟨h1, h2⟩ | ⟨g, c, h1, h2, _, h3⟩
  · exact ⟨none, 0, by rw [h2]; exact h1, by rw [h2]; exact Nat.le_refl _, Or.inl h2⟩
  · exact ⟨_, c, h1, h2, h3.strs⟩
theorem RowM.parts {w : World} {v : Value} {l : List PD} {F : Nat → Prop} (h : RowM 3 EPart w v l F) : ∃ a c, v = .slice a l.length c ∧ l.length ≤ c ∧ Parts w a l := by
  rcases h with ⟨h1, h2⟩ | ⟨g, c, els, h1, h2, h3, h4⟩
  · exact ⟨none, 0, by rw [h2]; exact h1, by rw [h2]; exact Nat.le_refl _, Or.inl h2⟩
  · refine ⟨_, c, h1, h2, Or.inr ⟨g, 0, rfl, h4.lt, fun i hi => ?_⟩⟩
    obtain ⟨e, he, hx⟩ := el_at h3 i hi noPD
    obtain ⟨u, hc, hu⟩ := (h4.el e (List.mem_of_getElem? he)).1
    have c0 := h4.cell i e he 0 (.string e.x.ty) (by rw [hc]; rfl)
    have c1 := h4.cell i e he 1 (.string e.x.id) (by rw [hc]; rfl)
    have c2 := h4.cell i e he 2 u (by rw [hc]; rfl)
    have hp : partAt l i = e.x := hx.symm
    rw [hp]
    obtain ⟨a, c', hv, hcap, hs⟩ := hu.strs
    rw [hv] at c2
    exact ⟨by simpa using c0, by simpa using c1, a, c', by simpa using c2, hcap, hs⟩
theorem RowM.ofTxs {w : World} {B : Nat} {v : Value} {l : List ByteArray} (h : Txs w B v l) {F : Nat → Prop} (hF : ∀ b, B ≤ b → b < w.heap.size → F b) : RowM 1 EStr w v l F := by
  rcases h.2 with ⟨hn, h0⟩ | ⟨g, cap, cur, h1, h2, h3, h4, _⟩
  · exact Or.inl ⟨hn, List.eq_nil_of_length_eq_zero h0⟩
  · rcases h.lay with ⟨hv, _⟩ | ⟨g2, c2, e2, hg2, hl⟩
    · rw [h1] at hv; cases hv
    · rw [h1] at e2
      injection e2 with e3 e4 e5
      injection e3 with e3
      injection e3 with e3
      subst e3 e5
      subst h1
      exact RowM.ofLay hl (hF g hg2 hl.1) h4
/-! ### Marks -/
def cntP (p : PD) : Nat := 2 + p.cls.length
def mkP (K : Nat) (p : PD) : PD := ⟨markT K, markT (K + 1), markL (K + 2) p.cls.length⟩
def mkPs : Nat → List PD → List PD
  | _, [] => []
  | K, p :: l => mkP K p :: mkPs (K + cntP p) l
def cntPs (l : List PD) : Nat := (l.map cntP).sum
theorem mkPs_len (l : List PD) : ∀ K, (mkPs K l).length = l.length := by
  induction l with
  | nil => intro K; rfl
  | cons p l ih => intro K; simp [mkPs, ih]
theorem mkPs_at (l : List PD) : ∀ K k, k < l.length → (mkPs K l)[k]? = some (mkP (K + cntPs (l.take k)) (partAt l k)) := by
  induction l with
  | nil => intro K k h; simp at h
  | cons p l ih =>
    intro K k h
    cases k with
    | zero => simp [mkPs, cntPs, partAt]
    | succ k =>
      have := ih (K + cntP p) k (by simpa using h)
      simp only [mkPs, List.getElem?_cons_succ, this]
      simp [cntPs, partAt, Nat.add_assoc]
theorem cntPs_step (l : List PD) (k : Nat) (h : k < l.length) : cntPs (l.take (k + 1)) = cntPs (l.take k) + cntP (partAt l k) := by
  unfold cntPs partAt
  rw [List.take_succ_eq_append_getElem h, List.map_append, List.sum_append]
  simp [h]
theorem cntPs_le (l : List PD) (k : Nat) : cntPs (l.take k) ≤ cntPs l := by
  unfold cntPs
  conv => rhs; rw [← List.take_append_drop k l, List.map_append, List.sum_append]
  omega
theorem cntPs_len (l : List PD) : l.length ≤ cntPs l := by
  unfold cntPs
  induction l with
  | nil => simp
  | cons p l ih => simp [cntP]; omega
theorem markSt_any (w : World) (v : Value) (K : Nat) (l : List ByteArray) (F : Nat → Prop) (hl : l.length ≤ 1048576) (hK : 1 ≤ K) (hK2 : K ≤ 50000000) (h : RowM 1 EStr w v l F) :
    Calls Tryz.prog 117 #[v, .int .i64 (K : Int)] w fun e w' => e = .returned (.int .i64 ((K + l.length : Nat) : Int)) ∧ Wr F w w' ∧ RowM 1 EStr w' v (markL K l.length) F := by
  rcases h.lay with ⟨rfl, rfl⟩ | ⟨g, c, rfl, hc, hF, hl2⟩
  · clear h
    go_enter Tryz.func117, Tryz.ntmps117
    go_wp2
    go_loopw [1, 5] (fun x i wr => x = .int .i64 (K : Int) ∧ i = .int .i64 0 ∧ wr = w) (fun _ _ _ => 0)
    case atStart => exact ⟨rfl, rfl, rfl⟩
    case round =>
      obtain ⟨rfl, rfl, rfl⟩ := hrel
      go_wp2
      go_ret
      exact ⟨rfl, Wr.refl _ _, Or.inl ⟨rfl, rfl⟩⟩
  · refine (markS_any w g c K l hl hK hK2 hl2).mono ?_
    rintro e w' ⟨rfl, k1, k2⟩
    refine ⟨rfl, Wr.grown k1 hF, ?_⟩
    have := RowM.ofLay (c := c) (F := F) (w := w') (g := g) (l := markL K l.length) (by rw [markL_len]; exact k2) hF (by rw [markL_len]; exact hc)
    rw [markL_len] at this
    exact this
theorem heldSt_any (w : World) (v : Value) (K n : Nat) (F : Nat → Prop) (hl : n ≤ 1048576) (hK : 1 ≤ K) (hK2 : K ≤ 50000000) (h : RowM 1 EStr w v (markL K n) F) :
    Calls Tryz.prog 118 #[v, .int .i64 (K : Int)] w fun e w' => e = .returned (.int .i64 ((K + n : Nat) : Int)) ∧ Nw w w' := by
  rcases h.lay with ⟨rfl, h0⟩ | ⟨g, c, rfl, hc, hF, hl2⟩
  · have hn : n = 0 := by have := congrArg List.length h0; rw [markL_len] at this; exact this
    subst hn
    clear h h0
    go_enter Tryz.func118, Tryz.ntmps118
    go_wp2
    go_loopw [1, 5] (fun x i wr => x = .int .i64 (K : Int) ∧ i = .int .i64 0 ∧ wr = w) (fun _ _ _ => 0)
    case atStart => exact ⟨rfl, rfl, rfl⟩
    case round =>
      obtain ⟨rfl, rfl, rfl⟩ := hrel
      go_wp2
      go_ret
      exact ⟨rfl, Below.refl _ _⟩
  · rw [markL_len] at *
    exact heldS_any w g c K n hl hK hK2 hl2
end Go.Proofs.YtnkmdmmlpidcmaaGreatDoor
