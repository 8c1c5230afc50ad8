/-
  Lists of texts of the call's own, to which texts are appended; each theorem names its conditions.
  What the library's Index, Cut, Count and Split answer at a separator of one byte, for texts of at most 1048576 bytes.
  Rows of elements in blocks of the call's own, each element with memory of its own; each theorem names its conditions.
  A mark as a text: what the laws' helper makes of a number; each theorem names its conditions.
-/
import Derived.Test.YtnkmdmmlpidcmaaDoorJAD
import Derived.Test.YtnkmdmmlpidcmaaDoorJAB
import Derived.Test.YtnkmdmmlpidcmaaDoorJAC
import Derived.Lib.Bytealg
import Derived.Lib.SlBytesRow
namespace Go.Proofs.YtnkmdmmlpidcmaaDoor
open Go.ChangeShapes Go.WideShapes Go.ChangeAt Go.RowKit
set_option linter.unusedVariables false

theorem txs_parts : ∃ i, Tryd.prog.info? 9 = some i ∧ i.zero = some (.string ⟨#[]⟩) ∧ i.size = 1 ∧ i.bytes = 16 := by
  have h : (Tryd.prog.info? 9).map (fun i => (i.zero, i.size, i.bytes)) = some (some (.string ⟨#[]⟩), 1, 16) := by kernel_rfl
  obtain ⟨i, hi, hzz⟩ := Option.map_eq_some_iff.1 h
  simp only [Prod.mk.injEq] at hzz
  exact ⟨i, hi, hzz⟩
/-- The texts l in a list of the call's own, nil or in a block from B on. -/
def Txs (w : World) (B : Nat) (v : Value) (l : List ByteArray) : Prop := w.ownsRow B 9 1 v l.length (l.map Value.string)
theorem Txs.nil (w : World) (B : Nat) : Txs w B (.slice none 0 0) [] := World.ownsRow_nil w B _ 1
theorem Txs.nw {w w' : World} {B : Nat} {v : Value} {l : List ByteArray} (h : Txs w B v l) (k : Nw w w') : Txs w' B v l :=
  World.ownsRow.kept h (row := none) ⟨Below.os k, Below.tape k, Below.output k, Below.size k, fun b hb _ => Below.block k b hb⟩ (by cases hv : v.ownBlock <;> simp)
theorem Txs.below {w w' : World} {B : Nat} {v v' : Value} {l : List ByteArray} (h : Txs w B v l) (k : Ext v v' w w') (hB : B ≤ w.heap.size) : Below B w w' :=
  k.below (fun g e => (World.ownsRow.lt h g e).1) hB
/-- Where they lie. -/
theorem Txs.lay {w : World} {B : Nat} {v : Value} {l : List ByteArray} (h : Txs w B v l) : (v = .slice none 0 0 ∧ l = []) ∨ ∃ g c, v = .slice (some ⟨g, 0, none⟩) l.length c ∧ B ≤ g ∧ LayS w g l l.length := by
  rcases h.2 with ⟨hn, h0⟩ | ⟨g, cap, cur, h1, h2, h3⟩
  · exact Or.inl ⟨hn, List.eq_nil_of_length_eq_zero h0⟩
  · refine Or.inr ⟨g, cap, h1, h2, ?_⟩
    subst h1
    refine ⟨(World.ownsRow.lt h g rfl).2, fun i hi => ?_, fun i a b => absurd b (by omega), fun o => World.ownsRow.frozenAt h o⟩
    have := World.ownsRow.cellAt h i (by omega)
    rw [this]
    simp [strAt, hi]
theorem Txs.strs {w : World} {B : Nat} {v : Value} {l : List ByteArray} (h : Txs w B v l) : ∃ a c, v = .slice a l.length c ∧ Strs w a l := by
  rcases h.lay with ⟨rfl, rfl⟩ | ⟨g, c, rfl, _, hl⟩
  · exact ⟨none, 0, rfl, Or.inl rfl⟩
  · exact ⟨_, c, rfl, hl.strs⟩
/-- A text is appended. -/
theorem wp_tx (w : World) {ops : Array Oper} {rest : List Oper} {o : Oper} {a : Act} {Q : Exit → Act → World → Prop} (hgd : o.guard = none) (s x : Operand)
    (ho : o.op = .call { callee := .builtin .append, args := #[s, x], argTypes := #[52, 52] })
    (B : Nat) (v : Value) (l : List ByteArray) (t : ByteArray) (hs : a.eval s = v) (hown : Txs w B v l) (g : Nat) (hx : a.eval x = .slice (some ⟨g, 0, none⟩) 1 1) (hc : w.cell? ⟨g, 0, none⟩ = some (.string t))
    (h63 : l.length ≤ 10000000) (hB : B ≤ w.heap.size)
    (h : ∀ v' w', Txs w' B v' (l ++ [t]) → Ext v v' w w' → wpList Tryd.prog ops Q rest (a.put o.dst v') w') : wpList Tryd.prog ops Q (o :: rest) a w := by
  obtain ⟨i0, hi, hz0, hz1, hz2⟩ := txs_parts
  refine wpList_append_own_at w hgd s x 52 ho B 9 i0 (.string ⟨#[]⟩) 1 16 Tryd.underlying52 hi hz0 hz1 hz2 rfl (by decide) v l.length (l.map Value.string) hs hown ⟨g, 0, none⟩ 1 1 [.string t] hx rfl (fun j u hj => ?_) (fun u hu => ?_) (by unfold maxLen; omega) (by omega) hB ?_
  · cases j with
    | zero => simp at hj; subst hj; simpa [Addr.add] using hc
    | succ j => simp at hj
  · simp at hu; subst hu; rfl
  · intro v' w' h1 h2 _ h4
    refine h v' w' ?_ ⟨h2, h4.imp id fun e => ⟨_, e, Nat.le_refl _⟩⟩
    unfold Txs
    rw [List.length_append, List.map_append]
    exact h1
end Go.Proofs.YtnkmdmmlpidcmaaDoor
namespace Go.Proofs.YtnkmdmmlpidcmaaDoor
open Go.ChangeShapes Go.WideShapes Go.ChangeAt Go.RowKit
set_option linter.unusedVariables false

theorem ix1s (s : ByteArray) (c : UInt8) (w : World) : (callFunc 168 #[.string s, .int .u8 (c.toNat : Int)]).run Tryd.prog w = .ok (.value (.int .i64 (firstIdx s c))) w := by
  rw [run_callFunc_extern Tryd.func168 (by kernel_rfl) (by kernel_rfl) (by kernel_rfl) (e := Extern.BytealgIndexByte.indexByte) (by kernel_rfl), run_indexByte_string]
  simp [Result.andThen]
theorem cn1s (s : ByteArray) (c : UInt8) (w : World) : (callFunc 148 #[.string s, .int .u8 (c.toNat : Int)]).run Tryd.prog w = .ok (.value (.int .i64 (s.data.toList.count c : Nat))) w := by
  rw [run_callFunc_extern Tryd.func148 (by kernel_rfl) (by kernel_rfl) (by kernel_rfl) (e := Extern.BytealgCount.count) (by kernel_rfl), Lib.run_countString]
  simp [Result.andThen, Lib.countByte]
set_option maxHeartbeats 400000 in
theorem ib1 (s : ByteArray) (c : UInt8) (w : World) :
    Calls Tryd.prog 155 #[.string s, .int .u8 (c.toNat : Int)] w fun e w' => e = .returned (.int .i64 (firstIdx s c)) ∧ w' = w := by
  have H : Hid _ := ix1s s c
  go_enter Tryd.func155, Tryd.ntmps155
  go_wp2_with (simp only [H.out])
  go_ret
  exact ⟨rfl, rfl⟩
theorem one_eq {s : ByteArray} {c : UInt8} (h : ([c] == s.toList) = true) : s = ⟨#[c]⟩ := by
  rw [beq_iff_eq, ByteArray.toList_eq] at h
  rw [← bA_data s, ← h]
  rfl
set_option maxHeartbeats 1000000 in
theorem ixl1 (s : ByteArray) (c : UInt8) (w : World) :
    Calls Tryd.prog 127 #[.string s, .string ⟨#[c]⟩] w fun e w' => e = .returned (.int .i64 (firstIdx s c)) ∧ w' = w := by
  by_cases he : ([c] == s.toList) = true
  · have HZ : Hid (firstIdx s c = 0) := by
      show firstIdx s c = 0
      obtain rfl := one_eq he
      rw [firstIdx_brk]
      have : brk c (⟨#[c]⟩ : ByteArray).data.toList = 0 := by simp [brk]
      rw [this]; rfl
    go_enter Tryd.func127, Tryd.ntmps127
    go_wp2_with (go_at_call 155; fail)
    go_ret
    exact ⟨ret_int HZ.out.symm, rfl⟩
  · have hf : ([c] == s.toList) = false := by simpa using he
    clear he
    go_enter Tryd.func127, Tryd.ntmps127
    go_wp2_with (go_at_call 155; refine (ib1 s c _).mono ?_; rintro e w' ⟨rfl, rfl⟩)
    go_ret
    exact ⟨rfl, rfl⟩
theorem ix1 (s : ByteArray) (c : UInt8) (w : World) :
    Calls Tryd.prog 121 #[.string s, .string ⟨#[c]⟩] w fun e w' => e = .returned (.int .i64 (firstIdx s c)) ∧ w' = w := by
  go_enter Tryd.func121, Tryd.ntmps121
  go_wp2_with (go_at_call 127; refine (ixl1 s c _).mono ?_; rintro e w' ⟨rfl, rfl⟩)
  go_ret
  exact ⟨rfl, rfl⟩
set_option maxRecDepth 100000 in
theorem cnt1 (s : ByteArray) (c : UInt8) (w : World) :
    Calls Tryd.prog 120 #[.string s, .string ⟨#[c]⟩] w fun e w' => e = .returned (.int .i64 (s.data.toList.count c : Nat)) ∧ w' = w := by
  have h1 : 0 < (⟨#[c]⟩ : ByteArray).size := Nat.zero_lt_one
  have H : Hid (∀ w : World, (callFunc 148 #[.string s, .int .u8 (((⟨#[c]⟩ : ByteArray)[0]'h1).toNat : Int)]).run Tryd.prog w = .ok (.value (.int .i64 (s.data.toList.count c : Nat))) w) := cn1s s c
  generalize s.data.toList.count c = N at *
  go_enter Tryd.func120, Tryd.ntmps120
  go_wp2_with (simp only [H.out])
  go_ret
  exact ⟨rfl, rfl⟩
/-- What Cut answers. -/
def cutV (c : UInt8) (s : ByteArray) : Value := if brk c s.data.toList < s.size then .tuple #[.string (s.extract 0 (brk c s.data.toList)), .string (s.extract (brk c s.data.toList + 1) s.size), .bool true] else .tuple #[.string s, .string ⟨#[]⟩, .bool false]
set_option maxHeartbeats 1000000 in
theorem cutl1 (s : ByteArray) (c : UInt8) (w : World) (hs : s.size ≤ 1048576) :
    Calls Tryd.prog 97 #[.string s, .string ⟨#[c]⟩] w fun e w' => e = .returned (cutV c s) ∧ Nw w w' := by
  by_cases h : brk c s.data.toList < s.size
  · have HV : Hid (cutV c s = .tuple #[.string (s.extract 0 (brk c s.data.toList)), .string (s.extract (brk c s.data.toList + 1) s.size), .bool true]) := by show cutV c s = _; unfold cutV; rw [if_pos h]
    have HI : Hid (firstIdx s c = (brk c s.data.toList : Nat)) := by show firstIdx s c = _; rw [firstIdx_brk, if_pos h]
    generalize brk c s.data.toList = k at *
    have hne : (⟨#[c]⟩ : ByteArray).size = 1 := rfl
    go_enter Tryd.func97, Tryd.ntmps97
    go_wp2_with fail
    refine (ixl1 s c _).mono ?_
    rintro e w' ⟨rfl, rfl⟩
    rw [HI.out]
    go_wp2
    go_region
    all_goals go_wp2
    all_goals go_ret3
    all_goals
      refine ⟨by rw [HV.out]; try rfl, ?_⟩
      exact (Below.refl _ _).drew
  · have HV : Hid (cutV c s = .tuple #[.string s, .string ⟨#[]⟩, .bool false]) := by show cutV c s = _; unfold cutV; rw [if_neg h]
    have HI : Hid (firstIdx s c = -1) := by show firstIdx s c = _; rw [firstIdx_brk, if_neg h]
    clear h
    go_enter Tryd.func97, Tryd.ntmps97
    go_wp2_with fail
    refine (ixl1 s c _).mono ?_
    rintro e w' ⟨rfl, rfl⟩
    rw [HI.out]
    go_wp2
    go_ret3
    exact ⟨by rw [HV.out]; rfl, Below.refl _ _⟩
theorem cut1 (s : ByteArray) (c : UInt8) (w : World) (hs : s.size ≤ 1048576) :
    Calls Tryd.prog 56 #[.string s, .string ⟨#[c]⟩] w fun e w' => e = .returned (cutV c s) ∧ Nw w w' := by
  by_cases h : brk c s.data.toList < s.size
  · have HV : Hid (cutV c s = .tuple #[.string (s.extract 0 (brk c s.data.toList)), .string (s.extract (brk c s.data.toList + 1) s.size), .bool true]) := by show cutV c s = _; unfold cutV; rw [if_pos h]
    go_enter Tryd.func56, Tryd.ntmps56
    go_wp2_with (go_at_call 97; refine (cutl1 s c _ hs).mono ?_; rintro e w' ⟨rfl, k1⟩; rw [HV.out])
    go_ret3
    exact ⟨by rw [HV.out]; rfl, k1⟩
  · have HV : Hid (cutV c s = .tuple #[.string s, .string ⟨#[]⟩, .bool false]) := by show cutV c s = _; unfold cutV; rw [if_neg h]
    go_enter Tryd.func56, Tryd.ntmps56
    go_wp2_with (go_at_call 97; refine (cutl1 s c _ hs).mono ?_; rintro e w' ⟨rfl, k1⟩; rw [HV.out])
    go_ret3
    exact ⟨by rw [HV.out]; rfl, k1⟩
/-! ### Split -/
theorem pcs_cnt {c : UInt8} {l : List UInt8} (h : 0 < l.count c) : brk c l < l.length := by
  by_cases hb : brk c l < l.length
  · exact hb
  · have := pcs_len c l
    rw [pcs_miss c l hb] at this
    simp at this
    omega
theorem ext_tail (s : ByteArray) (k : Nat) : s.extract k s.size = bA (s.data.toList.drop k) := by
  rw [ext_bA]
  have : s.data.toList.take s.size = s.data.toList := by rw [← data_len]; exact List.take_length
  rw [this]
theorem ext_head (s : ByteArray) (k : Nat) : s.extract 0 k = bA (s.data.toList.take k) := by rw [ext_bA, List.drop_zero]
def pcB (c : UInt8) (s : ByteArray) : List ByteArray := (pcs c s.data.toList).map bA
theorem pcB_len (c : UInt8) (s : ByteArray) : (pcB c s).length = s.data.toList.count c + 1 := by unfold pcB; rw [List.length_map, pcs_len]
theorem pcB_hit (c : UInt8) (s : ByteArray) (h : brk c s.data.toList < s.size) : pcB c s = s.extract 0 (brk c s.data.toList) :: pcB c (s.extract (brk c s.data.toList + 1) s.size) := by
  unfold pcB
  rw [pcs_hit c _ (by rw [data_len]; exact h), ext_tail, ext_head, bA_list]
  rfl
theorem pcB_miss (c : UInt8) (s : ByteArray) (h : ¬ brk c s.data.toList < s.size) : pcB c s = [s] := by
  unfold pcB
  rw [pcs_miss c _ (by rw [data_len]; exact h), List.map_singleton, bA_data]
theorem count_le_size (c : UInt8) (s : ByteArray) : s.data.toList.count c ≤ s.size := by rw [← data_len]; exact List.count_le_length
set_option maxRecDepth 100000 in
set_option maxHeartbeats 4000000 in
theorem gsplit1 (s : ByteArray) (c : UInt8) (w : World) (hs : s.size ≤ 1048576) :
    Calls Tryd.prog 92 #[.string s, .string ⟨#[c]⟩, .int .i64 0, .int .i64 (-1)] w fun e w' => e = .returned (.slice (some ⟨w.heap.size, 0, none⟩) (pcB c s).length (pcB c s).length) ∧ Nw w w' ∧ LayS w' w.heap.size (pcB c s) (pcB c s).length := by
  have hle := count_le_size c s
  have hlen := pcB_len c s
  have HN : Hid ((pcB c s).length = s.data.toList.count c + 1) := hlen
  rw [hlen]
  clear hlen
  generalize hcnt : s.data.toList.count c = cnt at *
  have hmk := run_mk 52 9 _ 1 16 Tryd.underlying52 Tryd.info9 (cnt + 1) (by omega) (by omega)
  have hcs : (Value.string ⟨#[]⟩).cells = #[.string ⟨#[]⟩] := rfl
  rw [hcs, Nat.mul_one, show ((cnt + 1 : Nat) : Int) = (cnt : Int) + 1 from rfl] at hmk
  have HC : Hid (Calls Tryd.prog 120 #[.string s, .string ⟨#[c]⟩] w fun e w' => e = .returned (.int .i64 (cnt : Nat)) ∧ w' = w) := by
    have := cnt1 s c w
    rw [hcnt] at this
    exact this
  have HCN : Hid (s.data.toList.count c = cnt) := hcnt
  clear hcnt
  have hne : (⟨#[c]⟩ : ByteArray).size = 1 := rfl
  have hmn : min (cnt : Int) (s.size : Int) = (cnt : Int) := by omega
  have HST : ∀ t, Hid (LayS (w.alloc (.cells (madeCells #[.string ⟨#[]⟩] (cnt + 1)) t)) w.heap.size (pcB c s) 0) := fun t => by
    have := LayS.start w (pcB c s) t
    rw [HN.out] at this
    exact this
  go_enter Tryd.func92, Tryd.ntmps92
  go_wp2_with (go_at_call 120; refine HC.out.mono ?_; rintro e w' ⟨rfl, hq⟩; have hq2 := hq.symm; clear hq; subst hq2)
  clear HC hmk hcs
  go_loopw [0, 10] (fun x i wr => ∃ (k : Nat) (r : ByteArray), k ≤ cnt ∧ i = .int .i64 k ∧ x = .string r ∧ r.size ≤ s.size ∧ r.data.toList.count c = cnt - k ∧ (∀ j, strAt (pcB c s) (k + j) = strAt (pcB c r) j) ∧ Nw w wr ∧ LayS wr w.heap.size (pcB c s) k) (fun _ i _ => cnt - (intOf i).toNat)
  case atStart => exact ⟨0, s, Nat.zero_le _, rfl, rfl, Nat.le_refl _, HCN.out, fun j => by rw [Nat.zero_add], (Below.refl _ _).alloc (Nat.le_refl _) _, (HST _).out⟩
  case round =>
    obtain ⟨k, r, hk, rfl, rfl, hrs, hrc, hrp, hw, hl⟩ := hrel
    have HW : Hid (Nw w wr) := hw
    have HL : Hid (LayS wr w.heap.size (pcB c s) k) := hl
    have HRP : Hid (∀ j, strAt (pcB c s) (k + j) = strAt (pcB c r) j) := hrp
    have HRC : Hid (r.data.toList.count c = cnt - k) := hrc
    have z0 := hl.2.2.1 k (Nat.le_refl _) (by rw [HN.out]; omega)
    have zf := hl.2.2.2
    have hg : w.heap.size < wr.heap.size := hl.1
    clear hw hl hrp hrc
    by_cases hlt : k < cnt
    · have hb : brk c r.data.toList < r.size := by
        rw [← data_len]
        exact pcs_cnt (by rw [HRC.out]; omega)
      have HI : Hid (firstIdx r c = (brk c r.data.toList : Nat)) := by show firstIdx r c = _; rw [firstIdx_brk, if_pos hb]
      have HH : Hid _ := pcB_hit c r hb
      generalize brk c r.data.toList = m at *
      have hltI : (k : Int) < (cnt : Int) := by omega
      go_wp2_with (go_at_call 121; refine (ix1 r c _).mono ?_; rw [HI.out]; rintro e w' ⟨rfl, hq⟩; have hq2 := hq.symm; clear hq; subst hq2)
      go_roundw
      case rel =>
        have hx : strAt (pcB c s) k = r.extract 0 m := by have := HRP.out 0; rw [HH.out] at this; exact this
        have hc2 : (r.extract (m + 1) r.size).data.toList.count c = cnt - (k + 1) := by
          have e1 := pcB_len c r
          have e2 := pcB_len c (r.extract (m + 1) r.size)
          rw [HH.out, HRC.out, List.length_cons, e2] at e1
          omega
        refine ⟨k + 1, r.extract (m + 1) r.size, by omega, by go_num, by first | rfl | simp, by rw [ByteArray.size_extract]; omega, hc2, fun j => ?_, HW.out.setCell (Nat.le_refl _) _, ?_⟩
        · have := HRP.out (j + 1)
          rw [HH.out] at this
          rw [show k + 1 + j = k + (j + 1) by omega, this]
          rfl
        · have := LayS.step HL.out (by rw [HN.out]; omega)
          rw [hx] at this
          simpa using this
      case measure => simp [intOf]; omega
    · have e : k = cnt := by omega
      subst e
      have hb : ¬ brk c r.data.toList < r.size := by
        intro h
        have e1 := pcB_len c r
        rw [pcB_hit c r h, HRC.out, List.length_cons, pcB_len] at e1
        omega
      have hx : strAt (pcB c s) k = r := by have := HRP.out 0; rw [pcB_miss c r hb] at this; exact this
      have HL2 : Hid _ := LayS.step HL.out (by rw [HN.out]; omega)
      rw [hx] at HL2
      clear hx hb
      go_wp2
      go_ret
      exact ⟨by first | rfl | simp, HW.out.setCell (Nat.le_refl _) _, HL2.out⟩
end Go.Proofs.YtnkmdmmlpidcmaaDoor
namespace Go.Proofs.YtnkmdmmlpidcmaaDoor
open Go.ChangeShapes Go.WideShapes Go.ChangeAt Go.RowKit
set_option linter.unusedVariables false

/-- Of what was there nothing but blocks of F is written. -/
structure Wr (F : Nat → Prop) (w w' : World) : Prop where
  os : w'.os = w.os
  tape : w'.tape = w.tape
  output : w'.output = w.output
  size : w.heap.size ≤ w'.heap.size
  block : ∀ b, b < w.heap.size → ¬ F b → w'.heap[b]? = w.heap[b]?
theorem Wr.refl (F : Nat → Prop) (w : World) : Wr F w w := ⟨rfl, rfl, rfl, Nat.le_refl _, fun _ _ _ => rfl⟩
theorem Wr.trans {F : Nat → Prop} {a b c : World} (h : Wr F a b) (k : Wr F b c) : Wr F a c :=
  ⟨k.os.trans h.os, k.tape.trans h.tape, k.output.trans h.output, Nat.le_trans h.size k.size, fun x hx hn => (k.block x (Nat.lt_of_lt_of_le hx h.size) hn).trans (h.block x hx hn)⟩
theorem Wr.mono {F G : Nat → Prop} {a b : World} (h : Wr F a b) (k : ∀ x, F x → G x) : Wr G a b :=
  ⟨h.os, h.tape, h.output, h.size, fun x hx hn => h.block x hx (fun e => hn (k x e))⟩
theorem Wr.nw {F : Nat → Prop} {a b : World} (h : Nw a b) : Wr F a b := ⟨Below.os h, Below.tape h, Below.output h, Below.size h, fun x hx _ => Below.block h x hx⟩
theorem Wr.set {F : Nat → Prop} {a b : World} (h : Wr F a b) {g : Nat} (hg : F g) (o : Nat) (v : Value) : Wr F a (b.setCell ⟨g, o, none⟩ v) :=
  ⟨h.os, h.tape, h.output, by simpa [World.setCell] using h.size, fun i hi hne => by
    rw [Below.heap_setCell _ _ _ _ (by intro e; apply hne; rw [e]; exact hg)]
    exact h.block i hi hne⟩
theorem Wr.grown {F : Nat → Prop} {a b : World} {g : Nat} (h : a.grownBy b (some g)) (hg : F g) : Wr F a b :=
  ⟨h.os, h.tape, h.output, h.size, fun x hx hn => h.block x hx (fun e => hn (by injection e with e; rw [e]; exact hg))⟩
theorem Wr.ext {F : Nat → Prop} {v v' : Value} {a b : World} (h : Ext v v' a b) (k : ∀ x, v.ownBlock = some x → F x) : Wr F a b :=
  ⟨h.1.os, h.1.tape, h.1.output, h.1.size, fun x hx hn => h.1.block x hx (fun e => hn (k x e.symm))⟩
theorem Wr.below {F : Nat → Prop} {a b : World} (h : Wr F a b) {B : Nat} (k : ∀ x, F x → B ≤ x) (hB : B ≤ a.heap.size) : Below B a b :=
  ⟨h.os, h.tape, h.output, h.size, fun x hx => h.block x (by omega) (fun e => by have := k x e; omega)⟩
/-- Blocks that came between two worlds. -/
def iv (w w' : World) : Nat → Prop := fun b => w.heap.size ≤ b ∧ b < w'.heap.size
def disj (F G : Nat → Prop) : Prop := ∀ b, F b → ¬ G b

/-- How an element lies in its cells, with which blocks besides. -/
abbrev Els (α : Type) := World → List Value → α → (Nat → Prop) → Prop
def KeptE {α : Type} (E : Els α) : Prop := ∀ w w' cs x F G, E w cs x F → Wr G w w' → disj F G → E w' cs x F
structure El (α : Type) where
  x : α
  cs : List Value
  F : Nat → Prop

structure RowO (t : TypeId) (n : Nat) {α : Type} (E : Els α) (w : World) (B : Nat) (v : Value) (els : List (El α)) : Prop where
  own : w.ownsRow B t n v els.length (els.flatMap (·.cs))
  el : ∀ e, e ∈ els → E w e.cs e.x e.F ∧ e.cs.length = n ∧ ∀ b, e.F b → B ≤ b ∧ b < w.heap.size ∧ v.ownBlock ≠ some b
  apart : els.Pairwise fun a b => disj a.F b.F
theorem RowO.nil (t : TypeId) (n : Nat) {α : Type} (E : Els α) (w : World) (B : Nat) : RowO t n E w B (.slice none 0 0) [] :=
  ⟨World.ownsRow_nil w B t n, (fun e h => by cases h), List.Pairwise.nil⟩
theorem RowO.nw {t : TypeId} {n : Nat} {α : Type} {E : Els α} (hE : KeptE E) {w w' : World} {B : Nat} {v : Value} {els : List (El α)} (h : RowO t n E w B v els) (k : Nw w w') : RowO t n E w' B v els := by
  refine ⟨World.ownsRow.kept h.own (row := none) ⟨Below.os k, Below.tape k, Below.output k, Below.size k, fun b hb _ => Below.block k b hb⟩ (by cases hv : v.ownBlock <;> simp), fun e he => ?_, h.apart⟩
  obtain ⟨h1, h2, h3⟩ := h.el e he
  refine ⟨hE _ _ _ _ _ (fun _ => False) h1 (Wr.nw k) (fun _ _ hf => hf), h2, fun b hb => ?_⟩
  obtain ⟨a, c, d⟩ := h3 b hb
  exact ⟨a, Nat.lt_of_lt_of_le c (Below.size k), d⟩
theorem RowO.lt {t : TypeId} {n : Nat} {α : Type} {E : Els α} {w : World} {B : Nat} {v : Value} {els : List (El α)} (h : RowO t n E w B v els) : ∀ g, v.ownBlock = some g → B ≤ g ∧ g < w.heap.size := World.ownsRow.lt h.own
theorem RowO.slice {t : TypeId} {n : Nat} {α : Type} {E : Els α} {w : World} {B : Nat} {v : Value} {els : List (El α)} (h : RowO t n E w B v els) : ∃ a c, v = .slice a els.length c := by
  rcases h.own.2 with ⟨hn, h1⟩ | ⟨g, cap, cur, h1, _⟩
  · exact ⟨_, _, by rw [h1]; exact hn⟩
  · exact ⟨_, _, h1⟩
theorem RowO.below {t : TypeId} {n : Nat} {α : Type} {E : Els α} {w w' : World} {B : Nat} {v v' : Value} {els : List (El α)} (h : RowO t n E w B v els) (k : Ext v v' w w') (hB : B ≤ w.heap.size) : Below B w w' :=
  k.below (fun g e => (h.lt g e).1) hB
theorem RowO.put {t : TypeId} {n : Nat} {α : Type} {E : Els α} (hE : KeptE E) {w0 w w' : World} {B : Nat} {v v' : Value} {els : List (El α)} (h : RowO t n E w0 B v els) (k : Nw w0 w) (hB : B ≤ w0.heap.size) {x : α} {cs : List Value} (hx : E w cs x (iv w0 w)) (hcs : cs.length = n)
    (hown : w'.ownsRow B t n v' (els.length + 1) (els.flatMap (·.cs) ++ cs)) (hext : Ext v v' w w') : RowO t n E w' B v' (els ++ [⟨x, cs, iv w0 w⟩]) := by
  have h1 := h.nw hE k
  have hs := hext.size
  have hk := Below.size k
  refine ⟨?_, fun e he => ?_, ?_⟩
  · rw [List.length_append, List.flatMap_append]
    have e1 : ([⟨x, cs, iv w0 w⟩] : List (El α)).flatMap (·.cs) = cs := by simp
    rw [e1]
    exact hown
  · rcases List.mem_append.1 he with he | he
    · obtain ⟨a1, a2, a3⟩ := h1.el e he
      refine ⟨hE _ _ _ _ _ (fun b => v.ownBlock = some b) a1 (Wr.ext hext (fun _ e => e)) (fun b hb => (a3 b hb).2.2), a2, fun b hb => ?_⟩
      obtain ⟨b1, b2, b3⟩ := a3 b hb
      exact ⟨b1, by omega, hext.apart b2 b3⟩
    · rw [List.mem_singleton] at he
      subst he
      have nv : ∀ b, iv w0 w b → v.ownBlock ≠ some b := by
        intro b hb e
        have := (h.lt b e).2
        have := hb.1
        omega
      refine ⟨hE _ _ _ _ _ (fun b => v.ownBlock = some b) hx (Wr.ext hext (fun _ e => e)) nv, hcs, fun b hb => ⟨Nat.le_trans hB hb.1, Nat.lt_of_lt_of_le hb.2 hs, hext.apart hb.2 (nv b hb)⟩⟩
  · rw [List.pairwise_append]
    refine ⟨h.apart, List.pairwise_singleton _ _, fun a ha b hb => ?_⟩
    rw [List.mem_singleton] at hb
    subst hb
    intro c hc hd
    have := ((h.el a ha).2.2 c hc).2.1
    have := hd.1
    omega

/-- Elements that lie in a block, cell by cell. -/
structure RowA (n : Nat) {α : Type} (E : Els α) (w : World) (g : Nat) (els : List (El α)) (F : Nat → Prop) : Prop where
  lt : g < w.heap.size
  fz : ∀ o, w.frozen? ⟨g, o, none⟩ = false
  inF : F g
  cell : ∀ i e, els[i]? = some e → ∀ j u, e.cs[j]? = some u → w.cell? ⟨g, i * n + j, none⟩ = some u
  el : ∀ e, e ∈ els → E w e.cs e.x e.F ∧ e.cs.length = n ∧ ∀ b, e.F b → F b ∧ b ≠ g
  apart : els.Pairwise fun a b => disj a.F b.F
def RowM (n : Nat) {α : Type} (E : Els α) (w : World) (v : Value) (xs : List α) (F : Nat → Prop) : Prop :=
  (v = .slice none 0 0 ∧ xs = []) ∨ ∃ g c els, v = .slice (some ⟨g, 0, none⟩) xs.length c ∧ xs.length ≤ c ∧ els.map El.x = xs ∧ RowA n E w g els F
theorem RowM.nil (n : Nat) {α : Type} (E : Els α) (w : World) (F : Nat → Prop) : RowM n E w (.slice none 0 0) [] F := Or.inl ⟨rfl, rfl⟩
theorem RowM.mono {n : Nat} {α : Type} {E : Els α} {w : World} {v : Value} {xs : List α} {F G : Nat → Prop} (h : RowM n E w v xs F) (k : ∀ b, F b → G b) : RowM n E w v xs G := by
  rcases h with h | ⟨g, c, els, h1, h2, h3, h4⟩
  · exact Or.inl h
  · exact Or.inr ⟨g, c, els, h1, h2, h3, h4.lt, h4.fz, k _ h4.inF, h4.cell, fun e he => ⟨(h4.el e he).1, (h4.el e he).2.1, fun b hb => ⟨k b ((h4.el e he).2.2 b hb).1, ((h4.el e he).2.2 b hb).2⟩⟩, h4.apart⟩
theorem RowA.kept {n : Nat} {α : Type} {E : Els α} (hE : KeptE E) {w w' : World} {g : Nat} {els : List (El α)} {F G : Nat → Prop} (h : RowA n E w g els F) (k : Wr G w w') (d : disj F G) : RowA n E w' g els F := by
  have hb := k.block g h.lt (d g h.inF)
  refine ⟨Nat.lt_of_lt_of_le h.lt k.size, fun o => ?_, h.inF, fun i e hi j u hj => ?_, fun e he => ?_, h.apart⟩
  · rw [World.frozen?_of_block (w := w) (a := ⟨g, o, none⟩) hb]; exact h.fz o
  · rw [World.cell?_of_block (w := w) (a := ⟨g, _, none⟩) hb]; exact h.cell i e hi j u hj
  · obtain ⟨h1, h2, h3⟩ := h.el e he
    exact ⟨hE _ _ _ _ _ G h1 k (fun b hb => d b (h3 b hb).1), h2, h3⟩
theorem RowM.kept {n : Nat} {α : Type} {E : Els α} (hE : KeptE E) {w w' : World} {v : Value} {xs : List α} {F G : Nat → Prop} (h : RowM n E w v xs F) (k : Wr G w w') (d : disj F G) : RowM n E w' v xs F := by
  rcases h with h | ⟨g, c, els, h1, h2, h3, h4⟩
  · exact Or.inl h
  · exact Or.inr ⟨g, c, els, h1, h2, h3, h4.kept hE k d⟩
theorem RowM.nw {n : Nat} {α : Type} {E : Els α} (hE : KeptE E) {w w' : World} {v : Value} {xs : List α} {F : Nat → Prop} (h : RowM n E w v xs F) (k : Nw w w') : RowM n E w' v xs F :=
  h.kept hE (Wr.nw k) (fun _ _ (hf : False) => hf)
theorem RowM.slice {n : Nat} {α : Type} {E : Els α} {w : World} {v : Value} {xs : List α} {F : Nat → Prop} (h : RowM n E w v xs F) : ∃ a c, v = .slice a xs.length c ∧ xs.length ≤ c := by
  rcases h with ⟨h1, h2⟩ | ⟨g, c, els, h1, h2, h3, h4⟩
  · exact ⟨none, 0, by rw [h2]; exact h1, by rw [h2]; exact Nat.le_refl _⟩
  · exact ⟨_, c, h1, h2⟩
theorem flat_at {α : Type} (n : Nat) : ∀ (els : List (El α)), (∀ e, e ∈ els → e.cs.length = n) → ∀ i e, els[i]? = some e → ∀ j, j < n → (els.flatMap (·.cs))[i * n + j]? = e.cs[j]? := by
  intro els
  induction els with
  | nil => intro _ i e h; simp at h
  | cons x l ih =>
    intro hl i e hi j hj
    have hx := hl x List.mem_cons_self
    rw [List.flatMap_cons]
    cases i with
    | zero =>
      simp at hi
      subst hi
      rw [Nat.zero_mul, Nat.zero_add, List.getElem?_append_left (by rw [hx]; exact hj)]
    | succ i =>
      rw [List.getElem?_append_right (by rw [hx, Nat.succ_mul]; omega)]
      have e1 : (i + 1) * n + j - x.cs.length = i * n + j := by rw [hx, Nat.succ_mul]; omega
      rw [e1]
      exact ih (fun e he => hl e (List.mem_cons_of_mem _ he)) i e (by simpa using hi) j hj
theorem RowO.row {t : TypeId} {n : Nat} {α : Type} {E : Els α} {w : World} {B : Nat} {v : Value} {els : List (El α)} (h : RowO t n E w B v els) {F : Nat → Prop} (hF : ∀ b, B ≤ b → b < w.heap.size → F b) : RowM n E w v (els.map El.x) F := by
  have h0 := h.own
  rcases h.own.2 with ⟨hn, h1⟩ | ⟨g, cap, cur, h1, h2, h3, h4, h5, h6, h7⟩
  · exact Or.inl ⟨hn, by rw [List.eq_nil_of_length_eq_zero h1]; rfl⟩
  · subst h1
    have hlt := h.lt g rfl
    refine Or.inr ⟨g, cap, els, by rw [List.length_map], by rw [List.length_map]; exact h4, rfl, hlt.2, fun o => World.ownsRow.frozenAt h0 o, hF g h2 hlt.2, fun i e hi j u hj => ?_, fun e he => ?_, h.apart⟩
    · have hi' := (List.getElem?_eq_some_iff.1 hi).1
      have hj' := (List.getElem?_eq_some_iff.1 hj).1
      have hm : e ∈ els := List.mem_of_getElem? hi
      rw [(h.el e hm).2.1] at hj'
      have hb : i * n + j < els.length * n := by
        have : (i + 1) * n ≤ els.length * n := Nat.mul_le_mul_right n hi'
        rw [Nat.succ_mul] at this
        omega
      rw [World.ownsRow.cellAt h0 (i * n + j) hb, flat_at n els (fun e he => (h.el e he).2.1) i e hi j hj']
      exact hj
    · obtain ⟨a1, a2, a3⟩ := h.el e he
      refine ⟨a1, a2, fun b hb => ?_⟩
      obtain ⟨b1, b2, b3⟩ := a3 b hb
      exact ⟨hF b b1 b2, fun e => b3 (by rw [e]; rfl)⟩
/-- An element in its place is written anew. -/
theorem RowA.step {n : Nat} {α : Type} {E : Els α} (hE : KeptE E) {w w' : World} {g : Nat} {els : List (El α)} {F : Nat → Prop} (h : RowA n E w g els F) (k : Nat) (e : El α) (x' : α) (cs' : List Value) (hk : els[k]? = some e) (hlen : cs'.length = n)
    (hw : Wr (fun b => b = g ∨ e.F b) w w') (hfz : ∀ o, w'.frozen? ⟨g, o, none⟩ = false) (hc : ∀ j u, cs'[j]? = some u → w'.cell? ⟨g, k * n + j, none⟩ = some u)
    (hoth : ∀ i j, i ≠ k → j < n → w'.cell? ⟨g, i * n + j, none⟩ = w.cell? ⟨g, i * n + j, none⟩) (hx : E w' cs' x' e.F) : RowA n E w' g (els.set k ⟨x', cs', e.F⟩) F := by
  have hk' := (List.getElem?_eq_some_iff.1 hk).1
  have hke := (List.getElem?_eq_some_iff.1 hk).2
  have hm : e ∈ els := List.mem_of_getElem? hk
  have hap := List.pairwise_iff_getElem.1 h.apart
  refine ⟨Nat.lt_of_lt_of_le h.lt hw.size, hfz, h.inF, fun i e1 hi j u hj => ?_, fun e1 he => ?_, ?_⟩
  · by_cases hik : i = k
    · subst hik
      rw [List.getElem?_set_self hk'] at hi
      injection hi with hi
      subst hi
      exact hc j u hj
    · rw [List.getElem?_set_ne (fun c => hik c.symm)] at hi
      have hm1 : e1 ∈ els := List.mem_of_getElem? hi
      have hj' := (List.getElem?_eq_some_iff.1 hj).1
      rw [(h.el e1 hm1).2.1] at hj'
      rw [hoth i j hik hj']
      exact h.cell i e1 hi j u hj
  · obtain ⟨i, hi, hie⟩ := List.mem_iff_getElem.1 he
    rw [List.length_set] at hi
    by_cases hik : i = k
    · subst hik
      rw [List.getElem_set_self] at hie
      subst hie
      exact ⟨hx, hlen, (h.el e hm).2.2⟩
    · rw [List.getElem_set_ne (fun c => hik c.symm)] at hie
      have hm1 : e1 ∈ els := by rw [← hie]; exact List.getElem_mem _
      obtain ⟨a1, a2, a3⟩ := h.el e1 hm1
      refine ⟨hE _ _ _ _ _ _ a1 hw (fun b hb => ?_), a2, a3⟩
      rintro (c | c)
      · exact (a3 b hb).2 c
      · rcases Nat.lt_or_gt_of_ne hik with d | d
        · have := hap i k hi hk' d b
          rw [hie, hke] at this
          exact this hb c
        · have := hap k i hk' hi d b
          rw [hie, hke] at this
          exact this c hb
  · rw [List.pairwise_iff_getElem]
    intro i j hi hj hij
    rw [List.length_set] at hi hj
    have := hap i j hi hj hij
    have e2 : ∀ m (hm : m < (els.set k ⟨x', cs', e.F⟩).length) (hm2 : m < els.length), ((els.set k ⟨x', cs', e.F⟩)[m]'hm).F = (els[m]'hm2).F := by
      intro m hm hm2
      by_cases hmk : m = k
      · subst hmk; rw [List.getElem_set_self, hke]
      · rw [List.getElem_set_ne (fun c => hmk c.symm)]
    rw [e2 i _ hi, e2 j _ hj]
    exact this
theorem set_marked {α : Type} (m l : List α) (k : Nat) (x : α) (hl : m.length = l.length) (hk : k < l.length) (hx : m[k]? = some x) : (m.take k ++ l.drop k).set k x = m.take (k + 1) ++ l.drop (k + 1) := by
  have hk2 : k < m.length := by omega
  rw [List.set_append_right _ _ (by rw [List.length_take]; omega)]
  have e1 : k - (m.take k).length = 0 := by rw [List.length_take]; omega
  rw [e1, List.drop_eq_getElem_cons hk, List.set_cons_zero]
  have e2 : m[k] = x := (List.getElem?_eq_some_iff.1 hx).2
  rw [List.take_succ_eq_append_getElem hk2, e2, List.append_assoc]
  rfl
theorem marked_at {α : Type} (m l : List α) (k : Nat) (hl : m.length = l.length) (hk : k < l.length) : (m.take k ++ l.drop k)[k]? = l[k]? := by
  rw [List.getElem?_append_right (by rw [List.length_take]; omega), List.length_take, Nat.min_eq_left (by omega), Nat.sub_self, List.getElem?_drop, Nat.add_zero]
end Go.Proofs.YtnkmdmmlpidcmaaDoor
namespace Go.Proofs.YtnkmdmmlpidcmaaDoor
open Go.ChangeShapes Go.WideShapes Go.ChangeAt Go.RowKit
set_option linter.unusedVariables false

/-- The digits of a number. -/
def digT : Nat → Nat → ByteArray → ByteArray
  | 0, _, s => s
  | f + 1, n, s => if n = 0 then s else digT f (n / 10) ((⟨#[UInt8.ofNat (48 + n % 10)]⟩ : ByteArray) ++ s)
theorem digT_fuel : ∀ (f g n : Nat) (s : ByteArray), n ≤ f → n ≤ g → digT f n s = digT g n s
  | 0, 0, _, _, _, _ => rfl
  | 0, g + 1, n, s, h, _ => by
    have : n = 0 := by omega
    subst this; rfl
  | f + 1, 0, n, s, _, h => by
    have : n = 0 := by omega
    subst this; rfl
  | f + 1, g + 1, n, s, h1, h2 => by
    unfold digT
    by_cases h : n = 0
    · rw [if_pos h, if_pos h]
    · rw [if_neg h, if_neg h]
      exact digT_fuel f g (n / 10) _ (by omega) (by omega)
def markT (n : Nat) : ByteArray := (⟨#[109]⟩ : ByteArray) ++ digT n n ⟨#[]⟩
theorem digT_step (n : Nat) (s : ByteArray) (h : ¬ n = 0) : digT n n s = digT (n / 10) (n / 10) ((⟨#[UInt8.ofNat (48 + n % 10)]⟩ : ByteArray) ++ s) := by
  obtain ⟨f, rfl⟩ : ∃ f, n = f + 1 := ⟨n - 1, by omega⟩
  conv => lhs; unfold digT
  rw [if_neg h]
  exact digT_fuel f _ _ _ (by omega) (Nat.le_refl _)
theorem conv_byte (w : World) (c : UInt8) : (convert 73 9 (.slice (some ⟨w.heap.size, 0, none⟩) 1 1)).run Tryd.prog (w.alloc (.cells #[.int .u8 (c.toNat : Int)] 5)) = .ok (.string ⟨#[c]⟩) (w.alloc (.cells #[.int .u8 (c.toNat : Int)] 5)) := by
  have hu : Tryd.prog.underlying 9 = some .string := Tryd.underlying9
  have h8 : Tryd.prog.underlying 5 = some (.int .u8) := Tryd.underlying5
  refine Lib.run_convert_whole _ _ _ _ Tryd.underlying73 h8 hu w.heap.size 0 ⟨#[c]⟩ ?_ 1
  intro i hi
  have e : i = 0 := by have : (⟨#[c]⟩ : ByteArray).size = 1 := rfl; omega
  subst e
  simp; rfl
set_option maxHeartbeats 1000000 in
set_option maxRecDepth 100000 in
theorem markText_any (w : World) (n : Nat) (h1 : 1 ≤ n) (hn : n ≤ 100000000) : Calls Tryd.prog 30 #[.int .i64 (n : Int)] w fun e w' => e = .returned (.string (markT n)) ∧ Nw w w' := by
  have hpos : ¬ ((n : Int) ≤ 0) := by omega
  go_enter Tryd.func30, Tryd.ntmps30
  go_wp2
  go_loopw [0, 3] (fun x y wr => ∃ (m : Nat) (acc : ByteArray), x = .int .i64 m ∧ y = .string acc ∧ m ≤ n ∧ acc.size + m ≤ n ∧ digT m m acc = digT n n ⟨#[]⟩ ∧ Nw w wr) (fun x _ _ => (intOf x).toNat)
  case atStart => exact ⟨n, ⟨#[]⟩, rfl, rfl, Nat.le_refl _, Nat.le_of_eq (Nat.zero_add _), rfl, Below.refl _ _⟩
  case round =>
    obtain ⟨m, acc, rfl, rfl, hm, hz, hd, hw⟩ := hrel
    by_cases h0 : m = 0
    · subst h0
      have HX : Hid (markT n = (⟨#[109]⟩ : ByteArray) ++ acc) := by show markT n = _; unfold markT; rw [← hd]; rfl
      have HW : Hid (Nw w wr) := hw
      clear hd hw
      have hsz : (⟨#[109]⟩ : ByteArray).size = 1 := rfl
      go_wp2
      go_ret
      exact ⟨by rw [HX.out]; rfl, HW.out⟩
    · have hp : (0 : Int) < (m : Int) := by omega
      have HD : Hid (digT (m / 10) (m / 10) ((⟨#[UInt8.ofNat (48 + m % 10)]⟩ : ByteArray) ++ acc) = digT n n ⟨#[]⟩) := by show _ = _; rw [← digT_step m acc h0]; exact hd
      have HW : Hid (Nw w wr) := hw
      clear hd hw
      have ht : (m : Int).tmod 10 = ((m % 10 : Nat) : Int) := by rw [Int.tmod_eq_emod_of_nonneg (by omega)]; omega
      have hq : (m : Int).tdiv 10 = ((m / 10 : Nat) : Int) := by rw [Int.tdiv_eq_ediv_of_nonneg (by omega)]; omega
      have hcv := conv_byte wr (UInt8.ofNat (48 + m % 10))
      have hcn : (UInt8.ofNat (48 + m % 10)).toNat = 48 + m % 10 := by simp; omega
      rw [hcn, show ((48 + m % 10 : Nat) : Int) = 48 + (m : Int) % 10 by omega] at hcv
      clear hcn
      generalize UInt8.ofNat (48 + m % 10) = ch at *
      have hs1 : (⟨#[ch]⟩ : ByteArray).size = 1 := rfl
      go_wp2
      go_roundw
      case rel => exact ⟨m / 10, _, congrArg (Value.int .i64) (by omega), rfl, by omega, by rw [ByteArray.size_append, hs1]; omega, HD.out, HW.out.trans ((Below.refl _ _).alloc (Nat.le_refl _) _)⟩
      case measure => simp [intOf]; omega
end Go.Proofs.YtnkmdmmlpidcmaaDoor
