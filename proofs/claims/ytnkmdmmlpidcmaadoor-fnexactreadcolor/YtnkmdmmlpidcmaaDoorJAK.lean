/-
  A text in small letters, by the specification; each theorem names its conditions.
  Whole numbers read from hex digits by the library; each theorem names its conditions.
  Whole numbers read from hex digits by the library: its loop; each theorem names its conditions.
  Whole numbers read from hex digits by the library, and its faults; each theorem names its conditions.
-/
import Derived.Test.YtnkmdmmlpidcmaaDoorJAJ
import Derived.Test.YtnkmdmmlpidcmaaDoorJAB
import Derived.Lib.ConvBytes
import Derived.Lib.SlBytesRow
namespace Go.Proofs.YtnkmdmmlpidcmaaDoor
open Go.ChangeShapes Go.WideShapes Go.ChangeAt Go.RowKit
set_option linter.unusedVariables false

def byL (l : List UInt8) (k : Nat) : UInt8 := l.getD k 0
/-- A row of bytes of which the first k are in small letters. -/
structure LwR (g : Nat) (l : List UInt8) (k : Nat) (w : World) : Prop where
  lt : g < w.heap.size
  lo : ∀ j, j < k → w.cell? ⟨g, j, none⟩ = some (.int .u8 ((lowB (byL l j)).toNat : Int))
  hi : ∀ j, k ≤ j → j < l.length → w.cell? ⟨g, j, none⟩ = some (.int .u8 ((byL l j).toNat : Int))
  fz : ∀ j, j < l.length → w.frozen? ⟨g, j, none⟩ = false
theorem LwR.keep {g k : Nat} {l : List UInt8} {w : World} (h : LwR g l k w) (hk : k < l.length) (e : lowB (byL l k) = byL l k) : LwR g l (k + 1) w :=
  ⟨h.lt, fun j hj => by
    rcases Nat.lt_succ_iff_lt_or_eq.1 hj with h1 | h1
    · exact h.lo j h1
    · subst h1; rw [e]; exact h.hi j (Nat.le_refl _) hk, fun j h1 h2 => h.hi j (by omega) h2, h.fz⟩
theorem LwR.put {g k : Nat} {l : List UInt8} {w : World} (h : LwR g l k w) (hk : k < l.length) : LwR g l (k + 1) (w.setCell ⟨g, k, none⟩ (.int .u8 ((lowB (byL l k)).toNat : Int))) := by
  have far : ∀ j, j ≠ k → (w.setCell ⟨g, k, none⟩ (.int .u8 ((lowB (byL l k)).toNat : Int))).cell? ⟨g, j, none⟩ = w.cell? ⟨g, j, none⟩ := fun j hj => World.cell?_setCell_other _ _ _ _ (fun e => by injection e; omega)
  refine ⟨by simpa [World.setCell] using h.lt, fun j hj => ?_, fun j h1 h2 => ?_, fun j hj => by rw [World.frozen?_setCell]; exact h.fz j hj⟩
  · by_cases e : j = k
    · subst e; exact World.cell?_setCell_same w ⟨g, j, none⟩ _ (h.hi j (Nat.le_refl _) hk)
    · rw [far j e]; exact h.lo j (by omega)
  · rw [far j (by omega)]; exact h.hi j (by omega) h2
theorem LwR.start (w : World) (s : ByteArray) (t : TypeId) : LwR w.heap.size s.data.toList 0 (Lib.bytesWorld w t s) := by
  refine ⟨by rw [Lib.bytesWorld_size]; omega, fun j hj => absurd hj (by omega), fun j _ hj => ?_, fun j hj => ?_⟩
  · rw [data_len] at hj
    rw [Lib.bytesWorld_cell w t s j hj]; rfl
  · rw [data_len] at hj
    unfold World.frozen?
    rw [Lib.bytesWorld_at_new]
    have h1 : s.size ≤ (Lib.bytesCells w t s).size := by simp [Lib.bytesCells]
    simp only
    rw [Bool.and_eq_false_iff]
    left
    simp
    omega
theorem bytes_nw (w : World) (t : TypeId) (s : ByteArray) : Nw w (Lib.bytesWorld w t s) := by
  refine ⟨?_, ?_, ?_, by rw [Lib.bytesWorld_size]; omega, fun k hk => Lib.bytesWorld_at_old w t s k hk⟩
  · unfold Lib.bytesWorld World.freeze; split <;> rfl
  · unfold Lib.bytesWorld World.freeze; split <;> rfl
  · unfold Lib.bytesWorld World.freeze; split <;> rfl
theorem low_up {b : UInt8} (h : 65 ≤ b.toNat ∧ b.toNat ≤ 90) : ((lowB b).toNat : Int) = (b.toNat : Int) + 32 := by
  unfold lowB
  rw [if_pos h, UInt8.toNat_add]
  have : (32 : UInt8).toNat = 32 := rfl
  rw [this, Nat.mod_eq_of_lt (by omega)]
  omega
theorem low_no {b : UInt8} (h : ¬ (65 ≤ b.toNat ∧ b.toNat ≤ 90)) : lowB b = b := by unfold lowB; rw [if_neg h]
set_option maxHeartbeats 4000000 in
theorem slow (s : ByteArray) (w : World) (hs : s.size ≤ 1048576) :
    Calls Tryd.prog 72 #[.string s] w fun e w' => e = .returned (.string (bA (lowL s.data.toList))) ∧ Nw w w' := by
  have hcv := Lib.run_convert_string_bytes (P := Tryd.prog) w 9 73 5 s (u := .string) Tryd.underlying9 Tryd.underlying73 Tryd.underlying5
  have HST : Hid (LwR w.heap.size s.data.toList 0 (Lib.bytesWorld w 5 s)) := LwR.start w s 5
  have HNW : Hid (Nw w (Lib.bytesWorld w 5 s)) := bytes_nw w 5 s
  generalize Lib.bytesWorld w 5 s = W at *
  generalize grownCap w s.size 0 5 = C at *
  go_enter Tryd.func72, Tryd.ntmps72
  go_wp2
  clear hcv
  go_loopw [10] (fun i wr => ∃ k : Nat, k ≤ s.size ∧ i = .int .i64 (k : Int) ∧ LwR w.heap.size s.data.toList k wr ∧ Nw w wr) (fun i _ => s.size - (intOf i).toNat)
  case atStart => exact ⟨0, Nat.zero_le _, rfl, HST.out, HNW.out⟩
  case round =>
    obtain ⟨k, hk, rfl, hl, hw⟩ := hrel
    have HL : Hid (LwR w.heap.size s.data.toList k wr) := hl
    have HW : Hid (Nw w wr) := hw
    have hlt0 := hl.lt
    have hfz := hl.fz
    by_cases hlt : k < s.size
    · have q0 := hl.hi k (Nat.le_refl _) (by rw [data_len]; exact hlt)
      have qf := hfz k (by rw [data_len]; exact hlt)
      have hub : (byL s.data.toList k).toNat ≤ 255 := by have := UInt8.toNat_lt (byL s.data.toList k); omega
      clear hl hw hfz
      by_cases hu : 65 ≤ (byL s.data.toList k).toNat ∧ (byL s.data.toList k).toNat ≤ 90
      · have HP : Hid _ := HL.out.put (by rw [data_len]; exact hlt)
        have hlo := low_up hu
        rw [hlo] at HP
        have h1 : (65 : Int) ≤ ((byL s.data.toList k).toNat : Int) := by omega
        have h2 : ((byL s.data.toList k).toNat : Int) ≤ 90 := by omega
        clear hlo hu
        generalize (byL s.data.toList k).toNat = x at *
        go_wp2
        go_roundw
        case rel => exact ⟨k + 1, by omega, by go_num, HP.out, HW.out.setCell (Nat.le_refl _) _⟩
        case measure => simp [intOf]; omega
      · have HP : Hid _ := HL.out.keep (by rw [data_len]; exact hlt) (low_no hu)
        by_cases h1 : (65 : Int) ≤ ((byL s.data.toList k).toNat : Int)
        · have h2 : ¬ (((byL s.data.toList k).toNat : Int) ≤ 90) := by omega
          clear hu
          generalize (byL s.data.toList k).toNat = x at *
          go_wp2
          go_roundw
          case rel => exact ⟨k + 1, by omega, by go_num, HP.out, HW.out⟩
          case measure => simp [intOf]; omega
        · clear hu
          generalize (byL s.data.toList k).toNat = x at *
          go_wp2
          go_roundw
          case rel => exact ⟨k + 1, by omega, by go_num, HP.out, HW.out⟩
          case measure => simp [intOf]; omega
    · have e : k = s.size := by omega
      have hsz : (bA (lowL s.data.toList)).size = s.size := by rw [bA_size]; unfold lowL; rw [List.length_map, data_len]
      have hbk := Lib.run_convert_whole (P := Tryd.prog) wr 73 5 9 Tryd.underlying73 Tryd.underlying5 Tryd.underlying9 w.heap.size 0 (bA (lowL s.data.toList)) (by
        intro i hi
        rw [hsz] at hi
        rw [Nat.zero_add, HL.out.lo i (by omega)]
        congr 2
        have hi2 : i < s.data.size := hi
        rw [getB _ i (by rw [hsz]; exact hi)]
        simp [bA, lowL, byL]
        rw [Array.getElem?_eq_getElem hi2]
        rfl) C
      rw [hsz] at hbk
      subst e
      clear hl hw hfz
      go_wp2
      go_ret
      exact ⟨rfl, HW.out⟩
end Go.Proofs.YtnkmdmmlpidcmaaDoor
namespace Go.Proofs.YtnkmdmmlpidcmaaDoor
open Go.ChangeShapes Go.WideShapes Go.ChangeAt Go.RowKit
set_option linter.unusedVariables false

theorem or8 (a b : Nat) (ha : a < 2^8) (hb : b < 2^8) : Go.bits .or .u8 (a : Int) (b : Int) = ((a ||| b : Nat) : Int) := by
  have h3 : a ||| b < 2^8 := Nat.or_lt_two_pow ha hb
  have ea : (BitVec.ofInt IntKind.u8.bits (a : Int)) = BitVec.ofNat 8 a := by rw [BitVec.ofInt_natCast]; rfl
  have eb : (BitVec.ofInt IntKind.u8.bits (b : Int)) = BitVec.ofNat 8 b := by rw [BitVec.ofInt_natCast]; rfl
  have h : (BitVec.ofNat 8 a ||| BitVec.ofNat 8 b).toNat = a ||| b := by
    rw [BitVec.toNat_or, BitVec.toNat_ofNat, BitVec.toNat_ofNat, Nat.mod_eq_of_lt ha, Nat.mod_eq_of_lt hb]
  show IntKind.u8.wrap (((BitVec.ofInt IntKind.u8.bits (a : Int)) ||| (BitVec.ofInt IntKind.u8.bits (b : Int))).toNat : Int) = _
  rw [ea, eb]
  show IntKind.u8.wrap (((BitVec.ofNat 8 a) ||| (BitVec.ofNat 8 b)).toNat : Int) = _
  rw [h]
  unfold IntKind.wrap
  simp [IntKind.bits, IntKind.signed]
  omega
def loN (n : Nat) : Nat := n ||| 32
theorem loN_lt {n : Nat} (h : n < 256) : loN n < 256 := Nat.or_lt_two_pow (n := 8) h (by decide)
theorem ilower (n : Nat) (h : n < 256) (w : World) : Calls Tryd.prog 139 #[.int .u8 (n : Int)] w fun e w' => e = .returned (.int .u8 (loN n : Nat)) ∧ w' = w := by
  have HH : Hid (Go.bits .or .u8 (n : Int) 32 = ((loN n : Nat) : Int)) := or8 n 32 h (by decide)
  go_enter Tryd.func139, Tryd.ntmps139
  go_wp2
  go_ret
  exact ⟨by rw [← HH.out]; rfl, rfl⟩
/-- What a byte says to base 16: the table of all of them. -/
def hexT (n : Nat) : Bool :=
  if 48 ≤ n ∧ n ≤ 57 then decide (hxI (UInt8.ofNat n) = (n : Int) - 48)
  else if 97 ≤ loN n ∧ loN n ≤ 122 then (if loN n ≤ 102 then decide (hxI (UInt8.ofNat n) = (loN n : Int) - 97 + 10) else decide (hxI (UInt8.ofNat n) = -1))
  else decide (hxI (UInt8.ofNat n) = -1)
theorem hexT_all : (List.range 256).all hexT = true := by decide +kernel
theorem hexT_at (c : UInt8) : hexT c.toNat = true := by
  have h := UInt8.toNat_lt c
  exact List.all_eq_true.1 hexT_all c.toNat (List.mem_range.2 h)
theorem hx_dig {c : UInt8} (h : 48 ≤ c.toNat ∧ c.toNat ≤ 57) : hxI c = (c.toNat : Int) - 48 := by
  have := hexT_at c
  unfold hexT at this
  rw [if_pos h, UInt8.ofNat_toNat] at this
  exact of_decide_eq_true this
theorem hx_let {c : UInt8} (h : ¬ (48 ≤ c.toNat ∧ c.toNat ≤ 57)) (h2 : 97 ≤ loN c.toNat ∧ loN c.toNat ≤ 122) (h3 : loN c.toNat ≤ 102) : hxI c = (loN c.toNat : Int) - 97 + 10 := by
  have := hexT_at c
  unfold hexT at this
  rw [if_neg h, if_pos h2, if_pos h3, UInt8.ofNat_toNat] at this
  exact of_decide_eq_true this
theorem hx_far {c : UInt8} (h : ¬ (48 ≤ c.toNat ∧ c.toNat ≤ 57)) (h2 : 97 ≤ loN c.toNat ∧ loN c.toNat ≤ 122) (h3 : ¬ loN c.toNat ≤ 102) : hxI c = -1 := by
  have := hexT_at c
  unfold hexT at this
  rw [if_neg h, if_pos h2, if_neg h3, UInt8.ofNat_toNat] at this
  exact of_decide_eq_true this
theorem hx_not {c : UInt8} (h : ¬ (48 ≤ c.toNat ∧ c.toNat ≤ 57)) (h2 : ¬ (97 ≤ loN c.toNat ∧ loN c.toNat ≤ 122)) : hxI c = -1 := by
  have := hexT_at c
  unfold hexT at this
  rw [if_neg h, if_neg h2, UInt8.ofNat_toNat] at this
  exact of_decide_eq_true this
/-- The number that hex digits tell. -/
def hxV (l : List UInt8) : Int := l.foldl (fun n b => n * 16 + hxI b) 0
theorem hxV_snoc (l : List UInt8) (b : UInt8) : hxV (l ++ [b]) = hxV l * 16 + hxI b := by unfold hxV; rw [List.foldl_append]; rfl
theorem hxF_bd : ∀ (l : List UInt8) (n : Int), 0 ≤ n → l.all hexB = true → 0 ≤ l.foldl (fun n b => n * 16 + hxI b) n ∧ l.foldl (fun n b => n * 16 + hxI b) n < (n + 1) * 16 ^ l.length := by
  intro l
  induction l with
  | nil => intro n hn _; exact ⟨hn, by simp; omega⟩
  | cons b l ih =>
    intro n hn h
    rw [List.all_cons, Bool.and_eq_true] at h
    have h4 : 0 ≤ hxI b := of_decide_eq_true h.1
    have h5 := (hxI_bd b).2
    obtain ⟨h6, h7⟩ := ih (n * 16 + hxI b) (by omega) h.2
    refine ⟨h6, ?_⟩
    rw [List.foldl_cons]
    refine Int.lt_of_lt_of_le h7 ?_
    rw [List.length_cons, Int.pow_succ, Int.mul_comm (16 ^ l.length) 16, ← Int.mul_assoc]
    have hp : (0 : Int) ≤ 16 ^ l.length := Int.le_of_lt (Int.pow_pos (by decide))
    exact Int.mul_le_mul_of_nonneg_right (by omega) hp
theorem hxV_bd (l : List UInt8) (h : l.all hexB = true) : 0 ≤ hxV l ∧ hxV l < 16 ^ l.length := by
  have := hxF_bd l 0 (by decide) h
  rw [Int.zero_add, Int.one_mul] at this
  exact this
/-- What the library's reader answers of a text. -/
structure PuS (s : ByteArray) (n : Int) (err : Value) : Prop where
  lo : 0 ≤ n
  hi : n ≤ 18446744073709551615
  yes : s.size = 6 → s.data.toList.all hexB = true → err = .nilIface ∧ n = hxV s.data.toList
  no : s.size = 6 → s.data.toList.all hexB = false → err = .iface 153 (.int .i64 2)
  way : err = .nilIface ∨ err = .iface 153 (.int .i64 1) ∨ err = .iface 153 (.int .i64 2)
theorem ktake (s : ByteArray) (k : Nat) (h : k < s.size) : s.data.toList.take (k + 1) = s.data.toList.take k ++ [s[k]] := take_snoc s k h
theorem PuS.bad {s : ByteArray} {k : Nat} (h : k < s.size) (hx : hxI s[k] = -1) : PuS s 0 (.iface 153 (.int .i64 2)) := by
  have hb : s.data.toList.all hexB = false := by
    rw [List.all_eq_false]
    refine ⟨s[k], by rw [getB s k h]; exact List.getElem_mem _, ?_⟩
    unfold hexB
    rw [hx]
    decide
  exact ⟨by decide, by decide, (fun _ h2 => by rw [hb] at h2; cases h2), fun _ _ => rfl, Or.inr (Or.inr rfl)⟩
theorem PuS.none {s : ByteArray} (h : s.size = 0) : PuS s 0 (.iface 153 (.int .i64 2)) :=
  ⟨by decide, by decide, (fun h2 => by omega), (fun h2 => by omega), Or.inr (Or.inr rfl)⟩
theorem PuS.rng {s : ByteArray} {k : Nat} (hk : k < s.size) (ha : (s.data.toList.take k).all hexB = true) (hn : 1152921504606846976 ≤ hxV (s.data.toList.take k)) : PuS s 18446744073709551615 (.iface 153 (.int .i64 1)) := by
  have hb : ¬ s.size = 6 := by
    intro h6
    have h1 := (hxV_bd _ ha).2
    have h2 : (s.data.toList.take k).length ≤ 6 := by rw [List.length_take]; omega
    have h4 : (16 : Int) ^ (s.data.toList.take k).length ≤ 16 ^ 6 := by
      have := Nat.pow_le_pow_right (n := 16) (by omega) h2
      exact_mod_cast this
    omega
  exact ⟨by decide, by decide, fun h => absurd h hb, fun h => absurd h hb, Or.inr (Or.inl rfl)⟩
theorem PuS.all {s : ByteArray} (ha : s.data.toList.all hexB = true) (hn : hxV s.data.toList ≤ 18446744073709551615) : PuS s (hxV s.data.toList) .nilIface :=
  ⟨(hxV_bd _ ha).1, hn, fun _ _ => ⟨rfl, rfl⟩, (fun _ h => by rw [ha] at h; cases h), Or.inl rfl⟩
end Go.Proofs.YtnkmdmmlpidcmaaDoor
namespace Go.Proofs.YtnkmdmmlpidcmaaDoor
open Go.ChangeShapes Go.WideShapes Go.ChangeAt Go.RowKit
set_option linter.unusedVariables false

set_option maxHeartbeats 8000000 in
set_option maxRecDepth 100000 in
theorem iparse (s : ByteArray) (w : World) (hs : s.size ≤ 1048576) :
    Calls Tryd.prog 115 #[.string s, .int .i64 16, .int .i64 64] w fun e w' => ∃ n err, e = .returned (.tuple #[.int .u64 n, err]) ∧ PuS s n err ∧ Nw w w' := by
  by_cases h0 : s.size = 0
  · have he : s.toList.isEmpty = true := by
      rw [ByteArray.toList_eq]
      have : s.data.toList = [] := List.eq_nil_of_length_eq_zero (by rw [data_len]; exact h0)
      rw [this]; rfl
    have he2 : (s.toList == []) = true := by rw [beq_iff_eq]; exact List.isEmpty_iff.1 he
    have he3 : s.toList = [] := List.isEmpty_iff.1 he
    have HP : Hid (PuS s 0 (.iface 153 (.int .i64 2))) := PuS.none h0
    clear h0
    go_enter Tryd.func115, Tryd.ntmps115
    go_wp2
    go_ret2
    exact ⟨_, _, rfl, HP.out, Below.refl _ _⟩
  · have he3 : ¬ s.toList = [] := by
      rw [ByteArray.toList_eq]
      intro e
      apply h0
      rw [← data_len, e]; rfl
    have he : s.toList.isEmpty = false := by
      rw [Bool.eq_false_iff]
      intro e
      exact he3 (List.isEmpty_iff.1 e)
    have he2 : (s.toList == []) = false := by rw [beq_eq_false_iff_ne]; exact he3
    have hcv := Lib.run_convert_string_bytes (P := Tryd.prog) w 9 73 5 s (u := .string) Tryd.underlying9 Tryd.underlying73 Tryd.underlying5
    have HNW : Hid (Nw w (Lib.bytesWorld w 5 s)) := bytes_nw w 5 s
    have HCE : Hid (∀ j (h : j < s.size), (Lib.bytesWorld w 5 s).cell? ⟨w.heap.size, j, none⟩ = some (.int .u8 (s[j].toNat : Int))) := fun j h => by
      have e : s.data.toList.getD j 0 = s[j] := by rw [getB s j h, List.getD_eq_getElem?_getD, List.getElem?_eq_getElem (by rw [data_len]; exact h)]; rfl
      rw [Lib.bytesWorld_cell w 5 s j h, e]
    have hgs : w.heap.size < (Lib.bytesWorld w 5 s).heap.size := by rw [Lib.bytesWorld_size]; omega
    have HGS : Hid _ := hgs
    clear hgs h0
    generalize Lib.bytesWorld w 5 s = W at *
    generalize grownCap w s.size 0 5 = C at *
    go_enter Tryd.func115, Tryd.ntmps115
    go_wp2
    clear hcv
    have hmv : IntKind.u64.wrap (IntKind.u64.wrap 18446744073709551616 - 1) = 18446744073709551615 := by decide
    rw [hmv]
    clear hmv
    go_loopw [12, 13, 101] (fun u x i wr => ∃ k : Nat, k ≤ s.size ∧ u = .bool false ∧ i = .int .i64 k ∧ x = .int .u64 (hxV (s.data.toList.take k)) ∧ (s.data.toList.take k).all hexB = true ∧ hxV (s.data.toList.take k) ≤ 18446744073709551615 ∧ wr = W) (fun _ _ i _ => s.size - (intOf i).toNat)
    case atStart => exact ⟨0, Nat.zero_le _, rfl, rfl, rfl, rfl, (by show (0 : Int) ≤ _; decide), rfl⟩
    case round =>
      obtain ⟨k, hk, rfl, rfl, rfl, hall, hbd, rfl⟩ := hrel
      have hn0 := (hxV_bd _ hall).1
      have HAL : Hid ((s.data.toList.take k).all hexB = true) := hall
      have hgl := HGS.out
      clear hall
      by_cases hlt : k < s.size
      · have hltI : (k : Int) < (s.size : Int) := by omega
        have q0 := HCE.out k hlt
        have hc8 : s[k].toNat < 256 := UInt8.toNat_lt s[k]
        have HTK : Hid (s.data.toList.take (k + 1) = s.data.toList.take k ++ [s[k]]) := ktake s k hlt
        have HLO : Hid (∀ W, Calls Tryd.prog 139 #[.int .u8 (s[k].toNat : Int)] W fun e w' => e = .returned (.int .u8 (loN s[k].toNat : Nat)) ∧ w' = W) := fun W => ilower _ hc8 W
        have hL := loN_lt hc8
        have H95 : Hid (s[k].toNat = 95 → loN s[k].toNat = 127) := fun h => by rw [h]; decide
        obtain ⟨n, hnn⟩ : ∃ n, hxV (s.data.toList.take k) = n := ⟨_, rfl⟩
        have HNN : Hid (hxV (s.data.toList.take k) = n) := hnn
        rw [hnn] at hn0 hbd
        rw [hnn]
        clear hnn
        by_cases h1 : 48 ≤ s[k].toNat ∧ s[k].toNat ≤ 57
        · have HXX : Hid (hxI s[k] = (s[k].toNat : Int) - 48) := hx_dig h1
          generalize s[k].toNat = c at *
          have c1 : (48 : Int) ≤ (c : Int) := by omega
          have c2 : (c : Int) ≤ 57 := by omega
          have c3 : ((c : Int) == 95) = false := by rw [beq_eq_false_iff_ne]; omega
          have c4 : ¬ (16 ≤ (c : Int) - 48) := by omega
          clear h1 H95 HLO
          have HNX : Hid (hxV (s.data.toList.take (k + 1)) = n * 16 + ((c : Int) - 48)) := by show _ = _; rw [HTK.out, hxV_snoc, HNN.out, HXX.out]
          have HAX : Hid ((s.data.toList.take (k + 1)).all hexB = true) := by
            show _ = _
            rw [HTK.out, List.all_append, HAL.out]
            simp only [List.all_cons, List.all_nil, Bool.and_true, Bool.true_and]
            unfold hexB
            rw [HXX.out]
            exact decide_eq_true (by omega)
          by_cases hcut : 1152921504606846976 ≤ n
          · have HP : Hid (PuS s 18446744073709551615 (.iface 153 (.int .i64 1))) := PuS.rng hlt HAL.out (by rw [HNN.out]; exact hcut)
            go_wp2
            go_ret2
            exact ⟨_, _, rfl, HP.out, HNW.out⟩
          · have w1 : IntKind.u64.wrap (n * 16) = n * 16 := IntWalk.u64_in _ (by omega)
            have w2 : IntKind.u64.wrap (n * 16 + ((c : Int) - 48)) = n * 16 + ((c : Int) - 48) := IntWalk.u64_in _ (by omega)
            have t1 : ¬ (n * 16 + ((c : Int) - 48) < n * 16) := by omega
            have t2 : ¬ (18446744073709551615 < n * 16 + ((c : Int) - 48)) := by omega
            have HBD : Hid (n * 16 + ((c : Int) - 48) ≤ 18446744073709551615) := by show _ ≤ _; omega
            go_wp2
            go_roundw
            case rel => exact ⟨k + 1, by omega, rfl, by go_num, by rw [HNX.out], HAX.out, by rw [HNX.out]; exact HBD.out, by first | rfl | trivial⟩
            case measure => simp [intOf]; omega
        · by_cases h2 : 97 ≤ loN s[k].toNat ∧ loN s[k].toNat ≤ 122
          · by_cases h3 : loN s[k].toNat ≤ 102
            · have HXX : Hid (hxI s[k] = (loN s[k].toNat : Int) - 97 + 10) := hx_let h1 h2 h3
              have c3 : ((s[k].toNat : Int) == 95) = false := by rw [beq_eq_false_iff_ne]; intro e; have := H95.out (by omega); omega
              have c0 : ¬ ((48 : Int) ≤ (s[k].toNat : Int) ∧ (s[k].toNat : Int) ≤ 57) := by omega
              generalize loN s[k].toNat = L at *
              generalize s[k].toNat = c at *
              clear h1
              by_cases c5 : (48 : Int) ≤ (c : Int)
              · have c6 : ¬ ((c : Int) ≤ 57) := by omega
                have c1 : (97 : Int) ≤ (L : Int) := by omega
                have c2 : (L : Int) ≤ 102 := by omega
                have c7 : (L : Int) ≤ 122 := by omega
                have c4 : ¬ (16 ≤ (L : Int) - 97 + 10) := by omega
                clear h2 h3 H95 c0
                have HNX : Hid (hxV (s.data.toList.take (k + 1)) = n * 16 + ((L : Int) - 97 + 10)) := by show _ = _; rw [HTK.out, hxV_snoc, HNN.out, HXX.out]
                have HAX : Hid ((s.data.toList.take (k + 1)).all hexB = true) := by
                  show _ = _
                  rw [HTK.out, List.all_append, HAL.out]
                  simp only [List.all_cons, List.all_nil, Bool.and_true, Bool.true_and]
                  unfold hexB
                  rw [HXX.out]
                  exact decide_eq_true (by omega)
                by_cases hcut : 1152921504606846976 ≤ n
                · have HP : Hid (PuS s 18446744073709551615 (.iface 153 (.int .i64 1))) := PuS.rng hlt HAL.out (by rw [HNN.out]; exact hcut)
                  go_wp2_with (go_at_call 139; refine Calls.mono (HLO.out _) ?_; rintro e w9 ⟨rfl, hq⟩; have hq2 := hq.symm; clear hq; subst hq2)
                  go_ret2
                  exact ⟨_, _, rfl, HP.out, HNW.out⟩
                · have w1 : IntKind.u64.wrap (n * 16) = n * 16 := IntWalk.u64_in _ (by omega)
                  have w2 : IntKind.u64.wrap (n * 16 + ((L : Int) - 97 + 10)) = n * 16 + ((L : Int) - 97 + 10) := IntWalk.u64_in _ (by omega)
                  have t1 : ¬ (n * 16 + ((L : Int) - 97 + 10) < n * 16) := by omega
                  have t2 : ¬ (18446744073709551615 < n * 16 + ((L : Int) - 97 + 10)) := by omega
                  have HBD : Hid (n * 16 + ((L : Int) - 97 + 10) ≤ 18446744073709551615) := by show _ ≤ _; omega
                  go_wp2_with (go_at_call 139; refine Calls.mono (HLO.out _) ?_; rintro e w9 ⟨rfl, hq⟩; have hq2 := hq.symm; clear hq; subst hq2)
                  go_roundw
                  case rel => exact ⟨k + 1, by omega, rfl, by go_num, by rw [HNX.out], HAX.out, by rw [HNX.out]; exact HBD.out, by first | rfl | trivial⟩
                  case measure => simp [intOf]; omega
              · have c1 : (97 : Int) ≤ (L : Int) := by omega
                have c2 : (L : Int) ≤ 102 := by omega
                have c7 : (L : Int) ≤ 122 := by omega
                have c4 : ¬ (16 ≤ (L : Int) - 97 + 10) := by omega
                clear h2 h3 H95 c0
                have HNX : Hid (hxV (s.data.toList.take (k + 1)) = n * 16 + ((L : Int) - 97 + 10)) := by show _ = _; rw [HTK.out, hxV_snoc, HNN.out, HXX.out]
                have HAX : Hid ((s.data.toList.take (k + 1)).all hexB = true) := by
                  show _ = _
                  rw [HTK.out, List.all_append, HAL.out]
                  simp only [List.all_cons, List.all_nil, Bool.and_true, Bool.true_and]
                  unfold hexB
                  rw [HXX.out]
                  exact decide_eq_true (by omega)
                by_cases hcut : 1152921504606846976 ≤ n
                · have HP : Hid (PuS s 18446744073709551615 (.iface 153 (.int .i64 1))) := PuS.rng hlt HAL.out (by rw [HNN.out]; exact hcut)
                  go_wp2_with (go_at_call 139; refine Calls.mono (HLO.out _) ?_; rintro e w9 ⟨rfl, hq⟩; have hq2 := hq.symm; clear hq; subst hq2)
                  go_ret2
                  exact ⟨_, _, rfl, HP.out, HNW.out⟩
                · have w1 : IntKind.u64.wrap (n * 16) = n * 16 := IntWalk.u64_in _ (by omega)
                  have w2 : IntKind.u64.wrap (n * 16 + ((L : Int) - 97 + 10)) = n * 16 + ((L : Int) - 97 + 10) := IntWalk.u64_in _ (by omega)
                  have t1 : ¬ (n * 16 + ((L : Int) - 97 + 10) < n * 16) := by omega
                  have t2 : ¬ (18446744073709551615 < n * 16 + ((L : Int) - 97 + 10)) := by omega
                  have HBD : Hid (n * 16 + ((L : Int) - 97 + 10) ≤ 18446744073709551615) := by show _ ≤ _; omega
                  go_wp2_with (go_at_call 139; refine Calls.mono (HLO.out _) ?_; rintro e w9 ⟨rfl, hq⟩; have hq2 := hq.symm; clear hq; subst hq2)
                  go_roundw
                  case rel => exact ⟨k + 1, by omega, rfl, by go_num, by rw [HNX.out], HAX.out, by rw [HNX.out]; exact HBD.out, by first | rfl | trivial⟩
                  case measure => simp [intOf]; omega
            · have HXX : Hid (hxI s[k] = -1) := hx_far h1 h2 h3
              have c3 : ((s[k].toNat : Int) == 95) = false := by rw [beq_eq_false_iff_ne]; intro e; have := H95.out (by omega); omega
              have c0 : ¬ ((48 : Int) ≤ (s[k].toNat : Int) ∧ (s[k].toNat : Int) ≤ 57) := by omega
              have HPB : Hid (PuS s 0 (.iface 153 (.int .i64 2))) := PuS.bad hlt HXX.out
              generalize loN s[k].toNat = L at *
              generalize s[k].toNat = c at *
              clear h1
              have c1 : (97 : Int) ≤ (L : Int) := by omega
              have c7 : (L : Int) ≤ 122 := by omega
              have c4 : 16 ≤ (L : Int) - 97 + 10 := by omega
              clear h2 h3 H95
              by_cases c5 : (48 : Int) ≤ (c : Int)
              · have c6 : ¬ ((c : Int) ≤ 57) := by omega
                clear c0
                go_wp2_with (go_at_call 139; refine Calls.mono (HLO.out _) ?_; rintro e w9 ⟨rfl, hq⟩; have hq2 := hq.symm; clear hq; subst hq2)
                go_ret2
                exact ⟨_, _, rfl, HPB.out, HNW.out⟩
              · clear c0
                go_wp2_with (go_at_call 139; refine Calls.mono (HLO.out _) ?_; rintro e w9 ⟨rfl, hq⟩; have hq2 := hq.symm; clear hq; subst hq2)
                go_ret2
                exact ⟨_, _, rfl, HPB.out, HNW.out⟩
          · have HXX : Hid (hxI s[k] = -1) := hx_not h1 h2
            have c0 : ¬ ((48 : Int) ≤ (s[k].toNat : Int) ∧ (s[k].toNat : Int) ≤ 57) := by omega
            have HPB : Hid (PuS s 0 (.iface 153 (.int .i64 2))) := PuS.bad hlt HXX.out
            generalize loN s[k].toNat = L at *
            generalize s[k].toNat = c at *
            clear h1 H95
            obtain ⟨B5, h5⟩ : ∃ B5, ((c : Int) == 95) = B5 := ⟨_, rfl⟩
            by_cases c1 : (97 : Int) ≤ (L : Int)
            · have c7 : ¬ ((L : Int) ≤ 122) := by omega
              clear h2
              by_cases c5 : (48 : Int) ≤ (c : Int)
              · have c6 : ¬ ((c : Int) ≤ 57) := by omega
                clear c0
                cases B5 <;> (
                  go_wp2_with (go_at_call 139; refine Calls.mono (HLO.out _) ?_; rintro e w9 ⟨rfl, hq⟩; have hq2 := hq.symm; clear hq; subst hq2)
                  go_ret2
                  exact ⟨_, _, rfl, HPB.out, HNW.out⟩)
              · clear c0
                cases B5 <;> (
                  go_wp2_with (go_at_call 139; refine Calls.mono (HLO.out _) ?_; rintro e w9 ⟨rfl, hq⟩; have hq2 := hq.symm; clear hq; subst hq2)
                  go_ret2
                  exact ⟨_, _, rfl, HPB.out, HNW.out⟩)
            · clear h2
              by_cases c5 : (48 : Int) ≤ (c : Int)
              · have c6 : ¬ ((c : Int) ≤ 57) := by omega
                clear c0
                cases B5 <;> (
                  go_wp2_with (go_at_call 139; refine Calls.mono (HLO.out _) ?_; rintro e w9 ⟨rfl, hq⟩; have hq2 := hq.symm; clear hq; subst hq2)
                  go_ret2
                  exact ⟨_, _, rfl, HPB.out, HNW.out⟩)
              · clear c0
                cases B5 <;> (
                  go_wp2_with (go_at_call 139; refine Calls.mono (HLO.out _) ?_; rintro e w9 ⟨rfl, hq⟩; have hq2 := hq.symm; clear hq; subst hq2)
                  go_ret2
                  exact ⟨_, _, rfl, HPB.out, HNW.out⟩)
      · have hke : k = s.size := by omega
        subst hke
        have hltI : ¬ ((s.size : Int) < (s.size : Int)) := by omega
        have htk : s.data.toList.take s.size = s.data.toList := List.take_of_length_le (by rw [data_len]; exact Nat.le_refl _)
        rw [htk] at HAL hbd
        rw [htk]
        have HP : Hid (PuS s (hxV s.data.toList) .nilIface) := PuS.all HAL.out hbd
        clear htk
        generalize hxV s.data.toList = n at *
        go_wp2
        go_ret2
        exact ⟨_, _, rfl, HP.out, HNW.out⟩
end Go.Proofs.YtnkmdmmlpidcmaaDoor
namespace Go.Proofs.YtnkmdmmlpidcmaaDoor
open Go.ChangeShapes Go.WideShapes Go.ChangeAt Go.RowKit
set_option linter.unusedVariables false

/-- Nothing, or a value in an interface. -/
def IfV (v : Value) : Prop := v = .nilIface ∨ ∃ t x, v = .iface t x
/-- The library's two faults lie in their variables. -/
def ErrL (w : World) : Prop := (∃ v, w.cell? ⟨1, 0, none⟩ = some v ∧ IfV v) ∧ (∃ v, w.cell? ⟨2, 0, none⟩ = some v ∧ IfV v)
theorem cell_lt {w : World} {g : Nat} {v : Value} (h : w.cell? ⟨g, 0, none⟩ = some v) : g < w.heap.size := by
  by_cases hl : g < w.heap.size
  · exact hl
  · exfalso
    unfold World.cell? at h
    simp only [Array.getElem?_eq_none (Nat.le_of_not_lt hl)] at h
    cases h
theorem ErrL.nw {w w' : World} (h : ErrL w) (k : Nw w w') : ErrL w' := by
  obtain ⟨⟨v1, h1, i1⟩, v2, h2, i2⟩ := h
  exact ⟨⟨v1, (Below.cell k (p := ⟨1, 0, none⟩) (cell_lt h1)).trans h1, i1⟩, v2, (Below.cell k (p := ⟨2, 0, none⟩) (cell_lt h2)).trans h2, i2⟩
theorem clone_k (w : World) (s : ByteArray) (hs : s.size ≤ 1048576) : Calls Tryd.prog 100 #[.string s] w fun e w' => e = .returned (.string s) ∧ Nw w w' := by
  refine (Tryd.stringslite_Clone _ _ (by omega)).mono ?_
  rintro e w' ⟨rfl, k1⟩
  exact ⟨rfl, k1⟩
set_option maxHeartbeats 4000000 in
theorem isyntax (f s : ByteArray) (w : World) (hs : s.size ≤ 1048576) (h : ErrL w) : Calls Tryd.prog 141 #[.string f, .string s] w fun e w' => (∃ a, e = .returned (.pointer (some a))) ∧ Nw w w' := by
  obtain ⟨⟨v, hc, hi⟩, _⟩ := h
  have HCL : Hid (∀ W, Calls Tryd.prog 100 #[.string s] W fun e w' => e = .returned (.string s) ∧ Nw W w') := fun W => clone_k W s hs
  have HL := cell_lt hc
  rcases hi with rfl | ⟨t, x, rfl⟩
  all_goals
    have HC : Hid (∀ w', Nw w w' → w'.cell? ⟨1, 0, none⟩ = _) := fun w' k => (Below.cell k (p := ⟨1, 0, none⟩) HL).trans hc
    have hcd : w.drew.cell? ⟨1, 0, none⟩ = _ := hc
    go_enter Tryd.func141, Tryd.ntmps141
    go_wp2
    go_region_with (go_at_call 100; refine Calls.mono (HCL.out _) ?_; rintro e w1 ⟨rfl, k1⟩; have hc1 := HC.out w1 (k1.drw))
    all_goals
      go_wp2
      go_ret
      exact ⟨⟨_, rfl⟩, by first | exact (k1.drw).alloc (Below.size (k1.drw)) _ | exact ((k1.drw).alloc (Below.size (k1.drw)) _).drew⟩
set_option maxHeartbeats 4000000 in
theorem irange (f s : ByteArray) (w : World) (hs : s.size ≤ 1048576) (h : ErrL w) : Calls Tryd.prog 142 #[.string f, .string s] w fun e w' => (∃ a, e = .returned (.pointer (some a))) ∧ Nw w w' := by
  obtain ⟨_, ⟨v, hc, hi⟩⟩ := h
  have HCL : Hid (∀ W, Calls Tryd.prog 100 #[.string s] W fun e w' => e = .returned (.string s) ∧ Nw W w') := fun W => clone_k W s hs
  have HL := cell_lt hc
  rcases hi with rfl | ⟨t, x, rfl⟩
  all_goals
    have HC : Hid (∀ w', Nw w w' → w'.cell? ⟨2, 0, none⟩ = _) := fun w' k => (Below.cell k (p := ⟨2, 0, none⟩) HL).trans hc
    have hcd : w.drew.cell? ⟨2, 0, none⟩ = _ := hc
    go_enter Tryd.func142, Tryd.ntmps142
    go_wp2
    go_region_with (go_at_call 100; refine Calls.mono (HCL.out _) ?_; rintro e w1 ⟨rfl, k1⟩; have hc1 := HC.out w1 (k1.drw))
    all_goals
      go_wp2
      go_ret
      exact ⟨⟨_, rfl⟩, by first | exact (k1.drw).alloc (Below.size (k1.drw)) _ | exact ((k1.drw).alloc (Below.size (k1.drw)) _).drew⟩
end Go.Proofs.YtnkmdmmlpidcmaaDoor
