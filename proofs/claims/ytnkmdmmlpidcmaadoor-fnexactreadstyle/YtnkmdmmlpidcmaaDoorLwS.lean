/-
  A text in small letters, by the specification; each theorem names its conditions.
-/
import Derived.Test.YtnkmdmmlpidcmaaDoorDlP
import Derived.Test.YtnkmdmmlpidcmaaDoorMkl
import Derived.Lib.ConvBytes
import Derived.Lib.SlBytesRow
namespace Go.Proofs.YtnkmdmmlpidcmaaDoor
open Go.ChangeShapes Go.WideShapes Go.ChangeAt Go.RowKit
set_option linter.unusedVariables false

def byL (l : List UInt8) (k : Nat) : UInt8 := l.getD k 0
/-- A row of bytes of which the first k are in small letters. -/
structure LwR (g : Nat) (l : List UInt8) (k : Nat) (w : World) : Prop where
  lt : g < w.heap.size
  lo : ∀ j, j < k → w.cell? ⟨g, j, none⟩ = some (.int .u8 ((lowB (byL l j)).toNat : Int))
  hi : ∀ j, k ≤ j → j < l.length → w.cell? ⟨g, j, none⟩ = some (.int .u8 ((byL l j).toNat : Int))
  fz : ∀ j, j < l.length → w.frozen? ⟨g, j, none⟩ = false
theorem LwR.keep {g k : Nat} {l : List UInt8} {w : World} (h : LwR g l k w) (hk : k < l.length) (e : lowB (byL l k) = byL l k) : LwR g l (k + 1) w :=
  ⟨h.lt, fun j hj => by
    rcases Nat.lt_succ_iff_lt_or_eq.1 hj with h1 | h1
    · exact h.lo j h1
    · subst h1; rw [e]; exact h.hi j (Nat.le_refl _) hk, fun j h1 h2 => h.hi j (by omega) h2, h.fz⟩
theorem LwR.put {g k : Nat} {l : List UInt8} {w : World} (h : LwR g l k w) (hk : k < l.length) : LwR g l (k + 1) (w.setCell ⟨g, k, none⟩ (.int .u8 ((lowB (byL l k)).toNat : Int))) := by
  have far : ∀ j, j ≠ k → (w.setCell ⟨g, k, none⟩ (.int .u8 ((lowB (byL l k)).toNat : Int))).cell? ⟨g, j, none⟩ = w.cell? ⟨g, j, none⟩ := fun j hj => World.cell?_setCell_other _ _ _ _ (fun e => by injection e; omega)
  refine ⟨by simpa [World.setCell] using h.lt, fun j hj => ?_, fun j h1 h2 => ?_, fun j hj => by rw [World.frozen?_setCell]; exact h.fz j hj⟩
  · by_cases e : j = k
    · subst e; exact World.cell?_setCell_same w ⟨g, j, none⟩ _ (h.hi j (Nat.le_refl _) hk)
    · rw [far j e]; exact h.lo j (by omega)
  · rw [far j (by omega)]; exact h.hi j (by omega) h2
theorem LwR.start (w : World) (s : ByteArray) (t : TypeId) : LwR w.heap.size s.data.toList 0 (Lib.bytesWorld w t s) := by
  refine ⟨by rw [Lib.bytesWorld_size]; omega, fun j hj => absurd hj (by omega), fun j _ hj => ?_, fun j hj => ?_⟩
  · rw [data_len] at hj
    rw [Lib.bytesWorld_cell w t s j hj]; rfl
  · rw [data_len] at hj
    unfold World.frozen?
    rw [Lib.bytesWorld_at_new]
    have h1 : s.size ≤ (Lib.bytesCells w t s).size := by simp [Lib.bytesCells]
    simp only
    rw [Bool.and_eq_false_iff]
    left
    simp
    omega
theorem bytes_nw (w : World) (t : TypeId) (s : ByteArray) : Nw w (Lib.bytesWorld w t s) := by
  refine ⟨?_, ?_, ?_, by rw [Lib.bytesWorld_size]; omega, fun k hk => Lib.bytesWorld_at_old w t s k hk⟩
  · unfold Lib.bytesWorld World.freeze; split <;> rfl
  · unfold Lib.bytesWorld World.freeze; split <;> rfl
  · unfold Lib.bytesWorld World.freeze; split <;> rfl
theorem low_up {b : UInt8} (h : 65 ≤ b.toNat ∧ b.toNat ≤ 90) : ((lowB b).toNat : Int) = (b.toNat : Int) + 32 := by
  unfold lowB
  rw [if_pos h, UInt8.toNat_add]
  have : (32 : UInt8).toNat = 32 := rfl
  rw [this, Nat.mod_eq_of_lt (by omega)]
  omega
theorem low_no {b : UInt8} (h : ¬ (65 ≤ b.toNat ∧ b.toNat ≤ 90)) : lowB b = b := by unfold lowB; rw [if_neg h]
set_option maxHeartbeats 4000000 in
theorem slow (s : ByteArray) (w : World) (hs : s.size ≤ 1048576) :
    Calls Tryd.prog 72 #[.string s] w fun e w' => e = .returned (.string (bA (lowL s.data.toList))) ∧ Nw w w' := by
  have hcv := Lib.run_convert_string_bytes (P := Tryd.prog) w 9 73 5 s (u := .string) Tryd.underlying9 Tryd.underlying73 Tryd.underlying5
  have HST : Hid (LwR w.heap.size s.data.toList 0 (Lib.bytesWorld w 5 s)) := LwR.start w s 5
  have HNW : Hid (Nw w (Lib.bytesWorld w 5 s)) := bytes_nw w 5 s
  generalize Lib.bytesWorld w 5 s = W at *
  generalize grownCap w s.size 0 5 = C at *
  go_enter Tryd.func72, Tryd.ntmps72
  go_wp2
  clear hcv
  go_loopw [10] (fun i wr => ∃ k : Nat, k ≤ s.size ∧ i = .int .i64 (k : Int) ∧ LwR w.heap.size s.data.toList k wr ∧ Nw w wr) (fun i _ => s.size - (intOf i).toNat)
  case atStart => exact ⟨0, Nat.zero_le _, rfl, HST.out, HNW.out⟩
  case round =>
    obtain ⟨k, hk, rfl, hl, hw⟩ := hrel
    have HL : Hid (LwR w.heap.size s.data.toList k wr) := hl
    have HW : Hid (Nw w wr) := hw
    have hlt0 := hl.lt
    have hfz := hl.fz
    by_cases hlt : k < s.size
    · have q0 := hl.hi k (Nat.le_refl _) (by rw [data_len]; exact hlt)
      have qf := hfz k (by rw [data_len]; exact hlt)
      have hub : (byL s.data.toList k).toNat ≤ 255 := by have := UInt8.toNat_lt (byL s.data.toList k); omega
      clear hl hw hfz
      by_cases hu : 65 ≤ (byL s.data.toList k).toNat ∧ (byL s.data.toList k).toNat ≤ 90
      · have HP : Hid _ := HL.out.put (by rw [data_len]; exact hlt)
        have hlo := low_up hu
        rw [hlo] at HP
        have h1 : (65 : Int) ≤ ((byL s.data.toList k).toNat : Int) := by omega
        have h2 : ((byL s.data.toList k).toNat : Int) ≤ 90 := by omega
        clear hlo hu
        generalize (byL s.data.toList k).toNat = x at *
        go_wp2
        go_roundw
        case rel => exact ⟨k + 1, by omega, by go_num, HP.out, HW.out.setCell (Nat.le_refl _) _⟩
        case measure => simp [intOf]; omega
      · have HP : Hid _ := HL.out.keep (by rw [data_len]; exact hlt) (low_no hu)
        by_cases h1 : (65 : Int) ≤ ((byL s.data.toList k).toNat : Int)
        · have h2 : ¬ (((byL s.data.toList k).toNat : Int) ≤ 90) := by omega
          clear hu
          generalize (byL s.data.toList k).toNat = x at *
          go_wp2
          go_roundw
          case rel => exact ⟨k + 1, by omega, by go_num, HP.out, HW.out⟩
          case measure => simp [intOf]; omega
        · clear hu
          generalize (byL s.data.toList k).toNat = x at *
          go_wp2
          go_roundw
          case rel => exact ⟨k + 1, by omega, by go_num, HP.out, HW.out⟩
          case measure => simp [intOf]; omega
    · have e : k = s.size := by omega
      have hsz : (bA (lowL s.data.toList)).size = s.size := by rw [bA_size]; unfold lowL; rw [List.length_map, data_len]
      have hbk := Lib.run_convert_whole (P := Tryd.prog) wr 73 5 9 Tryd.underlying73 Tryd.underlying5 Tryd.underlying9 w.heap.size 0 (bA (lowL s.data.toList)) (by
        intro i hi
        rw [hsz] at hi
        rw [Nat.zero_add, HL.out.lo i (by omega)]
        congr 2
        have hi2 : i < s.data.size := hi
        rw [getB _ i (by rw [hsz]; exact hi)]
        simp [bA, lowL, byL]
        rw [Array.getElem?_eq_getElem hi2]
        rfl) C
      rw [hsz] at hbk
      subst e
      clear hl hw hfz
      go_wp2
      go_ret
      exact ⟨rfl, HW.out⟩
end Go.Proofs.YtnkmdmmlpidcmaaDoor
