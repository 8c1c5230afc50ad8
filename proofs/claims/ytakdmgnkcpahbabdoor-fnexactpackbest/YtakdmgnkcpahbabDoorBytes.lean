/-
  What the laws' small helpers over lists of bytes do: toByteS makes a new list of the same bytes, eqByteS says whether two lists are alike; each theorem names its conditions.
-/
import Derived.Test.YtakdmgnkcpahbabDoorBase
import Derived.Deep.OwnRows
import Derived.Deep.QuietTactic
import Derived.BigQuiet
namespace Go.Proofs.YtakdmgnkcpahbabDoor
open Go.ChangeShapes Go.WideShapes Go.ChangeAt Go.RowKit
set_option linter.unusedVariables false


theorem Tryd.info5 : (Tryd.prog.info? 5).map (fun i => (i.zero, i.size, i.bytes)) = some (some (.int .u8 0), 1, 1) := by kernel_rfl
theorem Tryd.info3 : (Tryd.prog.info? 3).map (fun i => (i.zero, i.size, i.bytes)) = some (some (.int .i64 0), 1, 8) := by kernel_rfl

/-- The numbers zs of the kind k lie at a. -/
def Row (k : IntKind) (w : World) (a : Option Addr) (zs : List Int) : Prop :=
  zs = [] ∨ ∃ b off, a = some ⟨b, off, none⟩ ∧ b < w.heap.size ∧ ∀ i, i < zs.length → w.cell? ⟨b, off + i, none⟩ = some (.int k (zs.getD i 0))

def cellsOf (k : IntKind) (zs : List Int) : Array Value := (zs.map (Value.int k)).toArray
/-- A new list of which the first n numbers have been laid. -/
def part (k : IntKind) (zs : List Int) (n : Nat) : Array Value := ((zs.take n).map (Value.int k) ++ List.replicate (zs.length - n) (Value.int k 0)).toArray
theorem part_all (k : IntKind) (zs : List Int) : part k zs zs.length = cellsOf k zs := by simp [part, cellsOf]
theorem part_none (k : IntKind) (zs : List Int) : madeCells #[Value.int k 0] zs.length = part k zs 0 := by
  simp only [part, madeCells, List.take_zero, List.map_nil, List.nil_append, Nat.sub_zero]
  apply Array.ext_getElem?
  intro i
  simp [Nat.mod_one]
  by_cases h : i < zs.length <;> simp [h]
theorem part_at (k : IntKind) (zs : List Int) (n : Nat) (h : n < zs.length) : (part k zs n)[n]? = some (.int k 0) := by
  simp only [part, List.getElem?_toArray]
  rw [List.getElem?_append_right (by simp; omega)]
  rw [List.getElem?_replicate, if_pos (by simp; omega)]
theorem part_step (k : IntKind) (zs : List Int) (n : Nat) (h : n < zs.length) : (part k zs n).setIfInBounds n (.int k (zs.getD n 0)) = part k zs (n + 1) := by
  have e : zs.length - n = (zs.length - (n + 1)) + 1 := by omega
  have e2 : zs.getD n 0 = zs[n] := by simp [h]
  rw [e2]
  simp only [part, e, List.setIfInBounds_toArray, List.replicate_succ]
  congr 1
  rw [List.take_succ_eq_append_getElem h, List.map_append, List.set_append_right _ _ (by simp; omega)]
  simp [Nat.min_eq_left (Nat.le_of_lt h)]
theorem cellsOf_get (k : IntKind) (zs : List Int) (i : Nat) (h : i < zs.length) : (cellsOf k zs)[i]? = some (.int k (zs.getD i 0)) := by
  simp [cellsOf, h]
theorem row_new (k : IntKind) (w : World) (zs : List Int) (t : TypeId) : Row k (w.alloc (.cells (cellsOf k zs) t)) (some ⟨w.heap.size, 0, none⟩) zs := by
  refine Or.inr ⟨w.heap.size, 0, rfl, by simp, fun i hi => ?_⟩
  have := cellsOf_get k zs i hi
  simp [this]
theorem Row.keep {k : IntKind} {w w1 : World} {a : Option Addr} {zs : List Int} (h : Row k w a zs) (hk : Kp w w1) : Row k w1 a zs := by
  rcases h with h | ⟨b, off, rfl, hb, hc⟩
  · exact Or.inl h
  · exact Or.inr ⟨b, off, rfl, Nat.lt_of_lt_of_le hb hk.size, fun i hi => (hk.cells.1 _ _ hb).trans (hc i hi)⟩

set_option maxHeartbeats 1000000 in
theorem toByte_any (w : World) (a : Option Addr) (cap : Nat) (zs : List Int) (hz : Row .u8 w a zs) (hl : zs.length ≤ 1048576) :
    Calls Tryd.prog 6 #[.slice a zs.length cap] w fun e w' => e = .returned (.slice (some ⟨w.heap.size, 0, none⟩) zs.length zs.length) ∧ w' = w.alloc (.cells (cellsOf .u8 zs) 5) := by
  have hmk := run_make_row' (P := Tryd.prog) 22 5 (.int .u8 0) 1 Tryd.underlying22 Tryd.info5 rfl .i64 .i64 zs.length (by omega) (by omega)
  have hp := part_none .u8 zs
  go_enter Tryd.func6, Tryd.ntmps6
  go_wp2
  go_loopw [4] (fun i wr => ∃ k : Nat, k ≤ zs.length ∧ i = .int .i64 k ∧ wr = w.alloc (.cells (part .u8 zs k) 5)) (fun i _ => zs.length - (intOf i).toNat)
  case atStart => exact ⟨0, Nat.zero_le _, rfl, rfl⟩
  case round =>
    obtain ⟨k, hk, rfl, rfl⟩ := hrel
    clear hp hmk
    by_cases hlt : k < zs.length
    · rcases hz with rfl | ⟨b, off, rfl, hb, hc⟩
      · exact absurd hlt (by simp)
      · have hcx : (w.alloc (.cells (part .u8 zs k) 5)).cell? ⟨b, off + k, none⟩ = some (.int .u8 (zs.getD k 0)) := by
          rw [← hc k hlt]; exact (Below.alloc (Below.refl w.heap.size w) (Nat.le_refl _) _).cell (p := ⟨b, off + k, none⟩) hb
        have hst := part_step .u8 zs k hlt
        have hat := part_at .u8 zs k hlt
        have HST : Hid _ := hst
        clear hst hc
        generalize zs.getD k 0 = z at *
        go_wp2
        go_round
        case rel => exact ⟨k + 1, by omega, by go_num, by rw [← HST.out]⟩
        case measure => simp [intOf]; omega
    · have e : k = zs.length := by omega
      subst e
      rw [part_all]
      go_wp2
      go_ret
      exact ⟨rfl, rfl⟩
end Go.Proofs.YtakdmgnkcpahbabDoor
