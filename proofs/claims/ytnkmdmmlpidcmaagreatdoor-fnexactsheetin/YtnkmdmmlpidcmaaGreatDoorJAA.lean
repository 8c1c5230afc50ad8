/-
  Small facts for the walks over the fixed numbers: what a call that only makes new memory leaves as it was, and quotients of integers rounded down; no condition.
  Rows of numbers in memory; each theorem names its conditions.
  Lists of bytes that lie in a block of their own, and what leaves them as they are; each theorem names its conditions.
  Small facts on new lists and on what is left as it was; each theorem names its conditions.
-/
import Derived.Test.YtnkmdmmlpidcmaaGreatDoorRows
import Derived.WalkKit
import Derived.ProofKit
import Derived.OpenShut
import Derived.Below
import Derived.WalkSpells
import Derived.WalkLawsBesides
import Derived.Deep.QuietTactic
import Derived.BigQuiet
import Derived.Deep.OwnRows
import Derived.ShutString
import Derived.ChangeOld
import Derived.Deep.RegionWith
import Derived.Deep.RegionHeld3
namespace Go.Proofs.YtnkmdmmlpidcmaaGreatDoor
open Go.ChangeShapes Go.WideShapes Go.ChangeAt Go.RowKit

/-- The call made new memory at most: all that was there is as it was. -/
def Kp (w w' : World) : Prop := Below w.heap.size w w' ∧ ∀ a, w'.frozen? a = w.frozen? a

theorem Kp.refl (w : World) : Kp w w := ⟨Below.refl _ _, fun _ => rfl⟩
theorem Kp.size {w w' : World} (h : Kp w w') : w.heap.size ≤ w'.heap.size := h.1.size
theorem Kp.trans {w w1 w2 : World} (h : Kp w w1) (k : Kp w1 w2) : Kp w w2 :=
  ⟨h.1.trans (k.1.mono h.1.size), fun a => (k.2 a).trans (h.2 a)⟩
theorem Kp.alloc {w w1 : World} (h : Kp w w1) (c : Array Value) (t : TypeId) : Kp w (w1.alloc (.cells c t)) :=
  ⟨h.1.alloc h.1.size _, fun a => (frozen?_alloc_cells _ _ _ a).trans (h.2 a)⟩
theorem Kp.drew {w w1 : World} (h : Kp w w1) : Kp w w1.drew := ⟨h.1.drew, h.2⟩
theorem Kp.setCell {w w1 : World} (h : Kp w w1) {a : Addr} (ha : w.heap.size ≤ a.block) (v : Value) : Kp w (w1.setCell a v) :=
  ⟨h.1.setCell ha v, fun x => (World.frozen?_setCell _ _ _ _).trans (h.2 x)⟩
theorem Kp.grown {w w1 : World} (h : Kp w w1) : Grown w w1 := ⟨h.1.frame _, h.2, h.1.size⟩
theorem Kp.drewN {w w1 : World} (h : Kp w w1) (n : Nat) : Kp w (w1.drewN n) :=
  h.trans ⟨⟨rfl, rfl, rfl, Nat.le_refl _, fun _ _ => rfl⟩, fun _ => rfl⟩
/-- All old cells and marks read as before. -/
theorem Kp.cells {W w1 : World} (h : Kp W w1) : (∀ b o, b < W.heap.size → w1.cell? ⟨b, o, none⟩ = W.cell? ⟨b, o, none⟩) ∧ (∀ b o, w1.frozen? ⟨b, o, none⟩ = W.frozen? ⟨b, o, none⟩) :=
  ⟨fun b o hb => h.1.cell (p := ⟨b, o, none⟩) hb, fun _ _ => h.2 _⟩

theorem i64_bd {a : Int} (h : (Lit.int .i64 a).wf = true) : -9223372036854775808 ≤ a ∧ a ≤ 9223372036854775807 := by
  simp [Lit.wf, IntKind.min, IntKind.max, IntKind.signed, IntKind.bits] at h; omega
theorem ret_int {k : IntKind} {a b : Int} (h : a = b) : Ending.returned (.int k a) = .returned (.int k b) := by rw [h]

/-! ### Quotients -/
theorem tdiv_neg_of (a b : Int) (ha : a < 0) : a.tdiv b = -((-a) / b) := by
  have h : a = -(-a) := by omega
  rw [h, Int.neg_tdiv, Int.tdiv_eq_ediv_of_nonneg (by omega)]; simp
theorem tmod_neg_of (a b : Int) (ha : a < 0) : a.tmod b = -((-a) % b) := by
  have h : a = -(-a) := by omega
  rw [h, Int.neg_tmod, Int.tmod_eq_emod_of_nonneg (by omega)]; simp
/-- A quotient's size is not above its numerator's. -/
theorem ediv_bd (a b : Int) (ha : 0 ≤ a) (hb : 0 < b) : 0 ≤ a / b ∧ a / b ≤ a :=
  ⟨Int.ediv_nonneg ha (by omega), Int.ediv_le_self _ ha⟩
/-- Down, of a number below 0. -/
theorem ediv_neg_of (a b : Int) (hb : 0 < b) : a / b = if (-a) % b = 0 then -((-a) / b) else -((-a) / b) - 1 := by
  have h1 := Int.mul_ediv_add_emod (-a) b
  have h2 := Int.emod_nonneg (-a) (b := b) (by omega)
  have h3 := Int.emod_lt_of_pos (-a) hb
  generalize (-a) / b = q at *
  generalize (-a) % b = r at *
  have e : a = b * (-q) - r := by rw [Int.mul_neg]; omega
  split
  · rename_i hr
    rw [e, hr, Int.sub_zero, Int.mul_ediv_cancel_left _ (by omega)]
  · rename_i hr
    have e2 : a = (b - r) + b * (-q - 1) := by rw [Int.mul_sub, e]; omega
    rw [e2, Int.add_mul_ediv_left _ _ (by omega), Int.ediv_eq_zero_of_lt (by omega) (by omega)]; omega
end Go.Proofs.YtnkmdmmlpidcmaaGreatDoor
namespace Go.Proofs.YtnkmdmmlpidcmaaGreatDoor
open Go.ChangeShapes Go.WideShapes Go.ChangeAt Go.RowKit
set_option linter.unusedVariables false


theorem Tryz.info5 : (Tryz.prog.info? 5).map (fun i => (i.zero, i.size, i.bytes)) = some (some (.int .u8 0), 1, 1) := by kernel_rfl
theorem Tryz.info3 : (Tryz.prog.info? 3).map (fun i => (i.zero, i.size, i.bytes)) = some (some (.int .i64 0), 1, 8) := by kernel_rfl

/-- The numbers zs of the kind k lie at a. -/
def Row (k : IntKind) (w : World) (a : Option Addr) (zs : List Int) : Prop :=
  zs = [] ∨ ∃ b off, a = some ⟨b, off, none⟩ ∧ b < w.heap.size ∧ ∀ i, i < zs.length → w.cell? ⟨b, off + i, none⟩ = some (.int k (zs.getD i 0))

def cellsOf (k : IntKind) (zs : List Int) : Array Value := (zs.map (Value.int k)).toArray
/-- A new list of which the first n numbers have been laid. -/
def part (k : IntKind) (zs : List Int) (n : Nat) : Array Value := ((zs.take n).map (Value.int k) ++ List.replicate (zs.length - n) (Value.int k 0)).toArray
theorem part_all (k : IntKind) (zs : List Int) : part k zs zs.length = cellsOf k zs := by simp [part, cellsOf]
theorem part_none (k : IntKind) (zs : List Int) : madeCells #[Value.int k 0] zs.length = part k zs 0 := by
  simp only [part, madeCells, List.take_zero, List.map_nil, List.nil_append, Nat.sub_zero]
  apply Array.ext_getElem?
  intro i
  simp [Nat.mod_one]
  by_cases h : i < zs.length <;> simp [h]
theorem part_at (k : IntKind) (zs : List Int) (n : Nat) (h : n < zs.length) : (part k zs n)[n]? = some (.int k 0) := by
  simp only [part, List.getElem?_toArray]
  rw [List.getElem?_append_right (by simp; omega)]
  rw [List.getElem?_replicate, if_pos (by simp; omega)]
theorem part_step (k : IntKind) (zs : List Int) (n : Nat) (h : n < zs.length) : (part k zs n).setIfInBounds n (.int k (zs.getD n 0)) = part k zs (n + 1) := by
  have e : zs.length - n = (zs.length - (n + 1)) + 1 := by omega
  have e2 : zs.getD n 0 = zs[n] := by simp [h]
  rw [e2]
  simp only [part, e, List.setIfInBounds_toArray, List.replicate_succ]
  congr 1
  rw [List.take_succ_eq_append_getElem h, List.map_append, List.set_append_right _ _ (by simp; omega)]
  simp [Nat.min_eq_left (Nat.le_of_lt h)]
theorem cellsOf_get (k : IntKind) (zs : List Int) (i : Nat) (h : i < zs.length) : (cellsOf k zs)[i]? = some (.int k (zs.getD i 0)) := by
  simp [cellsOf, h]
theorem row_new (k : IntKind) (w : World) (zs : List Int) (t : TypeId) : Row k (w.alloc (.cells (cellsOf k zs) t)) (some ⟨w.heap.size, 0, none⟩) zs := by
  refine Or.inr ⟨w.heap.size, 0, rfl, by simp, fun i hi => ?_⟩
  have := cellsOf_get k zs i hi
  simp [this]
theorem Row.keep {k : IntKind} {w w1 : World} {a : Option Addr} {zs : List Int} (h : Row k w a zs) (hk : Kp w w1) : Row k w1 a zs := by
  rcases h with h | ⟨b, off, rfl, hb, hc⟩
  · exact Or.inl h
  · exact Or.inr ⟨b, off, rfl, Nat.lt_of_lt_of_le hb hk.size, fun i hi => (hk.cells.1 _ _ hb).trans (hc i hi)⟩

end Go.Proofs.YtnkmdmmlpidcmaaGreatDoor
namespace Go.Proofs.YtnkmdmmlpidcmaaGreatDoor
open Go.ChangeShapes Go.WideShapes Go.ChangeAt Go.RowKit
set_option linter.unusedVariables false

/-- Nothing but the block B has changed. -/
structure Sel (B : Nat) (w w' : World) : Prop where
  os : w'.os = w.os
  tape : w'.tape = w.tape
  output : w'.output = w.output
  size : w'.heap.size = w.heap.size
  block : ∀ k, k ≠ B → w'.heap[k]? = w.heap[k]?
theorem Sel.refl (B : Nat) (w : World) : Sel B w w := ⟨rfl, rfl, rfl, rfl, fun _ _ => rfl⟩
theorem Sel.trans {B : Nat} {a b c : World} (h : Sel B a b) (k : Sel B b c) : Sel B a c :=
  ⟨k.os.trans h.os, k.tape.trans h.tape, k.output.trans h.output, k.size.trans h.size, fun i hi => (k.block i hi).trans (h.block i hi)⟩
theorem Sel.setCell {B : Nat} {a b : World} (h : Sel B a b) (o : Nat) (u : Value) : Sel B a (b.setCell ⟨B, o, none⟩ u) :=
  h.trans ⟨rfl, rfl, rfl, by simp [World.setCell], fun k hk => Below.heap_setCell _ _ _ _ (by simpa using hk)⟩
theorem Sel.below {B : Nat} {a b : World} (h : Sel B a b) : Below B a b := ⟨h.os, h.tape, h.output, by have := h.size; omega, fun k hk => h.block k (by omega)⟩

/-- The numbers zs lie in the block b, which may be written. -/
def At (w : World) (b : Nat) (zs : List Int) : Prop :=
  b < w.heap.size ∧ (∀ i, i < zs.length → w.cell? ⟨b, 0 + i, none⟩ = some (.int .u8 (zs.getD i 0))) ∧ ∀ o, w.frozen? ⟨b, o, none⟩ = false
/-- Nothing that was there is written. -/
def Nw (w w' : World) : Prop := Below w.heap.size w w'
theorem Nw.trans {a b c : World} (h : Nw a b) (k : Nw b c) : Nw a c := Below.trans h (Below.mono k (Below.size h))
theorem Kp.nw {a b : World} (h : Kp a b) : Nw a b := h.1
theorem At.nw {w w' : World} {b : Nat} {zs : List Int} (h : At w b zs) (k : Nw w w') : At w' b zs :=
  ⟨Nat.lt_of_lt_of_le h.1 (Below.size k), fun i hi => (Below.cell k (p := ⟨b, 0 + i, none⟩) h.1).trans (h.2.1 i hi), fun o => (Below.frozen k (p := ⟨b, o, none⟩) h.1).trans (h.2.2 o)⟩
theorem At.sel {w w' : World} {b B : Nat} {zs : List Int} (h : At w b zs) (k : Sel B w w') (hne : b ≠ B) : At w' b zs :=
  ⟨by rw [k.size]; exact h.1, fun i hi => (World.cell?_of_block (w := w) (a := ⟨b, 0 + i, none⟩) (k.block b hne)).trans (h.2.1 i hi), fun o => (World.frozen?_of_block (w := w) (a := ⟨b, o, none⟩) (k.block b hne)).trans (h.2.2 o)⟩
def ints (bs : List Nat) : List Int := bs.map (fun b : Nat => (b : Int))
theorem ints_len (bs : List Nat) : (ints bs).length = bs.length := by simp [ints]
theorem ints_get (bs : List Nat) (i : Nat) : (ints bs).getD i 0 = ((bs.getD i 0 : Nat) : Int) := by
  by_cases h : i < bs.length
  · simp [ints, h]
  · rw [List.getD_eq_getElem?_getD, List.getD_eq_getElem?_getD, List.getElem?_eq_none (by rw [ints_len]; omega), List.getElem?_eq_none (by omega)]; rfl
theorem At.alloc (w : World) (zs : List Int) (t : TypeId) : At (w.alloc (.cells (cellsOf .u8 zs) t)) w.heap.size zs := by
  refine ⟨by simp, fun i hi => ?_, fun o => World.frozen?_alloc_at _ _ _ _ rfl⟩
  have := cellsOf_get .u8 zs i hi
  simp [this]
theorem At.row {w : World} {b : Nat} {zs : List Int} (h : At w b zs) : Row .u8 w (some ⟨b, 0, none⟩) zs := Or.inr ⟨b, 0, rfl, h.1, h.2.1⟩
theorem Row.below {k : IntKind} {w w' : World} {a : Option Addr} {zs : List Int} (h : Row k w a zs) (hk : Below w.heap.size w w') : Row k w' a zs := by
  rcases h with h | ⟨b, off, rfl, hb, hc⟩
  · exact Or.inl h
  · exact Or.inr ⟨b, off, rfl, Nat.lt_of_lt_of_le hb hk.size, fun i hi => (hk.cell (p := ⟨b, off + i, none⟩) hb).trans (hc i hi)⟩

end Go.Proofs.YtnkmdmmlpidcmaaGreatDoor
namespace Go.Proofs.YtnkmdmmlpidcmaaGreatDoor
open Go.ChangeShapes Go.WideShapes Go.ChangeAt Go.RowKit
set_option linter.unusedVariables false

theorem Nw.drw {w w' : World} (h : Nw w.drew w') : Nw w w' := Nw.trans (show Nw w w.drew from (Below.refl _ _).drew) h
theorem bcell {W w1 : World} (hb : Nw W w1) : (∀ b o, b < W.heap.size → w1.cell? ⟨b, o, none⟩ = W.cell? ⟨b, o, none⟩) ∧ (∀ b o, b < W.heap.size → w1.frozen? ⟨b, o, none⟩ = W.frozen? ⟨b, o, none⟩) :=
  ⟨fun b o h => Below.cell hb (p := ⟨b, o, none⟩) h, fun b o h => Below.frozen hb (p := ⟨b, o, none⟩) h⟩
theorem run_mk (t e : TypeId) (z : Value) (size bytes : Nat) (ht : Tryz.prog.underlying t = some (.slice e)) (hinfo : (Tryz.prog.info? e).map (fun i => (i.zero, i.size, i.bytes)) = some (some z, size, bytes))
    (n : Nat) (hbytes : bytes * n ≤ 281474976710656) (h63 : n ≤ 9223372036854775807) (w : World) :
    (Instr.makeSlice t (.int .i64 (n : Int)) (.int .i64 (n : Int))).run Tryz.prog w = .ok (.slice (some ⟨w.heap.size, 0, none⟩) n n) (w.alloc (.cells (madeCells z.cells (n * size)) e)) := by
  obtain ⟨i, hi, hzz⟩ := Option.map_eq_some_iff.1 hinfo
  simp only [Prod.mk.injEq] at hzz
  obtain ⟨hz, hs, hb⟩ := hzz
  have hb' : (i.bytes : Int) * (n : Int) ≤ 281474976710656 := by
    have h : ((i.bytes * n : Nat) : Int) ≤ 281474976710656 := by rw [hb]; omega
    rwa [Int.natCast_mul] at h
  have hr := run_make (P := Tryz.prog) w t e i z ht hi hz .i64 .i64 n n (by omega) (Int.le_refl _) hb' (by omega)
  simpa [hs] using hr
theorem madeCells_get (z : Array Value) (n j : Nat) (h : j < n) : (madeCells z n)[j]? = some (z[j % z.size]!) := by
  simp [madeCells, h]
theorem addr_spot {W : World} {x : Addr} {v : Value} (h : W.cell? (x.add 0) = some v) : x = ⟨x.block, x.off, none⟩ := by
  obtain ⟨b, off, spot⟩ := x
  have hs := World.cell?_spot h
  simp [Addr.add] at hs
  subst hs; rfl
theorem add_at (b off i : Nat) : (⟨b, off, none⟩ : Addr).add i = ⟨b, off + i, none⟩ := by
  unfold Addr.add
  by_cases h0 : i = 0
  · subst h0; simp
  · simp [h0]
end Go.Proofs.YtnkmdmmlpidcmaaGreatDoor
