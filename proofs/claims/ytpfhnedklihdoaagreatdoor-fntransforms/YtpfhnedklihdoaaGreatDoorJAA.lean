/-
  Small facts for the walks over the fixed numbers: what a call that only makes new memory leaves as it was, and quotients of integers rounded down; no condition.
  Transforms: GoodAffine of both; no condition but that the numbers are ints.
  Rows of numbers in memory; each theorem names its conditions.
  Lists of bytes that lie in a block of their own, and what leaves them as they are; each theorem names its conditions.
-/
import Derived.Test.YtpfhnedklihdoaaGreatDoorRows
import Derived.WalkKit
import Derived.ProofKit
import Derived.OpenShut
import Derived.Below
import Derived.WalkSpells
import Derived.WalkLawsBesides
import Derived.Deep.QuietTactic
import Derived.BigQuiet
import Derived.Deep.OwnRows
import Derived.ShutString
import Derived.ChangeOld
namespace Go.Proofs.YtpfhnedklihdoaaGreatDoor
open Go.ChangeShapes Go.WideShapes Go.ChangeAt Go.RowKit

/-- The call made new memory at most: all that was there is as it was. -/
def Kp (w w' : World) : Prop := Below w.heap.size w w' ∧ ∀ a, w'.frozen? a = w.frozen? a

theorem Kp.refl (w : World) : Kp w w := ⟨Below.refl _ _, fun _ => rfl⟩
theorem Kp.size {w w' : World} (h : Kp w w') : w.heap.size ≤ w'.heap.size := h.1.size
theorem Kp.trans {w w1 w2 : World} (h : Kp w w1) (k : Kp w1 w2) : Kp w w2 :=
  ⟨h.1.trans (k.1.mono h.1.size), fun a => (k.2 a).trans (h.2 a)⟩
theorem Kp.alloc {w w1 : World} (h : Kp w w1) (c : Array Value) (t : TypeId) : Kp w (w1.alloc (.cells c t)) :=
  ⟨h.1.alloc h.1.size _, fun a => (frozen?_alloc_cells _ _ _ a).trans (h.2 a)⟩
theorem Kp.drew {w w1 : World} (h : Kp w w1) : Kp w w1.drew := ⟨h.1.drew, h.2⟩
theorem Kp.setCell {w w1 : World} (h : Kp w w1) {a : Addr} (ha : w.heap.size ≤ a.block) (v : Value) : Kp w (w1.setCell a v) :=
  ⟨h.1.setCell ha v, fun x => (World.frozen?_setCell _ _ _ _).trans (h.2 x)⟩
theorem Kp.grown {w w1 : World} (h : Kp w w1) : Grown w w1 := ⟨h.1.frame _, h.2, h.1.size⟩
theorem Kp.drewN {w w1 : World} (h : Kp w w1) (n : Nat) : Kp w (w1.drewN n) :=
  h.trans ⟨⟨rfl, rfl, rfl, Nat.le_refl _, fun _ _ => rfl⟩, fun _ => rfl⟩
/-- All old cells and marks read as before. -/
theorem Kp.cells {W w1 : World} (h : Kp W w1) : (∀ b o, b < W.heap.size → w1.cell? ⟨b, o, none⟩ = W.cell? ⟨b, o, none⟩) ∧ (∀ b o, w1.frozen? ⟨b, o, none⟩ = W.frozen? ⟨b, o, none⟩) :=
  ⟨fun b o hb => h.1.cell (p := ⟨b, o, none⟩) hb, fun _ _ => h.2 _⟩

theorem i64_bd {a : Int} (h : (Lit.int .i64 a).wf = true) : -9223372036854775808 ≤ a ∧ a ≤ 9223372036854775807 := by
  simp [Lit.wf, IntKind.min, IntKind.max, IntKind.signed, IntKind.bits] at h; omega
theorem ret_int {k : IntKind} {a b : Int} (h : a = b) : Ending.returned (.int k a) = .returned (.int k b) := by rw [h]

/-! ### Quotients -/
theorem tdiv_neg_of (a b : Int) (ha : a < 0) : a.tdiv b = -((-a) / b) := by
  have h : a = -(-a) := by omega
  rw [h, Int.neg_tdiv, Int.tdiv_eq_ediv_of_nonneg (by omega)]; simp
theorem tmod_neg_of (a b : Int) (ha : a < 0) : a.tmod b = -((-a) % b) := by
  have h : a = -(-a) := by omega
  rw [h, Int.neg_tmod, Int.tmod_eq_emod_of_nonneg (by omega)]; simp
/-- A quotient's size is not above its numerator's. -/
theorem ediv_bd (a b : Int) (ha : 0 ≤ a) (hb : 0 < b) : 0 ≤ a / b ∧ a / b ≤ a :=
  ⟨Int.ediv_nonneg ha (by omega), Int.ediv_le_self _ ha⟩
/-- Down, of a number below 0. -/
theorem ediv_neg_of (a b : Int) (hb : 0 < b) : a / b = if (-a) % b = 0 then -((-a) / b) else -((-a) / b) - 1 := by
  have h1 := Int.mul_ediv_add_emod (-a) b
  have h2 := Int.emod_nonneg (-a) (b := b) (by omega)
  have h3 := Int.emod_lt_of_pos (-a) hb
  generalize (-a) / b = q at *
  generalize (-a) % b = r at *
  have e : a = b * (-q) - r := by rw [Int.mul_neg]; omega
  split
  · rename_i hr
    rw [e, hr, Int.sub_zero, Int.mul_ediv_cancel_left _ (by omega)]
  · rename_i hr
    have e2 : a = (b - r) + b * (-q - 1) := by rw [Int.mul_sub, e]; omega
    rw [e2, Int.add_mul_ediv_left _ _ (by omega), Int.ediv_eq_zero_of_lt (by omega) (by omega)]; omega
end Go.Proofs.YtpfhnedklihdoaaGreatDoor
namespace Go.Proofs.YtpfhnedklihdoaaGreatDoor
open Go.ChangeShapes Go.WideShapes Go.ChangeAt Go.RowKit
set_option linter.unusedVariables false

def inR (x : Int) : Bool := decide (-4294967296 ≤ x) && decide (x ≤ 4294967296)
def el (a b c d e f : Int) : Nat → Int
  | 0 => a
  | 1 => b
  | 2 => c
  | 3 => d
  | 4 => e
  | _ => f
def gA (a b c d e f : Int) : Bool := (List.range 6).all fun k => inR (el a b c d e f k)
theorem gA_false {a b c d e f : Int} (k : Nat) (hk : k < 6) (h : inR (el a b c d e f k) = false) : gA a b c d e f = false := by
  unfold gA
  rw [List.all_eq_false]
  exact ⟨k, List.mem_range.2 hk, by rw [h]; decide⟩
theorem gA_true {a b c d e f : Int} (h : ∀ k, k < 6 → inR (el a b c d e f k) = true) : gA a b c d e f = true := by
  unfold gA
  rw [List.all_eq_true]
  exact fun k hk => h k (List.mem_range.1 hk)
abbrev affV (a b c d e f : Int) : Value := .agg #[.int .i64 a, .int .i64 b, .int .i64 c, .int .i64 d, .int .i64 e, .int .i64 f]

theorem sin_any (w : World) (x : Int) : Calls Tryz.prog 16 #[.int .i64 x, .int .i64 (-4294967296), .int .i64 4294967296] w fun e w' => e = .returned (.bool (inR x)) ∧ w' = w := by
  by_cases h1 : -4294967296 ≤ x
  · by_cases h2 : x ≤ 4294967296
    · have h : inR x = true := by unfold inR; simp [h1, h2]
      rw [h]
      go_enter Tryz.func16, Tryz.ntmps16
      go_wp2
      go_ret
      exact ⟨rfl, rfl⟩
    · have h : inR x = false := by unfold inR; simp [h2]
      have h3 : decide (x ≤ 4294967296) = false := by simp; omega
      rw [h]
      go_enter Tryz.func16, Tryz.ntmps16
      go_wp2
      go_ret
      exact ⟨rfl, rfl⟩
  · have h : inR x = false := by unfold inR; simp [h1]
    rw [h]
    go_enter Tryz.func16, Tryz.ntmps16
    go_wp2
    go_ret
    exact ⟨rfl, rfl⟩

set_option maxHeartbeats 4000000 in
theorem sgoodAff (w : World) (a b c d e f : Int) : Calls Tryz.prog 7 #[affV a b c d e f] w fun x w' => x = .returned (.bool (gA a b c d e f)) ∧ Kp w w' := by
  unfold affV
  go_enter Tryz.func7, Tryz.ntmps7
  go_wp2
  go_loop [19] (fun v => ∃ k : Nat, k ≤ 6 ∧ v = .int .i64 (k : Int) ∧ ∀ j, j < k → inR (el a b c d e f j) = true) (fun v => 6 - (intOf v).toNat)
  case atStart => exact ⟨0, by omega, rfl, fun j hj => absurd hj (by omega)⟩
  case round =>
    obtain ⟨k, hk, rfl, hall⟩ := hrel
    have HA : Hid _ := hall
    clear hall
    by_cases h6 : k < 6
    · have hc : k = 0 ∨ k = 1 ∨ k = 2 ∨ k = 3 ∨ k = 4 ∨ k = 5 := by omega
      rcases hc with rfl | rfl | rfl | rfl | rfl | rfl
      · clear h6 hk
        go_wp2_with fail
        refine (sin_any _ _).mono ?_
        rintro y w' ⟨rfl, rfl⟩
        cases hi : inR a with
        | true =>
          go_wp2
          go_round
          case rel => exact ⟨1, by omega, by go_num, fun j hj => by rcases Nat.lt_succ_iff_lt_or_eq.1 hj with h | rfl; exact HA.out j h; exact hi⟩
          case measure => simp [intOf]
        | false =>
          go_wp2
          go_ret
          exact ⟨by rw [gA_false (a := a) (b := b) (c := c) (d := d) (e := e) (f := f) 0 (by omega) hi]; rfl, ((Kp.refl w).alloc _ _).alloc _ _⟩
      · clear h6 hk
        go_wp2_with fail
        refine (sin_any _ _).mono ?_
        rintro y w' ⟨rfl, rfl⟩
        cases hi : inR b with
        | true =>
          go_wp2
          go_round
          case rel => exact ⟨2, by omega, by go_num, fun j hj => by rcases Nat.lt_succ_iff_lt_or_eq.1 hj with h | rfl; exact HA.out j h; exact hi⟩
          case measure => simp [intOf]
        | false =>
          go_wp2
          go_ret
          exact ⟨by rw [gA_false (a := a) (b := b) (c := c) (d := d) (e := e) (f := f) 1 (by omega) hi]; rfl, ((Kp.refl w).alloc _ _).alloc _ _⟩
      · clear h6 hk
        go_wp2_with fail
        refine (sin_any _ _).mono ?_
        rintro y w' ⟨rfl, rfl⟩
        cases hi : inR c with
        | true =>
          go_wp2
          go_round
          case rel => exact ⟨3, by omega, by go_num, fun j hj => by rcases Nat.lt_succ_iff_lt_or_eq.1 hj with h | rfl; exact HA.out j h; exact hi⟩
          case measure => simp [intOf]
        | false =>
          go_wp2
          go_ret
          exact ⟨by rw [gA_false (a := a) (b := b) (c := c) (d := d) (e := e) (f := f) 2 (by omega) hi]; rfl, ((Kp.refl w).alloc _ _).alloc _ _⟩
      · clear h6 hk
        go_wp2_with fail
        refine (sin_any _ _).mono ?_
        rintro y w' ⟨rfl, rfl⟩
        cases hi : inR d with
        | true =>
          go_wp2
          go_round
          case rel => exact ⟨4, by omega, by go_num, fun j hj => by rcases Nat.lt_succ_iff_lt_or_eq.1 hj with h | rfl; exact HA.out j h; exact hi⟩
          case measure => simp [intOf]
        | false =>
          go_wp2
          go_ret
          exact ⟨by rw [gA_false (a := a) (b := b) (c := c) (d := d) (e := e) (f := f) 3 (by omega) hi]; rfl, ((Kp.refl w).alloc _ _).alloc _ _⟩
      · clear h6 hk
        go_wp2_with fail
        refine (sin_any _ _).mono ?_
        rintro y w' ⟨rfl, rfl⟩
        cases hi : inR e with
        | true =>
          go_wp2
          go_round
          case rel => exact ⟨5, by omega, by go_num, fun j hj => by rcases Nat.lt_succ_iff_lt_or_eq.1 hj with h | rfl; exact HA.out j h; exact hi⟩
          case measure => simp [intOf]
        | false =>
          go_wp2
          go_ret
          exact ⟨by rw [gA_false (a := a) (b := b) (c := c) (d := d) (e := e) (f := f) 4 (by omega) hi]; rfl, ((Kp.refl w).alloc _ _).alloc _ _⟩
      · clear h6 hk
        go_wp2_with fail
        refine (sin_any _ _).mono ?_
        rintro y w' ⟨rfl, rfl⟩
        cases hi : inR f with
        | true =>
          go_wp2
          go_round
          case rel => exact ⟨6, by omega, by go_num, fun j hj => by rcases Nat.lt_succ_iff_lt_or_eq.1 hj with h | rfl; exact HA.out j h; exact hi⟩
          case measure => simp [intOf]
        | false =>
          go_wp2
          go_ret
          exact ⟨by rw [gA_false (a := a) (b := b) (c := c) (d := d) (e := e) (f := f) 5 (by omega) hi]; rfl, ((Kp.refl w).alloc _ _).alloc _ _⟩
    · obtain rfl : k = 6 := by omega
      clear h6 hk
      go_wp2
      go_ret
      exact ⟨by rw [gA_true HA.out]; rfl, ((Kp.refl w).alloc _ _).alloc _ _⟩

theorem el_at (a b c d e f : Int) (k : Nat) (h : k < 6) : (#[.int .i64 a, .int .i64 b, .int .i64 c, .int .i64 d, .int .i64 e, .int .i64 f] : Array Value)[k]? = some (.int .i64 (el a b c d e f k)) := by
  have hc : k = 0 ∨ k = 1 ∨ k = 2 ∨ k = 3 ∨ k = 4 ∨ k = 5 := by omega
  rcases hc with rfl | rfl | rfl | rfl | rfl | rfl <;> rfl
theorem ix6 (T : Array Value) (k : Nat) (c : Int) (h : k < 6) (c0 : T[k]? = some (.int .i64 c)) (W : World) : (Instr.index 54 (.agg T) (.int .i64 (k : Int))).run Tryz.prog W = .ok (.int .i64 c) W := by
  have h2 : (0 : Int) ≤ (k : Int) ∧ (k : Int) < 6 := by omega
  simp [Instr.index, run_underlying Tryz.underlying54, asIntOf, h2, h, c0, go_sem]
set_option maxHeartbeats 4000000 in
theorem igoodAff (w : World) (a b c d e f : Int) : Calls Tryz.prog 13 #[affV a b c d e f] w fun x w' => x = .returned (.bool (gA a b c d e f)) ∧ Kp w w' := by
  unfold affV
  go_enter Tryz.func13, Tryz.ntmps13
  go_wp2
  go_loop [18] (fun v => ∃ k : Nat, k ≤ 6 ∧ v = .int .i64 (k : Int) ∧ ∀ j, j < k → inR (el a b c d e f j) = true) (fun v => 6 - (intOf v).toNat)
  case atStart => exact ⟨0, by omega, rfl, fun j hj => absurd hj (by omega)⟩
  case round =>
    obtain ⟨k, hk, rfl, hall⟩ := hrel
    have HA : Hid _ := hall
    clear hall
    by_cases h6 : k < 6
    · have hix := ix6 _ k _ h6 (el_at a b c d e f k h6)
      obtain ⟨X, hX⟩ : ∃ X, el a b c d e f k = X := ⟨_, rfl⟩
      rw [hX] at hix
      have HX : Hid _ := hX
      clear hX
      by_cases h1 : -4294967296 ≤ X
      · by_cases h2 : X ≤ 4294967296
        · have hi : Hid (inR X = true) := by show _ = _; unfold inR; simp [h1, h2]
          go_wp2
          go_round
          case rel => exact ⟨k + 1, by omega, by go_num, fun j hj => by
            rcases Nat.lt_succ_iff_lt_or_eq.1 hj with h | rfl
            · exact HA.out j h
            · rw [HX.out]; exact hi.out⟩
          case measure => simp [intOf]; omega
        · have hi : Hid (inR X = false) := by show _ = _; unfold inR; simp [h2]
          have h3 : decide (4294967296 < X) = true := by simp; omega
          go_wp2
          go_ret
          exact ⟨by rw [gA_false (a := a) (b := b) (c := c) (d := d) (e := e) (f := f) k h6 (by rw [HX.out]; exact hi.out)]; rfl, (Kp.refl w).alloc _ _⟩
      · have hi : Hid (inR X = false) := by show _ = _; unfold inR; simp [h1]
        go_wp2
        go_ret
        exact ⟨by rw [gA_false (a := a) (b := b) (c := c) (d := d) (e := e) (f := f) k h6 (by rw [HX.out]; exact hi.out)]; rfl, (Kp.refl w).alloc _ _⟩
    · obtain rfl : k = 6 := by omega
      clear h6 hk
      go_wp2
      go_ret
      exact ⟨by rw [gA_true HA.out]; rfl, (Kp.refl w).alloc _ _⟩
end Go.Proofs.YtpfhnedklihdoaaGreatDoor
namespace Go.Proofs.YtpfhnedklihdoaaGreatDoor
open Go.ChangeShapes Go.WideShapes Go.ChangeAt Go.RowKit
set_option linter.unusedVariables false


theorem Tryz.info5 : (Tryz.prog.info? 5).map (fun i => (i.zero, i.size, i.bytes)) = some (some (.int .u8 0), 1, 1) := by kernel_rfl
theorem Tryz.info3 : (Tryz.prog.info? 3).map (fun i => (i.zero, i.size, i.bytes)) = some (some (.int .i64 0), 1, 8) := by kernel_rfl

/-- The numbers zs of the kind k lie at a. -/
def Row (k : IntKind) (w : World) (a : Option Addr) (zs : List Int) : Prop :=
  zs = [] ∨ ∃ b off, a = some ⟨b, off, none⟩ ∧ b < w.heap.size ∧ ∀ i, i < zs.length → w.cell? ⟨b, off + i, none⟩ = some (.int k (zs.getD i 0))

def cellsOf (k : IntKind) (zs : List Int) : Array Value := (zs.map (Value.int k)).toArray
/-- A new list of which the first n numbers have been laid. -/
def part (k : IntKind) (zs : List Int) (n : Nat) : Array Value := ((zs.take n).map (Value.int k) ++ List.replicate (zs.length - n) (Value.int k 0)).toArray
theorem part_all (k : IntKind) (zs : List Int) : part k zs zs.length = cellsOf k zs := by simp [part, cellsOf]
theorem part_none (k : IntKind) (zs : List Int) : madeCells #[Value.int k 0] zs.length = part k zs 0 := by
  simp only [part, madeCells, List.take_zero, List.map_nil, List.nil_append, Nat.sub_zero]
  apply Array.ext_getElem?
  intro i
  simp [Nat.mod_one]
  by_cases h : i < zs.length <;> simp [h]
theorem part_at (k : IntKind) (zs : List Int) (n : Nat) (h : n < zs.length) : (part k zs n)[n]? = some (.int k 0) := by
  simp only [part, List.getElem?_toArray]
  rw [List.getElem?_append_right (by simp; omega)]
  rw [List.getElem?_replicate, if_pos (by simp; omega)]
theorem part_step (k : IntKind) (zs : List Int) (n : Nat) (h : n < zs.length) : (part k zs n).setIfInBounds n (.int k (zs.getD n 0)) = part k zs (n + 1) := by
  have e : zs.length - n = (zs.length - (n + 1)) + 1 := by omega
  have e2 : zs.getD n 0 = zs[n] := by simp [h]
  rw [e2]
  simp only [part, e, List.setIfInBounds_toArray, List.replicate_succ]
  congr 1
  rw [List.take_succ_eq_append_getElem h, List.map_append, List.set_append_right _ _ (by simp; omega)]
  simp [Nat.min_eq_left (Nat.le_of_lt h)]
theorem cellsOf_get (k : IntKind) (zs : List Int) (i : Nat) (h : i < zs.length) : (cellsOf k zs)[i]? = some (.int k (zs.getD i 0)) := by
  simp [cellsOf, h]
theorem row_new (k : IntKind) (w : World) (zs : List Int) (t : TypeId) : Row k (w.alloc (.cells (cellsOf k zs) t)) (some ⟨w.heap.size, 0, none⟩) zs := by
  refine Or.inr ⟨w.heap.size, 0, rfl, by simp, fun i hi => ?_⟩
  have := cellsOf_get k zs i hi
  simp [this]
theorem Row.keep {k : IntKind} {w w1 : World} {a : Option Addr} {zs : List Int} (h : Row k w a zs) (hk : Kp w w1) : Row k w1 a zs := by
  rcases h with h | ⟨b, off, rfl, hb, hc⟩
  · exact Or.inl h
  · exact Or.inr ⟨b, off, rfl, Nat.lt_of_lt_of_le hb hk.size, fun i hi => (hk.cells.1 _ _ hb).trans (hc i hi)⟩

end Go.Proofs.YtpfhnedklihdoaaGreatDoor
namespace Go.Proofs.YtpfhnedklihdoaaGreatDoor
open Go.ChangeShapes Go.WideShapes Go.ChangeAt Go.RowKit
set_option linter.unusedVariables false

/-- Nothing but the block B has changed. -/
structure Sel (B : Nat) (w w' : World) : Prop where
  os : w'.os = w.os
  tape : w'.tape = w.tape
  output : w'.output = w.output
  size : w'.heap.size = w.heap.size
  block : ∀ k, k ≠ B → w'.heap[k]? = w.heap[k]?
theorem Sel.refl (B : Nat) (w : World) : Sel B w w := ⟨rfl, rfl, rfl, rfl, fun _ _ => rfl⟩
theorem Sel.trans {B : Nat} {a b c : World} (h : Sel B a b) (k : Sel B b c) : Sel B a c :=
  ⟨k.os.trans h.os, k.tape.trans h.tape, k.output.trans h.output, k.size.trans h.size, fun i hi => (k.block i hi).trans (h.block i hi)⟩
theorem Sel.setCell {B : Nat} {a b : World} (h : Sel B a b) (o : Nat) (u : Value) : Sel B a (b.setCell ⟨B, o, none⟩ u) :=
  h.trans ⟨rfl, rfl, rfl, by simp [World.setCell], fun k hk => Below.heap_setCell _ _ _ _ (by simpa using hk)⟩
theorem Sel.below {B : Nat} {a b : World} (h : Sel B a b) : Below B a b := ⟨h.os, h.tape, h.output, by have := h.size; omega, fun k hk => h.block k (by omega)⟩

/-- The numbers zs lie in the block b, which may be written. -/
def At (w : World) (b : Nat) (zs : List Int) : Prop :=
  b < w.heap.size ∧ (∀ i, i < zs.length → w.cell? ⟨b, 0 + i, none⟩ = some (.int .u8 (zs.getD i 0))) ∧ ∀ o, w.frozen? ⟨b, o, none⟩ = false
/-- Nothing that was there is written. -/
def Nw (w w' : World) : Prop := Below w.heap.size w w'
theorem Nw.trans {a b c : World} (h : Nw a b) (k : Nw b c) : Nw a c := Below.trans h (Below.mono k (Below.size h))
theorem Kp.nw {a b : World} (h : Kp a b) : Nw a b := h.1
theorem At.nw {w w' : World} {b : Nat} {zs : List Int} (h : At w b zs) (k : Nw w w') : At w' b zs :=
  ⟨Nat.lt_of_lt_of_le h.1 (Below.size k), fun i hi => (Below.cell k (p := ⟨b, 0 + i, none⟩) h.1).trans (h.2.1 i hi), fun o => (Below.frozen k (p := ⟨b, o, none⟩) h.1).trans (h.2.2 o)⟩
theorem At.sel {w w' : World} {b B : Nat} {zs : List Int} (h : At w b zs) (k : Sel B w w') (hne : b ≠ B) : At w' b zs :=
  ⟨by rw [k.size]; exact h.1, fun i hi => (World.cell?_of_block (w := w) (a := ⟨b, 0 + i, none⟩) (k.block b hne)).trans (h.2.1 i hi), fun o => (World.frozen?_of_block (w := w) (a := ⟨b, o, none⟩) (k.block b hne)).trans (h.2.2 o)⟩
def ints (bs : List Nat) : List Int := bs.map (fun b : Nat => (b : Int))
theorem ints_len (bs : List Nat) : (ints bs).length = bs.length := by simp [ints]
theorem ints_get (bs : List Nat) (i : Nat) : (ints bs).getD i 0 = ((bs.getD i 0 : Nat) : Int) := by
  by_cases h : i < bs.length
  · simp [ints, h]
  · rw [List.getD_eq_getElem?_getD, List.getD_eq_getElem?_getD, List.getElem?_eq_none (by rw [ints_len]; omega), List.getElem?_eq_none (by omega)]; rfl
theorem At.alloc (w : World) (zs : List Int) (t : TypeId) : At (w.alloc (.cells (cellsOf .u8 zs) t)) w.heap.size zs := by
  refine ⟨by simp, fun i hi => ?_, fun o => World.frozen?_alloc_at _ _ _ _ rfl⟩
  have := cellsOf_get .u8 zs i hi
  simp [this]
theorem At.row {w : World} {b : Nat} {zs : List Int} (h : At w b zs) : Row .u8 w (some ⟨b, 0, none⟩) zs := Or.inr ⟨b, 0, rfl, h.1, h.2.1⟩
theorem Row.below {k : IntKind} {w w' : World} {a : Option Addr} {zs : List Int} (h : Row k w a zs) (hk : Below w.heap.size w w') : Row k w' a zs := by
  rcases h with h | ⟨b, off, rfl, hb, hc⟩
  · exact Or.inl h
  · exact Or.inr ⟨b, off, rfl, Nat.lt_of_lt_of_le hb hk.size, fun i hi => (hk.cell (p := ⟨b, off + i, none⟩) hb).trans (hc i hi)⟩

end Go.Proofs.YtpfhnedklihdoaaGreatDoor
