/-
  Small facts for the walks over the fixed numbers: what a cal
-/
import Derived.Test.YtdjemnbdaddegaaRows
import Derived.WalkKit
import Derived.ProofKit
import Derived.OpenShut
import Derived.Below
import Derived.WalkSpells
import Derived.WalkLawsBesides
import Derived.Deep.QuietTactic
import Derived.BigQuiet
import Derived.Deep.OwnRows
import Derived.ShutString
import Derived.ChangeOld
import Derived.Laws.Bits64b
import Derived.Laws.Externs
import Derived.Laws.Pointers
import Derived.StillTactics
import Derived.BigRegion
namespace Go.Proofs.Ytdjemnbdaddegaa
open Go.ChangeShapes Go.WideShapes Go.ChangeAt Go.RowKit
abbrev PQ := Exit → Act → World → Prop
def Kp (w w' : World) : Prop := Below w.heap.size w w' ∧ ∀ a, w'.frozen? a = w.frozen? a
theorem Kp.refl (w : World) : Kp w w := ⟨Below.refl _ _, fun _ => rfl⟩
theorem Kp.size {w w' : World} (h : Kp w w') : w.heap.size ≤ w'.heap.size := h.1.size
theorem Kp.trans {w w1 w2 : World} (h : Kp w w1) (k : Kp w1 w2) : Kp w w2 :=
 ⟨h.1.trans (k.1.mono h.1.size), fun a => (k.2 a).trans (h.2 a)⟩
theorem Kp.alloc {w w1 : World} (h : Kp w w1) (c : Array Value) (t : TypeId) : Kp w (w1.alloc (.cells c t)) :=
 ⟨h.1.alloc h.1.size _, fun a => (frozen?_alloc_cells _ _ _ a).trans (h.2 a)⟩
theorem Kp.drew {w w1 : World} (h : Kp w w1) : Kp w w1.drew := ⟨h.1.drew, h.2⟩
theorem Kp.setCell {w w1 : World} (h : Kp w w1) {a : Addr} (ha : w.heap.size ≤ a.block) (v : Value) : Kp w (w1.setCell a v) :=
 ⟨h.1.setCell ha v, fun x => (World.frozen?_setCell _ _ _ _).trans (h.2 x)⟩
theorem Kp.drewN {w w1 : World} (h : Kp w w1) (n : Nat) : Kp w (w1.drewN n) :=
 h.trans ⟨⟨rfl, rfl, rfl, Nat.le_refl _, fun _ _ => rfl⟩, fun _ => rfl⟩
theorem Kp.cells {W w1 : World} (h : Kp W w1) : (∀ b o, b < W.heap.size → w1.cell? ⟨b, o, none⟩ = W.cell? ⟨b, o, none⟩) ∧ (∀ b o, w1.frozen? ⟨b, o, none⟩ = W.frozen? ⟨b, o, none⟩) :=
 ⟨fun b o hb => h.1.cell (p := ⟨b, o, none⟩) hb, fun _ _ => h.2 _⟩
theorem ret_int {k : IntKind} {a b : Int} (h : a = b) : Ending.returned (.int k a) = .returned (.int k b) := by rw [h]
theorem tdiv_neg_of (a b : Int) (ha : a < 0) : a.tdiv b = -((-a) / b) := by
 have h : a = -(-a) := by omega
 rw [h, Int.neg_tdiv, Int.tdiv_eq_ediv_of_nonneg (by omega)]; simp
theorem tmod_neg_of (a b : Int) (ha : a < 0) : a.tmod b = -((-a) % b) := by
 have h : a = -(-a) := by omega
 rw [h, Int.neg_tmod, Int.tmod_eq_emod_of_nonneg (by omega)]; simp
theorem ediv_bd (a b : Int) (ha : 0 ≤ a) (hb : 0 < b) : 0 ≤ a / b ∧ a / b ≤ a :=
 ⟨Int.ediv_nonneg ha (by omega), Int.ediv_le_self _ ha⟩
theorem ediv_neg_of (a b : Int) (hb : 0 < b) : a / b = if (-a) % b = 0 then -((-a) / b) else -((-a) / b) - 1 := by
 have h1 := Int.mul_ediv_add_emod (-a) b
 have h2 := Int.emod_nonneg (-a) (b := b) (by omega)
 have h3 := Int.emod_lt_of_pos (-a) hb
 generalize (-a) / b = q at *
 generalize (-a) % b = r at *
 have e : a = b * (-q) - r := by rw [Int.mul_neg]; omega
 split
 ·rename_i hr
  rw [e, hr, Int.sub_zero, Int.mul_ediv_cancel_left _ (by omega)]
 ·rename_i hr
  have e2 : a = (b - r) + b * (-q - 1) := by rw [Int.mul_sub, e]; omega
  rw [e2, Int.add_mul_ediv_left _ _ (by omega), Int.ediv_eq_zero_of_lt (by omega) (by omega)]; omega
set_option linter.unusedVariables false
def Row (k : IntKind) (w : World) (a : Option Addr) (zs : List Int) : Prop :=
 zs = [] ∨ ∃ b off, a = some ⟨b, off, none⟩ ∧ b < w.heap.size ∧ ∀ i, i < zs.length → w.cell? ⟨b, off + i, none⟩ = some (.int k (zs.getD i 0))
def cellsOf (k : IntKind) (zs : List Int) : Array Value := (zs.map (Value.int k)).toArray
theorem cellsOf_get (k : IntKind) (zs : List Int) (i : Nat) (h : i < zs.length) : (cellsOf k zs)[i]? = some (.int k (zs.getD i 0)) := by
 simp [cellsOf, h]
theorem Row.keep {k : IntKind} {w w1 : World} {a : Option Addr} {zs : List Int} (h : Row k w a zs) (hk : Kp w w1) : Row k w1 a zs := by
 rcases h with h | ⟨b, off, rfl, hb, hc⟩
 ·exact Or.inl h
 ·exact Or.inr ⟨b, off, rfl, Nat.lt_of_lt_of_le hb hk.size, fun i hi => (hk.cells.1 _ _ hb).trans (hc i hi)⟩
structure Sel (B : Nat) (w w' : World) : Prop where
 os : w'.os = w.os
 tape : w'.tape = w.tape
 output : w'.output = w.output
 size : w'.heap.size = w.heap.size
 block : ∀ k, k ≠ B → w'.heap[k]? = w.heap[k]?
theorem Sel.refl (B : Nat) (w : World) : Sel B w w := ⟨rfl, rfl, rfl, rfl, fun _ _ => rfl⟩
theorem Sel.trans {B : Nat} {a b c : World} (h : Sel B a b) (k : Sel B b c) : Sel B a c :=
 ⟨k.os.trans h.os, k.tape.trans h.tape, k.output.trans h.output, k.size.trans h.size, fun i hi => (k.block i hi).trans (h.block i hi)⟩
theorem Sel.setCell {B : Nat} {a b : World} (h : Sel B a b) (o : Nat) (u : Value) : Sel B a (b.setCell ⟨B, o, none⟩ u) :=
 h.trans ⟨rfl, rfl, rfl, by simp [World.setCell], fun k hk => Below.heap_setCell _ _ _ _ (by simpa using hk)⟩
theorem Sel.below {B : Nat} {a b : World} (h : Sel B a b) : Below B a b := ⟨h.os, h.tape, h.output, by have := h.size; omega, fun k hk => h.block k (by omega)⟩
def At (w : World) (b : Nat) (zs : List Int) : Prop :=
 b < w.heap.size ∧ (∀ i, i < zs.length → w.cell? ⟨b, 0 + i, none⟩ = some (.int .u8 (zs.getD i 0))) ∧ ∀ o, w.frozen? ⟨b, o, none⟩ = false
def Nw (w w' : World) : Prop := Below w.heap.size w w'
theorem Nw.trans {a b c : World} (h : Nw a b) (k : Nw b c) : Nw a c := Below.trans h (Below.mono k (Below.size h))
theorem Kp.nw {a b : World} (h : Kp a b) : Nw a b := h.1
theorem At.nw {w w' : World} {b : Nat} {zs : List Int} (h : At w b zs) (k : Nw w w') : At w' b zs :=
 ⟨Nat.lt_of_lt_of_le h.1 (Below.size k), fun i hi => (Below.cell k (p := ⟨b, 0 + i, none⟩) h.1).trans (h.2.1 i hi), fun o => (Below.frozen k (p := ⟨b, o, none⟩) h.1).trans (h.2.2 o)⟩
theorem At.sel {w w' : World} {b B : Nat} {zs : List Int} (h : At w b zs) (k : Sel B w w') (hne : b ≠ B) : At w' b zs :=
 ⟨by rw [k.size]; exact h.1, fun i hi => (World.cell?_of_block (w := w) (a := ⟨b, 0 + i, none⟩) (k.block b hne)).trans (h.2.1 i hi), fun o => (World.frozen?_of_block (w := w) (a := ⟨b, o, none⟩) (k.block b hne)).trans (h.2.2 o)⟩
def ints (bs : List Nat) : List Int := bs.map (fun b : Nat => (b : Int))
theorem At.alloc (w : World) (zs : List Int) (t : TypeId) : At (w.alloc (.cells (cellsOf .u8 zs) t)) w.heap.size zs := by
 refine ⟨by simp, fun i hi => ?_, fun o => World.frozen?_alloc_at _ _ _ _ rfl⟩
 have := cellsOf_get .u8 zs i hi
 simp [this]
theorem At.row {w : World} {b : Nat} {zs : List Int} (h : At w b zs) : Row .u8 w (some ⟨b, 0, none⟩) zs := Or.inr ⟨b, 0, rfl, h.1, h.2.1⟩
theorem Row.below {k : IntKind} {w w' : World} {a : Option Addr} {zs : List Int} (h : Row k w a zs) (hk : Below w.heap.size w w') : Row k w' a zs := by
 rcases h with h | ⟨b, off, rfl, hb, hc⟩
 ·exact Or.inl h
 ·exact Or.inr ⟨b, off, rfl, Nat.lt_of_lt_of_le hb hk.size, fun i hi => (hk.cell (p := ⟨b, off + i, none⟩) hb).trans (hc i hi)⟩
theorem Sel.drew {B : Nat} {a b : World} (h : Sel B a b) : Sel B a b.drew := ⟨h.os, h.tape, h.output, h.size, h.block⟩
theorem Sel.cell {B : Nat} {w w' : World} (h : Sel B w w') {p : Addr} (hp : p.block ≠ B) : w'.cell? p = w.cell? p := World.cell?_of_block (w := w) (h.block p.block hp)
def Code (w : World) (B : Nat) (ca : Option Addr) (len : Nat) : Prop :=
 len = 0 ∨ ∃ b off, ca = some ⟨b, off, none⟩ ∧ b < B ∧ ∀ i, i < len → ∃ v : Int, 0 ≤ v ∧ v ≤ 255 ∧ w.cell? ⟨b, off + i, none⟩ = some (.int .u8 v)
def Cur (w : World) (B : Nat) (ca : Option Addr) (len cap : Nat) (n : Nat) : Prop :=
 ∃ (k : Nat) (sd : Int), k ≤ n ∧ 0 ≤ sd ∧ sd < 18446744073709551616 ∧ w.cell? ⟨B, 0, none⟩ = some (.slice ca len cap) ∧ w.cell? ⟨B, 1, none⟩ = some (.int .i64 (k : Int)) ∧ w.cell? ⟨B, 2, none⟩ = some (.int .u64 sd) ∧ (∀ o, w.frozen? ⟨B, o, none⟩ = false) ∧ B < w.heap.size
theorem and_byte (a : Int) (h0 : 0 ≤ a) (h : a < 18446744073709551616) : bits .and .u64 a 255 = a % 256 := by
 obtain ⟨x, rfl⟩ := Int.eq_ofNat_of_zero_le h0
 have e := bits_and_u64_nat x 255 (by omega) (by omega)
 have e2 : x &&& 255 = x % 256 := Nat.and_two_pow_sub_one_eq_mod x 8
 rw [e2] at e
 exact e
theorem cur_set (w : World) (B : Nat) (ca : Option Addr) (len cap n k : Nat) (sd S : Int) (hk : k ≤ n) (S0 : 0 ≤ S) (S1 : S < 18446744073709551616) (c0 : w.cell? ⟨B, 0, none⟩ = some (.slice ca len cap)) (c1 : w.cell? ⟨B, 1, none⟩ = some (.int .i64 (k : Int))) (c2 : w.cell? ⟨B, 2, none⟩ = some (.int .u64 sd)) (hf : ∀ o, w.frozen? ⟨B, o, none⟩ = false) (hB : B < w.heap.size) :
  Cur ((w.setCell ⟨B, 1, none⟩ (.int .i64 ((k : Int) + 1))).setCell ⟨B, 2, none⟩ (.int .u64 S)) B ca len cap (n + 1) ∧ Sel B w ((w.setCell ⟨B, 1, none⟩ (.int .i64 ((k : Int) + 1))).setCell ⟨B, 2, none⟩ (.int .u64 S)) := by
 refine ⟨⟨k + 1, S, by omega, S0, S1, ?_, ?_, ?_, ?_, by simpa [World.setCell] using hB⟩, ((Sel.refl B w).setCell _ _).setCell _ _⟩
 ·rw [World.cell?_setCell_other _ _ _ _ (by simp), World.cell?_setCell_other _ _ _ _ (by simp)]; exact c0
 ·rw [World.cell?_setCell_other _ _ _ _ (by simp)]
  rw [World.cell?_setCell_same (u := .int .i64 (k : Int)) (h := c1)]; rfl
 ·apply World.cell?_setCell_same (u := .int .u64 sd)
  rw [World.cell?_setCell_other _ _ _ _ (by simp)]; exact c2
 ·intro o; rw [World.frozen?_setCell, World.frozen?_setCell]; exact hf o
theorem wrap_bd (x : Int) : 0 ≤ IntKind.u64.wrap x ∧ IntKind.u64.wrap x < 18446744073709551616 := by rw [IntKind.wrap_u64]; omega
theorem seed_bd (X : Int) : 0 ≤ wrap64 (bits .and .u64 (IntKind.u64.wrap X / 1099511627776) 255) ∧ wrap64 (bits .and .u64 (IntKind.u64.wrap X / 1099511627776) 255) ≤ 255 := by
 have h := wrap_bd X
 rw [and_byte _ (by omega) (by omega)]
 generalize IntKind.u64.wrap X = Y at *
 rw [IntWalk.wrap64_in _ ⟨by omega, by omega⟩]
 omega
set_option maxHeartbeats 1000000 in
theorem next_any (w : World) (B : Nat) (ca : Option Addr) (len cap n : Nat) (hl : len ≤ 9223372036854775807) (hn : n ≤ 1099511627776) (hc : Cur w B ca len cap n) (hd : Code w B ca len) :
  Calls Try.prog 78 #[.pointer (some ⟨B, 0, none⟩)] w fun e w' => ∃ v : Int, e = .returned (.int .i64 v) ∧ 0 ≤ v ∧ v ≤ 255 ∧ Cur w' B ca len cap (n + 1) ∧ Sel B w w' := by
 obtain ⟨k, sd, hk, s0, s1, c0, c1, c2, hf, hB⟩ := hc
 by_cases hlt : k < len
 ·rcases hd with h | ⟨b, off, rfl, hb, hcs⟩
  ·exact absurd hlt (by omega)
  ·obtain ⟨v, v0, v1, hv⟩ := hcs k hlt
   clear hcs
   have HC := fun S S0 S1 => Hid.out (cur_set w B (some ⟨b, off, none⟩) len cap n k sd S hk S0 S1 c0 c1 c2 hf hB)
   have HC' : Hid _ := HC
   clear HC
   go_enter Try.func78, Try.ntmps78
   go_wp2
   go_region
   go_wp2
   go_region
   go_wp2
   go_region
   go_wp2
   go_ret
   exact ⟨v, rfl, v0, v1, (HC'.out _ (wrap_bd _).1 (wrap_bd _).2).1, (HC'.out _ (wrap_bd _).1 (wrap_bd _).2).2.drew.drew.drew⟩
 ·have HC := fun S S0 S1 => Hid.out (cur_set w B ca len cap n k sd S hk S0 S1 c0 c1 c2 hf hB)
  have HC' : Hid _ := HC
  clear HC
  go_enter Try.func78, Try.ntmps78
  go_wp2
  go_region
  go_wp2
  go_region
  go_wp2
  go_ret
  exact ⟨_, rfl, (seed_bd _).1, (seed_bd _).2, (HC'.out _ (wrap_bd _).1 (wrap_bd _).2).1, (HC'.out _ (wrap_bd _).1 (wrap_bd _).2).2.drew.drew⟩
theorem Code.below {w w1 : World} {B : Nat} {ca : Option Addr} {len : Nat} (h : Code w B ca len) (hb : Below B w w1) : Code w1 B ca len := by
 rcases h with h | ⟨b, off, h1, h2, h3⟩
 ·exact Or.inl h
 ·refine Or.inr ⟨b, off, h1, h2, fun i hi => ?_⟩
  obtain ⟨v, v0, v1, hv⟩ := h3 i hi
  exact ⟨v, v0, v1, by rw [hb.cell (p := ⟨b, off + i, none⟩) h2]; exact hv⟩
theorem Cur.mono {w : World} {B : Nat} {ca : Option Addr} {len cap n m : Nat} (h : Cur w B ca len cap n) (hm : n ≤ m) : Cur w B ca len cap m := by
 obtain ⟨k, sd, h1, h2⟩ := h
 exact ⟨k, sd, by omega, h2⟩
set_option maxHeartbeats 1000000 in
theorem pick_any (w : World) (B : Nat) (ca : Option Addr) (len cap n : Nat) (m : Int) (hl : len ≤ 9223372036854775807) (hn : n ≤ 1000000000) (m1 : 1 ≤ m) (m2 : m ≤ 1000000) (hc : Cur w B ca len cap n) (hd : Code w B ca len) :
  Calls Try.prog 41 #[.pointer (some ⟨B, 0, none⟩), .int .i64 m] w fun e w' => ∃ v : Int, e = .returned (.int .i64 v) ∧ 0 ≤ v ∧ v < m ∧ Cur w' B ca len cap (n + 2) ∧ Sel B w w' := by
 have HC : Hid _ := hc
 have HD : Hid _ := hd
 clear hc hd
 by_cases h1 : m = 1
 ·subst h1
  go_enter Try.func41, Try.ntmps41
  go_wp2
  go_ret
  exact ⟨0, rfl, by omega, by omega, Cur.mono HC.out (by omega), Sel.refl _ _⟩
 have d1 : decide (m ≤ 1) = false := decide_eq_false (by omega)
 by_cases h2 : m ≤ 200
 ·go_enter Try.func41, Try.ntmps41
  go_wp2_with fail
  refine (next_any w B ca len cap n hl (by omega) HC.out HD.out).mono ?_
  rintro e w1 ⟨v, rfl, v0, v1, hc1, hb1⟩
  have HC1 : Hid _ := hc1
  have HB1 : Hid _ := hb1
  clear hc1 hb1
  have x1 := Int.emod_nonneg v (b := m) (by omega)
  have x2 := Int.emod_lt_of_pos v (b := m) (by omega)
  go_wp2
  go_ret
  exact ⟨v % m, rfl, x1, x2, Cur.mono HC1.out (by omega), HB1.out⟩
 ·go_enter Try.func41, Try.ntmps41
  go_wp2_with fail
  refine (next_any w B ca len cap n hl (by omega) HC.out HD.out).mono ?_
  rintro e w1 ⟨v, rfl, v0, v1, hc1, hb1⟩
  have HC1 : Hid _ := hc1
  have HB1 : Hid _ := hb1
  clear hc1 hb1
  go_wp2_with fail
  refine (next_any w1 B ca len cap (n + 1) hl (by omega) HC1.out (Code.below HD.out (Sel.below HB1.out))).mono ?_
  rintro e w2 ⟨u, rfl, u0, u1, hc2, hb2⟩
  have HC2 : Hid _ := hc2
  have HB2 : Hid _ := hb2
  clear hc2 hb2
  have x1 := Int.emod_nonneg (v * 256 + u) (b := m) (by omega)
  have x2 := Int.emod_lt_of_pos (v * 256 + u) (b := m) (by omega)
  go_wp2
  go_ret
  exact ⟨(v * 256 + u) % m, rfl, x1, x2, HC2.out, Sel.trans HB1.out HB2.out⟩
set_option maxHeartbeats 1000000 in
theorem one_any (w : World) (B : Nat) (ca : Option Addr) (len cap n : Nat) (m : Int) (hl : len ≤ 9223372036854775807) (hn : n ≤ 1000000000) (m1 : 1 ≤ m) (m2 : m ≤ 1000000) (hc : Cur w B ca len cap n) (hd : Code w B ca len) :
  Calls Try.prog 40 #[.pointer (some ⟨B, 0, none⟩), .int .i64 m] w fun e w' => ∃ v : Bool, e = .returned (.bool v) ∧ Cur w' B ca len cap (n + 2) ∧ Sel B w w' := by
 have HC : Hid _ := hc
 have HD : Hid _ := hd
 clear hc hd
 go_enter Try.func40, Try.ntmps40
 go_wp2_with fail
 refine (pick_any w B ca len cap n m hl hn m1 m2 HC.out HD.out).mono ?_
 rintro e w1 ⟨v, rfl, v0, v1, hc1, hb1⟩
 have HC1 : Hid _ := hc1
 have HB1 : Hid _ := hb1
 clear hc1 hb1
 go_wp2
 go_ret
 exact ⟨_, rfl, HC1.out, HB1.out⟩
theorem Cur.alloc {w : World} {B : Nat} {ca : Option Addr} {len cap n : Nat} (h : Cur w B ca len cap n) (c : Array Value) (t : TypeId) : Cur (w.alloc (.cells c t)) B ca len cap n := by
 obtain ⟨k, sd, h1, h2, h3, h4, h5, h6, h7, h8⟩ := h
 refine ⟨k, sd, h1, h2, h3, ?_, ?_, ?_, ?_, by simp; omega⟩
 ·rw [World.cell?_alloc_past _ _ _ h8]; exact h4
 ·rw [World.cell?_alloc_past _ _ _ h8]; exact h5
 ·rw [World.cell?_alloc_past _ _ _ h8]; exact h6
 ·intro o; rw [frozen?_alloc_cells]; exact h7 o
theorem Code.alloc {w : World} {B : Nat} {ca : Option Addr} {len : Nat} (h : Code w B ca len) (hB : B ≤ w.heap.size) (o : Obj) : Code (w.alloc o) B ca len :=
 Code.below h ((Below.refl B w).alloc hB o)
theorem Cur.lt {w : World} {B : Nat} {ca : Option Addr} {len cap n : Nat} (h : Cur w B ca len cap n) : B < w.heap.size := by
 obtain ⟨_, _, _, _, _, _, _, _, _, h⟩ := h; exact h
def Gr (B : Nat) (w w' : World) : Prop := w.grownBy w' (some B)
theorem Gr.refl (B : Nat) (w : World) : Gr B w w := ⟨rfl, rfl, rfl, Nat.le_refl _, fun _ _ _ => rfl⟩
theorem Gr.size {B : Nat} {a b : World} (h : Gr B a b) : a.heap.size ≤ b.heap.size := World.grownBy.size h
theorem Gr.trans {B : Nat} {a b c : World} (h : Gr B a b) (k : Gr B b c) : Gr B a c :=
  ⟨(World.grownBy.os k).trans (World.grownBy.os h), (World.grownBy.tape k).trans (World.grownBy.tape h), (World.grownBy.output k).trans (World.grownBy.output h), Nat.le_trans h.size k.size,
   fun i hi hne => (World.grownBy.block k i (Nat.lt_of_lt_of_le hi h.size) hne).trans (World.grownBy.block h i hi hne)⟩
theorem Gr.of_sel {B : Nat} {a b : World} (h : Sel B a b) : Gr B a b :=
 ⟨h.os, h.tape, h.output, by rw [h.size]; exact Nat.le_refl _, fun i _ hne => h.block i (fun e => hne (by rw [e]))⟩
theorem Gr.of_nw {B : Nat} {a b : World} (h : Nw a b) : Gr B a b := ⟨Below.os h, Below.tape h, Below.output h, Below.size h, fun i hi _ => Below.block h i hi⟩
theorem Gr.alloc {B : Nat} {a b : World} (h : Gr B a b) (o : Obj) : Gr B a (b.alloc o) := h.trans (Gr.of_nw ((Below.refl _ _).alloc (Nat.le_refl _) _))
theorem Gr.set {B : Nat} {a b : World} (h : Gr B a b) {g : Nat} (hg : a.heap.size ≤ g) (o : Nat) (v : Value) : Gr B a (b.setCell ⟨g, o, none⟩ v) := by
 have h' : a.grownBy b (some B) := h
 exact ⟨h'.os, h'.tape, h'.output, by simpa [World.setCell] using h.size, fun i hi hne => by
  rw [Below.heap_setCell _ _ _ _ (by show i ≠ g; omega)]
  exact h'.block i hi hne⟩
theorem Gr.cell {B : Nat} {a b : World} (h : Gr B a b) {g : Nat} (hg : g < a.heap.size) (hne : g ≠ B) (o : Nat) : b.cell? ⟨g, o, none⟩ = a.cell? ⟨g, o, none⟩ :=
 World.cell?_of_block (w := a) (a := ⟨g, o, none⟩) (World.grownBy.block h g hg (fun e => hne (Option.some.inj e)))
theorem Gr.frozen {B : Nat} {a b : World} (h : Gr B a b) {g : Nat} (hg : g < a.heap.size) (hne : g ≠ B) (o : Nat) : b.frozen? ⟨g, o, none⟩ = a.frozen? ⟨g, o, none⟩ :=
 World.frozen?_of_block (w := a) (a := ⟨g, o, none⟩) (World.grownBy.block h g hg (fun e => hne (Option.some.inj e)))
theorem Gr.below {B : Nat} {a b : World} (h : Gr B a b) (hB : B ≤ a.heap.size) : Below B a b :=
 ⟨World.grownBy.os h, World.grownBy.tape h, World.grownBy.output h, h.size, fun i hi => World.grownBy.block h i (by omega) (fun e => by have := Option.some.inj e; omega)⟩
theorem Cur.set {w : World} {B : Nat} {ca : Option Addr} {len cap n : Nat} (h : Cur w B ca len cap n) {g : Nat} (hg : g ≠ B) (o : Nat) (v : Value) : Cur (w.setCell ⟨g, o, none⟩ v) B ca len cap n := by
 obtain ⟨k, sd, h1, h2, h3, c0, c1, c2, hf, hB⟩ := h
 have e : ∀ o', (w.setCell ⟨g, o, none⟩ v).cell? ⟨B, o', none⟩ = w.cell? ⟨B, o', none⟩ := fun o' => World.cell?_setCell_other _ _ _ _ (fun e => by injection e; omega)
 exact ⟨k, sd, h1, h2, h3, (e _).trans c0, (e _).trans c1, (e _).trans c2, fun o' => by rw [World.frozen?_setCell]; exact hf o', by simpa [World.setCell] using hB⟩
def Txts (w : World) (L : Nat) (l : List ByteArray) : Prop := ∀ i (h : i < l.length), w.cell? ⟨L, i, none⟩ = some (.string l[i])
theorem txts_alloc (l : List ByteArray) (w : World) (t : TypeId) : Txts (w.alloc (.cells (l.map Value.string).toArray t)) w.heap.size l := by
 intro i h
 rw [World.cell?_alloc_new]
 simp [h]
set_option maxHeartbeats 1000000 in
theorem of_any (w : World) (B L ln : Nat) (l : List ByteArray) (hln : l.length = ln) (ca : Option Addr) (len cap n : Nat) (hl : len ≤ 9223372036854775807) (hn : n ≤ 1000000000) (l1 : 2 ≤ ln) (l2 : ln ≤ 1000) (hLB : L ≠ B) (hN : Txts w L l) (hc : Cur w B ca len cap n) (hd : Code w B ca len) :
  Calls Try.prog 106 #[.pointer (some ⟨B, 0, none⟩), .slice (some ⟨L, 0, none⟩) ln ln] w fun e w' => ∃ v : ByteArray, e = .returned (.string v) ∧ v ∈ l ∧ Cur w' B ca len cap (n + 2) ∧ Sel B w w' := by
 have HC : Hid _ := hc
 have HD : Hid _ := hd
 have HN : Hid _ := hN
 have HL : Hid _ := hln
 clear hc hd hN hln
 go_enter Try.func106, Try.ntmps106
 go_wp2_with fail
 refine (pick_any w B ca len cap n ln hl hn (by omega) (by omega) HC.out HD.out).mono ?_
 rintro e w1 ⟨i, rfl, i0, i1, hc1, hb1⟩
 obtain ⟨k, rfl⟩ := Int.eq_ofNat_of_zero_le i0
 have hkl : k < l.length := by rw [HL.out]; omega
 have HM : Hid (l[k] ∈ l) := List.getElem_mem _
 have hv := HN.out k hkl
 generalize l[k] = v at *
 have hv1 : w1.cell? ⟨L, k, none⟩ = some (.string v) := by rw [hb1.cell (p := ⟨L, k, none⟩) hLB]; exact hv
 have HC1 : Hid _ := hc1
 have HB1 : Hid _ := hb1
 clear hc1 hb1 hv hkl
 go_wp2
 go_ret
 exact ⟨v, rfl, HM.out, HC1.out, HB1.out⟩
theorem of_lit (w : World) (B m : Nat) (l : List ByteArray) (hm : ∀ x, x ∈ l → x.size ≤ m) (t : TypeId) (ca : Option Addr) (len cap n : Nat) (hl : len ≤ 9223372036854775807) (hn : n ≤ 1000000000) (l1 : 2 ≤ l.length) (l2 : l.length ≤ 1000) (hc : Cur w B ca len cap n) (hd : Code w B ca len) :
  Calls Try.prog 106 #[.pointer (some ⟨B, 0, none⟩), .slice (some ⟨w.heap.size, 0, none⟩) l.length l.length] (w.alloc (.cells (l.map Value.string).toArray t)) fun e w' => ∃ v : ByteArray, e = .returned (.string v) ∧ v.size ≤ m ∧ Cur w' B ca len cap (n + 2) ∧ Gr B w w' := by
 have hB := hc.lt
 refine (of_any _ B w.heap.size l.length l rfl ca len cap n hl hn l1 l2 (by omega) (txts_alloc l w t) (hc.alloc _ _) (Code.alloc hd (by omega) _)).mono ?_
 rintro e w' ⟨v, rfl, hv, hc1, hs⟩
 exact ⟨v, rfl, hm v hv, hc1, Gr.trans ((Gr.refl B w).alloc _) (Gr.of_sel hs)⟩
theorem of_litL (w : World) (B m L : Nat) (hL : w.heap.size = L) (l : List ByteArray) (hm : ∀ x, x ∈ l → x.size ≤ m) (t : TypeId) (ca : Option Addr) (len cap n : Nat) (hl : len ≤ 9223372036854775807) (hn : n ≤ 1000000000) (l1 : 2 ≤ l.length) (l2 : l.length ≤ 1000) (hc : Cur w B ca len cap n) (hd : Code w B ca len) :
  Calls Try.prog 106 #[.pointer (some ⟨B, 0, none⟩), .slice (some ⟨L, 0, none⟩) l.length l.length] (w.alloc (.cells (l.map Value.string).toArray t)) fun e w' => ∃ v : ByteArray, e = .returned (.string v) ∧ v.size ≤ m ∧ Cur w' B ca len cap (n + 2) ∧ Gr B w w' := by
 subst hL
 exact of_lit w B m l hm t ca len cap n hl hn l1 l2 hc hd
end Go.Proofs.Ytdjemnbdaddegaa
