/-
  Small facts for the walks over the fixed numbers: what a cal
-/
import Derived.Test.YtfdjjbgcaojcnaaGreatRows
import Derived.WalkKit
import Derived.ProofKit
import Derived.OpenShut
import Derived.Below
import Derived.WalkSpells
import Derived.WalkLawsBesides
import Derived.Deep.QuietTactic
import Derived.BigQuiet
import Derived.Deep.OwnRows
import Derived.ShutString
import Derived.ChangeOld
import Derived.Deep.RegionWith
import Derived.Deep.RegionHeld3
namespace Go.Proofs.YtfdjjbgcaojcnaaGreat
open Go.ChangeShapes Go.WideShapes Go.ChangeAt Go.RowKit
abbrev PQ := Exit → Act → World → Prop
def Kp (w w' : World) : Prop := Below w.heap.size w w' ∧ ∀ a, w'.frozen? a = w.frozen? a
theorem Kp.refl (w : World) : Kp w w := ⟨Below.refl _ _, fun _ => rfl⟩
theorem Kp.size {w w' : World} (h : Kp w w') : w.heap.size ≤ w'.heap.size := h.1.size
theorem Kp.trans {w w1 w2 : World} (h : Kp w w1) (k : Kp w1 w2) : Kp w w2 :=
 ⟨h.1.trans (k.1.mono h.1.size), fun a => (k.2 a).trans (h.2 a)⟩
theorem Kp.alloc {w w1 : World} (h : Kp w w1) (c : Array Value) (t : TypeId) : Kp w (w1.alloc (.cells c t)) :=
 ⟨h.1.alloc h.1.size _, fun a => (frozen?_alloc_cells _ _ _ a).trans (h.2 a)⟩
theorem Kp.drew {w w1 : World} (h : Kp w w1) : Kp w w1.drew := ⟨h.1.drew, h.2⟩
theorem Kp.setCell {w w1 : World} (h : Kp w w1) {a : Addr} (ha : w.heap.size ≤ a.block) (v : Value) : Kp w (w1.setCell a v) :=
 ⟨h.1.setCell ha v, fun x => (World.frozen?_setCell _ _ _ _).trans (h.2 x)⟩
theorem Kp.drewN {w w1 : World} (h : Kp w w1) (n : Nat) : Kp w (w1.drewN n) :=
 h.trans ⟨⟨rfl, rfl, rfl, Nat.le_refl _, fun _ _ => rfl⟩, fun _ => rfl⟩
theorem Kp.cells {W w1 : World} (h : Kp W w1) : (∀ b o, b < W.heap.size → w1.cell? ⟨b, o, none⟩ = W.cell? ⟨b, o, none⟩) ∧ (∀ b o, w1.frozen? ⟨b, o, none⟩ = W.frozen? ⟨b, o, none⟩) :=
 ⟨fun b o hb => h.1.cell (p := ⟨b, o, none⟩) hb, fun _ _ => h.2 _⟩
theorem ret_int {k : IntKind} {a b : Int} (h : a = b) : Ending.returned (.int k a) = .returned (.int k b) := by rw [h]
theorem tdiv_neg_of (a b : Int) (ha : a < 0) : a.tdiv b = -((-a) / b) := by
 have h : a = -(-a) := by omega
 rw [h, Int.neg_tdiv, Int.tdiv_eq_ediv_of_nonneg (by omega)]; simp
theorem tmod_neg_of (a b : Int) (ha : a < 0) : a.tmod b = -((-a) % b) := by
 have h : a = -(-a) := by omega
 rw [h, Int.neg_tmod, Int.tmod_eq_emod_of_nonneg (by omega)]; simp
theorem ediv_bd (a b : Int) (ha : 0 ≤ a) (hb : 0 < b) : 0 ≤ a / b ∧ a / b ≤ a :=
 ⟨Int.ediv_nonneg ha (by omega), Int.ediv_le_self _ ha⟩
theorem ediv_neg_of (a b : Int) (hb : 0 < b) : a / b = if (-a) % b = 0 then -((-a) / b) else -((-a) / b) - 1 := by
 have h1 := Int.mul_ediv_add_emod (-a) b
 have h2 := Int.emod_nonneg (-a) (b := b) (by omega)
 have h3 := Int.emod_lt_of_pos (-a) hb
 generalize (-a) / b = q at *
 generalize (-a) % b = r at *
 have e : a = b * (-q) - r := by rw [Int.mul_neg]; omega
 split
 ·rename_i hr
  rw [e, hr, Int.sub_zero, Int.mul_ediv_cancel_left _ (by omega)]
 ·rename_i hr
  have e2 : a = (b - r) + b * (-q - 1) := by rw [Int.mul_sub, e]; omega
  rw [e2, Int.add_mul_ediv_left _ _ (by omega), Int.ediv_eq_zero_of_lt (by omega) (by omega)]; omega
set_option linter.unusedVariables false
def Row (k : IntKind) (w : World) (a : Option Addr) (zs : List Int) : Prop :=
 zs = [] ∨ ∃ b off, a = some ⟨b, off, none⟩ ∧ b < w.heap.size ∧ ∀ i, i < zs.length → w.cell? ⟨b, off + i, none⟩ = some (.int k (zs.getD i 0))
def cellsOf (k : IntKind) (zs : List Int) : Array Value := (zs.map (Value.int k)).toArray
theorem cellsOf_get (k : IntKind) (zs : List Int) (i : Nat) (h : i < zs.length) : (cellsOf k zs)[i]? = some (.int k (zs.getD i 0)) := by
 simp [cellsOf, h]
theorem Row.keep {k : IntKind} {w w1 : World} {a : Option Addr} {zs : List Int} (h : Row k w a zs) (hk : Kp w w1) : Row k w1 a zs := by
 rcases h with h | ⟨b, off, rfl, hb, hc⟩
 ·exact Or.inl h
 ·exact Or.inr ⟨b, off, rfl, Nat.lt_of_lt_of_le hb hk.size, fun i hi => (hk.cells.1 _ _ hb).trans (hc i hi)⟩
structure Sel (B : Nat) (w w' : World) : Prop where
 os : w'.os = w.os
 tape : w'.tape = w.tape
 output : w'.output = w.output
 size : w'.heap.size = w.heap.size
 block : ∀ k, k ≠ B → w'.heap[k]? = w.heap[k]?
theorem Sel.refl (B : Nat) (w : World) : Sel B w w := ⟨rfl, rfl, rfl, rfl, fun _ _ => rfl⟩
theorem Sel.trans {B : Nat} {a b c : World} (h : Sel B a b) (k : Sel B b c) : Sel B a c :=
 ⟨k.os.trans h.os, k.tape.trans h.tape, k.output.trans h.output, k.size.trans h.size, fun i hi => (k.block i hi).trans (h.block i hi)⟩
theorem Sel.setCell {B : Nat} {a b : World} (h : Sel B a b) (o : Nat) (u : Value) : Sel B a (b.setCell ⟨B, o, none⟩ u) :=
 h.trans ⟨rfl, rfl, rfl, by simp [World.setCell], fun k hk => Below.heap_setCell _ _ _ _ (by simpa using hk)⟩
theorem Sel.below {B : Nat} {a b : World} (h : Sel B a b) : Below B a b := ⟨h.os, h.tape, h.output, by have := h.size; omega, fun k hk => h.block k (by omega)⟩
def At (w : World) (b : Nat) (zs : List Int) : Prop :=
 b < w.heap.size ∧ (∀ i, i < zs.length → w.cell? ⟨b, 0 + i, none⟩ = some (.int .u8 (zs.getD i 0))) ∧ ∀ o, w.frozen? ⟨b, o, none⟩ = false
def Nw (w w' : World) : Prop := Below w.heap.size w w'
theorem Nw.trans {a b c : World} (h : Nw a b) (k : Nw b c) : Nw a c := Below.trans h (Below.mono k (Below.size h))
theorem Kp.nw {a b : World} (h : Kp a b) : Nw a b := h.1
theorem At.nw {w w' : World} {b : Nat} {zs : List Int} (h : At w b zs) (k : Nw w w') : At w' b zs :=
 ⟨Nat.lt_of_lt_of_le h.1 (Below.size k), fun i hi => (Below.cell k (p := ⟨b, 0 + i, none⟩) h.1).trans (h.2.1 i hi), fun o => (Below.frozen k (p := ⟨b, o, none⟩) h.1).trans (h.2.2 o)⟩
def ints (bs : List Nat) : List Int := bs.map (fun b : Nat => (b : Int))
theorem At.alloc (w : World) (zs : List Int) (t : TypeId) : At (w.alloc (.cells (cellsOf .u8 zs) t)) w.heap.size zs := by
 refine ⟨by simp, fun i hi => ?_, fun o => World.frozen?_alloc_at _ _ _ _ rfl⟩
 have := cellsOf_get .u8 zs i hi
 simp [this]
theorem At.row {w : World} {b : Nat} {zs : List Int} (h : At w b zs) : Row .u8 w (some ⟨b, 0, none⟩) zs := Or.inr ⟨b, 0, rfl, h.1, h.2.1⟩
theorem Row.below {k : IntKind} {w w' : World} {a : Option Addr} {zs : List Int} (h : Row k w a zs) (hk : Below w.heap.size w w') : Row k w' a zs := by
 rcases h with h | ⟨b, off, rfl, hb, hc⟩
 ·exact Or.inl h
 ·exact Or.inr ⟨b, off, rfl, Nat.lt_of_lt_of_le hb hk.size, fun i hi => (hk.cell (p := ⟨b, off + i, none⟩) hb).trans (hc i hi)⟩
theorem Nw.drw {w w' : World} (h : Nw w.drew w') : Nw w w' := Nw.trans (show Nw w w.drew from (Below.refl _ _).drew) h
theorem bcell {W w1 : World} (hb : Nw W w1) : (∀ b o, b < W.heap.size → w1.cell? ⟨b, o, none⟩ = W.cell? ⟨b, o, none⟩) ∧ (∀ b o, b < W.heap.size → w1.frozen? ⟨b, o, none⟩ = W.frozen? ⟨b, o, none⟩) :=
 ⟨fun b o h => Below.cell hb (p := ⟨b, o, none⟩) h, fun b o h => Below.frozen hb (p := ⟨b, o, none⟩) h⟩
theorem run_mk (t e : TypeId) (z : Value) (size bytes : Nat) (ht : Tryz.prog.underlying t = some (.slice e)) (hinfo : (Tryz.prog.info? e).map (fun i => (i.zero, i.size, i.bytes)) = some (some z, size, bytes))
  (n : Nat) (hbytes : bytes * n ≤ 281474976710656) (h63 : n ≤ 9223372036854775807) (w : World) :
  (Instr.makeSlice t (.int .i64 (n : Int)) (.int .i64 (n : Int))).run Tryz.prog w = .ok (.slice (some ⟨w.heap.size, 0, none⟩) n n) (w.alloc (.cells (madeCells z.cells (n * size)) e)) := by
 obtain ⟨i, hi, hzz⟩ := Option.map_eq_some_iff.1 hinfo
 simp only [Prod.mk.injEq] at hzz
 obtain ⟨hz, hs, hb⟩ := hzz
 have hb' : (i.bytes : Int) * (n : Int) ≤ 281474976710656 := by
  have h : ((i.bytes * n : Nat) : Int) ≤ 281474976710656 := by rw [hb]; omega
  rwa [Int.natCast_mul] at h
 have hr := run_make (P := Tryz.prog) w t e i z ht hi hz .i64 .i64 n n (by omega) (Int.le_refl _) hb' (by omega)
 simpa [hs] using hr
theorem madeCells_get (z : Array Value) (n j : Nat) (h : j < n) : (madeCells z n)[j]? = some (z[j % z.size]!) := by
 simp [madeCells, h]
theorem addr_spot {W : World} {x : Addr} {v : Value} (h : W.cell? (x.add 0) = some v) : x = ⟨x.block, x.off, none⟩ := by
 obtain ⟨b, off, spot⟩ := x
 have hs := World.cell?_spot h
 simp [Addr.add] at hs
 subst hs; rfl
theorem add_at (b off i : Nat) : (⟨b, off, none⟩ : Addr).add i = ⟨b, off + i, none⟩ := by
 unfold Addr.add
 by_cases h0 : i = 0
 ·subst h0; simp
 ·simp [h0]
abbrev Pnt := Int × Int
def ptAt (l : List Pnt) (i : Nat) : Pnt := l.getD i (0, 0)
abbrev ptV (p : Pnt) : Value := .agg #[.int .i64 p.1, .int .i64 p.2]
def Pts (w : World) (a : Option Addr) (l : List Pnt) : Prop :=
 l = [] ∨ ∃ b off, a = some ⟨b, off, none⟩ ∧ b < w.heap.size ∧ ∀ i, i < l.length → w.cell? ⟨b, off + i * 2, none⟩ = some (.int .i64 (ptAt l i).1) ∧ w.cell? ⟨b, off + i * 2 + 1, none⟩ = some (.int .i64 (ptAt l i).2)
theorem Pts.nw {w w' : World} {a : Option Addr} {l : List Pnt} (h : Pts w a l) (k : Nw w w') : Pts w' a l := by
 rcases h with h | ⟨b, off, rfl, hb, hc⟩
 ·exact Or.inl h
 ·exact Or.inr ⟨b, off, rfl, Nat.lt_of_lt_of_le hb (Below.size k), fun i hi => ⟨((bcell k).1 _ _ hb).trans (hc i hi).1, ((bcell k).1 _ _ hb).trans (hc i hi).2⟩⟩
theorem toPoint_any (w : World) (x y : Int) :
  Calls Tryz.prog 102 #[.agg #[.int .i64 x, .int .i64 y]] w fun e w' => e = .returned (.agg #[.int .i64 x, .int .i64 y]) ∧ Kp w w' := by
 go_enter Tryz.func102, Tryz.ntmps102
 go_wp2
 exact bodyPost_ret (v := .agg #[.int .i64 x, .int .i64 y]) (by simp [results, Tryz.results102, go_sem]) rfl ⟨rfl, (((Kp.refl w).alloc _ _).alloc _ _).alloc _ _⟩
theorem eqPoint_any (w : World) (x y : Int) :
  Calls Tryz.prog 103 #[.agg #[.int .i64 x, .int .i64 y], .agg #[.int .i64 x, .int .i64 y]] w fun e w' => e = .returned (.bool true) ∧ Nw w w' := by
 have hne : (x != x) = false := by simp
 have hne2 : (y != y) = false := by simp
 go_enter Tryz.func103, Tryz.ntmps103
 go_wp2
 go_ret
 exact ⟨rfl, ((Below.refl _ _).alloc (Nat.le_refl _) _).alloc (by simp) _⟩
theorem szPointS_any (w : World) (a : Option Addr) (n c : Nat) (left : Int) (h0 : 0 ≤ left) (h1 : left ≤ 1048576) (hm : n ≤ maxLen) :
  Calls Tryz.prog 79 #[.slice a n c, .int .i64 left] w fun e w' => e = .returned (.int .i64 (if (n : Int) ≤ left then left - (n : Int) else -1)) ∧ w' = w := by
 unfold maxLen at hm
 by_cases c1 : (n : Int) ≤ left
 ·rw [if_pos c1]
  go_enter Tryz.func79, Tryz.ntmps79
  go_wp2
  go_ret
  exact ⟨rfl, rfl⟩
 ·rw [if_neg c1]
  go_enter Tryz.func79, Tryz.ntmps79
  go_wp2
  go_ret
  exact ⟨rfl, rfl⟩
def LayPt (w : World) (g : Nat) (l : List Pnt) (k : Nat) : Prop :=
 g < w.heap.size ∧ (∀ i, i < k → w.cell? ⟨g, i * 2, none⟩ = some (.int .i64 (ptAt l i).1) ∧ w.cell? ⟨g, i * 2 + 1, none⟩ = some (.int .i64 (ptAt l i).2)) ∧ (∀ i, k ≤ i → i < l.length → w.cell? ⟨g, i * 2, none⟩ = some (.int .i64 0) ∧ w.cell? ⟨g, i * 2 + 1, none⟩ = some (.int .i64 0)) ∧ ∀ o, w.frozen? ⟨g, o, none⟩ = false
theorem LayPt.nw {w w' : World} {g k : Nat} {l : List Pnt} (h : LayPt w g l k) (q : Nw w w') : LayPt w' g l k :=
 ⟨Nat.lt_of_lt_of_le h.1 (Below.size q), fun i hi => ⟨((bcell q).1 _ _ h.1).trans (h.2.1 i hi).1, ((bcell q).1 _ _ h.1).trans (h.2.1 i hi).2⟩,
  fun i hi hj => ⟨((bcell q).1 _ _ h.1).trans (h.2.2.1 i hi hj).1, ((bcell q).1 _ _ h.1).trans (h.2.2.1 i hi hj).2⟩, fun o => ((bcell q).2 _ _ h.1).trans (h.2.2.2 o)⟩
theorem LayPt.step {w : World} {g k : Nat} {l : List Pnt} (h : LayPt w g l k) (hk : k < l.length) : LayPt ((w.setCell ⟨g, k * 2, none⟩ (.int .i64 (ptAt l k).1)).setCell ⟨g, k * 2 + 1, none⟩ (.int .i64 (ptAt l k).2)) g l (k + 1) := by
 obtain ⟨h2, h3, h4, h5⟩ := h
 obtain ⟨c0, c1⟩ := h4 k (Nat.le_refl _) hk
 have far : ∀ o, o ≠ k * 2 → o ≠ k * 2 + 1 → ((w.setCell ⟨g, k * 2, none⟩ (.int .i64 (ptAt l k).1)).setCell ⟨g, k * 2 + 1, none⟩ (.int .i64 (ptAt l k).2)).cell? ⟨g, o, none⟩ = w.cell? ⟨g, o, none⟩ := by
  intro o a b
  rw [World.cell?_setCell_other _ _ _ _ (fun h => by injection h; omega), World.cell?_setCell_other _ _ _ _ (fun h => by injection h; omega)]
 refine ⟨by simpa [World.setCell] using h2, fun m hm => ?_, fun m hm1 hm2 => ?_, fun o => ?_⟩
 ·by_cases e : m = k
  ·subst e
   refine ⟨?_, World.cell?_setCell_same (w.setCell ⟨g, m * 2, none⟩ _) ⟨g, m * 2 + 1, none⟩ _ ((World.cell?_setCell_other _ _ _ _ (fun h => by injection h; omega)).trans c1)⟩
   rw [World.cell?_setCell_other _ _ _ _ (fun h => by injection h; omega)]
   exact World.cell?_setCell_same w ⟨g, m * 2, none⟩ _ c0
  ·rw [far _ (by omega) (by omega), far _ (by omega) (by omega)]; exact h3 m (by omega)
 ·rw [far _ (by omega) (by omega), far _ (by omega) (by omega)]; exact h4 m (by omega) hm2
 ·rw [World.frozen?_setCell, World.frozen?_setCell]; exact h5 o
theorem LayPt.off {w : World} {g k : Nat} {l : List Pnt} (h : LayPt w g l k) (b o : Nat) (v : Value) (hne : b ≠ g) : LayPt (w.setCell ⟨b, o, none⟩ v) g l k := by
 have far : ∀ x, (w.setCell ⟨b, o, none⟩ v).cell? ⟨g, x, none⟩ = w.cell? ⟨g, x, none⟩ := fun x => World.cell?_setCell_other _ _ _ _ (fun h => by injection h; omega)
 refine ⟨by simpa [World.setCell] using h.1, fun m hm => ?_, fun m hm1 hm2 => ?_, fun x => ?_⟩
 ·rw [far, far]; exact h.2.1 m hm
 ·rw [far, far]; exact h.2.2.1 m hm1 hm2
 ·rw [World.frozen?_setCell]; exact h.2.2.2 x
theorem LayPt.pts {w : World} {g : Nat} {l : List Pnt} (h : LayPt w g l l.length) : Pts w (some ⟨g, 0, none⟩) l :=
 Or.inr ⟨g, 0, rfl, h.1, fun i hi => by simpa using h.2.1 i hi⟩
theorem Tryz.info34 : (Tryz.prog.info? 34).map (fun i => (i.zero, i.size, i.bytes)) = some (some (.agg #[.int .i64 0, .int .i64 0]), 2, 16) := by kernel_rfl
theorem LayPt.start (w : World) (l : List Pnt) (t : TypeId) : LayPt (w.alloc (.cells (madeCells #[.int .i64 0, .int .i64 0] (l.length * 2)) t)) w.heap.size l 0 := by
 refine ⟨by simp, fun i hi => absurd hi (by omega), fun i _ hi => ⟨?_, ?_⟩, fun o => World.frozen?_alloc_at _ _ _ _ rfl⟩
 ·have := madeCells_get #[.int .i64 0, .int .i64 0] (l.length * 2) (i * 2) (by omega)
  simp at this
  simp [this]
 ·have := madeCells_get #[.int .i64 0, .int .i64 0] (l.length * 2) (i * 2 + 1) (by omega)
  have e : (i * 2 + 1) % 2 = 1 := by omega
  simp [e] at this
  simp [this]
theorem toPointS_any (w : World) (a : Option Addr) (c : Nat) (l : List Pnt) (hm : l.length ≤ 1048576) (hr : Pts w a l) :
  Calls Tryz.prog 80 #[.slice a l.length c] w fun e w' => e = .returned (.slice (some ⟨w.heap.size, 0, none⟩) l.length l.length) ∧ Nw w w' ∧ LayPt w' w.heap.size l l.length := by
 have HR : Hid (Pts w a l) := hr
 clear hr
 have hmk := run_mk 23 34 _ 2 16 Tryz.underlying23 Tryz.info34 l.length (by omega) (by omega)
 have hcs : (Value.agg #[.int .i64 0, .int .i64 0]).cells = #[.int .i64 0, .int .i64 0] := rfl
 rw [hcs] at hmk
 go_enter Tryz.func80, Tryz.ntmps80
 go_wp2
 go_loopw [4] (fun i wr => ∃ k : Nat, k ≤ l.length ∧ i = .int .i64 k ∧ Nw w wr ∧ LayPt wr w.heap.size l k) (fun i _ => l.length - (intOf i).toNat)
 case atStart => exact ⟨0, Nat.zero_le _, rfl, (Below.refl _ _).alloc (Nat.le_refl _) _, LayPt.start w l _⟩
 case round =>
  obtain ⟨k, hk, rfl, hw, hlay⟩ := hrel
  clear hmk hcs
  by_cases hlt : k < l.length
  ·rcases (HR.out.nw hw) with h | ⟨b, off, rfl, hbk, hc⟩
   ·rw [h] at hlt; simp at hlt
   obtain ⟨q0, q1⟩ := hc k hlt
   clear hc
   have HW : Hid (Nw w wr) := hw
   obtain ⟨z0, z1⟩ := hlay.2.2.1 k (Nat.le_refl _) hlt
   have zf := hlay.2.2.2
   have HL : Hid _ := hlay
   clear hw hlay
   have hg : w.heap.size < wr.heap.size := HL.out.1
   go_wp2_with (go_at_call 102; refine (toPoint_any _ _ _).mono ?_; rintro e w' ⟨rfl, k1⟩; have y0 := ((Kp.cells k1).1 _ (k * 2) hg).trans z0; have y1 := ((Kp.cells k1).1 _ (k * 2 + 1) hg).trans z1; have yf : ∀ o, w'.frozen? ⟨w.heap.size, o, none⟩ = false := fun o => ((Kp.cells k1).2 _ o).trans (zf o); clear z0 z1 zf)
   go_roundw
   case rel =>
    refine ⟨k + 1, by omega, by go_num, ?_, LayPt.step (LayPt.nw HL.out k1.nw) hlt⟩
    have kb : Below w.heap.size w w' := HW.out.trans k1.nw
    exact (kb.setCell (Nat.le_refl _) _).setCell (Nat.le_refl _) _
   case measure => simp [intOf]; omega
  ·have e : k = l.length := by omega
   subst e
   have HN : Hid (Nw w wr ∧ LayPt wr w.heap.size l l.length) := ⟨hw, hlay⟩
   clear hw hlay
   go_wp2
   go_ret
   exact ⟨rfl, HN.out⟩
theorem eqPointS_any (w : World) (a1 a2 : Option Addr) (c1 c2 : Nat) (l : List Pnt) (hl : l.length ≤ 1048576) (h1 : Pts w a1 l) (h2 : Pts w a2 l) :
  Calls Tryz.prog 81 #[.slice a1 l.length c1, .slice a2 l.length c2] w fun e w' => e = .returned (.bool true) ∧ Nw w w' := by
 have H1 : Hid (Pts w a1 l) := h1
 have H2 : Hid (Pts w a2 l) := h2
 clear h1 h2
 go_enter Tryz.func81, Tryz.ntmps81
 go_wp2
 go_loopw [5] (fun i wr => ∃ k : Nat, k ≤ l.length ∧ i = .int .i64 k ∧ Nw w wr) (fun i _ => l.length - (intOf i).toNat)
 case atStart => exact ⟨0, Nat.zero_le _, rfl, Below.refl _ _⟩
 case round =>
  obtain ⟨k, hk, rfl, hw⟩ := hrel
  by_cases hlt : k < l.length
  ·rcases (H1.out.nw hw) with h | ⟨b1, o1, rfl, hb1, hc1⟩
   ·rw [h] at hlt; simp at hlt
   rcases (H2.out.nw hw) with h | ⟨b2, o2, rfl, hb2, hc2⟩
   ·rw [h] at hlt; simp at hlt
   obtain ⟨q0, q1⟩ := hc1 k hlt
   obtain ⟨r0, r1⟩ := hc2 k hlt
   clear hc1 hc2 H1 H2
   have HW : Hid (Nw w wr) := hw
   clear hw
   generalize (ptAt l k).1 = s at *
   generalize (ptAt l k).2 = t at *
   go_wp2
   go_region_with (go_at_call 103; refine (eqPoint_any _ _ _).mono ?_; rintro e w' ⟨rfl, k1⟩)
   all_goals
    go_wp2
    go_roundw
    case rel => exact ⟨k + 1, by omega, by go_num, HW.out.trans k1.drw⟩
    case measure => simp [intOf]; omega
  ·have HW : Hid (Nw w wr) := hw
   clear hw
   go_wp2
   go_ret
   exact ⟨rfl, HW.out⟩
def mkP (K n : Nat) : List Pnt := (List.range n).map fun i => (((K + 2 * i : Nat) : Int), ((K + 2 * i + 1 : Nat) : Int))
theorem mkP_len (K n : Nat) : (mkP K n).length = n := by simp [mkP]
theorem mkP_at (K n i : Nat) (h : i < n) : ptAt (mkP K n) i = (((K + 2 * i : Nat) : Int), ((K + 2 * i + 1 : Nat) : Int)) := by simp [ptAt, mkP, h]
def AnyPt (w : World) (g n : Nat) : Prop :=
 g < w.heap.size ∧ (∀ i, i < n → (∃ x : Int, w.cell? ⟨g, i * 2, none⟩ = some (.int .i64 x)) ∧ ∃ y : Int, w.cell? ⟨g, i * 2 + 1, none⟩ = some (.int .i64 y)) ∧ ∀ o, w.frozen? ⟨g, o, none⟩ = false
theorem LayPt.any {w : World} {g : Nat} {l : List Pnt} (h : LayPt w g l l.length) : AnyPt w g l.length := ⟨h.1, fun i hi => ⟨⟨_, (h.2.1 i hi).1⟩, ⟨_, (h.2.1 i hi).2⟩⟩, h.2.2.2⟩
theorem grP_refl (w : World) (r : Option Nat) : w.grownBy w r := ⟨rfl, rfl, rfl, Nat.le_refl _, fun _ _ _ => rfl⟩
theorem grP_set {a b : World} {g : Nat} (h : a.grownBy b (some g)) (o : Nat) (v : Value) : a.grownBy (b.setCell ⟨g, o, none⟩ v) (some g) :=
 ⟨h.os, h.tape, h.output, by simpa [World.setCell] using h.size, fun i hi hne => by
  rw [Below.heap_setCell _ _ _ _ (by intro e; apply hne; rw [e])]
  exact h.block i hi hne⟩
def MkPt (w : World) (g K n j : Nat) : Prop :=
 g < w.heap.size ∧ (∀ i, i < j → w.cell? ⟨g, i * 2, none⟩ = some (.int .i64 ((K + 2 * i : Nat) : Int)) ∧ w.cell? ⟨g, i * 2 + 1, none⟩ = some (.int .i64 ((K + 2 * i + 1 : Nat) : Int))) ∧
  (∀ i, j ≤ i → i < n → (∃ x : Int, w.cell? ⟨g, i * 2, none⟩ = some (.int .i64 x)) ∧ ∃ y : Int, w.cell? ⟨g, i * 2 + 1, none⟩ = some (.int .i64 y)) ∧ ∀ o, w.frozen? ⟨g, o, none⟩ = false
theorem AnyPt.mk0 {w : World} {g n : Nat} (h : AnyPt w g n) (K : Nat) : MkPt w g K n 0 := ⟨h.1, fun i hi => absurd hi (by omega), fun i _ b => h.2.1 i b, h.2.2⟩
theorem MkPt.step {w : World} {g K n j : Nat} (h : MkPt w g K n j) (hj : j < n) : MkPt ((w.setCell ⟨g, j * 2, none⟩ (.int .i64 ((K + 2 * j : Nat) : Int))).setCell ⟨g, j * 2 + 1, none⟩ (.int .i64 ((K + 2 * j + 1 : Nat) : Int))) g K n (j + 1) := by
 obtain ⟨h1, h2, h3, h4⟩ := h
 obtain ⟨⟨s0, c0⟩, ⟨s1, c1⟩⟩ := h3 j (Nat.le_refl _) hj
 have far : ∀ o, o ≠ j * 2 → o ≠ j * 2 + 1 → ((w.setCell ⟨g, j * 2, none⟩ (.int .i64 ((K + 2 * j : Nat) : Int))).setCell ⟨g, j * 2 + 1, none⟩ (.int .i64 ((K + 2 * j + 1 : Nat) : Int))).cell? ⟨g, o, none⟩ = w.cell? ⟨g, o, none⟩ := by
  intro o a b
  rw [World.cell?_setCell_other _ _ _ _ (fun h => by injection h; omega), World.cell?_setCell_other _ _ _ _ (fun h => by injection h; omega)]
 refine ⟨by simpa [World.setCell] using h1, fun i hi => ?_, fun i a b => ?_, fun o => by rw [World.frozen?_setCell, World.frozen?_setCell]; exact h4 o⟩
 ·by_cases e : i = j
  ·subst e
   refine ⟨?_, World.cell?_setCell_same (w.setCell ⟨g, i * 2, none⟩ _) ⟨g, i * 2 + 1, none⟩ _ ((World.cell?_setCell_other _ _ _ _ (fun h => by injection h; omega)).trans c1)⟩
   rw [World.cell?_setCell_other _ _ _ _ (fun h => by injection h; omega)]
   exact World.cell?_setCell_same w ⟨g, i * 2, none⟩ _ c0
  ·rw [far _ (by omega) (by omega), far _ (by omega) (by omega)]; exact h2 i (by omega)
 ·rw [far _ (by omega) (by omega), far _ (by omega) (by omega)]; exact h3 i (by omega) b
theorem MkPt.lay {w : World} {g K n : Nat} (h : MkPt w g K n n) : LayPt w g (mkP K n) n :=
 ⟨h.1, fun i hi => by rw [mkP_at K n i hi]; exact h.2.1 i hi, fun i a b => absurd b (by rw [mkP_len]; omega), h.2.2.2⟩
set_option maxHeartbeats 1000000 in
theorem markPt_any (w : World) (g c K n : Nat) (hl : n ≤ 1048576) (hK2 : K ≤ 50000000) (h : AnyPt w g n) :
  Calls Tryz.prog 54 #[.slice (some ⟨g, 0, none⟩) n c, .int .i64 (K : Int)] w fun e w' => e = .returned (.int .i64 ((K + 2 * n : Nat) : Int)) ∧ w.grownBy w' (some g) ∧ LayPt w' g (mkP K n) n := by
 have HS : Hid (MkPt w g K n 0) := h.mk0 K
 clear h
 go_enter Tryz.func54, Tryz.ntmps54
 go_wp2
 go_loopw [1, 5] (fun x i wr => ∃ j : Nat, j ≤ n ∧ i = .int .i64 j ∧ x = .int .i64 ((K + 2 * j : Nat) : Int) ∧ w.grownBy wr (some g) ∧ MkPt wr g K n j) (fun _ i _ => n - (intOf i).toNat)
 case atStart => exact ⟨0, Nat.zero_le _, rfl, rfl, grP_refl _ _, HS.out⟩
 case round =>
  obtain ⟨j, hj, rfl, rfl, hw, hm⟩ := hrel
  have HW : Hid (w.grownBy wr (some g)) := hw
  have HM : Hid (MkPt wr g K n j) := hm
  clear hw hm
  by_cases hlt : j < n
  ·obtain ⟨⟨s0, c0⟩, ⟨s1, c1⟩⟩ := HM.out.2.2.1 j (Nat.le_refl _) hlt
   have hf0 := HM.out.2.2.2
   have HK : Hid ((K : Int) + 2 * (j : Int) = ((K + 2 * j : Nat) : Int)) := by show _ = _; omega
   go_wp2
   go_roundw
   case rel =>
    refine ⟨j + 1, by omega, by go_num, by go_num, grP_set (grP_set HW.out _ _) _ _, ?_⟩
    have h := HM.out.step hlt
    rw [show ((K + 2 * j : Nat) : Int) = (K : Int) + 2 * (j : Int) by omega, show ((K + 2 * j + 1 : Nat) : Int) = (K : Int) + 2 * (j : Int) + 1 by omega] at h
    exact h
   case measure => simp [intOf]; omega
  ·have e : j = n := by omega
   subst e
   go_wp2
   go_ret
   exact ⟨rfl, HW.out, HM.out.lay⟩
theorem markPt_nil (w : World) (K : Nat) (hK2 : K ≤ 50000000) :
  Calls Tryz.prog 54 #[.slice none 0 0, .int .i64 (K : Int)] w fun e w' => e = .returned (.int .i64 (K : Int)) ∧ w' = w := by
 go_enter Tryz.func54, Tryz.ntmps54
 go_wp2
 go_loop [1, 5] (fun x i => x = .int .i64 (K : Int) ∧ i = .int .i64 0) (fun _ _ => 0)
 case atStart => exact ⟨rfl, rfl⟩
 case round =>
  obtain ⟨rfl, rfl⟩ := hrel
  go_wp2
  go_ret
  exact ⟨rfl, rfl⟩
theorem ret_bool {a b : Bool} (h : a = b) : Ending.returned (.bool a) = .returned (.bool b) := by rw [h]
theorem in_any (w : World) (n lo hi : Int) : Calls Tryz.prog 36 #[.int .i64 n, .int .i64 lo, .int .i64 hi] w fun e w' => e = .returned (.bool (decide (lo ≤ n ∧ n ≤ hi))) ∧ w' = w := by
 go_enter Tryz.func36, Tryz.ntmps36
 go_wp2
 all_goals
  go_ret
  exact ⟨ret_bool (by rw [Bool.eq_iff_iff]; simp; omega), rfl⟩
theorem all_false {α : Type} (f : α → Bool) (d : α) (l : List α) (k : Nat) (hk : k < l.length) (h : f (l.getD k d) = false) : l.all f = false := by
 rw [List.all_eq_false]
 refine ⟨l.getD k d, ?_, by rw [h]; decide⟩
 rw [show l.getD k d = l[k] by simp [hk]]
 exact List.getElem_mem hk
theorem all_true {α : Type} (f : α → Bool) (d : α) (l : List α) (h : ∀ k, k < l.length → f (l.getD k d) = true) : l.all f = true := by
 rw [List.all_eq_true]
 intro x hx
 obtain ⟨k, hk, rfl⟩ := List.getElem_of_mem hx
 have := h k hk
 rw [show l.getD k d = l[k] by simp [hk]] at this
 exact this
end Go.Proofs.YtfdjjbgcaojcnaaGreat
