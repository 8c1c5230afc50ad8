/-
  Small facts for the walks over the fixed numbers: what a cal
-/
import Derived.Test.YtnkeljmecbohkaaGreatRows
import Derived.WalkKit
import Derived.ProofKit
import Derived.OpenShut
import Derived.Below
import Derived.WalkSpells
import Derived.WalkLawsBesides
import Derived.Deep.QuietTactic
import Derived.BigQuiet
import Derived.Deep.OwnRows
import Derived.ShutString
import Derived.ChangeOld
import Derived.Deep.RegionWith
import Derived.Deep.RegionHeld3
namespace Go.Proofs.YtnkeljmecbohkaaGreat
open Go.ChangeShapes Go.WideShapes Go.ChangeAt Go.RowKit
abbrev PQ := Exit → Act → World → Prop
def Kp (w w' : World) : Prop := Below w.heap.size w w' ∧ ∀ a, w'.frozen? a = w.frozen? a
theorem Kp.refl (w : World) : Kp w w := ⟨Below.refl _ _, fun _ => rfl⟩
theorem Kp.size {w w' : World} (h : Kp w w') : w.heap.size ≤ w'.heap.size := h.1.size
theorem Kp.trans {w w1 w2 : World} (h : Kp w w1) (k : Kp w1 w2) : Kp w w2 :=
 ⟨h.1.trans (k.1.mono h.1.size), fun a => (k.2 a).trans (h.2 a)⟩
theorem Kp.alloc {w w1 : World} (h : Kp w w1) (c : Array Value) (t : TypeId) : Kp w (w1.alloc (.cells c t)) :=
 ⟨h.1.alloc h.1.size _, fun a => (frozen?_alloc_cells _ _ _ a).trans (h.2 a)⟩
theorem Kp.drew {w w1 : World} (h : Kp w w1) : Kp w w1.drew := ⟨h.1.drew, h.2⟩
theorem Kp.setCell {w w1 : World} (h : Kp w w1) {a : Addr} (ha : w.heap.size ≤ a.block) (v : Value) : Kp w (w1.setCell a v) :=
 ⟨h.1.setCell ha v, fun x => (World.frozen?_setCell _ _ _ _).trans (h.2 x)⟩
theorem Kp.drewN {w w1 : World} (h : Kp w w1) (n : Nat) : Kp w (w1.drewN n) :=
 h.trans ⟨⟨rfl, rfl, rfl, Nat.le_refl _, fun _ _ => rfl⟩, fun _ => rfl⟩
theorem Kp.cells {W w1 : World} (h : Kp W w1) : (∀ b o, b < W.heap.size → w1.cell? ⟨b, o, none⟩ = W.cell? ⟨b, o, none⟩) ∧ (∀ b o, w1.frozen? ⟨b, o, none⟩ = W.frozen? ⟨b, o, none⟩) :=
 ⟨fun b o hb => h.1.cell (p := ⟨b, o, none⟩) hb, fun _ _ => h.2 _⟩
theorem ret_int {k : IntKind} {a b : Int} (h : a = b) : Ending.returned (.int k a) = .returned (.int k b) := by rw [h]
theorem tdiv_neg_of (a b : Int) (ha : a < 0) : a.tdiv b = -((-a) / b) := by
 have h : a = -(-a) := by omega
 rw [h, Int.neg_tdiv, Int.tdiv_eq_ediv_of_nonneg (by omega)]; simp
theorem tmod_neg_of (a b : Int) (ha : a < 0) : a.tmod b = -((-a) % b) := by
 have h : a = -(-a) := by omega
 rw [h, Int.neg_tmod, Int.tmod_eq_emod_of_nonneg (by omega)]; simp
theorem ediv_bd (a b : Int) (ha : 0 ≤ a) (hb : 0 < b) : 0 ≤ a / b ∧ a / b ≤ a :=
 ⟨Int.ediv_nonneg ha (by omega), Int.ediv_le_self _ ha⟩
theorem ediv_neg_of (a b : Int) (hb : 0 < b) : a / b = if (-a) % b = 0 then -((-a) / b) else -((-a) / b) - 1 := by
 have h1 := Int.mul_ediv_add_emod (-a) b
 have h2 := Int.emod_nonneg (-a) (b := b) (by omega)
 have h3 := Int.emod_lt_of_pos (-a) hb
 generalize (-a) / b = q at *
 generalize (-a) % b = r at *
 have e : a = b * (-q) - r := by rw [Int.mul_neg]; omega
 split
 ·rename_i hr
  rw [e, hr, Int.sub_zero, Int.mul_ediv_cancel_left _ (by omega)]
 ·rename_i hr
  have e2 : a = (b - r) + b * (-q - 1) := by rw [Int.mul_sub, e]; omega
  rw [e2, Int.add_mul_ediv_left _ _ (by omega), Int.ediv_eq_zero_of_lt (by omega) (by omega)]; omega
set_option linter.unusedVariables false

structure Sel (B : Nat) (w w' : World) : Prop where
 os : w'.os = w.os
 tape : w'.tape = w.tape
 output : w'.output = w.output
 size : w'.heap.size = w.heap.size
 block : ∀ k, k ≠ B → w'.heap[k]? = w.heap[k]?
theorem Sel.refl (B : Nat) (w : World) : Sel B w w := ⟨rfl, rfl, rfl, rfl, fun _ _ => rfl⟩
theorem Sel.trans {B : Nat} {a b c : World} (h : Sel B a b) (k : Sel B b c) : Sel B a c :=
 ⟨k.os.trans h.os, k.tape.trans h.tape, k.output.trans h.output, k.size.trans h.size, fun i hi => (k.block i hi).trans (h.block i hi)⟩
theorem Sel.setCell {B : Nat} {a b : World} (h : Sel B a b) (o : Nat) (u : Value) : Sel B a (b.setCell ⟨B, o, none⟩ u) :=
 h.trans ⟨rfl, rfl, rfl, by simp [World.setCell], fun k hk => Below.heap_setCell _ _ _ _ (by simpa using hk)⟩
theorem Sel.below {B : Nat} {a b : World} (h : Sel B a b) : Below B a b := ⟨h.os, h.tape, h.output, by have := h.size; omega, fun k hk => h.block k (by omega)⟩
def Nw (w w' : World) : Prop := Below w.heap.size w w'
theorem Nw.trans {a b c : World} (h : Nw a b) (k : Nw b c) : Nw a c := Below.trans h (Below.mono k (Below.size h))
theorem Kp.nw {a b : World} (h : Kp a b) : Nw a b := h.1
theorem bcell {W w1 : World} (hb : Nw W w1) : (∀ b o, b < W.heap.size → w1.cell? ⟨b, o, none⟩ = W.cell? ⟨b, o, none⟩) ∧ (∀ b o, b < W.heap.size → w1.frozen? ⟨b, o, none⟩ = W.frozen? ⟨b, o, none⟩) :=
 ⟨fun b o h => Below.cell hb (p := ⟨b, o, none⟩) h, fun b o h => Below.frozen hb (p := ⟨b, o, none⟩) h⟩
theorem add_at (b off i : Nat) : (⟨b, off, none⟩ : Addr).add i = ⟨b, off + i, none⟩ := by
 unfold Addr.add
 by_cases h0 : i = 0
 ·subst h0; simp
 ·simp [h0]
abbrev Pnt := Int × Int
def ptAt (l : List Pnt) (i : Nat) : Pnt := l.getD i (0, 0)
abbrev ptV (p : Pnt) : Value := .agg #[.int .i64 p.1, .int .i64 p.2]
def Pts (w : World) (a : Option Addr) (l : List Pnt) : Prop :=
 l = [] ∨ ∃ b off, a = some ⟨b, off, none⟩ ∧ b < w.heap.size ∧ ∀ i, i < l.length → w.cell? ⟨b, off + i * 2, none⟩ = some (.int .i64 (ptAt l i).1) ∧ w.cell? ⟨b, off + i * 2 + 1, none⟩ = some (.int .i64 (ptAt l i).2)
theorem Pts.nw {w w' : World} {a : Option Addr} {l : List Pnt} (h : Pts w a l) (k : Nw w w') : Pts w' a l := by
 rcases h with h | ⟨b, off, rfl, hb, hc⟩
 ·exact Or.inl h
 ·exact Or.inr ⟨b, off, rfl, Nat.lt_of_lt_of_le hb (Below.size k), fun i hi => ⟨((bcell k).1 _ _ hb).trans (hc i hi).1, ((bcell k).1 _ _ hb).trans (hc i hi).2⟩⟩
def LayPt (w : World) (g : Nat) (l : List Pnt) (k : Nat) : Prop :=
 g < w.heap.size ∧ (∀ i, i < k → w.cell? ⟨g, i * 2, none⟩ = some (.int .i64 (ptAt l i).1) ∧ w.cell? ⟨g, i * 2 + 1, none⟩ = some (.int .i64 (ptAt l i).2)) ∧ (∀ i, k ≤ i → i < l.length → w.cell? ⟨g, i * 2, none⟩ = some (.int .i64 0) ∧ w.cell? ⟨g, i * 2 + 1, none⟩ = some (.int .i64 0)) ∧ ∀ o, w.frozen? ⟨g, o, none⟩ = false
theorem LayPt.pts {w : World} {g : Nat} {l : List Pnt} (h : LayPt w g l l.length) : Pts w (some ⟨g, 0, none⟩) l :=
 Or.inr ⟨g, 0, rfl, h.1, fun i hi => by simpa using h.2.1 i hi⟩
theorem Tryz.info34 : (Tryz.prog.info? 34).map (fun i => (i.zero, i.size, i.bytes)) = some (some (.agg #[.int .i64 0, .int .i64 0]), 2, 16) := by kernel_rfl
def mkP (K n : Nat) : List Pnt := (List.range n).map fun i => (((K + 2 * i : Nat) : Int), ((K + 2 * i + 1 : Nat) : Int))
def AnyPt (w : World) (g n : Nat) : Prop :=
 g < w.heap.size ∧ (∀ i, i < n → (∃ x : Int, w.cell? ⟨g, i * 2, none⟩ = some (.int .i64 x)) ∧ ∃ y : Int, w.cell? ⟨g, i * 2 + 1, none⟩ = some (.int .i64 y)) ∧ ∀ o, w.frozen? ⟨g, o, none⟩ = false
theorem LayPt.any {w : World} {g : Nat} {l : List Pnt} (h : LayPt w g l l.length) : AnyPt w g l.length := ⟨h.1, fun i hi => ⟨⟨_, (h.2.1 i hi).1⟩, ⟨_, (h.2.1 i hi).2⟩⟩, h.2.2.2⟩
theorem ret_bool {a b : Bool} (h : a = b) : Ending.returned (.bool a) = .returned (.bool b) := by rw [h]
theorem in_any (w : World) (n lo hi : Int) : Calls Tryz.prog 36 #[.int .i64 n, .int .i64 lo, .int .i64 hi] w fun e w' => e = .returned (.bool (decide (lo ≤ n ∧ n ≤ hi))) ∧ w' = w := by
 go_enter Tryz.func36, Tryz.ntmps36
 go_wp2
 all_goals
  go_ret
  exact ⟨ret_bool (by rw [Bool.eq_iff_iff]; simp; omega), rfl⟩
theorem all_false {α : Type} (f : α → Bool) (d : α) (l : List α) (k : Nat) (hk : k < l.length) (h : f (l.getD k d) = false) : l.all f = false := by
 rw [List.all_eq_false]
 refine ⟨l.getD k d, ?_, by rw [h]; decide⟩
 rw [show l.getD k d = l[k] by simp [hk]]
 exact List.getElem_mem hk
theorem all_true {α : Type} (f : α → Bool) (d : α) (l : List α) (h : ∀ k, k < l.length → f (l.getD k d) = true) : l.all f = true := by
 rw [List.all_eq_true]
 intro x hx
 obtain ⟨k, hk, rfl⟩ := List.getElem_of_mem hx
 have := h k hk
 rw [show l.getD k d = l[k] by simp [hk]] at this
 exact this
end Go.Proofs.YtnkeljmecbohkaaGreat
