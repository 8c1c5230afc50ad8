/-
  What the laws' helpers do that hold two lists of numbers aga
-/
import Derived.Test.YtfdjjbgcaojcnaaGreatJAK
import Derived.Test.YtfdjjbgcaojcnaaGreatJAE
import Derived.Test.YtfdjjbgcaojcnaaGreatJAA
namespace Go.Proofs.YtfdjjbgcaojcnaaGreat
open Go.ChangeShapes Go.WideShapes Go.ChangeAt Go.RowKit
set_option linter.unusedVariables false
def RowI (w : World) (v : Value) (l : List Int) : Prop :=
 (v = .slice none 0 0 ∧ l = []) ∨ ∃ g c, v = .slice (some ⟨g, 0, none⟩) l.length c ∧ g < w.heap.size ∧ ∀ i, i < l.length → w.cell? ⟨g, i, none⟩ = some (.int .i64 (intAt l i))
theorem RowI.nw {w w' : World} {v : Value} {l : List Int} (h : RowI w v l) (k : Nw w w') : RowI w' v l := by
 rcases h with h | ⟨g, c, h1, h2, h3⟩
 ·exact Or.inl h
 ·exact Or.inr ⟨g, c, h1, Nat.lt_of_lt_of_le h2 (Below.size k), fun i hi => ((bcell k).1 _ _ h2).trans (h3 i hi)⟩
theorem LayI.row {w : World} {g c : Nat} {l : List Int} (h : LayI w g l) : RowI w (.slice (some ⟨g, 0, none⟩) l.length c) l := Or.inr ⟨g, c, rfl, h.1, h.2.1⟩
theorem Ins.row {w : World} {B : Nat} {v : Value} {l : List Int} (h : Ins w B v l) : RowI w v l := by
 rcases h.lay with h | ⟨g, c, h1, _, h3⟩
 ·exact Or.inl h
 ·rw [h1]; exact h3.row
set_option maxHeartbeats 1000000 in
theorem eqI_any (w : World) (v1 v2 : Value) (l : List Int) (hl : l.length ≤ 1048576) (h1 : RowI w v1 l) (h2 : RowI w v2 l) :
  Calls Tryz.prog 53 #[v1, v2] w fun e w' => e = .returned (.bool true) ∧ Nw w w' := by
 have form : ∀ v, RowI w v l → ∃ a c, v = .slice a l.length c := fun v h => by
  rcases h with ⟨rfl, rfl⟩ | ⟨g, c, rfl, _⟩
  ·exact ⟨none, 0, rfl⟩
  ·exact ⟨_, c, rfl⟩
 obtain ⟨a1, c1, rfl⟩ := form v1 h1
 obtain ⟨a2, c2, rfl⟩ := form v2 h2
 clear form
 have H1 : Hid (RowI w (.slice a1 l.length c1) l) := h1
 have H2 : Hid (RowI w (.slice a2 l.length c2) l) := h2
 clear h1 h2
 go_enter Tryz.func53, Tryz.ntmps53
 go_wp2
 go_loopw [5] (fun i wr => ∃ j : Nat, j ≤ l.length ∧ i = .int .i64 j ∧ Nw w wr) (fun i _ => l.length - (intOf i).toNat)
 case atStart => exact ⟨0, Nat.zero_le _, rfl, Below.refl _ _⟩
 case round =>
  obtain ⟨j, hj, rfl, hw⟩ := hrel
  by_cases hlt : j < l.length
  ·rcases RowI.nw H1.out hw with ⟨_, e⟩ | ⟨g1, d1, e1, f1, k1⟩
   ·rw [e] at hlt; simp at hlt
   rcases RowI.nw H2.out hw with ⟨_, e⟩ | ⟨g2, d2, e2, f2, k2⟩
   ·rw [e] at hlt; simp at hlt
   injection e1 with e1 _ x1
   injection e2 with e2 _ x2
   subst e1 e2 x1 x2
   have q1 := k1 j hlt
   have q2 := k2 j hlt
   have HW : Hid (Nw w wr) := hw
   clear hw k1 k2 f1 f2 H1 H2
   generalize intAt l j = x at *
   go_wp2
   go_region
   all_goals
    go_wp2
    go_roundw
    case rel => exact ⟨j + 1, by omega, by go_num, Nw.trans HW.out ((Below.refl _ _).drew)⟩
    case measure => simp [intOf]; omega
  ·have e : j = l.length := by omega
   have HW : Hid (Nw w wr) := hw
   clear hw
   subst e
   go_wp2
   go_ret
   exact ⟨rfl, HW.out⟩
def mkL (K n : Nat) : List Int := (List.range n).map fun i => ((K + i : Nat) : Int)
theorem mkL_len (K n : Nat) : (mkL K n).length = n := by simp [mkL]
theorem mkL_at (K n i : Nat) (h : i < n) : intAt (mkL K n) i = ((K + i : Nat) : Int) := by simp [intAt, mkL, h]
theorem grI_refl (w : World) (r : Option Nat) : w.grownBy w r := ⟨rfl, rfl, rfl, Nat.le_refl _, fun _ _ _ => rfl⟩
theorem grI_set {a b : World} {g : Nat} (h : a.grownBy b (some g)) (o : Nat) (v : Value) : a.grownBy (b.setCell ⟨g, o, none⟩ v) (some g) :=
 ⟨h.os, h.tape, h.output, by simpa [World.setCell] using h.size, fun i hi hne => by
  rw [Below.heap_setCell _ _ _ _ (by intro e; apply hne; rw [e])]
  exact h.block i hi hne⟩
def MkI (w : World) (g K n j : Nat) : Prop :=
 g < w.heap.size ∧ (∀ i, i < j → w.cell? ⟨g, i, none⟩ = some (.int .i64 ((K + i : Nat) : Int))) ∧ (∀ i, j ≤ i → i < n → ∃ x : Int, w.cell? ⟨g, i, none⟩ = some (.int .i64 x)) ∧ ∀ o, w.frozen? ⟨g, o, none⟩ = false
theorem MkI.step {w : World} {g K n j : Nat} (h : MkI w g K n j) (hj : j < n) : MkI (w.setCell ⟨g, j, none⟩ (.int .i64 ((K + j : Nat) : Int))) g K n (j + 1) := by
 obtain ⟨h1, h2, h3, h4⟩ := h
 obtain ⟨s0, c0⟩ := h3 j (Nat.le_refl _) hj
 have far : ∀ o, o ≠ j → (w.setCell ⟨g, j, none⟩ (.int .i64 ((K + j : Nat) : Int))).cell? ⟨g, o, none⟩ = w.cell? ⟨g, o, none⟩ := by
  intro o a
  rw [World.cell?_setCell_other _ _ _ _ (fun h => by injection h; omega)]
 refine ⟨by simpa [World.setCell] using h1, fun i hi => ?_, fun i a b => ?_, fun o => by rw [World.frozen?_setCell]; exact h4 o⟩
 ·by_cases e : i = j
  ·subst e; exact World.cell?_setCell_same w ⟨g, i, none⟩ _ c0
  ·rw [far i e]; exact h2 i (by omega)
 ·rw [far i (by omega)]; exact h3 i (by omega) b
theorem MkI.lay {w : World} {g K n : Nat} (h : MkI w g K n n) : LayI w g (mkL K n) :=
 ⟨h.1, fun i hi => by rw [mkL_len] at hi; rw [mkL_at K n i hi]; exact h.2.1 i hi, h.2.2.2⟩
set_option maxHeartbeats 1000000 in
theorem markI_any (w : World) (g c K : Nat) (l : List Int) (hl : l.length ≤ 1048576) (hK2 : K ≤ 50000000) (h : LayI w g l) :
  Calls Tryz.prog 55 #[.slice (some ⟨g, 0, none⟩) l.length c, .int .i64 (K : Int)] w fun e w' => e = .returned (.int .i64 ((K + l.length : Nat) : Int)) ∧ w.grownBy w' (some g) ∧ LayI w' g (mkL K l.length) := by
 have HS : Hid (MkI w g K l.length 0) := ⟨h.1, fun i hi => absurd hi (by omega), fun i _ b => ⟨_, h.2.1 i b⟩, h.2.2⟩
 clear h
 go_enter Tryz.func55, Tryz.ntmps55
 go_wp2
 go_loopw [1, 5] (fun x i wr => ∃ j : Nat, j ≤ l.length ∧ i = .int .i64 j ∧ x = .int .i64 ((K + j : Nat) : Int) ∧ w.grownBy wr (some g) ∧ MkI wr g K l.length j) (fun _ i _ => l.length - (intOf i).toNat)
 case atStart => exact ⟨0, Nat.zero_le _, rfl, rfl, grI_refl _ _, HS.out⟩
 case round =>
  obtain ⟨j, hj, rfl, rfl, hw, hm⟩ := hrel
  have HW : Hid (w.grownBy wr (some g)) := hw
  have HM : Hid (MkI wr g K l.length j) := hm
  clear hw hm
  by_cases hlt : j < l.length
  ·obtain ⟨s0, c0⟩ := HM.out.2.2.1 j (Nat.le_refl _) hlt
   have hf0 := HM.out.2.2.2
   go_wp2
   go_roundw
   case rel =>
    refine ⟨j + 1, by omega, by go_num, by go_num, grI_set HW.out _ _, ?_⟩
    have h := HM.out.step hlt
    rw [show ((K + j : Nat) : Int) = (K : Int) + (j : Int) by omega] at h
    exact h
   case measure => simp [intOf]; omega
  ·have e : j = l.length := by omega
   subst e
   go_wp2
   go_ret
   exact ⟨rfl, HW.out, HM.out.lay⟩
def Ints (w : World) (a : Option Addr) (l : List Int) : Prop :=
 l = [] ∨ ∃ b off, a = some ⟨b, off, none⟩ ∧ b < w.heap.size ∧ ∀ i, i < l.length → w.cell? ⟨b, off + i, none⟩ = some (.int .i64 (intAt l i))
theorem Ints.nw {w w' : World} {a : Option Addr} {l : List Int} (h : Ints w a l) (k : Nw w w') : Ints w' a l := by
 rcases h with h | ⟨b, off, rfl, hb, hc⟩
 ·exact Or.inl h
 ·exact Or.inr ⟨b, off, rfl, Nat.lt_of_lt_of_le hb (Below.size k), fun i hi => ((bcell k).1 _ _ hb).trans (hc i hi)⟩
theorem LayI.ints {w : World} {g : Nat} {l : List Int} (h : LayI w g l) : Ints w (some ⟨g, 0, none⟩) l := Or.inr ⟨g, 0, rfl, h.1, fun i hi => by rw [Nat.zero_add]; exact h.2.1 i hi⟩
theorem szIntS_any (w : World) (a : Option Addr) (n c : Nat) (left : Int) (h0 : 0 ≤ left) (h1 : left ≤ 1048576) (hm : n ≤ maxLen) :
  Calls Tryz.prog 49 #[.slice a n c, .int .i64 left] w fun e w' => e = .returned (.int .i64 (if (n : Int) ≤ left then left - (n : Int) else -1)) ∧ w' = w := by
 unfold maxLen at hm
 by_cases c1 : (n : Int) ≤ left
 ·rw [if_pos c1]
  go_enter Tryz.func49, Tryz.ntmps49
  go_wp2
  go_ret
  exact ⟨rfl, rfl⟩
 ·rw [if_neg c1]
  go_enter Tryz.func49, Tryz.ntmps49
  go_wp2
  go_ret
  exact ⟨rfl, rfl⟩
def LayIk (w : World) (g : Nat) (l : List Int) (k : Nat) : Prop :=
 g < w.heap.size ∧ (∀ i, i < k → w.cell? ⟨g, i, none⟩ = some (.int .i64 (intAt l i))) ∧ (∀ i, k ≤ i → i < l.length → w.cell? ⟨g, i, none⟩ = some (.int .i64 0)) ∧ ∀ o, w.frozen? ⟨g, o, none⟩ = false
theorem LayIk.step {w : World} {g k : Nat} {l : List Int} (h : LayIk w g l k) (hk : k < l.length) : LayIk (w.setCell ⟨g, k, none⟩ (.int .i64 (intAt l k))) g l (k + 1) := by
 obtain ⟨h2, h3, h4, h5⟩ := h
 have c0 := h4 k (Nat.le_refl _) hk
 have far : ∀ o, o ≠ k → (w.setCell ⟨g, k, none⟩ (.int .i64 (intAt l k))).cell? ⟨g, o, none⟩ = w.cell? ⟨g, o, none⟩ := fun o a => World.cell?_setCell_other _ _ _ _ (fun h => by injection h; omega)
 refine ⟨by simpa [World.setCell] using h2, fun m hm => ?_, fun m hm1 hm2 => ?_, fun o => by rw [World.frozen?_setCell]; exact h5 o⟩
 ·by_cases e : m = k
  ·subst e; exact World.cell?_setCell_same w ⟨g, m, none⟩ _ c0
  ·rw [far _ e]; exact h3 m (by omega)
 ·rw [far _ (by omega)]; exact h4 m (by omega) hm2
theorem info_int : (Tryz.prog.info? 3).map (fun i => (i.zero, i.size, i.bytes)) = some (some (.int .i64 0), 1, 8) := by kernel_rfl
theorem LayIk.start (w : World) (l : List Int) (t : TypeId) : LayIk (w.alloc (.cells (madeCells #[.int .i64 0] l.length) t)) w.heap.size l 0 := by
 refine ⟨by simp, fun i hi => absurd hi (by omega), fun i _ hi => ?_, fun o => World.frozen?_alloc_at _ _ _ _ rfl⟩
 have := madeCells_get #[.int .i64 0] l.length i (by omega)
 have e : i % 1 = 0 := Nat.mod_one i
 simp [e] at this
 simp [this]
set_option maxHeartbeats 1000000 in
theorem toIntS_any (w : World) (a : Option Addr) (c : Nat) (l : List Int) (hm : l.length ≤ 1048576) (hr : Ints w a l) :
  Calls Tryz.prog 51 #[.slice a l.length c] w fun e w' => e = .returned (.slice (some ⟨w.heap.size, 0, none⟩) l.length l.length) ∧ Nw w w' ∧ LayI w' w.heap.size l := by
 have HR : Hid (Ints w a l) := hr
 clear hr
 have hmk := run_mk 26 3 _ 1 8 Tryz.underlying26 info_int l.length (by omega) (by omega)
 have hcs : (Value.int .i64 0).cells = #[.int .i64 0] := rfl
 rw [hcs] at hmk
 go_enter Tryz.func51, Tryz.ntmps51
 go_wp2
 go_loopw [4] (fun i wr => ∃ k : Nat, k ≤ l.length ∧ i = .int .i64 k ∧ Nw w wr ∧ LayIk wr w.heap.size l k) (fun i _ => l.length - (intOf i).toNat)
 case atStart => exact ⟨0, Nat.zero_le _, rfl, (Below.refl _ _).alloc (Nat.le_refl _) _, LayIk.start w l _⟩
 case round =>
  obtain ⟨k, hk, rfl, hw, hlay⟩ := hrel
  clear hmk hcs
  by_cases hlt : k < l.length
  ·rcases (HR.out.nw hw) with h | ⟨b, off, rfl, hbk, hc⟩
   ·rw [h] at hlt; simp at hlt
   have q0 := hc k hlt
   clear hc
   have HW : Hid (Nw w wr) := hw
   have z0 := hlay.2.2.1 k (Nat.le_refl _) hlt
   have zf := hlay.2.2.2
   have HL : Hid (LayIk wr w.heap.size l k) := hlay
   clear hw hlay
   go_wp2
   go_roundw
   case rel =>
    exact ⟨k + 1, by omega, by go_num, Below.setCell HW.out (Nat.le_refl _) _, LayIk.step HL.out hlt⟩
   case measure => simp [intOf]; omega
  ·have e : k = l.length := by omega
   subst e
   have HN : Hid (Nw w wr ∧ LayIk wr w.heap.size l l.length) := ⟨hw, hlay⟩
   clear hw hlay
   go_wp2
   go_ret
   exact ⟨rfl, HN.out.1, HN.out.2.1, HN.out.2.2.1, HN.out.2.2.2.2⟩
structure Dg where
 at' : Nat
 left : Int
 begun : Nat
 p : List Pnt
 o : List LD
def skipB (d : Dg) (q : Pnt) : Bool := decide (d.at' % 2 = 1) || (decide (0 < d.p.length) && decide (lastP d.p = q))
def reachD (d : Dg) (q : Pnt) : Dg := if skipB d q then d else ⟨d.at', d.left, d.begun, d.p ++ [q], d.o⟩
def layD (d : Dg) : Dg := ⟨d.at', d.left, d.begun, [], endL d.o d.p false⟩
def nextD (ns : List Int) (d : Dg) : Dg := ⟨d.at' + 1, intAt ns ((d.at' + 1) % ns.length), d.begun, d.p, d.o⟩
def moreD (d : Dg) : Dg := ⟨d.at', d.left, d.begun + 1, d.p, d.o⟩
def turnD (ns : List Int) (d : Dg) (q : Pnt) : Dg := reachD (moreD (nextD ns (layD (reachD d q)))) q
structure DH (bx : Nat) (w : World) (nv : Value) (a l b : Int) (v : Value) (it : Its) (u : Value) (p : List Pnt) : Prop where
 c0 : w.cell? ⟨bx, 0, none⟩ = some nv
 c1 : w.cell? ⟨bx, 1, none⟩ = some (.int .i64 a)
 c2 : w.cell? ⟨bx, 2, none⟩ = some (.int .i64 l)
 c3 : w.cell? ⟨bx, 3, none⟩ = some (.int .i64 b)
 c4 : w.cell? ⟨bx, 4, none⟩ = some u
 c5 : w.cell? ⟨bx, 5, none⟩ = some v
 free : ∀ o, w.frozen? ⟨bx, o, none⟩ = false
 d : D2 w (bx + 1) v it u p
section
variable {bx : Nat} {w w' : World} {nv : Value} {a l b : Int} {v u : Value} {it : Its} {p : List Pnt}
theorem DH.lt (h : DH bx w nv a l b v it u p) : bx < w.heap.size := World.block_lt_of_cell? w ⟨bx, 0, none⟩ h.c0
theorem DH.nw (h : DH bx w nv a l b v it u p) (k : Nw w w') : DH bx w' nv a l b v it u p := by
 have e := fun o => (bcell k).1 bx o h.lt
 exact ⟨(e _).trans h.c0, (e _).trans h.c1, (e _).trans h.c2, (e _).trans h.c3, (e _).trans h.c4, (e _).trans h.c5, fun o => ((bcell k).2 _ _ h.lt).trans (h.free o), h.d.nw k⟩
theorem DH.neu (h : DH bx w nv a l b v it u p) : u.ownBlock ≠ some bx := fun e => by have := (OwnQ.lt h.d.pt bx e).1; omega
theorem DH.nev (h : DH bx w nv a l b v it u p) : v.ownBlock ≠ some bx := fun e => by have := (OwnQ.lt h.d.ln.own bx e).1; omega
theorem DH.setA (h : DH bx w nv a l b v it u p) (x : Int) : DH bx (w.setCell ⟨bx, 1, none⟩ (.int .i64 x)) nv x l b v it u p ∧ Below bx w (w.setCell ⟨bx, 1, none⟩ (.int .i64 x)) := by
 have e : ∀ o, o ≠ 1 → (w.setCell ⟨bx, 1, none⟩ (.int .i64 x)).cell? ⟨bx, o, none⟩ = w.cell? ⟨bx, o, none⟩ := fun o ho => World.cell?_setCell_other _ _ _ _ (fun e => by injection e; omega)
 exact ⟨⟨(e _ (by decide)).trans h.c0, World.cell?_setCell_same w ⟨bx, 1, none⟩ _ h.c1, (e _ (by decide)).trans h.c2, (e _ (by decide)).trans h.c3, (e _ (by decide)).trans h.c4, (e _ (by decide)).trans h.c5, fun o => by rw [World.frozen?_setCell]; exact h.free o, h.d.far bx 1 _ (by omega)⟩, (Below.refl bx w).setCell (p := ⟨bx, 1, none⟩) (Nat.le_refl _) _⟩
theorem DH.setL (h : DH bx w nv a l b v it u p) (x : Int) : DH bx (w.setCell ⟨bx, 2, none⟩ (.int .i64 x)) nv a x b v it u p ∧ Below bx w (w.setCell ⟨bx, 2, none⟩ (.int .i64 x)) := by
 have e : ∀ o, o ≠ 2 → (w.setCell ⟨bx, 2, none⟩ (.int .i64 x)).cell? ⟨bx, o, none⟩ = w.cell? ⟨bx, o, none⟩ := fun o ho => World.cell?_setCell_other _ _ _ _ (fun e => by injection e; omega)
 exact ⟨⟨(e _ (by decide)).trans h.c0, (e _ (by decide)).trans h.c1, World.cell?_setCell_same w ⟨bx, 2, none⟩ _ h.c2, (e _ (by decide)).trans h.c3, (e _ (by decide)).trans h.c4, (e _ (by decide)).trans h.c5, fun o => by rw [World.frozen?_setCell]; exact h.free o, h.d.far bx 2 _ (by omega)⟩, (Below.refl bx w).setCell (p := ⟨bx, 2, none⟩) (Nat.le_refl _) _⟩
theorem DH.setB (h : DH bx w nv a l b v it u p) (x : Int) : DH bx (w.setCell ⟨bx, 3, none⟩ (.int .i64 x)) nv a l x v it u p ∧ Below bx w (w.setCell ⟨bx, 3, none⟩ (.int .i64 x)) := by
 have e : ∀ o, o ≠ 3 → (w.setCell ⟨bx, 3, none⟩ (.int .i64 x)).cell? ⟨bx, o, none⟩ = w.cell? ⟨bx, o, none⟩ := fun o ho => World.cell?_setCell_other _ _ _ _ (fun e => by injection e; omega)
 exact ⟨⟨(e _ (by decide)).trans h.c0, (e _ (by decide)).trans h.c1, (e _ (by decide)).trans h.c2, World.cell?_setCell_same w ⟨bx, 3, none⟩ _ h.c3, (e _ (by decide)).trans h.c4, (e _ (by decide)).trans h.c5, fun o => by rw [World.frozen?_setCell]; exact h.free o, h.d.far bx 3 _ (by omega)⟩, (Below.refl bx w).setCell (p := ⟨bx, 3, none⟩) (Nat.le_refl _) _⟩
theorem DH.pput {u' : Value} {p' : List Pnt} (h : DH bx w nv a l b v it u p) (x : Ext u u' w w') (ho : OwnP w' (bx + 1) u' p') : DH bx (w'.setCell ⟨bx, 4, none⟩ u') nv a l b v it u' p' ∧ Below bx w (w'.setCell ⟨bx, 4, none⟩ u') := by
 have hb := h.lt
 have e0 := fun o => Ext.cell x hb h.neu o
 have e : ∀ o, o ≠ 4 → (w'.setCell ⟨bx, 4, none⟩ u').cell? ⟨bx, o, none⟩ = w.cell? ⟨bx, o, none⟩ := fun o ho => by
  rw [World.cell?_setCell_other _ _ _ _ (fun e => by injection e; omega)]; exact e0 o
 refine ⟨⟨(e _ (by decide)).trans h.c0, (e _ (by decide)).trans h.c1, (e _ (by decide)).trans h.c2, (e _ (by decide)).trans h.c3, World.cell?_setCell_same w' ⟨bx, 4, none⟩ _ ((e0 4).trans h.c4), (e _ (by decide)).trans h.c5, fun o => ?_, (h.d.pput x ho).far bx 4 u' (by omega)⟩, ?_⟩
 ·rw [World.frozen?_setCell]; exact (World.frozen?_of_block (w := w) (a := ⟨bx, o, none⟩) (x.1.block bx hb (fun e => h.neu e.symm))).trans (h.free o)
 ·exact (x.below (fun g e => Nat.le_of_succ_le (OwnQ.lt h.d.pt g e).1) (by omega)).setCell (Nat.le_refl _) _
theorem DH.lput {v' : Value} {c : Bool} (h : DH bx w nv a l b v it u p) (x : Ext v v' w w') (ho : OwnQ 25 w' (bx + 1) v' (vLn (it ++ [(u, ⟨p, c⟩)]))) : DH bx ((w'.setCell ⟨bx, 5, none⟩ v').setCell ⟨bx, 4, none⟩ (.slice none 0 0)) nv a l b v' (it ++ [(u, ⟨p, c⟩)]) (.slice none 0 0) [] ∧ Below bx w ((w'.setCell ⟨bx, 5, none⟩ v').setCell ⟨bx, 4, none⟩ (.slice none 0 0)) := by
 have hb := h.lt
 have e0 := fun o => Ext.cell x hb h.nev o
 have e : ∀ o, o ≠ 4 → o ≠ 5 → ((w'.setCell ⟨bx, 5, none⟩ v').setCell ⟨bx, 4, none⟩ (.slice none 0 0)).cell? ⟨bx, o, none⟩ = w.cell? ⟨bx, o, none⟩ := fun o ho ho2 => by
  rw [World.cell?_setCell_other _ _ _ _ (fun e => by injection e; omega), World.cell?_setCell_other _ _ _ _ (fun e => by injection e; omega)]; exact e0 o
 have s5 := World.cell?_setCell_same w' ⟨bx, 5, none⟩ v' ((e0 5).trans h.c5)
 have s4 : (w'.setCell ⟨bx, 5, none⟩ v').cell? ⟨bx, 4, none⟩ = some u := by
  rw [World.cell?_setCell_other _ _ _ _ (fun e => by injection e; omega)]; exact (e0 4).trans h.c4
 refine ⟨⟨(e _ (by decide) (by decide)).trans h.c0, (e _ (by decide) (by decide)).trans h.c1, (e _ (by decide) (by decide)).trans h.c2, (e _ (by decide) (by decide)).trans h.c3, World.cell?_setCell_same _ ⟨bx, 4, none⟩ _ s4, ?_, fun o => ?_, ⟨((h.d.lput ho x).farSet bx 5 v' (by omega)).farSet bx 4 _ (by omega), OwnP.nil _ _, Apt.nil _ _⟩⟩, ?_⟩
 ·rw [World.cell?_setCell_other _ _ _ _ (fun e => by injection e; omega)]; exact s5
 ·rw [World.frozen?_setCell, World.frozen?_setCell]; exact (World.frozen?_of_block (w := w) (a := ⟨bx, o, none⟩) (x.1.block bx hb (fun e => h.nev e.symm))).trans (h.free o)
 ·exact ((x.below (fun g e => Nat.le_of_succ_le (OwnQ.lt h.d.ln.own g e).1) (by omega)).setCell (Nat.le_refl _) _).setCell (Nat.le_refl _) _
theorem DH.drop (h : DH bx w nv a l b v it u p) : DH bx (w.setCell ⟨bx, 4, none⟩ (.slice none 0 0)) nv a l b v it (.slice none 0 0) [] ∧ Below bx w (w.setCell ⟨bx, 4, none⟩ (.slice none 0 0)) := by
 have e : ∀ o, o ≠ 4 → (w.setCell ⟨bx, 4, none⟩ (.slice none 0 0)).cell? ⟨bx, o, none⟩ = w.cell? ⟨bx, o, none⟩ := fun o ho => World.cell?_setCell_other _ _ _ _ (fun e => by injection e; omega)
 exact ⟨⟨(e _ (by decide)).trans h.c0, (e _ (by decide)).trans h.c1, (e _ (by decide)).trans h.c2, (e _ (by decide)).trans h.c3, World.cell?_setCell_same w ⟨bx, 4, none⟩ _ h.c4, (e _ (by decide)).trans h.c5, fun o => by rw [World.frozen?_setCell]; exact h.free o, ⟨h.d.ln.farSet bx 4 _ (by omega), OwnP.nil _ _, Apt.nil _ _⟩⟩, (Below.refl bx w).setCell (p := ⟨bx, 4, none⟩) (Nat.le_refl _) _⟩
end
def Kb (bx : Nat) (w : World) (v : Value) (it : Its) (u : Value) (K : List (Nat × Int × Int)) : Prop := ∀ k, k ∈ K → w.cell? ⟨k.1, 0, none⟩ = some (.int .i64 k.2.1) ∧ w.cell? ⟨k.1, 1, none⟩ = some (.int .i64 k.2.2) ∧ (∀ o, w.frozen? ⟨k.1, o, none⟩ = false) ∧ k.1 ≠ bx ∧ u.ownBlock ≠ some k.1 ∧ v.ownBlock ≠ some k.1 ∧ ∀ i, i < it.length → (itAt it i).1.ownBlock ≠ some k.1
section
variable {bx : Nat} {w w' : World} {v u : Value} {it : Its} {K : List (Nat × Int × Int)}
theorem Kb.nw (h : Kb bx w v it u K) (k : Nw w w') : Kb bx w' v it u K := fun q hq => by
 obtain ⟨h1, h2, h3, h4⟩ := h q hq
 have hb : q.1 < w.heap.size := World.block_lt_of_cell? w ⟨q.1, 0, none⟩ h1
 exact ⟨((bcell k).1 _ _ hb).trans h1, ((bcell k).1 _ _ hb).trans h2, fun o => ((bcell k).2 _ _ hb).trans (h3 o), h4⟩
theorem Kb.set (h : Kb bx w v it u K) (o : Nat) (x : Value) : Kb bx (w.setCell ⟨bx, o, none⟩ x) v it u K := fun q hq => by
 obtain ⟨h1, h2, h3, h4, h5⟩ := h q hq
 exact ⟨by rw [World.cell?_setCell_other _ _ _ _ (fun e => by injection e; omega)]; exact h1, by rw [World.cell?_setCell_other _ _ _ _ (fun e => by injection e; omega)]; exact h2, fun o => by rw [World.frozen?_setCell]; exact h3 o, h4, h5⟩
theorem Kb.pput {u' : Value} (h : Kb bx w v it u K) (x : Ext u u' w w') : Kb bx w' v it u' K := fun q hq => by
 obtain ⟨h1, h2, h3, h4, h5, h6⟩ := h q hq
 have hb : q.1 < w.heap.size := World.block_lt_of_cell? w ⟨q.1, 0, none⟩ h1
 exact ⟨(Ext.cell x hb h5 0).trans h1, (Ext.cell x hb h5 1).trans h2, fun o => (World.frozen?_of_block (a := ⟨q.1, o, none⟩) (x.1.block q.1 hb (fun e => h5 e.symm))).trans (h3 o), h4, Ext.apart x hb h5, h6⟩
theorem Kb.lput {v' : Value} {ld : LD} (h : Kb bx w v it u K) (x : Ext v v' w w') : Kb bx w' v' (it ++ [(u, ld)]) u K := fun q hq => by
 obtain ⟨h1, h2, h3, h4, h5, h6, h7⟩ := h q hq
 have hb : q.1 < w.heap.size := World.block_lt_of_cell? w ⟨q.1, 0, none⟩ h1
 exact ⟨(Ext.cell x hb h6 0).trans h1, (Ext.cell x hb h6 1).trans h2, fun o => (World.frozen?_of_block (a := ⟨q.1, o, none⟩) (x.1.block q.1 hb (fun e => h6 e.symm))).trans (h3 o), h4, h5, Ext.apart x hb h6, fun i hi => by
  rw [List.length_append, List.length_singleton] at hi
  by_cases e : i = it.length
  ·subst e; rw [itAt_new]; exact h5
  ·rw [itAt_old it _ i (by omega)]; exact h7 i (by omega)⟩
theorem Kb.drop (h : Kb bx w v it u K) : Kb bx w v it (.slice none 0 0) K := fun q hq => by
 obtain ⟨h1, h2, h3, h4, h5, h6⟩ := h q hq
 exact ⟨h1, h2, h3, h4, (fun e => by cases e), h6⟩
theorem Kb.sub {K' : List (Nat × Int × Int)} (h : Kb bx w v it u K) (hs : ∀ k, k ∈ K' → k ∈ K) : Kb bx w v it u K' := fun q hq => h q (hs q hq)
theorem Kb.box (h : Kb bx w v it u K) (hb : bx < w.heap.size) (hu : ∀ g, u.ownBlock = some g → g < w.heap.size) (hv : ∀ g, v.ownBlock = some g → g < w.heap.size) (hi : ∀ i, i < it.length → ∀ g, (itAt it i).1.ownBlock = some g → g < w.heap.size) (x y : Int) (t : TypeId) : Kb bx (w.alloc (.cells #[.int .i64 x, .int .i64 y] t)) v it u ((w.heap.size, x, y) :: K) := fun q hq => by
 rcases List.mem_cons.1 hq with rfl | hq
 ·exact ⟨World.cell?_alloc_at _ _ _ _ rfl, World.cell?_alloc_at _ _ _ _ rfl, fun o => World.frozen?_alloc_at _ _ _ _ rfl, by show w.heap.size ≠ bx; omega, fun e => by have := hu _ e; simp at this, (fun e => by have := hv _ e; simp at this), fun i hj e => by have := hi i hj _ e; simp at this⟩
 ·exact Kb.nw h ((Below.refl _ _).alloc (Nat.le_refl _) _) q hq
end
def DhS (bx : Nat) (w0 w : World) (K : List (Nat × Int × Int)) (na : Option Addr) (nc : Nat) (ns : List Int) (d : Dg) : Prop := ∃ v it u, DH bx w (.slice na ns.length nc) d.at' d.left d.begun v it u d.p ∧ it.map (·.2) = d.o ∧ Nw w0 w ∧ Kb bx w v it u K
theorem DhS.box {bx : Nat} {w0 w : World} {K : List (Nat × Int × Int)} {na : Option Addr} {nc : Nat} {ns : List Int} {d : Dg} (h : DhS bx w0 w K na nc ns d) (x y : Int) (t : TypeId) : DhS bx w0 (w.alloc (.cells #[.int .i64 x, .int .i64 y] t)) ((w.heap.size, x, y) :: K) na nc ns d := by
 obtain ⟨v, it, u, hd, ho, hw, hk⟩ := h
 have n1 : Nw w (w.alloc (.cells #[.int .i64 x, .int .i64 y] t)) := (Below.refl _ _).alloc (Nat.le_refl _) _
 exact ⟨v, it, u, hd.nw n1, ho, Nw.trans hw n1, hk.box hd.lt (fun g e => (OwnQ.lt hd.d.pt g e).2) (fun g e => (OwnQ.lt hd.d.ln.own g e).2) (fun i hi g e => (OwnQ.lt (hd.d.ln.pts i hi) g e).2) x y t⟩
theorem DhS.sub {bx : Nat} {w0 w : World} {K K' : List (Nat × Int × Int)} {na : Option Addr} {nc : Nat} {ns : List Int} {d : Dg} (h : DhS bx w0 w K na nc ns d) (hs : ∀ k, k ∈ K' → k ∈ K) : DhS bx w0 w K' na nc ns d := by
 obtain ⟨v, it, u, hd, ho, hw, hk⟩ := h
 exact ⟨v, it, u, hd, ho, hw, hk.sub hs⟩
theorem DhS.nw {bx : Nat} {w0 w w' : World} {K : List (Nat × Int × Int)} {na : Option Addr} {nc : Nat} {ns : List Int} {d : Dg} (h : DhS bx w0 w K na nc ns d) (k : Nw w w') : DhS bx w0 w' K na nc ns d := by
 obtain ⟨v, it, u, hd, ho, hw, hk⟩ := h
 exact ⟨v, it, u, hd.nw k, ho, Nw.trans hw k, hk.nw k⟩
theorem DhS.at {bx : Nat} {w0 w : World} {K : List (Nat × Int × Int)} {na : Option Addr} {nc : Nat} {ns : List Int} {d : Dg} (h : DhS bx w0 w K na nc ns d) {b : Nat} {x y : Int} (hm : (b, x, y) ∈ K) : w.cell? ⟨b, 0, none⟩ = some (.int .i64 x) ∧ w.cell? ⟨b, 1, none⟩ = some (.int .i64 y) := by
 obtain ⟨v, it, u, hd, ho, hw, hk⟩ := h
 obtain ⟨h1, h2, _⟩ := hk _ hm
 exact ⟨h1, h2⟩
theorem D2.off {w : World} {B : Nat} {v u : Value} {it : Its} {p : List Pnt} (h : D2 w B v it u p) (b o : Nat) (x : Value) (hu : u.ownBlock ≠ some b) (hv : v.ownBlock ≠ some b) (hi : ∀ i, i < it.length → (itAt it i).1.ownBlock ≠ some b) : D2 (w.setCell ⟨b, o, none⟩ x) B v it u p :=
 ⟨⟨OwnQ.far h.ln.own b o x hv, fun i hj => OwnQ.far (h.ln.pts i hj) b o x (hi i hj), h.ln.far, h.ln.apart⟩, OwnQ.far h.pt b o x hu, h.ap⟩
theorem DH.off {bx : Nat} {w : World} {nv : Value} {a l b : Int} {v u : Value} {it : Its} {p : List Pnt} (h : DH bx w nv a l b v it u p) (c o : Nat) (x : Value) (hc : c ≠ bx) (hu : u.ownBlock ≠ some c) (hv : v.ownBlock ≠ some c) (hi : ∀ i, i < it.length → (itAt it i).1.ownBlock ≠ some c) : DH bx (w.setCell ⟨c, o, none⟩ x) nv a l b v it u p := by
 have e : ∀ q, (w.setCell ⟨c, o, none⟩ x).cell? ⟨bx, q, none⟩ = w.cell? ⟨bx, q, none⟩ := fun q => World.cell?_setCell_other _ _ _ _ (fun e => by injection e; omega)
 exact ⟨(e _).trans h.c0, (e _).trans h.c1, (e _).trans h.c2, (e _).trans h.c3, (e _).trans h.c4, (e _).trans h.c5, fun o => by rw [World.frozen?_setCell]; exact h.free o, h.d.off c o x hu hv hi⟩
theorem DhS.move {bx : Nat} {w0 w : World} {na : Option Addr} {nc : Nat} {ns : List Int} {d : Dg} {b : Nat} {x y : Int} (h : DhS bx w0 w [(b, x, y)] na nc ns d) (hb : w0.heap.size ≤ b) (x' y' : Int) : DhS bx w0 ((w.setCell ⟨b, 0, none⟩ (.int .i64 x')).setCell ⟨b, 1, none⟩ (.int .i64 y')) [(b, x', y')] na nc ns d := by
 obtain ⟨v, it, u, hd, ho, hw, hk⟩ := h
 obtain ⟨k1, k2, k3, k4, k5, k6, k7⟩ := hk _ (List.mem_cons_self ..)
 simp only at k1 k2 k3 k4 k5 k6 k7
 have s1 : (w.setCell ⟨b, 0, none⟩ (.int .i64 x')).cell? ⟨b, 1, none⟩ = some (.int .i64 y) := by
  rw [World.cell?_setCell_other _ _ _ _ (fun e => by injection e; omega)]; exact k2
 refine ⟨v, it, u, (hd.off b 0 _ k4 k5 k6 k7).off b 1 _ k4 k5 k6 k7, ho, (hw.setCell hb _).setCell hb _, fun q hq => ?_⟩
 obtain rfl := List.mem_singleton.1 hq
 refine ⟨?_, World.cell?_setCell_same _ ⟨b, 1, none⟩ _ s1, fun o => by rw [World.frozen?_setCell, World.frozen?_setCell]; exact k3 o, k4, k5, k6, k7⟩
 show ((w.setCell ⟨b, 0, none⟩ (.int .i64 x')).setCell ⟨b, 1, none⟩ (.int .i64 y')).cell? ⟨b, 0, none⟩ = some (.int .i64 x')
 rw [World.cell?_setCell_other _ _ _ _ (fun e => by injection e; omega)]
 exact World.cell?_setCell_same w ⟨b, 0, none⟩ _ k1
theorem DhS.new (w : World) (na : Option Addr) (nc : Nat) (ns : List Int) (x : Int) (t : TypeId) : DhS w.heap.size w (w.alloc (.cells #[.slice na ns.length nc, .int .i64 0, .int .i64 x, .int .i64 0, .slice none 0 0, .slice none 0 0] t)) [] na nc ns ⟨0, x, 0, [], []⟩ :=
 ⟨.slice none 0 0, [], .slice none 0 0, ⟨World.cell?_alloc_at _ _ _ _ rfl, World.cell?_alloc_at _ _ _ _ rfl, World.cell?_alloc_at _ _ _ _ rfl, World.cell?_alloc_at _ _ _ _ rfl, World.cell?_alloc_at _ _ _ _ rfl, World.cell?_alloc_at _ _ _ _ rfl, fun o => World.frozen?_alloc_at _ _ _ _ rfl, D2.nil _ _⟩, rfl, (Below.refl _ _).alloc (Nat.le_refl _) _, fun q hq => absurd hq (by simp)⟩
theorem DhS.of {bx : Nat} {w0 w : World} {K : List (Nat × Int × Int)} {na : Option Addr} {nc : Nat} {ns : List Int} {d : Dg} {v u : Value} {it : Its} {a l b : Int} {p : List Pnt} (h : DH bx w (.slice na ns.length nc) a l b v it u p) (h2 : it.map (·.2) = d.o) (h3 : Nw w0 w) (ha : a = d.at') (hl : l = d.left) (hb : b = d.begun) (hp : p = d.p) (hk : Kb bx w v it u K) : DhS bx w0 w K na nc ns d := by
 subst ha hl hb hp
 exact ⟨v, it, u, h, h2, h3, hk⟩
set_option maxRecDepth 100000 in
set_option maxHeartbeats 4000000 in
theorem inext (w0 w : World) (bx : Nat) (K : List (Nat × Int × Int)) (na : Option Addr) (nc : Nat) (ns : List Int) (d : Dg) (hb0 : w0.heap.size ≤ bx) (hn : 0 < ns.length) (ha : d.at' ≤ 1000000) (hI : Ints w0 na ns) (h : DhS bx w0 w K na nc ns d) :
  Calls Tryz.prog 59 #[.pointer (some ⟨bx, 0, none⟩)] w fun e w' => e = .returned (.tuple #[]) ∧ DhS bx w0 w' K na nc ns (nextD ns d) := by
 obtain ⟨v, it, u, hd, ho, hw, hkb⟩ := h
 have HO : Hid (it.map (·.2) = d.o) := ho
 have HW : Hid (Nw w0 w) := hw
 obtain ⟨at', left, begun, p, o⟩ := d
 simp only at ha hd ho HO
 have c1 := hd.c1
 have fr := hd.free
 obtain ⟨s1, s2⟩ := hd.setA ((at' : Int) + 1)
 obtain ⟨W1, hW1⟩ : ∃ W1, w.setCell ⟨bx, 1, none⟩ (.int .i64 ((at' : Int) + 1)) = W1 := ⟨_, rfl⟩
 rw [hW1] at s1 s2
 have S1 : Hid _ := s1
 have N1 : Hid (Nw w0 W1) := Below.trans hw (Below.mono s2 hb0)
 have hm : (at' + 1) % ns.length < ns.length := Nat.mod_lt _ hn
 have hrm : (((at' + 1 : Nat) : Int)).tmod (ns.length : Int) = (((at' + 1) % ns.length : Nat) : Int) := by
  rw [Int.tmod_eq_emod_of_nonneg (by omega)]
  first | exact (Int.natCast_emod _ _).symm | rfl
 obtain ⟨nb, no, hna, hcx⟩ : ∃ nb no, na = some ⟨nb, no, none⟩ ∧ W1.cell? ⟨nb, no + (at' + 1) % ns.length, none⟩ = some (.int .i64 (intAt ns ((at' + 1) % ns.length))) := by
  rcases Ints.nw hI N1.out with hx | ⟨b, off, rfl, _, hc⟩
  ·rw [hx] at hn; simp at hn
  ·exact ⟨b, off, rfl, hc _ hm⟩
 subst hna
 have HNX : Hid (nextD ns ⟨at', left, begun, p, o⟩ = ⟨at' + 1, intAt ns ((at' + 1) % ns.length), begun, p, o⟩) := rfl
 have HM : Hid (DH bx (W1.drew.setCell ⟨bx, 2, none⟩ (.int .i64 (intAt ns ((at' + 1) % ns.length)))) _ _ _ _ _ _ _ _ ∧ _) := DH.setL (DH.nw s1 ((Below.refl _ _).drew)) _
 have n0 : Nw W1 W1.drew := (Below.refl _ _).drew
 have s1d := DH.nw s1 n0
 have hcx' : W1.drew.cell? ⟨nb, no + (at' + 1) % ns.length, none⟩ = _ := hcx
 have HW1 : Hid (_ = W1) := hW1
 have ND : Hid (Nw w0 W1.drew) := Nw.trans N1.out n0
 have HF : Hid _ := s1d
 have HKB : Hid (Kb bx (W1.drew.setCell ⟨bx, 2, none⟩ (.int .i64 (intAt ns ((at' + 1) % ns.length)))) v it u K) := by
  have := Kb.set hkb 1 (.int .i64 ((at' : Int) + 1))
  rw [hW1] at this
  exact Kb.set (Kb.nw this n0) 2 _
 have HX : Hid _ := hcx'
 clear hkb hcx hcx' s1 s2 s1d hd ho hI n0 hW1 hw
 generalize intAt ns ((at' + 1) % ns.length) = x at *
 generalize hmm : (at' + 1) % ns.length = m at *
 generalize hnn : ns.length = n at *
 go_enter Tryz.func59, Tryz.ntmps59
 go_wp2
 rw [HW1.out]
 refine reg_change (ops' := opsOf 1 Tryz.f59) (by kernel_rfl) ?_
 refine NXR.run ⟨bx, nb, no, n, nc, at' + 1, m, x, W1.drew, _⟩ ⟨HF.out.c0, by simpa using HF.out.c1, hrm, by show n ≠ 0; omega, hm, HX.out, ⟨_, HF.out.c2⟩, HF.out.free, rfl, rfl⟩ W1 rfl ?_
 rintro γ w9 hw9
 have hw9 : w9 = W1.drew.setCell ⟨bx, 2, none⟩ (.int .i64 x) := hw9
 have HM2 := HM.out
 rw [← hw9] at HM2
 have HM3 : Hid _ := HM2
 have HK2 := HKB.out
 rw [← hw9] at HK2
 have HK3 : Hid _ := HK2
 clear HM2 hw9 HK2 HKB
 simp only [Act.put, List.setIfInBounds_toArray, List.set_cons_zero, List.set_cons_succ]
 go_wp2
 go_end0
 refine ⟨rfl, ?_⟩
 rw [HNX.out]
 exact DhS.of (d := ⟨at' + 1, x, begun, p, o⟩) (by rw [hnn]; exact HM3.out.1) HO.out (Below.trans ND.out (Below.mono HM3.out.2 hb0)) (by simp) rfl rfl rfl HK3.out
theorem rD_skip {d : Dg} {q : Pnt} (h : skipB d q = true) : reachD d q = d := by unfold reachD; rw [if_pos h]
theorem rD_add {d : Dg} {q : Pnt} (h : skipB d q = false) : reachD d q = ⟨d.at', d.left, d.begun, d.p ++ [q], d.o⟩ := by unfold reachD; rw [h]; rfl
set_option maxRecDepth 100000 in
set_option maxHeartbeats 8000000 in
theorem ireach (w0 w : World) (bx : Nat) (K : List (Nat × Int × Int)) (na : Option Addr) (nc : Nat) (ns : List Int) (d : Dg) (x y : Int) (hb0 : w0.heap.size ≤ bx) (hpl : d.p.length ≤ 100000) (h : DhS bx w0 w K na nc ns d) :
  Calls Tryz.prog 32 #[.pointer (some ⟨bx, 0, none⟩), .agg #[.int .i64 x, .int .i64 y]] w fun e w' => e = .returned (.tuple #[]) ∧ DhS bx w0 w' K na nc ns (reachD d (x, y)) := by
 obtain ⟨v, it, u, hd, ho, hw, hkb⟩ := h
 have HO : Hid (it.map (·.2) = d.o) := ho
 obtain ⟨at', left, begun, p, o⟩ := d
 simp only at hd ho HO hpl
 have HPL : Hid (p.length ≤ 100000) := hpl
 obtain ⟨ua, uc, hu⟩ := D2.val hd.d
 subst hu
 obtain ⟨W1, hW1⟩ : ∃ W1, w.alloc (.cells #[.int .i64 x, .int .i64 y] 34) = W1 := ⟨_, rfl⟩
 have n1 : Nw w W1 := by rw [← hW1]; exact (Below.refl _ _).alloc (Nat.le_refl _) _
 have N1 : Hid (Nw w0 W1) := Nw.trans hw n1
 have hd1 := DH.nw hd n1
 obtain ⟨bq, hbq⟩ : ∃ bq, w.heap.size = bq := ⟨_, rfl⟩
 have HQ : Hid (W1.cell? ⟨bq, 0, none⟩ = some (.int .i64 x) ∧ W1.cell? ⟨bq, 1, none⟩ = some (.int .i64 y)) := by
  show _ ∧ _
  rw [← hW1, ← hbq]
  exact ⟨by simp, by simp⟩
 have LQ : Hid (bq < W1.heap.size) := World.block_lt_of_cell? W1 ⟨bq, 0, none⟩ HQ.out.1
 have HW1 : Hid (_ = W1) := hW1
 have HBQ : Hid (w.heap.size = bq) := hbq
 have n0 : Nw W1 W1.drew := (Below.refl _ _).drew
 have CD : Hid _ := DH.nw hd1 n0
 have QD : Hid (W1.drew.cell? ⟨bq, 0, none⟩ = some (.int .i64 x) ∧ W1.drew.cell? ⟨bq, 1, none⟩ = some (.int .i64 y)) := HQ.out
 have HLL : Hid (0 < p.length → ∃ g, ua = some ⟨g, 0, none⟩ ∧ W1.drew.cell? ⟨g, (p.length - 1) * 2, none⟩ = some (.int .i64 (lastP p).1) ∧ W1.drew.cell? ⟨g, (p.length - 1) * 2 + 1, none⟩ = some (.int .i64 (lastP p).2)) := fun h0 => by
  rcases OwnP.lay CD.out.d.pt with ⟨_, e⟩ | ⟨g, c, e, h1, h2⟩
  ·rw [e] at h0; simp at h0
  ·injection e with e1 e2 e3
   refine ⟨g, e1, ?_⟩
   rcases h2.pts with hx | ⟨b, off, e, _, hc⟩
   ·rw [hx] at h0; simp at h0
   ·injection e with e; injection e with e4 e5
    subst e4 e5
    have := hc (p.length - 1) (by omega)
    unfold lastP
    simpa using this
 have hwm : 0 < p.length → IntKind.i64.wrap ((p.length : Int) - 1) = ((p.length - 1 : Nat) : Int) := fun h0 => by rw [IntWalk.i64_in _ ⟨by omega, by omega⟩]; omega
 have htm : ((at' : Int)).tmod 2 = ((at' % 2 : Nat) : Int) := by
  rw [Int.tmod_eq_emod_of_nonneg (by omega)]
  first | exact (Int.natCast_emod _ _).symm | rfl
 have HSK : Hid (skipB ⟨at', left, begun, p, o⟩ (x, y) = (decide (at' % 2 = 1) || (decide (0 < p.length) && decide (lastP p = (x, y))))) := rfl
 generalize hrd : reachD ⟨at', left, begun, p, o⟩ (x, y) = R
 have HRD : Hid (reachD ⟨at', left, begun, p, o⟩ (x, y) = R) := hrd
 clear hrd
 have HKB1 : Hid (Kb bx W1 v it (.slice ua p.length uc) K) := Kb.nw hkb n1
 have HD1 : Hid (DH bx W1 (.slice na ns.length nc) at' left begun v it (.slice ua p.length uc) p) := hd1
 clear hkb hd hd1 ho hw n1 n0 hW1 hbq hpl
 generalize hnp : p.length = np at *
 have HNP : Hid (p.length = np) := hnp
 generalize hnn : ns.length = n at *
 have HN : Hid (ns.length = n) := hnn
 clear hnp hnn
 by_cases hg : at' % 2 = 1
 ·have hg1 : decide ((at' : Int).tmod 2 = 1) = true := by rw [htm]; simp; omega
  have HRE : Hid (R = ⟨at', left, begun, p, o⟩) := by
   show _ = _
   rw [← HRD.out]
   exact rD_skip (by rw [HSK.out, decide_eq_true hg]; rfl)
  clear htm hwm hg
  go_enter Tryz.func32, Tryz.ntmps32
  go_wp2
  rw [HW1.out, HBQ.out]
  refine reg_change (ops' := opsOf 1 Tryz.f32) (by kernel_rfl) ?_
  refine RCA.run ⟨bx, bq, x, y, at', W1.drew, _⟩ ⟨QD.out.1, QD.out.2, CD.out.c1, hg1, rfl, rfl, rfl⟩ W1 (Kp.refl _) ?_
  rintro γ w9 k9
  have K9 : Hid (Nw W1 w9) := Nw.trans ((Below.refl _ _).drew) k9.nw
  clear k9
  simp only [Act.put, List.setIfInBounds_toArray, List.set_cons_zero, List.set_cons_succ]
  generalize γ 0 = z0 at *
  generalize γ 1 = z1 at *
  go_wp2
  (try simp only [Exit.inBlock, Exit.then])
  refine bodyPost_ret (results_none rfl _ _ _) rfl ?_
  refine ⟨rfl, ?_⟩
  rw [HRE.out]
  exact DhS.of (d := ⟨at', left, begun, p, o⟩) (by rw [HN.out]; exact DH.nw HD1.out K9.out) HO.out (Nw.trans N1.out K9.out) rfl rfl rfl rfl (Kb.nw HKB1.out K9.out)
 ·have hg1 : decide ((at' : Int).tmod 2 = 1) = false := by rw [htm]; simp; omega
  have HG : Hid (¬ at' % 2 = 1) := hg
  by_cases h0 : 0 < np
  ·obtain ⟨g, hua, px, py⟩ := HLL.out h0
   subst hua
   by_cases he : lastP p = (x, y)
   ·have HRE : Hid (R = ⟨at', left, begun, p, o⟩) := by
     show _ = _
     rw [← HRD.out]
     exact rD_skip (by rw [HSK.out, decide_eq_true h0, decide_eq_true he]; simp)
    rw [he] at px py
    simp only at px py
    have hwm' := hwm h0
    have PP : Hid (W1.drew.cell? ⟨g, (np - 1) * 2, none⟩ = some (.int .i64 x) ∧ W1.drew.cell? ⟨g, (np - 1) * 2 + 1, none⟩ = some (.int .i64 y)) := ⟨px, py⟩
    clear htm hwm hg he px py
    go_enter Tryz.func32, Tryz.ntmps32
    go_wp2
    rw [HW1.out, HBQ.out]
    refine reg_change (ops' := opsOf 1 Tryz.f32) (by kernel_rfl) ?_
    refine RCC.run ⟨bx, bq, x, y, at', g, np, np - 1, uc, W1.drew, _⟩ ⟨QD.out.1, QD.out.2, CD.out.c4, CD.out.c1, hg1, h0, hwm', by show np - 1 < np; omega, PP.out.1, PP.out.2, rfl, rfl, rfl⟩ W1 (Kp.refl _) ?_
    rintro γ w9 k9
    have K9 : Hid (Nw W1 w9) := Nw.trans ((Below.refl _ _).drew) k9.nw
    clear k9
    simp only [Act.put, List.setIfInBounds_toArray, List.set_cons_zero, List.set_cons_succ]
    generalize γ 0 = z0 at *
    generalize γ 1 = z1 at *
    go_wp2
    (try simp only [Exit.inBlock, Exit.then])
    refine bodyPost_ret (results_none rfl _ _ _) rfl ?_
    refine ⟨rfl, ?_⟩
    rw [HRE.out]
    exact DhS.of (d := ⟨at', left, begun, p, o⟩) (by rw [HN.out]; exact DH.nw HD1.out K9.out) HO.out (Nw.trans N1.out K9.out) rfl rfl rfl rfl (Kb.nw HKB1.out K9.out)
   ·have HRE : Hid (R = ⟨at', left, begun, p ++ [(x, y)], o⟩) := by
     show _ = _
     rw [← HRD.out]
     exact rD_add (by rw [HSK.out, decide_eq_false HG.out, decide_eq_false he]; simp)
    have hwm' := hwm h0
    have hv : (lastP p).1 = x → ¬ (lastP p).2 = y := fun h1 h2 => he (by rw [← h1, ← h2])
    have PP : Hid (W1.drew.cell? ⟨g, (np - 1) * 2, none⟩ = some (.int .i64 (lastP p).1) ∧ W1.drew.cell? ⟨g, (np - 1) * 2 + 1, none⟩ = some (.int .i64 (lastP p).2)) := ⟨px, py⟩
    clear htm hwm hg he px py
    generalize (lastP p).1 = lx at *
    generalize (lastP p).2 = ly at *
    obtain ⟨ua, hua⟩ : ∃ ua, (some ⟨g, 0, none⟩ : Option Addr) = ua := ⟨_, rfl⟩
    go_enter Tryz.func32, Tryz.ntmps32
    go_wp2
    rw [HW1.out, HBQ.out]
    refine reg_change (ops' := opsOf 1 Tryz.f32) (by kernel_rfl) ?_
    refine RCD.run ⟨bx, bq, x, y, at', g, np, np - 1, uc, lx, ly, W1.drew, _⟩ ⟨QD.out.1, QD.out.2, CD.out.c4, CD.out.c1, hg1, h0, hwm', by show np - 1 < np; omega, PP.out.1, PP.out.2, hv, rfl, rfl, rfl⟩ W1 (Kp.refl _) ?_
    rw [hua] at HD1 CD HKB1
    rintro γ w9 k9
    have K9 : Hid (Nw W1 w9) := Nw.trans ((Below.refl _ _).drew) k9.nw
    have n9 : Nw w9 w9.drew := (Below.refl _ _).drew
    have D9 : Hid (DH bx w9.drew (.slice na n nc) at' left begun v it (.slice ua np uc) p) := DH.nw HD1.out (Nw.trans K9.out n9)
    have Q9 : Hid (w9.drew.cell? ⟨bq, 0, none⟩ = some (.int .i64 x) ∧ w9.drew.cell? ⟨bq, 1, none⟩ = some (.int .i64 y)) := ⟨((bcell (Nw.trans K9.out n9)).1 _ _ LQ.out).trans HQ.out.1, ((bcell (Nw.trans K9.out n9)).1 _ _ LQ.out).trans HQ.out.2⟩
    have KB9 : Hid (Kb bx w9.drew v it (.slice ua np uc) K) := Kb.nw HKB1.out (Nw.trans K9.out n9)
    have N9 : Hid (Nw w0 w9.drew) := Nw.trans N1.out (Nw.trans K9.out n9)
    have HA : Hid (Calls Tryz.prog 61 #[.pointer (some ⟨bx, 4, none⟩), .slice (some ⟨w9.drew.heap.size, 0, none⟩) 1 1] (w9.drew.alloc (.cells #[.int .i64 x, .int .i64 y] 34)) fun e w' => e = .returned (.tuple #[]) ∧ ∃ u', DH bx w' (.slice na n nc) at' left begun v it u' (p ++ [(x, y)]) ∧ Nw w0 w' ∧ Kb bx w' v it u' K) := by
     have n1 : Nw w9.drew (w9.drew.alloc (.cells #[.int .i64 x, .int .i64 y] 34)) := (Below.refl _ _).alloc (Nat.le_refl _) _
     have D1 := DH.nw D9.out n1
     refine (iaddP _ bx 4 (bx + 1) (.slice ua np uc) p [(x, y)] w9.drew.heap.size 0 1 1 rfl D1.c4 (D1.free 4) D1.d.pt (liep_one w9.drew x y _) (by simp) (by have := HPL.out; have := HNP.out; simp; omega) (by have := D1.lt; omega) D1.neu).mono ?_
     rintro e w' ⟨rfl, g', c', w2, k1, k2, rfl⟩
     obtain ⟨d1, d2⟩ := DH.pput D1 k2 k1
     exact ⟨rfl, _, d1, Below.trans (Nw.trans N9.out n1) (Below.mono d2 hb0), Kb.set (Kb.pput (Kb.nw KB9.out n1) k2) 4 _⟩
    clear k9 n9
    simp only [Act.put, List.setIfInBounds_toArray, List.set_cons_zero, List.set_cons_succ]
    generalize γ 0 = z0 at *
    generalize γ 1 = z1 at *
    go_wp2
    refine reg_change (ops' := opsOf 2 Tryz.f32) (by kernel_rfl) ?_
    refine RC2.run ⟨bx, bq, x, y, fun w' => ∃ u', DH bx w' (.slice na n nc) at' left begun v it u' (p ++ [(x, y)]) ∧ Nw w0 w' ∧ Kb bx w' v it u' K, w9.drew, _⟩ ⟨Q9.out.1, Q9.out.2, HA.out, rfl, rfl, rfl⟩ w9 rfl ?_
    rintro γ2 w10 h10
    have H10 : Hid (∃ u', DH bx w10 (.slice na n nc) at' left begun v it u' (p ++ [(x, y)]) ∧ Nw w0 w10 ∧ Kb bx w10 v it u' K) := h10
    clear h10
    simp only [Act.put, List.setIfInBounds_toArray, List.set_cons_zero, List.set_cons_succ]
    generalize γ2 0 = z2 at *
    generalize γ2 1 = z3 at *
    go_wp2
    go_end0
    refine ⟨rfl, ?_⟩
    rw [HRE.out]
    obtain ⟨u', d1, d2, d3⟩ := H10.out
    exact DhS.of (d := ⟨at', left, begun, p ++ [(x, y)], o⟩) (by rw [HN.out]; exact d1) HO.out d2 rfl rfl rfl rfl d3
  ·have HRE : Hid (R = ⟨at', left, begun, p ++ [(x, y)], o⟩) := by
    show _ = _
    rw [← HRD.out]
    exact rD_add (by rw [HSK.out, decide_eq_false HG.out, decide_eq_false h0]; rfl)
   have hnp0 : np = 0 := by omega
   subst hnp0
   clear htm hwm hg
   go_enter Tryz.func32, Tryz.ntmps32
   go_wp2
   rw [HW1.out, HBQ.out]
   refine reg_change (ops' := opsOf 1 Tryz.f32) (by kernel_rfl) ?_
   refine RCB.run ⟨bx, bq, x, y, at', ua, uc, W1.drew, _⟩ ⟨QD.out.1, QD.out.2, CD.out.c4, CD.out.c1, hg1, rfl, rfl, rfl⟩ W1 (Kp.refl _) ?_
   rintro γ w9 k9
   have K9 : Hid (Nw W1 w9) := Nw.trans ((Below.refl _ _).drew) k9.nw
   have n9 : Nw w9 w9.drew := (Below.refl _ _).drew
   have D9 : Hid (DH bx w9.drew (.slice na n nc) at' left begun v it (.slice ua 0 uc) p) := DH.nw HD1.out (Nw.trans K9.out n9)
   have Q9 : Hid (w9.drew.cell? ⟨bq, 0, none⟩ = some (.int .i64 x) ∧ w9.drew.cell? ⟨bq, 1, none⟩ = some (.int .i64 y)) := ⟨((bcell (Nw.trans K9.out n9)).1 _ _ LQ.out).trans HQ.out.1, ((bcell (Nw.trans K9.out n9)).1 _ _ LQ.out).trans HQ.out.2⟩
   have KB9 : Hid (Kb bx w9.drew v it (.slice ua 0 uc) K) := Kb.nw HKB1.out (Nw.trans K9.out n9)
   have N9 : Hid (Nw w0 w9.drew) := Nw.trans N1.out (Nw.trans K9.out n9)
   have HA : Hid (Calls Tryz.prog 61 #[.pointer (some ⟨bx, 4, none⟩), .slice (some ⟨w9.drew.heap.size, 0, none⟩) 1 1] (w9.drew.alloc (.cells #[.int .i64 x, .int .i64 y] 34)) fun e w' => e = .returned (.tuple #[]) ∧ ∃ u', DH bx w' (.slice na n nc) at' left begun v it u' (p ++ [(x, y)]) ∧ Nw w0 w' ∧ Kb bx w' v it u' K) := by
    have n1 : Nw w9.drew (w9.drew.alloc (.cells #[.int .i64 x, .int .i64 y] 34)) := (Below.refl _ _).alloc (Nat.le_refl _) _
    have D1 := DH.nw D9.out n1
    refine (iaddP _ bx 4 (bx + 1) (.slice ua 0 uc) p [(x, y)] w9.drew.heap.size 0 1 1 rfl D1.c4 (D1.free 4) D1.d.pt (liep_one w9.drew x y _) (by simp) (by have := HPL.out; have := HNP.out; simp; omega) (by have := D1.lt; omega) D1.neu).mono ?_
    rintro e w' ⟨rfl, g', c', w2, k1, k2, rfl⟩
    obtain ⟨d1, d2⟩ := DH.pput D1 k2 k1
    exact ⟨rfl, _, d1, Below.trans (Nw.trans N9.out n1) (Below.mono d2 hb0), Kb.set (Kb.pput (Kb.nw KB9.out n1) k2) 4 _⟩
   clear k9 n9
   simp only [Act.put, List.setIfInBounds_toArray, List.set_cons_zero, List.set_cons_succ]
   generalize γ 0 = z0 at *
   generalize γ 1 = z1 at *
   go_wp2
   refine reg_change (ops' := opsOf 2 Tryz.f32) (by kernel_rfl) ?_
   refine RC2.run ⟨bx, bq, x, y, fun w' => ∃ u', DH bx w' (.slice na n nc) at' left begun v it u' (p ++ [(x, y)]) ∧ Nw w0 w' ∧ Kb bx w' v it u' K, w9.drew, _⟩ ⟨Q9.out.1, Q9.out.2, HA.out, rfl, rfl, rfl⟩ w9 rfl ?_
   rintro γ2 w10 h10
   have H10 : Hid (∃ u', DH bx w10 (.slice na n nc) at' left begun v it u' (p ++ [(x, y)]) ∧ Nw w0 w10 ∧ Kb bx w10 v it u' K) := h10
   clear h10
   simp only [Act.put, List.setIfInBounds_toArray, List.set_cons_zero, List.set_cons_succ]
   generalize γ2 0 = z2 at *
   generalize γ2 1 = z3 at *
   go_wp2
   go_end0
   refine ⟨rfl, ?_⟩
   rw [HRE.out]
   obtain ⟨u', d1, d2, d3⟩ := H10.out
   exact DhS.of (d := ⟨at', left, begun, p ++ [(x, y)], o⟩) (by rw [HN.out]; exact d1) HO.out d2 rfl rfl rfl rfl d3
theorem under_llnsD : Tryz.prog.underlying 65 = some (.slice 25) := by kernel_rfl
theorem one_lineD {w : World} {B : Nat} {u : Value} {ld : LD} {l : List Pnt} (h : OwnP w B u l) : ∀ x ∈ flat2 (vLn [(u, ld)]), x.oneCell' = true := by
 obtain ⟨a, n, c, rfl⟩ := OwnQ.slice h
 intro x hx
 simp only [vLn, List.map_cons, List.map_nil, flat2, List.mem_cons, List.not_mem_nil, or_false] at hx
 rcases hx with rfl | rfl <;> rfl
set_option maxHeartbeats 1000000 in
theorem iaddLn (w : World) (b o B : Nat) (v : Value) (it : Its) (u : Value) (ld : LD) (g : Nat) (hbox : w.cell? ⟨b, o, none⟩ = some v) (hfr : w.frozen? ⟨b, o, none⟩ = false) (hown : OwnQ 25 w B v (vLn it)) (hu : OwnP w B u ld.pts)
  (h0 : w.cell? ⟨g, 0, none⟩ = some u) (h1 : w.cell? ⟨g, 1, none⟩ = some (.bool ld.closed)) (hlen : it.length + 1 ≤ 1000000) (hB : B ≤ w.heap.size) (hne : v.ownBlock ≠ some b) :
  Calls Tryz.prog 44 #[.pointer (some ⟨b, o, none⟩), .slice (some ⟨g, 0, none⟩) 1 1] w fun e w' => e = .returned (.tuple #[]) ∧ ∃ v' w1, OwnQ 25 w1 B v' (vLn (it ++ [(u, ld)])) ∧ Ext v v' w w1 ∧ w' = w1.setCell ⟨b, o, none⟩ v' := by
 have hb : b < w.heap.size := World.block_lt_of_cell? w ⟨b, o, none⟩ hbox
 obtain ⟨sa, sn, sc, rfl⟩ := OwnQ.slice hown
 have HO : Hid _ := hown
 have HI : Hid (∀ i, i < (vLn [(u, ld)]).length → w.cell? ⟨g, 0 + i * 2, none⟩ = some (vvAt (vLn [(u, ld)]) i).1 ∧ w.cell? ⟨g, 0 + i * 2 + 1, none⟩ = some (vvAt (vLn [(u, ld)]) i).2) := fun i hi => by
  have : i = 0 := by simp [vLn] at hi; omega
  subst this
  exact ⟨h0, h1⟩
 have H1 : Hid (∀ x ∈ flat2 (vLn [(u, ld)]), x.oneCell' = true) := one_lineD hu
 have HB : Hid (B ≤ w.heap.size) := hB
 have HL : Hid (it.length + 1 ≤ 1000000) := hlen
 have HE : Hid ((Value.slice sa sn sc).ownBlock ≠ some b) := hne
 clear hown hu hB hlen hne h0 h1
 go_enter Tryz.func44, Tryz.ntmps44
 go_wp2_with (at_builtin; (refine wpl_q 25 65 29 (.slice none 0 0) (.bool false) 32 under_llnsD under_lns info_line (by decide) rfl w (.tmp 7) (.tmp 8) rfl B (.slice sa sn sc) (vLn it) (vLn [(u, ld)]) rfl HO.out g 0 1 1 rfl rfl HI.out H1.out (by rw [vLn_len]; simp) ?cl HB.out rfl ?_))
 case cl => rw [vLn_len, vLn_len]; have := HL.out; simp; omega
 intro g' c' w1 h2 h3
 rw [← vLn_append] at h2
 rw [vLn_len] at h2 h3 ⊢
 have y0 : w1.cell? ⟨b, o, none⟩ = some (.slice sa sn sc) := (Ext.cell h3 hb HE.out o).trans hbox
 have y1 : w1.frozen? ⟨b, o, none⟩ = false := (World.frozen?_of_block (w := w) (a := ⟨b, o, none⟩) (h3.1.block b hb (fun e => HE.out e.symm))).trans hfr
 have H2 : Hid _ := h2
 have H3 : Hid _ := h3
 clear h2 h3 hbox hfr
 go_wp2
 go_end0
 exact ⟨rfl, _, w1, H2.out, H3.out, rfl⟩
set_option maxRecDepth 100000 in
set_option maxHeartbeats 4000000 in
theorem ilay (w0 w : World) (bx : Nat) (K : List (Nat × Int × Int)) (na : Option Addr) (nc : Nat) (ns : List Int) (d : Dg) (hb0 : w0.heap.size ≤ bx) (hol : d.o.length ≤ 100000) (h : DhS bx w0 w K na nc ns d) :
  Calls Tryz.prog 34 #[.pointer (some ⟨bx, 0, none⟩)] w fun e w' => e = .returned (.tuple #[]) ∧ DhS bx w0 w' K na nc ns (layD d) := by
 obtain ⟨v, it, u, hd, ho, hw, hkb⟩ := h
 obtain ⟨at', left, begun, p, o⟩ := d
 simp only at hd ho hol
 have HOL : Hid (it.length ≤ 100000) := by show _ ≤ _; rw [← ho, List.length_map] at hol; exact hol
 have HO : Hid (it.map (·.2) = o) := ho
 obtain ⟨ua, uc, hu⟩ := D2.val hd.d
 subst hu
 have HD : Hid (DH bx w (.slice na ns.length nc) at' left begun v it (.slice ua p.length uc) p) := hd
 have HW : Hid (Nw w0 w) := hw
 have HKB : Hid (Kb bx w v it (.slice ua p.length uc) K) := hkb
 have HLD : Hid (layD ⟨at', left, begun, p, o⟩ = ⟨at', left, begun, [], endL o p false⟩) := rfl
 have c4 := hd.c4
 have fr := hd.free
 clear hkb hd ho hw hol
 generalize hnp : p.length = np at *
 have HNP : Hid (p.length = np) := hnp
 generalize hnn : ns.length = n at *
 have HN : Hid (ns.length = n) := hnn
 clear hnp hnn
 by_cases h1 : 1 < np
 ·have d1 : decide ((1 : Int) < (np : Int)) = true := by simp; omega
  have HEL : Hid ((it ++ [(Value.slice ua np uc, (⟨p, false⟩ : LD))]).map (·.2) = endL o p false) := by
   show _ = _
   unfold endL
   rw [HNP.out, if_pos h1, ← HO.out]
   simp
  have n0 : Nw w w.drew := (Below.refl _ _).drew
  have n1 : Nw w.drew (w.drew.alloc (.cells #[.slice ua np uc, .bool false] 25)) := (Below.refl _ _).alloc (Nat.le_refl _) _
  have D1 : Hid _ := DH.nw HD.out (Nw.trans n0 n1)
  have KB1 : Hid (Kb bx (w.drew.alloc (.cells #[.slice ua np uc, .bool false] 25)) v it (.slice ua np uc) K) := Kb.nw HKB.out (Nw.trans n0 n1)
  have N1 : Hid (Nw w0 (w.drew.alloc (.cells #[.slice ua np uc, .bool false] 25))) := Nw.trans HW.out (Nw.trans n0 n1)
  have HA : Hid (Calls Tryz.prog 44 #[.pointer (some ⟨bx, 5, none⟩), .slice (some ⟨w.drew.heap.size, 0, none⟩) 1 1] (w.drew.alloc (.cells #[.slice ua np uc, .bool false] 25)) fun e w' => e = .returned (.tuple #[]) ∧ ∃ v' w2, OwnQ 25 w2 (bx + 1) v' (vLn (it ++ [(.slice ua np uc, ⟨p, false⟩)])) ∧ Ext v v' (w.drew.alloc (.cells #[.slice ua np uc, .bool false] 25)) w2 ∧ w' = w2.setCell ⟨bx, 5, none⟩ v') :=
   iaddLn _ bx 5 (bx + 1) v it (.slice ua np uc) ⟨p, false⟩ w.drew.heap.size D1.out.c5 (D1.out.free 5) D1.out.d.ln.own D1.out.d.pt (by rw [World.cell?_alloc_at _ _ _ _ rfl]; rfl) (by rw [World.cell?_alloc_at _ _ _ _ rfl]; rfl) (by have := HOL.out; omega) (by have := D1.out.lt; omega) D1.out.nev
  have C4 : Hid (w.drew.cell? ⟨bx, 4, none⟩ = some (.slice ua np uc)) := (DH.nw HD.out n0).c4
  clear n0 n1 h1
  go_enter Tryz.func34, Tryz.ntmps34
  go_wp2
  refine reg_change (ops' := opsOf 1 Tryz.f34) (by kernel_rfl) ?_
  refine LYR.run ⟨bx, ua, np, uc, fun w' => ∃ v' w2, OwnQ 25 w2 (bx + 1) v' (vLn (it ++ [(.slice ua np uc, ⟨p, false⟩)])) ∧ Ext v v' (w.drew.alloc (.cells #[.slice ua np uc, .bool false] 25)) w2 ∧ w' = w2.setCell ⟨bx, 5, none⟩ v', w.drew, _⟩ ⟨C4.out, HA.out, rfl, rfl⟩ w rfl ?_
  rintro γ w9 ⟨v', w2, o2, x2, hw9⟩
  obtain ⟨p1, p2⟩ := DH.lput D1.out x2 o2
  have s4 : w9.cell? ⟨bx, 4, none⟩ = some (.slice ua np uc) := by
   rw [hw9, World.cell?_setCell_other _ _ _ _ (fun e => by injection e; omega)]
   exact (Ext.cell x2 D1.out.lt D1.out.nev 4).trans D1.out.c4
  have sf : ∀ o, w9.frozen? ⟨bx, o, none⟩ = false := fun o => by
   rw [hw9, World.frozen?_setCell]
   exact (World.frozen?_of_block (a := ⟨bx, o, none⟩) (x2.1.block bx D1.out.lt (fun e => D1.out.nev e.symm))).trans (D1.out.free o)
  rw [← hw9] at p1 p2
  have P1 : Hid _ := p1
  have P2 : Hid (Nw w0 (w9.setCell ⟨bx, 4, none⟩ (.slice none 0 0))) := Below.trans N1.out (Below.mono p2 hb0)
  have P3 : Hid (Kb bx (w9.setCell ⟨bx, 4, none⟩ (.slice none 0 0)) v' (it ++ [(.slice ua np uc, ⟨p, false⟩)]) (.slice none 0 0) K) := by
   show Kb _ _ _ _ _ _
   rw [hw9]
   exact Kb.drop (Kb.set (Kb.set (Kb.lput KB1.out x2) 5 _) 4 _)
  clear p1 p2 o2 x2 hw9 c4 fr
  simp only [Act.put, List.setIfInBounds_toArray, List.set_cons_zero, List.set_cons_succ]
  generalize γ 0 = z0 at *
  generalize γ 1 = z1 at *
  go_wp2
  go_end0
  refine ⟨rfl, ?_⟩
  rw [HLD.out]
  exact DhS.of (d := ⟨at', left, begun, [], endL o p false⟩) (by rw [HN.out]; exact P1.out) HEL.out P2.out rfl rfl rfl rfl P3.out
 ·have d1 : decide ((1 : Int) < (np : Int)) = false := by simp; omega
  have HEL : Hid (it.map (·.2) = endL o p false) := by show _ = _; unfold endL; rw [HNP.out, if_neg h1]; exact HO.out
  have HP : Hid _ := DH.drop HD.out
  clear h1
  go_enter Tryz.func34, Tryz.ntmps34
  go_wp2
  go_end0
  refine ⟨rfl, ?_⟩
  rw [HLD.out]
  exact DhS.of (d := ⟨at', left, begun, [], endL o p false⟩) (by rw [HN.out]; exact HP.out.1) HEL.out (Below.trans HW.out (Below.mono HP.out.2 hb0)) rfl rfl rfl rfl (Kb.drop (Kb.set HKB.out 4 _))
theorem rD_bd (d : Dg) (q : Pnt) : (reachD d q).p.length ≤ d.p.length + 1 ∧ (reachD d q).o = d.o ∧ (reachD d q).at' = d.at' ∧ (reachD d q).begun = d.begun ∧ (reachD d q).left = d.left := by
 unfold reachD
 split
 ·exact ⟨by omega, rfl, rfl, rfl, rfl⟩
 ·exact ⟨by simp, rfl, rfl, rfl, rfl⟩
set_option maxRecDepth 100000 in
set_option maxHeartbeats 4000000 in
theorem iturn (w0 w : World) (bx : Nat) (K : List (Nat × Int × Int)) (na : Option Addr) (nc : Nat) (ns : List Int) (d : Dg) (x y : Int) (hb0 : w0.heap.size ≤ bx) (hn : 0 < ns.length) (ha : d.at' ≤ 100000) (hbe : d.begun ≤ 100000) (hp : d.p.length ≤ 50000) (hol : d.o.length ≤ 50000) (hI : Ints w0 na ns) (h : DhS bx w0 w K na nc ns d) :
  Calls Tryz.prog 63 #[.pointer (some ⟨bx, 0, none⟩), .agg #[.int .i64 x, .int .i64 y]] w fun e w' => e = .returned (.tuple #[]) ∧ DhS bx w0 w' K na nc ns (turnD ns d (x, y)) := by
 obtain ⟨b1, b2, b3, b4, b5⟩ := rD_bd d (x, y)
 have HT : Hid (turnD ns d (x, y) = reachD (moreD (nextD ns (layD (reachD d (x, y))))) (x, y)) := rfl
 obtain ⟨W1, hW1⟩ : ∃ W1, w.alloc (.cells #[.int .i64 x, .int .i64 y] 34) = W1 := ⟨_, rfl⟩
 have h1 := DhS.box h x y 34
 rw [hW1] at h1
 obtain ⟨bq, hbq⟩ : ∃ bq, w.heap.size = bq := ⟨_, rfl⟩
 rw [hbq] at h1
 have H1 : Hid (DhS bx w0 W1 ((bq, x, y) :: K) na nc ns d) := h1
 have HW1 : Hid (_ = W1) := hW1
 have HBQ : Hid (w.heap.size = bq) := hbq
 have HI : Hid (Ints w0 na ns) := hI
 have HB : Hid ((reachD d (x, y)).p.length ≤ d.p.length + 1 ∧ (reachD d (x, y)).o = d.o ∧ (reachD d (x, y)).at' = d.at' ∧ (reachD d (x, y)).begun = d.begun ∧ (reachD d (x, y)).left = d.left) := ⟨b1, b2, b3, b4, b5⟩
 clear b1 b2 b3 b4 b5 h h1 hW1 hbq hI
 go_enter Tryz.func63, Tryz.ntmps63
 go_wp2_with fail
 rw [HW1.out, HBQ.out]
 refine Calls.mono (ireach w0 W1 bx _ na nc ns d x y hb0 (by omega) H1.out) ?_
 rintro e w2 ⟨rfl, h2⟩
 have H2 : Hid (DhS bx w0 w2 ((bq, x, y) :: K) na nc ns (reachD d (x, y))) := h2
 clear h2
 go_wp2_with fail
 refine Calls.mono (ilay w0 w2 bx _ na nc ns (reachD d (x, y)) hb0 (by rw [HB.out.2.1]; omega) H2.out) ?_
 rintro e w3 ⟨rfl, h3⟩
 have H3 : Hid (DhS bx w0 w3 ((bq, x, y) :: K) na nc ns (layD (reachD d (x, y)))) := h3
 clear h3
 go_wp2_with fail
 refine Calls.mono (inext w0 w3 bx _ na nc ns (layD (reachD d (x, y))) hb0 hn (by show (reachD d (x, y)).at' ≤ 1000000; rw [HB.out.2.2.1]; omega) HI.out H3.out) ?_
 rintro e w4 ⟨rfl, v4, it4, u4, d4, o4, n4, k4⟩
 have c3 := d4.c3
 have fr := d4.free
 have hbg : (nextD ns (layD (reachD d (x, y)))).begun = d.begun := HB.out.2.2.2.1
 rw [hbg] at c3
 obtain ⟨s1, s2⟩ := DH.setB d4 ((d.begun : Int) + 1)
 have H5 : Hid (DhS bx w0 (w4.setCell ⟨bx, 3, none⟩ (.int .i64 ((d.begun : Int) + 1))) ((bq, x, y) :: K) na nc ns (moreD (nextD ns (layD (reachD d (x, y)))))) :=
  DhS.of s1 o4 (Below.trans n4 (Below.mono s2 hb0)) rfl rfl (by show _ = ((_ + 1 : Nat) : Int); rw [hbg]; simp) rfl (Kb.set k4 3 _)
 obtain ⟨q0, q1⟩ := DhS.at H5.out (b := bq) (x := x) (y := y) (List.mem_cons_self ..)
 clear d4 o4 n4 k4 s1 s2
 go_wp2_with fail
 refine Calls.mono (ireach w0 _ bx _ na nc ns (moreD (nextD ns (layD (reachD d (x, y))))) x y hb0 (by show ([] : List Pnt).length ≤ _; simp) H5.out) ?_
 rintro e w6 ⟨rfl, h6⟩
 have H6 : Hid _ := h6
 clear h6 c3 fr q0 q1
 go_wp2
 go_end0
 exact ⟨rfl, by rw [HT.out]; exact DhS.sub H6.out (fun k hk => List.mem_cons_of_mem _ hk)⟩
theorem wpl_ln {ops : Array Oper} {rest : List Oper} {o : Oper} {a : Act} {Q : PQ} (wS w : World) (hgd : o.guard = none) (s x : Operand)
  (ho : o.op = .call { callee := .builtin .append, args := #[s, x], argTypes := #[29, 29] }) (B : Nat) (v : Value) (it : Its) (u : Value) (ld : LD) (hs : a.eval s = v) (h : OwnLn wS B v it) (k : Nw wS w) (hB : B ≤ wS.heap.size) (hu : OwnP w wS.heap.size u ld.pts)
  (hx : a.eval x = .slice (some ⟨w.heap.size, 0, none⟩) 1 1) (hl : it.length + 1 ≤ 1000000)
  (hc : ∀ g' c' w', OwnLn w' B (.slice (some ⟨g', 0, none⟩) (it.length + 1) c') (it ++ [(u, ld)]) → Below B wS w' → wpList Tryz.prog ops Q rest (a.put o.dst (.slice (some ⟨g', 0, none⟩) (it.length + 1) c')) w') : wpList Tryz.prog ops Q (o :: rest) a (w.alloc (.cells #[u, .bool ld.closed] 25)) := by
 have n1 : Nw w (w.alloc (.cells #[u, .bool ld.closed] 25)) := (Below.refl _ _).alloc (Nat.le_refl _) _
 have hsz := Below.size k
 refine wpl_q 25 29 29 (.slice none 0 0) (.bool false) 32 under_lns under_lns info_line (by decide) rfl _ s x ho B v (vLn it) (vLn [(u, ld)]) hs (OwnQ.nw h.own (Nw.trans k n1)) w.heap.size 0 1 1 rfl hx (fun i hi => ?_) (one_lineD hu) (by rw [vLn_len]; simp) (by rw [vLn_len, vLn_len]; simp; omega) (by simp; omega) hgd ?_
 ·have : i = 0 := by simp [vLn] at hi; omega
  subst this
  exact ⟨by simp [vLn, vvAt], by simp [vLn, vvAt]⟩
 ·intro g' c' w' h2 h3
  rw [← vLn_append] at h2
  rw [vLn_len] at h2 h3 ⊢
  refine hc g' c' w' (OwnLn.put h (Nw.trans k n1) hB (OwnP.nw hu n1) h2 h3) ?_
  exact Below.trans (Below.mono (Nw.trans k n1) hB) (Ext.below h3 (fun g hg => (OwnQ.lt h.own g hg).1) (by simp; omega))
def bandL (x : Sg) : LD := ⟨[(x.f.1 + x.s.1, x.f.2 + x.s.2), (x.t.1 + x.s.1, x.t.2 + x.s.2), (x.t.1 - x.s.1, x.t.2 - x.s.2), (x.f.1 - x.s.1, x.f.2 - x.s.2)], true⟩
def wpt (p : Pnt) : Prop := wid p.1 ∧ wid p.2
def wsg (x : Sg) : Prop := wpt x.f ∧ wpt x.t ∧ wpt x.s
set_option maxRecDepth 100000 in
set_option maxHeartbeats 4000000 in
theorem ibands (w : World) (a : Option Addr) (c : Nat) (l : List Sg) (hl : l.length ≤ 900000) (hg : ∀ i, i < l.length → wsg (sgAt l i)) (hr : Sgs w a l) :
  Calls Tryz.prog 72 #[.slice a l.length c] w fun e w' => ∃ v, e = .returned v ∧ LsOk w' w.heap.size v (l.map bandL) ∧ Nw w w' := by
 have HS : Hid (∀ k, k < l.length → (l.take (k + 1)).map bandL = (l.take k).map bandL ++ [bandL (sgAt l k)]) := fun k hk => by
  rw [List.take_add_one, List.getElem?_eq_getElem hk, List.map_append]
  simp [sgAt, hk]
 have H0 : Hid ((l.take 0).map bandL = []) := by show _ = _; simp
 have HT : Hid ((l.take l.length).map bandL = l.map bandL) := by show _ = _; rw [List.take_length]
 have HL : Hid (∀ k, k ≤ l.length → ((l.take k).map bandL).length = k) := fun k hk => by simp; omega
 have HR : Hid (Sgs w a l) := hr
 have HG : Hid _ := hg
 clear hr hg
 obtain ⟨R, hR⟩ : ∃ R, l.map bandL = R := ⟨_, rfl⟩
 obtain ⟨G, hG⟩ : ∃ G : Nat → List LD, (fun k => (l.take k).map bandL) = G := ⟨_, rfl⟩
 have hG' : ∀ k, (l.take k).map bandL = G k := fun k => congrFun hG k
 simp only [hG', hR] at HS H0 HT HL
 rw [hR]
 clear hG hG' hR
 obtain ⟨n, hn⟩ : ∃ n, l.length = n := ⟨_, rfl⟩
 have HN : Hid (l.length = n) := hn
 rw [hn] at HS HT HL HG hl ⊢
 clear hn
 go_enter Tryz.func72, Tryz.ntmps72
 go_wp2
 go_loopw [8, 3] (fun i v wr => ∃ (k : Nat) (it : Its), k ≤ n ∧ i = .int .i64 (k : Int) ∧ OwnLn wr w.heap.size v it ∧ it.map (·.2) = G k ∧ Nw w wr) (fun i _ _ => n - (intOf i).toNat)
 case atStart => exact ⟨0, [], Nat.zero_le _, rfl, OwnLn.nil _ _, by rw [H0.out]; rfl, Below.refl _ _⟩
 case round =>
  obtain ⟨k, it, hk, rfl, ho, he, hw⟩ := hrel
  have HE : Hid (it.map (·.2) = G k) := he
  have HO : Hid (OwnLn wr w.heap.size _ it) := ho
  have HW : Hid (Nw w wr) := hw
  have hil : it.length = k := by have := HL.out k hk; rw [← he, List.length_map] at this; exact this
  obtain ⟨va, vn, vc, hv⟩ := OwnQ.slice ho.own
  subst hv
  clear ho hw he
  by_cases hlt : k < n
  ·have d1 : decide ((k : Int) < (n : Int)) = true := by simp; omega
   rcases (Sgs.nw HR.out HW.out) with h0 | ⟨b, rfl, hc⟩
   ·have := HN.out; rw [h0] at this; simp at this; omega
   have hck := hc k (by rw [HN.out]; exact hlt)
   have HX : Hid _ := HS.out k hlt
   have HGk : Hid (wsg (sgAt l k)) := HG.out k hlt
   clear hc
   generalize sgAt l k = X at *
   obtain ⟨⟨fx, fy⟩, ⟨tx, ty⟩, ⟨sx, sy⟩⟩ := X
   have q0 := hck 0 _ rfl
   have q1 := hck 1 _ rfl
   have q2 := hck 2 _ rfl
   have q3 := hck 3 _ rfl
   have q4 := hck 4 _ rfl
   have q5 := hck 5 _ rfl
   simp only [Nat.add_zero] at q0 q1 q2 q3 q4 q5
   clear hck
   have HB : Hid _ := iband fx fy tx ty sx sy HGk.out.1.1 HGk.out.1.2 HGk.out.2.1.1 HGk.out.2.1.2 HGk.out.2.2.1 HGk.out.2.2.2
   go_wp2_with fail
   refine Calls.mono (HB.out _) ?_
   rintro e w1 ⟨v1, rfl, o1, n1⟩
   have N1 : Hid (Nw wr w1) := Nw.trans (Kp.nw ((Kp.refl wr).alloc _ _)) n1
   have O1 : Hid (OwnP w1 wr.heap.size v1 _) := OwnQ.base o1 (by simp)
   obtain ⟨ua, uc, hu, _⟩ := o1.pts
   subst hu
   clear o1 n1 q0 q1 q2 q3 q4 q5
   go_wp2_with (at_builtin; (refine wpl_ln wr w1 rfl (.tmp 12) (.tmp 15) rfl w.heap.size (.slice va vn vc) it _ (bandL ⟨(fx, fy), (tx, ty), (sx, sy)⟩) rfl HO.out N1.out ?hB O1.out ?hx ?hl ?_))
   case hB => exact Below.size HW.out
   case hx => rfl
   case hl => omega
   intro g' c' w9 h2 h3
   have H2 : Hid _ := h2
   have N9 : Hid (Nw w w9) := Below.trans HW.out h3
   clear h2 h3
   go_wp2
   go_roundw
   case rel => exact ⟨k + 1, _, hlt, by go_num, H2.out, by rw [HX.out, List.map_append, HE.out]; rfl, N9.out⟩
   case measure => simp [intOf]; omega
  ·obtain rfl : k = n := by omega
   have d1 : decide ((k : Int) < (k : Int)) = false := by simp
   go_wp2
   go_ret
   exact ⟨_, rfl, LsOk.of HO.out (HE.out.trans HT.out), HW.out⟩
end Go.Proofs.YtfdjjbgcaojcnaaGreat
