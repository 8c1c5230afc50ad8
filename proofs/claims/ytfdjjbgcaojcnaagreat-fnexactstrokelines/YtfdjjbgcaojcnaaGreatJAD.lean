/-
  Worlds in which only some blocks have been written; each the
-/
import Derived.Test.YtfdjjbgcaojcnaaGreatJAA
import Derived.Test.YtfdjjbgcaojcnaaGreatJAC
import Derived.Deep.RegionWith
namespace Go.Proofs.YtfdjjbgcaojcnaaGreat
open Go.ChangeShapes Go.WideShapes Go.ChangeAt Go.RowKit
set_option linter.unusedVariables false
structure Mid (lo hi : Nat) (w w' : World) : Prop where
 os : w'.os = w.os
 tape : w'.tape = w.tape
 output : w'.output = w.output
 size : w.heap.size ≤ w'.heap.size
 block : ∀ k, k < w.heap.size → (k < lo ∨ hi ≤ k) → w'.heap[k]? = w.heap[k]?
theorem Mid.refl (lo hi : Nat) (w : World) : Mid lo hi w w := ⟨rfl, rfl, rfl, Nat.le_refl _, fun _ _ _ => rfl⟩
theorem Mid.nw {lo hi : Nat} {a b c : World} (h : Mid lo hi a b) (k : Nw b c) : Mid lo hi a c :=
 ⟨(Below.os k).trans h.os, (Below.tape k).trans h.tape, (Below.output k).trans h.output, Nat.le_trans h.size (Below.size k), fun i hi hb => (Below.block k i (Nat.lt_of_lt_of_le hi h.size)).trans (h.block i hi hb)⟩
theorem Mid.trans {lo hi : Nat} {a b c : World} (h : Mid lo hi a b) (k : Mid lo hi b c) : Mid lo hi a c :=
 ⟨k.os.trans h.os, k.tape.trans h.tape, k.output.trans h.output, Nat.le_trans h.size k.size, fun i hi hb => (k.block i (Nat.lt_of_lt_of_le hi h.size) hb).trans (h.block i hi hb)⟩
theorem Mid.set {lo hi : Nat} {a b : World} (h : Mid lo hi a b) {g : Nat} (h1 : lo ≤ g) (h2 : g < hi) (o : Nat) (v : Value) : Mid lo hi a (b.setCell ⟨g, o, none⟩ v) :=
 ⟨h.os, h.tape, h.output, by simpa [World.setCell] using h.size, fun i hi hb => by
  rw [Below.heap_setCell _ _ _ _ (by show i ≠ g; omega)]
  exact h.block i hi hb⟩
theorem Mid.below {lo hi : Nat} {a b : World} (h : Mid lo hi a b) (hl : lo ≤ a.heap.size) : Below lo a b :=
 ⟨h.os, h.tape, h.output, h.size, fun i hi => h.block i (by omega) (Or.inl hi)⟩
theorem Mid.cell {lo hi : Nat} {a b : World} (h : Mid lo hi a b) {g : Nat} (hg : g < a.heap.size) (hb : g < lo ∨ hi ≤ g) (o : Nat) : b.cell? ⟨g, o, none⟩ = a.cell? ⟨g, o, none⟩ :=
 World.cell?_of_block (w := a) (a := ⟨g, o, none⟩) (h.block g hg hb)
theorem Mid.frozen {lo hi : Nat} {a b : World} (h : Mid lo hi a b) {g : Nat} (hg : g < a.heap.size) (hb : g < lo ∨ hi ≤ g) (o : Nat) : b.frozen? ⟨g, o, none⟩ = a.frozen? ⟨g, o, none⟩ :=
 World.frozen?_of_block (w := a) (a := ⟨g, o, none⟩) (h.block g hg hb)
def vAt (l : List Value) (i : Nat) : Value := l.getD i undef
def nAt (l : List Nat) (i : Nat) : Nat := l.getD i 0
def kAt (ns : List Nat) (K : Nat) : Nat → Nat
 | 0 => K
 | i + 1 => kAt ns K i + 2 * nAt ns i + 1
theorem kAt_mono (ns : List Nat) (K : Nat) {i j : Nat} (h : i ≤ j) : kAt ns K i ≤ kAt ns K j := by
  induction j with
  | zero => obtain rfl : i = 0 := by omega
            exact Nat.le_refl _
  | succ j ih =>
    by_cases e : i = j + 1
    · rw [e]; exact Nat.le_refl _
    · have := ih (by omega); simp only [kAt]; omega
structure SF (lo hi g : Nat) (vs : List Value) : Prop where
 inn : lo ≤ g ∧ g < hi
 pts : ∀ i, i < vs.length → ∀ b, (vAt vs i).ownBlock = some b → lo ≤ b ∧ b < hi ∧ b ≠ g
 apart : ∀ i j, i ≠ j → i < vs.length → j < vs.length → ∀ b, (vAt vs i).ownBlock = some b → (vAt vs j).ownBlock ≠ some b
def AnyV (w : World) (v : Value) (n : Nat) : Prop := (v = .slice none 0 0 ∧ n = 0) ∨ ∃ g c, v = .slice (some ⟨g, 0, none⟩) n c ∧ AnyPt w g n
def clB (k : Nat) : Bool := ((k : Int) % 3 == 0)
structure MkLn (w : World) (g : Nat) (vs : List Value) (ns : List Nat) (K j : Nat) : Prop where
 lt : g < w.heap.size
 free : ∀ o, w.frozen? ⟨g, o, none⟩ = false
 sl : ∀ i, i < vs.length → w.cell? ⟨g, i * 2, none⟩ = some (vAt vs i)
 c1 : ∀ i, i < j → i < vs.length → w.cell? ⟨g, i * 2 + 1, none⟩ = some (.bool (clB (kAt ns K i + 2 * nAt ns i)))
 c2 : ∀ i, j ≤ i → i < vs.length → ∃ b, w.cell? ⟨g, i * 2 + 1, none⟩ = some (.bool b)
 p1 : ∀ i, i < j → i < vs.length → Mkd w (vAt vs i) (nAt ns i) (kAt ns K i)
 p2 : ∀ i, j ≤ i → i < vs.length → AnyV w (vAt vs i) (nAt ns i)
theorem AnyPt.grow {w w' : World} {g n : Nat} {r : Option Nat} (h : AnyPt w g n) (k : w.grownBy w' r) (hne : some g ≠ r) : AnyPt w' g n := by
 have e := fun o => World.cell?_of_block (w := w) (w' := w') (a := ⟨g, o, none⟩) (k.block g h.1 hne)
 have f := fun o => World.frozen?_of_block (w := w) (w' := w') (a := ⟨g, o, none⟩) (k.block g h.1 hne)
 refine ⟨Nat.lt_of_lt_of_le h.1 k.size, fun i hi => ?_, fun o => (f o).trans (h.2.2 o)⟩
 obtain ⟨⟨x, hx⟩, y, hy⟩ := h.2.1 i hi
 exact ⟨⟨x, (e _).trans hx⟩, y, (e _).trans hy⟩
theorem LayPt.grow {w w' : World} {g k : Nat} {l : List Pnt} {r : Option Nat} (h : LayPt w g l k) (q : w.grownBy w' r) (hne : some g ≠ r) : LayPt w' g l k := by
 have e := fun o => World.cell?_of_block (w := w) (w' := w') (a := ⟨g, o, none⟩) (q.block g h.1 hne)
 have f := fun o => World.frozen?_of_block (w := w) (w' := w') (a := ⟨g, o, none⟩) (q.block g h.1 hne)
 exact ⟨Nat.lt_of_lt_of_le h.1 q.size, fun i hi => ⟨(e _).trans (h.2.1 i hi).1, (e _).trans (h.2.1 i hi).2⟩, fun i a b => ⟨(e _).trans (h.2.2.1 i a b).1, (e _).trans (h.2.2.1 i a b).2⟩, fun o => (f o).trans (h.2.2.2 o)⟩
theorem AnyV.grow {w w' : World} {v : Value} {n : Nat} {r : Option Nat} (h : AnyV w v n) (k : w.grownBy w' r) (hne : ∀ g, v.ownBlock = some g → some g ≠ r) : AnyV w' v n := by
 rcases h with h | ⟨g, c, h1, h2⟩
 ·exact Or.inl h
 ·exact Or.inr ⟨g, c, h1, h2.grow k (hne g (by rw [h1]; rfl))⟩
theorem Mkd.grow {w w' : World} {v : Value} {n K : Nat} {r : Option Nat} (h : Mkd w v n K) (k : w.grownBy w' r) (hne : ∀ g, v.ownBlock = some g → some g ≠ r) : Mkd w' v n K := by
 rcases h with h | ⟨g, c, h1, h2⟩
 ·exact Or.inl h
 ·exact Or.inr ⟨g, c, h1, h2.grow k (hne g (by rw [h1]; rfl))⟩
theorem MkLn.step {w w' : World} {lo hi g : Nat} {vs : List Value} {ns : List Nat} {K j : Nat} (h : MkLn w g vs ns K j) (hs : SF lo hi g vs) (hj : j < vs.length) (k : w.grownBy w' (vAt vs j).ownBlock) (hm : Mkd w' (vAt vs j) (nAt ns j) (kAt ns K j)) :
  MkLn (w'.setCell ⟨g, j * 2 + 1, none⟩ (.bool (clB (kAt ns K j + 2 * nAt ns j)))) g vs ns K (j + 1) := by
 have hg : some g ≠ (vAt vs j).ownBlock := fun e => (hs.pts j hj g e.symm).2.2 rfl
 have e := fun o => World.cell?_of_block (w := w) (w' := w') (a := ⟨g, o, none⟩) (k.block g h.lt hg)
 have f := fun o => World.frozen?_of_block (w := w) (w' := w') (a := ⟨g, o, none⟩) (k.block g h.lt hg)
 have far : ∀ o, o ≠ j * 2 + 1 → (w'.setCell ⟨g, j * 2 + 1, none⟩ (.bool (clB (kAt ns K j + 2 * nAt ns j)))).cell? ⟨g, o, none⟩ = w'.cell? ⟨g, o, none⟩ := fun o ho => World.cell?_setCell_other _ _ _ _ (fun e => by injection e; omega)
 obtain ⟨b0, hb0⟩ := h.c2 j (Nat.le_refl _) hj
 have sg : w'.grownBy (w'.setCell ⟨g, j * 2 + 1, none⟩ (.bool (clB (kAt ns K j + 2 * nAt ns j)))) (some g) := set_grown
 have ng : ∀ i, i < vs.length → ∀ b, (vAt vs i).ownBlock = some b → some b ≠ some g := fun i hi b hb e => by injection e with e; exact (hs.pts i hi b hb).2.2 e
 refine ⟨Nat.lt_of_lt_of_le h.lt (by simpa [World.setCell] using k.size), fun o => by rw [World.frozen?_setCell]; exact (f o).trans (h.free o), fun i hi => ?_, fun i hij hi => ?_, fun i hij hi => ?_, fun i hij hi => ?_, fun i hij hi => ?_⟩
 ·rw [far _ (by omega)]; exact (e _).trans (h.sl i hi)
 ·by_cases ej : i = j
  ·subst ej; exact World.cell?_setCell_same w' ⟨g, i * 2 + 1, none⟩ _ ((e _).trans hb0)
  ·rw [far _ (by omega)]; exact (e _).trans (h.c1 i (by omega) hi)
 ·obtain ⟨b, hb⟩ := h.c2 i (by omega) hi
  exact ⟨b, by rw [far _ (by omega)]; exact (e _).trans hb⟩
 ·by_cases ej : i = j
  ·subst ej; exact hm.grow sg (ng i hi)
  ·exact ((h.p1 i (by omega) hi).grow k (fun b hb => fun e2 => hs.apart i j ej hi hj b hb e2.symm)).grow sg (ng i hi)
 ·exact ((h.p2 i (by omega) hi).grow k (fun b hb => fun e2 => hs.apart i j (by omega) hi hj b hb e2.symm)).grow sg (ng i hi)
theorem AnyV.form {w : World} {v : Value} {n : Nat} (h : AnyV w v n) : ∃ a c, v = .slice a n c := by
 rcases h with ⟨h1, h2⟩ | ⟨g, c, h1, _⟩
 ·exact ⟨none, 0, by rw [h1, h2]⟩
 ·exact ⟨_, c, h1⟩
theorem Mkd.form {w : World} {v : Value} {n K : Nat} (h : Mkd w v n K) : ∃ a c, v = .slice a n c := by
 rcases h with ⟨h1, h2⟩ | ⟨g, c, h1, _⟩
 ·exact ⟨none, 0, by rw [h1, h2]⟩
 ·exact ⟨_, c, h1⟩
theorem markPt_v (w : World) (v : Value) (n K : Nat) (hl : n ≤ 1048576) (hK2 : K ≤ 50000000) (h : AnyV w v n) :
  Calls Tryz.prog 54 #[v, .int .i64 (K : Int)] w fun e w' => e = .returned (.int .i64 ((K + 2 * n : Nat) : Int)) ∧ w.grownBy w' v.ownBlock ∧ Mkd w' v n K := by
 rcases h with ⟨rfl, rfl⟩ | ⟨g, c, rfl, h2⟩
 ·refine (markPt_nil w K hK2).mono ?_
  rintro e w' ⟨rfl, rfl⟩
  exact ⟨rfl, grP_refl _ _, Or.inl ⟨rfl, rfl⟩⟩
 ·refine (markPt_any w g c K n hl hK2 h2).mono ?_
  rintro e w' ⟨rfl, h3, h4⟩
  exact ⟨rfl, h3, Or.inr ⟨g, c, rfl, h4⟩⟩
theorem Mid.of_grown {lo hi : Nat} {a b : World} {r : Option Nat} (k : a.grownBy b r) (h : ∀ g, r = some g → lo ≤ g ∧ g < hi) : Mid lo hi a b :=
 ⟨k.os, k.tape, k.output, k.size, fun i hi hb => k.block i hi (fun e => by have := h i e.symm; omega)⟩
theorem clB_at (Z : Nat) : clB Z = ((Z : Int) % 3 == 0) := rfl
set_option maxHeartbeats 4000000 in
theorem markLineS_any (w : World) (lo hi g c : Nat) (vs : List Value) (ns : List Nat) (K : Nat) (hs : SF lo hi g vs) (hn : vs.length ≤ 1048576) (hk : ∀ i, i < vs.length → nAt ns i ≤ 1048576) (hK : kAt ns K vs.length ≤ 40000000) (h : MkLn w g vs ns K 0) :
  Calls Tryz.prog 18 #[.slice (some ⟨g, 0, none⟩) vs.length c, .int .i64 (K : Int)] w fun e w' => e = .returned (.int .i64 (kAt ns K vs.length : Int)) ∧ Mid lo hi w w' ∧ MkLn w' g vs ns K vs.length := by
 have HS : Hid (SF lo hi g vs) := hs
 have HK : Hid (∀ i, i < vs.length → nAt ns i ≤ 1048576) := hk
 have HH : Hid (MkLn w g vs ns K 0) := h
 clear hs hk h
 go_enter Tryz.func18, Tryz.ntmps18
 go_wp2
 go_loopw [1, 5] (fun x i wr => ∃ j : Nat, j ≤ vs.length ∧ i = .int .i64 j ∧ x = .int .i64 (kAt ns K j : Int) ∧ Mid lo hi w wr ∧ MkLn wr g vs ns K j) (fun _ i _ => vs.length - (intOf i).toNat)
 case atStart => exact ⟨0, Nat.zero_le _, rfl, rfl, Mid.refl _ _ _, HH.out⟩
 case round =>
  obtain ⟨j, hj, rfl, rfl, hw, hm⟩ := hrel
  have HW : Hid (Mid lo hi w wr) := hw
  have HM : Hid (MkLn wr g vs ns K j) := hm
  clear hw hm
  by_cases hlt : j < vs.length
  ·have q0 := HM.out.sl j hlt
   obtain ⟨b0, q1⟩ := HM.out.c2 j (Nat.le_refl _) hlt
   have qf := HM.out.free
   have hkj : kAt ns K (j + 1) ≤ kAt ns K vs.length := kAt_mono ns K hlt
   have HE : Hid (kAt ns K (j + 1) = kAt ns K j + 2 * nAt ns j + 1) := rfl
   have hkj2 : kAt ns K j + 2 * nAt ns j + 1 ≤ 40000000 := by have := HE.out; omega
   have HC : Hid _ := markPt_v wr (vAt vs j) (nAt ns j) (kAt ns K j) (HK.out j hlt) (by omega) (HM.out.p2 j (Nat.le_refl _) hlt)
   obtain ⟨va, vc, hv⟩ := (HM.out.p2 j (Nat.le_refl _) hlt).form
   have HST : Hid (∀ w1, wr.grownBy w1 (vAt vs j).ownBlock → Mkd w1 (vAt vs j) (nAt ns j) (kAt ns K j) → (∃ b, w1.cell? ⟨g, j * 2 + 1, none⟩ = some (.bool b)) ∧ (∀ o, w1.frozen? ⟨g, o, none⟩ = false) ∧ MkLn (w1.setCell ⟨g, j * 2 + 1, none⟩ (.bool (clB (kAt ns K j + 2 * nAt ns j)))) g vs ns K (j + 1) ∧ Mid lo hi w (w1.setCell ⟨g, j * 2 + 1, none⟩ (.bool (clB (kAt ns K j + 2 * nAt ns j))))) := fun w1 k1 k2 => by
    have hg : some g ≠ (vAt vs j).ownBlock := fun e => (HS.out.pts j hlt g e.symm).2.2 rfl
    refine ⟨⟨b0, (World.cell?_of_block (w := wr) (w' := w1) (a := ⟨g, j * 2 + 1, none⟩) (k1.block g HM.out.lt hg)).trans q1⟩, fun o => (World.frozen?_of_block (w := wr) (w' := w1) (a := ⟨g, o, none⟩) (k1.block g HM.out.lt hg)).trans (qf o), HM.out.step HS.out hlt k1 k2, ?_⟩
    exact (Mid.trans HW.out (Mid.of_grown k1 (fun b hb => ⟨(HS.out.pts j hlt b hb).1, (HS.out.pts j hlt b hb).2.1⟩))).set HS.out.inn.1 HS.out.inn.2 _ _
   rw [hv] at q0 HC HST
   generalize nAt ns j = n at *
   generalize kAt ns K j = k at *
   clear hv
   go_wp2_with fail
   refine Calls.mono HC.out ?_
   rintro e w1 ⟨rfl, k1, k2⟩
   obtain ⟨⟨b1, r1⟩, rf, s1, s2⟩ := HST.out w1 k1 k2
   have S1 : Hid _ := s1
   have S2 : Hid _ := s2
   rw [clB_at] at S1 S2
   have hkz : 0 ≤ ((k + 2 * n : Nat) : Int) ∧ ((k + 2 * n : Nat) : Int) ≤ 40000000 := by omega
   have HZ : Hid (((k + 2 * n + 1 : Nat) : Int) = ((k + 2 * n : Nat) : Int) + 1) := by show _ = _; omega
   generalize ((k + 2 * n : Nat) : Int) = Z at *
   clear s1 s2 k1 k2 HC HST
   go_wp2
   go_roundw
   case rel => exact ⟨j + 1, by omega, by go_num, by rw [HE.out, HZ.out], S2.out, S1.out⟩
   case measure => simp [intOf]; omega
  ·have e : j = vs.length := by omega
   subst e
   go_wp2
   go_ret
   exact ⟨rfl, HW.out, HM.out⟩
theorem markLineS_nil (w : World) (K : Nat) (hK : K ≤ 40000000) : Calls Tryz.prog 18 #[.slice none 0 0, .int .i64 (K : Int)] w fun e w' => e = .returned (.int .i64 (K : Int)) ∧ w' = w := by
 go_enter Tryz.func18, Tryz.ntmps18
 go_wp2
 go_loop [1, 5] (fun x i => x = .int .i64 (K : Int) ∧ i = .int .i64 0) (fun _ _ => 0)
 case atStart => exact ⟨rfl, rfl⟩
 case round =>
  obtain ⟨rfl, rfl⟩ := hrel
  go_wp2
  go_ret
  exact ⟨rfl, rfl⟩
set_option maxHeartbeats 1000000 in
theorem heldPt_any (w : World) (g c K n : Nat) (hl : n ≤ 1048576) (hK2 : K ≤ 50000000) (h : LayPt w g (mkP K n) n) :
  Calls Tryz.prog 56 #[.slice (some ⟨g, 0, none⟩) n c, .int .i64 (K : Int)] w fun e w' => e = .returned (.int .i64 ((K + 2 * n : Nat) : Int)) ∧ w' = w := by
 have HS : Hid (LayPt w g (mkP K n) n) := h
 clear h
 go_enter Tryz.func56, Tryz.ntmps56
 go_wp2
 go_loop [1, 5] (fun x i => ∃ j : Nat, j ≤ n ∧ i = .int .i64 j ∧ x = .int .i64 ((K + 2 * j : Nat) : Int)) (fun _ i => n - (intOf i).toNat)
 case atStart => exact ⟨0, Nat.zero_le _, rfl, rfl⟩
 case round =>
  obtain ⟨j, hj, rfl, rfl⟩ := hrel
  by_cases hlt : j < n
  ·obtain ⟨c0, c1⟩ := HS.out.2.1 j hlt
   rw [mkP_at K n j hlt] at c0 c1
   have e1 : ((K + 2 * j + 1 : Nat) : Int) = ((K + 2 * j : Nat) : Int) + 1 := by omega
   simp only [e1] at c1
   have hb : ((K + 2 * j : Nat) : Int) ≤ 100000000 := by omega
   have hb0 : 0 ≤ ((K + 2 * j : Nat) : Int) := by omega
   have HJ : Hid (((K + 2 * (j + 1) : Nat) : Int) = ((K + 2 * j : Nat) : Int) + 1 + 1) := by show _ = _; omega
   generalize ((K + 2 * j : Nat) : Int) = Z at *
   have hne : (Z != Z) = false := by simp
   have hne2 : (Z + 1 != Z + 1) = false := by simp
   go_wp2
   go_round
   case rel => exact ⟨j + 1, by omega, by go_num, by rw [HJ.out]⟩
   case measure => simp [intOf]; omega
  ·have e : j = n := by omega
   subst e
   go_wp2
   go_ret
   exact ⟨rfl, rfl⟩
theorem heldPt_nil (w : World) (K : Nat) (hK2 : K ≤ 50000000) :
  Calls Tryz.prog 56 #[.slice none 0 0, .int .i64 (K : Int)] w fun e w' => e = .returned (.int .i64 (K : Int)) ∧ w' = w := by
 go_enter Tryz.func56, Tryz.ntmps56
 go_wp2
 go_loop [1, 5] (fun x i => x = .int .i64 (K : Int) ∧ i = .int .i64 0) (fun _ _ => 0)
 case atStart => exact ⟨rfl, rfl⟩
 case round =>
  obtain ⟨rfl, rfl⟩ := hrel
  go_wp2
  go_ret
  exact ⟨rfl, rfl⟩
theorem heldPt_v (w : World) (v : Value) (n K : Nat) (hl : n ≤ 1048576) (hK2 : K ≤ 50000000) (h : Mkd w v n K) :
  Calls Tryz.prog 56 #[v, .int .i64 (K : Int)] w fun e w' => e = .returned (.int .i64 ((K + 2 * n : Nat) : Int)) ∧ w' = w := by
 rcases h with ⟨rfl, rfl⟩ | ⟨g, c, rfl, h2⟩
 ·refine (heldPt_nil w K hK2).mono ?_
  rintro e w' ⟨rfl, rfl⟩
  exact ⟨rfl, rfl⟩
 ·exact heldPt_any w g c K n hl hK2 h2
set_option maxHeartbeats 4000000 in
theorem heldLineS_any (w : World) (g c : Nat) (vs : List Value) (ns : List Nat) (K : Nat) (hn : vs.length ≤ 1048576) (hk : ∀ i, i < vs.length → nAt ns i ≤ 1048576) (hK : kAt ns K vs.length ≤ 40000000) (h : MkLn w g vs ns K vs.length) :
  Calls Tryz.prog 20 #[.slice (some ⟨g, 0, none⟩) vs.length c, .int .i64 (K : Int)] w fun e w' => e = .returned (.int .i64 (kAt ns K vs.length : Int)) ∧ w' = w := by
 have HK : Hid (∀ i, i < vs.length → nAt ns i ≤ 1048576) := hk
 have HH : Hid (MkLn w g vs ns K vs.length) := h
 clear hk h
 go_enter Tryz.func20, Tryz.ntmps20
 go_wp2
 go_loop [1, 5] (fun x i => ∃ j : Nat, j ≤ vs.length ∧ i = .int .i64 j ∧ x = .int .i64 (kAt ns K j : Int)) (fun _ i => vs.length - (intOf i).toNat)
 case atStart => exact ⟨0, Nat.zero_le _, rfl, rfl⟩
 case round =>
  obtain ⟨j, hj, rfl, rfl⟩ := hrel
  by_cases hlt : j < vs.length
  ·have q0 := HH.out.sl j hlt
   have q1 := HH.out.c1 j hlt hlt
   have hkj : kAt ns K (j + 1) ≤ kAt ns K vs.length := kAt_mono ns K hlt
   have HE : Hid (kAt ns K (j + 1) = kAt ns K j + 2 * nAt ns j + 1) := rfl
   have hkj2 : kAt ns K j + 2 * nAt ns j + 1 ≤ 40000000 := by have := HE.out; omega
   have HC : Hid _ := heldPt_v w (vAt vs j) (nAt ns j) (kAt ns K j) (HK.out j hlt) (by omega) (HH.out.p1 j hlt hlt)
   obtain ⟨va, vc, hv⟩ := (HH.out.p1 j hlt hlt).form
   rw [hv] at q0 HC
   rw [clB_at] at q1
   generalize nAt ns j = n at *
   generalize kAt ns K j = k at *
   clear hv
   have hkz : 0 ≤ ((k + 2 * n : Nat) : Int) ∧ ((k + 2 * n : Nat) : Int) ≤ 40000000 := by omega
   have HZ : Hid (((k + 2 * n + 1 : Nat) : Int) = ((k + 2 * n : Nat) : Int) + 1) := by show _ = _; omega
   generalize ((k + 2 * n : Nat) : Int) = Z at *
   have hz0 : decide (Z < 0) = false := decide_eq_false (by omega)
   have hbb : ((Z % 3 == 0) != (Z % 3 == 0)) = false := by cases (Z % 3 == 0) <;> rfl
   go_wp2_with fail
   refine Calls.mono HC.out ?_
   rintro e w1 ⟨rfl, rfl⟩
   clear HC
   go_wp2
   go_round
   case rel => exact ⟨j + 1, by omega, by go_num, by rw [HE.out, HZ.out]⟩
   case measure => simp [intOf]; omega
  ·have e : j = vs.length := by omega
   subst e
   go_wp2
   go_ret
   exact ⟨rfl, rfl⟩
theorem heldLineS_nil (w : World) (K : Nat) (hK : K ≤ 40000000) : Calls Tryz.prog 20 #[.slice none 0 0, .int .i64 (K : Int)] w fun e w' => e = .returned (.int .i64 (K : Int)) ∧ w' = w := by
 go_enter Tryz.func20, Tryz.ntmps20
 go_wp2
 go_loop [1, 5] (fun x i => x = .int .i64 (K : Int) ∧ i = .int .i64 0) (fun _ _ => 0)
 case atStart => exact ⟨rfl, rfl⟩
 case round =>
  obtain ⟨rfl, rfl⟩ := hrel
  go_wp2
  go_ret
  exact ⟨rfl, rfl⟩
theorem under_pts : Tryz.prog.underlying 23 = some (.slice 34) := Tryz.underlying23
theorem under_lpts : Tryz.prog.underlying 64 = some (.slice 34) := by kernel_rfl
def LieP (w : World) (g off : Nat) (its : List Pnt) : Prop := g < w.heap.size ∧ ∀ i, i < its.length → w.cell? ⟨g, off + i * 2, none⟩ = some (.int .i64 (ptAt its i).1) ∧ w.cell? ⟨g, off + i * 2 + 1, none⟩ = some (.int .i64 (ptAt its i).2)
theorem LieP.vv {w : World} {g off : Nat} {its : List Pnt} (h : LieP w g off its) : ∀ i, i < (vP its).length → w.cell? ⟨g, off + i * 2, none⟩ = some (vvAt (vP its) i).1 ∧ w.cell? ⟨g, off + i * 2 + 1, none⟩ = some (vvAt (vP its) i).2 := fun i hi => by
 rw [vP_len] at hi
 rw [vP_at its i hi]
 exact h.2 i hi
theorem LieP.nw {w w' : World} {g off : Nat} {its : List Pnt} (h : LieP w g off its) (k : Nw w w') : LieP w' g off its :=
 ⟨Nat.lt_of_lt_of_le h.1 (Below.size k), fun i hi => ⟨((bcell k).1 _ _ h.1).trans (h.2 i hi).1, ((bcell k).1 _ _ h.1).trans (h.2 i hi).2⟩⟩
theorem Pts.lie {w : World} {a : Option Addr} {l : List Pnt} (h : Pts w a l) (hn : 0 < l.length) : ∃ g off, a = some ⟨g, off, none⟩ ∧ LieP w g off l := by
 rcases h with h | ⟨b, off, rfl, hb, hc⟩
 ·rw [h] at hn; simp at hn
 ·exact ⟨b, off, rfl, hb, hc⟩
theorem liep_one (w : World) (x y : Int) (t : TypeId) : LieP (w.alloc (.cells #[.int .i64 x, .int .i64 y] t)) w.heap.size 0 [(x, y)] := by
 refine ⟨by simp, fun i hi => ?_⟩
 have : i = 0 := by simp at hi; omega
 subst this
 simp [ptAt]
set_option maxHeartbeats 1000000 in
theorem iaddP (w : World) (b o B : Nat) (v : Value) (l its : List Pnt) (g off m c : Nat) (hm : m = its.length) (hbox : w.cell? ⟨b, o, none⟩ = some v) (hfr : w.frozen? ⟨b, o, none⟩ = false) (hown : OwnP w B v l) (hits : LieP w g off its)
  (hn : 0 < its.length) (hlen : l.length + its.length ≤ 1000000) (hB : B ≤ w.heap.size) (hne : v.ownBlock ≠ some b) :
  Calls Tryz.prog 61 #[.pointer (some ⟨b, o, none⟩), .slice (some ⟨g, off, none⟩) m c] w fun e w' => e = .returned (.tuple #[]) ∧ ∃ g' c' w1, OwnP w1 B (.slice (some ⟨g', 0, none⟩) (l ++ its).length c') (l ++ its) ∧ Ext v (.slice (some ⟨g', 0, none⟩) (l ++ its).length c') w w1 ∧ w' = w1.setCell ⟨b, o, none⟩ (.slice (some ⟨g', 0, none⟩) (l ++ its).length c') := by
 subst hm
 have hb : b < w.heap.size := World.block_lt_of_cell? w ⟨b, o, none⟩ hbox
 obtain ⟨sa, sn, sc, rfl⟩ := OwnQ.slice hown
 have HO : Hid (OwnP w B (.slice sa sn sc) l) := hown
 have HI : Hid _ := hits.vv
 have HB : Hid (B ≤ w.heap.size) := hB
 have HN : Hid (0 < its.length) := hn
 have HL : Hid (l.length + its.length ≤ 1000000) := hlen
 have HE : Hid ((Value.slice sa sn sc).ownBlock ≠ some b) := hne
 clear hown hits hB hn hlen hne
 go_enter Tryz.func61, Tryz.ntmps61
 go_wp2_with (at_builtin; (refine wpl_q 34 64 23 (.int .i64 0) (.int .i64 0) 16 under_lpts under_pts Tryz.info34 (by decide) rfl w (.tmp 7) (.tmp 8) rfl B (.slice sa sn sc) (vP l) (vP its) rfl HO.out g off its.length c (vP_len its).symm rfl HI.out (vP_one its) (by rw [vP_len]; exact HN.out) ?cl HB.out rfl ?_))
 case cl => rw [vP_len, vP_len]; have := HL.out; omega
 intro g' c' w1 h2 h3
 rw [vP_len, ← vP_append] at h2
 rw [vP_len] at h3
 have y0 : w1.cell? ⟨b, o, none⟩ = some (.slice sa sn sc) := (Ext.cell h3 hb HE.out o).trans hbox
 have y1 : w1.frozen? ⟨b, o, none⟩ = false := (World.frozen?_of_block (w := w) (a := ⟨b, o, none⟩) (h3.1.block b hb (fun e => HE.out e.symm))).trans hfr
 have H2 : Hid _ := h2
 have H3 : Hid _ := h3
 rw [vP_len]
 clear h2 h3 hbox hfr
 go_wp2
 go_end0
 refine ⟨rfl, g', c', w1, ?_, ?_, ?_⟩
 ·rw [List.length_append]; exact H2.out
 ·rw [List.length_append]; exact H3.out
 ·rw [List.length_append]
def LV (bx : Nat) (w : World) (l : List Pnt) : Prop := ∃ v, w.cell? ⟨bx, 0, none⟩ = some v ∧ (∀ o, w.frozen? ⟨bx, o, none⟩ = false) ∧ OwnP w (bx + 1) v l
theorem LV.lt {bx : Nat} {w : World} {l : List Pnt} (h : LV bx w l) : bx < w.heap.size := by
 obtain ⟨v, h1, _⟩ := h
 exact World.block_lt_of_cell? w ⟨bx, 0, none⟩ h1
theorem LV.nw {bx : Nat} {w w' : World} {l : List Pnt} (h : LV bx w l) (k : Nw w w') : LV bx w' l := by
 have hb := h.lt
 obtain ⟨v, h1, h2, h3⟩ := h
 exact ⟨v, ((bcell k).1 _ _ hb).trans h1, fun o => ((bcell k).2 _ _ hb).trans (h2 o), h3.nw k⟩
theorem LV.new (w : World) (t : TypeId) : LV w.heap.size (w.alloc (.cells #[.slice none 0 0] t)) [] :=
 ⟨.slice none 0 0, by simp, fun o => World.frozen?_alloc_at _ _ _ _ rfl, OwnP.nil _ _⟩
theorem LV.val {bx : Nat} {w : World} {l : List Pnt} (h : LV bx w l) : ∃ a c, w.cell? ⟨bx, 0, none⟩ = some (.slice a l.length c) ∧ OwnP w (bx + 1) (.slice a l.length c) l := by
 obtain ⟨v, h1, h2, h3⟩ := h
 obtain ⟨a, c, rfl, _⟩ := h3.pts
 exact ⟨a, c, h1, h3⟩
theorem Nw.below {b : Nat} {w w' : World} (h : Nw w w') (hb : b ≤ w.heap.size) : Below b w w' := Below.mono h hb
theorem iadd_lv (w : World) (bx : Nat) (l its : List Pnt) (g off m c : Nat) (hm : m = its.length) (h : LV bx w l) (hits : LieP w g off its) (hn : 0 < its.length) (hlen : l.length + its.length ≤ 1000000) :
  Calls Tryz.prog 61 #[.pointer (some ⟨bx, 0, none⟩), .slice (some ⟨g, off, none⟩) m c] w fun e w' => e = .returned (.tuple #[]) ∧ LV bx w' (l ++ its) ∧ Below bx w w' := by
 have hb := h.lt
 obtain ⟨v, h1, h2, h3⟩ := h
 have hne : v.ownBlock ≠ some bx := fun e => by have := (OwnQ.lt h3 bx e).1; omega
 refine (iaddP w bx 0 (bx + 1) v l its g off m c hm h1 (h2 0) h3 hits hn hlen (by omega) hne).mono ?_
 rintro e w' ⟨rfl, g', c', w1, k1, k2, rfl⟩
 have hne2 : (Value.slice (some ⟨g', 0, none⟩) (l ++ its).length c').ownBlock ≠ some bx := Ext.apart k2 hb hne
 have hf : ∀ o, w1.frozen? ⟨bx, o, none⟩ = false := fun o => (World.frozen?_of_block (w := w) (a := ⟨bx, o, none⟩) (k2.1.block bx hb (fun e => hne e.symm))).trans (h2 o)
 refine ⟨rfl, ⟨_, World.cell?_setCell_same w1 ⟨bx, 0, none⟩ _ ((Ext.cell k2 hb hne 0).trans h1), fun o => by rw [World.frozen?_setCell]; exact hf o, OwnQ.far k1 bx 0 _ hne2⟩, ?_⟩
 exact (k2.below (fun g e => Nat.le_of_succ_le (OwnQ.lt h3 g e).1) (by omega)).setCell (Nat.le_refl _) _
theorem iadd_one (w : World) (bx : Nat) (l : List Pnt) (x y : Int) (t : TypeId) (h : LV bx w l) (hlen : l.length + 1 ≤ 1000000) :
  Calls Tryz.prog 61 #[.pointer (some ⟨bx, 0, none⟩), .slice (some ⟨w.heap.size, 0, none⟩) 1 1] (w.alloc (.cells #[.int .i64 x, .int .i64 y] t)) fun e w' => e = .returned (.tuple #[]) ∧ LV bx w' (l ++ [(x, y)]) ∧ Below bx w w' := by
 have n1 : Nw w (w.alloc (.cells #[.int .i64 x, .int .i64 y] t)) := (Below.refl _ _).alloc (Nat.le_refl _) _
 refine (iadd_lv _ bx l [(x, y)] w.heap.size 0 1 1 rfl (h.nw n1) (liep_one w x y t) (by simp) (by simpa using hlen)).mono ?_
 rintro e w' ⟨rfl, k1, k2⟩
 exact ⟨rfl, k1, Below.trans (n1.below (Nat.le_of_lt h.lt)) k2⟩
abbrev Its := List (Value × LD)
def itAt (it : Its) (i : Nat) : Value × LD := it.getD i (undef, noLD)
theorem ld_at (it : Its) (i : Nat) (h : i < it.length) : lnAt (it.map (·.2)) i = (itAt it i).2 := by simp [lnAt, itAt, h]
def vsOf (it : Its) : List Value := it.map (·.1)
def nsOf (it : Its) : List Nat := it.map fun p => p.2.pts.length
theorem vsOf_at (it : Its) (i : Nat) (h : i < it.length) : vAt (vsOf it) i = (itAt it i).1 := by simp [vAt, vsOf, itAt, h]
theorem nsOf_at (it : Its) (i : Nat) (h : i < it.length) : nAt (nsOf it) i = (itAt it i).2.pts.length := by simp [nAt, nsOf, itAt, h]
theorem info_line : (Tryz.prog.info? 25).map (fun i => (i.zero, i.size, i.bytes)) = some (some (.agg #[.slice none 0 0, .bool false]), 2, 32) := by kernel_rfl
theorem itAt_old (it : Its) (x : Value × LD) (i : Nat) (h : i < it.length) : itAt (it ++ [x]) i = itAt it i := by simp [itAt, List.getElem?_append, h]
theorem itAt_new (it : Its) (x : Value × LD) : itAt (it ++ [x]) it.length = x := by simp [itAt]
end Go.Proofs.YtfdjjbgcaojcnaaGreat
