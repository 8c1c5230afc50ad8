/-
  Points of the call's own as a row; each theorem names its conditions.
  Lines in memory; whether their points are fixed and how many they are, of both; each theorem names its conditions.
  Worlds in which only some blocks have been written; each theorem names its conditions.
  Rows of lines: what the laws' helper does that marks one; each theorem names its conditions.
-/
import Derived.Test.YtfdjjbgcaojcnaaGreatJAD
import Derived.Test.YtfdjjbgcaojcnaaGreatJAB
import Derived.Test.YtfdjjbgcaojcnaaGreatJAA
namespace Go.Proofs.YtfdjjbgcaojcnaaGreat
open Go.ChangeShapes Go.WideShapes Go.ChangeAt Go.RowKit
set_option linter.unusedVariables false

theorem OwnP.row {w : World} {B : Nat} {v : Value} {l : List Pnt} (h : OwnP w B v l) : RowP w v l := h.pts
end Go.Proofs.YtfdjjbgcaojcnaaGreat
namespace Go.Proofs.YtfdjjbgcaojcnaaGreat
open Go.ChangeShapes Go.WideShapes Go.ChangeAt Go.RowKit
set_option linter.unusedVariables false

/-- All points are fixed. -/
def fixL (l : List LD) : Bool := l.all fun x => ptsB x.pts
def goodL (l : List LD) : Bool := fixL l && decide (manyL l ≤ 600)
theorem fixL_false {l : List LD} {k j : Nat} (hk : k < l.length) (hj : j < (lnAt l k).pts.length) (h : ptB (ptAt (lnAt l k).pts j) = false) : fixL l = false := by
  refine all_false _ noLD l k hk ?_
  exact all_false _ (0, 0) _ j hj h
theorem fixL_true {l : List LD} (h : ∀ k, k < l.length → ptsB (lnAt l k).pts = true) : fixL l = true := all_true _ noLD l h
end Go.Proofs.YtfdjjbgcaojcnaaGreat
namespace Go.Proofs.YtfdjjbgcaojcnaaGreat
open Go.ChangeShapes Go.WideShapes Go.ChangeAt Go.RowKit
set_option linter.unusedVariables false

/-- Nothing that was there is written but in the blocks from lo on and below hi. -/
structure Mid (lo hi : Nat) (w w' : World) : Prop where
  os : w'.os = w.os
  tape : w'.tape = w.tape
  output : w'.output = w.output
  size : w.heap.size ≤ w'.heap.size
  block : ∀ k, k < w.heap.size → (k < lo ∨ hi ≤ k) → w'.heap[k]? = w.heap[k]?
theorem Mid.refl (lo hi : Nat) (w : World) : Mid lo hi w w := ⟨rfl, rfl, rfl, Nat.le_refl _, fun _ _ _ => rfl⟩
theorem Mid.nw {lo hi : Nat} {a b c : World} (h : Mid lo hi a b) (k : Nw b c) : Mid lo hi a c :=
  ⟨(Below.os k).trans h.os, (Below.tape k).trans h.tape, (Below.output k).trans h.output, Nat.le_trans h.size (Below.size k), fun i hi hb => (Below.block k i (Nat.lt_of_lt_of_le hi h.size)).trans (h.block i hi hb)⟩
theorem Mid.trans {lo hi : Nat} {a b c : World} (h : Mid lo hi a b) (k : Mid lo hi b c) : Mid lo hi a c :=
  ⟨k.os.trans h.os, k.tape.trans h.tape, k.output.trans h.output, Nat.le_trans h.size k.size, fun i hi hb => (k.block i (Nat.lt_of_lt_of_le hi h.size) hb).trans (h.block i hi hb)⟩
theorem Mid.set {lo hi : Nat} {a b : World} (h : Mid lo hi a b) {g : Nat} (h1 : lo ≤ g) (h2 : g < hi) (o : Nat) (v : Value) : Mid lo hi a (b.setCell ⟨g, o, none⟩ v) :=
  ⟨h.os, h.tape, h.output, by simpa [World.setCell] using h.size, fun i hi hb => by
    rw [Below.heap_setCell _ _ _ _ (by show i ≠ g; omega)]
    exact h.block i hi hb⟩
theorem Mid.below {lo hi : Nat} {a b : World} (h : Mid lo hi a b) (hl : lo ≤ a.heap.size) : Below lo a b :=
  ⟨h.os, h.tape, h.output, h.size, fun i hi => h.block i (by omega) (Or.inl hi)⟩
theorem Mid.cell {lo hi : Nat} {a b : World} (h : Mid lo hi a b) {g : Nat} (hg : g < a.heap.size) (hb : g < lo ∨ hi ≤ g) (o : Nat) : b.cell? ⟨g, o, none⟩ = a.cell? ⟨g, o, none⟩ :=
  World.cell?_of_block (w := a) (a := ⟨g, o, none⟩) (h.block g hg hb)
theorem Mid.frozen {lo hi : Nat} {a b : World} (h : Mid lo hi a b) {g : Nat} (hg : g < a.heap.size) (hb : g < lo ∨ hi ≤ g) (o : Nat) : b.frozen? ⟨g, o, none⟩ = a.frozen? ⟨g, o, none⟩ :=
  World.frozen?_of_block (w := a) (a := ⟨g, o, none⟩) (h.block g hg hb)
end Go.Proofs.YtfdjjbgcaojcnaaGreat
namespace Go.Proofs.YtfdjjbgcaojcnaaGreat
open Go.ChangeShapes Go.WideShapes Go.ChangeAt Go.RowKit
set_option linter.unusedVariables false

/-! ### Marks -/
def vAt (l : List Value) (i : Nat) : Value := l.getD i undef
def nAt (l : List Nat) (i : Nat) : Nat := l.getD i 0
/-- The mark that line i begins with. -/
def kAt (ns : List Nat) (K : Nat) : Nat → Nat
  | 0 => K
  | i + 1 => kAt ns K i + 2 * nAt ns i + 1
theorem kAt_ge (ns : List Nat) (K i : Nat) : K ≤ kAt ns K i := by
  induction i with
  | zero => exact Nat.le_refl _
  | succ i ih => simp only [kAt]; omega
theorem kAt_mono (ns : List Nat) (K : Nat) {i j : Nat} (h : i ≤ j) : kAt ns K i ≤ kAt ns K j := by
  induction j with
  | zero => obtain rfl : i = 0 := by omega
            exact Nat.le_refl _
  | succ j ih =>
    by_cases e : i = j + 1
    · rw [e]; exact Nat.le_refl _
    · have := ih (by omega); simp only [kAt]; omega
/-- Where the rows lie: the lines' in g, their points' elsewhere, each in a block of its own, all from lo on and below hi. -/
structure SF (lo hi g : Nat) (vs : List Value) : Prop where
  inn : lo ≤ g ∧ g < hi
  pts : ∀ i, i < vs.length → ∀ b, (vAt vs i).ownBlock = some b → lo ≤ b ∧ b < hi ∧ b ≠ g
  apart : ∀ i j, i ≠ j → i < vs.length → j < vs.length → ∀ b, (vAt vs i).ownBlock = some b → (vAt vs j).ownBlock ≠ some b
/-- Points that may be written. -/
def AnyV (w : World) (v : Value) (n : Nat) : Prop := (v = .slice none 0 0 ∧ n = 0) ∨ ∃ g c, v = .slice (some ⟨g, 0, none⟩) n c ∧ AnyPt w g n
def clB (k : Nat) : Bool := ((k : Int) % 3 == 0)
/-- Lines of which the first j bear marks. -/
structure MkLn (w : World) (g : Nat) (vs : List Value) (ns : List Nat) (K j : Nat) : Prop where
  lt : g < w.heap.size
  free : ∀ o, w.frozen? ⟨g, o, none⟩ = false
  sl : ∀ i, i < vs.length → w.cell? ⟨g, i * 2, none⟩ = some (vAt vs i)
  c1 : ∀ i, i < j → i < vs.length → w.cell? ⟨g, i * 2 + 1, none⟩ = some (.bool (clB (kAt ns K i + 2 * nAt ns i)))
  c2 : ∀ i, j ≤ i → i < vs.length → ∃ b, w.cell? ⟨g, i * 2 + 1, none⟩ = some (.bool b)
  p1 : ∀ i, i < j → i < vs.length → Mkd w (vAt vs i) (nAt ns i) (kAt ns K i)
  p2 : ∀ i, j ≤ i → i < vs.length → AnyV w (vAt vs i) (nAt ns i)
theorem AnyPt.grow {w w' : World} {g n : Nat} {r : Option Nat} (h : AnyPt w g n) (k : w.grownBy w' r) (hne : some g ≠ r) : AnyPt w' g n := by
  have e := fun o => World.cell?_of_block (w := w) (w' := w') (a := ⟨g, o, none⟩) (k.block g h.1 hne)
  have f := fun o => World.frozen?_of_block (w := w) (w' := w') (a := ⟨g, o, none⟩) (k.block g h.1 hne)
  refine ⟨Nat.lt_of_lt_of_le h.1 k.size, fun i hi => ?_, fun o => (f o).trans (h.2.2 o)⟩
  obtain ⟨⟨x, hx⟩, y, hy⟩ := h.2.1 i hi
  exact ⟨⟨x, (e _).trans hx⟩, y, (e _).trans hy⟩
theorem LayPt.grow {w w' : World} {g k : Nat} {l : List Pnt} {r : Option Nat} (h : LayPt w g l k) (q : w.grownBy w' r) (hne : some g ≠ r) : LayPt w' g l k := by
  have e := fun o => World.cell?_of_block (w := w) (w' := w') (a := ⟨g, o, none⟩) (q.block g h.1 hne)
  have f := fun o => World.frozen?_of_block (w := w) (w' := w') (a := ⟨g, o, none⟩) (q.block g h.1 hne)
  exact ⟨Nat.lt_of_lt_of_le h.1 q.size, fun i hi => ⟨(e _).trans (h.2.1 i hi).1, (e _).trans (h.2.1 i hi).2⟩, fun i a b => ⟨(e _).trans (h.2.2.1 i a b).1, (e _).trans (h.2.2.1 i a b).2⟩, fun o => (f o).trans (h.2.2.2 o)⟩
theorem AnyV.grow {w w' : World} {v : Value} {n : Nat} {r : Option Nat} (h : AnyV w v n) (k : w.grownBy w' r) (hne : ∀ g, v.ownBlock = some g → some g ≠ r) : AnyV w' v n := by
  rcases h with h | ⟨g, c, h1, h2⟩
  · exact Or.inl h
  · exact Or.inr ⟨g, c, h1, h2.grow k (hne g (by rw [h1]; rfl))⟩
theorem Mkd.grow {w w' : World} {v : Value} {n K : Nat} {r : Option Nat} (h : Mkd w v n K) (k : w.grownBy w' r) (hne : ∀ g, v.ownBlock = some g → some g ≠ r) : Mkd w' v n K := by
  rcases h with h | ⟨g, c, h1, h2⟩
  · exact Or.inl h
  · exact Or.inr ⟨g, c, h1, h2.grow k (hne g (by rw [h1]; rfl))⟩
/-- One more line bears its marks. -/
theorem MkLn.step {w w' : World} {lo hi g : Nat} {vs : List Value} {ns : List Nat} {K j : Nat} (h : MkLn w g vs ns K j) (hs : SF lo hi g vs) (hj : j < vs.length) (k : w.grownBy w' (vAt vs j).ownBlock) (hm : Mkd w' (vAt vs j) (nAt ns j) (kAt ns K j)) :
    MkLn (w'.setCell ⟨g, j * 2 + 1, none⟩ (.bool (clB (kAt ns K j + 2 * nAt ns j)))) g vs ns K (j + 1) := by
  have hg : some g ≠ (vAt vs j).ownBlock := fun e => (hs.pts j hj g e.symm).2.2 rfl
  have e := fun o => World.cell?_of_block (w := w) (w' := w') (a := ⟨g, o, none⟩) (k.block g h.lt hg)
  have f := fun o => World.frozen?_of_block (w := w) (w' := w') (a := ⟨g, o, none⟩) (k.block g h.lt hg)
  have far : ∀ o, o ≠ j * 2 + 1 → (w'.setCell ⟨g, j * 2 + 1, none⟩ (.bool (clB (kAt ns K j + 2 * nAt ns j)))).cell? ⟨g, o, none⟩ = w'.cell? ⟨g, o, none⟩ := fun o ho => World.cell?_setCell_other _ _ _ _ (fun e => by injection e; omega)
  obtain ⟨b0, hb0⟩ := h.c2 j (Nat.le_refl _) hj
  have sg : w'.grownBy (w'.setCell ⟨g, j * 2 + 1, none⟩ (.bool (clB (kAt ns K j + 2 * nAt ns j)))) (some g) := set_grown
  have ng : ∀ i, i < vs.length → ∀ b, (vAt vs i).ownBlock = some b → some b ≠ some g := fun i hi b hb e => by injection e with e; exact (hs.pts i hi b hb).2.2 e
  refine ⟨Nat.lt_of_lt_of_le h.lt (by simpa [World.setCell] using k.size), fun o => by rw [World.frozen?_setCell]; exact (f o).trans (h.free o), fun i hi => ?_, fun i hij hi => ?_, fun i hij hi => ?_, fun i hij hi => ?_, fun i hij hi => ?_⟩
  · rw [far _ (by omega)]; exact (e _).trans (h.sl i hi)
  · by_cases ej : i = j
    · subst ej; exact World.cell?_setCell_same w' ⟨g, i * 2 + 1, none⟩ _ ((e _).trans hb0)
    · rw [far _ (by omega)]; exact (e _).trans (h.c1 i (by omega) hi)
  · obtain ⟨b, hb⟩ := h.c2 i (by omega) hi
    exact ⟨b, by rw [far _ (by omega)]; exact (e _).trans hb⟩
  · by_cases ej : i = j
    · subst ej; exact hm.grow sg (ng i hi)
    · exact ((h.p1 i (by omega) hi).grow k (fun b hb => fun e2 => hs.apart i j ej hi hj b hb e2.symm)).grow sg (ng i hi)
  · exact ((h.p2 i (by omega) hi).grow k (fun b hb => fun e2 => hs.apart i j (by omega) hi hj b hb e2.symm)).grow sg (ng i hi)
theorem AnyV.form {w : World} {v : Value} {n : Nat} (h : AnyV w v n) : ∃ a c, v = .slice a n c := by
  rcases h with ⟨h1, h2⟩ | ⟨g, c, h1, _⟩
  · exact ⟨none, 0, by rw [h1, h2]⟩
  · exact ⟨_, c, h1⟩
theorem Mkd.form {w : World} {v : Value} {n K : Nat} (h : Mkd w v n K) : ∃ a c, v = .slice a n c := by
  rcases h with ⟨h1, h2⟩ | ⟨g, c, h1, _⟩
  · exact ⟨none, 0, by rw [h1, h2]⟩
  · exact ⟨_, c, h1⟩
/-- Marks in points, whatever row it is. -/
theorem markPt_v (w : World) (v : Value) (n K : Nat) (hl : n ≤ 1048576) (hK2 : K ≤ 50000000) (h : AnyV w v n) :
    Calls Tryz.prog 54 #[v, .int .i64 (K : Int)] w fun e w' => e = .returned (.int .i64 ((K + 2 * n : Nat) : Int)) ∧ w.grownBy w' v.ownBlock ∧ Mkd w' v n K := by
  rcases h with ⟨rfl, rfl⟩ | ⟨g, c, rfl, h2⟩
  · refine (markPt_nil w K hK2).mono ?_
    rintro e w' ⟨rfl, rfl⟩
    exact ⟨rfl, grP_refl _ _, Or.inl ⟨rfl, rfl⟩⟩
  · refine (markPt_any w g c K n hl hK2 h2).mono ?_
    rintro e w' ⟨rfl, h3, h4⟩
    exact ⟨rfl, h3, Or.inr ⟨g, c, rfl, h4⟩⟩
theorem Mid.of_grown {lo hi : Nat} {a b : World} {r : Option Nat} (k : a.grownBy b r) (h : ∀ g, r = some g → lo ≤ g ∧ g < hi) : Mid lo hi a b :=
  ⟨k.os, k.tape, k.output, k.size, fun i hi hb => k.block i hi (fun e => by have := h i e.symm; omega)⟩
theorem clB_at (Z : Nat) : clB Z = ((Z : Int) % 3 == 0) := rfl
set_option maxHeartbeats 4000000 in
theorem markLineS_any (w : World) (lo hi g c : Nat) (vs : List Value) (ns : List Nat) (K : Nat) (hs : SF lo hi g vs) (hn : vs.length ≤ 1048576) (hk : ∀ i, i < vs.length → nAt ns i ≤ 1048576) (hK : kAt ns K vs.length ≤ 40000000) (h : MkLn w g vs ns K 0) :
    Calls Tryz.prog 18 #[.slice (some ⟨g, 0, none⟩) vs.length c, .int .i64 (K : Int)] w fun e w' => e = .returned (.int .i64 (kAt ns K vs.length : Int)) ∧ Mid lo hi w w' ∧ MkLn w' g vs ns K vs.length := by
  have HS : Hid (SF lo hi g vs) := hs
  have HK : Hid (∀ i, i < vs.length → nAt ns i ≤ 1048576) := hk
  have HH : Hid (MkLn w g vs ns K 0) := h
  clear hs hk h
  go_enter Tryz.func18, Tryz.ntmps18
  go_wp2
  go_loopw [1, 5] (fun x i wr => ∃ j : Nat, j ≤ vs.length ∧ i = .int .i64 j ∧ x = .int .i64 (kAt ns K j : Int) ∧ Mid lo hi w wr ∧ MkLn wr g vs ns K j) (fun _ i _ => vs.length - (intOf i).toNat)
  case atStart => exact ⟨0, Nat.zero_le _, rfl, rfl, Mid.refl _ _ _, HH.out⟩
  case round =>
    obtain ⟨j, hj, rfl, rfl, hw, hm⟩ := hrel
    have HW : Hid (Mid lo hi w wr) := hw
    have HM : Hid (MkLn wr g vs ns K j) := hm
    clear hw hm
    by_cases hlt : j < vs.length
    · have q0 := HM.out.sl j hlt
      obtain ⟨b0, q1⟩ := HM.out.c2 j (Nat.le_refl _) hlt
      have qf := HM.out.free
      have hkj : kAt ns K (j + 1) ≤ kAt ns K vs.length := kAt_mono ns K hlt
      have HE : Hid (kAt ns K (j + 1) = kAt ns K j + 2 * nAt ns j + 1) := rfl
      have hkj2 : kAt ns K j + 2 * nAt ns j + 1 ≤ 40000000 := by have := HE.out; omega
      have HC : Hid _ := markPt_v wr (vAt vs j) (nAt ns j) (kAt ns K j) (HK.out j hlt) (by omega) (HM.out.p2 j (Nat.le_refl _) hlt)
      obtain ⟨va, vc, hv⟩ := (HM.out.p2 j (Nat.le_refl _) hlt).form
      have HST : Hid (∀ w1, wr.grownBy w1 (vAt vs j).ownBlock → Mkd w1 (vAt vs j) (nAt ns j) (kAt ns K j) → (∃ b, w1.cell? ⟨g, j * 2 + 1, none⟩ = some (.bool b)) ∧ (∀ o, w1.frozen? ⟨g, o, none⟩ = false) ∧ MkLn (w1.setCell ⟨g, j * 2 + 1, none⟩ (.bool (clB (kAt ns K j + 2 * nAt ns j)))) g vs ns K (j + 1) ∧ Mid lo hi w (w1.setCell ⟨g, j * 2 + 1, none⟩ (.bool (clB (kAt ns K j + 2 * nAt ns j))))) := fun w1 k1 k2 => by
        have hg : some g ≠ (vAt vs j).ownBlock := fun e => (HS.out.pts j hlt g e.symm).2.2 rfl
        refine ⟨⟨b0, (World.cell?_of_block (w := wr) (w' := w1) (a := ⟨g, j * 2 + 1, none⟩) (k1.block g HM.out.lt hg)).trans q1⟩, fun o => (World.frozen?_of_block (w := wr) (w' := w1) (a := ⟨g, o, none⟩) (k1.block g HM.out.lt hg)).trans (qf o), HM.out.step HS.out hlt k1 k2, ?_⟩
        exact (Mid.trans HW.out (Mid.of_grown k1 (fun b hb => ⟨(HS.out.pts j hlt b hb).1, (HS.out.pts j hlt b hb).2.1⟩))).set HS.out.inn.1 HS.out.inn.2 _ _
      rw [hv] at q0 HC HST
      generalize nAt ns j = n at *
      generalize kAt ns K j = k at *
      clear hv
      go_wp2_with fail
      refine Calls.mono HC.out ?_
      rintro e w1 ⟨rfl, k1, k2⟩
      obtain ⟨⟨b1, r1⟩, rf, s1, s2⟩ := HST.out w1 k1 k2
      have S1 : Hid _ := s1
      have S2 : Hid _ := s2
      rw [clB_at] at S1 S2
      have hkz : 0 ≤ ((k + 2 * n : Nat) : Int) ∧ ((k + 2 * n : Nat) : Int) ≤ 40000000 := by omega
      have HZ : Hid (((k + 2 * n + 1 : Nat) : Int) = ((k + 2 * n : Nat) : Int) + 1) := by show _ = _; omega
      generalize ((k + 2 * n : Nat) : Int) = Z at *
      clear s1 s2 k1 k2 HC HST
      go_wp2
      go_roundw
      case rel => exact ⟨j + 1, by omega, by go_num, by rw [HE.out, HZ.out], S2.out, S1.out⟩
      case measure => simp [intOf]; omega
    · have e : j = vs.length := by omega
      subst e
      go_wp2
      go_ret
      exact ⟨rfl, HW.out, HM.out⟩
theorem markLineS_nil (w : World) (K : Nat) (hK : K ≤ 40000000) : Calls Tryz.prog 18 #[.slice none 0 0, .int .i64 (K : Int)] w fun e w' => e = .returned (.int .i64 (K : Int)) ∧ w' = w := by
  go_enter Tryz.func18, Tryz.ntmps18
  go_wp2
  go_loop [1, 5] (fun x i => x = .int .i64 (K : Int) ∧ i = .int .i64 0) (fun _ _ => 0)
  case atStart => exact ⟨rfl, rfl⟩
  case round =>
    obtain ⟨rfl, rfl⟩ := hrel
    go_wp2
    go_ret
    exact ⟨rfl, rfl⟩
end Go.Proofs.YtfdjjbgcaojcnaaGreat
