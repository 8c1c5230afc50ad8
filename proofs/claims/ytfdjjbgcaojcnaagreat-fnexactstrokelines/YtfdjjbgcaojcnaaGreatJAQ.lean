/-
  What the laws' helpers do that hold two lists of numbers against each other, and mark one; each theorem names its conditions.
  Numbers that come in: what the laws' helpers do that measure a list of them and copy it; each theorem names its conditions.
  A line cut into dashes, as pure functions, and a dashing in a variable; each theorem names its conditions.
  A dashing's next, reach, lay and turn, by the program; each theorem names its conditions.
-/
import Derived.Test.YtfdjjbgcaojcnaaGreatJAP
import Derived.Test.YtfdjjbgcaojcnaaGreatJAG
namespace Go.Proofs.YtfdjjbgcaojcnaaGreat
open Go.ChangeShapes Go.WideShapes Go.ChangeAt Go.RowKit
set_option linter.unusedVariables false

/-- The numbers l are what v holds. -/
def RowI (w : World) (v : Value) (l : List Int) : Prop :=
  (v = .slice none 0 0 ∧ l = []) ∨ ∃ g c, v = .slice (some ⟨g, 0, none⟩) l.length c ∧ g < w.heap.size ∧ ∀ i, i < l.length → w.cell? ⟨g, i, none⟩ = some (.int .i64 (intAt l i))
theorem RowI.nw {w w' : World} {v : Value} {l : List Int} (h : RowI w v l) (k : Nw w w') : RowI w' v l := by
  rcases h with h | ⟨g, c, h1, h2, h3⟩
  · exact Or.inl h
  · exact Or.inr ⟨g, c, h1, Nat.lt_of_lt_of_le h2 (Below.size k), fun i hi => ((bcell k).1 _ _ h2).trans (h3 i hi)⟩
theorem LayI.row {w : World} {g c : Nat} {l : List Int} (h : LayI w g l) : RowI w (.slice (some ⟨g, 0, none⟩) l.length c) l := Or.inr ⟨g, c, rfl, h.1, h.2.1⟩
theorem Ins.row {w : World} {B : Nat} {v : Value} {l : List Int} (h : Ins w B v l) : RowI w v l := by
  rcases h.lay with h | ⟨g, c, h1, _, h3⟩
  · exact Or.inl h
  · rw [h1]; exact h3.row
set_option maxHeartbeats 1000000 in
theorem eqI_any (w : World) (v1 v2 : Value) (l : List Int) (hl : l.length ≤ 1048576) (h1 : RowI w v1 l) (h2 : RowI w v2 l) :
    Calls Tryz.prog 53 #[v1, v2] w fun e w' => e = .returned (.bool true) ∧ Nw w w' := by
  have form : ∀ v, RowI w v l → ∃ a c, v = .slice a l.length c := fun v h => by
    rcases h with ⟨rfl, rfl⟩ | ⟨g, c, rfl, _⟩
    · exact ⟨none, 0, rfl⟩
    · exact ⟨_, c, rfl⟩
  obtain ⟨a1, c1, rfl⟩ := form v1 h1
  obtain ⟨a2, c2, rfl⟩ := form v2 h2
  clear form
  have H1 : Hid (RowI w (.slice a1 l.length c1) l) := h1
  have H2 : Hid (RowI w (.slice a2 l.length c2) l) := h2
  clear h1 h2
  go_enter Tryz.func53, Tryz.ntmps53
  go_wp2
  go_loopw [5] (fun i wr => ∃ j : Nat, j ≤ l.length ∧ i = .int .i64 j ∧ Nw w wr) (fun i _ => l.length - (intOf i).toNat)
  case atStart => exact ⟨0, Nat.zero_le _, rfl, Below.refl _ _⟩
  case round =>
    obtain ⟨j, hj, rfl, hw⟩ := hrel
    by_cases hlt : j < l.length
    · rcases RowI.nw H1.out hw with ⟨_, e⟩ | ⟨g1, d1, e1, f1, k1⟩
      · rw [e] at hlt; simp at hlt
      rcases RowI.nw H2.out hw with ⟨_, e⟩ | ⟨g2, d2, e2, f2, k2⟩
      · rw [e] at hlt; simp at hlt
      injection e1 with e1 _ x1
      injection e2 with e2 _ x2
      subst e1 e2 x1 x2
      have q1 := k1 j hlt
      have q2 := k2 j hlt
      have HW : Hid (Nw w wr) := hw
      clear hw k1 k2 f1 f2 H1 H2
      generalize intAt l j = x at *
      go_wp2
      go_region
      all_goals
        go_wp2
        go_roundw
        case rel => exact ⟨j + 1, by omega, by go_num, Nw.trans HW.out ((Below.refl _ _).drew)⟩
        case measure => simp [intOf]; omega
    · have e : j = l.length := by omega
      have HW : Hid (Nw w wr) := hw
      clear hw
      subst e
      go_wp2
      go_ret
      exact ⟨rfl, HW.out⟩

def mkL (K n : Nat) : List Int := (List.range n).map fun i => ((K + i : Nat) : Int)
theorem mkL_len (K n : Nat) : (mkL K n).length = n := by simp [mkL]
theorem mkL_at (K n i : Nat) (h : i < n) : intAt (mkL K n) i = ((K + i : Nat) : Int) := by simp [intAt, mkL, h]
theorem grI_refl (w : World) (r : Option Nat) : w.grownBy w r := ⟨rfl, rfl, rfl, Nat.le_refl _, fun _ _ _ => rfl⟩
theorem grI_set {a b : World} {g : Nat} (h : a.grownBy b (some g)) (o : Nat) (v : Value) : a.grownBy (b.setCell ⟨g, o, none⟩ v) (some g) :=
  ⟨h.os, h.tape, h.output, by simpa [World.setCell] using h.size, fun i hi hne => by
    rw [Below.heap_setCell _ _ _ _ (by intro e; apply hne; rw [e])]
    exact h.block i hi hne⟩
theorem grI_below {a b : World} {g B : Nat} (h : a.grownBy b (some g)) (hg : B ≤ g) (hB : B ≤ a.heap.size) : Below B a b :=
  ⟨h.os, h.tape, h.output, h.size, fun i hi => h.block i (by omega) (by intro e; injection e; omega)⟩
theorem RowI.grown {w w' : World} {g : Nat} {v : Value} {l : List Int} (h : RowI w v l) (k : w.grownBy w' (some g)) (hne : v.ownBlock ≠ some g) : RowI w' v l := by
  rcases h with h | ⟨b, c, rfl, hb, hc⟩
  · exact Or.inl h
  · refine Or.inr ⟨b, c, rfl, Nat.lt_of_lt_of_le hb k.size, fun i hi => ?_⟩
    exact (World.cell?_of_block (w := w) (a := ⟨b, i, none⟩) (k.block b hb (by intro e; apply hne; rw [← e]; rfl))).trans (hc i hi)
/-- A row of numbers of which the first j bear marks. -/
def MkI (w : World) (g K n j : Nat) : Prop :=
  g < w.heap.size ∧ (∀ i, i < j → w.cell? ⟨g, i, none⟩ = some (.int .i64 ((K + i : Nat) : Int))) ∧ (∀ i, j ≤ i → i < n → ∃ x : Int, w.cell? ⟨g, i, none⟩ = some (.int .i64 x)) ∧ ∀ o, w.frozen? ⟨g, o, none⟩ = false
theorem MkI.step {w : World} {g K n j : Nat} (h : MkI w g K n j) (hj : j < n) : MkI (w.setCell ⟨g, j, none⟩ (.int .i64 ((K + j : Nat) : Int))) g K n (j + 1) := by
  obtain ⟨h1, h2, h3, h4⟩ := h
  obtain ⟨s0, c0⟩ := h3 j (Nat.le_refl _) hj
  have far : ∀ o, o ≠ j → (w.setCell ⟨g, j, none⟩ (.int .i64 ((K + j : Nat) : Int))).cell? ⟨g, o, none⟩ = w.cell? ⟨g, o, none⟩ := by
    intro o a
    rw [World.cell?_setCell_other _ _ _ _ (fun h => by injection h; omega)]
  refine ⟨by simpa [World.setCell] using h1, fun i hi => ?_, fun i a b => ?_, fun o => by rw [World.frozen?_setCell]; exact h4 o⟩
  · by_cases e : i = j
    · subst e; exact World.cell?_setCell_same w ⟨g, i, none⟩ _ c0
    · rw [far i e]; exact h2 i (by omega)
  · rw [far i (by omega)]; exact h3 i (by omega) b
theorem MkI.lay {w : World} {g K n : Nat} (h : MkI w g K n n) : LayI w g (mkL K n) :=
  ⟨h.1, fun i hi => by rw [mkL_len] at hi; rw [mkL_at K n i hi]; exact h.2.1 i hi, h.2.2.2⟩
set_option maxHeartbeats 1000000 in
theorem markI_any (w : World) (g c K : Nat) (l : List Int) (hl : l.length ≤ 1048576) (hK2 : K ≤ 50000000) (h : LayI w g l) :
    Calls Tryz.prog 55 #[.slice (some ⟨g, 0, none⟩) l.length c, .int .i64 (K : Int)] w fun e w' => e = .returned (.int .i64 ((K + l.length : Nat) : Int)) ∧ w.grownBy w' (some g) ∧ LayI w' g (mkL K l.length) := by
  have HS : Hid (MkI w g K l.length 0) := ⟨h.1, fun i hi => absurd hi (by omega), fun i _ b => ⟨_, h.2.1 i b⟩, h.2.2⟩
  clear h
  go_enter Tryz.func55, Tryz.ntmps55
  go_wp2
  go_loopw [1, 5] (fun x i wr => ∃ j : Nat, j ≤ l.length ∧ i = .int .i64 j ∧ x = .int .i64 ((K + j : Nat) : Int) ∧ w.grownBy wr (some g) ∧ MkI wr g K l.length j) (fun _ i _ => l.length - (intOf i).toNat)
  case atStart => exact ⟨0, Nat.zero_le _, rfl, rfl, grI_refl _ _, HS.out⟩
  case round =>
    obtain ⟨j, hj, rfl, rfl, hw, hm⟩ := hrel
    have HW : Hid (w.grownBy wr (some g)) := hw
    have HM : Hid (MkI wr g K l.length j) := hm
    clear hw hm
    by_cases hlt : j < l.length
    · obtain ⟨s0, c0⟩ := HM.out.2.2.1 j (Nat.le_refl _) hlt
      have hf0 := HM.out.2.2.2
      go_wp2
      go_roundw
      case rel =>
        refine ⟨j + 1, by omega, by go_num, by go_num, grI_set HW.out _ _, ?_⟩
        have h := HM.out.step hlt
        rw [show ((K + j : Nat) : Int) = (K : Int) + (j : Int) by omega] at h
        exact h
      case measure => simp [intOf]; omega
    · have e : j = l.length := by omega
      subst e
      go_wp2
      go_ret
      exact ⟨rfl, HW.out, HM.out.lay⟩
end Go.Proofs.YtfdjjbgcaojcnaaGreat
namespace Go.Proofs.YtfdjjbgcaojcnaaGreat
open Go.ChangeShapes Go.WideShapes Go.ChangeAt Go.RowKit
set_option linter.unusedVariables false

/-- The numbers l lie at a. -/
def Ints (w : World) (a : Option Addr) (l : List Int) : Prop :=
  l = [] ∨ ∃ b off, a = some ⟨b, off, none⟩ ∧ b < w.heap.size ∧ ∀ i, i < l.length → w.cell? ⟨b, off + i, none⟩ = some (.int .i64 (intAt l i))
theorem Ints.nw {w w' : World} {a : Option Addr} {l : List Int} (h : Ints w a l) (k : Nw w w') : Ints w' a l := by
  rcases h with h | ⟨b, off, rfl, hb, hc⟩
  · exact Or.inl h
  · exact Or.inr ⟨b, off, rfl, Nat.lt_of_lt_of_le hb (Below.size k), fun i hi => ((bcell k).1 _ _ hb).trans (hc i hi)⟩
theorem LayI.ints {w : World} {g : Nat} {l : List Int} (h : LayI w g l) : Ints w (some ⟨g, 0, none⟩) l := Or.inr ⟨g, 0, rfl, h.1, fun i hi => by rw [Nat.zero_add]; exact h.2.1 i hi⟩
theorem szIntS_any (w : World) (a : Option Addr) (n c : Nat) (left : Int) (h0 : 0 ≤ left) (h1 : left ≤ 1048576) (hm : n ≤ maxLen) :
    Calls Tryz.prog 49 #[.slice a n c, .int .i64 left] w fun e w' => e = .returned (.int .i64 (if (n : Int) ≤ left then left - (n : Int) else -1)) ∧ w' = w := by
  unfold maxLen at hm
  by_cases c1 : (n : Int) ≤ left
  · rw [if_pos c1]
    go_enter Tryz.func49, Tryz.ntmps49
    go_wp2
    go_ret
    exact ⟨rfl, rfl⟩
  · rw [if_neg c1]
    go_enter Tryz.func49, Tryz.ntmps49
    go_wp2
    go_ret
    exact ⟨rfl, rfl⟩
/-- A new list of which the first k numbers have been laid. -/
def LayIk (w : World) (g : Nat) (l : List Int) (k : Nat) : Prop :=
  g < w.heap.size ∧ (∀ i, i < k → w.cell? ⟨g, i, none⟩ = some (.int .i64 (intAt l i))) ∧ (∀ i, k ≤ i → i < l.length → w.cell? ⟨g, i, none⟩ = some (.int .i64 0)) ∧ ∀ o, w.frozen? ⟨g, o, none⟩ = false
theorem LayIk.step {w : World} {g k : Nat} {l : List Int} (h : LayIk w g l k) (hk : k < l.length) : LayIk (w.setCell ⟨g, k, none⟩ (.int .i64 (intAt l k))) g l (k + 1) := by
  obtain ⟨h2, h3, h4, h5⟩ := h
  have c0 := h4 k (Nat.le_refl _) hk
  have far : ∀ o, o ≠ k → (w.setCell ⟨g, k, none⟩ (.int .i64 (intAt l k))).cell? ⟨g, o, none⟩ = w.cell? ⟨g, o, none⟩ := fun o a => World.cell?_setCell_other _ _ _ _ (fun h => by injection h; omega)
  refine ⟨by simpa [World.setCell] using h2, fun m hm => ?_, fun m hm1 hm2 => ?_, fun o => by rw [World.frozen?_setCell]; exact h5 o⟩
  · by_cases e : m = k
    · subst e; exact World.cell?_setCell_same w ⟨g, m, none⟩ _ c0
    · rw [far _ e]; exact h3 m (by omega)
  · rw [far _ (by omega)]; exact h4 m (by omega) hm2
theorem info_int : (Tryz.prog.info? 3).map (fun i => (i.zero, i.size, i.bytes)) = some (some (.int .i64 0), 1, 8) := by kernel_rfl
theorem LayIk.start (w : World) (l : List Int) (t : TypeId) : LayIk (w.alloc (.cells (madeCells #[.int .i64 0] l.length) t)) w.heap.size l 0 := by
  refine ⟨by simp, fun i hi => absurd hi (by omega), fun i _ hi => ?_, fun o => World.frozen?_alloc_at _ _ _ _ rfl⟩
  have := madeCells_get #[.int .i64 0] l.length i (by omega)
  have e : i % 1 = 0 := Nat.mod_one i
  simp [e] at this
  simp [this]
set_option maxHeartbeats 1000000 in
theorem toIntS_any (w : World) (a : Option Addr) (c : Nat) (l : List Int) (hm : l.length ≤ 1048576) (hr : Ints w a l) :
    Calls Tryz.prog 51 #[.slice a l.length c] w fun e w' => e = .returned (.slice (some ⟨w.heap.size, 0, none⟩) l.length l.length) ∧ Nw w w' ∧ LayI w' w.heap.size l := by
  have HR : Hid (Ints w a l) := hr
  clear hr
  have hmk := run_mk 26 3 _ 1 8 Tryz.underlying26 info_int l.length (by omega) (by omega)
  have hcs : (Value.int .i64 0).cells = #[.int .i64 0] := rfl
  rw [hcs] at hmk
  go_enter Tryz.func51, Tryz.ntmps51
  go_wp2
  go_loopw [4] (fun i wr => ∃ k : Nat, k ≤ l.length ∧ i = .int .i64 k ∧ Nw w wr ∧ LayIk wr w.heap.size l k) (fun i _ => l.length - (intOf i).toNat)
  case atStart => exact ⟨0, Nat.zero_le _, rfl, (Below.refl _ _).alloc (Nat.le_refl _) _, LayIk.start w l _⟩
  case round =>
    obtain ⟨k, hk, rfl, hw, hlay⟩ := hrel
    clear hmk hcs
    by_cases hlt : k < l.length
    · rcases (HR.out.nw hw) with h | ⟨b, off, rfl, hbk, hc⟩
      · rw [h] at hlt; simp at hlt
      have q0 := hc k hlt
      clear hc
      have HW : Hid (Nw w wr) := hw
      have z0 := hlay.2.2.1 k (Nat.le_refl _) hlt
      have zf := hlay.2.2.2
      have HL : Hid (LayIk wr w.heap.size l k) := hlay
      clear hw hlay
      go_wp2
      go_roundw
      case rel =>
        exact ⟨k + 1, by omega, by go_num, Below.setCell HW.out (Nat.le_refl _) _, LayIk.step HL.out hlt⟩
      case measure => simp [intOf]; omega
    · have e : k = l.length := by omega
      subst e
      have HN : Hid (Nw w wr ∧ LayIk wr w.heap.size l l.length) := ⟨hw, hlay⟩
      clear hw hlay
      go_wp2
      go_ret
      exact ⟨rfl, HN.out.1, HN.out.2.1, HN.out.2.2.1, HN.out.2.2.2.2⟩
end Go.Proofs.YtfdjjbgcaojcnaaGreat
namespace Go.Proofs.YtfdjjbgcaojcnaaGreat
open Go.ChangeShapes Go.WideShapes Go.ChangeAt Go.RowKit
set_option linter.unusedVariables false

/-- Where a dashing is: its number (counted on), what is left of it, how many began, the points of the dash, the dashes. -/
structure Dg where
  at' : Nat
  left : Int
  begun : Nat
  p : List Pnt
  o : List LD
def skipB (d : Dg) (q : Pnt) : Bool := decide (d.at' % 2 = 1) || (decide (0 < d.p.length) && decide (lastP d.p = q))
def reachD (d : Dg) (q : Pnt) : Dg := if skipB d q then d else ⟨d.at', d.left, d.begun, d.p ++ [q], d.o⟩
def layD (d : Dg) : Dg := ⟨d.at', d.left, d.begun, [], endL d.o d.p false⟩
def nextD (ns : List Int) (d : Dg) : Dg := ⟨d.at' + 1, intAt ns ((d.at' + 1) % ns.length), d.begun, d.p, d.o⟩
def moreD (d : Dg) : Dg := ⟨d.at', d.left, d.begun + 1, d.p, d.o⟩
def turnD (ns : List Int) (d : Dg) (q : Pnt) : Dg := reachD (moreD (nextD ns (layD (reachD d q)))) q
/-- A dashing in a variable. -/
structure DH (bx : Nat) (w : World) (nv : Value) (a l b : Int) (v : Value) (it : Its) (u : Value) (p : List Pnt) : Prop where
  c0 : w.cell? ⟨bx, 0, none⟩ = some nv
  c1 : w.cell? ⟨bx, 1, none⟩ = some (.int .i64 a)
  c2 : w.cell? ⟨bx, 2, none⟩ = some (.int .i64 l)
  c3 : w.cell? ⟨bx, 3, none⟩ = some (.int .i64 b)
  c4 : w.cell? ⟨bx, 4, none⟩ = some u
  c5 : w.cell? ⟨bx, 5, none⟩ = some v
  free : ∀ o, w.frozen? ⟨bx, o, none⟩ = false
  d : D2 w (bx + 1) v it u p
section
variable {bx : Nat} {w w' : World} {nv : Value} {a l b : Int} {v u : Value} {it : Its} {p : List Pnt}
theorem DH.lt (h : DH bx w nv a l b v it u p) : bx < w.heap.size := World.block_lt_of_cell? w ⟨bx, 0, none⟩ h.c0
theorem DH.nw (h : DH bx w nv a l b v it u p) (k : Nw w w') : DH bx w' nv a l b v it u p := by
  have e := fun o => (bcell k).1 bx o h.lt
  exact ⟨(e _).trans h.c0, (e _).trans h.c1, (e _).trans h.c2, (e _).trans h.c3, (e _).trans h.c4, (e _).trans h.c5, fun o => ((bcell k).2 _ _ h.lt).trans (h.free o), h.d.nw k⟩
theorem DH.neu (h : DH bx w nv a l b v it u p) : u.ownBlock ≠ some bx := fun e => by have := (OwnQ.lt h.d.pt bx e).1; omega
theorem DH.nev (h : DH bx w nv a l b v it u p) : v.ownBlock ≠ some bx := fun e => by have := (OwnQ.lt h.d.ln.own bx e).1; omega
theorem DH.setA (h : DH bx w nv a l b v it u p) (x : Int) : DH bx (w.setCell ⟨bx, 1, none⟩ (.int .i64 x)) nv x l b v it u p ∧ Below bx w (w.setCell ⟨bx, 1, none⟩ (.int .i64 x)) := by
  have e : ∀ o, o ≠ 1 → (w.setCell ⟨bx, 1, none⟩ (.int .i64 x)).cell? ⟨bx, o, none⟩ = w.cell? ⟨bx, o, none⟩ := fun o ho => World.cell?_setCell_other _ _ _ _ (fun e => by injection e; omega)
  exact ⟨⟨(e _ (by decide)).trans h.c0, World.cell?_setCell_same w ⟨bx, 1, none⟩ _ h.c1, (e _ (by decide)).trans h.c2, (e _ (by decide)).trans h.c3, (e _ (by decide)).trans h.c4, (e _ (by decide)).trans h.c5, fun o => by rw [World.frozen?_setCell]; exact h.free o, h.d.far bx 1 _ (by omega)⟩, (Below.refl bx w).setCell (p := ⟨bx, 1, none⟩) (Nat.le_refl _) _⟩
theorem DH.setL (h : DH bx w nv a l b v it u p) (x : Int) : DH bx (w.setCell ⟨bx, 2, none⟩ (.int .i64 x)) nv a x b v it u p ∧ Below bx w (w.setCell ⟨bx, 2, none⟩ (.int .i64 x)) := by
  have e : ∀ o, o ≠ 2 → (w.setCell ⟨bx, 2, none⟩ (.int .i64 x)).cell? ⟨bx, o, none⟩ = w.cell? ⟨bx, o, none⟩ := fun o ho => World.cell?_setCell_other _ _ _ _ (fun e => by injection e; omega)
  exact ⟨⟨(e _ (by decide)).trans h.c0, (e _ (by decide)).trans h.c1, World.cell?_setCell_same w ⟨bx, 2, none⟩ _ h.c2, (e _ (by decide)).trans h.c3, (e _ (by decide)).trans h.c4, (e _ (by decide)).trans h.c5, fun o => by rw [World.frozen?_setCell]; exact h.free o, h.d.far bx 2 _ (by omega)⟩, (Below.refl bx w).setCell (p := ⟨bx, 2, none⟩) (Nat.le_refl _) _⟩
theorem DH.setB (h : DH bx w nv a l b v it u p) (x : Int) : DH bx (w.setCell ⟨bx, 3, none⟩ (.int .i64 x)) nv a l x v it u p ∧ Below bx w (w.setCell ⟨bx, 3, none⟩ (.int .i64 x)) := by
  have e : ∀ o, o ≠ 3 → (w.setCell ⟨bx, 3, none⟩ (.int .i64 x)).cell? ⟨bx, o, none⟩ = w.cell? ⟨bx, o, none⟩ := fun o ho => World.cell?_setCell_other _ _ _ _ (fun e => by injection e; omega)
  exact ⟨⟨(e _ (by decide)).trans h.c0, (e _ (by decide)).trans h.c1, (e _ (by decide)).trans h.c2, World.cell?_setCell_same w ⟨bx, 3, none⟩ _ h.c3, (e _ (by decide)).trans h.c4, (e _ (by decide)).trans h.c5, fun o => by rw [World.frozen?_setCell]; exact h.free o, h.d.far bx 3 _ (by omega)⟩, (Below.refl bx w).setCell (p := ⟨bx, 3, none⟩) (Nat.le_refl _) _⟩
/-- Points have been appended. -/
theorem DH.pput {u' : Value} {p' : List Pnt} (h : DH bx w nv a l b v it u p) (x : Ext u u' w w') (ho : OwnP w' (bx + 1) u' p') : DH bx (w'.setCell ⟨bx, 4, none⟩ u') nv a l b v it u' p' ∧ Below bx w (w'.setCell ⟨bx, 4, none⟩ u') := by
  have hb := h.lt
  have e0 := fun o => Ext.cell x hb h.neu o
  have e : ∀ o, o ≠ 4 → (w'.setCell ⟨bx, 4, none⟩ u').cell? ⟨bx, o, none⟩ = w.cell? ⟨bx, o, none⟩ := fun o ho => by
    rw [World.cell?_setCell_other _ _ _ _ (fun e => by injection e; omega)]; exact e0 o
  refine ⟨⟨(e _ (by decide)).trans h.c0, (e _ (by decide)).trans h.c1, (e _ (by decide)).trans h.c2, (e _ (by decide)).trans h.c3, World.cell?_setCell_same w' ⟨bx, 4, none⟩ _ ((e0 4).trans h.c4), (e _ (by decide)).trans h.c5, fun o => ?_, (h.d.pput x ho).far bx 4 u' (by omega)⟩, ?_⟩
  · rw [World.frozen?_setCell]; exact (World.frozen?_of_block (w := w) (a := ⟨bx, o, none⟩) (x.1.block bx hb (fun e => h.neu e.symm))).trans (h.free o)
  · exact (x.below (fun g e => Nat.le_of_succ_le (OwnQ.lt h.d.pt g e).1) (by omega)).setCell (Nat.le_refl _) _
/-- The points have become a line; there are none now. -/
theorem DH.lput {v' : Value} {c : Bool} (h : DH bx w nv a l b v it u p) (x : Ext v v' w w') (ho : OwnQ 25 w' (bx + 1) v' (vLn (it ++ [(u, ⟨p, c⟩)]))) : DH bx ((w'.setCell ⟨bx, 5, none⟩ v').setCell ⟨bx, 4, none⟩ (.slice none 0 0)) nv a l b v' (it ++ [(u, ⟨p, c⟩)]) (.slice none 0 0) [] ∧ Below bx w ((w'.setCell ⟨bx, 5, none⟩ v').setCell ⟨bx, 4, none⟩ (.slice none 0 0)) := by
  have hb := h.lt
  have e0 := fun o => Ext.cell x hb h.nev o
  have e : ∀ o, o ≠ 4 → o ≠ 5 → ((w'.setCell ⟨bx, 5, none⟩ v').setCell ⟨bx, 4, none⟩ (.slice none 0 0)).cell? ⟨bx, o, none⟩ = w.cell? ⟨bx, o, none⟩ := fun o ho ho2 => by
    rw [World.cell?_setCell_other _ _ _ _ (fun e => by injection e; omega), World.cell?_setCell_other _ _ _ _ (fun e => by injection e; omega)]; exact e0 o
  have s5 := World.cell?_setCell_same w' ⟨bx, 5, none⟩ v' ((e0 5).trans h.c5)
  have s4 : (w'.setCell ⟨bx, 5, none⟩ v').cell? ⟨bx, 4, none⟩ = some u := by
    rw [World.cell?_setCell_other _ _ _ _ (fun e => by injection e; omega)]; exact (e0 4).trans h.c4
  refine ⟨⟨(e _ (by decide) (by decide)).trans h.c0, (e _ (by decide) (by decide)).trans h.c1, (e _ (by decide) (by decide)).trans h.c2, (e _ (by decide) (by decide)).trans h.c3, World.cell?_setCell_same _ ⟨bx, 4, none⟩ _ s4, ?_, fun o => ?_, ⟨((h.d.lput ho x).farSet bx 5 v' (by omega)).farSet bx 4 _ (by omega), OwnP.nil _ _, Apt.nil _ _⟩⟩, ?_⟩
  · rw [World.cell?_setCell_other _ _ _ _ (fun e => by injection e; omega)]; exact s5
  · rw [World.frozen?_setCell, World.frozen?_setCell]; exact (World.frozen?_of_block (w := w) (a := ⟨bx, o, none⟩) (x.1.block bx hb (fun e => h.nev e.symm))).trans (h.free o)
  · exact ((x.below (fun g e => Nat.le_of_succ_le (OwnQ.lt h.d.ln.own g e).1) (by omega)).setCell (Nat.le_refl _) _).setCell (Nat.le_refl _) _
/-- The points are dropped. -/
theorem DH.drop (h : DH bx w nv a l b v it u p) : DH bx (w.setCell ⟨bx, 4, none⟩ (.slice none 0 0)) nv a l b v it (.slice none 0 0) [] ∧ Below bx w (w.setCell ⟨bx, 4, none⟩ (.slice none 0 0)) := by
  have e : ∀ o, o ≠ 4 → (w.setCell ⟨bx, 4, none⟩ (.slice none 0 0)).cell? ⟨bx, o, none⟩ = w.cell? ⟨bx, o, none⟩ := fun o ho => World.cell?_setCell_other _ _ _ _ (fun e => by injection e; omega)
  exact ⟨⟨(e _ (by decide)).trans h.c0, (e _ (by decide)).trans h.c1, (e _ (by decide)).trans h.c2, (e _ (by decide)).trans h.c3, World.cell?_setCell_same w ⟨bx, 4, none⟩ _ h.c4, (e _ (by decide)).trans h.c5, fun o => by rw [World.frozen?_setCell]; exact h.free o, ⟨h.d.ln.farSet bx 4 _ (by omega), OwnP.nil _ _, Apt.nil _ _⟩⟩, (Below.refl bx w).setCell (p := ⟨bx, 4, none⟩) (Nat.le_refl _) _⟩
end
/-- Points in variables that the dashing does not touch. -/
def Kb (bx : Nat) (w : World) (v : Value) (it : Its) (u : Value) (K : List (Nat × Int × Int)) : Prop := ∀ k, k ∈ K → w.cell? ⟨k.1, 0, none⟩ = some (.int .i64 k.2.1) ∧ w.cell? ⟨k.1, 1, none⟩ = some (.int .i64 k.2.2) ∧ (∀ o, w.frozen? ⟨k.1, o, none⟩ = false) ∧ k.1 ≠ bx ∧ u.ownBlock ≠ some k.1 ∧ v.ownBlock ≠ some k.1 ∧ ∀ i, i < it.length → (itAt it i).1.ownBlock ≠ some k.1
section
variable {bx : Nat} {w w' : World} {v u : Value} {it : Its} {K : List (Nat × Int × Int)}
theorem Kb.nw (h : Kb bx w v it u K) (k : Nw w w') : Kb bx w' v it u K := fun q hq => by
  obtain ⟨h1, h2, h3, h4⟩ := h q hq
  have hb : q.1 < w.heap.size := World.block_lt_of_cell? w ⟨q.1, 0, none⟩ h1
  exact ⟨((bcell k).1 _ _ hb).trans h1, ((bcell k).1 _ _ hb).trans h2, fun o => ((bcell k).2 _ _ hb).trans (h3 o), h4⟩
theorem Kb.set (h : Kb bx w v it u K) (o : Nat) (x : Value) : Kb bx (w.setCell ⟨bx, o, none⟩ x) v it u K := fun q hq => by
  obtain ⟨h1, h2, h3, h4, h5⟩ := h q hq
  exact ⟨by rw [World.cell?_setCell_other _ _ _ _ (fun e => by injection e; omega)]; exact h1, by rw [World.cell?_setCell_other _ _ _ _ (fun e => by injection e; omega)]; exact h2, fun o => by rw [World.frozen?_setCell]; exact h3 o, h4, h5⟩
theorem Kb.pput {u' : Value} (h : Kb bx w v it u K) (x : Ext u u' w w') : Kb bx w' v it u' K := fun q hq => by
  obtain ⟨h1, h2, h3, h4, h5, h6⟩ := h q hq
  have hb : q.1 < w.heap.size := World.block_lt_of_cell? w ⟨q.1, 0, none⟩ h1
  exact ⟨(Ext.cell x hb h5 0).trans h1, (Ext.cell x hb h5 1).trans h2, fun o => (World.frozen?_of_block (a := ⟨q.1, o, none⟩) (x.1.block q.1 hb (fun e => h5 e.symm))).trans (h3 o), h4, Ext.apart x hb h5, h6⟩
theorem Kb.lput {v' : Value} {ld : LD} (h : Kb bx w v it u K) (x : Ext v v' w w') : Kb bx w' v' (it ++ [(u, ld)]) u K := fun q hq => by
  obtain ⟨h1, h2, h3, h4, h5, h6, h7⟩ := h q hq
  have hb : q.1 < w.heap.size := World.block_lt_of_cell? w ⟨q.1, 0, none⟩ h1
  exact ⟨(Ext.cell x hb h6 0).trans h1, (Ext.cell x hb h6 1).trans h2, fun o => (World.frozen?_of_block (a := ⟨q.1, o, none⟩) (x.1.block q.1 hb (fun e => h6 e.symm))).trans (h3 o), h4, h5, Ext.apart x hb h6, fun i hi => by
    rw [List.length_append, List.length_singleton] at hi
    by_cases e : i = it.length
    · subst e; rw [itAt_new]; exact h5
    · rw [itAt_old it _ i (by omega)]; exact h7 i (by omega)⟩
theorem Kb.drop (h : Kb bx w v it u K) : Kb bx w v it (.slice none 0 0) K := fun q hq => by
  obtain ⟨h1, h2, h3, h4, h5, h6⟩ := h q hq
  exact ⟨h1, h2, h3, h4, (fun e => by cases e), h6⟩
theorem Kb.sub {K' : List (Nat × Int × Int)} (h : Kb bx w v it u K) (hs : ∀ k, k ∈ K' → k ∈ K) : Kb bx w v it u K' := fun q hq => h q (hs q hq)
theorem Kb.box (h : Kb bx w v it u K) (hb : bx < w.heap.size) (hu : ∀ g, u.ownBlock = some g → g < w.heap.size) (hv : ∀ g, v.ownBlock = some g → g < w.heap.size) (hi : ∀ i, i < it.length → ∀ g, (itAt it i).1.ownBlock = some g → g < w.heap.size) (x y : Int) (t : TypeId) : Kb bx (w.alloc (.cells #[.int .i64 x, .int .i64 y] t)) v it u ((w.heap.size, x, y) :: K) := fun q hq => by
  rcases List.mem_cons.1 hq with rfl | hq
  · exact ⟨World.cell?_alloc_at _ _ _ _ rfl, World.cell?_alloc_at _ _ _ _ rfl, fun o => World.frozen?_alloc_at _ _ _ _ rfl, by show w.heap.size ≠ bx; omega, fun e => by have := hu _ e; simp at this, (fun e => by have := hv _ e; simp at this), fun i hj e => by have := hi i hj _ e; simp at this⟩
  · exact Kb.nw h ((Below.refl _ _).alloc (Nat.le_refl _) _) q hq
end
/-- A dashing in a variable, by its state; its numbers lie in memory that was there before; points in other variables stay. -/
def DhS (bx : Nat) (w0 w : World) (K : List (Nat × Int × Int)) (na : Option Addr) (nc : Nat) (ns : List Int) (d : Dg) : Prop := ∃ v it u, DH bx w (.slice na ns.length nc) d.at' d.left d.begun v it u d.p ∧ it.map (·.2) = d.o ∧ Nw w0 w ∧ Kb bx w v it u K
theorem DhS.box {bx : Nat} {w0 w : World} {K : List (Nat × Int × Int)} {na : Option Addr} {nc : Nat} {ns : List Int} {d : Dg} (h : DhS bx w0 w K na nc ns d) (x y : Int) (t : TypeId) : DhS bx w0 (w.alloc (.cells #[.int .i64 x, .int .i64 y] t)) ((w.heap.size, x, y) :: K) na nc ns d := by
  obtain ⟨v, it, u, hd, ho, hw, hk⟩ := h
  have n1 : Nw w (w.alloc (.cells #[.int .i64 x, .int .i64 y] t)) := (Below.refl _ _).alloc (Nat.le_refl _) _
  exact ⟨v, it, u, hd.nw n1, ho, Nw.trans hw n1, hk.box hd.lt (fun g e => (OwnQ.lt hd.d.pt g e).2) (fun g e => (OwnQ.lt hd.d.ln.own g e).2) (fun i hi g e => (OwnQ.lt (hd.d.ln.pts i hi) g e).2) x y t⟩
theorem DhS.sub {bx : Nat} {w0 w : World} {K K' : List (Nat × Int × Int)} {na : Option Addr} {nc : Nat} {ns : List Int} {d : Dg} (h : DhS bx w0 w K na nc ns d) (hs : ∀ k, k ∈ K' → k ∈ K) : DhS bx w0 w K' na nc ns d := by
  obtain ⟨v, it, u, hd, ho, hw, hk⟩ := h
  exact ⟨v, it, u, hd, ho, hw, hk.sub hs⟩
theorem DhS.nw {bx : Nat} {w0 w w' : World} {K : List (Nat × Int × Int)} {na : Option Addr} {nc : Nat} {ns : List Int} {d : Dg} (h : DhS bx w0 w K na nc ns d) (k : Nw w w') : DhS bx w0 w' K na nc ns d := by
  obtain ⟨v, it, u, hd, ho, hw, hk⟩ := h
  exact ⟨v, it, u, hd.nw k, ho, Nw.trans hw k, hk.nw k⟩
theorem DhS.at {bx : Nat} {w0 w : World} {K : List (Nat × Int × Int)} {na : Option Addr} {nc : Nat} {ns : List Int} {d : Dg} (h : DhS bx w0 w K na nc ns d) {b : Nat} {x y : Int} (hm : (b, x, y) ∈ K) : w.cell? ⟨b, 0, none⟩ = some (.int .i64 x) ∧ w.cell? ⟨b, 1, none⟩ = some (.int .i64 y) := by
  obtain ⟨v, it, u, hd, ho, hw, hk⟩ := h
  obtain ⟨h1, h2, _⟩ := hk _ hm
  exact ⟨h1, h2⟩
theorem D2.off {w : World} {B : Nat} {v u : Value} {it : Its} {p : List Pnt} (h : D2 w B v it u p) (b o : Nat) (x : Value) (hu : u.ownBlock ≠ some b) (hv : v.ownBlock ≠ some b) (hi : ∀ i, i < it.length → (itAt it i).1.ownBlock ≠ some b) : D2 (w.setCell ⟨b, o, none⟩ x) B v it u p :=
  ⟨⟨OwnQ.far h.ln.own b o x hv, fun i hj => OwnQ.far (h.ln.pts i hj) b o x (hi i hj), h.ln.far, h.ln.apart⟩, OwnQ.far h.pt b o x hu, h.ap⟩
theorem DH.off {bx : Nat} {w : World} {nv : Value} {a l b : Int} {v u : Value} {it : Its} {p : List Pnt} (h : DH bx w nv a l b v it u p) (c o : Nat) (x : Value) (hc : c ≠ bx) (hu : u.ownBlock ≠ some c) (hv : v.ownBlock ≠ some c) (hi : ∀ i, i < it.length → (itAt it i).1.ownBlock ≠ some c) : DH bx (w.setCell ⟨c, o, none⟩ x) nv a l b v it u p := by
  have e : ∀ q, (w.setCell ⟨c, o, none⟩ x).cell? ⟨bx, q, none⟩ = w.cell? ⟨bx, q, none⟩ := fun q => World.cell?_setCell_other _ _ _ _ (fun e => by injection e; omega)
  exact ⟨(e _).trans h.c0, (e _).trans h.c1, (e _).trans h.c2, (e _).trans h.c3, (e _).trans h.c4, (e _).trans h.c5, fun o => by rw [World.frozen?_setCell]; exact h.free o, h.d.off c o x hu hv hi⟩
/-- Another point is stored into a variable that was kept. -/
theorem DhS.move {bx : Nat} {w0 w : World} {na : Option Addr} {nc : Nat} {ns : List Int} {d : Dg} {b : Nat} {x y : Int} (h : DhS bx w0 w [(b, x, y)] na nc ns d) (hb : w0.heap.size ≤ b) (x' y' : Int) : DhS bx w0 ((w.setCell ⟨b, 0, none⟩ (.int .i64 x')).setCell ⟨b, 1, none⟩ (.int .i64 y')) [(b, x', y')] na nc ns d := by
  obtain ⟨v, it, u, hd, ho, hw, hk⟩ := h
  obtain ⟨k1, k2, k3, k4, k5, k6, k7⟩ := hk _ (List.mem_cons_self ..)
  simp only at k1 k2 k3 k4 k5 k6 k7
  have s1 : (w.setCell ⟨b, 0, none⟩ (.int .i64 x')).cell? ⟨b, 1, none⟩ = some (.int .i64 y) := by
    rw [World.cell?_setCell_other _ _ _ _ (fun e => by injection e; omega)]; exact k2
  refine ⟨v, it, u, (hd.off b 0 _ k4 k5 k6 k7).off b 1 _ k4 k5 k6 k7, ho, (hw.setCell hb _).setCell hb _, fun q hq => ?_⟩
  obtain rfl := List.mem_singleton.1 hq
  refine ⟨?_, World.cell?_setCell_same _ ⟨b, 1, none⟩ _ s1, fun o => by rw [World.frozen?_setCell, World.frozen?_setCell]; exact k3 o, k4, k5, k6, k7⟩
  show ((w.setCell ⟨b, 0, none⟩ (.int .i64 x')).setCell ⟨b, 1, none⟩ (.int .i64 y')).cell? ⟨b, 0, none⟩ = some (.int .i64 x')
  rw [World.cell?_setCell_other _ _ _ _ (fun e => by injection e; omega)]
  exact World.cell?_setCell_same w ⟨b, 0, none⟩ _ k1
/-- A new dashing. -/
theorem DhS.new (w : World) (na : Option Addr) (nc : Nat) (ns : List Int) (x : Int) (t : TypeId) : DhS w.heap.size w (w.alloc (.cells #[.slice na ns.length nc, .int .i64 0, .int .i64 x, .int .i64 0, .slice none 0 0, .slice none 0 0] t)) [] na nc ns ⟨0, x, 0, [], []⟩ :=
  ⟨.slice none 0 0, [], .slice none 0 0, ⟨World.cell?_alloc_at _ _ _ _ rfl, World.cell?_alloc_at _ _ _ _ rfl, World.cell?_alloc_at _ _ _ _ rfl, World.cell?_alloc_at _ _ _ _ rfl, World.cell?_alloc_at _ _ _ _ rfl, World.cell?_alloc_at _ _ _ _ rfl, fun o => World.frozen?_alloc_at _ _ _ _ rfl, D2.nil _ _⟩, rfl, (Below.refl _ _).alloc (Nat.le_refl _) _, fun q hq => absurd hq (by simp)⟩
end Go.Proofs.YtfdjjbgcaojcnaaGreat
namespace Go.Proofs.YtfdjjbgcaojcnaaGreat
open Go.ChangeShapes Go.WideShapes Go.ChangeAt Go.RowKit
set_option linter.unusedVariables false

theorem DhS.of {bx : Nat} {w0 w : World} {K : List (Nat × Int × Int)} {na : Option Addr} {nc : Nat} {ns : List Int} {d : Dg} {v u : Value} {it : Its} {a l b : Int} {p : List Pnt} (h : DH bx w (.slice na ns.length nc) a l b v it u p) (h2 : it.map (·.2) = d.o) (h3 : Nw w0 w) (ha : a = d.at') (hl : l = d.left) (hb : b = d.begun) (hp : p = d.p) (hk : Kb bx w v it u K) : DhS bx w0 w K na nc ns d := by
  subst ha hl hb hp
  exact ⟨v, it, u, h, h2, h3, hk⟩
set_option maxRecDepth 100000 in
set_option maxHeartbeats 4000000 in
theorem inext (w0 w : World) (bx : Nat) (K : List (Nat × Int × Int)) (na : Option Addr) (nc : Nat) (ns : List Int) (d : Dg) (hb0 : w0.heap.size ≤ bx) (hn : 0 < ns.length) (ha : d.at' ≤ 1000000) (hI : Ints w0 na ns) (h : DhS bx w0 w K na nc ns d) :
    Calls Tryz.prog 59 #[.pointer (some ⟨bx, 0, none⟩)] w fun e w' => e = .returned (.tuple #[]) ∧ DhS bx w0 w' K na nc ns (nextD ns d) := by
  obtain ⟨v, it, u, hd, ho, hw, hkb⟩ := h
  have HO : Hid (it.map (·.2) = d.o) := ho
  have HW : Hid (Nw w0 w) := hw
  obtain ⟨at', left, begun, p, o⟩ := d
  simp only at ha hd ho HO
  have c1 := hd.c1
  have fr := hd.free
  obtain ⟨s1, s2⟩ := hd.setA ((at' : Int) + 1)
  obtain ⟨W1, hW1⟩ : ∃ W1, w.setCell ⟨bx, 1, none⟩ (.int .i64 ((at' : Int) + 1)) = W1 := ⟨_, rfl⟩
  rw [hW1] at s1 s2
  have S1 : Hid _ := s1
  have N1 : Hid (Nw w0 W1) := Below.trans hw (Below.mono s2 hb0)
  have hm : (at' + 1) % ns.length < ns.length := Nat.mod_lt _ hn
  have hrm : (((at' + 1 : Nat) : Int)).tmod (ns.length : Int) = (((at' + 1) % ns.length : Nat) : Int) := by
    rw [Int.tmod_eq_emod_of_nonneg (by omega)]
    first | exact (Int.natCast_emod _ _).symm | rfl
  obtain ⟨nb, no, hna, hcx⟩ : ∃ nb no, na = some ⟨nb, no, none⟩ ∧ W1.cell? ⟨nb, no + (at' + 1) % ns.length, none⟩ = some (.int .i64 (intAt ns ((at' + 1) % ns.length))) := by
    rcases Ints.nw hI N1.out with hx | ⟨b, off, rfl, _, hc⟩
    · rw [hx] at hn; simp at hn
    · exact ⟨b, off, rfl, hc _ hm⟩
  subst hna
  have HNX : Hid (nextD ns ⟨at', left, begun, p, o⟩ = ⟨at' + 1, intAt ns ((at' + 1) % ns.length), begun, p, o⟩) := rfl
  have HM : Hid (DH bx (W1.drew.setCell ⟨bx, 2, none⟩ (.int .i64 (intAt ns ((at' + 1) % ns.length)))) _ _ _ _ _ _ _ _ ∧ _) := DH.setL (DH.nw s1 ((Below.refl _ _).drew)) _
  have n0 : Nw W1 W1.drew := (Below.refl _ _).drew
  have s1d := DH.nw s1 n0
  have hcx' : W1.drew.cell? ⟨nb, no + (at' + 1) % ns.length, none⟩ = _ := hcx
  have HW1 : Hid (_ = W1) := hW1
  have ND : Hid (Nw w0 W1.drew) := Nw.trans N1.out n0
  have HF : Hid _ := s1d
  have HKB : Hid (Kb bx (W1.drew.setCell ⟨bx, 2, none⟩ (.int .i64 (intAt ns ((at' + 1) % ns.length)))) v it u K) := by
    have := Kb.set hkb 1 (.int .i64 ((at' : Int) + 1))
    rw [hW1] at this
    exact Kb.set (Kb.nw this n0) 2 _
  have HX : Hid _ := hcx'
  clear hkb hcx hcx' s1 s2 s1d hd ho hI n0 hW1 hw
  generalize intAt ns ((at' + 1) % ns.length) = x at *
  generalize hmm : (at' + 1) % ns.length = m at *
  generalize hnn : ns.length = n at *
  go_enter Tryz.func59, Tryz.ntmps59
  go_wp2
  rw [HW1.out]
  refine reg_change (ops' := opsOf 1 Tryz.f59) (by kernel_rfl) ?_
  refine NXR.run ⟨bx, nb, no, n, nc, at' + 1, m, x, W1.drew, _⟩ ⟨HF.out.c0, by simpa using HF.out.c1, hrm, by show n ≠ 0; omega, hm, HX.out, ⟨_, HF.out.c2⟩, HF.out.free, rfl, rfl⟩ W1 rfl ?_
  rintro γ w9 hw9
  have hw9 : w9 = W1.drew.setCell ⟨bx, 2, none⟩ (.int .i64 x) := hw9
  have HM2 := HM.out
  rw [← hw9] at HM2
  have HM3 : Hid _ := HM2
  have HK2 := HKB.out
  rw [← hw9] at HK2
  have HK3 : Hid _ := HK2
  clear HM2 hw9 HK2 HKB
  simp only [Act.put, List.setIfInBounds_toArray, List.set_cons_zero, List.set_cons_succ]
  go_wp2
  go_end0
  refine ⟨rfl, ?_⟩
  rw [HNX.out]
  exact DhS.of (d := ⟨at' + 1, x, begun, p, o⟩) (by rw [hnn]; exact HM3.out.1) HO.out (Below.trans ND.out (Below.mono HM3.out.2 hb0)) (by simp) rfl rfl rfl HK3.out
/-- A point is reached. -/
theorem rD_skip {d : Dg} {q : Pnt} (h : skipB d q = true) : reachD d q = d := by unfold reachD; rw [if_pos h]
theorem rD_add {d : Dg} {q : Pnt} (h : skipB d q = false) : reachD d q = ⟨d.at', d.left, d.begun, d.p ++ [q], d.o⟩ := by unfold reachD; rw [h]; rfl
set_option maxRecDepth 100000 in
set_option maxHeartbeats 8000000 in
theorem ireach (w0 w : World) (bx : Nat) (K : List (Nat × Int × Int)) (na : Option Addr) (nc : Nat) (ns : List Int) (d : Dg) (x y : Int) (hb0 : w0.heap.size ≤ bx) (hpl : d.p.length ≤ 100000) (h : DhS bx w0 w K na nc ns d) :
    Calls Tryz.prog 32 #[.pointer (some ⟨bx, 0, none⟩), .agg #[.int .i64 x, .int .i64 y]] w fun e w' => e = .returned (.tuple #[]) ∧ DhS bx w0 w' K na nc ns (reachD d (x, y)) := by
  obtain ⟨v, it, u, hd, ho, hw, hkb⟩ := h
  have HO : Hid (it.map (·.2) = d.o) := ho
  obtain ⟨at', left, begun, p, o⟩ := d
  simp only at hd ho HO hpl
  have HPL : Hid (p.length ≤ 100000) := hpl
  obtain ⟨ua, uc, hu⟩ := D2.val hd.d
  subst hu
  obtain ⟨W1, hW1⟩ : ∃ W1, w.alloc (.cells #[.int .i64 x, .int .i64 y] 34) = W1 := ⟨_, rfl⟩
  have n1 : Nw w W1 := by rw [← hW1]; exact (Below.refl _ _).alloc (Nat.le_refl _) _
  have N1 : Hid (Nw w0 W1) := Nw.trans hw n1
  have hd1 := DH.nw hd n1
  obtain ⟨bq, hbq⟩ : ∃ bq, w.heap.size = bq := ⟨_, rfl⟩
  have HQ : Hid (W1.cell? ⟨bq, 0, none⟩ = some (.int .i64 x) ∧ W1.cell? ⟨bq, 1, none⟩ = some (.int .i64 y)) := by
    show _ ∧ _
    rw [← hW1, ← hbq]
    exact ⟨by simp, by simp⟩
  have LQ : Hid (bq < W1.heap.size) := World.block_lt_of_cell? W1 ⟨bq, 0, none⟩ HQ.out.1
  have HW1 : Hid (_ = W1) := hW1
  have HBQ : Hid (w.heap.size = bq) := hbq
  have n0 : Nw W1 W1.drew := (Below.refl _ _).drew
  have CD : Hid _ := DH.nw hd1 n0
  have QD : Hid (W1.drew.cell? ⟨bq, 0, none⟩ = some (.int .i64 x) ∧ W1.drew.cell? ⟨bq, 1, none⟩ = some (.int .i64 y)) := HQ.out
  have HLL : Hid (0 < p.length → ∃ g, ua = some ⟨g, 0, none⟩ ∧ W1.drew.cell? ⟨g, (p.length - 1) * 2, none⟩ = some (.int .i64 (lastP p).1) ∧ W1.drew.cell? ⟨g, (p.length - 1) * 2 + 1, none⟩ = some (.int .i64 (lastP p).2)) := fun h0 => by
    rcases OwnP.lay CD.out.d.pt with ⟨_, e⟩ | ⟨g, c, e, h1, h2⟩
    · rw [e] at h0; simp at h0
    · injection e with e1 e2 e3
      refine ⟨g, e1, ?_⟩
      rcases h2.pts with hx | ⟨b, off, e, _, hc⟩
      · rw [hx] at h0; simp at h0
      · injection e with e; injection e with e4 e5
        subst e4 e5
        have := hc (p.length - 1) (by omega)
        unfold lastP
        simpa using this
  have hwm : 0 < p.length → IntKind.i64.wrap ((p.length : Int) - 1) = ((p.length - 1 : Nat) : Int) := fun h0 => by rw [IntWalk.i64_in _ ⟨by omega, by omega⟩]; omega
  have htm : ((at' : Int)).tmod 2 = ((at' % 2 : Nat) : Int) := by
    rw [Int.tmod_eq_emod_of_nonneg (by omega)]
    first | exact (Int.natCast_emod _ _).symm | rfl
  have HSK : Hid (skipB ⟨at', left, begun, p, o⟩ (x, y) = (decide (at' % 2 = 1) || (decide (0 < p.length) && decide (lastP p = (x, y))))) := rfl

  generalize hrd : reachD ⟨at', left, begun, p, o⟩ (x, y) = R
  have HRD : Hid (reachD ⟨at', left, begun, p, o⟩ (x, y) = R) := hrd
  clear hrd
  have HKB1 : Hid (Kb bx W1 v it (.slice ua p.length uc) K) := Kb.nw hkb n1
  have HD1 : Hid (DH bx W1 (.slice na ns.length nc) at' left begun v it (.slice ua p.length uc) p) := hd1
  clear hkb hd hd1 ho hw n1 n0 hW1 hbq hpl
  generalize hnp : p.length = np at *
  have HNP : Hid (p.length = np) := hnp
  generalize hnn : ns.length = n at *
  have HN : Hid (ns.length = n) := hnn
  clear hnp hnn
  by_cases hg : at' % 2 = 1
  · have hg1 : decide ((at' : Int).tmod 2 = 1) = true := by rw [htm]; simp; omega
    have HRE : Hid (R = ⟨at', left, begun, p, o⟩) := by
      show _ = _
      rw [← HRD.out]
      exact rD_skip (by rw [HSK.out, decide_eq_true hg]; rfl)
    clear htm hwm hg
    go_enter Tryz.func32, Tryz.ntmps32
    go_wp2
    rw [HW1.out, HBQ.out]
    refine reg_change (ops' := opsOf 1 Tryz.f32) (by kernel_rfl) ?_
    refine RCA.run ⟨bx, bq, x, y, at', W1.drew, _⟩ ⟨QD.out.1, QD.out.2, CD.out.c1, hg1, rfl, rfl, rfl⟩ W1 (Kp.refl _) ?_
    rintro γ w9 k9
    have K9 : Hid (Nw W1 w9) := Nw.trans ((Below.refl _ _).drew) k9.nw
    clear k9
    simp only [Act.put, List.setIfInBounds_toArray, List.set_cons_zero, List.set_cons_succ]
    generalize γ 0 = z0 at *
    generalize γ 1 = z1 at *
    go_wp2
    (try simp only [Exit.inBlock, Exit.then])
    refine bodyPost_ret (results_none rfl _ _ _) rfl ?_
    refine ⟨rfl, ?_⟩
    rw [HRE.out]
    exact DhS.of (d := ⟨at', left, begun, p, o⟩) (by rw [HN.out]; exact DH.nw HD1.out K9.out) HO.out (Nw.trans N1.out K9.out) rfl rfl rfl rfl (Kb.nw HKB1.out K9.out)
  · have hg1 : decide ((at' : Int).tmod 2 = 1) = false := by rw [htm]; simp; omega
    have HG : Hid (¬ at' % 2 = 1) := hg
    by_cases h0 : 0 < np
    · obtain ⟨g, hua, px, py⟩ := HLL.out h0
      subst hua
      by_cases he : lastP p = (x, y)
      · have HRE : Hid (R = ⟨at', left, begun, p, o⟩) := by
          show _ = _
          rw [← HRD.out]
          exact rD_skip (by rw [HSK.out, decide_eq_true h0, decide_eq_true he]; simp)
        rw [he] at px py
        simp only at px py
        have hwm' := hwm h0
        have PP : Hid (W1.drew.cell? ⟨g, (np - 1) * 2, none⟩ = some (.int .i64 x) ∧ W1.drew.cell? ⟨g, (np - 1) * 2 + 1, none⟩ = some (.int .i64 y)) := ⟨px, py⟩
        clear htm hwm hg he px py
        go_enter Tryz.func32, Tryz.ntmps32
        go_wp2
        rw [HW1.out, HBQ.out]
        refine reg_change (ops' := opsOf 1 Tryz.f32) (by kernel_rfl) ?_
        refine RCC.run ⟨bx, bq, x, y, at', g, np, np - 1, uc, W1.drew, _⟩ ⟨QD.out.1, QD.out.2, CD.out.c4, CD.out.c1, hg1, h0, hwm', by show np - 1 < np; omega, PP.out.1, PP.out.2, rfl, rfl, rfl⟩ W1 (Kp.refl _) ?_
        rintro γ w9 k9
        have K9 : Hid (Nw W1 w9) := Nw.trans ((Below.refl _ _).drew) k9.nw
        clear k9
        simp only [Act.put, List.setIfInBounds_toArray, List.set_cons_zero, List.set_cons_succ]
        generalize γ 0 = z0 at *
        generalize γ 1 = z1 at *
        go_wp2
        (try simp only [Exit.inBlock, Exit.then])
        refine bodyPost_ret (results_none rfl _ _ _) rfl ?_
        refine ⟨rfl, ?_⟩
        rw [HRE.out]
        exact DhS.of (d := ⟨at', left, begun, p, o⟩) (by rw [HN.out]; exact DH.nw HD1.out K9.out) HO.out (Nw.trans N1.out K9.out) rfl rfl rfl rfl (Kb.nw HKB1.out K9.out)
      · have HRE : Hid (R = ⟨at', left, begun, p ++ [(x, y)], o⟩) := by
          show _ = _
          rw [← HRD.out]
          exact rD_add (by rw [HSK.out, decide_eq_false HG.out, decide_eq_false he]; simp)
        have hwm' := hwm h0
        have hv : (lastP p).1 = x → ¬ (lastP p).2 = y := fun h1 h2 => he (by rw [← h1, ← h2])
        have PP : Hid (W1.drew.cell? ⟨g, (np - 1) * 2, none⟩ = some (.int .i64 (lastP p).1) ∧ W1.drew.cell? ⟨g, (np - 1) * 2 + 1, none⟩ = some (.int .i64 (lastP p).2)) := ⟨px, py⟩
        clear htm hwm hg he px py
        generalize (lastP p).1 = lx at *
        generalize (lastP p).2 = ly at *
        obtain ⟨ua, hua⟩ : ∃ ua, (some ⟨g, 0, none⟩ : Option Addr) = ua := ⟨_, rfl⟩
        go_enter Tryz.func32, Tryz.ntmps32
        go_wp2
        rw [HW1.out, HBQ.out]
        refine reg_change (ops' := opsOf 1 Tryz.f32) (by kernel_rfl) ?_
        refine RCD.run ⟨bx, bq, x, y, at', g, np, np - 1, uc, lx, ly, W1.drew, _⟩ ⟨QD.out.1, QD.out.2, CD.out.c4, CD.out.c1, hg1, h0, hwm', by show np - 1 < np; omega, PP.out.1, PP.out.2, hv, rfl, rfl, rfl⟩ W1 (Kp.refl _) ?_
        rw [hua] at HD1 CD HKB1
        rintro γ w9 k9
        have K9 : Hid (Nw W1 w9) := Nw.trans ((Below.refl _ _).drew) k9.nw
        have n9 : Nw w9 w9.drew := (Below.refl _ _).drew
        have D9 : Hid (DH bx w9.drew (.slice na n nc) at' left begun v it (.slice ua np uc) p) := DH.nw HD1.out (Nw.trans K9.out n9)
        have Q9 : Hid (w9.drew.cell? ⟨bq, 0, none⟩ = some (.int .i64 x) ∧ w9.drew.cell? ⟨bq, 1, none⟩ = some (.int .i64 y)) := ⟨((bcell (Nw.trans K9.out n9)).1 _ _ LQ.out).trans HQ.out.1, ((bcell (Nw.trans K9.out n9)).1 _ _ LQ.out).trans HQ.out.2⟩
        have KB9 : Hid (Kb bx w9.drew v it (.slice ua np uc) K) := Kb.nw HKB1.out (Nw.trans K9.out n9)
        have N9 : Hid (Nw w0 w9.drew) := Nw.trans N1.out (Nw.trans K9.out n9)
        have HA : Hid (Calls Tryz.prog 61 #[.pointer (some ⟨bx, 4, none⟩), .slice (some ⟨w9.drew.heap.size, 0, none⟩) 1 1] (w9.drew.alloc (.cells #[.int .i64 x, .int .i64 y] 34)) fun e w' => e = .returned (.tuple #[]) ∧ ∃ u', DH bx w' (.slice na n nc) at' left begun v it u' (p ++ [(x, y)]) ∧ Nw w0 w' ∧ Kb bx w' v it u' K) := by
          have n1 : Nw w9.drew (w9.drew.alloc (.cells #[.int .i64 x, .int .i64 y] 34)) := (Below.refl _ _).alloc (Nat.le_refl _) _
          have D1 := DH.nw D9.out n1
          refine (iaddP _ bx 4 (bx + 1) (.slice ua np uc) p [(x, y)] w9.drew.heap.size 0 1 1 rfl D1.c4 (D1.free 4) D1.d.pt (liep_one w9.drew x y _) (by simp) (by have := HPL.out; have := HNP.out; simp; omega) (by have := D1.lt; omega) D1.neu).mono ?_
          rintro e w' ⟨rfl, g', c', w2, k1, k2, rfl⟩
          obtain ⟨d1, d2⟩ := DH.pput D1 k2 k1
          exact ⟨rfl, _, d1, Below.trans (Nw.trans N9.out n1) (Below.mono d2 hb0), Kb.set (Kb.pput (Kb.nw KB9.out n1) k2) 4 _⟩
        clear k9 n9
        simp only [Act.put, List.setIfInBounds_toArray, List.set_cons_zero, List.set_cons_succ]
        generalize γ 0 = z0 at *
        generalize γ 1 = z1 at *
        go_wp2
        refine reg_change (ops' := opsOf 2 Tryz.f32) (by kernel_rfl) ?_
        refine RC2.run ⟨bx, bq, x, y, fun w' => ∃ u', DH bx w' (.slice na n nc) at' left begun v it u' (p ++ [(x, y)]) ∧ Nw w0 w' ∧ Kb bx w' v it u' K, w9.drew, _⟩ ⟨Q9.out.1, Q9.out.2, HA.out, rfl, rfl, rfl⟩ w9 rfl ?_
        rintro γ2 w10 h10
        have H10 : Hid (∃ u', DH bx w10 (.slice na n nc) at' left begun v it u' (p ++ [(x, y)]) ∧ Nw w0 w10 ∧ Kb bx w10 v it u' K) := h10
        clear h10
        simp only [Act.put, List.setIfInBounds_toArray, List.set_cons_zero, List.set_cons_succ]
        generalize γ2 0 = z2 at *
        generalize γ2 1 = z3 at *
        go_wp2
        go_end0
        refine ⟨rfl, ?_⟩
        rw [HRE.out]
        obtain ⟨u', d1, d2, d3⟩ := H10.out
        exact DhS.of (d := ⟨at', left, begun, p ++ [(x, y)], o⟩) (by rw [HN.out]; exact d1) HO.out d2 rfl rfl rfl rfl d3
    · have HRE : Hid (R = ⟨at', left, begun, p ++ [(x, y)], o⟩) := by
        show _ = _
        rw [← HRD.out]
        exact rD_add (by rw [HSK.out, decide_eq_false HG.out, decide_eq_false h0]; rfl)
      have hnp0 : np = 0 := by omega
      subst hnp0
      clear htm hwm hg
      go_enter Tryz.func32, Tryz.ntmps32
      go_wp2
      rw [HW1.out, HBQ.out]
      refine reg_change (ops' := opsOf 1 Tryz.f32) (by kernel_rfl) ?_
      refine RCB.run ⟨bx, bq, x, y, at', ua, uc, W1.drew, _⟩ ⟨QD.out.1, QD.out.2, CD.out.c4, CD.out.c1, hg1, rfl, rfl, rfl⟩ W1 (Kp.refl _) ?_
      rintro γ w9 k9
      have K9 : Hid (Nw W1 w9) := Nw.trans ((Below.refl _ _).drew) k9.nw
      have n9 : Nw w9 w9.drew := (Below.refl _ _).drew
      have D9 : Hid (DH bx w9.drew (.slice na n nc) at' left begun v it (.slice ua 0 uc) p) := DH.nw HD1.out (Nw.trans K9.out n9)
      have Q9 : Hid (w9.drew.cell? ⟨bq, 0, none⟩ = some (.int .i64 x) ∧ w9.drew.cell? ⟨bq, 1, none⟩ = some (.int .i64 y)) := ⟨((bcell (Nw.trans K9.out n9)).1 _ _ LQ.out).trans HQ.out.1, ((bcell (Nw.trans K9.out n9)).1 _ _ LQ.out).trans HQ.out.2⟩
      have KB9 : Hid (Kb bx w9.drew v it (.slice ua 0 uc) K) := Kb.nw HKB1.out (Nw.trans K9.out n9)
      have N9 : Hid (Nw w0 w9.drew) := Nw.trans N1.out (Nw.trans K9.out n9)
      have HA : Hid (Calls Tryz.prog 61 #[.pointer (some ⟨bx, 4, none⟩), .slice (some ⟨w9.drew.heap.size, 0, none⟩) 1 1] (w9.drew.alloc (.cells #[.int .i64 x, .int .i64 y] 34)) fun e w' => e = .returned (.tuple #[]) ∧ ∃ u', DH bx w' (.slice na n nc) at' left begun v it u' (p ++ [(x, y)]) ∧ Nw w0 w' ∧ Kb bx w' v it u' K) := by
        have n1 : Nw w9.drew (w9.drew.alloc (.cells #[.int .i64 x, .int .i64 y] 34)) := (Below.refl _ _).alloc (Nat.le_refl _) _
        have D1 := DH.nw D9.out n1
        refine (iaddP _ bx 4 (bx + 1) (.slice ua 0 uc) p [(x, y)] w9.drew.heap.size 0 1 1 rfl D1.c4 (D1.free 4) D1.d.pt (liep_one w9.drew x y _) (by simp) (by have := HPL.out; have := HNP.out; simp; omega) (by have := D1.lt; omega) D1.neu).mono ?_
        rintro e w' ⟨rfl, g', c', w2, k1, k2, rfl⟩
        obtain ⟨d1, d2⟩ := DH.pput D1 k2 k1
        exact ⟨rfl, _, d1, Below.trans (Nw.trans N9.out n1) (Below.mono d2 hb0), Kb.set (Kb.pput (Kb.nw KB9.out n1) k2) 4 _⟩
      clear k9 n9
      simp only [Act.put, List.setIfInBounds_toArray, List.set_cons_zero, List.set_cons_succ]
      generalize γ 0 = z0 at *
      generalize γ 1 = z1 at *
      go_wp2
      refine reg_change (ops' := opsOf 2 Tryz.f32) (by kernel_rfl) ?_
      refine RC2.run ⟨bx, bq, x, y, fun w' => ∃ u', DH bx w' (.slice na n nc) at' left begun v it u' (p ++ [(x, y)]) ∧ Nw w0 w' ∧ Kb bx w' v it u' K, w9.drew, _⟩ ⟨Q9.out.1, Q9.out.2, HA.out, rfl, rfl, rfl⟩ w9 rfl ?_
      rintro γ2 w10 h10
      have H10 : Hid (∃ u', DH bx w10 (.slice na n nc) at' left begun v it u' (p ++ [(x, y)]) ∧ Nw w0 w10 ∧ Kb bx w10 v it u' K) := h10
      clear h10
      simp only [Act.put, List.setIfInBounds_toArray, List.set_cons_zero, List.set_cons_succ]
      generalize γ2 0 = z2 at *
      generalize γ2 1 = z3 at *
      go_wp2
      go_end0
      refine ⟨rfl, ?_⟩
      rw [HRE.out]
      obtain ⟨u', d1, d2, d3⟩ := H10.out
      exact DhS.of (d := ⟨at', left, begun, p ++ [(x, y)], o⟩) (by rw [HN.out]; exact d1) HO.out d2 rfl rfl rfl rfl d3
end Go.Proofs.YtfdjjbgcaojcnaaGreat
