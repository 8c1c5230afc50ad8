/-
  What LinesOf answers, as a pure function; each theorem names
-/
import Derived.Test.YtdjemnbdaddegaaJAN
import Derived.Test.YtdjemnbdaddegaaJAH
import Derived.Deep.RegionWith
import Derived.Test.YtdjemnbdaddegaaJAD
import Derived.Test.YtdjemnbdaddegaaJAB
import Derived.Test.YtdjemnbdaddegaaJAA
namespace Go.Proofs.Ytdjemnbdaddegaa
open Go.ChangeShapes Go.WideShapes Go.ChangeAt Go.RowKit
set_option linter.unusedVariables false
def lsV (l : List SD) : List LD := if stsB l then lnsP l else []
theorem stsB_all {l : List SD} (h : stsB l = true) : l.length ≤ 60 ∧ ∀ i, i < l.length → stOk l i = true := by
 unfold stsB at h
 rw [Bool.and_eq_true, decide_eq_true_eq, List.all_eq_true] at h
 exact ⟨h.1, fun i hi => h.2 i (List.mem_range.2 hi)⟩
def RowP (w : World) (v : Value) (l : List Pnt) : Prop := ∃ a c, v = .slice a l.length c ∧ Pts w a l
theorem RowP.nw {w w' : World} {v : Value} {l : List Pnt} (h : RowP w v l) (k : Nw w w') : RowP w' v l := by
 obtain ⟨a, c, rfl, h2⟩ := h
 exact ⟨a, c, rfl, h2.nw k⟩
def Mkd (w : World) (v : Value) (n K : Nat) : Prop := (v = .slice none 0 0 ∧ n = 0) ∨ ∃ g c, v = .slice (some ⟨g, 0, none⟩) n c ∧ LayPt w g (mkP K n) n
theorem Mkd.nw {w w' : World} {v : Value} {n K : Nat} (h : Mkd w v n K) (k : Nw w w') : Mkd w' v n K := by
 rcases h with h | ⟨g, c, h1, h2⟩
 ·exact Or.inl h
 ·exact Or.inr ⟨g, c, h1, h2.nw k⟩
def RowL (w : World) (v : Value) (l : List LD) : Prop := ∃ a c, v = .slice a l.length c ∧ Lines w a l
theorem RowL.nw {w w' : World} {v : Value} {l : List LD} (h : RowL w v l) (k : Nw w w') : RowL w' v l := by
 obtain ⟨a, c, rfl, h2⟩ := h
 exact ⟨a, c, rfl, h2.nw k⟩
def lenL (l : List LD) : Prop := ∀ i, i < l.length → (lnAt l i).pts.length ≤ 1048576
theorem OwnP.row {w : World} {B : Nat} {v : Value} {l : List Pnt} (h : OwnP w B v l) : RowP w v l := h.pts
structure Mid (lo hi : Nat) (w w' : World) : Prop where
 os : w'.os = w.os
 tape : w'.tape = w.tape
 output : w'.output = w.output
 size : w.heap.size ≤ w'.heap.size
 block : ∀ k, k < w.heap.size → (k < lo ∨ hi ≤ k) → w'.heap[k]? = w.heap[k]?
theorem Mid.refl (lo hi : Nat) (w : World) : Mid lo hi w w := ⟨rfl, rfl, rfl, Nat.le_refl _, fun _ _ _ => rfl⟩
theorem Mid.nw {lo hi : Nat} {a b c : World} (h : Mid lo hi a b) (k : Nw b c) : Mid lo hi a c :=
 ⟨(Below.os k).trans h.os, (Below.tape k).trans h.tape, (Below.output k).trans h.output, Nat.le_trans h.size (Below.size k), fun i hi hb => (Below.block k i (Nat.lt_of_lt_of_le hi h.size)).trans (h.block i hi hb)⟩
theorem Mid.trans {lo hi : Nat} {a b c : World} (h : Mid lo hi a b) (k : Mid lo hi b c) : Mid lo hi a c :=
 ⟨k.os.trans h.os, k.tape.trans h.tape, k.output.trans h.output, Nat.le_trans h.size k.size, fun i hi hb => (k.block i (Nat.lt_of_lt_of_le hi h.size) hb).trans (h.block i hi hb)⟩
theorem Mid.set {lo hi : Nat} {a b : World} (h : Mid lo hi a b) {g : Nat} (h1 : lo ≤ g) (h2 : g < hi) (o : Nat) (v : Value) : Mid lo hi a (b.setCell ⟨g, o, none⟩ v) :=
 ⟨h.os, h.tape, h.output, by simpa [World.setCell] using h.size, fun i hi hb => by
  rw [Below.heap_setCell _ _ _ _ (by show i ≠ g; omega)]
  exact h.block i hi hb⟩
theorem Mid.below {lo hi : Nat} {a b : World} (h : Mid lo hi a b) (hl : lo ≤ a.heap.size) : Below lo a b :=
 ⟨h.os, h.tape, h.output, h.size, fun i hi => h.block i (by omega) (Or.inl hi)⟩
theorem Mid.cell {lo hi : Nat} {a b : World} (h : Mid lo hi a b) {g : Nat} (hg : g < a.heap.size) (hb : g < lo ∨ hi ≤ g) (o : Nat) : b.cell? ⟨g, o, none⟩ = a.cell? ⟨g, o, none⟩ :=
 World.cell?_of_block (w := a) (a := ⟨g, o, none⟩) (h.block g hg hb)
theorem Mid.frozen {lo hi : Nat} {a b : World} (h : Mid lo hi a b) {g : Nat} (hg : g < a.heap.size) (hb : g < lo ∨ hi ≤ g) (o : Nat) : b.frozen? ⟨g, o, none⟩ = a.frozen? ⟨g, o, none⟩ :=
 World.frozen?_of_block (w := a) (a := ⟨g, o, none⟩) (h.block g hg hb)
def vAt (l : List Value) (i : Nat) : Value := l.getD i undef
def nAt (l : List Nat) (i : Nat) : Nat := l.getD i 0
def kAt (ns : List Nat) (K : Nat) : Nat → Nat
 | 0 => K
 | i + 1 => kAt ns K i + 2 * nAt ns i + 1
structure SF (lo hi g : Nat) (vs : List Value) : Prop where
 inn : lo ≤ g ∧ g < hi
 pts : ∀ i, i < vs.length → ∀ b, (vAt vs i).ownBlock = some b → lo ≤ b ∧ b < hi ∧ b ≠ g
 apart : ∀ i j, i ≠ j → i < vs.length → j < vs.length → ∀ b, (vAt vs i).ownBlock = some b → (vAt vs j).ownBlock ≠ some b
def AnyV (w : World) (v : Value) (n : Nat) : Prop := (v = .slice none 0 0 ∧ n = 0) ∨ ∃ g c, v = .slice (some ⟨g, 0, none⟩) n c ∧ AnyPt w g n
def clB (k : Nat) : Bool := ((k : Int) % 3 == 0)
structure MkLn (w : World) (g : Nat) (vs : List Value) (ns : List Nat) (K j : Nat) : Prop where
 lt : g < w.heap.size
 free : ∀ o, w.frozen? ⟨g, o, none⟩ = false
 sl : ∀ i, i < vs.length → w.cell? ⟨g, i * 2, none⟩ = some (vAt vs i)
 c1 : ∀ i, i < j → i < vs.length → w.cell? ⟨g, i * 2 + 1, none⟩ = some (.bool (clB (kAt ns K i + 2 * nAt ns i)))
 c2 : ∀ i, j ≤ i → i < vs.length → ∃ b, w.cell? ⟨g, i * 2 + 1, none⟩ = some (.bool b)
 p1 : ∀ i, i < j → i < vs.length → Mkd w (vAt vs i) (nAt ns i) (kAt ns K i)
 p2 : ∀ i, j ≤ i → i < vs.length → AnyV w (vAt vs i) (nAt ns i)
theorem AnyV.form {w : World} {v : Value} {n : Nat} (h : AnyV w v n) : ∃ a c, v = .slice a n c := by
 rcases h with ⟨h1, h2⟩ | ⟨g, c, h1, _⟩
 ·exact ⟨none, 0, by rw [h1, h2]⟩
 ·exact ⟨_, c, h1⟩
theorem Mkd.form {w : World} {v : Value} {n K : Nat} (h : Mkd w v n K) : ∃ a c, v = .slice a n c := by
 rcases h with ⟨h1, h2⟩ | ⟨g, c, h1, _⟩
 ·exact ⟨none, 0, by rw [h1, h2]⟩
 ·exact ⟨_, c, h1⟩

end Go.Proofs.Ytdjemnbdaddegaa
