/-
  A row of nodes in memory, and the way up from one; each theorem names its conditions.
-/
import Derived.Test.YtgjnemmkpbkfhaaDoorMkP
namespace Go.Proofs.YtgjnemmkpbkfhaaDoor
open Go.ChangeShapes Go.WideShapes Go.ChangeAt Go.RowKit
set_option linter.unusedVariables false

def noND : ND := ⟨⟨#[]⟩, 0, [], ⟨#[]⟩⟩
def nodeAt (l : List ND) (i : Nat) : ND := l.getD i noND
/-- The nodes l lie at a. -/
def Nodes (w : World) (a : Option Addr) (l : List ND) : Prop :=
  l = [] ∨ ∃ b off, a = some ⟨b, off, none⟩ ∧ b < w.heap.size ∧ ∀ i, i < l.length → w.cell? ⟨b, off + i * 4, none⟩ = some (.string (nodeAt l i).name) ∧ w.cell? ⟨b, off + i * 4 + 1, none⟩ = some (.int .i64 (nodeAt l i).up) ∧
    (∃ aa c, w.cell? ⟨b, off + i * 4 + 2, none⟩ = some (.slice aa (nodeAt l i).attrs.length c) ∧ (nodeAt l i).attrs.length ≤ c ∧ Attrs w aa (nodeAt l i).attrs) ∧ w.cell? ⟨b, off + i * 4 + 3, none⟩ = some (.string (nodeAt l i).text)
theorem Nodes.nw {w w' : World} {a : Option Addr} {l : List ND} (h : Nodes w a l) (k : Nw w w') : Nodes w' a l := by
  rcases h with h | ⟨b, off, rfl, hb, hc⟩
  · exact Or.inl h
  · refine Or.inr ⟨b, off, rfl, Nat.lt_of_lt_of_le hb (Below.size k), fun i hi => ?_⟩
    obtain ⟨h0, h1, ⟨aa, c, h2, hcap, h3⟩, h4⟩ := hc i hi
    exact ⟨((bcell k).1 _ _ hb).trans h0, ((bcell k).1 _ _ hb).trans h1, ⟨aa, c, ((bcell k).1 _ _ hb).trans h2, hcap, h3.nw k⟩, ((bcell k).1 _ _ hb).trans h4⟩

def upAt (l : List ND) (i : Nat) : Int := (nodeAt l i).up
/-- The ups of the nodes ahead of k lead upward. -/
def Ups (l : List ND) (k : Nat) : Prop := ∀ i, i < k → -1 ≤ upAt l i ∧ upAt l i < i
/-- From k the way up meets x (k itself, or a node around it). -/
def meets (l : List ND) (x : Int) : Nat → Int → Bool
  | 0, k => decide (0 ≤ k) && decide (k = x)
  | f + 1, k => if k < 0 then false else if k = x then true else meets l x f (upAt l k.toNat)
/-- How many nodes are on the way up from k, with it. -/
def deep (l : List ND) : Nat → Int → Nat
  | 0, _ => 0
  | f + 1, k => if k < 0 then 0 else deep l f (upAt l k.toNat) + 1
theorem meets_more (l : List ND) (x : Int) (n : Nat) (hu : Ups l n) : ∀ (f g : Nat) (k : Int), k < n → k < f → k < g → meets l x f k = meets l x g k := by
  intro f
  induction f with
  | zero =>
    intro g k hk h1 h2
    cases g with
    | zero => rfl
    | succ g => rw [meets, meets, if_pos (by omega)]; simp; omega
  | succ f ih =>
    intro g k hk h1 h2
    cases g with
    | zero => rw [meets, meets, if_pos (by omega)]; simp; omega
    | succ g =>
      rw [meets, meets]
      by_cases c : k < 0
      · rw [if_pos c, if_pos c]
      · rw [if_neg c, if_neg c]
        split
        · rfl
        · have h := hu k.toNat (by omega)
          exact ih g _ (by omega) (by omega) (by omega)
theorem deep_more (l : List ND) (n : Nat) (hu : Ups l n) : ∀ (f g : Nat) (k : Int), k < n → k < f → k < g → deep l f k = deep l g k := by
  intro f
  induction f with
  | zero =>
    intro g k hk h1 h2
    cases g with
    | zero => rfl
    | succ g => rw [deep, deep, if_pos (by omega)]
  | succ f ih =>
    intro g k hk h1 h2
    cases g with
    | zero => rw [deep, deep, if_pos (by omega)]
    | succ g =>
      rw [deep, deep]
      by_cases c : k < 0
      · rw [if_pos c, if_pos c]
      · rw [if_neg c, if_neg c]
        have h := hu k.toNat (by omega)
        rw [ih g _ (by omega) (by omega) (by omega)]
/-- By as much fuel as there are nodes. -/
def meetsN (l : List ND) (x k : Int) : Bool := meets l x (l.length + 1) k
def deepN (l : List ND) (k : Int) : Nat := deep l (l.length + 1) k
theorem meetsN_neg (l : List ND) (x k : Int) (h : k < 0) : meetsN l x k = false := by
  unfold meetsN; rw [meets, if_pos h]
theorem meetsN_same (l : List ND) (x : Int) (h : 0 ≤ x) : meetsN l x x = true := by
  unfold meetsN; rw [meets, if_neg (by omega), if_pos rfl]
theorem meetsN_up (l : List ND) (x k : Int) (n : Nat) (hu : Ups l n) (hn : n ≤ l.length) (h0 : 0 ≤ k) (h1 : k < n) (h2 : k ≠ x) : meetsN l x k = meetsN l x (upAt l k.toNat) := by
  have h := hu k.toNat (by omega)
  unfold meetsN
  rw [meets, if_neg (by omega), if_neg h2]
  exact meets_more l x n hu _ _ _ (by omega) (by omega) (by omega)
theorem deepN_neg (l : List ND) (k : Int) (h : k < 0) : deepN l k = 0 := by
  unfold deepN; rw [deep, if_pos h]
theorem deepN_up (l : List ND) (k : Int) (n : Nat) (hu : Ups l n) (hn : n ≤ l.length) (h0 : 0 ≤ k) (h1 : k < n) : deepN l k = deepN l (upAt l k.toNat) + 1 := by
  have h := hu k.toNat (by omega)
  unfold deepN
  rw [deep, if_neg (by omega), deep_more l n hu l.length (l.length + 1) _ (by omega) (by omega) (by omega)]
theorem meetsN_le (l : List ND) (x : Int) (n : Nat) (hu : Ups l n) (hn : n ≤ l.length) : ∀ (f : Nat) (k : Int), k < f → k < n → meetsN l x k = true → 0 ≤ x ∧ x ≤ k := by
  intro f
  induction f with
  | zero => intro k h _ hm; rw [meetsN_neg l x k (by omega)] at hm; simp at hm
  | succ f ih =>
    intro k h hk hm
    by_cases c : k < 0
    · rw [meetsN_neg l x k c] at hm; simp at hm
    · by_cases e : k = x
      · omega
      · have hh := hu k.toNat (by omega)
        rw [meetsN_up l x k n hu hn (by omega) hk e] at hm
        have := ih _ (by omega) (by omega) hm
        omega
theorem deepN_le (l : List ND) (n : Nat) (hu : Ups l n) (hn : n ≤ l.length) : ∀ (f : Nat) (k : Int), k < f → k < n → -1 ≤ k → (deepN l k : Int) ≤ k + 1 := by
  intro f
  induction f with
  | zero => intro k h _ _; rw [deepN_neg l k (by omega)]; omega
  | succ f ih =>
    intro k h hk hm
    by_cases c : k < 0
    · rw [deepN_neg l k c]; omega
    · have hh := hu k.toNat (by omega)
      rw [deepN_up l k n hu hn (by omega) hk]
      have := ih (upAt l k.toNat) (by omega) (by omega) (by omega)
      omega
end Go.Proofs.YtgjnemmkpbkfhaaDoor
