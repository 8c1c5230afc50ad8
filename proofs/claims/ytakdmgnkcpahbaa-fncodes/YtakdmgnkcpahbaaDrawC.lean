/-
  What the specification's draw of lengths answers: some list of ints, and nothing that was there is written; each theorem names its conditions.
-/
import Derived.Test.YtakdmgnkcpahbaaZeros
namespace Go.Proofs.Ytakdmgnkcpahbaa
open Go.ChangeShapes Go.WideShapes Go.ChangeAt Go.RowKit
set_option linter.unusedVariables false

def ic (zs : List Int) : List Value := zs.map (Value.int .i64)
/-- The reader in the block B, and a list of the call's own behind it. -/
structure St (W wr : World) (B : Nat) (ca : Option Addr) (len cap n : Nat) (g c : Nat) (zs : List Int) : Prop where
  cur : Cur wr B ca len cap n
  bel : Below B W wr
  own : wr.ownsRow (B + 1) 3 1 (.slice (some ⟨g, 0, none⟩) zs.length c) zs.length (ic zs)
  rng : ∀ z ∈ zs, 0 ≤ z ∧ z ≤ 15
theorem Cur.grown {w w' : World} {B : Nat} {ca : Option Addr} {len cap n : Nat} {row : Option Nat} (h : Cur w B ca len cap n) (hg : w.grownBy w' row) (hr : some B ≠ row) : Cur w' B ca len cap n := by
  obtain ⟨k, sd, h1, h2, h3, h4, h5, h6, h7, h8⟩ := h
  exact ⟨k, sd, h1, h2, h3, hg.cell h4 hr, hg.cell h5 hr, hg.cell h6 hr, fun o => (hg.frozen_far ⟨B, o, none⟩ h8 hr).trans (h7 o), Nat.lt_of_lt_of_le h8 hg.size⟩
theorem Cur.lt {w : World} {B : Nat} {ca : Option Addr} {len cap n : Nat} (h : Cur w B ca len cap n) : B < w.heap.size := by
  obtain ⟨_, _, _, _, _, _, _, _, _, h⟩ := h; exact h
theorem Sel.grown {B : Nat} {w w' : World} (h : Sel B w w') : w.grownBy w' (some B) := ⟨h.os, h.tape, h.output, by rw [h.size]; exact Nat.le_refl _, fun k _ hk => h.block k (fun e => hk (by rw [e]))⟩
theorem grown_below {B g : Nat} {w w' : World} (h : w.grownBy w' (some g)) (hg : B ≤ g) (hB : B ≤ w.heap.size) : Below B w w' :=
  ⟨h.os, h.tape, h.output, h.size, fun k hk => h.block k (by omega) (fun e => by injection e; omega)⟩
theorem St.gt {W wr : World} {B : Nat} {ca : Option Addr} {len cap n g c : Nat} {zs : List Int} (h : St W wr B ca len cap n g c zs) : B + 1 ≤ g := (h.own.lt g rfl).1
theorem St.pick {W wr w1 : World} {B : Nat} {ca : Option Addr} {len cap n m g c : Nat} {zs : List Int} (h : St W wr B ca len cap n g c zs) (hc : Cur w1 B ca len cap m) (hs : Sel B wr w1) : St W w1 B ca len cap m g c zs :=
  ⟨hc, h.bel.trans hs.below, h.own.kept hs.grown (Or.inr (by intro e; have := h.gt; simp [Value.ownBlock] at e; omega)), h.rng⟩
theorem St.cell {W wr : World} {B : Nat} {ca : Option Addr} {len cap n g c : Nat} {zs : List Int} (h : St W wr B ca len cap n g c zs) (k : Nat) (hk : k < zs.length) : wr.cell? ⟨g, k, none⟩ = some (.int .i64 (zs.getD k 0)) := by
  rw [h.own.cellAt k (by omega)]; simp [ic, hk]
theorem St.set {W wr : World} {B : Nat} {ca : Option Addr} {len cap n g c : Nat} {zs : List Int} (h : St W wr B ca len cap n g c zs) (k : Nat) (z : Int) (hz : 0 ≤ z ∧ z ≤ 15) : St W (wr.setCell ⟨g, k, none⟩ (.int .i64 z)) B ca len cap n g c (zs.set k z) := by
  obtain ⟨s1, s2⟩ := h.own.stored k (.int .i64 z)
  have hg := h.gt
  refine ⟨h.cur.grown s2 (by intro e; injection e; omega), h.bel.trans (grown_below s2 (by omega) (Nat.le_of_lt h.cur.lt)), ?_, ?_⟩
  · have e : (ic zs).set k (.int .i64 z) = ic (zs.set k z) := by simp [ic]
    rw [e] at s1
    simpa using s1
  · intro y hy
    rcases List.mem_or_eq_of_mem_set hy with h2 | h2
    · exact h.rng y h2
    · rw [h2]; exact hz
theorem own_shape {w : World} {b n : Nat} {v : Value} {xs : List Value} (h : w.ownsRow b 3 1 v n xs) (hn : v ≠ .slice none 0 0) : ∃ g c, v = .slice (some ⟨g, 0, none⟩) n c := by
  rcases h.2 with ⟨h, _⟩ | ⟨g, c, _, h, _⟩
  · exact absurd h hn
  · exact ⟨g, c, h⟩
/-- Behind an append of one number. -/
theorem St.app {W wr w1 : World} {B : Nat} {ca : Option Addr} {len cap n g c : Nat} {zs : List Int} (h : St W wr B ca len cap n g c zs) (z : Int) (hz : 0 ≤ z ∧ z ≤ 15) (o : Array Value) (g' c' : Nat)
    (hown : w1.ownsRow (B + 1) 3 1 (.slice (some ⟨g', 0, none⟩) (zs.length + 1) c') (zs.length + 1) (ic zs ++ [.int .i64 z])) (hgr : (wr.alloc (.cells o 3)).grownBy w1 (some g)) : St W w1 B ca len cap n g' c' (zs ++ [z]) := by
  have hg := h.gt
  have hB := h.cur.lt
  have ha : wr.grownBy (wr.alloc (.cells o 3)) none := World.grownBy_alloc wr _ none
  have hc1 := h.cur.grown ha (by simp)
  refine ⟨hc1.grown hgr (by intro e; injection e; omega), (h.bel.alloc (by omega) _).trans (grown_below hgr (by omega) (by simp; omega)), ?_, ?_⟩
  · have e : ic zs ++ [.int .i64 z] = ic (zs ++ [z]) := by simp [ic]
    rw [e] at hown
    simpa using hown
  · intro y hy
    rcases List.mem_append.1 hy with h2 | h2
    · exact h.rng y h2
    · simp at h2; rw [h2]; exact hz
theorem ic_len (zs : List Int) : (ic zs).length = zs.length * 1 := by simp [ic]
theorem one_new (wr : World) (z : Int) : ∀ j u, [Value.int .i64 z][j]? = some u → (wr.alloc (.cells #[.int .i64 z] 3)).cell? ((⟨wr.heap.size, 0, none⟩ : Addr).add j) = some u := by
  intro j u hj
  match j, hj with
  | 0, hj => simp at hj; subst hj; simp [Addr.add]
theorem one_one (z : Int) : ∀ u ∈ [Value.int .i64 z], u.oneCell' = true := by intro u hu; simp at hu; subst hu; rfl
theorem cur_new (W : World) (ca : Option Addr) (len cap : Nat) (t : TypeId) : Cur (W.alloc (.cells #[.slice ca len cap, .int .i64 0, .int .u64 0] t)) W.heap.size ca len cap 0 :=
  ⟨0, 0, Nat.le_refl _, Int.le_refl _, by omega, by simp, by simp, by simp, fun o => World.frozen?_alloc_at _ _ _ _ rfl, by simp⟩
end Go.Proofs.Ytakdmgnkcpahbaa
