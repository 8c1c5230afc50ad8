/-
  What the laws' helpers that mark a list and look whether it is held do; each theorem names its conditions.
-/
import Derived.Test.YtakdmgnkcpahbaaCodes6
import Derived.ShutString
import Derived.ChangeOld
namespace Go.Proofs.Ytakdmgnkcpahbaa
open Go.ChangeShapes Go.WideShapes Go.ChangeAt Go.RowKit
set_option linter.unusedVariables false

/-- Nothing but the block B has changed. -/
structure Sel (B : Nat) (w w' : World) : Prop where
  os : w'.os = w.os
  tape : w'.tape = w.tape
  output : w'.output = w.output
  size : w'.heap.size = w.heap.size
  block : ∀ k, k ≠ B → w'.heap[k]? = w.heap[k]?
theorem Sel.refl (B : Nat) (w : World) : Sel B w w := ⟨rfl, rfl, rfl, rfl, fun _ _ => rfl⟩
theorem Sel.trans {B : Nat} {a b c : World} (h : Sel B a b) (k : Sel B b c) : Sel B a c :=
  ⟨k.os.trans h.os, k.tape.trans h.tape, k.output.trans h.output, k.size.trans h.size, fun i hi => (k.block i hi).trans (h.block i hi)⟩
theorem Sel.setCell {B : Nat} {a b : World} (h : Sel B a b) (o : Nat) (u : Value) : Sel B a (b.setCell ⟨B, o, none⟩ u) :=
  h.trans ⟨rfl, rfl, rfl, by simp [World.setCell], fun k hk => Below.heap_setCell _ _ _ _ (by simpa using hk)⟩
theorem Sel.below {B : Nat} {a b : World} (h : Sel B a b) : Below B a b := ⟨h.os, h.tape, h.output, by have := h.size; omega, fun k hk => h.block k (by omega)⟩

/-- The numbers zs lie in the block b, which may be written. -/
def At (w : World) (b : Nat) (zs : List Int) : Prop :=
  b < w.heap.size ∧ (∀ i, i < zs.length → w.cell? ⟨b, 0 + i, none⟩ = some (.int .i64 (zs.getD i 0))) ∧ ∀ o, w.frozen? ⟨b, o, none⟩ = false
theorem frozen_out (w : World) (b o : Nat) (h : w.heap.size ≤ b) : w.frozen? ⟨b, o, none⟩ = false := by
  have e : w.heap[b]? = none := by simp; omega
  simp [World.frozen?, e]
theorem At.kp {w w' : World} {b : Nat} {zs : List Int} (h : At w b zs) (k : Kp w w') : At w' b zs :=
  ⟨Nat.lt_of_lt_of_le h.1 k.size, fun i hi => (k.cells.1 _ _ h.1).trans (h.2.1 i hi), fun o => (k.2 _).trans (h.2.2 o)⟩
theorem At.sel {w w' : World} {b B : Nat} {zs : List Int} (h : At w b zs) (k : Sel B w w') (hne : b ≠ B) : At w' b zs :=
  ⟨by rw [k.size]; exact h.1, fun i hi => (World.cell?_of_block (w := w) (a := ⟨b, 0 + i, none⟩) (k.block b hne)).trans (h.2.1 i hi), fun o => (World.frozen?_of_block (w := w) (a := ⟨b, o, none⟩) (k.block b hne)).trans (h.2.2 o)⟩
theorem At.new {w w' : World} {B : Nat} {cs : List Int} (h : New w w' B cs) : At w' B cs :=
  ⟨h.2.2.1, h.2.2.2, fun o => (h.1.2 _).trans (frozen_out _ _ _ h.2.1)⟩
theorem At.alloc (w : World) (zs : List Int) (t : TypeId) : At (w.alloc (.cells (cellsOf .i64 zs) t)) w.heap.size zs :=
  ⟨by simp, row_cells .i64 w zs t, fun o => World.frozen?_alloc_at _ _ _ _ rfl⟩
theorem At.row {w : World} {b : Nat} {zs : List Int} (h : At w b zs) : Row .i64 w (some ⟨b, 0, none⟩) zs := Or.inr ⟨b, 0, rfl, h.1, h.2.1⟩
theorem Row.below {k : IntKind} {w w' : World} {a : Option Addr} {zs : List Int} (h : Row k w a zs) (hk : Below w.heap.size w w') : Row k w' a zs := by
  rcases h with h | ⟨b, off, rfl, hb, hc⟩
  · exact Or.inl h
  · exact Or.inr ⟨b, off, rfl, Nat.lt_of_lt_of_le hb hk.size, fun i hi => (hk.cell (p := ⟨b, off + i, none⟩) hb).trans (hc i hi)⟩

def marked (n : Nat) : List Int := (List.range n).map (fun i : Nat => 1 + (i : Int))
theorem marked_len (n : Nat) : (marked n).length = n := by simp [marked]
theorem marked_get (n i : Nat) (h : i < n) : (marked n).getD i 0 = 1 + (i : Int) := by simp [marked, h]

theorem toInt_at (W : World) (a : Option Addr) (cap : Nat) (zs : List Int) (hz : Row .i64 W a zs) (hl : zs.length ≤ 1048576) :
    Calls Try.prog 13 #[.slice a zs.length cap] W fun e w' => e = .returned (.slice (some ⟨W.heap.size, 0, none⟩) zs.length zs.length) ∧ Kp W w' ∧ At w' W.heap.size zs :=
  (toInt_any W a cap zs hz hl).mono fun e w' h => ⟨h.1, by rw [h.2]; exact (Kp.refl W).alloc _ _, by rw [h.2]; exact At.alloc W zs 3⟩
theorem eqInt_at (W : World) (b1 b2 n c1 c2 : Nat) (cs : List Int) (hn : cs.length = n) (hl : n ≤ 1048576) (h1 : At W b1 cs) (h2 : At W b2 cs) :
    Calls Try.prog 14 #[.slice (some ⟨b1, 0, none⟩) n c1, .slice (some ⟨b2, 0, none⟩) n c2] W fun e w' => e = .returned (.bool true) ∧ Kp W w' := by
  subst hn
  refine (eqInt_any W _ _ c1 c2 cs hl h1.row h2.row).mono ?_
  rintro e w' ⟨he, q, rfl⟩
  exact ⟨he, (Kp.refl W).drewN q⟩

set_option maxHeartbeats 1000000 in
theorem mark_at (W : World) (b c : Nat) (zs : List Int) (hl : zs.length ≤ 1048576) (h : At W b zs) :
    Calls Try.prog 15 #[.slice (some ⟨b, 0, none⟩) zs.length c, .int .i64 1] W fun e w' => e = .returned (.int .i64 (1 + (zs.length : Int))) ∧ Sel b W w' ∧ At w' b (marked zs.length) := by
  obtain ⟨hb, hc, hf⟩ := h
  have HC : Hid _ := hc
  have HF : Hid _ := hf
  clear hc hf
  go_enter Try.func15, Try.ntmps15
  go_wp2
  go_loopw [1, 5] (fun k i wr => ∃ j : Nat, j ≤ zs.length ∧ i = .int .i64 j ∧ k = .int .i64 (1 + (j : Int)) ∧ Sel b W wr ∧ (∀ m, m < j → wr.cell? ⟨b, 0 + m, none⟩ = some (.int .i64 (1 + (m : Int)))) ∧ (∀ m, j ≤ m → m < zs.length → wr.cell? ⟨b, 0 + m, none⟩ = some (.int .i64 (zs.getD m 0))) ∧ ∀ o, wr.frozen? ⟨b, o, none⟩ = false) (fun _ i _ => zs.length - (intOf i).toNat)
  case atStart => exact ⟨0, Nat.zero_le _, rfl, rfl, Sel.refl _ _, fun m hm => absurd hm (by omega), fun m _ hm => HC.out m hm, HF.out⟩
  case round =>
    obtain ⟨j, hj, rfl, rfl, hs, h1, h2, h3⟩ := hrel
    by_cases hlt : j < zs.length
    · have c0 := h2 j (Nat.le_refl _) hlt
      have f0 := h3 j
      rw [Nat.zero_add] at c0
      have HN : Hid (Sel b W (wr.setCell ⟨b, j, none⟩ (.int .i64 (1 + (j : Int)))) ∧ (∀ m, m < j + 1 → (wr.setCell ⟨b, j, none⟩ (.int .i64 (1 + (j : Int)))).cell? ⟨b, 0 + m, none⟩ = some (.int .i64 (1 + (m : Int)))) ∧ (∀ m, j + 1 ≤ m → m < zs.length → (wr.setCell ⟨b, j, none⟩ (.int .i64 (1 + (j : Int)))).cell? ⟨b, 0 + m, none⟩ = some (.int .i64 (zs.getD m 0))) ∧ ∀ o, (wr.setCell ⟨b, j, none⟩ (.int .i64 (1 + (j : Int)))).frozen? ⟨b, o, none⟩ = false) := by
        refine ⟨hs.setCell _ _, fun m hm => ?_, fun m hm1 hm2 => ?_, fun o => ?_⟩
        · by_cases e : m = j
          · subst e; rw [Nat.zero_add]; exact World.cell?_setCell_same wr ⟨b, m, none⟩ _ c0
          · rw [World.cell?_setCell_other _ _ _ _ (fun h => by injection h; omega)]; exact h1 m (by omega)
        · rw [World.cell?_setCell_other _ _ _ _ (fun h => by injection h; omega)]; exact h2 m (by omega) hm2
        · rw [World.frozen?_setCell]; exact h3 o
      clear hs h1 h2 h3
      generalize zs.getD j 0 = x at *
      go_wp2
      go_roundw
      case rel => exact ⟨j + 1, by omega, by go_num, by go_num, HN.out.1, HN.out.2.1, HN.out.2.2.1, HN.out.2.2.2⟩
      case measure => simp [intOf]; omega
    · have e : j = zs.length := by omega
      subst e
      have HN : Hid (Sel b W wr ∧ At wr b (marked zs.length)) := by
        refine ⟨hs, by rw [hs.size]; exact hb, fun i hi => ?_, h3⟩
        rw [marked_len] at hi
        rw [marked_get _ i hi]
        exact h1 i hi
      clear hs h1 h2 h3
      go_wp2
      go_ret
      exact ⟨rfl, HN.out⟩

set_option maxHeartbeats 1000000 in
theorem held_at (W : World) (b c n : Nat) (hl : n ≤ 1048576) (h : At W b (marked n)) :
    Calls Try.prog 16 #[.slice (some ⟨b, 0, none⟩) n c, .int .i64 1] W fun e w' => e = .returned (.int .i64 (1 + (n : Int))) ∧ w' = W := by
  obtain ⟨hb, hc, hf⟩ := h
  have HC : Hid _ := hc
  clear hc hf
  go_enter Try.func16, Try.ntmps16
  go_wp2
  go_loop [1, 5] (fun k i => ∃ j : Nat, j ≤ n ∧ i = .int .i64 j ∧ k = .int .i64 (1 + (j : Int))) (fun _ i => n - (intOf i).toNat)
  case atStart => exact ⟨0, Nat.zero_le _, rfl, rfl⟩
  case round =>
    obtain ⟨j, hj, rfl, rfl⟩ := hrel
    by_cases hlt : j < n
    · have c0 := HC.out j (by rw [marked_len]; exact hlt)
      rw [marked_get n j hlt, Nat.zero_add] at c0
      have hq : ((1 : Int) + (j : Int) != 1 + (j : Int)) = false := by simp
      go_wp2
      go_round
      case rel => exact ⟨j + 1, by omega, by go_num, by go_num⟩
      case measure => simp [intOf]; omega
    · have e : j = n := by omega
      subst e
      go_wp2
      go_ret
      exact ⟨rfl, rfl⟩
end Go.Proofs.Ytakdmgnkcpahbaa
