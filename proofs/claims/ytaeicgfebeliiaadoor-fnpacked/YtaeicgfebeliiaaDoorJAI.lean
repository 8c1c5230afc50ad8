/-
  Numbers that lie from an address on; each theorem names its conditions.
  What an append leaves as it was; each theorem names its conditions.
  What the laws' helpers that copy a list, hold two against each other, mark a list and look whether it is held do; each theorem names its conditions.
  What the laws' helpers do with lists that are answered, and what leaves these as they are; each theorem names its conditions.
-/
import Derived.Test.YtaeicgfebeliiaaDoorJAG
import Derived.Test.YtaeicgfebeliiaaDoorJAH
import Derived.Maps.AppendAt
import Derived.OwnWalk
import Derived.Handy
namespace Go.Proofs.YtaeicgfebeliiaaDoor
open Go.ChangeShapes Go.WideShapes Go.ChangeAt Go.RowKit
set_option linter.unusedVariables false

/-- The numbers zs lie from ⟨b, off⟩ on. -/
def Lie (w : World) (b off : Nat) (zs : List Int) : Prop := b < w.heap.size ∧ ∀ i, i < zs.length → w.cell? ⟨b, off + i, none⟩ = some (.int .u8 (zs.getD i 0))
theorem Lie.below {w w' : World} {b off B : Nat} {zs : List Int} (h : Lie w b off zs) (k : Below B w w') (hb : b < B) : Lie w' b off zs :=
  ⟨Nat.lt_of_lt_of_le h.1 k.size, fun i hi => (k.cell (p := ⟨b, off + i, none⟩) hb).trans (h.2 i hi)⟩
end Go.Proofs.YtaeicgfebeliiaaDoor
namespace Go.Proofs.YtaeicgfebeliiaaDoor
open Go.ChangeShapes Go.WideShapes Go.ChangeAt Go.RowKit
set_option linter.unusedVariables false

/-- Behind an append to v, which is v' now. -/
def Ext (v v' : Value) (w w' : World) : Prop := w.grownBy w' v.ownBlock ∧ (v'.ownBlock = v.ownBlock ∨ ∃ g, v'.ownBlock = some g ∧ w.heap.size ≤ g)
theorem Ext.refl (v : Value) (w : World) : Ext v v w w := ⟨⟨rfl, rfl, rfl, Nat.le_refl _, fun _ _ _ => rfl⟩, Or.inl rfl⟩
theorem Ext.size {v v' : Value} {w w' : World} (h : Ext v v' w w') : w.heap.size ≤ w'.heap.size := h.1.size
theorem Ext.trans {v v1 v2 : Value} {w w1 w2 : World} (h : Ext v v1 w w1) (k : Ext v1 v2 w1 w2) : Ext v v2 w w2 := by
  refine ⟨⟨k.1.os.trans h.1.os, k.1.tape.trans h.1.tape, k.1.output.trans h.1.output, Nat.le_trans h.1.size k.1.size, fun b hb hne => ?_⟩, ?_⟩
  · rw [k.1.block b (Nat.lt_of_lt_of_le hb h.1.size) ?_, h.1.block b hb hne]
    rcases h.2 with e | ⟨g, e, hg⟩
    · rw [e]; exact hne
    · rw [e]; intro e2; injection e2; omega
  · rcases k.2 with e | ⟨g, e, hg⟩
    · rcases h.2 with e2 | ⟨g, e2, hg⟩
      · exact Or.inl (e.trans e2)
      · exact Or.inr ⟨g, e.trans e2, hg⟩
    · exact Or.inr ⟨g, e, Nat.le_trans h.1.size hg⟩
theorem Nw.ext {v v' : Value} {a b c : World} (h : Nw a b) (k : Ext v v' b c) : Ext v v' a c := by
  have hs := Below.size h
  refine ⟨⟨k.1.os.trans (Below.os h), k.1.tape.trans (Below.tape h), k.1.output.trans (Below.output h), Nat.le_trans hs k.1.size, fun b hb hne => ?_⟩, ?_⟩
  · rw [k.1.block b (by omega) hne, Below.block h b hb]
  · rcases k.2 with e | ⟨g, e, hg⟩
    · exact Or.inl e
    · exact Or.inr ⟨g, e, by omega⟩
theorem Ext.nw {v v' : Value} {a b c : World} (h : Ext v v' a b) (k : Nw b c) : Ext v v' a c := by
  have hs := h.1.size
  refine ⟨⟨(Below.os k).trans h.1.os, (Below.tape k).trans h.1.tape, (Below.output k).trans h.1.output, Nat.le_trans hs (Below.size k), fun b hb hne => ?_⟩, h.2⟩
  rw [Below.block k b (by omega), h.1.block b hb hne]
theorem Ext.below {v v' : Value} {w w' : World} {B : Nat} (h : Ext v v' w w') (hv : ∀ g, v.ownBlock = some g → B ≤ g) (hB : B ≤ w.heap.size) : Below B w w' :=
  ⟨h.1.os, h.1.tape, h.1.output, h.1.size, fun k hk => h.1.block k (by omega) (fun e => by have := hv k e.symm; omega)⟩
theorem Ext.apart {v v' : Value} {w w' : World} {b : Nat} (h : Ext v v' w w') (hb : b < w.heap.size) (hne : v.ownBlock ≠ some b) : v'.ownBlock ≠ some b := by
  rcases h.2 with e | ⟨g, e, hg⟩
  · rw [e]; exact hne
  · rw [e]; intro e2; injection e2; omega
theorem Ext.cell {v v' : Value} {w w' : World} {b : Nat} (h : Ext v v' w w') (hb : b < w.heap.size) (hne : v.ownBlock ≠ some b) (o : Nat) : w'.cell? ⟨b, o, none⟩ = w.cell? ⟨b, o, none⟩ :=
  World.cell?_of_block (w := w) (a := ⟨b, o, none⟩) (h.1.block b hb (fun e => hne e.symm))

theorem set_grown {w : World} {b o : Nat} {u : Value} : w.grownBy (w.setCell ⟨b, o, none⟩ u) (some b) :=
  ⟨rfl, rfl, rfl, by simp [World.setCell], fun i hi hne => Below.heap_setCell _ _ _ _ (by intro e; apply hne; rw [e])⟩
end Go.Proofs.YtaeicgfebeliiaaDoor
namespace Go.Proofs.YtaeicgfebeliiaaDoor
open Go.ChangeShapes Go.WideShapes Go.ChangeAt Go.RowKit
set_option linter.unusedVariables false

/-- Alike lists are told to be alike. -/
theorem eqByte_any (w : World) (a1 a2 : Option Addr) (c1 c2 : Nat) (zs : List Int) (hl : zs.length ≤ 1048576) (h1 : Row .u8 w a1 zs) (h2 : Row .u8 w a2 zs) :
    Calls Tryd.prog 14 #[.slice a1 zs.length c1, .slice a2 zs.length c2] w fun e w' => e = .returned (.bool true) ∧ ∃ q, w' = w.drewN q := by
  go_enter Tryd.func14, Tryd.ntmps14
  go_wp2
  go_loopw [5] (fun i wr => ∃ k q : Nat, k ≤ zs.length ∧ i = .int .i64 k ∧ wr = w.drewN q) (fun i _ => zs.length - (intOf i).toNat)
  case atStart => exact ⟨0, 0, Nat.zero_le _, rfl, rfl⟩
  case round =>
    obtain ⟨k, q, hk, rfl, rfl⟩ := hrel
    by_cases hlt : k < zs.length
    · rcases h1 with rfl | ⟨b1, o1, rfl, hb1, h1⟩
      · exact absurd hlt (by simp)
      rcases h2 with rfl | ⟨b2, o2, rfl, hb2, h2⟩
      · exact absurd hlt (by simp)
      have c0 := h1 k hlt
      have c1 := h2 k hlt
      clear h1 h2
      generalize zs.getD k 0 = x at *
      have hq : (x == x) = true := by simp
      go_wp2
      go_quiet (fail)
      go_wp2
      go_roundw
      case rel => exact ⟨k + 1, _, by omega, by go_num, rfl⟩
      case measure => simp [intOf]; omega
    · clear h1 h2
      go_wp2
      go_ret
      exact ⟨rfl, _, rfl⟩

def marked (n : Nat) : List Int := (List.range n).map (fun i : Nat => (1 + (i : Int)) % 256)
theorem marked_len (n : Nat) : (marked n).length = n := by simp [marked]
theorem marked_get (n i : Nat) (h : i < n) : (marked n).getD i 0 = (1 + (i : Int)) % 256 := by simp [marked, h]

theorem eqByte_at (W : World) (b1 b2 n c1 c2 : Nat) (cs : List Int) (hn : cs.length = n) (hl : n ≤ 1048576) (h1 : At W b1 cs) (h2 : At W b2 cs) :
    Calls Tryd.prog 14 #[.slice (some ⟨b1, 0, none⟩) n c1, .slice (some ⟨b2, 0, none⟩) n c2] W fun e w' => e = .returned (.bool true) ∧ Nw W w' := by
  subst hn
  refine (eqByte_any W _ _ c1 c2 cs hl h1.row h2.row).mono ?_
  rintro e w' ⟨he, q, rfl⟩
  exact ⟨he, ((Kp.refl W).drewN q).nw⟩

set_option maxHeartbeats 1000000 in
theorem mark_at (W : World) (b c : Nat) (zs : List Int) (hl : zs.length ≤ 1048576) (h : At W b zs) :
    Calls Tryd.prog 15 #[.slice (some ⟨b, 0, none⟩) zs.length c, .int .i64 1] W fun e w' => e = .returned (.int .i64 (1 + (zs.length : Int))) ∧ Sel b W w' ∧ At w' b (marked zs.length) := by
  obtain ⟨hb, hc, hf⟩ := h
  have HC : Hid _ := hc
  have HF : Hid _ := hf
  clear hc hf
  go_enter Tryd.func15, Tryd.ntmps15
  go_wp2
  go_loopw [1, 5] (fun k i wr => ∃ j : Nat, j ≤ zs.length ∧ i = .int .i64 j ∧ k = .int .i64 (1 + (j : Int)) ∧ Sel b W wr ∧ (∀ m, m < j → wr.cell? ⟨b, 0 + m, none⟩ = some (.int .u8 ((1 + (m : Int)) % 256))) ∧ (∀ m, j ≤ m → m < zs.length → wr.cell? ⟨b, 0 + m, none⟩ = some (.int .u8 (zs.getD m 0))) ∧ ∀ o, wr.frozen? ⟨b, o, none⟩ = false) (fun _ i _ => zs.length - (intOf i).toNat)
  case atStart => exact ⟨0, Nat.zero_le _, rfl, rfl, Sel.refl _ _, fun m hm => absurd hm (by omega), fun m _ hm => HC.out m hm, HF.out⟩
  case round =>
    obtain ⟨j, hj, rfl, rfl, hs, h1, h2, h3⟩ := hrel
    by_cases hlt : j < zs.length
    · have c0 := h2 j (Nat.le_refl _) hlt
      have f0 := h3 j
      rw [Nat.zero_add] at c0
      have HN : Hid (Sel b W (wr.setCell ⟨b, j, none⟩ (.int .u8 ((1 + (j : Int)) % 256))) ∧ (∀ m, m < j + 1 → (wr.setCell ⟨b, j, none⟩ (.int .u8 ((1 + (j : Int)) % 256))).cell? ⟨b, 0 + m, none⟩ = some (.int .u8 ((1 + (m : Int)) % 256))) ∧ (∀ m, j + 1 ≤ m → m < zs.length → (wr.setCell ⟨b, j, none⟩ (.int .u8 ((1 + (j : Int)) % 256))).cell? ⟨b, 0 + m, none⟩ = some (.int .u8 (zs.getD m 0))) ∧ ∀ o, (wr.setCell ⟨b, j, none⟩ (.int .u8 ((1 + (j : Int)) % 256))).frozen? ⟨b, o, none⟩ = false) := by
        refine ⟨hs.setCell _ _, fun m hm => ?_, fun m hm1 hm2 => ?_, fun o => ?_⟩
        · by_cases e : m = j
          · subst e; rw [Nat.zero_add]; exact World.cell?_setCell_same wr ⟨b, m, none⟩ _ c0
          · rw [World.cell?_setCell_other _ _ _ _ (fun h => by injection h; omega)]; exact h1 m (by omega)
        · rw [World.cell?_setCell_other _ _ _ _ (fun h => by injection h; omega)]; exact h2 m (by omega) hm2
        · rw [World.frozen?_setCell]; exact h3 o
      clear hs h1 h2 h3
      generalize zs.getD j 0 = x at *
      go_wp2
      go_roundw
      case rel => exact ⟨j + 1, by omega, by go_num, by go_num, HN.out.1, HN.out.2.1, HN.out.2.2.1, HN.out.2.2.2⟩
      case measure => simp [intOf]; omega
    · have e : j = zs.length := by omega
      subst e
      have HN : Hid (Sel b W wr ∧ At wr b (marked zs.length)) := by
        refine ⟨hs, by rw [hs.size]; exact hb, fun i hi => ?_, h3⟩
        rw [marked_len] at hi
        rw [marked_get _ i hi]
        exact h1 i hi
      clear hs h1 h2 h3
      go_wp2
      go_ret
      exact ⟨rfl, HN.out⟩

set_option maxHeartbeats 1000000 in
theorem held_at (W : World) (b c n : Nat) (hl : n ≤ 1048576) (h : At W b (marked n)) :
    Calls Tryd.prog 16 #[.slice (some ⟨b, 0, none⟩) n c, .int .i64 1] W fun e w' => e = .returned (.int .i64 (1 + (n : Int))) ∧ w' = W := by
  obtain ⟨hb, hc, hf⟩ := h
  have HC : Hid _ := hc
  clear hc hf
  go_enter Tryd.func16, Tryd.ntmps16
  go_wp2
  go_loop [1, 5] (fun k i => ∃ j : Nat, j ≤ n ∧ i = .int .i64 j ∧ k = .int .i64 (1 + (j : Int))) (fun _ i => n - (intOf i).toNat)
  case atStart => exact ⟨0, Nat.zero_le _, rfl, rfl⟩
  case round =>
    obtain ⟨j, hj, rfl, rfl⟩ := hrel
    by_cases hlt : j < n
    · have c0 := HC.out j (by rw [marked_len]; exact hlt)
      rw [marked_get n j hlt, Nat.zero_add] at c0
      have hq : (((1 : Int) + (j : Int)) % 256 != (1 + (j : Int)) % 256) = false := by simp
      go_wp2
      go_round
      case rel => exact ⟨j + 1, by omega, by go_num, by go_num⟩
      case measure => simp [intOf]; omega
    · have e : j = n := by omega
      subst e
      go_wp2
      go_ret
      exact ⟨rfl, rfl⟩
end Go.Proofs.YtaeicgfebeliiaaDoor
namespace Go.Proofs.YtaeicgfebeliiaaDoor
open Go.ChangeShapes Go.WideShapes Go.ChangeAt Go.RowKit
set_option linter.unusedVariables false

/-- What lies ahead of lo and from hi on has not changed. -/
structure Mid (lo hi : Nat) (w w' : World) : Prop where
  os : w'.os = w.os
  tape : w'.tape = w.tape
  output : w'.output = w.output
  size : w'.heap.size = w.heap.size
  block : ∀ k, (k < lo ∨ hi ≤ k) → w'.heap[k]? = w.heap[k]?
theorem Mid.refl (lo hi : Nat) (w : World) : Mid lo hi w w := ⟨rfl, rfl, rfl, rfl, fun _ _ => rfl⟩
theorem Sel.mid {B lo hi : Nat} {w w' : World} (h : Sel B w w') (h1 : lo ≤ B) (h2 : B < hi) : Mid lo hi w w' :=
  ⟨h.os, h.tape, h.output, h.size, fun k hk => h.block k (by omega)⟩
theorem Mid.below {lo hi n : Nat} {w w' : World} (h : Mid lo hi w w') (hn : n ≤ lo) : Below n w w' :=
  ⟨h.os, h.tape, h.output, by have := h.size; omega, fun k hk => h.block k (Or.inl (by omega))⟩
theorem At.mid {lo hi b : Nat} {w w' : World} {zs : List Int} (h : At w b zs) (k : Mid lo hi w w') (hne : b < lo ∨ hi ≤ b) : At w' b zs :=
  ⟨by rw [k.size]; exact h.1, fun i hi => (World.cell?_of_block (w := w) (a := ⟨b, 0 + i, none⟩) (k.block b hne)).trans (h.2.1 i hi), fun o => (World.frozen?_of_block (w := w) (a := ⟨b, o, none⟩) (k.block b hne)).trans (h.2.2 o)⟩

/-- The list v has the numbers cs; it is nil, or lies in a block of its own between lo and hi. -/
def Lies (lo hi : Nat) (w : World) (v : Value) (cs : List Int) : Prop :=
  (v = .slice none 0 0 ∧ cs = []) ∨ ∃ g c, v = .slice (some ⟨g, 0, none⟩) cs.length c ∧ lo ≤ g ∧ g < hi ∧ At w g cs
theorem Lies.nil (lo hi : Nat) (w : World) : Lies lo hi w (.slice none 0 0) [] := Or.inl ⟨rfl, rfl⟩
theorem Lies.at {lo hi g c : Nat} {w : World} {cs : List Int} (h : At w g cs) (h1 : lo ≤ g) (h2 : g < hi) : Lies lo hi w (.slice (some ⟨g, 0, none⟩) cs.length c) cs :=
  Or.inr ⟨g, c, rfl, h1, h2, h⟩
theorem Lies.nw {lo hi : Nat} {w w' : World} {v : Value} {cs : List Int} (h : Lies lo hi w v cs) (k : Nw w w') : Lies lo hi w' v cs := by
  rcases h with h | ⟨g, c, h1, h2, h3, h4⟩
  · exact Or.inl h
  · exact Or.inr ⟨g, c, h1, h2, h3, h4.nw k⟩
theorem Lies.mid {lo hi lo' hi' : Nat} {w w' : World} {v : Value} {cs : List Int} (h : Lies lo hi w v cs) (k : Mid lo' hi' w w') (hne : hi ≤ lo' ∨ hi' ≤ lo) : Lies lo hi w' v cs := by
  rcases h with h | ⟨g, c, h1, h2, h3, h4⟩
  · exact Or.inl h
  · exact Or.inr ⟨g, c, h1, h2, h3, h4.mid k (by omega)⟩
theorem Lies.row {lo hi : Nat} {w : World} {v : Value} {cs : List Int} (h : Lies lo hi w v cs) : ∃ a c, v = .slice a cs.length c ∧ Row .u8 w a cs := by
  rcases h with ⟨rfl, rfl⟩ | ⟨g, c, h1, h2, h3, h4⟩
  · exact ⟨none, 0, rfl, Or.inl rfl⟩
  · exact ⟨_, c, h1, h4.row⟩

theorem eqByte_lies (W : World) (lo1 hi1 lo2 hi2 : Nat) (v1 v2 : Value) (cs : List Int) (hl : cs.length ≤ 1048576) (h1 : Lies lo1 hi1 W v1 cs) (h2 : Lies lo2 hi2 W v2 cs) :
    Calls Tryd.prog 14 #[v1, v2] W fun e w' => e = .returned (.bool true) ∧ Nw W w' := by
  obtain ⟨a1, c1, rfl, r1⟩ := h1.row
  obtain ⟨a2, c2, rfl, r2⟩ := h2.row
  refine (eqByte_any W _ _ c1 c2 cs hl r1 r2).mono ?_
  rintro e w' ⟨he, q, rfl⟩
  exact ⟨he, ((Kp.refl W).drewN q).nw⟩
theorem eqByte_args (W : World) (b1 b2 n c1 c2 : Nat) (cs : List Int) (hn : cs.length = n) (hl : n ≤ 1048576) (h1 : At W b1 cs) (h2 : At W b2 cs) :
    Calls Tryd.prog 14 #[.slice (some ⟨b1, 0, none⟩) n c1, .slice (some ⟨b2, 0, none⟩) n c2] W fun e w' => e = .returned (.bool true) ∧ Nw W w' :=
  eqByte_at W b1 b2 n c1 c2 cs hn hl h1 h2

def markd (k0 : Int) (n : Nat) : List Int := (List.range n).map (fun i : Nat => (k0 + (i : Int)) % 256)
theorem markd_len (k0 : Int) (n : Nat) : (markd k0 n).length = n := by simp [markd]
theorem markd_get (k0 : Int) (n i : Nat) (h : i < n) : (markd k0 n).getD i 0 = (k0 + (i : Int)) % 256 := by simp [markd, h]

set_option maxHeartbeats 1000000 in
theorem markFrom_at (W : World) (b c : Nat) (k0 : Int) (zs : List Int) (hk : 0 ≤ k0) (hk0 : k0 ≤ 100000000) (hl : zs.length ≤ 1048576) (h : At W b zs) :
    Calls Tryd.prog 15 #[.slice (some ⟨b, 0, none⟩) zs.length c, .int .i64 k0] W fun e w' => e = .returned (.int .i64 (k0 + (zs.length : Int))) ∧ Sel b W w' ∧ At w' b (markd k0 zs.length) := by
  obtain ⟨hb, hc, hf⟩ := h
  have HC : Hid _ := hc
  have HF : Hid _ := hf
  clear hc hf
  go_enter Tryd.func15, Tryd.ntmps15
  go_wp2
  go_loopw [1, 5] (fun k i wr => ∃ j : Nat, j ≤ zs.length ∧ i = .int .i64 j ∧ k = .int .i64 (k0 + (j : Int)) ∧ Sel b W wr ∧ (∀ m, m < j → wr.cell? ⟨b, 0 + m, none⟩ = some (.int .u8 ((k0 + (m : Int)) % 256))) ∧ (∀ m, j ≤ m → m < zs.length → wr.cell? ⟨b, 0 + m, none⟩ = some (.int .u8 (zs.getD m 0))) ∧ ∀ o, wr.frozen? ⟨b, o, none⟩ = false) (fun _ i _ => zs.length - (intOf i).toNat)
  case atStart => exact ⟨0, Nat.zero_le _, rfl, by simp, Sel.refl _ _, fun m hm => absurd hm (by omega), fun m _ hm => HC.out m hm, HF.out⟩
  case round =>
    obtain ⟨j, hj, rfl, rfl, hs, h1, h2, h3⟩ := hrel
    by_cases hlt : j < zs.length
    · have c0 := h2 j (Nat.le_refl _) hlt
      have f0 := h3 j
      rw [Nat.zero_add] at c0
      have HN : Hid (Sel b W (wr.setCell ⟨b, j, none⟩ (.int .u8 ((k0 + (j : Int)) % 256))) ∧ (∀ m, m < j + 1 → (wr.setCell ⟨b, j, none⟩ (.int .u8 ((k0 + (j : Int)) % 256))).cell? ⟨b, 0 + m, none⟩ = some (.int .u8 ((k0 + (m : Int)) % 256))) ∧ (∀ m, j + 1 ≤ m → m < zs.length → (wr.setCell ⟨b, j, none⟩ (.int .u8 ((k0 + (j : Int)) % 256))).cell? ⟨b, 0 + m, none⟩ = some (.int .u8 (zs.getD m 0))) ∧ ∀ o, (wr.setCell ⟨b, j, none⟩ (.int .u8 ((k0 + (j : Int)) % 256))).frozen? ⟨b, o, none⟩ = false) := by
        refine ⟨hs.setCell _ _, fun m hm => ?_, fun m hm1 hm2 => ?_, fun o => ?_⟩
        · by_cases e : m = j
          · subst e; rw [Nat.zero_add]; exact World.cell?_setCell_same wr ⟨b, m, none⟩ _ c0
          · rw [World.cell?_setCell_other _ _ _ _ (fun h => by injection h; omega)]; exact h1 m (by omega)
        · rw [World.cell?_setCell_other _ _ _ _ (fun h => by injection h; omega)]; exact h2 m (by omega) hm2
        · rw [World.frozen?_setCell]; exact h3 o
      clear hs h1 h2 h3
      generalize zs.getD j 0 = x at *
      go_wp2
      go_roundw
      case rel => exact ⟨j + 1, by omega, by go_num, by go_num, HN.out.1, HN.out.2.1, HN.out.2.2.1, HN.out.2.2.2⟩
      case measure => simp [intOf]; omega
    · have e : j = zs.length := by omega
      subst e
      have HN : Hid (Sel b W wr ∧ At wr b (markd k0 zs.length)) := by
        refine ⟨hs, by rw [hs.size]; exact hb, fun i hi => ?_, h3⟩
        rw [markd_len] at hi
        rw [markd_get _ _ i hi]
        exact h1 i hi
      clear hs h1 h2 h3
      go_wp2
      go_ret
      exact ⟨rfl, HN.out⟩

set_option maxHeartbeats 1000000 in
theorem heldFrom_any (W : World) (a : Option Addr) (c : Nat) (k0 : Int) (n : Nat) (hk : 0 ≤ k0) (hk0 : k0 ≤ 100000000) (hl : n ≤ 1048576) (h : Row .u8 W a (markd k0 n)) :
    Calls Tryd.prog 16 #[.slice a n c, .int .i64 k0] W fun e w' => e = .returned (.int .i64 (k0 + (n : Int))) ∧ w' = W := by
  have HC : Hid _ := h
  clear h
  go_enter Tryd.func16, Tryd.ntmps16
  go_wp2
  go_loop [1, 5] (fun k i => ∃ j : Nat, j ≤ n ∧ i = .int .i64 j ∧ k = .int .i64 (k0 + (j : Int))) (fun _ i => n - (intOf i).toNat)
  case atStart => exact ⟨0, Nat.zero_le _, rfl, by simp⟩
  case round =>
    obtain ⟨j, hj, rfl, rfl⟩ := hrel
    by_cases hlt : j < n
    · rcases HC.out with h | ⟨b, off, rfl, hb, hc⟩
      · have := congrArg List.length h; rw [markd_len] at this; simp at this; omega
      have c0 := hc j (by rw [markd_len]; exact hlt)
      rw [markd_get k0 n j hlt] at c0
      clear hc HC
      have hq : ((k0 + (j : Int)) % 256 != (k0 + (j : Int)) % 256) = false := by simp
      go_wp2
      go_round
      case rel => exact ⟨j + 1, by omega, by go_num, by go_num⟩
      case measure => simp [intOf]; omega
    · have e : j = n := by omega
      subst e
      go_wp2
      go_ret
      exact ⟨rfl, rfl⟩

theorem mark_empty (W : World) (a : Option Addr) (c : Nat) (k0 : Int) (hk : 0 ≤ k0) (hk0 : k0 ≤ 100000000) : Calls Tryd.prog 15 #[.slice a 0 c, .int .i64 k0] W fun e w' => e = .returned (.int .i64 k0) ∧ w' = W := by
  go_enter Tryd.func15, Tryd.ntmps15
  go_wp2
  go_loop [1, 5] (fun k i => k = .int .i64 k0 ∧ i = .int .i64 0) (fun _ _ => 0)
  case atStart => exact ⟨rfl, rfl⟩
  case round =>
    obtain ⟨rfl, rfl⟩ := hrel
    go_wp2
    go_ret
    exact ⟨rfl, rfl⟩

theorem mark_lies (W : World) (lo hi : Nat) (v : Value) (k0 : Int) (cs : List Int) (hk : 0 ≤ k0) (hk0 : k0 ≤ 100000000) (hl : cs.length ≤ 1048576) (h : Lies lo hi W v cs) :
    Calls Tryd.prog 15 #[v, .int .i64 k0] W fun e w' => e = .returned (.int .i64 (k0 + (cs.length : Int))) ∧ Mid lo hi W w' ∧ Lies lo hi w' v (markd k0 cs.length) := by
  rcases h with ⟨rfl, rfl⟩ | ⟨g, c, rfl, h2, h3, h4⟩
  · refine (mark_empty W none 0 k0 hk hk0).mono ?_
    rintro e w' ⟨he, rfl⟩
    exact ⟨by simpa using he, Mid.refl _ _ _, Lies.nil _ _ _⟩
  · refine (markFrom_at W g c k0 cs hk hk0 hl h4).mono ?_
    rintro e w' ⟨he, h5, h6⟩
    refine ⟨he, h5.mid h2 h3, Or.inr ⟨g, c, ?_, h2, h3, h6⟩⟩
    rw [markd_len]
theorem held_lies (W : World) (lo hi : Nat) (v : Value) (k0 : Int) (n : Nat) (hk : 0 ≤ k0) (hk0 : k0 ≤ 100000000) (hl : n ≤ 1048576) (h : Lies lo hi W v (markd k0 n)) :
    Calls Tryd.prog 16 #[v, .int .i64 k0] W fun e w' => e = .returned (.int .i64 (k0 + (n : Int))) ∧ w' = W := by
  obtain ⟨a, c, rfl, r⟩ := h.row
  rw [markd_len]
  exact heldFrom_any W a c k0 n hk hk0 hl r
end Go.Proofs.YtaeicgfebeliiaaDoor
