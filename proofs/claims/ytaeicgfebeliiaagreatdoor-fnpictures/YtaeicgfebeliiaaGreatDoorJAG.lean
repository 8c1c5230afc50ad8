/-
  Numbers that lie from an address on; each theorem names its conditions.
  Small facts on new lists and on what is left as it was; each theorem names its conditions.
  What an append leaves as it was; each theorem names its conditions.
  Lists that are answered, and what leaves these as they are; each theorem names its conditions.
-/
import Derived.Test.YtaeicgfebeliiaaGreatDoorJAF
import Derived.Deep.RegionWith
import Derived.Deep.RegionHeld3
import Derived.Maps.AppendAt
import Derived.OwnWalk
import Derived.Handy
namespace Go.Proofs.YtaeicgfebeliiaaGreatDoor
open Go.ChangeShapes Go.WideShapes Go.ChangeAt Go.RowKit
set_option linter.unusedVariables false

/-- The numbers zs lie from ⟨b, off⟩ on. -/
def Lie (w : World) (b off : Nat) (zs : List Int) : Prop := b < w.heap.size ∧ ∀ i, i < zs.length → w.cell? ⟨b, off + i, none⟩ = some (.int .u8 (zs.getD i 0))
theorem Lie.below {w w' : World} {b off B : Nat} {zs : List Int} (h : Lie w b off zs) (k : Below B w w') (hb : b < B) : Lie w' b off zs :=
  ⟨Nat.lt_of_lt_of_le h.1 k.size, fun i hi => (k.cell (p := ⟨b, off + i, none⟩) hb).trans (h.2 i hi)⟩
end Go.Proofs.YtaeicgfebeliiaaGreatDoor
namespace Go.Proofs.YtaeicgfebeliiaaGreatDoor
open Go.ChangeShapes Go.WideShapes Go.ChangeAt Go.RowKit
set_option linter.unusedVariables false

theorem Nw.drw {w w' : World} (h : Nw w.drew w') : Nw w w' := Nw.trans (show Nw w w.drew from (Below.refl _ _).drew) h
theorem bcell {W w1 : World} (hb : Nw W w1) : (∀ b o, b < W.heap.size → w1.cell? ⟨b, o, none⟩ = W.cell? ⟨b, o, none⟩) ∧ (∀ b o, b < W.heap.size → w1.frozen? ⟨b, o, none⟩ = W.frozen? ⟨b, o, none⟩) :=
  ⟨fun b o h => Below.cell hb (p := ⟨b, o, none⟩) h, fun b o h => Below.frozen hb (p := ⟨b, o, none⟩) h⟩
theorem run_mk (t e : TypeId) (z : Value) (size bytes : Nat) (ht : Tryz.prog.underlying t = some (.slice e)) (hinfo : (Tryz.prog.info? e).map (fun i => (i.zero, i.size, i.bytes)) = some (some z, size, bytes))
    (n : Nat) (hbytes : bytes * n ≤ 281474976710656) (h63 : n ≤ 9223372036854775807) (w : World) :
    (Instr.makeSlice t (.int .i64 (n : Int)) (.int .i64 (n : Int))).run Tryz.prog w = .ok (.slice (some ⟨w.heap.size, 0, none⟩) n n) (w.alloc (.cells (madeCells z.cells (n * size)) e)) := by
  obtain ⟨i, hi, hzz⟩ := Option.map_eq_some_iff.1 hinfo
  simp only [Prod.mk.injEq] at hzz
  obtain ⟨hz, hs, hb⟩ := hzz
  have hb' : (i.bytes : Int) * (n : Int) ≤ 281474976710656 := by
    have h : ((i.bytes * n : Nat) : Int) ≤ 281474976710656 := by rw [hb]; omega
    rwa [Int.natCast_mul] at h
  have hr := run_make (P := Tryz.prog) w t e i z ht hi hz .i64 .i64 n n (by omega) (Int.le_refl _) hb' (by omega)
  simpa [hs] using hr
theorem madeCells_get (z : Array Value) (n j : Nat) (h : j < n) : (madeCells z n)[j]? = some (z[j % z.size]!) := by
  simp [madeCells, h]
theorem addr_spot {W : World} {x : Addr} {v : Value} (h : W.cell? (x.add 0) = some v) : x = ⟨x.block, x.off, none⟩ := by
  obtain ⟨b, off, spot⟩ := x
  have hs := World.cell?_spot h
  simp [Addr.add] at hs
  subst hs; rfl
theorem add_at (b off i : Nat) : (⟨b, off, none⟩ : Addr).add i = ⟨b, off + i, none⟩ := by
  unfold Addr.add
  by_cases h0 : i = 0
  · subst h0; simp
  · simp [h0]
end Go.Proofs.YtaeicgfebeliiaaGreatDoor
namespace Go.Proofs.YtaeicgfebeliiaaGreatDoor
open Go.ChangeShapes Go.WideShapes Go.ChangeAt Go.RowKit
set_option linter.unusedVariables false

/-- Behind an append to v, which is v' now. -/
def Ext (v v' : Value) (w w' : World) : Prop := w.grownBy w' v.ownBlock ∧ (v'.ownBlock = v.ownBlock ∨ ∃ g, v'.ownBlock = some g ∧ w.heap.size ≤ g)
theorem Ext.refl (v : Value) (w : World) : Ext v v w w := ⟨⟨rfl, rfl, rfl, Nat.le_refl _, fun _ _ _ => rfl⟩, Or.inl rfl⟩
theorem Ext.size {v v' : Value} {w w' : World} (h : Ext v v' w w') : w.heap.size ≤ w'.heap.size := h.1.size
theorem Ext.trans {v v1 v2 : Value} {w w1 w2 : World} (h : Ext v v1 w w1) (k : Ext v1 v2 w1 w2) : Ext v v2 w w2 := by
  refine ⟨⟨k.1.os.trans h.1.os, k.1.tape.trans h.1.tape, k.1.output.trans h.1.output, Nat.le_trans h.1.size k.1.size, fun b hb hne => ?_⟩, ?_⟩
  · rw [k.1.block b (Nat.lt_of_lt_of_le hb h.1.size) ?_, h.1.block b hb hne]
    rcases h.2 with e | ⟨g, e, hg⟩
    · rw [e]; exact hne
    · rw [e]; intro e2; injection e2; omega
  · rcases k.2 with e | ⟨g, e, hg⟩
    · rcases h.2 with e2 | ⟨g, e2, hg⟩
      · exact Or.inl (e.trans e2)
      · exact Or.inr ⟨g, e.trans e2, hg⟩
    · exact Or.inr ⟨g, e, Nat.le_trans h.1.size hg⟩
theorem Nw.ext {v v' : Value} {a b c : World} (h : Nw a b) (k : Ext v v' b c) : Ext v v' a c := by
  have hs := Below.size h
  refine ⟨⟨k.1.os.trans (Below.os h), k.1.tape.trans (Below.tape h), k.1.output.trans (Below.output h), Nat.le_trans hs k.1.size, fun b hb hne => ?_⟩, ?_⟩
  · rw [k.1.block b (by omega) hne, Below.block h b hb]
  · rcases k.2 with e | ⟨g, e, hg⟩
    · exact Or.inl e
    · exact Or.inr ⟨g, e, by omega⟩
theorem Ext.nw {v v' : Value} {a b c : World} (h : Ext v v' a b) (k : Nw b c) : Ext v v' a c := by
  have hs := h.1.size
  refine ⟨⟨(Below.os k).trans h.1.os, (Below.tape k).trans h.1.tape, (Below.output k).trans h.1.output, Nat.le_trans hs (Below.size k), fun b hb hne => ?_⟩, h.2⟩
  rw [Below.block k b (by omega), h.1.block b hb hne]
theorem Ext.below {v v' : Value} {w w' : World} {B : Nat} (h : Ext v v' w w') (hv : ∀ g, v.ownBlock = some g → B ≤ g) (hB : B ≤ w.heap.size) : Below B w w' :=
  ⟨h.1.os, h.1.tape, h.1.output, h.1.size, fun k hk => h.1.block k (by omega) (fun e => by have := hv k e.symm; omega)⟩
theorem Ext.apart {v v' : Value} {w w' : World} {b : Nat} (h : Ext v v' w w') (hb : b < w.heap.size) (hne : v.ownBlock ≠ some b) : v'.ownBlock ≠ some b := by
  rcases h.2 with e | ⟨g, e, hg⟩
  · rw [e]; exact hne
  · rw [e]; intro e2; injection e2; omega
theorem Ext.cell {v v' : Value} {w w' : World} {b : Nat} (h : Ext v v' w w') (hb : b < w.heap.size) (hne : v.ownBlock ≠ some b) (o : Nat) : w'.cell? ⟨b, o, none⟩ = w.cell? ⟨b, o, none⟩ :=
  World.cell?_of_block (w := w) (a := ⟨b, o, none⟩) (h.1.block b hb (fun e => hne e.symm))

theorem set_grown {w : World} {b o : Nat} {u : Value} : w.grownBy (w.setCell ⟨b, o, none⟩ u) (some b) :=
  ⟨rfl, rfl, rfl, by simp [World.setCell], fun i hi hne => Below.heap_setCell _ _ _ _ (by intro e; apply hne; rw [e])⟩
end Go.Proofs.YtaeicgfebeliiaaGreatDoor
namespace Go.Proofs.YtaeicgfebeliiaaGreatDoor
open Go.ChangeShapes Go.WideShapes Go.ChangeAt Go.RowKit
set_option linter.unusedVariables false

/-- What lies ahead of lo and from hi on has not changed. -/
structure Mid (lo hi : Nat) (w w' : World) : Prop where
  os : w'.os = w.os
  tape : w'.tape = w.tape
  output : w'.output = w.output
  size : w'.heap.size = w.heap.size
  block : ∀ k, (k < lo ∨ hi ≤ k) → w'.heap[k]? = w.heap[k]?
theorem Mid.refl (lo hi : Nat) (w : World) : Mid lo hi w w := ⟨rfl, rfl, rfl, rfl, fun _ _ => rfl⟩
theorem Sel.mid {B lo hi : Nat} {w w' : World} (h : Sel B w w') (h1 : lo ≤ B) (h2 : B < hi) : Mid lo hi w w' :=
  ⟨h.os, h.tape, h.output, h.size, fun k hk => h.block k (by omega)⟩
theorem Mid.below {lo hi n : Nat} {w w' : World} (h : Mid lo hi w w') (hn : n ≤ lo) : Below n w w' :=
  ⟨h.os, h.tape, h.output, by have := h.size; omega, fun k hk => h.block k (Or.inl (by omega))⟩
theorem At.mid {lo hi b : Nat} {w w' : World} {zs : List Int} (h : At w b zs) (k : Mid lo hi w w') (hne : b < lo ∨ hi ≤ b) : At w' b zs :=
  ⟨by rw [k.size]; exact h.1, fun i hi => (World.cell?_of_block (w := w) (a := ⟨b, 0 + i, none⟩) (k.block b hne)).trans (h.2.1 i hi), fun o => (World.frozen?_of_block (w := w) (a := ⟨b, o, none⟩) (k.block b hne)).trans (h.2.2 o)⟩

/-- The list v has the numbers cs; it is nil, or lies in a block of its own between lo and hi. -/
def Lies (lo hi : Nat) (w : World) (v : Value) (cs : List Int) : Prop :=
  (v = .slice none 0 0 ∧ cs = []) ∨ ∃ g c, v = .slice (some ⟨g, 0, none⟩) cs.length c ∧ lo ≤ g ∧ g < hi ∧ At w g cs
theorem Lies.nil (lo hi : Nat) (w : World) : Lies lo hi w (.slice none 0 0) [] := Or.inl ⟨rfl, rfl⟩
theorem Lies.at {lo hi g c : Nat} {w : World} {cs : List Int} (h : At w g cs) (h1 : lo ≤ g) (h2 : g < hi) : Lies lo hi w (.slice (some ⟨g, 0, none⟩) cs.length c) cs :=
  Or.inr ⟨g, c, rfl, h1, h2, h⟩
theorem Lies.nw {lo hi : Nat} {w w' : World} {v : Value} {cs : List Int} (h : Lies lo hi w v cs) (k : Nw w w') : Lies lo hi w' v cs := by
  rcases h with h | ⟨g, c, h1, h2, h3, h4⟩
  · exact Or.inl h
  · exact Or.inr ⟨g, c, h1, h2, h3, h4.nw k⟩
theorem Lies.mid {lo hi lo' hi' : Nat} {w w' : World} {v : Value} {cs : List Int} (h : Lies lo hi w v cs) (k : Mid lo' hi' w w') (hne : hi ≤ lo' ∨ hi' ≤ lo) : Lies lo hi w' v cs := by
  rcases h with h | ⟨g, c, h1, h2, h3, h4⟩
  · exact Or.inl h
  · exact Or.inr ⟨g, c, h1, h2, h3, h4.mid k (by omega)⟩
theorem Lies.row {lo hi : Nat} {w : World} {v : Value} {cs : List Int} (h : Lies lo hi w v cs) : ∃ a c, v = .slice a cs.length c ∧ Row .u8 w a cs := by
  rcases h with ⟨rfl, rfl⟩ | ⟨g, c, h1, h2, h3, h4⟩
  · exact ⟨none, 0, rfl, Or.inl rfl⟩
  · exact ⟨_, c, h1, h4.row⟩
end Go.Proofs.YtaeicgfebeliiaaGreatDoor
