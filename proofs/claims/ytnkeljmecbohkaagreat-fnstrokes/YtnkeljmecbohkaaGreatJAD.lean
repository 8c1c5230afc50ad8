/-
  Worlds in which only some blocks have been written; each the
-/
import Derived.Test.YtnkeljmecbohkaaGreatJAA
import Derived.Test.YtnkeljmecbohkaaGreatJAC
import Derived.Deep.RegionWith
namespace Go.Proofs.YtnkeljmecbohkaaGreat
open Go.ChangeShapes Go.WideShapes Go.ChangeAt Go.RowKit
set_option linter.unusedVariables false
structure Mid (lo hi : Nat) (w w' : World) : Prop where
 os : w'.os = w.os
 tape : w'.tape = w.tape
 output : w'.output = w.output
 size : w.heap.size ≤ w'.heap.size
 block : ∀ k, k < w.heap.size → (k < lo ∨ hi ≤ k) → w'.heap[k]? = w.heap[k]?
def vAt (l : List Value) (i : Nat) : Value := l.getD i undef
def nAt (l : List Nat) (i : Nat) : Nat := l.getD i 0
def kAt (ns : List Nat) (K : Nat) : Nat → Nat
 | 0 => K
 | i + 1 => kAt ns K i + 2 * nAt ns i + 1
structure SF (lo hi g : Nat) (vs : List Value) : Prop where
 inn : lo ≤ g ∧ g < hi
 pts : ∀ i, i < vs.length → ∀ b, (vAt vs i).ownBlock = some b → lo ≤ b ∧ b < hi ∧ b ≠ g
 apart : ∀ i j, i ≠ j → i < vs.length → j < vs.length → ∀ b, (vAt vs i).ownBlock = some b → (vAt vs j).ownBlock ≠ some b
def AnyV (w : World) (v : Value) (n : Nat) : Prop := (v = .slice none 0 0 ∧ n = 0) ∨ ∃ g c, v = .slice (some ⟨g, 0, none⟩) n c ∧ AnyPt w g n
def clB (k : Nat) : Bool := ((k : Int) % 3 == 0)
structure MkLn (w : World) (g : Nat) (vs : List Value) (ns : List Nat) (K j : Nat) : Prop where
 lt : g < w.heap.size
 free : ∀ o, w.frozen? ⟨g, o, none⟩ = false
 sl : ∀ i, i < vs.length → w.cell? ⟨g, i * 2, none⟩ = some (vAt vs i)
 c1 : ∀ i, i < j → i < vs.length → w.cell? ⟨g, i * 2 + 1, none⟩ = some (.bool (clB (kAt ns K i + 2 * nAt ns i)))
 c2 : ∀ i, j ≤ i → i < vs.length → ∃ b, w.cell? ⟨g, i * 2 + 1, none⟩ = some (.bool b)
 p1 : ∀ i, i < j → i < vs.length → Mkd w (vAt vs i) (nAt ns i) (kAt ns K i)
 p2 : ∀ i, j ≤ i → i < vs.length → AnyV w (vAt vs i) (nAt ns i)


theorem under_pts : Tryz.prog.underlying 23 = some (.slice 34) := Tryz.underlying23
theorem under_lpts : Tryz.prog.underlying 64 = some (.slice 34) := by kernel_rfl
def LieP (w : World) (g off : Nat) (its : List Pnt) : Prop := g < w.heap.size ∧ ∀ i, i < its.length → w.cell? ⟨g, off + i * 2, none⟩ = some (.int .i64 (ptAt its i).1) ∧ w.cell? ⟨g, off + i * 2 + 1, none⟩ = some (.int .i64 (ptAt its i).2)
theorem LieP.vv {w : World} {g off : Nat} {its : List Pnt} (h : LieP w g off its) : ∀ i, i < (vP its).length → w.cell? ⟨g, off + i * 2, none⟩ = some (vvAt (vP its) i).1 ∧ w.cell? ⟨g, off + i * 2 + 1, none⟩ = some (vvAt (vP its) i).2 := fun i hi => by
 rw [vP_len] at hi
 rw [vP_at its i hi]
 exact h.2 i hi
theorem LieP.nw {w w' : World} {g off : Nat} {its : List Pnt} (h : LieP w g off its) (k : Nw w w') : LieP w' g off its :=
 ⟨Nat.lt_of_lt_of_le h.1 (Below.size k), fun i hi => ⟨((bcell k).1 _ _ h.1).trans (h.2 i hi).1, ((bcell k).1 _ _ h.1).trans (h.2 i hi).2⟩⟩
theorem Pts.lie {w : World} {a : Option Addr} {l : List Pnt} (h : Pts w a l) (hn : 0 < l.length) : ∃ g off, a = some ⟨g, off, none⟩ ∧ LieP w g off l := by
 rcases h with h | ⟨b, off, rfl, hb, hc⟩
 ·rw [h] at hn; simp at hn
 ·exact ⟨b, off, rfl, hb, hc⟩
theorem liep_one (w : World) (x y : Int) (t : TypeId) : LieP (w.alloc (.cells #[.int .i64 x, .int .i64 y] t)) w.heap.size 0 [(x, y)] := by
 refine ⟨by simp, fun i hi => ?_⟩
 have : i = 0 := by simp at hi; omega
 subst this
 simp [ptAt]
set_option maxHeartbeats 1000000 in
theorem iaddP (w : World) (b o B : Nat) (v : Value) (l its : List Pnt) (g off m c : Nat) (hm : m = its.length) (hbox : w.cell? ⟨b, o, none⟩ = some v) (hfr : w.frozen? ⟨b, o, none⟩ = false) (hown : OwnP w B v l) (hits : LieP w g off its)
  (hn : 0 < its.length) (hlen : l.length + its.length ≤ 1000000) (hB : B ≤ w.heap.size) (hne : v.ownBlock ≠ some b) :
  Calls Tryz.prog 61 #[.pointer (some ⟨b, o, none⟩), .slice (some ⟨g, off, none⟩) m c] w fun e w' => e = .returned (.tuple #[]) ∧ ∃ g' c' w1, OwnP w1 B (.slice (some ⟨g', 0, none⟩) (l ++ its).length c') (l ++ its) ∧ Ext v (.slice (some ⟨g', 0, none⟩) (l ++ its).length c') w w1 ∧ w' = w1.setCell ⟨b, o, none⟩ (.slice (some ⟨g', 0, none⟩) (l ++ its).length c') := by
 subst hm
 have hb : b < w.heap.size := World.block_lt_of_cell? w ⟨b, o, none⟩ hbox
 obtain ⟨sa, sn, sc, rfl⟩ := OwnQ.slice hown
 have HO : Hid (OwnP w B (.slice sa sn sc) l) := hown
 have HI : Hid _ := hits.vv
 have HB : Hid (B ≤ w.heap.size) := hB
 have HN : Hid (0 < its.length) := hn
 have HL : Hid (l.length + its.length ≤ 1000000) := hlen
 have HE : Hid ((Value.slice sa sn sc).ownBlock ≠ some b) := hne
 clear hown hits hB hn hlen hne
 go_enter Tryz.func61, Tryz.ntmps61
 go_wp2_with (at_builtin; (refine wpl_q 34 64 23 (.int .i64 0) (.int .i64 0) 16 under_lpts under_pts Tryz.info34 (by decide) rfl w (.tmp 7) (.tmp 8) rfl B (.slice sa sn sc) (vP l) (vP its) rfl HO.out g off its.length c (vP_len its).symm rfl HI.out (vP_one its) (by rw [vP_len]; exact HN.out) ?cl HB.out rfl ?_))
 case cl => rw [vP_len, vP_len]; have := HL.out; omega
 intro g' c' w1 h2 h3
 rw [vP_len, ← vP_append] at h2
 rw [vP_len] at h3
 have y0 : w1.cell? ⟨b, o, none⟩ = some (.slice sa sn sc) := (Ext.cell h3 hb HE.out o).trans hbox
 have y1 : w1.frozen? ⟨b, o, none⟩ = false := (World.frozen?_of_block (w := w) (a := ⟨b, o, none⟩) (h3.1.block b hb (fun e => HE.out e.symm))).trans hfr
 have H2 : Hid _ := h2
 have H3 : Hid _ := h3
 rw [vP_len]
 clear h2 h3 hbox hfr
 go_wp2
 go_end0
 refine ⟨rfl, g', c', w1, ?_, ?_, ?_⟩
 ·rw [List.length_append]; exact H2.out
 ·rw [List.length_append]; exact H3.out
 ·rw [List.length_append]
def LV (bx : Nat) (w : World) (l : List Pnt) : Prop := ∃ v, w.cell? ⟨bx, 0, none⟩ = some v ∧ (∀ o, w.frozen? ⟨bx, o, none⟩ = false) ∧ OwnP w (bx + 1) v l
theorem LV.lt {bx : Nat} {w : World} {l : List Pnt} (h : LV bx w l) : bx < w.heap.size := by
 obtain ⟨v, h1, _⟩ := h
 exact World.block_lt_of_cell? w ⟨bx, 0, none⟩ h1
theorem LV.nw {bx : Nat} {w w' : World} {l : List Pnt} (h : LV bx w l) (k : Nw w w') : LV bx w' l := by
 have hb := h.lt
 obtain ⟨v, h1, h2, h3⟩ := h
 exact ⟨v, ((bcell k).1 _ _ hb).trans h1, fun o => ((bcell k).2 _ _ hb).trans (h2 o), h3.nw k⟩
theorem LV.new (w : World) (t : TypeId) : LV w.heap.size (w.alloc (.cells #[.slice none 0 0] t)) [] :=
 ⟨.slice none 0 0, by simp, fun o => World.frozen?_alloc_at _ _ _ _ rfl, OwnP.nil _ _⟩
theorem LV.val {bx : Nat} {w : World} {l : List Pnt} (h : LV bx w l) : ∃ a c, w.cell? ⟨bx, 0, none⟩ = some (.slice a l.length c) ∧ OwnP w (bx + 1) (.slice a l.length c) l := by
 obtain ⟨v, h1, h2, h3⟩ := h
 obtain ⟨a, c, rfl, _⟩ := h3.pts
 exact ⟨a, c, h1, h3⟩
theorem Nw.below {b : Nat} {w w' : World} (h : Nw w w') (hb : b ≤ w.heap.size) : Below b w w' := Below.mono h hb
theorem iadd_lv (w : World) (bx : Nat) (l its : List Pnt) (g off m c : Nat) (hm : m = its.length) (h : LV bx w l) (hits : LieP w g off its) (hn : 0 < its.length) (hlen : l.length + its.length ≤ 1000000) :
  Calls Tryz.prog 61 #[.pointer (some ⟨bx, 0, none⟩), .slice (some ⟨g, off, none⟩) m c] w fun e w' => e = .returned (.tuple #[]) ∧ LV bx w' (l ++ its) ∧ Below bx w w' := by
 have hb := h.lt
 obtain ⟨v, h1, h2, h3⟩ := h
 have hne : v.ownBlock ≠ some bx := fun e => by have := (OwnQ.lt h3 bx e).1; omega
 refine (iaddP w bx 0 (bx + 1) v l its g off m c hm h1 (h2 0) h3 hits hn hlen (by omega) hne).mono ?_
 rintro e w' ⟨rfl, g', c', w1, k1, k2, rfl⟩
 have hne2 : (Value.slice (some ⟨g', 0, none⟩) (l ++ its).length c').ownBlock ≠ some bx := Ext.apart k2 hb hne
 have hf : ∀ o, w1.frozen? ⟨bx, o, none⟩ = false := fun o => (World.frozen?_of_block (w := w) (a := ⟨bx, o, none⟩) (k2.1.block bx hb (fun e => hne e.symm))).trans (h2 o)
 refine ⟨rfl, ⟨_, World.cell?_setCell_same w1 ⟨bx, 0, none⟩ _ ((Ext.cell k2 hb hne 0).trans h1), fun o => by rw [World.frozen?_setCell]; exact hf o, OwnQ.far k1 bx 0 _ hne2⟩, ?_⟩
 exact (k2.below (fun g e => Nat.le_of_succ_le (OwnQ.lt h3 g e).1) (by omega)).setCell (Nat.le_refl _) _
theorem iadd_one (w : World) (bx : Nat) (l : List Pnt) (x y : Int) (t : TypeId) (h : LV bx w l) (hlen : l.length + 1 ≤ 1000000) :
  Calls Tryz.prog 61 #[.pointer (some ⟨bx, 0, none⟩), .slice (some ⟨w.heap.size, 0, none⟩) 1 1] (w.alloc (.cells #[.int .i64 x, .int .i64 y] t)) fun e w' => e = .returned (.tuple #[]) ∧ LV bx w' (l ++ [(x, y)]) ∧ Below bx w w' := by
 have n1 : Nw w (w.alloc (.cells #[.int .i64 x, .int .i64 y] t)) := (Below.refl _ _).alloc (Nat.le_refl _) _
 refine (iadd_lv _ bx l [(x, y)] w.heap.size 0 1 1 rfl (h.nw n1) (liep_one w x y t) (by simp) (by simpa using hlen)).mono ?_
 rintro e w' ⟨rfl, k1, k2⟩
 exact ⟨rfl, k1, Below.trans (n1.below (Nat.le_of_lt h.lt)) k2⟩
abbrev Its := List (Value × LD)
def itAt (it : Its) (i : Nat) : Value × LD := it.getD i (undef, noLD)
theorem ld_at (it : Its) (i : Nat) (h : i < it.length) : lnAt (it.map (·.2)) i = (itAt it i).2 := by simp [lnAt, itAt, h]
theorem info_line : (Tryz.prog.info? 25).map (fun i => (i.zero, i.size, i.bytes)) = some (some (.agg #[.slice none 0 0, .bool false]), 2, 32) := by kernel_rfl
theorem itAt_old (it : Its) (x : Value × LD) (i : Nat) (h : i < it.length) : itAt (it ++ [x]) i = itAt it i := by simp [itAt, List.getElem?_append, h]
theorem itAt_new (it : Its) (x : Value × LD) : itAt (it ++ [x]) it.length = x := by simp [itAt]
end Go.Proofs.YtnkeljmecbohkaaGreat
