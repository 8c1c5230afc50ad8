/-
  A reader of paths in a block, and the steps that it has read
-/
import Derived.Test.YtdjemnbdaddegaaJAD
import Derived.Test.YtdjemnbdaddegaaJAA
import Derived.Deep.RegionWith
import Derived.Test.YtdjemnbdaddegaaJAB
namespace Go.Proofs.Ytdjemnbdaddegaa
open Go.ChangeShapes Go.WideShapes Go.ChangeAt Go.RowKit
set_option linter.unusedVariables false
structure PenC (P : Nat) (w : World) (s : ByteArray) (v : Value) (ok : Bool) : Prop where
 c0 : w.cell? ⟨P, 0, none⟩ = some (.string s)
 c1 : w.cell? ⟨P, 1, none⟩ = some v
 c2 : ∃ x : Int, w.cell? ⟨P, 2, none⟩ = some (.int .i64 x)
 c3 : ∃ x : Int, w.cell? ⟨P, 3, none⟩ = some (.int .i64 x)
 c4 : ∃ x : Int, w.cell? ⟨P, 4, none⟩ = some (.int .i64 x)
 c5 : ∃ x : Int, w.cell? ⟨P, 5, none⟩ = some (.int .i64 x)
 c6 : w.cell? ⟨P, 6, none⟩ = some (.bool ok)
 free : ∀ o, w.frozen? ⟨P, o, none⟩ = false
section
variable {P : Nat} {w w' : World} {s : ByteArray} {v : Value} {ok : Bool}
theorem PenC.lt (h : PenC P w s v ok) : P < w.heap.size := World.block_lt_of_cell? w ⟨P, 0, none⟩ h.c0
theorem PenC.like (h : PenC P w s v ok) (e : ∀ o, w'.cell? ⟨P, o, none⟩ = w.cell? ⟨P, o, none⟩) (f : ∀ o, w'.frozen? ⟨P, o, none⟩ = w.frozen? ⟨P, o, none⟩) : PenC P w' s v ok := by
 obtain ⟨c0, c1, ⟨x2, c2⟩, ⟨x3, c3⟩, ⟨x4, c4⟩, ⟨x5, c5⟩, c6, hf⟩ := h
 exact ⟨(e _).trans c0, (e _).trans c1, ⟨x2, (e _).trans c2⟩, ⟨x3, (e _).trans c3⟩, ⟨x4, (e _).trans c4⟩, ⟨x5, (e _).trans c5⟩, (e _).trans c6, fun o => (f o).trans (hf o)⟩
theorem PenC.nw (h : PenC P w s v ok) (k : Nw w w') : PenC P w' s v ok := h.like (fun o => (bcell k).1 _ _ h.lt) (fun o => (bcell k).2 _ _ h.lt)
theorem PenC.far (h : PenC P w s v ok) (b o : Nat) (u : Value) (hne : b ≠ P) : PenC P (w.setCell ⟨b, o, none⟩ u) s v ok :=
 h.like (fun o' => World.cell?_setCell_other _ _ _ _ (fun e => by injection e; omega)) (fun o' => by rw [World.frozen?_setCell])
theorem PenC.ext {u u' : Value} (h : PenC P w s v ok) (k : Ext u u' w w') (hne : u.ownBlock ≠ some P) : PenC P w' s v ok :=
 h.like (fun o => Ext.cell k h.lt hne o) (fun o => World.frozen?_of_block (w := w) (a := ⟨P, o, none⟩) (k.1.block P h.lt (fun e => hne e.symm)))
theorem offc (w : World) (P o o' : Nat) (u : Value) (h : o' ≠ o) : (w.setCell ⟨P, o, none⟩ u).cell? ⟨P, o', none⟩ = w.cell? ⟨P, o', none⟩ := World.cell?_setCell_other _ _ _ _ (fun e => by injection e; omega)
theorem PenC.setS (h : PenC P w s v ok) (t : ByteArray) : PenC P (w.setCell ⟨P, 0, none⟩ (.string t)) t v ok := by
 obtain ⟨c0, c1, ⟨x2, c2⟩, ⟨x3, c3⟩, ⟨x4, c4⟩, ⟨x5, c5⟩, c6, hf⟩ := h
 have e : ∀ o', o' ≠ 0 → _ := fun o' ho => offc w P 0 o' (.string t) ho
 exact ⟨World.cell?_setCell_same w ⟨P, 0, none⟩ _ c0, (e 1 (by omega)).trans c1, ⟨x2, (e 2 (by omega)).trans c2⟩, ⟨x3, (e 3 (by omega)).trans c3⟩, ⟨x4, (e 4 (by omega)).trans c4⟩, ⟨x5, (e 5 (by omega)).trans c5⟩, (e 6 (by omega)).trans c6, fun o => by rw [World.frozen?_setCell]; exact hf o⟩
theorem PenC.setV (h : PenC P w s v ok) (u : Value) : PenC P (w.setCell ⟨P, 1, none⟩ u) s u ok := by
 obtain ⟨c0, c1, ⟨x2, c2⟩, ⟨x3, c3⟩, ⟨x4, c4⟩, ⟨x5, c5⟩, c6, hf⟩ := h
 have e : ∀ o', o' ≠ 1 → _ := fun o' ho => offc w P 1 o' u ho
 exact ⟨(e 0 (by omega)).trans c0, World.cell?_setCell_same w ⟨P, 1, none⟩ _ c1, ⟨x2, (e 2 (by omega)).trans c2⟩, ⟨x3, (e 3 (by omega)).trans c3⟩, ⟨x4, (e 4 (by omega)).trans c4⟩, ⟨x5, (e 5 (by omega)).trans c5⟩, (e 6 (by omega)).trans c6, fun o => by rw [World.frozen?_setCell]; exact hf o⟩
theorem PenC.setOk (h : PenC P w s v ok) (b : Bool) : PenC P (w.setCell ⟨P, 6, none⟩ (.bool b)) s v b := by
 obtain ⟨c0, c1, ⟨x2, c2⟩, ⟨x3, c3⟩, ⟨x4, c4⟩, ⟨x5, c5⟩, c6, hf⟩ := h
 have e : ∀ o', o' ≠ 6 → _ := fun o' ho => offc w P 6 o' (.bool b) ho
 exact ⟨(e 0 (by omega)).trans c0, (e 1 (by omega)).trans c1, ⟨x2, (e 2 (by omega)).trans c2⟩, ⟨x3, (e 3 (by omega)).trans c3⟩, ⟨x4, (e 4 (by omega)).trans c4⟩, ⟨x5, (e 5 (by omega)).trans c5⟩, World.cell?_setCell_same w ⟨P, 6, none⟩ _ c6, fun o => by rw [World.frozen?_setCell]; exact hf o⟩
theorem PenC.setX (h : PenC P w s v ok) (o : Nat) (ho : o = 2 ∨ o = 3 ∨ o = 4 ∨ o = 5) (x : Int) : PenC P (w.setCell ⟨P, o, none⟩ (.int .i64 x)) s v ok := by
 obtain ⟨c0, c1, ⟨x2, c2⟩, ⟨x3, c3⟩, ⟨x4, c4⟩, ⟨x5, c5⟩, c6, hf⟩ := h
 have e : ∀ o', o' ≠ o → _ := fun o' ho => offc w P o o' (.int .i64 x) ho
 have g : ∀ (o' : Nat) (y : Int), w.cell? ⟨P, o', none⟩ = some (.int .i64 y) → ∃ z : Int, (w.setCell ⟨P, o, none⟩ (.int .i64 x)).cell? ⟨P, o', none⟩ = some (.int .i64 z) := fun o' y hy => by
  by_cases h1 : o' = o
  ·subst h1; exact ⟨x, World.cell?_setCell_same w ⟨P, o', none⟩ _ hy⟩
  ·exact ⟨y, (e o' h1).trans hy⟩
 exact ⟨(e 0 (by omega)).trans c0, (e 1 (by omega)).trans c1, g 2 _ c2, g 3 _ c3, g 4 _ c4, g 5 _ c5, (e 6 (by omega)).trans c6, fun o => by rw [World.frozen?_setCell]; exact hf o⟩
end
def NmP (P : Nat) (w : World) (v : Value) (pa : Option Addr) (ns : List Int) : Prop :=
 ns = [] ∨ ∃ b off, pa = some ⟨b, off, none⟩ ∧ P < b ∧ b < w.heap.size ∧ v.ownBlock ≠ some b ∧ ∀ i, i < ns.length → w.cell? ⟨b, off + i, none⟩ = some (.int .i64 (intAt ns i))
theorem NmP.gr {P : Nat} {w w' : World} {v : Value} {pa : Option Addr} {ns : List Int} (h : NmP P w v pa ns) (k : Gr P w w') : NmP P w' v pa ns := by
 rcases h with h | ⟨b, off, rfl, hp, hb, hv, hc⟩
 ·exact Or.inl h
 ·exact Or.inr ⟨b, off, rfl, hp, Nat.lt_of_lt_of_le hb k.size, hv, fun i hi => (k.cell hb (by omega) _).trans (hc i hi)⟩
theorem NmP.ext {P : Nat} {w w' : World} {v v' : Value} {pa : Option Addr} {ns : List Int} (h : NmP P w v pa ns) (k : Ext v v' w w') : NmP P w' v' pa ns := by
 rcases h with h | ⟨b, off, rfl, hp, hb, hv, hc⟩
 ·exact Or.inl h
 ·exact Or.inr ⟨b, off, rfl, hp, Nat.lt_of_lt_of_le hb k.size, k.apart hb hv, fun i hi => (k.cell hb hv _).trans (hc i hi)⟩
theorem NmP.ints {P : Nat} {w : World} {v : Value} {pa : Option Addr} {ns : List Int} (h : NmP P w v pa ns) : Ints w pa ns := by
 rcases h with h | ⟨b, off, rfl, hp, hb, hv, hc⟩
 ·exact Or.inl h
 ·exact Or.inr ⟨b, off, rfl, hb, hc⟩
theorem Ins.nmP {P B : Nat} {w : World} {v u : Value} {ns : List Int} (h : Ins w B u ns) (hP : P < B) (hv : ∀ b, v.ownBlock = some b → b < B) : ∃ pa pc, u = .slice pa ns.length pc ∧ NmP P w v pa ns := by
 rcases h.lay with ⟨rfl, rfl⟩ | ⟨g, c, rfl, hB, hl⟩
 ·exact ⟨none, 0, rfl, Or.inl rfl⟩
 ·exact ⟨_, c, rfl, Or.inr ⟨g, 0, rfl, by omega, hl.1, fun e => by have := hv g e; omega, fun i hi => by rw [Nat.zero_add]; exact hl.2.1 i hi⟩⟩
def StI (P : Nat) (w : World) (v : Value) (x : VV) (sd : SD) : Prop := x.1 = .int .i64 sd.kind ∧ ∃ pa pc, x.2 = .slice pa sd.ns.length pc ∧ NmP P w v pa sd.ns
structure StR (P : Nat) (w : World) (v : Value) (q : List VV) (l : List SD) : Prop where
 own : OwnQ 98 w (P + 1) v q
 len : q.length = l.length
 its : ∀ i, i < l.length → StI P w v (vvAt q i) (stAt l i)
section
variable {P : Nat} {w w' : World} {v v' : Value} {q : List VV} {l : List SD}
theorem StR.nil (P : Nat) (w : World) : StR P w (.slice none 0 0) [] [] := ⟨OwnQ.nil _ _ _, rfl, fun i hi => absurd hi (by simp)⟩
theorem StR.neP (h : StR P w v q l) : v.ownBlock ≠ some P := fun e => by have := (OwnQ.lt h.own P e).1; omega
theorem StR.gr (h : StR P w v q l) (k : Gr P w w') : StR P w' v q l := by
 refine ⟨World.ownsRow.kept h.own k (Or.inr h.neP), h.len, fun i hi => ?_⟩
 obtain ⟨h1, pa, pc, h2, h3⟩ := h.its i hi
 exact ⟨h1, pa, pc, h2, h3.gr k⟩
theorem StR.put {x : VV} {sd : SD} (h : StR P w v q l) (k : Ext v v' w w') (ho : OwnQ 98 w' (P + 1) v' (q ++ [x])) (hx : StI P w v x sd) : StR P w' v' (q ++ [x]) (l ++ [sd]) := by
 refine ⟨ho, by simp [h.len], fun i hi => ?_⟩
 have key : ∀ y z, StI P w v y z → StI P w' v' y z := fun y z ⟨h1, pa, pc, h2, h3⟩ => ⟨h1, pa, pc, h2, h3.ext k⟩
 rw [List.length_append, List.length_singleton] at hi
 by_cases e : i < l.length
 ·have e1 : vvAt (q ++ [x]) i = vvAt q i := by simp [vvAt, List.getElem?_append, h.len, e]
  have e2 : stAt (l ++ [sd]) i = stAt l i := by simp [stAt, List.getElem?_append, e]
  rw [e1, e2]
  exact key _ _ (h.its i e)
 ·obtain rfl : i = l.length := by omega
  have e1 : vvAt (q ++ [x]) l.length = x := by simp [vvAt, h.len]
  have e2 : stAt (l ++ [sd]) l.length = sd := by simp [stAt]
  rw [e1, e2]
  exact key _ _ hx
theorem StR.steps (h : StR P w v q l) : ∃ a c, v = .slice a l.length c ∧ Steps w a l := by
 rcases OwnQ.form h.own with ⟨h1, h2⟩ | ⟨g, c, h1, h2, h3, _, _, h4, _⟩
 ·have hl : l = [] := List.eq_nil_of_length_eq_zero (by rw [← h.len, h2]; rfl)
  subst hl
  exact ⟨none, 0, h1, Or.inl rfl⟩
 ·rw [h.len] at h1 h4
  refine ⟨_, c, h1, Or.inr ⟨g, 0, rfl, h3, fun i hi => ?_⟩⟩
  obtain ⟨e1, pa, pc, e2, e3⟩ := h.its i hi
  obtain ⟨k1, k2⟩ := h4 i hi
  rw [Nat.zero_add]
  exact ⟨by rw [k1, e1], pa, pc, by rw [k2, e2], e3.ints⟩
end
def PenW (P : Nat) (w : World) (s : ByteArray) (ok : Bool) : Prop := ∃ v q l, PenC P w s v ok ∧ StR P w v q l ∧ l.length ≤ 60 ∧ ∀ i, i < l.length → (stAt l i).ns.length ≤ 6
theorem gr_set {P : Nat} {w w' : World} (h : Gr P w w') (o : Nat) (u : Value) : Gr P w (w'.setCell ⟨P, o, none⟩ u) := by
 have h' : w.grownBy w' (some P) := h
 exact ⟨h'.os, h'.tape, h'.output, by simpa [World.setCell] using h.size, fun i hi hne => by
  rw [Below.heap_setCell _ _ _ _ (by show i ≠ P; intro e; exact hne (by rw [e]))]
  exact h'.block i hi hne⟩
theorem Gr.put {P : Nat} {w a b : World} {u u' : Value} (h : Gr P w a) (k : Ext u u' a b) (hu : ∀ g, u.ownBlock = some g → w.heap.size ≤ g) : Gr P w b := by
 have h' : w.grownBy a (some P) := h
 exact ⟨k.1.os.trans h'.os, k.1.tape.trans h'.tape, k.1.output.trans h'.output, Nat.le_trans h'.size k.1.size, fun i hi hne => (k.1.block i (Nat.lt_of_lt_of_le hi h'.size) (fun e => by have := hu i e.symm; omega)).trans (h'.block i hi hne)⟩
theorem PenW.nw {P : Nat} {w w' : World} {s : ByteArray} {ok : Bool} (h : PenW P w s ok) (k : Nw w w') : PenW P w' s ok := by
 obtain ⟨v, q, l, h1, h2, h3, h4⟩ := h
 exact ⟨v, q, l, h1.nw k, h2.gr (Gr.of_nw k), h3, h4⟩
theorem PenW.setS {P : Nat} {w : World} {s : ByteArray} {ok : Bool} (h : PenW P w s ok) (t : ByteArray) : PenW P (w.setCell ⟨P, 0, none⟩ (.string t)) t ok := by
 obtain ⟨v, q, l, h1, h2, h3, h4⟩ := h
 exact ⟨v, q, l, h1.setS t, h2.gr (gr_set (Gr.refl _ _) _ _), h3, h4⟩
theorem PenW.setX {P : Nat} {w : World} {s : ByteArray} {ok : Bool} (h : PenW P w s ok) (o : Nat) (ho : o = 2 ∨ o = 3 ∨ o = 4 ∨ o = 5) (x : Int) : PenW P (w.setCell ⟨P, o, none⟩ (.int .i64 x)) s ok := by
 obtain ⟨v, q, l, h1, h2, h3, h4⟩ := h
 exact ⟨v, q, l, h1.setX o ho x, h2.gr (gr_set (Gr.refl _ _) _ _), h3, h4⟩
def Nums (w : World) (L : Nat) (l : List Int) : Prop := ∀ i (h : i < l.length), w.cell? ⟨L, i, none⟩ = some (.int .i64 l[i])
set_option maxHeartbeats 1000000 in
theorem among_any (w : World) (B L ln : Nat) (l : List Int) (hln : l.length = ln) (ca : Option Addr) (len cap n : Nat) (hl : len ≤ 9223372036854775807) (hn : n ≤ 1000000000) (l1 : 2 ≤ ln) (l2 : ln ≤ 1000) (hLB : L ≠ B) (hN : Nums w L l) (hc : Cur w B ca len cap n) (hd : Code w B ca len) :
  Calls Try.prog 42 #[.pointer (some ⟨B, 0, none⟩), .slice (some ⟨L, 0, none⟩) ln ln] w fun e w' => ∃ v : Int, e = .returned (.int .i64 v) ∧ v ∈ l ∧ Cur w' B ca len cap (n + 2) ∧ Sel B w w' := by
 have HC : Hid _ := hc
 have HD : Hid _ := hd
 have HN : Hid _ := hN
 have HL : Hid _ := hln
 clear hc hd hN hln
 go_enter Try.func42, Try.ntmps42
 go_wp2_with fail
 refine (pick_any w B ca len cap n ln hl hn (by omega) (by omega) HC.out HD.out).mono ?_
 rintro e w1 ⟨i, rfl, i0, i1, hc1, hb1⟩
 obtain ⟨k, rfl⟩ := Int.eq_ofNat_of_zero_le i0
 have hkl : k < l.length := by rw [HL.out]; omega
 have HM : Hid (l[k] ∈ l) := List.getElem_mem _
 have hv := HN.out k hkl
 generalize l[k] = v at *
 have hv1 : w1.cell? ⟨L, k, none⟩ = some (.int .i64 v) := by rw [hb1.cell (p := ⟨L, k, none⟩) hLB]; exact hv
 have HC1 : Hid _ := hc1
 have HB1 : Hid _ := hb1
 clear hc1 hb1 hv hkl
 go_wp2
 go_ret
 exact ⟨v, rfl, HM.out, HC1.out, HB1.out⟩
set_option maxHeartbeats 1000000 in
theorem wide_any (w : World) (B : Nat) (ca : Option Addr) (len cap n : Nat) (hl : len ≤ 9223372036854775807) (hn : n ≤ 1000000000) (hc : Cur w B ca len cap n) (hd : Code w B ca len) :
  Calls Try.prog 103 #[.pointer (some ⟨B, 0, none⟩)] w fun e w' => ∃ v : Int, e = .returned (.int .i64 v) ∧ (Lit.int .i64 v).wf = true ∧ Cur w' B ca len cap (n + 8) ∧ Sel B w w' := by
 have HD : Hid _ := hd
 clear hd
 go_enter Try.func103, Try.ntmps103
 go_wp2
 go_loopw [3, 4] (fun x i W => ∃ (q : Nat) (v : Int), q ≤ 8 ∧ i = .int .i64 (q : Int) ∧ x = .int .i64 v ∧ (Lit.int .i64 v).wf = true ∧ Cur W B ca len cap (n + q) ∧ Sel B w W) (fun _ i _ => 8 - (intOf i).toNat)
 case atStart => exact ⟨0, 0, by omega, rfl, rfl, by decide, hc, Sel.refl _ _⟩
 case round =>
  obtain ⟨q, v, hq, rfl, rfl, vw, hc1, hb1⟩ := hrel
  have HC1 : Hid _ := hc1
  have HB1 : Hid _ := hb1
  have VW : Hid _ := vw
  clear hc1 hb1 vw hc
  by_cases hlt : q < 8
  ·go_wp2_with fail
   refine (next_any wr B ca len cap (n + q) hl (by omega) HC1.out (Code.below HD.out (Sel.below HB1.out))).mono ?_
   rintro e w2 ⟨u, rfl, u0, u1, hc2, hb2⟩
   have HC2 : Hid _ := hc2
   have HB2 : Hid _ := hb2
   clear hc2 hb2
   go_wp2
   go_roundw
   case rel => exact ⟨q + 1, _, by omega, by go_num, rfl, wf_bits _ _ _ _, Cur.mono HC2.out (by omega), Sel.trans HB1.out HB2.out⟩
   case measure => simp [intOf]; omega
  ·obtain rfl : q = 8 := by omega
   go_wp2
   go_ret
   exact ⟨v, rfl, VW.out, HC1.out, HB1.out⟩
theorem nums_alloc (l : List Int) (w : World) (t : TypeId) : Nums (w.alloc (.cells (l.map (Value.int .i64)).toArray t)) w.heap.size l := by
 intro i h
 rw [World.cell?_alloc_new]
 simp [h]
theorem Nums.sel {w w1 : World} {B L : Nat} {l : List Int} (h : Nums w L l) (hs : Sel B w w1) (hLB : L ≠ B) : Nums w1 L l := by
 intro i hi; rw [hs.cell (p := ⟨L, i, none⟩) hLB]; exact h i hi
def isWf (l : List Int) : Bool := l.all fun x => (Lit.int .i64 x).wf
theorem wf_mem (l : List Int) (h : isWf l = true) (v : Int) (hv : v ∈ l) : (Lit.int .i64 v).wf = true := List.all_eq_true.1 h v hv
theorem tmod_bd (u : Int) : -1099511627776 ≤ u.tmod 1099511627777 ∧ u.tmod 1099511627777 ≤ 1099511627776 := by
 by_cases h : u < 0
 ·rw [tmod_neg_of u _ h]; omega
 ·rw [Int.tmod_eq_emod_of_nonneg (by omega)]; omega
theorem small_of (d : Int) (h : d ∈ [1, 2, 3, 4, 7]) : 1 ≤ d ∧ d ≤ 7 := by
 simp only [List.mem_cons, List.mem_nil_iff, or_false] at h
 omega
theorem Gr.drew {B : Nat} {a b : World} (h : Gr B a b) : Gr B a b.drew := by
 have h' : a.grownBy b (some B) := h
 exact ⟨h'.os, h'.tape, h'.output, h'.size, h'.block⟩
set_option maxHeartbeats 2000000 in
theorem fixed_gr (w : World) (B : Nat) (ca : Option Addr) (len cap n : Nat) (hl : len ≤ 9223372036854775807) (hn : n ≤ 100000000) (hc : Cur w B ca len cap n) (hd : Code w B ca len) :
    Calls Try.prog 77 #[.pointer (some ⟨B, 0, none⟩)] w fun e w' => ∃ v : Int, e = .returned (.int .i64 v) ∧ (Lit.int .i64 v).wf = true ∧ Cur w' B ca len cap (n + 20) ∧ Gr B w w' := by
  have HC : Hid (Cur w B ca len cap n) := hc
  have HD : Hid (Code w B ca len) := hd
  have HBW : Hid (B ≤ w.heap.size) := Nat.le_of_lt hc.lt
  clear hc hd
  go_enter Try.func77, Try.ntmps77
  go_wp2_with fail
  refine (pick_any w B ca len cap n 7 hl (by omega) (by omega) (by omega) HC.out HD.out).mono ?_
  rintro e w1 ⟨v, rfl, v0, v1, hc1, hb1⟩
  have hB1 := hc1.lt
  have hd1 := Code.below HD.out hb1.below
  have HC1 : Hid (Cur w1 B ca len cap (n + 2)) := hc1
  have HB1 : Hid (Sel B w w1) := hb1
  have HD1 : Hid (Code w1 B ca len) := hd1
  clear hc1 hb1 hd1
  by_cases e0 : v = 0
  · subst e0
    go_wp2_with fail
    refine (among_any _ B w1.heap.size 7 [0, 65536, -65536, 1099511627776, -1099511627776, 1, -1] rfl ca len cap (n + 2) hl (by omega) (by omega) (by omega) (by omega) (nums_alloc [0, 65536, -65536, 1099511627776, -1099511627776, 1, -1] w1 3) (HC1.out.alloc _ _) (HD1.out.alloc (by omega) _)).mono ?_
    rintro e w2 ⟨u, rfl, hu, hc2, hb2⟩
    have HW : Hid _ := wf_mem _ (by decide) u hu
    have HC2 : Hid (Cur w2 B ca len cap (n + 2 + 2)) := hc2
    have HB2 : Hid _ := Gr.of_sel hb2
    clear hc2 hb2 hu
    go_wp2
    go_ret
    exact ⟨u, rfl, HW.out, Cur.mono HC2.out (by omega), (Gr.alloc (Gr.of_sel HB1.out) _).trans HB2.out⟩
  have z0 : (v == 0) = false := by rw [beq_eq_false_iff_ne]; exact e0
  by_cases e1 : v = 1
  · subst e1
    go_wp2_with fail
    refine (wide_any w1 B ca len cap (n + 2) hl (by omega) HC1.out HD1.out).mono ?_
    rintro e w2 ⟨u, rfl, hu, hc2, hb2⟩
    have ub := tmod_bd u
    have HC2 : Hid (Cur w2 B ca len cap (n + 2 + 8)) := hc2
    have HB2 : Hid _ := Gr.of_sel hb2
    clear hc2 hb2 hu
    obtain ⟨ub1, ub2⟩ := ub
    go_wp2
    go_ret
    exact ⟨u.tmod 1099511627777, rfl, WalkArith.wf_i64 (by omega), Cur.mono HC2.out (by omega), (Gr.of_sel HB1.out).trans HB2.out⟩
  have z1 : (v == 1) = false := by rw [beq_eq_false_iff_ne]; exact e1
  by_cases e2 : v = 2
  · subst e2
    go_wp2_with fail
    refine (pick_any w1 B ca len cap (n + 2) 65536 hl (by omega) (by omega) (by omega) HC1.out HD1.out).mono ?_
    rintro e w2 ⟨u, rfl, u0, u1, hc2, hb2⟩
    have HC2 : Hid (Cur w2 B ca len cap (n + 2 + 2)) := hc2
    have HB2 : Hid _ := Gr.of_sel hb2
    clear hc2 hb2
    go_wp2
    go_ret
    exact ⟨u - 32768, rfl, WalkArith.wf_i64 (by omega), Cur.mono HC2.out (by omega), (Gr.of_sel HB1.out).trans HB2.out⟩
  have z2 : (v == 2) = false := by rw [beq_eq_false_iff_ne]; exact e2
  clear e0 e1 e2
  go_wp2_with fail
  go_region_with (first
    | (go_at_call_of 41 (Value.int .i64 41)
       refine (pick_any _ B ca len cap (n + 2) 41 hl (by omega) (by omega) (by omega) ?_ ?_).mono ?_
       · first | exact HC1.out | exact HC1.out.alloc _ _
       · first | exact HD1.out | exact HD1.out.alloc (by omega) _
       rintro e w2 ⟨p, rfl, p0, p1, hc2, hb2⟩
       have hB2 := hc2.lt
       have HC2 : Hid (Cur w2 B ca len cap (n + 2 + 2)) := hc2
       have HE2 : Hid (Gr B w w2) := by first | exact (Gr.of_sel HB1.out).drew.trans (Gr.of_sel hb2) | exact (Gr.alloc (Gr.of_sel HB1.out) _).drew.trans (Gr.of_sel hb2)
       have HD2 : Hid (Code w2 B ca len) := Code.below HD.out (Gr.below HE2.out HBW.out)
       first | (have HN2 : Hid (Nums w2 w1.heap.size [1, 2, 3, 4, 7]) := Nums.sel (by exact nums_alloc [1, 2, 3, 4, 7] w1 3) hb2 (by omega)) | skip
       clear hc2 hb2)
    | (go_at_call_of 42 (w1.heap.size)
       refine (among_any _ B w1.heap.size 5 [1, 2, 3, 4, 7] rfl ca len cap (n + 4) hl (by omega) (by omega) (by omega) (by omega) HN2.out HC2.out HD2.out).mono ?_
       rintro e w3 ⟨d, rfl, hdm, hc3, hb3⟩
       obtain ⟨d1, d2⟩ := small_of d hdm
       have HC3 : Hid (Cur w3 B ca len cap (n + 4 + 2)) := hc3
       have HE3 : Hid (Gr B w w3) := HE2.out.trans (Gr.of_sel hb3)
       clear hc3 hb3 hdm)
    | (go_at_call 42
       refine (among_any _ B w2.heap.size 5 [1, 2, 3, 4, 7] rfl ca len cap (n + 4) hl (by omega) (by omega) (by omega) (by omega) (nums_alloc [1, 2, 3, 4, 7] w2 3) (HC2.out.alloc _ _) (HD2.out.alloc (by omega) _)).mono ?_
       rintro e w3 ⟨d, rfl, hdm, hc3, hb3⟩
       obtain ⟨d1, d2⟩ := small_of d hdm
       have HC3 : Hid (Cur w3 B ca len cap (n + 4 + 2)) := hc3
       have HE3 : Hid (Gr B w w3) := (Gr.alloc HE2.out _).trans (Gr.of_sel hb3)
       clear hc3 hb3 hdm)
    | (go_at_call_of 41 (Value.int .i64 3)
       refine (pick_any _ B ca len cap (n + 6) 3 hl (by omega) (by omega) (by omega) HC3.out (Code.below HD.out (Gr.below HE3.out HBW.out))).mono ?_
       rintro e w4 ⟨q, rfl, q0, q1, hc4, hb4⟩
       have HC4 : Hid (Cur w4 B ca len cap (n + 6 + 2)) := hc4
       have HE4 : Hid (Gr B w w4) := HE3.out.trans (Gr.of_sel hb4)
       clear hc4 hb4))
  all_goals
    go_wp2_with fail
    refine (one_any w4 B ca len cap (n + 8) 60 hl (by omega) (by omega) (by omega) HC4.out (Code.below HD.out (Gr.below HE4.out HBW.out))).mono ?_
    rintro e w5 ⟨bb, rfl, hc5, hb5⟩
    have hB5 := hc5.lt
    have HC5 : Hid (Cur w5 B ca len cap (n + 8 + 2)) := hc5
    have HE5 : Hid (Gr B w w5) := HE4.out.trans (Gr.of_sel hb5)
    clear hc5 hb5
    cases bb
    · go_wp2
      go_ret
      exact ⟨_, rfl, by go_wf, Cur.mono HC5.out (by omega), HE5.out⟩
    · go_wp2_with fail
      refine (among_any _ B w5.heap.size 4 [1099511627777, -1099511627777, 9223372036854775807, -9223372036854775808] rfl ca len cap (n + 10) hl (by omega) (by omega) (by omega) (by omega) (nums_alloc [1099511627777, -1099511627777, 9223372036854775807, -9223372036854775808] w5 3) (HC5.out.alloc _ _) (Code.alloc (Code.below HD.out (Gr.below HE5.out HBW.out)) (by omega) _)).mono ?_
      rintro e w6 ⟨u, rfl, hu, hc6, hb6⟩
      have HW : Hid _ := wf_mem _ (by decide) u hu
      have HC6 : Hid (Cur w6 B ca len cap (n + 10 + 2)) := hc6
      have HE6 : Hid (Gr B w w6) := (Gr.alloc HE5.out _).trans (Gr.of_sel hb6)
      clear hc6 hb6 hu
      go_wp2
      go_ret
      exact ⟨u, rfl, HW.out, Cur.mono HC6.out (by omega), HE6.out⟩
theorem Code.past {w w1 : World} {B B' : Nat} {ca : Option Addr} {len : Nat} (h : Code w B ca len) (hb : Below B w w1) (hB : B ≤ B') : Code w1 B' ca len := by
 rcases h with h | ⟨b, off, h1, h2, h3⟩
 ·exact Or.inl h
 ·refine Or.inr ⟨b, off, h1, by omega, fun i hi => ?_⟩
  obtain ⟨v, v0, v1, hv⟩ := h3 i hi
  exact ⟨v, v0, v1, by rw [hb.cell (p := ⟨b, off + i, none⟩) h2]; exact hv⟩
theorem Gr.nw {w W w' : World} (h : Nw w W) (k : Gr w.heap.size W w') : Nw w w' := by
 have k' : W.grownBy w' (some w.heap.size) := k
 exact ⟨k'.os.trans (Below.os h), k'.tape.trans (Below.tape h), k'.output.trans (Below.output h), Nat.le_trans (Below.size h) k'.size, fun i hi => (k'.block i (Nat.lt_of_lt_of_le hi (Below.size h)) (fun e => by have := Option.some.inj e; omega)).trans (Below.block h i hi)⟩
theorem cur0 (w : World) (ca : Option Addr) (len cap : Nat) : Cur (w.alloc (.cells #[.slice ca len cap, .int .i64 0, .int .u64 0] 72)) w.heap.size ca len cap 0 :=
 ⟨0, 0, by omega, by omega, by omega, by simp, by simp, by simp, fun o => World.frozen?_alloc_at _ _ _ _ rfl, by simp⟩
theorem box2 {x y : Value} {t : TypeId} (w wr : World) (k : Kp (w.alloc (.cells #[x, y] t)) wr) :
  wr.cell? ⟨w.heap.size, 0, none⟩ = some x ∧ wr.cell? ⟨w.heap.size, 1, none⟩ = some y ∧ (∀ o, wr.frozen? ⟨w.heap.size, o, none⟩ = false) ∧ w.heap.size < wr.heap.size := by
 have hs : w.heap.size < (w.alloc (.cells #[x, y] t)).heap.size := by simp
 refine ⟨(k.cells.1 _ _ hs).trans (by simp), (k.cells.1 _ _ hs).trans (by simp), fun o => (k.cells.2 _ _).trans (World.frozen?_alloc_at _ _ _ _ rfl), Nat.lt_of_lt_of_le hs k.size⟩
theorem zbox (w wr : World) (t : TypeId) (k : Kp (w.alloc (.cells #[.int .i64 0, .int .i64 0] t)) wr) :
  wr.cell? ⟨w.heap.size, 0, none⟩ = some (.int .i64 0) ∧ wr.cell? ⟨w.heap.size, 1, none⟩ = some (.int .i64 0) ∧ (∀ o, wr.frozen? ⟨w.heap.size, o, none⟩ = false) ∧ w.heap.size < wr.heap.size := box2 w wr k
theorem nbox2 {x y : Value} {t : TypeId} (w wr : World) (k : Nw (w.alloc (.cells #[x, y] t)) wr) :
  wr.cell? ⟨w.heap.size, 0, none⟩ = some x ∧ wr.cell? ⟨w.heap.size, 1, none⟩ = some y ∧ (∀ o, wr.frozen? ⟨w.heap.size, o, none⟩ = false) ∧ w.heap.size < wr.heap.size := by
 have hs : w.heap.size < (w.alloc (.cells #[x, y] t)).heap.size := by simp
 refine ⟨((bcell k).1 _ _ hs).trans (by simp), ((bcell k).1 _ _ hs).trans (by simp), fun o => ((bcell k).2 _ _ hs).trans (World.frozen?_alloc_at _ _ _ _ rfl), Nat.lt_of_lt_of_le hs (Below.size k)⟩
theorem kp_box {w wr : World} {o : Array Value} {t : TypeId} (k : Kp (w.alloc (.cells o t)) wr) : Kp w wr := Kp.trans ((Kp.refl w).alloc _ _) k
theorem nw_box {w wr : World} {o : Array Value} {t : TypeId} (k : Nw (w.alloc (.cells o t)) wr) : Nw w wr := Nw.trans ((Below.refl _ _).alloc (Nat.le_refl _) _) k
theorem set2 (w : World) (g : Nat) (x y : Value) {u v : Value} (h0 : w.cell? ⟨g, 0, none⟩ = some u) (h1 : w.cell? ⟨g, 1, none⟩ = some v) :
  ((w.setCell ⟨g, 0, none⟩ x).setCell ⟨g, 1, none⟩ y).cell? ⟨g, 0, none⟩ = some x ∧ ((w.setCell ⟨g, 0, none⟩ x).setCell ⟨g, 1, none⟩ y).cell? ⟨g, 1, none⟩ = some y := by
 refine ⟨?_, World.cell?_setCell_same _ ⟨g, 1, none⟩ _ ((World.cell?_setCell_other _ _ _ _ (fun h => by injection h; omega)).trans h1)⟩
 rw [World.cell?_setCell_other _ _ _ _ (fun h => by injection h; omega)]
 exact World.cell?_setCell_same w ⟨g, 0, none⟩ _ h0
end Go.Proofs.Ytdjemnbdaddegaa
