/-
  What an append leaves as it was; each theorem names its cond
-/
import Derived.Test.YtnkeljmecbohkaaGreatJAA
import Derived.Maps.AppendAt
import Derived.OwnWalk
import Derived.Handy
import Derived.Deep.AppendLies
import Derived.Deep.RegionWith
import Derived.Test.YtnkeljmecbohkaaGreatJAB
namespace Go.Proofs.YtnkeljmecbohkaaGreat
open Go.ChangeShapes Go.WideShapes Go.ChangeAt Go.RowKit
set_option linter.unusedVariables false
def Ext (v v' : Value) (w w' : World) : Prop := w.grownBy w' v.ownBlock ∧ (v'.ownBlock = v.ownBlock ∨ ∃ g, v'.ownBlock = some g ∧ w.heap.size ≤ g)
theorem Ext.refl (v : Value) (w : World) : Ext v v w w := ⟨⟨rfl, rfl, rfl, Nat.le_refl _, fun _ _ _ => rfl⟩, Or.inl rfl⟩
theorem Ext.size {v v' : Value} {w w' : World} (h : Ext v v' w w') : w.heap.size ≤ w'.heap.size := h.1.size
theorem Nw.ext {v v' : Value} {a b c : World} (h : Nw a b) (k : Ext v v' b c) : Ext v v' a c := by
 have hs := Below.size h
 refine ⟨⟨k.1.os.trans (Below.os h), k.1.tape.trans (Below.tape h), k.1.output.trans (Below.output h), Nat.le_trans hs k.1.size, fun b hb hne => ?_⟩, ?_⟩
 ·rw [k.1.block b (by omega) hne, Below.block h b hb]
 ·rcases k.2 with e | ⟨g, e, hg⟩
  ·exact Or.inl e
  ·exact Or.inr ⟨g, e, by omega⟩
theorem Ext.below {v v' : Value} {w w' : World} {B : Nat} (h : Ext v v' w w') (hv : ∀ g, v.ownBlock = some g → B ≤ g) (hB : B ≤ w.heap.size) : Below B w w' :=
 ⟨h.1.os, h.1.tape, h.1.output, h.1.size, fun k hk => h.1.block k (by omega) (fun e => by have := hv k e.symm; omega)⟩
theorem Ext.apart {v v' : Value} {w w' : World} {b : Nat} (h : Ext v v' w w') (hb : b < w.heap.size) (hne : v.ownBlock ≠ some b) : v'.ownBlock ≠ some b := by
 rcases h.2 with e | ⟨g, e, hg⟩
 ·rw [e]; exact hne
 ·rw [e]; intro e2; injection e2; omega
theorem Ext.cell {v v' : Value} {w w' : World} {b : Nat} (h : Ext v v' w w') (hb : b < w.heap.size) (hne : v.ownBlock ≠ some b) (o : Nat) : w'.cell? ⟨b, o, none⟩ = w.cell? ⟨b, o, none⟩ :=
 World.cell?_of_block (w := w) (a := ⟨b, o, none⟩) (h.1.block b hb (fun e => hne e.symm))
theorem set_grown {w : World} {b o : Nat} {u : Value} : w.grownBy (w.setCell ⟨b, o, none⟩ u) (some b) :=
 ⟨rfl, rfl, rfl, by simp [World.setCell], fun i hi hne => Below.heap_setCell _ _ _ _ (by intro e; apply hne; rw [e])⟩
abbrev VV := Value × Value
def flat2 : List VV → List Value
 | [] => []
 | p :: l => p.1 :: p.2 :: flat2 l
theorem flat2_len (l : List VV) : (flat2 l).length = l.length * 2 := by
 induction l with
 | nil => rfl
 | cons p l ih => simp only [flat2, List.length_cons, ih]; omega
theorem flat2_append (l m : List VV) : flat2 (l ++ m) = flat2 l ++ flat2 m := by
 induction l with
 | nil => rfl
 | cons p l ih => simp only [flat2, List.cons_append, ih]
def vvAt (l : List VV) (i : Nat) : VV := l.getD i (undef, undef)
theorem flat2_at (l : List VV) : ∀ i, i < l.length → (flat2 l)[i * 2]? = some (vvAt l i).1 ∧ (flat2 l)[i * 2 + 1]? = some (vvAt l i).2 := by
 induction l with
 | nil => intro i hi; simp at hi
 | cons p l ih =>
  intro i hi
  cases i with
  | zero => exact ⟨rfl, rfl⟩
  | succ i =>
   have h := ih i (by simpa using hi)
   have e : (i + 1) * 2 = i * 2 + 2 := by omega
   rw [e]
   simpa [flat2, vvAt] using h
def OwnQ (T : TypeId) (w : World) (B : Nat) (v : Value) (l : List VV) : Prop := w.ownsRow B T 2 v l.length (flat2 l)
theorem OwnQ.nil (T : TypeId) (w : World) (B : Nat) : OwnQ T w B (.slice none 0 0) [] := World.ownsRow_nil w B T 2
theorem OwnQ.nw {T : TypeId} {w w' : World} {B : Nat} {v : Value} {l : List VV} (h : OwnQ T w B v l) (k : Nw w w') : OwnQ T w' B v l :=
 World.ownsRow.kept h (row := none) ⟨Below.os k, Below.tape k, Below.output k, Below.size k, fun b hb _ => Below.block k b hb⟩ (by cases hv : v.ownBlock <;> simp)
theorem OwnQ.keep {T : TypeId} {w w' : World} {B : Nat} {u v v' : Value} {l : List VV} (h : OwnQ T w B u l) (k : Ext v v' w w') (hne : u.ownBlock = none ∨ u.ownBlock ≠ v.ownBlock) : OwnQ T w' B u l :=
 World.ownsRow.kept h k.1 hne
theorem OwnQ.lt {T : TypeId} {w : World} {B : Nat} {v : Value} {l : List VV} (h : OwnQ T w B v l) : ∀ g, v.ownBlock = some g → B ≤ g ∧ g < w.heap.size := World.ownsRow.lt h
theorem OwnQ.base {T : TypeId} {w : World} {B B' : Nat} {v : Value} {l : List VV} (h : OwnQ T w B v l) (hB : B' ≤ B) : OwnQ T w B' v l := by
 refine ⟨h.1, ?_⟩
 rcases h.2 with hn | ⟨g, cap, cur, h1, h2, h3⟩
 ·exact Or.inl hn
 ·exact Or.inr ⟨g, cap, cur, h1, by omega, h3⟩
theorem OwnQ.far {T : TypeId} {w : World} {B : Nat} {v : Value} {l : List VV} (h : OwnQ T w B v l) (b o : Nat) (u : Value) (hne : v.ownBlock ≠ some b) : OwnQ T (w.setCell ⟨b, o, none⟩ u) B v l :=
 World.ownsRow.kept h set_grown (Or.inr hne)
theorem OwnQ.form {T : TypeId} {w : World} {B : Nat} {v : Value} {l : List VV} (h : OwnQ T w B v l) : (v = .slice none 0 0 ∧ l = []) ∨ ∃ g c, v = .slice (some ⟨g, 0, none⟩) l.length c ∧ B ≤ g ∧ g < w.heap.size ∧ l.length ≤ c ∧ c ≤ maxLen ∧
  (∀ i, i < l.length → w.cell? ⟨g, i * 2, none⟩ = some (vvAt l i).1 ∧ w.cell? ⟨g, i * 2 + 1, none⟩ = some (vvAt l i).2) ∧ ∀ o, w.frozen? ⟨g, o, none⟩ = false := by
 have h0 := h
 unfold OwnQ at h0
 rcases h.2 with ⟨hn, h1⟩ | ⟨g, cap, cur, h1, h2, h3, h4, h5, h6, h7⟩
 ·exact Or.inl ⟨hn, List.eq_nil_of_length_eq_zero h1⟩
 ·subst h1
  refine Or.inr ⟨g, cap, rfl, h2, (h.lt g rfl).2, h4, h5, fun i hi => ?_, fun o => World.ownsRow.frozenAt h0 o⟩
  obtain ⟨e1, e2⟩ := flat2_at l i hi
  have c1 := World.ownsRow.cellAt h0 (i * 2) (by omega)
  have c2 := World.ownsRow.cellAt h0 (i * 2 + 1) (by omega)
  rw [c1, c2, e1, e2]
  exact ⟨rfl, rfl⟩
theorem append_mix (t u ty e : TypeId) (ht : Tryz.prog.underlying t = some (.slice e)) (hu : Tryz.prog.underlying u = some (.slice e)) (sa : Option Addr) (sn sc : Nat) (x : Value) (w : World) :
  (Builtin.append_ #[t, u] ty #[.slice sa sn sc, x]).run Tryz.prog w = (Builtin.append_ #[t, t] ty #[.slice sa sn sc, x]).run Tryz.prog w := by
 have h : ∀ w', (underlying u).run Tryz.prog w' = (underlying t).run Tryz.prog w' := fun w' => by rw [run_underlying hu, run_underlying ht]
 simp only [Builtin.append_, Sem.run_bind, List.getElem?_toArray, List.getElem?_cons_zero, List.getElem?_cons_succ, run_underlying ht, Result.andThen_ok, h]
theorem OwnQ.slice {T : TypeId} {w : World} {B : Nat} {v : Value} {l : List VV} (h : OwnQ T w B v l) : ∃ a n c, v = .slice a n c := by
 rcases h.2 with ⟨hn, _⟩ | ⟨g, cap, cur, h1, _⟩
 ·exact ⟨_, _, _, hn⟩
 ·exact ⟨_, _, _, h1⟩
section
variable (T t1 t2 : TypeId) (z0 z1 : Value) (bytes : Nat) (ht1 : Tryz.prog.underlying t1 = some (.slice T)) (ht2 : Tryz.prog.underlying t2 = some (.slice T))
 (hinfo : (Tryz.prog.info? T).map (fun i => (i.zero, i.size, i.bytes)) = some (some (.agg #[z0, z1]), 2, bytes)) (hb : bytes ≤ 64) (hzz : (Value.agg #[z0, z1]).cells.size = 2)
include ht1 ht2 hinfo hb hzz
theorem run_q (ty : TypeId) (w : World) (B : Nat) (v : Value) (l news : List VV) (hown : OwnQ T w B v l) (g off c : Nat)
  (hc : ∀ i, i < news.length → w.cell? ⟨g, off + i * 2, none⟩ = some (vvAt news i).1 ∧ w.cell? ⟨g, off + i * 2 + 1, none⟩ = some (vvAt news i).2) (h1 : ∀ u ∈ flat2 news, u.oneCell' = true)
  (hn : 0 < news.length) (hl : l.length + news.length ≤ 10000000) (hB : B ≤ w.heap.size) :
  ∃ g' c' w', (Builtin.append_ #[t1, t2] ty #[v, .slice (some ⟨g, off, none⟩) news.length c]).run Tryz.prog w = .ok (.slice (some ⟨g', 0, none⟩) (l.length + news.length) c') w' ∧
   OwnQ T w' B (.slice (some ⟨g', 0, none⟩) (l.length + news.length) c') (l ++ news) ∧ Ext v (.slice (some ⟨g', 0, none⟩) (l.length + news.length) c') w w' := by
 obtain ⟨i0, hi, hzz'⟩ := Option.map_eq_some_iff.1 hinfo
 simp only [Prod.mk.injEq] at hzz'
 obtain ⟨hz0, hz1, hz2⟩ := hzz'
 obtain ⟨sa, sn, sc, rfl⟩ := hown.slice
 rw [append_mix t1 t2 ty T ht1 ht2]
 have hnews : ∀ j u, (flat2 news)[j]? = some u → w.cell? ((⟨g, off, none⟩ : Addr).add j) = some u := by
  intro j u hj
  have hj2 : j < news.length * 2 := by
   have := (List.getElem?_eq_some_iff.1 hj).1
   rw [flat2_len] at this; exact this
  rw [add_at]
  have e := flat2_at news (j / 2) (by omega)
  have c0 := hc (j / 2) (by omega)
  rcases (show j = j / 2 * 2 ∨ j = j / 2 * 2 + 1 by omega) with h | h
  ·rw [h] at hj ⊢
   rw [e.1] at hj
   rw [c0.1]; exact hj
  ·rw [h] at hj ⊢
   rw [e.2] at hj
   rw [← Nat.add_assoc, c0.2]; exact hj
 obtain ⟨g', cap, w', hr, h2, h3, h4, h5⟩ := run_append_lies (P := Tryz.prog) w t1 ty B T i0 (.agg #[z0, z1]) 2 bytes ht1 hi hz0 hz1 hz2 hzz (by decide) (.slice sa sn sc) l.length (flat2 l) hown ⟨g, off, none⟩ news.length c (flat2 news) (flat2_len news) hnews h1 hn (by unfold maxLen; omega)
  (Nat.le_trans (Nat.mul_le_mul hl hb) (by decide)) hB w.heap.size rfl
 refine ⟨g', cap, w', hr, ?_, h3, ?_⟩
 ·unfold OwnQ
  rw [List.length_append, flat2_append]
  exact h2
 ·rcases h4 with h4 | h4
  ·exact Or.inl (by rw [h4]; rfl)
  ·exact Or.inr ⟨g', rfl, by omega⟩
variable (w : World) {ops : Array Oper} {o : Oper} {a : Act} (s x : Operand) (ho : o.op = .call { callee := .builtin .append, args := #[s, x], argTypes := #[t1, t2] })
 (B : Nat) (v : Value) (l news : List VV) (hs : a.eval s = v) (hown : OwnQ T w B v l) (g off m c : Nat) (hm : m = news.length) (hx : a.eval x = .slice (some ⟨g, off, none⟩) m c)
 (hc : ∀ i, i < news.length → w.cell? ⟨g, off + i * 2, none⟩ = some (vvAt news i).1 ∧ w.cell? ⟨g, off + i * 2 + 1, none⟩ = some (vvAt news i).2) (h1 : ∀ u ∈ flat2 news, u.oneCell' = true)
 (hn : 0 < news.length) (hl : l.length + news.length ≤ 10000000) (hB : B ≤ w.heap.size)
include ho hs hown hx hc h1 hn hl hB hm
theorem wp_q {K : Act → World → Prop} {Q : PQ}
  (h : ∀ g' c' w', OwnQ T w' B (.slice (some ⟨g', 0, none⟩) (l.length + m) c') (l ++ news) → Ext v (.slice (some ⟨g', 0, none⟩) (l.length + m) c') w w' → K (a.put o.dst (.slice (some ⟨g', 0, none⟩) (l.length + m) c')) w') : o.wp Tryz.prog a w K Q := by
 subst hm
 obtain ⟨g', c', w', hr, h2, h3⟩ := run_q T t1 t2 z0 z1 bytes ht1 ht2 hinfo hb hzz o.type w B v l news hown g off c hc h1 hn hl hB
 unfold Oper.wp execOp
 simp only [ho, resolve, invoke, builtin, Sem.run_bind, Sem.run_pure, Result.andThen_ok, List.map_toArray, List.map_cons, List.map_nil, hs, hx, hr]
 exact h g' c' w' h2 h3
theorem wpl_q (hgd : o.guard = none) {rest : List Oper} {Q : PQ}
  (h : ∀ g' c' w', OwnQ T w' B (.slice (some ⟨g', 0, none⟩) (l.length + m) c') (l ++ news) → Ext v (.slice (some ⟨g', 0, none⟩) (l.length + m) c') w w' → wpList Tryz.prog ops Q rest (a.put o.dst (.slice (some ⟨g', 0, none⟩) (l.length + m) c')) w') : wpList Tryz.prog ops Q (o :: rest) a w :=
 wpList_plain hgd fun _ hK => wp_q T t1 t2 z0 z1 bytes ht1 ht2 hinfo hb hzz w s x ho B v l news hs hown g off m c hm hx hc h1 hn hl hB fun g' c' w' h2 h3 => hK _ _ (h g' c' w' h2 h3)
theorem st_q (hgd : o.guard = none) {K : Act → World → Prop} {Q : PQ} {E : Prop}
  (h : ∀ g' c' w', OwnQ T w' B (.slice (some ⟨g', 0, none⟩) (l.length + m) c') (l ++ news) → Ext v (.slice (some ⟨g', 0, none⟩) (l.length + m) c') w w' → K (a.put o.dst (.slice (some ⟨g', 0, none⟩) (l.length + m) c')) w') :
  if Region.wanted o (yielded ops a.tmps) = true then Oper.wp Tryz.prog o a w K Q else E := by
 have hw : Region.wanted o (yielded ops a.tmps) = true := by simp [Region.wanted, hgd]
 rw [if_pos hw]
 exact wp_q T t1 t2 z0 z1 bytes ht1 ht2 hinfo hb hzz w s x ho B v l news hs hown g off m c hm hx hc h1 hn hl hB h
end
def vP (l : List Pnt) : List VV := l.map fun p => (.int .i64 p.1, .int .i64 p.2)
theorem vP_len (l : List Pnt) : (vP l).length = l.length := by simp [vP]
theorem vP_append (l m : List Pnt) : vP (l ++ m) = vP l ++ vP m := by simp [vP]
theorem vP_at (l : List Pnt) (i : Nat) (h : i < l.length) : vvAt (vP l) i = (.int .i64 (ptAt l i).1, .int .i64 (ptAt l i).2) := by simp [vvAt, vP, ptAt, h]
theorem vP_one (l : List Pnt) : ∀ u ∈ flat2 (vP l), u.oneCell' = true := by
 induction l with
 | nil => intro u hu; simp [vP, flat2] at hu
 | cons p l ih =>
  intro u hu
  simp only [vP, List.map_cons, flat2, List.mem_cons] at hu
  rcases hu with rfl | rfl | hu
  ·rfl
  ·rfl
  ·exact ih u hu
def OwnP (w : World) (B : Nat) (v : Value) (l : List Pnt) : Prop := OwnQ 34 w B v (vP l)
theorem OwnP.nil (w : World) (B : Nat) : OwnP w B (.slice none 0 0) [] := OwnQ.nil _ w B
theorem OwnP.nw {w w' : World} {B : Nat} {v : Value} {l : List Pnt} (h : OwnP w B v l) (k : Nw w w') : OwnP w' B v l := OwnQ.nw h k
theorem OwnP.lay {w : World} {B : Nat} {v : Value} {l : List Pnt} (h : OwnP w B v l) : (v = .slice none 0 0 ∧ l = []) ∨ ∃ g c, v = .slice (some ⟨g, 0, none⟩) l.length c ∧ B ≤ g ∧ LayPt w g l l.length := by
 rcases OwnQ.form h with ⟨h1, h2⟩ | ⟨g, c, h1, h2, h3, _, _, h4, h5⟩
 ·exact Or.inl ⟨h1, by simpa [vP] using h2⟩
 ·rw [vP_len] at h1 h4
  refine Or.inr ⟨g, c, h1, h2, h3, fun i hi => ?_, fun i a b => by omega, h5⟩
  rw [← show (vvAt (vP l) i).1 = Value.int .i64 (ptAt l i).1 by rw [vP_at l i hi], ← show (vvAt (vP l) i).2 = Value.int .i64 (ptAt l i).2 by rw [vP_at l i hi]]
  exact h4 i hi
theorem OwnP.pts {w : World} {B : Nat} {v : Value} {l : List Pnt} (h : OwnP w B v l) : ∃ a c, v = .slice a l.length c ∧ Pts w a l := by
 rcases h.lay with ⟨rfl, rfl⟩ | ⟨g, c, rfl, _, h3⟩
 ·exact ⟨none, 0, rfl, Or.inl rfl⟩
 ·exact ⟨_, c, rfl, h3.pts⟩
structure LD where
 pts : List Pnt
 closed : Bool
def noLD : LD := ⟨[], false⟩
def lnAt (l : List LD) (i : Nat) : LD := l.getD i noLD
def Lines (w : World) (a : Option Addr) (l : List LD) : Prop :=
 l = [] ∨ ∃ b off, a = some ⟨b, off, none⟩ ∧ b < w.heap.size ∧ ∀ i, i < l.length → (∃ pa pc, w.cell? ⟨b, off + i * 2, none⟩ = some (.slice pa (lnAt l i).pts.length pc) ∧ Pts w pa (lnAt l i).pts) ∧ w.cell? ⟨b, off + i * 2 + 1, none⟩ = some (.bool (lnAt l i).closed)
theorem Lines.nw {w w' : World} {a : Option Addr} {l : List LD} (h : Lines w a l) (k : Nw w w') : Lines w' a l := by
 rcases h with h | ⟨b, off, rfl, hb, hc⟩
 ·exact Or.inl h
 ·refine Or.inr ⟨b, off, rfl, Nat.lt_of_lt_of_le hb (Below.size k), fun i hi => ?_⟩
  obtain ⟨⟨pa, pc, h1, h2⟩, h3⟩ := hc i hi
  exact ⟨⟨pa, pc, ((bcell k).1 _ _ hb).trans h1, h2.nw k⟩, ((bcell k).1 _ _ hb).trans h3⟩
def manyL (l : List LD) : Nat := (l.map fun x => x.pts.length).sum
theorem manyL_step (l : List LD) (k : Nat) (h : k < l.length) : manyL (l.take (k + 1)) = manyL (l.take k) + (lnAt l k).pts.length := by
 unfold manyL lnAt
 have e : l.getD k noLD = l[k] := by simp [h]
 rw [List.take_succ_eq_append_getElem h, List.map_append, List.sum_append, e]
 simp only [List.map_cons, List.map_nil, List.sum_cons, List.sum_nil]
 omega
theorem manyL_le (l : List LD) (k : Nat) : manyL (l.take k) ≤ manyL l := by
 unfold manyL
 conv => rhs; rw [← List.take_append_drop k l]
 rw [List.map_append, List.sum_append]
 omega
theorem manyL_at (l : List LD) (k : Nat) (h : k < l.length) : (lnAt l k).pts.length ≤ manyL l := by
 have h1 := manyL_step l k h
 have h2 := manyL_le l (k + 1)
 omega
set_option maxHeartbeats 1000000 in
theorem smany (w : World) (a : Option Addr) (c : Nat) (l : List LD) (hl : l.length ≤ 1048576) (hm : manyL l ≤ 1048576) (hr : Lines w a l) :
  Calls Tryz.prog 46 #[.slice a l.length c] w fun e w' => e = .returned (.int .i64 (manyL l : Int)) ∧ Kp w w' := by
 have HR : Hid (Lines w a l) := hr
 clear hr
 go_enter Tryz.func46, Tryz.ntmps46
 go_wp2
 go_loopw [3, 8] (fun x i wr => ∃ k : Nat, k ≤ l.length ∧ i = .int .i64 k ∧ x = .int .i64 (manyL (l.take k) : Int) ∧ Kp w wr) (fun _ i _ => l.length - (intOf i).toNat)
 case atStart => exact ⟨0, Nat.zero_le _, rfl, rfl, Kp.refl _⟩
 case round =>
  obtain ⟨k, hk, rfl, rfl, hw⟩ := hrel
  have HW : Hid (Kp w wr) := hw
  clear hw
  by_cases hlt : k < l.length
  ·rcases (HR.out.nw HW.out.nw) with h | ⟨b, off, rfl, hb, hc⟩
   ·rw [h] at hlt; simp at hlt
   obtain ⟨⟨pa, pc, q0, _⟩, q1⟩ := hc k hlt
   clear hc
   have hs := manyL_step l k hlt
   have hle := manyL_le l (k + 1)
   have HE : Hid (manyL (l.take (k + 1)) = manyL (l.take k) + (lnAt l k).pts.length) := hs
   rw [hs] at hle
   clear hs
   generalize manyL (l.take k) = m at *
   generalize (lnAt l k).pts.length = n at *
   generalize (lnAt l k).closed = cl at *
   go_wp2
   go_roundw
   case rel => exact ⟨k + 1, by omega, by go_num, by rw [HE.out]; go_num, HW.out.alloc _ _⟩
   case measure => simp [intOf]; omega
  ·have e : k = l.length := by omega
   subst e
   rw [List.take_length]
   go_wp2
   go_ret
   exact ⟨rfl, HW.out⟩
set_option maxHeartbeats 1000000 in
theorem imany (w : World) (a : Option Addr) (c : Nat) (l : List LD) (hl : l.length ≤ 1048576) (hm : manyL l ≤ 1048576) (hr : Lines w a l) :
  Calls Tryz.prog 35 #[.slice a l.length c] w fun e w' => e = .returned (.int .i64 (manyL l : Int)) ∧ Kp w w' := by
 have HR : Hid (Lines w a l) := hr
 clear hr
 go_enter Tryz.func35, Tryz.ntmps35
 go_wp2
 go_loopw [3, 8] (fun x i wr => ∃ k : Nat, k ≤ l.length ∧ i = .int .i64 k ∧ x = .int .i64 (manyL (l.take k) : Int) ∧ Kp w wr) (fun _ i _ => l.length - (intOf i).toNat)
 case atStart => exact ⟨0, Nat.zero_le _, rfl, rfl, Kp.refl _⟩
 case round =>
  obtain ⟨k, hk, rfl, rfl, hw⟩ := hrel
  have HW : Hid (Kp w wr) := hw
  clear hw
  by_cases hlt : k < l.length
  ·rcases (HR.out.nw HW.out.nw) with h | ⟨b, off, rfl, hb, hc⟩
   ·rw [h] at hlt; simp at hlt
   obtain ⟨⟨pa, pc, q0, _⟩, q1⟩ := hc k hlt
   clear hc
   have hs := manyL_step l k hlt
   have hle := manyL_le l (k + 1)
   have HE : Hid (manyL (l.take (k + 1)) = manyL (l.take k) + (lnAt l k).pts.length) := hs
   rw [hs] at hle
   clear hs
   generalize manyL (l.take k) = m at *
   generalize (lnAt l k).pts.length = n at *
   generalize (lnAt l k).closed = cl at *
   go_wp2
   go_roundw
   case rel => exact ⟨k + 1, by omega, by go_num, by rw [HE.out]; go_num, HW.out.alloc _ _⟩
   case measure => simp [intOf]; omega
  ·have e : k = l.length := by omega
   subst e
   rw [List.take_length]
   go_wp2
   go_ret
   exact ⟨rfl, HW.out⟩
def Mkd (w : World) (v : Value) (n K : Nat) : Prop := (v = .slice none 0 0 ∧ n = 0) ∨ ∃ g c, v = .slice (some ⟨g, 0, none⟩) n c ∧ LayPt w g (mkP K n) n
def RowL (w : World) (v : Value) (l : List LD) : Prop := ∃ a c, v = .slice a l.length c ∧ Lines w a l
def lenL (l : List LD) : Prop := ∀ i, i < l.length → (lnAt l i).pts.length ≤ 1048576


end Go.Proofs.YtnkeljmecbohkaaGreat
