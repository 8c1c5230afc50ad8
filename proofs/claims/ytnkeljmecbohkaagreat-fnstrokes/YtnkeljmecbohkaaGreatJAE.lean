/-
  Lists of lines of the call's own, to which is appended; each
-/
import Derived.Test.YtnkeljmecbohkaaGreatJAD
import Derived.Test.YtnkeljmecbohkaaGreatJAB
import Derived.Test.YtnkeljmecbohkaaGreatJAA
import Derived.Orders
namespace Go.Proofs.YtnkeljmecbohkaaGreat
open Go.ChangeShapes Go.WideShapes Go.ChangeAt Go.RowKit
set_option linter.unusedVariables false
def vLn (it : Its) : List VV := it.map fun p => (p.1, .bool p.2.closed)
theorem vLn_len (it : Its) : (vLn it).length = it.length := by simp [vLn]
theorem vLn_append (l m : Its) : vLn (l ++ m) = vLn l ++ vLn m := by simp [vLn]
theorem vLn_at (it : Its) (i : Nat) (h : i < it.length) : vvAt (vLn it) i = ((itAt it i).1, .bool (itAt it i).2.closed) := by simp [vvAt, vLn, itAt, h]
structure OwnLn (w : World) (B : Nat) (v : Value) (it : Its) : Prop where
 own : OwnQ 25 w B v (vLn it)
 pts : ∀ i, i < it.length → OwnP w B (itAt it i).1 (itAt it i).2.pts
 far : ∀ i, i < it.length → ∀ b, (itAt it i).1.ownBlock = some b → v.ownBlock ≠ some b
 apart : ∀ i j, i ≠ j → i < it.length → j < it.length → ∀ b, (itAt it i).1.ownBlock = some b → (itAt it j).1.ownBlock ≠ some b
theorem OwnLn.nil (w : World) (B : Nat) : OwnLn w B (.slice none 0 0) [] :=
 ⟨OwnQ.nil _ w B, fun i h => absurd h (by simp), fun i h => absurd h (by simp), fun i j _ h => absurd h (by simp)⟩
theorem OwnLn.nw {w w' : World} {B : Nat} {v : Value} {it : Its} (h : OwnLn w B v it) (k : Nw w w') : OwnLn w' B v it :=
 ⟨h.own.nw k, fun i hi => (h.pts i hi).nw k, h.far, h.apart⟩
theorem OwnLn.base {w : World} {B B' : Nat} {v : Value} {it : Its} (h : OwnLn w B v it) (hB : B' ≤ B) : OwnLn w B' v it :=
 ⟨OwnQ.base h.own hB, fun i hi => OwnQ.base (h.pts i hi) hB, h.far, h.apart⟩
theorem OwnLn.row {w : World} {B : Nat} {v : Value} {it : Its} (h : OwnLn w B v it) : RowL w v (it.map (·.2)) := by
 rcases OwnQ.form h.own with ⟨rfl, h2⟩ | ⟨g, c, rfl, h2, h3, _, _, h4, h5⟩
 ·have : it = [] := by simpa [vLn] using h2
  subst this
  exact ⟨none, 0, rfl, Or.inl rfl⟩
 ·rw [vLn_len] at h4 ⊢
  refine ⟨some ⟨g, 0, none⟩, c, by simp, Or.inr ⟨g, 0, rfl, h3, fun i hi => ?_⟩⟩
  have hi' : i < it.length := by simpa using hi
  obtain ⟨q0, q1⟩ := h4 i hi'
  rw [vLn_at it i hi'] at q0 q1
  rw [ld_at it i hi']
  obtain ⟨pa, pc, e, hp⟩ := (h.pts i hi').pts
  rw [e] at q0
  exact ⟨⟨pa, pc, by rw [Nat.zero_add]; exact q0, hp⟩, by rw [Nat.zero_add]; exact q1⟩
theorem under_lns : Tryz.prog.underlying 29 = some (.slice 25) := Tryz.underlying29
theorem OwnLn.put {wS w w' : World} {B : Nat} {v v' u : Value} {it : Its} {ld : LD} (h : OwnLn wS B v it) (k : Nw wS w) (hB : B ≤ wS.heap.size) (hu : OwnP w wS.heap.size u ld.pts) (ho : OwnQ 25 w' B v' (vLn (it ++ [(u, ld)]))) (x : Ext v v' w w') : OwnLn w' B v' (it ++ [(u, ld)]) := by
 have hlt : ∀ i, i < it.length → ∀ b, (itAt it i).1.ownBlock = some b → b < wS.heap.size := fun i hi b hb => (OwnQ.lt (h.pts i hi) b hb).2
 have hvl : ∀ b, v.ownBlock = some b → b < wS.heap.size := fun b hb => (OwnQ.lt h.own b hb).2
 have hul : ∀ b, u.ownBlock = some b → wS.heap.size ≤ b ∧ b < w.heap.size := fun b hb => OwnQ.lt hu b hb
 have hne : ∀ i, i < it.length → ∀ b, (itAt it i).1.ownBlock = some b → v.ownBlock ≠ some b := h.far
 have hs : wS.heap.size ≤ w.heap.size := Below.size k
 refine ⟨ho, fun i hi => ?_, fun i hi b hb => ?_, fun i j hij hi hj b hb => ?_⟩
 ·rw [List.length_append, List.length_singleton] at hi
  by_cases e : i = it.length
  ·subst e
   rw [itAt_new]
   refine OwnQ.base (OwnQ.keep hu x ?_) hB
   cases hc : u.ownBlock with
   | none => exact Or.inl rfl
   | some b => exact Or.inr (fun e => by have h1 := hul b hc; have h2 := hvl b e.symm; omega)
  ·have hi' : i < it.length := by omega
   rw [itAt_old it _ i hi']
   refine OwnQ.keep (OwnQ.nw (h.pts i hi') k) x ?_
   cases hc : (itAt it i).1.ownBlock with
   | none => exact Or.inl rfl
   | some b => exact Or.inr (fun e => hne i hi' b hc e.symm)
 ·rw [List.length_append, List.length_singleton] at hi
  by_cases e : i = it.length
  ·subst e
   rw [itAt_new] at hb
   have h1 := hul b hb
   exact Ext.apart x h1.2 (fun e => by have h2 := hvl b e; omega)
  ·have hi' : i < it.length := by omega
   rw [itAt_old it _ i hi'] at hb
   have h1 := hlt i hi' b hb
   exact Ext.apart x (by omega) (hne i hi' b hb)
 ·rw [List.length_append, List.length_singleton] at hi hj
  by_cases e : i = it.length
  ·subst e
   rw [itAt_new] at hb
   have hj' : j < it.length := by omega
   rw [itAt_old it _ j hj']
   intro e2
   have h1 := hul b hb
   have h2 := hlt j hj' b e2
   omega
  ·have hi' : i < it.length := by omega
   rw [itAt_old it _ i hi'] at hb
   by_cases e2 : j = it.length
   ·subst e2
    rw [itAt_new]
    intro e3
    have h1 := hul b e3
    have h2 := hlt i hi' b hb
    omega
   ·have hj' : j < it.length := by omega
    rw [itAt_old it _ j hj']
    exact h.apart i j hij hi' hj' b hb
theorem OwnLn.farSet {w : World} {B : Nat} {v : Value} {it : Its} (h : OwnLn w B v it) (b o : Nat) (u : Value) (hb : b < B) : OwnLn (w.setCell ⟨b, o, none⟩ u) B v it :=
 ⟨OwnQ.far h.own b o u (fun e => by have := (OwnQ.lt h.own b e).1; omega), fun i hi => OwnQ.far (h.pts i hi) b o u (fun e => by have := (OwnQ.lt (h.pts i hi) b e).1; omega), h.far, h.apart⟩
def Apt (u v : Value) (it : Its) : Prop := ∀ b, u.ownBlock = some b → v.ownBlock ≠ some b ∧ ∀ i, i < it.length → (itAt it i).1.ownBlock ≠ some b
theorem Apt.nil (v : Value) (it : Its) : Apt (.slice none 0 0) v it := fun b e => by cases e
structure D2 (w : World) (B : Nat) (v : Value) (it : Its) (u : Value) (p : List Pnt) : Prop where
 ln : OwnLn w B v it
 pt : OwnP w B u p
 ap : Apt u v it
theorem D2.nil (w : World) (B : Nat) : D2 w B (.slice none 0 0) [] (.slice none 0 0) [] := ⟨OwnLn.nil w B, OwnP.nil w B, Apt.nil _ _⟩
theorem D2.nw {w w' : World} {B : Nat} {v u : Value} {it : Its} {p : List Pnt} (h : D2 w B v it u p) (k : Nw w w') : D2 w' B v it u p := ⟨h.ln.nw k, h.pt.nw k, h.ap⟩
theorem D2.far {w : World} {B : Nat} {v u : Value} {it : Its} {p : List Pnt} (h : D2 w B v it u p) (b o : Nat) (x : Value) (hb : b < B) : D2 (w.setCell ⟨b, o, none⟩ x) B v it u p :=
 ⟨h.ln.farSet b o x hb, OwnQ.far h.pt b o x (fun e => by have := (OwnQ.lt h.pt b e).1; omega), h.ap⟩
theorem OwnLn.ext {w w' : World} {B : Nat} {v u u' : Value} {it : Its} (h : OwnLn w B v it) (ha : Apt u v it) (x : Ext u u' w w') : OwnLn w' B v it := by
 refine ⟨OwnQ.keep h.own x ?_, fun i hi => OwnQ.keep (h.pts i hi) x ?_, h.far, h.apart⟩
 ·cases hc : v.ownBlock with
  | none => exact Or.inl rfl
  | some b => exact Or.inr (fun e => (ha b e.symm).1 hc)
 ·cases hc : (itAt it i).1.ownBlock with
  | none => exact Or.inl rfl
  | some b => exact Or.inr (fun e => (ha b e.symm).2 i hi hc)
theorem D2.pput {w w' : World} {B : Nat} {v u u' : Value} {it : Its} {p p' : List Pnt} (h : D2 w B v it u p) (x : Ext u u' w w') (ho : OwnP w' B u' p') : D2 w' B v it u' p' := by
 refine ⟨h.ln.ext h.ap x, ho, fun b e => ?_⟩
 rcases x.2 with e2 | ⟨g, e2, hg⟩
 ·exact h.ap b (by rw [← e2]; exact e)
 ·rw [e2] at e
  injection e with e
  subst e
  exact ⟨fun e3 => by have := (OwnQ.lt h.ln.own g e3).2; omega, fun i hi e3 => by have := (OwnQ.lt (h.ln.pts i hi) g e3).2; omega⟩
theorem D2.fresh {w w' : World} {B : Nat} {v u u' : Value} {it : Its} {p p' : List Pnt} (h : D2 w B v it u p) (k : Nw w w') (hB : B ≤ w.heap.size) (ho : OwnP w' w.heap.size u' p') : D2 w' B v it u' p' := by
 refine ⟨h.ln.nw k, OwnQ.base ho hB, fun b e => ?_⟩
 have h1 := (OwnQ.lt ho b e).1
 exact ⟨fun e3 => by have := (OwnQ.lt h.ln.own b e3).2; omega, fun i hi e3 => by have := (OwnQ.lt (h.ln.pts i hi) b e3).2; omega⟩
theorem D2.lput {w w' : World} {B : Nat} {v v' u : Value} {it : Its} {p : List Pnt} {c : Bool} (h : D2 w B v it u p) (ho : OwnQ 25 w' B v' (vLn (it ++ [(u, ⟨p, c⟩)]))) (x : Ext v v' w w') : OwnLn w' B v' (it ++ [(u, ⟨p, c⟩)]) := by
 have hlt : ∀ i, i < it.length → ∀ b, (itAt it i).1.ownBlock = some b → b < w.heap.size := fun i hi b hb => (OwnQ.lt (h.ln.pts i hi) b hb).2
 have hul : ∀ b, u.ownBlock = some b → b < w.heap.size := fun b hb => (OwnQ.lt h.pt b hb).2
 refine ⟨ho, fun i hi => ?_, fun i hi b hb => ?_, fun i j hij hi hj b hb => ?_⟩
 ·rw [List.length_append, List.length_singleton] at hi
  by_cases e : i = it.length
  ·subst e
   rw [itAt_new]
   refine OwnQ.keep h.pt x ?_
   cases hc : u.ownBlock with
   | none => exact Or.inl rfl
   | some b => exact Or.inr (fun e => (h.ap b hc).1 e.symm)
  ·have hi' : i < it.length := by omega
   rw [itAt_old it _ i hi']
   refine OwnQ.keep (h.ln.pts i hi') x ?_
   cases hc : (itAt it i).1.ownBlock with
   | none => exact Or.inl rfl
   | some b => exact Or.inr (fun e => h.ln.far i hi' b hc e.symm)
 ·rw [List.length_append, List.length_singleton] at hi
  by_cases e : i = it.length
  ·subst e
   rw [itAt_new] at hb
   exact Ext.apart x (hul b hb) (h.ap b hb).1
  ·have hi' : i < it.length := by omega
   rw [itAt_old it _ i hi'] at hb
   exact Ext.apart x (hlt i hi' b hb) (h.ln.far i hi' b hb)
 ·rw [List.length_append, List.length_singleton] at hi hj
  by_cases e : i = it.length
  ·subst e
   rw [itAt_new] at hb
   have hj' : j < it.length := by omega
   rw [itAt_old it _ j hj']
   exact (h.ap b hb).2 j hj'
  ·have hi' : i < it.length := by omega
   rw [itAt_old it _ i hi'] at hb
   by_cases e2 : j = it.length
   ·subst e2
    rw [itAt_new]
    exact fun e3 => (h.ap b e3).2 i hi' hb
   ·have hj' : j < it.length := by omega
    rw [itAt_old it _ j hj']
    exact h.ln.apart i j hij hi' hj' b hb
theorem D2.val {w : World} {B : Nat} {v u : Value} {it : Its} {p : List Pnt} (h : D2 w B v it u p) : ∃ a c, u = .slice a p.length c := by
 obtain ⟨a, c, e, _⟩ := OwnP.pts h.pt
 exact ⟨a, c, e⟩
theorem D2.vln {w : World} {B : Nat} {v u : Value} {it : Its} {p : List Pnt} (h : D2 w B v it u p) : ∃ a c, v = .slice a it.length c := by
 rcases OwnQ.form h.ln.own with ⟨e, hn⟩ | ⟨g, c, e, _⟩
 ·have : it = [] := by have := congrArg List.length hn; rw [vLn_len] at this; simp at this; exact this
  subst this
  exact ⟨none, 0, e⟩
 ·rw [vLn_len] at e
  exact ⟨_, c, e⟩
structure DW (bx : Nat) (w : World) (v : Value) (it : Its) (u : Value) (p : List Pnt) : Prop where
 c0 : w.cell? ⟨bx, 0, none⟩ = some v
 c1 : w.cell? ⟨bx, 1, none⟩ = some u
 free : ∀ o, w.frozen? ⟨bx, o, none⟩ = false
 d : D2 w (bx + 1) v it u p
def LsOk (w : World) (B : Nat) (v : Value) (o : List LD) : Prop := ∃ it, OwnLn w B v it ∧ it.map (·.2) = o
theorem LsOk.nw {w w' : World} {B : Nat} {v : Value} {o : List LD} (h : LsOk w B v o) (k : Nw w w') : LsOk w' B v o := by
 obtain ⟨it, h1, h2⟩ := h
 exact ⟨it, h1.nw k, h2⟩
theorem LsOk.of {w : World} {B : Nat} {v : Value} {it : Its} {o : List LD} (h : OwnLn w B v it) (e : it.map (·.2) = o) : LsOk w B v o := ⟨it, h, e⟩
theorem OwnLn.lines {w : World} {B : Nat} {v : Value} {it : Its} (h : OwnLn w B v it) : ∃ a c, v = .slice a (it.map (·.2)).length c ∧ Lines w a (it.map (·.2)) := by
 obtain ⟨a, c, e, h2⟩ := h.row
 exact ⟨a, c, e, h2⟩
theorem ownp_lit (w : World) (B : Nat) (x y : Int) (hB : B ≤ w.heap.size) : OwnP (w.alloc (.cells #[.int .i64 x, .int .i64 y] 34)) B (.slice (some ⟨w.heap.size, 0, none⟩) 1 1) [(x, y)] :=
 World.ownsRow_lit w #[.int .i64 x, .int .i64 y] 1 hB (by unfold maxLen; omega) (by simp)
def wid (x : Int) : Prop := -35184372088832 ≤ x ∧ x ≤ 35184372088832
theorem ipls (w : World) (x1 y1 x2 y2 : Int) (h1 : wid x1) (h2 : wid y1) (h3 : wid x2) (h4 : wid y2) :
  Calls Tryz.prog 83 #[.agg #[.int .i64 x1, .int .i64 y1], .agg #[.int .i64 x2, .int .i64 y2]] w fun e w' => e = .returned (.agg #[.int .i64 (x1 + x2), .int .i64 (y1 + y2)]) ∧ Kp w w' := by
 unfold wid at *
 go_enter Tryz.func83, Tryz.ntmps83
 go_wp2
 refine bodyPost_ret (v := .agg #[.int .i64 (x1 + x2), .int .i64 (y1 + y2)]) (by simp [results, Tryz.results83, go_sem]) rfl ⟨rfl, ?_⟩
 exact (((Kp.refl w).alloc _ _).alloc _ _).alloc _ _
theorem imin2 (w : World) (x1 y1 x2 y2 : Int) (h1 : wid x1) (h2 : wid y1) (h3 : wid x2) (h4 : wid y2) :
  Calls Tryz.prog 76 #[.agg #[.int .i64 x1, .int .i64 y1], .agg #[.int .i64 x2, .int .i64 y2]] w fun e w' => e = .returned (.agg #[.int .i64 (x1 - x2), .int .i64 (y1 - y2)]) ∧ Kp w w' := by
 unfold wid at *
 go_enter Tryz.func76, Tryz.ntmps76
 go_wp2
 refine bodyPost_ret (v := .agg #[.int .i64 (x1 - x2), .int .i64 (y1 - y2)]) (by simp [results, Tryz.results76, go_sem]) rfl ⟨rfl, ?_⟩
 exact (((Kp.refl w).alloc _ _).alloc _ _).alloc _ _
theorem splus (w : World) (x1 y1 x2 y2 : Int) (h1 : wid x1) (h2 : wid y1) (h3 : wid x2) (h4 : wid y2) :
  Calls Tryz.prog 98 #[.agg #[.int .i64 x1, .int .i64 y1], .agg #[.int .i64 x2, .int .i64 y2]] w fun e w' => e = .returned (.agg #[.int .i64 (x1 + x2), .int .i64 (y1 + y2)]) ∧ Kp w w' := by
 unfold wid at *
 go_enter Tryz.func98, Tryz.ntmps98
 go_wp2
 refine bodyPost_ret (v := .agg #[.int .i64 (x1 + x2), .int .i64 (y1 + y2)]) (by simp [results, Tryz.results98, go_sem]) rfl ⟨rfl, ?_⟩
 exact (((Kp.refl w).alloc _ _).alloc _ _).alloc _ _
theorem sless (w : World) (x1 y1 x2 y2 : Int) (h1 : wid x1) (h2 : wid y1) (h3 : wid x2) (h4 : wid y2) :
  Calls Tryz.prog 99 #[.agg #[.int .i64 x1, .int .i64 y1], .agg #[.int .i64 x2, .int .i64 y2]] w fun e w' => e = .returned (.agg #[.int .i64 (x1 - x2), .int .i64 (y1 - y2)]) ∧ Kp w w' := by
 unfold wid at *
 go_enter Tryz.func99, Tryz.ntmps99
 go_wp2
 refine bodyPost_ret (v := .agg #[.int .i64 (x1 - x2), .int .i64 (y1 - y2)]) (by simp [results, Tryz.results99, go_sem]) rfl ⟨rfl, ?_⟩
 exact (((Kp.refl w).alloc _ _).alloc _ _).alloc _ _
theorem sclosed (w : World) (a : Option Addr) (n c : Nat) : Calls Tryz.prog 97 #[.slice a n c] w fun e w' => e = .returned (.agg #[.slice a n c, .bool true]) ∧ Kp w w' := by
 go_enter Tryz.func97, Tryz.ntmps97
 go_wp2
 refine bodyPost_ret (v := .agg #[.slice a n c, .bool true]) (by simp [results, Tryz.results97, go_sem]) rfl ⟨rfl, ?_⟩
 exact (Kp.refl w).alloc _ _
theorem iring (w : World) (a : Option Addr) (n c : Nat) : Calls Tryz.prog 106 #[.slice a n c] w fun e w' => e = .returned (.agg #[.slice a n c, .bool true]) ∧ Kp w w' := by
 go_enter Tryz.func106, Tryz.ntmps106
 go_wp2
 refine bodyPost_ret (v := .agg #[.slice a n c, .bool true]) (by simp [results, Tryz.results106, go_sem]) rfl ⟨rfl, ?_⟩
 exact (Kp.refl w).alloc _ _
theorem ionward (w : World) (fx fy tx ty sx sy : Int) (h1 : wid sx) : Calls Tryz.prog 77 #[.agg #[.int .i64 fx, .int .i64 fy, .int .i64 tx, .int .i64 ty, .int .i64 sx, .int .i64 sy]] w fun e w' => e = .returned (.agg #[.int .i64 sy, .int .i64 (-sx)]) ∧ Kp w w' := by
 unfold wid at *
 go_enter Tryz.func77, Tryz.ntmps77
 go_wp2
 refine bodyPost_ret (v := .agg #[.int .i64 sy, .int .i64 (-sx)]) (by simp [results, Tryz.results77, go_sem]) rfl ⟨rfl, ?_⟩
 exact ((Kp.refl w).alloc _ _).alloc _ _
theorem ownp4 (w : World) (B : Nat) (hB : B ≤ w.heap.size) (a b c d e f g h : Int) : OwnP (w.alloc (.cells #[.int .i64 a, .int .i64 b, .int .i64 c, .int .i64 d, .int .i64 e, .int .i64 f, .int .i64 g, .int .i64 h] 34)) B (.slice (some ⟨w.heap.size, 0, none⟩) 4 4) [(a, b), (c, d), (e, f), (g, h)] :=
 World.ownsRow_lit w #[.int .i64 a, .int .i64 b, .int .i64 c, .int .i64 d, .int .i64 e, .int .i64 f, .int .i64 g, .int .i64 h] 4 hB (by unfold maxLen; omega) (by simp)
theorem ownp3 (w : World) (B : Nat) (hB : B ≤ w.heap.size) (a b c d e f : Int) : OwnP (w.alloc (.cells #[.int .i64 a, .int .i64 b, .int .i64 c, .int .i64 d, .int .i64 e, .int .i64 f] 34)) B (.slice (some ⟨w.heap.size, 0, none⟩) 3 3) [(a, b), (c, d), (e, f)] :=
 World.ownsRow_lit w #[.int .i64 a, .int .i64 b, .int .i64 c, .int .i64 d, .int .i64 e, .int .i64 f] 3 hB (by unfold maxLen; omega) (by simp)
def regOf (k : Nat) : Go.Code → Option (Array Oper)
 | .region id ops _ => if id = k then some ops else none
 | .seq a b => match regOf k a with | some x => some x | none => regOf k b
 | .cond _ t e => match regOf k t with | some x => some x | none => regOf k e
 | .block _ b => regOf k b
 | .loop b => regOf k b
 | .scope b => regOf k b
 | _ => none
def opsOf (k : Nat) (f : Func) : Array Oper := (f.body.bind (regOf k)).getD #[]
theorem reg_change {P : Program} {Q : PQ} {id : Nat} {ops ops' : Array Oper} {b : Bool} {a : Act} {w : World} (h : ops = ops') (hw : (Code.region id ops' b).wp P Q a w) : (Code.region id ops b).wp P Q a w := by rw [h]; exact hw
section
variable {P : Program} {md : Region.Mode} {ops : Array Oper} {Q : PQ}
theorem flt_le {p q : Nat → Bool} (h : ∀ x, q x = true → p x = true) : ∀ l : List Nat, (l.filter q).length ≤ (l.filter p).length
 | [] => Nat.le_refl _
 | y :: l => by
  have ih := flt_le h l
  rw [List.filter_cons, List.filter_cons]
  cases hq : q y with
  | true => rw [h y hq]; simp only [if_true, List.length_cons]; omega
  | false =>
   cases hp : p y with
   | true => simp only [Bool.false_eq_true, if_false, if_true, List.length_cons]; omega
   | false => simp only [Bool.false_eq_true, if_false]; exact ih
theorem flt_lt {p q : Nat → Bool} (h : ∀ x, q x = true → p x = true) (x : Nat) (h1 : p x = true) (h2 : q x = false) : ∀ l : List Nat, x ∈ l → (l.filter q).length < (l.filter p).length
 | y :: l, hx => by
  rw [List.filter_cons, List.filter_cons]
  have le := flt_le h l
  by_cases e : x = y
  ·subst e
   rw [h1, h2]
   simp only [Bool.false_eq_true, if_false, if_true, List.length_cons]; omega
  ·have ih := flt_lt h x h1 h2 l (by rcases List.mem_cons.1 hx with h | h; exact absurd h e; exact h)
   cases hq : q y with
   | true => rw [h y hq]; simp only [if_true, List.length_cons]; omega
   | false =>
    cases hp : p y with
    | true => simp only [Bool.false_eq_true, if_false, if_true, List.length_cons]; omega
    | false => simp only [Bool.false_eq_true, if_false]; exact ih
def left (n : Nat) (listed : Array Bool) : Nat := ((List.range n).filter fun i => !listed.getD i true).length
theorem left_set {n i : Nat} {listed : Array Bool} (hn : i < n) (h : listed.getD i true = false) : left n (listed.setIfInBounds i true) < left n listed := by
 have hi : i < listed.size := by
  rcases Nat.lt_or_ge i listed.size with h1 | h1
  ·exact h1
  ·rw [Array.getD_eq_getD_getElem?, Array.getElem?_eq_none h1] at h; cases h
 refine flt_lt (fun x hx => ?_) i (by rw [h]; rfl) ?_ _ (List.mem_range.2 hn)
 ·by_cases e : i = x
  ·subst e; rw [Array.getD_eq_getD_getElem?, Array.getElem?_setIfInBounds_self_of_lt hi] at hx; cases hx
  ·rw [Array.getD_eq_getD_getElem?, Array.getElem?_setIfInBounds_ne e, ← Array.getD_eq_getD_getElem?] at hx; exact hx
 ·rw [Array.getD_eq_getD_getElem?, Array.getElem?_setIfInBounds_self_of_lt hi]; rfl
theorem wpAny_inv (I : Array Bool → Act → World → Prop)
  (hstep : ∀ listed a w i o, I listed a w → listed.getD i true = false → ops[i]? = some o → (∀ e ∈ o.after, Region.binds md e = true → listed.getD e.on false = true) → wpOp P ops Q i (fun a' w' => I (listed.setIfInBounds i true) a' w') a w)
  (hend : ∀ listed a w, I listed a w → Region.ready md ops listed = [] → Q .normal a w) :
  ∀ (fuel : Nat) (listed : Array Bool) (a : Act) (w : World), I listed a w → left ops.size listed ≤ fuel → wpAny P md ops Q fuel listed a w := by
 intro fuel
 induction fuel with
 | zero =>
  intro listed a w hI hl
  have hr : Region.ready md ops listed = [] := by
   rw [List.eq_nil_iff_forall_not_mem]
   intro i hi
   obtain ⟨h1, o, ho, _⟩ := mem_ready.1 hi
   have hlt : i < ops.size := (Array.getElem?_eq_some_iff.1 ho).1
   have := left_set hlt h1
   omega
  exact ⟨hr, hend listed a w hI hr⟩
 | succ fuel ih =>
  intro listed a w hI hl
  refine ⟨fun hr => hend listed a w hI hr, fun i hi => ?_⟩
  obtain ⟨h1, o, ho, h2⟩ := mem_ready.1 hi
  have hlt : i < ops.size := (Array.getElem?_eq_some_iff.1 ho).1
  have := left_set hlt h1
  exact wpOp_mono (fun a' w' h => ih _ a' w' h (by omega)) (hstep listed a w i o hI h1 ho h2)
def dstOf (ops : Array Oper) (i : Nat) : Option Nat := (ops[i]?).bind (·.dst)
def got (ops : Array Oper) (listed : Array Bool) (d : Nat) : Prop := ∃ i, listed.getD i false = true ∧ dstOf ops i = some d
structure FrI (ops : Array Oper) (val : Nat → Value) (a0 : Act) (listed : Array Bool) (a : Act) : Prop where
 size : listed.size = ops.size
 defers : a.defers = a0.defers
 tsize : a.tmps.size = a0.tmps.size
 yes : ∀ d, d < a0.tmps.size → got ops listed d → a.tmps.getD d undef = val d
 no : ∀ d, ¬ got ops listed d → a.tmps.getD d undef = a0.tmps.getD d undef
theorem getF_set {listed : Array Bool} {i j : Nat} (hi : i < listed.size) : (listed.setIfInBounds i true).getD j false = (decide (j = i) || listed.getD j false) := by
 by_cases e : i = j
 ·subst e; rw [Array.getD_eq_getD_getElem?, Array.getElem?_setIfInBounds_self_of_lt hi]; simp
 ·rw [Array.getD_eq_getD_getElem?, Array.getElem?_setIfInBounds_ne e, ← Array.getD_eq_getD_getElem?, decide_eq_false (fun h => e h.symm)]; rfl
theorem got_set {listed : Array Bool} {i d : Nat} (hi : i < listed.size) : got ops (listed.setIfInBounds i true) d ↔ dstOf ops i = some d ∨ got ops listed d := by
 constructor
 ·rintro ⟨j, h1, h2⟩
  rw [getF_set hi] at h1
  by_cases e : j = i
  ·subst e; exact Or.inl h2
  ·rw [decide_eq_false e] at h1; exact Or.inr ⟨j, h1, h2⟩
 ·rintro (h | ⟨j, h1, h2⟩)
  ·exact ⟨i, by rw [getF_set hi]; simp, h⟩
  ·exact ⟨j, by rw [getF_set hi, h1]; simp, h2⟩
theorem FrI.lt {val : Nat → Value} {a0 a : Act} {listed : Array Bool} (h : FrI ops val a0 listed a) {i : Nat} {o : Oper} (ho : ops[i]? = some o) : i < listed.size := by
 rw [h.size]; exact (Array.getElem?_eq_some_iff.1 ho).1
theorem FrI.put {val : Nat → Value} {a0 a : Act} {listed : Array Bool} (h : FrI ops val a0 listed a) {i d : Nat} {o : Oper} (ho : ops[i]? = some o) (hd : o.dst = some d) : FrI ops val a0 (listed.setIfInBounds i true) (a.put o.dst (val d)) := by
 have hi := h.lt ho
 have hdo : dstOf ops i = some d := by unfold dstOf; rw [ho]; exact hd
 rw [hd]
 have hget : ∀ d', ((a.tmps.setIfInBounds d (val d)).getD d' undef) = if d' = d ∧ d < a.tmps.size then val d else a.tmps.getD d' undef := fun d' => by
  by_cases e : d = d'
  ·subst e
   by_cases hs : d < a.tmps.size
   ·rw [Array.getD_eq_getD_getElem?, Array.getElem?_setIfInBounds_self_of_lt hs, if_pos ⟨rfl, hs⟩]; rfl
   ·rw [if_neg (fun h => hs h.2), Array.setIfInBounds_eq_of_size_le (by omega)]
  ·rw [if_neg (fun h => e h.1.symm), Array.getD_eq_getD_getElem?, Array.getElem?_setIfInBounds_ne e, ← Array.getD_eq_getD_getElem?]
 refine ⟨by rw [Array.size_setIfInBounds]; exact h.size, h.defers, by show (a.tmps.setIfInBounds d (val d)).size = _; rw [Array.size_setIfInBounds]; exact h.tsize, fun d' hd' hg => ?_, fun d' hg => ?_⟩
 ·show (a.tmps.setIfInBounds d (val d)).getD d' undef = val d'
  rw [hget]
  by_cases e : d' = d
  ·subst e; rw [if_pos ⟨rfl, by rw [h.tsize]; exact hd'⟩]
  ·rw [if_neg (fun h => e h.1)]
   rcases (got_set hi).1 hg with h1 | h1
   ·rw [hdo] at h1; exact absurd (Option.some.inj h1).symm e
   ·exact h.yes d' hd' h1
 ·show (a.tmps.setIfInBounds d (val d)).getD d' undef = _
  rw [hget, if_neg]
  ·exact h.no d' (fun h1 => hg ((got_set hi).2 (Or.inr h1)))
  ·rintro ⟨e, _⟩
   exact hg ((got_set hi).2 (Or.inl (by rw [hdo, e])))
theorem FrI.skip {val : Nat → Value} {a0 a : Act} {listed : Array Bool} (h : FrI ops val a0 listed a) {i : Nat} {o : Oper} (ho : ops[i]? = some o) (hd : o.dst = none) (v : Value) : FrI ops val a0 (listed.setIfInBounds i true) (a.put o.dst v) := by
 have hi := h.lt ho
 have hdo : dstOf ops i = none := by unfold dstOf; rw [ho]; exact hd
 rw [hd]
 have e : ∀ d, got ops (listed.setIfInBounds i true) d ↔ got ops listed d := fun d => by
  rw [got_set hi, hdo]; constructor
  ·rintro (h | h); cases h; exact h
  ·exact Or.inr
 exact ⟨by rw [Array.size_setIfInBounds]; exact h.size, h.defers, h.tsize, fun d hd hg => h.yes d hd ((e d).1 hg), fun d hg => h.no d (fun h1 => hg ((e d).2 h1))⟩
theorem FrI.eval {val : Nat → Value} {a0 a : Act} {listed : Array Bool} (h : FrI ops val a0 listed a) {j d : Nat} (hl : listed.getD j false = true) (hd : dstOf ops j = some d) (hs : d < a0.tmps.size) : a.eval (.tmp d) = val d :=
 h.yes d hs ⟨j, hl, hd⟩
theorem FrI.eval0 {val : Nat → Value} {a0 a : Act} {listed : Array Bool} (h : FrI ops val a0 listed a) {d : Nat} (hd : (List.range ops.size).all (fun i => dstOf ops i != some d) = true) : a.eval (.tmp d) = a0.eval (.tmp d) := by
 refine h.no d ?_
 rintro ⟨i, h1, h2⟩
 have hlt : i < ops.size := by
  rcases Nat.lt_or_ge i ops.size with h3 | h3
  ·exact h3
  ·unfold dstOf at h2; rw [Array.getElem?_eq_none h3] at h2; cases h2
 have := List.all_eq_true.1 hd i (List.mem_range.2 hlt)
 rw [h2] at this
 simp at this
theorem FrI.fin {val : Nat → Value} {a0 a : Act} {listed : Array Bool} (h : FrI ops val a0 listed a) (hall : ∀ i, i < ops.size → listed.getD i false = true) :
  a = ⟨((List.range a0.tmps.size).map fun d => if (List.range ops.size).any (fun i => dstOf ops i == some d) then val d else a0.tmps.getD d undef).toArray, a0.defers⟩ := by
 obtain ⟨t, ds⟩ := a
 have h1 := h.defers
 simp only at h1
 subst h1
 congr 1
 apply Array.ext
 ·simp; exact h.tsize
 ·intro d hd1 hd2
  have hd : d < a0.tmps.size := by rw [← h.tsize]; exact hd1
  have e : t[d] = t.getD d undef := by rw [Array.getD_eq_getD_getElem?, Array.getElem?_eq_getElem hd1]; rfl
  rw [e]
  simp only [List.getElem_toArray, List.getElem_map, List.getElem_range]
  by_cases hg : (List.range ops.size).any (fun i => dstOf ops i == some d) = true
  ·rw [if_pos hg]
   obtain ⟨i, hi, h2⟩ := List.any_eq_true.1 hg
   exact h.yes d hd ⟨i, hall i (List.mem_range.1 hi), by simpa using h2⟩
  ·rw [if_neg hg]
   refine h.no d ?_
   rintro ⟨i, _, h2⟩
   apply hg
   rw [List.any_eq_true]
   have hlt : i < ops.size := by
    rcases Nat.lt_or_ge i ops.size with h3 | h3
    ·exact h3
    ·unfold dstOf at h2; rw [Array.getElem?_eq_none h3] at h2; cases h2
   exact ⟨i, List.mem_range.2 hlt, by rw [h2]; simp⟩
end
def waitsB (ops : Array Oper) (i j : Nat) : Bool := ((ops[i]?).map (fun o => o.after.any fun e => decide (e.on = j) && Region.binds .any e)).getD false
theorem waitsB_spec {ops : Array Oper} {i j : Nat} (h : waitsB ops i j = true) : ∃ o, ops[i]? = some o ∧ ∃ e ∈ o.after, Region.binds .any e = true ∧ e.on = j := by
 unfold waitsB at h
 cases ho : ops[i]? with
 | none => rw [ho] at h; cases h
 | some o =>
  rw [ho] at h
  simp only [Option.map_some, Option.getD_some, Array.any_eq_true] at h
  obtain ⟨k, hk, h3⟩ := h
  simp only [Bool.and_eq_true, decide_eq_true_eq] at h3
  exact ⟨o, rfl, o.after[k], Array.getElem_mem hk, h3.2, h3.1⟩
theorem waits2 {ops : Array Oper} {listed : Array Bool} {i j : Nat} {o : Oper} (ho : ops[i]? = some o) (h : waitsB ops i j = true) (h2 : ∀ e ∈ o.after, Region.binds .any e = true → listed.getD e.on false = true) : listed.getD j false = true := by
 obtain ⟨o', ho', e, he, hb, hj⟩ := waitsB_spec h
 rw [ho] at ho'
 injection ho' with ho'
 subst ho'
 rw [← hj]
 exact h2 e he hb
def Clo (ops : Array Oper) (listed : Array Bool) : Prop := ∀ i j, listed.getD i false = true → waitsB ops i j = true → listed.getD j false = true
theorem Clo.set {ops : Array Oper} {listed : Array Bool} {i : Nat} {o : Oper} (h : Clo ops listed) (hi : i < listed.size) (ho : ops[i]? = some o) (h2 : ∀ e ∈ o.after, Region.binds .any e = true → listed.getD e.on false = true) : Clo ops (listed.setIfInBounds i true) := by
 intro k j hk hw
 rw [getF_set hi] at hk ⊢
 by_cases e : k = i
 ·subst e
  rw [waits2 ho hw h2]; simp
 ·rw [decide_eq_false e, Bool.false_or] at hk
  rw [h k j hk hw]; simp
def pathB (ops : Array Oper) : List Nat → Bool
 | [] => true
 | [_] => true
 | i :: j :: l => waitsB ops i j && pathB ops (j :: l)
theorem Clo.path {ops : Array Oper} {listed : Array Bool} (h : Clo ops listed) : ∀ (l : List Nat) (i : Nat), pathB ops (i :: l) = true → listed.getD i false = true → ∀ j ∈ l, listed.getD j false = true
 | [], _, _, _, j, hj => by cases hj
 | k :: l, i, hp, hi, j, hj => by
  simp only [pathB, Bool.and_eq_true] at hp
  have hk := h i k hi hp.1
  rcases List.mem_cons.1 hj with e | e
  ·subst e; exact hk
  ·exact h.path l k hp.2 hk j e
theorem FrI.cong {ops : Array Oper} {val val' : Nat → Value} {a0 a : Act} {listed : Array Bool} (h : FrI ops val a0 listed a) (hv : ∀ d, got ops listed d → val d = val' d) : FrI ops val' a0 listed a :=
 ⟨h.size, h.defers, h.tsize, fun d hd hg => (h.yes d hd hg).trans (hv d hg), h.no⟩
theorem all_ready2 {ops : Array Oper} {md : Region.Mode} {listed : Array Bool} (h : (List.range ops.size).all (fun i => ((ops[i]?).map (fun o => o.after.all fun e => !Region.binds md e || decide (e.on < i))).getD true) = true) (hs : listed.size = ops.size) (hr : Region.ready md ops listed = []) : ∀ i, i < ops.size → listed.getD i false = true := by
 intro i
 induction i using Nat.strongRecOn with
 | _ i ih =>
  intro hi
  cases hl : listed.getD i false with
  | true => rfl
  | false =>
   exfalso
   have hlt : i < listed.size := by rw [hs]; exact hi
   have hl2 : listed.getD i true = false := by
    rw [Array.getD_eq_getD_getElem?, Array.getElem?_eq_getElem hlt] at hl ⊢; exact hl
   have ho : ops[i]? = some ops[i] := Array.getElem?_eq_getElem hi
   have hm : i ∈ Region.ready md ops listed := mem_ready.2 ⟨hl2, ops[i], ho, fun e he hb => by
    have h1 := List.all_eq_true.1 h i (List.mem_range.2 hi)
    rw [ho] at h1
    simp only [Option.map_some, Option.getD_some] at h1
    have h2 := (Array.all_eq_true_iff_forall_mem.1 h1) e he
    rw [hb] at h2
    simp at h2
    exact ih e.on h2 (by omega)⟩
   rw [hr] at hm
   cases hm
def putsL (val : Nat → Value) : List Oper → Act → Act
 | [], a => a
 | o :: l, a => putsL val l (match o.dst with | some d => a.put (some d) (val d) | none => a)
theorem put_get (a : Act) (d d' : Nat) (v : Value) : (a.put (some d) v).tmps.getD d' undef = if d' = d ∧ d < a.tmps.size then v else a.tmps.getD d' undef := by
 show (a.tmps.setIfInBounds d v).getD d' undef = _
 by_cases e : d = d'
 ·subst e
  by_cases hs : d < a.tmps.size
  ·rw [Array.getD_eq_getD_getElem?, Array.getElem?_setIfInBounds_self_of_lt hs, if_pos ⟨rfl, hs⟩]; rfl
  ·rw [if_neg (fun h => hs h.2), Array.setIfInBounds_eq_of_size_le (by omega)]
 ·rw [if_neg (fun h => e h.1.symm), Array.getD_eq_getD_getElem?, Array.getElem?_setIfInBounds_ne e, ← Array.getD_eq_getD_getElem?]
theorem put_size (a : Act) (d : Nat) (v : Value) : (a.put (some d) v).tmps.size = a.tmps.size := by
 show (a.tmps.setIfInBounds d v).size = _
 simp
theorem putsL_facts (val : Nat → Value) : ∀ (l : List Oper) (a : Act), (putsL val l a).defers = a.defers ∧ (putsL val l a).tmps.size = a.tmps.size ∧
  ∀ d, d < a.tmps.size → (putsL val l a).tmps.getD d undef = if l.any (fun o => o.dst == some d) then val d else a.tmps.getD d undef
 | [], a => ⟨rfl, rfl, fun d _ => by simp [putsL]⟩
 | o :: l, a => by
  cases hd : o.dst with
  | none =>
   have e : putsL val (o :: l) a = putsL val l a := by simp only [putsL, hd]
   rw [e]
   obtain ⟨h1, h2, h3⟩ := putsL_facts val l a
   refine ⟨h1, h2, fun d hlt => ?_⟩
   rw [h3 d hlt]
   simp [hd]
  | some t =>
   have e : putsL val (o :: l) a = putsL val l (a.put (some t) (val t)) := by simp only [putsL, hd]
   rw [e]
   obtain ⟨h1, h2, h3⟩ := putsL_facts val l (a.put (some t) (val t))
   refine ⟨h1.trans rfl, h2.trans (put_size a t _), fun d hlt => ?_⟩
   rw [h3 d (by rw [put_size]; exact hlt), put_get]
   by_cases ht : d = t
   ·subst ht
    simp [hd, hlt]
   ·have ht2 : ¬ t = d := fun h => ht h.symm
    simp [hd, ht, ht2]
theorem FrI.puts {ops : Array Oper} {val : Nat → Value} {a0 a : Act} {listed : Array Bool} (h : FrI ops val a0 listed a) (hall : ∀ i, i < ops.size → listed.getD i false = true) : a = putsL val ops.toList a0 := by
 rw [h.fin hall]
 obtain ⟨h1, h2, h3⟩ := putsL_facts val ops.toList a0
 generalize putsL val ops.toList a0 = b at *
 obtain ⟨t, ds⟩ := b
 simp only at h1 h2 h3
 subst h1
 congr 1
 apply Array.ext
 ·simp [h2]
 ·intro d hd1 hd2
  have hd : d < a0.tmps.size := by simpa using hd1
  have e : t[d] = t.getD d undef := by rw [Array.getD_eq_getD_getElem?, Array.getElem?_eq_getElem hd2]; rfl
  rw [e, h3 d hd]
  simp only [List.getElem_toArray, List.getElem_map, List.getElem_range]
  have hcond : (List.range ops.size).any (fun i => dstOf ops i == some d) = ops.toList.any (fun o => o.dst == some d) := by
   rw [Bool.eq_iff_iff, List.any_eq_true, List.any_eq_true]
   constructor
   ·rintro ⟨i, hi, h5⟩
    have hi := List.mem_range.1 hi
    refine ⟨ops[i], by simp, ?_⟩
    unfold dstOf at h5
    rw [Array.getElem?_eq_getElem hi] at h5
    exact h5
   ·rintro ⟨o, ho, h5⟩
    obtain ⟨i, hi, rfl⟩ := List.getElem_of_mem ho
    refine ⟨i, List.mem_range.2 (by simpa using hi), ?_⟩
    unfold dstOf
    rw [Array.getElem?_eq_getElem (by simpa using hi)]
    simpa using h5
  rw [hcond]
def phase (listed : Array Bool) : List Nat → Nat
 | [] => 0
 | i :: l => if listed.getD i false = true then phase listed l + 1 else 0
theorem phase_ne {listed : Array Bool} {i : Nat} (hi : i < listed.size) : ∀ (l : List Nat), i ∉ l → phase (listed.setIfInBounds i true) l = phase listed l
 | [], _ => rfl
 | k :: l, h => by
  have hk : k ≠ i := fun e => h (by rw [e]; exact List.mem_cons_self)
  unfold phase
  rw [getF_set hi, decide_eq_false hk, Bool.false_or, phase_ne hi l (fun e => h (List.mem_cons_of_mem _ e))]
theorem phase_at {listed : Array Bool} : ∀ (l : List Nat) (k : Nat) (i : Nat), l[k]? = some i → listed.getD i false = false → phase listed l ≤ k
 | [], _, _, h, _ => by simp at h
 | j :: l, 0, i, h, hl => by
  simp at h
  subst h
  unfold phase
  rw [hl]
  simp
 | j :: l, k + 1, i, h, hl => by
  have h' : l[k]? = some i := by simpa using h
  have := phase_at l k i h' hl
  unfold phase
  split <;> omega
theorem phase_full {listed : Array Bool} : ∀ (l : List Nat), (∀ i ∈ l, listed.getD i false = true) → phase listed l = l.length
 | [], _ => rfl
 | j :: l, h => by
  unfold phase
  rw [h j List.mem_cons_self, phase_full l (fun i hi => h i (List.mem_cons_of_mem _ hi))]
  simp
theorem phase_eq {listed : Array Bool} : ∀ (l : List Nat) (k : Nat) (i : Nat), l[k]? = some i → listed.getD i false = false → (∀ j, j < k → ∀ x, l[j]? = some x → listed.getD x false = true) → phase listed l = k
 | [], _, _, h, _, _ => by simp at h
 | j :: l, 0, i, h, hl, _ => by
  simp at h
  subst h
  unfold phase
  rw [hl]
  simp
 | j :: l, k + 1, i, h, hl, ha => by
  have h' : l[k]? = some i := by simpa using h
  have hj := ha 0 (by omega) j rfl
  unfold phase
  rw [hj, phase_eq l k i h' hl (fun m hm x hx => ha (m + 1) (by omega) x (by simpa using hx))]
  simp
theorem phase_step {listed : Array Bool} {i : Nat} (hi : i < listed.size) : ∀ (l : List Nat) (k : Nat), l.Nodup → l[k]? = some i → listed.getD i false = false → (∀ j, j < k → ∀ x, l[j]? = some x → listed.getD x false = true) → (∀ j x, k < j → l[j]? = some x → listed.getD x false = false) →
  phase (listed.setIfInBounds i true) l = k + 1
 | [], _, _, h, _, _, _ => by simp at h
 | j :: l, 0, hnd, h, hl, _, hb => by
  simp at h
  subst h
  unfold phase
  rw [getF_set hi]
  have : phase (listed.setIfInBounds j true) l = 0 := by
   rw [phase_ne hi l (List.nodup_cons.1 hnd).1]
   cases l with
   | nil => rfl
   | cons x l =>
    unfold phase
    rw [hb 1 x (by omega) rfl]
    simp
  rw [this]
  simp
 | j :: l, k + 1, hnd, h, hl, ha, hb => by
  have h' : l[k]? = some i := by simpa using h
  have hj := ha 0 (by omega) j rfl
  have := phase_step hi l k (List.nodup_cons.1 hnd).2 h' hl (fun m hm x hx => ha (m + 1) (by omega) x (by simpa using hx)) (fun m x hm hx => hb (m + 1) x (by omega) (by simpa using hx))
  unfold phase
  rw [getF_set hi, hj, this]
  simp
def valG (av : Nat → Option Nat) (val0 : Nat → Value) (γ : Nat → Value) (d : Nat) : Value := match av d with | some k => γ k | none => val0 d
def updG (γ : Nat → Value) (k : Nat) (u : Value) : Nat → Value := fun j => if j = k then u else γ j
section
variable {ops : Array Oper} {acts : List Nat} {av : Nat → Option Nat} {val0 : Nat → Value} {Wd : Nat → (Nat → Value) → World → Prop} {a0 : Act} {Q : PQ}
def InvG (ops : Array Oper) (acts : List Nat) (av : Nat → Option Nat) (val0 : Nat → Value) (Wd : Nat → (Nat → Value) → World → Prop) (a0 : Act) (listed : Array Bool) (a : Act) (w : World) : Prop :=
 ∃ γ, FrI ops (valG av val0 γ) a0 listed a ∧ Clo ops listed ∧ Wd (phase listed acts) γ w
def StepG (ops : Array Oper) (acts : List Nat) (av : Nat → Option Nat) (val0 : Nat → Value) (Wd : Nat → (Nat → Value) → World → Prop) (a0 : Act) (Q : PQ) (i : Nat) : Prop :=
 ∀ γ listed a w o, FrI ops (valG av val0 γ) a0 listed a → Clo ops listed → Wd (phase listed acts) γ w → listed.getD i true = false → ops[i]? = some o → (∀ e ∈ o.after, Region.binds .any e = true → listed.getD e.on false = true) →
  wpOp Tryz.prog ops Q i (fun a' w' => InvG ops acts av val0 Wd a0 (listed.setIfInBounds i true) a' w') a w
theorem unl {listed : Array Bool} {i : Nat} (hi : i < listed.size) (h1 : listed.getD i true = false) : listed.getD i false = false := by
 rw [Array.getD_eq_getD_getElem?, Array.getElem?_eq_getElem hi] at h1 ⊢; exact h1
theorem st_pureG {γ : Nat → Value} {listed : Array Bool} {a : Act} {w : World} {i d : Nat} {o : Oper} (hF : FrI ops (valG av val0 γ) a0 listed a) (hC : Clo ops listed) (hW : Wd (phase listed acts) γ w) (ho : ops[i]? = some o) (h2 : ∀ e ∈ o.after, Region.binds .any e = true → listed.getD e.on false = true)
  (hna : i ∉ acts) (hd : o.dst = some d) (hg : o.guard = none) (hav : av d = none) (hrun : (execOp a.eval o).run Tryz.prog w = .ok (.value (val0 d)) w) : wpOp Tryz.prog ops Q i (fun a' w' => InvG ops acts av val0 Wd a0 (listed.setIfInBounds i true) a' w') a w := by
 have hi := hF.lt ho
 unfold wpOp
 rw [ho]
 have hw : Region.wanted o (yielded ops a.tmps) = true := by unfold Region.wanted; rw [hg]
 simp only [hw, if_true]
 refine Or.inl ?_
 unfold Oper.wp
 rw [hrun]
 have e : valG av val0 γ d = val0 d := by unfold valG; rw [hav]
 refine ⟨γ, ?_, hC.set hi ho h2, by rw [phase_ne hi acts hna]; exact hW⟩
 have := hF.put ho hd
 rw [e] at this
 exact this
theorem st_callG {γ : Nat → Value} {listed : Array Bool} {a : Act} {w : World} {i d : Nat} {o : Oper} {f : FuncId} {args : Array Value} (hF : FrI ops (valG av val0 γ) a0 listed a) (hC : Clo ops listed) (hW : Wd (phase listed acts) γ w) (ho : ops[i]? = some o) (h2 : ∀ e ∈ o.after, Region.binds .any e = true → listed.getD e.on false = true)
  (hna : i ∉ acts) (hd : o.dst = some d) (hg : o.guard = none) (hav : av d = none) (hrun : (execOp a.eval o).run Tryz.prog w = .ok (.enter f args) w) (hc : Calls Tryz.prog f args w fun e w' => e = .returned (val0 d) ∧ Kp w w') (hk : ∀ w', Kp w w' → Wd (phase listed acts) γ w') :
  wpOp Tryz.prog ops Q i (fun a' w' => InvG ops acts av val0 Wd a0 (listed.setIfInBounds i true) a' w') a w := by
 have hi := hF.lt ho
 unfold wpOp
 rw [ho]
 have hw : Region.wanted o (yielded ops a.tmps) = true := by unfold Region.wanted; rw [hg]
 simp only [hw, if_true]
 refine Or.inl ?_
 unfold Oper.wp
 rw [hrun]
 have e : valG av val0 γ d = val0 d := by unfold valG; rw [hav]
 refine Calls.mono hc ?_
 rintro e' w' ⟨rfl, hkk⟩
 refine ⟨γ, ?_, hC.set hi ho h2, by rw [phase_ne hi acts hna]; exact hk w' hkk⟩
 have := hF.put ho hd
 rw [e] at this
 exact this
def chainG (ops : Array Oper) (acts : List Nat) : Bool := (List.range (acts.length - 1)).all fun k => waitsB ops (acts.getD (k + 1) 0) (acts.getD k 0)
theorem chainG_at (h : chainG ops acts = true) {k : Nat} (hk : k + 1 < acts.length) : waitsB ops (acts.getD (k + 1) 0) (acts.getD k 0) = true :=
 List.all_eq_true.1 h k (List.mem_range.2 (by omega))
theorem below_listed {listed : Array Bool} (h : chainG ops acts = true) (hC : Clo ops listed) : ∀ (k : Nat), k < acts.length → listed.getD (acts.getD k 0) false = true → ∀ j, j ≤ k → listed.getD (acts.getD j 0) false = true
 | 0, _, hl, j, hj => by
  have e : j = 0 := by omega
  rw [e]
  exact hl
 | k + 1, hk, hl, j, hj => by
  by_cases e : j = k + 1
  ·subst e; exact hl
  ·exact below_listed h hC k (by omega) (hC _ _ hl (chainG_at h hk)) j (by omega)
theorem st_actG {γ : Nat → Value} {listed : Array Bool} {a : Act} {w : World} {i k : Nat} {o : Oper} (hch : chainG ops acts = true) (hnd : acts.Nodup) (hk : acts[k]? = some i) (hF : FrI ops (valG av val0 γ) a0 listed a) (hC : Clo ops listed) (hW : Wd (phase listed acts) γ w) (h1 : listed.getD i true = false) (ho : ops[i]? = some o) (h2 : ∀ e ∈ o.after, Region.binds .any e = true → listed.getD e.on false = true)
  (hd : (o.dst = none) ∨ ∃ d, o.dst = some d ∧ av d = some k) (hinj : ∀ d, got ops listed d → av d ≠ some k) (hg : o.guard = none)
  (hrun : Wd k γ w → ∀ K : Act → World → Prop, (∀ u w', Wd (k + 1) (updG γ k u) w' → K (a.put o.dst u) w') → o.wp Tryz.prog a w K Q) :
  wpOp Tryz.prog ops Q i (fun a' w' => InvG ops acts av val0 Wd a0 (listed.setIfInBounds i true) a' w') a w := by
 have hi := hF.lt ho
 have hu := unl hi h1
 have hkl : k < acts.length := (List.getElem?_eq_some_iff.1 hk).1
 have hgk : acts.getD k 0 = i := by rw [List.getD_eq_getElem?_getD, hk]; rfl
 have hat : ∀ j x, acts[j]? = some x → acts.getD j 0 = x := fun j x hx => by rw [List.getD_eq_getElem?_getD, hx]; rfl
 have hbelow : ∀ j, j < k → ∀ x, acts[j]? = some x → listed.getD x false = true := fun j hj x hx => by
  have hl : listed.getD (acts.getD (k - 1) 0) false = true := by
   have := chainG_at hch (k := k - 1) (by omega)
   rw [show k - 1 + 1 = k by omega, hgk] at this
   exact waits2 ho this h2
  have := below_listed hch hC (k - 1) (by omega) hl j (by omega)
  rw [hat j x hx] at this
  exact this
 have habove : ∀ j x, k < j → acts[j]? = some x → listed.getD x false = false := fun j x hj hx => by
  cases hl : listed.getD x false with
  | false => rfl
  | true =>
   have hjl : j < acts.length := (List.getElem?_eq_some_iff.1 hx).1
   have := below_listed hch hC j hjl (by rw [hat j x hx]; exact hl) k (by omega)
   rw [hgk, hu] at this
   cases this
 have hph : phase listed acts = k := phase_eq acts k i hk hu hbelow
 have hph2 : phase (listed.setIfInBounds i true) acts = k + 1 := phase_step hi acts k hnd hk hu hbelow habove
 rw [hph] at hW
 unfold wpOp
 rw [ho]
 have hw : Region.wanted o (yielded ops a.tmps) = true := by unfold Region.wanted; rw [hg]
 simp only [hw, if_true]
 refine Or.inl (hrun hW _ ?_)
 intro u w' hW'
 have hF2 : FrI ops (valG av val0 (updG γ k u)) a0 listed a := hF.cong (fun d hgd => by
  unfold valG
  cases hav : av d with
  | none => rfl
  | some j =>
   have : j ≠ k := fun e => hinj d hgd (by rw [hav, e])
   simp [updG, this])
 refine ⟨updG γ k u, ?_, hC.set hi ho h2, by rw [hph2]; exact hW'⟩
 rcases hd with hd | ⟨d, hd, hav⟩
 ·exact hF2.skip ho hd u
 ·have := hF2.put ho hd
  have e : valG av val0 (updG γ k u) d = u := by unfold valG; rw [hav]; simp [updG]
  rw [e] at this
  exact this
theorem reg_act {id : Nat} {w : World} (hm : Tryz.prog.follows .mixedOrders = true) (hup : (List.range ops.size).all (fun i => ((ops[i]?).map (fun o => o.after.all fun e => !Region.binds .any e || decide (e.on < i))).getD true) = true)
  (hac : ∀ i ∈ acts, i < ops.size) (hstep : ∀ i, i < ops.size → StepG ops acts av val0 Wd a0 Q i) (γ0 : Nat → Value) (h0 : Wd 0 γ0 w.drew) (hend : ∀ γ w', Wd acts.length γ w' → Q .normal (putsL (valG av val0 γ) ops.toList a0) w') : (Code.region id ops true).wp Tryz.prog Q a0 w := by
 refine wp_region_any hm ?_
 refine wpAny_inv (InvG ops acts av val0 Wd a0) (fun listed a w i o hI h1 ho h2 => ?_) (fun listed a w hI hr => ?_) _ _ _ _ ?_ ?_
 ·obtain ⟨γ, hF, hC, hW⟩ := hI
  exact hstep i (Array.getElem?_eq_some_iff.1 ho).1 γ listed a w o hF hC hW h1 ho h2
 ·obtain ⟨γ, hF, hC, hW⟩ := hI
  have hall := all_ready2 hup hF.size hr
  rw [phase_full acts (fun i hi => hall i (hac i hi))] at hW
  rw [hF.puts hall]
  exact hend γ w hW
 ·have hno : ∀ j, (Array.replicate ops.size false).getD j false = false := fun j => by
   rw [Array.getD_eq_getD_getElem?, Array.getElem?_replicate]; split <;> rfl
  refine ⟨γ0, ⟨by simp, rfl, rfl, fun d _ hg => ?_, fun d _ => rfl⟩, fun i j h => ?_, ?_⟩
  ·obtain ⟨i, h1, _⟩ := hg; rw [hno] at h1; cases h1
  ·rw [hno] at h; cases h
  ·have : phase (Array.replicate ops.size false) acts = 0 := by
    cases acts with
    | nil => rfl
    | cons i l => unfold phase; rw [hno]; simp
   rw [this]
   exact h0
 ·unfold left; exact Nat.le_trans (List.length_filter_le _ _) (by simp)
theorem slotG {γ : Nat → Value} {listed : Array Bool} {a : Act} {i j d : Nat} {o : Oper} (hF : FrI ops (valG av val0 γ) a0 listed a) (ho : ops[i]? = some o) (h2 : ∀ e ∈ o.after, Region.binds .any e = true → listed.getD e.on false = true) (hw : waitsB ops i j = true) (hd : dstOf ops j = some d) (hs : d < a0.tmps.size) : a.eval (.tmp d) = valG av val0 γ d :=
 hF.eval (waits2 ho hw h2) hd hs
theorem phase_leG {listed : Array Bool} {i m x : Nat} (hC : Clo ops listed) (hu : listed.getD i false = false) (hm : acts[m]? = some x) (p : List Nat) (hp : pathB ops (x :: p) = true) (hi : i ∈ p) : phase listed acts ≤ m := by
 refine phase_at acts m x hm ?_
 cases hl : listed.getD x false with
 | false => rfl
 | true =>
  have := hC.path p x hp hl i hi
  rw [hu] at this
  cases this
end
end Go.Proofs.YtnkeljmecbohkaaGreat
