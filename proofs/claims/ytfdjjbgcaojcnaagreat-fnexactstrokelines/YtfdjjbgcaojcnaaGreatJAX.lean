/-
  One line more, or two, appended to a list of lines: an operation; each theorem names its conditions.
  Variables of two cells that a drawn statement makes; each theorem names its conditions.
  Statements of l10Line that draw their order, whatever order comes up; each theorem names its conditions.
  Statements of l10Line that draw their order, whatever order comes up; each theorem names its conditions.
-/
import Derived.Test.YtfdjjbgcaojcnaaGreatJAV
import Derived.Test.YtfdjjbgcaojcnaaGreatJAI
import Derived.Test.YtfdjjbgcaojcnaaGreatJAO
import Derived.Test.YtfdjjbgcaojcnaaGreatJAW
namespace Go.Proofs.YtfdjjbgcaojcnaaGreat
open Go.ChangeShapes Go.WideShapes Go.ChangeAt Go.RowKit
set_option linter.unusedVariables false

theorem wp_lnx {o : Oper} {a : Act} {K : Act → World → Prop} {Q : Exit → Act → World → Prop} (wS w : World) (s x : Operand)
    (ho : o.op = .call { callee := .builtin .append, args := #[s, x], argTypes := #[29, 29] }) (B : Nat) (v : Value) (it : Its) (u : Value) (ld : LD) (hs : a.eval s = v) (h : OwnLn wS B v it) (k : Nw wS w) (hB : B ≤ wS.heap.size) (hu : OwnP w wS.heap.size u ld.pts)
    (hx : a.eval x = .slice (some ⟨w.heap.size, 0, none⟩) 1 1) (hl : it.length + 1 ≤ 1000000)
    (hc : ∀ g' c' w', OwnLn w' B (.slice (some ⟨g', 0, none⟩) (it.length + 1) c') (it ++ [(u, ld)]) → Below B wS w' → Ext v (.slice (some ⟨g', 0, none⟩) (it.length + 1) c') wS w' → K (a.put o.dst (.slice (some ⟨g', 0, none⟩) (it.length + 1) c')) w') : o.wp Tryz.prog a (w.alloc (.cells #[u, .bool ld.closed] 25)) K Q := by
  have n1 : Nw w (w.alloc (.cells #[u, .bool ld.closed] 25)) := (Below.refl _ _).alloc (Nat.le_refl _) _
  have hsz := Below.size k
  refine wp_q 25 29 29 (.slice none 0 0) (.bool false) 32 under_lns under_lns info_line (by decide) rfl _ s x ho B v (vLn it) (vLn [(u, ld)]) hs (OwnQ.nw h.own (Nw.trans k n1)) w.heap.size 0 1 1 rfl hx (fun i hi => ?_) (one_lineD hu) (by rw [vLn_len]; simp) (by rw [vLn_len, vLn_len]; simp; omega) (by simp; omega) ?_
  · have : i = 0 := by simp [vLn] at hi; omega
    subst this
    exact ⟨by simp [vLn, vvAt], by simp [vLn, vvAt]⟩
  · intro g' c' w' h2 h3
    rw [← vLn_append] at h2
    rw [vLn_len] at h2 h3 ⊢
    exact hc g' c' w' (OwnLn.put h (Nw.trans k n1) hB (OwnP.nw hu n1) h2 h3) (Below.trans (Below.mono (Nw.trans k n1) hB) (Ext.below h3 (fun g hg => (OwnQ.lt h.own g hg).1) (by simp; omega))) (Nw.ext (Nw.trans k n1) h3)
theorem wp_ln {o : Oper} {a : Act} {K : Act → World → Prop} {Q : Exit → Act → World → Prop} (wS w : World) (s x : Operand)
    (ho : o.op = .call { callee := .builtin .append, args := #[s, x], argTypes := #[29, 29] }) (B : Nat) (v : Value) (it : Its) (u : Value) (ld : LD) (hs : a.eval s = v) (h : OwnLn wS B v it) (k : Nw wS w) (hB : B ≤ wS.heap.size) (hu : OwnP w wS.heap.size u ld.pts)
    (hx : a.eval x = .slice (some ⟨w.heap.size, 0, none⟩) 1 1) (hl : it.length + 1 ≤ 1000000)
    (hc : ∀ g' c' w', OwnLn w' B (.slice (some ⟨g', 0, none⟩) (it.length + 1) c') (it ++ [(u, ld)]) → Below B wS w' → K (a.put o.dst (.slice (some ⟨g', 0, none⟩) (it.length + 1) c')) w') : o.wp Tryz.prog a (w.alloc (.cells #[u, .bool ld.closed] 25)) K Q :=
  wp_lnx wS w s x ho B v it u ld hs h k hB hu hx hl fun g' c' w' h1 h2 _ => hc g' c' w' h1 h2
/-- Two lines, one behind the other. -/
theorem ItsOk.two {w w' : World} {B : Nat} {u u2 : Value} {L M : List Pnt} (h : OwnP w B u L) (k : Nw w w') (h2 : OwnP w' w.heap.size u2 M) (hB : B ≤ w.heap.size) : ItsOk w' B [(u, ⟨L, true⟩), (u2, ⟨M, true⟩)] := by
  have a1 : ItsOk w B [(u, ⟨L, true⟩)] := ⟨fun i hi => by
    have : i = 0 := by simpa using hi
    subst this; exact h, fun i j hij hi hj => by simp at hi hj; omega⟩
  have a2 : ItsOk w' w.heap.size [(u2, ⟨M, true⟩)] := ⟨fun i hi => by
    have : i = 0 := by simpa using hi
    subst this; exact h2, fun i j hij hi hj => by simp at hi hj; omega⟩
  exact ItsOk.app a1 k a2 hB
theorem wp_ln2 {o : Oper} {a : Act} {K : Act → World → Prop} {Q : Exit → Act → World → Prop} (wS w : World) (s x : Operand)
    (ho : o.op = .call { callee := .builtin .append, args := #[s, x], argTypes := #[29, 29] }) (B : Nat) (v : Value) (it : Its) (u u2 : Value) (ld ld2 : LD) (hs : a.eval s = v) (h : OwnLn wS B v it) (k : Nw wS w) (hB : B ≤ wS.heap.size) (hu : ItsOk w wS.heap.size [(u, ld), (u2, ld2)])
    (hx : a.eval x = .slice (some ⟨w.heap.size, 0, none⟩) 2 2) (hl : it.length + 2 ≤ 1000000)
    (hc : ∀ v' w', OwnLn w' B v' (it ++ [(u, ld), (u2, ld2)]) → Below B wS w' → K (a.put o.dst v') w') : o.wp Tryz.prog a (w.alloc (.cells #[u, .bool ld.closed, u2, .bool ld2.closed] 25)) K Q := by
  have n1 : Nw w (w.alloc (.cells #[u, .bool ld.closed, u2, .bool ld2.closed] 25)) := (Below.refl _ _).alloc (Nat.le_refl _) _
  have hsz := Below.size k
  refine wp_q 25 29 29 (.slice none 0 0) (.bool false) 32 under_lns under_lns info_line (by decide) rfl _ s x ho B v (vLn it) (vLn [(u, ld), (u2, ld2)]) hs (OwnQ.nw h.own (Nw.trans k n1)) w.heap.size 0 2 2 rfl hx (fun i hi => ?_) hu.one (by rw [vLn_len]; simp) (by rw [vLn_len, vLn_len]; simp; omega) (by simp; omega) ?_
  · rcases (show i = 0 ∨ i = 1 by simp [vLn] at hi; omega) with rfl | rfl
    · exact ⟨by simp [vLn, vvAt], by simp [vLn, vvAt]⟩
    · exact ⟨by simp [vLn, vvAt], by simp [vLn, vvAt]⟩
  · intro g' c' w' h2 h3
    rw [← vLn_append] at h2
    rw [vLn_len] at h2 h3 ⊢
    refine hc _ w' (OwnLn.puts (u := .slice none 0 0) h (Nw.trans k n1) hB (hu.nw n1) h2 h3) ?_
    exact Below.trans (Below.mono (Nw.trans k n1) hB) (Ext.below h3 (fun g hg => (OwnQ.lt h.own g hg).1) (by simp; omega))
/-- A block that no line has. -/
def offLn (b : Nat) (v : Value) (it : Its) : Prop := v.ownBlock ≠ some b ∧ ∀ i, i < it.length → (itAt it i).1.ownBlock ≠ some b
theorem OwnLn.offSet {w : World} {B : Nat} {v : Value} {it : Its} (h : OwnLn w B v it) {b : Nat} (hb : offLn b v it) (o : Nat) (u : Value) : OwnLn (w.setCell ⟨b, o, none⟩ u) B v it :=
  ⟨OwnQ.far h.own b o u hb.1, fun i hi => OwnQ.far (h.pts i hi) b o u (hb.2 i hi), h.far, h.apart⟩
theorem OwnLn.offNew {w : World} {B : Nat} {v : Value} {it : Its} (h : OwnLn w B v it) {b : Nat} (hb : w.heap.size ≤ b) : offLn b v it :=
  ⟨fun e => by have := (OwnQ.lt h.own b e).2; omega, fun i hi e => by have := (OwnQ.lt (h.pts i hi) b e).2; omega⟩
theorem offLn.put {wS w' : World} {b : Nat} {v v' u : Value} {it : Its} {ld : LD} (h : offLn b v it) (hb : b < wS.heap.size) (x : Ext v v' wS w') (hu : ∀ c, u.ownBlock = some c → wS.heap.size ≤ c) : offLn b v' (it ++ [(u, ld)]) :=
  ⟨Ext.apart x hb h.1, fun i hi e => by
    rw [List.length_append, List.length_singleton] at hi
    by_cases e1 : i = it.length
    · subst e1
      rw [itAt_new] at e
      have := hu b e
      omega
    · rw [itAt_old it _ i (by omega)] at e
      exact h.2 i (by omega) e⟩
end Go.Proofs.YtfdjjbgcaojcnaaGreat
namespace Go.Proofs.YtfdjjbgcaojcnaaGreat
open Go.ChangeShapes Go.WideShapes Go.ChangeAt Go.RowKit
set_option linter.unusedVariables false

/-- A variable of two cells, made since w0. -/
structure Bz (w0 w : World) (g : Nat) (x y : Value) : Prop where
  ge : w0.heap.size ≤ g
  c0 : w.cell? ⟨g, 0, none⟩ = some x
  c1 : w.cell? ⟨g, 1, none⟩ = some y
  fr : ∀ o, w.frozen? ⟨g, o, none⟩ = false
theorem Bz.lt {w0 w : World} {g : Nat} {x y : Value} (h : Bz w0 w g x y) : g < w.heap.size := World.block_lt_of_cell? w ⟨g, 0, none⟩ h.c0
theorem Bz.kp {w0 w w' : World} {g : Nat} {x y : Value} (h : Bz w0 w g x y) (k : Kp w w') : Bz w0 w' g x y := ⟨h.ge, rq_at k h.c0, rq_at k h.c1, fun o => (k.cells.2 _ _).trans (h.fr o)⟩
theorem Bz.new {w0 w : World} (x y : Value) (t : TypeId) (h : w0.heap.size ≤ w.heap.size) : Bz w0 (w.alloc (.cells #[x, y] t)) w.heap.size x y := ⟨h, by simp, by simp, fun o => World.frozen?_alloc_at _ _ _ _ rfl⟩
theorem Bz.alloc {w0 w : World} {g : Nat} {x y : Value} (h : Bz w0 w g x y) (c : Array Value) (t : TypeId) : Bz w0 (w.alloc (.cells c t)) g x y := h.kp ((Kp.refl w).alloc _ _)
theorem Bz.set {w0 w : World} {g : Nat} {x y : Value} (h : Bz w0 w g x y) (u v : Value) : Bz w0 ((w.setCell ⟨g, 0, none⟩ u).setCell ⟨g, 1, none⟩ v) g u v := by
  obtain ⟨y0, y1⟩ := set2 w g u v h.c0 h.c1
  exact ⟨h.ge, y0, y1, fun o => by rw [World.frozen?_setCell, World.frozen?_setCell]; exact h.fr o⟩
theorem Bz.off {w0 w : World} {g k : Nat} {x y : Value} (h : Bz w0 w g x y) (hk : k ≠ g) (u v : Value) : Bz w0 ((w.setCell ⟨k, 0, none⟩ u).setCell ⟨k, 1, none⟩ v) g x y :=
  ⟨h.ge, by rw [World.cell?_setCell_other _ _ _ _ (fun e => by injection e; omega), World.cell?_setCell_other _ _ _ _ (fun e => by injection e; omega)]; exact h.c0, by rw [World.cell?_setCell_other _ _ _ _ (fun e => by injection e; omega), World.cell?_setCell_other _ _ _ _ (fun e => by injection e; omega)]; exact h.c1, fun o => by rw [World.frozen?_setCell, World.frozen?_setCell]; exact h.fr o⟩
theorem kp_set2 {w0 w : World} {g : Nat} (h : Kp w0 w) (hg : w0.heap.size ≤ g) (u v : Value) : Kp w0 ((w.setCell ⟨g, 0, none⟩ u).setCell ⟨g, 1, none⟩ v) := (h.setCell hg _).setCell hg _
end Go.Proofs.YtfdjjbgcaojcnaaGreat
namespace Go.Proofs.YtfdjjbgcaojcnaaGreat
open Go.ChangeShapes Go.WideShapes Go.ChangeAt Go.RowKit
set_option linter.unusedVariables false

structure LL24 where
  ax : Int
  ay : Int
  bx : Int
  by_ : Int
  sx : Int
  sy : Int
  ba : Nat
  bb : Nat
  bs : Nat
  v : Value
  B : Nat
  it : Its
  W : World
  a0 : Act
structure LL24Ok (X : LL24) : Prop where
  a0_ : X.W.cell? ⟨X.ba, 0, none⟩ = some (.int .i64 (X.ax))
  a1_ : X.W.cell? ⟨X.ba, 1, none⟩ = some (.int .i64 (X.ay))
  b0_ : X.W.cell? ⟨X.bb, 0, none⟩ = some (.int .i64 (X.bx))
  b1_ : X.W.cell? ⟨X.bb, 1, none⟩ = some (.int .i64 (X.by_))
  s0_ : X.W.cell? ⟨X.bs, 0, none⟩ = some (.int .i64 (X.sx))
  s1_ : X.W.cell? ⟨X.bs, 1, none⟩ = some (.int .i64 (X.sy))
  w0 : wid X.ax
  w1 : wid X.ay
  w2 : wid X.bx
  w3 : wid X.by_
  w4 : wid X.sx
  w5 : wid X.sy
  ho : OwnLn X.W X.B X.v X.it
  hB : X.B ≤ X.W.heap.size
  hl : X.it.length + 1 ≤ 1000000
  e10 : X.a0.eval (.tmp 10) = X.v
  e13 : X.a0.eval (.tmp 13) = .pointer (some ⟨X.ba, 0, none⟩)
  e14 : X.a0.eval (.tmp 14) = .pointer (some ⟨X.bb, 0, none⟩)
  e15 : X.a0.eval (.tmp 15) = .pointer (some ⟨X.bs, 0, none⟩)
  sz : X.a0.tmps.size = 270
def LL24.val0 (X : LL24) : Nat → Value
  | 102 => X.v
  | 103 => .agg #[.int .i64 (X.ax), .int .i64 (X.ay)]
  | 104 => .agg #[.int .i64 (X.sx), .int .i64 (X.sy)]
  | 105 => .agg #[.int .i64 (X.ax + X.sx), .int .i64 (X.ay + X.sy)]
  | 106 => .agg #[.int .i64 (X.bx), .int .i64 (X.by_)]
  | 107 => .agg #[.int .i64 (X.sx), .int .i64 (X.sy)]
  | 108 => .agg #[.int .i64 (X.bx + X.sx), .int .i64 (X.by_ + X.sy)]
  | 109 => .agg #[.int .i64 (X.bx), .int .i64 (X.by_)]
  | 110 => .agg #[.int .i64 (X.sx), .int .i64 (X.sy)]
  | 111 => .agg #[.int .i64 (X.bx - X.sx), .int .i64 (X.by_ - X.sy)]
  | 112 => .agg #[.int .i64 (X.ax), .int .i64 (X.ay)]
  | 113 => .agg #[.int .i64 (X.sx), .int .i64 (X.sy)]
  | 114 => .agg #[.int .i64 (X.ax - X.sx), .int .i64 (X.ay - X.sy)]
  | _ => undef
def LL24.av : Nat → Option Nat
  | 115 => some 0
  | 116 => some 1
  | 117 => some 2
  | 118 => some 3
  | 10 => some 4
  | _ => none
def LL24.acts : List Nat := [13, 14, 15, 16, 17]
/-- The world, by how many of the acting ones have come up. -/
def LL24.Wd (X : LL24) : Nat → (Nat → Value) → World → Prop
  | 0, _, w => Kp X.W w
  | 1, γ, w => ∃ w1, Kp X.W w1 ∧ γ 0 = .slice (some ⟨w1.heap.size, 0, none⟩) 4 4 ∧ w = (w1.alloc (.cells #[.int .i64 (X.ax + X.sx), .int .i64 (X.ay + X.sy), .int .i64 (X.bx + X.sx), .int .i64 (X.by_ + X.sy), .int .i64 (X.bx - X.sx), .int .i64 (X.by_ - X.sy), .int .i64 (X.ax - X.sx), .int .i64 (X.ay - X.sy)] 34))
  | 2, γ, w => ∃ w1, Kp X.W w1 ∧ γ 1 = .agg #[.slice (some ⟨w1.heap.size, 0, none⟩) 4 4, .bool true] ∧ Kp (w1.alloc (.cells #[.int .i64 (X.ax + X.sx), .int .i64 (X.ay + X.sy), .int .i64 (X.bx + X.sx), .int .i64 (X.by_ + X.sy), .int .i64 (X.bx - X.sx), .int .i64 (X.by_ - X.sy), .int .i64 (X.ax - X.sx), .int .i64 (X.ay - X.sy)] 34)) w
  | 3, γ, w => ∃ w1 w2, Kp X.W w1 ∧ Kp (w1.alloc (.cells #[.int .i64 (X.ax + X.sx), .int .i64 (X.ay + X.sy), .int .i64 (X.bx + X.sx), .int .i64 (X.by_ + X.sy), .int .i64 (X.bx - X.sx), .int .i64 (X.by_ - X.sy), .int .i64 (X.ax - X.sx), .int .i64 (X.ay - X.sy)] 34)) w2 ∧ γ 2 = .slice (some ⟨w2.heap.size, 0, none⟩) 1 1 ∧ w = w2.alloc (.cells #[.slice (some ⟨w1.heap.size, 0, none⟩) 4 4, .bool true] 25)
  | 4, γ, w => ∃ u, OwnLn w X.B (γ 3) (X.it ++ [(u, ⟨[(X.ax + X.sx, X.ay + X.sy), (X.bx + X.sx, X.by_ + X.sy), (X.bx - X.sx, X.by_ - X.sy), (X.ax - X.sx, X.ay - X.sy)], true⟩)]) ∧ Below X.B X.W w
  | _, γ, w => ∃ u, OwnLn w X.B (γ 4) (X.it ++ [(u, ⟨[(X.ax + X.sx, X.ay + X.sy), (X.bx + X.sx, X.by_ + X.sy), (X.bx - X.sx, X.by_ - X.sy), (X.ax - X.sx, X.ay - X.sy)], true⟩)]) ∧ Below X.B X.W w
theorem LL24.chain : chainG (opsOf 24 Tryz.f78) LL24.acts = true := by kernel_rfl
theorem LL24.nodup : LL24.acts.Nodup := by decide
theorem LL24.inj {listed : Array Bool} {i k : Nat} (h : (List.range (opsOf 24 Tryz.f78).size).all (fun j => decide (j = i) || !(match dstOf (opsOf 24 Tryz.f78) j with | some d => decide (LL24.av d = some k) | none => false)) = true) (hu : listed.getD i false = false) : ∀ d, got (opsOf 24 Tryz.f78) listed d → LL24.av d ≠ some k := by
  rintro d ⟨j, h1, h2⟩ h3
  have hlt : j < (opsOf 24 Tryz.f78).size := by
    rcases Nat.lt_or_ge j (opsOf 24 Tryz.f78).size with h4 | h4
    · exact h4
    · unfold dstOf at h2; rw [Array.getElem?_eq_none h4] at h2; cases h2
  have h5 := List.all_eq_true.1 h j (List.mem_range.2 hlt)
  rw [h2] at h5
  simp only [h3, decide_true, Bool.not_true, Bool.or_false, decide_eq_true_eq] at h5
  subst h5
  rw [hu] at h1
  cases h1
theorem LL24.s0 (X : LL24) (ok : LL24Ok X) {Q : Exit → Act → World → Prop} : StepG (opsOf 24 Tryz.f78) LL24.acts LL24.av X.val0 X.Wd X.a0 Q 0 := by
  intro γ listed a w o hF hC hW h1 ho h2
  obtain ⟨hd, hop, hg⟩ := fields2 (x := some 102) (y := Op.move (.tmp 10)) (z := none) (by kernel_rfl) ho
  have e10 : a.eval (.tmp 10) = X.v := (hF.no 10 (early_of hC (unl (hF.lt ho) h1) (j := 17) (by kernel_rfl) [16, 0] (by kernel_rfl) (by decide))).trans ok.e10
  refine st_pureG hF hC hW ho h2 (by decide) hd hg rfl ?_
  show _ = Result.ok (Next.value (X.v)) w
  generalize a.eval = ρ at e10 ⊢
  unfold execOp
  rw [hop]
  simp [e10, go_sem]
theorem LL24.s1 (X : LL24) (ok : LL24Ok X) {Q : Exit → Act → World → Prop} : StepG (opsOf 24 Tryz.f78) LL24.acts LL24.av X.val0 X.Wd X.a0 Q 1 := by
  intro γ listed a w o hF hC hW h1 ho h2
  obtain ⟨hd, hop, hg⟩ := fields2 (x := some 103) (y := Op.load 34 (.tmp 13)) (z := none) (by kernel_rfl) ho
  have e13 : a.eval (.tmp 13) = .pointer (some ⟨X.ba, 0, none⟩) := (hF.eval0 (by kernel_rfl)).trans ok.e13
  have hph := phase_leG (acts := LL24.acts) (m := 0) (x := 13) hC (unl (hF.lt ho) h1) rfl [3, 1] (by kernel_rfl) (by decide)
  have hWW := hW
  generalize phase listed LL24.acts = n at hph hWW
  have hk : Kp X.W w := by
    obtain rfl : n = 0 := by omega
    exact hWW
  have hc0 := rq_at hk ok.a0_
  have hc1 := rq_at hk ok.a1_
  refine st_pureG hF hC hW ho h2 (by decide) hd hg rfl ?_
  show _ = Result.ok (Next.value (.agg #[.int .i64 (X.ax), .int .i64 (X.ay)])) w
  generalize a.eval = ρ at e13 ⊢
  unfold execOp
  rw [hop]
  simp [e13, hc0, hc1, go_sem]
theorem LL24.s2 (X : LL24) (ok : LL24Ok X) {Q : Exit → Act → World → Prop} : StepG (opsOf 24 Tryz.f78) LL24.acts LL24.av X.val0 X.Wd X.a0 Q 2 := by
  intro γ listed a w o hF hC hW h1 ho h2
  obtain ⟨hd, hop, hg⟩ := fields2 (x := some 104) (y := Op.load 34 (.tmp 15)) (z := none) (by kernel_rfl) ho
  have e15 : a.eval (.tmp 15) = .pointer (some ⟨X.bs, 0, none⟩) := (hF.eval0 (by kernel_rfl)).trans ok.e15
  have hph := phase_leG (acts := LL24.acts) (m := 0) (x := 13) hC (unl (hF.lt ho) h1) rfl [3, 2] (by kernel_rfl) (by decide)
  have hWW := hW
  generalize phase listed LL24.acts = n at hph hWW
  have hk : Kp X.W w := by
    obtain rfl : n = 0 := by omega
    exact hWW
  have hc0 := rq_at hk ok.s0_
  have hc1 := rq_at hk ok.s1_
  refine st_pureG hF hC hW ho h2 (by decide) hd hg rfl ?_
  show _ = Result.ok (Next.value (.agg #[.int .i64 (X.sx), .int .i64 (X.sy)])) w
  generalize a.eval = ρ at e15 ⊢
  unfold execOp
  rw [hop]
  simp [e15, hc0, hc1, go_sem]
theorem LL24.s3 (X : LL24) (ok : LL24Ok X) {Q : Exit → Act → World → Prop} : StepG (opsOf 24 Tryz.f78) LL24.acts LL24.av X.val0 X.Wd X.a0 Q 3 := by
  intro γ listed a w o hF hC hW h1 ho h2
  obtain ⟨hd, hop, hg⟩ := fields2 (x := some 105) (y := Op.call { callee := .value (.func 98), args := #[(.tmp 103), (.tmp 104)], argTypes := #[34, 34] }) (z := none) (by kernel_rfl) ho
  have e103 : a.eval (.tmp 103) = .agg #[.int .i64 (X.ax), .int .i64 (X.ay)] := slotG hF ho h2 (j := 1) (d := 103) (by kernel_rfl) (by kernel_rfl) (by rw [ok.sz]; decide)
  have e104 : a.eval (.tmp 104) = .agg #[.int .i64 (X.sx), .int .i64 (X.sy)] := slotG hF ho h2 (j := 2) (d := 104) (by kernel_rfl) (by kernel_rfl) (by rw [ok.sz]; decide)
  have ef : a.eval (.func 98) = .func (.func 98) #[] #[] := rfl
  have hph := phase_leG (acts := LL24.acts) (m := 0) (x := 13) hC (unl (hF.lt ho) h1) rfl [3] (by kernel_rfl) (by decide)
  have hWW := hW
  generalize phase listed LL24.acts = n at hph hWW
  refine st_callG hF hC hW ho h2 (by decide) hd hg rfl (f := 98) (args := #[.agg #[.int .i64 (X.ax), .int .i64 (X.ay)], .agg #[.int .i64 (X.sx), .int .i64 (X.sy)]]) ?_ ?_ ?_
  · generalize a.eval = ρ at e103 e104 ef ⊢
    unfold execOp
    rw [hop]
    simp [e103, e104, ef, go_sem]
  · exact splus w _ _ _ _ ok.w0 ok.w1 ok.w4 ok.w5
  · intro w' hk
    have hz : phase listed LL24.acts = 0 := by
      have := phase_leG (acts := LL24.acts) (m := 0) (x := 13) hC (unl (hF.lt ho) h1) rfl [3] (by kernel_rfl) (by decide)
      omega
    rw [hz] at hW ⊢
    exact Kp.trans hW hk
theorem LL24.s4 (X : LL24) (ok : LL24Ok X) {Q : Exit → Act → World → Prop} : StepG (opsOf 24 Tryz.f78) LL24.acts LL24.av X.val0 X.Wd X.a0 Q 4 := by
  intro γ listed a w o hF hC hW h1 ho h2
  obtain ⟨hd, hop, hg⟩ := fields2 (x := some 106) (y := Op.load 34 (.tmp 14)) (z := none) (by kernel_rfl) ho
  have e14 : a.eval (.tmp 14) = .pointer (some ⟨X.bb, 0, none⟩) := (hF.eval0 (by kernel_rfl)).trans ok.e14
  have hph := phase_leG (acts := LL24.acts) (m := 0) (x := 13) hC (unl (hF.lt ho) h1) rfl [6, 4] (by kernel_rfl) (by decide)
  have hWW := hW
  generalize phase listed LL24.acts = n at hph hWW
  have hk : Kp X.W w := by
    obtain rfl : n = 0 := by omega
    exact hWW
  have hc0 := rq_at hk ok.b0_
  have hc1 := rq_at hk ok.b1_
  refine st_pureG hF hC hW ho h2 (by decide) hd hg rfl ?_
  show _ = Result.ok (Next.value (.agg #[.int .i64 (X.bx), .int .i64 (X.by_)])) w
  generalize a.eval = ρ at e14 ⊢
  unfold execOp
  rw [hop]
  simp [e14, hc0, hc1, go_sem]
theorem LL24.s5 (X : LL24) (ok : LL24Ok X) {Q : Exit → Act → World → Prop} : StepG (opsOf 24 Tryz.f78) LL24.acts LL24.av X.val0 X.Wd X.a0 Q 5 := by
  intro γ listed a w o hF hC hW h1 ho h2
  obtain ⟨hd, hop, hg⟩ := fields2 (x := some 107) (y := Op.load 34 (.tmp 15)) (z := none) (by kernel_rfl) ho
  have e15 : a.eval (.tmp 15) = .pointer (some ⟨X.bs, 0, none⟩) := (hF.eval0 (by kernel_rfl)).trans ok.e15
  have hph := phase_leG (acts := LL24.acts) (m := 0) (x := 13) hC (unl (hF.lt ho) h1) rfl [6, 5] (by kernel_rfl) (by decide)
  have hWW := hW
  generalize phase listed LL24.acts = n at hph hWW
  have hk : Kp X.W w := by
    obtain rfl : n = 0 := by omega
    exact hWW
  have hc0 := rq_at hk ok.s0_
  have hc1 := rq_at hk ok.s1_
  refine st_pureG hF hC hW ho h2 (by decide) hd hg rfl ?_
  show _ = Result.ok (Next.value (.agg #[.int .i64 (X.sx), .int .i64 (X.sy)])) w
  generalize a.eval = ρ at e15 ⊢
  unfold execOp
  rw [hop]
  simp [e15, hc0, hc1, go_sem]
theorem LL24.s6 (X : LL24) (ok : LL24Ok X) {Q : Exit → Act → World → Prop} : StepG (opsOf 24 Tryz.f78) LL24.acts LL24.av X.val0 X.Wd X.a0 Q 6 := by
  intro γ listed a w o hF hC hW h1 ho h2
  obtain ⟨hd, hop, hg⟩ := fields2 (x := some 108) (y := Op.call { callee := .value (.func 98), args := #[(.tmp 106), (.tmp 107)], argTypes := #[34, 34] }) (z := none) (by kernel_rfl) ho
  have e106 : a.eval (.tmp 106) = .agg #[.int .i64 (X.bx), .int .i64 (X.by_)] := slotG hF ho h2 (j := 4) (d := 106) (by kernel_rfl) (by kernel_rfl) (by rw [ok.sz]; decide)
  have e107 : a.eval (.tmp 107) = .agg #[.int .i64 (X.sx), .int .i64 (X.sy)] := slotG hF ho h2 (j := 5) (d := 107) (by kernel_rfl) (by kernel_rfl) (by rw [ok.sz]; decide)
  have ef : a.eval (.func 98) = .func (.func 98) #[] #[] := rfl
  have hph := phase_leG (acts := LL24.acts) (m := 0) (x := 13) hC (unl (hF.lt ho) h1) rfl [6] (by kernel_rfl) (by decide)
  have hWW := hW
  generalize phase listed LL24.acts = n at hph hWW
  refine st_callG hF hC hW ho h2 (by decide) hd hg rfl (f := 98) (args := #[.agg #[.int .i64 (X.bx), .int .i64 (X.by_)], .agg #[.int .i64 (X.sx), .int .i64 (X.sy)]]) ?_ ?_ ?_
  · generalize a.eval = ρ at e106 e107 ef ⊢
    unfold execOp
    rw [hop]
    simp [e106, e107, ef, go_sem]
  · exact splus w _ _ _ _ ok.w2 ok.w3 ok.w4 ok.w5
  · intro w' hk
    have hz : phase listed LL24.acts = 0 := by
      have := phase_leG (acts := LL24.acts) (m := 0) (x := 13) hC (unl (hF.lt ho) h1) rfl [6] (by kernel_rfl) (by decide)
      omega
    rw [hz] at hW ⊢
    exact Kp.trans hW hk
theorem LL24.s7 (X : LL24) (ok : LL24Ok X) {Q : Exit → Act → World → Prop} : StepG (opsOf 24 Tryz.f78) LL24.acts LL24.av X.val0 X.Wd X.a0 Q 7 := by
  intro γ listed a w o hF hC hW h1 ho h2
  obtain ⟨hd, hop, hg⟩ := fields2 (x := some 109) (y := Op.load 34 (.tmp 14)) (z := none) (by kernel_rfl) ho
  have e14 : a.eval (.tmp 14) = .pointer (some ⟨X.bb, 0, none⟩) := (hF.eval0 (by kernel_rfl)).trans ok.e14
  have hph := phase_leG (acts := LL24.acts) (m := 0) (x := 13) hC (unl (hF.lt ho) h1) rfl [9, 7] (by kernel_rfl) (by decide)
  have hWW := hW
  generalize phase listed LL24.acts = n at hph hWW
  have hk : Kp X.W w := by
    obtain rfl : n = 0 := by omega
    exact hWW
  have hc0 := rq_at hk ok.b0_
  have hc1 := rq_at hk ok.b1_
  refine st_pureG hF hC hW ho h2 (by decide) hd hg rfl ?_
  show _ = Result.ok (Next.value (.agg #[.int .i64 (X.bx), .int .i64 (X.by_)])) w
  generalize a.eval = ρ at e14 ⊢
  unfold execOp
  rw [hop]
  simp [e14, hc0, hc1, go_sem]
theorem LL24.s8 (X : LL24) (ok : LL24Ok X) {Q : Exit → Act → World → Prop} : StepG (opsOf 24 Tryz.f78) LL24.acts LL24.av X.val0 X.Wd X.a0 Q 8 := by
  intro γ listed a w o hF hC hW h1 ho h2
  obtain ⟨hd, hop, hg⟩ := fields2 (x := some 110) (y := Op.load 34 (.tmp 15)) (z := none) (by kernel_rfl) ho
  have e15 : a.eval (.tmp 15) = .pointer (some ⟨X.bs, 0, none⟩) := (hF.eval0 (by kernel_rfl)).trans ok.e15
  have hph := phase_leG (acts := LL24.acts) (m := 0) (x := 13) hC (unl (hF.lt ho) h1) rfl [9, 8] (by kernel_rfl) (by decide)
  have hWW := hW
  generalize phase listed LL24.acts = n at hph hWW
  have hk : Kp X.W w := by
    obtain rfl : n = 0 := by omega
    exact hWW
  have hc0 := rq_at hk ok.s0_
  have hc1 := rq_at hk ok.s1_
  refine st_pureG hF hC hW ho h2 (by decide) hd hg rfl ?_
  show _ = Result.ok (Next.value (.agg #[.int .i64 (X.sx), .int .i64 (X.sy)])) w
  generalize a.eval = ρ at e15 ⊢
  unfold execOp
  rw [hop]
  simp [e15, hc0, hc1, go_sem]
theorem LL24.s9 (X : LL24) (ok : LL24Ok X) {Q : Exit → Act → World → Prop} : StepG (opsOf 24 Tryz.f78) LL24.acts LL24.av X.val0 X.Wd X.a0 Q 9 := by
  intro γ listed a w o hF hC hW h1 ho h2
  obtain ⟨hd, hop, hg⟩ := fields2 (x := some 111) (y := Op.call { callee := .value (.func 99), args := #[(.tmp 109), (.tmp 110)], argTypes := #[34, 34] }) (z := none) (by kernel_rfl) ho
  have e109 : a.eval (.tmp 109) = .agg #[.int .i64 (X.bx), .int .i64 (X.by_)] := slotG hF ho h2 (j := 7) (d := 109) (by kernel_rfl) (by kernel_rfl) (by rw [ok.sz]; decide)
  have e110 : a.eval (.tmp 110) = .agg #[.int .i64 (X.sx), .int .i64 (X.sy)] := slotG hF ho h2 (j := 8) (d := 110) (by kernel_rfl) (by kernel_rfl) (by rw [ok.sz]; decide)
  have ef : a.eval (.func 99) = .func (.func 99) #[] #[] := rfl
  have hph := phase_leG (acts := LL24.acts) (m := 0) (x := 13) hC (unl (hF.lt ho) h1) rfl [9] (by kernel_rfl) (by decide)
  have hWW := hW
  generalize phase listed LL24.acts = n at hph hWW
  refine st_callG hF hC hW ho h2 (by decide) hd hg rfl (f := 99) (args := #[.agg #[.int .i64 (X.bx), .int .i64 (X.by_)], .agg #[.int .i64 (X.sx), .int .i64 (X.sy)]]) ?_ ?_ ?_
  · generalize a.eval = ρ at e109 e110 ef ⊢
    unfold execOp
    rw [hop]
    simp [e109, e110, ef, go_sem]
  · exact sless w _ _ _ _ ok.w2 ok.w3 ok.w4 ok.w5
  · intro w' hk
    have hz : phase listed LL24.acts = 0 := by
      have := phase_leG (acts := LL24.acts) (m := 0) (x := 13) hC (unl (hF.lt ho) h1) rfl [9] (by kernel_rfl) (by decide)
      omega
    rw [hz] at hW ⊢
    exact Kp.trans hW hk
theorem LL24.s10 (X : LL24) (ok : LL24Ok X) {Q : Exit → Act → World → Prop} : StepG (opsOf 24 Tryz.f78) LL24.acts LL24.av X.val0 X.Wd X.a0 Q 10 := by
  intro γ listed a w o hF hC hW h1 ho h2
  obtain ⟨hd, hop, hg⟩ := fields2 (x := some 112) (y := Op.load 34 (.tmp 13)) (z := none) (by kernel_rfl) ho
  have e13 : a.eval (.tmp 13) = .pointer (some ⟨X.ba, 0, none⟩) := (hF.eval0 (by kernel_rfl)).trans ok.e13
  have hph := phase_leG (acts := LL24.acts) (m := 0) (x := 13) hC (unl (hF.lt ho) h1) rfl [12, 10] (by kernel_rfl) (by decide)
  have hWW := hW
  generalize phase listed LL24.acts = n at hph hWW
  have hk : Kp X.W w := by
    obtain rfl : n = 0 := by omega
    exact hWW
  have hc0 := rq_at hk ok.a0_
  have hc1 := rq_at hk ok.a1_
  refine st_pureG hF hC hW ho h2 (by decide) hd hg rfl ?_
  show _ = Result.ok (Next.value (.agg #[.int .i64 (X.ax), .int .i64 (X.ay)])) w
  generalize a.eval = ρ at e13 ⊢
  unfold execOp
  rw [hop]
  simp [e13, hc0, hc1, go_sem]
theorem LL24.s11 (X : LL24) (ok : LL24Ok X) {Q : Exit → Act → World → Prop} : StepG (opsOf 24 Tryz.f78) LL24.acts LL24.av X.val0 X.Wd X.a0 Q 11 := by
  intro γ listed a w o hF hC hW h1 ho h2
  obtain ⟨hd, hop, hg⟩ := fields2 (x := some 113) (y := Op.load 34 (.tmp 15)) (z := none) (by kernel_rfl) ho
  have e15 : a.eval (.tmp 15) = .pointer (some ⟨X.bs, 0, none⟩) := (hF.eval0 (by kernel_rfl)).trans ok.e15
  have hph := phase_leG (acts := LL24.acts) (m := 0) (x := 13) hC (unl (hF.lt ho) h1) rfl [12, 11] (by kernel_rfl) (by decide)
  have hWW := hW
  generalize phase listed LL24.acts = n at hph hWW
  have hk : Kp X.W w := by
    obtain rfl : n = 0 := by omega
    exact hWW
  have hc0 := rq_at hk ok.s0_
  have hc1 := rq_at hk ok.s1_
  refine st_pureG hF hC hW ho h2 (by decide) hd hg rfl ?_
  show _ = Result.ok (Next.value (.agg #[.int .i64 (X.sx), .int .i64 (X.sy)])) w
  generalize a.eval = ρ at e15 ⊢
  unfold execOp
  rw [hop]
  simp [e15, hc0, hc1, go_sem]
theorem LL24.s12 (X : LL24) (ok : LL24Ok X) {Q : Exit → Act → World → Prop} : StepG (opsOf 24 Tryz.f78) LL24.acts LL24.av X.val0 X.Wd X.a0 Q 12 := by
  intro γ listed a w o hF hC hW h1 ho h2
  obtain ⟨hd, hop, hg⟩ := fields2 (x := some 114) (y := Op.call { callee := .value (.func 99), args := #[(.tmp 112), (.tmp 113)], argTypes := #[34, 34] }) (z := none) (by kernel_rfl) ho
  have e112 : a.eval (.tmp 112) = .agg #[.int .i64 (X.ax), .int .i64 (X.ay)] := slotG hF ho h2 (j := 10) (d := 112) (by kernel_rfl) (by kernel_rfl) (by rw [ok.sz]; decide)
  have e113 : a.eval (.tmp 113) = .agg #[.int .i64 (X.sx), .int .i64 (X.sy)] := slotG hF ho h2 (j := 11) (d := 113) (by kernel_rfl) (by kernel_rfl) (by rw [ok.sz]; decide)
  have ef : a.eval (.func 99) = .func (.func 99) #[] #[] := rfl
  have hph := phase_leG (acts := LL24.acts) (m := 0) (x := 13) hC (unl (hF.lt ho) h1) rfl [12] (by kernel_rfl) (by decide)
  have hWW := hW
  generalize phase listed LL24.acts = n at hph hWW
  refine st_callG hF hC hW ho h2 (by decide) hd hg rfl (f := 99) (args := #[.agg #[.int .i64 (X.ax), .int .i64 (X.ay)], .agg #[.int .i64 (X.sx), .int .i64 (X.sy)]]) ?_ ?_ ?_
  · generalize a.eval = ρ at e112 e113 ef ⊢
    unfold execOp
    rw [hop]
    simp [e112, e113, ef, go_sem]
  · exact sless w _ _ _ _ ok.w0 ok.w1 ok.w4 ok.w5
  · intro w' hk
    have hz : phase listed LL24.acts = 0 := by
      have := phase_leG (acts := LL24.acts) (m := 0) (x := 13) hC (unl (hF.lt ho) h1) rfl [12] (by kernel_rfl) (by decide)
      omega
    rw [hz] at hW ⊢
    exact Kp.trans hW hk
theorem LL24.s13 (X : LL24) (ok : LL24Ok X) {Q : Exit → Act → World → Prop} : StepG (opsOf 24 Tryz.f78) LL24.acts LL24.av X.val0 X.Wd X.a0 Q 13 := by
  intro γ listed a w o hF hC hW h1 ho h2
  obtain ⟨hd, hop, hg⟩ := fields2 (x := some 115) (y := Op.buildSlice 23 4 #[(0, (.tmp 105)), (1, (.tmp 108)), (2, (.tmp 111)), (3, (.tmp 114))]) (z := none) (by kernel_rfl) ho
  have e105 : a.eval (.tmp 105) = .agg #[.int .i64 (X.ax + X.sx), .int .i64 (X.ay + X.sy)] := slotG hF ho h2 (j := 3) (d := 105) (by kernel_rfl) (by kernel_rfl) (by rw [ok.sz]; decide)
  have e108 : a.eval (.tmp 108) = .agg #[.int .i64 (X.bx + X.sx), .int .i64 (X.by_ + X.sy)] := slotG hF ho h2 (j := 6) (d := 108) (by kernel_rfl) (by kernel_rfl) (by rw [ok.sz]; decide)
  have e111 : a.eval (.tmp 111) = .agg #[.int .i64 (X.bx - X.sx), .int .i64 (X.by_ - X.sy)] := slotG hF ho h2 (j := 9) (d := 111) (by kernel_rfl) (by kernel_rfl) (by rw [ok.sz]; decide)
  have e114 : a.eval (.tmp 114) = .agg #[.int .i64 (X.ax - X.sx), .int .i64 (X.ay - X.sy)] := slotG hF ho h2 (j := 12) (d := 114) (by kernel_rfl) (by kernel_rfl) (by rw [ok.sz]; decide)
  have hu := unl (hF.lt ho) h1
  refine st_actG (k := 0) LL24.chain LL24.nodup rfl hF hC hW h1 ho h2 (Or.inr ⟨115, hd, rfl⟩) (LL24.inj (by kernel_rfl) hu) hg ?_
  intro hW0 K hK
  have hr : (execOp a.eval o).run Tryz.prog w = .ok (.value (.slice (some ⟨w.heap.size, 0, none⟩) 4 4)) (w.alloc (.cells #[.int .i64 (X.ax + X.sx), .int .i64 (X.ay + X.sy), .int .i64 (X.bx + X.sx), .int .i64 (X.by_ + X.sy), .int .i64 (X.bx - X.sx), .int .i64 (X.by_ - X.sy), .int .i64 (X.ax - X.sx), .int .i64 (X.ay - X.sy)] 34)) := by
    generalize a.eval = ρ at e105 e108 e111 e114 ⊢
    unfold execOp
    rw [hop]
    simp [e105, e108, e111, e114, go_sem]
  unfold Oper.wp
  rw [hr]
  exact hK _ _ ⟨w, hW0, rfl, rfl⟩
theorem LL24.s14 (X : LL24) (ok : LL24Ok X) {Q : Exit → Act → World → Prop} : StepG (opsOf 24 Tryz.f78) LL24.acts LL24.av X.val0 X.Wd X.a0 Q 14 := by
  intro γ listed a w o hF hC hW h1 ho h2
  obtain ⟨hd, hop, hg⟩ := fields2 (x := some 116) (y := Op.call { callee := .value (.func 97), args := #[(.tmp 115)], argTypes := #[23] }) (z := none) (by kernel_rfl) ho
  have e115 : a.eval (.tmp 115) = γ 0 := slotG hF ho h2 (j := 13) (d := 115) (by kernel_rfl) (by kernel_rfl) (by rw [ok.sz]; decide)
  have ef : a.eval (.func 97) = .func (.func 97) #[] #[] := rfl
  have hu := unl (hF.lt ho) h1
  refine st_actG (k := 1) LL24.chain LL24.nodup rfl hF hC hW h1 ho h2 (Or.inr ⟨116, hd, rfl⟩) (LL24.inj (by kernel_rfl) hu) hg ?_
  intro hW0 K hK
  obtain ⟨w1, k1, g0, rfl⟩ := hW0
  rw [g0] at e115
  have hr : (execOp a.eval o).run Tryz.prog (w1.alloc (.cells #[.int .i64 (X.ax + X.sx), .int .i64 (X.ay + X.sy), .int .i64 (X.bx + X.sx), .int .i64 (X.by_ + X.sy), .int .i64 (X.bx - X.sx), .int .i64 (X.by_ - X.sy), .int .i64 (X.ax - X.sx), .int .i64 (X.ay - X.sy)] 34)) = .ok (.enter 97 #[.slice (some ⟨w1.heap.size, 0, none⟩) 4 4]) (w1.alloc (.cells #[.int .i64 (X.ax + X.sx), .int .i64 (X.ay + X.sy), .int .i64 (X.bx + X.sx), .int .i64 (X.by_ + X.sy), .int .i64 (X.bx - X.sx), .int .i64 (X.by_ - X.sy), .int .i64 (X.ax - X.sx), .int .i64 (X.ay - X.sy)] 34)) := by
    generalize a.eval = ρ at e115 ef ⊢
    unfold execOp
    rw [hop]
    simp [e115, ef, go_sem]
  unfold Oper.wp
  rw [hr]
  refine Calls.mono (sclosed _ _ _ _) ?_
  rintro e w' ⟨rfl, h⟩
  exact hK _ _ ⟨w1, k1, rfl, h⟩
theorem LL24.s15 (X : LL24) (ok : LL24Ok X) {Q : Exit → Act → World → Prop} : StepG (opsOf 24 Tryz.f78) LL24.acts LL24.av X.val0 X.Wd X.a0 Q 15 := by
  intro γ listed a w o hF hC hW h1 ho h2
  obtain ⟨hd, hop, hg⟩ := fields2 (x := some 117) (y := Op.buildSlice 29 1 #[(0, (.tmp 116))]) (z := none) (by kernel_rfl) ho
  have e116 : a.eval (.tmp 116) = γ 1 := slotG hF ho h2 (j := 14) (d := 116) (by kernel_rfl) (by kernel_rfl) (by rw [ok.sz]; decide)
  have hu := unl (hF.lt ho) h1
  refine st_actG (k := 2) LL24.chain LL24.nodup rfl hF hC hW h1 ho h2 (Or.inr ⟨117, hd, rfl⟩) (LL24.inj (by kernel_rfl) hu) hg ?_
  intro hW0 K hK
  obtain ⟨w1, k1, g1, k2⟩ := hW0
  rw [g1] at e116
  have hr : (execOp a.eval o).run Tryz.prog w = .ok (.value (.slice (some ⟨w.heap.size, 0, none⟩) 1 1)) (w.alloc (.cells #[.slice (some ⟨w1.heap.size, 0, none⟩) 4 4, .bool true] 25)) := by
    generalize a.eval = ρ at e116 ⊢
    unfold execOp
    rw [hop]
    simp [e116, go_sem]
  unfold Oper.wp
  rw [hr]
  exact hK _ _ ⟨w1, w, k1, k2, rfl, rfl⟩
theorem LL24.s16 (X : LL24) (ok : LL24Ok X) {Q : Exit → Act → World → Prop} : StepG (opsOf 24 Tryz.f78) LL24.acts LL24.av X.val0 X.Wd X.a0 Q 16 := by
  intro γ listed a w o hF hC hW h1 ho h2
  obtain ⟨hd, hop, hg⟩ := fields2 (x := some 118) (y := Op.call { callee := .builtin .append, args := #[(.tmp 102), (.tmp 117)], argTypes := #[29, 29] }) (z := none) (by kernel_rfl) ho
  have e102 : a.eval (.tmp 102) = X.v := slotG hF ho h2 (j := 0) (d := 102) (by kernel_rfl) (by kernel_rfl) (by rw [ok.sz]; decide)
  have e117 : a.eval (.tmp 117) = γ 2 := slotG hF ho h2 (j := 15) (d := 117) (by kernel_rfl) (by kernel_rfl) (by rw [ok.sz]; decide)
  have hu := unl (hF.lt ho) h1
  refine st_actG (k := 3) LL24.chain LL24.nodup rfl hF hC hW h1 ho h2 (Or.inr ⟨118, hd, rfl⟩) (LL24.inj (by kernel_rfl) hu) hg ?_
  intro hW0 K hK
  obtain ⟨w1, w2, k1, k2, g2, rfl⟩ := hW0
  rw [g2] at e117
  have nn : Nw X.W w2 := Kp.nw (Kp.trans k1 (Kp.trans ((Kp.refl w1).alloc _ _) k2))
  have hu : OwnP w2 X.W.heap.size (.slice (some ⟨w1.heap.size, 0, none⟩) 4 4) [(X.ax + X.sx, X.ay + X.sy), (X.bx + X.sx, X.by_ + X.sy), (X.bx - X.sx, X.by_ - X.sy), (X.ax - X.sx, X.ay - X.sy)] := OwnP.nw (ownp4 w1 _ (Kp.size k1) _ _ _ _ _ _ _ _ ) (Kp.nw k2)
  refine wp_ln X.W w2 (.tmp 102) (.tmp 117) hop X.B X.v X.it (.slice (some ⟨w1.heap.size, 0, none⟩) 4 4) ⟨[(X.ax + X.sx, X.ay + X.sy), (X.bx + X.sx, X.by_ + X.sy), (X.bx - X.sx, X.by_ - X.sy), (X.ax - X.sx, X.ay - X.sy)], true⟩ e102 ok.ho nn ok.hB hu e117 ok.hl ?_
  intro g' c' w' h1 h2
  exact hK _ _ ⟨_, h1, h2⟩
theorem LL24.s17 (X : LL24) (ok : LL24Ok X) {Q : Exit → Act → World → Prop} : StepG (opsOf 24 Tryz.f78) LL24.acts LL24.av X.val0 X.Wd X.a0 Q 17 := by
  intro γ listed a w o hF hC hW h1 ho h2
  obtain ⟨hd, hop, hg⟩ := fields2 (x := some 10) (y := Op.assign (.tmp 118)) (z := none) (by kernel_rfl) ho
  have e118 : a.eval (.tmp 118) = γ 3 := slotG hF ho h2 (j := 16) (d := 118) (by kernel_rfl) (by kernel_rfl) (by rw [ok.sz]; decide)
  have hu := unl (hF.lt ho) h1
  refine st_actG (k := 4) LL24.chain LL24.nodup rfl hF hC hW h1 ho h2 (Or.inr ⟨10, hd, rfl⟩) (LL24.inj (by kernel_rfl) hu) hg ?_
  intro hW0 K hK
  have hr : (execOp a.eval o).run Tryz.prog w = .ok (.value (γ 3)) w := by
    generalize a.eval = ρ at e118 ⊢
    unfold execOp
    rw [hop]
    simp [e118, go_sem]
  unfold Oper.wp
  rw [hr]
  exact hK _ _ hW0
theorem LL24.size : (opsOf 24 Tryz.f78).size = 18 := by kernel_rfl
theorem LL24.steps (X : LL24) (ok : LL24Ok X) {Q : Exit → Act → World → Prop} (i : Nat) (hi : i < (opsOf 24 Tryz.f78).size) : StepG (opsOf 24 Tryz.f78) LL24.acts LL24.av X.val0 X.Wd X.a0 Q i := by
  rw [LL24.size] at hi
  have hc : i = 0 ∨ i = 1 ∨ i = 2 ∨ i = 3 ∨ i = 4 ∨ i = 5 ∨ i = 6 ∨ i = 7 ∨ i = 8 ∨ i = 9 ∨ i = 10 ∨ i = 11 ∨ i = 12 ∨ i = 13 ∨ i = 14 ∨ i = 15 ∨ i = 16 ∨ i = 17 := by omega
  rcases hc with rfl | rfl | rfl | rfl | rfl | rfl | rfl | rfl | rfl | rfl | rfl | rfl | rfl | rfl | rfl | rfl | rfl | rfl
  · exact LL24.s0 X ok
  · exact LL24.s1 X ok
  · exact LL24.s2 X ok
  · exact LL24.s3 X ok
  · exact LL24.s4 X ok
  · exact LL24.s5 X ok
  · exact LL24.s6 X ok
  · exact LL24.s7 X ok
  · exact LL24.s8 X ok
  · exact LL24.s9 X ok
  · exact LL24.s10 X ok
  · exact LL24.s11 X ok
  · exact LL24.s12 X ok
  · exact LL24.s13 X ok
  · exact LL24.s14 X ok
  · exact LL24.s15 X ok
  · exact LL24.s16 X ok
  · exact LL24.s17 X ok
theorem LL24.puts (X : LL24) (γ : Nat → Value) (a0 : Act) : putsL (valG LL24.av X.val0 γ) (opsOf 24 Tryz.f78).toList a0 = ((((((((((((((((((a0.put (some 102) (X.v)).put (some 103) (.agg #[.int .i64 (X.ax), .int .i64 (X.ay)])).put (some 104) (.agg #[.int .i64 (X.sx), .int .i64 (X.sy)])).put (some 105) (.agg #[.int .i64 (X.ax + X.sx), .int .i64 (X.ay + X.sy)])).put (some 106) (.agg #[.int .i64 (X.bx), .int .i64 (X.by_)])).put (some 107) (.agg #[.int .i64 (X.sx), .int .i64 (X.sy)])).put (some 108) (.agg #[.int .i64 (X.bx + X.sx), .int .i64 (X.by_ + X.sy)])).put (some 109) (.agg #[.int .i64 (X.bx), .int .i64 (X.by_)])).put (some 110) (.agg #[.int .i64 (X.sx), .int .i64 (X.sy)])).put (some 111) (.agg #[.int .i64 (X.bx - X.sx), .int .i64 (X.by_ - X.sy)])).put (some 112) (.agg #[.int .i64 (X.ax), .int .i64 (X.ay)])).put (some 113) (.agg #[.int .i64 (X.sx), .int .i64 (X.sy)])).put (some 114) (.agg #[.int .i64 (X.ax - X.sx), .int .i64 (X.ay - X.sy)])).put (some 115) (γ 0)).put (some 116) (γ 1)).put (some 117) (γ 2)).put (some 118) (γ 3)).put (some 10) (γ 4)) := by kernel_rfl
/-- The region, whatever order comes up. -/
theorem LL24.run (X : LL24) (ok : LL24Ok X) {Q : Exit → Act → World → Prop} (w : World) (h0 : X.Wd 0 (fun _ => undef) w.drew) (hend : ∀ (γ : Nat → Value) w', X.Wd 5 γ w' → Q .normal ((((((((((((((((((X.a0.put (some 102) (X.v)).put (some 103) (.agg #[.int .i64 (X.ax), .int .i64 (X.ay)])).put (some 104) (.agg #[.int .i64 (X.sx), .int .i64 (X.sy)])).put (some 105) (.agg #[.int .i64 (X.ax + X.sx), .int .i64 (X.ay + X.sy)])).put (some 106) (.agg #[.int .i64 (X.bx), .int .i64 (X.by_)])).put (some 107) (.agg #[.int .i64 (X.sx), .int .i64 (X.sy)])).put (some 108) (.agg #[.int .i64 (X.bx + X.sx), .int .i64 (X.by_ + X.sy)])).put (some 109) (.agg #[.int .i64 (X.bx), .int .i64 (X.by_)])).put (some 110) (.agg #[.int .i64 (X.sx), .int .i64 (X.sy)])).put (some 111) (.agg #[.int .i64 (X.bx - X.sx), .int .i64 (X.by_ - X.sy)])).put (some 112) (.agg #[.int .i64 (X.ax), .int .i64 (X.ay)])).put (some 113) (.agg #[.int .i64 (X.sx), .int .i64 (X.sy)])).put (some 114) (.agg #[.int .i64 (X.ax - X.sx), .int .i64 (X.ay - X.sy)])).put (some 115) (γ 0)).put (some 116) (γ 1)).put (some 117) (γ 2)).put (some 118) (γ 3)).put (some 10) (γ 4)) w') : (Code.region 24 (opsOf 24 Tryz.f78) true).wp Tryz.prog Q X.a0 w := by
  refine reg_act (acts := LL24.acts) (av := LL24.av) (val0 := X.val0) (Wd := X.Wd) (by kernel_rfl) (by kernel_rfl) (by rw [LL24.size]; decide) (fun i hi => LL24.steps X ok i hi) _ h0 ?_
  intro γ w' h
  rw [LL24.puts]
  exact hend γ w' h
structure LL39 where
  ax : Int
  ay : Int
  sx : Int
  sy : Int
  tx : Int
  ty : Int
  ba : Nat
  bs : Nat
  bt : Nat
  v : Value
  B : Nat
  it : Its
  W : World
  a0 : Act
structure LL39Ok (X : LL39) : Prop where
  a0_ : X.W.cell? ⟨X.ba, 0, none⟩ = some (.int .i64 (X.ax))
  a1_ : X.W.cell? ⟨X.ba, 1, none⟩ = some (.int .i64 (X.ay))
  s0_ : X.W.cell? ⟨X.bs, 0, none⟩ = some (.int .i64 (X.sx))
  s1_ : X.W.cell? ⟨X.bs, 1, none⟩ = some (.int .i64 (X.sy))
  t0_ : X.W.cell? ⟨X.bt, 0, none⟩ = some (.int .i64 (X.tx))
  t1_ : X.W.cell? ⟨X.bt, 1, none⟩ = some (.int .i64 (X.ty))
  w0 : wid (X.ax)
  w1 : wid (X.ay)
  w2 : wid (X.sx)
  w3 : wid (X.sy)
  w4 : wid (X.tx)
  w5 : wid (X.ty)
  w6 : wid (X.ax + X.sx)
  w7 : wid (X.ay + X.sy)
  w8 : wid (X.ax - X.sx)
  w9 : wid (X.ay - X.sy)
  ho : OwnLn X.W X.B X.v X.it
  hB : X.B ≤ X.W.heap.size
  hl : X.it.length + 1 ≤ 1000000
  e10 : X.a0.eval (.tmp 10) = X.v
  e17 : X.a0.eval (.tmp 17) = .pointer (some ⟨X.bs, 0, none⟩)
  e18 : X.a0.eval (.tmp 18) = .pointer (some ⟨X.bt, 0, none⟩)
  e19 : X.a0.eval (.tmp 19) = .pointer (some ⟨X.ba, 0, none⟩)
  sz : X.a0.tmps.size = 270
def LL39.val0 (X : LL39) : Nat → Value
  | 204 => X.v
  | 205 => .agg #[.int .i64 (X.ax), .int .i64 (X.ay)]
  | 206 => .agg #[.int .i64 (X.sx), .int .i64 (X.sy)]
  | 207 => .agg #[.int .i64 (X.ax + X.sx), .int .i64 (X.ay + X.sy)]
  | 208 => .agg #[.int .i64 (X.ax), .int .i64 (X.ay)]
  | 209 => .agg #[.int .i64 (X.sx), .int .i64 (X.sy)]
  | 210 => .agg #[.int .i64 (X.ax + X.sx), .int .i64 (X.ay + X.sy)]
  | 211 => .agg #[.int .i64 (X.tx), .int .i64 (X.ty)]
  | 212 => .agg #[.int .i64 (X.ax + X.sx - X.tx), .int .i64 (X.ay + X.sy - X.ty)]
  | 213 => .agg #[.int .i64 (X.ax), .int .i64 (X.ay)]
  | 214 => .agg #[.int .i64 (X.sx), .int .i64 (X.sy)]
  | 215 => .agg #[.int .i64 (X.ax - X.sx), .int .i64 (X.ay - X.sy)]
  | 216 => .agg #[.int .i64 (X.tx), .int .i64 (X.ty)]
  | 217 => .agg #[.int .i64 (X.ax - X.sx - X.tx), .int .i64 (X.ay - X.sy - X.ty)]
  | 218 => .agg #[.int .i64 (X.ax), .int .i64 (X.ay)]
  | 219 => .agg #[.int .i64 (X.sx), .int .i64 (X.sy)]
  | 220 => .agg #[.int .i64 (X.ax - X.sx), .int .i64 (X.ay - X.sy)]
  | _ => undef
def LL39.av : Nat → Option Nat
  | 221 => some 0
  | 222 => some 1
  | 223 => some 2
  | 224 => some 3
  | 10 => some 4
  | _ => none
def LL39.acts : List Nat := [17, 18, 19, 20, 21]
/-- The world, by how many of the acting ones have come up. -/
def LL39.Wd (X : LL39) : Nat → (Nat → Value) → World → Prop
  | 0, _, w => Kp X.W w
  | 1, γ, w => ∃ w1, Kp X.W w1 ∧ γ 0 = .slice (some ⟨w1.heap.size, 0, none⟩) 4 4 ∧ w = (w1.alloc (.cells #[.int .i64 (X.ax + X.sx), .int .i64 (X.ay + X.sy), .int .i64 (X.ax + X.sx - X.tx), .int .i64 (X.ay + X.sy - X.ty), .int .i64 (X.ax - X.sx - X.tx), .int .i64 (X.ay - X.sy - X.ty), .int .i64 (X.ax - X.sx), .int .i64 (X.ay - X.sy)] 34))
  | 2, γ, w => ∃ w1, Kp X.W w1 ∧ γ 1 = .agg #[.slice (some ⟨w1.heap.size, 0, none⟩) 4 4, .bool true] ∧ Kp (w1.alloc (.cells #[.int .i64 (X.ax + X.sx), .int .i64 (X.ay + X.sy), .int .i64 (X.ax + X.sx - X.tx), .int .i64 (X.ay + X.sy - X.ty), .int .i64 (X.ax - X.sx - X.tx), .int .i64 (X.ay - X.sy - X.ty), .int .i64 (X.ax - X.sx), .int .i64 (X.ay - X.sy)] 34)) w
  | 3, γ, w => ∃ w1 w2, Kp X.W w1 ∧ Kp (w1.alloc (.cells #[.int .i64 (X.ax + X.sx), .int .i64 (X.ay + X.sy), .int .i64 (X.ax + X.sx - X.tx), .int .i64 (X.ay + X.sy - X.ty), .int .i64 (X.ax - X.sx - X.tx), .int .i64 (X.ay - X.sy - X.ty), .int .i64 (X.ax - X.sx), .int .i64 (X.ay - X.sy)] 34)) w2 ∧ γ 2 = .slice (some ⟨w2.heap.size, 0, none⟩) 1 1 ∧ w = w2.alloc (.cells #[.slice (some ⟨w1.heap.size, 0, none⟩) 4 4, .bool true] 25)
  | 4, γ, w => ∃ u, OwnLn w X.B (γ 3) (X.it ++ [(u, ⟨[(X.ax + X.sx, X.ay + X.sy), (X.ax + X.sx - X.tx, X.ay + X.sy - X.ty), (X.ax - X.sx - X.tx, X.ay - X.sy - X.ty), (X.ax - X.sx, X.ay - X.sy)], true⟩)]) ∧ Below X.B X.W w ∧ Ext X.v (γ 3) X.W w ∧ ∀ c, u.ownBlock = some c → X.W.heap.size ≤ c
  | _, γ, w => ∃ u, OwnLn w X.B (γ 4) (X.it ++ [(u, ⟨[(X.ax + X.sx, X.ay + X.sy), (X.ax + X.sx - X.tx, X.ay + X.sy - X.ty), (X.ax - X.sx - X.tx, X.ay - X.sy - X.ty), (X.ax - X.sx, X.ay - X.sy)], true⟩)]) ∧ Below X.B X.W w ∧ Ext X.v (γ 4) X.W w ∧ ∀ c, u.ownBlock = some c → X.W.heap.size ≤ c
theorem LL39.chain : chainG (opsOf 39 Tryz.f78) LL39.acts = true := by kernel_rfl
theorem LL39.nodup : LL39.acts.Nodup := by decide
theorem LL39.inj {listed : Array Bool} {i k : Nat} (h : (List.range (opsOf 39 Tryz.f78).size).all (fun j => decide (j = i) || !(match dstOf (opsOf 39 Tryz.f78) j with | some d => decide (LL39.av d = some k) | none => false)) = true) (hu : listed.getD i false = false) : ∀ d, got (opsOf 39 Tryz.f78) listed d → LL39.av d ≠ some k := by
  rintro d ⟨j, h1, h2⟩ h3
  have hlt : j < (opsOf 39 Tryz.f78).size := by
    rcases Nat.lt_or_ge j (opsOf 39 Tryz.f78).size with h4 | h4
    · exact h4
    · unfold dstOf at h2; rw [Array.getElem?_eq_none h4] at h2; cases h2
  have h5 := List.all_eq_true.1 h j (List.mem_range.2 hlt)
  rw [h2] at h5
  simp only [h3, decide_true, Bool.not_true, Bool.or_false, decide_eq_true_eq] at h5
  subst h5
  rw [hu] at h1
  cases h1
theorem LL39.s0 (X : LL39) (ok : LL39Ok X) {Q : Exit → Act → World → Prop} : StepG (opsOf 39 Tryz.f78) LL39.acts LL39.av X.val0 X.Wd X.a0 Q 0 := by
  intro γ listed a w o hF hC hW h1 ho h2
  obtain ⟨hd, hop, hg⟩ := fields2 (x := some 204) (y := Op.move (.tmp 10)) (z := none) (by kernel_rfl) ho
  have e10 : a.eval (.tmp 10) = X.v := (hF.no 10 (early_of hC (unl (hF.lt ho) h1) (j := 21) (by kernel_rfl) [20, 0] (by kernel_rfl) (by decide))).trans ok.e10
  refine st_pureG hF hC hW ho h2 (by decide) hd hg rfl ?_
  show _ = Result.ok (Next.value (X.v)) w
  generalize a.eval = ρ at e10 ⊢
  unfold execOp
  rw [hop]
  simp [e10, go_sem]
theorem LL39.s1 (X : LL39) (ok : LL39Ok X) {Q : Exit → Act → World → Prop} : StepG (opsOf 39 Tryz.f78) LL39.acts LL39.av X.val0 X.Wd X.a0 Q 1 := by
  intro γ listed a w o hF hC hW h1 ho h2
  obtain ⟨hd, hop, hg⟩ := fields2 (x := some 205) (y := Op.load 34 (.tmp 19)) (z := none) (by kernel_rfl) ho
  have e19 : a.eval (.tmp 19) = .pointer (some ⟨X.ba, 0, none⟩) := (hF.eval0 (by kernel_rfl)).trans ok.e19
  have hph := phase_leG (acts := LL39.acts) (m := 0) (x := 17) hC (unl (hF.lt ho) h1) rfl [3, 1] (by kernel_rfl) (by decide)
  have hWW := hW
  generalize phase listed LL39.acts = n at hph hWW
  have hk : Kp X.W w := by
    obtain rfl : n = 0 := by omega
    exact hWW
  have hc0 := rq_at hk ok.a0_
  have hc1 := rq_at hk ok.a1_
  refine st_pureG hF hC hW ho h2 (by decide) hd hg rfl ?_
  show _ = Result.ok (Next.value (.agg #[.int .i64 (X.ax), .int .i64 (X.ay)])) w
  generalize a.eval = ρ at e19 ⊢
  unfold execOp
  rw [hop]
  simp [e19, hc0, hc1, go_sem]
theorem LL39.s2 (X : LL39) (ok : LL39Ok X) {Q : Exit → Act → World → Prop} : StepG (opsOf 39 Tryz.f78) LL39.acts LL39.av X.val0 X.Wd X.a0 Q 2 := by
  intro γ listed a w o hF hC hW h1 ho h2
  obtain ⟨hd, hop, hg⟩ := fields2 (x := some 206) (y := Op.load 34 (.tmp 17)) (z := none) (by kernel_rfl) ho
  have e17 : a.eval (.tmp 17) = .pointer (some ⟨X.bs, 0, none⟩) := (hF.eval0 (by kernel_rfl)).trans ok.e17
  have hph := phase_leG (acts := LL39.acts) (m := 0) (x := 17) hC (unl (hF.lt ho) h1) rfl [3, 2] (by kernel_rfl) (by decide)
  have hWW := hW
  generalize phase listed LL39.acts = n at hph hWW
  have hk : Kp X.W w := by
    obtain rfl : n = 0 := by omega
    exact hWW
  have hc0 := rq_at hk ok.s0_
  have hc1 := rq_at hk ok.s1_
  refine st_pureG hF hC hW ho h2 (by decide) hd hg rfl ?_
  show _ = Result.ok (Next.value (.agg #[.int .i64 (X.sx), .int .i64 (X.sy)])) w
  generalize a.eval = ρ at e17 ⊢
  unfold execOp
  rw [hop]
  simp [e17, hc0, hc1, go_sem]
theorem LL39.s3 (X : LL39) (ok : LL39Ok X) {Q : Exit → Act → World → Prop} : StepG (opsOf 39 Tryz.f78) LL39.acts LL39.av X.val0 X.Wd X.a0 Q 3 := by
  intro γ listed a w o hF hC hW h1 ho h2
  obtain ⟨hd, hop, hg⟩ := fields2 (x := some 207) (y := Op.call { callee := .value (.func 98), args := #[(.tmp 205), (.tmp 206)], argTypes := #[34, 34] }) (z := none) (by kernel_rfl) ho
  have e205 : a.eval (.tmp 205) = .agg #[.int .i64 (X.ax), .int .i64 (X.ay)] := slotG hF ho h2 (j := 1) (d := 205) (by kernel_rfl) (by kernel_rfl) (by rw [ok.sz]; decide)
  have e206 : a.eval (.tmp 206) = .agg #[.int .i64 (X.sx), .int .i64 (X.sy)] := slotG hF ho h2 (j := 2) (d := 206) (by kernel_rfl) (by kernel_rfl) (by rw [ok.sz]; decide)
  have ef : a.eval (.func 98) = .func (.func 98) #[] #[] := rfl
  have hph := phase_leG (acts := LL39.acts) (m := 0) (x := 17) hC (unl (hF.lt ho) h1) rfl [3] (by kernel_rfl) (by decide)
  have hWW := hW
  generalize phase listed LL39.acts = n at hph hWW
  refine st_callG hF hC hW ho h2 (by decide) hd hg rfl (f := 98) (args := #[.agg #[.int .i64 (X.ax), .int .i64 (X.ay)], .agg #[.int .i64 (X.sx), .int .i64 (X.sy)]]) ?_ ?_ ?_
  · generalize a.eval = ρ at e205 e206 ef ⊢
    unfold execOp
    rw [hop]
    simp [e205, e206, ef, go_sem]
  · exact splus w _ _ _ _ ok.w0 ok.w1 ok.w2 ok.w3
  · intro w' hk
    have hz : phase listed LL39.acts = 0 := by
      have := phase_leG (acts := LL39.acts) (m := 0) (x := 17) hC (unl (hF.lt ho) h1) rfl [3] (by kernel_rfl) (by decide)
      omega
    rw [hz] at hW ⊢
    exact Kp.trans hW hk
theorem LL39.s4 (X : LL39) (ok : LL39Ok X) {Q : Exit → Act → World → Prop} : StepG (opsOf 39 Tryz.f78) LL39.acts LL39.av X.val0 X.Wd X.a0 Q 4 := by
  intro γ listed a w o hF hC hW h1 ho h2
  obtain ⟨hd, hop, hg⟩ := fields2 (x := some 208) (y := Op.load 34 (.tmp 19)) (z := none) (by kernel_rfl) ho
  have e19 : a.eval (.tmp 19) = .pointer (some ⟨X.ba, 0, none⟩) := (hF.eval0 (by kernel_rfl)).trans ok.e19
  have hph := phase_leG (acts := LL39.acts) (m := 0) (x := 17) hC (unl (hF.lt ho) h1) rfl [8, 6, 4] (by kernel_rfl) (by decide)
  have hWW := hW
  generalize phase listed LL39.acts = n at hph hWW
  have hk : Kp X.W w := by
    obtain rfl : n = 0 := by omega
    exact hWW
  have hc0 := rq_at hk ok.a0_
  have hc1 := rq_at hk ok.a1_
  refine st_pureG hF hC hW ho h2 (by decide) hd hg rfl ?_
  show _ = Result.ok (Next.value (.agg #[.int .i64 (X.ax), .int .i64 (X.ay)])) w
  generalize a.eval = ρ at e19 ⊢
  unfold execOp
  rw [hop]
  simp [e19, hc0, hc1, go_sem]
theorem LL39.s5 (X : LL39) (ok : LL39Ok X) {Q : Exit → Act → World → Prop} : StepG (opsOf 39 Tryz.f78) LL39.acts LL39.av X.val0 X.Wd X.a0 Q 5 := by
  intro γ listed a w o hF hC hW h1 ho h2
  obtain ⟨hd, hop, hg⟩ := fields2 (x := some 209) (y := Op.load 34 (.tmp 17)) (z := none) (by kernel_rfl) ho
  have e17 : a.eval (.tmp 17) = .pointer (some ⟨X.bs, 0, none⟩) := (hF.eval0 (by kernel_rfl)).trans ok.e17
  have hph := phase_leG (acts := LL39.acts) (m := 0) (x := 17) hC (unl (hF.lt ho) h1) rfl [8, 6, 5] (by kernel_rfl) (by decide)
  have hWW := hW
  generalize phase listed LL39.acts = n at hph hWW
  have hk : Kp X.W w := by
    obtain rfl : n = 0 := by omega
    exact hWW
  have hc0 := rq_at hk ok.s0_
  have hc1 := rq_at hk ok.s1_
  refine st_pureG hF hC hW ho h2 (by decide) hd hg rfl ?_
  show _ = Result.ok (Next.value (.agg #[.int .i64 (X.sx), .int .i64 (X.sy)])) w
  generalize a.eval = ρ at e17 ⊢
  unfold execOp
  rw [hop]
  simp [e17, hc0, hc1, go_sem]
theorem LL39.s6 (X : LL39) (ok : LL39Ok X) {Q : Exit → Act → World → Prop} : StepG (opsOf 39 Tryz.f78) LL39.acts LL39.av X.val0 X.Wd X.a0 Q 6 := by
  intro γ listed a w o hF hC hW h1 ho h2
  obtain ⟨hd, hop, hg⟩ := fields2 (x := some 210) (y := Op.call { callee := .value (.func 98), args := #[(.tmp 208), (.tmp 209)], argTypes := #[34, 34] }) (z := none) (by kernel_rfl) ho
  have e208 : a.eval (.tmp 208) = .agg #[.int .i64 (X.ax), .int .i64 (X.ay)] := slotG hF ho h2 (j := 4) (d := 208) (by kernel_rfl) (by kernel_rfl) (by rw [ok.sz]; decide)
  have e209 : a.eval (.tmp 209) = .agg #[.int .i64 (X.sx), .int .i64 (X.sy)] := slotG hF ho h2 (j := 5) (d := 209) (by kernel_rfl) (by kernel_rfl) (by rw [ok.sz]; decide)
  have ef : a.eval (.func 98) = .func (.func 98) #[] #[] := rfl
  have hph := phase_leG (acts := LL39.acts) (m := 0) (x := 17) hC (unl (hF.lt ho) h1) rfl [8, 6] (by kernel_rfl) (by decide)
  have hWW := hW
  generalize phase listed LL39.acts = n at hph hWW
  refine st_callG hF hC hW ho h2 (by decide) hd hg rfl (f := 98) (args := #[.agg #[.int .i64 (X.ax), .int .i64 (X.ay)], .agg #[.int .i64 (X.sx), .int .i64 (X.sy)]]) ?_ ?_ ?_
  · generalize a.eval = ρ at e208 e209 ef ⊢
    unfold execOp
    rw [hop]
    simp [e208, e209, ef, go_sem]
  · exact splus w _ _ _ _ ok.w0 ok.w1 ok.w2 ok.w3
  · intro w' hk
    have hz : phase listed LL39.acts = 0 := by
      have := phase_leG (acts := LL39.acts) (m := 0) (x := 17) hC (unl (hF.lt ho) h1) rfl [8, 6] (by kernel_rfl) (by decide)
      omega
    rw [hz] at hW ⊢
    exact Kp.trans hW hk
theorem LL39.s7 (X : LL39) (ok : LL39Ok X) {Q : Exit → Act → World → Prop} : StepG (opsOf 39 Tryz.f78) LL39.acts LL39.av X.val0 X.Wd X.a0 Q 7 := by
  intro γ listed a w o hF hC hW h1 ho h2
  obtain ⟨hd, hop, hg⟩ := fields2 (x := some 211) (y := Op.load 34 (.tmp 18)) (z := none) (by kernel_rfl) ho
  have e18 : a.eval (.tmp 18) = .pointer (some ⟨X.bt, 0, none⟩) := (hF.eval0 (by kernel_rfl)).trans ok.e18
  have hph := phase_leG (acts := LL39.acts) (m := 0) (x := 17) hC (unl (hF.lt ho) h1) rfl [8, 7] (by kernel_rfl) (by decide)
  have hWW := hW
  generalize phase listed LL39.acts = n at hph hWW
  have hk : Kp X.W w := by
    obtain rfl : n = 0 := by omega
    exact hWW
  have hc0 := rq_at hk ok.t0_
  have hc1 := rq_at hk ok.t1_
  refine st_pureG hF hC hW ho h2 (by decide) hd hg rfl ?_
  show _ = Result.ok (Next.value (.agg #[.int .i64 (X.tx), .int .i64 (X.ty)])) w
  generalize a.eval = ρ at e18 ⊢
  unfold execOp
  rw [hop]
  simp [e18, hc0, hc1, go_sem]
theorem LL39.s8 (X : LL39) (ok : LL39Ok X) {Q : Exit → Act → World → Prop} : StepG (opsOf 39 Tryz.f78) LL39.acts LL39.av X.val0 X.Wd X.a0 Q 8 := by
  intro γ listed a w o hF hC hW h1 ho h2
  obtain ⟨hd, hop, hg⟩ := fields2 (x := some 212) (y := Op.call { callee := .value (.func 99), args := #[(.tmp 210), (.tmp 211)], argTypes := #[34, 34] }) (z := none) (by kernel_rfl) ho
  have e210 : a.eval (.tmp 210) = .agg #[.int .i64 (X.ax + X.sx), .int .i64 (X.ay + X.sy)] := slotG hF ho h2 (j := 6) (d := 210) (by kernel_rfl) (by kernel_rfl) (by rw [ok.sz]; decide)
  have e211 : a.eval (.tmp 211) = .agg #[.int .i64 (X.tx), .int .i64 (X.ty)] := slotG hF ho h2 (j := 7) (d := 211) (by kernel_rfl) (by kernel_rfl) (by rw [ok.sz]; decide)
  have ef : a.eval (.func 99) = .func (.func 99) #[] #[] := rfl
  have hph := phase_leG (acts := LL39.acts) (m := 0) (x := 17) hC (unl (hF.lt ho) h1) rfl [8] (by kernel_rfl) (by decide)
  have hWW := hW
  generalize phase listed LL39.acts = n at hph hWW
  refine st_callG hF hC hW ho h2 (by decide) hd hg rfl (f := 99) (args := #[.agg #[.int .i64 (X.ax + X.sx), .int .i64 (X.ay + X.sy)], .agg #[.int .i64 (X.tx), .int .i64 (X.ty)]]) ?_ ?_ ?_
  · generalize a.eval = ρ at e210 e211 ef ⊢
    unfold execOp
    rw [hop]
    simp [e210, e211, ef, go_sem]
  · exact sless w _ _ _ _ ok.w6 ok.w7 ok.w4 ok.w5
  · intro w' hk
    have hz : phase listed LL39.acts = 0 := by
      have := phase_leG (acts := LL39.acts) (m := 0) (x := 17) hC (unl (hF.lt ho) h1) rfl [8] (by kernel_rfl) (by decide)
      omega
    rw [hz] at hW ⊢
    exact Kp.trans hW hk
theorem LL39.s9 (X : LL39) (ok : LL39Ok X) {Q : Exit → Act → World → Prop} : StepG (opsOf 39 Tryz.f78) LL39.acts LL39.av X.val0 X.Wd X.a0 Q 9 := by
  intro γ listed a w o hF hC hW h1 ho h2
  obtain ⟨hd, hop, hg⟩ := fields2 (x := some 213) (y := Op.load 34 (.tmp 19)) (z := none) (by kernel_rfl) ho
  have e19 : a.eval (.tmp 19) = .pointer (some ⟨X.ba, 0, none⟩) := (hF.eval0 (by kernel_rfl)).trans ok.e19
  have hph := phase_leG (acts := LL39.acts) (m := 0) (x := 17) hC (unl (hF.lt ho) h1) rfl [13, 11, 9] (by kernel_rfl) (by decide)
  have hWW := hW
  generalize phase listed LL39.acts = n at hph hWW
  have hk : Kp X.W w := by
    obtain rfl : n = 0 := by omega
    exact hWW
  have hc0 := rq_at hk ok.a0_
  have hc1 := rq_at hk ok.a1_
  refine st_pureG hF hC hW ho h2 (by decide) hd hg rfl ?_
  show _ = Result.ok (Next.value (.agg #[.int .i64 (X.ax), .int .i64 (X.ay)])) w
  generalize a.eval = ρ at e19 ⊢
  unfold execOp
  rw [hop]
  simp [e19, hc0, hc1, go_sem]
theorem LL39.s10 (X : LL39) (ok : LL39Ok X) {Q : Exit → Act → World → Prop} : StepG (opsOf 39 Tryz.f78) LL39.acts LL39.av X.val0 X.Wd X.a0 Q 10 := by
  intro γ listed a w o hF hC hW h1 ho h2
  obtain ⟨hd, hop, hg⟩ := fields2 (x := some 214) (y := Op.load 34 (.tmp 17)) (z := none) (by kernel_rfl) ho
  have e17 : a.eval (.tmp 17) = .pointer (some ⟨X.bs, 0, none⟩) := (hF.eval0 (by kernel_rfl)).trans ok.e17
  have hph := phase_leG (acts := LL39.acts) (m := 0) (x := 17) hC (unl (hF.lt ho) h1) rfl [13, 11, 10] (by kernel_rfl) (by decide)
  have hWW := hW
  generalize phase listed LL39.acts = n at hph hWW
  have hk : Kp X.W w := by
    obtain rfl : n = 0 := by omega
    exact hWW
  have hc0 := rq_at hk ok.s0_
  have hc1 := rq_at hk ok.s1_
  refine st_pureG hF hC hW ho h2 (by decide) hd hg rfl ?_
  show _ = Result.ok (Next.value (.agg #[.int .i64 (X.sx), .int .i64 (X.sy)])) w
  generalize a.eval = ρ at e17 ⊢
  unfold execOp
  rw [hop]
  simp [e17, hc0, hc1, go_sem]
theorem LL39.s11 (X : LL39) (ok : LL39Ok X) {Q : Exit → Act → World → Prop} : StepG (opsOf 39 Tryz.f78) LL39.acts LL39.av X.val0 X.Wd X.a0 Q 11 := by
  intro γ listed a w o hF hC hW h1 ho h2
  obtain ⟨hd, hop, hg⟩ := fields2 (x := some 215) (y := Op.call { callee := .value (.func 99), args := #[(.tmp 213), (.tmp 214)], argTypes := #[34, 34] }) (z := none) (by kernel_rfl) ho
  have e213 : a.eval (.tmp 213) = .agg #[.int .i64 (X.ax), .int .i64 (X.ay)] := slotG hF ho h2 (j := 9) (d := 213) (by kernel_rfl) (by kernel_rfl) (by rw [ok.sz]; decide)
  have e214 : a.eval (.tmp 214) = .agg #[.int .i64 (X.sx), .int .i64 (X.sy)] := slotG hF ho h2 (j := 10) (d := 214) (by kernel_rfl) (by kernel_rfl) (by rw [ok.sz]; decide)
  have ef : a.eval (.func 99) = .func (.func 99) #[] #[] := rfl
  have hph := phase_leG (acts := LL39.acts) (m := 0) (x := 17) hC (unl (hF.lt ho) h1) rfl [13, 11] (by kernel_rfl) (by decide)
  have hWW := hW
  generalize phase listed LL39.acts = n at hph hWW
  refine st_callG hF hC hW ho h2 (by decide) hd hg rfl (f := 99) (args := #[.agg #[.int .i64 (X.ax), .int .i64 (X.ay)], .agg #[.int .i64 (X.sx), .int .i64 (X.sy)]]) ?_ ?_ ?_
  · generalize a.eval = ρ at e213 e214 ef ⊢
    unfold execOp
    rw [hop]
    simp [e213, e214, ef, go_sem]
  · exact sless w _ _ _ _ ok.w0 ok.w1 ok.w2 ok.w3
  · intro w' hk
    have hz : phase listed LL39.acts = 0 := by
      have := phase_leG (acts := LL39.acts) (m := 0) (x := 17) hC (unl (hF.lt ho) h1) rfl [13, 11] (by kernel_rfl) (by decide)
      omega
    rw [hz] at hW ⊢
    exact Kp.trans hW hk
theorem LL39.s12 (X : LL39) (ok : LL39Ok X) {Q : Exit → Act → World → Prop} : StepG (opsOf 39 Tryz.f78) LL39.acts LL39.av X.val0 X.Wd X.a0 Q 12 := by
  intro γ listed a w o hF hC hW h1 ho h2
  obtain ⟨hd, hop, hg⟩ := fields2 (x := some 216) (y := Op.load 34 (.tmp 18)) (z := none) (by kernel_rfl) ho
  have e18 : a.eval (.tmp 18) = .pointer (some ⟨X.bt, 0, none⟩) := (hF.eval0 (by kernel_rfl)).trans ok.e18
  have hph := phase_leG (acts := LL39.acts) (m := 0) (x := 17) hC (unl (hF.lt ho) h1) rfl [13, 12] (by kernel_rfl) (by decide)
  have hWW := hW
  generalize phase listed LL39.acts = n at hph hWW
  have hk : Kp X.W w := by
    obtain rfl : n = 0 := by omega
    exact hWW
  have hc0 := rq_at hk ok.t0_
  have hc1 := rq_at hk ok.t1_
  refine st_pureG hF hC hW ho h2 (by decide) hd hg rfl ?_
  show _ = Result.ok (Next.value (.agg #[.int .i64 (X.tx), .int .i64 (X.ty)])) w
  generalize a.eval = ρ at e18 ⊢
  unfold execOp
  rw [hop]
  simp [e18, hc0, hc1, go_sem]
theorem LL39.s13 (X : LL39) (ok : LL39Ok X) {Q : Exit → Act → World → Prop} : StepG (opsOf 39 Tryz.f78) LL39.acts LL39.av X.val0 X.Wd X.a0 Q 13 := by
  intro γ listed a w o hF hC hW h1 ho h2
  obtain ⟨hd, hop, hg⟩ := fields2 (x := some 217) (y := Op.call { callee := .value (.func 99), args := #[(.tmp 215), (.tmp 216)], argTypes := #[34, 34] }) (z := none) (by kernel_rfl) ho
  have e215 : a.eval (.tmp 215) = .agg #[.int .i64 (X.ax - X.sx), .int .i64 (X.ay - X.sy)] := slotG hF ho h2 (j := 11) (d := 215) (by kernel_rfl) (by kernel_rfl) (by rw [ok.sz]; decide)
  have e216 : a.eval (.tmp 216) = .agg #[.int .i64 (X.tx), .int .i64 (X.ty)] := slotG hF ho h2 (j := 12) (d := 216) (by kernel_rfl) (by kernel_rfl) (by rw [ok.sz]; decide)
  have ef : a.eval (.func 99) = .func (.func 99) #[] #[] := rfl
  have hph := phase_leG (acts := LL39.acts) (m := 0) (x := 17) hC (unl (hF.lt ho) h1) rfl [13] (by kernel_rfl) (by decide)
  have hWW := hW
  generalize phase listed LL39.acts = n at hph hWW
  refine st_callG hF hC hW ho h2 (by decide) hd hg rfl (f := 99) (args := #[.agg #[.int .i64 (X.ax - X.sx), .int .i64 (X.ay - X.sy)], .agg #[.int .i64 (X.tx), .int .i64 (X.ty)]]) ?_ ?_ ?_
  · generalize a.eval = ρ at e215 e216 ef ⊢
    unfold execOp
    rw [hop]
    simp [e215, e216, ef, go_sem]
  · exact sless w _ _ _ _ ok.w8 ok.w9 ok.w4 ok.w5
  · intro w' hk
    have hz : phase listed LL39.acts = 0 := by
      have := phase_leG (acts := LL39.acts) (m := 0) (x := 17) hC (unl (hF.lt ho) h1) rfl [13] (by kernel_rfl) (by decide)
      omega
    rw [hz] at hW ⊢
    exact Kp.trans hW hk
theorem LL39.s14 (X : LL39) (ok : LL39Ok X) {Q : Exit → Act → World → Prop} : StepG (opsOf 39 Tryz.f78) LL39.acts LL39.av X.val0 X.Wd X.a0 Q 14 := by
  intro γ listed a w o hF hC hW h1 ho h2
  obtain ⟨hd, hop, hg⟩ := fields2 (x := some 218) (y := Op.load 34 (.tmp 19)) (z := none) (by kernel_rfl) ho
  have e19 : a.eval (.tmp 19) = .pointer (some ⟨X.ba, 0, none⟩) := (hF.eval0 (by kernel_rfl)).trans ok.e19
  have hph := phase_leG (acts := LL39.acts) (m := 0) (x := 17) hC (unl (hF.lt ho) h1) rfl [16, 14] (by kernel_rfl) (by decide)
  have hWW := hW
  generalize phase listed LL39.acts = n at hph hWW
  have hk : Kp X.W w := by
    obtain rfl : n = 0 := by omega
    exact hWW
  have hc0 := rq_at hk ok.a0_
  have hc1 := rq_at hk ok.a1_
  refine st_pureG hF hC hW ho h2 (by decide) hd hg rfl ?_
  show _ = Result.ok (Next.value (.agg #[.int .i64 (X.ax), .int .i64 (X.ay)])) w
  generalize a.eval = ρ at e19 ⊢
  unfold execOp
  rw [hop]
  simp [e19, hc0, hc1, go_sem]
theorem LL39.s15 (X : LL39) (ok : LL39Ok X) {Q : Exit → Act → World → Prop} : StepG (opsOf 39 Tryz.f78) LL39.acts LL39.av X.val0 X.Wd X.a0 Q 15 := by
  intro γ listed a w o hF hC hW h1 ho h2
  obtain ⟨hd, hop, hg⟩ := fields2 (x := some 219) (y := Op.load 34 (.tmp 17)) (z := none) (by kernel_rfl) ho
  have e17 : a.eval (.tmp 17) = .pointer (some ⟨X.bs, 0, none⟩) := (hF.eval0 (by kernel_rfl)).trans ok.e17
  have hph := phase_leG (acts := LL39.acts) (m := 0) (x := 17) hC (unl (hF.lt ho) h1) rfl [16, 15] (by kernel_rfl) (by decide)
  have hWW := hW
  generalize phase listed LL39.acts = n at hph hWW
  have hk : Kp X.W w := by
    obtain rfl : n = 0 := by omega
    exact hWW
  have hc0 := rq_at hk ok.s0_
  have hc1 := rq_at hk ok.s1_
  refine st_pureG hF hC hW ho h2 (by decide) hd hg rfl ?_
  show _ = Result.ok (Next.value (.agg #[.int .i64 (X.sx), .int .i64 (X.sy)])) w
  generalize a.eval = ρ at e17 ⊢
  unfold execOp
  rw [hop]
  simp [e17, hc0, hc1, go_sem]
theorem LL39.s16 (X : LL39) (ok : LL39Ok X) {Q : Exit → Act → World → Prop} : StepG (opsOf 39 Tryz.f78) LL39.acts LL39.av X.val0 X.Wd X.a0 Q 16 := by
  intro γ listed a w o hF hC hW h1 ho h2
  obtain ⟨hd, hop, hg⟩ := fields2 (x := some 220) (y := Op.call { callee := .value (.func 99), args := #[(.tmp 218), (.tmp 219)], argTypes := #[34, 34] }) (z := none) (by kernel_rfl) ho
  have e218 : a.eval (.tmp 218) = .agg #[.int .i64 (X.ax), .int .i64 (X.ay)] := slotG hF ho h2 (j := 14) (d := 218) (by kernel_rfl) (by kernel_rfl) (by rw [ok.sz]; decide)
  have e219 : a.eval (.tmp 219) = .agg #[.int .i64 (X.sx), .int .i64 (X.sy)] := slotG hF ho h2 (j := 15) (d := 219) (by kernel_rfl) (by kernel_rfl) (by rw [ok.sz]; decide)
  have ef : a.eval (.func 99) = .func (.func 99) #[] #[] := rfl
  have hph := phase_leG (acts := LL39.acts) (m := 0) (x := 17) hC (unl (hF.lt ho) h1) rfl [16] (by kernel_rfl) (by decide)
  have hWW := hW
  generalize phase listed LL39.acts = n at hph hWW
  refine st_callG hF hC hW ho h2 (by decide) hd hg rfl (f := 99) (args := #[.agg #[.int .i64 (X.ax), .int .i64 (X.ay)], .agg #[.int .i64 (X.sx), .int .i64 (X.sy)]]) ?_ ?_ ?_
  · generalize a.eval = ρ at e218 e219 ef ⊢
    unfold execOp
    rw [hop]
    simp [e218, e219, ef, go_sem]
  · exact sless w _ _ _ _ ok.w0 ok.w1 ok.w2 ok.w3
  · intro w' hk
    have hz : phase listed LL39.acts = 0 := by
      have := phase_leG (acts := LL39.acts) (m := 0) (x := 17) hC (unl (hF.lt ho) h1) rfl [16] (by kernel_rfl) (by decide)
      omega
    rw [hz] at hW ⊢
    exact Kp.trans hW hk
theorem LL39.s17 (X : LL39) (ok : LL39Ok X) {Q : Exit → Act → World → Prop} : StepG (opsOf 39 Tryz.f78) LL39.acts LL39.av X.val0 X.Wd X.a0 Q 17 := by
  intro γ listed a w o hF hC hW h1 ho h2
  obtain ⟨hd, hop, hg⟩ := fields2 (x := some 221) (y := Op.buildSlice 23 4 #[(0, (.tmp 207)), (1, (.tmp 212)), (2, (.tmp 217)), (3, (.tmp 220))]) (z := none) (by kernel_rfl) ho
  have e207 : a.eval (.tmp 207) = .agg #[.int .i64 (X.ax + X.sx), .int .i64 (X.ay + X.sy)] := slotG hF ho h2 (j := 3) (d := 207) (by kernel_rfl) (by kernel_rfl) (by rw [ok.sz]; decide)
  have e212 : a.eval (.tmp 212) = .agg #[.int .i64 (X.ax + X.sx - X.tx), .int .i64 (X.ay + X.sy - X.ty)] := slotG hF ho h2 (j := 8) (d := 212) (by kernel_rfl) (by kernel_rfl) (by rw [ok.sz]; decide)
  have e217 : a.eval (.tmp 217) = .agg #[.int .i64 (X.ax - X.sx - X.tx), .int .i64 (X.ay - X.sy - X.ty)] := slotG hF ho h2 (j := 13) (d := 217) (by kernel_rfl) (by kernel_rfl) (by rw [ok.sz]; decide)
  have e220 : a.eval (.tmp 220) = .agg #[.int .i64 (X.ax - X.sx), .int .i64 (X.ay - X.sy)] := slotG hF ho h2 (j := 16) (d := 220) (by kernel_rfl) (by kernel_rfl) (by rw [ok.sz]; decide)
  have hu := unl (hF.lt ho) h1
  refine st_actG (k := 0) LL39.chain LL39.nodup rfl hF hC hW h1 ho h2 (Or.inr ⟨221, hd, rfl⟩) (LL39.inj (by kernel_rfl) hu) hg ?_
  intro hW0 K hK
  have hr : (execOp a.eval o).run Tryz.prog w = .ok (.value (.slice (some ⟨w.heap.size, 0, none⟩) 4 4)) (w.alloc (.cells #[.int .i64 (X.ax + X.sx), .int .i64 (X.ay + X.sy), .int .i64 (X.ax + X.sx - X.tx), .int .i64 (X.ay + X.sy - X.ty), .int .i64 (X.ax - X.sx - X.tx), .int .i64 (X.ay - X.sy - X.ty), .int .i64 (X.ax - X.sx), .int .i64 (X.ay - X.sy)] 34)) := by
    generalize a.eval = ρ at e207 e212 e217 e220 ⊢
    unfold execOp
    rw [hop]
    simp [e207, e212, e217, e220, go_sem]
  unfold Oper.wp
  rw [hr]
  exact hK _ _ ⟨w, hW0, rfl, rfl⟩
theorem LL39.s18 (X : LL39) (ok : LL39Ok X) {Q : Exit → Act → World → Prop} : StepG (opsOf 39 Tryz.f78) LL39.acts LL39.av X.val0 X.Wd X.a0 Q 18 := by
  intro γ listed a w o hF hC hW h1 ho h2
  obtain ⟨hd, hop, hg⟩ := fields2 (x := some 222) (y := Op.call { callee := .value (.func 97), args := #[(.tmp 221)], argTypes := #[23] }) (z := none) (by kernel_rfl) ho
  have e221 : a.eval (.tmp 221) = γ 0 := slotG hF ho h2 (j := 17) (d := 221) (by kernel_rfl) (by kernel_rfl) (by rw [ok.sz]; decide)
  have ef : a.eval (.func 97) = .func (.func 97) #[] #[] := rfl
  have hu := unl (hF.lt ho) h1
  refine st_actG (k := 1) LL39.chain LL39.nodup rfl hF hC hW h1 ho h2 (Or.inr ⟨222, hd, rfl⟩) (LL39.inj (by kernel_rfl) hu) hg ?_
  intro hW0 K hK
  obtain ⟨w1, k1, g0, rfl⟩ := hW0
  rw [g0] at e221
  have hr : (execOp a.eval o).run Tryz.prog (w1.alloc (.cells #[.int .i64 (X.ax + X.sx), .int .i64 (X.ay + X.sy), .int .i64 (X.ax + X.sx - X.tx), .int .i64 (X.ay + X.sy - X.ty), .int .i64 (X.ax - X.sx - X.tx), .int .i64 (X.ay - X.sy - X.ty), .int .i64 (X.ax - X.sx), .int .i64 (X.ay - X.sy)] 34)) = .ok (.enter 97 #[.slice (some ⟨w1.heap.size, 0, none⟩) 4 4]) (w1.alloc (.cells #[.int .i64 (X.ax + X.sx), .int .i64 (X.ay + X.sy), .int .i64 (X.ax + X.sx - X.tx), .int .i64 (X.ay + X.sy - X.ty), .int .i64 (X.ax - X.sx - X.tx), .int .i64 (X.ay - X.sy - X.ty), .int .i64 (X.ax - X.sx), .int .i64 (X.ay - X.sy)] 34)) := by
    generalize a.eval = ρ at e221 ef ⊢
    unfold execOp
    rw [hop]
    simp [e221, ef, go_sem]
  unfold Oper.wp
  rw [hr]
  refine Calls.mono (sclosed _ _ _ _) ?_
  rintro e w' ⟨rfl, h⟩
  exact hK _ _ ⟨w1, k1, rfl, h⟩
theorem LL39.s19 (X : LL39) (ok : LL39Ok X) {Q : Exit → Act → World → Prop} : StepG (opsOf 39 Tryz.f78) LL39.acts LL39.av X.val0 X.Wd X.a0 Q 19 := by
  intro γ listed a w o hF hC hW h1 ho h2
  obtain ⟨hd, hop, hg⟩ := fields2 (x := some 223) (y := Op.buildSlice 29 1 #[(0, (.tmp 222))]) (z := none) (by kernel_rfl) ho
  have e222 : a.eval (.tmp 222) = γ 1 := slotG hF ho h2 (j := 18) (d := 222) (by kernel_rfl) (by kernel_rfl) (by rw [ok.sz]; decide)
  have hu := unl (hF.lt ho) h1
  refine st_actG (k := 2) LL39.chain LL39.nodup rfl hF hC hW h1 ho h2 (Or.inr ⟨223, hd, rfl⟩) (LL39.inj (by kernel_rfl) hu) hg ?_
  intro hW0 K hK
  obtain ⟨w1, k1, g1, k2⟩ := hW0
  rw [g1] at e222
  have hr : (execOp a.eval o).run Tryz.prog w = .ok (.value (.slice (some ⟨w.heap.size, 0, none⟩) 1 1)) (w.alloc (.cells #[.slice (some ⟨w1.heap.size, 0, none⟩) 4 4, .bool true] 25)) := by
    generalize a.eval = ρ at e222 ⊢
    unfold execOp
    rw [hop]
    simp [e222, go_sem]
  unfold Oper.wp
  rw [hr]
  exact hK _ _ ⟨w1, w, k1, k2, rfl, rfl⟩
theorem LL39.s20 (X : LL39) (ok : LL39Ok X) {Q : Exit → Act → World → Prop} : StepG (opsOf 39 Tryz.f78) LL39.acts LL39.av X.val0 X.Wd X.a0 Q 20 := by
  intro γ listed a w o hF hC hW h1 ho h2
  obtain ⟨hd, hop, hg⟩ := fields2 (x := some 224) (y := Op.call { callee := .builtin .append, args := #[(.tmp 204), (.tmp 223)], argTypes := #[29, 29] }) (z := none) (by kernel_rfl) ho
  have e204 : a.eval (.tmp 204) = X.v := slotG hF ho h2 (j := 0) (d := 204) (by kernel_rfl) (by kernel_rfl) (by rw [ok.sz]; decide)
  have e223 : a.eval (.tmp 223) = γ 2 := slotG hF ho h2 (j := 19) (d := 223) (by kernel_rfl) (by kernel_rfl) (by rw [ok.sz]; decide)
  have hu := unl (hF.lt ho) h1
  refine st_actG (k := 3) LL39.chain LL39.nodup rfl hF hC hW h1 ho h2 (Or.inr ⟨224, hd, rfl⟩) (LL39.inj (by kernel_rfl) hu) hg ?_
  intro hW0 K hK
  obtain ⟨w1, w2, k1, k2, g2, rfl⟩ := hW0
  rw [g2] at e223
  have nn : Nw X.W w2 := Kp.nw (Kp.trans k1 (Kp.trans ((Kp.refl w1).alloc _ _) k2))
  have hu : OwnP w2 X.W.heap.size (.slice (some ⟨w1.heap.size, 0, none⟩) 4 4) [(X.ax + X.sx, X.ay + X.sy), (X.ax + X.sx - X.tx, X.ay + X.sy - X.ty), (X.ax - X.sx - X.tx, X.ay - X.sy - X.ty), (X.ax - X.sx, X.ay - X.sy)] := OwnP.nw (ownp4 w1 _ (Kp.size k1) _ _ _ _ _ _ _ _ ) (Kp.nw k2)
  refine wp_lnx X.W w2 (.tmp 204) (.tmp 223) hop X.B X.v X.it (.slice (some ⟨w1.heap.size, 0, none⟩) 4 4) ⟨[(X.ax + X.sx, X.ay + X.sy), (X.ax + X.sx - X.tx, X.ay + X.sy - X.ty), (X.ax - X.sx - X.tx, X.ay - X.sy - X.ty), (X.ax - X.sx, X.ay - X.sy)], true⟩ e204 ok.ho nn ok.hB hu e223 ok.hl ?_
  intro g' c' w' h1 h2 h3
  exact hK _ _ ⟨_, h1, h2, h3, fun c hc => (OwnQ.lt hu c hc).1⟩
theorem LL39.s21 (X : LL39) (ok : LL39Ok X) {Q : Exit → Act → World → Prop} : StepG (opsOf 39 Tryz.f78) LL39.acts LL39.av X.val0 X.Wd X.a0 Q 21 := by
  intro γ listed a w o hF hC hW h1 ho h2
  obtain ⟨hd, hop, hg⟩ := fields2 (x := some 10) (y := Op.assign (.tmp 224)) (z := none) (by kernel_rfl) ho
  have e224 : a.eval (.tmp 224) = γ 3 := slotG hF ho h2 (j := 20) (d := 224) (by kernel_rfl) (by kernel_rfl) (by rw [ok.sz]; decide)
  have hu := unl (hF.lt ho) h1
  refine st_actG (k := 4) LL39.chain LL39.nodup rfl hF hC hW h1 ho h2 (Or.inr ⟨10, hd, rfl⟩) (LL39.inj (by kernel_rfl) hu) hg ?_
  intro hW0 K hK
  have hr : (execOp a.eval o).run Tryz.prog w = .ok (.value (γ 3)) w := by
    generalize a.eval = ρ at e224 ⊢
    unfold execOp
    rw [hop]
    simp [e224, go_sem]
  unfold Oper.wp
  rw [hr]
  exact hK _ _ hW0
theorem LL39.size : (opsOf 39 Tryz.f78).size = 22 := by kernel_rfl
theorem LL39.steps (X : LL39) (ok : LL39Ok X) {Q : Exit → Act → World → Prop} (i : Nat) (hi : i < (opsOf 39 Tryz.f78).size) : StepG (opsOf 39 Tryz.f78) LL39.acts LL39.av X.val0 X.Wd X.a0 Q i := by
  rw [LL39.size] at hi
  have hc : i = 0 ∨ i = 1 ∨ i = 2 ∨ i = 3 ∨ i = 4 ∨ i = 5 ∨ i = 6 ∨ i = 7 ∨ i = 8 ∨ i = 9 ∨ i = 10 ∨ i = 11 ∨ i = 12 ∨ i = 13 ∨ i = 14 ∨ i = 15 ∨ i = 16 ∨ i = 17 ∨ i = 18 ∨ i = 19 ∨ i = 20 ∨ i = 21 := by omega
  rcases hc with rfl | rfl | rfl | rfl | rfl | rfl | rfl | rfl | rfl | rfl | rfl | rfl | rfl | rfl | rfl | rfl | rfl | rfl | rfl | rfl | rfl | rfl
  · exact LL39.s0 X ok
  · exact LL39.s1 X ok
  · exact LL39.s2 X ok
  · exact LL39.s3 X ok
  · exact LL39.s4 X ok
  · exact LL39.s5 X ok
  · exact LL39.s6 X ok
  · exact LL39.s7 X ok
  · exact LL39.s8 X ok
  · exact LL39.s9 X ok
  · exact LL39.s10 X ok
  · exact LL39.s11 X ok
  · exact LL39.s12 X ok
  · exact LL39.s13 X ok
  · exact LL39.s14 X ok
  · exact LL39.s15 X ok
  · exact LL39.s16 X ok
  · exact LL39.s17 X ok
  · exact LL39.s18 X ok
  · exact LL39.s19 X ok
  · exact LL39.s20 X ok
  · exact LL39.s21 X ok
theorem LL39.puts (X : LL39) (γ : Nat → Value) (a0 : Act) : putsL (valG LL39.av X.val0 γ) (opsOf 39 Tryz.f78).toList a0 = ((((((((((((((((((((((a0.put (some 204) (X.v)).put (some 205) (.agg #[.int .i64 (X.ax), .int .i64 (X.ay)])).put (some 206) (.agg #[.int .i64 (X.sx), .int .i64 (X.sy)])).put (some 207) (.agg #[.int .i64 (X.ax + X.sx), .int .i64 (X.ay + X.sy)])).put (some 208) (.agg #[.int .i64 (X.ax), .int .i64 (X.ay)])).put (some 209) (.agg #[.int .i64 (X.sx), .int .i64 (X.sy)])).put (some 210) (.agg #[.int .i64 (X.ax + X.sx), .int .i64 (X.ay + X.sy)])).put (some 211) (.agg #[.int .i64 (X.tx), .int .i64 (X.ty)])).put (some 212) (.agg #[.int .i64 (X.ax + X.sx - X.tx), .int .i64 (X.ay + X.sy - X.ty)])).put (some 213) (.agg #[.int .i64 (X.ax), .int .i64 (X.ay)])).put (some 214) (.agg #[.int .i64 (X.sx), .int .i64 (X.sy)])).put (some 215) (.agg #[.int .i64 (X.ax - X.sx), .int .i64 (X.ay - X.sy)])).put (some 216) (.agg #[.int .i64 (X.tx), .int .i64 (X.ty)])).put (some 217) (.agg #[.int .i64 (X.ax - X.sx - X.tx), .int .i64 (X.ay - X.sy - X.ty)])).put (some 218) (.agg #[.int .i64 (X.ax), .int .i64 (X.ay)])).put (some 219) (.agg #[.int .i64 (X.sx), .int .i64 (X.sy)])).put (some 220) (.agg #[.int .i64 (X.ax - X.sx), .int .i64 (X.ay - X.sy)])).put (some 221) (γ 0)).put (some 222) (γ 1)).put (some 223) (γ 2)).put (some 224) (γ 3)).put (some 10) (γ 4)) := by kernel_rfl
/-- The region, whatever order comes up. -/
theorem LL39.run (X : LL39) (ok : LL39Ok X) {Q : Exit → Act → World → Prop} (w : World) (h0 : X.Wd 0 (fun _ => undef) w.drew) (hend : ∀ (γ : Nat → Value) w', X.Wd 5 γ w' → Q .normal ((((((((((((((((((((((X.a0.put (some 204) (X.v)).put (some 205) (.agg #[.int .i64 (X.ax), .int .i64 (X.ay)])).put (some 206) (.agg #[.int .i64 (X.sx), .int .i64 (X.sy)])).put (some 207) (.agg #[.int .i64 (X.ax + X.sx), .int .i64 (X.ay + X.sy)])).put (some 208) (.agg #[.int .i64 (X.ax), .int .i64 (X.ay)])).put (some 209) (.agg #[.int .i64 (X.sx), .int .i64 (X.sy)])).put (some 210) (.agg #[.int .i64 (X.ax + X.sx), .int .i64 (X.ay + X.sy)])).put (some 211) (.agg #[.int .i64 (X.tx), .int .i64 (X.ty)])).put (some 212) (.agg #[.int .i64 (X.ax + X.sx - X.tx), .int .i64 (X.ay + X.sy - X.ty)])).put (some 213) (.agg #[.int .i64 (X.ax), .int .i64 (X.ay)])).put (some 214) (.agg #[.int .i64 (X.sx), .int .i64 (X.sy)])).put (some 215) (.agg #[.int .i64 (X.ax - X.sx), .int .i64 (X.ay - X.sy)])).put (some 216) (.agg #[.int .i64 (X.tx), .int .i64 (X.ty)])).put (some 217) (.agg #[.int .i64 (X.ax - X.sx - X.tx), .int .i64 (X.ay - X.sy - X.ty)])).put (some 218) (.agg #[.int .i64 (X.ax), .int .i64 (X.ay)])).put (some 219) (.agg #[.int .i64 (X.sx), .int .i64 (X.sy)])).put (some 220) (.agg #[.int .i64 (X.ax - X.sx), .int .i64 (X.ay - X.sy)])).put (some 221) (γ 0)).put (some 222) (γ 1)).put (some 223) (γ 2)).put (some 224) (γ 3)).put (some 10) (γ 4)) w') : (Code.region 39 (opsOf 39 Tryz.f78) true).wp Tryz.prog Q X.a0 w := by
  refine reg_act (acts := LL39.acts) (av := LL39.av) (val0 := X.val0) (Wd := X.Wd) (by kernel_rfl) (by kernel_rfl) (by rw [LL39.size]; decide) (fun i hi => LL39.steps X ok i hi) _ h0 ?_
  intro γ w' h
  rw [LL39.puts]
  exact hend γ w' h
structure LL43 where
  ax : Int
  ay : Int
  sx : Int
  sy : Int
  tx : Int
  ty : Int
  ba : Nat
  bs : Nat
  bt : Nat
  v : Value
  B : Nat
  it : Its
  W : World
  a0 : Act
structure LL43Ok (X : LL43) : Prop where
  a0_ : X.W.cell? ⟨X.ba, 0, none⟩ = some (.int .i64 (X.ax))
  a1_ : X.W.cell? ⟨X.ba, 1, none⟩ = some (.int .i64 (X.ay))
  s0_ : X.W.cell? ⟨X.bs, 0, none⟩ = some (.int .i64 (X.sx))
  s1_ : X.W.cell? ⟨X.bs, 1, none⟩ = some (.int .i64 (X.sy))
  t0_ : X.W.cell? ⟨X.bt, 0, none⟩ = some (.int .i64 (X.tx))
  t1_ : X.W.cell? ⟨X.bt, 1, none⟩ = some (.int .i64 (X.ty))
  w0 : wid (X.ax)
  w1 : wid (X.ay)
  w2 : wid (X.sx)
  w3 : wid (X.sy)
  w4 : wid (X.tx)
  w5 : wid (X.ty)
  w6 : wid (X.ax + X.sx)
  w7 : wid (X.ay + X.sy)
  w8 : wid (X.ax - X.sx)
  w9 : wid (X.ay - X.sy)
  ho : OwnLn X.W X.B X.v X.it
  hB : X.B ≤ X.W.heap.size
  hl : X.it.length + 1 ≤ 1000000
  e10 : X.a0.eval (.tmp 10) = X.v
  e17 : X.a0.eval (.tmp 17) = .pointer (some ⟨X.bs, 0, none⟩)
  e18 : X.a0.eval (.tmp 18) = .pointer (some ⟨X.bt, 0, none⟩)
  e20 : X.a0.eval (.tmp 20) = .pointer (some ⟨X.ba, 0, none⟩)
  sz : X.a0.tmps.size = 270
def LL43.val0 (X : LL43) : Nat → Value
  | 248 => X.v
  | 249 => .agg #[.int .i64 (X.ax), .int .i64 (X.ay)]
  | 250 => .agg #[.int .i64 (X.sx), .int .i64 (X.sy)]
  | 251 => .agg #[.int .i64 (X.ax + X.sx), .int .i64 (X.ay + X.sy)]
  | 252 => .agg #[.int .i64 (X.ax), .int .i64 (X.ay)]
  | 253 => .agg #[.int .i64 (X.sx), .int .i64 (X.sy)]
  | 254 => .agg #[.int .i64 (X.ax + X.sx), .int .i64 (X.ay + X.sy)]
  | 255 => .agg #[.int .i64 (X.tx), .int .i64 (X.ty)]
  | 256 => .agg #[.int .i64 (X.ax + X.sx + X.tx), .int .i64 (X.ay + X.sy + X.ty)]
  | 257 => .agg #[.int .i64 (X.ax), .int .i64 (X.ay)]
  | 258 => .agg #[.int .i64 (X.sx), .int .i64 (X.sy)]
  | 259 => .agg #[.int .i64 (X.ax - X.sx), .int .i64 (X.ay - X.sy)]
  | 260 => .agg #[.int .i64 (X.tx), .int .i64 (X.ty)]
  | 261 => .agg #[.int .i64 (X.ax - X.sx + X.tx), .int .i64 (X.ay - X.sy + X.ty)]
  | 262 => .agg #[.int .i64 (X.ax), .int .i64 (X.ay)]
  | 263 => .agg #[.int .i64 (X.sx), .int .i64 (X.sy)]
  | 264 => .agg #[.int .i64 (X.ax - X.sx), .int .i64 (X.ay - X.sy)]
  | _ => undef
def LL43.av : Nat → Option Nat
  | 265 => some 0
  | 266 => some 1
  | 267 => some 2
  | 268 => some 3
  | 10 => some 4
  | _ => none
def LL43.acts : List Nat := [17, 18, 19, 20, 21]
/-- The world, by how many of the acting ones have come up. -/
def LL43.Wd (X : LL43) : Nat → (Nat → Value) → World → Prop
  | 0, _, w => Kp X.W w
  | 1, γ, w => ∃ w1, Kp X.W w1 ∧ γ 0 = .slice (some ⟨w1.heap.size, 0, none⟩) 4 4 ∧ w = (w1.alloc (.cells #[.int .i64 (X.ax + X.sx), .int .i64 (X.ay + X.sy), .int .i64 (X.ax + X.sx + X.tx), .int .i64 (X.ay + X.sy + X.ty), .int .i64 (X.ax - X.sx + X.tx), .int .i64 (X.ay - X.sy + X.ty), .int .i64 (X.ax - X.sx), .int .i64 (X.ay - X.sy)] 34))
  | 2, γ, w => ∃ w1, Kp X.W w1 ∧ γ 1 = .agg #[.slice (some ⟨w1.heap.size, 0, none⟩) 4 4, .bool true] ∧ Kp (w1.alloc (.cells #[.int .i64 (X.ax + X.sx), .int .i64 (X.ay + X.sy), .int .i64 (X.ax + X.sx + X.tx), .int .i64 (X.ay + X.sy + X.ty), .int .i64 (X.ax - X.sx + X.tx), .int .i64 (X.ay - X.sy + X.ty), .int .i64 (X.ax - X.sx), .int .i64 (X.ay - X.sy)] 34)) w
  | 3, γ, w => ∃ w1 w2, Kp X.W w1 ∧ Kp (w1.alloc (.cells #[.int .i64 (X.ax + X.sx), .int .i64 (X.ay + X.sy), .int .i64 (X.ax + X.sx + X.tx), .int .i64 (X.ay + X.sy + X.ty), .int .i64 (X.ax - X.sx + X.tx), .int .i64 (X.ay - X.sy + X.ty), .int .i64 (X.ax - X.sx), .int .i64 (X.ay - X.sy)] 34)) w2 ∧ γ 2 = .slice (some ⟨w2.heap.size, 0, none⟩) 1 1 ∧ w = w2.alloc (.cells #[.slice (some ⟨w1.heap.size, 0, none⟩) 4 4, .bool true] 25)
  | 4, γ, w => ∃ u, OwnLn w X.B (γ 3) (X.it ++ [(u, ⟨[(X.ax + X.sx, X.ay + X.sy), (X.ax + X.sx + X.tx, X.ay + X.sy + X.ty), (X.ax - X.sx + X.tx, X.ay - X.sy + X.ty), (X.ax - X.sx, X.ay - X.sy)], true⟩)]) ∧ Below X.B X.W w ∧ Ext X.v (γ 3) X.W w ∧ ∀ c, u.ownBlock = some c → X.W.heap.size ≤ c
  | _, γ, w => ∃ u, OwnLn w X.B (γ 4) (X.it ++ [(u, ⟨[(X.ax + X.sx, X.ay + X.sy), (X.ax + X.sx + X.tx, X.ay + X.sy + X.ty), (X.ax - X.sx + X.tx, X.ay - X.sy + X.ty), (X.ax - X.sx, X.ay - X.sy)], true⟩)]) ∧ Below X.B X.W w ∧ Ext X.v (γ 4) X.W w ∧ ∀ c, u.ownBlock = some c → X.W.heap.size ≤ c
theorem LL43.chain : chainG (opsOf 43 Tryz.f78) LL43.acts = true := by kernel_rfl
theorem LL43.nodup : LL43.acts.Nodup := by decide
theorem LL43.inj {listed : Array Bool} {i k : Nat} (h : (List.range (opsOf 43 Tryz.f78).size).all (fun j => decide (j = i) || !(match dstOf (opsOf 43 Tryz.f78) j with | some d => decide (LL43.av d = some k) | none => false)) = true) (hu : listed.getD i false = false) : ∀ d, got (opsOf 43 Tryz.f78) listed d → LL43.av d ≠ some k := by
  rintro d ⟨j, h1, h2⟩ h3
  have hlt : j < (opsOf 43 Tryz.f78).size := by
    rcases Nat.lt_or_ge j (opsOf 43 Tryz.f78).size with h4 | h4
    · exact h4
    · unfold dstOf at h2; rw [Array.getElem?_eq_none h4] at h2; cases h2
  have h5 := List.all_eq_true.1 h j (List.mem_range.2 hlt)
  rw [h2] at h5
  simp only [h3, decide_true, Bool.not_true, Bool.or_false, decide_eq_true_eq] at h5
  subst h5
  rw [hu] at h1
  cases h1
theorem LL43.s0 (X : LL43) (ok : LL43Ok X) {Q : Exit → Act → World → Prop} : StepG (opsOf 43 Tryz.f78) LL43.acts LL43.av X.val0 X.Wd X.a0 Q 0 := by
  intro γ listed a w o hF hC hW h1 ho h2
  obtain ⟨hd, hop, hg⟩ := fields2 (x := some 248) (y := Op.move (.tmp 10)) (z := none) (by kernel_rfl) ho
  have e10 : a.eval (.tmp 10) = X.v := (hF.no 10 (early_of hC (unl (hF.lt ho) h1) (j := 21) (by kernel_rfl) [20, 0] (by kernel_rfl) (by decide))).trans ok.e10
  refine st_pureG hF hC hW ho h2 (by decide) hd hg rfl ?_
  show _ = Result.ok (Next.value (X.v)) w
  generalize a.eval = ρ at e10 ⊢
  unfold execOp
  rw [hop]
  simp [e10, go_sem]
theorem LL43.s1 (X : LL43) (ok : LL43Ok X) {Q : Exit → Act → World → Prop} : StepG (opsOf 43 Tryz.f78) LL43.acts LL43.av X.val0 X.Wd X.a0 Q 1 := by
  intro γ listed a w o hF hC hW h1 ho h2
  obtain ⟨hd, hop, hg⟩ := fields2 (x := some 249) (y := Op.load 34 (.tmp 20)) (z := none) (by kernel_rfl) ho
  have e20 : a.eval (.tmp 20) = .pointer (some ⟨X.ba, 0, none⟩) := (hF.eval0 (by kernel_rfl)).trans ok.e20
  have hph := phase_leG (acts := LL43.acts) (m := 0) (x := 17) hC (unl (hF.lt ho) h1) rfl [3, 1] (by kernel_rfl) (by decide)
  have hWW := hW
  generalize phase listed LL43.acts = n at hph hWW
  have hk : Kp X.W w := by
    obtain rfl : n = 0 := by omega
    exact hWW
  have hc0 := rq_at hk ok.a0_
  have hc1 := rq_at hk ok.a1_
  refine st_pureG hF hC hW ho h2 (by decide) hd hg rfl ?_
  show _ = Result.ok (Next.value (.agg #[.int .i64 (X.ax), .int .i64 (X.ay)])) w
  generalize a.eval = ρ at e20 ⊢
  unfold execOp
  rw [hop]
  simp [e20, hc0, hc1, go_sem]
theorem LL43.s2 (X : LL43) (ok : LL43Ok X) {Q : Exit → Act → World → Prop} : StepG (opsOf 43 Tryz.f78) LL43.acts LL43.av X.val0 X.Wd X.a0 Q 2 := by
  intro γ listed a w o hF hC hW h1 ho h2
  obtain ⟨hd, hop, hg⟩ := fields2 (x := some 250) (y := Op.load 34 (.tmp 17)) (z := none) (by kernel_rfl) ho
  have e17 : a.eval (.tmp 17) = .pointer (some ⟨X.bs, 0, none⟩) := (hF.eval0 (by kernel_rfl)).trans ok.e17
  have hph := phase_leG (acts := LL43.acts) (m := 0) (x := 17) hC (unl (hF.lt ho) h1) rfl [3, 2] (by kernel_rfl) (by decide)
  have hWW := hW
  generalize phase listed LL43.acts = n at hph hWW
  have hk : Kp X.W w := by
    obtain rfl : n = 0 := by omega
    exact hWW
  have hc0 := rq_at hk ok.s0_
  have hc1 := rq_at hk ok.s1_
  refine st_pureG hF hC hW ho h2 (by decide) hd hg rfl ?_
  show _ = Result.ok (Next.value (.agg #[.int .i64 (X.sx), .int .i64 (X.sy)])) w
  generalize a.eval = ρ at e17 ⊢
  unfold execOp
  rw [hop]
  simp [e17, hc0, hc1, go_sem]
theorem LL43.s3 (X : LL43) (ok : LL43Ok X) {Q : Exit → Act → World → Prop} : StepG (opsOf 43 Tryz.f78) LL43.acts LL43.av X.val0 X.Wd X.a0 Q 3 := by
  intro γ listed a w o hF hC hW h1 ho h2
  obtain ⟨hd, hop, hg⟩ := fields2 (x := some 251) (y := Op.call { callee := .value (.func 98), args := #[(.tmp 249), (.tmp 250)], argTypes := #[34, 34] }) (z := none) (by kernel_rfl) ho
  have e249 : a.eval (.tmp 249) = .agg #[.int .i64 (X.ax), .int .i64 (X.ay)] := slotG hF ho h2 (j := 1) (d := 249) (by kernel_rfl) (by kernel_rfl) (by rw [ok.sz]; decide)
  have e250 : a.eval (.tmp 250) = .agg #[.int .i64 (X.sx), .int .i64 (X.sy)] := slotG hF ho h2 (j := 2) (d := 250) (by kernel_rfl) (by kernel_rfl) (by rw [ok.sz]; decide)
  have ef : a.eval (.func 98) = .func (.func 98) #[] #[] := rfl
  have hph := phase_leG (acts := LL43.acts) (m := 0) (x := 17) hC (unl (hF.lt ho) h1) rfl [3] (by kernel_rfl) (by decide)
  have hWW := hW
  generalize phase listed LL43.acts = n at hph hWW
  refine st_callG hF hC hW ho h2 (by decide) hd hg rfl (f := 98) (args := #[.agg #[.int .i64 (X.ax), .int .i64 (X.ay)], .agg #[.int .i64 (X.sx), .int .i64 (X.sy)]]) ?_ ?_ ?_
  · generalize a.eval = ρ at e249 e250 ef ⊢
    unfold execOp
    rw [hop]
    simp [e249, e250, ef, go_sem]
  · exact splus w _ _ _ _ ok.w0 ok.w1 ok.w2 ok.w3
  · intro w' hk
    have hz : phase listed LL43.acts = 0 := by
      have := phase_leG (acts := LL43.acts) (m := 0) (x := 17) hC (unl (hF.lt ho) h1) rfl [3] (by kernel_rfl) (by decide)
      omega
    rw [hz] at hW ⊢
    exact Kp.trans hW hk
theorem LL43.s4 (X : LL43) (ok : LL43Ok X) {Q : Exit → Act → World → Prop} : StepG (opsOf 43 Tryz.f78) LL43.acts LL43.av X.val0 X.Wd X.a0 Q 4 := by
  intro γ listed a w o hF hC hW h1 ho h2
  obtain ⟨hd, hop, hg⟩ := fields2 (x := some 252) (y := Op.load 34 (.tmp 20)) (z := none) (by kernel_rfl) ho
  have e20 : a.eval (.tmp 20) = .pointer (some ⟨X.ba, 0, none⟩) := (hF.eval0 (by kernel_rfl)).trans ok.e20
  have hph := phase_leG (acts := LL43.acts) (m := 0) (x := 17) hC (unl (hF.lt ho) h1) rfl [8, 6, 4] (by kernel_rfl) (by decide)
  have hWW := hW
  generalize phase listed LL43.acts = n at hph hWW
  have hk : Kp X.W w := by
    obtain rfl : n = 0 := by omega
    exact hWW
  have hc0 := rq_at hk ok.a0_
  have hc1 := rq_at hk ok.a1_
  refine st_pureG hF hC hW ho h2 (by decide) hd hg rfl ?_
  show _ = Result.ok (Next.value (.agg #[.int .i64 (X.ax), .int .i64 (X.ay)])) w
  generalize a.eval = ρ at e20 ⊢
  unfold execOp
  rw [hop]
  simp [e20, hc0, hc1, go_sem]
theorem LL43.s5 (X : LL43) (ok : LL43Ok X) {Q : Exit → Act → World → Prop} : StepG (opsOf 43 Tryz.f78) LL43.acts LL43.av X.val0 X.Wd X.a0 Q 5 := by
  intro γ listed a w o hF hC hW h1 ho h2
  obtain ⟨hd, hop, hg⟩ := fields2 (x := some 253) (y := Op.load 34 (.tmp 17)) (z := none) (by kernel_rfl) ho
  have e17 : a.eval (.tmp 17) = .pointer (some ⟨X.bs, 0, none⟩) := (hF.eval0 (by kernel_rfl)).trans ok.e17
  have hph := phase_leG (acts := LL43.acts) (m := 0) (x := 17) hC (unl (hF.lt ho) h1) rfl [8, 6, 5] (by kernel_rfl) (by decide)
  have hWW := hW
  generalize phase listed LL43.acts = n at hph hWW
  have hk : Kp X.W w := by
    obtain rfl : n = 0 := by omega
    exact hWW
  have hc0 := rq_at hk ok.s0_
  have hc1 := rq_at hk ok.s1_
  refine st_pureG hF hC hW ho h2 (by decide) hd hg rfl ?_
  show _ = Result.ok (Next.value (.agg #[.int .i64 (X.sx), .int .i64 (X.sy)])) w
  generalize a.eval = ρ at e17 ⊢
  unfold execOp
  rw [hop]
  simp [e17, hc0, hc1, go_sem]
theorem LL43.s6 (X : LL43) (ok : LL43Ok X) {Q : Exit → Act → World → Prop} : StepG (opsOf 43 Tryz.f78) LL43.acts LL43.av X.val0 X.Wd X.a0 Q 6 := by
  intro γ listed a w o hF hC hW h1 ho h2
  obtain ⟨hd, hop, hg⟩ := fields2 (x := some 254) (y := Op.call { callee := .value (.func 98), args := #[(.tmp 252), (.tmp 253)], argTypes := #[34, 34] }) (z := none) (by kernel_rfl) ho
  have e252 : a.eval (.tmp 252) = .agg #[.int .i64 (X.ax), .int .i64 (X.ay)] := slotG hF ho h2 (j := 4) (d := 252) (by kernel_rfl) (by kernel_rfl) (by rw [ok.sz]; decide)
  have e253 : a.eval (.tmp 253) = .agg #[.int .i64 (X.sx), .int .i64 (X.sy)] := slotG hF ho h2 (j := 5) (d := 253) (by kernel_rfl) (by kernel_rfl) (by rw [ok.sz]; decide)
  have ef : a.eval (.func 98) = .func (.func 98) #[] #[] := rfl
  have hph := phase_leG (acts := LL43.acts) (m := 0) (x := 17) hC (unl (hF.lt ho) h1) rfl [8, 6] (by kernel_rfl) (by decide)
  have hWW := hW
  generalize phase listed LL43.acts = n at hph hWW
  refine st_callG hF hC hW ho h2 (by decide) hd hg rfl (f := 98) (args := #[.agg #[.int .i64 (X.ax), .int .i64 (X.ay)], .agg #[.int .i64 (X.sx), .int .i64 (X.sy)]]) ?_ ?_ ?_
  · generalize a.eval = ρ at e252 e253 ef ⊢
    unfold execOp
    rw [hop]
    simp [e252, e253, ef, go_sem]
  · exact splus w _ _ _ _ ok.w0 ok.w1 ok.w2 ok.w3
  · intro w' hk
    have hz : phase listed LL43.acts = 0 := by
      have := phase_leG (acts := LL43.acts) (m := 0) (x := 17) hC (unl (hF.lt ho) h1) rfl [8, 6] (by kernel_rfl) (by decide)
      omega
    rw [hz] at hW ⊢
    exact Kp.trans hW hk
theorem LL43.s7 (X : LL43) (ok : LL43Ok X) {Q : Exit → Act → World → Prop} : StepG (opsOf 43 Tryz.f78) LL43.acts LL43.av X.val0 X.Wd X.a0 Q 7 := by
  intro γ listed a w o hF hC hW h1 ho h2
  obtain ⟨hd, hop, hg⟩ := fields2 (x := some 255) (y := Op.load 34 (.tmp 18)) (z := none) (by kernel_rfl) ho
  have e18 : a.eval (.tmp 18) = .pointer (some ⟨X.bt, 0, none⟩) := (hF.eval0 (by kernel_rfl)).trans ok.e18
  have hph := phase_leG (acts := LL43.acts) (m := 0) (x := 17) hC (unl (hF.lt ho) h1) rfl [8, 7] (by kernel_rfl) (by decide)
  have hWW := hW
  generalize phase listed LL43.acts = n at hph hWW
  have hk : Kp X.W w := by
    obtain rfl : n = 0 := by omega
    exact hWW
  have hc0 := rq_at hk ok.t0_
  have hc1 := rq_at hk ok.t1_
  refine st_pureG hF hC hW ho h2 (by decide) hd hg rfl ?_
  show _ = Result.ok (Next.value (.agg #[.int .i64 (X.tx), .int .i64 (X.ty)])) w
  generalize a.eval = ρ at e18 ⊢
  unfold execOp
  rw [hop]
  simp [e18, hc0, hc1, go_sem]
theorem LL43.s8 (X : LL43) (ok : LL43Ok X) {Q : Exit → Act → World → Prop} : StepG (opsOf 43 Tryz.f78) LL43.acts LL43.av X.val0 X.Wd X.a0 Q 8 := by
  intro γ listed a w o hF hC hW h1 ho h2
  obtain ⟨hd, hop, hg⟩ := fields2 (x := some 256) (y := Op.call { callee := .value (.func 98), args := #[(.tmp 254), (.tmp 255)], argTypes := #[34, 34] }) (z := none) (by kernel_rfl) ho
  have e254 : a.eval (.tmp 254) = .agg #[.int .i64 (X.ax + X.sx), .int .i64 (X.ay + X.sy)] := slotG hF ho h2 (j := 6) (d := 254) (by kernel_rfl) (by kernel_rfl) (by rw [ok.sz]; decide)
  have e255 : a.eval (.tmp 255) = .agg #[.int .i64 (X.tx), .int .i64 (X.ty)] := slotG hF ho h2 (j := 7) (d := 255) (by kernel_rfl) (by kernel_rfl) (by rw [ok.sz]; decide)
  have ef : a.eval (.func 98) = .func (.func 98) #[] #[] := rfl
  have hph := phase_leG (acts := LL43.acts) (m := 0) (x := 17) hC (unl (hF.lt ho) h1) rfl [8] (by kernel_rfl) (by decide)
  have hWW := hW
  generalize phase listed LL43.acts = n at hph hWW
  refine st_callG hF hC hW ho h2 (by decide) hd hg rfl (f := 98) (args := #[.agg #[.int .i64 (X.ax + X.sx), .int .i64 (X.ay + X.sy)], .agg #[.int .i64 (X.tx), .int .i64 (X.ty)]]) ?_ ?_ ?_
  · generalize a.eval = ρ at e254 e255 ef ⊢
    unfold execOp
    rw [hop]
    simp [e254, e255, ef, go_sem]
  · exact splus w _ _ _ _ ok.w6 ok.w7 ok.w4 ok.w5
  · intro w' hk
    have hz : phase listed LL43.acts = 0 := by
      have := phase_leG (acts := LL43.acts) (m := 0) (x := 17) hC (unl (hF.lt ho) h1) rfl [8] (by kernel_rfl) (by decide)
      omega
    rw [hz] at hW ⊢
    exact Kp.trans hW hk
theorem LL43.s9 (X : LL43) (ok : LL43Ok X) {Q : Exit → Act → World → Prop} : StepG (opsOf 43 Tryz.f78) LL43.acts LL43.av X.val0 X.Wd X.a0 Q 9 := by
  intro γ listed a w o hF hC hW h1 ho h2
  obtain ⟨hd, hop, hg⟩ := fields2 (x := some 257) (y := Op.load 34 (.tmp 20)) (z := none) (by kernel_rfl) ho
  have e20 : a.eval (.tmp 20) = .pointer (some ⟨X.ba, 0, none⟩) := (hF.eval0 (by kernel_rfl)).trans ok.e20
  have hph := phase_leG (acts := LL43.acts) (m := 0) (x := 17) hC (unl (hF.lt ho) h1) rfl [13, 11, 9] (by kernel_rfl) (by decide)
  have hWW := hW
  generalize phase listed LL43.acts = n at hph hWW
  have hk : Kp X.W w := by
    obtain rfl : n = 0 := by omega
    exact hWW
  have hc0 := rq_at hk ok.a0_
  have hc1 := rq_at hk ok.a1_
  refine st_pureG hF hC hW ho h2 (by decide) hd hg rfl ?_
  show _ = Result.ok (Next.value (.agg #[.int .i64 (X.ax), .int .i64 (X.ay)])) w
  generalize a.eval = ρ at e20 ⊢
  unfold execOp
  rw [hop]
  simp [e20, hc0, hc1, go_sem]
theorem LL43.s10 (X : LL43) (ok : LL43Ok X) {Q : Exit → Act → World → Prop} : StepG (opsOf 43 Tryz.f78) LL43.acts LL43.av X.val0 X.Wd X.a0 Q 10 := by
  intro γ listed a w o hF hC hW h1 ho h2
  obtain ⟨hd, hop, hg⟩ := fields2 (x := some 258) (y := Op.load 34 (.tmp 17)) (z := none) (by kernel_rfl) ho
  have e17 : a.eval (.tmp 17) = .pointer (some ⟨X.bs, 0, none⟩) := (hF.eval0 (by kernel_rfl)).trans ok.e17
  have hph := phase_leG (acts := LL43.acts) (m := 0) (x := 17) hC (unl (hF.lt ho) h1) rfl [13, 11, 10] (by kernel_rfl) (by decide)
  have hWW := hW
  generalize phase listed LL43.acts = n at hph hWW
  have hk : Kp X.W w := by
    obtain rfl : n = 0 := by omega
    exact hWW
  have hc0 := rq_at hk ok.s0_
  have hc1 := rq_at hk ok.s1_
  refine st_pureG hF hC hW ho h2 (by decide) hd hg rfl ?_
  show _ = Result.ok (Next.value (.agg #[.int .i64 (X.sx), .int .i64 (X.sy)])) w
  generalize a.eval = ρ at e17 ⊢
  unfold execOp
  rw [hop]
  simp [e17, hc0, hc1, go_sem]
theorem LL43.s11 (X : LL43) (ok : LL43Ok X) {Q : Exit → Act → World → Prop} : StepG (opsOf 43 Tryz.f78) LL43.acts LL43.av X.val0 X.Wd X.a0 Q 11 := by
  intro γ listed a w o hF hC hW h1 ho h2
  obtain ⟨hd, hop, hg⟩ := fields2 (x := some 259) (y := Op.call { callee := .value (.func 99), args := #[(.tmp 257), (.tmp 258)], argTypes := #[34, 34] }) (z := none) (by kernel_rfl) ho
  have e257 : a.eval (.tmp 257) = .agg #[.int .i64 (X.ax), .int .i64 (X.ay)] := slotG hF ho h2 (j := 9) (d := 257) (by kernel_rfl) (by kernel_rfl) (by rw [ok.sz]; decide)
  have e258 : a.eval (.tmp 258) = .agg #[.int .i64 (X.sx), .int .i64 (X.sy)] := slotG hF ho h2 (j := 10) (d := 258) (by kernel_rfl) (by kernel_rfl) (by rw [ok.sz]; decide)
  have ef : a.eval (.func 99) = .func (.func 99) #[] #[] := rfl
  have hph := phase_leG (acts := LL43.acts) (m := 0) (x := 17) hC (unl (hF.lt ho) h1) rfl [13, 11] (by kernel_rfl) (by decide)
  have hWW := hW
  generalize phase listed LL43.acts = n at hph hWW
  refine st_callG hF hC hW ho h2 (by decide) hd hg rfl (f := 99) (args := #[.agg #[.int .i64 (X.ax), .int .i64 (X.ay)], .agg #[.int .i64 (X.sx), .int .i64 (X.sy)]]) ?_ ?_ ?_
  · generalize a.eval = ρ at e257 e258 ef ⊢
    unfold execOp
    rw [hop]
    simp [e257, e258, ef, go_sem]
  · exact sless w _ _ _ _ ok.w0 ok.w1 ok.w2 ok.w3
  · intro w' hk
    have hz : phase listed LL43.acts = 0 := by
      have := phase_leG (acts := LL43.acts) (m := 0) (x := 17) hC (unl (hF.lt ho) h1) rfl [13, 11] (by kernel_rfl) (by decide)
      omega
    rw [hz] at hW ⊢
    exact Kp.trans hW hk
theorem LL43.s12 (X : LL43) (ok : LL43Ok X) {Q : Exit → Act → World → Prop} : StepG (opsOf 43 Tryz.f78) LL43.acts LL43.av X.val0 X.Wd X.a0 Q 12 := by
  intro γ listed a w o hF hC hW h1 ho h2
  obtain ⟨hd, hop, hg⟩ := fields2 (x := some 260) (y := Op.load 34 (.tmp 18)) (z := none) (by kernel_rfl) ho
  have e18 : a.eval (.tmp 18) = .pointer (some ⟨X.bt, 0, none⟩) := (hF.eval0 (by kernel_rfl)).trans ok.e18
  have hph := phase_leG (acts := LL43.acts) (m := 0) (x := 17) hC (unl (hF.lt ho) h1) rfl [13, 12] (by kernel_rfl) (by decide)
  have hWW := hW
  generalize phase listed LL43.acts = n at hph hWW
  have hk : Kp X.W w := by
    obtain rfl : n = 0 := by omega
    exact hWW
  have hc0 := rq_at hk ok.t0_
  have hc1 := rq_at hk ok.t1_
  refine st_pureG hF hC hW ho h2 (by decide) hd hg rfl ?_
  show _ = Result.ok (Next.value (.agg #[.int .i64 (X.tx), .int .i64 (X.ty)])) w
  generalize a.eval = ρ at e18 ⊢
  unfold execOp
  rw [hop]
  simp [e18, hc0, hc1, go_sem]
theorem LL43.s13 (X : LL43) (ok : LL43Ok X) {Q : Exit → Act → World → Prop} : StepG (opsOf 43 Tryz.f78) LL43.acts LL43.av X.val0 X.Wd X.a0 Q 13 := by
  intro γ listed a w o hF hC hW h1 ho h2
  obtain ⟨hd, hop, hg⟩ := fields2 (x := some 261) (y := Op.call { callee := .value (.func 98), args := #[(.tmp 259), (.tmp 260)], argTypes := #[34, 34] }) (z := none) (by kernel_rfl) ho
  have e259 : a.eval (.tmp 259) = .agg #[.int .i64 (X.ax - X.sx), .int .i64 (X.ay - X.sy)] := slotG hF ho h2 (j := 11) (d := 259) (by kernel_rfl) (by kernel_rfl) (by rw [ok.sz]; decide)
  have e260 : a.eval (.tmp 260) = .agg #[.int .i64 (X.tx), .int .i64 (X.ty)] := slotG hF ho h2 (j := 12) (d := 260) (by kernel_rfl) (by kernel_rfl) (by rw [ok.sz]; decide)
  have ef : a.eval (.func 98) = .func (.func 98) #[] #[] := rfl
  have hph := phase_leG (acts := LL43.acts) (m := 0) (x := 17) hC (unl (hF.lt ho) h1) rfl [13] (by kernel_rfl) (by decide)
  have hWW := hW
  generalize phase listed LL43.acts = n at hph hWW
  refine st_callG hF hC hW ho h2 (by decide) hd hg rfl (f := 98) (args := #[.agg #[.int .i64 (X.ax - X.sx), .int .i64 (X.ay - X.sy)], .agg #[.int .i64 (X.tx), .int .i64 (X.ty)]]) ?_ ?_ ?_
  · generalize a.eval = ρ at e259 e260 ef ⊢
    unfold execOp
    rw [hop]
    simp [e259, e260, ef, go_sem]
  · exact splus w _ _ _ _ ok.w8 ok.w9 ok.w4 ok.w5
  · intro w' hk
    have hz : phase listed LL43.acts = 0 := by
      have := phase_leG (acts := LL43.acts) (m := 0) (x := 17) hC (unl (hF.lt ho) h1) rfl [13] (by kernel_rfl) (by decide)
      omega
    rw [hz] at hW ⊢
    exact Kp.trans hW hk
theorem LL43.s14 (X : LL43) (ok : LL43Ok X) {Q : Exit → Act → World → Prop} : StepG (opsOf 43 Tryz.f78) LL43.acts LL43.av X.val0 X.Wd X.a0 Q 14 := by
  intro γ listed a w o hF hC hW h1 ho h2
  obtain ⟨hd, hop, hg⟩ := fields2 (x := some 262) (y := Op.load 34 (.tmp 20)) (z := none) (by kernel_rfl) ho
  have e20 : a.eval (.tmp 20) = .pointer (some ⟨X.ba, 0, none⟩) := (hF.eval0 (by kernel_rfl)).trans ok.e20
  have hph := phase_leG (acts := LL43.acts) (m := 0) (x := 17) hC (unl (hF.lt ho) h1) rfl [16, 14] (by kernel_rfl) (by decide)
  have hWW := hW
  generalize phase listed LL43.acts = n at hph hWW
  have hk : Kp X.W w := by
    obtain rfl : n = 0 := by omega
    exact hWW
  have hc0 := rq_at hk ok.a0_
  have hc1 := rq_at hk ok.a1_
  refine st_pureG hF hC hW ho h2 (by decide) hd hg rfl ?_
  show _ = Result.ok (Next.value (.agg #[.int .i64 (X.ax), .int .i64 (X.ay)])) w
  generalize a.eval = ρ at e20 ⊢
  unfold execOp
  rw [hop]
  simp [e20, hc0, hc1, go_sem]
theorem LL43.s15 (X : LL43) (ok : LL43Ok X) {Q : Exit → Act → World → Prop} : StepG (opsOf 43 Tryz.f78) LL43.acts LL43.av X.val0 X.Wd X.a0 Q 15 := by
  intro γ listed a w o hF hC hW h1 ho h2
  obtain ⟨hd, hop, hg⟩ := fields2 (x := some 263) (y := Op.load 34 (.tmp 17)) (z := none) (by kernel_rfl) ho
  have e17 : a.eval (.tmp 17) = .pointer (some ⟨X.bs, 0, none⟩) := (hF.eval0 (by kernel_rfl)).trans ok.e17
  have hph := phase_leG (acts := LL43.acts) (m := 0) (x := 17) hC (unl (hF.lt ho) h1) rfl [16, 15] (by kernel_rfl) (by decide)
  have hWW := hW
  generalize phase listed LL43.acts = n at hph hWW
  have hk : Kp X.W w := by
    obtain rfl : n = 0 := by omega
    exact hWW
  have hc0 := rq_at hk ok.s0_
  have hc1 := rq_at hk ok.s1_
  refine st_pureG hF hC hW ho h2 (by decide) hd hg rfl ?_
  show _ = Result.ok (Next.value (.agg #[.int .i64 (X.sx), .int .i64 (X.sy)])) w
  generalize a.eval = ρ at e17 ⊢
  unfold execOp
  rw [hop]
  simp [e17, hc0, hc1, go_sem]
theorem LL43.s16 (X : LL43) (ok : LL43Ok X) {Q : Exit → Act → World → Prop} : StepG (opsOf 43 Tryz.f78) LL43.acts LL43.av X.val0 X.Wd X.a0 Q 16 := by
  intro γ listed a w o hF hC hW h1 ho h2
  obtain ⟨hd, hop, hg⟩ := fields2 (x := some 264) (y := Op.call { callee := .value (.func 99), args := #[(.tmp 262), (.tmp 263)], argTypes := #[34, 34] }) (z := none) (by kernel_rfl) ho
  have e262 : a.eval (.tmp 262) = .agg #[.int .i64 (X.ax), .int .i64 (X.ay)] := slotG hF ho h2 (j := 14) (d := 262) (by kernel_rfl) (by kernel_rfl) (by rw [ok.sz]; decide)
  have e263 : a.eval (.tmp 263) = .agg #[.int .i64 (X.sx), .int .i64 (X.sy)] := slotG hF ho h2 (j := 15) (d := 263) (by kernel_rfl) (by kernel_rfl) (by rw [ok.sz]; decide)
  have ef : a.eval (.func 99) = .func (.func 99) #[] #[] := rfl
  have hph := phase_leG (acts := LL43.acts) (m := 0) (x := 17) hC (unl (hF.lt ho) h1) rfl [16] (by kernel_rfl) (by decide)
  have hWW := hW
  generalize phase listed LL43.acts = n at hph hWW
  refine st_callG hF hC hW ho h2 (by decide) hd hg rfl (f := 99) (args := #[.agg #[.int .i64 (X.ax), .int .i64 (X.ay)], .agg #[.int .i64 (X.sx), .int .i64 (X.sy)]]) ?_ ?_ ?_
  · generalize a.eval = ρ at e262 e263 ef ⊢
    unfold execOp
    rw [hop]
    simp [e262, e263, ef, go_sem]
  · exact sless w _ _ _ _ ok.w0 ok.w1 ok.w2 ok.w3
  · intro w' hk
    have hz : phase listed LL43.acts = 0 := by
      have := phase_leG (acts := LL43.acts) (m := 0) (x := 17) hC (unl (hF.lt ho) h1) rfl [16] (by kernel_rfl) (by decide)
      omega
    rw [hz] at hW ⊢
    exact Kp.trans hW hk
theorem LL43.s17 (X : LL43) (ok : LL43Ok X) {Q : Exit → Act → World → Prop} : StepG (opsOf 43 Tryz.f78) LL43.acts LL43.av X.val0 X.Wd X.a0 Q 17 := by
  intro γ listed a w o hF hC hW h1 ho h2
  obtain ⟨hd, hop, hg⟩ := fields2 (x := some 265) (y := Op.buildSlice 23 4 #[(0, (.tmp 251)), (1, (.tmp 256)), (2, (.tmp 261)), (3, (.tmp 264))]) (z := none) (by kernel_rfl) ho
  have e251 : a.eval (.tmp 251) = .agg #[.int .i64 (X.ax + X.sx), .int .i64 (X.ay + X.sy)] := slotG hF ho h2 (j := 3) (d := 251) (by kernel_rfl) (by kernel_rfl) (by rw [ok.sz]; decide)
  have e256 : a.eval (.tmp 256) = .agg #[.int .i64 (X.ax + X.sx + X.tx), .int .i64 (X.ay + X.sy + X.ty)] := slotG hF ho h2 (j := 8) (d := 256) (by kernel_rfl) (by kernel_rfl) (by rw [ok.sz]; decide)
  have e261 : a.eval (.tmp 261) = .agg #[.int .i64 (X.ax - X.sx + X.tx), .int .i64 (X.ay - X.sy + X.ty)] := slotG hF ho h2 (j := 13) (d := 261) (by kernel_rfl) (by kernel_rfl) (by rw [ok.sz]; decide)
  have e264 : a.eval (.tmp 264) = .agg #[.int .i64 (X.ax - X.sx), .int .i64 (X.ay - X.sy)] := slotG hF ho h2 (j := 16) (d := 264) (by kernel_rfl) (by kernel_rfl) (by rw [ok.sz]; decide)
  have hu := unl (hF.lt ho) h1
  refine st_actG (k := 0) LL43.chain LL43.nodup rfl hF hC hW h1 ho h2 (Or.inr ⟨265, hd, rfl⟩) (LL43.inj (by kernel_rfl) hu) hg ?_
  intro hW0 K hK
  have hr : (execOp a.eval o).run Tryz.prog w = .ok (.value (.slice (some ⟨w.heap.size, 0, none⟩) 4 4)) (w.alloc (.cells #[.int .i64 (X.ax + X.sx), .int .i64 (X.ay + X.sy), .int .i64 (X.ax + X.sx + X.tx), .int .i64 (X.ay + X.sy + X.ty), .int .i64 (X.ax - X.sx + X.tx), .int .i64 (X.ay - X.sy + X.ty), .int .i64 (X.ax - X.sx), .int .i64 (X.ay - X.sy)] 34)) := by
    generalize a.eval = ρ at e251 e256 e261 e264 ⊢
    unfold execOp
    rw [hop]
    simp [e251, e256, e261, e264, go_sem]
  unfold Oper.wp
  rw [hr]
  exact hK _ _ ⟨w, hW0, rfl, rfl⟩
theorem LL43.s18 (X : LL43) (ok : LL43Ok X) {Q : Exit → Act → World → Prop} : StepG (opsOf 43 Tryz.f78) LL43.acts LL43.av X.val0 X.Wd X.a0 Q 18 := by
  intro γ listed a w o hF hC hW h1 ho h2
  obtain ⟨hd, hop, hg⟩ := fields2 (x := some 266) (y := Op.call { callee := .value (.func 97), args := #[(.tmp 265)], argTypes := #[23] }) (z := none) (by kernel_rfl) ho
  have e265 : a.eval (.tmp 265) = γ 0 := slotG hF ho h2 (j := 17) (d := 265) (by kernel_rfl) (by kernel_rfl) (by rw [ok.sz]; decide)
  have ef : a.eval (.func 97) = .func (.func 97) #[] #[] := rfl
  have hu := unl (hF.lt ho) h1
  refine st_actG (k := 1) LL43.chain LL43.nodup rfl hF hC hW h1 ho h2 (Or.inr ⟨266, hd, rfl⟩) (LL43.inj (by kernel_rfl) hu) hg ?_
  intro hW0 K hK
  obtain ⟨w1, k1, g0, rfl⟩ := hW0
  rw [g0] at e265
  have hr : (execOp a.eval o).run Tryz.prog (w1.alloc (.cells #[.int .i64 (X.ax + X.sx), .int .i64 (X.ay + X.sy), .int .i64 (X.ax + X.sx + X.tx), .int .i64 (X.ay + X.sy + X.ty), .int .i64 (X.ax - X.sx + X.tx), .int .i64 (X.ay - X.sy + X.ty), .int .i64 (X.ax - X.sx), .int .i64 (X.ay - X.sy)] 34)) = .ok (.enter 97 #[.slice (some ⟨w1.heap.size, 0, none⟩) 4 4]) (w1.alloc (.cells #[.int .i64 (X.ax + X.sx), .int .i64 (X.ay + X.sy), .int .i64 (X.ax + X.sx + X.tx), .int .i64 (X.ay + X.sy + X.ty), .int .i64 (X.ax - X.sx + X.tx), .int .i64 (X.ay - X.sy + X.ty), .int .i64 (X.ax - X.sx), .int .i64 (X.ay - X.sy)] 34)) := by
    generalize a.eval = ρ at e265 ef ⊢
    unfold execOp
    rw [hop]
    simp [e265, ef, go_sem]
  unfold Oper.wp
  rw [hr]
  refine Calls.mono (sclosed _ _ _ _) ?_
  rintro e w' ⟨rfl, h⟩
  exact hK _ _ ⟨w1, k1, rfl, h⟩
theorem LL43.s19 (X : LL43) (ok : LL43Ok X) {Q : Exit → Act → World → Prop} : StepG (opsOf 43 Tryz.f78) LL43.acts LL43.av X.val0 X.Wd X.a0 Q 19 := by
  intro γ listed a w o hF hC hW h1 ho h2
  obtain ⟨hd, hop, hg⟩ := fields2 (x := some 267) (y := Op.buildSlice 29 1 #[(0, (.tmp 266))]) (z := none) (by kernel_rfl) ho
  have e266 : a.eval (.tmp 266) = γ 1 := slotG hF ho h2 (j := 18) (d := 266) (by kernel_rfl) (by kernel_rfl) (by rw [ok.sz]; decide)
  have hu := unl (hF.lt ho) h1
  refine st_actG (k := 2) LL43.chain LL43.nodup rfl hF hC hW h1 ho h2 (Or.inr ⟨267, hd, rfl⟩) (LL43.inj (by kernel_rfl) hu) hg ?_
  intro hW0 K hK
  obtain ⟨w1, k1, g1, k2⟩ := hW0
  rw [g1] at e266
  have hr : (execOp a.eval o).run Tryz.prog w = .ok (.value (.slice (some ⟨w.heap.size, 0, none⟩) 1 1)) (w.alloc (.cells #[.slice (some ⟨w1.heap.size, 0, none⟩) 4 4, .bool true] 25)) := by
    generalize a.eval = ρ at e266 ⊢
    unfold execOp
    rw [hop]
    simp [e266, go_sem]
  unfold Oper.wp
  rw [hr]
  exact hK _ _ ⟨w1, w, k1, k2, rfl, rfl⟩
theorem LL43.s20 (X : LL43) (ok : LL43Ok X) {Q : Exit → Act → World → Prop} : StepG (opsOf 43 Tryz.f78) LL43.acts LL43.av X.val0 X.Wd X.a0 Q 20 := by
  intro γ listed a w o hF hC hW h1 ho h2
  obtain ⟨hd, hop, hg⟩ := fields2 (x := some 268) (y := Op.call { callee := .builtin .append, args := #[(.tmp 248), (.tmp 267)], argTypes := #[29, 29] }) (z := none) (by kernel_rfl) ho
  have e248 : a.eval (.tmp 248) = X.v := slotG hF ho h2 (j := 0) (d := 248) (by kernel_rfl) (by kernel_rfl) (by rw [ok.sz]; decide)
  have e267 : a.eval (.tmp 267) = γ 2 := slotG hF ho h2 (j := 19) (d := 267) (by kernel_rfl) (by kernel_rfl) (by rw [ok.sz]; decide)
  have hu := unl (hF.lt ho) h1
  refine st_actG (k := 3) LL43.chain LL43.nodup rfl hF hC hW h1 ho h2 (Or.inr ⟨268, hd, rfl⟩) (LL43.inj (by kernel_rfl) hu) hg ?_
  intro hW0 K hK
  obtain ⟨w1, w2, k1, k2, g2, rfl⟩ := hW0
  rw [g2] at e267
  have nn : Nw X.W w2 := Kp.nw (Kp.trans k1 (Kp.trans ((Kp.refl w1).alloc _ _) k2))
  have hu : OwnP w2 X.W.heap.size (.slice (some ⟨w1.heap.size, 0, none⟩) 4 4) [(X.ax + X.sx, X.ay + X.sy), (X.ax + X.sx + X.tx, X.ay + X.sy + X.ty), (X.ax - X.sx + X.tx, X.ay - X.sy + X.ty), (X.ax - X.sx, X.ay - X.sy)] := OwnP.nw (ownp4 w1 _ (Kp.size k1) _ _ _ _ _ _ _ _ ) (Kp.nw k2)
  refine wp_lnx X.W w2 (.tmp 248) (.tmp 267) hop X.B X.v X.it (.slice (some ⟨w1.heap.size, 0, none⟩) 4 4) ⟨[(X.ax + X.sx, X.ay + X.sy), (X.ax + X.sx + X.tx, X.ay + X.sy + X.ty), (X.ax - X.sx + X.tx, X.ay - X.sy + X.ty), (X.ax - X.sx, X.ay - X.sy)], true⟩ e248 ok.ho nn ok.hB hu e267 ok.hl ?_
  intro g' c' w' h1 h2 h3
  exact hK _ _ ⟨_, h1, h2, h3, fun c hc => (OwnQ.lt hu c hc).1⟩
theorem LL43.s21 (X : LL43) (ok : LL43Ok X) {Q : Exit → Act → World → Prop} : StepG (opsOf 43 Tryz.f78) LL43.acts LL43.av X.val0 X.Wd X.a0 Q 21 := by
  intro γ listed a w o hF hC hW h1 ho h2
  obtain ⟨hd, hop, hg⟩ := fields2 (x := some 10) (y := Op.assign (.tmp 268)) (z := none) (by kernel_rfl) ho
  have e268 : a.eval (.tmp 268) = γ 3 := slotG hF ho h2 (j := 20) (d := 268) (by kernel_rfl) (by kernel_rfl) (by rw [ok.sz]; decide)
  have hu := unl (hF.lt ho) h1
  refine st_actG (k := 4) LL43.chain LL43.nodup rfl hF hC hW h1 ho h2 (Or.inr ⟨10, hd, rfl⟩) (LL43.inj (by kernel_rfl) hu) hg ?_
  intro hW0 K hK
  have hr : (execOp a.eval o).run Tryz.prog w = .ok (.value (γ 3)) w := by
    generalize a.eval = ρ at e268 ⊢
    unfold execOp
    rw [hop]
    simp [e268, go_sem]
  unfold Oper.wp
  rw [hr]
  exact hK _ _ hW0
theorem LL43.size : (opsOf 43 Tryz.f78).size = 22 := by kernel_rfl
theorem LL43.steps (X : LL43) (ok : LL43Ok X) {Q : Exit → Act → World → Prop} (i : Nat) (hi : i < (opsOf 43 Tryz.f78).size) : StepG (opsOf 43 Tryz.f78) LL43.acts LL43.av X.val0 X.Wd X.a0 Q i := by
  rw [LL43.size] at hi
  have hc : i = 0 ∨ i = 1 ∨ i = 2 ∨ i = 3 ∨ i = 4 ∨ i = 5 ∨ i = 6 ∨ i = 7 ∨ i = 8 ∨ i = 9 ∨ i = 10 ∨ i = 11 ∨ i = 12 ∨ i = 13 ∨ i = 14 ∨ i = 15 ∨ i = 16 ∨ i = 17 ∨ i = 18 ∨ i = 19 ∨ i = 20 ∨ i = 21 := by omega
  rcases hc with rfl | rfl | rfl | rfl | rfl | rfl | rfl | rfl | rfl | rfl | rfl | rfl | rfl | rfl | rfl | rfl | rfl | rfl | rfl | rfl | rfl | rfl
  · exact LL43.s0 X ok
  · exact LL43.s1 X ok
  · exact LL43.s2 X ok
  · exact LL43.s3 X ok
  · exact LL43.s4 X ok
  · exact LL43.s5 X ok
  · exact LL43.s6 X ok
  · exact LL43.s7 X ok
  · exact LL43.s8 X ok
  · exact LL43.s9 X ok
  · exact LL43.s10 X ok
  · exact LL43.s11 X ok
  · exact LL43.s12 X ok
  · exact LL43.s13 X ok
  · exact LL43.s14 X ok
  · exact LL43.s15 X ok
  · exact LL43.s16 X ok
  · exact LL43.s17 X ok
  · exact LL43.s18 X ok
  · exact LL43.s19 X ok
  · exact LL43.s20 X ok
  · exact LL43.s21 X ok
theorem LL43.puts (X : LL43) (γ : Nat → Value) (a0 : Act) : putsL (valG LL43.av X.val0 γ) (opsOf 43 Tryz.f78).toList a0 = ((((((((((((((((((((((a0.put (some 248) (X.v)).put (some 249) (.agg #[.int .i64 (X.ax), .int .i64 (X.ay)])).put (some 250) (.agg #[.int .i64 (X.sx), .int .i64 (X.sy)])).put (some 251) (.agg #[.int .i64 (X.ax + X.sx), .int .i64 (X.ay + X.sy)])).put (some 252) (.agg #[.int .i64 (X.ax), .int .i64 (X.ay)])).put (some 253) (.agg #[.int .i64 (X.sx), .int .i64 (X.sy)])).put (some 254) (.agg #[.int .i64 (X.ax + X.sx), .int .i64 (X.ay + X.sy)])).put (some 255) (.agg #[.int .i64 (X.tx), .int .i64 (X.ty)])).put (some 256) (.agg #[.int .i64 (X.ax + X.sx + X.tx), .int .i64 (X.ay + X.sy + X.ty)])).put (some 257) (.agg #[.int .i64 (X.ax), .int .i64 (X.ay)])).put (some 258) (.agg #[.int .i64 (X.sx), .int .i64 (X.sy)])).put (some 259) (.agg #[.int .i64 (X.ax - X.sx), .int .i64 (X.ay - X.sy)])).put (some 260) (.agg #[.int .i64 (X.tx), .int .i64 (X.ty)])).put (some 261) (.agg #[.int .i64 (X.ax - X.sx + X.tx), .int .i64 (X.ay - X.sy + X.ty)])).put (some 262) (.agg #[.int .i64 (X.ax), .int .i64 (X.ay)])).put (some 263) (.agg #[.int .i64 (X.sx), .int .i64 (X.sy)])).put (some 264) (.agg #[.int .i64 (X.ax - X.sx), .int .i64 (X.ay - X.sy)])).put (some 265) (γ 0)).put (some 266) (γ 1)).put (some 267) (γ 2)).put (some 268) (γ 3)).put (some 10) (γ 4)) := by kernel_rfl
/-- The region, whatever order comes up. -/
theorem LL43.run (X : LL43) (ok : LL43Ok X) {Q : Exit → Act → World → Prop} (w : World) (h0 : X.Wd 0 (fun _ => undef) w.drew) (hend : ∀ (γ : Nat → Value) w', X.Wd 5 γ w' → Q .normal ((((((((((((((((((((((X.a0.put (some 248) (X.v)).put (some 249) (.agg #[.int .i64 (X.ax), .int .i64 (X.ay)])).put (some 250) (.agg #[.int .i64 (X.sx), .int .i64 (X.sy)])).put (some 251) (.agg #[.int .i64 (X.ax + X.sx), .int .i64 (X.ay + X.sy)])).put (some 252) (.agg #[.int .i64 (X.ax), .int .i64 (X.ay)])).put (some 253) (.agg #[.int .i64 (X.sx), .int .i64 (X.sy)])).put (some 254) (.agg #[.int .i64 (X.ax + X.sx), .int .i64 (X.ay + X.sy)])).put (some 255) (.agg #[.int .i64 (X.tx), .int .i64 (X.ty)])).put (some 256) (.agg #[.int .i64 (X.ax + X.sx + X.tx), .int .i64 (X.ay + X.sy + X.ty)])).put (some 257) (.agg #[.int .i64 (X.ax), .int .i64 (X.ay)])).put (some 258) (.agg #[.int .i64 (X.sx), .int .i64 (X.sy)])).put (some 259) (.agg #[.int .i64 (X.ax - X.sx), .int .i64 (X.ay - X.sy)])).put (some 260) (.agg #[.int .i64 (X.tx), .int .i64 (X.ty)])).put (some 261) (.agg #[.int .i64 (X.ax - X.sx + X.tx), .int .i64 (X.ay - X.sy + X.ty)])).put (some 262) (.agg #[.int .i64 (X.ax), .int .i64 (X.ay)])).put (some 263) (.agg #[.int .i64 (X.sx), .int .i64 (X.sy)])).put (some 264) (.agg #[.int .i64 (X.ax - X.sx), .int .i64 (X.ay - X.sy)])).put (some 265) (γ 0)).put (some 266) (γ 1)).put (some 267) (γ 2)).put (some 268) (γ 3)).put (some 10) (γ 4)) w') : (Code.region 43 (opsOf 43 Tryz.f78) true).wp Tryz.prog Q X.a0 w := by
  refine reg_act (acts := LL43.acts) (av := LL43.av) (val0 := X.val0) (Wd := X.Wd) (by kernel_rfl) (by kernel_rfl) (by rw [LL43.size]; decide) (fun i hi => LL43.steps X ok i hi) _ h0 ?_
  intro γ w' h
  rw [LL43.puts]
  exact hend γ w' h
end Go.Proofs.YtfdjjbgcaojcnaaGreat
namespace Go.Proofs.YtfdjjbgcaojcnaaGreat
open Go.ChangeShapes Go.WideShapes Go.ChangeAt Go.RowKit
set_option linter.unusedVariables false

structure LL29 where
  ax : Int
  ay : Int
  px : Int
  py : Int
  ex : Int
  ey : Int
  h : Int
  j : Int
  g : Nat
  off : Nat
  n : Nat
  cq : Nat
  i : Nat
  ia : Nat
  ib : Nat
  bp : Nat
  L : List Pnt
  v : Value
  B : Nat
  it : Its
  W : World
  a0 : Act
structure LL29Ok (X : LL29) : Prop where
  a0_ : X.W.cell? ⟨X.g, X.off + X.ia * 2, none⟩ = some (.int .i64 X.ax)
  a1_ : X.W.cell? ⟨X.g, X.off + X.ia * 2 + 1, none⟩ = some (.int .i64 X.ay)
  p0_ : X.W.cell? ⟨X.g, X.off + X.i * 2, none⟩ = some (.int .i64 X.px)
  p1_ : X.W.cell? ⟨X.g, X.off + X.i * 2 + 1, none⟩ = some (.int .i64 X.py)
  e0_ : X.W.cell? ⟨X.g, X.off + X.ib * 2, none⟩ = some (.int .i64 X.ex)
  e1_ : X.W.cell? ⟨X.g, X.off + X.ib * 2 + 1, none⟩ = some (.int .i64 X.ey)
  cj : X.W.cell? ⟨X.bp, 1, none⟩ = some (.int .i64 X.j)
  d1 : IntKind.i64.wrap ((X.i : Int) + (X.n : Int)) = (X.i : Int) + (X.n : Int)
  d2 : IntKind.i64.wrap ((X.i : Int) + (X.n : Int) - 1) = (X.i : Int) + (X.n : Int) - 1
  d3 : ((X.i : Int) + (X.n : Int) - 1).tmod (X.n : Int) = (X.ia : Int)
  d4 : IntKind.i64.wrap ((X.i : Int) + 1) = (X.i : Int) + 1
  d5 : ((X.i : Int) + 1).tmod (X.n : Int) = (X.ib : Int)
  n0 : ¬ X.n = 0
  k1 : X.ia < X.n
  k2 : X.i < X.n
  k3 : X.ib < X.n
  hJ : RingSays 100 #[.agg #[.int .i64 X.ax, .int .i64 X.ay], .agg #[.int .i64 X.px, .int .i64 X.py], .agg #[.int .i64 X.ex, .int .i64 X.ey], .int .i64 X.h, .int .i64 X.j] X.L
  ho : OwnLn X.W X.B X.v X.it
  hB : X.B ≤ X.W.heap.size
  hl : X.it.length + 1 ≤ 1000000
  e3 : X.a0.eval (.tmp 3) = .pointer (some ⟨X.bp, 0, none⟩)
  e5 : X.a0.eval (.tmp 5) = .int .i64 X.h
  e6 : X.a0.eval (.tmp 6) = .slice (some ⟨X.g, X.off, none⟩) X.n X.cq
  e9 : X.a0.eval (.tmp 9) = .int .i64 (X.n : Int)
  e10 : X.a0.eval (.tmp 10) = X.v
  e16 : X.a0.eval (.tmp 16) = .int .i64 (X.i : Int)
  sz : X.a0.tmps.size = 270
def LL29.val0 (X : LL29) : Nat → Value
  | 136 => X.v
  | 137 => .slice (some ⟨X.g, X.off, none⟩) X.n X.cq
  | 138 => .int .i64 (X.i : Int)
  | 139 => .int .i64 (X.n : Int)
  | 140 => .int .i64 ((X.i : Int) + (X.n : Int))
  | 141 => .int .i64 ((X.i : Int) + (X.n : Int) - 1)
  | 142 => .int .i64 (X.n : Int)
  | 143 => .int .i64 (X.ia : Int)
  | 144 => .pointer (some ⟨X.g, X.off + X.ia * 2, none⟩)
  | 145 => .agg #[.int .i64 X.ax, .int .i64 X.ay]
  | 146 => .slice (some ⟨X.g, X.off, none⟩) X.n X.cq
  | 147 => .int .i64 (X.i : Int)
  | 148 => .pointer (some ⟨X.g, X.off + X.i * 2, none⟩)
  | 149 => .agg #[.int .i64 X.px, .int .i64 X.py]
  | 150 => .slice (some ⟨X.g, X.off, none⟩) X.n X.cq
  | 151 => .int .i64 (X.i : Int)
  | 152 => .int .i64 ((X.i : Int) + 1)
  | 153 => .int .i64 (X.n : Int)
  | 154 => .int .i64 (X.ib : Int)
  | 155 => .pointer (some ⟨X.g, X.off + X.ib * 2, none⟩)
  | 156 => .agg #[.int .i64 X.ex, .int .i64 X.ey]
  | 157 => .int .i64 X.h
  | 158 => .pointer (some ⟨X.bp, 1, none⟩)
  | 159 => .int .i64 X.j
  | _ => undef
def LL29.av : Nat → Option Nat
  | 160 => some 0
  | 161 => some 1
  | 162 => some 2
  | 10 => some 3
  | _ => none
def LL29.acts : List Nat := [24, 25, 26, 27]
/-- The world, by how many of the acting ones have come up. -/
def LL29.Wd (X : LL29) : Nat → (Nat → Value) → World → Prop
  | 0, _, w => w = X.W
  | 1, γ, w => ∃ u, γ 0 = .agg #[u, .bool true] ∧ OwnP w X.W.heap.size u X.L ∧ Nw X.W w
  | 2, γ, w => ∃ w1 u, OwnP w1 X.W.heap.size u X.L ∧ Nw X.W w1 ∧ γ 1 = .slice (some ⟨w1.heap.size, 0, none⟩) 1 1 ∧ w = w1.alloc (.cells #[u, .bool true] 25)
  | 3, γ, w => ∃ u, OwnLn w X.B (γ 2) (X.it ++ [(u, ⟨X.L, true⟩)]) ∧ Below X.B X.W w
  | _, γ, w => ∃ u, OwnLn w X.B (γ 3) (X.it ++ [(u, ⟨X.L, true⟩)]) ∧ Below X.B X.W w
theorem LL29.chain : chainG (opsOf 29 Tryz.f78) LL29.acts = true := by kernel_rfl
theorem LL29.nodup : LL29.acts.Nodup := by decide
theorem LL29.inj {listed : Array Bool} {i k : Nat} (h : (List.range (opsOf 29 Tryz.f78).size).all (fun j => decide (j = i) || !(match dstOf (opsOf 29 Tryz.f78) j with | some d => decide (LL29.av d = some k) | none => false)) = true) (hu : listed.getD i false = false) : ∀ d, got (opsOf 29 Tryz.f78) listed d → LL29.av d ≠ some k := by
  rintro d ⟨j, h1, h2⟩ h3
  have hlt : j < (opsOf 29 Tryz.f78).size := by
    rcases Nat.lt_or_ge j (opsOf 29 Tryz.f78).size with h4 | h4
    · exact h4
    · unfold dstOf at h2; rw [Array.getElem?_eq_none h4] at h2; cases h2
  have h5 := List.all_eq_true.1 h j (List.mem_range.2 hlt)
  rw [h2] at h5
  simp only [h3, decide_true, Bool.not_true, Bool.or_false, decide_eq_true_eq] at h5
  subst h5
  rw [hu] at h1
  cases h1
theorem LL29.s0 (X : LL29) (ok : LL29Ok X) {Q : Exit → Act → World → Prop} : StepG (opsOf 29 Tryz.f78) LL29.acts LL29.av X.val0 X.Wd X.a0 Q 0 := by
  intro γ listed a w o hF hC hW h1 ho h2
  obtain ⟨hd, hop, hg⟩ := fields2 (x := some 136) (y := Op.move (.tmp 10)) (z := none) (by kernel_rfl) ho
  have e10 : a.eval (.tmp 10) = X.v := (hF.no 10 (early_of hC (unl (hF.lt ho) h1) (j := 27) (by kernel_rfl) [26, 0] (by kernel_rfl) (by decide))).trans ok.e10
  refine st_pureG hF hC hW ho h2 (by decide) hd hg rfl ?_
  show _ = Result.ok (Next.value (X.v)) w
  generalize a.eval = ρ at e10 ⊢
  unfold execOp
  rw [hop]
  simp [e10, go_sem]
theorem LL29.s1 (X : LL29) (ok : LL29Ok X) {Q : Exit → Act → World → Prop} : StepG (opsOf 29 Tryz.f78) LL29.acts LL29.av X.val0 X.Wd X.a0 Q 1 := by
  intro γ listed a w o hF hC hW h1 ho h2
  obtain ⟨hd, hop, hg⟩ := fields2 (x := some 137) (y := Op.move (.tmp 6)) (z := none) (by kernel_rfl) ho
  have e6 : a.eval (.tmp 6) = .slice (some ⟨X.g, X.off, none⟩) X.n X.cq := (hF.eval0 (by kernel_rfl)).trans ok.e6
  refine st_pureG hF hC hW ho h2 (by decide) hd hg rfl ?_
  show _ = Result.ok (Next.value (.slice (some ⟨X.g, X.off, none⟩) X.n X.cq)) w
  generalize a.eval = ρ at e6 ⊢
  unfold execOp
  rw [hop]
  simp [e6, go_sem]
theorem LL29.s2 (X : LL29) (ok : LL29Ok X) {Q : Exit → Act → World → Prop} : StepG (opsOf 29 Tryz.f78) LL29.acts LL29.av X.val0 X.Wd X.a0 Q 2 := by
  intro γ listed a w o hF hC hW h1 ho h2
  obtain ⟨hd, hop, hg⟩ := fields2 (x := some 138) (y := Op.move (.tmp 16)) (z := none) (by kernel_rfl) ho
  have e16 : a.eval (.tmp 16) = .int .i64 (X.i : Int) := (hF.eval0 (by kernel_rfl)).trans ok.e16
  refine st_pureG hF hC hW ho h2 (by decide) hd hg rfl ?_
  show _ = Result.ok (Next.value (.int .i64 (X.i : Int))) w
  generalize a.eval = ρ at e16 ⊢
  unfold execOp
  rw [hop]
  simp [e16, go_sem]
theorem LL29.s3 (X : LL29) (ok : LL29Ok X) {Q : Exit → Act → World → Prop} : StepG (opsOf 29 Tryz.f78) LL29.acts LL29.av X.val0 X.Wd X.a0 Q 3 := by
  intro γ listed a w o hF hC hW h1 ho h2
  obtain ⟨hd, hop, hg⟩ := fields2 (x := some 139) (y := Op.move (.tmp 9)) (z := none) (by kernel_rfl) ho
  have e9 : a.eval (.tmp 9) = .int .i64 (X.n : Int) := (hF.eval0 (by kernel_rfl)).trans ok.e9
  refine st_pureG hF hC hW ho h2 (by decide) hd hg rfl ?_
  show _ = Result.ok (Next.value (.int .i64 (X.n : Int))) w
  generalize a.eval = ρ at e9 ⊢
  unfold execOp
  rw [hop]
  simp [e9, go_sem]
theorem LL29.s4 (X : LL29) (ok : LL29Ok X) {Q : Exit → Act → World → Prop} : StepG (opsOf 29 Tryz.f78) LL29.acts LL29.av X.val0 X.Wd X.a0 Q 4 := by
  intro γ listed a w o hF hC hW h1 ho h2
  obtain ⟨hd, hop, hg⟩ := fields2 (x := some 140) (y := Op.binOp .add 3 (.tmp 138) (.tmp 139) 3) (z := none) (by kernel_rfl) ho
  have e138 : a.eval (.tmp 138) = .int .i64 (X.i : Int) := slotG hF ho h2 (j := 2) (d := 138) (by kernel_rfl) (by kernel_rfl) (by rw [ok.sz]; decide)
  have e139 : a.eval (.tmp 139) = .int .i64 (X.n : Int) := slotG hF ho h2 (j := 3) (d := 139) (by kernel_rfl) (by kernel_rfl) (by rw [ok.sz]; decide)
  refine st_pureG hF hC hW ho h2 (by decide) hd hg rfl ?_
  show _ = Result.ok (Next.value (.int .i64 ((X.i : Int) + (X.n : Int)))) w
  generalize a.eval = ρ at e138 e139 ⊢
  unfold execOp
  rw [hop]
  simp [e138, e139, ok.d1, go_sem]
theorem LL29.s5 (X : LL29) (ok : LL29Ok X) {Q : Exit → Act → World → Prop} : StepG (opsOf 29 Tryz.f78) LL29.acts LL29.av X.val0 X.Wd X.a0 Q 5 := by
  intro γ listed a w o hF hC hW h1 ho h2
  obtain ⟨hd, hop, hg⟩ := fields2 (x := some 141) (y := Op.binOp .sub 3 (.tmp 140) (.const (.int .i64 1)) 3) (z := none) (by kernel_rfl) ho
  have e140 : a.eval (.tmp 140) = .int .i64 ((X.i : Int) + (X.n : Int)) := slotG hF ho h2 (j := 4) (d := 140) (by kernel_rfl) (by kernel_rfl) (by rw [ok.sz]; decide)
  have ec1 : a.eval (.const (.int .i64 1)) = .int .i64 1 := rfl
  refine st_pureG hF hC hW ho h2 (by decide) hd hg rfl ?_
  show _ = Result.ok (Next.value (.int .i64 ((X.i : Int) + (X.n : Int) - 1))) w
  generalize a.eval = ρ at e140 ec1 ⊢
  unfold execOp
  rw [hop]
  simp [e140, ec1, ok.d2, go_sem]
theorem LL29.s6 (X : LL29) (ok : LL29Ok X) {Q : Exit → Act → World → Prop} : StepG (opsOf 29 Tryz.f78) LL29.acts LL29.av X.val0 X.Wd X.a0 Q 6 := by
  intro γ listed a w o hF hC hW h1 ho h2
  obtain ⟨hd, hop, hg⟩ := fields2 (x := some 142) (y := Op.move (.tmp 9)) (z := none) (by kernel_rfl) ho
  have e9 : a.eval (.tmp 9) = .int .i64 (X.n : Int) := (hF.eval0 (by kernel_rfl)).trans ok.e9
  refine st_pureG hF hC hW ho h2 (by decide) hd hg rfl ?_
  show _ = Result.ok (Next.value (.int .i64 (X.n : Int))) w
  generalize a.eval = ρ at e9 ⊢
  unfold execOp
  rw [hop]
  simp [e9, go_sem]
theorem LL29.s7 (X : LL29) (ok : LL29Ok X) {Q : Exit → Act → World → Prop} : StepG (opsOf 29 Tryz.f78) LL29.acts LL29.av X.val0 X.Wd X.a0 Q 7 := by
  intro γ listed a w o hF hC hW h1 ho h2
  obtain ⟨hd, hop, hg⟩ := fields2 (x := some 143) (y := Op.binOp .rem 3 (.tmp 141) (.tmp 142) 3) (z := none) (by kernel_rfl) ho
  have e141 : a.eval (.tmp 141) = .int .i64 ((X.i : Int) + (X.n : Int) - 1) := slotG hF ho h2 (j := 5) (d := 141) (by kernel_rfl) (by kernel_rfl) (by rw [ok.sz]; decide)
  have e142 : a.eval (.tmp 142) = .int .i64 (X.n : Int) := slotG hF ho h2 (j := 6) (d := 142) (by kernel_rfl) (by kernel_rfl) (by rw [ok.sz]; decide)
  refine st_pureG hF hC hW ho h2 (by decide) hd hg rfl ?_
  show _ = Result.ok (Next.value (.int .i64 (X.ia : Int))) w
  generalize a.eval = ρ at e141 e142 ⊢
  unfold execOp
  rw [hop]
  simp [e141, e142, ok.d3, ok.n0, go_sem]
theorem LL29.s8 (X : LL29) (ok : LL29Ok X) {Q : Exit → Act → World → Prop} : StepG (opsOf 29 Tryz.f78) LL29.acts LL29.av X.val0 X.Wd X.a0 Q 8 := by
  intro γ listed a w o hF hC hW h1 ho h2
  obtain ⟨hd, hop, hg⟩ := fields2 (x := some 144) (y := Op.indexAddr 23 (.tmp 137) (.tmp 143)) (z := none) (by kernel_rfl) ho
  have e137 : a.eval (.tmp 137) = .slice (some ⟨X.g, X.off, none⟩) X.n X.cq := slotG hF ho h2 (j := 1) (d := 137) (by kernel_rfl) (by kernel_rfl) (by rw [ok.sz]; decide)
  have e143 : a.eval (.tmp 143) = .int .i64 (X.ia : Int) := slotG hF ho h2 (j := 7) (d := 143) (by kernel_rfl) (by kernel_rfl) (by rw [ok.sz]; decide)
  refine st_pureG hF hC hW ho h2 (by decide) hd hg rfl ?_
  show _ = Result.ok (Next.value (.pointer (some ⟨X.g, X.off + X.ia * 2, none⟩))) w
  generalize a.eval = ρ at e137 e143 ⊢
  unfold execOp
  rw [hop]
  simp [e137, e143, ok.k1, go_sem]
theorem LL29.s9 (X : LL29) (ok : LL29Ok X) {Q : Exit → Act → World → Prop} : StepG (opsOf 29 Tryz.f78) LL29.acts LL29.av X.val0 X.Wd X.a0 Q 9 := by
  intro γ listed a w o hF hC hW h1 ho h2
  obtain ⟨hd, hop, hg⟩ := fields2 (x := some 145) (y := Op.load 34 (.tmp 144)) (z := none) (by kernel_rfl) ho
  have e144 : a.eval (.tmp 144) = .pointer (some ⟨X.g, X.off + X.ia * 2, none⟩) := slotG hF ho h2 (j := 8) (d := 144) (by kernel_rfl) (by kernel_rfl) (by rw [ok.sz]; decide)
  have hph := phase_leG (acts := LL29.acts) (m := 0) (x := 24) hC (unl (hF.lt ho) h1) rfl [9] (by kernel_rfl) (by decide)
  have hWW := hW
  generalize phase listed LL29.acts = n at hph hWW
  have hk : w = X.W := by
    obtain rfl : n = 0 := by omega
    exact hWW
  have hc0 := ok.a0_
  rw [← hk] at hc0
  have hc1 := ok.a1_
  rw [← hk] at hc1
  refine st_pureG hF hC hW ho h2 (by decide) hd hg rfl ?_
  show _ = Result.ok (Next.value (.agg #[.int .i64 X.ax, .int .i64 X.ay])) w
  generalize a.eval = ρ at e144 ⊢
  unfold execOp
  rw [hop]
  simp [e144, hc0, hc1, go_sem]
theorem LL29.s10 (X : LL29) (ok : LL29Ok X) {Q : Exit → Act → World → Prop} : StepG (opsOf 29 Tryz.f78) LL29.acts LL29.av X.val0 X.Wd X.a0 Q 10 := by
  intro γ listed a w o hF hC hW h1 ho h2
  obtain ⟨hd, hop, hg⟩ := fields2 (x := some 146) (y := Op.move (.tmp 6)) (z := none) (by kernel_rfl) ho
  have e6 : a.eval (.tmp 6) = .slice (some ⟨X.g, X.off, none⟩) X.n X.cq := (hF.eval0 (by kernel_rfl)).trans ok.e6
  refine st_pureG hF hC hW ho h2 (by decide) hd hg rfl ?_
  show _ = Result.ok (Next.value (.slice (some ⟨X.g, X.off, none⟩) X.n X.cq)) w
  generalize a.eval = ρ at e6 ⊢
  unfold execOp
  rw [hop]
  simp [e6, go_sem]
theorem LL29.s11 (X : LL29) (ok : LL29Ok X) {Q : Exit → Act → World → Prop} : StepG (opsOf 29 Tryz.f78) LL29.acts LL29.av X.val0 X.Wd X.a0 Q 11 := by
  intro γ listed a w o hF hC hW h1 ho h2
  obtain ⟨hd, hop, hg⟩ := fields2 (x := some 147) (y := Op.move (.tmp 16)) (z := none) (by kernel_rfl) ho
  have e16 : a.eval (.tmp 16) = .int .i64 (X.i : Int) := (hF.eval0 (by kernel_rfl)).trans ok.e16
  refine st_pureG hF hC hW ho h2 (by decide) hd hg rfl ?_
  show _ = Result.ok (Next.value (.int .i64 (X.i : Int))) w
  generalize a.eval = ρ at e16 ⊢
  unfold execOp
  rw [hop]
  simp [e16, go_sem]
theorem LL29.s12 (X : LL29) (ok : LL29Ok X) {Q : Exit → Act → World → Prop} : StepG (opsOf 29 Tryz.f78) LL29.acts LL29.av X.val0 X.Wd X.a0 Q 12 := by
  intro γ listed a w o hF hC hW h1 ho h2
  obtain ⟨hd, hop, hg⟩ := fields2 (x := some 148) (y := Op.indexAddr 23 (.tmp 146) (.tmp 147)) (z := none) (by kernel_rfl) ho
  have e146 : a.eval (.tmp 146) = .slice (some ⟨X.g, X.off, none⟩) X.n X.cq := slotG hF ho h2 (j := 10) (d := 146) (by kernel_rfl) (by kernel_rfl) (by rw [ok.sz]; decide)
  have e147 : a.eval (.tmp 147) = .int .i64 (X.i : Int) := slotG hF ho h2 (j := 11) (d := 147) (by kernel_rfl) (by kernel_rfl) (by rw [ok.sz]; decide)
  refine st_pureG hF hC hW ho h2 (by decide) hd hg rfl ?_
  show _ = Result.ok (Next.value (.pointer (some ⟨X.g, X.off + X.i * 2, none⟩))) w
  generalize a.eval = ρ at e146 e147 ⊢
  unfold execOp
  rw [hop]
  simp [e146, e147, ok.k2, go_sem]
theorem LL29.s13 (X : LL29) (ok : LL29Ok X) {Q : Exit → Act → World → Prop} : StepG (opsOf 29 Tryz.f78) LL29.acts LL29.av X.val0 X.Wd X.a0 Q 13 := by
  intro γ listed a w o hF hC hW h1 ho h2
  obtain ⟨hd, hop, hg⟩ := fields2 (x := some 149) (y := Op.load 34 (.tmp 148)) (z := none) (by kernel_rfl) ho
  have e148 : a.eval (.tmp 148) = .pointer (some ⟨X.g, X.off + X.i * 2, none⟩) := slotG hF ho h2 (j := 12) (d := 148) (by kernel_rfl) (by kernel_rfl) (by rw [ok.sz]; decide)
  have hph := phase_leG (acts := LL29.acts) (m := 0) (x := 24) hC (unl (hF.lt ho) h1) rfl [13] (by kernel_rfl) (by decide)
  have hWW := hW
  generalize phase listed LL29.acts = n at hph hWW
  have hk : w = X.W := by
    obtain rfl : n = 0 := by omega
    exact hWW
  have hc0 := ok.p0_
  rw [← hk] at hc0
  have hc1 := ok.p1_
  rw [← hk] at hc1
  refine st_pureG hF hC hW ho h2 (by decide) hd hg rfl ?_
  show _ = Result.ok (Next.value (.agg #[.int .i64 X.px, .int .i64 X.py])) w
  generalize a.eval = ρ at e148 ⊢
  unfold execOp
  rw [hop]
  simp [e148, hc0, hc1, go_sem]
theorem LL29.s14 (X : LL29) (ok : LL29Ok X) {Q : Exit → Act → World → Prop} : StepG (opsOf 29 Tryz.f78) LL29.acts LL29.av X.val0 X.Wd X.a0 Q 14 := by
  intro γ listed a w o hF hC hW h1 ho h2
  obtain ⟨hd, hop, hg⟩ := fields2 (x := some 150) (y := Op.move (.tmp 6)) (z := none) (by kernel_rfl) ho
  have e6 : a.eval (.tmp 6) = .slice (some ⟨X.g, X.off, none⟩) X.n X.cq := (hF.eval0 (by kernel_rfl)).trans ok.e6
  refine st_pureG hF hC hW ho h2 (by decide) hd hg rfl ?_
  show _ = Result.ok (Next.value (.slice (some ⟨X.g, X.off, none⟩) X.n X.cq)) w
  generalize a.eval = ρ at e6 ⊢
  unfold execOp
  rw [hop]
  simp [e6, go_sem]
theorem LL29.s15 (X : LL29) (ok : LL29Ok X) {Q : Exit → Act → World → Prop} : StepG (opsOf 29 Tryz.f78) LL29.acts LL29.av X.val0 X.Wd X.a0 Q 15 := by
  intro γ listed a w o hF hC hW h1 ho h2
  obtain ⟨hd, hop, hg⟩ := fields2 (x := some 151) (y := Op.move (.tmp 16)) (z := none) (by kernel_rfl) ho
  have e16 : a.eval (.tmp 16) = .int .i64 (X.i : Int) := (hF.eval0 (by kernel_rfl)).trans ok.e16
  refine st_pureG hF hC hW ho h2 (by decide) hd hg rfl ?_
  show _ = Result.ok (Next.value (.int .i64 (X.i : Int))) w
  generalize a.eval = ρ at e16 ⊢
  unfold execOp
  rw [hop]
  simp [e16, go_sem]
theorem LL29.s16 (X : LL29) (ok : LL29Ok X) {Q : Exit → Act → World → Prop} : StepG (opsOf 29 Tryz.f78) LL29.acts LL29.av X.val0 X.Wd X.a0 Q 16 := by
  intro γ listed a w o hF hC hW h1 ho h2
  obtain ⟨hd, hop, hg⟩ := fields2 (x := some 152) (y := Op.binOp .add 3 (.tmp 151) (.const (.int .i64 1)) 3) (z := none) (by kernel_rfl) ho
  have e151 : a.eval (.tmp 151) = .int .i64 (X.i : Int) := slotG hF ho h2 (j := 15) (d := 151) (by kernel_rfl) (by kernel_rfl) (by rw [ok.sz]; decide)
  have ec1 : a.eval (.const (.int .i64 1)) = .int .i64 1 := rfl
  refine st_pureG hF hC hW ho h2 (by decide) hd hg rfl ?_
  show _ = Result.ok (Next.value (.int .i64 ((X.i : Int) + 1))) w
  generalize a.eval = ρ at e151 ec1 ⊢
  unfold execOp
  rw [hop]
  simp [e151, ec1, ok.d4, go_sem]
theorem LL29.s17 (X : LL29) (ok : LL29Ok X) {Q : Exit → Act → World → Prop} : StepG (opsOf 29 Tryz.f78) LL29.acts LL29.av X.val0 X.Wd X.a0 Q 17 := by
  intro γ listed a w o hF hC hW h1 ho h2
  obtain ⟨hd, hop, hg⟩ := fields2 (x := some 153) (y := Op.move (.tmp 9)) (z := none) (by kernel_rfl) ho
  have e9 : a.eval (.tmp 9) = .int .i64 (X.n : Int) := (hF.eval0 (by kernel_rfl)).trans ok.e9
  refine st_pureG hF hC hW ho h2 (by decide) hd hg rfl ?_
  show _ = Result.ok (Next.value (.int .i64 (X.n : Int))) w
  generalize a.eval = ρ at e9 ⊢
  unfold execOp
  rw [hop]
  simp [e9, go_sem]
theorem LL29.s18 (X : LL29) (ok : LL29Ok X) {Q : Exit → Act → World → Prop} : StepG (opsOf 29 Tryz.f78) LL29.acts LL29.av X.val0 X.Wd X.a0 Q 18 := by
  intro γ listed a w o hF hC hW h1 ho h2
  obtain ⟨hd, hop, hg⟩ := fields2 (x := some 154) (y := Op.binOp .rem 3 (.tmp 152) (.tmp 153) 3) (z := none) (by kernel_rfl) ho
  have e152 : a.eval (.tmp 152) = .int .i64 ((X.i : Int) + 1) := slotG hF ho h2 (j := 16) (d := 152) (by kernel_rfl) (by kernel_rfl) (by rw [ok.sz]; decide)
  have e153 : a.eval (.tmp 153) = .int .i64 (X.n : Int) := slotG hF ho h2 (j := 17) (d := 153) (by kernel_rfl) (by kernel_rfl) (by rw [ok.sz]; decide)
  refine st_pureG hF hC hW ho h2 (by decide) hd hg rfl ?_
  show _ = Result.ok (Next.value (.int .i64 (X.ib : Int))) w
  generalize a.eval = ρ at e152 e153 ⊢
  unfold execOp
  rw [hop]
  simp [e152, e153, ok.d5, ok.n0, go_sem]
theorem LL29.s19 (X : LL29) (ok : LL29Ok X) {Q : Exit → Act → World → Prop} : StepG (opsOf 29 Tryz.f78) LL29.acts LL29.av X.val0 X.Wd X.a0 Q 19 := by
  intro γ listed a w o hF hC hW h1 ho h2
  obtain ⟨hd, hop, hg⟩ := fields2 (x := some 155) (y := Op.indexAddr 23 (.tmp 150) (.tmp 154)) (z := none) (by kernel_rfl) ho
  have e150 : a.eval (.tmp 150) = .slice (some ⟨X.g, X.off, none⟩) X.n X.cq := slotG hF ho h2 (j := 14) (d := 150) (by kernel_rfl) (by kernel_rfl) (by rw [ok.sz]; decide)
  have e154 : a.eval (.tmp 154) = .int .i64 (X.ib : Int) := slotG hF ho h2 (j := 18) (d := 154) (by kernel_rfl) (by kernel_rfl) (by rw [ok.sz]; decide)
  refine st_pureG hF hC hW ho h2 (by decide) hd hg rfl ?_
  show _ = Result.ok (Next.value (.pointer (some ⟨X.g, X.off + X.ib * 2, none⟩))) w
  generalize a.eval = ρ at e150 e154 ⊢
  unfold execOp
  rw [hop]
  simp [e150, e154, ok.k3, go_sem]
theorem LL29.s20 (X : LL29) (ok : LL29Ok X) {Q : Exit → Act → World → Prop} : StepG (opsOf 29 Tryz.f78) LL29.acts LL29.av X.val0 X.Wd X.a0 Q 20 := by
  intro γ listed a w o hF hC hW h1 ho h2
  obtain ⟨hd, hop, hg⟩ := fields2 (x := some 156) (y := Op.load 34 (.tmp 155)) (z := none) (by kernel_rfl) ho
  have e155 : a.eval (.tmp 155) = .pointer (some ⟨X.g, X.off + X.ib * 2, none⟩) := slotG hF ho h2 (j := 19) (d := 155) (by kernel_rfl) (by kernel_rfl) (by rw [ok.sz]; decide)
  have hph := phase_leG (acts := LL29.acts) (m := 0) (x := 24) hC (unl (hF.lt ho) h1) rfl [20] (by kernel_rfl) (by decide)
  have hWW := hW
  generalize phase listed LL29.acts = n at hph hWW
  have hk : w = X.W := by
    obtain rfl : n = 0 := by omega
    exact hWW
  have hc0 := ok.e0_
  rw [← hk] at hc0
  have hc1 := ok.e1_
  rw [← hk] at hc1
  refine st_pureG hF hC hW ho h2 (by decide) hd hg rfl ?_
  show _ = Result.ok (Next.value (.agg #[.int .i64 X.ex, .int .i64 X.ey])) w
  generalize a.eval = ρ at e155 ⊢
  unfold execOp
  rw [hop]
  simp [e155, hc0, hc1, go_sem]
theorem LL29.s21 (X : LL29) (ok : LL29Ok X) {Q : Exit → Act → World → Prop} : StepG (opsOf 29 Tryz.f78) LL29.acts LL29.av X.val0 X.Wd X.a0 Q 21 := by
  intro γ listed a w o hF hC hW h1 ho h2
  obtain ⟨hd, hop, hg⟩ := fields2 (x := some 157) (y := Op.move (.tmp 5)) (z := none) (by kernel_rfl) ho
  have e5 : a.eval (.tmp 5) = .int .i64 X.h := (hF.eval0 (by kernel_rfl)).trans ok.e5
  refine st_pureG hF hC hW ho h2 (by decide) hd hg rfl ?_
  show _ = Result.ok (Next.value (.int .i64 X.h)) w
  generalize a.eval = ρ at e5 ⊢
  unfold execOp
  rw [hop]
  simp [e5, go_sem]
theorem LL29.s22 (X : LL29) (ok : LL29Ok X) {Q : Exit → Act → World → Prop} : StepG (opsOf 29 Tryz.f78) LL29.acts LL29.av X.val0 X.Wd X.a0 Q 22 := by
  intro γ listed a w o hF hC hW h1 ho h2
  obtain ⟨hd, hop, hg⟩ := fields2 (x := some 158) (y := Op.fieldAddr 36 (.tmp 3) 1) (z := none) (by kernel_rfl) ho
  have e3 : a.eval (.tmp 3) = .pointer (some ⟨X.bp, 0, none⟩) := (hF.eval0 (by kernel_rfl)).trans ok.e3
  refine st_pureG hF hC hW ho h2 (by decide) hd hg rfl ?_
  show _ = Result.ok (Next.value (.pointer (some ⟨X.bp, 1, none⟩))) w
  generalize a.eval = ρ at e3 ⊢
  unfold execOp
  rw [hop]
  simp [e3, go_sem]
theorem LL29.s23 (X : LL29) (ok : LL29Ok X) {Q : Exit → Act → World → Prop} : StepG (opsOf 29 Tryz.f78) LL29.acts LL29.av X.val0 X.Wd X.a0 Q 23 := by
  intro γ listed a w o hF hC hW h1 ho h2
  obtain ⟨hd, hop, hg⟩ := fields2 (x := some 159) (y := Op.load 3 (.tmp 158)) (z := none) (by kernel_rfl) ho
  have e158 : a.eval (.tmp 158) = .pointer (some ⟨X.bp, 1, none⟩) := slotG hF ho h2 (j := 22) (d := 158) (by kernel_rfl) (by kernel_rfl) (by rw [ok.sz]; decide)
  have hph := phase_leG (acts := LL29.acts) (m := 0) (x := 24) hC (unl (hF.lt ho) h1) rfl [23] (by kernel_rfl) (by decide)
  have hWW := hW
  generalize phase listed LL29.acts = n at hph hWW
  have hk : w = X.W := by
    obtain rfl : n = 0 := by omega
    exact hWW
  have hc0 := ok.cj
  rw [← hk] at hc0
  refine st_pureG hF hC hW ho h2 (by decide) hd hg rfl ?_
  show _ = Result.ok (Next.value (.int .i64 X.j)) w
  generalize a.eval = ρ at e158 ⊢
  unfold execOp
  rw [hop]
  simp [e158, hc0, go_sem]
theorem LL29.s24 (X : LL29) (ok : LL29Ok X) {Q : Exit → Act → World → Prop} : StepG (opsOf 29 Tryz.f78) LL29.acts LL29.av X.val0 X.Wd X.a0 Q 24 := by
  intro γ listed a w o hF hC hW h1 ho h2
  obtain ⟨hd, hop, hg⟩ := fields2 (x := some 160) (y := Op.call { callee := .value (.func 100), args := #[(.tmp 145), (.tmp 149), (.tmp 156), (.tmp 157), (.tmp 159)], argTypes := #[34, 34, 34, 3, 3] }) (z := none) (by kernel_rfl) ho
  have e145 : a.eval (.tmp 145) = .agg #[.int .i64 X.ax, .int .i64 X.ay] := slotG hF ho h2 (j := 9) (d := 145) (by kernel_rfl) (by kernel_rfl) (by rw [ok.sz]; decide)
  have e149 : a.eval (.tmp 149) = .agg #[.int .i64 X.px, .int .i64 X.py] := slotG hF ho h2 (j := 13) (d := 149) (by kernel_rfl) (by kernel_rfl) (by rw [ok.sz]; decide)
  have e156 : a.eval (.tmp 156) = .agg #[.int .i64 X.ex, .int .i64 X.ey] := slotG hF ho h2 (j := 20) (d := 156) (by kernel_rfl) (by kernel_rfl) (by rw [ok.sz]; decide)
  have e157 : a.eval (.tmp 157) = .int .i64 X.h := slotG hF ho h2 (j := 21) (d := 157) (by kernel_rfl) (by kernel_rfl) (by rw [ok.sz]; decide)
  have e159 : a.eval (.tmp 159) = .int .i64 X.j := slotG hF ho h2 (j := 23) (d := 159) (by kernel_rfl) (by kernel_rfl) (by rw [ok.sz]; decide)
  have ef : a.eval (.func 100) = .func (.func 100) #[] #[] := rfl
  have hu := unl (hF.lt ho) h1
  refine st_actG (k := 0) LL29.chain LL29.nodup rfl hF hC hW h1 ho h2 (Or.inr ⟨160, hd, rfl⟩) (LL29.inj (by kernel_rfl) hu) hg ?_
  intro hW0 K hK
  have hw0 : w = X.W := hW0
  have hr : (execOp a.eval o).run Tryz.prog w = .ok (.enter 100 #[.agg #[.int .i64 X.ax, .int .i64 X.ay], .agg #[.int .i64 X.px, .int .i64 X.py], .agg #[.int .i64 X.ex, .int .i64 X.ey], .int .i64 X.h, .int .i64 X.j]) w := by
    generalize a.eval = ρ at e145 e149 e156 e157 e159 ef ⊢
    unfold execOp
    rw [hop]
    simp [e145, e149, e156, e157, e159, ef, go_sem]
  unfold Oper.wp
  rw [hr]
  refine Calls.mono (ok.hJ w) ?_
  rintro e w' ⟨u, rfl, h, n⟩
  rw [hw0] at h n
  exact hK _ _ ⟨u, rfl, h, n⟩
theorem LL29.s25 (X : LL29) (ok : LL29Ok X) {Q : Exit → Act → World → Prop} : StepG (opsOf 29 Tryz.f78) LL29.acts LL29.av X.val0 X.Wd X.a0 Q 25 := by
  intro γ listed a w o hF hC hW h1 ho h2
  obtain ⟨hd, hop, hg⟩ := fields2 (x := some 161) (y := Op.buildSlice 29 1 #[(0, (.tmp 160))]) (z := none) (by kernel_rfl) ho
  have e160 : a.eval (.tmp 160) = γ 0 := slotG hF ho h2 (j := 24) (d := 160) (by kernel_rfl) (by kernel_rfl) (by rw [ok.sz]; decide)
  have hu := unl (hF.lt ho) h1
  refine st_actG (k := 1) LL29.chain LL29.nodup rfl hF hC hW h1 ho h2 (Or.inr ⟨161, hd, rfl⟩) (LL29.inj (by kernel_rfl) hu) hg ?_
  intro hW0 K hK
  obtain ⟨u, g0, hu, nu⟩ := hW0
  rw [g0] at e160
  obtain ⟨ua, un, uc, q⟩ := OwnQ.slice hu
  have hr : (execOp a.eval o).run Tryz.prog w = .ok (.value (.slice (some ⟨w.heap.size, 0, none⟩) 1 1)) (w.alloc (.cells #[u, .bool true] 25)) := by
    rw [q] at e160 ⊢
    generalize a.eval = ρ at e160 ⊢
    unfold execOp
    rw [hop]
    simp [e160, go_sem]
  unfold Oper.wp
  rw [hr]
  exact hK _ _ ⟨w, u, hu, nu, rfl, rfl⟩
theorem LL29.s26 (X : LL29) (ok : LL29Ok X) {Q : Exit → Act → World → Prop} : StepG (opsOf 29 Tryz.f78) LL29.acts LL29.av X.val0 X.Wd X.a0 Q 26 := by
  intro γ listed a w o hF hC hW h1 ho h2
  obtain ⟨hd, hop, hg⟩ := fields2 (x := some 162) (y := Op.call { callee := .builtin .append, args := #[(.tmp 136), (.tmp 161)], argTypes := #[29, 29] }) (z := none) (by kernel_rfl) ho
  have e136 : a.eval (.tmp 136) = X.v := slotG hF ho h2 (j := 0) (d := 136) (by kernel_rfl) (by kernel_rfl) (by rw [ok.sz]; decide)
  have e161 : a.eval (.tmp 161) = γ 1 := slotG hF ho h2 (j := 25) (d := 161) (by kernel_rfl) (by kernel_rfl) (by rw [ok.sz]; decide)
  have hu := unl (hF.lt ho) h1
  refine st_actG (k := 2) LL29.chain LL29.nodup rfl hF hC hW h1 ho h2 (Or.inr ⟨162, hd, rfl⟩) (LL29.inj (by kernel_rfl) hu) hg ?_
  intro hW0 K hK
  obtain ⟨w1, u, hu, nu, g1, rfl⟩ := hW0
  rw [g1] at e161
  refine wp_ln X.W w1 (.tmp 136) (.tmp 161) hop X.B X.v X.it u ⟨X.L, true⟩ e136 ok.ho nu ok.hB hu e161 ok.hl ?_
  intro g' c' w' h1 h2
  exact hK _ _ ⟨_, h1, h2⟩
theorem LL29.s27 (X : LL29) (ok : LL29Ok X) {Q : Exit → Act → World → Prop} : StepG (opsOf 29 Tryz.f78) LL29.acts LL29.av X.val0 X.Wd X.a0 Q 27 := by
  intro γ listed a w o hF hC hW h1 ho h2
  obtain ⟨hd, hop, hg⟩ := fields2 (x := some 10) (y := Op.assign (.tmp 162)) (z := none) (by kernel_rfl) ho
  have e162 : a.eval (.tmp 162) = γ 2 := slotG hF ho h2 (j := 26) (d := 162) (by kernel_rfl) (by kernel_rfl) (by rw [ok.sz]; decide)
  have hu := unl (hF.lt ho) h1
  refine st_actG (k := 3) LL29.chain LL29.nodup rfl hF hC hW h1 ho h2 (Or.inr ⟨10, hd, rfl⟩) (LL29.inj (by kernel_rfl) hu) hg ?_
  intro hW0 K hK
  have hr : (execOp a.eval o).run Tryz.prog w = .ok (.value (γ 2)) w := by
    generalize a.eval = ρ at e162 ⊢
    unfold execOp
    rw [hop]
    simp [e162, go_sem]
  unfold Oper.wp
  rw [hr]
  exact hK _ _ hW0
theorem LL29.size : (opsOf 29 Tryz.f78).size = 28 := by kernel_rfl
theorem LL29.steps (X : LL29) (ok : LL29Ok X) {Q : Exit → Act → World → Prop} (i : Nat) (hi : i < (opsOf 29 Tryz.f78).size) : StepG (opsOf 29 Tryz.f78) LL29.acts LL29.av X.val0 X.Wd X.a0 Q i := by
  rw [LL29.size] at hi
  have hc : i = 0 ∨ i = 1 ∨ i = 2 ∨ i = 3 ∨ i = 4 ∨ i = 5 ∨ i = 6 ∨ i = 7 ∨ i = 8 ∨ i = 9 ∨ i = 10 ∨ i = 11 ∨ i = 12 ∨ i = 13 ∨ i = 14 ∨ i = 15 ∨ i = 16 ∨ i = 17 ∨ i = 18 ∨ i = 19 ∨ i = 20 ∨ i = 21 ∨ i = 22 ∨ i = 23 ∨ i = 24 ∨ i = 25 ∨ i = 26 ∨ i = 27 := by omega
  rcases hc with rfl | rfl | rfl | rfl | rfl | rfl | rfl | rfl | rfl | rfl | rfl | rfl | rfl | rfl | rfl | rfl | rfl | rfl | rfl | rfl | rfl | rfl | rfl | rfl | rfl | rfl | rfl | rfl
  · exact LL29.s0 X ok
  · exact LL29.s1 X ok
  · exact LL29.s2 X ok
  · exact LL29.s3 X ok
  · exact LL29.s4 X ok
  · exact LL29.s5 X ok
  · exact LL29.s6 X ok
  · exact LL29.s7 X ok
  · exact LL29.s8 X ok
  · exact LL29.s9 X ok
  · exact LL29.s10 X ok
  · exact LL29.s11 X ok
  · exact LL29.s12 X ok
  · exact LL29.s13 X ok
  · exact LL29.s14 X ok
  · exact LL29.s15 X ok
  · exact LL29.s16 X ok
  · exact LL29.s17 X ok
  · exact LL29.s18 X ok
  · exact LL29.s19 X ok
  · exact LL29.s20 X ok
  · exact LL29.s21 X ok
  · exact LL29.s22 X ok
  · exact LL29.s23 X ok
  · exact LL29.s24 X ok
  · exact LL29.s25 X ok
  · exact LL29.s26 X ok
  · exact LL29.s27 X ok
theorem LL29.puts (X : LL29) (γ : Nat → Value) (a0 : Act) : putsL (valG LL29.av X.val0 γ) (opsOf 29 Tryz.f78).toList a0 = ((((((((((((((((((((((((((((a0.put (some 136) (X.v)).put (some 137) (.slice (some ⟨X.g, X.off, none⟩) X.n X.cq)).put (some 138) (.int .i64 (X.i : Int))).put (some 139) (.int .i64 (X.n : Int))).put (some 140) (.int .i64 ((X.i : Int) + (X.n : Int)))).put (some 141) (.int .i64 ((X.i : Int) + (X.n : Int) - 1))).put (some 142) (.int .i64 (X.n : Int))).put (some 143) (.int .i64 (X.ia : Int))).put (some 144) (.pointer (some ⟨X.g, X.off + X.ia * 2, none⟩))).put (some 145) (.agg #[.int .i64 X.ax, .int .i64 X.ay])).put (some 146) (.slice (some ⟨X.g, X.off, none⟩) X.n X.cq)).put (some 147) (.int .i64 (X.i : Int))).put (some 148) (.pointer (some ⟨X.g, X.off + X.i * 2, none⟩))).put (some 149) (.agg #[.int .i64 X.px, .int .i64 X.py])).put (some 150) (.slice (some ⟨X.g, X.off, none⟩) X.n X.cq)).put (some 151) (.int .i64 (X.i : Int))).put (some 152) (.int .i64 ((X.i : Int) + 1))).put (some 153) (.int .i64 (X.n : Int))).put (some 154) (.int .i64 (X.ib : Int))).put (some 155) (.pointer (some ⟨X.g, X.off + X.ib * 2, none⟩))).put (some 156) (.agg #[.int .i64 X.ex, .int .i64 X.ey])).put (some 157) (.int .i64 X.h)).put (some 158) (.pointer (some ⟨X.bp, 1, none⟩))).put (some 159) (.int .i64 X.j)).put (some 160) (γ 0)).put (some 161) (γ 1)).put (some 162) (γ 2)).put (some 10) (γ 3)) := by kernel_rfl
/-- The region, whatever order comes up. -/
theorem LL29.run (X : LL29) (ok : LL29Ok X) {Q : Exit → Act → World → Prop} (w : World) (h0 : X.Wd 0 (fun _ => undef) w.drew) (hend : ∀ (γ : Nat → Value) w', X.Wd 4 γ w' → Q .normal ((((((((((((((((((((((((((((X.a0.put (some 136) (X.v)).put (some 137) (.slice (some ⟨X.g, X.off, none⟩) X.n X.cq)).put (some 138) (.int .i64 (X.i : Int))).put (some 139) (.int .i64 (X.n : Int))).put (some 140) (.int .i64 ((X.i : Int) + (X.n : Int)))).put (some 141) (.int .i64 ((X.i : Int) + (X.n : Int) - 1))).put (some 142) (.int .i64 (X.n : Int))).put (some 143) (.int .i64 (X.ia : Int))).put (some 144) (.pointer (some ⟨X.g, X.off + X.ia * 2, none⟩))).put (some 145) (.agg #[.int .i64 X.ax, .int .i64 X.ay])).put (some 146) (.slice (some ⟨X.g, X.off, none⟩) X.n X.cq)).put (some 147) (.int .i64 (X.i : Int))).put (some 148) (.pointer (some ⟨X.g, X.off + X.i * 2, none⟩))).put (some 149) (.agg #[.int .i64 X.px, .int .i64 X.py])).put (some 150) (.slice (some ⟨X.g, X.off, none⟩) X.n X.cq)).put (some 151) (.int .i64 (X.i : Int))).put (some 152) (.int .i64 ((X.i : Int) + 1))).put (some 153) (.int .i64 (X.n : Int))).put (some 154) (.int .i64 (X.ib : Int))).put (some 155) (.pointer (some ⟨X.g, X.off + X.ib * 2, none⟩))).put (some 156) (.agg #[.int .i64 X.ex, .int .i64 X.ey])).put (some 157) (.int .i64 X.h)).put (some 158) (.pointer (some ⟨X.bp, 1, none⟩))).put (some 159) (.int .i64 X.j)).put (some 160) (γ 0)).put (some 161) (γ 1)).put (some 162) (γ 2)).put (some 10) (γ 3)) w') : (Code.region 29 (opsOf 29 Tryz.f78) true).wp Tryz.prog Q X.a0 w := by
  refine reg_act (acts := LL29.acts) (av := LL29.av) (val0 := X.val0) (Wd := X.Wd) (by kernel_rfl) (by kernel_rfl) (by rw [LL29.size]; decide) (fun i hi => LL29.steps X ok i hi) _ h0 ?_
  intro γ w' h
  rw [LL29.puts]
  exact hend γ w' h
structure LL34 where
  ax : Int
  ay : Int
  ex : Int
  ey : Int
  h : Int
  g : Nat
  off : Nat
  n : Nat
  m : Nat
  cq : Nat
  L : List Pnt
  M : List Pnt
  v : Value
  B : Nat
  it : Its
  W : World
  a0 : Act
structure LL34Ok (X : LL34) : Prop where
  a0_ : X.W.cell? ⟨X.g, X.off, none⟩ = some (.int .i64 X.ax)
  a1_ : X.W.cell? ⟨X.g, X.off + 1, none⟩ = some (.int .i64 X.ay)
  b0_ : X.W.cell? ⟨X.g, X.off + X.m * 2, none⟩ = some (.int .i64 X.ex)
  b1_ : X.W.cell? ⟨X.g, X.off + X.m * 2 + 1, none⟩ = some (.int .i64 X.ey)
  d1 : IntKind.i64.wrap ((X.n : Int) - 1) = (X.m : Int)
  k0 : 0 < X.n
  k1 : X.m < X.n
  hL : RingSays 101 #[.agg #[.int .i64 X.ax, .int .i64 X.ay], .int .i64 X.h] X.L
  hM : RingSays 101 #[.agg #[.int .i64 X.ex, .int .i64 X.ey], .int .i64 X.h] X.M
  ho : OwnLn X.W X.B X.v X.it
  hB : X.B ≤ X.W.heap.size
  hl : X.it.length + 2 ≤ 1000000
  e5 : X.a0.eval (.tmp 5) = .int .i64 X.h
  e6 : X.a0.eval (.tmp 6) = .slice (some ⟨X.g, X.off, none⟩) X.n X.cq
  e9 : X.a0.eval (.tmp 9) = .int .i64 (X.n : Int)
  e10 : X.a0.eval (.tmp 10) = X.v
  sz : X.a0.tmps.size = 270
def LL34.val0 (X : LL34) : Nat → Value
  | 170 => X.v
  | 171 => .slice (some ⟨X.g, X.off, none⟩) X.n X.cq
  | 172 => .pointer (some ⟨X.g, X.off, none⟩)
  | 173 => .agg #[.int .i64 X.ax, .int .i64 X.ay]
  | 174 => .int .i64 X.h
  | 176 => .slice (some ⟨X.g, X.off, none⟩) X.n X.cq
  | 177 => .int .i64 (X.n : Int)
  | 178 => .int .i64 (X.m : Int)
  | 179 => .pointer (some ⟨X.g, X.off + X.m * 2, none⟩)
  | 180 => .agg #[.int .i64 X.ex, .int .i64 X.ey]
  | 181 => .int .i64 X.h
  | _ => undef
def LL34.av : Nat → Option Nat
  | 175 => some 0
  | 182 => some 1
  | 183 => some 2
  | 184 => some 3
  | 10 => some 4
  | _ => none
def LL34.acts : List Nat := [5, 12, 13, 14, 15]
/-- The world, by how many of the acting ones have come up. -/
def LL34.Wd (X : LL34) : Nat → (Nat → Value) → World → Prop
  | 0, _, w => w = X.W
  | 1, γ, w => ∃ u, γ 0 = .agg #[u, .bool true] ∧ OwnP w X.W.heap.size u X.L ∧ Nw X.W w
  | 2, γ, w => ∃ u u2, γ 0 = .agg #[u, .bool true] ∧ γ 1 = .agg #[u2, .bool true] ∧ ItsOk w X.W.heap.size [(u, ⟨X.L, true⟩), (u2, ⟨X.M, true⟩)] ∧ Nw X.W w
  | 3, γ, w => ∃ w1 u u2, ItsOk w1 X.W.heap.size [(u, ⟨X.L, true⟩), (u2, ⟨X.M, true⟩)] ∧ Nw X.W w1 ∧ γ 2 = .slice (some ⟨w1.heap.size, 0, none⟩) 2 2 ∧ w = w1.alloc (.cells #[u, .bool true, u2, .bool true] 25)
  | 4, γ, w => ∃ u u2, OwnLn w X.B (γ 3) (X.it ++ [(u, ⟨X.L, true⟩), (u2, ⟨X.M, true⟩)]) ∧ Below X.B X.W w
  | _, γ, w => ∃ u u2, OwnLn w X.B (γ 4) (X.it ++ [(u, ⟨X.L, true⟩), (u2, ⟨X.M, true⟩)]) ∧ Below X.B X.W w
theorem LL34.nw {X : LL34} : ∀ {n : Nat} {γ : Nat → Value} {w : World}, n ≤ 1 → X.Wd n γ w → Nw X.W w
  | 0, _, w, _, h => by have : w = X.W := h; rw [this]; exact Below.refl _ _
  | 1, _, _, _, ⟨_, _, _, h⟩ => h
  | _ + 2, _, _, h, _ => absurd h (by omega)
theorem LL34.chain : chainG (opsOf 34 Tryz.f78) LL34.acts = true := by kernel_rfl
theorem LL34.nodup : LL34.acts.Nodup := by decide
theorem LL34.inj {listed : Array Bool} {i k : Nat} (h : (List.range (opsOf 34 Tryz.f78).size).all (fun j => decide (j = i) || !(match dstOf (opsOf 34 Tryz.f78) j with | some d => decide (LL34.av d = some k) | none => false)) = true) (hu : listed.getD i false = false) : ∀ d, got (opsOf 34 Tryz.f78) listed d → LL34.av d ≠ some k := by
  rintro d ⟨j, h1, h2⟩ h3
  have hlt : j < (opsOf 34 Tryz.f78).size := by
    rcases Nat.lt_or_ge j (opsOf 34 Tryz.f78).size with h4 | h4
    · exact h4
    · unfold dstOf at h2; rw [Array.getElem?_eq_none h4] at h2; cases h2
  have h5 := List.all_eq_true.1 h j (List.mem_range.2 hlt)
  rw [h2] at h5
  simp only [h3, decide_true, Bool.not_true, Bool.or_false, decide_eq_true_eq] at h5
  subst h5
  rw [hu] at h1
  cases h1
theorem LL34.s0 (X : LL34) (ok : LL34Ok X) {Q : Exit → Act → World → Prop} : StepG (opsOf 34 Tryz.f78) LL34.acts LL34.av X.val0 X.Wd X.a0 Q 0 := by
  intro γ listed a w o hF hC hW h1 ho h2
  obtain ⟨hd, hop, hg⟩ := fields2 (x := some 170) (y := Op.move (.tmp 10)) (z := none) (by kernel_rfl) ho
  have e10 : a.eval (.tmp 10) = X.v := (hF.no 10 (early_of hC (unl (hF.lt ho) h1) (j := 15) (by kernel_rfl) [14, 0] (by kernel_rfl) (by decide))).trans ok.e10
  refine st_pureG hF hC hW ho h2 (by decide) hd hg rfl ?_
  show _ = Result.ok (Next.value (X.v)) w
  generalize a.eval = ρ at e10 ⊢
  unfold execOp
  rw [hop]
  simp [e10, go_sem]
theorem LL34.s1 (X : LL34) (ok : LL34Ok X) {Q : Exit → Act → World → Prop} : StepG (opsOf 34 Tryz.f78) LL34.acts LL34.av X.val0 X.Wd X.a0 Q 1 := by
  intro γ listed a w o hF hC hW h1 ho h2
  obtain ⟨hd, hop, hg⟩ := fields2 (x := some 171) (y := Op.move (.tmp 6)) (z := none) (by kernel_rfl) ho
  have e6 : a.eval (.tmp 6) = .slice (some ⟨X.g, X.off, none⟩) X.n X.cq := (hF.eval0 (by kernel_rfl)).trans ok.e6
  refine st_pureG hF hC hW ho h2 (by decide) hd hg rfl ?_
  show _ = Result.ok (Next.value (.slice (some ⟨X.g, X.off, none⟩) X.n X.cq)) w
  generalize a.eval = ρ at e6 ⊢
  unfold execOp
  rw [hop]
  simp [e6, go_sem]
theorem LL34.s2 (X : LL34) (ok : LL34Ok X) {Q : Exit → Act → World → Prop} : StepG (opsOf 34 Tryz.f78) LL34.acts LL34.av X.val0 X.Wd X.a0 Q 2 := by
  intro γ listed a w o hF hC hW h1 ho h2
  obtain ⟨hd, hop, hg⟩ := fields2 (x := some 172) (y := Op.indexAddr 23 (.tmp 171) (.const (.int .i64 0))) (z := none) (by kernel_rfl) ho
  have e171 : a.eval (.tmp 171) = .slice (some ⟨X.g, X.off, none⟩) X.n X.cq := slotG hF ho h2 (j := 1) (d := 171) (by kernel_rfl) (by kernel_rfl) (by rw [ok.sz]; decide)
  have ec1 : a.eval (.const (.int .i64 0)) = .int .i64 0 := rfl
  refine st_pureG hF hC hW ho h2 (by decide) hd hg rfl ?_
  show _ = Result.ok (Next.value (.pointer (some ⟨X.g, X.off, none⟩))) w
  generalize a.eval = ρ at e171 ec1 ⊢
  unfold execOp
  rw [hop]
  simp [e171, ec1, ok.k0, go_sem]
theorem LL34.s3 (X : LL34) (ok : LL34Ok X) {Q : Exit → Act → World → Prop} : StepG (opsOf 34 Tryz.f78) LL34.acts LL34.av X.val0 X.Wd X.a0 Q 3 := by
  intro γ listed a w o hF hC hW h1 ho h2
  obtain ⟨hd, hop, hg⟩ := fields2 (x := some 173) (y := Op.load 34 (.tmp 172)) (z := none) (by kernel_rfl) ho
  have e172 : a.eval (.tmp 172) = .pointer (some ⟨X.g, X.off, none⟩) := slotG hF ho h2 (j := 2) (d := 172) (by kernel_rfl) (by kernel_rfl) (by rw [ok.sz]; decide)
  have hph := phase_leG (acts := LL34.acts) (m := 0) (x := 5) hC (unl (hF.lt ho) h1) rfl [3] (by kernel_rfl) (by decide)
  have hWW := hW
  generalize phase listed LL34.acts = n at hph hWW
  have hk : Nw X.W w := LL34.nw (by omega) hWW
  have hc0 := nw_at hk ok.a0_
  have hc1 := nw_at hk ok.a1_
  refine st_pureG hF hC hW ho h2 (by decide) hd hg rfl ?_
  show _ = Result.ok (Next.value (.agg #[.int .i64 X.ax, .int .i64 X.ay])) w
  generalize a.eval = ρ at e172 ⊢
  unfold execOp
  rw [hop]
  simp [e172, hc0, hc1, go_sem]
theorem LL34.s4 (X : LL34) (ok : LL34Ok X) {Q : Exit → Act → World → Prop} : StepG (opsOf 34 Tryz.f78) LL34.acts LL34.av X.val0 X.Wd X.a0 Q 4 := by
  intro γ listed a w o hF hC hW h1 ho h2
  obtain ⟨hd, hop, hg⟩ := fields2 (x := some 174) (y := Op.move (.tmp 5)) (z := none) (by kernel_rfl) ho
  have e5 : a.eval (.tmp 5) = .int .i64 X.h := (hF.eval0 (by kernel_rfl)).trans ok.e5
  refine st_pureG hF hC hW ho h2 (by decide) hd hg rfl ?_
  show _ = Result.ok (Next.value (.int .i64 X.h)) w
  generalize a.eval = ρ at e5 ⊢
  unfold execOp
  rw [hop]
  simp [e5, go_sem]
theorem LL34.s5 (X : LL34) (ok : LL34Ok X) {Q : Exit → Act → World → Prop} : StepG (opsOf 34 Tryz.f78) LL34.acts LL34.av X.val0 X.Wd X.a0 Q 5 := by
  intro γ listed a w o hF hC hW h1 ho h2
  obtain ⟨hd, hop, hg⟩ := fields2 (x := some 175) (y := Op.call { callee := .value (.func 101), args := #[(.tmp 173), (.tmp 174)], argTypes := #[34, 3] }) (z := none) (by kernel_rfl) ho
  have e173 : a.eval (.tmp 173) = .agg #[.int .i64 X.ax, .int .i64 X.ay] := slotG hF ho h2 (j := 3) (d := 173) (by kernel_rfl) (by kernel_rfl) (by rw [ok.sz]; decide)
  have e174 : a.eval (.tmp 174) = .int .i64 X.h := slotG hF ho h2 (j := 4) (d := 174) (by kernel_rfl) (by kernel_rfl) (by rw [ok.sz]; decide)
  have ef : a.eval (.func 101) = .func (.func 101) #[] #[] := rfl
  have hu := unl (hF.lt ho) h1
  refine st_actG (k := 0) LL34.chain LL34.nodup rfl hF hC hW h1 ho h2 (Or.inr ⟨175, hd, rfl⟩) (LL34.inj (by kernel_rfl) hu) hg ?_
  intro hW0 K hK
  have hw0 : w = X.W := hW0
  have hr : (execOp a.eval o).run Tryz.prog w = .ok (.enter 101 #[.agg #[.int .i64 X.ax, .int .i64 X.ay], .int .i64 X.h]) w := by
    generalize a.eval = ρ at e173 e174 ef ⊢
    unfold execOp
    rw [hop]
    simp [e173, e174, ef, go_sem]
  unfold Oper.wp
  rw [hr]
  refine Calls.mono (ok.hL w) ?_
  rintro e w' ⟨u, rfl, h, n⟩
  rw [hw0] at h n
  exact hK _ _ ⟨u, rfl, h, n⟩
theorem LL34.s6 (X : LL34) (ok : LL34Ok X) {Q : Exit → Act → World → Prop} : StepG (opsOf 34 Tryz.f78) LL34.acts LL34.av X.val0 X.Wd X.a0 Q 6 := by
  intro γ listed a w o hF hC hW h1 ho h2
  obtain ⟨hd, hop, hg⟩ := fields2 (x := some 176) (y := Op.move (.tmp 6)) (z := none) (by kernel_rfl) ho
  have e6 : a.eval (.tmp 6) = .slice (some ⟨X.g, X.off, none⟩) X.n X.cq := (hF.eval0 (by kernel_rfl)).trans ok.e6
  refine st_pureG hF hC hW ho h2 (by decide) hd hg rfl ?_
  show _ = Result.ok (Next.value (.slice (some ⟨X.g, X.off, none⟩) X.n X.cq)) w
  generalize a.eval = ρ at e6 ⊢
  unfold execOp
  rw [hop]
  simp [e6, go_sem]
theorem LL34.s7 (X : LL34) (ok : LL34Ok X) {Q : Exit → Act → World → Prop} : StepG (opsOf 34 Tryz.f78) LL34.acts LL34.av X.val0 X.Wd X.a0 Q 7 := by
  intro γ listed a w o hF hC hW h1 ho h2
  obtain ⟨hd, hop, hg⟩ := fields2 (x := some 177) (y := Op.move (.tmp 9)) (z := none) (by kernel_rfl) ho
  have e9 : a.eval (.tmp 9) = .int .i64 (X.n : Int) := (hF.eval0 (by kernel_rfl)).trans ok.e9
  refine st_pureG hF hC hW ho h2 (by decide) hd hg rfl ?_
  show _ = Result.ok (Next.value (.int .i64 (X.n : Int))) w
  generalize a.eval = ρ at e9 ⊢
  unfold execOp
  rw [hop]
  simp [e9, go_sem]
theorem LL34.s8 (X : LL34) (ok : LL34Ok X) {Q : Exit → Act → World → Prop} : StepG (opsOf 34 Tryz.f78) LL34.acts LL34.av X.val0 X.Wd X.a0 Q 8 := by
  intro γ listed a w o hF hC hW h1 ho h2
  obtain ⟨hd, hop, hg⟩ := fields2 (x := some 178) (y := Op.binOp .sub 3 (.tmp 177) (.const (.int .i64 1)) 3) (z := none) (by kernel_rfl) ho
  have e177 : a.eval (.tmp 177) = .int .i64 (X.n : Int) := slotG hF ho h2 (j := 7) (d := 177) (by kernel_rfl) (by kernel_rfl) (by rw [ok.sz]; decide)
  have ec1 : a.eval (.const (.int .i64 1)) = .int .i64 1 := rfl
  refine st_pureG hF hC hW ho h2 (by decide) hd hg rfl ?_
  show _ = Result.ok (Next.value (.int .i64 (X.m : Int))) w
  generalize a.eval = ρ at e177 ec1 ⊢
  unfold execOp
  rw [hop]
  simp [e177, ec1, ok.d1, go_sem]
theorem LL34.s9 (X : LL34) (ok : LL34Ok X) {Q : Exit → Act → World → Prop} : StepG (opsOf 34 Tryz.f78) LL34.acts LL34.av X.val0 X.Wd X.a0 Q 9 := by
  intro γ listed a w o hF hC hW h1 ho h2
  obtain ⟨hd, hop, hg⟩ := fields2 (x := some 179) (y := Op.indexAddr 23 (.tmp 176) (.tmp 178)) (z := none) (by kernel_rfl) ho
  have e176 : a.eval (.tmp 176) = .slice (some ⟨X.g, X.off, none⟩) X.n X.cq := slotG hF ho h2 (j := 6) (d := 176) (by kernel_rfl) (by kernel_rfl) (by rw [ok.sz]; decide)
  have e178 : a.eval (.tmp 178) = .int .i64 (X.m : Int) := slotG hF ho h2 (j := 8) (d := 178) (by kernel_rfl) (by kernel_rfl) (by rw [ok.sz]; decide)
  refine st_pureG hF hC hW ho h2 (by decide) hd hg rfl ?_
  show _ = Result.ok (Next.value (.pointer (some ⟨X.g, X.off + X.m * 2, none⟩))) w
  generalize a.eval = ρ at e176 e178 ⊢
  unfold execOp
  rw [hop]
  simp [e176, e178, ok.k1, go_sem]
theorem LL34.s10 (X : LL34) (ok : LL34Ok X) {Q : Exit → Act → World → Prop} : StepG (opsOf 34 Tryz.f78) LL34.acts LL34.av X.val0 X.Wd X.a0 Q 10 := by
  intro γ listed a w o hF hC hW h1 ho h2
  obtain ⟨hd, hop, hg⟩ := fields2 (x := some 180) (y := Op.load 34 (.tmp 179)) (z := none) (by kernel_rfl) ho
  have e179 : a.eval (.tmp 179) = .pointer (some ⟨X.g, X.off + X.m * 2, none⟩) := slotG hF ho h2 (j := 9) (d := 179) (by kernel_rfl) (by kernel_rfl) (by rw [ok.sz]; decide)
  have hph := phase_leG (acts := LL34.acts) (m := 1) (x := 12) hC (unl (hF.lt ho) h1) rfl [10] (by kernel_rfl) (by decide)
  have hWW := hW
  generalize phase listed LL34.acts = n at hph hWW
  have hk : Nw X.W w := LL34.nw (by omega) hWW
  have hc0 := nw_at hk ok.b0_
  have hc1 := nw_at hk ok.b1_
  refine st_pureG hF hC hW ho h2 (by decide) hd hg rfl ?_
  show _ = Result.ok (Next.value (.agg #[.int .i64 X.ex, .int .i64 X.ey])) w
  generalize a.eval = ρ at e179 ⊢
  unfold execOp
  rw [hop]
  simp [e179, hc0, hc1, go_sem]
theorem LL34.s11 (X : LL34) (ok : LL34Ok X) {Q : Exit → Act → World → Prop} : StepG (opsOf 34 Tryz.f78) LL34.acts LL34.av X.val0 X.Wd X.a0 Q 11 := by
  intro γ listed a w o hF hC hW h1 ho h2
  obtain ⟨hd, hop, hg⟩ := fields2 (x := some 181) (y := Op.move (.tmp 5)) (z := none) (by kernel_rfl) ho
  have e5 : a.eval (.tmp 5) = .int .i64 X.h := (hF.eval0 (by kernel_rfl)).trans ok.e5
  refine st_pureG hF hC hW ho h2 (by decide) hd hg rfl ?_
  show _ = Result.ok (Next.value (.int .i64 X.h)) w
  generalize a.eval = ρ at e5 ⊢
  unfold execOp
  rw [hop]
  simp [e5, go_sem]
theorem LL34.s12 (X : LL34) (ok : LL34Ok X) {Q : Exit → Act → World → Prop} : StepG (opsOf 34 Tryz.f78) LL34.acts LL34.av X.val0 X.Wd X.a0 Q 12 := by
  intro γ listed a w o hF hC hW h1 ho h2
  obtain ⟨hd, hop, hg⟩ := fields2 (x := some 182) (y := Op.call { callee := .value (.func 101), args := #[(.tmp 180), (.tmp 181)], argTypes := #[34, 3] }) (z := none) (by kernel_rfl) ho
  have e180 : a.eval (.tmp 180) = .agg #[.int .i64 X.ex, .int .i64 X.ey] := slotG hF ho h2 (j := 10) (d := 180) (by kernel_rfl) (by kernel_rfl) (by rw [ok.sz]; decide)
  have e181 : a.eval (.tmp 181) = .int .i64 X.h := slotG hF ho h2 (j := 11) (d := 181) (by kernel_rfl) (by kernel_rfl) (by rw [ok.sz]; decide)
  have ef : a.eval (.func 101) = .func (.func 101) #[] #[] := rfl
  have hu := unl (hF.lt ho) h1
  refine st_actG (k := 1) LL34.chain LL34.nodup rfl hF hC hW h1 ho h2 (Or.inr ⟨182, hd, rfl⟩) (LL34.inj (by kernel_rfl) hu) hg ?_
  intro hW0 K hK
  obtain ⟨u, g0, hu, nu⟩ := hW0
  have hr : (execOp a.eval o).run Tryz.prog w = .ok (.enter 101 #[.agg #[.int .i64 X.ex, .int .i64 X.ey], .int .i64 X.h]) w := by
    generalize a.eval = ρ at e180 e181 ef ⊢
    unfold execOp
    rw [hop]
    simp [e180, e181, ef, go_sem]
  unfold Oper.wp
  rw [hr]
  refine Calls.mono (ok.hM w) ?_
  rintro e w' ⟨u2, rfl, h, n⟩
  exact hK _ _ ⟨u, u2, g0, rfl, ItsOk.two hu n h (Below.size nu), Nw.trans nu n⟩
theorem LL34.s13 (X : LL34) (ok : LL34Ok X) {Q : Exit → Act → World → Prop} : StepG (opsOf 34 Tryz.f78) LL34.acts LL34.av X.val0 X.Wd X.a0 Q 13 := by
  intro γ listed a w o hF hC hW h1 ho h2
  obtain ⟨hd, hop, hg⟩ := fields2 (x := some 183) (y := Op.buildSlice 29 2 #[(0, (.tmp 175)), (1, (.tmp 182))]) (z := none) (by kernel_rfl) ho
  have e175 : a.eval (.tmp 175) = γ 0 := slotG hF ho h2 (j := 5) (d := 175) (by kernel_rfl) (by kernel_rfl) (by rw [ok.sz]; decide)
  have e182 : a.eval (.tmp 182) = γ 1 := slotG hF ho h2 (j := 12) (d := 182) (by kernel_rfl) (by kernel_rfl) (by rw [ok.sz]; decide)
  have hu := unl (hF.lt ho) h1
  refine st_actG (k := 2) LL34.chain LL34.nodup rfl hF hC hW h1 ho h2 (Or.inr ⟨183, hd, rfl⟩) (LL34.inj (by kernel_rfl) hu) hg ?_
  intro hW0 K hK
  obtain ⟨u, u2, g0, g1, hi, nu⟩ := hW0
  rw [g0] at e175
  rw [g1] at e182
  obtain ⟨ua, un, uc, q⟩ := OwnQ.slice (hi.pts 0 (by simp))
  obtain ⟨ua2, un2, uc2, q2⟩ := OwnQ.slice (hi.pts 1 (by simp))
  replace q : u = .slice ua un uc := q
  replace q2 : u2 = .slice ua2 un2 uc2 := q2
  have hr : (execOp a.eval o).run Tryz.prog w = .ok (.value (.slice (some ⟨w.heap.size, 0, none⟩) 2 2)) (w.alloc (.cells #[u, .bool true, u2, .bool true] 25)) := by
    rw [q] at e175 ⊢
    rw [q2] at e182 ⊢
    generalize a.eval = ρ at e175 e182 ⊢
    unfold execOp
    rw [hop]
    simp [e175, e182, go_sem]
  unfold Oper.wp
  rw [hr]
  exact hK _ _ ⟨w, u, u2, hi, nu, rfl, rfl⟩
theorem LL34.s14 (X : LL34) (ok : LL34Ok X) {Q : Exit → Act → World → Prop} : StepG (opsOf 34 Tryz.f78) LL34.acts LL34.av X.val0 X.Wd X.a0 Q 14 := by
  intro γ listed a w o hF hC hW h1 ho h2
  obtain ⟨hd, hop, hg⟩ := fields2 (x := some 184) (y := Op.call { callee := .builtin .append, args := #[(.tmp 170), (.tmp 183)], argTypes := #[29, 29] }) (z := none) (by kernel_rfl) ho
  have e170 : a.eval (.tmp 170) = X.v := slotG hF ho h2 (j := 0) (d := 170) (by kernel_rfl) (by kernel_rfl) (by rw [ok.sz]; decide)
  have e183 : a.eval (.tmp 183) = γ 2 := slotG hF ho h2 (j := 13) (d := 183) (by kernel_rfl) (by kernel_rfl) (by rw [ok.sz]; decide)
  have hu := unl (hF.lt ho) h1
  refine st_actG (k := 3) LL34.chain LL34.nodup rfl hF hC hW h1 ho h2 (Or.inr ⟨184, hd, rfl⟩) (LL34.inj (by kernel_rfl) hu) hg ?_
  intro hW0 K hK
  obtain ⟨w1, u, u2, hi, nu, g1, rfl⟩ := hW0
  rw [g1] at e183
  refine wp_ln2 X.W w1 (.tmp 170) (.tmp 183) hop X.B X.v X.it u u2 ⟨X.L, true⟩ ⟨X.M, true⟩ e170 ok.ho nu ok.hB hi e183 ok.hl ?_
  intro v' w' h1 h2
  exact hK _ _ ⟨_, _, h1, h2⟩
theorem LL34.s15 (X : LL34) (ok : LL34Ok X) {Q : Exit → Act → World → Prop} : StepG (opsOf 34 Tryz.f78) LL34.acts LL34.av X.val0 X.Wd X.a0 Q 15 := by
  intro γ listed a w o hF hC hW h1 ho h2
  obtain ⟨hd, hop, hg⟩ := fields2 (x := some 10) (y := Op.assign (.tmp 184)) (z := none) (by kernel_rfl) ho
  have e184 : a.eval (.tmp 184) = γ 3 := slotG hF ho h2 (j := 14) (d := 184) (by kernel_rfl) (by kernel_rfl) (by rw [ok.sz]; decide)
  have hu := unl (hF.lt ho) h1
  refine st_actG (k := 4) LL34.chain LL34.nodup rfl hF hC hW h1 ho h2 (Or.inr ⟨10, hd, rfl⟩) (LL34.inj (by kernel_rfl) hu) hg ?_
  intro hW0 K hK
  have hr : (execOp a.eval o).run Tryz.prog w = .ok (.value (γ 3)) w := by
    generalize a.eval = ρ at e184 ⊢
    unfold execOp
    rw [hop]
    simp [e184, go_sem]
  unfold Oper.wp
  rw [hr]
  exact hK _ _ hW0
theorem LL34.size : (opsOf 34 Tryz.f78).size = 16 := by kernel_rfl
theorem LL34.steps (X : LL34) (ok : LL34Ok X) {Q : Exit → Act → World → Prop} (i : Nat) (hi : i < (opsOf 34 Tryz.f78).size) : StepG (opsOf 34 Tryz.f78) LL34.acts LL34.av X.val0 X.Wd X.a0 Q i := by
  rw [LL34.size] at hi
  have hc : i = 0 ∨ i = 1 ∨ i = 2 ∨ i = 3 ∨ i = 4 ∨ i = 5 ∨ i = 6 ∨ i = 7 ∨ i = 8 ∨ i = 9 ∨ i = 10 ∨ i = 11 ∨ i = 12 ∨ i = 13 ∨ i = 14 ∨ i = 15 := by omega
  rcases hc with rfl | rfl | rfl | rfl | rfl | rfl | rfl | rfl | rfl | rfl | rfl | rfl | rfl | rfl | rfl | rfl
  · exact LL34.s0 X ok
  · exact LL34.s1 X ok
  · exact LL34.s2 X ok
  · exact LL34.s3 X ok
  · exact LL34.s4 X ok
  · exact LL34.s5 X ok
  · exact LL34.s6 X ok
  · exact LL34.s7 X ok
  · exact LL34.s8 X ok
  · exact LL34.s9 X ok
  · exact LL34.s10 X ok
  · exact LL34.s11 X ok
  · exact LL34.s12 X ok
  · exact LL34.s13 X ok
  · exact LL34.s14 X ok
  · exact LL34.s15 X ok
theorem LL34.puts (X : LL34) (γ : Nat → Value) (a0 : Act) : putsL (valG LL34.av X.val0 γ) (opsOf 34 Tryz.f78).toList a0 = ((((((((((((((((a0.put (some 170) (X.v)).put (some 171) (.slice (some ⟨X.g, X.off, none⟩) X.n X.cq)).put (some 172) (.pointer (some ⟨X.g, X.off, none⟩))).put (some 173) (.agg #[.int .i64 X.ax, .int .i64 X.ay])).put (some 174) (.int .i64 X.h)).put (some 175) (γ 0)).put (some 176) (.slice (some ⟨X.g, X.off, none⟩) X.n X.cq)).put (some 177) (.int .i64 (X.n : Int))).put (some 178) (.int .i64 (X.m : Int))).put (some 179) (.pointer (some ⟨X.g, X.off + X.m * 2, none⟩))).put (some 180) (.agg #[.int .i64 X.ex, .int .i64 X.ey])).put (some 181) (.int .i64 X.h)).put (some 182) (γ 1)).put (some 183) (γ 2)).put (some 184) (γ 3)).put (some 10) (γ 4)) := by kernel_rfl
/-- The region, whatever order comes up. -/
theorem LL34.run (X : LL34) (ok : LL34Ok X) {Q : Exit → Act → World → Prop} (w : World) (h0 : X.Wd 0 (fun _ => undef) w.drew) (hend : ∀ (γ : Nat → Value) w', X.Wd 5 γ w' → Q .normal ((((((((((((((((X.a0.put (some 170) (X.v)).put (some 171) (.slice (some ⟨X.g, X.off, none⟩) X.n X.cq)).put (some 172) (.pointer (some ⟨X.g, X.off, none⟩))).put (some 173) (.agg #[.int .i64 X.ax, .int .i64 X.ay])).put (some 174) (.int .i64 X.h)).put (some 175) (γ 0)).put (some 176) (.slice (some ⟨X.g, X.off, none⟩) X.n X.cq)).put (some 177) (.int .i64 (X.n : Int))).put (some 178) (.int .i64 (X.m : Int))).put (some 179) (.pointer (some ⟨X.g, X.off + X.m * 2, none⟩))).put (some 180) (.agg #[.int .i64 X.ex, .int .i64 X.ey])).put (some 181) (.int .i64 X.h)).put (some 182) (γ 1)).put (some 183) (γ 2)).put (some 184) (γ 3)).put (some 10) (γ 4)) w') : (Code.region 34 (opsOf 34 Tryz.f78) true).wp Tryz.prog Q X.a0 w := by
  refine reg_act (acts := LL34.acts) (av := LL34.av) (val0 := X.val0) (Wd := X.Wd) (by kernel_rfl) (by kernel_rfl) (by rw [LL34.size]; decide) (fun i hi => LL34.steps X ok i hi) _ h0 ?_
  intro γ w' h
  rw [LL34.puts]
  exact hend γ w' h
structure LL36 where
  ax : Int
  ay : Int
  ex : Int
  ey : Int
  sx : Int
  sy : Int
  h : Int
  g : Nat
  off : Nat
  n : Nat
  cq : Nat
  W : World
  a0 : Act
structure LL36Ok (X : LL36) : Prop where
  a0_ : X.W.cell? ⟨X.g, X.off, none⟩ = some (.int .i64 X.ax)
  a1_ : X.W.cell? ⟨X.g, X.off + 1, none⟩ = some (.int .i64 X.ay)
  b0_ : X.W.cell? ⟨X.g, X.off + 2, none⟩ = some (.int .i64 X.ex)
  b1_ : X.W.cell? ⟨X.g, X.off + 2 + 1, none⟩ = some (.int .i64 X.ey)
  k0 : 0 < X.n
  k1 : ¬ ((X.n : Int) ≤ 1)
  hS : ∀ w, Calls Tryz.prog 96 #[.agg #[.int .i64 X.ax, .int .i64 X.ay], .agg #[.int .i64 X.ex, .int .i64 X.ey], .int .i64 X.h] w fun e w' => e = .returned (.agg #[.int .i64 X.sx, .int .i64 X.sy]) ∧ Kp w w'
  e5 : X.a0.eval (.tmp 5) = .int .i64 X.h
  e6 : X.a0.eval (.tmp 6) = .slice (some ⟨X.g, X.off, none⟩) X.n X.cq
  sz : X.a0.tmps.size = 270
def LL36.val0 (X : LL36) : Nat → Value
  | 187 => .slice (some ⟨X.g, X.off, none⟩) X.n X.cq
  | 188 => .pointer (some ⟨X.g, X.off, none⟩)
  | 189 => .agg #[.int .i64 X.ax, .int .i64 X.ay]
  | 190 => .slice (some ⟨X.g, X.off, none⟩) X.n X.cq
  | 191 => .pointer (some ⟨X.g, X.off + 2, none⟩)
  | 192 => .agg #[.int .i64 X.ex, .int .i64 X.ey]
  | 193 => .int .i64 X.h
  | 194 => .agg #[.int .i64 X.sx, .int .i64 X.sy]
  | _ => undef
def LL36.av : Nat → Option Nat
  | 17 => some 0
  | _ => none
def LL36.acts : List Nat := [8, 9]
/-- The world, by how many of the acting ones have come up. -/
def LL36.Wd (X : LL36) : Nat → (Nat → Value) → World → Prop
  | 0, _, w => Kp X.W w
  | 1, γ, w => ∃ g, γ 0 = .pointer (some ⟨g, 0, none⟩) ∧ X.W.heap.size ≤ g ∧ (w.cell? ⟨g, 0, none⟩ = some (.int .i64 0) ∧ w.cell? ⟨g, 1, none⟩ = some (.int .i64 0)) ∧ (∀ o, w.frozen? ⟨g, o, none⟩ = false) ∧ Kp X.W w
  | _, γ, w => ∃ g, γ 0 = .pointer (some ⟨g, 0, none⟩) ∧ X.W.heap.size ≤ g ∧ (w.cell? ⟨g, 0, none⟩ = some (.int .i64 X.sx) ∧ w.cell? ⟨g, 1, none⟩ = some (.int .i64 X.sy)) ∧ (∀ o, w.frozen? ⟨g, o, none⟩ = false) ∧ Kp X.W w
theorem LL36.kp {X : LL36} : ∀ {n : Nat} {γ : Nat → Value} {w : World}, X.Wd n γ w → Kp X.W w
  | 0, _, _, h => h
  | 1, _, _, ⟨_, _, _, _, _, h⟩ => h
  | _ + 2, _, _, ⟨_, _, _, _, _, h⟩ => h
theorem LL36.keep {X : LL36} : ∀ {n : Nat} {γ : Nat → Value} {w w' : World}, X.Wd n γ w → Kp w w' → X.Wd n γ w'
  | 0, _, _, _, h, k => Kp.trans h k
  | 1, _, w, _, ⟨g, h1, h2, ⟨h30, h31⟩, h5, h6⟩, k => ⟨g, h1, h2, ⟨(k.cells.1 _ _ (World.block_lt_of_cell? w ⟨g, 0, none⟩ h30)).trans h30, (k.cells.1 _ _ (World.block_lt_of_cell? w ⟨g, 0, none⟩ h30)).trans h31⟩, fun o => (k.cells.2 _ _).trans (h5 o), Kp.trans h6 k⟩
  | _ + 2, _, w, _, ⟨g, h1, h2, ⟨h30, h31⟩, h5, h6⟩, k => ⟨g, h1, h2, ⟨(k.cells.1 _ _ (World.block_lt_of_cell? w ⟨g, 0, none⟩ h30)).trans h30, (k.cells.1 _ _ (World.block_lt_of_cell? w ⟨g, 0, none⟩ h30)).trans h31⟩, fun o => (k.cells.2 _ _).trans (h5 o), Kp.trans h6 k⟩
theorem LL36.chain : chainG (opsOf 36 Tryz.f78) LL36.acts = true := by kernel_rfl
theorem LL36.nodup : LL36.acts.Nodup := by decide
theorem LL36.inj {listed : Array Bool} {i k : Nat} (h : (List.range (opsOf 36 Tryz.f78).size).all (fun j => decide (j = i) || !(match dstOf (opsOf 36 Tryz.f78) j with | some d => decide (LL36.av d = some k) | none => false)) = true) (hu : listed.getD i false = false) : ∀ d, got (opsOf 36 Tryz.f78) listed d → LL36.av d ≠ some k := by
  rintro d ⟨j, h1, h2⟩ h3
  have hlt : j < (opsOf 36 Tryz.f78).size := by
    rcases Nat.lt_or_ge j (opsOf 36 Tryz.f78).size with h4 | h4
    · exact h4
    · unfold dstOf at h2; rw [Array.getElem?_eq_none h4] at h2; cases h2
  have h5 := List.all_eq_true.1 h j (List.mem_range.2 hlt)
  rw [h2] at h5
  simp only [h3, decide_true, Bool.not_true, Bool.or_false, decide_eq_true_eq] at h5
  subst h5
  rw [hu] at h1
  cases h1
theorem LL36.s0 (X : LL36) (ok : LL36Ok X) {Q : Exit → Act → World → Prop} : StepG (opsOf 36 Tryz.f78) LL36.acts LL36.av X.val0 X.Wd X.a0 Q 0 := by
  intro γ listed a w o hF hC hW h1 ho h2
  obtain ⟨hd, hop, hg⟩ := fields2 (x := some 187) (y := Op.move (.tmp 6)) (z := none) (by kernel_rfl) ho
  have e6 : a.eval (.tmp 6) = .slice (some ⟨X.g, X.off, none⟩) X.n X.cq := (hF.eval0 (by kernel_rfl)).trans ok.e6
  refine st_pureG hF hC hW ho h2 (by decide) hd hg rfl ?_
  show _ = Result.ok (Next.value (.slice (some ⟨X.g, X.off, none⟩) X.n X.cq)) w
  generalize a.eval = ρ at e6 ⊢
  unfold execOp
  rw [hop]
  simp [e6, go_sem]
theorem LL36.s1 (X : LL36) (ok : LL36Ok X) {Q : Exit → Act → World → Prop} : StepG (opsOf 36 Tryz.f78) LL36.acts LL36.av X.val0 X.Wd X.a0 Q 1 := by
  intro γ listed a w o hF hC hW h1 ho h2
  obtain ⟨hd, hop, hg⟩ := fields2 (x := some 188) (y := Op.indexAddr 23 (.tmp 187) (.const (.int .i64 0))) (z := none) (by kernel_rfl) ho
  have e187 : a.eval (.tmp 187) = .slice (some ⟨X.g, X.off, none⟩) X.n X.cq := slotG hF ho h2 (j := 0) (d := 187) (by kernel_rfl) (by kernel_rfl) (by rw [ok.sz]; decide)
  have ec1 : a.eval (.const (.int .i64 0)) = .int .i64 0 := rfl
  refine st_pureG hF hC hW ho h2 (by decide) hd hg rfl ?_
  show _ = Result.ok (Next.value (.pointer (some ⟨X.g, X.off, none⟩))) w
  generalize a.eval = ρ at e187 ec1 ⊢
  unfold execOp
  rw [hop]
  simp [e187, ec1, ok.k0, go_sem]
theorem LL36.s2 (X : LL36) (ok : LL36Ok X) {Q : Exit → Act → World → Prop} : StepG (opsOf 36 Tryz.f78) LL36.acts LL36.av X.val0 X.Wd X.a0 Q 2 := by
  intro γ listed a w o hF hC hW h1 ho h2
  obtain ⟨hd, hop, hg⟩ := fields2 (x := some 189) (y := Op.load 34 (.tmp 188)) (z := none) (by kernel_rfl) ho
  have e188 : a.eval (.tmp 188) = .pointer (some ⟨X.g, X.off, none⟩) := slotG hF ho h2 (j := 1) (d := 188) (by kernel_rfl) (by kernel_rfl) (by rw [ok.sz]; decide)
  have hc0 := rq_at (LL36.kp hW) ok.a0_
  have hc1 := rq_at (LL36.kp hW) ok.a1_
  refine st_pureG hF hC hW ho h2 (by decide) hd hg rfl ?_
  show _ = Result.ok (Next.value (.agg #[.int .i64 X.ax, .int .i64 X.ay])) w
  generalize a.eval = ρ at e188 ⊢
  unfold execOp
  rw [hop]
  simp [e188, hc0, hc1, go_sem]
theorem LL36.s3 (X : LL36) (ok : LL36Ok X) {Q : Exit → Act → World → Prop} : StepG (opsOf 36 Tryz.f78) LL36.acts LL36.av X.val0 X.Wd X.a0 Q 3 := by
  intro γ listed a w o hF hC hW h1 ho h2
  obtain ⟨hd, hop, hg⟩ := fields2 (x := some 190) (y := Op.move (.tmp 6)) (z := none) (by kernel_rfl) ho
  have e6 : a.eval (.tmp 6) = .slice (some ⟨X.g, X.off, none⟩) X.n X.cq := (hF.eval0 (by kernel_rfl)).trans ok.e6
  refine st_pureG hF hC hW ho h2 (by decide) hd hg rfl ?_
  show _ = Result.ok (Next.value (.slice (some ⟨X.g, X.off, none⟩) X.n X.cq)) w
  generalize a.eval = ρ at e6 ⊢
  unfold execOp
  rw [hop]
  simp [e6, go_sem]
theorem LL36.s4 (X : LL36) (ok : LL36Ok X) {Q : Exit → Act → World → Prop} : StepG (opsOf 36 Tryz.f78) LL36.acts LL36.av X.val0 X.Wd X.a0 Q 4 := by
  intro γ listed a w o hF hC hW h1 ho h2
  obtain ⟨hd, hop, hg⟩ := fields2 (x := some 191) (y := Op.indexAddr 23 (.tmp 190) (.const (.int .i64 1))) (z := none) (by kernel_rfl) ho
  have e190 : a.eval (.tmp 190) = .slice (some ⟨X.g, X.off, none⟩) X.n X.cq := slotG hF ho h2 (j := 3) (d := 190) (by kernel_rfl) (by kernel_rfl) (by rw [ok.sz]; decide)
  have ec1 : a.eval (.const (.int .i64 1)) = .int .i64 1 := rfl
  refine st_pureG hF hC hW ho h2 (by decide) hd hg rfl ?_
  show _ = Result.ok (Next.value (.pointer (some ⟨X.g, X.off + 2, none⟩))) w
  generalize a.eval = ρ at e190 ec1 ⊢
  unfold execOp
  rw [hop]
  simp [e190, ec1, ok.k1, go_sem]
theorem LL36.s5 (X : LL36) (ok : LL36Ok X) {Q : Exit → Act → World → Prop} : StepG (opsOf 36 Tryz.f78) LL36.acts LL36.av X.val0 X.Wd X.a0 Q 5 := by
  intro γ listed a w o hF hC hW h1 ho h2
  obtain ⟨hd, hop, hg⟩ := fields2 (x := some 192) (y := Op.load 34 (.tmp 191)) (z := none) (by kernel_rfl) ho
  have e191 : a.eval (.tmp 191) = .pointer (some ⟨X.g, X.off + 2, none⟩) := slotG hF ho h2 (j := 4) (d := 191) (by kernel_rfl) (by kernel_rfl) (by rw [ok.sz]; decide)
  have hc0 := rq_at (LL36.kp hW) ok.b0_
  have hc1 := rq_at (LL36.kp hW) ok.b1_
  refine st_pureG hF hC hW ho h2 (by decide) hd hg rfl ?_
  show _ = Result.ok (Next.value (.agg #[.int .i64 X.ex, .int .i64 X.ey])) w
  generalize a.eval = ρ at e191 ⊢
  unfold execOp
  rw [hop]
  simp [e191, hc0, hc1, go_sem]
theorem LL36.s6 (X : LL36) (ok : LL36Ok X) {Q : Exit → Act → World → Prop} : StepG (opsOf 36 Tryz.f78) LL36.acts LL36.av X.val0 X.Wd X.a0 Q 6 := by
  intro γ listed a w o hF hC hW h1 ho h2
  obtain ⟨hd, hop, hg⟩ := fields2 (x := some 193) (y := Op.move (.tmp 5)) (z := none) (by kernel_rfl) ho
  have e5 : a.eval (.tmp 5) = .int .i64 X.h := (hF.eval0 (by kernel_rfl)).trans ok.e5
  refine st_pureG hF hC hW ho h2 (by decide) hd hg rfl ?_
  show _ = Result.ok (Next.value (.int .i64 X.h)) w
  generalize a.eval = ρ at e5 ⊢
  unfold execOp
  rw [hop]
  simp [e5, go_sem]
theorem LL36.s7 (X : LL36) (ok : LL36Ok X) {Q : Exit → Act → World → Prop} : StepG (opsOf 36 Tryz.f78) LL36.acts LL36.av X.val0 X.Wd X.a0 Q 7 := by
  intro γ listed a w o hF hC hW h1 ho h2
  obtain ⟨hd, hop, hg⟩ := fields2 (x := some 194) (y := Op.call { callee := .value (.func 96), args := #[(.tmp 189), (.tmp 192), (.tmp 193)], argTypes := #[34, 34, 3] }) (z := none) (by kernel_rfl) ho
  have e189 : a.eval (.tmp 189) = .agg #[.int .i64 X.ax, .int .i64 X.ay] := slotG hF ho h2 (j := 2) (d := 189) (by kernel_rfl) (by kernel_rfl) (by rw [ok.sz]; decide)
  have e192 : a.eval (.tmp 192) = .agg #[.int .i64 X.ex, .int .i64 X.ey] := slotG hF ho h2 (j := 5) (d := 192) (by kernel_rfl) (by kernel_rfl) (by rw [ok.sz]; decide)
  have e193 : a.eval (.tmp 193) = .int .i64 X.h := slotG hF ho h2 (j := 6) (d := 193) (by kernel_rfl) (by kernel_rfl) (by rw [ok.sz]; decide)
  have ef : a.eval (.func 96) = .func (.func 96) #[] #[] := rfl
  refine st_callG hF hC hW ho h2 (by decide) hd hg rfl (f := 96) (args := #[.agg #[.int .i64 X.ax, .int .i64 X.ay], .agg #[.int .i64 X.ex, .int .i64 X.ey], .int .i64 X.h]) ?_ ?_ ?_
  · generalize a.eval = ρ at e189 e192 e193 ef ⊢
    unfold execOp
    rw [hop]
    simp [e189, e192, e193, ef, go_sem]
  · exact ok.hS w
  · intro w' hk; exact LL36.keep hW hk
theorem LL36.s8 (X : LL36) (ok : LL36Ok X) {Q : Exit → Act → World → Prop} : StepG (opsOf 36 Tryz.f78) LL36.acts LL36.av X.val0 X.Wd X.a0 Q 8 := by
  intro γ listed a w o hF hC hW h1 ho h2
  obtain ⟨hd, hop, hg⟩ := fields2 (x := some 17) (y := Op.alloc 34) (z := none) (by kernel_rfl) ho
  have hu := unl (hF.lt ho) h1
  refine st_actG (k := 0) LL36.chain LL36.nodup rfl hF hC hW h1 ho h2 (Or.inr ⟨17, hd, rfl⟩) (LL36.inj (by kernel_rfl) hu) hg ?_
  intro hW0 K hK
  have hr : (execOp a.eval o).run Tryz.prog w = .ok (.value (.pointer (some ⟨w.heap.size, 0, none⟩))) (w.alloc (.cells #[.int .i64 0, .int .i64 0] 34)) := by
    unfold execOp
    rw [hop]
    simp [go_sem]
  unfold Oper.wp
  rw [hr]
  exact hK _ _ ⟨w.heap.size, rfl, Kp.size hW0, ⟨by simp, by simp⟩, fun o => World.frozen?_alloc_at _ _ _ _ rfl, Kp.alloc hW0 _ _⟩
theorem LL36.s9 (X : LL36) (ok : LL36Ok X) {Q : Exit → Act → World → Prop} : StepG (opsOf 36 Tryz.f78) LL36.acts LL36.av X.val0 X.Wd X.a0 Q 9 := by
  intro γ listed a w o hF hC hW h1 ho h2
  obtain ⟨hd, hop, hg⟩ := fields2 (x := none) (y := Op.store 34 (.tmp 17) (.tmp 194)) (z := none) (by kernel_rfl) ho
  have e17 : a.eval (.tmp 17) = γ 0 := slotG hF ho h2 (j := 8) (d := 17) (by kernel_rfl) (by kernel_rfl) (by rw [ok.sz]; decide)
  have e194 : a.eval (.tmp 194) = .agg #[.int .i64 X.sx, .int .i64 X.sy] := slotG hF ho h2 (j := 7) (d := 194) (by kernel_rfl) (by kernel_rfl) (by rw [ok.sz]; decide)
  have hu := unl (hF.lt ho) h1
  refine st_actG (k := 1) LL36.chain LL36.nodup rfl hF hC hW h1 ho h2 (Or.inl hd) (LL36.inj (by kernel_rfl) hu) hg ?_
  intro hW0 K hK
  obtain ⟨g, g0, hg0, ⟨z0, z1⟩, zf, k1⟩ := hW0
  rw [g0] at e17
  obtain ⟨y0, y1⟩ := rq_set2 w g (.int .i64 X.sx) (.int .i64 X.sy) z0 z1
  have hr : (execOp a.eval o).run Tryz.prog w = .ok .skip ((w.setCell ⟨g, 0, none⟩ (.int .i64 X.sx)).setCell ⟨g, 1, none⟩ (.int .i64 X.sy)) := by
    generalize a.eval = ρ at e17 e194 ⊢
    unfold execOp
    rw [hop]
    simp [e17, e194, z0, z1, zf, go_sem]
  unfold Oper.wp
  rw [hr]
  exact hK _ _ ⟨g, g0, hg0, ⟨y0, y1⟩, fun o => by rw [World.frozen?_setCell, World.frozen?_setCell]; exact zf o, (Kp.setCell (Kp.setCell k1 hg0 _) hg0 _)⟩
theorem LL36.size : (opsOf 36 Tryz.f78).size = 10 := by kernel_rfl
theorem LL36.steps (X : LL36) (ok : LL36Ok X) {Q : Exit → Act → World → Prop} (i : Nat) (hi : i < (opsOf 36 Tryz.f78).size) : StepG (opsOf 36 Tryz.f78) LL36.acts LL36.av X.val0 X.Wd X.a0 Q i := by
  rw [LL36.size] at hi
  have hc : i = 0 ∨ i = 1 ∨ i = 2 ∨ i = 3 ∨ i = 4 ∨ i = 5 ∨ i = 6 ∨ i = 7 ∨ i = 8 ∨ i = 9 := by omega
  rcases hc with rfl | rfl | rfl | rfl | rfl | rfl | rfl | rfl | rfl | rfl
  · exact LL36.s0 X ok
  · exact LL36.s1 X ok
  · exact LL36.s2 X ok
  · exact LL36.s3 X ok
  · exact LL36.s4 X ok
  · exact LL36.s5 X ok
  · exact LL36.s6 X ok
  · exact LL36.s7 X ok
  · exact LL36.s8 X ok
  · exact LL36.s9 X ok
theorem LL36.puts (X : LL36) (γ : Nat → Value) (a0 : Act) : putsL (valG LL36.av X.val0 γ) (opsOf 36 Tryz.f78).toList a0 = (((((((((a0.put (some 187) (.slice (some ⟨X.g, X.off, none⟩) X.n X.cq)).put (some 188) (.pointer (some ⟨X.g, X.off, none⟩))).put (some 189) (.agg #[.int .i64 X.ax, .int .i64 X.ay])).put (some 190) (.slice (some ⟨X.g, X.off, none⟩) X.n X.cq)).put (some 191) (.pointer (some ⟨X.g, X.off + 2, none⟩))).put (some 192) (.agg #[.int .i64 X.ex, .int .i64 X.ey])).put (some 193) (.int .i64 X.h)).put (some 194) (.agg #[.int .i64 X.sx, .int .i64 X.sy])).put (some 17) (γ 0)) := by kernel_rfl
/-- The region, whatever order comes up. -/
theorem LL36.run (X : LL36) (ok : LL36Ok X) {Q : Exit → Act → World → Prop} (w : World) (h0 : X.Wd 0 (fun _ => undef) w.drew) (hend : ∀ (γ : Nat → Value) w', X.Wd 2 γ w' → Q .normal (((((((((X.a0.put (some 187) (.slice (some ⟨X.g, X.off, none⟩) X.n X.cq)).put (some 188) (.pointer (some ⟨X.g, X.off, none⟩))).put (some 189) (.agg #[.int .i64 X.ax, .int .i64 X.ay])).put (some 190) (.slice (some ⟨X.g, X.off, none⟩) X.n X.cq)).put (some 191) (.pointer (some ⟨X.g, X.off + 2, none⟩))).put (some 192) (.agg #[.int .i64 X.ex, .int .i64 X.ey])).put (some 193) (.int .i64 X.h)).put (some 194) (.agg #[.int .i64 X.sx, .int .i64 X.sy])).put (some 17) (γ 0)) w') : (Code.region 36 (opsOf 36 Tryz.f78) true).wp Tryz.prog Q X.a0 w := by
  refine reg_act (acts := LL36.acts) (av := LL36.av) (val0 := X.val0) (Wd := X.Wd) (by kernel_rfl) (by kernel_rfl) (by rw [LL36.size]; decide) (fun i hi => LL36.steps X ok i hi) _ h0 ?_
  intro γ w' h
  rw [LL36.puts]
  exact hend γ w' h
structure LL40 where
  ax : Int
  ay : Int
  ex : Int
  ey : Int
  sx : Int
  sy : Int
  h : Int
  g : Nat
  off : Nat
  n : Nat
  ia : Nat
  ib : Nat
  cq : Nat
  bs : Nat
  W : World
  a0 : Act
structure LL40Ok (X : LL40) : Prop where
  a0_ : X.W.cell? ⟨X.g, X.off + X.ia * 2, none⟩ = some (.int .i64 X.ax)
  a1_ : X.W.cell? ⟨X.g, X.off + X.ia * 2 + 1, none⟩ = some (.int .i64 X.ay)
  b0_ : X.W.cell? ⟨X.g, X.off + X.ib * 2, none⟩ = some (.int .i64 X.ex)
  b1_ : X.W.cell? ⟨X.g, X.off + X.ib * 2 + 1, none⟩ = some (.int .i64 X.ey)
  d1 : IntKind.i64.wrap ((X.n : Int) - 2) = (X.ia : Int)
  d2 : IntKind.i64.wrap ((X.n : Int) - 1) = (X.ib : Int)
  k0 : X.ia < X.n
  k1 : X.ib < X.n
  hS : ∀ w, Calls Tryz.prog 96 #[.agg #[.int .i64 X.ax, .int .i64 X.ay], .agg #[.int .i64 X.ex, .int .i64 X.ey], .int .i64 X.h] w fun e w' => e = .returned (.agg #[.int .i64 X.sx, .int .i64 X.sy]) ∧ Kp w w'
  z0 : ∃ u, X.W.cell? ⟨X.bs, 0, none⟩ = some u
  z1 : ∃ u, X.W.cell? ⟨X.bs, 1, none⟩ = some u
  zf : ∀ o, X.W.frozen? ⟨X.bs, o, none⟩ = false
  e5 : X.a0.eval (.tmp 5) = .int .i64 X.h
  e6 : X.a0.eval (.tmp 6) = .slice (some ⟨X.g, X.off, none⟩) X.n X.cq
  e9 : X.a0.eval (.tmp 9) = .int .i64 (X.n : Int)
  e17 : X.a0.eval (.tmp 17) = .pointer (some ⟨X.bs, 0, none⟩)
  sz : X.a0.tmps.size = 270
def LL40.val0 (X : LL40) : Nat → Value
  | 225 => .slice (some ⟨X.g, X.off, none⟩) X.n X.cq
  | 226 => .int .i64 (X.n : Int)
  | 227 => .int .i64 (X.ia : Int)
  | 228 => .pointer (some ⟨X.g, X.off + X.ia * 2, none⟩)
  | 229 => .agg #[.int .i64 X.ax, .int .i64 X.ay]
  | 230 => .slice (some ⟨X.g, X.off, none⟩) X.n X.cq
  | 231 => .int .i64 (X.n : Int)
  | 232 => .int .i64 (X.ib : Int)
  | 233 => .pointer (some ⟨X.g, X.off + X.ib * 2, none⟩)
  | 234 => .agg #[.int .i64 X.ex, .int .i64 X.ey]
  | 235 => .int .i64 X.h
  | 236 => .agg #[.int .i64 X.sx, .int .i64 X.sy]
  | _ => undef
def LL40.av : Nat → Option Nat
  | _ => none
def LL40.acts : List Nat := [12]
/-- The world, by how many of the acting ones have come up. -/
def LL40.Wd (X : LL40) : Nat → (Nat → Value) → World → Prop
  | 0, _, w => Kp X.W w
  | _, _, w => ∃ w1, Kp X.W w1 ∧ w = ((w1.setCell ⟨X.bs, 0, none⟩ (.int .i64 X.sx)).setCell ⟨X.bs, 1, none⟩ (.int .i64 X.sy))
theorem LL40.chain : chainG (opsOf 40 Tryz.f78) LL40.acts = true := by kernel_rfl
theorem LL40.nodup : LL40.acts.Nodup := by decide
theorem LL40.inj {listed : Array Bool} {i k : Nat} (h : (List.range (opsOf 40 Tryz.f78).size).all (fun j => decide (j = i) || !(match dstOf (opsOf 40 Tryz.f78) j with | some d => decide (LL40.av d = some k) | none => false)) = true) (hu : listed.getD i false = false) : ∀ d, got (opsOf 40 Tryz.f78) listed d → LL40.av d ≠ some k := by
  rintro d ⟨j, h1, h2⟩ h3
  have hlt : j < (opsOf 40 Tryz.f78).size := by
    rcases Nat.lt_or_ge j (opsOf 40 Tryz.f78).size with h4 | h4
    · exact h4
    · unfold dstOf at h2; rw [Array.getElem?_eq_none h4] at h2; cases h2
  have h5 := List.all_eq_true.1 h j (List.mem_range.2 hlt)
  rw [h2] at h5
  simp only [h3, decide_true, Bool.not_true, Bool.or_false, decide_eq_true_eq] at h5
  subst h5
  rw [hu] at h1
  cases h1
theorem LL40.s0 (X : LL40) (ok : LL40Ok X) {Q : Exit → Act → World → Prop} : StepG (opsOf 40 Tryz.f78) LL40.acts LL40.av X.val0 X.Wd X.a0 Q 0 := by
  intro γ listed a w o hF hC hW h1 ho h2
  obtain ⟨hd, hop, hg⟩ := fields2 (x := some 225) (y := Op.move (.tmp 6)) (z := none) (by kernel_rfl) ho
  have e6 : a.eval (.tmp 6) = .slice (some ⟨X.g, X.off, none⟩) X.n X.cq := (hF.eval0 (by kernel_rfl)).trans ok.e6
  refine st_pureG hF hC hW ho h2 (by decide) hd hg rfl ?_
  show _ = Result.ok (Next.value (.slice (some ⟨X.g, X.off, none⟩) X.n X.cq)) w
  generalize a.eval = ρ at e6 ⊢
  unfold execOp
  rw [hop]
  simp [e6, go_sem]
theorem LL40.s1 (X : LL40) (ok : LL40Ok X) {Q : Exit → Act → World → Prop} : StepG (opsOf 40 Tryz.f78) LL40.acts LL40.av X.val0 X.Wd X.a0 Q 1 := by
  intro γ listed a w o hF hC hW h1 ho h2
  obtain ⟨hd, hop, hg⟩ := fields2 (x := some 226) (y := Op.move (.tmp 9)) (z := none) (by kernel_rfl) ho
  have e9 : a.eval (.tmp 9) = .int .i64 (X.n : Int) := (hF.eval0 (by kernel_rfl)).trans ok.e9
  refine st_pureG hF hC hW ho h2 (by decide) hd hg rfl ?_
  show _ = Result.ok (Next.value (.int .i64 (X.n : Int))) w
  generalize a.eval = ρ at e9 ⊢
  unfold execOp
  rw [hop]
  simp [e9, go_sem]
theorem LL40.s2 (X : LL40) (ok : LL40Ok X) {Q : Exit → Act → World → Prop} : StepG (opsOf 40 Tryz.f78) LL40.acts LL40.av X.val0 X.Wd X.a0 Q 2 := by
  intro γ listed a w o hF hC hW h1 ho h2
  obtain ⟨hd, hop, hg⟩ := fields2 (x := some 227) (y := Op.binOp .sub 3 (.tmp 226) (.const (.int .i64 2)) 3) (z := none) (by kernel_rfl) ho
  have e226 : a.eval (.tmp 226) = .int .i64 (X.n : Int) := slotG hF ho h2 (j := 1) (d := 226) (by kernel_rfl) (by kernel_rfl) (by rw [ok.sz]; decide)
  have ec1 : a.eval (.const (.int .i64 2)) = .int .i64 2 := rfl
  refine st_pureG hF hC hW ho h2 (by decide) hd hg rfl ?_
  show _ = Result.ok (Next.value (.int .i64 (X.ia : Int))) w
  generalize a.eval = ρ at e226 ec1 ⊢
  unfold execOp
  rw [hop]
  simp [e226, ec1, ok.d1, go_sem]
theorem LL40.s3 (X : LL40) (ok : LL40Ok X) {Q : Exit → Act → World → Prop} : StepG (opsOf 40 Tryz.f78) LL40.acts LL40.av X.val0 X.Wd X.a0 Q 3 := by
  intro γ listed a w o hF hC hW h1 ho h2
  obtain ⟨hd, hop, hg⟩ := fields2 (x := some 228) (y := Op.indexAddr 23 (.tmp 225) (.tmp 227)) (z := none) (by kernel_rfl) ho
  have e225 : a.eval (.tmp 225) = .slice (some ⟨X.g, X.off, none⟩) X.n X.cq := slotG hF ho h2 (j := 0) (d := 225) (by kernel_rfl) (by kernel_rfl) (by rw [ok.sz]; decide)
  have e227 : a.eval (.tmp 227) = .int .i64 (X.ia : Int) := slotG hF ho h2 (j := 2) (d := 227) (by kernel_rfl) (by kernel_rfl) (by rw [ok.sz]; decide)
  refine st_pureG hF hC hW ho h2 (by decide) hd hg rfl ?_
  show _ = Result.ok (Next.value (.pointer (some ⟨X.g, X.off + X.ia * 2, none⟩))) w
  generalize a.eval = ρ at e225 e227 ⊢
  unfold execOp
  rw [hop]
  simp [e225, e227, ok.k0, go_sem]
theorem LL40.s4 (X : LL40) (ok : LL40Ok X) {Q : Exit → Act → World → Prop} : StepG (opsOf 40 Tryz.f78) LL40.acts LL40.av X.val0 X.Wd X.a0 Q 4 := by
  intro γ listed a w o hF hC hW h1 ho h2
  obtain ⟨hd, hop, hg⟩ := fields2 (x := some 229) (y := Op.load 34 (.tmp 228)) (z := none) (by kernel_rfl) ho
  have e228 : a.eval (.tmp 228) = .pointer (some ⟨X.g, X.off + X.ia * 2, none⟩) := slotG hF ho h2 (j := 3) (d := 228) (by kernel_rfl) (by kernel_rfl) (by rw [ok.sz]; decide)
  have hph := phase_leG (acts := LL40.acts) (m := 0) (x := 12) hC (unl (hF.lt ho) h1) rfl [11, 4] (by kernel_rfl) (by decide)
  have hWW := hW
  generalize phase listed LL40.acts = n at hph hWW
  have hk : Kp X.W w := by
    obtain rfl : n = 0 := by omega
    exact hWW
  have hc0 := rq_at hk ok.a0_
  have hc1 := rq_at hk ok.a1_
  refine st_pureG hF hC hW ho h2 (by decide) hd hg rfl ?_
  show _ = Result.ok (Next.value (.agg #[.int .i64 X.ax, .int .i64 X.ay])) w
  generalize a.eval = ρ at e228 ⊢
  unfold execOp
  rw [hop]
  simp [e228, hc0, hc1, go_sem]
theorem LL40.s5 (X : LL40) (ok : LL40Ok X) {Q : Exit → Act → World → Prop} : StepG (opsOf 40 Tryz.f78) LL40.acts LL40.av X.val0 X.Wd X.a0 Q 5 := by
  intro γ listed a w o hF hC hW h1 ho h2
  obtain ⟨hd, hop, hg⟩ := fields2 (x := some 230) (y := Op.move (.tmp 6)) (z := none) (by kernel_rfl) ho
  have e6 : a.eval (.tmp 6) = .slice (some ⟨X.g, X.off, none⟩) X.n X.cq := (hF.eval0 (by kernel_rfl)).trans ok.e6
  refine st_pureG hF hC hW ho h2 (by decide) hd hg rfl ?_
  show _ = Result.ok (Next.value (.slice (some ⟨X.g, X.off, none⟩) X.n X.cq)) w
  generalize a.eval = ρ at e6 ⊢
  unfold execOp
  rw [hop]
  simp [e6, go_sem]
theorem LL40.s6 (X : LL40) (ok : LL40Ok X) {Q : Exit → Act → World → Prop} : StepG (opsOf 40 Tryz.f78) LL40.acts LL40.av X.val0 X.Wd X.a0 Q 6 := by
  intro γ listed a w o hF hC hW h1 ho h2
  obtain ⟨hd, hop, hg⟩ := fields2 (x := some 231) (y := Op.move (.tmp 9)) (z := none) (by kernel_rfl) ho
  have e9 : a.eval (.tmp 9) = .int .i64 (X.n : Int) := (hF.eval0 (by kernel_rfl)).trans ok.e9
  refine st_pureG hF hC hW ho h2 (by decide) hd hg rfl ?_
  show _ = Result.ok (Next.value (.int .i64 (X.n : Int))) w
  generalize a.eval = ρ at e9 ⊢
  unfold execOp
  rw [hop]
  simp [e9, go_sem]
theorem LL40.s7 (X : LL40) (ok : LL40Ok X) {Q : Exit → Act → World → Prop} : StepG (opsOf 40 Tryz.f78) LL40.acts LL40.av X.val0 X.Wd X.a0 Q 7 := by
  intro γ listed a w o hF hC hW h1 ho h2
  obtain ⟨hd, hop, hg⟩ := fields2 (x := some 232) (y := Op.binOp .sub 3 (.tmp 231) (.const (.int .i64 1)) 3) (z := none) (by kernel_rfl) ho
  have e231 : a.eval (.tmp 231) = .int .i64 (X.n : Int) := slotG hF ho h2 (j := 6) (d := 231) (by kernel_rfl) (by kernel_rfl) (by rw [ok.sz]; decide)
  have ec1 : a.eval (.const (.int .i64 1)) = .int .i64 1 := rfl
  refine st_pureG hF hC hW ho h2 (by decide) hd hg rfl ?_
  show _ = Result.ok (Next.value (.int .i64 (X.ib : Int))) w
  generalize a.eval = ρ at e231 ec1 ⊢
  unfold execOp
  rw [hop]
  simp [e231, ec1, ok.d2, go_sem]
theorem LL40.s8 (X : LL40) (ok : LL40Ok X) {Q : Exit → Act → World → Prop} : StepG (opsOf 40 Tryz.f78) LL40.acts LL40.av X.val0 X.Wd X.a0 Q 8 := by
  intro γ listed a w o hF hC hW h1 ho h2
  obtain ⟨hd, hop, hg⟩ := fields2 (x := some 233) (y := Op.indexAddr 23 (.tmp 230) (.tmp 232)) (z := none) (by kernel_rfl) ho
  have e230 : a.eval (.tmp 230) = .slice (some ⟨X.g, X.off, none⟩) X.n X.cq := slotG hF ho h2 (j := 5) (d := 230) (by kernel_rfl) (by kernel_rfl) (by rw [ok.sz]; decide)
  have e232 : a.eval (.tmp 232) = .int .i64 (X.ib : Int) := slotG hF ho h2 (j := 7) (d := 232) (by kernel_rfl) (by kernel_rfl) (by rw [ok.sz]; decide)
  refine st_pureG hF hC hW ho h2 (by decide) hd hg rfl ?_
  show _ = Result.ok (Next.value (.pointer (some ⟨X.g, X.off + X.ib * 2, none⟩))) w
  generalize a.eval = ρ at e230 e232 ⊢
  unfold execOp
  rw [hop]
  simp [e230, e232, ok.k1, go_sem]
theorem LL40.s9 (X : LL40) (ok : LL40Ok X) {Q : Exit → Act → World → Prop} : StepG (opsOf 40 Tryz.f78) LL40.acts LL40.av X.val0 X.Wd X.a0 Q 9 := by
  intro γ listed a w o hF hC hW h1 ho h2
  obtain ⟨hd, hop, hg⟩ := fields2 (x := some 234) (y := Op.load 34 (.tmp 233)) (z := none) (by kernel_rfl) ho
  have e233 : a.eval (.tmp 233) = .pointer (some ⟨X.g, X.off + X.ib * 2, none⟩) := slotG hF ho h2 (j := 8) (d := 233) (by kernel_rfl) (by kernel_rfl) (by rw [ok.sz]; decide)
  have hph := phase_leG (acts := LL40.acts) (m := 0) (x := 12) hC (unl (hF.lt ho) h1) rfl [11, 9] (by kernel_rfl) (by decide)
  have hWW := hW
  generalize phase listed LL40.acts = n at hph hWW
  have hk : Kp X.W w := by
    obtain rfl : n = 0 := by omega
    exact hWW
  have hc0 := rq_at hk ok.b0_
  have hc1 := rq_at hk ok.b1_
  refine st_pureG hF hC hW ho h2 (by decide) hd hg rfl ?_
  show _ = Result.ok (Next.value (.agg #[.int .i64 X.ex, .int .i64 X.ey])) w
  generalize a.eval = ρ at e233 ⊢
  unfold execOp
  rw [hop]
  simp [e233, hc0, hc1, go_sem]
theorem LL40.s10 (X : LL40) (ok : LL40Ok X) {Q : Exit → Act → World → Prop} : StepG (opsOf 40 Tryz.f78) LL40.acts LL40.av X.val0 X.Wd X.a0 Q 10 := by
  intro γ listed a w o hF hC hW h1 ho h2
  obtain ⟨hd, hop, hg⟩ := fields2 (x := some 235) (y := Op.move (.tmp 5)) (z := none) (by kernel_rfl) ho
  have e5 : a.eval (.tmp 5) = .int .i64 X.h := (hF.eval0 (by kernel_rfl)).trans ok.e5
  refine st_pureG hF hC hW ho h2 (by decide) hd hg rfl ?_
  show _ = Result.ok (Next.value (.int .i64 X.h)) w
  generalize a.eval = ρ at e5 ⊢
  unfold execOp
  rw [hop]
  simp [e5, go_sem]
theorem LL40.s11 (X : LL40) (ok : LL40Ok X) {Q : Exit → Act → World → Prop} : StepG (opsOf 40 Tryz.f78) LL40.acts LL40.av X.val0 X.Wd X.a0 Q 11 := by
  intro γ listed a w o hF hC hW h1 ho h2
  obtain ⟨hd, hop, hg⟩ := fields2 (x := some 236) (y := Op.call { callee := .value (.func 96), args := #[(.tmp 229), (.tmp 234), (.tmp 235)], argTypes := #[34, 34, 3] }) (z := none) (by kernel_rfl) ho
  have e229 : a.eval (.tmp 229) = .agg #[.int .i64 X.ax, .int .i64 X.ay] := slotG hF ho h2 (j := 4) (d := 229) (by kernel_rfl) (by kernel_rfl) (by rw [ok.sz]; decide)
  have e234 : a.eval (.tmp 234) = .agg #[.int .i64 X.ex, .int .i64 X.ey] := slotG hF ho h2 (j := 9) (d := 234) (by kernel_rfl) (by kernel_rfl) (by rw [ok.sz]; decide)
  have e235 : a.eval (.tmp 235) = .int .i64 X.h := slotG hF ho h2 (j := 10) (d := 235) (by kernel_rfl) (by kernel_rfl) (by rw [ok.sz]; decide)
  have ef : a.eval (.func 96) = .func (.func 96) #[] #[] := rfl
  have hph := phase_leG (acts := LL40.acts) (m := 0) (x := 12) hC (unl (hF.lt ho) h1) rfl [11] (by kernel_rfl) (by decide)
  have hWW := hW
  generalize phase listed LL40.acts = n at hph hWW
  refine st_callG hF hC hW ho h2 (by decide) hd hg rfl (f := 96) (args := #[.agg #[.int .i64 X.ax, .int .i64 X.ay], .agg #[.int .i64 X.ex, .int .i64 X.ey], .int .i64 X.h]) ?_ ?_ ?_
  · generalize a.eval = ρ at e229 e234 e235 ef ⊢
    unfold execOp
    rw [hop]
    simp [e229, e234, e235, ef, go_sem]
  · exact ok.hS w
  · intro w' hk
    have hz : phase listed LL40.acts = 0 := by
      have := phase_leG (acts := LL40.acts) (m := 0) (x := 12) hC (unl (hF.lt ho) h1) rfl [11] (by kernel_rfl) (by decide)
      omega
    rw [hz] at hW ⊢
    exact Kp.trans hW hk
theorem LL40.s12 (X : LL40) (ok : LL40Ok X) {Q : Exit → Act → World → Prop} : StepG (opsOf 40 Tryz.f78) LL40.acts LL40.av X.val0 X.Wd X.a0 Q 12 := by
  intro γ listed a w o hF hC hW h1 ho h2
  obtain ⟨hd, hop, hg⟩ := fields2 (x := none) (y := Op.store 34 (.tmp 17) (.tmp 236)) (z := none) (by kernel_rfl) ho
  have e17 : a.eval (.tmp 17) = .pointer (some ⟨X.bs, 0, none⟩) := (hF.eval0 (by kernel_rfl)).trans ok.e17
  have e236 : a.eval (.tmp 236) = .agg #[.int .i64 X.sx, .int .i64 X.sy] := slotG hF ho h2 (j := 11) (d := 236) (by kernel_rfl) (by kernel_rfl) (by rw [ok.sz]; decide)
  have hu := unl (hF.lt ho) h1
  refine st_actG (k := 0) LL40.chain LL40.nodup rfl hF hC hW h1 ho h2 (Or.inl hd) (LL40.inj (by kernel_rfl) hu) hg ?_
  intro hW0 K hK
  obtain ⟨u0, z0⟩ := ok.z0
  replace z0 := rq_at hW0 z0
  obtain ⟨u1, z1⟩ := ok.z1
  replace z1 := rq_at hW0 z1
  have zf : ∀ o, w.frozen? ⟨X.bs, o, none⟩ = false := fun o => (hW0.cells.2 _ _).trans (ok.zf o)
  have hr : (execOp a.eval o).run Tryz.prog w = .ok .skip ((w.setCell ⟨X.bs, 0, none⟩ (.int .i64 X.sx)).setCell ⟨X.bs, 1, none⟩ (.int .i64 X.sy)) := by
    generalize a.eval = ρ at e17 e236 ⊢
    unfold execOp
    rw [hop]
    simp [e17, e236, z0, z1, zf, go_sem]
  unfold Oper.wp
  rw [hr]
  exact hK _ _ ⟨w, hW0, rfl⟩
theorem LL40.size : (opsOf 40 Tryz.f78).size = 13 := by kernel_rfl
theorem LL40.steps (X : LL40) (ok : LL40Ok X) {Q : Exit → Act → World → Prop} (i : Nat) (hi : i < (opsOf 40 Tryz.f78).size) : StepG (opsOf 40 Tryz.f78) LL40.acts LL40.av X.val0 X.Wd X.a0 Q i := by
  rw [LL40.size] at hi
  have hc : i = 0 ∨ i = 1 ∨ i = 2 ∨ i = 3 ∨ i = 4 ∨ i = 5 ∨ i = 6 ∨ i = 7 ∨ i = 8 ∨ i = 9 ∨ i = 10 ∨ i = 11 ∨ i = 12 := by omega
  rcases hc with rfl | rfl | rfl | rfl | rfl | rfl | rfl | rfl | rfl | rfl | rfl | rfl | rfl
  · exact LL40.s0 X ok
  · exact LL40.s1 X ok
  · exact LL40.s2 X ok
  · exact LL40.s3 X ok
  · exact LL40.s4 X ok
  · exact LL40.s5 X ok
  · exact LL40.s6 X ok
  · exact LL40.s7 X ok
  · exact LL40.s8 X ok
  · exact LL40.s9 X ok
  · exact LL40.s10 X ok
  · exact LL40.s11 X ok
  · exact LL40.s12 X ok
theorem LL40.puts (X : LL40) (γ : Nat → Value) (a0 : Act) : putsL (valG LL40.av X.val0 γ) (opsOf 40 Tryz.f78).toList a0 = ((((((((((((a0.put (some 225) (.slice (some ⟨X.g, X.off, none⟩) X.n X.cq)).put (some 226) (.int .i64 (X.n : Int))).put (some 227) (.int .i64 (X.ia : Int))).put (some 228) (.pointer (some ⟨X.g, X.off + X.ia * 2, none⟩))).put (some 229) (.agg #[.int .i64 X.ax, .int .i64 X.ay])).put (some 230) (.slice (some ⟨X.g, X.off, none⟩) X.n X.cq)).put (some 231) (.int .i64 (X.n : Int))).put (some 232) (.int .i64 (X.ib : Int))).put (some 233) (.pointer (some ⟨X.g, X.off + X.ib * 2, none⟩))).put (some 234) (.agg #[.int .i64 X.ex, .int .i64 X.ey])).put (some 235) (.int .i64 X.h)).put (some 236) (.agg #[.int .i64 X.sx, .int .i64 X.sy])) := by kernel_rfl
/-- The region, whatever order comes up. -/
theorem LL40.run (X : LL40) (ok : LL40Ok X) {Q : Exit → Act → World → Prop} (w : World) (h0 : X.Wd 0 (fun _ => undef) w.drew) (hend : ∀ (γ : Nat → Value) w', X.Wd 1 γ w' → Q .normal ((((((((((((X.a0.put (some 225) (.slice (some ⟨X.g, X.off, none⟩) X.n X.cq)).put (some 226) (.int .i64 (X.n : Int))).put (some 227) (.int .i64 (X.ia : Int))).put (some 228) (.pointer (some ⟨X.g, X.off + X.ia * 2, none⟩))).put (some 229) (.agg #[.int .i64 X.ax, .int .i64 X.ay])).put (some 230) (.slice (some ⟨X.g, X.off, none⟩) X.n X.cq)).put (some 231) (.int .i64 (X.n : Int))).put (some 232) (.int .i64 (X.ib : Int))).put (some 233) (.pointer (some ⟨X.g, X.off + X.ib * 2, none⟩))).put (some 234) (.agg #[.int .i64 X.ex, .int .i64 X.ey])).put (some 235) (.int .i64 X.h)).put (some 236) (.agg #[.int .i64 X.sx, .int .i64 X.sy])) w') : (Code.region 40 (opsOf 40 Tryz.f78) true).wp Tryz.prog Q X.a0 w := by
  refine reg_act (acts := LL40.acts) (av := LL40.av) (val0 := X.val0) (Wd := X.Wd) (by kernel_rfl) (by kernel_rfl) (by rw [LL40.size]; decide) (fun i hi => LL40.steps X ok i hi) _ h0 ?_
  intro γ w' h
  rw [LL40.puts]
  exact hend γ w' h
end Go.Proofs.YtfdjjbgcaojcnaaGreat
