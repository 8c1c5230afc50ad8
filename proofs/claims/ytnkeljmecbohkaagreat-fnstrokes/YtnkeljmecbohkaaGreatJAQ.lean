/-
  A slot that a drawn region fills later only; each theorem na
-/
import Derived.Test.YtnkeljmecbohkaaGreatJAE
import Derived.Test.YtnkeljmecbohkaaGreatJAP
import Derived.Test.YtnkeljmecbohkaaGreatJAF
import Derived.Test.YtnkeljmecbohkaaGreatJAK
import Derived.Test.YtnkeljmecbohkaaGreatJAD
import Derived.Test.YtnkeljmecbohkaaGreatJAB
import Derived.Test.YtnkeljmecbohkaaGreatJAA
namespace Go.Proofs.YtnkeljmecbohkaaGreat
open Go.ChangeShapes Go.WideShapes Go.ChangeAt Go.RowKit
set_option linter.unusedVariables false
theorem early_of {ops : Array Oper} {listed : Array Bool} {i j d : Nat} (hC : Clo ops listed) (hu : listed.getD i false = false) (hone : (List.range ops.size).all (fun k => decide (k = j) || !(decide (dstOf ops k = some d))) = true) (p : List Nat) (hp : pathB ops (j :: p) = true) (hi : i ∈ p) : ¬ got ops listed d := by
 rintro ⟨k, h1, h2⟩
 have hlt : k < ops.size := by
  rcases Nat.lt_or_ge k ops.size with h4 | h4
  ·exact h4
  ·unfold dstOf at h2; rw [Array.getElem?_eq_none h4] at h2; cases h2
 have h5 := List.all_eq_true.1 hone k (List.mem_range.2 hlt)
 rw [h2] at h5
 simp only [decide_true, Bool.not_true, Bool.or_false, decide_eq_true_eq] at h5
 subst h5
 have := hC.path p k hp h1 i hi
 rw [hu] at this
 cases this
theorem wp_lnx {o : Oper} {a : Act} {K : Act → World → Prop} {Q : PQ} (wS w : World) (s x : Operand)
  (ho : o.op = .call { callee := .builtin .append, args := #[s, x], argTypes := #[29, 29] }) (B : Nat) (v : Value) (it : Its) (u : Value) (ld : LD) (hs : a.eval s = v) (h : OwnLn wS B v it) (k : Nw wS w) (hB : B ≤ wS.heap.size) (hu : OwnP w wS.heap.size u ld.pts)
  (hx : a.eval x = .slice (some ⟨w.heap.size, 0, none⟩) 1 1) (hl : it.length + 1 ≤ 1000000)
  (hc : ∀ g' c' w', OwnLn w' B (.slice (some ⟨g', 0, none⟩) (it.length + 1) c') (it ++ [(u, ld)]) → Below B wS w' → Ext v (.slice (some ⟨g', 0, none⟩) (it.length + 1) c') wS w' → K (a.put o.dst (.slice (some ⟨g', 0, none⟩) (it.length + 1) c')) w') : o.wp Tryz.prog a (w.alloc (.cells #[u, .bool ld.closed] 25)) K Q := by
 have n1 : Nw w (w.alloc (.cells #[u, .bool ld.closed] 25)) := (Below.refl _ _).alloc (Nat.le_refl _) _
 have hsz := Below.size k
 refine wp_q 25 29 29 (.slice none 0 0) (.bool false) 32 under_lns under_lns info_line (by decide) rfl _ s x ho B v (vLn it) (vLn [(u, ld)]) hs (OwnQ.nw h.own (Nw.trans k n1)) w.heap.size 0 1 1 rfl hx (fun i hi => ?_) (one_lineD hu) (by rw [vLn_len]; simp) (by rw [vLn_len, vLn_len]; simp; omega) (by simp; omega) ?_
 ·have : i = 0 := by simp [vLn] at hi; omega
  subst this
  exact ⟨by simp [vLn, vvAt], by simp [vLn, vvAt]⟩
 ·intro g' c' w' h2 h3
  rw [← vLn_append] at h2
  rw [vLn_len] at h2 h3 ⊢
  exact hc g' c' w' (OwnLn.put h (Nw.trans k n1) hB (OwnP.nw hu n1) h2 h3) (Below.trans (Below.mono (Nw.trans k n1) hB) (Ext.below h3 (fun g hg => (OwnQ.lt h.own g hg).1) (by simp; omega))) (Nw.ext (Nw.trans k n1) h3)
theorem wp_ln {o : Oper} {a : Act} {K : Act → World → Prop} {Q : PQ} (wS w : World) (s x : Operand)
  (ho : o.op = .call { callee := .builtin .append, args := #[s, x], argTypes := #[29, 29] }) (B : Nat) (v : Value) (it : Its) (u : Value) (ld : LD) (hs : a.eval s = v) (h : OwnLn wS B v it) (k : Nw wS w) (hB : B ≤ wS.heap.size) (hu : OwnP w wS.heap.size u ld.pts)
  (hx : a.eval x = .slice (some ⟨w.heap.size, 0, none⟩) 1 1) (hl : it.length + 1 ≤ 1000000)
  (hc : ∀ g' c' w', OwnLn w' B (.slice (some ⟨g', 0, none⟩) (it.length + 1) c') (it ++ [(u, ld)]) → Below B wS w' → K (a.put o.dst (.slice (some ⟨g', 0, none⟩) (it.length + 1) c')) w') : o.wp Tryz.prog a (w.alloc (.cells #[u, .bool ld.closed] 25)) K Q :=
 wp_lnx wS w s x ho B v it u ld hs h k hB hu hx hl fun g' c' w' h1 h2 _ => hc g' c' w' h1 h2
theorem ItsOk.two {w w' : World} {B : Nat} {u u2 : Value} {L M : List Pnt} (h : OwnP w B u L) (k : Nw w w') (h2 : OwnP w' w.heap.size u2 M) (hB : B ≤ w.heap.size) : ItsOk w' B [(u, ⟨L, true⟩), (u2, ⟨M, true⟩)] := by
 have a1 : ItsOk w B [(u, ⟨L, true⟩)] := ⟨fun i hi => by
  have : i = 0 := by simpa using hi
  subst this; exact h, fun i j hij hi hj => by simp at hi hj; omega⟩
 have a2 : ItsOk w' w.heap.size [(u2, ⟨M, true⟩)] := ⟨fun i hi => by
  have : i = 0 := by simpa using hi
  subst this; exact h2, fun i j hij hi hj => by simp at hi hj; omega⟩
 exact ItsOk.app a1 k a2 hB
theorem wp_ln2 {o : Oper} {a : Act} {K : Act → World → Prop} {Q : PQ} (wS w : World) (s x : Operand)
  (ho : o.op = .call { callee := .builtin .append, args := #[s, x], argTypes := #[29, 29] }) (B : Nat) (v : Value) (it : Its) (u u2 : Value) (ld ld2 : LD) (hs : a.eval s = v) (h : OwnLn wS B v it) (k : Nw wS w) (hB : B ≤ wS.heap.size) (hu : ItsOk w wS.heap.size [(u, ld), (u2, ld2)])
  (hx : a.eval x = .slice (some ⟨w.heap.size, 0, none⟩) 2 2) (hl : it.length + 2 ≤ 1000000)
  (hc : ∀ v' w', OwnLn w' B v' (it ++ [(u, ld), (u2, ld2)]) → Below B wS w' → K (a.put o.dst v') w') : o.wp Tryz.prog a (w.alloc (.cells #[u, .bool ld.closed, u2, .bool ld2.closed] 25)) K Q := by
 have n1 : Nw w (w.alloc (.cells #[u, .bool ld.closed, u2, .bool ld2.closed] 25)) := (Below.refl _ _).alloc (Nat.le_refl _) _
 have hsz := Below.size k
 refine wp_q 25 29 29 (.slice none 0 0) (.bool false) 32 under_lns under_lns info_line (by decide) rfl _ s x ho B v (vLn it) (vLn [(u, ld), (u2, ld2)]) hs (OwnQ.nw h.own (Nw.trans k n1)) w.heap.size 0 2 2 rfl hx (fun i hi => ?_) hu.one (by rw [vLn_len]; simp) (by rw [vLn_len, vLn_len]; simp; omega) (by simp; omega) ?_
 ·rcases (show i = 0 ∨ i = 1 by simp [vLn] at hi; omega) with rfl | rfl
  ·exact ⟨by simp [vLn, vvAt], by simp [vLn, vvAt]⟩
  ·exact ⟨by simp [vLn, vvAt], by simp [vLn, vvAt]⟩
 ·intro g' c' w' h2 h3
  rw [← vLn_append] at h2
  rw [vLn_len] at h2 h3 ⊢
  refine hc _ w' (OwnLn.puts (u := .slice none 0 0) h (Nw.trans k n1) hB (hu.nw n1) h2 h3) ?_
  exact Below.trans (Below.mono (Nw.trans k n1) hB) (Ext.below h3 (fun g hg => (OwnQ.lt h.own g hg).1) (by simp; omega))
def offLn (b : Nat) (v : Value) (it : Its) : Prop := v.ownBlock ≠ some b ∧ ∀ i, i < it.length → (itAt it i).1.ownBlock ≠ some b
theorem OwnLn.offSet {w : World} {B : Nat} {v : Value} {it : Its} (h : OwnLn w B v it) {b : Nat} (hb : offLn b v it) (o : Nat) (u : Value) : OwnLn (w.setCell ⟨b, o, none⟩ u) B v it :=
 ⟨OwnQ.far h.own b o u hb.1, fun i hi => OwnQ.far (h.pts i hi) b o u (hb.2 i hi), h.far, h.apart⟩
theorem OwnLn.offNew {w : World} {B : Nat} {v : Value} {it : Its} (h : OwnLn w B v it) {b : Nat} (hb : w.heap.size ≤ b) : offLn b v it :=
 ⟨fun e => by have := (OwnQ.lt h.own b e).2; omega, fun i hi e => by have := (OwnQ.lt (h.pts i hi) b e).2; omega⟩
theorem offLn.put {wS w' : World} {b : Nat} {v v' u : Value} {it : Its} {ld : LD} (h : offLn b v it) (hb : b < wS.heap.size) (x : Ext v v' wS w') (hu : ∀ c, u.ownBlock = some c → wS.heap.size ≤ c) : offLn b v' (it ++ [(u, ld)]) :=
 ⟨Ext.apart x hb h.1, fun i hi e => by
  rw [List.length_append, List.length_singleton] at hi
  by_cases e1 : i = it.length
  ·subst e1
   rw [itAt_new] at e
   have := hu b e
   omega
  ·rw [itAt_old it _ i (by omega)] at e
   exact h.2 i (by omega) e⟩
structure Bz (w0 w : World) (g : Nat) (x y : Value) : Prop where
 ge : w0.heap.size ≤ g
 c0 : w.cell? ⟨g, 0, none⟩ = some x
 c1 : w.cell? ⟨g, 1, none⟩ = some y
 fr : ∀ o, w.frozen? ⟨g, o, none⟩ = false
set_option linter.unusedSimpArgs false
structure LL24 where
 ax : Int
 ay : Int
 bx : Int
 by_ : Int
 sx : Int
 sy : Int
 ba : Nat
 bb : Nat
 bs : Nat
 v : Value
 B : Nat
 it : Its
 W : World
 a0 : Act
structure LL24Ok (X : LL24) : Prop where
 a0_ : X.W.cell? ⟨X.ba, 0, none⟩ = some (.int .i64 (X.ax))
 a1_ : X.W.cell? ⟨X.ba, 1, none⟩ = some (.int .i64 (X.ay))
 b0_ : X.W.cell? ⟨X.bb, 0, none⟩ = some (.int .i64 (X.bx))
 b1_ : X.W.cell? ⟨X.bb, 1, none⟩ = some (.int .i64 (X.by_))
 s0_ : X.W.cell? ⟨X.bs, 0, none⟩ = some (.int .i64 (X.sx))
 s1_ : X.W.cell? ⟨X.bs, 1, none⟩ = some (.int .i64 (X.sy))
 w0 : wid X.ax
 w1 : wid X.ay
 w2 : wid X.bx
 w3 : wid X.by_
 w4 : wid X.sx
 w5 : wid X.sy
 ho : OwnLn X.W X.B X.v X.it
 hB : X.B ≤ X.W.heap.size
 hl : X.it.length + 1 ≤ 1000000
 e10 : X.a0.eval (.tmp 10) = X.v
 e13 : X.a0.eval (.tmp 13) = .pointer (some ⟨X.ba, 0, none⟩)
 e14 : X.a0.eval (.tmp 14) = .pointer (some ⟨X.bb, 0, none⟩)
 e15 : X.a0.eval (.tmp 15) = .pointer (some ⟨X.bs, 0, none⟩)
 sz : X.a0.tmps.size = 270
def LL24.val0 (X : LL24) : Nat → Value
 | 13 => .pointer (some ⟨X.ba, 0, none⟩)
 | 14 => .pointer (some ⟨X.bb, 0, none⟩)
 | 15 => .pointer (some ⟨X.bs, 0, none⟩)
 | 102 => X.v
 | 103 => .agg #[.int .i64 (X.ax), .int .i64 (X.ay)]
 | 104 => .agg #[.int .i64 (X.sx), .int .i64 (X.sy)]
 | 105 => .agg #[.int .i64 (X.ax + X.sx), .int .i64 (X.ay + X.sy)]
 | 106 => .agg #[.int .i64 (X.bx), .int .i64 (X.by_)]
 | 107 => .agg #[.int .i64 (X.sx), .int .i64 (X.sy)]
 | 108 => .agg #[.int .i64 (X.bx + X.sx), .int .i64 (X.by_ + X.sy)]
 | 109 => .agg #[.int .i64 (X.bx), .int .i64 (X.by_)]
 | 110 => .agg #[.int .i64 (X.sx), .int .i64 (X.sy)]
 | 111 => .agg #[.int .i64 (X.bx - X.sx), .int .i64 (X.by_ - X.sy)]
 | 112 => .agg #[.int .i64 (X.ax), .int .i64 (X.ay)]
 | 113 => .agg #[.int .i64 (X.sx), .int .i64 (X.sy)]
 | 114 => .agg #[.int .i64 (X.ax - X.sx), .int .i64 (X.ay - X.sy)]
 | _ => undef
def LL24.av : Nat → Option Nat
 | 115 => some 0
 | 116 => some 1
 | 117 => some 2
 | 118 => some 3
 | 10 => some 4
 | _ => none
def LL24.acts : List Nat := [13, 14, 15, 16, 17]
def LL24.Wd (X : LL24) : Nat → (Nat → Value) → World → Prop
  | 0, _, w => Kp X.W w
  | 1, γ, w => ∃ w1, Kp X.W w1 ∧ γ 0 = .slice (some ⟨w1.heap.size, 0, none⟩) 4 4 ∧ w = (w1.alloc (.cells #[.int .i64 (X.ax + X.sx), .int .i64 (X.ay + X.sy), .int .i64 (X.bx + X.sx), .int .i64 (X.by_ + X.sy), .int .i64 (X.bx - X.sx), .int .i64 (X.by_ - X.sy), .int .i64 (X.ax - X.sx), .int .i64 (X.ay - X.sy)] 34))
  | 2, γ, w => ∃ w1, Kp X.W w1 ∧ γ 1 = .agg #[.slice (some ⟨w1.heap.size, 0, none⟩) 4 4, .bool true] ∧ Kp (w1.alloc (.cells #[.int .i64 (X.ax + X.sx), .int .i64 (X.ay + X.sy), .int .i64 (X.bx + X.sx), .int .i64 (X.by_ + X.sy), .int .i64 (X.bx - X.sx), .int .i64 (X.by_ - X.sy), .int .i64 (X.ax - X.sx), .int .i64 (X.ay - X.sy)] 34)) w
  | 3, γ, w => ∃ w1 w2, Kp X.W w1 ∧ Kp (w1.alloc (.cells #[.int .i64 (X.ax + X.sx), .int .i64 (X.ay + X.sy), .int .i64 (X.bx + X.sx), .int .i64 (X.by_ + X.sy), .int .i64 (X.bx - X.sx), .int .i64 (X.by_ - X.sy), .int .i64 (X.ax - X.sx), .int .i64 (X.ay - X.sy)] 34)) w2 ∧ γ 2 = .slice (some ⟨w2.heap.size, 0, none⟩) 1 1 ∧ w = w2.alloc (.cells #[.slice (some ⟨w1.heap.size, 0, none⟩) 4 4, .bool true] 25)
  | 4, γ, w => ∃ u, OwnLn w X.B (γ 3) (X.it ++ [(u, ⟨[(X.ax + X.sx, X.ay + X.sy), (X.bx + X.sx, X.by_ + X.sy), (X.bx - X.sx, X.by_ - X.sy), (X.ax - X.sx, X.ay - X.sy)], true⟩)]) ∧ Below X.B X.W w
  | _, γ, w => ∃ u, OwnLn w X.B (γ 4) (X.it ++ [(u, ⟨[(X.ax + X.sx, X.ay + X.sy), (X.bx + X.sx, X.by_ + X.sy), (X.bx - X.sx, X.by_ - X.sy), (X.ax - X.sx, X.ay - X.sy)], true⟩)]) ∧ Below X.B X.W w
theorem LL24.chain : chainG (opsOf 24 Tryz.f78) LL24.acts = true := by kernel_rfl
theorem LL24.nodup : LL24.acts.Nodup := by decide
def LL24.L : List (Option Nat × Op × Option (Nat × Bool)) := [
 (some 102, .move (.tmp 10), none),
 (some 103, .load 34 (.tmp 13), none),
 (some 104, .load 34 (.tmp 15), none),
 (some 105, .call { callee := .value (.func 98), args := #[(.tmp 103), (.tmp 104)], argTypes := #[34, 34] }, none),
 (some 106, .load 34 (.tmp 14), none),
 (some 107, .load 34 (.tmp 15), none),
 (some 108, .call { callee := .value (.func 98), args := #[(.tmp 106), (.tmp 107)], argTypes := #[34, 34] }, none),
 (some 109, .load 34 (.tmp 14), none),
 (some 110, .load 34 (.tmp 15), none),
 (some 111, .call { callee := .value (.func 99), args := #[(.tmp 109), (.tmp 110)], argTypes := #[34, 34] }, none),
 (some 112, .load 34 (.tmp 13), none),
 (some 113, .load 34 (.tmp 15), none),
 (some 114, .call { callee := .value (.func 99), args := #[(.tmp 112), (.tmp 113)], argTypes := #[34, 34] }, none),
 (some 115, .buildSlice 23 4 #[(0, (.tmp 105)), (1, (.tmp 108)), (2, (.tmp 111)), (3, (.tmp 114))], none),
 (some 116, .call { callee := .value (.func 97), args := #[(.tmp 115)], argTypes := #[23] }, none),
 (some 117, .buildSlice 29 1 #[(0, (.tmp 116))], none),
 (some 118, .call { callee := .builtin .append, args := #[(.tmp 102), (.tmp 117)], argTypes := #[29, 29] }, none),
 (some 10, .assign (.tmp 118), none)]
theorem LL24.isL : (opsOf 24 Tryz.f78).toList.map tri = LL24.L := by kernel_rfl
theorem LL24.ini {X : LL24} (ok : LL24Ok X) : ∀ n ∈ [13, 14, 15], X.a0.eval (.tmp n) = X.val0 n := by
 simp only [List.forall_mem_cons]
 exact ⟨ok.e13, ok.e14, ok.e15, List.forall_mem_nil _⟩
abbrev LL24.St (X : LL24) (Q : PQ) (i : Nat) : Prop := StepG (opsOf 24 Tryz.f78) LL24.acts LL24.av X.val0 X.Wd X.a0 Q i
theorem LL24.early (X : LL24) (ok : LL24Ok X) {Q : PQ} : ∀ i ∈ [1, 2, 4, 5, 7, 8, 10, 11], LL24.St X Q i := by
 simp only [List.forall_mem_cons]
 refine ⟨?_, ?_, ?_, ?_, ?_, ?_, ?_, ?_, List.forall_mem_nil _⟩
 all_goals
  refine st_plainM (m := 0) LL24.isL (LL24.ini ok) ok.sz rfl (by kernel_rfl) ?_
  intro γ w n o hn hW hop
  obtain rfl : n = 0 := by omega
  have hk : Kp X.W w := hW
  have hc_a0_ := rq_at hk ok.a0_
  have hc_a1_ := rq_at hk ok.a1_
  have hc_s0_ := rq_at hk ok.s0_
  have hc_s1_ := rq_at hk ok.s1_
  have hc_b0_ := rq_at hk ok.b0_
  have hc_b1_ := rq_at hk ok.b1_
  unfold execOp
  rw [hop]
  simp [envR, valG, LL24.av, LL24.val0, hc_a0_, hc_a1_, hc_s0_, hc_s1_, hc_b0_, hc_b1_, go_sem]
theorem LL24.s0 (X : LL24) (ok : LL24Ok X) {Q : PQ} : LL24.St X Q 0 := by
 intro γ listed a w o hF hC hW h1 ho h2
 obtain ⟨hd, hop, hg⟩ := fieldsL LL24.isL (i := 0) rfl ho
 have e10 : a.eval (.tmp 10) = X.v := (hF.no 10 (early_of hC (unl (hF.lt ho) h1) (j := 17) (by kernel_rfl) [16, 0] (by kernel_rfl) (by decide))).trans ok.e10
 refine st_pureG hF hC hW ho h2 (by decide) hd hg rfl ?_
 show _ = Result.ok (Next.value (X.v)) w
 generalize a.eval = ρ at e10 ⊢
 unfold execOp
 rw [hop]
 simp [e10, go_sem]
theorem LL24.s13 (X : LL24) (ok : LL24Ok X) {Q : PQ} : LL24.St X Q 13 := by
 intro γ listed a w o hF hC hW h1 ho h2
 obtain ⟨hd, hop, hg⟩ := fieldsL LL24.isL (i := 13) rfl ho
 have e105 : a.eval (.tmp 105) = .agg #[.int .i64 (X.ax + X.sx), .int .i64 (X.ay + X.sy)] := known hF ho h2 (LL24.ini ok) ok.sz (by kernel_rfl)
 have e108 : a.eval (.tmp 108) = .agg #[.int .i64 (X.bx + X.sx), .int .i64 (X.by_ + X.sy)] := known hF ho h2 (LL24.ini ok) ok.sz (by kernel_rfl)
 have e111 : a.eval (.tmp 111) = .agg #[.int .i64 (X.bx - X.sx), .int .i64 (X.by_ - X.sy)] := known hF ho h2 (LL24.ini ok) ok.sz (by kernel_rfl)
 have e114 : a.eval (.tmp 114) = .agg #[.int .i64 (X.ax - X.sx), .int .i64 (X.ay - X.sy)] := known hF ho h2 (LL24.ini ok) ok.sz (by kernel_rfl)
 have hu := unl (hF.lt ho) h1
 refine st_actG (k := 0) LL24.chain LL24.nodup rfl hF hC hW h1 ho h2 (Or.inr ⟨115, hd, rfl⟩) (injG (by kernel_rfl) hu) hg ?_
 intro hW0 K hK
 have hr : (execOp a.eval o).run Tryz.prog w = .ok (.value (.slice (some ⟨w.heap.size, 0, none⟩) 4 4)) (w.alloc (.cells #[.int .i64 (X.ax + X.sx), .int .i64 (X.ay + X.sy), .int .i64 (X.bx + X.sx), .int .i64 (X.by_ + X.sy), .int .i64 (X.bx - X.sx), .int .i64 (X.by_ - X.sy), .int .i64 (X.ax - X.sx), .int .i64 (X.ay - X.sy)] 34)) := by
  generalize a.eval = ρ at e105 e108 e111 e114 ⊢
  unfold execOp
  rw [hop]
  simp [e105, e108, e111, e114, go_sem]
 unfold Oper.wp
 rw [hr]
 exact hK _ _ ⟨w, hW0, rfl, rfl⟩
theorem LL24.s14 (X : LL24) (ok : LL24Ok X) {Q : PQ} : LL24.St X Q 14 := by
 intro γ listed a w o hF hC hW h1 ho h2
 obtain ⟨hd, hop, hg⟩ := fieldsL LL24.isL (i := 14) rfl ho
 have e115 : a.eval (.tmp 115) = γ 0 := known hF ho h2 (LL24.ini ok) ok.sz (by kernel_rfl)
 have ef : a.eval (.func 97) = .func (.func 97) #[] #[] := rfl
 have hu := unl (hF.lt ho) h1
 refine st_actG (k := 1) LL24.chain LL24.nodup rfl hF hC hW h1 ho h2 (Or.inr ⟨116, hd, rfl⟩) (injG (by kernel_rfl) hu) hg ?_
 intro hW0 K hK
 obtain ⟨w1, k1, g0, rfl⟩ := hW0
 rw [g0] at e115
 have hr : (execOp a.eval o).run Tryz.prog (w1.alloc (.cells #[.int .i64 (X.ax + X.sx), .int .i64 (X.ay + X.sy), .int .i64 (X.bx + X.sx), .int .i64 (X.by_ + X.sy), .int .i64 (X.bx - X.sx), .int .i64 (X.by_ - X.sy), .int .i64 (X.ax - X.sx), .int .i64 (X.ay - X.sy)] 34)) = .ok (.enter 97 #[.slice (some ⟨w1.heap.size, 0, none⟩) 4 4]) (w1.alloc (.cells #[.int .i64 (X.ax + X.sx), .int .i64 (X.ay + X.sy), .int .i64 (X.bx + X.sx), .int .i64 (X.by_ + X.sy), .int .i64 (X.bx - X.sx), .int .i64 (X.by_ - X.sy), .int .i64 (X.ax - X.sx), .int .i64 (X.ay - X.sy)] 34)) := by
  generalize a.eval = ρ at e115 ef ⊢
  unfold execOp
  rw [hop]
  simp [e115, ef, go_sem]
 unfold Oper.wp
 rw [hr]
 refine Calls.mono (sclosed _ _ _ _) ?_
 rintro e w' ⟨rfl, h⟩
 exact hK _ _ ⟨w1, k1, rfl, h⟩
theorem LL24.s15 (X : LL24) (ok : LL24Ok X) {Q : PQ} : LL24.St X Q 15 := by
 intro γ listed a w o hF hC hW h1 ho h2
 obtain ⟨hd, hop, hg⟩ := fieldsL LL24.isL (i := 15) rfl ho
 have e116 : a.eval (.tmp 116) = γ 1 := known hF ho h2 (LL24.ini ok) ok.sz (by kernel_rfl)
 have hu := unl (hF.lt ho) h1
 refine st_actG (k := 2) LL24.chain LL24.nodup rfl hF hC hW h1 ho h2 (Or.inr ⟨117, hd, rfl⟩) (injG (by kernel_rfl) hu) hg ?_
 intro hW0 K hK
 obtain ⟨w1, k1, g1, k2⟩ := hW0
 rw [g1] at e116
 have hr : (execOp a.eval o).run Tryz.prog w = .ok (.value (.slice (some ⟨w.heap.size, 0, none⟩) 1 1)) (w.alloc (.cells #[.slice (some ⟨w1.heap.size, 0, none⟩) 4 4, .bool true] 25)) := by
  generalize a.eval = ρ at e116 ⊢
  unfold execOp
  rw [hop]
  simp [e116, go_sem]
 unfold Oper.wp
 rw [hr]
 exact hK _ _ ⟨w1, w, k1, k2, rfl, rfl⟩
theorem LL24.s16 (X : LL24) (ok : LL24Ok X) {Q : PQ} : LL24.St X Q 16 := by
 intro γ listed a w o hF hC hW h1 ho h2
 obtain ⟨hd, hop, hg⟩ := fieldsL LL24.isL (i := 16) rfl ho
 have e102 : a.eval (.tmp 102) = X.v := known hF ho h2 (LL24.ini ok) ok.sz (by kernel_rfl)
 have e117 : a.eval (.tmp 117) = γ 2 := known hF ho h2 (LL24.ini ok) ok.sz (by kernel_rfl)
 have hu := unl (hF.lt ho) h1
 refine st_actG (k := 3) LL24.chain LL24.nodup rfl hF hC hW h1 ho h2 (Or.inr ⟨118, hd, rfl⟩) (injG (by kernel_rfl) hu) hg ?_
 intro hW0 K hK
 obtain ⟨w1, w2, k1, k2, g2, rfl⟩ := hW0
 rw [g2] at e117
 have nn : Nw X.W w2 := Kp.nw (Kp.trans k1 (Kp.trans ((Kp.refl w1).alloc _ _) k2))
 have hu : OwnP w2 X.W.heap.size (.slice (some ⟨w1.heap.size, 0, none⟩) 4 4) [(X.ax + X.sx, X.ay + X.sy), (X.bx + X.sx, X.by_ + X.sy), (X.bx - X.sx, X.by_ - X.sy), (X.ax - X.sx, X.ay - X.sy)] := OwnP.nw (ownp4 w1 _ (Kp.size k1) _ _ _ _ _ _ _ _ ) (Kp.nw k2)
 refine wp_ln X.W w2 (.tmp 102) (.tmp 117) hop X.B X.v X.it (.slice (some ⟨w1.heap.size, 0, none⟩) 4 4) ⟨[(X.ax + X.sx, X.ay + X.sy), (X.bx + X.sx, X.by_ + X.sy), (X.bx - X.sx, X.by_ - X.sy), (X.ax - X.sx, X.ay - X.sy)], true⟩ e102 ok.ho nn ok.hB hu e117 ok.hl ?_
 intro g' c' w' h1 h2
 exact hK _ _ ⟨_, h1, h2⟩
theorem LL24.s17 (X : LL24) (ok : LL24Ok X) {Q : PQ} : LL24.St X Q 17 := by
 intro γ listed a w o hF hC hW h1 ho h2
 obtain ⟨hd, hop, hg⟩ := fieldsL LL24.isL (i := 17) rfl ho
 have e118 : a.eval (.tmp 118) = γ 3 := known hF ho h2 (LL24.ini ok) ok.sz (by kernel_rfl)
 have hu := unl (hF.lt ho) h1
 refine st_actG (k := 4) LL24.chain LL24.nodup rfl hF hC hW h1 ho h2 (Or.inr ⟨10, hd, rfl⟩) (injG (by kernel_rfl) hu) hg ?_
 intro hW0 K hK
 have hr : (execOp a.eval o).run Tryz.prog w = .ok (.value (γ 3)) w := by
  generalize a.eval = ρ at e118 ⊢
  unfold execOp
  rw [hop]
  simp [e118, go_sem]
 unfold Oper.wp
 rw [hr]
 exact hK _ _ hW0
theorem LL24.size : (opsOf 24 Tryz.f78).size = 18 := by kernel_rfl
theorem LL24.rest (X : LL24) (ok : LL24Ok X) {Q : PQ} : ∀ i ∈ [0, 3, 6, 9, 12, 13, 14, 15, 16, 17], LL24.St X Q i := by
 simp only [List.forall_mem_cons]
 exact ⟨LL24.s0 X ok,
  st_callZ LL24.isL (LL24.ini ok) ok.sz rfl (by kernel_rfl) (fun _ _ => by simp [go_sem]) (fun γ w hW => splus w _ _ _ _ ok.w0 ok.w1 ok.w4 ok.w5) (fun _ _ _ hW hk => Kp.trans hW hk),
  st_callZ LL24.isL (LL24.ini ok) ok.sz rfl (by kernel_rfl) (fun _ _ => by simp [go_sem]) (fun γ w hW => splus w _ _ _ _ ok.w2 ok.w3 ok.w4 ok.w5) (fun _ _ _ hW hk => Kp.trans hW hk),
  st_callZ LL24.isL (LL24.ini ok) ok.sz rfl (by kernel_rfl) (fun _ _ => by simp [go_sem]) (fun γ w hW => sless w _ _ _ _ ok.w2 ok.w3 ok.w4 ok.w5) (fun _ _ _ hW hk => Kp.trans hW hk),
  st_callZ LL24.isL (LL24.ini ok) ok.sz rfl (by kernel_rfl) (fun _ _ => by simp [go_sem]) (fun γ w hW => sless w _ _ _ _ ok.w0 ok.w1 ok.w4 ok.w5) (fun _ _ _ hW hk => Kp.trans hW hk),
  LL24.s13 X ok,
  LL24.s14 X ok,
  LL24.s15 X ok,
  LL24.s16 X ok,
  LL24.s17 X ok, List.forall_mem_nil _⟩
theorem LL24.steps (X : LL24) (ok : LL24Ok X) {Q : PQ} (i : Nat) (hi : i < (opsOf 24 Tryz.f78).size) : LL24.St X Q i := by
 rw [LL24.size] at hi
 rcases (by decide : ∀ i, i < 18 → i ∈ [1, 2, 4, 5, 7, 8, 10, 11] ∨ i ∈ [0, 3, 6, 9, 12, 13, 14, 15, 16, 17]) i hi with h | h
 · exact LL24.early X ok i h
 · exact LL24.rest X ok i h
theorem LL24.run (X : LL24) (ok : LL24Ok X) {Q : PQ} (w : World) (h0 : X.Wd 0 (fun _ => undef) w.drew) (hend : ∀ (γ : Nat → Value) w', X.Wd 5 γ w' → Q .normal ((((((((((((((((((X.a0.put (some 102) (X.v)).put (some 103) (.agg #[.int .i64 (X.ax), .int .i64 (X.ay)])).put (some 104) (.agg #[.int .i64 (X.sx), .int .i64 (X.sy)])).put (some 105) (.agg #[.int .i64 (X.ax + X.sx), .int .i64 (X.ay + X.sy)])).put (some 106) (.agg #[.int .i64 (X.bx), .int .i64 (X.by_)])).put (some 107) (.agg #[.int .i64 (X.sx), .int .i64 (X.sy)])).put (some 108) (.agg #[.int .i64 (X.bx + X.sx), .int .i64 (X.by_ + X.sy)])).put (some 109) (.agg #[.int .i64 (X.bx), .int .i64 (X.by_)])).put (some 110) (.agg #[.int .i64 (X.sx), .int .i64 (X.sy)])).put (some 111) (.agg #[.int .i64 (X.bx - X.sx), .int .i64 (X.by_ - X.sy)])).put (some 112) (.agg #[.int .i64 (X.ax), .int .i64 (X.ay)])).put (some 113) (.agg #[.int .i64 (X.sx), .int .i64 (X.sy)])).put (some 114) (.agg #[.int .i64 (X.ax - X.sx), .int .i64 (X.ay - X.sy)])).put (some 115) (γ 0)).put (some 116) (γ 1)).put (some 117) (γ 2)).put (some 118) (γ 3)).put (some 10) (γ 4)) w') : (Code.region 24 (opsOf 24 Tryz.f78) true).wp Tryz.prog Q X.a0 w := by
 refine reg_act (acts := LL24.acts) (av := LL24.av) (val0 := X.val0) (Wd := X.Wd) (by kernel_rfl) (by kernel_rfl) (by rw [LL24.size]; decide) (fun i hi => LL24.steps X ok i hi) _ h0 ?_
 intro γ w' h
 exact end_at (hend γ w' h) (by kernel_rfl)
structure LL39 where
 ax : Int
 ay : Int
 sx : Int
 sy : Int
 tx : Int
 ty : Int
 ba : Nat
 bs : Nat
 bt : Nat
 v : Value
 B : Nat
 it : Its
 W : World
 a0 : Act
structure LL39Ok (X : LL39) : Prop where
 a0_ : X.W.cell? ⟨X.ba, 0, none⟩ = some (.int .i64 (X.ax))
 a1_ : X.W.cell? ⟨X.ba, 1, none⟩ = some (.int .i64 (X.ay))
 s0_ : X.W.cell? ⟨X.bs, 0, none⟩ = some (.int .i64 (X.sx))
 s1_ : X.W.cell? ⟨X.bs, 1, none⟩ = some (.int .i64 (X.sy))
 t0_ : X.W.cell? ⟨X.bt, 0, none⟩ = some (.int .i64 (X.tx))
 t1_ : X.W.cell? ⟨X.bt, 1, none⟩ = some (.int .i64 (X.ty))
 w0 : wid (X.ax)
 w1 : wid (X.ay)
 w2 : wid (X.sx)
 w3 : wid (X.sy)
 w4 : wid (X.tx)
 w5 : wid (X.ty)
 w6 : wid (X.ax + X.sx)
 w7 : wid (X.ay + X.sy)
 w8 : wid (X.ax - X.sx)
 w9 : wid (X.ay - X.sy)
 ho : OwnLn X.W X.B X.v X.it
 hB : X.B ≤ X.W.heap.size
 hl : X.it.length + 1 ≤ 1000000
 e10 : X.a0.eval (.tmp 10) = X.v
 e17 : X.a0.eval (.tmp 17) = .pointer (some ⟨X.bs, 0, none⟩)
 e18 : X.a0.eval (.tmp 18) = .pointer (some ⟨X.bt, 0, none⟩)
 e19 : X.a0.eval (.tmp 19) = .pointer (some ⟨X.ba, 0, none⟩)
 sz : X.a0.tmps.size = 270
def LL39.val0 (X : LL39) : Nat → Value
 | 17 => .pointer (some ⟨X.bs, 0, none⟩)
 | 18 => .pointer (some ⟨X.bt, 0, none⟩)
 | 19 => .pointer (some ⟨X.ba, 0, none⟩)
 | 204 => X.v
 | 205 => .agg #[.int .i64 (X.ax), .int .i64 (X.ay)]
 | 206 => .agg #[.int .i64 (X.sx), .int .i64 (X.sy)]
 | 207 => .agg #[.int .i64 (X.ax + X.sx), .int .i64 (X.ay + X.sy)]
 | 208 => .agg #[.int .i64 (X.ax), .int .i64 (X.ay)]
 | 209 => .agg #[.int .i64 (X.sx), .int .i64 (X.sy)]
 | 210 => .agg #[.int .i64 (X.ax + X.sx), .int .i64 (X.ay + X.sy)]
 | 211 => .agg #[.int .i64 (X.tx), .int .i64 (X.ty)]
 | 212 => .agg #[.int .i64 (X.ax + X.sx - X.tx), .int .i64 (X.ay + X.sy - X.ty)]
 | 213 => .agg #[.int .i64 (X.ax), .int .i64 (X.ay)]
 | 214 => .agg #[.int .i64 (X.sx), .int .i64 (X.sy)]
 | 215 => .agg #[.int .i64 (X.ax - X.sx), .int .i64 (X.ay - X.sy)]
 | 216 => .agg #[.int .i64 (X.tx), .int .i64 (X.ty)]
 | 217 => .agg #[.int .i64 (X.ax - X.sx - X.tx), .int .i64 (X.ay - X.sy - X.ty)]
 | 218 => .agg #[.int .i64 (X.ax), .int .i64 (X.ay)]
 | 219 => .agg #[.int .i64 (X.sx), .int .i64 (X.sy)]
 | 220 => .agg #[.int .i64 (X.ax - X.sx), .int .i64 (X.ay - X.sy)]
 | _ => undef
def LL39.av : Nat → Option Nat
 | 221 => some 0
 | 222 => some 1
 | 223 => some 2
 | 224 => some 3
 | 10 => some 4
 | _ => none
def LL39.acts : List Nat := [17, 18, 19, 20, 21]
def LL39.Wd (X : LL39) : Nat → (Nat → Value) → World → Prop
  | 0, _, w => Kp X.W w
  | 1, γ, w => ∃ w1, Kp X.W w1 ∧ γ 0 = .slice (some ⟨w1.heap.size, 0, none⟩) 4 4 ∧ w = (w1.alloc (.cells #[.int .i64 (X.ax + X.sx), .int .i64 (X.ay + X.sy), .int .i64 (X.ax + X.sx - X.tx), .int .i64 (X.ay + X.sy - X.ty), .int .i64 (X.ax - X.sx - X.tx), .int .i64 (X.ay - X.sy - X.ty), .int .i64 (X.ax - X.sx), .int .i64 (X.ay - X.sy)] 34))
  | 2, γ, w => ∃ w1, Kp X.W w1 ∧ γ 1 = .agg #[.slice (some ⟨w1.heap.size, 0, none⟩) 4 4, .bool true] ∧ Kp (w1.alloc (.cells #[.int .i64 (X.ax + X.sx), .int .i64 (X.ay + X.sy), .int .i64 (X.ax + X.sx - X.tx), .int .i64 (X.ay + X.sy - X.ty), .int .i64 (X.ax - X.sx - X.tx), .int .i64 (X.ay - X.sy - X.ty), .int .i64 (X.ax - X.sx), .int .i64 (X.ay - X.sy)] 34)) w
  | 3, γ, w => ∃ w1 w2, Kp X.W w1 ∧ Kp (w1.alloc (.cells #[.int .i64 (X.ax + X.sx), .int .i64 (X.ay + X.sy), .int .i64 (X.ax + X.sx - X.tx), .int .i64 (X.ay + X.sy - X.ty), .int .i64 (X.ax - X.sx - X.tx), .int .i64 (X.ay - X.sy - X.ty), .int .i64 (X.ax - X.sx), .int .i64 (X.ay - X.sy)] 34)) w2 ∧ γ 2 = .slice (some ⟨w2.heap.size, 0, none⟩) 1 1 ∧ w = w2.alloc (.cells #[.slice (some ⟨w1.heap.size, 0, none⟩) 4 4, .bool true] 25)
  | 4, γ, w => ∃ u, OwnLn w X.B (γ 3) (X.it ++ [(u, ⟨[(X.ax + X.sx, X.ay + X.sy), (X.ax + X.sx - X.tx, X.ay + X.sy - X.ty), (X.ax - X.sx - X.tx, X.ay - X.sy - X.ty), (X.ax - X.sx, X.ay - X.sy)], true⟩)]) ∧ Below X.B X.W w ∧ Ext X.v (γ 3) X.W w ∧ ∀ c, u.ownBlock = some c → X.W.heap.size ≤ c
  | _, γ, w => ∃ u, OwnLn w X.B (γ 4) (X.it ++ [(u, ⟨[(X.ax + X.sx, X.ay + X.sy), (X.ax + X.sx - X.tx, X.ay + X.sy - X.ty), (X.ax - X.sx - X.tx, X.ay - X.sy - X.ty), (X.ax - X.sx, X.ay - X.sy)], true⟩)]) ∧ Below X.B X.W w ∧ Ext X.v (γ 4) X.W w ∧ ∀ c, u.ownBlock = some c → X.W.heap.size ≤ c
theorem LL39.chain : chainG (opsOf 39 Tryz.f78) LL39.acts = true := by kernel_rfl
theorem LL39.nodup : LL39.acts.Nodup := by decide
def LL39.L : List (Option Nat × Op × Option (Nat × Bool)) := [
 (some 204, .move (.tmp 10), none),
 (some 205, .load 34 (.tmp 19), none),
 (some 206, .load 34 (.tmp 17), none),
 (some 207, .call { callee := .value (.func 98), args := #[(.tmp 205), (.tmp 206)], argTypes := #[34, 34] }, none),
 (some 208, .load 34 (.tmp 19), none),
 (some 209, .load 34 (.tmp 17), none),
 (some 210, .call { callee := .value (.func 98), args := #[(.tmp 208), (.tmp 209)], argTypes := #[34, 34] }, none),
 (some 211, .load 34 (.tmp 18), none),
 (some 212, .call { callee := .value (.func 99), args := #[(.tmp 210), (.tmp 211)], argTypes := #[34, 34] }, none),
 (some 213, .load 34 (.tmp 19), none),
 (some 214, .load 34 (.tmp 17), none),
 (some 215, .call { callee := .value (.func 99), args := #[(.tmp 213), (.tmp 214)], argTypes := #[34, 34] }, none),
 (some 216, .load 34 (.tmp 18), none),
 (some 217, .call { callee := .value (.func 99), args := #[(.tmp 215), (.tmp 216)], argTypes := #[34, 34] }, none),
 (some 218, .load 34 (.tmp 19), none),
 (some 219, .load 34 (.tmp 17), none),
 (some 220, .call { callee := .value (.func 99), args := #[(.tmp 218), (.tmp 219)], argTypes := #[34, 34] }, none),
 (some 221, .buildSlice 23 4 #[(0, (.tmp 207)), (1, (.tmp 212)), (2, (.tmp 217)), (3, (.tmp 220))], none),
 (some 222, .call { callee := .value (.func 97), args := #[(.tmp 221)], argTypes := #[23] }, none),
 (some 223, .buildSlice 29 1 #[(0, (.tmp 222))], none),
 (some 224, .call { callee := .builtin .append, args := #[(.tmp 204), (.tmp 223)], argTypes := #[29, 29] }, none),
 (some 10, .assign (.tmp 224), none)]
theorem LL39.isL : (opsOf 39 Tryz.f78).toList.map tri = LL39.L := by kernel_rfl
theorem LL39.ini {X : LL39} (ok : LL39Ok X) : ∀ n ∈ [17, 18, 19], X.a0.eval (.tmp n) = X.val0 n := by
 simp only [List.forall_mem_cons]
 exact ⟨ok.e17, ok.e18, ok.e19, List.forall_mem_nil _⟩
abbrev LL39.St (X : LL39) (Q : PQ) (i : Nat) : Prop := StepG (opsOf 39 Tryz.f78) LL39.acts LL39.av X.val0 X.Wd X.a0 Q i
theorem LL39.early (X : LL39) (ok : LL39Ok X) {Q : PQ} : ∀ i ∈ [1, 2, 4, 5, 7, 9, 10, 12, 14, 15], LL39.St X Q i := by
 simp only [List.forall_mem_cons]
 refine ⟨?_, ?_, ?_, ?_, ?_, ?_, ?_, ?_, ?_, ?_, List.forall_mem_nil _⟩
 all_goals
  refine st_plainM (m := 0) LL39.isL (LL39.ini ok) ok.sz rfl (by kernel_rfl) ?_
  intro γ w n o hn hW hop
  obtain rfl : n = 0 := by omega
  have hk : Kp X.W w := hW
  have hc_a0_ := rq_at hk ok.a0_
  have hc_a1_ := rq_at hk ok.a1_
  have hc_s0_ := rq_at hk ok.s0_
  have hc_s1_ := rq_at hk ok.s1_
  have hc_t0_ := rq_at hk ok.t0_
  have hc_t1_ := rq_at hk ok.t1_
  unfold execOp
  rw [hop]
  simp [envR, valG, LL39.av, LL39.val0, hc_a0_, hc_a1_, hc_s0_, hc_s1_, hc_t0_, hc_t1_, go_sem]
theorem LL39.s0 (X : LL39) (ok : LL39Ok X) {Q : PQ} : LL39.St X Q 0 := by
 intro γ listed a w o hF hC hW h1 ho h2
 obtain ⟨hd, hop, hg⟩ := fieldsL LL39.isL (i := 0) rfl ho
 have e10 : a.eval (.tmp 10) = X.v := (hF.no 10 (early_of hC (unl (hF.lt ho) h1) (j := 21) (by kernel_rfl) [20, 0] (by kernel_rfl) (by decide))).trans ok.e10
 refine st_pureG hF hC hW ho h2 (by decide) hd hg rfl ?_
 show _ = Result.ok (Next.value (X.v)) w
 generalize a.eval = ρ at e10 ⊢
 unfold execOp
 rw [hop]
 simp [e10, go_sem]
theorem LL39.s17 (X : LL39) (ok : LL39Ok X) {Q : PQ} : LL39.St X Q 17 := by
 intro γ listed a w o hF hC hW h1 ho h2
 obtain ⟨hd, hop, hg⟩ := fieldsL LL39.isL (i := 17) rfl ho
 have e207 : a.eval (.tmp 207) = .agg #[.int .i64 (X.ax + X.sx), .int .i64 (X.ay + X.sy)] := known hF ho h2 (LL39.ini ok) ok.sz (by kernel_rfl)
 have e212 : a.eval (.tmp 212) = .agg #[.int .i64 (X.ax + X.sx - X.tx), .int .i64 (X.ay + X.sy - X.ty)] := known hF ho h2 (LL39.ini ok) ok.sz (by kernel_rfl)
 have e217 : a.eval (.tmp 217) = .agg #[.int .i64 (X.ax - X.sx - X.tx), .int .i64 (X.ay - X.sy - X.ty)] := known hF ho h2 (LL39.ini ok) ok.sz (by kernel_rfl)
 have e220 : a.eval (.tmp 220) = .agg #[.int .i64 (X.ax - X.sx), .int .i64 (X.ay - X.sy)] := known hF ho h2 (LL39.ini ok) ok.sz (by kernel_rfl)
 have hu := unl (hF.lt ho) h1
 refine st_actG (k := 0) LL39.chain LL39.nodup rfl hF hC hW h1 ho h2 (Or.inr ⟨221, hd, rfl⟩) (injG (by kernel_rfl) hu) hg ?_
 intro hW0 K hK
 have hr : (execOp a.eval o).run Tryz.prog w = .ok (.value (.slice (some ⟨w.heap.size, 0, none⟩) 4 4)) (w.alloc (.cells #[.int .i64 (X.ax + X.sx), .int .i64 (X.ay + X.sy), .int .i64 (X.ax + X.sx - X.tx), .int .i64 (X.ay + X.sy - X.ty), .int .i64 (X.ax - X.sx - X.tx), .int .i64 (X.ay - X.sy - X.ty), .int .i64 (X.ax - X.sx), .int .i64 (X.ay - X.sy)] 34)) := by
  generalize a.eval = ρ at e207 e212 e217 e220 ⊢
  unfold execOp
  rw [hop]
  simp [e207, e212, e217, e220, go_sem]
 unfold Oper.wp
 rw [hr]
 exact hK _ _ ⟨w, hW0, rfl, rfl⟩
theorem LL39.s18 (X : LL39) (ok : LL39Ok X) {Q : PQ} : LL39.St X Q 18 := by
 intro γ listed a w o hF hC hW h1 ho h2
 obtain ⟨hd, hop, hg⟩ := fieldsL LL39.isL (i := 18) rfl ho
 have e221 : a.eval (.tmp 221) = γ 0 := known hF ho h2 (LL39.ini ok) ok.sz (by kernel_rfl)
 have ef : a.eval (.func 97) = .func (.func 97) #[] #[] := rfl
 have hu := unl (hF.lt ho) h1
 refine st_actG (k := 1) LL39.chain LL39.nodup rfl hF hC hW h1 ho h2 (Or.inr ⟨222, hd, rfl⟩) (injG (by kernel_rfl) hu) hg ?_
 intro hW0 K hK
 obtain ⟨w1, k1, g0, rfl⟩ := hW0
 rw [g0] at e221
 have hr : (execOp a.eval o).run Tryz.prog (w1.alloc (.cells #[.int .i64 (X.ax + X.sx), .int .i64 (X.ay + X.sy), .int .i64 (X.ax + X.sx - X.tx), .int .i64 (X.ay + X.sy - X.ty), .int .i64 (X.ax - X.sx - X.tx), .int .i64 (X.ay - X.sy - X.ty), .int .i64 (X.ax - X.sx), .int .i64 (X.ay - X.sy)] 34)) = .ok (.enter 97 #[.slice (some ⟨w1.heap.size, 0, none⟩) 4 4]) (w1.alloc (.cells #[.int .i64 (X.ax + X.sx), .int .i64 (X.ay + X.sy), .int .i64 (X.ax + X.sx - X.tx), .int .i64 (X.ay + X.sy - X.ty), .int .i64 (X.ax - X.sx - X.tx), .int .i64 (X.ay - X.sy - X.ty), .int .i64 (X.ax - X.sx), .int .i64 (X.ay - X.sy)] 34)) := by
  generalize a.eval = ρ at e221 ef ⊢
  unfold execOp
  rw [hop]
  simp [e221, ef, go_sem]
 unfold Oper.wp
 rw [hr]
 refine Calls.mono (sclosed _ _ _ _) ?_
 rintro e w' ⟨rfl, h⟩
 exact hK _ _ ⟨w1, k1, rfl, h⟩
theorem LL39.s19 (X : LL39) (ok : LL39Ok X) {Q : PQ} : LL39.St X Q 19 := by
 intro γ listed a w o hF hC hW h1 ho h2
 obtain ⟨hd, hop, hg⟩ := fieldsL LL39.isL (i := 19) rfl ho
 have e222 : a.eval (.tmp 222) = γ 1 := known hF ho h2 (LL39.ini ok) ok.sz (by kernel_rfl)
 have hu := unl (hF.lt ho) h1
 refine st_actG (k := 2) LL39.chain LL39.nodup rfl hF hC hW h1 ho h2 (Or.inr ⟨223, hd, rfl⟩) (injG (by kernel_rfl) hu) hg ?_
 intro hW0 K hK
 obtain ⟨w1, k1, g1, k2⟩ := hW0
 rw [g1] at e222
 have hr : (execOp a.eval o).run Tryz.prog w = .ok (.value (.slice (some ⟨w.heap.size, 0, none⟩) 1 1)) (w.alloc (.cells #[.slice (some ⟨w1.heap.size, 0, none⟩) 4 4, .bool true] 25)) := by
  generalize a.eval = ρ at e222 ⊢
  unfold execOp
  rw [hop]
  simp [e222, go_sem]
 unfold Oper.wp
 rw [hr]
 exact hK _ _ ⟨w1, w, k1, k2, rfl, rfl⟩
theorem LL39.s20 (X : LL39) (ok : LL39Ok X) {Q : PQ} : LL39.St X Q 20 := by
 intro γ listed a w o hF hC hW h1 ho h2
 obtain ⟨hd, hop, hg⟩ := fieldsL LL39.isL (i := 20) rfl ho
 have e204 : a.eval (.tmp 204) = X.v := known hF ho h2 (LL39.ini ok) ok.sz (by kernel_rfl)
 have e223 : a.eval (.tmp 223) = γ 2 := known hF ho h2 (LL39.ini ok) ok.sz (by kernel_rfl)
 have hu := unl (hF.lt ho) h1
 refine st_actG (k := 3) LL39.chain LL39.nodup rfl hF hC hW h1 ho h2 (Or.inr ⟨224, hd, rfl⟩) (injG (by kernel_rfl) hu) hg ?_
 intro hW0 K hK
 obtain ⟨w1, w2, k1, k2, g2, rfl⟩ := hW0
 rw [g2] at e223
 have nn : Nw X.W w2 := Kp.nw (Kp.trans k1 (Kp.trans ((Kp.refl w1).alloc _ _) k2))
 have hu : OwnP w2 X.W.heap.size (.slice (some ⟨w1.heap.size, 0, none⟩) 4 4) [(X.ax + X.sx, X.ay + X.sy), (X.ax + X.sx - X.tx, X.ay + X.sy - X.ty), (X.ax - X.sx - X.tx, X.ay - X.sy - X.ty), (X.ax - X.sx, X.ay - X.sy)] := OwnP.nw (ownp4 w1 _ (Kp.size k1) _ _ _ _ _ _ _ _ ) (Kp.nw k2)
 refine wp_lnx X.W w2 (.tmp 204) (.tmp 223) hop X.B X.v X.it (.slice (some ⟨w1.heap.size, 0, none⟩) 4 4) ⟨[(X.ax + X.sx, X.ay + X.sy), (X.ax + X.sx - X.tx, X.ay + X.sy - X.ty), (X.ax - X.sx - X.tx, X.ay - X.sy - X.ty), (X.ax - X.sx, X.ay - X.sy)], true⟩ e204 ok.ho nn ok.hB hu e223 ok.hl ?_
 intro g' c' w' h1 h2 h3
 exact hK _ _ ⟨_, h1, h2, h3, fun c hc => (OwnQ.lt hu c hc).1⟩
theorem LL39.s21 (X : LL39) (ok : LL39Ok X) {Q : PQ} : LL39.St X Q 21 := by
 intro γ listed a w o hF hC hW h1 ho h2
 obtain ⟨hd, hop, hg⟩ := fieldsL LL39.isL (i := 21) rfl ho
 have e224 : a.eval (.tmp 224) = γ 3 := known hF ho h2 (LL39.ini ok) ok.sz (by kernel_rfl)
 have hu := unl (hF.lt ho) h1
 refine st_actG (k := 4) LL39.chain LL39.nodup rfl hF hC hW h1 ho h2 (Or.inr ⟨10, hd, rfl⟩) (injG (by kernel_rfl) hu) hg ?_
 intro hW0 K hK
 have hr : (execOp a.eval o).run Tryz.prog w = .ok (.value (γ 3)) w := by
  generalize a.eval = ρ at e224 ⊢
  unfold execOp
  rw [hop]
  simp [e224, go_sem]
 unfold Oper.wp
 rw [hr]
 exact hK _ _ hW0
theorem LL39.size : (opsOf 39 Tryz.f78).size = 22 := by kernel_rfl
theorem LL39.rest (X : LL39) (ok : LL39Ok X) {Q : PQ} : ∀ i ∈ [0, 3, 6, 8, 11, 13, 16, 17, 18, 19, 20, 21], LL39.St X Q i := by
 simp only [List.forall_mem_cons]
 exact ⟨LL39.s0 X ok,
  st_callZ LL39.isL (LL39.ini ok) ok.sz rfl (by kernel_rfl) (fun _ _ => by simp [go_sem]) (fun γ w hW => splus w _ _ _ _ ok.w0 ok.w1 ok.w2 ok.w3) (fun _ _ _ hW hk => Kp.trans hW hk),
  st_callZ LL39.isL (LL39.ini ok) ok.sz rfl (by kernel_rfl) (fun _ _ => by simp [go_sem]) (fun γ w hW => splus w _ _ _ _ ok.w0 ok.w1 ok.w2 ok.w3) (fun _ _ _ hW hk => Kp.trans hW hk),
  st_callZ LL39.isL (LL39.ini ok) ok.sz rfl (by kernel_rfl) (fun _ _ => by simp [go_sem]) (fun γ w hW => sless w _ _ _ _ ok.w6 ok.w7 ok.w4 ok.w5) (fun _ _ _ hW hk => Kp.trans hW hk),
  st_callZ LL39.isL (LL39.ini ok) ok.sz rfl (by kernel_rfl) (fun _ _ => by simp [go_sem]) (fun γ w hW => sless w _ _ _ _ ok.w0 ok.w1 ok.w2 ok.w3) (fun _ _ _ hW hk => Kp.trans hW hk),
  st_callZ LL39.isL (LL39.ini ok) ok.sz rfl (by kernel_rfl) (fun _ _ => by simp [go_sem]) (fun γ w hW => sless w _ _ _ _ ok.w8 ok.w9 ok.w4 ok.w5) (fun _ _ _ hW hk => Kp.trans hW hk),
  st_callZ LL39.isL (LL39.ini ok) ok.sz rfl (by kernel_rfl) (fun _ _ => by simp [go_sem]) (fun γ w hW => sless w _ _ _ _ ok.w0 ok.w1 ok.w2 ok.w3) (fun _ _ _ hW hk => Kp.trans hW hk),
  LL39.s17 X ok,
  LL39.s18 X ok,
  LL39.s19 X ok,
  LL39.s20 X ok,
  LL39.s21 X ok, List.forall_mem_nil _⟩
theorem LL39.steps (X : LL39) (ok : LL39Ok X) {Q : PQ} (i : Nat) (hi : i < (opsOf 39 Tryz.f78).size) : LL39.St X Q i := by
 rw [LL39.size] at hi
 rcases (by decide : ∀ i, i < 22 → i ∈ [1, 2, 4, 5, 7, 9, 10, 12, 14, 15] ∨ i ∈ [0, 3, 6, 8, 11, 13, 16, 17, 18, 19, 20, 21]) i hi with h | h
 · exact LL39.early X ok i h
 · exact LL39.rest X ok i h
theorem LL39.run (X : LL39) (ok : LL39Ok X) {Q : PQ} (w : World) (h0 : X.Wd 0 (fun _ => undef) w.drew) (hend : ∀ (γ : Nat → Value) w', X.Wd 5 γ w' → Q .normal ((((((((((((((((((((((X.a0.put (some 204) (X.v)).put (some 205) (.agg #[.int .i64 (X.ax), .int .i64 (X.ay)])).put (some 206) (.agg #[.int .i64 (X.sx), .int .i64 (X.sy)])).put (some 207) (.agg #[.int .i64 (X.ax + X.sx), .int .i64 (X.ay + X.sy)])).put (some 208) (.agg #[.int .i64 (X.ax), .int .i64 (X.ay)])).put (some 209) (.agg #[.int .i64 (X.sx), .int .i64 (X.sy)])).put (some 210) (.agg #[.int .i64 (X.ax + X.sx), .int .i64 (X.ay + X.sy)])).put (some 211) (.agg #[.int .i64 (X.tx), .int .i64 (X.ty)])).put (some 212) (.agg #[.int .i64 (X.ax + X.sx - X.tx), .int .i64 (X.ay + X.sy - X.ty)])).put (some 213) (.agg #[.int .i64 (X.ax), .int .i64 (X.ay)])).put (some 214) (.agg #[.int .i64 (X.sx), .int .i64 (X.sy)])).put (some 215) (.agg #[.int .i64 (X.ax - X.sx), .int .i64 (X.ay - X.sy)])).put (some 216) (.agg #[.int .i64 (X.tx), .int .i64 (X.ty)])).put (some 217) (.agg #[.int .i64 (X.ax - X.sx - X.tx), .int .i64 (X.ay - X.sy - X.ty)])).put (some 218) (.agg #[.int .i64 (X.ax), .int .i64 (X.ay)])).put (some 219) (.agg #[.int .i64 (X.sx), .int .i64 (X.sy)])).put (some 220) (.agg #[.int .i64 (X.ax - X.sx), .int .i64 (X.ay - X.sy)])).put (some 221) (γ 0)).put (some 222) (γ 1)).put (some 223) (γ 2)).put (some 224) (γ 3)).put (some 10) (γ 4)) w') : (Code.region 39 (opsOf 39 Tryz.f78) true).wp Tryz.prog Q X.a0 w := by
 refine reg_act (acts := LL39.acts) (av := LL39.av) (val0 := X.val0) (Wd := X.Wd) (by kernel_rfl) (by kernel_rfl) (by rw [LL39.size]; decide) (fun i hi => LL39.steps X ok i hi) _ h0 ?_
 intro γ w' h
 exact end_at (hend γ w' h) (by kernel_rfl)
structure LL43 where
 ax : Int
 ay : Int
 sx : Int
 sy : Int
 tx : Int
 ty : Int
 ba : Nat
 bs : Nat
 bt : Nat
 v : Value
 B : Nat
 it : Its
 W : World
 a0 : Act
structure LL43Ok (X : LL43) : Prop where
 a0_ : X.W.cell? ⟨X.ba, 0, none⟩ = some (.int .i64 (X.ax))
 a1_ : X.W.cell? ⟨X.ba, 1, none⟩ = some (.int .i64 (X.ay))
 s0_ : X.W.cell? ⟨X.bs, 0, none⟩ = some (.int .i64 (X.sx))
 s1_ : X.W.cell? ⟨X.bs, 1, none⟩ = some (.int .i64 (X.sy))
 t0_ : X.W.cell? ⟨X.bt, 0, none⟩ = some (.int .i64 (X.tx))
 t1_ : X.W.cell? ⟨X.bt, 1, none⟩ = some (.int .i64 (X.ty))
 w0 : wid (X.ax)
 w1 : wid (X.ay)
 w2 : wid (X.sx)
 w3 : wid (X.sy)
 w4 : wid (X.tx)
 w5 : wid (X.ty)
 w6 : wid (X.ax + X.sx)
 w7 : wid (X.ay + X.sy)
 w8 : wid (X.ax - X.sx)
 w9 : wid (X.ay - X.sy)
 ho : OwnLn X.W X.B X.v X.it
 hB : X.B ≤ X.W.heap.size
 hl : X.it.length + 1 ≤ 1000000
 e10 : X.a0.eval (.tmp 10) = X.v
 e17 : X.a0.eval (.tmp 17) = .pointer (some ⟨X.bs, 0, none⟩)
 e18 : X.a0.eval (.tmp 18) = .pointer (some ⟨X.bt, 0, none⟩)
 e20 : X.a0.eval (.tmp 20) = .pointer (some ⟨X.ba, 0, none⟩)
 sz : X.a0.tmps.size = 270
def LL43.val0 (X : LL43) : Nat → Value
 | 17 => .pointer (some ⟨X.bs, 0, none⟩)
 | 18 => .pointer (some ⟨X.bt, 0, none⟩)
 | 20 => .pointer (some ⟨X.ba, 0, none⟩)
 | 248 => X.v
 | 249 => .agg #[.int .i64 (X.ax), .int .i64 (X.ay)]
 | 250 => .agg #[.int .i64 (X.sx), .int .i64 (X.sy)]
 | 251 => .agg #[.int .i64 (X.ax + X.sx), .int .i64 (X.ay + X.sy)]
 | 252 => .agg #[.int .i64 (X.ax), .int .i64 (X.ay)]
 | 253 => .agg #[.int .i64 (X.sx), .int .i64 (X.sy)]
 | 254 => .agg #[.int .i64 (X.ax + X.sx), .int .i64 (X.ay + X.sy)]
 | 255 => .agg #[.int .i64 (X.tx), .int .i64 (X.ty)]
 | 256 => .agg #[.int .i64 (X.ax + X.sx + X.tx), .int .i64 (X.ay + X.sy + X.ty)]
 | 257 => .agg #[.int .i64 (X.ax), .int .i64 (X.ay)]
 | 258 => .agg #[.int .i64 (X.sx), .int .i64 (X.sy)]
 | 259 => .agg #[.int .i64 (X.ax - X.sx), .int .i64 (X.ay - X.sy)]
 | 260 => .agg #[.int .i64 (X.tx), .int .i64 (X.ty)]
 | 261 => .agg #[.int .i64 (X.ax - X.sx + X.tx), .int .i64 (X.ay - X.sy + X.ty)]
 | 262 => .agg #[.int .i64 (X.ax), .int .i64 (X.ay)]
 | 263 => .agg #[.int .i64 (X.sx), .int .i64 (X.sy)]
 | 264 => .agg #[.int .i64 (X.ax - X.sx), .int .i64 (X.ay - X.sy)]
 | _ => undef
def LL43.av : Nat → Option Nat
 | 265 => some 0
 | 266 => some 1
 | 267 => some 2
 | 268 => some 3
 | 10 => some 4
 | _ => none
def LL43.acts : List Nat := [17, 18, 19, 20, 21]
def LL43.Wd (X : LL43) : Nat → (Nat → Value) → World → Prop
  | 0, _, w => Kp X.W w
  | 1, γ, w => ∃ w1, Kp X.W w1 ∧ γ 0 = .slice (some ⟨w1.heap.size, 0, none⟩) 4 4 ∧ w = (w1.alloc (.cells #[.int .i64 (X.ax + X.sx), .int .i64 (X.ay + X.sy), .int .i64 (X.ax + X.sx + X.tx), .int .i64 (X.ay + X.sy + X.ty), .int .i64 (X.ax - X.sx + X.tx), .int .i64 (X.ay - X.sy + X.ty), .int .i64 (X.ax - X.sx), .int .i64 (X.ay - X.sy)] 34))
  | 2, γ, w => ∃ w1, Kp X.W w1 ∧ γ 1 = .agg #[.slice (some ⟨w1.heap.size, 0, none⟩) 4 4, .bool true] ∧ Kp (w1.alloc (.cells #[.int .i64 (X.ax + X.sx), .int .i64 (X.ay + X.sy), .int .i64 (X.ax + X.sx + X.tx), .int .i64 (X.ay + X.sy + X.ty), .int .i64 (X.ax - X.sx + X.tx), .int .i64 (X.ay - X.sy + X.ty), .int .i64 (X.ax - X.sx), .int .i64 (X.ay - X.sy)] 34)) w
  | 3, γ, w => ∃ w1 w2, Kp X.W w1 ∧ Kp (w1.alloc (.cells #[.int .i64 (X.ax + X.sx), .int .i64 (X.ay + X.sy), .int .i64 (X.ax + X.sx + X.tx), .int .i64 (X.ay + X.sy + X.ty), .int .i64 (X.ax - X.sx + X.tx), .int .i64 (X.ay - X.sy + X.ty), .int .i64 (X.ax - X.sx), .int .i64 (X.ay - X.sy)] 34)) w2 ∧ γ 2 = .slice (some ⟨w2.heap.size, 0, none⟩) 1 1 ∧ w = w2.alloc (.cells #[.slice (some ⟨w1.heap.size, 0, none⟩) 4 4, .bool true] 25)
  | 4, γ, w => ∃ u, OwnLn w X.B (γ 3) (X.it ++ [(u, ⟨[(X.ax + X.sx, X.ay + X.sy), (X.ax + X.sx + X.tx, X.ay + X.sy + X.ty), (X.ax - X.sx + X.tx, X.ay - X.sy + X.ty), (X.ax - X.sx, X.ay - X.sy)], true⟩)]) ∧ Below X.B X.W w ∧ Ext X.v (γ 3) X.W w ∧ ∀ c, u.ownBlock = some c → X.W.heap.size ≤ c
  | _, γ, w => ∃ u, OwnLn w X.B (γ 4) (X.it ++ [(u, ⟨[(X.ax + X.sx, X.ay + X.sy), (X.ax + X.sx + X.tx, X.ay + X.sy + X.ty), (X.ax - X.sx + X.tx, X.ay - X.sy + X.ty), (X.ax - X.sx, X.ay - X.sy)], true⟩)]) ∧ Below X.B X.W w ∧ Ext X.v (γ 4) X.W w ∧ ∀ c, u.ownBlock = some c → X.W.heap.size ≤ c
theorem LL43.chain : chainG (opsOf 43 Tryz.f78) LL43.acts = true := by kernel_rfl
theorem LL43.nodup : LL43.acts.Nodup := by decide
def LL43.L : List (Option Nat × Op × Option (Nat × Bool)) := [
 (some 248, .move (.tmp 10), none),
 (some 249, .load 34 (.tmp 20), none),
 (some 250, .load 34 (.tmp 17), none),
 (some 251, .call { callee := .value (.func 98), args := #[(.tmp 249), (.tmp 250)], argTypes := #[34, 34] }, none),
 (some 252, .load 34 (.tmp 20), none),
 (some 253, .load 34 (.tmp 17), none),
 (some 254, .call { callee := .value (.func 98), args := #[(.tmp 252), (.tmp 253)], argTypes := #[34, 34] }, none),
 (some 255, .load 34 (.tmp 18), none),
 (some 256, .call { callee := .value (.func 98), args := #[(.tmp 254), (.tmp 255)], argTypes := #[34, 34] }, none),
 (some 257, .load 34 (.tmp 20), none),
 (some 258, .load 34 (.tmp 17), none),
 (some 259, .call { callee := .value (.func 99), args := #[(.tmp 257), (.tmp 258)], argTypes := #[34, 34] }, none),
 (some 260, .load 34 (.tmp 18), none),
 (some 261, .call { callee := .value (.func 98), args := #[(.tmp 259), (.tmp 260)], argTypes := #[34, 34] }, none),
 (some 262, .load 34 (.tmp 20), none),
 (some 263, .load 34 (.tmp 17), none),
 (some 264, .call { callee := .value (.func 99), args := #[(.tmp 262), (.tmp 263)], argTypes := #[34, 34] }, none),
 (some 265, .buildSlice 23 4 #[(0, (.tmp 251)), (1, (.tmp 256)), (2, (.tmp 261)), (3, (.tmp 264))], none),
 (some 266, .call { callee := .value (.func 97), args := #[(.tmp 265)], argTypes := #[23] }, none),
 (some 267, .buildSlice 29 1 #[(0, (.tmp 266))], none),
 (some 268, .call { callee := .builtin .append, args := #[(.tmp 248), (.tmp 267)], argTypes := #[29, 29] }, none),
 (some 10, .assign (.tmp 268), none)]
theorem LL43.isL : (opsOf 43 Tryz.f78).toList.map tri = LL43.L := by kernel_rfl
theorem LL43.ini {X : LL43} (ok : LL43Ok X) : ∀ n ∈ [17, 18, 20], X.a0.eval (.tmp n) = X.val0 n := by
 simp only [List.forall_mem_cons]
 exact ⟨ok.e17, ok.e18, ok.e20, List.forall_mem_nil _⟩
abbrev LL43.St (X : LL43) (Q : PQ) (i : Nat) : Prop := StepG (opsOf 43 Tryz.f78) LL43.acts LL43.av X.val0 X.Wd X.a0 Q i
theorem LL43.early (X : LL43) (ok : LL43Ok X) {Q : PQ} : ∀ i ∈ [1, 2, 4, 5, 7, 9, 10, 12, 14, 15], LL43.St X Q i := by
 simp only [List.forall_mem_cons]
 refine ⟨?_, ?_, ?_, ?_, ?_, ?_, ?_, ?_, ?_, ?_, List.forall_mem_nil _⟩
 all_goals
  refine st_plainM (m := 0) LL43.isL (LL43.ini ok) ok.sz rfl (by kernel_rfl) ?_
  intro γ w n o hn hW hop
  obtain rfl : n = 0 := by omega
  have hk : Kp X.W w := hW
  have hc_a0_ := rq_at hk ok.a0_
  have hc_a1_ := rq_at hk ok.a1_
  have hc_s0_ := rq_at hk ok.s0_
  have hc_s1_ := rq_at hk ok.s1_
  have hc_t0_ := rq_at hk ok.t0_
  have hc_t1_ := rq_at hk ok.t1_
  unfold execOp
  rw [hop]
  simp [envR, valG, LL43.av, LL43.val0, hc_a0_, hc_a1_, hc_s0_, hc_s1_, hc_t0_, hc_t1_, go_sem]
theorem LL43.s0 (X : LL43) (ok : LL43Ok X) {Q : PQ} : LL43.St X Q 0 := by
 intro γ listed a w o hF hC hW h1 ho h2
 obtain ⟨hd, hop, hg⟩ := fieldsL LL43.isL (i := 0) rfl ho
 have e10 : a.eval (.tmp 10) = X.v := (hF.no 10 (early_of hC (unl (hF.lt ho) h1) (j := 21) (by kernel_rfl) [20, 0] (by kernel_rfl) (by decide))).trans ok.e10
 refine st_pureG hF hC hW ho h2 (by decide) hd hg rfl ?_
 show _ = Result.ok (Next.value (X.v)) w
 generalize a.eval = ρ at e10 ⊢
 unfold execOp
 rw [hop]
 simp [e10, go_sem]
theorem LL43.s17 (X : LL43) (ok : LL43Ok X) {Q : PQ} : LL43.St X Q 17 := by
 intro γ listed a w o hF hC hW h1 ho h2
 obtain ⟨hd, hop, hg⟩ := fieldsL LL43.isL (i := 17) rfl ho
 have e251 : a.eval (.tmp 251) = .agg #[.int .i64 (X.ax + X.sx), .int .i64 (X.ay + X.sy)] := known hF ho h2 (LL43.ini ok) ok.sz (by kernel_rfl)
 have e256 : a.eval (.tmp 256) = .agg #[.int .i64 (X.ax + X.sx + X.tx), .int .i64 (X.ay + X.sy + X.ty)] := known hF ho h2 (LL43.ini ok) ok.sz (by kernel_rfl)
 have e261 : a.eval (.tmp 261) = .agg #[.int .i64 (X.ax - X.sx + X.tx), .int .i64 (X.ay - X.sy + X.ty)] := known hF ho h2 (LL43.ini ok) ok.sz (by kernel_rfl)
 have e264 : a.eval (.tmp 264) = .agg #[.int .i64 (X.ax - X.sx), .int .i64 (X.ay - X.sy)] := known hF ho h2 (LL43.ini ok) ok.sz (by kernel_rfl)
 have hu := unl (hF.lt ho) h1
 refine st_actG (k := 0) LL43.chain LL43.nodup rfl hF hC hW h1 ho h2 (Or.inr ⟨265, hd, rfl⟩) (injG (by kernel_rfl) hu) hg ?_
 intro hW0 K hK
 have hr : (execOp a.eval o).run Tryz.prog w = .ok (.value (.slice (some ⟨w.heap.size, 0, none⟩) 4 4)) (w.alloc (.cells #[.int .i64 (X.ax + X.sx), .int .i64 (X.ay + X.sy), .int .i64 (X.ax + X.sx + X.tx), .int .i64 (X.ay + X.sy + X.ty), .int .i64 (X.ax - X.sx + X.tx), .int .i64 (X.ay - X.sy + X.ty), .int .i64 (X.ax - X.sx), .int .i64 (X.ay - X.sy)] 34)) := by
  generalize a.eval = ρ at e251 e256 e261 e264 ⊢
  unfold execOp
  rw [hop]
  simp [e251, e256, e261, e264, go_sem]
 unfold Oper.wp
 rw [hr]
 exact hK _ _ ⟨w, hW0, rfl, rfl⟩
theorem LL43.s18 (X : LL43) (ok : LL43Ok X) {Q : PQ} : LL43.St X Q 18 := by
 intro γ listed a w o hF hC hW h1 ho h2
 obtain ⟨hd, hop, hg⟩ := fieldsL LL43.isL (i := 18) rfl ho
 have e265 : a.eval (.tmp 265) = γ 0 := known hF ho h2 (LL43.ini ok) ok.sz (by kernel_rfl)
 have ef : a.eval (.func 97) = .func (.func 97) #[] #[] := rfl
 have hu := unl (hF.lt ho) h1
 refine st_actG (k := 1) LL43.chain LL43.nodup rfl hF hC hW h1 ho h2 (Or.inr ⟨266, hd, rfl⟩) (injG (by kernel_rfl) hu) hg ?_
 intro hW0 K hK
 obtain ⟨w1, k1, g0, rfl⟩ := hW0
 rw [g0] at e265
 have hr : (execOp a.eval o).run Tryz.prog (w1.alloc (.cells #[.int .i64 (X.ax + X.sx), .int .i64 (X.ay + X.sy), .int .i64 (X.ax + X.sx + X.tx), .int .i64 (X.ay + X.sy + X.ty), .int .i64 (X.ax - X.sx + X.tx), .int .i64 (X.ay - X.sy + X.ty), .int .i64 (X.ax - X.sx), .int .i64 (X.ay - X.sy)] 34)) = .ok (.enter 97 #[.slice (some ⟨w1.heap.size, 0, none⟩) 4 4]) (w1.alloc (.cells #[.int .i64 (X.ax + X.sx), .int .i64 (X.ay + X.sy), .int .i64 (X.ax + X.sx + X.tx), .int .i64 (X.ay + X.sy + X.ty), .int .i64 (X.ax - X.sx + X.tx), .int .i64 (X.ay - X.sy + X.ty), .int .i64 (X.ax - X.sx), .int .i64 (X.ay - X.sy)] 34)) := by
  generalize a.eval = ρ at e265 ef ⊢
  unfold execOp
  rw [hop]
  simp [e265, ef, go_sem]
 unfold Oper.wp
 rw [hr]
 refine Calls.mono (sclosed _ _ _ _) ?_
 rintro e w' ⟨rfl, h⟩
 exact hK _ _ ⟨w1, k1, rfl, h⟩
theorem LL43.s19 (X : LL43) (ok : LL43Ok X) {Q : PQ} : LL43.St X Q 19 := by
 intro γ listed a w o hF hC hW h1 ho h2
 obtain ⟨hd, hop, hg⟩ := fieldsL LL43.isL (i := 19) rfl ho
 have e266 : a.eval (.tmp 266) = γ 1 := known hF ho h2 (LL43.ini ok) ok.sz (by kernel_rfl)
 have hu := unl (hF.lt ho) h1
 refine st_actG (k := 2) LL43.chain LL43.nodup rfl hF hC hW h1 ho h2 (Or.inr ⟨267, hd, rfl⟩) (injG (by kernel_rfl) hu) hg ?_
 intro hW0 K hK
 obtain ⟨w1, k1, g1, k2⟩ := hW0
 rw [g1] at e266
 have hr : (execOp a.eval o).run Tryz.prog w = .ok (.value (.slice (some ⟨w.heap.size, 0, none⟩) 1 1)) (w.alloc (.cells #[.slice (some ⟨w1.heap.size, 0, none⟩) 4 4, .bool true] 25)) := by
  generalize a.eval = ρ at e266 ⊢
  unfold execOp
  rw [hop]
  simp [e266, go_sem]
 unfold Oper.wp
 rw [hr]
 exact hK _ _ ⟨w1, w, k1, k2, rfl, rfl⟩
theorem LL43.s20 (X : LL43) (ok : LL43Ok X) {Q : PQ} : LL43.St X Q 20 := by
 intro γ listed a w o hF hC hW h1 ho h2
 obtain ⟨hd, hop, hg⟩ := fieldsL LL43.isL (i := 20) rfl ho
 have e248 : a.eval (.tmp 248) = X.v := known hF ho h2 (LL43.ini ok) ok.sz (by kernel_rfl)
 have e267 : a.eval (.tmp 267) = γ 2 := known hF ho h2 (LL43.ini ok) ok.sz (by kernel_rfl)
 have hu := unl (hF.lt ho) h1
 refine st_actG (k := 3) LL43.chain LL43.nodup rfl hF hC hW h1 ho h2 (Or.inr ⟨268, hd, rfl⟩) (injG (by kernel_rfl) hu) hg ?_
 intro hW0 K hK
 obtain ⟨w1, w2, k1, k2, g2, rfl⟩ := hW0
 rw [g2] at e267
 have nn : Nw X.W w2 := Kp.nw (Kp.trans k1 (Kp.trans ((Kp.refl w1).alloc _ _) k2))
 have hu : OwnP w2 X.W.heap.size (.slice (some ⟨w1.heap.size, 0, none⟩) 4 4) [(X.ax + X.sx, X.ay + X.sy), (X.ax + X.sx + X.tx, X.ay + X.sy + X.ty), (X.ax - X.sx + X.tx, X.ay - X.sy + X.ty), (X.ax - X.sx, X.ay - X.sy)] := OwnP.nw (ownp4 w1 _ (Kp.size k1) _ _ _ _ _ _ _ _ ) (Kp.nw k2)
 refine wp_lnx X.W w2 (.tmp 248) (.tmp 267) hop X.B X.v X.it (.slice (some ⟨w1.heap.size, 0, none⟩) 4 4) ⟨[(X.ax + X.sx, X.ay + X.sy), (X.ax + X.sx + X.tx, X.ay + X.sy + X.ty), (X.ax - X.sx + X.tx, X.ay - X.sy + X.ty), (X.ax - X.sx, X.ay - X.sy)], true⟩ e248 ok.ho nn ok.hB hu e267 ok.hl ?_
 intro g' c' w' h1 h2 h3
 exact hK _ _ ⟨_, h1, h2, h3, fun c hc => (OwnQ.lt hu c hc).1⟩
theorem LL43.s21 (X : LL43) (ok : LL43Ok X) {Q : PQ} : LL43.St X Q 21 := by
 intro γ listed a w o hF hC hW h1 ho h2
 obtain ⟨hd, hop, hg⟩ := fieldsL LL43.isL (i := 21) rfl ho
 have e268 : a.eval (.tmp 268) = γ 3 := known hF ho h2 (LL43.ini ok) ok.sz (by kernel_rfl)
 have hu := unl (hF.lt ho) h1
 refine st_actG (k := 4) LL43.chain LL43.nodup rfl hF hC hW h1 ho h2 (Or.inr ⟨10, hd, rfl⟩) (injG (by kernel_rfl) hu) hg ?_
 intro hW0 K hK
 have hr : (execOp a.eval o).run Tryz.prog w = .ok (.value (γ 3)) w := by
  generalize a.eval = ρ at e268 ⊢
  unfold execOp
  rw [hop]
  simp [e268, go_sem]
 unfold Oper.wp
 rw [hr]
 exact hK _ _ hW0
theorem LL43.size : (opsOf 43 Tryz.f78).size = 22 := by kernel_rfl
theorem LL43.rest (X : LL43) (ok : LL43Ok X) {Q : PQ} : ∀ i ∈ [0, 3, 6, 8, 11, 13, 16, 17, 18, 19, 20, 21], LL43.St X Q i := by
 simp only [List.forall_mem_cons]
 exact ⟨LL43.s0 X ok,
  st_callZ LL43.isL (LL43.ini ok) ok.sz rfl (by kernel_rfl) (fun _ _ => by simp [go_sem]) (fun γ w hW => splus w _ _ _ _ ok.w0 ok.w1 ok.w2 ok.w3) (fun _ _ _ hW hk => Kp.trans hW hk),
  st_callZ LL43.isL (LL43.ini ok) ok.sz rfl (by kernel_rfl) (fun _ _ => by simp [go_sem]) (fun γ w hW => splus w _ _ _ _ ok.w0 ok.w1 ok.w2 ok.w3) (fun _ _ _ hW hk => Kp.trans hW hk),
  st_callZ LL43.isL (LL43.ini ok) ok.sz rfl (by kernel_rfl) (fun _ _ => by simp [go_sem]) (fun γ w hW => splus w _ _ _ _ ok.w6 ok.w7 ok.w4 ok.w5) (fun _ _ _ hW hk => Kp.trans hW hk),
  st_callZ LL43.isL (LL43.ini ok) ok.sz rfl (by kernel_rfl) (fun _ _ => by simp [go_sem]) (fun γ w hW => sless w _ _ _ _ ok.w0 ok.w1 ok.w2 ok.w3) (fun _ _ _ hW hk => Kp.trans hW hk),
  st_callZ LL43.isL (LL43.ini ok) ok.sz rfl (by kernel_rfl) (fun _ _ => by simp [go_sem]) (fun γ w hW => splus w _ _ _ _ ok.w8 ok.w9 ok.w4 ok.w5) (fun _ _ _ hW hk => Kp.trans hW hk),
  st_callZ LL43.isL (LL43.ini ok) ok.sz rfl (by kernel_rfl) (fun _ _ => by simp [go_sem]) (fun γ w hW => sless w _ _ _ _ ok.w0 ok.w1 ok.w2 ok.w3) (fun _ _ _ hW hk => Kp.trans hW hk),
  LL43.s17 X ok,
  LL43.s18 X ok,
  LL43.s19 X ok,
  LL43.s20 X ok,
  LL43.s21 X ok, List.forall_mem_nil _⟩
theorem LL43.steps (X : LL43) (ok : LL43Ok X) {Q : PQ} (i : Nat) (hi : i < (opsOf 43 Tryz.f78).size) : LL43.St X Q i := by
 rw [LL43.size] at hi
 rcases (by decide : ∀ i, i < 22 → i ∈ [1, 2, 4, 5, 7, 9, 10, 12, 14, 15] ∨ i ∈ [0, 3, 6, 8, 11, 13, 16, 17, 18, 19, 20, 21]) i hi with h | h
 · exact LL43.early X ok i h
 · exact LL43.rest X ok i h
theorem LL43.run (X : LL43) (ok : LL43Ok X) {Q : PQ} (w : World) (h0 : X.Wd 0 (fun _ => undef) w.drew) (hend : ∀ (γ : Nat → Value) w', X.Wd 5 γ w' → Q .normal ((((((((((((((((((((((X.a0.put (some 248) (X.v)).put (some 249) (.agg #[.int .i64 (X.ax), .int .i64 (X.ay)])).put (some 250) (.agg #[.int .i64 (X.sx), .int .i64 (X.sy)])).put (some 251) (.agg #[.int .i64 (X.ax + X.sx), .int .i64 (X.ay + X.sy)])).put (some 252) (.agg #[.int .i64 (X.ax), .int .i64 (X.ay)])).put (some 253) (.agg #[.int .i64 (X.sx), .int .i64 (X.sy)])).put (some 254) (.agg #[.int .i64 (X.ax + X.sx), .int .i64 (X.ay + X.sy)])).put (some 255) (.agg #[.int .i64 (X.tx), .int .i64 (X.ty)])).put (some 256) (.agg #[.int .i64 (X.ax + X.sx + X.tx), .int .i64 (X.ay + X.sy + X.ty)])).put (some 257) (.agg #[.int .i64 (X.ax), .int .i64 (X.ay)])).put (some 258) (.agg #[.int .i64 (X.sx), .int .i64 (X.sy)])).put (some 259) (.agg #[.int .i64 (X.ax - X.sx), .int .i64 (X.ay - X.sy)])).put (some 260) (.agg #[.int .i64 (X.tx), .int .i64 (X.ty)])).put (some 261) (.agg #[.int .i64 (X.ax - X.sx + X.tx), .int .i64 (X.ay - X.sy + X.ty)])).put (some 262) (.agg #[.int .i64 (X.ax), .int .i64 (X.ay)])).put (some 263) (.agg #[.int .i64 (X.sx), .int .i64 (X.sy)])).put (some 264) (.agg #[.int .i64 (X.ax - X.sx), .int .i64 (X.ay - X.sy)])).put (some 265) (γ 0)).put (some 266) (γ 1)).put (some 267) (γ 2)).put (some 268) (γ 3)).put (some 10) (γ 4)) w') : (Code.region 43 (opsOf 43 Tryz.f78) true).wp Tryz.prog Q X.a0 w := by
 refine reg_act (acts := LL43.acts) (av := LL43.av) (val0 := X.val0) (Wd := X.Wd) (by kernel_rfl) (by kernel_rfl) (by rw [LL43.size]; decide) (fun i hi => LL43.steps X ok i hi) _ h0 ?_
 intro γ w' h
 exact end_at (hend γ w' h) (by kernel_rfl)
structure LL29 where
 ax : Int
 ay : Int
 px : Int
 py : Int
 ex : Int
 ey : Int
 h : Int
 j : Int
 g : Nat
 off : Nat
 n : Nat
 cq : Nat
 i : Nat
 ia : Nat
 ib : Nat
 bp : Nat
 L : List Pnt
 v : Value
 B : Nat
 it : Its
 W : World
 a0 : Act
structure LL29Ok (X : LL29) : Prop where
 a0_ : X.W.cell? ⟨X.g, X.off + X.ia * 2, none⟩ = some (.int .i64 X.ax)
 a1_ : X.W.cell? ⟨X.g, X.off + X.ia * 2 + 1, none⟩ = some (.int .i64 X.ay)
 p0_ : X.W.cell? ⟨X.g, X.off + X.i * 2, none⟩ = some (.int .i64 X.px)
 p1_ : X.W.cell? ⟨X.g, X.off + X.i * 2 + 1, none⟩ = some (.int .i64 X.py)
 e0_ : X.W.cell? ⟨X.g, X.off + X.ib * 2, none⟩ = some (.int .i64 X.ex)
 e1_ : X.W.cell? ⟨X.g, X.off + X.ib * 2 + 1, none⟩ = some (.int .i64 X.ey)
 cj : X.W.cell? ⟨X.bp, 1, none⟩ = some (.int .i64 X.j)
 d1 : IntKind.i64.wrap ((X.i : Int) + (X.n : Int)) = (X.i : Int) + (X.n : Int)
 d2 : IntKind.i64.wrap ((X.i : Int) + (X.n : Int) - 1) = (X.i : Int) + (X.n : Int) - 1
 d3 : ((X.i : Int) + (X.n : Int) - 1).tmod (X.n : Int) = (X.ia : Int)
 d4 : IntKind.i64.wrap ((X.i : Int) + 1) = (X.i : Int) + 1
 d5 : ((X.i : Int) + 1).tmod (X.n : Int) = (X.ib : Int)
 n0 : ¬ X.n = 0
 k1 : X.ia < X.n
 k2 : X.i < X.n
 k3 : X.ib < X.n
 hJ : RingSays 100 #[.agg #[.int .i64 X.ax, .int .i64 X.ay], .agg #[.int .i64 X.px, .int .i64 X.py], .agg #[.int .i64 X.ex, .int .i64 X.ey], .int .i64 X.h, .int .i64 X.j] X.L
 ho : OwnLn X.W X.B X.v X.it
 hB : X.B ≤ X.W.heap.size
 hl : X.it.length + 1 ≤ 1000000
 e3 : X.a0.eval (.tmp 3) = .pointer (some ⟨X.bp, 0, none⟩)
 e5 : X.a0.eval (.tmp 5) = .int .i64 X.h
 e6 : X.a0.eval (.tmp 6) = .slice (some ⟨X.g, X.off, none⟩) X.n X.cq
 e9 : X.a0.eval (.tmp 9) = .int .i64 (X.n : Int)
 e10 : X.a0.eval (.tmp 10) = X.v
 e16 : X.a0.eval (.tmp 16) = .int .i64 (X.i : Int)
 sz : X.a0.tmps.size = 270
def LL29.val0 (X : LL29) : Nat → Value
 | 3 => .pointer (some ⟨X.bp, 0, none⟩)
 | 5 => .int .i64 X.h
 | 6 => .slice (some ⟨X.g, X.off, none⟩) X.n X.cq
 | 9 => .int .i64 (X.n : Int)
 | 16 => .int .i64 (X.i : Int)
 | 136 => X.v
 | 137 => .slice (some ⟨X.g, X.off, none⟩) X.n X.cq
 | 138 => .int .i64 (X.i : Int)
 | 139 => .int .i64 (X.n : Int)
 | 140 => .int .i64 ((X.i : Int) + (X.n : Int))
 | 141 => .int .i64 ((X.i : Int) + (X.n : Int) - 1)
 | 142 => .int .i64 (X.n : Int)
 | 143 => .int .i64 (X.ia : Int)
 | 144 => .pointer (some ⟨X.g, X.off + X.ia * 2, none⟩)
 | 145 => .agg #[.int .i64 X.ax, .int .i64 X.ay]
 | 146 => .slice (some ⟨X.g, X.off, none⟩) X.n X.cq
 | 147 => .int .i64 (X.i : Int)
 | 148 => .pointer (some ⟨X.g, X.off + X.i * 2, none⟩)
 | 149 => .agg #[.int .i64 X.px, .int .i64 X.py]
 | 150 => .slice (some ⟨X.g, X.off, none⟩) X.n X.cq
 | 151 => .int .i64 (X.i : Int)
 | 152 => .int .i64 ((X.i : Int) + 1)
 | 153 => .int .i64 (X.n : Int)
 | 154 => .int .i64 (X.ib : Int)
 | 155 => .pointer (some ⟨X.g, X.off + X.ib * 2, none⟩)
 | 156 => .agg #[.int .i64 X.ex, .int .i64 X.ey]
 | 157 => .int .i64 X.h
 | 158 => .pointer (some ⟨X.bp, 1, none⟩)
 | 159 => .int .i64 X.j
 | _ => undef
def LL29.av : Nat → Option Nat
 | 160 => some 0
 | 161 => some 1
 | 162 => some 2
 | 10 => some 3
 | _ => none
def LL29.acts : List Nat := [24, 25, 26, 27]
def LL29.Wd (X : LL29) : Nat → (Nat → Value) → World → Prop
  | 0, _, w => w = X.W
  | 1, γ, w => ∃ u, γ 0 = .agg #[u, .bool true] ∧ OwnP w X.W.heap.size u X.L ∧ Nw X.W w
  | 2, γ, w => ∃ w1 u, OwnP w1 X.W.heap.size u X.L ∧ Nw X.W w1 ∧ γ 1 = .slice (some ⟨w1.heap.size, 0, none⟩) 1 1 ∧ w = w1.alloc (.cells #[u, .bool true] 25)
  | 3, γ, w => ∃ u, OwnLn w X.B (γ 2) (X.it ++ [(u, ⟨X.L, true⟩)]) ∧ Below X.B X.W w
  | _, γ, w => ∃ u, OwnLn w X.B (γ 3) (X.it ++ [(u, ⟨X.L, true⟩)]) ∧ Below X.B X.W w
theorem LL29.chain : chainG (opsOf 29 Tryz.f78) LL29.acts = true := by kernel_rfl
theorem LL29.nodup : LL29.acts.Nodup := by decide
def LL29.ol : List (Option Nat × Op × Option (Nat × Bool)) := [
 (some 136, .move (.tmp 10), none),
 (some 137, .move (.tmp 6), none),
 (some 138, .move (.tmp 16), none),
 (some 139, .move (.tmp 9), none),
 (some 140, .binOp .add 3 (.tmp 138) (.tmp 139) 3, none),
 (some 141, .binOp .sub 3 (.tmp 140) (.const (.int .i64 1)) 3, none),
 (some 142, .move (.tmp 9), none),
 (some 143, .binOp .rem 3 (.tmp 141) (.tmp 142) 3, none),
 (some 144, .indexAddr 23 (.tmp 137) (.tmp 143), none),
 (some 145, .load 34 (.tmp 144), none),
 (some 146, .move (.tmp 6), none),
 (some 147, .move (.tmp 16), none),
 (some 148, .indexAddr 23 (.tmp 146) (.tmp 147), none),
 (some 149, .load 34 (.tmp 148), none),
 (some 150, .move (.tmp 6), none),
 (some 151, .move (.tmp 16), none),
 (some 152, .binOp .add 3 (.tmp 151) (.const (.int .i64 1)) 3, none),
 (some 153, .move (.tmp 9), none),
 (some 154, .binOp .rem 3 (.tmp 152) (.tmp 153) 3, none),
 (some 155, .indexAddr 23 (.tmp 150) (.tmp 154), none),
 (some 156, .load 34 (.tmp 155), none),
 (some 157, .move (.tmp 5), none),
 (some 158, .fieldAddr 36 (.tmp 3) 1, none),
 (some 159, .load 3 (.tmp 158), none),
 (some 160, .call { callee := .value (.func 100), args := #[(.tmp 145), (.tmp 149), (.tmp 156), (.tmp 157), (.tmp 159)], argTypes := #[34, 34, 34, 3, 3] }, none),
 (some 161, .buildSlice 29 1 #[(0, (.tmp 160))], none),
 (some 162, .call { callee := .builtin .append, args := #[(.tmp 136), (.tmp 161)], argTypes := #[29, 29] }, none),
 (some 10, .assign (.tmp 162), none)]
theorem LL29.isL : (opsOf 29 Tryz.f78).toList.map tri = LL29.ol := by kernel_rfl
theorem LL29.ini {X : LL29} (ok : LL29Ok X) : ∀ n ∈ [3, 5, 6, 9, 16], X.a0.eval (.tmp n) = X.val0 n := by
 simp only [List.forall_mem_cons]
 exact ⟨ok.e3, ok.e5, ok.e6, ok.e9, ok.e16, List.forall_mem_nil _⟩
abbrev LL29.St (X : LL29) (Q : PQ) (i : Nat) : Prop := StepG (opsOf 29 Tryz.f78) LL29.acts LL29.av X.val0 X.Wd X.a0 Q i
theorem LL29.plain (X : LL29) (ok : LL29Ok X) {Q : PQ} : ∀ i ∈ [1, 2, 3, 4, 5, 6, 7, 8, 10, 11, 12, 14, 15, 16, 17, 18, 19, 21, 22], LL29.St X Q i := by
 simp only [List.forall_mem_cons]
 refine ⟨?_, ?_, ?_, ?_, ?_, ?_, ?_, ?_, ?_, ?_, ?_, ?_, ?_, ?_, ?_, ?_, ?_, ?_, ?_, List.forall_mem_nil _⟩
 all_goals
  refine st_plain LL29.isL (LL29.ini ok) ok.sz rfl (by kernel_rfl) ?_
  intro γ w n o hW hop
  unfold execOp
  rw [hop]
  simp [envR, valG, LL29.av, LL29.val0, ok.d1, ok.d2, ok.d3, ok.n0, ok.k1, ok.k2, ok.d4, ok.d5, ok.k3, go_sem]
theorem LL29.soon (X : LL29) (ok : LL29Ok X) {Q : PQ} : ∀ i ∈ [9, 13, 20, 23], LL29.St X Q i := by
 simp only [List.forall_mem_cons]
 refine ⟨?_, ?_, ?_, ?_, List.forall_mem_nil _⟩
 all_goals
  refine st_plainM (m := 0) LL29.isL (LL29.ini ok) ok.sz rfl (by kernel_rfl) ?_
  intro γ w n o hn hW hop
  obtain rfl : n = 0 := by omega
  have hk : w = X.W := hW
  subst hk
  unfold execOp
  rw [hop]
  simp [envR, valG, LL29.av, LL29.val0, ok.a0_, ok.a1_, ok.p0_, ok.p1_, ok.e0_, ok.e1_, ok.cj, go_sem]
theorem LL29.s0 (X : LL29) (ok : LL29Ok X) {Q : PQ} : LL29.St X Q 0 := by
 intro γ listed a w o hF hC hW h1 ho h2
 obtain ⟨hd, hop, hg⟩ := fieldsL LL29.isL (i := 0) rfl ho
 have e10 : a.eval (.tmp 10) = X.v := (hF.no 10 (early_of hC (unl (hF.lt ho) h1) (j := 27) (by kernel_rfl) [26, 0] (by kernel_rfl) (by decide))).trans ok.e10
 refine st_pureG hF hC hW ho h2 (by decide) hd hg rfl ?_
 show _ = Result.ok (Next.value (X.v)) w
 generalize a.eval = ρ at e10 ⊢
 unfold execOp
 rw [hop]
 simp [e10, go_sem]
theorem LL29.s24 (X : LL29) (ok : LL29Ok X) {Q : PQ} : LL29.St X Q 24 := by
 intro γ listed a w o hF hC hW h1 ho h2
 obtain ⟨hd, hop, hg⟩ := fieldsL LL29.isL (i := 24) rfl ho
 have e145 : a.eval (.tmp 145) = .agg #[.int .i64 X.ax, .int .i64 X.ay] := known hF ho h2 (LL29.ini ok) ok.sz (by kernel_rfl)
 have e149 : a.eval (.tmp 149) = .agg #[.int .i64 X.px, .int .i64 X.py] := known hF ho h2 (LL29.ini ok) ok.sz (by kernel_rfl)
 have e156 : a.eval (.tmp 156) = .agg #[.int .i64 X.ex, .int .i64 X.ey] := known hF ho h2 (LL29.ini ok) ok.sz (by kernel_rfl)
 have e157 : a.eval (.tmp 157) = .int .i64 X.h := known hF ho h2 (LL29.ini ok) ok.sz (by kernel_rfl)
 have e159 : a.eval (.tmp 159) = .int .i64 X.j := known hF ho h2 (LL29.ini ok) ok.sz (by kernel_rfl)
 have ef : a.eval (.func 100) = .func (.func 100) #[] #[] := rfl
 have hu := unl (hF.lt ho) h1
 refine st_actG (k := 0) LL29.chain LL29.nodup rfl hF hC hW h1 ho h2 (Or.inr ⟨160, hd, rfl⟩) (injG (by kernel_rfl) hu) hg ?_
 intro hW0 K hK
 have hw0 : w = X.W := hW0
 have hr : (execOp a.eval o).run Tryz.prog w = .ok (.enter 100 #[.agg #[.int .i64 X.ax, .int .i64 X.ay], .agg #[.int .i64 X.px, .int .i64 X.py], .agg #[.int .i64 X.ex, .int .i64 X.ey], .int .i64 X.h, .int .i64 X.j]) w := by
  generalize a.eval = ρ at e145 e149 e156 e157 e159 ef ⊢
  unfold execOp
  rw [hop]
  simp [e145, e149, e156, e157, e159, ef, go_sem]
 unfold Oper.wp
 rw [hr]
 refine Calls.mono (ok.hJ w) ?_
 rintro e w' ⟨u, rfl, h, n⟩
 rw [hw0] at h n
 exact hK _ _ ⟨u, rfl, h, n⟩
theorem LL29.s25 (X : LL29) (ok : LL29Ok X) {Q : PQ} : LL29.St X Q 25 := by
 intro γ listed a w o hF hC hW h1 ho h2
 obtain ⟨hd, hop, hg⟩ := fieldsL LL29.isL (i := 25) rfl ho
 have e160 : a.eval (.tmp 160) = γ 0 := known hF ho h2 (LL29.ini ok) ok.sz (by kernel_rfl)
 have hu := unl (hF.lt ho) h1
 refine st_actG (k := 1) LL29.chain LL29.nodup rfl hF hC hW h1 ho h2 (Or.inr ⟨161, hd, rfl⟩) (injG (by kernel_rfl) hu) hg ?_
 intro hW0 K hK
 obtain ⟨u, g0, hu, nu⟩ := hW0
 rw [g0] at e160
 obtain ⟨ua, un, uc, q⟩ := OwnQ.slice hu
 have hr : (execOp a.eval o).run Tryz.prog w = .ok (.value (.slice (some ⟨w.heap.size, 0, none⟩) 1 1)) (w.alloc (.cells #[u, .bool true] 25)) := by
  rw [q] at e160 ⊢
  generalize a.eval = ρ at e160 ⊢
  unfold execOp
  rw [hop]
  simp [e160, go_sem]
 unfold Oper.wp
 rw [hr]
 exact hK _ _ ⟨w, u, hu, nu, rfl, rfl⟩
theorem LL29.s26 (X : LL29) (ok : LL29Ok X) {Q : PQ} : LL29.St X Q 26 := by
 intro γ listed a w o hF hC hW h1 ho h2
 obtain ⟨hd, hop, hg⟩ := fieldsL LL29.isL (i := 26) rfl ho
 have e136 : a.eval (.tmp 136) = X.v := known hF ho h2 (LL29.ini ok) ok.sz (by kernel_rfl)
 have e161 : a.eval (.tmp 161) = γ 1 := known hF ho h2 (LL29.ini ok) ok.sz (by kernel_rfl)
 have hu := unl (hF.lt ho) h1
 refine st_actG (k := 2) LL29.chain LL29.nodup rfl hF hC hW h1 ho h2 (Or.inr ⟨162, hd, rfl⟩) (injG (by kernel_rfl) hu) hg ?_
 intro hW0 K hK
 obtain ⟨w1, u, hu, nu, g1, rfl⟩ := hW0
 rw [g1] at e161
 refine wp_ln X.W w1 (.tmp 136) (.tmp 161) hop X.B X.v X.it u ⟨X.L, true⟩ e136 ok.ho nu ok.hB hu e161 ok.hl ?_
 intro g' c' w' h1 h2
 exact hK _ _ ⟨_, h1, h2⟩
theorem LL29.s27 (X : LL29) (ok : LL29Ok X) {Q : PQ} : LL29.St X Q 27 := by
 intro γ listed a w o hF hC hW h1 ho h2
 obtain ⟨hd, hop, hg⟩ := fieldsL LL29.isL (i := 27) rfl ho
 have e162 : a.eval (.tmp 162) = γ 2 := known hF ho h2 (LL29.ini ok) ok.sz (by kernel_rfl)
 have hu := unl (hF.lt ho) h1
 refine st_actG (k := 3) LL29.chain LL29.nodup rfl hF hC hW h1 ho h2 (Or.inr ⟨10, hd, rfl⟩) (injG (by kernel_rfl) hu) hg ?_
 intro hW0 K hK
 have hr : (execOp a.eval o).run Tryz.prog w = .ok (.value (γ 2)) w := by
  generalize a.eval = ρ at e162 ⊢
  unfold execOp
  rw [hop]
  simp [e162, go_sem]
 unfold Oper.wp
 rw [hr]
 exact hK _ _ hW0
theorem LL29.size : (opsOf 29 Tryz.f78).size = 28 := by kernel_rfl
theorem LL29.rest (X : LL29) (ok : LL29Ok X) {Q : PQ} : ∀ i ∈ [0, 24, 25, 26, 27], LL29.St X Q i := by
 simp only [List.forall_mem_cons]
 exact ⟨LL29.s0 X ok,
  LL29.s24 X ok,
  LL29.s25 X ok,
  LL29.s26 X ok,
  LL29.s27 X ok, List.forall_mem_nil _⟩
theorem LL29.steps (X : LL29) (ok : LL29Ok X) {Q : PQ} (i : Nat) (hi : i < (opsOf 29 Tryz.f78).size) : LL29.St X Q i := by
 rw [LL29.size] at hi
 rcases (by decide : ∀ i, i < 28 → i ∈ [1, 2, 3, 4, 5, 6, 7, 8, 10, 11, 12, 14, 15, 16, 17, 18, 19, 21, 22] ∨ i ∈ [9, 13, 20, 23] ∨ i ∈ [0, 24, 25, 26, 27]) i hi with h | h | h
 · exact LL29.plain X ok i h
 · exact LL29.soon X ok i h
 · exact LL29.rest X ok i h
theorem LL29.run (X : LL29) (ok : LL29Ok X) {Q : PQ} (w : World) (h0 : X.Wd 0 (fun _ => undef) w.drew) (hend : ∀ (γ : Nat → Value) w', X.Wd 4 γ w' → Q .normal ((((((((((((((((((((((((((((X.a0.put (some 136) (X.v)).put (some 137) (.slice (some ⟨X.g, X.off, none⟩) X.n X.cq)).put (some 138) (.int .i64 (X.i : Int))).put (some 139) (.int .i64 (X.n : Int))).put (some 140) (.int .i64 ((X.i : Int) + (X.n : Int)))).put (some 141) (.int .i64 ((X.i : Int) + (X.n : Int) - 1))).put (some 142) (.int .i64 (X.n : Int))).put (some 143) (.int .i64 (X.ia : Int))).put (some 144) (.pointer (some ⟨X.g, X.off + X.ia * 2, none⟩))).put (some 145) (.agg #[.int .i64 X.ax, .int .i64 X.ay])).put (some 146) (.slice (some ⟨X.g, X.off, none⟩) X.n X.cq)).put (some 147) (.int .i64 (X.i : Int))).put (some 148) (.pointer (some ⟨X.g, X.off + X.i * 2, none⟩))).put (some 149) (.agg #[.int .i64 X.px, .int .i64 X.py])).put (some 150) (.slice (some ⟨X.g, X.off, none⟩) X.n X.cq)).put (some 151) (.int .i64 (X.i : Int))).put (some 152) (.int .i64 ((X.i : Int) + 1))).put (some 153) (.int .i64 (X.n : Int))).put (some 154) (.int .i64 (X.ib : Int))).put (some 155) (.pointer (some ⟨X.g, X.off + X.ib * 2, none⟩))).put (some 156) (.agg #[.int .i64 X.ex, .int .i64 X.ey])).put (some 157) (.int .i64 X.h)).put (some 158) (.pointer (some ⟨X.bp, 1, none⟩))).put (some 159) (.int .i64 X.j)).put (some 160) (γ 0)).put (some 161) (γ 1)).put (some 162) (γ 2)).put (some 10) (γ 3)) w') : (Code.region 29 (opsOf 29 Tryz.f78) true).wp Tryz.prog Q X.a0 w := by
 refine reg_act (acts := LL29.acts) (av := LL29.av) (val0 := X.val0) (Wd := X.Wd) (by kernel_rfl) (by kernel_rfl) (by rw [LL29.size]; decide) (fun i hi => LL29.steps X ok i hi) _ h0 ?_
 intro γ w' h
 exact end_at (hend γ w' h) (by kernel_rfl)
structure LL34 where
 ax : Int
 ay : Int
 ex : Int
 ey : Int
 h : Int
 g : Nat
 off : Nat
 n : Nat
 m : Nat
 cq : Nat
 L : List Pnt
 M : List Pnt
 v : Value
 B : Nat
 it : Its
 W : World
 a0 : Act
structure LL34Ok (X : LL34) : Prop where
 a0_ : X.W.cell? ⟨X.g, X.off, none⟩ = some (.int .i64 X.ax)
 a1_ : X.W.cell? ⟨X.g, X.off + 1, none⟩ = some (.int .i64 X.ay)
 b0_ : X.W.cell? ⟨X.g, X.off + X.m * 2, none⟩ = some (.int .i64 X.ex)
 b1_ : X.W.cell? ⟨X.g, X.off + X.m * 2 + 1, none⟩ = some (.int .i64 X.ey)
 d1 : IntKind.i64.wrap ((X.n : Int) - 1) = (X.m : Int)
 k0 : 0 < X.n
 k1 : X.m < X.n
 hL : RingSays 101 #[.agg #[.int .i64 X.ax, .int .i64 X.ay], .int .i64 X.h] X.L
 hM : RingSays 101 #[.agg #[.int .i64 X.ex, .int .i64 X.ey], .int .i64 X.h] X.M
 ho : OwnLn X.W X.B X.v X.it
 hB : X.B ≤ X.W.heap.size
 hl : X.it.length + 2 ≤ 1000000
 e5 : X.a0.eval (.tmp 5) = .int .i64 X.h
 e6 : X.a0.eval (.tmp 6) = .slice (some ⟨X.g, X.off, none⟩) X.n X.cq
 e9 : X.a0.eval (.tmp 9) = .int .i64 (X.n : Int)
 e10 : X.a0.eval (.tmp 10) = X.v
 sz : X.a0.tmps.size = 270
def LL34.val0 (X : LL34) : Nat → Value
 | 5 => .int .i64 X.h
 | 6 => .slice (some ⟨X.g, X.off, none⟩) X.n X.cq
 | 9 => .int .i64 (X.n : Int)
 | 170 => X.v
 | 171 => .slice (some ⟨X.g, X.off, none⟩) X.n X.cq
 | 172 => .pointer (some ⟨X.g, X.off, none⟩)
 | 173 => .agg #[.int .i64 X.ax, .int .i64 X.ay]
 | 174 => .int .i64 X.h
 | 176 => .slice (some ⟨X.g, X.off, none⟩) X.n X.cq
 | 177 => .int .i64 (X.n : Int)
 | 178 => .int .i64 (X.m : Int)
 | 179 => .pointer (some ⟨X.g, X.off + X.m * 2, none⟩)
 | 180 => .agg #[.int .i64 X.ex, .int .i64 X.ey]
 | 181 => .int .i64 X.h
 | _ => undef
def LL34.av : Nat → Option Nat
 | 175 => some 0
 | 182 => some 1
 | 183 => some 2
 | 184 => some 3
 | 10 => some 4
 | _ => none
def LL34.acts : List Nat := [5, 12, 13, 14, 15]
def LL34.Wd (X : LL34) : Nat → (Nat → Value) → World → Prop
  | 0, _, w => w = X.W
  | 1, γ, w => ∃ u, γ 0 = .agg #[u, .bool true] ∧ OwnP w X.W.heap.size u X.L ∧ Nw X.W w
  | 2, γ, w => ∃ u u2, γ 0 = .agg #[u, .bool true] ∧ γ 1 = .agg #[u2, .bool true] ∧ ItsOk w X.W.heap.size [(u, ⟨X.L, true⟩), (u2, ⟨X.M, true⟩)] ∧ Nw X.W w
  | 3, γ, w => ∃ w1 u u2, ItsOk w1 X.W.heap.size [(u, ⟨X.L, true⟩), (u2, ⟨X.M, true⟩)] ∧ Nw X.W w1 ∧ γ 2 = .slice (some ⟨w1.heap.size, 0, none⟩) 2 2 ∧ w = w1.alloc (.cells #[u, .bool true, u2, .bool true] 25)
  | 4, γ, w => ∃ u u2, OwnLn w X.B (γ 3) (X.it ++ [(u, ⟨X.L, true⟩), (u2, ⟨X.M, true⟩)]) ∧ Below X.B X.W w
  | _, γ, w => ∃ u u2, OwnLn w X.B (γ 4) (X.it ++ [(u, ⟨X.L, true⟩), (u2, ⟨X.M, true⟩)]) ∧ Below X.B X.W w
theorem LL34.nw {X : LL34} : ∀ {n : Nat} {γ : Nat → Value} {w : World}, n ≤ 1 → X.Wd n γ w → Nw X.W w
  | 0, _, w, _, h => by have : w = X.W := h; rw [this]; exact Below.refl _ _
  | 1, _, _, _, ⟨_, _, _, h⟩ => h
  | _ + 2, _, _, h, _ => absurd h (by omega)
theorem LL34.chain : chainG (opsOf 34 Tryz.f78) LL34.acts = true := by kernel_rfl
theorem LL34.nodup : LL34.acts.Nodup := by decide
def LL34.ol : List (Option Nat × Op × Option (Nat × Bool)) := [
 (some 170, .move (.tmp 10), none),
 (some 171, .move (.tmp 6), none),
 (some 172, .indexAddr 23 (.tmp 171) (.const (.int .i64 0)), none),
 (some 173, .load 34 (.tmp 172), none),
 (some 174, .move (.tmp 5), none),
 (some 175, .call { callee := .value (.func 101), args := #[(.tmp 173), (.tmp 174)], argTypes := #[34, 3] }, none),
 (some 176, .move (.tmp 6), none),
 (some 177, .move (.tmp 9), none),
 (some 178, .binOp .sub 3 (.tmp 177) (.const (.int .i64 1)) 3, none),
 (some 179, .indexAddr 23 (.tmp 176) (.tmp 178), none),
 (some 180, .load 34 (.tmp 179), none),
 (some 181, .move (.tmp 5), none),
 (some 182, .call { callee := .value (.func 101), args := #[(.tmp 180), (.tmp 181)], argTypes := #[34, 3] }, none),
 (some 183, .buildSlice 29 2 #[(0, (.tmp 175)), (1, (.tmp 182))], none),
 (some 184, .call { callee := .builtin .append, args := #[(.tmp 170), (.tmp 183)], argTypes := #[29, 29] }, none),
 (some 10, .assign (.tmp 184), none)]
theorem LL34.isL : (opsOf 34 Tryz.f78).toList.map tri = LL34.ol := by kernel_rfl
theorem LL34.ini {X : LL34} (ok : LL34Ok X) : ∀ n ∈ [5, 6, 9], X.a0.eval (.tmp n) = X.val0 n := by
 simp only [List.forall_mem_cons]
 exact ⟨ok.e5, ok.e6, ok.e9, List.forall_mem_nil _⟩
abbrev LL34.St (X : LL34) (Q : PQ) (i : Nat) : Prop := StepG (opsOf 34 Tryz.f78) LL34.acts LL34.av X.val0 X.Wd X.a0 Q i
theorem LL34.plain (X : LL34) (ok : LL34Ok X) {Q : PQ} : ∀ i ∈ [1, 2, 4, 6, 7, 8, 9, 11], LL34.St X Q i := by
 simp only [List.forall_mem_cons]
 refine ⟨?_, ?_, ?_, ?_, ?_, ?_, ?_, ?_, List.forall_mem_nil _⟩
 all_goals
  refine st_plain LL34.isL (LL34.ini ok) ok.sz rfl (by kernel_rfl) ?_
  intro γ w n o hW hop
  unfold execOp
  rw [hop]
  simp [envR, valG, LL34.av, LL34.val0, ok.k0, ok.d1, ok.k1, go_sem]
theorem LL34.s0 (X : LL34) (ok : LL34Ok X) {Q : PQ} : LL34.St X Q 0 := by
 intro γ listed a w o hF hC hW h1 ho h2
 obtain ⟨hd, hop, hg⟩ := fieldsL LL34.isL (i := 0) rfl ho
 have e10 : a.eval (.tmp 10) = X.v := (hF.no 10 (early_of hC (unl (hF.lt ho) h1) (j := 15) (by kernel_rfl) [14, 0] (by kernel_rfl) (by decide))).trans ok.e10
 refine st_pureG hF hC hW ho h2 (by decide) hd hg rfl ?_
 show _ = Result.ok (Next.value (X.v)) w
 generalize a.eval = ρ at e10 ⊢
 unfold execOp
 rw [hop]
 simp [e10, go_sem]
theorem LL34.s3 (X : LL34) (ok : LL34Ok X) {Q : PQ} : LL34.St X Q 3 := by
 intro γ listed a w o hF hC hW h1 ho h2
 obtain ⟨hd, hop, hg⟩ := fieldsL LL34.isL (i := 3) rfl ho
 have e172 : a.eval (.tmp 172) = .pointer (some ⟨X.g, X.off, none⟩) := known hF ho h2 (LL34.ini ok) ok.sz (by kernel_rfl)
 have hph := phase_leG (acts := LL34.acts) (m := 0) (x := 5) hC (unl (hF.lt ho) h1) rfl [3] (by kernel_rfl) (by decide)
 have hWW := hW
 generalize phase listed LL34.acts = n at hph hWW
 have hk : Nw X.W w := LL34.nw (by omega) hWW
 have hc0 := nw_at hk ok.a0_
 have hc1 := nw_at hk ok.a1_
 refine st_pureG hF hC hW ho h2 (by decide) hd hg rfl ?_
 show _ = Result.ok (Next.value (.agg #[.int .i64 X.ax, .int .i64 X.ay])) w
 generalize a.eval = ρ at e172 ⊢
 unfold execOp
 rw [hop]
 simp [e172, hc0, hc1, go_sem]
theorem LL34.s5 (X : LL34) (ok : LL34Ok X) {Q : PQ} : LL34.St X Q 5 := by
 intro γ listed a w o hF hC hW h1 ho h2
 obtain ⟨hd, hop, hg⟩ := fieldsL LL34.isL (i := 5) rfl ho
 have e173 : a.eval (.tmp 173) = .agg #[.int .i64 X.ax, .int .i64 X.ay] := known hF ho h2 (LL34.ini ok) ok.sz (by kernel_rfl)
 have e174 : a.eval (.tmp 174) = .int .i64 X.h := known hF ho h2 (LL34.ini ok) ok.sz (by kernel_rfl)
 have ef : a.eval (.func 101) = .func (.func 101) #[] #[] := rfl
 have hu := unl (hF.lt ho) h1
 refine st_actG (k := 0) LL34.chain LL34.nodup rfl hF hC hW h1 ho h2 (Or.inr ⟨175, hd, rfl⟩) (injG (by kernel_rfl) hu) hg ?_
 intro hW0 K hK
 have hw0 : w = X.W := hW0
 have hr : (execOp a.eval o).run Tryz.prog w = .ok (.enter 101 #[.agg #[.int .i64 X.ax, .int .i64 X.ay], .int .i64 X.h]) w := by
  generalize a.eval = ρ at e173 e174 ef ⊢
  unfold execOp
  rw [hop]
  simp [e173, e174, ef, go_sem]
 unfold Oper.wp
 rw [hr]
 refine Calls.mono (ok.hL w) ?_
 rintro e w' ⟨u, rfl, h, n⟩
 rw [hw0] at h n
 exact hK _ _ ⟨u, rfl, h, n⟩
theorem LL34.s10 (X : LL34) (ok : LL34Ok X) {Q : PQ} : LL34.St X Q 10 := by
 intro γ listed a w o hF hC hW h1 ho h2
 obtain ⟨hd, hop, hg⟩ := fieldsL LL34.isL (i := 10) rfl ho
 have e179 : a.eval (.tmp 179) = .pointer (some ⟨X.g, X.off + X.m * 2, none⟩) := known hF ho h2 (LL34.ini ok) ok.sz (by kernel_rfl)
 have hph := phase_leG (acts := LL34.acts) (m := 1) (x := 12) hC (unl (hF.lt ho) h1) rfl [10] (by kernel_rfl) (by decide)
 have hWW := hW
 generalize phase listed LL34.acts = n at hph hWW
 have hk : Nw X.W w := LL34.nw (by omega) hWW
 have hc0 := nw_at hk ok.b0_
 have hc1 := nw_at hk ok.b1_
 refine st_pureG hF hC hW ho h2 (by decide) hd hg rfl ?_
 show _ = Result.ok (Next.value (.agg #[.int .i64 X.ex, .int .i64 X.ey])) w
 generalize a.eval = ρ at e179 ⊢
 unfold execOp
 rw [hop]
 simp [e179, hc0, hc1, go_sem]
theorem LL34.s12 (X : LL34) (ok : LL34Ok X) {Q : PQ} : LL34.St X Q 12 := by
 intro γ listed a w o hF hC hW h1 ho h2
 obtain ⟨hd, hop, hg⟩ := fieldsL LL34.isL (i := 12) rfl ho
 have e180 : a.eval (.tmp 180) = .agg #[.int .i64 X.ex, .int .i64 X.ey] := known hF ho h2 (LL34.ini ok) ok.sz (by kernel_rfl)
 have e181 : a.eval (.tmp 181) = .int .i64 X.h := known hF ho h2 (LL34.ini ok) ok.sz (by kernel_rfl)
 have ef : a.eval (.func 101) = .func (.func 101) #[] #[] := rfl
 have hu := unl (hF.lt ho) h1
 refine st_actG (k := 1) LL34.chain LL34.nodup rfl hF hC hW h1 ho h2 (Or.inr ⟨182, hd, rfl⟩) (injG (by kernel_rfl) hu) hg ?_
 intro hW0 K hK
 obtain ⟨u, g0, hu, nu⟩ := hW0
 have hr : (execOp a.eval o).run Tryz.prog w = .ok (.enter 101 #[.agg #[.int .i64 X.ex, .int .i64 X.ey], .int .i64 X.h]) w := by
  generalize a.eval = ρ at e180 e181 ef ⊢
  unfold execOp
  rw [hop]
  simp [e180, e181, ef, go_sem]
 unfold Oper.wp
 rw [hr]
 refine Calls.mono (ok.hM w) ?_
 rintro e w' ⟨u2, rfl, h, n⟩
 exact hK _ _ ⟨u, u2, g0, rfl, ItsOk.two hu n h (Below.size nu), Nw.trans nu n⟩
theorem LL34.s13 (X : LL34) (ok : LL34Ok X) {Q : PQ} : LL34.St X Q 13 := by
 intro γ listed a w o hF hC hW h1 ho h2
 obtain ⟨hd, hop, hg⟩ := fieldsL LL34.isL (i := 13) rfl ho
 have e175 : a.eval (.tmp 175) = γ 0 := known hF ho h2 (LL34.ini ok) ok.sz (by kernel_rfl)
 have e182 : a.eval (.tmp 182) = γ 1 := known hF ho h2 (LL34.ini ok) ok.sz (by kernel_rfl)
 have hu := unl (hF.lt ho) h1
 refine st_actG (k := 2) LL34.chain LL34.nodup rfl hF hC hW h1 ho h2 (Or.inr ⟨183, hd, rfl⟩) (injG (by kernel_rfl) hu) hg ?_
 intro hW0 K hK
 obtain ⟨u, u2, g0, g1, hi, nu⟩ := hW0
 rw [g0] at e175
 rw [g1] at e182
 obtain ⟨ua, un, uc, q⟩ := OwnQ.slice (hi.pts 0 (by simp))
 obtain ⟨ua2, un2, uc2, q2⟩ := OwnQ.slice (hi.pts 1 (by simp))
 replace q : u = .slice ua un uc := q
 replace q2 : u2 = .slice ua2 un2 uc2 := q2
 have hr : (execOp a.eval o).run Tryz.prog w = .ok (.value (.slice (some ⟨w.heap.size, 0, none⟩) 2 2)) (w.alloc (.cells #[u, .bool true, u2, .bool true] 25)) := by
  rw [q] at e175 ⊢
  rw [q2] at e182 ⊢
  generalize a.eval = ρ at e175 e182 ⊢
  unfold execOp
  rw [hop]
  simp [e175, e182, go_sem]
 unfold Oper.wp
 rw [hr]
 exact hK _ _ ⟨w, u, u2, hi, nu, rfl, rfl⟩
theorem LL34.s14 (X : LL34) (ok : LL34Ok X) {Q : PQ} : LL34.St X Q 14 := by
 intro γ listed a w o hF hC hW h1 ho h2
 obtain ⟨hd, hop, hg⟩ := fieldsL LL34.isL (i := 14) rfl ho
 have e170 : a.eval (.tmp 170) = X.v := known hF ho h2 (LL34.ini ok) ok.sz (by kernel_rfl)
 have e183 : a.eval (.tmp 183) = γ 2 := known hF ho h2 (LL34.ini ok) ok.sz (by kernel_rfl)
 have hu := unl (hF.lt ho) h1
 refine st_actG (k := 3) LL34.chain LL34.nodup rfl hF hC hW h1 ho h2 (Or.inr ⟨184, hd, rfl⟩) (injG (by kernel_rfl) hu) hg ?_
 intro hW0 K hK
 obtain ⟨w1, u, u2, hi, nu, g1, rfl⟩ := hW0
 rw [g1] at e183
 refine wp_ln2 X.W w1 (.tmp 170) (.tmp 183) hop X.B X.v X.it u u2 ⟨X.L, true⟩ ⟨X.M, true⟩ e170 ok.ho nu ok.hB hi e183 ok.hl ?_
 intro v' w' h1 h2
 exact hK _ _ ⟨_, _, h1, h2⟩
theorem LL34.s15 (X : LL34) (ok : LL34Ok X) {Q : PQ} : LL34.St X Q 15 := by
 intro γ listed a w o hF hC hW h1 ho h2
 obtain ⟨hd, hop, hg⟩ := fieldsL LL34.isL (i := 15) rfl ho
 have e184 : a.eval (.tmp 184) = γ 3 := known hF ho h2 (LL34.ini ok) ok.sz (by kernel_rfl)
 have hu := unl (hF.lt ho) h1
 refine st_actG (k := 4) LL34.chain LL34.nodup rfl hF hC hW h1 ho h2 (Or.inr ⟨10, hd, rfl⟩) (injG (by kernel_rfl) hu) hg ?_
 intro hW0 K hK
 have hr : (execOp a.eval o).run Tryz.prog w = .ok (.value (γ 3)) w := by
  generalize a.eval = ρ at e184 ⊢
  unfold execOp
  rw [hop]
  simp [e184, go_sem]
 unfold Oper.wp
 rw [hr]
 exact hK _ _ hW0
theorem LL34.size : (opsOf 34 Tryz.f78).size = 16 := by kernel_rfl
theorem LL34.rest (X : LL34) (ok : LL34Ok X) {Q : PQ} : ∀ i ∈ [0, 3, 5, 10, 12, 13, 14, 15], LL34.St X Q i := by
 simp only [List.forall_mem_cons]
 exact ⟨LL34.s0 X ok,
  LL34.s3 X ok,
  LL34.s5 X ok,
  LL34.s10 X ok,
  LL34.s12 X ok,
  LL34.s13 X ok,
  LL34.s14 X ok,
  LL34.s15 X ok, List.forall_mem_nil _⟩
theorem LL34.steps (X : LL34) (ok : LL34Ok X) {Q : PQ} (i : Nat) (hi : i < (opsOf 34 Tryz.f78).size) : LL34.St X Q i := by
 rw [LL34.size] at hi
 rcases (by decide : ∀ i, i < 16 → i ∈ [1, 2, 4, 6, 7, 8, 9, 11] ∨ i ∈ [0, 3, 5, 10, 12, 13, 14, 15]) i hi with h | h
 · exact LL34.plain X ok i h
 · exact LL34.rest X ok i h
theorem LL34.run (X : LL34) (ok : LL34Ok X) {Q : PQ} (w : World) (h0 : X.Wd 0 (fun _ => undef) w.drew) (hend : ∀ (γ : Nat → Value) w', X.Wd 5 γ w' → Q .normal ((((((((((((((((X.a0.put (some 170) (X.v)).put (some 171) (.slice (some ⟨X.g, X.off, none⟩) X.n X.cq)).put (some 172) (.pointer (some ⟨X.g, X.off, none⟩))).put (some 173) (.agg #[.int .i64 X.ax, .int .i64 X.ay])).put (some 174) (.int .i64 X.h)).put (some 175) (γ 0)).put (some 176) (.slice (some ⟨X.g, X.off, none⟩) X.n X.cq)).put (some 177) (.int .i64 (X.n : Int))).put (some 178) (.int .i64 (X.m : Int))).put (some 179) (.pointer (some ⟨X.g, X.off + X.m * 2, none⟩))).put (some 180) (.agg #[.int .i64 X.ex, .int .i64 X.ey])).put (some 181) (.int .i64 X.h)).put (some 182) (γ 1)).put (some 183) (γ 2)).put (some 184) (γ 3)).put (some 10) (γ 4)) w') : (Code.region 34 (opsOf 34 Tryz.f78) true).wp Tryz.prog Q X.a0 w := by
 refine reg_act (acts := LL34.acts) (av := LL34.av) (val0 := X.val0) (Wd := X.Wd) (by kernel_rfl) (by kernel_rfl) (by rw [LL34.size]; decide) (fun i hi => LL34.steps X ok i hi) _ h0 ?_
 intro γ w' h
 exact end_at (hend γ w' h) (by kernel_rfl)
structure LL36 where
 ax : Int
 ay : Int
 ex : Int
 ey : Int
 sx : Int
 sy : Int
 h : Int
 g : Nat
 off : Nat
 n : Nat
 cq : Nat
 W : World
 a0 : Act
structure LL36Ok (X : LL36) : Prop where
 a0_ : X.W.cell? ⟨X.g, X.off, none⟩ = some (.int .i64 X.ax)
 a1_ : X.W.cell? ⟨X.g, X.off + 1, none⟩ = some (.int .i64 X.ay)
 b0_ : X.W.cell? ⟨X.g, X.off + 2, none⟩ = some (.int .i64 X.ex)
 b1_ : X.W.cell? ⟨X.g, X.off + 2 + 1, none⟩ = some (.int .i64 X.ey)
 k0 : 0 < X.n
 k1 : ¬ ((X.n : Int) ≤ 1)
 hS : ∀ w, Calls Tryz.prog 96 #[.agg #[.int .i64 X.ax, .int .i64 X.ay], .agg #[.int .i64 X.ex, .int .i64 X.ey], .int .i64 X.h] w fun e w' => e = .returned (.agg #[.int .i64 X.sx, .int .i64 X.sy]) ∧ Kp w w'
 e5 : X.a0.eval (.tmp 5) = .int .i64 X.h
 e6 : X.a0.eval (.tmp 6) = .slice (some ⟨X.g, X.off, none⟩) X.n X.cq
 sz : X.a0.tmps.size = 270
def LL36.val0 (X : LL36) : Nat → Value
 | 5 => .int .i64 X.h
 | 6 => .slice (some ⟨X.g, X.off, none⟩) X.n X.cq
 | 187 => .slice (some ⟨X.g, X.off, none⟩) X.n X.cq
 | 188 => .pointer (some ⟨X.g, X.off, none⟩)
 | 189 => .agg #[.int .i64 X.ax, .int .i64 X.ay]
 | 190 => .slice (some ⟨X.g, X.off, none⟩) X.n X.cq
 | 191 => .pointer (some ⟨X.g, X.off + 2, none⟩)
 | 192 => .agg #[.int .i64 X.ex, .int .i64 X.ey]
 | 193 => .int .i64 X.h
 | 194 => .agg #[.int .i64 X.sx, .int .i64 X.sy]
 | _ => undef
def LL36.av : Nat → Option Nat
 | 17 => some 0
 | _ => none
def LL36.acts : List Nat := [8, 9]
def LL36.Wd (X : LL36) : Nat → (Nat → Value) → World → Prop
  | 0, _, w => Kp X.W w
  | 1, γ, w => ∃ g, γ 0 = .pointer (some ⟨g, 0, none⟩) ∧ X.W.heap.size ≤ g ∧ (w.cell? ⟨g, 0, none⟩ = some (.int .i64 0) ∧ w.cell? ⟨g, 1, none⟩ = some (.int .i64 0)) ∧ (∀ o, w.frozen? ⟨g, o, none⟩ = false) ∧ Kp X.W w
  | _, γ, w => ∃ g, γ 0 = .pointer (some ⟨g, 0, none⟩) ∧ X.W.heap.size ≤ g ∧ (w.cell? ⟨g, 0, none⟩ = some (.int .i64 X.sx) ∧ w.cell? ⟨g, 1, none⟩ = some (.int .i64 X.sy)) ∧ (∀ o, w.frozen? ⟨g, o, none⟩ = false) ∧ Kp X.W w
theorem LL36.kp {X : LL36} : ∀ {n : Nat} {γ : Nat → Value} {w : World}, X.Wd n γ w → Kp X.W w
  | 0, _, _, h => h
  | 1, _, _, ⟨_, _, _, _, _, h⟩ => h
  | _ + 2, _, _, ⟨_, _, _, _, _, h⟩ => h
theorem LL36.keep {X : LL36} : ∀ {n : Nat} {γ : Nat → Value} {w w' : World}, X.Wd n γ w → Kp w w' → X.Wd n γ w'
  | 0, _, _, _, h, k => Kp.trans h k
  | 1, _, w, _, ⟨g, h1, h2, ⟨h30, h31⟩, h5, h6⟩, k => ⟨g, h1, h2, ⟨(k.cells.1 _ _ (World.block_lt_of_cell? w ⟨g, 0, none⟩ h30)).trans h30, (k.cells.1 _ _ (World.block_lt_of_cell? w ⟨g, 0, none⟩ h30)).trans h31⟩, fun o => (k.cells.2 _ _).trans (h5 o), Kp.trans h6 k⟩
  | _ + 2, _, w, _, ⟨g, h1, h2, ⟨h30, h31⟩, h5, h6⟩, k => ⟨g, h1, h2, ⟨(k.cells.1 _ _ (World.block_lt_of_cell? w ⟨g, 0, none⟩ h30)).trans h30, (k.cells.1 _ _ (World.block_lt_of_cell? w ⟨g, 0, none⟩ h30)).trans h31⟩, fun o => (k.cells.2 _ _).trans (h5 o), Kp.trans h6 k⟩
theorem LL36.chain : chainG (opsOf 36 Tryz.f78) LL36.acts = true := by kernel_rfl
theorem LL36.nodup : LL36.acts.Nodup := by decide
def LL36.L : List (Option Nat × Op × Option (Nat × Bool)) := [
 (some 187, .move (.tmp 6), none),
 (some 188, .indexAddr 23 (.tmp 187) (.const (.int .i64 0)), none),
 (some 189, .load 34 (.tmp 188), none),
 (some 190, .move (.tmp 6), none),
 (some 191, .indexAddr 23 (.tmp 190) (.const (.int .i64 1)), none),
 (some 192, .load 34 (.tmp 191), none),
 (some 193, .move (.tmp 5), none),
 (some 194, .call { callee := .value (.func 96), args := #[(.tmp 189), (.tmp 192), (.tmp 193)], argTypes := #[34, 34, 3] }, none),
 (some 17, .alloc 34, none),
 (none, .store 34 (.tmp 17) (.tmp 194), none)]
theorem LL36.isL : (opsOf 36 Tryz.f78).toList.map tri = LL36.L := by kernel_rfl
theorem LL36.ini {X : LL36} (ok : LL36Ok X) : ∀ n ∈ [5, 6], X.a0.eval (.tmp n) = X.val0 n := by
 simp only [List.forall_mem_cons]
 exact ⟨ok.e5, ok.e6, List.forall_mem_nil _⟩
abbrev LL36.St (X : LL36) (Q : PQ) (i : Nat) : Prop := StepG (opsOf 36 Tryz.f78) LL36.acts LL36.av X.val0 X.Wd X.a0 Q i
theorem LL36.plain (X : LL36) (ok : LL36Ok X) {Q : PQ} : ∀ i ∈ [0, 1, 2, 3, 4, 5, 6], LL36.St X Q i := by
 simp only [List.forall_mem_cons]
 refine ⟨?_, ?_, ?_, ?_, ?_, ?_, ?_, List.forall_mem_nil _⟩
 all_goals
  refine st_plain LL36.isL (LL36.ini ok) ok.sz rfl (by kernel_rfl) ?_
  intro γ w n o hW hop
  have hc_a0_ := rq_at (LL36.kp hW) ok.a0_
  have hc_a1_ := rq_at (LL36.kp hW) ok.a1_
  have hc_b0_ := rq_at (LL36.kp hW) ok.b0_
  have hc_b1_ := rq_at (LL36.kp hW) ok.b1_
  unfold execOp
  rw [hop]
  simp [envR, valG, LL36.av, LL36.val0, ok.k0, hc_a0_, hc_a1_, ok.k1, hc_b0_, hc_b1_, go_sem]
theorem LL36.s8 (X : LL36) (ok : LL36Ok X) {Q : PQ} : LL36.St X Q 8 := by
 intro γ listed a w o hF hC hW h1 ho h2
 obtain ⟨hd, hop, hg⟩ := fieldsL LL36.isL (i := 8) rfl ho
 have hu := unl (hF.lt ho) h1
 refine st_actG (k := 0) LL36.chain LL36.nodup rfl hF hC hW h1 ho h2 (Or.inr ⟨17, hd, rfl⟩) (injG (by kernel_rfl) hu) hg ?_
 intro hW0 K hK
 have hr : (execOp a.eval o).run Tryz.prog w = .ok (.value (.pointer (some ⟨w.heap.size, 0, none⟩))) (w.alloc (.cells #[.int .i64 0, .int .i64 0] 34)) := by
  unfold execOp
  rw [hop]
  simp [go_sem]
 unfold Oper.wp
 rw [hr]
 exact hK _ _ ⟨w.heap.size, rfl, Kp.size hW0, ⟨by simp, by simp⟩, fun o => World.frozen?_alloc_at _ _ _ _ rfl, Kp.alloc hW0 _ _⟩
theorem LL36.s9 (X : LL36) (ok : LL36Ok X) {Q : PQ} : LL36.St X Q 9 := by
 intro γ listed a w o hF hC hW h1 ho h2
 obtain ⟨hd, hop, hg⟩ := fieldsL LL36.isL (i := 9) rfl ho
 have e17 : a.eval (.tmp 17) = γ 0 := known hF ho h2 (LL36.ini ok) ok.sz (by kernel_rfl)
 have e194 : a.eval (.tmp 194) = .agg #[.int .i64 X.sx, .int .i64 X.sy] := known hF ho h2 (LL36.ini ok) ok.sz (by kernel_rfl)
 have hu := unl (hF.lt ho) h1
 refine st_actG (k := 1) LL36.chain LL36.nodup rfl hF hC hW h1 ho h2 (Or.inl hd) (injG (by kernel_rfl) hu) hg ?_
 intro hW0 K hK
 obtain ⟨g, g0, hg0, ⟨z0, z1⟩, zf, k1⟩ := hW0
 rw [g0] at e17
 obtain ⟨y0, y1⟩ := rq_set2 w g (.int .i64 X.sx) (.int .i64 X.sy) z0 z1
 have hr : (execOp a.eval o).run Tryz.prog w = .ok .skip ((w.setCell ⟨g, 0, none⟩ (.int .i64 X.sx)).setCell ⟨g, 1, none⟩ (.int .i64 X.sy)) := by
  generalize a.eval = ρ at e17 e194 ⊢
  unfold execOp
  rw [hop]
  simp [e17, e194, z0, z1, zf, go_sem]
 unfold Oper.wp
 rw [hr]
 exact hK _ _ ⟨g, g0, hg0, ⟨y0, y1⟩, fun o => by rw [World.frozen?_setCell, World.frozen?_setCell]; exact zf o, (Kp.setCell (Kp.setCell k1 hg0 _) hg0 _)⟩
theorem LL36.size : (opsOf 36 Tryz.f78).size = 10 := by kernel_rfl
theorem LL36.rest (X : LL36) (ok : LL36Ok X) {Q : PQ} : ∀ i ∈ [7, 8, 9], LL36.St X Q i := by
 simp only [List.forall_mem_cons]
 exact ⟨st_callK LL36.isL (LL36.ini ok) ok.sz rfl (by kernel_rfl) (fun _ _ => by simp [go_sem]) (fun γ w n hW => ok.hS w) (fun _ _ _ _ hW hk => LL36.keep hW hk),
  LL36.s8 X ok,
  LL36.s9 X ok, List.forall_mem_nil _⟩
theorem LL36.steps (X : LL36) (ok : LL36Ok X) {Q : PQ} (i : Nat) (hi : i < (opsOf 36 Tryz.f78).size) : LL36.St X Q i := by
 rw [LL36.size] at hi
 rcases (by decide : ∀ i, i < 10 → i ∈ [0, 1, 2, 3, 4, 5, 6] ∨ i ∈ [7, 8, 9]) i hi with h | h
 · exact LL36.plain X ok i h
 · exact LL36.rest X ok i h
theorem LL36.run (X : LL36) (ok : LL36Ok X) {Q : PQ} (w : World) (h0 : X.Wd 0 (fun _ => undef) w.drew) (hend : ∀ (γ : Nat → Value) w', X.Wd 2 γ w' → Q .normal (((((((((X.a0.put (some 187) (.slice (some ⟨X.g, X.off, none⟩) X.n X.cq)).put (some 188) (.pointer (some ⟨X.g, X.off, none⟩))).put (some 189) (.agg #[.int .i64 X.ax, .int .i64 X.ay])).put (some 190) (.slice (some ⟨X.g, X.off, none⟩) X.n X.cq)).put (some 191) (.pointer (some ⟨X.g, X.off + 2, none⟩))).put (some 192) (.agg #[.int .i64 X.ex, .int .i64 X.ey])).put (some 193) (.int .i64 X.h)).put (some 194) (.agg #[.int .i64 X.sx, .int .i64 X.sy])).put (some 17) (γ 0)) w') : (Code.region 36 (opsOf 36 Tryz.f78) true).wp Tryz.prog Q X.a0 w := by
 refine reg_act (acts := LL36.acts) (av := LL36.av) (val0 := X.val0) (Wd := X.Wd) (by kernel_rfl) (by kernel_rfl) (by rw [LL36.size]; decide) (fun i hi => LL36.steps X ok i hi) _ h0 ?_
 intro γ w' h
 exact end_at (hend γ w' h) (by kernel_rfl)
structure LL40 where
 ax : Int
 ay : Int
 ex : Int
 ey : Int
 sx : Int
 sy : Int
 h : Int
 g : Nat
 off : Nat
 n : Nat
 ia : Nat
 ib : Nat
 cq : Nat
 bs : Nat
 W : World
 a0 : Act
structure LL40Ok (X : LL40) : Prop where
 a0_ : X.W.cell? ⟨X.g, X.off + X.ia * 2, none⟩ = some (.int .i64 X.ax)
 a1_ : X.W.cell? ⟨X.g, X.off + X.ia * 2 + 1, none⟩ = some (.int .i64 X.ay)
 b0_ : X.W.cell? ⟨X.g, X.off + X.ib * 2, none⟩ = some (.int .i64 X.ex)
 b1_ : X.W.cell? ⟨X.g, X.off + X.ib * 2 + 1, none⟩ = some (.int .i64 X.ey)
 d1 : IntKind.i64.wrap ((X.n : Int) - 2) = (X.ia : Int)
 d2 : IntKind.i64.wrap ((X.n : Int) - 1) = (X.ib : Int)
 k0 : X.ia < X.n
 k1 : X.ib < X.n
 hS : ∀ w, Calls Tryz.prog 96 #[.agg #[.int .i64 X.ax, .int .i64 X.ay], .agg #[.int .i64 X.ex, .int .i64 X.ey], .int .i64 X.h] w fun e w' => e = .returned (.agg #[.int .i64 X.sx, .int .i64 X.sy]) ∧ Kp w w'
 z0 : ∃ u, X.W.cell? ⟨X.bs, 0, none⟩ = some u
 z1 : ∃ u, X.W.cell? ⟨X.bs, 1, none⟩ = some u
 zf : ∀ o, X.W.frozen? ⟨X.bs, o, none⟩ = false
 e5 : X.a0.eval (.tmp 5) = .int .i64 X.h
 e6 : X.a0.eval (.tmp 6) = .slice (some ⟨X.g, X.off, none⟩) X.n X.cq
 e9 : X.a0.eval (.tmp 9) = .int .i64 (X.n : Int)
 e17 : X.a0.eval (.tmp 17) = .pointer (some ⟨X.bs, 0, none⟩)
 sz : X.a0.tmps.size = 270
def LL40.val0 (X : LL40) : Nat → Value
 | 5 => .int .i64 X.h
 | 6 => .slice (some ⟨X.g, X.off, none⟩) X.n X.cq
 | 9 => .int .i64 (X.n : Int)
 | 17 => .pointer (some ⟨X.bs, 0, none⟩)
 | 225 => .slice (some ⟨X.g, X.off, none⟩) X.n X.cq
 | 226 => .int .i64 (X.n : Int)
 | 227 => .int .i64 (X.ia : Int)
 | 228 => .pointer (some ⟨X.g, X.off + X.ia * 2, none⟩)
 | 229 => .agg #[.int .i64 X.ax, .int .i64 X.ay]
 | 230 => .slice (some ⟨X.g, X.off, none⟩) X.n X.cq
 | 231 => .int .i64 (X.n : Int)
 | 232 => .int .i64 (X.ib : Int)
 | 233 => .pointer (some ⟨X.g, X.off + X.ib * 2, none⟩)
 | 234 => .agg #[.int .i64 X.ex, .int .i64 X.ey]
 | 235 => .int .i64 X.h
 | 236 => .agg #[.int .i64 X.sx, .int .i64 X.sy]
 | _ => undef
def LL40.av : Nat → Option Nat
 | _ => none
def LL40.acts : List Nat := [12]
def LL40.Wd (X : LL40) : Nat → (Nat → Value) → World → Prop
  | 0, _, w => Kp X.W w
  | _, _, w => ∃ w1, Kp X.W w1 ∧ w = ((w1.setCell ⟨X.bs, 0, none⟩ (.int .i64 X.sx)).setCell ⟨X.bs, 1, none⟩ (.int .i64 X.sy))
theorem LL40.chain : chainG (opsOf 40 Tryz.f78) LL40.acts = true := by kernel_rfl
theorem LL40.nodup : LL40.acts.Nodup := by decide
def LL40.L : List (Option Nat × Op × Option (Nat × Bool)) := [
 (some 225, .move (.tmp 6), none),
 (some 226, .move (.tmp 9), none),
 (some 227, .binOp .sub 3 (.tmp 226) (.const (.int .i64 2)) 3, none),
 (some 228, .indexAddr 23 (.tmp 225) (.tmp 227), none),
 (some 229, .load 34 (.tmp 228), none),
 (some 230, .move (.tmp 6), none),
 (some 231, .move (.tmp 9), none),
 (some 232, .binOp .sub 3 (.tmp 231) (.const (.int .i64 1)) 3, none),
 (some 233, .indexAddr 23 (.tmp 230) (.tmp 232), none),
 (some 234, .load 34 (.tmp 233), none),
 (some 235, .move (.tmp 5), none),
 (some 236, .call { callee := .value (.func 96), args := #[(.tmp 229), (.tmp 234), (.tmp 235)], argTypes := #[34, 34, 3] }, none),
 (none, .store 34 (.tmp 17) (.tmp 236), none)]
theorem LL40.isL : (opsOf 40 Tryz.f78).toList.map tri = LL40.L := by kernel_rfl
theorem LL40.ini {X : LL40} (ok : LL40Ok X) : ∀ n ∈ [5, 6, 9, 17], X.a0.eval (.tmp n) = X.val0 n := by
 simp only [List.forall_mem_cons]
 exact ⟨ok.e5, ok.e6, ok.e9, ok.e17, List.forall_mem_nil _⟩
abbrev LL40.St (X : LL40) (Q : PQ) (i : Nat) : Prop := StepG (opsOf 40 Tryz.f78) LL40.acts LL40.av X.val0 X.Wd X.a0 Q i
theorem LL40.plain (X : LL40) (ok : LL40Ok X) {Q : PQ} : ∀ i ∈ [0, 1, 2, 3, 5, 6, 7, 8, 10], LL40.St X Q i := by
 simp only [List.forall_mem_cons]
 refine ⟨?_, ?_, ?_, ?_, ?_, ?_, ?_, ?_, ?_, List.forall_mem_nil _⟩
 all_goals
  refine st_plain LL40.isL (LL40.ini ok) ok.sz rfl (by kernel_rfl) ?_
  intro γ w n o hW hop
  unfold execOp
  rw [hop]
  simp [envR, valG, LL40.av, LL40.val0, ok.d1, ok.k0, ok.d2, ok.k1, go_sem]
theorem LL40.early (X : LL40) (ok : LL40Ok X) {Q : PQ} : ∀ i ∈ [4, 9], LL40.St X Q i := by
 simp only [List.forall_mem_cons]
 refine ⟨?_, ?_, List.forall_mem_nil _⟩
 all_goals
  refine st_plainM (m := 0) LL40.isL (LL40.ini ok) ok.sz rfl (by kernel_rfl) ?_
  intro γ w n o hn hW hop
  obtain rfl : n = 0 := by omega
  have hk : Kp X.W w := hW
  have hc_a0_ := rq_at hk ok.a0_
  have hc_a1_ := rq_at hk ok.a1_
  have hc_b0_ := rq_at hk ok.b0_
  have hc_b1_ := rq_at hk ok.b1_
  unfold execOp
  rw [hop]
  simp [envR, valG, LL40.av, LL40.val0, hc_a0_, hc_a1_, hc_b0_, hc_b1_, go_sem]
theorem LL40.s12 (X : LL40) (ok : LL40Ok X) {Q : PQ} : LL40.St X Q 12 := by
 intro γ listed a w o hF hC hW h1 ho h2
 obtain ⟨hd, hop, hg⟩ := fieldsL LL40.isL (i := 12) rfl ho
 have e17 : a.eval (.tmp 17) = .pointer (some ⟨X.bs, 0, none⟩) := known hF ho h2 (LL40.ini ok) ok.sz (by kernel_rfl)
 have e236 : a.eval (.tmp 236) = .agg #[.int .i64 X.sx, .int .i64 X.sy] := known hF ho h2 (LL40.ini ok) ok.sz (by kernel_rfl)
 have hu := unl (hF.lt ho) h1
 refine st_actG (k := 0) LL40.chain LL40.nodup rfl hF hC hW h1 ho h2 (Or.inl hd) (injG (by kernel_rfl) hu) hg ?_
 intro hW0 K hK
 obtain ⟨u0, z0⟩ := ok.z0
 replace z0 := rq_at hW0 z0
 obtain ⟨u1, z1⟩ := ok.z1
 replace z1 := rq_at hW0 z1
 have zf : ∀ o, w.frozen? ⟨X.bs, o, none⟩ = false := fun o => (hW0.cells.2 _ _).trans (ok.zf o)
 have hr : (execOp a.eval o).run Tryz.prog w = .ok .skip ((w.setCell ⟨X.bs, 0, none⟩ (.int .i64 X.sx)).setCell ⟨X.bs, 1, none⟩ (.int .i64 X.sy)) := by
  generalize a.eval = ρ at e17 e236 ⊢
  unfold execOp
  rw [hop]
  simp [e17, e236, z0, z1, zf, go_sem]
 unfold Oper.wp
 rw [hr]
 exact hK _ _ ⟨w, hW0, rfl⟩
theorem LL40.size : (opsOf 40 Tryz.f78).size = 13 := by kernel_rfl
theorem LL40.rest (X : LL40) (ok : LL40Ok X) {Q : PQ} : ∀ i ∈ [11, 12], LL40.St X Q i := by
 simp only [List.forall_mem_cons]
 exact ⟨st_callZ LL40.isL (LL40.ini ok) ok.sz rfl (by kernel_rfl) (fun _ _ => by simp [go_sem]) (fun γ w hW => ok.hS w) (fun _ _ _ hW hk => Kp.trans hW hk),
  LL40.s12 X ok, List.forall_mem_nil _⟩
theorem LL40.steps (X : LL40) (ok : LL40Ok X) {Q : PQ} (i : Nat) (hi : i < (opsOf 40 Tryz.f78).size) : LL40.St X Q i := by
 rw [LL40.size] at hi
 rcases (by decide : ∀ i, i < 13 → i ∈ [0, 1, 2, 3, 5, 6, 7, 8, 10] ∨ i ∈ [4, 9] ∨ i ∈ [11, 12]) i hi with h | h | h
 · exact LL40.plain X ok i h
 · exact LL40.early X ok i h
 · exact LL40.rest X ok i h
theorem LL40.run (X : LL40) (ok : LL40Ok X) {Q : PQ} (w : World) (h0 : X.Wd 0 (fun _ => undef) w.drew) (hend : ∀ (γ : Nat → Value) w', X.Wd 1 γ w' → Q .normal ((((((((((((X.a0.put (some 225) (.slice (some ⟨X.g, X.off, none⟩) X.n X.cq)).put (some 226) (.int .i64 (X.n : Int))).put (some 227) (.int .i64 (X.ia : Int))).put (some 228) (.pointer (some ⟨X.g, X.off + X.ia * 2, none⟩))).put (some 229) (.agg #[.int .i64 X.ax, .int .i64 X.ay])).put (some 230) (.slice (some ⟨X.g, X.off, none⟩) X.n X.cq)).put (some 231) (.int .i64 (X.n : Int))).put (some 232) (.int .i64 (X.ib : Int))).put (some 233) (.pointer (some ⟨X.g, X.off + X.ib * 2, none⟩))).put (some 234) (.agg #[.int .i64 X.ex, .int .i64 X.ey])).put (some 235) (.int .i64 X.h)).put (some 236) (.agg #[.int .i64 X.sx, .int .i64 X.sy])) w') : (Code.region 40 (opsOf 40 Tryz.f78) true).wp Tryz.prog Q X.a0 w := by
 refine reg_act (acts := LL40.acts) (av := LL40.av) (val0 := X.val0) (Wd := X.Wd) (by kernel_rfl) (by kernel_rfl) (by rw [LL40.size]; decide) (fun i hi => LL40.steps X ok i hi) _ h0 ?_
 intro γ w' h
 exact end_at (hend γ w' h) (by kernel_rfl)
structure LnB (bx : Nat) (w : World) (v : Value) (l : List Pnt) (cl : Bool) : Prop where
 c0 : w.cell? ⟨bx, 0, none⟩ = some v
 c1 : w.cell? ⟨bx, 1, none⟩ = some (.bool cl)
 free : ∀ o, w.frozen? ⟨bx, o, none⟩ = false
 own : OwnP w (bx + 1) v l
theorem LnB.lt {bx : Nat} {w : World} {v : Value} {l : List Pnt} {cl : Bool} (h : LnB bx w v l cl) : bx < w.heap.size := World.block_lt_of_cell? w ⟨bx, 0, none⟩ h.c0
theorem LnB.nw {bx : Nat} {w w' : World} {v : Value} {l : List Pnt} {cl : Bool} (h : LnB bx w v l cl) (k : Nw w w') : LnB bx w' v l cl :=
 ⟨((bcell k).1 _ _ h.lt).trans h.c0, ((bcell k).1 _ _ h.lt).trans h.c1, fun o => ((bcell k).2 _ _ h.lt).trans (h.free o), h.own.nw k⟩
theorem LnB.new (w : World) (t : TypeId) (cl : Bool) : LnB w.heap.size (w.alloc (.cells #[.slice none 0 0, .bool cl] t)) (.slice none 0 0) [] cl :=
 ⟨by simp, by simp, fun o => World.frozen?_alloc_at _ _ _ _ rfl, OwnP.nil _ _⟩
theorem LnB.ne {bx : Nat} {w : World} {v : Value} {l : List Pnt} {cl : Bool} (h : LnB bx w v l cl) : v.ownBlock ≠ some bx := fun e => by
 have := (OwnQ.lt h.own bx e).1
 omega
theorem LnB.there {bx : Nat} {w w' : World} {v v' : Value} {l : List Pnt} {cl : Bool} (h : LnB bx w v l cl) (k : Ext v v' w w') : w'.cell? ⟨bx, 0, none⟩ = some v ∧ ∀ o, w'.frozen? ⟨bx, o, none⟩ = false :=
 ⟨(Ext.cell k h.lt h.ne 0).trans h.c0, fun o => (World.frozen?_of_block (w := w) (a := ⟨bx, o, none⟩) (k.1.block bx h.lt (fun e => h.ne e.symm))).trans (h.free o)⟩
theorem LnB.put {bx : Nat} {w w' : World} {v v' : Value} {l l' : List Pnt} {cl : Bool} (h : LnB bx w v l cl) (k : Ext v v' w w') (ho : OwnP w' (bx + 1) v' l') : LnB bx (w'.setCell ⟨bx, 0, none⟩ v') v' l' cl ∧ Below bx w (w'.setCell ⟨bx, 0, none⟩ v') := by
 have hb := h.lt
 have hne2 : v'.ownBlock ≠ some bx := Ext.apart k hb h.ne
 obtain ⟨t0, tf⟩ := h.there k
 refine ⟨⟨World.cell?_setCell_same w' ⟨bx, 0, none⟩ _ t0, ?_, fun o => by rw [World.frozen?_setCell]; exact tf o, OwnQ.far ho bx 0 _ hne2⟩, ?_⟩
 ·rw [World.cell?_setCell_other _ _ _ _ (fun e => by injection e; omega)]
  exact (Ext.cell k hb h.ne 1).trans h.c1
 ·exact (k.below (fun g e => Nat.le_of_succ_le (OwnQ.lt h.own g e).1) (by omega)).setCell (Nat.le_refl _) _
theorem st_call {w : World} {ops : Array Oper} {o : Oper} {a : Act} {K : Act → World → Prop} {Q : PQ} {E : Prop} (f : FuncId) (args : Array Value) (hgd : o.guard = none) (hrun : (execOp a.eval o).run Tryz.prog w = .ok (.enter f args) w)
  (hc : Calls Tryz.prog f args w fun e w' => ∃ v, e = .returned v ∧ K (a.put o.dst v) w') : if Region.wanted o (yielded ops a.tmps) = true then Oper.wp Tryz.prog o a w K Q else E := by
 have hw : Region.wanted o (yielded ops a.tmps) = true := by simp [Region.wanted, hgd]
 rw [if_pos hw]
 unfold Oper.wp
 rw [hrun]
 refine Calls.mono hc ?_
 rintro e w' ⟨v, rfl, h⟩
 exact h
theorem st_one (w : World) {ops : Array Oper} {o : Oper} {a : Act} (s x : Operand) (ho : o.op = .call { callee := .builtin .append, args := #[s, x], argTypes := #[23, 23] })
  (bx : Nat) (v : Value) (l : List Pnt) (cl : Bool) (px py : Int) (t : TypeId) (hs : a.eval s = v) (h : LnB bx w v l cl) (hx : a.eval x = .slice (some ⟨w.heap.size, 0, none⟩) 1 1) (hl : l.length + 1 ≤ 1000000) (hgd : o.guard = none)
  {K : Act → World → Prop} {Q : PQ} {E : Prop}
  (hk : ∀ g' c' w', OwnP w' (bx + 1) (.slice (some ⟨g', 0, none⟩) (l.length + 1) c') (l ++ [(px, py)]) → Ext v (.slice (some ⟨g', 0, none⟩) (l.length + 1) c') w w' → K (a.put o.dst (.slice (some ⟨g', 0, none⟩) (l.length + 1) c')) w') :
  if Region.wanted o (yielded ops a.tmps) = true then Oper.wp Tryz.prog o a (w.alloc (.cells #[.int .i64 px, .int .i64 py] t)) K Q else E := by
 have n1 : Nw w (w.alloc (.cells #[.int .i64 px, .int .i64 py] t)) := (Below.refl _ _).alloc (Nat.le_refl _) _
 refine st_q 34 23 23 (.int .i64 0) (.int .i64 0) 16 under_pts under_pts Tryz.info34 (by decide) rfl _ s x ho (bx + 1) v (vP l) (vP [(px, py)]) hs (h.own.nw n1) w.heap.size 0 1 1 rfl hx (liep_one w px py t).vv (vP_one _) (by simp [vP]) (by rw [vP_len]; simp [vP]; omega) (by have := h.lt; simp; omega) hgd ?_
 intro g' c' w' h2 h3
 rw [vP_len] at h2 h3 ⊢
 rw [← vP_append] at h2
 exact hk g' c' w' h2 (n1.ext h3)
end Go.Proofs.YtnkeljmecbohkaaGreat
