/-
  Points of the call own that are there; each theorem names it
-/
import Derived.Test.YtdjemnbdaddegaaJAP
import Derived.Test.YtdjemnbdaddegaaJAN
import Derived.Test.YtdjemnbdaddegaaJAG
import Derived.Deep.DeepCutAuto
import Derived.Test.YtdjemnbdaddegaaJAM
import Derived.Test.YtdjemnbdaddegaaJAJ
import Derived.Test.YtdjemnbdaddegaaJAA
namespace Go.Proofs.Ytdjemnbdaddegaa
open Go.ChangeShapes Go.WideShapes Go.ChangeAt Go.RowKit
set_option linter.unusedVariables false
theorem ownp_some {w : World} {B : Nat} {u : Value} {l : List Pnt} (h : OwnP w B u l) (hn : 0 < l.length) : ∃ g c, u = .slice (some ⟨g, 0, none⟩) l.length c ∧ LieP w g 0 l := by
 rcases OwnP.lay h with ⟨_, e⟩ | ⟨g, c, e, h1, h2⟩
 ·rw [e] at hn; simp at hn
 ·obtain ⟨g', off, e2, h3⟩ := Pts.lie h2.pts hn
  injection e2 with e2; injection e2 with e3 e4
  subst e3 e4
  exact ⟨_, c, e, h3⟩
def bndL (E : List Pnt) (j : Nat) : List Pnt := (List.range j).map fun (k : Nat) => curveP E ((k : Int) + 1)
theorem bndL_step (E : List Pnt) (j : Nat) : bndL E (j + 1) = bndL E j ++ [curveP E ((j : Int) + 1)] := by simp [bndL, List.range_succ]
theorem bndL_len (E : List Pnt) (j : Nat) : (bndL E j).length = j := by simp [bndL]
structure LR1 where
 bx : Nat
 sb : Nat
 g : Nat
 uc : Nat
 nb : Nat
 no : Nat
 nc : Nat
 x : Int
 y : Int
 W : World
 a0 : Act
structure LR1Ok (X : LR1) : Prop where
 cu : X.W.cell? ⟨X.bx, 0, none⟩ = some (.slice (some ⟨X.g, 0, none⟩) 1 X.uc)
 cs : X.W.cell? ⟨X.sb, 1, none⟩ = some (.slice (some ⟨X.nb, X.no, none⟩) 2 X.nc)
 cx : X.W.cell? ⟨X.nb, X.no, none⟩ = some (.int .i64 X.x)
 cy : X.W.cell? ⟨X.nb, X.no + 1, none⟩ = some (.int .i64 X.y)
 f0 : ∃ z, X.W.cell? ⟨X.g, 0, none⟩ = some (.int .i64 z)
 f1 : ∃ z, X.W.cell? ⟨X.g, 1, none⟩ = some (.int .i64 z)
 ff : ∀ o, X.W.frozen? ⟨X.g, o, none⟩ = false
 e4 : X.a0.eval (.tmp 4) = .pointer (some ⟨X.bx, 0, none⟩)
 e6 : X.a0.eval (.tmp 6) = .pointer (some ⟨X.sb, 0, none⟩)
 sz : X.a0.tmps.size = 137
def LR1.val0 (X : LR1) : Nat → Value
 | 4 => .pointer (some ⟨X.bx, 0, none⟩)
 | 6 => .pointer (some ⟨X.sb, 0, none⟩)
 | 49 => .pointer (some ⟨X.bx, 0, none⟩)
 | 50 => .slice (some ⟨X.g, 0, none⟩) 1 X.uc
 | 51 => .pointer (some ⟨X.sb, 1, none⟩)
 | 52 => .slice (some ⟨X.nb, X.no, none⟩) 2 X.nc
 | 53 => .pointer (some ⟨X.nb, X.no, none⟩)
 | 54 => .int .i64 X.x
 | 55 => .pointer (some ⟨X.sb, 1, none⟩)
 | 56 => .slice (some ⟨X.nb, X.no, none⟩) 2 X.nc
 | 57 => .pointer (some ⟨X.nb, X.no + 1, none⟩)
 | 58 => .int .i64 X.y
 | 59 => .agg #[.int .i64 X.x, .int .i64 X.y]
 | 60 => .pointer (some ⟨X.g, 0, none⟩)
 | _ => undef
def LR1.av : Nat → Option Nat
 | _ => none
def LR1.acts : List Nat := [12]
def LR1.Wd (X : LR1) : Nat → (Nat → Value) → World → Prop
  | 0, _, w => w = X.W
  | _, _, w => w = (X.W.setCell ⟨X.g, 0, none⟩ (.int .i64 X.x)).setCell ⟨X.g, 1, none⟩ (.int .i64 X.y)
theorem LR1.chain : chainG (opsOf 16 Try.f60) LR1.acts = true := by kernel_rfl
theorem LR1.nodup : LR1.acts.Nodup := by decide
def LR1.L : List (Option Nat × Op × Option (Nat × Bool)) := [
 (some 49, .fieldAddr 55 (.tmp 4) 0, none),
 (some 50, .load 23 (.tmp 49), none),
 (some 51, .fieldAddr 98 (.tmp 6) 1, none),
 (some 52, .load 77 (.tmp 51), none),
 (some 53, .indexAddr 77 (.tmp 52) (.const (.int .i64 0)), none),
 (some 54, .load 3 (.tmp 53), none),
 (some 55, .fieldAddr 98 (.tmp 6) 1, none),
 (some 56, .load 77 (.tmp 55), none),
 (some 57, .indexAddr 77 (.tmp 56) (.const (.int .i64 1)), none),
 (some 58, .load 3 (.tmp 57), none),
 (some 59, .build 27 #[(0, (.tmp 54)), (1, (.tmp 58))], none),
 (some 60, .indexAddr 23 (.tmp 50) (.const (.int .i64 0)), none),
 (none, .store 27 (.tmp 60) (.tmp 59), none)]
theorem LR1.isL : (opsOf 16 Try.f60).toList.map tri = LR1.L := by kernel_rfl
theorem LR1.ini {X : LR1} (ok : LR1Ok X) : ∀ n ∈ [4, 6], X.a0.eval (.tmp n) = X.val0 n := by
 simp only [List.forall_mem_cons]
 exact ⟨ok.e4, ok.e6, List.forall_mem_nil _⟩
abbrev LR1.St (X : LR1) (Q : PQ) (i : Nat) : Prop := StepG (opsOf 16 Try.f60) LR1.acts LR1.av X.val0 X.Wd X.a0 Q i
theorem LR1.plain (X : LR1) (ok : LR1Ok X) {Q : PQ} : ∀ i ∈ [0, 2, 4, 6, 8, 10, 11], LR1.St X Q i := by
 simp only [List.forall_mem_cons]
 refine ⟨?_, ?_, ?_, ?_, ?_, ?_, ?_, List.forall_mem_nil _⟩
 all_goals
  refine st_plain LR1.isL (LR1.ini ok) ok.sz rfl (by kernel_rfl) ?_
  intro γ w n o hW hop
  unfold execOp
  rw [hop]
  simp [envR, valG, LR1.av, LR1.val0, go_sem]
theorem LR1.soon (X : LR1) (ok : LR1Ok X) {Q : PQ} : ∀ i ∈ [1, 3, 5, 7, 9], LR1.St X Q i := by
 simp only [List.forall_mem_cons]
 refine ⟨?_, ?_, ?_, ?_, ?_, List.forall_mem_nil _⟩
 all_goals
  refine st_plainM (m := 0) LR1.isL (LR1.ini ok) ok.sz rfl (by kernel_rfl) ?_
  intro γ w n o hn hW hop
  obtain rfl : n = 0 := by omega
  have hk : w = X.W := hW
  subst hk
  unfold execOp
  rw [hop]
  simp [envR, valG, LR1.av, LR1.val0, ok.cu, ok.cs, ok.cx, ok.cy, go_sem]
theorem LR1.s12 (X : LR1) (ok : LR1Ok X) {Q : PQ} : LR1.St X Q 12 := by
 intro γ listed a w o hF hC hW h1 ho h2
 obtain ⟨hd, hop, hg⟩ := fieldsL LR1.isL (i := 12) rfl ho
 have e60 : a.eval (.tmp 60) = .pointer (some ⟨X.g, 0, none⟩) := known hF ho h2 (LR1.ini ok) ok.sz (by kernel_rfl)
 have e59 : a.eval (.tmp 59) = .agg #[.int .i64 X.x, .int .i64 X.y] := known hF ho h2 (LR1.ini ok) ok.sz (by kernel_rfl)
 have hu := unl (hF.lt ho) h1
 refine st_actG (k := 0) LR1.chain LR1.nodup rfl hF hC hW h1 ho h2 (Or.inl hd) (injG (by kernel_rfl) hu) hg ?_
 intro hW0 K hK
 have hw0 : w = X.W := hW0
 obtain ⟨z0, f0⟩ := ok.f0
 obtain ⟨z1, f1⟩ := ok.f1
 have ff := ok.ff
 have hr : (execOp a.eval o).run Try.prog X.W = .ok .skip ((X.W.setCell ⟨X.g, 0, none⟩ (.int .i64 X.x)).setCell ⟨X.g, 1, none⟩ (.int .i64 X.y)) := by
  generalize a.eval = ρ at e59 e60 ⊢
  unfold execOp
  rw [hop]
  simp [e59, e60, f0, f1, ff, go_sem]
 unfold Oper.wp
 rw [hw0, hr]
 exact hK undef _ rfl
theorem LR1.size : (opsOf 16 Try.f60).size = 13 := by kernel_rfl
theorem LR1.rest (X : LR1) (ok : LR1Ok X) {Q : PQ} : ∀ i ∈ [12], LR1.St X Q i := by
 simp only [List.forall_mem_cons]
 exact ⟨LR1.s12 X ok, List.forall_mem_nil _⟩
theorem LR1.steps (X : LR1) (ok : LR1Ok X) {Q : PQ} (i : Nat) (hi : i < (opsOf 16 Try.f60).size) : LR1.St X Q i := by
 rw [LR1.size] at hi
 rcases (by decide : ∀ i, i < 13 → i ∈ [0, 2, 4, 6, 8, 10, 11] ∨ i ∈ [1, 3, 5, 7, 9] ∨ i ∈ [12]) i hi with h | h | h
 · exact LR1.plain X ok i h
 · exact LR1.soon X ok i h
 · exact LR1.rest X ok i h
theorem LR1.run (X : LR1) (ok : LR1Ok X) {Q : PQ} (w : World) (h0 : X.Wd 0 (fun _ => undef) w.drew) (hend : ∀ (γ : Nat → Value) w', X.Wd 1 γ w' → Q .normal ((((((((((((X.a0.put (some 49) (.pointer (some ⟨X.bx, 0, none⟩))).put (some 50) (.slice (some ⟨X.g, 0, none⟩) 1 X.uc)).put (some 51) (.pointer (some ⟨X.sb, 1, none⟩))).put (some 52) (.slice (some ⟨X.nb, X.no, none⟩) 2 X.nc)).put (some 53) (.pointer (some ⟨X.nb, X.no, none⟩))).put (some 54) (.int .i64 X.x)).put (some 55) (.pointer (some ⟨X.sb, 1, none⟩))).put (some 56) (.slice (some ⟨X.nb, X.no, none⟩) 2 X.nc)).put (some 57) (.pointer (some ⟨X.nb, X.no + 1, none⟩))).put (some 58) (.int .i64 X.y)).put (some 59) (.agg #[.int .i64 X.x, .int .i64 X.y])).put (some 60) (.pointer (some ⟨X.g, 0, none⟩))) w') : (Code.region 16 (opsOf 16 Try.f60) true).wp Try.prog Q X.a0 w := by
 refine reg_act (acts := LR1.acts) (av := LR1.av) (val0 := X.val0) (Wd := X.Wd) (by kernel_rfl) (by kernel_rfl) (by rw [LR1.size]; decide) (fun i hi => LR1.steps X ok i hi) _ h0 ?_
 intro γ w' h
 exact end_at (hend γ w' h) (by kernel_rfl)
structure LR2 where
 bx : Nat
 sb : Nat
 va : Option Addr
 vn : Nat
 vc : Nat
 l : List Pnt
 cl : Bool
 nb : Nat
 no : Nat
 nc : Nat
 x : Int
 y : Int
 W : World
 a0 : Act
structure LR2Ok (X : LR2) : Prop where
 lb : LnB X.bx X.W (.slice X.va X.vn X.vc) X.l X.cl
 len : X.l.length + 1 ≤ 1000000
 cs : X.W.cell? ⟨X.sb, 1, none⟩ = some (.slice (some ⟨X.nb, X.no, none⟩) 2 X.nc)
 cx : X.W.cell? ⟨X.nb, X.no, none⟩ = some (.int .i64 X.x)
 cy : X.W.cell? ⟨X.nb, X.no + 1, none⟩ = some (.int .i64 X.y)
 e4 : X.a0.eval (.tmp 4) = .pointer (some ⟨X.bx, 0, none⟩)
 e6 : X.a0.eval (.tmp 6) = .pointer (some ⟨X.sb, 0, none⟩)
 sz : X.a0.tmps.size = 137
def LR2.val0 (X : LR2) : Nat → Value
 | 4 => .pointer (some ⟨X.bx, 0, none⟩)
 | 6 => .pointer (some ⟨X.sb, 0, none⟩)
 | 63 => .pointer (some ⟨X.bx, 0, none⟩)
 | 64 => .slice X.va X.vn X.vc
 | 65 => .pointer (some ⟨X.sb, 1, none⟩)
 | 66 => .slice (some ⟨X.nb, X.no, none⟩) 2 X.nc
 | 67 => .pointer (some ⟨X.nb, X.no, none⟩)
 | 68 => .int .i64 X.x
 | 69 => .pointer (some ⟨X.sb, 1, none⟩)
 | 70 => .slice (some ⟨X.nb, X.no, none⟩) 2 X.nc
 | 71 => .pointer (some ⟨X.nb, X.no + 1, none⟩)
 | 72 => .int .i64 X.y
 | 73 => .agg #[.int .i64 X.x, .int .i64 X.y]
 | 76 => .pointer (some ⟨X.bx, 0, none⟩)
 | _ => undef
def LR2.av : Nat → Option Nat
 | 74 => some 0
 | 75 => some 1
 | _ => none
def LR2.acts : List Nat := [11, 12, 14]
def LR2.Wd (X : LR2) : Nat → (Nat → Value) → World → Prop
  | 0, _, w => Kp X.W w
  | 1, γ, w => ∃ w1, Kp X.W w1 ∧ γ 0 = .slice (some ⟨w1.heap.size, 0, none⟩) 1 1 ∧ w = w1.alloc (.cells #[.int .i64 X.x, .int .i64 X.y] 27)
  | 2, γ, w => ∃ w1 g c, Kp X.W w1 ∧ γ 1 = .slice (some ⟨g, 0, none⟩) (X.l.length + 1) c ∧ OwnP w (X.bx + 1) (γ 1) (X.l ++ [(X.x, X.y)]) ∧ Ext (.slice X.va X.vn X.vc) (γ 1) w1 w
  | _, γ, w => ∃ w1 w2 g c, Kp X.W w1 ∧ γ 1 = .slice (some ⟨g, 0, none⟩) (X.l.length + 1) c ∧ OwnP w2 (X.bx + 1) (γ 1) (X.l ++ [(X.x, X.y)]) ∧ Ext (.slice X.va X.vn X.vc) (γ 1) w1 w2 ∧ w = w2.setCell ⟨X.bx, 0, none⟩ (γ 1)
theorem LR2.chain : chainG (opsOf 18 Try.f60) LR2.acts = true := by kernel_rfl
theorem LR2.nodup : LR2.acts.Nodup := by decide
def LR2.L : List (Option Nat × Op × Option (Nat × Bool)) := [
 (some 63, .fieldAddr 55 (.tmp 4) 0, none),
 (some 64, .load 23 (.tmp 63), none),
 (some 65, .fieldAddr 98 (.tmp 6) 1, none),
 (some 66, .load 77 (.tmp 65), none),
 (some 67, .indexAddr 77 (.tmp 66) (.const (.int .i64 0)), none),
 (some 68, .load 3 (.tmp 67), none),
 (some 69, .fieldAddr 98 (.tmp 6) 1, none),
 (some 70, .load 77 (.tmp 69), none),
 (some 71, .indexAddr 77 (.tmp 70) (.const (.int .i64 1)), none),
 (some 72, .load 3 (.tmp 71), none),
 (some 73, .build 27 #[(0, (.tmp 68)), (1, (.tmp 72))], none),
 (some 74, .buildSlice 23 1 #[(0, (.tmp 73))], none),
 (some 75, .call { callee := .builtin .append, args := #[(.tmp 64), (.tmp 74)], argTypes := #[23, 23] }, none),
 (some 76, .fieldAddr 55 (.tmp 4) 0, none),
 (none, .store 23 (.tmp 76) (.tmp 75), none)]
theorem LR2.isL : (opsOf 18 Try.f60).toList.map tri = LR2.L := by kernel_rfl
theorem LR2.ini {X : LR2} (ok : LR2Ok X) : ∀ n ∈ [4, 6], X.a0.eval (.tmp n) = X.val0 n := by
 simp only [List.forall_mem_cons]
 exact ⟨ok.e4, ok.e6, List.forall_mem_nil _⟩
abbrev LR2.St (X : LR2) (Q : PQ) (i : Nat) : Prop := StepG (opsOf 18 Try.f60) LR2.acts LR2.av X.val0 X.Wd X.a0 Q i
theorem LR2.plain (X : LR2) (ok : LR2Ok X) {Q : PQ} : ∀ i ∈ [0, 2, 4, 6, 8, 10, 13], LR2.St X Q i := by
 simp only [List.forall_mem_cons]
 refine ⟨?_, ?_, ?_, ?_, ?_, ?_, ?_, List.forall_mem_nil _⟩
 all_goals
  refine st_plain LR2.isL (LR2.ini ok) ok.sz rfl (by kernel_rfl) ?_
  intro γ w n o hW hop
  unfold execOp
  rw [hop]
  simp [envR, valG, LR2.av, LR2.val0, go_sem]
theorem LR2.s1 (X : LR2) (ok : LR2Ok X) {Q : PQ} : LR2.St X Q 1 := by
 intro γ listed a w o hF hC hW h1 ho h2
 obtain ⟨hd, hop, hg⟩ := fieldsL LR2.isL (i := 1) rfl ho
 have e63 : a.eval (.tmp 63) = .pointer (some ⟨X.bx, 0, none⟩) := known hF ho h2 (LR2.ini ok) ok.sz (by kernel_rfl)
 have hph := phase_leG (acts := LR2.acts) (m := 1) (x := 12) hC (unl (hF.lt ho) h1) rfl [1] (by kernel_rfl) (by decide)
 have hWW := hW
 generalize phase listed LR2.acts = n at hph hWW
 have hk : Nw X.W w := by
  rcases (show n = 0 ∨ n = 1 by omega) with rfl | rfl
  ·exact hWW.nw
  ·obtain ⟨w1, k1, _, rfl⟩ := hWW
   exact Nw.trans k1.nw ((Below.refl _ _).alloc (Nat.le_refl _) _)
 have hc := (ok.lb.nw hk).c0
 refine st_pureG hF hC hW ho h2 (by decide) hd hg rfl ?_
 show _ = Result.ok (Next.value (.slice X.va X.vn X.vc)) w
 generalize a.eval = ρ at e63 ⊢
 unfold execOp
 rw [hop]
 simp [e63, hc, go_sem]
theorem LR2.s3 (X : LR2) (ok : LR2Ok X) {Q : PQ} : LR2.St X Q 3 := by
 intro γ listed a w o hF hC hW h1 ho h2
 obtain ⟨hd, hop, hg⟩ := fieldsL LR2.isL (i := 3) rfl ho
 have e65 : a.eval (.tmp 65) = .pointer (some ⟨X.sb, 1, none⟩) := known hF ho h2 (LR2.ini ok) ok.sz (by kernel_rfl)
 have hph := phase_leG (acts := LR2.acts) (m := 0) (x := 11) hC (unl (hF.lt ho) h1) rfl [10, 5, 4, 3] (by kernel_rfl) (by decide)
 have hWW := hW
 generalize phase listed LR2.acts = n at hph hWW
 obtain rfl : n = 0 := by omega
 have hk : Kp X.W w := hWW
 have hc := rq_at hk ok.cs
 refine st_pureG hF hC hW ho h2 (by decide) hd hg rfl ?_
 show _ = Result.ok (Next.value (.slice (some ⟨X.nb, X.no, none⟩) 2 X.nc)) w
 generalize a.eval = ρ at e65 ⊢
 unfold execOp
 rw [hop]
 simp [e65, hc, go_sem]
theorem LR2.s5 (X : LR2) (ok : LR2Ok X) {Q : PQ} : LR2.St X Q 5 := by
 intro γ listed a w o hF hC hW h1 ho h2
 obtain ⟨hd, hop, hg⟩ := fieldsL LR2.isL (i := 5) rfl ho
 have e67 : a.eval (.tmp 67) = .pointer (some ⟨X.nb, X.no, none⟩) := known hF ho h2 (LR2.ini ok) ok.sz (by kernel_rfl)
 have hph := phase_leG (acts := LR2.acts) (m := 0) (x := 11) hC (unl (hF.lt ho) h1) rfl [10, 5] (by kernel_rfl) (by decide)
 have hWW := hW
 generalize phase listed LR2.acts = n at hph hWW
 obtain rfl : n = 0 := by omega
 have hk : Kp X.W w := hWW
 have hc := rq_at hk ok.cx
 refine st_pureG hF hC hW ho h2 (by decide) hd hg rfl ?_
 show _ = Result.ok (Next.value (.int .i64 X.x)) w
 generalize a.eval = ρ at e67 ⊢
 unfold execOp
 rw [hop]
 simp [e67, hc, go_sem]
theorem LR2.s7 (X : LR2) (ok : LR2Ok X) {Q : PQ} : LR2.St X Q 7 := by
 intro γ listed a w o hF hC hW h1 ho h2
 obtain ⟨hd, hop, hg⟩ := fieldsL LR2.isL (i := 7) rfl ho
 have e69 : a.eval (.tmp 69) = .pointer (some ⟨X.sb, 1, none⟩) := known hF ho h2 (LR2.ini ok) ok.sz (by kernel_rfl)
 have hph := phase_leG (acts := LR2.acts) (m := 0) (x := 11) hC (unl (hF.lt ho) h1) rfl [10, 9, 8, 7] (by kernel_rfl) (by decide)
 have hWW := hW
 generalize phase listed LR2.acts = n at hph hWW
 obtain rfl : n = 0 := by omega
 have hk : Kp X.W w := hWW
 have hc := rq_at hk ok.cs
 refine st_pureG hF hC hW ho h2 (by decide) hd hg rfl ?_
 show _ = Result.ok (Next.value (.slice (some ⟨X.nb, X.no, none⟩) 2 X.nc)) w
 generalize a.eval = ρ at e69 ⊢
 unfold execOp
 rw [hop]
 simp [e69, hc, go_sem]
theorem LR2.s9 (X : LR2) (ok : LR2Ok X) {Q : PQ} : LR2.St X Q 9 := by
 intro γ listed a w o hF hC hW h1 ho h2
 obtain ⟨hd, hop, hg⟩ := fieldsL LR2.isL (i := 9) rfl ho
 have e71 : a.eval (.tmp 71) = .pointer (some ⟨X.nb, X.no + 1, none⟩) := known hF ho h2 (LR2.ini ok) ok.sz (by kernel_rfl)
 have hph := phase_leG (acts := LR2.acts) (m := 0) (x := 11) hC (unl (hF.lt ho) h1) rfl [10, 9] (by kernel_rfl) (by decide)
 have hWW := hW
 generalize phase listed LR2.acts = n at hph hWW
 obtain rfl : n = 0 := by omega
 have hk : Kp X.W w := hWW
 have hc := rq_at hk ok.cy
 refine st_pureG hF hC hW ho h2 (by decide) hd hg rfl ?_
 show _ = Result.ok (Next.value (.int .i64 X.y)) w
 generalize a.eval = ρ at e71 ⊢
 unfold execOp
 rw [hop]
 simp [e71, hc, go_sem]
theorem LR2.s11 (X : LR2) (ok : LR2Ok X) {Q : PQ} : LR2.St X Q 11 := by
 intro γ listed a w o hF hC hW h1 ho h2
 obtain ⟨hd, hop, hg⟩ := fieldsL LR2.isL (i := 11) rfl ho
 have e73 : a.eval (.tmp 73) = .agg #[.int .i64 X.x, .int .i64 X.y] := known hF ho h2 (LR2.ini ok) ok.sz (by kernel_rfl)
 have hu := unl (hF.lt ho) h1
 refine st_actG (k := 0) LR2.chain LR2.nodup rfl hF hC hW h1 ho h2 (Or.inr ⟨74, hd, rfl⟩) (injG (by kernel_rfl) hu) hg ?_
 intro hW0 K hK
 have hr : (execOp a.eval o).run Try.prog w = .ok (.value (.slice (some ⟨w.heap.size, 0, none⟩) 1 1)) (w.alloc (.cells #[.int .i64 X.x, .int .i64 X.y] 27)) := by
  generalize a.eval = ρ at e73 ⊢
  unfold execOp
  rw [hop]
  simp [e73, go_sem]
 unfold Oper.wp
 rw [hr]
 exact hK _ _ ⟨w, hW0, rfl, rfl⟩
theorem LR2.s12 (X : LR2) (ok : LR2Ok X) {Q : PQ} : LR2.St X Q 12 := by
 intro γ listed a w o hF hC hW h1 ho h2
 obtain ⟨hd, hop, hg⟩ := fieldsL LR2.isL (i := 12) rfl ho
 have e64 : a.eval (.tmp 64) = .slice X.va X.vn X.vc := known hF ho h2 (LR2.ini ok) ok.sz (by kernel_rfl)
 have e74 : a.eval (.tmp 74) = γ 0 := known hF ho h2 (LR2.ini ok) ok.sz (by kernel_rfl)
 have hu := unl (hF.lt ho) h1
 refine st_actG (k := 1) LR2.chain LR2.nodup rfl hF hC hW h1 ho h2 (Or.inr ⟨75, hd, rfl⟩) (injG (by kernel_rfl) hu) hg ?_
 intro hW0 K hK
 obtain ⟨w1, k1, g0, rfl⟩ := hW0
 rw [g0] at e74
 have lb := ok.lb.nw (Kp.nw k1)
 have n1 : Nw w1 (w1.alloc (.cells #[.int .i64 X.x, .int .i64 X.y] 27)) := (Below.refl _ _).alloc (Nat.le_refl _) _
 refine wp_q 27 23 23 (.int .i64 0) (.int .i64 0) 16 under_pts under_pts Try.info27 (by decide) rfl _ (.tmp 64) (.tmp 74) hop (X.bx + 1) (.slice X.va X.vn X.vc) (vP X.l) (vP [(X.x, X.y)]) e64 (lb.own.nw n1) w1.heap.size 0 1 1 rfl e74 (liep_one w1 X.x X.y _).vv (vP_one _) (by simp [vP]) (by rw [vP_len]; have := ok.len; simp [vP]; omega) (by have := lb.lt; simp; omega) ?_
 intro g' c' w' h3 h4
 rw [vP_len] at h3 h4 ⊢
 rw [← vP_append] at h3
 exact hK _ _ ⟨w1, g', c', k1, rfl, h3, n1.ext h4⟩
theorem LR2.s14 (X : LR2) (ok : LR2Ok X) {Q : PQ} : LR2.St X Q 14 := by
 intro γ listed a w o hF hC hW h1 ho h2
 obtain ⟨hd, hop, hg⟩ := fieldsL LR2.isL (i := 14) rfl ho
 have e76 : a.eval (.tmp 76) = .pointer (some ⟨X.bx, 0, none⟩) := known hF ho h2 (LR2.ini ok) ok.sz (by kernel_rfl)
 have e75 : a.eval (.tmp 75) = γ 1 := known hF ho h2 (LR2.ini ok) ok.sz (by kernel_rfl)
 have hu := unl (hF.lt ho) h1
 refine st_actG (k := 2) LR2.chain LR2.nodup rfl hF hC hW h1 ho h2 (Or.inl hd) (injG (by kernel_rfl) hu) hg ?_
 intro hW0 K hK
 obtain ⟨w1, g, cc, k1, g1, o1, x1⟩ := hW0
 obtain ⟨t0, tf⟩ := (ok.lb.nw (Kp.nw k1)).there x1
 have hr : (execOp a.eval o).run Try.prog w = .ok .skip (w.setCell ⟨X.bx, 0, none⟩ (γ 1)) := by
  rw [g1] at e75 ⊢
  generalize a.eval = ρ at e75 e76 ⊢
  unfold execOp
  rw [hop]
  simp [e75, e76, t0, tf, go_sem]
 unfold Oper.wp
 rw [hr]
 exact hK undef _ ⟨w1, w, g, cc, k1, g1, o1, x1, rfl⟩
theorem LR2.size : (opsOf 18 Try.f60).size = 15 := by kernel_rfl
theorem LR2.rest (X : LR2) (ok : LR2Ok X) {Q : PQ} : ∀ i ∈ [1, 3, 5, 7, 9, 11, 12, 14], LR2.St X Q i := by
 simp only [List.forall_mem_cons]
 exact ⟨LR2.s1 X ok,
  LR2.s3 X ok,
  LR2.s5 X ok,
  LR2.s7 X ok,
  LR2.s9 X ok,
  LR2.s11 X ok,
  LR2.s12 X ok,
  LR2.s14 X ok, List.forall_mem_nil _⟩
theorem LR2.steps (X : LR2) (ok : LR2Ok X) {Q : PQ} (i : Nat) (hi : i < (opsOf 18 Try.f60).size) : LR2.St X Q i := by
 rw [LR2.size] at hi
 rcases (by decide : ∀ i, i < 15 → i ∈ [0, 2, 4, 6, 8, 10, 13] ∨ i ∈ [1, 3, 5, 7, 9, 11, 12, 14]) i hi with h | h
 · exact LR2.plain X ok i h
 · exact LR2.rest X ok i h
theorem LR2.run (X : LR2) (ok : LR2Ok X) {Q : PQ} (w : World) (h0 : X.Wd 0 (fun _ => undef) w.drew) (hend : ∀ (γ : Nat → Value) w', X.Wd 3 γ w' → Q .normal ((((((((((((((X.a0.put (some 63) (.pointer (some ⟨X.bx, 0, none⟩))).put (some 64) (.slice X.va X.vn X.vc)).put (some 65) (.pointer (some ⟨X.sb, 1, none⟩))).put (some 66) (.slice (some ⟨X.nb, X.no, none⟩) 2 X.nc)).put (some 67) (.pointer (some ⟨X.nb, X.no, none⟩))).put (some 68) (.int .i64 X.x)).put (some 69) (.pointer (some ⟨X.sb, 1, none⟩))).put (some 70) (.slice (some ⟨X.nb, X.no, none⟩) 2 X.nc)).put (some 71) (.pointer (some ⟨X.nb, X.no + 1, none⟩))).put (some 72) (.int .i64 X.y)).put (some 73) (.agg #[.int .i64 X.x, .int .i64 X.y])).put (some 74) (γ 0)).put (some 75) (γ 1)).put (some 76) (.pointer (some ⟨X.bx, 0, none⟩))) w') : (Code.region 18 (opsOf 18 Try.f60) true).wp Try.prog Q X.a0 w := by
 refine reg_act (acts := LR2.acts) (av := LR2.av) (val0 := X.val0) (Wd := X.Wd) (by kernel_rfl) (by kernel_rfl) (by rw [LR2.size]; decide) (fun i hi => LR2.steps X ok i hi) _ h0 ?_
 intro γ w' h
 exact end_at (hend γ w' h) (by kernel_rfl)
structure LR3 where
 bx : Nat
 sb : Nat
 g : Nat
 n : Nat
 m : Nat
 uc : Nat
 nb : Nat
 no : Nat
 nc : Nat
 lx : Int
 ly : Int
 x0 : Int
 y0 : Int
 x1 : Int
 y1 : Int
 x2 : Int
 y2 : Int
 W : World
 a0 : Act
structure LR3Ok (X : LR3) : Prop where
 cu : X.W.cell? ⟨X.bx, 0, none⟩ = some (.slice (some ⟨X.g, 0, none⟩) X.n X.uc)
 wm : IntKind.i64.wrap ((X.n : Int) - 1) = (X.m : Int)
 hm : X.m < X.n
 px : X.W.cell? ⟨X.g, X.m * 2, none⟩ = some (.int .i64 X.lx)
 py : X.W.cell? ⟨X.g, X.m * 2 + 1, none⟩ = some (.int .i64 X.ly)
 cs : X.W.cell? ⟨X.sb, 1, none⟩ = some (.slice (some ⟨X.nb, X.no, none⟩) 6 X.nc)
 cx0 : X.W.cell? ⟨X.nb, X.no, none⟩ = some (.int .i64 X.x0)
 cy0 : X.W.cell? ⟨X.nb, X.no + 1, none⟩ = some (.int .i64 X.y0)
 cx1 : X.W.cell? ⟨X.nb, X.no + 2, none⟩ = some (.int .i64 X.x1)
 cy1 : X.W.cell? ⟨X.nb, X.no + 3, none⟩ = some (.int .i64 X.y1)
 cx2 : X.W.cell? ⟨X.nb, X.no + 4, none⟩ = some (.int .i64 X.x2)
 cy2 : X.W.cell? ⟨X.nb, X.no + 5, none⟩ = some (.int .i64 X.y2)
 e4 : X.a0.eval (.tmp 4) = .pointer (some ⟨X.bx, 0, none⟩)
 e6 : X.a0.eval (.tmp 6) = .pointer (some ⟨X.sb, 0, none⟩)
 sz : X.a0.tmps.size = 137
def LR3.val0 (X : LR3) : Nat → Value
 | 4 => .pointer (some ⟨X.bx, 0, none⟩)
 | 6 => .pointer (some ⟨X.sb, 0, none⟩)
 | 79 => .pointer (some ⟨X.bx, 0, none⟩)
 | 80 => .slice (some ⟨X.g, 0, none⟩) X.n X.uc
 | 81 => .pointer (some ⟨X.bx, 0, none⟩)
 | 82 => .slice (some ⟨X.g, 0, none⟩) X.n X.uc
 | 83 => .int .i64 (X.n : Int)
 | 84 => .int .i64 (X.m : Int)
 | 85 => .pointer (some ⟨X.g, X.m * 2, none⟩)
 | 86 => .agg #[.int .i64 X.lx, .int .i64 X.ly]
 | 87 => .pointer (some ⟨X.sb, 1, none⟩)
 | 88 => .slice (some ⟨X.nb, X.no, none⟩) 6 X.nc
 | 89 => .pointer (some ⟨X.nb, X.no, none⟩)
 | 90 => .int .i64 X.x0
 | 91 => .pointer (some ⟨X.sb, 1, none⟩)
 | 92 => .slice (some ⟨X.nb, X.no, none⟩) 6 X.nc
 | 93 => .pointer (some ⟨X.nb, X.no + 1, none⟩)
 | 94 => .int .i64 X.y0
 | 95 => .agg #[.int .i64 X.x0, .int .i64 X.y0]
 | 96 => .pointer (some ⟨X.sb, 1, none⟩)
 | 97 => .slice (some ⟨X.nb, X.no, none⟩) 6 X.nc
 | 98 => .pointer (some ⟨X.nb, X.no + 2, none⟩)
 | 99 => .int .i64 X.x1
 | 100 => .pointer (some ⟨X.sb, 1, none⟩)
 | 101 => .slice (some ⟨X.nb, X.no, none⟩) 6 X.nc
 | 102 => .pointer (some ⟨X.nb, X.no + 3, none⟩)
 | 103 => .int .i64 X.y1
 | 104 => .agg #[.int .i64 X.x1, .int .i64 X.y1]
 | 105 => .pointer (some ⟨X.sb, 1, none⟩)
 | 106 => .slice (some ⟨X.nb, X.no, none⟩) 6 X.nc
 | 107 => .pointer (some ⟨X.nb, X.no + 4, none⟩)
 | 108 => .int .i64 X.x2
 | 109 => .pointer (some ⟨X.sb, 1, none⟩)
 | 110 => .slice (some ⟨X.nb, X.no, none⟩) 6 X.nc
 | 111 => .pointer (some ⟨X.nb, X.no + 5, none⟩)
 | 112 => .int .i64 X.y2
 | 113 => .agg #[.int .i64 X.x2, .int .i64 X.y2]
 | _ => undef
def LR3.av : Nat → Option Nat
 | 114 => some 0
 | 8 => some 1
 | _ => none
def LR3.acts : List Nat := [35, 36]
def LR3.Wd (X : LR3) : Nat → (Nat → Value) → World → Prop
  | 0, _, w => w = X.W
  | 1, γ, w => γ 0 = .slice (some ⟨X.W.heap.size, 0, none⟩) 4 4 ∧ w = X.W.alloc (.cells #[.int .i64 X.lx, .int .i64 X.ly, .int .i64 X.x0, .int .i64 X.y0, .int .i64 X.x1, .int .i64 X.y1, .int .i64 X.x2, .int .i64 X.y2] 27)
  | _, γ, w => γ 1 = .slice (some ⟨X.W.heap.size, 0, none⟩) 4 4 ∧ w = X.W.alloc (.cells #[.int .i64 X.lx, .int .i64 X.ly, .int .i64 X.x0, .int .i64 X.y0, .int .i64 X.x1, .int .i64 X.y1, .int .i64 X.x2, .int .i64 X.y2] 27)
theorem LR3.chain : chainG (opsOf 20 Try.f60) LR3.acts = true := by kernel_rfl
theorem LR3.nodup : LR3.acts.Nodup := by decide
def LR3.L : List (Option Nat × Op × Option (Nat × Bool)) := [
 (some 79, .fieldAddr 55 (.tmp 4) 0, none),
 (some 80, .load 23 (.tmp 79), none),
 (some 81, .fieldAddr 55 (.tmp 4) 0, none),
 (some 82, .load 23 (.tmp 81), none),
 (some 83, .call { callee := .builtin .len, args := #[(.tmp 82)], argTypes := #[23] }, none),
 (some 84, .binOp .sub 3 (.tmp 83) (.const (.int .i64 1)) 3, none),
 (some 85, .indexAddr 23 (.tmp 80) (.tmp 84), none),
 (some 86, .load 27 (.tmp 85), none),
 (some 87, .fieldAddr 98 (.tmp 6) 1, none),
 (some 88, .load 77 (.tmp 87), none),
 (some 89, .indexAddr 77 (.tmp 88) (.const (.int .i64 0)), none),
 (some 90, .load 3 (.tmp 89), none),
 (some 91, .fieldAddr 98 (.tmp 6) 1, none),
 (some 92, .load 77 (.tmp 91), none),
 (some 93, .indexAddr 77 (.tmp 92) (.const (.int .i64 1)), none),
 (some 94, .load 3 (.tmp 93), none),
 (some 95, .build 27 #[(0, (.tmp 90)), (1, (.tmp 94))], none),
 (some 96, .fieldAddr 98 (.tmp 6) 1, none),
 (some 97, .load 77 (.tmp 96), none),
 (some 98, .indexAddr 77 (.tmp 97) (.const (.int .i64 2)), none),
 (some 99, .load 3 (.tmp 98), none),
 (some 100, .fieldAddr 98 (.tmp 6) 1, none),
 (some 101, .load 77 (.tmp 100), none),
 (some 102, .indexAddr 77 (.tmp 101) (.const (.int .i64 3)), none),
 (some 103, .load 3 (.tmp 102), none),
 (some 104, .build 27 #[(0, (.tmp 99)), (1, (.tmp 103))], none),
 (some 105, .fieldAddr 98 (.tmp 6) 1, none),
 (some 106, .load 77 (.tmp 105), none),
 (some 107, .indexAddr 77 (.tmp 106) (.const (.int .i64 4)), none),
 (some 108, .load 3 (.tmp 107), none),
 (some 109, .fieldAddr 98 (.tmp 6) 1, none),
 (some 110, .load 77 (.tmp 109), none),
 (some 111, .indexAddr 77 (.tmp 110) (.const (.int .i64 5)), none),
 (some 112, .load 3 (.tmp 111), none),
 (some 113, .build 27 #[(0, (.tmp 108)), (1, (.tmp 112))], none),
 (some 114, .buildSlice 23 4 #[(0, (.tmp 86)), (1, (.tmp 95)), (2, (.tmp 104)), (3, (.tmp 113))], none),
 (some 8, .assign (.tmp 114), none)]
theorem LR3.isL : (opsOf 20 Try.f60).toList.map tri = LR3.L := by kernel_rfl
theorem LR3.ini {X : LR3} (ok : LR3Ok X) : ∀ n ∈ [4, 6], X.a0.eval (.tmp n) = X.val0 n := by
 simp only [List.forall_mem_cons]
 exact ⟨ok.e4, ok.e6, List.forall_mem_nil _⟩
abbrev LR3.St (X : LR3) (Q : PQ) (i : Nat) : Prop := StepG (opsOf 20 Try.f60) LR3.acts LR3.av X.val0 X.Wd X.a0 Q i
theorem LR3.plain (X : LR3) (ok : LR3Ok X) {Q : PQ} : ∀ i ∈ [0, 2, 4, 5, 6, 8, 10, 12, 14, 16, 17, 19, 21, 23, 25, 26, 28, 30, 32, 34], LR3.St X Q i := by
 simp only [List.forall_mem_cons]
 refine ⟨?_, ?_, ?_, ?_, ?_, ?_, ?_, ?_, ?_, ?_, ?_, ?_, ?_, ?_, ?_, ?_, ?_, ?_, ?_, ?_, List.forall_mem_nil _⟩
 all_goals
  refine st_plain LR3.isL (LR3.ini ok) ok.sz rfl (by kernel_rfl) ?_
  intro γ w n o hW hop
  unfold execOp
  rw [hop]
  simp [envR, valG, LR3.av, LR3.val0, ok.wm, ok.hm, go_sem]
theorem LR3.soon (X : LR3) (ok : LR3Ok X) {Q : PQ} : ∀ i ∈ [1, 3, 7, 9, 11, 13, 15, 18, 20, 22, 24, 27, 29, 31, 33], LR3.St X Q i := by
 simp only [List.forall_mem_cons]
 refine ⟨?_, ?_, ?_, ?_, ?_, ?_, ?_, ?_, ?_, ?_, ?_, ?_, ?_, ?_, ?_, List.forall_mem_nil _⟩
 all_goals
  refine st_plainM (m := 0) LR3.isL (LR3.ini ok) ok.sz rfl (by kernel_rfl) ?_
  intro γ w n o hn hW hop
  obtain rfl : n = 0 := by omega
  have hk : w = X.W := hW
  subst hk
  unfold execOp
  rw [hop]
  simp [envR, valG, LR3.av, LR3.val0, ok.cu, ok.px, ok.py, ok.cs, ok.cx0, ok.cy0, ok.cx1, ok.cy1, ok.cx2, ok.cy2, go_sem]
theorem LR3.s35 (X : LR3) (ok : LR3Ok X) {Q : PQ} : LR3.St X Q 35 := by
 intro γ listed a w o hF hC hW h1 ho h2
 obtain ⟨hd, hop, hg⟩ := fieldsL LR3.isL (i := 35) rfl ho
 have e86 : a.eval (.tmp 86) = .agg #[.int .i64 X.lx, .int .i64 X.ly] := known hF ho h2 (LR3.ini ok) ok.sz (by kernel_rfl)
 have e95 : a.eval (.tmp 95) = .agg #[.int .i64 X.x0, .int .i64 X.y0] := known hF ho h2 (LR3.ini ok) ok.sz (by kernel_rfl)
 have e104 : a.eval (.tmp 104) = .agg #[.int .i64 X.x1, .int .i64 X.y1] := known hF ho h2 (LR3.ini ok) ok.sz (by kernel_rfl)
 have e113 : a.eval (.tmp 113) = .agg #[.int .i64 X.x2, .int .i64 X.y2] := known hF ho h2 (LR3.ini ok) ok.sz (by kernel_rfl)
 have hu := unl (hF.lt ho) h1
 refine st_actG (k := 0) LR3.chain LR3.nodup rfl hF hC hW h1 ho h2 (Or.inr ⟨114, hd, rfl⟩) (injG (by kernel_rfl) hu) hg ?_
 intro hW0 K hK
 have hw0 : w = X.W := hW0
 have hr : (execOp a.eval o).run Try.prog X.W = .ok (.value (.slice (some ⟨X.W.heap.size, 0, none⟩) 4 4)) (X.W.alloc (.cells #[.int .i64 X.lx, .int .i64 X.ly, .int .i64 X.x0, .int .i64 X.y0, .int .i64 X.x1, .int .i64 X.y1, .int .i64 X.x2, .int .i64 X.y2] 27)) := by
  generalize a.eval = ρ at e86 e95 e104 e113 ⊢
  unfold execOp
  rw [hop]
  simp [e86, e95, e104, e113, go_sem]
 unfold Oper.wp
 rw [hw0, hr]
 exact hK _ _ ⟨rfl, rfl⟩
theorem LR3.s36 (X : LR3) (ok : LR3Ok X) {Q : PQ} : LR3.St X Q 36 := by
 intro γ listed a w o hF hC hW h1 ho h2
 obtain ⟨hd, hop, hg⟩ := fieldsL LR3.isL (i := 36) rfl ho
 have e114 : a.eval (.tmp 114) = γ 0 := known hF ho h2 (LR3.ini ok) ok.sz (by kernel_rfl)
 have hu := unl (hF.lt ho) h1
 refine st_actG (k := 1) LR3.chain LR3.nodup rfl hF hC hW h1 ho h2 (Or.inr ⟨8, hd, rfl⟩) (injG (by kernel_rfl) hu) hg ?_
 intro hW0 K hK
 obtain ⟨g0, hw1⟩ := hW0
 rw [g0] at e114
 have hr : (execOp a.eval o).run Try.prog w = .ok (.value (.slice (some ⟨X.W.heap.size, 0, none⟩) 4 4)) w := by
  generalize a.eval = ρ at e114 ⊢
  unfold execOp
  rw [hop]
  simp [e114, go_sem]
 unfold Oper.wp
 rw [hr]
 exact hK _ _ ⟨rfl, hw1⟩
theorem LR3.size : (opsOf 20 Try.f60).size = 37 := by kernel_rfl
theorem LR3.rest (X : LR3) (ok : LR3Ok X) {Q : PQ} : ∀ i ∈ [35, 36], LR3.St X Q i := by
 simp only [List.forall_mem_cons]
 exact ⟨LR3.s35 X ok,
  LR3.s36 X ok, List.forall_mem_nil _⟩
theorem LR3.steps (X : LR3) (ok : LR3Ok X) {Q : PQ} (i : Nat) (hi : i < (opsOf 20 Try.f60).size) : LR3.St X Q i := by
 rw [LR3.size] at hi
 rcases (by decide : ∀ i, i < 37 → i ∈ [0, 2, 4, 5, 6, 8, 10, 12, 14, 16, 17, 19, 21, 23, 25, 26, 28, 30, 32, 34] ∨ i ∈ [1, 3, 7, 9, 11, 13, 15, 18, 20, 22, 24, 27, 29, 31, 33] ∨ i ∈ [35, 36]) i hi with h | h | h
 · exact LR3.plain X ok i h
 · exact LR3.soon X ok i h
 · exact LR3.rest X ok i h
theorem LR3.run (X : LR3) (ok : LR3Ok X) {Q : PQ} (w : World) (h0 : X.Wd 0 (fun _ => undef) w.drew) (hend : ∀ (γ : Nat → Value) w', X.Wd 2 γ w' → Q .normal (((((((((((((((((((((((((((((((((((((X.a0.put (some 79) (.pointer (some ⟨X.bx, 0, none⟩))).put (some 80) (.slice (some ⟨X.g, 0, none⟩) X.n X.uc)).put (some 81) (.pointer (some ⟨X.bx, 0, none⟩))).put (some 82) (.slice (some ⟨X.g, 0, none⟩) X.n X.uc)).put (some 83) (.int .i64 (X.n : Int))).put (some 84) (.int .i64 (X.m : Int))).put (some 85) (.pointer (some ⟨X.g, X.m * 2, none⟩))).put (some 86) (.agg #[.int .i64 X.lx, .int .i64 X.ly])).put (some 87) (.pointer (some ⟨X.sb, 1, none⟩))).put (some 88) (.slice (some ⟨X.nb, X.no, none⟩) 6 X.nc)).put (some 89) (.pointer (some ⟨X.nb, X.no, none⟩))).put (some 90) (.int .i64 X.x0)).put (some 91) (.pointer (some ⟨X.sb, 1, none⟩))).put (some 92) (.slice (some ⟨X.nb, X.no, none⟩) 6 X.nc)).put (some 93) (.pointer (some ⟨X.nb, X.no + 1, none⟩))).put (some 94) (.int .i64 X.y0)).put (some 95) (.agg #[.int .i64 X.x0, .int .i64 X.y0])).put (some 96) (.pointer (some ⟨X.sb, 1, none⟩))).put (some 97) (.slice (some ⟨X.nb, X.no, none⟩) 6 X.nc)).put (some 98) (.pointer (some ⟨X.nb, X.no + 2, none⟩))).put (some 99) (.int .i64 X.x1)).put (some 100) (.pointer (some ⟨X.sb, 1, none⟩))).put (some 101) (.slice (some ⟨X.nb, X.no, none⟩) 6 X.nc)).put (some 102) (.pointer (some ⟨X.nb, X.no + 3, none⟩))).put (some 103) (.int .i64 X.y1)).put (some 104) (.agg #[.int .i64 X.x1, .int .i64 X.y1])).put (some 105) (.pointer (some ⟨X.sb, 1, none⟩))).put (some 106) (.slice (some ⟨X.nb, X.no, none⟩) 6 X.nc)).put (some 107) (.pointer (some ⟨X.nb, X.no + 4, none⟩))).put (some 108) (.int .i64 X.x2)).put (some 109) (.pointer (some ⟨X.sb, 1, none⟩))).put (some 110) (.slice (some ⟨X.nb, X.no, none⟩) 6 X.nc)).put (some 111) (.pointer (some ⟨X.nb, X.no + 5, none⟩))).put (some 112) (.int .i64 X.y2)).put (some 113) (.agg #[.int .i64 X.x2, .int .i64 X.y2])).put (some 114) (γ 0)).put (some 8) (γ 1)) w') : (Code.region 20 (opsOf 20 Try.f60) true).wp Try.prog Q X.a0 w := by
 refine reg_act (acts := LR3.acts) (av := LR3.av) (val0 := X.val0) (Wd := X.Wd) (by kernel_rfl) (by kernel_rfl) (by rw [LR3.size]; decide) (fun i hi => LR3.steps X ok i hi) _ h0 ?_
 intro γ w' h
 exact end_at (hend γ w' h) (by kernel_rfl)
structure LR4 where
 bx : Nat
 va : Option Addr
 vn : Nat
 vc : Nat
 l : List Pnt
 cl : Bool
 ge : Nat
 k : Int
 x : Int
 y : Int
 W : World
 a0 : Act
structure LR4Ok (X : LR4) : Prop where
 lb : LnB X.bx X.W (.slice X.va X.vn X.vc) X.l X.cl
 len : X.l.length + 1 ≤ 1000000
 hv : ∀ w, Kp X.W w → Calls Try.prog 47 #[.slice (some ⟨X.ge, 0, none⟩) 4 4, .int .i64 X.k] w fun e w' => e = .returned (.agg #[.int .i64 X.x, .int .i64 X.y]) ∧ Kp w w'
 e4 : X.a0.eval (.tmp 4) = .pointer (some ⟨X.bx, 0, none⟩)
 e8 : X.a0.eval (.tmp 8) = .slice (some ⟨X.ge, 0, none⟩) 4 4
 e9 : X.a0.eval (.tmp 9) = .int .i64 X.k
 sz : X.a0.tmps.size = 137
def LR4.val0 (X : LR4) : Nat → Value
 | 4 => .pointer (some ⟨X.bx, 0, none⟩)
 | 8 => .slice (some ⟨X.ge, 0, none⟩) 4 4
 | 9 => .int .i64 X.k
 | 119 => .pointer (some ⟨X.bx, 0, none⟩)
 | 120 => .slice X.va X.vn X.vc
 | 121 => .slice (some ⟨X.ge, 0, none⟩) 4 4
 | 122 => .int .i64 X.k
 | 123 => .agg #[.int .i64 X.x, .int .i64 X.y]
 | 126 => .pointer (some ⟨X.bx, 0, none⟩)
 | _ => undef
def LR4.av : Nat → Option Nat
 | 124 => some 0
 | 125 => some 1
 | _ => none
def LR4.acts : List Nat := [5, 6, 8]
def LR4.Wd (X : LR4) : Nat → (Nat → Value) → World → Prop
  | 0, _, w => Kp X.W w
  | 1, γ, w => ∃ w1, Kp X.W w1 ∧ γ 0 = .slice (some ⟨w1.heap.size, 0, none⟩) 1 1 ∧ w = w1.alloc (.cells #[.int .i64 X.x, .int .i64 X.y] 27)
  | 2, γ, w => ∃ w1 g c, Kp X.W w1 ∧ γ 1 = .slice (some ⟨g, 0, none⟩) (X.l.length + 1) c ∧ OwnP w (X.bx + 1) (γ 1) (X.l ++ [(X.x, X.y)]) ∧ Ext (.slice X.va X.vn X.vc) (γ 1) w1 w
  | _, γ, w => ∃ w1 w2 g c, Kp X.W w1 ∧ γ 1 = .slice (some ⟨g, 0, none⟩) (X.l.length + 1) c ∧ OwnP w2 (X.bx + 1) (γ 1) (X.l ++ [(X.x, X.y)]) ∧ Ext (.slice X.va X.vn X.vc) (γ 1) w1 w2 ∧ w = w2.setCell ⟨X.bx, 0, none⟩ (γ 1)
theorem LR4.chain : chainG (opsOf 24 Try.f60) LR4.acts = true := by kernel_rfl
theorem LR4.nodup : LR4.acts.Nodup := by decide
def LR4.L : List (Option Nat × Op × Option (Nat × Bool)) := [
 (some 119, .fieldAddr 55 (.tmp 4) 0, none),
 (some 120, .load 23 (.tmp 119), none),
 (some 121, .move (.tmp 8), none),
 (some 122, .move (.tmp 9), none),
 (some 123, .call { callee := .value (.func 47), args := #[(.tmp 121), (.tmp 122)], argTypes := #[23, 3] }, none),
 (some 124, .buildSlice 23 1 #[(0, (.tmp 123))], none),
 (some 125, .call { callee := .builtin .append, args := #[(.tmp 120), (.tmp 124)], argTypes := #[23, 23] }, none),
 (some 126, .fieldAddr 55 (.tmp 4) 0, none),
 (none, .store 23 (.tmp 126) (.tmp 125), none)]
theorem LR4.isL : (opsOf 24 Try.f60).toList.map tri = LR4.L := by kernel_rfl
theorem LR4.ini {X : LR4} (ok : LR4Ok X) : ∀ n ∈ [4, 8, 9], X.a0.eval (.tmp n) = X.val0 n := by
 simp only [List.forall_mem_cons]
 exact ⟨ok.e4, ok.e8, ok.e9, List.forall_mem_nil _⟩
abbrev LR4.St (X : LR4) (Q : PQ) (i : Nat) : Prop := StepG (opsOf 24 Try.f60) LR4.acts LR4.av X.val0 X.Wd X.a0 Q i
theorem LR4.plain (X : LR4) (ok : LR4Ok X) {Q : PQ} : ∀ i ∈ [0, 2, 3, 7], LR4.St X Q i := by
 simp only [List.forall_mem_cons]
 refine ⟨?_, ?_, ?_, ?_, List.forall_mem_nil _⟩
 all_goals
  refine st_plain LR4.isL (LR4.ini ok) ok.sz rfl (by kernel_rfl) ?_
  intro γ w n o hW hop
  unfold execOp
  rw [hop]
  simp [envR, valG, LR4.av, LR4.val0, go_sem]
theorem LR4.s1 (X : LR4) (ok : LR4Ok X) {Q : PQ} : LR4.St X Q 1 := by
 intro γ listed a w o hF hC hW h1 ho h2
 obtain ⟨hd, hop, hg⟩ := fieldsL LR4.isL (i := 1) rfl ho
 have e119 : a.eval (.tmp 119) = .pointer (some ⟨X.bx, 0, none⟩) := known hF ho h2 (LR4.ini ok) ok.sz (by kernel_rfl)
 have hph := phase_leG (acts := LR4.acts) (m := 1) (x := 6) hC (unl (hF.lt ho) h1) rfl [1] (by kernel_rfl) (by decide)
 have hWW := hW
 generalize phase listed LR4.acts = n at hph hWW
 have hk : Nw X.W w := by
  rcases (show n = 0 ∨ n = 1 by omega) with rfl | rfl
  ·exact hWW.nw
  ·obtain ⟨w1, k1, _, rfl⟩ := hWW
   exact Nw.trans k1.nw ((Below.refl _ _).alloc (Nat.le_refl _) _)
 have hc := (ok.lb.nw hk).c0
 refine st_pureG hF hC hW ho h2 (by decide) hd hg rfl ?_
 show _ = Result.ok (Next.value (.slice X.va X.vn X.vc)) w
 generalize a.eval = ρ at e119 ⊢
 unfold execOp
 rw [hop]
 simp [e119, hc, go_sem]
theorem LR4.s4 (X : LR4) (ok : LR4Ok X) {Q : PQ} : LR4.St X Q 4 := by
 intro γ listed a w o hF hC hW h1 ho h2
 obtain ⟨hd, hop, hg⟩ := fieldsL LR4.isL (i := 4) rfl ho
 have e121 : a.eval (.tmp 121) = .slice (some ⟨X.ge, 0, none⟩) 4 4 := known hF ho h2 (LR4.ini ok) ok.sz (by kernel_rfl)
 have e122 : a.eval (.tmp 122) = .int .i64 X.k := known hF ho h2 (LR4.ini ok) ok.sz (by kernel_rfl)
 have ef : a.eval (.func 47) = .func (.func 47) #[] #[] := rfl
 refine st_callG hF hC hW ho h2 (by decide) hd hg rfl (f := 47) (args := #[.slice (some ⟨X.ge, 0, none⟩) 4 4, .int .i64 X.k]) ?_ ?_ ?_
 · generalize a.eval = ρ at e121 e122 ef ⊢
   unfold execOp
   rw [hop]
   simp [e121, e122, ef, go_sem]
 ·exact ok.hv w (by
   have := phase_leG (acts := LR4.acts) (m := 0) (x := 5) hC (unl (hF.lt ho) h1) rfl [4] (by kernel_rfl) (by decide)
   have hz : phase listed LR4.acts = 0 := by omega
   rw [hz] at hW
   exact hW)
 ·intro w' hk
  have hz : phase listed LR4.acts = 0 := by
   have := phase_leG (acts := LR4.acts) (m := 0) (x := 5) hC (unl (hF.lt ho) h1) rfl [4] (by kernel_rfl) (by decide)
   omega
  rw [hz] at hW ⊢
  exact Kp.trans hW hk
theorem LR4.s5 (X : LR4) (ok : LR4Ok X) {Q : PQ} : LR4.St X Q 5 := by
 intro γ listed a w o hF hC hW h1 ho h2
 obtain ⟨hd, hop, hg⟩ := fieldsL LR4.isL (i := 5) rfl ho
 have e123 : a.eval (.tmp 123) = .agg #[.int .i64 X.x, .int .i64 X.y] := known hF ho h2 (LR4.ini ok) ok.sz (by kernel_rfl)
 have hu := unl (hF.lt ho) h1
 refine st_actG (k := 0) LR4.chain LR4.nodup rfl hF hC hW h1 ho h2 (Or.inr ⟨124, hd, rfl⟩) (injG (by kernel_rfl) hu) hg ?_
 intro hW0 K hK
 have hr : (execOp a.eval o).run Try.prog w = .ok (.value (.slice (some ⟨w.heap.size, 0, none⟩) 1 1)) (w.alloc (.cells #[.int .i64 X.x, .int .i64 X.y] 27)) := by
  generalize a.eval = ρ at e123 ⊢
  unfold execOp
  rw [hop]
  simp [e123, go_sem]
 unfold Oper.wp
 rw [hr]
 exact hK _ _ ⟨w, hW0, rfl, rfl⟩
theorem LR4.s6 (X : LR4) (ok : LR4Ok X) {Q : PQ} : LR4.St X Q 6 := by
 intro γ listed a w o hF hC hW h1 ho h2
 obtain ⟨hd, hop, hg⟩ := fieldsL LR4.isL (i := 6) rfl ho
 have e120 : a.eval (.tmp 120) = .slice X.va X.vn X.vc := known hF ho h2 (LR4.ini ok) ok.sz (by kernel_rfl)
 have e124 : a.eval (.tmp 124) = γ 0 := known hF ho h2 (LR4.ini ok) ok.sz (by kernel_rfl)
 have hu := unl (hF.lt ho) h1
 refine st_actG (k := 1) LR4.chain LR4.nodup rfl hF hC hW h1 ho h2 (Or.inr ⟨125, hd, rfl⟩) (injG (by kernel_rfl) hu) hg ?_
 intro hW0 K hK
 obtain ⟨w1, k1, g0, rfl⟩ := hW0
 rw [g0] at e124
 have lb := ok.lb.nw (Kp.nw k1)
 have n1 : Nw w1 (w1.alloc (.cells #[.int .i64 X.x, .int .i64 X.y] 27)) := (Below.refl _ _).alloc (Nat.le_refl _) _
 refine wp_q 27 23 23 (.int .i64 0) (.int .i64 0) 16 under_pts under_pts Try.info27 (by decide) rfl _ (.tmp 120) (.tmp 124) hop (X.bx + 1) (.slice X.va X.vn X.vc) (vP X.l) (vP [(X.x, X.y)]) e120 (lb.own.nw n1) w1.heap.size 0 1 1 rfl e124 (liep_one w1 X.x X.y _).vv (vP_one _) (by simp [vP]) (by rw [vP_len]; have := ok.len; simp [vP]; omega) (by have := lb.lt; simp; omega) ?_
 intro g' c' w' h3 h4
 rw [vP_len] at h3 h4 ⊢
 rw [← vP_append] at h3
 exact hK _ _ ⟨w1, g', c', k1, rfl, h3, n1.ext h4⟩
theorem LR4.s8 (X : LR4) (ok : LR4Ok X) {Q : PQ} : LR4.St X Q 8 := by
 intro γ listed a w o hF hC hW h1 ho h2
 obtain ⟨hd, hop, hg⟩ := fieldsL LR4.isL (i := 8) rfl ho
 have e126 : a.eval (.tmp 126) = .pointer (some ⟨X.bx, 0, none⟩) := known hF ho h2 (LR4.ini ok) ok.sz (by kernel_rfl)
 have e125 : a.eval (.tmp 125) = γ 1 := known hF ho h2 (LR4.ini ok) ok.sz (by kernel_rfl)
 have hu := unl (hF.lt ho) h1
 refine st_actG (k := 2) LR4.chain LR4.nodup rfl hF hC hW h1 ho h2 (Or.inl hd) (injG (by kernel_rfl) hu) hg ?_
 intro hW0 K hK
 obtain ⟨w1, g, cc, k1, g1, o1, x1⟩ := hW0
 obtain ⟨t0, tf⟩ := (ok.lb.nw (Kp.nw k1)).there x1
 have hr : (execOp a.eval o).run Try.prog w = .ok .skip (w.setCell ⟨X.bx, 0, none⟩ (γ 1)) := by
  rw [g1] at e125 ⊢
  generalize a.eval = ρ at e125 e126 ⊢
  unfold execOp
  rw [hop]
  simp [e125, e126, t0, tf, go_sem]
 unfold Oper.wp
 rw [hr]
 exact hK undef _ ⟨w1, w, g, cc, k1, g1, o1, x1, rfl⟩
theorem LR4.size : (opsOf 24 Try.f60).size = 9 := by kernel_rfl
theorem LR4.rest (X : LR4) (ok : LR4Ok X) {Q : PQ} : ∀ i ∈ [1, 4, 5, 6, 8], LR4.St X Q i := by
 simp only [List.forall_mem_cons]
 exact ⟨LR4.s1 X ok,
  LR4.s4 X ok,
  LR4.s5 X ok,
  LR4.s6 X ok,
  LR4.s8 X ok, List.forall_mem_nil _⟩
theorem LR4.steps (X : LR4) (ok : LR4Ok X) {Q : PQ} (i : Nat) (hi : i < (opsOf 24 Try.f60).size) : LR4.St X Q i := by
 rw [LR4.size] at hi
 rcases (by decide : ∀ i, i < 9 → i ∈ [0, 2, 3, 7] ∨ i ∈ [1, 4, 5, 6, 8]) i hi with h | h
 · exact LR4.plain X ok i h
 · exact LR4.rest X ok i h
theorem LR4.run (X : LR4) (ok : LR4Ok X) {Q : PQ} (w : World) (h0 : X.Wd 0 (fun _ => undef) w.drew) (hend : ∀ (γ : Nat → Value) w', X.Wd 3 γ w' → Q .normal ((((((((X.a0.put (some 119) (.pointer (some ⟨X.bx, 0, none⟩))).put (some 120) (.slice X.va X.vn X.vc)).put (some 121) (.slice (some ⟨X.ge, 0, none⟩) 4 4)).put (some 122) (.int .i64 X.k)).put (some 123) (.agg #[.int .i64 X.x, .int .i64 X.y])).put (some 124) (γ 0)).put (some 125) (γ 1)).put (some 126) (.pointer (some ⟨X.bx, 0, none⟩))) w') : (Code.region 24 (opsOf 24 Try.f60) true).wp Try.prog Q X.a0 w := by
 refine reg_act (acts := LR4.acts) (av := LR4.av) (val0 := X.val0) (Wd := X.Wd) (by kernel_rfl) (by kernel_rfl) (by rw [LR4.size]; decide) (fun i hi => LR4.steps X ok i hi) _ h0 ?_
 intro γ w' h
 exact end_at (hend γ w' h) (by kernel_rfl)
theorem one_line {w : World} {B : Nat} {u : Value} {ld : LD} {l : List Pnt} (h : OwnP w B u l) : ∀ x ∈ flat2 (vLn [(u, ld)]), x.oneCell' = true := by
 obtain ⟨a, n, c, rfl⟩ := OwnQ.slice h
 intro x hx
 simp only [vLn, List.map_cons, List.map_nil, flat2, List.mem_cons, List.not_mem_nil, or_false] at hx
 rcases hx with rfl | rfl <;> rfl
theorem ints_two {w : World} {na : Option Addr} {ns : List Int} (h : Ints w na ns) (hn : ns.length = 2) : ∃ nb no x y, na = some ⟨nb, no, none⟩ ∧ nb < w.heap.size ∧ ns = [x, y] ∧ w.cell? ⟨nb, no, none⟩ = some (.int .i64 x) ∧ w.cell? ⟨nb, no + 1, none⟩ = some (.int .i64 y) := by
 obtain ⟨x, y, rfl⟩ := ns_two hn
 rcases h with h | ⟨b, off, rfl, hb, hc⟩
 ·cases h
 ·exact ⟨b, off, x, y, rfl, hb, rfl, hc 0 (by simp), hc 1 (by simp)⟩
theorem ints_six {w : World} {na : Option Addr} {ns : List Int} (h : Ints w na ns) (hn : ns.length = 6) : ∃ nb no x0 y0 x1 y1 x2 y2, na = some ⟨nb, no, none⟩ ∧ nb < w.heap.size ∧ ns = [x0, y0, x1, y1, x2, y2] ∧ w.cell? ⟨nb, no, none⟩ = some (.int .i64 x0) ∧ w.cell? ⟨nb, no + 1, none⟩ = some (.int .i64 y0) ∧ w.cell? ⟨nb, no + 2, none⟩ = some (.int .i64 x1) ∧ w.cell? ⟨nb, no + 3, none⟩ = some (.int .i64 y1) ∧ w.cell? ⟨nb, no + 4, none⟩ = some (.int .i64 x2) ∧ w.cell? ⟨nb, no + 5, none⟩ = some (.int .i64 y2) := by
 obtain ⟨a, b, c, d, e, f, rfl⟩ := ns_six hn
 rcases h with h | ⟨g, off, rfl, hb, hc⟩
 ·cases h
 ·exact ⟨g, off, a, b, c, d, e, f, rfl, hb, rfl, hc 0 (by simp), hc 1 (by simp), hc 2 (by simp), hc 3 (by simp), hc 4 (by simp), hc 5 (by simp)⟩
theorem pts_four (w : World) (t : TypeId) (a b c d e f g h : Int) : Pts (w.alloc (.cells #[.int .i64 a, .int .i64 b, .int .i64 c, .int .i64 d, .int .i64 e, .int .i64 f, .int .i64 g, .int .i64 h] t)) (some ⟨w.heap.size, 0, none⟩) [(a, b), (c, d), (e, f), (g, h)] := by
 refine Or.inr ⟨w.heap.size, 0, rfl, by simp, fun i hi => ?_⟩
 have hi : i < 4 := hi
 rcases (show i = 0 ∨ i = 1 ∨ i = 2 ∨ i = 3 by omega) with rfl | rfl | rfl | rfl <;> exact ⟨World.cell?_alloc_at _ _ _ _ rfl, World.cell?_alloc_at _ _ _ _ rfl⟩
structure MdL (w : World) (sb : Nat) (x y : Value) (w5 : World) (v : Value) (it : Its) (u : Value) (cl : Bool) : Prop where
 ln : OwnLn w5 (w.heap.size + 1) v it
 c0 : w5.cell? ⟨w.heap.size, 0, none⟩ = some u
 c1 : w5.cell? ⟨w.heap.size, 1, none⟩ = some (.bool cl)
 fr : ∀ o, w5.frozen? ⟨w.heap.size, o, none⟩ = false
 bs : Bs sb x y w5
 ne : sb ≠ w.heap.size
 nw : Nw w w5
theorem MdL.nx {w : World} {sb : Nat} {x y : Value} {w5 w6 : World} {v : Value} {it : Its} {u : Value} {cl : Bool} (h : MdL w sb x y w5 v it u cl) (k : Nw w5 w6) : MdL w sb x y w6 v it u cl := by
 have hb := World.block_lt_of_cell? w5 ⟨w.heap.size, 0, none⟩ h.c0
 exact ⟨h.ln.nw k, ((bcell k).1 _ _ hb).trans h.c0, ((bcell k).1 _ _ hb).trans h.c1, fun o => ((bcell k).2 _ _ hb).trans (h.fr o), h.bs.nw k, h.ne, Nw.trans h.nw k⟩
def MdE (w : World) (sb : Nat) (x y : Value) (w6 : World) (v : Value) (o : List LD) (pp : List Pnt) : Prop := ∃ it u, LW w.heap.size w6 v it u pp false ∧ it.map (·.2) = o ∧ Bs sb x y w6 ∧ Nw w w6
theorem MdL.done {w : World} {sb : Nat} {x y : Value} {w5 : World} {v : Value} {it : Its} {u : Value} {cl : Bool} (h : MdL w sb x y w5 v it u cl) (a b : Int) :
  MdE w sb x y (((w5.alloc (.cells #[.int .i64 a, .int .i64 b] 27)).setCell ⟨w.heap.size, 0, none⟩ (.slice (some ⟨w5.heap.size, 0, none⟩) 1 1)).setCell ⟨w.heap.size, 1, none⟩ (.bool false)) v (it.map (·.2)) [(a, b)] := by
 obtain ⟨d1, d2⟩ := LW.cut h.ln h.c0 h.c1 h.fr a b
 have n1 : Nw w5 (w5.alloc (.cells #[.int .i64 a, .int .i64 b] 27)) := (Below.refl _ _).alloc (Nat.le_refl _) _
 exact ⟨it, _, d1, rfl, Bs.set (Bs.set (h.bs.nw n1) (fun e => h.ne e.symm)) (fun e => h.ne e.symm), Below.trans h.nw d2⟩
set_option maxRecDepth 100000 in
set_option maxHeartbeats 16000000 in
theorem slines (w : World) (a : Option Addr) (c : Nat) (l : List SD) (hl : l.length ≤ 60) (hok : ∀ i, i < l.length → stOk l i = true) (hr : Steps w a l) :
  Calls Try.prog 60 #[.slice a l.length c] w fun e w' => ∃ v, e = .returned v ∧ LsOk w' w.heap.size v (lnsP l) ∧ Nw w w' := by
 have HR : Hid (Steps w a l) := hr
 have HOK : Hid _ := hok
 obtain ⟨n, hn⟩ : ∃ n, l.length = n := ⟨_, rfl⟩
 have HN : Hid (l.length = n) := hn
 rw [hn] at hl ⊢
 clear hr hok hn
 obtain ⟨W, hW⟩ : ∃ W, w.alloc (.cells #[.slice none 0 0, .bool false] 55) = W := ⟨_, rfl⟩
 have L0 : Hid (LW w.heap.size W (.slice none 0 0) [] (.slice none 0 0) [] false) := by show LW _ _ _ _ _ _ _; rw [← hW]; exact LW.new w _
 have N0 : Hid (Nw w W) := by show Nw _ _; rw [← hW]; exact (Below.refl _ _).alloc (Nat.le_refl _) _
 have HW : Hid (_ = W) := hW
 clear hW
 go_enter Try.func60, Try.ntmps60
 go_wp2
 rw [HW.out]
 go_loopw [3, 13] (fun v i wr => ∃ k : Nat, k ≤ n ∧ i = .int .i64 (k : Int) ∧ (∃ it u p cl, LW w.heap.size wr v it u p cl ∧ RelS (stS l k) (it.map (·.2)) p cl) ∧ Nw w wr) (fun _ i _ => n - (intOf i).toNat)
 case atStart => exact ⟨0, Nat.zero_le _, rfl, ⟨_, _, _, _, L0.out, rfl⟩, N0.out⟩
 case round =>
  obtain ⟨k, hk, rfl, ⟨it, u, p, cl, hlw, hrel⟩, hw⟩ := hrel
  obtain ⟨va, vc, hv⟩ := D2.vln hlw.d
  obtain ⟨ua, uc, hu⟩ := D2.val hlw.d
  subst hv hu
  have HLW : Hid (LW w.heap.size wr (.slice va it.length vc) it (.slice ua p.length uc) p cl) := hlw
  have HREL : Hid (RelS (stS l k) (it.map (·.2)) p cl) := hrel
  have HWR : Hid (Nw w wr) := hw
  obtain ⟨s1, s2, s3, s4⟩ := stS_bd HOK.out k (by rw [HN.out]; exact hk)
  obtain ⟨r1, r2⟩ := rel_bd hrel s1 s3
  rw [List.length_map] at r2
  have HB1 : Hid (p.length ≤ 541 ∧ it.length ≤ 60) := ⟨by omega, by omega⟩
  have HS4 : Hid (0 < k → 0 < (stS l k).p.length) := s4
  have HS2 : Hid ((stS l k).p.length ≤ 540) := by show _ ≤ _; omega
  clear hlw hrel hw s1 s2 s3 s4 r1 r2
  by_cases hlt : k < n
  ·obtain ⟨k1, k2, k3, k4⟩ := stOk_some (HOK.out k (by rw [HN.out]; exact hlt))
   have HNX : Hid (stS l (k + 1) = drS (stS l k) (stAt l k)) := rfl
   rcases Steps.nw HR.out HWR.out with h | ⟨b, off, rfl, hb, hc⟩
   ·have := HN.out; rw [h] at this; simp at this; omega
   obtain ⟨q0, na, nc, q1, qi⟩ := hc k (by rw [HN.out]; exact hlt)
   clear hc
   have HI1 : Hid (Ints w na (stAt l k).ns) := by
    rcases HR.out with h | ⟨b', off', e', hb', hc'⟩
    ·have := HN.out; rw [h] at this; simp at this; omega
    ·injection e' with e'; injection e' with e1 e2
     subst e1 e2
     obtain ⟨q0', na', nc', q1', qi'⟩ := hc' k (by rw [HN.out]; exact hlt)
     have := ((bcell HWR.out).1 _ _ hb').trans q1'
     rw [q1] at this
     injection this with this; injection this with t1 t2 t3
     subst t1
     exact qi'
   clear qi
   have HG : Hid ((stS l k).p.length = (stS l k).p.length ∧ ptsB (stS l k).p = true) := ⟨rfl, (stS_good HOK.out k (by rw [HN.out]; exact hk)).2⟩
   generalize hst : stAt l k = st at *
   obtain ⟨kd, ns⟩ := st
   simp only at q0 q1 k1 k2 k3 k4 HI1
   have HKK : Hid (kdB kd = true ∧ (ns.length : Int) = kdN kd ∧ ns.all fixB = true ∧ (k ≠ 0 ∨ kd = 1)) := ⟨k1, k2, k3, k4⟩
   clear k1 k2 k3 k4 hst
   generalize stS l k = d at *
   obtain ⟨W2, hW2⟩ : ∃ W2, wr.alloc (.cells #[.int .i64 kd, .slice na ns.length nc] 98) = W2 := ⟨_, rfl⟩
   have N2 : Hid (Nw wr W2) := by show Nw _ _; rw [← hW2]; exact (Below.refl _ _).alloc (Nat.le_refl _) _
   have B2 : Hid (Bs wr.heap.size (.int .i64 kd) (.slice na ns.length nc) W2) := by show Bs _ _ _ _; rw [← hW2]; exact Bs.new wr _ _ _
   have HW2 : Hid (_ = W2) := hW2
   clear hW2
   have HVL : Hid (∀ b, (Value.slice va it.length vc).ownBlock = some b → b < wr.heap.size) := fun b e => (OwnQ.lt HLW.out.d.ln.own b e).2
   have HSB : Hid (w.heap.size < wr.heap.size) := HLW.out.lt
   obtain ⟨kb, hkb⟩ : ∃ kb, (kd == 1) = kb := ⟨_, rfl⟩
   have HKB : Hid ((kd == 1) = kb) := hkb
   obtain ⟨ck, hck⟩ : ∃ ck, (cl || kb) = ck := ⟨_, rfl⟩
   have HCK : Hid ((cl || kb) = ck) := hck
   have HP0 : Hid (∀ pp oo, (⟨oo, pp⟩ : DS) = cutS (it.map (·.2)) p cl ck → ck = (cl || kb)) := fun _ _ _ => hck.symm
   clear hck hkb
   generalize hsb : wr.heap.size = sb at *
   have HSE : Hid (wr.heap.size = sb) := hsb
   go_upto_region 6 with fail
   rw [HW2.out]
   try rw [HSE.out]
   clear q0 q1 hb hsb
   have LW2 : Hid (LW w.heap.size W2 (.slice va it.length vc) it (.slice ua p.length uc) p cl) := LW.nw HLW.out N2.out
   have c0 := LW2.out.b.c0
   have c1 := LW2.out.b.c1
   have fr := LW2.out.b.free
   have t0 := B2.out.1
   have NW2 : Hid (Nw w W2) := Nw.trans HWR.out N2.out
   clear HLW HW2
   generalize hnp : p.length = np at *
   have HNP : Hid (p.length = np) := hnp
   generalize hni : it.length = ni at *
   have HNI : Hid (it.length = ni) := hni
   generalize hnn : ns.length = nn at *
   have HNN : Hid (ns.length = nn) := hnn
   clear hnp hni hnn
   go_cut [23] (fun b wx => b = .bool ck ∧ W2 = wx)
   case first =>
    have hkb := HKB.out
    have hck := HCK.out
    cases cl <;> cases kb <;> (subst hck; go_wp2; go_meet; exact ⟨rfl, rfl⟩)
   case rest =>
    obtain ⟨rfl, hwc⟩ := hcut
    subst hwc
    go_upto_if 23 with fail
    go_cut [3, 7] (fun v7 f wx => MdE w sb (.int .i64 kd) (.slice na nn nc) wx v7 (cutS (it.map (·.2)) p cl ck).o (cutS (it.map (·.2)) p cl ck).p)
    case first =>
     cases ck with
     | false =>
      have hcl : cl = false := (Bool.or_eq_false_iff.1 HCK.out).1
      have HX : Hid (MdE w sb (.int .i64 kd) (.slice na nn nc) W2 (.slice va ni vc) (it.map (·.2)) p) := ⟨it, _, by rw [← hcl]; exact LW2.out, rfl, B2.out, NW2.out⟩
      go_wp2
      go_meet
      exact HX.out
     | true =>
      have HOE : Hid ((cutS (it.map (·.2)) p cl true).o = endL (it.map (·.2)) p cl ∧ (cutS (it.map (·.2)) p cl true).p = [ptAt p 0]) := ⟨rfl, rfl⟩
      clear t0
      by_cases h0 : 0 < np
      ·have hown := LW2.out.b.own
       obtain ⟨g, cc, hu, hlie⟩ := ownp_some hown (by rw [HNP.out]; exact h0)
       have hua : ua = some ⟨g, 0, none⟩ := by injection hu
       subst hua
       have hg5 := (OwnQ.lt hown g rfl)
       obtain ⟨px, hpx⟩ : ∃ px, (ptAt p 0).1 = px := ⟨_, rfl⟩
       obtain ⟨py, hpy⟩ : ∃ py, (ptAt p 0).2 = py := ⟨_, rfl⟩
       have HPT : Hid (ptAt p 0 = (px, py)) := by show _ = _; rw [← hpx, ← hpy]
       have P2 : Hid (W2.cell? ⟨g, 0, none⟩ = some (.int .i64 px) ∧ W2.cell? ⟨g, 1, none⟩ = some (.int .i64 py)) := by
        show _ ∧ _
        have := (hlie.2 0 (by rw [HNP.out]; exact h0))
        rw [hpx, hpy] at this
        simpa using this
       have hg6 : Hid (g < W2.heap.size) := hg5.2
       have HVG : Hid ((Value.slice va ni vc).ownBlock ≠ some g) := (LW2.out.d.ap g rfl).1
       clear hown hu hlie hpx hpy hg5
       have d0 : decide (0 < np) = true := decide_eq_true h0
       by_cases h1 : 1 < np
       ·have d1 : decide ((1 : Int) < (np : Int)) = true := by simp; omega
        have HEL : Hid (endL (it.map (·.2)) p cl = (it ++ [(Value.slice (some ⟨g, 0, none⟩) np uc, (⟨p, cl⟩ : LD))]).map (·.2)) := by
         show _ = _
         unfold endL
         rw [HNP.out, if_pos h1]
         simp
        clear h1
        have n1 : Nw W2 (W2.alloc (.cells #[.slice (some ⟨g, 0, none⟩) np uc, .bool cl] 55)) := (Below.refl _ _).alloc (Nat.le_refl _) _
        have NL : Hid _ := n1
        have HU : Hid (OwnP (W2.alloc (.cells #[.slice (some ⟨g, 0, none⟩) np uc, .bool cl] 55)) (w.heap.size + 1) (.slice (some ⟨g, 0, none⟩) np uc) (⟨p, cl⟩ : LD).pts) := OwnQ.nw LW2.out.b.own n1
        have HQ : Hid (OwnQ 55 (W2.alloc (.cells #[.slice (some ⟨g, 0, none⟩) np uc, .bool cl] 55)) (w.heap.size + 1) (.slice va ni vc) (vLn it)) := OwnQ.nw LW2.out.d.ln.own n1
        have H1 : Hid (∀ x ∈ flat2 (vLn [((.slice (some ⟨g, 0, none⟩) np uc, ⟨p, cl⟩) : Value × LD)]), x.oneCell' = true) := one_line HU.out
        have HI : Hid (∀ i, i < (vLn [((.slice (some ⟨g, 0, none⟩) np uc, ⟨p, cl⟩) : Value × LD)]).length → (W2.alloc (.cells #[.slice (some ⟨g, 0, none⟩) np uc, .bool cl] 55)).cell? ⟨W2.heap.size, 0 + i * 2, none⟩ = some (vvAt (vLn [((.slice (some ⟨g, 0, none⟩) np uc, ⟨p, cl⟩) : Value × LD)]) i).1 ∧ (W2.alloc (.cells #[.slice (some ⟨g, 0, none⟩) np uc, .bool cl] 55)).cell? ⟨W2.heap.size, 0 + i * 2 + 1, none⟩ = some (vvAt (vLn [((.slice (some ⟨g, 0, none⟩) np uc, ⟨p, cl⟩) : Value × LD)]) i).2) := fun i hi => by
         have : i = 0 := by simp [vLn] at hi; omega
         subst this
         simp [vLn, vvAt]
        have hsz2 : Hid (w.heap.size + 1 ≤ (W2.alloc (.cells #[.slice (some ⟨g, 0, none⟩) np uc, .bool cl] 55)).heap.size) := by show _ ≤ _; have := LW2.out.lt; simp; omega
        clear n1
        go_wp2_with (at_builtin; (refine wpl_q 55 32 32 (.slice none 0 0) (.bool false) 32 under_lns under_lns info_line (by decide) rfl (W2.alloc (.cells #[.slice (some ⟨g, 0, none⟩) np uc, .bool cl] 55)) (.tmp 28) (.tmp 30) rfl (w.heap.size + 1) (.slice va ni vc) (vLn it) (vLn [((.slice (some ⟨g, 0, none⟩) np uc, ⟨p, cl⟩) : Value × LD)]) rfl HQ.out W2.heap.size 0 1 1 rfl rfl HI.out H1.out (by rw [vLn_len]; simp) ?cl hsz2.out rfl ?_))
        case cl => rw [vLn_len, vLn_len]; have := HB1.out; have := HNI.out; simp; omega
        intro g' c' w5 h2 h3
        rw [← vLn_append] at h2
        rw [vLn_len] at h2 h3 ⊢
        have LW3 := LW.nw LW2.out NL.out
        have H2 : Hid _ := D2.lput LW3.d h2 h3
        have M5 : Hid (MdL w sb (.int .i64 kd) (.slice na nn nc) w5 (.slice (some ⟨g', 0, none⟩) (it.length + 1) c') (it ++ [(Value.slice (some ⟨g, 0, none⟩) np uc, (⟨p, cl⟩ : LD))]) (.slice (some ⟨g, 0, none⟩) np uc) cl) := by
         have e := fun o => Ext.cell h3 LW3.lt LW3.nev o
         have ef := fun o => (World.frozen?_of_block (a := ⟨w.heap.size, o, none⟩) (h3.1.block w.heap.size LW3.lt (fun e => LW3.nev e.symm))).trans (LW3.b.free o)
         refine ⟨H2.out, (e 0).trans LW3.b.c0, (e 1).trans LW3.b.c1, ef, Bs.ext (Bs.nw B2.out NL.out) h3 (fun e => by have := HVL.out _ e; omega), by have := HSB.out; omega, ?_⟩
         exact Below.trans (Nw.trans NW2.out NL.out) (Ext.below h3 (fun g e => Nat.le_of_succ_le (OwnQ.lt HQ.out g e).1) (by have := hsz2.out; omega))
        have P5 : Hid (w5.cell? ⟨g, 0, none⟩ = some (.int .i64 px) ∧ w5.cell? ⟨g, 1, none⟩ = some (.int .i64 py)) := by
         have e := fun o => (Ext.cell h3 (Nat.lt_of_lt_of_le hg6.out (Below.size NL.out)) HVG.out o).trans ((bcell NL.out).1 g o hg6.out)
         exact ⟨(e 0).trans P2.out.1, (e 1).trans P2.out.2⟩
        have L5 : Hid (g < w5.heap.size) := World.block_lt_of_cell? w5 ⟨g, 0, none⟩ P5.out.1
        have I5 : Hid ((it ++ [(Value.slice (some ⟨g, 0, none⟩) np uc, (⟨p, cl⟩ : LD))]).map (·.2) = endL (it.map (·.2)) p cl) := HEL.out.symm
        have c5 := M5.out.c0
        have hni := HNI.out
        rw [hni] at M5 ⊢
        clear h2 h3 LW3 H2 hni
        have n9 : Nw w5 (w5.alloc (.cells #[.int .i64 0, .int .i64 0] 27)) := (Below.refl _ _).alloc (Nat.le_refl _) _
        have c9 := (MdL.nx M5.out n9).c0
        have px9 := ((bcell n9).1 _ _ L5.out).trans P5.out.1
        have py9 := ((bcell n9).1 _ _ L5.out).trans P5.out.2
        have M6 : Hid (MdL w sb (.int .i64 kd) (.slice na nn nc) (w5.alloc (.cells #[.int .i64 px, .int .i64 py] 27)) (.slice (some ⟨g', 0, none⟩) (ni + 1) c') (it ++ [(Value.slice (some ⟨g, 0, none⟩) np uc, (⟨p, cl⟩ : LD))]) (.slice (some ⟨g, 0, none⟩) np uc) cl) := MdL.nx M5.out ((Below.refl _ _).alloc (Nat.le_refl _) _)
        have f0 : ∀ o1, ((w5.alloc (.cells #[.int .i64 px, .int .i64 py] 27)).alloc o1).cell? ⟨w.heap.size, 0, none⟩ = some (.slice (some ⟨g, 0, none⟩) np uc) := fun o1 => (MdL.nx M6.out ((Below.refl _ _).alloc (Nat.le_refl _) _)).c0
        have f1 : ∀ o1, ((w5.alloc (.cells #[.int .i64 px, .int .i64 py] 27)).alloc o1).cell? ⟨w.heap.size, 1, none⟩ = some (.bool cl) := fun o1 => (MdL.nx M6.out ((Below.refl _ _).alloc (Nat.le_refl _) _)).c1
        have f2 : ∀ o1 o, ((w5.alloc (.cells #[.int .i64 px, .int .i64 py] 27)).alloc o1).frozen? ⟨w.heap.size, o, none⟩ = false := fun o1 => (MdL.nx M6.out ((Below.refl _ _).alloc (Nat.le_refl _) _)).fr
        go_wp2
        go_meet
        rw [HOE.out.1, HOE.out.2, HPT.out]
        have := MdL.done M6.out px py
        rw [I5.out] at this
        simpa using this
       ·have d1 : decide ((1 : Int) < (np : Int)) = false := by simp; omega
        have I5 : Hid (it.map (·.2) = endL (it.map (·.2)) p cl) := by show _ = _; unfold endL; rw [HNP.out, if_neg h1]
        clear h1
        obtain ⟨w5, hw5⟩ : ∃ w5, W2 = w5 := ⟨_, rfl⟩
        subst hw5
        have M5 : Hid (MdL w sb (.int .i64 kd) (.slice na nn nc) W2 (.slice va ni vc) it (.slice (some ⟨g, 0, none⟩) np uc) cl) := ⟨LW2.out.d.ln, c0, c1, fr, B2.out, by have := HSB.out; omega, NW2.out⟩
        have P5 := P2
        have L5 := hg6
        have n9 : Nw W2 (W2.alloc (.cells #[.int .i64 0, .int .i64 0] 27)) := (Below.refl _ _).alloc (Nat.le_refl _) _
        have c9 := (MdL.nx M5.out n9).c0
        have px9 := ((bcell n9).1 _ _ L5.out).trans P5.out.1
        have py9 := ((bcell n9).1 _ _ L5.out).trans P5.out.2
        have M6 : Hid (MdL w sb (.int .i64 kd) (.slice na nn nc) (W2.alloc (.cells #[.int .i64 px, .int .i64 py] 27)) (.slice va ni vc) it (.slice (some ⟨g, 0, none⟩) np uc) cl) := MdL.nx M5.out ((Below.refl _ _).alloc (Nat.le_refl _) _)
        have f0 : ∀ o1, ((W2.alloc (.cells #[.int .i64 px, .int .i64 py] 27)).alloc o1).cell? ⟨w.heap.size, 0, none⟩ = some (.slice (some ⟨g, 0, none⟩) np uc) := fun o1 => (MdL.nx M6.out ((Below.refl _ _).alloc (Nat.le_refl _) _)).c0
        have f1 : ∀ o1, ((W2.alloc (.cells #[.int .i64 px, .int .i64 py] 27)).alloc o1).cell? ⟨w.heap.size, 1, none⟩ = some (.bool cl) := fun o1 => (MdL.nx M6.out ((Below.refl _ _).alloc (Nat.le_refl _) _)).c1
        have f2 : ∀ o1 o, ((W2.alloc (.cells #[.int .i64 px, .int .i64 py] 27)).alloc o1).frozen? ⟨w.heap.size, o, none⟩ = false := fun o1 => (MdL.nx M6.out ((Below.refl _ _).alloc (Nat.le_refl _) _)).fr
        go_wp2
        go_meet
        rw [HOE.out.1, HOE.out.2, HPT.out]
        have := MdL.done M6.out px py
        rw [I5.out] at this
        simpa using this
      ·have hnp0 : np = 0 := by omega
       subst hnp0
       have HP : Hid (p = []) := List.length_eq_zero_iff.1 HNP.out
       have I5 : Hid (it.map (·.2) = endL (it.map (·.2)) p cl) := by show _ = _; unfold endL; rw [HNP.out, if_neg (by omega)]
       have HPT : Hid (ptAt p 0 = (0, 0)) := by show _ = _; rw [HP.out]; rfl
       have M5 : Hid (MdL w sb (.int .i64 kd) (.slice na nn nc) W2 (.slice va ni vc) it (.slice ua 0 uc) cl) := ⟨LW2.out.d.ln, c0, c1, fr, B2.out, by have := HSB.out; omega, NW2.out⟩
       have c9 := (MdL.nx M5.out ((Below.refl _ _).alloc (Nat.le_refl _) (.cells #[.int .i64 0, .int .i64 0] 27))).c0
       have M6 : Hid (MdL w sb (.int .i64 kd) (.slice na nn nc) (W2.alloc (.cells #[.int .i64 0, .int .i64 0] 27)) (.slice va ni vc) it (.slice ua 0 uc) cl) := MdL.nx M5.out ((Below.refl _ _).alloc (Nat.le_refl _) _)
       have f0 : ∀ o1, ((W2.alloc (.cells #[.int .i64 0, .int .i64 0] 27)).alloc o1).cell? ⟨w.heap.size, 0, none⟩ = some (.slice ua 0 uc) := fun o1 => (MdL.nx M6.out ((Below.refl _ _).alloc (Nat.le_refl _) _)).c0
       have f1 : ∀ o1, ((W2.alloc (.cells #[.int .i64 0, .int .i64 0] 27)).alloc o1).cell? ⟨w.heap.size, 1, none⟩ = some (.bool cl) := fun o1 => (MdL.nx M6.out ((Below.refl _ _).alloc (Nat.le_refl _) _)).c1
       have f2 : ∀ o1 o, ((W2.alloc (.cells #[.int .i64 0, .int .i64 0] 27)).alloc o1).frozen? ⟨w.heap.size, o, none⟩ = false := fun o1 => (MdL.nx M6.out ((Below.refl _ _).alloc (Nat.le_refl _) _)).fr
       go_wp2
       go_meet
       rw [HOE.out.1, HOE.out.2, HPT.out]
       have := MdL.done M6.out 0 0
       rw [I5.out] at this
       simpa using this
    case rest =>
     obtain ⟨it7, u9v, hl7, hi7, hb7, hn7⟩ := hcut
     clear c0 c1 fr t0
     obtain ⟨va7, vc7, hv7⟩ := D2.vln hl7.d
     obtain ⟨ua7, uc7, hu7⟩ := D2.val hl7.d
     subst hv7 hu7
     have HI7 : Hid (it7.map (·.2) = (cutS (it.map (·.2)) p cl ck).o) := hi7
     have HB7 : Hid (Bs sb (.int .i64 kd) (.slice na nn nc) wc) := hb7
     have HN7 : Hid (Nw w wc) := hn7
     obtain ⟨pp, hpp⟩ : ∃ pp, (cutS (it.map (·.2)) p cl ck).p = pp := ⟨_, rfl⟩
     have HPP : Hid ((cutS (it.map (·.2)) p cl ck).p = pp) := hpp
     rw [hpp] at hl7
     have HL7 : Hid (LW w.heap.size wc (.slice va7 it7.length vc7) it7 (.slice ua7 pp.length uc7) pp false) := hl7
     have HKL : Hid (∀ q, kdN kd = q → (nn : Int) = q) := fun q h => by rw [← h]; exact HKK.out.2.1
     have n0 : Nw wc wc.drew := (Below.refl _ _).drew
     have ND : Hid (Nw w wc.drew) := Nw.trans HN7.out n0
     have LD7 : Hid (LW w.heap.size wc.drew (.slice va7 it7.length vc7) it7 (.slice ua7 pp.length uc7) pp false) := LW.nw HL7.out n0
     have BD7 : Hid (Bs sb (.int .i64 kd) (.slice na nn nc) wc.drew) := Bs.nw HB7.out n0
     have t0 := HB7.out.1
     clear hl7 hi7 hb7 hn7 hpp n0
     generalize hni7 : it7.length = ni7 at *
     rcases kd_cases HKK.out.1 with hkd | hkd | hkd | hkd
     ·subst hkd
      have hkb : kb = true := HKB.out.symm
      subst hkb
      have hn2 : nn = 2 := by have := HKL.out 2 rfl; omega
      subst hn2
      obtain ⟨nb, no, x, y, hna, hnb, hns, cx, cy⟩ := ints_two HI1.out HNN.out
      subst hna hns
      have cx' := ((bcell ND.out).1 _ _ hnb).trans cx
      have cy' := ((bcell ND.out).1 _ _ hnb).trans cy
      have HC : Hid (wc.drew.cell? ⟨nb, no, none⟩ = some (.int .i64 x) ∧ wc.drew.cell? ⟨nb, no + 1, none⟩ = some (.int .i64 y)) := ⟨cx', cy'⟩
      clear hnb cx cy cx' cy'
      have hrel := rel_cut1 HREL.out
      rw [HCK.out] at hrel
      obtain ⟨pq, hpq⟩ : ∃ pq, ptAt p 0 = pq := ⟨_, rfl⟩
      have hp1 : pp = [pq] := by rw [← HPP.out, hrel.2, hpq]
      subst hp1
      have HRE : Hid (RelS (stS l (k + 1)) (it7.map (·.2)) [(x, y)] false) := by
       show stS l (k + 1) = _
       rw [HNX.out, HI7.out, hrel.1]
       rfl
      obtain ⟨g, cc, hu, hlie⟩ := ownp_some LD7.out.b.own (by simp)
      have hua : ua7 = some ⟨g, 0, none⟩ := by injection hu
      subst hua
      have HF0 : Hid ((∃ z, wc.drew.cell? ⟨g, 0, none⟩ = some (.int .i64 z)) ∧ (∃ z, wc.drew.cell? ⟨g, 1, none⟩ = some (.int .i64 z)) ∧ ∀ o, wc.drew.frozen? ⟨g, o, none⟩ = false) := by
       have := hlie.2 0 (by simp)
       exact ⟨⟨_, by simpa using this.1⟩, ⟨_, by simpa using this.2⟩, fun o => World.ownsRow.frozenAt (LD7.out.b.own : wc.drew.ownsRow _ _ _ _ _ _) o⟩
      clear hu hlie hrel hpq
      go_wp2
      refine reg_change (ops' := opsOf 16 Try.f60) (by kernel_rfl) ?_
      refine LR1.run ⟨w.heap.size, sb, g, uc7, nb, no, nc, x, y, wc.drew, _⟩ ⟨LD7.out.b.c0, BD7.out.2, HC.out.1, HC.out.2, HF0.out.1, HF0.out.2.1, HF0.out.2.2, rfl, rfl, rfl⟩ wc rfl ?_
      rintro γ w9 hw9
      obtain ⟨l1, l2⟩ := LW.first LD7.out x y
      rw [← show w9 = _ from hw9] at l1 l2
      have L9 : Hid _ := l1
      have N9 : Hid (Nw w w9) := Below.trans ND.out l2
      clear l1 l2 hw9
      simp only [Act.put, List.setIfInBounds_toArray, List.set_cons_zero, List.set_cons_succ]
      go_wp2
      go_roundw
      case rel => exact ⟨k + 1, by omega, by go_num, ⟨_, _, _, _, L9.out, HRE.out⟩, N9.out⟩
      case measure => simp [intOf]; omega
     ·subst hkd
      have hkb : kb = false := HKB.out.symm
      subst hkb
      have hn2 : nn = 2 := by have := HKL.out 2 rfl; omega
      subst hn2
      obtain ⟨nb, no, x, y, hna, hnb, hns, cx, cy⟩ := ints_two HI1.out HNN.out
      subst hna hns
      have cx' := ((bcell ND.out).1 _ _ hnb).trans cx
      have cy' := ((bcell ND.out).1 _ _ hnb).trans cy
      have HC : Hid (wc.drew.cell? ⟨nb, no, none⟩ = some (.int .i64 x) ∧ wc.drew.cell? ⟨nb, no + 1, none⟩ = some (.int .i64 y)) := ⟨cx', cy'⟩
      clear hnb cx cy cx' cy'
      have hrel := rel_cut HREL.out
      rw [HCK.out] at hrel
      have hp1 : pp = d.p := by rw [← HPP.out, hrel]
      subst hp1
      have HDO : Hid (it7.map (·.2) = d.o) := by show _ = _; rw [HI7.out, hrel]
      clear hrel
      have HRE : Hid (RelS (stS l (k + 1)) (it7.map (·.2)) (d.p ++ [(x, y)]) false) := by
       show stS l (k + 1) = _
       rw [HNX.out, HDO.out]
       rfl
      go_wp2
      refine reg_change (ops' := opsOf 18 Try.f60) (by kernel_rfl) ?_
      refine LR2.run ⟨w.heap.size, sb, ua7, d.p.length, uc7, d.p, false, nb, no, nc, x, y, wc.drew, _⟩ ⟨LD7.out.b, by have := HS2.out; show d.p.length + 1 ≤ 1000000; omega, BD7.out.2, HC.out.1, HC.out.2, rfl, rfl, rfl⟩ wc (Kp.refl _) ?_
      rintro γ w9 ⟨w7, w8, g9, c9, k1, g1, o1, y1, hw9⟩
      simp only at g1 o1 y1 k1 hw9 ⊢
      obtain ⟨l1, l2⟩ := LW.pput (LW.nw LD7.out k1.nw) y1 o1
      rw [← hw9] at l1 l2
      have L9 : Hid (∃ u', LW w.heap.size w9 (.slice va7 ni7 vc7) it7 u' (d.p ++ [(x, y)]) false) := ⟨_, l1⟩
      have N9 : Hid (Nw w w9) := Below.trans (Nw.trans ND.out k1.nw) l2
      clear l1 l2 hw9 o1 y1 k1 g1
      simp only [Act.put, List.setIfInBounds_toArray, List.set_cons_zero, List.set_cons_succ]
      generalize γ 0 = z0 at *
      generalize γ 1 = z1 at *
      go_wp2
      go_roundw
      case rel =>
       obtain ⟨u', l1⟩ := L9.out
       exact ⟨k + 1, by omega, by go_num, ⟨_, _, _, _, l1, HRE.out⟩, N9.out⟩
      case measure => simp [intOf]; omega
     ·subst hkd
      have hkb : kb = false := HKB.out.symm
      subst hkb
      have hn6 : nn = 6 := by have := HKL.out 6 rfl; omega
      subst hn6
      obtain ⟨nb, no, x0, y0, x1, y1, x2, y2, hna, hnb, hns, cx0, cy0, cx1, cy1, cx2, cy2⟩ := ints_six HI1.out HNN.out
      subst hna hns
      have eC := fun o => (bcell ND.out).1 nb o hnb
      have HC : Hid _ := And.intro ((eC _).trans cx0) (And.intro ((eC _).trans cy0) (And.intro ((eC _).trans cx1) (And.intro ((eC _).trans cy1) (And.intro ((eC _).trans cx2) ((eC _).trans cy2)))))
      clear hnb cx0 cy0 cx1 cy1 cx2 cy2 eC
      have hrel := rel_cut HREL.out
      rw [HCK.out] at hrel
      have hp1 : pp = d.p := by rw [← HPP.out, hrel]
      subst hp1
      have HDO : Hid (it7.map (·.2) = d.o) := by show _ = _; rw [HI7.out, hrel]
      clear hrel
      have hk0 : 0 < k := by
       rcases HKK.out.2.2.2 with h | h
       ·omega
       ·omega
      have hp0 := HS4.out hk0
      obtain ⟨g, cc, hu, hlie⟩ := ownp_some LD7.out.b.own hp0
      have hua : ua7 = some ⟨g, 0, none⟩ := by injection hu
      subst hua
      obtain ⟨lx, hlx⟩ : ∃ lx, (lastP d.p).1 = lx := ⟨_, rfl⟩
      obtain ⟨ly, hly⟩ : ∃ ly, (lastP d.p).2 = ly := ⟨_, rfl⟩
      have HLL : Hid (wc.drew.cell? ⟨g, (d.p.length - 1) * 2, none⟩ = some (.int .i64 lx) ∧ wc.drew.cell? ⟨g, (d.p.length - 1) * 2 + 1, none⟩ = some (.int .i64 ly)) := by
       have := hlie.2 (d.p.length - 1) (by omega)
       rw [← hlx, ← hly]
       unfold lastP
       show _ ∧ _
       simpa using this
      obtain ⟨E, hE⟩ : ∃ E, E = [(lx, ly), (x0, y0), (x1, y1), (x2, y2)] := ⟨_, rfl⟩
      have HEE : Hid (lastP d.p :: prs [x0, y0, x1, y1, x2, y2] = E) := by
       show _ = _
       rw [hE, ← hlx, ← hly]
       rfl
      have HE4 : Hid (E.length = 4) := by show _ = _; rw [hE]; rfl
      have HGE : Hid (ptsB E = true) := by
       show _ = _
       rw [← HEE.out]
       have h1 := ptsB_at HG.out.2 (d.p.length - 1) (by omega)
       have h2 := prs_good _ HKK.out.2.2.1
       unfold ptsB at h2 ⊢
       simp only [List.all_cons, Bool.and_eq_true]
       exact ⟨h1, h2⟩
      have HRE : Hid (RelS (stS l (k + 1)) (it7.map (·.2)) (d.p ++ bndL E 8) false) := by
       show stS l (k + 1) = _
       rw [HNX.out, HDO.out, ← HEE.out]
       rfl
      have hgl : Hid (g < wc.heap.size) := (OwnQ.lt HL7.out.b.own g rfl).2
      have hwm : IntKind.i64.wrap ((d.p.length : Int) - 1) = ((d.p.length - 1 : Nat) : Int) := by have := HS2.out; rw [IntWalk.i64_in _ ⟨by omega, by omega⟩]; omega
      have hmn : d.p.length - 1 < d.p.length := by omega
      have HE : Hid (E = [(lx, ly), (x0, y0), (x1, y1), (x2, y2)]) := hE
      clear hu hlie hlx hly hE hp0
      go_wp2
      refine reg_change (ops' := opsOf 20 Try.f60) (by kernel_rfl) ?_
      refine LR3.run ⟨w.heap.size, sb, g, d.p.length, d.p.length - 1, uc7, nb, no, nc, lx, ly, x0, y0, x1, y1, x2, y2, wc.drew, _⟩ ⟨LD7.out.b.c0, hwm, hmn, HLL.out.1, HLL.out.2, BD7.out.2, HC.out.1, HC.out.2.1, HC.out.2.2.1, HC.out.2.2.2.1, HC.out.2.2.2.2.1, HC.out.2.2.2.2.2, rfl, rfl, rfl⟩ wc rfl ?_
      rintro γ w10 ⟨g1, hw10⟩
      simp only at g1 hw10 ⊢
      have n10 : Nw wc.drew w10 := by rw [hw10]; exact (Below.refl _ _).alloc (Nat.le_refl _) _
      have L10 : Hid (LW w.heap.size w10 (.slice va7 ni7 vc7) it7 (.slice (some ⟨g, 0, none⟩) d.p.length uc7) d.p false) := LW.nw LD7.out n10
      have P10 : Hid (Pts w10 (some ⟨wc.heap.size, 0, none⟩) E) := by
       show Pts _ _ _
       rw [hw10, HE.out]
       exact pts_four wc.drew _ _ _ _ _ _ _ _ _
      have Z10 : Hid (wc.heap.size < w10.heap.size) := by
       show _ < _
       rw [hw10]
       simp
      have N10 : Hid (Nw w w10) := Nw.trans ND.out n10
      have HGN : Hid ((Value.slice (some ⟨g, 0, none⟩) d.p.length uc7).ownBlock ≠ some wc.heap.size) := fun e => by
       have : g = wc.heap.size := by simpa [Value.ownBlock] using e
       have := hgl.out
       omega
      have HBX : Hid (w.heap.size < wc.heap.size) := HL7.out.lt
      simp only [g1, Act.put, List.setIfInBounds_toArray, List.set_cons_zero, List.set_cons_succ]
      clear n10 hw10 g1 hwm hmn
      have g1' : wc.drew.heap.size = wc.heap.size := rfl
      rw [g1']
      generalize hge : wc.heap.size = ge at *
      clear g1'
      generalize γ 0 = z0 at *
      go_wp2
      go_loopw [9] (fun i wr' => ∃ j : Nat, j ≤ 8 ∧ i = .int .i64 ((j : Int) + 1) ∧ (∃ u', LW w.heap.size wr' (.slice va7 ni7 vc7) it7 u' (d.p ++ bndL E j) false ∧ u'.ownBlock ≠ some ge) ∧ Pts wr' (some ⟨ge, 0, none⟩) E ∧ Nw w wr' ∧ ge < wr'.heap.size) (fun i _ => 9 - (intOf i).toNat)
      case atStart => exact ⟨0, by omega, rfl, ⟨_, by simpa [bndL] using L10.out, HGN.out⟩, P10.out, N10.out, Z10.out⟩
      case round =>
       obtain ⟨j, hj, rfl, ⟨u', hl', hu'⟩, hp', hn', hz'⟩ := hrel
       obtain ⟨ua', uc', he'⟩ := D2.val hl'.d
       subst he'
       have HLJ : Hid (LW w.heap.size wr (.slice va7 ni7 vc7) it7 (.slice ua' (d.p ++ bndL E j).length uc') (d.p ++ bndL E j) false) := hl'
       have HUJ : Hid ((Value.slice ua' (d.p ++ bndL E j).length uc').ownBlock ≠ some ge) := hu'
       have HPJ : Hid (Pts wr (some ⟨ge, 0, none⟩) E) := hp'
       have HNJ : Hid (Nw w wr) := hn'
       have HZJ : Hid (ge < wr.heap.size) := hz'
       clear hl' hu' hp' hn' hz'
       by_cases hj8 : j < 8
       ·have n0 : Nw wr wr.drew := (Below.refl _ _).drew
        have d8 : decide ((j : Int) + 1 ≤ 8) = true := by simp; omega
        have HS : Hid _ := bndL_step E j
        have HLN : Hid ((d.p ++ bndL E j).length + 1 ≤ 1000000) := by show _ ≤ _; rw [List.length_append, bndL_len]; have := HS2.out; omega
        have HV : Hid (∀ w1, Kp wr.drew w1 → _) := fun w1 (k : Kp wr.drew w1) => scurve_any w1 (some ⟨ge, 0, none⟩) 4 E ((j : Int) + 1) HE4.out (Pts.nw HPJ.out (Nw.trans n0 k.nw)) HGE.out (by omega) (by omega)
        generalize curveP E ((j : Int) + 1) = cp at *
        obtain ⟨x, y⟩ := cp
        go_wp2
        refine reg_change (ops' := opsOf 24 Try.f60) (by kernel_rfl) ?_
        refine LR4.run ⟨w.heap.size, ua', (d.p ++ bndL E j).length, uc', d.p ++ bndL E j, false, ge, (j : Int) + 1, x, y, wr.drew, _⟩ ⟨LnB.nw HLJ.out.b n0, HLN.out, HV.out, rfl, rfl, rfl, rfl⟩ wr (Kp.refl _) ?_
        rintro γ w9 ⟨w7, w8, g9, c9, k1, g1, o1, y1, hw9⟩
        simp only at g1 o1 y1 k1 hw9 ⊢
        have n7 : Nw wr w7 := Nw.trans n0 k1.nw
        obtain ⟨l1, l2⟩ := LW.pput (LW.nw HLJ.out n7) y1 o1
        rw [← hw9] at l1 l2
        have z7 : ge < w7.heap.size := Nat.lt_of_lt_of_le HZJ.out (Below.size n7)
        have L9 : Hid (∃ u', LW w.heap.size w9 (.slice va7 ni7 vc7) it7 u' (d.p ++ bndL E j ++ [(x, y)]) false ∧ u'.ownBlock ≠ some ge) := ⟨_, l1, Ext.apart y1 z7 HUJ.out⟩
        have N9 : Hid (Nw w w9) := Below.trans (Nw.trans HNJ.out n7) l2
        have P9 : Hid (Pts w9 (some ⟨ge, 0, none⟩) E) := by
         have e9 : ∀ o, w9.cell? ⟨ge, o, none⟩ = w7.cell? ⟨ge, o, none⟩ := fun o => by
          rw [hw9, World.cell?_setCell_other _ _ _ _ (fun e => by injection e; have := HBX.out; omega)]
          exact Ext.cell y1 z7 HUJ.out o
         rcases Pts.nw HPJ.out n7 with h | ⟨b2, off2, he2, hb2, hc2⟩
         ·exact Or.inl h
         ·injection he2 with he2; injection he2 with h1 h2
          subst h1 h2
          exact Or.inr ⟨_, 0, rfl, by have := Below.size l2; have := Below.size n7; omega, fun i hi => ⟨(e9 _).trans (hc2 i hi).1, (e9 _).trans (hc2 i hi).2⟩⟩
        have Z9 : Hid (ge < w9.heap.size) := Nat.lt_of_lt_of_le HZJ.out (Nat.le_trans (Below.size n7) (Below.size l2))
        clear l1 l2 hw9 o1 y1 k1 g1 z7 n7 n0
        simp only [Act.put, List.setIfInBounds_toArray, List.set_cons_zero, List.set_cons_succ]
        generalize γ 0 = z0 at *
        generalize γ 1 = z1 at *
        go_wp2
        go_roundw
        case rel =>
         obtain ⟨u', l1, l2⟩ := L9.out
         exact ⟨j + 1, by omega, by go_num, ⟨_, by rw [HS.out, ← List.append_assoc]; exact l1, l2⟩, P9.out, N9.out, Z9.out⟩
        case measure => simp [intOf]; omega
       ·have d8 : decide ((j : Int) + 1 ≤ 8) = false := by simp; omega
        have hj' : j = 8 := by omega
        subst hj'
        go_wp2
        go_roundw
        case rel => exact ⟨k + 1, by omega, by go_num, ⟨_, _, _, _, HLJ.out, HRE.out⟩, HNJ.out⟩
        case measure => simp [intOf]; omega
     ·subst hkd
      have hkb : kb = false := HKB.out.symm
      subst hkb
      have hrel := rel_cut HREL.out
      rw [HCK.out] at hrel
      have hp1 : pp = d.p := by rw [← HPP.out, hrel]
      subst hp1
      have HDO : Hid (it7.map (·.2) = d.o) := by show _ = _; rw [HI7.out, hrel]
      clear hrel
      have HRE : Hid (RelS (stS l (k + 1)) (it7.map (·.2)) d.p true) := by
       show stS l (k + 1) = _
       rw [HNX.out, HDO.out]
       rfl
      have c1 := HL7.out.b.c1
      have fr := HL7.out.b.free
      have HFL : Hid _ := LW.flag HL7.out true
      go_wp2
      go_roundw
      case rel => exact ⟨k + 1, by omega, by go_num, ⟨_, _, _, _, HFL.out.1, HRE.out⟩, Below.trans HN7.out HFL.out.2⟩
      case measure => simp [intOf]; omega
  ·have hkn : k = n := by omega
   subst hkn
   have HEN : Hid (endL (it.map (·.2)) p cl = lnsP l) := by show _ = _; unfold lnsP; rw [HN.out]; exact rel_end HREL.out
   have c0 := HLW.out.b.c0
   have c1 := HLW.out.b.c1
   generalize hnp : p.length = np at *
   have HNP : Hid (p.length = np) := hnp
   generalize hni : it.length = ni at *
   have HNI : Hid (it.length = ni) := hni
   clear hnp hni
   by_cases h1 : 1 < np
   ·have d1 : decide ((1 : Int) < (np : Int)) = true := by simp; omega
    have HEL : Hid ((it ++ [(Value.slice ua np uc, (⟨p, cl⟩ : LD))]).map (·.2) = lnsP l) := by
     show _ = _
     rw [← HEN.out]
     unfold endL
     rw [HNP.out, if_pos h1]
     simp
    clear h1
    have n1 : Nw wr (wr.alloc (.cells #[.slice ua np uc, .bool cl] 55)) := (Below.refl _ _).alloc (Nat.le_refl _) _
    have NL : Hid _ := n1
    have HU : Hid (OwnP (wr.alloc (.cells #[.slice ua np uc, .bool cl] 55)) (w.heap.size + 1) (.slice ua np uc) (⟨p, cl⟩ : LD).pts) := OwnQ.nw HLW.out.b.own n1
    have HQ : Hid (OwnQ 55 (wr.alloc (.cells #[.slice ua np uc, .bool cl] 55)) (w.heap.size + 1) (.slice va ni vc) (vLn it)) := OwnQ.nw HLW.out.d.ln.own n1
    have H1 : Hid (∀ x ∈ flat2 (vLn [((.slice ua np uc, ⟨p, cl⟩) : Value × LD)]), x.oneCell' = true) := one_line HU.out
    have HI : Hid (∀ i, i < (vLn [((.slice ua np uc, ⟨p, cl⟩) : Value × LD)]).length → (wr.alloc (.cells #[.slice ua np uc, .bool cl] 55)).cell? ⟨wr.heap.size, 0 + i * 2, none⟩ = some (vvAt (vLn [((.slice ua np uc, ⟨p, cl⟩) : Value × LD)]) i).1 ∧ (wr.alloc (.cells #[.slice ua np uc, .bool cl] 55)).cell? ⟨wr.heap.size, 0 + i * 2 + 1, none⟩ = some (vvAt (vLn [((.slice ua np uc, ⟨p, cl⟩) : Value × LD)]) i).2) := fun i hi => by
     have : i = 0 := by simp [vLn] at hi; omega
     subst this
     simp [vLn, vvAt]
    have hsz2 : Hid (w.heap.size + 1 ≤ (wr.alloc (.cells #[.slice ua np uc, .bool cl] 55)).heap.size) := by show _ ≤ _; have := HLW.out.lt; simp; omega
    clear n1
    go_wp2_with (at_builtin; (refine wpl_q 55 32 32 (.slice none 0 0) (.bool false) 32 under_lns under_lns info_line (by decide) rfl (wr.alloc (.cells #[.slice ua np uc, .bool cl] 55)) (.tmp 132) (.tmp 134) rfl (w.heap.size + 1) (.slice va ni vc) (vLn it) (vLn [((.slice ua np uc, ⟨p, cl⟩) : Value × LD)]) rfl HQ.out wr.heap.size 0 1 1 rfl rfl HI.out H1.out (by rw [vLn_len]; simp) ?cl hsz2.out rfl ?_))
    case cl => rw [vLn_len, vLn_len]; have := HB1.out; have := HNI.out; simp; omega
    intro g' c' w5 h2 h3
    rw [← vLn_append] at h2
    rw [vLn_len] at h2 h3 ⊢
    have H2 : Hid _ := D2.lput (LW.nw HLW.out NL.out).d h2 h3
    have N5 : Hid (Nw w w5) := Below.trans (Nw.trans HWR.out NL.out) (Ext.below h3 (fun g e => Nat.le_of_succ_le (OwnQ.lt HQ.out g e).1) (by have := hsz2.out; omega))
    clear h2 h3
    go_wp2
    go_ret
    exact ⟨_, rfl, LsOk.of (OwnLn.base H2.out (Nat.le_succ _)) HEL.out, N5.out⟩
   ·have d1 : decide ((1 : Int) < (np : Int)) = false := by simp; omega
    have HEL : Hid (it.map (·.2) = lnsP l) := by
     show _ = _
     rw [← HEN.out]
     unfold endL
     rw [HNP.out, if_neg h1]
    clear h1
    go_wp2
    go_ret
    exact ⟨_, rfl, LsOk.of (OwnLn.base HLW.out.d.ln (Nat.le_succ _)) HEL.out, HWR.out⟩
theorem stOk_bad {l : List SD} {k : Nat} (h : (kdB (stAt l k).kind = true → ((stAt l k).ns.length : Int) = kdN (stAt l k).kind → (stAt l k).ns.all fixB = true → ¬ (k ≠ 0 ∨ (stAt l k).kind = 1))) : stOk l k = false := by
 cases hb : stOk l k with
 | false => rfl
 | true =>
  unfold stOk at hb
  simp only [Bool.and_eq_true, Bool.or_eq_true, decide_eq_true_eq] at hb
  exact absurd hb.2.2.2 (h hb.1 hb.2.1 hb.2.2.1)
theorem stOk_yes {l : List SD} {k : Nat} (h1 : kdB (stAt l k).kind = true) (h2 : ((stAt l k).ns.length : Int) = kdN (stAt l k).kind) (h3 : (stAt l k).ns.all fixB = true) (h4 : k ≠ 0 ∨ (stAt l k).kind = 1) : stOk l k = true := by
 unfold stOk
 simp only [Bool.and_eq_true, Bool.or_eq_true, decide_eq_true_eq]
 exact ⟨h1, h2, h3, h4⟩
set_option maxRecDepth 100000 in
set_option maxHeartbeats 16000000 in
theorem sgoodSteps (w : World) (a : Option Addr) (c : Nat) (l : List SD) (hl : l.length ≤ 1048576) (hns : ∀ i, i < l.length → (stAt l i).ns.length ≤ 1048576) (hr : Steps w a l) :
  Calls Try.prog 59 #[.slice a l.length c] w fun e w' => e = .returned (.bool (stsB l)) ∧ Kp w w' := by
 have HR : Hid (Steps w a l) := hr
 have HNS : Hid _ := hns
 clear hr hns
 unfold stsB
 by_cases h60 : l.length ≤ 60
 ·rw [decide_eq_true h60, Bool.true_and]
  have hd : decide ((60 : Int) < l.length) = false := decide_eq_false (by omega)
  obtain ⟨V, hV⟩ : ∃ V, (List.range l.length).all (stOk l) = V := ⟨_, rfl⟩
  have HV : Hid ((List.range l.length).all (stOk l) = V) := hV
  rw [hV]
  clear hV
  go_enter Try.func59, Try.ntmps59
  go_wp2
  clear hd
  go_loopw [13] (fun i wr => ∃ k : Nat, k ≤ l.length ∧ i = .int .i64 (k : Int) ∧ (∀ j, j < k → stOk l j = true) ∧ Kp w wr) (fun i _ => l.length - (intOf i).toNat)
  case atStart => exact ⟨0, Nat.zero_le _, rfl, fun j hj => absurd hj (by omega), Kp.refl _⟩
  case round =>
   obtain ⟨k, hk, rfl, ha, hw⟩ := hrel
   have HA : Hid _ := ha
   have HW : Hid (Kp w wr) := hw
   clear ha hw
   by_cases hlt : k < l.length
   ·rcases (Steps.nw HR.out HW.out.nw) with h | ⟨b, off, rfl, hb, hc⟩
    ·rw [h] at hlt; simp at hlt
    obtain ⟨q0, pa, pc, q1, qi⟩ := hc k hlt
    clear hc
    have HBAD : Hid ((kdB (stAt l k).kind = true → ((stAt l k).ns.length : Int) = kdN (stAt l k).kind → (stAt l k).ns.all fixB = true → ¬ (k ≠ 0 ∨ (stAt l k).kind = 1)) → V = false) := fun h => HV.out.symm.trans (stsB_false hlt (stOk_bad h))
    have HYES : Hid (kdB (stAt l k).kind = true → ((stAt l k).ns.length : Int) = kdN (stAt l k).kind → (stAt l k).ns.all fixB = true → (k ≠ 0 ∨ (stAt l k).kind = 1) → stOk l k = true) := fun h1 h2 h3 h4 => stOk_yes h1 h2 h3 h4
    have HI : Hid (Ints wr pa (stAt l k).ns) := qi
    have hnl : (stAt l k).ns.length ≤ 1048576 := HNS.out k hlt
    clear qi
    generalize hkd : (stAt l k).kind = kd at *
    clear hkd
    generalize (stAt l k).ns = ns at *
    obtain ⟨W1, hW1⟩ : ∃ W1, wr = W1 := ⟨_, rfl⟩
    rw [hW1] at HW HI q0 q1 hb ⊢
    clear hW1
    by_cases h1 : kd = 1
    ·subst h1
     by_cases hm : (ns.length : Int) = 2
     ·have HNM : Hid ((ns.length : Int) = kdN 1) := hm
      have hne : ((ns.length : Int) != 2) = false := by simp [hm]
      clear hm
      by_cases hk0 : k = 0
      ·subst hk0
       simp only [Nat.zero_mul, Nat.add_zero] at q0 q1
       obtain ⟨W2, hW2⟩ : ∃ W2, W1.alloc (.cells #[.int .i64 1, .slice pa ns.length pc] 98) = W2 := ⟨_, rfl⟩
       have N2 : Hid (Kp W1 W2) := by show Kp _ _; rw [← hW2]; exact (Kp.refl W1).alloc _ _
       have HI2 : Hid (Ints W2 pa ns) := Ints.nw HI.out N2.out.nw
       have HW2 : Hid (_ = W2) := hW2
       clear hW2 hb
       go_wp2
       rw [HW2.out]
       go_loop [44] (fun i => ∃ j : Nat, j ≤ ns.length ∧ i = .int .i64 (j : Int) ∧ ∀ m, m < j → fixB (intAt ns m) = true) (fun i => ns.length - (intOf i).toNat)
       case atStart => exact ⟨0, Nat.zero_le _, rfl, fun m hm => absurd hm (by omega)⟩
       case round =>
        obtain ⟨j, hj, rfl, ha⟩ := hrel
        have HA2 : Hid _ := ha
        clear ha
        by_cases hlt2 : j < ns.length
        ·rcases HI2.out with h | ⟨b2, off2, rfl, hb2, hc2⟩
         ·rw [h] at hlt2; simp at hlt2
         have q2 := hc2 j hlt2
         clear hc2
         obtain ⟨x, hx⟩ : ∃ x, intAt ns j = x := ⟨_, rfl⟩
         have HX : Hid (intAt ns j = x) := hx
         rw [hx] at q2
         clear hx
         have hcall : Hid _ := fun w => sgoodF x w
         cases hf : fixB x with
         | true =>
          rw [hf] at hcall
          have HF : Hid (fixB x = true) := hf
          clear hf
          go_wp2_with fail
          refine (hcall.out _).mono ?_
          rintro e w1 ⟨rfl, rfl⟩
          go_wp2
          go_round
          case rel =>
           refine ⟨j + 1, by omega, by go_num, fun m hm => ?_⟩
           rcases Nat.lt_succ_iff_lt_or_eq.1 hm with h | h
           ·exact HA2.out m h
           ·rw [h, HX.out]; exact HF.out
          case measure => simp [intOf]; omega
         | false =>
          rw [hf] at hcall
          have HF : Hid (V = false) := HBAD.out (fun _ _ h3 => by
           have := all_false _ 0 ns j hlt2 (HX.out ▸ hf)
           rw [h3] at this
           cases this)
          clear hf
          go_wp2_with fail
          refine (hcall.out _).mono ?_
          rintro e w1 ⟨rfl, rfl⟩
          go_wp2
          go_ret
          exact ⟨ret_bool HF.out.symm, Kp.trans HW.out N2.out⟩
        ·have HT : Hid (stOk l 0 = true) := HYES.out rfl HNM.out (all_true _ 0 _ (fun m hm => HA2.out m (by omega))) (by first | exact Or.inl hk0 | exact Or.inr rfl | exact Or.inr trivial)
         clear HA2
         go_wp2
         go_roundw
         case rel =>
          refine ⟨0 + 1, by omega, by go_num, fun j hj => ?_, Kp.trans HW.out N2.out⟩
          rcases Nat.lt_succ_iff_lt_or_eq.1 hj with h | h
          ·exact HA.out j h
          ·rw [h]; exact HT.out
         case measure => simp [intOf]; omega
      ·have hz : ((k : Int) == 0) = false := by simp; omega
       obtain ⟨W2, hW2⟩ : ∃ W2, W1.alloc (.cells #[.int .i64 1, .slice pa ns.length pc] 98) = W2 := ⟨_, rfl⟩
       have N2 : Hid (Kp W1 W2) := by show Kp _ _; rw [← hW2]; exact (Kp.refl W1).alloc _ _
       have HI2 : Hid (Ints W2 pa ns) := Ints.nw HI.out N2.out.nw
       have HW2 : Hid (_ = W2) := hW2
       clear hW2 hb
       go_wp2
       rw [HW2.out]
       go_loop [44] (fun i => ∃ j : Nat, j ≤ ns.length ∧ i = .int .i64 (j : Int) ∧ ∀ m, m < j → fixB (intAt ns m) = true) (fun i => ns.length - (intOf i).toNat)
       case atStart => exact ⟨0, Nat.zero_le _, rfl, fun m hm => absurd hm (by omega)⟩
       case round =>
        obtain ⟨j, hj, rfl, ha⟩ := hrel
        have HA2 : Hid _ := ha
        clear ha
        by_cases hlt2 : j < ns.length
        ·rcases HI2.out with h | ⟨b2, off2, rfl, hb2, hc2⟩
         ·rw [h] at hlt2; simp at hlt2
         have q2 := hc2 j hlt2
         clear hc2
         obtain ⟨x, hx⟩ : ∃ x, intAt ns j = x := ⟨_, rfl⟩
         have HX : Hid (intAt ns j = x) := hx
         rw [hx] at q2
         clear hx
         have hcall : Hid _ := fun w => sgoodF x w
         cases hf : fixB x with
         | true =>
          rw [hf] at hcall
          have HF : Hid (fixB x = true) := hf
          clear hf
          go_wp2_with fail
          refine (hcall.out _).mono ?_
          rintro e w1 ⟨rfl, rfl⟩
          go_wp2
          go_round
          case rel =>
           refine ⟨j + 1, by omega, by go_num, fun m hm => ?_⟩
           rcases Nat.lt_succ_iff_lt_or_eq.1 hm with h | h
           ·exact HA2.out m h
           ·rw [h, HX.out]; exact HF.out
          case measure => simp [intOf]; omega
         | false =>
          rw [hf] at hcall
          have HF : Hid (V = false) := HBAD.out (fun _ _ h3 => by
           have := all_false _ 0 ns j hlt2 (HX.out ▸ hf)
           rw [h3] at this
           cases this)
          clear hf
          go_wp2_with fail
          refine (hcall.out _).mono ?_
          rintro e w1 ⟨rfl, rfl⟩
          go_wp2
          go_ret
          exact ⟨ret_bool HF.out.symm, Kp.trans HW.out N2.out⟩
        ·have HT : Hid (stOk l k = true) := HYES.out rfl HNM.out (all_true _ 0 _ (fun m hm => HA2.out m (by omega))) (by first | exact Or.inl hk0 | exact Or.inr rfl | exact Or.inr trivial)
         clear HA2
         go_wp2
         go_roundw
         case rel =>
          refine ⟨k + 1, by omega, by go_num, fun j hj => ?_, Kp.trans HW.out N2.out⟩
          rcases Nat.lt_succ_iff_lt_or_eq.1 hj with h | h
          ·exact HA.out j h
          ·rw [h]; exact HT.out
         case measure => simp [intOf]; omega
     ·have HF : Hid (V = false) := HBAD.out (fun _ h => absurd h hm)
      have hne : ((ns.length : Int) != 2) = true := bne_iff_ne.2 hm
      clear hm
      go_wp2
      go_ret
      exact ⟨ret_bool HF.out.symm, Kp.trans HW.out ((Kp.refl W1).alloc _ _)⟩
    ·by_cases h2 : kd = 2
     ·subst h2
      by_cases hm : (ns.length : Int) = 2
      ·have HNM : Hid ((ns.length : Int) = kdN 2) := hm
       have hne : ((ns.length : Int) != 2) = false := by simp [hm]
       clear hm
       by_cases hk0 : k = 0
       ·subst hk0
        simp only [Nat.zero_mul, Nat.add_zero] at q0 q1
        have HF : Hid (V = false) := HBAD.out (fun _ _ _ h => by rcases h with h | h <;> omega)
        go_wp2
        go_ret
        exact ⟨ret_bool HF.out.symm, Kp.trans HW.out ((Kp.refl W1).alloc _ _)⟩
       ·have hz : ((k : Int) == 0) = false := by simp; omega
        obtain ⟨W2, hW2⟩ : ∃ W2, W1.alloc (.cells #[.int .i64 2, .slice pa ns.length pc] 98) = W2 := ⟨_, rfl⟩
        have N2 : Hid (Kp W1 W2) := by show Kp _ _; rw [← hW2]; exact (Kp.refl W1).alloc _ _
        have HI2 : Hid (Ints W2 pa ns) := Ints.nw HI.out N2.out.nw
        have HW2 : Hid (_ = W2) := hW2
        clear hW2 hb
        go_wp2
        rw [HW2.out]
        go_loop [44] (fun i => ∃ j : Nat, j ≤ ns.length ∧ i = .int .i64 (j : Int) ∧ ∀ m, m < j → fixB (intAt ns m) = true) (fun i => ns.length - (intOf i).toNat)
        case atStart => exact ⟨0, Nat.zero_le _, rfl, fun m hm => absurd hm (by omega)⟩
        case round =>
         obtain ⟨j, hj, rfl, ha⟩ := hrel
         have HA2 : Hid _ := ha
         clear ha
         by_cases hlt2 : j < ns.length
         ·rcases HI2.out with h | ⟨b2, off2, rfl, hb2, hc2⟩
          ·rw [h] at hlt2; simp at hlt2
          have q2 := hc2 j hlt2
          clear hc2
          obtain ⟨x, hx⟩ : ∃ x, intAt ns j = x := ⟨_, rfl⟩
          have HX : Hid (intAt ns j = x) := hx
          rw [hx] at q2
          clear hx
          have hcall : Hid _ := fun w => sgoodF x w
          cases hf : fixB x with
          | true =>
           rw [hf] at hcall
           have HF : Hid (fixB x = true) := hf
           clear hf
           go_wp2_with fail
           refine (hcall.out _).mono ?_
           rintro e w1 ⟨rfl, rfl⟩
           go_wp2
           go_round
           case rel =>
            refine ⟨j + 1, by omega, by go_num, fun m hm => ?_⟩
            rcases Nat.lt_succ_iff_lt_or_eq.1 hm with h | h
            ·exact HA2.out m h
            ·rw [h, HX.out]; exact HF.out
           case measure => simp [intOf]; omega
          | false =>
           rw [hf] at hcall
           have HF : Hid (V = false) := HBAD.out (fun _ _ h3 => by
            have := all_false _ 0 ns j hlt2 (HX.out ▸ hf)
            rw [h3] at this
            cases this)
           clear hf
           go_wp2_with fail
           refine (hcall.out _).mono ?_
           rintro e w1 ⟨rfl, rfl⟩
           go_wp2
           go_ret
           exact ⟨ret_bool HF.out.symm, Kp.trans HW.out N2.out⟩
         ·have HT : Hid (stOk l k = true) := HYES.out rfl HNM.out (all_true _ 0 _ (fun m hm => HA2.out m (by omega))) (by first | exact Or.inl hk0 | exact Or.inr rfl | exact Or.inr trivial)
          clear HA2
          go_wp2
          go_roundw
          case rel =>
           refine ⟨k + 1, by omega, by go_num, fun j hj => ?_, Kp.trans HW.out N2.out⟩
           rcases Nat.lt_succ_iff_lt_or_eq.1 hj with h | h
           ·exact HA.out j h
           ·rw [h]; exact HT.out
          case measure => simp [intOf]; omega
      ·have HF : Hid (V = false) := HBAD.out (fun _ h => absurd h hm)
       have hne : ((ns.length : Int) != 2) = true := bne_iff_ne.2 hm
       clear hm
       go_wp2
       go_ret
       exact ⟨ret_bool HF.out.symm, Kp.trans HW.out ((Kp.refl W1).alloc _ _)⟩
     ·by_cases h3 : kd = 3
      ·subst h3
       by_cases hm : (ns.length : Int) = 6
       ·have HNM : Hid ((ns.length : Int) = kdN 3) := hm
        have hne : ((ns.length : Int) != 6) = false := by simp [hm]
        clear hm
        by_cases hk0 : k = 0
        ·subst hk0
         simp only [Nat.zero_mul, Nat.add_zero] at q0 q1
         have HF : Hid (V = false) := HBAD.out (fun _ _ _ h => by rcases h with h | h <;> omega)
         go_wp2
         go_ret
         exact ⟨ret_bool HF.out.symm, Kp.trans HW.out ((Kp.refl W1).alloc _ _)⟩
        ·have hz : ((k : Int) == 0) = false := by simp; omega
         obtain ⟨W2, hW2⟩ : ∃ W2, W1.alloc (.cells #[.int .i64 3, .slice pa ns.length pc] 98) = W2 := ⟨_, rfl⟩
         have N2 : Hid (Kp W1 W2) := by show Kp _ _; rw [← hW2]; exact (Kp.refl W1).alloc _ _
         have HI2 : Hid (Ints W2 pa ns) := Ints.nw HI.out N2.out.nw
         have HW2 : Hid (_ = W2) := hW2
         clear hW2 hb
         go_wp2
         rw [HW2.out]
         go_loop [44] (fun i => ∃ j : Nat, j ≤ ns.length ∧ i = .int .i64 (j : Int) ∧ ∀ m, m < j → fixB (intAt ns m) = true) (fun i => ns.length - (intOf i).toNat)
         case atStart => exact ⟨0, Nat.zero_le _, rfl, fun m hm => absurd hm (by omega)⟩
         case round =>
          obtain ⟨j, hj, rfl, ha⟩ := hrel
          have HA2 : Hid _ := ha
          clear ha
          by_cases hlt2 : j < ns.length
          ·rcases HI2.out with h | ⟨b2, off2, rfl, hb2, hc2⟩
           ·rw [h] at hlt2; simp at hlt2
           have q2 := hc2 j hlt2
           clear hc2
           obtain ⟨x, hx⟩ : ∃ x, intAt ns j = x := ⟨_, rfl⟩
           have HX : Hid (intAt ns j = x) := hx
           rw [hx] at q2
           clear hx
           have hcall : Hid _ := fun w => sgoodF x w
           cases hf : fixB x with
           | true =>
            rw [hf] at hcall
            have HF : Hid (fixB x = true) := hf
            clear hf
            go_wp2_with fail
            refine (hcall.out _).mono ?_
            rintro e w1 ⟨rfl, rfl⟩
            go_wp2
            go_round
            case rel =>
             refine ⟨j + 1, by omega, by go_num, fun m hm => ?_⟩
             rcases Nat.lt_succ_iff_lt_or_eq.1 hm with h | h
             ·exact HA2.out m h
             ·rw [h, HX.out]; exact HF.out
            case measure => simp [intOf]; omega
           | false =>
            rw [hf] at hcall
            have HF : Hid (V = false) := HBAD.out (fun _ _ h3 => by
             have := all_false _ 0 ns j hlt2 (HX.out ▸ hf)
             rw [h3] at this
             cases this)
            clear hf
            go_wp2_with fail
            refine (hcall.out _).mono ?_
            rintro e w1 ⟨rfl, rfl⟩
            go_wp2
            go_ret
            exact ⟨ret_bool HF.out.symm, Kp.trans HW.out N2.out⟩
          ·have HT : Hid (stOk l k = true) := HYES.out rfl HNM.out (all_true _ 0 _ (fun m hm => HA2.out m (by omega))) (by first | exact Or.inl hk0 | exact Or.inr rfl | exact Or.inr trivial)
           clear HA2
           go_wp2
           go_roundw
           case rel =>
            refine ⟨k + 1, by omega, by go_num, fun j hj => ?_, Kp.trans HW.out N2.out⟩
            rcases Nat.lt_succ_iff_lt_or_eq.1 hj with h | h
            ·exact HA.out j h
            ·rw [h]; exact HT.out
           case measure => simp [intOf]; omega
       ·have HF : Hid (V = false) := HBAD.out (fun _ h => absurd h hm)
        have hne : ((ns.length : Int) != 6) = true := bne_iff_ne.2 hm
        clear hm
        go_wp2
        go_ret
        exact ⟨ret_bool HF.out.symm, Kp.trans HW.out ((Kp.refl W1).alloc _ _)⟩
      ·by_cases h4 : kd = 4
       ·subst h4
        by_cases hm : (ns.length : Int) = 0
        ·have HNM : Hid ((ns.length : Int) = kdN 4) := hm
         have hne : ((ns.length : Int) != 0) = false := by simp [hm]
         clear hm
         by_cases hk0 : k = 0
         ·subst hk0
          simp only [Nat.zero_mul, Nat.add_zero] at q0 q1
          have HF : Hid (V = false) := HBAD.out (fun _ _ _ h => by rcases h with h | h <;> omega)
          go_wp2
          go_ret
          exact ⟨ret_bool HF.out.symm, Kp.trans HW.out ((Kp.refl W1).alloc _ _)⟩
         ·have hz : ((k : Int) == 0) = false := by simp; omega
          obtain ⟨W2, hW2⟩ : ∃ W2, W1.alloc (.cells #[.int .i64 4, .slice pa ns.length pc] 98) = W2 := ⟨_, rfl⟩
          have N2 : Hid (Kp W1 W2) := by show Kp _ _; rw [← hW2]; exact (Kp.refl W1).alloc _ _
          have HI2 : Hid (Ints W2 pa ns) := Ints.nw HI.out N2.out.nw
          have HW2 : Hid (_ = W2) := hW2
          clear hW2 hb
          go_wp2
          rw [HW2.out]
          go_loop [44] (fun i => ∃ j : Nat, j ≤ ns.length ∧ i = .int .i64 (j : Int) ∧ ∀ m, m < j → fixB (intAt ns m) = true) (fun i => ns.length - (intOf i).toNat)
          case atStart => exact ⟨0, Nat.zero_le _, rfl, fun m hm => absurd hm (by omega)⟩
          case round =>
           obtain ⟨j, hj, rfl, ha⟩ := hrel
           have HA2 : Hid _ := ha
           clear ha
           by_cases hlt2 : j < ns.length
           ·rcases HI2.out with h | ⟨b2, off2, rfl, hb2, hc2⟩
            ·rw [h] at hlt2; simp at hlt2
            have q2 := hc2 j hlt2
            clear hc2
            obtain ⟨x, hx⟩ : ∃ x, intAt ns j = x := ⟨_, rfl⟩
            have HX : Hid (intAt ns j = x) := hx
            rw [hx] at q2
            clear hx
            have hcall : Hid _ := fun w => sgoodF x w
            cases hf : fixB x with
            | true =>
             rw [hf] at hcall
             have HF : Hid (fixB x = true) := hf
             clear hf
             go_wp2_with fail
             refine (hcall.out _).mono ?_
             rintro e w1 ⟨rfl, rfl⟩
             go_wp2
             go_round
             case rel =>
              refine ⟨j + 1, by omega, by go_num, fun m hm => ?_⟩
              rcases Nat.lt_succ_iff_lt_or_eq.1 hm with h | h
              ·exact HA2.out m h
              ·rw [h, HX.out]; exact HF.out
             case measure => simp [intOf]; omega
            | false =>
             rw [hf] at hcall
             have HF : Hid (V = false) := HBAD.out (fun _ _ h3 => by
              have := all_false _ 0 ns j hlt2 (HX.out ▸ hf)
              rw [h3] at this
              cases this)
             clear hf
             go_wp2_with fail
             refine (hcall.out _).mono ?_
             rintro e w1 ⟨rfl, rfl⟩
             go_wp2
             go_ret
             exact ⟨ret_bool HF.out.symm, Kp.trans HW.out N2.out⟩
           ·have HT : Hid (stOk l k = true) := HYES.out rfl HNM.out (all_true _ 0 _ (fun m hm => HA2.out m (by omega))) (by first | exact Or.inl hk0 | exact Or.inr rfl | exact Or.inr trivial)
            clear HA2
            go_wp2
            go_roundw
            case rel =>
             refine ⟨k + 1, by omega, by go_num, fun j hj => ?_, Kp.trans HW.out N2.out⟩
             rcases Nat.lt_succ_iff_lt_or_eq.1 hj with h | h
             ·exact HA.out j h
             ·rw [h]; exact HT.out
            case measure => simp [intOf]; omega
        ·have HF : Hid (V = false) := HBAD.out (fun _ h => absurd h hm)
         have hne : ((ns.length : Int) != 0) = true := bne_iff_ne.2 hm
         clear hm
         go_wp2
         go_ret
         exact ⟨ret_bool HF.out.symm, Kp.trans HW.out ((Kp.refl W1).alloc _ _)⟩
       ·have HF : Hid (V = false) := HBAD.out (fun h => by unfold kdB at h; simp [h1, h2, h3, h4] at h)
        have e1 : (kd == 1) = false := by simp [h1]
        have e2 : (kd == 2) = false := by simp [h2]
        have e3 : (kd == 3) = false := by simp [h3]
        have e4 : (kd == 4) = false := by simp [h4]
        have hne : ((ns.length : Int) != (-1)) = true := bne_iff_ne.2 (by omega)
        clear h1 h2 h3 h4
        go_wp2
        go_ret
        exact ⟨ret_bool HF.out.symm, Kp.trans HW.out ((Kp.refl W1).alloc _ _)⟩
   ·have HF : Hid (V = true) := HV.out.symm.trans (stsB_true (fun j hj => HA.out j (by omega)))
    clear HA
    go_wp2
    go_ret
    exact ⟨ret_bool HF.out.symm, HW.out⟩
 ·rw [decide_eq_false h60, Bool.false_and]
  have hd : decide ((60 : Int) < l.length) = true := decide_eq_true (by omega)
  clear h60
  go_enter Try.func59, Try.ntmps59
  go_wp2
  go_ret
  exact ⟨rfl, Kp.refl _⟩
set_option maxRecDepth 100000 in
set_option maxHeartbeats 4000000 in
theorem slinesOf (w : World) (a : Option Addr) (c : Nat) (l : List SD) (hl : l.length ≤ 1048576) (hns : ∀ i, i < l.length → (stAt l i).ns.length ≤ 1048576) (hr : Steps w a l) :
  Calls Try.prog 21 #[.slice a l.length c] w fun e w' => ∃ v, e = .returned (.tuple #[v, .bool (stsB l)]) ∧ LsOk w' w.heap.size v (lsV l) ∧ Nw w w' := by
 have H1 : Hid _ := sgoodSteps w a c l hl hns hr
 have HR : Hid (Steps w a l) := hr
 clear hr hns
 unfold lsV
 cases b : stsB l with
 | false =>
  rw [b] at H1
  simp only [Bool.false_eq_true, if_false]
  clear b
  generalize l.length = n at *
  go_enter Try.func21, Try.ntmps21
  go_wp2_with fail
  refine Calls.mono H1.out ?_
  rintro e w1 ⟨rfl, k1⟩
  have K1 : Hid (Nw w w1) := k1.nw
  clear k1
  go_wp2
  go_ret2
  exact ⟨_, rfl, LsOk.of (OwnLn.nil _ _) rfl, K1.out⟩
 | true =>
  rw [b] at H1
  simp only [if_true]
  obtain ⟨hl60, hok⟩ := stsB_all b
  have HS : Hid (∀ w, Steps w a l → _) := fun w h => slines w a c l hl60 hok h
  have HGL : Hid (goodL (lnsP l) = true) := lns_good hok hl60
  have HM : Hid (manyL (lnsP l) ≤ 600) := lns_many hok hl60
  have HLL : Hid ((lnsP l).length ≤ 1048576) := by
   have h1 := endL_len (stS l l.length).o (stS l l.length).p false
   have h2 := (stS_bd hok l.length (Nat.le_refl _)).2.2.1
   show (lnsP l).length ≤ 1048576
   unfold lnsP
   omega
  clear b hok hl60 hl
  generalize l.length = n at *
  go_enter Try.func21, Try.ntmps21
  go_wp2_with fail
  refine Calls.mono H1.out ?_
  rintro e w1 ⟨rfl, k1⟩
  have N1 : Hid (Nw w w1) := k1.nw
  clear k1
  go_wp2_with fail
  refine Calls.mono (HS.out _ (Steps.nw HR.out N1.out)) ?_
  rintro e w2 ⟨v, rfl, ⟨it, o2, i2⟩, n2⟩
  obtain ⟨la, lc, hv, hlines⟩ := OwnLn.lines o2
  rw [i2] at hv hlines
  subst hv
  have HG : Hid _ := sgoodL w2 la lc (lnsP l) HLL.out (by have := HM.out; omega) hlines
  rw [HGL.out] at HG
  have N2 : Hid (Nw w w2) := Nw.trans N1.out n2
  have O2 : Hid (LsOk w2 w.heap.size (.slice la (lnsP l).length lc) (lnsP l)) := LsOk.of (OwnLn.base o2 (Below.size N1.out)) i2
  clear o2 i2 n2 hlines
  generalize (lnsP l).length = m at *
  go_wp2_with fail
  refine Calls.mono HG.out ?_
  rintro e w3 ⟨rfl, k3⟩
  have N3 : Hid (Nw w w3) := Nw.trans N2.out k3.nw
  have O3 : Hid (LsOk w3 w.heap.size (.slice la m lc) (lnsP l)) := LsOk.nw O2.out k3.nw
  clear k3
  go_wp2
  go_ret2
  exact ⟨_, rfl, O3.out, N3.out⟩
end Go.Proofs.Ytdjemnbdaddegaa
