/-
  The statements of the reference's dashing that draw their or
-/
import Derived.Test.YtnkeljmecbohkaaGreatJAE
import Derived.Test.YtnkeljmecbohkaaGreatJAF
import Derived.Test.YtnkeljmecbohkaaGreatJAR
import Derived.Test.YtnkeljmecbohkaaGreatJAN
import Derived.Test.YtnkeljmecbohkaaGreatJAA
namespace Go.Proofs.YtnkeljmecbohkaaGreat
open Go.ChangeShapes Go.WideShapes Go.ChangeAt Go.RowKit
set_option linter.unusedVariables false
set_option linter.unusedSimpArgs false
structure NW5 where
 bx : Nat
 nb : Nat
 no : Nat
 n : Nat
 nc : Nat
 k : Nat
 m : Nat
 W : World
 a0 : Act
structure NW5Ok (X : NW5) : Prop where
 cn : X.W.cell? ⟨X.bx, 0, none⟩ = some (.slice (some ⟨X.nb, X.no, none⟩) X.n X.nc)
 c1 : X.W.cell? ⟨X.bx, 1, none⟩ = some (.int .i64 (X.k : Int))
 w1 : IntKind.i64.wrap ((X.k : Int) + 1) = (X.k : Int) + 1
 rm : ((X.k : Int) + 1).tmod (X.n : Int) = (X.m : Int)
 hn : X.n ≠ 0
 cz : ∃ z, X.W.cell? ⟨X.bx, 1, none⟩ = some (.int .i64 z)
 ff : ∀ o, X.W.frozen? ⟨X.bx, o, none⟩ = false
 e0 : X.a0.eval (.tmp 0) = .pointer (some ⟨X.bx, 0, none⟩)
 sz : X.a0.tmps.size = 76
def NW5.val0 (X : NW5) : Nat → Value
 | 0 => .pointer (some ⟨X.bx, 0, none⟩)
 | 31 => .pointer (some ⟨X.bx, 0, none⟩)
 | 32 => .pointer (some ⟨X.bx, 0, none⟩)
 | 33 => .pointer (some ⟨X.bx, 0, none⟩)
 | 34 => .pointer (some ⟨X.bx, 1, none⟩)
 | 35 => .int .i64 (X.k : Int)
 | 36 => .int .i64 ((X.k : Int) + 1)
 | 37 => .pointer (some ⟨X.bx, 0, none⟩)
 | 38 => .pointer (some ⟨X.bx, 0, none⟩)
 | 39 => .pointer (some ⟨X.bx, 0, none⟩)
 | 40 => .slice (some ⟨X.nb, X.no, none⟩) X.n X.nc
 | 41 => .int .i64 (X.n : Int)
 | 42 => .int .i64 (X.m : Int)
 | 43 => .pointer (some ⟨X.bx, 0, none⟩)
 | 44 => .pointer (some ⟨X.bx, 1, none⟩)
 | _ => undef
def NW5.av : Nat → Option Nat
 | _ => none
def NW5.acts : List Nat := [14]
def NW5.Wd (X : NW5) : Nat → (Nat → Value) → World → Prop
  | 0, _, w => w = X.W
  | _, _, w => w = X.W.setCell ⟨X.bx, 1, none⟩ (.int .i64 (X.m : Int))
theorem NW5.chain : chainG (opsOf 5 Tryz.f88) NW5.acts = true := by kernel_rfl
theorem NW5.nodup : NW5.acts.Nodup := by decide
def NW5.L : List (Option Nat × Op × Option (Nat × Bool)) := [
 (some 31, .move (.tmp 0), none),
 (some 32, .move (.tmp 0), none),
 (some 33, .nilCheck (.tmp 32), none),
 (some 34, .fieldAddr 100 (.tmp 33) 1, none),
 (some 35, .load 3 (.tmp 34), none),
 (some 36, .binOp .add 3 (.tmp 35) (.const (.int .i64 1)) 3, none),
 (some 37, .move (.tmp 0), none),
 (some 38, .nilCheck (.tmp 37), none),
 (some 39, .fieldAddr 100 (.tmp 38) 0, none),
 (some 40, .load 26 (.tmp 39), none),
 (some 41, .call { callee := .builtin .len, args := #[(.tmp 40)], argTypes := #[26] }, none),
 (some 42, .binOp .rem 3 (.tmp 36) (.tmp 41) 3, none),
 (some 43, .nilCheck (.tmp 31), none),
 (some 44, .fieldAddr 100 (.tmp 43) 1, none),
 (none, .store 3 (.tmp 44) (.tmp 42), none)]
theorem NW5.isL : (opsOf 5 Tryz.f88).toList.map tri = NW5.L := by kernel_rfl
theorem NW5.ini {X : NW5} (ok : NW5Ok X) : ∀ n ∈ [0], X.a0.eval (.tmp n) = X.val0 n := by
 simp only [List.forall_mem_cons]
 exact ⟨ok.e0, List.forall_mem_nil _⟩
abbrev NW5.St (X : NW5) (Q : PQ) (i : Nat) : Prop := StepG (opsOf 5 Tryz.f88) NW5.acts NW5.av X.val0 X.Wd X.a0 Q i
theorem NW5.plain (X : NW5) (ok : NW5Ok X) {Q : PQ} : ∀ i ∈ [0, 1, 2, 3, 5, 6, 7, 8, 10, 11, 12, 13], NW5.St X Q i := by
 simp only [List.forall_mem_cons]
 refine ⟨?_, ?_, ?_, ?_, ?_, ?_, ?_, ?_, ?_, ?_, ?_, ?_, List.forall_mem_nil _⟩
 all_goals
  refine st_plain NW5.isL (NW5.ini ok) ok.sz rfl (by kernel_rfl) ?_
  intro γ w n o hW hop
  unfold execOp
  rw [hop]
  simp [envR, valG, NW5.av, NW5.val0, ok.w1, ok.rm, ok.hn, go_sem]
theorem NW5.soon (X : NW5) (ok : NW5Ok X) {Q : PQ} : ∀ i ∈ [4, 9], NW5.St X Q i := by
 simp only [List.forall_mem_cons]
 refine ⟨?_, ?_, List.forall_mem_nil _⟩
 all_goals
  refine st_plainM (m := 0) NW5.isL (NW5.ini ok) ok.sz rfl (by kernel_rfl) ?_
  intro γ w n o hn hW hop
  obtain rfl : n = 0 := by omega
  have hk : w = X.W := hW
  subst hk
  unfold execOp
  rw [hop]
  simp [envR, valG, NW5.av, NW5.val0, ok.c1, ok.cn, go_sem]
theorem NW5.s14 (X : NW5) (ok : NW5Ok X) {Q : PQ} : NW5.St X Q 14 := by
 intro γ listed a w o hF hC hW h1 ho h2
 obtain ⟨hd, hop, hg⟩ := fieldsL NW5.isL (i := 14) rfl ho
 have e44 : a.eval (.tmp 44) = .pointer (some ⟨X.bx, 1, none⟩) := known hF ho h2 (NW5.ini ok) ok.sz (by kernel_rfl)
 have e42 : a.eval (.tmp 42) = .int .i64 (X.m : Int) := known hF ho h2 (NW5.ini ok) ok.sz (by kernel_rfl)
 have hu := unl (hF.lt ho) h1
 refine st_actG (k := 0) NW5.chain NW5.nodup rfl hF hC hW h1 ho h2 (Or.inl hd) (injG (by kernel_rfl) hu) hg ?_
 intro hW0 K hK
 have hw0 : w = X.W := hW0
 obtain ⟨z0, f0⟩ := ok.cz
 have ff := ok.ff
 have hr : (execOp a.eval o).run Tryz.prog X.W = .ok .skip (X.W.setCell ⟨X.bx, 1, none⟩ (.int .i64 (X.m : Int))) := by
  generalize a.eval = ρ at e44 e42 ⊢
  unfold execOp
  rw [hop]
  simp [e44, e42, f0, ff, go_sem]
 unfold Oper.wp
 rw [hw0, hr]
 exact hK undef _ rfl
theorem NW5.size : (opsOf 5 Tryz.f88).size = 15 := by kernel_rfl
theorem NW5.rest (X : NW5) (ok : NW5Ok X) {Q : PQ} : ∀ i ∈ [14], NW5.St X Q i := by
 simp only [List.forall_mem_cons]
 exact ⟨NW5.s14 X ok, List.forall_mem_nil _⟩
theorem NW5.steps (X : NW5) (ok : NW5Ok X) {Q : PQ} (i : Nat) (hi : i < (opsOf 5 Tryz.f88).size) : NW5.St X Q i := by
 rw [NW5.size] at hi
 rcases (by decide : ∀ i, i < 15 → i ∈ [0, 1, 2, 3, 5, 6, 7, 8, 10, 11, 12, 13] ∨ i ∈ [4, 9] ∨ i ∈ [14]) i hi with h | h | h
 · exact NW5.plain X ok i h
 · exact NW5.soon X ok i h
 · exact NW5.rest X ok i h
theorem NW5.run (X : NW5) (ok : NW5Ok X) {Q : PQ} (w : World) (h0 : X.Wd 0 (fun _ => undef) w.drew) (hend : ∀ (γ : Nat → Value) w', X.Wd 1 γ w' → Q .normal ((((((((((((((X.a0.put (some 31) (.pointer (some ⟨X.bx, 0, none⟩))).put (some 32) (.pointer (some ⟨X.bx, 0, none⟩))).put (some 33) (.pointer (some ⟨X.bx, 0, none⟩))).put (some 34) (.pointer (some ⟨X.bx, 1, none⟩))).put (some 35) (.int .i64 (X.k : Int))).put (some 36) (.int .i64 ((X.k : Int) + 1))).put (some 37) (.pointer (some ⟨X.bx, 0, none⟩))).put (some 38) (.pointer (some ⟨X.bx, 0, none⟩))).put (some 39) (.pointer (some ⟨X.bx, 0, none⟩))).put (some 40) (.slice (some ⟨X.nb, X.no, none⟩) X.n X.nc)).put (some 41) (.int .i64 (X.n : Int))).put (some 42) (.int .i64 (X.m : Int))).put (some 43) (.pointer (some ⟨X.bx, 0, none⟩))).put (some 44) (.pointer (some ⟨X.bx, 1, none⟩))) w') : (Code.region 5 (opsOf 5 Tryz.f88) true).wp Tryz.prog Q X.a0 w := by
 refine reg_act (acts := NW5.acts) (av := NW5.av) (val0 := X.val0) (Wd := X.Wd) (by kernel_rfl) (by kernel_rfl) (by rw [NW5.size]; decide) (fun i hi => NW5.steps X ok i hi) _ h0 ?_
 intro γ w' h
 exact end_at (hend γ w' h) (by kernel_rfl)
structure NW6 where
 bx : Nat
 nb : Nat
 no : Nat
 n : Nat
 nc : Nat
 m : Nat
 x : Int
 W : World
 a0 : Act
structure NW6Ok (X : NW6) : Prop where
 cn : X.W.cell? ⟨X.bx, 0, none⟩ = some (.slice (some ⟨X.nb, X.no, none⟩) X.n X.nc)
 c1 : X.W.cell? ⟨X.bx, 1, none⟩ = some (.int .i64 (X.m : Int))
 hm : X.m < X.n
 cx : X.W.cell? ⟨X.nb, X.no + X.m, none⟩ = some (.int .i64 X.x)
 cz : ∃ z, X.W.cell? ⟨X.bx, 2, none⟩ = some (.int .i64 z)
 ff : ∀ o, X.W.frozen? ⟨X.bx, o, none⟩ = false
 e0 : X.a0.eval (.tmp 0) = .pointer (some ⟨X.bx, 0, none⟩)
 sz : X.a0.tmps.size = 76
def NW6.val0 (X : NW6) : Nat → Value
 | 0 => .pointer (some ⟨X.bx, 0, none⟩)
 | 45 => .pointer (some ⟨X.bx, 0, none⟩)
 | 46 => .pointer (some ⟨X.bx, 0, none⟩)
 | 47 => .pointer (some ⟨X.bx, 0, none⟩)
 | 48 => .pointer (some ⟨X.bx, 0, none⟩)
 | 49 => .slice (some ⟨X.nb, X.no, none⟩) X.n X.nc
 | 50 => .pointer (some ⟨X.bx, 0, none⟩)
 | 51 => .pointer (some ⟨X.bx, 0, none⟩)
 | 52 => .pointer (some ⟨X.bx, 1, none⟩)
 | 53 => .int .i64 (X.m : Int)
 | 54 => .pointer (some ⟨X.nb, X.no + X.m, none⟩)
 | 55 => .int .i64 X.x
 | 56 => .pointer (some ⟨X.bx, 0, none⟩)
 | 57 => .pointer (some ⟨X.bx, 2, none⟩)
 | _ => undef
def NW6.av : Nat → Option Nat
 | _ => none
def NW6.acts : List Nat := [13]
def NW6.Wd (X : NW6) : Nat → (Nat → Value) → World → Prop
  | 0, _, w => w = X.W
  | _, _, w => w = X.W.setCell ⟨X.bx, 2, none⟩ (.int .i64 X.x)
theorem NW6.chain : chainG (opsOf 6 Tryz.f88) NW6.acts = true := by kernel_rfl
theorem NW6.nodup : NW6.acts.Nodup := by decide
def NW6.L : List (Option Nat × Op × Option (Nat × Bool)) := [
 (some 45, .move (.tmp 0), none),
 (some 46, .move (.tmp 0), none),
 (some 47, .nilCheck (.tmp 46), none),
 (some 48, .fieldAddr 100 (.tmp 47) 0, none),
 (some 49, .load 26 (.tmp 48), none),
 (some 50, .move (.tmp 0), none),
 (some 51, .nilCheck (.tmp 50), none),
 (some 52, .fieldAddr 100 (.tmp 51) 1, none),
 (some 53, .load 3 (.tmp 52), none),
 (some 54, .indexAddr 26 (.tmp 49) (.tmp 53), none),
 (some 55, .load 3 (.tmp 54), none),
 (some 56, .nilCheck (.tmp 45), none),
 (some 57, .fieldAddr 100 (.tmp 56) 2, none),
 (none, .store 3 (.tmp 57) (.tmp 55), none)]
theorem NW6.isL : (opsOf 6 Tryz.f88).toList.map tri = NW6.L := by kernel_rfl
theorem NW6.ini {X : NW6} (ok : NW6Ok X) : ∀ n ∈ [0], X.a0.eval (.tmp n) = X.val0 n := by
 simp only [List.forall_mem_cons]
 exact ⟨ok.e0, List.forall_mem_nil _⟩
abbrev NW6.St (X : NW6) (Q : PQ) (i : Nat) : Prop := StepG (opsOf 6 Tryz.f88) NW6.acts NW6.av X.val0 X.Wd X.a0 Q i
theorem NW6.plain (X : NW6) (ok : NW6Ok X) {Q : PQ} : ∀ i ∈ [0, 1, 2, 3, 5, 6, 7, 9, 11, 12], NW6.St X Q i := by
 simp only [List.forall_mem_cons]
 refine ⟨?_, ?_, ?_, ?_, ?_, ?_, ?_, ?_, ?_, ?_, List.forall_mem_nil _⟩
 all_goals
  refine st_plain NW6.isL (NW6.ini ok) ok.sz rfl (by kernel_rfl) ?_
  intro γ w n o hW hop
  unfold execOp
  rw [hop]
  simp [envR, valG, NW6.av, NW6.val0, ok.hm, go_sem]
theorem NW6.soon (X : NW6) (ok : NW6Ok X) {Q : PQ} : ∀ i ∈ [4, 8, 10], NW6.St X Q i := by
 simp only [List.forall_mem_cons]
 refine ⟨?_, ?_, ?_, List.forall_mem_nil _⟩
 all_goals
  refine st_plainM (m := 0) NW6.isL (NW6.ini ok) ok.sz rfl (by kernel_rfl) ?_
  intro γ w n o hn hW hop
  obtain rfl : n = 0 := by omega
  have hk : w = X.W := hW
  subst hk
  unfold execOp
  rw [hop]
  simp [envR, valG, NW6.av, NW6.val0, ok.cn, ok.c1, ok.cx, go_sem]
theorem NW6.s13 (X : NW6) (ok : NW6Ok X) {Q : PQ} : NW6.St X Q 13 := by
 intro γ listed a w o hF hC hW h1 ho h2
 obtain ⟨hd, hop, hg⟩ := fieldsL NW6.isL (i := 13) rfl ho
 have e57 : a.eval (.tmp 57) = .pointer (some ⟨X.bx, 2, none⟩) := known hF ho h2 (NW6.ini ok) ok.sz (by kernel_rfl)
 have e55 : a.eval (.tmp 55) = .int .i64 X.x := known hF ho h2 (NW6.ini ok) ok.sz (by kernel_rfl)
 have hu := unl (hF.lt ho) h1
 refine st_actG (k := 0) NW6.chain NW6.nodup rfl hF hC hW h1 ho h2 (Or.inl hd) (injG (by kernel_rfl) hu) hg ?_
 intro hW0 K hK
 have hw0 : w = X.W := hW0
 obtain ⟨z0, f0⟩ := ok.cz
 have ff := ok.ff
 have hr : (execOp a.eval o).run Tryz.prog X.W = .ok .skip (X.W.setCell ⟨X.bx, 2, none⟩ (.int .i64 X.x)) := by
  generalize a.eval = ρ at e57 e55 ⊢
  unfold execOp
  rw [hop]
  simp [e57, e55, f0, ff, go_sem]
 unfold Oper.wp
 rw [hw0, hr]
 exact hK undef _ rfl
theorem NW6.size : (opsOf 6 Tryz.f88).size = 14 := by kernel_rfl
theorem NW6.rest (X : NW6) (ok : NW6Ok X) {Q : PQ} : ∀ i ∈ [13], NW6.St X Q i := by
 simp only [List.forall_mem_cons]
 exact ⟨NW6.s13 X ok, List.forall_mem_nil _⟩
theorem NW6.steps (X : NW6) (ok : NW6Ok X) {Q : PQ} (i : Nat) (hi : i < (opsOf 6 Tryz.f88).size) : NW6.St X Q i := by
 rw [NW6.size] at hi
 rcases (by decide : ∀ i, i < 14 → i ∈ [0, 1, 2, 3, 5, 6, 7, 9, 11, 12] ∨ i ∈ [4, 8, 10] ∨ i ∈ [13]) i hi with h | h | h
 · exact NW6.plain X ok i h
 · exact NW6.soon X ok i h
 · exact NW6.rest X ok i h
theorem NW6.run (X : NW6) (ok : NW6Ok X) {Q : PQ} (w : World) (h0 : X.Wd 0 (fun _ => undef) w.drew) (hend : ∀ (γ : Nat → Value) w', X.Wd 1 γ w' → Q .normal (((((((((((((X.a0.put (some 45) (.pointer (some ⟨X.bx, 0, none⟩))).put (some 46) (.pointer (some ⟨X.bx, 0, none⟩))).put (some 47) (.pointer (some ⟨X.bx, 0, none⟩))).put (some 48) (.pointer (some ⟨X.bx, 0, none⟩))).put (some 49) (.slice (some ⟨X.nb, X.no, none⟩) X.n X.nc)).put (some 50) (.pointer (some ⟨X.bx, 0, none⟩))).put (some 51) (.pointer (some ⟨X.bx, 0, none⟩))).put (some 52) (.pointer (some ⟨X.bx, 1, none⟩))).put (some 53) (.int .i64 (X.m : Int))).put (some 54) (.pointer (some ⟨X.nb, X.no + X.m, none⟩))).put (some 55) (.int .i64 X.x)).put (some 56) (.pointer (some ⟨X.bx, 0, none⟩))).put (some 57) (.pointer (some ⟨X.bx, 2, none⟩))) w') : (Code.region 6 (opsOf 6 Tryz.f88) true).wp Tryz.prog Q X.a0 w := by
 refine reg_act (acts := NW6.acts) (av := NW6.av) (val0 := X.val0) (Wd := X.Wd) (by kernel_rfl) (by kernel_rfl) (by rw [NW6.size]; decide) (fun i hi => NW6.steps X ok i hi) _ h0 ?_
 intro γ w' h
 exact end_at (hend γ w' h) (by kernel_rfl)
structure SG6 where
 ax : Int
 ay : Int
 bx : Int
 cy : Int
 g : Int
 n : Int
 b0 : Nat
 b1 : Nat
 W : World
 a0 : Act
structure SG6Ok (X : SG6) : Prop where
 c0 : X.W.cell? ⟨X.b0, 0, none⟩ = some (.int .i64 X.ax)
 c1 : X.W.cell? ⟨X.b0, 1, none⟩ = some (.int .i64 X.ay)
 c2 : X.W.cell? ⟨X.b1, 0, none⟩ = some (.int .i64 X.bx)
 c3 : X.W.cell? ⟨X.b1, 1, none⟩ = some (.int .i64 X.cy)
 w1 : IntKind.i64.wrap (X.bx - X.ax) = X.bx - X.ax
 w2 : IntKind.i64.wrap ((X.bx - X.ax) * X.g) = (X.bx - X.ax) * X.g
 w3 : IntKind.i64.wrap (X.ax + (X.bx - X.ax) * X.g / X.n) = X.ax + (X.bx - X.ax) * X.g / X.n
 w4 : IntKind.i64.wrap (X.cy - X.ay) = X.cy - X.ay
 w5 : IntKind.i64.wrap ((X.cy - X.ay) * X.g) = (X.cy - X.ay) * X.g
 w6 : IntKind.i64.wrap (X.ay + (X.cy - X.ay) * X.g / X.n) = X.ay + (X.cy - X.ay) * X.g / X.n
 n0 : 0 < X.n
 n1 : X.n ≤ 4611686018427387904
 d1 : -4611686018427387904 ≤ (X.bx - X.ax) * X.g ∧ (X.bx - X.ax) * X.g ≤ 4611686018427387904
 d2 : -4611686018427387904 ≤ (X.cy - X.ay) * X.g ∧ (X.cy - X.ay) * X.g ≤ 4611686018427387904
 e4 : X.a0.eval (.tmp 4) = .pointer (some ⟨X.b0, 0, none⟩)
 e5 : X.a0.eval (.tmp 5) = .pointer (some ⟨X.b1, 0, none⟩)
 e6 : X.a0.eval (.tmp 6) = .int .i64 X.n
 e7 : X.a0.eval (.tmp 7) = .int .i64 X.g
 sz : X.a0.tmps.size = 92
def SG6.val0 (X : SG6) : Nat → Value
 | 4 => .pointer (some ⟨X.b0, 0, none⟩)
 | 5 => .pointer (some ⟨X.b1, 0, none⟩)
 | 6 => .int .i64 X.n
 | 7 => .int .i64 X.g
 | 43 => .pointer (some ⟨X.b0, 0, none⟩)
 | 44 => .int .i64 X.ax
 | 45 => .pointer (some ⟨X.b1, 0, none⟩)
 | 46 => .int .i64 X.bx
 | 47 => .pointer (some ⟨X.b0, 0, none⟩)
 | 48 => .int .i64 X.ax
 | 49 => .int .i64 ((X.bx - X.ax))
 | 50 => .int .i64 X.g
 | 51 => .int .i64 (((X.bx - X.ax) * X.g))
 | 52 => .int .i64 X.n
 | 53 => .int .i64 (((X.bx - X.ax) * X.g / X.n))
 | 54 => .int .i64 (X.ax + (X.bx - X.ax) * X.g / X.n)
 | 55 => .pointer (some ⟨X.b0, 1, none⟩)
 | 56 => .int .i64 X.ay
 | 57 => .pointer (some ⟨X.b1, 1, none⟩)
 | 58 => .int .i64 X.cy
 | 59 => .pointer (some ⟨X.b0, 1, none⟩)
 | 60 => .int .i64 X.ay
 | 61 => .int .i64 ((X.cy - X.ay))
 | 62 => .int .i64 X.g
 | 63 => .int .i64 (((X.cy - X.ay) * X.g))
 | 64 => .int .i64 X.n
 | 65 => .int .i64 (((X.cy - X.ay) * X.g / X.n))
 | 66 => .int .i64 (X.ay + (X.cy - X.ay) * X.g / X.n)
 | 67 => .agg #[.int .i64 (X.ax + (X.bx - X.ax) * X.g / X.n), .int .i64 (X.ay + (X.cy - X.ay) * X.g / X.n)]
 | _ => undef
def SG6.av : Nat → Option Nat
 | 8 => some 0
 | _ => none
def SG6.acts : List Nat := [25, 26]
def SG6.Wd (X : SG6) : Nat → (Nat → Value) → World → Prop
  | 0, _, w => Kp X.W w
  | 1, γ, w => ∃ g, γ 0 = .pointer (some ⟨g, 0, none⟩) ∧ X.W.heap.size ≤ g ∧ (w.cell? ⟨g, 0, none⟩ = some (.int .i64 0) ∧ w.cell? ⟨g, 1, none⟩ = some (.int .i64 0)) ∧ (∀ o, w.frozen? ⟨g, o, none⟩ = false) ∧ Kp X.W w
  | _, γ, w => ∃ g, γ 0 = .pointer (some ⟨g, 0, none⟩) ∧ X.W.heap.size ≤ g ∧ (w.cell? ⟨g, 0, none⟩ = some (.int .i64 (X.ax + (X.bx - X.ax) * X.g / X.n)) ∧ w.cell? ⟨g, 1, none⟩ = some (.int .i64 (X.ay + (X.cy - X.ay) * X.g / X.n))) ∧ (∀ o, w.frozen? ⟨g, o, none⟩ = false) ∧ Kp X.W w
theorem SG6.kp {X : SG6} : ∀ {n : Nat} {γ : Nat → Value} {w : World}, X.Wd n γ w → Kp X.W w
  | 0, _, _, h => h
  | 1, _, _, ⟨_, _, _, _, _, h⟩ => h
  | _ + 2, _, _, ⟨_, _, _, _, _, h⟩ => h
theorem SG6.keep {X : SG6} : ∀ {n : Nat} {γ : Nat → Value} {w w' : World}, X.Wd n γ w → Kp w w' → X.Wd n γ w'
  | 0, _, _, _, h, k => Kp.trans h k
  | 1, _, w, _, ⟨g, h1, h2, ⟨h30, h31⟩, h5, h6⟩, k => ⟨g, h1, h2, ⟨(k.cells.1 _ _ (World.block_lt_of_cell? w ⟨g, 0, none⟩ h30)).trans h30, (k.cells.1 _ _ (World.block_lt_of_cell? w ⟨g, 0, none⟩ h30)).trans h31⟩, fun o => (k.cells.2 _ _).trans (h5 o), Kp.trans h6 k⟩
  | _ + 2, _, w, _, ⟨g, h1, h2, ⟨h30, h31⟩, h5, h6⟩, k => ⟨g, h1, h2, ⟨(k.cells.1 _ _ (World.block_lt_of_cell? w ⟨g, 0, none⟩ h30)).trans h30, (k.cells.1 _ _ (World.block_lt_of_cell? w ⟨g, 0, none⟩ h30)).trans h31⟩, fun o => (k.cells.2 _ _).trans (h5 o), Kp.trans h6 k⟩
theorem SG6.chain : chainG (opsOf 6 Tryz.f67) SG6.acts = true := by kernel_rfl
theorem SG6.nodup : SG6.acts.Nodup := by decide
def SG6.L : List (Option Nat × Op × Option (Nat × Bool)) := [
 (some 43, .fieldAddr 34 (.tmp 4) 0, none),
 (some 44, .load 3 (.tmp 43), none),
 (some 45, .fieldAddr 34 (.tmp 5) 0, none),
 (some 46, .load 3 (.tmp 45), none),
 (some 47, .fieldAddr 34 (.tmp 4) 0, none),
 (some 48, .load 3 (.tmp 47), none),
 (some 49, .binOp .sub 3 (.tmp 46) (.tmp 48) 3, none),
 (some 50, .move (.tmp 7), none),
 (some 51, .binOp .mul 3 (.tmp 49) (.tmp 50) 3, none),
 (some 52, .move (.tmp 6), none),
 (some 53, .call { callee := .value (.func 86), args := #[(.tmp 51), (.tmp 52)], argTypes := #[3, 3] }, none),
 (some 54, .binOp .add 3 (.tmp 44) (.tmp 53) 3, none),
 (some 55, .fieldAddr 34 (.tmp 4) 1, none),
 (some 56, .load 3 (.tmp 55), none),
 (some 57, .fieldAddr 34 (.tmp 5) 1, none),
 (some 58, .load 3 (.tmp 57), none),
 (some 59, .fieldAddr 34 (.tmp 4) 1, none),
 (some 60, .load 3 (.tmp 59), none),
 (some 61, .binOp .sub 3 (.tmp 58) (.tmp 60) 3, none),
 (some 62, .move (.tmp 7), none),
 (some 63, .binOp .mul 3 (.tmp 61) (.tmp 62) 3, none),
 (some 64, .move (.tmp 6), none),
 (some 65, .call { callee := .value (.func 86), args := #[(.tmp 63), (.tmp 64)], argTypes := #[3, 3] }, none),
 (some 66, .binOp .add 3 (.tmp 56) (.tmp 65) 3, none),
 (some 67, .build 34 #[(0, (.tmp 54)), (1, (.tmp 66))], none),
 (some 8, .alloc 34, none),
 (none, .store 34 (.tmp 8) (.tmp 67), none)]
theorem SG6.isL : (opsOf 6 Tryz.f67).toList.map tri = SG6.L := by kernel_rfl
theorem SG6.ini {X : SG6} (ok : SG6Ok X) : ∀ n ∈ [4, 5, 6, 7], X.a0.eval (.tmp n) = X.val0 n := by
 simp only [List.forall_mem_cons]
 exact ⟨ok.e4, ok.e5, ok.e6, ok.e7, List.forall_mem_nil _⟩
abbrev SG6.St (X : SG6) (Q : PQ) (i : Nat) : Prop := StepG (opsOf 6 Tryz.f67) SG6.acts SG6.av X.val0 X.Wd X.a0 Q i
theorem SG6.plain (X : SG6) (ok : SG6Ok X) {Q : PQ} : ∀ i ∈ [0, 1, 2, 3, 4, 5, 6, 7, 8, 9, 11, 12, 13, 14, 15, 16, 17, 18, 19, 20, 21, 23, 24], SG6.St X Q i := by
 simp only [List.forall_mem_cons]
 refine ⟨?_, ?_, ?_, ?_, ?_, ?_, ?_, ?_, ?_, ?_, ?_, ?_, ?_, ?_, ?_, ?_, ?_, ?_, ?_, ?_, ?_, ?_, ?_, List.forall_mem_nil _⟩
 all_goals
  refine st_plain SG6.isL (SG6.ini ok) ok.sz rfl (by kernel_rfl) ?_
  intro γ w n o hW hop
  have hc_c0 := rq_at (SG6.kp hW) ok.c0
  have hc_c2 := rq_at (SG6.kp hW) ok.c2
  have hc_c1 := rq_at (SG6.kp hW) ok.c1
  have hc_c3 := rq_at (SG6.kp hW) ok.c3
  unfold execOp
  rw [hop]
  simp [envR, valG, SG6.av, SG6.val0, hc_c0, hc_c2, ok.w1, ok.w2, ok.w3, hc_c1, hc_c3, ok.w4, ok.w5, ok.w6, go_sem]
theorem SG6.s25 (X : SG6) (ok : SG6Ok X) {Q : PQ} : SG6.St X Q 25 := by
 intro γ listed a w o hF hC hW h1 ho h2
 obtain ⟨hd, hop, hg⟩ := fieldsL SG6.isL (i := 25) rfl ho
 have hu := unl (hF.lt ho) h1
 refine st_actG (k := 0) SG6.chain SG6.nodup rfl hF hC hW h1 ho h2 (Or.inr ⟨8, hd, rfl⟩) (injG (by kernel_rfl) hu) hg ?_
 intro hW0 K hK
 have hr : (execOp a.eval o).run Tryz.prog w = .ok (.value (.pointer (some ⟨w.heap.size, 0, none⟩))) (w.alloc (.cells #[.int .i64 0, .int .i64 0] 34)) := by
  unfold execOp
  rw [hop]
  simp [go_sem]
 unfold Oper.wp
 rw [hr]
 exact hK _ _ ⟨w.heap.size, rfl, Kp.size hW0, ⟨by simp, by simp⟩, fun o => World.frozen?_alloc_at _ _ _ _ rfl, Kp.alloc hW0 _ _⟩
theorem SG6.s26 (X : SG6) (ok : SG6Ok X) {Q : PQ} : SG6.St X Q 26 := by
 intro γ listed a w o hF hC hW h1 ho h2
 obtain ⟨hd, hop, hg⟩ := fieldsL SG6.isL (i := 26) rfl ho
 have e8 : a.eval (.tmp 8) = γ 0 := known hF ho h2 (SG6.ini ok) ok.sz (by kernel_rfl)
 have e67 : a.eval (.tmp 67) = .agg #[.int .i64 (X.ax + (X.bx - X.ax) * X.g / X.n), .int .i64 (X.ay + (X.cy - X.ay) * X.g / X.n)] := known hF ho h2 (SG6.ini ok) ok.sz (by kernel_rfl)
 have hu := unl (hF.lt ho) h1
 refine st_actG (k := 1) SG6.chain SG6.nodup rfl hF hC hW h1 ho h2 (Or.inl hd) (injG (by kernel_rfl) hu) hg ?_
 intro hW0 K hK
 obtain ⟨g, g0, hg0, ⟨z0, z1⟩, zf, k1⟩ := hW0
 rw [g0] at e8
 obtain ⟨y0, y1⟩ := rq_set2 w g (.int .i64 (X.ax + (X.bx - X.ax) * X.g / X.n)) (.int .i64 (X.ay + (X.cy - X.ay) * X.g / X.n)) z0 z1
 have hr : (execOp a.eval o).run Tryz.prog w = .ok .skip ((w.setCell ⟨g, 0, none⟩ (.int .i64 (X.ax + (X.bx - X.ax) * X.g / X.n))).setCell ⟨g, 1, none⟩ (.int .i64 (X.ay + (X.cy - X.ay) * X.g / X.n))) := by
  generalize a.eval = ρ at e8 e67 ⊢
  unfold execOp
  rw [hop]
  simp [e8, e67, z0, z1, zf, go_sem]
 unfold Oper.wp
 rw [hr]
 exact hK _ _ ⟨g, g0, hg0, ⟨y0, y1⟩, fun o => by rw [World.frozen?_setCell, World.frozen?_setCell]; exact zf o, (Kp.setCell (Kp.setCell k1 hg0 _) hg0 _)⟩
theorem SG6.size : (opsOf 6 Tryz.f67).size = 27 := by kernel_rfl
theorem SG6.rest (X : SG6) (ok : SG6Ok X) {Q : PQ} : ∀ i ∈ [10, 22, 25, 26], SG6.St X Q i := by
 simp only [List.forall_mem_cons]
 exact ⟨st_callK SG6.isL (SG6.ini ok) ok.sz rfl (by kernel_rfl) (fun _ _ => by simp [go_sem]) (fun γ w n hW => (sdown_any _ _ w ok.n0 ok.n1 ok.d1.1 ok.d1.2).mono fun e w' ⟨h1, h2⟩ => ⟨h1, h2 ▸ Kp.refl _⟩) (fun _ _ _ _ hW hk => SG6.keep hW hk),
  st_callK SG6.isL (SG6.ini ok) ok.sz rfl (by kernel_rfl) (fun _ _ => by simp [go_sem]) (fun γ w n hW => (sdown_any _ _ w ok.n0 ok.n1 ok.d2.1 ok.d2.2).mono fun e w' ⟨h1, h2⟩ => ⟨h1, h2 ▸ Kp.refl _⟩) (fun _ _ _ _ hW hk => SG6.keep hW hk),
  SG6.s25 X ok,
  SG6.s26 X ok, List.forall_mem_nil _⟩
theorem SG6.steps (X : SG6) (ok : SG6Ok X) {Q : PQ} (i : Nat) (hi : i < (opsOf 6 Tryz.f67).size) : SG6.St X Q i := by
 rw [SG6.size] at hi
 rcases (by decide : ∀ i, i < 27 → i ∈ [0, 1, 2, 3, 4, 5, 6, 7, 8, 9, 11, 12, 13, 14, 15, 16, 17, 18, 19, 20, 21, 23, 24] ∨ i ∈ [10, 22, 25, 26]) i hi with h | h
 · exact SG6.plain X ok i h
 · exact SG6.rest X ok i h
theorem SG6.run (X : SG6) (ok : SG6Ok X) {Q : PQ} (w : World) (h0 : X.Wd 0 (fun _ => undef) w.drew) (hend : ∀ (γ : Nat → Value) w', X.Wd 2 γ w' → Q .normal ((((((((((((((((((((((((((X.a0.put (some 43) (.pointer (some ⟨X.b0, 0, none⟩))).put (some 44) (.int .i64 X.ax)).put (some 45) (.pointer (some ⟨X.b1, 0, none⟩))).put (some 46) (.int .i64 X.bx)).put (some 47) (.pointer (some ⟨X.b0, 0, none⟩))).put (some 48) (.int .i64 X.ax)).put (some 49) (.int .i64 ((X.bx - X.ax)))).put (some 50) (.int .i64 X.g)).put (some 51) (.int .i64 (((X.bx - X.ax) * X.g)))).put (some 52) (.int .i64 X.n)).put (some 53) (.int .i64 (((X.bx - X.ax) * X.g / X.n)))).put (some 54) (.int .i64 (X.ax + (X.bx - X.ax) * X.g / X.n))).put (some 55) (.pointer (some ⟨X.b0, 1, none⟩))).put (some 56) (.int .i64 X.ay)).put (some 57) (.pointer (some ⟨X.b1, 1, none⟩))).put (some 58) (.int .i64 X.cy)).put (some 59) (.pointer (some ⟨X.b0, 1, none⟩))).put (some 60) (.int .i64 X.ay)).put (some 61) (.int .i64 ((X.cy - X.ay)))).put (some 62) (.int .i64 X.g)).put (some 63) (.int .i64 (((X.cy - X.ay) * X.g)))).put (some 64) (.int .i64 X.n)).put (some 65) (.int .i64 (((X.cy - X.ay) * X.g / X.n)))).put (some 66) (.int .i64 (X.ay + (X.cy - X.ay) * X.g / X.n))).put (some 67) (.agg #[.int .i64 (X.ax + (X.bx - X.ax) * X.g / X.n), .int .i64 (X.ay + (X.cy - X.ay) * X.g / X.n)])).put (some 8) (γ 0)) w') : (Code.region 6 (opsOf 6 Tryz.f67) true).wp Tryz.prog Q X.a0 w := by
 refine reg_act (acts := SG6.acts) (av := SG6.av) (val0 := X.val0) (Wd := X.Wd) (by kernel_rfl) (by kernel_rfl) (by rw [SG6.size]; decide) (fun i hi => SG6.steps X ok i hi) _ h0 ?_
 intro γ w' h
 exact end_at (hend γ w' h) (by kernel_rfl)
structure DW25 where
 bl : Nat
 bd : Nat
 g : Nat
 off : Nat
 n : Nat
 pc : Nat
 i : Nat
 j : Nat
 hx : Int
 hy : Int
 x : Int
 y : Int
 P : World → Prop
 W : World
 a0 : Act
structure DW25Ok (X : DW25) : Prop where
 c0 : X.W.cell? ⟨X.bl, 0, none⟩ = some (.slice (some ⟨X.g, X.off, none⟩) X.n X.pc)
 wi : IntKind.i64.wrap ((X.j : Int) - 1) = (X.i : Int)
 hi : X.i < X.n
 hj : X.j < X.n
 h0 : X.W.cell? ⟨X.g, X.off + X.i * 2, none⟩ = some (.int .i64 X.hx)
 h1 : X.W.cell? ⟨X.g, X.off + X.i * 2 + 1, none⟩ = some (.int .i64 X.hy)
 p0 : X.W.cell? ⟨X.g, X.off + X.j * 2, none⟩ = some (.int .i64 X.x)
 p1 : X.W.cell? ⟨X.g, X.off + X.j * 2 + 1, none⟩ = some (.int .i64 X.y)
 hc : Calls Tryz.prog 67 #[.pointer (some ⟨X.bd, 0, none⟩), .agg #[.int .i64 X.hx, .int .i64 X.hy], .agg #[.int .i64 X.x, .int .i64 X.y]] X.W fun e w' => e = .returned (.tuple #[]) ∧ X.P w'
 e3 : X.a0.eval (.tmp 3) = .pointer (some ⟨X.bl, 0, none⟩)
 e11 : X.a0.eval (.tmp 11) = .pointer (some ⟨X.bd, 0, none⟩)
 e12 : X.a0.eval (.tmp 12) = .int .i64 (X.j : Int)
 sz : X.a0.tmps.size = 171
def DW25.val0 (X : DW25) : Nat → Value
 | 3 => .pointer (some ⟨X.bl, 0, none⟩)
 | 11 => .pointer (some ⟨X.bd, 0, none⟩)
 | 12 => .int .i64 (X.j : Int)
 | 118 => .pointer (some ⟨X.bd, 0, none⟩)
 | 119 => .pointer (some ⟨X.bl, 0, none⟩)
 | 120 => .slice (some ⟨X.g, X.off, none⟩) X.n X.pc
 | 121 => .int .i64 (X.j : Int)
 | 122 => .int .i64 (X.i : Int)
 | 123 => .pointer (some ⟨X.g, X.off + X.i * 2, none⟩)
 | 124 => .agg #[.int .i64 X.hx, .int .i64 X.hy]
 | 125 => .pointer (some ⟨X.bl, 0, none⟩)
 | 126 => .slice (some ⟨X.g, X.off, none⟩) X.n X.pc
 | 127 => .int .i64 (X.j : Int)
 | 128 => .pointer (some ⟨X.g, X.off + X.j * 2, none⟩)
 | 129 => .agg #[.int .i64 X.x, .int .i64 X.y]
 | _ => undef
def DW25.av : Nat → Option Nat
 | 130 => some 0
 | _ => none
def DW25.acts : List Nat := [12]
def DW25.Wd (X : DW25) : Nat → (Nat → Value) → World → Prop
  | 0, _, w => w = X.W
  | _, _, w => X.P w
theorem DW25.chain : chainG (opsOf 25 Tryz.f39) DW25.acts = true := by kernel_rfl
theorem DW25.nodup : DW25.acts.Nodup := by decide
def DW25.L : List (Option Nat × Op × Option (Nat × Bool)) := [
 (some 118, .move (.tmp 11), none),
 (some 119, .fieldAddr 25 (.tmp 3) 0, none),
 (some 120, .load 23 (.tmp 119), none),
 (some 121, .move (.tmp 12), none),
 (some 122, .binOp .sub 3 (.tmp 121) (.const (.int .i64 1)) 3, none),
 (some 123, .indexAddr 23 (.tmp 120) (.tmp 122), none),
 (some 124, .load 34 (.tmp 123), none),
 (some 125, .fieldAddr 25 (.tmp 3) 0, none),
 (some 126, .load 23 (.tmp 125), none),
 (some 127, .move (.tmp 12), none),
 (some 128, .indexAddr 23 (.tmp 126) (.tmp 127), none),
 (some 129, .load 34 (.tmp 128), none),
 (some 130, .call { callee := .value (.func 67), args := #[(.tmp 118), (.tmp 124), (.tmp 129)], argTypes := #[98, 34, 34] }, none)]
theorem DW25.isL : (opsOf 25 Tryz.f39).toList.map tri = DW25.L := by kernel_rfl
theorem DW25.ini {X : DW25} (ok : DW25Ok X) : ∀ n ∈ [3, 11, 12], X.a0.eval (.tmp n) = X.val0 n := by
 simp only [List.forall_mem_cons]
 exact ⟨ok.e3, ok.e11, ok.e12, List.forall_mem_nil _⟩
abbrev DW25.St (X : DW25) (Q : PQ) (i : Nat) : Prop := StepG (opsOf 25 Tryz.f39) DW25.acts DW25.av X.val0 X.Wd X.a0 Q i
theorem DW25.plain (X : DW25) (ok : DW25Ok X) {Q : PQ} : ∀ i ∈ [0, 1, 3, 4, 5, 7, 9, 10], DW25.St X Q i := by
 simp only [List.forall_mem_cons]
 refine ⟨?_, ?_, ?_, ?_, ?_, ?_, ?_, ?_, List.forall_mem_nil _⟩
 all_goals
  refine st_plain DW25.isL (DW25.ini ok) ok.sz rfl (by kernel_rfl) ?_
  intro γ w n o hW hop
  unfold execOp
  rw [hop]
  simp [envR, valG, DW25.av, DW25.val0, ok.wi, ok.hi, ok.hj, go_sem]
theorem DW25.soon (X : DW25) (ok : DW25Ok X) {Q : PQ} : ∀ i ∈ [2, 6, 8, 11], DW25.St X Q i := by
 simp only [List.forall_mem_cons]
 refine ⟨?_, ?_, ?_, ?_, List.forall_mem_nil _⟩
 all_goals
  refine st_plainM (m := 0) DW25.isL (DW25.ini ok) ok.sz rfl (by kernel_rfl) ?_
  intro γ w n o hn hW hop
  obtain rfl : n = 0 := by omega
  have hk : w = X.W := hW
  subst hk
  unfold execOp
  rw [hop]
  simp [envR, valG, DW25.av, DW25.val0, ok.c0, ok.h0, ok.h1, ok.p0, ok.p1, go_sem]
theorem DW25.s12 (X : DW25) (ok : DW25Ok X) {Q : PQ} : DW25.St X Q 12 := by
 intro γ listed a w o hF hC hW h1 ho h2
 obtain ⟨hd, hop, hg⟩ := fieldsL DW25.isL (i := 12) rfl ho
 have e118 : a.eval (.tmp 118) = .pointer (some ⟨X.bd, 0, none⟩) := known hF ho h2 (DW25.ini ok) ok.sz (by kernel_rfl)
 have e124 : a.eval (.tmp 124) = .agg #[.int .i64 X.hx, .int .i64 X.hy] := known hF ho h2 (DW25.ini ok) ok.sz (by kernel_rfl)
 have e129 : a.eval (.tmp 129) = .agg #[.int .i64 X.x, .int .i64 X.y] := known hF ho h2 (DW25.ini ok) ok.sz (by kernel_rfl)
 have ef : a.eval (.func 67) = .func (.func 67) #[] #[] := rfl
 have hu := unl (hF.lt ho) h1
 refine st_actG (k := 0) DW25.chain DW25.nodup rfl hF hC hW h1 ho h2 (Or.inr ⟨130, hd, rfl⟩) (injG (by kernel_rfl) hu) hg ?_
 intro hW0 K hK
 have hw0 : w = X.W := hW0
 have hr : (execOp a.eval o).run Tryz.prog w = .ok (.enter 67 #[.pointer (some ⟨X.bd, 0, none⟩), .agg #[.int .i64 X.hx, .int .i64 X.hy], .agg #[.int .i64 X.x, .int .i64 X.y]]) w := by
  generalize a.eval = ρ at e118 e124 e129 ef ⊢
  unfold execOp
  rw [hop]
  simp [e118, e124, e129, ef, go_sem]
 unfold Oper.wp
 rw [hr]
 refine Calls.mono (by rw [hw0]; exact ok.hc) ?_
 rintro e w' ⟨rfl, h⟩
 exact hK _ _ h
theorem DW25.size : (opsOf 25 Tryz.f39).size = 13 := by kernel_rfl
theorem DW25.rest (X : DW25) (ok : DW25Ok X) {Q : PQ} : ∀ i ∈ [12], DW25.St X Q i := by
 simp only [List.forall_mem_cons]
 exact ⟨DW25.s12 X ok, List.forall_mem_nil _⟩
theorem DW25.steps (X : DW25) (ok : DW25Ok X) {Q : PQ} (i : Nat) (hi : i < (opsOf 25 Tryz.f39).size) : DW25.St X Q i := by
 rw [DW25.size] at hi
 rcases (by decide : ∀ i, i < 13 → i ∈ [0, 1, 3, 4, 5, 7, 9, 10] ∨ i ∈ [2, 6, 8, 11] ∨ i ∈ [12]) i hi with h | h | h
 · exact DW25.plain X ok i h
 · exact DW25.soon X ok i h
 · exact DW25.rest X ok i h
theorem DW25.run (X : DW25) (ok : DW25Ok X) {Q : PQ} (w : World) (h0 : X.Wd 0 (fun _ => undef) w.drew) (hend : ∀ (γ : Nat → Value) w', X.Wd 1 γ w' → Q .normal (((((((((((((X.a0.put (some 118) (.pointer (some ⟨X.bd, 0, none⟩))).put (some 119) (.pointer (some ⟨X.bl, 0, none⟩))).put (some 120) (.slice (some ⟨X.g, X.off, none⟩) X.n X.pc)).put (some 121) (.int .i64 (X.j : Int))).put (some 122) (.int .i64 (X.i : Int))).put (some 123) (.pointer (some ⟨X.g, X.off + X.i * 2, none⟩))).put (some 124) (.agg #[.int .i64 X.hx, .int .i64 X.hy])).put (some 125) (.pointer (some ⟨X.bl, 0, none⟩))).put (some 126) (.slice (some ⟨X.g, X.off, none⟩) X.n X.pc)).put (some 127) (.int .i64 (X.j : Int))).put (some 128) (.pointer (some ⟨X.g, X.off + X.j * 2, none⟩))).put (some 129) (.agg #[.int .i64 X.x, .int .i64 X.y])).put (some 130) (γ 0)) w') : (Code.region 25 (opsOf 25 Tryz.f39) true).wp Tryz.prog Q X.a0 w := by
 refine reg_act (acts := DW25.acts) (av := DW25.av) (val0 := X.val0) (Wd := X.Wd) (by kernel_rfl) (by kernel_rfl) (by rw [DW25.size]; decide) (fun i hi => DW25.steps X ok i hi) _ h0 ?_
 intro γ w' h
 exact end_at (hend γ w' h) (by kernel_rfl)
structure DW27 where
 bl : Nat
 bd : Nat
 g : Nat
 off : Nat
 n : Nat
 pc : Nat
 i : Nat
 hx : Int
 hy : Int
 x : Int
 y : Int
 P : World → Prop
 W : World
 a0 : Act
structure DW27Ok (X : DW27) : Prop where
 c0 : X.W.cell? ⟨X.bl, 0, none⟩ = some (.slice (some ⟨X.g, X.off, none⟩) X.n X.pc)
 wi : IntKind.i64.wrap ((X.n : Int) - 1) = (X.i : Int)
 hi : X.i < X.n
 hn : 0 < X.n
 h0 : X.W.cell? ⟨X.g, X.off + X.i * 2, none⟩ = some (.int .i64 X.hx)
 h1 : X.W.cell? ⟨X.g, X.off + X.i * 2 + 1, none⟩ = some (.int .i64 X.hy)
 p0 : X.W.cell? ⟨X.g, X.off, none⟩ = some (.int .i64 X.x)
 p1 : X.W.cell? ⟨X.g, X.off + 1, none⟩ = some (.int .i64 X.y)
 hc : Calls Tryz.prog 67 #[.pointer (some ⟨X.bd, 0, none⟩), .agg #[.int .i64 X.hx, .int .i64 X.hy], .agg #[.int .i64 X.x, .int .i64 X.y]] X.W fun e w' => e = .returned (.tuple #[]) ∧ X.P w'
 e3 : X.a0.eval (.tmp 3) = .pointer (some ⟨X.bl, 0, none⟩)
 e11 : X.a0.eval (.tmp 11) = .pointer (some ⟨X.bd, 0, none⟩)
 sz : X.a0.tmps.size = 171
def DW27.val0 (X : DW27) : Nat → Value
 | 3 => .pointer (some ⟨X.bl, 0, none⟩)
 | 11 => .pointer (some ⟨X.bd, 0, none⟩)
 | 133 => .pointer (some ⟨X.bd, 0, none⟩)
 | 134 => .pointer (some ⟨X.bl, 0, none⟩)
 | 135 => .slice (some ⟨X.g, X.off, none⟩) X.n X.pc
 | 136 => .pointer (some ⟨X.bl, 0, none⟩)
 | 137 => .slice (some ⟨X.g, X.off, none⟩) X.n X.pc
 | 138 => .int .i64 (X.n : Int)
 | 139 => .int .i64 (X.i : Int)
 | 140 => .pointer (some ⟨X.g, X.off + X.i * 2, none⟩)
 | 141 => .agg #[.int .i64 X.hx, .int .i64 X.hy]
 | 142 => .pointer (some ⟨X.bl, 0, none⟩)
 | 143 => .slice (some ⟨X.g, X.off, none⟩) X.n X.pc
 | 144 => .pointer (some ⟨X.g, X.off, none⟩)
 | 145 => .agg #[.int .i64 X.x, .int .i64 X.y]
 | _ => undef
def DW27.av : Nat → Option Nat
 | 146 => some 0
 | _ => none
def DW27.acts : List Nat := [13]
def DW27.Wd (X : DW27) : Nat → (Nat → Value) → World → Prop
  | 0, _, w => w = X.W
  | _, _, w => X.P w
theorem DW27.chain : chainG (opsOf 27 Tryz.f39) DW27.acts = true := by kernel_rfl
theorem DW27.nodup : DW27.acts.Nodup := by decide
def DW27.L : List (Option Nat × Op × Option (Nat × Bool)) := [
 (some 133, .move (.tmp 11), none),
 (some 134, .fieldAddr 25 (.tmp 3) 0, none),
 (some 135, .load 23 (.tmp 134), none),
 (some 136, .fieldAddr 25 (.tmp 3) 0, none),
 (some 137, .load 23 (.tmp 136), none),
 (some 138, .call { callee := .builtin .len, args := #[(.tmp 137)], argTypes := #[23] }, none),
 (some 139, .binOp .sub 3 (.tmp 138) (.const (.int .i64 1)) 3, none),
 (some 140, .indexAddr 23 (.tmp 135) (.tmp 139), none),
 (some 141, .load 34 (.tmp 140), none),
 (some 142, .fieldAddr 25 (.tmp 3) 0, none),
 (some 143, .load 23 (.tmp 142), none),
 (some 144, .indexAddr 23 (.tmp 143) (.const (.int .i64 0)), none),
 (some 145, .load 34 (.tmp 144), none),
 (some 146, .call { callee := .value (.func 67), args := #[(.tmp 133), (.tmp 141), (.tmp 145)], argTypes := #[98, 34, 34] }, none)]
theorem DW27.isL : (opsOf 27 Tryz.f39).toList.map tri = DW27.L := by kernel_rfl
theorem DW27.ini {X : DW27} (ok : DW27Ok X) : ∀ n ∈ [3, 11], X.a0.eval (.tmp n) = X.val0 n := by
 simp only [List.forall_mem_cons]
 exact ⟨ok.e3, ok.e11, List.forall_mem_nil _⟩
abbrev DW27.St (X : DW27) (Q : PQ) (i : Nat) : Prop := StepG (opsOf 27 Tryz.f39) DW27.acts DW27.av X.val0 X.Wd X.a0 Q i
theorem DW27.plain (X : DW27) (ok : DW27Ok X) {Q : PQ} : ∀ i ∈ [0, 1, 3, 5, 6, 7, 9, 11], DW27.St X Q i := by
 simp only [List.forall_mem_cons]
 refine ⟨?_, ?_, ?_, ?_, ?_, ?_, ?_, ?_, List.forall_mem_nil _⟩
 all_goals
  refine st_plain DW27.isL (DW27.ini ok) ok.sz rfl (by kernel_rfl) ?_
  intro γ w n o hW hop
  unfold execOp
  rw [hop]
  simp [envR, valG, DW27.av, DW27.val0, ok.wi, ok.hi, ok.hn, go_sem]
theorem DW27.soon (X : DW27) (ok : DW27Ok X) {Q : PQ} : ∀ i ∈ [2, 4, 8, 10, 12], DW27.St X Q i := by
 simp only [List.forall_mem_cons]
 refine ⟨?_, ?_, ?_, ?_, ?_, List.forall_mem_nil _⟩
 all_goals
  refine st_plainM (m := 0) DW27.isL (DW27.ini ok) ok.sz rfl (by kernel_rfl) ?_
  intro γ w n o hn hW hop
  obtain rfl : n = 0 := by omega
  have hk : w = X.W := hW
  subst hk
  unfold execOp
  rw [hop]
  simp [envR, valG, DW27.av, DW27.val0, ok.c0, ok.h0, ok.h1, ok.p0, ok.p1, go_sem]
theorem DW27.s13 (X : DW27) (ok : DW27Ok X) {Q : PQ} : DW27.St X Q 13 := by
 intro γ listed a w o hF hC hW h1 ho h2
 obtain ⟨hd, hop, hg⟩ := fieldsL DW27.isL (i := 13) rfl ho
 have e133 : a.eval (.tmp 133) = .pointer (some ⟨X.bd, 0, none⟩) := known hF ho h2 (DW27.ini ok) ok.sz (by kernel_rfl)
 have e141 : a.eval (.tmp 141) = .agg #[.int .i64 X.hx, .int .i64 X.hy] := known hF ho h2 (DW27.ini ok) ok.sz (by kernel_rfl)
 have e145 : a.eval (.tmp 145) = .agg #[.int .i64 X.x, .int .i64 X.y] := known hF ho h2 (DW27.ini ok) ok.sz (by kernel_rfl)
 have ef : a.eval (.func 67) = .func (.func 67) #[] #[] := rfl
 have hu := unl (hF.lt ho) h1
 refine st_actG (k := 0) DW27.chain DW27.nodup rfl hF hC hW h1 ho h2 (Or.inr ⟨146, hd, rfl⟩) (injG (by kernel_rfl) hu) hg ?_
 intro hW0 K hK
 have hw0 : w = X.W := hW0
 have hr : (execOp a.eval o).run Tryz.prog w = .ok (.enter 67 #[.pointer (some ⟨X.bd, 0, none⟩), .agg #[.int .i64 X.hx, .int .i64 X.hy], .agg #[.int .i64 X.x, .int .i64 X.y]]) w := by
  generalize a.eval = ρ at e133 e141 e145 ef ⊢
  unfold execOp
  rw [hop]
  simp [e133, e141, e145, ef, go_sem]
 unfold Oper.wp
 rw [hr]
 refine Calls.mono (by rw [hw0]; exact ok.hc) ?_
 rintro e w' ⟨rfl, h⟩
 exact hK _ _ h
theorem DW27.size : (opsOf 27 Tryz.f39).size = 14 := by kernel_rfl
theorem DW27.rest (X : DW27) (ok : DW27Ok X) {Q : PQ} : ∀ i ∈ [13], DW27.St X Q i := by
 simp only [List.forall_mem_cons]
 exact ⟨DW27.s13 X ok, List.forall_mem_nil _⟩
theorem DW27.steps (X : DW27) (ok : DW27Ok X) {Q : PQ} (i : Nat) (hi : i < (opsOf 27 Tryz.f39).size) : DW27.St X Q i := by
 rw [DW27.size] at hi
 rcases (by decide : ∀ i, i < 14 → i ∈ [0, 1, 3, 5, 6, 7, 9, 11] ∨ i ∈ [2, 4, 8, 10, 12] ∨ i ∈ [13]) i hi with h | h | h
 · exact DW27.plain X ok i h
 · exact DW27.soon X ok i h
 · exact DW27.rest X ok i h
theorem DW27.run (X : DW27) (ok : DW27Ok X) {Q : PQ} (w : World) (h0 : X.Wd 0 (fun _ => undef) w.drew) (hend : ∀ (γ : Nat → Value) w', X.Wd 1 γ w' → Q .normal ((((((((((((((X.a0.put (some 133) (.pointer (some ⟨X.bd, 0, none⟩))).put (some 134) (.pointer (some ⟨X.bl, 0, none⟩))).put (some 135) (.slice (some ⟨X.g, X.off, none⟩) X.n X.pc)).put (some 136) (.pointer (some ⟨X.bl, 0, none⟩))).put (some 137) (.slice (some ⟨X.g, X.off, none⟩) X.n X.pc)).put (some 138) (.int .i64 (X.n : Int))).put (some 139) (.int .i64 (X.i : Int))).put (some 140) (.pointer (some ⟨X.g, X.off + X.i * 2, none⟩))).put (some 141) (.agg #[.int .i64 X.hx, .int .i64 X.hy])).put (some 142) (.pointer (some ⟨X.bl, 0, none⟩))).put (some 143) (.slice (some ⟨X.g, X.off, none⟩) X.n X.pc)).put (some 144) (.pointer (some ⟨X.g, X.off, none⟩))).put (some 145) (.agg #[.int .i64 X.x, .int .i64 X.y])).put (some 146) (γ 0)) w') : (Code.region 27 (opsOf 27 Tryz.f39) true).wp Tryz.prog Q X.a0 w := by
 refine reg_act (acts := DW27.acts) (av := DW27.av) (val0 := X.val0) (Wd := X.Wd) (by kernel_rfl) (by kernel_rfl) (by rw [DW27.size]; decide) (fun i hi => DW27.steps X ok i hi) _ h0 ?_
 intro γ w' h
 exact end_at (hend γ w' h) (by kernel_rfl)
structure DWE where
 bd : Nat
 va : Option Addr
 vn : Nat
 vc : Nat
 mn : Int
 bg : Int
 W : World
 a0 : Act
structure DWEOk (X : DWE) : Prop where
 c4 : X.W.cell? ⟨X.bd, 4, none⟩ = some (.slice X.va X.vn X.vc)
 c5 : X.W.cell? ⟨X.bd, 5, none⟩ = some (.int .i64 X.mn)
 hm : decide (X.mn ≤ 600) = false
 e11 : X.a0.eval (.tmp 11) = .pointer (some ⟨X.bd, 0, none⟩)
 sz : X.a0.tmps.size = 171
def DWE.val0 (X : DWE) : Nat → Value
 | 6 => .slice X.va X.vn X.vc
 | 7 => .bool false
 | 11 => .pointer (some ⟨X.bd, 0, none⟩)
 | 155 => .pointer (some ⟨X.bd, 0, none⟩)
 | 156 => .pointer (some ⟨X.bd, 0, none⟩)
 | 157 => .pointer (some ⟨X.bd, 4, none⟩)
 | 158 => .slice X.va X.vn X.vc
 | 159 => .pointer (some ⟨X.bd, 0, none⟩)
 | 160 => .pointer (some ⟨X.bd, 0, none⟩)
 | 161 => .pointer (some ⟨X.bd, 5, none⟩)
 | 162 => .int .i64 X.mn
 | 163 => .bool false
 | 164 => .bool false
 | 170 => .bool false
 | _ => undef
def DWE.av : Nat → Option Nat
 | _ => none
def DWE.acts : List Nat := []
def DWE.Wd (X : DWE) : Nat → (Nat → Value) → World → Prop
  | _, _, w => Kp X.W w
theorem DWE.kp {X : DWE} {n : Nat} {γ : Nat → Value} {w : World} (h : X.Wd n γ w) : Kp X.W w := h
def DWE.L : List (Option Nat × Op × Option (Nat × Bool)) := [
 (some 155, .move (.tmp 11), none),
 (some 156, .nilCheck (.tmp 155), none),
 (some 157, .fieldAddr 100 (.tmp 156) 4, none),
 (some 158, .load 29 (.tmp 157), none),
 (some 159, .move (.tmp 11), none),
 (some 160, .nilCheck (.tmp 159), none),
 (some 161, .fieldAddr 100 (.tmp 160) 5, none),
 (some 162, .load 3 (.tmp 161), none),
 (some 163, .binOp .leq 3 (.tmp 162) (.const (.int .i64 600)) 3, none),
 (some 164, .move (.tmp 163), none),
 (some 165, .move (.tmp 11), some (9, true)),
 (some 166, .nilCheck (.tmp 165), some (9, true)),
 (some 167, .fieldAddr 100 (.tmp 166) 6, some (9, true)),
 (some 168, .load 3 (.tmp 167), some (9, true)),
 (some 169, .binOp .leq 3 (.tmp 168) (.const (.int .i64 2400)) 3, some (9, true)),
 (some 170, .pick (.tmp 164) (.tmp 169) (.const (.bool false)), none),
 (some 6, .assign (.tmp 158), none),
 (some 7, .assign (.tmp 170), none)]
theorem DWE.isL : (opsOf 30 Tryz.f39).toList.map tri = DWE.L := by kernel_rfl
theorem DWE.ini {X : DWE} (ok : DWEOk X) : ∀ n ∈ [11], X.a0.eval (.tmp n) = X.val0 n := by
 simp only [List.forall_mem_cons]
 exact ⟨ok.e11, List.forall_mem_nil _⟩
abbrev DWE.St (X : DWE) (Q : PQ) (i : Nat) : Prop := StepG (opsOf 30 Tryz.f39) DWE.acts DWE.av X.val0 X.Wd X.a0 Q i
theorem DWE.plain (X : DWE) (ok : DWEOk X) {Q : PQ} : ∀ i ∈ [0, 1, 2, 3, 4, 5, 6, 7, 8, 9, 15, 16, 17], DWE.St X Q i := by
 simp only [List.forall_mem_cons]
 refine ⟨?_, ?_, ?_, ?_, ?_, ?_, ?_, ?_, ?_, ?_, ?_, ?_, ?_, List.forall_mem_nil _⟩
 all_goals
  refine st_plain DWE.isL (DWE.ini ok) ok.sz rfl (by kernel_rfl) ?_
  intro γ w n o hW hop
  have hc_c4 := rq_at (DWE.kp hW) ok.c4
  have hc_c5 := rq_at (DWE.kp hW) ok.c5
  unfold execOp
  rw [hop]
  simp [envR, valG, DWE.av, DWE.val0, hc_c4, hc_c5, ok.hm, go_sem]
theorem DWE.skip (X : DWE) (ok : DWEOk X) {Q : PQ} : ∀ i ∈ [10, 11, 12, 13, 14], DWE.St X Q i := by
 simp only [List.forall_mem_cons]
 refine ⟨?_, ?_, ?_, ?_, ?_, List.forall_mem_nil _⟩
 all_goals
  exact st_plainS DWE.isL (DWE.ini ok) ok.sz rfl rfl (Or.inl rfl) (by kernel_rfl) rfl
theorem DWE.size : (opsOf 30 Tryz.f39).size = 18 := by kernel_rfl
theorem DWE.steps (X : DWE) (ok : DWEOk X) {Q : PQ} (i : Nat) (hi : i < (opsOf 30 Tryz.f39).size) : DWE.St X Q i := by
 rw [DWE.size] at hi
 rcases (by decide : ∀ i, i < 18 → i ∈ [0, 1, 2, 3, 4, 5, 6, 7, 8, 9, 15, 16, 17] ∨ i ∈ [10, 11, 12, 13, 14]) i hi with h | h
 · exact DWE.plain X ok i h
 · exact DWE.skip X ok i h
theorem DWE.run (X : DWE) (ok : DWEOk X) {Q : PQ} (w : World) (h0 : X.Wd 0 (fun _ => undef) w.drew) (hend : ∀ (γ : Nat → Value) w', X.Wd 0 γ w' → Q .normal ((((((((((((((((((X.a0.put (some 155) (.pointer (some ⟨X.bd, 0, none⟩))).put (some 156) (.pointer (some ⟨X.bd, 0, none⟩))).put (some 157) (.pointer (some ⟨X.bd, 4, none⟩))).put (some 158) (.slice X.va X.vn X.vc)).put (some 159) (.pointer (some ⟨X.bd, 0, none⟩))).put (some 160) (.pointer (some ⟨X.bd, 0, none⟩))).put (some 161) (.pointer (some ⟨X.bd, 5, none⟩))).put (some 162) (.int .i64 X.mn)).put (some 163) (.bool false)).put (some 164) (.bool false)).put (some 165) (undef)).put (some 166) (undef)).put (some 167) (undef)).put (some 168) (undef)).put (some 169) (undef)).put (some 170) (.bool false)).put (some 6) (.slice X.va X.vn X.vc)).put (some 7) (.bool false)) w') : (Code.region 30 (opsOf 30 Tryz.f39) true).wp Tryz.prog Q X.a0 w := by
 refine reg_act (acts := DWE.acts) (av := DWE.av) (val0 := X.val0) (Wd := X.Wd) (by kernel_rfl) (by kernel_rfl) (by rw [DWE.size]; decide) (fun i hi => DWE.steps X ok i hi) _ h0 ?_
 intro γ w' h
 exact end_at (hend γ w' h) (by kernel_rfl)
structure DWF where
 bd : Nat
 va : Option Addr
 vn : Nat
 vc : Nat
 mn : Int
 bg : Int
 v : Bool
 W : World
 a0 : Act
structure DWFOk (X : DWF) : Prop where
 c4 : X.W.cell? ⟨X.bd, 4, none⟩ = some (.slice X.va X.vn X.vc)
 c5 : X.W.cell? ⟨X.bd, 5, none⟩ = some (.int .i64 X.mn)
 c6 : X.W.cell? ⟨X.bd, 6, none⟩ = some (.int .i64 X.bg)
 hm : decide (X.mn ≤ 600) = true
 hv : decide (X.bg ≤ 2400) = X.v
 e11 : X.a0.eval (.tmp 11) = .pointer (some ⟨X.bd, 0, none⟩)
 sz : X.a0.tmps.size = 171
def DWF.val0 (X : DWF) : Nat → Value
 | 6 => .slice X.va X.vn X.vc
 | 7 => .bool X.v
 | 11 => .pointer (some ⟨X.bd, 0, none⟩)
 | 155 => .pointer (some ⟨X.bd, 0, none⟩)
 | 156 => .pointer (some ⟨X.bd, 0, none⟩)
 | 157 => .pointer (some ⟨X.bd, 4, none⟩)
 | 158 => .slice X.va X.vn X.vc
 | 159 => .pointer (some ⟨X.bd, 0, none⟩)
 | 160 => .pointer (some ⟨X.bd, 0, none⟩)
 | 161 => .pointer (some ⟨X.bd, 5, none⟩)
 | 162 => .int .i64 X.mn
 | 163 => .bool true
 | 164 => .bool true
 | 165 => .pointer (some ⟨X.bd, 0, none⟩)
 | 166 => .pointer (some ⟨X.bd, 0, none⟩)
 | 167 => .pointer (some ⟨X.bd, 6, none⟩)
 | 168 => .int .i64 X.bg
 | 169 => .bool X.v
 | 170 => .bool X.v
 | _ => undef
def DWF.av : Nat → Option Nat
 | _ => none
def DWF.acts : List Nat := []
def DWF.Wd (X : DWF) : Nat → (Nat → Value) → World → Prop
  | _, _, w => Kp X.W w
theorem DWF.kp {X : DWF} {n : Nat} {γ : Nat → Value} {w : World} (h : X.Wd n γ w) : Kp X.W w := h
theorem DWF.ini {X : DWF} (ok : DWFOk X) : ∀ n ∈ [11], X.a0.eval (.tmp n) = X.val0 n := by
 simp only [List.forall_mem_cons]
 exact ⟨ok.e11, List.forall_mem_nil _⟩
abbrev DWF.St (X : DWF) (Q : PQ) (i : Nat) : Prop := StepG (opsOf 30 Tryz.f39) DWF.acts DWF.av X.val0 X.Wd X.a0 Q i
theorem DWF.plain (X : DWF) (ok : DWFOk X) {Q : PQ} : ∀ i ∈ [0, 1, 2, 3, 4, 5, 6, 7, 8, 9, 15, 16, 17], DWF.St X Q i := by
 simp only [List.forall_mem_cons]
 refine ⟨?_, ?_, ?_, ?_, ?_, ?_, ?_, ?_, ?_, ?_, ?_, ?_, ?_, List.forall_mem_nil _⟩
 all_goals
  refine st_plain DWE.isL (DWF.ini ok) ok.sz rfl (by kernel_rfl) ?_
  intro γ w n o hW hop
  have hc_c4 := rq_at (DWF.kp hW) ok.c4
  have hc_c5 := rq_at (DWF.kp hW) ok.c5
  have hc_c6 := rq_at (DWF.kp hW) ok.c6
  unfold execOp
  rw [hop]
  simp [envR, valG, DWF.av, DWF.val0, hc_c4, hc_c5, ok.hm, hc_c6, ok.hv, go_sem]
theorem DWF.want (X : DWF) (ok : DWFOk X) {Q : PQ} : ∀ i ∈ [10, 11, 12, 13, 14], DWF.St X Q i := by
 simp only [List.forall_mem_cons]
 refine ⟨?_, ?_, ?_, ?_, ?_, List.forall_mem_nil _⟩
 all_goals
  refine st_plainW DWE.isL (DWF.ini ok) ok.sz rfl rfl rfl (by kernel_rfl) ?_
  intro γ w n o hW hop
  have hc_c4 := rq_at (DWF.kp hW) ok.c4
  have hc_c5 := rq_at (DWF.kp hW) ok.c5
  have hc_c6 := rq_at (DWF.kp hW) ok.c6
  unfold execOp
  rw [hop]
  simp [envR, valG, DWF.av, DWF.val0, hc_c4, hc_c5, ok.hm, hc_c6, ok.hv, go_sem]
theorem DWF.steps (X : DWF) (ok : DWFOk X) {Q : PQ} (i : Nat) (hi : i < (opsOf 30 Tryz.f39).size) : DWF.St X Q i := by
 rw [DWE.size] at hi
 rcases (by decide : ∀ i, i < 18 → i ∈ [0, 1, 2, 3, 4, 5, 6, 7, 8, 9, 15, 16, 17] ∨ i ∈ [10, 11, 12, 13, 14]) i hi with h | h
 · exact DWF.plain X ok i h
 · exact DWF.want X ok i h
theorem DWF.run (X : DWF) (ok : DWFOk X) {Q : PQ} (w : World) (h0 : X.Wd 0 (fun _ => undef) w.drew) (hend : ∀ (γ : Nat → Value) w', X.Wd 0 γ w' → Q .normal ((((((((((((((((((X.a0.put (some 155) (.pointer (some ⟨X.bd, 0, none⟩))).put (some 156) (.pointer (some ⟨X.bd, 0, none⟩))).put (some 157) (.pointer (some ⟨X.bd, 4, none⟩))).put (some 158) (.slice X.va X.vn X.vc)).put (some 159) (.pointer (some ⟨X.bd, 0, none⟩))).put (some 160) (.pointer (some ⟨X.bd, 0, none⟩))).put (some 161) (.pointer (some ⟨X.bd, 5, none⟩))).put (some 162) (.int .i64 X.mn)).put (some 163) (.bool true)).put (some 164) (.bool true)).put (some 165) (.pointer (some ⟨X.bd, 0, none⟩))).put (some 166) (.pointer (some ⟨X.bd, 0, none⟩))).put (some 167) (.pointer (some ⟨X.bd, 6, none⟩))).put (some 168) (.int .i64 X.bg)).put (some 169) (.bool X.v)).put (some 170) (.bool X.v)).put (some 6) (.slice X.va X.vn X.vc)).put (some 7) (.bool X.v)) w') : (Code.region 30 (opsOf 30 Tryz.f39) true).wp Tryz.prog Q X.a0 w := by
 refine reg_act (acts := DWF.acts) (av := DWF.av) (val0 := X.val0) (Wd := X.Wd) (by kernel_rfl) (by kernel_rfl) (by rw [DWE.size]; decide) (fun i hi => DWF.steps X ok i hi) _ h0 ?_
 intro γ w' h
 exact end_at (hend γ w' h) (by kernel_rfl)
structure WH (bx : Nat) (w : World) (nv : Value) (k l m b : Int) (v : Value) (it : Its) (u : Value) (p : List Pnt) : Prop where
 c0 : w.cell? ⟨bx, 0, none⟩ = some nv
 c1 : w.cell? ⟨bx, 1, none⟩ = some (.int .i64 k)
 c2 : w.cell? ⟨bx, 2, none⟩ = some (.int .i64 l)
 c3 : w.cell? ⟨bx, 3, none⟩ = some u
 c4 : w.cell? ⟨bx, 4, none⟩ = some v
 c5 : w.cell? ⟨bx, 5, none⟩ = some (.int .i64 m)
 c6 : w.cell? ⟨bx, 6, none⟩ = some (.int .i64 b)
 free : ∀ o, w.frozen? ⟨bx, o, none⟩ = false
 d : D2 w (bx + 1) v it u p
section
variable {bx : Nat} {w w' : World} {nv : Value} {k l m b : Int} {v u : Value} {it : Its} {p : List Pnt}
theorem WH.lt (h : WH bx w nv k l m b v it u p) : bx < w.heap.size := World.block_lt_of_cell? w ⟨bx, 0, none⟩ h.c0
theorem WH.nw (h : WH bx w nv k l m b v it u p) (kk : Nw w w') : WH bx w' nv k l m b v it u p := by
 have e := fun o => (bcell kk).1 bx o h.lt
 exact ⟨(e _).trans h.c0, (e _).trans h.c1, (e _).trans h.c2, (e _).trans h.c3, (e _).trans h.c4, (e _).trans h.c5, (e _).trans h.c6, fun o => ((bcell kk).2 _ _ h.lt).trans (h.free o), h.d.nw kk⟩
theorem WH.neu (h : WH bx w nv k l m b v it u p) : u.ownBlock ≠ some bx := fun e => by have := (OwnQ.lt h.d.pt bx e).1; omega
theorem WH.nev (h : WH bx w nv k l m b v it u p) : v.ownBlock ≠ some bx := fun e => by have := (OwnQ.lt h.d.ln.own bx e).1; omega
theorem WH.setK (h : WH bx w nv k l m b v it u p) (x : Int) : WH bx (w.setCell ⟨bx, 1, none⟩ (.int .i64 x)) nv x l m b v it u p ∧ Below bx w (w.setCell ⟨bx, 1, none⟩ (.int .i64 x)) := by
 have e : ∀ o, o ≠ 1 → (w.setCell ⟨bx, 1, none⟩ (.int .i64 x)).cell? ⟨bx, o, none⟩ = w.cell? ⟨bx, o, none⟩ := fun o ho => World.cell?_setCell_other _ _ _ _ (fun e => by injection e; omega)
 exact ⟨⟨(e _ (by decide)).trans h.c0, World.cell?_setCell_same w ⟨bx, 1, none⟩ _ h.c1, (e _ (by decide)).trans h.c2, (e _ (by decide)).trans h.c3, (e _ (by decide)).trans h.c4, (e _ (by decide)).trans h.c5, (e _ (by decide)).trans h.c6, fun o => by rw [World.frozen?_setCell]; exact h.free o, h.d.far bx 1 _ (by omega)⟩, (Below.refl bx w).setCell (p := ⟨bx, 1, none⟩) (Nat.le_refl _) _⟩
theorem WH.setL (h : WH bx w nv k l m b v it u p) (x : Int) : WH bx (w.setCell ⟨bx, 2, none⟩ (.int .i64 x)) nv k x m b v it u p ∧ Below bx w (w.setCell ⟨bx, 2, none⟩ (.int .i64 x)) := by
 have e : ∀ o, o ≠ 2 → (w.setCell ⟨bx, 2, none⟩ (.int .i64 x)).cell? ⟨bx, o, none⟩ = w.cell? ⟨bx, o, none⟩ := fun o ho => World.cell?_setCell_other _ _ _ _ (fun e => by injection e; omega)
 exact ⟨⟨(e _ (by decide)).trans h.c0, (e _ (by decide)).trans h.c1, World.cell?_setCell_same w ⟨bx, 2, none⟩ _ h.c2, (e _ (by decide)).trans h.c3, (e _ (by decide)).trans h.c4, (e _ (by decide)).trans h.c5, (e _ (by decide)).trans h.c6, fun o => by rw [World.frozen?_setCell]; exact h.free o, h.d.far bx 2 _ (by omega)⟩, (Below.refl bx w).setCell (p := ⟨bx, 2, none⟩) (Nat.le_refl _) _⟩
theorem WH.setM (h : WH bx w nv k l m b v it u p) (x : Int) : WH bx (w.setCell ⟨bx, 5, none⟩ (.int .i64 x)) nv k l x b v it u p ∧ Below bx w (w.setCell ⟨bx, 5, none⟩ (.int .i64 x)) := by
 have e : ∀ o, o ≠ 5 → (w.setCell ⟨bx, 5, none⟩ (.int .i64 x)).cell? ⟨bx, o, none⟩ = w.cell? ⟨bx, o, none⟩ := fun o ho => World.cell?_setCell_other _ _ _ _ (fun e => by injection e; omega)
 exact ⟨⟨(e _ (by decide)).trans h.c0, (e _ (by decide)).trans h.c1, (e _ (by decide)).trans h.c2, (e _ (by decide)).trans h.c3, (e _ (by decide)).trans h.c4, World.cell?_setCell_same w ⟨bx, 5, none⟩ _ h.c5, (e _ (by decide)).trans h.c6, fun o => by rw [World.frozen?_setCell]; exact h.free o, h.d.far bx 5 _ (by omega)⟩, (Below.refl bx w).setCell (p := ⟨bx, 5, none⟩) (Nat.le_refl _) _⟩
theorem WH.setB (h : WH bx w nv k l m b v it u p) (x : Int) : WH bx (w.setCell ⟨bx, 6, none⟩ (.int .i64 x)) nv k l m x v it u p ∧ Below bx w (w.setCell ⟨bx, 6, none⟩ (.int .i64 x)) := by
 have e : ∀ o, o ≠ 6 → (w.setCell ⟨bx, 6, none⟩ (.int .i64 x)).cell? ⟨bx, o, none⟩ = w.cell? ⟨bx, o, none⟩ := fun o ho => World.cell?_setCell_other _ _ _ _ (fun e => by injection e; omega)
 exact ⟨⟨(e _ (by decide)).trans h.c0, (e _ (by decide)).trans h.c1, (e _ (by decide)).trans h.c2, (e _ (by decide)).trans h.c3, (e _ (by decide)).trans h.c4, (e _ (by decide)).trans h.c5, World.cell?_setCell_same w ⟨bx, 6, none⟩ _ h.c6, fun o => by rw [World.frozen?_setCell]; exact h.free o, h.d.far bx 6 _ (by omega)⟩, (Below.refl bx w).setCell (p := ⟨bx, 6, none⟩) (Nat.le_refl _) _⟩
theorem WH.pput {u' : Value} {p' : List Pnt} (h : WH bx w nv k l m b v it u p) (x : Ext u u' w w') (ho : OwnP w' (bx + 1) u' p') : WH bx (w'.setCell ⟨bx, 3, none⟩ u') nv k l m b v it u' p' ∧ Below bx w (w'.setCell ⟨bx, 3, none⟩ u') := by
 have hb := h.lt
 have e0 := fun o => Ext.cell x hb h.neu o
 have e : ∀ o, o ≠ 3 → (w'.setCell ⟨bx, 3, none⟩ u').cell? ⟨bx, o, none⟩ = w.cell? ⟨bx, o, none⟩ := fun o ho => by
  rw [World.cell?_setCell_other _ _ _ _ (fun e => by injection e; omega)]; exact e0 o
 refine ⟨⟨(e _ (by decide)).trans h.c0, (e _ (by decide)).trans h.c1, (e _ (by decide)).trans h.c2, World.cell?_setCell_same w' ⟨bx, 3, none⟩ _ ((e0 3).trans h.c3), (e _ (by decide)).trans h.c4, (e _ (by decide)).trans h.c5, (e _ (by decide)).trans h.c6, fun o => ?_, (h.d.pput x ho).far bx 3 u' (by omega)⟩, ?_⟩
 ·rw [World.frozen?_setCell]; exact (World.frozen?_of_block (w := w) (a := ⟨bx, o, none⟩) (x.1.block bx hb (fun e => h.neu e.symm))).trans (h.free o)
 ·exact (x.below (fun g e => Nat.le_of_succ_le (OwnQ.lt h.d.pt g e).1) (by omega)).setCell (Nat.le_refl _) _
structure WM (bx : Nat) (w : World) (nv : Value) (k l m b : Int) (v : Value) (it : Its) (u : Value) : Prop where
 c0 : w.cell? ⟨bx, 0, none⟩ = some nv
 c1 : w.cell? ⟨bx, 1, none⟩ = some (.int .i64 k)
 c2 : w.cell? ⟨bx, 2, none⟩ = some (.int .i64 l)
 c3 : w.cell? ⟨bx, 3, none⟩ = some u
 c4 : w.cell? ⟨bx, 4, none⟩ = some v
 c5 : w.cell? ⟨bx, 5, none⟩ = some (.int .i64 m)
 c6 : w.cell? ⟨bx, 6, none⟩ = some (.int .i64 b)
 free : ∀ o, w.frozen? ⟨bx, o, none⟩ = false
 d : OwnLn w (bx + 1) v it
theorem WH.wm (h : WH bx w nv k l m b v it u p) : WM bx w nv k l m b v it u := ⟨h.c0, h.c1, h.c2, h.c3, h.c4, h.c5, h.c6, h.free, h.d.ln⟩
theorem WM.lt (h : WM bx w nv k l m b v it u) : bx < w.heap.size := World.block_lt_of_cell? w ⟨bx, 0, none⟩ h.c0
theorem WM.nw (h : WM bx w nv k l m b v it u) (kk : Nw w w') : WM bx w' nv k l m b v it u := by
 have e := fun o => (bcell kk).1 bx o h.lt
 exact ⟨(e _).trans h.c0, (e _).trans h.c1, (e _).trans h.c2, (e _).trans h.c3, (e _).trans h.c4, (e _).trans h.c5, (e _).trans h.c6, fun o => ((bcell kk).2 _ _ h.lt).trans (h.free o), h.d.nw kk⟩
theorem WH.lput {v' : Value} {c : Bool} (h : WH bx w nv k l m b v it u p) (x : Ext v v' w w') (ho : OwnQ 25 w' (bx + 1) v' (vLn (it ++ [(u, ⟨p, c⟩)]))) : WM bx (w'.setCell ⟨bx, 4, none⟩ v') nv k l m b v' (it ++ [(u, ⟨p, c⟩)]) u ∧ Below bx w (w'.setCell ⟨bx, 4, none⟩ v') := by
 have hb := h.lt
 have e0 := fun o => Ext.cell x hb h.nev o
 have e : ∀ o, o ≠ 4 → (w'.setCell ⟨bx, 4, none⟩ v').cell? ⟨bx, o, none⟩ = w.cell? ⟨bx, o, none⟩ := fun o ho => by
  rw [World.cell?_setCell_other _ _ _ _ (fun e => by injection e; omega)]; exact e0 o
 refine ⟨⟨(e _ (by decide)).trans h.c0, (e _ (by decide)).trans h.c1, (e _ (by decide)).trans h.c2, (e _ (by decide)).trans h.c3, World.cell?_setCell_same w' ⟨bx, 4, none⟩ _ ((e0 4).trans h.c4), (e _ (by decide)).trans h.c5, (e _ (by decide)).trans h.c6, fun o => ?_, (h.d.lput ho x).farSet bx 4 v' (by omega)⟩, ?_⟩
 ·rw [World.frozen?_setCell]; exact (World.frozen?_of_block (w := w) (a := ⟨bx, o, none⟩) (x.1.block bx hb (fun e => h.nev e.symm))).trans (h.free o)
 ·exact (x.below (fun g e => Nat.le_of_succ_le (OwnQ.lt h.d.ln.own g e).1) (by omega)).setCell (Nat.le_refl _) _
theorem WM.setM (h : WM bx w nv k l m b v it u) (x : Int) : WM bx (w.setCell ⟨bx, 5, none⟩ (.int .i64 x)) nv k l x b v it u ∧ Below bx w (w.setCell ⟨bx, 5, none⟩ (.int .i64 x)) := by
 have e : ∀ o, o ≠ 5 → (w.setCell ⟨bx, 5, none⟩ (.int .i64 x)).cell? ⟨bx, o, none⟩ = w.cell? ⟨bx, o, none⟩ := fun o ho => World.cell?_setCell_other _ _ _ _ (fun e => by injection e; omega)
 exact ⟨⟨(e _ (by decide)).trans h.c0, (e _ (by decide)).trans h.c1, (e _ (by decide)).trans h.c2, (e _ (by decide)).trans h.c3, (e _ (by decide)).trans h.c4, World.cell?_setCell_same w ⟨bx, 5, none⟩ _ h.c5, (e _ (by decide)).trans h.c6, fun o => by rw [World.frozen?_setCell]; exact h.free o, h.d.farSet bx 5 _ (by omega)⟩, (Below.refl bx w).setCell (p := ⟨bx, 5, none⟩) (Nat.le_refl _) _⟩
theorem WM.drop (h : WM bx w nv k l m b v it u) : WH bx (w.setCell ⟨bx, 3, none⟩ (.slice none 0 0)) nv k l m b v it (.slice none 0 0) [] ∧ Below bx w (w.setCell ⟨bx, 3, none⟩ (.slice none 0 0)) := by
 have e : ∀ o, o ≠ 3 → (w.setCell ⟨bx, 3, none⟩ (.slice none 0 0)).cell? ⟨bx, o, none⟩ = w.cell? ⟨bx, o, none⟩ := fun o ho => World.cell?_setCell_other _ _ _ _ (fun e => by injection e; omega)
 exact ⟨⟨(e _ (by decide)).trans h.c0, (e _ (by decide)).trans h.c1, (e _ (by decide)).trans h.c2, World.cell?_setCell_same w ⟨bx, 3, none⟩ _ h.c3, (e _ (by decide)).trans h.c4, (e _ (by decide)).trans h.c5, (e _ (by decide)).trans h.c6, fun o => by rw [World.frozen?_setCell]; exact h.free o, ⟨h.d.farSet bx 3 _ (by omega), OwnP.nil _ _, Apt.nil _ _⟩⟩, (Below.refl bx w).setCell (p := ⟨bx, 3, none⟩) (Nat.le_refl _) _⟩
theorem WH.fresh (h : WH bx w nv k l m b v it u p) (x y : Int) : WH bx ((w.alloc (.cells #[.int .i64 x, .int .i64 y] 34)).setCell ⟨bx, 3, none⟩ (.slice (some ⟨w.heap.size, 0, none⟩) 1 1)) nv k l m b v it (.slice (some ⟨w.heap.size, 0, none⟩) 1 1) [(x, y)] ∧ Below bx w ((w.alloc (.cells #[.int .i64 x, .int .i64 y] 34)).setCell ⟨bx, 3, none⟩ (.slice (some ⟨w.heap.size, 0, none⟩) 1 1)) := by
 have n1 : Nw w (w.alloc (.cells #[.int .i64 x, .int .i64 y] 34)) := (Below.refl _ _).alloc (Nat.le_refl _) _
 have hb := h.lt
 have h1 := h.nw n1
 have e : ∀ o, o ≠ 3 → ((w.alloc (.cells #[.int .i64 x, .int .i64 y] 34)).setCell ⟨bx, 3, none⟩ (.slice (some ⟨w.heap.size, 0, none⟩) 1 1)).cell? ⟨bx, o, none⟩ = (w.alloc (.cells #[.int .i64 x, .int .i64 y] 34)).cell? ⟨bx, o, none⟩ := fun o ho => World.cell?_setCell_other _ _ _ _ (fun e => by injection e; omega)
 exact ⟨⟨(e _ (by decide)).trans h1.c0, (e _ (by decide)).trans h1.c1, (e _ (by decide)).trans h1.c2, World.cell?_setCell_same _ ⟨bx, 3, none⟩ _ h1.c3, (e _ (by decide)).trans h1.c4, (e _ (by decide)).trans h1.c5, (e _ (by decide)).trans h1.c6, fun o => by rw [World.frozen?_setCell]; exact h1.free o, (h.d.fresh n1 (by omega) (ownp_lit w w.heap.size x y (Nat.le_refl _))).far bx 3 _ (by omega)⟩, (Below.mono n1 (Nat.le_of_lt hb)).setCell (Nat.le_refl _) _⟩
end
def WhS (bx : Nat) (w0 w : World) (K : List (Nat × Int × Int)) (na : Option Addr) (nc : Nat) (ms : List Int) (s : Wk) : Prop := ∃ v it u, WH bx w (.slice na ms.length nc) s.k s.left s.many s.begun v it u s.now ∧ it.map (·.2) = s.out ∧ Nw w0 w ∧ Kb bx w v it u K
section
variable {bx : Nat} {w0 w w' : World} {K K' : List (Nat × Int × Int)} {na : Option Addr} {nc : Nat} {ms : List Int} {s : Wk}
theorem WhS.box (h : WhS bx w0 w K na nc ms s) (x y : Int) (t : TypeId) : WhS bx w0 (w.alloc (.cells #[.int .i64 x, .int .i64 y] t)) ((w.heap.size, x, y) :: K) na nc ms s := by
 obtain ⟨v, it, u, hd, ho, hw, hk⟩ := h
 have n1 : Nw w (w.alloc (.cells #[.int .i64 x, .int .i64 y] t)) := (Below.refl _ _).alloc (Nat.le_refl _) _
 exact ⟨v, it, u, hd.nw n1, ho, Nw.trans hw n1, hk.box hd.lt (fun g e => (OwnQ.lt hd.d.pt g e).2) (fun g e => (OwnQ.lt hd.d.ln.own g e).2) (fun i hi g e => (OwnQ.lt (hd.d.ln.pts i hi) g e).2) x y t⟩
theorem WhS.more (h : WhS bx w0 w K na nc ms s) (k : Nw w w') {g : Nat} (hg : w.heap.size ≤ g) {x y : Int} (c0 : w'.cell? ⟨g, 0, none⟩ = some (.int .i64 x)) (c1 : w'.cell? ⟨g, 1, none⟩ = some (.int .i64 y)) (hf : ∀ o, w'.frozen? ⟨g, o, none⟩ = false) : WhS bx w0 w' ((g, x, y) :: K) na nc ms s := by
 obtain ⟨v, it, u, hd, ho, hw, hk⟩ := h
 refine ⟨v, it, u, hd.nw k, ho, Nw.trans hw k, fun q hq => ?_⟩
 rcases List.mem_cons.1 hq with rfl | hq
 ·exact ⟨c0, c1, hf, by have := hd.lt; show g ≠ bx; omega, fun e => by have := (OwnQ.lt hd.d.pt _ e).2; simp only at this; omega, (fun e => by have := (OwnQ.lt hd.d.ln.own _ e).2; simp only at this; omega), fun i hi e => by have := (OwnQ.lt (hd.d.ln.pts i hi) _ e).2; simp only at this; omega⟩
 ·exact Kb.nw hk k q hq
theorem WhS.sub (h : WhS bx w0 w K na nc ms s) (hs : ∀ k, k ∈ K' → k ∈ K) : WhS bx w0 w K' na nc ms s := by
 obtain ⟨v, it, u, hd, ho, hw, hk⟩ := h
 exact ⟨v, it, u, hd, ho, hw, hk.sub hs⟩
theorem WhS.nw (h : WhS bx w0 w K na nc ms s) (k : Nw w w') : WhS bx w0 w' K na nc ms s := by
 obtain ⟨v, it, u, hd, ho, hw, hk⟩ := h
 exact ⟨v, it, u, hd.nw k, ho, Nw.trans hw k, hk.nw k⟩
theorem WhS.at (h : WhS bx w0 w K na nc ms s) {b : Nat} {x y : Int} (hm : (b, x, y) ∈ K) : w.cell? ⟨b, 0, none⟩ = some (.int .i64 x) ∧ w.cell? ⟨b, 1, none⟩ = some (.int .i64 y) := by
 obtain ⟨v, it, u, hd, ho, hw, hk⟩ := h
 obtain ⟨h1, h2, _⟩ := hk _ hm
 exact ⟨h1, h2⟩
theorem WhS.of {v u : Value} {it : Its} {k l m b : Int} {p : List Pnt} (h : WH bx w (.slice na ms.length nc) k l m b v it u p) (h2 : it.map (·.2) = s.out) (h3 : Nw w0 w) (ha : k = s.k) (hl : l = s.left) (hm : m = s.many) (hb : b = s.begun) (hp : p = s.now) (hk : Kb bx w v it u K) : WhS bx w0 w K na nc ms s := by
 subst ha hl hm hb hp
 exact ⟨v, it, u, h, h2, h3, hk⟩
end
theorem Kb.fresh {bx : Nat} {w : World} {v u : Value} {it : Its} {K : List (Nat × Int × Int)} (h : Kb bx w v it u K) (x y : Int) (t : TypeId) : Kb bx ((w.alloc (.cells #[.int .i64 x, .int .i64 y] t)).setCell ⟨bx, 3, none⟩ (.slice (some ⟨w.heap.size, 0, none⟩) 1 1)) v it (.slice (some ⟨w.heap.size, 0, none⟩) 1 1) K := by
  refine Kb.set (fun q hq => ?_) 3 _
  obtain ⟨h1, h2, h3, h4, h5, h6⟩ := Kb.nw h ((Below.refl _ _).alloc (Nat.le_refl _) (.cells #[.int .i64 x, .int .i64 y] t)) q hq
  have hb : q.1 < w.heap.size := World.block_lt_of_cell? w ⟨q.1, 0, none⟩ (h q hq).1
  exact ⟨h1, h2, h3, h4, fun e => by have : w.heap.size = q.1 := by simpa [Value.ownBlock] using e
                                     omega, h6⟩
theorem WhS.new (w : World) (na : Option Addr) (nc : Nat) (ms : List Int) (x : Int) (t : TypeId) : WhS w.heap.size w (w.alloc (.cells #[.slice na ms.length nc, .int .i64 0, .int .i64 x, .slice none 0 0, .slice none 0 0, .int .i64 0, .int .i64 0] t)) [] na nc ms ⟨0, x, [], [], 0, 0⟩ :=
 ⟨.slice none 0 0, [], .slice none 0 0, ⟨World.cell?_alloc_at _ _ _ _ rfl, World.cell?_alloc_at _ _ _ _ rfl, World.cell?_alloc_at _ _ _ _ rfl, World.cell?_alloc_at _ _ _ _ rfl, World.cell?_alloc_at _ _ _ _ rfl, World.cell?_alloc_at _ _ _ _ rfl, World.cell?_alloc_at _ _ _ _ rfl, fun o => World.frozen?_alloc_at _ _ _ _ rfl, D2.nil _ _⟩, rfl, (Below.refl _ _).alloc (Nat.le_refl _) _, fun q hq => absurd hq (by simp)⟩
structure WB (ms : List Int) (c : Nat) (s : Wk) : Prop where
 hk : s.k < ms.length
 ho : s.out.length ≤ s.begun
 hb : s.begun ≤ 2401
 hm : s.many + s.now.length ≤ 2 * s.begun + c
 h0 : -268435456 * (c : Int) ≤ s.left
 h1 : s.left ≤ 67108864
theorem end_is (s : Wk) : (endW s).k = s.k ∧ (endW s).begun = s.begun ∧ (endW s).left = s.left ∧ (endW s).many ≤ s.many + s.now.length ∧ (endW s).out.length ≤ s.out.length + 1 ∧ (endW s).now = [] := by
 refine ⟨rfl, rfl, rfl, ?_, ?_, rfl⟩
 ·show (if 1 < s.now.length then s.many + s.now.length else s.many) ≤ _
  split <;> omega
 ·show (if _ then _ else _ : List LD).length ≤ _
  split <;> simp
theorem WB.add {ms : List Int} {c : Nat} {s : Wk} (h : WB ms c s) (q : Pnt) : WB ms (c + 1) (addW s q) := by
 unfold addW
 have := h.h0
 split
 ·exact ⟨h.hk, h.ho, h.hb, by show s.many + (s.now ++ [q]).length ≤ _; have := h.hm; simp; omega, by show _ ≤ s.left; omega, h.h1⟩
 ·exact ⟨h.hk, h.ho, h.hb, by have := h.hm; omega, by omega, h.h1⟩
theorem WB.step {ms : List Int} {c : Nat} {s : Wk} (h : WB ms (c + 1) s) (hn : ∀ i, i < ms.length → 0 ≤ intAt ms i ∧ intAt ms i ≤ 67108864) (q : Pnt) (hb : s.begun ≤ 2400) : WB ms c (stepW ms q s) := by
 have hp : 0 < ms.length := by have := h.hk; omega
 have hlt := Nat.mod_lt (s.k + 1) hp
 obtain ⟨n1, n2⟩ := hn _ hlt
 obtain ⟨e1, e2, e3, e4, e5, e6⟩ := end_is s
 have hm := h.hm
 have ho := h.ho
 have hmm : (if s.k % 2 = 0 then endW s else s).many + (if s.k % 2 = 0 then endW s else s).now.length ≤ s.many + s.now.length := by
  split
  ·rw [e6]; simp; omega
  ·omega
 refine ⟨hlt, ?_, by show s.begun + 1 ≤ 2401; omega, ?_, ?_, n2⟩
 ·show (if s.k % 2 = 0 then endW s else s).out.length ≤ s.begun + 1
  split <;> omega
 ·show (if s.k % 2 = 0 then endW s else s).many + (if (s.k + 1) % ms.length % 2 = 0 ∧ 0 < intAt ms ((s.k + 1) % ms.length) then [q] else (if s.k % 2 = 0 then endW s else s).now).length ≤ 2 * (s.begun + 1) + c
  by_cases hc : (s.k + 1) % ms.length % 2 = 0 ∧ 0 < intAt ms ((s.k + 1) % ms.length)
  ·rw [if_pos hc, List.length_singleton]; omega
  ·rw [if_neg hc]; omega
 ·show _ ≤ intAt ms ((s.k + 1) % ms.length); omega
theorem WB.more {ms : List Int} {c : Nat} {s : Wk} (h : WB ms c s) : WB ms (c + 1) s := ⟨h.hk, h.ho, h.hb, by have := h.hm; omega, by have := h.h0; omega, h.h1⟩
theorem WB.next {ms : List Int} {c : Nat} (hn : ∀ i, i < ms.length → 0 ≤ intAt ms i ∧ intAt ms i ≤ 67108864) (q : Pnt) : ∀ (f : Nat) {s : Wk}, WB ms c s → WB ms c (nextW ms q f s)
 | 0, s, h => h
 | f + 1, s, h => by
  rw [nextW]
  split
  ·rename_i hc
   exact WB.next hn q f (WB.step h.more hn q hc.2)
  ·exact h
theorem WB.next1 {ms : List Int} {c : Nat} (hn : ∀ i, i < ms.length → 0 ≤ intAt ms i ∧ intAt ms i ≤ 67108864) (q : Pnt) {s : Wk} (h : WB ms (c + 1) s) (hl : s.left = 0) (hb : s.begun ≤ 2400) : WB ms c (goW ms q s) ∧ s.begun < (goW ms q s).begun := by
 unfold goW
 rw [show 2401 - s.begun = (2400 - s.begun) + 1 by omega, nextW, if_pos ⟨hl, hb⟩]
 refine ⟨WB.next hn q _ (WB.step h hn q hb), ?_⟩
 have : ∀ (f : Nat) (t : Wk), t.begun ≤ (nextW ms q f t).begun := by
  intro f
  induction f with
  | zero => intro t; exact Nat.le_refl _
  | succ f ih =>
   intro t
   rw [nextW]
   split
   ·exact Nat.le_trans (Nat.le_succ _) (ih (stepW ms q t))
   ·exact Nat.le_refl _
 exact Nat.lt_of_lt_of_le (Nat.lt_succ_self _) (this (2400 - s.begun) (stepW ms q s))
set_option maxRecDepth 100000 in
set_option maxHeartbeats 4000000 in
theorem send (w0 w : World) (bx : Nat) (K : List (Nat × Int × Int)) (na : Option Addr) (nc : Nat) (ms : List Int) (s : Wk) (hb0 : w0.heap.size ≤ bx) (hol : s.out.length ≤ 100000) (hml : s.many + s.now.length ≤ 100000) (h : WhS bx w0 w K na nc ms s) :
  Calls Tryz.prog 68 #[.pointer (some ⟨bx, 0, none⟩)] w fun e w' => e = .returned (.tuple #[]) ∧ WhS bx w0 w' K na nc ms (endW s) := by
 obtain ⟨v, it, u, hd, ho, hw, hkb⟩ := h
 obtain ⟨k, left, now, out, many, begun⟩ := s
 simp only at hd ho hol hml
 have HOL : Hid (it.length ≤ 100000) := by show _ ≤ _; rw [← ho, List.length_map] at hol; exact hol
 have HO : Hid (it.map (·.2) = out) := ho
 obtain ⟨ua, uc, hu⟩ := D2.val hd.d
 subst hu
 obtain ⟨va, vc, hv⟩ := D2.vln hd.d
 subst hv
 have HD : Hid (WH bx w (.slice na ms.length nc) k left many begun (.slice va it.length vc) it (.slice ua now.length uc) now) := hd
 have HW : Hid (Nw w0 w) := hw
 have HKB : Hid (Kb bx w (.slice va it.length vc) it (.slice ua now.length uc) K) := hkb
 have HEW : Hid (endW ⟨k, left, now, out, many, begun⟩ = ⟨k, left, [], if 1 < now.length ∧ many + now.length ≤ 600 then out ++ [⟨now, false⟩] else out, if 1 < now.length then many + now.length else many, begun⟩) := rfl
 have n0 : Nw w w.drew := (Below.refl _ _).drew
 have DD : Hid _ := WH.nw hd n0
 clear hkb hd ho hw hol
 generalize hnp : now.length = np at *
 have HNP : Hid (now.length = np) := hnp
 generalize hnn : ms.length = n at *
 have HN : Hid (ms.length = n) := hnn
 generalize hni : it.length = ni at *
 have HNI : Hid (it.length = ni) := hni
 clear hnp hnn hni
 by_cases h1 : 1 < np
 ·have d1 : decide ((1 : Int) < (np : Int)) = true := by simp; omega
  have w1 : IntKind.i64.wrap ((many : Int) + (np : Int)) = (many : Int) + (np : Int) := IntWalk.i64_in _ ⟨by omega, by omega⟩
  by_cases h6 : many + np ≤ 600
  ·have d6 : decide ((many : Int) + (np : Int) ≤ 600) = true := by simp; omega
   have HE2 : Hid (endW ⟨k, left, now, out, many, begun⟩ = ⟨k, left, [], out ++ [⟨now, false⟩], many + np, begun⟩) := by
    show _ = _
    rw [HEW.out, if_pos ⟨h1, h6⟩, if_pos h1]
   clear HEW h6 hml n0
   go_enter Tryz.func68, Tryz.ntmps68
   go_wp2
   refine reg_change (ops' := opsOf 0 Tryz.f68) (by kernel_rfl) ?_
   refine EWB.run ⟨bx, ua, np, uc, many, true, w.drew, _⟩ ⟨DD.out.c3, DD.out.c5, d1, w1, d6, rfl, rfl⟩ w (Kp.refl _) ?_
   intro γ wa ka
   have D1 : Hid _ := WH.nw (WH.nw DD.out (Kp.nw ka)) ((Below.refl _ _).drew)
   have N1 : Hid (Nw w0 wa.drew) := Nw.trans (Nw.trans HW.out (undrew ka).nw) ((Below.refl _ _).drew)
   have KB1 : Hid (Kb bx wa.drew _ it _ K) := Kb.nw (Kb.nw HKB.out (undrew ka).nw) ((Below.refl _ _).drew)
   clear ka DD HKB HW HD
   simp only [Act.put, List.setIfInBounds_toArray, List.set_cons_zero, List.set_cons_succ]
   go_wp2
   refine reg_change (ops' := opsOf 1 Tryz.f68) (by kernel_rfl) ?_
   refine EW1.run ⟨bx, va, ni, vc, it, ua, np, uc, now, wa.drew, _⟩ ⟨D1.out.c4, D1.out.c3, D1.out.free, D1.out.d.ln.own, D1.out.nev, by have := HOL.out; show it.length + 1 ≤ 1000000; rw [HNI.out]; omega, rfl, rfl⟩ wa rfl ?_
   rintro γ w9 ⟨w2, g, cc, g1, o2, x2, hw9⟩
   simp only at g1 o2 x2 hw9
   generalize γ 0 = z0 at *
   generalize γ 1 = v' at *
   obtain ⟨p1, p2⟩ := WH.lput D1.out x2 o2
   rw [← hw9] at p1 p2
   have KB2 : Hid (Kb bx w9 v' (it ++ [(.slice ua np uc, ⟨now, false⟩)]) (.slice ua np uc) K) := by
    show Kb _ _ _ _ _ _
    rw [hw9]; exact Kb.set (Kb.lput KB1.out x2) 4 _
   have N2 : Hid (Nw w0 w9) := Below.trans N1.out (Below.mono p2 hb0)
   have P1 : Hid _ := p1
   have c3 := p1.c3
   clear o2 x2 hw9 p1 p2 D1 N1 KB1
   simp only [Act.put, List.setIfInBounds_toArray, List.set_cons_zero, List.set_cons_succ]
   go_wp2
   have P2 := WM.nw P1.out ((Below.refl _ _).drew : Nw w9 w9.drew)
   refine reg_change (ops' := opsOf 3 Tryz.f68) (by kernel_rfl) ?_
   refine EW3.run ⟨bx, ua, np, uc, many, w9.drew, _⟩ ⟨P2.c3, P2.c5, ⟨_, P2.c5⟩, P2.free, w1, rfl, rfl⟩ w9 rfl ?_
   rintro γ wb hwb
   have hwb2 : wb = w9.drew.setCell ⟨bx, 5, none⟩ (.int .i64 ((many : Int) + (np : Int))) := hwb
   obtain ⟨q1, q2⟩ := WM.setM P2 ((many : Int) + (np : Int))
   rw [← hwb2] at q1 q2
   obtain ⟨r1, r2⟩ := WM.drop q1
   have R1 : Hid _ := r1
   have N3 : Hid (Nw w0 (wb.setCell ⟨bx, 3, none⟩ (.slice none 0 0))) := Below.trans (Below.trans (Nw.trans N2.out ((Below.refl _ _).drew)) (Below.mono q2 hb0)) (Below.mono r2 hb0)
   have KB3 : Hid (Kb bx (wb.setCell ⟨bx, 3, none⟩ (.slice none 0 0)) v' (it ++ [(.slice ua np uc, ⟨now, false⟩)]) (.slice none 0 0) K) := by
    show Kb _ _ _ _ _ _
    rw [hwb2]; exact Kb.drop (Kb.set (Kb.set (Kb.nw KB2.out ((Below.refl _ _).drew)) 5 _) 3 _)
   have s3 := q1.c3
   have sf := q1.free
   clear P1 P2 c3 N2 KB2 q1 q2 r1 r2 hwb hwb2
   simp only [Act.put, List.setIfInBounds_toArray, List.set_cons_zero, List.set_cons_succ]
   go_wp2
   go_end0
   refine ⟨rfl, ?_⟩
   rw [HE2.out]
   exact WhS.of (by rw [HN.out]; exact R1.out) (by show _ = out ++ [⟨now, false⟩]; rw [← HO.out]; simp) N3.out rfl rfl (by show _ = (((many + np : Nat)) : Int); omega) rfl rfl KB3.out
  ·have d6 : decide ((many : Int) + (np : Int) ≤ 600) = false := by simp; omega
   have HE2 : Hid (endW ⟨k, left, now, out, many, begun⟩ = ⟨k, left, [], out, many + np, begun⟩) := by
    show _ = _
    rw [HEW.out, if_neg (fun e => h6 e.2), if_pos h1]
   clear HEW h6 hml n0
   go_enter Tryz.func68, Tryz.ntmps68
   go_wp2
   refine reg_change (ops' := opsOf 0 Tryz.f68) (by kernel_rfl) ?_
   refine EWB.run ⟨bx, ua, np, uc, many, false, w.drew, _⟩ ⟨DD.out.c3, DD.out.c5, d1, w1, d6, rfl, rfl⟩ w (Kp.refl _) ?_
   intro γ wa ka
   have D1 := WH.nw DD.out (Kp.nw ka)
   have P1 : Hid _ := WH.nw D1 ((Below.refl _ _).drew : Nw wa wa.drew)
   have N1 : Hid (Nw w0 wa.drew) := Nw.trans (Nw.trans HW.out (undrew ka).nw) ((Below.refl _ _).drew)
   have KB1 : Hid (Kb bx wa.drew _ it _ K) := Kb.nw (Kb.nw HKB.out (undrew ka).nw) ((Below.refl _ _).drew)
   have c3 := D1.c3
   clear ka DD HKB HW HD D1
   simp only [Act.put, List.setIfInBounds_toArray, List.set_cons_zero, List.set_cons_succ]
   go_wp2
   refine reg_change (ops' := opsOf 3 Tryz.f68) (by kernel_rfl) ?_
   refine EW3.run ⟨bx, ua, np, uc, many, wa.drew, _⟩ ⟨P1.out.c3, P1.out.c5, ⟨_, P1.out.c5⟩, P1.out.free, w1, rfl, rfl⟩ wa rfl ?_
   rintro γ wb hwb
   have hwb2 : wb = wa.drew.setCell ⟨bx, 5, none⟩ (.int .i64 ((many : Int) + (np : Int))) := hwb
   obtain ⟨q1, q2⟩ := WM.setM P1.out.wm ((many : Int) + (np : Int))
   rw [← hwb2] at q1 q2
   obtain ⟨r1, r2⟩ := WM.drop q1
   have R1 : Hid _ := r1
   have N3 : Hid (Nw w0 (wb.setCell ⟨bx, 3, none⟩ (.slice none 0 0))) := Below.trans (Below.trans N1.out (Below.mono q2 hb0)) (Below.mono r2 hb0)
   have KB3 : Hid (Kb bx (wb.setCell ⟨bx, 3, none⟩ (.slice none 0 0)) (.slice va ni vc) it (.slice none 0 0) K) := by
    show Kb _ _ _ _ _ _
    rw [hwb2]; exact Kb.drop (Kb.set (Kb.set KB1.out 5 _) 3 _)
   have s3 := q1.c3
   have sf := q1.free
   clear P1 c3 N1 KB1 q1 q2 r1 r2 hwb hwb2
   simp only [Act.put, List.setIfInBounds_toArray, List.set_cons_zero, List.set_cons_succ]
   go_wp2
   go_end0
   refine ⟨rfl, ?_⟩
   rw [HE2.out]
   exact WhS.of (by rw [HN.out]; exact R1.out) HO.out N3.out rfl rfl (by show _ = (((many + np : Nat)) : Int); omega) rfl rfl KB3.out
 ·have d1 : decide ((1 : Int) < (np : Int)) = false := by simp; omega
  have HE2 : Hid (endW ⟨k, left, now, out, many, begun⟩ = ⟨k, left, [], out, many, begun⟩) := by
   show _ = _
   rw [HEW.out, if_neg (fun e => h1 e.1), if_neg h1]
  clear HEW hml n0 h1
  go_enter Tryz.func68, Tryz.ntmps68
  go_wp2
  refine reg_change (ops' := opsOf 0 Tryz.f68) (by kernel_rfl) ?_
  refine EWA.run ⟨bx, ua, np, uc, many, w.drew, _⟩ ⟨DD.out.c3, d1, rfl, rfl⟩ w (Kp.refl _) ?_
  intro γ wa ka
  have D1 := WH.nw DD.out (Kp.nw ka)
  have N1 : Hid (Nw w0 wa) := Nw.trans HW.out (undrew ka).nw
  have KB1 : Hid (Kb bx wa _ it _ K) := Kb.nw HKB.out (undrew ka).nw
  obtain ⟨r1, r2⟩ := WM.drop D1.wm
  have R1 : Hid _ := r1
  have N3 : Hid (Nw w0 (wa.setCell ⟨bx, 3, none⟩ (.slice none 0 0))) := Below.trans N1.out (Below.mono r2 hb0)
  have KB3 : Hid (Kb bx (wa.setCell ⟨bx, 3, none⟩ (.slice none 0 0)) (.slice va ni vc) it (.slice none 0 0) K) := Kb.drop (Kb.set KB1.out 3 _)
  have c3 := D1.c3
  have sf := D1.free
  clear ka DD HKB HW HD D1 r1 r2
  simp only [Act.put, List.setIfInBounds_toArray, List.set_cons_zero, List.set_cons_succ]
  go_wp2
  go_end0
  refine ⟨rfl, ?_⟩
  rw [HE2.out]
  exact WhS.of (by rw [HN.out]; exact R1.out) HO.out N3.out rfl rfl rfl rfl rfl KB3.out
theorem mod2_int (k : Nat) : ((k : Int)).tmod 2 = ((k % 2 : Nat) : Int) := by
 rw [Int.tmod_eq_emod_of_nonneg (by omega)]; omega
theorem LayPt.last {w : World} {g n : Nat} {l : List Pnt} (h : LayPt w g l n) (hn : n = l.length) (h0 : 0 < n) : w.cell? ⟨g, (n - 1) * 2, none⟩ = some (.int .i64 (lastP l).1) ∧ w.cell? ⟨g, (n - 1) * 2 + 1, none⟩ = some (.int .i64 (lastP l).2) := by
 subst hn
 unfold lastP
 exact h.2.1 (l.length - 1) (by omega)
set_option maxRecDepth 100000 in
set_option maxHeartbeats 4000000 in
theorem sadd (w0 w : World) (bx : Nat) (K : List (Nat × Int × Int)) (na : Option Addr) (nc : Nat) (ms : List Int) (s : Wk) (x y : Int) (hb0 : w0.heap.size ≤ bx) (hpl : s.now.length ≤ 100000) (h : WhS bx w0 w K na nc ms s) :
  Calls Tryz.prog 87 #[.pointer (some ⟨bx, 0, none⟩), .agg #[.int .i64 x, .int .i64 y]] w fun e w' => e = .returned (.tuple #[]) ∧ WhS bx w0 w' K na nc ms (addW s (x, y)) := by
 obtain ⟨k, left, now, out, many, begun⟩ := s
 simp only at hpl
 have hbx := WhS.box h x y 34
 obtain ⟨bq, hbq⟩ : ∃ bq, w.heap.size = bq := ⟨_, rfl⟩
 obtain ⟨W2, hW2⟩ : ∃ W2, w.alloc (.cells #[.int .i64 x, .int .i64 y] 34) = W2 := ⟨_, rfl⟩
 rw [hbq, hW2] at hbx
 have H2 : Hid (WhS bx w0 W2.drew ((bq, x, y) :: K) na nc ms ⟨k, left, now, out, many, begun⟩) := WhS.nw hbx ((Below.refl _ _).drew)
 have HW2 : Hid (_ = W2) := hW2
 have HBQ : Hid (w.heap.size = bq) := hbq
 have hrm := mod2_int k
 clear h hbx hW2 hbq
 obtain ⟨q0, q1⟩ := WhS.at H2.out (b := bq) (x := x) (y := y) (by simp)
 obtain ⟨v, it, u, hd, ho, hw, hkb⟩ := H2.out
 simp only at hd ho
 have HO : Hid (it.map (·.2) = out) := ho
 obtain ⟨ua, uc, hu⟩ := D2.val hd.d
 subst hu
 have HD : Hid _ := hd
 have HW : Hid (Nw w0 W2.drew) := hw
 have HKB : Hid (Kb bx W2.drew v it (.slice ua now.length uc) ((bq, x, y) :: K)) := hkb
 have KS : Hid (∀ q, q ∈ K → q ∈ (bq, x, y) :: K) := fun q hq => List.mem_cons_of_mem _ hq
 clear hw hkb ho
 by_cases hk : k % 2 = 0
 ·have hr : (((k % 2 : Nat) : Int) == 0) = true := by rw [hk]; rfl
  by_cases hn : now.length = 0
  ·obtain rfl : now = [] := List.eq_nil_of_length_eq_zero hn
   have HA : Hid (addW ⟨k, left, [], out, many, begun⟩ (x, y) = ⟨k, left, [(x, y)], out, many, begun⟩) := by
    show _ = _
    unfold addW addB
    simp [hk]
   have c3 := hd.c3
   simp only [List.length_nil] at c3 hd HD HKB
   have c1 := hd.c1
   clear hn hk hd
   go_enter Tryz.func87, Tryz.ntmps87
   go_wp2
   rw [HW2.out, HBQ.out]
   refine reg_change (ops' := opsOf 1 Tryz.f87) (by kernel_rfl) ?_
   refine AWB.run ⟨bx, bq, x, y, k, ((k % 2 : Nat) : Int), ua, uc, W2.drew, _⟩ ⟨c1, c3, hrm, hr, rfl, rfl, rfl⟩ W2 (Kp.refl _) ?_
   intro γ wa ka
   have na2 : Nw W2.drew wa.drew := Nw.trans (Kp.nw ka) ((Below.refl _ _).drew)
   have D1 := WH.nw HD.out na2
   obtain ⟨y0, y1⟩ := WhS.at (WhS.nw H2.out na2) (b := bq) (x := x) (y := y) (by simp)
   have D1H : Hid _ := D1
   have N1 : Hid (Nw w0 wa.drew) := Nw.trans HW.out na2
   have KB1 : Hid (Kb bx wa.drew v it (.slice ua 0 uc) ((bq, x, y) :: K)) := Kb.nw HKB.out na2
   clear ka na2 c1 c3 q0 q1 D1
   simp only [Act.put, List.setIfInBounds_toArray, List.set_cons_zero, List.set_cons_succ]
   go_wp2
   refine reg_change (ops' := opsOf 2 Tryz.f87) (by kernel_rfl) ?_
   refine AW2.run ⟨bx, bq, x, y, ua, 0, uc, [], wa.drew, _⟩ ⟨D1H.out.c3, y0, y1, D1H.out.free, D1H.out.d.pt, D1H.out.neu, by simp, rfl, rfl, rfl⟩ wa rfl ?_
   rintro γ w9 ⟨w2, g2, cc2, g1, o2, x2, hw9⟩
   simp only at g1 o2 x2 hw9
   generalize γ 0 = z0 at *
   generalize γ 1 = u' at *
   obtain ⟨p1, p2⟩ := WH.pput D1H.out x2 o2
   rw [← hw9] at p1 p2
   have KB2 : Hid (Kb bx w9 v it u' K) := by
    show Kb _ _ _ _ _ _
    rw [hw9]; exact Kb.set (Kb.pput (Kb.sub KB1.out KS.out) x2) 3 _
   have N2 : Hid (Nw w0 w9) := Below.trans N1.out (Below.mono p2 hb0)
   have P1 : Hid _ := p1
   clear o2 x2 hw9 p1 p2 D1H N1 KB1 y0 y1
   simp only [Act.put, List.setIfInBounds_toArray, List.set_cons_zero, List.set_cons_succ]
   go_wp2
   go_end0
   refine ⟨rfl, ?_⟩
   rw [HA.out]
   exact WhS.of P1.out HO.out N2.out rfl rfl rfl rfl rfl KB2.out
  ·by_cases hl : lastP now = (x, y)
   ·have HA : Hid (addW ⟨k, left, now, out, many, begun⟩ (x, y) = ⟨k, left, now, out, many, begun⟩) := by
     show _ = _
     unfold addW addB
     simp [hn, hl]
    obtain ⟨g, cc, hu, hg, hlay⟩ : ∃ g c, Value.slice ua now.length uc = .slice (some ⟨g, 0, none⟩) now.length c ∧ bx + 1 ≤ g ∧ LayPt W2.drew g now now.length := by
     rcases OwnP.lay hd.d.pt with ⟨_, e⟩ | e
     ·rw [e] at hn; simp at hn
     ·exact e
    injection hu with hu1 hu2 hu3
    subst hu1
    obtain ⟨l0, l1⟩ := LayPt.last hlay rfl (by omega)
    rw [hl] at l0 l1
    have c1 := hd.c1
    have c3 := hd.c3
    have h0 : (((now.length : Nat) : Int) == 0) = false := by simp; intro e; exact hn (by simp [e])
    have wm : IntKind.i64.wrap ((now.length : Int) - 1) = ((now.length - 1 : Nat) : Int) := by rw [IntWalk.i64_in _ ⟨by omega, by omega⟩]; omega
    have hm : now.length - 1 < now.length := by omega
    clear hk hd hlay hl hg hu2 hu3 cc
    generalize hnp : now.length = np at *
    generalize np - 1 = m at *
    clear hnp
    go_enter Tryz.func87, Tryz.ntmps87
    go_wp2
    rw [HW2.out, HBQ.out]
    refine reg_change (ops' := opsOf 1 Tryz.f87) (by kernel_rfl) ?_
    refine AWC.run ⟨bx, bq, x, y, k, ((k % 2 : Nat) : Int), g, np, m, uc, W2.drew, _⟩ ⟨c1, c3, q0, q1, hrm, hr, h0, wm, hm, l0, l1, rfl, rfl, rfl⟩ W2 (Kp.refl _) ?_
    intro γ wa ka
    have E : Hid (WhS bx w0 wa K na nc ms ⟨k, left, now, out, many, begun⟩) := WhS.sub (WhS.nw H2.out (Kp.nw ka)) KS.out
    clear ka c1 c3 q0 q1 l0 l1
    simp only [Act.put, List.setIfInBounds_toArray, List.set_cons_zero, List.set_cons_succ]
    go_wp2
    go_end0
    exact ⟨rfl, by rw [HA.out]; exact E.out⟩
   ·have HA : Hid (addW ⟨k, left, now, out, many, begun⟩ (x, y) = ⟨k, left, now ++ [(x, y)], out, many, begun⟩) := by
     show _ = _
     unfold addW addB
     simp [hk, hl]
    obtain ⟨g, cc, hu, hg, hlay⟩ : ∃ g c, Value.slice ua now.length uc = .slice (some ⟨g, 0, none⟩) now.length c ∧ bx + 1 ≤ g ∧ LayPt W2.drew g now now.length := by
     rcases OwnP.lay hd.d.pt with ⟨_, e⟩ | e
     ·rw [e] at hn; simp at hn
     ·exact e
    injection hu with hu1 hu2 hu3
    subst hu1
    obtain ⟨l0, l1⟩ := LayPt.last hlay rfl (by omega)
    have hv : (lastP now).1 = x → ¬ (lastP now).2 = y := fun e1 e2 => hl (Prod.ext e1 e2)
    have c1 := hd.c1
    have c3 := hd.c3
    have h0 : (((now.length : Nat) : Int) == 0) = false := by simp; intro e; exact hn (by simp [e])
    have wm : IntKind.i64.wrap ((now.length : Int) - 1) = ((now.length - 1 : Nat) : Int) := by rw [IntWalk.i64_in _ ⟨by omega, by omega⟩]; omega
    have hm : now.length - 1 < now.length := by omega
    clear hk hd hlay hl hg hu2 hu3 cc hn
    go_enter Tryz.func87, Tryz.ntmps87
    go_wp2
    rw [HW2.out, HBQ.out]
    refine reg_change (ops' := opsOf 1 Tryz.f87) (by kernel_rfl) ?_
    refine AWD.run ⟨bx, bq, x, y, k, ((k % 2 : Nat) : Int), g, now.length, now.length - 1, uc, (lastP now).1, (lastP now).2, W2.drew, _⟩ ⟨c1, c3, q0, q1, hrm, hr, h0, wm, hm, l0, l1, hv, rfl, rfl, rfl⟩ W2 (Kp.refl _) ?_
    intro γ wa ka
    have na2 : Nw W2.drew wa.drew := Nw.trans (Kp.nw ka) ((Below.refl _ _).drew)
    have D1 := WH.nw HD.out na2
    obtain ⟨y0, y1⟩ := WhS.at (WhS.nw H2.out na2) (b := bq) (x := x) (y := y) (by simp)
    have D1H : Hid _ := D1
    have N1 : Hid (Nw w0 wa.drew) := Nw.trans HW.out na2
    have KB1 : Hid (Kb bx wa.drew v it (.slice (some ⟨g, 0, none⟩) now.length uc) ((bq, x, y) :: K)) := Kb.nw HKB.out na2
    clear ka na2 c1 c3 q0 q1 D1
    simp only [Act.put, List.setIfInBounds_toArray, List.set_cons_zero, List.set_cons_succ]
    go_wp2
    refine reg_change (ops' := opsOf 2 Tryz.f87) (by kernel_rfl) ?_
    refine AW2.run ⟨bx, bq, x, y, (some ⟨g, 0, none⟩), now.length, uc, now, wa.drew, _⟩ ⟨D1H.out.c3, y0, y1, D1H.out.free, D1H.out.d.pt, D1H.out.neu, by show now.length + 1 ≤ 1000000; omega, rfl, rfl, rfl⟩ wa rfl ?_
    rintro γ w9 ⟨w2, g2, cc2, g1, o2, x2, hw9⟩
    simp only at g1 o2 x2 hw9
    generalize γ 0 = z0 at *
    generalize γ 1 = u' at *
    obtain ⟨p1, p2⟩ := WH.pput D1H.out x2 o2
    rw [← hw9] at p1 p2
    have KB2 : Hid (Kb bx w9 v it u' K) := by
     show Kb _ _ _ _ _ _
     rw [hw9]; exact Kb.set (Kb.pput (Kb.sub KB1.out KS.out) x2) 3 _
    have N2 : Hid (Nw w0 w9) := Below.trans N1.out (Below.mono p2 hb0)
    have P1 : Hid _ := p1
    clear o2 x2 hw9 p1 p2 D1H N1 KB1 y0 y1
    simp only [Act.put, List.setIfInBounds_toArray, List.set_cons_zero, List.set_cons_succ]
    go_wp2
    go_end0
    refine ⟨rfl, ?_⟩
    rw [HA.out]
    exact WhS.of P1.out HO.out N2.out rfl rfl rfl rfl rfl KB2.out
 ·have hr : (((k % 2 : Nat) : Int) == 0) = false := by
   have : k % 2 = 1 := by omega
   rw [this]; rfl
  have HA : Hid (addW ⟨k, left, now, out, many, begun⟩ (x, y) = ⟨k, left, now, out, many, begun⟩) := by
   show _ = _
   unfold addW addB
   simp [hk]
  have c1 := hd.c1
  clear hk hd
  go_enter Tryz.func87, Tryz.ntmps87
  go_wp2
  rw [HW2.out, HBQ.out]
  refine reg_change (ops' := opsOf 1 Tryz.f87) (by kernel_rfl) ?_
  refine AWA.run ⟨bx, bq, x, y, k, ((k % 2 : Nat) : Int), W2.drew, _⟩ ⟨c1, hrm, hr, rfl, rfl, rfl⟩ W2 (Kp.refl _) ?_
  intro γ wa ka
  have E : Hid (WhS bx w0 wa K na nc ms ⟨k, left, now, out, many, begun⟩) := WhS.sub (WhS.nw H2.out (Kp.nw ka)) KS.out
  clear ka c1 q0 q1
  simp only [Act.put, List.setIfInBounds_toArray, List.set_cons_zero, List.set_cons_succ]
  go_wp2
  go_end0
  exact ⟨rfl, by rw [HA.out]; exact E.out⟩
set_option maxRecDepth 100000 in
set_option maxHeartbeats 8000000 in
theorem snext (w0 w : World) (bx : Nat) (K : List (Nat × Int × Int)) (na : Option Addr) (nc : Nat) (ms : List Int) (s : Wk) (x y : Int) (c : Nat) (hb0 : w0.heap.size ≤ bx) (hI : Ints w0 na ms) (hms : ∀ i, i < ms.length → 0 ≤ intAt ms i ∧ intAt ms i ≤ 67108864) (hl : ms.length ≤ 16) (hc : c ≤ 10000) (hwb : WB ms c s) (h : WhS bx w0 w K na nc ms s) :
  Calls Tryz.prog 88 #[.pointer (some ⟨bx, 0, none⟩), .agg #[.int .i64 x, .int .i64 y]] w fun e w' => e = .returned (.tuple #[]) ∧ WhS bx w0 w' K na nc ms (goW ms (x, y) s) := by
 have hbx := WhS.box h x y 34
 obtain ⟨bq, hbq⟩ : ∃ bq, w.heap.size = bq := ⟨_, rfl⟩
 obtain ⟨W2, hW2⟩ : ∃ W2, w.alloc (.cells #[.int .i64 x, .int .i64 y] 34) = W2 := ⟨_, rfl⟩
 rw [hbq, hW2] at hbx
 have H2 : Hid (WhS bx w0 W2 ((bq, x, y) :: K) na nc ms s) := hbx
 have HW2 : Hid (_ = W2) := hW2
 have HBQ : Hid (w.heap.size = bq) := hbq
 have HMS : Hid _ := hms
 have HWB : Hid (WB ms c s) := hwb
 obtain ⟨R, hR⟩ : ∃ R, goW ms (x, y) s = R := ⟨_, rfl⟩
 rw [hR]
 have HR : Hid (nextW ms (x, y) (2401 - s.begun) s = R) := hR
 have hpos : 0 < ms.length := by have := hwb.hk; omega
 have KS : Hid (∀ q, q ∈ K → q ∈ (bq, x, y) :: K) := fun q hq => List.mem_cons_of_mem _ hq
 obtain ⟨nb, no, hna, hcx⟩ : ∃ nb no, na = some ⟨nb, no, none⟩ ∧ ∀ i, i < ms.length → w0.cell? ⟨nb, no + i, none⟩ = some (.int .i64 (intAt ms i)) := by
  rcases hI with hx | ⟨b, off, rfl, _, hc⟩
  ·rw [hx] at hpos; simp at hpos
  ·exact ⟨b, off, rfl, hc⟩
 subst hna
 have HCX : Hid _ := hcx
 clear h hbx hW2 hbq hms hwb hR hI hcx
 generalize hnn : ms.length = n at *
 have HN : Hid (ms.length = n) := hnn
 clear hnn
 go_enter Tryz.func88, Tryz.ntmps88
 go_wp2
 rw [HW2.out, HBQ.out]
 go_loopw [] (fun wr => ∃ s', WhS bx w0 wr ((bq, x, y) :: K) (some ⟨nb, no, none⟩) nc ms s' ∧ WB ms c s' ∧ nextW ms (x, y) (2401 - s'.begun) s' = R) (fun wr => 30000 - (intOf ((wr.cell? ⟨bx, 6, none⟩).getD undef)).toNat)
 case atStart => exact ⟨s, H2.out, HWB.out, HR.out⟩
 case round =>
  obtain ⟨⟨k, left, now, out, many, begun⟩, hd', hwb', hr'⟩ := hrel
  have HD : Hid (WhS bx w0 wr ((bq, x, y) :: K) (some ⟨nb, no, none⟩) nc ms ⟨k, left, now, out, many, begun⟩) := hd'
  have HB' : Hid (WB ms c ⟨k, left, now, out, many, begun⟩) := hwb'
  have HR' : Hid (nextW ms (x, y) (2401 - begun) ⟨k, left, now, out, many, begun⟩ = R) := hr'
  have hk : k < n := by have := hwb'.hk; rw [HN.out] at this; exact this
  have hbg : begun ≤ 2401 := hwb'.hb
  obtain ⟨v, it, u, dh, _, _, _⟩ := hd'
  have c1 := dh.c1
  have c2 := dh.c2
  have c6 := dh.c6
  have fr := dh.free
  simp only at c1 c2 c6
  have HC6 : Hid _ := c6
  clear hwb' hr' dh
  by_cases hz : left = 0
  ·subst hz
   by_cases hb4 : begun ≤ 2400
   ·have db : decide ((begun : Int) ≤ 2400) = true := by simp; omega
    have HSR : Hid (nextW ms (x, y) (2401 - (begun + 1)) (stepW ms (x, y) ⟨k, 0, now, out, many, begun⟩) = R) := by
     show _ = _
     rw [← HR'.out, show 2401 - begun = (2401 - (begun + 1)) + 1 by omega, nextW, if_pos ⟨rfl, hb4⟩]
    obtain ⟨m, hm⟩ : ∃ m, (k + 1) % n = m := ⟨_, rfl⟩
    have hmn : m < n := by rw [← hm]; exact Nat.mod_lt _ hpos
    have rm : (((k : Int)) + 1).tmod (n : Int) = (m : Int) := by
     rw [show ((k : Int) + 1) = ((k + 1 : Nat) : Int) by omega, Int.tmod_eq_emod_of_nonneg (by omega), ← hm]
     exact (Int.natCast_emod _ _).symm
    obtain ⟨L, hL⟩ : ∃ L, intAt ms m = L := ⟨_, rfl⟩
    have hLb := HMS.out m hmn
    rw [hL] at hLb
    have HCL : Hid (w0.cell? ⟨nb, no + m, none⟩ = some (.int .i64 L)) := by rw [← hL]; exact HCX.out m hmn
    have HST : Hid (stepW ms (x, y) ⟨k, 0, now, out, many, begun⟩ = ⟨m, L, if m % 2 = 0 ∧ 0 < L then [(x, y)] else (if k % 2 = 0 then endW ⟨k, 0, now, out, many, begun⟩ else ⟨k, 0, now, out, many, begun⟩).now, (if k % 2 = 0 then endW ⟨k, 0, now, out, many, begun⟩ else ⟨k, 0, now, out, many, begun⟩).out, (if k % 2 = 0 then endW ⟨k, 0, now, out, many, begun⟩ else ⟨k, 0, now, out, many, begun⟩).many, begun + 1⟩) := by
     show _ = _
     unfold stepW
     simp only [HN.out, hm, hL]
    have HWS : Hid (WB ms c (stepW ms (x, y) ⟨k, 0, now, out, many, begun⟩)) := WB.step HB'.out.more (by rw [HN.out]; exact HMS.out) (x, y) hb4
    have w1 : IntKind.i64.wrap ((k : Int) + 1) = (k : Int) + 1 := IntWalk.i64_in _ ⟨by omega, by omega⟩
    clear hm hL HR'
    by_cases hk2 : k % 2 = 0
    ·have hkt : ((k : Int) % 2 == 0) = true := by
      have : (k : Int) % 2 = 0 := by omega
      rw [this]; rfl
     have HEND : Hid _ := send w0 wr bx ((bq, x, y) :: K) (some ⟨nb, no, none⟩) nc ms ⟨k, 0, now, out, many, begun⟩ hb0 (by have := HB'.out.ho; have : out.length ≤ begun := this; show out.length ≤ _; omega) (by have := HB'.out.hm; have : many + now.length ≤ 2 * begun + c := this; show many + now.length ≤ _; omega) HD.out
     rw [if_pos hk2] at HST
     clear hk2
     go_wp2_with fail
     refine Calls.mono HEND.out ?_
     rintro e w4 ⟨rfl, h4⟩
     have E4 : Hid (WhS bx w0 w4 ((bq, x, y) :: K) (some ⟨nb, no, none⟩) nc ms (endW ⟨k, 0, now, out, many, begun⟩)) := h4
     obtain ⟨e1, e2, e3, _, _, _⟩ := end_is ⟨k, 0, now, out, many, begun⟩
     have HEQ : Hid (endW ⟨k, 0, now, out, many, begun⟩ = ⟨k, 0, (endW ⟨k, 0, now, out, many, begun⟩).now, (endW ⟨k, 0, now, out, many, begun⟩).out, (endW ⟨k, 0, now, out, many, begun⟩).many, begun⟩) := rfl
     generalize hN4 : (endW ⟨k, 0, now, out, many, begun⟩).now = now4 at *
     generalize hO4 : (endW ⟨k, 0, now, out, many, begun⟩).out = out4 at *
     generalize hM4 : (endW ⟨k, 0, now, out, many, begun⟩).many = many4 at *
     rw [HEQ.out] at E4
     clear h4 HEND HD e1 e2 e3 c1 c2 c6 fr HEQ hN4 hO4 hM4
     obtain ⟨v4, it4, u4, hd4, ho4, hw4, hkb4⟩ := E4.out
     simp only at hd4 ho4
     have HO4 : Hid (it4.map (·.2) = out4) := ho4
     obtain ⟨s1, s2⟩ := hd4.setB ((begun : Int) + 1)
     have d6 := hd4.c6
     have f4 := hd4.free
     obtain ⟨W5, hW5⟩ : ∃ W5, w4.setCell ⟨bx, 6, none⟩ (.int .i64 ((begun : Int) + 1)) = W5 := ⟨_, rfl⟩
     rw [hW5] at s1 s2
     have HW5 : Hid (_ = W5) := hW5
     have n5 : Nw W5 W5.drew := (Below.refl _ _).drew
     have S5 : Hid _ := WH.nw s1 n5
     have N5 : Hid (Nw w0 W5.drew) := Nw.trans (Below.trans hw4 (Below.mono s2 hb0)) n5
     have KB5 : Hid (Kb bx W5.drew v4 it4 u4 ((bq, x, y) :: K)) := by
      have := Kb.set hkb4 6 (.int .i64 ((begun : Int) + 1))
      rw [hW5] at this
      exact Kb.nw this n5
     clear hd4 ho4 hw4 hkb4 s1 s2 hW5 n5
     go_wp2
     rw [HW5.out]
     refine reg_change (ops' := opsOf 5 Tryz.f88) (by kernel_rfl) ?_
     refine NW5.run ⟨bx, nb, no, n, nc, k, m, W5.drew, _⟩ ⟨by have := S5.out.c0; rw [HN.out] at this; exact this, S5.out.c1, w1, rm, by show n ≠ 0; omega, ⟨_, S5.out.c1⟩, S5.out.free, rfl, rfl⟩ W5 rfl ?_
     rintro γ w6 hw6
     have hw6' : w6 = W5.drew.setCell ⟨bx, 1, none⟩ (.int .i64 (m : Int)) := hw6
     obtain ⟨t1, t2⟩ := WH.setK S5.out (m : Int)
     rw [← hw6'] at t1 t2
     have n6 : Nw w6 w6.drew := (Below.refl _ _).drew
     have S6 : Hid _ := WH.nw t1 n6
     have N6 : Hid (Nw w0 w6.drew) := Nw.trans (Below.trans N5.out (Below.mono t2 hb0)) n6
     have KB6 : Hid (Kb bx w6.drew v4 it4 u4 ((bq, x, y) :: K)) := by
      have := Kb.set KB5.out 1 (.int .i64 (m : Int))
      rw [← hw6'] at this
      exact Kb.nw this n6
     have CX6 : Hid (w6.drew.cell? ⟨nb, no + m, none⟩ = some (.int .i64 L)) := ((bcell N6.out).1 _ _ (World.block_lt_of_cell? w0 ⟨nb, no + m, none⟩ HCL.out)).trans HCL.out
     clear d6 f4 HW5 S5 N5 KB5 hw6 hw6' t1 t2 n6
     simp only [Act.put, List.setIfInBounds_toArray, List.set_cons_zero, List.set_cons_succ]
     go_wp2
     refine reg_change (ops' := opsOf 6 Tryz.f88) (by kernel_rfl) ?_
     refine NW6.run ⟨bx, nb, no, n, nc, m, L, w6.drew, _⟩ ⟨by have := S6.out.c0; rw [HN.out] at this; exact this, S6.out.c1, hmn, CX6.out, ⟨_, S6.out.c2⟩, S6.out.free, rfl, rfl⟩ w6 rfl ?_
     rintro γ w7 hw7
     have hw7' : w7 = w6.drew.setCell ⟨bx, 2, none⟩ (.int .i64 L) := hw7
     obtain ⟨t1, t2⟩ := WH.setL S6.out L
     rw [← hw7'] at t1 t2
     have S7 : Hid _ := t1
     have N7 : Hid (Nw w0 w7) := Below.trans N6.out (Below.mono t2 hb0)
     have KB7 : Hid (Kb bx w7 v4 it4 u4 ((bq, x, y) :: K)) := by
      show Kb _ _ _ _ _ _
      rw [hw7']
      exact Kb.set KB6.out 2 (.int .i64 L)
     have f1 := t1.c1
     have f2 := t1.c2
     have f3 := t1.c3
     have ff := t1.free
     obtain ⟨q0, q1, _⟩ := KB7.out (bq, x, y) (by simp)
     simp only at q0 q1
     clear S6 N6 KB6 CX6 hw7 hw7' t1 t2
     simp only [Act.put, List.setIfInBounds_toArray, List.set_cons_zero, List.set_cons_succ]
     by_cases hm2 : m % 2 = 0
     ·have hmq : (m : Int) % 2 = 0 := by omega
      have hmt : ((m : Int) % 2 == 0) = true := by rw [hmq]; rfl
      by_cases hL0 : 0 < L
      ·have dL : decide (0 < L) = true := decide_eq_true hL0
       rw [if_pos ⟨hm2, hL0⟩] at HST
       rw [HST.out] at HWS HSR
       clear hm2 hL0
       obtain ⟨p1, p2⟩ := WH.fresh S7.out x y
       have P1 : Hid _ := p1
       have NP : Hid _ := Below.trans N7.out (Below.mono p2 hb0)
       have KP : Hid _ := Kb.fresh KB7.out x y 34
       have c6' : Hid _ := p1.c6
       have S8 := WH.nw S7.out ((Below.refl _ _).alloc (Nat.le_refl _) _ : Nw w7 (w7.alloc (.cells #[.int .i64 x, .int .i64 y] 34)))
       have g3 := S8.c3
       have gf := S8.free
       clear p1 p2 S8 f3 ff
       go_wp2
       go_roundw
       case rel => exact ⟨⟨m, L, _, out4, many4, begun + 1⟩, WhS.of P1.out HO4.out NP.out rfl rfl rfl (by show (begun : Int) + 1 = ((begun + 1 : Nat) : Int); omega) rfl KP.out, HWS.out, HSR.out⟩
       case measure => rw [c6'.out, HC6.out]; simp [intOf]; omega
      ·have dL : decide (0 < L) = false := decide_eq_false hL0
       rw [if_neg (fun e => hL0 e.2)] at HST
       rw [HST.out] at HWS HSR
       clear hm2 hL0
       have c6' : Hid _ := S7.out.c6
       go_wp2
       go_roundw
       case rel => exact ⟨⟨m, L, _, out4, many4, begun + 1⟩, WhS.of S7.out HO4.out N7.out rfl rfl rfl (by show (begun : Int) + 1 = ((begun + 1 : Nat) : Int); omega) rfl KB7.out, HWS.out, HSR.out⟩
       case measure => rw [c6'.out, HC6.out]; simp [intOf]; omega
     ·have hmq : ¬ (m : Int) % 2 = 0 := by omega
      have hmt : ((m : Int) % 2 == 0) = false := by
       have : (m : Int) % 2 = 1 := by omega
       rw [this]; rfl
      rw [if_neg (fun e => hm2 e.1)] at HST
      rw [HST.out] at HWS HSR
      clear hm2
      have c6' : Hid _ := S7.out.c6
      go_wp2
      go_roundw
      case rel => exact ⟨⟨m, L, _, out4, many4, begun + 1⟩, WhS.of S7.out HO4.out N7.out rfl rfl rfl (by show (begun : Int) + 1 = ((begun + 1 : Nat) : Int); omega) rfl KB7.out, HWS.out, HSR.out⟩
      case measure => rw [c6'.out, HC6.out]; simp [intOf]; omega
    ·have hkt : ((k : Int) % 2 == 0) = false := by
      have : (k : Int) % 2 = 1 := by omega
      rw [this]; rfl
     rw [if_neg hk2] at HST
     simp only at HST
     clear hk2
     have E4 : Hid _ := HD.out
     generalize hw4 : wr = w4 at *
     generalize hN4 : now = now4 at *
     generalize hO4 : out = out4 at *
     generalize hM4 : many = many4 at *
     clear HD
     obtain ⟨v4, it4, u4, hd4, ho4, hw4, hkb4⟩ := E4.out
     simp only at hd4 ho4
     have HO4 : Hid (it4.map (·.2) = out4) := ho4
     obtain ⟨s1, s2⟩ := hd4.setB ((begun : Int) + 1)
     have d6 := hd4.c6
     have f4 := hd4.free
     obtain ⟨W5, hW5⟩ : ∃ W5, w4.setCell ⟨bx, 6, none⟩ (.int .i64 ((begun : Int) + 1)) = W5 := ⟨_, rfl⟩
     rw [hW5] at s1 s2
     have HW5 : Hid (_ = W5) := hW5
     have n5 : Nw W5 W5.drew := (Below.refl _ _).drew
     have S5 : Hid _ := WH.nw s1 n5
     have N5 : Hid (Nw w0 W5.drew) := Nw.trans (Below.trans hw4 (Below.mono s2 hb0)) n5
     have KB5 : Hid (Kb bx W5.drew v4 it4 u4 ((bq, x, y) :: K)) := by
      have := Kb.set hkb4 6 (.int .i64 ((begun : Int) + 1))
      rw [hW5] at this
      exact Kb.nw this n5
     clear hd4 ho4 hw4 hkb4 s1 s2 hW5 n5
     go_wp2
     rw [HW5.out]
     refine reg_change (ops' := opsOf 5 Tryz.f88) (by kernel_rfl) ?_
     refine NW5.run ⟨bx, nb, no, n, nc, k, m, W5.drew, _⟩ ⟨by have := S5.out.c0; rw [HN.out] at this; exact this, S5.out.c1, w1, rm, by show n ≠ 0; omega, ⟨_, S5.out.c1⟩, S5.out.free, rfl, rfl⟩ W5 rfl ?_
     rintro γ w6 hw6
     have hw6' : w6 = W5.drew.setCell ⟨bx, 1, none⟩ (.int .i64 (m : Int)) := hw6
     obtain ⟨t1, t2⟩ := WH.setK S5.out (m : Int)
     rw [← hw6'] at t1 t2
     have n6 : Nw w6 w6.drew := (Below.refl _ _).drew
     have S6 : Hid _ := WH.nw t1 n6
     have N6 : Hid (Nw w0 w6.drew) := Nw.trans (Below.trans N5.out (Below.mono t2 hb0)) n6
     have KB6 : Hid (Kb bx w6.drew v4 it4 u4 ((bq, x, y) :: K)) := by
      have := Kb.set KB5.out 1 (.int .i64 (m : Int))
      rw [← hw6'] at this
      exact Kb.nw this n6
     have CX6 : Hid (w6.drew.cell? ⟨nb, no + m, none⟩ = some (.int .i64 L)) := ((bcell N6.out).1 _ _ (World.block_lt_of_cell? w0 ⟨nb, no + m, none⟩ HCL.out)).trans HCL.out
     clear d6 f4 HW5 S5 N5 KB5 hw6 hw6' t1 t2 n6
     simp only [Act.put, List.setIfInBounds_toArray, List.set_cons_zero, List.set_cons_succ]
     go_wp2
     refine reg_change (ops' := opsOf 6 Tryz.f88) (by kernel_rfl) ?_
     refine NW6.run ⟨bx, nb, no, n, nc, m, L, w6.drew, _⟩ ⟨by have := S6.out.c0; rw [HN.out] at this; exact this, S6.out.c1, hmn, CX6.out, ⟨_, S6.out.c2⟩, S6.out.free, rfl, rfl⟩ w6 rfl ?_
     rintro γ w7 hw7
     have hw7' : w7 = w6.drew.setCell ⟨bx, 2, none⟩ (.int .i64 L) := hw7
     obtain ⟨t1, t2⟩ := WH.setL S6.out L
     rw [← hw7'] at t1 t2
     have S7 : Hid _ := t1
     have N7 : Hid (Nw w0 w7) := Below.trans N6.out (Below.mono t2 hb0)
     have KB7 : Hid (Kb bx w7 v4 it4 u4 ((bq, x, y) :: K)) := by
      show Kb _ _ _ _ _ _
      rw [hw7']
      exact Kb.set KB6.out 2 (.int .i64 L)
     have f1 := t1.c1
     have f2 := t1.c2
     have f3 := t1.c3
     have ff := t1.free
     obtain ⟨q0, q1, _⟩ := KB7.out (bq, x, y) (by simp)
     simp only at q0 q1
     clear S6 N6 KB6 CX6 hw7 hw7' t1 t2
     simp only [Act.put, List.setIfInBounds_toArray, List.set_cons_zero, List.set_cons_succ]
     by_cases hm2 : m % 2 = 0
     ·have hmq : (m : Int) % 2 = 0 := by omega
      have hmt : ((m : Int) % 2 == 0) = true := by rw [hmq]; rfl
      by_cases hL0 : 0 < L
      ·have dL : decide (0 < L) = true := decide_eq_true hL0
       rw [if_pos ⟨hm2, hL0⟩] at HST
       rw [HST.out] at HWS HSR
       clear hm2 hL0
       obtain ⟨p1, p2⟩ := WH.fresh S7.out x y
       have P1 : Hid _ := p1
       have NP : Hid _ := Below.trans N7.out (Below.mono p2 hb0)
       have KP : Hid _ := Kb.fresh KB7.out x y 34
       have c6' : Hid _ := p1.c6
       have S8 := WH.nw S7.out ((Below.refl _ _).alloc (Nat.le_refl _) _ : Nw w7 (w7.alloc (.cells #[.int .i64 x, .int .i64 y] 34)))
       have g3 := S8.c3
       have gf := S8.free
       clear p1 p2 S8 f3 ff
       go_wp2
       go_roundw
       case rel => exact ⟨⟨m, L, _, out4, many4, begun + 1⟩, WhS.of P1.out HO4.out NP.out rfl rfl rfl (by show (begun : Int) + 1 = ((begun + 1 : Nat) : Int); omega) rfl KP.out, HWS.out, HSR.out⟩
       case measure => rw [c6'.out, HC6.out]; simp [intOf]; omega
      ·have dL : decide (0 < L) = false := decide_eq_false hL0
       rw [if_neg (fun e => hL0 e.2)] at HST
       rw [HST.out] at HWS HSR
       clear hm2 hL0
       have c6' : Hid _ := S7.out.c6
       go_wp2
       go_roundw
       case rel => exact ⟨⟨m, L, _, out4, many4, begun + 1⟩, WhS.of S7.out HO4.out N7.out rfl rfl rfl (by show (begun : Int) + 1 = ((begun + 1 : Nat) : Int); omega) rfl KB7.out, HWS.out, HSR.out⟩
       case measure => rw [c6'.out, HC6.out]; simp [intOf]; omega
     ·have hmq : ¬ (m : Int) % 2 = 0 := by omega
      have hmt : ((m : Int) % 2 == 0) = false := by
       have : (m : Int) % 2 = 1 := by omega
       rw [this]; rfl
      rw [if_neg (fun e => hm2 e.1)] at HST
      rw [HST.out] at HWS HSR
      clear hm2
      have c6' : Hid _ := S7.out.c6
      go_wp2
      go_roundw
      case rel => exact ⟨⟨m, L, _, out4, many4, begun + 1⟩, WhS.of S7.out HO4.out N7.out rfl rfl rfl (by show (begun : Int) + 1 = ((begun + 1 : Nat) : Int); omega) rfl KB7.out, HWS.out, HSR.out⟩
      case measure => rw [c6'.out, HC6.out]; simp [intOf]; omega
   ·have db : decide ((begun : Int) ≤ 2400) = false := by simp; omega
    have HRE : Hid (R = ⟨k, 0, now, out, many, begun⟩) := by
     show _ = _
     rw [← HR'.out, show 2401 - begun = 0 by omega]; rfl
    clear hb4
    go_wp2
    go_end0
    exact ⟨rfl, by rw [HRE.out]; exact WhS.sub HD.out KS.out⟩
  ·have dz : (left == 0) = false := by simp; exact hz
   have HRE : Hid (R = ⟨k, left, now, out, many, begun⟩) := by
    show _ = _
    rw [← HR'.out]
    cases 2401 - begun with
    | zero => rfl
    | succ f => rw [nextW, if_neg (fun e => hz e.1)]
   clear hz
   go_wp2
   go_end0
   exact ⟨rfl, by rw [HRE.out]; exact WhS.sub HD.out KS.out⟩
theorem loop_fuel {ms : List Int} {c : Nat} (hn : ∀ i, i < ms.length → 0 ≤ intAt ms i ∧ intAt ms i ≤ 67108864) (a b : Pnt) (n : Int) : ∀ (m f f' : Nat) (s : Wk) (g : Int), 2402 - s.begun ≤ m → WB ms c s → 2402 - s.begun ≤ f → 2402 - s.begun ≤ f' → loopW ms a b n f s g = loopW ms a b n f' s g := by
 intro m
 induction m with
 | zero =>
  intro f f' s g hm hw hf hf'
  have := hw.hb
  omega
 | succ m ih =>
  intro f f' s g hm hw hf hf'
  have hb := hw.hb
  obtain ⟨f1, rfl⟩ : ∃ f1, f = f1 + 1 := ⟨f - 1, by omega⟩
  obtain ⟨f2, rfl⟩ : ∃ f2, f' = f2 + 1 := ⟨f' - 1, by omega⟩
  rw [loopW, loopW]
  by_cases hc : s.left < n - g ∧ s.many ≤ 600 ∧ s.begun ≤ 2400
  ·rw [if_pos hc, if_pos hc]
   have hz : WB ms c (zeroW s) := ⟨hw.hk, hw.ho, hw.hb, hw.hm, by show _ ≤ (0 : Int); omega, by show (0 : Int) ≤ _; omega⟩
   have hal := add_left (zeroW s) (placeV a b (g + s.left) n)
   obtain ⟨w1, w2⟩ := WB.next1 hn (placeV a b (g + s.left) n) (hz.add (placeV a b (g + s.left) n)) hal.1 (by rw [hal.2]; exact hc.2.2)
   rw [hal.2] at w2
   have w2' : s.begun < (inW ms a b n s g).begun := w2
   exact ih f1 f2 (inW ms a b n s g) (g + s.left) (by omega) w1 (by omega) (by omega)
  ·rw [if_neg hc, if_neg hc]
theorem in_WB {ms : List Int} {c : Nat} (hn : ∀ i, i < ms.length → 0 ≤ intAt ms i ∧ intAt ms i ≤ 67108864) (a b : Pnt) (n : Int) {s : Wk} (g : Int) (hw : WB ms c s) (hb : s.begun ≤ 2400) : WB ms c (inW ms a b n s g) ∧ s.begun < (inW ms a b n s g).begun := by
 have hz : WB ms c (zeroW s) := ⟨hw.hk, hw.ho, hw.hb, hw.hm, by show _ ≤ (0 : Int); omega, by show (0 : Int) ≤ _; omega⟩
 have hal := add_left (zeroW s) (placeV a b (g + s.left) n)
 obtain ⟨w1, w2⟩ := WB.next1 hn (placeV a b (g + s.left) n) (hz.add (placeV a b (g + s.left) n)) hal.1 (by rw [hal.2]; exact hb)
 rw [hal.2] at w2
 exact ⟨w1, w2⟩
theorem next_left {ms : List Int} (hn : ∀ i, i < ms.length → 0 ≤ intAt ms i ∧ intAt ms i ≤ 67108864) (hp : 0 < ms.length) (q : Pnt) : ∀ (f : Nat) (s : Wk), 0 ≤ s.left → 0 ≤ (nextW ms q f s).left
 | 0, s, h => h
 | f + 1, s, h => by
  rw [nextW]
  split
  ·exact next_left hn hp q f _ (hn _ (Nat.mod_lt _ hp)).1
  ·exact h
def okW (s : Wk) : Prop := 0 ≤ s.left ∨ badW s
theorem in_ok {ms : List Int} (hn : ∀ i, i < ms.length → 0 ≤ intAt ms i ∧ intAt ms i ≤ 67108864) (hp : 0 < ms.length) (a b : Pnt) (n : Int) (s : Wk) (g : Int) : okW (inW ms a b n s g) := by
 refine Or.inl (next_left hn hp _ _ _ ?_)
 rw [(add_left _ _).1]; exact Int.le_refl _
theorem tail_ok {ms : List Int} {c : Nat} (hn : ∀ i, i < ms.length → 0 ≤ intAt ms i ∧ intAt ms i ≤ 67108864) (hp : 0 < ms.length) (b : Pnt) (n : Int) {s : Wk} {g : Int} (hw : WB ms c s) (ho : okW s) (hx : ¬ (s.left < n - g ∧ s.many ≤ 600 ∧ s.begun ≤ 2400)) (hg0 : 0 ≤ g) (hg : g ≤ n) (hn2 : n ≤ 268435455) : WB ms (c + 1) (tailW ms b n s g) ∧ okW (tailW ms b n s g) ∧ WB ms c.succ (lessW s (n - g)) := by
 have h0 := hw.h0
 have h1 := hw.h1
 have hl : WB ms (c + 1) (lessW s (n - g)) := ⟨hw.hk, hw.ho, hw.hb, by have := hw.hm; show s.many + s.now.length ≤ 2 * s.begun + (c + 1); omega, by show _ ≤ s.left - (n - g); omega, by show s.left - (n - g) ≤ _; omega⟩
 have hok : okW (lessW s (n - g)) := by
  by_cases hb : badW s
  ·exact Or.inr hb
  ·refine Or.inl ?_
   show 0 ≤ s.left - (n - g)
   unfold badW at hb
   have : ¬ s.left < n - g := fun e => hx ⟨e, by omega, by omega⟩
   omega
 refine ⟨?_, ?_, hl⟩
 ·unfold tailW goW
  split
  ·refine WB.next hn b _ ?_
   have ha : (addW (lessW s (n - g)) b).many + (addW (lessW s (n - g)) b).now.length ≤ s.many + s.now.length + 1 ∧ (addW (lessW s (n - g)) b).k = s.k ∧ (addW (lessW s (n - g)) b).out = s.out := by
    unfold addW
    split
    ·exact ⟨by show s.many + (s.now ++ [b]).length ≤ _; simp; omega, rfl, rfl⟩
    ·exact ⟨by show s.many + s.now.length ≤ _; omega, rfl, rfl⟩
   obtain ⟨l1, l2⟩ := add_left (lessW s (n - g)) b
   exact ⟨by rw [ha.2.1]; exact hw.hk, by rw [ha.2.2, l2]; exact hw.ho, by rw [l2]; exact hw.hb, by rw [l2]; have := hw.hm; have := ha.1; show _ ≤ 2 * s.begun + _; omega, by rw [l1]; exact hl.h0, by rw [l1]; exact hl.h1⟩
  ·exact hl
 ·unfold tailW goW
  split
  ·rcases hok with h | h
   ·exact Or.inl (next_left hn hp _ _ _ (by rw [(add_left _ _).1]; exact h))
   ·exact Or.inr (next_bad ms b _ _ (add_bad b h))
  ·exact hok
set_option maxRecDepth 100000 in
set_option maxHeartbeats 8000000 in
theorem sseg (w0 w : World) (bx : Nat) (K : List (Nat × Int × Int)) (na : Option Addr) (nc : Nat) (ms : List Int) (s : Wk) (ax ay ex ey : Int) (c : Nat) (hb0 : w0.heap.size ≤ bx) (hna : nearB (ax, ay) = true) (hnb : nearB (ex, ey) = true) (hI : Ints w0 na ms) (hms : ∀ i, i < ms.length → 0 ≤ intAt ms i ∧ intAt ms i ≤ 67108864) (hl : ms.length ≤ 16) (hc : c ≤ 9000) (hwb : WB ms c s) (hok : okW s) (h : WhS bx w0 w K na nc ms s) :
  Calls Tryz.prog 67 #[.pointer (some ⟨bx, 0, none⟩), .agg #[.int .i64 ax, .int .i64 ay], .agg #[.int .i64 ex, .int .i64 ey]] w fun e w' => e = .returned (.tuple #[]) ∧ WhS bx w0 w' K na nc ms (segW ms s (ax, ay) (ex, ey)) ∧ WB ms (c + 1) (segW ms s (ax, ay) (ex, ey)) ∧ okW (segW ms s (ax, ay) (ex, ey)) := by
 have HSZ : Hid (∀ w, _) := fun w => ssize w (ax, ay) (ex, ey) hna hnb
 have hn0 : 0 ≤ szV (ax, ay) (ex, ey) := (szV_is _ _).1
 have hn1 : szV (ax, ay) (ex, ey) ≤ 268435455 := szV_le hna hnb
 have hpos : 0 < ms.length := by have := hwb.hk; omega
 obtain ⟨RR, hRR⟩ : ∃ RR, segW ms s (ax, ay) (ex, ey) = RR := ⟨_, rfl⟩
 rw [hRR]
 unfold segW at hRR
 obtain ⟨n, hn⟩ : ∃ n, szV (ax, ay) (ex, ey) = n := ⟨_, rfl⟩
 rw [hn] at HSZ hn0 hn1 hRR
 simp only at HSZ
 obtain ⟨R, hR⟩ : ∃ R, loopW ms (ax, ay) (ex, ey) n (2402 - s.begun) s 0 = R := ⟨_, rfl⟩
 rw [hR] at hRR
 have HR : Hid (loopW ms (ax, ay) (ex, ey) n (2402 - s.begun) s 0 = R) := hR
 have HRR : Hid (tailW ms (ex, ey) n R.1 R.2 = RR) := hRR
 obtain ⟨W2, hW2⟩ : ∃ W2, (w.alloc (.cells #[.int .i64 ax, .int .i64 ay] 34)).alloc (.cells #[.int .i64 ex, .int .i64 ey] 34) = W2 := ⟨_, rfl⟩
 have h2 := WhS.box (WhS.box h ax ay 34) ex ey 34
 rw [hW2, World.size_alloc] at h2
 obtain ⟨ba, hba⟩ : ∃ ba, w.heap.size = ba := ⟨_, rfl⟩
 rw [hba] at h2
 have H2 : Hid (WhS bx w0 W2 ((ba + 1, ex, ey) :: (ba, ax, ay) :: K) na nc ms s) := h2
 have KS : Hid (∀ q, q ∈ K → q ∈ (ba + 1, ex, ey) :: (ba, ax, ay) :: K) := fun q hq => by simp [hq]
 have HNA : Hid (nr ax ∧ nr ay ∧ nr ex ∧ nr ey) := ⟨(nearB_nr hna).1, (nearB_nr hna).2, (nearB_nr hnb).1, (nearB_nr hnb).2⟩
 have HW2 : Hid (_ = W2) := hW2
 have HBA : Hid (w.heap.size = ba) := hba
 have HI : Hid (Ints w0 na ms) := hI
 have HMS : Hid _ := hms
 have HWB : Hid (WB ms c s) := hwb
 have HOK : Hid (okW s) := hok
 obtain ⟨q0, q1⟩ := WhS.at H2.out (b := ba) (x := ax) (y := ay) (by simp)
 obtain ⟨q2, q3⟩ := WhS.at H2.out (b := ba + 1) (x := ex) (y := ey) (by simp)
 clear h h2 hW2 hba hI hms hwb hok hna hnb hR hRR hn
 go_enter Tryz.func67, Tryz.ntmps67
 go_wp2_with fail
 rw [HW2.out, HBA.out]
 refine Calls.mono (HSZ.out _) ?_
 rintro e w3 ⟨rfl, k3⟩
 have H3 : Hid (WhS bx w0 w3 ((ba + 1, ex, ey) :: (ba, ax, ay) :: K) na nc ms s) := WhS.nw H2.out k3.nw
 clear k3 q0 q1 q2 q3 H2
 go_wp2
 go_loopw [7] (fun g wr => ∃ gi : Int, g = .int .i64 gi ∧ 0 ≤ gi ∧ gi ≤ n ∧ ∃ s', WhS bx w0 wr ((ba + 1, ex, ey) :: (ba, ax, ay) :: K) na nc ms s' ∧ WB ms c s' ∧ okW s' ∧ loopW ms (ax, ay) (ex, ey) n (2402 - s'.begun) s' gi = R) (fun _ wr => 30000 - (intOf ((wr.cell? ⟨bx, 6, none⟩).getD undef)).toNat)
 case atStart => exact ⟨0, rfl, by omega, by omega, s, H3.out, HWB.out, HOK.out, HR.out⟩
 case round =>
  obtain ⟨gi, rfl, hg0, hg1, ⟨k, left, now, out, many, begun⟩, hd', hwb', hok', hr'⟩ := hrel
  have HD : Hid (WhS bx w0 wr ((ba + 1, ex, ey) :: (ba, ax, ay) :: K) na nc ms ⟨k, left, now, out, many, begun⟩) := hd'
  have HB' : Hid (WB ms c ⟨k, left, now, out, many, begun⟩) := hwb'
  have HO' : Hid (okW ⟨k, left, now, out, many, begun⟩) := hok'
  have HR' : Hid (loopW ms (ax, ay) (ex, ey) n (2402 - begun) ⟨k, left, now, out, many, begun⟩ gi = R) := hr'
  have hbg : begun ≤ 2401 := hwb'.hb
  have hl0 : -268435456 * (c : Int) ≤ left := hwb'.h0
  have hl1 : left ≤ 67108864 := hwb'.h1
  have hmm : many ≤ 2 * begun + c := by have := hwb'.hm; have : many + now.length ≤ 2 * begun + c := this; omega
  obtain ⟨v, it, u, dh, _, hw0r, hkb⟩ := hd'
  simp only at dh
  have c2 := dh.c2
  have c5 := dh.c5
  have c6 := dh.c6
  have fr := dh.free
  have DH1 : Hid _ := dh
  have HC6 : Hid _ := c6
  have HNR : Hid (Nw w0 wr) := hw0r
  have HKR : Hid _ := hkb
  clear hwb' hok' hr' dh hw0r hkb
  by_cases hcond : left < n - gi ∧ many ≤ 600 ∧ begun ≤ 2400
  ·obtain ⟨hlt, hm6, hb4⟩ := hcond
   have dl : decide (left < n - gi) = true := decide_eq_true hlt
   have dm : decide ((many : Int) ≤ 600) = true := by simp; omega
   have db : decide ((begun : Int) ≤ 2400) = true := by simp; omega
   have hlp : 0 ≤ left := by
    rcases HO'.out with h | h
    ·exact h
    ·unfold badW at h; simp only at h; omega
   obtain ⟨g', hg'⟩ : ∃ g' : Int, gi + left = g' := ⟨_, rfl⟩
   obtain ⟨T, hT⟩ : ∃ T, inW ms (ax, ay) (ex, ey) n ⟨k, left, now, out, many, begun⟩ gi = T := ⟨_, rfl⟩
   have hin := in_WB HMS.out (ax, ay) (ex, ey) n gi HB'.out hb4
   have hino := in_ok HMS.out hpos (ax, ay) (ex, ey) n ⟨k, left, now, out, many, begun⟩ gi
   rw [hT] at hin hino
   have HT : Hid (WB ms c T ∧ begun < T.begun ∧ okW T) := ⟨hin.1, hin.2, hino⟩
   have HRT : Hid (loopW ms (ax, ay) (ex, ey) n (2402 - T.begun) T g' = R) := by
    show _ = _
    have e := HR'.out
    rw [show 2402 - begun = (2401 - begun) + 1 by omega, loopW, if_pos ⟨hlt, hm6, hb4⟩] at e
    simp only at e
    rw [hT, hg'] at e
    rw [← e]
    have := hin.2
    simp only at this
    exact loop_fuel (c := c) HMS.out _ _ n _ _ _ T g' (Nat.le_refl _) hin.1 (Nat.le_refl _) (by omega)
   have HTE : Hid (goW ms (placeV (ax, ay) (ex, ey) g' n) (addW ⟨k, 0, now, out, many, begun⟩ (placeV (ax, ay) (ex, ey) g' n)) = T) := by
    show _ = _
    rw [← hT, ← hg']; rfl
   have hwa : IntKind.i64.wrap (gi + left) = g' := by rw [IntWalk.i64_in _ ⟨by omega, by omega⟩]; exact hg'
   have hgb : 0 ≤ g' ∧ g' ≤ n := by omega
   have hnp : 0 < n := by omega
   obtain ⟨s1, s2⟩ := WH.setL DH1.out 0
   obtain ⟨W5, hW5⟩ : ∃ W5, wr.setCell ⟨bx, 2, none⟩ (.int .i64 0) = W5 := ⟨_, rfl⟩
   rw [hW5] at s1 s2
   have HW5 : Hid (_ = W5) := hW5
   have S5 : Hid (WhS bx w0 W5.drew ((ba + 1, ex, ey) :: (ba, ax, ay) :: K) na nc ms ⟨k, 0, now, out, many, begun⟩) := by
    have hk5 := Kb.set HKR.out 2 (.int .i64 0)
    rw [hW5] at hk5
    have n5 : Nw W5 W5.drew := (Below.refl _ _).drew
    obtain ⟨v', it', u', dh', ho', _, _⟩ := HD.out
    exact WhS.nw (WhS.of (s := ⟨k, 0, now, out, many, begun⟩) s1 (by assumption) (Below.trans HNR.out (Below.mono s2 hb0)) rfl rfl rfl rfl rfl hk5) n5
   obtain ⟨q0, q1⟩ := WhS.at S5.out (b := ba) (x := ax) (y := ay) (by simp)
   obtain ⟨q2, q3⟩ := WhS.at S5.out (b := ba + 1) (x := ex) (y := ey) (by simp)
   have Q4 : Hid _ := And.intro (And.intro q0 q1) (And.intro q2 q3)
   obtain ⟨m1, m2⟩ := mul_in (d := ex - ax) (k := g') (by have := HNA.out; unfold nr at this; omega) (by have := HNA.out; unfold nr at this; omega) hgb.1 (by omega)
   obtain ⟨m3, m4⟩ := mul_in (d := ey - ay) (k := g') (by have := HNA.out; unfold nr at this; omega) (by have := HNA.out; unfold nr at this; omega) hgb.1 (by omega)
   obtain ⟨m5, m6⟩ := quo_in (x := ex - ax) (k := g') (n := n) hgb.1 hgb.2 hnp (by have := HNA.out; unfold nr at this; omega) (by have := HNA.out; unfold nr at this; omega)
   obtain ⟨m7, m8⟩ := quo_in (x := ey - ay) (k := g') (n := n) hgb.1 hgb.2 hnp (by have := HNA.out; unfold nr at this; omega) (by have := HNA.out; unfold nr at this; omega)
   have FA : Hid ((IntKind.i64.wrap (ex - ax) = ex - ax) ∧ (IntKind.i64.wrap ((ex - ax) * g') = (ex - ax) * g') ∧ (IntKind.i64.wrap (ax + (ex - ax) * g' / n) = ax + (ex - ax) * g' / n) ∧ (IntKind.i64.wrap (ey - ay) = ey - ay) ∧ (IntKind.i64.wrap ((ey - ay) * g') = (ey - ay) * g') ∧ (IntKind.i64.wrap (ay + (ey - ay) * g' / n) = ay + (ey - ay) * g' / n) ∧ (-4611686018427387904 ≤ (ex - ax) * g' ∧ (ex - ax) * g' ≤ 4611686018427387904) ∧ (-4611686018427387904 ≤ (ey - ay) * g' ∧ (ey - ay) * g' ≤ 4611686018427387904)) := by
    have hh := HNA.out
    unfold nr at hh
    exact ⟨IntWalk.i64_in _ ⟨by omega, by omega⟩, IntWalk.i64_in _ ⟨by omega, by omega⟩, IntWalk.i64_in _ ⟨by omega, by omega⟩, IntWalk.i64_in _ ⟨by omega, by omega⟩, IntWalk.i64_in _ ⟨by omega, by omega⟩, IntWalk.i64_in _ ⟨by omega, by omega⟩, ⟨by omega, by omega⟩, ⟨by omega, by omega⟩⟩
   clear m1 m2 m3 m4 m5 m6 m7 m8 hW5 s1 s2 hT hg' hin hino hlt hm6 hb4 q0 q1 q2 q3 HR' HD
   go_wp2
   rw [HW5.out]
   refine reg_change (ops' := opsOf 6 Tryz.f67) (by kernel_rfl) ?_
   refine SG6.run ⟨ax, ay, ex, ey, g', n, ba, ba + 1, W5.drew, _⟩ ⟨Q4.out.1.1, Q4.out.1.2, Q4.out.2.1, Q4.out.2.2, FA.out.1, FA.out.2.1, FA.out.2.2.1, FA.out.2.2.2.1, FA.out.2.2.2.2.1, FA.out.2.2.2.2.2.1, hnp, by show n ≤ _; omega, FA.out.2.2.2.2.2.2.1, FA.out.2.2.2.2.2.2.2, rfl, rfl, rfl, rfl, rfl⟩ W5 (Kp.refl _) ?_
   rintro γ w6 ⟨bp, g0, hbp, ⟨z0, z1⟩, zf, k6⟩
   simp only at g0 hbp z0 z1 k6
   have S6 : Hid (WhS bx w0 w6 ((bp, ax + (ex - ax) * g' / n, ay + (ey - ay) * g' / n) :: (ba + 1, ex, ey) :: (ba, ax, ay) :: K) na nc ms ⟨k, 0, now, out, many, begun⟩) := WhS.more S5.out k6.nw hbp z0 z1 zf
   have HPV : Hid (placeV (ax, ay) (ex, ey) g' n = (ax + (ex - ax) * g' / n, ay + (ey - ay) * g' / n)) := rfl
   rw [HPV.out] at HTE
   simp only [g0, Act.put, List.setIfInBounds_toArray, List.set_cons_zero, List.set_cons_succ]
   generalize ax + (ex - ax) * g' / n = px at *
   generalize ay + (ey - ay) * g' / n = py at *
   clear g0 hbp k6 zf S5 Q4 FA HW5 c2 c5 c6 fr DH1 HKR HNR HPV
   have HA : Hid _ := sadd w0 w6 bx _ na nc ms ⟨k, 0, now, out, many, begun⟩ px py hb0 (by have := HB'.out.hm; have : many + now.length ≤ 2 * begun + c := this; show now.length ≤ _; omega) S6.out
   go_wp2_with fail
   refine Calls.mono HA.out ?_
   rintro e w7 ⟨rfl, h7⟩
   have S7 : Hid (WhS bx w0 w7 ((bp, px, py) :: (ba + 1, ex, ey) :: (ba, ax, ay) :: K) na nc ms (addW ⟨k, 0, now, out, many, begun⟩ (px, py))) := h7
   obtain ⟨y0, y1⟩ := WhS.at h7 (b := bp) (x := px) (y := py) (by simp)
   have HX : Hid _ := snext w0 w7 bx _ na nc ms (addW ⟨k, 0, now, out, many, begun⟩ (px, py)) px py (c + 1) hb0 HI.out HMS.out hl (by omega) (WB.add (s := ⟨k, 0, now, out, many, begun⟩) ⟨HB'.out.hk, HB'.out.ho, HB'.out.hb, HB'.out.hm, by show _ ≤ (0 : Int); omega, by show (0 : Int) ≤ _; omega⟩ (px, py)) S7.out
   rw [HTE.out] at HX
   clear h7 z0 z1 HA S6
   go_wp2_with fail
   refine Calls.mono HX.out ?_
   rintro e w8 ⟨rfl, h8⟩
   have S8 : Hid (WhS bx w0 w8 ((ba + 1, ex, ey) :: (ba, ax, ay) :: K) na nc ms T) := WhS.sub h8 (fun q hq => List.mem_cons_of_mem _ hq)
   have hmea : ∃ v8 it8 u8, WH bx w8 (.slice na ms.length nc) T.k T.left T.many T.begun v8 it8 u8 T.now := by
    obtain ⟨v8, it8, u8, d8, _⟩ := h8
    exact ⟨v8, it8, u8, d8⟩
   have HME : Hid (w8.cell? ⟨bx, 6, none⟩ = some (.int .i64 (T.begun : Int))) := by
    obtain ⟨v8, it8, u8, d8⟩ := hmea
    exact d8.c6
   clear h8 hmea y0 y1 S7 HX
   go_wp2
   go_roundw
   case rel => exact ⟨g', rfl, hgb.1, hgb.2, T, S8.out, HT.out.1, HT.out.2.2, HRT.out⟩
   case measure =>
    rw [HME.out, HC6.out]
    have := HT.out.2.1
    have := HT.out.1.hb
    simp [intOf]; omega
  ·have HRE : Hid (R = (⟨k, left, now, out, many, begun⟩, gi)) := by
    show _ = _
    rw [← HR'.out, show 2402 - begun = (2401 - begun) + 1 by omega, loopW, if_neg hcond]
   have HRX := HRR.out
   rw [HRE.out] at HRX
   simp only at HRX
   obtain ⟨t1, t2, t3⟩ := tail_ok HMS.out hpos (ex, ey) n HB'.out HO'.out hcond hg0 hg1 hn1
   rw [HRX] at t1 t2
   have HT : Hid (WB ms (c + 1) RR ∧ okW RR) := ⟨t1, t2⟩
   have HT3 : Hid (WB ms (c + 1) (lessW ⟨k, left, now, out, many, begun⟩ (n - gi))) := t3
   have HRY : Hid _ := HRX
   have hways : decide (left < n - gi) = false ∨ (decide (left < n - gi) = true ∧ decide ((many : Int) ≤ 600) = false) ∨ (decide (left < n - gi) = true ∧ decide ((many : Int) ≤ 600) = true ∧ decide ((begun : Int) ≤ 2400) = false) := by
    by_cases h1 : left < n - gi
    ·by_cases h2 : many ≤ 600
     ·have h3 : ¬ begun ≤ 2400 := fun e => hcond ⟨h1, h2, e⟩
      exact Or.inr (Or.inr ⟨decide_eq_true h1, by simp; omega, by simp; omega⟩)
     ·exact Or.inr (Or.inl ⟨decide_eq_true h1, by simp; omega⟩)
    ·exact Or.inl (decide_eq_false h1)
   obtain ⟨lf, hlf⟩ : ∃ lf : Int, left - (n - gi) = lf := ⟨_, rfl⟩
   have hwl : IntKind.i64.wrap (left - (n - gi)) = lf := by rw [IntWalk.i64_in _ ⟨by omega, by omega⟩]; exact hlf
   obtain ⟨s1, s2⟩ := WH.setL DH1.out lf
   obtain ⟨W5, hW5⟩ : ∃ W5, wr.setCell ⟨bx, 2, none⟩ (.int .i64 lf) = W5 := ⟨_, rfl⟩
   rw [hW5] at s1 s2
   have HW5 : Hid (_ = W5) := hW5
   have HLW : Hid (lessW ⟨k, left, now, out, many, begun⟩ (n - gi) = ⟨k, lf, now, out, many, begun⟩) := by
    show _ = _
    unfold lessW
    simp only [hlf]
   have S5 : Hid (WhS bx w0 W5 ((ba + 1, ex, ey) :: (ba, ax, ay) :: K) na nc ms ⟨k, lf, now, out, many, begun⟩) := by
    have hk5 := Kb.set HKR.out 2 (.int .i64 lf)
    rw [hW5] at hk5
    exact WhS.of (s := ⟨k, lf, now, out, many, begun⟩) s1 (by assumption) (Below.trans HNR.out (Below.mono s2 hb0)) rfl rfl rfl rfl rfl hk5
   obtain ⟨q2, q3⟩ := WhS.at S5.out (b := ba + 1) (x := ex) (y := ey) (by simp)
   rw [HLW.out] at HT3
   clear t1 t2 t3 HRX hW5 s1 s2 hlf hcond HR' HRE HD DH1 HKR HNR
   by_cases hnp : 0 < n
   ·have dn : decide (0 < n) = true := decide_eq_true hnp
    have HTL : Hid (goW ms (ex, ey) (addW ⟨k, lf, now, out, many, begun⟩ (ex, ey)) = RR) := by
     show _ = _
     rw [← HRY.out]
     unfold tailW
     rw [if_pos hnp, HLW.out]
    have HA : Hid _ := sadd w0 W5 bx _ na nc ms ⟨k, lf, now, out, many, begun⟩ ex ey hb0 (by have := HB'.out.hm; have : many + now.length ≤ 2 * begun + c := this; show now.length ≤ _; omega) S5.out
    clear hnp
    rcases hways with d1 | ⟨d1, d2⟩ | ⟨d1, d2, d3⟩
    all_goals
     rw [← HW5.out] at q2 q3
     go_wp2_with fail
     rw [HW5.out]
     refine Calls.mono HA.out ?_
     rintro e w7 ⟨rfl, h7⟩
     have S7 : Hid (WhS bx w0 w7 ((ba + 1, ex, ey) :: (ba, ax, ay) :: K) na nc ms (addW ⟨k, lf, now, out, many, begun⟩ (ex, ey))) := h7
     obtain ⟨y0, y1⟩ := WhS.at h7 (b := ba + 1) (x := ex) (y := ey) (by simp)
     have HX : Hid _ := snext w0 w7 bx _ na nc ms (addW ⟨k, lf, now, out, many, begun⟩ (ex, ey)) ex ey (c + 1 + 1) hb0 HI.out HMS.out hl (by omega) (WB.add HT3.out (ex, ey)) S7.out
     rw [HTL.out] at HX
     clear h7 q2 q3 HA S5
     go_wp2_with fail
     refine Calls.mono HX.out ?_
     rintro e w8 ⟨rfl, h8⟩
     have S8 : Hid (WhS bx w0 w8 K na nc ms RR) := WhS.sub h8 KS.out
     clear h8 y0 y1 S7 HX
     go_wp2
     go_end0
     exact ⟨rfl, S8.out, HT.out.1, HT.out.2⟩
   ·have dn : decide (0 < n) = false := decide_eq_false hnp
    have HTL : Hid (⟨k, lf, now, out, many, begun⟩ = RR) := by
     show _ = _
     rw [← HRY.out]
     unfold tailW
     rw [if_neg hnp, HLW.out]
    clear hnp q2 q3
    have S8 : Hid (WhS bx w0 W5 K na nc ms RR) := by
     show WhS _ _ _ _ _ _ _ _
     rw [← HTL.out]; exact WhS.sub S5.out KS.out
    rcases hways with d1 | ⟨d1, d2⟩ | ⟨d1, d2, d3⟩
    all_goals
     go_wp2
     rw [HW5.out]
     go_end0
     exact ⟨rfl, S8.out, HT.out.1, HT.out.2⟩
def anyN (ns : List Int) : Bool := ns.any fun x => decide (0 < x)
theorem any_sum {ns : List Int} (h : ∀ i, i < ns.length → 0 ≤ intAt ns i) : ∀ k, k ≤ ns.length → (0 ≤ sumN ns k) ∧ (sumN ns k = 0 ↔ ∀ i, i < k → intAt ns i = 0)
 | 0, _ => ⟨Int.le_refl _, ⟨fun _ i hi => absurd hi (by omega), fun _ => rfl⟩⟩
 | k + 1, hk => by
  obtain ⟨h1, h2⟩ := any_sum h k (by omega)
  have h3 := h k (by omega)
  have e : sumN ns (k + 1) = sumN ns k + intAt ns k := rfl
  rw [e]
  refine ⟨by omega, ⟨fun h4 i hi => ?_, fun h4 => ?_⟩⟩
  ·have a1 : sumN ns k = 0 := by omega
   have a2 : intAt ns k = 0 := by omega
   rcases Nat.lt_succ_iff_lt_or_eq.1 hi with h5 | h5
   ·exact h2.1 a1 i h5
   ·rw [h5]; exact a2
  ·rw [h2.2 (fun i hi => h4 i (by omega)), h4 k (by omega)]; rfl
theorem any_is {ns : List Int} (h : ∀ i, i < ns.length → 0 ≤ intAt ns i) : anyN ns = !decide (sumN ns ns.length = 0) := by
 obtain ⟨_, h2⟩ := any_sum h ns.length (Nat.le_refl _)
 unfold anyN
 rw [Bool.eq_iff_iff]
 simp only [List.any_eq_true, decide_eq_true_eq, Bool.not_eq_true', decide_eq_false_iff_not]
 constructor
 ·rintro ⟨x, hx, h0⟩ e
  obtain ⟨i, hi, rfl⟩ := List.getElem_of_mem hx
  have := h2.1 e i hi
  unfold intAt at this
  rw [show ns.getD i 0 = ns[i] by simp [hi]] at this
  omega
 ·intro e
  by_cases hh : ∃ x, x ∈ ns ∧ 0 < x
  ·exact hh
  ·refine absurd (h2.2 fun i hi => ?_) e
   have h3 := h i hi
   unfold intAt at h3 ⊢
   rw [show ns.getD i 0 = ns[i] by simp [hi]] at h3 ⊢
   have : ¬ 0 < ns[i] := fun e => hh ⟨_, List.getElem_mem hi, e⟩
   omega
set_option maxHeartbeats 1000000 in
theorem sany (w : World) (a : Option Addr) (c : Nat) (ns : List Int) (hl : ns.length ≤ 8) (hr : Ints w a ns) :
  Calls Tryz.prog 65 #[.slice a ns.length c] w fun e w' => e = .returned (.bool (anyN ns)) ∧ w' = w := by
 have HR : Hid (Ints w a ns) := hr
 clear hr
 obtain ⟨V, hV⟩ : ∃ V, anyN ns = V := ⟨_, rfl⟩
 rw [hV]
 have HV : Hid (anyN ns = V) := hV
 obtain ⟨n, hn⟩ : ∃ n, ns.length = n := ⟨_, rfl⟩
 have HN : Hid (ns.length = n) := hn
 rw [hn] at hl ⊢
 clear hn hV
 go_enter Tryz.func65, Tryz.ntmps65
 go_wp2
 go_loop [7] (fun i => ∃ k : Nat, k ≤ n ∧ i = .int .i64 (k : Int) ∧ ∀ j, j < k → ¬ 0 < intAt ns j) (fun i => n - (intOf i).toNat)
 case atStart => exact ⟨0, Nat.zero_le _, rfl, fun j hj => absurd hj (by omega)⟩
 case round =>
  obtain ⟨k, hk, rfl, ha⟩ := hrel
  have HA : Hid _ := ha
  clear ha
  by_cases hlt : k < n
  ·rcases HR.out with h | ⟨b, off, rfl, hbb, hc⟩
   ·have := HN.out; rw [h] at this; simp at this; omega
   have q := hc k (by rw [HN.out]; exact hlt)
   obtain ⟨x, hx⟩ : ∃ x, intAt ns k = x := ⟨_, rfl⟩
   have HX : Hid (intAt ns k = x) := hx
   rw [hx] at q
   clear hc hx
   by_cases h0 : 0 < x
   ·have d0 : decide (0 < x) = true := decide_eq_true h0
    have HT : Hid (V = true) := by
     show _ = _
     rw [← HV.out]
     unfold anyN
     rw [List.any_eq_true]
     refine ⟨ns[k]'(by rw [HN.out]; exact hlt), List.getElem_mem _, ?_⟩
     have e := HX.out
     unfold intAt at e
     rw [show ns.getD k 0 = ns[k]'(by rw [HN.out]; exact hlt) by simp [HN.out, hlt]] at e
     rw [e]; exact d0
    clear h0
    go_wp2
    go_ret
    exact ⟨by rw [HT.out]; rfl, rfl⟩
   ·have d0 : decide (0 < x) = false := decide_eq_false h0
    have H0 : Hid (¬ 0 < x) := h0
    clear h0
    go_wp2
    go_round
    case rel =>
     refine ⟨k + 1, by omega, by go_num, fun j hj => ?_⟩
     rcases Nat.lt_succ_iff_lt_or_eq.1 hj with h | h
     ·exact HA.out j h
     ·rw [h, HX.out]; exact H0.out
    case measure => simp [intOf]; omega
  ·have hkn : k = n := by omega
   have HF : Hid (V = false) := by
    show _ = _
    rw [← HV.out]
    unfold anyN
    rw [List.any_eq_false]
    intro x hx
    obtain ⟨i, hi, rfl⟩ := List.getElem_of_mem hx
    have := HA.out i (by rw [HN.out] at hi; omega)
    unfold intAt at this
    rw [show ns.getD i 0 = ns[i] by simp [hi]] at this
    simpa using this
   subst hkn
   clear hk hlt
   go_wp2
   go_ret
   exact ⟨by rw [HF.out]; rfl, rfl⟩
theorem wp_inz (w : World) {ops : Array Oper} {rest : List Oper} {o : Oper} {a : Act} {Q : PQ} (hgd : o.guard = none) (s x : Operand)
  (ho : o.op = .call { callee := .builtin .append, args := #[s, x], argTypes := #[26, 26] })
  (B : Nat) (v : Value) (l : List Int) (t : List Int) (hs : a.eval s = v) (hown : Ins w B v l) (g off n c : Nat) (hn : t.length = n) (hx : a.eval x = .slice (some ⟨g, off, none⟩) n c) (hc : ∀ i, i < t.length → w.cell? ⟨g, off + i, none⟩ = some (.int .i64 (intAt t i)))
  (h63 : l.length + n ≤ 10000000) (hB : B ≤ w.heap.size)
  (h : ∀ v' w', Ins w' B v' (l ++ t) → Ext v v' w w' → wpList Tryz.prog ops Q rest (a.put o.dst v') w') : wpList Tryz.prog ops Q (o :: rest) a w := by
 obtain ⟨i0, hi, hz0, hz1, hz2⟩ := ins_parts
 refine wpList_append_own_at w hgd s x 26 ho B 3 i0 (.int .i64 0) 1 8 Tryz.underlying26 hi hz0 hz1 hz2 rfl (by decide) v l.length (l.map (Value.int .i64)) hs hown ⟨g, off, none⟩ n c (t.map (Value.int .i64)) hx (by rw [List.length_map]; omega) (fun j u hj => ?_) (fun u hu => ?_) (by unfold maxLen; omega) (by omega) hB ?_
 ·rw [List.getElem?_map] at hj
  obtain ⟨y, hy, rfl⟩ := Option.map_eq_some_iff.1 hj
  obtain ⟨hlt, hy2⟩ := List.getElem?_eq_some_iff.1 hy
  have := hc j hlt
  unfold intAt at this
  rw [show t.getD j 0 = t[j] by simp [hlt], hy2] at this
  rcases Nat.eq_zero_or_pos j with e | e
  ·subst e; simpa [Addr.add] using this
  ·simpa [Addr.add, show j ≠ 0 by omega] using this
 ·obtain ⟨y, _, rfl⟩ := List.mem_map.1 hu
  rfl
 ·intro v' w' h1 h2 _ h4
  refine h v' w' ?_ ⟨h2, h4.imp id fun e => ⟨_, e, Nat.le_refl _⟩⟩
  unfold Ins
  rw [List.length_append, List.map_append, hn]
  exact h1
theorem Ins.ints {w : World} {B : Nat} {v : Value} {l : List Int} (h : Ins w B v l) (h0 : 0 < l.length) : ∃ g c, v = .slice (some ⟨g, 0, none⟩) l.length c ∧ Ints w (some ⟨g, 0, none⟩) l := by
 rcases Ins.lay h with ⟨_, e⟩ | ⟨g, c, e, _, h1, h2, _⟩
 ·rw [e] at h0; simp at h0
 ·exact ⟨g, c, e, Or.inr ⟨g, 0, rfl, h1, fun i hi => by rw [Nat.zero_add]; exact h2 i hi⟩⟩
set_option maxRecDepth 100000 in
set_option maxHeartbeats 2000000 in
theorem sown (w : World) (g off c : Nat) (p : List Pnt) (cl : Bool) (h0 : 0 < p.length) (h1 : p.length ≤ 100000) (hr : LieP w g off p) :
  Calls Tryz.prog 66 #[.agg #[.slice (some ⟨g, off, none⟩) p.length c, .bool cl]] w fun e w' => ∃ u, e = .returned (.agg #[u, .bool cl]) ∧ OwnP w' w.heap.size u p ∧ Nw w w' := by
 obtain ⟨n, hn⟩ : ∃ n, p.length = n := ⟨_, rfl⟩
 have HL : Hid (p.length = n) := hn
 rw [hn] at h0 h1 ⊢
 obtain ⟨W, hW⟩ : ∃ W, (w.alloc (.cells #[.slice (some ⟨g, off, none⟩) n c, .bool cl] 25)).alloc (.cells #[.slice none 0 0, .bool false] 25) = W := ⟨_, rfl⟩
 have NW0 : Hid (Nw w W) := by
  show Nw _ _
  rw [← hW]; exact Nw.trans ((Below.refl _ _).alloc (Nat.le_refl _) _) ((Below.refl _ _).alloc (Nat.le_refl _) _)
 have HB0 : Hid (∀ w', Nw W w' → (w'.cell? ⟨w.heap.size, 0, none⟩ = some (.slice (some ⟨g, off, none⟩) n c) ∧ w'.cell? ⟨w.heap.size, 1, none⟩ = some (.bool cl) ∧ (∀ o, w'.frozen? ⟨w.heap.size, o, none⟩ = false)) ∧ (w'.cell? ⟨w.heap.size + 1, 0, none⟩ = some (.slice none 0 0) ∧ w'.cell? ⟨w.heap.size + 1, 1, none⟩ = some (.bool false) ∧ (∀ o, w'.frozen? ⟨w.heap.size + 1, o, none⟩ = false))) := by
  intro w' k
  have e1 : W.heap.size = w.heap.size + 1 + 1 := by rw [← hW]; simp
  have a0 : W.cell? ⟨w.heap.size, 0, none⟩ = some (.slice (some ⟨g, off, none⟩) n c) := by rw [← hW, World.cell?_alloc_past _ _ _ (by simp), World.cell?_alloc_at _ _ _ _ rfl]; rfl
  have a1 : W.cell? ⟨w.heap.size, 1, none⟩ = some (.bool cl) := by rw [← hW, World.cell?_alloc_past _ _ _ (by simp), World.cell?_alloc_at _ _ _ _ rfl]; rfl
  have a2 : ∀ o, W.frozen? ⟨w.heap.size, o, none⟩ = false := fun o => by
   rw [← hW]
   exact ((bcell ((Below.refl _ _).alloc (Nat.le_refl _) _ : Nw (w.alloc (.cells #[.slice (some ⟨g, off, none⟩) n c, .bool cl] 25)) _)).2 _ _ (by simp)).trans (World.frozen?_alloc_at _ _ _ _ rfl)
  have b0 : W.cell? ⟨w.heap.size + 1, 0, none⟩ = some (.slice none 0 0) := by rw [← hW, World.cell?_alloc_at _ _ _ _ (by simp)]; rfl
  have b1 : W.cell? ⟨w.heap.size + 1, 1, none⟩ = some (.bool false) := by rw [← hW, World.cell?_alloc_at _ _ _ _ (by simp)]; rfl
  have b2 : ∀ o, W.frozen? ⟨w.heap.size + 1, o, none⟩ = false := fun o => by rw [← hW]; exact World.frozen?_alloc_at _ _ _ _ (by simp)
  exact ⟨⟨((bcell k).1 _ _ (by omega)).trans a0, ((bcell k).1 _ _ (by omega)).trans a1, fun o => ((bcell k).2 _ _ (by omega)).trans (a2 o)⟩, ⟨((bcell k).1 _ _ (by omega)).trans b0, ((bcell k).1 _ _ (by omega)).trans b1, fun o => ((bcell k).2 _ _ (by omega)).trans (b2 o)⟩⟩
 have HWS : Hid (W.heap.size = w.heap.size + 2) := by show _ = _; rw [← hW]; simp
 have HW : Hid (_ = W) := hW
 have n1 : Nw W (W.alloc (.cells #[] 34)) := (Below.refl _ _).alloc (Nat.le_refl _) _
 have HO : Hid (OwnQ 34 (W.alloc (.cells #[] 34)) W.heap.size (.slice (some ⟨W.heap.size, 0, none⟩) 0 0) []) := World.ownsRow_lit W #[] 0 (Nat.le_refl _) (by unfold maxLen; omega) (by simp)
 have HI : Hid _ := (LieP.nw hr (Nw.trans NW0.out n1)).vv
 have HN : Hid (0 < p.length ∧ p.length ≤ 100000) := by rw [hn]; exact ⟨h0, h1⟩
 have NW : Hid (Nw W (W.alloc (.cells #[] 34))) := n1
 obtain ⟨⟨q0, q1, qf⟩, _⟩ := HB0.out _ n1
 have q0' : (W.alloc (.cells #[] 34)).cell? ⟨w.heap.size, 0, none⟩ = some (.slice (some ⟨g, off, none⟩) n c) := q0
 rw [← hW] at q0'
 clear hr n1 hn hW q1 qf q0
 go_enter Tryz.func66, Tryz.ntmps66
 go_wp2_with (at_builtin; (rw [HW.out]; refine wpl_q 34 23 23 (.int .i64 0) (.int .i64 0) 16 under_pts under_pts Tryz.info34 (by decide) rfl (W.alloc (.cells #[] 34)) (.tmp 3) (.tmp 5) rfl W.heap.size (.slice (some ⟨W.heap.size, 0, none⟩) 0 0) [] (vP p) ?e1 HO.out g off n c (by rw [vP_len]; exact HL.out.symm) rfl HI.out (vP_one p) (by rw [vP_len]; exact HN.out.1) ?cl (by simp) rfl ?_))
 case e1 => simp [HWS.out]; rfl
 case cl => rw [vP_len]; have := HN.out; simp; omega
 intro g' c' w1 h2 h3
 have H2 : Hid (OwnP w1 W.heap.size (.slice (some ⟨g', 0, none⟩) n c') p) := by
  show OwnQ _ _ _ _ _
  simpa using h2
 have N2 : Hid (Nw W w1) := Below.trans NW.out (Ext.below h3 (fun g e => (OwnQ.lt HO.out g e).1) (by simp))
 obtain ⟨⟨q0, q1, qf⟩, ⟨z0, z1, zf⟩⟩ := HB0.out w1 N2.out
 have hg' := (OwnQ.lt H2.out g' rfl).1
 have hne : ∀ b, b < w.heap.size + 2 → (Value.slice (some ⟨g', 0, none⟩) n c').ownBlock ≠ some b := fun b hb e => by
  have : g' = b := by simpa [Value.ownBlock] using e
  have := HWS.out
  omega
 have HF : Hid (OwnP (((w1.setCell ⟨w.heap.size, 0, none⟩ (.slice (some ⟨g', 0, none⟩) n c')).setCell ⟨w.heap.size + 1, 0, none⟩ (.slice (some ⟨g', 0, none⟩) n c')).setCell ⟨w.heap.size + 1, 1, none⟩ (.bool cl)) w.heap.size (.slice (some ⟨g', 0, none⟩) n c') p) := OwnQ.base (OwnQ.far (OwnQ.far (OwnQ.far H2.out _ _ _ (hne _ (by omega))) _ _ _ (hne _ (by omega))) _ _ _ (hne _ (by omega))) (by have := HWS.out; omega)
 have HNF : Hid (Nw w (((w1.setCell ⟨w.heap.size, 0, none⟩ (.slice (some ⟨g', 0, none⟩) n c')).setCell ⟨w.heap.size + 1, 0, none⟩ (.slice (some ⟨g', 0, none⟩) n c')).setCell ⟨w.heap.size + 1, 1, none⟩ (.bool cl))) := (((Nw.trans NW0.out N2.out).setCell (Nat.le_refl _) _).setCell (by simp) _).setCell (by simp) _
 have y0 : (w1.setCell ⟨w.heap.size, 0, none⟩ (.slice (some ⟨g', 0, none⟩) n c')).cell? ⟨w.heap.size, 1, none⟩ = some (.bool cl) := by
  rw [World.cell?_setCell_other _ _ _ _ (fun e => by injection e; omega)]; exact q1
 have y1 : (w1.setCell ⟨w.heap.size, 0, none⟩ (.slice (some ⟨g', 0, none⟩) n c')).cell? ⟨w.heap.size, 0, none⟩ = some (.slice (some ⟨g', 0, none⟩) n c') := World.cell?_setCell_same w1 ⟨w.heap.size, 0, none⟩ _ q0
 have x0 : (w1.setCell ⟨w.heap.size, 0, none⟩ (.slice (some ⟨g', 0, none⟩) n c')).cell? ⟨w.heap.size + 1, 0, none⟩ = some (.slice none 0 0) := by
  rw [World.cell?_setCell_other _ _ _ _ (fun e => by injection e; omega)]; exact z0
 have x1 : (w1.setCell ⟨w.heap.size, 0, none⟩ (.slice (some ⟨g', 0, none⟩) n c')).cell? ⟨w.heap.size + 1, 1, none⟩ = some (.bool false) := by
  rw [World.cell?_setCell_other _ _ _ _ (fun e => by injection e; omega)]; exact z1
 clear h2 h3 q0' hg' hne z0 z1
 go_wp2
 obtain ⟨r0, r1⟩ := set2 (w1.setCell ⟨w.heap.size, 0, none⟩ (.slice (some ⟨g', 0, none⟩) n c')) (w.heap.size + 1) (.slice (some ⟨g', 0, none⟩) n c') (.bool cl) x0 x1
 refine bodyPost_ret (v := .agg #[.slice (some ⟨g', 0, none⟩) n c', .bool cl]) (by simp [results, Tryz.results66, go_sem, r0, r1]) rfl ⟨_, rfl, HF.out, HNF.out⟩
end Go.Proofs.YtnkeljmecbohkaaGreat
