/-
  The statements of l10Side and SideOf that make a side, whate
-/
import Derived.Test.YtnkeljmecbohkaaGreatJAI
import Derived.Test.YtnkeljmecbohkaaGreatJAF
import Derived.Test.YtnkeljmecbohkaaGreatJAG
import Derived.Test.YtnkeljmecbohkaaGreatJAE
import Derived.Test.YtnkeljmecbohkaaGreatJAA
import Derived.Deep.QuietTactic
import Derived.BigQuiet
namespace Go.Proofs.YtnkeljmecbohkaaGreat
open Go.ChangeShapes Go.WideShapes Go.ChangeAt Go.RowKit
set_option linter.unusedVariables false
set_option linter.unusedSimpArgs false
structure SDI where
 ax : Int
 ay : Int
 bx : Int
 cy : Int
 h : Int
 n : Int
 b0 : Nat
 b1 : Nat
 br : Nat
 W : World
 a0 : Act
structure SDIOk (X : SDI) : Prop where
 c0 : X.W.cell? ⟨X.b0, 0, none⟩ = some (.int .i64 X.ax)
 c1 : X.W.cell? ⟨X.b0, 1, none⟩ = some (.int .i64 X.ay)
 c2 : X.W.cell? ⟨X.b1, 0, none⟩ = some (.int .i64 X.bx)
 c3 : X.W.cell? ⟨X.b1, 1, none⟩ = some (.int .i64 X.cy)
 w1 : IntKind.i64.wrap (X.ay - X.cy) = X.ay - X.cy
 w2 : IntKind.i64.wrap (X.bx - X.ax) = X.bx - X.ax
 z0 : ∃ u, X.W.cell? ⟨X.br, 0, none⟩ = some u
 z1 : ∃ u, X.W.cell? ⟨X.br, 1, none⟩ = some u
 zf : ∀ o, X.W.frozen? ⟨X.br, o, none⟩ = false
 e2 : X.a0.eval (.tmp 2) = .int .i64 X.h
 e3 : X.a0.eval (.tmp 3) = .pointer (some ⟨X.b0, 0, none⟩)
 e4 : X.a0.eval (.tmp 4) = .pointer (some ⟨X.b1, 0, none⟩)
 e6 : X.a0.eval (.tmp 6) = .pointer (some ⟨X.br, 0, none⟩)
 e8 : X.a0.eval (.tmp 8) = .int .i64 X.n
 sz : X.a0.tmps.size = 48
def SDI.val0 (X : SDI) : Nat → Value
 | 2 => .int .i64 X.h
 | 3 => .pointer (some ⟨X.b0, 0, none⟩)
 | 4 => .pointer (some ⟨X.b1, 0, none⟩)
 | 6 => .pointer (some ⟨X.br, 0, none⟩)
 | 7 => .bool true
 | 8 => .int .i64 X.n
 | 29 => .int .i64 X.h
 | 30 => .pointer (some ⟨X.b0, 1, none⟩)
 | 31 => .int .i64 X.ay
 | 32 => .pointer (some ⟨X.b1, 1, none⟩)
 | 33 => .int .i64 X.cy
 | 34 => .int .i64 (X.ay - X.cy)
 | 35 => .int .i64 X.n
 | 36 => .int .i64 (divV (X.ay - X.cy) X.n)
 | 37 => .int .i64 (fmV X.h (divV (X.ay - X.cy) X.n))
 | 38 => .int .i64 X.h
 | 39 => .pointer (some ⟨X.b1, 0, none⟩)
 | 40 => .int .i64 X.bx
 | 41 => .pointer (some ⟨X.b0, 0, none⟩)
 | 42 => .int .i64 X.ax
 | 43 => .int .i64 (X.bx - X.ax)
 | 44 => .int .i64 X.n
 | 45 => .int .i64 (divV (X.bx - X.ax) X.n)
 | 46 => .int .i64 (fmV X.h (divV (X.bx - X.ax) X.n))
 | 47 => .agg #[.int .i64 (fmV X.h (divV (X.ay - X.cy) X.n)), .int .i64 (fmV X.h (divV (X.bx - X.ax) X.n))]
 | _ => undef
def SDI.av : Nat → Option Nat
 | _ => none
def SDI.acts : List Nat := [19]
def SDI.Wd (X : SDI) : Nat → (Nat → Value) → World → Prop
  | 0, _, w => Kp X.W w
  | _, _, w => ∃ w1, Kp X.W w1 ∧ w = ((w1.setCell ⟨X.br, 0, none⟩ (.int .i64 (fmV X.h (divV (X.ay - X.cy) X.n)))).setCell ⟨X.br, 1, none⟩ (.int .i64 (fmV X.h (divV (X.bx - X.ax) X.n))))
theorem SDI.chain : chainG (opsOf 4 Tryz.f89) SDI.acts = true := by kernel_rfl
theorem SDI.nodup : SDI.acts.Nodup := by decide
def SDI.L : List (Option Nat × Op × Option (Nat × Bool)) := [
 (some 29, .move (.tmp 2), none),
 (some 30, .fieldAddr 34 (.tmp 3) 1, none),
 (some 31, .load 3 (.tmp 30), none),
 (some 32, .fieldAddr 34 (.tmp 4) 1, none),
 (some 33, .load 3 (.tmp 32), none),
 (some 34, .binOp .sub 3 (.tmp 31) (.tmp 33) 3, none),
 (some 35, .move (.tmp 8), none),
 (some 36, .call { callee := .value (.func 105), args := #[(.tmp 34), (.tmp 35)], argTypes := #[3, 3] }, none),
 (some 37, .call { callee := .value (.func 104), args := #[(.tmp 29), (.tmp 36)], argTypes := #[3, 3] }, none),
 (some 38, .move (.tmp 2), none),
 (some 39, .fieldAddr 34 (.tmp 4) 0, none),
 (some 40, .load 3 (.tmp 39), none),
 (some 41, .fieldAddr 34 (.tmp 3) 0, none),
 (some 42, .load 3 (.tmp 41), none),
 (some 43, .binOp .sub 3 (.tmp 40) (.tmp 42) 3, none),
 (some 44, .move (.tmp 8), none),
 (some 45, .call { callee := .value (.func 105), args := #[(.tmp 43), (.tmp 44)], argTypes := #[3, 3] }, none),
 (some 46, .call { callee := .value (.func 104), args := #[(.tmp 38), (.tmp 45)], argTypes := #[3, 3] }, none),
 (some 47, .build 34 #[(0, (.tmp 37)), (1, (.tmp 46))], none),
 (none, .store 34 (.tmp 6) (.tmp 47), none),
 (some 7, .assign (.const (.bool true)), none)]
theorem SDI.isL : (opsOf 4 Tryz.f89).toList.map tri = SDI.L := by kernel_rfl
theorem SDI.ini {X : SDI} (ok : SDIOk X) : ∀ n ∈ [2, 3, 4, 6, 8], X.a0.eval (.tmp n) = X.val0 n := by
 simp only [List.forall_mem_cons]
 exact ⟨ok.e2, ok.e3, ok.e4, ok.e6, ok.e8, List.forall_mem_nil _⟩
abbrev SDI.St (X : SDI) (Q : PQ) (i : Nat) : Prop := StepG (opsOf 4 Tryz.f89) SDI.acts SDI.av X.val0 X.Wd X.a0 Q i
theorem SDI.plain (X : SDI) (ok : SDIOk X) {Q : PQ} : ∀ i ∈ [0, 1, 3, 5, 6, 9, 10, 12, 14, 15, 18, 20], SDI.St X Q i := by
 simp only [List.forall_mem_cons]
 refine ⟨?_, ?_, ?_, ?_, ?_, ?_, ?_, ?_, ?_, ?_, ?_, ?_, List.forall_mem_nil _⟩
 all_goals
  refine st_plain SDI.isL (SDI.ini ok) ok.sz rfl (by kernel_rfl) ?_
  intro γ w n o hW hop
  unfold execOp
  rw [hop]
  simp [envR, valG, SDI.av, SDI.val0, ok.w1, ok.w2, go_sem]
theorem SDI.early (X : SDI) (ok : SDIOk X) {Q : PQ} : ∀ i ∈ [2, 4, 11, 13], SDI.St X Q i := by
 simp only [List.forall_mem_cons]
 refine ⟨?_, ?_, ?_, ?_, List.forall_mem_nil _⟩
 all_goals
  refine st_plainM (m := 0) SDI.isL (SDI.ini ok) ok.sz rfl (by kernel_rfl) ?_
  intro γ w n o hn hW hop
  obtain rfl : n = 0 := by omega
  have hk : Kp X.W w := hW
  have hc_c1 := rq_at hk ok.c1
  have hc_c3 := rq_at hk ok.c3
  have hc_c2 := rq_at hk ok.c2
  have hc_c0 := rq_at hk ok.c0
  unfold execOp
  rw [hop]
  simp [envR, valG, SDI.av, SDI.val0, hc_c1, hc_c3, hc_c2, hc_c0, go_sem]
theorem SDI.s19 (X : SDI) (ok : SDIOk X) {Q : PQ} : SDI.St X Q 19 := by
 intro γ listed a w o hF hC hW h1 ho h2
 obtain ⟨hd, hop, hg⟩ := fieldsL SDI.isL (i := 19) rfl ho
 have e6 : a.eval (.tmp 6) = .pointer (some ⟨X.br, 0, none⟩) := known hF ho h2 (SDI.ini ok) ok.sz (by kernel_rfl)
 have e47 : a.eval (.tmp 47) = .agg #[.int .i64 (fmV X.h (divV (X.ay - X.cy) X.n)), .int .i64 (fmV X.h (divV (X.bx - X.ax) X.n))] := known hF ho h2 (SDI.ini ok) ok.sz (by kernel_rfl)
 have hu := unl (hF.lt ho) h1
 refine st_actG (k := 0) SDI.chain SDI.nodup rfl hF hC hW h1 ho h2 (Or.inl hd) (injG (by kernel_rfl) hu) hg ?_
 intro hW0 K hK
 obtain ⟨u0, z0⟩ := ok.z0
 replace z0 := rq_at hW0 z0
 obtain ⟨u1, z1⟩ := ok.z1
 replace z1 := rq_at hW0 z1
 have zf : ∀ o, w.frozen? ⟨X.br, o, none⟩ = false := fun o => (hW0.cells.2 _ _).trans (ok.zf o)
 have hr : (execOp a.eval o).run Tryz.prog w = .ok .skip ((w.setCell ⟨X.br, 0, none⟩ (.int .i64 (fmV X.h (divV (X.ay - X.cy) X.n)))).setCell ⟨X.br, 1, none⟩ (.int .i64 (fmV X.h (divV (X.bx - X.ax) X.n)))) := by
  generalize a.eval = ρ at e6 e47 ⊢
  unfold execOp
  rw [hop]
  simp [e6, e47, z0, z1, zf, go_sem]
 unfold Oper.wp
 rw [hr]
 exact hK _ _ ⟨w, hW0, rfl⟩
theorem SDI.size : (opsOf 4 Tryz.f89).size = 21 := by kernel_rfl
theorem SDI.rest (X : SDI) (ok : SDIOk X) {Q : PQ} : ∀ i ∈ [7, 8, 16, 17, 19], SDI.St X Q i := by
 simp only [List.forall_mem_cons]
 exact ⟨st_callZ SDI.isL (SDI.ini ok) ok.sz rfl (by kernel_rfl) (fun _ _ => by simp [go_sem]) (fun γ w hW => (ifd _ _ w).mono fun e w' ⟨h1, h2⟩ => ⟨h1, h2 ▸ Kp.refl _⟩) (fun _ _ _ hW hk => Kp.trans hW hk),
  st_callZ SDI.isL (SDI.ini ok) ok.sz rfl (by kernel_rfl) (fun _ _ => by simp [go_sem]) (fun γ w hW => (ifm _ _ w).mono fun e w' ⟨h1, h2⟩ => ⟨h1, h2 ▸ Kp.refl _⟩) (fun _ _ _ hW hk => Kp.trans hW hk),
  st_callZ SDI.isL (SDI.ini ok) ok.sz rfl (by kernel_rfl) (fun _ _ => by simp [go_sem]) (fun γ w hW => (ifd _ _ w).mono fun e w' ⟨h1, h2⟩ => ⟨h1, h2 ▸ Kp.refl _⟩) (fun _ _ _ hW hk => Kp.trans hW hk),
  st_callZ SDI.isL (SDI.ini ok) ok.sz rfl (by kernel_rfl) (fun _ _ => by simp [go_sem]) (fun γ w hW => (ifm _ _ w).mono fun e w' ⟨h1, h2⟩ => ⟨h1, h2 ▸ Kp.refl _⟩) (fun _ _ _ hW hk => Kp.trans hW hk),
  SDI.s19 X ok, List.forall_mem_nil _⟩
theorem SDI.steps (X : SDI) (ok : SDIOk X) {Q : PQ} (i : Nat) (hi : i < (opsOf 4 Tryz.f89).size) : SDI.St X Q i := by
 rw [SDI.size] at hi
 rcases (by decide : ∀ i, i < 21 → i ∈ [0, 1, 3, 5, 6, 9, 10, 12, 14, 15, 18, 20] ∨ i ∈ [2, 4, 11, 13] ∨ i ∈ [7, 8, 16, 17, 19]) i hi with h | h | h
 · exact SDI.plain X ok i h
 · exact SDI.early X ok i h
 · exact SDI.rest X ok i h
theorem SDI.run (X : SDI) (ok : SDIOk X) {Q : PQ} (w : World) (h0 : X.Wd 0 (fun _ => undef) w.drew) (hend : ∀ (γ : Nat → Value) w', X.Wd 1 γ w' → Q .normal ((((((((((((((((((((X.a0.put (some 29) (.int .i64 X.h)).put (some 30) (.pointer (some ⟨X.b0, 1, none⟩))).put (some 31) (.int .i64 X.ay)).put (some 32) (.pointer (some ⟨X.b1, 1, none⟩))).put (some 33) (.int .i64 X.cy)).put (some 34) (.int .i64 (X.ay - X.cy))).put (some 35) (.int .i64 X.n)).put (some 36) (.int .i64 (divV (X.ay - X.cy) X.n))).put (some 37) (.int .i64 (fmV X.h (divV (X.ay - X.cy) X.n)))).put (some 38) (.int .i64 X.h)).put (some 39) (.pointer (some ⟨X.b1, 0, none⟩))).put (some 40) (.int .i64 X.bx)).put (some 41) (.pointer (some ⟨X.b0, 0, none⟩))).put (some 42) (.int .i64 X.ax)).put (some 43) (.int .i64 (X.bx - X.ax))).put (some 44) (.int .i64 X.n)).put (some 45) (.int .i64 (divV (X.bx - X.ax) X.n))).put (some 46) (.int .i64 (fmV X.h (divV (X.bx - X.ax) X.n)))).put (some 47) (.agg #[.int .i64 (fmV X.h (divV (X.ay - X.cy) X.n)), .int .i64 (fmV X.h (divV (X.bx - X.ax) X.n))])).put (some 7) (.bool true)) w') : (Code.region 4 (opsOf 4 Tryz.f89) true).wp Tryz.prog Q X.a0 w := by
 refine reg_act (acts := SDI.acts) (av := SDI.av) (val0 := X.val0) (Wd := X.Wd) (by kernel_rfl) (by kernel_rfl) (by rw [SDI.size]; decide) (fun i hi => SDI.steps X ok i hi) _ h0 ?_
 intro γ w' h
 exact end_at (hend γ w' h) (by kernel_rfl)
structure SDS where
 ax : Int
 ay : Int
 bx : Int
 cy : Int
 h : Int
 n : Int
 b0 : Nat
 b1 : Nat
 br : Nat
 W : World
 a0 : Act
structure SDSOk (X : SDS) : Prop where
 c0 : X.W.cell? ⟨X.b0, 0, none⟩ = some (.int .i64 X.ax)
 c1 : X.W.cell? ⟨X.b0, 1, none⟩ = some (.int .i64 X.ay)
 c2 : X.W.cell? ⟨X.b1, 0, none⟩ = some (.int .i64 X.bx)
 c3 : X.W.cell? ⟨X.b1, 1, none⟩ = some (.int .i64 X.cy)
 w1 : IntKind.i64.wrap (X.ay - X.cy) = X.ay - X.cy
 w2 : IntKind.i64.wrap (X.bx - X.ax) = X.bx - X.ax
 z0 : ∃ u, X.W.cell? ⟨X.br, 0, none⟩ = some u
 z1 : ∃ u, X.W.cell? ⟨X.br, 1, none⟩ = some u
 zf : ∀ o, X.W.frozen? ⟨X.br, o, none⟩ = false
 e2 : X.a0.eval (.tmp 2) = .int .i64 X.h
 e3 : X.a0.eval (.tmp 3) = .pointer (some ⟨X.b0, 0, none⟩)
 e4 : X.a0.eval (.tmp 4) = .pointer (some ⟨X.b1, 0, none⟩)
 e6 : X.a0.eval (.tmp 6) = .pointer (some ⟨X.br, 0, none⟩)
 e7 : X.a0.eval (.tmp 7) = .int .i64 X.n
 sz : X.a0.tmps.size = 30
def SDS.val0 (X : SDS) : Nat → Value
 | 2 => .int .i64 X.h
 | 3 => .pointer (some ⟨X.b0, 0, none⟩)
 | 4 => .pointer (some ⟨X.b1, 0, none⟩)
 | 6 => .pointer (some ⟨X.br, 0, none⟩)
 | 7 => .int .i64 X.n
 | 11 => .int .i64 X.h
 | 12 => .pointer (some ⟨X.b0, 1, none⟩)
 | 13 => .int .i64 X.ay
 | 14 => .pointer (some ⟨X.b1, 1, none⟩)
 | 15 => .int .i64 X.cy
 | 16 => .int .i64 (X.ay - X.cy)
 | 17 => .int .i64 X.n
 | 18 => .int .i64 (divV (X.ay - X.cy) X.n)
 | 19 => .int .i64 (fmV X.h (divV (X.ay - X.cy) X.n))
 | 20 => .int .i64 X.h
 | 21 => .pointer (some ⟨X.b1, 0, none⟩)
 | 22 => .int .i64 X.bx
 | 23 => .pointer (some ⟨X.b0, 0, none⟩)
 | 24 => .int .i64 X.ax
 | 25 => .int .i64 (X.bx - X.ax)
 | 26 => .int .i64 X.n
 | 27 => .int .i64 (divV (X.bx - X.ax) X.n)
 | 28 => .int .i64 (fmV X.h (divV (X.bx - X.ax) X.n))
 | 29 => .agg #[.int .i64 (fmV X.h (divV (X.ay - X.cy) X.n)), .int .i64 (fmV X.h (divV (X.bx - X.ax) X.n))]
 | _ => undef
def SDS.av : Nat → Option Nat
 | _ => none
def SDS.acts : List Nat := [19]
def SDS.Wd (X : SDS) : Nat → (Nat → Value) → World → Prop
  | 0, _, w => Kp X.W w
  | _, _, w => ∃ w1, Kp X.W w1 ∧ w = ((w1.setCell ⟨X.br, 0, none⟩ (.int .i64 (fmV X.h (divV (X.ay - X.cy) X.n)))).setCell ⟨X.br, 1, none⟩ (.int .i64 (fmV X.h (divV (X.bx - X.ax) X.n))))
theorem SDS.chain : chainG (opsOf 2 Tryz.f96) SDS.acts = true := by kernel_rfl
theorem SDS.nodup : SDS.acts.Nodup := by decide
def SDS.L : List (Option Nat × Op × Option (Nat × Bool)) := [
 (some 11, .move (.tmp 2), none),
 (some 12, .fieldAddr 34 (.tmp 3) 1, none),
 (some 13, .load 3 (.tmp 12), none),
 (some 14, .fieldAddr 34 (.tmp 4) 1, none),
 (some 15, .load 3 (.tmp 14), none),
 (some 16, .binOp .sub 3 (.tmp 13) (.tmp 15) 3, none),
 (some 17, .move (.tmp 7), none),
 (some 18, .call { callee := .value (.func 110), args := #[(.tmp 16), (.tmp 17)], argTypes := #[3, 3] }, none),
 (some 19, .call { callee := .value (.func 109), args := #[(.tmp 11), (.tmp 18)], argTypes := #[3, 3] }, none),
 (some 20, .move (.tmp 2), none),
 (some 21, .fieldAddr 34 (.tmp 4) 0, none),
 (some 22, .load 3 (.tmp 21), none),
 (some 23, .fieldAddr 34 (.tmp 3) 0, none),
 (some 24, .load 3 (.tmp 23), none),
 (some 25, .binOp .sub 3 (.tmp 22) (.tmp 24) 3, none),
 (some 26, .move (.tmp 7), none),
 (some 27, .call { callee := .value (.func 110), args := #[(.tmp 25), (.tmp 26)], argTypes := #[3, 3] }, none),
 (some 28, .call { callee := .value (.func 109), args := #[(.tmp 20), (.tmp 27)], argTypes := #[3, 3] }, none),
 (some 29, .build 34 #[(0, (.tmp 19)), (1, (.tmp 28))], none),
 (none, .store 34 (.tmp 6) (.tmp 29), none)]
theorem SDS.isL : (opsOf 2 Tryz.f96).toList.map tri = SDS.L := by kernel_rfl
theorem SDS.ini {X : SDS} (ok : SDSOk X) : ∀ n ∈ [2, 3, 4, 6, 7], X.a0.eval (.tmp n) = X.val0 n := by
 simp only [List.forall_mem_cons]
 exact ⟨ok.e2, ok.e3, ok.e4, ok.e6, ok.e7, List.forall_mem_nil _⟩
abbrev SDS.St (X : SDS) (Q : PQ) (i : Nat) : Prop := StepG (opsOf 2 Tryz.f96) SDS.acts SDS.av X.val0 X.Wd X.a0 Q i
theorem SDS.plain (X : SDS) (ok : SDSOk X) {Q : PQ} : ∀ i ∈ [0, 1, 3, 5, 6, 9, 10, 12, 14, 15, 18], SDS.St X Q i := by
 simp only [List.forall_mem_cons]
 refine ⟨?_, ?_, ?_, ?_, ?_, ?_, ?_, ?_, ?_, ?_, ?_, List.forall_mem_nil _⟩
 all_goals
  refine st_plain SDS.isL (SDS.ini ok) ok.sz rfl (by kernel_rfl) ?_
  intro γ w n o hW hop
  unfold execOp
  rw [hop]
  simp [envR, valG, SDS.av, SDS.val0, ok.w1, ok.w2, go_sem]
theorem SDS.early (X : SDS) (ok : SDSOk X) {Q : PQ} : ∀ i ∈ [2, 4, 11, 13], SDS.St X Q i := by
 simp only [List.forall_mem_cons]
 refine ⟨?_, ?_, ?_, ?_, List.forall_mem_nil _⟩
 all_goals
  refine st_plainM (m := 0) SDS.isL (SDS.ini ok) ok.sz rfl (by kernel_rfl) ?_
  intro γ w n o hn hW hop
  obtain rfl : n = 0 := by omega
  have hk : Kp X.W w := hW
  have hc_c1 := rq_at hk ok.c1
  have hc_c3 := rq_at hk ok.c3
  have hc_c2 := rq_at hk ok.c2
  have hc_c0 := rq_at hk ok.c0
  unfold execOp
  rw [hop]
  simp [envR, valG, SDS.av, SDS.val0, hc_c1, hc_c3, hc_c2, hc_c0, go_sem]
theorem SDS.s19 (X : SDS) (ok : SDSOk X) {Q : PQ} : SDS.St X Q 19 := by
 intro γ listed a w o hF hC hW h1 ho h2
 obtain ⟨hd, hop, hg⟩ := fieldsL SDS.isL (i := 19) rfl ho
 have e6 : a.eval (.tmp 6) = .pointer (some ⟨X.br, 0, none⟩) := known hF ho h2 (SDS.ini ok) ok.sz (by kernel_rfl)
 have e29 : a.eval (.tmp 29) = .agg #[.int .i64 (fmV X.h (divV (X.ay - X.cy) X.n)), .int .i64 (fmV X.h (divV (X.bx - X.ax) X.n))] := known hF ho h2 (SDS.ini ok) ok.sz (by kernel_rfl)
 have hu := unl (hF.lt ho) h1
 refine st_actG (k := 0) SDS.chain SDS.nodup rfl hF hC hW h1 ho h2 (Or.inl hd) (injG (by kernel_rfl) hu) hg ?_
 intro hW0 K hK
 obtain ⟨u0, z0⟩ := ok.z0
 replace z0 := rq_at hW0 z0
 obtain ⟨u1, z1⟩ := ok.z1
 replace z1 := rq_at hW0 z1
 have zf : ∀ o, w.frozen? ⟨X.br, o, none⟩ = false := fun o => (hW0.cells.2 _ _).trans (ok.zf o)
 have hr : (execOp a.eval o).run Tryz.prog w = .ok .skip ((w.setCell ⟨X.br, 0, none⟩ (.int .i64 (fmV X.h (divV (X.ay - X.cy) X.n)))).setCell ⟨X.br, 1, none⟩ (.int .i64 (fmV X.h (divV (X.bx - X.ax) X.n)))) := by
  generalize a.eval = ρ at e6 e29 ⊢
  unfold execOp
  rw [hop]
  simp [e6, e29, z0, z1, zf, go_sem]
 unfold Oper.wp
 rw [hr]
 exact hK _ _ ⟨w, hW0, rfl⟩
theorem SDS.size : (opsOf 2 Tryz.f96).size = 20 := by kernel_rfl
theorem SDS.rest (X : SDS) (ok : SDSOk X) {Q : PQ} : ∀ i ∈ [7, 8, 16, 17, 19], SDS.St X Q i := by
 simp only [List.forall_mem_cons]
 exact ⟨st_callZ SDS.isL (SDS.ini ok) ok.sz rfl (by kernel_rfl) (fun _ _ => by simp [go_sem]) (fun γ w hW => sfd _ _ w) (fun _ _ _ hW hk => Kp.trans hW hk),
  st_callZ SDS.isL (SDS.ini ok) ok.sz rfl (by kernel_rfl) (fun _ _ => by simp [go_sem]) (fun γ w hW => sfm _ _ w) (fun _ _ _ hW hk => Kp.trans hW hk),
  st_callZ SDS.isL (SDS.ini ok) ok.sz rfl (by kernel_rfl) (fun _ _ => by simp [go_sem]) (fun γ w hW => sfd _ _ w) (fun _ _ _ hW hk => Kp.trans hW hk),
  st_callZ SDS.isL (SDS.ini ok) ok.sz rfl (by kernel_rfl) (fun _ _ => by simp [go_sem]) (fun γ w hW => sfm _ _ w) (fun _ _ _ hW hk => Kp.trans hW hk),
  SDS.s19 X ok, List.forall_mem_nil _⟩
theorem SDS.steps (X : SDS) (ok : SDSOk X) {Q : PQ} (i : Nat) (hi : i < (opsOf 2 Tryz.f96).size) : SDS.St X Q i := by
 rw [SDS.size] at hi
 rcases (by decide : ∀ i, i < 20 → i ∈ [0, 1, 3, 5, 6, 9, 10, 12, 14, 15, 18] ∨ i ∈ [2, 4, 11, 13] ∨ i ∈ [7, 8, 16, 17, 19]) i hi with h | h | h
 · exact SDS.plain X ok i h
 · exact SDS.early X ok i h
 · exact SDS.rest X ok i h
theorem SDS.run (X : SDS) (ok : SDSOk X) {Q : PQ} (w : World) (h0 : X.Wd 0 (fun _ => undef) w.drew) (hend : ∀ (γ : Nat → Value) w', X.Wd 1 γ w' → Q .normal (((((((((((((((((((X.a0.put (some 11) (.int .i64 X.h)).put (some 12) (.pointer (some ⟨X.b0, 1, none⟩))).put (some 13) (.int .i64 X.ay)).put (some 14) (.pointer (some ⟨X.b1, 1, none⟩))).put (some 15) (.int .i64 X.cy)).put (some 16) (.int .i64 (X.ay - X.cy))).put (some 17) (.int .i64 X.n)).put (some 18) (.int .i64 (divV (X.ay - X.cy) X.n))).put (some 19) (.int .i64 (fmV X.h (divV (X.ay - X.cy) X.n)))).put (some 20) (.int .i64 X.h)).put (some 21) (.pointer (some ⟨X.b1, 0, none⟩))).put (some 22) (.int .i64 X.bx)).put (some 23) (.pointer (some ⟨X.b0, 0, none⟩))).put (some 24) (.int .i64 X.ax)).put (some 25) (.int .i64 (X.bx - X.ax))).put (some 26) (.int .i64 X.n)).put (some 27) (.int .i64 (divV (X.bx - X.ax) X.n))).put (some 28) (.int .i64 (fmV X.h (divV (X.bx - X.ax) X.n)))).put (some 29) (.agg #[.int .i64 (fmV X.h (divV (X.ay - X.cy) X.n)), .int .i64 (fmV X.h (divV (X.bx - X.ax) X.n))])) w') : (Code.region 2 (opsOf 2 Tryz.f96) true).wp Tryz.prog Q X.a0 w := by
 refine reg_act (acts := SDS.acts) (av := SDS.av) (val0 := X.val0) (Wd := X.Wd) (by kernel_rfl) (by kernel_rfl) (by rw [SDS.size]; decide) (fun i hi => SDS.steps X ok i hi) _ h0 ?_
 intro γ w' h
 exact end_at (hend γ w' h) (by kernel_rfl)
def sideP (a b : Pnt) (h : Int) : Pnt := (fmV h (divV (a.2 - b.2) (szV a b)), fmV h (divV (b.1 - a.1) (szV a b)))
def sdV (a b : Pnt) (h : Int) : Pnt × Bool := if nearB a = true ∧ nearB b = true ∧ a ≠ b ∧ (0 ≤ h ∧ h ≤ 4194304) then (sideP a b h, true) else ((0, 0), false)
theorem wrap_small {x : Int} (h1 : -9223372036854775808 ≤ x) (h2 : x ≤ 9223372036854775807) : IntKind.i64.wrap x = x := by
 unfold IntKind.wrap; simp [IntKind.signed, IntKind.bits]; omega
theorem boxes3 {w w1 : World} {ax ay bx by' : Int} {t1 t2 t3 : TypeId} (h : Kp (((w.alloc (.cells #[.int .i64 ax, .int .i64 ay] t1)).alloc (.cells #[.int .i64 bx, .int .i64 by'] t2)).alloc (.cells #[.int .i64 0, .int .i64 0] t3)) w1) :
  (w1.cell? ⟨w.heap.size, 0, none⟩ = some (.int .i64 ax) ∧ w1.cell? ⟨w.heap.size, 1, none⟩ = some (.int .i64 ay)) ∧ (w1.cell? ⟨w.heap.size + 1, 0, none⟩ = some (.int .i64 bx) ∧ w1.cell? ⟨w.heap.size + 1, 1, none⟩ = some (.int .i64 by')) ∧
  (w1.cell? ⟨w.heap.size + 1 + 1, 0, none⟩ = some (.int .i64 0) ∧ w1.cell? ⟨w.heap.size + 1 + 1, 1, none⟩ = some (.int .i64 0) ∧ ∀ o, w1.frozen? ⟨w.heap.size + 1 + 1, o, none⟩ = false) := by
 obtain ⟨h1, h2, _⟩ := boxes2 (Kp.trans ((Kp.refl _).alloc _ _) h)
 obtain ⟨z0, z1, zf, _⟩ := zbox _ w1 _ h
 rw [World.size_alloc, World.size_alloc] at z0 z1 zf
 exact ⟨h1, h2, z0, z1, zf⟩
set_option maxRecDepth 100000 in
set_option maxHeartbeats 4000000 in
theorem sside (w : World) (a b : Pnt) (h : Int) (ha : nearB a = true) (hb : nearB b = true) :
  Calls Tryz.prog 96 #[.agg #[.int .i64 a.1, .int .i64 a.2], .agg #[.int .i64 b.1, .int .i64 b.2], .int .i64 h] w fun e w' => e = .returned (.agg #[.int .i64 (sideP a b h).1, .int .i64 (sideP a b h).2]) ∧ Kp w w' := by
 have HS : Hid _ := fun w => ssize w a b ha hb
 obtain ⟨a1, a2⟩ := nearB_nr ha
 obtain ⟨b1, b2⟩ := nearB_nr hb
 unfold sideP
 clear ha hb
 generalize szV a b = n at *
 obtain ⟨ax, ay⟩ := a
 obtain ⟨bx, by'⟩ := b
 unfold nr at *
 simp only at *
 have x1 : IntKind.i64.wrap (ay - by') = ay - by' := wrap_small (by omega) (by omega)
 have x2 : IntKind.i64.wrap (bx - ax) = bx - ax := wrap_small (by omega) (by omega)
 obtain ⟨W, hW⟩ : ∃ W, ((w.alloc (.cells #[.int .i64 ax, .int .i64 ay] 34)).alloc (.cells #[.int .i64 bx, .int .i64 by'] 34)).alloc (.cells #[.int .i64 0, .int .i64 0] 34) = W := ⟨_, rfl⟩
 have HB : Hid (∀ w1, Kp W w1 → _) := fun w1 k => boxes3 (hW ▸ k)
 have KW : Hid (Kp w W) := by show Kp w W; rw [← hW]; exact (((Kp.refl w).alloc _ _).alloc _ _).alloc _ _
 have HW : Hid (_ = W) := hW
 clear hW
 obtain ⟨u, hu⟩ : ∃ u, fmV h (divV (ay - by') n) = u := ⟨_, rfl⟩
 obtain ⟨v, hv⟩ : ∃ v, fmV h (divV (bx - ax) n) = v := ⟨_, rfl⟩
 rw [hu, hv]
 go_enter Tryz.func96, Tryz.ntmps96
 go_wp2_with fail
 rw [HW.out]
 clear HW
 refine Calls.mono (HS.out _) ?_
 rintro e w1 ⟨rfl, k1⟩
 obtain ⟨⟨q0, q1⟩, ⟨q2, q3⟩, z0, z1, zf⟩ := HB.out w1 k1
 have K1 : Hid (Kp w w1) := Kp.trans KW.out k1
 clear k1 HB
 go_wp2
 refine reg_change (ops' := opsOf 2 Tryz.f96) (by kernel_rfl) ?_
 refine SDS.run ⟨ax, ay, bx, by', h, n, w.heap.size, w.heap.size + 1, w.heap.size + 1 + 1, w1.drew, _⟩ ⟨q0, q1, q2, q3, x1, x2, ⟨_, z0⟩, ⟨_, z1⟩, zf, rfl, rfl, rfl, rfl, rfl, rfl⟩ w1 (Kp.refl _) ?_
 rintro γ w2 ⟨w3, k3, rfl⟩
 replace k3 : Kp w1 w3 := undrew k3
 replace z0 := rq_at k3 z0
 replace z1 := rq_at k3 z1
 have K3 : Hid (Kp w w3) := Kp.trans K1.out k3
 clear k3 q0 q1 q2 q3 K1 zf
 simp only [hu, hv, Act.put, List.setIfInBounds_toArray, List.set_cons_zero, List.set_cons_succ]
 obtain ⟨y0, y1⟩ := set2 w3 (w.heap.size + 1 + 1) (.int .i64 u) (.int .i64 v) z0 z1
 go_wp2
 refine bodyPost_ret (v := .agg #[.int .i64 u, .int .i64 v]) (by simp [results, Tryz.results96, go_sem, y0, y1]) rfl ⟨rfl, ?_⟩
 exact (K3.out.setCell (by simp; omega) _).setCell (by simp; omega) _
set_option maxRecDepth 100000 in
set_option maxHeartbeats 4000000 in
theorem isideOf (w : World) (a b : Pnt) (h : Int) :
  Calls Tryz.prog 89 #[.agg #[.int .i64 a.1, .int .i64 a.2], .agg #[.int .i64 b.1, .int .i64 b.2], .int .i64 h] w fun e w' => e = .returned (.tuple #[.agg #[.int .i64 (sdV a b h).1.1, .int .i64 (sdV a b h).1.2], .bool (sdV a b h).2]) ∧ Kp w w' := by
 have HA : Hid _ := fun w => isizeOf w a b
 have HH : Hid _ := fun w => iin_any w h 0 4194304
 obtain ⟨r, hr⟩ : ∃ r, sdV a b h = r := ⟨_, rfl⟩
 rw [hr]
 have HR : Hid (sdV a b h = r) := hr
 clear hr
 obtain ⟨⟨rx, ry⟩, rb⟩ := r
 simp only
 have HN : Hid (¬ (nearB a = true ∧ nearB b = true ∧ a ≠ b ∧ (0 ≤ h ∧ h ≤ 4194304)) → rx = 0 ∧ ry = 0 ∧ rb = false) := fun hn => by
  have h2 := HR.out
  unfold sdV at h2
  rw [if_neg hn] at h2
  injection h2 with h3 h4
  injection h3 with h5 h6
  exact ⟨h5.symm, h6.symm, h4.symm⟩
 have HY : Hid ((nearB a = true ∧ nearB b = true ∧ a ≠ b ∧ (0 ≤ h ∧ h ≤ 4194304)) → fmV h (divV (a.2 - b.2) (szV a b)) = rx ∧ fmV h (divV (b.1 - a.1) (szV a b)) = ry ∧ rb = true) := fun hn => by
  have h2 := HR.out
  unfold sdV sideP at h2
  rw [if_pos hn] at h2
  injection h2 with h3 h4
  injection h3 with h5 h6
  exact ⟨h5, h6, h4.symm⟩
 clear HR
 have hD : (decide (a = b) : Bool) = (a.1 == b.1 && a.2 == b.2) := by
  rw [Bool.eq_iff_iff]
  simp [Prod.ext_iff]
 obtain ⟨W, hW⟩ : ∃ W, ((w.alloc (.cells #[.int .i64 a.1, .int .i64 a.2] 34)).alloc (.cells #[.int .i64 b.1, .int .i64 b.2] 34)).alloc (.cells #[.int .i64 0, .int .i64 0] 34) = W := ⟨_, rfl⟩
 have KW : Hid (Kp w W) := by show Kp w W; rw [← hW]; exact (((Kp.refl w).alloc _ _).alloc _ _).alloc _ _
 have HBX : Hid (∀ w1, Kp W w1 → _) := fun w1 k => boxes3 (hW ▸ k)
 have HW : Hid (_ = W) := hW
 clear hW
 by_cases hn : nearB a = true ∧ nearB b = true
 ·have es : soV a b = (szV a b, true) := by unfold soV; rw [if_pos hn]
  rw [es] at HA
  simp only at HA
  clear es
  by_cases heq : a = b
  ·obtain ⟨e0, e1, e2⟩ := HN.out (fun h => h.2.2.1 heq)
   subst e0 e1 e2
   have h1 : (a.1 == b.1) = true := by rw [heq]; simp
   have h2 : (a.2 == b.2) = true := by rw [heq]; simp
   clear HN HY heq hD
   generalize szV a b = n at *
   go_enter Tryz.func89, Tryz.ntmps89
   go_wp2_with fail
   rw [HW.out]
   refine Calls.mono (HA.out _) ?_
   rintro e w2 ⟨rfl, k1⟩
   obtain ⟨⟨q0, q1⟩, ⟨q2, q3⟩, z0, z1, zf⟩ := HBX.out w2 k1
   have K2 : Hid (Kp W w2) := k1
   clear k1
   obtain ⟨y0, y1⟩ := set2 w2 (w.heap.size + 1 + 1) (.int .i64 0) (.int .i64 0) z0 z1
   go_wp2
   refine bodyPost_ret (v := .tuple #[.agg #[.int .i64 0, .int .i64 0], .bool false]) (by simp [results, Tryz.results89, go_sem, y0, y1]) rfl ⟨rfl, ?_⟩
   exact ((Kp.trans KW.out K2.out).setCell (by simp; omega) _).setCell (by simp; omega) _
  ·have hne : (a.1 == b.1) = false ∨ ((a.1 == b.1) = true ∧ (a.2 == b.2) = false) := by
    rw [decide_eq_false heq] at hD
    cases h1 : (a.1 == b.1) with
    | false => exact Or.inl rfl
    | true => rw [h1] at hD; exact Or.inr ⟨rfl, by simpa using hD.symm⟩
   by_cases hh : 0 ≤ h ∧ h ≤ 4194304
   ·obtain ⟨hu, hv, e1⟩ := HY.out ⟨hn.1, hn.2, heq, hh⟩
    rw [decide_eq_true hh] at HH
    obtain ⟨a1, a2⟩ := nearB_nr hn.1
    obtain ⟨b1, b2⟩ := nearB_nr hn.2
    unfold nr at a1 a2 b1 b2
    have x1 : IntKind.i64.wrap (a.2 - b.2) = a.2 - b.2 := wrap_small (by omega) (by omega)
    have x2 : IntKind.i64.wrap (b.1 - a.1) = b.1 - a.1 := wrap_small (by omega) (by omega)
    generalize szV a b = n at *
    obtain ⟨ax, ay⟩ := a
    obtain ⟨bx, by'⟩ := b
    simp only at *
    clear HN HY heq hD a1 a2 b1 b2 hn
    have X1 : Hid (IntKind.i64.wrap (ay - by') = ay - by') := x1
    have X2 : Hid (IntKind.i64.wrap (bx - ax) = bx - ax) := x2
    clear x1 x2
    rcases hne with h1 | ⟨h1, h2⟩
    all_goals
     go_enter Tryz.func89, Tryz.ntmps89
     go_wp2_with fail
     rw [HW.out]
     refine Calls.mono (HA.out _) ?_
     rintro e w2 ⟨rfl, k1⟩
     obtain ⟨⟨q0, q1⟩, ⟨q2, q3⟩, z0, z1, zf⟩ := HBX.out w2 k1
     have K2 : Hid (Kp W w2) := k1
     clear k1
     go_wp2_with fail
     refine Calls.mono (HH.out _) ?_
     rintro e w3 ⟨rfl, rfl⟩
     go_wp2
     refine reg_change (ops' := opsOf 4 Tryz.f89) (by kernel_rfl) ?_
     refine SDI.run ⟨ax, ay, bx, by', h, n, w.heap.size, w.heap.size + 1, w.heap.size + 1 + 1, w3.drew, _⟩ ⟨q0, q1, q2, q3, X1.out, X2.out, ⟨_, z0⟩, ⟨_, z1⟩, zf, rfl, rfl, rfl, rfl, rfl, rfl⟩ w3 (Kp.refl _) ?_
     rintro γ w5 ⟨w4, k4, rfl⟩
     replace k4 : Kp w3 w4 := undrew k4
     have K4 : Hid (Kp W w4) := Kp.trans K2.out k4
     clear k4 q0 q1 q2 q3 z0 z1 zf
     obtain ⟨_, _, z0, z1, zf⟩ := HBX.out w4 K4.out
     simp only [hu, hv, Act.put, List.setIfInBounds_toArray, List.set_cons_zero, List.set_cons_succ]
     obtain ⟨y0, y1⟩ := set2 w4 (w.heap.size + 1 + 1) (.int .i64 rx) (.int .i64 ry) z0 z1
     go_wp2
     refine bodyPost_ret (v := .tuple #[.agg #[.int .i64 rx, .int .i64 ry], .bool true]) (by simp [results, Tryz.results89, go_sem, y0, y1]) rfl ⟨by rw [e1], ?_⟩
     exact ((Kp.trans KW.out K4.out).setCell (by simp; omega) _).setCell (by simp; omega) _
   ·obtain ⟨e0, e1, e2⟩ := HN.out (fun h => hh h.2.2.2)
    subst e0 e1 e2
    rw [decide_eq_false hh] at HH
    generalize szV a b = n at *
    clear HN HY heq hD
    rcases hne with h1 | ⟨h1, h2⟩
    all_goals
     go_enter Tryz.func89, Tryz.ntmps89
     go_wp2_with fail
     rw [HW.out]
     refine Calls.mono (HA.out _) ?_
     rintro e w2 ⟨rfl, k1⟩
     obtain ⟨⟨q0, q1⟩, ⟨q2, q3⟩, z0, z1, zf⟩ := HBX.out w2 k1
     have K2 : Hid (Kp W w2) := k1
     clear k1
     go_wp2_with fail
     refine Calls.mono (HH.out _) ?_
     rintro e w3 ⟨rfl, rfl⟩
     obtain ⟨y0, y1⟩ := set2 w3 (w.heap.size + 1 + 1) (.int .i64 0) (.int .i64 0) z0 z1
     go_wp2
     refine bodyPost_ret (v := .tuple #[.agg #[.int .i64 0, .int .i64 0], .bool false]) (by simp [results, Tryz.results89, go_sem, y0, y1]) rfl ⟨rfl, ?_⟩
     exact ((Kp.trans KW.out K2.out).setCell (by simp; omega) _).setCell (by simp; omega) _
 ·have es : soV a b = (0, false) := by unfold soV; rw [if_neg hn]
  rw [es] at HA
  simp only at HA
  obtain ⟨e0, e1, e2⟩ := HN.out (fun h => hn ⟨h.1, h.2.1⟩)
  subst e0 e1 e2
  clear es HN HY hD
  go_enter Tryz.func89, Tryz.ntmps89
  go_wp2_with fail
  rw [HW.out]
  refine Calls.mono (HA.out _) ?_
  rintro e w2 ⟨rfl, k1⟩
  obtain ⟨⟨q0, q1⟩, ⟨q2, q3⟩, z0, z1, zf⟩ := HBX.out w2 k1
  have K2 : Hid (Kp W w2) := k1
  clear k1
  obtain ⟨y0, y1⟩ := set2 w2 (w.heap.size + 1 + 1) (.int .i64 0) (.int .i64 0) z0 z1
  go_wp2
  refine bodyPost_ret (v := .tuple #[.agg #[.int .i64 0, .int .i64 0], .bool false]) (by simp [results, Tryz.results89, go_sem, y0, y1]) rfl ⟨rfl, ?_⟩
  exact ((Kp.trans KW.out K2.out).setCell (by simp; omega) _).setCell (by simp; omega) _
structure BND where
 fx : Int
 fy : Int
 tx : Int
 ty : Int
 sx : Int
 sy : Int
 bs : Nat
 br : Nat
 W : World
 a0 : Act
structure BNDOk (X : BND) : Prop where
 c0 : X.W.cell? ⟨X.bs, 0, none⟩ = some (.int .i64 (X.fx))
 c1 : X.W.cell? ⟨X.bs, 1, none⟩ = some (.int .i64 (X.fy))
 c2 : X.W.cell? ⟨X.bs, 2, none⟩ = some (.int .i64 (X.tx))
 c3 : X.W.cell? ⟨X.bs, 3, none⟩ = some (.int .i64 (X.ty))
 c4 : X.W.cell? ⟨X.bs, 4, none⟩ = some (.int .i64 (X.sx))
 c5 : X.W.cell? ⟨X.bs, 5, none⟩ = some (.int .i64 (X.sy))
 w0 : wid X.fx
 w1 : wid X.fy
 w2 : wid X.tx
 w3 : wid X.ty
 w4 : wid X.sx
 w5 : wid X.sy
 z0 : X.W.cell? ⟨X.br, 0, none⟩ = some (.slice none 0 0)
 z1 : ∃ u, X.W.cell? ⟨X.br, 1, none⟩ = some (.bool u)
 zf : ∀ o, X.W.frozen? ⟨X.br, o, none⟩ = false
 e1 : X.a0.eval (.tmp 1) = .pointer (some ⟨X.bs, 0, none⟩)
 e2 : X.a0.eval (.tmp 2) = .pointer (some ⟨X.br, 0, none⟩)
 sz : X.a0.tmps.size = 25
def BND.val0 (X : BND) : Nat → Value
 | 1 => .pointer (some ⟨X.bs, 0, none⟩)
 | 2 => .pointer (some ⟨X.br, 0, none⟩)
 | 3 => .pointer (some ⟨X.bs, 0, none⟩)
 | 4 => .agg #[.int .i64 (X.fx), .int .i64 (X.fy)]
 | 5 => .pointer (some ⟨X.bs, 4, none⟩)
 | 6 => .agg #[.int .i64 (X.sx), .int .i64 (X.sy)]
 | 7 => .agg #[.int .i64 (X.fx + X.sx), .int .i64 (X.fy + X.sy)]
 | 8 => .pointer (some ⟨X.bs, 2, none⟩)
 | 9 => .agg #[.int .i64 (X.tx), .int .i64 (X.ty)]
 | 10 => .pointer (some ⟨X.bs, 4, none⟩)
 | 11 => .agg #[.int .i64 (X.sx), .int .i64 (X.sy)]
 | 12 => .agg #[.int .i64 (X.tx + X.sx), .int .i64 (X.ty + X.sy)]
 | 13 => .pointer (some ⟨X.bs, 2, none⟩)
 | 14 => .agg #[.int .i64 (X.tx), .int .i64 (X.ty)]
 | 15 => .pointer (some ⟨X.bs, 4, none⟩)
 | 16 => .agg #[.int .i64 (X.sx), .int .i64 (X.sy)]
 | 17 => .agg #[.int .i64 (X.tx - X.sx), .int .i64 (X.ty - X.sy)]
 | 18 => .pointer (some ⟨X.bs, 0, none⟩)
 | 19 => .agg #[.int .i64 (X.fx), .int .i64 (X.fy)]
 | 20 => .pointer (some ⟨X.bs, 4, none⟩)
 | 21 => .agg #[.int .i64 (X.sx), .int .i64 (X.sy)]
 | 22 => .agg #[.int .i64 (X.fx - X.sx), .int .i64 (X.fy - X.sy)]
 | _ => undef
def BND.av : Nat → Option Nat
 | 23 => some 0
 | 24 => some 1
 | _ => none
def BND.acts : List Nat := [20, 21, 22]
def BND.Wd (X : BND) : Nat → (Nat → Value) → World → Prop
  | 0, _, w => Kp X.W w
  | 1, γ, w => ∃ w1, Kp X.W w1 ∧ γ 0 = .slice (some ⟨w1.heap.size, 0, none⟩) 4 4 ∧ w = (w1.alloc (.cells #[.int .i64 (X.fx + X.sx), .int .i64 (X.fy + X.sy), .int .i64 (X.tx + X.sx), .int .i64 (X.ty + X.sy), .int .i64 (X.tx - X.sx), .int .i64 (X.ty - X.sy), .int .i64 (X.fx - X.sx), .int .i64 (X.fy - X.sy)] 34))
  | 2, γ, w => ∃ w1, Kp X.W w1 ∧ γ 1 = .agg #[.slice (some ⟨w1.heap.size, 0, none⟩) 4 4, .bool true] ∧ Kp (w1.alloc (.cells #[.int .i64 (X.fx + X.sx), .int .i64 (X.fy + X.sy), .int .i64 (X.tx + X.sx), .int .i64 (X.ty + X.sy), .int .i64 (X.tx - X.sx), .int .i64 (X.ty - X.sy), .int .i64 (X.fx - X.sx), .int .i64 (X.fy - X.sy)] 34)) w
  | _, γ, w => ∃ w1 w2, Kp X.W w1 ∧ Kp (w1.alloc (.cells #[.int .i64 (X.fx + X.sx), .int .i64 (X.fy + X.sy), .int .i64 (X.tx + X.sx), .int .i64 (X.ty + X.sy), .int .i64 (X.tx - X.sx), .int .i64 (X.ty - X.sy), .int .i64 (X.fx - X.sx), .int .i64 (X.fy - X.sy)] 34)) w2 ∧ w = (w2.setCell ⟨X.br, 0, none⟩ (.slice (some ⟨w1.heap.size, 0, none⟩) 4 4)).setCell ⟨X.br, 1, none⟩ (.bool true)
theorem BND.chain : chainG (opsOf 1 Tryz.f90) BND.acts = true := by kernel_rfl
theorem BND.nodup : BND.acts.Nodup := by decide
def BND.L : List (Option Nat × Op × Option (Nat × Bool)) := [
 (some 3, .fieldAddr 112 (.tmp 1) 0, none),
 (some 4, .load 34 (.tmp 3), none),
 (some 5, .fieldAddr 112 (.tmp 1) 2, none),
 (some 6, .load 34 (.tmp 5), none),
 (some 7, .call { callee := .value (.func 83), args := #[(.tmp 4), (.tmp 6)], argTypes := #[34, 34] }, none),
 (some 8, .fieldAddr 112 (.tmp 1) 1, none),
 (some 9, .load 34 (.tmp 8), none),
 (some 10, .fieldAddr 112 (.tmp 1) 2, none),
 (some 11, .load 34 (.tmp 10), none),
 (some 12, .call { callee := .value (.func 83), args := #[(.tmp 9), (.tmp 11)], argTypes := #[34, 34] }, none),
 (some 13, .fieldAddr 112 (.tmp 1) 1, none),
 (some 14, .load 34 (.tmp 13), none),
 (some 15, .fieldAddr 112 (.tmp 1) 2, none),
 (some 16, .load 34 (.tmp 15), none),
 (some 17, .call { callee := .value (.func 76), args := #[(.tmp 14), (.tmp 16)], argTypes := #[34, 34] }, none),
 (some 18, .fieldAddr 112 (.tmp 1) 0, none),
 (some 19, .load 34 (.tmp 18), none),
 (some 20, .fieldAddr 112 (.tmp 1) 2, none),
 (some 21, .load 34 (.tmp 20), none),
 (some 22, .call { callee := .value (.func 76), args := #[(.tmp 19), (.tmp 21)], argTypes := #[34, 34] }, none),
 (some 23, .buildSlice 23 4 #[(0, (.tmp 7)), (1, (.tmp 12)), (2, (.tmp 17)), (3, (.tmp 22))], none),
 (some 24, .call { callee := .value (.func 106), args := #[(.tmp 23)], argTypes := #[23] }, none),
 (none, .store 25 (.tmp 2) (.tmp 24), none)]
theorem BND.isL : (opsOf 1 Tryz.f90).toList.map tri = BND.L := by kernel_rfl
theorem BND.ini {X : BND} (ok : BNDOk X) : ∀ n ∈ [1, 2], X.a0.eval (.tmp n) = X.val0 n := by
 simp only [List.forall_mem_cons]
 exact ⟨ok.e1, ok.e2, List.forall_mem_nil _⟩
abbrev BND.St (X : BND) (Q : PQ) (i : Nat) : Prop := StepG (opsOf 1 Tryz.f90) BND.acts BND.av X.val0 X.Wd X.a0 Q i
theorem BND.plain (X : BND) (ok : BNDOk X) {Q : PQ} : ∀ i ∈ [0, 2, 5, 7, 10, 12, 15, 17], BND.St X Q i := by
 simp only [List.forall_mem_cons]
 refine ⟨?_, ?_, ?_, ?_, ?_, ?_, ?_, ?_, List.forall_mem_nil _⟩
 all_goals
  refine st_plain BND.isL (BND.ini ok) ok.sz rfl (by kernel_rfl) ?_
  intro γ w n o hW hop
  unfold execOp
  rw [hop]
  simp [envR, valG, BND.av, BND.val0, go_sem]
theorem BND.early (X : BND) (ok : BNDOk X) {Q : PQ} : ∀ i ∈ [1, 3, 6, 8, 11, 13, 16, 18], BND.St X Q i := by
 simp only [List.forall_mem_cons]
 refine ⟨?_, ?_, ?_, ?_, ?_, ?_, ?_, ?_, List.forall_mem_nil _⟩
 all_goals
  refine st_plainM (m := 0) BND.isL (BND.ini ok) ok.sz rfl (by kernel_rfl) ?_
  intro γ w n o hn hW hop
  obtain rfl : n = 0 := by omega
  have hk : Kp X.W w := hW
  have hc_c0 := rq_at hk ok.c0
  have hc_c1 := rq_at hk ok.c1
  have hc_c4 := rq_at hk ok.c4
  have hc_c5 := rq_at hk ok.c5
  have hc_c2 := rq_at hk ok.c2
  have hc_c3 := rq_at hk ok.c3
  unfold execOp
  rw [hop]
  simp [envR, valG, BND.av, BND.val0, hc_c0, hc_c1, hc_c4, hc_c5, hc_c2, hc_c3, go_sem]
theorem BND.s20 (X : BND) (ok : BNDOk X) {Q : PQ} : BND.St X Q 20 := by
 intro γ listed a w o hF hC hW h1 ho h2
 obtain ⟨hd, hop, hg⟩ := fieldsL BND.isL (i := 20) rfl ho
 have e7 : a.eval (.tmp 7) = .agg #[.int .i64 (X.fx + X.sx), .int .i64 (X.fy + X.sy)] := known hF ho h2 (BND.ini ok) ok.sz (by kernel_rfl)
 have e12 : a.eval (.tmp 12) = .agg #[.int .i64 (X.tx + X.sx), .int .i64 (X.ty + X.sy)] := known hF ho h2 (BND.ini ok) ok.sz (by kernel_rfl)
 have e17 : a.eval (.tmp 17) = .agg #[.int .i64 (X.tx - X.sx), .int .i64 (X.ty - X.sy)] := known hF ho h2 (BND.ini ok) ok.sz (by kernel_rfl)
 have e22 : a.eval (.tmp 22) = .agg #[.int .i64 (X.fx - X.sx), .int .i64 (X.fy - X.sy)] := known hF ho h2 (BND.ini ok) ok.sz (by kernel_rfl)
 have hu := unl (hF.lt ho) h1
 refine st_actG (k := 0) BND.chain BND.nodup rfl hF hC hW h1 ho h2 (Or.inr ⟨23, hd, rfl⟩) (injG (by kernel_rfl) hu) hg ?_
 intro hW0 K hK
 have hr : (execOp a.eval o).run Tryz.prog w = .ok (.value (.slice (some ⟨w.heap.size, 0, none⟩) 4 4)) (w.alloc (.cells #[.int .i64 (X.fx + X.sx), .int .i64 (X.fy + X.sy), .int .i64 (X.tx + X.sx), .int .i64 (X.ty + X.sy), .int .i64 (X.tx - X.sx), .int .i64 (X.ty - X.sy), .int .i64 (X.fx - X.sx), .int .i64 (X.fy - X.sy)] 34)) := by
  generalize a.eval = ρ at e7 e12 e17 e22 ⊢
  unfold execOp
  rw [hop]
  simp [e7, e12, e17, e22, go_sem]
 unfold Oper.wp
 rw [hr]
 exact hK _ _ ⟨w, hW0, rfl, rfl⟩
theorem BND.s21 (X : BND) (ok : BNDOk X) {Q : PQ} : BND.St X Q 21 := by
 intro γ listed a w o hF hC hW h1 ho h2
 obtain ⟨hd, hop, hg⟩ := fieldsL BND.isL (i := 21) rfl ho
 have e23 : a.eval (.tmp 23) = γ 0 := known hF ho h2 (BND.ini ok) ok.sz (by kernel_rfl)
 have ef : a.eval (.func 106) = .func (.func 106) #[] #[] := rfl
 have hu := unl (hF.lt ho) h1
 refine st_actG (k := 1) BND.chain BND.nodup rfl hF hC hW h1 ho h2 (Or.inr ⟨24, hd, rfl⟩) (injG (by kernel_rfl) hu) hg ?_
 intro hW0 K hK
 obtain ⟨w1, k1, g0, rfl⟩ := hW0
 rw [g0] at e23
 have hr : (execOp a.eval o).run Tryz.prog (w1.alloc (.cells #[.int .i64 (X.fx + X.sx), .int .i64 (X.fy + X.sy), .int .i64 (X.tx + X.sx), .int .i64 (X.ty + X.sy), .int .i64 (X.tx - X.sx), .int .i64 (X.ty - X.sy), .int .i64 (X.fx - X.sx), .int .i64 (X.fy - X.sy)] 34)) = .ok (.enter 106 #[.slice (some ⟨w1.heap.size, 0, none⟩) 4 4]) (w1.alloc (.cells #[.int .i64 (X.fx + X.sx), .int .i64 (X.fy + X.sy), .int .i64 (X.tx + X.sx), .int .i64 (X.ty + X.sy), .int .i64 (X.tx - X.sx), .int .i64 (X.ty - X.sy), .int .i64 (X.fx - X.sx), .int .i64 (X.fy - X.sy)] 34)) := by
  generalize a.eval = ρ at e23 ef ⊢
  unfold execOp
  rw [hop]
  simp [e23, ef, go_sem]
 unfold Oper.wp
 rw [hr]
 refine Calls.mono (iring _ _ _ _) ?_
 rintro e w' ⟨rfl, h⟩
 exact hK _ _ ⟨w1, k1, rfl, h⟩
theorem BND.s22 (X : BND) (ok : BNDOk X) {Q : PQ} : BND.St X Q 22 := by
 intro γ listed a w o hF hC hW h1 ho h2
 obtain ⟨hd, hop, hg⟩ := fieldsL BND.isL (i := 22) rfl ho
 have e2 : a.eval (.tmp 2) = .pointer (some ⟨X.br, 0, none⟩) := known hF ho h2 (BND.ini ok) ok.sz (by kernel_rfl)
 have e24 : a.eval (.tmp 24) = γ 1 := known hF ho h2 (BND.ini ok) ok.sz (by kernel_rfl)
 have hu := unl (hF.lt ho) h1
 refine st_actG (k := 2) BND.chain BND.nodup rfl hF hC hW h1 ho h2 (Or.inl hd) (injG (by kernel_rfl) hu) hg ?_
 intro hW0 K hK
 obtain ⟨w1, k1, g1, k2⟩ := hW0
 rw [g1] at e24
 have kk : Kp X.W w := Kp.trans k1 (Kp.trans ((Kp.refl w1).alloc _ _) k2)
 have z0 := rq_at kk ok.z0
 obtain ⟨u1, z1⟩ := ok.z1
 replace z1 := rq_at kk z1
 have zf : ∀ o, w.frozen? ⟨X.br, o, none⟩ = false := fun o => (kk.cells.2 _ _).trans (ok.zf o)
 have hr : (execOp a.eval o).run Tryz.prog w = .ok .skip ((w.setCell ⟨X.br, 0, none⟩ (.slice (some ⟨w1.heap.size, 0, none⟩) 4 4)).setCell ⟨X.br, 1, none⟩ (.bool true)) := by
  generalize a.eval = ρ at e2 e24 ⊢
  unfold execOp
  rw [hop]
  simp [e2, e24, z0, z1, zf, go_sem]
 unfold Oper.wp
 rw [hr]
 exact hK undef _ ⟨w1, w, k1, k2, rfl⟩
theorem BND.size : (opsOf 1 Tryz.f90).size = 23 := by kernel_rfl
theorem BND.rest (X : BND) (ok : BNDOk X) {Q : PQ} : ∀ i ∈ [4, 9, 14, 19, 20, 21, 22], BND.St X Q i := by
 simp only [List.forall_mem_cons]
 exact ⟨st_callZ BND.isL (BND.ini ok) ok.sz rfl (by kernel_rfl) (fun _ _ => by simp [go_sem]) (fun γ w hW => ipls w _ _ _ _ ok.w0 ok.w1 ok.w4 ok.w5) (fun _ _ _ hW hk => Kp.trans hW hk),
  st_callZ BND.isL (BND.ini ok) ok.sz rfl (by kernel_rfl) (fun _ _ => by simp [go_sem]) (fun γ w hW => ipls w _ _ _ _ ok.w2 ok.w3 ok.w4 ok.w5) (fun _ _ _ hW hk => Kp.trans hW hk),
  st_callZ BND.isL (BND.ini ok) ok.sz rfl (by kernel_rfl) (fun _ _ => by simp [go_sem]) (fun γ w hW => imin2 w _ _ _ _ ok.w2 ok.w3 ok.w4 ok.w5) (fun _ _ _ hW hk => Kp.trans hW hk),
  st_callZ BND.isL (BND.ini ok) ok.sz rfl (by kernel_rfl) (fun _ _ => by simp [go_sem]) (fun γ w hW => imin2 w _ _ _ _ ok.w0 ok.w1 ok.w4 ok.w5) (fun _ _ _ hW hk => Kp.trans hW hk),
  BND.s20 X ok,
  BND.s21 X ok,
  BND.s22 X ok, List.forall_mem_nil _⟩
theorem BND.steps (X : BND) (ok : BNDOk X) {Q : PQ} (i : Nat) (hi : i < (opsOf 1 Tryz.f90).size) : BND.St X Q i := by
 rw [BND.size] at hi
 rcases (by decide : ∀ i, i < 23 → i ∈ [0, 2, 5, 7, 10, 12, 15, 17] ∨ i ∈ [1, 3, 6, 8, 11, 13, 16, 18] ∨ i ∈ [4, 9, 14, 19, 20, 21, 22]) i hi with h | h | h
 · exact BND.plain X ok i h
 · exact BND.early X ok i h
 · exact BND.rest X ok i h
theorem BND.run (X : BND) (ok : BNDOk X) {Q : PQ} (w : World) (h0 : X.Wd 0 (fun _ => undef) w.drew) (hend : ∀ (γ : Nat → Value) w', X.Wd 3 γ w' → Q .normal ((((((((((((((((((((((X.a0.put (some 3) (.pointer (some ⟨X.bs, 0, none⟩))).put (some 4) (.agg #[.int .i64 (X.fx), .int .i64 (X.fy)])).put (some 5) (.pointer (some ⟨X.bs, 4, none⟩))).put (some 6) (.agg #[.int .i64 (X.sx), .int .i64 (X.sy)])).put (some 7) (.agg #[.int .i64 (X.fx + X.sx), .int .i64 (X.fy + X.sy)])).put (some 8) (.pointer (some ⟨X.bs, 2, none⟩))).put (some 9) (.agg #[.int .i64 (X.tx), .int .i64 (X.ty)])).put (some 10) (.pointer (some ⟨X.bs, 4, none⟩))).put (some 11) (.agg #[.int .i64 (X.sx), .int .i64 (X.sy)])).put (some 12) (.agg #[.int .i64 (X.tx + X.sx), .int .i64 (X.ty + X.sy)])).put (some 13) (.pointer (some ⟨X.bs, 2, none⟩))).put (some 14) (.agg #[.int .i64 (X.tx), .int .i64 (X.ty)])).put (some 15) (.pointer (some ⟨X.bs, 4, none⟩))).put (some 16) (.agg #[.int .i64 (X.sx), .int .i64 (X.sy)])).put (some 17) (.agg #[.int .i64 (X.tx - X.sx), .int .i64 (X.ty - X.sy)])).put (some 18) (.pointer (some ⟨X.bs, 0, none⟩))).put (some 19) (.agg #[.int .i64 (X.fx), .int .i64 (X.fy)])).put (some 20) (.pointer (some ⟨X.bs, 4, none⟩))).put (some 21) (.agg #[.int .i64 (X.sx), .int .i64 (X.sy)])).put (some 22) (.agg #[.int .i64 (X.fx - X.sx), .int .i64 (X.fy - X.sy)])).put (some 23) (γ 0)).put (some 24) (γ 1)) w') : (Code.region 1 (opsOf 1 Tryz.f90) true).wp Tryz.prog Q X.a0 w := by
 refine reg_act (acts := BND.acts) (av := BND.av) (val0 := X.val0) (Wd := X.Wd) (by kernel_rfl) (by kernel_rfl) (by rw [BND.size]; decide) (fun i hi => BND.steps X ok i hi) _ h0 ?_
 intro γ w' h
 exact end_at (hend γ w' h) (by kernel_rfl)
structure BV3 where
 px : Int
 py : Int
 ux : Int
 uy : Int
 vx : Int
 vy : Int
 bc : Nat
 bp : Nat
 br : Nat
 W : World
 a0 : Act
structure BV3Ok (X : BV3) : Prop where
 p0 : X.W.cell? ⟨X.bp, 0, none⟩ = some (.int .i64 (X.px))
 p1 : X.W.cell? ⟨X.bp, 1, none⟩ = some (.int .i64 (X.py))
 u0 : X.W.cell? ⟨X.bc, 4, none⟩ = some (.int .i64 (X.ux))
 u1 : X.W.cell? ⟨X.bc, 5, none⟩ = some (.int .i64 (X.uy))
 v0 : X.W.cell? ⟨X.bc, 10, none⟩ = some (.int .i64 (X.vx))
 v1 : X.W.cell? ⟨X.bc, 11, none⟩ = some (.int .i64 (X.vy))
 w0 : wid X.px
 w1 : wid X.py
 w2 : wid X.ux
 w3 : wid X.uy
 w4 : wid X.vx
 w5 : wid X.vy
 z0 : X.W.cell? ⟨X.br, 0, none⟩ = some (.slice none 0 0)
 z1 : ∃ u, X.W.cell? ⟨X.br, 1, none⟩ = some (.bool u)
 zf : ∀ o, X.W.frozen? ⟨X.br, o, none⟩ = false
 e1 : X.a0.eval (.tmp 1) = .pointer (some ⟨X.bc, 0, none⟩)
 e2 : X.a0.eval (.tmp 2) = .pointer (some ⟨X.br, 0, none⟩)
 e3 : X.a0.eval (.tmp 3) = .pointer (some ⟨X.bp, 0, none⟩)
 sz : X.a0.tmps.size = 36
def BV3.val0 (X : BV3) : Nat → Value
 | 1 => .pointer (some ⟨X.bc, 0, none⟩)
 | 2 => .pointer (some ⟨X.br, 0, none⟩)
 | 3 => .pointer (some ⟨X.bp, 0, none⟩)
 | 10 => .agg #[.int .i64 (X.px), .int .i64 (X.py)]
 | 11 => .agg #[.int .i64 (X.px), .int .i64 (X.py)]
 | 12 => .pointer (some ⟨X.bc, 0, none⟩)
 | 13 => .pointer (some ⟨X.bc, 4, none⟩)
 | 14 => .agg #[.int .i64 (X.ux), .int .i64 (X.uy)]
 | 15 => .agg #[.int .i64 (X.px + X.ux), .int .i64 (X.py + X.uy)]
 | 16 => .agg #[.int .i64 (X.px), .int .i64 (X.py)]
 | 17 => .pointer (some ⟨X.bc, 6, none⟩)
 | 18 => .pointer (some ⟨X.bc, 10, none⟩)
 | 19 => .agg #[.int .i64 (X.vx), .int .i64 (X.vy)]
 | 20 => .agg #[.int .i64 (X.px + X.vx), .int .i64 (X.py + X.vy)]
 | _ => undef
def BV3.av : Nat → Option Nat
 | 21 => some 0
 | 22 => some 1
 | _ => none
def BV3.acts : List Nat := [11, 12, 13]
def BV3.Wd (X : BV3) : Nat → (Nat → Value) → World → Prop
  | 0, _, w => Kp X.W w
  | 1, γ, w => ∃ w1, Kp X.W w1 ∧ γ 0 = .slice (some ⟨w1.heap.size, 0, none⟩) 3 3 ∧ w = (w1.alloc (.cells #[.int .i64 (X.px), .int .i64 (X.py), .int .i64 (X.px + X.ux), .int .i64 (X.py + X.uy), .int .i64 (X.px + X.vx), .int .i64 (X.py + X.vy)] 34))
  | 2, γ, w => ∃ w1, Kp X.W w1 ∧ γ 1 = .agg #[.slice (some ⟨w1.heap.size, 0, none⟩) 3 3, .bool true] ∧ Kp (w1.alloc (.cells #[.int .i64 (X.px), .int .i64 (X.py), .int .i64 (X.px + X.ux), .int .i64 (X.py + X.uy), .int .i64 (X.px + X.vx), .int .i64 (X.py + X.vy)] 34)) w
  | _, γ, w => ∃ w1 w2, Kp X.W w1 ∧ Kp (w1.alloc (.cells #[.int .i64 (X.px), .int .i64 (X.py), .int .i64 (X.px + X.ux), .int .i64 (X.py + X.uy), .int .i64 (X.px + X.vx), .int .i64 (X.py + X.vy)] 34)) w2 ∧ w = (w2.setCell ⟨X.br, 0, none⟩ (.slice (some ⟨w1.heap.size, 0, none⟩) 3 3)).setCell ⟨X.br, 1, none⟩ (.bool true)
theorem BV3.chain : chainG (opsOf 3 Tryz.f92) BV3.acts = true := by kernel_rfl
theorem BV3.nodup : BV3.acts.Nodup := by decide
def BV3.L : List (Option Nat × Op × Option (Nat × Bool)) := [
 (some 10, .load 34 (.tmp 3), none),
 (some 11, .load 34 (.tmp 3), none),
 (some 12, .fieldAddr 128 (.tmp 1) 0, none),
 (some 13, .fieldAddr 112 (.tmp 12) 2, none),
 (some 14, .load 34 (.tmp 13), none),
 (some 15, .call { callee := .value (.func 83), args := #[(.tmp 11), (.tmp 14)], argTypes := #[34, 34] }, none),
 (some 16, .load 34 (.tmp 3), none),
 (some 17, .fieldAddr 128 (.tmp 1) 1, none),
 (some 18, .fieldAddr 112 (.tmp 17) 2, none),
 (some 19, .load 34 (.tmp 18), none),
 (some 20, .call { callee := .value (.func 83), args := #[(.tmp 16), (.tmp 19)], argTypes := #[34, 34] }, none),
 (some 21, .buildSlice 23 3 #[(0, (.tmp 10)), (1, (.tmp 15)), (2, (.tmp 20))], none),
 (some 22, .call { callee := .value (.func 106), args := #[(.tmp 21)], argTypes := #[23] }, none),
 (none, .store 25 (.tmp 2) (.tmp 22), none)]
theorem BV3.isL : (opsOf 3 Tryz.f92).toList.map tri = BV3.L := by kernel_rfl
theorem BV3.ini {X : BV3} (ok : BV3Ok X) : ∀ n ∈ [1, 2, 3], X.a0.eval (.tmp n) = X.val0 n := by
 simp only [List.forall_mem_cons]
 exact ⟨ok.e1, ok.e2, ok.e3, List.forall_mem_nil _⟩
abbrev BV3.St (X : BV3) (Q : PQ) (i : Nat) : Prop := StepG (opsOf 3 Tryz.f92) BV3.acts BV3.av X.val0 X.Wd X.a0 Q i
theorem BV3.plain (X : BV3) (ok : BV3Ok X) {Q : PQ} : ∀ i ∈ [2, 3, 7, 8], BV3.St X Q i := by
 simp only [List.forall_mem_cons]
 refine ⟨?_, ?_, ?_, ?_, List.forall_mem_nil _⟩
 all_goals
  refine st_plain BV3.isL (BV3.ini ok) ok.sz rfl (by kernel_rfl) ?_
  intro γ w n o hW hop
  unfold execOp
  rw [hop]
  simp [envR, valG, BV3.av, BV3.val0, go_sem]
theorem BV3.early (X : BV3) (ok : BV3Ok X) {Q : PQ} : ∀ i ∈ [0, 1, 4, 6, 9], BV3.St X Q i := by
 simp only [List.forall_mem_cons]
 refine ⟨?_, ?_, ?_, ?_, ?_, List.forall_mem_nil _⟩
 all_goals
  refine st_plainM (m := 0) BV3.isL (BV3.ini ok) ok.sz rfl (by kernel_rfl) ?_
  intro γ w n o hn hW hop
  obtain rfl : n = 0 := by omega
  have hk : Kp X.W w := hW
  have hc_p0 := rq_at hk ok.p0
  have hc_p1 := rq_at hk ok.p1
  have hc_u0 := rq_at hk ok.u0
  have hc_u1 := rq_at hk ok.u1
  have hc_v0 := rq_at hk ok.v0
  have hc_v1 := rq_at hk ok.v1
  unfold execOp
  rw [hop]
  simp [envR, valG, BV3.av, BV3.val0, hc_p0, hc_p1, hc_u0, hc_u1, hc_v0, hc_v1, go_sem]
theorem BV3.s11 (X : BV3) (ok : BV3Ok X) {Q : PQ} : BV3.St X Q 11 := by
 intro γ listed a w o hF hC hW h1 ho h2
 obtain ⟨hd, hop, hg⟩ := fieldsL BV3.isL (i := 11) rfl ho
 have e10 : a.eval (.tmp 10) = .agg #[.int .i64 (X.px), .int .i64 (X.py)] := known hF ho h2 (BV3.ini ok) ok.sz (by kernel_rfl)
 have e15 : a.eval (.tmp 15) = .agg #[.int .i64 (X.px + X.ux), .int .i64 (X.py + X.uy)] := known hF ho h2 (BV3.ini ok) ok.sz (by kernel_rfl)
 have e20 : a.eval (.tmp 20) = .agg #[.int .i64 (X.px + X.vx), .int .i64 (X.py + X.vy)] := known hF ho h2 (BV3.ini ok) ok.sz (by kernel_rfl)
 have hu := unl (hF.lt ho) h1
 refine st_actG (k := 0) BV3.chain BV3.nodup rfl hF hC hW h1 ho h2 (Or.inr ⟨21, hd, rfl⟩) (injG (by kernel_rfl) hu) hg ?_
 intro hW0 K hK
 have hr : (execOp a.eval o).run Tryz.prog w = .ok (.value (.slice (some ⟨w.heap.size, 0, none⟩) 3 3)) (w.alloc (.cells #[.int .i64 (X.px), .int .i64 (X.py), .int .i64 (X.px + X.ux), .int .i64 (X.py + X.uy), .int .i64 (X.px + X.vx), .int .i64 (X.py + X.vy)] 34)) := by
  generalize a.eval = ρ at e10 e15 e20 ⊢
  unfold execOp
  rw [hop]
  simp [e10, e15, e20, go_sem]
 unfold Oper.wp
 rw [hr]
 exact hK _ _ ⟨w, hW0, rfl, rfl⟩
theorem BV3.s12 (X : BV3) (ok : BV3Ok X) {Q : PQ} : BV3.St X Q 12 := by
 intro γ listed a w o hF hC hW h1 ho h2
 obtain ⟨hd, hop, hg⟩ := fieldsL BV3.isL (i := 12) rfl ho
 have e21 : a.eval (.tmp 21) = γ 0 := known hF ho h2 (BV3.ini ok) ok.sz (by kernel_rfl)
 have ef : a.eval (.func 106) = .func (.func 106) #[] #[] := rfl
 have hu := unl (hF.lt ho) h1
 refine st_actG (k := 1) BV3.chain BV3.nodup rfl hF hC hW h1 ho h2 (Or.inr ⟨22, hd, rfl⟩) (injG (by kernel_rfl) hu) hg ?_
 intro hW0 K hK
 obtain ⟨w1, k1, g0, rfl⟩ := hW0
 rw [g0] at e21
 have hr : (execOp a.eval o).run Tryz.prog (w1.alloc (.cells #[.int .i64 (X.px), .int .i64 (X.py), .int .i64 (X.px + X.ux), .int .i64 (X.py + X.uy), .int .i64 (X.px + X.vx), .int .i64 (X.py + X.vy)] 34)) = .ok (.enter 106 #[.slice (some ⟨w1.heap.size, 0, none⟩) 3 3]) (w1.alloc (.cells #[.int .i64 (X.px), .int .i64 (X.py), .int .i64 (X.px + X.ux), .int .i64 (X.py + X.uy), .int .i64 (X.px + X.vx), .int .i64 (X.py + X.vy)] 34)) := by
  generalize a.eval = ρ at e21 ef ⊢
  unfold execOp
  rw [hop]
  simp [e21, ef, go_sem]
 unfold Oper.wp
 rw [hr]
 refine Calls.mono (iring _ _ _ _) ?_
 rintro e w' ⟨rfl, h⟩
 exact hK _ _ ⟨w1, k1, rfl, h⟩
theorem BV3.s13 (X : BV3) (ok : BV3Ok X) {Q : PQ} : BV3.St X Q 13 := by
 intro γ listed a w o hF hC hW h1 ho h2
 obtain ⟨hd, hop, hg⟩ := fieldsL BV3.isL (i := 13) rfl ho
 have e2 : a.eval (.tmp 2) = .pointer (some ⟨X.br, 0, none⟩) := known hF ho h2 (BV3.ini ok) ok.sz (by kernel_rfl)
 have e22 : a.eval (.tmp 22) = γ 1 := known hF ho h2 (BV3.ini ok) ok.sz (by kernel_rfl)
 have hu := unl (hF.lt ho) h1
 refine st_actG (k := 2) BV3.chain BV3.nodup rfl hF hC hW h1 ho h2 (Or.inl hd) (injG (by kernel_rfl) hu) hg ?_
 intro hW0 K hK
 obtain ⟨w1, k1, g1, k2⟩ := hW0
 rw [g1] at e22
 have kk : Kp X.W w := Kp.trans k1 (Kp.trans ((Kp.refl w1).alloc _ _) k2)
 have z0 := rq_at kk ok.z0
 obtain ⟨u1, z1⟩ := ok.z1
 replace z1 := rq_at kk z1
 have zf : ∀ o, w.frozen? ⟨X.br, o, none⟩ = false := fun o => (kk.cells.2 _ _).trans (ok.zf o)
 have hr : (execOp a.eval o).run Tryz.prog w = .ok .skip ((w.setCell ⟨X.br, 0, none⟩ (.slice (some ⟨w1.heap.size, 0, none⟩) 3 3)).setCell ⟨X.br, 1, none⟩ (.bool true)) := by
  generalize a.eval = ρ at e2 e22 ⊢
  unfold execOp
  rw [hop]
  simp [e2, e22, z0, z1, zf, go_sem]
 unfold Oper.wp
 rw [hr]
 exact hK undef _ ⟨w1, w, k1, k2, rfl⟩
theorem BV3.size : (opsOf 3 Tryz.f92).size = 14 := by kernel_rfl
theorem BV3.rest (X : BV3) (ok : BV3Ok X) {Q : PQ} : ∀ i ∈ [5, 10, 11, 12, 13], BV3.St X Q i := by
 simp only [List.forall_mem_cons]
 exact ⟨st_callZ BV3.isL (BV3.ini ok) ok.sz rfl (by kernel_rfl) (fun _ _ => by simp [go_sem]) (fun γ w hW => ipls w _ _ _ _ ok.w0 ok.w1 ok.w2 ok.w3) (fun _ _ _ hW hk => Kp.trans hW hk),
  st_callZ BV3.isL (BV3.ini ok) ok.sz rfl (by kernel_rfl) (fun _ _ => by simp [go_sem]) (fun γ w hW => ipls w _ _ _ _ ok.w0 ok.w1 ok.w4 ok.w5) (fun _ _ _ hW hk => Kp.trans hW hk),
  BV3.s11 X ok,
  BV3.s12 X ok,
  BV3.s13 X ok, List.forall_mem_nil _⟩
theorem BV3.steps (X : BV3) (ok : BV3Ok X) {Q : PQ} (i : Nat) (hi : i < (opsOf 3 Tryz.f92).size) : BV3.St X Q i := by
 rw [BV3.size] at hi
 rcases (by decide : ∀ i, i < 14 → i ∈ [2, 3, 7, 8] ∨ i ∈ [0, 1, 4, 6, 9] ∨ i ∈ [5, 10, 11, 12, 13]) i hi with h | h | h
 · exact BV3.plain X ok i h
 · exact BV3.early X ok i h
 · exact BV3.rest X ok i h
theorem BV3.run (X : BV3) (ok : BV3Ok X) {Q : PQ} (w : World) (h0 : X.Wd 0 (fun _ => undef) w.drew) (hend : ∀ (γ : Nat → Value) w', X.Wd 3 γ w' → Q .normal (((((((((((((X.a0.put (some 10) (.agg #[.int .i64 (X.px), .int .i64 (X.py)])).put (some 11) (.agg #[.int .i64 (X.px), .int .i64 (X.py)])).put (some 12) (.pointer (some ⟨X.bc, 0, none⟩))).put (some 13) (.pointer (some ⟨X.bc, 4, none⟩))).put (some 14) (.agg #[.int .i64 (X.ux), .int .i64 (X.uy)])).put (some 15) (.agg #[.int .i64 (X.px + X.ux), .int .i64 (X.py + X.uy)])).put (some 16) (.agg #[.int .i64 (X.px), .int .i64 (X.py)])).put (some 17) (.pointer (some ⟨X.bc, 6, none⟩))).put (some 18) (.pointer (some ⟨X.bc, 10, none⟩))).put (some 19) (.agg #[.int .i64 (X.vx), .int .i64 (X.vy)])).put (some 20) (.agg #[.int .i64 (X.px + X.vx), .int .i64 (X.py + X.vy)])).put (some 21) (γ 0)).put (some 22) (γ 1)) w') : (Code.region 3 (opsOf 3 Tryz.f92) true).wp Tryz.prog Q X.a0 w := by
 refine reg_act (acts := BV3.acts) (av := BV3.av) (val0 := X.val0) (Wd := X.Wd) (by kernel_rfl) (by kernel_rfl) (by rw [BV3.size]; decide) (fun i hi => BV3.steps X ok i hi) _ h0 ?_
 intro γ w' h
 exact end_at (hend γ w' h) (by kernel_rfl)
structure BV4 where
 px : Int
 py : Int
 ux : Int
 uy : Int
 vx : Int
 vy : Int
 bc : Nat
 bp : Nat
 br : Nat
 W : World
 a0 : Act
structure BV4Ok (X : BV4) : Prop where
 p0 : X.W.cell? ⟨X.bp, 0, none⟩ = some (.int .i64 (X.px))
 p1 : X.W.cell? ⟨X.bp, 1, none⟩ = some (.int .i64 (X.py))
 u0 : X.W.cell? ⟨X.bc, 4, none⟩ = some (.int .i64 (X.ux))
 u1 : X.W.cell? ⟨X.bc, 5, none⟩ = some (.int .i64 (X.uy))
 v0 : X.W.cell? ⟨X.bc, 10, none⟩ = some (.int .i64 (X.vx))
 v1 : X.W.cell? ⟨X.bc, 11, none⟩ = some (.int .i64 (X.vy))
 w0 : wid X.px
 w1 : wid X.py
 w2 : wid X.ux
 w3 : wid X.uy
 w4 : wid X.vx
 w5 : wid X.vy
 z0 : X.W.cell? ⟨X.br, 0, none⟩ = some (.slice none 0 0)
 z1 : ∃ u, X.W.cell? ⟨X.br, 1, none⟩ = some (.bool u)
 zf : ∀ o, X.W.frozen? ⟨X.br, o, none⟩ = false
 e1 : X.a0.eval (.tmp 1) = .pointer (some ⟨X.bc, 0, none⟩)
 e2 : X.a0.eval (.tmp 2) = .pointer (some ⟨X.br, 0, none⟩)
 e3 : X.a0.eval (.tmp 3) = .pointer (some ⟨X.bp, 0, none⟩)
 sz : X.a0.tmps.size = 36
def BV4.val0 (X : BV4) : Nat → Value
 | 1 => .pointer (some ⟨X.bc, 0, none⟩)
 | 2 => .pointer (some ⟨X.br, 0, none⟩)
 | 3 => .pointer (some ⟨X.bp, 0, none⟩)
 | 23 => .agg #[.int .i64 (X.px), .int .i64 (X.py)]
 | 24 => .agg #[.int .i64 (X.px), .int .i64 (X.py)]
 | 25 => .pointer (some ⟨X.bc, 0, none⟩)
 | 26 => .pointer (some ⟨X.bc, 4, none⟩)
 | 27 => .agg #[.int .i64 (X.ux), .int .i64 (X.uy)]
 | 28 => .agg #[.int .i64 (X.px - X.ux), .int .i64 (X.py - X.uy)]
 | 29 => .agg #[.int .i64 (X.px), .int .i64 (X.py)]
 | 30 => .pointer (some ⟨X.bc, 6, none⟩)
 | 31 => .pointer (some ⟨X.bc, 10, none⟩)
 | 32 => .agg #[.int .i64 (X.vx), .int .i64 (X.vy)]
 | 33 => .agg #[.int .i64 (X.px - X.vx), .int .i64 (X.py - X.vy)]
 | _ => undef
def BV4.av : Nat → Option Nat
 | 34 => some 0
 | 35 => some 1
 | _ => none
def BV4.acts : List Nat := [11, 12, 13]
def BV4.Wd (X : BV4) : Nat → (Nat → Value) → World → Prop
  | 0, _, w => Kp X.W w
  | 1, γ, w => ∃ w1, Kp X.W w1 ∧ γ 0 = .slice (some ⟨w1.heap.size, 0, none⟩) 3 3 ∧ w = (w1.alloc (.cells #[.int .i64 (X.px), .int .i64 (X.py), .int .i64 (X.px - X.ux), .int .i64 (X.py - X.uy), .int .i64 (X.px - X.vx), .int .i64 (X.py - X.vy)] 34))
  | 2, γ, w => ∃ w1, Kp X.W w1 ∧ γ 1 = .agg #[.slice (some ⟨w1.heap.size, 0, none⟩) 3 3, .bool true] ∧ Kp (w1.alloc (.cells #[.int .i64 (X.px), .int .i64 (X.py), .int .i64 (X.px - X.ux), .int .i64 (X.py - X.uy), .int .i64 (X.px - X.vx), .int .i64 (X.py - X.vy)] 34)) w
  | _, γ, w => ∃ w1 w2, Kp X.W w1 ∧ Kp (w1.alloc (.cells #[.int .i64 (X.px), .int .i64 (X.py), .int .i64 (X.px - X.ux), .int .i64 (X.py - X.uy), .int .i64 (X.px - X.vx), .int .i64 (X.py - X.vy)] 34)) w2 ∧ w = (w2.setCell ⟨X.br, 0, none⟩ (.slice (some ⟨w1.heap.size, 0, none⟩) 3 3)).setCell ⟨X.br, 1, none⟩ (.bool true)
theorem BV4.chain : chainG (opsOf 4 Tryz.f92) BV4.acts = true := by kernel_rfl
theorem BV4.nodup : BV4.acts.Nodup := by decide
def BV4.L : List (Option Nat × Op × Option (Nat × Bool)) := [
 (some 23, .load 34 (.tmp 3), none),
 (some 24, .load 34 (.tmp 3), none),
 (some 25, .fieldAddr 128 (.tmp 1) 0, none),
 (some 26, .fieldAddr 112 (.tmp 25) 2, none),
 (some 27, .load 34 (.tmp 26), none),
 (some 28, .call { callee := .value (.func 76), args := #[(.tmp 24), (.tmp 27)], argTypes := #[34, 34] }, none),
 (some 29, .load 34 (.tmp 3), none),
 (some 30, .fieldAddr 128 (.tmp 1) 1, none),
 (some 31, .fieldAddr 112 (.tmp 30) 2, none),
 (some 32, .load 34 (.tmp 31), none),
 (some 33, .call { callee := .value (.func 76), args := #[(.tmp 29), (.tmp 32)], argTypes := #[34, 34] }, none),
 (some 34, .buildSlice 23 3 #[(0, (.tmp 23)), (1, (.tmp 28)), (2, (.tmp 33))], none),
 (some 35, .call { callee := .value (.func 106), args := #[(.tmp 34)], argTypes := #[23] }, none),
 (none, .store 25 (.tmp 2) (.tmp 35), none)]
theorem BV4.isL : (opsOf 4 Tryz.f92).toList.map tri = BV4.L := by kernel_rfl
theorem BV4.ini {X : BV4} (ok : BV4Ok X) : ∀ n ∈ [1, 2, 3], X.a0.eval (.tmp n) = X.val0 n := by
 simp only [List.forall_mem_cons]
 exact ⟨ok.e1, ok.e2, ok.e3, List.forall_mem_nil _⟩
abbrev BV4.St (X : BV4) (Q : PQ) (i : Nat) : Prop := StepG (opsOf 4 Tryz.f92) BV4.acts BV4.av X.val0 X.Wd X.a0 Q i
theorem BV4.plain (X : BV4) (ok : BV4Ok X) {Q : PQ} : ∀ i ∈ [2, 3, 7, 8], BV4.St X Q i := by
 simp only [List.forall_mem_cons]
 refine ⟨?_, ?_, ?_, ?_, List.forall_mem_nil _⟩
 all_goals
  refine st_plain BV4.isL (BV4.ini ok) ok.sz rfl (by kernel_rfl) ?_
  intro γ w n o hW hop
  unfold execOp
  rw [hop]
  simp [envR, valG, BV4.av, BV4.val0, go_sem]
theorem BV4.early (X : BV4) (ok : BV4Ok X) {Q : PQ} : ∀ i ∈ [0, 1, 4, 6, 9], BV4.St X Q i := by
 simp only [List.forall_mem_cons]
 refine ⟨?_, ?_, ?_, ?_, ?_, List.forall_mem_nil _⟩
 all_goals
  refine st_plainM (m := 0) BV4.isL (BV4.ini ok) ok.sz rfl (by kernel_rfl) ?_
  intro γ w n o hn hW hop
  obtain rfl : n = 0 := by omega
  have hk : Kp X.W w := hW
  have hc_p0 := rq_at hk ok.p0
  have hc_p1 := rq_at hk ok.p1
  have hc_u0 := rq_at hk ok.u0
  have hc_u1 := rq_at hk ok.u1
  have hc_v0 := rq_at hk ok.v0
  have hc_v1 := rq_at hk ok.v1
  unfold execOp
  rw [hop]
  simp [envR, valG, BV4.av, BV4.val0, hc_p0, hc_p1, hc_u0, hc_u1, hc_v0, hc_v1, go_sem]
theorem BV4.s11 (X : BV4) (ok : BV4Ok X) {Q : PQ} : BV4.St X Q 11 := by
 intro γ listed a w o hF hC hW h1 ho h2
 obtain ⟨hd, hop, hg⟩ := fieldsL BV4.isL (i := 11) rfl ho
 have e23 : a.eval (.tmp 23) = .agg #[.int .i64 (X.px), .int .i64 (X.py)] := known hF ho h2 (BV4.ini ok) ok.sz (by kernel_rfl)
 have e28 : a.eval (.tmp 28) = .agg #[.int .i64 (X.px - X.ux), .int .i64 (X.py - X.uy)] := known hF ho h2 (BV4.ini ok) ok.sz (by kernel_rfl)
 have e33 : a.eval (.tmp 33) = .agg #[.int .i64 (X.px - X.vx), .int .i64 (X.py - X.vy)] := known hF ho h2 (BV4.ini ok) ok.sz (by kernel_rfl)
 have hu := unl (hF.lt ho) h1
 refine st_actG (k := 0) BV4.chain BV4.nodup rfl hF hC hW h1 ho h2 (Or.inr ⟨34, hd, rfl⟩) (injG (by kernel_rfl) hu) hg ?_
 intro hW0 K hK
 have hr : (execOp a.eval o).run Tryz.prog w = .ok (.value (.slice (some ⟨w.heap.size, 0, none⟩) 3 3)) (w.alloc (.cells #[.int .i64 (X.px), .int .i64 (X.py), .int .i64 (X.px - X.ux), .int .i64 (X.py - X.uy), .int .i64 (X.px - X.vx), .int .i64 (X.py - X.vy)] 34)) := by
  generalize a.eval = ρ at e23 e28 e33 ⊢
  unfold execOp
  rw [hop]
  simp [e23, e28, e33, go_sem]
 unfold Oper.wp
 rw [hr]
 exact hK _ _ ⟨w, hW0, rfl, rfl⟩
theorem BV4.s12 (X : BV4) (ok : BV4Ok X) {Q : PQ} : BV4.St X Q 12 := by
 intro γ listed a w o hF hC hW h1 ho h2
 obtain ⟨hd, hop, hg⟩ := fieldsL BV4.isL (i := 12) rfl ho
 have e34 : a.eval (.tmp 34) = γ 0 := known hF ho h2 (BV4.ini ok) ok.sz (by kernel_rfl)
 have ef : a.eval (.func 106) = .func (.func 106) #[] #[] := rfl
 have hu := unl (hF.lt ho) h1
 refine st_actG (k := 1) BV4.chain BV4.nodup rfl hF hC hW h1 ho h2 (Or.inr ⟨35, hd, rfl⟩) (injG (by kernel_rfl) hu) hg ?_
 intro hW0 K hK
 obtain ⟨w1, k1, g0, rfl⟩ := hW0
 rw [g0] at e34
 have hr : (execOp a.eval o).run Tryz.prog (w1.alloc (.cells #[.int .i64 (X.px), .int .i64 (X.py), .int .i64 (X.px - X.ux), .int .i64 (X.py - X.uy), .int .i64 (X.px - X.vx), .int .i64 (X.py - X.vy)] 34)) = .ok (.enter 106 #[.slice (some ⟨w1.heap.size, 0, none⟩) 3 3]) (w1.alloc (.cells #[.int .i64 (X.px), .int .i64 (X.py), .int .i64 (X.px - X.ux), .int .i64 (X.py - X.uy), .int .i64 (X.px - X.vx), .int .i64 (X.py - X.vy)] 34)) := by
  generalize a.eval = ρ at e34 ef ⊢
  unfold execOp
  rw [hop]
  simp [e34, ef, go_sem]
 unfold Oper.wp
 rw [hr]
 refine Calls.mono (iring _ _ _ _) ?_
 rintro e w' ⟨rfl, h⟩
 exact hK _ _ ⟨w1, k1, rfl, h⟩
theorem BV4.s13 (X : BV4) (ok : BV4Ok X) {Q : PQ} : BV4.St X Q 13 := by
 intro γ listed a w o hF hC hW h1 ho h2
 obtain ⟨hd, hop, hg⟩ := fieldsL BV4.isL (i := 13) rfl ho
 have e2 : a.eval (.tmp 2) = .pointer (some ⟨X.br, 0, none⟩) := known hF ho h2 (BV4.ini ok) ok.sz (by kernel_rfl)
 have e35 : a.eval (.tmp 35) = γ 1 := known hF ho h2 (BV4.ini ok) ok.sz (by kernel_rfl)
 have hu := unl (hF.lt ho) h1
 refine st_actG (k := 2) BV4.chain BV4.nodup rfl hF hC hW h1 ho h2 (Or.inl hd) (injG (by kernel_rfl) hu) hg ?_
 intro hW0 K hK
 obtain ⟨w1, k1, g1, k2⟩ := hW0
 rw [g1] at e35
 have kk : Kp X.W w := Kp.trans k1 (Kp.trans ((Kp.refl w1).alloc _ _) k2)
 have z0 := rq_at kk ok.z0
 obtain ⟨u1, z1⟩ := ok.z1
 replace z1 := rq_at kk z1
 have zf : ∀ o, w.frozen? ⟨X.br, o, none⟩ = false := fun o => (kk.cells.2 _ _).trans (ok.zf o)
 have hr : (execOp a.eval o).run Tryz.prog w = .ok .skip ((w.setCell ⟨X.br, 0, none⟩ (.slice (some ⟨w1.heap.size, 0, none⟩) 3 3)).setCell ⟨X.br, 1, none⟩ (.bool true)) := by
  generalize a.eval = ρ at e2 e35 ⊢
  unfold execOp
  rw [hop]
  simp [e2, e35, z0, z1, zf, go_sem]
 unfold Oper.wp
 rw [hr]
 exact hK undef _ ⟨w1, w, k1, k2, rfl⟩
theorem BV4.size : (opsOf 4 Tryz.f92).size = 14 := by kernel_rfl
theorem BV4.rest (X : BV4) (ok : BV4Ok X) {Q : PQ} : ∀ i ∈ [5, 10, 11, 12, 13], BV4.St X Q i := by
 simp only [List.forall_mem_cons]
 exact ⟨st_callZ BV4.isL (BV4.ini ok) ok.sz rfl (by kernel_rfl) (fun _ _ => by simp [go_sem]) (fun γ w hW => imin2 w _ _ _ _ ok.w0 ok.w1 ok.w2 ok.w3) (fun _ _ _ hW hk => Kp.trans hW hk),
  st_callZ BV4.isL (BV4.ini ok) ok.sz rfl (by kernel_rfl) (fun _ _ => by simp [go_sem]) (fun γ w hW => imin2 w _ _ _ _ ok.w0 ok.w1 ok.w4 ok.w5) (fun _ _ _ hW hk => Kp.trans hW hk),
  BV4.s11 X ok,
  BV4.s12 X ok,
  BV4.s13 X ok, List.forall_mem_nil _⟩
theorem BV4.steps (X : BV4) (ok : BV4Ok X) {Q : PQ} (i : Nat) (hi : i < (opsOf 4 Tryz.f92).size) : BV4.St X Q i := by
 rw [BV4.size] at hi
 rcases (by decide : ∀ i, i < 14 → i ∈ [2, 3, 7, 8] ∨ i ∈ [0, 1, 4, 6, 9] ∨ i ∈ [5, 10, 11, 12, 13]) i hi with h | h | h
 · exact BV4.plain X ok i h
 · exact BV4.early X ok i h
 · exact BV4.rest X ok i h
theorem BV4.run (X : BV4) (ok : BV4Ok X) {Q : PQ} (w : World) (h0 : X.Wd 0 (fun _ => undef) w.drew) (hend : ∀ (γ : Nat → Value) w', X.Wd 3 γ w' → Q .normal (((((((((((((X.a0.put (some 23) (.agg #[.int .i64 (X.px), .int .i64 (X.py)])).put (some 24) (.agg #[.int .i64 (X.px), .int .i64 (X.py)])).put (some 25) (.pointer (some ⟨X.bc, 0, none⟩))).put (some 26) (.pointer (some ⟨X.bc, 4, none⟩))).put (some 27) (.agg #[.int .i64 (X.ux), .int .i64 (X.uy)])).put (some 28) (.agg #[.int .i64 (X.px - X.ux), .int .i64 (X.py - X.uy)])).put (some 29) (.agg #[.int .i64 (X.px), .int .i64 (X.py)])).put (some 30) (.pointer (some ⟨X.bc, 6, none⟩))).put (some 31) (.pointer (some ⟨X.bc, 10, none⟩))).put (some 32) (.agg #[.int .i64 (X.vx), .int .i64 (X.vy)])).put (some 33) (.agg #[.int .i64 (X.px - X.vx), .int .i64 (X.py - X.vy)])).put (some 34) (γ 0)).put (some 35) (γ 1)) w') : (Code.region 4 (opsOf 4 Tryz.f92) true).wp Tryz.prog Q X.a0 w := by
 refine reg_act (acts := BV4.acts) (av := BV4.av) (val0 := X.val0) (Wd := X.Wd) (by kernel_rfl) (by kernel_rfl) (by rw [BV4.size]; decide) (fun i hi => BV4.steps X ok i hi) _ h0 ?_
 intro γ w' h
 exact end_at (hend γ w' h) (by kernel_rfl)
structure JN8 where
 px : Int
 py : Int
 ux : Int
 uy : Int
 vx : Int
 vy : Int
 bp : Nat
 bu : Nat
 bv : Nat
 br : Nat
 W : World
 a0 : Act
structure JN8Ok (X : JN8) : Prop where
 p0 : X.W.cell? ⟨X.bp, 0, none⟩ = some (.int .i64 (X.px))
 p1 : X.W.cell? ⟨X.bp, 1, none⟩ = some (.int .i64 (X.py))
 u0 : X.W.cell? ⟨X.bu, 0, none⟩ = some (.int .i64 (X.ux))
 u1 : X.W.cell? ⟨X.bu, 1, none⟩ = some (.int .i64 (X.uy))
 v0 : X.W.cell? ⟨X.bv, 0, none⟩ = some (.int .i64 (X.vx))
 v1 : X.W.cell? ⟨X.bv, 1, none⟩ = some (.int .i64 (X.vy))
 w0 : wid X.px
 w1 : wid X.py
 w2 : wid X.ux
 w3 : wid X.uy
 w4 : wid X.vx
 w5 : wid X.vy
 z0 : X.W.cell? ⟨X.br, 0, none⟩ = some (.slice none 0 0)
 z1 : ∃ u, X.W.cell? ⟨X.br, 1, none⟩ = some (.bool u)
 zf : ∀ o, X.W.frozen? ⟨X.br, o, none⟩ = false
 e6 : X.a0.eval (.tmp 6) = .pointer (some ⟨X.bp, 0, none⟩)
 e10 : X.a0.eval (.tmp 10) = .pointer (some ⟨X.br, 0, none⟩)
 e11 : X.a0.eval (.tmp 11) = .pointer (some ⟨X.bu, 0, none⟩)
 e12 : X.a0.eval (.tmp 12) = .pointer (some ⟨X.bv, 0, none⟩)
 sz : X.a0.tmps.size = 64
def JN8.val0 (X : JN8) : Nat → Value
 | 6 => .pointer (some ⟨X.bp, 0, none⟩)
 | 10 => .pointer (some ⟨X.br, 0, none⟩)
 | 11 => .pointer (some ⟨X.bu, 0, none⟩)
 | 12 => .pointer (some ⟨X.bv, 0, none⟩)
 | 46 => .agg #[.int .i64 (X.px), .int .i64 (X.py)]
 | 47 => .agg #[.int .i64 (X.px), .int .i64 (X.py)]
 | 48 => .agg #[.int .i64 (X.ux), .int .i64 (X.uy)]
 | 49 => .agg #[.int .i64 (X.px + X.ux), .int .i64 (X.py + X.uy)]
 | 50 => .agg #[.int .i64 (X.px), .int .i64 (X.py)]
 | 51 => .agg #[.int .i64 (X.vx), .int .i64 (X.vy)]
 | 52 => .agg #[.int .i64 (X.px + X.vx), .int .i64 (X.py + X.vy)]
 | _ => undef
def JN8.av : Nat → Option Nat
 | 53 => some 0
 | 54 => some 1
 | _ => none
def JN8.acts : List Nat := [7, 8, 9]
def JN8.Wd (X : JN8) : Nat → (Nat → Value) → World → Prop
  | 0, _, w => Kp X.W w
  | 1, γ, w => ∃ w1, Kp X.W w1 ∧ γ 0 = .slice (some ⟨w1.heap.size, 0, none⟩) 3 3 ∧ w = (w1.alloc (.cells #[.int .i64 (X.px), .int .i64 (X.py), .int .i64 (X.px + X.ux), .int .i64 (X.py + X.uy), .int .i64 (X.px + X.vx), .int .i64 (X.py + X.vy)] 34))
  | 2, γ, w => ∃ w1, Kp X.W w1 ∧ γ 1 = .agg #[.slice (some ⟨w1.heap.size, 0, none⟩) 3 3, .bool true] ∧ Kp (w1.alloc (.cells #[.int .i64 (X.px), .int .i64 (X.py), .int .i64 (X.px + X.ux), .int .i64 (X.py + X.uy), .int .i64 (X.px + X.vx), .int .i64 (X.py + X.vy)] 34)) w
  | _, γ, w => ∃ w1 w2, Kp X.W w1 ∧ Kp (w1.alloc (.cells #[.int .i64 (X.px), .int .i64 (X.py), .int .i64 (X.px + X.ux), .int .i64 (X.py + X.uy), .int .i64 (X.px + X.vx), .int .i64 (X.py + X.vy)] 34)) w2 ∧ w = (w2.setCell ⟨X.br, 0, none⟩ (.slice (some ⟨w1.heap.size, 0, none⟩) 3 3)).setCell ⟨X.br, 1, none⟩ (.bool true)
theorem JN8.chain : chainG (opsOf 8 Tryz.f100) JN8.acts = true := by kernel_rfl
theorem JN8.nodup : JN8.acts.Nodup := by decide
def JN8.L : List (Option Nat × Op × Option (Nat × Bool)) := [
 (some 46, .load 34 (.tmp 6), none),
 (some 47, .load 34 (.tmp 6), none),
 (some 48, .load 34 (.tmp 11), none),
 (some 49, .call { callee := .value (.func 98), args := #[(.tmp 47), (.tmp 48)], argTypes := #[34, 34] }, none),
 (some 50, .load 34 (.tmp 6), none),
 (some 51, .load 34 (.tmp 12), none),
 (some 52, .call { callee := .value (.func 98), args := #[(.tmp 50), (.tmp 51)], argTypes := #[34, 34] }, none),
 (some 53, .buildSlice 23 3 #[(0, (.tmp 46)), (1, (.tmp 49)), (2, (.tmp 52))], none),
 (some 54, .call { callee := .value (.func 97), args := #[(.tmp 53)], argTypes := #[23] }, none),
 (none, .store 25 (.tmp 10) (.tmp 54), none)]
theorem JN8.isL : (opsOf 8 Tryz.f100).toList.map tri = JN8.L := by kernel_rfl
theorem JN8.ini {X : JN8} (ok : JN8Ok X) : ∀ n ∈ [6, 10, 11, 12], X.a0.eval (.tmp n) = X.val0 n := by
 simp only [List.forall_mem_cons]
 exact ⟨ok.e6, ok.e10, ok.e11, ok.e12, List.forall_mem_nil _⟩
abbrev JN8.St (X : JN8) (Q : PQ) (i : Nat) : Prop := StepG (opsOf 8 Tryz.f100) JN8.acts JN8.av X.val0 X.Wd X.a0 Q i
theorem JN8.early (X : JN8) (ok : JN8Ok X) {Q : PQ} : ∀ i ∈ [0, 1, 2, 4, 5], JN8.St X Q i := by
 simp only [List.forall_mem_cons]
 refine ⟨?_, ?_, ?_, ?_, ?_, List.forall_mem_nil _⟩
 all_goals
  refine st_plainM (m := 0) JN8.isL (JN8.ini ok) ok.sz rfl (by kernel_rfl) ?_
  intro γ w n o hn hW hop
  obtain rfl : n = 0 := by omega
  have hk : Kp X.W w := hW
  have hc_p0 := rq_at hk ok.p0
  have hc_p1 := rq_at hk ok.p1
  have hc_u0 := rq_at hk ok.u0
  have hc_u1 := rq_at hk ok.u1
  have hc_v0 := rq_at hk ok.v0
  have hc_v1 := rq_at hk ok.v1
  unfold execOp
  rw [hop]
  simp [envR, valG, JN8.av, JN8.val0, hc_p0, hc_p1, hc_u0, hc_u1, hc_v0, hc_v1, go_sem]
theorem JN8.s7 (X : JN8) (ok : JN8Ok X) {Q : PQ} : JN8.St X Q 7 := by
 intro γ listed a w o hF hC hW h1 ho h2
 obtain ⟨hd, hop, hg⟩ := fieldsL JN8.isL (i := 7) rfl ho
 have e46 : a.eval (.tmp 46) = .agg #[.int .i64 (X.px), .int .i64 (X.py)] := known hF ho h2 (JN8.ini ok) ok.sz (by kernel_rfl)
 have e49 : a.eval (.tmp 49) = .agg #[.int .i64 (X.px + X.ux), .int .i64 (X.py + X.uy)] := known hF ho h2 (JN8.ini ok) ok.sz (by kernel_rfl)
 have e52 : a.eval (.tmp 52) = .agg #[.int .i64 (X.px + X.vx), .int .i64 (X.py + X.vy)] := known hF ho h2 (JN8.ini ok) ok.sz (by kernel_rfl)
 have hu := unl (hF.lt ho) h1
 refine st_actG (k := 0) JN8.chain JN8.nodup rfl hF hC hW h1 ho h2 (Or.inr ⟨53, hd, rfl⟩) (injG (by kernel_rfl) hu) hg ?_
 intro hW0 K hK
 have hr : (execOp a.eval o).run Tryz.prog w = .ok (.value (.slice (some ⟨w.heap.size, 0, none⟩) 3 3)) (w.alloc (.cells #[.int .i64 (X.px), .int .i64 (X.py), .int .i64 (X.px + X.ux), .int .i64 (X.py + X.uy), .int .i64 (X.px + X.vx), .int .i64 (X.py + X.vy)] 34)) := by
  generalize a.eval = ρ at e46 e49 e52 ⊢
  unfold execOp
  rw [hop]
  simp [e46, e49, e52, go_sem]
 unfold Oper.wp
 rw [hr]
 exact hK _ _ ⟨w, hW0, rfl, rfl⟩
theorem JN8.s8 (X : JN8) (ok : JN8Ok X) {Q : PQ} : JN8.St X Q 8 := by
 intro γ listed a w o hF hC hW h1 ho h2
 obtain ⟨hd, hop, hg⟩ := fieldsL JN8.isL (i := 8) rfl ho
 have e53 : a.eval (.tmp 53) = γ 0 := known hF ho h2 (JN8.ini ok) ok.sz (by kernel_rfl)
 have ef : a.eval (.func 97) = .func (.func 97) #[] #[] := rfl
 have hu := unl (hF.lt ho) h1
 refine st_actG (k := 1) JN8.chain JN8.nodup rfl hF hC hW h1 ho h2 (Or.inr ⟨54, hd, rfl⟩) (injG (by kernel_rfl) hu) hg ?_
 intro hW0 K hK
 obtain ⟨w1, k1, g0, rfl⟩ := hW0
 rw [g0] at e53
 have hr : (execOp a.eval o).run Tryz.prog (w1.alloc (.cells #[.int .i64 (X.px), .int .i64 (X.py), .int .i64 (X.px + X.ux), .int .i64 (X.py + X.uy), .int .i64 (X.px + X.vx), .int .i64 (X.py + X.vy)] 34)) = .ok (.enter 97 #[.slice (some ⟨w1.heap.size, 0, none⟩) 3 3]) (w1.alloc (.cells #[.int .i64 (X.px), .int .i64 (X.py), .int .i64 (X.px + X.ux), .int .i64 (X.py + X.uy), .int .i64 (X.px + X.vx), .int .i64 (X.py + X.vy)] 34)) := by
  generalize a.eval = ρ at e53 ef ⊢
  unfold execOp
  rw [hop]
  simp [e53, ef, go_sem]
 unfold Oper.wp
 rw [hr]
 refine Calls.mono (sclosed _ _ _ _) ?_
 rintro e w' ⟨rfl, h⟩
 exact hK _ _ ⟨w1, k1, rfl, h⟩
theorem JN8.s9 (X : JN8) (ok : JN8Ok X) {Q : PQ} : JN8.St X Q 9 := by
 intro γ listed a w o hF hC hW h1 ho h2
 obtain ⟨hd, hop, hg⟩ := fieldsL JN8.isL (i := 9) rfl ho
 have e10 : a.eval (.tmp 10) = .pointer (some ⟨X.br, 0, none⟩) := known hF ho h2 (JN8.ini ok) ok.sz (by kernel_rfl)
 have e54 : a.eval (.tmp 54) = γ 1 := known hF ho h2 (JN8.ini ok) ok.sz (by kernel_rfl)
 have hu := unl (hF.lt ho) h1
 refine st_actG (k := 2) JN8.chain JN8.nodup rfl hF hC hW h1 ho h2 (Or.inl hd) (injG (by kernel_rfl) hu) hg ?_
 intro hW0 K hK
 obtain ⟨w1, k1, g1, k2⟩ := hW0
 rw [g1] at e54
 have kk : Kp X.W w := Kp.trans k1 (Kp.trans ((Kp.refl w1).alloc _ _) k2)
 have z0 := rq_at kk ok.z0
 obtain ⟨u1, z1⟩ := ok.z1
 replace z1 := rq_at kk z1
 have zf : ∀ o, w.frozen? ⟨X.br, o, none⟩ = false := fun o => (kk.cells.2 _ _).trans (ok.zf o)
 have hr : (execOp a.eval o).run Tryz.prog w = .ok .skip ((w.setCell ⟨X.br, 0, none⟩ (.slice (some ⟨w1.heap.size, 0, none⟩) 3 3)).setCell ⟨X.br, 1, none⟩ (.bool true)) := by
  generalize a.eval = ρ at e10 e54 ⊢
  unfold execOp
  rw [hop]
  simp [e10, e54, z0, z1, zf, go_sem]
 unfold Oper.wp
 rw [hr]
 exact hK undef _ ⟨w1, w, k1, k2, rfl⟩
theorem JN8.size : (opsOf 8 Tryz.f100).size = 10 := by kernel_rfl
theorem JN8.rest (X : JN8) (ok : JN8Ok X) {Q : PQ} : ∀ i ∈ [3, 6, 7, 8, 9], JN8.St X Q i := by
 simp only [List.forall_mem_cons]
 exact ⟨st_callZ JN8.isL (JN8.ini ok) ok.sz rfl (by kernel_rfl) (fun _ _ => by simp [go_sem]) (fun γ w hW => splus w _ _ _ _ ok.w0 ok.w1 ok.w2 ok.w3) (fun _ _ _ hW hk => Kp.trans hW hk),
  st_callZ JN8.isL (JN8.ini ok) ok.sz rfl (by kernel_rfl) (fun _ _ => by simp [go_sem]) (fun γ w hW => splus w _ _ _ _ ok.w0 ok.w1 ok.w4 ok.w5) (fun _ _ _ hW hk => Kp.trans hW hk),
  JN8.s7 X ok,
  JN8.s8 X ok,
  JN8.s9 X ok, List.forall_mem_nil _⟩
theorem JN8.steps (X : JN8) (ok : JN8Ok X) {Q : PQ} (i : Nat) (hi : i < (opsOf 8 Tryz.f100).size) : JN8.St X Q i := by
 rw [JN8.size] at hi
 rcases (by decide : ∀ i, i < 10 → i ∈ [0, 1, 2, 4, 5] ∨ i ∈ [3, 6, 7, 8, 9]) i hi with h | h
 · exact JN8.early X ok i h
 · exact JN8.rest X ok i h
theorem JN8.run (X : JN8) (ok : JN8Ok X) {Q : PQ} (w : World) (h0 : X.Wd 0 (fun _ => undef) w.drew) (hend : ∀ (γ : Nat → Value) w', X.Wd 3 γ w' → Q .normal (((((((((X.a0.put (some 46) (.agg #[.int .i64 (X.px), .int .i64 (X.py)])).put (some 47) (.agg #[.int .i64 (X.px), .int .i64 (X.py)])).put (some 48) (.agg #[.int .i64 (X.ux), .int .i64 (X.uy)])).put (some 49) (.agg #[.int .i64 (X.px + X.ux), .int .i64 (X.py + X.uy)])).put (some 50) (.agg #[.int .i64 (X.px), .int .i64 (X.py)])).put (some 51) (.agg #[.int .i64 (X.vx), .int .i64 (X.vy)])).put (some 52) (.agg #[.int .i64 (X.px + X.vx), .int .i64 (X.py + X.vy)])).put (some 53) (γ 0)).put (some 54) (γ 1)) w') : (Code.region 8 (opsOf 8 Tryz.f100) true).wp Tryz.prog Q X.a0 w := by
 refine reg_act (acts := JN8.acts) (av := JN8.av) (val0 := X.val0) (Wd := X.Wd) (by kernel_rfl) (by kernel_rfl) (by rw [JN8.size]; decide) (fun i hi => JN8.steps X ok i hi) _ h0 ?_
 intro γ w' h
 exact end_at (hend γ w' h) (by kernel_rfl)
structure JN9 where
 px : Int
 py : Int
 ux : Int
 uy : Int
 vx : Int
 vy : Int
 bp : Nat
 bu : Nat
 bv : Nat
 br : Nat
 W : World
 a0 : Act
structure JN9Ok (X : JN9) : Prop where
 p0 : X.W.cell? ⟨X.bp, 0, none⟩ = some (.int .i64 (X.px))
 p1 : X.W.cell? ⟨X.bp, 1, none⟩ = some (.int .i64 (X.py))
 u0 : X.W.cell? ⟨X.bu, 0, none⟩ = some (.int .i64 (X.ux))
 u1 : X.W.cell? ⟨X.bu, 1, none⟩ = some (.int .i64 (X.uy))
 v0 : X.W.cell? ⟨X.bv, 0, none⟩ = some (.int .i64 (X.vx))
 v1 : X.W.cell? ⟨X.bv, 1, none⟩ = some (.int .i64 (X.vy))
 w0 : wid X.px
 w1 : wid X.py
 w2 : wid X.ux
 w3 : wid X.uy
 w4 : wid X.vx
 w5 : wid X.vy
 z0 : X.W.cell? ⟨X.br, 0, none⟩ = some (.slice none 0 0)
 z1 : ∃ u, X.W.cell? ⟨X.br, 1, none⟩ = some (.bool u)
 zf : ∀ o, X.W.frozen? ⟨X.br, o, none⟩ = false
 e6 : X.a0.eval (.tmp 6) = .pointer (some ⟨X.bp, 0, none⟩)
 e10 : X.a0.eval (.tmp 10) = .pointer (some ⟨X.br, 0, none⟩)
 e11 : X.a0.eval (.tmp 11) = .pointer (some ⟨X.bu, 0, none⟩)
 e12 : X.a0.eval (.tmp 12) = .pointer (some ⟨X.bv, 0, none⟩)
 sz : X.a0.tmps.size = 64
def JN9.val0 (X : JN9) : Nat → Value
 | 6 => .pointer (some ⟨X.bp, 0, none⟩)
 | 10 => .pointer (some ⟨X.br, 0, none⟩)
 | 11 => .pointer (some ⟨X.bu, 0, none⟩)
 | 12 => .pointer (some ⟨X.bv, 0, none⟩)
 | 55 => .agg #[.int .i64 (X.px), .int .i64 (X.py)]
 | 56 => .agg #[.int .i64 (X.px), .int .i64 (X.py)]
 | 57 => .agg #[.int .i64 (X.ux), .int .i64 (X.uy)]
 | 58 => .agg #[.int .i64 (X.px - X.ux), .int .i64 (X.py - X.uy)]
 | 59 => .agg #[.int .i64 (X.px), .int .i64 (X.py)]
 | 60 => .agg #[.int .i64 (X.vx), .int .i64 (X.vy)]
 | 61 => .agg #[.int .i64 (X.px - X.vx), .int .i64 (X.py - X.vy)]
 | _ => undef
def JN9.av : Nat → Option Nat
 | 62 => some 0
 | 63 => some 1
 | _ => none
def JN9.acts : List Nat := [7, 8, 9]
def JN9.Wd (X : JN9) : Nat → (Nat → Value) → World → Prop
  | 0, _, w => Kp X.W w
  | 1, γ, w => ∃ w1, Kp X.W w1 ∧ γ 0 = .slice (some ⟨w1.heap.size, 0, none⟩) 3 3 ∧ w = (w1.alloc (.cells #[.int .i64 (X.px), .int .i64 (X.py), .int .i64 (X.px - X.ux), .int .i64 (X.py - X.uy), .int .i64 (X.px - X.vx), .int .i64 (X.py - X.vy)] 34))
  | 2, γ, w => ∃ w1, Kp X.W w1 ∧ γ 1 = .agg #[.slice (some ⟨w1.heap.size, 0, none⟩) 3 3, .bool true] ∧ Kp (w1.alloc (.cells #[.int .i64 (X.px), .int .i64 (X.py), .int .i64 (X.px - X.ux), .int .i64 (X.py - X.uy), .int .i64 (X.px - X.vx), .int .i64 (X.py - X.vy)] 34)) w
  | _, γ, w => ∃ w1 w2, Kp X.W w1 ∧ Kp (w1.alloc (.cells #[.int .i64 (X.px), .int .i64 (X.py), .int .i64 (X.px - X.ux), .int .i64 (X.py - X.uy), .int .i64 (X.px - X.vx), .int .i64 (X.py - X.vy)] 34)) w2 ∧ w = (w2.setCell ⟨X.br, 0, none⟩ (.slice (some ⟨w1.heap.size, 0, none⟩) 3 3)).setCell ⟨X.br, 1, none⟩ (.bool true)
theorem JN9.chain : chainG (opsOf 9 Tryz.f100) JN9.acts = true := by kernel_rfl
theorem JN9.nodup : JN9.acts.Nodup := by decide
def JN9.L : List (Option Nat × Op × Option (Nat × Bool)) := [
 (some 55, .load 34 (.tmp 6), none),
 (some 56, .load 34 (.tmp 6), none),
 (some 57, .load 34 (.tmp 11), none),
 (some 58, .call { callee := .value (.func 99), args := #[(.tmp 56), (.tmp 57)], argTypes := #[34, 34] }, none),
 (some 59, .load 34 (.tmp 6), none),
 (some 60, .load 34 (.tmp 12), none),
 (some 61, .call { callee := .value (.func 99), args := #[(.tmp 59), (.tmp 60)], argTypes := #[34, 34] }, none),
 (some 62, .buildSlice 23 3 #[(0, (.tmp 55)), (1, (.tmp 58)), (2, (.tmp 61))], none),
 (some 63, .call { callee := .value (.func 97), args := #[(.tmp 62)], argTypes := #[23] }, none),
 (none, .store 25 (.tmp 10) (.tmp 63), none)]
theorem JN9.isL : (opsOf 9 Tryz.f100).toList.map tri = JN9.L := by kernel_rfl
theorem JN9.ini {X : JN9} (ok : JN9Ok X) : ∀ n ∈ [6, 10, 11, 12], X.a0.eval (.tmp n) = X.val0 n := by
 simp only [List.forall_mem_cons]
 exact ⟨ok.e6, ok.e10, ok.e11, ok.e12, List.forall_mem_nil _⟩
abbrev JN9.St (X : JN9) (Q : PQ) (i : Nat) : Prop := StepG (opsOf 9 Tryz.f100) JN9.acts JN9.av X.val0 X.Wd X.a0 Q i
theorem JN9.early (X : JN9) (ok : JN9Ok X) {Q : PQ} : ∀ i ∈ [0, 1, 2, 4, 5], JN9.St X Q i := by
 simp only [List.forall_mem_cons]
 refine ⟨?_, ?_, ?_, ?_, ?_, List.forall_mem_nil _⟩
 all_goals
  refine st_plainM (m := 0) JN9.isL (JN9.ini ok) ok.sz rfl (by kernel_rfl) ?_
  intro γ w n o hn hW hop
  obtain rfl : n = 0 := by omega
  have hk : Kp X.W w := hW
  have hc_p0 := rq_at hk ok.p0
  have hc_p1 := rq_at hk ok.p1
  have hc_u0 := rq_at hk ok.u0
  have hc_u1 := rq_at hk ok.u1
  have hc_v0 := rq_at hk ok.v0
  have hc_v1 := rq_at hk ok.v1
  unfold execOp
  rw [hop]
  simp [envR, valG, JN9.av, JN9.val0, hc_p0, hc_p1, hc_u0, hc_u1, hc_v0, hc_v1, go_sem]
theorem JN9.s7 (X : JN9) (ok : JN9Ok X) {Q : PQ} : JN9.St X Q 7 := by
 intro γ listed a w o hF hC hW h1 ho h2
 obtain ⟨hd, hop, hg⟩ := fieldsL JN9.isL (i := 7) rfl ho
 have e55 : a.eval (.tmp 55) = .agg #[.int .i64 (X.px), .int .i64 (X.py)] := known hF ho h2 (JN9.ini ok) ok.sz (by kernel_rfl)
 have e58 : a.eval (.tmp 58) = .agg #[.int .i64 (X.px - X.ux), .int .i64 (X.py - X.uy)] := known hF ho h2 (JN9.ini ok) ok.sz (by kernel_rfl)
 have e61 : a.eval (.tmp 61) = .agg #[.int .i64 (X.px - X.vx), .int .i64 (X.py - X.vy)] := known hF ho h2 (JN9.ini ok) ok.sz (by kernel_rfl)
 have hu := unl (hF.lt ho) h1
 refine st_actG (k := 0) JN9.chain JN9.nodup rfl hF hC hW h1 ho h2 (Or.inr ⟨62, hd, rfl⟩) (injG (by kernel_rfl) hu) hg ?_
 intro hW0 K hK
 have hr : (execOp a.eval o).run Tryz.prog w = .ok (.value (.slice (some ⟨w.heap.size, 0, none⟩) 3 3)) (w.alloc (.cells #[.int .i64 (X.px), .int .i64 (X.py), .int .i64 (X.px - X.ux), .int .i64 (X.py - X.uy), .int .i64 (X.px - X.vx), .int .i64 (X.py - X.vy)] 34)) := by
  generalize a.eval = ρ at e55 e58 e61 ⊢
  unfold execOp
  rw [hop]
  simp [e55, e58, e61, go_sem]
 unfold Oper.wp
 rw [hr]
 exact hK _ _ ⟨w, hW0, rfl, rfl⟩
theorem JN9.s8 (X : JN9) (ok : JN9Ok X) {Q : PQ} : JN9.St X Q 8 := by
 intro γ listed a w o hF hC hW h1 ho h2
 obtain ⟨hd, hop, hg⟩ := fieldsL JN9.isL (i := 8) rfl ho
 have e62 : a.eval (.tmp 62) = γ 0 := known hF ho h2 (JN9.ini ok) ok.sz (by kernel_rfl)
 have ef : a.eval (.func 97) = .func (.func 97) #[] #[] := rfl
 have hu := unl (hF.lt ho) h1
 refine st_actG (k := 1) JN9.chain JN9.nodup rfl hF hC hW h1 ho h2 (Or.inr ⟨63, hd, rfl⟩) (injG (by kernel_rfl) hu) hg ?_
 intro hW0 K hK
 obtain ⟨w1, k1, g0, rfl⟩ := hW0
 rw [g0] at e62
 have hr : (execOp a.eval o).run Tryz.prog (w1.alloc (.cells #[.int .i64 (X.px), .int .i64 (X.py), .int .i64 (X.px - X.ux), .int .i64 (X.py - X.uy), .int .i64 (X.px - X.vx), .int .i64 (X.py - X.vy)] 34)) = .ok (.enter 97 #[.slice (some ⟨w1.heap.size, 0, none⟩) 3 3]) (w1.alloc (.cells #[.int .i64 (X.px), .int .i64 (X.py), .int .i64 (X.px - X.ux), .int .i64 (X.py - X.uy), .int .i64 (X.px - X.vx), .int .i64 (X.py - X.vy)] 34)) := by
  generalize a.eval = ρ at e62 ef ⊢
  unfold execOp
  rw [hop]
  simp [e62, ef, go_sem]
 unfold Oper.wp
 rw [hr]
 refine Calls.mono (sclosed _ _ _ _) ?_
 rintro e w' ⟨rfl, h⟩
 exact hK _ _ ⟨w1, k1, rfl, h⟩
theorem JN9.s9 (X : JN9) (ok : JN9Ok X) {Q : PQ} : JN9.St X Q 9 := by
 intro γ listed a w o hF hC hW h1 ho h2
 obtain ⟨hd, hop, hg⟩ := fieldsL JN9.isL (i := 9) rfl ho
 have e10 : a.eval (.tmp 10) = .pointer (some ⟨X.br, 0, none⟩) := known hF ho h2 (JN9.ini ok) ok.sz (by kernel_rfl)
 have e63 : a.eval (.tmp 63) = γ 1 := known hF ho h2 (JN9.ini ok) ok.sz (by kernel_rfl)
 have hu := unl (hF.lt ho) h1
 refine st_actG (k := 2) JN9.chain JN9.nodup rfl hF hC hW h1 ho h2 (Or.inl hd) (injG (by kernel_rfl) hu) hg ?_
 intro hW0 K hK
 obtain ⟨w1, k1, g1, k2⟩ := hW0
 rw [g1] at e63
 have kk : Kp X.W w := Kp.trans k1 (Kp.trans ((Kp.refl w1).alloc _ _) k2)
 have z0 := rq_at kk ok.z0
 obtain ⟨u1, z1⟩ := ok.z1
 replace z1 := rq_at kk z1
 have zf : ∀ o, w.frozen? ⟨X.br, o, none⟩ = false := fun o => (kk.cells.2 _ _).trans (ok.zf o)
 have hr : (execOp a.eval o).run Tryz.prog w = .ok .skip ((w.setCell ⟨X.br, 0, none⟩ (.slice (some ⟨w1.heap.size, 0, none⟩) 3 3)).setCell ⟨X.br, 1, none⟩ (.bool true)) := by
  generalize a.eval = ρ at e10 e63 ⊢
  unfold execOp
  rw [hop]
  simp [e10, e63, z0, z1, zf, go_sem]
 unfold Oper.wp
 rw [hr]
 exact hK undef _ ⟨w1, w, k1, k2, rfl⟩
theorem JN9.size : (opsOf 9 Tryz.f100).size = 10 := by kernel_rfl
theorem JN9.rest (X : JN9) (ok : JN9Ok X) {Q : PQ} : ∀ i ∈ [3, 6, 7, 8, 9], JN9.St X Q i := by
 simp only [List.forall_mem_cons]
 exact ⟨st_callZ JN9.isL (JN9.ini ok) ok.sz rfl (by kernel_rfl) (fun _ _ => by simp [go_sem]) (fun γ w hW => sless w _ _ _ _ ok.w0 ok.w1 ok.w2 ok.w3) (fun _ _ _ hW hk => Kp.trans hW hk),
  st_callZ JN9.isL (JN9.ini ok) ok.sz rfl (by kernel_rfl) (fun _ _ => by simp [go_sem]) (fun γ w hW => sless w _ _ _ _ ok.w0 ok.w1 ok.w4 ok.w5) (fun _ _ _ hW hk => Kp.trans hW hk),
  JN9.s7 X ok,
  JN9.s8 X ok,
  JN9.s9 X ok, List.forall_mem_nil _⟩
theorem JN9.steps (X : JN9) (ok : JN9Ok X) {Q : PQ} (i : Nat) (hi : i < (opsOf 9 Tryz.f100).size) : JN9.St X Q i := by
 rw [JN9.size] at hi
 rcases (by decide : ∀ i, i < 10 → i ∈ [0, 1, 2, 4, 5] ∨ i ∈ [3, 6, 7, 8, 9]) i hi with h | h
 · exact JN9.early X ok i h
 · exact JN9.rest X ok i h
theorem JN9.run (X : JN9) (ok : JN9Ok X) {Q : PQ} (w : World) (h0 : X.Wd 0 (fun _ => undef) w.drew) (hend : ∀ (γ : Nat → Value) w', X.Wd 3 γ w' → Q .normal (((((((((X.a0.put (some 55) (.agg #[.int .i64 (X.px), .int .i64 (X.py)])).put (some 56) (.agg #[.int .i64 (X.px), .int .i64 (X.py)])).put (some 57) (.agg #[.int .i64 (X.ux), .int .i64 (X.uy)])).put (some 58) (.agg #[.int .i64 (X.px - X.ux), .int .i64 (X.py - X.uy)])).put (some 59) (.agg #[.int .i64 (X.px), .int .i64 (X.py)])).put (some 60) (.agg #[.int .i64 (X.vx), .int .i64 (X.vy)])).put (some 61) (.agg #[.int .i64 (X.px - X.vx), .int .i64 (X.py - X.vy)])).put (some 62) (γ 0)).put (some 63) (γ 1)) w') : (Code.region 9 (opsOf 9 Tryz.f100) true).wp Tryz.prog Q X.a0 w := by
 refine reg_act (acts := JN9.acts) (av := JN9.av) (val0 := X.val0) (Wd := X.Wd) (by kernel_rfl) (by kernel_rfl) (by rw [JN9.size]; decide) (fun i hi => JN9.steps X ok i hi) _ h0 ?_
 intro γ w' h
 exact end_at (hend γ w' h) (by kernel_rfl)
structure SQ2 where
 ex : Int
 ey : Int
 gx : Int
 gy : Int
 qx : Int
 qy : Int
 bt : Nat
 be : Nat
 bg : Nat
 W : World
 a0 : Act
structure SQ2Ok (X : SQ2) : Prop where
 e0_ : X.W.cell? ⟨X.be, 0, none⟩ = some (.int .i64 (X.ex))
 e1_ : X.W.cell? ⟨X.be, 1, none⟩ = some (.int .i64 (X.ey))
 g0_ : X.W.cell? ⟨X.bg, 0, none⟩ = some (.int .i64 (X.gx))
 g1_ : X.W.cell? ⟨X.bg, 1, none⟩ = some (.int .i64 (X.gy))
 q0 : X.W.cell? ⟨X.bt, 4, none⟩ = some (.int .i64 (X.qx))
 q1 : X.W.cell? ⟨X.bt, 5, none⟩ = some (.int .i64 (X.qy))
 w0 : wid X.ex
 w1 : wid X.ey
 w2 : wid X.gx
 w3 : wid X.gy
 w4 : wid X.qx
 w5 : wid X.qy
 e1 : X.a0.eval (.tmp 1) = .pointer (some ⟨X.bt, 0, none⟩)
 e3 : X.a0.eval (.tmp 3) = .pointer (some ⟨X.be, 0, none⟩)
 e4 : X.a0.eval (.tmp 4) = .pointer (some ⟨X.bg, 0, none⟩)
 sz : X.a0.tmps.size = 28
def SQ2.val0 (X : SQ2) : Nat → Value
 | 1 => .pointer (some ⟨X.bt, 0, none⟩)
 | 3 => .pointer (some ⟨X.be, 0, none⟩)
 | 4 => .pointer (some ⟨X.bg, 0, none⟩)
 | 15 => .agg #[.int .i64 (X.ex), .int .i64 (X.ey)]
 | 16 => .agg #[.int .i64 (X.ex), .int .i64 (X.ey)]
 | 17 => .pointer (some ⟨X.bt, 4, none⟩)
 | 18 => .agg #[.int .i64 (X.qx), .int .i64 (X.qy)]
 | 19 => .agg #[.int .i64 (X.ex + X.qx), .int .i64 (X.ey + X.qy)]
 | 20 => .agg #[.int .i64 (X.gx), .int .i64 (X.gy)]
 | 21 => .pointer (some ⟨X.bt, 4, none⟩)
 | 22 => .agg #[.int .i64 (X.qx), .int .i64 (X.qy)]
 | 23 => .agg #[.int .i64 (X.gx + X.qx), .int .i64 (X.gy + X.qy)]
 | 24 => .agg #[.int .i64 (X.gx), .int .i64 (X.gy)]
 | _ => undef
def SQ2.av : Nat → Option Nat
 | 25 => some 0
 | 26 => some 1
 | 27 => some 2
 | 2 => some 3
 | _ => none
def SQ2.acts : List Nat := [10, 11, 12, 13]
def SQ2.Wd (X : SQ2) : Nat → (Nat → Value) → World → Prop
  | 0, _, w => Kp X.W w
  | 1, γ, w => ∃ w1, Kp X.W w1 ∧ γ 0 = .slice (some ⟨w1.heap.size, 0, none⟩) 4 4 ∧ w = (w1.alloc (.cells #[.int .i64 (X.ex), .int .i64 (X.ey), .int .i64 (X.ex + X.qx), .int .i64 (X.ey + X.qy), .int .i64 (X.gx + X.qx), .int .i64 (X.gy + X.qy), .int .i64 (X.gx), .int .i64 (X.gy)] 34))
  | 2, γ, w => ∃ w1, Kp X.W w1 ∧ γ 1 = .agg #[.slice (some ⟨w1.heap.size, 0, none⟩) 4 4, .bool true] ∧ Kp (w1.alloc (.cells #[.int .i64 (X.ex), .int .i64 (X.ey), .int .i64 (X.ex + X.qx), .int .i64 (X.ey + X.qy), .int .i64 (X.gx + X.qx), .int .i64 (X.gy + X.qy), .int .i64 (X.gx), .int .i64 (X.gy)] 34)) w
  | 3, γ, w => ∃ w1 w2, Kp X.W w1 ∧ Kp (w1.alloc (.cells #[.int .i64 (X.ex), .int .i64 (X.ey), .int .i64 (X.ex + X.qx), .int .i64 (X.ey + X.qy), .int .i64 (X.gx + X.qx), .int .i64 (X.gy + X.qy), .int .i64 (X.gx), .int .i64 (X.gy)] 34)) w2 ∧ γ 2 = .slice (some ⟨w2.heap.size, 0, none⟩) 1 1 ∧ w = w2.alloc (.cells #[.slice (some ⟨w1.heap.size, 0, none⟩) 4 4, .bool true] 25)
  | _, γ, w => ∃ w1 w2, Kp X.W w1 ∧ Kp (w1.alloc (.cells #[.int .i64 (X.ex), .int .i64 (X.ey), .int .i64 (X.ex + X.qx), .int .i64 (X.ey + X.qy), .int .i64 (X.gx + X.qx), .int .i64 (X.gy + X.qy), .int .i64 (X.gx), .int .i64 (X.gy)] 34)) w2 ∧ γ 3 = .slice (some ⟨w2.heap.size, 0, none⟩) 1 1 ∧ w = w2.alloc (.cells #[.slice (some ⟨w1.heap.size, 0, none⟩) 4 4, .bool true] 25)
theorem SQ2.chain : chainG (opsOf 2 Tryz.f94) SQ2.acts = true := by kernel_rfl
theorem SQ2.nodup : SQ2.acts.Nodup := by decide
def SQ2.L : List (Option Nat × Op × Option (Nat × Bool)) := [
 (some 15, .load 34 (.tmp 3), none),
 (some 16, .load 34 (.tmp 3), none),
 (some 17, .fieldAddr 115 (.tmp 1) 2, none),
 (some 18, .load 34 (.tmp 17), none),
 (some 19, .call { callee := .value (.func 83), args := #[(.tmp 16), (.tmp 18)], argTypes := #[34, 34] }, none),
 (some 20, .load 34 (.tmp 4), none),
 (some 21, .fieldAddr 115 (.tmp 1) 2, none),
 (some 22, .load 34 (.tmp 21), none),
 (some 23, .call { callee := .value (.func 83), args := #[(.tmp 20), (.tmp 22)], argTypes := #[34, 34] }, none),
 (some 24, .load 34 (.tmp 4), none),
 (some 25, .buildSlice 23 4 #[(0, (.tmp 15)), (1, (.tmp 19)), (2, (.tmp 23)), (3, (.tmp 24))], none),
 (some 26, .call { callee := .value (.func 106), args := #[(.tmp 25)], argTypes := #[23] }, none),
 (some 27, .buildSlice 29 1 #[(0, (.tmp 26))], none),
 (some 2, .assign (.tmp 27), none)]
theorem SQ2.isL : (opsOf 2 Tryz.f94).toList.map tri = SQ2.L := by kernel_rfl
theorem SQ2.ini {X : SQ2} (ok : SQ2Ok X) : ∀ n ∈ [1, 3, 4], X.a0.eval (.tmp n) = X.val0 n := by
 simp only [List.forall_mem_cons]
 exact ⟨ok.e1, ok.e3, ok.e4, List.forall_mem_nil _⟩
abbrev SQ2.St (X : SQ2) (Q : PQ) (i : Nat) : Prop := StepG (opsOf 2 Tryz.f94) SQ2.acts SQ2.av X.val0 X.Wd X.a0 Q i
theorem SQ2.plain (X : SQ2) (ok : SQ2Ok X) {Q : PQ} : ∀ i ∈ [2, 6], SQ2.St X Q i := by
 simp only [List.forall_mem_cons]
 refine ⟨?_, ?_, List.forall_mem_nil _⟩
 all_goals
  refine st_plain SQ2.isL (SQ2.ini ok) ok.sz rfl (by kernel_rfl) ?_
  intro γ w n o hW hop
  unfold execOp
  rw [hop]
  simp [envR, valG, SQ2.av, SQ2.val0, go_sem]
theorem SQ2.early (X : SQ2) (ok : SQ2Ok X) {Q : PQ} : ∀ i ∈ [0, 1, 3, 5, 7, 9], SQ2.St X Q i := by
 simp only [List.forall_mem_cons]
 refine ⟨?_, ?_, ?_, ?_, ?_, ?_, List.forall_mem_nil _⟩
 all_goals
  refine st_plainM (m := 0) SQ2.isL (SQ2.ini ok) ok.sz rfl (by kernel_rfl) ?_
  intro γ w n o hn hW hop
  obtain rfl : n = 0 := by omega
  have hk : Kp X.W w := hW
  have hc_e0_ := rq_at hk ok.e0_
  have hc_e1_ := rq_at hk ok.e1_
  have hc_q0 := rq_at hk ok.q0
  have hc_q1 := rq_at hk ok.q1
  have hc_g0_ := rq_at hk ok.g0_
  have hc_g1_ := rq_at hk ok.g1_
  unfold execOp
  rw [hop]
  simp [envR, valG, SQ2.av, SQ2.val0, hc_e0_, hc_e1_, hc_q0, hc_q1, hc_g0_, hc_g1_, go_sem]
theorem SQ2.s10 (X : SQ2) (ok : SQ2Ok X) {Q : PQ} : SQ2.St X Q 10 := by
 intro γ listed a w o hF hC hW h1 ho h2
 obtain ⟨hd, hop, hg⟩ := fieldsL SQ2.isL (i := 10) rfl ho
 have e15 : a.eval (.tmp 15) = .agg #[.int .i64 (X.ex), .int .i64 (X.ey)] := known hF ho h2 (SQ2.ini ok) ok.sz (by kernel_rfl)
 have e19 : a.eval (.tmp 19) = .agg #[.int .i64 (X.ex + X.qx), .int .i64 (X.ey + X.qy)] := known hF ho h2 (SQ2.ini ok) ok.sz (by kernel_rfl)
 have e23 : a.eval (.tmp 23) = .agg #[.int .i64 (X.gx + X.qx), .int .i64 (X.gy + X.qy)] := known hF ho h2 (SQ2.ini ok) ok.sz (by kernel_rfl)
 have e24 : a.eval (.tmp 24) = .agg #[.int .i64 (X.gx), .int .i64 (X.gy)] := known hF ho h2 (SQ2.ini ok) ok.sz (by kernel_rfl)
 have hu := unl (hF.lt ho) h1
 refine st_actG (k := 0) SQ2.chain SQ2.nodup rfl hF hC hW h1 ho h2 (Or.inr ⟨25, hd, rfl⟩) (injG (by kernel_rfl) hu) hg ?_
 intro hW0 K hK
 have hr : (execOp a.eval o).run Tryz.prog w = .ok (.value (.slice (some ⟨w.heap.size, 0, none⟩) 4 4)) (w.alloc (.cells #[.int .i64 (X.ex), .int .i64 (X.ey), .int .i64 (X.ex + X.qx), .int .i64 (X.ey + X.qy), .int .i64 (X.gx + X.qx), .int .i64 (X.gy + X.qy), .int .i64 (X.gx), .int .i64 (X.gy)] 34)) := by
  generalize a.eval = ρ at e15 e19 e23 e24 ⊢
  unfold execOp
  rw [hop]
  simp [e15, e19, e23, e24, go_sem]
 unfold Oper.wp
 rw [hr]
 exact hK _ _ ⟨w, hW0, rfl, rfl⟩
theorem SQ2.s11 (X : SQ2) (ok : SQ2Ok X) {Q : PQ} : SQ2.St X Q 11 := by
 intro γ listed a w o hF hC hW h1 ho h2
 obtain ⟨hd, hop, hg⟩ := fieldsL SQ2.isL (i := 11) rfl ho
 have e25 : a.eval (.tmp 25) = γ 0 := known hF ho h2 (SQ2.ini ok) ok.sz (by kernel_rfl)
 have ef : a.eval (.func 106) = .func (.func 106) #[] #[] := rfl
 have hu := unl (hF.lt ho) h1
 refine st_actG (k := 1) SQ2.chain SQ2.nodup rfl hF hC hW h1 ho h2 (Or.inr ⟨26, hd, rfl⟩) (injG (by kernel_rfl) hu) hg ?_
 intro hW0 K hK
 obtain ⟨w1, k1, g0, rfl⟩ := hW0
 rw [g0] at e25
 have hr : (execOp a.eval o).run Tryz.prog (w1.alloc (.cells #[.int .i64 (X.ex), .int .i64 (X.ey), .int .i64 (X.ex + X.qx), .int .i64 (X.ey + X.qy), .int .i64 (X.gx + X.qx), .int .i64 (X.gy + X.qy), .int .i64 (X.gx), .int .i64 (X.gy)] 34)) = .ok (.enter 106 #[.slice (some ⟨w1.heap.size, 0, none⟩) 4 4]) (w1.alloc (.cells #[.int .i64 (X.ex), .int .i64 (X.ey), .int .i64 (X.ex + X.qx), .int .i64 (X.ey + X.qy), .int .i64 (X.gx + X.qx), .int .i64 (X.gy + X.qy), .int .i64 (X.gx), .int .i64 (X.gy)] 34)) := by
  generalize a.eval = ρ at e25 ef ⊢
  unfold execOp
  rw [hop]
  simp [e25, ef, go_sem]
 unfold Oper.wp
 rw [hr]
 refine Calls.mono (iring _ _ _ _) ?_
 rintro e w' ⟨rfl, h⟩
 exact hK _ _ ⟨w1, k1, rfl, h⟩
theorem SQ2.s12 (X : SQ2) (ok : SQ2Ok X) {Q : PQ} : SQ2.St X Q 12 := by
 intro γ listed a w o hF hC hW h1 ho h2
 obtain ⟨hd, hop, hg⟩ := fieldsL SQ2.isL (i := 12) rfl ho
 have e26 : a.eval (.tmp 26) = γ 1 := known hF ho h2 (SQ2.ini ok) ok.sz (by kernel_rfl)
 have hu := unl (hF.lt ho) h1
 refine st_actG (k := 2) SQ2.chain SQ2.nodup rfl hF hC hW h1 ho h2 (Or.inr ⟨27, hd, rfl⟩) (injG (by kernel_rfl) hu) hg ?_
 intro hW0 K hK
 obtain ⟨w1, k1, g1, k2⟩ := hW0
 rw [g1] at e26
 have hr : (execOp a.eval o).run Tryz.prog w = .ok (.value (.slice (some ⟨w.heap.size, 0, none⟩) 1 1)) (w.alloc (.cells #[.slice (some ⟨w1.heap.size, 0, none⟩) 4 4, .bool true] 25)) := by
  generalize a.eval = ρ at e26 ⊢
  unfold execOp
  rw [hop]
  simp [e26, go_sem]
 unfold Oper.wp
 rw [hr]
 exact hK _ _ ⟨w1, w, k1, k2, rfl, rfl⟩
theorem SQ2.s13 (X : SQ2) (ok : SQ2Ok X) {Q : PQ} : SQ2.St X Q 13 := by
 intro γ listed a w o hF hC hW h1 ho h2
 obtain ⟨hd, hop, hg⟩ := fieldsL SQ2.isL (i := 13) rfl ho
 have e27 : a.eval (.tmp 27) = γ 2 := known hF ho h2 (SQ2.ini ok) ok.sz (by kernel_rfl)
 have hu := unl (hF.lt ho) h1
 refine st_actG (k := 3) SQ2.chain SQ2.nodup rfl hF hC hW h1 ho h2 (Or.inr ⟨2, hd, rfl⟩) (injG (by kernel_rfl) hu) hg ?_
 intro hW0 K hK
 obtain ⟨w1, w2, k1, k2, g2, rfl⟩ := hW0
 rw [g2] at e27
 have hr : ∀ w : World, (execOp a.eval o).run Tryz.prog w = .ok (.value (.slice (some ⟨w2.heap.size, 0, none⟩) 1 1)) w := fun w => by
  generalize a.eval = ρ at e27 ⊢
  unfold execOp
  rw [hop]
  simp [e27, go_sem]
 unfold Oper.wp
 rw [hr]
 exact hK _ _ ⟨w1, w2, k1, k2, rfl, rfl⟩
theorem SQ2.size : (opsOf 2 Tryz.f94).size = 14 := by kernel_rfl
theorem SQ2.rest (X : SQ2) (ok : SQ2Ok X) {Q : PQ} : ∀ i ∈ [4, 8, 10, 11, 12, 13], SQ2.St X Q i := by
 simp only [List.forall_mem_cons]
 exact ⟨st_callZ SQ2.isL (SQ2.ini ok) ok.sz rfl (by kernel_rfl) (fun _ _ => by simp [go_sem]) (fun γ w hW => ipls w _ _ _ _ ok.w0 ok.w1 ok.w4 ok.w5) (fun _ _ _ hW hk => Kp.trans hW hk),
  st_callZ SQ2.isL (SQ2.ini ok) ok.sz rfl (by kernel_rfl) (fun _ _ => by simp [go_sem]) (fun γ w hW => ipls w _ _ _ _ ok.w2 ok.w3 ok.w4 ok.w5) (fun _ _ _ hW hk => Kp.trans hW hk),
  SQ2.s10 X ok,
  SQ2.s11 X ok,
  SQ2.s12 X ok,
  SQ2.s13 X ok, List.forall_mem_nil _⟩
theorem SQ2.steps (X : SQ2) (ok : SQ2Ok X) {Q : PQ} (i : Nat) (hi : i < (opsOf 2 Tryz.f94).size) : SQ2.St X Q i := by
 rw [SQ2.size] at hi
 rcases (by decide : ∀ i, i < 14 → i ∈ [2, 6] ∨ i ∈ [0, 1, 3, 5, 7, 9] ∨ i ∈ [4, 8, 10, 11, 12, 13]) i hi with h | h | h
 · exact SQ2.plain X ok i h
 · exact SQ2.early X ok i h
 · exact SQ2.rest X ok i h
theorem SQ2.run (X : SQ2) (ok : SQ2Ok X) {Q : PQ} (w : World) (h0 : X.Wd 0 (fun _ => undef) w.drew) (hend : ∀ (γ : Nat → Value) w', X.Wd 4 γ w' → Q .normal ((((((((((((((X.a0.put (some 15) (.agg #[.int .i64 (X.ex), .int .i64 (X.ey)])).put (some 16) (.agg #[.int .i64 (X.ex), .int .i64 (X.ey)])).put (some 17) (.pointer (some ⟨X.bt, 4, none⟩))).put (some 18) (.agg #[.int .i64 (X.qx), .int .i64 (X.qy)])).put (some 19) (.agg #[.int .i64 (X.ex + X.qx), .int .i64 (X.ey + X.qy)])).put (some 20) (.agg #[.int .i64 (X.gx), .int .i64 (X.gy)])).put (some 21) (.pointer (some ⟨X.bt, 4, none⟩))).put (some 22) (.agg #[.int .i64 (X.qx), .int .i64 (X.qy)])).put (some 23) (.agg #[.int .i64 (X.gx + X.qx), .int .i64 (X.gy + X.qy)])).put (some 24) (.agg #[.int .i64 (X.gx), .int .i64 (X.gy)])).put (some 25) (γ 0)).put (some 26) (γ 1)).put (some 27) (γ 2)).put (some 2) (γ 3)) w') : (Code.region 2 (opsOf 2 Tryz.f94) true).wp Tryz.prog Q X.a0 w := by
 refine reg_act (acts := SQ2.acts) (av := SQ2.av) (val0 := X.val0) (Wd := X.Wd) (by kernel_rfl) (by kernel_rfl) (by rw [SQ2.size]; decide) (fun i hi => SQ2.steps X ok i hi) _ h0 ?_
 intro γ w' h
 exact end_at (hend γ w' h) (by kernel_rfl)
structure CRS where
  ax : Int
  ay : Int
  bx : Int
  by_ : Int
  cx : Int
  cy : Int
  dx : Int
  dy : Int
  bc : Nat
  W : World
  a0 : Act
structure CRSOk (X : CRS) : Prop where
  a0_ : X.W.cell? ⟨X.bc, 0, none⟩ = some (.int .i64 (X.ax))
  a1_ : X.W.cell? ⟨X.bc, 1, none⟩ = some (.int .i64 (X.ay))
  b0_ : X.W.cell? ⟨X.bc, 2, none⟩ = some (.int .i64 (X.bx))
  b1_ : X.W.cell? ⟨X.bc, 3, none⟩ = some (.int .i64 (X.by_))
  c0 : X.W.cell? ⟨X.bc, 6, none⟩ = some (.int .i64 (X.cx))
  c1 : X.W.cell? ⟨X.bc, 7, none⟩ = some (.int .i64 (X.cy))
  d0 : X.W.cell? ⟨X.bc, 8, none⟩ = some (.int .i64 (X.dx))
  d1 : X.W.cell? ⟨X.bc, 9, none⟩ = some (.int .i64 (X.dy))
  w0 : wid X.ax
  w1 : wid X.ay
  w2 : wid X.bx
  w3 : wid X.by_
  w4 : wid X.cx
  w5 : wid X.cy
  w6 : wid X.dx
  w7 : wid X.dy
  e1 : X.a0.eval (.tmp 1) = .pointer (some ⟨X.bc, 0, none⟩)
  sz : X.a0.tmps.size = 30
def CRS.val0 (X : CRS) : Nat → Value
  | 1 => .pointer (some ⟨X.bc, 0, none⟩)
  | 5 => .pointer (some ⟨X.bc, 0, none⟩)
  | 6 => .pointer (some ⟨X.bc, 2, none⟩)
  | 7 => .agg #[.int .i64 (X.bx), .int .i64 (X.by_)]
  | 8 => .pointer (some ⟨X.bc, 0, none⟩)
  | 9 => .pointer (some ⟨X.bc, 0, none⟩)
  | 10 => .agg #[.int .i64 (X.ax), .int .i64 (X.ay)]
  | 11 => .agg #[.int .i64 (X.bx - X.ax), .int .i64 (X.by_ - X.ay)]
  | 12 => .pointer (some ⟨X.bc, 6, none⟩)
  | 13 => .pointer (some ⟨X.bc, 8, none⟩)
  | 14 => .agg #[.int .i64 (X.dx), .int .i64 (X.dy)]
  | 15 => .pointer (some ⟨X.bc, 6, none⟩)
  | 16 => .pointer (some ⟨X.bc, 6, none⟩)
  | 17 => .agg #[.int .i64 (X.cx), .int .i64 (X.cy)]
  | 18 => .agg #[.int .i64 (X.dx - X.cx), .int .i64 (X.dy - X.cy)]
  | _ => undef
def CRS.av : Nat → Option Nat
  | 3 => some 0
  | 4 => some 1
  | _ => none
def CRS.ext : Nat → Value → Value
  | _ => fun u => u
def CRS.acts : List Nat := [14, 15, 16, 17]
theorem CRS.nodup : CRS.acts.Nodup := by decide
abbrev CRS.Wd (X : CRS) : (Nat → Bool) → (Nat → Value) → World → Prop := TwoWd X.W [.int .i64 0, .int .i64 0] [.int .i64 (X.bx - X.ax), .int .i64 (X.by_ - X.ay)] [.int .i64 (X.dx - X.cx), .int .i64 (X.dy - X.cy)]
abbrev CRS.St (X : CRS) (Q : PQ) (i : Nat) : Prop := StepH (opsOf 1 Tryz.f108) CRS.acts CRS.av CRS.ext X.val0 X.Wd X.a0 Q i
def CRS.L : List (Option Nat × Op × Option (Nat × Bool)) := [
 (some 5, .fieldAddr 128 (.tmp 1) 0, none),
 (some 6, .fieldAddr 112 (.tmp 5) 1, none),
 (some 7, .load 34 (.tmp 6), none),
 (some 8, .fieldAddr 128 (.tmp 1) 0, none),
 (some 9, .fieldAddr 112 (.tmp 8) 0, none),
 (some 10, .load 34 (.tmp 9), none),
 (some 11, .call { callee := .value (.func 76), args := #[(.tmp 7), (.tmp 10)], argTypes := #[34, 34] }, none),
 (some 12, .fieldAddr 128 (.tmp 1) 1, none),
 (some 13, .fieldAddr 112 (.tmp 12) 1, none),
 (some 14, .load 34 (.tmp 13), none),
 (some 15, .fieldAddr 128 (.tmp 1) 1, none),
 (some 16, .fieldAddr 112 (.tmp 15) 0, none),
 (some 17, .load 34 (.tmp 16), none),
 (some 18, .call { callee := .value (.func 76), args := #[(.tmp 14), (.tmp 17)], argTypes := #[34, 34] }, none),
 (some 3, .alloc 34, none),
 (some 4, .alloc 34, none),
 (none, .store 34 (.tmp 3) (.tmp 11), none),
 (none, .store 34 (.tmp 4) (.tmp 18), none)]
theorem CRS.isL : (opsOf 1 Tryz.f108).toList.map tri = CRS.L := by kernel_rfl
theorem CRS.ini {X : CRS} (ok : CRSOk X) : ∀ n ∈ [1], X.a0.eval (.tmp n) = X.val0 n := by
 simp only [List.forall_mem_cons]
 exact ⟨ok.e1, List.forall_mem_nil _⟩
theorem CRS.plain (X : CRS) (ok : CRSOk X) {Q : PQ} : ∀ i ∈ [0, 1, 2, 3, 4, 5, 7, 8, 9, 10, 11, 12], CRS.St X Q i := by
 simp only [List.forall_mem_cons]
 refine ⟨?_, ?_, ?_, ?_, ?_, ?_, ?_, ?_, ?_, ?_, ?_, ?_, List.forall_mem_nil _⟩
 all_goals
  refine st_plainH CRS.isL (CRS.ini ok) ok.sz rfl (by kernel_rfl) ?_
  intro γ w S o hW hop
  have hc_b0_ := rq_at hW.kp ok.b0_
  have hc_b1_ := rq_at hW.kp ok.b1_
  have hc_a0_ := rq_at hW.kp ok.a0_
  have hc_a1_ := rq_at hW.kp ok.a1_
  have hc_d0 := rq_at hW.kp ok.d0
  have hc_d1 := rq_at hW.kp ok.d1
  have hc_c0 := rq_at hW.kp ok.c0
  have hc_c1 := rq_at hW.kp ok.c1
  unfold execOp
  rw [hop]
  simp [envR, valH, CRS.av, CRS.val0, hc_b0_, hc_b1_, hc_a0_, hc_a1_, hc_d0, hc_d1, hc_c0, hc_c1, go_sem]
theorem CRS.s14 (X : CRS) (ok : CRSOk X) {Q : PQ} : CRS.St X Q 14 := by
 intro γ listed a w o hF hC hW h1 ho h2
 obtain ⟨hd, hop, hg⟩ := fieldsL CRS.isL (i := 14) rfl ho
 have hu := unl (hF.lt ho) h1
 have hno : upOf listed CRS.acts 2 = false := up_no hC hu rfl [14] (by kernel_rfl) (by decide)
 refine st_actH (k := 0) (ps := []) CRS.nodup rfl (by kernel_rfl) hF hC h1 ho h2 (Or.inr ⟨3, hd, rfl, fun _ => rfl⟩) hg ?_
 intro K hK
 have hr : (execOp a.eval o).run Tryz.prog w = .ok (.value (.pointer (some ⟨w.heap.size, 0, none⟩))) (w.alloc (.cells #[.int .i64 0, .int .i64 0] 34)) := by
  unfold execOp
  rw [hop]
  simp [go_sem]
 unfold Oper.wp
 rw [hr]
 exact hK _ _ (hW.alloc0 hno _)
theorem CRS.s15 (X : CRS) (ok : CRSOk X) {Q : PQ} : CRS.St X Q 15 := by
 intro γ listed a w o hF hC hW h1 ho h2
 obtain ⟨hd, hop, hg⟩ := fieldsL CRS.isL (i := 15) rfl ho
 have hu := unl (hF.lt ho) h1
 have hno : upOf listed CRS.acts 3 = false := up_no hC hu rfl [15] (by kernel_rfl) (by decide)
 refine st_actH (k := 1) (ps := []) CRS.nodup rfl (by kernel_rfl) hF hC h1 ho h2 (Or.inr ⟨4, hd, rfl, fun _ => rfl⟩) hg ?_
 intro K hK
 have hr : (execOp a.eval o).run Tryz.prog w = .ok (.value (.pointer (some ⟨w.heap.size, 0, none⟩))) (w.alloc (.cells #[.int .i64 0, .int .i64 0] 34)) := by
  unfold execOp
  rw [hop]
  simp [go_sem]
 unfold Oper.wp
 rw [hr]
 exact hK _ _ (hW.alloc1 hno _)
theorem CRS.s16 (X : CRS) (ok : CRSOk X) {Q : PQ} : CRS.St X Q 16 := by
 intro γ listed a w o hF hC hW h1 ho h2
 obtain ⟨hd, hop, hg⟩ := fieldsL CRS.isL (i := 16) rfl ho
 have e3 : a.eval (.tmp 3) = γ 0 := knownH hF ho h2 (CRS.ini ok) ok.sz (by kernel_rfl)
 have e11 : a.eval (.tmp 11) = .agg #[.int .i64 (X.bx - X.ax), .int .i64 (X.by_ - X.ay)] := knownH hF ho h2 (CRS.ini ok) ok.sz (by kernel_rfl)
 have hs : upOf listed CRS.acts 0 = true := up_yes hC ho h2 (j := 14) rfl [14] (by kernel_rfl) (by decide)
 have hno : upOf listed CRS.acts 2 = false := up_self rfl (unl (hF.lt ho) h1)
 refine st_actH (k := 2) (ps := []) CRS.nodup rfl (by kernel_rfl) hF hC h1 ho h2 (Or.inl hd) hg ?_
 intro K hK
 have hl := hW.l0 hs
 rw [hno] at hl
 obtain ⟨g, g1, g2, g3, zf, zc⟩ := hl
 rw [g1] at e3
 have z0 : w.cell? ⟨g, 0, none⟩ = some (.int .i64 0) := zc 0 (by decide)
 have z1 : w.cell? ⟨g, 1, none⟩ = some (.int .i64 0) := zc 1 (by decide)
 have hr : (execOp a.eval o).run Tryz.prog w = .ok .skip ((w.setCell ⟨g, 0, none⟩ (.int .i64 (X.bx - X.ax))).setCell ⟨g, 1, none⟩ (.int .i64 (X.by_ - X.ay))) := by
  generalize a.eval = ρ at e3 e11 ⊢
  unfold execOp
  rw [hop]
  simp [e3, e11, z0, z1, zf, go_sem]
 unfold Oper.wp
 rw [hr]
 exact hK undef _ (hW.store0 hs rfl g1 undef)
theorem CRS.s17 (X : CRS) (ok : CRSOk X) {Q : PQ} : CRS.St X Q 17 := by
 intro γ listed a w o hF hC hW h1 ho h2
 obtain ⟨hd, hop, hg⟩ := fieldsL CRS.isL (i := 17) rfl ho
 have e4 : a.eval (.tmp 4) = γ 1 := knownH hF ho h2 (CRS.ini ok) ok.sz (by kernel_rfl)
 have e18 : a.eval (.tmp 18) = .agg #[.int .i64 (X.dx - X.cx), .int .i64 (X.dy - X.cy)] := knownH hF ho h2 (CRS.ini ok) ok.sz (by kernel_rfl)
 have hs : upOf listed CRS.acts 1 = true := up_yes hC ho h2 (j := 15) rfl [15] (by kernel_rfl) (by decide)
 have hno : upOf listed CRS.acts 3 = false := up_self rfl (unl (hF.lt ho) h1)
 refine st_actH (k := 3) (ps := []) CRS.nodup rfl (by kernel_rfl) hF hC h1 ho h2 (Or.inl hd) hg ?_
 intro K hK
 have hl := hW.l1 hs
 rw [hno] at hl
 obtain ⟨g, g1, g2, g3, zf, zc⟩ := hl
 rw [g1] at e4
 have z0 : w.cell? ⟨g, 0, none⟩ = some (.int .i64 0) := zc 0 (by decide)
 have z1 : w.cell? ⟨g, 1, none⟩ = some (.int .i64 0) := zc 1 (by decide)
 have hr : (execOp a.eval o).run Tryz.prog w = .ok .skip ((w.setCell ⟨g, 0, none⟩ (.int .i64 (X.dx - X.cx))).setCell ⟨g, 1, none⟩ (.int .i64 (X.dy - X.cy))) := by
  generalize a.eval = ρ at e4 e18 ⊢
  unfold execOp
  rw [hop]
  simp [e4, e18, z0, z1, zf, go_sem]
 unfold Oper.wp
 rw [hr]
 exact hK undef _ (hW.store1 hs rfl g1 undef)
theorem CRS.rest (X : CRS) (ok : CRSOk X) {Q : PQ} : ∀ i ∈ [6, 13, 14, 15, 16, 17], CRS.St X Q i := by
 simp only [List.forall_mem_cons]
 exact ⟨st_callL CRS.isL (CRS.ini ok) ok.sz rfl (by kernel_rfl) (fun _ _ => by simp [go_sem]) (fun γ w S hW => imin2 w _ _ _ _ ok.w2 ok.w3 ok.w0 ok.w1) (fun _ _ _ _ hW hk => hW.keep hk),
  st_callL CRS.isL (CRS.ini ok) ok.sz rfl (by kernel_rfl) (fun _ _ => by simp [go_sem]) (fun γ w S hW => imin2 w _ _ _ _ ok.w6 ok.w7 ok.w4 ok.w5) (fun _ _ _ _ hW hk => hW.keep hk),
  CRS.s14 X ok,
  CRS.s15 X ok,
  CRS.s16 X ok,
  CRS.s17 X ok, List.forall_mem_nil _⟩
theorem CRS.size : (opsOf 1 Tryz.f108).size = 18 := by kernel_rfl
theorem CRS.steps (X : CRS) (ok : CRSOk X) {Q : PQ} (i : Nat) (hi : i < (opsOf 1 Tryz.f108).size) : CRS.St X Q i := by
 rw [CRS.size] at hi
 rcases (by decide : ∀ i, i < 18 → i ∈ [0, 1, 2, 3, 4, 5, 7, 8, 9, 10, 11, 12] ∨ i ∈ [6, 13, 14, 15, 16, 17]) i hi with h | h
 · exact CRS.plain X ok i h
 · exact CRS.rest X ok i h
theorem CRS.run (X : CRS) (ok : CRSOk X) {Q : PQ} (w : World) (h0 : Kp X.W w.drew) (hend : ∀ w' g0 g1, Kp X.W w' → X.W.heap.size ≤ g0 → X.W.heap.size ≤ g1 → g0 ≠ g1 → w'.cell? ⟨g0, 0, none⟩ = some (.int .i64 (X.bx - X.ax)) → w'.cell? ⟨g0, 1, none⟩ = some (.int .i64 (X.by_ - X.ay)) → w'.cell? ⟨g1, 0, none⟩ = some (.int .i64 (X.dx - X.cx)) → w'.cell? ⟨g1, 1, none⟩ = some (.int .i64 (X.dy - X.cy)) → Q .normal ((((((((((((((((X.a0.put (some 5) (.pointer (some ⟨X.bc, 0, none⟩))).put (some 6) (.pointer (some ⟨X.bc, 2, none⟩))).put (some 7) (.agg #[.int .i64 (X.bx), .int .i64 (X.by_)])).put (some 8) (.pointer (some ⟨X.bc, 0, none⟩))).put (some 9) (.pointer (some ⟨X.bc, 0, none⟩))).put (some 10) (.agg #[.int .i64 (X.ax), .int .i64 (X.ay)])).put (some 11) (.agg #[.int .i64 (X.bx - X.ax), .int .i64 (X.by_ - X.ay)])).put (some 12) (.pointer (some ⟨X.bc, 6, none⟩))).put (some 13) (.pointer (some ⟨X.bc, 8, none⟩))).put (some 14) (.agg #[.int .i64 (X.dx), .int .i64 (X.dy)])).put (some 15) (.pointer (some ⟨X.bc, 6, none⟩))).put (some 16) (.pointer (some ⟨X.bc, 6, none⟩))).put (some 17) (.agg #[.int .i64 (X.cx), .int .i64 (X.cy)])).put (some 18) (.agg #[.int .i64 (X.dx - X.cx), .int .i64 (X.dy - X.cy)])).put (some 3) (.pointer (some ⟨g0, 0, none⟩))).put (some 4) (.pointer (some ⟨g1, 0, none⟩))) w') : (Code.region 1 (opsOf 1 Tryz.f108) true).wp Tryz.prog Q X.a0 w := by
  refine reg_actH (acts := CRS.acts) (av := CRS.av) (ext := CRS.ext) (val0 := X.val0) (Wd := X.Wd) (by kernel_rfl) (by kernel_rfl) (by rw [CRS.size]; decide) (fun i hi => CRS.steps X ok i hi) (fun _ => undef) (TwoWd.start _ _ _ _ _ _ h0) ?_
  intro S γ w' hS h
  obtain ⟨g0, g1, q0, q1, kp, ge0, ge1, gne, qa, qb⟩ := h.fin hS
  refine end_at (hend w' g0 g1 kp ge0 ge1 gne (qa 0 (by decide)) (qa 1 (by decide)) (qb 0 (by decide)) (qb 1 (by decide))) ?_
  rw [← q0, ← q1]
  kernel_rfl
structure SQ1 where
  tx : Int
  ty : Int
  sx : Int
  sy : Int
  bt : Nat
  W : World
  a0 : Act
structure SQ1Ok (X : SQ1) : Prop where
  t0 : X.W.cell? ⟨X.bt, 0, none⟩ = some (.int .i64 (X.tx))
  t1 : X.W.cell? ⟨X.bt, 1, none⟩ = some (.int .i64 (X.ty))
  s0_ : X.W.cell? ⟨X.bt, 2, none⟩ = some (.int .i64 (X.sx))
  s1_ : X.W.cell? ⟨X.bt, 3, none⟩ = some (.int .i64 (X.sy))
  w0 : wid X.tx
  w1 : wid X.ty
  w2 : wid X.sx
  w3 : wid X.sy
  e1 : X.a0.eval (.tmp 1) = .pointer (some ⟨X.bt, 0, none⟩)
  sz : X.a0.tmps.size = 28
def SQ1.val0 (X : SQ1) : Nat → Value
  | 1 => .pointer (some ⟨X.bt, 0, none⟩)
  | 5 => .pointer (some ⟨X.bt, 0, none⟩)
  | 6 => .agg #[.int .i64 (X.tx), .int .i64 (X.ty)]
  | 7 => .pointer (some ⟨X.bt, 2, none⟩)
  | 8 => .agg #[.int .i64 (X.sx), .int .i64 (X.sy)]
  | 9 => .agg #[.int .i64 (X.tx + X.sx), .int .i64 (X.ty + X.sy)]
  | 10 => .pointer (some ⟨X.bt, 0, none⟩)
  | 11 => .agg #[.int .i64 (X.tx), .int .i64 (X.ty)]
  | 12 => .pointer (some ⟨X.bt, 2, none⟩)
  | 13 => .agg #[.int .i64 (X.sx), .int .i64 (X.sy)]
  | 14 => .agg #[.int .i64 (X.tx - X.sx), .int .i64 (X.ty - X.sy)]
  | _ => undef
def SQ1.av : Nat → Option Nat
  | 3 => some 0
  | 4 => some 1
  | _ => none
def SQ1.ext : Nat → Value → Value
  | _ => fun u => u
def SQ1.acts : List Nat := [10, 11, 12, 13]
theorem SQ1.nodup : SQ1.acts.Nodup := by decide
abbrev SQ1.Wd (X : SQ1) : (Nat → Bool) → (Nat → Value) → World → Prop := TwoWd X.W [.int .i64 0, .int .i64 0] [.int .i64 (X.tx + X.sx), .int .i64 (X.ty + X.sy)] [.int .i64 (X.tx - X.sx), .int .i64 (X.ty - X.sy)]
abbrev SQ1.St (X : SQ1) (Q : PQ) (i : Nat) : Prop := StepH (opsOf 1 Tryz.f94) SQ1.acts SQ1.av SQ1.ext X.val0 X.Wd X.a0 Q i
def SQ1.L : List (Option Nat × Op × Option (Nat × Bool)) := [
 (some 5, .fieldAddr 115 (.tmp 1) 0, none),
 (some 6, .load 34 (.tmp 5), none),
 (some 7, .fieldAddr 115 (.tmp 1) 1, none),
 (some 8, .load 34 (.tmp 7), none),
 (some 9, .call { callee := .value (.func 83), args := #[(.tmp 6), (.tmp 8)], argTypes := #[34, 34] }, none),
 (some 10, .fieldAddr 115 (.tmp 1) 0, none),
 (some 11, .load 34 (.tmp 10), none),
 (some 12, .fieldAddr 115 (.tmp 1) 1, none),
 (some 13, .load 34 (.tmp 12), none),
 (some 14, .call { callee := .value (.func 76), args := #[(.tmp 11), (.tmp 13)], argTypes := #[34, 34] }, none),
 (some 3, .alloc 34, none),
 (some 4, .alloc 34, none),
 (none, .store 34 (.tmp 3) (.tmp 9), none),
 (none, .store 34 (.tmp 4) (.tmp 14), none)]
theorem SQ1.isL : (opsOf 1 Tryz.f94).toList.map tri = SQ1.L := by kernel_rfl
theorem SQ1.ini {X : SQ1} (ok : SQ1Ok X) : ∀ n ∈ [1], X.a0.eval (.tmp n) = X.val0 n := by
 simp only [List.forall_mem_cons]
 exact ⟨ok.e1, List.forall_mem_nil _⟩
theorem SQ1.plain (X : SQ1) (ok : SQ1Ok X) {Q : PQ} : ∀ i ∈ [0, 1, 2, 3, 5, 6, 7, 8], SQ1.St X Q i := by
 simp only [List.forall_mem_cons]
 refine ⟨?_, ?_, ?_, ?_, ?_, ?_, ?_, ?_, List.forall_mem_nil _⟩
 all_goals
  refine st_plainH SQ1.isL (SQ1.ini ok) ok.sz rfl (by kernel_rfl) ?_
  intro γ w S o hW hop
  have hc_t0 := rq_at hW.kp ok.t0
  have hc_t1 := rq_at hW.kp ok.t1
  have hc_s0_ := rq_at hW.kp ok.s0_
  have hc_s1_ := rq_at hW.kp ok.s1_
  unfold execOp
  rw [hop]
  simp [envR, valH, SQ1.av, SQ1.val0, hc_t0, hc_t1, hc_s0_, hc_s1_, go_sem]
theorem SQ1.s10 (X : SQ1) (ok : SQ1Ok X) {Q : PQ} : SQ1.St X Q 10 := by
 intro γ listed a w o hF hC hW h1 ho h2
 obtain ⟨hd, hop, hg⟩ := fieldsL SQ1.isL (i := 10) rfl ho
 have hu := unl (hF.lt ho) h1
 have hno : upOf listed SQ1.acts 2 = false := up_no hC hu rfl [10] (by kernel_rfl) (by decide)
 refine st_actH (k := 0) (ps := []) SQ1.nodup rfl (by kernel_rfl) hF hC h1 ho h2 (Or.inr ⟨3, hd, rfl, fun _ => rfl⟩) hg ?_
 intro K hK
 have hr : (execOp a.eval o).run Tryz.prog w = .ok (.value (.pointer (some ⟨w.heap.size, 0, none⟩))) (w.alloc (.cells #[.int .i64 0, .int .i64 0] 34)) := by
  unfold execOp
  rw [hop]
  simp [go_sem]
 unfold Oper.wp
 rw [hr]
 exact hK _ _ (hW.alloc0 hno _)
theorem SQ1.s11 (X : SQ1) (ok : SQ1Ok X) {Q : PQ} : SQ1.St X Q 11 := by
 intro γ listed a w o hF hC hW h1 ho h2
 obtain ⟨hd, hop, hg⟩ := fieldsL SQ1.isL (i := 11) rfl ho
 have hu := unl (hF.lt ho) h1
 have hno : upOf listed SQ1.acts 3 = false := up_no hC hu rfl [11] (by kernel_rfl) (by decide)
 refine st_actH (k := 1) (ps := []) SQ1.nodup rfl (by kernel_rfl) hF hC h1 ho h2 (Or.inr ⟨4, hd, rfl, fun _ => rfl⟩) hg ?_
 intro K hK
 have hr : (execOp a.eval o).run Tryz.prog w = .ok (.value (.pointer (some ⟨w.heap.size, 0, none⟩))) (w.alloc (.cells #[.int .i64 0, .int .i64 0] 34)) := by
  unfold execOp
  rw [hop]
  simp [go_sem]
 unfold Oper.wp
 rw [hr]
 exact hK _ _ (hW.alloc1 hno _)
theorem SQ1.s12 (X : SQ1) (ok : SQ1Ok X) {Q : PQ} : SQ1.St X Q 12 := by
 intro γ listed a w o hF hC hW h1 ho h2
 obtain ⟨hd, hop, hg⟩ := fieldsL SQ1.isL (i := 12) rfl ho
 have e3 : a.eval (.tmp 3) = γ 0 := knownH hF ho h2 (SQ1.ini ok) ok.sz (by kernel_rfl)
 have e9 : a.eval (.tmp 9) = .agg #[.int .i64 (X.tx + X.sx), .int .i64 (X.ty + X.sy)] := knownH hF ho h2 (SQ1.ini ok) ok.sz (by kernel_rfl)
 have hs : upOf listed SQ1.acts 0 = true := up_yes hC ho h2 (j := 10) rfl [10] (by kernel_rfl) (by decide)
 have hno : upOf listed SQ1.acts 2 = false := up_self rfl (unl (hF.lt ho) h1)
 refine st_actH (k := 2) (ps := []) SQ1.nodup rfl (by kernel_rfl) hF hC h1 ho h2 (Or.inl hd) hg ?_
 intro K hK
 have hl := hW.l0 hs
 rw [hno] at hl
 obtain ⟨g, g1, g2, g3, zf, zc⟩ := hl
 rw [g1] at e3
 have z0 : w.cell? ⟨g, 0, none⟩ = some (.int .i64 0) := zc 0 (by decide)
 have z1 : w.cell? ⟨g, 1, none⟩ = some (.int .i64 0) := zc 1 (by decide)
 have hr : (execOp a.eval o).run Tryz.prog w = .ok .skip ((w.setCell ⟨g, 0, none⟩ (.int .i64 (X.tx + X.sx))).setCell ⟨g, 1, none⟩ (.int .i64 (X.ty + X.sy))) := by
  generalize a.eval = ρ at e3 e9 ⊢
  unfold execOp
  rw [hop]
  simp [e3, e9, z0, z1, zf, go_sem]
 unfold Oper.wp
 rw [hr]
 exact hK undef _ (hW.store0 hs rfl g1 undef)
theorem SQ1.s13 (X : SQ1) (ok : SQ1Ok X) {Q : PQ} : SQ1.St X Q 13 := by
 intro γ listed a w o hF hC hW h1 ho h2
 obtain ⟨hd, hop, hg⟩ := fieldsL SQ1.isL (i := 13) rfl ho
 have e4 : a.eval (.tmp 4) = γ 1 := knownH hF ho h2 (SQ1.ini ok) ok.sz (by kernel_rfl)
 have e14 : a.eval (.tmp 14) = .agg #[.int .i64 (X.tx - X.sx), .int .i64 (X.ty - X.sy)] := knownH hF ho h2 (SQ1.ini ok) ok.sz (by kernel_rfl)
 have hs : upOf listed SQ1.acts 1 = true := up_yes hC ho h2 (j := 11) rfl [11] (by kernel_rfl) (by decide)
 have hno : upOf listed SQ1.acts 3 = false := up_self rfl (unl (hF.lt ho) h1)
 refine st_actH (k := 3) (ps := []) SQ1.nodup rfl (by kernel_rfl) hF hC h1 ho h2 (Or.inl hd) hg ?_
 intro K hK
 have hl := hW.l1 hs
 rw [hno] at hl
 obtain ⟨g, g1, g2, g3, zf, zc⟩ := hl
 rw [g1] at e4
 have z0 : w.cell? ⟨g, 0, none⟩ = some (.int .i64 0) := zc 0 (by decide)
 have z1 : w.cell? ⟨g, 1, none⟩ = some (.int .i64 0) := zc 1 (by decide)
 have hr : (execOp a.eval o).run Tryz.prog w = .ok .skip ((w.setCell ⟨g, 0, none⟩ (.int .i64 (X.tx - X.sx))).setCell ⟨g, 1, none⟩ (.int .i64 (X.ty - X.sy))) := by
  generalize a.eval = ρ at e4 e14 ⊢
  unfold execOp
  rw [hop]
  simp [e4, e14, z0, z1, zf, go_sem]
 unfold Oper.wp
 rw [hr]
 exact hK undef _ (hW.store1 hs rfl g1 undef)
theorem SQ1.rest (X : SQ1) (ok : SQ1Ok X) {Q : PQ} : ∀ i ∈ [4, 9, 10, 11, 12, 13], SQ1.St X Q i := by
 simp only [List.forall_mem_cons]
 exact ⟨st_callL SQ1.isL (SQ1.ini ok) ok.sz rfl (by kernel_rfl) (fun _ _ => by simp [go_sem]) (fun γ w S hW => ipls w _ _ _ _ ok.w0 ok.w1 ok.w2 ok.w3) (fun _ _ _ _ hW hk => hW.keep hk),
  st_callL SQ1.isL (SQ1.ini ok) ok.sz rfl (by kernel_rfl) (fun _ _ => by simp [go_sem]) (fun γ w S hW => imin2 w _ _ _ _ ok.w0 ok.w1 ok.w2 ok.w3) (fun _ _ _ _ hW hk => hW.keep hk),
  SQ1.s10 X ok,
  SQ1.s11 X ok,
  SQ1.s12 X ok,
  SQ1.s13 X ok, List.forall_mem_nil _⟩
theorem SQ1.size : (opsOf 1 Tryz.f94).size = 14 := by kernel_rfl
theorem SQ1.steps (X : SQ1) (ok : SQ1Ok X) {Q : PQ} (i : Nat) (hi : i < (opsOf 1 Tryz.f94).size) : SQ1.St X Q i := by
 rw [SQ1.size] at hi
 rcases (by decide : ∀ i, i < 14 → i ∈ [0, 1, 2, 3, 5, 6, 7, 8] ∨ i ∈ [4, 9, 10, 11, 12, 13]) i hi with h | h
 · exact SQ1.plain X ok i h
 · exact SQ1.rest X ok i h
theorem SQ1.run (X : SQ1) (ok : SQ1Ok X) {Q : PQ} (w : World) (h0 : Kp X.W w.drew) (hend : ∀ w' g0 g1, Kp X.W w' → X.W.heap.size ≤ g0 → X.W.heap.size ≤ g1 → g0 ≠ g1 → w'.cell? ⟨g0, 0, none⟩ = some (.int .i64 (X.tx + X.sx)) → w'.cell? ⟨g0, 1, none⟩ = some (.int .i64 (X.ty + X.sy)) → w'.cell? ⟨g1, 0, none⟩ = some (.int .i64 (X.tx - X.sx)) → w'.cell? ⟨g1, 1, none⟩ = some (.int .i64 (X.ty - X.sy)) → Q .normal ((((((((((((X.a0.put (some 5) (.pointer (some ⟨X.bt, 0, none⟩))).put (some 6) (.agg #[.int .i64 (X.tx), .int .i64 (X.ty)])).put (some 7) (.pointer (some ⟨X.bt, 2, none⟩))).put (some 8) (.agg #[.int .i64 (X.sx), .int .i64 (X.sy)])).put (some 9) (.agg #[.int .i64 (X.tx + X.sx), .int .i64 (X.ty + X.sy)])).put (some 10) (.pointer (some ⟨X.bt, 0, none⟩))).put (some 11) (.agg #[.int .i64 (X.tx), .int .i64 (X.ty)])).put (some 12) (.pointer (some ⟨X.bt, 2, none⟩))).put (some 13) (.agg #[.int .i64 (X.sx), .int .i64 (X.sy)])).put (some 14) (.agg #[.int .i64 (X.tx - X.sx), .int .i64 (X.ty - X.sy)])).put (some 3) (.pointer (some ⟨g0, 0, none⟩))).put (some 4) (.pointer (some ⟨g1, 0, none⟩))) w') : (Code.region 1 (opsOf 1 Tryz.f94) true).wp Tryz.prog Q X.a0 w := by
  refine reg_actH (acts := SQ1.acts) (av := SQ1.av) (ext := SQ1.ext) (val0 := X.val0) (Wd := X.Wd) (by kernel_rfl) (by kernel_rfl) (by rw [SQ1.size]; decide) (fun i hi => SQ1.steps X ok i hi) (fun _ => undef) (TwoWd.start _ _ _ _ _ _ h0) ?_
  intro S γ w' hS h
  obtain ⟨g0, g1, q0, q1, kp, ge0, ge1, gne, qa, qb⟩ := h.fin hS
  refine end_at (hend w' g0 g1 kp ge0 ge1 gne (qa 0 (by decide)) (qa 1 (by decide)) (qb 0 (by decide)) (qb 1 (by decide))) ?_
  rw [← q0, ← q1]
  kernel_rfl
def sines : List Int := [0, 6424, 12785, 19024, 25080, 30893, 36410, 41576, 46341, 50660, 54491, 57798, 60547, 62714, 64277, 65220, 65536]
def tb (k : Nat) : Int := sines.getD k 0
theorem tb_bd (k : Nat) : 0 ≤ tb k ∧ tb k ≤ 65536 := by
 by_cases h : k < 17
 ·have : ∀ i : Fin 17, 0 ≤ tb i ∧ tb i ≤ 65536 := by decide
  exact this ⟨k, h⟩
 ·unfold tb; rw [List.getD_eq_getElem?_getD, List.getElem?_eq_none (by show 17 ≤ k; omega)]; simp
def sineCells : Array Value := (sines.map (Value.int .i64)).toArray
theorem sineCells_get (k : Nat) (h : k < 17) : sineCells[k]? = some (.int .i64 (tb k)) := by
 unfold sineCells tb
 rw [List.getElem?_toArray, List.getElem?_map, List.getD_eq_getElem?_getD, List.getElem?_eq_getElem (show k < sines.length from h)]; rfl
set_option maxHeartbeats 400000 in
theorem sdown4_any (a : Int) (w : World) (h1 : -9223372036854775808 ≤ a) (h2 : a ≤ 9223372036854775807) :
  Calls Tryz.prog 86 #[.int .i64 a, .int .i64 4096] w fun e w' => e = .returned (.int .i64 (a / 4096)) ∧ w' = w := by
 by_cases ha : 0 ≤ a
 ·have hda : decide (a < 0) = false := by simp; omega
  by_cases hz : a % 4096 = 0
  ·have hq : (a % 4096 != 0) = false := by simp [hz]
   clear hz
   go_enter Tryz.func86, Tryz.ntmps86
   go_wp2
   go_ret
   exact ⟨rfl, rfl⟩
  ·have hq : (a % 4096 != 0) = true := by simp [hz]
   clear hz
   go_enter Tryz.func86, Tryz.ntmps86
   go_wp2
   go_ret
   exact ⟨rfl, rfl⟩
 ·have e1 := tdiv_neg_of a 4096 (by omega)
  have e2 := tmod_neg_of a 4096 (by omega)
  have hda : decide (a < 0) = true := by simp; omega
  have hq0 : 0 ≤ (-a) / 4096 ∧ (-a) / 4096 ≤ 4503599627370496 := by omega
  by_cases hz : (-a) % 4096 = 0
  ·have e3 : a / 4096 = -((-a) / 4096) := by omega
   rw [e3]
   clear e3
   rw [hz] at e2
   generalize (-a) / 4096 = q at *
   clear hz
   go_enter Tryz.func86, Tryz.ntmps86
   go_wp2
   go_ret
   exact ⟨rfl, rfl⟩
  ·have e3 : a / 4096 = -((-a) / 4096) - 1 := by omega
   rw [e3]
   clear e3
   have hr : 0 < (-a) % 4096 ∧ (-a) % 4096 < 4096 := by omega
   generalize (-a) / 4096 = q at *
   generalize (-a) % 4096 = r at *
   have hq : (-r != 0) = true := by simp; omega
   clear hz
   go_enter Tryz.func86, Tryz.ntmps86
   go_wp2
   go_ret
   exact ⟨rfl, rfl⟩
set_option maxHeartbeats 400000 in
theorem smod4_any (a : Int) (w : World) (h1 : -9223372036854775808 ≤ a) (h2 : a ≤ 9223372036854775807) :
  Calls Tryz.prog 132 #[.int .i64 a, .int .i64 4096] w fun e w' => e = .returned (.int .i64 (a % 4096)) ∧ w' = w := by
 have e : a % 4096 = a - 4096 * (a / 4096) := by omega
 have hb : -9223372036854775808 ≤ 4096 * (a / 4096) ∧ 4096 * (a / 4096) ≤ 9223372036854775807 := by omega
 have hc : 0 ≤ a - 4096 * (a / 4096) ∧ a - 4096 * (a / 4096) < 4096 := by omega
 rw [e]
 clear e
 go_enter Tryz.func132, Tryz.ntmps132
 go_wp2_with (go_at_call 86; refine (sdown4_any _ _ (by omega) (by omega)).mono ?_; rintro e w' ⟨rfl, rfl⟩)
 go_ret
 exact ⟨rfl, rfl⟩
set_option maxHeartbeats 800000 in
theorem table_any (w : World) :
  Calls Tryz.prog 133 #[] w fun e w' => e = .returned (.slice (some ⟨w.heap.size, 0, none⟩) 17 17) ∧ w' = w.alloc (.cells sineCells 3) := by
 go_enter Tryz.func133, Tryz.ntmps133
 go_wp2
 go_ret
 exact ⟨rfl, rfl⟩
def qsin (a : Int) : Int := if a = 1024 then 65536 else (tb (a / 64).toNat * (64 - a % 64) + tb ((a / 64).toNat + 1) * (a % 64) + 32) / 64
set_option maxHeartbeats 1000000 in
theorem ssin_top (w : World) : Calls Tryz.prog 124 #[.int .i64 1024] w fun e w' => e = .returned (.int .i64 (qsin 1024)) ∧ Kp w w' := by
 go_enter Tryz.func124, Tryz.ntmps124
 go_wp2_with (go_at_call 132; refine (smod4_any _ _ (by omega) (by omega)).mono ?_; rintro e w' ⟨rfl, rfl⟩)
 go_ret
 exact ⟨rfl, Kp.refl _⟩
set_option maxHeartbeats 1000000 in
theorem ssin_low (c : Int) (q : Nat) (r : Int) (w : World) (c1 : 0 ≤ c) (c2 : c < 100000) (e0 : c % 4096 = 64 * (q : Int) + r) (hq : q < 16) (h1 : 0 ≤ r) (h2 : r < 64) :
  Calls Tryz.prog 124 #[.int .i64 c] w fun e w' => e = .returned (.int .i64 ((tb q * (64 - r) + tb (q + 1) * r + 32) / 64)) ∧ Kp w w' := by
 have e1 : (64 * (q : Int) + r) / 64 = q := by omega
 have e2 : (64 * (q : Int) + r) % 64 = r := by omega
 have t0 := sineCells_get q (by omega)
 have t1 := sineCells_get (q + 1) (by omega)
 have b0 := tb_bd q
 have b1 := tb_bd (q + 1)
 generalize tb q = x at *
 generalize tb (q + 1) = y at *
 have m0 : 0 ≤ x * (64 - r) ∧ x * (64 - r) ≤ 65536 * 64 := ⟨Int.mul_nonneg b0.1 (by omega), by
  have := Int.mul_le_mul b0.2 (show (64 - r : Int) ≤ 64 by omega) (by omega) (by omega); omega⟩
 have m1 : 0 ≤ y * r ∧ y * r ≤ 65536 * 64 := ⟨Int.mul_nonneg b1.1 (by omega), by
  have := Int.mul_le_mul b1.2 (show (r : Int) ≤ 64 by omega) (by omega) (by omega); omega⟩
 go_enter Tryz.func124, Tryz.ntmps124
 go_wp2_with (first | (go_at_call 132; refine (smod4_any _ _ (by omega) (by omega)).mono ?_; rintro e w' ⟨rfl, rfl⟩; rw [e0]) | (go_at_call 133; refine (table_any _).mono ?_; rintro e w' ⟨rfl, rfl⟩))
 rw [e1, e2]
 have c0 : ∀ W : World, (W.alloc (.cells sineCells 3)).cell? ⟨W.heap.size, q, none⟩ = some (.int .i64 x) := by
  intro W; simp [t0]
 have c1 : ∀ W : World, (W.alloc (.cells sineCells 3)).cell? ⟨W.heap.size, q + 1, none⟩ = some (.int .i64 y) := by
  intro W; simp [t1]
 go_quiet (fail)
 go_wp2
 go_ret
 exact ⟨rfl, by repeat (first | exact Kp.refl _ | apply Kp.drew | apply Kp.drewN | apply Kp.alloc)⟩
theorem ssin_q (a : Int) (w : World) (h1 : 0 ≤ a) (h2 : a ≤ 1024) :
  Calls Tryz.prog 124 #[.int .i64 a] w fun e w' => e = .returned (.int .i64 (qsin a)) ∧ Kp w w' := by
 by_cases h : a = 1024
 ·subst h; exact ssin_top w
 ·have e : a = 64 * ((a / 64).toNat : Int) + a % 64 := by omega
  have k := ssin_low a (a / 64).toNat (a % 64) w (by omega) (by omega) (by omega) (by omega) (by omega) (by omega)
  unfold qsin
  rw [if_neg h]
  exact k
def hsin (a : Int) : Int := if a ≤ 1024 then qsin a else qsin (2048 - a)
def asin (a : Int) : Int := if a < 2048 then hsin a else - hsin (a - 2048)
theorem qsin_bd (a : Int) (h1 : 0 ≤ a) (h2 : a ≤ 1024) : 0 ≤ qsin a ∧ qsin a ≤ 200000 := by
 unfold qsin
 split
 ·omega
 ·have b0 := tb_bd (a / 64).toNat
  have b1 := tb_bd ((a / 64).toNat + 1)
  generalize tb (a / 64).toNat = x at *
  generalize tb ((a / 64).toNat + 1) = y at *
  have hr : 0 ≤ a % 64 ∧ a % 64 < 64 := by omega
  generalize a % 64 = r at *
  have m0 : 0 ≤ x * (64 - r) ∧ x * (64 - r) ≤ 65536 * 64 := ⟨Int.mul_nonneg b0.1 (by omega), by
   have := Int.mul_le_mul b0.2 (show (64 - r : Int) ≤ 64 by omega) (by omega) (by omega); omega⟩
  have m1 : 0 ≤ y * r ∧ y * r ≤ 65536 * 64 := ⟨Int.mul_nonneg b1.1 (by omega), by
   have := Int.mul_le_mul b1.2 (show (r : Int) ≤ 64 by omega) (by omega) (by omega); omega⟩
  omega
theorem hsin_bd (a : Int) (h1 : 0 ≤ a) (h2 : a ≤ 2048) : 0 ≤ hsin a ∧ hsin a ≤ 200000 := by
 unfold hsin; split
 ·exact qsin_bd _ h1 (by omega)
 ·exact qsin_bd _ (by omega) (by omega)
set_option maxHeartbeats 1000000 in
theorem ssin_h (a : Int) (w : World) (h1 : 0 ≤ a) (h2 : a < 2048) :
  Calls Tryz.prog 124 #[.int .i64 a] w fun e w' => e = .returned (.int .i64 (hsin a)) ∧ Kp w w' := by
 unfold hsin
 by_cases h : a ≤ 1024
 ·rw [if_pos h]; exact ssin_q a w h1 h
 ·rw [if_neg h]
  have e0 : a % 4096 = a := by omega
  have b := qsin_bd (2048 - a) (by omega) (by omega)
  have K : Hid _ := ssin_q (2048 - a) w (by omega) (by omega)
  generalize qsin (2048 - a) = v at *
  go_enter Tryz.func124, Tryz.ntmps124
  go_wp2_with (go_at_call 132; refine (smod4_any _ _ (by omega) (by omega)).mono ?_; rintro e w' ⟨rfl, rfl⟩; rw [e0])
  refine Calls.mono K.out ?_
  rintro e w1 ⟨rfl, hk⟩
  have HK : Hid _ := hk
  clear hk
  go_wp2
  go_ret
  exact ⟨rfl, HK.out⟩
set_option maxHeartbeats 1000000 in
theorem ssin_a (a m : Int) (w : World) (hm : a % 4096 = m) (h1 : 0 ≤ a) (h2 : a < 100000) (h3 : 2048 ≤ m) :
  Calls Tryz.prog 124 #[.int .i64 a] w fun e w' => e = .returned (.int .i64 (-hsin (m - 2048))) ∧ Kp w w' := by
 have hm2 : m < 4096 := by omega
 have b := hsin_bd (m - 2048) (by omega) (by omega)
 have K : Hid _ := ssin_h (m - 2048) w (by omega) (by omega)
 generalize hsin (m - 2048) = v at *
 go_enter Tryz.func124, Tryz.ntmps124
 go_wp2_with (go_at_call 132; refine (smod4_any _ _ (by omega) (by omega)).mono ?_; rintro e w' ⟨rfl, rfl⟩; rw [hm])
 refine Calls.mono K.out ?_
 rintro e w1 ⟨rfl, hk⟩
 have HK : Hid _ := hk
 clear hk
 go_wp2
 go_ret
 exact ⟨rfl, HK.out⟩
theorem ssin_any (a : Int) (w : World) (h1 : 0 ≤ a) (h2 : a < 4096) :
  Calls Tryz.prog 124 #[.int .i64 a] w fun e w' => e = .returned (.int .i64 (asin a)) ∧ Kp w w' := by
 unfold asin
 by_cases h : a < 2048
 ·rw [if_pos h]; exact ssin_h a w h1 h
 ·rw [if_neg h]; exact ssin_a a a w (by omega) h1 (by omega) (by omega)
set_option maxHeartbeats 1000000 in
theorem scos_any (a : Int) (w : World) (h1 : -9223372036854775808 ≤ a) (h2 : a ≤ 9223372036854775807) :
  Calls Tryz.prog 123 #[.int .i64 a] w fun e w' => e = .returned (.int .i64 (asin ((a + 1024) % 4096))) ∧ Kp w w' := by
 have hr : 0 ≤ a % 4096 ∧ a % 4096 < 4096 := by omega
 have K : Hid (∀ W, Calls Tryz.prog 124 #[.int .i64 (a % 4096 + 1024)] W fun e w' => e = .returned (.int .i64 (asin ((a + 1024) % 4096))) ∧ Kp W w') := by
  show ∀ W, Calls Tryz.prog 124 #[.int .i64 (a % 4096 + 1024)] W fun e w' => e = .returned (.int .i64 (asin ((a + 1024) % 4096))) ∧ Kp W w'
  intro W
  have em : (a + 1024) % 4096 = (a % 4096 + 1024) % 4096 := by omega
  rw [em]
  clear em
  generalize a % 4096 = m at *
  by_cases h : m + 1024 < 4096
  ·have := ssin_any (m + 1024) W (by omega) (by omega)
   rw [Int.emod_eq_of_lt (by omega) h]; exact this
  ·have e : (m + 1024) % 4096 = m - 3072 := by omega
   rw [e]
   have k := ssin_low (m + 1024) ((m - 3072) / 64).toNat ((m - 3072) % 64) W (by omega) (by omega) (by omega) (by omega) (by omega) (by omega)
   unfold asin
   rw [if_pos (by omega)]
   unfold hsin
   rw [if_pos (by omega)]
   unfold qsin
   rw [if_neg (by omega)]
   exact k
 go_enter Tryz.func123, Tryz.ntmps123
 go_wp2_with (go_at_call 132; refine (smod4_any _ _ (by omega) (by omega)).mono ?_; rintro e w' ⟨rfl, rfl⟩)
 refine Calls.mono (K.out _) ?_
 rintro e w1 ⟨rfl, hk⟩
 have HK : Hid _ := hk
 clear hk
 go_wp2
 go_ret
 exact ⟨rfl, HK.out⟩
end Go.Proofs.YtnkeljmecbohkaaGreat
