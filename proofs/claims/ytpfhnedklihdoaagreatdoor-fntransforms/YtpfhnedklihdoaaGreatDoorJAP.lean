/-
  The statements of l7One that draw their order; each theorem names its conditions.
  What the specification makes of one word of a transform, some of the ways; each theorem names its conditions.
  What the specification makes of one word of a transform, some of the ways; each theorem names its conditions.
  What the specification makes of one word of a transform, some of the ways; each theorem names its conditions.
-/
import Derived.Test.YtpfhnedklihdoaaGreatDoorJAM
import Derived.Test.YtpfhnedklihdoaaGreatDoorJAO
namespace Go.Proofs.YtpfhnedklihdoaaGreatDoor
open Go.ChangeShapes Go.WideShapes Go.ChangeAt Go.RowKit
set_option linter.unusedVariables false
set_option linter.unusedSimpArgs false

structure OM where
 x0 : Int
 x1 : Int
 x2 : Int
 x3 : Int
 x4 : Int
 x5 : Int
 g : Nat
 n : Nat
 c : Nat
 bP : Nat
 W : World
 a0 : Act
structure OMOk (X : OM) : Prop where
 c0 : X.W.cell? ⟨X.g, 0, none⟩ = some (.int .i64 X.x0)
 c1 : X.W.cell? ⟨X.g, 1, none⟩ = some (.int .i64 X.x1)
 c2 : X.W.cell? ⟨X.g, 2, none⟩ = some (.int .i64 X.x2)
 c3 : X.W.cell? ⟨X.g, 3, none⟩ = some (.int .i64 X.x3)
 c4 : X.W.cell? ⟨X.g, 4, none⟩ = some (.int .i64 X.x4)
 c5 : X.W.cell? ⟨X.g, 5, none⟩ = some (.int .i64 X.x5)
 n0 : ¬ X.n = 0
 b0 : (0 : Int) < (X.n : Int)
 b1 : (1 : Int) < (X.n : Int)
 b2 : (2 : Int) < (X.n : Int)
 b3 : (3 : Int) < (X.n : Int)
 b4 : (4 : Int) < (X.n : Int)
 b5 : (5 : Int) < (X.n : Int)
 z0 : ∃ u, X.W.cell? ⟨X.bP, 0, none⟩ = some u
 z1 : ∃ u, X.W.cell? ⟨X.bP, 1, none⟩ = some u
 z2 : ∃ u, X.W.cell? ⟨X.bP, 2, none⟩ = some u
 z3 : ∃ u, X.W.cell? ⟨X.bP, 3, none⟩ = some u
 z4 : ∃ u, X.W.cell? ⟨X.bP, 4, none⟩ = some u
 z5 : ∃ u, X.W.cell? ⟨X.bP, 5, none⟩ = some u
 zf : ∀ o, X.W.frozen? ⟨X.bP, o, none⟩ = false
 e1 : X.a0.eval (.tmp 1) = .slice (some ⟨X.g, 0, none⟩) X.n X.c
 e6 : X.a0.eval (.tmp 6) = .pointer (some ⟨X.bP, 0, none⟩)
 sz : X.a0.tmps.size = 199
def OM.val0 (X : OM) : Nat → Value
 | 1 => .slice (some ⟨X.g, 0, none⟩) X.n X.c
 | 6 => .pointer (some ⟨X.bP, 0, none⟩)
 | 141 => .slice (some ⟨X.g, 0, none⟩) X.n X.c
 | 142 => .pointer (some ⟨X.g, 0, none⟩)
 | 143 => .int .i64 X.x0
 | 144 => .slice (some ⟨X.g, 0, none⟩) X.n X.c
 | 145 => .pointer (some ⟨X.g, 1, none⟩)
 | 146 => .int .i64 X.x1
 | 147 => .slice (some ⟨X.g, 0, none⟩) X.n X.c
 | 148 => .pointer (some ⟨X.g, 2, none⟩)
 | 149 => .int .i64 X.x2
 | 150 => .slice (some ⟨X.g, 0, none⟩) X.n X.c
 | 151 => .pointer (some ⟨X.g, 3, none⟩)
 | 152 => .int .i64 X.x3
 | 153 => .slice (some ⟨X.g, 0, none⟩) X.n X.c
 | 154 => .pointer (some ⟨X.g, 4, none⟩)
 | 155 => .int .i64 X.x4
 | 156 => .slice (some ⟨X.g, 0, none⟩) X.n X.c
 | 157 => .pointer (some ⟨X.g, 5, none⟩)
 | 158 => .int .i64 X.x5
 | 159 => .agg #[.int .i64 X.x0, .int .i64 X.x1, .int .i64 X.x2, .int .i64 X.x3, .int .i64 X.x4, .int .i64 X.x5]
 | _ => undef
def OM.av : Nat → Option Nat
 | _ => none
def OM.acts : List Nat := [19]
/-- The world, by how many of the acting ones have come up. -/
def OM.Wd (X : OM) : Nat → (Nat → Value) → World → Prop
  | 0, _, w => Kp X.W w
  | _, _, w => ∃ w1, Kp X.W w1 ∧ w = ((((((w1.setCell ⟨X.bP, 0, none⟩ (.int .i64 X.x0)).setCell ⟨X.bP, 1, none⟩ (.int .i64 X.x1)).setCell ⟨X.bP, 2, none⟩ (.int .i64 X.x2)).setCell ⟨X.bP, 3, none⟩ (.int .i64 X.x3)).setCell ⟨X.bP, 4, none⟩ (.int .i64 X.x4)).setCell ⟨X.bP, 5, none⟩ (.int .i64 X.x5))
theorem OM.chain : chainG (opsOf 28 Tryz.f71) OM.acts = true := by kernel_rfl
theorem OM.nodup : OM.acts.Nodup := by decide
def OM.L : List (Option Nat × Op × Option (Nat × Bool)) := [
 (some 141, .move (.tmp 1), none),
 (some 142, .indexAddr 31 (.tmp 141) (.const (.int .i64 0)), none),
 (some 143, .load 3 (.tmp 142), none),
 (some 144, .move (.tmp 1), none),
 (some 145, .indexAddr 31 (.tmp 144) (.const (.int .i64 1)), none),
 (some 146, .load 3 (.tmp 145), none),
 (some 147, .move (.tmp 1), none),
 (some 148, .indexAddr 31 (.tmp 147) (.const (.int .i64 2)), none),
 (some 149, .load 3 (.tmp 148), none),
 (some 150, .move (.tmp 1), none),
 (some 151, .indexAddr 31 (.tmp 150) (.const (.int .i64 3)), none),
 (some 152, .load 3 (.tmp 151), none),
 (some 153, .move (.tmp 1), none),
 (some 154, .indexAddr 31 (.tmp 153) (.const (.int .i64 4)), none),
 (some 155, .load 3 (.tmp 154), none),
 (some 156, .move (.tmp 1), none),
 (some 157, .indexAddr 31 (.tmp 156) (.const (.int .i64 5)), none),
 (some 158, .load 3 (.tmp 157), none),
 (some 159, .build 24 #[(0, (.tmp 143)), (1, (.tmp 146)), (2, (.tmp 149)), (3, (.tmp 152)), (4, (.tmp 155)), (5, (.tmp 158))], none),
 (none, .store 24 (.tmp 6) (.tmp 159), none)]
theorem OM.isL : (opsOf 28 Tryz.f71).toList.map tri = OM.L := by kernel_rfl
theorem OM.ini {X : OM} (ok : OMOk X) : ∀ n ∈ [1, 6], X.a0.eval (.tmp n) = X.val0 n := by
 simp only [List.forall_mem_cons]
 exact ⟨ok.e1, ok.e6, List.forall_mem_nil _⟩
abbrev OM.St (X : OM) (Q : Exit → Act → World → Prop) (i : Nat) : Prop := StepG (opsOf 28 Tryz.f71) OM.acts OM.av X.val0 X.Wd X.a0 Q i
theorem OM.plain (X : OM) (ok : OMOk X) {Q : Exit → Act → World → Prop} : ∀ i ∈ [0, 1, 3, 4, 6, 7, 9, 10, 12, 13, 15, 16, 18], OM.St X Q i := by
 simp only [List.forall_mem_cons]
 refine ⟨?_, ?_, ?_, ?_, ?_, ?_, ?_, ?_, ?_, ?_, ?_, ?_, ?_, List.forall_mem_nil _⟩
 all_goals
  refine st_plain OM.isL (OM.ini ok) ok.sz rfl (by kernel_rfl) ?_
  intro γ w n o hW hop
  unfold execOp
  rw [hop]
  simp [envR, valG, OM.av, OM.val0, ok.b0, ok.n0, ok.b1, ok.b2, ok.b3, ok.b4, ok.b5, go_sem]
theorem OM.early (X : OM) (ok : OMOk X) {Q : Exit → Act → World → Prop} : ∀ i ∈ [2, 5, 8, 11, 14, 17], OM.St X Q i := by
 simp only [List.forall_mem_cons]
 refine ⟨?_, ?_, ?_, ?_, ?_, ?_, List.forall_mem_nil _⟩
 all_goals
  refine st_plainM (m := 0) OM.isL (OM.ini ok) ok.sz rfl (by kernel_rfl) ?_
  intro γ w n o hn hW hop
  obtain rfl : n = 0 := by omega
  have hk : Kp X.W w := hW
  have hc_c0 := rq_at hk ok.c0
  have hc_c1 := rq_at hk ok.c1
  have hc_c2 := rq_at hk ok.c2
  have hc_c3 := rq_at hk ok.c3
  have hc_c4 := rq_at hk ok.c4
  have hc_c5 := rq_at hk ok.c5
  unfold execOp
  rw [hop]
  simp [envR, valG, OM.av, OM.val0, hc_c0, hc_c1, hc_c2, hc_c3, hc_c4, hc_c5, go_sem]
theorem OM.s19 (X : OM) (ok : OMOk X) {Q : Exit → Act → World → Prop} : OM.St X Q 19 := by
 intro γ listed a w o hF hC hW h1 ho h2
 obtain ⟨hd, hop, hg⟩ := fieldsL OM.isL (i := 19) rfl ho
 have e6 : a.eval (.tmp 6) = .pointer (some ⟨X.bP, 0, none⟩) := known hF ho h2 (OM.ini ok) ok.sz (by kernel_rfl)
 have e159 : a.eval (.tmp 159) = .agg #[.int .i64 X.x0, .int .i64 X.x1, .int .i64 X.x2, .int .i64 X.x3, .int .i64 X.x4, .int .i64 X.x5] := known hF ho h2 (OM.ini ok) ok.sz (by kernel_rfl)
 have hu := unl (hF.lt ho) h1
 refine st_actG (k := 0) OM.chain OM.nodup rfl hF hC hW h1 ho h2 (Or.inl hd) (injG (by kernel_rfl) hu) hg ?_
 intro hW0 K hK
 obtain ⟨u0, z0⟩ := ok.z0
 replace z0 := rq_at hW0 z0
 obtain ⟨u1, z1⟩ := ok.z1
 replace z1 := rq_at hW0 z1
 obtain ⟨u2, z2⟩ := ok.z2
 replace z2 := rq_at hW0 z2
 obtain ⟨u3, z3⟩ := ok.z3
 replace z3 := rq_at hW0 z3
 obtain ⟨u4, z4⟩ := ok.z4
 replace z4 := rq_at hW0 z4
 obtain ⟨u5, z5⟩ := ok.z5
 replace z5 := rq_at hW0 z5
 have zf : ∀ o, w.frozen? ⟨X.bP, o, none⟩ = false := fun o => (hW0.cells.2 _ _).trans (ok.zf o)
 have hr : (execOp a.eval o).run Tryz.prog w = .ok .skip ((((((w.setCell ⟨X.bP, 0, none⟩ (.int .i64 X.x0)).setCell ⟨X.bP, 1, none⟩ (.int .i64 X.x1)).setCell ⟨X.bP, 2, none⟩ (.int .i64 X.x2)).setCell ⟨X.bP, 3, none⟩ (.int .i64 X.x3)).setCell ⟨X.bP, 4, none⟩ (.int .i64 X.x4)).setCell ⟨X.bP, 5, none⟩ (.int .i64 X.x5)) := by
  generalize a.eval = ρ at e6 e159 ⊢
  unfold execOp
  rw [hop]
  simp [e6, e159, z0, z1, z2, z3, z4, z5, zf, go_sem]
 unfold Oper.wp
 rw [hr]
 exact hK _ _ ⟨w, hW0, rfl⟩
theorem OM.size : (opsOf 28 Tryz.f71).size = 20 := by kernel_rfl
theorem OM.rest (X : OM) (ok : OMOk X) {Q : Exit → Act → World → Prop} : ∀ i ∈ [19], OM.St X Q i := by
 simp only [List.forall_mem_cons]
 exact ⟨OM.s19 X ok, List.forall_mem_nil _⟩
theorem OM.steps (X : OM) (ok : OMOk X) {Q : Exit → Act → World → Prop} (i : Nat) (hi : i < (opsOf 28 Tryz.f71).size) : OM.St X Q i := by
 rw [OM.size] at hi
 rcases (by decide : ∀ i, i < 20 → i ∈ [0, 1, 3, 4, 6, 7, 9, 10, 12, 13, 15, 16, 18] ∨ i ∈ [2, 5, 8, 11, 14, 17] ∨ i ∈ [19]) i hi with h | h | h
 · exact OM.plain X ok i h
 · exact OM.early X ok i h
 · exact OM.rest X ok i h
/-- The region, whatever order comes up. -/
theorem OM.run (X : OM) (ok : OMOk X) {Q : Exit → Act → World → Prop} (w : World) (h0 : X.Wd 0 (fun _ => undef) w.drew) (hend : ∀ (γ : Nat → Value) w', X.Wd 1 γ w' → Q .normal (((((((((((((((((((X.a0.put (some 141) (.slice (some ⟨X.g, 0, none⟩) X.n X.c)).put (some 142) (.pointer (some ⟨X.g, 0, none⟩))).put (some 143) (.int .i64 X.x0)).put (some 144) (.slice (some ⟨X.g, 0, none⟩) X.n X.c)).put (some 145) (.pointer (some ⟨X.g, 1, none⟩))).put (some 146) (.int .i64 X.x1)).put (some 147) (.slice (some ⟨X.g, 0, none⟩) X.n X.c)).put (some 148) (.pointer (some ⟨X.g, 2, none⟩))).put (some 149) (.int .i64 X.x2)).put (some 150) (.slice (some ⟨X.g, 0, none⟩) X.n X.c)).put (some 151) (.pointer (some ⟨X.g, 3, none⟩))).put (some 152) (.int .i64 X.x3)).put (some 153) (.slice (some ⟨X.g, 0, none⟩) X.n X.c)).put (some 154) (.pointer (some ⟨X.g, 4, none⟩))).put (some 155) (.int .i64 X.x4)).put (some 156) (.slice (some ⟨X.g, 0, none⟩) X.n X.c)).put (some 157) (.pointer (some ⟨X.g, 5, none⟩))).put (some 158) (.int .i64 X.x5)).put (some 159) (.agg #[.int .i64 X.x0, .int .i64 X.x1, .int .i64 X.x2, .int .i64 X.x3, .int .i64 X.x4, .int .i64 X.x5])) w') : (Code.region 28 (opsOf 28 Tryz.f71) true).wp Tryz.prog Q X.a0 w := by
 refine reg_act (acts := OM.acts) (av := OM.av) (val0 := X.val0) (Wd := X.Wd) (by kernel_rfl) (by kernel_rfl) (by rw [OM.size]; decide) (fun i hi => OM.steps X ok i hi) _ h0 ?_
 intro γ w' h
 exact end_at (hend γ w' h) (by kernel_rfl)
structure OR where
 x0 : Int
 x1 : Int
 x2 : Int
 x3 : Int
 x4 : Int
 x5 : Int
 y0 : Int
 y1 : Int
 y2 : Int
 y3 : Int
 y4 : Int
 y5 : Int
 m0 : Int
 m1 : Int
 m2 : Int
 m3 : Int
 m4 : Int
 m5 : Int
 z0 : Int
 z1 : Int
 z2 : Int
 z3 : Int
 z4 : Int
 z5 : Int
 r0 : Int
 r1 : Int
 r2 : Int
 r3 : Int
 r4 : Int
 r5 : Int
 bT : Nat
 bP : Nat
 bB : Nat
 W : World
 a0 : Act
structure OROk (X : OR) : Prop where
 t0 : X.W.cell? ⟨X.bT, 0, none⟩ = some (.int .i64 X.x0)
 t1 : X.W.cell? ⟨X.bT, 1, none⟩ = some (.int .i64 X.x1)
 t2 : X.W.cell? ⟨X.bT, 2, none⟩ = some (.int .i64 X.x2)
 t3 : X.W.cell? ⟨X.bT, 3, none⟩ = some (.int .i64 X.x3)
 t4 : X.W.cell? ⟨X.bT, 4, none⟩ = some (.int .i64 X.x4)
 t5 : X.W.cell? ⟨X.bT, 5, none⟩ = some (.int .i64 X.x5)
 p0 : X.W.cell? ⟨X.bP, 0, none⟩ = some (.int .i64 X.y0)
 p1 : X.W.cell? ⟨X.bP, 1, none⟩ = some (.int .i64 X.y1)
 p2 : X.W.cell? ⟨X.bP, 2, none⟩ = some (.int .i64 X.y2)
 p3 : X.W.cell? ⟨X.bP, 3, none⟩ = some (.int .i64 X.y3)
 p4 : X.W.cell? ⟨X.bP, 4, none⟩ = some (.int .i64 X.y4)
 p5 : X.W.cell? ⟨X.bP, 5, none⟩ = some (.int .i64 X.y5)
 q0 : X.W.cell? ⟨X.bB, 0, none⟩ = some (.int .i64 X.z0)
 q1 : X.W.cell? ⟨X.bB, 1, none⟩ = some (.int .i64 X.z1)
 q2 : X.W.cell? ⟨X.bB, 2, none⟩ = some (.int .i64 X.z2)
 q3 : X.W.cell? ⟨X.bB, 3, none⟩ = some (.int .i64 X.z3)
 q4 : X.W.cell? ⟨X.bB, 4, none⟩ = some (.int .i64 X.z4)
 q5 : X.W.cell? ⟨X.bB, 5, none⟩ = some (.int .i64 X.z5)
 h1 : ∀ w, Calls Tryz.prog 15 #[.agg #[.int .i64 X.x0, .int .i64 X.x1, .int .i64 X.x2, .int .i64 X.x3, .int .i64 X.x4, .int .i64 X.x5], .agg #[.int .i64 X.y0, .int .i64 X.y1, .int .i64 X.y2, .int .i64 X.y3, .int .i64 X.y4, .int .i64 X.y5]] w fun e w' => e = .returned (.agg #[.int .i64 X.m0, .int .i64 X.m1, .int .i64 X.m2, .int .i64 X.m3, .int .i64 X.m4, .int .i64 X.m5]) ∧ Kp w w'
 h2 : ∀ w, Calls Tryz.prog 15 #[.agg #[.int .i64 X.m0, .int .i64 X.m1, .int .i64 X.m2, .int .i64 X.m3, .int .i64 X.m4, .int .i64 X.m5], .agg #[.int .i64 X.z0, .int .i64 X.z1, .int .i64 X.z2, .int .i64 X.z3, .int .i64 X.z4, .int .i64 X.z5]] w fun e w' => e = .returned (.agg #[.int .i64 X.r0, .int .i64 X.r1, .int .i64 X.r2, .int .i64 X.r3, .int .i64 X.r4, .int .i64 X.r5]) ∧ Kp w w'
 z0 : ∃ u, X.W.cell? ⟨X.bP, 0, none⟩ = some u
 z1 : ∃ u, X.W.cell? ⟨X.bP, 1, none⟩ = some u
 z2 : ∃ u, X.W.cell? ⟨X.bP, 2, none⟩ = some u
 z3 : ∃ u, X.W.cell? ⟨X.bP, 3, none⟩ = some u
 z4 : ∃ u, X.W.cell? ⟨X.bP, 4, none⟩ = some u
 z5 : ∃ u, X.W.cell? ⟨X.bP, 5, none⟩ = some u
 zf : ∀ o, X.W.frozen? ⟨X.bP, o, none⟩ = false
 e6 : X.a0.eval (.tmp 6) = .pointer (some ⟨X.bP, 0, none⟩)
 e8 : X.a0.eval (.tmp 8) = .pointer (some ⟨X.bT, 0, none⟩)
 e9 : X.a0.eval (.tmp 9) = .pointer (some ⟨X.bB, 0, none⟩)
 sz : X.a0.tmps.size = 199
def OR.val0 (X : OR) : Nat → Value
 | 6 => .pointer (some ⟨X.bP, 0, none⟩)
 | 8 => .pointer (some ⟨X.bT, 0, none⟩)
 | 9 => .pointer (some ⟨X.bB, 0, none⟩)
 | 128 => .agg #[.int .i64 X.x0, .int .i64 X.x1, .int .i64 X.x2, .int .i64 X.x3, .int .i64 X.x4, .int .i64 X.x5]
 | 129 => .agg #[.int .i64 X.y0, .int .i64 X.y1, .int .i64 X.y2, .int .i64 X.y3, .int .i64 X.y4, .int .i64 X.y5]
 | 130 => .agg #[.int .i64 X.m0, .int .i64 X.m1, .int .i64 X.m2, .int .i64 X.m3, .int .i64 X.m4, .int .i64 X.m5]
 | 131 => .agg #[.int .i64 X.z0, .int .i64 X.z1, .int .i64 X.z2, .int .i64 X.z3, .int .i64 X.z4, .int .i64 X.z5]
 | 132 => .agg #[.int .i64 X.r0, .int .i64 X.r1, .int .i64 X.r2, .int .i64 X.r3, .int .i64 X.r4, .int .i64 X.r5]
 | _ => undef
def OR.av : Nat → Option Nat
 | _ => none
def OR.acts : List Nat := [5]
/-- The world, by how many of the acting ones have come up. -/
def OR.Wd (X : OR) : Nat → (Nat → Value) → World → Prop
  | 0, _, w => Kp X.W w
  | _, _, w => ∃ w1, Kp X.W w1 ∧ w = ((((((w1.setCell ⟨X.bP, 0, none⟩ (.int .i64 X.r0)).setCell ⟨X.bP, 1, none⟩ (.int .i64 X.r1)).setCell ⟨X.bP, 2, none⟩ (.int .i64 X.r2)).setCell ⟨X.bP, 3, none⟩ (.int .i64 X.r3)).setCell ⟨X.bP, 4, none⟩ (.int .i64 X.r4)).setCell ⟨X.bP, 5, none⟩ (.int .i64 X.r5))
theorem OR.chain : chainG (opsOf 26 Tryz.f71) OR.acts = true := by kernel_rfl
theorem OR.nodup : OR.acts.Nodup := by decide
def OR.L : List (Option Nat × Op × Option (Nat × Bool)) := [
 (some 128, .load 24 (.tmp 8), none),
 (some 129, .load 24 (.tmp 6), none),
 (some 130, .call { callee := .value (.func 15), args := #[(.tmp 128), (.tmp 129)], argTypes := #[24, 24] }, none),
 (some 131, .load 24 (.tmp 9), none),
 (some 132, .call { callee := .value (.func 15), args := #[(.tmp 130), (.tmp 131)], argTypes := #[24, 24] }, none),
 (none, .store 24 (.tmp 6) (.tmp 132), none)]
theorem OR.isL : (opsOf 26 Tryz.f71).toList.map tri = OR.L := by kernel_rfl
theorem OR.ini {X : OR} (ok : OROk X) : ∀ n ∈ [6, 8, 9], X.a0.eval (.tmp n) = X.val0 n := by
 simp only [List.forall_mem_cons]
 exact ⟨ok.e6, ok.e8, ok.e9, List.forall_mem_nil _⟩
abbrev OR.St (X : OR) (Q : Exit → Act → World → Prop) (i : Nat) : Prop := StepG (opsOf 26 Tryz.f71) OR.acts OR.av X.val0 X.Wd X.a0 Q i
theorem OR.early (X : OR) (ok : OROk X) {Q : Exit → Act → World → Prop} : ∀ i ∈ [0, 1, 3], OR.St X Q i := by
 simp only [List.forall_mem_cons]
 refine ⟨?_, ?_, ?_, List.forall_mem_nil _⟩
 all_goals
  refine st_plainM (m := 0) OR.isL (OR.ini ok) ok.sz rfl (by kernel_rfl) ?_
  intro γ w n o hn hW hop
  obtain rfl : n = 0 := by omega
  have hk : Kp X.W w := hW
  have hc_t0 := rq_at hk ok.t0
  have hc_t1 := rq_at hk ok.t1
  have hc_t2 := rq_at hk ok.t2
  have hc_t3 := rq_at hk ok.t3
  have hc_t4 := rq_at hk ok.t4
  have hc_t5 := rq_at hk ok.t5
  have hc_p0 := rq_at hk ok.p0
  have hc_p1 := rq_at hk ok.p1
  have hc_p2 := rq_at hk ok.p2
  have hc_p3 := rq_at hk ok.p3
  have hc_p4 := rq_at hk ok.p4
  have hc_p5 := rq_at hk ok.p5
  have hc_q0 := rq_at hk ok.q0
  have hc_q1 := rq_at hk ok.q1
  have hc_q2 := rq_at hk ok.q2
  have hc_q3 := rq_at hk ok.q3
  have hc_q4 := rq_at hk ok.q4
  have hc_q5 := rq_at hk ok.q5
  unfold execOp
  rw [hop]
  simp [envR, valG, OR.av, OR.val0, hc_t0, hc_t1, hc_t2, hc_t3, hc_t4, hc_t5, hc_p0, hc_p1, hc_p2, hc_p3, hc_p4, hc_p5, hc_q0, hc_q1, hc_q2, hc_q3, hc_q4, hc_q5, go_sem]
theorem OR.s5 (X : OR) (ok : OROk X) {Q : Exit → Act → World → Prop} : OR.St X Q 5 := by
 intro γ listed a w o hF hC hW h1 ho h2
 obtain ⟨hd, hop, hg⟩ := fieldsL OR.isL (i := 5) rfl ho
 have e6 : a.eval (.tmp 6) = .pointer (some ⟨X.bP, 0, none⟩) := known hF ho h2 (OR.ini ok) ok.sz (by kernel_rfl)
 have e132 : a.eval (.tmp 132) = .agg #[.int .i64 X.r0, .int .i64 X.r1, .int .i64 X.r2, .int .i64 X.r3, .int .i64 X.r4, .int .i64 X.r5] := known hF ho h2 (OR.ini ok) ok.sz (by kernel_rfl)
 have hu := unl (hF.lt ho) h1
 refine st_actG (k := 0) OR.chain OR.nodup rfl hF hC hW h1 ho h2 (Or.inl hd) (injG (by kernel_rfl) hu) hg ?_
 intro hW0 K hK
 obtain ⟨u0, z0⟩ := ok.z0
 replace z0 := rq_at hW0 z0
 obtain ⟨u1, z1⟩ := ok.z1
 replace z1 := rq_at hW0 z1
 obtain ⟨u2, z2⟩ := ok.z2
 replace z2 := rq_at hW0 z2
 obtain ⟨u3, z3⟩ := ok.z3
 replace z3 := rq_at hW0 z3
 obtain ⟨u4, z4⟩ := ok.z4
 replace z4 := rq_at hW0 z4
 obtain ⟨u5, z5⟩ := ok.z5
 replace z5 := rq_at hW0 z5
 have zf : ∀ o, w.frozen? ⟨X.bP, o, none⟩ = false := fun o => (hW0.cells.2 _ _).trans (ok.zf o)
 have hr : (execOp a.eval o).run Tryz.prog w = .ok .skip ((((((w.setCell ⟨X.bP, 0, none⟩ (.int .i64 X.r0)).setCell ⟨X.bP, 1, none⟩ (.int .i64 X.r1)).setCell ⟨X.bP, 2, none⟩ (.int .i64 X.r2)).setCell ⟨X.bP, 3, none⟩ (.int .i64 X.r3)).setCell ⟨X.bP, 4, none⟩ (.int .i64 X.r4)).setCell ⟨X.bP, 5, none⟩ (.int .i64 X.r5)) := by
  generalize a.eval = ρ at e6 e132 ⊢
  unfold execOp
  rw [hop]
  simp [e6, e132, z0, z1, z2, z3, z4, z5, zf, go_sem]
 unfold Oper.wp
 rw [hr]
 exact hK _ _ ⟨w, hW0, rfl⟩
theorem OR.size : (opsOf 26 Tryz.f71).size = 6 := by kernel_rfl
theorem OR.rest (X : OR) (ok : OROk X) {Q : Exit → Act → World → Prop} : ∀ i ∈ [2, 4, 5], OR.St X Q i := by
 simp only [List.forall_mem_cons]
 exact ⟨st_callZ OR.isL (OR.ini ok) ok.sz rfl (by kernel_rfl) (fun _ _ => by simp [go_sem]) (fun γ w hW => ok.h1 w) (fun _ _ _ hW hk => Kp.trans hW hk),
  st_callZ OR.isL (OR.ini ok) ok.sz rfl (by kernel_rfl) (fun _ _ => by simp [go_sem]) (fun γ w hW => ok.h2 w) (fun _ _ _ hW hk => Kp.trans hW hk),
  OR.s5 X ok, List.forall_mem_nil _⟩
theorem OR.steps (X : OR) (ok : OROk X) {Q : Exit → Act → World → Prop} (i : Nat) (hi : i < (opsOf 26 Tryz.f71).size) : OR.St X Q i := by
 rw [OR.size] at hi
 rcases (by decide : ∀ i, i < 6 → i ∈ [0, 1, 3] ∨ i ∈ [2, 4, 5]) i hi with h | h
 · exact OR.early X ok i h
 · exact OR.rest X ok i h
/-- The region, whatever order comes up. -/
theorem OR.run (X : OR) (ok : OROk X) {Q : Exit → Act → World → Prop} (w : World) (h0 : X.Wd 0 (fun _ => undef) w.drew) (hend : ∀ (γ : Nat → Value) w', X.Wd 1 γ w' → Q .normal (((((X.a0.put (some 128) (.agg #[.int .i64 X.x0, .int .i64 X.x1, .int .i64 X.x2, .int .i64 X.x3, .int .i64 X.x4, .int .i64 X.x5])).put (some 129) (.agg #[.int .i64 X.y0, .int .i64 X.y1, .int .i64 X.y2, .int .i64 X.y3, .int .i64 X.y4, .int .i64 X.y5])).put (some 130) (.agg #[.int .i64 X.m0, .int .i64 X.m1, .int .i64 X.m2, .int .i64 X.m3, .int .i64 X.m4, .int .i64 X.m5])).put (some 131) (.agg #[.int .i64 X.z0, .int .i64 X.z1, .int .i64 X.z2, .int .i64 X.z3, .int .i64 X.z4, .int .i64 X.z5])).put (some 132) (.agg #[.int .i64 X.r0, .int .i64 X.r1, .int .i64 X.r2, .int .i64 X.r3, .int .i64 X.r4, .int .i64 X.r5])) w') : (Code.region 26 (opsOf 26 Tryz.f71) true).wp Tryz.prog Q X.a0 w := by
 refine reg_act (acts := OR.acts) (av := OR.av) (val0 := X.val0) (Wd := X.Wd) (by kernel_rfl) (by kernel_rfl) (by rw [OR.size]; decide) (fun i hi => OR.steps X ok i hi) _ h0 ?_
 intro γ w' h
 exact end_at (hend γ w' h) (by kernel_rfl)
end Go.Proofs.YtpfhnedklihdoaaGreatDoor
namespace Go.Proofs.YtpfhnedklihdoaaGreatDoor
open Go.ChangeShapes Go.WideShapes Go.ChangeAt Go.RowKit
set_option linter.unusedVariables false

set_option maxRecDepth 100000 in
set_option maxHeartbeats 16000000 in
theorem one_M (w : World) (word : ByteArray) (va : Option Addr) (vc : Nat) (l : List Int) (hl : l.length ≤ 60) (hn : Nms w va l) (hkn : Kn word l false false false true false false false false false true) :
    Calls Tryz.prog 71 #[.string word, .slice va l.length vc] w fun e w' => AffSome e ∧ Nw w w' := by
  have HN : Hid (Nms w va l) := hn
  clear hn
  obtain ⟨W0, hW0⟩ : ∃ W0, w.alloc (.cells #[.int .i64 0, .int .i64 0, .int .i64 0, .int .i64 0, .int .i64 0, .int .i64 0] 24) = W0 := ⟨_, rfl⟩
  have HW0 : Hid (_ = W0) := hW0
  clear hW0
  go_enter Tryz.func71, Tryz.ntmps71
  go_wp2_with fail
  rw [HW0.out]
  refine (ssame W0).mono ?_
  rintro e w1 ⟨rfl, h1⟩
  have HO : Hid (OS w _ w1.heap.size) := OS.start w W0 w1 HW0.out h1
  clear h1 HW0
  obtain ⟨W, hW⟩ : ∃ W, w1.alloc (.cells #[.int .i64 65536, .int .i64 0, .int .i64 0, .int .i64 65536, .int .i64 0, .int .i64 0] 24) = W := ⟨_, rfl⟩
  have HW : Hid (_ = W) := hW
  rw [hW] at HO
  clear hW
  go_upto_block 0 with fail
  rw [HW.out]
  clear HW
  generalize w1.heap.size = P at *
  clear w1
  go_cut [] (fun wx => OS w wx P)
  case first =>
    have h := hkn
    clear hkn
    · have hk : l.length = 6 := by have := h.k6; simp at this; omega
      obtain ⟨c0, c1, c2, c3, c4, c5, k1, k2, k3, k6⟩ := h
      obtain ⟨g, rfl, hg, n0⟩ := HN.out 0 (by omega)
      have b0 : (0 : Int) < (l.length : Int) := by omega
      have hgP : g ≠ P := by have := HO.out.hP; omega
      have m0 := ((bcell HO.out.nw).1 _ 0 hg).trans n0
      obtain ⟨g1, e1, _, n1⟩ := HN.out 1 (by omega)
      injection e1 with e1; injection e1 with e1; subst e1
      have b1 : (1 : Int) < (l.length : Int) := by omega
      have m1 := ((bcell HO.out.nw).1 _ 1 hg).trans n1
      obtain ⟨g2, e2, _, n2⟩ := HN.out 2 (by omega)
      injection e2 with e2; injection e2 with e2; subst e2
      have b2 : (2 : Int) < (l.length : Int) := by omega
      have m2 := ((bcell HO.out.nw).1 _ 2 hg).trans n2
      obtain ⟨g3, e3, _, n3⟩ := HN.out 3 (by omega)
      injection e3 with e3; injection e3 with e3; subst e3
      have b3 : (3 : Int) < (l.length : Int) := by omega
      have m3 := ((bcell HO.out.nw).1 _ 3 hg).trans n3
      obtain ⟨g4, e4, _, n4⟩ := HN.out 4 (by omega)
      injection e4 with e4; injection e4 with e4; subst e4
      have b4 : (4 : Int) < (l.length : Int) := by omega
      have m4 := ((bcell HO.out.nw).1 _ 4 hg).trans n4
      obtain ⟨g5, e5, _, n5⟩ := HN.out 5 (by omega)
      injection e5 with e5; injection e5 with e5; subst e5
      have b5 : (5 : Int) < (l.length : Int) := by omega
      have m5 := ((bcell HO.out.nw).1 _ 5 hg).trans n5
      clear hk
      obtain ⟨a0, a1, a2, a3, a4, a5, y0, y1, y2, y3, y4, y5, yf⟩ := HO.out.p.get
      have hl0 : ¬ l.length = 0 := by omega
      go_wp2_with fail
      refine OM.run ⟨intAt l 0, intAt l 1, intAt l 2, intAt l 3, intAt l 4, intAt l 5, g, l.length, vc, P, W, _⟩ ⟨m0, m1, m2, m3, m4, m5, hl0, b0, b1, b2, b3, b4, b5, ⟨_, y0⟩, ⟨_, y1⟩, ⟨_, y2⟩, ⟨_, y3⟩, ⟨_, y4⟩, ⟨_, y5⟩, yf, rfl, rfl, rfl⟩ W ((Kp.refl _).drew) ?_
      rintro γ w7 ⟨w8, k8, rfl⟩
      simp only at k8
      have O8 : Hid (OS w w8 P) := HO.out.go k8.nw
      clear k8 y0 y1 y2 y3 y4 y5 yf m0 m1 m2 m3 m4 m5 n0 n1 n2 n3 n4 n5
      simp only [Act.put, List.setIfInBounds_toArray, List.set_cons_zero, List.set_cons_succ]
      clear γ
      go_wp2
      go_meet
      exact O8.out.all _ _ _ _ _ _
  case rest =>
    have OE : Hid (OS w wc P) := hcut
    clear hcut HO HN
    obtain ⟨a0, a1, a2, a3, a4, a5, y0, y1, y2, y3, y4, y5, yf⟩ := OE.out.p.get
    obtain ⟨z0, z1, z2, z3, z4, z5, q0, q1, q2, q3, q4, q5, qf⟩ := OE.out.r.get
    have hPl := OE.out.p.lt
    have hRl := OE.out.r.lt
    clear yf
    go_wp2_with fail
    go_region_with (go_at_call 7; refine (sgoodAff _ a0 a1 a2 a3 a4 a5).mono ?_; rintro e w9 ⟨rfl, k9⟩; have kk := bcell k9.nw; have v0 := (kk.1 _ 0 hPl).trans y0; have v1 := (kk.1 _ 1 hPl).trans y1; have v2 := (kk.1 _ 2 hPl).trans y2; have v3 := (kk.1 _ 3 hPl).trans y3; have v4 := (kk.1 _ 4 hPl).trans y4; have v5 := (kk.1 _ 5 hPl).trans y5; have s0 := (kk.1 _ 0 hRl).trans q0; have s1 := (kk.1 _ 1 hRl).trans q1; have s2 := (kk.1 _ 2 hRl).trans q2; have s3 := (kk.1 _ 3 hRl).trans q3; have s4 := (kk.1 _ 4 hRl).trans q4; have s5 := (kk.1 _ 5 hRl).trans q5; have sf := fun o => (kk.2 _ o hRl).trans (qf o); clear kk)
    all_goals
      have N9 : Hid (Nw w w9) := Nw.trans OE.out.nw (nw_und k9.nw)
      obtain ⟨t0, t1, t2, t3, t4, t5⟩ := sset6 w9 w.heap.size (.int .i64 a0) (.int .i64 a1) (.int .i64 a2) (.int .i64 a3) (.int .i64 a4) (.int .i64 a5) s0 s1 s2 s3 s4 s5
      go_wp2
      refine bodyPost_ret (v := .tuple #[.agg #[.int .i64 a0, .int .i64 a1, .int .i64 a2, .int .i64 a3, .int .i64 a4, .int .i64 a5], .bool (gA a0 a1 a2 a3 a4 a5)]) (by simp [results, Tryz.results71, go_sem, t0, t1, t2, t3, t4, t5]) rfl ⟨⟨_, _, _, _, _, _, _, rfl⟩, nw_six N9.out (Nat.le_refl _) _ _ _ _ _ _⟩
end Go.Proofs.YtpfhnedklihdoaaGreatDoor
namespace Go.Proofs.YtpfhnedklihdoaaGreatDoor
open Go.ChangeShapes Go.WideShapes Go.ChangeAt Go.RowKit
set_option linter.unusedVariables false

set_option maxRecDepth 100000 in
set_option maxHeartbeats 16000000 in
theorem one_S (w : World) (word : ByteArray) (va : Option Addr) (vc : Nat) (l : List Int) (hl : l.length ≤ 60) (hn : Nms w va l) (hkn : Kn word l false false true false false false false false true false) :
    Calls Tryz.prog 71 #[.string word, .slice va l.length vc] w fun e w' => AffSome e ∧ Nw w w' := by
  have HN : Hid (Nms w va l) := hn
  clear hn
  obtain ⟨W0, hW0⟩ : ∃ W0, w.alloc (.cells #[.int .i64 0, .int .i64 0, .int .i64 0, .int .i64 0, .int .i64 0, .int .i64 0] 24) = W0 := ⟨_, rfl⟩
  have HW0 : Hid (_ = W0) := hW0
  clear hW0
  go_enter Tryz.func71, Tryz.ntmps71
  go_wp2_with fail
  rw [HW0.out]
  refine (ssame W0).mono ?_
  rintro e w1 ⟨rfl, h1⟩
  have HO : Hid (OS w _ w1.heap.size) := OS.start w W0 w1 HW0.out h1
  clear h1 HW0
  obtain ⟨W, hW⟩ : ∃ W, w1.alloc (.cells #[.int .i64 65536, .int .i64 0, .int .i64 0, .int .i64 65536, .int .i64 0, .int .i64 0] 24) = W := ⟨_, rfl⟩
  have HW : Hid (_ = W) := hW
  rw [hW] at HO
  clear hW
  go_upto_block 0 with fail
  rw [HW.out]
  clear HW
  generalize w1.heap.size = P at *
  clear w1
  go_cut [] (fun wx => OS w wx P)
  case first =>
    have h := hkn
    clear hkn
    · have hk : l.length = 3 := by have := h.k3; simp at this; omega
      obtain ⟨c0, c1, c2, c3, c4, c5, k1, k2, k3, k6⟩ := h
      obtain ⟨g, rfl, hg, n0⟩ := HN.out 0 (by omega)
      have b0 : (0 : Int) < (l.length : Int) := by omega
      have hgP : g ≠ P := by have := HO.out.hP; omega
      have m0 := ((bcell HO.out.nw).1 _ 0 hg).trans n0
      obtain ⟨g1, e1, _, n1⟩ := HN.out 1 (by omega)
      injection e1 with e1; injection e1 with e1; subst e1
      have b1 : (1 : Int) < (l.length : Int) := by omega
      have m1 := ((bcell HO.out.nw).1 _ 1 hg).trans n1
      obtain ⟨g2, e2, _, n2⟩ := HN.out 2 (by omega)
      injection e2 with e2; injection e2 with e2; subst e2
      have b2 : (2 : Int) < (l.length : Int) := by omega
      have m2 := ((bcell HO.out.nw).1 _ 2 hg).trans n2
      clear hk
      obtain ⟨a0, a1, a2, a3, a4, a5, y0, y1, y2, y3, y4, y5, yf⟩ := HO.out.p.get
      obtain ⟨t, ht, hT⟩ := turn_some (intAt l 0)
      obtain ⟨sv, hS⟩ := sin_some t ht
      obtain ⟨cv, hC⟩ := cos_some t ht
      have HT : Hid _ := hT
      have HS : Hid _ := hS
      have HC : Hid _ := hC
      clear hT hS hC ht
      go_wp2_with fail
      refine (HT.out W).mono ?_
      rintro e w2 ⟨rfl, hq⟩
      have hq2 := hq.symm; clear hq; subst hq2
      go_wp2_with fail
      refine (HC.out W).mono ?_
      rintro e w3 ⟨rfl, k3'⟩
      have O3 : Hid (OS w w3 P) := HO.out.go k3'.nw
      clear k3'
      go_wp2_with fail
      refine (HS.out w3).mono ?_
      rintro e w4 ⟨rfl, k4'⟩
      have O4 : Hid (OS w w4 P) := O3.out.go k4'.nw
      clear k4'
      go_wp2_with fail
      refine (HS.out w4).mono ?_
      rintro e w5 ⟨rfl, k5'⟩
      have O5 : Hid (OS w w5 P) := O4.out.go k5'.nw
      clear k5'
      go_wp2_with fail
      refine (HC.out w5).mono ?_
      rintro e w6 ⟨rfl, k6'⟩
      have O6 : Hid (OS w w6 P) := O5.out.go k6'.nw
      clear k6' y0 y1 y2 y3 y4 y5 yf
      obtain ⟨a0, a1, a2, a3, a4, a5, y0, y1, y2, y3, y4, y5, yf⟩ := O6.out.p.get
      go_wp2_with fail
      refine (ssame _).mono ?_
      rintro e w8 ⟨rfl, k8⟩
      have O8 : Hid (OS w w8 P) := (O6.out.all cv sv _ cv 0 0).go k8
      obtain ⟨WT, hWT⟩ : ∃ WT, w8.alloc (.cells #[.int .i64 65536, .int .i64 0, .int .i64 0, .int .i64 65536, .int .i64 0, .int .i64 0] 24) = WT := ⟨_, rfl⟩
      have O9 : Hid (OS w WT P) := by show OS _ _ _; rw [← hWT]; exact O8.out.go ((Below.refl _ _).alloc (Nat.le_refl _) _)
      have T9 : Hid (SixE WT w8.heap.size) := by show SixE _ _; rw [← hWT]; exact Six.new w8 _ _ _ _ _ _ _
      have hT1 : Hid (w.heap.size < w8.heap.size ∧ P < w8.heap.size) := ⟨O8.out.r.lt, O8.out.p.lt⟩
      have hT2 : Hid (g < w8.heap.size) := Nat.lt_trans hg O8.out.r.lt
      have HWT : Hid (_ = WT) := hWT
      clear hWT k8 y0 y1 y2 y3 y4 y5 yf m0 m1 m2 O6 O5 O4 O3 HS HC HT O8
      go_upto_region 19 with fail
      rw [HWT.out]
      clear HWT
      generalize w8.heap.size = T at *
      clear w8
      obtain ⟨x0, x1, x2, x3, x4, x5, p0, p1, p2, p3, p4, p5, pf⟩ := T9.out.get
      have hgT : g ≠ T := by have := hT2.out; omega
      have m1 := ((bcell O9.out.nw).1 _ 1 hg).trans n1
      have m2 : (WT.setCell ⟨T, 4, none⟩ (.int .i64 (intAt l 1))).cell? ⟨g, 2, none⟩ = some (.int .i64 (intAt l 2)) := (World.cell?_setCell_other _ _ _ _ (fun e => by injection e; omega)).trans (((bcell O9.out.nw).1 _ 2 hg).trans n2)
      obtain ⟨WU, hWU⟩ : ∃ WU, (WT.setCell ⟨T, 4, none⟩ (.int .i64 (intAt l 1))).setCell ⟨T, 5, none⟩ (.int .i64 (intAt l 2)) = WU := ⟨_, rfl⟩
      have O10 : Hid (OS w WU P) := by show OS _ _ _; rw [← hWU]; exact (O9.out.off T 4 _ (by have := hT1.out; omega) (by have := hT1.out; omega)).off T 5 _ (by have := hT1.out; omega) (by have := hT1.out; omega)
      have T10 : Hid (SixE WU T) := by show SixE _ _; rw [← hWU]; exact (T9.out.set 4 _ (by omega)).set 5 _ (by omega)
      have HWU : Hid (_ = WU) := hWU
      clear hWU
      go_upto_region 21 with fail
      rw [HWU.out]
      clear HWU m1 m2 p0 p1 p2 p3 p4 p5 pf O9 T9
      go_wp2_with fail
      refine (ssame _).mono ?_
      rintro e w11 ⟨rfl, k11⟩
      obtain ⟨WB, hWB⟩ : ∃ WB, w11.alloc (.cells #[.int .i64 65536, .int .i64 0, .int .i64 0, .int .i64 65536, .int .i64 0, .int .i64 0] 24) = WB := ⟨_, rfl⟩
      have NB : Nw WU WB := by rw [← hWB]; exact k11.alloc (Below.size k11) _
      have O12 : Hid (OS w WB P) := O10.out.go NB
      have T12 : Hid (SixE WB T) := T10.out.nw NB
      have B12 : Hid (SixE WB w11.heap.size) := by show SixE _ _; rw [← hWB]; exact Six.new w11 _ _ _ _ _ _ _
      have hB1 : Hid (w.heap.size < w11.heap.size ∧ P < w11.heap.size ∧ T < w11.heap.size ∧ g < w11.heap.size) := by
        have h1 := Below.size k11
        have h2 := O10.out.r.lt
        have h3 := O10.out.p.lt
        have h4 := T10.out.lt
        exact ⟨by omega, by omega, by omega, by omega⟩
      have HWB : Hid (_ = WB) := hWB
      clear hWB NB k11 O10 T10
      go_upto_region 22 with fail
      rw [HWB.out]
      clear HWB
      generalize w11.heap.size = K at *
      clear w11
      obtain ⟨x0, x1, x2, x3, x4, x5, p0, p1, p2, p3, p4, p5, pf⟩ := B12.out.get
      have hgK : g ≠ K := by have := hB1.out; omega
      have m1 := ((bcell O12.out.nw).1 _ 1 hg).trans n1
      have m2 : (WB.setCell ⟨K, 4, none⟩ (.int .i64 (wrap64 (-intAt l 1)))).cell? ⟨g, 2, none⟩ = some (.int .i64 (intAt l 2)) := (World.cell?_setCell_other _ _ _ _ (fun e => by injection e; omega)).trans (((bcell O12.out.nw).1 _ 2 hg).trans n2)
      obtain ⟨WC, hWC⟩ : ∃ WC, (WB.setCell ⟨K, 4, none⟩ (.int .i64 (wrap64 (-intAt l 1)))).setCell ⟨K, 5, none⟩ (.int .i64 (wrap64 (-intAt l 2))) = WC := ⟨_, rfl⟩
      have O13 : Hid (OS w WC P) := by show OS _ _ _; rw [← hWC]; exact (O12.out.off K 4 _ (by have := hB1.out; omega) (by have := hB1.out; omega)).off K 5 _ (by have := hB1.out; omega) (by have := hB1.out; omega)
      have T13 : Hid (SixE WC T) := by show SixE _ _; rw [← hWC]; exact (T12.out.off _ _ (by have := hB1.out; omega)).off _ _ (by have := hB1.out; omega)
      have B13 : Hid (SixE WC K) := by show SixE _ _; rw [← hWC]; exact (B12.out.set 4 _ (by omega)).set 5 _ (by omega)
      have HWC : Hid (_ = WC) := hWC
      clear hWC
      go_upto_region 24 with fail
      rw [HWC.out]
      clear HWC m1 m2 p0 p1 p2 p3 p4 p5 pf O12 T12 B12
      obtain ⟨x0, x1, x2, x3, x4, x5, p0, p1, p2, p3, p4, p5, pf⟩ := T13.out.get
      obtain ⟨gd, hG⟩ := good_some1 x0 x1 x2 x3 x4 x5
      have HG : Hid _ := hG
      clear hG
      go_wp2_with fail
      refine (HG.out WC).mono ?_
      rintro e w14 ⟨rfl, k14⟩
      have O14 : Hid (OS w w14 P) := O13.out.go k14.nw
      have T14 := fun o => (bcell k14.nw).1 T o T13.out.lt
      have F14 := (bcell k14.nw).2
      have B14 : Hid (SixE w14 K) := B13.out.nw k14.nw
      replace p0 := (T14 0).trans p0
      replace p1 := (T14 1).trans p1
      replace p2 := (T14 2).trans p2
      replace p3 := (T14 3).trans p3
      replace p4 := (T14 4).trans p4
      replace p5 := (T14 5).trans p5
      obtain ⟨a0, a1, a2, a3, a4, a5, y0, y1, y2, y3, y4, y5, yf⟩ := O14.out.p.get
      clear k14 T14 F14 pf
      cases gd with
      | false =>
        obtain ⟨z0, z1, z2, z3, z4, z5, q0, q1, q2, q3, q4, q5, qf⟩ := O14.out.r.get
        obtain ⟨t0, t1, t2, t3, t4, t5⟩ := sset6 w14 w.heap.size (.int .i64 a0) (.int .i64 a1) (.int .i64 a2) (.int .i64 a3) (.int .i64 a4) (.int .i64 a5) q0 q1 q2 q3 q4 q5
        go_wp2
        refine bodyPost_ret (v := .tuple #[.agg #[.int .i64 a0, .int .i64 a1, .int .i64 a2, .int .i64 a3, .int .i64 a4, .int .i64 a5], .bool false]) (by simp [results, Tryz.results71, go_sem, t0, t1, t2, t3, t4, t5]) rfl ⟨⟨_, _, _, _, _, _, _, rfl⟩, nw_six O14.out.nw (Nat.le_refl _) _ _ _ _ _ _⟩
      | true =>
        obtain ⟨f0, f1, f2, f3, f4, f5, r0, r1, r2, r3, r4, r5, rf⟩ := B14.out.get
        obtain ⟨u0, u1, u2, u3, u4, u5, hM1⟩ := mul_some1 x0 x1 x2 x3 x4 x5 a0 a1 a2 a3 a4 a5
        obtain ⟨v0, v1, v2, v3, v4, v5, hM2⟩ := mul_some1 u0 u1 u2 u3 u4 u5 f0 f1 f2 f3 f4 f5
        have HM1 : Hid _ := hM1
        have HM2 : Hid _ := hM2
        clear hM1 hM2
        go_wp2_with fail
        refine OR.run ⟨x0, x1, x2, x3, x4, x5, a0, a1, a2, a3, a4, a5, u0, u1, u2, u3, u4, u5, f0, f1, f2, f3, f4, f5, v0, v1, v2, v3, v4, v5, T, P, K, w14, _⟩ ⟨p0, p1, p2, p3, p4, p5, y0, y1, y2, y3, y4, y5, r0, r1, r2, r3, r4, r5, HM1.out, HM2.out, ⟨_, y0⟩, ⟨_, y1⟩, ⟨_, y2⟩, ⟨_, y3⟩, ⟨_, y4⟩, ⟨_, y5⟩, yf, rfl, rfl, rfl, rfl⟩ w14 ((Kp.refl _).drew) ?_
        rintro γ w15 ⟨w16, k16, rfl⟩
        simp only at k16
        have O16 : Hid (OS w w16 P) := O14.out.go k16.nw
        clear k16 y0 y1 y2 y3 y4 y5 yf p0 p1 p2 p3 p4 p5 r0 r1 r2 r3 r4 r5 rf
        simp only [Act.put, List.setIfInBounds_toArray, List.set_cons_zero, List.set_cons_succ]
        clear γ
        go_wp2
        go_meet
        exact O16.out.all _ _ _ _ _ _
  case rest =>
    have OE : Hid (OS w wc P) := hcut
    clear hcut HO HN
    obtain ⟨a0, a1, a2, a3, a4, a5, y0, y1, y2, y3, y4, y5, yf⟩ := OE.out.p.get
    obtain ⟨z0, z1, z2, z3, z4, z5, q0, q1, q2, q3, q4, q5, qf⟩ := OE.out.r.get
    have hPl := OE.out.p.lt
    have hRl := OE.out.r.lt
    clear yf
    go_wp2_with fail
    go_region_with (go_at_call 7; refine (sgoodAff _ a0 a1 a2 a3 a4 a5).mono ?_; rintro e w9 ⟨rfl, k9⟩; have kk := bcell k9.nw; have v0 := (kk.1 _ 0 hPl).trans y0; have v1 := (kk.1 _ 1 hPl).trans y1; have v2 := (kk.1 _ 2 hPl).trans y2; have v3 := (kk.1 _ 3 hPl).trans y3; have v4 := (kk.1 _ 4 hPl).trans y4; have v5 := (kk.1 _ 5 hPl).trans y5; have s0 := (kk.1 _ 0 hRl).trans q0; have s1 := (kk.1 _ 1 hRl).trans q1; have s2 := (kk.1 _ 2 hRl).trans q2; have s3 := (kk.1 _ 3 hRl).trans q3; have s4 := (kk.1 _ 4 hRl).trans q4; have s5 := (kk.1 _ 5 hRl).trans q5; have sf := fun o => (kk.2 _ o hRl).trans (qf o); clear kk)
    all_goals
      have N9 : Hid (Nw w w9) := Nw.trans OE.out.nw (nw_und k9.nw)
      obtain ⟨t0, t1, t2, t3, t4, t5⟩ := sset6 w9 w.heap.size (.int .i64 a0) (.int .i64 a1) (.int .i64 a2) (.int .i64 a3) (.int .i64 a4) (.int .i64 a5) s0 s1 s2 s3 s4 s5
      go_wp2
      refine bodyPost_ret (v := .tuple #[.agg #[.int .i64 a0, .int .i64 a1, .int .i64 a2, .int .i64 a3, .int .i64 a4, .int .i64 a5], .bool (gA a0 a1 a2 a3 a4 a5)]) (by simp [results, Tryz.results71, go_sem, t0, t1, t2, t3, t4, t5]) rfl ⟨⟨_, _, _, _, _, _, _, rfl⟩, nw_six N9.out (Nat.le_refl _) _ _ _ _ _ _⟩
end Go.Proofs.YtpfhnedklihdoaaGreatDoor
namespace Go.Proofs.YtpfhnedklihdoaaGreatDoor
open Go.ChangeShapes Go.WideShapes Go.ChangeAt Go.RowKit
set_option linter.unusedVariables false

set_option maxRecDepth 100000 in
set_option maxHeartbeats 16000000 in
theorem one_C (w : World) (word : ByteArray) (va : Option Addr) (vc : Nat) (l : List Int) (hl : l.length ≤ 60) (hn : Nms w va l) (n1 n2 n3 n6 : Bool) (hkn : (Kn word l false false false false false false n1 n2 n3 n6) ∨ (Kn word l true false false false false false false false n3 n6) ∨ (Kn word l false true false false false false false false n3 n6) ∨ (Kn word l false false true false false false false n2 false n6) ∨ (Kn word l false false false true false false n1 n2 n3 false) ∨ (Kn word l false false false false true false false n2 n3 n6) ∨ (Kn word l false false false false false true false n2 n3 n6)) :
    Calls Tryz.prog 71 #[.string word, .slice va l.length vc] w fun e w' => AffSome e ∧ Nw w w' := by
  have HN : Hid (Nms w va l) := hn
  clear hn
  obtain ⟨W0, hW0⟩ : ∃ W0, w.alloc (.cells #[.int .i64 0, .int .i64 0, .int .i64 0, .int .i64 0, .int .i64 0, .int .i64 0] 24) = W0 := ⟨_, rfl⟩
  have HW0 : Hid (_ = W0) := hW0
  clear hW0
  go_enter Tryz.func71, Tryz.ntmps71
  go_wp2_with fail
  rw [HW0.out]
  refine (ssame W0).mono ?_
  rintro e w1 ⟨rfl, h1⟩
  have HO : Hid (OS w _ w1.heap.size) := OS.start w W0 w1 HW0.out h1
  clear h1 HW0
  obtain ⟨W, hW⟩ : ∃ W, w1.alloc (.cells #[.int .i64 65536, .int .i64 0, .int .i64 0, .int .i64 65536, .int .i64 0, .int .i64 0] 24) = W := ⟨_, rfl⟩
  have HW : Hid (_ = W) := hW
  rw [hW] at HO
  clear hW
  go_upto_block 0 with fail
  rw [HW.out]
  clear HW
  generalize w1.heap.size = P at *
  clear w1
  obtain ⟨a0, a1, a2, a3, a4, a5, y0, y1, y2, y3, y4, y5, yf⟩ := HO.out.p.get
  obtain ⟨z0, z1, z2, z3, z4, z5, q0, q1, q2, q3, q4, q5, qf⟩ := HO.out.r.get
  obtain ⟨t0, t1, t2, t3, t4, t5⟩ := sset6 W w.heap.size (.int .i64 a0) (.int .i64 a1) (.int .i64 a2) (.int .i64 a3) (.int .i64 a4) (.int .i64 a5) q0 q1 q2 q3 q4 q5
  rcases hkn with h | h | h | h | h | h | h
  all_goals
    obtain ⟨c0, c1, c2, c3, c4, c5, k1, k2, k3, k6⟩ := h
    go_wp2
    refine bodyPost_ret (v := .tuple #[.agg #[.int .i64 a0, .int .i64 a1, .int .i64 a2, .int .i64 a3, .int .i64 a4, .int .i64 a5], .bool false]) (by simp [results, Tryz.results71, go_sem, t0, t1, t2, t3, t4, t5]) rfl ⟨⟨_, _, _, _, _, _, _, rfl⟩, nw_six HO.out.nw (Nat.le_refl _) _ _ _ _ _ _⟩
end Go.Proofs.YtpfhnedklihdoaaGreatDoor
