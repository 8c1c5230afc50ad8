/-
  The statements of the reference's dashing that draw their order, whatever order comes up (next, segment, l10Dashed); each theorem names its conditions.
  The reference's dashing in a variable; each theorem names its conditions.
  The reference's dashing: end and add; each theorem names its conditions.
  The reference's dashing: next; each theorem names its conditions.
-/
import Derived.Test.YtfdjjbgcaojcnaaGreatJAG
import Derived.Test.YtfdjjbgcaojcnaaGreatJAI
import Derived.Test.YtfdjjbgcaojcnaaGreatJAP
import Derived.Test.YtfdjjbgcaojcnaaGreatJAZ
import Derived.Test.YtfdjjbgcaojcnaaGreatJAT
import Derived.Test.YtfdjjbgcaojcnaaGreatJBA
namespace Go.Proofs.YtfdjjbgcaojcnaaGreat
open Go.ChangeShapes Go.WideShapes Go.ChangeAt Go.RowKit
set_option linter.unusedVariables false

structure NW5 where
  bx : Nat
  nb : Nat
  no : Nat
  n : Nat
  nc : Nat
  k : Nat
  m : Nat
  W : World
  a0 : Act
structure NW5Ok (X : NW5) : Prop where
  cn : X.W.cell? ⟨X.bx, 0, none⟩ = some (.slice (some ⟨X.nb, X.no, none⟩) X.n X.nc)
  c1 : X.W.cell? ⟨X.bx, 1, none⟩ = some (.int .i64 (X.k : Int))
  w1 : IntKind.i64.wrap ((X.k : Int) + 1) = (X.k : Int) + 1
  rm : ((X.k : Int) + 1).tmod (X.n : Int) = (X.m : Int)
  hn : X.n ≠ 0
  cz : ∃ z, X.W.cell? ⟨X.bx, 1, none⟩ = some (.int .i64 z)
  ff : ∀ o, X.W.frozen? ⟨X.bx, o, none⟩ = false
  e0 : X.a0.eval (.tmp 0) = .pointer (some ⟨X.bx, 0, none⟩)
  sz : X.a0.tmps.size = 76
def NW5.val0 (X : NW5) : Nat → Value
  | 31 => .pointer (some ⟨X.bx, 0, none⟩)
  | 32 => .pointer (some ⟨X.bx, 0, none⟩)
  | 33 => .pointer (some ⟨X.bx, 0, none⟩)
  | 34 => .pointer (some ⟨X.bx, 1, none⟩)
  | 35 => .int .i64 (X.k : Int)
  | 36 => .int .i64 ((X.k : Int) + 1)
  | 37 => .pointer (some ⟨X.bx, 0, none⟩)
  | 38 => .pointer (some ⟨X.bx, 0, none⟩)
  | 39 => .pointer (some ⟨X.bx, 0, none⟩)
  | 40 => .slice (some ⟨X.nb, X.no, none⟩) X.n X.nc
  | 41 => .int .i64 (X.n : Int)
  | 42 => .int .i64 (X.m : Int)
  | 43 => .pointer (some ⟨X.bx, 0, none⟩)
  | 44 => .pointer (some ⟨X.bx, 1, none⟩)
  | _ => undef
def NW5.av : Nat → Option Nat
  | _ => none
def NW5.acts : List Nat := [14]
/-- The world, by how many of the acting ones have come up. -/
def NW5.Wd (X : NW5) : Nat → (Nat → Value) → World → Prop
  | 0, _, w => w = X.W
  | _, _, w => w = X.W.setCell ⟨X.bx, 1, none⟩ (.int .i64 (X.m : Int))
theorem NW5.chain : chainG (opsOf 5 Tryz.f88) NW5.acts = true := by kernel_rfl
theorem NW5.nodup : NW5.acts.Nodup := by decide
theorem NW5.inj {listed : Array Bool} {i k : Nat} (h : (List.range (opsOf 5 Tryz.f88).size).all (fun j => decide (j = i) || !(match dstOf (opsOf 5 Tryz.f88) j with | some d => decide (NW5.av d = some k) | none => false)) = true) (hu : listed.getD i false = false) : ∀ d, got (opsOf 5 Tryz.f88) listed d → NW5.av d ≠ some k := by
  rintro d ⟨j, h1, h2⟩ h3
  have hlt : j < (opsOf 5 Tryz.f88).size := by
    rcases Nat.lt_or_ge j (opsOf 5 Tryz.f88).size with h4 | h4
    · exact h4
    · unfold dstOf at h2; rw [Array.getElem?_eq_none h4] at h2; cases h2
  have h5 := List.all_eq_true.1 h j (List.mem_range.2 hlt)
  rw [h2] at h5
  simp only [h3, decide_true, Bool.not_true, Bool.or_false, decide_eq_true_eq] at h5
  subst h5
  rw [hu] at h1
  cases h1
theorem NW5.s0 (X : NW5) (ok : NW5Ok X) {Q : Exit → Act → World → Prop} : StepG (opsOf 5 Tryz.f88) NW5.acts NW5.av X.val0 X.Wd X.a0 Q 0 := by
  intro γ listed a w o hF hC hW h1 ho h2
  obtain ⟨hd, hop, hg⟩ := fields2 (x := some 31) (y := Op.move (.tmp 0)) (z := none) (by kernel_rfl) ho
  have e0 : a.eval (.tmp 0) = .pointer (some ⟨X.bx, 0, none⟩) := (hF.eval0 (by kernel_rfl)).trans ok.e0
  refine st_pureG hF hC hW ho h2 (by decide) hd hg rfl ?_
  show _ = Result.ok (Next.value (.pointer (some ⟨X.bx, 0, none⟩))) w
  generalize a.eval = ρ at e0 ⊢
  unfold execOp
  rw [hop]
  simp [e0, go_sem]
theorem NW5.s1 (X : NW5) (ok : NW5Ok X) {Q : Exit → Act → World → Prop} : StepG (opsOf 5 Tryz.f88) NW5.acts NW5.av X.val0 X.Wd X.a0 Q 1 := by
  intro γ listed a w o hF hC hW h1 ho h2
  obtain ⟨hd, hop, hg⟩ := fields2 (x := some 32) (y := Op.move (.tmp 0)) (z := none) (by kernel_rfl) ho
  have e0 : a.eval (.tmp 0) = .pointer (some ⟨X.bx, 0, none⟩) := (hF.eval0 (by kernel_rfl)).trans ok.e0
  refine st_pureG hF hC hW ho h2 (by decide) hd hg rfl ?_
  show _ = Result.ok (Next.value (.pointer (some ⟨X.bx, 0, none⟩))) w
  generalize a.eval = ρ at e0 ⊢
  unfold execOp
  rw [hop]
  simp [e0, go_sem]
theorem NW5.s2 (X : NW5) (ok : NW5Ok X) {Q : Exit → Act → World → Prop} : StepG (opsOf 5 Tryz.f88) NW5.acts NW5.av X.val0 X.Wd X.a0 Q 2 := by
  intro γ listed a w o hF hC hW h1 ho h2
  obtain ⟨hd, hop, hg⟩ := fields2 (x := some 33) (y := Op.nilCheck (.tmp 32)) (z := none) (by kernel_rfl) ho
  have e32 : a.eval (.tmp 32) = .pointer (some ⟨X.bx, 0, none⟩) := slotG hF ho h2 (j := 1) (d := 32) (by kernel_rfl) (by kernel_rfl) (by rw [ok.sz]; decide)
  refine st_pureG hF hC hW ho h2 (by decide) hd hg rfl ?_
  show _ = Result.ok (Next.value (.pointer (some ⟨X.bx, 0, none⟩))) w
  generalize a.eval = ρ at e32 ⊢
  unfold execOp
  rw [hop]
  simp [e32, go_sem]
theorem NW5.s3 (X : NW5) (ok : NW5Ok X) {Q : Exit → Act → World → Prop} : StepG (opsOf 5 Tryz.f88) NW5.acts NW5.av X.val0 X.Wd X.a0 Q 3 := by
  intro γ listed a w o hF hC hW h1 ho h2
  obtain ⟨hd, hop, hg⟩ := fields2 (x := some 34) (y := Op.fieldAddr 100 (.tmp 33) 1) (z := none) (by kernel_rfl) ho
  have e33 : a.eval (.tmp 33) = .pointer (some ⟨X.bx, 0, none⟩) := slotG hF ho h2 (j := 2) (d := 33) (by kernel_rfl) (by kernel_rfl) (by rw [ok.sz]; decide)
  refine st_pureG hF hC hW ho h2 (by decide) hd hg rfl ?_
  show _ = Result.ok (Next.value (.pointer (some ⟨X.bx, 1, none⟩))) w
  generalize a.eval = ρ at e33 ⊢
  unfold execOp
  rw [hop]
  simp [e33, go_sem]
theorem NW5.s4 (X : NW5) (ok : NW5Ok X) {Q : Exit → Act → World → Prop} : StepG (opsOf 5 Tryz.f88) NW5.acts NW5.av X.val0 X.Wd X.a0 Q 4 := by
  intro γ listed a w o hF hC hW h1 ho h2
  obtain ⟨hd, hop, hg⟩ := fields2 (x := some 35) (y := Op.load 3 (.tmp 34)) (z := none) (by kernel_rfl) ho
  have e34 : a.eval (.tmp 34) = .pointer (some ⟨X.bx, 1, none⟩) := slotG hF ho h2 (j := 3) (d := 34) (by kernel_rfl) (by kernel_rfl) (by rw [ok.sz]; decide)
  have hph := phase_leG (acts := NW5.acts) (m := 0) (x := 14) hC (unl (hF.lt ho) h1) rfl [11, 5, 4] (by kernel_rfl) (by decide)
  have hWW := hW
  generalize phase listed NW5.acts = n at hph hWW
  obtain rfl : n = 0 := by omega
  have hk : w = X.W := hWW
  have hc0 := ok.c1
  rw [← hk] at hc0
  refine st_pureG hF hC hW ho h2 (by decide) hd hg rfl ?_
  show _ = Result.ok (Next.value (.int .i64 (X.k : Int))) w
  generalize a.eval = ρ at e34 ⊢
  unfold execOp
  rw [hop]
  simp [e34, hc0, go_sem]
theorem NW5.s5 (X : NW5) (ok : NW5Ok X) {Q : Exit → Act → World → Prop} : StepG (opsOf 5 Tryz.f88) NW5.acts NW5.av X.val0 X.Wd X.a0 Q 5 := by
  intro γ listed a w o hF hC hW h1 ho h2
  obtain ⟨hd, hop, hg⟩ := fields2 (x := some 36) (y := Op.binOp .add 3 (.tmp 35) (.const (.int .i64 1)) 3) (z := none) (by kernel_rfl) ho
  have e35 : a.eval (.tmp 35) = .int .i64 (X.k : Int) := slotG hF ho h2 (j := 4) (d := 35) (by kernel_rfl) (by kernel_rfl) (by rw [ok.sz]; decide)
  have ec1 : a.eval (.const (.int .i64 1)) = .int .i64 1 := rfl
  refine st_pureG hF hC hW ho h2 (by decide) hd hg rfl ?_
  show _ = Result.ok (Next.value (.int .i64 ((X.k : Int) + 1))) w
  generalize a.eval = ρ at e35 ec1 ⊢
  unfold execOp
  rw [hop]
  simp [e35, ec1, ok.w1, go_sem]
theorem NW5.s6 (X : NW5) (ok : NW5Ok X) {Q : Exit → Act → World → Prop} : StepG (opsOf 5 Tryz.f88) NW5.acts NW5.av X.val0 X.Wd X.a0 Q 6 := by
  intro γ listed a w o hF hC hW h1 ho h2
  obtain ⟨hd, hop, hg⟩ := fields2 (x := some 37) (y := Op.move (.tmp 0)) (z := none) (by kernel_rfl) ho
  have e0 : a.eval (.tmp 0) = .pointer (some ⟨X.bx, 0, none⟩) := (hF.eval0 (by kernel_rfl)).trans ok.e0
  refine st_pureG hF hC hW ho h2 (by decide) hd hg rfl ?_
  show _ = Result.ok (Next.value (.pointer (some ⟨X.bx, 0, none⟩))) w
  generalize a.eval = ρ at e0 ⊢
  unfold execOp
  rw [hop]
  simp [e0, go_sem]
theorem NW5.s7 (X : NW5) (ok : NW5Ok X) {Q : Exit → Act → World → Prop} : StepG (opsOf 5 Tryz.f88) NW5.acts NW5.av X.val0 X.Wd X.a0 Q 7 := by
  intro γ listed a w o hF hC hW h1 ho h2
  obtain ⟨hd, hop, hg⟩ := fields2 (x := some 38) (y := Op.nilCheck (.tmp 37)) (z := none) (by kernel_rfl) ho
  have e37 : a.eval (.tmp 37) = .pointer (some ⟨X.bx, 0, none⟩) := slotG hF ho h2 (j := 6) (d := 37) (by kernel_rfl) (by kernel_rfl) (by rw [ok.sz]; decide)
  refine st_pureG hF hC hW ho h2 (by decide) hd hg rfl ?_
  show _ = Result.ok (Next.value (.pointer (some ⟨X.bx, 0, none⟩))) w
  generalize a.eval = ρ at e37 ⊢
  unfold execOp
  rw [hop]
  simp [e37, go_sem]
theorem NW5.s8 (X : NW5) (ok : NW5Ok X) {Q : Exit → Act → World → Prop} : StepG (opsOf 5 Tryz.f88) NW5.acts NW5.av X.val0 X.Wd X.a0 Q 8 := by
  intro γ listed a w o hF hC hW h1 ho h2
  obtain ⟨hd, hop, hg⟩ := fields2 (x := some 39) (y := Op.fieldAddr 100 (.tmp 38) 0) (z := none) (by kernel_rfl) ho
  have e38 : a.eval (.tmp 38) = .pointer (some ⟨X.bx, 0, none⟩) := slotG hF ho h2 (j := 7) (d := 38) (by kernel_rfl) (by kernel_rfl) (by rw [ok.sz]; decide)
  refine st_pureG hF hC hW ho h2 (by decide) hd hg rfl ?_
  show _ = Result.ok (Next.value (.pointer (some ⟨X.bx, 0, none⟩))) w
  generalize a.eval = ρ at e38 ⊢
  unfold execOp
  rw [hop]
  simp [e38, go_sem]
theorem NW5.s9 (X : NW5) (ok : NW5Ok X) {Q : Exit → Act → World → Prop} : StepG (opsOf 5 Tryz.f88) NW5.acts NW5.av X.val0 X.Wd X.a0 Q 9 := by
  intro γ listed a w o hF hC hW h1 ho h2
  obtain ⟨hd, hop, hg⟩ := fields2 (x := some 40) (y := Op.load 26 (.tmp 39)) (z := none) (by kernel_rfl) ho
  have e39 : a.eval (.tmp 39) = .pointer (some ⟨X.bx, 0, none⟩) := slotG hF ho h2 (j := 8) (d := 39) (by kernel_rfl) (by kernel_rfl) (by rw [ok.sz]; decide)
  have hph := phase_leG (acts := NW5.acts) (m := 0) (x := 14) hC (unl (hF.lt ho) h1) rfl [11, 10, 9] (by kernel_rfl) (by decide)
  have hWW := hW
  generalize phase listed NW5.acts = n at hph hWW
  obtain rfl : n = 0 := by omega
  have hk : w = X.W := hWW
  have hc0 := ok.cn
  rw [← hk] at hc0
  refine st_pureG hF hC hW ho h2 (by decide) hd hg rfl ?_
  show _ = Result.ok (Next.value (.slice (some ⟨X.nb, X.no, none⟩) X.n X.nc)) w
  generalize a.eval = ρ at e39 ⊢
  unfold execOp
  rw [hop]
  simp [e39, hc0, go_sem]
theorem NW5.s10 (X : NW5) (ok : NW5Ok X) {Q : Exit → Act → World → Prop} : StepG (opsOf 5 Tryz.f88) NW5.acts NW5.av X.val0 X.Wd X.a0 Q 10 := by
  intro γ listed a w o hF hC hW h1 ho h2
  obtain ⟨hd, hop, hg⟩ := fields2 (x := some 41) (y := Op.call { callee := .builtin .len, args := #[(.tmp 40)], argTypes := #[26] }) (z := none) (by kernel_rfl) ho
  have e40 : a.eval (.tmp 40) = .slice (some ⟨X.nb, X.no, none⟩) X.n X.nc := slotG hF ho h2 (j := 9) (d := 40) (by kernel_rfl) (by kernel_rfl) (by rw [ok.sz]; decide)
  refine st_pureG hF hC hW ho h2 (by decide) hd hg rfl ?_
  show _ = Result.ok (Next.value (.int .i64 (X.n : Int))) w
  generalize a.eval = ρ at e40 ⊢
  unfold execOp
  rw [hop]
  simp [e40, go_sem]
theorem NW5.s11 (X : NW5) (ok : NW5Ok X) {Q : Exit → Act → World → Prop} : StepG (opsOf 5 Tryz.f88) NW5.acts NW5.av X.val0 X.Wd X.a0 Q 11 := by
  intro γ listed a w o hF hC hW h1 ho h2
  obtain ⟨hd, hop, hg⟩ := fields2 (x := some 42) (y := Op.binOp .rem 3 (.tmp 36) (.tmp 41) 3) (z := none) (by kernel_rfl) ho
  have e36 : a.eval (.tmp 36) = .int .i64 ((X.k : Int) + 1) := slotG hF ho h2 (j := 5) (d := 36) (by kernel_rfl) (by kernel_rfl) (by rw [ok.sz]; decide)
  have e41 : a.eval (.tmp 41) = .int .i64 (X.n : Int) := slotG hF ho h2 (j := 10) (d := 41) (by kernel_rfl) (by kernel_rfl) (by rw [ok.sz]; decide)
  refine st_pureG hF hC hW ho h2 (by decide) hd hg rfl ?_
  show _ = Result.ok (Next.value (.int .i64 (X.m : Int))) w
  generalize a.eval = ρ at e36 e41 ⊢
  unfold execOp
  rw [hop]
  simp [e36, e41, ok.rm, ok.hn, go_sem]
theorem NW5.s12 (X : NW5) (ok : NW5Ok X) {Q : Exit → Act → World → Prop} : StepG (opsOf 5 Tryz.f88) NW5.acts NW5.av X.val0 X.Wd X.a0 Q 12 := by
  intro γ listed a w o hF hC hW h1 ho h2
  obtain ⟨hd, hop, hg⟩ := fields2 (x := some 43) (y := Op.nilCheck (.tmp 31)) (z := none) (by kernel_rfl) ho
  have e31 : a.eval (.tmp 31) = .pointer (some ⟨X.bx, 0, none⟩) := slotG hF ho h2 (j := 0) (d := 31) (by kernel_rfl) (by kernel_rfl) (by rw [ok.sz]; decide)
  refine st_pureG hF hC hW ho h2 (by decide) hd hg rfl ?_
  show _ = Result.ok (Next.value (.pointer (some ⟨X.bx, 0, none⟩))) w
  generalize a.eval = ρ at e31 ⊢
  unfold execOp
  rw [hop]
  simp [e31, go_sem]
theorem NW5.s13 (X : NW5) (ok : NW5Ok X) {Q : Exit → Act → World → Prop} : StepG (opsOf 5 Tryz.f88) NW5.acts NW5.av X.val0 X.Wd X.a0 Q 13 := by
  intro γ listed a w o hF hC hW h1 ho h2
  obtain ⟨hd, hop, hg⟩ := fields2 (x := some 44) (y := Op.fieldAddr 100 (.tmp 43) 1) (z := none) (by kernel_rfl) ho
  have e43 : a.eval (.tmp 43) = .pointer (some ⟨X.bx, 0, none⟩) := slotG hF ho h2 (j := 12) (d := 43) (by kernel_rfl) (by kernel_rfl) (by rw [ok.sz]; decide)
  refine st_pureG hF hC hW ho h2 (by decide) hd hg rfl ?_
  show _ = Result.ok (Next.value (.pointer (some ⟨X.bx, 1, none⟩))) w
  generalize a.eval = ρ at e43 ⊢
  unfold execOp
  rw [hop]
  simp [e43, go_sem]
theorem NW5.s14 (X : NW5) (ok : NW5Ok X) {Q : Exit → Act → World → Prop} : StepG (opsOf 5 Tryz.f88) NW5.acts NW5.av X.val0 X.Wd X.a0 Q 14 := by
  intro γ listed a w o hF hC hW h1 ho h2
  obtain ⟨hd, hop, hg⟩ := fields2 (x := none) (y := Op.store 3 (.tmp 44) (.tmp 42)) (z := none) (by kernel_rfl) ho
  have e44 : a.eval (.tmp 44) = .pointer (some ⟨X.bx, 1, none⟩) := slotG hF ho h2 (j := 13) (d := 44) (by kernel_rfl) (by kernel_rfl) (by rw [ok.sz]; decide)
  have e42 : a.eval (.tmp 42) = .int .i64 (X.m : Int) := slotG hF ho h2 (j := 11) (d := 42) (by kernel_rfl) (by kernel_rfl) (by rw [ok.sz]; decide)
  have hu := unl (hF.lt ho) h1
  refine st_actG (k := 0) NW5.chain NW5.nodup rfl hF hC hW h1 ho h2 (Or.inl hd) (NW5.inj (by kernel_rfl) hu) hg ?_
  intro hW0 K hK
  have hw0 : w = X.W := hW0
  obtain ⟨z0, f0⟩ := ok.cz
  have ff := ok.ff
  have hr : (execOp a.eval o).run Tryz.prog X.W = .ok .skip (X.W.setCell ⟨X.bx, 1, none⟩ (.int .i64 (X.m : Int))) := by
    generalize a.eval = ρ at e44 e42 ⊢
    unfold execOp
    rw [hop]
    simp [e44, e42, f0, ff, go_sem]
  unfold Oper.wp
  rw [hw0, hr]
  exact hK undef _ rfl
theorem NW5.size : (opsOf 5 Tryz.f88).size = 15 := by kernel_rfl
theorem NW5.steps (X : NW5) (ok : NW5Ok X) {Q : Exit → Act → World → Prop} (i : Nat) (hi : i < (opsOf 5 Tryz.f88).size) : StepG (opsOf 5 Tryz.f88) NW5.acts NW5.av X.val0 X.Wd X.a0 Q i := by
  rw [NW5.size] at hi
  have hc : i = 0 ∨ i = 1 ∨ i = 2 ∨ i = 3 ∨ i = 4 ∨ i = 5 ∨ i = 6 ∨ i = 7 ∨ i = 8 ∨ i = 9 ∨ i = 10 ∨ i = 11 ∨ i = 12 ∨ i = 13 ∨ i = 14 := by omega
  rcases hc with rfl | rfl | rfl | rfl | rfl | rfl | rfl | rfl | rfl | rfl | rfl | rfl | rfl | rfl | rfl
  · exact NW5.s0 X ok
  · exact NW5.s1 X ok
  · exact NW5.s2 X ok
  · exact NW5.s3 X ok
  · exact NW5.s4 X ok
  · exact NW5.s5 X ok
  · exact NW5.s6 X ok
  · exact NW5.s7 X ok
  · exact NW5.s8 X ok
  · exact NW5.s9 X ok
  · exact NW5.s10 X ok
  · exact NW5.s11 X ok
  · exact NW5.s12 X ok
  · exact NW5.s13 X ok
  · exact NW5.s14 X ok
theorem NW5.puts (X : NW5) (γ : Nat → Value) (a0 : Act) : putsL (valG NW5.av X.val0 γ) (opsOf 5 Tryz.f88).toList a0 = ((((((((((((((a0.put (some 31) (.pointer (some ⟨X.bx, 0, none⟩))).put (some 32) (.pointer (some ⟨X.bx, 0, none⟩))).put (some 33) (.pointer (some ⟨X.bx, 0, none⟩))).put (some 34) (.pointer (some ⟨X.bx, 1, none⟩))).put (some 35) (.int .i64 (X.k : Int))).put (some 36) (.int .i64 ((X.k : Int) + 1))).put (some 37) (.pointer (some ⟨X.bx, 0, none⟩))).put (some 38) (.pointer (some ⟨X.bx, 0, none⟩))).put (some 39) (.pointer (some ⟨X.bx, 0, none⟩))).put (some 40) (.slice (some ⟨X.nb, X.no, none⟩) X.n X.nc)).put (some 41) (.int .i64 (X.n : Int))).put (some 42) (.int .i64 (X.m : Int))).put (some 43) (.pointer (some ⟨X.bx, 0, none⟩))).put (some 44) (.pointer (some ⟨X.bx, 1, none⟩))) := by kernel_rfl
/-- The region, whatever order comes up. -/
theorem NW5.run (X : NW5) (ok : NW5Ok X) {Q : Exit → Act → World → Prop} (w : World) (h0 : X.Wd 0 (fun _ => undef) w.drew) (hend : ∀ (γ : Nat → Value) w', X.Wd 1 γ w' → Q .normal ((((((((((((((X.a0.put (some 31) (.pointer (some ⟨X.bx, 0, none⟩))).put (some 32) (.pointer (some ⟨X.bx, 0, none⟩))).put (some 33) (.pointer (some ⟨X.bx, 0, none⟩))).put (some 34) (.pointer (some ⟨X.bx, 1, none⟩))).put (some 35) (.int .i64 (X.k : Int))).put (some 36) (.int .i64 ((X.k : Int) + 1))).put (some 37) (.pointer (some ⟨X.bx, 0, none⟩))).put (some 38) (.pointer (some ⟨X.bx, 0, none⟩))).put (some 39) (.pointer (some ⟨X.bx, 0, none⟩))).put (some 40) (.slice (some ⟨X.nb, X.no, none⟩) X.n X.nc)).put (some 41) (.int .i64 (X.n : Int))).put (some 42) (.int .i64 (X.m : Int))).put (some 43) (.pointer (some ⟨X.bx, 0, none⟩))).put (some 44) (.pointer (some ⟨X.bx, 1, none⟩))) w') : (Code.region 5 (opsOf 5 Tryz.f88) true).wp Tryz.prog Q X.a0 w := by
  refine reg_act (acts := NW5.acts) (av := NW5.av) (val0 := X.val0) (Wd := X.Wd) (by kernel_rfl) (by kernel_rfl) (by rw [NW5.size]; decide) (fun i hi => NW5.steps X ok i hi) _ h0 ?_
  intro γ w' h
  rw [NW5.puts]
  exact hend γ w' h
structure NW6 where
  bx : Nat
  nb : Nat
  no : Nat
  n : Nat
  nc : Nat
  m : Nat
  x : Int
  W : World
  a0 : Act
structure NW6Ok (X : NW6) : Prop where
  cn : X.W.cell? ⟨X.bx, 0, none⟩ = some (.slice (some ⟨X.nb, X.no, none⟩) X.n X.nc)
  c1 : X.W.cell? ⟨X.bx, 1, none⟩ = some (.int .i64 (X.m : Int))
  hm : X.m < X.n
  cx : X.W.cell? ⟨X.nb, X.no + X.m, none⟩ = some (.int .i64 X.x)
  cz : ∃ z, X.W.cell? ⟨X.bx, 2, none⟩ = some (.int .i64 z)
  ff : ∀ o, X.W.frozen? ⟨X.bx, o, none⟩ = false
  e0 : X.a0.eval (.tmp 0) = .pointer (some ⟨X.bx, 0, none⟩)
  sz : X.a0.tmps.size = 76
def NW6.val0 (X : NW6) : Nat → Value
  | 45 => .pointer (some ⟨X.bx, 0, none⟩)
  | 46 => .pointer (some ⟨X.bx, 0, none⟩)
  | 47 => .pointer (some ⟨X.bx, 0, none⟩)
  | 48 => .pointer (some ⟨X.bx, 0, none⟩)
  | 49 => .slice (some ⟨X.nb, X.no, none⟩) X.n X.nc
  | 50 => .pointer (some ⟨X.bx, 0, none⟩)
  | 51 => .pointer (some ⟨X.bx, 0, none⟩)
  | 52 => .pointer (some ⟨X.bx, 1, none⟩)
  | 53 => .int .i64 (X.m : Int)
  | 54 => .pointer (some ⟨X.nb, X.no + X.m, none⟩)
  | 55 => .int .i64 X.x
  | 56 => .pointer (some ⟨X.bx, 0, none⟩)
  | 57 => .pointer (some ⟨X.bx, 2, none⟩)
  | _ => undef
def NW6.av : Nat → Option Nat
  | _ => none
def NW6.acts : List Nat := [13]
/-- The world, by how many of the acting ones have come up. -/
def NW6.Wd (X : NW6) : Nat → (Nat → Value) → World → Prop
  | 0, _, w => w = X.W
  | _, _, w => w = X.W.setCell ⟨X.bx, 2, none⟩ (.int .i64 X.x)
theorem NW6.chain : chainG (opsOf 6 Tryz.f88) NW6.acts = true := by kernel_rfl
theorem NW6.nodup : NW6.acts.Nodup := by decide
theorem NW6.inj {listed : Array Bool} {i k : Nat} (h : (List.range (opsOf 6 Tryz.f88).size).all (fun j => decide (j = i) || !(match dstOf (opsOf 6 Tryz.f88) j with | some d => decide (NW6.av d = some k) | none => false)) = true) (hu : listed.getD i false = false) : ∀ d, got (opsOf 6 Tryz.f88) listed d → NW6.av d ≠ some k := by
  rintro d ⟨j, h1, h2⟩ h3
  have hlt : j < (opsOf 6 Tryz.f88).size := by
    rcases Nat.lt_or_ge j (opsOf 6 Tryz.f88).size with h4 | h4
    · exact h4
    · unfold dstOf at h2; rw [Array.getElem?_eq_none h4] at h2; cases h2
  have h5 := List.all_eq_true.1 h j (List.mem_range.2 hlt)
  rw [h2] at h5
  simp only [h3, decide_true, Bool.not_true, Bool.or_false, decide_eq_true_eq] at h5
  subst h5
  rw [hu] at h1
  cases h1
theorem NW6.s0 (X : NW6) (ok : NW6Ok X) {Q : Exit → Act → World → Prop} : StepG (opsOf 6 Tryz.f88) NW6.acts NW6.av X.val0 X.Wd X.a0 Q 0 := by
  intro γ listed a w o hF hC hW h1 ho h2
  obtain ⟨hd, hop, hg⟩ := fields2 (x := some 45) (y := Op.move (.tmp 0)) (z := none) (by kernel_rfl) ho
  have e0 : a.eval (.tmp 0) = .pointer (some ⟨X.bx, 0, none⟩) := (hF.eval0 (by kernel_rfl)).trans ok.e0
  refine st_pureG hF hC hW ho h2 (by decide) hd hg rfl ?_
  show _ = Result.ok (Next.value (.pointer (some ⟨X.bx, 0, none⟩))) w
  generalize a.eval = ρ at e0 ⊢
  unfold execOp
  rw [hop]
  simp [e0, go_sem]
theorem NW6.s1 (X : NW6) (ok : NW6Ok X) {Q : Exit → Act → World → Prop} : StepG (opsOf 6 Tryz.f88) NW6.acts NW6.av X.val0 X.Wd X.a0 Q 1 := by
  intro γ listed a w o hF hC hW h1 ho h2
  obtain ⟨hd, hop, hg⟩ := fields2 (x := some 46) (y := Op.move (.tmp 0)) (z := none) (by kernel_rfl) ho
  have e0 : a.eval (.tmp 0) = .pointer (some ⟨X.bx, 0, none⟩) := (hF.eval0 (by kernel_rfl)).trans ok.e0
  refine st_pureG hF hC hW ho h2 (by decide) hd hg rfl ?_
  show _ = Result.ok (Next.value (.pointer (some ⟨X.bx, 0, none⟩))) w
  generalize a.eval = ρ at e0 ⊢
  unfold execOp
  rw [hop]
  simp [e0, go_sem]
theorem NW6.s2 (X : NW6) (ok : NW6Ok X) {Q : Exit → Act → World → Prop} : StepG (opsOf 6 Tryz.f88) NW6.acts NW6.av X.val0 X.Wd X.a0 Q 2 := by
  intro γ listed a w o hF hC hW h1 ho h2
  obtain ⟨hd, hop, hg⟩ := fields2 (x := some 47) (y := Op.nilCheck (.tmp 46)) (z := none) (by kernel_rfl) ho
  have e46 : a.eval (.tmp 46) = .pointer (some ⟨X.bx, 0, none⟩) := slotG hF ho h2 (j := 1) (d := 46) (by kernel_rfl) (by kernel_rfl) (by rw [ok.sz]; decide)
  refine st_pureG hF hC hW ho h2 (by decide) hd hg rfl ?_
  show _ = Result.ok (Next.value (.pointer (some ⟨X.bx, 0, none⟩))) w
  generalize a.eval = ρ at e46 ⊢
  unfold execOp
  rw [hop]
  simp [e46, go_sem]
theorem NW6.s3 (X : NW6) (ok : NW6Ok X) {Q : Exit → Act → World → Prop} : StepG (opsOf 6 Tryz.f88) NW6.acts NW6.av X.val0 X.Wd X.a0 Q 3 := by
  intro γ listed a w o hF hC hW h1 ho h2
  obtain ⟨hd, hop, hg⟩ := fields2 (x := some 48) (y := Op.fieldAddr 100 (.tmp 47) 0) (z := none) (by kernel_rfl) ho
  have e47 : a.eval (.tmp 47) = .pointer (some ⟨X.bx, 0, none⟩) := slotG hF ho h2 (j := 2) (d := 47) (by kernel_rfl) (by kernel_rfl) (by rw [ok.sz]; decide)
  refine st_pureG hF hC hW ho h2 (by decide) hd hg rfl ?_
  show _ = Result.ok (Next.value (.pointer (some ⟨X.bx, 0, none⟩))) w
  generalize a.eval = ρ at e47 ⊢
  unfold execOp
  rw [hop]
  simp [e47, go_sem]
theorem NW6.s4 (X : NW6) (ok : NW6Ok X) {Q : Exit → Act → World → Prop} : StepG (opsOf 6 Tryz.f88) NW6.acts NW6.av X.val0 X.Wd X.a0 Q 4 := by
  intro γ listed a w o hF hC hW h1 ho h2
  obtain ⟨hd, hop, hg⟩ := fields2 (x := some 49) (y := Op.load 26 (.tmp 48)) (z := none) (by kernel_rfl) ho
  have e48 : a.eval (.tmp 48) = .pointer (some ⟨X.bx, 0, none⟩) := slotG hF ho h2 (j := 3) (d := 48) (by kernel_rfl) (by kernel_rfl) (by rw [ok.sz]; decide)
  have hph := phase_leG (acts := NW6.acts) (m := 0) (x := 13) hC (unl (hF.lt ho) h1) rfl [10, 9, 4] (by kernel_rfl) (by decide)
  have hWW := hW
  generalize phase listed NW6.acts = n at hph hWW
  obtain rfl : n = 0 := by omega
  have hk : w = X.W := hWW
  have hc0 := ok.cn
  rw [← hk] at hc0
  refine st_pureG hF hC hW ho h2 (by decide) hd hg rfl ?_
  show _ = Result.ok (Next.value (.slice (some ⟨X.nb, X.no, none⟩) X.n X.nc)) w
  generalize a.eval = ρ at e48 ⊢
  unfold execOp
  rw [hop]
  simp [e48, hc0, go_sem]
theorem NW6.s5 (X : NW6) (ok : NW6Ok X) {Q : Exit → Act → World → Prop} : StepG (opsOf 6 Tryz.f88) NW6.acts NW6.av X.val0 X.Wd X.a0 Q 5 := by
  intro γ listed a w o hF hC hW h1 ho h2
  obtain ⟨hd, hop, hg⟩ := fields2 (x := some 50) (y := Op.move (.tmp 0)) (z := none) (by kernel_rfl) ho
  have e0 : a.eval (.tmp 0) = .pointer (some ⟨X.bx, 0, none⟩) := (hF.eval0 (by kernel_rfl)).trans ok.e0
  refine st_pureG hF hC hW ho h2 (by decide) hd hg rfl ?_
  show _ = Result.ok (Next.value (.pointer (some ⟨X.bx, 0, none⟩))) w
  generalize a.eval = ρ at e0 ⊢
  unfold execOp
  rw [hop]
  simp [e0, go_sem]
theorem NW6.s6 (X : NW6) (ok : NW6Ok X) {Q : Exit → Act → World → Prop} : StepG (opsOf 6 Tryz.f88) NW6.acts NW6.av X.val0 X.Wd X.a0 Q 6 := by
  intro γ listed a w o hF hC hW h1 ho h2
  obtain ⟨hd, hop, hg⟩ := fields2 (x := some 51) (y := Op.nilCheck (.tmp 50)) (z := none) (by kernel_rfl) ho
  have e50 : a.eval (.tmp 50) = .pointer (some ⟨X.bx, 0, none⟩) := slotG hF ho h2 (j := 5) (d := 50) (by kernel_rfl) (by kernel_rfl) (by rw [ok.sz]; decide)
  refine st_pureG hF hC hW ho h2 (by decide) hd hg rfl ?_
  show _ = Result.ok (Next.value (.pointer (some ⟨X.bx, 0, none⟩))) w
  generalize a.eval = ρ at e50 ⊢
  unfold execOp
  rw [hop]
  simp [e50, go_sem]
theorem NW6.s7 (X : NW6) (ok : NW6Ok X) {Q : Exit → Act → World → Prop} : StepG (opsOf 6 Tryz.f88) NW6.acts NW6.av X.val0 X.Wd X.a0 Q 7 := by
  intro γ listed a w o hF hC hW h1 ho h2
  obtain ⟨hd, hop, hg⟩ := fields2 (x := some 52) (y := Op.fieldAddr 100 (.tmp 51) 1) (z := none) (by kernel_rfl) ho
  have e51 : a.eval (.tmp 51) = .pointer (some ⟨X.bx, 0, none⟩) := slotG hF ho h2 (j := 6) (d := 51) (by kernel_rfl) (by kernel_rfl) (by rw [ok.sz]; decide)
  refine st_pureG hF hC hW ho h2 (by decide) hd hg rfl ?_
  show _ = Result.ok (Next.value (.pointer (some ⟨X.bx, 1, none⟩))) w
  generalize a.eval = ρ at e51 ⊢
  unfold execOp
  rw [hop]
  simp [e51, go_sem]
theorem NW6.s8 (X : NW6) (ok : NW6Ok X) {Q : Exit → Act → World → Prop} : StepG (opsOf 6 Tryz.f88) NW6.acts NW6.av X.val0 X.Wd X.a0 Q 8 := by
  intro γ listed a w o hF hC hW h1 ho h2
  obtain ⟨hd, hop, hg⟩ := fields2 (x := some 53) (y := Op.load 3 (.tmp 52)) (z := none) (by kernel_rfl) ho
  have e52 : a.eval (.tmp 52) = .pointer (some ⟨X.bx, 1, none⟩) := slotG hF ho h2 (j := 7) (d := 52) (by kernel_rfl) (by kernel_rfl) (by rw [ok.sz]; decide)
  have hph := phase_leG (acts := NW6.acts) (m := 0) (x := 13) hC (unl (hF.lt ho) h1) rfl [10, 9, 8] (by kernel_rfl) (by decide)
  have hWW := hW
  generalize phase listed NW6.acts = n at hph hWW
  obtain rfl : n = 0 := by omega
  have hk : w = X.W := hWW
  have hc0 := ok.c1
  rw [← hk] at hc0
  refine st_pureG hF hC hW ho h2 (by decide) hd hg rfl ?_
  show _ = Result.ok (Next.value (.int .i64 (X.m : Int))) w
  generalize a.eval = ρ at e52 ⊢
  unfold execOp
  rw [hop]
  simp [e52, hc0, go_sem]
theorem NW6.s9 (X : NW6) (ok : NW6Ok X) {Q : Exit → Act → World → Prop} : StepG (opsOf 6 Tryz.f88) NW6.acts NW6.av X.val0 X.Wd X.a0 Q 9 := by
  intro γ listed a w o hF hC hW h1 ho h2
  obtain ⟨hd, hop, hg⟩ := fields2 (x := some 54) (y := Op.indexAddr 26 (.tmp 49) (.tmp 53)) (z := none) (by kernel_rfl) ho
  have e49 : a.eval (.tmp 49) = .slice (some ⟨X.nb, X.no, none⟩) X.n X.nc := slotG hF ho h2 (j := 4) (d := 49) (by kernel_rfl) (by kernel_rfl) (by rw [ok.sz]; decide)
  have e53 : a.eval (.tmp 53) = .int .i64 (X.m : Int) := slotG hF ho h2 (j := 8) (d := 53) (by kernel_rfl) (by kernel_rfl) (by rw [ok.sz]; decide)
  refine st_pureG hF hC hW ho h2 (by decide) hd hg rfl ?_
  show _ = Result.ok (Next.value (.pointer (some ⟨X.nb, X.no + X.m, none⟩))) w
  generalize a.eval = ρ at e49 e53 ⊢
  unfold execOp
  rw [hop]
  simp [e49, e53, ok.hm, go_sem]
theorem NW6.s10 (X : NW6) (ok : NW6Ok X) {Q : Exit → Act → World → Prop} : StepG (opsOf 6 Tryz.f88) NW6.acts NW6.av X.val0 X.Wd X.a0 Q 10 := by
  intro γ listed a w o hF hC hW h1 ho h2
  obtain ⟨hd, hop, hg⟩ := fields2 (x := some 55) (y := Op.load 3 (.tmp 54)) (z := none) (by kernel_rfl) ho
  have e54 : a.eval (.tmp 54) = .pointer (some ⟨X.nb, X.no + X.m, none⟩) := slotG hF ho h2 (j := 9) (d := 54) (by kernel_rfl) (by kernel_rfl) (by rw [ok.sz]; decide)
  have hph := phase_leG (acts := NW6.acts) (m := 0) (x := 13) hC (unl (hF.lt ho) h1) rfl [10] (by kernel_rfl) (by decide)
  have hWW := hW
  generalize phase listed NW6.acts = n at hph hWW
  obtain rfl : n = 0 := by omega
  have hk : w = X.W := hWW
  have hc0 := ok.cx
  rw [← hk] at hc0
  refine st_pureG hF hC hW ho h2 (by decide) hd hg rfl ?_
  show _ = Result.ok (Next.value (.int .i64 X.x)) w
  generalize a.eval = ρ at e54 ⊢
  unfold execOp
  rw [hop]
  simp [e54, hc0, go_sem]
theorem NW6.s11 (X : NW6) (ok : NW6Ok X) {Q : Exit → Act → World → Prop} : StepG (opsOf 6 Tryz.f88) NW6.acts NW6.av X.val0 X.Wd X.a0 Q 11 := by
  intro γ listed a w o hF hC hW h1 ho h2
  obtain ⟨hd, hop, hg⟩ := fields2 (x := some 56) (y := Op.nilCheck (.tmp 45)) (z := none) (by kernel_rfl) ho
  have e45 : a.eval (.tmp 45) = .pointer (some ⟨X.bx, 0, none⟩) := slotG hF ho h2 (j := 0) (d := 45) (by kernel_rfl) (by kernel_rfl) (by rw [ok.sz]; decide)
  refine st_pureG hF hC hW ho h2 (by decide) hd hg rfl ?_
  show _ = Result.ok (Next.value (.pointer (some ⟨X.bx, 0, none⟩))) w
  generalize a.eval = ρ at e45 ⊢
  unfold execOp
  rw [hop]
  simp [e45, go_sem]
theorem NW6.s12 (X : NW6) (ok : NW6Ok X) {Q : Exit → Act → World → Prop} : StepG (opsOf 6 Tryz.f88) NW6.acts NW6.av X.val0 X.Wd X.a0 Q 12 := by
  intro γ listed a w o hF hC hW h1 ho h2
  obtain ⟨hd, hop, hg⟩ := fields2 (x := some 57) (y := Op.fieldAddr 100 (.tmp 56) 2) (z := none) (by kernel_rfl) ho
  have e56 : a.eval (.tmp 56) = .pointer (some ⟨X.bx, 0, none⟩) := slotG hF ho h2 (j := 11) (d := 56) (by kernel_rfl) (by kernel_rfl) (by rw [ok.sz]; decide)
  refine st_pureG hF hC hW ho h2 (by decide) hd hg rfl ?_
  show _ = Result.ok (Next.value (.pointer (some ⟨X.bx, 2, none⟩))) w
  generalize a.eval = ρ at e56 ⊢
  unfold execOp
  rw [hop]
  simp [e56, go_sem]
theorem NW6.s13 (X : NW6) (ok : NW6Ok X) {Q : Exit → Act → World → Prop} : StepG (opsOf 6 Tryz.f88) NW6.acts NW6.av X.val0 X.Wd X.a0 Q 13 := by
  intro γ listed a w o hF hC hW h1 ho h2
  obtain ⟨hd, hop, hg⟩ := fields2 (x := none) (y := Op.store 3 (.tmp 57) (.tmp 55)) (z := none) (by kernel_rfl) ho
  have e57 : a.eval (.tmp 57) = .pointer (some ⟨X.bx, 2, none⟩) := slotG hF ho h2 (j := 12) (d := 57) (by kernel_rfl) (by kernel_rfl) (by rw [ok.sz]; decide)
  have e55 : a.eval (.tmp 55) = .int .i64 X.x := slotG hF ho h2 (j := 10) (d := 55) (by kernel_rfl) (by kernel_rfl) (by rw [ok.sz]; decide)
  have hu := unl (hF.lt ho) h1
  refine st_actG (k := 0) NW6.chain NW6.nodup rfl hF hC hW h1 ho h2 (Or.inl hd) (NW6.inj (by kernel_rfl) hu) hg ?_
  intro hW0 K hK
  have hw0 : w = X.W := hW0
  obtain ⟨z0, f0⟩ := ok.cz
  have ff := ok.ff
  have hr : (execOp a.eval o).run Tryz.prog X.W = .ok .skip (X.W.setCell ⟨X.bx, 2, none⟩ (.int .i64 X.x)) := by
    generalize a.eval = ρ at e57 e55 ⊢
    unfold execOp
    rw [hop]
    simp [e57, e55, f0, ff, go_sem]
  unfold Oper.wp
  rw [hw0, hr]
  exact hK undef _ rfl
theorem NW6.size : (opsOf 6 Tryz.f88).size = 14 := by kernel_rfl
theorem NW6.steps (X : NW6) (ok : NW6Ok X) {Q : Exit → Act → World → Prop} (i : Nat) (hi : i < (opsOf 6 Tryz.f88).size) : StepG (opsOf 6 Tryz.f88) NW6.acts NW6.av X.val0 X.Wd X.a0 Q i := by
  rw [NW6.size] at hi
  have hc : i = 0 ∨ i = 1 ∨ i = 2 ∨ i = 3 ∨ i = 4 ∨ i = 5 ∨ i = 6 ∨ i = 7 ∨ i = 8 ∨ i = 9 ∨ i = 10 ∨ i = 11 ∨ i = 12 ∨ i = 13 := by omega
  rcases hc with rfl | rfl | rfl | rfl | rfl | rfl | rfl | rfl | rfl | rfl | rfl | rfl | rfl | rfl
  · exact NW6.s0 X ok
  · exact NW6.s1 X ok
  · exact NW6.s2 X ok
  · exact NW6.s3 X ok
  · exact NW6.s4 X ok
  · exact NW6.s5 X ok
  · exact NW6.s6 X ok
  · exact NW6.s7 X ok
  · exact NW6.s8 X ok
  · exact NW6.s9 X ok
  · exact NW6.s10 X ok
  · exact NW6.s11 X ok
  · exact NW6.s12 X ok
  · exact NW6.s13 X ok
theorem NW6.puts (X : NW6) (γ : Nat → Value) (a0 : Act) : putsL (valG NW6.av X.val0 γ) (opsOf 6 Tryz.f88).toList a0 = (((((((((((((a0.put (some 45) (.pointer (some ⟨X.bx, 0, none⟩))).put (some 46) (.pointer (some ⟨X.bx, 0, none⟩))).put (some 47) (.pointer (some ⟨X.bx, 0, none⟩))).put (some 48) (.pointer (some ⟨X.bx, 0, none⟩))).put (some 49) (.slice (some ⟨X.nb, X.no, none⟩) X.n X.nc)).put (some 50) (.pointer (some ⟨X.bx, 0, none⟩))).put (some 51) (.pointer (some ⟨X.bx, 0, none⟩))).put (some 52) (.pointer (some ⟨X.bx, 1, none⟩))).put (some 53) (.int .i64 (X.m : Int))).put (some 54) (.pointer (some ⟨X.nb, X.no + X.m, none⟩))).put (some 55) (.int .i64 X.x)).put (some 56) (.pointer (some ⟨X.bx, 0, none⟩))).put (some 57) (.pointer (some ⟨X.bx, 2, none⟩))) := by kernel_rfl
/-- The region, whatever order comes up. -/
theorem NW6.run (X : NW6) (ok : NW6Ok X) {Q : Exit → Act → World → Prop} (w : World) (h0 : X.Wd 0 (fun _ => undef) w.drew) (hend : ∀ (γ : Nat → Value) w', X.Wd 1 γ w' → Q .normal (((((((((((((X.a0.put (some 45) (.pointer (some ⟨X.bx, 0, none⟩))).put (some 46) (.pointer (some ⟨X.bx, 0, none⟩))).put (some 47) (.pointer (some ⟨X.bx, 0, none⟩))).put (some 48) (.pointer (some ⟨X.bx, 0, none⟩))).put (some 49) (.slice (some ⟨X.nb, X.no, none⟩) X.n X.nc)).put (some 50) (.pointer (some ⟨X.bx, 0, none⟩))).put (some 51) (.pointer (some ⟨X.bx, 0, none⟩))).put (some 52) (.pointer (some ⟨X.bx, 1, none⟩))).put (some 53) (.int .i64 (X.m : Int))).put (some 54) (.pointer (some ⟨X.nb, X.no + X.m, none⟩))).put (some 55) (.int .i64 X.x)).put (some 56) (.pointer (some ⟨X.bx, 0, none⟩))).put (some 57) (.pointer (some ⟨X.bx, 2, none⟩))) w') : (Code.region 6 (opsOf 6 Tryz.f88) true).wp Tryz.prog Q X.a0 w := by
  refine reg_act (acts := NW6.acts) (av := NW6.av) (val0 := X.val0) (Wd := X.Wd) (by kernel_rfl) (by kernel_rfl) (by rw [NW6.size]; decide) (fun i hi => NW6.steps X ok i hi) _ h0 ?_
  intro γ w' h
  rw [NW6.puts]
  exact hend γ w' h
structure SG6 where
  ax : Int
  ay : Int
  bx : Int
  cy : Int
  g : Int
  n : Int
  b0 : Nat
  b1 : Nat
  W : World
  a0 : Act
structure SG6Ok (X : SG6) : Prop where
  c0 : X.W.cell? ⟨X.b0, 0, none⟩ = some (.int .i64 X.ax)
  c1 : X.W.cell? ⟨X.b0, 1, none⟩ = some (.int .i64 X.ay)
  c2 : X.W.cell? ⟨X.b1, 0, none⟩ = some (.int .i64 X.bx)
  c3 : X.W.cell? ⟨X.b1, 1, none⟩ = some (.int .i64 X.cy)
  w1 : IntKind.i64.wrap (X.bx - X.ax) = X.bx - X.ax
  w2 : IntKind.i64.wrap ((X.bx - X.ax) * X.g) = (X.bx - X.ax) * X.g
  w3 : IntKind.i64.wrap (X.ax + (X.bx - X.ax) * X.g / X.n) = X.ax + (X.bx - X.ax) * X.g / X.n
  w4 : IntKind.i64.wrap (X.cy - X.ay) = X.cy - X.ay
  w5 : IntKind.i64.wrap ((X.cy - X.ay) * X.g) = (X.cy - X.ay) * X.g
  w6 : IntKind.i64.wrap (X.ay + (X.cy - X.ay) * X.g / X.n) = X.ay + (X.cy - X.ay) * X.g / X.n
  n0 : 0 < X.n
  n1 : X.n ≤ 4611686018427387904
  d1 : -4611686018427387904 ≤ (X.bx - X.ax) * X.g ∧ (X.bx - X.ax) * X.g ≤ 4611686018427387904
  d2 : -4611686018427387904 ≤ (X.cy - X.ay) * X.g ∧ (X.cy - X.ay) * X.g ≤ 4611686018427387904
  e4 : X.a0.eval (.tmp 4) = .pointer (some ⟨X.b0, 0, none⟩)
  e5 : X.a0.eval (.tmp 5) = .pointer (some ⟨X.b1, 0, none⟩)
  e6 : X.a0.eval (.tmp 6) = .int .i64 X.n
  e7 : X.a0.eval (.tmp 7) = .int .i64 X.g
  sz : X.a0.tmps.size = 92
def SG6.val0 (X : SG6) : Nat → Value
  | 43 => .pointer (some ⟨X.b0, 0, none⟩)
  | 44 => .int .i64 X.ax
  | 45 => .pointer (some ⟨X.b1, 0, none⟩)
  | 46 => .int .i64 X.bx
  | 47 => .pointer (some ⟨X.b0, 0, none⟩)
  | 48 => .int .i64 X.ax
  | 49 => .int .i64 ((X.bx - X.ax))
  | 50 => .int .i64 X.g
  | 51 => .int .i64 (((X.bx - X.ax) * X.g))
  | 52 => .int .i64 X.n
  | 53 => .int .i64 (((X.bx - X.ax) * X.g / X.n))
  | 54 => .int .i64 (X.ax + (X.bx - X.ax) * X.g / X.n)
  | 55 => .pointer (some ⟨X.b0, 1, none⟩)
  | 56 => .int .i64 X.ay
  | 57 => .pointer (some ⟨X.b1, 1, none⟩)
  | 58 => .int .i64 X.cy
  | 59 => .pointer (some ⟨X.b0, 1, none⟩)
  | 60 => .int .i64 X.ay
  | 61 => .int .i64 ((X.cy - X.ay))
  | 62 => .int .i64 X.g
  | 63 => .int .i64 (((X.cy - X.ay) * X.g))
  | 64 => .int .i64 X.n
  | 65 => .int .i64 (((X.cy - X.ay) * X.g / X.n))
  | 66 => .int .i64 (X.ay + (X.cy - X.ay) * X.g / X.n)
  | 67 => .agg #[.int .i64 (X.ax + (X.bx - X.ax) * X.g / X.n), .int .i64 (X.ay + (X.cy - X.ay) * X.g / X.n)]
  | _ => undef
def SG6.av : Nat → Option Nat
  | 8 => some 0
  | _ => none
def SG6.acts : List Nat := [25, 26]
/-- The world, by how many of the acting ones have come up. -/
def SG6.Wd (X : SG6) : Nat → (Nat → Value) → World → Prop
  | 0, _, w => Kp X.W w
  | 1, γ, w => ∃ g, γ 0 = .pointer (some ⟨g, 0, none⟩) ∧ X.W.heap.size ≤ g ∧ (w.cell? ⟨g, 0, none⟩ = some (.int .i64 0) ∧ w.cell? ⟨g, 1, none⟩ = some (.int .i64 0)) ∧ (∀ o, w.frozen? ⟨g, o, none⟩ = false) ∧ Kp X.W w
  | _, γ, w => ∃ g, γ 0 = .pointer (some ⟨g, 0, none⟩) ∧ X.W.heap.size ≤ g ∧ (w.cell? ⟨g, 0, none⟩ = some (.int .i64 (X.ax + (X.bx - X.ax) * X.g / X.n)) ∧ w.cell? ⟨g, 1, none⟩ = some (.int .i64 (X.ay + (X.cy - X.ay) * X.g / X.n))) ∧ (∀ o, w.frozen? ⟨g, o, none⟩ = false) ∧ Kp X.W w
theorem SG6.kp {X : SG6} : ∀ {n : Nat} {γ : Nat → Value} {w : World}, X.Wd n γ w → Kp X.W w
  | 0, _, _, h => h
  | 1, _, _, ⟨_, _, _, _, _, h⟩ => h
  | _ + 2, _, _, ⟨_, _, _, _, _, h⟩ => h
theorem SG6.keep {X : SG6} : ∀ {n : Nat} {γ : Nat → Value} {w w' : World}, X.Wd n γ w → Kp w w' → X.Wd n γ w'
  | 0, _, _, _, h, k => Kp.trans h k
  | 1, _, w, _, ⟨g, h1, h2, ⟨h30, h31⟩, h5, h6⟩, k => ⟨g, h1, h2, ⟨(k.cells.1 _ _ (World.block_lt_of_cell? w ⟨g, 0, none⟩ h30)).trans h30, (k.cells.1 _ _ (World.block_lt_of_cell? w ⟨g, 0, none⟩ h30)).trans h31⟩, fun o => (k.cells.2 _ _).trans (h5 o), Kp.trans h6 k⟩
  | _ + 2, _, w, _, ⟨g, h1, h2, ⟨h30, h31⟩, h5, h6⟩, k => ⟨g, h1, h2, ⟨(k.cells.1 _ _ (World.block_lt_of_cell? w ⟨g, 0, none⟩ h30)).trans h30, (k.cells.1 _ _ (World.block_lt_of_cell? w ⟨g, 0, none⟩ h30)).trans h31⟩, fun o => (k.cells.2 _ _).trans (h5 o), Kp.trans h6 k⟩
theorem SG6.chain : chainG (opsOf 6 Tryz.f67) SG6.acts = true := by kernel_rfl
theorem SG6.nodup : SG6.acts.Nodup := by decide
theorem SG6.inj {listed : Array Bool} {i k : Nat} (h : (List.range (opsOf 6 Tryz.f67).size).all (fun j => decide (j = i) || !(match dstOf (opsOf 6 Tryz.f67) j with | some d => decide (SG6.av d = some k) | none => false)) = true) (hu : listed.getD i false = false) : ∀ d, got (opsOf 6 Tryz.f67) listed d → SG6.av d ≠ some k := by
  rintro d ⟨j, h1, h2⟩ h3
  have hlt : j < (opsOf 6 Tryz.f67).size := by
    rcases Nat.lt_or_ge j (opsOf 6 Tryz.f67).size with h4 | h4
    · exact h4
    · unfold dstOf at h2; rw [Array.getElem?_eq_none h4] at h2; cases h2
  have h5 := List.all_eq_true.1 h j (List.mem_range.2 hlt)
  rw [h2] at h5
  simp only [h3, decide_true, Bool.not_true, Bool.or_false, decide_eq_true_eq] at h5
  subst h5
  rw [hu] at h1
  cases h1
theorem SG6.s0 (X : SG6) (ok : SG6Ok X) {Q : Exit → Act → World → Prop} : StepG (opsOf 6 Tryz.f67) SG6.acts SG6.av X.val0 X.Wd X.a0 Q 0 := by
  intro γ listed a w o hF hC hW h1 ho h2
  obtain ⟨hd, hop, hg⟩ := fields2 (x := some 43) (y := Op.fieldAddr 34 (.tmp 4) 0) (z := none) (by kernel_rfl) ho
  have e4 : a.eval (.tmp 4) = .pointer (some ⟨X.b0, 0, none⟩) := (hF.eval0 (by kernel_rfl)).trans ok.e4
  refine st_pureG hF hC hW ho h2 (by decide) hd hg rfl ?_
  show _ = Result.ok (Next.value (.pointer (some ⟨X.b0, 0, none⟩))) w
  generalize a.eval = ρ at e4 ⊢
  unfold execOp
  rw [hop]
  simp [e4, go_sem]
theorem SG6.s1 (X : SG6) (ok : SG6Ok X) {Q : Exit → Act → World → Prop} : StepG (opsOf 6 Tryz.f67) SG6.acts SG6.av X.val0 X.Wd X.a0 Q 1 := by
  intro γ listed a w o hF hC hW h1 ho h2
  obtain ⟨hd, hop, hg⟩ := fields2 (x := some 44) (y := Op.load 3 (.tmp 43)) (z := none) (by kernel_rfl) ho
  have e43 : a.eval (.tmp 43) = .pointer (some ⟨X.b0, 0, none⟩) := slotG hF ho h2 (j := 0) (d := 43) (by kernel_rfl) (by kernel_rfl) (by rw [ok.sz]; decide)
  have hc0 := rq_at (SG6.kp hW) ok.c0
  refine st_pureG hF hC hW ho h2 (by decide) hd hg rfl ?_
  show _ = Result.ok (Next.value (.int .i64 X.ax)) w
  generalize a.eval = ρ at e43 ⊢
  unfold execOp
  rw [hop]
  simp [e43, hc0, go_sem]
theorem SG6.s2 (X : SG6) (ok : SG6Ok X) {Q : Exit → Act → World → Prop} : StepG (opsOf 6 Tryz.f67) SG6.acts SG6.av X.val0 X.Wd X.a0 Q 2 := by
  intro γ listed a w o hF hC hW h1 ho h2
  obtain ⟨hd, hop, hg⟩ := fields2 (x := some 45) (y := Op.fieldAddr 34 (.tmp 5) 0) (z := none) (by kernel_rfl) ho
  have e5 : a.eval (.tmp 5) = .pointer (some ⟨X.b1, 0, none⟩) := (hF.eval0 (by kernel_rfl)).trans ok.e5
  refine st_pureG hF hC hW ho h2 (by decide) hd hg rfl ?_
  show _ = Result.ok (Next.value (.pointer (some ⟨X.b1, 0, none⟩))) w
  generalize a.eval = ρ at e5 ⊢
  unfold execOp
  rw [hop]
  simp [e5, go_sem]
theorem SG6.s3 (X : SG6) (ok : SG6Ok X) {Q : Exit → Act → World → Prop} : StepG (opsOf 6 Tryz.f67) SG6.acts SG6.av X.val0 X.Wd X.a0 Q 3 := by
  intro γ listed a w o hF hC hW h1 ho h2
  obtain ⟨hd, hop, hg⟩ := fields2 (x := some 46) (y := Op.load 3 (.tmp 45)) (z := none) (by kernel_rfl) ho
  have e45 : a.eval (.tmp 45) = .pointer (some ⟨X.b1, 0, none⟩) := slotG hF ho h2 (j := 2) (d := 45) (by kernel_rfl) (by kernel_rfl) (by rw [ok.sz]; decide)
  have hc0 := rq_at (SG6.kp hW) ok.c2
  refine st_pureG hF hC hW ho h2 (by decide) hd hg rfl ?_
  show _ = Result.ok (Next.value (.int .i64 X.bx)) w
  generalize a.eval = ρ at e45 ⊢
  unfold execOp
  rw [hop]
  simp [e45, hc0, go_sem]
theorem SG6.s4 (X : SG6) (ok : SG6Ok X) {Q : Exit → Act → World → Prop} : StepG (opsOf 6 Tryz.f67) SG6.acts SG6.av X.val0 X.Wd X.a0 Q 4 := by
  intro γ listed a w o hF hC hW h1 ho h2
  obtain ⟨hd, hop, hg⟩ := fields2 (x := some 47) (y := Op.fieldAddr 34 (.tmp 4) 0) (z := none) (by kernel_rfl) ho
  have e4 : a.eval (.tmp 4) = .pointer (some ⟨X.b0, 0, none⟩) := (hF.eval0 (by kernel_rfl)).trans ok.e4
  refine st_pureG hF hC hW ho h2 (by decide) hd hg rfl ?_
  show _ = Result.ok (Next.value (.pointer (some ⟨X.b0, 0, none⟩))) w
  generalize a.eval = ρ at e4 ⊢
  unfold execOp
  rw [hop]
  simp [e4, go_sem]
theorem SG6.s5 (X : SG6) (ok : SG6Ok X) {Q : Exit → Act → World → Prop} : StepG (opsOf 6 Tryz.f67) SG6.acts SG6.av X.val0 X.Wd X.a0 Q 5 := by
  intro γ listed a w o hF hC hW h1 ho h2
  obtain ⟨hd, hop, hg⟩ := fields2 (x := some 48) (y := Op.load 3 (.tmp 47)) (z := none) (by kernel_rfl) ho
  have e47 : a.eval (.tmp 47) = .pointer (some ⟨X.b0, 0, none⟩) := slotG hF ho h2 (j := 4) (d := 47) (by kernel_rfl) (by kernel_rfl) (by rw [ok.sz]; decide)
  have hc0 := rq_at (SG6.kp hW) ok.c0
  refine st_pureG hF hC hW ho h2 (by decide) hd hg rfl ?_
  show _ = Result.ok (Next.value (.int .i64 X.ax)) w
  generalize a.eval = ρ at e47 ⊢
  unfold execOp
  rw [hop]
  simp [e47, hc0, go_sem]
theorem SG6.s6 (X : SG6) (ok : SG6Ok X) {Q : Exit → Act → World → Prop} : StepG (opsOf 6 Tryz.f67) SG6.acts SG6.av X.val0 X.Wd X.a0 Q 6 := by
  intro γ listed a w o hF hC hW h1 ho h2
  obtain ⟨hd, hop, hg⟩ := fields2 (x := some 49) (y := Op.binOp .sub 3 (.tmp 46) (.tmp 48) 3) (z := none) (by kernel_rfl) ho
  have e46 : a.eval (.tmp 46) = .int .i64 X.bx := slotG hF ho h2 (j := 3) (d := 46) (by kernel_rfl) (by kernel_rfl) (by rw [ok.sz]; decide)
  have e48 : a.eval (.tmp 48) = .int .i64 X.ax := slotG hF ho h2 (j := 5) (d := 48) (by kernel_rfl) (by kernel_rfl) (by rw [ok.sz]; decide)
  refine st_pureG hF hC hW ho h2 (by decide) hd hg rfl ?_
  show _ = Result.ok (Next.value (.int .i64 ((X.bx - X.ax)))) w
  generalize a.eval = ρ at e46 e48 ⊢
  unfold execOp
  rw [hop]
  simp [e46, e48, ok.w1, go_sem]
theorem SG6.s7 (X : SG6) (ok : SG6Ok X) {Q : Exit → Act → World → Prop} : StepG (opsOf 6 Tryz.f67) SG6.acts SG6.av X.val0 X.Wd X.a0 Q 7 := by
  intro γ listed a w o hF hC hW h1 ho h2
  obtain ⟨hd, hop, hg⟩ := fields2 (x := some 50) (y := Op.move (.tmp 7)) (z := none) (by kernel_rfl) ho
  have e7 : a.eval (.tmp 7) = .int .i64 X.g := (hF.eval0 (by kernel_rfl)).trans ok.e7
  refine st_pureG hF hC hW ho h2 (by decide) hd hg rfl ?_
  show _ = Result.ok (Next.value (.int .i64 X.g)) w
  generalize a.eval = ρ at e7 ⊢
  unfold execOp
  rw [hop]
  simp [e7, go_sem]
theorem SG6.s8 (X : SG6) (ok : SG6Ok X) {Q : Exit → Act → World → Prop} : StepG (opsOf 6 Tryz.f67) SG6.acts SG6.av X.val0 X.Wd X.a0 Q 8 := by
  intro γ listed a w o hF hC hW h1 ho h2
  obtain ⟨hd, hop, hg⟩ := fields2 (x := some 51) (y := Op.binOp .mul 3 (.tmp 49) (.tmp 50) 3) (z := none) (by kernel_rfl) ho
  have e49 : a.eval (.tmp 49) = .int .i64 ((X.bx - X.ax)) := slotG hF ho h2 (j := 6) (d := 49) (by kernel_rfl) (by kernel_rfl) (by rw [ok.sz]; decide)
  have e50 : a.eval (.tmp 50) = .int .i64 X.g := slotG hF ho h2 (j := 7) (d := 50) (by kernel_rfl) (by kernel_rfl) (by rw [ok.sz]; decide)
  refine st_pureG hF hC hW ho h2 (by decide) hd hg rfl ?_
  show _ = Result.ok (Next.value (.int .i64 (((X.bx - X.ax) * X.g)))) w
  generalize a.eval = ρ at e49 e50 ⊢
  unfold execOp
  rw [hop]
  simp [e49, e50, ok.w2, go_sem]
theorem SG6.s9 (X : SG6) (ok : SG6Ok X) {Q : Exit → Act → World → Prop} : StepG (opsOf 6 Tryz.f67) SG6.acts SG6.av X.val0 X.Wd X.a0 Q 9 := by
  intro γ listed a w o hF hC hW h1 ho h2
  obtain ⟨hd, hop, hg⟩ := fields2 (x := some 52) (y := Op.move (.tmp 6)) (z := none) (by kernel_rfl) ho
  have e6 : a.eval (.tmp 6) = .int .i64 X.n := (hF.eval0 (by kernel_rfl)).trans ok.e6
  refine st_pureG hF hC hW ho h2 (by decide) hd hg rfl ?_
  show _ = Result.ok (Next.value (.int .i64 X.n)) w
  generalize a.eval = ρ at e6 ⊢
  unfold execOp
  rw [hop]
  simp [e6, go_sem]
theorem SG6.s10 (X : SG6) (ok : SG6Ok X) {Q : Exit → Act → World → Prop} : StepG (opsOf 6 Tryz.f67) SG6.acts SG6.av X.val0 X.Wd X.a0 Q 10 := by
  intro γ listed a w o hF hC hW h1 ho h2
  obtain ⟨hd, hop, hg⟩ := fields2 (x := some 53) (y := Op.call { callee := .value (.func 86), args := #[(.tmp 51), (.tmp 52)], argTypes := #[3, 3] }) (z := none) (by kernel_rfl) ho
  have e51 : a.eval (.tmp 51) = .int .i64 (((X.bx - X.ax) * X.g)) := slotG hF ho h2 (j := 8) (d := 51) (by kernel_rfl) (by kernel_rfl) (by rw [ok.sz]; decide)
  have e52 : a.eval (.tmp 52) = .int .i64 X.n := slotG hF ho h2 (j := 9) (d := 52) (by kernel_rfl) (by kernel_rfl) (by rw [ok.sz]; decide)
  have ef : a.eval (.func 86) = .func (.func 86) #[] #[] := rfl
  refine st_callG hF hC hW ho h2 (by decide) hd hg rfl (f := 86) (args := #[.int .i64 (((X.bx - X.ax) * X.g)), .int .i64 X.n]) ?_ ?_ ?_
  · generalize a.eval = ρ at e51 e52 ef ⊢
    unfold execOp
    rw [hop]
    simp [e51, e52, ef, go_sem]
  · exact (sdown_any _ _ w ok.n0 ok.n1 ok.d1.1 ok.d1.2).mono fun e w' ⟨h1, h2⟩ => ⟨h1, h2 ▸ Kp.refl _⟩
  · intro w' hk; exact SG6.keep hW hk
theorem SG6.s11 (X : SG6) (ok : SG6Ok X) {Q : Exit → Act → World → Prop} : StepG (opsOf 6 Tryz.f67) SG6.acts SG6.av X.val0 X.Wd X.a0 Q 11 := by
  intro γ listed a w o hF hC hW h1 ho h2
  obtain ⟨hd, hop, hg⟩ := fields2 (x := some 54) (y := Op.binOp .add 3 (.tmp 44) (.tmp 53) 3) (z := none) (by kernel_rfl) ho
  have e44 : a.eval (.tmp 44) = .int .i64 X.ax := slotG hF ho h2 (j := 1) (d := 44) (by kernel_rfl) (by kernel_rfl) (by rw [ok.sz]; decide)
  have e53 : a.eval (.tmp 53) = .int .i64 (((X.bx - X.ax) * X.g / X.n)) := slotG hF ho h2 (j := 10) (d := 53) (by kernel_rfl) (by kernel_rfl) (by rw [ok.sz]; decide)
  refine st_pureG hF hC hW ho h2 (by decide) hd hg rfl ?_
  show _ = Result.ok (Next.value (.int .i64 (X.ax + (X.bx - X.ax) * X.g / X.n))) w
  generalize a.eval = ρ at e44 e53 ⊢
  unfold execOp
  rw [hop]
  simp [e44, e53, ok.w3, go_sem]
theorem SG6.s12 (X : SG6) (ok : SG6Ok X) {Q : Exit → Act → World → Prop} : StepG (opsOf 6 Tryz.f67) SG6.acts SG6.av X.val0 X.Wd X.a0 Q 12 := by
  intro γ listed a w o hF hC hW h1 ho h2
  obtain ⟨hd, hop, hg⟩ := fields2 (x := some 55) (y := Op.fieldAddr 34 (.tmp 4) 1) (z := none) (by kernel_rfl) ho
  have e4 : a.eval (.tmp 4) = .pointer (some ⟨X.b0, 0, none⟩) := (hF.eval0 (by kernel_rfl)).trans ok.e4
  refine st_pureG hF hC hW ho h2 (by decide) hd hg rfl ?_
  show _ = Result.ok (Next.value (.pointer (some ⟨X.b0, 1, none⟩))) w
  generalize a.eval = ρ at e4 ⊢
  unfold execOp
  rw [hop]
  simp [e4, go_sem]
theorem SG6.s13 (X : SG6) (ok : SG6Ok X) {Q : Exit → Act → World → Prop} : StepG (opsOf 6 Tryz.f67) SG6.acts SG6.av X.val0 X.Wd X.a0 Q 13 := by
  intro γ listed a w o hF hC hW h1 ho h2
  obtain ⟨hd, hop, hg⟩ := fields2 (x := some 56) (y := Op.load 3 (.tmp 55)) (z := none) (by kernel_rfl) ho
  have e55 : a.eval (.tmp 55) = .pointer (some ⟨X.b0, 1, none⟩) := slotG hF ho h2 (j := 12) (d := 55) (by kernel_rfl) (by kernel_rfl) (by rw [ok.sz]; decide)
  have hc0 := rq_at (SG6.kp hW) ok.c1
  refine st_pureG hF hC hW ho h2 (by decide) hd hg rfl ?_
  show _ = Result.ok (Next.value (.int .i64 X.ay)) w
  generalize a.eval = ρ at e55 ⊢
  unfold execOp
  rw [hop]
  simp [e55, hc0, go_sem]
theorem SG6.s14 (X : SG6) (ok : SG6Ok X) {Q : Exit → Act → World → Prop} : StepG (opsOf 6 Tryz.f67) SG6.acts SG6.av X.val0 X.Wd X.a0 Q 14 := by
  intro γ listed a w o hF hC hW h1 ho h2
  obtain ⟨hd, hop, hg⟩ := fields2 (x := some 57) (y := Op.fieldAddr 34 (.tmp 5) 1) (z := none) (by kernel_rfl) ho
  have e5 : a.eval (.tmp 5) = .pointer (some ⟨X.b1, 0, none⟩) := (hF.eval0 (by kernel_rfl)).trans ok.e5
  refine st_pureG hF hC hW ho h2 (by decide) hd hg rfl ?_
  show _ = Result.ok (Next.value (.pointer (some ⟨X.b1, 1, none⟩))) w
  generalize a.eval = ρ at e5 ⊢
  unfold execOp
  rw [hop]
  simp [e5, go_sem]
theorem SG6.s15 (X : SG6) (ok : SG6Ok X) {Q : Exit → Act → World → Prop} : StepG (opsOf 6 Tryz.f67) SG6.acts SG6.av X.val0 X.Wd X.a0 Q 15 := by
  intro γ listed a w o hF hC hW h1 ho h2
  obtain ⟨hd, hop, hg⟩ := fields2 (x := some 58) (y := Op.load 3 (.tmp 57)) (z := none) (by kernel_rfl) ho
  have e57 : a.eval (.tmp 57) = .pointer (some ⟨X.b1, 1, none⟩) := slotG hF ho h2 (j := 14) (d := 57) (by kernel_rfl) (by kernel_rfl) (by rw [ok.sz]; decide)
  have hc0 := rq_at (SG6.kp hW) ok.c3
  refine st_pureG hF hC hW ho h2 (by decide) hd hg rfl ?_
  show _ = Result.ok (Next.value (.int .i64 X.cy)) w
  generalize a.eval = ρ at e57 ⊢
  unfold execOp
  rw [hop]
  simp [e57, hc0, go_sem]
theorem SG6.s16 (X : SG6) (ok : SG6Ok X) {Q : Exit → Act → World → Prop} : StepG (opsOf 6 Tryz.f67) SG6.acts SG6.av X.val0 X.Wd X.a0 Q 16 := by
  intro γ listed a w o hF hC hW h1 ho h2
  obtain ⟨hd, hop, hg⟩ := fields2 (x := some 59) (y := Op.fieldAddr 34 (.tmp 4) 1) (z := none) (by kernel_rfl) ho
  have e4 : a.eval (.tmp 4) = .pointer (some ⟨X.b0, 0, none⟩) := (hF.eval0 (by kernel_rfl)).trans ok.e4
  refine st_pureG hF hC hW ho h2 (by decide) hd hg rfl ?_
  show _ = Result.ok (Next.value (.pointer (some ⟨X.b0, 1, none⟩))) w
  generalize a.eval = ρ at e4 ⊢
  unfold execOp
  rw [hop]
  simp [e4, go_sem]
theorem SG6.s17 (X : SG6) (ok : SG6Ok X) {Q : Exit → Act → World → Prop} : StepG (opsOf 6 Tryz.f67) SG6.acts SG6.av X.val0 X.Wd X.a0 Q 17 := by
  intro γ listed a w o hF hC hW h1 ho h2
  obtain ⟨hd, hop, hg⟩ := fields2 (x := some 60) (y := Op.load 3 (.tmp 59)) (z := none) (by kernel_rfl) ho
  have e59 : a.eval (.tmp 59) = .pointer (some ⟨X.b0, 1, none⟩) := slotG hF ho h2 (j := 16) (d := 59) (by kernel_rfl) (by kernel_rfl) (by rw [ok.sz]; decide)
  have hc0 := rq_at (SG6.kp hW) ok.c1
  refine st_pureG hF hC hW ho h2 (by decide) hd hg rfl ?_
  show _ = Result.ok (Next.value (.int .i64 X.ay)) w
  generalize a.eval = ρ at e59 ⊢
  unfold execOp
  rw [hop]
  simp [e59, hc0, go_sem]
theorem SG6.s18 (X : SG6) (ok : SG6Ok X) {Q : Exit → Act → World → Prop} : StepG (opsOf 6 Tryz.f67) SG6.acts SG6.av X.val0 X.Wd X.a0 Q 18 := by
  intro γ listed a w o hF hC hW h1 ho h2
  obtain ⟨hd, hop, hg⟩ := fields2 (x := some 61) (y := Op.binOp .sub 3 (.tmp 58) (.tmp 60) 3) (z := none) (by kernel_rfl) ho
  have e58 : a.eval (.tmp 58) = .int .i64 X.cy := slotG hF ho h2 (j := 15) (d := 58) (by kernel_rfl) (by kernel_rfl) (by rw [ok.sz]; decide)
  have e60 : a.eval (.tmp 60) = .int .i64 X.ay := slotG hF ho h2 (j := 17) (d := 60) (by kernel_rfl) (by kernel_rfl) (by rw [ok.sz]; decide)
  refine st_pureG hF hC hW ho h2 (by decide) hd hg rfl ?_
  show _ = Result.ok (Next.value (.int .i64 ((X.cy - X.ay)))) w
  generalize a.eval = ρ at e58 e60 ⊢
  unfold execOp
  rw [hop]
  simp [e58, e60, ok.w4, go_sem]
theorem SG6.s19 (X : SG6) (ok : SG6Ok X) {Q : Exit → Act → World → Prop} : StepG (opsOf 6 Tryz.f67) SG6.acts SG6.av X.val0 X.Wd X.a0 Q 19 := by
  intro γ listed a w o hF hC hW h1 ho h2
  obtain ⟨hd, hop, hg⟩ := fields2 (x := some 62) (y := Op.move (.tmp 7)) (z := none) (by kernel_rfl) ho
  have e7 : a.eval (.tmp 7) = .int .i64 X.g := (hF.eval0 (by kernel_rfl)).trans ok.e7
  refine st_pureG hF hC hW ho h2 (by decide) hd hg rfl ?_
  show _ = Result.ok (Next.value (.int .i64 X.g)) w
  generalize a.eval = ρ at e7 ⊢
  unfold execOp
  rw [hop]
  simp [e7, go_sem]
theorem SG6.s20 (X : SG6) (ok : SG6Ok X) {Q : Exit → Act → World → Prop} : StepG (opsOf 6 Tryz.f67) SG6.acts SG6.av X.val0 X.Wd X.a0 Q 20 := by
  intro γ listed a w o hF hC hW h1 ho h2
  obtain ⟨hd, hop, hg⟩ := fields2 (x := some 63) (y := Op.binOp .mul 3 (.tmp 61) (.tmp 62) 3) (z := none) (by kernel_rfl) ho
  have e61 : a.eval (.tmp 61) = .int .i64 ((X.cy - X.ay)) := slotG hF ho h2 (j := 18) (d := 61) (by kernel_rfl) (by kernel_rfl) (by rw [ok.sz]; decide)
  have e62 : a.eval (.tmp 62) = .int .i64 X.g := slotG hF ho h2 (j := 19) (d := 62) (by kernel_rfl) (by kernel_rfl) (by rw [ok.sz]; decide)
  refine st_pureG hF hC hW ho h2 (by decide) hd hg rfl ?_
  show _ = Result.ok (Next.value (.int .i64 (((X.cy - X.ay) * X.g)))) w
  generalize a.eval = ρ at e61 e62 ⊢
  unfold execOp
  rw [hop]
  simp [e61, e62, ok.w5, go_sem]
theorem SG6.s21 (X : SG6) (ok : SG6Ok X) {Q : Exit → Act → World → Prop} : StepG (opsOf 6 Tryz.f67) SG6.acts SG6.av X.val0 X.Wd X.a0 Q 21 := by
  intro γ listed a w o hF hC hW h1 ho h2
  obtain ⟨hd, hop, hg⟩ := fields2 (x := some 64) (y := Op.move (.tmp 6)) (z := none) (by kernel_rfl) ho
  have e6 : a.eval (.tmp 6) = .int .i64 X.n := (hF.eval0 (by kernel_rfl)).trans ok.e6
  refine st_pureG hF hC hW ho h2 (by decide) hd hg rfl ?_
  show _ = Result.ok (Next.value (.int .i64 X.n)) w
  generalize a.eval = ρ at e6 ⊢
  unfold execOp
  rw [hop]
  simp [e6, go_sem]
theorem SG6.s22 (X : SG6) (ok : SG6Ok X) {Q : Exit → Act → World → Prop} : StepG (opsOf 6 Tryz.f67) SG6.acts SG6.av X.val0 X.Wd X.a0 Q 22 := by
  intro γ listed a w o hF hC hW h1 ho h2
  obtain ⟨hd, hop, hg⟩ := fields2 (x := some 65) (y := Op.call { callee := .value (.func 86), args := #[(.tmp 63), (.tmp 64)], argTypes := #[3, 3] }) (z := none) (by kernel_rfl) ho
  have e63 : a.eval (.tmp 63) = .int .i64 (((X.cy - X.ay) * X.g)) := slotG hF ho h2 (j := 20) (d := 63) (by kernel_rfl) (by kernel_rfl) (by rw [ok.sz]; decide)
  have e64 : a.eval (.tmp 64) = .int .i64 X.n := slotG hF ho h2 (j := 21) (d := 64) (by kernel_rfl) (by kernel_rfl) (by rw [ok.sz]; decide)
  have ef : a.eval (.func 86) = .func (.func 86) #[] #[] := rfl
  refine st_callG hF hC hW ho h2 (by decide) hd hg rfl (f := 86) (args := #[.int .i64 (((X.cy - X.ay) * X.g)), .int .i64 X.n]) ?_ ?_ ?_
  · generalize a.eval = ρ at e63 e64 ef ⊢
    unfold execOp
    rw [hop]
    simp [e63, e64, ef, go_sem]
  · exact (sdown_any _ _ w ok.n0 ok.n1 ok.d2.1 ok.d2.2).mono fun e w' ⟨h1, h2⟩ => ⟨h1, h2 ▸ Kp.refl _⟩
  · intro w' hk; exact SG6.keep hW hk
theorem SG6.s23 (X : SG6) (ok : SG6Ok X) {Q : Exit → Act → World → Prop} : StepG (opsOf 6 Tryz.f67) SG6.acts SG6.av X.val0 X.Wd X.a0 Q 23 := by
  intro γ listed a w o hF hC hW h1 ho h2
  obtain ⟨hd, hop, hg⟩ := fields2 (x := some 66) (y := Op.binOp .add 3 (.tmp 56) (.tmp 65) 3) (z := none) (by kernel_rfl) ho
  have e56 : a.eval (.tmp 56) = .int .i64 X.ay := slotG hF ho h2 (j := 13) (d := 56) (by kernel_rfl) (by kernel_rfl) (by rw [ok.sz]; decide)
  have e65 : a.eval (.tmp 65) = .int .i64 (((X.cy - X.ay) * X.g / X.n)) := slotG hF ho h2 (j := 22) (d := 65) (by kernel_rfl) (by kernel_rfl) (by rw [ok.sz]; decide)
  refine st_pureG hF hC hW ho h2 (by decide) hd hg rfl ?_
  show _ = Result.ok (Next.value (.int .i64 (X.ay + (X.cy - X.ay) * X.g / X.n))) w
  generalize a.eval = ρ at e56 e65 ⊢
  unfold execOp
  rw [hop]
  simp [e56, e65, ok.w6, go_sem]
theorem SG6.s24 (X : SG6) (ok : SG6Ok X) {Q : Exit → Act → World → Prop} : StepG (opsOf 6 Tryz.f67) SG6.acts SG6.av X.val0 X.Wd X.a0 Q 24 := by
  intro γ listed a w o hF hC hW h1 ho h2
  obtain ⟨hd, hop, hg⟩ := fields2 (x := some 67) (y := Op.build 34 #[(0, (.tmp 54)), (1, (.tmp 66))]) (z := none) (by kernel_rfl) ho
  have e54 : a.eval (.tmp 54) = .int .i64 (X.ax + (X.bx - X.ax) * X.g / X.n) := slotG hF ho h2 (j := 11) (d := 54) (by kernel_rfl) (by kernel_rfl) (by rw [ok.sz]; decide)
  have e66 : a.eval (.tmp 66) = .int .i64 (X.ay + (X.cy - X.ay) * X.g / X.n) := slotG hF ho h2 (j := 23) (d := 66) (by kernel_rfl) (by kernel_rfl) (by rw [ok.sz]; decide)
  refine st_pureG hF hC hW ho h2 (by decide) hd hg rfl ?_
  show _ = Result.ok (Next.value (.agg #[.int .i64 (X.ax + (X.bx - X.ax) * X.g / X.n), .int .i64 (X.ay + (X.cy - X.ay) * X.g / X.n)])) w
  generalize a.eval = ρ at e54 e66 ⊢
  unfold execOp
  rw [hop]
  simp [e54, e66, go_sem]
theorem SG6.s25 (X : SG6) (ok : SG6Ok X) {Q : Exit → Act → World → Prop} : StepG (opsOf 6 Tryz.f67) SG6.acts SG6.av X.val0 X.Wd X.a0 Q 25 := by
  intro γ listed a w o hF hC hW h1 ho h2
  obtain ⟨hd, hop, hg⟩ := fields2 (x := some 8) (y := Op.alloc 34) (z := none) (by kernel_rfl) ho
  have hu := unl (hF.lt ho) h1
  refine st_actG (k := 0) SG6.chain SG6.nodup rfl hF hC hW h1 ho h2 (Or.inr ⟨8, hd, rfl⟩) (SG6.inj (by kernel_rfl) hu) hg ?_
  intro hW0 K hK
  have hr : (execOp a.eval o).run Tryz.prog w = .ok (.value (.pointer (some ⟨w.heap.size, 0, none⟩))) (w.alloc (.cells #[.int .i64 0, .int .i64 0] 34)) := by
    unfold execOp
    rw [hop]
    simp [go_sem]
  unfold Oper.wp
  rw [hr]
  exact hK _ _ ⟨w.heap.size, rfl, Kp.size hW0, ⟨by simp, by simp⟩, fun o => World.frozen?_alloc_at _ _ _ _ rfl, Kp.alloc hW0 _ _⟩
theorem SG6.s26 (X : SG6) (ok : SG6Ok X) {Q : Exit → Act → World → Prop} : StepG (opsOf 6 Tryz.f67) SG6.acts SG6.av X.val0 X.Wd X.a0 Q 26 := by
  intro γ listed a w o hF hC hW h1 ho h2
  obtain ⟨hd, hop, hg⟩ := fields2 (x := none) (y := Op.store 34 (.tmp 8) (.tmp 67)) (z := none) (by kernel_rfl) ho
  have e8 : a.eval (.tmp 8) = γ 0 := slotG hF ho h2 (j := 25) (d := 8) (by kernel_rfl) (by kernel_rfl) (by rw [ok.sz]; decide)
  have e67 : a.eval (.tmp 67) = .agg #[.int .i64 (X.ax + (X.bx - X.ax) * X.g / X.n), .int .i64 (X.ay + (X.cy - X.ay) * X.g / X.n)] := slotG hF ho h2 (j := 24) (d := 67) (by kernel_rfl) (by kernel_rfl) (by rw [ok.sz]; decide)
  have hu := unl (hF.lt ho) h1
  refine st_actG (k := 1) SG6.chain SG6.nodup rfl hF hC hW h1 ho h2 (Or.inl hd) (SG6.inj (by kernel_rfl) hu) hg ?_
  intro hW0 K hK
  obtain ⟨g, g0, hg0, ⟨z0, z1⟩, zf, k1⟩ := hW0
  rw [g0] at e8
  obtain ⟨y0, y1⟩ := rq_set2 w g (.int .i64 (X.ax + (X.bx - X.ax) * X.g / X.n)) (.int .i64 (X.ay + (X.cy - X.ay) * X.g / X.n)) z0 z1
  have hr : (execOp a.eval o).run Tryz.prog w = .ok .skip ((w.setCell ⟨g, 0, none⟩ (.int .i64 (X.ax + (X.bx - X.ax) * X.g / X.n))).setCell ⟨g, 1, none⟩ (.int .i64 (X.ay + (X.cy - X.ay) * X.g / X.n))) := by
    generalize a.eval = ρ at e8 e67 ⊢
    unfold execOp
    rw [hop]
    simp [e8, e67, z0, z1, zf, go_sem]
  unfold Oper.wp
  rw [hr]
  exact hK _ _ ⟨g, g0, hg0, ⟨y0, y1⟩, fun o => by rw [World.frozen?_setCell, World.frozen?_setCell]; exact zf o, (Kp.setCell (Kp.setCell k1 hg0 _) hg0 _)⟩
theorem SG6.size : (opsOf 6 Tryz.f67).size = 27 := by kernel_rfl
theorem SG6.steps (X : SG6) (ok : SG6Ok X) {Q : Exit → Act → World → Prop} (i : Nat) (hi : i < (opsOf 6 Tryz.f67).size) : StepG (opsOf 6 Tryz.f67) SG6.acts SG6.av X.val0 X.Wd X.a0 Q i := by
  rw [SG6.size] at hi
  have hc : i = 0 ∨ i = 1 ∨ i = 2 ∨ i = 3 ∨ i = 4 ∨ i = 5 ∨ i = 6 ∨ i = 7 ∨ i = 8 ∨ i = 9 ∨ i = 10 ∨ i = 11 ∨ i = 12 ∨ i = 13 ∨ i = 14 ∨ i = 15 ∨ i = 16 ∨ i = 17 ∨ i = 18 ∨ i = 19 ∨ i = 20 ∨ i = 21 ∨ i = 22 ∨ i = 23 ∨ i = 24 ∨ i = 25 ∨ i = 26 := by omega
  rcases hc with rfl | rfl | rfl | rfl | rfl | rfl | rfl | rfl | rfl | rfl | rfl | rfl | rfl | rfl | rfl | rfl | rfl | rfl | rfl | rfl | rfl | rfl | rfl | rfl | rfl | rfl | rfl
  · exact SG6.s0 X ok
  · exact SG6.s1 X ok
  · exact SG6.s2 X ok
  · exact SG6.s3 X ok
  · exact SG6.s4 X ok
  · exact SG6.s5 X ok
  · exact SG6.s6 X ok
  · exact SG6.s7 X ok
  · exact SG6.s8 X ok
  · exact SG6.s9 X ok
  · exact SG6.s10 X ok
  · exact SG6.s11 X ok
  · exact SG6.s12 X ok
  · exact SG6.s13 X ok
  · exact SG6.s14 X ok
  · exact SG6.s15 X ok
  · exact SG6.s16 X ok
  · exact SG6.s17 X ok
  · exact SG6.s18 X ok
  · exact SG6.s19 X ok
  · exact SG6.s20 X ok
  · exact SG6.s21 X ok
  · exact SG6.s22 X ok
  · exact SG6.s23 X ok
  · exact SG6.s24 X ok
  · exact SG6.s25 X ok
  · exact SG6.s26 X ok
theorem SG6.puts (X : SG6) (γ : Nat → Value) (a0 : Act) : putsL (valG SG6.av X.val0 γ) (opsOf 6 Tryz.f67).toList a0 = ((((((((((((((((((((((((((a0.put (some 43) (.pointer (some ⟨X.b0, 0, none⟩))).put (some 44) (.int .i64 X.ax)).put (some 45) (.pointer (some ⟨X.b1, 0, none⟩))).put (some 46) (.int .i64 X.bx)).put (some 47) (.pointer (some ⟨X.b0, 0, none⟩))).put (some 48) (.int .i64 X.ax)).put (some 49) (.int .i64 ((X.bx - X.ax)))).put (some 50) (.int .i64 X.g)).put (some 51) (.int .i64 (((X.bx - X.ax) * X.g)))).put (some 52) (.int .i64 X.n)).put (some 53) (.int .i64 (((X.bx - X.ax) * X.g / X.n)))).put (some 54) (.int .i64 (X.ax + (X.bx - X.ax) * X.g / X.n))).put (some 55) (.pointer (some ⟨X.b0, 1, none⟩))).put (some 56) (.int .i64 X.ay)).put (some 57) (.pointer (some ⟨X.b1, 1, none⟩))).put (some 58) (.int .i64 X.cy)).put (some 59) (.pointer (some ⟨X.b0, 1, none⟩))).put (some 60) (.int .i64 X.ay)).put (some 61) (.int .i64 ((X.cy - X.ay)))).put (some 62) (.int .i64 X.g)).put (some 63) (.int .i64 (((X.cy - X.ay) * X.g)))).put (some 64) (.int .i64 X.n)).put (some 65) (.int .i64 (((X.cy - X.ay) * X.g / X.n)))).put (some 66) (.int .i64 (X.ay + (X.cy - X.ay) * X.g / X.n))).put (some 67) (.agg #[.int .i64 (X.ax + (X.bx - X.ax) * X.g / X.n), .int .i64 (X.ay + (X.cy - X.ay) * X.g / X.n)])).put (some 8) (γ 0)) := by kernel_rfl
/-- The region, whatever order comes up. -/
theorem SG6.run (X : SG6) (ok : SG6Ok X) {Q : Exit → Act → World → Prop} (w : World) (h0 : X.Wd 0 (fun _ => undef) w.drew) (hend : ∀ (γ : Nat → Value) w', X.Wd 2 γ w' → Q .normal ((((((((((((((((((((((((((X.a0.put (some 43) (.pointer (some ⟨X.b0, 0, none⟩))).put (some 44) (.int .i64 X.ax)).put (some 45) (.pointer (some ⟨X.b1, 0, none⟩))).put (some 46) (.int .i64 X.bx)).put (some 47) (.pointer (some ⟨X.b0, 0, none⟩))).put (some 48) (.int .i64 X.ax)).put (some 49) (.int .i64 ((X.bx - X.ax)))).put (some 50) (.int .i64 X.g)).put (some 51) (.int .i64 (((X.bx - X.ax) * X.g)))).put (some 52) (.int .i64 X.n)).put (some 53) (.int .i64 (((X.bx - X.ax) * X.g / X.n)))).put (some 54) (.int .i64 (X.ax + (X.bx - X.ax) * X.g / X.n))).put (some 55) (.pointer (some ⟨X.b0, 1, none⟩))).put (some 56) (.int .i64 X.ay)).put (some 57) (.pointer (some ⟨X.b1, 1, none⟩))).put (some 58) (.int .i64 X.cy)).put (some 59) (.pointer (some ⟨X.b0, 1, none⟩))).put (some 60) (.int .i64 X.ay)).put (some 61) (.int .i64 ((X.cy - X.ay)))).put (some 62) (.int .i64 X.g)).put (some 63) (.int .i64 (((X.cy - X.ay) * X.g)))).put (some 64) (.int .i64 X.n)).put (some 65) (.int .i64 (((X.cy - X.ay) * X.g / X.n)))).put (some 66) (.int .i64 (X.ay + (X.cy - X.ay) * X.g / X.n))).put (some 67) (.agg #[.int .i64 (X.ax + (X.bx - X.ax) * X.g / X.n), .int .i64 (X.ay + (X.cy - X.ay) * X.g / X.n)])).put (some 8) (γ 0)) w') : (Code.region 6 (opsOf 6 Tryz.f67) true).wp Tryz.prog Q X.a0 w := by
  refine reg_act (acts := SG6.acts) (av := SG6.av) (val0 := X.val0) (Wd := X.Wd) (by kernel_rfl) (by kernel_rfl) (by rw [SG6.size]; decide) (fun i hi => SG6.steps X ok i hi) _ h0 ?_
  intro γ w' h
  rw [SG6.puts]
  exact hend γ w' h
structure DW25 where
  bl : Nat
  bd : Nat
  g : Nat
  off : Nat
  n : Nat
  pc : Nat
  i : Nat
  j : Nat
  hx : Int
  hy : Int
  x : Int
  y : Int
  P : World → Prop
  W : World
  a0 : Act
structure DW25Ok (X : DW25) : Prop where
  c0 : X.W.cell? ⟨X.bl, 0, none⟩ = some (.slice (some ⟨X.g, X.off, none⟩) X.n X.pc)
  wi : IntKind.i64.wrap ((X.j : Int) - 1) = (X.i : Int)
  hi : X.i < X.n
  hj : X.j < X.n
  h0 : X.W.cell? ⟨X.g, X.off + X.i * 2, none⟩ = some (.int .i64 X.hx)
  h1 : X.W.cell? ⟨X.g, X.off + X.i * 2 + 1, none⟩ = some (.int .i64 X.hy)
  p0 : X.W.cell? ⟨X.g, X.off + X.j * 2, none⟩ = some (.int .i64 X.x)
  p1 : X.W.cell? ⟨X.g, X.off + X.j * 2 + 1, none⟩ = some (.int .i64 X.y)
  hc : Calls Tryz.prog 67 #[.pointer (some ⟨X.bd, 0, none⟩), .agg #[.int .i64 X.hx, .int .i64 X.hy], .agg #[.int .i64 X.x, .int .i64 X.y]] X.W fun e w' => e = .returned (.tuple #[]) ∧ X.P w'
  e3 : X.a0.eval (.tmp 3) = .pointer (some ⟨X.bl, 0, none⟩)
  e11 : X.a0.eval (.tmp 11) = .pointer (some ⟨X.bd, 0, none⟩)
  e12 : X.a0.eval (.tmp 12) = .int .i64 (X.j : Int)
  sz : X.a0.tmps.size = 171
def DW25.val0 (X : DW25) : Nat → Value
  | 118 => .pointer (some ⟨X.bd, 0, none⟩)
  | 119 => .pointer (some ⟨X.bl, 0, none⟩)
  | 120 => .slice (some ⟨X.g, X.off, none⟩) X.n X.pc
  | 121 => .int .i64 (X.j : Int)
  | 122 => .int .i64 (X.i : Int)
  | 123 => .pointer (some ⟨X.g, X.off + X.i * 2, none⟩)
  | 124 => .agg #[.int .i64 X.hx, .int .i64 X.hy]
  | 125 => .pointer (some ⟨X.bl, 0, none⟩)
  | 126 => .slice (some ⟨X.g, X.off, none⟩) X.n X.pc
  | 127 => .int .i64 (X.j : Int)
  | 128 => .pointer (some ⟨X.g, X.off + X.j * 2, none⟩)
  | 129 => .agg #[.int .i64 X.x, .int .i64 X.y]
  | _ => undef
def DW25.av : Nat → Option Nat
  | 130 => some 0
  | _ => none
def DW25.acts : List Nat := [12]
/-- The world, by how many of the acting ones have come up. -/
def DW25.Wd (X : DW25) : Nat → (Nat → Value) → World → Prop
  | 0, _, w => w = X.W
  | _, _, w => X.P w
theorem DW25.chain : chainG (opsOf 25 Tryz.f39) DW25.acts = true := by kernel_rfl
theorem DW25.nodup : DW25.acts.Nodup := by decide
theorem DW25.inj {listed : Array Bool} {i k : Nat} (h : (List.range (opsOf 25 Tryz.f39).size).all (fun j => decide (j = i) || !(match dstOf (opsOf 25 Tryz.f39) j with | some d => decide (DW25.av d = some k) | none => false)) = true) (hu : listed.getD i false = false) : ∀ d, got (opsOf 25 Tryz.f39) listed d → DW25.av d ≠ some k := by
  rintro d ⟨j, h1, h2⟩ h3
  have hlt : j < (opsOf 25 Tryz.f39).size := by
    rcases Nat.lt_or_ge j (opsOf 25 Tryz.f39).size with h4 | h4
    · exact h4
    · unfold dstOf at h2; rw [Array.getElem?_eq_none h4] at h2; cases h2
  have h5 := List.all_eq_true.1 h j (List.mem_range.2 hlt)
  rw [h2] at h5
  simp only [h3, decide_true, Bool.not_true, Bool.or_false, decide_eq_true_eq] at h5
  subst h5
  rw [hu] at h1
  cases h1
theorem DW25.s0 (X : DW25) (ok : DW25Ok X) {Q : Exit → Act → World → Prop} : StepG (opsOf 25 Tryz.f39) DW25.acts DW25.av X.val0 X.Wd X.a0 Q 0 := by
  intro γ listed a w o hF hC hW h1 ho h2
  obtain ⟨hd, hop, hg⟩ := fields2 (x := some 118) (y := Op.move (.tmp 11)) (z := none) (by kernel_rfl) ho
  have e11 : a.eval (.tmp 11) = .pointer (some ⟨X.bd, 0, none⟩) := (hF.eval0 (by kernel_rfl)).trans ok.e11
  refine st_pureG hF hC hW ho h2 (by decide) hd hg rfl ?_
  show _ = Result.ok (Next.value (.pointer (some ⟨X.bd, 0, none⟩))) w
  generalize a.eval = ρ at e11 ⊢
  unfold execOp
  rw [hop]
  simp [e11, go_sem]
theorem DW25.s1 (X : DW25) (ok : DW25Ok X) {Q : Exit → Act → World → Prop} : StepG (opsOf 25 Tryz.f39) DW25.acts DW25.av X.val0 X.Wd X.a0 Q 1 := by
  intro γ listed a w o hF hC hW h1 ho h2
  obtain ⟨hd, hop, hg⟩ := fields2 (x := some 119) (y := Op.fieldAddr 25 (.tmp 3) 0) (z := none) (by kernel_rfl) ho
  have e3 : a.eval (.tmp 3) = .pointer (some ⟨X.bl, 0, none⟩) := (hF.eval0 (by kernel_rfl)).trans ok.e3
  refine st_pureG hF hC hW ho h2 (by decide) hd hg rfl ?_
  show _ = Result.ok (Next.value (.pointer (some ⟨X.bl, 0, none⟩))) w
  generalize a.eval = ρ at e3 ⊢
  unfold execOp
  rw [hop]
  simp [e3, go_sem]
theorem DW25.s2 (X : DW25) (ok : DW25Ok X) {Q : Exit → Act → World → Prop} : StepG (opsOf 25 Tryz.f39) DW25.acts DW25.av X.val0 X.Wd X.a0 Q 2 := by
  intro γ listed a w o hF hC hW h1 ho h2
  obtain ⟨hd, hop, hg⟩ := fields2 (x := some 120) (y := Op.load 23 (.tmp 119)) (z := none) (by kernel_rfl) ho
  have e119 : a.eval (.tmp 119) = .pointer (some ⟨X.bl, 0, none⟩) := slotG hF ho h2 (j := 1) (d := 119) (by kernel_rfl) (by kernel_rfl) (by rw [ok.sz]; decide)
  have hph := phase_leG (acts := DW25.acts) (m := 0) (x := 12) hC (unl (hF.lt ho) h1) rfl [6, 5, 2] (by kernel_rfl) (by decide)
  have hWW := hW
  generalize phase listed DW25.acts = n at hph hWW
  obtain rfl : n = 0 := by omega
  have hk : w = X.W := hWW
  have hc0 := ok.c0
  rw [← hk] at hc0
  refine st_pureG hF hC hW ho h2 (by decide) hd hg rfl ?_
  show _ = Result.ok (Next.value (.slice (some ⟨X.g, X.off, none⟩) X.n X.pc)) w
  generalize a.eval = ρ at e119 ⊢
  unfold execOp
  rw [hop]
  simp [e119, hc0, go_sem]
theorem DW25.s3 (X : DW25) (ok : DW25Ok X) {Q : Exit → Act → World → Prop} : StepG (opsOf 25 Tryz.f39) DW25.acts DW25.av X.val0 X.Wd X.a0 Q 3 := by
  intro γ listed a w o hF hC hW h1 ho h2
  obtain ⟨hd, hop, hg⟩ := fields2 (x := some 121) (y := Op.move (.tmp 12)) (z := none) (by kernel_rfl) ho
  have e12 : a.eval (.tmp 12) = .int .i64 (X.j : Int) := (hF.eval0 (by kernel_rfl)).trans ok.e12
  refine st_pureG hF hC hW ho h2 (by decide) hd hg rfl ?_
  show _ = Result.ok (Next.value (.int .i64 (X.j : Int))) w
  generalize a.eval = ρ at e12 ⊢
  unfold execOp
  rw [hop]
  simp [e12, go_sem]
theorem DW25.s4 (X : DW25) (ok : DW25Ok X) {Q : Exit → Act → World → Prop} : StepG (opsOf 25 Tryz.f39) DW25.acts DW25.av X.val0 X.Wd X.a0 Q 4 := by
  intro γ listed a w o hF hC hW h1 ho h2
  obtain ⟨hd, hop, hg⟩ := fields2 (x := some 122) (y := Op.binOp .sub 3 (.tmp 121) (.const (.int .i64 1)) 3) (z := none) (by kernel_rfl) ho
  have e121 : a.eval (.tmp 121) = .int .i64 (X.j : Int) := slotG hF ho h2 (j := 3) (d := 121) (by kernel_rfl) (by kernel_rfl) (by rw [ok.sz]; decide)
  have ec1 : a.eval (.const (.int .i64 1)) = .int .i64 1 := rfl
  refine st_pureG hF hC hW ho h2 (by decide) hd hg rfl ?_
  show _ = Result.ok (Next.value (.int .i64 (X.i : Int))) w
  generalize a.eval = ρ at e121 ec1 ⊢
  unfold execOp
  rw [hop]
  simp [e121, ec1, ok.wi, go_sem]
theorem DW25.s5 (X : DW25) (ok : DW25Ok X) {Q : Exit → Act → World → Prop} : StepG (opsOf 25 Tryz.f39) DW25.acts DW25.av X.val0 X.Wd X.a0 Q 5 := by
  intro γ listed a w o hF hC hW h1 ho h2
  obtain ⟨hd, hop, hg⟩ := fields2 (x := some 123) (y := Op.indexAddr 23 (.tmp 120) (.tmp 122)) (z := none) (by kernel_rfl) ho
  have e120 : a.eval (.tmp 120) = .slice (some ⟨X.g, X.off, none⟩) X.n X.pc := slotG hF ho h2 (j := 2) (d := 120) (by kernel_rfl) (by kernel_rfl) (by rw [ok.sz]; decide)
  have e122 : a.eval (.tmp 122) = .int .i64 (X.i : Int) := slotG hF ho h2 (j := 4) (d := 122) (by kernel_rfl) (by kernel_rfl) (by rw [ok.sz]; decide)
  refine st_pureG hF hC hW ho h2 (by decide) hd hg rfl ?_
  show _ = Result.ok (Next.value (.pointer (some ⟨X.g, X.off + X.i * 2, none⟩))) w
  generalize a.eval = ρ at e120 e122 ⊢
  unfold execOp
  rw [hop]
  simp [e120, e122, ok.hi, go_sem]
theorem DW25.s6 (X : DW25) (ok : DW25Ok X) {Q : Exit → Act → World → Prop} : StepG (opsOf 25 Tryz.f39) DW25.acts DW25.av X.val0 X.Wd X.a0 Q 6 := by
  intro γ listed a w o hF hC hW h1 ho h2
  obtain ⟨hd, hop, hg⟩ := fields2 (x := some 124) (y := Op.load 34 (.tmp 123)) (z := none) (by kernel_rfl) ho
  have e123 : a.eval (.tmp 123) = .pointer (some ⟨X.g, X.off + X.i * 2, none⟩) := slotG hF ho h2 (j := 5) (d := 123) (by kernel_rfl) (by kernel_rfl) (by rw [ok.sz]; decide)
  have hph := phase_leG (acts := DW25.acts) (m := 0) (x := 12) hC (unl (hF.lt ho) h1) rfl [6] (by kernel_rfl) (by decide)
  have hWW := hW
  generalize phase listed DW25.acts = n at hph hWW
  obtain rfl : n = 0 := by omega
  have hk : w = X.W := hWW
  have hc0 := ok.h0
  have hc1 := ok.h1
  rw [← hk] at hc0 hc1
  refine st_pureG hF hC hW ho h2 (by decide) hd hg rfl ?_
  show _ = Result.ok (Next.value (.agg #[.int .i64 X.hx, .int .i64 X.hy])) w
  generalize a.eval = ρ at e123 ⊢
  unfold execOp
  rw [hop]
  simp [e123, hc0, hc1, go_sem]
theorem DW25.s7 (X : DW25) (ok : DW25Ok X) {Q : Exit → Act → World → Prop} : StepG (opsOf 25 Tryz.f39) DW25.acts DW25.av X.val0 X.Wd X.a0 Q 7 := by
  intro γ listed a w o hF hC hW h1 ho h2
  obtain ⟨hd, hop, hg⟩ := fields2 (x := some 125) (y := Op.fieldAddr 25 (.tmp 3) 0) (z := none) (by kernel_rfl) ho
  have e3 : a.eval (.tmp 3) = .pointer (some ⟨X.bl, 0, none⟩) := (hF.eval0 (by kernel_rfl)).trans ok.e3
  refine st_pureG hF hC hW ho h2 (by decide) hd hg rfl ?_
  show _ = Result.ok (Next.value (.pointer (some ⟨X.bl, 0, none⟩))) w
  generalize a.eval = ρ at e3 ⊢
  unfold execOp
  rw [hop]
  simp [e3, go_sem]
theorem DW25.s8 (X : DW25) (ok : DW25Ok X) {Q : Exit → Act → World → Prop} : StepG (opsOf 25 Tryz.f39) DW25.acts DW25.av X.val0 X.Wd X.a0 Q 8 := by
  intro γ listed a w o hF hC hW h1 ho h2
  obtain ⟨hd, hop, hg⟩ := fields2 (x := some 126) (y := Op.load 23 (.tmp 125)) (z := none) (by kernel_rfl) ho
  have e125 : a.eval (.tmp 125) = .pointer (some ⟨X.bl, 0, none⟩) := slotG hF ho h2 (j := 7) (d := 125) (by kernel_rfl) (by kernel_rfl) (by rw [ok.sz]; decide)
  have hph := phase_leG (acts := DW25.acts) (m := 0) (x := 12) hC (unl (hF.lt ho) h1) rfl [11, 10, 8] (by kernel_rfl) (by decide)
  have hWW := hW
  generalize phase listed DW25.acts = n at hph hWW
  obtain rfl : n = 0 := by omega
  have hk : w = X.W := hWW
  have hc0 := ok.c0
  rw [← hk] at hc0
  refine st_pureG hF hC hW ho h2 (by decide) hd hg rfl ?_
  show _ = Result.ok (Next.value (.slice (some ⟨X.g, X.off, none⟩) X.n X.pc)) w
  generalize a.eval = ρ at e125 ⊢
  unfold execOp
  rw [hop]
  simp [e125, hc0, go_sem]
theorem DW25.s9 (X : DW25) (ok : DW25Ok X) {Q : Exit → Act → World → Prop} : StepG (opsOf 25 Tryz.f39) DW25.acts DW25.av X.val0 X.Wd X.a0 Q 9 := by
  intro γ listed a w o hF hC hW h1 ho h2
  obtain ⟨hd, hop, hg⟩ := fields2 (x := some 127) (y := Op.move (.tmp 12)) (z := none) (by kernel_rfl) ho
  have e12 : a.eval (.tmp 12) = .int .i64 (X.j : Int) := (hF.eval0 (by kernel_rfl)).trans ok.e12
  refine st_pureG hF hC hW ho h2 (by decide) hd hg rfl ?_
  show _ = Result.ok (Next.value (.int .i64 (X.j : Int))) w
  generalize a.eval = ρ at e12 ⊢
  unfold execOp
  rw [hop]
  simp [e12, go_sem]
theorem DW25.s10 (X : DW25) (ok : DW25Ok X) {Q : Exit → Act → World → Prop} : StepG (opsOf 25 Tryz.f39) DW25.acts DW25.av X.val0 X.Wd X.a0 Q 10 := by
  intro γ listed a w o hF hC hW h1 ho h2
  obtain ⟨hd, hop, hg⟩ := fields2 (x := some 128) (y := Op.indexAddr 23 (.tmp 126) (.tmp 127)) (z := none) (by kernel_rfl) ho
  have e126 : a.eval (.tmp 126) = .slice (some ⟨X.g, X.off, none⟩) X.n X.pc := slotG hF ho h2 (j := 8) (d := 126) (by kernel_rfl) (by kernel_rfl) (by rw [ok.sz]; decide)
  have e127 : a.eval (.tmp 127) = .int .i64 (X.j : Int) := slotG hF ho h2 (j := 9) (d := 127) (by kernel_rfl) (by kernel_rfl) (by rw [ok.sz]; decide)
  refine st_pureG hF hC hW ho h2 (by decide) hd hg rfl ?_
  show _ = Result.ok (Next.value (.pointer (some ⟨X.g, X.off + X.j * 2, none⟩))) w
  generalize a.eval = ρ at e126 e127 ⊢
  unfold execOp
  rw [hop]
  simp [e126, e127, ok.hj, go_sem]
theorem DW25.s11 (X : DW25) (ok : DW25Ok X) {Q : Exit → Act → World → Prop} : StepG (opsOf 25 Tryz.f39) DW25.acts DW25.av X.val0 X.Wd X.a0 Q 11 := by
  intro γ listed a w o hF hC hW h1 ho h2
  obtain ⟨hd, hop, hg⟩ := fields2 (x := some 129) (y := Op.load 34 (.tmp 128)) (z := none) (by kernel_rfl) ho
  have e128 : a.eval (.tmp 128) = .pointer (some ⟨X.g, X.off + X.j * 2, none⟩) := slotG hF ho h2 (j := 10) (d := 128) (by kernel_rfl) (by kernel_rfl) (by rw [ok.sz]; decide)
  have hph := phase_leG (acts := DW25.acts) (m := 0) (x := 12) hC (unl (hF.lt ho) h1) rfl [11] (by kernel_rfl) (by decide)
  have hWW := hW
  generalize phase listed DW25.acts = n at hph hWW
  obtain rfl : n = 0 := by omega
  have hk : w = X.W := hWW
  have hc0 := ok.p0
  have hc1 := ok.p1
  rw [← hk] at hc0 hc1
  refine st_pureG hF hC hW ho h2 (by decide) hd hg rfl ?_
  show _ = Result.ok (Next.value (.agg #[.int .i64 X.x, .int .i64 X.y])) w
  generalize a.eval = ρ at e128 ⊢
  unfold execOp
  rw [hop]
  simp [e128, hc0, hc1, go_sem]
theorem DW25.s12 (X : DW25) (ok : DW25Ok X) {Q : Exit → Act → World → Prop} : StepG (opsOf 25 Tryz.f39) DW25.acts DW25.av X.val0 X.Wd X.a0 Q 12 := by
  intro γ listed a w o hF hC hW h1 ho h2
  obtain ⟨hd, hop, hg⟩ := fields2 (x := some 130) (y := Op.call { callee := .value (.func 67), args := #[(.tmp 118), (.tmp 124), (.tmp 129)], argTypes := #[98, 34, 34] }) (z := none) (by kernel_rfl) ho
  have e118 : a.eval (.tmp 118) = .pointer (some ⟨X.bd, 0, none⟩) := slotG hF ho h2 (j := 0) (d := 118) (by kernel_rfl) (by kernel_rfl) (by rw [ok.sz]; decide)
  have e124 : a.eval (.tmp 124) = .agg #[.int .i64 X.hx, .int .i64 X.hy] := slotG hF ho h2 (j := 6) (d := 124) (by kernel_rfl) (by kernel_rfl) (by rw [ok.sz]; decide)
  have e129 : a.eval (.tmp 129) = .agg #[.int .i64 X.x, .int .i64 X.y] := slotG hF ho h2 (j := 11) (d := 129) (by kernel_rfl) (by kernel_rfl) (by rw [ok.sz]; decide)
  have ef : a.eval (.func 67) = .func (.func 67) #[] #[] := rfl
  have hu := unl (hF.lt ho) h1
  refine st_actG (k := 0) DW25.chain DW25.nodup rfl hF hC hW h1 ho h2 (Or.inr ⟨130, hd, rfl⟩) (DW25.inj (by kernel_rfl) hu) hg ?_
  intro hW0 K hK
  have hw0 : w = X.W := hW0
  have hr : (execOp a.eval o).run Tryz.prog w = .ok (.enter 67 #[.pointer (some ⟨X.bd, 0, none⟩), .agg #[.int .i64 X.hx, .int .i64 X.hy], .agg #[.int .i64 X.x, .int .i64 X.y]]) w := by
    generalize a.eval = ρ at e118 e124 e129 ef ⊢
    unfold execOp
    rw [hop]
    simp [e118, e124, e129, ef, go_sem]
  unfold Oper.wp
  rw [hr]
  refine Calls.mono (by rw [hw0]; exact ok.hc) ?_
  rintro e w' ⟨rfl, h⟩
  exact hK _ _ h
theorem DW25.size : (opsOf 25 Tryz.f39).size = 13 := by kernel_rfl
theorem DW25.steps (X : DW25) (ok : DW25Ok X) {Q : Exit → Act → World → Prop} (i : Nat) (hi : i < (opsOf 25 Tryz.f39).size) : StepG (opsOf 25 Tryz.f39) DW25.acts DW25.av X.val0 X.Wd X.a0 Q i := by
  rw [DW25.size] at hi
  have hc : i = 0 ∨ i = 1 ∨ i = 2 ∨ i = 3 ∨ i = 4 ∨ i = 5 ∨ i = 6 ∨ i = 7 ∨ i = 8 ∨ i = 9 ∨ i = 10 ∨ i = 11 ∨ i = 12 := by omega
  rcases hc with rfl | rfl | rfl | rfl | rfl | rfl | rfl | rfl | rfl | rfl | rfl | rfl | rfl
  · exact DW25.s0 X ok
  · exact DW25.s1 X ok
  · exact DW25.s2 X ok
  · exact DW25.s3 X ok
  · exact DW25.s4 X ok
  · exact DW25.s5 X ok
  · exact DW25.s6 X ok
  · exact DW25.s7 X ok
  · exact DW25.s8 X ok
  · exact DW25.s9 X ok
  · exact DW25.s10 X ok
  · exact DW25.s11 X ok
  · exact DW25.s12 X ok
theorem DW25.puts (X : DW25) (γ : Nat → Value) (a0 : Act) : putsL (valG DW25.av X.val0 γ) (opsOf 25 Tryz.f39).toList a0 = (((((((((((((a0.put (some 118) (.pointer (some ⟨X.bd, 0, none⟩))).put (some 119) (.pointer (some ⟨X.bl, 0, none⟩))).put (some 120) (.slice (some ⟨X.g, X.off, none⟩) X.n X.pc)).put (some 121) (.int .i64 (X.j : Int))).put (some 122) (.int .i64 (X.i : Int))).put (some 123) (.pointer (some ⟨X.g, X.off + X.i * 2, none⟩))).put (some 124) (.agg #[.int .i64 X.hx, .int .i64 X.hy])).put (some 125) (.pointer (some ⟨X.bl, 0, none⟩))).put (some 126) (.slice (some ⟨X.g, X.off, none⟩) X.n X.pc)).put (some 127) (.int .i64 (X.j : Int))).put (some 128) (.pointer (some ⟨X.g, X.off + X.j * 2, none⟩))).put (some 129) (.agg #[.int .i64 X.x, .int .i64 X.y])).put (some 130) (γ 0)) := by kernel_rfl
/-- The region, whatever order comes up. -/
theorem DW25.run (X : DW25) (ok : DW25Ok X) {Q : Exit → Act → World → Prop} (w : World) (h0 : X.Wd 0 (fun _ => undef) w.drew) (hend : ∀ (γ : Nat → Value) w', X.Wd 1 γ w' → Q .normal (((((((((((((X.a0.put (some 118) (.pointer (some ⟨X.bd, 0, none⟩))).put (some 119) (.pointer (some ⟨X.bl, 0, none⟩))).put (some 120) (.slice (some ⟨X.g, X.off, none⟩) X.n X.pc)).put (some 121) (.int .i64 (X.j : Int))).put (some 122) (.int .i64 (X.i : Int))).put (some 123) (.pointer (some ⟨X.g, X.off + X.i * 2, none⟩))).put (some 124) (.agg #[.int .i64 X.hx, .int .i64 X.hy])).put (some 125) (.pointer (some ⟨X.bl, 0, none⟩))).put (some 126) (.slice (some ⟨X.g, X.off, none⟩) X.n X.pc)).put (some 127) (.int .i64 (X.j : Int))).put (some 128) (.pointer (some ⟨X.g, X.off + X.j * 2, none⟩))).put (some 129) (.agg #[.int .i64 X.x, .int .i64 X.y])).put (some 130) (γ 0)) w') : (Code.region 25 (opsOf 25 Tryz.f39) true).wp Tryz.prog Q X.a0 w := by
  refine reg_act (acts := DW25.acts) (av := DW25.av) (val0 := X.val0) (Wd := X.Wd) (by kernel_rfl) (by kernel_rfl) (by rw [DW25.size]; decide) (fun i hi => DW25.steps X ok i hi) _ h0 ?_
  intro γ w' h
  rw [DW25.puts]
  exact hend γ w' h
structure DW27 where
  bl : Nat
  bd : Nat
  g : Nat
  off : Nat
  n : Nat
  pc : Nat
  i : Nat
  hx : Int
  hy : Int
  x : Int
  y : Int
  P : World → Prop
  W : World
  a0 : Act
structure DW27Ok (X : DW27) : Prop where
  c0 : X.W.cell? ⟨X.bl, 0, none⟩ = some (.slice (some ⟨X.g, X.off, none⟩) X.n X.pc)
  wi : IntKind.i64.wrap ((X.n : Int) - 1) = (X.i : Int)
  hi : X.i < X.n
  hn : 0 < X.n
  h0 : X.W.cell? ⟨X.g, X.off + X.i * 2, none⟩ = some (.int .i64 X.hx)
  h1 : X.W.cell? ⟨X.g, X.off + X.i * 2 + 1, none⟩ = some (.int .i64 X.hy)
  p0 : X.W.cell? ⟨X.g, X.off, none⟩ = some (.int .i64 X.x)
  p1 : X.W.cell? ⟨X.g, X.off + 1, none⟩ = some (.int .i64 X.y)
  hc : Calls Tryz.prog 67 #[.pointer (some ⟨X.bd, 0, none⟩), .agg #[.int .i64 X.hx, .int .i64 X.hy], .agg #[.int .i64 X.x, .int .i64 X.y]] X.W fun e w' => e = .returned (.tuple #[]) ∧ X.P w'
  e3 : X.a0.eval (.tmp 3) = .pointer (some ⟨X.bl, 0, none⟩)
  e11 : X.a0.eval (.tmp 11) = .pointer (some ⟨X.bd, 0, none⟩)
  sz : X.a0.tmps.size = 171
def DW27.val0 (X : DW27) : Nat → Value
  | 133 => .pointer (some ⟨X.bd, 0, none⟩)
  | 134 => .pointer (some ⟨X.bl, 0, none⟩)
  | 135 => .slice (some ⟨X.g, X.off, none⟩) X.n X.pc
  | 136 => .pointer (some ⟨X.bl, 0, none⟩)
  | 137 => .slice (some ⟨X.g, X.off, none⟩) X.n X.pc
  | 138 => .int .i64 (X.n : Int)
  | 139 => .int .i64 (X.i : Int)
  | 140 => .pointer (some ⟨X.g, X.off + X.i * 2, none⟩)
  | 141 => .agg #[.int .i64 X.hx, .int .i64 X.hy]
  | 142 => .pointer (some ⟨X.bl, 0, none⟩)
  | 143 => .slice (some ⟨X.g, X.off, none⟩) X.n X.pc
  | 144 => .pointer (some ⟨X.g, X.off, none⟩)
  | 145 => .agg #[.int .i64 X.x, .int .i64 X.y]
  | _ => undef
def DW27.av : Nat → Option Nat
  | 146 => some 0
  | _ => none
def DW27.acts : List Nat := [13]
/-- The world, by how many of the acting ones have come up. -/
def DW27.Wd (X : DW27) : Nat → (Nat → Value) → World → Prop
  | 0, _, w => w = X.W
  | _, _, w => X.P w
theorem DW27.chain : chainG (opsOf 27 Tryz.f39) DW27.acts = true := by kernel_rfl
theorem DW27.nodup : DW27.acts.Nodup := by decide
theorem DW27.inj {listed : Array Bool} {i k : Nat} (h : (List.range (opsOf 27 Tryz.f39).size).all (fun j => decide (j = i) || !(match dstOf (opsOf 27 Tryz.f39) j with | some d => decide (DW27.av d = some k) | none => false)) = true) (hu : listed.getD i false = false) : ∀ d, got (opsOf 27 Tryz.f39) listed d → DW27.av d ≠ some k := by
  rintro d ⟨j, h1, h2⟩ h3
  have hlt : j < (opsOf 27 Tryz.f39).size := by
    rcases Nat.lt_or_ge j (opsOf 27 Tryz.f39).size with h4 | h4
    · exact h4
    · unfold dstOf at h2; rw [Array.getElem?_eq_none h4] at h2; cases h2
  have h5 := List.all_eq_true.1 h j (List.mem_range.2 hlt)
  rw [h2] at h5
  simp only [h3, decide_true, Bool.not_true, Bool.or_false, decide_eq_true_eq] at h5
  subst h5
  rw [hu] at h1
  cases h1
theorem DW27.s0 (X : DW27) (ok : DW27Ok X) {Q : Exit → Act → World → Prop} : StepG (opsOf 27 Tryz.f39) DW27.acts DW27.av X.val0 X.Wd X.a0 Q 0 := by
  intro γ listed a w o hF hC hW h1 ho h2
  obtain ⟨hd, hop, hg⟩ := fields2 (x := some 133) (y := Op.move (.tmp 11)) (z := none) (by kernel_rfl) ho
  have e11 : a.eval (.tmp 11) = .pointer (some ⟨X.bd, 0, none⟩) := (hF.eval0 (by kernel_rfl)).trans ok.e11
  refine st_pureG hF hC hW ho h2 (by decide) hd hg rfl ?_
  show _ = Result.ok (Next.value (.pointer (some ⟨X.bd, 0, none⟩))) w
  generalize a.eval = ρ at e11 ⊢
  unfold execOp
  rw [hop]
  simp [e11, go_sem]
theorem DW27.s1 (X : DW27) (ok : DW27Ok X) {Q : Exit → Act → World → Prop} : StepG (opsOf 27 Tryz.f39) DW27.acts DW27.av X.val0 X.Wd X.a0 Q 1 := by
  intro γ listed a w o hF hC hW h1 ho h2
  obtain ⟨hd, hop, hg⟩ := fields2 (x := some 134) (y := Op.fieldAddr 25 (.tmp 3) 0) (z := none) (by kernel_rfl) ho
  have e3 : a.eval (.tmp 3) = .pointer (some ⟨X.bl, 0, none⟩) := (hF.eval0 (by kernel_rfl)).trans ok.e3
  refine st_pureG hF hC hW ho h2 (by decide) hd hg rfl ?_
  show _ = Result.ok (Next.value (.pointer (some ⟨X.bl, 0, none⟩))) w
  generalize a.eval = ρ at e3 ⊢
  unfold execOp
  rw [hop]
  simp [e3, go_sem]
theorem DW27.s2 (X : DW27) (ok : DW27Ok X) {Q : Exit → Act → World → Prop} : StepG (opsOf 27 Tryz.f39) DW27.acts DW27.av X.val0 X.Wd X.a0 Q 2 := by
  intro γ listed a w o hF hC hW h1 ho h2
  obtain ⟨hd, hop, hg⟩ := fields2 (x := some 135) (y := Op.load 23 (.tmp 134)) (z := none) (by kernel_rfl) ho
  have e134 : a.eval (.tmp 134) = .pointer (some ⟨X.bl, 0, none⟩) := slotG hF ho h2 (j := 1) (d := 134) (by kernel_rfl) (by kernel_rfl) (by rw [ok.sz]; decide)
  have hph := phase_leG (acts := DW27.acts) (m := 0) (x := 13) hC (unl (hF.lt ho) h1) rfl [8, 7, 2] (by kernel_rfl) (by decide)
  have hWW := hW
  generalize phase listed DW27.acts = n at hph hWW
  obtain rfl : n = 0 := by omega
  have hk : w = X.W := hWW
  have hc0 := ok.c0
  rw [← hk] at hc0
  refine st_pureG hF hC hW ho h2 (by decide) hd hg rfl ?_
  show _ = Result.ok (Next.value (.slice (some ⟨X.g, X.off, none⟩) X.n X.pc)) w
  generalize a.eval = ρ at e134 ⊢
  unfold execOp
  rw [hop]
  simp [e134, hc0, go_sem]
theorem DW27.s3 (X : DW27) (ok : DW27Ok X) {Q : Exit → Act → World → Prop} : StepG (opsOf 27 Tryz.f39) DW27.acts DW27.av X.val0 X.Wd X.a0 Q 3 := by
  intro γ listed a w o hF hC hW h1 ho h2
  obtain ⟨hd, hop, hg⟩ := fields2 (x := some 136) (y := Op.fieldAddr 25 (.tmp 3) 0) (z := none) (by kernel_rfl) ho
  have e3 : a.eval (.tmp 3) = .pointer (some ⟨X.bl, 0, none⟩) := (hF.eval0 (by kernel_rfl)).trans ok.e3
  refine st_pureG hF hC hW ho h2 (by decide) hd hg rfl ?_
  show _ = Result.ok (Next.value (.pointer (some ⟨X.bl, 0, none⟩))) w
  generalize a.eval = ρ at e3 ⊢
  unfold execOp
  rw [hop]
  simp [e3, go_sem]
theorem DW27.s4 (X : DW27) (ok : DW27Ok X) {Q : Exit → Act → World → Prop} : StepG (opsOf 27 Tryz.f39) DW27.acts DW27.av X.val0 X.Wd X.a0 Q 4 := by
  intro γ listed a w o hF hC hW h1 ho h2
  obtain ⟨hd, hop, hg⟩ := fields2 (x := some 137) (y := Op.load 23 (.tmp 136)) (z := none) (by kernel_rfl) ho
  have e136 : a.eval (.tmp 136) = .pointer (some ⟨X.bl, 0, none⟩) := slotG hF ho h2 (j := 3) (d := 136) (by kernel_rfl) (by kernel_rfl) (by rw [ok.sz]; decide)
  have hph := phase_leG (acts := DW27.acts) (m := 0) (x := 13) hC (unl (hF.lt ho) h1) rfl [8, 7, 6, 5, 4] (by kernel_rfl) (by decide)
  have hWW := hW
  generalize phase listed DW27.acts = n at hph hWW
  obtain rfl : n = 0 := by omega
  have hk : w = X.W := hWW
  have hc0 := ok.c0
  rw [← hk] at hc0
  refine st_pureG hF hC hW ho h2 (by decide) hd hg rfl ?_
  show _ = Result.ok (Next.value (.slice (some ⟨X.g, X.off, none⟩) X.n X.pc)) w
  generalize a.eval = ρ at e136 ⊢
  unfold execOp
  rw [hop]
  simp [e136, hc0, go_sem]
theorem DW27.s5 (X : DW27) (ok : DW27Ok X) {Q : Exit → Act → World → Prop} : StepG (opsOf 27 Tryz.f39) DW27.acts DW27.av X.val0 X.Wd X.a0 Q 5 := by
  intro γ listed a w o hF hC hW h1 ho h2
  obtain ⟨hd, hop, hg⟩ := fields2 (x := some 138) (y := Op.call { callee := .builtin .len, args := #[(.tmp 137)], argTypes := #[23] }) (z := none) (by kernel_rfl) ho
  have e137 : a.eval (.tmp 137) = .slice (some ⟨X.g, X.off, none⟩) X.n X.pc := slotG hF ho h2 (j := 4) (d := 137) (by kernel_rfl) (by kernel_rfl) (by rw [ok.sz]; decide)
  refine st_pureG hF hC hW ho h2 (by decide) hd hg rfl ?_
  show _ = Result.ok (Next.value (.int .i64 (X.n : Int))) w
  generalize a.eval = ρ at e137 ⊢
  unfold execOp
  rw [hop]
  simp [e137, go_sem]
theorem DW27.s6 (X : DW27) (ok : DW27Ok X) {Q : Exit → Act → World → Prop} : StepG (opsOf 27 Tryz.f39) DW27.acts DW27.av X.val0 X.Wd X.a0 Q 6 := by
  intro γ listed a w o hF hC hW h1 ho h2
  obtain ⟨hd, hop, hg⟩ := fields2 (x := some 139) (y := Op.binOp .sub 3 (.tmp 138) (.const (.int .i64 1)) 3) (z := none) (by kernel_rfl) ho
  have e138 : a.eval (.tmp 138) = .int .i64 (X.n : Int) := slotG hF ho h2 (j := 5) (d := 138) (by kernel_rfl) (by kernel_rfl) (by rw [ok.sz]; decide)
  have ec1 : a.eval (.const (.int .i64 1)) = .int .i64 1 := rfl
  refine st_pureG hF hC hW ho h2 (by decide) hd hg rfl ?_
  show _ = Result.ok (Next.value (.int .i64 (X.i : Int))) w
  generalize a.eval = ρ at e138 ec1 ⊢
  unfold execOp
  rw [hop]
  simp [e138, ec1, ok.wi, go_sem]
theorem DW27.s7 (X : DW27) (ok : DW27Ok X) {Q : Exit → Act → World → Prop} : StepG (opsOf 27 Tryz.f39) DW27.acts DW27.av X.val0 X.Wd X.a0 Q 7 := by
  intro γ listed a w o hF hC hW h1 ho h2
  obtain ⟨hd, hop, hg⟩ := fields2 (x := some 140) (y := Op.indexAddr 23 (.tmp 135) (.tmp 139)) (z := none) (by kernel_rfl) ho
  have e135 : a.eval (.tmp 135) = .slice (some ⟨X.g, X.off, none⟩) X.n X.pc := slotG hF ho h2 (j := 2) (d := 135) (by kernel_rfl) (by kernel_rfl) (by rw [ok.sz]; decide)
  have e139 : a.eval (.tmp 139) = .int .i64 (X.i : Int) := slotG hF ho h2 (j := 6) (d := 139) (by kernel_rfl) (by kernel_rfl) (by rw [ok.sz]; decide)
  refine st_pureG hF hC hW ho h2 (by decide) hd hg rfl ?_
  show _ = Result.ok (Next.value (.pointer (some ⟨X.g, X.off + X.i * 2, none⟩))) w
  generalize a.eval = ρ at e135 e139 ⊢
  unfold execOp
  rw [hop]
  simp [e135, e139, ok.hi, go_sem]
theorem DW27.s8 (X : DW27) (ok : DW27Ok X) {Q : Exit → Act → World → Prop} : StepG (opsOf 27 Tryz.f39) DW27.acts DW27.av X.val0 X.Wd X.a0 Q 8 := by
  intro γ listed a w o hF hC hW h1 ho h2
  obtain ⟨hd, hop, hg⟩ := fields2 (x := some 141) (y := Op.load 34 (.tmp 140)) (z := none) (by kernel_rfl) ho
  have e140 : a.eval (.tmp 140) = .pointer (some ⟨X.g, X.off + X.i * 2, none⟩) := slotG hF ho h2 (j := 7) (d := 140) (by kernel_rfl) (by kernel_rfl) (by rw [ok.sz]; decide)
  have hph := phase_leG (acts := DW27.acts) (m := 0) (x := 13) hC (unl (hF.lt ho) h1) rfl [8] (by kernel_rfl) (by decide)
  have hWW := hW
  generalize phase listed DW27.acts = n at hph hWW
  obtain rfl : n = 0 := by omega
  have hk : w = X.W := hWW
  have hc0 := ok.h0
  have hc1 := ok.h1
  rw [← hk] at hc0 hc1
  refine st_pureG hF hC hW ho h2 (by decide) hd hg rfl ?_
  show _ = Result.ok (Next.value (.agg #[.int .i64 X.hx, .int .i64 X.hy])) w
  generalize a.eval = ρ at e140 ⊢
  unfold execOp
  rw [hop]
  simp [e140, hc0, hc1, go_sem]
theorem DW27.s9 (X : DW27) (ok : DW27Ok X) {Q : Exit → Act → World → Prop} : StepG (opsOf 27 Tryz.f39) DW27.acts DW27.av X.val0 X.Wd X.a0 Q 9 := by
  intro γ listed a w o hF hC hW h1 ho h2
  obtain ⟨hd, hop, hg⟩ := fields2 (x := some 142) (y := Op.fieldAddr 25 (.tmp 3) 0) (z := none) (by kernel_rfl) ho
  have e3 : a.eval (.tmp 3) = .pointer (some ⟨X.bl, 0, none⟩) := (hF.eval0 (by kernel_rfl)).trans ok.e3
  refine st_pureG hF hC hW ho h2 (by decide) hd hg rfl ?_
  show _ = Result.ok (Next.value (.pointer (some ⟨X.bl, 0, none⟩))) w
  generalize a.eval = ρ at e3 ⊢
  unfold execOp
  rw [hop]
  simp [e3, go_sem]
theorem DW27.s10 (X : DW27) (ok : DW27Ok X) {Q : Exit → Act → World → Prop} : StepG (opsOf 27 Tryz.f39) DW27.acts DW27.av X.val0 X.Wd X.a0 Q 10 := by
  intro γ listed a w o hF hC hW h1 ho h2
  obtain ⟨hd, hop, hg⟩ := fields2 (x := some 143) (y := Op.load 23 (.tmp 142)) (z := none) (by kernel_rfl) ho
  have e142 : a.eval (.tmp 142) = .pointer (some ⟨X.bl, 0, none⟩) := slotG hF ho h2 (j := 9) (d := 142) (by kernel_rfl) (by kernel_rfl) (by rw [ok.sz]; decide)
  have hph := phase_leG (acts := DW27.acts) (m := 0) (x := 13) hC (unl (hF.lt ho) h1) rfl [12, 11, 10] (by kernel_rfl) (by decide)
  have hWW := hW
  generalize phase listed DW27.acts = n at hph hWW
  obtain rfl : n = 0 := by omega
  have hk : w = X.W := hWW
  have hc0 := ok.c0
  rw [← hk] at hc0
  refine st_pureG hF hC hW ho h2 (by decide) hd hg rfl ?_
  show _ = Result.ok (Next.value (.slice (some ⟨X.g, X.off, none⟩) X.n X.pc)) w
  generalize a.eval = ρ at e142 ⊢
  unfold execOp
  rw [hop]
  simp [e142, hc0, go_sem]
theorem DW27.s11 (X : DW27) (ok : DW27Ok X) {Q : Exit → Act → World → Prop} : StepG (opsOf 27 Tryz.f39) DW27.acts DW27.av X.val0 X.Wd X.a0 Q 11 := by
  intro γ listed a w o hF hC hW h1 ho h2
  obtain ⟨hd, hop, hg⟩ := fields2 (x := some 144) (y := Op.indexAddr 23 (.tmp 143) (.const (.int .i64 0))) (z := none) (by kernel_rfl) ho
  have e143 : a.eval (.tmp 143) = .slice (some ⟨X.g, X.off, none⟩) X.n X.pc := slotG hF ho h2 (j := 10) (d := 143) (by kernel_rfl) (by kernel_rfl) (by rw [ok.sz]; decide)
  have ec1 : a.eval (.const (.int .i64 0)) = .int .i64 0 := rfl
  refine st_pureG hF hC hW ho h2 (by decide) hd hg rfl ?_
  show _ = Result.ok (Next.value (.pointer (some ⟨X.g, X.off, none⟩))) w
  generalize a.eval = ρ at e143 ec1 ⊢
  unfold execOp
  rw [hop]
  simp [e143, ec1, ok.hn, go_sem]
theorem DW27.s12 (X : DW27) (ok : DW27Ok X) {Q : Exit → Act → World → Prop} : StepG (opsOf 27 Tryz.f39) DW27.acts DW27.av X.val0 X.Wd X.a0 Q 12 := by
  intro γ listed a w o hF hC hW h1 ho h2
  obtain ⟨hd, hop, hg⟩ := fields2 (x := some 145) (y := Op.load 34 (.tmp 144)) (z := none) (by kernel_rfl) ho
  have e144 : a.eval (.tmp 144) = .pointer (some ⟨X.g, X.off, none⟩) := slotG hF ho h2 (j := 11) (d := 144) (by kernel_rfl) (by kernel_rfl) (by rw [ok.sz]; decide)
  have hph := phase_leG (acts := DW27.acts) (m := 0) (x := 13) hC (unl (hF.lt ho) h1) rfl [12] (by kernel_rfl) (by decide)
  have hWW := hW
  generalize phase listed DW27.acts = n at hph hWW
  obtain rfl : n = 0 := by omega
  have hk : w = X.W := hWW
  have hc0 := ok.p0
  have hc1 := ok.p1
  rw [← hk] at hc0 hc1
  refine st_pureG hF hC hW ho h2 (by decide) hd hg rfl ?_
  show _ = Result.ok (Next.value (.agg #[.int .i64 X.x, .int .i64 X.y])) w
  generalize a.eval = ρ at e144 ⊢
  unfold execOp
  rw [hop]
  simp [e144, hc0, hc1, go_sem]
theorem DW27.s13 (X : DW27) (ok : DW27Ok X) {Q : Exit → Act → World → Prop} : StepG (opsOf 27 Tryz.f39) DW27.acts DW27.av X.val0 X.Wd X.a0 Q 13 := by
  intro γ listed a w o hF hC hW h1 ho h2
  obtain ⟨hd, hop, hg⟩ := fields2 (x := some 146) (y := Op.call { callee := .value (.func 67), args := #[(.tmp 133), (.tmp 141), (.tmp 145)], argTypes := #[98, 34, 34] }) (z := none) (by kernel_rfl) ho
  have e133 : a.eval (.tmp 133) = .pointer (some ⟨X.bd, 0, none⟩) := slotG hF ho h2 (j := 0) (d := 133) (by kernel_rfl) (by kernel_rfl) (by rw [ok.sz]; decide)
  have e141 : a.eval (.tmp 141) = .agg #[.int .i64 X.hx, .int .i64 X.hy] := slotG hF ho h2 (j := 8) (d := 141) (by kernel_rfl) (by kernel_rfl) (by rw [ok.sz]; decide)
  have e145 : a.eval (.tmp 145) = .agg #[.int .i64 X.x, .int .i64 X.y] := slotG hF ho h2 (j := 12) (d := 145) (by kernel_rfl) (by kernel_rfl) (by rw [ok.sz]; decide)
  have ef : a.eval (.func 67) = .func (.func 67) #[] #[] := rfl
  have hu := unl (hF.lt ho) h1
  refine st_actG (k := 0) DW27.chain DW27.nodup rfl hF hC hW h1 ho h2 (Or.inr ⟨146, hd, rfl⟩) (DW27.inj (by kernel_rfl) hu) hg ?_
  intro hW0 K hK
  have hw0 : w = X.W := hW0
  have hr : (execOp a.eval o).run Tryz.prog w = .ok (.enter 67 #[.pointer (some ⟨X.bd, 0, none⟩), .agg #[.int .i64 X.hx, .int .i64 X.hy], .agg #[.int .i64 X.x, .int .i64 X.y]]) w := by
    generalize a.eval = ρ at e133 e141 e145 ef ⊢
    unfold execOp
    rw [hop]
    simp [e133, e141, e145, ef, go_sem]
  unfold Oper.wp
  rw [hr]
  refine Calls.mono (by rw [hw0]; exact ok.hc) ?_
  rintro e w' ⟨rfl, h⟩
  exact hK _ _ h
theorem DW27.size : (opsOf 27 Tryz.f39).size = 14 := by kernel_rfl
theorem DW27.steps (X : DW27) (ok : DW27Ok X) {Q : Exit → Act → World → Prop} (i : Nat) (hi : i < (opsOf 27 Tryz.f39).size) : StepG (opsOf 27 Tryz.f39) DW27.acts DW27.av X.val0 X.Wd X.a0 Q i := by
  rw [DW27.size] at hi
  have hc : i = 0 ∨ i = 1 ∨ i = 2 ∨ i = 3 ∨ i = 4 ∨ i = 5 ∨ i = 6 ∨ i = 7 ∨ i = 8 ∨ i = 9 ∨ i = 10 ∨ i = 11 ∨ i = 12 ∨ i = 13 := by omega
  rcases hc with rfl | rfl | rfl | rfl | rfl | rfl | rfl | rfl | rfl | rfl | rfl | rfl | rfl | rfl
  · exact DW27.s0 X ok
  · exact DW27.s1 X ok
  · exact DW27.s2 X ok
  · exact DW27.s3 X ok
  · exact DW27.s4 X ok
  · exact DW27.s5 X ok
  · exact DW27.s6 X ok
  · exact DW27.s7 X ok
  · exact DW27.s8 X ok
  · exact DW27.s9 X ok
  · exact DW27.s10 X ok
  · exact DW27.s11 X ok
  · exact DW27.s12 X ok
  · exact DW27.s13 X ok
theorem DW27.puts (X : DW27) (γ : Nat → Value) (a0 : Act) : putsL (valG DW27.av X.val0 γ) (opsOf 27 Tryz.f39).toList a0 = ((((((((((((((a0.put (some 133) (.pointer (some ⟨X.bd, 0, none⟩))).put (some 134) (.pointer (some ⟨X.bl, 0, none⟩))).put (some 135) (.slice (some ⟨X.g, X.off, none⟩) X.n X.pc)).put (some 136) (.pointer (some ⟨X.bl, 0, none⟩))).put (some 137) (.slice (some ⟨X.g, X.off, none⟩) X.n X.pc)).put (some 138) (.int .i64 (X.n : Int))).put (some 139) (.int .i64 (X.i : Int))).put (some 140) (.pointer (some ⟨X.g, X.off + X.i * 2, none⟩))).put (some 141) (.agg #[.int .i64 X.hx, .int .i64 X.hy])).put (some 142) (.pointer (some ⟨X.bl, 0, none⟩))).put (some 143) (.slice (some ⟨X.g, X.off, none⟩) X.n X.pc)).put (some 144) (.pointer (some ⟨X.g, X.off, none⟩))).put (some 145) (.agg #[.int .i64 X.x, .int .i64 X.y])).put (some 146) (γ 0)) := by kernel_rfl
/-- The region, whatever order comes up. -/
theorem DW27.run (X : DW27) (ok : DW27Ok X) {Q : Exit → Act → World → Prop} (w : World) (h0 : X.Wd 0 (fun _ => undef) w.drew) (hend : ∀ (γ : Nat → Value) w', X.Wd 1 γ w' → Q .normal ((((((((((((((X.a0.put (some 133) (.pointer (some ⟨X.bd, 0, none⟩))).put (some 134) (.pointer (some ⟨X.bl, 0, none⟩))).put (some 135) (.slice (some ⟨X.g, X.off, none⟩) X.n X.pc)).put (some 136) (.pointer (some ⟨X.bl, 0, none⟩))).put (some 137) (.slice (some ⟨X.g, X.off, none⟩) X.n X.pc)).put (some 138) (.int .i64 (X.n : Int))).put (some 139) (.int .i64 (X.i : Int))).put (some 140) (.pointer (some ⟨X.g, X.off + X.i * 2, none⟩))).put (some 141) (.agg #[.int .i64 X.hx, .int .i64 X.hy])).put (some 142) (.pointer (some ⟨X.bl, 0, none⟩))).put (some 143) (.slice (some ⟨X.g, X.off, none⟩) X.n X.pc)).put (some 144) (.pointer (some ⟨X.g, X.off, none⟩))).put (some 145) (.agg #[.int .i64 X.x, .int .i64 X.y])).put (some 146) (γ 0)) w') : (Code.region 27 (opsOf 27 Tryz.f39) true).wp Tryz.prog Q X.a0 w := by
  refine reg_act (acts := DW27.acts) (av := DW27.av) (val0 := X.val0) (Wd := X.Wd) (by kernel_rfl) (by kernel_rfl) (by rw [DW27.size]; decide) (fun i hi => DW27.steps X ok i hi) _ h0 ?_
  intro γ w' h
  rw [DW27.puts]
  exact hend γ w' h
structure DWE where
  bd : Nat
  va : Option Addr
  vn : Nat
  vc : Nat
  mn : Int
  bg : Int
  W : World
  a0 : Act
structure DWEOk (X : DWE) : Prop where
  c4 : X.W.cell? ⟨X.bd, 4, none⟩ = some (.slice X.va X.vn X.vc)
  c5 : X.W.cell? ⟨X.bd, 5, none⟩ = some (.int .i64 X.mn)
  hm : decide (X.mn ≤ 600) = false
  e11 : X.a0.eval (.tmp 11) = .pointer (some ⟨X.bd, 0, none⟩)
  sz : X.a0.tmps.size = 171
def DWE.val0 (X : DWE) : Nat → Value
  | 6 => .slice X.va X.vn X.vc
  | 7 => .bool false
  | 155 => .pointer (some ⟨X.bd, 0, none⟩)
  | 156 => .pointer (some ⟨X.bd, 0, none⟩)
  | 157 => .pointer (some ⟨X.bd, 4, none⟩)
  | 158 => .slice X.va X.vn X.vc
  | 159 => .pointer (some ⟨X.bd, 0, none⟩)
  | 160 => .pointer (some ⟨X.bd, 0, none⟩)
  | 161 => .pointer (some ⟨X.bd, 5, none⟩)
  | 162 => .int .i64 X.mn
  | 163 => .bool false
  | 164 => .bool false
  | 165 => undef
  | 166 => undef
  | 167 => undef
  | 168 => undef
  | 169 => undef
  | 170 => .bool false
  | _ => undef
def DWE.av : Nat → Option Nat
  | _ => none
def DWE.acts : List Nat := []
/-- The world, by how many of the acting ones have come up. -/
def DWE.Wd (X : DWE) : Nat → (Nat → Value) → World → Prop
  | _, _, w => Kp X.W w
theorem DWE.kp {X : DWE} {n : Nat} {γ : Nat → Value} {w : World} (h : X.Wd n γ w) : Kp X.W w := h
theorem DWE.keep {X : DWE} {n : Nat} {γ : Nat → Value} {w w' : World} (h : X.Wd n γ w) (k : Kp w w') : X.Wd n γ w' := Kp.trans h k
theorem DWE.chain : chainG (opsOf 30 Tryz.f39) DWE.acts = true := by kernel_rfl
theorem DWE.nodup : DWE.acts.Nodup := by decide
theorem DWE.inj {listed : Array Bool} {i k : Nat} (h : (List.range (opsOf 30 Tryz.f39).size).all (fun j => decide (j = i) || !(match dstOf (opsOf 30 Tryz.f39) j with | some d => decide (DWE.av d = some k) | none => false)) = true) (hu : listed.getD i false = false) : ∀ d, got (opsOf 30 Tryz.f39) listed d → DWE.av d ≠ some k := by
  rintro d ⟨j, h1, h2⟩ h3
  have hlt : j < (opsOf 30 Tryz.f39).size := by
    rcases Nat.lt_or_ge j (opsOf 30 Tryz.f39).size with h4 | h4
    · exact h4
    · unfold dstOf at h2; rw [Array.getElem?_eq_none h4] at h2; cases h2
  have h5 := List.all_eq_true.1 h j (List.mem_range.2 hlt)
  rw [h2] at h5
  simp only [h3, decide_true, Bool.not_true, Bool.or_false, decide_eq_true_eq] at h5
  subst h5
  rw [hu] at h1
  cases h1
theorem DWE.s0 (X : DWE) (ok : DWEOk X) {Q : Exit → Act → World → Prop} : StepG (opsOf 30 Tryz.f39) DWE.acts DWE.av X.val0 X.Wd X.a0 Q 0 := by
  intro γ listed a w o hF hC hW h1 ho h2
  obtain ⟨hd, hop, hg⟩ := fields2 (x := some 155) (y := Op.move (.tmp 11)) (z := none) (by kernel_rfl) ho
  have e11 : a.eval (.tmp 11) = .pointer (some ⟨X.bd, 0, none⟩) := (hF.eval0 (by kernel_rfl)).trans ok.e11
  refine st_pureG hF hC hW ho h2 (by decide) hd hg rfl ?_
  show _ = Result.ok (Next.value (.pointer (some ⟨X.bd, 0, none⟩))) w
  generalize a.eval = ρ at e11 ⊢
  unfold execOp
  rw [hop]
  simp [e11, go_sem]
theorem DWE.s1 (X : DWE) (ok : DWEOk X) {Q : Exit → Act → World → Prop} : StepG (opsOf 30 Tryz.f39) DWE.acts DWE.av X.val0 X.Wd X.a0 Q 1 := by
  intro γ listed a w o hF hC hW h1 ho h2
  obtain ⟨hd, hop, hg⟩ := fields2 (x := some 156) (y := Op.nilCheck (.tmp 155)) (z := none) (by kernel_rfl) ho
  have e155 : a.eval (.tmp 155) = .pointer (some ⟨X.bd, 0, none⟩) := slotG hF ho h2 (j := 0) (d := 155) (by kernel_rfl) (by kernel_rfl) (by rw [ok.sz]; decide)
  refine st_pureG hF hC hW ho h2 (by decide) hd hg rfl ?_
  show _ = Result.ok (Next.value (.pointer (some ⟨X.bd, 0, none⟩))) w
  generalize a.eval = ρ at e155 ⊢
  unfold execOp
  rw [hop]
  simp [e155, go_sem]
theorem DWE.s2 (X : DWE) (ok : DWEOk X) {Q : Exit → Act → World → Prop} : StepG (opsOf 30 Tryz.f39) DWE.acts DWE.av X.val0 X.Wd X.a0 Q 2 := by
  intro γ listed a w o hF hC hW h1 ho h2
  obtain ⟨hd, hop, hg⟩ := fields2 (x := some 157) (y := Op.fieldAddr 100 (.tmp 156) 4) (z := none) (by kernel_rfl) ho
  have e156 : a.eval (.tmp 156) = .pointer (some ⟨X.bd, 0, none⟩) := slotG hF ho h2 (j := 1) (d := 156) (by kernel_rfl) (by kernel_rfl) (by rw [ok.sz]; decide)
  refine st_pureG hF hC hW ho h2 (by decide) hd hg rfl ?_
  show _ = Result.ok (Next.value (.pointer (some ⟨X.bd, 4, none⟩))) w
  generalize a.eval = ρ at e156 ⊢
  unfold execOp
  rw [hop]
  simp [e156, go_sem]
theorem DWE.s3 (X : DWE) (ok : DWEOk X) {Q : Exit → Act → World → Prop} : StepG (opsOf 30 Tryz.f39) DWE.acts DWE.av X.val0 X.Wd X.a0 Q 3 := by
  intro γ listed a w o hF hC hW h1 ho h2
  obtain ⟨hd, hop, hg⟩ := fields2 (x := some 158) (y := Op.load 29 (.tmp 157)) (z := none) (by kernel_rfl) ho
  have e157 : a.eval (.tmp 157) = .pointer (some ⟨X.bd, 4, none⟩) := slotG hF ho h2 (j := 2) (d := 157) (by kernel_rfl) (by kernel_rfl) (by rw [ok.sz]; decide)
  have hc0 := rq_at (DWE.kp hW) ok.c4
  refine st_pureG hF hC hW ho h2 (by decide) hd hg rfl ?_
  show _ = Result.ok (Next.value (.slice X.va X.vn X.vc)) w
  generalize a.eval = ρ at e157 ⊢
  unfold execOp
  rw [hop]
  simp [e157, hc0, go_sem]
theorem DWE.s4 (X : DWE) (ok : DWEOk X) {Q : Exit → Act → World → Prop} : StepG (opsOf 30 Tryz.f39) DWE.acts DWE.av X.val0 X.Wd X.a0 Q 4 := by
  intro γ listed a w o hF hC hW h1 ho h2
  obtain ⟨hd, hop, hg⟩ := fields2 (x := some 159) (y := Op.move (.tmp 11)) (z := none) (by kernel_rfl) ho
  have e11 : a.eval (.tmp 11) = .pointer (some ⟨X.bd, 0, none⟩) := (hF.eval0 (by kernel_rfl)).trans ok.e11
  refine st_pureG hF hC hW ho h2 (by decide) hd hg rfl ?_
  show _ = Result.ok (Next.value (.pointer (some ⟨X.bd, 0, none⟩))) w
  generalize a.eval = ρ at e11 ⊢
  unfold execOp
  rw [hop]
  simp [e11, go_sem]
theorem DWE.s5 (X : DWE) (ok : DWEOk X) {Q : Exit → Act → World → Prop} : StepG (opsOf 30 Tryz.f39) DWE.acts DWE.av X.val0 X.Wd X.a0 Q 5 := by
  intro γ listed a w o hF hC hW h1 ho h2
  obtain ⟨hd, hop, hg⟩ := fields2 (x := some 160) (y := Op.nilCheck (.tmp 159)) (z := none) (by kernel_rfl) ho
  have e159 : a.eval (.tmp 159) = .pointer (some ⟨X.bd, 0, none⟩) := slotG hF ho h2 (j := 4) (d := 159) (by kernel_rfl) (by kernel_rfl) (by rw [ok.sz]; decide)
  refine st_pureG hF hC hW ho h2 (by decide) hd hg rfl ?_
  show _ = Result.ok (Next.value (.pointer (some ⟨X.bd, 0, none⟩))) w
  generalize a.eval = ρ at e159 ⊢
  unfold execOp
  rw [hop]
  simp [e159, go_sem]
theorem DWE.s6 (X : DWE) (ok : DWEOk X) {Q : Exit → Act → World → Prop} : StepG (opsOf 30 Tryz.f39) DWE.acts DWE.av X.val0 X.Wd X.a0 Q 6 := by
  intro γ listed a w o hF hC hW h1 ho h2
  obtain ⟨hd, hop, hg⟩ := fields2 (x := some 161) (y := Op.fieldAddr 100 (.tmp 160) 5) (z := none) (by kernel_rfl) ho
  have e160 : a.eval (.tmp 160) = .pointer (some ⟨X.bd, 0, none⟩) := slotG hF ho h2 (j := 5) (d := 160) (by kernel_rfl) (by kernel_rfl) (by rw [ok.sz]; decide)
  refine st_pureG hF hC hW ho h2 (by decide) hd hg rfl ?_
  show _ = Result.ok (Next.value (.pointer (some ⟨X.bd, 5, none⟩))) w
  generalize a.eval = ρ at e160 ⊢
  unfold execOp
  rw [hop]
  simp [e160, go_sem]
theorem DWE.s7 (X : DWE) (ok : DWEOk X) {Q : Exit → Act → World → Prop} : StepG (opsOf 30 Tryz.f39) DWE.acts DWE.av X.val0 X.Wd X.a0 Q 7 := by
  intro γ listed a w o hF hC hW h1 ho h2
  obtain ⟨hd, hop, hg⟩ := fields2 (x := some 162) (y := Op.load 3 (.tmp 161)) (z := none) (by kernel_rfl) ho
  have e161 : a.eval (.tmp 161) = .pointer (some ⟨X.bd, 5, none⟩) := slotG hF ho h2 (j := 6) (d := 161) (by kernel_rfl) (by kernel_rfl) (by rw [ok.sz]; decide)
  have hc0 := rq_at (DWE.kp hW) ok.c5
  refine st_pureG hF hC hW ho h2 (by decide) hd hg rfl ?_
  show _ = Result.ok (Next.value (.int .i64 X.mn)) w
  generalize a.eval = ρ at e161 ⊢
  unfold execOp
  rw [hop]
  simp [e161, hc0, go_sem]
theorem DWE.s8 (X : DWE) (ok : DWEOk X) {Q : Exit → Act → World → Prop} : StepG (opsOf 30 Tryz.f39) DWE.acts DWE.av X.val0 X.Wd X.a0 Q 8 := by
  intro γ listed a w o hF hC hW h1 ho h2
  obtain ⟨hd, hop, hg⟩ := fields2 (x := some 163) (y := Op.binOp .leq 3 (.tmp 162) (.const (.int .i64 600)) 3) (z := none) (by kernel_rfl) ho
  have e162 : a.eval (.tmp 162) = .int .i64 X.mn := slotG hF ho h2 (j := 7) (d := 162) (by kernel_rfl) (by kernel_rfl) (by rw [ok.sz]; decide)
  have ec1 : a.eval (.const (.int .i64 600)) = .int .i64 600 := rfl
  refine st_pureG hF hC hW ho h2 (by decide) hd hg rfl ?_
  show _ = Result.ok (Next.value (.bool false)) w
  generalize a.eval = ρ at e162 ec1 ⊢
  unfold execOp
  rw [hop]
  simp [e162, ec1, ok.hm, go_sem]
theorem DWE.s9 (X : DWE) (ok : DWEOk X) {Q : Exit → Act → World → Prop} : StepG (opsOf 30 Tryz.f39) DWE.acts DWE.av X.val0 X.Wd X.a0 Q 9 := by
  intro γ listed a w o hF hC hW h1 ho h2
  obtain ⟨hd, hop, hg⟩ := fields2 (x := some 164) (y := Op.move (.tmp 163)) (z := none) (by kernel_rfl) ho
  have e163 : a.eval (.tmp 163) = .bool false := slotG hF ho h2 (j := 8) (d := 163) (by kernel_rfl) (by kernel_rfl) (by rw [ok.sz]; decide)
  refine st_pureG hF hC hW ho h2 (by decide) hd hg rfl ?_
  show _ = Result.ok (Next.value (.bool false)) w
  generalize a.eval = ρ at e163 ⊢
  unfold execOp
  rw [hop]
  simp [e163, go_sem]
theorem DWE.s10 (X : DWE) (ok : DWEOk X) {Q : Exit → Act → World → Prop} : StepG (opsOf 30 Tryz.f39) DWE.acts DWE.av X.val0 X.Wd X.a0 Q 10 := by
  intro γ listed a w o hF hC hW h1 ho h2
  obtain ⟨hd, hop, hg⟩ := fields2 (x := some 165) (y := Op.move (.tmp 11)) (z := some (9, true)) (by kernel_rfl) ho
  have eg : a.eval (.tmp 164) = .bool false := slotG hF ho h2 (j := 9) (d := 164) (by kernel_rfl) (by kernel_rfl) (by rw [ok.sz]; decide)
  have hw := wanted_of (ops := (opsOf 30 Tryz.f39)) hg (yl_of (by kernel_rfl : dstOf (opsOf 30 Tryz.f39) 9 = some 164) (by rw [hF.tsize, ok.sz]; decide) eg)
  replace hw : Region.wanted o (yielded (opsOf 30 Tryz.f39) a.tmps) = false := hw
  exact st_skipW hF hC hW ho h2 (by decide) hd hw rfl rfl
theorem DWE.s11 (X : DWE) (ok : DWEOk X) {Q : Exit → Act → World → Prop} : StepG (opsOf 30 Tryz.f39) DWE.acts DWE.av X.val0 X.Wd X.a0 Q 11 := by
  intro γ listed a w o hF hC hW h1 ho h2
  obtain ⟨hd, hop, hg⟩ := fields2 (x := some 166) (y := Op.nilCheck (.tmp 165)) (z := some (9, true)) (by kernel_rfl) ho
  have eg : a.eval (.tmp 164) = .bool false := slotG hF ho h2 (j := 9) (d := 164) (by kernel_rfl) (by kernel_rfl) (by rw [ok.sz]; decide)
  have hw := wanted_of (ops := (opsOf 30 Tryz.f39)) hg (yl_of (by kernel_rfl : dstOf (opsOf 30 Tryz.f39) 9 = some 164) (by rw [hF.tsize, ok.sz]; decide) eg)
  replace hw : Region.wanted o (yielded (opsOf 30 Tryz.f39) a.tmps) = false := hw
  exact st_skipW hF hC hW ho h2 (by decide) hd hw rfl rfl
theorem DWE.s12 (X : DWE) (ok : DWEOk X) {Q : Exit → Act → World → Prop} : StepG (opsOf 30 Tryz.f39) DWE.acts DWE.av X.val0 X.Wd X.a0 Q 12 := by
  intro γ listed a w o hF hC hW h1 ho h2
  obtain ⟨hd, hop, hg⟩ := fields2 (x := some 167) (y := Op.fieldAddr 100 (.tmp 166) 6) (z := some (9, true)) (by kernel_rfl) ho
  have eg : a.eval (.tmp 164) = .bool false := slotG hF ho h2 (j := 9) (d := 164) (by kernel_rfl) (by kernel_rfl) (by rw [ok.sz]; decide)
  have hw := wanted_of (ops := (opsOf 30 Tryz.f39)) hg (yl_of (by kernel_rfl : dstOf (opsOf 30 Tryz.f39) 9 = some 164) (by rw [hF.tsize, ok.sz]; decide) eg)
  replace hw : Region.wanted o (yielded (opsOf 30 Tryz.f39) a.tmps) = false := hw
  exact st_skipW hF hC hW ho h2 (by decide) hd hw rfl rfl
theorem DWE.s13 (X : DWE) (ok : DWEOk X) {Q : Exit → Act → World → Prop} : StepG (opsOf 30 Tryz.f39) DWE.acts DWE.av X.val0 X.Wd X.a0 Q 13 := by
  intro γ listed a w o hF hC hW h1 ho h2
  obtain ⟨hd, hop, hg⟩ := fields2 (x := some 168) (y := Op.load 3 (.tmp 167)) (z := some (9, true)) (by kernel_rfl) ho
  have eg : a.eval (.tmp 164) = .bool false := slotG hF ho h2 (j := 9) (d := 164) (by kernel_rfl) (by kernel_rfl) (by rw [ok.sz]; decide)
  have hw := wanted_of (ops := (opsOf 30 Tryz.f39)) hg (yl_of (by kernel_rfl : dstOf (opsOf 30 Tryz.f39) 9 = some 164) (by rw [hF.tsize, ok.sz]; decide) eg)
  replace hw : Region.wanted o (yielded (opsOf 30 Tryz.f39) a.tmps) = false := hw
  exact st_skipW hF hC hW ho h2 (by decide) hd hw rfl rfl
theorem DWE.s14 (X : DWE) (ok : DWEOk X) {Q : Exit → Act → World → Prop} : StepG (opsOf 30 Tryz.f39) DWE.acts DWE.av X.val0 X.Wd X.a0 Q 14 := by
  intro γ listed a w o hF hC hW h1 ho h2
  obtain ⟨hd, hop, hg⟩ := fields2 (x := some 169) (y := Op.binOp .leq 3 (.tmp 168) (.const (.int .i64 2400)) 3) (z := some (9, true)) (by kernel_rfl) ho
  have eg : a.eval (.tmp 164) = .bool false := slotG hF ho h2 (j := 9) (d := 164) (by kernel_rfl) (by kernel_rfl) (by rw [ok.sz]; decide)
  have hw := wanted_of (ops := (opsOf 30 Tryz.f39)) hg (yl_of (by kernel_rfl : dstOf (opsOf 30 Tryz.f39) 9 = some 164) (by rw [hF.tsize, ok.sz]; decide) eg)
  replace hw : Region.wanted o (yielded (opsOf 30 Tryz.f39) a.tmps) = false := hw
  exact st_skipW hF hC hW ho h2 (by decide) hd hw rfl rfl
theorem DWE.s15 (X : DWE) (ok : DWEOk X) {Q : Exit → Act → World → Prop} : StepG (opsOf 30 Tryz.f39) DWE.acts DWE.av X.val0 X.Wd X.a0 Q 15 := by
  intro γ listed a w o hF hC hW h1 ho h2
  obtain ⟨hd, hop, hg⟩ := fields2 (x := some 170) (y := Op.pick (.tmp 164) (.tmp 169) (.const (.bool false))) (z := none) (by kernel_rfl) ho
  have e164 : a.eval (.tmp 164) = .bool false := slotG hF ho h2 (j := 9) (d := 164) (by kernel_rfl) (by kernel_rfl) (by rw [ok.sz]; decide)
  have e169 : a.eval (.tmp 169) = undef := slotG hF ho h2 (j := 14) (d := 169) (by kernel_rfl) (by kernel_rfl) (by rw [ok.sz]; decide)
  have ec2 : a.eval (.const (.bool false)) = .bool false := rfl
  refine st_pureG hF hC hW ho h2 (by decide) hd hg rfl ?_
  show _ = Result.ok (Next.value (.bool false)) w
  generalize a.eval = ρ at e164 e169 ec2 ⊢
  unfold execOp
  rw [hop]
  simp [e164, e169, ec2, go_sem]
theorem DWE.s16 (X : DWE) (ok : DWEOk X) {Q : Exit → Act → World → Prop} : StepG (opsOf 30 Tryz.f39) DWE.acts DWE.av X.val0 X.Wd X.a0 Q 16 := by
  intro γ listed a w o hF hC hW h1 ho h2
  obtain ⟨hd, hop, hg⟩ := fields2 (x := some 6) (y := Op.assign (.tmp 158)) (z := none) (by kernel_rfl) ho
  have e158 : a.eval (.tmp 158) = .slice X.va X.vn X.vc := slotG hF ho h2 (j := 3) (d := 158) (by kernel_rfl) (by kernel_rfl) (by rw [ok.sz]; decide)
  refine st_pureG hF hC hW ho h2 (by decide) hd hg rfl ?_
  show _ = Result.ok (Next.value (.slice X.va X.vn X.vc)) w
  generalize a.eval = ρ at e158 ⊢
  unfold execOp
  rw [hop]
  simp [e158, go_sem]
theorem DWE.s17 (X : DWE) (ok : DWEOk X) {Q : Exit → Act → World → Prop} : StepG (opsOf 30 Tryz.f39) DWE.acts DWE.av X.val0 X.Wd X.a0 Q 17 := by
  intro γ listed a w o hF hC hW h1 ho h2
  obtain ⟨hd, hop, hg⟩ := fields2 (x := some 7) (y := Op.assign (.tmp 170)) (z := none) (by kernel_rfl) ho
  have e170 : a.eval (.tmp 170) = .bool false := slotG hF ho h2 (j := 15) (d := 170) (by kernel_rfl) (by kernel_rfl) (by rw [ok.sz]; decide)
  refine st_pureG hF hC hW ho h2 (by decide) hd hg rfl ?_
  show _ = Result.ok (Next.value (.bool false)) w
  generalize a.eval = ρ at e170 ⊢
  unfold execOp
  rw [hop]
  simp [e170, go_sem]
theorem DWE.size : (opsOf 30 Tryz.f39).size = 18 := by kernel_rfl
theorem DWE.steps (X : DWE) (ok : DWEOk X) {Q : Exit → Act → World → Prop} (i : Nat) (hi : i < (opsOf 30 Tryz.f39).size) : StepG (opsOf 30 Tryz.f39) DWE.acts DWE.av X.val0 X.Wd X.a0 Q i := by
  rw [DWE.size] at hi
  have hc : i = 0 ∨ i = 1 ∨ i = 2 ∨ i = 3 ∨ i = 4 ∨ i = 5 ∨ i = 6 ∨ i = 7 ∨ i = 8 ∨ i = 9 ∨ i = 10 ∨ i = 11 ∨ i = 12 ∨ i = 13 ∨ i = 14 ∨ i = 15 ∨ i = 16 ∨ i = 17 := by omega
  rcases hc with rfl | rfl | rfl | rfl | rfl | rfl | rfl | rfl | rfl | rfl | rfl | rfl | rfl | rfl | rfl | rfl | rfl | rfl
  · exact DWE.s0 X ok
  · exact DWE.s1 X ok
  · exact DWE.s2 X ok
  · exact DWE.s3 X ok
  · exact DWE.s4 X ok
  · exact DWE.s5 X ok
  · exact DWE.s6 X ok
  · exact DWE.s7 X ok
  · exact DWE.s8 X ok
  · exact DWE.s9 X ok
  · exact DWE.s10 X ok
  · exact DWE.s11 X ok
  · exact DWE.s12 X ok
  · exact DWE.s13 X ok
  · exact DWE.s14 X ok
  · exact DWE.s15 X ok
  · exact DWE.s16 X ok
  · exact DWE.s17 X ok
theorem DWE.puts (X : DWE) (γ : Nat → Value) (a0 : Act) : putsL (valG DWE.av X.val0 γ) (opsOf 30 Tryz.f39).toList a0 = ((((((((((((((((((a0.put (some 155) (.pointer (some ⟨X.bd, 0, none⟩))).put (some 156) (.pointer (some ⟨X.bd, 0, none⟩))).put (some 157) (.pointer (some ⟨X.bd, 4, none⟩))).put (some 158) (.slice X.va X.vn X.vc)).put (some 159) (.pointer (some ⟨X.bd, 0, none⟩))).put (some 160) (.pointer (some ⟨X.bd, 0, none⟩))).put (some 161) (.pointer (some ⟨X.bd, 5, none⟩))).put (some 162) (.int .i64 X.mn)).put (some 163) (.bool false)).put (some 164) (.bool false)).put (some 165) (undef)).put (some 166) (undef)).put (some 167) (undef)).put (some 168) (undef)).put (some 169) (undef)).put (some 170) (.bool false)).put (some 6) (.slice X.va X.vn X.vc)).put (some 7) (.bool false)) := by kernel_rfl
/-- The region, whatever order comes up. -/
theorem DWE.run (X : DWE) (ok : DWEOk X) {Q : Exit → Act → World → Prop} (w : World) (h0 : X.Wd 0 (fun _ => undef) w.drew) (hend : ∀ (γ : Nat → Value) w', X.Wd 0 γ w' → Q .normal ((((((((((((((((((X.a0.put (some 155) (.pointer (some ⟨X.bd, 0, none⟩))).put (some 156) (.pointer (some ⟨X.bd, 0, none⟩))).put (some 157) (.pointer (some ⟨X.bd, 4, none⟩))).put (some 158) (.slice X.va X.vn X.vc)).put (some 159) (.pointer (some ⟨X.bd, 0, none⟩))).put (some 160) (.pointer (some ⟨X.bd, 0, none⟩))).put (some 161) (.pointer (some ⟨X.bd, 5, none⟩))).put (some 162) (.int .i64 X.mn)).put (some 163) (.bool false)).put (some 164) (.bool false)).put (some 165) (undef)).put (some 166) (undef)).put (some 167) (undef)).put (some 168) (undef)).put (some 169) (undef)).put (some 170) (.bool false)).put (some 6) (.slice X.va X.vn X.vc)).put (some 7) (.bool false)) w') : (Code.region 30 (opsOf 30 Tryz.f39) true).wp Tryz.prog Q X.a0 w := by
  refine reg_act (acts := DWE.acts) (av := DWE.av) (val0 := X.val0) (Wd := X.Wd) (by kernel_rfl) (by kernel_rfl) (by rw [DWE.size]; decide) (fun i hi => DWE.steps X ok i hi) _ h0 ?_
  intro γ w' h
  rw [DWE.puts]
  exact hend γ w' h
structure DWF where
  bd : Nat
  va : Option Addr
  vn : Nat
  vc : Nat
  mn : Int
  bg : Int
  v : Bool
  W : World
  a0 : Act
structure DWFOk (X : DWF) : Prop where
  c4 : X.W.cell? ⟨X.bd, 4, none⟩ = some (.slice X.va X.vn X.vc)
  c5 : X.W.cell? ⟨X.bd, 5, none⟩ = some (.int .i64 X.mn)
  c6 : X.W.cell? ⟨X.bd, 6, none⟩ = some (.int .i64 X.bg)
  hm : decide (X.mn ≤ 600) = true
  hv : decide (X.bg ≤ 2400) = X.v
  e11 : X.a0.eval (.tmp 11) = .pointer (some ⟨X.bd, 0, none⟩)
  sz : X.a0.tmps.size = 171
def DWF.val0 (X : DWF) : Nat → Value
  | 6 => .slice X.va X.vn X.vc
  | 7 => .bool X.v
  | 155 => .pointer (some ⟨X.bd, 0, none⟩)
  | 156 => .pointer (some ⟨X.bd, 0, none⟩)
  | 157 => .pointer (some ⟨X.bd, 4, none⟩)
  | 158 => .slice X.va X.vn X.vc
  | 159 => .pointer (some ⟨X.bd, 0, none⟩)
  | 160 => .pointer (some ⟨X.bd, 0, none⟩)
  | 161 => .pointer (some ⟨X.bd, 5, none⟩)
  | 162 => .int .i64 X.mn
  | 163 => .bool true
  | 164 => .bool true
  | 165 => .pointer (some ⟨X.bd, 0, none⟩)
  | 166 => .pointer (some ⟨X.bd, 0, none⟩)
  | 167 => .pointer (some ⟨X.bd, 6, none⟩)
  | 168 => .int .i64 X.bg
  | 169 => .bool X.v
  | 170 => .bool X.v
  | _ => undef
def DWF.av : Nat → Option Nat
  | _ => none
def DWF.acts : List Nat := []
/-- The world, by how many of the acting ones have come up. -/
def DWF.Wd (X : DWF) : Nat → (Nat → Value) → World → Prop
  | _, _, w => Kp X.W w
theorem DWF.kp {X : DWF} {n : Nat} {γ : Nat → Value} {w : World} (h : X.Wd n γ w) : Kp X.W w := h
theorem DWF.keep {X : DWF} {n : Nat} {γ : Nat → Value} {w w' : World} (h : X.Wd n γ w) (k : Kp w w') : X.Wd n γ w' := Kp.trans h k
theorem DWF.chain : chainG (opsOf 30 Tryz.f39) DWF.acts = true := by kernel_rfl
theorem DWF.nodup : DWF.acts.Nodup := by decide
theorem DWF.inj {listed : Array Bool} {i k : Nat} (h : (List.range (opsOf 30 Tryz.f39).size).all (fun j => decide (j = i) || !(match dstOf (opsOf 30 Tryz.f39) j with | some d => decide (DWF.av d = some k) | none => false)) = true) (hu : listed.getD i false = false) : ∀ d, got (opsOf 30 Tryz.f39) listed d → DWF.av d ≠ some k := by
  rintro d ⟨j, h1, h2⟩ h3
  have hlt : j < (opsOf 30 Tryz.f39).size := by
    rcases Nat.lt_or_ge j (opsOf 30 Tryz.f39).size with h4 | h4
    · exact h4
    · unfold dstOf at h2; rw [Array.getElem?_eq_none h4] at h2; cases h2
  have h5 := List.all_eq_true.1 h j (List.mem_range.2 hlt)
  rw [h2] at h5
  simp only [h3, decide_true, Bool.not_true, Bool.or_false, decide_eq_true_eq] at h5
  subst h5
  rw [hu] at h1
  cases h1
theorem DWF.s0 (X : DWF) (ok : DWFOk X) {Q : Exit → Act → World → Prop} : StepG (opsOf 30 Tryz.f39) DWF.acts DWF.av X.val0 X.Wd X.a0 Q 0 := by
  intro γ listed a w o hF hC hW h1 ho h2
  obtain ⟨hd, hop, hg⟩ := fields2 (x := some 155) (y := Op.move (.tmp 11)) (z := none) (by kernel_rfl) ho
  have e11 : a.eval (.tmp 11) = .pointer (some ⟨X.bd, 0, none⟩) := (hF.eval0 (by kernel_rfl)).trans ok.e11
  refine st_pureG hF hC hW ho h2 (by decide) hd hg rfl ?_
  show _ = Result.ok (Next.value (.pointer (some ⟨X.bd, 0, none⟩))) w
  generalize a.eval = ρ at e11 ⊢
  unfold execOp
  rw [hop]
  simp [e11, go_sem]
theorem DWF.s1 (X : DWF) (ok : DWFOk X) {Q : Exit → Act → World → Prop} : StepG (opsOf 30 Tryz.f39) DWF.acts DWF.av X.val0 X.Wd X.a0 Q 1 := by
  intro γ listed a w o hF hC hW h1 ho h2
  obtain ⟨hd, hop, hg⟩ := fields2 (x := some 156) (y := Op.nilCheck (.tmp 155)) (z := none) (by kernel_rfl) ho
  have e155 : a.eval (.tmp 155) = .pointer (some ⟨X.bd, 0, none⟩) := slotG hF ho h2 (j := 0) (d := 155) (by kernel_rfl) (by kernel_rfl) (by rw [ok.sz]; decide)
  refine st_pureG hF hC hW ho h2 (by decide) hd hg rfl ?_
  show _ = Result.ok (Next.value (.pointer (some ⟨X.bd, 0, none⟩))) w
  generalize a.eval = ρ at e155 ⊢
  unfold execOp
  rw [hop]
  simp [e155, go_sem]
theorem DWF.s2 (X : DWF) (ok : DWFOk X) {Q : Exit → Act → World → Prop} : StepG (opsOf 30 Tryz.f39) DWF.acts DWF.av X.val0 X.Wd X.a0 Q 2 := by
  intro γ listed a w o hF hC hW h1 ho h2
  obtain ⟨hd, hop, hg⟩ := fields2 (x := some 157) (y := Op.fieldAddr 100 (.tmp 156) 4) (z := none) (by kernel_rfl) ho
  have e156 : a.eval (.tmp 156) = .pointer (some ⟨X.bd, 0, none⟩) := slotG hF ho h2 (j := 1) (d := 156) (by kernel_rfl) (by kernel_rfl) (by rw [ok.sz]; decide)
  refine st_pureG hF hC hW ho h2 (by decide) hd hg rfl ?_
  show _ = Result.ok (Next.value (.pointer (some ⟨X.bd, 4, none⟩))) w
  generalize a.eval = ρ at e156 ⊢
  unfold execOp
  rw [hop]
  simp [e156, go_sem]
theorem DWF.s3 (X : DWF) (ok : DWFOk X) {Q : Exit → Act → World → Prop} : StepG (opsOf 30 Tryz.f39) DWF.acts DWF.av X.val0 X.Wd X.a0 Q 3 := by
  intro γ listed a w o hF hC hW h1 ho h2
  obtain ⟨hd, hop, hg⟩ := fields2 (x := some 158) (y := Op.load 29 (.tmp 157)) (z := none) (by kernel_rfl) ho
  have e157 : a.eval (.tmp 157) = .pointer (some ⟨X.bd, 4, none⟩) := slotG hF ho h2 (j := 2) (d := 157) (by kernel_rfl) (by kernel_rfl) (by rw [ok.sz]; decide)
  have hc0 := rq_at (DWF.kp hW) ok.c4
  refine st_pureG hF hC hW ho h2 (by decide) hd hg rfl ?_
  show _ = Result.ok (Next.value (.slice X.va X.vn X.vc)) w
  generalize a.eval = ρ at e157 ⊢
  unfold execOp
  rw [hop]
  simp [e157, hc0, go_sem]
theorem DWF.s4 (X : DWF) (ok : DWFOk X) {Q : Exit → Act → World → Prop} : StepG (opsOf 30 Tryz.f39) DWF.acts DWF.av X.val0 X.Wd X.a0 Q 4 := by
  intro γ listed a w o hF hC hW h1 ho h2
  obtain ⟨hd, hop, hg⟩ := fields2 (x := some 159) (y := Op.move (.tmp 11)) (z := none) (by kernel_rfl) ho
  have e11 : a.eval (.tmp 11) = .pointer (some ⟨X.bd, 0, none⟩) := (hF.eval0 (by kernel_rfl)).trans ok.e11
  refine st_pureG hF hC hW ho h2 (by decide) hd hg rfl ?_
  show _ = Result.ok (Next.value (.pointer (some ⟨X.bd, 0, none⟩))) w
  generalize a.eval = ρ at e11 ⊢
  unfold execOp
  rw [hop]
  simp [e11, go_sem]
theorem DWF.s5 (X : DWF) (ok : DWFOk X) {Q : Exit → Act → World → Prop} : StepG (opsOf 30 Tryz.f39) DWF.acts DWF.av X.val0 X.Wd X.a0 Q 5 := by
  intro γ listed a w o hF hC hW h1 ho h2
  obtain ⟨hd, hop, hg⟩ := fields2 (x := some 160) (y := Op.nilCheck (.tmp 159)) (z := none) (by kernel_rfl) ho
  have e159 : a.eval (.tmp 159) = .pointer (some ⟨X.bd, 0, none⟩) := slotG hF ho h2 (j := 4) (d := 159) (by kernel_rfl) (by kernel_rfl) (by rw [ok.sz]; decide)
  refine st_pureG hF hC hW ho h2 (by decide) hd hg rfl ?_
  show _ = Result.ok (Next.value (.pointer (some ⟨X.bd, 0, none⟩))) w
  generalize a.eval = ρ at e159 ⊢
  unfold execOp
  rw [hop]
  simp [e159, go_sem]
theorem DWF.s6 (X : DWF) (ok : DWFOk X) {Q : Exit → Act → World → Prop} : StepG (opsOf 30 Tryz.f39) DWF.acts DWF.av X.val0 X.Wd X.a0 Q 6 := by
  intro γ listed a w o hF hC hW h1 ho h2
  obtain ⟨hd, hop, hg⟩ := fields2 (x := some 161) (y := Op.fieldAddr 100 (.tmp 160) 5) (z := none) (by kernel_rfl) ho
  have e160 : a.eval (.tmp 160) = .pointer (some ⟨X.bd, 0, none⟩) := slotG hF ho h2 (j := 5) (d := 160) (by kernel_rfl) (by kernel_rfl) (by rw [ok.sz]; decide)
  refine st_pureG hF hC hW ho h2 (by decide) hd hg rfl ?_
  show _ = Result.ok (Next.value (.pointer (some ⟨X.bd, 5, none⟩))) w
  generalize a.eval = ρ at e160 ⊢
  unfold execOp
  rw [hop]
  simp [e160, go_sem]
theorem DWF.s7 (X : DWF) (ok : DWFOk X) {Q : Exit → Act → World → Prop} : StepG (opsOf 30 Tryz.f39) DWF.acts DWF.av X.val0 X.Wd X.a0 Q 7 := by
  intro γ listed a w o hF hC hW h1 ho h2
  obtain ⟨hd, hop, hg⟩ := fields2 (x := some 162) (y := Op.load 3 (.tmp 161)) (z := none) (by kernel_rfl) ho
  have e161 : a.eval (.tmp 161) = .pointer (some ⟨X.bd, 5, none⟩) := slotG hF ho h2 (j := 6) (d := 161) (by kernel_rfl) (by kernel_rfl) (by rw [ok.sz]; decide)
  have hc0 := rq_at (DWF.kp hW) ok.c5
  refine st_pureG hF hC hW ho h2 (by decide) hd hg rfl ?_
  show _ = Result.ok (Next.value (.int .i64 X.mn)) w
  generalize a.eval = ρ at e161 ⊢
  unfold execOp
  rw [hop]
  simp [e161, hc0, go_sem]
theorem DWF.s8 (X : DWF) (ok : DWFOk X) {Q : Exit → Act → World → Prop} : StepG (opsOf 30 Tryz.f39) DWF.acts DWF.av X.val0 X.Wd X.a0 Q 8 := by
  intro γ listed a w o hF hC hW h1 ho h2
  obtain ⟨hd, hop, hg⟩ := fields2 (x := some 163) (y := Op.binOp .leq 3 (.tmp 162) (.const (.int .i64 600)) 3) (z := none) (by kernel_rfl) ho
  have e162 : a.eval (.tmp 162) = .int .i64 X.mn := slotG hF ho h2 (j := 7) (d := 162) (by kernel_rfl) (by kernel_rfl) (by rw [ok.sz]; decide)
  have ec1 : a.eval (.const (.int .i64 600)) = .int .i64 600 := rfl
  refine st_pureG hF hC hW ho h2 (by decide) hd hg rfl ?_
  show _ = Result.ok (Next.value (.bool true)) w
  generalize a.eval = ρ at e162 ec1 ⊢
  unfold execOp
  rw [hop]
  simp [e162, ec1, ok.hm, go_sem]
theorem DWF.s9 (X : DWF) (ok : DWFOk X) {Q : Exit → Act → World → Prop} : StepG (opsOf 30 Tryz.f39) DWF.acts DWF.av X.val0 X.Wd X.a0 Q 9 := by
  intro γ listed a w o hF hC hW h1 ho h2
  obtain ⟨hd, hop, hg⟩ := fields2 (x := some 164) (y := Op.move (.tmp 163)) (z := none) (by kernel_rfl) ho
  have e163 : a.eval (.tmp 163) = .bool true := slotG hF ho h2 (j := 8) (d := 163) (by kernel_rfl) (by kernel_rfl) (by rw [ok.sz]; decide)
  refine st_pureG hF hC hW ho h2 (by decide) hd hg rfl ?_
  show _ = Result.ok (Next.value (.bool true)) w
  generalize a.eval = ρ at e163 ⊢
  unfold execOp
  rw [hop]
  simp [e163, go_sem]
theorem DWF.s10 (X : DWF) (ok : DWFOk X) {Q : Exit → Act → World → Prop} : StepG (opsOf 30 Tryz.f39) DWF.acts DWF.av X.val0 X.Wd X.a0 Q 10 := by
  intro γ listed a w o hF hC hW h1 ho h2
  obtain ⟨hd, hop, hg⟩ := fields2 (x := some 165) (y := Op.move (.tmp 11)) (z := some (9, true)) (by kernel_rfl) ho
  have eg : a.eval (.tmp 164) = .bool true := slotG hF ho h2 (j := 9) (d := 164) (by kernel_rfl) (by kernel_rfl) (by rw [ok.sz]; decide)
  have hw := wanted_of (ops := (opsOf 30 Tryz.f39)) hg (yl_of (by kernel_rfl : dstOf (opsOf 30 Tryz.f39) 9 = some 164) (by rw [hF.tsize, ok.sz]; decide) eg)
  replace hw : Region.wanted o (yielded (opsOf 30 Tryz.f39) a.tmps) = true := hw
  have e11 : a.eval (.tmp 11) = .pointer (some ⟨X.bd, 0, none⟩) := (hF.eval0 (by kernel_rfl)).trans ok.e11
  refine st_pureW hF hC hW ho h2 (by decide) hd hw rfl ?_
  show _ = Result.ok (Next.value (.pointer (some ⟨X.bd, 0, none⟩))) w
  generalize a.eval = ρ at e11 ⊢
  unfold execOp
  rw [hop]
  simp [e11, go_sem]
theorem DWF.s11 (X : DWF) (ok : DWFOk X) {Q : Exit → Act → World → Prop} : StepG (opsOf 30 Tryz.f39) DWF.acts DWF.av X.val0 X.Wd X.a0 Q 11 := by
  intro γ listed a w o hF hC hW h1 ho h2
  obtain ⟨hd, hop, hg⟩ := fields2 (x := some 166) (y := Op.nilCheck (.tmp 165)) (z := some (9, true)) (by kernel_rfl) ho
  have eg : a.eval (.tmp 164) = .bool true := slotG hF ho h2 (j := 9) (d := 164) (by kernel_rfl) (by kernel_rfl) (by rw [ok.sz]; decide)
  have hw := wanted_of (ops := (opsOf 30 Tryz.f39)) hg (yl_of (by kernel_rfl : dstOf (opsOf 30 Tryz.f39) 9 = some 164) (by rw [hF.tsize, ok.sz]; decide) eg)
  replace hw : Region.wanted o (yielded (opsOf 30 Tryz.f39) a.tmps) = true := hw
  have e165 : a.eval (.tmp 165) = .pointer (some ⟨X.bd, 0, none⟩) := slotG hF ho h2 (j := 10) (d := 165) (by kernel_rfl) (by kernel_rfl) (by rw [ok.sz]; decide)
  refine st_pureW hF hC hW ho h2 (by decide) hd hw rfl ?_
  show _ = Result.ok (Next.value (.pointer (some ⟨X.bd, 0, none⟩))) w
  generalize a.eval = ρ at e165 ⊢
  unfold execOp
  rw [hop]
  simp [e165, go_sem]
theorem DWF.s12 (X : DWF) (ok : DWFOk X) {Q : Exit → Act → World → Prop} : StepG (opsOf 30 Tryz.f39) DWF.acts DWF.av X.val0 X.Wd X.a0 Q 12 := by
  intro γ listed a w o hF hC hW h1 ho h2
  obtain ⟨hd, hop, hg⟩ := fields2 (x := some 167) (y := Op.fieldAddr 100 (.tmp 166) 6) (z := some (9, true)) (by kernel_rfl) ho
  have eg : a.eval (.tmp 164) = .bool true := slotG hF ho h2 (j := 9) (d := 164) (by kernel_rfl) (by kernel_rfl) (by rw [ok.sz]; decide)
  have hw := wanted_of (ops := (opsOf 30 Tryz.f39)) hg (yl_of (by kernel_rfl : dstOf (opsOf 30 Tryz.f39) 9 = some 164) (by rw [hF.tsize, ok.sz]; decide) eg)
  replace hw : Region.wanted o (yielded (opsOf 30 Tryz.f39) a.tmps) = true := hw
  have e166 : a.eval (.tmp 166) = .pointer (some ⟨X.bd, 0, none⟩) := slotG hF ho h2 (j := 11) (d := 166) (by kernel_rfl) (by kernel_rfl) (by rw [ok.sz]; decide)
  refine st_pureW hF hC hW ho h2 (by decide) hd hw rfl ?_
  show _ = Result.ok (Next.value (.pointer (some ⟨X.bd, 6, none⟩))) w
  generalize a.eval = ρ at e166 ⊢
  unfold execOp
  rw [hop]
  simp [e166, go_sem]
theorem DWF.s13 (X : DWF) (ok : DWFOk X) {Q : Exit → Act → World → Prop} : StepG (opsOf 30 Tryz.f39) DWF.acts DWF.av X.val0 X.Wd X.a0 Q 13 := by
  intro γ listed a w o hF hC hW h1 ho h2
  obtain ⟨hd, hop, hg⟩ := fields2 (x := some 168) (y := Op.load 3 (.tmp 167)) (z := some (9, true)) (by kernel_rfl) ho
  have eg : a.eval (.tmp 164) = .bool true := slotG hF ho h2 (j := 9) (d := 164) (by kernel_rfl) (by kernel_rfl) (by rw [ok.sz]; decide)
  have hw := wanted_of (ops := (opsOf 30 Tryz.f39)) hg (yl_of (by kernel_rfl : dstOf (opsOf 30 Tryz.f39) 9 = some 164) (by rw [hF.tsize, ok.sz]; decide) eg)
  replace hw : Region.wanted o (yielded (opsOf 30 Tryz.f39) a.tmps) = true := hw
  have e167 : a.eval (.tmp 167) = .pointer (some ⟨X.bd, 6, none⟩) := slotG hF ho h2 (j := 12) (d := 167) (by kernel_rfl) (by kernel_rfl) (by rw [ok.sz]; decide)
  have hc0 := rq_at (DWF.kp hW) ok.c6
  refine st_pureW hF hC hW ho h2 (by decide) hd hw rfl ?_
  show _ = Result.ok (Next.value (.int .i64 X.bg)) w
  generalize a.eval = ρ at e167 ⊢
  unfold execOp
  rw [hop]
  simp [e167, hc0, go_sem]
theorem DWF.s14 (X : DWF) (ok : DWFOk X) {Q : Exit → Act → World → Prop} : StepG (opsOf 30 Tryz.f39) DWF.acts DWF.av X.val0 X.Wd X.a0 Q 14 := by
  intro γ listed a w o hF hC hW h1 ho h2
  obtain ⟨hd, hop, hg⟩ := fields2 (x := some 169) (y := Op.binOp .leq 3 (.tmp 168) (.const (.int .i64 2400)) 3) (z := some (9, true)) (by kernel_rfl) ho
  have eg : a.eval (.tmp 164) = .bool true := slotG hF ho h2 (j := 9) (d := 164) (by kernel_rfl) (by kernel_rfl) (by rw [ok.sz]; decide)
  have hw := wanted_of (ops := (opsOf 30 Tryz.f39)) hg (yl_of (by kernel_rfl : dstOf (opsOf 30 Tryz.f39) 9 = some 164) (by rw [hF.tsize, ok.sz]; decide) eg)
  replace hw : Region.wanted o (yielded (opsOf 30 Tryz.f39) a.tmps) = true := hw
  have e168 : a.eval (.tmp 168) = .int .i64 X.bg := slotG hF ho h2 (j := 13) (d := 168) (by kernel_rfl) (by kernel_rfl) (by rw [ok.sz]; decide)
  have ec1 : a.eval (.const (.int .i64 2400)) = .int .i64 2400 := rfl
  refine st_pureW hF hC hW ho h2 (by decide) hd hw rfl ?_
  show _ = Result.ok (Next.value (.bool X.v)) w
  generalize a.eval = ρ at e168 ec1 ⊢
  unfold execOp
  rw [hop]
  simp [e168, ec1, ok.hv, go_sem]
theorem DWF.s15 (X : DWF) (ok : DWFOk X) {Q : Exit → Act → World → Prop} : StepG (opsOf 30 Tryz.f39) DWF.acts DWF.av X.val0 X.Wd X.a0 Q 15 := by
  intro γ listed a w o hF hC hW h1 ho h2
  obtain ⟨hd, hop, hg⟩ := fields2 (x := some 170) (y := Op.pick (.tmp 164) (.tmp 169) (.const (.bool false))) (z := none) (by kernel_rfl) ho
  have e164 : a.eval (.tmp 164) = .bool true := slotG hF ho h2 (j := 9) (d := 164) (by kernel_rfl) (by kernel_rfl) (by rw [ok.sz]; decide)
  have e169 : a.eval (.tmp 169) = .bool X.v := slotG hF ho h2 (j := 14) (d := 169) (by kernel_rfl) (by kernel_rfl) (by rw [ok.sz]; decide)
  have ec2 : a.eval (.const (.bool false)) = .bool false := rfl
  refine st_pureG hF hC hW ho h2 (by decide) hd hg rfl ?_
  show _ = Result.ok (Next.value (.bool X.v)) w
  generalize a.eval = ρ at e164 e169 ec2 ⊢
  unfold execOp
  rw [hop]
  simp [e164, e169, ec2, go_sem]
theorem DWF.s16 (X : DWF) (ok : DWFOk X) {Q : Exit → Act → World → Prop} : StepG (opsOf 30 Tryz.f39) DWF.acts DWF.av X.val0 X.Wd X.a0 Q 16 := by
  intro γ listed a w o hF hC hW h1 ho h2
  obtain ⟨hd, hop, hg⟩ := fields2 (x := some 6) (y := Op.assign (.tmp 158)) (z := none) (by kernel_rfl) ho
  have e158 : a.eval (.tmp 158) = .slice X.va X.vn X.vc := slotG hF ho h2 (j := 3) (d := 158) (by kernel_rfl) (by kernel_rfl) (by rw [ok.sz]; decide)
  refine st_pureG hF hC hW ho h2 (by decide) hd hg rfl ?_
  show _ = Result.ok (Next.value (.slice X.va X.vn X.vc)) w
  generalize a.eval = ρ at e158 ⊢
  unfold execOp
  rw [hop]
  simp [e158, go_sem]
theorem DWF.s17 (X : DWF) (ok : DWFOk X) {Q : Exit → Act → World → Prop} : StepG (opsOf 30 Tryz.f39) DWF.acts DWF.av X.val0 X.Wd X.a0 Q 17 := by
  intro γ listed a w o hF hC hW h1 ho h2
  obtain ⟨hd, hop, hg⟩ := fields2 (x := some 7) (y := Op.assign (.tmp 170)) (z := none) (by kernel_rfl) ho
  have e170 : a.eval (.tmp 170) = .bool X.v := slotG hF ho h2 (j := 15) (d := 170) (by kernel_rfl) (by kernel_rfl) (by rw [ok.sz]; decide)
  refine st_pureG hF hC hW ho h2 (by decide) hd hg rfl ?_
  show _ = Result.ok (Next.value (.bool X.v)) w
  generalize a.eval = ρ at e170 ⊢
  unfold execOp
  rw [hop]
  simp [e170, go_sem]
theorem DWF.size : (opsOf 30 Tryz.f39).size = 18 := by kernel_rfl
theorem DWF.steps (X : DWF) (ok : DWFOk X) {Q : Exit → Act → World → Prop} (i : Nat) (hi : i < (opsOf 30 Tryz.f39).size) : StepG (opsOf 30 Tryz.f39) DWF.acts DWF.av X.val0 X.Wd X.a0 Q i := by
  rw [DWF.size] at hi
  have hc : i = 0 ∨ i = 1 ∨ i = 2 ∨ i = 3 ∨ i = 4 ∨ i = 5 ∨ i = 6 ∨ i = 7 ∨ i = 8 ∨ i = 9 ∨ i = 10 ∨ i = 11 ∨ i = 12 ∨ i = 13 ∨ i = 14 ∨ i = 15 ∨ i = 16 ∨ i = 17 := by omega
  rcases hc with rfl | rfl | rfl | rfl | rfl | rfl | rfl | rfl | rfl | rfl | rfl | rfl | rfl | rfl | rfl | rfl | rfl | rfl
  · exact DWF.s0 X ok
  · exact DWF.s1 X ok
  · exact DWF.s2 X ok
  · exact DWF.s3 X ok
  · exact DWF.s4 X ok
  · exact DWF.s5 X ok
  · exact DWF.s6 X ok
  · exact DWF.s7 X ok
  · exact DWF.s8 X ok
  · exact DWF.s9 X ok
  · exact DWF.s10 X ok
  · exact DWF.s11 X ok
  · exact DWF.s12 X ok
  · exact DWF.s13 X ok
  · exact DWF.s14 X ok
  · exact DWF.s15 X ok
  · exact DWF.s16 X ok
  · exact DWF.s17 X ok
theorem DWF.puts (X : DWF) (γ : Nat → Value) (a0 : Act) : putsL (valG DWF.av X.val0 γ) (opsOf 30 Tryz.f39).toList a0 = ((((((((((((((((((a0.put (some 155) (.pointer (some ⟨X.bd, 0, none⟩))).put (some 156) (.pointer (some ⟨X.bd, 0, none⟩))).put (some 157) (.pointer (some ⟨X.bd, 4, none⟩))).put (some 158) (.slice X.va X.vn X.vc)).put (some 159) (.pointer (some ⟨X.bd, 0, none⟩))).put (some 160) (.pointer (some ⟨X.bd, 0, none⟩))).put (some 161) (.pointer (some ⟨X.bd, 5, none⟩))).put (some 162) (.int .i64 X.mn)).put (some 163) (.bool true)).put (some 164) (.bool true)).put (some 165) (.pointer (some ⟨X.bd, 0, none⟩))).put (some 166) (.pointer (some ⟨X.bd, 0, none⟩))).put (some 167) (.pointer (some ⟨X.bd, 6, none⟩))).put (some 168) (.int .i64 X.bg)).put (some 169) (.bool X.v)).put (some 170) (.bool X.v)).put (some 6) (.slice X.va X.vn X.vc)).put (some 7) (.bool X.v)) := by kernel_rfl
/-- The region, whatever order comes up. -/
theorem DWF.run (X : DWF) (ok : DWFOk X) {Q : Exit → Act → World → Prop} (w : World) (h0 : X.Wd 0 (fun _ => undef) w.drew) (hend : ∀ (γ : Nat → Value) w', X.Wd 0 γ w' → Q .normal ((((((((((((((((((X.a0.put (some 155) (.pointer (some ⟨X.bd, 0, none⟩))).put (some 156) (.pointer (some ⟨X.bd, 0, none⟩))).put (some 157) (.pointer (some ⟨X.bd, 4, none⟩))).put (some 158) (.slice X.va X.vn X.vc)).put (some 159) (.pointer (some ⟨X.bd, 0, none⟩))).put (some 160) (.pointer (some ⟨X.bd, 0, none⟩))).put (some 161) (.pointer (some ⟨X.bd, 5, none⟩))).put (some 162) (.int .i64 X.mn)).put (some 163) (.bool true)).put (some 164) (.bool true)).put (some 165) (.pointer (some ⟨X.bd, 0, none⟩))).put (some 166) (.pointer (some ⟨X.bd, 0, none⟩))).put (some 167) (.pointer (some ⟨X.bd, 6, none⟩))).put (some 168) (.int .i64 X.bg)).put (some 169) (.bool X.v)).put (some 170) (.bool X.v)).put (some 6) (.slice X.va X.vn X.vc)).put (some 7) (.bool X.v)) w') : (Code.region 30 (opsOf 30 Tryz.f39) true).wp Tryz.prog Q X.a0 w := by
  refine reg_act (acts := DWF.acts) (av := DWF.av) (val0 := X.val0) (Wd := X.Wd) (by kernel_rfl) (by kernel_rfl) (by rw [DWF.size]; decide) (fun i hi => DWF.steps X ok i hi) _ h0 ?_
  intro γ w' h
  rw [DWF.puts]
  exact hend γ w' h
end Go.Proofs.YtfdjjbgcaojcnaaGreat
namespace Go.Proofs.YtfdjjbgcaojcnaaGreat
open Go.ChangeShapes Go.WideShapes Go.ChangeAt Go.RowKit
set_option linter.unusedVariables false

structure WH (bx : Nat) (w : World) (nv : Value) (k l m b : Int) (v : Value) (it : Its) (u : Value) (p : List Pnt) : Prop where
  c0 : w.cell? ⟨bx, 0, none⟩ = some nv
  c1 : w.cell? ⟨bx, 1, none⟩ = some (.int .i64 k)
  c2 : w.cell? ⟨bx, 2, none⟩ = some (.int .i64 l)
  c3 : w.cell? ⟨bx, 3, none⟩ = some u
  c4 : w.cell? ⟨bx, 4, none⟩ = some v
  c5 : w.cell? ⟨bx, 5, none⟩ = some (.int .i64 m)
  c6 : w.cell? ⟨bx, 6, none⟩ = some (.int .i64 b)
  free : ∀ o, w.frozen? ⟨bx, o, none⟩ = false
  d : D2 w (bx + 1) v it u p
section
variable {bx : Nat} {w w' : World} {nv : Value} {k l m b : Int} {v u : Value} {it : Its} {p : List Pnt}
theorem WH.lt (h : WH bx w nv k l m b v it u p) : bx < w.heap.size := World.block_lt_of_cell? w ⟨bx, 0, none⟩ h.c0
theorem WH.nw (h : WH bx w nv k l m b v it u p) (kk : Nw w w') : WH bx w' nv k l m b v it u p := by
  have e := fun o => (bcell kk).1 bx o h.lt
  exact ⟨(e _).trans h.c0, (e _).trans h.c1, (e _).trans h.c2, (e _).trans h.c3, (e _).trans h.c4, (e _).trans h.c5, (e _).trans h.c6, fun o => ((bcell kk).2 _ _ h.lt).trans (h.free o), h.d.nw kk⟩
theorem WH.neu (h : WH bx w nv k l m b v it u p) : u.ownBlock ≠ some bx := fun e => by have := (OwnQ.lt h.d.pt bx e).1; omega
theorem WH.nev (h : WH bx w nv k l m b v it u p) : v.ownBlock ≠ some bx := fun e => by have := (OwnQ.lt h.d.ln.own bx e).1; omega
theorem WH.setK (h : WH bx w nv k l m b v it u p) (x : Int) : WH bx (w.setCell ⟨bx, 1, none⟩ (.int .i64 x)) nv x l m b v it u p ∧ Below bx w (w.setCell ⟨bx, 1, none⟩ (.int .i64 x)) := by
  have e : ∀ o, o ≠ 1 → (w.setCell ⟨bx, 1, none⟩ (.int .i64 x)).cell? ⟨bx, o, none⟩ = w.cell? ⟨bx, o, none⟩ := fun o ho => World.cell?_setCell_other _ _ _ _ (fun e => by injection e; omega)
  exact ⟨⟨(e _ (by decide)).trans h.c0, World.cell?_setCell_same w ⟨bx, 1, none⟩ _ h.c1, (e _ (by decide)).trans h.c2, (e _ (by decide)).trans h.c3, (e _ (by decide)).trans h.c4, (e _ (by decide)).trans h.c5, (e _ (by decide)).trans h.c6, fun o => by rw [World.frozen?_setCell]; exact h.free o, h.d.far bx 1 _ (by omega)⟩, (Below.refl bx w).setCell (p := ⟨bx, 1, none⟩) (Nat.le_refl _) _⟩
theorem WH.setL (h : WH bx w nv k l m b v it u p) (x : Int) : WH bx (w.setCell ⟨bx, 2, none⟩ (.int .i64 x)) nv k x m b v it u p ∧ Below bx w (w.setCell ⟨bx, 2, none⟩ (.int .i64 x)) := by
  have e : ∀ o, o ≠ 2 → (w.setCell ⟨bx, 2, none⟩ (.int .i64 x)).cell? ⟨bx, o, none⟩ = w.cell? ⟨bx, o, none⟩ := fun o ho => World.cell?_setCell_other _ _ _ _ (fun e => by injection e; omega)
  exact ⟨⟨(e _ (by decide)).trans h.c0, (e _ (by decide)).trans h.c1, World.cell?_setCell_same w ⟨bx, 2, none⟩ _ h.c2, (e _ (by decide)).trans h.c3, (e _ (by decide)).trans h.c4, (e _ (by decide)).trans h.c5, (e _ (by decide)).trans h.c6, fun o => by rw [World.frozen?_setCell]; exact h.free o, h.d.far bx 2 _ (by omega)⟩, (Below.refl bx w).setCell (p := ⟨bx, 2, none⟩) (Nat.le_refl _) _⟩
theorem WH.setM (h : WH bx w nv k l m b v it u p) (x : Int) : WH bx (w.setCell ⟨bx, 5, none⟩ (.int .i64 x)) nv k l x b v it u p ∧ Below bx w (w.setCell ⟨bx, 5, none⟩ (.int .i64 x)) := by
  have e : ∀ o, o ≠ 5 → (w.setCell ⟨bx, 5, none⟩ (.int .i64 x)).cell? ⟨bx, o, none⟩ = w.cell? ⟨bx, o, none⟩ := fun o ho => World.cell?_setCell_other _ _ _ _ (fun e => by injection e; omega)
  exact ⟨⟨(e _ (by decide)).trans h.c0, (e _ (by decide)).trans h.c1, (e _ (by decide)).trans h.c2, (e _ (by decide)).trans h.c3, (e _ (by decide)).trans h.c4, World.cell?_setCell_same w ⟨bx, 5, none⟩ _ h.c5, (e _ (by decide)).trans h.c6, fun o => by rw [World.frozen?_setCell]; exact h.free o, h.d.far bx 5 _ (by omega)⟩, (Below.refl bx w).setCell (p := ⟨bx, 5, none⟩) (Nat.le_refl _) _⟩
theorem WH.setB (h : WH bx w nv k l m b v it u p) (x : Int) : WH bx (w.setCell ⟨bx, 6, none⟩ (.int .i64 x)) nv k l m x v it u p ∧ Below bx w (w.setCell ⟨bx, 6, none⟩ (.int .i64 x)) := by
  have e : ∀ o, o ≠ 6 → (w.setCell ⟨bx, 6, none⟩ (.int .i64 x)).cell? ⟨bx, o, none⟩ = w.cell? ⟨bx, o, none⟩ := fun o ho => World.cell?_setCell_other _ _ _ _ (fun e => by injection e; omega)
  exact ⟨⟨(e _ (by decide)).trans h.c0, (e _ (by decide)).trans h.c1, (e _ (by decide)).trans h.c2, (e _ (by decide)).trans h.c3, (e _ (by decide)).trans h.c4, (e _ (by decide)).trans h.c5, World.cell?_setCell_same w ⟨bx, 6, none⟩ _ h.c6, fun o => by rw [World.frozen?_setCell]; exact h.free o, h.d.far bx 6 _ (by omega)⟩, (Below.refl bx w).setCell (p := ⟨bx, 6, none⟩) (Nat.le_refl _) _⟩
/-- Points have been appended. -/
theorem WH.pput {u' : Value} {p' : List Pnt} (h : WH bx w nv k l m b v it u p) (x : Ext u u' w w') (ho : OwnP w' (bx + 1) u' p') : WH bx (w'.setCell ⟨bx, 3, none⟩ u') nv k l m b v it u' p' ∧ Below bx w (w'.setCell ⟨bx, 3, none⟩ u') := by
  have hb := h.lt
  have e0 := fun o => Ext.cell x hb h.neu o
  have e : ∀ o, o ≠ 3 → (w'.setCell ⟨bx, 3, none⟩ u').cell? ⟨bx, o, none⟩ = w.cell? ⟨bx, o, none⟩ := fun o ho => by
    rw [World.cell?_setCell_other _ _ _ _ (fun e => by injection e; omega)]; exact e0 o
  refine ⟨⟨(e _ (by decide)).trans h.c0, (e _ (by decide)).trans h.c1, (e _ (by decide)).trans h.c2, World.cell?_setCell_same w' ⟨bx, 3, none⟩ _ ((e0 3).trans h.c3), (e _ (by decide)).trans h.c4, (e _ (by decide)).trans h.c5, (e _ (by decide)).trans h.c6, fun o => ?_, (h.d.pput x ho).far bx 3 u' (by omega)⟩, ?_⟩
  · rw [World.frozen?_setCell]; exact (World.frozen?_of_block (w := w) (a := ⟨bx, o, none⟩) (x.1.block bx hb (fun e => h.neu e.symm))).trans (h.free o)
  · exact (x.below (fun g e => Nat.le_of_succ_le (OwnQ.lt h.d.pt g e).1) (by omega)).setCell (Nat.le_refl _) _
/-- A line has been appended to the lines; the points are still in their place. -/
structure WM (bx : Nat) (w : World) (nv : Value) (k l m b : Int) (v : Value) (it : Its) (u : Value) : Prop where
  c0 : w.cell? ⟨bx, 0, none⟩ = some nv
  c1 : w.cell? ⟨bx, 1, none⟩ = some (.int .i64 k)
  c2 : w.cell? ⟨bx, 2, none⟩ = some (.int .i64 l)
  c3 : w.cell? ⟨bx, 3, none⟩ = some u
  c4 : w.cell? ⟨bx, 4, none⟩ = some v
  c5 : w.cell? ⟨bx, 5, none⟩ = some (.int .i64 m)
  c6 : w.cell? ⟨bx, 6, none⟩ = some (.int .i64 b)
  free : ∀ o, w.frozen? ⟨bx, o, none⟩ = false
  d : OwnLn w (bx + 1) v it
theorem WH.wm (h : WH bx w nv k l m b v it u p) : WM bx w nv k l m b v it u := ⟨h.c0, h.c1, h.c2, h.c3, h.c4, h.c5, h.c6, h.free, h.d.ln⟩
theorem WM.lt (h : WM bx w nv k l m b v it u) : bx < w.heap.size := World.block_lt_of_cell? w ⟨bx, 0, none⟩ h.c0
theorem WM.nw (h : WM bx w nv k l m b v it u) (kk : Nw w w') : WM bx w' nv k l m b v it u := by
  have e := fun o => (bcell kk).1 bx o h.lt
  exact ⟨(e _).trans h.c0, (e _).trans h.c1, (e _).trans h.c2, (e _).trans h.c3, (e _).trans h.c4, (e _).trans h.c5, (e _).trans h.c6, fun o => ((bcell kk).2 _ _ h.lt).trans (h.free o), h.d.nw kk⟩
theorem WH.lput {v' : Value} {c : Bool} (h : WH bx w nv k l m b v it u p) (x : Ext v v' w w') (ho : OwnQ 25 w' (bx + 1) v' (vLn (it ++ [(u, ⟨p, c⟩)]))) : WM bx (w'.setCell ⟨bx, 4, none⟩ v') nv k l m b v' (it ++ [(u, ⟨p, c⟩)]) u ∧ Below bx w (w'.setCell ⟨bx, 4, none⟩ v') := by
  have hb := h.lt
  have e0 := fun o => Ext.cell x hb h.nev o
  have e : ∀ o, o ≠ 4 → (w'.setCell ⟨bx, 4, none⟩ v').cell? ⟨bx, o, none⟩ = w.cell? ⟨bx, o, none⟩ := fun o ho => by
    rw [World.cell?_setCell_other _ _ _ _ (fun e => by injection e; omega)]; exact e0 o
  refine ⟨⟨(e _ (by decide)).trans h.c0, (e _ (by decide)).trans h.c1, (e _ (by decide)).trans h.c2, (e _ (by decide)).trans h.c3, World.cell?_setCell_same w' ⟨bx, 4, none⟩ _ ((e0 4).trans h.c4), (e _ (by decide)).trans h.c5, (e _ (by decide)).trans h.c6, fun o => ?_, (h.d.lput ho x).farSet bx 4 v' (by omega)⟩, ?_⟩
  · rw [World.frozen?_setCell]; exact (World.frozen?_of_block (w := w) (a := ⟨bx, o, none⟩) (x.1.block bx hb (fun e => h.nev e.symm))).trans (h.free o)
  · exact (x.below (fun g e => Nat.le_of_succ_le (OwnQ.lt h.d.ln.own g e).1) (by omega)).setCell (Nat.le_refl _) _
theorem WM.setM (h : WM bx w nv k l m b v it u) (x : Int) : WM bx (w.setCell ⟨bx, 5, none⟩ (.int .i64 x)) nv k l x b v it u ∧ Below bx w (w.setCell ⟨bx, 5, none⟩ (.int .i64 x)) := by
  have e : ∀ o, o ≠ 5 → (w.setCell ⟨bx, 5, none⟩ (.int .i64 x)).cell? ⟨bx, o, none⟩ = w.cell? ⟨bx, o, none⟩ := fun o ho => World.cell?_setCell_other _ _ _ _ (fun e => by injection e; omega)
  exact ⟨⟨(e _ (by decide)).trans h.c0, (e _ (by decide)).trans h.c1, (e _ (by decide)).trans h.c2, (e _ (by decide)).trans h.c3, (e _ (by decide)).trans h.c4, World.cell?_setCell_same w ⟨bx, 5, none⟩ _ h.c5, (e _ (by decide)).trans h.c6, fun o => by rw [World.frozen?_setCell]; exact h.free o, h.d.farSet bx 5 _ (by omega)⟩, (Below.refl bx w).setCell (p := ⟨bx, 5, none⟩) (Nat.le_refl _) _⟩
/-- The points are dropped. -/
theorem WM.drop (h : WM bx w nv k l m b v it u) : WH bx (w.setCell ⟨bx, 3, none⟩ (.slice none 0 0)) nv k l m b v it (.slice none 0 0) [] ∧ Below bx w (w.setCell ⟨bx, 3, none⟩ (.slice none 0 0)) := by
  have e : ∀ o, o ≠ 3 → (w.setCell ⟨bx, 3, none⟩ (.slice none 0 0)).cell? ⟨bx, o, none⟩ = w.cell? ⟨bx, o, none⟩ := fun o ho => World.cell?_setCell_other _ _ _ _ (fun e => by injection e; omega)
  exact ⟨⟨(e _ (by decide)).trans h.c0, (e _ (by decide)).trans h.c1, (e _ (by decide)).trans h.c2, World.cell?_setCell_same w ⟨bx, 3, none⟩ _ h.c3, (e _ (by decide)).trans h.c4, (e _ (by decide)).trans h.c5, (e _ (by decide)).trans h.c6, fun o => by rw [World.frozen?_setCell]; exact h.free o, ⟨h.d.farSet bx 3 _ (by omega), OwnP.nil _ _, Apt.nil _ _⟩⟩, (Below.refl bx w).setCell (p := ⟨bx, 3, none⟩) (Nat.le_refl _) _⟩
/-- One point in a block of its own. -/
theorem WH.fresh (h : WH bx w nv k l m b v it u p) (x y : Int) : WH bx ((w.alloc (.cells #[.int .i64 x, .int .i64 y] 34)).setCell ⟨bx, 3, none⟩ (.slice (some ⟨w.heap.size, 0, none⟩) 1 1)) nv k l m b v it (.slice (some ⟨w.heap.size, 0, none⟩) 1 1) [(x, y)] ∧ Below bx w ((w.alloc (.cells #[.int .i64 x, .int .i64 y] 34)).setCell ⟨bx, 3, none⟩ (.slice (some ⟨w.heap.size, 0, none⟩) 1 1)) := by
  have n1 : Nw w (w.alloc (.cells #[.int .i64 x, .int .i64 y] 34)) := (Below.refl _ _).alloc (Nat.le_refl _) _
  have hb := h.lt
  have h1 := h.nw n1
  have e : ∀ o, o ≠ 3 → ((w.alloc (.cells #[.int .i64 x, .int .i64 y] 34)).setCell ⟨bx, 3, none⟩ (.slice (some ⟨w.heap.size, 0, none⟩) 1 1)).cell? ⟨bx, o, none⟩ = (w.alloc (.cells #[.int .i64 x, .int .i64 y] 34)).cell? ⟨bx, o, none⟩ := fun o ho => World.cell?_setCell_other _ _ _ _ (fun e => by injection e; omega)
  exact ⟨⟨(e _ (by decide)).trans h1.c0, (e _ (by decide)).trans h1.c1, (e _ (by decide)).trans h1.c2, World.cell?_setCell_same _ ⟨bx, 3, none⟩ _ h1.c3, (e _ (by decide)).trans h1.c4, (e _ (by decide)).trans h1.c5, (e _ (by decide)).trans h1.c6, fun o => by rw [World.frozen?_setCell]; exact h1.free o, (h.d.fresh n1 (by omega) (ownp_lit w w.heap.size x y (Nat.le_refl _))).far bx 3 _ (by omega)⟩, (Below.mono n1 (Nat.le_of_lt hb)).setCell (Nat.le_refl _) _⟩
end
/-- The reference's dashing in a variable, by its state. -/
def WhS (bx : Nat) (w0 w : World) (K : List (Nat × Int × Int)) (na : Option Addr) (nc : Nat) (ms : List Int) (s : Wk) : Prop := ∃ v it u, WH bx w (.slice na ms.length nc) s.k s.left s.many s.begun v it u s.now ∧ it.map (·.2) = s.out ∧ Nw w0 w ∧ Kb bx w v it u K
section
variable {bx : Nat} {w0 w w' : World} {K K' : List (Nat × Int × Int)} {na : Option Addr} {nc : Nat} {ms : List Int} {s : Wk}
theorem WhS.box (h : WhS bx w0 w K na nc ms s) (x y : Int) (t : TypeId) : WhS bx w0 (w.alloc (.cells #[.int .i64 x, .int .i64 y] t)) ((w.heap.size, x, y) :: K) na nc ms s := by
  obtain ⟨v, it, u, hd, ho, hw, hk⟩ := h
  have n1 : Nw w (w.alloc (.cells #[.int .i64 x, .int .i64 y] t)) := (Below.refl _ _).alloc (Nat.le_refl _) _
  exact ⟨v, it, u, hd.nw n1, ho, Nw.trans hw n1, hk.box hd.lt (fun g e => (OwnQ.lt hd.d.pt g e).2) (fun g e => (OwnQ.lt hd.d.ln.own g e).2) (fun i hi g e => (OwnQ.lt (hd.d.ln.pts i hi) g e).2) x y t⟩
/-- A variable that has been made since. -/
theorem WhS.more (h : WhS bx w0 w K na nc ms s) (k : Nw w w') {g : Nat} (hg : w.heap.size ≤ g) {x y : Int} (c0 : w'.cell? ⟨g, 0, none⟩ = some (.int .i64 x)) (c1 : w'.cell? ⟨g, 1, none⟩ = some (.int .i64 y)) (hf : ∀ o, w'.frozen? ⟨g, o, none⟩ = false) : WhS bx w0 w' ((g, x, y) :: K) na nc ms s := by
  obtain ⟨v, it, u, hd, ho, hw, hk⟩ := h
  refine ⟨v, it, u, hd.nw k, ho, Nw.trans hw k, fun q hq => ?_⟩
  rcases List.mem_cons.1 hq with rfl | hq
  · exact ⟨c0, c1, hf, by have := hd.lt; show g ≠ bx; omega, fun e => by have := (OwnQ.lt hd.d.pt _ e).2; simp only at this; omega, (fun e => by have := (OwnQ.lt hd.d.ln.own _ e).2; simp only at this; omega), fun i hi e => by have := (OwnQ.lt (hd.d.ln.pts i hi) _ e).2; simp only at this; omega⟩
  · exact Kb.nw hk k q hq
theorem WhS.sub (h : WhS bx w0 w K na nc ms s) (hs : ∀ k, k ∈ K' → k ∈ K) : WhS bx w0 w K' na nc ms s := by
  obtain ⟨v, it, u, hd, ho, hw, hk⟩ := h
  exact ⟨v, it, u, hd, ho, hw, hk.sub hs⟩
theorem WhS.nw (h : WhS bx w0 w K na nc ms s) (k : Nw w w') : WhS bx w0 w' K na nc ms s := by
  obtain ⟨v, it, u, hd, ho, hw, hk⟩ := h
  exact ⟨v, it, u, hd.nw k, ho, Nw.trans hw k, hk.nw k⟩
theorem WhS.at (h : WhS bx w0 w K na nc ms s) {b : Nat} {x y : Int} (hm : (b, x, y) ∈ K) : w.cell? ⟨b, 0, none⟩ = some (.int .i64 x) ∧ w.cell? ⟨b, 1, none⟩ = some (.int .i64 y) := by
  obtain ⟨v, it, u, hd, ho, hw, hk⟩ := h
  obtain ⟨h1, h2, _⟩ := hk _ hm
  exact ⟨h1, h2⟩
theorem WhS.of {v u : Value} {it : Its} {k l m b : Int} {p : List Pnt} (h : WH bx w (.slice na ms.length nc) k l m b v it u p) (h2 : it.map (·.2) = s.out) (h3 : Nw w0 w) (ha : k = s.k) (hl : l = s.left) (hm : m = s.many) (hb : b = s.begun) (hp : p = s.now) (hk : Kb bx w v it u K) : WhS bx w0 w K na nc ms s := by
  subst ha hl hm hb hp
  exact ⟨v, it, u, h, h2, h3, hk⟩
end
theorem Kb.fresh {bx : Nat} {w : World} {v u : Value} {it : Its} {K : List (Nat × Int × Int)} (h : Kb bx w v it u K) (x y : Int) (t : TypeId) : Kb bx ((w.alloc (.cells #[.int .i64 x, .int .i64 y] t)).setCell ⟨bx, 3, none⟩ (.slice (some ⟨w.heap.size, 0, none⟩) 1 1)) v it (.slice (some ⟨w.heap.size, 0, none⟩) 1 1) K := by
  refine Kb.set (fun q hq => ?_) 3 _
  obtain ⟨h1, h2, h3, h4, h5, h6⟩ := Kb.nw h ((Below.refl _ _).alloc (Nat.le_refl _) (.cells #[.int .i64 x, .int .i64 y] t)) q hq
  have hb : q.1 < w.heap.size := World.block_lt_of_cell? w ⟨q.1, 0, none⟩ (h q hq).1
  exact ⟨h1, h2, h3, h4, fun e => by have : w.heap.size = q.1 := by simpa [Value.ownBlock] using e
                                     omega, h6⟩
/-- A new dashing. -/
theorem WhS.new (w : World) (na : Option Addr) (nc : Nat) (ms : List Int) (x : Int) (t : TypeId) : WhS w.heap.size w (w.alloc (.cells #[.slice na ms.length nc, .int .i64 0, .int .i64 x, .slice none 0 0, .slice none 0 0, .int .i64 0, .int .i64 0] t)) [] na nc ms ⟨0, x, [], [], 0, 0⟩ :=
  ⟨.slice none 0 0, [], .slice none 0 0, ⟨World.cell?_alloc_at _ _ _ _ rfl, World.cell?_alloc_at _ _ _ _ rfl, World.cell?_alloc_at _ _ _ _ rfl, World.cell?_alloc_at _ _ _ _ rfl, World.cell?_alloc_at _ _ _ _ rfl, World.cell?_alloc_at _ _ _ _ rfl, World.cell?_alloc_at _ _ _ _ rfl, fun o => World.frozen?_alloc_at _ _ _ _ rfl, D2.nil _ _⟩, rfl, (Below.refl _ _).alloc (Nat.le_refl _) _, fun q hq => absurd hq (by simp)⟩
/-- How far the reference's dashing can be. -/
structure WB (ms : List Int) (c : Nat) (s : Wk) : Prop where
  hk : s.k < ms.length
  ho : s.out.length ≤ s.begun
  hb : s.begun ≤ 2401
  hm : s.many + s.now.length ≤ 2 * s.begun + c
  h0 : -268435456 * (c : Int) ≤ s.left
  h1 : s.left ≤ 67108864
theorem end_is (s : Wk) : (endW s).k = s.k ∧ (endW s).begun = s.begun ∧ (endW s).left = s.left ∧ (endW s).many ≤ s.many + s.now.length ∧ (endW s).out.length ≤ s.out.length + 1 ∧ (endW s).now = [] := by
  refine ⟨rfl, rfl, rfl, ?_, ?_, rfl⟩
  · show (if 1 < s.now.length then s.many + s.now.length else s.many) ≤ _
    split <;> omega
  · show (if _ then _ else _ : List LD).length ≤ _
    split <;> simp
theorem WB.add {ms : List Int} {c : Nat} {s : Wk} (h : WB ms c s) (q : Pnt) : WB ms (c + 1) (addW s q) := by
  unfold addW
  have := h.h0
  split
  · exact ⟨h.hk, h.ho, h.hb, by show s.many + (s.now ++ [q]).length ≤ _; have := h.hm; simp; omega, by show _ ≤ s.left; omega, h.h1⟩
  · exact ⟨h.hk, h.ho, h.hb, by have := h.hm; omega, by omega, h.h1⟩
theorem WB.step {ms : List Int} {c : Nat} {s : Wk} (h : WB ms (c + 1) s) (hn : ∀ i, i < ms.length → 0 ≤ intAt ms i ∧ intAt ms i ≤ 67108864) (q : Pnt) (hb : s.begun ≤ 2400) : WB ms c (stepW ms q s) := by
  have hp : 0 < ms.length := by have := h.hk; omega
  have hlt := Nat.mod_lt (s.k + 1) hp
  obtain ⟨n1, n2⟩ := hn _ hlt
  obtain ⟨e1, e2, e3, e4, e5, e6⟩ := end_is s
  have hm := h.hm
  have ho := h.ho
  have hmm : (if s.k % 2 = 0 then endW s else s).many + (if s.k % 2 = 0 then endW s else s).now.length ≤ s.many + s.now.length := by
    split
    · rw [e6]; simp; omega
    · omega
  refine ⟨hlt, ?_, by show s.begun + 1 ≤ 2401; omega, ?_, ?_, n2⟩
  · show (if s.k % 2 = 0 then endW s else s).out.length ≤ s.begun + 1
    split <;> omega
  · show (if s.k % 2 = 0 then endW s else s).many + (if (s.k + 1) % ms.length % 2 = 0 ∧ 0 < intAt ms ((s.k + 1) % ms.length) then [q] else (if s.k % 2 = 0 then endW s else s).now).length ≤ 2 * (s.begun + 1) + c
    by_cases hc : (s.k + 1) % ms.length % 2 = 0 ∧ 0 < intAt ms ((s.k + 1) % ms.length)
    · rw [if_pos hc, List.length_singleton]; omega
    · rw [if_neg hc]; omega
  · show _ ≤ intAt ms ((s.k + 1) % ms.length); omega
theorem WB.more {ms : List Int} {c : Nat} {s : Wk} (h : WB ms c s) : WB ms (c + 1) s := ⟨h.hk, h.ho, h.hb, by have := h.hm; omega, by have := h.h0; omega, h.h1⟩
theorem WB.next {ms : List Int} {c : Nat} (hn : ∀ i, i < ms.length → 0 ≤ intAt ms i ∧ intAt ms i ≤ 67108864) (q : Pnt) : ∀ (f : Nat) {s : Wk}, WB ms c s → WB ms c (nextW ms q f s)
  | 0, s, h => h
  | f + 1, s, h => by
    rw [nextW]
    split
    · rename_i hc
      exact WB.next hn q f (WB.step h.more hn q hc.2)
    · exact h
theorem WB.next1 {ms : List Int} {c : Nat} (hn : ∀ i, i < ms.length → 0 ≤ intAt ms i ∧ intAt ms i ≤ 67108864) (q : Pnt) {s : Wk} (h : WB ms (c + 1) s) (hl : s.left = 0) (hb : s.begun ≤ 2400) : WB ms c (goW ms q s) ∧ s.begun < (goW ms q s).begun := by
  unfold goW
  rw [show 2401 - s.begun = (2400 - s.begun) + 1 by omega, nextW, if_pos ⟨hl, hb⟩]
  refine ⟨WB.next hn q _ (WB.step h hn q hb), ?_⟩
  have : ∀ (f : Nat) (t : Wk), t.begun ≤ (nextW ms q f t).begun := by
    intro f
    induction f with
    | zero => intro t; exact Nat.le_refl _
    | succ f ih =>
      intro t
      rw [nextW]
      split
      · exact Nat.le_trans (Nat.le_succ _) (ih (stepW ms q t))
      · exact Nat.le_refl _
  exact Nat.lt_of_lt_of_le (Nat.lt_succ_self _) (this (2400 - s.begun) (stepW ms q s))
end Go.Proofs.YtfdjjbgcaojcnaaGreat
namespace Go.Proofs.YtfdjjbgcaojcnaaGreat
open Go.ChangeShapes Go.WideShapes Go.ChangeAt Go.RowKit
set_option linter.unusedVariables false

set_option maxRecDepth 100000 in
set_option maxHeartbeats 4000000 in
/-- A dash is ended. -/
theorem send (w0 w : World) (bx : Nat) (K : List (Nat × Int × Int)) (na : Option Addr) (nc : Nat) (ms : List Int) (s : Wk) (hb0 : w0.heap.size ≤ bx) (hol : s.out.length ≤ 100000) (hml : s.many + s.now.length ≤ 100000) (h : WhS bx w0 w K na nc ms s) :
    Calls Tryz.prog 68 #[.pointer (some ⟨bx, 0, none⟩)] w fun e w' => e = .returned (.tuple #[]) ∧ WhS bx w0 w' K na nc ms (endW s) := by
  obtain ⟨v, it, u, hd, ho, hw, hkb⟩ := h
  obtain ⟨k, left, now, out, many, begun⟩ := s
  simp only at hd ho hol hml
  have HOL : Hid (it.length ≤ 100000) := by show _ ≤ _; rw [← ho, List.length_map] at hol; exact hol
  have HO : Hid (it.map (·.2) = out) := ho
  obtain ⟨ua, uc, hu⟩ := D2.val hd.d
  subst hu
  obtain ⟨va, vc, hv⟩ := D2.vln hd.d
  subst hv
  have HD : Hid (WH bx w (.slice na ms.length nc) k left many begun (.slice va it.length vc) it (.slice ua now.length uc) now) := hd
  have HW : Hid (Nw w0 w) := hw
  have HKB : Hid (Kb bx w (.slice va it.length vc) it (.slice ua now.length uc) K) := hkb
  have HEW : Hid (endW ⟨k, left, now, out, many, begun⟩ = ⟨k, left, [], if 1 < now.length ∧ many + now.length ≤ 600 then out ++ [⟨now, false⟩] else out, if 1 < now.length then many + now.length else many, begun⟩) := rfl
  have n0 : Nw w w.drew := (Below.refl _ _).drew
  have DD : Hid _ := WH.nw hd n0
  clear hkb hd ho hw hol
  generalize hnp : now.length = np at *
  have HNP : Hid (now.length = np) := hnp
  generalize hnn : ms.length = n at *
  have HN : Hid (ms.length = n) := hnn
  generalize hni : it.length = ni at *
  have HNI : Hid (it.length = ni) := hni
  clear hnp hnn hni
  by_cases h1 : 1 < np
  · have d1 : decide ((1 : Int) < (np : Int)) = true := by simp; omega
    have w1 : IntKind.i64.wrap ((many : Int) + (np : Int)) = (many : Int) + (np : Int) := IntWalk.i64_in _ ⟨by omega, by omega⟩
    by_cases h6 : many + np ≤ 600
    · have d6 : decide ((many : Int) + (np : Int) ≤ 600) = true := by simp; omega
      have HE2 : Hid (endW ⟨k, left, now, out, many, begun⟩ = ⟨k, left, [], out ++ [⟨now, false⟩], many + np, begun⟩) := by
        show _ = _
        rw [HEW.out, if_pos ⟨h1, h6⟩, if_pos h1]
      clear HEW h6 hml n0
      go_enter Tryz.func68, Tryz.ntmps68
      go_wp2
      refine reg_change (ops' := opsOf 0 Tryz.f68) (by kernel_rfl) ?_
      refine EWB.run ⟨bx, ua, np, uc, many, true, w.drew, _⟩ ⟨DD.out.c3, DD.out.c5, d1, w1, d6, rfl, rfl⟩ w (Kp.refl _) ?_
      intro γ wa ka
      have D1 : Hid _ := WH.nw (WH.nw DD.out (Kp.nw ka)) ((Below.refl _ _).drew)
      have N1 : Hid (Nw w0 wa.drew) := Nw.trans (Nw.trans HW.out (undrew ka).nw) ((Below.refl _ _).drew)
      have KB1 : Hid (Kb bx wa.drew _ it _ K) := Kb.nw (Kb.nw HKB.out (undrew ka).nw) ((Below.refl _ _).drew)
      clear ka DD HKB HW HD
      simp only [Act.put, List.setIfInBounds_toArray, List.set_cons_zero, List.set_cons_succ]
      go_wp2
      refine reg_change (ops' := opsOf 1 Tryz.f68) (by kernel_rfl) ?_
      refine EW1.run ⟨bx, va, ni, vc, it, ua, np, uc, now, wa.drew, _⟩ ⟨D1.out.c4, D1.out.c3, D1.out.free, D1.out.d.ln.own, D1.out.nev, by have := HOL.out; show it.length + 1 ≤ 1000000; rw [HNI.out]; omega, rfl, rfl⟩ wa rfl ?_
      rintro γ w9 ⟨w2, g, cc, g1, o2, x2, hw9⟩
      simp only at g1 o2 x2 hw9
      generalize γ 0 = z0 at *
      generalize γ 1 = v' at *
      obtain ⟨p1, p2⟩ := WH.lput D1.out x2 o2
      rw [← hw9] at p1 p2
      have KB2 : Hid (Kb bx w9 v' (it ++ [(.slice ua np uc, ⟨now, false⟩)]) (.slice ua np uc) K) := by
        show Kb _ _ _ _ _ _
        rw [hw9]; exact Kb.set (Kb.lput KB1.out x2) 4 _
      have N2 : Hid (Nw w0 w9) := Below.trans N1.out (Below.mono p2 hb0)
      have P1 : Hid _ := p1
      have c3 := p1.c3
      clear o2 x2 hw9 p1 p2 D1 N1 KB1
      simp only [Act.put, List.setIfInBounds_toArray, List.set_cons_zero, List.set_cons_succ]
      go_wp2
      have P2 := WM.nw P1.out ((Below.refl _ _).drew : Nw w9 w9.drew)
      refine reg_change (ops' := opsOf 3 Tryz.f68) (by kernel_rfl) ?_
      refine EW3.run ⟨bx, ua, np, uc, many, w9.drew, _⟩ ⟨P2.c3, P2.c5, ⟨_, P2.c5⟩, P2.free, w1, rfl, rfl⟩ w9 rfl ?_
      rintro γ wb hwb
      have hwb2 : wb = w9.drew.setCell ⟨bx, 5, none⟩ (.int .i64 ((many : Int) + (np : Int))) := hwb
      obtain ⟨q1, q2⟩ := WM.setM P2 ((many : Int) + (np : Int))
      rw [← hwb2] at q1 q2
      obtain ⟨r1, r2⟩ := WM.drop q1
      have R1 : Hid _ := r1
      have N3 : Hid (Nw w0 (wb.setCell ⟨bx, 3, none⟩ (.slice none 0 0))) := Below.trans (Below.trans (Nw.trans N2.out ((Below.refl _ _).drew)) (Below.mono q2 hb0)) (Below.mono r2 hb0)
      have KB3 : Hid (Kb bx (wb.setCell ⟨bx, 3, none⟩ (.slice none 0 0)) v' (it ++ [(.slice ua np uc, ⟨now, false⟩)]) (.slice none 0 0) K) := by
        show Kb _ _ _ _ _ _
        rw [hwb2]; exact Kb.drop (Kb.set (Kb.set (Kb.nw KB2.out ((Below.refl _ _).drew)) 5 _) 3 _)
      have s3 := q1.c3
      have sf := q1.free
      clear P1 P2 c3 N2 KB2 q1 q2 r1 r2 hwb hwb2
      simp only [Act.put, List.setIfInBounds_toArray, List.set_cons_zero, List.set_cons_succ]
      go_wp2
      go_end0
      refine ⟨rfl, ?_⟩
      rw [HE2.out]
      exact WhS.of (by rw [HN.out]; exact R1.out) (by show _ = out ++ [⟨now, false⟩]; rw [← HO.out]; simp) N3.out rfl rfl (by show _ = (((many + np : Nat)) : Int); omega) rfl rfl KB3.out
    · have d6 : decide ((many : Int) + (np : Int) ≤ 600) = false := by simp; omega
      have HE2 : Hid (endW ⟨k, left, now, out, many, begun⟩ = ⟨k, left, [], out, many + np, begun⟩) := by
        show _ = _
        rw [HEW.out, if_neg (fun e => h6 e.2), if_pos h1]
      clear HEW h6 hml n0
      go_enter Tryz.func68, Tryz.ntmps68
      go_wp2
      refine reg_change (ops' := opsOf 0 Tryz.f68) (by kernel_rfl) ?_
      refine EWB.run ⟨bx, ua, np, uc, many, false, w.drew, _⟩ ⟨DD.out.c3, DD.out.c5, d1, w1, d6, rfl, rfl⟩ w (Kp.refl _) ?_
      intro γ wa ka
      have D1 := WH.nw DD.out (Kp.nw ka)
      have P1 : Hid _ := WH.nw D1 ((Below.refl _ _).drew : Nw wa wa.drew)
      have N1 : Hid (Nw w0 wa.drew) := Nw.trans (Nw.trans HW.out (undrew ka).nw) ((Below.refl _ _).drew)
      have KB1 : Hid (Kb bx wa.drew _ it _ K) := Kb.nw (Kb.nw HKB.out (undrew ka).nw) ((Below.refl _ _).drew)
      have c3 := D1.c3
      clear ka DD HKB HW HD D1
      simp only [Act.put, List.setIfInBounds_toArray, List.set_cons_zero, List.set_cons_succ]
      go_wp2
      refine reg_change (ops' := opsOf 3 Tryz.f68) (by kernel_rfl) ?_
      refine EW3.run ⟨bx, ua, np, uc, many, wa.drew, _⟩ ⟨P1.out.c3, P1.out.c5, ⟨_, P1.out.c5⟩, P1.out.free, w1, rfl, rfl⟩ wa rfl ?_
      rintro γ wb hwb
      have hwb2 : wb = wa.drew.setCell ⟨bx, 5, none⟩ (.int .i64 ((many : Int) + (np : Int))) := hwb
      obtain ⟨q1, q2⟩ := WM.setM P1.out.wm ((many : Int) + (np : Int))
      rw [← hwb2] at q1 q2
      obtain ⟨r1, r2⟩ := WM.drop q1
      have R1 : Hid _ := r1
      have N3 : Hid (Nw w0 (wb.setCell ⟨bx, 3, none⟩ (.slice none 0 0))) := Below.trans (Below.trans N1.out (Below.mono q2 hb0)) (Below.mono r2 hb0)
      have KB3 : Hid (Kb bx (wb.setCell ⟨bx, 3, none⟩ (.slice none 0 0)) (.slice va ni vc) it (.slice none 0 0) K) := by
        show Kb _ _ _ _ _ _
        rw [hwb2]; exact Kb.drop (Kb.set (Kb.set KB1.out 5 _) 3 _)
      have s3 := q1.c3
      have sf := q1.free
      clear P1 c3 N1 KB1 q1 q2 r1 r2 hwb hwb2
      simp only [Act.put, List.setIfInBounds_toArray, List.set_cons_zero, List.set_cons_succ]
      go_wp2
      go_end0
      refine ⟨rfl, ?_⟩
      rw [HE2.out]
      exact WhS.of (by rw [HN.out]; exact R1.out) HO.out N3.out rfl rfl (by show _ = (((many + np : Nat)) : Int); omega) rfl rfl KB3.out
  · have d1 : decide ((1 : Int) < (np : Int)) = false := by simp; omega
    have HE2 : Hid (endW ⟨k, left, now, out, many, begun⟩ = ⟨k, left, [], out, many, begun⟩) := by
      show _ = _
      rw [HEW.out, if_neg (fun e => h1 e.1), if_neg h1]
    clear HEW hml n0 h1
    go_enter Tryz.func68, Tryz.ntmps68
    go_wp2
    refine reg_change (ops' := opsOf 0 Tryz.f68) (by kernel_rfl) ?_
    refine EWA.run ⟨bx, ua, np, uc, many, w.drew, _⟩ ⟨DD.out.c3, d1, rfl, rfl⟩ w (Kp.refl _) ?_
    intro γ wa ka
    have D1 := WH.nw DD.out (Kp.nw ka)
    have N1 : Hid (Nw w0 wa) := Nw.trans HW.out (undrew ka).nw
    have KB1 : Hid (Kb bx wa _ it _ K) := Kb.nw HKB.out (undrew ka).nw
    obtain ⟨r1, r2⟩ := WM.drop D1.wm
    have R1 : Hid _ := r1
    have N3 : Hid (Nw w0 (wa.setCell ⟨bx, 3, none⟩ (.slice none 0 0))) := Below.trans N1.out (Below.mono r2 hb0)
    have KB3 : Hid (Kb bx (wa.setCell ⟨bx, 3, none⟩ (.slice none 0 0)) (.slice va ni vc) it (.slice none 0 0) K) := Kb.drop (Kb.set KB1.out 3 _)
    have c3 := D1.c3
    have sf := D1.free
    clear ka DD HKB HW HD D1 r1 r2
    simp only [Act.put, List.setIfInBounds_toArray, List.set_cons_zero, List.set_cons_succ]
    go_wp2
    go_end0
    refine ⟨rfl, ?_⟩
    rw [HE2.out]
    exact WhS.of (by rw [HN.out]; exact R1.out) HO.out N3.out rfl rfl rfl rfl rfl KB3.out
theorem mod2_int (k : Nat) : ((k : Int)).tmod 2 = ((k % 2 : Nat) : Int) := by
  rw [Int.tmod_eq_emod_of_nonneg (by omega)]; omega
theorem LayPt.last {w : World} {g n : Nat} {l : List Pnt} (h : LayPt w g l n) (hn : n = l.length) (h0 : 0 < n) : w.cell? ⟨g, (n - 1) * 2, none⟩ = some (.int .i64 (lastP l).1) ∧ w.cell? ⟨g, (n - 1) * 2 + 1, none⟩ = some (.int .i64 (lastP l).2) := by
  subst hn
  unfold lastP
  exact h.2.1 (l.length - 1) (by omega)
set_option maxRecDepth 100000 in
set_option maxHeartbeats 4000000 in
/-- A point is added, or not. -/
theorem sadd (w0 w : World) (bx : Nat) (K : List (Nat × Int × Int)) (na : Option Addr) (nc : Nat) (ms : List Int) (s : Wk) (x y : Int) (hb0 : w0.heap.size ≤ bx) (hpl : s.now.length ≤ 100000) (h : WhS bx w0 w K na nc ms s) :
    Calls Tryz.prog 87 #[.pointer (some ⟨bx, 0, none⟩), .agg #[.int .i64 x, .int .i64 y]] w fun e w' => e = .returned (.tuple #[]) ∧ WhS bx w0 w' K na nc ms (addW s (x, y)) := by
  obtain ⟨k, left, now, out, many, begun⟩ := s
  simp only at hpl
  have hbx := WhS.box h x y 34
  obtain ⟨bq, hbq⟩ : ∃ bq, w.heap.size = bq := ⟨_, rfl⟩
  obtain ⟨W2, hW2⟩ : ∃ W2, w.alloc (.cells #[.int .i64 x, .int .i64 y] 34) = W2 := ⟨_, rfl⟩
  rw [hbq, hW2] at hbx
  have H2 : Hid (WhS bx w0 W2.drew ((bq, x, y) :: K) na nc ms ⟨k, left, now, out, many, begun⟩) := WhS.nw hbx ((Below.refl _ _).drew)
  have HW2 : Hid (_ = W2) := hW2
  have HBQ : Hid (w.heap.size = bq) := hbq
  have hrm := mod2_int k
  clear h hbx hW2 hbq
  obtain ⟨q0, q1⟩ := WhS.at H2.out (b := bq) (x := x) (y := y) (by simp)
  obtain ⟨v, it, u, hd, ho, hw, hkb⟩ := H2.out
  simp only at hd ho
  have HO : Hid (it.map (·.2) = out) := ho
  obtain ⟨ua, uc, hu⟩ := D2.val hd.d
  subst hu
  have HD : Hid _ := hd
  have HW : Hid (Nw w0 W2.drew) := hw
  have HKB : Hid (Kb bx W2.drew v it (.slice ua now.length uc) ((bq, x, y) :: K)) := hkb
  have KS : Hid (∀ q, q ∈ K → q ∈ (bq, x, y) :: K) := fun q hq => List.mem_cons_of_mem _ hq
  clear hw hkb ho
  by_cases hk : k % 2 = 0
  · have hr : (((k % 2 : Nat) : Int) == 0) = true := by rw [hk]; rfl
    by_cases hn : now.length = 0
    · obtain rfl : now = [] := List.eq_nil_of_length_eq_zero hn
      have HA : Hid (addW ⟨k, left, [], out, many, begun⟩ (x, y) = ⟨k, left, [(x, y)], out, many, begun⟩) := by
        show _ = _
        unfold addW addB
        simp [hk]
      have c3 := hd.c3
      simp only [List.length_nil] at c3 hd HD HKB
      have c1 := hd.c1
      clear hn hk hd
      go_enter Tryz.func87, Tryz.ntmps87
      go_wp2
      rw [HW2.out, HBQ.out]
      refine reg_change (ops' := opsOf 1 Tryz.f87) (by kernel_rfl) ?_
      refine AWB.run ⟨bx, bq, x, y, k, ((k % 2 : Nat) : Int), ua, uc, W2.drew, _⟩ ⟨c1, c3, hrm, hr, rfl, rfl, rfl⟩ W2 (Kp.refl _) ?_
      intro γ wa ka
      have na2 : Nw W2.drew wa.drew := Nw.trans (Kp.nw ka) ((Below.refl _ _).drew)
      have D1 := WH.nw HD.out na2
      obtain ⟨y0, y1⟩ := WhS.at (WhS.nw H2.out na2) (b := bq) (x := x) (y := y) (by simp)
      have D1H : Hid _ := D1
      have N1 : Hid (Nw w0 wa.drew) := Nw.trans HW.out na2
      have KB1 : Hid (Kb bx wa.drew v it (.slice ua 0 uc) ((bq, x, y) :: K)) := Kb.nw HKB.out na2
      clear ka na2 c1 c3 q0 q1 D1
      simp only [Act.put, List.setIfInBounds_toArray, List.set_cons_zero, List.set_cons_succ]
      go_wp2
      refine reg_change (ops' := opsOf 2 Tryz.f87) (by kernel_rfl) ?_
      refine AW2.run ⟨bx, bq, x, y, ua, 0, uc, [], wa.drew, _⟩ ⟨D1H.out.c3, y0, y1, D1H.out.free, D1H.out.d.pt, D1H.out.neu, by simp, rfl, rfl, rfl⟩ wa rfl ?_
      rintro γ w9 ⟨w2, g2, cc2, g1, o2, x2, hw9⟩
      simp only at g1 o2 x2 hw9
      generalize γ 0 = z0 at *
      generalize γ 1 = u' at *
      obtain ⟨p1, p2⟩ := WH.pput D1H.out x2 o2
      rw [← hw9] at p1 p2
      have KB2 : Hid (Kb bx w9 v it u' K) := by
        show Kb _ _ _ _ _ _
        rw [hw9]; exact Kb.set (Kb.pput (Kb.sub KB1.out KS.out) x2) 3 _
      have N2 : Hid (Nw w0 w9) := Below.trans N1.out (Below.mono p2 hb0)
      have P1 : Hid _ := p1
      clear o2 x2 hw9 p1 p2 D1H N1 KB1 y0 y1
      simp only [Act.put, List.setIfInBounds_toArray, List.set_cons_zero, List.set_cons_succ]
      go_wp2
      go_end0
      refine ⟨rfl, ?_⟩
      rw [HA.out]
      exact WhS.of P1.out HO.out N2.out rfl rfl rfl rfl rfl KB2.out
    · by_cases hl : lastP now = (x, y)
      · have HA : Hid (addW ⟨k, left, now, out, many, begun⟩ (x, y) = ⟨k, left, now, out, many, begun⟩) := by
          show _ = _
          unfold addW addB
          simp [hn, hl]
        obtain ⟨g, cc, hu, hg, hlay⟩ : ∃ g c, Value.slice ua now.length uc = .slice (some ⟨g, 0, none⟩) now.length c ∧ bx + 1 ≤ g ∧ LayPt W2.drew g now now.length := by
          rcases OwnP.lay hd.d.pt with ⟨_, e⟩ | e
          · rw [e] at hn; simp at hn
          · exact e
        injection hu with hu1 hu2 hu3
        subst hu1
        obtain ⟨l0, l1⟩ := LayPt.last hlay rfl (by omega)
        rw [hl] at l0 l1
        have c1 := hd.c1
        have c3 := hd.c3
        have h0 : (((now.length : Nat) : Int) == 0) = false := by simp; intro e; exact hn (by simp [e])
        have wm : IntKind.i64.wrap ((now.length : Int) - 1) = ((now.length - 1 : Nat) : Int) := by rw [IntWalk.i64_in _ ⟨by omega, by omega⟩]; omega
        have hm : now.length - 1 < now.length := by omega
        clear hk hd hlay hl hg hu2 hu3 cc
        generalize hnp : now.length = np at *
        generalize np - 1 = m at *
        clear hnp
        go_enter Tryz.func87, Tryz.ntmps87
        go_wp2
        rw [HW2.out, HBQ.out]
        refine reg_change (ops' := opsOf 1 Tryz.f87) (by kernel_rfl) ?_
        refine AWC.run ⟨bx, bq, x, y, k, ((k % 2 : Nat) : Int), g, np, m, uc, W2.drew, _⟩ ⟨c1, c3, q0, q1, hrm, hr, h0, wm, hm, l0, l1, rfl, rfl, rfl⟩ W2 (Kp.refl _) ?_
        intro γ wa ka
        have E : Hid (WhS bx w0 wa K na nc ms ⟨k, left, now, out, many, begun⟩) := WhS.sub (WhS.nw H2.out (Kp.nw ka)) KS.out
        clear ka c1 c3 q0 q1 l0 l1
        simp only [Act.put, List.setIfInBounds_toArray, List.set_cons_zero, List.set_cons_succ]
        go_wp2
        go_end0
        exact ⟨rfl, by rw [HA.out]; exact E.out⟩
      · have HA : Hid (addW ⟨k, left, now, out, many, begun⟩ (x, y) = ⟨k, left, now ++ [(x, y)], out, many, begun⟩) := by
          show _ = _
          unfold addW addB
          simp [hk, hl]
        obtain ⟨g, cc, hu, hg, hlay⟩ : ∃ g c, Value.slice ua now.length uc = .slice (some ⟨g, 0, none⟩) now.length c ∧ bx + 1 ≤ g ∧ LayPt W2.drew g now now.length := by
          rcases OwnP.lay hd.d.pt with ⟨_, e⟩ | e
          · rw [e] at hn; simp at hn
          · exact e
        injection hu with hu1 hu2 hu3
        subst hu1
        obtain ⟨l0, l1⟩ := LayPt.last hlay rfl (by omega)
        have hv : (lastP now).1 = x → ¬ (lastP now).2 = y := fun e1 e2 => hl (Prod.ext e1 e2)
        have c1 := hd.c1
        have c3 := hd.c3
        have h0 : (((now.length : Nat) : Int) == 0) = false := by simp; intro e; exact hn (by simp [e])
        have wm : IntKind.i64.wrap ((now.length : Int) - 1) = ((now.length - 1 : Nat) : Int) := by rw [IntWalk.i64_in _ ⟨by omega, by omega⟩]; omega
        have hm : now.length - 1 < now.length := by omega
        clear hk hd hlay hl hg hu2 hu3 cc hn
        go_enter Tryz.func87, Tryz.ntmps87
        go_wp2
        rw [HW2.out, HBQ.out]
        refine reg_change (ops' := opsOf 1 Tryz.f87) (by kernel_rfl) ?_
        refine AWD.run ⟨bx, bq, x, y, k, ((k % 2 : Nat) : Int), g, now.length, now.length - 1, uc, (lastP now).1, (lastP now).2, W2.drew, _⟩ ⟨c1, c3, q0, q1, hrm, hr, h0, wm, hm, l0, l1, hv, rfl, rfl, rfl⟩ W2 (Kp.refl _) ?_
        intro γ wa ka
        have na2 : Nw W2.drew wa.drew := Nw.trans (Kp.nw ka) ((Below.refl _ _).drew)
        have D1 := WH.nw HD.out na2
        obtain ⟨y0, y1⟩ := WhS.at (WhS.nw H2.out na2) (b := bq) (x := x) (y := y) (by simp)
        have D1H : Hid _ := D1
        have N1 : Hid (Nw w0 wa.drew) := Nw.trans HW.out na2
        have KB1 : Hid (Kb bx wa.drew v it (.slice (some ⟨g, 0, none⟩) now.length uc) ((bq, x, y) :: K)) := Kb.nw HKB.out na2
        clear ka na2 c1 c3 q0 q1 D1
        simp only [Act.put, List.setIfInBounds_toArray, List.set_cons_zero, List.set_cons_succ]
        go_wp2
        refine reg_change (ops' := opsOf 2 Tryz.f87) (by kernel_rfl) ?_
        refine AW2.run ⟨bx, bq, x, y, (some ⟨g, 0, none⟩), now.length, uc, now, wa.drew, _⟩ ⟨D1H.out.c3, y0, y1, D1H.out.free, D1H.out.d.pt, D1H.out.neu, by show now.length + 1 ≤ 1000000; omega, rfl, rfl, rfl⟩ wa rfl ?_
        rintro γ w9 ⟨w2, g2, cc2, g1, o2, x2, hw9⟩
        simp only at g1 o2 x2 hw9
        generalize γ 0 = z0 at *
        generalize γ 1 = u' at *
        obtain ⟨p1, p2⟩ := WH.pput D1H.out x2 o2
        rw [← hw9] at p1 p2
        have KB2 : Hid (Kb bx w9 v it u' K) := by
          show Kb _ _ _ _ _ _
          rw [hw9]; exact Kb.set (Kb.pput (Kb.sub KB1.out KS.out) x2) 3 _
        have N2 : Hid (Nw w0 w9) := Below.trans N1.out (Below.mono p2 hb0)
        have P1 : Hid _ := p1
        clear o2 x2 hw9 p1 p2 D1H N1 KB1 y0 y1
        simp only [Act.put, List.setIfInBounds_toArray, List.set_cons_zero, List.set_cons_succ]
        go_wp2
        go_end0
        refine ⟨rfl, ?_⟩
        rw [HA.out]
        exact WhS.of P1.out HO.out N2.out rfl rfl rfl rfl rfl KB2.out
  · have hr : (((k % 2 : Nat) : Int) == 0) = false := by
      have : k % 2 = 1 := by omega
      rw [this]; rfl
    have HA : Hid (addW ⟨k, left, now, out, many, begun⟩ (x, y) = ⟨k, left, now, out, many, begun⟩) := by
      show _ = _
      unfold addW addB
      simp [hk]
    have c1 := hd.c1
    clear hk hd
    go_enter Tryz.func87, Tryz.ntmps87
    go_wp2
    rw [HW2.out, HBQ.out]
    refine reg_change (ops' := opsOf 1 Tryz.f87) (by kernel_rfl) ?_
    refine AWA.run ⟨bx, bq, x, y, k, ((k % 2 : Nat) : Int), W2.drew, _⟩ ⟨c1, hrm, hr, rfl, rfl, rfl⟩ W2 (Kp.refl _) ?_
    intro γ wa ka
    have E : Hid (WhS bx w0 wa K na nc ms ⟨k, left, now, out, many, begun⟩) := WhS.sub (WhS.nw H2.out (Kp.nw ka)) KS.out
    clear ka c1 q0 q1
    simp only [Act.put, List.setIfInBounds_toArray, List.set_cons_zero, List.set_cons_succ]
    go_wp2
    go_end0
    exact ⟨rfl, by rw [HA.out]; exact E.out⟩
end Go.Proofs.YtfdjjbgcaojcnaaGreat
namespace Go.Proofs.YtfdjjbgcaojcnaaGreat
open Go.ChangeShapes Go.WideShapes Go.ChangeAt Go.RowKit
set_option linter.unusedVariables false

set_option maxRecDepth 100000 in
set_option maxHeartbeats 8000000 in
/-- The next number that is not 0. -/
theorem snext (w0 w : World) (bx : Nat) (K : List (Nat × Int × Int)) (na : Option Addr) (nc : Nat) (ms : List Int) (s : Wk) (x y : Int) (c : Nat) (hb0 : w0.heap.size ≤ bx) (hI : Ints w0 na ms) (hms : ∀ i, i < ms.length → 0 ≤ intAt ms i ∧ intAt ms i ≤ 67108864) (hl : ms.length ≤ 16) (hc : c ≤ 10000) (hwb : WB ms c s) (h : WhS bx w0 w K na nc ms s) :
    Calls Tryz.prog 88 #[.pointer (some ⟨bx, 0, none⟩), .agg #[.int .i64 x, .int .i64 y]] w fun e w' => e = .returned (.tuple #[]) ∧ WhS bx w0 w' K na nc ms (goW ms (x, y) s) := by
  have hbx := WhS.box h x y 34
  obtain ⟨bq, hbq⟩ : ∃ bq, w.heap.size = bq := ⟨_, rfl⟩
  obtain ⟨W2, hW2⟩ : ∃ W2, w.alloc (.cells #[.int .i64 x, .int .i64 y] 34) = W2 := ⟨_, rfl⟩
  rw [hbq, hW2] at hbx
  have H2 : Hid (WhS bx w0 W2 ((bq, x, y) :: K) na nc ms s) := hbx
  have HW2 : Hid (_ = W2) := hW2
  have HBQ : Hid (w.heap.size = bq) := hbq
  have HMS : Hid _ := hms
  have HWB : Hid (WB ms c s) := hwb
  obtain ⟨R, hR⟩ : ∃ R, goW ms (x, y) s = R := ⟨_, rfl⟩
  rw [hR]
  have HR : Hid (nextW ms (x, y) (2401 - s.begun) s = R) := hR
  have hpos : 0 < ms.length := by have := hwb.hk; omega
  have KS : Hid (∀ q, q ∈ K → q ∈ (bq, x, y) :: K) := fun q hq => List.mem_cons_of_mem _ hq
  obtain ⟨nb, no, hna, hcx⟩ : ∃ nb no, na = some ⟨nb, no, none⟩ ∧ ∀ i, i < ms.length → w0.cell? ⟨nb, no + i, none⟩ = some (.int .i64 (intAt ms i)) := by
    rcases hI with hx | ⟨b, off, rfl, _, hc⟩
    · rw [hx] at hpos; simp at hpos
    · exact ⟨b, off, rfl, hc⟩
  subst hna
  have HCX : Hid _ := hcx
  clear h hbx hW2 hbq hms hwb hR hI hcx
  generalize hnn : ms.length = n at *
  have HN : Hid (ms.length = n) := hnn
  clear hnn
  go_enter Tryz.func88, Tryz.ntmps88
  go_wp2
  rw [HW2.out, HBQ.out]
  go_loopw [] (fun wr => ∃ s', WhS bx w0 wr ((bq, x, y) :: K) (some ⟨nb, no, none⟩) nc ms s' ∧ WB ms c s' ∧ nextW ms (x, y) (2401 - s'.begun) s' = R) (fun wr => 30000 - (intOf ((wr.cell? ⟨bx, 6, none⟩).getD undef)).toNat)
  case atStart => exact ⟨s, H2.out, HWB.out, HR.out⟩
  case round =>
    obtain ⟨⟨k, left, now, out, many, begun⟩, hd', hwb', hr'⟩ := hrel
    have HD : Hid (WhS bx w0 wr ((bq, x, y) :: K) (some ⟨nb, no, none⟩) nc ms ⟨k, left, now, out, many, begun⟩) := hd'
    have HB' : Hid (WB ms c ⟨k, left, now, out, many, begun⟩) := hwb'
    have HR' : Hid (nextW ms (x, y) (2401 - begun) ⟨k, left, now, out, many, begun⟩ = R) := hr'
    have hk : k < n := by have := hwb'.hk; rw [HN.out] at this; exact this
    have hbg : begun ≤ 2401 := hwb'.hb
    obtain ⟨v, it, u, dh, _, _, _⟩ := hd'
    have c1 := dh.c1
    have c2 := dh.c2
    have c6 := dh.c6
    have fr := dh.free
    simp only at c1 c2 c6
    have HC6 : Hid _ := c6
    clear hwb' hr' dh
    by_cases hz : left = 0
    · subst hz
      by_cases hb4 : begun ≤ 2400
      · have db : decide ((begun : Int) ≤ 2400) = true := by simp; omega
        have HSR : Hid (nextW ms (x, y) (2401 - (begun + 1)) (stepW ms (x, y) ⟨k, 0, now, out, many, begun⟩) = R) := by
          show _ = _
          rw [← HR'.out, show 2401 - begun = (2401 - (begun + 1)) + 1 by omega, nextW, if_pos ⟨rfl, hb4⟩]
        obtain ⟨m, hm⟩ : ∃ m, (k + 1) % n = m := ⟨_, rfl⟩
        have hmn : m < n := by rw [← hm]; exact Nat.mod_lt _ hpos
        have rm : (((k : Int)) + 1).tmod (n : Int) = (m : Int) := by
          rw [show ((k : Int) + 1) = ((k + 1 : Nat) : Int) by omega, Int.tmod_eq_emod_of_nonneg (by omega), ← hm]
          exact (Int.natCast_emod _ _).symm
        obtain ⟨L, hL⟩ : ∃ L, intAt ms m = L := ⟨_, rfl⟩
        have hLb := HMS.out m hmn
        rw [hL] at hLb
        have HCL : Hid (w0.cell? ⟨nb, no + m, none⟩ = some (.int .i64 L)) := by rw [← hL]; exact HCX.out m hmn
        have HST : Hid (stepW ms (x, y) ⟨k, 0, now, out, many, begun⟩ = ⟨m, L, if m % 2 = 0 ∧ 0 < L then [(x, y)] else (if k % 2 = 0 then endW ⟨k, 0, now, out, many, begun⟩ else ⟨k, 0, now, out, many, begun⟩).now, (if k % 2 = 0 then endW ⟨k, 0, now, out, many, begun⟩ else ⟨k, 0, now, out, many, begun⟩).out, (if k % 2 = 0 then endW ⟨k, 0, now, out, many, begun⟩ else ⟨k, 0, now, out, many, begun⟩).many, begun + 1⟩) := by
          show _ = _
          unfold stepW
          simp only [HN.out, hm, hL]
        have HWS : Hid (WB ms c (stepW ms (x, y) ⟨k, 0, now, out, many, begun⟩)) := WB.step HB'.out.more (by rw [HN.out]; exact HMS.out) (x, y) hb4
        have w1 : IntKind.i64.wrap ((k : Int) + 1) = (k : Int) + 1 := IntWalk.i64_in _ ⟨by omega, by omega⟩
        clear hm hL HR'
        by_cases hk2 : k % 2 = 0
        · have hkt : ((k : Int) % 2 == 0) = true := by
            have : (k : Int) % 2 = 0 := by omega
            rw [this]; rfl
          have HEND : Hid _ := send w0 wr bx ((bq, x, y) :: K) (some ⟨nb, no, none⟩) nc ms ⟨k, 0, now, out, many, begun⟩ hb0 (by have := HB'.out.ho; have : out.length ≤ begun := this; show out.length ≤ _; omega) (by have := HB'.out.hm; have : many + now.length ≤ 2 * begun + c := this; show many + now.length ≤ _; omega) HD.out
          rw [if_pos hk2] at HST
          clear hk2
          go_wp2_with fail
          refine Calls.mono HEND.out ?_
          rintro e w4 ⟨rfl, h4⟩
          have E4 : Hid (WhS bx w0 w4 ((bq, x, y) :: K) (some ⟨nb, no, none⟩) nc ms (endW ⟨k, 0, now, out, many, begun⟩)) := h4
          obtain ⟨e1, e2, e3, _, _, _⟩ := end_is ⟨k, 0, now, out, many, begun⟩
          have HEQ : Hid (endW ⟨k, 0, now, out, many, begun⟩ = ⟨k, 0, (endW ⟨k, 0, now, out, many, begun⟩).now, (endW ⟨k, 0, now, out, many, begun⟩).out, (endW ⟨k, 0, now, out, many, begun⟩).many, begun⟩) := rfl
          generalize hN4 : (endW ⟨k, 0, now, out, many, begun⟩).now = now4 at *
          generalize hO4 : (endW ⟨k, 0, now, out, many, begun⟩).out = out4 at *
          generalize hM4 : (endW ⟨k, 0, now, out, many, begun⟩).many = many4 at *
          rw [HEQ.out] at E4
          clear h4 HEND HD e1 e2 e3 c1 c2 c6 fr HEQ hN4 hO4 hM4
          obtain ⟨v4, it4, u4, hd4, ho4, hw4, hkb4⟩ := E4.out
          simp only at hd4 ho4
          have HO4 : Hid (it4.map (·.2) = out4) := ho4
          obtain ⟨s1, s2⟩ := hd4.setB ((begun : Int) + 1)
          have d6 := hd4.c6
          have f4 := hd4.free
          obtain ⟨W5, hW5⟩ : ∃ W5, w4.setCell ⟨bx, 6, none⟩ (.int .i64 ((begun : Int) + 1)) = W5 := ⟨_, rfl⟩
          rw [hW5] at s1 s2
          have HW5 : Hid (_ = W5) := hW5
          have n5 : Nw W5 W5.drew := (Below.refl _ _).drew
          have S5 : Hid _ := WH.nw s1 n5
          have N5 : Hid (Nw w0 W5.drew) := Nw.trans (Below.trans hw4 (Below.mono s2 hb0)) n5
          have KB5 : Hid (Kb bx W5.drew v4 it4 u4 ((bq, x, y) :: K)) := by
            have := Kb.set hkb4 6 (.int .i64 ((begun : Int) + 1))
            rw [hW5] at this
            exact Kb.nw this n5
          clear hd4 ho4 hw4 hkb4 s1 s2 hW5 n5
          go_wp2
          rw [HW5.out]
          refine reg_change (ops' := opsOf 5 Tryz.f88) (by kernel_rfl) ?_
          refine NW5.run ⟨bx, nb, no, n, nc, k, m, W5.drew, _⟩ ⟨by have := S5.out.c0; rw [HN.out] at this; exact this, S5.out.c1, w1, rm, by show n ≠ 0; omega, ⟨_, S5.out.c1⟩, S5.out.free, rfl, rfl⟩ W5 rfl ?_
          rintro γ w6 hw6
          have hw6' : w6 = W5.drew.setCell ⟨bx, 1, none⟩ (.int .i64 (m : Int)) := hw6
          obtain ⟨t1, t2⟩ := WH.setK S5.out (m : Int)
          rw [← hw6'] at t1 t2
          have n6 : Nw w6 w6.drew := (Below.refl _ _).drew
          have S6 : Hid _ := WH.nw t1 n6
          have N6 : Hid (Nw w0 w6.drew) := Nw.trans (Below.trans N5.out (Below.mono t2 hb0)) n6
          have KB6 : Hid (Kb bx w6.drew v4 it4 u4 ((bq, x, y) :: K)) := by
            have := Kb.set KB5.out 1 (.int .i64 (m : Int))
            rw [← hw6'] at this
            exact Kb.nw this n6
          have CX6 : Hid (w6.drew.cell? ⟨nb, no + m, none⟩ = some (.int .i64 L)) := ((bcell N6.out).1 _ _ (World.block_lt_of_cell? w0 ⟨nb, no + m, none⟩ HCL.out)).trans HCL.out
          clear d6 f4 HW5 S5 N5 KB5 hw6 hw6' t1 t2 n6
          simp only [Act.put, List.setIfInBounds_toArray, List.set_cons_zero, List.set_cons_succ]
          go_wp2
          refine reg_change (ops' := opsOf 6 Tryz.f88) (by kernel_rfl) ?_
          refine NW6.run ⟨bx, nb, no, n, nc, m, L, w6.drew, _⟩ ⟨by have := S6.out.c0; rw [HN.out] at this; exact this, S6.out.c1, hmn, CX6.out, ⟨_, S6.out.c2⟩, S6.out.free, rfl, rfl⟩ w6 rfl ?_
          rintro γ w7 hw7
          have hw7' : w7 = w6.drew.setCell ⟨bx, 2, none⟩ (.int .i64 L) := hw7
          obtain ⟨t1, t2⟩ := WH.setL S6.out L
          rw [← hw7'] at t1 t2
          have S7 : Hid _ := t1
          have N7 : Hid (Nw w0 w7) := Below.trans N6.out (Below.mono t2 hb0)
          have KB7 : Hid (Kb bx w7 v4 it4 u4 ((bq, x, y) :: K)) := by
            show Kb _ _ _ _ _ _
            rw [hw7']
            exact Kb.set KB6.out 2 (.int .i64 L)
          have f1 := t1.c1
          have f2 := t1.c2
          have f3 := t1.c3
          have ff := t1.free
          obtain ⟨q0, q1, _⟩ := KB7.out (bq, x, y) (by simp)
          simp only at q0 q1
          clear S6 N6 KB6 CX6 hw7 hw7' t1 t2
          simp only [Act.put, List.setIfInBounds_toArray, List.set_cons_zero, List.set_cons_succ]
          by_cases hm2 : m % 2 = 0
          · have hmq : (m : Int) % 2 = 0 := by omega
            have hmt : ((m : Int) % 2 == 0) = true := by rw [hmq]; rfl
            by_cases hL0 : 0 < L
            · have dL : decide (0 < L) = true := decide_eq_true hL0
              rw [if_pos ⟨hm2, hL0⟩] at HST
              rw [HST.out] at HWS HSR
              clear hm2 hL0
              obtain ⟨p1, p2⟩ := WH.fresh S7.out x y
              have P1 : Hid _ := p1
              have NP : Hid _ := Below.trans N7.out (Below.mono p2 hb0)
              have KP : Hid _ := Kb.fresh KB7.out x y 34
              have c6' : Hid _ := p1.c6
              have S8 := WH.nw S7.out ((Below.refl _ _).alloc (Nat.le_refl _) _ : Nw w7 (w7.alloc (.cells #[.int .i64 x, .int .i64 y] 34)))
              have g3 := S8.c3
              have gf := S8.free
              clear p1 p2 S8 f3 ff
              go_wp2
              go_roundw
              case rel => exact ⟨⟨m, L, _, out4, many4, begun + 1⟩, WhS.of P1.out HO4.out NP.out rfl rfl rfl (by show (begun : Int) + 1 = ((begun + 1 : Nat) : Int); omega) rfl KP.out, HWS.out, HSR.out⟩
              case measure => rw [c6'.out, HC6.out]; simp [intOf]; omega
            · have dL : decide (0 < L) = false := decide_eq_false hL0
              rw [if_neg (fun e => hL0 e.2)] at HST
              rw [HST.out] at HWS HSR
              clear hm2 hL0
              have c6' : Hid _ := S7.out.c6
              go_wp2
              go_roundw
              case rel => exact ⟨⟨m, L, _, out4, many4, begun + 1⟩, WhS.of S7.out HO4.out N7.out rfl rfl rfl (by show (begun : Int) + 1 = ((begun + 1 : Nat) : Int); omega) rfl KB7.out, HWS.out, HSR.out⟩
              case measure => rw [c6'.out, HC6.out]; simp [intOf]; omega
          · have hmq : ¬ (m : Int) % 2 = 0 := by omega
            have hmt : ((m : Int) % 2 == 0) = false := by
              have : (m : Int) % 2 = 1 := by omega
              rw [this]; rfl
            rw [if_neg (fun e => hm2 e.1)] at HST
            rw [HST.out] at HWS HSR
            clear hm2
            have c6' : Hid _ := S7.out.c6
            go_wp2
            go_roundw
            case rel => exact ⟨⟨m, L, _, out4, many4, begun + 1⟩, WhS.of S7.out HO4.out N7.out rfl rfl rfl (by show (begun : Int) + 1 = ((begun + 1 : Nat) : Int); omega) rfl KB7.out, HWS.out, HSR.out⟩
            case measure => rw [c6'.out, HC6.out]; simp [intOf]; omega
        · have hkt : ((k : Int) % 2 == 0) = false := by
            have : (k : Int) % 2 = 1 := by omega
            rw [this]; rfl
          rw [if_neg hk2] at HST
          simp only at HST
          clear hk2
          have E4 : Hid _ := HD.out
          generalize hw4 : wr = w4 at *
          generalize hN4 : now = now4 at *
          generalize hO4 : out = out4 at *
          generalize hM4 : many = many4 at *
          clear HD
          obtain ⟨v4, it4, u4, hd4, ho4, hw4, hkb4⟩ := E4.out
          simp only at hd4 ho4
          have HO4 : Hid (it4.map (·.2) = out4) := ho4
          obtain ⟨s1, s2⟩ := hd4.setB ((begun : Int) + 1)
          have d6 := hd4.c6
          have f4 := hd4.free
          obtain ⟨W5, hW5⟩ : ∃ W5, w4.setCell ⟨bx, 6, none⟩ (.int .i64 ((begun : Int) + 1)) = W5 := ⟨_, rfl⟩
          rw [hW5] at s1 s2
          have HW5 : Hid (_ = W5) := hW5
          have n5 : Nw W5 W5.drew := (Below.refl _ _).drew
          have S5 : Hid _ := WH.nw s1 n5
          have N5 : Hid (Nw w0 W5.drew) := Nw.trans (Below.trans hw4 (Below.mono s2 hb0)) n5
          have KB5 : Hid (Kb bx W5.drew v4 it4 u4 ((bq, x, y) :: K)) := by
            have := Kb.set hkb4 6 (.int .i64 ((begun : Int) + 1))
            rw [hW5] at this
            exact Kb.nw this n5
          clear hd4 ho4 hw4 hkb4 s1 s2 hW5 n5
          go_wp2
          rw [HW5.out]
          refine reg_change (ops' := opsOf 5 Tryz.f88) (by kernel_rfl) ?_
          refine NW5.run ⟨bx, nb, no, n, nc, k, m, W5.drew, _⟩ ⟨by have := S5.out.c0; rw [HN.out] at this; exact this, S5.out.c1, w1, rm, by show n ≠ 0; omega, ⟨_, S5.out.c1⟩, S5.out.free, rfl, rfl⟩ W5 rfl ?_
          rintro γ w6 hw6
          have hw6' : w6 = W5.drew.setCell ⟨bx, 1, none⟩ (.int .i64 (m : Int)) := hw6
          obtain ⟨t1, t2⟩ := WH.setK S5.out (m : Int)
          rw [← hw6'] at t1 t2
          have n6 : Nw w6 w6.drew := (Below.refl _ _).drew
          have S6 : Hid _ := WH.nw t1 n6
          have N6 : Hid (Nw w0 w6.drew) := Nw.trans (Below.trans N5.out (Below.mono t2 hb0)) n6
          have KB6 : Hid (Kb bx w6.drew v4 it4 u4 ((bq, x, y) :: K)) := by
            have := Kb.set KB5.out 1 (.int .i64 (m : Int))
            rw [← hw6'] at this
            exact Kb.nw this n6
          have CX6 : Hid (w6.drew.cell? ⟨nb, no + m, none⟩ = some (.int .i64 L)) := ((bcell N6.out).1 _ _ (World.block_lt_of_cell? w0 ⟨nb, no + m, none⟩ HCL.out)).trans HCL.out
          clear d6 f4 HW5 S5 N5 KB5 hw6 hw6' t1 t2 n6
          simp only [Act.put, List.setIfInBounds_toArray, List.set_cons_zero, List.set_cons_succ]
          go_wp2
          refine reg_change (ops' := opsOf 6 Tryz.f88) (by kernel_rfl) ?_
          refine NW6.run ⟨bx, nb, no, n, nc, m, L, w6.drew, _⟩ ⟨by have := S6.out.c0; rw [HN.out] at this; exact this, S6.out.c1, hmn, CX6.out, ⟨_, S6.out.c2⟩, S6.out.free, rfl, rfl⟩ w6 rfl ?_
          rintro γ w7 hw7
          have hw7' : w7 = w6.drew.setCell ⟨bx, 2, none⟩ (.int .i64 L) := hw7
          obtain ⟨t1, t2⟩ := WH.setL S6.out L
          rw [← hw7'] at t1 t2
          have S7 : Hid _ := t1
          have N7 : Hid (Nw w0 w7) := Below.trans N6.out (Below.mono t2 hb0)
          have KB7 : Hid (Kb bx w7 v4 it4 u4 ((bq, x, y) :: K)) := by
            show Kb _ _ _ _ _ _
            rw [hw7']
            exact Kb.set KB6.out 2 (.int .i64 L)
          have f1 := t1.c1
          have f2 := t1.c2
          have f3 := t1.c3
          have ff := t1.free
          obtain ⟨q0, q1, _⟩ := KB7.out (bq, x, y) (by simp)
          simp only at q0 q1
          clear S6 N6 KB6 CX6 hw7 hw7' t1 t2
          simp only [Act.put, List.setIfInBounds_toArray, List.set_cons_zero, List.set_cons_succ]
          by_cases hm2 : m % 2 = 0
          · have hmq : (m : Int) % 2 = 0 := by omega
            have hmt : ((m : Int) % 2 == 0) = true := by rw [hmq]; rfl
            by_cases hL0 : 0 < L
            · have dL : decide (0 < L) = true := decide_eq_true hL0
              rw [if_pos ⟨hm2, hL0⟩] at HST
              rw [HST.out] at HWS HSR
              clear hm2 hL0
              obtain ⟨p1, p2⟩ := WH.fresh S7.out x y
              have P1 : Hid _ := p1
              have NP : Hid _ := Below.trans N7.out (Below.mono p2 hb0)
              have KP : Hid _ := Kb.fresh KB7.out x y 34
              have c6' : Hid _ := p1.c6
              have S8 := WH.nw S7.out ((Below.refl _ _).alloc (Nat.le_refl _) _ : Nw w7 (w7.alloc (.cells #[.int .i64 x, .int .i64 y] 34)))
              have g3 := S8.c3
              have gf := S8.free
              clear p1 p2 S8 f3 ff
              go_wp2
              go_roundw
              case rel => exact ⟨⟨m, L, _, out4, many4, begun + 1⟩, WhS.of P1.out HO4.out NP.out rfl rfl rfl (by show (begun : Int) + 1 = ((begun + 1 : Nat) : Int); omega) rfl KP.out, HWS.out, HSR.out⟩
              case measure => rw [c6'.out, HC6.out]; simp [intOf]; omega
            · have dL : decide (0 < L) = false := decide_eq_false hL0
              rw [if_neg (fun e => hL0 e.2)] at HST
              rw [HST.out] at HWS HSR
              clear hm2 hL0
              have c6' : Hid _ := S7.out.c6
              go_wp2
              go_roundw
              case rel => exact ⟨⟨m, L, _, out4, many4, begun + 1⟩, WhS.of S7.out HO4.out N7.out rfl rfl rfl (by show (begun : Int) + 1 = ((begun + 1 : Nat) : Int); omega) rfl KB7.out, HWS.out, HSR.out⟩
              case measure => rw [c6'.out, HC6.out]; simp [intOf]; omega
          · have hmq : ¬ (m : Int) % 2 = 0 := by omega
            have hmt : ((m : Int) % 2 == 0) = false := by
              have : (m : Int) % 2 = 1 := by omega
              rw [this]; rfl
            rw [if_neg (fun e => hm2 e.1)] at HST
            rw [HST.out] at HWS HSR
            clear hm2
            have c6' : Hid _ := S7.out.c6
            go_wp2
            go_roundw
            case rel => exact ⟨⟨m, L, _, out4, many4, begun + 1⟩, WhS.of S7.out HO4.out N7.out rfl rfl rfl (by show (begun : Int) + 1 = ((begun + 1 : Nat) : Int); omega) rfl KB7.out, HWS.out, HSR.out⟩
            case measure => rw [c6'.out, HC6.out]; simp [intOf]; omega
      · have db : decide ((begun : Int) ≤ 2400) = false := by simp; omega
        have HRE : Hid (R = ⟨k, 0, now, out, many, begun⟩) := by
          show _ = _
          rw [← HR'.out, show 2401 - begun = 0 by omega]; rfl
        clear hb4
        go_wp2
        go_end0
        exact ⟨rfl, by rw [HRE.out]; exact WhS.sub HD.out KS.out⟩
    · have dz : (left == 0) = false := by simp; exact hz
      have HRE : Hid (R = ⟨k, left, now, out, many, begun⟩) := by
        show _ = _
        rw [← HR'.out]
        cases 2401 - begun with
        | zero => rfl
        | succ f => rw [nextW, if_neg (fun e => hz e.1)]
      clear hz
      go_wp2
      go_end0
      exact ⟨rfl, by rw [HRE.out]; exact WhS.sub HD.out KS.out⟩
end Go.Proofs.YtfdjjbgcaojcnaaGreat
