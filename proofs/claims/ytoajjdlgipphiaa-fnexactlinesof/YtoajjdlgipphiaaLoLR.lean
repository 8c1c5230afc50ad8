/-
  The statements of the reference's l9Lines that draw their order, whatever order comes up; each theorem names its conditions.
-/
import Derived.Test.YtoajjdlgipphiaaLnB
import Derived.Test.YtoajjdlgipphiaaLoR
namespace Go.Proofs.Ytoajjdlgipphiaa
open Go.ChangeShapes Go.WideShapes Go.ChangeAt Go.RowKit
set_option linter.unusedVariables false

structure LR1 where
  bx : Nat
  sb : Nat
  g : Nat
  uc : Nat
  nb : Nat
  no : Nat
  nc : Nat
  x : Int
  y : Int
  W : World
  a0 : Act
structure LR1Ok (X : LR1) : Prop where
  cu : X.W.cell? ⟨X.bx, 0, none⟩ = some (.slice (some ⟨X.g, 0, none⟩) 1 X.uc)
  cs : X.W.cell? ⟨X.sb, 1, none⟩ = some (.slice (some ⟨X.nb, X.no, none⟩) 2 X.nc)
  cx : X.W.cell? ⟨X.nb, X.no, none⟩ = some (.int .i64 X.x)
  cy : X.W.cell? ⟨X.nb, X.no + 1, none⟩ = some (.int .i64 X.y)
  f0 : ∃ z, X.W.cell? ⟨X.g, 0, none⟩ = some (.int .i64 z)
  f1 : ∃ z, X.W.cell? ⟨X.g, 1, none⟩ = some (.int .i64 z)
  ff : ∀ o, X.W.frozen? ⟨X.g, o, none⟩ = false
  e4 : X.a0.eval (.tmp 4) = .pointer (some ⟨X.bx, 0, none⟩)
  e6 : X.a0.eval (.tmp 6) = .pointer (some ⟨X.sb, 0, none⟩)
  sz : X.a0.tmps.size = 137
def LR1.val0 (X : LR1) : Nat → Value
  | 49 => .pointer (some ⟨X.bx, 0, none⟩)
  | 50 => .slice (some ⟨X.g, 0, none⟩) 1 X.uc
  | 51 => .pointer (some ⟨X.sb, 1, none⟩)
  | 52 => .slice (some ⟨X.nb, X.no, none⟩) 2 X.nc
  | 53 => .pointer (some ⟨X.nb, X.no, none⟩)
  | 54 => .int .i64 X.x
  | 55 => .pointer (some ⟨X.sb, 1, none⟩)
  | 56 => .slice (some ⟨X.nb, X.no, none⟩) 2 X.nc
  | 57 => .pointer (some ⟨X.nb, X.no + 1, none⟩)
  | 58 => .int .i64 X.y
  | 59 => .agg #[.int .i64 X.x, .int .i64 X.y]
  | 60 => .pointer (some ⟨X.g, 0, none⟩)
  | _ => undef
def LR1.av : Nat → Option Nat
  | _ => none
def LR1.acts : List Nat := [12]
/-- The world, by how many of the acting ones have come up. -/
def LR1.Wd (X : LR1) : Nat → (Nat → Value) → World → Prop
  | 0, _, w => w = X.W
  | _, _, w => w = (X.W.setCell ⟨X.g, 0, none⟩ (.int .i64 X.x)).setCell ⟨X.g, 1, none⟩ (.int .i64 X.y)
theorem LR1.chain : chainG (opsOf 16 Try.f44) LR1.acts = true := by kernel_rfl
theorem LR1.nodup : LR1.acts.Nodup := by decide
theorem LR1.inj {listed : Array Bool} {i k : Nat} (h : (List.range (opsOf 16 Try.f44).size).all (fun j => decide (j = i) || !(match dstOf (opsOf 16 Try.f44) j with | some d => decide (LR1.av d = some k) | none => false)) = true) (hu : listed.getD i false = false) : ∀ d, got (opsOf 16 Try.f44) listed d → LR1.av d ≠ some k := by
  rintro d ⟨j, h1, h2⟩ h3
  have hlt : j < (opsOf 16 Try.f44).size := by
    rcases Nat.lt_or_ge j (opsOf 16 Try.f44).size with h4 | h4
    · exact h4
    · unfold dstOf at h2; rw [Array.getElem?_eq_none h4] at h2; cases h2
  have h5 := List.all_eq_true.1 h j (List.mem_range.2 hlt)
  rw [h2] at h5
  simp only [h3, decide_true, Bool.not_true, Bool.or_false, decide_eq_true_eq] at h5
  subst h5
  rw [hu] at h1
  cases h1
theorem LR1.s0 (X : LR1) (ok : LR1Ok X) {Q : Exit → Act → World → Prop} : StepG (opsOf 16 Try.f44) LR1.acts LR1.av X.val0 X.Wd X.a0 Q 0 := by
  intro γ listed a w o hF hC hW h1 ho h2
  obtain ⟨hd, hop, hg⟩ := fields2 (x := some 49) (y := Op.fieldAddr 32 (.tmp 4) 0) (z := none) (by kernel_rfl) ho
  have e4 : a.eval (.tmp 4) = .pointer (some ⟨X.bx, 0, none⟩) := (hF.eval0 (by kernel_rfl)).trans ok.e4
  refine st_pureG hF hC hW ho h2 (by decide) hd hg rfl ?_
  show _ = Result.ok (Next.value (.pointer (some ⟨X.bx, 0, none⟩))) w
  generalize a.eval = ρ at e4 ⊢
  unfold execOp
  rw [hop]
  simp [e4, go_sem]
theorem LR1.s1 (X : LR1) (ok : LR1Ok X) {Q : Exit → Act → World → Prop} : StepG (opsOf 16 Try.f44) LR1.acts LR1.av X.val0 X.Wd X.a0 Q 1 := by
  intro γ listed a w o hF hC hW h1 ho h2
  obtain ⟨hd, hop, hg⟩ := fields2 (x := some 50) (y := Op.load 30 (.tmp 49)) (z := none) (by kernel_rfl) ho
  have e49 : a.eval (.tmp 49) = .pointer (some ⟨X.bx, 0, none⟩) := slotG hF ho h2 (j := 0) (d := 49) (by kernel_rfl) (by kernel_rfl) (by rw [ok.sz]; decide)
  have hph := phase_leG (acts := LR1.acts) (m := 0) (x := 12) hC (unl (hF.lt ho) h1) rfl [11, 1] (by kernel_rfl) (by decide)
  have hWW := hW
  generalize phase listed LR1.acts = n at hph hWW
  obtain rfl : n = 0 := by omega
  have hk : w = X.W := hWW
  have hc0 := ok.cu
  rw [← hk] at hc0
  refine st_pureG hF hC hW ho h2 (by decide) hd hg rfl ?_
  show _ = Result.ok (Next.value (.slice (some ⟨X.g, 0, none⟩) 1 X.uc)) w
  generalize a.eval = ρ at e49 ⊢
  unfold execOp
  rw [hop]
  simp [e49, hc0, go_sem]
theorem LR1.s2 (X : LR1) (ok : LR1Ok X) {Q : Exit → Act → World → Prop} : StepG (opsOf 16 Try.f44) LR1.acts LR1.av X.val0 X.Wd X.a0 Q 2 := by
  intro γ listed a w o hF hC hW h1 ho h2
  obtain ⟨hd, hop, hg⟩ := fields2 (x := some 51) (y := Op.fieldAddr 76 (.tmp 6) 1) (z := none) (by kernel_rfl) ho
  have e6 : a.eval (.tmp 6) = .pointer (some ⟨X.sb, 0, none⟩) := (hF.eval0 (by kernel_rfl)).trans ok.e6
  refine st_pureG hF hC hW ho h2 (by decide) hd hg rfl ?_
  show _ = Result.ok (Next.value (.pointer (some ⟨X.sb, 1, none⟩))) w
  generalize a.eval = ρ at e6 ⊢
  unfold execOp
  rw [hop]
  simp [e6, go_sem]
theorem LR1.s3 (X : LR1) (ok : LR1Ok X) {Q : Exit → Act → World → Prop} : StepG (opsOf 16 Try.f44) LR1.acts LR1.av X.val0 X.Wd X.a0 Q 3 := by
  intro γ listed a w o hF hC hW h1 ho h2
  obtain ⟨hd, hop, hg⟩ := fields2 (x := some 52) (y := Op.load 25 (.tmp 51)) (z := none) (by kernel_rfl) ho
  have e51 : a.eval (.tmp 51) = .pointer (some ⟨X.sb, 1, none⟩) := slotG hF ho h2 (j := 2) (d := 51) (by kernel_rfl) (by kernel_rfl) (by rw [ok.sz]; decide)
  have hph := phase_leG (acts := LR1.acts) (m := 0) (x := 12) hC (unl (hF.lt ho) h1) rfl [10, 5, 4, 3] (by kernel_rfl) (by decide)
  have hWW := hW
  generalize phase listed LR1.acts = n at hph hWW
  obtain rfl : n = 0 := by omega
  have hk : w = X.W := hWW
  have hc0 := ok.cs
  rw [← hk] at hc0
  refine st_pureG hF hC hW ho h2 (by decide) hd hg rfl ?_
  show _ = Result.ok (Next.value (.slice (some ⟨X.nb, X.no, none⟩) 2 X.nc)) w
  generalize a.eval = ρ at e51 ⊢
  unfold execOp
  rw [hop]
  simp [e51, hc0, go_sem]
theorem LR1.s4 (X : LR1) (ok : LR1Ok X) {Q : Exit → Act → World → Prop} : StepG (opsOf 16 Try.f44) LR1.acts LR1.av X.val0 X.Wd X.a0 Q 4 := by
  intro γ listed a w o hF hC hW h1 ho h2
  obtain ⟨hd, hop, hg⟩ := fields2 (x := some 53) (y := Op.indexAddr 25 (.tmp 52) (.const (.int .i64 0))) (z := none) (by kernel_rfl) ho
  have e52 : a.eval (.tmp 52) = .slice (some ⟨X.nb, X.no, none⟩) 2 X.nc := slotG hF ho h2 (j := 3) (d := 52) (by kernel_rfl) (by kernel_rfl) (by rw [ok.sz]; decide)
  have ec1 : a.eval (.const (.int .i64 0)) = .int .i64 0 := rfl
  refine st_pureG hF hC hW ho h2 (by decide) hd hg rfl ?_
  show _ = Result.ok (Next.value (.pointer (some ⟨X.nb, X.no, none⟩))) w
  generalize a.eval = ρ at e52 ec1 ⊢
  unfold execOp
  rw [hop]
  simp [e52, ec1, go_sem]
theorem LR1.s5 (X : LR1) (ok : LR1Ok X) {Q : Exit → Act → World → Prop} : StepG (opsOf 16 Try.f44) LR1.acts LR1.av X.val0 X.Wd X.a0 Q 5 := by
  intro γ listed a w o hF hC hW h1 ho h2
  obtain ⟨hd, hop, hg⟩ := fields2 (x := some 54) (y := Op.load 3 (.tmp 53)) (z := none) (by kernel_rfl) ho
  have e53 : a.eval (.tmp 53) = .pointer (some ⟨X.nb, X.no, none⟩) := slotG hF ho h2 (j := 4) (d := 53) (by kernel_rfl) (by kernel_rfl) (by rw [ok.sz]; decide)
  have hph := phase_leG (acts := LR1.acts) (m := 0) (x := 12) hC (unl (hF.lt ho) h1) rfl [10, 5] (by kernel_rfl) (by decide)
  have hWW := hW
  generalize phase listed LR1.acts = n at hph hWW
  obtain rfl : n = 0 := by omega
  have hk : w = X.W := hWW
  have hc0 := ok.cx
  rw [← hk] at hc0
  refine st_pureG hF hC hW ho h2 (by decide) hd hg rfl ?_
  show _ = Result.ok (Next.value (.int .i64 X.x)) w
  generalize a.eval = ρ at e53 ⊢
  unfold execOp
  rw [hop]
  simp [e53, hc0, go_sem]
theorem LR1.s6 (X : LR1) (ok : LR1Ok X) {Q : Exit → Act → World → Prop} : StepG (opsOf 16 Try.f44) LR1.acts LR1.av X.val0 X.Wd X.a0 Q 6 := by
  intro γ listed a w o hF hC hW h1 ho h2
  obtain ⟨hd, hop, hg⟩ := fields2 (x := some 55) (y := Op.fieldAddr 76 (.tmp 6) 1) (z := none) (by kernel_rfl) ho
  have e6 : a.eval (.tmp 6) = .pointer (some ⟨X.sb, 0, none⟩) := (hF.eval0 (by kernel_rfl)).trans ok.e6
  refine st_pureG hF hC hW ho h2 (by decide) hd hg rfl ?_
  show _ = Result.ok (Next.value (.pointer (some ⟨X.sb, 1, none⟩))) w
  generalize a.eval = ρ at e6 ⊢
  unfold execOp
  rw [hop]
  simp [e6, go_sem]
theorem LR1.s7 (X : LR1) (ok : LR1Ok X) {Q : Exit → Act → World → Prop} : StepG (opsOf 16 Try.f44) LR1.acts LR1.av X.val0 X.Wd X.a0 Q 7 := by
  intro γ listed a w o hF hC hW h1 ho h2
  obtain ⟨hd, hop, hg⟩ := fields2 (x := some 56) (y := Op.load 25 (.tmp 55)) (z := none) (by kernel_rfl) ho
  have e55 : a.eval (.tmp 55) = .pointer (some ⟨X.sb, 1, none⟩) := slotG hF ho h2 (j := 6) (d := 55) (by kernel_rfl) (by kernel_rfl) (by rw [ok.sz]; decide)
  have hph := phase_leG (acts := LR1.acts) (m := 0) (x := 12) hC (unl (hF.lt ho) h1) rfl [10, 9, 8, 7] (by kernel_rfl) (by decide)
  have hWW := hW
  generalize phase listed LR1.acts = n at hph hWW
  obtain rfl : n = 0 := by omega
  have hk : w = X.W := hWW
  have hc0 := ok.cs
  rw [← hk] at hc0
  refine st_pureG hF hC hW ho h2 (by decide) hd hg rfl ?_
  show _ = Result.ok (Next.value (.slice (some ⟨X.nb, X.no, none⟩) 2 X.nc)) w
  generalize a.eval = ρ at e55 ⊢
  unfold execOp
  rw [hop]
  simp [e55, hc0, go_sem]
theorem LR1.s8 (X : LR1) (ok : LR1Ok X) {Q : Exit → Act → World → Prop} : StepG (opsOf 16 Try.f44) LR1.acts LR1.av X.val0 X.Wd X.a0 Q 8 := by
  intro γ listed a w o hF hC hW h1 ho h2
  obtain ⟨hd, hop, hg⟩ := fields2 (x := some 57) (y := Op.indexAddr 25 (.tmp 56) (.const (.int .i64 1))) (z := none) (by kernel_rfl) ho
  have e56 : a.eval (.tmp 56) = .slice (some ⟨X.nb, X.no, none⟩) 2 X.nc := slotG hF ho h2 (j := 7) (d := 56) (by kernel_rfl) (by kernel_rfl) (by rw [ok.sz]; decide)
  have ec1 : a.eval (.const (.int .i64 1)) = .int .i64 1 := rfl
  refine st_pureG hF hC hW ho h2 (by decide) hd hg rfl ?_
  show _ = Result.ok (Next.value (.pointer (some ⟨X.nb, X.no + 1, none⟩))) w
  generalize a.eval = ρ at e56 ec1 ⊢
  unfold execOp
  rw [hop]
  simp [e56, ec1, go_sem]
theorem LR1.s9 (X : LR1) (ok : LR1Ok X) {Q : Exit → Act → World → Prop} : StepG (opsOf 16 Try.f44) LR1.acts LR1.av X.val0 X.Wd X.a0 Q 9 := by
  intro γ listed a w o hF hC hW h1 ho h2
  obtain ⟨hd, hop, hg⟩ := fields2 (x := some 58) (y := Op.load 3 (.tmp 57)) (z := none) (by kernel_rfl) ho
  have e57 : a.eval (.tmp 57) = .pointer (some ⟨X.nb, X.no + 1, none⟩) := slotG hF ho h2 (j := 8) (d := 57) (by kernel_rfl) (by kernel_rfl) (by rw [ok.sz]; decide)
  have hph := phase_leG (acts := LR1.acts) (m := 0) (x := 12) hC (unl (hF.lt ho) h1) rfl [10, 9] (by kernel_rfl) (by decide)
  have hWW := hW
  generalize phase listed LR1.acts = n at hph hWW
  obtain rfl : n = 0 := by omega
  have hk : w = X.W := hWW
  have hc0 := ok.cy
  rw [← hk] at hc0
  refine st_pureG hF hC hW ho h2 (by decide) hd hg rfl ?_
  show _ = Result.ok (Next.value (.int .i64 X.y)) w
  generalize a.eval = ρ at e57 ⊢
  unfold execOp
  rw [hop]
  simp [e57, hc0, go_sem]
theorem LR1.s10 (X : LR1) (ok : LR1Ok X) {Q : Exit → Act → World → Prop} : StepG (opsOf 16 Try.f44) LR1.acts LR1.av X.val0 X.Wd X.a0 Q 10 := by
  intro γ listed a w o hF hC hW h1 ho h2
  obtain ⟨hd, hop, hg⟩ := fields2 (x := some 59) (y := Op.build 54 #[(0, (.tmp 54)), (1, (.tmp 58))]) (z := none) (by kernel_rfl) ho
  have e54 : a.eval (.tmp 54) = .int .i64 X.x := slotG hF ho h2 (j := 5) (d := 54) (by kernel_rfl) (by kernel_rfl) (by rw [ok.sz]; decide)
  have e58 : a.eval (.tmp 58) = .int .i64 X.y := slotG hF ho h2 (j := 9) (d := 58) (by kernel_rfl) (by kernel_rfl) (by rw [ok.sz]; decide)
  refine st_pureG hF hC hW ho h2 (by decide) hd hg rfl ?_
  show _ = Result.ok (Next.value (.agg #[.int .i64 X.x, .int .i64 X.y])) w
  generalize a.eval = ρ at e54 e58 ⊢
  unfold execOp
  rw [hop]
  simp [e54, e58, go_sem]
theorem LR1.s11 (X : LR1) (ok : LR1Ok X) {Q : Exit → Act → World → Prop} : StepG (opsOf 16 Try.f44) LR1.acts LR1.av X.val0 X.Wd X.a0 Q 11 := by
  intro γ listed a w o hF hC hW h1 ho h2
  obtain ⟨hd, hop, hg⟩ := fields2 (x := some 60) (y := Op.indexAddr 30 (.tmp 50) (.const (.int .i64 0))) (z := none) (by kernel_rfl) ho
  have e50 : a.eval (.tmp 50) = .slice (some ⟨X.g, 0, none⟩) 1 X.uc := slotG hF ho h2 (j := 1) (d := 50) (by kernel_rfl) (by kernel_rfl) (by rw [ok.sz]; decide)
  have ec1 : a.eval (.const (.int .i64 0)) = .int .i64 0 := rfl
  refine st_pureG hF hC hW ho h2 (by decide) hd hg rfl ?_
  show _ = Result.ok (Next.value (.pointer (some ⟨X.g, 0, none⟩))) w
  generalize a.eval = ρ at e50 ec1 ⊢
  unfold execOp
  rw [hop]
  simp [e50, ec1, go_sem]
theorem LR1.s12 (X : LR1) (ok : LR1Ok X) {Q : Exit → Act → World → Prop} : StepG (opsOf 16 Try.f44) LR1.acts LR1.av X.val0 X.Wd X.a0 Q 12 := by
  intro γ listed a w o hF hC hW h1 ho h2
  obtain ⟨hd, hop, hg⟩ := fields2 (x := none) (y := Op.store 54 (.tmp 60) (.tmp 59)) (z := none) (by kernel_rfl) ho
  have e60 : a.eval (.tmp 60) = .pointer (some ⟨X.g, 0, none⟩) := slotG hF ho h2 (j := 11) (d := 60) (by kernel_rfl) (by kernel_rfl) (by rw [ok.sz]; decide)
  have e59 : a.eval (.tmp 59) = .agg #[.int .i64 X.x, .int .i64 X.y] := slotG hF ho h2 (j := 10) (d := 59) (by kernel_rfl) (by kernel_rfl) (by rw [ok.sz]; decide)
  have hu := unl (hF.lt ho) h1
  refine st_actG (k := 0) LR1.chain LR1.nodup rfl hF hC hW h1 ho h2 (Or.inl hd) (LR1.inj (by kernel_rfl) hu) hg ?_
  intro hW0 K hK
  have hw0 : w = X.W := hW0
  obtain ⟨z0, f0⟩ := ok.f0
  obtain ⟨z1, f1⟩ := ok.f1
  have ff := ok.ff
  have hr : (execOp a.eval o).run Try.prog X.W = .ok .skip ((X.W.setCell ⟨X.g, 0, none⟩ (.int .i64 X.x)).setCell ⟨X.g, 1, none⟩ (.int .i64 X.y)) := by
    generalize a.eval = ρ at e59 e60 ⊢
    unfold execOp
    rw [hop]
    simp [e59, e60, f0, f1, ff, go_sem]
  unfold Oper.wp
  rw [hw0, hr]
  exact hK undef _ rfl
theorem LR1.size : (opsOf 16 Try.f44).size = 13 := by kernel_rfl
theorem LR1.steps (X : LR1) (ok : LR1Ok X) {Q : Exit → Act → World → Prop} (i : Nat) (hi : i < (opsOf 16 Try.f44).size) : StepG (opsOf 16 Try.f44) LR1.acts LR1.av X.val0 X.Wd X.a0 Q i := by
  rw [LR1.size] at hi
  have hc : i = 0 ∨ i = 1 ∨ i = 2 ∨ i = 3 ∨ i = 4 ∨ i = 5 ∨ i = 6 ∨ i = 7 ∨ i = 8 ∨ i = 9 ∨ i = 10 ∨ i = 11 ∨ i = 12 := by omega
  rcases hc with rfl | rfl | rfl | rfl | rfl | rfl | rfl | rfl | rfl | rfl | rfl | rfl | rfl
  · exact LR1.s0 X ok
  · exact LR1.s1 X ok
  · exact LR1.s2 X ok
  · exact LR1.s3 X ok
  · exact LR1.s4 X ok
  · exact LR1.s5 X ok
  · exact LR1.s6 X ok
  · exact LR1.s7 X ok
  · exact LR1.s8 X ok
  · exact LR1.s9 X ok
  · exact LR1.s10 X ok
  · exact LR1.s11 X ok
  · exact LR1.s12 X ok
theorem LR1.puts (X : LR1) (γ : Nat → Value) (a0 : Act) : putsL (valG LR1.av X.val0 γ) (opsOf 16 Try.f44).toList a0 = ((((((((((((a0.put (some 49) (.pointer (some ⟨X.bx, 0, none⟩))).put (some 50) (.slice (some ⟨X.g, 0, none⟩) 1 X.uc)).put (some 51) (.pointer (some ⟨X.sb, 1, none⟩))).put (some 52) (.slice (some ⟨X.nb, X.no, none⟩) 2 X.nc)).put (some 53) (.pointer (some ⟨X.nb, X.no, none⟩))).put (some 54) (.int .i64 X.x)).put (some 55) (.pointer (some ⟨X.sb, 1, none⟩))).put (some 56) (.slice (some ⟨X.nb, X.no, none⟩) 2 X.nc)).put (some 57) (.pointer (some ⟨X.nb, X.no + 1, none⟩))).put (some 58) (.int .i64 X.y)).put (some 59) (.agg #[.int .i64 X.x, .int .i64 X.y])).put (some 60) (.pointer (some ⟨X.g, 0, none⟩))) := by kernel_rfl
/-- The region, whatever order comes up. -/
theorem LR1.run (X : LR1) (ok : LR1Ok X) {Q : Exit → Act → World → Prop} (w : World) (h0 : X.Wd 0 (fun _ => undef) w.drew) (hend : ∀ (γ : Nat → Value) w', X.Wd 1 γ w' → Q .normal ((((((((((((X.a0.put (some 49) (.pointer (some ⟨X.bx, 0, none⟩))).put (some 50) (.slice (some ⟨X.g, 0, none⟩) 1 X.uc)).put (some 51) (.pointer (some ⟨X.sb, 1, none⟩))).put (some 52) (.slice (some ⟨X.nb, X.no, none⟩) 2 X.nc)).put (some 53) (.pointer (some ⟨X.nb, X.no, none⟩))).put (some 54) (.int .i64 X.x)).put (some 55) (.pointer (some ⟨X.sb, 1, none⟩))).put (some 56) (.slice (some ⟨X.nb, X.no, none⟩) 2 X.nc)).put (some 57) (.pointer (some ⟨X.nb, X.no + 1, none⟩))).put (some 58) (.int .i64 X.y)).put (some 59) (.agg #[.int .i64 X.x, .int .i64 X.y])).put (some 60) (.pointer (some ⟨X.g, 0, none⟩))) w') : (Code.region 16 (opsOf 16 Try.f44) true).wp Try.prog Q X.a0 w := by
  refine reg_act (acts := LR1.acts) (av := LR1.av) (val0 := X.val0) (Wd := X.Wd) (by kernel_rfl) (by kernel_rfl) (by rw [LR1.size]; decide) (fun i hi => LR1.steps X ok i hi) _ h0 ?_
  intro γ w' h
  rw [LR1.puts]
  exact hend γ w' h
structure LR2 where
  bx : Nat
  sb : Nat
  va : Option Addr
  vn : Nat
  vc : Nat
  l : List Pnt
  cl : Bool
  nb : Nat
  no : Nat
  nc : Nat
  x : Int
  y : Int
  W : World
  a0 : Act
structure LR2Ok (X : LR2) : Prop where
  lb : LnB X.bx X.W (.slice X.va X.vn X.vc) X.l X.cl
  len : X.l.length + 1 ≤ 1000000
  cs : X.W.cell? ⟨X.sb, 1, none⟩ = some (.slice (some ⟨X.nb, X.no, none⟩) 2 X.nc)
  cx : X.W.cell? ⟨X.nb, X.no, none⟩ = some (.int .i64 X.x)
  cy : X.W.cell? ⟨X.nb, X.no + 1, none⟩ = some (.int .i64 X.y)
  e4 : X.a0.eval (.tmp 4) = .pointer (some ⟨X.bx, 0, none⟩)
  e6 : X.a0.eval (.tmp 6) = .pointer (some ⟨X.sb, 0, none⟩)
  sz : X.a0.tmps.size = 137
def LR2.val0 (X : LR2) : Nat → Value
  | 63 => .pointer (some ⟨X.bx, 0, none⟩)
  | 64 => .slice X.va X.vn X.vc
  | 65 => .pointer (some ⟨X.sb, 1, none⟩)
  | 66 => .slice (some ⟨X.nb, X.no, none⟩) 2 X.nc
  | 67 => .pointer (some ⟨X.nb, X.no, none⟩)
  | 68 => .int .i64 X.x
  | 69 => .pointer (some ⟨X.sb, 1, none⟩)
  | 70 => .slice (some ⟨X.nb, X.no, none⟩) 2 X.nc
  | 71 => .pointer (some ⟨X.nb, X.no + 1, none⟩)
  | 72 => .int .i64 X.y
  | 73 => .agg #[.int .i64 X.x, .int .i64 X.y]
  | 76 => .pointer (some ⟨X.bx, 0, none⟩)
  | _ => undef
def LR2.av : Nat → Option Nat
  | 74 => some 0
  | 75 => some 1
  | _ => none
def LR2.acts : List Nat := [11, 12, 14]
/-- The world, by how many of the acting ones have come up. -/
def LR2.Wd (X : LR2) : Nat → (Nat → Value) → World → Prop
  | 0, _, w => Kp X.W w
  | 1, γ, w => ∃ w1, Kp X.W w1 ∧ γ 0 = .slice (some ⟨w1.heap.size, 0, none⟩) 1 1 ∧ w = w1.alloc (.cells #[.int .i64 X.x, .int .i64 X.y] 54)
  | 2, γ, w => ∃ w1 g c, Kp X.W w1 ∧ γ 1 = .slice (some ⟨g, 0, none⟩) (X.l.length + 1) c ∧ OwnP w (X.bx + 1) (γ 1) (X.l ++ [(X.x, X.y)]) ∧ Ext (.slice X.va X.vn X.vc) (γ 1) w1 w
  | _, γ, w => ∃ w1 w2 g c, Kp X.W w1 ∧ γ 1 = .slice (some ⟨g, 0, none⟩) (X.l.length + 1) c ∧ OwnP w2 (X.bx + 1) (γ 1) (X.l ++ [(X.x, X.y)]) ∧ Ext (.slice X.va X.vn X.vc) (γ 1) w1 w2 ∧ w = w2.setCell ⟨X.bx, 0, none⟩ (γ 1)
theorem LR2.chain : chainG (opsOf 18 Try.f44) LR2.acts = true := by kernel_rfl
theorem LR2.nodup : LR2.acts.Nodup := by decide
theorem LR2.inj {listed : Array Bool} {i k : Nat} (h : (List.range (opsOf 18 Try.f44).size).all (fun j => decide (j = i) || !(match dstOf (opsOf 18 Try.f44) j with | some d => decide (LR2.av d = some k) | none => false)) = true) (hu : listed.getD i false = false) : ∀ d, got (opsOf 18 Try.f44) listed d → LR2.av d ≠ some k := by
  rintro d ⟨j, h1, h2⟩ h3
  have hlt : j < (opsOf 18 Try.f44).size := by
    rcases Nat.lt_or_ge j (opsOf 18 Try.f44).size with h4 | h4
    · exact h4
    · unfold dstOf at h2; rw [Array.getElem?_eq_none h4] at h2; cases h2
  have h5 := List.all_eq_true.1 h j (List.mem_range.2 hlt)
  rw [h2] at h5
  simp only [h3, decide_true, Bool.not_true, Bool.or_false, decide_eq_true_eq] at h5
  subst h5
  rw [hu] at h1
  cases h1
theorem LR2.s0 (X : LR2) (ok : LR2Ok X) {Q : Exit → Act → World → Prop} : StepG (opsOf 18 Try.f44) LR2.acts LR2.av X.val0 X.Wd X.a0 Q 0 := by
  intro γ listed a w o hF hC hW h1 ho h2
  obtain ⟨hd, hop, hg⟩ := fields2 (x := some 63) (y := Op.fieldAddr 32 (.tmp 4) 0) (z := none) (by kernel_rfl) ho
  have e4 : a.eval (.tmp 4) = .pointer (some ⟨X.bx, 0, none⟩) := (hF.eval0 (by kernel_rfl)).trans ok.e4
  refine st_pureG hF hC hW ho h2 (by decide) hd hg rfl ?_
  show _ = Result.ok (Next.value (.pointer (some ⟨X.bx, 0, none⟩))) w
  generalize a.eval = ρ at e4 ⊢
  unfold execOp
  rw [hop]
  simp [e4, go_sem]
theorem LR2.s1 (X : LR2) (ok : LR2Ok X) {Q : Exit → Act → World → Prop} : StepG (opsOf 18 Try.f44) LR2.acts LR2.av X.val0 X.Wd X.a0 Q 1 := by
  intro γ listed a w o hF hC hW h1 ho h2
  obtain ⟨hd, hop, hg⟩ := fields2 (x := some 64) (y := Op.load 30 (.tmp 63)) (z := none) (by kernel_rfl) ho
  have e63 : a.eval (.tmp 63) = .pointer (some ⟨X.bx, 0, none⟩) := slotG hF ho h2 (j := 0) (d := 63) (by kernel_rfl) (by kernel_rfl) (by rw [ok.sz]; decide)
  have hph := phase_leG (acts := LR2.acts) (m := 1) (x := 12) hC (unl (hF.lt ho) h1) rfl [1] (by kernel_rfl) (by decide)
  have hWW := hW
  generalize phase listed LR2.acts = n at hph hWW
  have hk : Nw X.W w := by
    rcases (show n = 0 ∨ n = 1 by omega) with rfl | rfl
    · exact hWW.nw
    · obtain ⟨w1, k1, _, rfl⟩ := hWW
      exact Nw.trans k1.nw ((Below.refl _ _).alloc (Nat.le_refl _) _)
  have hc := (ok.lb.nw hk).c0
  refine st_pureG hF hC hW ho h2 (by decide) hd hg rfl ?_
  show _ = Result.ok (Next.value (.slice X.va X.vn X.vc)) w
  generalize a.eval = ρ at e63 ⊢
  unfold execOp
  rw [hop]
  simp [e63, hc, go_sem]
theorem LR2.s2 (X : LR2) (ok : LR2Ok X) {Q : Exit → Act → World → Prop} : StepG (opsOf 18 Try.f44) LR2.acts LR2.av X.val0 X.Wd X.a0 Q 2 := by
  intro γ listed a w o hF hC hW h1 ho h2
  obtain ⟨hd, hop, hg⟩ := fields2 (x := some 65) (y := Op.fieldAddr 76 (.tmp 6) 1) (z := none) (by kernel_rfl) ho
  have e6 : a.eval (.tmp 6) = .pointer (some ⟨X.sb, 0, none⟩) := (hF.eval0 (by kernel_rfl)).trans ok.e6
  refine st_pureG hF hC hW ho h2 (by decide) hd hg rfl ?_
  show _ = Result.ok (Next.value (.pointer (some ⟨X.sb, 1, none⟩))) w
  generalize a.eval = ρ at e6 ⊢
  unfold execOp
  rw [hop]
  simp [e6, go_sem]
theorem LR2.s3 (X : LR2) (ok : LR2Ok X) {Q : Exit → Act → World → Prop} : StepG (opsOf 18 Try.f44) LR2.acts LR2.av X.val0 X.Wd X.a0 Q 3 := by
  intro γ listed a w o hF hC hW h1 ho h2
  obtain ⟨hd, hop, hg⟩ := fields2 (x := some 66) (y := Op.load 25 (.tmp 65)) (z := none) (by kernel_rfl) ho
  have e65 : a.eval (.tmp 65) = .pointer (some ⟨X.sb, 1, none⟩) := slotG hF ho h2 (j := 2) (d := 65) (by kernel_rfl) (by kernel_rfl) (by rw [ok.sz]; decide)
  have hph := phase_leG (acts := LR2.acts) (m := 0) (x := 11) hC (unl (hF.lt ho) h1) rfl [10, 5, 4, 3] (by kernel_rfl) (by decide)
  have hWW := hW
  generalize phase listed LR2.acts = n at hph hWW
  obtain rfl : n = 0 := by omega
  have hk : Kp X.W w := hWW
  have hc := rq_at hk ok.cs
  refine st_pureG hF hC hW ho h2 (by decide) hd hg rfl ?_
  show _ = Result.ok (Next.value (.slice (some ⟨X.nb, X.no, none⟩) 2 X.nc)) w
  generalize a.eval = ρ at e65 ⊢
  unfold execOp
  rw [hop]
  simp [e65, hc, go_sem]
theorem LR2.s4 (X : LR2) (ok : LR2Ok X) {Q : Exit → Act → World → Prop} : StepG (opsOf 18 Try.f44) LR2.acts LR2.av X.val0 X.Wd X.a0 Q 4 := by
  intro γ listed a w o hF hC hW h1 ho h2
  obtain ⟨hd, hop, hg⟩ := fields2 (x := some 67) (y := Op.indexAddr 25 (.tmp 66) (.const (.int .i64 0))) (z := none) (by kernel_rfl) ho
  have e66 : a.eval (.tmp 66) = .slice (some ⟨X.nb, X.no, none⟩) 2 X.nc := slotG hF ho h2 (j := 3) (d := 66) (by kernel_rfl) (by kernel_rfl) (by rw [ok.sz]; decide)
  have ec1 : a.eval (.const (.int .i64 0)) = .int .i64 0 := rfl
  refine st_pureG hF hC hW ho h2 (by decide) hd hg rfl ?_
  show _ = Result.ok (Next.value (.pointer (some ⟨X.nb, X.no, none⟩))) w
  generalize a.eval = ρ at e66 ec1 ⊢
  unfold execOp
  rw [hop]
  simp [e66, ec1, go_sem]
theorem LR2.s5 (X : LR2) (ok : LR2Ok X) {Q : Exit → Act → World → Prop} : StepG (opsOf 18 Try.f44) LR2.acts LR2.av X.val0 X.Wd X.a0 Q 5 := by
  intro γ listed a w o hF hC hW h1 ho h2
  obtain ⟨hd, hop, hg⟩ := fields2 (x := some 68) (y := Op.load 3 (.tmp 67)) (z := none) (by kernel_rfl) ho
  have e67 : a.eval (.tmp 67) = .pointer (some ⟨X.nb, X.no, none⟩) := slotG hF ho h2 (j := 4) (d := 67) (by kernel_rfl) (by kernel_rfl) (by rw [ok.sz]; decide)
  have hph := phase_leG (acts := LR2.acts) (m := 0) (x := 11) hC (unl (hF.lt ho) h1) rfl [10, 5] (by kernel_rfl) (by decide)
  have hWW := hW
  generalize phase listed LR2.acts = n at hph hWW
  obtain rfl : n = 0 := by omega
  have hk : Kp X.W w := hWW
  have hc := rq_at hk ok.cx
  refine st_pureG hF hC hW ho h2 (by decide) hd hg rfl ?_
  show _ = Result.ok (Next.value (.int .i64 X.x)) w
  generalize a.eval = ρ at e67 ⊢
  unfold execOp
  rw [hop]
  simp [e67, hc, go_sem]
theorem LR2.s6 (X : LR2) (ok : LR2Ok X) {Q : Exit → Act → World → Prop} : StepG (opsOf 18 Try.f44) LR2.acts LR2.av X.val0 X.Wd X.a0 Q 6 := by
  intro γ listed a w o hF hC hW h1 ho h2
  obtain ⟨hd, hop, hg⟩ := fields2 (x := some 69) (y := Op.fieldAddr 76 (.tmp 6) 1) (z := none) (by kernel_rfl) ho
  have e6 : a.eval (.tmp 6) = .pointer (some ⟨X.sb, 0, none⟩) := (hF.eval0 (by kernel_rfl)).trans ok.e6
  refine st_pureG hF hC hW ho h2 (by decide) hd hg rfl ?_
  show _ = Result.ok (Next.value (.pointer (some ⟨X.sb, 1, none⟩))) w
  generalize a.eval = ρ at e6 ⊢
  unfold execOp
  rw [hop]
  simp [e6, go_sem]
theorem LR2.s7 (X : LR2) (ok : LR2Ok X) {Q : Exit → Act → World → Prop} : StepG (opsOf 18 Try.f44) LR2.acts LR2.av X.val0 X.Wd X.a0 Q 7 := by
  intro γ listed a w o hF hC hW h1 ho h2
  obtain ⟨hd, hop, hg⟩ := fields2 (x := some 70) (y := Op.load 25 (.tmp 69)) (z := none) (by kernel_rfl) ho
  have e69 : a.eval (.tmp 69) = .pointer (some ⟨X.sb, 1, none⟩) := slotG hF ho h2 (j := 6) (d := 69) (by kernel_rfl) (by kernel_rfl) (by rw [ok.sz]; decide)
  have hph := phase_leG (acts := LR2.acts) (m := 0) (x := 11) hC (unl (hF.lt ho) h1) rfl [10, 9, 8, 7] (by kernel_rfl) (by decide)
  have hWW := hW
  generalize phase listed LR2.acts = n at hph hWW
  obtain rfl : n = 0 := by omega
  have hk : Kp X.W w := hWW
  have hc := rq_at hk ok.cs
  refine st_pureG hF hC hW ho h2 (by decide) hd hg rfl ?_
  show _ = Result.ok (Next.value (.slice (some ⟨X.nb, X.no, none⟩) 2 X.nc)) w
  generalize a.eval = ρ at e69 ⊢
  unfold execOp
  rw [hop]
  simp [e69, hc, go_sem]
theorem LR2.s8 (X : LR2) (ok : LR2Ok X) {Q : Exit → Act → World → Prop} : StepG (opsOf 18 Try.f44) LR2.acts LR2.av X.val0 X.Wd X.a0 Q 8 := by
  intro γ listed a w o hF hC hW h1 ho h2
  obtain ⟨hd, hop, hg⟩ := fields2 (x := some 71) (y := Op.indexAddr 25 (.tmp 70) (.const (.int .i64 1))) (z := none) (by kernel_rfl) ho
  have e70 : a.eval (.tmp 70) = .slice (some ⟨X.nb, X.no, none⟩) 2 X.nc := slotG hF ho h2 (j := 7) (d := 70) (by kernel_rfl) (by kernel_rfl) (by rw [ok.sz]; decide)
  have ec1 : a.eval (.const (.int .i64 1)) = .int .i64 1 := rfl
  refine st_pureG hF hC hW ho h2 (by decide) hd hg rfl ?_
  show _ = Result.ok (Next.value (.pointer (some ⟨X.nb, X.no + 1, none⟩))) w
  generalize a.eval = ρ at e70 ec1 ⊢
  unfold execOp
  rw [hop]
  simp [e70, ec1, go_sem]
theorem LR2.s9 (X : LR2) (ok : LR2Ok X) {Q : Exit → Act → World → Prop} : StepG (opsOf 18 Try.f44) LR2.acts LR2.av X.val0 X.Wd X.a0 Q 9 := by
  intro γ listed a w o hF hC hW h1 ho h2
  obtain ⟨hd, hop, hg⟩ := fields2 (x := some 72) (y := Op.load 3 (.tmp 71)) (z := none) (by kernel_rfl) ho
  have e71 : a.eval (.tmp 71) = .pointer (some ⟨X.nb, X.no + 1, none⟩) := slotG hF ho h2 (j := 8) (d := 71) (by kernel_rfl) (by kernel_rfl) (by rw [ok.sz]; decide)
  have hph := phase_leG (acts := LR2.acts) (m := 0) (x := 11) hC (unl (hF.lt ho) h1) rfl [10, 9] (by kernel_rfl) (by decide)
  have hWW := hW
  generalize phase listed LR2.acts = n at hph hWW
  obtain rfl : n = 0 := by omega
  have hk : Kp X.W w := hWW
  have hc := rq_at hk ok.cy
  refine st_pureG hF hC hW ho h2 (by decide) hd hg rfl ?_
  show _ = Result.ok (Next.value (.int .i64 X.y)) w
  generalize a.eval = ρ at e71 ⊢
  unfold execOp
  rw [hop]
  simp [e71, hc, go_sem]
theorem LR2.s10 (X : LR2) (ok : LR2Ok X) {Q : Exit → Act → World → Prop} : StepG (opsOf 18 Try.f44) LR2.acts LR2.av X.val0 X.Wd X.a0 Q 10 := by
  intro γ listed a w o hF hC hW h1 ho h2
  obtain ⟨hd, hop, hg⟩ := fields2 (x := some 73) (y := Op.build 54 #[(0, (.tmp 68)), (1, (.tmp 72))]) (z := none) (by kernel_rfl) ho
  have e68 : a.eval (.tmp 68) = .int .i64 X.x := slotG hF ho h2 (j := 5) (d := 68) (by kernel_rfl) (by kernel_rfl) (by rw [ok.sz]; decide)
  have e72 : a.eval (.tmp 72) = .int .i64 X.y := slotG hF ho h2 (j := 9) (d := 72) (by kernel_rfl) (by kernel_rfl) (by rw [ok.sz]; decide)
  refine st_pureG hF hC hW ho h2 (by decide) hd hg rfl ?_
  show _ = Result.ok (Next.value (.agg #[.int .i64 X.x, .int .i64 X.y])) w
  generalize a.eval = ρ at e68 e72 ⊢
  unfold execOp
  rw [hop]
  simp [e68, e72, go_sem]
theorem LR2.s11 (X : LR2) (ok : LR2Ok X) {Q : Exit → Act → World → Prop} : StepG (opsOf 18 Try.f44) LR2.acts LR2.av X.val0 X.Wd X.a0 Q 11 := by
  intro γ listed a w o hF hC hW h1 ho h2
  obtain ⟨hd, hop, hg⟩ := fields2 (x := some 74) (y := Op.buildSlice 30 1 #[(0, (.tmp 73))]) (z := none) (by kernel_rfl) ho
  have e73 : a.eval (.tmp 73) = .agg #[.int .i64 X.x, .int .i64 X.y] := slotG hF ho h2 (j := 10) (d := 73) (by kernel_rfl) (by kernel_rfl) (by rw [ok.sz]; decide)
  have hu := unl (hF.lt ho) h1
  refine st_actG (k := 0) LR2.chain LR2.nodup rfl hF hC hW h1 ho h2 (Or.inr ⟨74, hd, rfl⟩) (LR2.inj (by kernel_rfl) hu) hg ?_
  intro hW0 K hK
  have hr : (execOp a.eval o).run Try.prog w = .ok (.value (.slice (some ⟨w.heap.size, 0, none⟩) 1 1)) (w.alloc (.cells #[.int .i64 X.x, .int .i64 X.y] 54)) := by
    generalize a.eval = ρ at e73 ⊢
    unfold execOp
    rw [hop]
    simp [e73, go_sem]
  unfold Oper.wp
  rw [hr]
  exact hK _ _ ⟨w, hW0, rfl, rfl⟩
theorem LR2.s12 (X : LR2) (ok : LR2Ok X) {Q : Exit → Act → World → Prop} : StepG (opsOf 18 Try.f44) LR2.acts LR2.av X.val0 X.Wd X.a0 Q 12 := by
  intro γ listed a w o hF hC hW h1 ho h2
  obtain ⟨hd, hop, hg⟩ := fields2 (x := some 75) (y := Op.call { callee := .builtin .append, args := #[(.tmp 64), (.tmp 74)], argTypes := #[30, 30] }) (z := none) (by kernel_rfl) ho
  have e64 : a.eval (.tmp 64) = .slice X.va X.vn X.vc := slotG hF ho h2 (j := 1) (d := 64) (by kernel_rfl) (by kernel_rfl) (by rw [ok.sz]; decide)
  have e74 : a.eval (.tmp 74) = γ 0 := slotG hF ho h2 (j := 11) (d := 74) (by kernel_rfl) (by kernel_rfl) (by rw [ok.sz]; decide)
  have hu := unl (hF.lt ho) h1
  refine st_actG (k := 1) LR2.chain LR2.nodup rfl hF hC hW h1 ho h2 (Or.inr ⟨75, hd, rfl⟩) (LR2.inj (by kernel_rfl) hu) hg ?_
  intro hW0 K hK
  obtain ⟨w1, k1, g0, rfl⟩ := hW0
  rw [g0] at e74
  have lb := ok.lb.nw (Kp.nw k1)
  have n1 : Nw w1 (w1.alloc (.cells #[.int .i64 X.x, .int .i64 X.y] 54)) := (Below.refl _ _).alloc (Nat.le_refl _) _
  refine wp_q 54 30 30 (.int .i64 0) (.int .i64 0) 16 under_pts under_pts Try.info54 (by decide) rfl _ (.tmp 64) (.tmp 74) hop (X.bx + 1) (.slice X.va X.vn X.vc) (vP X.l) (vP [(X.x, X.y)]) e64 (lb.own.nw n1) w1.heap.size 0 1 1 rfl e74 (liep_one w1 X.x X.y _).vv (vP_one _) (by simp [vP]) (by rw [vP_len]; have := ok.len; simp [vP]; omega) (by have := lb.lt; simp; omega) ?_
  intro g' c' w' h3 h4
  rw [vP_len] at h3 h4 ⊢
  rw [← vP_append] at h3
  exact hK _ _ ⟨w1, g', c', k1, rfl, h3, n1.ext h4⟩
theorem LR2.s13 (X : LR2) (ok : LR2Ok X) {Q : Exit → Act → World → Prop} : StepG (opsOf 18 Try.f44) LR2.acts LR2.av X.val0 X.Wd X.a0 Q 13 := by
  intro γ listed a w o hF hC hW h1 ho h2
  obtain ⟨hd, hop, hg⟩ := fields2 (x := some 76) (y := Op.fieldAddr 32 (.tmp 4) 0) (z := none) (by kernel_rfl) ho
  have e4 : a.eval (.tmp 4) = .pointer (some ⟨X.bx, 0, none⟩) := (hF.eval0 (by kernel_rfl)).trans ok.e4
  refine st_pureG hF hC hW ho h2 (by decide) hd hg rfl ?_
  show _ = Result.ok (Next.value (.pointer (some ⟨X.bx, 0, none⟩))) w
  generalize a.eval = ρ at e4 ⊢
  unfold execOp
  rw [hop]
  simp [e4, go_sem]
theorem LR2.s14 (X : LR2) (ok : LR2Ok X) {Q : Exit → Act → World → Prop} : StepG (opsOf 18 Try.f44) LR2.acts LR2.av X.val0 X.Wd X.a0 Q 14 := by
  intro γ listed a w o hF hC hW h1 ho h2
  obtain ⟨hd, hop, hg⟩ := fields2 (x := none) (y := Op.store 30 (.tmp 76) (.tmp 75)) (z := none) (by kernel_rfl) ho
  have e76 : a.eval (.tmp 76) = .pointer (some ⟨X.bx, 0, none⟩) := slotG hF ho h2 (j := 13) (d := 76) (by kernel_rfl) (by kernel_rfl) (by rw [ok.sz]; decide)
  have e75 : a.eval (.tmp 75) = γ 1 := slotG hF ho h2 (j := 12) (d := 75) (by kernel_rfl) (by kernel_rfl) (by rw [ok.sz]; decide)
  have hu := unl (hF.lt ho) h1
  refine st_actG (k := 2) LR2.chain LR2.nodup rfl hF hC hW h1 ho h2 (Or.inl hd) (LR2.inj (by kernel_rfl) hu) hg ?_
  intro hW0 K hK
  obtain ⟨w1, g, cc, k1, g1, o1, x1⟩ := hW0
  obtain ⟨t0, tf⟩ := (ok.lb.nw (Kp.nw k1)).there x1
  have hr : (execOp a.eval o).run Try.prog w = .ok .skip (w.setCell ⟨X.bx, 0, none⟩ (γ 1)) := by
    rw [g1] at e75 ⊢
    generalize a.eval = ρ at e75 e76 ⊢
    unfold execOp
    rw [hop]
    simp [e75, e76, t0, tf, go_sem]
  unfold Oper.wp
  rw [hr]
  exact hK undef _ ⟨w1, w, g, cc, k1, g1, o1, x1, rfl⟩
theorem LR2.size : (opsOf 18 Try.f44).size = 15 := by kernel_rfl
theorem LR2.steps (X : LR2) (ok : LR2Ok X) {Q : Exit → Act → World → Prop} (i : Nat) (hi : i < (opsOf 18 Try.f44).size) : StepG (opsOf 18 Try.f44) LR2.acts LR2.av X.val0 X.Wd X.a0 Q i := by
  rw [LR2.size] at hi
  have hc : i = 0 ∨ i = 1 ∨ i = 2 ∨ i = 3 ∨ i = 4 ∨ i = 5 ∨ i = 6 ∨ i = 7 ∨ i = 8 ∨ i = 9 ∨ i = 10 ∨ i = 11 ∨ i = 12 ∨ i = 13 ∨ i = 14 := by omega
  rcases hc with rfl | rfl | rfl | rfl | rfl | rfl | rfl | rfl | rfl | rfl | rfl | rfl | rfl | rfl | rfl
  · exact LR2.s0 X ok
  · exact LR2.s1 X ok
  · exact LR2.s2 X ok
  · exact LR2.s3 X ok
  · exact LR2.s4 X ok
  · exact LR2.s5 X ok
  · exact LR2.s6 X ok
  · exact LR2.s7 X ok
  · exact LR2.s8 X ok
  · exact LR2.s9 X ok
  · exact LR2.s10 X ok
  · exact LR2.s11 X ok
  · exact LR2.s12 X ok
  · exact LR2.s13 X ok
  · exact LR2.s14 X ok
theorem LR2.puts (X : LR2) (γ : Nat → Value) (a0 : Act) : putsL (valG LR2.av X.val0 γ) (opsOf 18 Try.f44).toList a0 = ((((((((((((((a0.put (some 63) (.pointer (some ⟨X.bx, 0, none⟩))).put (some 64) (.slice X.va X.vn X.vc)).put (some 65) (.pointer (some ⟨X.sb, 1, none⟩))).put (some 66) (.slice (some ⟨X.nb, X.no, none⟩) 2 X.nc)).put (some 67) (.pointer (some ⟨X.nb, X.no, none⟩))).put (some 68) (.int .i64 X.x)).put (some 69) (.pointer (some ⟨X.sb, 1, none⟩))).put (some 70) (.slice (some ⟨X.nb, X.no, none⟩) 2 X.nc)).put (some 71) (.pointer (some ⟨X.nb, X.no + 1, none⟩))).put (some 72) (.int .i64 X.y)).put (some 73) (.agg #[.int .i64 X.x, .int .i64 X.y])).put (some 74) (γ 0)).put (some 75) (γ 1)).put (some 76) (.pointer (some ⟨X.bx, 0, none⟩))) := by kernel_rfl
/-- The region, whatever order comes up. -/
theorem LR2.run (X : LR2) (ok : LR2Ok X) {Q : Exit → Act → World → Prop} (w : World) (h0 : X.Wd 0 (fun _ => undef) w.drew) (hend : ∀ (γ : Nat → Value) w', X.Wd 3 γ w' → Q .normal ((((((((((((((X.a0.put (some 63) (.pointer (some ⟨X.bx, 0, none⟩))).put (some 64) (.slice X.va X.vn X.vc)).put (some 65) (.pointer (some ⟨X.sb, 1, none⟩))).put (some 66) (.slice (some ⟨X.nb, X.no, none⟩) 2 X.nc)).put (some 67) (.pointer (some ⟨X.nb, X.no, none⟩))).put (some 68) (.int .i64 X.x)).put (some 69) (.pointer (some ⟨X.sb, 1, none⟩))).put (some 70) (.slice (some ⟨X.nb, X.no, none⟩) 2 X.nc)).put (some 71) (.pointer (some ⟨X.nb, X.no + 1, none⟩))).put (some 72) (.int .i64 X.y)).put (some 73) (.agg #[.int .i64 X.x, .int .i64 X.y])).put (some 74) (γ 0)).put (some 75) (γ 1)).put (some 76) (.pointer (some ⟨X.bx, 0, none⟩))) w') : (Code.region 18 (opsOf 18 Try.f44) true).wp Try.prog Q X.a0 w := by
  refine reg_act (acts := LR2.acts) (av := LR2.av) (val0 := X.val0) (Wd := X.Wd) (by kernel_rfl) (by kernel_rfl) (by rw [LR2.size]; decide) (fun i hi => LR2.steps X ok i hi) _ h0 ?_
  intro γ w' h
  rw [LR2.puts]
  exact hend γ w' h
structure LR3 where
  bx : Nat
  sb : Nat
  g : Nat
  n : Nat
  m : Nat
  uc : Nat
  nb : Nat
  no : Nat
  nc : Nat
  lx : Int
  ly : Int
  x0 : Int
  y0 : Int
  x1 : Int
  y1 : Int
  x2 : Int
  y2 : Int
  W : World
  a0 : Act
structure LR3Ok (X : LR3) : Prop where
  cu : X.W.cell? ⟨X.bx, 0, none⟩ = some (.slice (some ⟨X.g, 0, none⟩) X.n X.uc)
  wm : IntKind.i64.wrap ((X.n : Int) - 1) = (X.m : Int)
  hm : X.m < X.n
  px : X.W.cell? ⟨X.g, X.m * 2, none⟩ = some (.int .i64 X.lx)
  py : X.W.cell? ⟨X.g, X.m * 2 + 1, none⟩ = some (.int .i64 X.ly)
  cs : X.W.cell? ⟨X.sb, 1, none⟩ = some (.slice (some ⟨X.nb, X.no, none⟩) 6 X.nc)
  cx0 : X.W.cell? ⟨X.nb, X.no, none⟩ = some (.int .i64 X.x0)
  cy0 : X.W.cell? ⟨X.nb, X.no + 1, none⟩ = some (.int .i64 X.y0)
  cx1 : X.W.cell? ⟨X.nb, X.no + 2, none⟩ = some (.int .i64 X.x1)
  cy1 : X.W.cell? ⟨X.nb, X.no + 3, none⟩ = some (.int .i64 X.y1)
  cx2 : X.W.cell? ⟨X.nb, X.no + 4, none⟩ = some (.int .i64 X.x2)
  cy2 : X.W.cell? ⟨X.nb, X.no + 5, none⟩ = some (.int .i64 X.y2)
  e4 : X.a0.eval (.tmp 4) = .pointer (some ⟨X.bx, 0, none⟩)
  e6 : X.a0.eval (.tmp 6) = .pointer (some ⟨X.sb, 0, none⟩)
  sz : X.a0.tmps.size = 137
def LR3.val0 (X : LR3) : Nat → Value
  | 79 => .pointer (some ⟨X.bx, 0, none⟩)
  | 80 => .slice (some ⟨X.g, 0, none⟩) X.n X.uc
  | 81 => .pointer (some ⟨X.bx, 0, none⟩)
  | 82 => .slice (some ⟨X.g, 0, none⟩) X.n X.uc
  | 83 => .int .i64 (X.n : Int)
  | 84 => .int .i64 (X.m : Int)
  | 85 => .pointer (some ⟨X.g, X.m * 2, none⟩)
  | 86 => .agg #[.int .i64 X.lx, .int .i64 X.ly]
  | 87 => .pointer (some ⟨X.sb, 1, none⟩)
  | 88 => .slice (some ⟨X.nb, X.no, none⟩) 6 X.nc
  | 89 => .pointer (some ⟨X.nb, X.no, none⟩)
  | 90 => .int .i64 X.x0
  | 91 => .pointer (some ⟨X.sb, 1, none⟩)
  | 92 => .slice (some ⟨X.nb, X.no, none⟩) 6 X.nc
  | 93 => .pointer (some ⟨X.nb, X.no + 1, none⟩)
  | 94 => .int .i64 X.y0
  | 95 => .agg #[.int .i64 X.x0, .int .i64 X.y0]
  | 96 => .pointer (some ⟨X.sb, 1, none⟩)
  | 97 => .slice (some ⟨X.nb, X.no, none⟩) 6 X.nc
  | 98 => .pointer (some ⟨X.nb, X.no + 2, none⟩)
  | 99 => .int .i64 X.x1
  | 100 => .pointer (some ⟨X.sb, 1, none⟩)
  | 101 => .slice (some ⟨X.nb, X.no, none⟩) 6 X.nc
  | 102 => .pointer (some ⟨X.nb, X.no + 3, none⟩)
  | 103 => .int .i64 X.y1
  | 104 => .agg #[.int .i64 X.x1, .int .i64 X.y1]
  | 105 => .pointer (some ⟨X.sb, 1, none⟩)
  | 106 => .slice (some ⟨X.nb, X.no, none⟩) 6 X.nc
  | 107 => .pointer (some ⟨X.nb, X.no + 4, none⟩)
  | 108 => .int .i64 X.x2
  | 109 => .pointer (some ⟨X.sb, 1, none⟩)
  | 110 => .slice (some ⟨X.nb, X.no, none⟩) 6 X.nc
  | 111 => .pointer (some ⟨X.nb, X.no + 5, none⟩)
  | 112 => .int .i64 X.y2
  | 113 => .agg #[.int .i64 X.x2, .int .i64 X.y2]
  | _ => undef
def LR3.av : Nat → Option Nat
  | 114 => some 0
  | 8 => some 1
  | _ => none
def LR3.acts : List Nat := [35, 36]
/-- The world, by how many of the acting ones have come up. -/
def LR3.Wd (X : LR3) : Nat → (Nat → Value) → World → Prop
  | 0, _, w => w = X.W
  | 1, γ, w => γ 0 = .slice (some ⟨X.W.heap.size, 0, none⟩) 4 4 ∧ w = X.W.alloc (.cells #[.int .i64 X.lx, .int .i64 X.ly, .int .i64 X.x0, .int .i64 X.y0, .int .i64 X.x1, .int .i64 X.y1, .int .i64 X.x2, .int .i64 X.y2] 54)
  | _, γ, w => γ 1 = .slice (some ⟨X.W.heap.size, 0, none⟩) 4 4 ∧ w = X.W.alloc (.cells #[.int .i64 X.lx, .int .i64 X.ly, .int .i64 X.x0, .int .i64 X.y0, .int .i64 X.x1, .int .i64 X.y1, .int .i64 X.x2, .int .i64 X.y2] 54)
theorem LR3.chain : chainG (opsOf 20 Try.f44) LR3.acts = true := by kernel_rfl
theorem LR3.nodup : LR3.acts.Nodup := by decide
theorem LR3.inj {listed : Array Bool} {i k : Nat} (h : (List.range (opsOf 20 Try.f44).size).all (fun j => decide (j = i) || !(match dstOf (opsOf 20 Try.f44) j with | some d => decide (LR3.av d = some k) | none => false)) = true) (hu : listed.getD i false = false) : ∀ d, got (opsOf 20 Try.f44) listed d → LR3.av d ≠ some k := by
  rintro d ⟨j, h1, h2⟩ h3
  have hlt : j < (opsOf 20 Try.f44).size := by
    rcases Nat.lt_or_ge j (opsOf 20 Try.f44).size with h4 | h4
    · exact h4
    · unfold dstOf at h2; rw [Array.getElem?_eq_none h4] at h2; cases h2
  have h5 := List.all_eq_true.1 h j (List.mem_range.2 hlt)
  rw [h2] at h5
  simp only [h3, decide_true, Bool.not_true, Bool.or_false, decide_eq_true_eq] at h5
  subst h5
  rw [hu] at h1
  cases h1
theorem LR3.s0 (X : LR3) (ok : LR3Ok X) {Q : Exit → Act → World → Prop} : StepG (opsOf 20 Try.f44) LR3.acts LR3.av X.val0 X.Wd X.a0 Q 0 := by
  intro γ listed a w o hF hC hW h1 ho h2
  obtain ⟨hd, hop, hg⟩ := fields2 (x := some 79) (y := Op.fieldAddr 32 (.tmp 4) 0) (z := none) (by kernel_rfl) ho
  have e4 : a.eval (.tmp 4) = .pointer (some ⟨X.bx, 0, none⟩) := (hF.eval0 (by kernel_rfl)).trans ok.e4
  refine st_pureG hF hC hW ho h2 (by decide) hd hg rfl ?_
  show _ = Result.ok (Next.value (.pointer (some ⟨X.bx, 0, none⟩))) w
  generalize a.eval = ρ at e4 ⊢
  unfold execOp
  rw [hop]
  simp [e4, go_sem]
theorem LR3.s1 (X : LR3) (ok : LR3Ok X) {Q : Exit → Act → World → Prop} : StepG (opsOf 20 Try.f44) LR3.acts LR3.av X.val0 X.Wd X.a0 Q 1 := by
  intro γ listed a w o hF hC hW h1 ho h2
  obtain ⟨hd, hop, hg⟩ := fields2 (x := some 80) (y := Op.load 30 (.tmp 79)) (z := none) (by kernel_rfl) ho
  have e79 : a.eval (.tmp 79) = .pointer (some ⟨X.bx, 0, none⟩) := slotG hF ho h2 (j := 0) (d := 79) (by kernel_rfl) (by kernel_rfl) (by rw [ok.sz]; decide)
  have hph := phase_leG (acts := LR3.acts) (m := 0) (x := 35) hC (unl (hF.lt ho) h1) rfl [7, 6, 1] (by kernel_rfl) (by decide)
  have hWW := hW
  generalize phase listed LR3.acts = n at hph hWW
  obtain rfl : n = 0 := by omega
  have hk : w = X.W := hWW
  have hc0 := ok.cu
  rw [← hk] at hc0
  refine st_pureG hF hC hW ho h2 (by decide) hd hg rfl ?_
  show _ = Result.ok (Next.value (.slice (some ⟨X.g, 0, none⟩) X.n X.uc)) w
  generalize a.eval = ρ at e79 ⊢
  unfold execOp
  rw [hop]
  simp [e79, hc0, go_sem]
theorem LR3.s2 (X : LR3) (ok : LR3Ok X) {Q : Exit → Act → World → Prop} : StepG (opsOf 20 Try.f44) LR3.acts LR3.av X.val0 X.Wd X.a0 Q 2 := by
  intro γ listed a w o hF hC hW h1 ho h2
  obtain ⟨hd, hop, hg⟩ := fields2 (x := some 81) (y := Op.fieldAddr 32 (.tmp 4) 0) (z := none) (by kernel_rfl) ho
  have e4 : a.eval (.tmp 4) = .pointer (some ⟨X.bx, 0, none⟩) := (hF.eval0 (by kernel_rfl)).trans ok.e4
  refine st_pureG hF hC hW ho h2 (by decide) hd hg rfl ?_
  show _ = Result.ok (Next.value (.pointer (some ⟨X.bx, 0, none⟩))) w
  generalize a.eval = ρ at e4 ⊢
  unfold execOp
  rw [hop]
  simp [e4, go_sem]
theorem LR3.s3 (X : LR3) (ok : LR3Ok X) {Q : Exit → Act → World → Prop} : StepG (opsOf 20 Try.f44) LR3.acts LR3.av X.val0 X.Wd X.a0 Q 3 := by
  intro γ listed a w o hF hC hW h1 ho h2
  obtain ⟨hd, hop, hg⟩ := fields2 (x := some 82) (y := Op.load 30 (.tmp 81)) (z := none) (by kernel_rfl) ho
  have e81 : a.eval (.tmp 81) = .pointer (some ⟨X.bx, 0, none⟩) := slotG hF ho h2 (j := 2) (d := 81) (by kernel_rfl) (by kernel_rfl) (by rw [ok.sz]; decide)
  have hph := phase_leG (acts := LR3.acts) (m := 0) (x := 35) hC (unl (hF.lt ho) h1) rfl [7, 6, 5, 4, 3] (by kernel_rfl) (by decide)
  have hWW := hW
  generalize phase listed LR3.acts = n at hph hWW
  obtain rfl : n = 0 := by omega
  have hk : w = X.W := hWW
  have hc0 := ok.cu
  rw [← hk] at hc0
  refine st_pureG hF hC hW ho h2 (by decide) hd hg rfl ?_
  show _ = Result.ok (Next.value (.slice (some ⟨X.g, 0, none⟩) X.n X.uc)) w
  generalize a.eval = ρ at e81 ⊢
  unfold execOp
  rw [hop]
  simp [e81, hc0, go_sem]
theorem LR3.s4 (X : LR3) (ok : LR3Ok X) {Q : Exit → Act → World → Prop} : StepG (opsOf 20 Try.f44) LR3.acts LR3.av X.val0 X.Wd X.a0 Q 4 := by
  intro γ listed a w o hF hC hW h1 ho h2
  obtain ⟨hd, hop, hg⟩ := fields2 (x := some 83) (y := Op.call { callee := .builtin .len, args := #[(.tmp 82)], argTypes := #[30] }) (z := none) (by kernel_rfl) ho
  have e82 : a.eval (.tmp 82) = .slice (some ⟨X.g, 0, none⟩) X.n X.uc := slotG hF ho h2 (j := 3) (d := 82) (by kernel_rfl) (by kernel_rfl) (by rw [ok.sz]; decide)
  refine st_pureG hF hC hW ho h2 (by decide) hd hg rfl ?_
  show _ = Result.ok (Next.value (.int .i64 (X.n : Int))) w
  generalize a.eval = ρ at e82 ⊢
  unfold execOp
  rw [hop]
  simp [e82, go_sem]
theorem LR3.s5 (X : LR3) (ok : LR3Ok X) {Q : Exit → Act → World → Prop} : StepG (opsOf 20 Try.f44) LR3.acts LR3.av X.val0 X.Wd X.a0 Q 5 := by
  intro γ listed a w o hF hC hW h1 ho h2
  obtain ⟨hd, hop, hg⟩ := fields2 (x := some 84) (y := Op.binOp .sub 3 (.tmp 83) (.const (.int .i64 1)) 3) (z := none) (by kernel_rfl) ho
  have e83 : a.eval (.tmp 83) = .int .i64 (X.n : Int) := slotG hF ho h2 (j := 4) (d := 83) (by kernel_rfl) (by kernel_rfl) (by rw [ok.sz]; decide)
  have ec1 : a.eval (.const (.int .i64 1)) = .int .i64 1 := rfl
  refine st_pureG hF hC hW ho h2 (by decide) hd hg rfl ?_
  show _ = Result.ok (Next.value (.int .i64 (X.m : Int))) w
  generalize a.eval = ρ at e83 ec1 ⊢
  unfold execOp
  rw [hop]
  simp [e83, ec1, ok.wm, go_sem]
theorem LR3.s6 (X : LR3) (ok : LR3Ok X) {Q : Exit → Act → World → Prop} : StepG (opsOf 20 Try.f44) LR3.acts LR3.av X.val0 X.Wd X.a0 Q 6 := by
  intro γ listed a w o hF hC hW h1 ho h2
  obtain ⟨hd, hop, hg⟩ := fields2 (x := some 85) (y := Op.indexAddr 30 (.tmp 80) (.tmp 84)) (z := none) (by kernel_rfl) ho
  have e80 : a.eval (.tmp 80) = .slice (some ⟨X.g, 0, none⟩) X.n X.uc := slotG hF ho h2 (j := 1) (d := 80) (by kernel_rfl) (by kernel_rfl) (by rw [ok.sz]; decide)
  have e84 : a.eval (.tmp 84) = .int .i64 (X.m : Int) := slotG hF ho h2 (j := 5) (d := 84) (by kernel_rfl) (by kernel_rfl) (by rw [ok.sz]; decide)
  refine st_pureG hF hC hW ho h2 (by decide) hd hg rfl ?_
  show _ = Result.ok (Next.value (.pointer (some ⟨X.g, X.m * 2, none⟩))) w
  generalize a.eval = ρ at e80 e84 ⊢
  unfold execOp
  rw [hop]
  simp [e80, e84, ok.hm, go_sem]
theorem LR3.s7 (X : LR3) (ok : LR3Ok X) {Q : Exit → Act → World → Prop} : StepG (opsOf 20 Try.f44) LR3.acts LR3.av X.val0 X.Wd X.a0 Q 7 := by
  intro γ listed a w o hF hC hW h1 ho h2
  obtain ⟨hd, hop, hg⟩ := fields2 (x := some 86) (y := Op.load 54 (.tmp 85)) (z := none) (by kernel_rfl) ho
  have e85 : a.eval (.tmp 85) = .pointer (some ⟨X.g, X.m * 2, none⟩) := slotG hF ho h2 (j := 6) (d := 85) (by kernel_rfl) (by kernel_rfl) (by rw [ok.sz]; decide)
  have hph := phase_leG (acts := LR3.acts) (m := 0) (x := 35) hC (unl (hF.lt ho) h1) rfl [7] (by kernel_rfl) (by decide)
  have hWW := hW
  generalize phase listed LR3.acts = n at hph hWW
  obtain rfl : n = 0 := by omega
  have hk : w = X.W := hWW
  have hc0 := ok.px
  have hc1 := ok.py
  rw [← hk] at hc0 hc1
  refine st_pureG hF hC hW ho h2 (by decide) hd hg rfl ?_
  show _ = Result.ok (Next.value (.agg #[.int .i64 X.lx, .int .i64 X.ly])) w
  generalize a.eval = ρ at e85 ⊢
  unfold execOp
  rw [hop]
  simp [e85, hc0, hc1, go_sem]
theorem LR3.s8 (X : LR3) (ok : LR3Ok X) {Q : Exit → Act → World → Prop} : StepG (opsOf 20 Try.f44) LR3.acts LR3.av X.val0 X.Wd X.a0 Q 8 := by
  intro γ listed a w o hF hC hW h1 ho h2
  obtain ⟨hd, hop, hg⟩ := fields2 (x := some 87) (y := Op.fieldAddr 76 (.tmp 6) 1) (z := none) (by kernel_rfl) ho
  have e6 : a.eval (.tmp 6) = .pointer (some ⟨X.sb, 0, none⟩) := (hF.eval0 (by kernel_rfl)).trans ok.e6
  refine st_pureG hF hC hW ho h2 (by decide) hd hg rfl ?_
  show _ = Result.ok (Next.value (.pointer (some ⟨X.sb, 1, none⟩))) w
  generalize a.eval = ρ at e6 ⊢
  unfold execOp
  rw [hop]
  simp [e6, go_sem]
theorem LR3.s9 (X : LR3) (ok : LR3Ok X) {Q : Exit → Act → World → Prop} : StepG (opsOf 20 Try.f44) LR3.acts LR3.av X.val0 X.Wd X.a0 Q 9 := by
  intro γ listed a w o hF hC hW h1 ho h2
  obtain ⟨hd, hop, hg⟩ := fields2 (x := some 88) (y := Op.load 25 (.tmp 87)) (z := none) (by kernel_rfl) ho
  have e87 : a.eval (.tmp 87) = .pointer (some ⟨X.sb, 1, none⟩) := slotG hF ho h2 (j := 8) (d := 87) (by kernel_rfl) (by kernel_rfl) (by rw [ok.sz]; decide)
  have hph := phase_leG (acts := LR3.acts) (m := 0) (x := 35) hC (unl (hF.lt ho) h1) rfl [16, 11, 10, 9] (by kernel_rfl) (by decide)
  have hWW := hW
  generalize phase listed LR3.acts = n at hph hWW
  obtain rfl : n = 0 := by omega
  have hk : w = X.W := hWW
  have hc0 := ok.cs
  rw [← hk] at hc0
  refine st_pureG hF hC hW ho h2 (by decide) hd hg rfl ?_
  show _ = Result.ok (Next.value (.slice (some ⟨X.nb, X.no, none⟩) 6 X.nc)) w
  generalize a.eval = ρ at e87 ⊢
  unfold execOp
  rw [hop]
  simp [e87, hc0, go_sem]
theorem LR3.s10 (X : LR3) (ok : LR3Ok X) {Q : Exit → Act → World → Prop} : StepG (opsOf 20 Try.f44) LR3.acts LR3.av X.val0 X.Wd X.a0 Q 10 := by
  intro γ listed a w o hF hC hW h1 ho h2
  obtain ⟨hd, hop, hg⟩ := fields2 (x := some 89) (y := Op.indexAddr 25 (.tmp 88) (.const (.int .i64 0))) (z := none) (by kernel_rfl) ho
  have e88 : a.eval (.tmp 88) = .slice (some ⟨X.nb, X.no, none⟩) 6 X.nc := slotG hF ho h2 (j := 9) (d := 88) (by kernel_rfl) (by kernel_rfl) (by rw [ok.sz]; decide)
  have ec1 : a.eval (.const (.int .i64 0)) = .int .i64 0 := rfl
  refine st_pureG hF hC hW ho h2 (by decide) hd hg rfl ?_
  show _ = Result.ok (Next.value (.pointer (some ⟨X.nb, X.no, none⟩))) w
  generalize a.eval = ρ at e88 ec1 ⊢
  unfold execOp
  rw [hop]
  simp [e88, ec1, go_sem]
theorem LR3.s11 (X : LR3) (ok : LR3Ok X) {Q : Exit → Act → World → Prop} : StepG (opsOf 20 Try.f44) LR3.acts LR3.av X.val0 X.Wd X.a0 Q 11 := by
  intro γ listed a w o hF hC hW h1 ho h2
  obtain ⟨hd, hop, hg⟩ := fields2 (x := some 90) (y := Op.load 3 (.tmp 89)) (z := none) (by kernel_rfl) ho
  have e89 : a.eval (.tmp 89) = .pointer (some ⟨X.nb, X.no, none⟩) := slotG hF ho h2 (j := 10) (d := 89) (by kernel_rfl) (by kernel_rfl) (by rw [ok.sz]; decide)
  have hph := phase_leG (acts := LR3.acts) (m := 0) (x := 35) hC (unl (hF.lt ho) h1) rfl [16, 11] (by kernel_rfl) (by decide)
  have hWW := hW
  generalize phase listed LR3.acts = n at hph hWW
  obtain rfl : n = 0 := by omega
  have hk : w = X.W := hWW
  have hc0 := ok.cx0
  rw [← hk] at hc0
  refine st_pureG hF hC hW ho h2 (by decide) hd hg rfl ?_
  show _ = Result.ok (Next.value (.int .i64 X.x0)) w
  generalize a.eval = ρ at e89 ⊢
  unfold execOp
  rw [hop]
  simp [e89, hc0, go_sem]
theorem LR3.s12 (X : LR3) (ok : LR3Ok X) {Q : Exit → Act → World → Prop} : StepG (opsOf 20 Try.f44) LR3.acts LR3.av X.val0 X.Wd X.a0 Q 12 := by
  intro γ listed a w o hF hC hW h1 ho h2
  obtain ⟨hd, hop, hg⟩ := fields2 (x := some 91) (y := Op.fieldAddr 76 (.tmp 6) 1) (z := none) (by kernel_rfl) ho
  have e6 : a.eval (.tmp 6) = .pointer (some ⟨X.sb, 0, none⟩) := (hF.eval0 (by kernel_rfl)).trans ok.e6
  refine st_pureG hF hC hW ho h2 (by decide) hd hg rfl ?_
  show _ = Result.ok (Next.value (.pointer (some ⟨X.sb, 1, none⟩))) w
  generalize a.eval = ρ at e6 ⊢
  unfold execOp
  rw [hop]
  simp [e6, go_sem]
theorem LR3.s13 (X : LR3) (ok : LR3Ok X) {Q : Exit → Act → World → Prop} : StepG (opsOf 20 Try.f44) LR3.acts LR3.av X.val0 X.Wd X.a0 Q 13 := by
  intro γ listed a w o hF hC hW h1 ho h2
  obtain ⟨hd, hop, hg⟩ := fields2 (x := some 92) (y := Op.load 25 (.tmp 91)) (z := none) (by kernel_rfl) ho
  have e91 : a.eval (.tmp 91) = .pointer (some ⟨X.sb, 1, none⟩) := slotG hF ho h2 (j := 12) (d := 91) (by kernel_rfl) (by kernel_rfl) (by rw [ok.sz]; decide)
  have hph := phase_leG (acts := LR3.acts) (m := 0) (x := 35) hC (unl (hF.lt ho) h1) rfl [16, 15, 14, 13] (by kernel_rfl) (by decide)
  have hWW := hW
  generalize phase listed LR3.acts = n at hph hWW
  obtain rfl : n = 0 := by omega
  have hk : w = X.W := hWW
  have hc0 := ok.cs
  rw [← hk] at hc0
  refine st_pureG hF hC hW ho h2 (by decide) hd hg rfl ?_
  show _ = Result.ok (Next.value (.slice (some ⟨X.nb, X.no, none⟩) 6 X.nc)) w
  generalize a.eval = ρ at e91 ⊢
  unfold execOp
  rw [hop]
  simp [e91, hc0, go_sem]
theorem LR3.s14 (X : LR3) (ok : LR3Ok X) {Q : Exit → Act → World → Prop} : StepG (opsOf 20 Try.f44) LR3.acts LR3.av X.val0 X.Wd X.a0 Q 14 := by
  intro γ listed a w o hF hC hW h1 ho h2
  obtain ⟨hd, hop, hg⟩ := fields2 (x := some 93) (y := Op.indexAddr 25 (.tmp 92) (.const (.int .i64 1))) (z := none) (by kernel_rfl) ho
  have e92 : a.eval (.tmp 92) = .slice (some ⟨X.nb, X.no, none⟩) 6 X.nc := slotG hF ho h2 (j := 13) (d := 92) (by kernel_rfl) (by kernel_rfl) (by rw [ok.sz]; decide)
  have ec1 : a.eval (.const (.int .i64 1)) = .int .i64 1 := rfl
  refine st_pureG hF hC hW ho h2 (by decide) hd hg rfl ?_
  show _ = Result.ok (Next.value (.pointer (some ⟨X.nb, X.no + 1, none⟩))) w
  generalize a.eval = ρ at e92 ec1 ⊢
  unfold execOp
  rw [hop]
  simp [e92, ec1, go_sem]
theorem LR3.s15 (X : LR3) (ok : LR3Ok X) {Q : Exit → Act → World → Prop} : StepG (opsOf 20 Try.f44) LR3.acts LR3.av X.val0 X.Wd X.a0 Q 15 := by
  intro γ listed a w o hF hC hW h1 ho h2
  obtain ⟨hd, hop, hg⟩ := fields2 (x := some 94) (y := Op.load 3 (.tmp 93)) (z := none) (by kernel_rfl) ho
  have e93 : a.eval (.tmp 93) = .pointer (some ⟨X.nb, X.no + 1, none⟩) := slotG hF ho h2 (j := 14) (d := 93) (by kernel_rfl) (by kernel_rfl) (by rw [ok.sz]; decide)
  have hph := phase_leG (acts := LR3.acts) (m := 0) (x := 35) hC (unl (hF.lt ho) h1) rfl [16, 15] (by kernel_rfl) (by decide)
  have hWW := hW
  generalize phase listed LR3.acts = n at hph hWW
  obtain rfl : n = 0 := by omega
  have hk : w = X.W := hWW
  have hc0 := ok.cy0
  rw [← hk] at hc0
  refine st_pureG hF hC hW ho h2 (by decide) hd hg rfl ?_
  show _ = Result.ok (Next.value (.int .i64 X.y0)) w
  generalize a.eval = ρ at e93 ⊢
  unfold execOp
  rw [hop]
  simp [e93, hc0, go_sem]
theorem LR3.s16 (X : LR3) (ok : LR3Ok X) {Q : Exit → Act → World → Prop} : StepG (opsOf 20 Try.f44) LR3.acts LR3.av X.val0 X.Wd X.a0 Q 16 := by
  intro γ listed a w o hF hC hW h1 ho h2
  obtain ⟨hd, hop, hg⟩ := fields2 (x := some 95) (y := Op.build 54 #[(0, (.tmp 90)), (1, (.tmp 94))]) (z := none) (by kernel_rfl) ho
  have e90 : a.eval (.tmp 90) = .int .i64 X.x0 := slotG hF ho h2 (j := 11) (d := 90) (by kernel_rfl) (by kernel_rfl) (by rw [ok.sz]; decide)
  have e94 : a.eval (.tmp 94) = .int .i64 X.y0 := slotG hF ho h2 (j := 15) (d := 94) (by kernel_rfl) (by kernel_rfl) (by rw [ok.sz]; decide)
  refine st_pureG hF hC hW ho h2 (by decide) hd hg rfl ?_
  show _ = Result.ok (Next.value (.agg #[.int .i64 X.x0, .int .i64 X.y0])) w
  generalize a.eval = ρ at e90 e94 ⊢
  unfold execOp
  rw [hop]
  simp [e90, e94, go_sem]
theorem LR3.s17 (X : LR3) (ok : LR3Ok X) {Q : Exit → Act → World → Prop} : StepG (opsOf 20 Try.f44) LR3.acts LR3.av X.val0 X.Wd X.a0 Q 17 := by
  intro γ listed a w o hF hC hW h1 ho h2
  obtain ⟨hd, hop, hg⟩ := fields2 (x := some 96) (y := Op.fieldAddr 76 (.tmp 6) 1) (z := none) (by kernel_rfl) ho
  have e6 : a.eval (.tmp 6) = .pointer (some ⟨X.sb, 0, none⟩) := (hF.eval0 (by kernel_rfl)).trans ok.e6
  refine st_pureG hF hC hW ho h2 (by decide) hd hg rfl ?_
  show _ = Result.ok (Next.value (.pointer (some ⟨X.sb, 1, none⟩))) w
  generalize a.eval = ρ at e6 ⊢
  unfold execOp
  rw [hop]
  simp [e6, go_sem]
theorem LR3.s18 (X : LR3) (ok : LR3Ok X) {Q : Exit → Act → World → Prop} : StepG (opsOf 20 Try.f44) LR3.acts LR3.av X.val0 X.Wd X.a0 Q 18 := by
  intro γ listed a w o hF hC hW h1 ho h2
  obtain ⟨hd, hop, hg⟩ := fields2 (x := some 97) (y := Op.load 25 (.tmp 96)) (z := none) (by kernel_rfl) ho
  have e96 : a.eval (.tmp 96) = .pointer (some ⟨X.sb, 1, none⟩) := slotG hF ho h2 (j := 17) (d := 96) (by kernel_rfl) (by kernel_rfl) (by rw [ok.sz]; decide)
  have hph := phase_leG (acts := LR3.acts) (m := 0) (x := 35) hC (unl (hF.lt ho) h1) rfl [25, 20, 19, 18] (by kernel_rfl) (by decide)
  have hWW := hW
  generalize phase listed LR3.acts = n at hph hWW
  obtain rfl : n = 0 := by omega
  have hk : w = X.W := hWW
  have hc0 := ok.cs
  rw [← hk] at hc0
  refine st_pureG hF hC hW ho h2 (by decide) hd hg rfl ?_
  show _ = Result.ok (Next.value (.slice (some ⟨X.nb, X.no, none⟩) 6 X.nc)) w
  generalize a.eval = ρ at e96 ⊢
  unfold execOp
  rw [hop]
  simp [e96, hc0, go_sem]
theorem LR3.s19 (X : LR3) (ok : LR3Ok X) {Q : Exit → Act → World → Prop} : StepG (opsOf 20 Try.f44) LR3.acts LR3.av X.val0 X.Wd X.a0 Q 19 := by
  intro γ listed a w o hF hC hW h1 ho h2
  obtain ⟨hd, hop, hg⟩ := fields2 (x := some 98) (y := Op.indexAddr 25 (.tmp 97) (.const (.int .i64 2))) (z := none) (by kernel_rfl) ho
  have e97 : a.eval (.tmp 97) = .slice (some ⟨X.nb, X.no, none⟩) 6 X.nc := slotG hF ho h2 (j := 18) (d := 97) (by kernel_rfl) (by kernel_rfl) (by rw [ok.sz]; decide)
  have ec1 : a.eval (.const (.int .i64 2)) = .int .i64 2 := rfl
  refine st_pureG hF hC hW ho h2 (by decide) hd hg rfl ?_
  show _ = Result.ok (Next.value (.pointer (some ⟨X.nb, X.no + 2, none⟩))) w
  generalize a.eval = ρ at e97 ec1 ⊢
  unfold execOp
  rw [hop]
  simp [e97, ec1, go_sem]
theorem LR3.s20 (X : LR3) (ok : LR3Ok X) {Q : Exit → Act → World → Prop} : StepG (opsOf 20 Try.f44) LR3.acts LR3.av X.val0 X.Wd X.a0 Q 20 := by
  intro γ listed a w o hF hC hW h1 ho h2
  obtain ⟨hd, hop, hg⟩ := fields2 (x := some 99) (y := Op.load 3 (.tmp 98)) (z := none) (by kernel_rfl) ho
  have e98 : a.eval (.tmp 98) = .pointer (some ⟨X.nb, X.no + 2, none⟩) := slotG hF ho h2 (j := 19) (d := 98) (by kernel_rfl) (by kernel_rfl) (by rw [ok.sz]; decide)
  have hph := phase_leG (acts := LR3.acts) (m := 0) (x := 35) hC (unl (hF.lt ho) h1) rfl [25, 20] (by kernel_rfl) (by decide)
  have hWW := hW
  generalize phase listed LR3.acts = n at hph hWW
  obtain rfl : n = 0 := by omega
  have hk : w = X.W := hWW
  have hc0 := ok.cx1
  rw [← hk] at hc0
  refine st_pureG hF hC hW ho h2 (by decide) hd hg rfl ?_
  show _ = Result.ok (Next.value (.int .i64 X.x1)) w
  generalize a.eval = ρ at e98 ⊢
  unfold execOp
  rw [hop]
  simp [e98, hc0, go_sem]
theorem LR3.s21 (X : LR3) (ok : LR3Ok X) {Q : Exit → Act → World → Prop} : StepG (opsOf 20 Try.f44) LR3.acts LR3.av X.val0 X.Wd X.a0 Q 21 := by
  intro γ listed a w o hF hC hW h1 ho h2
  obtain ⟨hd, hop, hg⟩ := fields2 (x := some 100) (y := Op.fieldAddr 76 (.tmp 6) 1) (z := none) (by kernel_rfl) ho
  have e6 : a.eval (.tmp 6) = .pointer (some ⟨X.sb, 0, none⟩) := (hF.eval0 (by kernel_rfl)).trans ok.e6
  refine st_pureG hF hC hW ho h2 (by decide) hd hg rfl ?_
  show _ = Result.ok (Next.value (.pointer (some ⟨X.sb, 1, none⟩))) w
  generalize a.eval = ρ at e6 ⊢
  unfold execOp
  rw [hop]
  simp [e6, go_sem]
theorem LR3.s22 (X : LR3) (ok : LR3Ok X) {Q : Exit → Act → World → Prop} : StepG (opsOf 20 Try.f44) LR3.acts LR3.av X.val0 X.Wd X.a0 Q 22 := by
  intro γ listed a w o hF hC hW h1 ho h2
  obtain ⟨hd, hop, hg⟩ := fields2 (x := some 101) (y := Op.load 25 (.tmp 100)) (z := none) (by kernel_rfl) ho
  have e100 : a.eval (.tmp 100) = .pointer (some ⟨X.sb, 1, none⟩) := slotG hF ho h2 (j := 21) (d := 100) (by kernel_rfl) (by kernel_rfl) (by rw [ok.sz]; decide)
  have hph := phase_leG (acts := LR3.acts) (m := 0) (x := 35) hC (unl (hF.lt ho) h1) rfl [25, 24, 23, 22] (by kernel_rfl) (by decide)
  have hWW := hW
  generalize phase listed LR3.acts = n at hph hWW
  obtain rfl : n = 0 := by omega
  have hk : w = X.W := hWW
  have hc0 := ok.cs
  rw [← hk] at hc0
  refine st_pureG hF hC hW ho h2 (by decide) hd hg rfl ?_
  show _ = Result.ok (Next.value (.slice (some ⟨X.nb, X.no, none⟩) 6 X.nc)) w
  generalize a.eval = ρ at e100 ⊢
  unfold execOp
  rw [hop]
  simp [e100, hc0, go_sem]
theorem LR3.s23 (X : LR3) (ok : LR3Ok X) {Q : Exit → Act → World → Prop} : StepG (opsOf 20 Try.f44) LR3.acts LR3.av X.val0 X.Wd X.a0 Q 23 := by
  intro γ listed a w o hF hC hW h1 ho h2
  obtain ⟨hd, hop, hg⟩ := fields2 (x := some 102) (y := Op.indexAddr 25 (.tmp 101) (.const (.int .i64 3))) (z := none) (by kernel_rfl) ho
  have e101 : a.eval (.tmp 101) = .slice (some ⟨X.nb, X.no, none⟩) 6 X.nc := slotG hF ho h2 (j := 22) (d := 101) (by kernel_rfl) (by kernel_rfl) (by rw [ok.sz]; decide)
  have ec1 : a.eval (.const (.int .i64 3)) = .int .i64 3 := rfl
  refine st_pureG hF hC hW ho h2 (by decide) hd hg rfl ?_
  show _ = Result.ok (Next.value (.pointer (some ⟨X.nb, X.no + 3, none⟩))) w
  generalize a.eval = ρ at e101 ec1 ⊢
  unfold execOp
  rw [hop]
  simp [e101, ec1, go_sem]
theorem LR3.s24 (X : LR3) (ok : LR3Ok X) {Q : Exit → Act → World → Prop} : StepG (opsOf 20 Try.f44) LR3.acts LR3.av X.val0 X.Wd X.a0 Q 24 := by
  intro γ listed a w o hF hC hW h1 ho h2
  obtain ⟨hd, hop, hg⟩ := fields2 (x := some 103) (y := Op.load 3 (.tmp 102)) (z := none) (by kernel_rfl) ho
  have e102 : a.eval (.tmp 102) = .pointer (some ⟨X.nb, X.no + 3, none⟩) := slotG hF ho h2 (j := 23) (d := 102) (by kernel_rfl) (by kernel_rfl) (by rw [ok.sz]; decide)
  have hph := phase_leG (acts := LR3.acts) (m := 0) (x := 35) hC (unl (hF.lt ho) h1) rfl [25, 24] (by kernel_rfl) (by decide)
  have hWW := hW
  generalize phase listed LR3.acts = n at hph hWW
  obtain rfl : n = 0 := by omega
  have hk : w = X.W := hWW
  have hc0 := ok.cy1
  rw [← hk] at hc0
  refine st_pureG hF hC hW ho h2 (by decide) hd hg rfl ?_
  show _ = Result.ok (Next.value (.int .i64 X.y1)) w
  generalize a.eval = ρ at e102 ⊢
  unfold execOp
  rw [hop]
  simp [e102, hc0, go_sem]
theorem LR3.s25 (X : LR3) (ok : LR3Ok X) {Q : Exit → Act → World → Prop} : StepG (opsOf 20 Try.f44) LR3.acts LR3.av X.val0 X.Wd X.a0 Q 25 := by
  intro γ listed a w o hF hC hW h1 ho h2
  obtain ⟨hd, hop, hg⟩ := fields2 (x := some 104) (y := Op.build 54 #[(0, (.tmp 99)), (1, (.tmp 103))]) (z := none) (by kernel_rfl) ho
  have e99 : a.eval (.tmp 99) = .int .i64 X.x1 := slotG hF ho h2 (j := 20) (d := 99) (by kernel_rfl) (by kernel_rfl) (by rw [ok.sz]; decide)
  have e103 : a.eval (.tmp 103) = .int .i64 X.y1 := slotG hF ho h2 (j := 24) (d := 103) (by kernel_rfl) (by kernel_rfl) (by rw [ok.sz]; decide)
  refine st_pureG hF hC hW ho h2 (by decide) hd hg rfl ?_
  show _ = Result.ok (Next.value (.agg #[.int .i64 X.x1, .int .i64 X.y1])) w
  generalize a.eval = ρ at e99 e103 ⊢
  unfold execOp
  rw [hop]
  simp [e99, e103, go_sem]
theorem LR3.s26 (X : LR3) (ok : LR3Ok X) {Q : Exit → Act → World → Prop} : StepG (opsOf 20 Try.f44) LR3.acts LR3.av X.val0 X.Wd X.a0 Q 26 := by
  intro γ listed a w o hF hC hW h1 ho h2
  obtain ⟨hd, hop, hg⟩ := fields2 (x := some 105) (y := Op.fieldAddr 76 (.tmp 6) 1) (z := none) (by kernel_rfl) ho
  have e6 : a.eval (.tmp 6) = .pointer (some ⟨X.sb, 0, none⟩) := (hF.eval0 (by kernel_rfl)).trans ok.e6
  refine st_pureG hF hC hW ho h2 (by decide) hd hg rfl ?_
  show _ = Result.ok (Next.value (.pointer (some ⟨X.sb, 1, none⟩))) w
  generalize a.eval = ρ at e6 ⊢
  unfold execOp
  rw [hop]
  simp [e6, go_sem]
theorem LR3.s27 (X : LR3) (ok : LR3Ok X) {Q : Exit → Act → World → Prop} : StepG (opsOf 20 Try.f44) LR3.acts LR3.av X.val0 X.Wd X.a0 Q 27 := by
  intro γ listed a w o hF hC hW h1 ho h2
  obtain ⟨hd, hop, hg⟩ := fields2 (x := some 106) (y := Op.load 25 (.tmp 105)) (z := none) (by kernel_rfl) ho
  have e105 : a.eval (.tmp 105) = .pointer (some ⟨X.sb, 1, none⟩) := slotG hF ho h2 (j := 26) (d := 105) (by kernel_rfl) (by kernel_rfl) (by rw [ok.sz]; decide)
  have hph := phase_leG (acts := LR3.acts) (m := 0) (x := 35) hC (unl (hF.lt ho) h1) rfl [34, 29, 28, 27] (by kernel_rfl) (by decide)
  have hWW := hW
  generalize phase listed LR3.acts = n at hph hWW
  obtain rfl : n = 0 := by omega
  have hk : w = X.W := hWW
  have hc0 := ok.cs
  rw [← hk] at hc0
  refine st_pureG hF hC hW ho h2 (by decide) hd hg rfl ?_
  show _ = Result.ok (Next.value (.slice (some ⟨X.nb, X.no, none⟩) 6 X.nc)) w
  generalize a.eval = ρ at e105 ⊢
  unfold execOp
  rw [hop]
  simp [e105, hc0, go_sem]
theorem LR3.s28 (X : LR3) (ok : LR3Ok X) {Q : Exit → Act → World → Prop} : StepG (opsOf 20 Try.f44) LR3.acts LR3.av X.val0 X.Wd X.a0 Q 28 := by
  intro γ listed a w o hF hC hW h1 ho h2
  obtain ⟨hd, hop, hg⟩ := fields2 (x := some 107) (y := Op.indexAddr 25 (.tmp 106) (.const (.int .i64 4))) (z := none) (by kernel_rfl) ho
  have e106 : a.eval (.tmp 106) = .slice (some ⟨X.nb, X.no, none⟩) 6 X.nc := slotG hF ho h2 (j := 27) (d := 106) (by kernel_rfl) (by kernel_rfl) (by rw [ok.sz]; decide)
  have ec1 : a.eval (.const (.int .i64 4)) = .int .i64 4 := rfl
  refine st_pureG hF hC hW ho h2 (by decide) hd hg rfl ?_
  show _ = Result.ok (Next.value (.pointer (some ⟨X.nb, X.no + 4, none⟩))) w
  generalize a.eval = ρ at e106 ec1 ⊢
  unfold execOp
  rw [hop]
  simp [e106, ec1, go_sem]
theorem LR3.s29 (X : LR3) (ok : LR3Ok X) {Q : Exit → Act → World → Prop} : StepG (opsOf 20 Try.f44) LR3.acts LR3.av X.val0 X.Wd X.a0 Q 29 := by
  intro γ listed a w o hF hC hW h1 ho h2
  obtain ⟨hd, hop, hg⟩ := fields2 (x := some 108) (y := Op.load 3 (.tmp 107)) (z := none) (by kernel_rfl) ho
  have e107 : a.eval (.tmp 107) = .pointer (some ⟨X.nb, X.no + 4, none⟩) := slotG hF ho h2 (j := 28) (d := 107) (by kernel_rfl) (by kernel_rfl) (by rw [ok.sz]; decide)
  have hph := phase_leG (acts := LR3.acts) (m := 0) (x := 35) hC (unl (hF.lt ho) h1) rfl [34, 29] (by kernel_rfl) (by decide)
  have hWW := hW
  generalize phase listed LR3.acts = n at hph hWW
  obtain rfl : n = 0 := by omega
  have hk : w = X.W := hWW
  have hc0 := ok.cx2
  rw [← hk] at hc0
  refine st_pureG hF hC hW ho h2 (by decide) hd hg rfl ?_
  show _ = Result.ok (Next.value (.int .i64 X.x2)) w
  generalize a.eval = ρ at e107 ⊢
  unfold execOp
  rw [hop]
  simp [e107, hc0, go_sem]
theorem LR3.s30 (X : LR3) (ok : LR3Ok X) {Q : Exit → Act → World → Prop} : StepG (opsOf 20 Try.f44) LR3.acts LR3.av X.val0 X.Wd X.a0 Q 30 := by
  intro γ listed a w o hF hC hW h1 ho h2
  obtain ⟨hd, hop, hg⟩ := fields2 (x := some 109) (y := Op.fieldAddr 76 (.tmp 6) 1) (z := none) (by kernel_rfl) ho
  have e6 : a.eval (.tmp 6) = .pointer (some ⟨X.sb, 0, none⟩) := (hF.eval0 (by kernel_rfl)).trans ok.e6
  refine st_pureG hF hC hW ho h2 (by decide) hd hg rfl ?_
  show _ = Result.ok (Next.value (.pointer (some ⟨X.sb, 1, none⟩))) w
  generalize a.eval = ρ at e6 ⊢
  unfold execOp
  rw [hop]
  simp [e6, go_sem]
theorem LR3.s31 (X : LR3) (ok : LR3Ok X) {Q : Exit → Act → World → Prop} : StepG (opsOf 20 Try.f44) LR3.acts LR3.av X.val0 X.Wd X.a0 Q 31 := by
  intro γ listed a w o hF hC hW h1 ho h2
  obtain ⟨hd, hop, hg⟩ := fields2 (x := some 110) (y := Op.load 25 (.tmp 109)) (z := none) (by kernel_rfl) ho
  have e109 : a.eval (.tmp 109) = .pointer (some ⟨X.sb, 1, none⟩) := slotG hF ho h2 (j := 30) (d := 109) (by kernel_rfl) (by kernel_rfl) (by rw [ok.sz]; decide)
  have hph := phase_leG (acts := LR3.acts) (m := 0) (x := 35) hC (unl (hF.lt ho) h1) rfl [34, 33, 32, 31] (by kernel_rfl) (by decide)
  have hWW := hW
  generalize phase listed LR3.acts = n at hph hWW
  obtain rfl : n = 0 := by omega
  have hk : w = X.W := hWW
  have hc0 := ok.cs
  rw [← hk] at hc0
  refine st_pureG hF hC hW ho h2 (by decide) hd hg rfl ?_
  show _ = Result.ok (Next.value (.slice (some ⟨X.nb, X.no, none⟩) 6 X.nc)) w
  generalize a.eval = ρ at e109 ⊢
  unfold execOp
  rw [hop]
  simp [e109, hc0, go_sem]
theorem LR3.s32 (X : LR3) (ok : LR3Ok X) {Q : Exit → Act → World → Prop} : StepG (opsOf 20 Try.f44) LR3.acts LR3.av X.val0 X.Wd X.a0 Q 32 := by
  intro γ listed a w o hF hC hW h1 ho h2
  obtain ⟨hd, hop, hg⟩ := fields2 (x := some 111) (y := Op.indexAddr 25 (.tmp 110) (.const (.int .i64 5))) (z := none) (by kernel_rfl) ho
  have e110 : a.eval (.tmp 110) = .slice (some ⟨X.nb, X.no, none⟩) 6 X.nc := slotG hF ho h2 (j := 31) (d := 110) (by kernel_rfl) (by kernel_rfl) (by rw [ok.sz]; decide)
  have ec1 : a.eval (.const (.int .i64 5)) = .int .i64 5 := rfl
  refine st_pureG hF hC hW ho h2 (by decide) hd hg rfl ?_
  show _ = Result.ok (Next.value (.pointer (some ⟨X.nb, X.no + 5, none⟩))) w
  generalize a.eval = ρ at e110 ec1 ⊢
  unfold execOp
  rw [hop]
  simp [e110, ec1, go_sem]
theorem LR3.s33 (X : LR3) (ok : LR3Ok X) {Q : Exit → Act → World → Prop} : StepG (opsOf 20 Try.f44) LR3.acts LR3.av X.val0 X.Wd X.a0 Q 33 := by
  intro γ listed a w o hF hC hW h1 ho h2
  obtain ⟨hd, hop, hg⟩ := fields2 (x := some 112) (y := Op.load 3 (.tmp 111)) (z := none) (by kernel_rfl) ho
  have e111 : a.eval (.tmp 111) = .pointer (some ⟨X.nb, X.no + 5, none⟩) := slotG hF ho h2 (j := 32) (d := 111) (by kernel_rfl) (by kernel_rfl) (by rw [ok.sz]; decide)
  have hph := phase_leG (acts := LR3.acts) (m := 0) (x := 35) hC (unl (hF.lt ho) h1) rfl [34, 33] (by kernel_rfl) (by decide)
  have hWW := hW
  generalize phase listed LR3.acts = n at hph hWW
  obtain rfl : n = 0 := by omega
  have hk : w = X.W := hWW
  have hc0 := ok.cy2
  rw [← hk] at hc0
  refine st_pureG hF hC hW ho h2 (by decide) hd hg rfl ?_
  show _ = Result.ok (Next.value (.int .i64 X.y2)) w
  generalize a.eval = ρ at e111 ⊢
  unfold execOp
  rw [hop]
  simp [e111, hc0, go_sem]
theorem LR3.s34 (X : LR3) (ok : LR3Ok X) {Q : Exit → Act → World → Prop} : StepG (opsOf 20 Try.f44) LR3.acts LR3.av X.val0 X.Wd X.a0 Q 34 := by
  intro γ listed a w o hF hC hW h1 ho h2
  obtain ⟨hd, hop, hg⟩ := fields2 (x := some 113) (y := Op.build 54 #[(0, (.tmp 108)), (1, (.tmp 112))]) (z := none) (by kernel_rfl) ho
  have e108 : a.eval (.tmp 108) = .int .i64 X.x2 := slotG hF ho h2 (j := 29) (d := 108) (by kernel_rfl) (by kernel_rfl) (by rw [ok.sz]; decide)
  have e112 : a.eval (.tmp 112) = .int .i64 X.y2 := slotG hF ho h2 (j := 33) (d := 112) (by kernel_rfl) (by kernel_rfl) (by rw [ok.sz]; decide)
  refine st_pureG hF hC hW ho h2 (by decide) hd hg rfl ?_
  show _ = Result.ok (Next.value (.agg #[.int .i64 X.x2, .int .i64 X.y2])) w
  generalize a.eval = ρ at e108 e112 ⊢
  unfold execOp
  rw [hop]
  simp [e108, e112, go_sem]
theorem LR3.s35 (X : LR3) (ok : LR3Ok X) {Q : Exit → Act → World → Prop} : StepG (opsOf 20 Try.f44) LR3.acts LR3.av X.val0 X.Wd X.a0 Q 35 := by
  intro γ listed a w o hF hC hW h1 ho h2
  obtain ⟨hd, hop, hg⟩ := fields2 (x := some 114) (y := Op.buildSlice 30 4 #[(0, (.tmp 86)), (1, (.tmp 95)), (2, (.tmp 104)), (3, (.tmp 113))]) (z := none) (by kernel_rfl) ho
  have e86 : a.eval (.tmp 86) = .agg #[.int .i64 X.lx, .int .i64 X.ly] := slotG hF ho h2 (j := 7) (d := 86) (by kernel_rfl) (by kernel_rfl) (by rw [ok.sz]; decide)
  have e95 : a.eval (.tmp 95) = .agg #[.int .i64 X.x0, .int .i64 X.y0] := slotG hF ho h2 (j := 16) (d := 95) (by kernel_rfl) (by kernel_rfl) (by rw [ok.sz]; decide)
  have e104 : a.eval (.tmp 104) = .agg #[.int .i64 X.x1, .int .i64 X.y1] := slotG hF ho h2 (j := 25) (d := 104) (by kernel_rfl) (by kernel_rfl) (by rw [ok.sz]; decide)
  have e113 : a.eval (.tmp 113) = .agg #[.int .i64 X.x2, .int .i64 X.y2] := slotG hF ho h2 (j := 34) (d := 113) (by kernel_rfl) (by kernel_rfl) (by rw [ok.sz]; decide)
  have hu := unl (hF.lt ho) h1
  refine st_actG (k := 0) LR3.chain LR3.nodup rfl hF hC hW h1 ho h2 (Or.inr ⟨114, hd, rfl⟩) (LR3.inj (by kernel_rfl) hu) hg ?_
  intro hW0 K hK
  have hw0 : w = X.W := hW0
  have hr : (execOp a.eval o).run Try.prog X.W = .ok (.value (.slice (some ⟨X.W.heap.size, 0, none⟩) 4 4)) (X.W.alloc (.cells #[.int .i64 X.lx, .int .i64 X.ly, .int .i64 X.x0, .int .i64 X.y0, .int .i64 X.x1, .int .i64 X.y1, .int .i64 X.x2, .int .i64 X.y2] 54)) := by
    generalize a.eval = ρ at e86 e95 e104 e113 ⊢
    unfold execOp
    rw [hop]
    simp [e86, e95, e104, e113, go_sem]
  unfold Oper.wp
  rw [hw0, hr]
  exact hK _ _ ⟨rfl, rfl⟩
theorem LR3.s36 (X : LR3) (ok : LR3Ok X) {Q : Exit → Act → World → Prop} : StepG (opsOf 20 Try.f44) LR3.acts LR3.av X.val0 X.Wd X.a0 Q 36 := by
  intro γ listed a w o hF hC hW h1 ho h2
  obtain ⟨hd, hop, hg⟩ := fields2 (x := some 8) (y := Op.assign (.tmp 114)) (z := none) (by kernel_rfl) ho
  have e114 : a.eval (.tmp 114) = γ 0 := slotG hF ho h2 (j := 35) (d := 114) (by kernel_rfl) (by kernel_rfl) (by rw [ok.sz]; decide)
  have hu := unl (hF.lt ho) h1
  refine st_actG (k := 1) LR3.chain LR3.nodup rfl hF hC hW h1 ho h2 (Or.inr ⟨8, hd, rfl⟩) (LR3.inj (by kernel_rfl) hu) hg ?_
  intro hW0 K hK
  obtain ⟨g0, hw1⟩ := hW0
  rw [g0] at e114
  have hr : (execOp a.eval o).run Try.prog w = .ok (.value (.slice (some ⟨X.W.heap.size, 0, none⟩) 4 4)) w := by
    generalize a.eval = ρ at e114 ⊢
    unfold execOp
    rw [hop]
    simp [e114, go_sem]
  unfold Oper.wp
  rw [hr]
  exact hK _ _ ⟨rfl, hw1⟩
theorem LR3.size : (opsOf 20 Try.f44).size = 37 := by kernel_rfl
theorem LR3.steps (X : LR3) (ok : LR3Ok X) {Q : Exit → Act → World → Prop} (i : Nat) (hi : i < (opsOf 20 Try.f44).size) : StepG (opsOf 20 Try.f44) LR3.acts LR3.av X.val0 X.Wd X.a0 Q i := by
  rw [LR3.size] at hi
  have hc : i = 0 ∨ i = 1 ∨ i = 2 ∨ i = 3 ∨ i = 4 ∨ i = 5 ∨ i = 6 ∨ i = 7 ∨ i = 8 ∨ i = 9 ∨ i = 10 ∨ i = 11 ∨ i = 12 ∨ i = 13 ∨ i = 14 ∨ i = 15 ∨ i = 16 ∨ i = 17 ∨ i = 18 ∨ i = 19 ∨ i = 20 ∨ i = 21 ∨ i = 22 ∨ i = 23 ∨ i = 24 ∨ i = 25 ∨ i = 26 ∨ i = 27 ∨ i = 28 ∨ i = 29 ∨ i = 30 ∨ i = 31 ∨ i = 32 ∨ i = 33 ∨ i = 34 ∨ i = 35 ∨ i = 36 := by omega
  rcases hc with rfl | rfl | rfl | rfl | rfl | rfl | rfl | rfl | rfl | rfl | rfl | rfl | rfl | rfl | rfl | rfl | rfl | rfl | rfl | rfl | rfl | rfl | rfl | rfl | rfl | rfl | rfl | rfl | rfl | rfl | rfl | rfl | rfl | rfl | rfl | rfl | rfl
  · exact LR3.s0 X ok
  · exact LR3.s1 X ok
  · exact LR3.s2 X ok
  · exact LR3.s3 X ok
  · exact LR3.s4 X ok
  · exact LR3.s5 X ok
  · exact LR3.s6 X ok
  · exact LR3.s7 X ok
  · exact LR3.s8 X ok
  · exact LR3.s9 X ok
  · exact LR3.s10 X ok
  · exact LR3.s11 X ok
  · exact LR3.s12 X ok
  · exact LR3.s13 X ok
  · exact LR3.s14 X ok
  · exact LR3.s15 X ok
  · exact LR3.s16 X ok
  · exact LR3.s17 X ok
  · exact LR3.s18 X ok
  · exact LR3.s19 X ok
  · exact LR3.s20 X ok
  · exact LR3.s21 X ok
  · exact LR3.s22 X ok
  · exact LR3.s23 X ok
  · exact LR3.s24 X ok
  · exact LR3.s25 X ok
  · exact LR3.s26 X ok
  · exact LR3.s27 X ok
  · exact LR3.s28 X ok
  · exact LR3.s29 X ok
  · exact LR3.s30 X ok
  · exact LR3.s31 X ok
  · exact LR3.s32 X ok
  · exact LR3.s33 X ok
  · exact LR3.s34 X ok
  · exact LR3.s35 X ok
  · exact LR3.s36 X ok
theorem LR3.puts (X : LR3) (γ : Nat → Value) (a0 : Act) : putsL (valG LR3.av X.val0 γ) (opsOf 20 Try.f44).toList a0 = (((((((((((((((((((((((((((((((((((((a0.put (some 79) (.pointer (some ⟨X.bx, 0, none⟩))).put (some 80) (.slice (some ⟨X.g, 0, none⟩) X.n X.uc)).put (some 81) (.pointer (some ⟨X.bx, 0, none⟩))).put (some 82) (.slice (some ⟨X.g, 0, none⟩) X.n X.uc)).put (some 83) (.int .i64 (X.n : Int))).put (some 84) (.int .i64 (X.m : Int))).put (some 85) (.pointer (some ⟨X.g, X.m * 2, none⟩))).put (some 86) (.agg #[.int .i64 X.lx, .int .i64 X.ly])).put (some 87) (.pointer (some ⟨X.sb, 1, none⟩))).put (some 88) (.slice (some ⟨X.nb, X.no, none⟩) 6 X.nc)).put (some 89) (.pointer (some ⟨X.nb, X.no, none⟩))).put (some 90) (.int .i64 X.x0)).put (some 91) (.pointer (some ⟨X.sb, 1, none⟩))).put (some 92) (.slice (some ⟨X.nb, X.no, none⟩) 6 X.nc)).put (some 93) (.pointer (some ⟨X.nb, X.no + 1, none⟩))).put (some 94) (.int .i64 X.y0)).put (some 95) (.agg #[.int .i64 X.x0, .int .i64 X.y0])).put (some 96) (.pointer (some ⟨X.sb, 1, none⟩))).put (some 97) (.slice (some ⟨X.nb, X.no, none⟩) 6 X.nc)).put (some 98) (.pointer (some ⟨X.nb, X.no + 2, none⟩))).put (some 99) (.int .i64 X.x1)).put (some 100) (.pointer (some ⟨X.sb, 1, none⟩))).put (some 101) (.slice (some ⟨X.nb, X.no, none⟩) 6 X.nc)).put (some 102) (.pointer (some ⟨X.nb, X.no + 3, none⟩))).put (some 103) (.int .i64 X.y1)).put (some 104) (.agg #[.int .i64 X.x1, .int .i64 X.y1])).put (some 105) (.pointer (some ⟨X.sb, 1, none⟩))).put (some 106) (.slice (some ⟨X.nb, X.no, none⟩) 6 X.nc)).put (some 107) (.pointer (some ⟨X.nb, X.no + 4, none⟩))).put (some 108) (.int .i64 X.x2)).put (some 109) (.pointer (some ⟨X.sb, 1, none⟩))).put (some 110) (.slice (some ⟨X.nb, X.no, none⟩) 6 X.nc)).put (some 111) (.pointer (some ⟨X.nb, X.no + 5, none⟩))).put (some 112) (.int .i64 X.y2)).put (some 113) (.agg #[.int .i64 X.x2, .int .i64 X.y2])).put (some 114) (γ 0)).put (some 8) (γ 1)) := by kernel_rfl
/-- The region, whatever order comes up. -/
theorem LR3.run (X : LR3) (ok : LR3Ok X) {Q : Exit → Act → World → Prop} (w : World) (h0 : X.Wd 0 (fun _ => undef) w.drew) (hend : ∀ (γ : Nat → Value) w', X.Wd 2 γ w' → Q .normal (((((((((((((((((((((((((((((((((((((X.a0.put (some 79) (.pointer (some ⟨X.bx, 0, none⟩))).put (some 80) (.slice (some ⟨X.g, 0, none⟩) X.n X.uc)).put (some 81) (.pointer (some ⟨X.bx, 0, none⟩))).put (some 82) (.slice (some ⟨X.g, 0, none⟩) X.n X.uc)).put (some 83) (.int .i64 (X.n : Int))).put (some 84) (.int .i64 (X.m : Int))).put (some 85) (.pointer (some ⟨X.g, X.m * 2, none⟩))).put (some 86) (.agg #[.int .i64 X.lx, .int .i64 X.ly])).put (some 87) (.pointer (some ⟨X.sb, 1, none⟩))).put (some 88) (.slice (some ⟨X.nb, X.no, none⟩) 6 X.nc)).put (some 89) (.pointer (some ⟨X.nb, X.no, none⟩))).put (some 90) (.int .i64 X.x0)).put (some 91) (.pointer (some ⟨X.sb, 1, none⟩))).put (some 92) (.slice (some ⟨X.nb, X.no, none⟩) 6 X.nc)).put (some 93) (.pointer (some ⟨X.nb, X.no + 1, none⟩))).put (some 94) (.int .i64 X.y0)).put (some 95) (.agg #[.int .i64 X.x0, .int .i64 X.y0])).put (some 96) (.pointer (some ⟨X.sb, 1, none⟩))).put (some 97) (.slice (some ⟨X.nb, X.no, none⟩) 6 X.nc)).put (some 98) (.pointer (some ⟨X.nb, X.no + 2, none⟩))).put (some 99) (.int .i64 X.x1)).put (some 100) (.pointer (some ⟨X.sb, 1, none⟩))).put (some 101) (.slice (some ⟨X.nb, X.no, none⟩) 6 X.nc)).put (some 102) (.pointer (some ⟨X.nb, X.no + 3, none⟩))).put (some 103) (.int .i64 X.y1)).put (some 104) (.agg #[.int .i64 X.x1, .int .i64 X.y1])).put (some 105) (.pointer (some ⟨X.sb, 1, none⟩))).put (some 106) (.slice (some ⟨X.nb, X.no, none⟩) 6 X.nc)).put (some 107) (.pointer (some ⟨X.nb, X.no + 4, none⟩))).put (some 108) (.int .i64 X.x2)).put (some 109) (.pointer (some ⟨X.sb, 1, none⟩))).put (some 110) (.slice (some ⟨X.nb, X.no, none⟩) 6 X.nc)).put (some 111) (.pointer (some ⟨X.nb, X.no + 5, none⟩))).put (some 112) (.int .i64 X.y2)).put (some 113) (.agg #[.int .i64 X.x2, .int .i64 X.y2])).put (some 114) (γ 0)).put (some 8) (γ 1)) w') : (Code.region 20 (opsOf 20 Try.f44) true).wp Try.prog Q X.a0 w := by
  refine reg_act (acts := LR3.acts) (av := LR3.av) (val0 := X.val0) (Wd := X.Wd) (by kernel_rfl) (by kernel_rfl) (by rw [LR3.size]; decide) (fun i hi => LR3.steps X ok i hi) _ h0 ?_
  intro γ w' h
  rw [LR3.puts]
  exact hend γ w' h
structure LR4 where
  bx : Nat
  va : Option Addr
  vn : Nat
  vc : Nat
  l : List Pnt
  cl : Bool
  ge : Nat
  k : Int
  x : Int
  y : Int
  W : World
  a0 : Act
structure LR4Ok (X : LR4) : Prop where
  lb : LnB X.bx X.W (.slice X.va X.vn X.vc) X.l X.cl
  len : X.l.length + 1 ≤ 1000000
  hv : ∀ w, Kp X.W w → Calls Try.prog 67 #[.slice (some ⟨X.ge, 0, none⟩) 4 4, .int .i64 X.k] w fun e w' => e = .returned (.agg #[.int .i64 X.x, .int .i64 X.y]) ∧ Kp w w'
  e4 : X.a0.eval (.tmp 4) = .pointer (some ⟨X.bx, 0, none⟩)
  e8 : X.a0.eval (.tmp 8) = .slice (some ⟨X.ge, 0, none⟩) 4 4
  e9 : X.a0.eval (.tmp 9) = .int .i64 X.k
  sz : X.a0.tmps.size = 137
def LR4.val0 (X : LR4) : Nat → Value
  | 119 => .pointer (some ⟨X.bx, 0, none⟩)
  | 120 => .slice X.va X.vn X.vc
  | 121 => .slice (some ⟨X.ge, 0, none⟩) 4 4
  | 122 => .int .i64 X.k
  | 123 => .agg #[.int .i64 X.x, .int .i64 X.y]
  | 126 => .pointer (some ⟨X.bx, 0, none⟩)
  | _ => undef
def LR4.av : Nat → Option Nat
  | 124 => some 0
  | 125 => some 1
  | _ => none
def LR4.acts : List Nat := [5, 6, 8]
/-- The world, by how many of the acting ones have come up. -/
def LR4.Wd (X : LR4) : Nat → (Nat → Value) → World → Prop
  | 0, _, w => Kp X.W w
  | 1, γ, w => ∃ w1, Kp X.W w1 ∧ γ 0 = .slice (some ⟨w1.heap.size, 0, none⟩) 1 1 ∧ w = w1.alloc (.cells #[.int .i64 X.x, .int .i64 X.y] 54)
  | 2, γ, w => ∃ w1 g c, Kp X.W w1 ∧ γ 1 = .slice (some ⟨g, 0, none⟩) (X.l.length + 1) c ∧ OwnP w (X.bx + 1) (γ 1) (X.l ++ [(X.x, X.y)]) ∧ Ext (.slice X.va X.vn X.vc) (γ 1) w1 w
  | _, γ, w => ∃ w1 w2 g c, Kp X.W w1 ∧ γ 1 = .slice (some ⟨g, 0, none⟩) (X.l.length + 1) c ∧ OwnP w2 (X.bx + 1) (γ 1) (X.l ++ [(X.x, X.y)]) ∧ Ext (.slice X.va X.vn X.vc) (γ 1) w1 w2 ∧ w = w2.setCell ⟨X.bx, 0, none⟩ (γ 1)
theorem LR4.chain : chainG (opsOf 24 Try.f44) LR4.acts = true := by kernel_rfl
theorem LR4.nodup : LR4.acts.Nodup := by decide
theorem LR4.inj {listed : Array Bool} {i k : Nat} (h : (List.range (opsOf 24 Try.f44).size).all (fun j => decide (j = i) || !(match dstOf (opsOf 24 Try.f44) j with | some d => decide (LR4.av d = some k) | none => false)) = true) (hu : listed.getD i false = false) : ∀ d, got (opsOf 24 Try.f44) listed d → LR4.av d ≠ some k := by
  rintro d ⟨j, h1, h2⟩ h3
  have hlt : j < (opsOf 24 Try.f44).size := by
    rcases Nat.lt_or_ge j (opsOf 24 Try.f44).size with h4 | h4
    · exact h4
    · unfold dstOf at h2; rw [Array.getElem?_eq_none h4] at h2; cases h2
  have h5 := List.all_eq_true.1 h j (List.mem_range.2 hlt)
  rw [h2] at h5
  simp only [h3, decide_true, Bool.not_true, Bool.or_false, decide_eq_true_eq] at h5
  subst h5
  rw [hu] at h1
  cases h1
theorem LR4.s0 (X : LR4) (ok : LR4Ok X) {Q : Exit → Act → World → Prop} : StepG (opsOf 24 Try.f44) LR4.acts LR4.av X.val0 X.Wd X.a0 Q 0 := by
  intro γ listed a w o hF hC hW h1 ho h2
  obtain ⟨hd, hop, hg⟩ := fields2 (x := some 119) (y := Op.fieldAddr 32 (.tmp 4) 0) (z := none) (by kernel_rfl) ho
  have e4 : a.eval (.tmp 4) = .pointer (some ⟨X.bx, 0, none⟩) := (hF.eval0 (by kernel_rfl)).trans ok.e4
  refine st_pureG hF hC hW ho h2 (by decide) hd hg rfl ?_
  show _ = Result.ok (Next.value (.pointer (some ⟨X.bx, 0, none⟩))) w
  generalize a.eval = ρ at e4 ⊢
  unfold execOp
  rw [hop]
  simp [e4, go_sem]
theorem LR4.s1 (X : LR4) (ok : LR4Ok X) {Q : Exit → Act → World → Prop} : StepG (opsOf 24 Try.f44) LR4.acts LR4.av X.val0 X.Wd X.a0 Q 1 := by
  intro γ listed a w o hF hC hW h1 ho h2
  obtain ⟨hd, hop, hg⟩ := fields2 (x := some 120) (y := Op.load 30 (.tmp 119)) (z := none) (by kernel_rfl) ho
  have e119 : a.eval (.tmp 119) = .pointer (some ⟨X.bx, 0, none⟩) := slotG hF ho h2 (j := 0) (d := 119) (by kernel_rfl) (by kernel_rfl) (by rw [ok.sz]; decide)
  have hph := phase_leG (acts := LR4.acts) (m := 1) (x := 6) hC (unl (hF.lt ho) h1) rfl [1] (by kernel_rfl) (by decide)
  have hWW := hW
  generalize phase listed LR4.acts = n at hph hWW
  have hk : Nw X.W w := by
    rcases (show n = 0 ∨ n = 1 by omega) with rfl | rfl
    · exact hWW.nw
    · obtain ⟨w1, k1, _, rfl⟩ := hWW
      exact Nw.trans k1.nw ((Below.refl _ _).alloc (Nat.le_refl _) _)
  have hc := (ok.lb.nw hk).c0
  refine st_pureG hF hC hW ho h2 (by decide) hd hg rfl ?_
  show _ = Result.ok (Next.value (.slice X.va X.vn X.vc)) w
  generalize a.eval = ρ at e119 ⊢
  unfold execOp
  rw [hop]
  simp [e119, hc, go_sem]
theorem LR4.s2 (X : LR4) (ok : LR4Ok X) {Q : Exit → Act → World → Prop} : StepG (opsOf 24 Try.f44) LR4.acts LR4.av X.val0 X.Wd X.a0 Q 2 := by
  intro γ listed a w o hF hC hW h1 ho h2
  obtain ⟨hd, hop, hg⟩ := fields2 (x := some 121) (y := Op.move (.tmp 8)) (z := none) (by kernel_rfl) ho
  have e8 : a.eval (.tmp 8) = .slice (some ⟨X.ge, 0, none⟩) 4 4 := (hF.eval0 (by kernel_rfl)).trans ok.e8
  refine st_pureG hF hC hW ho h2 (by decide) hd hg rfl ?_
  show _ = Result.ok (Next.value (.slice (some ⟨X.ge, 0, none⟩) 4 4)) w
  generalize a.eval = ρ at e8 ⊢
  unfold execOp
  rw [hop]
  simp [e8, go_sem]
theorem LR4.s3 (X : LR4) (ok : LR4Ok X) {Q : Exit → Act → World → Prop} : StepG (opsOf 24 Try.f44) LR4.acts LR4.av X.val0 X.Wd X.a0 Q 3 := by
  intro γ listed a w o hF hC hW h1 ho h2
  obtain ⟨hd, hop, hg⟩ := fields2 (x := some 122) (y := Op.move (.tmp 9)) (z := none) (by kernel_rfl) ho
  have e9 : a.eval (.tmp 9) = .int .i64 X.k := (hF.eval0 (by kernel_rfl)).trans ok.e9
  refine st_pureG hF hC hW ho h2 (by decide) hd hg rfl ?_
  show _ = Result.ok (Next.value (.int .i64 X.k)) w
  generalize a.eval = ρ at e9 ⊢
  unfold execOp
  rw [hop]
  simp [e9, go_sem]
theorem LR4.s4 (X : LR4) (ok : LR4Ok X) {Q : Exit → Act → World → Prop} : StepG (opsOf 24 Try.f44) LR4.acts LR4.av X.val0 X.Wd X.a0 Q 4 := by
  intro γ listed a w o hF hC hW h1 ho h2
  obtain ⟨hd, hop, hg⟩ := fields2 (x := some 123) (y := Op.call { callee := .value (.func 67), args := #[(.tmp 121), (.tmp 122)], argTypes := #[30, 3] }) (z := none) (by kernel_rfl) ho
  have e121 : a.eval (.tmp 121) = .slice (some ⟨X.ge, 0, none⟩) 4 4 := slotG hF ho h2 (j := 2) (d := 121) (by kernel_rfl) (by kernel_rfl) (by rw [ok.sz]; decide)
  have e122 : a.eval (.tmp 122) = .int .i64 X.k := slotG hF ho h2 (j := 3) (d := 122) (by kernel_rfl) (by kernel_rfl) (by rw [ok.sz]; decide)
  have ef : a.eval (.func 67) = .func (.func 67) #[] #[] := rfl
  refine st_callG hF hC hW ho h2 (by decide) hd hg rfl (f := 67) (args := #[.slice (some ⟨X.ge, 0, none⟩) 4 4, .int .i64 X.k]) ?_ ?_ ?_
  · generalize a.eval = ρ at e121 e122 ef ⊢
    unfold execOp
    rw [hop]
    simp [e121, e122, ef, go_sem]
  · exact ok.hv w (by
      have := phase_leG (acts := LR4.acts) (m := 0) (x := 5) hC (unl (hF.lt ho) h1) rfl [4] (by kernel_rfl) (by decide)
      have hz : phase listed LR4.acts = 0 := by omega
      rw [hz] at hW
      exact hW)
  · intro w' hk
    have hz : phase listed LR4.acts = 0 := by
      have := phase_leG (acts := LR4.acts) (m := 0) (x := 5) hC (unl (hF.lt ho) h1) rfl [4] (by kernel_rfl) (by decide)
      omega
    rw [hz] at hW ⊢
    exact Kp.trans hW hk
theorem LR4.s5 (X : LR4) (ok : LR4Ok X) {Q : Exit → Act → World → Prop} : StepG (opsOf 24 Try.f44) LR4.acts LR4.av X.val0 X.Wd X.a0 Q 5 := by
  intro γ listed a w o hF hC hW h1 ho h2
  obtain ⟨hd, hop, hg⟩ := fields2 (x := some 124) (y := Op.buildSlice 30 1 #[(0, (.tmp 123))]) (z := none) (by kernel_rfl) ho
  have e123 : a.eval (.tmp 123) = .agg #[.int .i64 X.x, .int .i64 X.y] := slotG hF ho h2 (j := 4) (d := 123) (by kernel_rfl) (by kernel_rfl) (by rw [ok.sz]; decide)
  have hu := unl (hF.lt ho) h1
  refine st_actG (k := 0) LR4.chain LR4.nodup rfl hF hC hW h1 ho h2 (Or.inr ⟨124, hd, rfl⟩) (LR4.inj (by kernel_rfl) hu) hg ?_
  intro hW0 K hK
  have hr : (execOp a.eval o).run Try.prog w = .ok (.value (.slice (some ⟨w.heap.size, 0, none⟩) 1 1)) (w.alloc (.cells #[.int .i64 X.x, .int .i64 X.y] 54)) := by
    generalize a.eval = ρ at e123 ⊢
    unfold execOp
    rw [hop]
    simp [e123, go_sem]
  unfold Oper.wp
  rw [hr]
  exact hK _ _ ⟨w, hW0, rfl, rfl⟩
theorem LR4.s6 (X : LR4) (ok : LR4Ok X) {Q : Exit → Act → World → Prop} : StepG (opsOf 24 Try.f44) LR4.acts LR4.av X.val0 X.Wd X.a0 Q 6 := by
  intro γ listed a w o hF hC hW h1 ho h2
  obtain ⟨hd, hop, hg⟩ := fields2 (x := some 125) (y := Op.call { callee := .builtin .append, args := #[(.tmp 120), (.tmp 124)], argTypes := #[30, 30] }) (z := none) (by kernel_rfl) ho
  have e120 : a.eval (.tmp 120) = .slice X.va X.vn X.vc := slotG hF ho h2 (j := 1) (d := 120) (by kernel_rfl) (by kernel_rfl) (by rw [ok.sz]; decide)
  have e124 : a.eval (.tmp 124) = γ 0 := slotG hF ho h2 (j := 5) (d := 124) (by kernel_rfl) (by kernel_rfl) (by rw [ok.sz]; decide)
  have hu := unl (hF.lt ho) h1
  refine st_actG (k := 1) LR4.chain LR4.nodup rfl hF hC hW h1 ho h2 (Or.inr ⟨125, hd, rfl⟩) (LR4.inj (by kernel_rfl) hu) hg ?_
  intro hW0 K hK
  obtain ⟨w1, k1, g0, rfl⟩ := hW0
  rw [g0] at e124
  have lb := ok.lb.nw (Kp.nw k1)
  have n1 : Nw w1 (w1.alloc (.cells #[.int .i64 X.x, .int .i64 X.y] 54)) := (Below.refl _ _).alloc (Nat.le_refl _) _
  refine wp_q 54 30 30 (.int .i64 0) (.int .i64 0) 16 under_pts under_pts Try.info54 (by decide) rfl _ (.tmp 120) (.tmp 124) hop (X.bx + 1) (.slice X.va X.vn X.vc) (vP X.l) (vP [(X.x, X.y)]) e120 (lb.own.nw n1) w1.heap.size 0 1 1 rfl e124 (liep_one w1 X.x X.y _).vv (vP_one _) (by simp [vP]) (by rw [vP_len]; have := ok.len; simp [vP]; omega) (by have := lb.lt; simp; omega) ?_
  intro g' c' w' h3 h4
  rw [vP_len] at h3 h4 ⊢
  rw [← vP_append] at h3
  exact hK _ _ ⟨w1, g', c', k1, rfl, h3, n1.ext h4⟩
theorem LR4.s7 (X : LR4) (ok : LR4Ok X) {Q : Exit → Act → World → Prop} : StepG (opsOf 24 Try.f44) LR4.acts LR4.av X.val0 X.Wd X.a0 Q 7 := by
  intro γ listed a w o hF hC hW h1 ho h2
  obtain ⟨hd, hop, hg⟩ := fields2 (x := some 126) (y := Op.fieldAddr 32 (.tmp 4) 0) (z := none) (by kernel_rfl) ho
  have e4 : a.eval (.tmp 4) = .pointer (some ⟨X.bx, 0, none⟩) := (hF.eval0 (by kernel_rfl)).trans ok.e4
  refine st_pureG hF hC hW ho h2 (by decide) hd hg rfl ?_
  show _ = Result.ok (Next.value (.pointer (some ⟨X.bx, 0, none⟩))) w
  generalize a.eval = ρ at e4 ⊢
  unfold execOp
  rw [hop]
  simp [e4, go_sem]
theorem LR4.s8 (X : LR4) (ok : LR4Ok X) {Q : Exit → Act → World → Prop} : StepG (opsOf 24 Try.f44) LR4.acts LR4.av X.val0 X.Wd X.a0 Q 8 := by
  intro γ listed a w o hF hC hW h1 ho h2
  obtain ⟨hd, hop, hg⟩ := fields2 (x := none) (y := Op.store 30 (.tmp 126) (.tmp 125)) (z := none) (by kernel_rfl) ho
  have e126 : a.eval (.tmp 126) = .pointer (some ⟨X.bx, 0, none⟩) := slotG hF ho h2 (j := 7) (d := 126) (by kernel_rfl) (by kernel_rfl) (by rw [ok.sz]; decide)
  have e125 : a.eval (.tmp 125) = γ 1 := slotG hF ho h2 (j := 6) (d := 125) (by kernel_rfl) (by kernel_rfl) (by rw [ok.sz]; decide)
  have hu := unl (hF.lt ho) h1
  refine st_actG (k := 2) LR4.chain LR4.nodup rfl hF hC hW h1 ho h2 (Or.inl hd) (LR4.inj (by kernel_rfl) hu) hg ?_
  intro hW0 K hK
  obtain ⟨w1, g, cc, k1, g1, o1, x1⟩ := hW0
  obtain ⟨t0, tf⟩ := (ok.lb.nw (Kp.nw k1)).there x1
  have hr : (execOp a.eval o).run Try.prog w = .ok .skip (w.setCell ⟨X.bx, 0, none⟩ (γ 1)) := by
    rw [g1] at e125 ⊢
    generalize a.eval = ρ at e125 e126 ⊢
    unfold execOp
    rw [hop]
    simp [e125, e126, t0, tf, go_sem]
  unfold Oper.wp
  rw [hr]
  exact hK undef _ ⟨w1, w, g, cc, k1, g1, o1, x1, rfl⟩
theorem LR4.size : (opsOf 24 Try.f44).size = 9 := by kernel_rfl
theorem LR4.steps (X : LR4) (ok : LR4Ok X) {Q : Exit → Act → World → Prop} (i : Nat) (hi : i < (opsOf 24 Try.f44).size) : StepG (opsOf 24 Try.f44) LR4.acts LR4.av X.val0 X.Wd X.a0 Q i := by
  rw [LR4.size] at hi
  have hc : i = 0 ∨ i = 1 ∨ i = 2 ∨ i = 3 ∨ i = 4 ∨ i = 5 ∨ i = 6 ∨ i = 7 ∨ i = 8 := by omega
  rcases hc with rfl | rfl | rfl | rfl | rfl | rfl | rfl | rfl | rfl
  · exact LR4.s0 X ok
  · exact LR4.s1 X ok
  · exact LR4.s2 X ok
  · exact LR4.s3 X ok
  · exact LR4.s4 X ok
  · exact LR4.s5 X ok
  · exact LR4.s6 X ok
  · exact LR4.s7 X ok
  · exact LR4.s8 X ok
theorem LR4.puts (X : LR4) (γ : Nat → Value) (a0 : Act) : putsL (valG LR4.av X.val0 γ) (opsOf 24 Try.f44).toList a0 = ((((((((a0.put (some 119) (.pointer (some ⟨X.bx, 0, none⟩))).put (some 120) (.slice X.va X.vn X.vc)).put (some 121) (.slice (some ⟨X.ge, 0, none⟩) 4 4)).put (some 122) (.int .i64 X.k)).put (some 123) (.agg #[.int .i64 X.x, .int .i64 X.y])).put (some 124) (γ 0)).put (some 125) (γ 1)).put (some 126) (.pointer (some ⟨X.bx, 0, none⟩))) := by kernel_rfl
/-- The region, whatever order comes up. -/
theorem LR4.run (X : LR4) (ok : LR4Ok X) {Q : Exit → Act → World → Prop} (w : World) (h0 : X.Wd 0 (fun _ => undef) w.drew) (hend : ∀ (γ : Nat → Value) w', X.Wd 3 γ w' → Q .normal ((((((((X.a0.put (some 119) (.pointer (some ⟨X.bx, 0, none⟩))).put (some 120) (.slice X.va X.vn X.vc)).put (some 121) (.slice (some ⟨X.ge, 0, none⟩) 4 4)).put (some 122) (.int .i64 X.k)).put (some 123) (.agg #[.int .i64 X.x, .int .i64 X.y])).put (some 124) (γ 0)).put (some 125) (γ 1)).put (some 126) (.pointer (some ⟨X.bx, 0, none⟩))) w') : (Code.region 24 (opsOf 24 Try.f44) true).wp Try.prog Q X.a0 w := by
  refine reg_act (acts := LR4.acts) (av := LR4.av) (val0 := X.val0) (Wd := X.Wd) (by kernel_rfl) (by kernel_rfl) (by rw [LR4.size]; decide) (fun i hi => LR4.steps X ok i hi) _ h0 ?_
  intro γ w' h
  rw [LR4.puts]
  exact hend γ w' h
end Go.Proofs.Ytoajjdlgipphiaa
