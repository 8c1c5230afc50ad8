/-
  Fixed numbers: FixDiv of both in one word, for all ints; no condition.
  The statements of l10Side and SideOf that make a side, whatever order their operations come up in; each theorem names its conditions.
  The side of a segment, by the reference: l10Side; each theorem names its conditions.
  The side of a segment, by the program: SideOf; each theorem names its conditions.
-/
import Derived.Test.YtfdjjbgcaojcnaaGreatJAL
import Derived.Test.YtfdjjbgcaojcnaaGreatJAI
import Derived.Test.YtfdjjbgcaojcnaaGreatJAJ
namespace Go.Proofs.YtfdjjbgcaojcnaaGreat
open Go.ChangeShapes Go.WideShapes Go.ChangeAt Go.RowKit
set_option linter.unusedVariables false

theorem fd_both (a b : Int) : (∀ w, Calls Tryz.prog 110 #[.int .i64 a, .int .i64 b] w fun e w' => e = .returned (.int .i64 (divV a b)) ∧ Kp w w') ∧ (∀ w, Calls Tryz.prog 105 #[.int .i64 a, .int .i64 b] w fun e w' => e = .returned (.int .i64 (divV a b)) ∧ w' = w) := by
  by_cases ha : -1099511627776 ≤ a ∧ a ≤ 1099511627776
  · by_cases hb : -1099511627776 ≤ b ∧ b ≤ 1099511627776
    · by_cases hz : b = 0
      · have e : divV a b = 0 := by unfold divV; rw [if_neg (fun h => h.2.2.2.2 hz)]
        rw [e]
        subst hz
        exact ⟨fun w => (sfixDiv_no3 a w ha.1 ha.2).mono fun e w' ⟨h1, h2⟩ => ⟨h1, h2 ▸ Kp.refl _⟩, fun w => fixDiv_no3 a w ha.1 ha.2⟩
      · have e : divV a b = cutV (nearV (a * 65536) b) (-1099511627776) 1099511627776 := by unfold divV; rw [if_pos ⟨ha.1, ha.2, hb.1, hb.2, hz⟩]
        rw [e]
        exact ⟨fun w => sfixDiv_yes a b w ha.1 ha.2 hb.1 hb.2 hz, fun w => fixDiv_yes a b w ha.1 ha.2 hb.1 hb.2 hz⟩
    · have e : divV a b = 0 := by unfold divV; rw [if_neg (fun h => hb ⟨h.2.2.1, h.2.2.2.1⟩)]
      rw [e]
      exact ⟨fun w => (sfixDiv_no2 a b w ha.1 ha.2 hb).mono fun e w' ⟨h1, h2⟩ => ⟨h1, h2 ▸ Kp.refl _⟩, fun w => fixDiv_no2 a b w ha.1 ha.2 hb⟩
  · have e : divV a b = 0 := by unfold divV; rw [if_neg (fun h => ha ⟨h.1, h.2.1⟩)]
    rw [e]
    exact ⟨fun w => (sfixDiv_no a b w ha).mono fun e w' ⟨h1, h2⟩ => ⟨h1, h2 ▸ Kp.refl _⟩, fun w => fixDiv_no a b w ha⟩
theorem sfd (a b : Int) (w : World) : Calls Tryz.prog 110 #[.int .i64 a, .int .i64 b] w fun e w' => e = .returned (.int .i64 (divV a b)) ∧ Kp w w' := (fd_both a b).1 w
theorem ifd (a b : Int) (w : World) : Calls Tryz.prog 105 #[.int .i64 a, .int .i64 b] w fun e w' => e = .returned (.int .i64 (divV a b)) ∧ w' = w := (fd_both a b).2 w
end Go.Proofs.YtfdjjbgcaojcnaaGreat
namespace Go.Proofs.YtfdjjbgcaojcnaaGreat
open Go.ChangeShapes Go.WideShapes Go.ChangeAt Go.RowKit
set_option linter.unusedVariables false

structure SDI where
  ax : Int
  ay : Int
  bx : Int
  cy : Int
  h : Int
  n : Int
  b0 : Nat
  b1 : Nat
  br : Nat
  W : World
  a0 : Act
structure SDIOk (X : SDI) : Prop where
  c0 : X.W.cell? ⟨X.b0, 0, none⟩ = some (.int .i64 X.ax)
  c1 : X.W.cell? ⟨X.b0, 1, none⟩ = some (.int .i64 X.ay)
  c2 : X.W.cell? ⟨X.b1, 0, none⟩ = some (.int .i64 X.bx)
  c3 : X.W.cell? ⟨X.b1, 1, none⟩ = some (.int .i64 X.cy)
  w1 : IntKind.i64.wrap (X.ay - X.cy) = X.ay - X.cy
  w2 : IntKind.i64.wrap (X.bx - X.ax) = X.bx - X.ax
  z0 : ∃ u, X.W.cell? ⟨X.br, 0, none⟩ = some u
  z1 : ∃ u, X.W.cell? ⟨X.br, 1, none⟩ = some u
  zf : ∀ o, X.W.frozen? ⟨X.br, o, none⟩ = false
  e2 : X.a0.eval (.tmp 2) = .int .i64 X.h
  e3 : X.a0.eval (.tmp 3) = .pointer (some ⟨X.b0, 0, none⟩)
  e4 : X.a0.eval (.tmp 4) = .pointer (some ⟨X.b1, 0, none⟩)
  e6 : X.a0.eval (.tmp 6) = .pointer (some ⟨X.br, 0, none⟩)
  e8 : X.a0.eval (.tmp 8) = .int .i64 X.n
  sz : X.a0.tmps.size = 48
def SDI.val0 (X : SDI) : Nat → Value
  | 7 => (.bool true)
  | 29 => .int .i64 X.h
  | 30 => .pointer (some ⟨X.b0, 1, none⟩)
  | 31 => .int .i64 X.ay
  | 32 => .pointer (some ⟨X.b1, 1, none⟩)
  | 33 => .int .i64 X.cy
  | 34 => .int .i64 (X.ay - X.cy)
  | 35 => .int .i64 X.n
  | 36 => .int .i64 (divV (X.ay - X.cy) X.n)
  | 37 => .int .i64 (fmV X.h (divV (X.ay - X.cy) X.n))
  | 38 => .int .i64 X.h
  | 39 => .pointer (some ⟨X.b1, 0, none⟩)
  | 40 => .int .i64 X.bx
  | 41 => .pointer (some ⟨X.b0, 0, none⟩)
  | 42 => .int .i64 X.ax
  | 43 => .int .i64 (X.bx - X.ax)
  | 44 => .int .i64 X.n
  | 45 => .int .i64 (divV (X.bx - X.ax) X.n)
  | 46 => .int .i64 (fmV X.h (divV (X.bx - X.ax) X.n))
  | 47 => .agg #[.int .i64 (fmV X.h (divV (X.ay - X.cy) X.n)), .int .i64 (fmV X.h (divV (X.bx - X.ax) X.n))]
  | _ => undef
def SDI.av : Nat → Option Nat
  | _ => none
def SDI.acts : List Nat := [19]
/-- The world, by how many of the acting ones have come up. -/
def SDI.Wd (X : SDI) : Nat → (Nat → Value) → World → Prop
  | 0, _, w => Kp X.W w
  | _, _, w => ∃ w1, Kp X.W w1 ∧ w = ((w1.setCell ⟨X.br, 0, none⟩ (.int .i64 (fmV X.h (divV (X.ay - X.cy) X.n)))).setCell ⟨X.br, 1, none⟩ (.int .i64 (fmV X.h (divV (X.bx - X.ax) X.n))))
theorem SDI.chain : chainG (opsOf 4 Tryz.f89) SDI.acts = true := by kernel_rfl
theorem SDI.nodup : SDI.acts.Nodup := by decide
theorem SDI.inj {listed : Array Bool} {i k : Nat} (h : (List.range (opsOf 4 Tryz.f89).size).all (fun j => decide (j = i) || !(match dstOf (opsOf 4 Tryz.f89) j with | some d => decide (SDI.av d = some k) | none => false)) = true) (hu : listed.getD i false = false) : ∀ d, got (opsOf 4 Tryz.f89) listed d → SDI.av d ≠ some k := by
  rintro d ⟨j, h1, h2⟩ h3
  have hlt : j < (opsOf 4 Tryz.f89).size := by
    rcases Nat.lt_or_ge j (opsOf 4 Tryz.f89).size with h4 | h4
    · exact h4
    · unfold dstOf at h2; rw [Array.getElem?_eq_none h4] at h2; cases h2
  have h5 := List.all_eq_true.1 h j (List.mem_range.2 hlt)
  rw [h2] at h5
  simp only [h3, decide_true, Bool.not_true, Bool.or_false, decide_eq_true_eq] at h5
  subst h5
  rw [hu] at h1
  cases h1
theorem SDI.s0 (X : SDI) (ok : SDIOk X) {Q : Exit → Act → World → Prop} : StepG (opsOf 4 Tryz.f89) SDI.acts SDI.av X.val0 X.Wd X.a0 Q 0 := by
  intro γ listed a w o hF hC hW h1 ho h2
  obtain ⟨hd, hop, hg⟩ := fields2 (x := some 29) (y := Op.move (.tmp 2)) (z := none) (by kernel_rfl) ho
  have e2 : a.eval (.tmp 2) = .int .i64 X.h := (hF.eval0 (by kernel_rfl)).trans ok.e2
  refine st_pureG hF hC hW ho h2 (by decide) hd hg rfl ?_
  show _ = Result.ok (Next.value (.int .i64 X.h)) w
  generalize a.eval = ρ at e2 ⊢
  unfold execOp
  rw [hop]
  simp [e2, go_sem]
theorem SDI.s1 (X : SDI) (ok : SDIOk X) {Q : Exit → Act → World → Prop} : StepG (opsOf 4 Tryz.f89) SDI.acts SDI.av X.val0 X.Wd X.a0 Q 1 := by
  intro γ listed a w o hF hC hW h1 ho h2
  obtain ⟨hd, hop, hg⟩ := fields2 (x := some 30) (y := Op.fieldAddr 34 (.tmp 3) 1) (z := none) (by kernel_rfl) ho
  have e3 : a.eval (.tmp 3) = .pointer (some ⟨X.b0, 0, none⟩) := (hF.eval0 (by kernel_rfl)).trans ok.e3
  refine st_pureG hF hC hW ho h2 (by decide) hd hg rfl ?_
  show _ = Result.ok (Next.value (.pointer (some ⟨X.b0, 1, none⟩))) w
  generalize a.eval = ρ at e3 ⊢
  unfold execOp
  rw [hop]
  simp [e3, go_sem]
theorem SDI.s2 (X : SDI) (ok : SDIOk X) {Q : Exit → Act → World → Prop} : StepG (opsOf 4 Tryz.f89) SDI.acts SDI.av X.val0 X.Wd X.a0 Q 2 := by
  intro γ listed a w o hF hC hW h1 ho h2
  obtain ⟨hd, hop, hg⟩ := fields2 (x := some 31) (y := Op.load 3 (.tmp 30)) (z := none) (by kernel_rfl) ho
  have e30 : a.eval (.tmp 30) = .pointer (some ⟨X.b0, 1, none⟩) := slotG hF ho h2 (j := 1) (d := 30) (by kernel_rfl) (by kernel_rfl) (by rw [ok.sz]; decide)
  have hph := phase_leG (acts := SDI.acts) (m := 0) (x := 19) hC (unl (hF.lt ho) h1) rfl [18, 8, 7, 5, 2] (by kernel_rfl) (by decide)
  have hWW := hW
  generalize phase listed SDI.acts = n at hph hWW
  have hk : Kp X.W w := by
    obtain rfl : n = 0 := by omega
    exact hWW
  have hc0 := rq_at hk ok.c1
  refine st_pureG hF hC hW ho h2 (by decide) hd hg rfl ?_
  show _ = Result.ok (Next.value (.int .i64 X.ay)) w
  generalize a.eval = ρ at e30 ⊢
  unfold execOp
  rw [hop]
  simp [e30, hc0, go_sem]
theorem SDI.s3 (X : SDI) (ok : SDIOk X) {Q : Exit → Act → World → Prop} : StepG (opsOf 4 Tryz.f89) SDI.acts SDI.av X.val0 X.Wd X.a0 Q 3 := by
  intro γ listed a w o hF hC hW h1 ho h2
  obtain ⟨hd, hop, hg⟩ := fields2 (x := some 32) (y := Op.fieldAddr 34 (.tmp 4) 1) (z := none) (by kernel_rfl) ho
  have e4 : a.eval (.tmp 4) = .pointer (some ⟨X.b1, 0, none⟩) := (hF.eval0 (by kernel_rfl)).trans ok.e4
  refine st_pureG hF hC hW ho h2 (by decide) hd hg rfl ?_
  show _ = Result.ok (Next.value (.pointer (some ⟨X.b1, 1, none⟩))) w
  generalize a.eval = ρ at e4 ⊢
  unfold execOp
  rw [hop]
  simp [e4, go_sem]
theorem SDI.s4 (X : SDI) (ok : SDIOk X) {Q : Exit → Act → World → Prop} : StepG (opsOf 4 Tryz.f89) SDI.acts SDI.av X.val0 X.Wd X.a0 Q 4 := by
  intro γ listed a w o hF hC hW h1 ho h2
  obtain ⟨hd, hop, hg⟩ := fields2 (x := some 33) (y := Op.load 3 (.tmp 32)) (z := none) (by kernel_rfl) ho
  have e32 : a.eval (.tmp 32) = .pointer (some ⟨X.b1, 1, none⟩) := slotG hF ho h2 (j := 3) (d := 32) (by kernel_rfl) (by kernel_rfl) (by rw [ok.sz]; decide)
  have hph := phase_leG (acts := SDI.acts) (m := 0) (x := 19) hC (unl (hF.lt ho) h1) rfl [18, 8, 7, 5, 4] (by kernel_rfl) (by decide)
  have hWW := hW
  generalize phase listed SDI.acts = n at hph hWW
  have hk : Kp X.W w := by
    obtain rfl : n = 0 := by omega
    exact hWW
  have hc0 := rq_at hk ok.c3
  refine st_pureG hF hC hW ho h2 (by decide) hd hg rfl ?_
  show _ = Result.ok (Next.value (.int .i64 X.cy)) w
  generalize a.eval = ρ at e32 ⊢
  unfold execOp
  rw [hop]
  simp [e32, hc0, go_sem]
theorem SDI.s5 (X : SDI) (ok : SDIOk X) {Q : Exit → Act → World → Prop} : StepG (opsOf 4 Tryz.f89) SDI.acts SDI.av X.val0 X.Wd X.a0 Q 5 := by
  intro γ listed a w o hF hC hW h1 ho h2
  obtain ⟨hd, hop, hg⟩ := fields2 (x := some 34) (y := Op.binOp .sub 3 (.tmp 31) (.tmp 33) 3) (z := none) (by kernel_rfl) ho
  have e31 : a.eval (.tmp 31) = .int .i64 X.ay := slotG hF ho h2 (j := 2) (d := 31) (by kernel_rfl) (by kernel_rfl) (by rw [ok.sz]; decide)
  have e33 : a.eval (.tmp 33) = .int .i64 X.cy := slotG hF ho h2 (j := 4) (d := 33) (by kernel_rfl) (by kernel_rfl) (by rw [ok.sz]; decide)
  refine st_pureG hF hC hW ho h2 (by decide) hd hg rfl ?_
  show _ = Result.ok (Next.value (.int .i64 (X.ay - X.cy))) w
  generalize a.eval = ρ at e31 e33 ⊢
  unfold execOp
  rw [hop]
  simp [e31, e33, ok.w1, go_sem]
theorem SDI.s6 (X : SDI) (ok : SDIOk X) {Q : Exit → Act → World → Prop} : StepG (opsOf 4 Tryz.f89) SDI.acts SDI.av X.val0 X.Wd X.a0 Q 6 := by
  intro γ listed a w o hF hC hW h1 ho h2
  obtain ⟨hd, hop, hg⟩ := fields2 (x := some 35) (y := Op.move (.tmp 8)) (z := none) (by kernel_rfl) ho
  have e8 : a.eval (.tmp 8) = .int .i64 X.n := (hF.eval0 (by kernel_rfl)).trans ok.e8
  refine st_pureG hF hC hW ho h2 (by decide) hd hg rfl ?_
  show _ = Result.ok (Next.value (.int .i64 X.n)) w
  generalize a.eval = ρ at e8 ⊢
  unfold execOp
  rw [hop]
  simp [e8, go_sem]
theorem SDI.s7 (X : SDI) (ok : SDIOk X) {Q : Exit → Act → World → Prop} : StepG (opsOf 4 Tryz.f89) SDI.acts SDI.av X.val0 X.Wd X.a0 Q 7 := by
  intro γ listed a w o hF hC hW h1 ho h2
  obtain ⟨hd, hop, hg⟩ := fields2 (x := some 36) (y := Op.call { callee := .value (.func 105), args := #[(.tmp 34), (.tmp 35)], argTypes := #[3, 3] }) (z := none) (by kernel_rfl) ho
  have e34 : a.eval (.tmp 34) = .int .i64 (X.ay - X.cy) := slotG hF ho h2 (j := 5) (d := 34) (by kernel_rfl) (by kernel_rfl) (by rw [ok.sz]; decide)
  have e35 : a.eval (.tmp 35) = .int .i64 X.n := slotG hF ho h2 (j := 6) (d := 35) (by kernel_rfl) (by kernel_rfl) (by rw [ok.sz]; decide)
  have ef : a.eval (.func 105) = .func (.func 105) #[] #[] := rfl
  have hph := phase_leG (acts := SDI.acts) (m := 0) (x := 19) hC (unl (hF.lt ho) h1) rfl [18, 8, 7] (by kernel_rfl) (by decide)
  have hWW := hW
  generalize phase listed SDI.acts = n at hph hWW
  refine st_callG hF hC hW ho h2 (by decide) hd hg rfl (f := 105) (args := #[.int .i64 (X.ay - X.cy), .int .i64 X.n]) ?_ ?_ ?_
  · generalize a.eval = ρ at e34 e35 ef ⊢
    unfold execOp
    rw [hop]
    simp [e34, e35, ef, go_sem]
  · exact (ifd _ _ w).mono fun e w' ⟨h1, h2⟩ => ⟨h1, h2 ▸ Kp.refl _⟩
  · intro w' hk
    have hz : phase listed SDI.acts = 0 := by
      have := phase_leG (acts := SDI.acts) (m := 0) (x := 19) hC (unl (hF.lt ho) h1) rfl [18, 8, 7] (by kernel_rfl) (by decide)
      omega
    rw [hz] at hW ⊢
    exact Kp.trans hW hk
theorem SDI.s8 (X : SDI) (ok : SDIOk X) {Q : Exit → Act → World → Prop} : StepG (opsOf 4 Tryz.f89) SDI.acts SDI.av X.val0 X.Wd X.a0 Q 8 := by
  intro γ listed a w o hF hC hW h1 ho h2
  obtain ⟨hd, hop, hg⟩ := fields2 (x := some 37) (y := Op.call { callee := .value (.func 104), args := #[(.tmp 29), (.tmp 36)], argTypes := #[3, 3] }) (z := none) (by kernel_rfl) ho
  have e29 : a.eval (.tmp 29) = .int .i64 X.h := slotG hF ho h2 (j := 0) (d := 29) (by kernel_rfl) (by kernel_rfl) (by rw [ok.sz]; decide)
  have e36 : a.eval (.tmp 36) = .int .i64 (divV (X.ay - X.cy) X.n) := slotG hF ho h2 (j := 7) (d := 36) (by kernel_rfl) (by kernel_rfl) (by rw [ok.sz]; decide)
  have ef : a.eval (.func 104) = .func (.func 104) #[] #[] := rfl
  have hph := phase_leG (acts := SDI.acts) (m := 0) (x := 19) hC (unl (hF.lt ho) h1) rfl [18, 8] (by kernel_rfl) (by decide)
  have hWW := hW
  generalize phase listed SDI.acts = n at hph hWW
  refine st_callG hF hC hW ho h2 (by decide) hd hg rfl (f := 104) (args := #[.int .i64 X.h, .int .i64 (divV (X.ay - X.cy) X.n)]) ?_ ?_ ?_
  · generalize a.eval = ρ at e29 e36 ef ⊢
    unfold execOp
    rw [hop]
    simp [e29, e36, ef, go_sem]
  · exact (ifm _ _ w).mono fun e w' ⟨h1, h2⟩ => ⟨h1, h2 ▸ Kp.refl _⟩
  · intro w' hk
    have hz : phase listed SDI.acts = 0 := by
      have := phase_leG (acts := SDI.acts) (m := 0) (x := 19) hC (unl (hF.lt ho) h1) rfl [18, 8] (by kernel_rfl) (by decide)
      omega
    rw [hz] at hW ⊢
    exact Kp.trans hW hk
theorem SDI.s9 (X : SDI) (ok : SDIOk X) {Q : Exit → Act → World → Prop} : StepG (opsOf 4 Tryz.f89) SDI.acts SDI.av X.val0 X.Wd X.a0 Q 9 := by
  intro γ listed a w o hF hC hW h1 ho h2
  obtain ⟨hd, hop, hg⟩ := fields2 (x := some 38) (y := Op.move (.tmp 2)) (z := none) (by kernel_rfl) ho
  have e2 : a.eval (.tmp 2) = .int .i64 X.h := (hF.eval0 (by kernel_rfl)).trans ok.e2
  refine st_pureG hF hC hW ho h2 (by decide) hd hg rfl ?_
  show _ = Result.ok (Next.value (.int .i64 X.h)) w
  generalize a.eval = ρ at e2 ⊢
  unfold execOp
  rw [hop]
  simp [e2, go_sem]
theorem SDI.s10 (X : SDI) (ok : SDIOk X) {Q : Exit → Act → World → Prop} : StepG (opsOf 4 Tryz.f89) SDI.acts SDI.av X.val0 X.Wd X.a0 Q 10 := by
  intro γ listed a w o hF hC hW h1 ho h2
  obtain ⟨hd, hop, hg⟩ := fields2 (x := some 39) (y := Op.fieldAddr 34 (.tmp 4) 0) (z := none) (by kernel_rfl) ho
  have e4 : a.eval (.tmp 4) = .pointer (some ⟨X.b1, 0, none⟩) := (hF.eval0 (by kernel_rfl)).trans ok.e4
  refine st_pureG hF hC hW ho h2 (by decide) hd hg rfl ?_
  show _ = Result.ok (Next.value (.pointer (some ⟨X.b1, 0, none⟩))) w
  generalize a.eval = ρ at e4 ⊢
  unfold execOp
  rw [hop]
  simp [e4, go_sem]
theorem SDI.s11 (X : SDI) (ok : SDIOk X) {Q : Exit → Act → World → Prop} : StepG (opsOf 4 Tryz.f89) SDI.acts SDI.av X.val0 X.Wd X.a0 Q 11 := by
  intro γ listed a w o hF hC hW h1 ho h2
  obtain ⟨hd, hop, hg⟩ := fields2 (x := some 40) (y := Op.load 3 (.tmp 39)) (z := none) (by kernel_rfl) ho
  have e39 : a.eval (.tmp 39) = .pointer (some ⟨X.b1, 0, none⟩) := slotG hF ho h2 (j := 10) (d := 39) (by kernel_rfl) (by kernel_rfl) (by rw [ok.sz]; decide)
  have hph := phase_leG (acts := SDI.acts) (m := 0) (x := 19) hC (unl (hF.lt ho) h1) rfl [18, 17, 16, 14, 11] (by kernel_rfl) (by decide)
  have hWW := hW
  generalize phase listed SDI.acts = n at hph hWW
  have hk : Kp X.W w := by
    obtain rfl : n = 0 := by omega
    exact hWW
  have hc0 := rq_at hk ok.c2
  refine st_pureG hF hC hW ho h2 (by decide) hd hg rfl ?_
  show _ = Result.ok (Next.value (.int .i64 X.bx)) w
  generalize a.eval = ρ at e39 ⊢
  unfold execOp
  rw [hop]
  simp [e39, hc0, go_sem]
theorem SDI.s12 (X : SDI) (ok : SDIOk X) {Q : Exit → Act → World → Prop} : StepG (opsOf 4 Tryz.f89) SDI.acts SDI.av X.val0 X.Wd X.a0 Q 12 := by
  intro γ listed a w o hF hC hW h1 ho h2
  obtain ⟨hd, hop, hg⟩ := fields2 (x := some 41) (y := Op.fieldAddr 34 (.tmp 3) 0) (z := none) (by kernel_rfl) ho
  have e3 : a.eval (.tmp 3) = .pointer (some ⟨X.b0, 0, none⟩) := (hF.eval0 (by kernel_rfl)).trans ok.e3
  refine st_pureG hF hC hW ho h2 (by decide) hd hg rfl ?_
  show _ = Result.ok (Next.value (.pointer (some ⟨X.b0, 0, none⟩))) w
  generalize a.eval = ρ at e3 ⊢
  unfold execOp
  rw [hop]
  simp [e3, go_sem]
theorem SDI.s13 (X : SDI) (ok : SDIOk X) {Q : Exit → Act → World → Prop} : StepG (opsOf 4 Tryz.f89) SDI.acts SDI.av X.val0 X.Wd X.a0 Q 13 := by
  intro γ listed a w o hF hC hW h1 ho h2
  obtain ⟨hd, hop, hg⟩ := fields2 (x := some 42) (y := Op.load 3 (.tmp 41)) (z := none) (by kernel_rfl) ho
  have e41 : a.eval (.tmp 41) = .pointer (some ⟨X.b0, 0, none⟩) := slotG hF ho h2 (j := 12) (d := 41) (by kernel_rfl) (by kernel_rfl) (by rw [ok.sz]; decide)
  have hph := phase_leG (acts := SDI.acts) (m := 0) (x := 19) hC (unl (hF.lt ho) h1) rfl [18, 17, 16, 14, 13] (by kernel_rfl) (by decide)
  have hWW := hW
  generalize phase listed SDI.acts = n at hph hWW
  have hk : Kp X.W w := by
    obtain rfl : n = 0 := by omega
    exact hWW
  have hc0 := rq_at hk ok.c0
  refine st_pureG hF hC hW ho h2 (by decide) hd hg rfl ?_
  show _ = Result.ok (Next.value (.int .i64 X.ax)) w
  generalize a.eval = ρ at e41 ⊢
  unfold execOp
  rw [hop]
  simp [e41, hc0, go_sem]
theorem SDI.s14 (X : SDI) (ok : SDIOk X) {Q : Exit → Act → World → Prop} : StepG (opsOf 4 Tryz.f89) SDI.acts SDI.av X.val0 X.Wd X.a0 Q 14 := by
  intro γ listed a w o hF hC hW h1 ho h2
  obtain ⟨hd, hop, hg⟩ := fields2 (x := some 43) (y := Op.binOp .sub 3 (.tmp 40) (.tmp 42) 3) (z := none) (by kernel_rfl) ho
  have e40 : a.eval (.tmp 40) = .int .i64 X.bx := slotG hF ho h2 (j := 11) (d := 40) (by kernel_rfl) (by kernel_rfl) (by rw [ok.sz]; decide)
  have e42 : a.eval (.tmp 42) = .int .i64 X.ax := slotG hF ho h2 (j := 13) (d := 42) (by kernel_rfl) (by kernel_rfl) (by rw [ok.sz]; decide)
  refine st_pureG hF hC hW ho h2 (by decide) hd hg rfl ?_
  show _ = Result.ok (Next.value (.int .i64 (X.bx - X.ax))) w
  generalize a.eval = ρ at e40 e42 ⊢
  unfold execOp
  rw [hop]
  simp [e40, e42, ok.w2, go_sem]
theorem SDI.s15 (X : SDI) (ok : SDIOk X) {Q : Exit → Act → World → Prop} : StepG (opsOf 4 Tryz.f89) SDI.acts SDI.av X.val0 X.Wd X.a0 Q 15 := by
  intro γ listed a w o hF hC hW h1 ho h2
  obtain ⟨hd, hop, hg⟩ := fields2 (x := some 44) (y := Op.move (.tmp 8)) (z := none) (by kernel_rfl) ho
  have e8 : a.eval (.tmp 8) = .int .i64 X.n := (hF.eval0 (by kernel_rfl)).trans ok.e8
  refine st_pureG hF hC hW ho h2 (by decide) hd hg rfl ?_
  show _ = Result.ok (Next.value (.int .i64 X.n)) w
  generalize a.eval = ρ at e8 ⊢
  unfold execOp
  rw [hop]
  simp [e8, go_sem]
theorem SDI.s16 (X : SDI) (ok : SDIOk X) {Q : Exit → Act → World → Prop} : StepG (opsOf 4 Tryz.f89) SDI.acts SDI.av X.val0 X.Wd X.a0 Q 16 := by
  intro γ listed a w o hF hC hW h1 ho h2
  obtain ⟨hd, hop, hg⟩ := fields2 (x := some 45) (y := Op.call { callee := .value (.func 105), args := #[(.tmp 43), (.tmp 44)], argTypes := #[3, 3] }) (z := none) (by kernel_rfl) ho
  have e43 : a.eval (.tmp 43) = .int .i64 (X.bx - X.ax) := slotG hF ho h2 (j := 14) (d := 43) (by kernel_rfl) (by kernel_rfl) (by rw [ok.sz]; decide)
  have e44 : a.eval (.tmp 44) = .int .i64 X.n := slotG hF ho h2 (j := 15) (d := 44) (by kernel_rfl) (by kernel_rfl) (by rw [ok.sz]; decide)
  have ef : a.eval (.func 105) = .func (.func 105) #[] #[] := rfl
  have hph := phase_leG (acts := SDI.acts) (m := 0) (x := 19) hC (unl (hF.lt ho) h1) rfl [18, 17, 16] (by kernel_rfl) (by decide)
  have hWW := hW
  generalize phase listed SDI.acts = n at hph hWW
  refine st_callG hF hC hW ho h2 (by decide) hd hg rfl (f := 105) (args := #[.int .i64 (X.bx - X.ax), .int .i64 X.n]) ?_ ?_ ?_
  · generalize a.eval = ρ at e43 e44 ef ⊢
    unfold execOp
    rw [hop]
    simp [e43, e44, ef, go_sem]
  · exact (ifd _ _ w).mono fun e w' ⟨h1, h2⟩ => ⟨h1, h2 ▸ Kp.refl _⟩
  · intro w' hk
    have hz : phase listed SDI.acts = 0 := by
      have := phase_leG (acts := SDI.acts) (m := 0) (x := 19) hC (unl (hF.lt ho) h1) rfl [18, 17, 16] (by kernel_rfl) (by decide)
      omega
    rw [hz] at hW ⊢
    exact Kp.trans hW hk
theorem SDI.s17 (X : SDI) (ok : SDIOk X) {Q : Exit → Act → World → Prop} : StepG (opsOf 4 Tryz.f89) SDI.acts SDI.av X.val0 X.Wd X.a0 Q 17 := by
  intro γ listed a w o hF hC hW h1 ho h2
  obtain ⟨hd, hop, hg⟩ := fields2 (x := some 46) (y := Op.call { callee := .value (.func 104), args := #[(.tmp 38), (.tmp 45)], argTypes := #[3, 3] }) (z := none) (by kernel_rfl) ho
  have e38 : a.eval (.tmp 38) = .int .i64 X.h := slotG hF ho h2 (j := 9) (d := 38) (by kernel_rfl) (by kernel_rfl) (by rw [ok.sz]; decide)
  have e45 : a.eval (.tmp 45) = .int .i64 (divV (X.bx - X.ax) X.n) := slotG hF ho h2 (j := 16) (d := 45) (by kernel_rfl) (by kernel_rfl) (by rw [ok.sz]; decide)
  have ef : a.eval (.func 104) = .func (.func 104) #[] #[] := rfl
  have hph := phase_leG (acts := SDI.acts) (m := 0) (x := 19) hC (unl (hF.lt ho) h1) rfl [18, 17] (by kernel_rfl) (by decide)
  have hWW := hW
  generalize phase listed SDI.acts = n at hph hWW
  refine st_callG hF hC hW ho h2 (by decide) hd hg rfl (f := 104) (args := #[.int .i64 X.h, .int .i64 (divV (X.bx - X.ax) X.n)]) ?_ ?_ ?_
  · generalize a.eval = ρ at e38 e45 ef ⊢
    unfold execOp
    rw [hop]
    simp [e38, e45, ef, go_sem]
  · exact (ifm _ _ w).mono fun e w' ⟨h1, h2⟩ => ⟨h1, h2 ▸ Kp.refl _⟩
  · intro w' hk
    have hz : phase listed SDI.acts = 0 := by
      have := phase_leG (acts := SDI.acts) (m := 0) (x := 19) hC (unl (hF.lt ho) h1) rfl [18, 17] (by kernel_rfl) (by decide)
      omega
    rw [hz] at hW ⊢
    exact Kp.trans hW hk
theorem SDI.s18 (X : SDI) (ok : SDIOk X) {Q : Exit → Act → World → Prop} : StepG (opsOf 4 Tryz.f89) SDI.acts SDI.av X.val0 X.Wd X.a0 Q 18 := by
  intro γ listed a w o hF hC hW h1 ho h2
  obtain ⟨hd, hop, hg⟩ := fields2 (x := some 47) (y := Op.build 34 #[(0, (.tmp 37)), (1, (.tmp 46))]) (z := none) (by kernel_rfl) ho
  have e37 : a.eval (.tmp 37) = .int .i64 (fmV X.h (divV (X.ay - X.cy) X.n)) := slotG hF ho h2 (j := 8) (d := 37) (by kernel_rfl) (by kernel_rfl) (by rw [ok.sz]; decide)
  have e46 : a.eval (.tmp 46) = .int .i64 (fmV X.h (divV (X.bx - X.ax) X.n)) := slotG hF ho h2 (j := 17) (d := 46) (by kernel_rfl) (by kernel_rfl) (by rw [ok.sz]; decide)
  refine st_pureG hF hC hW ho h2 (by decide) hd hg rfl ?_
  show _ = Result.ok (Next.value (.agg #[.int .i64 (fmV X.h (divV (X.ay - X.cy) X.n)), .int .i64 (fmV X.h (divV (X.bx - X.ax) X.n))])) w
  generalize a.eval = ρ at e37 e46 ⊢
  unfold execOp
  rw [hop]
  simp [e37, e46, go_sem]
theorem SDI.s19 (X : SDI) (ok : SDIOk X) {Q : Exit → Act → World → Prop} : StepG (opsOf 4 Tryz.f89) SDI.acts SDI.av X.val0 X.Wd X.a0 Q 19 := by
  intro γ listed a w o hF hC hW h1 ho h2
  obtain ⟨hd, hop, hg⟩ := fields2 (x := none) (y := Op.store 34 (.tmp 6) (.tmp 47)) (z := none) (by kernel_rfl) ho
  have e6 : a.eval (.tmp 6) = .pointer (some ⟨X.br, 0, none⟩) := (hF.eval0 (by kernel_rfl)).trans ok.e6
  have e47 : a.eval (.tmp 47) = .agg #[.int .i64 (fmV X.h (divV (X.ay - X.cy) X.n)), .int .i64 (fmV X.h (divV (X.bx - X.ax) X.n))] := slotG hF ho h2 (j := 18) (d := 47) (by kernel_rfl) (by kernel_rfl) (by rw [ok.sz]; decide)
  have hu := unl (hF.lt ho) h1
  refine st_actG (k := 0) SDI.chain SDI.nodup rfl hF hC hW h1 ho h2 (Or.inl hd) (SDI.inj (by kernel_rfl) hu) hg ?_
  intro hW0 K hK
  obtain ⟨u0, z0⟩ := ok.z0
  replace z0 := rq_at hW0 z0
  obtain ⟨u1, z1⟩ := ok.z1
  replace z1 := rq_at hW0 z1
  have zf : ∀ o, w.frozen? ⟨X.br, o, none⟩ = false := fun o => (hW0.cells.2 _ _).trans (ok.zf o)
  have hr : (execOp a.eval o).run Tryz.prog w = .ok .skip ((w.setCell ⟨X.br, 0, none⟩ (.int .i64 (fmV X.h (divV (X.ay - X.cy) X.n)))).setCell ⟨X.br, 1, none⟩ (.int .i64 (fmV X.h (divV (X.bx - X.ax) X.n)))) := by
    generalize a.eval = ρ at e6 e47 ⊢
    unfold execOp
    rw [hop]
    simp [e6, e47, z0, z1, zf, go_sem]
  unfold Oper.wp
  rw [hr]
  exact hK _ _ ⟨w, hW0, rfl⟩
theorem SDI.s20 (X : SDI) (ok : SDIOk X) {Q : Exit → Act → World → Prop} : StepG (opsOf 4 Tryz.f89) SDI.acts SDI.av X.val0 X.Wd X.a0 Q 20 := by
  intro γ listed a w o hF hC hW h1 ho h2
  obtain ⟨hd, hop, hg⟩ := fields2 (x := some 7) (y := Op.assign (.const (.bool true))) (z := none) (by kernel_rfl) ho
  have ec0 : a.eval (.const (.bool true)) = .bool true := rfl
  refine st_pureG hF hC hW ho h2 (by decide) hd hg rfl ?_
  show _ = Result.ok (Next.value ((.bool true))) w
  generalize a.eval = ρ at ec0 ⊢
  unfold execOp
  rw [hop]
  simp [ec0, go_sem]
theorem SDI.size : (opsOf 4 Tryz.f89).size = 21 := by kernel_rfl
theorem SDI.steps (X : SDI) (ok : SDIOk X) {Q : Exit → Act → World → Prop} (i : Nat) (hi : i < (opsOf 4 Tryz.f89).size) : StepG (opsOf 4 Tryz.f89) SDI.acts SDI.av X.val0 X.Wd X.a0 Q i := by
  rw [SDI.size] at hi
  have hc : i = 0 ∨ i = 1 ∨ i = 2 ∨ i = 3 ∨ i = 4 ∨ i = 5 ∨ i = 6 ∨ i = 7 ∨ i = 8 ∨ i = 9 ∨ i = 10 ∨ i = 11 ∨ i = 12 ∨ i = 13 ∨ i = 14 ∨ i = 15 ∨ i = 16 ∨ i = 17 ∨ i = 18 ∨ i = 19 ∨ i = 20 := by omega
  rcases hc with rfl | rfl | rfl | rfl | rfl | rfl | rfl | rfl | rfl | rfl | rfl | rfl | rfl | rfl | rfl | rfl | rfl | rfl | rfl | rfl | rfl
  · exact SDI.s0 X ok
  · exact SDI.s1 X ok
  · exact SDI.s2 X ok
  · exact SDI.s3 X ok
  · exact SDI.s4 X ok
  · exact SDI.s5 X ok
  · exact SDI.s6 X ok
  · exact SDI.s7 X ok
  · exact SDI.s8 X ok
  · exact SDI.s9 X ok
  · exact SDI.s10 X ok
  · exact SDI.s11 X ok
  · exact SDI.s12 X ok
  · exact SDI.s13 X ok
  · exact SDI.s14 X ok
  · exact SDI.s15 X ok
  · exact SDI.s16 X ok
  · exact SDI.s17 X ok
  · exact SDI.s18 X ok
  · exact SDI.s19 X ok
  · exact SDI.s20 X ok
theorem SDI.puts (X : SDI) (γ : Nat → Value) (a0 : Act) : putsL (valG SDI.av X.val0 γ) (opsOf 4 Tryz.f89).toList a0 = ((((((((((((((((((((a0.put (some 29) (.int .i64 X.h)).put (some 30) (.pointer (some ⟨X.b0, 1, none⟩))).put (some 31) (.int .i64 X.ay)).put (some 32) (.pointer (some ⟨X.b1, 1, none⟩))).put (some 33) (.int .i64 X.cy)).put (some 34) (.int .i64 (X.ay - X.cy))).put (some 35) (.int .i64 X.n)).put (some 36) (.int .i64 (divV (X.ay - X.cy) X.n))).put (some 37) (.int .i64 (fmV X.h (divV (X.ay - X.cy) X.n)))).put (some 38) (.int .i64 X.h)).put (some 39) (.pointer (some ⟨X.b1, 0, none⟩))).put (some 40) (.int .i64 X.bx)).put (some 41) (.pointer (some ⟨X.b0, 0, none⟩))).put (some 42) (.int .i64 X.ax)).put (some 43) (.int .i64 (X.bx - X.ax))).put (some 44) (.int .i64 X.n)).put (some 45) (.int .i64 (divV (X.bx - X.ax) X.n))).put (some 46) (.int .i64 (fmV X.h (divV (X.bx - X.ax) X.n)))).put (some 47) (.agg #[.int .i64 (fmV X.h (divV (X.ay - X.cy) X.n)), .int .i64 (fmV X.h (divV (X.bx - X.ax) X.n))])).put (some 7) ((.bool true))) := by kernel_rfl
/-- The region, whatever order comes up. -/
theorem SDI.run (X : SDI) (ok : SDIOk X) {Q : Exit → Act → World → Prop} (w : World) (h0 : X.Wd 0 (fun _ => undef) w.drew) (hend : ∀ (γ : Nat → Value) w', X.Wd 1 γ w' → Q .normal ((((((((((((((((((((X.a0.put (some 29) (.int .i64 X.h)).put (some 30) (.pointer (some ⟨X.b0, 1, none⟩))).put (some 31) (.int .i64 X.ay)).put (some 32) (.pointer (some ⟨X.b1, 1, none⟩))).put (some 33) (.int .i64 X.cy)).put (some 34) (.int .i64 (X.ay - X.cy))).put (some 35) (.int .i64 X.n)).put (some 36) (.int .i64 (divV (X.ay - X.cy) X.n))).put (some 37) (.int .i64 (fmV X.h (divV (X.ay - X.cy) X.n)))).put (some 38) (.int .i64 X.h)).put (some 39) (.pointer (some ⟨X.b1, 0, none⟩))).put (some 40) (.int .i64 X.bx)).put (some 41) (.pointer (some ⟨X.b0, 0, none⟩))).put (some 42) (.int .i64 X.ax)).put (some 43) (.int .i64 (X.bx - X.ax))).put (some 44) (.int .i64 X.n)).put (some 45) (.int .i64 (divV (X.bx - X.ax) X.n))).put (some 46) (.int .i64 (fmV X.h (divV (X.bx - X.ax) X.n)))).put (some 47) (.agg #[.int .i64 (fmV X.h (divV (X.ay - X.cy) X.n)), .int .i64 (fmV X.h (divV (X.bx - X.ax) X.n))])).put (some 7) ((.bool true))) w') : (Code.region 4 (opsOf 4 Tryz.f89) true).wp Tryz.prog Q X.a0 w := by
  refine reg_act (acts := SDI.acts) (av := SDI.av) (val0 := X.val0) (Wd := X.Wd) (by kernel_rfl) (by kernel_rfl) (by rw [SDI.size]; decide) (fun i hi => SDI.steps X ok i hi) _ h0 ?_
  intro γ w' h
  rw [SDI.puts]
  exact hend γ w' h
structure SDS where
  ax : Int
  ay : Int
  bx : Int
  cy : Int
  h : Int
  n : Int
  b0 : Nat
  b1 : Nat
  br : Nat
  W : World
  a0 : Act
structure SDSOk (X : SDS) : Prop where
  c0 : X.W.cell? ⟨X.b0, 0, none⟩ = some (.int .i64 X.ax)
  c1 : X.W.cell? ⟨X.b0, 1, none⟩ = some (.int .i64 X.ay)
  c2 : X.W.cell? ⟨X.b1, 0, none⟩ = some (.int .i64 X.bx)
  c3 : X.W.cell? ⟨X.b1, 1, none⟩ = some (.int .i64 X.cy)
  w1 : IntKind.i64.wrap (X.ay - X.cy) = X.ay - X.cy
  w2 : IntKind.i64.wrap (X.bx - X.ax) = X.bx - X.ax
  z0 : ∃ u, X.W.cell? ⟨X.br, 0, none⟩ = some u
  z1 : ∃ u, X.W.cell? ⟨X.br, 1, none⟩ = some u
  zf : ∀ o, X.W.frozen? ⟨X.br, o, none⟩ = false
  e2 : X.a0.eval (.tmp 2) = .int .i64 X.h
  e3 : X.a0.eval (.tmp 3) = .pointer (some ⟨X.b0, 0, none⟩)
  e4 : X.a0.eval (.tmp 4) = .pointer (some ⟨X.b1, 0, none⟩)
  e6 : X.a0.eval (.tmp 6) = .pointer (some ⟨X.br, 0, none⟩)
  e7 : X.a0.eval (.tmp 7) = .int .i64 X.n
  sz : X.a0.tmps.size = 30
def SDS.val0 (X : SDS) : Nat → Value
  | 11 => .int .i64 X.h
  | 12 => .pointer (some ⟨X.b0, 1, none⟩)
  | 13 => .int .i64 X.ay
  | 14 => .pointer (some ⟨X.b1, 1, none⟩)
  | 15 => .int .i64 X.cy
  | 16 => .int .i64 (X.ay - X.cy)
  | 17 => .int .i64 X.n
  | 18 => .int .i64 (divV (X.ay - X.cy) X.n)
  | 19 => .int .i64 (fmV X.h (divV (X.ay - X.cy) X.n))
  | 20 => .int .i64 X.h
  | 21 => .pointer (some ⟨X.b1, 0, none⟩)
  | 22 => .int .i64 X.bx
  | 23 => .pointer (some ⟨X.b0, 0, none⟩)
  | 24 => .int .i64 X.ax
  | 25 => .int .i64 (X.bx - X.ax)
  | 26 => .int .i64 X.n
  | 27 => .int .i64 (divV (X.bx - X.ax) X.n)
  | 28 => .int .i64 (fmV X.h (divV (X.bx - X.ax) X.n))
  | 29 => .agg #[.int .i64 (fmV X.h (divV (X.ay - X.cy) X.n)), .int .i64 (fmV X.h (divV (X.bx - X.ax) X.n))]
  | _ => undef
def SDS.av : Nat → Option Nat
  | _ => none
def SDS.acts : List Nat := [19]
/-- The world, by how many of the acting ones have come up. -/
def SDS.Wd (X : SDS) : Nat → (Nat → Value) → World → Prop
  | 0, _, w => Kp X.W w
  | _, _, w => ∃ w1, Kp X.W w1 ∧ w = ((w1.setCell ⟨X.br, 0, none⟩ (.int .i64 (fmV X.h (divV (X.ay - X.cy) X.n)))).setCell ⟨X.br, 1, none⟩ (.int .i64 (fmV X.h (divV (X.bx - X.ax) X.n))))
theorem SDS.chain : chainG (opsOf 2 Tryz.f96) SDS.acts = true := by kernel_rfl
theorem SDS.nodup : SDS.acts.Nodup := by decide
theorem SDS.inj {listed : Array Bool} {i k : Nat} (h : (List.range (opsOf 2 Tryz.f96).size).all (fun j => decide (j = i) || !(match dstOf (opsOf 2 Tryz.f96) j with | some d => decide (SDS.av d = some k) | none => false)) = true) (hu : listed.getD i false = false) : ∀ d, got (opsOf 2 Tryz.f96) listed d → SDS.av d ≠ some k := by
  rintro d ⟨j, h1, h2⟩ h3
  have hlt : j < (opsOf 2 Tryz.f96).size := by
    rcases Nat.lt_or_ge j (opsOf 2 Tryz.f96).size with h4 | h4
    · exact h4
    · unfold dstOf at h2; rw [Array.getElem?_eq_none h4] at h2; cases h2
  have h5 := List.all_eq_true.1 h j (List.mem_range.2 hlt)
  rw [h2] at h5
  simp only [h3, decide_true, Bool.not_true, Bool.or_false, decide_eq_true_eq] at h5
  subst h5
  rw [hu] at h1
  cases h1
theorem SDS.s0 (X : SDS) (ok : SDSOk X) {Q : Exit → Act → World → Prop} : StepG (opsOf 2 Tryz.f96) SDS.acts SDS.av X.val0 X.Wd X.a0 Q 0 := by
  intro γ listed a w o hF hC hW h1 ho h2
  obtain ⟨hd, hop, hg⟩ := fields2 (x := some 11) (y := Op.move (.tmp 2)) (z := none) (by kernel_rfl) ho
  have e2 : a.eval (.tmp 2) = .int .i64 X.h := (hF.eval0 (by kernel_rfl)).trans ok.e2
  refine st_pureG hF hC hW ho h2 (by decide) hd hg rfl ?_
  show _ = Result.ok (Next.value (.int .i64 X.h)) w
  generalize a.eval = ρ at e2 ⊢
  unfold execOp
  rw [hop]
  simp [e2, go_sem]
theorem SDS.s1 (X : SDS) (ok : SDSOk X) {Q : Exit → Act → World → Prop} : StepG (opsOf 2 Tryz.f96) SDS.acts SDS.av X.val0 X.Wd X.a0 Q 1 := by
  intro γ listed a w o hF hC hW h1 ho h2
  obtain ⟨hd, hop, hg⟩ := fields2 (x := some 12) (y := Op.fieldAddr 34 (.tmp 3) 1) (z := none) (by kernel_rfl) ho
  have e3 : a.eval (.tmp 3) = .pointer (some ⟨X.b0, 0, none⟩) := (hF.eval0 (by kernel_rfl)).trans ok.e3
  refine st_pureG hF hC hW ho h2 (by decide) hd hg rfl ?_
  show _ = Result.ok (Next.value (.pointer (some ⟨X.b0, 1, none⟩))) w
  generalize a.eval = ρ at e3 ⊢
  unfold execOp
  rw [hop]
  simp [e3, go_sem]
theorem SDS.s2 (X : SDS) (ok : SDSOk X) {Q : Exit → Act → World → Prop} : StepG (opsOf 2 Tryz.f96) SDS.acts SDS.av X.val0 X.Wd X.a0 Q 2 := by
  intro γ listed a w o hF hC hW h1 ho h2
  obtain ⟨hd, hop, hg⟩ := fields2 (x := some 13) (y := Op.load 3 (.tmp 12)) (z := none) (by kernel_rfl) ho
  have e12 : a.eval (.tmp 12) = .pointer (some ⟨X.b0, 1, none⟩) := slotG hF ho h2 (j := 1) (d := 12) (by kernel_rfl) (by kernel_rfl) (by rw [ok.sz]; decide)
  have hph := phase_leG (acts := SDS.acts) (m := 0) (x := 19) hC (unl (hF.lt ho) h1) rfl [18, 8, 7, 5, 2] (by kernel_rfl) (by decide)
  have hWW := hW
  generalize phase listed SDS.acts = n at hph hWW
  have hk : Kp X.W w := by
    obtain rfl : n = 0 := by omega
    exact hWW
  have hc0 := rq_at hk ok.c1
  refine st_pureG hF hC hW ho h2 (by decide) hd hg rfl ?_
  show _ = Result.ok (Next.value (.int .i64 X.ay)) w
  generalize a.eval = ρ at e12 ⊢
  unfold execOp
  rw [hop]
  simp [e12, hc0, go_sem]
theorem SDS.s3 (X : SDS) (ok : SDSOk X) {Q : Exit → Act → World → Prop} : StepG (opsOf 2 Tryz.f96) SDS.acts SDS.av X.val0 X.Wd X.a0 Q 3 := by
  intro γ listed a w o hF hC hW h1 ho h2
  obtain ⟨hd, hop, hg⟩ := fields2 (x := some 14) (y := Op.fieldAddr 34 (.tmp 4) 1) (z := none) (by kernel_rfl) ho
  have e4 : a.eval (.tmp 4) = .pointer (some ⟨X.b1, 0, none⟩) := (hF.eval0 (by kernel_rfl)).trans ok.e4
  refine st_pureG hF hC hW ho h2 (by decide) hd hg rfl ?_
  show _ = Result.ok (Next.value (.pointer (some ⟨X.b1, 1, none⟩))) w
  generalize a.eval = ρ at e4 ⊢
  unfold execOp
  rw [hop]
  simp [e4, go_sem]
theorem SDS.s4 (X : SDS) (ok : SDSOk X) {Q : Exit → Act → World → Prop} : StepG (opsOf 2 Tryz.f96) SDS.acts SDS.av X.val0 X.Wd X.a0 Q 4 := by
  intro γ listed a w o hF hC hW h1 ho h2
  obtain ⟨hd, hop, hg⟩ := fields2 (x := some 15) (y := Op.load 3 (.tmp 14)) (z := none) (by kernel_rfl) ho
  have e14 : a.eval (.tmp 14) = .pointer (some ⟨X.b1, 1, none⟩) := slotG hF ho h2 (j := 3) (d := 14) (by kernel_rfl) (by kernel_rfl) (by rw [ok.sz]; decide)
  have hph := phase_leG (acts := SDS.acts) (m := 0) (x := 19) hC (unl (hF.lt ho) h1) rfl [18, 8, 7, 5, 4] (by kernel_rfl) (by decide)
  have hWW := hW
  generalize phase listed SDS.acts = n at hph hWW
  have hk : Kp X.W w := by
    obtain rfl : n = 0 := by omega
    exact hWW
  have hc0 := rq_at hk ok.c3
  refine st_pureG hF hC hW ho h2 (by decide) hd hg rfl ?_
  show _ = Result.ok (Next.value (.int .i64 X.cy)) w
  generalize a.eval = ρ at e14 ⊢
  unfold execOp
  rw [hop]
  simp [e14, hc0, go_sem]
theorem SDS.s5 (X : SDS) (ok : SDSOk X) {Q : Exit → Act → World → Prop} : StepG (opsOf 2 Tryz.f96) SDS.acts SDS.av X.val0 X.Wd X.a0 Q 5 := by
  intro γ listed a w o hF hC hW h1 ho h2
  obtain ⟨hd, hop, hg⟩ := fields2 (x := some 16) (y := Op.binOp .sub 3 (.tmp 13) (.tmp 15) 3) (z := none) (by kernel_rfl) ho
  have e13 : a.eval (.tmp 13) = .int .i64 X.ay := slotG hF ho h2 (j := 2) (d := 13) (by kernel_rfl) (by kernel_rfl) (by rw [ok.sz]; decide)
  have e15 : a.eval (.tmp 15) = .int .i64 X.cy := slotG hF ho h2 (j := 4) (d := 15) (by kernel_rfl) (by kernel_rfl) (by rw [ok.sz]; decide)
  refine st_pureG hF hC hW ho h2 (by decide) hd hg rfl ?_
  show _ = Result.ok (Next.value (.int .i64 (X.ay - X.cy))) w
  generalize a.eval = ρ at e13 e15 ⊢
  unfold execOp
  rw [hop]
  simp [e13, e15, ok.w1, go_sem]
theorem SDS.s6 (X : SDS) (ok : SDSOk X) {Q : Exit → Act → World → Prop} : StepG (opsOf 2 Tryz.f96) SDS.acts SDS.av X.val0 X.Wd X.a0 Q 6 := by
  intro γ listed a w o hF hC hW h1 ho h2
  obtain ⟨hd, hop, hg⟩ := fields2 (x := some 17) (y := Op.move (.tmp 7)) (z := none) (by kernel_rfl) ho
  have e7 : a.eval (.tmp 7) = .int .i64 X.n := (hF.eval0 (by kernel_rfl)).trans ok.e7
  refine st_pureG hF hC hW ho h2 (by decide) hd hg rfl ?_
  show _ = Result.ok (Next.value (.int .i64 X.n)) w
  generalize a.eval = ρ at e7 ⊢
  unfold execOp
  rw [hop]
  simp [e7, go_sem]
theorem SDS.s7 (X : SDS) (ok : SDSOk X) {Q : Exit → Act → World → Prop} : StepG (opsOf 2 Tryz.f96) SDS.acts SDS.av X.val0 X.Wd X.a0 Q 7 := by
  intro γ listed a w o hF hC hW h1 ho h2
  obtain ⟨hd, hop, hg⟩ := fields2 (x := some 18) (y := Op.call { callee := .value (.func 110), args := #[(.tmp 16), (.tmp 17)], argTypes := #[3, 3] }) (z := none) (by kernel_rfl) ho
  have e16 : a.eval (.tmp 16) = .int .i64 (X.ay - X.cy) := slotG hF ho h2 (j := 5) (d := 16) (by kernel_rfl) (by kernel_rfl) (by rw [ok.sz]; decide)
  have e17 : a.eval (.tmp 17) = .int .i64 X.n := slotG hF ho h2 (j := 6) (d := 17) (by kernel_rfl) (by kernel_rfl) (by rw [ok.sz]; decide)
  have ef : a.eval (.func 110) = .func (.func 110) #[] #[] := rfl
  have hph := phase_leG (acts := SDS.acts) (m := 0) (x := 19) hC (unl (hF.lt ho) h1) rfl [18, 8, 7] (by kernel_rfl) (by decide)
  have hWW := hW
  generalize phase listed SDS.acts = n at hph hWW
  refine st_callG hF hC hW ho h2 (by decide) hd hg rfl (f := 110) (args := #[.int .i64 (X.ay - X.cy), .int .i64 X.n]) ?_ ?_ ?_
  · generalize a.eval = ρ at e16 e17 ef ⊢
    unfold execOp
    rw [hop]
    simp [e16, e17, ef, go_sem]
  · exact sfd _ _ w
  · intro w' hk
    have hz : phase listed SDS.acts = 0 := by
      have := phase_leG (acts := SDS.acts) (m := 0) (x := 19) hC (unl (hF.lt ho) h1) rfl [18, 8, 7] (by kernel_rfl) (by decide)
      omega
    rw [hz] at hW ⊢
    exact Kp.trans hW hk
theorem SDS.s8 (X : SDS) (ok : SDSOk X) {Q : Exit → Act → World → Prop} : StepG (opsOf 2 Tryz.f96) SDS.acts SDS.av X.val0 X.Wd X.a0 Q 8 := by
  intro γ listed a w o hF hC hW h1 ho h2
  obtain ⟨hd, hop, hg⟩ := fields2 (x := some 19) (y := Op.call { callee := .value (.func 109), args := #[(.tmp 11), (.tmp 18)], argTypes := #[3, 3] }) (z := none) (by kernel_rfl) ho
  have e11 : a.eval (.tmp 11) = .int .i64 X.h := slotG hF ho h2 (j := 0) (d := 11) (by kernel_rfl) (by kernel_rfl) (by rw [ok.sz]; decide)
  have e18 : a.eval (.tmp 18) = .int .i64 (divV (X.ay - X.cy) X.n) := slotG hF ho h2 (j := 7) (d := 18) (by kernel_rfl) (by kernel_rfl) (by rw [ok.sz]; decide)
  have ef : a.eval (.func 109) = .func (.func 109) #[] #[] := rfl
  have hph := phase_leG (acts := SDS.acts) (m := 0) (x := 19) hC (unl (hF.lt ho) h1) rfl [18, 8] (by kernel_rfl) (by decide)
  have hWW := hW
  generalize phase listed SDS.acts = n at hph hWW
  refine st_callG hF hC hW ho h2 (by decide) hd hg rfl (f := 109) (args := #[.int .i64 X.h, .int .i64 (divV (X.ay - X.cy) X.n)]) ?_ ?_ ?_
  · generalize a.eval = ρ at e11 e18 ef ⊢
    unfold execOp
    rw [hop]
    simp [e11, e18, ef, go_sem]
  · exact sfm _ _ w
  · intro w' hk
    have hz : phase listed SDS.acts = 0 := by
      have := phase_leG (acts := SDS.acts) (m := 0) (x := 19) hC (unl (hF.lt ho) h1) rfl [18, 8] (by kernel_rfl) (by decide)
      omega
    rw [hz] at hW ⊢
    exact Kp.trans hW hk
theorem SDS.s9 (X : SDS) (ok : SDSOk X) {Q : Exit → Act → World → Prop} : StepG (opsOf 2 Tryz.f96) SDS.acts SDS.av X.val0 X.Wd X.a0 Q 9 := by
  intro γ listed a w o hF hC hW h1 ho h2
  obtain ⟨hd, hop, hg⟩ := fields2 (x := some 20) (y := Op.move (.tmp 2)) (z := none) (by kernel_rfl) ho
  have e2 : a.eval (.tmp 2) = .int .i64 X.h := (hF.eval0 (by kernel_rfl)).trans ok.e2
  refine st_pureG hF hC hW ho h2 (by decide) hd hg rfl ?_
  show _ = Result.ok (Next.value (.int .i64 X.h)) w
  generalize a.eval = ρ at e2 ⊢
  unfold execOp
  rw [hop]
  simp [e2, go_sem]
theorem SDS.s10 (X : SDS) (ok : SDSOk X) {Q : Exit → Act → World → Prop} : StepG (opsOf 2 Tryz.f96) SDS.acts SDS.av X.val0 X.Wd X.a0 Q 10 := by
  intro γ listed a w o hF hC hW h1 ho h2
  obtain ⟨hd, hop, hg⟩ := fields2 (x := some 21) (y := Op.fieldAddr 34 (.tmp 4) 0) (z := none) (by kernel_rfl) ho
  have e4 : a.eval (.tmp 4) = .pointer (some ⟨X.b1, 0, none⟩) := (hF.eval0 (by kernel_rfl)).trans ok.e4
  refine st_pureG hF hC hW ho h2 (by decide) hd hg rfl ?_
  show _ = Result.ok (Next.value (.pointer (some ⟨X.b1, 0, none⟩))) w
  generalize a.eval = ρ at e4 ⊢
  unfold execOp
  rw [hop]
  simp [e4, go_sem]
theorem SDS.s11 (X : SDS) (ok : SDSOk X) {Q : Exit → Act → World → Prop} : StepG (opsOf 2 Tryz.f96) SDS.acts SDS.av X.val0 X.Wd X.a0 Q 11 := by
  intro γ listed a w o hF hC hW h1 ho h2
  obtain ⟨hd, hop, hg⟩ := fields2 (x := some 22) (y := Op.load 3 (.tmp 21)) (z := none) (by kernel_rfl) ho
  have e21 : a.eval (.tmp 21) = .pointer (some ⟨X.b1, 0, none⟩) := slotG hF ho h2 (j := 10) (d := 21) (by kernel_rfl) (by kernel_rfl) (by rw [ok.sz]; decide)
  have hph := phase_leG (acts := SDS.acts) (m := 0) (x := 19) hC (unl (hF.lt ho) h1) rfl [18, 17, 16, 14, 11] (by kernel_rfl) (by decide)
  have hWW := hW
  generalize phase listed SDS.acts = n at hph hWW
  have hk : Kp X.W w := by
    obtain rfl : n = 0 := by omega
    exact hWW
  have hc0 := rq_at hk ok.c2
  refine st_pureG hF hC hW ho h2 (by decide) hd hg rfl ?_
  show _ = Result.ok (Next.value (.int .i64 X.bx)) w
  generalize a.eval = ρ at e21 ⊢
  unfold execOp
  rw [hop]
  simp [e21, hc0, go_sem]
theorem SDS.s12 (X : SDS) (ok : SDSOk X) {Q : Exit → Act → World → Prop} : StepG (opsOf 2 Tryz.f96) SDS.acts SDS.av X.val0 X.Wd X.a0 Q 12 := by
  intro γ listed a w o hF hC hW h1 ho h2
  obtain ⟨hd, hop, hg⟩ := fields2 (x := some 23) (y := Op.fieldAddr 34 (.tmp 3) 0) (z := none) (by kernel_rfl) ho
  have e3 : a.eval (.tmp 3) = .pointer (some ⟨X.b0, 0, none⟩) := (hF.eval0 (by kernel_rfl)).trans ok.e3
  refine st_pureG hF hC hW ho h2 (by decide) hd hg rfl ?_
  show _ = Result.ok (Next.value (.pointer (some ⟨X.b0, 0, none⟩))) w
  generalize a.eval = ρ at e3 ⊢
  unfold execOp
  rw [hop]
  simp [e3, go_sem]
theorem SDS.s13 (X : SDS) (ok : SDSOk X) {Q : Exit → Act → World → Prop} : StepG (opsOf 2 Tryz.f96) SDS.acts SDS.av X.val0 X.Wd X.a0 Q 13 := by
  intro γ listed a w o hF hC hW h1 ho h2
  obtain ⟨hd, hop, hg⟩ := fields2 (x := some 24) (y := Op.load 3 (.tmp 23)) (z := none) (by kernel_rfl) ho
  have e23 : a.eval (.tmp 23) = .pointer (some ⟨X.b0, 0, none⟩) := slotG hF ho h2 (j := 12) (d := 23) (by kernel_rfl) (by kernel_rfl) (by rw [ok.sz]; decide)
  have hph := phase_leG (acts := SDS.acts) (m := 0) (x := 19) hC (unl (hF.lt ho) h1) rfl [18, 17, 16, 14, 13] (by kernel_rfl) (by decide)
  have hWW := hW
  generalize phase listed SDS.acts = n at hph hWW
  have hk : Kp X.W w := by
    obtain rfl : n = 0 := by omega
    exact hWW
  have hc0 := rq_at hk ok.c0
  refine st_pureG hF hC hW ho h2 (by decide) hd hg rfl ?_
  show _ = Result.ok (Next.value (.int .i64 X.ax)) w
  generalize a.eval = ρ at e23 ⊢
  unfold execOp
  rw [hop]
  simp [e23, hc0, go_sem]
theorem SDS.s14 (X : SDS) (ok : SDSOk X) {Q : Exit → Act → World → Prop} : StepG (opsOf 2 Tryz.f96) SDS.acts SDS.av X.val0 X.Wd X.a0 Q 14 := by
  intro γ listed a w o hF hC hW h1 ho h2
  obtain ⟨hd, hop, hg⟩ := fields2 (x := some 25) (y := Op.binOp .sub 3 (.tmp 22) (.tmp 24) 3) (z := none) (by kernel_rfl) ho
  have e22 : a.eval (.tmp 22) = .int .i64 X.bx := slotG hF ho h2 (j := 11) (d := 22) (by kernel_rfl) (by kernel_rfl) (by rw [ok.sz]; decide)
  have e24 : a.eval (.tmp 24) = .int .i64 X.ax := slotG hF ho h2 (j := 13) (d := 24) (by kernel_rfl) (by kernel_rfl) (by rw [ok.sz]; decide)
  refine st_pureG hF hC hW ho h2 (by decide) hd hg rfl ?_
  show _ = Result.ok (Next.value (.int .i64 (X.bx - X.ax))) w
  generalize a.eval = ρ at e22 e24 ⊢
  unfold execOp
  rw [hop]
  simp [e22, e24, ok.w2, go_sem]
theorem SDS.s15 (X : SDS) (ok : SDSOk X) {Q : Exit → Act → World → Prop} : StepG (opsOf 2 Tryz.f96) SDS.acts SDS.av X.val0 X.Wd X.a0 Q 15 := by
  intro γ listed a w o hF hC hW h1 ho h2
  obtain ⟨hd, hop, hg⟩ := fields2 (x := some 26) (y := Op.move (.tmp 7)) (z := none) (by kernel_rfl) ho
  have e7 : a.eval (.tmp 7) = .int .i64 X.n := (hF.eval0 (by kernel_rfl)).trans ok.e7
  refine st_pureG hF hC hW ho h2 (by decide) hd hg rfl ?_
  show _ = Result.ok (Next.value (.int .i64 X.n)) w
  generalize a.eval = ρ at e7 ⊢
  unfold execOp
  rw [hop]
  simp [e7, go_sem]
theorem SDS.s16 (X : SDS) (ok : SDSOk X) {Q : Exit → Act → World → Prop} : StepG (opsOf 2 Tryz.f96) SDS.acts SDS.av X.val0 X.Wd X.a0 Q 16 := by
  intro γ listed a w o hF hC hW h1 ho h2
  obtain ⟨hd, hop, hg⟩ := fields2 (x := some 27) (y := Op.call { callee := .value (.func 110), args := #[(.tmp 25), (.tmp 26)], argTypes := #[3, 3] }) (z := none) (by kernel_rfl) ho
  have e25 : a.eval (.tmp 25) = .int .i64 (X.bx - X.ax) := slotG hF ho h2 (j := 14) (d := 25) (by kernel_rfl) (by kernel_rfl) (by rw [ok.sz]; decide)
  have e26 : a.eval (.tmp 26) = .int .i64 X.n := slotG hF ho h2 (j := 15) (d := 26) (by kernel_rfl) (by kernel_rfl) (by rw [ok.sz]; decide)
  have ef : a.eval (.func 110) = .func (.func 110) #[] #[] := rfl
  have hph := phase_leG (acts := SDS.acts) (m := 0) (x := 19) hC (unl (hF.lt ho) h1) rfl [18, 17, 16] (by kernel_rfl) (by decide)
  have hWW := hW
  generalize phase listed SDS.acts = n at hph hWW
  refine st_callG hF hC hW ho h2 (by decide) hd hg rfl (f := 110) (args := #[.int .i64 (X.bx - X.ax), .int .i64 X.n]) ?_ ?_ ?_
  · generalize a.eval = ρ at e25 e26 ef ⊢
    unfold execOp
    rw [hop]
    simp [e25, e26, ef, go_sem]
  · exact sfd _ _ w
  · intro w' hk
    have hz : phase listed SDS.acts = 0 := by
      have := phase_leG (acts := SDS.acts) (m := 0) (x := 19) hC (unl (hF.lt ho) h1) rfl [18, 17, 16] (by kernel_rfl) (by decide)
      omega
    rw [hz] at hW ⊢
    exact Kp.trans hW hk
theorem SDS.s17 (X : SDS) (ok : SDSOk X) {Q : Exit → Act → World → Prop} : StepG (opsOf 2 Tryz.f96) SDS.acts SDS.av X.val0 X.Wd X.a0 Q 17 := by
  intro γ listed a w o hF hC hW h1 ho h2
  obtain ⟨hd, hop, hg⟩ := fields2 (x := some 28) (y := Op.call { callee := .value (.func 109), args := #[(.tmp 20), (.tmp 27)], argTypes := #[3, 3] }) (z := none) (by kernel_rfl) ho
  have e20 : a.eval (.tmp 20) = .int .i64 X.h := slotG hF ho h2 (j := 9) (d := 20) (by kernel_rfl) (by kernel_rfl) (by rw [ok.sz]; decide)
  have e27 : a.eval (.tmp 27) = .int .i64 (divV (X.bx - X.ax) X.n) := slotG hF ho h2 (j := 16) (d := 27) (by kernel_rfl) (by kernel_rfl) (by rw [ok.sz]; decide)
  have ef : a.eval (.func 109) = .func (.func 109) #[] #[] := rfl
  have hph := phase_leG (acts := SDS.acts) (m := 0) (x := 19) hC (unl (hF.lt ho) h1) rfl [18, 17] (by kernel_rfl) (by decide)
  have hWW := hW
  generalize phase listed SDS.acts = n at hph hWW
  refine st_callG hF hC hW ho h2 (by decide) hd hg rfl (f := 109) (args := #[.int .i64 X.h, .int .i64 (divV (X.bx - X.ax) X.n)]) ?_ ?_ ?_
  · generalize a.eval = ρ at e20 e27 ef ⊢
    unfold execOp
    rw [hop]
    simp [e20, e27, ef, go_sem]
  · exact sfm _ _ w
  · intro w' hk
    have hz : phase listed SDS.acts = 0 := by
      have := phase_leG (acts := SDS.acts) (m := 0) (x := 19) hC (unl (hF.lt ho) h1) rfl [18, 17] (by kernel_rfl) (by decide)
      omega
    rw [hz] at hW ⊢
    exact Kp.trans hW hk
theorem SDS.s18 (X : SDS) (ok : SDSOk X) {Q : Exit → Act → World → Prop} : StepG (opsOf 2 Tryz.f96) SDS.acts SDS.av X.val0 X.Wd X.a0 Q 18 := by
  intro γ listed a w o hF hC hW h1 ho h2
  obtain ⟨hd, hop, hg⟩ := fields2 (x := some 29) (y := Op.build 34 #[(0, (.tmp 19)), (1, (.tmp 28))]) (z := none) (by kernel_rfl) ho
  have e19 : a.eval (.tmp 19) = .int .i64 (fmV X.h (divV (X.ay - X.cy) X.n)) := slotG hF ho h2 (j := 8) (d := 19) (by kernel_rfl) (by kernel_rfl) (by rw [ok.sz]; decide)
  have e28 : a.eval (.tmp 28) = .int .i64 (fmV X.h (divV (X.bx - X.ax) X.n)) := slotG hF ho h2 (j := 17) (d := 28) (by kernel_rfl) (by kernel_rfl) (by rw [ok.sz]; decide)
  refine st_pureG hF hC hW ho h2 (by decide) hd hg rfl ?_
  show _ = Result.ok (Next.value (.agg #[.int .i64 (fmV X.h (divV (X.ay - X.cy) X.n)), .int .i64 (fmV X.h (divV (X.bx - X.ax) X.n))])) w
  generalize a.eval = ρ at e19 e28 ⊢
  unfold execOp
  rw [hop]
  simp [e19, e28, go_sem]
theorem SDS.s19 (X : SDS) (ok : SDSOk X) {Q : Exit → Act → World → Prop} : StepG (opsOf 2 Tryz.f96) SDS.acts SDS.av X.val0 X.Wd X.a0 Q 19 := by
  intro γ listed a w o hF hC hW h1 ho h2
  obtain ⟨hd, hop, hg⟩ := fields2 (x := none) (y := Op.store 34 (.tmp 6) (.tmp 29)) (z := none) (by kernel_rfl) ho
  have e6 : a.eval (.tmp 6) = .pointer (some ⟨X.br, 0, none⟩) := (hF.eval0 (by kernel_rfl)).trans ok.e6
  have e29 : a.eval (.tmp 29) = .agg #[.int .i64 (fmV X.h (divV (X.ay - X.cy) X.n)), .int .i64 (fmV X.h (divV (X.bx - X.ax) X.n))] := slotG hF ho h2 (j := 18) (d := 29) (by kernel_rfl) (by kernel_rfl) (by rw [ok.sz]; decide)
  have hu := unl (hF.lt ho) h1
  refine st_actG (k := 0) SDS.chain SDS.nodup rfl hF hC hW h1 ho h2 (Or.inl hd) (SDS.inj (by kernel_rfl) hu) hg ?_
  intro hW0 K hK
  obtain ⟨u0, z0⟩ := ok.z0
  replace z0 := rq_at hW0 z0
  obtain ⟨u1, z1⟩ := ok.z1
  replace z1 := rq_at hW0 z1
  have zf : ∀ o, w.frozen? ⟨X.br, o, none⟩ = false := fun o => (hW0.cells.2 _ _).trans (ok.zf o)
  have hr : (execOp a.eval o).run Tryz.prog w = .ok .skip ((w.setCell ⟨X.br, 0, none⟩ (.int .i64 (fmV X.h (divV (X.ay - X.cy) X.n)))).setCell ⟨X.br, 1, none⟩ (.int .i64 (fmV X.h (divV (X.bx - X.ax) X.n)))) := by
    generalize a.eval = ρ at e6 e29 ⊢
    unfold execOp
    rw [hop]
    simp [e6, e29, z0, z1, zf, go_sem]
  unfold Oper.wp
  rw [hr]
  exact hK _ _ ⟨w, hW0, rfl⟩
theorem SDS.size : (opsOf 2 Tryz.f96).size = 20 := by kernel_rfl
theorem SDS.steps (X : SDS) (ok : SDSOk X) {Q : Exit → Act → World → Prop} (i : Nat) (hi : i < (opsOf 2 Tryz.f96).size) : StepG (opsOf 2 Tryz.f96) SDS.acts SDS.av X.val0 X.Wd X.a0 Q i := by
  rw [SDS.size] at hi
  have hc : i = 0 ∨ i = 1 ∨ i = 2 ∨ i = 3 ∨ i = 4 ∨ i = 5 ∨ i = 6 ∨ i = 7 ∨ i = 8 ∨ i = 9 ∨ i = 10 ∨ i = 11 ∨ i = 12 ∨ i = 13 ∨ i = 14 ∨ i = 15 ∨ i = 16 ∨ i = 17 ∨ i = 18 ∨ i = 19 := by omega
  rcases hc with rfl | rfl | rfl | rfl | rfl | rfl | rfl | rfl | rfl | rfl | rfl | rfl | rfl | rfl | rfl | rfl | rfl | rfl | rfl | rfl
  · exact SDS.s0 X ok
  · exact SDS.s1 X ok
  · exact SDS.s2 X ok
  · exact SDS.s3 X ok
  · exact SDS.s4 X ok
  · exact SDS.s5 X ok
  · exact SDS.s6 X ok
  · exact SDS.s7 X ok
  · exact SDS.s8 X ok
  · exact SDS.s9 X ok
  · exact SDS.s10 X ok
  · exact SDS.s11 X ok
  · exact SDS.s12 X ok
  · exact SDS.s13 X ok
  · exact SDS.s14 X ok
  · exact SDS.s15 X ok
  · exact SDS.s16 X ok
  · exact SDS.s17 X ok
  · exact SDS.s18 X ok
  · exact SDS.s19 X ok
theorem SDS.puts (X : SDS) (γ : Nat → Value) (a0 : Act) : putsL (valG SDS.av X.val0 γ) (opsOf 2 Tryz.f96).toList a0 = (((((((((((((((((((a0.put (some 11) (.int .i64 X.h)).put (some 12) (.pointer (some ⟨X.b0, 1, none⟩))).put (some 13) (.int .i64 X.ay)).put (some 14) (.pointer (some ⟨X.b1, 1, none⟩))).put (some 15) (.int .i64 X.cy)).put (some 16) (.int .i64 (X.ay - X.cy))).put (some 17) (.int .i64 X.n)).put (some 18) (.int .i64 (divV (X.ay - X.cy) X.n))).put (some 19) (.int .i64 (fmV X.h (divV (X.ay - X.cy) X.n)))).put (some 20) (.int .i64 X.h)).put (some 21) (.pointer (some ⟨X.b1, 0, none⟩))).put (some 22) (.int .i64 X.bx)).put (some 23) (.pointer (some ⟨X.b0, 0, none⟩))).put (some 24) (.int .i64 X.ax)).put (some 25) (.int .i64 (X.bx - X.ax))).put (some 26) (.int .i64 X.n)).put (some 27) (.int .i64 (divV (X.bx - X.ax) X.n))).put (some 28) (.int .i64 (fmV X.h (divV (X.bx - X.ax) X.n)))).put (some 29) (.agg #[.int .i64 (fmV X.h (divV (X.ay - X.cy) X.n)), .int .i64 (fmV X.h (divV (X.bx - X.ax) X.n))])) := by kernel_rfl
/-- The region, whatever order comes up. -/
theorem SDS.run (X : SDS) (ok : SDSOk X) {Q : Exit → Act → World → Prop} (w : World) (h0 : X.Wd 0 (fun _ => undef) w.drew) (hend : ∀ (γ : Nat → Value) w', X.Wd 1 γ w' → Q .normal (((((((((((((((((((X.a0.put (some 11) (.int .i64 X.h)).put (some 12) (.pointer (some ⟨X.b0, 1, none⟩))).put (some 13) (.int .i64 X.ay)).put (some 14) (.pointer (some ⟨X.b1, 1, none⟩))).put (some 15) (.int .i64 X.cy)).put (some 16) (.int .i64 (X.ay - X.cy))).put (some 17) (.int .i64 X.n)).put (some 18) (.int .i64 (divV (X.ay - X.cy) X.n))).put (some 19) (.int .i64 (fmV X.h (divV (X.ay - X.cy) X.n)))).put (some 20) (.int .i64 X.h)).put (some 21) (.pointer (some ⟨X.b1, 0, none⟩))).put (some 22) (.int .i64 X.bx)).put (some 23) (.pointer (some ⟨X.b0, 0, none⟩))).put (some 24) (.int .i64 X.ax)).put (some 25) (.int .i64 (X.bx - X.ax))).put (some 26) (.int .i64 X.n)).put (some 27) (.int .i64 (divV (X.bx - X.ax) X.n))).put (some 28) (.int .i64 (fmV X.h (divV (X.bx - X.ax) X.n)))).put (some 29) (.agg #[.int .i64 (fmV X.h (divV (X.ay - X.cy) X.n)), .int .i64 (fmV X.h (divV (X.bx - X.ax) X.n))])) w') : (Code.region 2 (opsOf 2 Tryz.f96) true).wp Tryz.prog Q X.a0 w := by
  refine reg_act (acts := SDS.acts) (av := SDS.av) (val0 := X.val0) (Wd := X.Wd) (by kernel_rfl) (by kernel_rfl) (by rw [SDS.size]; decide) (fun i hi => SDS.steps X ok i hi) _ h0 ?_
  intro γ w' h
  rw [SDS.puts]
  exact hend γ w' h
end Go.Proofs.YtfdjjbgcaojcnaaGreat
namespace Go.Proofs.YtfdjjbgcaojcnaaGreat
open Go.ChangeShapes Go.WideShapes Go.ChangeAt Go.RowKit
set_option linter.unusedVariables false

/-- The side of a segment. -/
def sideP (a b : Pnt) (h : Int) : Pnt := (fmV h (divV (a.2 - b.2) (szV a b)), fmV h (divV (b.1 - a.1) (szV a b)))
/-- What SideOf answers. -/
def sdV (a b : Pnt) (h : Int) : Pnt × Bool := if nearB a = true ∧ nearB b = true ∧ a ≠ b ∧ (0 ≤ h ∧ h ≤ 4194304) then (sideP a b h, true) else ((0, 0), false)
theorem wrap_small {x : Int} (h1 : -9223372036854775808 ≤ x) (h2 : x ≤ 9223372036854775807) : IntKind.i64.wrap x = x := by
  unfold IntKind.wrap; simp [IntKind.signed, IntKind.bits]; omega
/-- Two boxes and a third one of noughts, later on. -/
theorem boxes3 {w w1 : World} {ax ay bx by' : Int} {t1 t2 t3 : TypeId} (h : Kp (((w.alloc (.cells #[.int .i64 ax, .int .i64 ay] t1)).alloc (.cells #[.int .i64 bx, .int .i64 by'] t2)).alloc (.cells #[.int .i64 0, .int .i64 0] t3)) w1) :
    (w1.cell? ⟨w.heap.size, 0, none⟩ = some (.int .i64 ax) ∧ w1.cell? ⟨w.heap.size, 1, none⟩ = some (.int .i64 ay)) ∧ (w1.cell? ⟨w.heap.size + 1, 0, none⟩ = some (.int .i64 bx) ∧ w1.cell? ⟨w.heap.size + 1, 1, none⟩ = some (.int .i64 by')) ∧
    (w1.cell? ⟨w.heap.size + 1 + 1, 0, none⟩ = some (.int .i64 0) ∧ w1.cell? ⟨w.heap.size + 1 + 1, 1, none⟩ = some (.int .i64 0) ∧ ∀ o, w1.frozen? ⟨w.heap.size + 1 + 1, o, none⟩ = false) := by
  obtain ⟨h1, h2, _⟩ := boxes2 (Kp.trans ((Kp.refl _).alloc _ _) h)
  obtain ⟨z0, z1, zf, _⟩ := zbox _ w1 _ h
  rw [World.size_alloc, World.size_alloc] at z0 z1 zf
  exact ⟨h1, h2, z0, z1, zf⟩
set_option maxRecDepth 100000 in
set_option maxHeartbeats 4000000 in
theorem sside (w : World) (a b : Pnt) (h : Int) (ha : nearB a = true) (hb : nearB b = true) :
    Calls Tryz.prog 96 #[.agg #[.int .i64 a.1, .int .i64 a.2], .agg #[.int .i64 b.1, .int .i64 b.2], .int .i64 h] w fun e w' => e = .returned (.agg #[.int .i64 (sideP a b h).1, .int .i64 (sideP a b h).2]) ∧ Kp w w' := by
  have HS : Hid _ := fun w => ssize w a b ha hb
  obtain ⟨a1, a2⟩ := nearB_nr ha
  obtain ⟨b1, b2⟩ := nearB_nr hb
  unfold sideP
  clear ha hb
  generalize szV a b = n at *
  obtain ⟨ax, ay⟩ := a
  obtain ⟨bx, by'⟩ := b
  unfold nr at *
  simp only at *
  have x1 : IntKind.i64.wrap (ay - by') = ay - by' := wrap_small (by omega) (by omega)
  have x2 : IntKind.i64.wrap (bx - ax) = bx - ax := wrap_small (by omega) (by omega)
  obtain ⟨W, hW⟩ : ∃ W, ((w.alloc (.cells #[.int .i64 ax, .int .i64 ay] 34)).alloc (.cells #[.int .i64 bx, .int .i64 by'] 34)).alloc (.cells #[.int .i64 0, .int .i64 0] 34) = W := ⟨_, rfl⟩
  have HB : Hid (∀ w1, Kp W w1 → _) := fun w1 k => boxes3 (hW ▸ k)
  have KW : Hid (Kp w W) := by show Kp w W; rw [← hW]; exact (((Kp.refl w).alloc _ _).alloc _ _).alloc _ _
  have HW : Hid (_ = W) := hW
  clear hW
  obtain ⟨u, hu⟩ : ∃ u, fmV h (divV (ay - by') n) = u := ⟨_, rfl⟩
  obtain ⟨v, hv⟩ : ∃ v, fmV h (divV (bx - ax) n) = v := ⟨_, rfl⟩
  rw [hu, hv]
  go_enter Tryz.func96, Tryz.ntmps96
  go_wp2_with fail
  rw [HW.out]
  clear HW
  refine Calls.mono (HS.out _) ?_
  rintro e w1 ⟨rfl, k1⟩
  obtain ⟨⟨q0, q1⟩, ⟨q2, q3⟩, z0, z1, zf⟩ := HB.out w1 k1
  have K1 : Hid (Kp w w1) := Kp.trans KW.out k1
  clear k1 HB
  go_wp2
  refine reg_change (ops' := opsOf 2 Tryz.f96) (by kernel_rfl) ?_
  refine SDS.run ⟨ax, ay, bx, by', h, n, w.heap.size, w.heap.size + 1, w.heap.size + 1 + 1, w1.drew, _⟩ ⟨q0, q1, q2, q3, x1, x2, ⟨_, z0⟩, ⟨_, z1⟩, zf, rfl, rfl, rfl, rfl, rfl, rfl⟩ w1 (Kp.refl _) ?_
  rintro γ w2 ⟨w3, k3, rfl⟩
  replace k3 : Kp w1 w3 := undrew k3
  replace z0 := rq_at k3 z0
  replace z1 := rq_at k3 z1
  have K3 : Hid (Kp w w3) := Kp.trans K1.out k3
  clear k3 q0 q1 q2 q3 K1 zf
  simp only [hu, hv, Act.put, List.setIfInBounds_toArray, List.set_cons_zero, List.set_cons_succ]
  obtain ⟨y0, y1⟩ := set2 w3 (w.heap.size + 1 + 1) (.int .i64 u) (.int .i64 v) z0 z1
  go_wp2
  refine bodyPost_ret (v := .agg #[.int .i64 u, .int .i64 v]) (by simp [results, Tryz.results96, go_sem, y0, y1]) rfl ⟨rfl, ?_⟩
  exact (K3.out.setCell (by simp; omega) _).setCell (by simp; omega) _
end Go.Proofs.YtfdjjbgcaojcnaaGreat
namespace Go.Proofs.YtfdjjbgcaojcnaaGreat
open Go.ChangeShapes Go.WideShapes Go.ChangeAt Go.RowKit
set_option linter.unusedVariables false

set_option maxRecDepth 100000 in
set_option maxHeartbeats 4000000 in
theorem isideOf (w : World) (a b : Pnt) (h : Int) :
    Calls Tryz.prog 89 #[.agg #[.int .i64 a.1, .int .i64 a.2], .agg #[.int .i64 b.1, .int .i64 b.2], .int .i64 h] w fun e w' => e = .returned (.tuple #[.agg #[.int .i64 (sdV a b h).1.1, .int .i64 (sdV a b h).1.2], .bool (sdV a b h).2]) ∧ Kp w w' := by
  have HA : Hid _ := fun w => isizeOf w a b
  have HH : Hid _ := fun w => iin_any w h 0 4194304
  obtain ⟨r, hr⟩ : ∃ r, sdV a b h = r := ⟨_, rfl⟩
  rw [hr]
  have HR : Hid (sdV a b h = r) := hr
  clear hr
  obtain ⟨⟨rx, ry⟩, rb⟩ := r
  simp only
  have HN : Hid (¬ (nearB a = true ∧ nearB b = true ∧ a ≠ b ∧ (0 ≤ h ∧ h ≤ 4194304)) → rx = 0 ∧ ry = 0 ∧ rb = false) := fun hn => by
    have h2 := HR.out
    unfold sdV at h2
    rw [if_neg hn] at h2
    injection h2 with h3 h4
    injection h3 with h5 h6
    exact ⟨h5.symm, h6.symm, h4.symm⟩
  have HY : Hid ((nearB a = true ∧ nearB b = true ∧ a ≠ b ∧ (0 ≤ h ∧ h ≤ 4194304)) → fmV h (divV (a.2 - b.2) (szV a b)) = rx ∧ fmV h (divV (b.1 - a.1) (szV a b)) = ry ∧ rb = true) := fun hn => by
    have h2 := HR.out
    unfold sdV sideP at h2
    rw [if_pos hn] at h2
    injection h2 with h3 h4
    injection h3 with h5 h6
    exact ⟨h5, h6, h4.symm⟩
  clear HR
  have hD : (decide (a = b) : Bool) = (a.1 == b.1 && a.2 == b.2) := by
    rw [Bool.eq_iff_iff]
    simp [Prod.ext_iff]
  obtain ⟨W, hW⟩ : ∃ W, ((w.alloc (.cells #[.int .i64 a.1, .int .i64 a.2] 34)).alloc (.cells #[.int .i64 b.1, .int .i64 b.2] 34)).alloc (.cells #[.int .i64 0, .int .i64 0] 34) = W := ⟨_, rfl⟩
  have KW : Hid (Kp w W) := by show Kp w W; rw [← hW]; exact (((Kp.refl w).alloc _ _).alloc _ _).alloc _ _
  have HBX : Hid (∀ w1, Kp W w1 → _) := fun w1 k => boxes3 (hW ▸ k)
  have HW : Hid (_ = W) := hW
  clear hW
  by_cases hn : nearB a = true ∧ nearB b = true
  · have es : soV a b = (szV a b, true) := by unfold soV; rw [if_pos hn]
    rw [es] at HA
    simp only at HA
    clear es
    by_cases heq : a = b
    · obtain ⟨e0, e1, e2⟩ := HN.out (fun h => h.2.2.1 heq)
      subst e0 e1 e2
      have h1 : (a.1 == b.1) = true := by rw [heq]; simp
      have h2 : (a.2 == b.2) = true := by rw [heq]; simp
      clear HN HY heq hD
      generalize szV a b = n at *
      go_enter Tryz.func89, Tryz.ntmps89
      go_wp2_with fail
      rw [HW.out]
      refine Calls.mono (HA.out _) ?_
      rintro e w2 ⟨rfl, k1⟩
      obtain ⟨⟨q0, q1⟩, ⟨q2, q3⟩, z0, z1, zf⟩ := HBX.out w2 k1
      have K2 : Hid (Kp W w2) := k1
      clear k1
      obtain ⟨y0, y1⟩ := set2 w2 (w.heap.size + 1 + 1) (.int .i64 0) (.int .i64 0) z0 z1
      go_wp2
      refine bodyPost_ret (v := .tuple #[.agg #[.int .i64 0, .int .i64 0], .bool false]) (by simp [results, Tryz.results89, go_sem, y0, y1]) rfl ⟨rfl, ?_⟩
      exact ((Kp.trans KW.out K2.out).setCell (by simp; omega) _).setCell (by simp; omega) _
    · have hne : (a.1 == b.1) = false ∨ ((a.1 == b.1) = true ∧ (a.2 == b.2) = false) := by
        rw [decide_eq_false heq] at hD
        cases h1 : (a.1 == b.1) with
        | false => exact Or.inl rfl
        | true => rw [h1] at hD; exact Or.inr ⟨rfl, by simpa using hD.symm⟩
      by_cases hh : 0 ≤ h ∧ h ≤ 4194304
      · obtain ⟨hu, hv, e1⟩ := HY.out ⟨hn.1, hn.2, heq, hh⟩
        rw [decide_eq_true hh] at HH
        obtain ⟨a1, a2⟩ := nearB_nr hn.1
        obtain ⟨b1, b2⟩ := nearB_nr hn.2
        unfold nr at a1 a2 b1 b2
        have x1 : IntKind.i64.wrap (a.2 - b.2) = a.2 - b.2 := wrap_small (by omega) (by omega)
        have x2 : IntKind.i64.wrap (b.1 - a.1) = b.1 - a.1 := wrap_small (by omega) (by omega)
        generalize szV a b = n at *
        obtain ⟨ax, ay⟩ := a
        obtain ⟨bx, by'⟩ := b
        simp only at *
        clear HN HY heq hD a1 a2 b1 b2 hn
        have X1 : Hid (IntKind.i64.wrap (ay - by') = ay - by') := x1
        have X2 : Hid (IntKind.i64.wrap (bx - ax) = bx - ax) := x2
        clear x1 x2
        rcases hne with h1 | ⟨h1, h2⟩
        all_goals
          go_enter Tryz.func89, Tryz.ntmps89
          go_wp2_with fail
          rw [HW.out]
          refine Calls.mono (HA.out _) ?_
          rintro e w2 ⟨rfl, k1⟩
          obtain ⟨⟨q0, q1⟩, ⟨q2, q3⟩, z0, z1, zf⟩ := HBX.out w2 k1
          have K2 : Hid (Kp W w2) := k1
          clear k1
          go_wp2_with fail
          refine Calls.mono (HH.out _) ?_
          rintro e w3 ⟨rfl, rfl⟩
          go_wp2
          refine reg_change (ops' := opsOf 4 Tryz.f89) (by kernel_rfl) ?_
          refine SDI.run ⟨ax, ay, bx, by', h, n, w.heap.size, w.heap.size + 1, w.heap.size + 1 + 1, w3.drew, _⟩ ⟨q0, q1, q2, q3, X1.out, X2.out, ⟨_, z0⟩, ⟨_, z1⟩, zf, rfl, rfl, rfl, rfl, rfl, rfl⟩ w3 (Kp.refl _) ?_
          rintro γ w5 ⟨w4, k4, rfl⟩
          replace k4 : Kp w3 w4 := undrew k4
          have K4 : Hid (Kp W w4) := Kp.trans K2.out k4
          clear k4 q0 q1 q2 q3 z0 z1 zf
          obtain ⟨_, _, z0, z1, zf⟩ := HBX.out w4 K4.out
          simp only [hu, hv, Act.put, List.setIfInBounds_toArray, List.set_cons_zero, List.set_cons_succ]
          obtain ⟨y0, y1⟩ := set2 w4 (w.heap.size + 1 + 1) (.int .i64 rx) (.int .i64 ry) z0 z1
          go_wp2
          refine bodyPost_ret (v := .tuple #[.agg #[.int .i64 rx, .int .i64 ry], .bool true]) (by simp [results, Tryz.results89, go_sem, y0, y1]) rfl ⟨by rw [e1], ?_⟩
          exact ((Kp.trans KW.out K4.out).setCell (by simp; omega) _).setCell (by simp; omega) _
      · obtain ⟨e0, e1, e2⟩ := HN.out (fun h => hh h.2.2.2)
        subst e0 e1 e2
        rw [decide_eq_false hh] at HH
        generalize szV a b = n at *
        clear HN HY heq hD
        rcases hne with h1 | ⟨h1, h2⟩
        all_goals
          go_enter Tryz.func89, Tryz.ntmps89
          go_wp2_with fail
          rw [HW.out]
          refine Calls.mono (HA.out _) ?_
          rintro e w2 ⟨rfl, k1⟩
          obtain ⟨⟨q0, q1⟩, ⟨q2, q3⟩, z0, z1, zf⟩ := HBX.out w2 k1
          have K2 : Hid (Kp W w2) := k1
          clear k1
          go_wp2_with fail
          refine Calls.mono (HH.out _) ?_
          rintro e w3 ⟨rfl, rfl⟩
          obtain ⟨y0, y1⟩ := set2 w3 (w.heap.size + 1 + 1) (.int .i64 0) (.int .i64 0) z0 z1
          go_wp2
          refine bodyPost_ret (v := .tuple #[.agg #[.int .i64 0, .int .i64 0], .bool false]) (by simp [results, Tryz.results89, go_sem, y0, y1]) rfl ⟨rfl, ?_⟩
          exact ((Kp.trans KW.out K2.out).setCell (by simp; omega) _).setCell (by simp; omega) _
  · have es : soV a b = (0, false) := by unfold soV; rw [if_neg hn]
    rw [es] at HA
    simp only at HA
    obtain ⟨e0, e1, e2⟩ := HN.out (fun h => hn ⟨h.1, h.2.1⟩)
    subst e0 e1 e2
    clear es HN HY hD
    go_enter Tryz.func89, Tryz.ntmps89
    go_wp2_with fail
    rw [HW.out]
    refine Calls.mono (HA.out _) ?_
    rintro e w2 ⟨rfl, k1⟩
    obtain ⟨⟨q0, q1⟩, ⟨q2, q3⟩, z0, z1, zf⟩ := HBX.out w2 k1
    have K2 : Hid (Kp W w2) := k1
    clear k1
    obtain ⟨y0, y1⟩ := set2 w2 (w.heap.size + 1 + 1) (.int .i64 0) (.int .i64 0) z0 z1
    go_wp2
    refine bodyPost_ret (v := .tuple #[.agg #[.int .i64 0, .int .i64 0], .bool false]) (by simp [results, Tryz.results89, go_sem, y0, y1]) rfl ⟨rfl, ?_⟩
    exact ((Kp.trans KW.out K2.out).setCell (by simp; omega) _).setCell (by simp; omega) _
end Go.Proofs.YtfdjjbgcaojcnaaGreat
