/-
  The statements of the reference's dashing that draw their order, whatever order comes up (end, add); each theorem names its conditions.
-/
import Derived.Test.YtfdjjbgcaojcnaaGreatJAG
import Derived.Test.YtfdjjbgcaojcnaaGreatJAI
import Derived.Test.YtfdjjbgcaojcnaaGreatJAP
import Derived.Test.YtfdjjbgcaojcnaaGreatJAZ
namespace Go.Proofs.YtfdjjbgcaojcnaaGreat
open Go.ChangeShapes Go.WideShapes Go.ChangeAt Go.RowKit
set_option linter.unusedVariables false

structure EWA where
  bx : Nat
  ua : Option Addr
  n : Nat
  uc : Nat
  mn : Int
  W : World
  a0 : Act
structure EWAOk (X : EWA) : Prop where
  c3 : X.W.cell? ⟨X.bx, 3, none⟩ = some (.slice X.ua X.n X.uc)
  h0 : decide ((1 : Int) < (X.n : Int)) = false
  e0 : X.a0.eval (.tmp 0) = .pointer (some ⟨X.bx, 0, none⟩)
  sz : X.a0.tmps.size = 56
def EWA.val0 (X : EWA) : Nat → Value
  | 2 => .pointer (some ⟨X.bx, 0, none⟩)
  | 3 => .pointer (some ⟨X.bx, 0, none⟩)
  | 4 => .pointer (some ⟨X.bx, 3, none⟩)
  | 5 => .slice X.ua X.n X.uc
  | 6 => .int .i64 (X.n : Int)
  | 7 => .bool false
  | 8 => .bool false
  | 9 => undef
  | 10 => undef
  | 11 => undef
  | 12 => undef
  | 13 => undef
  | 14 => undef
  | 15 => undef
  | 16 => undef
  | 17 => undef
  | 18 => undef
  | 19 => undef
  | 20 => .bool false
  | _ => undef
def EWA.av : Nat → Option Nat
  | _ => none
def EWA.acts : List Nat := []
/-- The world, by how many of the acting ones have come up. -/
def EWA.Wd (X : EWA) : Nat → (Nat → Value) → World → Prop
  | _, _, w => Kp X.W w
theorem EWA.kp {X : EWA} {n : Nat} {γ : Nat → Value} {w : World} (h : X.Wd n γ w) : Kp X.W w := h
theorem EWA.keep {X : EWA} {n : Nat} {γ : Nat → Value} {w w' : World} (h : X.Wd n γ w) (k : Kp w w') : X.Wd n γ w' := Kp.trans h k
theorem EWA.chain : chainG (opsOf 0 Tryz.f68) EWA.acts = true := by kernel_rfl
theorem EWA.nodup : EWA.acts.Nodup := by decide
theorem EWA.inj {listed : Array Bool} {i k : Nat} (h : (List.range (opsOf 0 Tryz.f68).size).all (fun j => decide (j = i) || !(match dstOf (opsOf 0 Tryz.f68) j with | some d => decide (EWA.av d = some k) | none => false)) = true) (hu : listed.getD i false = false) : ∀ d, got (opsOf 0 Tryz.f68) listed d → EWA.av d ≠ some k := by
  rintro d ⟨j, h1, h2⟩ h3
  have hlt : j < (opsOf 0 Tryz.f68).size := by
    rcases Nat.lt_or_ge j (opsOf 0 Tryz.f68).size with h4 | h4
    · exact h4
    · unfold dstOf at h2; rw [Array.getElem?_eq_none h4] at h2; cases h2
  have h5 := List.all_eq_true.1 h j (List.mem_range.2 hlt)
  rw [h2] at h5
  simp only [h3, decide_true, Bool.not_true, Bool.or_false, decide_eq_true_eq] at h5
  subst h5
  rw [hu] at h1
  cases h1
theorem EWA.s0 (X : EWA) (ok : EWAOk X) {Q : Exit → Act → World → Prop} : StepG (opsOf 0 Tryz.f68) EWA.acts EWA.av X.val0 X.Wd X.a0 Q 0 := by
  intro γ listed a w o hF hC hW h1 ho h2
  obtain ⟨hd, hop, hg⟩ := fields2 (x := some 2) (y := Op.move (.tmp 0)) (z := none) (by kernel_rfl) ho
  have e0 : a.eval (.tmp 0) = .pointer (some ⟨X.bx, 0, none⟩) := (hF.eval0 (by kernel_rfl)).trans ok.e0
  refine st_pureG hF hC hW ho h2 (by decide) hd hg rfl ?_
  show _ = Result.ok (Next.value (.pointer (some ⟨X.bx, 0, none⟩))) w
  generalize a.eval = ρ at e0 ⊢
  unfold execOp
  rw [hop]
  simp [e0, go_sem]
theorem EWA.s1 (X : EWA) (ok : EWAOk X) {Q : Exit → Act → World → Prop} : StepG (opsOf 0 Tryz.f68) EWA.acts EWA.av X.val0 X.Wd X.a0 Q 1 := by
  intro γ listed a w o hF hC hW h1 ho h2
  obtain ⟨hd, hop, hg⟩ := fields2 (x := some 3) (y := Op.nilCheck (.tmp 2)) (z := none) (by kernel_rfl) ho
  have e2 : a.eval (.tmp 2) = .pointer (some ⟨X.bx, 0, none⟩) := slotG hF ho h2 (j := 0) (d := 2) (by kernel_rfl) (by kernel_rfl) (by rw [ok.sz]; decide)
  refine st_pureG hF hC hW ho h2 (by decide) hd hg rfl ?_
  show _ = Result.ok (Next.value (.pointer (some ⟨X.bx, 0, none⟩))) w
  generalize a.eval = ρ at e2 ⊢
  unfold execOp
  rw [hop]
  simp [e2, go_sem]
theorem EWA.s2 (X : EWA) (ok : EWAOk X) {Q : Exit → Act → World → Prop} : StepG (opsOf 0 Tryz.f68) EWA.acts EWA.av X.val0 X.Wd X.a0 Q 2 := by
  intro γ listed a w o hF hC hW h1 ho h2
  obtain ⟨hd, hop, hg⟩ := fields2 (x := some 4) (y := Op.fieldAddr 100 (.tmp 3) 3) (z := none) (by kernel_rfl) ho
  have e3 : a.eval (.tmp 3) = .pointer (some ⟨X.bx, 0, none⟩) := slotG hF ho h2 (j := 1) (d := 3) (by kernel_rfl) (by kernel_rfl) (by rw [ok.sz]; decide)
  refine st_pureG hF hC hW ho h2 (by decide) hd hg rfl ?_
  show _ = Result.ok (Next.value (.pointer (some ⟨X.bx, 3, none⟩))) w
  generalize a.eval = ρ at e3 ⊢
  unfold execOp
  rw [hop]
  simp [e3, go_sem]
theorem EWA.s3 (X : EWA) (ok : EWAOk X) {Q : Exit → Act → World → Prop} : StepG (opsOf 0 Tryz.f68) EWA.acts EWA.av X.val0 X.Wd X.a0 Q 3 := by
  intro γ listed a w o hF hC hW h1 ho h2
  obtain ⟨hd, hop, hg⟩ := fields2 (x := some 5) (y := Op.load 23 (.tmp 4)) (z := none) (by kernel_rfl) ho
  have e4 : a.eval (.tmp 4) = .pointer (some ⟨X.bx, 3, none⟩) := slotG hF ho h2 (j := 2) (d := 4) (by kernel_rfl) (by kernel_rfl) (by rw [ok.sz]; decide)
  have hc0 := rq_at (EWA.kp hW) ok.c3
  refine st_pureG hF hC hW ho h2 (by decide) hd hg rfl ?_
  show _ = Result.ok (Next.value (.slice X.ua X.n X.uc)) w
  generalize a.eval = ρ at e4 ⊢
  unfold execOp
  rw [hop]
  simp [e4, hc0, go_sem]
theorem EWA.s4 (X : EWA) (ok : EWAOk X) {Q : Exit → Act → World → Prop} : StepG (opsOf 0 Tryz.f68) EWA.acts EWA.av X.val0 X.Wd X.a0 Q 4 := by
  intro γ listed a w o hF hC hW h1 ho h2
  obtain ⟨hd, hop, hg⟩ := fields2 (x := some 6) (y := Op.call { callee := .builtin .len, args := #[(.tmp 5)], argTypes := #[23] }) (z := none) (by kernel_rfl) ho
  have e5 : a.eval (.tmp 5) = .slice X.ua X.n X.uc := slotG hF ho h2 (j := 3) (d := 5) (by kernel_rfl) (by kernel_rfl) (by rw [ok.sz]; decide)
  refine st_pureG hF hC hW ho h2 (by decide) hd hg rfl ?_
  show _ = Result.ok (Next.value (.int .i64 (X.n : Int))) w
  generalize a.eval = ρ at e5 ⊢
  unfold execOp
  rw [hop]
  simp [e5, go_sem]
theorem EWA.s5 (X : EWA) (ok : EWAOk X) {Q : Exit → Act → World → Prop} : StepG (opsOf 0 Tryz.f68) EWA.acts EWA.av X.val0 X.Wd X.a0 Q 5 := by
  intro γ listed a w o hF hC hW h1 ho h2
  obtain ⟨hd, hop, hg⟩ := fields2 (x := some 7) (y := Op.binOp .gtr 3 (.tmp 6) (.const (.int .i64 1)) 3) (z := none) (by kernel_rfl) ho
  have e6 : a.eval (.tmp 6) = .int .i64 (X.n : Int) := slotG hF ho h2 (j := 4) (d := 6) (by kernel_rfl) (by kernel_rfl) (by rw [ok.sz]; decide)
  have ec1 : a.eval (.const (.int .i64 1)) = .int .i64 1 := rfl
  refine st_pureG hF hC hW ho h2 (by decide) hd hg rfl ?_
  show _ = Result.ok (Next.value (.bool false)) w
  generalize a.eval = ρ at e6 ec1 ⊢
  unfold execOp
  rw [hop]
  simp [e6, ec1, ok.h0, go_sem]
theorem EWA.s6 (X : EWA) (ok : EWAOk X) {Q : Exit → Act → World → Prop} : StepG (opsOf 0 Tryz.f68) EWA.acts EWA.av X.val0 X.Wd X.a0 Q 6 := by
  intro γ listed a w o hF hC hW h1 ho h2
  obtain ⟨hd, hop, hg⟩ := fields2 (x := some 8) (y := Op.move (.tmp 7)) (z := none) (by kernel_rfl) ho
  have e7 : a.eval (.tmp 7) = .bool false := slotG hF ho h2 (j := 5) (d := 7) (by kernel_rfl) (by kernel_rfl) (by rw [ok.sz]; decide)
  refine st_pureG hF hC hW ho h2 (by decide) hd hg rfl ?_
  show _ = Result.ok (Next.value (.bool false)) w
  generalize a.eval = ρ at e7 ⊢
  unfold execOp
  rw [hop]
  simp [e7, go_sem]
theorem EWA.s7 (X : EWA) (ok : EWAOk X) {Q : Exit → Act → World → Prop} : StepG (opsOf 0 Tryz.f68) EWA.acts EWA.av X.val0 X.Wd X.a0 Q 7 := by
  intro γ listed a w o hF hC hW h1 ho h2
  obtain ⟨hd, hop, hg⟩ := fields2 (x := some 9) (y := Op.move (.tmp 0)) (z := some (6, true)) (by kernel_rfl) ho
  have eg : a.eval (.tmp 8) = .bool false := slotG hF ho h2 (j := 6) (d := 8) (by kernel_rfl) (by kernel_rfl) (by rw [ok.sz]; decide)
  have hw := wanted_of (ops := (opsOf 0 Tryz.f68)) hg (yl_of (by kernel_rfl : dstOf (opsOf 0 Tryz.f68) 6 = some 8) (by rw [hF.tsize, ok.sz]; decide) eg)
  replace hw : Region.wanted o (yielded (opsOf 0 Tryz.f68) a.tmps) = false := hw
  exact st_skipW hF hC hW ho h2 (by decide) hd hw rfl rfl
theorem EWA.s8 (X : EWA) (ok : EWAOk X) {Q : Exit → Act → World → Prop} : StepG (opsOf 0 Tryz.f68) EWA.acts EWA.av X.val0 X.Wd X.a0 Q 8 := by
  intro γ listed a w o hF hC hW h1 ho h2
  obtain ⟨hd, hop, hg⟩ := fields2 (x := some 10) (y := Op.nilCheck (.tmp 9)) (z := some (6, true)) (by kernel_rfl) ho
  have eg : a.eval (.tmp 8) = .bool false := slotG hF ho h2 (j := 6) (d := 8) (by kernel_rfl) (by kernel_rfl) (by rw [ok.sz]; decide)
  have hw := wanted_of (ops := (opsOf 0 Tryz.f68)) hg (yl_of (by kernel_rfl : dstOf (opsOf 0 Tryz.f68) 6 = some 8) (by rw [hF.tsize, ok.sz]; decide) eg)
  replace hw : Region.wanted o (yielded (opsOf 0 Tryz.f68) a.tmps) = false := hw
  exact st_skipW hF hC hW ho h2 (by decide) hd hw rfl rfl
theorem EWA.s9 (X : EWA) (ok : EWAOk X) {Q : Exit → Act → World → Prop} : StepG (opsOf 0 Tryz.f68) EWA.acts EWA.av X.val0 X.Wd X.a0 Q 9 := by
  intro γ listed a w o hF hC hW h1 ho h2
  obtain ⟨hd, hop, hg⟩ := fields2 (x := some 11) (y := Op.fieldAddr 100 (.tmp 10) 5) (z := some (6, true)) (by kernel_rfl) ho
  have eg : a.eval (.tmp 8) = .bool false := slotG hF ho h2 (j := 6) (d := 8) (by kernel_rfl) (by kernel_rfl) (by rw [ok.sz]; decide)
  have hw := wanted_of (ops := (opsOf 0 Tryz.f68)) hg (yl_of (by kernel_rfl : dstOf (opsOf 0 Tryz.f68) 6 = some 8) (by rw [hF.tsize, ok.sz]; decide) eg)
  replace hw : Region.wanted o (yielded (opsOf 0 Tryz.f68) a.tmps) = false := hw
  exact st_skipW hF hC hW ho h2 (by decide) hd hw rfl rfl
theorem EWA.s10 (X : EWA) (ok : EWAOk X) {Q : Exit → Act → World → Prop} : StepG (opsOf 0 Tryz.f68) EWA.acts EWA.av X.val0 X.Wd X.a0 Q 10 := by
  intro γ listed a w o hF hC hW h1 ho h2
  obtain ⟨hd, hop, hg⟩ := fields2 (x := some 12) (y := Op.load 3 (.tmp 11)) (z := some (6, true)) (by kernel_rfl) ho
  have eg : a.eval (.tmp 8) = .bool false := slotG hF ho h2 (j := 6) (d := 8) (by kernel_rfl) (by kernel_rfl) (by rw [ok.sz]; decide)
  have hw := wanted_of (ops := (opsOf 0 Tryz.f68)) hg (yl_of (by kernel_rfl : dstOf (opsOf 0 Tryz.f68) 6 = some 8) (by rw [hF.tsize, ok.sz]; decide) eg)
  replace hw : Region.wanted o (yielded (opsOf 0 Tryz.f68) a.tmps) = false := hw
  exact st_skipW hF hC hW ho h2 (by decide) hd hw rfl rfl
theorem EWA.s11 (X : EWA) (ok : EWAOk X) {Q : Exit → Act → World → Prop} : StepG (opsOf 0 Tryz.f68) EWA.acts EWA.av X.val0 X.Wd X.a0 Q 11 := by
  intro γ listed a w o hF hC hW h1 ho h2
  obtain ⟨hd, hop, hg⟩ := fields2 (x := some 13) (y := Op.move (.tmp 0)) (z := some (6, true)) (by kernel_rfl) ho
  have eg : a.eval (.tmp 8) = .bool false := slotG hF ho h2 (j := 6) (d := 8) (by kernel_rfl) (by kernel_rfl) (by rw [ok.sz]; decide)
  have hw := wanted_of (ops := (opsOf 0 Tryz.f68)) hg (yl_of (by kernel_rfl : dstOf (opsOf 0 Tryz.f68) 6 = some 8) (by rw [hF.tsize, ok.sz]; decide) eg)
  replace hw : Region.wanted o (yielded (opsOf 0 Tryz.f68) a.tmps) = false := hw
  exact st_skipW hF hC hW ho h2 (by decide) hd hw rfl rfl
theorem EWA.s12 (X : EWA) (ok : EWAOk X) {Q : Exit → Act → World → Prop} : StepG (opsOf 0 Tryz.f68) EWA.acts EWA.av X.val0 X.Wd X.a0 Q 12 := by
  intro γ listed a w o hF hC hW h1 ho h2
  obtain ⟨hd, hop, hg⟩ := fields2 (x := some 14) (y := Op.nilCheck (.tmp 13)) (z := some (6, true)) (by kernel_rfl) ho
  have eg : a.eval (.tmp 8) = .bool false := slotG hF ho h2 (j := 6) (d := 8) (by kernel_rfl) (by kernel_rfl) (by rw [ok.sz]; decide)
  have hw := wanted_of (ops := (opsOf 0 Tryz.f68)) hg (yl_of (by kernel_rfl : dstOf (opsOf 0 Tryz.f68) 6 = some 8) (by rw [hF.tsize, ok.sz]; decide) eg)
  replace hw : Region.wanted o (yielded (opsOf 0 Tryz.f68) a.tmps) = false := hw
  exact st_skipW hF hC hW ho h2 (by decide) hd hw rfl rfl
theorem EWA.s13 (X : EWA) (ok : EWAOk X) {Q : Exit → Act → World → Prop} : StepG (opsOf 0 Tryz.f68) EWA.acts EWA.av X.val0 X.Wd X.a0 Q 13 := by
  intro γ listed a w o hF hC hW h1 ho h2
  obtain ⟨hd, hop, hg⟩ := fields2 (x := some 15) (y := Op.fieldAddr 100 (.tmp 14) 3) (z := some (6, true)) (by kernel_rfl) ho
  have eg : a.eval (.tmp 8) = .bool false := slotG hF ho h2 (j := 6) (d := 8) (by kernel_rfl) (by kernel_rfl) (by rw [ok.sz]; decide)
  have hw := wanted_of (ops := (opsOf 0 Tryz.f68)) hg (yl_of (by kernel_rfl : dstOf (opsOf 0 Tryz.f68) 6 = some 8) (by rw [hF.tsize, ok.sz]; decide) eg)
  replace hw : Region.wanted o (yielded (opsOf 0 Tryz.f68) a.tmps) = false := hw
  exact st_skipW hF hC hW ho h2 (by decide) hd hw rfl rfl
theorem EWA.s14 (X : EWA) (ok : EWAOk X) {Q : Exit → Act → World → Prop} : StepG (opsOf 0 Tryz.f68) EWA.acts EWA.av X.val0 X.Wd X.a0 Q 14 := by
  intro γ listed a w o hF hC hW h1 ho h2
  obtain ⟨hd, hop, hg⟩ := fields2 (x := some 16) (y := Op.load 23 (.tmp 15)) (z := some (6, true)) (by kernel_rfl) ho
  have eg : a.eval (.tmp 8) = .bool false := slotG hF ho h2 (j := 6) (d := 8) (by kernel_rfl) (by kernel_rfl) (by rw [ok.sz]; decide)
  have hw := wanted_of (ops := (opsOf 0 Tryz.f68)) hg (yl_of (by kernel_rfl : dstOf (opsOf 0 Tryz.f68) 6 = some 8) (by rw [hF.tsize, ok.sz]; decide) eg)
  replace hw : Region.wanted o (yielded (opsOf 0 Tryz.f68) a.tmps) = false := hw
  exact st_skipW hF hC hW ho h2 (by decide) hd hw rfl rfl
theorem EWA.s15 (X : EWA) (ok : EWAOk X) {Q : Exit → Act → World → Prop} : StepG (opsOf 0 Tryz.f68) EWA.acts EWA.av X.val0 X.Wd X.a0 Q 15 := by
  intro γ listed a w o hF hC hW h1 ho h2
  obtain ⟨hd, hop, hg⟩ := fields2 (x := some 17) (y := Op.call { callee := .builtin .len, args := #[(.tmp 16)], argTypes := #[23] }) (z := some (6, true)) (by kernel_rfl) ho
  have eg : a.eval (.tmp 8) = .bool false := slotG hF ho h2 (j := 6) (d := 8) (by kernel_rfl) (by kernel_rfl) (by rw [ok.sz]; decide)
  have hw := wanted_of (ops := (opsOf 0 Tryz.f68)) hg (yl_of (by kernel_rfl : dstOf (opsOf 0 Tryz.f68) 6 = some 8) (by rw [hF.tsize, ok.sz]; decide) eg)
  replace hw : Region.wanted o (yielded (opsOf 0 Tryz.f68) a.tmps) = false := hw
  exact st_skipW hF hC hW ho h2 (by decide) hd hw rfl rfl
theorem EWA.s16 (X : EWA) (ok : EWAOk X) {Q : Exit → Act → World → Prop} : StepG (opsOf 0 Tryz.f68) EWA.acts EWA.av X.val0 X.Wd X.a0 Q 16 := by
  intro γ listed a w o hF hC hW h1 ho h2
  obtain ⟨hd, hop, hg⟩ := fields2 (x := some 18) (y := Op.binOp .add 3 (.tmp 12) (.tmp 17) 3) (z := some (6, true)) (by kernel_rfl) ho
  have eg : a.eval (.tmp 8) = .bool false := slotG hF ho h2 (j := 6) (d := 8) (by kernel_rfl) (by kernel_rfl) (by rw [ok.sz]; decide)
  have hw := wanted_of (ops := (opsOf 0 Tryz.f68)) hg (yl_of (by kernel_rfl : dstOf (opsOf 0 Tryz.f68) 6 = some 8) (by rw [hF.tsize, ok.sz]; decide) eg)
  replace hw : Region.wanted o (yielded (opsOf 0 Tryz.f68) a.tmps) = false := hw
  exact st_skipW hF hC hW ho h2 (by decide) hd hw rfl rfl
theorem EWA.s17 (X : EWA) (ok : EWAOk X) {Q : Exit → Act → World → Prop} : StepG (opsOf 0 Tryz.f68) EWA.acts EWA.av X.val0 X.Wd X.a0 Q 17 := by
  intro γ listed a w o hF hC hW h1 ho h2
  obtain ⟨hd, hop, hg⟩ := fields2 (x := some 19) (y := Op.binOp .leq 3 (.tmp 18) (.const (.int .i64 600)) 3) (z := some (6, true)) (by kernel_rfl) ho
  have eg : a.eval (.tmp 8) = .bool false := slotG hF ho h2 (j := 6) (d := 8) (by kernel_rfl) (by kernel_rfl) (by rw [ok.sz]; decide)
  have hw := wanted_of (ops := (opsOf 0 Tryz.f68)) hg (yl_of (by kernel_rfl : dstOf (opsOf 0 Tryz.f68) 6 = some 8) (by rw [hF.tsize, ok.sz]; decide) eg)
  replace hw : Region.wanted o (yielded (opsOf 0 Tryz.f68) a.tmps) = false := hw
  exact st_skipW hF hC hW ho h2 (by decide) hd hw rfl rfl
theorem EWA.s18 (X : EWA) (ok : EWAOk X) {Q : Exit → Act → World → Prop} : StepG (opsOf 0 Tryz.f68) EWA.acts EWA.av X.val0 X.Wd X.a0 Q 18 := by
  intro γ listed a w o hF hC hW h1 ho h2
  obtain ⟨hd, hop, hg⟩ := fields2 (x := some 20) (y := Op.pick (.tmp 8) (.tmp 19) (.const (.bool false))) (z := none) (by kernel_rfl) ho
  have e8 : a.eval (.tmp 8) = .bool false := slotG hF ho h2 (j := 6) (d := 8) (by kernel_rfl) (by kernel_rfl) (by rw [ok.sz]; decide)
  have e19 : a.eval (.tmp 19) = undef := slotG hF ho h2 (j := 17) (d := 19) (by kernel_rfl) (by kernel_rfl) (by rw [ok.sz]; decide)
  have ec2 : a.eval (.const (.bool false)) = .bool false := rfl
  refine st_pureG hF hC hW ho h2 (by decide) hd hg rfl ?_
  show _ = Result.ok (Next.value (.bool false)) w
  generalize a.eval = ρ at e8 e19 ec2 ⊢
  unfold execOp
  rw [hop]
  simp [e8, e19, ec2, go_sem]
theorem EWA.size : (opsOf 0 Tryz.f68).size = 19 := by kernel_rfl
theorem EWA.steps (X : EWA) (ok : EWAOk X) {Q : Exit → Act → World → Prop} (i : Nat) (hi : i < (opsOf 0 Tryz.f68).size) : StepG (opsOf 0 Tryz.f68) EWA.acts EWA.av X.val0 X.Wd X.a0 Q i := by
  rw [EWA.size] at hi
  have hc : i = 0 ∨ i = 1 ∨ i = 2 ∨ i = 3 ∨ i = 4 ∨ i = 5 ∨ i = 6 ∨ i = 7 ∨ i = 8 ∨ i = 9 ∨ i = 10 ∨ i = 11 ∨ i = 12 ∨ i = 13 ∨ i = 14 ∨ i = 15 ∨ i = 16 ∨ i = 17 ∨ i = 18 := by omega
  rcases hc with rfl | rfl | rfl | rfl | rfl | rfl | rfl | rfl | rfl | rfl | rfl | rfl | rfl | rfl | rfl | rfl | rfl | rfl | rfl
  · exact EWA.s0 X ok
  · exact EWA.s1 X ok
  · exact EWA.s2 X ok
  · exact EWA.s3 X ok
  · exact EWA.s4 X ok
  · exact EWA.s5 X ok
  · exact EWA.s6 X ok
  · exact EWA.s7 X ok
  · exact EWA.s8 X ok
  · exact EWA.s9 X ok
  · exact EWA.s10 X ok
  · exact EWA.s11 X ok
  · exact EWA.s12 X ok
  · exact EWA.s13 X ok
  · exact EWA.s14 X ok
  · exact EWA.s15 X ok
  · exact EWA.s16 X ok
  · exact EWA.s17 X ok
  · exact EWA.s18 X ok
theorem EWA.puts (X : EWA) (γ : Nat → Value) (a0 : Act) : putsL (valG EWA.av X.val0 γ) (opsOf 0 Tryz.f68).toList a0 = (((((((((((((((((((a0.put (some 2) (.pointer (some ⟨X.bx, 0, none⟩))).put (some 3) (.pointer (some ⟨X.bx, 0, none⟩))).put (some 4) (.pointer (some ⟨X.bx, 3, none⟩))).put (some 5) (.slice X.ua X.n X.uc)).put (some 6) (.int .i64 (X.n : Int))).put (some 7) (.bool false)).put (some 8) (.bool false)).put (some 9) (undef)).put (some 10) (undef)).put (some 11) (undef)).put (some 12) (undef)).put (some 13) (undef)).put (some 14) (undef)).put (some 15) (undef)).put (some 16) (undef)).put (some 17) (undef)).put (some 18) (undef)).put (some 19) (undef)).put (some 20) (.bool false)) := by kernel_rfl
/-- The region, whatever order comes up. -/
theorem EWA.run (X : EWA) (ok : EWAOk X) {Q : Exit → Act → World → Prop} (w : World) (h0 : X.Wd 0 (fun _ => undef) w.drew) (hend : ∀ (γ : Nat → Value) w', X.Wd 0 γ w' → Q .normal (((((((((((((((((((X.a0.put (some 2) (.pointer (some ⟨X.bx, 0, none⟩))).put (some 3) (.pointer (some ⟨X.bx, 0, none⟩))).put (some 4) (.pointer (some ⟨X.bx, 3, none⟩))).put (some 5) (.slice X.ua X.n X.uc)).put (some 6) (.int .i64 (X.n : Int))).put (some 7) (.bool false)).put (some 8) (.bool false)).put (some 9) (undef)).put (some 10) (undef)).put (some 11) (undef)).put (some 12) (undef)).put (some 13) (undef)).put (some 14) (undef)).put (some 15) (undef)).put (some 16) (undef)).put (some 17) (undef)).put (some 18) (undef)).put (some 19) (undef)).put (some 20) (.bool false)) w') : (Code.region 0 (opsOf 0 Tryz.f68) true).wp Tryz.prog Q X.a0 w := by
  refine reg_act (acts := EWA.acts) (av := EWA.av) (val0 := X.val0) (Wd := X.Wd) (by kernel_rfl) (by kernel_rfl) (by rw [EWA.size]; decide) (fun i hi => EWA.steps X ok i hi) _ h0 ?_
  intro γ w' h
  rw [EWA.puts]
  exact hend γ w' h
structure EWB where
  bx : Nat
  ua : Option Addr
  n : Nat
  uc : Nat
  mn : Int
  v : Bool
  W : World
  a0 : Act
structure EWBOk (X : EWB) : Prop where
  c3 : X.W.cell? ⟨X.bx, 3, none⟩ = some (.slice X.ua X.n X.uc)
  c5 : X.W.cell? ⟨X.bx, 5, none⟩ = some (.int .i64 X.mn)
  h0 : decide ((1 : Int) < (X.n : Int)) = true
  w1 : IntKind.i64.wrap (X.mn + (X.n : Int)) = X.mn + (X.n : Int)
  hv : decide (X.mn + (X.n : Int) ≤ 600) = X.v
  e0 : X.a0.eval (.tmp 0) = .pointer (some ⟨X.bx, 0, none⟩)
  sz : X.a0.tmps.size = 56
def EWB.val0 (X : EWB) : Nat → Value
  | 2 => .pointer (some ⟨X.bx, 0, none⟩)
  | 3 => .pointer (some ⟨X.bx, 0, none⟩)
  | 4 => .pointer (some ⟨X.bx, 3, none⟩)
  | 5 => .slice X.ua X.n X.uc
  | 6 => .int .i64 (X.n : Int)
  | 7 => .bool true
  | 8 => .bool true
  | 9 => .pointer (some ⟨X.bx, 0, none⟩)
  | 10 => .pointer (some ⟨X.bx, 0, none⟩)
  | 11 => .pointer (some ⟨X.bx, 5, none⟩)
  | 12 => .int .i64 X.mn
  | 13 => .pointer (some ⟨X.bx, 0, none⟩)
  | 14 => .pointer (some ⟨X.bx, 0, none⟩)
  | 15 => .pointer (some ⟨X.bx, 3, none⟩)
  | 16 => .slice X.ua X.n X.uc
  | 17 => .int .i64 (X.n : Int)
  | 18 => .int .i64 (X.mn + (X.n : Int))
  | 19 => .bool X.v
  | 20 => .bool X.v
  | _ => undef
def EWB.av : Nat → Option Nat
  | _ => none
def EWB.acts : List Nat := []
/-- The world, by how many of the acting ones have come up. -/
def EWB.Wd (X : EWB) : Nat → (Nat → Value) → World → Prop
  | _, _, w => Kp X.W w
theorem EWB.kp {X : EWB} {n : Nat} {γ : Nat → Value} {w : World} (h : X.Wd n γ w) : Kp X.W w := h
theorem EWB.keep {X : EWB} {n : Nat} {γ : Nat → Value} {w w' : World} (h : X.Wd n γ w) (k : Kp w w') : X.Wd n γ w' := Kp.trans h k
theorem EWB.chain : chainG (opsOf 0 Tryz.f68) EWB.acts = true := by kernel_rfl
theorem EWB.nodup : EWB.acts.Nodup := by decide
theorem EWB.inj {listed : Array Bool} {i k : Nat} (h : (List.range (opsOf 0 Tryz.f68).size).all (fun j => decide (j = i) || !(match dstOf (opsOf 0 Tryz.f68) j with | some d => decide (EWB.av d = some k) | none => false)) = true) (hu : listed.getD i false = false) : ∀ d, got (opsOf 0 Tryz.f68) listed d → EWB.av d ≠ some k := by
  rintro d ⟨j, h1, h2⟩ h3
  have hlt : j < (opsOf 0 Tryz.f68).size := by
    rcases Nat.lt_or_ge j (opsOf 0 Tryz.f68).size with h4 | h4
    · exact h4
    · unfold dstOf at h2; rw [Array.getElem?_eq_none h4] at h2; cases h2
  have h5 := List.all_eq_true.1 h j (List.mem_range.2 hlt)
  rw [h2] at h5
  simp only [h3, decide_true, Bool.not_true, Bool.or_false, decide_eq_true_eq] at h5
  subst h5
  rw [hu] at h1
  cases h1
theorem EWB.s0 (X : EWB) (ok : EWBOk X) {Q : Exit → Act → World → Prop} : StepG (opsOf 0 Tryz.f68) EWB.acts EWB.av X.val0 X.Wd X.a0 Q 0 := by
  intro γ listed a w o hF hC hW h1 ho h2
  obtain ⟨hd, hop, hg⟩ := fields2 (x := some 2) (y := Op.move (.tmp 0)) (z := none) (by kernel_rfl) ho
  have e0 : a.eval (.tmp 0) = .pointer (some ⟨X.bx, 0, none⟩) := (hF.eval0 (by kernel_rfl)).trans ok.e0
  refine st_pureG hF hC hW ho h2 (by decide) hd hg rfl ?_
  show _ = Result.ok (Next.value (.pointer (some ⟨X.bx, 0, none⟩))) w
  generalize a.eval = ρ at e0 ⊢
  unfold execOp
  rw [hop]
  simp [e0, go_sem]
theorem EWB.s1 (X : EWB) (ok : EWBOk X) {Q : Exit → Act → World → Prop} : StepG (opsOf 0 Tryz.f68) EWB.acts EWB.av X.val0 X.Wd X.a0 Q 1 := by
  intro γ listed a w o hF hC hW h1 ho h2
  obtain ⟨hd, hop, hg⟩ := fields2 (x := some 3) (y := Op.nilCheck (.tmp 2)) (z := none) (by kernel_rfl) ho
  have e2 : a.eval (.tmp 2) = .pointer (some ⟨X.bx, 0, none⟩) := slotG hF ho h2 (j := 0) (d := 2) (by kernel_rfl) (by kernel_rfl) (by rw [ok.sz]; decide)
  refine st_pureG hF hC hW ho h2 (by decide) hd hg rfl ?_
  show _ = Result.ok (Next.value (.pointer (some ⟨X.bx, 0, none⟩))) w
  generalize a.eval = ρ at e2 ⊢
  unfold execOp
  rw [hop]
  simp [e2, go_sem]
theorem EWB.s2 (X : EWB) (ok : EWBOk X) {Q : Exit → Act → World → Prop} : StepG (opsOf 0 Tryz.f68) EWB.acts EWB.av X.val0 X.Wd X.a0 Q 2 := by
  intro γ listed a w o hF hC hW h1 ho h2
  obtain ⟨hd, hop, hg⟩ := fields2 (x := some 4) (y := Op.fieldAddr 100 (.tmp 3) 3) (z := none) (by kernel_rfl) ho
  have e3 : a.eval (.tmp 3) = .pointer (some ⟨X.bx, 0, none⟩) := slotG hF ho h2 (j := 1) (d := 3) (by kernel_rfl) (by kernel_rfl) (by rw [ok.sz]; decide)
  refine st_pureG hF hC hW ho h2 (by decide) hd hg rfl ?_
  show _ = Result.ok (Next.value (.pointer (some ⟨X.bx, 3, none⟩))) w
  generalize a.eval = ρ at e3 ⊢
  unfold execOp
  rw [hop]
  simp [e3, go_sem]
theorem EWB.s3 (X : EWB) (ok : EWBOk X) {Q : Exit → Act → World → Prop} : StepG (opsOf 0 Tryz.f68) EWB.acts EWB.av X.val0 X.Wd X.a0 Q 3 := by
  intro γ listed a w o hF hC hW h1 ho h2
  obtain ⟨hd, hop, hg⟩ := fields2 (x := some 5) (y := Op.load 23 (.tmp 4)) (z := none) (by kernel_rfl) ho
  have e4 : a.eval (.tmp 4) = .pointer (some ⟨X.bx, 3, none⟩) := slotG hF ho h2 (j := 2) (d := 4) (by kernel_rfl) (by kernel_rfl) (by rw [ok.sz]; decide)
  have hc0 := rq_at (EWB.kp hW) ok.c3
  refine st_pureG hF hC hW ho h2 (by decide) hd hg rfl ?_
  show _ = Result.ok (Next.value (.slice X.ua X.n X.uc)) w
  generalize a.eval = ρ at e4 ⊢
  unfold execOp
  rw [hop]
  simp [e4, hc0, go_sem]
theorem EWB.s4 (X : EWB) (ok : EWBOk X) {Q : Exit → Act → World → Prop} : StepG (opsOf 0 Tryz.f68) EWB.acts EWB.av X.val0 X.Wd X.a0 Q 4 := by
  intro γ listed a w o hF hC hW h1 ho h2
  obtain ⟨hd, hop, hg⟩ := fields2 (x := some 6) (y := Op.call { callee := .builtin .len, args := #[(.tmp 5)], argTypes := #[23] }) (z := none) (by kernel_rfl) ho
  have e5 : a.eval (.tmp 5) = .slice X.ua X.n X.uc := slotG hF ho h2 (j := 3) (d := 5) (by kernel_rfl) (by kernel_rfl) (by rw [ok.sz]; decide)
  refine st_pureG hF hC hW ho h2 (by decide) hd hg rfl ?_
  show _ = Result.ok (Next.value (.int .i64 (X.n : Int))) w
  generalize a.eval = ρ at e5 ⊢
  unfold execOp
  rw [hop]
  simp [e5, go_sem]
theorem EWB.s5 (X : EWB) (ok : EWBOk X) {Q : Exit → Act → World → Prop} : StepG (opsOf 0 Tryz.f68) EWB.acts EWB.av X.val0 X.Wd X.a0 Q 5 := by
  intro γ listed a w o hF hC hW h1 ho h2
  obtain ⟨hd, hop, hg⟩ := fields2 (x := some 7) (y := Op.binOp .gtr 3 (.tmp 6) (.const (.int .i64 1)) 3) (z := none) (by kernel_rfl) ho
  have e6 : a.eval (.tmp 6) = .int .i64 (X.n : Int) := slotG hF ho h2 (j := 4) (d := 6) (by kernel_rfl) (by kernel_rfl) (by rw [ok.sz]; decide)
  have ec1 : a.eval (.const (.int .i64 1)) = .int .i64 1 := rfl
  refine st_pureG hF hC hW ho h2 (by decide) hd hg rfl ?_
  show _ = Result.ok (Next.value (.bool true)) w
  generalize a.eval = ρ at e6 ec1 ⊢
  unfold execOp
  rw [hop]
  simp [e6, ec1, ok.h0, go_sem]
theorem EWB.s6 (X : EWB) (ok : EWBOk X) {Q : Exit → Act → World → Prop} : StepG (opsOf 0 Tryz.f68) EWB.acts EWB.av X.val0 X.Wd X.a0 Q 6 := by
  intro γ listed a w o hF hC hW h1 ho h2
  obtain ⟨hd, hop, hg⟩ := fields2 (x := some 8) (y := Op.move (.tmp 7)) (z := none) (by kernel_rfl) ho
  have e7 : a.eval (.tmp 7) = .bool true := slotG hF ho h2 (j := 5) (d := 7) (by kernel_rfl) (by kernel_rfl) (by rw [ok.sz]; decide)
  refine st_pureG hF hC hW ho h2 (by decide) hd hg rfl ?_
  show _ = Result.ok (Next.value (.bool true)) w
  generalize a.eval = ρ at e7 ⊢
  unfold execOp
  rw [hop]
  simp [e7, go_sem]
theorem EWB.s7 (X : EWB) (ok : EWBOk X) {Q : Exit → Act → World → Prop} : StepG (opsOf 0 Tryz.f68) EWB.acts EWB.av X.val0 X.Wd X.a0 Q 7 := by
  intro γ listed a w o hF hC hW h1 ho h2
  obtain ⟨hd, hop, hg⟩ := fields2 (x := some 9) (y := Op.move (.tmp 0)) (z := some (6, true)) (by kernel_rfl) ho
  have eg : a.eval (.tmp 8) = .bool true := slotG hF ho h2 (j := 6) (d := 8) (by kernel_rfl) (by kernel_rfl) (by rw [ok.sz]; decide)
  have hw := wanted_of (ops := (opsOf 0 Tryz.f68)) hg (yl_of (by kernel_rfl : dstOf (opsOf 0 Tryz.f68) 6 = some 8) (by rw [hF.tsize, ok.sz]; decide) eg)
  replace hw : Region.wanted o (yielded (opsOf 0 Tryz.f68) a.tmps) = true := hw
  have e0 : a.eval (.tmp 0) = .pointer (some ⟨X.bx, 0, none⟩) := (hF.eval0 (by kernel_rfl)).trans ok.e0
  refine st_pureW hF hC hW ho h2 (by decide) hd hw rfl ?_
  show _ = Result.ok (Next.value (.pointer (some ⟨X.bx, 0, none⟩))) w
  generalize a.eval = ρ at e0 ⊢
  unfold execOp
  rw [hop]
  simp [e0, go_sem]
theorem EWB.s8 (X : EWB) (ok : EWBOk X) {Q : Exit → Act → World → Prop} : StepG (opsOf 0 Tryz.f68) EWB.acts EWB.av X.val0 X.Wd X.a0 Q 8 := by
  intro γ listed a w o hF hC hW h1 ho h2
  obtain ⟨hd, hop, hg⟩ := fields2 (x := some 10) (y := Op.nilCheck (.tmp 9)) (z := some (6, true)) (by kernel_rfl) ho
  have eg : a.eval (.tmp 8) = .bool true := slotG hF ho h2 (j := 6) (d := 8) (by kernel_rfl) (by kernel_rfl) (by rw [ok.sz]; decide)
  have hw := wanted_of (ops := (opsOf 0 Tryz.f68)) hg (yl_of (by kernel_rfl : dstOf (opsOf 0 Tryz.f68) 6 = some 8) (by rw [hF.tsize, ok.sz]; decide) eg)
  replace hw : Region.wanted o (yielded (opsOf 0 Tryz.f68) a.tmps) = true := hw
  have e9 : a.eval (.tmp 9) = .pointer (some ⟨X.bx, 0, none⟩) := slotG hF ho h2 (j := 7) (d := 9) (by kernel_rfl) (by kernel_rfl) (by rw [ok.sz]; decide)
  refine st_pureW hF hC hW ho h2 (by decide) hd hw rfl ?_
  show _ = Result.ok (Next.value (.pointer (some ⟨X.bx, 0, none⟩))) w
  generalize a.eval = ρ at e9 ⊢
  unfold execOp
  rw [hop]
  simp [e9, go_sem]
theorem EWB.s9 (X : EWB) (ok : EWBOk X) {Q : Exit → Act → World → Prop} : StepG (opsOf 0 Tryz.f68) EWB.acts EWB.av X.val0 X.Wd X.a0 Q 9 := by
  intro γ listed a w o hF hC hW h1 ho h2
  obtain ⟨hd, hop, hg⟩ := fields2 (x := some 11) (y := Op.fieldAddr 100 (.tmp 10) 5) (z := some (6, true)) (by kernel_rfl) ho
  have eg : a.eval (.tmp 8) = .bool true := slotG hF ho h2 (j := 6) (d := 8) (by kernel_rfl) (by kernel_rfl) (by rw [ok.sz]; decide)
  have hw := wanted_of (ops := (opsOf 0 Tryz.f68)) hg (yl_of (by kernel_rfl : dstOf (opsOf 0 Tryz.f68) 6 = some 8) (by rw [hF.tsize, ok.sz]; decide) eg)
  replace hw : Region.wanted o (yielded (opsOf 0 Tryz.f68) a.tmps) = true := hw
  have e10 : a.eval (.tmp 10) = .pointer (some ⟨X.bx, 0, none⟩) := slotG hF ho h2 (j := 8) (d := 10) (by kernel_rfl) (by kernel_rfl) (by rw [ok.sz]; decide)
  refine st_pureW hF hC hW ho h2 (by decide) hd hw rfl ?_
  show _ = Result.ok (Next.value (.pointer (some ⟨X.bx, 5, none⟩))) w
  generalize a.eval = ρ at e10 ⊢
  unfold execOp
  rw [hop]
  simp [e10, go_sem]
theorem EWB.s10 (X : EWB) (ok : EWBOk X) {Q : Exit → Act → World → Prop} : StepG (opsOf 0 Tryz.f68) EWB.acts EWB.av X.val0 X.Wd X.a0 Q 10 := by
  intro γ listed a w o hF hC hW h1 ho h2
  obtain ⟨hd, hop, hg⟩ := fields2 (x := some 12) (y := Op.load 3 (.tmp 11)) (z := some (6, true)) (by kernel_rfl) ho
  have eg : a.eval (.tmp 8) = .bool true := slotG hF ho h2 (j := 6) (d := 8) (by kernel_rfl) (by kernel_rfl) (by rw [ok.sz]; decide)
  have hw := wanted_of (ops := (opsOf 0 Tryz.f68)) hg (yl_of (by kernel_rfl : dstOf (opsOf 0 Tryz.f68) 6 = some 8) (by rw [hF.tsize, ok.sz]; decide) eg)
  replace hw : Region.wanted o (yielded (opsOf 0 Tryz.f68) a.tmps) = true := hw
  have e11 : a.eval (.tmp 11) = .pointer (some ⟨X.bx, 5, none⟩) := slotG hF ho h2 (j := 9) (d := 11) (by kernel_rfl) (by kernel_rfl) (by rw [ok.sz]; decide)
  have hc0 := rq_at (EWB.kp hW) ok.c5
  refine st_pureW hF hC hW ho h2 (by decide) hd hw rfl ?_
  show _ = Result.ok (Next.value (.int .i64 X.mn)) w
  generalize a.eval = ρ at e11 ⊢
  unfold execOp
  rw [hop]
  simp [e11, hc0, go_sem]
theorem EWB.s11 (X : EWB) (ok : EWBOk X) {Q : Exit → Act → World → Prop} : StepG (opsOf 0 Tryz.f68) EWB.acts EWB.av X.val0 X.Wd X.a0 Q 11 := by
  intro γ listed a w o hF hC hW h1 ho h2
  obtain ⟨hd, hop, hg⟩ := fields2 (x := some 13) (y := Op.move (.tmp 0)) (z := some (6, true)) (by kernel_rfl) ho
  have eg : a.eval (.tmp 8) = .bool true := slotG hF ho h2 (j := 6) (d := 8) (by kernel_rfl) (by kernel_rfl) (by rw [ok.sz]; decide)
  have hw := wanted_of (ops := (opsOf 0 Tryz.f68)) hg (yl_of (by kernel_rfl : dstOf (opsOf 0 Tryz.f68) 6 = some 8) (by rw [hF.tsize, ok.sz]; decide) eg)
  replace hw : Region.wanted o (yielded (opsOf 0 Tryz.f68) a.tmps) = true := hw
  have e0 : a.eval (.tmp 0) = .pointer (some ⟨X.bx, 0, none⟩) := (hF.eval0 (by kernel_rfl)).trans ok.e0
  refine st_pureW hF hC hW ho h2 (by decide) hd hw rfl ?_
  show _ = Result.ok (Next.value (.pointer (some ⟨X.bx, 0, none⟩))) w
  generalize a.eval = ρ at e0 ⊢
  unfold execOp
  rw [hop]
  simp [e0, go_sem]
theorem EWB.s12 (X : EWB) (ok : EWBOk X) {Q : Exit → Act → World → Prop} : StepG (opsOf 0 Tryz.f68) EWB.acts EWB.av X.val0 X.Wd X.a0 Q 12 := by
  intro γ listed a w o hF hC hW h1 ho h2
  obtain ⟨hd, hop, hg⟩ := fields2 (x := some 14) (y := Op.nilCheck (.tmp 13)) (z := some (6, true)) (by kernel_rfl) ho
  have eg : a.eval (.tmp 8) = .bool true := slotG hF ho h2 (j := 6) (d := 8) (by kernel_rfl) (by kernel_rfl) (by rw [ok.sz]; decide)
  have hw := wanted_of (ops := (opsOf 0 Tryz.f68)) hg (yl_of (by kernel_rfl : dstOf (opsOf 0 Tryz.f68) 6 = some 8) (by rw [hF.tsize, ok.sz]; decide) eg)
  replace hw : Region.wanted o (yielded (opsOf 0 Tryz.f68) a.tmps) = true := hw
  have e13 : a.eval (.tmp 13) = .pointer (some ⟨X.bx, 0, none⟩) := slotG hF ho h2 (j := 11) (d := 13) (by kernel_rfl) (by kernel_rfl) (by rw [ok.sz]; decide)
  refine st_pureW hF hC hW ho h2 (by decide) hd hw rfl ?_
  show _ = Result.ok (Next.value (.pointer (some ⟨X.bx, 0, none⟩))) w
  generalize a.eval = ρ at e13 ⊢
  unfold execOp
  rw [hop]
  simp [e13, go_sem]
theorem EWB.s13 (X : EWB) (ok : EWBOk X) {Q : Exit → Act → World → Prop} : StepG (opsOf 0 Tryz.f68) EWB.acts EWB.av X.val0 X.Wd X.a0 Q 13 := by
  intro γ listed a w o hF hC hW h1 ho h2
  obtain ⟨hd, hop, hg⟩ := fields2 (x := some 15) (y := Op.fieldAddr 100 (.tmp 14) 3) (z := some (6, true)) (by kernel_rfl) ho
  have eg : a.eval (.tmp 8) = .bool true := slotG hF ho h2 (j := 6) (d := 8) (by kernel_rfl) (by kernel_rfl) (by rw [ok.sz]; decide)
  have hw := wanted_of (ops := (opsOf 0 Tryz.f68)) hg (yl_of (by kernel_rfl : dstOf (opsOf 0 Tryz.f68) 6 = some 8) (by rw [hF.tsize, ok.sz]; decide) eg)
  replace hw : Region.wanted o (yielded (opsOf 0 Tryz.f68) a.tmps) = true := hw
  have e14 : a.eval (.tmp 14) = .pointer (some ⟨X.bx, 0, none⟩) := slotG hF ho h2 (j := 12) (d := 14) (by kernel_rfl) (by kernel_rfl) (by rw [ok.sz]; decide)
  refine st_pureW hF hC hW ho h2 (by decide) hd hw rfl ?_
  show _ = Result.ok (Next.value (.pointer (some ⟨X.bx, 3, none⟩))) w
  generalize a.eval = ρ at e14 ⊢
  unfold execOp
  rw [hop]
  simp [e14, go_sem]
theorem EWB.s14 (X : EWB) (ok : EWBOk X) {Q : Exit → Act → World → Prop} : StepG (opsOf 0 Tryz.f68) EWB.acts EWB.av X.val0 X.Wd X.a0 Q 14 := by
  intro γ listed a w o hF hC hW h1 ho h2
  obtain ⟨hd, hop, hg⟩ := fields2 (x := some 16) (y := Op.load 23 (.tmp 15)) (z := some (6, true)) (by kernel_rfl) ho
  have eg : a.eval (.tmp 8) = .bool true := slotG hF ho h2 (j := 6) (d := 8) (by kernel_rfl) (by kernel_rfl) (by rw [ok.sz]; decide)
  have hw := wanted_of (ops := (opsOf 0 Tryz.f68)) hg (yl_of (by kernel_rfl : dstOf (opsOf 0 Tryz.f68) 6 = some 8) (by rw [hF.tsize, ok.sz]; decide) eg)
  replace hw : Region.wanted o (yielded (opsOf 0 Tryz.f68) a.tmps) = true := hw
  have e15 : a.eval (.tmp 15) = .pointer (some ⟨X.bx, 3, none⟩) := slotG hF ho h2 (j := 13) (d := 15) (by kernel_rfl) (by kernel_rfl) (by rw [ok.sz]; decide)
  have hc0 := rq_at (EWB.kp hW) ok.c3
  refine st_pureW hF hC hW ho h2 (by decide) hd hw rfl ?_
  show _ = Result.ok (Next.value (.slice X.ua X.n X.uc)) w
  generalize a.eval = ρ at e15 ⊢
  unfold execOp
  rw [hop]
  simp [e15, hc0, go_sem]
theorem EWB.s15 (X : EWB) (ok : EWBOk X) {Q : Exit → Act → World → Prop} : StepG (opsOf 0 Tryz.f68) EWB.acts EWB.av X.val0 X.Wd X.a0 Q 15 := by
  intro γ listed a w o hF hC hW h1 ho h2
  obtain ⟨hd, hop, hg⟩ := fields2 (x := some 17) (y := Op.call { callee := .builtin .len, args := #[(.tmp 16)], argTypes := #[23] }) (z := some (6, true)) (by kernel_rfl) ho
  have eg : a.eval (.tmp 8) = .bool true := slotG hF ho h2 (j := 6) (d := 8) (by kernel_rfl) (by kernel_rfl) (by rw [ok.sz]; decide)
  have hw := wanted_of (ops := (opsOf 0 Tryz.f68)) hg (yl_of (by kernel_rfl : dstOf (opsOf 0 Tryz.f68) 6 = some 8) (by rw [hF.tsize, ok.sz]; decide) eg)
  replace hw : Region.wanted o (yielded (opsOf 0 Tryz.f68) a.tmps) = true := hw
  have e16 : a.eval (.tmp 16) = .slice X.ua X.n X.uc := slotG hF ho h2 (j := 14) (d := 16) (by kernel_rfl) (by kernel_rfl) (by rw [ok.sz]; decide)
  refine st_pureW hF hC hW ho h2 (by decide) hd hw rfl ?_
  show _ = Result.ok (Next.value (.int .i64 (X.n : Int))) w
  generalize a.eval = ρ at e16 ⊢
  unfold execOp
  rw [hop]
  simp [e16, go_sem]
theorem EWB.s16 (X : EWB) (ok : EWBOk X) {Q : Exit → Act → World → Prop} : StepG (opsOf 0 Tryz.f68) EWB.acts EWB.av X.val0 X.Wd X.a0 Q 16 := by
  intro γ listed a w o hF hC hW h1 ho h2
  obtain ⟨hd, hop, hg⟩ := fields2 (x := some 18) (y := Op.binOp .add 3 (.tmp 12) (.tmp 17) 3) (z := some (6, true)) (by kernel_rfl) ho
  have eg : a.eval (.tmp 8) = .bool true := slotG hF ho h2 (j := 6) (d := 8) (by kernel_rfl) (by kernel_rfl) (by rw [ok.sz]; decide)
  have hw := wanted_of (ops := (opsOf 0 Tryz.f68)) hg (yl_of (by kernel_rfl : dstOf (opsOf 0 Tryz.f68) 6 = some 8) (by rw [hF.tsize, ok.sz]; decide) eg)
  replace hw : Region.wanted o (yielded (opsOf 0 Tryz.f68) a.tmps) = true := hw
  have e12 : a.eval (.tmp 12) = .int .i64 X.mn := slotG hF ho h2 (j := 10) (d := 12) (by kernel_rfl) (by kernel_rfl) (by rw [ok.sz]; decide)
  have e17 : a.eval (.tmp 17) = .int .i64 (X.n : Int) := slotG hF ho h2 (j := 15) (d := 17) (by kernel_rfl) (by kernel_rfl) (by rw [ok.sz]; decide)
  refine st_pureW hF hC hW ho h2 (by decide) hd hw rfl ?_
  show _ = Result.ok (Next.value (.int .i64 (X.mn + (X.n : Int)))) w
  generalize a.eval = ρ at e12 e17 ⊢
  unfold execOp
  rw [hop]
  simp [e12, e17, ok.w1, go_sem]
theorem EWB.s17 (X : EWB) (ok : EWBOk X) {Q : Exit → Act → World → Prop} : StepG (opsOf 0 Tryz.f68) EWB.acts EWB.av X.val0 X.Wd X.a0 Q 17 := by
  intro γ listed a w o hF hC hW h1 ho h2
  obtain ⟨hd, hop, hg⟩ := fields2 (x := some 19) (y := Op.binOp .leq 3 (.tmp 18) (.const (.int .i64 600)) 3) (z := some (6, true)) (by kernel_rfl) ho
  have eg : a.eval (.tmp 8) = .bool true := slotG hF ho h2 (j := 6) (d := 8) (by kernel_rfl) (by kernel_rfl) (by rw [ok.sz]; decide)
  have hw := wanted_of (ops := (opsOf 0 Tryz.f68)) hg (yl_of (by kernel_rfl : dstOf (opsOf 0 Tryz.f68) 6 = some 8) (by rw [hF.tsize, ok.sz]; decide) eg)
  replace hw : Region.wanted o (yielded (opsOf 0 Tryz.f68) a.tmps) = true := hw
  have e18 : a.eval (.tmp 18) = .int .i64 (X.mn + (X.n : Int)) := slotG hF ho h2 (j := 16) (d := 18) (by kernel_rfl) (by kernel_rfl) (by rw [ok.sz]; decide)
  have ec1 : a.eval (.const (.int .i64 600)) = .int .i64 600 := rfl
  refine st_pureW hF hC hW ho h2 (by decide) hd hw rfl ?_
  show _ = Result.ok (Next.value (.bool X.v)) w
  generalize a.eval = ρ at e18 ec1 ⊢
  unfold execOp
  rw [hop]
  simp [e18, ec1, ok.hv, go_sem]
theorem EWB.s18 (X : EWB) (ok : EWBOk X) {Q : Exit → Act → World → Prop} : StepG (opsOf 0 Tryz.f68) EWB.acts EWB.av X.val0 X.Wd X.a0 Q 18 := by
  intro γ listed a w o hF hC hW h1 ho h2
  obtain ⟨hd, hop, hg⟩ := fields2 (x := some 20) (y := Op.pick (.tmp 8) (.tmp 19) (.const (.bool false))) (z := none) (by kernel_rfl) ho
  have e8 : a.eval (.tmp 8) = .bool true := slotG hF ho h2 (j := 6) (d := 8) (by kernel_rfl) (by kernel_rfl) (by rw [ok.sz]; decide)
  have e19 : a.eval (.tmp 19) = .bool X.v := slotG hF ho h2 (j := 17) (d := 19) (by kernel_rfl) (by kernel_rfl) (by rw [ok.sz]; decide)
  have ec2 : a.eval (.const (.bool false)) = .bool false := rfl
  refine st_pureG hF hC hW ho h2 (by decide) hd hg rfl ?_
  show _ = Result.ok (Next.value (.bool X.v)) w
  generalize a.eval = ρ at e8 e19 ec2 ⊢
  unfold execOp
  rw [hop]
  simp [e8, e19, ec2, go_sem]
theorem EWB.size : (opsOf 0 Tryz.f68).size = 19 := by kernel_rfl
theorem EWB.steps (X : EWB) (ok : EWBOk X) {Q : Exit → Act → World → Prop} (i : Nat) (hi : i < (opsOf 0 Tryz.f68).size) : StepG (opsOf 0 Tryz.f68) EWB.acts EWB.av X.val0 X.Wd X.a0 Q i := by
  rw [EWB.size] at hi
  have hc : i = 0 ∨ i = 1 ∨ i = 2 ∨ i = 3 ∨ i = 4 ∨ i = 5 ∨ i = 6 ∨ i = 7 ∨ i = 8 ∨ i = 9 ∨ i = 10 ∨ i = 11 ∨ i = 12 ∨ i = 13 ∨ i = 14 ∨ i = 15 ∨ i = 16 ∨ i = 17 ∨ i = 18 := by omega
  rcases hc with rfl | rfl | rfl | rfl | rfl | rfl | rfl | rfl | rfl | rfl | rfl | rfl | rfl | rfl | rfl | rfl | rfl | rfl | rfl
  · exact EWB.s0 X ok
  · exact EWB.s1 X ok
  · exact EWB.s2 X ok
  · exact EWB.s3 X ok
  · exact EWB.s4 X ok
  · exact EWB.s5 X ok
  · exact EWB.s6 X ok
  · exact EWB.s7 X ok
  · exact EWB.s8 X ok
  · exact EWB.s9 X ok
  · exact EWB.s10 X ok
  · exact EWB.s11 X ok
  · exact EWB.s12 X ok
  · exact EWB.s13 X ok
  · exact EWB.s14 X ok
  · exact EWB.s15 X ok
  · exact EWB.s16 X ok
  · exact EWB.s17 X ok
  · exact EWB.s18 X ok
theorem EWB.puts (X : EWB) (γ : Nat → Value) (a0 : Act) : putsL (valG EWB.av X.val0 γ) (opsOf 0 Tryz.f68).toList a0 = (((((((((((((((((((a0.put (some 2) (.pointer (some ⟨X.bx, 0, none⟩))).put (some 3) (.pointer (some ⟨X.bx, 0, none⟩))).put (some 4) (.pointer (some ⟨X.bx, 3, none⟩))).put (some 5) (.slice X.ua X.n X.uc)).put (some 6) (.int .i64 (X.n : Int))).put (some 7) (.bool true)).put (some 8) (.bool true)).put (some 9) (.pointer (some ⟨X.bx, 0, none⟩))).put (some 10) (.pointer (some ⟨X.bx, 0, none⟩))).put (some 11) (.pointer (some ⟨X.bx, 5, none⟩))).put (some 12) (.int .i64 X.mn)).put (some 13) (.pointer (some ⟨X.bx, 0, none⟩))).put (some 14) (.pointer (some ⟨X.bx, 0, none⟩))).put (some 15) (.pointer (some ⟨X.bx, 3, none⟩))).put (some 16) (.slice X.ua X.n X.uc)).put (some 17) (.int .i64 (X.n : Int))).put (some 18) (.int .i64 (X.mn + (X.n : Int)))).put (some 19) (.bool X.v)).put (some 20) (.bool X.v)) := by kernel_rfl
/-- The region, whatever order comes up. -/
theorem EWB.run (X : EWB) (ok : EWBOk X) {Q : Exit → Act → World → Prop} (w : World) (h0 : X.Wd 0 (fun _ => undef) w.drew) (hend : ∀ (γ : Nat → Value) w', X.Wd 0 γ w' → Q .normal (((((((((((((((((((X.a0.put (some 2) (.pointer (some ⟨X.bx, 0, none⟩))).put (some 3) (.pointer (some ⟨X.bx, 0, none⟩))).put (some 4) (.pointer (some ⟨X.bx, 3, none⟩))).put (some 5) (.slice X.ua X.n X.uc)).put (some 6) (.int .i64 (X.n : Int))).put (some 7) (.bool true)).put (some 8) (.bool true)).put (some 9) (.pointer (some ⟨X.bx, 0, none⟩))).put (some 10) (.pointer (some ⟨X.bx, 0, none⟩))).put (some 11) (.pointer (some ⟨X.bx, 5, none⟩))).put (some 12) (.int .i64 X.mn)).put (some 13) (.pointer (some ⟨X.bx, 0, none⟩))).put (some 14) (.pointer (some ⟨X.bx, 0, none⟩))).put (some 15) (.pointer (some ⟨X.bx, 3, none⟩))).put (some 16) (.slice X.ua X.n X.uc)).put (some 17) (.int .i64 (X.n : Int))).put (some 18) (.int .i64 (X.mn + (X.n : Int)))).put (some 19) (.bool X.v)).put (some 20) (.bool X.v)) w') : (Code.region 0 (opsOf 0 Tryz.f68) true).wp Tryz.prog Q X.a0 w := by
  refine reg_act (acts := EWB.acts) (av := EWB.av) (val0 := X.val0) (Wd := X.Wd) (by kernel_rfl) (by kernel_rfl) (by rw [EWB.size]; decide) (fun i hi => EWB.steps X ok i hi) _ h0 ?_
  intro γ w' h
  rw [EWB.puts]
  exact hend γ w' h
structure EW1 where
  bx : Nat
  va : Option Addr
  vn : Nat
  vc : Nat
  it : Its
  ua : Option Addr
  n : Nat
  uc : Nat
  p : List Pnt
  W : World
  a0 : Act
structure EW1Ok (X : EW1) : Prop where
  c4 : X.W.cell? ⟨X.bx, 4, none⟩ = some (.slice X.va X.vn X.vc)
  c3 : X.W.cell? ⟨X.bx, 3, none⟩ = some (.slice X.ua X.n X.uc)
  ff : ∀ o, X.W.frozen? ⟨X.bx, o, none⟩ = false
  own : OwnQ 25 X.W (X.bx + 1) (.slice X.va X.vn X.vc) (vLn X.it)
  nev : (Value.slice X.va X.vn X.vc).ownBlock ≠ some X.bx
  len : X.it.length + 1 ≤ 1000000
  e0 : X.a0.eval (.tmp 0) = .pointer (some ⟨X.bx, 0, none⟩)
  sz : X.a0.tmps.size = 56
def EW1.val0 (X : EW1) : Nat → Value
  | 21 => .pointer (some ⟨X.bx, 0, none⟩)
  | 22 => .pointer (some ⟨X.bx, 0, none⟩)
  | 23 => .pointer (some ⟨X.bx, 0, none⟩)
  | 24 => .pointer (some ⟨X.bx, 4, none⟩)
  | 25 => .slice X.va X.vn X.vc
  | 26 => .pointer (some ⟨X.bx, 0, none⟩)
  | 27 => .pointer (some ⟨X.bx, 0, none⟩)
  | 28 => .pointer (some ⟨X.bx, 3, none⟩)
  | 29 => .slice X.ua X.n X.uc
  | 30 => .agg #[.slice X.ua X.n X.uc, .bool false]
  | 33 => .pointer (some ⟨X.bx, 0, none⟩)
  | 34 => .pointer (some ⟨X.bx, 4, none⟩)
  | _ => undef
def EW1.av : Nat → Option Nat
  | 31 => some 0
  | 32 => some 1
  | _ => none
def EW1.acts : List Nat := [10, 11, 14]
/-- The world, by how many of the acting ones have come up. -/
def EW1.Wd (X : EW1) : Nat → (Nat → Value) → World → Prop
  | 0, _, w => w = X.W
  | 1, γ, w => γ 0 = .slice (some ⟨X.W.heap.size, 0, none⟩) 1 1 ∧ w = X.W.alloc (.cells #[.slice X.ua X.n X.uc, .bool false] 25)
  | 2, γ, w => ∃ g c, γ 1 = .slice (some ⟨g, 0, none⟩) (X.it.length + 1) c ∧ OwnQ 25 w (X.bx + 1) (γ 1) (vLn (X.it ++ [(.slice X.ua X.n X.uc, ⟨X.p, false⟩)])) ∧ Ext (.slice X.va X.vn X.vc) (γ 1) X.W w
  | _, γ, w => ∃ w2 g c, γ 1 = .slice (some ⟨g, 0, none⟩) (X.it.length + 1) c ∧ OwnQ 25 w2 (X.bx + 1) (γ 1) (vLn (X.it ++ [(.slice X.ua X.n X.uc, ⟨X.p, false⟩)])) ∧ Ext (.slice X.va X.vn X.vc) (γ 1) X.W w2 ∧ w = w2.setCell ⟨X.bx, 4, none⟩ (γ 1)
theorem EW1.chain : chainG (opsOf 1 Tryz.f68) EW1.acts = true := by kernel_rfl
theorem EW1.nodup : EW1.acts.Nodup := by decide
theorem EW1.inj {listed : Array Bool} {i k : Nat} (h : (List.range (opsOf 1 Tryz.f68).size).all (fun j => decide (j = i) || !(match dstOf (opsOf 1 Tryz.f68) j with | some d => decide (EW1.av d = some k) | none => false)) = true) (hu : listed.getD i false = false) : ∀ d, got (opsOf 1 Tryz.f68) listed d → EW1.av d ≠ some k := by
  rintro d ⟨j, h1, h2⟩ h3
  have hlt : j < (opsOf 1 Tryz.f68).size := by
    rcases Nat.lt_or_ge j (opsOf 1 Tryz.f68).size with h4 | h4
    · exact h4
    · unfold dstOf at h2; rw [Array.getElem?_eq_none h4] at h2; cases h2
  have h5 := List.all_eq_true.1 h j (List.mem_range.2 hlt)
  rw [h2] at h5
  simp only [h3, decide_true, Bool.not_true, Bool.or_false, decide_eq_true_eq] at h5
  subst h5
  rw [hu] at h1
  cases h1
theorem EW1.s0 (X : EW1) (ok : EW1Ok X) {Q : Exit → Act → World → Prop} : StepG (opsOf 1 Tryz.f68) EW1.acts EW1.av X.val0 X.Wd X.a0 Q 0 := by
  intro γ listed a w o hF hC hW h1 ho h2
  obtain ⟨hd, hop, hg⟩ := fields2 (x := some 21) (y := Op.move (.tmp 0)) (z := none) (by kernel_rfl) ho
  have e0 : a.eval (.tmp 0) = .pointer (some ⟨X.bx, 0, none⟩) := (hF.eval0 (by kernel_rfl)).trans ok.e0
  refine st_pureG hF hC hW ho h2 (by decide) hd hg rfl ?_
  show _ = Result.ok (Next.value (.pointer (some ⟨X.bx, 0, none⟩))) w
  generalize a.eval = ρ at e0 ⊢
  unfold execOp
  rw [hop]
  simp [e0, go_sem]
theorem EW1.s1 (X : EW1) (ok : EW1Ok X) {Q : Exit → Act → World → Prop} : StepG (opsOf 1 Tryz.f68) EW1.acts EW1.av X.val0 X.Wd X.a0 Q 1 := by
  intro γ listed a w o hF hC hW h1 ho h2
  obtain ⟨hd, hop, hg⟩ := fields2 (x := some 22) (y := Op.move (.tmp 0)) (z := none) (by kernel_rfl) ho
  have e0 : a.eval (.tmp 0) = .pointer (some ⟨X.bx, 0, none⟩) := (hF.eval0 (by kernel_rfl)).trans ok.e0
  refine st_pureG hF hC hW ho h2 (by decide) hd hg rfl ?_
  show _ = Result.ok (Next.value (.pointer (some ⟨X.bx, 0, none⟩))) w
  generalize a.eval = ρ at e0 ⊢
  unfold execOp
  rw [hop]
  simp [e0, go_sem]
theorem EW1.s2 (X : EW1) (ok : EW1Ok X) {Q : Exit → Act → World → Prop} : StepG (opsOf 1 Tryz.f68) EW1.acts EW1.av X.val0 X.Wd X.a0 Q 2 := by
  intro γ listed a w o hF hC hW h1 ho h2
  obtain ⟨hd, hop, hg⟩ := fields2 (x := some 23) (y := Op.nilCheck (.tmp 22)) (z := none) (by kernel_rfl) ho
  have e22 : a.eval (.tmp 22) = .pointer (some ⟨X.bx, 0, none⟩) := slotG hF ho h2 (j := 1) (d := 22) (by kernel_rfl) (by kernel_rfl) (by rw [ok.sz]; decide)
  refine st_pureG hF hC hW ho h2 (by decide) hd hg rfl ?_
  show _ = Result.ok (Next.value (.pointer (some ⟨X.bx, 0, none⟩))) w
  generalize a.eval = ρ at e22 ⊢
  unfold execOp
  rw [hop]
  simp [e22, go_sem]
theorem EW1.s3 (X : EW1) (ok : EW1Ok X) {Q : Exit → Act → World → Prop} : StepG (opsOf 1 Tryz.f68) EW1.acts EW1.av X.val0 X.Wd X.a0 Q 3 := by
  intro γ listed a w o hF hC hW h1 ho h2
  obtain ⟨hd, hop, hg⟩ := fields2 (x := some 24) (y := Op.fieldAddr 100 (.tmp 23) 4) (z := none) (by kernel_rfl) ho
  have e23 : a.eval (.tmp 23) = .pointer (some ⟨X.bx, 0, none⟩) := slotG hF ho h2 (j := 2) (d := 23) (by kernel_rfl) (by kernel_rfl) (by rw [ok.sz]; decide)
  refine st_pureG hF hC hW ho h2 (by decide) hd hg rfl ?_
  show _ = Result.ok (Next.value (.pointer (some ⟨X.bx, 4, none⟩))) w
  generalize a.eval = ρ at e23 ⊢
  unfold execOp
  rw [hop]
  simp [e23, go_sem]
theorem EW1.s4 (X : EW1) (ok : EW1Ok X) {Q : Exit → Act → World → Prop} : StepG (opsOf 1 Tryz.f68) EW1.acts EW1.av X.val0 X.Wd X.a0 Q 4 := by
  intro γ listed a w o hF hC hW h1 ho h2
  obtain ⟨hd, hop, hg⟩ := fields2 (x := some 25) (y := Op.load 29 (.tmp 24)) (z := none) (by kernel_rfl) ho
  have e24 : a.eval (.tmp 24) = .pointer (some ⟨X.bx, 4, none⟩) := slotG hF ho h2 (j := 3) (d := 24) (by kernel_rfl) (by kernel_rfl) (by rw [ok.sz]; decide)
  have hph := phase_leG (acts := EW1.acts) (m := 1) (x := 11) hC (unl (hF.lt ho) h1) rfl [4] (by kernel_rfl) (by decide)
  have hWW := hW
  generalize phase listed EW1.acts = n at hph hWW
  have hk : Nw X.W w := by
    rcases (show n = 0 ∨ n = 1 by omega) with rfl | rfl
    · have : w = X.W := hWW
      rw [this]; exact Below.refl _ _
    · obtain ⟨_, h9⟩ := hWW
      rw [h9]; exact (Below.refl _ _).alloc (Nat.le_refl _) _
  have hc := ((bcell hk).1 _ _ (World.block_lt_of_cell? X.W ⟨X.bx, 4, none⟩ ok.c4)).trans ok.c4
  refine st_pureG hF hC hW ho h2 (by decide) hd hg rfl ?_
  show _ = Result.ok (Next.value (.slice X.va X.vn X.vc)) w
  generalize a.eval = ρ at e24 ⊢
  unfold execOp
  rw [hop]
  simp [e24, hc, go_sem]
theorem EW1.s5 (X : EW1) (ok : EW1Ok X) {Q : Exit → Act → World → Prop} : StepG (opsOf 1 Tryz.f68) EW1.acts EW1.av X.val0 X.Wd X.a0 Q 5 := by
  intro γ listed a w o hF hC hW h1 ho h2
  obtain ⟨hd, hop, hg⟩ := fields2 (x := some 26) (y := Op.move (.tmp 0)) (z := none) (by kernel_rfl) ho
  have e0 : a.eval (.tmp 0) = .pointer (some ⟨X.bx, 0, none⟩) := (hF.eval0 (by kernel_rfl)).trans ok.e0
  refine st_pureG hF hC hW ho h2 (by decide) hd hg rfl ?_
  show _ = Result.ok (Next.value (.pointer (some ⟨X.bx, 0, none⟩))) w
  generalize a.eval = ρ at e0 ⊢
  unfold execOp
  rw [hop]
  simp [e0, go_sem]
theorem EW1.s6 (X : EW1) (ok : EW1Ok X) {Q : Exit → Act → World → Prop} : StepG (opsOf 1 Tryz.f68) EW1.acts EW1.av X.val0 X.Wd X.a0 Q 6 := by
  intro γ listed a w o hF hC hW h1 ho h2
  obtain ⟨hd, hop, hg⟩ := fields2 (x := some 27) (y := Op.nilCheck (.tmp 26)) (z := none) (by kernel_rfl) ho
  have e26 : a.eval (.tmp 26) = .pointer (some ⟨X.bx, 0, none⟩) := slotG hF ho h2 (j := 5) (d := 26) (by kernel_rfl) (by kernel_rfl) (by rw [ok.sz]; decide)
  refine st_pureG hF hC hW ho h2 (by decide) hd hg rfl ?_
  show _ = Result.ok (Next.value (.pointer (some ⟨X.bx, 0, none⟩))) w
  generalize a.eval = ρ at e26 ⊢
  unfold execOp
  rw [hop]
  simp [e26, go_sem]
theorem EW1.s7 (X : EW1) (ok : EW1Ok X) {Q : Exit → Act → World → Prop} : StepG (opsOf 1 Tryz.f68) EW1.acts EW1.av X.val0 X.Wd X.a0 Q 7 := by
  intro γ listed a w o hF hC hW h1 ho h2
  obtain ⟨hd, hop, hg⟩ := fields2 (x := some 28) (y := Op.fieldAddr 100 (.tmp 27) 3) (z := none) (by kernel_rfl) ho
  have e27 : a.eval (.tmp 27) = .pointer (some ⟨X.bx, 0, none⟩) := slotG hF ho h2 (j := 6) (d := 27) (by kernel_rfl) (by kernel_rfl) (by rw [ok.sz]; decide)
  refine st_pureG hF hC hW ho h2 (by decide) hd hg rfl ?_
  show _ = Result.ok (Next.value (.pointer (some ⟨X.bx, 3, none⟩))) w
  generalize a.eval = ρ at e27 ⊢
  unfold execOp
  rw [hop]
  simp [e27, go_sem]
theorem EW1.s8 (X : EW1) (ok : EW1Ok X) {Q : Exit → Act → World → Prop} : StepG (opsOf 1 Tryz.f68) EW1.acts EW1.av X.val0 X.Wd X.a0 Q 8 := by
  intro γ listed a w o hF hC hW h1 ho h2
  obtain ⟨hd, hop, hg⟩ := fields2 (x := some 29) (y := Op.load 23 (.tmp 28)) (z := none) (by kernel_rfl) ho
  have e28 : a.eval (.tmp 28) = .pointer (some ⟨X.bx, 3, none⟩) := slotG hF ho h2 (j := 7) (d := 28) (by kernel_rfl) (by kernel_rfl) (by rw [ok.sz]; decide)
  have hph := phase_leG (acts := EW1.acts) (m := 0) (x := 10) hC (unl (hF.lt ho) h1) rfl [9, 8] (by kernel_rfl) (by decide)
  have hWW := hW
  generalize phase listed EW1.acts = n at hph hWW
  obtain rfl : n = 0 := by omega
  have hk : w = X.W := hWW
  have hc0 := ok.c3
  rw [← hk] at hc0
  refine st_pureG hF hC hW ho h2 (by decide) hd hg rfl ?_
  show _ = Result.ok (Next.value (.slice X.ua X.n X.uc)) w
  generalize a.eval = ρ at e28 ⊢
  unfold execOp
  rw [hop]
  simp [e28, hc0, go_sem]
theorem EW1.s9 (X : EW1) (ok : EW1Ok X) {Q : Exit → Act → World → Prop} : StepG (opsOf 1 Tryz.f68) EW1.acts EW1.av X.val0 X.Wd X.a0 Q 9 := by
  intro γ listed a w o hF hC hW h1 ho h2
  obtain ⟨hd, hop, hg⟩ := fields2 (x := some 30) (y := Op.build 25 #[(0, (.tmp 29))]) (z := none) (by kernel_rfl) ho
  have e29 : a.eval (.tmp 29) = .slice X.ua X.n X.uc := slotG hF ho h2 (j := 8) (d := 29) (by kernel_rfl) (by kernel_rfl) (by rw [ok.sz]; decide)
  refine st_pureG hF hC hW ho h2 (by decide) hd hg rfl ?_
  show _ = Result.ok (Next.value (.agg #[.slice X.ua X.n X.uc, .bool false])) w
  generalize a.eval = ρ at e29 ⊢
  unfold execOp
  rw [hop]
  simp [e29, go_sem]
theorem EW1.s10 (X : EW1) (ok : EW1Ok X) {Q : Exit → Act → World → Prop} : StepG (opsOf 1 Tryz.f68) EW1.acts EW1.av X.val0 X.Wd X.a0 Q 10 := by
  intro γ listed a w o hF hC hW h1 ho h2
  obtain ⟨hd, hop, hg⟩ := fields2 (x := some 31) (y := Op.buildSlice 29 1 #[(0, (.tmp 30))]) (z := none) (by kernel_rfl) ho
  have e30 : a.eval (.tmp 30) = .agg #[.slice X.ua X.n X.uc, .bool false] := slotG hF ho h2 (j := 9) (d := 30) (by kernel_rfl) (by kernel_rfl) (by rw [ok.sz]; decide)
  have hu := unl (hF.lt ho) h1
  refine st_actG (k := 0) EW1.chain EW1.nodup rfl hF hC hW h1 ho h2 (Or.inr ⟨31, hd, rfl⟩) (EW1.inj (by kernel_rfl) hu) hg ?_
  intro hW0 K hK
  have hw0 : w = X.W := hW0
  have hr : (execOp a.eval o).run Tryz.prog w = .ok (.value (.slice (some ⟨w.heap.size, 0, none⟩) 1 1)) (w.alloc (.cells #[.slice X.ua X.n X.uc, .bool false] 25)) := by
    generalize a.eval = ρ at e30 ⊢
    unfold execOp
    rw [hop]
    simp [e30, go_sem]
  unfold Oper.wp
  rw [hr, hw0]
  exact hK _ _ ⟨rfl, rfl⟩
theorem EW1.s11 (X : EW1) (ok : EW1Ok X) {Q : Exit → Act → World → Prop} : StepG (opsOf 1 Tryz.f68) EW1.acts EW1.av X.val0 X.Wd X.a0 Q 11 := by
  intro γ listed a w o hF hC hW h1 ho h2
  obtain ⟨hd, hop, hg⟩ := fields2 (x := some 32) (y := Op.call { callee := .builtin .append, args := #[(.tmp 25), (.tmp 31)], argTypes := #[29, 29] }) (z := none) (by kernel_rfl) ho
  have e25 : a.eval (.tmp 25) = .slice X.va X.vn X.vc := slotG hF ho h2 (j := 4) (d := 25) (by kernel_rfl) (by kernel_rfl) (by rw [ok.sz]; decide)
  have e31 : a.eval (.tmp 31) = γ 0 := slotG hF ho h2 (j := 10) (d := 31) (by kernel_rfl) (by kernel_rfl) (by rw [ok.sz]; decide)
  have hu := unl (hF.lt ho) h1
  refine st_actG (k := 1) EW1.chain EW1.nodup rfl hF hC hW h1 ho h2 (Or.inr ⟨32, hd, rfl⟩) (EW1.inj (by kernel_rfl) hu) hg ?_
  intro hW0 K hK
  obtain ⟨g0, hw1⟩ := hW0
  rw [g0] at e31
  subst hw1
  have n1 : Nw X.W (X.W.alloc (.cells #[.slice X.ua X.n X.uc, .bool false] 25)) := (Below.refl _ _).alloc (Nat.le_refl _) _
  refine wp_q 25 29 29 (.slice none 0 0) (.bool false) 32 under_lns under_lns info_line (by decide) rfl _ (.tmp 25) (.tmp 31) hop (X.bx + 1) (.slice X.va X.vn X.vc) (vLn X.it) (vLn [(.slice X.ua X.n X.uc, (⟨X.p, false⟩ : LD))]) e25 (OwnQ.nw ok.own n1) X.W.heap.size 0 1 1 rfl e31 ?_ ?_ (by simp [vLn]) (by rw [vLn_len, vLn_len]; have := ok.len; simp; omega) (by have := World.block_lt_of_cell? X.W ⟨X.bx, 4, none⟩ ok.c4; simp at this ⊢; omega) ?_
  · intro i hi
    have : i = 0 := by simp [vLn] at hi; omega
    subst this
    exact ⟨World.cell?_alloc_at _ _ _ _ rfl, World.cell?_alloc_at _ _ _ _ rfl⟩
  · intro x hx
    simp only [vLn, List.map_cons, List.map_nil, flat2, List.mem_cons, List.not_mem_nil, or_false] at hx
    rcases hx with rfl | rfl <;> rfl
  intro g' c' w' h3 h4
  rw [vLn_len] at h3 h4 ⊢
  rw [← vLn_append] at h3
  exact hK _ _ ⟨g', c', rfl, h3, n1.ext h4⟩
theorem EW1.s12 (X : EW1) (ok : EW1Ok X) {Q : Exit → Act → World → Prop} : StepG (opsOf 1 Tryz.f68) EW1.acts EW1.av X.val0 X.Wd X.a0 Q 12 := by
  intro γ listed a w o hF hC hW h1 ho h2
  obtain ⟨hd, hop, hg⟩ := fields2 (x := some 33) (y := Op.nilCheck (.tmp 21)) (z := none) (by kernel_rfl) ho
  have e21 : a.eval (.tmp 21) = .pointer (some ⟨X.bx, 0, none⟩) := slotG hF ho h2 (j := 0) (d := 21) (by kernel_rfl) (by kernel_rfl) (by rw [ok.sz]; decide)
  refine st_pureG hF hC hW ho h2 (by decide) hd hg rfl ?_
  show _ = Result.ok (Next.value (.pointer (some ⟨X.bx, 0, none⟩))) w
  generalize a.eval = ρ at e21 ⊢
  unfold execOp
  rw [hop]
  simp [e21, go_sem]
theorem EW1.s13 (X : EW1) (ok : EW1Ok X) {Q : Exit → Act → World → Prop} : StepG (opsOf 1 Tryz.f68) EW1.acts EW1.av X.val0 X.Wd X.a0 Q 13 := by
  intro γ listed a w o hF hC hW h1 ho h2
  obtain ⟨hd, hop, hg⟩ := fields2 (x := some 34) (y := Op.fieldAddr 100 (.tmp 33) 4) (z := none) (by kernel_rfl) ho
  have e33 : a.eval (.tmp 33) = .pointer (some ⟨X.bx, 0, none⟩) := slotG hF ho h2 (j := 12) (d := 33) (by kernel_rfl) (by kernel_rfl) (by rw [ok.sz]; decide)
  refine st_pureG hF hC hW ho h2 (by decide) hd hg rfl ?_
  show _ = Result.ok (Next.value (.pointer (some ⟨X.bx, 4, none⟩))) w
  generalize a.eval = ρ at e33 ⊢
  unfold execOp
  rw [hop]
  simp [e33, go_sem]
theorem EW1.s14 (X : EW1) (ok : EW1Ok X) {Q : Exit → Act → World → Prop} : StepG (opsOf 1 Tryz.f68) EW1.acts EW1.av X.val0 X.Wd X.a0 Q 14 := by
  intro γ listed a w o hF hC hW h1 ho h2
  obtain ⟨hd, hop, hg⟩ := fields2 (x := none) (y := Op.store 29 (.tmp 34) (.tmp 32)) (z := none) (by kernel_rfl) ho
  have e34 : a.eval (.tmp 34) = .pointer (some ⟨X.bx, 4, none⟩) := slotG hF ho h2 (j := 13) (d := 34) (by kernel_rfl) (by kernel_rfl) (by rw [ok.sz]; decide)
  have e32 : a.eval (.tmp 32) = γ 1 := slotG hF ho h2 (j := 11) (d := 32) (by kernel_rfl) (by kernel_rfl) (by rw [ok.sz]; decide)
  have hu := unl (hF.lt ho) h1
  refine st_actG (k := 2) EW1.chain EW1.nodup rfl hF hC hW h1 ho h2 (Or.inl hd) (EW1.inj (by kernel_rfl) hu) hg ?_
  intro hW0 K hK
  obtain ⟨g, cc, g1, o1, x1⟩ := hW0
  have hb := World.block_lt_of_cell? X.W ⟨X.bx, 4, none⟩ ok.c4
  have t0 : w.cell? ⟨X.bx, 4, none⟩ = some (.slice X.va X.vn X.vc) := (Ext.cell x1 hb ok.nev 4).trans ok.c4
  have tf : w.frozen? ⟨X.bx, 4, none⟩ = false := (World.frozen?_of_block (w := X.W) (a := ⟨X.bx, 4, none⟩) (x1.1.block X.bx hb (fun e => ok.nev e.symm))).trans (ok.ff 4)
  have hr : (execOp a.eval o).run Tryz.prog w = .ok .skip (w.setCell ⟨X.bx, 4, none⟩ (γ 1)) := by
    rw [g1] at e32 ⊢
    generalize a.eval = ρ at e32 e34 ⊢
    unfold execOp
    rw [hop]
    simp [e32, e34, t0, tf, go_sem]
  unfold Oper.wp
  rw [hr]
  exact hK undef _ ⟨w, g, cc, g1, o1, x1, rfl⟩
theorem EW1.size : (opsOf 1 Tryz.f68).size = 15 := by kernel_rfl
theorem EW1.steps (X : EW1) (ok : EW1Ok X) {Q : Exit → Act → World → Prop} (i : Nat) (hi : i < (opsOf 1 Tryz.f68).size) : StepG (opsOf 1 Tryz.f68) EW1.acts EW1.av X.val0 X.Wd X.a0 Q i := by
  rw [EW1.size] at hi
  have hc : i = 0 ∨ i = 1 ∨ i = 2 ∨ i = 3 ∨ i = 4 ∨ i = 5 ∨ i = 6 ∨ i = 7 ∨ i = 8 ∨ i = 9 ∨ i = 10 ∨ i = 11 ∨ i = 12 ∨ i = 13 ∨ i = 14 := by omega
  rcases hc with rfl | rfl | rfl | rfl | rfl | rfl | rfl | rfl | rfl | rfl | rfl | rfl | rfl | rfl | rfl
  · exact EW1.s0 X ok
  · exact EW1.s1 X ok
  · exact EW1.s2 X ok
  · exact EW1.s3 X ok
  · exact EW1.s4 X ok
  · exact EW1.s5 X ok
  · exact EW1.s6 X ok
  · exact EW1.s7 X ok
  · exact EW1.s8 X ok
  · exact EW1.s9 X ok
  · exact EW1.s10 X ok
  · exact EW1.s11 X ok
  · exact EW1.s12 X ok
  · exact EW1.s13 X ok
  · exact EW1.s14 X ok
theorem EW1.puts (X : EW1) (γ : Nat → Value) (a0 : Act) : putsL (valG EW1.av X.val0 γ) (opsOf 1 Tryz.f68).toList a0 = ((((((((((((((a0.put (some 21) (.pointer (some ⟨X.bx, 0, none⟩))).put (some 22) (.pointer (some ⟨X.bx, 0, none⟩))).put (some 23) (.pointer (some ⟨X.bx, 0, none⟩))).put (some 24) (.pointer (some ⟨X.bx, 4, none⟩))).put (some 25) (.slice X.va X.vn X.vc)).put (some 26) (.pointer (some ⟨X.bx, 0, none⟩))).put (some 27) (.pointer (some ⟨X.bx, 0, none⟩))).put (some 28) (.pointer (some ⟨X.bx, 3, none⟩))).put (some 29) (.slice X.ua X.n X.uc)).put (some 30) (.agg #[.slice X.ua X.n X.uc, .bool false])).put (some 31) (γ 0)).put (some 32) (γ 1)).put (some 33) (.pointer (some ⟨X.bx, 0, none⟩))).put (some 34) (.pointer (some ⟨X.bx, 4, none⟩))) := by kernel_rfl
/-- The region, whatever order comes up. -/
theorem EW1.run (X : EW1) (ok : EW1Ok X) {Q : Exit → Act → World → Prop} (w : World) (h0 : X.Wd 0 (fun _ => undef) w.drew) (hend : ∀ (γ : Nat → Value) w', X.Wd 3 γ w' → Q .normal ((((((((((((((X.a0.put (some 21) (.pointer (some ⟨X.bx, 0, none⟩))).put (some 22) (.pointer (some ⟨X.bx, 0, none⟩))).put (some 23) (.pointer (some ⟨X.bx, 0, none⟩))).put (some 24) (.pointer (some ⟨X.bx, 4, none⟩))).put (some 25) (.slice X.va X.vn X.vc)).put (some 26) (.pointer (some ⟨X.bx, 0, none⟩))).put (some 27) (.pointer (some ⟨X.bx, 0, none⟩))).put (some 28) (.pointer (some ⟨X.bx, 3, none⟩))).put (some 29) (.slice X.ua X.n X.uc)).put (some 30) (.agg #[.slice X.ua X.n X.uc, .bool false])).put (some 31) (γ 0)).put (some 32) (γ 1)).put (some 33) (.pointer (some ⟨X.bx, 0, none⟩))).put (some 34) (.pointer (some ⟨X.bx, 4, none⟩))) w') : (Code.region 1 (opsOf 1 Tryz.f68) true).wp Tryz.prog Q X.a0 w := by
  refine reg_act (acts := EW1.acts) (av := EW1.av) (val0 := X.val0) (Wd := X.Wd) (by kernel_rfl) (by kernel_rfl) (by rw [EW1.size]; decide) (fun i hi => EW1.steps X ok i hi) _ h0 ?_
  intro γ w' h
  rw [EW1.puts]
  exact hend γ w' h
structure EW3 where
  bx : Nat
  ua : Option Addr
  n : Nat
  uc : Nat
  mn : Int
  W : World
  a0 : Act
structure EW3Ok (X : EW3) : Prop where
  c3 : X.W.cell? ⟨X.bx, 3, none⟩ = some (.slice X.ua X.n X.uc)
  c5 : X.W.cell? ⟨X.bx, 5, none⟩ = some (.int .i64 X.mn)
  cz : ∃ z, X.W.cell? ⟨X.bx, 5, none⟩ = some (.int .i64 z)
  ff : ∀ o, X.W.frozen? ⟨X.bx, o, none⟩ = false
  w1 : IntKind.i64.wrap (X.mn + (X.n : Int)) = X.mn + (X.n : Int)
  e0 : X.a0.eval (.tmp 0) = .pointer (some ⟨X.bx, 0, none⟩)
  sz : X.a0.tmps.size = 56
def EW3.val0 (X : EW3) : Nat → Value
  | 41 => .pointer (some ⟨X.bx, 0, none⟩)
  | 42 => .pointer (some ⟨X.bx, 0, none⟩)
  | 43 => .pointer (some ⟨X.bx, 5, none⟩)
  | 44 => .int .i64 X.mn
  | 45 => .pointer (some ⟨X.bx, 0, none⟩)
  | 46 => .pointer (some ⟨X.bx, 0, none⟩)
  | 47 => .pointer (some ⟨X.bx, 3, none⟩)
  | 48 => .slice X.ua X.n X.uc
  | 49 => .int .i64 (X.n : Int)
  | 50 => .int .i64 (X.mn + (X.n : Int))
  | 51 => .pointer (some ⟨X.bx, 0, none⟩)
  | 52 => .pointer (some ⟨X.bx, 5, none⟩)
  | _ => undef
def EW3.av : Nat → Option Nat
  | _ => none
def EW3.acts : List Nat := [12]
/-- The world, by how many of the acting ones have come up. -/
def EW3.Wd (X : EW3) : Nat → (Nat → Value) → World → Prop
  | 0, _, w => w = X.W
  | _, _, w => w = X.W.setCell ⟨X.bx, 5, none⟩ (.int .i64 (X.mn + (X.n : Int)))
theorem EW3.chain : chainG (opsOf 3 Tryz.f68) EW3.acts = true := by kernel_rfl
theorem EW3.nodup : EW3.acts.Nodup := by decide
theorem EW3.inj {listed : Array Bool} {i k : Nat} (h : (List.range (opsOf 3 Tryz.f68).size).all (fun j => decide (j = i) || !(match dstOf (opsOf 3 Tryz.f68) j with | some d => decide (EW3.av d = some k) | none => false)) = true) (hu : listed.getD i false = false) : ∀ d, got (opsOf 3 Tryz.f68) listed d → EW3.av d ≠ some k := by
  rintro d ⟨j, h1, h2⟩ h3
  have hlt : j < (opsOf 3 Tryz.f68).size := by
    rcases Nat.lt_or_ge j (opsOf 3 Tryz.f68).size with h4 | h4
    · exact h4
    · unfold dstOf at h2; rw [Array.getElem?_eq_none h4] at h2; cases h2
  have h5 := List.all_eq_true.1 h j (List.mem_range.2 hlt)
  rw [h2] at h5
  simp only [h3, decide_true, Bool.not_true, Bool.or_false, decide_eq_true_eq] at h5
  subst h5
  rw [hu] at h1
  cases h1
theorem EW3.s0 (X : EW3) (ok : EW3Ok X) {Q : Exit → Act → World → Prop} : StepG (opsOf 3 Tryz.f68) EW3.acts EW3.av X.val0 X.Wd X.a0 Q 0 := by
  intro γ listed a w o hF hC hW h1 ho h2
  obtain ⟨hd, hop, hg⟩ := fields2 (x := some 41) (y := Op.move (.tmp 0)) (z := none) (by kernel_rfl) ho
  have e0 : a.eval (.tmp 0) = .pointer (some ⟨X.bx, 0, none⟩) := (hF.eval0 (by kernel_rfl)).trans ok.e0
  refine st_pureG hF hC hW ho h2 (by decide) hd hg rfl ?_
  show _ = Result.ok (Next.value (.pointer (some ⟨X.bx, 0, none⟩))) w
  generalize a.eval = ρ at e0 ⊢
  unfold execOp
  rw [hop]
  simp [e0, go_sem]
theorem EW3.s1 (X : EW3) (ok : EW3Ok X) {Q : Exit → Act → World → Prop} : StepG (opsOf 3 Tryz.f68) EW3.acts EW3.av X.val0 X.Wd X.a0 Q 1 := by
  intro γ listed a w o hF hC hW h1 ho h2
  obtain ⟨hd, hop, hg⟩ := fields2 (x := some 42) (y := Op.nilCheck (.tmp 41)) (z := none) (by kernel_rfl) ho
  have e41 : a.eval (.tmp 41) = .pointer (some ⟨X.bx, 0, none⟩) := slotG hF ho h2 (j := 0) (d := 41) (by kernel_rfl) (by kernel_rfl) (by rw [ok.sz]; decide)
  refine st_pureG hF hC hW ho h2 (by decide) hd hg rfl ?_
  show _ = Result.ok (Next.value (.pointer (some ⟨X.bx, 0, none⟩))) w
  generalize a.eval = ρ at e41 ⊢
  unfold execOp
  rw [hop]
  simp [e41, go_sem]
theorem EW3.s2 (X : EW3) (ok : EW3Ok X) {Q : Exit → Act → World → Prop} : StepG (opsOf 3 Tryz.f68) EW3.acts EW3.av X.val0 X.Wd X.a0 Q 2 := by
  intro γ listed a w o hF hC hW h1 ho h2
  obtain ⟨hd, hop, hg⟩ := fields2 (x := some 43) (y := Op.fieldAddr 100 (.tmp 42) 5) (z := none) (by kernel_rfl) ho
  have e42 : a.eval (.tmp 42) = .pointer (some ⟨X.bx, 0, none⟩) := slotG hF ho h2 (j := 1) (d := 42) (by kernel_rfl) (by kernel_rfl) (by rw [ok.sz]; decide)
  refine st_pureG hF hC hW ho h2 (by decide) hd hg rfl ?_
  show _ = Result.ok (Next.value (.pointer (some ⟨X.bx, 5, none⟩))) w
  generalize a.eval = ρ at e42 ⊢
  unfold execOp
  rw [hop]
  simp [e42, go_sem]
theorem EW3.s3 (X : EW3) (ok : EW3Ok X) {Q : Exit → Act → World → Prop} : StepG (opsOf 3 Tryz.f68) EW3.acts EW3.av X.val0 X.Wd X.a0 Q 3 := by
  intro γ listed a w o hF hC hW h1 ho h2
  obtain ⟨hd, hop, hg⟩ := fields2 (x := some 44) (y := Op.load 3 (.tmp 43)) (z := none) (by kernel_rfl) ho
  have e43 : a.eval (.tmp 43) = .pointer (some ⟨X.bx, 5, none⟩) := slotG hF ho h2 (j := 2) (d := 43) (by kernel_rfl) (by kernel_rfl) (by rw [ok.sz]; decide)
  have hph := phase_leG (acts := EW3.acts) (m := 0) (x := 12) hC (unl (hF.lt ho) h1) rfl [9, 3] (by kernel_rfl) (by decide)
  have hWW := hW
  generalize phase listed EW3.acts = n at hph hWW
  obtain rfl : n = 0 := by omega
  have hk : w = X.W := hWW
  have hc0 := ok.c5
  rw [← hk] at hc0
  refine st_pureG hF hC hW ho h2 (by decide) hd hg rfl ?_
  show _ = Result.ok (Next.value (.int .i64 X.mn)) w
  generalize a.eval = ρ at e43 ⊢
  unfold execOp
  rw [hop]
  simp [e43, hc0, go_sem]
theorem EW3.s4 (X : EW3) (ok : EW3Ok X) {Q : Exit → Act → World → Prop} : StepG (opsOf 3 Tryz.f68) EW3.acts EW3.av X.val0 X.Wd X.a0 Q 4 := by
  intro γ listed a w o hF hC hW h1 ho h2
  obtain ⟨hd, hop, hg⟩ := fields2 (x := some 45) (y := Op.move (.tmp 0)) (z := none) (by kernel_rfl) ho
  have e0 : a.eval (.tmp 0) = .pointer (some ⟨X.bx, 0, none⟩) := (hF.eval0 (by kernel_rfl)).trans ok.e0
  refine st_pureG hF hC hW ho h2 (by decide) hd hg rfl ?_
  show _ = Result.ok (Next.value (.pointer (some ⟨X.bx, 0, none⟩))) w
  generalize a.eval = ρ at e0 ⊢
  unfold execOp
  rw [hop]
  simp [e0, go_sem]
theorem EW3.s5 (X : EW3) (ok : EW3Ok X) {Q : Exit → Act → World → Prop} : StepG (opsOf 3 Tryz.f68) EW3.acts EW3.av X.val0 X.Wd X.a0 Q 5 := by
  intro γ listed a w o hF hC hW h1 ho h2
  obtain ⟨hd, hop, hg⟩ := fields2 (x := some 46) (y := Op.nilCheck (.tmp 45)) (z := none) (by kernel_rfl) ho
  have e45 : a.eval (.tmp 45) = .pointer (some ⟨X.bx, 0, none⟩) := slotG hF ho h2 (j := 4) (d := 45) (by kernel_rfl) (by kernel_rfl) (by rw [ok.sz]; decide)
  refine st_pureG hF hC hW ho h2 (by decide) hd hg rfl ?_
  show _ = Result.ok (Next.value (.pointer (some ⟨X.bx, 0, none⟩))) w
  generalize a.eval = ρ at e45 ⊢
  unfold execOp
  rw [hop]
  simp [e45, go_sem]
theorem EW3.s6 (X : EW3) (ok : EW3Ok X) {Q : Exit → Act → World → Prop} : StepG (opsOf 3 Tryz.f68) EW3.acts EW3.av X.val0 X.Wd X.a0 Q 6 := by
  intro γ listed a w o hF hC hW h1 ho h2
  obtain ⟨hd, hop, hg⟩ := fields2 (x := some 47) (y := Op.fieldAddr 100 (.tmp 46) 3) (z := none) (by kernel_rfl) ho
  have e46 : a.eval (.tmp 46) = .pointer (some ⟨X.bx, 0, none⟩) := slotG hF ho h2 (j := 5) (d := 46) (by kernel_rfl) (by kernel_rfl) (by rw [ok.sz]; decide)
  refine st_pureG hF hC hW ho h2 (by decide) hd hg rfl ?_
  show _ = Result.ok (Next.value (.pointer (some ⟨X.bx, 3, none⟩))) w
  generalize a.eval = ρ at e46 ⊢
  unfold execOp
  rw [hop]
  simp [e46, go_sem]
theorem EW3.s7 (X : EW3) (ok : EW3Ok X) {Q : Exit → Act → World → Prop} : StepG (opsOf 3 Tryz.f68) EW3.acts EW3.av X.val0 X.Wd X.a0 Q 7 := by
  intro γ listed a w o hF hC hW h1 ho h2
  obtain ⟨hd, hop, hg⟩ := fields2 (x := some 48) (y := Op.load 23 (.tmp 47)) (z := none) (by kernel_rfl) ho
  have e47 : a.eval (.tmp 47) = .pointer (some ⟨X.bx, 3, none⟩) := slotG hF ho h2 (j := 6) (d := 47) (by kernel_rfl) (by kernel_rfl) (by rw [ok.sz]; decide)
  have hph := phase_leG (acts := EW3.acts) (m := 0) (x := 12) hC (unl (hF.lt ho) h1) rfl [9, 8, 7] (by kernel_rfl) (by decide)
  have hWW := hW
  generalize phase listed EW3.acts = n at hph hWW
  obtain rfl : n = 0 := by omega
  have hk : w = X.W := hWW
  have hc0 := ok.c3
  rw [← hk] at hc0
  refine st_pureG hF hC hW ho h2 (by decide) hd hg rfl ?_
  show _ = Result.ok (Next.value (.slice X.ua X.n X.uc)) w
  generalize a.eval = ρ at e47 ⊢
  unfold execOp
  rw [hop]
  simp [e47, hc0, go_sem]
theorem EW3.s8 (X : EW3) (ok : EW3Ok X) {Q : Exit → Act → World → Prop} : StepG (opsOf 3 Tryz.f68) EW3.acts EW3.av X.val0 X.Wd X.a0 Q 8 := by
  intro γ listed a w o hF hC hW h1 ho h2
  obtain ⟨hd, hop, hg⟩ := fields2 (x := some 49) (y := Op.call { callee := .builtin .len, args := #[(.tmp 48)], argTypes := #[23] }) (z := none) (by kernel_rfl) ho
  have e48 : a.eval (.tmp 48) = .slice X.ua X.n X.uc := slotG hF ho h2 (j := 7) (d := 48) (by kernel_rfl) (by kernel_rfl) (by rw [ok.sz]; decide)
  refine st_pureG hF hC hW ho h2 (by decide) hd hg rfl ?_
  show _ = Result.ok (Next.value (.int .i64 (X.n : Int))) w
  generalize a.eval = ρ at e48 ⊢
  unfold execOp
  rw [hop]
  simp [e48, go_sem]
theorem EW3.s9 (X : EW3) (ok : EW3Ok X) {Q : Exit → Act → World → Prop} : StepG (opsOf 3 Tryz.f68) EW3.acts EW3.av X.val0 X.Wd X.a0 Q 9 := by
  intro γ listed a w o hF hC hW h1 ho h2
  obtain ⟨hd, hop, hg⟩ := fields2 (x := some 50) (y := Op.binOp .add 3 (.tmp 44) (.tmp 49) 3) (z := none) (by kernel_rfl) ho
  have e44 : a.eval (.tmp 44) = .int .i64 X.mn := slotG hF ho h2 (j := 3) (d := 44) (by kernel_rfl) (by kernel_rfl) (by rw [ok.sz]; decide)
  have e49 : a.eval (.tmp 49) = .int .i64 (X.n : Int) := slotG hF ho h2 (j := 8) (d := 49) (by kernel_rfl) (by kernel_rfl) (by rw [ok.sz]; decide)
  refine st_pureG hF hC hW ho h2 (by decide) hd hg rfl ?_
  show _ = Result.ok (Next.value (.int .i64 (X.mn + (X.n : Int)))) w
  generalize a.eval = ρ at e44 e49 ⊢
  unfold execOp
  rw [hop]
  simp [e44, e49, ok.w1, go_sem]
theorem EW3.s10 (X : EW3) (ok : EW3Ok X) {Q : Exit → Act → World → Prop} : StepG (opsOf 3 Tryz.f68) EW3.acts EW3.av X.val0 X.Wd X.a0 Q 10 := by
  intro γ listed a w o hF hC hW h1 ho h2
  obtain ⟨hd, hop, hg⟩ := fields2 (x := some 51) (y := Op.nilCheck (.tmp 41)) (z := none) (by kernel_rfl) ho
  have e41 : a.eval (.tmp 41) = .pointer (some ⟨X.bx, 0, none⟩) := slotG hF ho h2 (j := 0) (d := 41) (by kernel_rfl) (by kernel_rfl) (by rw [ok.sz]; decide)
  refine st_pureG hF hC hW ho h2 (by decide) hd hg rfl ?_
  show _ = Result.ok (Next.value (.pointer (some ⟨X.bx, 0, none⟩))) w
  generalize a.eval = ρ at e41 ⊢
  unfold execOp
  rw [hop]
  simp [e41, go_sem]
theorem EW3.s11 (X : EW3) (ok : EW3Ok X) {Q : Exit → Act → World → Prop} : StepG (opsOf 3 Tryz.f68) EW3.acts EW3.av X.val0 X.Wd X.a0 Q 11 := by
  intro γ listed a w o hF hC hW h1 ho h2
  obtain ⟨hd, hop, hg⟩ := fields2 (x := some 52) (y := Op.fieldAddr 100 (.tmp 51) 5) (z := none) (by kernel_rfl) ho
  have e51 : a.eval (.tmp 51) = .pointer (some ⟨X.bx, 0, none⟩) := slotG hF ho h2 (j := 10) (d := 51) (by kernel_rfl) (by kernel_rfl) (by rw [ok.sz]; decide)
  refine st_pureG hF hC hW ho h2 (by decide) hd hg rfl ?_
  show _ = Result.ok (Next.value (.pointer (some ⟨X.bx, 5, none⟩))) w
  generalize a.eval = ρ at e51 ⊢
  unfold execOp
  rw [hop]
  simp [e51, go_sem]
theorem EW3.s12 (X : EW3) (ok : EW3Ok X) {Q : Exit → Act → World → Prop} : StepG (opsOf 3 Tryz.f68) EW3.acts EW3.av X.val0 X.Wd X.a0 Q 12 := by
  intro γ listed a w o hF hC hW h1 ho h2
  obtain ⟨hd, hop, hg⟩ := fields2 (x := none) (y := Op.store 3 (.tmp 52) (.tmp 50)) (z := none) (by kernel_rfl) ho
  have e52 : a.eval (.tmp 52) = .pointer (some ⟨X.bx, 5, none⟩) := slotG hF ho h2 (j := 11) (d := 52) (by kernel_rfl) (by kernel_rfl) (by rw [ok.sz]; decide)
  have e50 : a.eval (.tmp 50) = .int .i64 (X.mn + (X.n : Int)) := slotG hF ho h2 (j := 9) (d := 50) (by kernel_rfl) (by kernel_rfl) (by rw [ok.sz]; decide)
  have hu := unl (hF.lt ho) h1
  refine st_actG (k := 0) EW3.chain EW3.nodup rfl hF hC hW h1 ho h2 (Or.inl hd) (EW3.inj (by kernel_rfl) hu) hg ?_
  intro hW0 K hK
  have hw0 : w = X.W := hW0
  obtain ⟨z0, f0⟩ := ok.cz
  have ff := ok.ff
  have hr : (execOp a.eval o).run Tryz.prog X.W = .ok .skip (X.W.setCell ⟨X.bx, 5, none⟩ (.int .i64 (X.mn + (X.n : Int)))) := by
    generalize a.eval = ρ at e52 e50 ⊢
    unfold execOp
    rw [hop]
    simp [e52, e50, f0, ff, go_sem]
  unfold Oper.wp
  rw [hw0, hr]
  exact hK undef _ rfl
theorem EW3.size : (opsOf 3 Tryz.f68).size = 13 := by kernel_rfl
theorem EW3.steps (X : EW3) (ok : EW3Ok X) {Q : Exit → Act → World → Prop} (i : Nat) (hi : i < (opsOf 3 Tryz.f68).size) : StepG (opsOf 3 Tryz.f68) EW3.acts EW3.av X.val0 X.Wd X.a0 Q i := by
  rw [EW3.size] at hi
  have hc : i = 0 ∨ i = 1 ∨ i = 2 ∨ i = 3 ∨ i = 4 ∨ i = 5 ∨ i = 6 ∨ i = 7 ∨ i = 8 ∨ i = 9 ∨ i = 10 ∨ i = 11 ∨ i = 12 := by omega
  rcases hc with rfl | rfl | rfl | rfl | rfl | rfl | rfl | rfl | rfl | rfl | rfl | rfl | rfl
  · exact EW3.s0 X ok
  · exact EW3.s1 X ok
  · exact EW3.s2 X ok
  · exact EW3.s3 X ok
  · exact EW3.s4 X ok
  · exact EW3.s5 X ok
  · exact EW3.s6 X ok
  · exact EW3.s7 X ok
  · exact EW3.s8 X ok
  · exact EW3.s9 X ok
  · exact EW3.s10 X ok
  · exact EW3.s11 X ok
  · exact EW3.s12 X ok
theorem EW3.puts (X : EW3) (γ : Nat → Value) (a0 : Act) : putsL (valG EW3.av X.val0 γ) (opsOf 3 Tryz.f68).toList a0 = ((((((((((((a0.put (some 41) (.pointer (some ⟨X.bx, 0, none⟩))).put (some 42) (.pointer (some ⟨X.bx, 0, none⟩))).put (some 43) (.pointer (some ⟨X.bx, 5, none⟩))).put (some 44) (.int .i64 X.mn)).put (some 45) (.pointer (some ⟨X.bx, 0, none⟩))).put (some 46) (.pointer (some ⟨X.bx, 0, none⟩))).put (some 47) (.pointer (some ⟨X.bx, 3, none⟩))).put (some 48) (.slice X.ua X.n X.uc)).put (some 49) (.int .i64 (X.n : Int))).put (some 50) (.int .i64 (X.mn + (X.n : Int)))).put (some 51) (.pointer (some ⟨X.bx, 0, none⟩))).put (some 52) (.pointer (some ⟨X.bx, 5, none⟩))) := by kernel_rfl
/-- The region, whatever order comes up. -/
theorem EW3.run (X : EW3) (ok : EW3Ok X) {Q : Exit → Act → World → Prop} (w : World) (h0 : X.Wd 0 (fun _ => undef) w.drew) (hend : ∀ (γ : Nat → Value) w', X.Wd 1 γ w' → Q .normal ((((((((((((X.a0.put (some 41) (.pointer (some ⟨X.bx, 0, none⟩))).put (some 42) (.pointer (some ⟨X.bx, 0, none⟩))).put (some 43) (.pointer (some ⟨X.bx, 5, none⟩))).put (some 44) (.int .i64 X.mn)).put (some 45) (.pointer (some ⟨X.bx, 0, none⟩))).put (some 46) (.pointer (some ⟨X.bx, 0, none⟩))).put (some 47) (.pointer (some ⟨X.bx, 3, none⟩))).put (some 48) (.slice X.ua X.n X.uc)).put (some 49) (.int .i64 (X.n : Int))).put (some 50) (.int .i64 (X.mn + (X.n : Int)))).put (some 51) (.pointer (some ⟨X.bx, 0, none⟩))).put (some 52) (.pointer (some ⟨X.bx, 5, none⟩))) w') : (Code.region 3 (opsOf 3 Tryz.f68) true).wp Tryz.prog Q X.a0 w := by
  refine reg_act (acts := EW3.acts) (av := EW3.av) (val0 := X.val0) (Wd := X.Wd) (by kernel_rfl) (by kernel_rfl) (by rw [EW3.size]; decide) (fun i hi => EW3.steps X ok i hi) _ h0 ?_
  intro γ w' h
  rw [EW3.puts]
  exact hend γ w' h
structure AWA where
  bx : Nat
  bq : Nat
  x : Int
  y : Int
  k : Int
  r : Int
  W : World
  a0 : Act
structure AWAOk (X : AWA) : Prop where
  c1 : X.W.cell? ⟨X.bx, 1, none⟩ = some (.int .i64 X.k)
  rm : X.k.tmod 2 = X.r
  hr : (X.r == 0) = false
  e0 : X.a0.eval (.tmp 0) = .pointer (some ⟨X.bx, 0, none⟩)
  e3 : X.a0.eval (.tmp 3) = .pointer (some ⟨X.bq, 0, none⟩)
  sz : X.a0.tmps.size = 44
def AWA.val0 (X : AWA) : Nat → Value
  | 4 => .pointer (some ⟨X.bx, 0, none⟩)
  | 5 => .pointer (some ⟨X.bx, 0, none⟩)
  | 6 => .pointer (some ⟨X.bx, 1, none⟩)
  | 7 => .int .i64 X.k
  | 8 => .int .i64 X.r
  | 9 => .bool false
  | 10 => .bool false
  | 11 => undef
  | 12 => undef
  | 13 => undef
  | 14 => undef
  | 15 => undef
  | 16 => undef
  | 17 => undef
  | 18 => undef
  | 19 => undef
  | 20 => undef
  | 21 => undef
  | 22 => undef
  | 23 => undef
  | 24 => undef
  | 25 => undef
  | 26 => undef
  | 27 => undef
  | 28 => undef
  | 29 => undef
  | 30 => undef
  | 31 => undef
  | 32 => undef
  | 33 => .bool false
  | _ => undef
def AWA.av : Nat → Option Nat
  | _ => none
def AWA.acts : List Nat := []
/-- The world, by how many of the acting ones have come up. -/
def AWA.Wd (X : AWA) : Nat → (Nat → Value) → World → Prop
  | _, _, w => Kp X.W w
theorem AWA.kp {X : AWA} {n : Nat} {γ : Nat → Value} {w : World} (h : X.Wd n γ w) : Kp X.W w := h
theorem AWA.keep {X : AWA} {n : Nat} {γ : Nat → Value} {w w' : World} (h : X.Wd n γ w) (k : Kp w w') : X.Wd n γ w' := Kp.trans h k
theorem AWA.chain : chainG (opsOf 1 Tryz.f87) AWA.acts = true := by kernel_rfl
theorem AWA.nodup : AWA.acts.Nodup := by decide
theorem AWA.inj {listed : Array Bool} {i k : Nat} (h : (List.range (opsOf 1 Tryz.f87).size).all (fun j => decide (j = i) || !(match dstOf (opsOf 1 Tryz.f87) j with | some d => decide (AWA.av d = some k) | none => false)) = true) (hu : listed.getD i false = false) : ∀ d, got (opsOf 1 Tryz.f87) listed d → AWA.av d ≠ some k := by
  rintro d ⟨j, h1, h2⟩ h3
  have hlt : j < (opsOf 1 Tryz.f87).size := by
    rcases Nat.lt_or_ge j (opsOf 1 Tryz.f87).size with h4 | h4
    · exact h4
    · unfold dstOf at h2; rw [Array.getElem?_eq_none h4] at h2; cases h2
  have h5 := List.all_eq_true.1 h j (List.mem_range.2 hlt)
  rw [h2] at h5
  simp only [h3, decide_true, Bool.not_true, Bool.or_false, decide_eq_true_eq] at h5
  subst h5
  rw [hu] at h1
  cases h1
theorem AWA.s0 (X : AWA) (ok : AWAOk X) {Q : Exit → Act → World → Prop} : StepG (opsOf 1 Tryz.f87) AWA.acts AWA.av X.val0 X.Wd X.a0 Q 0 := by
  intro γ listed a w o hF hC hW h1 ho h2
  obtain ⟨hd, hop, hg⟩ := fields2 (x := some 4) (y := Op.move (.tmp 0)) (z := none) (by kernel_rfl) ho
  have e0 : a.eval (.tmp 0) = .pointer (some ⟨X.bx, 0, none⟩) := (hF.eval0 (by kernel_rfl)).trans ok.e0
  refine st_pureG hF hC hW ho h2 (by decide) hd hg rfl ?_
  show _ = Result.ok (Next.value (.pointer (some ⟨X.bx, 0, none⟩))) w
  generalize a.eval = ρ at e0 ⊢
  unfold execOp
  rw [hop]
  simp [e0, go_sem]
theorem AWA.s1 (X : AWA) (ok : AWAOk X) {Q : Exit → Act → World → Prop} : StepG (opsOf 1 Tryz.f87) AWA.acts AWA.av X.val0 X.Wd X.a0 Q 1 := by
  intro γ listed a w o hF hC hW h1 ho h2
  obtain ⟨hd, hop, hg⟩ := fields2 (x := some 5) (y := Op.nilCheck (.tmp 4)) (z := none) (by kernel_rfl) ho
  have e4 : a.eval (.tmp 4) = .pointer (some ⟨X.bx, 0, none⟩) := slotG hF ho h2 (j := 0) (d := 4) (by kernel_rfl) (by kernel_rfl) (by rw [ok.sz]; decide)
  refine st_pureG hF hC hW ho h2 (by decide) hd hg rfl ?_
  show _ = Result.ok (Next.value (.pointer (some ⟨X.bx, 0, none⟩))) w
  generalize a.eval = ρ at e4 ⊢
  unfold execOp
  rw [hop]
  simp [e4, go_sem]
theorem AWA.s2 (X : AWA) (ok : AWAOk X) {Q : Exit → Act → World → Prop} : StepG (opsOf 1 Tryz.f87) AWA.acts AWA.av X.val0 X.Wd X.a0 Q 2 := by
  intro γ listed a w o hF hC hW h1 ho h2
  obtain ⟨hd, hop, hg⟩ := fields2 (x := some 6) (y := Op.fieldAddr 100 (.tmp 5) 1) (z := none) (by kernel_rfl) ho
  have e5 : a.eval (.tmp 5) = .pointer (some ⟨X.bx, 0, none⟩) := slotG hF ho h2 (j := 1) (d := 5) (by kernel_rfl) (by kernel_rfl) (by rw [ok.sz]; decide)
  refine st_pureG hF hC hW ho h2 (by decide) hd hg rfl ?_
  show _ = Result.ok (Next.value (.pointer (some ⟨X.bx, 1, none⟩))) w
  generalize a.eval = ρ at e5 ⊢
  unfold execOp
  rw [hop]
  simp [e5, go_sem]
theorem AWA.s3 (X : AWA) (ok : AWAOk X) {Q : Exit → Act → World → Prop} : StepG (opsOf 1 Tryz.f87) AWA.acts AWA.av X.val0 X.Wd X.a0 Q 3 := by
  intro γ listed a w o hF hC hW h1 ho h2
  obtain ⟨hd, hop, hg⟩ := fields2 (x := some 7) (y := Op.load 3 (.tmp 6)) (z := none) (by kernel_rfl) ho
  have e6 : a.eval (.tmp 6) = .pointer (some ⟨X.bx, 1, none⟩) := slotG hF ho h2 (j := 2) (d := 6) (by kernel_rfl) (by kernel_rfl) (by rw [ok.sz]; decide)
  have hc0 := rq_at (AWA.kp hW) ok.c1
  refine st_pureG hF hC hW ho h2 (by decide) hd hg rfl ?_
  show _ = Result.ok (Next.value (.int .i64 X.k)) w
  generalize a.eval = ρ at e6 ⊢
  unfold execOp
  rw [hop]
  simp [e6, hc0, go_sem]
theorem AWA.s4 (X : AWA) (ok : AWAOk X) {Q : Exit → Act → World → Prop} : StepG (opsOf 1 Tryz.f87) AWA.acts AWA.av X.val0 X.Wd X.a0 Q 4 := by
  intro γ listed a w o hF hC hW h1 ho h2
  obtain ⟨hd, hop, hg⟩ := fields2 (x := some 8) (y := Op.binOp .rem 3 (.tmp 7) (.const (.int .i64 2)) 3) (z := none) (by kernel_rfl) ho
  have e7 : a.eval (.tmp 7) = .int .i64 X.k := slotG hF ho h2 (j := 3) (d := 7) (by kernel_rfl) (by kernel_rfl) (by rw [ok.sz]; decide)
  have ec1 : a.eval (.const (.int .i64 2)) = .int .i64 2 := rfl
  refine st_pureG hF hC hW ho h2 (by decide) hd hg rfl ?_
  show _ = Result.ok (Next.value (.int .i64 X.r)) w
  generalize a.eval = ρ at e7 ec1 ⊢
  unfold execOp
  rw [hop]
  simp [e7, ec1, ok.rm, go_sem]
theorem AWA.s5 (X : AWA) (ok : AWAOk X) {Q : Exit → Act → World → Prop} : StepG (opsOf 1 Tryz.f87) AWA.acts AWA.av X.val0 X.Wd X.a0 Q 5 := by
  intro γ listed a w o hF hC hW h1 ho h2
  obtain ⟨hd, hop, hg⟩ := fields2 (x := some 9) (y := Op.binOp .eql 3 (.tmp 8) (.const (.int .i64 0)) 3) (z := none) (by kernel_rfl) ho
  have e8 : a.eval (.tmp 8) = .int .i64 X.r := slotG hF ho h2 (j := 4) (d := 8) (by kernel_rfl) (by kernel_rfl) (by rw [ok.sz]; decide)
  have ec1 : a.eval (.const (.int .i64 0)) = .int .i64 0 := rfl
  refine st_pureG hF hC hW ho h2 (by decide) hd hg rfl ?_
  show _ = Result.ok (Next.value (.bool false)) w
  generalize a.eval = ρ at e8 ec1 ⊢
  unfold execOp
  rw [hop]
  simp [e8, ec1, ok.hr, go_sem]
theorem AWA.s6 (X : AWA) (ok : AWAOk X) {Q : Exit → Act → World → Prop} : StepG (opsOf 1 Tryz.f87) AWA.acts AWA.av X.val0 X.Wd X.a0 Q 6 := by
  intro γ listed a w o hF hC hW h1 ho h2
  obtain ⟨hd, hop, hg⟩ := fields2 (x := some 10) (y := Op.move (.tmp 9)) (z := none) (by kernel_rfl) ho
  have e9 : a.eval (.tmp 9) = .bool false := slotG hF ho h2 (j := 5) (d := 9) (by kernel_rfl) (by kernel_rfl) (by rw [ok.sz]; decide)
  refine st_pureG hF hC hW ho h2 (by decide) hd hg rfl ?_
  show _ = Result.ok (Next.value (.bool false)) w
  generalize a.eval = ρ at e9 ⊢
  unfold execOp
  rw [hop]
  simp [e9, go_sem]
theorem AWA.s7 (X : AWA) (ok : AWAOk X) {Q : Exit → Act → World → Prop} : StepG (opsOf 1 Tryz.f87) AWA.acts AWA.av X.val0 X.Wd X.a0 Q 7 := by
  intro γ listed a w o hF hC hW h1 ho h2
  obtain ⟨hd, hop, hg⟩ := fields2 (x := some 11) (y := Op.move (.tmp 0)) (z := some (6, true)) (by kernel_rfl) ho
  have eg : a.eval (.tmp 10) = .bool false := slotG hF ho h2 (j := 6) (d := 10) (by kernel_rfl) (by kernel_rfl) (by rw [ok.sz]; decide)
  have hw := wanted_of (ops := (opsOf 1 Tryz.f87)) hg (yl_of (by kernel_rfl : dstOf (opsOf 1 Tryz.f87) 6 = some 10) (by rw [hF.tsize, ok.sz]; decide) eg)
  replace hw : Region.wanted o (yielded (opsOf 1 Tryz.f87) a.tmps) = false := hw
  exact st_skipW hF hC hW ho h2 (by decide) hd hw rfl rfl
theorem AWA.s8 (X : AWA) (ok : AWAOk X) {Q : Exit → Act → World → Prop} : StepG (opsOf 1 Tryz.f87) AWA.acts AWA.av X.val0 X.Wd X.a0 Q 8 := by
  intro γ listed a w o hF hC hW h1 ho h2
  obtain ⟨hd, hop, hg⟩ := fields2 (x := some 12) (y := Op.nilCheck (.tmp 11)) (z := some (6, true)) (by kernel_rfl) ho
  have eg : a.eval (.tmp 10) = .bool false := slotG hF ho h2 (j := 6) (d := 10) (by kernel_rfl) (by kernel_rfl) (by rw [ok.sz]; decide)
  have hw := wanted_of (ops := (opsOf 1 Tryz.f87)) hg (yl_of (by kernel_rfl : dstOf (opsOf 1 Tryz.f87) 6 = some 10) (by rw [hF.tsize, ok.sz]; decide) eg)
  replace hw : Region.wanted o (yielded (opsOf 1 Tryz.f87) a.tmps) = false := hw
  exact st_skipW hF hC hW ho h2 (by decide) hd hw rfl rfl
theorem AWA.s9 (X : AWA) (ok : AWAOk X) {Q : Exit → Act → World → Prop} : StepG (opsOf 1 Tryz.f87) AWA.acts AWA.av X.val0 X.Wd X.a0 Q 9 := by
  intro γ listed a w o hF hC hW h1 ho h2
  obtain ⟨hd, hop, hg⟩ := fields2 (x := some 13) (y := Op.fieldAddr 100 (.tmp 12) 3) (z := some (6, true)) (by kernel_rfl) ho
  have eg : a.eval (.tmp 10) = .bool false := slotG hF ho h2 (j := 6) (d := 10) (by kernel_rfl) (by kernel_rfl) (by rw [ok.sz]; decide)
  have hw := wanted_of (ops := (opsOf 1 Tryz.f87)) hg (yl_of (by kernel_rfl : dstOf (opsOf 1 Tryz.f87) 6 = some 10) (by rw [hF.tsize, ok.sz]; decide) eg)
  replace hw : Region.wanted o (yielded (opsOf 1 Tryz.f87) a.tmps) = false := hw
  exact st_skipW hF hC hW ho h2 (by decide) hd hw rfl rfl
theorem AWA.s10 (X : AWA) (ok : AWAOk X) {Q : Exit → Act → World → Prop} : StepG (opsOf 1 Tryz.f87) AWA.acts AWA.av X.val0 X.Wd X.a0 Q 10 := by
  intro γ listed a w o hF hC hW h1 ho h2
  obtain ⟨hd, hop, hg⟩ := fields2 (x := some 14) (y := Op.load 23 (.tmp 13)) (z := some (6, true)) (by kernel_rfl) ho
  have eg : a.eval (.tmp 10) = .bool false := slotG hF ho h2 (j := 6) (d := 10) (by kernel_rfl) (by kernel_rfl) (by rw [ok.sz]; decide)
  have hw := wanted_of (ops := (opsOf 1 Tryz.f87)) hg (yl_of (by kernel_rfl : dstOf (opsOf 1 Tryz.f87) 6 = some 10) (by rw [hF.tsize, ok.sz]; decide) eg)
  replace hw : Region.wanted o (yielded (opsOf 1 Tryz.f87) a.tmps) = false := hw
  exact st_skipW hF hC hW ho h2 (by decide) hd hw rfl rfl
theorem AWA.s11 (X : AWA) (ok : AWAOk X) {Q : Exit → Act → World → Prop} : StepG (opsOf 1 Tryz.f87) AWA.acts AWA.av X.val0 X.Wd X.a0 Q 11 := by
  intro γ listed a w o hF hC hW h1 ho h2
  obtain ⟨hd, hop, hg⟩ := fields2 (x := some 15) (y := Op.call { callee := .builtin .len, args := #[(.tmp 14)], argTypes := #[23] }) (z := some (6, true)) (by kernel_rfl) ho
  have eg : a.eval (.tmp 10) = .bool false := slotG hF ho h2 (j := 6) (d := 10) (by kernel_rfl) (by kernel_rfl) (by rw [ok.sz]; decide)
  have hw := wanted_of (ops := (opsOf 1 Tryz.f87)) hg (yl_of (by kernel_rfl : dstOf (opsOf 1 Tryz.f87) 6 = some 10) (by rw [hF.tsize, ok.sz]; decide) eg)
  replace hw : Region.wanted o (yielded (opsOf 1 Tryz.f87) a.tmps) = false := hw
  exact st_skipW hF hC hW ho h2 (by decide) hd hw rfl rfl
theorem AWA.s12 (X : AWA) (ok : AWAOk X) {Q : Exit → Act → World → Prop} : StepG (opsOf 1 Tryz.f87) AWA.acts AWA.av X.val0 X.Wd X.a0 Q 12 := by
  intro γ listed a w o hF hC hW h1 ho h2
  obtain ⟨hd, hop, hg⟩ := fields2 (x := some 16) (y := Op.binOp .eql 3 (.tmp 15) (.const (.int .i64 0)) 3) (z := some (6, true)) (by kernel_rfl) ho
  have eg : a.eval (.tmp 10) = .bool false := slotG hF ho h2 (j := 6) (d := 10) (by kernel_rfl) (by kernel_rfl) (by rw [ok.sz]; decide)
  have hw := wanted_of (ops := (opsOf 1 Tryz.f87)) hg (yl_of (by kernel_rfl : dstOf (opsOf 1 Tryz.f87) 6 = some 10) (by rw [hF.tsize, ok.sz]; decide) eg)
  replace hw : Region.wanted o (yielded (opsOf 1 Tryz.f87) a.tmps) = false := hw
  exact st_skipW hF hC hW ho h2 (by decide) hd hw rfl rfl
theorem AWA.s13 (X : AWA) (ok : AWAOk X) {Q : Exit → Act → World → Prop} : StepG (opsOf 1 Tryz.f87) AWA.acts AWA.av X.val0 X.Wd X.a0 Q 13 := by
  intro γ listed a w o hF hC hW h1 ho h2
  obtain ⟨hd, hop, hg⟩ := fields2 (x := some 17) (y := Op.move (.tmp 16)) (z := some (6, true)) (by kernel_rfl) ho
  have eg : a.eval (.tmp 10) = .bool false := slotG hF ho h2 (j := 6) (d := 10) (by kernel_rfl) (by kernel_rfl) (by rw [ok.sz]; decide)
  have hw := wanted_of (ops := (opsOf 1 Tryz.f87)) hg (yl_of (by kernel_rfl : dstOf (opsOf 1 Tryz.f87) 6 = some 10) (by rw [hF.tsize, ok.sz]; decide) eg)
  replace hw : Region.wanted o (yielded (opsOf 1 Tryz.f87) a.tmps) = false := hw
  exact st_skipW hF hC hW ho h2 (by decide) hd hw rfl rfl
theorem AWA.s14 (X : AWA) (ok : AWAOk X) {Q : Exit → Act → World → Prop} : StepG (opsOf 1 Tryz.f87) AWA.acts AWA.av X.val0 X.Wd X.a0 Q 14 := by
  intro γ listed a w o hF hC hW h1 ho h2
  obtain ⟨hd, hop, hg⟩ := fields2 (x := some 18) (y := Op.move (.tmp 0)) (z := some (13, false)) (by kernel_rfl) ho
  have eg : a.eval (.tmp 17) = undef := slotG hF ho h2 (j := 13) (d := 17) (by kernel_rfl) (by kernel_rfl) (by rw [ok.sz]; decide)
  have hw := wanted_un (ops := (opsOf 1 Tryz.f87)) hg (by kernel_rfl : dstOf (opsOf 1 Tryz.f87) 13 = some 17) (by rw [hF.tsize, ok.sz]; decide) eg
  exact st_skipW hF hC hW ho h2 (by decide) hd hw rfl rfl
theorem AWA.s15 (X : AWA) (ok : AWAOk X) {Q : Exit → Act → World → Prop} : StepG (opsOf 1 Tryz.f87) AWA.acts AWA.av X.val0 X.Wd X.a0 Q 15 := by
  intro γ listed a w o hF hC hW h1 ho h2
  obtain ⟨hd, hop, hg⟩ := fields2 (x := some 19) (y := Op.nilCheck (.tmp 18)) (z := some (13, false)) (by kernel_rfl) ho
  have eg : a.eval (.tmp 17) = undef := slotG hF ho h2 (j := 13) (d := 17) (by kernel_rfl) (by kernel_rfl) (by rw [ok.sz]; decide)
  have hw := wanted_un (ops := (opsOf 1 Tryz.f87)) hg (by kernel_rfl : dstOf (opsOf 1 Tryz.f87) 13 = some 17) (by rw [hF.tsize, ok.sz]; decide) eg
  exact st_skipW hF hC hW ho h2 (by decide) hd hw rfl rfl
theorem AWA.s16 (X : AWA) (ok : AWAOk X) {Q : Exit → Act → World → Prop} : StepG (opsOf 1 Tryz.f87) AWA.acts AWA.av X.val0 X.Wd X.a0 Q 16 := by
  intro γ listed a w o hF hC hW h1 ho h2
  obtain ⟨hd, hop, hg⟩ := fields2 (x := some 20) (y := Op.fieldAddr 100 (.tmp 19) 3) (z := some (13, false)) (by kernel_rfl) ho
  have eg : a.eval (.tmp 17) = undef := slotG hF ho h2 (j := 13) (d := 17) (by kernel_rfl) (by kernel_rfl) (by rw [ok.sz]; decide)
  have hw := wanted_un (ops := (opsOf 1 Tryz.f87)) hg (by kernel_rfl : dstOf (opsOf 1 Tryz.f87) 13 = some 17) (by rw [hF.tsize, ok.sz]; decide) eg
  exact st_skipW hF hC hW ho h2 (by decide) hd hw rfl rfl
theorem AWA.s17 (X : AWA) (ok : AWAOk X) {Q : Exit → Act → World → Prop} : StepG (opsOf 1 Tryz.f87) AWA.acts AWA.av X.val0 X.Wd X.a0 Q 17 := by
  intro γ listed a w o hF hC hW h1 ho h2
  obtain ⟨hd, hop, hg⟩ := fields2 (x := some 21) (y := Op.load 23 (.tmp 20)) (z := some (13, false)) (by kernel_rfl) ho
  have eg : a.eval (.tmp 17) = undef := slotG hF ho h2 (j := 13) (d := 17) (by kernel_rfl) (by kernel_rfl) (by rw [ok.sz]; decide)
  have hw := wanted_un (ops := (opsOf 1 Tryz.f87)) hg (by kernel_rfl : dstOf (opsOf 1 Tryz.f87) 13 = some 17) (by rw [hF.tsize, ok.sz]; decide) eg
  exact st_skipW hF hC hW ho h2 (by decide) hd hw rfl rfl
theorem AWA.s18 (X : AWA) (ok : AWAOk X) {Q : Exit → Act → World → Prop} : StepG (opsOf 1 Tryz.f87) AWA.acts AWA.av X.val0 X.Wd X.a0 Q 18 := by
  intro γ listed a w o hF hC hW h1 ho h2
  obtain ⟨hd, hop, hg⟩ := fields2 (x := some 22) (y := Op.move (.tmp 0)) (z := some (13, false)) (by kernel_rfl) ho
  have eg : a.eval (.tmp 17) = undef := slotG hF ho h2 (j := 13) (d := 17) (by kernel_rfl) (by kernel_rfl) (by rw [ok.sz]; decide)
  have hw := wanted_un (ops := (opsOf 1 Tryz.f87)) hg (by kernel_rfl : dstOf (opsOf 1 Tryz.f87) 13 = some 17) (by rw [hF.tsize, ok.sz]; decide) eg
  exact st_skipW hF hC hW ho h2 (by decide) hd hw rfl rfl
theorem AWA.s19 (X : AWA) (ok : AWAOk X) {Q : Exit → Act → World → Prop} : StepG (opsOf 1 Tryz.f87) AWA.acts AWA.av X.val0 X.Wd X.a0 Q 19 := by
  intro γ listed a w o hF hC hW h1 ho h2
  obtain ⟨hd, hop, hg⟩ := fields2 (x := some 23) (y := Op.nilCheck (.tmp 22)) (z := some (13, false)) (by kernel_rfl) ho
  have eg : a.eval (.tmp 17) = undef := slotG hF ho h2 (j := 13) (d := 17) (by kernel_rfl) (by kernel_rfl) (by rw [ok.sz]; decide)
  have hw := wanted_un (ops := (opsOf 1 Tryz.f87)) hg (by kernel_rfl : dstOf (opsOf 1 Tryz.f87) 13 = some 17) (by rw [hF.tsize, ok.sz]; decide) eg
  exact st_skipW hF hC hW ho h2 (by decide) hd hw rfl rfl
theorem AWA.s20 (X : AWA) (ok : AWAOk X) {Q : Exit → Act → World → Prop} : StepG (opsOf 1 Tryz.f87) AWA.acts AWA.av X.val0 X.Wd X.a0 Q 20 := by
  intro γ listed a w o hF hC hW h1 ho h2
  obtain ⟨hd, hop, hg⟩ := fields2 (x := some 24) (y := Op.fieldAddr 100 (.tmp 23) 3) (z := some (13, false)) (by kernel_rfl) ho
  have eg : a.eval (.tmp 17) = undef := slotG hF ho h2 (j := 13) (d := 17) (by kernel_rfl) (by kernel_rfl) (by rw [ok.sz]; decide)
  have hw := wanted_un (ops := (opsOf 1 Tryz.f87)) hg (by kernel_rfl : dstOf (opsOf 1 Tryz.f87) 13 = some 17) (by rw [hF.tsize, ok.sz]; decide) eg
  exact st_skipW hF hC hW ho h2 (by decide) hd hw rfl rfl
theorem AWA.s21 (X : AWA) (ok : AWAOk X) {Q : Exit → Act → World → Prop} : StepG (opsOf 1 Tryz.f87) AWA.acts AWA.av X.val0 X.Wd X.a0 Q 21 := by
  intro γ listed a w o hF hC hW h1 ho h2
  obtain ⟨hd, hop, hg⟩ := fields2 (x := some 25) (y := Op.load 23 (.tmp 24)) (z := some (13, false)) (by kernel_rfl) ho
  have eg : a.eval (.tmp 17) = undef := slotG hF ho h2 (j := 13) (d := 17) (by kernel_rfl) (by kernel_rfl) (by rw [ok.sz]; decide)
  have hw := wanted_un (ops := (opsOf 1 Tryz.f87)) hg (by kernel_rfl : dstOf (opsOf 1 Tryz.f87) 13 = some 17) (by rw [hF.tsize, ok.sz]; decide) eg
  exact st_skipW hF hC hW ho h2 (by decide) hd hw rfl rfl
theorem AWA.s22 (X : AWA) (ok : AWAOk X) {Q : Exit → Act → World → Prop} : StepG (opsOf 1 Tryz.f87) AWA.acts AWA.av X.val0 X.Wd X.a0 Q 22 := by
  intro γ listed a w o hF hC hW h1 ho h2
  obtain ⟨hd, hop, hg⟩ := fields2 (x := some 26) (y := Op.call { callee := .builtin .len, args := #[(.tmp 25)], argTypes := #[23] }) (z := some (13, false)) (by kernel_rfl) ho
  have eg : a.eval (.tmp 17) = undef := slotG hF ho h2 (j := 13) (d := 17) (by kernel_rfl) (by kernel_rfl) (by rw [ok.sz]; decide)
  have hw := wanted_un (ops := (opsOf 1 Tryz.f87)) hg (by kernel_rfl : dstOf (opsOf 1 Tryz.f87) 13 = some 17) (by rw [hF.tsize, ok.sz]; decide) eg
  exact st_skipW hF hC hW ho h2 (by decide) hd hw rfl rfl
theorem AWA.s23 (X : AWA) (ok : AWAOk X) {Q : Exit → Act → World → Prop} : StepG (opsOf 1 Tryz.f87) AWA.acts AWA.av X.val0 X.Wd X.a0 Q 23 := by
  intro γ listed a w o hF hC hW h1 ho h2
  obtain ⟨hd, hop, hg⟩ := fields2 (x := some 27) (y := Op.binOp .sub 3 (.tmp 26) (.const (.int .i64 1)) 3) (z := some (13, false)) (by kernel_rfl) ho
  have eg : a.eval (.tmp 17) = undef := slotG hF ho h2 (j := 13) (d := 17) (by kernel_rfl) (by kernel_rfl) (by rw [ok.sz]; decide)
  have hw := wanted_un (ops := (opsOf 1 Tryz.f87)) hg (by kernel_rfl : dstOf (opsOf 1 Tryz.f87) 13 = some 17) (by rw [hF.tsize, ok.sz]; decide) eg
  exact st_skipW hF hC hW ho h2 (by decide) hd hw rfl rfl
theorem AWA.s24 (X : AWA) (ok : AWAOk X) {Q : Exit → Act → World → Prop} : StepG (opsOf 1 Tryz.f87) AWA.acts AWA.av X.val0 X.Wd X.a0 Q 24 := by
  intro γ listed a w o hF hC hW h1 ho h2
  obtain ⟨hd, hop, hg⟩ := fields2 (x := some 28) (y := Op.indexAddr 23 (.tmp 21) (.tmp 27)) (z := some (13, false)) (by kernel_rfl) ho
  have eg : a.eval (.tmp 17) = undef := slotG hF ho h2 (j := 13) (d := 17) (by kernel_rfl) (by kernel_rfl) (by rw [ok.sz]; decide)
  have hw := wanted_un (ops := (opsOf 1 Tryz.f87)) hg (by kernel_rfl : dstOf (opsOf 1 Tryz.f87) 13 = some 17) (by rw [hF.tsize, ok.sz]; decide) eg
  exact st_skipW hF hC hW ho h2 (by decide) hd hw rfl rfl
theorem AWA.s25 (X : AWA) (ok : AWAOk X) {Q : Exit → Act → World → Prop} : StepG (opsOf 1 Tryz.f87) AWA.acts AWA.av X.val0 X.Wd X.a0 Q 25 := by
  intro γ listed a w o hF hC hW h1 ho h2
  obtain ⟨hd, hop, hg⟩ := fields2 (x := some 29) (y := Op.load 34 (.tmp 28)) (z := some (13, false)) (by kernel_rfl) ho
  have eg : a.eval (.tmp 17) = undef := slotG hF ho h2 (j := 13) (d := 17) (by kernel_rfl) (by kernel_rfl) (by rw [ok.sz]; decide)
  have hw := wanted_un (ops := (opsOf 1 Tryz.f87)) hg (by kernel_rfl : dstOf (opsOf 1 Tryz.f87) 13 = some 17) (by rw [hF.tsize, ok.sz]; decide) eg
  exact st_skipW hF hC hW ho h2 (by decide) hd hw rfl rfl
theorem AWA.s26 (X : AWA) (ok : AWAOk X) {Q : Exit → Act → World → Prop} : StepG (opsOf 1 Tryz.f87) AWA.acts AWA.av X.val0 X.Wd X.a0 Q 26 := by
  intro γ listed a w o hF hC hW h1 ho h2
  obtain ⟨hd, hop, hg⟩ := fields2 (x := some 30) (y := Op.load 34 (.tmp 3)) (z := some (13, false)) (by kernel_rfl) ho
  have eg : a.eval (.tmp 17) = undef := slotG hF ho h2 (j := 13) (d := 17) (by kernel_rfl) (by kernel_rfl) (by rw [ok.sz]; decide)
  have hw := wanted_un (ops := (opsOf 1 Tryz.f87)) hg (by kernel_rfl : dstOf (opsOf 1 Tryz.f87) 13 = some 17) (by rw [hF.tsize, ok.sz]; decide) eg
  exact st_skipW hF hC hW ho h2 (by decide) hd hw rfl rfl
theorem AWA.s27 (X : AWA) (ok : AWAOk X) {Q : Exit → Act → World → Prop} : StepG (opsOf 1 Tryz.f87) AWA.acts AWA.av X.val0 X.Wd X.a0 Q 27 := by
  intro γ listed a w o hF hC hW h1 ho h2
  obtain ⟨hd, hop, hg⟩ := fields2 (x := some 31) (y := Op.binOp .neq 34 (.tmp 29) (.tmp 30) 34) (z := some (13, false)) (by kernel_rfl) ho
  have eg : a.eval (.tmp 17) = undef := slotG hF ho h2 (j := 13) (d := 17) (by kernel_rfl) (by kernel_rfl) (by rw [ok.sz]; decide)
  have hw := wanted_un (ops := (opsOf 1 Tryz.f87)) hg (by kernel_rfl : dstOf (opsOf 1 Tryz.f87) 13 = some 17) (by rw [hF.tsize, ok.sz]; decide) eg
  exact st_skipW hF hC hW ho h2 (by decide) hd hw rfl rfl
theorem AWA.s28 (X : AWA) (ok : AWAOk X) {Q : Exit → Act → World → Prop} : StepG (opsOf 1 Tryz.f87) AWA.acts AWA.av X.val0 X.Wd X.a0 Q 28 := by
  intro γ listed a w o hF hC hW h1 ho h2
  obtain ⟨hd, hop, hg⟩ := fields2 (x := some 32) (y := Op.pick (.tmp 17) (.const (.bool true)) (.tmp 31)) (z := some (6, true)) (by kernel_rfl) ho
  have eg : a.eval (.tmp 10) = .bool false := slotG hF ho h2 (j := 6) (d := 10) (by kernel_rfl) (by kernel_rfl) (by rw [ok.sz]; decide)
  have hw := wanted_of (ops := (opsOf 1 Tryz.f87)) hg (yl_of (by kernel_rfl : dstOf (opsOf 1 Tryz.f87) 6 = some 10) (by rw [hF.tsize, ok.sz]; decide) eg)
  replace hw : Region.wanted o (yielded (opsOf 1 Tryz.f87) a.tmps) = false := hw
  exact st_skipW hF hC hW ho h2 (by decide) hd hw rfl rfl
theorem AWA.s29 (X : AWA) (ok : AWAOk X) {Q : Exit → Act → World → Prop} : StepG (opsOf 1 Tryz.f87) AWA.acts AWA.av X.val0 X.Wd X.a0 Q 29 := by
  intro γ listed a w o hF hC hW h1 ho h2
  obtain ⟨hd, hop, hg⟩ := fields2 (x := some 33) (y := Op.pick (.tmp 10) (.tmp 32) (.const (.bool false))) (z := none) (by kernel_rfl) ho
  have e10 : a.eval (.tmp 10) = .bool false := slotG hF ho h2 (j := 6) (d := 10) (by kernel_rfl) (by kernel_rfl) (by rw [ok.sz]; decide)
  have e32 : a.eval (.tmp 32) = undef := slotG hF ho h2 (j := 28) (d := 32) (by kernel_rfl) (by kernel_rfl) (by rw [ok.sz]; decide)
  have ec2 : a.eval (.const (.bool false)) = .bool false := rfl
  refine st_pureG hF hC hW ho h2 (by decide) hd hg rfl ?_
  show _ = Result.ok (Next.value (.bool false)) w
  generalize a.eval = ρ at e10 e32 ec2 ⊢
  unfold execOp
  rw [hop]
  simp [e10, e32, ec2, go_sem]
theorem AWA.size : (opsOf 1 Tryz.f87).size = 30 := by kernel_rfl
theorem AWA.steps (X : AWA) (ok : AWAOk X) {Q : Exit → Act → World → Prop} (i : Nat) (hi : i < (opsOf 1 Tryz.f87).size) : StepG (opsOf 1 Tryz.f87) AWA.acts AWA.av X.val0 X.Wd X.a0 Q i := by
  rw [AWA.size] at hi
  have hc : i = 0 ∨ i = 1 ∨ i = 2 ∨ i = 3 ∨ i = 4 ∨ i = 5 ∨ i = 6 ∨ i = 7 ∨ i = 8 ∨ i = 9 ∨ i = 10 ∨ i = 11 ∨ i = 12 ∨ i = 13 ∨ i = 14 ∨ i = 15 ∨ i = 16 ∨ i = 17 ∨ i = 18 ∨ i = 19 ∨ i = 20 ∨ i = 21 ∨ i = 22 ∨ i = 23 ∨ i = 24 ∨ i = 25 ∨ i = 26 ∨ i = 27 ∨ i = 28 ∨ i = 29 := by omega
  rcases hc with rfl | rfl | rfl | rfl | rfl | rfl | rfl | rfl | rfl | rfl | rfl | rfl | rfl | rfl | rfl | rfl | rfl | rfl | rfl | rfl | rfl | rfl | rfl | rfl | rfl | rfl | rfl | rfl | rfl | rfl
  · exact AWA.s0 X ok
  · exact AWA.s1 X ok
  · exact AWA.s2 X ok
  · exact AWA.s3 X ok
  · exact AWA.s4 X ok
  · exact AWA.s5 X ok
  · exact AWA.s6 X ok
  · exact AWA.s7 X ok
  · exact AWA.s8 X ok
  · exact AWA.s9 X ok
  · exact AWA.s10 X ok
  · exact AWA.s11 X ok
  · exact AWA.s12 X ok
  · exact AWA.s13 X ok
  · exact AWA.s14 X ok
  · exact AWA.s15 X ok
  · exact AWA.s16 X ok
  · exact AWA.s17 X ok
  · exact AWA.s18 X ok
  · exact AWA.s19 X ok
  · exact AWA.s20 X ok
  · exact AWA.s21 X ok
  · exact AWA.s22 X ok
  · exact AWA.s23 X ok
  · exact AWA.s24 X ok
  · exact AWA.s25 X ok
  · exact AWA.s26 X ok
  · exact AWA.s27 X ok
  · exact AWA.s28 X ok
  · exact AWA.s29 X ok
theorem AWA.puts (X : AWA) (γ : Nat → Value) (a0 : Act) : putsL (valG AWA.av X.val0 γ) (opsOf 1 Tryz.f87).toList a0 = ((((((((((((((((((((((((((((((a0.put (some 4) (.pointer (some ⟨X.bx, 0, none⟩))).put (some 5) (.pointer (some ⟨X.bx, 0, none⟩))).put (some 6) (.pointer (some ⟨X.bx, 1, none⟩))).put (some 7) (.int .i64 X.k)).put (some 8) (.int .i64 X.r)).put (some 9) (.bool false)).put (some 10) (.bool false)).put (some 11) (undef)).put (some 12) (undef)).put (some 13) (undef)).put (some 14) (undef)).put (some 15) (undef)).put (some 16) (undef)).put (some 17) (undef)).put (some 18) (undef)).put (some 19) (undef)).put (some 20) (undef)).put (some 21) (undef)).put (some 22) (undef)).put (some 23) (undef)).put (some 24) (undef)).put (some 25) (undef)).put (some 26) (undef)).put (some 27) (undef)).put (some 28) (undef)).put (some 29) (undef)).put (some 30) (undef)).put (some 31) (undef)).put (some 32) (undef)).put (some 33) (.bool false)) := by kernel_rfl
/-- The region, whatever order comes up. -/
theorem AWA.run (X : AWA) (ok : AWAOk X) {Q : Exit → Act → World → Prop} (w : World) (h0 : X.Wd 0 (fun _ => undef) w.drew) (hend : ∀ (γ : Nat → Value) w', X.Wd 0 γ w' → Q .normal ((((((((((((((((((((((((((((((X.a0.put (some 4) (.pointer (some ⟨X.bx, 0, none⟩))).put (some 5) (.pointer (some ⟨X.bx, 0, none⟩))).put (some 6) (.pointer (some ⟨X.bx, 1, none⟩))).put (some 7) (.int .i64 X.k)).put (some 8) (.int .i64 X.r)).put (some 9) (.bool false)).put (some 10) (.bool false)).put (some 11) (undef)).put (some 12) (undef)).put (some 13) (undef)).put (some 14) (undef)).put (some 15) (undef)).put (some 16) (undef)).put (some 17) (undef)).put (some 18) (undef)).put (some 19) (undef)).put (some 20) (undef)).put (some 21) (undef)).put (some 22) (undef)).put (some 23) (undef)).put (some 24) (undef)).put (some 25) (undef)).put (some 26) (undef)).put (some 27) (undef)).put (some 28) (undef)).put (some 29) (undef)).put (some 30) (undef)).put (some 31) (undef)).put (some 32) (undef)).put (some 33) (.bool false)) w') : (Code.region 1 (opsOf 1 Tryz.f87) true).wp Tryz.prog Q X.a0 w := by
  refine reg_act (acts := AWA.acts) (av := AWA.av) (val0 := X.val0) (Wd := X.Wd) (by kernel_rfl) (by kernel_rfl) (by rw [AWA.size]; decide) (fun i hi => AWA.steps X ok i hi) _ h0 ?_
  intro γ w' h
  rw [AWA.puts]
  exact hend γ w' h
structure AWB where
  bx : Nat
  bq : Nat
  x : Int
  y : Int
  k : Int
  r : Int
  ua : Option Addr
  uc : Nat
  W : World
  a0 : Act
structure AWBOk (X : AWB) : Prop where
  c1 : X.W.cell? ⟨X.bx, 1, none⟩ = some (.int .i64 X.k)
  c3 : X.W.cell? ⟨X.bx, 3, none⟩ = some (.slice X.ua 0 X.uc)
  rm : X.k.tmod 2 = X.r
  hr : (X.r == 0) = true
  e0 : X.a0.eval (.tmp 0) = .pointer (some ⟨X.bx, 0, none⟩)
  e3 : X.a0.eval (.tmp 3) = .pointer (some ⟨X.bq, 0, none⟩)
  sz : X.a0.tmps.size = 44
def AWB.val0 (X : AWB) : Nat → Value
  | 4 => .pointer (some ⟨X.bx, 0, none⟩)
  | 5 => .pointer (some ⟨X.bx, 0, none⟩)
  | 6 => .pointer (some ⟨X.bx, 1, none⟩)
  | 7 => .int .i64 X.k
  | 8 => .int .i64 X.r
  | 9 => .bool true
  | 10 => .bool true
  | 11 => .pointer (some ⟨X.bx, 0, none⟩)
  | 12 => .pointer (some ⟨X.bx, 0, none⟩)
  | 13 => .pointer (some ⟨X.bx, 3, none⟩)
  | 14 => .slice X.ua 0 X.uc
  | 15 => .int .i64 0
  | 16 => .bool true
  | 17 => .bool true
  | 18 => undef
  | 19 => undef
  | 20 => undef
  | 21 => undef
  | 22 => undef
  | 23 => undef
  | 24 => undef
  | 25 => undef
  | 26 => undef
  | 27 => undef
  | 28 => undef
  | 29 => undef
  | 30 => undef
  | 31 => undef
  | 32 => .bool true
  | 33 => .bool true
  | _ => undef
def AWB.av : Nat → Option Nat
  | _ => none
def AWB.acts : List Nat := []
/-- The world, by how many of the acting ones have come up. -/
def AWB.Wd (X : AWB) : Nat → (Nat → Value) → World → Prop
  | _, _, w => Kp X.W w
theorem AWB.kp {X : AWB} {n : Nat} {γ : Nat → Value} {w : World} (h : X.Wd n γ w) : Kp X.W w := h
theorem AWB.keep {X : AWB} {n : Nat} {γ : Nat → Value} {w w' : World} (h : X.Wd n γ w) (k : Kp w w') : X.Wd n γ w' := Kp.trans h k
theorem AWB.chain : chainG (opsOf 1 Tryz.f87) AWB.acts = true := by kernel_rfl
theorem AWB.nodup : AWB.acts.Nodup := by decide
theorem AWB.inj {listed : Array Bool} {i k : Nat} (h : (List.range (opsOf 1 Tryz.f87).size).all (fun j => decide (j = i) || !(match dstOf (opsOf 1 Tryz.f87) j with | some d => decide (AWB.av d = some k) | none => false)) = true) (hu : listed.getD i false = false) : ∀ d, got (opsOf 1 Tryz.f87) listed d → AWB.av d ≠ some k := by
  rintro d ⟨j, h1, h2⟩ h3
  have hlt : j < (opsOf 1 Tryz.f87).size := by
    rcases Nat.lt_or_ge j (opsOf 1 Tryz.f87).size with h4 | h4
    · exact h4
    · unfold dstOf at h2; rw [Array.getElem?_eq_none h4] at h2; cases h2
  have h5 := List.all_eq_true.1 h j (List.mem_range.2 hlt)
  rw [h2] at h5
  simp only [h3, decide_true, Bool.not_true, Bool.or_false, decide_eq_true_eq] at h5
  subst h5
  rw [hu] at h1
  cases h1
theorem AWB.s0 (X : AWB) (ok : AWBOk X) {Q : Exit → Act → World → Prop} : StepG (opsOf 1 Tryz.f87) AWB.acts AWB.av X.val0 X.Wd X.a0 Q 0 := by
  intro γ listed a w o hF hC hW h1 ho h2
  obtain ⟨hd, hop, hg⟩ := fields2 (x := some 4) (y := Op.move (.tmp 0)) (z := none) (by kernel_rfl) ho
  have e0 : a.eval (.tmp 0) = .pointer (some ⟨X.bx, 0, none⟩) := (hF.eval0 (by kernel_rfl)).trans ok.e0
  refine st_pureG hF hC hW ho h2 (by decide) hd hg rfl ?_
  show _ = Result.ok (Next.value (.pointer (some ⟨X.bx, 0, none⟩))) w
  generalize a.eval = ρ at e0 ⊢
  unfold execOp
  rw [hop]
  simp [e0, go_sem]
theorem AWB.s1 (X : AWB) (ok : AWBOk X) {Q : Exit → Act → World → Prop} : StepG (opsOf 1 Tryz.f87) AWB.acts AWB.av X.val0 X.Wd X.a0 Q 1 := by
  intro γ listed a w o hF hC hW h1 ho h2
  obtain ⟨hd, hop, hg⟩ := fields2 (x := some 5) (y := Op.nilCheck (.tmp 4)) (z := none) (by kernel_rfl) ho
  have e4 : a.eval (.tmp 4) = .pointer (some ⟨X.bx, 0, none⟩) := slotG hF ho h2 (j := 0) (d := 4) (by kernel_rfl) (by kernel_rfl) (by rw [ok.sz]; decide)
  refine st_pureG hF hC hW ho h2 (by decide) hd hg rfl ?_
  show _ = Result.ok (Next.value (.pointer (some ⟨X.bx, 0, none⟩))) w
  generalize a.eval = ρ at e4 ⊢
  unfold execOp
  rw [hop]
  simp [e4, go_sem]
theorem AWB.s2 (X : AWB) (ok : AWBOk X) {Q : Exit → Act → World → Prop} : StepG (opsOf 1 Tryz.f87) AWB.acts AWB.av X.val0 X.Wd X.a0 Q 2 := by
  intro γ listed a w o hF hC hW h1 ho h2
  obtain ⟨hd, hop, hg⟩ := fields2 (x := some 6) (y := Op.fieldAddr 100 (.tmp 5) 1) (z := none) (by kernel_rfl) ho
  have e5 : a.eval (.tmp 5) = .pointer (some ⟨X.bx, 0, none⟩) := slotG hF ho h2 (j := 1) (d := 5) (by kernel_rfl) (by kernel_rfl) (by rw [ok.sz]; decide)
  refine st_pureG hF hC hW ho h2 (by decide) hd hg rfl ?_
  show _ = Result.ok (Next.value (.pointer (some ⟨X.bx, 1, none⟩))) w
  generalize a.eval = ρ at e5 ⊢
  unfold execOp
  rw [hop]
  simp [e5, go_sem]
theorem AWB.s3 (X : AWB) (ok : AWBOk X) {Q : Exit → Act → World → Prop} : StepG (opsOf 1 Tryz.f87) AWB.acts AWB.av X.val0 X.Wd X.a0 Q 3 := by
  intro γ listed a w o hF hC hW h1 ho h2
  obtain ⟨hd, hop, hg⟩ := fields2 (x := some 7) (y := Op.load 3 (.tmp 6)) (z := none) (by kernel_rfl) ho
  have e6 : a.eval (.tmp 6) = .pointer (some ⟨X.bx, 1, none⟩) := slotG hF ho h2 (j := 2) (d := 6) (by kernel_rfl) (by kernel_rfl) (by rw [ok.sz]; decide)
  have hc0 := rq_at (AWB.kp hW) ok.c1
  refine st_pureG hF hC hW ho h2 (by decide) hd hg rfl ?_
  show _ = Result.ok (Next.value (.int .i64 X.k)) w
  generalize a.eval = ρ at e6 ⊢
  unfold execOp
  rw [hop]
  simp [e6, hc0, go_sem]
theorem AWB.s4 (X : AWB) (ok : AWBOk X) {Q : Exit → Act → World → Prop} : StepG (opsOf 1 Tryz.f87) AWB.acts AWB.av X.val0 X.Wd X.a0 Q 4 := by
  intro γ listed a w o hF hC hW h1 ho h2
  obtain ⟨hd, hop, hg⟩ := fields2 (x := some 8) (y := Op.binOp .rem 3 (.tmp 7) (.const (.int .i64 2)) 3) (z := none) (by kernel_rfl) ho
  have e7 : a.eval (.tmp 7) = .int .i64 X.k := slotG hF ho h2 (j := 3) (d := 7) (by kernel_rfl) (by kernel_rfl) (by rw [ok.sz]; decide)
  have ec1 : a.eval (.const (.int .i64 2)) = .int .i64 2 := rfl
  refine st_pureG hF hC hW ho h2 (by decide) hd hg rfl ?_
  show _ = Result.ok (Next.value (.int .i64 X.r)) w
  generalize a.eval = ρ at e7 ec1 ⊢
  unfold execOp
  rw [hop]
  simp [e7, ec1, ok.rm, go_sem]
theorem AWB.s5 (X : AWB) (ok : AWBOk X) {Q : Exit → Act → World → Prop} : StepG (opsOf 1 Tryz.f87) AWB.acts AWB.av X.val0 X.Wd X.a0 Q 5 := by
  intro γ listed a w o hF hC hW h1 ho h2
  obtain ⟨hd, hop, hg⟩ := fields2 (x := some 9) (y := Op.binOp .eql 3 (.tmp 8) (.const (.int .i64 0)) 3) (z := none) (by kernel_rfl) ho
  have e8 : a.eval (.tmp 8) = .int .i64 X.r := slotG hF ho h2 (j := 4) (d := 8) (by kernel_rfl) (by kernel_rfl) (by rw [ok.sz]; decide)
  have ec1 : a.eval (.const (.int .i64 0)) = .int .i64 0 := rfl
  refine st_pureG hF hC hW ho h2 (by decide) hd hg rfl ?_
  show _ = Result.ok (Next.value (.bool true)) w
  generalize a.eval = ρ at e8 ec1 ⊢
  unfold execOp
  rw [hop]
  simp [e8, ec1, ok.hr, go_sem]
theorem AWB.s6 (X : AWB) (ok : AWBOk X) {Q : Exit → Act → World → Prop} : StepG (opsOf 1 Tryz.f87) AWB.acts AWB.av X.val0 X.Wd X.a0 Q 6 := by
  intro γ listed a w o hF hC hW h1 ho h2
  obtain ⟨hd, hop, hg⟩ := fields2 (x := some 10) (y := Op.move (.tmp 9)) (z := none) (by kernel_rfl) ho
  have e9 : a.eval (.tmp 9) = .bool true := slotG hF ho h2 (j := 5) (d := 9) (by kernel_rfl) (by kernel_rfl) (by rw [ok.sz]; decide)
  refine st_pureG hF hC hW ho h2 (by decide) hd hg rfl ?_
  show _ = Result.ok (Next.value (.bool true)) w
  generalize a.eval = ρ at e9 ⊢
  unfold execOp
  rw [hop]
  simp [e9, go_sem]
theorem AWB.s7 (X : AWB) (ok : AWBOk X) {Q : Exit → Act → World → Prop} : StepG (opsOf 1 Tryz.f87) AWB.acts AWB.av X.val0 X.Wd X.a0 Q 7 := by
  intro γ listed a w o hF hC hW h1 ho h2
  obtain ⟨hd, hop, hg⟩ := fields2 (x := some 11) (y := Op.move (.tmp 0)) (z := some (6, true)) (by kernel_rfl) ho
  have eg : a.eval (.tmp 10) = .bool true := slotG hF ho h2 (j := 6) (d := 10) (by kernel_rfl) (by kernel_rfl) (by rw [ok.sz]; decide)
  have hw := wanted_of (ops := (opsOf 1 Tryz.f87)) hg (yl_of (by kernel_rfl : dstOf (opsOf 1 Tryz.f87) 6 = some 10) (by rw [hF.tsize, ok.sz]; decide) eg)
  replace hw : Region.wanted o (yielded (opsOf 1 Tryz.f87) a.tmps) = true := hw
  have e0 : a.eval (.tmp 0) = .pointer (some ⟨X.bx, 0, none⟩) := (hF.eval0 (by kernel_rfl)).trans ok.e0
  refine st_pureW hF hC hW ho h2 (by decide) hd hw rfl ?_
  show _ = Result.ok (Next.value (.pointer (some ⟨X.bx, 0, none⟩))) w
  generalize a.eval = ρ at e0 ⊢
  unfold execOp
  rw [hop]
  simp [e0, go_sem]
theorem AWB.s8 (X : AWB) (ok : AWBOk X) {Q : Exit → Act → World → Prop} : StepG (opsOf 1 Tryz.f87) AWB.acts AWB.av X.val0 X.Wd X.a0 Q 8 := by
  intro γ listed a w o hF hC hW h1 ho h2
  obtain ⟨hd, hop, hg⟩ := fields2 (x := some 12) (y := Op.nilCheck (.tmp 11)) (z := some (6, true)) (by kernel_rfl) ho
  have eg : a.eval (.tmp 10) = .bool true := slotG hF ho h2 (j := 6) (d := 10) (by kernel_rfl) (by kernel_rfl) (by rw [ok.sz]; decide)
  have hw := wanted_of (ops := (opsOf 1 Tryz.f87)) hg (yl_of (by kernel_rfl : dstOf (opsOf 1 Tryz.f87) 6 = some 10) (by rw [hF.tsize, ok.sz]; decide) eg)
  replace hw : Region.wanted o (yielded (opsOf 1 Tryz.f87) a.tmps) = true := hw
  have e11 : a.eval (.tmp 11) = .pointer (some ⟨X.bx, 0, none⟩) := slotG hF ho h2 (j := 7) (d := 11) (by kernel_rfl) (by kernel_rfl) (by rw [ok.sz]; decide)
  refine st_pureW hF hC hW ho h2 (by decide) hd hw rfl ?_
  show _ = Result.ok (Next.value (.pointer (some ⟨X.bx, 0, none⟩))) w
  generalize a.eval = ρ at e11 ⊢
  unfold execOp
  rw [hop]
  simp [e11, go_sem]
theorem AWB.s9 (X : AWB) (ok : AWBOk X) {Q : Exit → Act → World → Prop} : StepG (opsOf 1 Tryz.f87) AWB.acts AWB.av X.val0 X.Wd X.a0 Q 9 := by
  intro γ listed a w o hF hC hW h1 ho h2
  obtain ⟨hd, hop, hg⟩ := fields2 (x := some 13) (y := Op.fieldAddr 100 (.tmp 12) 3) (z := some (6, true)) (by kernel_rfl) ho
  have eg : a.eval (.tmp 10) = .bool true := slotG hF ho h2 (j := 6) (d := 10) (by kernel_rfl) (by kernel_rfl) (by rw [ok.sz]; decide)
  have hw := wanted_of (ops := (opsOf 1 Tryz.f87)) hg (yl_of (by kernel_rfl : dstOf (opsOf 1 Tryz.f87) 6 = some 10) (by rw [hF.tsize, ok.sz]; decide) eg)
  replace hw : Region.wanted o (yielded (opsOf 1 Tryz.f87) a.tmps) = true := hw
  have e12 : a.eval (.tmp 12) = .pointer (some ⟨X.bx, 0, none⟩) := slotG hF ho h2 (j := 8) (d := 12) (by kernel_rfl) (by kernel_rfl) (by rw [ok.sz]; decide)
  refine st_pureW hF hC hW ho h2 (by decide) hd hw rfl ?_
  show _ = Result.ok (Next.value (.pointer (some ⟨X.bx, 3, none⟩))) w
  generalize a.eval = ρ at e12 ⊢
  unfold execOp
  rw [hop]
  simp [e12, go_sem]
theorem AWB.s10 (X : AWB) (ok : AWBOk X) {Q : Exit → Act → World → Prop} : StepG (opsOf 1 Tryz.f87) AWB.acts AWB.av X.val0 X.Wd X.a0 Q 10 := by
  intro γ listed a w o hF hC hW h1 ho h2
  obtain ⟨hd, hop, hg⟩ := fields2 (x := some 14) (y := Op.load 23 (.tmp 13)) (z := some (6, true)) (by kernel_rfl) ho
  have eg : a.eval (.tmp 10) = .bool true := slotG hF ho h2 (j := 6) (d := 10) (by kernel_rfl) (by kernel_rfl) (by rw [ok.sz]; decide)
  have hw := wanted_of (ops := (opsOf 1 Tryz.f87)) hg (yl_of (by kernel_rfl : dstOf (opsOf 1 Tryz.f87) 6 = some 10) (by rw [hF.tsize, ok.sz]; decide) eg)
  replace hw : Region.wanted o (yielded (opsOf 1 Tryz.f87) a.tmps) = true := hw
  have e13 : a.eval (.tmp 13) = .pointer (some ⟨X.bx, 3, none⟩) := slotG hF ho h2 (j := 9) (d := 13) (by kernel_rfl) (by kernel_rfl) (by rw [ok.sz]; decide)
  have hc0 := rq_at (AWB.kp hW) ok.c3
  refine st_pureW hF hC hW ho h2 (by decide) hd hw rfl ?_
  show _ = Result.ok (Next.value (.slice X.ua 0 X.uc)) w
  generalize a.eval = ρ at e13 ⊢
  unfold execOp
  rw [hop]
  simp [e13, hc0, go_sem]
theorem AWB.s11 (X : AWB) (ok : AWBOk X) {Q : Exit → Act → World → Prop} : StepG (opsOf 1 Tryz.f87) AWB.acts AWB.av X.val0 X.Wd X.a0 Q 11 := by
  intro γ listed a w o hF hC hW h1 ho h2
  obtain ⟨hd, hop, hg⟩ := fields2 (x := some 15) (y := Op.call { callee := .builtin .len, args := #[(.tmp 14)], argTypes := #[23] }) (z := some (6, true)) (by kernel_rfl) ho
  have eg : a.eval (.tmp 10) = .bool true := slotG hF ho h2 (j := 6) (d := 10) (by kernel_rfl) (by kernel_rfl) (by rw [ok.sz]; decide)
  have hw := wanted_of (ops := (opsOf 1 Tryz.f87)) hg (yl_of (by kernel_rfl : dstOf (opsOf 1 Tryz.f87) 6 = some 10) (by rw [hF.tsize, ok.sz]; decide) eg)
  replace hw : Region.wanted o (yielded (opsOf 1 Tryz.f87) a.tmps) = true := hw
  have e14 : a.eval (.tmp 14) = .slice X.ua 0 X.uc := slotG hF ho h2 (j := 10) (d := 14) (by kernel_rfl) (by kernel_rfl) (by rw [ok.sz]; decide)
  refine st_pureW hF hC hW ho h2 (by decide) hd hw rfl ?_
  show _ = Result.ok (Next.value (.int .i64 0)) w
  generalize a.eval = ρ at e14 ⊢
  unfold execOp
  rw [hop]
  simp [e14, go_sem]
theorem AWB.s12 (X : AWB) (ok : AWBOk X) {Q : Exit → Act → World → Prop} : StepG (opsOf 1 Tryz.f87) AWB.acts AWB.av X.val0 X.Wd X.a0 Q 12 := by
  intro γ listed a w o hF hC hW h1 ho h2
  obtain ⟨hd, hop, hg⟩ := fields2 (x := some 16) (y := Op.binOp .eql 3 (.tmp 15) (.const (.int .i64 0)) 3) (z := some (6, true)) (by kernel_rfl) ho
  have eg : a.eval (.tmp 10) = .bool true := slotG hF ho h2 (j := 6) (d := 10) (by kernel_rfl) (by kernel_rfl) (by rw [ok.sz]; decide)
  have hw := wanted_of (ops := (opsOf 1 Tryz.f87)) hg (yl_of (by kernel_rfl : dstOf (opsOf 1 Tryz.f87) 6 = some 10) (by rw [hF.tsize, ok.sz]; decide) eg)
  replace hw : Region.wanted o (yielded (opsOf 1 Tryz.f87) a.tmps) = true := hw
  have e15 : a.eval (.tmp 15) = .int .i64 0 := slotG hF ho h2 (j := 11) (d := 15) (by kernel_rfl) (by kernel_rfl) (by rw [ok.sz]; decide)
  have ec1 : a.eval (.const (.int .i64 0)) = .int .i64 0 := rfl
  refine st_pureW hF hC hW ho h2 (by decide) hd hw rfl ?_
  show _ = Result.ok (Next.value (.bool true)) w
  generalize a.eval = ρ at e15 ec1 ⊢
  unfold execOp
  rw [hop]
  simp [e15, ec1, go_sem]
theorem AWB.s13 (X : AWB) (ok : AWBOk X) {Q : Exit → Act → World → Prop} : StepG (opsOf 1 Tryz.f87) AWB.acts AWB.av X.val0 X.Wd X.a0 Q 13 := by
  intro γ listed a w o hF hC hW h1 ho h2
  obtain ⟨hd, hop, hg⟩ := fields2 (x := some 17) (y := Op.move (.tmp 16)) (z := some (6, true)) (by kernel_rfl) ho
  have eg : a.eval (.tmp 10) = .bool true := slotG hF ho h2 (j := 6) (d := 10) (by kernel_rfl) (by kernel_rfl) (by rw [ok.sz]; decide)
  have hw := wanted_of (ops := (opsOf 1 Tryz.f87)) hg (yl_of (by kernel_rfl : dstOf (opsOf 1 Tryz.f87) 6 = some 10) (by rw [hF.tsize, ok.sz]; decide) eg)
  replace hw : Region.wanted o (yielded (opsOf 1 Tryz.f87) a.tmps) = true := hw
  have e16 : a.eval (.tmp 16) = .bool true := slotG hF ho h2 (j := 12) (d := 16) (by kernel_rfl) (by kernel_rfl) (by rw [ok.sz]; decide)
  refine st_pureW hF hC hW ho h2 (by decide) hd hw rfl ?_
  show _ = Result.ok (Next.value (.bool true)) w
  generalize a.eval = ρ at e16 ⊢
  unfold execOp
  rw [hop]
  simp [e16, go_sem]
theorem AWB.s14 (X : AWB) (ok : AWBOk X) {Q : Exit → Act → World → Prop} : StepG (opsOf 1 Tryz.f87) AWB.acts AWB.av X.val0 X.Wd X.a0 Q 14 := by
  intro γ listed a w o hF hC hW h1 ho h2
  obtain ⟨hd, hop, hg⟩ := fields2 (x := some 18) (y := Op.move (.tmp 0)) (z := some (13, false)) (by kernel_rfl) ho
  have eg : a.eval (.tmp 17) = .bool true := slotG hF ho h2 (j := 13) (d := 17) (by kernel_rfl) (by kernel_rfl) (by rw [ok.sz]; decide)
  have hw := wanted_of (ops := (opsOf 1 Tryz.f87)) hg (yl_of (by kernel_rfl : dstOf (opsOf 1 Tryz.f87) 13 = some 17) (by rw [hF.tsize, ok.sz]; decide) eg)
  replace hw : Region.wanted o (yielded (opsOf 1 Tryz.f87) a.tmps) = false := hw
  exact st_skipW hF hC hW ho h2 (by decide) hd hw rfl rfl
theorem AWB.s15 (X : AWB) (ok : AWBOk X) {Q : Exit → Act → World → Prop} : StepG (opsOf 1 Tryz.f87) AWB.acts AWB.av X.val0 X.Wd X.a0 Q 15 := by
  intro γ listed a w o hF hC hW h1 ho h2
  obtain ⟨hd, hop, hg⟩ := fields2 (x := some 19) (y := Op.nilCheck (.tmp 18)) (z := some (13, false)) (by kernel_rfl) ho
  have eg : a.eval (.tmp 17) = .bool true := slotG hF ho h2 (j := 13) (d := 17) (by kernel_rfl) (by kernel_rfl) (by rw [ok.sz]; decide)
  have hw := wanted_of (ops := (opsOf 1 Tryz.f87)) hg (yl_of (by kernel_rfl : dstOf (opsOf 1 Tryz.f87) 13 = some 17) (by rw [hF.tsize, ok.sz]; decide) eg)
  replace hw : Region.wanted o (yielded (opsOf 1 Tryz.f87) a.tmps) = false := hw
  exact st_skipW hF hC hW ho h2 (by decide) hd hw rfl rfl
theorem AWB.s16 (X : AWB) (ok : AWBOk X) {Q : Exit → Act → World → Prop} : StepG (opsOf 1 Tryz.f87) AWB.acts AWB.av X.val0 X.Wd X.a0 Q 16 := by
  intro γ listed a w o hF hC hW h1 ho h2
  obtain ⟨hd, hop, hg⟩ := fields2 (x := some 20) (y := Op.fieldAddr 100 (.tmp 19) 3) (z := some (13, false)) (by kernel_rfl) ho
  have eg : a.eval (.tmp 17) = .bool true := slotG hF ho h2 (j := 13) (d := 17) (by kernel_rfl) (by kernel_rfl) (by rw [ok.sz]; decide)
  have hw := wanted_of (ops := (opsOf 1 Tryz.f87)) hg (yl_of (by kernel_rfl : dstOf (opsOf 1 Tryz.f87) 13 = some 17) (by rw [hF.tsize, ok.sz]; decide) eg)
  replace hw : Region.wanted o (yielded (opsOf 1 Tryz.f87) a.tmps) = false := hw
  exact st_skipW hF hC hW ho h2 (by decide) hd hw rfl rfl
theorem AWB.s17 (X : AWB) (ok : AWBOk X) {Q : Exit → Act → World → Prop} : StepG (opsOf 1 Tryz.f87) AWB.acts AWB.av X.val0 X.Wd X.a0 Q 17 := by
  intro γ listed a w o hF hC hW h1 ho h2
  obtain ⟨hd, hop, hg⟩ := fields2 (x := some 21) (y := Op.load 23 (.tmp 20)) (z := some (13, false)) (by kernel_rfl) ho
  have eg : a.eval (.tmp 17) = .bool true := slotG hF ho h2 (j := 13) (d := 17) (by kernel_rfl) (by kernel_rfl) (by rw [ok.sz]; decide)
  have hw := wanted_of (ops := (opsOf 1 Tryz.f87)) hg (yl_of (by kernel_rfl : dstOf (opsOf 1 Tryz.f87) 13 = some 17) (by rw [hF.tsize, ok.sz]; decide) eg)
  replace hw : Region.wanted o (yielded (opsOf 1 Tryz.f87) a.tmps) = false := hw
  exact st_skipW hF hC hW ho h2 (by decide) hd hw rfl rfl
theorem AWB.s18 (X : AWB) (ok : AWBOk X) {Q : Exit → Act → World → Prop} : StepG (opsOf 1 Tryz.f87) AWB.acts AWB.av X.val0 X.Wd X.a0 Q 18 := by
  intro γ listed a w o hF hC hW h1 ho h2
  obtain ⟨hd, hop, hg⟩ := fields2 (x := some 22) (y := Op.move (.tmp 0)) (z := some (13, false)) (by kernel_rfl) ho
  have eg : a.eval (.tmp 17) = .bool true := slotG hF ho h2 (j := 13) (d := 17) (by kernel_rfl) (by kernel_rfl) (by rw [ok.sz]; decide)
  have hw := wanted_of (ops := (opsOf 1 Tryz.f87)) hg (yl_of (by kernel_rfl : dstOf (opsOf 1 Tryz.f87) 13 = some 17) (by rw [hF.tsize, ok.sz]; decide) eg)
  replace hw : Region.wanted o (yielded (opsOf 1 Tryz.f87) a.tmps) = false := hw
  exact st_skipW hF hC hW ho h2 (by decide) hd hw rfl rfl
theorem AWB.s19 (X : AWB) (ok : AWBOk X) {Q : Exit → Act → World → Prop} : StepG (opsOf 1 Tryz.f87) AWB.acts AWB.av X.val0 X.Wd X.a0 Q 19 := by
  intro γ listed a w o hF hC hW h1 ho h2
  obtain ⟨hd, hop, hg⟩ := fields2 (x := some 23) (y := Op.nilCheck (.tmp 22)) (z := some (13, false)) (by kernel_rfl) ho
  have eg : a.eval (.tmp 17) = .bool true := slotG hF ho h2 (j := 13) (d := 17) (by kernel_rfl) (by kernel_rfl) (by rw [ok.sz]; decide)
  have hw := wanted_of (ops := (opsOf 1 Tryz.f87)) hg (yl_of (by kernel_rfl : dstOf (opsOf 1 Tryz.f87) 13 = some 17) (by rw [hF.tsize, ok.sz]; decide) eg)
  replace hw : Region.wanted o (yielded (opsOf 1 Tryz.f87) a.tmps) = false := hw
  exact st_skipW hF hC hW ho h2 (by decide) hd hw rfl rfl
theorem AWB.s20 (X : AWB) (ok : AWBOk X) {Q : Exit → Act → World → Prop} : StepG (opsOf 1 Tryz.f87) AWB.acts AWB.av X.val0 X.Wd X.a0 Q 20 := by
  intro γ listed a w o hF hC hW h1 ho h2
  obtain ⟨hd, hop, hg⟩ := fields2 (x := some 24) (y := Op.fieldAddr 100 (.tmp 23) 3) (z := some (13, false)) (by kernel_rfl) ho
  have eg : a.eval (.tmp 17) = .bool true := slotG hF ho h2 (j := 13) (d := 17) (by kernel_rfl) (by kernel_rfl) (by rw [ok.sz]; decide)
  have hw := wanted_of (ops := (opsOf 1 Tryz.f87)) hg (yl_of (by kernel_rfl : dstOf (opsOf 1 Tryz.f87) 13 = some 17) (by rw [hF.tsize, ok.sz]; decide) eg)
  replace hw : Region.wanted o (yielded (opsOf 1 Tryz.f87) a.tmps) = false := hw
  exact st_skipW hF hC hW ho h2 (by decide) hd hw rfl rfl
theorem AWB.s21 (X : AWB) (ok : AWBOk X) {Q : Exit → Act → World → Prop} : StepG (opsOf 1 Tryz.f87) AWB.acts AWB.av X.val0 X.Wd X.a0 Q 21 := by
  intro γ listed a w o hF hC hW h1 ho h2
  obtain ⟨hd, hop, hg⟩ := fields2 (x := some 25) (y := Op.load 23 (.tmp 24)) (z := some (13, false)) (by kernel_rfl) ho
  have eg : a.eval (.tmp 17) = .bool true := slotG hF ho h2 (j := 13) (d := 17) (by kernel_rfl) (by kernel_rfl) (by rw [ok.sz]; decide)
  have hw := wanted_of (ops := (opsOf 1 Tryz.f87)) hg (yl_of (by kernel_rfl : dstOf (opsOf 1 Tryz.f87) 13 = some 17) (by rw [hF.tsize, ok.sz]; decide) eg)
  replace hw : Region.wanted o (yielded (opsOf 1 Tryz.f87) a.tmps) = false := hw
  exact st_skipW hF hC hW ho h2 (by decide) hd hw rfl rfl
theorem AWB.s22 (X : AWB) (ok : AWBOk X) {Q : Exit → Act → World → Prop} : StepG (opsOf 1 Tryz.f87) AWB.acts AWB.av X.val0 X.Wd X.a0 Q 22 := by
  intro γ listed a w o hF hC hW h1 ho h2
  obtain ⟨hd, hop, hg⟩ := fields2 (x := some 26) (y := Op.call { callee := .builtin .len, args := #[(.tmp 25)], argTypes := #[23] }) (z := some (13, false)) (by kernel_rfl) ho
  have eg : a.eval (.tmp 17) = .bool true := slotG hF ho h2 (j := 13) (d := 17) (by kernel_rfl) (by kernel_rfl) (by rw [ok.sz]; decide)
  have hw := wanted_of (ops := (opsOf 1 Tryz.f87)) hg (yl_of (by kernel_rfl : dstOf (opsOf 1 Tryz.f87) 13 = some 17) (by rw [hF.tsize, ok.sz]; decide) eg)
  replace hw : Region.wanted o (yielded (opsOf 1 Tryz.f87) a.tmps) = false := hw
  exact st_skipW hF hC hW ho h2 (by decide) hd hw rfl rfl
theorem AWB.s23 (X : AWB) (ok : AWBOk X) {Q : Exit → Act → World → Prop} : StepG (opsOf 1 Tryz.f87) AWB.acts AWB.av X.val0 X.Wd X.a0 Q 23 := by
  intro γ listed a w o hF hC hW h1 ho h2
  obtain ⟨hd, hop, hg⟩ := fields2 (x := some 27) (y := Op.binOp .sub 3 (.tmp 26) (.const (.int .i64 1)) 3) (z := some (13, false)) (by kernel_rfl) ho
  have eg : a.eval (.tmp 17) = .bool true := slotG hF ho h2 (j := 13) (d := 17) (by kernel_rfl) (by kernel_rfl) (by rw [ok.sz]; decide)
  have hw := wanted_of (ops := (opsOf 1 Tryz.f87)) hg (yl_of (by kernel_rfl : dstOf (opsOf 1 Tryz.f87) 13 = some 17) (by rw [hF.tsize, ok.sz]; decide) eg)
  replace hw : Region.wanted o (yielded (opsOf 1 Tryz.f87) a.tmps) = false := hw
  exact st_skipW hF hC hW ho h2 (by decide) hd hw rfl rfl
theorem AWB.s24 (X : AWB) (ok : AWBOk X) {Q : Exit → Act → World → Prop} : StepG (opsOf 1 Tryz.f87) AWB.acts AWB.av X.val0 X.Wd X.a0 Q 24 := by
  intro γ listed a w o hF hC hW h1 ho h2
  obtain ⟨hd, hop, hg⟩ := fields2 (x := some 28) (y := Op.indexAddr 23 (.tmp 21) (.tmp 27)) (z := some (13, false)) (by kernel_rfl) ho
  have eg : a.eval (.tmp 17) = .bool true := slotG hF ho h2 (j := 13) (d := 17) (by kernel_rfl) (by kernel_rfl) (by rw [ok.sz]; decide)
  have hw := wanted_of (ops := (opsOf 1 Tryz.f87)) hg (yl_of (by kernel_rfl : dstOf (opsOf 1 Tryz.f87) 13 = some 17) (by rw [hF.tsize, ok.sz]; decide) eg)
  replace hw : Region.wanted o (yielded (opsOf 1 Tryz.f87) a.tmps) = false := hw
  exact st_skipW hF hC hW ho h2 (by decide) hd hw rfl rfl
theorem AWB.s25 (X : AWB) (ok : AWBOk X) {Q : Exit → Act → World → Prop} : StepG (opsOf 1 Tryz.f87) AWB.acts AWB.av X.val0 X.Wd X.a0 Q 25 := by
  intro γ listed a w o hF hC hW h1 ho h2
  obtain ⟨hd, hop, hg⟩ := fields2 (x := some 29) (y := Op.load 34 (.tmp 28)) (z := some (13, false)) (by kernel_rfl) ho
  have eg : a.eval (.tmp 17) = .bool true := slotG hF ho h2 (j := 13) (d := 17) (by kernel_rfl) (by kernel_rfl) (by rw [ok.sz]; decide)
  have hw := wanted_of (ops := (opsOf 1 Tryz.f87)) hg (yl_of (by kernel_rfl : dstOf (opsOf 1 Tryz.f87) 13 = some 17) (by rw [hF.tsize, ok.sz]; decide) eg)
  replace hw : Region.wanted o (yielded (opsOf 1 Tryz.f87) a.tmps) = false := hw
  exact st_skipW hF hC hW ho h2 (by decide) hd hw rfl rfl
theorem AWB.s26 (X : AWB) (ok : AWBOk X) {Q : Exit → Act → World → Prop} : StepG (opsOf 1 Tryz.f87) AWB.acts AWB.av X.val0 X.Wd X.a0 Q 26 := by
  intro γ listed a w o hF hC hW h1 ho h2
  obtain ⟨hd, hop, hg⟩ := fields2 (x := some 30) (y := Op.load 34 (.tmp 3)) (z := some (13, false)) (by kernel_rfl) ho
  have eg : a.eval (.tmp 17) = .bool true := slotG hF ho h2 (j := 13) (d := 17) (by kernel_rfl) (by kernel_rfl) (by rw [ok.sz]; decide)
  have hw := wanted_of (ops := (opsOf 1 Tryz.f87)) hg (yl_of (by kernel_rfl : dstOf (opsOf 1 Tryz.f87) 13 = some 17) (by rw [hF.tsize, ok.sz]; decide) eg)
  replace hw : Region.wanted o (yielded (opsOf 1 Tryz.f87) a.tmps) = false := hw
  exact st_skipW hF hC hW ho h2 (by decide) hd hw rfl rfl
theorem AWB.s27 (X : AWB) (ok : AWBOk X) {Q : Exit → Act → World → Prop} : StepG (opsOf 1 Tryz.f87) AWB.acts AWB.av X.val0 X.Wd X.a0 Q 27 := by
  intro γ listed a w o hF hC hW h1 ho h2
  obtain ⟨hd, hop, hg⟩ := fields2 (x := some 31) (y := Op.binOp .neq 34 (.tmp 29) (.tmp 30) 34) (z := some (13, false)) (by kernel_rfl) ho
  have eg : a.eval (.tmp 17) = .bool true := slotG hF ho h2 (j := 13) (d := 17) (by kernel_rfl) (by kernel_rfl) (by rw [ok.sz]; decide)
  have hw := wanted_of (ops := (opsOf 1 Tryz.f87)) hg (yl_of (by kernel_rfl : dstOf (opsOf 1 Tryz.f87) 13 = some 17) (by rw [hF.tsize, ok.sz]; decide) eg)
  replace hw : Region.wanted o (yielded (opsOf 1 Tryz.f87) a.tmps) = false := hw
  exact st_skipW hF hC hW ho h2 (by decide) hd hw rfl rfl
theorem AWB.s28 (X : AWB) (ok : AWBOk X) {Q : Exit → Act → World → Prop} : StepG (opsOf 1 Tryz.f87) AWB.acts AWB.av X.val0 X.Wd X.a0 Q 28 := by
  intro γ listed a w o hF hC hW h1 ho h2
  obtain ⟨hd, hop, hg⟩ := fields2 (x := some 32) (y := Op.pick (.tmp 17) (.const (.bool true)) (.tmp 31)) (z := some (6, true)) (by kernel_rfl) ho
  have eg : a.eval (.tmp 10) = .bool true := slotG hF ho h2 (j := 6) (d := 10) (by kernel_rfl) (by kernel_rfl) (by rw [ok.sz]; decide)
  have hw := wanted_of (ops := (opsOf 1 Tryz.f87)) hg (yl_of (by kernel_rfl : dstOf (opsOf 1 Tryz.f87) 6 = some 10) (by rw [hF.tsize, ok.sz]; decide) eg)
  replace hw : Region.wanted o (yielded (opsOf 1 Tryz.f87) a.tmps) = true := hw
  have e17 : a.eval (.tmp 17) = .bool true := slotG hF ho h2 (j := 13) (d := 17) (by kernel_rfl) (by kernel_rfl) (by rw [ok.sz]; decide)
  have ec1 : a.eval (.const (.bool true)) = .bool true := rfl
  have e31 : a.eval (.tmp 31) = undef := slotG hF ho h2 (j := 27) (d := 31) (by kernel_rfl) (by kernel_rfl) (by rw [ok.sz]; decide)
  refine st_pureW hF hC hW ho h2 (by decide) hd hw rfl ?_
  show _ = Result.ok (Next.value (.bool true)) w
  generalize a.eval = ρ at e17 ec1 e31 ⊢
  unfold execOp
  rw [hop]
  simp [e17, ec1, e31, go_sem]
theorem AWB.s29 (X : AWB) (ok : AWBOk X) {Q : Exit → Act → World → Prop} : StepG (opsOf 1 Tryz.f87) AWB.acts AWB.av X.val0 X.Wd X.a0 Q 29 := by
  intro γ listed a w o hF hC hW h1 ho h2
  obtain ⟨hd, hop, hg⟩ := fields2 (x := some 33) (y := Op.pick (.tmp 10) (.tmp 32) (.const (.bool false))) (z := none) (by kernel_rfl) ho
  have e10 : a.eval (.tmp 10) = .bool true := slotG hF ho h2 (j := 6) (d := 10) (by kernel_rfl) (by kernel_rfl) (by rw [ok.sz]; decide)
  have e32 : a.eval (.tmp 32) = .bool true := slotG hF ho h2 (j := 28) (d := 32) (by kernel_rfl) (by kernel_rfl) (by rw [ok.sz]; decide)
  have ec2 : a.eval (.const (.bool false)) = .bool false := rfl
  refine st_pureG hF hC hW ho h2 (by decide) hd hg rfl ?_
  show _ = Result.ok (Next.value (.bool true)) w
  generalize a.eval = ρ at e10 e32 ec2 ⊢
  unfold execOp
  rw [hop]
  simp [e10, e32, ec2, go_sem]
theorem AWB.size : (opsOf 1 Tryz.f87).size = 30 := by kernel_rfl
theorem AWB.steps (X : AWB) (ok : AWBOk X) {Q : Exit → Act → World → Prop} (i : Nat) (hi : i < (opsOf 1 Tryz.f87).size) : StepG (opsOf 1 Tryz.f87) AWB.acts AWB.av X.val0 X.Wd X.a0 Q i := by
  rw [AWB.size] at hi
  have hc : i = 0 ∨ i = 1 ∨ i = 2 ∨ i = 3 ∨ i = 4 ∨ i = 5 ∨ i = 6 ∨ i = 7 ∨ i = 8 ∨ i = 9 ∨ i = 10 ∨ i = 11 ∨ i = 12 ∨ i = 13 ∨ i = 14 ∨ i = 15 ∨ i = 16 ∨ i = 17 ∨ i = 18 ∨ i = 19 ∨ i = 20 ∨ i = 21 ∨ i = 22 ∨ i = 23 ∨ i = 24 ∨ i = 25 ∨ i = 26 ∨ i = 27 ∨ i = 28 ∨ i = 29 := by omega
  rcases hc with rfl | rfl | rfl | rfl | rfl | rfl | rfl | rfl | rfl | rfl | rfl | rfl | rfl | rfl | rfl | rfl | rfl | rfl | rfl | rfl | rfl | rfl | rfl | rfl | rfl | rfl | rfl | rfl | rfl | rfl
  · exact AWB.s0 X ok
  · exact AWB.s1 X ok
  · exact AWB.s2 X ok
  · exact AWB.s3 X ok
  · exact AWB.s4 X ok
  · exact AWB.s5 X ok
  · exact AWB.s6 X ok
  · exact AWB.s7 X ok
  · exact AWB.s8 X ok
  · exact AWB.s9 X ok
  · exact AWB.s10 X ok
  · exact AWB.s11 X ok
  · exact AWB.s12 X ok
  · exact AWB.s13 X ok
  · exact AWB.s14 X ok
  · exact AWB.s15 X ok
  · exact AWB.s16 X ok
  · exact AWB.s17 X ok
  · exact AWB.s18 X ok
  · exact AWB.s19 X ok
  · exact AWB.s20 X ok
  · exact AWB.s21 X ok
  · exact AWB.s22 X ok
  · exact AWB.s23 X ok
  · exact AWB.s24 X ok
  · exact AWB.s25 X ok
  · exact AWB.s26 X ok
  · exact AWB.s27 X ok
  · exact AWB.s28 X ok
  · exact AWB.s29 X ok
theorem AWB.puts (X : AWB) (γ : Nat → Value) (a0 : Act) : putsL (valG AWB.av X.val0 γ) (opsOf 1 Tryz.f87).toList a0 = ((((((((((((((((((((((((((((((a0.put (some 4) (.pointer (some ⟨X.bx, 0, none⟩))).put (some 5) (.pointer (some ⟨X.bx, 0, none⟩))).put (some 6) (.pointer (some ⟨X.bx, 1, none⟩))).put (some 7) (.int .i64 X.k)).put (some 8) (.int .i64 X.r)).put (some 9) (.bool true)).put (some 10) (.bool true)).put (some 11) (.pointer (some ⟨X.bx, 0, none⟩))).put (some 12) (.pointer (some ⟨X.bx, 0, none⟩))).put (some 13) (.pointer (some ⟨X.bx, 3, none⟩))).put (some 14) (.slice X.ua 0 X.uc)).put (some 15) (.int .i64 0)).put (some 16) (.bool true)).put (some 17) (.bool true)).put (some 18) (undef)).put (some 19) (undef)).put (some 20) (undef)).put (some 21) (undef)).put (some 22) (undef)).put (some 23) (undef)).put (some 24) (undef)).put (some 25) (undef)).put (some 26) (undef)).put (some 27) (undef)).put (some 28) (undef)).put (some 29) (undef)).put (some 30) (undef)).put (some 31) (undef)).put (some 32) (.bool true)).put (some 33) (.bool true)) := by kernel_rfl
/-- The region, whatever order comes up. -/
theorem AWB.run (X : AWB) (ok : AWBOk X) {Q : Exit → Act → World → Prop} (w : World) (h0 : X.Wd 0 (fun _ => undef) w.drew) (hend : ∀ (γ : Nat → Value) w', X.Wd 0 γ w' → Q .normal ((((((((((((((((((((((((((((((X.a0.put (some 4) (.pointer (some ⟨X.bx, 0, none⟩))).put (some 5) (.pointer (some ⟨X.bx, 0, none⟩))).put (some 6) (.pointer (some ⟨X.bx, 1, none⟩))).put (some 7) (.int .i64 X.k)).put (some 8) (.int .i64 X.r)).put (some 9) (.bool true)).put (some 10) (.bool true)).put (some 11) (.pointer (some ⟨X.bx, 0, none⟩))).put (some 12) (.pointer (some ⟨X.bx, 0, none⟩))).put (some 13) (.pointer (some ⟨X.bx, 3, none⟩))).put (some 14) (.slice X.ua 0 X.uc)).put (some 15) (.int .i64 0)).put (some 16) (.bool true)).put (some 17) (.bool true)).put (some 18) (undef)).put (some 19) (undef)).put (some 20) (undef)).put (some 21) (undef)).put (some 22) (undef)).put (some 23) (undef)).put (some 24) (undef)).put (some 25) (undef)).put (some 26) (undef)).put (some 27) (undef)).put (some 28) (undef)).put (some 29) (undef)).put (some 30) (undef)).put (some 31) (undef)).put (some 32) (.bool true)).put (some 33) (.bool true)) w') : (Code.region 1 (opsOf 1 Tryz.f87) true).wp Tryz.prog Q X.a0 w := by
  refine reg_act (acts := AWB.acts) (av := AWB.av) (val0 := X.val0) (Wd := X.Wd) (by kernel_rfl) (by kernel_rfl) (by rw [AWB.size]; decide) (fun i hi => AWB.steps X ok i hi) _ h0 ?_
  intro γ w' h
  rw [AWB.puts]
  exact hend γ w' h
structure AWC where
  bx : Nat
  bq : Nat
  x : Int
  y : Int
  k : Int
  r : Int
  g : Nat
  n : Nat
  m : Nat
  uc : Nat
  W : World
  a0 : Act
structure AWCOk (X : AWC) : Prop where
  c1 : X.W.cell? ⟨X.bx, 1, none⟩ = some (.int .i64 X.k)
  c3 : X.W.cell? ⟨X.bx, 3, none⟩ = some (.slice (some ⟨X.g, 0, none⟩) X.n X.uc)
  q0 : X.W.cell? ⟨X.bq, 0, none⟩ = some (.int .i64 X.x)
  q1 : X.W.cell? ⟨X.bq, 1, none⟩ = some (.int .i64 X.y)
  rm : X.k.tmod 2 = X.r
  hr : (X.r == 0) = true
  h0 : ((X.n : Int) == 0) = false
  wm : IntKind.i64.wrap ((X.n : Int) - 1) = (X.m : Int)
  hm : X.m < X.n
  px : X.W.cell? ⟨X.g, X.m * 2, none⟩ = some (.int .i64 X.x)
  py : X.W.cell? ⟨X.g, X.m * 2 + 1, none⟩ = some (.int .i64 X.y)
  e0 : X.a0.eval (.tmp 0) = .pointer (some ⟨X.bx, 0, none⟩)
  e3 : X.a0.eval (.tmp 3) = .pointer (some ⟨X.bq, 0, none⟩)
  sz : X.a0.tmps.size = 44
def AWC.val0 (X : AWC) : Nat → Value
  | 4 => .pointer (some ⟨X.bx, 0, none⟩)
  | 5 => .pointer (some ⟨X.bx, 0, none⟩)
  | 6 => .pointer (some ⟨X.bx, 1, none⟩)
  | 7 => .int .i64 X.k
  | 8 => .int .i64 X.r
  | 9 => .bool true
  | 10 => .bool true
  | 11 => .pointer (some ⟨X.bx, 0, none⟩)
  | 12 => .pointer (some ⟨X.bx, 0, none⟩)
  | 13 => .pointer (some ⟨X.bx, 3, none⟩)
  | 14 => .slice (some ⟨X.g, 0, none⟩) X.n X.uc
  | 15 => .int .i64 (X.n : Int)
  | 16 => .bool false
  | 17 => .bool false
  | 18 => .pointer (some ⟨X.bx, 0, none⟩)
  | 19 => .pointer (some ⟨X.bx, 0, none⟩)
  | 20 => .pointer (some ⟨X.bx, 3, none⟩)
  | 21 => .slice (some ⟨X.g, 0, none⟩) X.n X.uc
  | 22 => .pointer (some ⟨X.bx, 0, none⟩)
  | 23 => .pointer (some ⟨X.bx, 0, none⟩)
  | 24 => .pointer (some ⟨X.bx, 3, none⟩)
  | 25 => .slice (some ⟨X.g, 0, none⟩) X.n X.uc
  | 26 => .int .i64 (X.n : Int)
  | 27 => .int .i64 (X.m : Int)
  | 28 => .pointer (some ⟨X.g, X.m * 2, none⟩)
  | 29 => .agg #[.int .i64 X.x, .int .i64 X.y]
  | 30 => .agg #[.int .i64 X.x, .int .i64 X.y]
  | 31 => .bool false
  | 32 => .bool false
  | 33 => .bool false
  | _ => undef
def AWC.av : Nat → Option Nat
  | _ => none
def AWC.acts : List Nat := []
/-- The world, by how many of the acting ones have come up. -/
def AWC.Wd (X : AWC) : Nat → (Nat → Value) → World → Prop
  | _, _, w => Kp X.W w
theorem AWC.kp {X : AWC} {n : Nat} {γ : Nat → Value} {w : World} (h : X.Wd n γ w) : Kp X.W w := h
theorem AWC.keep {X : AWC} {n : Nat} {γ : Nat → Value} {w w' : World} (h : X.Wd n γ w) (k : Kp w w') : X.Wd n γ w' := Kp.trans h k
theorem AWC.chain : chainG (opsOf 1 Tryz.f87) AWC.acts = true := by kernel_rfl
theorem AWC.nodup : AWC.acts.Nodup := by decide
theorem AWC.inj {listed : Array Bool} {i k : Nat} (h : (List.range (opsOf 1 Tryz.f87).size).all (fun j => decide (j = i) || !(match dstOf (opsOf 1 Tryz.f87) j with | some d => decide (AWC.av d = some k) | none => false)) = true) (hu : listed.getD i false = false) : ∀ d, got (opsOf 1 Tryz.f87) listed d → AWC.av d ≠ some k := by
  rintro d ⟨j, h1, h2⟩ h3
  have hlt : j < (opsOf 1 Tryz.f87).size := by
    rcases Nat.lt_or_ge j (opsOf 1 Tryz.f87).size with h4 | h4
    · exact h4
    · unfold dstOf at h2; rw [Array.getElem?_eq_none h4] at h2; cases h2
  have h5 := List.all_eq_true.1 h j (List.mem_range.2 hlt)
  rw [h2] at h5
  simp only [h3, decide_true, Bool.not_true, Bool.or_false, decide_eq_true_eq] at h5
  subst h5
  rw [hu] at h1
  cases h1
theorem AWC.s0 (X : AWC) (ok : AWCOk X) {Q : Exit → Act → World → Prop} : StepG (opsOf 1 Tryz.f87) AWC.acts AWC.av X.val0 X.Wd X.a0 Q 0 := by
  intro γ listed a w o hF hC hW h1 ho h2
  obtain ⟨hd, hop, hg⟩ := fields2 (x := some 4) (y := Op.move (.tmp 0)) (z := none) (by kernel_rfl) ho
  have e0 : a.eval (.tmp 0) = .pointer (some ⟨X.bx, 0, none⟩) := (hF.eval0 (by kernel_rfl)).trans ok.e0
  refine st_pureG hF hC hW ho h2 (by decide) hd hg rfl ?_
  show _ = Result.ok (Next.value (.pointer (some ⟨X.bx, 0, none⟩))) w
  generalize a.eval = ρ at e0 ⊢
  unfold execOp
  rw [hop]
  simp [e0, go_sem]
theorem AWC.s1 (X : AWC) (ok : AWCOk X) {Q : Exit → Act → World → Prop} : StepG (opsOf 1 Tryz.f87) AWC.acts AWC.av X.val0 X.Wd X.a0 Q 1 := by
  intro γ listed a w o hF hC hW h1 ho h2
  obtain ⟨hd, hop, hg⟩ := fields2 (x := some 5) (y := Op.nilCheck (.tmp 4)) (z := none) (by kernel_rfl) ho
  have e4 : a.eval (.tmp 4) = .pointer (some ⟨X.bx, 0, none⟩) := slotG hF ho h2 (j := 0) (d := 4) (by kernel_rfl) (by kernel_rfl) (by rw [ok.sz]; decide)
  refine st_pureG hF hC hW ho h2 (by decide) hd hg rfl ?_
  show _ = Result.ok (Next.value (.pointer (some ⟨X.bx, 0, none⟩))) w
  generalize a.eval = ρ at e4 ⊢
  unfold execOp
  rw [hop]
  simp [e4, go_sem]
theorem AWC.s2 (X : AWC) (ok : AWCOk X) {Q : Exit → Act → World → Prop} : StepG (opsOf 1 Tryz.f87) AWC.acts AWC.av X.val0 X.Wd X.a0 Q 2 := by
  intro γ listed a w o hF hC hW h1 ho h2
  obtain ⟨hd, hop, hg⟩ := fields2 (x := some 6) (y := Op.fieldAddr 100 (.tmp 5) 1) (z := none) (by kernel_rfl) ho
  have e5 : a.eval (.tmp 5) = .pointer (some ⟨X.bx, 0, none⟩) := slotG hF ho h2 (j := 1) (d := 5) (by kernel_rfl) (by kernel_rfl) (by rw [ok.sz]; decide)
  refine st_pureG hF hC hW ho h2 (by decide) hd hg rfl ?_
  show _ = Result.ok (Next.value (.pointer (some ⟨X.bx, 1, none⟩))) w
  generalize a.eval = ρ at e5 ⊢
  unfold execOp
  rw [hop]
  simp [e5, go_sem]
theorem AWC.s3 (X : AWC) (ok : AWCOk X) {Q : Exit → Act → World → Prop} : StepG (opsOf 1 Tryz.f87) AWC.acts AWC.av X.val0 X.Wd X.a0 Q 3 := by
  intro γ listed a w o hF hC hW h1 ho h2
  obtain ⟨hd, hop, hg⟩ := fields2 (x := some 7) (y := Op.load 3 (.tmp 6)) (z := none) (by kernel_rfl) ho
  have e6 : a.eval (.tmp 6) = .pointer (some ⟨X.bx, 1, none⟩) := slotG hF ho h2 (j := 2) (d := 6) (by kernel_rfl) (by kernel_rfl) (by rw [ok.sz]; decide)
  have hc0 := rq_at (AWC.kp hW) ok.c1
  refine st_pureG hF hC hW ho h2 (by decide) hd hg rfl ?_
  show _ = Result.ok (Next.value (.int .i64 X.k)) w
  generalize a.eval = ρ at e6 ⊢
  unfold execOp
  rw [hop]
  simp [e6, hc0, go_sem]
theorem AWC.s4 (X : AWC) (ok : AWCOk X) {Q : Exit → Act → World → Prop} : StepG (opsOf 1 Tryz.f87) AWC.acts AWC.av X.val0 X.Wd X.a0 Q 4 := by
  intro γ listed a w o hF hC hW h1 ho h2
  obtain ⟨hd, hop, hg⟩ := fields2 (x := some 8) (y := Op.binOp .rem 3 (.tmp 7) (.const (.int .i64 2)) 3) (z := none) (by kernel_rfl) ho
  have e7 : a.eval (.tmp 7) = .int .i64 X.k := slotG hF ho h2 (j := 3) (d := 7) (by kernel_rfl) (by kernel_rfl) (by rw [ok.sz]; decide)
  have ec1 : a.eval (.const (.int .i64 2)) = .int .i64 2 := rfl
  refine st_pureG hF hC hW ho h2 (by decide) hd hg rfl ?_
  show _ = Result.ok (Next.value (.int .i64 X.r)) w
  generalize a.eval = ρ at e7 ec1 ⊢
  unfold execOp
  rw [hop]
  simp [e7, ec1, ok.rm, go_sem]
theorem AWC.s5 (X : AWC) (ok : AWCOk X) {Q : Exit → Act → World → Prop} : StepG (opsOf 1 Tryz.f87) AWC.acts AWC.av X.val0 X.Wd X.a0 Q 5 := by
  intro γ listed a w o hF hC hW h1 ho h2
  obtain ⟨hd, hop, hg⟩ := fields2 (x := some 9) (y := Op.binOp .eql 3 (.tmp 8) (.const (.int .i64 0)) 3) (z := none) (by kernel_rfl) ho
  have e8 : a.eval (.tmp 8) = .int .i64 X.r := slotG hF ho h2 (j := 4) (d := 8) (by kernel_rfl) (by kernel_rfl) (by rw [ok.sz]; decide)
  have ec1 : a.eval (.const (.int .i64 0)) = .int .i64 0 := rfl
  refine st_pureG hF hC hW ho h2 (by decide) hd hg rfl ?_
  show _ = Result.ok (Next.value (.bool true)) w
  generalize a.eval = ρ at e8 ec1 ⊢
  unfold execOp
  rw [hop]
  simp [e8, ec1, ok.hr, go_sem]
theorem AWC.s6 (X : AWC) (ok : AWCOk X) {Q : Exit → Act → World → Prop} : StepG (opsOf 1 Tryz.f87) AWC.acts AWC.av X.val0 X.Wd X.a0 Q 6 := by
  intro γ listed a w o hF hC hW h1 ho h2
  obtain ⟨hd, hop, hg⟩ := fields2 (x := some 10) (y := Op.move (.tmp 9)) (z := none) (by kernel_rfl) ho
  have e9 : a.eval (.tmp 9) = .bool true := slotG hF ho h2 (j := 5) (d := 9) (by kernel_rfl) (by kernel_rfl) (by rw [ok.sz]; decide)
  refine st_pureG hF hC hW ho h2 (by decide) hd hg rfl ?_
  show _ = Result.ok (Next.value (.bool true)) w
  generalize a.eval = ρ at e9 ⊢
  unfold execOp
  rw [hop]
  simp [e9, go_sem]
theorem AWC.s7 (X : AWC) (ok : AWCOk X) {Q : Exit → Act → World → Prop} : StepG (opsOf 1 Tryz.f87) AWC.acts AWC.av X.val0 X.Wd X.a0 Q 7 := by
  intro γ listed a w o hF hC hW h1 ho h2
  obtain ⟨hd, hop, hg⟩ := fields2 (x := some 11) (y := Op.move (.tmp 0)) (z := some (6, true)) (by kernel_rfl) ho
  have eg : a.eval (.tmp 10) = .bool true := slotG hF ho h2 (j := 6) (d := 10) (by kernel_rfl) (by kernel_rfl) (by rw [ok.sz]; decide)
  have hw := wanted_of (ops := (opsOf 1 Tryz.f87)) hg (yl_of (by kernel_rfl : dstOf (opsOf 1 Tryz.f87) 6 = some 10) (by rw [hF.tsize, ok.sz]; decide) eg)
  replace hw : Region.wanted o (yielded (opsOf 1 Tryz.f87) a.tmps) = true := hw
  have e0 : a.eval (.tmp 0) = .pointer (some ⟨X.bx, 0, none⟩) := (hF.eval0 (by kernel_rfl)).trans ok.e0
  refine st_pureW hF hC hW ho h2 (by decide) hd hw rfl ?_
  show _ = Result.ok (Next.value (.pointer (some ⟨X.bx, 0, none⟩))) w
  generalize a.eval = ρ at e0 ⊢
  unfold execOp
  rw [hop]
  simp [e0, go_sem]
theorem AWC.s8 (X : AWC) (ok : AWCOk X) {Q : Exit → Act → World → Prop} : StepG (opsOf 1 Tryz.f87) AWC.acts AWC.av X.val0 X.Wd X.a0 Q 8 := by
  intro γ listed a w o hF hC hW h1 ho h2
  obtain ⟨hd, hop, hg⟩ := fields2 (x := some 12) (y := Op.nilCheck (.tmp 11)) (z := some (6, true)) (by kernel_rfl) ho
  have eg : a.eval (.tmp 10) = .bool true := slotG hF ho h2 (j := 6) (d := 10) (by kernel_rfl) (by kernel_rfl) (by rw [ok.sz]; decide)
  have hw := wanted_of (ops := (opsOf 1 Tryz.f87)) hg (yl_of (by kernel_rfl : dstOf (opsOf 1 Tryz.f87) 6 = some 10) (by rw [hF.tsize, ok.sz]; decide) eg)
  replace hw : Region.wanted o (yielded (opsOf 1 Tryz.f87) a.tmps) = true := hw
  have e11 : a.eval (.tmp 11) = .pointer (some ⟨X.bx, 0, none⟩) := slotG hF ho h2 (j := 7) (d := 11) (by kernel_rfl) (by kernel_rfl) (by rw [ok.sz]; decide)
  refine st_pureW hF hC hW ho h2 (by decide) hd hw rfl ?_
  show _ = Result.ok (Next.value (.pointer (some ⟨X.bx, 0, none⟩))) w
  generalize a.eval = ρ at e11 ⊢
  unfold execOp
  rw [hop]
  simp [e11, go_sem]
theorem AWC.s9 (X : AWC) (ok : AWCOk X) {Q : Exit → Act → World → Prop} : StepG (opsOf 1 Tryz.f87) AWC.acts AWC.av X.val0 X.Wd X.a0 Q 9 := by
  intro γ listed a w o hF hC hW h1 ho h2
  obtain ⟨hd, hop, hg⟩ := fields2 (x := some 13) (y := Op.fieldAddr 100 (.tmp 12) 3) (z := some (6, true)) (by kernel_rfl) ho
  have eg : a.eval (.tmp 10) = .bool true := slotG hF ho h2 (j := 6) (d := 10) (by kernel_rfl) (by kernel_rfl) (by rw [ok.sz]; decide)
  have hw := wanted_of (ops := (opsOf 1 Tryz.f87)) hg (yl_of (by kernel_rfl : dstOf (opsOf 1 Tryz.f87) 6 = some 10) (by rw [hF.tsize, ok.sz]; decide) eg)
  replace hw : Region.wanted o (yielded (opsOf 1 Tryz.f87) a.tmps) = true := hw
  have e12 : a.eval (.tmp 12) = .pointer (some ⟨X.bx, 0, none⟩) := slotG hF ho h2 (j := 8) (d := 12) (by kernel_rfl) (by kernel_rfl) (by rw [ok.sz]; decide)
  refine st_pureW hF hC hW ho h2 (by decide) hd hw rfl ?_
  show _ = Result.ok (Next.value (.pointer (some ⟨X.bx, 3, none⟩))) w
  generalize a.eval = ρ at e12 ⊢
  unfold execOp
  rw [hop]
  simp [e12, go_sem]
theorem AWC.s10 (X : AWC) (ok : AWCOk X) {Q : Exit → Act → World → Prop} : StepG (opsOf 1 Tryz.f87) AWC.acts AWC.av X.val0 X.Wd X.a0 Q 10 := by
  intro γ listed a w o hF hC hW h1 ho h2
  obtain ⟨hd, hop, hg⟩ := fields2 (x := some 14) (y := Op.load 23 (.tmp 13)) (z := some (6, true)) (by kernel_rfl) ho
  have eg : a.eval (.tmp 10) = .bool true := slotG hF ho h2 (j := 6) (d := 10) (by kernel_rfl) (by kernel_rfl) (by rw [ok.sz]; decide)
  have hw := wanted_of (ops := (opsOf 1 Tryz.f87)) hg (yl_of (by kernel_rfl : dstOf (opsOf 1 Tryz.f87) 6 = some 10) (by rw [hF.tsize, ok.sz]; decide) eg)
  replace hw : Region.wanted o (yielded (opsOf 1 Tryz.f87) a.tmps) = true := hw
  have e13 : a.eval (.tmp 13) = .pointer (some ⟨X.bx, 3, none⟩) := slotG hF ho h2 (j := 9) (d := 13) (by kernel_rfl) (by kernel_rfl) (by rw [ok.sz]; decide)
  have hc0 := rq_at (AWC.kp hW) ok.c3
  refine st_pureW hF hC hW ho h2 (by decide) hd hw rfl ?_
  show _ = Result.ok (Next.value (.slice (some ⟨X.g, 0, none⟩) X.n X.uc)) w
  generalize a.eval = ρ at e13 ⊢
  unfold execOp
  rw [hop]
  simp [e13, hc0, go_sem]
theorem AWC.s11 (X : AWC) (ok : AWCOk X) {Q : Exit → Act → World → Prop} : StepG (opsOf 1 Tryz.f87) AWC.acts AWC.av X.val0 X.Wd X.a0 Q 11 := by
  intro γ listed a w o hF hC hW h1 ho h2
  obtain ⟨hd, hop, hg⟩ := fields2 (x := some 15) (y := Op.call { callee := .builtin .len, args := #[(.tmp 14)], argTypes := #[23] }) (z := some (6, true)) (by kernel_rfl) ho
  have eg : a.eval (.tmp 10) = .bool true := slotG hF ho h2 (j := 6) (d := 10) (by kernel_rfl) (by kernel_rfl) (by rw [ok.sz]; decide)
  have hw := wanted_of (ops := (opsOf 1 Tryz.f87)) hg (yl_of (by kernel_rfl : dstOf (opsOf 1 Tryz.f87) 6 = some 10) (by rw [hF.tsize, ok.sz]; decide) eg)
  replace hw : Region.wanted o (yielded (opsOf 1 Tryz.f87) a.tmps) = true := hw
  have e14 : a.eval (.tmp 14) = .slice (some ⟨X.g, 0, none⟩) X.n X.uc := slotG hF ho h2 (j := 10) (d := 14) (by kernel_rfl) (by kernel_rfl) (by rw [ok.sz]; decide)
  refine st_pureW hF hC hW ho h2 (by decide) hd hw rfl ?_
  show _ = Result.ok (Next.value (.int .i64 (X.n : Int))) w
  generalize a.eval = ρ at e14 ⊢
  unfold execOp
  rw [hop]
  simp [e14, go_sem]
theorem AWC.s12 (X : AWC) (ok : AWCOk X) {Q : Exit → Act → World → Prop} : StepG (opsOf 1 Tryz.f87) AWC.acts AWC.av X.val0 X.Wd X.a0 Q 12 := by
  intro γ listed a w o hF hC hW h1 ho h2
  obtain ⟨hd, hop, hg⟩ := fields2 (x := some 16) (y := Op.binOp .eql 3 (.tmp 15) (.const (.int .i64 0)) 3) (z := some (6, true)) (by kernel_rfl) ho
  have eg : a.eval (.tmp 10) = .bool true := slotG hF ho h2 (j := 6) (d := 10) (by kernel_rfl) (by kernel_rfl) (by rw [ok.sz]; decide)
  have hw := wanted_of (ops := (opsOf 1 Tryz.f87)) hg (yl_of (by kernel_rfl : dstOf (opsOf 1 Tryz.f87) 6 = some 10) (by rw [hF.tsize, ok.sz]; decide) eg)
  replace hw : Region.wanted o (yielded (opsOf 1 Tryz.f87) a.tmps) = true := hw
  have e15 : a.eval (.tmp 15) = .int .i64 (X.n : Int) := slotG hF ho h2 (j := 11) (d := 15) (by kernel_rfl) (by kernel_rfl) (by rw [ok.sz]; decide)
  have ec1 : a.eval (.const (.int .i64 0)) = .int .i64 0 := rfl
  refine st_pureW hF hC hW ho h2 (by decide) hd hw rfl ?_
  show _ = Result.ok (Next.value (.bool false)) w
  generalize a.eval = ρ at e15 ec1 ⊢
  unfold execOp
  rw [hop]
  simp [e15, ec1, ok.h0, go_sem]
theorem AWC.s13 (X : AWC) (ok : AWCOk X) {Q : Exit → Act → World → Prop} : StepG (opsOf 1 Tryz.f87) AWC.acts AWC.av X.val0 X.Wd X.a0 Q 13 := by
  intro γ listed a w o hF hC hW h1 ho h2
  obtain ⟨hd, hop, hg⟩ := fields2 (x := some 17) (y := Op.move (.tmp 16)) (z := some (6, true)) (by kernel_rfl) ho
  have eg : a.eval (.tmp 10) = .bool true := slotG hF ho h2 (j := 6) (d := 10) (by kernel_rfl) (by kernel_rfl) (by rw [ok.sz]; decide)
  have hw := wanted_of (ops := (opsOf 1 Tryz.f87)) hg (yl_of (by kernel_rfl : dstOf (opsOf 1 Tryz.f87) 6 = some 10) (by rw [hF.tsize, ok.sz]; decide) eg)
  replace hw : Region.wanted o (yielded (opsOf 1 Tryz.f87) a.tmps) = true := hw
  have e16 : a.eval (.tmp 16) = .bool false := slotG hF ho h2 (j := 12) (d := 16) (by kernel_rfl) (by kernel_rfl) (by rw [ok.sz]; decide)
  refine st_pureW hF hC hW ho h2 (by decide) hd hw rfl ?_
  show _ = Result.ok (Next.value (.bool false)) w
  generalize a.eval = ρ at e16 ⊢
  unfold execOp
  rw [hop]
  simp [e16, go_sem]
theorem AWC.s14 (X : AWC) (ok : AWCOk X) {Q : Exit → Act → World → Prop} : StepG (opsOf 1 Tryz.f87) AWC.acts AWC.av X.val0 X.Wd X.a0 Q 14 := by
  intro γ listed a w o hF hC hW h1 ho h2
  obtain ⟨hd, hop, hg⟩ := fields2 (x := some 18) (y := Op.move (.tmp 0)) (z := some (13, false)) (by kernel_rfl) ho
  have eg : a.eval (.tmp 17) = .bool false := slotG hF ho h2 (j := 13) (d := 17) (by kernel_rfl) (by kernel_rfl) (by rw [ok.sz]; decide)
  have hw := wanted_of (ops := (opsOf 1 Tryz.f87)) hg (yl_of (by kernel_rfl : dstOf (opsOf 1 Tryz.f87) 13 = some 17) (by rw [hF.tsize, ok.sz]; decide) eg)
  replace hw : Region.wanted o (yielded (opsOf 1 Tryz.f87) a.tmps) = true := hw
  have e0 : a.eval (.tmp 0) = .pointer (some ⟨X.bx, 0, none⟩) := (hF.eval0 (by kernel_rfl)).trans ok.e0
  refine st_pureW hF hC hW ho h2 (by decide) hd hw rfl ?_
  show _ = Result.ok (Next.value (.pointer (some ⟨X.bx, 0, none⟩))) w
  generalize a.eval = ρ at e0 ⊢
  unfold execOp
  rw [hop]
  simp [e0, go_sem]
theorem AWC.s15 (X : AWC) (ok : AWCOk X) {Q : Exit → Act → World → Prop} : StepG (opsOf 1 Tryz.f87) AWC.acts AWC.av X.val0 X.Wd X.a0 Q 15 := by
  intro γ listed a w o hF hC hW h1 ho h2
  obtain ⟨hd, hop, hg⟩ := fields2 (x := some 19) (y := Op.nilCheck (.tmp 18)) (z := some (13, false)) (by kernel_rfl) ho
  have eg : a.eval (.tmp 17) = .bool false := slotG hF ho h2 (j := 13) (d := 17) (by kernel_rfl) (by kernel_rfl) (by rw [ok.sz]; decide)
  have hw := wanted_of (ops := (opsOf 1 Tryz.f87)) hg (yl_of (by kernel_rfl : dstOf (opsOf 1 Tryz.f87) 13 = some 17) (by rw [hF.tsize, ok.sz]; decide) eg)
  replace hw : Region.wanted o (yielded (opsOf 1 Tryz.f87) a.tmps) = true := hw
  have e18 : a.eval (.tmp 18) = .pointer (some ⟨X.bx, 0, none⟩) := slotG hF ho h2 (j := 14) (d := 18) (by kernel_rfl) (by kernel_rfl) (by rw [ok.sz]; decide)
  refine st_pureW hF hC hW ho h2 (by decide) hd hw rfl ?_
  show _ = Result.ok (Next.value (.pointer (some ⟨X.bx, 0, none⟩))) w
  generalize a.eval = ρ at e18 ⊢
  unfold execOp
  rw [hop]
  simp [e18, go_sem]
theorem AWC.s16 (X : AWC) (ok : AWCOk X) {Q : Exit → Act → World → Prop} : StepG (opsOf 1 Tryz.f87) AWC.acts AWC.av X.val0 X.Wd X.a0 Q 16 := by
  intro γ listed a w o hF hC hW h1 ho h2
  obtain ⟨hd, hop, hg⟩ := fields2 (x := some 20) (y := Op.fieldAddr 100 (.tmp 19) 3) (z := some (13, false)) (by kernel_rfl) ho
  have eg : a.eval (.tmp 17) = .bool false := slotG hF ho h2 (j := 13) (d := 17) (by kernel_rfl) (by kernel_rfl) (by rw [ok.sz]; decide)
  have hw := wanted_of (ops := (opsOf 1 Tryz.f87)) hg (yl_of (by kernel_rfl : dstOf (opsOf 1 Tryz.f87) 13 = some 17) (by rw [hF.tsize, ok.sz]; decide) eg)
  replace hw : Region.wanted o (yielded (opsOf 1 Tryz.f87) a.tmps) = true := hw
  have e19 : a.eval (.tmp 19) = .pointer (some ⟨X.bx, 0, none⟩) := slotG hF ho h2 (j := 15) (d := 19) (by kernel_rfl) (by kernel_rfl) (by rw [ok.sz]; decide)
  refine st_pureW hF hC hW ho h2 (by decide) hd hw rfl ?_
  show _ = Result.ok (Next.value (.pointer (some ⟨X.bx, 3, none⟩))) w
  generalize a.eval = ρ at e19 ⊢
  unfold execOp
  rw [hop]
  simp [e19, go_sem]
theorem AWC.s17 (X : AWC) (ok : AWCOk X) {Q : Exit → Act → World → Prop} : StepG (opsOf 1 Tryz.f87) AWC.acts AWC.av X.val0 X.Wd X.a0 Q 17 := by
  intro γ listed a w o hF hC hW h1 ho h2
  obtain ⟨hd, hop, hg⟩ := fields2 (x := some 21) (y := Op.load 23 (.tmp 20)) (z := some (13, false)) (by kernel_rfl) ho
  have eg : a.eval (.tmp 17) = .bool false := slotG hF ho h2 (j := 13) (d := 17) (by kernel_rfl) (by kernel_rfl) (by rw [ok.sz]; decide)
  have hw := wanted_of (ops := (opsOf 1 Tryz.f87)) hg (yl_of (by kernel_rfl : dstOf (opsOf 1 Tryz.f87) 13 = some 17) (by rw [hF.tsize, ok.sz]; decide) eg)
  replace hw : Region.wanted o (yielded (opsOf 1 Tryz.f87) a.tmps) = true := hw
  have e20 : a.eval (.tmp 20) = .pointer (some ⟨X.bx, 3, none⟩) := slotG hF ho h2 (j := 16) (d := 20) (by kernel_rfl) (by kernel_rfl) (by rw [ok.sz]; decide)
  have hc0 := rq_at (AWC.kp hW) ok.c3
  refine st_pureW hF hC hW ho h2 (by decide) hd hw rfl ?_
  show _ = Result.ok (Next.value (.slice (some ⟨X.g, 0, none⟩) X.n X.uc)) w
  generalize a.eval = ρ at e20 ⊢
  unfold execOp
  rw [hop]
  simp [e20, hc0, go_sem]
theorem AWC.s18 (X : AWC) (ok : AWCOk X) {Q : Exit → Act → World → Prop} : StepG (opsOf 1 Tryz.f87) AWC.acts AWC.av X.val0 X.Wd X.a0 Q 18 := by
  intro γ listed a w o hF hC hW h1 ho h2
  obtain ⟨hd, hop, hg⟩ := fields2 (x := some 22) (y := Op.move (.tmp 0)) (z := some (13, false)) (by kernel_rfl) ho
  have eg : a.eval (.tmp 17) = .bool false := slotG hF ho h2 (j := 13) (d := 17) (by kernel_rfl) (by kernel_rfl) (by rw [ok.sz]; decide)
  have hw := wanted_of (ops := (opsOf 1 Tryz.f87)) hg (yl_of (by kernel_rfl : dstOf (opsOf 1 Tryz.f87) 13 = some 17) (by rw [hF.tsize, ok.sz]; decide) eg)
  replace hw : Region.wanted o (yielded (opsOf 1 Tryz.f87) a.tmps) = true := hw
  have e0 : a.eval (.tmp 0) = .pointer (some ⟨X.bx, 0, none⟩) := (hF.eval0 (by kernel_rfl)).trans ok.e0
  refine st_pureW hF hC hW ho h2 (by decide) hd hw rfl ?_
  show _ = Result.ok (Next.value (.pointer (some ⟨X.bx, 0, none⟩))) w
  generalize a.eval = ρ at e0 ⊢
  unfold execOp
  rw [hop]
  simp [e0, go_sem]
theorem AWC.s19 (X : AWC) (ok : AWCOk X) {Q : Exit → Act → World → Prop} : StepG (opsOf 1 Tryz.f87) AWC.acts AWC.av X.val0 X.Wd X.a0 Q 19 := by
  intro γ listed a w o hF hC hW h1 ho h2
  obtain ⟨hd, hop, hg⟩ := fields2 (x := some 23) (y := Op.nilCheck (.tmp 22)) (z := some (13, false)) (by kernel_rfl) ho
  have eg : a.eval (.tmp 17) = .bool false := slotG hF ho h2 (j := 13) (d := 17) (by kernel_rfl) (by kernel_rfl) (by rw [ok.sz]; decide)
  have hw := wanted_of (ops := (opsOf 1 Tryz.f87)) hg (yl_of (by kernel_rfl : dstOf (opsOf 1 Tryz.f87) 13 = some 17) (by rw [hF.tsize, ok.sz]; decide) eg)
  replace hw : Region.wanted o (yielded (opsOf 1 Tryz.f87) a.tmps) = true := hw
  have e22 : a.eval (.tmp 22) = .pointer (some ⟨X.bx, 0, none⟩) := slotG hF ho h2 (j := 18) (d := 22) (by kernel_rfl) (by kernel_rfl) (by rw [ok.sz]; decide)
  refine st_pureW hF hC hW ho h2 (by decide) hd hw rfl ?_
  show _ = Result.ok (Next.value (.pointer (some ⟨X.bx, 0, none⟩))) w
  generalize a.eval = ρ at e22 ⊢
  unfold execOp
  rw [hop]
  simp [e22, go_sem]
theorem AWC.s20 (X : AWC) (ok : AWCOk X) {Q : Exit → Act → World → Prop} : StepG (opsOf 1 Tryz.f87) AWC.acts AWC.av X.val0 X.Wd X.a0 Q 20 := by
  intro γ listed a w o hF hC hW h1 ho h2
  obtain ⟨hd, hop, hg⟩ := fields2 (x := some 24) (y := Op.fieldAddr 100 (.tmp 23) 3) (z := some (13, false)) (by kernel_rfl) ho
  have eg : a.eval (.tmp 17) = .bool false := slotG hF ho h2 (j := 13) (d := 17) (by kernel_rfl) (by kernel_rfl) (by rw [ok.sz]; decide)
  have hw := wanted_of (ops := (opsOf 1 Tryz.f87)) hg (yl_of (by kernel_rfl : dstOf (opsOf 1 Tryz.f87) 13 = some 17) (by rw [hF.tsize, ok.sz]; decide) eg)
  replace hw : Region.wanted o (yielded (opsOf 1 Tryz.f87) a.tmps) = true := hw
  have e23 : a.eval (.tmp 23) = .pointer (some ⟨X.bx, 0, none⟩) := slotG hF ho h2 (j := 19) (d := 23) (by kernel_rfl) (by kernel_rfl) (by rw [ok.sz]; decide)
  refine st_pureW hF hC hW ho h2 (by decide) hd hw rfl ?_
  show _ = Result.ok (Next.value (.pointer (some ⟨X.bx, 3, none⟩))) w
  generalize a.eval = ρ at e23 ⊢
  unfold execOp
  rw [hop]
  simp [e23, go_sem]
theorem AWC.s21 (X : AWC) (ok : AWCOk X) {Q : Exit → Act → World → Prop} : StepG (opsOf 1 Tryz.f87) AWC.acts AWC.av X.val0 X.Wd X.a0 Q 21 := by
  intro γ listed a w o hF hC hW h1 ho h2
  obtain ⟨hd, hop, hg⟩ := fields2 (x := some 25) (y := Op.load 23 (.tmp 24)) (z := some (13, false)) (by kernel_rfl) ho
  have eg : a.eval (.tmp 17) = .bool false := slotG hF ho h2 (j := 13) (d := 17) (by kernel_rfl) (by kernel_rfl) (by rw [ok.sz]; decide)
  have hw := wanted_of (ops := (opsOf 1 Tryz.f87)) hg (yl_of (by kernel_rfl : dstOf (opsOf 1 Tryz.f87) 13 = some 17) (by rw [hF.tsize, ok.sz]; decide) eg)
  replace hw : Region.wanted o (yielded (opsOf 1 Tryz.f87) a.tmps) = true := hw
  have e24 : a.eval (.tmp 24) = .pointer (some ⟨X.bx, 3, none⟩) := slotG hF ho h2 (j := 20) (d := 24) (by kernel_rfl) (by kernel_rfl) (by rw [ok.sz]; decide)
  have hc0 := rq_at (AWC.kp hW) ok.c3
  refine st_pureW hF hC hW ho h2 (by decide) hd hw rfl ?_
  show _ = Result.ok (Next.value (.slice (some ⟨X.g, 0, none⟩) X.n X.uc)) w
  generalize a.eval = ρ at e24 ⊢
  unfold execOp
  rw [hop]
  simp [e24, hc0, go_sem]
theorem AWC.s22 (X : AWC) (ok : AWCOk X) {Q : Exit → Act → World → Prop} : StepG (opsOf 1 Tryz.f87) AWC.acts AWC.av X.val0 X.Wd X.a0 Q 22 := by
  intro γ listed a w o hF hC hW h1 ho h2
  obtain ⟨hd, hop, hg⟩ := fields2 (x := some 26) (y := Op.call { callee := .builtin .len, args := #[(.tmp 25)], argTypes := #[23] }) (z := some (13, false)) (by kernel_rfl) ho
  have eg : a.eval (.tmp 17) = .bool false := slotG hF ho h2 (j := 13) (d := 17) (by kernel_rfl) (by kernel_rfl) (by rw [ok.sz]; decide)
  have hw := wanted_of (ops := (opsOf 1 Tryz.f87)) hg (yl_of (by kernel_rfl : dstOf (opsOf 1 Tryz.f87) 13 = some 17) (by rw [hF.tsize, ok.sz]; decide) eg)
  replace hw : Region.wanted o (yielded (opsOf 1 Tryz.f87) a.tmps) = true := hw
  have e25 : a.eval (.tmp 25) = .slice (some ⟨X.g, 0, none⟩) X.n X.uc := slotG hF ho h2 (j := 21) (d := 25) (by kernel_rfl) (by kernel_rfl) (by rw [ok.sz]; decide)
  refine st_pureW hF hC hW ho h2 (by decide) hd hw rfl ?_
  show _ = Result.ok (Next.value (.int .i64 (X.n : Int))) w
  generalize a.eval = ρ at e25 ⊢
  unfold execOp
  rw [hop]
  simp [e25, go_sem]
theorem AWC.s23 (X : AWC) (ok : AWCOk X) {Q : Exit → Act → World → Prop} : StepG (opsOf 1 Tryz.f87) AWC.acts AWC.av X.val0 X.Wd X.a0 Q 23 := by
  intro γ listed a w o hF hC hW h1 ho h2
  obtain ⟨hd, hop, hg⟩ := fields2 (x := some 27) (y := Op.binOp .sub 3 (.tmp 26) (.const (.int .i64 1)) 3) (z := some (13, false)) (by kernel_rfl) ho
  have eg : a.eval (.tmp 17) = .bool false := slotG hF ho h2 (j := 13) (d := 17) (by kernel_rfl) (by kernel_rfl) (by rw [ok.sz]; decide)
  have hw := wanted_of (ops := (opsOf 1 Tryz.f87)) hg (yl_of (by kernel_rfl : dstOf (opsOf 1 Tryz.f87) 13 = some 17) (by rw [hF.tsize, ok.sz]; decide) eg)
  replace hw : Region.wanted o (yielded (opsOf 1 Tryz.f87) a.tmps) = true := hw
  have e26 : a.eval (.tmp 26) = .int .i64 (X.n : Int) := slotG hF ho h2 (j := 22) (d := 26) (by kernel_rfl) (by kernel_rfl) (by rw [ok.sz]; decide)
  have ec1 : a.eval (.const (.int .i64 1)) = .int .i64 1 := rfl
  refine st_pureW hF hC hW ho h2 (by decide) hd hw rfl ?_
  show _ = Result.ok (Next.value (.int .i64 (X.m : Int))) w
  generalize a.eval = ρ at e26 ec1 ⊢
  unfold execOp
  rw [hop]
  simp [e26, ec1, ok.wm, go_sem]
theorem AWC.s24 (X : AWC) (ok : AWCOk X) {Q : Exit → Act → World → Prop} : StepG (opsOf 1 Tryz.f87) AWC.acts AWC.av X.val0 X.Wd X.a0 Q 24 := by
  intro γ listed a w o hF hC hW h1 ho h2
  obtain ⟨hd, hop, hg⟩ := fields2 (x := some 28) (y := Op.indexAddr 23 (.tmp 21) (.tmp 27)) (z := some (13, false)) (by kernel_rfl) ho
  have eg : a.eval (.tmp 17) = .bool false := slotG hF ho h2 (j := 13) (d := 17) (by kernel_rfl) (by kernel_rfl) (by rw [ok.sz]; decide)
  have hw := wanted_of (ops := (opsOf 1 Tryz.f87)) hg (yl_of (by kernel_rfl : dstOf (opsOf 1 Tryz.f87) 13 = some 17) (by rw [hF.tsize, ok.sz]; decide) eg)
  replace hw : Region.wanted o (yielded (opsOf 1 Tryz.f87) a.tmps) = true := hw
  have e21 : a.eval (.tmp 21) = .slice (some ⟨X.g, 0, none⟩) X.n X.uc := slotG hF ho h2 (j := 17) (d := 21) (by kernel_rfl) (by kernel_rfl) (by rw [ok.sz]; decide)
  have e27 : a.eval (.tmp 27) = .int .i64 (X.m : Int) := slotG hF ho h2 (j := 23) (d := 27) (by kernel_rfl) (by kernel_rfl) (by rw [ok.sz]; decide)
  refine st_pureW hF hC hW ho h2 (by decide) hd hw rfl ?_
  show _ = Result.ok (Next.value (.pointer (some ⟨X.g, X.m * 2, none⟩))) w
  generalize a.eval = ρ at e21 e27 ⊢
  unfold execOp
  rw [hop]
  simp [e21, e27, ok.hm, go_sem]
theorem AWC.s25 (X : AWC) (ok : AWCOk X) {Q : Exit → Act → World → Prop} : StepG (opsOf 1 Tryz.f87) AWC.acts AWC.av X.val0 X.Wd X.a0 Q 25 := by
  intro γ listed a w o hF hC hW h1 ho h2
  obtain ⟨hd, hop, hg⟩ := fields2 (x := some 29) (y := Op.load 34 (.tmp 28)) (z := some (13, false)) (by kernel_rfl) ho
  have eg : a.eval (.tmp 17) = .bool false := slotG hF ho h2 (j := 13) (d := 17) (by kernel_rfl) (by kernel_rfl) (by rw [ok.sz]; decide)
  have hw := wanted_of (ops := (opsOf 1 Tryz.f87)) hg (yl_of (by kernel_rfl : dstOf (opsOf 1 Tryz.f87) 13 = some 17) (by rw [hF.tsize, ok.sz]; decide) eg)
  replace hw : Region.wanted o (yielded (opsOf 1 Tryz.f87) a.tmps) = true := hw
  have e28 : a.eval (.tmp 28) = .pointer (some ⟨X.g, X.m * 2, none⟩) := slotG hF ho h2 (j := 24) (d := 28) (by kernel_rfl) (by kernel_rfl) (by rw [ok.sz]; decide)
  have hc0 := rq_at (AWC.kp hW) ok.px
  have hc1 := rq_at (AWC.kp hW) ok.py
  refine st_pureW hF hC hW ho h2 (by decide) hd hw rfl ?_
  show _ = Result.ok (Next.value (.agg #[.int .i64 X.x, .int .i64 X.y])) w
  generalize a.eval = ρ at e28 ⊢
  unfold execOp
  rw [hop]
  simp [e28, hc0, hc1, go_sem]
theorem AWC.s26 (X : AWC) (ok : AWCOk X) {Q : Exit → Act → World → Prop} : StepG (opsOf 1 Tryz.f87) AWC.acts AWC.av X.val0 X.Wd X.a0 Q 26 := by
  intro γ listed a w o hF hC hW h1 ho h2
  obtain ⟨hd, hop, hg⟩ := fields2 (x := some 30) (y := Op.load 34 (.tmp 3)) (z := some (13, false)) (by kernel_rfl) ho
  have eg : a.eval (.tmp 17) = .bool false := slotG hF ho h2 (j := 13) (d := 17) (by kernel_rfl) (by kernel_rfl) (by rw [ok.sz]; decide)
  have hw := wanted_of (ops := (opsOf 1 Tryz.f87)) hg (yl_of (by kernel_rfl : dstOf (opsOf 1 Tryz.f87) 13 = some 17) (by rw [hF.tsize, ok.sz]; decide) eg)
  replace hw : Region.wanted o (yielded (opsOf 1 Tryz.f87) a.tmps) = true := hw
  have e3 : a.eval (.tmp 3) = .pointer (some ⟨X.bq, 0, none⟩) := (hF.eval0 (by kernel_rfl)).trans ok.e3
  have hc0 := rq_at (AWC.kp hW) ok.q0
  have hc1 := rq_at (AWC.kp hW) ok.q1
  refine st_pureW hF hC hW ho h2 (by decide) hd hw rfl ?_
  show _ = Result.ok (Next.value (.agg #[.int .i64 X.x, .int .i64 X.y])) w
  generalize a.eval = ρ at e3 ⊢
  unfold execOp
  rw [hop]
  simp [e3, hc0, hc1, go_sem]
theorem AWC.s27 (X : AWC) (ok : AWCOk X) {Q : Exit → Act → World → Prop} : StepG (opsOf 1 Tryz.f87) AWC.acts AWC.av X.val0 X.Wd X.a0 Q 27 := by
  intro γ listed a w o hF hC hW h1 ho h2
  obtain ⟨hd, hop, hg⟩ := fields2 (x := some 31) (y := Op.binOp .neq 34 (.tmp 29) (.tmp 30) 34) (z := some (13, false)) (by kernel_rfl) ho
  have eg : a.eval (.tmp 17) = .bool false := slotG hF ho h2 (j := 13) (d := 17) (by kernel_rfl) (by kernel_rfl) (by rw [ok.sz]; decide)
  have hw := wanted_of (ops := (opsOf 1 Tryz.f87)) hg (yl_of (by kernel_rfl : dstOf (opsOf 1 Tryz.f87) 13 = some 17) (by rw [hF.tsize, ok.sz]; decide) eg)
  replace hw : Region.wanted o (yielded (opsOf 1 Tryz.f87) a.tmps) = true := hw
  have e29 : a.eval (.tmp 29) = .agg #[.int .i64 X.x, .int .i64 X.y] := slotG hF ho h2 (j := 25) (d := 29) (by kernel_rfl) (by kernel_rfl) (by rw [ok.sz]; decide)
  have e30 : a.eval (.tmp 30) = .agg #[.int .i64 X.x, .int .i64 X.y] := slotG hF ho h2 (j := 26) (d := 30) (by kernel_rfl) (by kernel_rfl) (by rw [ok.sz]; decide)
  refine st_pureW hF hC hW ho h2 (by decide) hd hw rfl ?_
  show _ = Result.ok (Next.value (.bool false)) w
  generalize a.eval = ρ at e29 e30 ⊢
  unfold execOp
  rw [hop]
  simp [e29, e30, go_sem]
theorem AWC.s28 (X : AWC) (ok : AWCOk X) {Q : Exit → Act → World → Prop} : StepG (opsOf 1 Tryz.f87) AWC.acts AWC.av X.val0 X.Wd X.a0 Q 28 := by
  intro γ listed a w o hF hC hW h1 ho h2
  obtain ⟨hd, hop, hg⟩ := fields2 (x := some 32) (y := Op.pick (.tmp 17) (.const (.bool true)) (.tmp 31)) (z := some (6, true)) (by kernel_rfl) ho
  have eg : a.eval (.tmp 10) = .bool true := slotG hF ho h2 (j := 6) (d := 10) (by kernel_rfl) (by kernel_rfl) (by rw [ok.sz]; decide)
  have hw := wanted_of (ops := (opsOf 1 Tryz.f87)) hg (yl_of (by kernel_rfl : dstOf (opsOf 1 Tryz.f87) 6 = some 10) (by rw [hF.tsize, ok.sz]; decide) eg)
  replace hw : Region.wanted o (yielded (opsOf 1 Tryz.f87) a.tmps) = true := hw
  have e17 : a.eval (.tmp 17) = .bool false := slotG hF ho h2 (j := 13) (d := 17) (by kernel_rfl) (by kernel_rfl) (by rw [ok.sz]; decide)
  have ec1 : a.eval (.const (.bool true)) = .bool true := rfl
  have e31 : a.eval (.tmp 31) = .bool false := slotG hF ho h2 (j := 27) (d := 31) (by kernel_rfl) (by kernel_rfl) (by rw [ok.sz]; decide)
  refine st_pureW hF hC hW ho h2 (by decide) hd hw rfl ?_
  show _ = Result.ok (Next.value (.bool false)) w
  generalize a.eval = ρ at e17 ec1 e31 ⊢
  unfold execOp
  rw [hop]
  simp [e17, ec1, e31, go_sem]
theorem AWC.s29 (X : AWC) (ok : AWCOk X) {Q : Exit → Act → World → Prop} : StepG (opsOf 1 Tryz.f87) AWC.acts AWC.av X.val0 X.Wd X.a0 Q 29 := by
  intro γ listed a w o hF hC hW h1 ho h2
  obtain ⟨hd, hop, hg⟩ := fields2 (x := some 33) (y := Op.pick (.tmp 10) (.tmp 32) (.const (.bool false))) (z := none) (by kernel_rfl) ho
  have e10 : a.eval (.tmp 10) = .bool true := slotG hF ho h2 (j := 6) (d := 10) (by kernel_rfl) (by kernel_rfl) (by rw [ok.sz]; decide)
  have e32 : a.eval (.tmp 32) = .bool false := slotG hF ho h2 (j := 28) (d := 32) (by kernel_rfl) (by kernel_rfl) (by rw [ok.sz]; decide)
  have ec2 : a.eval (.const (.bool false)) = .bool false := rfl
  refine st_pureG hF hC hW ho h2 (by decide) hd hg rfl ?_
  show _ = Result.ok (Next.value (.bool false)) w
  generalize a.eval = ρ at e10 e32 ec2 ⊢
  unfold execOp
  rw [hop]
  simp [e10, e32, ec2, go_sem]
theorem AWC.size : (opsOf 1 Tryz.f87).size = 30 := by kernel_rfl
theorem AWC.steps (X : AWC) (ok : AWCOk X) {Q : Exit → Act → World → Prop} (i : Nat) (hi : i < (opsOf 1 Tryz.f87).size) : StepG (opsOf 1 Tryz.f87) AWC.acts AWC.av X.val0 X.Wd X.a0 Q i := by
  rw [AWC.size] at hi
  have hc : i = 0 ∨ i = 1 ∨ i = 2 ∨ i = 3 ∨ i = 4 ∨ i = 5 ∨ i = 6 ∨ i = 7 ∨ i = 8 ∨ i = 9 ∨ i = 10 ∨ i = 11 ∨ i = 12 ∨ i = 13 ∨ i = 14 ∨ i = 15 ∨ i = 16 ∨ i = 17 ∨ i = 18 ∨ i = 19 ∨ i = 20 ∨ i = 21 ∨ i = 22 ∨ i = 23 ∨ i = 24 ∨ i = 25 ∨ i = 26 ∨ i = 27 ∨ i = 28 ∨ i = 29 := by omega
  rcases hc with rfl | rfl | rfl | rfl | rfl | rfl | rfl | rfl | rfl | rfl | rfl | rfl | rfl | rfl | rfl | rfl | rfl | rfl | rfl | rfl | rfl | rfl | rfl | rfl | rfl | rfl | rfl | rfl | rfl | rfl
  · exact AWC.s0 X ok
  · exact AWC.s1 X ok
  · exact AWC.s2 X ok
  · exact AWC.s3 X ok
  · exact AWC.s4 X ok
  · exact AWC.s5 X ok
  · exact AWC.s6 X ok
  · exact AWC.s7 X ok
  · exact AWC.s8 X ok
  · exact AWC.s9 X ok
  · exact AWC.s10 X ok
  · exact AWC.s11 X ok
  · exact AWC.s12 X ok
  · exact AWC.s13 X ok
  · exact AWC.s14 X ok
  · exact AWC.s15 X ok
  · exact AWC.s16 X ok
  · exact AWC.s17 X ok
  · exact AWC.s18 X ok
  · exact AWC.s19 X ok
  · exact AWC.s20 X ok
  · exact AWC.s21 X ok
  · exact AWC.s22 X ok
  · exact AWC.s23 X ok
  · exact AWC.s24 X ok
  · exact AWC.s25 X ok
  · exact AWC.s26 X ok
  · exact AWC.s27 X ok
  · exact AWC.s28 X ok
  · exact AWC.s29 X ok
theorem AWC.puts (X : AWC) (γ : Nat → Value) (a0 : Act) : putsL (valG AWC.av X.val0 γ) (opsOf 1 Tryz.f87).toList a0 = ((((((((((((((((((((((((((((((a0.put (some 4) (.pointer (some ⟨X.bx, 0, none⟩))).put (some 5) (.pointer (some ⟨X.bx, 0, none⟩))).put (some 6) (.pointer (some ⟨X.bx, 1, none⟩))).put (some 7) (.int .i64 X.k)).put (some 8) (.int .i64 X.r)).put (some 9) (.bool true)).put (some 10) (.bool true)).put (some 11) (.pointer (some ⟨X.bx, 0, none⟩))).put (some 12) (.pointer (some ⟨X.bx, 0, none⟩))).put (some 13) (.pointer (some ⟨X.bx, 3, none⟩))).put (some 14) (.slice (some ⟨X.g, 0, none⟩) X.n X.uc)).put (some 15) (.int .i64 (X.n : Int))).put (some 16) (.bool false)).put (some 17) (.bool false)).put (some 18) (.pointer (some ⟨X.bx, 0, none⟩))).put (some 19) (.pointer (some ⟨X.bx, 0, none⟩))).put (some 20) (.pointer (some ⟨X.bx, 3, none⟩))).put (some 21) (.slice (some ⟨X.g, 0, none⟩) X.n X.uc)).put (some 22) (.pointer (some ⟨X.bx, 0, none⟩))).put (some 23) (.pointer (some ⟨X.bx, 0, none⟩))).put (some 24) (.pointer (some ⟨X.bx, 3, none⟩))).put (some 25) (.slice (some ⟨X.g, 0, none⟩) X.n X.uc)).put (some 26) (.int .i64 (X.n : Int))).put (some 27) (.int .i64 (X.m : Int))).put (some 28) (.pointer (some ⟨X.g, X.m * 2, none⟩))).put (some 29) (.agg #[.int .i64 X.x, .int .i64 X.y])).put (some 30) (.agg #[.int .i64 X.x, .int .i64 X.y])).put (some 31) (.bool false)).put (some 32) (.bool false)).put (some 33) (.bool false)) := by kernel_rfl
/-- The region, whatever order comes up. -/
theorem AWC.run (X : AWC) (ok : AWCOk X) {Q : Exit → Act → World → Prop} (w : World) (h0 : X.Wd 0 (fun _ => undef) w.drew) (hend : ∀ (γ : Nat → Value) w', X.Wd 0 γ w' → Q .normal ((((((((((((((((((((((((((((((X.a0.put (some 4) (.pointer (some ⟨X.bx, 0, none⟩))).put (some 5) (.pointer (some ⟨X.bx, 0, none⟩))).put (some 6) (.pointer (some ⟨X.bx, 1, none⟩))).put (some 7) (.int .i64 X.k)).put (some 8) (.int .i64 X.r)).put (some 9) (.bool true)).put (some 10) (.bool true)).put (some 11) (.pointer (some ⟨X.bx, 0, none⟩))).put (some 12) (.pointer (some ⟨X.bx, 0, none⟩))).put (some 13) (.pointer (some ⟨X.bx, 3, none⟩))).put (some 14) (.slice (some ⟨X.g, 0, none⟩) X.n X.uc)).put (some 15) (.int .i64 (X.n : Int))).put (some 16) (.bool false)).put (some 17) (.bool false)).put (some 18) (.pointer (some ⟨X.bx, 0, none⟩))).put (some 19) (.pointer (some ⟨X.bx, 0, none⟩))).put (some 20) (.pointer (some ⟨X.bx, 3, none⟩))).put (some 21) (.slice (some ⟨X.g, 0, none⟩) X.n X.uc)).put (some 22) (.pointer (some ⟨X.bx, 0, none⟩))).put (some 23) (.pointer (some ⟨X.bx, 0, none⟩))).put (some 24) (.pointer (some ⟨X.bx, 3, none⟩))).put (some 25) (.slice (some ⟨X.g, 0, none⟩) X.n X.uc)).put (some 26) (.int .i64 (X.n : Int))).put (some 27) (.int .i64 (X.m : Int))).put (some 28) (.pointer (some ⟨X.g, X.m * 2, none⟩))).put (some 29) (.agg #[.int .i64 X.x, .int .i64 X.y])).put (some 30) (.agg #[.int .i64 X.x, .int .i64 X.y])).put (some 31) (.bool false)).put (some 32) (.bool false)).put (some 33) (.bool false)) w') : (Code.region 1 (opsOf 1 Tryz.f87) true).wp Tryz.prog Q X.a0 w := by
  refine reg_act (acts := AWC.acts) (av := AWC.av) (val0 := X.val0) (Wd := X.Wd) (by kernel_rfl) (by kernel_rfl) (by rw [AWC.size]; decide) (fun i hi => AWC.steps X ok i hi) _ h0 ?_
  intro γ w' h
  rw [AWC.puts]
  exact hend γ w' h
structure AWD where
  bx : Nat
  bq : Nat
  x : Int
  y : Int
  k : Int
  r : Int
  g : Nat
  n : Nat
  m : Nat
  uc : Nat
  lx : Int
  ly : Int
  W : World
  a0 : Act
structure AWDOk (X : AWD) : Prop where
  c1 : X.W.cell? ⟨X.bx, 1, none⟩ = some (.int .i64 X.k)
  c3 : X.W.cell? ⟨X.bx, 3, none⟩ = some (.slice (some ⟨X.g, 0, none⟩) X.n X.uc)
  q0 : X.W.cell? ⟨X.bq, 0, none⟩ = some (.int .i64 X.x)
  q1 : X.W.cell? ⟨X.bq, 1, none⟩ = some (.int .i64 X.y)
  rm : X.k.tmod 2 = X.r
  hr : (X.r == 0) = true
  h0 : ((X.n : Int) == 0) = false
  wm : IntKind.i64.wrap ((X.n : Int) - 1) = (X.m : Int)
  hm : X.m < X.n
  px : X.W.cell? ⟨X.g, X.m * 2, none⟩ = some (.int .i64 X.lx)
  py : X.W.cell? ⟨X.g, X.m * 2 + 1, none⟩ = some (.int .i64 X.ly)
  hv : X.lx = X.x → ¬X.ly = X.y
  e0 : X.a0.eval (.tmp 0) = .pointer (some ⟨X.bx, 0, none⟩)
  e3 : X.a0.eval (.tmp 3) = .pointer (some ⟨X.bq, 0, none⟩)
  sz : X.a0.tmps.size = 44
def AWD.val0 (X : AWD) : Nat → Value
  | 4 => .pointer (some ⟨X.bx, 0, none⟩)
  | 5 => .pointer (some ⟨X.bx, 0, none⟩)
  | 6 => .pointer (some ⟨X.bx, 1, none⟩)
  | 7 => .int .i64 X.k
  | 8 => .int .i64 X.r
  | 9 => .bool true
  | 10 => .bool true
  | 11 => .pointer (some ⟨X.bx, 0, none⟩)
  | 12 => .pointer (some ⟨X.bx, 0, none⟩)
  | 13 => .pointer (some ⟨X.bx, 3, none⟩)
  | 14 => .slice (some ⟨X.g, 0, none⟩) X.n X.uc
  | 15 => .int .i64 (X.n : Int)
  | 16 => .bool false
  | 17 => .bool false
  | 18 => .pointer (some ⟨X.bx, 0, none⟩)
  | 19 => .pointer (some ⟨X.bx, 0, none⟩)
  | 20 => .pointer (some ⟨X.bx, 3, none⟩)
  | 21 => .slice (some ⟨X.g, 0, none⟩) X.n X.uc
  | 22 => .pointer (some ⟨X.bx, 0, none⟩)
  | 23 => .pointer (some ⟨X.bx, 0, none⟩)
  | 24 => .pointer (some ⟨X.bx, 3, none⟩)
  | 25 => .slice (some ⟨X.g, 0, none⟩) X.n X.uc
  | 26 => .int .i64 (X.n : Int)
  | 27 => .int .i64 (X.m : Int)
  | 28 => .pointer (some ⟨X.g, X.m * 2, none⟩)
  | 29 => .agg #[.int .i64 X.lx, .int .i64 X.ly]
  | 30 => .agg #[.int .i64 X.x, .int .i64 X.y]
  | 31 => .bool true
  | 32 => .bool true
  | 33 => .bool true
  | _ => undef
def AWD.av : Nat → Option Nat
  | _ => none
def AWD.acts : List Nat := []
/-- The world, by how many of the acting ones have come up. -/
def AWD.Wd (X : AWD) : Nat → (Nat → Value) → World → Prop
  | _, _, w => Kp X.W w
theorem AWD.kp {X : AWD} {n : Nat} {γ : Nat → Value} {w : World} (h : X.Wd n γ w) : Kp X.W w := h
theorem AWD.keep {X : AWD} {n : Nat} {γ : Nat → Value} {w w' : World} (h : X.Wd n γ w) (k : Kp w w') : X.Wd n γ w' := Kp.trans h k
theorem AWD.chain : chainG (opsOf 1 Tryz.f87) AWD.acts = true := by kernel_rfl
theorem AWD.nodup : AWD.acts.Nodup := by decide
theorem AWD.inj {listed : Array Bool} {i k : Nat} (h : (List.range (opsOf 1 Tryz.f87).size).all (fun j => decide (j = i) || !(match dstOf (opsOf 1 Tryz.f87) j with | some d => decide (AWD.av d = some k) | none => false)) = true) (hu : listed.getD i false = false) : ∀ d, got (opsOf 1 Tryz.f87) listed d → AWD.av d ≠ some k := by
  rintro d ⟨j, h1, h2⟩ h3
  have hlt : j < (opsOf 1 Tryz.f87).size := by
    rcases Nat.lt_or_ge j (opsOf 1 Tryz.f87).size with h4 | h4
    · exact h4
    · unfold dstOf at h2; rw [Array.getElem?_eq_none h4] at h2; cases h2
  have h5 := List.all_eq_true.1 h j (List.mem_range.2 hlt)
  rw [h2] at h5
  simp only [h3, decide_true, Bool.not_true, Bool.or_false, decide_eq_true_eq] at h5
  subst h5
  rw [hu] at h1
  cases h1
theorem AWD.s0 (X : AWD) (ok : AWDOk X) {Q : Exit → Act → World → Prop} : StepG (opsOf 1 Tryz.f87) AWD.acts AWD.av X.val0 X.Wd X.a0 Q 0 := by
  intro γ listed a w o hF hC hW h1 ho h2
  obtain ⟨hd, hop, hg⟩ := fields2 (x := some 4) (y := Op.move (.tmp 0)) (z := none) (by kernel_rfl) ho
  have e0 : a.eval (.tmp 0) = .pointer (some ⟨X.bx, 0, none⟩) := (hF.eval0 (by kernel_rfl)).trans ok.e0
  refine st_pureG hF hC hW ho h2 (by decide) hd hg rfl ?_
  show _ = Result.ok (Next.value (.pointer (some ⟨X.bx, 0, none⟩))) w
  generalize a.eval = ρ at e0 ⊢
  unfold execOp
  rw [hop]
  simp [e0, go_sem]
theorem AWD.s1 (X : AWD) (ok : AWDOk X) {Q : Exit → Act → World → Prop} : StepG (opsOf 1 Tryz.f87) AWD.acts AWD.av X.val0 X.Wd X.a0 Q 1 := by
  intro γ listed a w o hF hC hW h1 ho h2
  obtain ⟨hd, hop, hg⟩ := fields2 (x := some 5) (y := Op.nilCheck (.tmp 4)) (z := none) (by kernel_rfl) ho
  have e4 : a.eval (.tmp 4) = .pointer (some ⟨X.bx, 0, none⟩) := slotG hF ho h2 (j := 0) (d := 4) (by kernel_rfl) (by kernel_rfl) (by rw [ok.sz]; decide)
  refine st_pureG hF hC hW ho h2 (by decide) hd hg rfl ?_
  show _ = Result.ok (Next.value (.pointer (some ⟨X.bx, 0, none⟩))) w
  generalize a.eval = ρ at e4 ⊢
  unfold execOp
  rw [hop]
  simp [e4, go_sem]
theorem AWD.s2 (X : AWD) (ok : AWDOk X) {Q : Exit → Act → World → Prop} : StepG (opsOf 1 Tryz.f87) AWD.acts AWD.av X.val0 X.Wd X.a0 Q 2 := by
  intro γ listed a w o hF hC hW h1 ho h2
  obtain ⟨hd, hop, hg⟩ := fields2 (x := some 6) (y := Op.fieldAddr 100 (.tmp 5) 1) (z := none) (by kernel_rfl) ho
  have e5 : a.eval (.tmp 5) = .pointer (some ⟨X.bx, 0, none⟩) := slotG hF ho h2 (j := 1) (d := 5) (by kernel_rfl) (by kernel_rfl) (by rw [ok.sz]; decide)
  refine st_pureG hF hC hW ho h2 (by decide) hd hg rfl ?_
  show _ = Result.ok (Next.value (.pointer (some ⟨X.bx, 1, none⟩))) w
  generalize a.eval = ρ at e5 ⊢
  unfold execOp
  rw [hop]
  simp [e5, go_sem]
theorem AWD.s3 (X : AWD) (ok : AWDOk X) {Q : Exit → Act → World → Prop} : StepG (opsOf 1 Tryz.f87) AWD.acts AWD.av X.val0 X.Wd X.a0 Q 3 := by
  intro γ listed a w o hF hC hW h1 ho h2
  obtain ⟨hd, hop, hg⟩ := fields2 (x := some 7) (y := Op.load 3 (.tmp 6)) (z := none) (by kernel_rfl) ho
  have e6 : a.eval (.tmp 6) = .pointer (some ⟨X.bx, 1, none⟩) := slotG hF ho h2 (j := 2) (d := 6) (by kernel_rfl) (by kernel_rfl) (by rw [ok.sz]; decide)
  have hc0 := rq_at (AWD.kp hW) ok.c1
  refine st_pureG hF hC hW ho h2 (by decide) hd hg rfl ?_
  show _ = Result.ok (Next.value (.int .i64 X.k)) w
  generalize a.eval = ρ at e6 ⊢
  unfold execOp
  rw [hop]
  simp [e6, hc0, go_sem]
theorem AWD.s4 (X : AWD) (ok : AWDOk X) {Q : Exit → Act → World → Prop} : StepG (opsOf 1 Tryz.f87) AWD.acts AWD.av X.val0 X.Wd X.a0 Q 4 := by
  intro γ listed a w o hF hC hW h1 ho h2
  obtain ⟨hd, hop, hg⟩ := fields2 (x := some 8) (y := Op.binOp .rem 3 (.tmp 7) (.const (.int .i64 2)) 3) (z := none) (by kernel_rfl) ho
  have e7 : a.eval (.tmp 7) = .int .i64 X.k := slotG hF ho h2 (j := 3) (d := 7) (by kernel_rfl) (by kernel_rfl) (by rw [ok.sz]; decide)
  have ec1 : a.eval (.const (.int .i64 2)) = .int .i64 2 := rfl
  refine st_pureG hF hC hW ho h2 (by decide) hd hg rfl ?_
  show _ = Result.ok (Next.value (.int .i64 X.r)) w
  generalize a.eval = ρ at e7 ec1 ⊢
  unfold execOp
  rw [hop]
  simp [e7, ec1, ok.rm, go_sem]
theorem AWD.s5 (X : AWD) (ok : AWDOk X) {Q : Exit → Act → World → Prop} : StepG (opsOf 1 Tryz.f87) AWD.acts AWD.av X.val0 X.Wd X.a0 Q 5 := by
  intro γ listed a w o hF hC hW h1 ho h2
  obtain ⟨hd, hop, hg⟩ := fields2 (x := some 9) (y := Op.binOp .eql 3 (.tmp 8) (.const (.int .i64 0)) 3) (z := none) (by kernel_rfl) ho
  have e8 : a.eval (.tmp 8) = .int .i64 X.r := slotG hF ho h2 (j := 4) (d := 8) (by kernel_rfl) (by kernel_rfl) (by rw [ok.sz]; decide)
  have ec1 : a.eval (.const (.int .i64 0)) = .int .i64 0 := rfl
  refine st_pureG hF hC hW ho h2 (by decide) hd hg rfl ?_
  show _ = Result.ok (Next.value (.bool true)) w
  generalize a.eval = ρ at e8 ec1 ⊢
  unfold execOp
  rw [hop]
  simp [e8, ec1, ok.hr, go_sem]
theorem AWD.s6 (X : AWD) (ok : AWDOk X) {Q : Exit → Act → World → Prop} : StepG (opsOf 1 Tryz.f87) AWD.acts AWD.av X.val0 X.Wd X.a0 Q 6 := by
  intro γ listed a w o hF hC hW h1 ho h2
  obtain ⟨hd, hop, hg⟩ := fields2 (x := some 10) (y := Op.move (.tmp 9)) (z := none) (by kernel_rfl) ho
  have e9 : a.eval (.tmp 9) = .bool true := slotG hF ho h2 (j := 5) (d := 9) (by kernel_rfl) (by kernel_rfl) (by rw [ok.sz]; decide)
  refine st_pureG hF hC hW ho h2 (by decide) hd hg rfl ?_
  show _ = Result.ok (Next.value (.bool true)) w
  generalize a.eval = ρ at e9 ⊢
  unfold execOp
  rw [hop]
  simp [e9, go_sem]
theorem AWD.s7 (X : AWD) (ok : AWDOk X) {Q : Exit → Act → World → Prop} : StepG (opsOf 1 Tryz.f87) AWD.acts AWD.av X.val0 X.Wd X.a0 Q 7 := by
  intro γ listed a w o hF hC hW h1 ho h2
  obtain ⟨hd, hop, hg⟩ := fields2 (x := some 11) (y := Op.move (.tmp 0)) (z := some (6, true)) (by kernel_rfl) ho
  have eg : a.eval (.tmp 10) = .bool true := slotG hF ho h2 (j := 6) (d := 10) (by kernel_rfl) (by kernel_rfl) (by rw [ok.sz]; decide)
  have hw := wanted_of (ops := (opsOf 1 Tryz.f87)) hg (yl_of (by kernel_rfl : dstOf (opsOf 1 Tryz.f87) 6 = some 10) (by rw [hF.tsize, ok.sz]; decide) eg)
  replace hw : Region.wanted o (yielded (opsOf 1 Tryz.f87) a.tmps) = true := hw
  have e0 : a.eval (.tmp 0) = .pointer (some ⟨X.bx, 0, none⟩) := (hF.eval0 (by kernel_rfl)).trans ok.e0
  refine st_pureW hF hC hW ho h2 (by decide) hd hw rfl ?_
  show _ = Result.ok (Next.value (.pointer (some ⟨X.bx, 0, none⟩))) w
  generalize a.eval = ρ at e0 ⊢
  unfold execOp
  rw [hop]
  simp [e0, go_sem]
theorem AWD.s8 (X : AWD) (ok : AWDOk X) {Q : Exit → Act → World → Prop} : StepG (opsOf 1 Tryz.f87) AWD.acts AWD.av X.val0 X.Wd X.a0 Q 8 := by
  intro γ listed a w o hF hC hW h1 ho h2
  obtain ⟨hd, hop, hg⟩ := fields2 (x := some 12) (y := Op.nilCheck (.tmp 11)) (z := some (6, true)) (by kernel_rfl) ho
  have eg : a.eval (.tmp 10) = .bool true := slotG hF ho h2 (j := 6) (d := 10) (by kernel_rfl) (by kernel_rfl) (by rw [ok.sz]; decide)
  have hw := wanted_of (ops := (opsOf 1 Tryz.f87)) hg (yl_of (by kernel_rfl : dstOf (opsOf 1 Tryz.f87) 6 = some 10) (by rw [hF.tsize, ok.sz]; decide) eg)
  replace hw : Region.wanted o (yielded (opsOf 1 Tryz.f87) a.tmps) = true := hw
  have e11 : a.eval (.tmp 11) = .pointer (some ⟨X.bx, 0, none⟩) := slotG hF ho h2 (j := 7) (d := 11) (by kernel_rfl) (by kernel_rfl) (by rw [ok.sz]; decide)
  refine st_pureW hF hC hW ho h2 (by decide) hd hw rfl ?_
  show _ = Result.ok (Next.value (.pointer (some ⟨X.bx, 0, none⟩))) w
  generalize a.eval = ρ at e11 ⊢
  unfold execOp
  rw [hop]
  simp [e11, go_sem]
theorem AWD.s9 (X : AWD) (ok : AWDOk X) {Q : Exit → Act → World → Prop} : StepG (opsOf 1 Tryz.f87) AWD.acts AWD.av X.val0 X.Wd X.a0 Q 9 := by
  intro γ listed a w o hF hC hW h1 ho h2
  obtain ⟨hd, hop, hg⟩ := fields2 (x := some 13) (y := Op.fieldAddr 100 (.tmp 12) 3) (z := some (6, true)) (by kernel_rfl) ho
  have eg : a.eval (.tmp 10) = .bool true := slotG hF ho h2 (j := 6) (d := 10) (by kernel_rfl) (by kernel_rfl) (by rw [ok.sz]; decide)
  have hw := wanted_of (ops := (opsOf 1 Tryz.f87)) hg (yl_of (by kernel_rfl : dstOf (opsOf 1 Tryz.f87) 6 = some 10) (by rw [hF.tsize, ok.sz]; decide) eg)
  replace hw : Region.wanted o (yielded (opsOf 1 Tryz.f87) a.tmps) = true := hw
  have e12 : a.eval (.tmp 12) = .pointer (some ⟨X.bx, 0, none⟩) := slotG hF ho h2 (j := 8) (d := 12) (by kernel_rfl) (by kernel_rfl) (by rw [ok.sz]; decide)
  refine st_pureW hF hC hW ho h2 (by decide) hd hw rfl ?_
  show _ = Result.ok (Next.value (.pointer (some ⟨X.bx, 3, none⟩))) w
  generalize a.eval = ρ at e12 ⊢
  unfold execOp
  rw [hop]
  simp [e12, go_sem]
theorem AWD.s10 (X : AWD) (ok : AWDOk X) {Q : Exit → Act → World → Prop} : StepG (opsOf 1 Tryz.f87) AWD.acts AWD.av X.val0 X.Wd X.a0 Q 10 := by
  intro γ listed a w o hF hC hW h1 ho h2
  obtain ⟨hd, hop, hg⟩ := fields2 (x := some 14) (y := Op.load 23 (.tmp 13)) (z := some (6, true)) (by kernel_rfl) ho
  have eg : a.eval (.tmp 10) = .bool true := slotG hF ho h2 (j := 6) (d := 10) (by kernel_rfl) (by kernel_rfl) (by rw [ok.sz]; decide)
  have hw := wanted_of (ops := (opsOf 1 Tryz.f87)) hg (yl_of (by kernel_rfl : dstOf (opsOf 1 Tryz.f87) 6 = some 10) (by rw [hF.tsize, ok.sz]; decide) eg)
  replace hw : Region.wanted o (yielded (opsOf 1 Tryz.f87) a.tmps) = true := hw
  have e13 : a.eval (.tmp 13) = .pointer (some ⟨X.bx, 3, none⟩) := slotG hF ho h2 (j := 9) (d := 13) (by kernel_rfl) (by kernel_rfl) (by rw [ok.sz]; decide)
  have hc0 := rq_at (AWD.kp hW) ok.c3
  refine st_pureW hF hC hW ho h2 (by decide) hd hw rfl ?_
  show _ = Result.ok (Next.value (.slice (some ⟨X.g, 0, none⟩) X.n X.uc)) w
  generalize a.eval = ρ at e13 ⊢
  unfold execOp
  rw [hop]
  simp [e13, hc0, go_sem]
theorem AWD.s11 (X : AWD) (ok : AWDOk X) {Q : Exit → Act → World → Prop} : StepG (opsOf 1 Tryz.f87) AWD.acts AWD.av X.val0 X.Wd X.a0 Q 11 := by
  intro γ listed a w o hF hC hW h1 ho h2
  obtain ⟨hd, hop, hg⟩ := fields2 (x := some 15) (y := Op.call { callee := .builtin .len, args := #[(.tmp 14)], argTypes := #[23] }) (z := some (6, true)) (by kernel_rfl) ho
  have eg : a.eval (.tmp 10) = .bool true := slotG hF ho h2 (j := 6) (d := 10) (by kernel_rfl) (by kernel_rfl) (by rw [ok.sz]; decide)
  have hw := wanted_of (ops := (opsOf 1 Tryz.f87)) hg (yl_of (by kernel_rfl : dstOf (opsOf 1 Tryz.f87) 6 = some 10) (by rw [hF.tsize, ok.sz]; decide) eg)
  replace hw : Region.wanted o (yielded (opsOf 1 Tryz.f87) a.tmps) = true := hw
  have e14 : a.eval (.tmp 14) = .slice (some ⟨X.g, 0, none⟩) X.n X.uc := slotG hF ho h2 (j := 10) (d := 14) (by kernel_rfl) (by kernel_rfl) (by rw [ok.sz]; decide)
  refine st_pureW hF hC hW ho h2 (by decide) hd hw rfl ?_
  show _ = Result.ok (Next.value (.int .i64 (X.n : Int))) w
  generalize a.eval = ρ at e14 ⊢
  unfold execOp
  rw [hop]
  simp [e14, go_sem]
theorem AWD.s12 (X : AWD) (ok : AWDOk X) {Q : Exit → Act → World → Prop} : StepG (opsOf 1 Tryz.f87) AWD.acts AWD.av X.val0 X.Wd X.a0 Q 12 := by
  intro γ listed a w o hF hC hW h1 ho h2
  obtain ⟨hd, hop, hg⟩ := fields2 (x := some 16) (y := Op.binOp .eql 3 (.tmp 15) (.const (.int .i64 0)) 3) (z := some (6, true)) (by kernel_rfl) ho
  have eg : a.eval (.tmp 10) = .bool true := slotG hF ho h2 (j := 6) (d := 10) (by kernel_rfl) (by kernel_rfl) (by rw [ok.sz]; decide)
  have hw := wanted_of (ops := (opsOf 1 Tryz.f87)) hg (yl_of (by kernel_rfl : dstOf (opsOf 1 Tryz.f87) 6 = some 10) (by rw [hF.tsize, ok.sz]; decide) eg)
  replace hw : Region.wanted o (yielded (opsOf 1 Tryz.f87) a.tmps) = true := hw
  have e15 : a.eval (.tmp 15) = .int .i64 (X.n : Int) := slotG hF ho h2 (j := 11) (d := 15) (by kernel_rfl) (by kernel_rfl) (by rw [ok.sz]; decide)
  have ec1 : a.eval (.const (.int .i64 0)) = .int .i64 0 := rfl
  refine st_pureW hF hC hW ho h2 (by decide) hd hw rfl ?_
  show _ = Result.ok (Next.value (.bool false)) w
  generalize a.eval = ρ at e15 ec1 ⊢
  unfold execOp
  rw [hop]
  simp [e15, ec1, ok.h0, go_sem]
theorem AWD.s13 (X : AWD) (ok : AWDOk X) {Q : Exit → Act → World → Prop} : StepG (opsOf 1 Tryz.f87) AWD.acts AWD.av X.val0 X.Wd X.a0 Q 13 := by
  intro γ listed a w o hF hC hW h1 ho h2
  obtain ⟨hd, hop, hg⟩ := fields2 (x := some 17) (y := Op.move (.tmp 16)) (z := some (6, true)) (by kernel_rfl) ho
  have eg : a.eval (.tmp 10) = .bool true := slotG hF ho h2 (j := 6) (d := 10) (by kernel_rfl) (by kernel_rfl) (by rw [ok.sz]; decide)
  have hw := wanted_of (ops := (opsOf 1 Tryz.f87)) hg (yl_of (by kernel_rfl : dstOf (opsOf 1 Tryz.f87) 6 = some 10) (by rw [hF.tsize, ok.sz]; decide) eg)
  replace hw : Region.wanted o (yielded (opsOf 1 Tryz.f87) a.tmps) = true := hw
  have e16 : a.eval (.tmp 16) = .bool false := slotG hF ho h2 (j := 12) (d := 16) (by kernel_rfl) (by kernel_rfl) (by rw [ok.sz]; decide)
  refine st_pureW hF hC hW ho h2 (by decide) hd hw rfl ?_
  show _ = Result.ok (Next.value (.bool false)) w
  generalize a.eval = ρ at e16 ⊢
  unfold execOp
  rw [hop]
  simp [e16, go_sem]
theorem AWD.s14 (X : AWD) (ok : AWDOk X) {Q : Exit → Act → World → Prop} : StepG (opsOf 1 Tryz.f87) AWD.acts AWD.av X.val0 X.Wd X.a0 Q 14 := by
  intro γ listed a w o hF hC hW h1 ho h2
  obtain ⟨hd, hop, hg⟩ := fields2 (x := some 18) (y := Op.move (.tmp 0)) (z := some (13, false)) (by kernel_rfl) ho
  have eg : a.eval (.tmp 17) = .bool false := slotG hF ho h2 (j := 13) (d := 17) (by kernel_rfl) (by kernel_rfl) (by rw [ok.sz]; decide)
  have hw := wanted_of (ops := (opsOf 1 Tryz.f87)) hg (yl_of (by kernel_rfl : dstOf (opsOf 1 Tryz.f87) 13 = some 17) (by rw [hF.tsize, ok.sz]; decide) eg)
  replace hw : Region.wanted o (yielded (opsOf 1 Tryz.f87) a.tmps) = true := hw
  have e0 : a.eval (.tmp 0) = .pointer (some ⟨X.bx, 0, none⟩) := (hF.eval0 (by kernel_rfl)).trans ok.e0
  refine st_pureW hF hC hW ho h2 (by decide) hd hw rfl ?_
  show _ = Result.ok (Next.value (.pointer (some ⟨X.bx, 0, none⟩))) w
  generalize a.eval = ρ at e0 ⊢
  unfold execOp
  rw [hop]
  simp [e0, go_sem]
theorem AWD.s15 (X : AWD) (ok : AWDOk X) {Q : Exit → Act → World → Prop} : StepG (opsOf 1 Tryz.f87) AWD.acts AWD.av X.val0 X.Wd X.a0 Q 15 := by
  intro γ listed a w o hF hC hW h1 ho h2
  obtain ⟨hd, hop, hg⟩ := fields2 (x := some 19) (y := Op.nilCheck (.tmp 18)) (z := some (13, false)) (by kernel_rfl) ho
  have eg : a.eval (.tmp 17) = .bool false := slotG hF ho h2 (j := 13) (d := 17) (by kernel_rfl) (by kernel_rfl) (by rw [ok.sz]; decide)
  have hw := wanted_of (ops := (opsOf 1 Tryz.f87)) hg (yl_of (by kernel_rfl : dstOf (opsOf 1 Tryz.f87) 13 = some 17) (by rw [hF.tsize, ok.sz]; decide) eg)
  replace hw : Region.wanted o (yielded (opsOf 1 Tryz.f87) a.tmps) = true := hw
  have e18 : a.eval (.tmp 18) = .pointer (some ⟨X.bx, 0, none⟩) := slotG hF ho h2 (j := 14) (d := 18) (by kernel_rfl) (by kernel_rfl) (by rw [ok.sz]; decide)
  refine st_pureW hF hC hW ho h2 (by decide) hd hw rfl ?_
  show _ = Result.ok (Next.value (.pointer (some ⟨X.bx, 0, none⟩))) w
  generalize a.eval = ρ at e18 ⊢
  unfold execOp
  rw [hop]
  simp [e18, go_sem]
theorem AWD.s16 (X : AWD) (ok : AWDOk X) {Q : Exit → Act → World → Prop} : StepG (opsOf 1 Tryz.f87) AWD.acts AWD.av X.val0 X.Wd X.a0 Q 16 := by
  intro γ listed a w o hF hC hW h1 ho h2
  obtain ⟨hd, hop, hg⟩ := fields2 (x := some 20) (y := Op.fieldAddr 100 (.tmp 19) 3) (z := some (13, false)) (by kernel_rfl) ho
  have eg : a.eval (.tmp 17) = .bool false := slotG hF ho h2 (j := 13) (d := 17) (by kernel_rfl) (by kernel_rfl) (by rw [ok.sz]; decide)
  have hw := wanted_of (ops := (opsOf 1 Tryz.f87)) hg (yl_of (by kernel_rfl : dstOf (opsOf 1 Tryz.f87) 13 = some 17) (by rw [hF.tsize, ok.sz]; decide) eg)
  replace hw : Region.wanted o (yielded (opsOf 1 Tryz.f87) a.tmps) = true := hw
  have e19 : a.eval (.tmp 19) = .pointer (some ⟨X.bx, 0, none⟩) := slotG hF ho h2 (j := 15) (d := 19) (by kernel_rfl) (by kernel_rfl) (by rw [ok.sz]; decide)
  refine st_pureW hF hC hW ho h2 (by decide) hd hw rfl ?_
  show _ = Result.ok (Next.value (.pointer (some ⟨X.bx, 3, none⟩))) w
  generalize a.eval = ρ at e19 ⊢
  unfold execOp
  rw [hop]
  simp [e19, go_sem]
theorem AWD.s17 (X : AWD) (ok : AWDOk X) {Q : Exit → Act → World → Prop} : StepG (opsOf 1 Tryz.f87) AWD.acts AWD.av X.val0 X.Wd X.a0 Q 17 := by
  intro γ listed a w o hF hC hW h1 ho h2
  obtain ⟨hd, hop, hg⟩ := fields2 (x := some 21) (y := Op.load 23 (.tmp 20)) (z := some (13, false)) (by kernel_rfl) ho
  have eg : a.eval (.tmp 17) = .bool false := slotG hF ho h2 (j := 13) (d := 17) (by kernel_rfl) (by kernel_rfl) (by rw [ok.sz]; decide)
  have hw := wanted_of (ops := (opsOf 1 Tryz.f87)) hg (yl_of (by kernel_rfl : dstOf (opsOf 1 Tryz.f87) 13 = some 17) (by rw [hF.tsize, ok.sz]; decide) eg)
  replace hw : Region.wanted o (yielded (opsOf 1 Tryz.f87) a.tmps) = true := hw
  have e20 : a.eval (.tmp 20) = .pointer (some ⟨X.bx, 3, none⟩) := slotG hF ho h2 (j := 16) (d := 20) (by kernel_rfl) (by kernel_rfl) (by rw [ok.sz]; decide)
  have hc0 := rq_at (AWD.kp hW) ok.c3
  refine st_pureW hF hC hW ho h2 (by decide) hd hw rfl ?_
  show _ = Result.ok (Next.value (.slice (some ⟨X.g, 0, none⟩) X.n X.uc)) w
  generalize a.eval = ρ at e20 ⊢
  unfold execOp
  rw [hop]
  simp [e20, hc0, go_sem]
theorem AWD.s18 (X : AWD) (ok : AWDOk X) {Q : Exit → Act → World → Prop} : StepG (opsOf 1 Tryz.f87) AWD.acts AWD.av X.val0 X.Wd X.a0 Q 18 := by
  intro γ listed a w o hF hC hW h1 ho h2
  obtain ⟨hd, hop, hg⟩ := fields2 (x := some 22) (y := Op.move (.tmp 0)) (z := some (13, false)) (by kernel_rfl) ho
  have eg : a.eval (.tmp 17) = .bool false := slotG hF ho h2 (j := 13) (d := 17) (by kernel_rfl) (by kernel_rfl) (by rw [ok.sz]; decide)
  have hw := wanted_of (ops := (opsOf 1 Tryz.f87)) hg (yl_of (by kernel_rfl : dstOf (opsOf 1 Tryz.f87) 13 = some 17) (by rw [hF.tsize, ok.sz]; decide) eg)
  replace hw : Region.wanted o (yielded (opsOf 1 Tryz.f87) a.tmps) = true := hw
  have e0 : a.eval (.tmp 0) = .pointer (some ⟨X.bx, 0, none⟩) := (hF.eval0 (by kernel_rfl)).trans ok.e0
  refine st_pureW hF hC hW ho h2 (by decide) hd hw rfl ?_
  show _ = Result.ok (Next.value (.pointer (some ⟨X.bx, 0, none⟩))) w
  generalize a.eval = ρ at e0 ⊢
  unfold execOp
  rw [hop]
  simp [e0, go_sem]
theorem AWD.s19 (X : AWD) (ok : AWDOk X) {Q : Exit → Act → World → Prop} : StepG (opsOf 1 Tryz.f87) AWD.acts AWD.av X.val0 X.Wd X.a0 Q 19 := by
  intro γ listed a w o hF hC hW h1 ho h2
  obtain ⟨hd, hop, hg⟩ := fields2 (x := some 23) (y := Op.nilCheck (.tmp 22)) (z := some (13, false)) (by kernel_rfl) ho
  have eg : a.eval (.tmp 17) = .bool false := slotG hF ho h2 (j := 13) (d := 17) (by kernel_rfl) (by kernel_rfl) (by rw [ok.sz]; decide)
  have hw := wanted_of (ops := (opsOf 1 Tryz.f87)) hg (yl_of (by kernel_rfl : dstOf (opsOf 1 Tryz.f87) 13 = some 17) (by rw [hF.tsize, ok.sz]; decide) eg)
  replace hw : Region.wanted o (yielded (opsOf 1 Tryz.f87) a.tmps) = true := hw
  have e22 : a.eval (.tmp 22) = .pointer (some ⟨X.bx, 0, none⟩) := slotG hF ho h2 (j := 18) (d := 22) (by kernel_rfl) (by kernel_rfl) (by rw [ok.sz]; decide)
  refine st_pureW hF hC hW ho h2 (by decide) hd hw rfl ?_
  show _ = Result.ok (Next.value (.pointer (some ⟨X.bx, 0, none⟩))) w
  generalize a.eval = ρ at e22 ⊢
  unfold execOp
  rw [hop]
  simp [e22, go_sem]
theorem AWD.s20 (X : AWD) (ok : AWDOk X) {Q : Exit → Act → World → Prop} : StepG (opsOf 1 Tryz.f87) AWD.acts AWD.av X.val0 X.Wd X.a0 Q 20 := by
  intro γ listed a w o hF hC hW h1 ho h2
  obtain ⟨hd, hop, hg⟩ := fields2 (x := some 24) (y := Op.fieldAddr 100 (.tmp 23) 3) (z := some (13, false)) (by kernel_rfl) ho
  have eg : a.eval (.tmp 17) = .bool false := slotG hF ho h2 (j := 13) (d := 17) (by kernel_rfl) (by kernel_rfl) (by rw [ok.sz]; decide)
  have hw := wanted_of (ops := (opsOf 1 Tryz.f87)) hg (yl_of (by kernel_rfl : dstOf (opsOf 1 Tryz.f87) 13 = some 17) (by rw [hF.tsize, ok.sz]; decide) eg)
  replace hw : Region.wanted o (yielded (opsOf 1 Tryz.f87) a.tmps) = true := hw
  have e23 : a.eval (.tmp 23) = .pointer (some ⟨X.bx, 0, none⟩) := slotG hF ho h2 (j := 19) (d := 23) (by kernel_rfl) (by kernel_rfl) (by rw [ok.sz]; decide)
  refine st_pureW hF hC hW ho h2 (by decide) hd hw rfl ?_
  show _ = Result.ok (Next.value (.pointer (some ⟨X.bx, 3, none⟩))) w
  generalize a.eval = ρ at e23 ⊢
  unfold execOp
  rw [hop]
  simp [e23, go_sem]
theorem AWD.s21 (X : AWD) (ok : AWDOk X) {Q : Exit → Act → World → Prop} : StepG (opsOf 1 Tryz.f87) AWD.acts AWD.av X.val0 X.Wd X.a0 Q 21 := by
  intro γ listed a w o hF hC hW h1 ho h2
  obtain ⟨hd, hop, hg⟩ := fields2 (x := some 25) (y := Op.load 23 (.tmp 24)) (z := some (13, false)) (by kernel_rfl) ho
  have eg : a.eval (.tmp 17) = .bool false := slotG hF ho h2 (j := 13) (d := 17) (by kernel_rfl) (by kernel_rfl) (by rw [ok.sz]; decide)
  have hw := wanted_of (ops := (opsOf 1 Tryz.f87)) hg (yl_of (by kernel_rfl : dstOf (opsOf 1 Tryz.f87) 13 = some 17) (by rw [hF.tsize, ok.sz]; decide) eg)
  replace hw : Region.wanted o (yielded (opsOf 1 Tryz.f87) a.tmps) = true := hw
  have e24 : a.eval (.tmp 24) = .pointer (some ⟨X.bx, 3, none⟩) := slotG hF ho h2 (j := 20) (d := 24) (by kernel_rfl) (by kernel_rfl) (by rw [ok.sz]; decide)
  have hc0 := rq_at (AWD.kp hW) ok.c3
  refine st_pureW hF hC hW ho h2 (by decide) hd hw rfl ?_
  show _ = Result.ok (Next.value (.slice (some ⟨X.g, 0, none⟩) X.n X.uc)) w
  generalize a.eval = ρ at e24 ⊢
  unfold execOp
  rw [hop]
  simp [e24, hc0, go_sem]
theorem AWD.s22 (X : AWD) (ok : AWDOk X) {Q : Exit → Act → World → Prop} : StepG (opsOf 1 Tryz.f87) AWD.acts AWD.av X.val0 X.Wd X.a0 Q 22 := by
  intro γ listed a w o hF hC hW h1 ho h2
  obtain ⟨hd, hop, hg⟩ := fields2 (x := some 26) (y := Op.call { callee := .builtin .len, args := #[(.tmp 25)], argTypes := #[23] }) (z := some (13, false)) (by kernel_rfl) ho
  have eg : a.eval (.tmp 17) = .bool false := slotG hF ho h2 (j := 13) (d := 17) (by kernel_rfl) (by kernel_rfl) (by rw [ok.sz]; decide)
  have hw := wanted_of (ops := (opsOf 1 Tryz.f87)) hg (yl_of (by kernel_rfl : dstOf (opsOf 1 Tryz.f87) 13 = some 17) (by rw [hF.tsize, ok.sz]; decide) eg)
  replace hw : Region.wanted o (yielded (opsOf 1 Tryz.f87) a.tmps) = true := hw
  have e25 : a.eval (.tmp 25) = .slice (some ⟨X.g, 0, none⟩) X.n X.uc := slotG hF ho h2 (j := 21) (d := 25) (by kernel_rfl) (by kernel_rfl) (by rw [ok.sz]; decide)
  refine st_pureW hF hC hW ho h2 (by decide) hd hw rfl ?_
  show _ = Result.ok (Next.value (.int .i64 (X.n : Int))) w
  generalize a.eval = ρ at e25 ⊢
  unfold execOp
  rw [hop]
  simp [e25, go_sem]
theorem AWD.s23 (X : AWD) (ok : AWDOk X) {Q : Exit → Act → World → Prop} : StepG (opsOf 1 Tryz.f87) AWD.acts AWD.av X.val0 X.Wd X.a0 Q 23 := by
  intro γ listed a w o hF hC hW h1 ho h2
  obtain ⟨hd, hop, hg⟩ := fields2 (x := some 27) (y := Op.binOp .sub 3 (.tmp 26) (.const (.int .i64 1)) 3) (z := some (13, false)) (by kernel_rfl) ho
  have eg : a.eval (.tmp 17) = .bool false := slotG hF ho h2 (j := 13) (d := 17) (by kernel_rfl) (by kernel_rfl) (by rw [ok.sz]; decide)
  have hw := wanted_of (ops := (opsOf 1 Tryz.f87)) hg (yl_of (by kernel_rfl : dstOf (opsOf 1 Tryz.f87) 13 = some 17) (by rw [hF.tsize, ok.sz]; decide) eg)
  replace hw : Region.wanted o (yielded (opsOf 1 Tryz.f87) a.tmps) = true := hw
  have e26 : a.eval (.tmp 26) = .int .i64 (X.n : Int) := slotG hF ho h2 (j := 22) (d := 26) (by kernel_rfl) (by kernel_rfl) (by rw [ok.sz]; decide)
  have ec1 : a.eval (.const (.int .i64 1)) = .int .i64 1 := rfl
  refine st_pureW hF hC hW ho h2 (by decide) hd hw rfl ?_
  show _ = Result.ok (Next.value (.int .i64 (X.m : Int))) w
  generalize a.eval = ρ at e26 ec1 ⊢
  unfold execOp
  rw [hop]
  simp [e26, ec1, ok.wm, go_sem]
theorem AWD.s24 (X : AWD) (ok : AWDOk X) {Q : Exit → Act → World → Prop} : StepG (opsOf 1 Tryz.f87) AWD.acts AWD.av X.val0 X.Wd X.a0 Q 24 := by
  intro γ listed a w o hF hC hW h1 ho h2
  obtain ⟨hd, hop, hg⟩ := fields2 (x := some 28) (y := Op.indexAddr 23 (.tmp 21) (.tmp 27)) (z := some (13, false)) (by kernel_rfl) ho
  have eg : a.eval (.tmp 17) = .bool false := slotG hF ho h2 (j := 13) (d := 17) (by kernel_rfl) (by kernel_rfl) (by rw [ok.sz]; decide)
  have hw := wanted_of (ops := (opsOf 1 Tryz.f87)) hg (yl_of (by kernel_rfl : dstOf (opsOf 1 Tryz.f87) 13 = some 17) (by rw [hF.tsize, ok.sz]; decide) eg)
  replace hw : Region.wanted o (yielded (opsOf 1 Tryz.f87) a.tmps) = true := hw
  have e21 : a.eval (.tmp 21) = .slice (some ⟨X.g, 0, none⟩) X.n X.uc := slotG hF ho h2 (j := 17) (d := 21) (by kernel_rfl) (by kernel_rfl) (by rw [ok.sz]; decide)
  have e27 : a.eval (.tmp 27) = .int .i64 (X.m : Int) := slotG hF ho h2 (j := 23) (d := 27) (by kernel_rfl) (by kernel_rfl) (by rw [ok.sz]; decide)
  refine st_pureW hF hC hW ho h2 (by decide) hd hw rfl ?_
  show _ = Result.ok (Next.value (.pointer (some ⟨X.g, X.m * 2, none⟩))) w
  generalize a.eval = ρ at e21 e27 ⊢
  unfold execOp
  rw [hop]
  simp [e21, e27, ok.hm, go_sem]
theorem AWD.s25 (X : AWD) (ok : AWDOk X) {Q : Exit → Act → World → Prop} : StepG (opsOf 1 Tryz.f87) AWD.acts AWD.av X.val0 X.Wd X.a0 Q 25 := by
  intro γ listed a w o hF hC hW h1 ho h2
  obtain ⟨hd, hop, hg⟩ := fields2 (x := some 29) (y := Op.load 34 (.tmp 28)) (z := some (13, false)) (by kernel_rfl) ho
  have eg : a.eval (.tmp 17) = .bool false := slotG hF ho h2 (j := 13) (d := 17) (by kernel_rfl) (by kernel_rfl) (by rw [ok.sz]; decide)
  have hw := wanted_of (ops := (opsOf 1 Tryz.f87)) hg (yl_of (by kernel_rfl : dstOf (opsOf 1 Tryz.f87) 13 = some 17) (by rw [hF.tsize, ok.sz]; decide) eg)
  replace hw : Region.wanted o (yielded (opsOf 1 Tryz.f87) a.tmps) = true := hw
  have e28 : a.eval (.tmp 28) = .pointer (some ⟨X.g, X.m * 2, none⟩) := slotG hF ho h2 (j := 24) (d := 28) (by kernel_rfl) (by kernel_rfl) (by rw [ok.sz]; decide)
  have hc0 := rq_at (AWD.kp hW) ok.px
  have hc1 := rq_at (AWD.kp hW) ok.py
  refine st_pureW hF hC hW ho h2 (by decide) hd hw rfl ?_
  show _ = Result.ok (Next.value (.agg #[.int .i64 X.lx, .int .i64 X.ly])) w
  generalize a.eval = ρ at e28 ⊢
  unfold execOp
  rw [hop]
  simp [e28, hc0, hc1, go_sem]
theorem AWD.s26 (X : AWD) (ok : AWDOk X) {Q : Exit → Act → World → Prop} : StepG (opsOf 1 Tryz.f87) AWD.acts AWD.av X.val0 X.Wd X.a0 Q 26 := by
  intro γ listed a w o hF hC hW h1 ho h2
  obtain ⟨hd, hop, hg⟩ := fields2 (x := some 30) (y := Op.load 34 (.tmp 3)) (z := some (13, false)) (by kernel_rfl) ho
  have eg : a.eval (.tmp 17) = .bool false := slotG hF ho h2 (j := 13) (d := 17) (by kernel_rfl) (by kernel_rfl) (by rw [ok.sz]; decide)
  have hw := wanted_of (ops := (opsOf 1 Tryz.f87)) hg (yl_of (by kernel_rfl : dstOf (opsOf 1 Tryz.f87) 13 = some 17) (by rw [hF.tsize, ok.sz]; decide) eg)
  replace hw : Region.wanted o (yielded (opsOf 1 Tryz.f87) a.tmps) = true := hw
  have e3 : a.eval (.tmp 3) = .pointer (some ⟨X.bq, 0, none⟩) := (hF.eval0 (by kernel_rfl)).trans ok.e3
  have hc0 := rq_at (AWD.kp hW) ok.q0
  have hc1 := rq_at (AWD.kp hW) ok.q1
  refine st_pureW hF hC hW ho h2 (by decide) hd hw rfl ?_
  show _ = Result.ok (Next.value (.agg #[.int .i64 X.x, .int .i64 X.y])) w
  generalize a.eval = ρ at e3 ⊢
  unfold execOp
  rw [hop]
  simp [e3, hc0, hc1, go_sem]
theorem AWD.s27 (X : AWD) (ok : AWDOk X) {Q : Exit → Act → World → Prop} : StepG (opsOf 1 Tryz.f87) AWD.acts AWD.av X.val0 X.Wd X.a0 Q 27 := by
  intro γ listed a w o hF hC hW h1 ho h2
  obtain ⟨hd, hop, hg⟩ := fields2 (x := some 31) (y := Op.binOp .neq 34 (.tmp 29) (.tmp 30) 34) (z := some (13, false)) (by kernel_rfl) ho
  have eg : a.eval (.tmp 17) = .bool false := slotG hF ho h2 (j := 13) (d := 17) (by kernel_rfl) (by kernel_rfl) (by rw [ok.sz]; decide)
  have hw := wanted_of (ops := (opsOf 1 Tryz.f87)) hg (yl_of (by kernel_rfl : dstOf (opsOf 1 Tryz.f87) 13 = some 17) (by rw [hF.tsize, ok.sz]; decide) eg)
  replace hw : Region.wanted o (yielded (opsOf 1 Tryz.f87) a.tmps) = true := hw
  have e29 : a.eval (.tmp 29) = .agg #[.int .i64 X.lx, .int .i64 X.ly] := slotG hF ho h2 (j := 25) (d := 29) (by kernel_rfl) (by kernel_rfl) (by rw [ok.sz]; decide)
  have e30 : a.eval (.tmp 30) = .agg #[.int .i64 X.x, .int .i64 X.y] := slotG hF ho h2 (j := 26) (d := 30) (by kernel_rfl) (by kernel_rfl) (by rw [ok.sz]; decide)
  refine st_pureW hF hC hW ho h2 (by decide) hd hw rfl ?_
  show _ = Result.ok (Next.value (.bool true)) w
  generalize a.eval = ρ at e29 e30 ⊢
  unfold execOp
  rw [hop]
  simp [e29, e30, go_sem]
  exact ok.hv
theorem AWD.s28 (X : AWD) (ok : AWDOk X) {Q : Exit → Act → World → Prop} : StepG (opsOf 1 Tryz.f87) AWD.acts AWD.av X.val0 X.Wd X.a0 Q 28 := by
  intro γ listed a w o hF hC hW h1 ho h2
  obtain ⟨hd, hop, hg⟩ := fields2 (x := some 32) (y := Op.pick (.tmp 17) (.const (.bool true)) (.tmp 31)) (z := some (6, true)) (by kernel_rfl) ho
  have eg : a.eval (.tmp 10) = .bool true := slotG hF ho h2 (j := 6) (d := 10) (by kernel_rfl) (by kernel_rfl) (by rw [ok.sz]; decide)
  have hw := wanted_of (ops := (opsOf 1 Tryz.f87)) hg (yl_of (by kernel_rfl : dstOf (opsOf 1 Tryz.f87) 6 = some 10) (by rw [hF.tsize, ok.sz]; decide) eg)
  replace hw : Region.wanted o (yielded (opsOf 1 Tryz.f87) a.tmps) = true := hw
  have e17 : a.eval (.tmp 17) = .bool false := slotG hF ho h2 (j := 13) (d := 17) (by kernel_rfl) (by kernel_rfl) (by rw [ok.sz]; decide)
  have ec1 : a.eval (.const (.bool true)) = .bool true := rfl
  have e31 : a.eval (.tmp 31) = .bool true := slotG hF ho h2 (j := 27) (d := 31) (by kernel_rfl) (by kernel_rfl) (by rw [ok.sz]; decide)
  refine st_pureW hF hC hW ho h2 (by decide) hd hw rfl ?_
  show _ = Result.ok (Next.value (.bool true)) w
  generalize a.eval = ρ at e17 ec1 e31 ⊢
  unfold execOp
  rw [hop]
  simp [e17, ec1, e31, go_sem]
theorem AWD.s29 (X : AWD) (ok : AWDOk X) {Q : Exit → Act → World → Prop} : StepG (opsOf 1 Tryz.f87) AWD.acts AWD.av X.val0 X.Wd X.a0 Q 29 := by
  intro γ listed a w o hF hC hW h1 ho h2
  obtain ⟨hd, hop, hg⟩ := fields2 (x := some 33) (y := Op.pick (.tmp 10) (.tmp 32) (.const (.bool false))) (z := none) (by kernel_rfl) ho
  have e10 : a.eval (.tmp 10) = .bool true := slotG hF ho h2 (j := 6) (d := 10) (by kernel_rfl) (by kernel_rfl) (by rw [ok.sz]; decide)
  have e32 : a.eval (.tmp 32) = .bool true := slotG hF ho h2 (j := 28) (d := 32) (by kernel_rfl) (by kernel_rfl) (by rw [ok.sz]; decide)
  have ec2 : a.eval (.const (.bool false)) = .bool false := rfl
  refine st_pureG hF hC hW ho h2 (by decide) hd hg rfl ?_
  show _ = Result.ok (Next.value (.bool true)) w
  generalize a.eval = ρ at e10 e32 ec2 ⊢
  unfold execOp
  rw [hop]
  simp [e10, e32, ec2, go_sem]
theorem AWD.size : (opsOf 1 Tryz.f87).size = 30 := by kernel_rfl
theorem AWD.steps (X : AWD) (ok : AWDOk X) {Q : Exit → Act → World → Prop} (i : Nat) (hi : i < (opsOf 1 Tryz.f87).size) : StepG (opsOf 1 Tryz.f87) AWD.acts AWD.av X.val0 X.Wd X.a0 Q i := by
  rw [AWD.size] at hi
  have hc : i = 0 ∨ i = 1 ∨ i = 2 ∨ i = 3 ∨ i = 4 ∨ i = 5 ∨ i = 6 ∨ i = 7 ∨ i = 8 ∨ i = 9 ∨ i = 10 ∨ i = 11 ∨ i = 12 ∨ i = 13 ∨ i = 14 ∨ i = 15 ∨ i = 16 ∨ i = 17 ∨ i = 18 ∨ i = 19 ∨ i = 20 ∨ i = 21 ∨ i = 22 ∨ i = 23 ∨ i = 24 ∨ i = 25 ∨ i = 26 ∨ i = 27 ∨ i = 28 ∨ i = 29 := by omega
  rcases hc with rfl | rfl | rfl | rfl | rfl | rfl | rfl | rfl | rfl | rfl | rfl | rfl | rfl | rfl | rfl | rfl | rfl | rfl | rfl | rfl | rfl | rfl | rfl | rfl | rfl | rfl | rfl | rfl | rfl | rfl
  · exact AWD.s0 X ok
  · exact AWD.s1 X ok
  · exact AWD.s2 X ok
  · exact AWD.s3 X ok
  · exact AWD.s4 X ok
  · exact AWD.s5 X ok
  · exact AWD.s6 X ok
  · exact AWD.s7 X ok
  · exact AWD.s8 X ok
  · exact AWD.s9 X ok
  · exact AWD.s10 X ok
  · exact AWD.s11 X ok
  · exact AWD.s12 X ok
  · exact AWD.s13 X ok
  · exact AWD.s14 X ok
  · exact AWD.s15 X ok
  · exact AWD.s16 X ok
  · exact AWD.s17 X ok
  · exact AWD.s18 X ok
  · exact AWD.s19 X ok
  · exact AWD.s20 X ok
  · exact AWD.s21 X ok
  · exact AWD.s22 X ok
  · exact AWD.s23 X ok
  · exact AWD.s24 X ok
  · exact AWD.s25 X ok
  · exact AWD.s26 X ok
  · exact AWD.s27 X ok
  · exact AWD.s28 X ok
  · exact AWD.s29 X ok
theorem AWD.puts (X : AWD) (γ : Nat → Value) (a0 : Act) : putsL (valG AWD.av X.val0 γ) (opsOf 1 Tryz.f87).toList a0 = ((((((((((((((((((((((((((((((a0.put (some 4) (.pointer (some ⟨X.bx, 0, none⟩))).put (some 5) (.pointer (some ⟨X.bx, 0, none⟩))).put (some 6) (.pointer (some ⟨X.bx, 1, none⟩))).put (some 7) (.int .i64 X.k)).put (some 8) (.int .i64 X.r)).put (some 9) (.bool true)).put (some 10) (.bool true)).put (some 11) (.pointer (some ⟨X.bx, 0, none⟩))).put (some 12) (.pointer (some ⟨X.bx, 0, none⟩))).put (some 13) (.pointer (some ⟨X.bx, 3, none⟩))).put (some 14) (.slice (some ⟨X.g, 0, none⟩) X.n X.uc)).put (some 15) (.int .i64 (X.n : Int))).put (some 16) (.bool false)).put (some 17) (.bool false)).put (some 18) (.pointer (some ⟨X.bx, 0, none⟩))).put (some 19) (.pointer (some ⟨X.bx, 0, none⟩))).put (some 20) (.pointer (some ⟨X.bx, 3, none⟩))).put (some 21) (.slice (some ⟨X.g, 0, none⟩) X.n X.uc)).put (some 22) (.pointer (some ⟨X.bx, 0, none⟩))).put (some 23) (.pointer (some ⟨X.bx, 0, none⟩))).put (some 24) (.pointer (some ⟨X.bx, 3, none⟩))).put (some 25) (.slice (some ⟨X.g, 0, none⟩) X.n X.uc)).put (some 26) (.int .i64 (X.n : Int))).put (some 27) (.int .i64 (X.m : Int))).put (some 28) (.pointer (some ⟨X.g, X.m * 2, none⟩))).put (some 29) (.agg #[.int .i64 X.lx, .int .i64 X.ly])).put (some 30) (.agg #[.int .i64 X.x, .int .i64 X.y])).put (some 31) (.bool true)).put (some 32) (.bool true)).put (some 33) (.bool true)) := by kernel_rfl
/-- The region, whatever order comes up. -/
theorem AWD.run (X : AWD) (ok : AWDOk X) {Q : Exit → Act → World → Prop} (w : World) (h0 : X.Wd 0 (fun _ => undef) w.drew) (hend : ∀ (γ : Nat → Value) w', X.Wd 0 γ w' → Q .normal ((((((((((((((((((((((((((((((X.a0.put (some 4) (.pointer (some ⟨X.bx, 0, none⟩))).put (some 5) (.pointer (some ⟨X.bx, 0, none⟩))).put (some 6) (.pointer (some ⟨X.bx, 1, none⟩))).put (some 7) (.int .i64 X.k)).put (some 8) (.int .i64 X.r)).put (some 9) (.bool true)).put (some 10) (.bool true)).put (some 11) (.pointer (some ⟨X.bx, 0, none⟩))).put (some 12) (.pointer (some ⟨X.bx, 0, none⟩))).put (some 13) (.pointer (some ⟨X.bx, 3, none⟩))).put (some 14) (.slice (some ⟨X.g, 0, none⟩) X.n X.uc)).put (some 15) (.int .i64 (X.n : Int))).put (some 16) (.bool false)).put (some 17) (.bool false)).put (some 18) (.pointer (some ⟨X.bx, 0, none⟩))).put (some 19) (.pointer (some ⟨X.bx, 0, none⟩))).put (some 20) (.pointer (some ⟨X.bx, 3, none⟩))).put (some 21) (.slice (some ⟨X.g, 0, none⟩) X.n X.uc)).put (some 22) (.pointer (some ⟨X.bx, 0, none⟩))).put (some 23) (.pointer (some ⟨X.bx, 0, none⟩))).put (some 24) (.pointer (some ⟨X.bx, 3, none⟩))).put (some 25) (.slice (some ⟨X.g, 0, none⟩) X.n X.uc)).put (some 26) (.int .i64 (X.n : Int))).put (some 27) (.int .i64 (X.m : Int))).put (some 28) (.pointer (some ⟨X.g, X.m * 2, none⟩))).put (some 29) (.agg #[.int .i64 X.lx, .int .i64 X.ly])).put (some 30) (.agg #[.int .i64 X.x, .int .i64 X.y])).put (some 31) (.bool true)).put (some 32) (.bool true)).put (some 33) (.bool true)) w') : (Code.region 1 (opsOf 1 Tryz.f87) true).wp Tryz.prog Q X.a0 w := by
  refine reg_act (acts := AWD.acts) (av := AWD.av) (val0 := X.val0) (Wd := X.Wd) (by kernel_rfl) (by kernel_rfl) (by rw [AWD.size]; decide) (fun i hi => AWD.steps X ok i hi) _ h0 ?_
  intro γ w' h
  rw [AWD.puts]
  exact hend γ w' h
structure AW2 where
  bx : Nat
  bq : Nat
  x : Int
  y : Int
  ua : Option Addr
  un : Nat
  uc : Nat
  p : List Pnt
  W : World
  a0 : Act
structure AW2Ok (X : AW2) : Prop where
  c3 : X.W.cell? ⟨X.bx, 3, none⟩ = some (.slice X.ua X.un X.uc)
  q0 : X.W.cell? ⟨X.bq, 0, none⟩ = some (.int .i64 X.x)
  q1 : X.W.cell? ⟨X.bq, 1, none⟩ = some (.int .i64 X.y)
  ff : ∀ o, X.W.frozen? ⟨X.bx, o, none⟩ = false
  own : OwnP X.W (X.bx + 1) (.slice X.ua X.un X.uc) X.p
  neu : (Value.slice X.ua X.un X.uc).ownBlock ≠ some X.bx
  len : X.p.length + 1 ≤ 1000000
  e0 : X.a0.eval (.tmp 0) = .pointer (some ⟨X.bx, 0, none⟩)
  e3 : X.a0.eval (.tmp 3) = .pointer (some ⟨X.bq, 0, none⟩)
  sz : X.a0.tmps.size = 44
def AW2.val0 (X : AW2) : Nat → Value
  | 34 => .pointer (some ⟨X.bx, 0, none⟩)
  | 35 => .pointer (some ⟨X.bx, 0, none⟩)
  | 36 => .pointer (some ⟨X.bx, 0, none⟩)
  | 37 => .pointer (some ⟨X.bx, 3, none⟩)
  | 38 => .slice X.ua X.un X.uc
  | 39 => .agg #[.int .i64 X.x, .int .i64 X.y]
  | 42 => .pointer (some ⟨X.bx, 0, none⟩)
  | 43 => .pointer (some ⟨X.bx, 3, none⟩)
  | _ => undef
def AW2.av : Nat → Option Nat
  | 40 => some 0
  | 41 => some 1
  | _ => none
def AW2.acts : List Nat := [6, 7, 10]
/-- The world, by how many of the acting ones have come up. -/
def AW2.Wd (X : AW2) : Nat → (Nat → Value) → World → Prop
  | 0, _, w => w = X.W
  | 1, γ, w => γ 0 = .slice (some ⟨X.W.heap.size, 0, none⟩) 1 1 ∧ w = X.W.alloc (.cells #[.int .i64 X.x, .int .i64 X.y] 34)
  | 2, γ, w => ∃ g c, γ 1 = .slice (some ⟨g, 0, none⟩) (X.p.length + 1) c ∧ OwnP w (X.bx + 1) (γ 1) (X.p ++ [(X.x, X.y)]) ∧ Ext (.slice X.ua X.un X.uc) (γ 1) X.W w
  | _, γ, w => ∃ w2 g c, γ 1 = .slice (some ⟨g, 0, none⟩) (X.p.length + 1) c ∧ OwnP w2 (X.bx + 1) (γ 1) (X.p ++ [(X.x, X.y)]) ∧ Ext (.slice X.ua X.un X.uc) (γ 1) X.W w2 ∧ w = w2.setCell ⟨X.bx, 3, none⟩ (γ 1)
theorem AW2.chain : chainG (opsOf 2 Tryz.f87) AW2.acts = true := by kernel_rfl
theorem AW2.nodup : AW2.acts.Nodup := by decide
theorem AW2.inj {listed : Array Bool} {i k : Nat} (h : (List.range (opsOf 2 Tryz.f87).size).all (fun j => decide (j = i) || !(match dstOf (opsOf 2 Tryz.f87) j with | some d => decide (AW2.av d = some k) | none => false)) = true) (hu : listed.getD i false = false) : ∀ d, got (opsOf 2 Tryz.f87) listed d → AW2.av d ≠ some k := by
  rintro d ⟨j, h1, h2⟩ h3
  have hlt : j < (opsOf 2 Tryz.f87).size := by
    rcases Nat.lt_or_ge j (opsOf 2 Tryz.f87).size with h4 | h4
    · exact h4
    · unfold dstOf at h2; rw [Array.getElem?_eq_none h4] at h2; cases h2
  have h5 := List.all_eq_true.1 h j (List.mem_range.2 hlt)
  rw [h2] at h5
  simp only [h3, decide_true, Bool.not_true, Bool.or_false, decide_eq_true_eq] at h5
  subst h5
  rw [hu] at h1
  cases h1
theorem AW2.s0 (X : AW2) (ok : AW2Ok X) {Q : Exit → Act → World → Prop} : StepG (opsOf 2 Tryz.f87) AW2.acts AW2.av X.val0 X.Wd X.a0 Q 0 := by
  intro γ listed a w o hF hC hW h1 ho h2
  obtain ⟨hd, hop, hg⟩ := fields2 (x := some 34) (y := Op.move (.tmp 0)) (z := none) (by kernel_rfl) ho
  have e0 : a.eval (.tmp 0) = .pointer (some ⟨X.bx, 0, none⟩) := (hF.eval0 (by kernel_rfl)).trans ok.e0
  refine st_pureG hF hC hW ho h2 (by decide) hd hg rfl ?_
  show _ = Result.ok (Next.value (.pointer (some ⟨X.bx, 0, none⟩))) w
  generalize a.eval = ρ at e0 ⊢
  unfold execOp
  rw [hop]
  simp [e0, go_sem]
theorem AW2.s1 (X : AW2) (ok : AW2Ok X) {Q : Exit → Act → World → Prop} : StepG (opsOf 2 Tryz.f87) AW2.acts AW2.av X.val0 X.Wd X.a0 Q 1 := by
  intro γ listed a w o hF hC hW h1 ho h2
  obtain ⟨hd, hop, hg⟩ := fields2 (x := some 35) (y := Op.move (.tmp 0)) (z := none) (by kernel_rfl) ho
  have e0 : a.eval (.tmp 0) = .pointer (some ⟨X.bx, 0, none⟩) := (hF.eval0 (by kernel_rfl)).trans ok.e0
  refine st_pureG hF hC hW ho h2 (by decide) hd hg rfl ?_
  show _ = Result.ok (Next.value (.pointer (some ⟨X.bx, 0, none⟩))) w
  generalize a.eval = ρ at e0 ⊢
  unfold execOp
  rw [hop]
  simp [e0, go_sem]
theorem AW2.s2 (X : AW2) (ok : AW2Ok X) {Q : Exit → Act → World → Prop} : StepG (opsOf 2 Tryz.f87) AW2.acts AW2.av X.val0 X.Wd X.a0 Q 2 := by
  intro γ listed a w o hF hC hW h1 ho h2
  obtain ⟨hd, hop, hg⟩ := fields2 (x := some 36) (y := Op.nilCheck (.tmp 35)) (z := none) (by kernel_rfl) ho
  have e35 : a.eval (.tmp 35) = .pointer (some ⟨X.bx, 0, none⟩) := slotG hF ho h2 (j := 1) (d := 35) (by kernel_rfl) (by kernel_rfl) (by rw [ok.sz]; decide)
  refine st_pureG hF hC hW ho h2 (by decide) hd hg rfl ?_
  show _ = Result.ok (Next.value (.pointer (some ⟨X.bx, 0, none⟩))) w
  generalize a.eval = ρ at e35 ⊢
  unfold execOp
  rw [hop]
  simp [e35, go_sem]
theorem AW2.s3 (X : AW2) (ok : AW2Ok X) {Q : Exit → Act → World → Prop} : StepG (opsOf 2 Tryz.f87) AW2.acts AW2.av X.val0 X.Wd X.a0 Q 3 := by
  intro γ listed a w o hF hC hW h1 ho h2
  obtain ⟨hd, hop, hg⟩ := fields2 (x := some 37) (y := Op.fieldAddr 100 (.tmp 36) 3) (z := none) (by kernel_rfl) ho
  have e36 : a.eval (.tmp 36) = .pointer (some ⟨X.bx, 0, none⟩) := slotG hF ho h2 (j := 2) (d := 36) (by kernel_rfl) (by kernel_rfl) (by rw [ok.sz]; decide)
  refine st_pureG hF hC hW ho h2 (by decide) hd hg rfl ?_
  show _ = Result.ok (Next.value (.pointer (some ⟨X.bx, 3, none⟩))) w
  generalize a.eval = ρ at e36 ⊢
  unfold execOp
  rw [hop]
  simp [e36, go_sem]
theorem AW2.s4 (X : AW2) (ok : AW2Ok X) {Q : Exit → Act → World → Prop} : StepG (opsOf 2 Tryz.f87) AW2.acts AW2.av X.val0 X.Wd X.a0 Q 4 := by
  intro γ listed a w o hF hC hW h1 ho h2
  obtain ⟨hd, hop, hg⟩ := fields2 (x := some 38) (y := Op.load 23 (.tmp 37)) (z := none) (by kernel_rfl) ho
  have e37 : a.eval (.tmp 37) = .pointer (some ⟨X.bx, 3, none⟩) := slotG hF ho h2 (j := 3) (d := 37) (by kernel_rfl) (by kernel_rfl) (by rw [ok.sz]; decide)
  have hph := phase_leG (acts := AW2.acts) (m := 1) (x := 7) hC (unl (hF.lt ho) h1) rfl [4] (by kernel_rfl) (by decide)
  have hWW := hW
  generalize phase listed AW2.acts = n at hph hWW
  have hk : Nw X.W w := by
    rcases (show n = 0 ∨ n = 1 by omega) with rfl | rfl
    · have : w = X.W := hWW
      rw [this]; exact Below.refl _ _
    · obtain ⟨_, h9⟩ := hWW
      rw [h9]; exact (Below.refl _ _).alloc (Nat.le_refl _) _
  have hc := ((bcell hk).1 _ _ (World.block_lt_of_cell? X.W ⟨X.bx, 3, none⟩ ok.c3)).trans ok.c3
  refine st_pureG hF hC hW ho h2 (by decide) hd hg rfl ?_
  show _ = Result.ok (Next.value (.slice X.ua X.un X.uc)) w
  generalize a.eval = ρ at e37 ⊢
  unfold execOp
  rw [hop]
  simp [e37, hc, go_sem]
theorem AW2.s5 (X : AW2) (ok : AW2Ok X) {Q : Exit → Act → World → Prop} : StepG (opsOf 2 Tryz.f87) AW2.acts AW2.av X.val0 X.Wd X.a0 Q 5 := by
  intro γ listed a w o hF hC hW h1 ho h2
  obtain ⟨hd, hop, hg⟩ := fields2 (x := some 39) (y := Op.load 34 (.tmp 3)) (z := none) (by kernel_rfl) ho
  have e3 : a.eval (.tmp 3) = .pointer (some ⟨X.bq, 0, none⟩) := (hF.eval0 (by kernel_rfl)).trans ok.e3
  have hph := phase_leG (acts := AW2.acts) (m := 0) (x := 6) hC (unl (hF.lt ho) h1) rfl [5] (by kernel_rfl) (by decide)
  have hWW := hW
  generalize phase listed AW2.acts = n at hph hWW
  obtain rfl : n = 0 := by omega
  have hk : w = X.W := hWW
  have hc0 := ok.q0
  have hc1 := ok.q1
  rw [← hk] at hc0 hc1
  refine st_pureG hF hC hW ho h2 (by decide) hd hg rfl ?_
  show _ = Result.ok (Next.value (.agg #[.int .i64 X.x, .int .i64 X.y])) w
  generalize a.eval = ρ at e3 ⊢
  unfold execOp
  rw [hop]
  simp [e3, hc0, hc1, go_sem]
theorem AW2.s6 (X : AW2) (ok : AW2Ok X) {Q : Exit → Act → World → Prop} : StepG (opsOf 2 Tryz.f87) AW2.acts AW2.av X.val0 X.Wd X.a0 Q 6 := by
  intro γ listed a w o hF hC hW h1 ho h2
  obtain ⟨hd, hop, hg⟩ := fields2 (x := some 40) (y := Op.buildSlice 23 1 #[(0, (.tmp 39))]) (z := none) (by kernel_rfl) ho
  have e39 : a.eval (.tmp 39) = .agg #[.int .i64 X.x, .int .i64 X.y] := slotG hF ho h2 (j := 5) (d := 39) (by kernel_rfl) (by kernel_rfl) (by rw [ok.sz]; decide)
  have hu := unl (hF.lt ho) h1
  refine st_actG (k := 0) AW2.chain AW2.nodup rfl hF hC hW h1 ho h2 (Or.inr ⟨40, hd, rfl⟩) (AW2.inj (by kernel_rfl) hu) hg ?_
  intro hW0 K hK
  have hw0 : w = X.W := hW0
  have hr : (execOp a.eval o).run Tryz.prog w = .ok (.value (.slice (some ⟨w.heap.size, 0, none⟩) 1 1)) (w.alloc (.cells #[.int .i64 X.x, .int .i64 X.y] 34)) := by
    generalize a.eval = ρ at e39 ⊢
    unfold execOp
    rw [hop]
    simp [e39, go_sem]
  unfold Oper.wp
  rw [hr, hw0]
  exact hK _ _ ⟨rfl, rfl⟩
theorem AW2.s7 (X : AW2) (ok : AW2Ok X) {Q : Exit → Act → World → Prop} : StepG (opsOf 2 Tryz.f87) AW2.acts AW2.av X.val0 X.Wd X.a0 Q 7 := by
  intro γ listed a w o hF hC hW h1 ho h2
  obtain ⟨hd, hop, hg⟩ := fields2 (x := some 41) (y := Op.call { callee := .builtin .append, args := #[(.tmp 38), (.tmp 40)], argTypes := #[23, 23] }) (z := none) (by kernel_rfl) ho
  have e38 : a.eval (.tmp 38) = .slice X.ua X.un X.uc := slotG hF ho h2 (j := 4) (d := 38) (by kernel_rfl) (by kernel_rfl) (by rw [ok.sz]; decide)
  have e40 : a.eval (.tmp 40) = γ 0 := slotG hF ho h2 (j := 6) (d := 40) (by kernel_rfl) (by kernel_rfl) (by rw [ok.sz]; decide)
  have hu := unl (hF.lt ho) h1
  refine st_actG (k := 1) AW2.chain AW2.nodup rfl hF hC hW h1 ho h2 (Or.inr ⟨41, hd, rfl⟩) (AW2.inj (by kernel_rfl) hu) hg ?_
  intro hW0 K hK
  obtain ⟨g0, hw1⟩ := hW0
  rw [g0] at e40
  subst hw1
  have n1 : Nw X.W (X.W.alloc (.cells #[.int .i64 X.x, .int .i64 X.y] 34)) := (Below.refl _ _).alloc (Nat.le_refl _) _
  refine wp_q 34 23 23 (.int .i64 0) (.int .i64 0) 16 under_pts under_pts Tryz.info34 (by decide) rfl _ (.tmp 38) (.tmp 40) hop (X.bx + 1) (.slice X.ua X.un X.uc) (vP X.p) (vP [(X.x, X.y)]) e38 (OwnQ.nw ok.own n1) X.W.heap.size 0 1 1 rfl e40 (liep_one X.W X.x X.y _).vv (vP_one _) (by simp [vP]) (by rw [vP_len]; have := ok.len; simp [vP]; omega) (by have := World.block_lt_of_cell? X.W ⟨X.bx, 3, none⟩ ok.c3; simp at this ⊢; omega) ?_
  intro g' c' w' h3 h4
  rw [vP_len] at h3 h4 ⊢
  rw [← vP_append] at h3
  exact hK _ _ ⟨g', c', rfl, h3, n1.ext h4⟩
theorem AW2.s8 (X : AW2) (ok : AW2Ok X) {Q : Exit → Act → World → Prop} : StepG (opsOf 2 Tryz.f87) AW2.acts AW2.av X.val0 X.Wd X.a0 Q 8 := by
  intro γ listed a w o hF hC hW h1 ho h2
  obtain ⟨hd, hop, hg⟩ := fields2 (x := some 42) (y := Op.nilCheck (.tmp 34)) (z := none) (by kernel_rfl) ho
  have e34 : a.eval (.tmp 34) = .pointer (some ⟨X.bx, 0, none⟩) := slotG hF ho h2 (j := 0) (d := 34) (by kernel_rfl) (by kernel_rfl) (by rw [ok.sz]; decide)
  refine st_pureG hF hC hW ho h2 (by decide) hd hg rfl ?_
  show _ = Result.ok (Next.value (.pointer (some ⟨X.bx, 0, none⟩))) w
  generalize a.eval = ρ at e34 ⊢
  unfold execOp
  rw [hop]
  simp [e34, go_sem]
theorem AW2.s9 (X : AW2) (ok : AW2Ok X) {Q : Exit → Act → World → Prop} : StepG (opsOf 2 Tryz.f87) AW2.acts AW2.av X.val0 X.Wd X.a0 Q 9 := by
  intro γ listed a w o hF hC hW h1 ho h2
  obtain ⟨hd, hop, hg⟩ := fields2 (x := some 43) (y := Op.fieldAddr 100 (.tmp 42) 3) (z := none) (by kernel_rfl) ho
  have e42 : a.eval (.tmp 42) = .pointer (some ⟨X.bx, 0, none⟩) := slotG hF ho h2 (j := 8) (d := 42) (by kernel_rfl) (by kernel_rfl) (by rw [ok.sz]; decide)
  refine st_pureG hF hC hW ho h2 (by decide) hd hg rfl ?_
  show _ = Result.ok (Next.value (.pointer (some ⟨X.bx, 3, none⟩))) w
  generalize a.eval = ρ at e42 ⊢
  unfold execOp
  rw [hop]
  simp [e42, go_sem]
theorem AW2.s10 (X : AW2) (ok : AW2Ok X) {Q : Exit → Act → World → Prop} : StepG (opsOf 2 Tryz.f87) AW2.acts AW2.av X.val0 X.Wd X.a0 Q 10 := by
  intro γ listed a w o hF hC hW h1 ho h2
  obtain ⟨hd, hop, hg⟩ := fields2 (x := none) (y := Op.store 23 (.tmp 43) (.tmp 41)) (z := none) (by kernel_rfl) ho
  have e43 : a.eval (.tmp 43) = .pointer (some ⟨X.bx, 3, none⟩) := slotG hF ho h2 (j := 9) (d := 43) (by kernel_rfl) (by kernel_rfl) (by rw [ok.sz]; decide)
  have e41 : a.eval (.tmp 41) = γ 1 := slotG hF ho h2 (j := 7) (d := 41) (by kernel_rfl) (by kernel_rfl) (by rw [ok.sz]; decide)
  have hu := unl (hF.lt ho) h1
  refine st_actG (k := 2) AW2.chain AW2.nodup rfl hF hC hW h1 ho h2 (Or.inl hd) (AW2.inj (by kernel_rfl) hu) hg ?_
  intro hW0 K hK
  obtain ⟨g, cc, g1, o1, x1⟩ := hW0
  have hb := World.block_lt_of_cell? X.W ⟨X.bx, 3, none⟩ ok.c3
  have t0 : w.cell? ⟨X.bx, 3, none⟩ = some (.slice X.ua X.un X.uc) := (Ext.cell x1 hb ok.neu 3).trans ok.c3
  have tf : w.frozen? ⟨X.bx, 3, none⟩ = false := (World.frozen?_of_block (w := X.W) (a := ⟨X.bx, 3, none⟩) (x1.1.block X.bx hb (fun e => ok.neu e.symm))).trans (ok.ff 3)
  have hr : (execOp a.eval o).run Tryz.prog w = .ok .skip (w.setCell ⟨X.bx, 3, none⟩ (γ 1)) := by
    rw [g1] at e41 ⊢
    generalize a.eval = ρ at e41 e43 ⊢
    unfold execOp
    rw [hop]
    simp [e41, e43, t0, tf, go_sem]
  unfold Oper.wp
  rw [hr]
  exact hK undef _ ⟨w, g, cc, g1, o1, x1, rfl⟩
theorem AW2.size : (opsOf 2 Tryz.f87).size = 11 := by kernel_rfl
theorem AW2.steps (X : AW2) (ok : AW2Ok X) {Q : Exit → Act → World → Prop} (i : Nat) (hi : i < (opsOf 2 Tryz.f87).size) : StepG (opsOf 2 Tryz.f87) AW2.acts AW2.av X.val0 X.Wd X.a0 Q i := by
  rw [AW2.size] at hi
  have hc : i = 0 ∨ i = 1 ∨ i = 2 ∨ i = 3 ∨ i = 4 ∨ i = 5 ∨ i = 6 ∨ i = 7 ∨ i = 8 ∨ i = 9 ∨ i = 10 := by omega
  rcases hc with rfl | rfl | rfl | rfl | rfl | rfl | rfl | rfl | rfl | rfl | rfl
  · exact AW2.s0 X ok
  · exact AW2.s1 X ok
  · exact AW2.s2 X ok
  · exact AW2.s3 X ok
  · exact AW2.s4 X ok
  · exact AW2.s5 X ok
  · exact AW2.s6 X ok
  · exact AW2.s7 X ok
  · exact AW2.s8 X ok
  · exact AW2.s9 X ok
  · exact AW2.s10 X ok
theorem AW2.puts (X : AW2) (γ : Nat → Value) (a0 : Act) : putsL (valG AW2.av X.val0 γ) (opsOf 2 Tryz.f87).toList a0 = ((((((((((a0.put (some 34) (.pointer (some ⟨X.bx, 0, none⟩))).put (some 35) (.pointer (some ⟨X.bx, 0, none⟩))).put (some 36) (.pointer (some ⟨X.bx, 0, none⟩))).put (some 37) (.pointer (some ⟨X.bx, 3, none⟩))).put (some 38) (.slice X.ua X.un X.uc)).put (some 39) (.agg #[.int .i64 X.x, .int .i64 X.y])).put (some 40) (γ 0)).put (some 41) (γ 1)).put (some 42) (.pointer (some ⟨X.bx, 0, none⟩))).put (some 43) (.pointer (some ⟨X.bx, 3, none⟩))) := by kernel_rfl
/-- The region, whatever order comes up. -/
theorem AW2.run (X : AW2) (ok : AW2Ok X) {Q : Exit → Act → World → Prop} (w : World) (h0 : X.Wd 0 (fun _ => undef) w.drew) (hend : ∀ (γ : Nat → Value) w', X.Wd 3 γ w' → Q .normal ((((((((((X.a0.put (some 34) (.pointer (some ⟨X.bx, 0, none⟩))).put (some 35) (.pointer (some ⟨X.bx, 0, none⟩))).put (some 36) (.pointer (some ⟨X.bx, 0, none⟩))).put (some 37) (.pointer (some ⟨X.bx, 3, none⟩))).put (some 38) (.slice X.ua X.un X.uc)).put (some 39) (.agg #[.int .i64 X.x, .int .i64 X.y])).put (some 40) (γ 0)).put (some 41) (γ 1)).put (some 42) (.pointer (some ⟨X.bx, 0, none⟩))).put (some 43) (.pointer (some ⟨X.bx, 3, none⟩))) w') : (Code.region 2 (opsOf 2 Tryz.f87) true).wp Tryz.prog Q X.a0 w := by
  refine reg_act (acts := AW2.acts) (av := AW2.av) (val0 := X.val0) (Wd := X.Wd) (by kernel_rfl) (by kernel_rfl) (by rw [AW2.size]; decide) (fun i hi => AW2.steps X ok i hi) _ h0 ?_
  intro γ w' h
  rw [AW2.puts]
  exact hend γ w' h
end Go.Proofs.YtfdjjbgcaojcnaaGreat
