/-
  The statement of the specification that looks at a stop and draws its order, a text a way; each theorem names its conditions.
-/
import Derived.Test.YthlohbiocfeapaaSp
import Derived.Test.YthlohbiocfeapaaTn
import Derived.Test.YthlohbiocfeapaaRq
import Derived.Test.YthlohbiocfeapaaRgG
namespace Go.Proofs.Ythlohbiocfeapaa
open Go.ChangeShapes Go.WideShapes Go.ChangeAt Go.RowKit
set_option linter.unusedVariables false

theorem in_k {x a b : Int} {v : Bool} (h : inN x a b = v) (w : World) : Calls Try.prog 70 #[.int .i64 x, .int .i64 a, .int .i64 b] w fun e w' => e = .returned (.bool v) ∧ Kp w w' := by
  refine Calls.mono (in_any w x a b) ?_
  rintro e w' ⟨rfl, rfl⟩
  rw [← h]
  exact ⟨rfl, Kp.refl _⟩
theorem good_k {r g b a : Int} {v : Bool} (h : tnB ⟨r, g, b, a⟩ = v) (w : World) : Calls Try.prog 22 #[.agg #[.int .i64 r, .int .i64 g, .int .i64 b, .int .i64 a]] w fun e w' => e = .returned (.bool v) ∧ Kp w w' := by
  have := sgoodTn w ⟨r, g, b, a⟩
  rw [h] at this
  exact this
structure SGA where
  b : Nat
  k : Nat
  at0 : Int
  t0 : Int
  t1 : Int
  t2 : Int
  t3 : Int
  W : World
  a0 : Act
structure SGAOk (X : SGA) : Prop where
  c0 : X.W.cell? ⟨X.b, 0, none⟩ = some (.int .i64 X.at0)
  c1 : X.W.cell? ⟨X.b, 1, none⟩ = some (.int .i64 X.t0)
  c2 : X.W.cell? ⟨X.b, 2, none⟩ = some (.int .i64 X.t1)
  c3 : X.W.cell? ⟨X.b, 3, none⟩ = some (.int .i64 X.t2)
  c4 : X.W.cell? ⟨X.b, 4, none⟩ = some (.int .i64 X.t3)
  h1 : inN X.at0 0 65536 = false
  e3 : X.a0.eval (.tmp 3) = .int .i64 (X.k : Int)
  e4 : X.a0.eval (.tmp 4) = .pointer (some ⟨X.b, 0, none⟩)
  sz : X.a0.tmps.size = 42
def SGA.val0 (X : SGA) : Nat → Value
  | 16 => .pointer (some ⟨X.b, 0, none⟩)
  | 17 => .int .i64 X.at0
  | 18 => .bool false
  | 19 => .bool true
  | 20 => .bool true
  | 21 => undef
  | 22 => undef
  | 23 => undef
  | 24 => undef
  | 25 => .bool true
  | 26 => .bool true
  | 27 => undef
  | 28 => undef
  | 29 => undef
  | 30 => undef
  | 31 => undef
  | 32 => undef
  | 33 => undef
  | 34 => undef
  | 35 => undef
  | 36 => undef
  | 37 => undef
  | 38 => undef
  | 39 => undef
  | 40 => .bool true
  | _ => undef
def SGA.av : Nat → Option Nat
  | _ => none
def SGA.acts : List Nat := []
/-- The world, by how many of the acting ones have come up. -/
def SGA.Wd (X : SGA) : Nat → (Nat → Value) → World → Prop
  | _, _, w => Kp X.W w
theorem SGA.kp {X : SGA} {n : Nat} {γ : Nat → Value} {w : World} (h : X.Wd n γ w) : Kp X.W w := h
theorem SGA.keep {X : SGA} {n : Nat} {γ : Nat → Value} {w w' : World} (h : X.Wd n γ w) (k : Kp w w') : X.Wd n γ w' := Kp.trans h k
theorem SGA.chain : chainG (opsOf 6 Try.f31) SGA.acts = true := by kernel_rfl
theorem SGA.nodup : SGA.acts.Nodup := by decide
theorem SGA.inj {listed : Array Bool} {i k : Nat} (h : (List.range (opsOf 6 Try.f31).size).all (fun j => decide (j = i) || !(match dstOf (opsOf 6 Try.f31) j with | some d => decide (SGA.av d = some k) | none => false)) = true) (hu : listed.getD i false = false) : ∀ d, got (opsOf 6 Try.f31) listed d → SGA.av d ≠ some k := by
  rintro d ⟨j, h1, h2⟩ h3
  have hlt : j < (opsOf 6 Try.f31).size := by
    rcases Nat.lt_or_ge j (opsOf 6 Try.f31).size with h4 | h4
    · exact h4
    · unfold dstOf at h2; rw [Array.getElem?_eq_none h4] at h2; cases h2
  have h5 := List.all_eq_true.1 h j (List.mem_range.2 hlt)
  rw [h2] at h5
  simp only [h3, decide_true, Bool.not_true, Bool.or_false, decide_eq_true_eq] at h5
  subst h5
  rw [hu] at h1
  cases h1
theorem SGA.s0 (X : SGA) (ok : SGAOk X) {Q : Exit → Act → World → Prop} : StepG (opsOf 6 Try.f31) SGA.acts SGA.av X.val0 X.Wd X.a0 Q 0 := by
  intro γ listed a w o hF hC hW h1 ho h2
  obtain ⟨hd, hop, hg⟩ := fields2 (x := some 16) (y := Op.fieldAddr 106 (.tmp 4) 0) (z := none) (by kernel_rfl) ho
  have e4 : a.eval (.tmp 4) = .pointer (some ⟨X.b, 0, none⟩) := (hF.eval0 (by kernel_rfl)).trans ok.e4
  refine st_pureG hF hC hW ho h2 (by decide) hd hg rfl ?_
  show _ = Result.ok (Next.value (.pointer (some ⟨X.b, 0, none⟩))) w
  generalize a.eval = ρ at e4 ⊢
  unfold execOp
  rw [hop]
  simp [e4, go_sem]
theorem SGA.s1 (X : SGA) (ok : SGAOk X) {Q : Exit → Act → World → Prop} : StepG (opsOf 6 Try.f31) SGA.acts SGA.av X.val0 X.Wd X.a0 Q 1 := by
  intro γ listed a w o hF hC hW h1 ho h2
  obtain ⟨hd, hop, hg⟩ := fields2 (x := some 17) (y := Op.load 3 (.tmp 16)) (z := none) (by kernel_rfl) ho
  have e16 : a.eval (.tmp 16) = .pointer (some ⟨X.b, 0, none⟩) := slotG hF ho h2 (j := 0) (d := 16) (by kernel_rfl) (by kernel_rfl) (by rw [ok.sz]; decide)
  have hc0 := rq_at (SGA.kp hW) ok.c0
  refine st_pureG hF hC hW ho h2 (by decide) hd hg rfl ?_
  show _ = Result.ok (Next.value (.int .i64 X.at0)) w
  generalize a.eval = ρ at e16 ⊢
  unfold execOp
  rw [hop]
  simp [e16, hc0, go_sem]
theorem SGA.s2 (X : SGA) (ok : SGAOk X) {Q : Exit → Act → World → Prop} : StepG (opsOf 6 Try.f31) SGA.acts SGA.av X.val0 X.Wd X.a0 Q 2 := by
  intro γ listed a w o hF hC hW h1 ho h2
  obtain ⟨hd, hop, hg⟩ := fields2 (x := some 18) (y := Op.call { callee := .value (.func 70), args := #[(.tmp 17), (.const (.int .i64 0)), (.const (.int .i64 65536))], argTypes := #[3, 3, 3] }) (z := none) (by kernel_rfl) ho
  have e17 : a.eval (.tmp 17) = .int .i64 X.at0 := slotG hF ho h2 (j := 1) (d := 17) (by kernel_rfl) (by kernel_rfl) (by rw [ok.sz]; decide)
  have ec1 : a.eval (.const (.int .i64 0)) = .int .i64 0 := rfl
  have ec2 : a.eval (.const (.int .i64 65536)) = .int .i64 65536 := rfl
  have ef : a.eval (.func 70) = .func (.func 70) #[] #[] := rfl
  refine st_callG hF hC hW ho h2 (by decide) hd hg rfl (f := 70) (args := #[.int .i64 X.at0, .int .i64 0, .int .i64 65536]) ?_ ?_ ?_
  · generalize a.eval = ρ at e17 ec1 ec2 ef ⊢
    unfold execOp
    rw [hop]
    simp [e17, ec1, ec2, ef, go_sem]
  · exact in_k ok.h1 w
  · intro w' hk; exact SGA.keep hW hk
theorem SGA.s3 (X : SGA) (ok : SGAOk X) {Q : Exit → Act → World → Prop} : StepG (opsOf 6 Try.f31) SGA.acts SGA.av X.val0 X.Wd X.a0 Q 3 := by
  intro γ listed a w o hF hC hW h1 ho h2
  obtain ⟨hd, hop, hg⟩ := fields2 (x := some 19) (y := Op.unOp .not 4 (.tmp 18)) (z := none) (by kernel_rfl) ho
  have e18 : a.eval (.tmp 18) = .bool false := slotG hF ho h2 (j := 2) (d := 18) (by kernel_rfl) (by kernel_rfl) (by rw [ok.sz]; decide)
  refine st_pureG hF hC hW ho h2 (by decide) hd hg rfl ?_
  show _ = Result.ok (Next.value (.bool true)) w
  generalize a.eval = ρ at e18 ⊢
  unfold execOp
  rw [hop]
  simp [e18, go_sem]
theorem SGA.s4 (X : SGA) (ok : SGAOk X) {Q : Exit → Act → World → Prop} : StepG (opsOf 6 Try.f31) SGA.acts SGA.av X.val0 X.Wd X.a0 Q 4 := by
  intro γ listed a w o hF hC hW h1 ho h2
  obtain ⟨hd, hop, hg⟩ := fields2 (x := some 20) (y := Op.move (.tmp 19)) (z := none) (by kernel_rfl) ho
  have e19 : a.eval (.tmp 19) = .bool true := slotG hF ho h2 (j := 3) (d := 19) (by kernel_rfl) (by kernel_rfl) (by rw [ok.sz]; decide)
  refine st_pureG hF hC hW ho h2 (by decide) hd hg rfl ?_
  show _ = Result.ok (Next.value (.bool true)) w
  generalize a.eval = ρ at e19 ⊢
  unfold execOp
  rw [hop]
  simp [e19, go_sem]
theorem SGA.s5 (X : SGA) (ok : SGAOk X) {Q : Exit → Act → World → Prop} : StepG (opsOf 6 Try.f31) SGA.acts SGA.av X.val0 X.Wd X.a0 Q 5 := by
  intro γ listed a w o hF hC hW h1 ho h2
  obtain ⟨hd, hop, hg⟩ := fields2 (x := some 21) (y := Op.fieldAddr 106 (.tmp 4) 1) (z := some (4, false)) (by kernel_rfl) ho
  have eg : a.eval (.tmp 20) = .bool true := slotG hF ho h2 (j := 4) (d := 20) (by kernel_rfl) (by kernel_rfl) (by rw [ok.sz]; decide)
  have hw := wanted_of (ops := (opsOf 6 Try.f31)) hg (yl_of (by kernel_rfl : dstOf (opsOf 6 Try.f31) 4 = some 20) (by rw [hF.tsize, ok.sz]; decide) eg)
  replace hw : Region.wanted o (yielded (opsOf 6 Try.f31) a.tmps) = false := hw
  exact st_skipW hF hC hW ho h2 (by decide) hd hw rfl rfl
theorem SGA.s6 (X : SGA) (ok : SGAOk X) {Q : Exit → Act → World → Prop} : StepG (opsOf 6 Try.f31) SGA.acts SGA.av X.val0 X.Wd X.a0 Q 6 := by
  intro γ listed a w o hF hC hW h1 ho h2
  obtain ⟨hd, hop, hg⟩ := fields2 (x := some 22) (y := Op.load 24 (.tmp 21)) (z := some (4, false)) (by kernel_rfl) ho
  have eg : a.eval (.tmp 20) = .bool true := slotG hF ho h2 (j := 4) (d := 20) (by kernel_rfl) (by kernel_rfl) (by rw [ok.sz]; decide)
  have hw := wanted_of (ops := (opsOf 6 Try.f31)) hg (yl_of (by kernel_rfl : dstOf (opsOf 6 Try.f31) 4 = some 20) (by rw [hF.tsize, ok.sz]; decide) eg)
  replace hw : Region.wanted o (yielded (opsOf 6 Try.f31) a.tmps) = false := hw
  exact st_skipW hF hC hW ho h2 (by decide) hd hw rfl rfl
theorem SGA.s7 (X : SGA) (ok : SGAOk X) {Q : Exit → Act → World → Prop} : StepG (opsOf 6 Try.f31) SGA.acts SGA.av X.val0 X.Wd X.a0 Q 7 := by
  intro γ listed a w o hF hC hW h1 ho h2
  obtain ⟨hd, hop, hg⟩ := fields2 (x := some 23) (y := Op.call { callee := .value (.func 22), args := #[(.tmp 22)], argTypes := #[24] }) (z := some (4, false)) (by kernel_rfl) ho
  have eg : a.eval (.tmp 20) = .bool true := slotG hF ho h2 (j := 4) (d := 20) (by kernel_rfl) (by kernel_rfl) (by rw [ok.sz]; decide)
  have hw := wanted_of (ops := (opsOf 6 Try.f31)) hg (yl_of (by kernel_rfl : dstOf (opsOf 6 Try.f31) 4 = some 20) (by rw [hF.tsize, ok.sz]; decide) eg)
  replace hw : Region.wanted o (yielded (opsOf 6 Try.f31) a.tmps) = false := hw
  exact st_skipW hF hC hW ho h2 (by decide) hd hw rfl rfl
theorem SGA.s8 (X : SGA) (ok : SGAOk X) {Q : Exit → Act → World → Prop} : StepG (opsOf 6 Try.f31) SGA.acts SGA.av X.val0 X.Wd X.a0 Q 8 := by
  intro γ listed a w o hF hC hW h1 ho h2
  obtain ⟨hd, hop, hg⟩ := fields2 (x := some 24) (y := Op.unOp .not 4 (.tmp 23)) (z := some (4, false)) (by kernel_rfl) ho
  have eg : a.eval (.tmp 20) = .bool true := slotG hF ho h2 (j := 4) (d := 20) (by kernel_rfl) (by kernel_rfl) (by rw [ok.sz]; decide)
  have hw := wanted_of (ops := (opsOf 6 Try.f31)) hg (yl_of (by kernel_rfl : dstOf (opsOf 6 Try.f31) 4 = some 20) (by rw [hF.tsize, ok.sz]; decide) eg)
  replace hw : Region.wanted o (yielded (opsOf 6 Try.f31) a.tmps) = false := hw
  exact st_skipW hF hC hW ho h2 (by decide) hd hw rfl rfl
theorem SGA.s9 (X : SGA) (ok : SGAOk X) {Q : Exit → Act → World → Prop} : StepG (opsOf 6 Try.f31) SGA.acts SGA.av X.val0 X.Wd X.a0 Q 9 := by
  intro γ listed a w o hF hC hW h1 ho h2
  obtain ⟨hd, hop, hg⟩ := fields2 (x := some 25) (y := Op.pick (.tmp 20) (.const (.bool true)) (.tmp 24)) (z := none) (by kernel_rfl) ho
  have e20 : a.eval (.tmp 20) = .bool true := slotG hF ho h2 (j := 4) (d := 20) (by kernel_rfl) (by kernel_rfl) (by rw [ok.sz]; decide)
  have ec1 : a.eval (.const (.bool true)) = .bool true := rfl
  have e24 : a.eval (.tmp 24) = undef := slotG hF ho h2 (j := 8) (d := 24) (by kernel_rfl) (by kernel_rfl) (by rw [ok.sz]; decide)
  refine st_pureG hF hC hW ho h2 (by decide) hd hg rfl ?_
  show _ = Result.ok (Next.value (.bool true)) w
  generalize a.eval = ρ at e20 ec1 e24 ⊢
  unfold execOp
  rw [hop]
  simp [e20, ec1, e24, go_sem]
theorem SGA.s10 (X : SGA) (ok : SGAOk X) {Q : Exit → Act → World → Prop} : StepG (opsOf 6 Try.f31) SGA.acts SGA.av X.val0 X.Wd X.a0 Q 10 := by
  intro γ listed a w o hF hC hW h1 ho h2
  obtain ⟨hd, hop, hg⟩ := fields2 (x := some 26) (y := Op.move (.tmp 25)) (z := none) (by kernel_rfl) ho
  have e25 : a.eval (.tmp 25) = .bool true := slotG hF ho h2 (j := 9) (d := 25) (by kernel_rfl) (by kernel_rfl) (by rw [ok.sz]; decide)
  refine st_pureG hF hC hW ho h2 (by decide) hd hg rfl ?_
  show _ = Result.ok (Next.value (.bool true)) w
  generalize a.eval = ρ at e25 ⊢
  unfold execOp
  rw [hop]
  simp [e25, go_sem]
theorem SGA.s11 (X : SGA) (ok : SGAOk X) {Q : Exit → Act → World → Prop} : StepG (opsOf 6 Try.f31) SGA.acts SGA.av X.val0 X.Wd X.a0 Q 11 := by
  intro γ listed a w o hF hC hW h1 ho h2
  obtain ⟨hd, hop, hg⟩ := fields2 (x := some 27) (y := Op.move (.tmp 3)) (z := some (10, false)) (by kernel_rfl) ho
  have eg : a.eval (.tmp 26) = .bool true := slotG hF ho h2 (j := 10) (d := 26) (by kernel_rfl) (by kernel_rfl) (by rw [ok.sz]; decide)
  have hw := wanted_of (ops := (opsOf 6 Try.f31)) hg (yl_of (by kernel_rfl : dstOf (opsOf 6 Try.f31) 10 = some 26) (by rw [hF.tsize, ok.sz]; decide) eg)
  replace hw : Region.wanted o (yielded (opsOf 6 Try.f31) a.tmps) = false := hw
  exact st_skipW hF hC hW ho h2 (by decide) hd hw rfl rfl
theorem SGA.s12 (X : SGA) (ok : SGAOk X) {Q : Exit → Act → World → Prop} : StepG (opsOf 6 Try.f31) SGA.acts SGA.av X.val0 X.Wd X.a0 Q 12 := by
  intro γ listed a w o hF hC hW h1 ho h2
  obtain ⟨hd, hop, hg⟩ := fields2 (x := some 28) (y := Op.binOp .gtr 3 (.tmp 27) (.const (.int .i64 0)) 3) (z := some (10, false)) (by kernel_rfl) ho
  have eg : a.eval (.tmp 26) = .bool true := slotG hF ho h2 (j := 10) (d := 26) (by kernel_rfl) (by kernel_rfl) (by rw [ok.sz]; decide)
  have hw := wanted_of (ops := (opsOf 6 Try.f31)) hg (yl_of (by kernel_rfl : dstOf (opsOf 6 Try.f31) 10 = some 26) (by rw [hF.tsize, ok.sz]; decide) eg)
  replace hw : Region.wanted o (yielded (opsOf 6 Try.f31) a.tmps) = false := hw
  exact st_skipW hF hC hW ho h2 (by decide) hd hw rfl rfl
theorem SGA.s13 (X : SGA) (ok : SGAOk X) {Q : Exit → Act → World → Prop} : StepG (opsOf 6 Try.f31) SGA.acts SGA.av X.val0 X.Wd X.a0 Q 13 := by
  intro γ listed a w o hF hC hW h1 ho h2
  obtain ⟨hd, hop, hg⟩ := fields2 (x := some 29) (y := Op.move (.tmp 28)) (z := some (10, false)) (by kernel_rfl) ho
  have eg : a.eval (.tmp 26) = .bool true := slotG hF ho h2 (j := 10) (d := 26) (by kernel_rfl) (by kernel_rfl) (by rw [ok.sz]; decide)
  have hw := wanted_of (ops := (opsOf 6 Try.f31)) hg (yl_of (by kernel_rfl : dstOf (opsOf 6 Try.f31) 10 = some 26) (by rw [hF.tsize, ok.sz]; decide) eg)
  replace hw : Region.wanted o (yielded (opsOf 6 Try.f31) a.tmps) = false := hw
  exact st_skipW hF hC hW ho h2 (by decide) hd hw rfl rfl
theorem SGA.s14 (X : SGA) (ok : SGAOk X) {Q : Exit → Act → World → Prop} : StepG (opsOf 6 Try.f31) SGA.acts SGA.av X.val0 X.Wd X.a0 Q 14 := by
  intro γ listed a w o hF hC hW h1 ho h2
  obtain ⟨hd, hop, hg⟩ := fields2 (x := some 30) (y := Op.move (.tmp 0)) (z := some (13, true)) (by kernel_rfl) ho
  have eg : a.eval (.tmp 29) = undef := slotG hF ho h2 (j := 13) (d := 29) (by kernel_rfl) (by kernel_rfl) (by rw [ok.sz]; decide)
  have hw := wanted_un (ops := (opsOf 6 Try.f31)) hg (by kernel_rfl : dstOf (opsOf 6 Try.f31) 13 = some 29) (by rw [hF.tsize, ok.sz]; decide) eg
  exact st_skipW hF hC hW ho h2 (by decide) hd hw rfl rfl
theorem SGA.s15 (X : SGA) (ok : SGAOk X) {Q : Exit → Act → World → Prop} : StepG (opsOf 6 Try.f31) SGA.acts SGA.av X.val0 X.Wd X.a0 Q 15 := by
  intro γ listed a w o hF hC hW h1 ho h2
  obtain ⟨hd, hop, hg⟩ := fields2 (x := some 31) (y := Op.move (.tmp 3)) (z := some (13, true)) (by kernel_rfl) ho
  have eg : a.eval (.tmp 29) = undef := slotG hF ho h2 (j := 13) (d := 29) (by kernel_rfl) (by kernel_rfl) (by rw [ok.sz]; decide)
  have hw := wanted_un (ops := (opsOf 6 Try.f31)) hg (by kernel_rfl : dstOf (opsOf 6 Try.f31) 13 = some 29) (by rw [hF.tsize, ok.sz]; decide) eg
  exact st_skipW hF hC hW ho h2 (by decide) hd hw rfl rfl
theorem SGA.s16 (X : SGA) (ok : SGAOk X) {Q : Exit → Act → World → Prop} : StepG (opsOf 6 Try.f31) SGA.acts SGA.av X.val0 X.Wd X.a0 Q 16 := by
  intro γ listed a w o hF hC hW h1 ho h2
  obtain ⟨hd, hop, hg⟩ := fields2 (x := some 32) (y := Op.binOp .sub 3 (.tmp 31) (.const (.int .i64 1)) 3) (z := some (13, true)) (by kernel_rfl) ho
  have eg : a.eval (.tmp 29) = undef := slotG hF ho h2 (j := 13) (d := 29) (by kernel_rfl) (by kernel_rfl) (by rw [ok.sz]; decide)
  have hw := wanted_un (ops := (opsOf 6 Try.f31)) hg (by kernel_rfl : dstOf (opsOf 6 Try.f31) 13 = some 29) (by rw [hF.tsize, ok.sz]; decide) eg
  exact st_skipW hF hC hW ho h2 (by decide) hd hw rfl rfl
theorem SGA.s17 (X : SGA) (ok : SGAOk X) {Q : Exit → Act → World → Prop} : StepG (opsOf 6 Try.f31) SGA.acts SGA.av X.val0 X.Wd X.a0 Q 17 := by
  intro γ listed a w o hF hC hW h1 ho h2
  obtain ⟨hd, hop, hg⟩ := fields2 (x := some 33) (y := Op.indexAddr 30 (.tmp 30) (.tmp 32)) (z := some (13, true)) (by kernel_rfl) ho
  have eg : a.eval (.tmp 29) = undef := slotG hF ho h2 (j := 13) (d := 29) (by kernel_rfl) (by kernel_rfl) (by rw [ok.sz]; decide)
  have hw := wanted_un (ops := (opsOf 6 Try.f31)) hg (by kernel_rfl : dstOf (opsOf 6 Try.f31) 13 = some 29) (by rw [hF.tsize, ok.sz]; decide) eg
  exact st_skipW hF hC hW ho h2 (by decide) hd hw rfl rfl
theorem SGA.s18 (X : SGA) (ok : SGAOk X) {Q : Exit → Act → World → Prop} : StepG (opsOf 6 Try.f31) SGA.acts SGA.av X.val0 X.Wd X.a0 Q 18 := by
  intro γ listed a w o hF hC hW h1 ho h2
  obtain ⟨hd, hop, hg⟩ := fields2 (x := some 34) (y := Op.fieldAddr 106 (.tmp 33) 0) (z := some (13, true)) (by kernel_rfl) ho
  have eg : a.eval (.tmp 29) = undef := slotG hF ho h2 (j := 13) (d := 29) (by kernel_rfl) (by kernel_rfl) (by rw [ok.sz]; decide)
  have hw := wanted_un (ops := (opsOf 6 Try.f31)) hg (by kernel_rfl : dstOf (opsOf 6 Try.f31) 13 = some 29) (by rw [hF.tsize, ok.sz]; decide) eg
  exact st_skipW hF hC hW ho h2 (by decide) hd hw rfl rfl
theorem SGA.s19 (X : SGA) (ok : SGAOk X) {Q : Exit → Act → World → Prop} : StepG (opsOf 6 Try.f31) SGA.acts SGA.av X.val0 X.Wd X.a0 Q 19 := by
  intro γ listed a w o hF hC hW h1 ho h2
  obtain ⟨hd, hop, hg⟩ := fields2 (x := some 35) (y := Op.load 3 (.tmp 34)) (z := some (13, true)) (by kernel_rfl) ho
  have eg : a.eval (.tmp 29) = undef := slotG hF ho h2 (j := 13) (d := 29) (by kernel_rfl) (by kernel_rfl) (by rw [ok.sz]; decide)
  have hw := wanted_un (ops := (opsOf 6 Try.f31)) hg (by kernel_rfl : dstOf (opsOf 6 Try.f31) 13 = some 29) (by rw [hF.tsize, ok.sz]; decide) eg
  exact st_skipW hF hC hW ho h2 (by decide) hd hw rfl rfl
theorem SGA.s20 (X : SGA) (ok : SGAOk X) {Q : Exit → Act → World → Prop} : StepG (opsOf 6 Try.f31) SGA.acts SGA.av X.val0 X.Wd X.a0 Q 20 := by
  intro γ listed a w o hF hC hW h1 ho h2
  obtain ⟨hd, hop, hg⟩ := fields2 (x := some 36) (y := Op.fieldAddr 106 (.tmp 4) 0) (z := some (13, true)) (by kernel_rfl) ho
  have eg : a.eval (.tmp 29) = undef := slotG hF ho h2 (j := 13) (d := 29) (by kernel_rfl) (by kernel_rfl) (by rw [ok.sz]; decide)
  have hw := wanted_un (ops := (opsOf 6 Try.f31)) hg (by kernel_rfl : dstOf (opsOf 6 Try.f31) 13 = some 29) (by rw [hF.tsize, ok.sz]; decide) eg
  exact st_skipW hF hC hW ho h2 (by decide) hd hw rfl rfl
theorem SGA.s21 (X : SGA) (ok : SGAOk X) {Q : Exit → Act → World → Prop} : StepG (opsOf 6 Try.f31) SGA.acts SGA.av X.val0 X.Wd X.a0 Q 21 := by
  intro γ listed a w o hF hC hW h1 ho h2
  obtain ⟨hd, hop, hg⟩ := fields2 (x := some 37) (y := Op.load 3 (.tmp 36)) (z := some (13, true)) (by kernel_rfl) ho
  have eg : a.eval (.tmp 29) = undef := slotG hF ho h2 (j := 13) (d := 29) (by kernel_rfl) (by kernel_rfl) (by rw [ok.sz]; decide)
  have hw := wanted_un (ops := (opsOf 6 Try.f31)) hg (by kernel_rfl : dstOf (opsOf 6 Try.f31) 13 = some 29) (by rw [hF.tsize, ok.sz]; decide) eg
  exact st_skipW hF hC hW ho h2 (by decide) hd hw rfl rfl
theorem SGA.s22 (X : SGA) (ok : SGAOk X) {Q : Exit → Act → World → Prop} : StepG (opsOf 6 Try.f31) SGA.acts SGA.av X.val0 X.Wd X.a0 Q 22 := by
  intro γ listed a w o hF hC hW h1 ho h2
  obtain ⟨hd, hop, hg⟩ := fields2 (x := some 38) (y := Op.binOp .gtr 3 (.tmp 35) (.tmp 37) 3) (z := some (13, true)) (by kernel_rfl) ho
  have eg : a.eval (.tmp 29) = undef := slotG hF ho h2 (j := 13) (d := 29) (by kernel_rfl) (by kernel_rfl) (by rw [ok.sz]; decide)
  have hw := wanted_un (ops := (opsOf 6 Try.f31)) hg (by kernel_rfl : dstOf (opsOf 6 Try.f31) 13 = some 29) (by rw [hF.tsize, ok.sz]; decide) eg
  exact st_skipW hF hC hW ho h2 (by decide) hd hw rfl rfl
theorem SGA.s23 (X : SGA) (ok : SGAOk X) {Q : Exit → Act → World → Prop} : StepG (opsOf 6 Try.f31) SGA.acts SGA.av X.val0 X.Wd X.a0 Q 23 := by
  intro γ listed a w o hF hC hW h1 ho h2
  obtain ⟨hd, hop, hg⟩ := fields2 (x := some 39) (y := Op.pick (.tmp 29) (.tmp 38) (.const (.bool false))) (z := some (10, false)) (by kernel_rfl) ho
  have eg : a.eval (.tmp 26) = .bool true := slotG hF ho h2 (j := 10) (d := 26) (by kernel_rfl) (by kernel_rfl) (by rw [ok.sz]; decide)
  have hw := wanted_of (ops := (opsOf 6 Try.f31)) hg (yl_of (by kernel_rfl : dstOf (opsOf 6 Try.f31) 10 = some 26) (by rw [hF.tsize, ok.sz]; decide) eg)
  replace hw : Region.wanted o (yielded (opsOf 6 Try.f31) a.tmps) = false := hw
  exact st_skipW hF hC hW ho h2 (by decide) hd hw rfl rfl
theorem SGA.s24 (X : SGA) (ok : SGAOk X) {Q : Exit → Act → World → Prop} : StepG (opsOf 6 Try.f31) SGA.acts SGA.av X.val0 X.Wd X.a0 Q 24 := by
  intro γ listed a w o hF hC hW h1 ho h2
  obtain ⟨hd, hop, hg⟩ := fields2 (x := some 40) (y := Op.pick (.tmp 26) (.const (.bool true)) (.tmp 39)) (z := none) (by kernel_rfl) ho
  have e26 : a.eval (.tmp 26) = .bool true := slotG hF ho h2 (j := 10) (d := 26) (by kernel_rfl) (by kernel_rfl) (by rw [ok.sz]; decide)
  have ec1 : a.eval (.const (.bool true)) = .bool true := rfl
  have e39 : a.eval (.tmp 39) = undef := slotG hF ho h2 (j := 23) (d := 39) (by kernel_rfl) (by kernel_rfl) (by rw [ok.sz]; decide)
  refine st_pureG hF hC hW ho h2 (by decide) hd hg rfl ?_
  show _ = Result.ok (Next.value (.bool true)) w
  generalize a.eval = ρ at e26 ec1 e39 ⊢
  unfold execOp
  rw [hop]
  simp [e26, ec1, e39, go_sem]
theorem SGA.size : (opsOf 6 Try.f31).size = 25 := by kernel_rfl
theorem SGA.steps (X : SGA) (ok : SGAOk X) {Q : Exit → Act → World → Prop} (i : Nat) (hi : i < (opsOf 6 Try.f31).size) : StepG (opsOf 6 Try.f31) SGA.acts SGA.av X.val0 X.Wd X.a0 Q i := by
  rw [SGA.size] at hi
  have hc : i = 0 ∨ i = 1 ∨ i = 2 ∨ i = 3 ∨ i = 4 ∨ i = 5 ∨ i = 6 ∨ i = 7 ∨ i = 8 ∨ i = 9 ∨ i = 10 ∨ i = 11 ∨ i = 12 ∨ i = 13 ∨ i = 14 ∨ i = 15 ∨ i = 16 ∨ i = 17 ∨ i = 18 ∨ i = 19 ∨ i = 20 ∨ i = 21 ∨ i = 22 ∨ i = 23 ∨ i = 24 := by omega
  rcases hc with rfl | rfl | rfl | rfl | rfl | rfl | rfl | rfl | rfl | rfl | rfl | rfl | rfl | rfl | rfl | rfl | rfl | rfl | rfl | rfl | rfl | rfl | rfl | rfl | rfl
  · exact SGA.s0 X ok
  · exact SGA.s1 X ok
  · exact SGA.s2 X ok
  · exact SGA.s3 X ok
  · exact SGA.s4 X ok
  · exact SGA.s5 X ok
  · exact SGA.s6 X ok
  · exact SGA.s7 X ok
  · exact SGA.s8 X ok
  · exact SGA.s9 X ok
  · exact SGA.s10 X ok
  · exact SGA.s11 X ok
  · exact SGA.s12 X ok
  · exact SGA.s13 X ok
  · exact SGA.s14 X ok
  · exact SGA.s15 X ok
  · exact SGA.s16 X ok
  · exact SGA.s17 X ok
  · exact SGA.s18 X ok
  · exact SGA.s19 X ok
  · exact SGA.s20 X ok
  · exact SGA.s21 X ok
  · exact SGA.s22 X ok
  · exact SGA.s23 X ok
  · exact SGA.s24 X ok
theorem SGA.puts (X : SGA) (γ : Nat → Value) (a0 : Act) : putsL (valG SGA.av X.val0 γ) (opsOf 6 Try.f31).toList a0 = (((((((((((((((((((((((((a0.put (some 16) (.pointer (some ⟨X.b, 0, none⟩))).put (some 17) (.int .i64 X.at0)).put (some 18) (.bool false)).put (some 19) (.bool true)).put (some 20) (.bool true)).put (some 21) (undef)).put (some 22) (undef)).put (some 23) (undef)).put (some 24) (undef)).put (some 25) (.bool true)).put (some 26) (.bool true)).put (some 27) (undef)).put (some 28) (undef)).put (some 29) (undef)).put (some 30) (undef)).put (some 31) (undef)).put (some 32) (undef)).put (some 33) (undef)).put (some 34) (undef)).put (some 35) (undef)).put (some 36) (undef)).put (some 37) (undef)).put (some 38) (undef)).put (some 39) (undef)).put (some 40) (.bool true)) := by kernel_rfl
/-- The region, whatever order comes up. -/
theorem SGA.run (X : SGA) (ok : SGAOk X) {Q : Exit → Act → World → Prop} (w : World) (h0 : X.Wd 0 (fun _ => undef) w.drew) (hend : ∀ (γ : Nat → Value) w', X.Wd 0 γ w' → Q .normal (((((((((((((((((((((((((X.a0.put (some 16) (.pointer (some ⟨X.b, 0, none⟩))).put (some 17) (.int .i64 X.at0)).put (some 18) (.bool false)).put (some 19) (.bool true)).put (some 20) (.bool true)).put (some 21) (undef)).put (some 22) (undef)).put (some 23) (undef)).put (some 24) (undef)).put (some 25) (.bool true)).put (some 26) (.bool true)).put (some 27) (undef)).put (some 28) (undef)).put (some 29) (undef)).put (some 30) (undef)).put (some 31) (undef)).put (some 32) (undef)).put (some 33) (undef)).put (some 34) (undef)).put (some 35) (undef)).put (some 36) (undef)).put (some 37) (undef)).put (some 38) (undef)).put (some 39) (undef)).put (some 40) (.bool true)) w') : (Code.region 6 (opsOf 6 Try.f31) true).wp Try.prog Q X.a0 w := by
  refine reg_act (acts := SGA.acts) (av := SGA.av) (val0 := X.val0) (Wd := X.Wd) (by kernel_rfl) (by kernel_rfl) (by rw [SGA.size]; decide) (fun i hi => SGA.steps X ok i hi) _ h0 ?_
  intro γ w' h
  rw [SGA.puts]
  exact hend γ w' h
structure SGB where
  b : Nat
  k : Nat
  at0 : Int
  t0 : Int
  t1 : Int
  t2 : Int
  t3 : Int
  W : World
  a0 : Act
structure SGBOk (X : SGB) : Prop where
  c0 : X.W.cell? ⟨X.b, 0, none⟩ = some (.int .i64 X.at0)
  c1 : X.W.cell? ⟨X.b, 1, none⟩ = some (.int .i64 X.t0)
  c2 : X.W.cell? ⟨X.b, 2, none⟩ = some (.int .i64 X.t1)
  c3 : X.W.cell? ⟨X.b, 3, none⟩ = some (.int .i64 X.t2)
  c4 : X.W.cell? ⟨X.b, 4, none⟩ = some (.int .i64 X.t3)
  h1 : inN X.at0 0 65536 = true
  h2 : tnB ⟨X.t0, X.t1, X.t2, X.t3⟩ = false
  e3 : X.a0.eval (.tmp 3) = .int .i64 (X.k : Int)
  e4 : X.a0.eval (.tmp 4) = .pointer (some ⟨X.b, 0, none⟩)
  sz : X.a0.tmps.size = 42
def SGB.val0 (X : SGB) : Nat → Value
  | 16 => .pointer (some ⟨X.b, 0, none⟩)
  | 17 => .int .i64 X.at0
  | 18 => .bool true
  | 19 => .bool false
  | 20 => .bool false
  | 21 => .pointer (some ⟨X.b, 1, none⟩)
  | 22 => .agg #[.int .i64 X.t0, .int .i64 X.t1, .int .i64 X.t2, .int .i64 X.t3]
  | 23 => .bool false
  | 24 => .bool true
  | 25 => .bool true
  | 26 => .bool true
  | 27 => undef
  | 28 => undef
  | 29 => undef
  | 30 => undef
  | 31 => undef
  | 32 => undef
  | 33 => undef
  | 34 => undef
  | 35 => undef
  | 36 => undef
  | 37 => undef
  | 38 => undef
  | 39 => undef
  | 40 => .bool true
  | _ => undef
def SGB.av : Nat → Option Nat
  | _ => none
def SGB.acts : List Nat := []
/-- The world, by how many of the acting ones have come up. -/
def SGB.Wd (X : SGB) : Nat → (Nat → Value) → World → Prop
  | _, _, w => Kp X.W w
theorem SGB.kp {X : SGB} {n : Nat} {γ : Nat → Value} {w : World} (h : X.Wd n γ w) : Kp X.W w := h
theorem SGB.keep {X : SGB} {n : Nat} {γ : Nat → Value} {w w' : World} (h : X.Wd n γ w) (k : Kp w w') : X.Wd n γ w' := Kp.trans h k
theorem SGB.chain : chainG (opsOf 6 Try.f31) SGB.acts = true := by kernel_rfl
theorem SGB.nodup : SGB.acts.Nodup := by decide
theorem SGB.inj {listed : Array Bool} {i k : Nat} (h : (List.range (opsOf 6 Try.f31).size).all (fun j => decide (j = i) || !(match dstOf (opsOf 6 Try.f31) j with | some d => decide (SGB.av d = some k) | none => false)) = true) (hu : listed.getD i false = false) : ∀ d, got (opsOf 6 Try.f31) listed d → SGB.av d ≠ some k := by
  rintro d ⟨j, h1, h2⟩ h3
  have hlt : j < (opsOf 6 Try.f31).size := by
    rcases Nat.lt_or_ge j (opsOf 6 Try.f31).size with h4 | h4
    · exact h4
    · unfold dstOf at h2; rw [Array.getElem?_eq_none h4] at h2; cases h2
  have h5 := List.all_eq_true.1 h j (List.mem_range.2 hlt)
  rw [h2] at h5
  simp only [h3, decide_true, Bool.not_true, Bool.or_false, decide_eq_true_eq] at h5
  subst h5
  rw [hu] at h1
  cases h1
theorem SGB.s0 (X : SGB) (ok : SGBOk X) {Q : Exit → Act → World → Prop} : StepG (opsOf 6 Try.f31) SGB.acts SGB.av X.val0 X.Wd X.a0 Q 0 := by
  intro γ listed a w o hF hC hW h1 ho h2
  obtain ⟨hd, hop, hg⟩ := fields2 (x := some 16) (y := Op.fieldAddr 106 (.tmp 4) 0) (z := none) (by kernel_rfl) ho
  have e4 : a.eval (.tmp 4) = .pointer (some ⟨X.b, 0, none⟩) := (hF.eval0 (by kernel_rfl)).trans ok.e4
  refine st_pureG hF hC hW ho h2 (by decide) hd hg rfl ?_
  show _ = Result.ok (Next.value (.pointer (some ⟨X.b, 0, none⟩))) w
  generalize a.eval = ρ at e4 ⊢
  unfold execOp
  rw [hop]
  simp [e4, go_sem]
theorem SGB.s1 (X : SGB) (ok : SGBOk X) {Q : Exit → Act → World → Prop} : StepG (opsOf 6 Try.f31) SGB.acts SGB.av X.val0 X.Wd X.a0 Q 1 := by
  intro γ listed a w o hF hC hW h1 ho h2
  obtain ⟨hd, hop, hg⟩ := fields2 (x := some 17) (y := Op.load 3 (.tmp 16)) (z := none) (by kernel_rfl) ho
  have e16 : a.eval (.tmp 16) = .pointer (some ⟨X.b, 0, none⟩) := slotG hF ho h2 (j := 0) (d := 16) (by kernel_rfl) (by kernel_rfl) (by rw [ok.sz]; decide)
  have hc0 := rq_at (SGB.kp hW) ok.c0
  refine st_pureG hF hC hW ho h2 (by decide) hd hg rfl ?_
  show _ = Result.ok (Next.value (.int .i64 X.at0)) w
  generalize a.eval = ρ at e16 ⊢
  unfold execOp
  rw [hop]
  simp [e16, hc0, go_sem]
theorem SGB.s2 (X : SGB) (ok : SGBOk X) {Q : Exit → Act → World → Prop} : StepG (opsOf 6 Try.f31) SGB.acts SGB.av X.val0 X.Wd X.a0 Q 2 := by
  intro γ listed a w o hF hC hW h1 ho h2
  obtain ⟨hd, hop, hg⟩ := fields2 (x := some 18) (y := Op.call { callee := .value (.func 70), args := #[(.tmp 17), (.const (.int .i64 0)), (.const (.int .i64 65536))], argTypes := #[3, 3, 3] }) (z := none) (by kernel_rfl) ho
  have e17 : a.eval (.tmp 17) = .int .i64 X.at0 := slotG hF ho h2 (j := 1) (d := 17) (by kernel_rfl) (by kernel_rfl) (by rw [ok.sz]; decide)
  have ec1 : a.eval (.const (.int .i64 0)) = .int .i64 0 := rfl
  have ec2 : a.eval (.const (.int .i64 65536)) = .int .i64 65536 := rfl
  have ef : a.eval (.func 70) = .func (.func 70) #[] #[] := rfl
  refine st_callG hF hC hW ho h2 (by decide) hd hg rfl (f := 70) (args := #[.int .i64 X.at0, .int .i64 0, .int .i64 65536]) ?_ ?_ ?_
  · generalize a.eval = ρ at e17 ec1 ec2 ef ⊢
    unfold execOp
    rw [hop]
    simp [e17, ec1, ec2, ef, go_sem]
  · exact in_k ok.h1 w
  · intro w' hk; exact SGB.keep hW hk
theorem SGB.s3 (X : SGB) (ok : SGBOk X) {Q : Exit → Act → World → Prop} : StepG (opsOf 6 Try.f31) SGB.acts SGB.av X.val0 X.Wd X.a0 Q 3 := by
  intro γ listed a w o hF hC hW h1 ho h2
  obtain ⟨hd, hop, hg⟩ := fields2 (x := some 19) (y := Op.unOp .not 4 (.tmp 18)) (z := none) (by kernel_rfl) ho
  have e18 : a.eval (.tmp 18) = .bool true := slotG hF ho h2 (j := 2) (d := 18) (by kernel_rfl) (by kernel_rfl) (by rw [ok.sz]; decide)
  refine st_pureG hF hC hW ho h2 (by decide) hd hg rfl ?_
  show _ = Result.ok (Next.value (.bool false)) w
  generalize a.eval = ρ at e18 ⊢
  unfold execOp
  rw [hop]
  simp [e18, go_sem]
theorem SGB.s4 (X : SGB) (ok : SGBOk X) {Q : Exit → Act → World → Prop} : StepG (opsOf 6 Try.f31) SGB.acts SGB.av X.val0 X.Wd X.a0 Q 4 := by
  intro γ listed a w o hF hC hW h1 ho h2
  obtain ⟨hd, hop, hg⟩ := fields2 (x := some 20) (y := Op.move (.tmp 19)) (z := none) (by kernel_rfl) ho
  have e19 : a.eval (.tmp 19) = .bool false := slotG hF ho h2 (j := 3) (d := 19) (by kernel_rfl) (by kernel_rfl) (by rw [ok.sz]; decide)
  refine st_pureG hF hC hW ho h2 (by decide) hd hg rfl ?_
  show _ = Result.ok (Next.value (.bool false)) w
  generalize a.eval = ρ at e19 ⊢
  unfold execOp
  rw [hop]
  simp [e19, go_sem]
theorem SGB.s5 (X : SGB) (ok : SGBOk X) {Q : Exit → Act → World → Prop} : StepG (opsOf 6 Try.f31) SGB.acts SGB.av X.val0 X.Wd X.a0 Q 5 := by
  intro γ listed a w o hF hC hW h1 ho h2
  obtain ⟨hd, hop, hg⟩ := fields2 (x := some 21) (y := Op.fieldAddr 106 (.tmp 4) 1) (z := some (4, false)) (by kernel_rfl) ho
  have eg : a.eval (.tmp 20) = .bool false := slotG hF ho h2 (j := 4) (d := 20) (by kernel_rfl) (by kernel_rfl) (by rw [ok.sz]; decide)
  have hw := wanted_of (ops := (opsOf 6 Try.f31)) hg (yl_of (by kernel_rfl : dstOf (opsOf 6 Try.f31) 4 = some 20) (by rw [hF.tsize, ok.sz]; decide) eg)
  replace hw : Region.wanted o (yielded (opsOf 6 Try.f31) a.tmps) = true := hw
  have e4 : a.eval (.tmp 4) = .pointer (some ⟨X.b, 0, none⟩) := (hF.eval0 (by kernel_rfl)).trans ok.e4
  refine st_pureW hF hC hW ho h2 (by decide) hd hw rfl ?_
  show _ = Result.ok (Next.value (.pointer (some ⟨X.b, 1, none⟩))) w
  generalize a.eval = ρ at e4 ⊢
  unfold execOp
  rw [hop]
  simp [e4, go_sem]
theorem SGB.s6 (X : SGB) (ok : SGBOk X) {Q : Exit → Act → World → Prop} : StepG (opsOf 6 Try.f31) SGB.acts SGB.av X.val0 X.Wd X.a0 Q 6 := by
  intro γ listed a w o hF hC hW h1 ho h2
  obtain ⟨hd, hop, hg⟩ := fields2 (x := some 22) (y := Op.load 24 (.tmp 21)) (z := some (4, false)) (by kernel_rfl) ho
  have eg : a.eval (.tmp 20) = .bool false := slotG hF ho h2 (j := 4) (d := 20) (by kernel_rfl) (by kernel_rfl) (by rw [ok.sz]; decide)
  have hw := wanted_of (ops := (opsOf 6 Try.f31)) hg (yl_of (by kernel_rfl : dstOf (opsOf 6 Try.f31) 4 = some 20) (by rw [hF.tsize, ok.sz]; decide) eg)
  replace hw : Region.wanted o (yielded (opsOf 6 Try.f31) a.tmps) = true := hw
  have e21 : a.eval (.tmp 21) = .pointer (some ⟨X.b, 1, none⟩) := slotG hF ho h2 (j := 5) (d := 21) (by kernel_rfl) (by kernel_rfl) (by rw [ok.sz]; decide)
  have hc0 := rq_at (SGB.kp hW) ok.c1
  have hc1 := rq_at (SGB.kp hW) ok.c2
  have hc2 := rq_at (SGB.kp hW) ok.c3
  have hc3 := rq_at (SGB.kp hW) ok.c4
  refine st_pureW hF hC hW ho h2 (by decide) hd hw rfl ?_
  show _ = Result.ok (Next.value (.agg #[.int .i64 X.t0, .int .i64 X.t1, .int .i64 X.t2, .int .i64 X.t3])) w
  generalize a.eval = ρ at e21 ⊢
  unfold execOp
  rw [hop]
  simp [e21, hc0, hc1, hc2, hc3, go_sem]
theorem SGB.s7 (X : SGB) (ok : SGBOk X) {Q : Exit → Act → World → Prop} : StepG (opsOf 6 Try.f31) SGB.acts SGB.av X.val0 X.Wd X.a0 Q 7 := by
  intro γ listed a w o hF hC hW h1 ho h2
  obtain ⟨hd, hop, hg⟩ := fields2 (x := some 23) (y := Op.call { callee := .value (.func 22), args := #[(.tmp 22)], argTypes := #[24] }) (z := some (4, false)) (by kernel_rfl) ho
  have eg : a.eval (.tmp 20) = .bool false := slotG hF ho h2 (j := 4) (d := 20) (by kernel_rfl) (by kernel_rfl) (by rw [ok.sz]; decide)
  have hw := wanted_of (ops := (opsOf 6 Try.f31)) hg (yl_of (by kernel_rfl : dstOf (opsOf 6 Try.f31) 4 = some 20) (by rw [hF.tsize, ok.sz]; decide) eg)
  replace hw : Region.wanted o (yielded (opsOf 6 Try.f31) a.tmps) = true := hw
  have e22 : a.eval (.tmp 22) = .agg #[.int .i64 X.t0, .int .i64 X.t1, .int .i64 X.t2, .int .i64 X.t3] := slotG hF ho h2 (j := 6) (d := 22) (by kernel_rfl) (by kernel_rfl) (by rw [ok.sz]; decide)
  have ef : a.eval (.func 22) = .func (.func 22) #[] #[] := rfl
  refine st_callW hF hC hW ho h2 (by decide) hd hw rfl (f := 22) (args := #[.agg #[.int .i64 X.t0, .int .i64 X.t1, .int .i64 X.t2, .int .i64 X.t3]]) ?_ ?_ ?_
  · generalize a.eval = ρ at e22 ef ⊢
    unfold execOp
    rw [hop]
    simp [e22, ef, go_sem]
  · exact good_k ok.h2 w
  · intro w' hk; exact SGB.keep hW hk
theorem SGB.s8 (X : SGB) (ok : SGBOk X) {Q : Exit → Act → World → Prop} : StepG (opsOf 6 Try.f31) SGB.acts SGB.av X.val0 X.Wd X.a0 Q 8 := by
  intro γ listed a w o hF hC hW h1 ho h2
  obtain ⟨hd, hop, hg⟩ := fields2 (x := some 24) (y := Op.unOp .not 4 (.tmp 23)) (z := some (4, false)) (by kernel_rfl) ho
  have eg : a.eval (.tmp 20) = .bool false := slotG hF ho h2 (j := 4) (d := 20) (by kernel_rfl) (by kernel_rfl) (by rw [ok.sz]; decide)
  have hw := wanted_of (ops := (opsOf 6 Try.f31)) hg (yl_of (by kernel_rfl : dstOf (opsOf 6 Try.f31) 4 = some 20) (by rw [hF.tsize, ok.sz]; decide) eg)
  replace hw : Region.wanted o (yielded (opsOf 6 Try.f31) a.tmps) = true := hw
  have e23 : a.eval (.tmp 23) = .bool false := slotG hF ho h2 (j := 7) (d := 23) (by kernel_rfl) (by kernel_rfl) (by rw [ok.sz]; decide)
  refine st_pureW hF hC hW ho h2 (by decide) hd hw rfl ?_
  show _ = Result.ok (Next.value (.bool true)) w
  generalize a.eval = ρ at e23 ⊢
  unfold execOp
  rw [hop]
  simp [e23, go_sem]
theorem SGB.s9 (X : SGB) (ok : SGBOk X) {Q : Exit → Act → World → Prop} : StepG (opsOf 6 Try.f31) SGB.acts SGB.av X.val0 X.Wd X.a0 Q 9 := by
  intro γ listed a w o hF hC hW h1 ho h2
  obtain ⟨hd, hop, hg⟩ := fields2 (x := some 25) (y := Op.pick (.tmp 20) (.const (.bool true)) (.tmp 24)) (z := none) (by kernel_rfl) ho
  have e20 : a.eval (.tmp 20) = .bool false := slotG hF ho h2 (j := 4) (d := 20) (by kernel_rfl) (by kernel_rfl) (by rw [ok.sz]; decide)
  have ec1 : a.eval (.const (.bool true)) = .bool true := rfl
  have e24 : a.eval (.tmp 24) = .bool true := slotG hF ho h2 (j := 8) (d := 24) (by kernel_rfl) (by kernel_rfl) (by rw [ok.sz]; decide)
  refine st_pureG hF hC hW ho h2 (by decide) hd hg rfl ?_
  show _ = Result.ok (Next.value (.bool true)) w
  generalize a.eval = ρ at e20 ec1 e24 ⊢
  unfold execOp
  rw [hop]
  simp [e20, ec1, e24, go_sem]
theorem SGB.s10 (X : SGB) (ok : SGBOk X) {Q : Exit → Act → World → Prop} : StepG (opsOf 6 Try.f31) SGB.acts SGB.av X.val0 X.Wd X.a0 Q 10 := by
  intro γ listed a w o hF hC hW h1 ho h2
  obtain ⟨hd, hop, hg⟩ := fields2 (x := some 26) (y := Op.move (.tmp 25)) (z := none) (by kernel_rfl) ho
  have e25 : a.eval (.tmp 25) = .bool true := slotG hF ho h2 (j := 9) (d := 25) (by kernel_rfl) (by kernel_rfl) (by rw [ok.sz]; decide)
  refine st_pureG hF hC hW ho h2 (by decide) hd hg rfl ?_
  show _ = Result.ok (Next.value (.bool true)) w
  generalize a.eval = ρ at e25 ⊢
  unfold execOp
  rw [hop]
  simp [e25, go_sem]
theorem SGB.s11 (X : SGB) (ok : SGBOk X) {Q : Exit → Act → World → Prop} : StepG (opsOf 6 Try.f31) SGB.acts SGB.av X.val0 X.Wd X.a0 Q 11 := by
  intro γ listed a w o hF hC hW h1 ho h2
  obtain ⟨hd, hop, hg⟩ := fields2 (x := some 27) (y := Op.move (.tmp 3)) (z := some (10, false)) (by kernel_rfl) ho
  have eg : a.eval (.tmp 26) = .bool true := slotG hF ho h2 (j := 10) (d := 26) (by kernel_rfl) (by kernel_rfl) (by rw [ok.sz]; decide)
  have hw := wanted_of (ops := (opsOf 6 Try.f31)) hg (yl_of (by kernel_rfl : dstOf (opsOf 6 Try.f31) 10 = some 26) (by rw [hF.tsize, ok.sz]; decide) eg)
  replace hw : Region.wanted o (yielded (opsOf 6 Try.f31) a.tmps) = false := hw
  exact st_skipW hF hC hW ho h2 (by decide) hd hw rfl rfl
theorem SGB.s12 (X : SGB) (ok : SGBOk X) {Q : Exit → Act → World → Prop} : StepG (opsOf 6 Try.f31) SGB.acts SGB.av X.val0 X.Wd X.a0 Q 12 := by
  intro γ listed a w o hF hC hW h1 ho h2
  obtain ⟨hd, hop, hg⟩ := fields2 (x := some 28) (y := Op.binOp .gtr 3 (.tmp 27) (.const (.int .i64 0)) 3) (z := some (10, false)) (by kernel_rfl) ho
  have eg : a.eval (.tmp 26) = .bool true := slotG hF ho h2 (j := 10) (d := 26) (by kernel_rfl) (by kernel_rfl) (by rw [ok.sz]; decide)
  have hw := wanted_of (ops := (opsOf 6 Try.f31)) hg (yl_of (by kernel_rfl : dstOf (opsOf 6 Try.f31) 10 = some 26) (by rw [hF.tsize, ok.sz]; decide) eg)
  replace hw : Region.wanted o (yielded (opsOf 6 Try.f31) a.tmps) = false := hw
  exact st_skipW hF hC hW ho h2 (by decide) hd hw rfl rfl
theorem SGB.s13 (X : SGB) (ok : SGBOk X) {Q : Exit → Act → World → Prop} : StepG (opsOf 6 Try.f31) SGB.acts SGB.av X.val0 X.Wd X.a0 Q 13 := by
  intro γ listed a w o hF hC hW h1 ho h2
  obtain ⟨hd, hop, hg⟩ := fields2 (x := some 29) (y := Op.move (.tmp 28)) (z := some (10, false)) (by kernel_rfl) ho
  have eg : a.eval (.tmp 26) = .bool true := slotG hF ho h2 (j := 10) (d := 26) (by kernel_rfl) (by kernel_rfl) (by rw [ok.sz]; decide)
  have hw := wanted_of (ops := (opsOf 6 Try.f31)) hg (yl_of (by kernel_rfl : dstOf (opsOf 6 Try.f31) 10 = some 26) (by rw [hF.tsize, ok.sz]; decide) eg)
  replace hw : Region.wanted o (yielded (opsOf 6 Try.f31) a.tmps) = false := hw
  exact st_skipW hF hC hW ho h2 (by decide) hd hw rfl rfl
theorem SGB.s14 (X : SGB) (ok : SGBOk X) {Q : Exit → Act → World → Prop} : StepG (opsOf 6 Try.f31) SGB.acts SGB.av X.val0 X.Wd X.a0 Q 14 := by
  intro γ listed a w o hF hC hW h1 ho h2
  obtain ⟨hd, hop, hg⟩ := fields2 (x := some 30) (y := Op.move (.tmp 0)) (z := some (13, true)) (by kernel_rfl) ho
  have eg : a.eval (.tmp 29) = undef := slotG hF ho h2 (j := 13) (d := 29) (by kernel_rfl) (by kernel_rfl) (by rw [ok.sz]; decide)
  have hw := wanted_un (ops := (opsOf 6 Try.f31)) hg (by kernel_rfl : dstOf (opsOf 6 Try.f31) 13 = some 29) (by rw [hF.tsize, ok.sz]; decide) eg
  exact st_skipW hF hC hW ho h2 (by decide) hd hw rfl rfl
theorem SGB.s15 (X : SGB) (ok : SGBOk X) {Q : Exit → Act → World → Prop} : StepG (opsOf 6 Try.f31) SGB.acts SGB.av X.val0 X.Wd X.a0 Q 15 := by
  intro γ listed a w o hF hC hW h1 ho h2
  obtain ⟨hd, hop, hg⟩ := fields2 (x := some 31) (y := Op.move (.tmp 3)) (z := some (13, true)) (by kernel_rfl) ho
  have eg : a.eval (.tmp 29) = undef := slotG hF ho h2 (j := 13) (d := 29) (by kernel_rfl) (by kernel_rfl) (by rw [ok.sz]; decide)
  have hw := wanted_un (ops := (opsOf 6 Try.f31)) hg (by kernel_rfl : dstOf (opsOf 6 Try.f31) 13 = some 29) (by rw [hF.tsize, ok.sz]; decide) eg
  exact st_skipW hF hC hW ho h2 (by decide) hd hw rfl rfl
theorem SGB.s16 (X : SGB) (ok : SGBOk X) {Q : Exit → Act → World → Prop} : StepG (opsOf 6 Try.f31) SGB.acts SGB.av X.val0 X.Wd X.a0 Q 16 := by
  intro γ listed a w o hF hC hW h1 ho h2
  obtain ⟨hd, hop, hg⟩ := fields2 (x := some 32) (y := Op.binOp .sub 3 (.tmp 31) (.const (.int .i64 1)) 3) (z := some (13, true)) (by kernel_rfl) ho
  have eg : a.eval (.tmp 29) = undef := slotG hF ho h2 (j := 13) (d := 29) (by kernel_rfl) (by kernel_rfl) (by rw [ok.sz]; decide)
  have hw := wanted_un (ops := (opsOf 6 Try.f31)) hg (by kernel_rfl : dstOf (opsOf 6 Try.f31) 13 = some 29) (by rw [hF.tsize, ok.sz]; decide) eg
  exact st_skipW hF hC hW ho h2 (by decide) hd hw rfl rfl
theorem SGB.s17 (X : SGB) (ok : SGBOk X) {Q : Exit → Act → World → Prop} : StepG (opsOf 6 Try.f31) SGB.acts SGB.av X.val0 X.Wd X.a0 Q 17 := by
  intro γ listed a w o hF hC hW h1 ho h2
  obtain ⟨hd, hop, hg⟩ := fields2 (x := some 33) (y := Op.indexAddr 30 (.tmp 30) (.tmp 32)) (z := some (13, true)) (by kernel_rfl) ho
  have eg : a.eval (.tmp 29) = undef := slotG hF ho h2 (j := 13) (d := 29) (by kernel_rfl) (by kernel_rfl) (by rw [ok.sz]; decide)
  have hw := wanted_un (ops := (opsOf 6 Try.f31)) hg (by kernel_rfl : dstOf (opsOf 6 Try.f31) 13 = some 29) (by rw [hF.tsize, ok.sz]; decide) eg
  exact st_skipW hF hC hW ho h2 (by decide) hd hw rfl rfl
theorem SGB.s18 (X : SGB) (ok : SGBOk X) {Q : Exit → Act → World → Prop} : StepG (opsOf 6 Try.f31) SGB.acts SGB.av X.val0 X.Wd X.a0 Q 18 := by
  intro γ listed a w o hF hC hW h1 ho h2
  obtain ⟨hd, hop, hg⟩ := fields2 (x := some 34) (y := Op.fieldAddr 106 (.tmp 33) 0) (z := some (13, true)) (by kernel_rfl) ho
  have eg : a.eval (.tmp 29) = undef := slotG hF ho h2 (j := 13) (d := 29) (by kernel_rfl) (by kernel_rfl) (by rw [ok.sz]; decide)
  have hw := wanted_un (ops := (opsOf 6 Try.f31)) hg (by kernel_rfl : dstOf (opsOf 6 Try.f31) 13 = some 29) (by rw [hF.tsize, ok.sz]; decide) eg
  exact st_skipW hF hC hW ho h2 (by decide) hd hw rfl rfl
theorem SGB.s19 (X : SGB) (ok : SGBOk X) {Q : Exit → Act → World → Prop} : StepG (opsOf 6 Try.f31) SGB.acts SGB.av X.val0 X.Wd X.a0 Q 19 := by
  intro γ listed a w o hF hC hW h1 ho h2
  obtain ⟨hd, hop, hg⟩ := fields2 (x := some 35) (y := Op.load 3 (.tmp 34)) (z := some (13, true)) (by kernel_rfl) ho
  have eg : a.eval (.tmp 29) = undef := slotG hF ho h2 (j := 13) (d := 29) (by kernel_rfl) (by kernel_rfl) (by rw [ok.sz]; decide)
  have hw := wanted_un (ops := (opsOf 6 Try.f31)) hg (by kernel_rfl : dstOf (opsOf 6 Try.f31) 13 = some 29) (by rw [hF.tsize, ok.sz]; decide) eg
  exact st_skipW hF hC hW ho h2 (by decide) hd hw rfl rfl
theorem SGB.s20 (X : SGB) (ok : SGBOk X) {Q : Exit → Act → World → Prop} : StepG (opsOf 6 Try.f31) SGB.acts SGB.av X.val0 X.Wd X.a0 Q 20 := by
  intro γ listed a w o hF hC hW h1 ho h2
  obtain ⟨hd, hop, hg⟩ := fields2 (x := some 36) (y := Op.fieldAddr 106 (.tmp 4) 0) (z := some (13, true)) (by kernel_rfl) ho
  have eg : a.eval (.tmp 29) = undef := slotG hF ho h2 (j := 13) (d := 29) (by kernel_rfl) (by kernel_rfl) (by rw [ok.sz]; decide)
  have hw := wanted_un (ops := (opsOf 6 Try.f31)) hg (by kernel_rfl : dstOf (opsOf 6 Try.f31) 13 = some 29) (by rw [hF.tsize, ok.sz]; decide) eg
  exact st_skipW hF hC hW ho h2 (by decide) hd hw rfl rfl
theorem SGB.s21 (X : SGB) (ok : SGBOk X) {Q : Exit → Act → World → Prop} : StepG (opsOf 6 Try.f31) SGB.acts SGB.av X.val0 X.Wd X.a0 Q 21 := by
  intro γ listed a w o hF hC hW h1 ho h2
  obtain ⟨hd, hop, hg⟩ := fields2 (x := some 37) (y := Op.load 3 (.tmp 36)) (z := some (13, true)) (by kernel_rfl) ho
  have eg : a.eval (.tmp 29) = undef := slotG hF ho h2 (j := 13) (d := 29) (by kernel_rfl) (by kernel_rfl) (by rw [ok.sz]; decide)
  have hw := wanted_un (ops := (opsOf 6 Try.f31)) hg (by kernel_rfl : dstOf (opsOf 6 Try.f31) 13 = some 29) (by rw [hF.tsize, ok.sz]; decide) eg
  exact st_skipW hF hC hW ho h2 (by decide) hd hw rfl rfl
theorem SGB.s22 (X : SGB) (ok : SGBOk X) {Q : Exit → Act → World → Prop} : StepG (opsOf 6 Try.f31) SGB.acts SGB.av X.val0 X.Wd X.a0 Q 22 := by
  intro γ listed a w o hF hC hW h1 ho h2
  obtain ⟨hd, hop, hg⟩ := fields2 (x := some 38) (y := Op.binOp .gtr 3 (.tmp 35) (.tmp 37) 3) (z := some (13, true)) (by kernel_rfl) ho
  have eg : a.eval (.tmp 29) = undef := slotG hF ho h2 (j := 13) (d := 29) (by kernel_rfl) (by kernel_rfl) (by rw [ok.sz]; decide)
  have hw := wanted_un (ops := (opsOf 6 Try.f31)) hg (by kernel_rfl : dstOf (opsOf 6 Try.f31) 13 = some 29) (by rw [hF.tsize, ok.sz]; decide) eg
  exact st_skipW hF hC hW ho h2 (by decide) hd hw rfl rfl
theorem SGB.s23 (X : SGB) (ok : SGBOk X) {Q : Exit → Act → World → Prop} : StepG (opsOf 6 Try.f31) SGB.acts SGB.av X.val0 X.Wd X.a0 Q 23 := by
  intro γ listed a w o hF hC hW h1 ho h2
  obtain ⟨hd, hop, hg⟩ := fields2 (x := some 39) (y := Op.pick (.tmp 29) (.tmp 38) (.const (.bool false))) (z := some (10, false)) (by kernel_rfl) ho
  have eg : a.eval (.tmp 26) = .bool true := slotG hF ho h2 (j := 10) (d := 26) (by kernel_rfl) (by kernel_rfl) (by rw [ok.sz]; decide)
  have hw := wanted_of (ops := (opsOf 6 Try.f31)) hg (yl_of (by kernel_rfl : dstOf (opsOf 6 Try.f31) 10 = some 26) (by rw [hF.tsize, ok.sz]; decide) eg)
  replace hw : Region.wanted o (yielded (opsOf 6 Try.f31) a.tmps) = false := hw
  exact st_skipW hF hC hW ho h2 (by decide) hd hw rfl rfl
theorem SGB.s24 (X : SGB) (ok : SGBOk X) {Q : Exit → Act → World → Prop} : StepG (opsOf 6 Try.f31) SGB.acts SGB.av X.val0 X.Wd X.a0 Q 24 := by
  intro γ listed a w o hF hC hW h1 ho h2
  obtain ⟨hd, hop, hg⟩ := fields2 (x := some 40) (y := Op.pick (.tmp 26) (.const (.bool true)) (.tmp 39)) (z := none) (by kernel_rfl) ho
  have e26 : a.eval (.tmp 26) = .bool true := slotG hF ho h2 (j := 10) (d := 26) (by kernel_rfl) (by kernel_rfl) (by rw [ok.sz]; decide)
  have ec1 : a.eval (.const (.bool true)) = .bool true := rfl
  have e39 : a.eval (.tmp 39) = undef := slotG hF ho h2 (j := 23) (d := 39) (by kernel_rfl) (by kernel_rfl) (by rw [ok.sz]; decide)
  refine st_pureG hF hC hW ho h2 (by decide) hd hg rfl ?_
  show _ = Result.ok (Next.value (.bool true)) w
  generalize a.eval = ρ at e26 ec1 e39 ⊢
  unfold execOp
  rw [hop]
  simp [e26, ec1, e39, go_sem]
theorem SGB.size : (opsOf 6 Try.f31).size = 25 := by kernel_rfl
theorem SGB.steps (X : SGB) (ok : SGBOk X) {Q : Exit → Act → World → Prop} (i : Nat) (hi : i < (opsOf 6 Try.f31).size) : StepG (opsOf 6 Try.f31) SGB.acts SGB.av X.val0 X.Wd X.a0 Q i := by
  rw [SGB.size] at hi
  have hc : i = 0 ∨ i = 1 ∨ i = 2 ∨ i = 3 ∨ i = 4 ∨ i = 5 ∨ i = 6 ∨ i = 7 ∨ i = 8 ∨ i = 9 ∨ i = 10 ∨ i = 11 ∨ i = 12 ∨ i = 13 ∨ i = 14 ∨ i = 15 ∨ i = 16 ∨ i = 17 ∨ i = 18 ∨ i = 19 ∨ i = 20 ∨ i = 21 ∨ i = 22 ∨ i = 23 ∨ i = 24 := by omega
  rcases hc with rfl | rfl | rfl | rfl | rfl | rfl | rfl | rfl | rfl | rfl | rfl | rfl | rfl | rfl | rfl | rfl | rfl | rfl | rfl | rfl | rfl | rfl | rfl | rfl | rfl
  · exact SGB.s0 X ok
  · exact SGB.s1 X ok
  · exact SGB.s2 X ok
  · exact SGB.s3 X ok
  · exact SGB.s4 X ok
  · exact SGB.s5 X ok
  · exact SGB.s6 X ok
  · exact SGB.s7 X ok
  · exact SGB.s8 X ok
  · exact SGB.s9 X ok
  · exact SGB.s10 X ok
  · exact SGB.s11 X ok
  · exact SGB.s12 X ok
  · exact SGB.s13 X ok
  · exact SGB.s14 X ok
  · exact SGB.s15 X ok
  · exact SGB.s16 X ok
  · exact SGB.s17 X ok
  · exact SGB.s18 X ok
  · exact SGB.s19 X ok
  · exact SGB.s20 X ok
  · exact SGB.s21 X ok
  · exact SGB.s22 X ok
  · exact SGB.s23 X ok
  · exact SGB.s24 X ok
theorem SGB.puts (X : SGB) (γ : Nat → Value) (a0 : Act) : putsL (valG SGB.av X.val0 γ) (opsOf 6 Try.f31).toList a0 = (((((((((((((((((((((((((a0.put (some 16) (.pointer (some ⟨X.b, 0, none⟩))).put (some 17) (.int .i64 X.at0)).put (some 18) (.bool true)).put (some 19) (.bool false)).put (some 20) (.bool false)).put (some 21) (.pointer (some ⟨X.b, 1, none⟩))).put (some 22) (.agg #[.int .i64 X.t0, .int .i64 X.t1, .int .i64 X.t2, .int .i64 X.t3])).put (some 23) (.bool false)).put (some 24) (.bool true)).put (some 25) (.bool true)).put (some 26) (.bool true)).put (some 27) (undef)).put (some 28) (undef)).put (some 29) (undef)).put (some 30) (undef)).put (some 31) (undef)).put (some 32) (undef)).put (some 33) (undef)).put (some 34) (undef)).put (some 35) (undef)).put (some 36) (undef)).put (some 37) (undef)).put (some 38) (undef)).put (some 39) (undef)).put (some 40) (.bool true)) := by kernel_rfl
/-- The region, whatever order comes up. -/
theorem SGB.run (X : SGB) (ok : SGBOk X) {Q : Exit → Act → World → Prop} (w : World) (h0 : X.Wd 0 (fun _ => undef) w.drew) (hend : ∀ (γ : Nat → Value) w', X.Wd 0 γ w' → Q .normal (((((((((((((((((((((((((X.a0.put (some 16) (.pointer (some ⟨X.b, 0, none⟩))).put (some 17) (.int .i64 X.at0)).put (some 18) (.bool true)).put (some 19) (.bool false)).put (some 20) (.bool false)).put (some 21) (.pointer (some ⟨X.b, 1, none⟩))).put (some 22) (.agg #[.int .i64 X.t0, .int .i64 X.t1, .int .i64 X.t2, .int .i64 X.t3])).put (some 23) (.bool false)).put (some 24) (.bool true)).put (some 25) (.bool true)).put (some 26) (.bool true)).put (some 27) (undef)).put (some 28) (undef)).put (some 29) (undef)).put (some 30) (undef)).put (some 31) (undef)).put (some 32) (undef)).put (some 33) (undef)).put (some 34) (undef)).put (some 35) (undef)).put (some 36) (undef)).put (some 37) (undef)).put (some 38) (undef)).put (some 39) (undef)).put (some 40) (.bool true)) w') : (Code.region 6 (opsOf 6 Try.f31) true).wp Try.prog Q X.a0 w := by
  refine reg_act (acts := SGB.acts) (av := SGB.av) (val0 := X.val0) (Wd := X.Wd) (by kernel_rfl) (by kernel_rfl) (by rw [SGB.size]; decide) (fun i hi => SGB.steps X ok i hi) _ h0 ?_
  intro γ w' h
  rw [SGB.puts]
  exact hend γ w' h
structure SGC where
  b : Nat
  k : Nat
  at0 : Int
  t0 : Int
  t1 : Int
  t2 : Int
  t3 : Int
  W : World
  a0 : Act
structure SGCOk (X : SGC) : Prop where
  c0 : X.W.cell? ⟨X.b, 0, none⟩ = some (.int .i64 X.at0)
  c1 : X.W.cell? ⟨X.b, 1, none⟩ = some (.int .i64 X.t0)
  c2 : X.W.cell? ⟨X.b, 2, none⟩ = some (.int .i64 X.t1)
  c3 : X.W.cell? ⟨X.b, 3, none⟩ = some (.int .i64 X.t2)
  c4 : X.W.cell? ⟨X.b, 4, none⟩ = some (.int .i64 X.t3)
  h1 : inN X.at0 0 65536 = true
  h2 : tnB ⟨X.t0, X.t1, X.t2, X.t3⟩ = true
  hk : X.k = 0
  e3 : X.a0.eval (.tmp 3) = .int .i64 (X.k : Int)
  e4 : X.a0.eval (.tmp 4) = .pointer (some ⟨X.b, 0, none⟩)
  sz : X.a0.tmps.size = 42
def SGC.val0 (X : SGC) : Nat → Value
  | 16 => .pointer (some ⟨X.b, 0, none⟩)
  | 17 => .int .i64 X.at0
  | 18 => .bool true
  | 19 => .bool false
  | 20 => .bool false
  | 21 => .pointer (some ⟨X.b, 1, none⟩)
  | 22 => .agg #[.int .i64 X.t0, .int .i64 X.t1, .int .i64 X.t2, .int .i64 X.t3]
  | 23 => .bool true
  | 24 => .bool false
  | 25 => .bool false
  | 26 => .bool false
  | 27 => .int .i64 (X.k : Int)
  | 28 => .bool false
  | 29 => .bool false
  | 30 => undef
  | 31 => undef
  | 32 => undef
  | 33 => undef
  | 34 => undef
  | 35 => undef
  | 36 => undef
  | 37 => undef
  | 38 => undef
  | 39 => .bool false
  | 40 => .bool false
  | _ => undef
def SGC.av : Nat → Option Nat
  | _ => none
def SGC.acts : List Nat := []
/-- The world, by how many of the acting ones have come up. -/
def SGC.Wd (X : SGC) : Nat → (Nat → Value) → World → Prop
  | _, _, w => Kp X.W w
theorem SGC.kp {X : SGC} {n : Nat} {γ : Nat → Value} {w : World} (h : X.Wd n γ w) : Kp X.W w := h
theorem SGC.keep {X : SGC} {n : Nat} {γ : Nat → Value} {w w' : World} (h : X.Wd n γ w) (k : Kp w w') : X.Wd n γ w' := Kp.trans h k
theorem SGC.chain : chainG (opsOf 6 Try.f31) SGC.acts = true := by kernel_rfl
theorem SGC.nodup : SGC.acts.Nodup := by decide
theorem SGC.inj {listed : Array Bool} {i k : Nat} (h : (List.range (opsOf 6 Try.f31).size).all (fun j => decide (j = i) || !(match dstOf (opsOf 6 Try.f31) j with | some d => decide (SGC.av d = some k) | none => false)) = true) (hu : listed.getD i false = false) : ∀ d, got (opsOf 6 Try.f31) listed d → SGC.av d ≠ some k := by
  rintro d ⟨j, h1, h2⟩ h3
  have hlt : j < (opsOf 6 Try.f31).size := by
    rcases Nat.lt_or_ge j (opsOf 6 Try.f31).size with h4 | h4
    · exact h4
    · unfold dstOf at h2; rw [Array.getElem?_eq_none h4] at h2; cases h2
  have h5 := List.all_eq_true.1 h j (List.mem_range.2 hlt)
  rw [h2] at h5
  simp only [h3, decide_true, Bool.not_true, Bool.or_false, decide_eq_true_eq] at h5
  subst h5
  rw [hu] at h1
  cases h1
theorem SGC.s0 (X : SGC) (ok : SGCOk X) {Q : Exit → Act → World → Prop} : StepG (opsOf 6 Try.f31) SGC.acts SGC.av X.val0 X.Wd X.a0 Q 0 := by
  intro γ listed a w o hF hC hW h1 ho h2
  obtain ⟨hd, hop, hg⟩ := fields2 (x := some 16) (y := Op.fieldAddr 106 (.tmp 4) 0) (z := none) (by kernel_rfl) ho
  have e4 : a.eval (.tmp 4) = .pointer (some ⟨X.b, 0, none⟩) := (hF.eval0 (by kernel_rfl)).trans ok.e4
  refine st_pureG hF hC hW ho h2 (by decide) hd hg rfl ?_
  show _ = Result.ok (Next.value (.pointer (some ⟨X.b, 0, none⟩))) w
  generalize a.eval = ρ at e4 ⊢
  unfold execOp
  rw [hop]
  simp [e4, go_sem]
theorem SGC.s1 (X : SGC) (ok : SGCOk X) {Q : Exit → Act → World → Prop} : StepG (opsOf 6 Try.f31) SGC.acts SGC.av X.val0 X.Wd X.a0 Q 1 := by
  intro γ listed a w o hF hC hW h1 ho h2
  obtain ⟨hd, hop, hg⟩ := fields2 (x := some 17) (y := Op.load 3 (.tmp 16)) (z := none) (by kernel_rfl) ho
  have e16 : a.eval (.tmp 16) = .pointer (some ⟨X.b, 0, none⟩) := slotG hF ho h2 (j := 0) (d := 16) (by kernel_rfl) (by kernel_rfl) (by rw [ok.sz]; decide)
  have hc0 := rq_at (SGC.kp hW) ok.c0
  refine st_pureG hF hC hW ho h2 (by decide) hd hg rfl ?_
  show _ = Result.ok (Next.value (.int .i64 X.at0)) w
  generalize a.eval = ρ at e16 ⊢
  unfold execOp
  rw [hop]
  simp [e16, hc0, go_sem]
theorem SGC.s2 (X : SGC) (ok : SGCOk X) {Q : Exit → Act → World → Prop} : StepG (opsOf 6 Try.f31) SGC.acts SGC.av X.val0 X.Wd X.a0 Q 2 := by
  intro γ listed a w o hF hC hW h1 ho h2
  obtain ⟨hd, hop, hg⟩ := fields2 (x := some 18) (y := Op.call { callee := .value (.func 70), args := #[(.tmp 17), (.const (.int .i64 0)), (.const (.int .i64 65536))], argTypes := #[3, 3, 3] }) (z := none) (by kernel_rfl) ho
  have e17 : a.eval (.tmp 17) = .int .i64 X.at0 := slotG hF ho h2 (j := 1) (d := 17) (by kernel_rfl) (by kernel_rfl) (by rw [ok.sz]; decide)
  have ec1 : a.eval (.const (.int .i64 0)) = .int .i64 0 := rfl
  have ec2 : a.eval (.const (.int .i64 65536)) = .int .i64 65536 := rfl
  have ef : a.eval (.func 70) = .func (.func 70) #[] #[] := rfl
  refine st_callG hF hC hW ho h2 (by decide) hd hg rfl (f := 70) (args := #[.int .i64 X.at0, .int .i64 0, .int .i64 65536]) ?_ ?_ ?_
  · generalize a.eval = ρ at e17 ec1 ec2 ef ⊢
    unfold execOp
    rw [hop]
    simp [e17, ec1, ec2, ef, go_sem]
  · exact in_k ok.h1 w
  · intro w' hk; exact SGC.keep hW hk
theorem SGC.s3 (X : SGC) (ok : SGCOk X) {Q : Exit → Act → World → Prop} : StepG (opsOf 6 Try.f31) SGC.acts SGC.av X.val0 X.Wd X.a0 Q 3 := by
  intro γ listed a w o hF hC hW h1 ho h2
  obtain ⟨hd, hop, hg⟩ := fields2 (x := some 19) (y := Op.unOp .not 4 (.tmp 18)) (z := none) (by kernel_rfl) ho
  have e18 : a.eval (.tmp 18) = .bool true := slotG hF ho h2 (j := 2) (d := 18) (by kernel_rfl) (by kernel_rfl) (by rw [ok.sz]; decide)
  refine st_pureG hF hC hW ho h2 (by decide) hd hg rfl ?_
  show _ = Result.ok (Next.value (.bool false)) w
  generalize a.eval = ρ at e18 ⊢
  unfold execOp
  rw [hop]
  simp [e18, go_sem]
theorem SGC.s4 (X : SGC) (ok : SGCOk X) {Q : Exit → Act → World → Prop} : StepG (opsOf 6 Try.f31) SGC.acts SGC.av X.val0 X.Wd X.a0 Q 4 := by
  intro γ listed a w o hF hC hW h1 ho h2
  obtain ⟨hd, hop, hg⟩ := fields2 (x := some 20) (y := Op.move (.tmp 19)) (z := none) (by kernel_rfl) ho
  have e19 : a.eval (.tmp 19) = .bool false := slotG hF ho h2 (j := 3) (d := 19) (by kernel_rfl) (by kernel_rfl) (by rw [ok.sz]; decide)
  refine st_pureG hF hC hW ho h2 (by decide) hd hg rfl ?_
  show _ = Result.ok (Next.value (.bool false)) w
  generalize a.eval = ρ at e19 ⊢
  unfold execOp
  rw [hop]
  simp [e19, go_sem]
theorem SGC.s5 (X : SGC) (ok : SGCOk X) {Q : Exit → Act → World → Prop} : StepG (opsOf 6 Try.f31) SGC.acts SGC.av X.val0 X.Wd X.a0 Q 5 := by
  intro γ listed a w o hF hC hW h1 ho h2
  obtain ⟨hd, hop, hg⟩ := fields2 (x := some 21) (y := Op.fieldAddr 106 (.tmp 4) 1) (z := some (4, false)) (by kernel_rfl) ho
  have eg : a.eval (.tmp 20) = .bool false := slotG hF ho h2 (j := 4) (d := 20) (by kernel_rfl) (by kernel_rfl) (by rw [ok.sz]; decide)
  have hw := wanted_of (ops := (opsOf 6 Try.f31)) hg (yl_of (by kernel_rfl : dstOf (opsOf 6 Try.f31) 4 = some 20) (by rw [hF.tsize, ok.sz]; decide) eg)
  replace hw : Region.wanted o (yielded (opsOf 6 Try.f31) a.tmps) = true := hw
  have e4 : a.eval (.tmp 4) = .pointer (some ⟨X.b, 0, none⟩) := (hF.eval0 (by kernel_rfl)).trans ok.e4
  refine st_pureW hF hC hW ho h2 (by decide) hd hw rfl ?_
  show _ = Result.ok (Next.value (.pointer (some ⟨X.b, 1, none⟩))) w
  generalize a.eval = ρ at e4 ⊢
  unfold execOp
  rw [hop]
  simp [e4, go_sem]
theorem SGC.s6 (X : SGC) (ok : SGCOk X) {Q : Exit → Act → World → Prop} : StepG (opsOf 6 Try.f31) SGC.acts SGC.av X.val0 X.Wd X.a0 Q 6 := by
  intro γ listed a w o hF hC hW h1 ho h2
  obtain ⟨hd, hop, hg⟩ := fields2 (x := some 22) (y := Op.load 24 (.tmp 21)) (z := some (4, false)) (by kernel_rfl) ho
  have eg : a.eval (.tmp 20) = .bool false := slotG hF ho h2 (j := 4) (d := 20) (by kernel_rfl) (by kernel_rfl) (by rw [ok.sz]; decide)
  have hw := wanted_of (ops := (opsOf 6 Try.f31)) hg (yl_of (by kernel_rfl : dstOf (opsOf 6 Try.f31) 4 = some 20) (by rw [hF.tsize, ok.sz]; decide) eg)
  replace hw : Region.wanted o (yielded (opsOf 6 Try.f31) a.tmps) = true := hw
  have e21 : a.eval (.tmp 21) = .pointer (some ⟨X.b, 1, none⟩) := slotG hF ho h2 (j := 5) (d := 21) (by kernel_rfl) (by kernel_rfl) (by rw [ok.sz]; decide)
  have hc0 := rq_at (SGC.kp hW) ok.c1
  have hc1 := rq_at (SGC.kp hW) ok.c2
  have hc2 := rq_at (SGC.kp hW) ok.c3
  have hc3 := rq_at (SGC.kp hW) ok.c4
  refine st_pureW hF hC hW ho h2 (by decide) hd hw rfl ?_
  show _ = Result.ok (Next.value (.agg #[.int .i64 X.t0, .int .i64 X.t1, .int .i64 X.t2, .int .i64 X.t3])) w
  generalize a.eval = ρ at e21 ⊢
  unfold execOp
  rw [hop]
  simp [e21, hc0, hc1, hc2, hc3, go_sem]
theorem SGC.s7 (X : SGC) (ok : SGCOk X) {Q : Exit → Act → World → Prop} : StepG (opsOf 6 Try.f31) SGC.acts SGC.av X.val0 X.Wd X.a0 Q 7 := by
  intro γ listed a w o hF hC hW h1 ho h2
  obtain ⟨hd, hop, hg⟩ := fields2 (x := some 23) (y := Op.call { callee := .value (.func 22), args := #[(.tmp 22)], argTypes := #[24] }) (z := some (4, false)) (by kernel_rfl) ho
  have eg : a.eval (.tmp 20) = .bool false := slotG hF ho h2 (j := 4) (d := 20) (by kernel_rfl) (by kernel_rfl) (by rw [ok.sz]; decide)
  have hw := wanted_of (ops := (opsOf 6 Try.f31)) hg (yl_of (by kernel_rfl : dstOf (opsOf 6 Try.f31) 4 = some 20) (by rw [hF.tsize, ok.sz]; decide) eg)
  replace hw : Region.wanted o (yielded (opsOf 6 Try.f31) a.tmps) = true := hw
  have e22 : a.eval (.tmp 22) = .agg #[.int .i64 X.t0, .int .i64 X.t1, .int .i64 X.t2, .int .i64 X.t3] := slotG hF ho h2 (j := 6) (d := 22) (by kernel_rfl) (by kernel_rfl) (by rw [ok.sz]; decide)
  have ef : a.eval (.func 22) = .func (.func 22) #[] #[] := rfl
  refine st_callW hF hC hW ho h2 (by decide) hd hw rfl (f := 22) (args := #[.agg #[.int .i64 X.t0, .int .i64 X.t1, .int .i64 X.t2, .int .i64 X.t3]]) ?_ ?_ ?_
  · generalize a.eval = ρ at e22 ef ⊢
    unfold execOp
    rw [hop]
    simp [e22, ef, go_sem]
  · exact good_k ok.h2 w
  · intro w' hk; exact SGC.keep hW hk
theorem SGC.s8 (X : SGC) (ok : SGCOk X) {Q : Exit → Act → World → Prop} : StepG (opsOf 6 Try.f31) SGC.acts SGC.av X.val0 X.Wd X.a0 Q 8 := by
  intro γ listed a w o hF hC hW h1 ho h2
  obtain ⟨hd, hop, hg⟩ := fields2 (x := some 24) (y := Op.unOp .not 4 (.tmp 23)) (z := some (4, false)) (by kernel_rfl) ho
  have eg : a.eval (.tmp 20) = .bool false := slotG hF ho h2 (j := 4) (d := 20) (by kernel_rfl) (by kernel_rfl) (by rw [ok.sz]; decide)
  have hw := wanted_of (ops := (opsOf 6 Try.f31)) hg (yl_of (by kernel_rfl : dstOf (opsOf 6 Try.f31) 4 = some 20) (by rw [hF.tsize, ok.sz]; decide) eg)
  replace hw : Region.wanted o (yielded (opsOf 6 Try.f31) a.tmps) = true := hw
  have e23 : a.eval (.tmp 23) = .bool true := slotG hF ho h2 (j := 7) (d := 23) (by kernel_rfl) (by kernel_rfl) (by rw [ok.sz]; decide)
  refine st_pureW hF hC hW ho h2 (by decide) hd hw rfl ?_
  show _ = Result.ok (Next.value (.bool false)) w
  generalize a.eval = ρ at e23 ⊢
  unfold execOp
  rw [hop]
  simp [e23, go_sem]
theorem SGC.s9 (X : SGC) (ok : SGCOk X) {Q : Exit → Act → World → Prop} : StepG (opsOf 6 Try.f31) SGC.acts SGC.av X.val0 X.Wd X.a0 Q 9 := by
  intro γ listed a w o hF hC hW h1 ho h2
  obtain ⟨hd, hop, hg⟩ := fields2 (x := some 25) (y := Op.pick (.tmp 20) (.const (.bool true)) (.tmp 24)) (z := none) (by kernel_rfl) ho
  have e20 : a.eval (.tmp 20) = .bool false := slotG hF ho h2 (j := 4) (d := 20) (by kernel_rfl) (by kernel_rfl) (by rw [ok.sz]; decide)
  have ec1 : a.eval (.const (.bool true)) = .bool true := rfl
  have e24 : a.eval (.tmp 24) = .bool false := slotG hF ho h2 (j := 8) (d := 24) (by kernel_rfl) (by kernel_rfl) (by rw [ok.sz]; decide)
  refine st_pureG hF hC hW ho h2 (by decide) hd hg rfl ?_
  show _ = Result.ok (Next.value (.bool false)) w
  generalize a.eval = ρ at e20 ec1 e24 ⊢
  unfold execOp
  rw [hop]
  simp [e20, ec1, e24, go_sem]
theorem SGC.s10 (X : SGC) (ok : SGCOk X) {Q : Exit → Act → World → Prop} : StepG (opsOf 6 Try.f31) SGC.acts SGC.av X.val0 X.Wd X.a0 Q 10 := by
  intro γ listed a w o hF hC hW h1 ho h2
  obtain ⟨hd, hop, hg⟩ := fields2 (x := some 26) (y := Op.move (.tmp 25)) (z := none) (by kernel_rfl) ho
  have e25 : a.eval (.tmp 25) = .bool false := slotG hF ho h2 (j := 9) (d := 25) (by kernel_rfl) (by kernel_rfl) (by rw [ok.sz]; decide)
  refine st_pureG hF hC hW ho h2 (by decide) hd hg rfl ?_
  show _ = Result.ok (Next.value (.bool false)) w
  generalize a.eval = ρ at e25 ⊢
  unfold execOp
  rw [hop]
  simp [e25, go_sem]
theorem SGC.s11 (X : SGC) (ok : SGCOk X) {Q : Exit → Act → World → Prop} : StepG (opsOf 6 Try.f31) SGC.acts SGC.av X.val0 X.Wd X.a0 Q 11 := by
  intro γ listed a w o hF hC hW h1 ho h2
  obtain ⟨hd, hop, hg⟩ := fields2 (x := some 27) (y := Op.move (.tmp 3)) (z := some (10, false)) (by kernel_rfl) ho
  have eg : a.eval (.tmp 26) = .bool false := slotG hF ho h2 (j := 10) (d := 26) (by kernel_rfl) (by kernel_rfl) (by rw [ok.sz]; decide)
  have hw := wanted_of (ops := (opsOf 6 Try.f31)) hg (yl_of (by kernel_rfl : dstOf (opsOf 6 Try.f31) 10 = some 26) (by rw [hF.tsize, ok.sz]; decide) eg)
  replace hw : Region.wanted o (yielded (opsOf 6 Try.f31) a.tmps) = true := hw
  have e3 : a.eval (.tmp 3) = .int .i64 (X.k : Int) := (hF.eval0 (by kernel_rfl)).trans ok.e3
  refine st_pureW hF hC hW ho h2 (by decide) hd hw rfl ?_
  show _ = Result.ok (Next.value (.int .i64 (X.k : Int))) w
  generalize a.eval = ρ at e3 ⊢
  unfold execOp
  rw [hop]
  simp [e3, go_sem]
theorem SGC.s12 (X : SGC) (ok : SGCOk X) {Q : Exit → Act → World → Prop} : StepG (opsOf 6 Try.f31) SGC.acts SGC.av X.val0 X.Wd X.a0 Q 12 := by
  intro γ listed a w o hF hC hW h1 ho h2
  obtain ⟨hd, hop, hg⟩ := fields2 (x := some 28) (y := Op.binOp .gtr 3 (.tmp 27) (.const (.int .i64 0)) 3) (z := some (10, false)) (by kernel_rfl) ho
  have eg : a.eval (.tmp 26) = .bool false := slotG hF ho h2 (j := 10) (d := 26) (by kernel_rfl) (by kernel_rfl) (by rw [ok.sz]; decide)
  have hw := wanted_of (ops := (opsOf 6 Try.f31)) hg (yl_of (by kernel_rfl : dstOf (opsOf 6 Try.f31) 10 = some 26) (by rw [hF.tsize, ok.sz]; decide) eg)
  replace hw : Region.wanted o (yielded (opsOf 6 Try.f31) a.tmps) = true := hw
  have e27 : a.eval (.tmp 27) = .int .i64 (X.k : Int) := slotG hF ho h2 (j := 11) (d := 27) (by kernel_rfl) (by kernel_rfl) (by rw [ok.sz]; decide)
  have ec1 : a.eval (.const (.int .i64 0)) = .int .i64 0 := rfl
  refine st_pureW hF hC hW ho h2 (by decide) hd hw rfl ?_
  show _ = Result.ok (Next.value (.bool false)) w
  generalize a.eval = ρ at e27 ec1 ⊢
  unfold execOp
  rw [hop]
  simp [e27, ec1, ok.hk, go_sem]
theorem SGC.s13 (X : SGC) (ok : SGCOk X) {Q : Exit → Act → World → Prop} : StepG (opsOf 6 Try.f31) SGC.acts SGC.av X.val0 X.Wd X.a0 Q 13 := by
  intro γ listed a w o hF hC hW h1 ho h2
  obtain ⟨hd, hop, hg⟩ := fields2 (x := some 29) (y := Op.move (.tmp 28)) (z := some (10, false)) (by kernel_rfl) ho
  have eg : a.eval (.tmp 26) = .bool false := slotG hF ho h2 (j := 10) (d := 26) (by kernel_rfl) (by kernel_rfl) (by rw [ok.sz]; decide)
  have hw := wanted_of (ops := (opsOf 6 Try.f31)) hg (yl_of (by kernel_rfl : dstOf (opsOf 6 Try.f31) 10 = some 26) (by rw [hF.tsize, ok.sz]; decide) eg)
  replace hw : Region.wanted o (yielded (opsOf 6 Try.f31) a.tmps) = true := hw
  have e28 : a.eval (.tmp 28) = .bool false := slotG hF ho h2 (j := 12) (d := 28) (by kernel_rfl) (by kernel_rfl) (by rw [ok.sz]; decide)
  refine st_pureW hF hC hW ho h2 (by decide) hd hw rfl ?_
  show _ = Result.ok (Next.value (.bool false)) w
  generalize a.eval = ρ at e28 ⊢
  unfold execOp
  rw [hop]
  simp [e28, go_sem]
theorem SGC.s14 (X : SGC) (ok : SGCOk X) {Q : Exit → Act → World → Prop} : StepG (opsOf 6 Try.f31) SGC.acts SGC.av X.val0 X.Wd X.a0 Q 14 := by
  intro γ listed a w o hF hC hW h1 ho h2
  obtain ⟨hd, hop, hg⟩ := fields2 (x := some 30) (y := Op.move (.tmp 0)) (z := some (13, true)) (by kernel_rfl) ho
  have eg : a.eval (.tmp 29) = .bool false := slotG hF ho h2 (j := 13) (d := 29) (by kernel_rfl) (by kernel_rfl) (by rw [ok.sz]; decide)
  have hw := wanted_of (ops := (opsOf 6 Try.f31)) hg (yl_of (by kernel_rfl : dstOf (opsOf 6 Try.f31) 13 = some 29) (by rw [hF.tsize, ok.sz]; decide) eg)
  replace hw : Region.wanted o (yielded (opsOf 6 Try.f31) a.tmps) = false := hw
  exact st_skipW hF hC hW ho h2 (by decide) hd hw rfl rfl
theorem SGC.s15 (X : SGC) (ok : SGCOk X) {Q : Exit → Act → World → Prop} : StepG (opsOf 6 Try.f31) SGC.acts SGC.av X.val0 X.Wd X.a0 Q 15 := by
  intro γ listed a w o hF hC hW h1 ho h2
  obtain ⟨hd, hop, hg⟩ := fields2 (x := some 31) (y := Op.move (.tmp 3)) (z := some (13, true)) (by kernel_rfl) ho
  have eg : a.eval (.tmp 29) = .bool false := slotG hF ho h2 (j := 13) (d := 29) (by kernel_rfl) (by kernel_rfl) (by rw [ok.sz]; decide)
  have hw := wanted_of (ops := (opsOf 6 Try.f31)) hg (yl_of (by kernel_rfl : dstOf (opsOf 6 Try.f31) 13 = some 29) (by rw [hF.tsize, ok.sz]; decide) eg)
  replace hw : Region.wanted o (yielded (opsOf 6 Try.f31) a.tmps) = false := hw
  exact st_skipW hF hC hW ho h2 (by decide) hd hw rfl rfl
theorem SGC.s16 (X : SGC) (ok : SGCOk X) {Q : Exit → Act → World → Prop} : StepG (opsOf 6 Try.f31) SGC.acts SGC.av X.val0 X.Wd X.a0 Q 16 := by
  intro γ listed a w o hF hC hW h1 ho h2
  obtain ⟨hd, hop, hg⟩ := fields2 (x := some 32) (y := Op.binOp .sub 3 (.tmp 31) (.const (.int .i64 1)) 3) (z := some (13, true)) (by kernel_rfl) ho
  have eg : a.eval (.tmp 29) = .bool false := slotG hF ho h2 (j := 13) (d := 29) (by kernel_rfl) (by kernel_rfl) (by rw [ok.sz]; decide)
  have hw := wanted_of (ops := (opsOf 6 Try.f31)) hg (yl_of (by kernel_rfl : dstOf (opsOf 6 Try.f31) 13 = some 29) (by rw [hF.tsize, ok.sz]; decide) eg)
  replace hw : Region.wanted o (yielded (opsOf 6 Try.f31) a.tmps) = false := hw
  exact st_skipW hF hC hW ho h2 (by decide) hd hw rfl rfl
theorem SGC.s17 (X : SGC) (ok : SGCOk X) {Q : Exit → Act → World → Prop} : StepG (opsOf 6 Try.f31) SGC.acts SGC.av X.val0 X.Wd X.a0 Q 17 := by
  intro γ listed a w o hF hC hW h1 ho h2
  obtain ⟨hd, hop, hg⟩ := fields2 (x := some 33) (y := Op.indexAddr 30 (.tmp 30) (.tmp 32)) (z := some (13, true)) (by kernel_rfl) ho
  have eg : a.eval (.tmp 29) = .bool false := slotG hF ho h2 (j := 13) (d := 29) (by kernel_rfl) (by kernel_rfl) (by rw [ok.sz]; decide)
  have hw := wanted_of (ops := (opsOf 6 Try.f31)) hg (yl_of (by kernel_rfl : dstOf (opsOf 6 Try.f31) 13 = some 29) (by rw [hF.tsize, ok.sz]; decide) eg)
  replace hw : Region.wanted o (yielded (opsOf 6 Try.f31) a.tmps) = false := hw
  exact st_skipW hF hC hW ho h2 (by decide) hd hw rfl rfl
theorem SGC.s18 (X : SGC) (ok : SGCOk X) {Q : Exit → Act → World → Prop} : StepG (opsOf 6 Try.f31) SGC.acts SGC.av X.val0 X.Wd X.a0 Q 18 := by
  intro γ listed a w o hF hC hW h1 ho h2
  obtain ⟨hd, hop, hg⟩ := fields2 (x := some 34) (y := Op.fieldAddr 106 (.tmp 33) 0) (z := some (13, true)) (by kernel_rfl) ho
  have eg : a.eval (.tmp 29) = .bool false := slotG hF ho h2 (j := 13) (d := 29) (by kernel_rfl) (by kernel_rfl) (by rw [ok.sz]; decide)
  have hw := wanted_of (ops := (opsOf 6 Try.f31)) hg (yl_of (by kernel_rfl : dstOf (opsOf 6 Try.f31) 13 = some 29) (by rw [hF.tsize, ok.sz]; decide) eg)
  replace hw : Region.wanted o (yielded (opsOf 6 Try.f31) a.tmps) = false := hw
  exact st_skipW hF hC hW ho h2 (by decide) hd hw rfl rfl
theorem SGC.s19 (X : SGC) (ok : SGCOk X) {Q : Exit → Act → World → Prop} : StepG (opsOf 6 Try.f31) SGC.acts SGC.av X.val0 X.Wd X.a0 Q 19 := by
  intro γ listed a w o hF hC hW h1 ho h2
  obtain ⟨hd, hop, hg⟩ := fields2 (x := some 35) (y := Op.load 3 (.tmp 34)) (z := some (13, true)) (by kernel_rfl) ho
  have eg : a.eval (.tmp 29) = .bool false := slotG hF ho h2 (j := 13) (d := 29) (by kernel_rfl) (by kernel_rfl) (by rw [ok.sz]; decide)
  have hw := wanted_of (ops := (opsOf 6 Try.f31)) hg (yl_of (by kernel_rfl : dstOf (opsOf 6 Try.f31) 13 = some 29) (by rw [hF.tsize, ok.sz]; decide) eg)
  replace hw : Region.wanted o (yielded (opsOf 6 Try.f31) a.tmps) = false := hw
  exact st_skipW hF hC hW ho h2 (by decide) hd hw rfl rfl
theorem SGC.s20 (X : SGC) (ok : SGCOk X) {Q : Exit → Act → World → Prop} : StepG (opsOf 6 Try.f31) SGC.acts SGC.av X.val0 X.Wd X.a0 Q 20 := by
  intro γ listed a w o hF hC hW h1 ho h2
  obtain ⟨hd, hop, hg⟩ := fields2 (x := some 36) (y := Op.fieldAddr 106 (.tmp 4) 0) (z := some (13, true)) (by kernel_rfl) ho
  have eg : a.eval (.tmp 29) = .bool false := slotG hF ho h2 (j := 13) (d := 29) (by kernel_rfl) (by kernel_rfl) (by rw [ok.sz]; decide)
  have hw := wanted_of (ops := (opsOf 6 Try.f31)) hg (yl_of (by kernel_rfl : dstOf (opsOf 6 Try.f31) 13 = some 29) (by rw [hF.tsize, ok.sz]; decide) eg)
  replace hw : Region.wanted o (yielded (opsOf 6 Try.f31) a.tmps) = false := hw
  exact st_skipW hF hC hW ho h2 (by decide) hd hw rfl rfl
theorem SGC.s21 (X : SGC) (ok : SGCOk X) {Q : Exit → Act → World → Prop} : StepG (opsOf 6 Try.f31) SGC.acts SGC.av X.val0 X.Wd X.a0 Q 21 := by
  intro γ listed a w o hF hC hW h1 ho h2
  obtain ⟨hd, hop, hg⟩ := fields2 (x := some 37) (y := Op.load 3 (.tmp 36)) (z := some (13, true)) (by kernel_rfl) ho
  have eg : a.eval (.tmp 29) = .bool false := slotG hF ho h2 (j := 13) (d := 29) (by kernel_rfl) (by kernel_rfl) (by rw [ok.sz]; decide)
  have hw := wanted_of (ops := (opsOf 6 Try.f31)) hg (yl_of (by kernel_rfl : dstOf (opsOf 6 Try.f31) 13 = some 29) (by rw [hF.tsize, ok.sz]; decide) eg)
  replace hw : Region.wanted o (yielded (opsOf 6 Try.f31) a.tmps) = false := hw
  exact st_skipW hF hC hW ho h2 (by decide) hd hw rfl rfl
theorem SGC.s22 (X : SGC) (ok : SGCOk X) {Q : Exit → Act → World → Prop} : StepG (opsOf 6 Try.f31) SGC.acts SGC.av X.val0 X.Wd X.a0 Q 22 := by
  intro γ listed a w o hF hC hW h1 ho h2
  obtain ⟨hd, hop, hg⟩ := fields2 (x := some 38) (y := Op.binOp .gtr 3 (.tmp 35) (.tmp 37) 3) (z := some (13, true)) (by kernel_rfl) ho
  have eg : a.eval (.tmp 29) = .bool false := slotG hF ho h2 (j := 13) (d := 29) (by kernel_rfl) (by kernel_rfl) (by rw [ok.sz]; decide)
  have hw := wanted_of (ops := (opsOf 6 Try.f31)) hg (yl_of (by kernel_rfl : dstOf (opsOf 6 Try.f31) 13 = some 29) (by rw [hF.tsize, ok.sz]; decide) eg)
  replace hw : Region.wanted o (yielded (opsOf 6 Try.f31) a.tmps) = false := hw
  exact st_skipW hF hC hW ho h2 (by decide) hd hw rfl rfl
theorem SGC.s23 (X : SGC) (ok : SGCOk X) {Q : Exit → Act → World → Prop} : StepG (opsOf 6 Try.f31) SGC.acts SGC.av X.val0 X.Wd X.a0 Q 23 := by
  intro γ listed a w o hF hC hW h1 ho h2
  obtain ⟨hd, hop, hg⟩ := fields2 (x := some 39) (y := Op.pick (.tmp 29) (.tmp 38) (.const (.bool false))) (z := some (10, false)) (by kernel_rfl) ho
  have eg : a.eval (.tmp 26) = .bool false := slotG hF ho h2 (j := 10) (d := 26) (by kernel_rfl) (by kernel_rfl) (by rw [ok.sz]; decide)
  have hw := wanted_of (ops := (opsOf 6 Try.f31)) hg (yl_of (by kernel_rfl : dstOf (opsOf 6 Try.f31) 10 = some 26) (by rw [hF.tsize, ok.sz]; decide) eg)
  replace hw : Region.wanted o (yielded (opsOf 6 Try.f31) a.tmps) = true := hw
  have e29 : a.eval (.tmp 29) = .bool false := slotG hF ho h2 (j := 13) (d := 29) (by kernel_rfl) (by kernel_rfl) (by rw [ok.sz]; decide)
  have e38 : a.eval (.tmp 38) = undef := slotG hF ho h2 (j := 22) (d := 38) (by kernel_rfl) (by kernel_rfl) (by rw [ok.sz]; decide)
  have ec2 : a.eval (.const (.bool false)) = .bool false := rfl
  refine st_pureW hF hC hW ho h2 (by decide) hd hw rfl ?_
  show _ = Result.ok (Next.value (.bool false)) w
  generalize a.eval = ρ at e29 e38 ec2 ⊢
  unfold execOp
  rw [hop]
  simp [e29, e38, ec2, go_sem]
theorem SGC.s24 (X : SGC) (ok : SGCOk X) {Q : Exit → Act → World → Prop} : StepG (opsOf 6 Try.f31) SGC.acts SGC.av X.val0 X.Wd X.a0 Q 24 := by
  intro γ listed a w o hF hC hW h1 ho h2
  obtain ⟨hd, hop, hg⟩ := fields2 (x := some 40) (y := Op.pick (.tmp 26) (.const (.bool true)) (.tmp 39)) (z := none) (by kernel_rfl) ho
  have e26 : a.eval (.tmp 26) = .bool false := slotG hF ho h2 (j := 10) (d := 26) (by kernel_rfl) (by kernel_rfl) (by rw [ok.sz]; decide)
  have ec1 : a.eval (.const (.bool true)) = .bool true := rfl
  have e39 : a.eval (.tmp 39) = .bool false := slotG hF ho h2 (j := 23) (d := 39) (by kernel_rfl) (by kernel_rfl) (by rw [ok.sz]; decide)
  refine st_pureG hF hC hW ho h2 (by decide) hd hg rfl ?_
  show _ = Result.ok (Next.value (.bool false)) w
  generalize a.eval = ρ at e26 ec1 e39 ⊢
  unfold execOp
  rw [hop]
  simp [e26, ec1, e39, go_sem]
theorem SGC.size : (opsOf 6 Try.f31).size = 25 := by kernel_rfl
theorem SGC.steps (X : SGC) (ok : SGCOk X) {Q : Exit → Act → World → Prop} (i : Nat) (hi : i < (opsOf 6 Try.f31).size) : StepG (opsOf 6 Try.f31) SGC.acts SGC.av X.val0 X.Wd X.a0 Q i := by
  rw [SGC.size] at hi
  have hc : i = 0 ∨ i = 1 ∨ i = 2 ∨ i = 3 ∨ i = 4 ∨ i = 5 ∨ i = 6 ∨ i = 7 ∨ i = 8 ∨ i = 9 ∨ i = 10 ∨ i = 11 ∨ i = 12 ∨ i = 13 ∨ i = 14 ∨ i = 15 ∨ i = 16 ∨ i = 17 ∨ i = 18 ∨ i = 19 ∨ i = 20 ∨ i = 21 ∨ i = 22 ∨ i = 23 ∨ i = 24 := by omega
  rcases hc with rfl | rfl | rfl | rfl | rfl | rfl | rfl | rfl | rfl | rfl | rfl | rfl | rfl | rfl | rfl | rfl | rfl | rfl | rfl | rfl | rfl | rfl | rfl | rfl | rfl
  · exact SGC.s0 X ok
  · exact SGC.s1 X ok
  · exact SGC.s2 X ok
  · exact SGC.s3 X ok
  · exact SGC.s4 X ok
  · exact SGC.s5 X ok
  · exact SGC.s6 X ok
  · exact SGC.s7 X ok
  · exact SGC.s8 X ok
  · exact SGC.s9 X ok
  · exact SGC.s10 X ok
  · exact SGC.s11 X ok
  · exact SGC.s12 X ok
  · exact SGC.s13 X ok
  · exact SGC.s14 X ok
  · exact SGC.s15 X ok
  · exact SGC.s16 X ok
  · exact SGC.s17 X ok
  · exact SGC.s18 X ok
  · exact SGC.s19 X ok
  · exact SGC.s20 X ok
  · exact SGC.s21 X ok
  · exact SGC.s22 X ok
  · exact SGC.s23 X ok
  · exact SGC.s24 X ok
theorem SGC.puts (X : SGC) (γ : Nat → Value) (a0 : Act) : putsL (valG SGC.av X.val0 γ) (opsOf 6 Try.f31).toList a0 = (((((((((((((((((((((((((a0.put (some 16) (.pointer (some ⟨X.b, 0, none⟩))).put (some 17) (.int .i64 X.at0)).put (some 18) (.bool true)).put (some 19) (.bool false)).put (some 20) (.bool false)).put (some 21) (.pointer (some ⟨X.b, 1, none⟩))).put (some 22) (.agg #[.int .i64 X.t0, .int .i64 X.t1, .int .i64 X.t2, .int .i64 X.t3])).put (some 23) (.bool true)).put (some 24) (.bool false)).put (some 25) (.bool false)).put (some 26) (.bool false)).put (some 27) (.int .i64 (X.k : Int))).put (some 28) (.bool false)).put (some 29) (.bool false)).put (some 30) (undef)).put (some 31) (undef)).put (some 32) (undef)).put (some 33) (undef)).put (some 34) (undef)).put (some 35) (undef)).put (some 36) (undef)).put (some 37) (undef)).put (some 38) (undef)).put (some 39) (.bool false)).put (some 40) (.bool false)) := by kernel_rfl
/-- The region, whatever order comes up. -/
theorem SGC.run (X : SGC) (ok : SGCOk X) {Q : Exit → Act → World → Prop} (w : World) (h0 : X.Wd 0 (fun _ => undef) w.drew) (hend : ∀ (γ : Nat → Value) w', X.Wd 0 γ w' → Q .normal (((((((((((((((((((((((((X.a0.put (some 16) (.pointer (some ⟨X.b, 0, none⟩))).put (some 17) (.int .i64 X.at0)).put (some 18) (.bool true)).put (some 19) (.bool false)).put (some 20) (.bool false)).put (some 21) (.pointer (some ⟨X.b, 1, none⟩))).put (some 22) (.agg #[.int .i64 X.t0, .int .i64 X.t1, .int .i64 X.t2, .int .i64 X.t3])).put (some 23) (.bool true)).put (some 24) (.bool false)).put (some 25) (.bool false)).put (some 26) (.bool false)).put (some 27) (.int .i64 (X.k : Int))).put (some 28) (.bool false)).put (some 29) (.bool false)).put (some 30) (undef)).put (some 31) (undef)).put (some 32) (undef)).put (some 33) (undef)).put (some 34) (undef)).put (some 35) (undef)).put (some 36) (undef)).put (some 37) (undef)).put (some 38) (undef)).put (some 39) (.bool false)).put (some 40) (.bool false)) w') : (Code.region 6 (opsOf 6 Try.f31) true).wp Try.prog Q X.a0 w := by
  refine reg_act (acts := SGC.acts) (av := SGC.av) (val0 := X.val0) (Wd := X.Wd) (by kernel_rfl) (by kernel_rfl) (by rw [SGC.size]; decide) (fun i hi => SGC.steps X ok i hi) _ h0 ?_
  intro γ w' h
  rw [SGC.puts]
  exact hend γ w' h
structure SGD where
  b : Nat
  k : Nat
  at0 : Int
  t0 : Int
  t1 : Int
  t2 : Int
  t3 : Int
  ga : Nat
  of : Nat
  n : Nat
  cp : Nat
  pv : Int
  W : World
  a0 : Act
structure SGDOk (X : SGD) : Prop where
  c0 : X.W.cell? ⟨X.b, 0, none⟩ = some (.int .i64 X.at0)
  c1 : X.W.cell? ⟨X.b, 1, none⟩ = some (.int .i64 X.t0)
  c2 : X.W.cell? ⟨X.b, 2, none⟩ = some (.int .i64 X.t1)
  c3 : X.W.cell? ⟨X.b, 3, none⟩ = some (.int .i64 X.t2)
  c4 : X.W.cell? ⟨X.b, 4, none⟩ = some (.int .i64 X.t3)
  h1 : inN X.at0 0 65536 = true
  h2 : tnB ⟨X.t0, X.t1, X.t2, X.t3⟩ = true
  hk : 0 < X.k
  hn : X.k - 1 < X.n
  wk : IntKind.i64.wrap ((X.k : Int) - 1) = (X.k : Int) - 1
  ek : (X.k : Int) - 1 = ((X.k - 1 : Nat) : Int)
  pc : X.W.cell? ⟨X.ga, X.of + (X.k - 1) * 5, none⟩ = some (.int .i64 X.pv)
  hv : decide (X.at0 < X.pv) = true
  e0 : X.a0.eval (.tmp 0) = .slice (some ⟨X.ga, X.of, none⟩) X.n X.cp
  e3 : X.a0.eval (.tmp 3) = .int .i64 (X.k : Int)
  e4 : X.a0.eval (.tmp 4) = .pointer (some ⟨X.b, 0, none⟩)
  sz : X.a0.tmps.size = 42
def SGD.val0 (X : SGD) : Nat → Value
  | 16 => .pointer (some ⟨X.b, 0, none⟩)
  | 17 => .int .i64 X.at0
  | 18 => .bool true
  | 19 => .bool false
  | 20 => .bool false
  | 21 => .pointer (some ⟨X.b, 1, none⟩)
  | 22 => .agg #[.int .i64 X.t0, .int .i64 X.t1, .int .i64 X.t2, .int .i64 X.t3]
  | 23 => .bool true
  | 24 => .bool false
  | 25 => .bool false
  | 26 => .bool false
  | 27 => .int .i64 (X.k : Int)
  | 28 => .bool true
  | 29 => .bool true
  | 30 => .slice (some ⟨X.ga, X.of, none⟩) X.n X.cp
  | 31 => .int .i64 (X.k : Int)
  | 32 => .int .i64 ((X.k : Int) - 1)
  | 33 => .pointer (some ⟨X.ga, X.of + (X.k - 1) * 5, none⟩)
  | 34 => .pointer (some ⟨X.ga, X.of + (X.k - 1) * 5, none⟩)
  | 35 => .int .i64 X.pv
  | 36 => .pointer (some ⟨X.b, 0, none⟩)
  | 37 => .int .i64 X.at0
  | 38 => .bool true
  | 39 => .bool true
  | 40 => .bool true
  | _ => undef
def SGD.av : Nat → Option Nat
  | _ => none
def SGD.acts : List Nat := []
/-- The world, by how many of the acting ones have come up. -/
def SGD.Wd (X : SGD) : Nat → (Nat → Value) → World → Prop
  | _, _, w => Kp X.W w
theorem SGD.kp {X : SGD} {n : Nat} {γ : Nat → Value} {w : World} (h : X.Wd n γ w) : Kp X.W w := h
theorem SGD.keep {X : SGD} {n : Nat} {γ : Nat → Value} {w w' : World} (h : X.Wd n γ w) (k : Kp w w') : X.Wd n γ w' := Kp.trans h k
theorem SGD.chain : chainG (opsOf 6 Try.f31) SGD.acts = true := by kernel_rfl
theorem SGD.nodup : SGD.acts.Nodup := by decide
theorem SGD.inj {listed : Array Bool} {i k : Nat} (h : (List.range (opsOf 6 Try.f31).size).all (fun j => decide (j = i) || !(match dstOf (opsOf 6 Try.f31) j with | some d => decide (SGD.av d = some k) | none => false)) = true) (hu : listed.getD i false = false) : ∀ d, got (opsOf 6 Try.f31) listed d → SGD.av d ≠ some k := by
  rintro d ⟨j, h1, h2⟩ h3
  have hlt : j < (opsOf 6 Try.f31).size := by
    rcases Nat.lt_or_ge j (opsOf 6 Try.f31).size with h4 | h4
    · exact h4
    · unfold dstOf at h2; rw [Array.getElem?_eq_none h4] at h2; cases h2
  have h5 := List.all_eq_true.1 h j (List.mem_range.2 hlt)
  rw [h2] at h5
  simp only [h3, decide_true, Bool.not_true, Bool.or_false, decide_eq_true_eq] at h5
  subst h5
  rw [hu] at h1
  cases h1
theorem SGD.s0 (X : SGD) (ok : SGDOk X) {Q : Exit → Act → World → Prop} : StepG (opsOf 6 Try.f31) SGD.acts SGD.av X.val0 X.Wd X.a0 Q 0 := by
  intro γ listed a w o hF hC hW h1 ho h2
  obtain ⟨hd, hop, hg⟩ := fields2 (x := some 16) (y := Op.fieldAddr 106 (.tmp 4) 0) (z := none) (by kernel_rfl) ho
  have e4 : a.eval (.tmp 4) = .pointer (some ⟨X.b, 0, none⟩) := (hF.eval0 (by kernel_rfl)).trans ok.e4
  refine st_pureG hF hC hW ho h2 (by decide) hd hg rfl ?_
  show _ = Result.ok (Next.value (.pointer (some ⟨X.b, 0, none⟩))) w
  generalize a.eval = ρ at e4 ⊢
  unfold execOp
  rw [hop]
  simp [e4, go_sem]
theorem SGD.s1 (X : SGD) (ok : SGDOk X) {Q : Exit → Act → World → Prop} : StepG (opsOf 6 Try.f31) SGD.acts SGD.av X.val0 X.Wd X.a0 Q 1 := by
  intro γ listed a w o hF hC hW h1 ho h2
  obtain ⟨hd, hop, hg⟩ := fields2 (x := some 17) (y := Op.load 3 (.tmp 16)) (z := none) (by kernel_rfl) ho
  have e16 : a.eval (.tmp 16) = .pointer (some ⟨X.b, 0, none⟩) := slotG hF ho h2 (j := 0) (d := 16) (by kernel_rfl) (by kernel_rfl) (by rw [ok.sz]; decide)
  have hc0 := rq_at (SGD.kp hW) ok.c0
  refine st_pureG hF hC hW ho h2 (by decide) hd hg rfl ?_
  show _ = Result.ok (Next.value (.int .i64 X.at0)) w
  generalize a.eval = ρ at e16 ⊢
  unfold execOp
  rw [hop]
  simp [e16, hc0, go_sem]
theorem SGD.s2 (X : SGD) (ok : SGDOk X) {Q : Exit → Act → World → Prop} : StepG (opsOf 6 Try.f31) SGD.acts SGD.av X.val0 X.Wd X.a0 Q 2 := by
  intro γ listed a w o hF hC hW h1 ho h2
  obtain ⟨hd, hop, hg⟩ := fields2 (x := some 18) (y := Op.call { callee := .value (.func 70), args := #[(.tmp 17), (.const (.int .i64 0)), (.const (.int .i64 65536))], argTypes := #[3, 3, 3] }) (z := none) (by kernel_rfl) ho
  have e17 : a.eval (.tmp 17) = .int .i64 X.at0 := slotG hF ho h2 (j := 1) (d := 17) (by kernel_rfl) (by kernel_rfl) (by rw [ok.sz]; decide)
  have ec1 : a.eval (.const (.int .i64 0)) = .int .i64 0 := rfl
  have ec2 : a.eval (.const (.int .i64 65536)) = .int .i64 65536 := rfl
  have ef : a.eval (.func 70) = .func (.func 70) #[] #[] := rfl
  refine st_callG hF hC hW ho h2 (by decide) hd hg rfl (f := 70) (args := #[.int .i64 X.at0, .int .i64 0, .int .i64 65536]) ?_ ?_ ?_
  · generalize a.eval = ρ at e17 ec1 ec2 ef ⊢
    unfold execOp
    rw [hop]
    simp [e17, ec1, ec2, ef, go_sem]
  · exact in_k ok.h1 w
  · intro w' hk; exact SGD.keep hW hk
theorem SGD.s3 (X : SGD) (ok : SGDOk X) {Q : Exit → Act → World → Prop} : StepG (opsOf 6 Try.f31) SGD.acts SGD.av X.val0 X.Wd X.a0 Q 3 := by
  intro γ listed a w o hF hC hW h1 ho h2
  obtain ⟨hd, hop, hg⟩ := fields2 (x := some 19) (y := Op.unOp .not 4 (.tmp 18)) (z := none) (by kernel_rfl) ho
  have e18 : a.eval (.tmp 18) = .bool true := slotG hF ho h2 (j := 2) (d := 18) (by kernel_rfl) (by kernel_rfl) (by rw [ok.sz]; decide)
  refine st_pureG hF hC hW ho h2 (by decide) hd hg rfl ?_
  show _ = Result.ok (Next.value (.bool false)) w
  generalize a.eval = ρ at e18 ⊢
  unfold execOp
  rw [hop]
  simp [e18, go_sem]
theorem SGD.s4 (X : SGD) (ok : SGDOk X) {Q : Exit → Act → World → Prop} : StepG (opsOf 6 Try.f31) SGD.acts SGD.av X.val0 X.Wd X.a0 Q 4 := by
  intro γ listed a w o hF hC hW h1 ho h2
  obtain ⟨hd, hop, hg⟩ := fields2 (x := some 20) (y := Op.move (.tmp 19)) (z := none) (by kernel_rfl) ho
  have e19 : a.eval (.tmp 19) = .bool false := slotG hF ho h2 (j := 3) (d := 19) (by kernel_rfl) (by kernel_rfl) (by rw [ok.sz]; decide)
  refine st_pureG hF hC hW ho h2 (by decide) hd hg rfl ?_
  show _ = Result.ok (Next.value (.bool false)) w
  generalize a.eval = ρ at e19 ⊢
  unfold execOp
  rw [hop]
  simp [e19, go_sem]
theorem SGD.s5 (X : SGD) (ok : SGDOk X) {Q : Exit → Act → World → Prop} : StepG (opsOf 6 Try.f31) SGD.acts SGD.av X.val0 X.Wd X.a0 Q 5 := by
  intro γ listed a w o hF hC hW h1 ho h2
  obtain ⟨hd, hop, hg⟩ := fields2 (x := some 21) (y := Op.fieldAddr 106 (.tmp 4) 1) (z := some (4, false)) (by kernel_rfl) ho
  have eg : a.eval (.tmp 20) = .bool false := slotG hF ho h2 (j := 4) (d := 20) (by kernel_rfl) (by kernel_rfl) (by rw [ok.sz]; decide)
  have hw := wanted_of (ops := (opsOf 6 Try.f31)) hg (yl_of (by kernel_rfl : dstOf (opsOf 6 Try.f31) 4 = some 20) (by rw [hF.tsize, ok.sz]; decide) eg)
  replace hw : Region.wanted o (yielded (opsOf 6 Try.f31) a.tmps) = true := hw
  have e4 : a.eval (.tmp 4) = .pointer (some ⟨X.b, 0, none⟩) := (hF.eval0 (by kernel_rfl)).trans ok.e4
  refine st_pureW hF hC hW ho h2 (by decide) hd hw rfl ?_
  show _ = Result.ok (Next.value (.pointer (some ⟨X.b, 1, none⟩))) w
  generalize a.eval = ρ at e4 ⊢
  unfold execOp
  rw [hop]
  simp [e4, go_sem]
theorem SGD.s6 (X : SGD) (ok : SGDOk X) {Q : Exit → Act → World → Prop} : StepG (opsOf 6 Try.f31) SGD.acts SGD.av X.val0 X.Wd X.a0 Q 6 := by
  intro γ listed a w o hF hC hW h1 ho h2
  obtain ⟨hd, hop, hg⟩ := fields2 (x := some 22) (y := Op.load 24 (.tmp 21)) (z := some (4, false)) (by kernel_rfl) ho
  have eg : a.eval (.tmp 20) = .bool false := slotG hF ho h2 (j := 4) (d := 20) (by kernel_rfl) (by kernel_rfl) (by rw [ok.sz]; decide)
  have hw := wanted_of (ops := (opsOf 6 Try.f31)) hg (yl_of (by kernel_rfl : dstOf (opsOf 6 Try.f31) 4 = some 20) (by rw [hF.tsize, ok.sz]; decide) eg)
  replace hw : Region.wanted o (yielded (opsOf 6 Try.f31) a.tmps) = true := hw
  have e21 : a.eval (.tmp 21) = .pointer (some ⟨X.b, 1, none⟩) := slotG hF ho h2 (j := 5) (d := 21) (by kernel_rfl) (by kernel_rfl) (by rw [ok.sz]; decide)
  have hc0 := rq_at (SGD.kp hW) ok.c1
  have hc1 := rq_at (SGD.kp hW) ok.c2
  have hc2 := rq_at (SGD.kp hW) ok.c3
  have hc3 := rq_at (SGD.kp hW) ok.c4
  refine st_pureW hF hC hW ho h2 (by decide) hd hw rfl ?_
  show _ = Result.ok (Next.value (.agg #[.int .i64 X.t0, .int .i64 X.t1, .int .i64 X.t2, .int .i64 X.t3])) w
  generalize a.eval = ρ at e21 ⊢
  unfold execOp
  rw [hop]
  simp [e21, hc0, hc1, hc2, hc3, go_sem]
theorem SGD.s7 (X : SGD) (ok : SGDOk X) {Q : Exit → Act → World → Prop} : StepG (opsOf 6 Try.f31) SGD.acts SGD.av X.val0 X.Wd X.a0 Q 7 := by
  intro γ listed a w o hF hC hW h1 ho h2
  obtain ⟨hd, hop, hg⟩ := fields2 (x := some 23) (y := Op.call { callee := .value (.func 22), args := #[(.tmp 22)], argTypes := #[24] }) (z := some (4, false)) (by kernel_rfl) ho
  have eg : a.eval (.tmp 20) = .bool false := slotG hF ho h2 (j := 4) (d := 20) (by kernel_rfl) (by kernel_rfl) (by rw [ok.sz]; decide)
  have hw := wanted_of (ops := (opsOf 6 Try.f31)) hg (yl_of (by kernel_rfl : dstOf (opsOf 6 Try.f31) 4 = some 20) (by rw [hF.tsize, ok.sz]; decide) eg)
  replace hw : Region.wanted o (yielded (opsOf 6 Try.f31) a.tmps) = true := hw
  have e22 : a.eval (.tmp 22) = .agg #[.int .i64 X.t0, .int .i64 X.t1, .int .i64 X.t2, .int .i64 X.t3] := slotG hF ho h2 (j := 6) (d := 22) (by kernel_rfl) (by kernel_rfl) (by rw [ok.sz]; decide)
  have ef : a.eval (.func 22) = .func (.func 22) #[] #[] := rfl
  refine st_callW hF hC hW ho h2 (by decide) hd hw rfl (f := 22) (args := #[.agg #[.int .i64 X.t0, .int .i64 X.t1, .int .i64 X.t2, .int .i64 X.t3]]) ?_ ?_ ?_
  · generalize a.eval = ρ at e22 ef ⊢
    unfold execOp
    rw [hop]
    simp [e22, ef, go_sem]
  · exact good_k ok.h2 w
  · intro w' hk; exact SGD.keep hW hk
theorem SGD.s8 (X : SGD) (ok : SGDOk X) {Q : Exit → Act → World → Prop} : StepG (opsOf 6 Try.f31) SGD.acts SGD.av X.val0 X.Wd X.a0 Q 8 := by
  intro γ listed a w o hF hC hW h1 ho h2
  obtain ⟨hd, hop, hg⟩ := fields2 (x := some 24) (y := Op.unOp .not 4 (.tmp 23)) (z := some (4, false)) (by kernel_rfl) ho
  have eg : a.eval (.tmp 20) = .bool false := slotG hF ho h2 (j := 4) (d := 20) (by kernel_rfl) (by kernel_rfl) (by rw [ok.sz]; decide)
  have hw := wanted_of (ops := (opsOf 6 Try.f31)) hg (yl_of (by kernel_rfl : dstOf (opsOf 6 Try.f31) 4 = some 20) (by rw [hF.tsize, ok.sz]; decide) eg)
  replace hw : Region.wanted o (yielded (opsOf 6 Try.f31) a.tmps) = true := hw
  have e23 : a.eval (.tmp 23) = .bool true := slotG hF ho h2 (j := 7) (d := 23) (by kernel_rfl) (by kernel_rfl) (by rw [ok.sz]; decide)
  refine st_pureW hF hC hW ho h2 (by decide) hd hw rfl ?_
  show _ = Result.ok (Next.value (.bool false)) w
  generalize a.eval = ρ at e23 ⊢
  unfold execOp
  rw [hop]
  simp [e23, go_sem]
theorem SGD.s9 (X : SGD) (ok : SGDOk X) {Q : Exit → Act → World → Prop} : StepG (opsOf 6 Try.f31) SGD.acts SGD.av X.val0 X.Wd X.a0 Q 9 := by
  intro γ listed a w o hF hC hW h1 ho h2
  obtain ⟨hd, hop, hg⟩ := fields2 (x := some 25) (y := Op.pick (.tmp 20) (.const (.bool true)) (.tmp 24)) (z := none) (by kernel_rfl) ho
  have e20 : a.eval (.tmp 20) = .bool false := slotG hF ho h2 (j := 4) (d := 20) (by kernel_rfl) (by kernel_rfl) (by rw [ok.sz]; decide)
  have ec1 : a.eval (.const (.bool true)) = .bool true := rfl
  have e24 : a.eval (.tmp 24) = .bool false := slotG hF ho h2 (j := 8) (d := 24) (by kernel_rfl) (by kernel_rfl) (by rw [ok.sz]; decide)
  refine st_pureG hF hC hW ho h2 (by decide) hd hg rfl ?_
  show _ = Result.ok (Next.value (.bool false)) w
  generalize a.eval = ρ at e20 ec1 e24 ⊢
  unfold execOp
  rw [hop]
  simp [e20, ec1, e24, go_sem]
theorem SGD.s10 (X : SGD) (ok : SGDOk X) {Q : Exit → Act → World → Prop} : StepG (opsOf 6 Try.f31) SGD.acts SGD.av X.val0 X.Wd X.a0 Q 10 := by
  intro γ listed a w o hF hC hW h1 ho h2
  obtain ⟨hd, hop, hg⟩ := fields2 (x := some 26) (y := Op.move (.tmp 25)) (z := none) (by kernel_rfl) ho
  have e25 : a.eval (.tmp 25) = .bool false := slotG hF ho h2 (j := 9) (d := 25) (by kernel_rfl) (by kernel_rfl) (by rw [ok.sz]; decide)
  refine st_pureG hF hC hW ho h2 (by decide) hd hg rfl ?_
  show _ = Result.ok (Next.value (.bool false)) w
  generalize a.eval = ρ at e25 ⊢
  unfold execOp
  rw [hop]
  simp [e25, go_sem]
theorem SGD.s11 (X : SGD) (ok : SGDOk X) {Q : Exit → Act → World → Prop} : StepG (opsOf 6 Try.f31) SGD.acts SGD.av X.val0 X.Wd X.a0 Q 11 := by
  intro γ listed a w o hF hC hW h1 ho h2
  obtain ⟨hd, hop, hg⟩ := fields2 (x := some 27) (y := Op.move (.tmp 3)) (z := some (10, false)) (by kernel_rfl) ho
  have eg : a.eval (.tmp 26) = .bool false := slotG hF ho h2 (j := 10) (d := 26) (by kernel_rfl) (by kernel_rfl) (by rw [ok.sz]; decide)
  have hw := wanted_of (ops := (opsOf 6 Try.f31)) hg (yl_of (by kernel_rfl : dstOf (opsOf 6 Try.f31) 10 = some 26) (by rw [hF.tsize, ok.sz]; decide) eg)
  replace hw : Region.wanted o (yielded (opsOf 6 Try.f31) a.tmps) = true := hw
  have e3 : a.eval (.tmp 3) = .int .i64 (X.k : Int) := (hF.eval0 (by kernel_rfl)).trans ok.e3
  refine st_pureW hF hC hW ho h2 (by decide) hd hw rfl ?_
  show _ = Result.ok (Next.value (.int .i64 (X.k : Int))) w
  generalize a.eval = ρ at e3 ⊢
  unfold execOp
  rw [hop]
  simp [e3, go_sem]
theorem SGD.s12 (X : SGD) (ok : SGDOk X) {Q : Exit → Act → World → Prop} : StepG (opsOf 6 Try.f31) SGD.acts SGD.av X.val0 X.Wd X.a0 Q 12 := by
  intro γ listed a w o hF hC hW h1 ho h2
  obtain ⟨hd, hop, hg⟩ := fields2 (x := some 28) (y := Op.binOp .gtr 3 (.tmp 27) (.const (.int .i64 0)) 3) (z := some (10, false)) (by kernel_rfl) ho
  have eg : a.eval (.tmp 26) = .bool false := slotG hF ho h2 (j := 10) (d := 26) (by kernel_rfl) (by kernel_rfl) (by rw [ok.sz]; decide)
  have hw := wanted_of (ops := (opsOf 6 Try.f31)) hg (yl_of (by kernel_rfl : dstOf (opsOf 6 Try.f31) 10 = some 26) (by rw [hF.tsize, ok.sz]; decide) eg)
  replace hw : Region.wanted o (yielded (opsOf 6 Try.f31) a.tmps) = true := hw
  have e27 : a.eval (.tmp 27) = .int .i64 (X.k : Int) := slotG hF ho h2 (j := 11) (d := 27) (by kernel_rfl) (by kernel_rfl) (by rw [ok.sz]; decide)
  have ec1 : a.eval (.const (.int .i64 0)) = .int .i64 0 := rfl
  refine st_pureW hF hC hW ho h2 (by decide) hd hw rfl ?_
  show _ = Result.ok (Next.value (.bool true)) w
  generalize a.eval = ρ at e27 ec1 ⊢
  unfold execOp
  rw [hop]
  simp [e27, ec1, ok.hk, go_sem]
theorem SGD.s13 (X : SGD) (ok : SGDOk X) {Q : Exit → Act → World → Prop} : StepG (opsOf 6 Try.f31) SGD.acts SGD.av X.val0 X.Wd X.a0 Q 13 := by
  intro γ listed a w o hF hC hW h1 ho h2
  obtain ⟨hd, hop, hg⟩ := fields2 (x := some 29) (y := Op.move (.tmp 28)) (z := some (10, false)) (by kernel_rfl) ho
  have eg : a.eval (.tmp 26) = .bool false := slotG hF ho h2 (j := 10) (d := 26) (by kernel_rfl) (by kernel_rfl) (by rw [ok.sz]; decide)
  have hw := wanted_of (ops := (opsOf 6 Try.f31)) hg (yl_of (by kernel_rfl : dstOf (opsOf 6 Try.f31) 10 = some 26) (by rw [hF.tsize, ok.sz]; decide) eg)
  replace hw : Region.wanted o (yielded (opsOf 6 Try.f31) a.tmps) = true := hw
  have e28 : a.eval (.tmp 28) = .bool true := slotG hF ho h2 (j := 12) (d := 28) (by kernel_rfl) (by kernel_rfl) (by rw [ok.sz]; decide)
  refine st_pureW hF hC hW ho h2 (by decide) hd hw rfl ?_
  show _ = Result.ok (Next.value (.bool true)) w
  generalize a.eval = ρ at e28 ⊢
  unfold execOp
  rw [hop]
  simp [e28, go_sem]
theorem SGD.s14 (X : SGD) (ok : SGDOk X) {Q : Exit → Act → World → Prop} : StepG (opsOf 6 Try.f31) SGD.acts SGD.av X.val0 X.Wd X.a0 Q 14 := by
  intro γ listed a w o hF hC hW h1 ho h2
  obtain ⟨hd, hop, hg⟩ := fields2 (x := some 30) (y := Op.move (.tmp 0)) (z := some (13, true)) (by kernel_rfl) ho
  have eg : a.eval (.tmp 29) = .bool true := slotG hF ho h2 (j := 13) (d := 29) (by kernel_rfl) (by kernel_rfl) (by rw [ok.sz]; decide)
  have hw := wanted_of (ops := (opsOf 6 Try.f31)) hg (yl_of (by kernel_rfl : dstOf (opsOf 6 Try.f31) 13 = some 29) (by rw [hF.tsize, ok.sz]; decide) eg)
  replace hw : Region.wanted o (yielded (opsOf 6 Try.f31) a.tmps) = true := hw
  have e0 : a.eval (.tmp 0) = .slice (some ⟨X.ga, X.of, none⟩) X.n X.cp := (hF.eval0 (by kernel_rfl)).trans ok.e0
  refine st_pureW hF hC hW ho h2 (by decide) hd hw rfl ?_
  show _ = Result.ok (Next.value (.slice (some ⟨X.ga, X.of, none⟩) X.n X.cp)) w
  generalize a.eval = ρ at e0 ⊢
  unfold execOp
  rw [hop]
  simp [e0, go_sem]
theorem SGD.s15 (X : SGD) (ok : SGDOk X) {Q : Exit → Act → World → Prop} : StepG (opsOf 6 Try.f31) SGD.acts SGD.av X.val0 X.Wd X.a0 Q 15 := by
  intro γ listed a w o hF hC hW h1 ho h2
  obtain ⟨hd, hop, hg⟩ := fields2 (x := some 31) (y := Op.move (.tmp 3)) (z := some (13, true)) (by kernel_rfl) ho
  have eg : a.eval (.tmp 29) = .bool true := slotG hF ho h2 (j := 13) (d := 29) (by kernel_rfl) (by kernel_rfl) (by rw [ok.sz]; decide)
  have hw := wanted_of (ops := (opsOf 6 Try.f31)) hg (yl_of (by kernel_rfl : dstOf (opsOf 6 Try.f31) 13 = some 29) (by rw [hF.tsize, ok.sz]; decide) eg)
  replace hw : Region.wanted o (yielded (opsOf 6 Try.f31) a.tmps) = true := hw
  have e3 : a.eval (.tmp 3) = .int .i64 (X.k : Int) := (hF.eval0 (by kernel_rfl)).trans ok.e3
  refine st_pureW hF hC hW ho h2 (by decide) hd hw rfl ?_
  show _ = Result.ok (Next.value (.int .i64 (X.k : Int))) w
  generalize a.eval = ρ at e3 ⊢
  unfold execOp
  rw [hop]
  simp [e3, go_sem]
theorem SGD.s16 (X : SGD) (ok : SGDOk X) {Q : Exit → Act → World → Prop} : StepG (opsOf 6 Try.f31) SGD.acts SGD.av X.val0 X.Wd X.a0 Q 16 := by
  intro γ listed a w o hF hC hW h1 ho h2
  obtain ⟨hd, hop, hg⟩ := fields2 (x := some 32) (y := Op.binOp .sub 3 (.tmp 31) (.const (.int .i64 1)) 3) (z := some (13, true)) (by kernel_rfl) ho
  have eg : a.eval (.tmp 29) = .bool true := slotG hF ho h2 (j := 13) (d := 29) (by kernel_rfl) (by kernel_rfl) (by rw [ok.sz]; decide)
  have hw := wanted_of (ops := (opsOf 6 Try.f31)) hg (yl_of (by kernel_rfl : dstOf (opsOf 6 Try.f31) 13 = some 29) (by rw [hF.tsize, ok.sz]; decide) eg)
  replace hw : Region.wanted o (yielded (opsOf 6 Try.f31) a.tmps) = true := hw
  have e31 : a.eval (.tmp 31) = .int .i64 (X.k : Int) := slotG hF ho h2 (j := 15) (d := 31) (by kernel_rfl) (by kernel_rfl) (by rw [ok.sz]; decide)
  have ec1 : a.eval (.const (.int .i64 1)) = .int .i64 1 := rfl
  refine st_pureW hF hC hW ho h2 (by decide) hd hw rfl ?_
  show _ = Result.ok (Next.value (.int .i64 ((X.k : Int) - 1))) w
  generalize a.eval = ρ at e31 ec1 ⊢
  unfold execOp
  rw [hop]
  simp [e31, ec1, ok.wk, go_sem]
theorem SGD.s17 (X : SGD) (ok : SGDOk X) {Q : Exit → Act → World → Prop} : StepG (opsOf 6 Try.f31) SGD.acts SGD.av X.val0 X.Wd X.a0 Q 17 := by
  intro γ listed a w o hF hC hW h1 ho h2
  obtain ⟨hd, hop, hg⟩ := fields2 (x := some 33) (y := Op.indexAddr 30 (.tmp 30) (.tmp 32)) (z := some (13, true)) (by kernel_rfl) ho
  have eg : a.eval (.tmp 29) = .bool true := slotG hF ho h2 (j := 13) (d := 29) (by kernel_rfl) (by kernel_rfl) (by rw [ok.sz]; decide)
  have hw := wanted_of (ops := (opsOf 6 Try.f31)) hg (yl_of (by kernel_rfl : dstOf (opsOf 6 Try.f31) 13 = some 29) (by rw [hF.tsize, ok.sz]; decide) eg)
  replace hw : Region.wanted o (yielded (opsOf 6 Try.f31) a.tmps) = true := hw
  have e30 : a.eval (.tmp 30) = .slice (some ⟨X.ga, X.of, none⟩) X.n X.cp := slotG hF ho h2 (j := 14) (d := 30) (by kernel_rfl) (by kernel_rfl) (by rw [ok.sz]; decide)
  have e32 : a.eval (.tmp 32) = .int .i64 ((X.k : Int) - 1) := slotG hF ho h2 (j := 16) (d := 32) (by kernel_rfl) (by kernel_rfl) (by rw [ok.sz]; decide)
  refine st_pureW hF hC hW ho h2 (by decide) hd hw rfl ?_
  show _ = Result.ok (Next.value (.pointer (some ⟨X.ga, X.of + (X.k - 1) * 5, none⟩))) w
  generalize a.eval = ρ at e30 e32 ⊢
  unfold execOp
  rw [hop]
  simp [e30, e32, ok.ek, ok.hn, go_sem]
theorem SGD.s18 (X : SGD) (ok : SGDOk X) {Q : Exit → Act → World → Prop} : StepG (opsOf 6 Try.f31) SGD.acts SGD.av X.val0 X.Wd X.a0 Q 18 := by
  intro γ listed a w o hF hC hW h1 ho h2
  obtain ⟨hd, hop, hg⟩ := fields2 (x := some 34) (y := Op.fieldAddr 106 (.tmp 33) 0) (z := some (13, true)) (by kernel_rfl) ho
  have eg : a.eval (.tmp 29) = .bool true := slotG hF ho h2 (j := 13) (d := 29) (by kernel_rfl) (by kernel_rfl) (by rw [ok.sz]; decide)
  have hw := wanted_of (ops := (opsOf 6 Try.f31)) hg (yl_of (by kernel_rfl : dstOf (opsOf 6 Try.f31) 13 = some 29) (by rw [hF.tsize, ok.sz]; decide) eg)
  replace hw : Region.wanted o (yielded (opsOf 6 Try.f31) a.tmps) = true := hw
  have e33 : a.eval (.tmp 33) = .pointer (some ⟨X.ga, X.of + (X.k - 1) * 5, none⟩) := slotG hF ho h2 (j := 17) (d := 33) (by kernel_rfl) (by kernel_rfl) (by rw [ok.sz]; decide)
  refine st_pureW hF hC hW ho h2 (by decide) hd hw rfl ?_
  show _ = Result.ok (Next.value (.pointer (some ⟨X.ga, X.of + (X.k - 1) * 5, none⟩))) w
  generalize a.eval = ρ at e33 ⊢
  unfold execOp
  rw [hop]
  simp [e33, go_sem]
theorem SGD.s19 (X : SGD) (ok : SGDOk X) {Q : Exit → Act → World → Prop} : StepG (opsOf 6 Try.f31) SGD.acts SGD.av X.val0 X.Wd X.a0 Q 19 := by
  intro γ listed a w o hF hC hW h1 ho h2
  obtain ⟨hd, hop, hg⟩ := fields2 (x := some 35) (y := Op.load 3 (.tmp 34)) (z := some (13, true)) (by kernel_rfl) ho
  have eg : a.eval (.tmp 29) = .bool true := slotG hF ho h2 (j := 13) (d := 29) (by kernel_rfl) (by kernel_rfl) (by rw [ok.sz]; decide)
  have hw := wanted_of (ops := (opsOf 6 Try.f31)) hg (yl_of (by kernel_rfl : dstOf (opsOf 6 Try.f31) 13 = some 29) (by rw [hF.tsize, ok.sz]; decide) eg)
  replace hw : Region.wanted o (yielded (opsOf 6 Try.f31) a.tmps) = true := hw
  have e34 : a.eval (.tmp 34) = .pointer (some ⟨X.ga, X.of + (X.k - 1) * 5, none⟩) := slotG hF ho h2 (j := 18) (d := 34) (by kernel_rfl) (by kernel_rfl) (by rw [ok.sz]; decide)
  have hc0 := rq_at (SGD.kp hW) ok.pc
  refine st_pureW hF hC hW ho h2 (by decide) hd hw rfl ?_
  show _ = Result.ok (Next.value (.int .i64 X.pv)) w
  generalize a.eval = ρ at e34 ⊢
  unfold execOp
  rw [hop]
  simp [e34, hc0, go_sem]
theorem SGD.s20 (X : SGD) (ok : SGDOk X) {Q : Exit → Act → World → Prop} : StepG (opsOf 6 Try.f31) SGD.acts SGD.av X.val0 X.Wd X.a0 Q 20 := by
  intro γ listed a w o hF hC hW h1 ho h2
  obtain ⟨hd, hop, hg⟩ := fields2 (x := some 36) (y := Op.fieldAddr 106 (.tmp 4) 0) (z := some (13, true)) (by kernel_rfl) ho
  have eg : a.eval (.tmp 29) = .bool true := slotG hF ho h2 (j := 13) (d := 29) (by kernel_rfl) (by kernel_rfl) (by rw [ok.sz]; decide)
  have hw := wanted_of (ops := (opsOf 6 Try.f31)) hg (yl_of (by kernel_rfl : dstOf (opsOf 6 Try.f31) 13 = some 29) (by rw [hF.tsize, ok.sz]; decide) eg)
  replace hw : Region.wanted o (yielded (opsOf 6 Try.f31) a.tmps) = true := hw
  have e4 : a.eval (.tmp 4) = .pointer (some ⟨X.b, 0, none⟩) := (hF.eval0 (by kernel_rfl)).trans ok.e4
  refine st_pureW hF hC hW ho h2 (by decide) hd hw rfl ?_
  show _ = Result.ok (Next.value (.pointer (some ⟨X.b, 0, none⟩))) w
  generalize a.eval = ρ at e4 ⊢
  unfold execOp
  rw [hop]
  simp [e4, go_sem]
theorem SGD.s21 (X : SGD) (ok : SGDOk X) {Q : Exit → Act → World → Prop} : StepG (opsOf 6 Try.f31) SGD.acts SGD.av X.val0 X.Wd X.a0 Q 21 := by
  intro γ listed a w o hF hC hW h1 ho h2
  obtain ⟨hd, hop, hg⟩ := fields2 (x := some 37) (y := Op.load 3 (.tmp 36)) (z := some (13, true)) (by kernel_rfl) ho
  have eg : a.eval (.tmp 29) = .bool true := slotG hF ho h2 (j := 13) (d := 29) (by kernel_rfl) (by kernel_rfl) (by rw [ok.sz]; decide)
  have hw := wanted_of (ops := (opsOf 6 Try.f31)) hg (yl_of (by kernel_rfl : dstOf (opsOf 6 Try.f31) 13 = some 29) (by rw [hF.tsize, ok.sz]; decide) eg)
  replace hw : Region.wanted o (yielded (opsOf 6 Try.f31) a.tmps) = true := hw
  have e36 : a.eval (.tmp 36) = .pointer (some ⟨X.b, 0, none⟩) := slotG hF ho h2 (j := 20) (d := 36) (by kernel_rfl) (by kernel_rfl) (by rw [ok.sz]; decide)
  have hc0 := rq_at (SGD.kp hW) ok.c0
  refine st_pureW hF hC hW ho h2 (by decide) hd hw rfl ?_
  show _ = Result.ok (Next.value (.int .i64 X.at0)) w
  generalize a.eval = ρ at e36 ⊢
  unfold execOp
  rw [hop]
  simp [e36, hc0, go_sem]
theorem SGD.s22 (X : SGD) (ok : SGDOk X) {Q : Exit → Act → World → Prop} : StepG (opsOf 6 Try.f31) SGD.acts SGD.av X.val0 X.Wd X.a0 Q 22 := by
  intro γ listed a w o hF hC hW h1 ho h2
  obtain ⟨hd, hop, hg⟩ := fields2 (x := some 38) (y := Op.binOp .gtr 3 (.tmp 35) (.tmp 37) 3) (z := some (13, true)) (by kernel_rfl) ho
  have eg : a.eval (.tmp 29) = .bool true := slotG hF ho h2 (j := 13) (d := 29) (by kernel_rfl) (by kernel_rfl) (by rw [ok.sz]; decide)
  have hw := wanted_of (ops := (opsOf 6 Try.f31)) hg (yl_of (by kernel_rfl : dstOf (opsOf 6 Try.f31) 13 = some 29) (by rw [hF.tsize, ok.sz]; decide) eg)
  replace hw : Region.wanted o (yielded (opsOf 6 Try.f31) a.tmps) = true := hw
  have e35 : a.eval (.tmp 35) = .int .i64 X.pv := slotG hF ho h2 (j := 19) (d := 35) (by kernel_rfl) (by kernel_rfl) (by rw [ok.sz]; decide)
  have e37 : a.eval (.tmp 37) = .int .i64 X.at0 := slotG hF ho h2 (j := 21) (d := 37) (by kernel_rfl) (by kernel_rfl) (by rw [ok.sz]; decide)
  refine st_pureW hF hC hW ho h2 (by decide) hd hw rfl ?_
  show _ = Result.ok (Next.value (.bool true)) w
  generalize a.eval = ρ at e35 e37 ⊢
  unfold execOp
  rw [hop]
  simp [e35, e37, ok.hv, go_sem]
theorem SGD.s23 (X : SGD) (ok : SGDOk X) {Q : Exit → Act → World → Prop} : StepG (opsOf 6 Try.f31) SGD.acts SGD.av X.val0 X.Wd X.a0 Q 23 := by
  intro γ listed a w o hF hC hW h1 ho h2
  obtain ⟨hd, hop, hg⟩ := fields2 (x := some 39) (y := Op.pick (.tmp 29) (.tmp 38) (.const (.bool false))) (z := some (10, false)) (by kernel_rfl) ho
  have eg : a.eval (.tmp 26) = .bool false := slotG hF ho h2 (j := 10) (d := 26) (by kernel_rfl) (by kernel_rfl) (by rw [ok.sz]; decide)
  have hw := wanted_of (ops := (opsOf 6 Try.f31)) hg (yl_of (by kernel_rfl : dstOf (opsOf 6 Try.f31) 10 = some 26) (by rw [hF.tsize, ok.sz]; decide) eg)
  replace hw : Region.wanted o (yielded (opsOf 6 Try.f31) a.tmps) = true := hw
  have e29 : a.eval (.tmp 29) = .bool true := slotG hF ho h2 (j := 13) (d := 29) (by kernel_rfl) (by kernel_rfl) (by rw [ok.sz]; decide)
  have e38 : a.eval (.tmp 38) = .bool true := slotG hF ho h2 (j := 22) (d := 38) (by kernel_rfl) (by kernel_rfl) (by rw [ok.sz]; decide)
  have ec2 : a.eval (.const (.bool false)) = .bool false := rfl
  refine st_pureW hF hC hW ho h2 (by decide) hd hw rfl ?_
  show _ = Result.ok (Next.value (.bool true)) w
  generalize a.eval = ρ at e29 e38 ec2 ⊢
  unfold execOp
  rw [hop]
  simp [e29, e38, ec2, go_sem]
theorem SGD.s24 (X : SGD) (ok : SGDOk X) {Q : Exit → Act → World → Prop} : StepG (opsOf 6 Try.f31) SGD.acts SGD.av X.val0 X.Wd X.a0 Q 24 := by
  intro γ listed a w o hF hC hW h1 ho h2
  obtain ⟨hd, hop, hg⟩ := fields2 (x := some 40) (y := Op.pick (.tmp 26) (.const (.bool true)) (.tmp 39)) (z := none) (by kernel_rfl) ho
  have e26 : a.eval (.tmp 26) = .bool false := slotG hF ho h2 (j := 10) (d := 26) (by kernel_rfl) (by kernel_rfl) (by rw [ok.sz]; decide)
  have ec1 : a.eval (.const (.bool true)) = .bool true := rfl
  have e39 : a.eval (.tmp 39) = .bool true := slotG hF ho h2 (j := 23) (d := 39) (by kernel_rfl) (by kernel_rfl) (by rw [ok.sz]; decide)
  refine st_pureG hF hC hW ho h2 (by decide) hd hg rfl ?_
  show _ = Result.ok (Next.value (.bool true)) w
  generalize a.eval = ρ at e26 ec1 e39 ⊢
  unfold execOp
  rw [hop]
  simp [e26, ec1, e39, go_sem]
theorem SGD.size : (opsOf 6 Try.f31).size = 25 := by kernel_rfl
theorem SGD.steps (X : SGD) (ok : SGDOk X) {Q : Exit → Act → World → Prop} (i : Nat) (hi : i < (opsOf 6 Try.f31).size) : StepG (opsOf 6 Try.f31) SGD.acts SGD.av X.val0 X.Wd X.a0 Q i := by
  rw [SGD.size] at hi
  have hc : i = 0 ∨ i = 1 ∨ i = 2 ∨ i = 3 ∨ i = 4 ∨ i = 5 ∨ i = 6 ∨ i = 7 ∨ i = 8 ∨ i = 9 ∨ i = 10 ∨ i = 11 ∨ i = 12 ∨ i = 13 ∨ i = 14 ∨ i = 15 ∨ i = 16 ∨ i = 17 ∨ i = 18 ∨ i = 19 ∨ i = 20 ∨ i = 21 ∨ i = 22 ∨ i = 23 ∨ i = 24 := by omega
  rcases hc with rfl | rfl | rfl | rfl | rfl | rfl | rfl | rfl | rfl | rfl | rfl | rfl | rfl | rfl | rfl | rfl | rfl | rfl | rfl | rfl | rfl | rfl | rfl | rfl | rfl
  · exact SGD.s0 X ok
  · exact SGD.s1 X ok
  · exact SGD.s2 X ok
  · exact SGD.s3 X ok
  · exact SGD.s4 X ok
  · exact SGD.s5 X ok
  · exact SGD.s6 X ok
  · exact SGD.s7 X ok
  · exact SGD.s8 X ok
  · exact SGD.s9 X ok
  · exact SGD.s10 X ok
  · exact SGD.s11 X ok
  · exact SGD.s12 X ok
  · exact SGD.s13 X ok
  · exact SGD.s14 X ok
  · exact SGD.s15 X ok
  · exact SGD.s16 X ok
  · exact SGD.s17 X ok
  · exact SGD.s18 X ok
  · exact SGD.s19 X ok
  · exact SGD.s20 X ok
  · exact SGD.s21 X ok
  · exact SGD.s22 X ok
  · exact SGD.s23 X ok
  · exact SGD.s24 X ok
theorem SGD.puts (X : SGD) (γ : Nat → Value) (a0 : Act) : putsL (valG SGD.av X.val0 γ) (opsOf 6 Try.f31).toList a0 = (((((((((((((((((((((((((a0.put (some 16) (.pointer (some ⟨X.b, 0, none⟩))).put (some 17) (.int .i64 X.at0)).put (some 18) (.bool true)).put (some 19) (.bool false)).put (some 20) (.bool false)).put (some 21) (.pointer (some ⟨X.b, 1, none⟩))).put (some 22) (.agg #[.int .i64 X.t0, .int .i64 X.t1, .int .i64 X.t2, .int .i64 X.t3])).put (some 23) (.bool true)).put (some 24) (.bool false)).put (some 25) (.bool false)).put (some 26) (.bool false)).put (some 27) (.int .i64 (X.k : Int))).put (some 28) (.bool true)).put (some 29) (.bool true)).put (some 30) (.slice (some ⟨X.ga, X.of, none⟩) X.n X.cp)).put (some 31) (.int .i64 (X.k : Int))).put (some 32) (.int .i64 ((X.k : Int) - 1))).put (some 33) (.pointer (some ⟨X.ga, X.of + (X.k - 1) * 5, none⟩))).put (some 34) (.pointer (some ⟨X.ga, X.of + (X.k - 1) * 5, none⟩))).put (some 35) (.int .i64 X.pv)).put (some 36) (.pointer (some ⟨X.b, 0, none⟩))).put (some 37) (.int .i64 X.at0)).put (some 38) (.bool true)).put (some 39) (.bool true)).put (some 40) (.bool true)) := by kernel_rfl
/-- The region, whatever order comes up. -/
theorem SGD.run (X : SGD) (ok : SGDOk X) {Q : Exit → Act → World → Prop} (w : World) (h0 : X.Wd 0 (fun _ => undef) w.drew) (hend : ∀ (γ : Nat → Value) w', X.Wd 0 γ w' → Q .normal (((((((((((((((((((((((((X.a0.put (some 16) (.pointer (some ⟨X.b, 0, none⟩))).put (some 17) (.int .i64 X.at0)).put (some 18) (.bool true)).put (some 19) (.bool false)).put (some 20) (.bool false)).put (some 21) (.pointer (some ⟨X.b, 1, none⟩))).put (some 22) (.agg #[.int .i64 X.t0, .int .i64 X.t1, .int .i64 X.t2, .int .i64 X.t3])).put (some 23) (.bool true)).put (some 24) (.bool false)).put (some 25) (.bool false)).put (some 26) (.bool false)).put (some 27) (.int .i64 (X.k : Int))).put (some 28) (.bool true)).put (some 29) (.bool true)).put (some 30) (.slice (some ⟨X.ga, X.of, none⟩) X.n X.cp)).put (some 31) (.int .i64 (X.k : Int))).put (some 32) (.int .i64 ((X.k : Int) - 1))).put (some 33) (.pointer (some ⟨X.ga, X.of + (X.k - 1) * 5, none⟩))).put (some 34) (.pointer (some ⟨X.ga, X.of + (X.k - 1) * 5, none⟩))).put (some 35) (.int .i64 X.pv)).put (some 36) (.pointer (some ⟨X.b, 0, none⟩))).put (some 37) (.int .i64 X.at0)).put (some 38) (.bool true)).put (some 39) (.bool true)).put (some 40) (.bool true)) w') : (Code.region 6 (opsOf 6 Try.f31) true).wp Try.prog Q X.a0 w := by
  refine reg_act (acts := SGD.acts) (av := SGD.av) (val0 := X.val0) (Wd := X.Wd) (by kernel_rfl) (by kernel_rfl) (by rw [SGD.size]; decide) (fun i hi => SGD.steps X ok i hi) _ h0 ?_
  intro γ w' h
  rw [SGD.puts]
  exact hend γ w' h
structure SGE where
  b : Nat
  k : Nat
  at0 : Int
  t0 : Int
  t1 : Int
  t2 : Int
  t3 : Int
  ga : Nat
  of : Nat
  n : Nat
  cp : Nat
  pv : Int
  W : World
  a0 : Act
structure SGEOk (X : SGE) : Prop where
  c0 : X.W.cell? ⟨X.b, 0, none⟩ = some (.int .i64 X.at0)
  c1 : X.W.cell? ⟨X.b, 1, none⟩ = some (.int .i64 X.t0)
  c2 : X.W.cell? ⟨X.b, 2, none⟩ = some (.int .i64 X.t1)
  c3 : X.W.cell? ⟨X.b, 3, none⟩ = some (.int .i64 X.t2)
  c4 : X.W.cell? ⟨X.b, 4, none⟩ = some (.int .i64 X.t3)
  h1 : inN X.at0 0 65536 = true
  h2 : tnB ⟨X.t0, X.t1, X.t2, X.t3⟩ = true
  hk : 0 < X.k
  hn : X.k - 1 < X.n
  wk : IntKind.i64.wrap ((X.k : Int) - 1) = (X.k : Int) - 1
  ek : (X.k : Int) - 1 = ((X.k - 1 : Nat) : Int)
  pc : X.W.cell? ⟨X.ga, X.of + (X.k - 1) * 5, none⟩ = some (.int .i64 X.pv)
  hv : decide (X.at0 < X.pv) = false
  e0 : X.a0.eval (.tmp 0) = .slice (some ⟨X.ga, X.of, none⟩) X.n X.cp
  e3 : X.a0.eval (.tmp 3) = .int .i64 (X.k : Int)
  e4 : X.a0.eval (.tmp 4) = .pointer (some ⟨X.b, 0, none⟩)
  sz : X.a0.tmps.size = 42
def SGE.val0 (X : SGE) : Nat → Value
  | 16 => .pointer (some ⟨X.b, 0, none⟩)
  | 17 => .int .i64 X.at0
  | 18 => .bool true
  | 19 => .bool false
  | 20 => .bool false
  | 21 => .pointer (some ⟨X.b, 1, none⟩)
  | 22 => .agg #[.int .i64 X.t0, .int .i64 X.t1, .int .i64 X.t2, .int .i64 X.t3]
  | 23 => .bool true
  | 24 => .bool false
  | 25 => .bool false
  | 26 => .bool false
  | 27 => .int .i64 (X.k : Int)
  | 28 => .bool true
  | 29 => .bool true
  | 30 => .slice (some ⟨X.ga, X.of, none⟩) X.n X.cp
  | 31 => .int .i64 (X.k : Int)
  | 32 => .int .i64 ((X.k : Int) - 1)
  | 33 => .pointer (some ⟨X.ga, X.of + (X.k - 1) * 5, none⟩)
  | 34 => .pointer (some ⟨X.ga, X.of + (X.k - 1) * 5, none⟩)
  | 35 => .int .i64 X.pv
  | 36 => .pointer (some ⟨X.b, 0, none⟩)
  | 37 => .int .i64 X.at0
  | 38 => .bool false
  | 39 => .bool false
  | 40 => .bool false
  | _ => undef
def SGE.av : Nat → Option Nat
  | _ => none
def SGE.acts : List Nat := []
/-- The world, by how many of the acting ones have come up. -/
def SGE.Wd (X : SGE) : Nat → (Nat → Value) → World → Prop
  | _, _, w => Kp X.W w
theorem SGE.kp {X : SGE} {n : Nat} {γ : Nat → Value} {w : World} (h : X.Wd n γ w) : Kp X.W w := h
theorem SGE.keep {X : SGE} {n : Nat} {γ : Nat → Value} {w w' : World} (h : X.Wd n γ w) (k : Kp w w') : X.Wd n γ w' := Kp.trans h k
theorem SGE.chain : chainG (opsOf 6 Try.f31) SGE.acts = true := by kernel_rfl
theorem SGE.nodup : SGE.acts.Nodup := by decide
theorem SGE.inj {listed : Array Bool} {i k : Nat} (h : (List.range (opsOf 6 Try.f31).size).all (fun j => decide (j = i) || !(match dstOf (opsOf 6 Try.f31) j with | some d => decide (SGE.av d = some k) | none => false)) = true) (hu : listed.getD i false = false) : ∀ d, got (opsOf 6 Try.f31) listed d → SGE.av d ≠ some k := by
  rintro d ⟨j, h1, h2⟩ h3
  have hlt : j < (opsOf 6 Try.f31).size := by
    rcases Nat.lt_or_ge j (opsOf 6 Try.f31).size with h4 | h4
    · exact h4
    · unfold dstOf at h2; rw [Array.getElem?_eq_none h4] at h2; cases h2
  have h5 := List.all_eq_true.1 h j (List.mem_range.2 hlt)
  rw [h2] at h5
  simp only [h3, decide_true, Bool.not_true, Bool.or_false, decide_eq_true_eq] at h5
  subst h5
  rw [hu] at h1
  cases h1
theorem SGE.s0 (X : SGE) (ok : SGEOk X) {Q : Exit → Act → World → Prop} : StepG (opsOf 6 Try.f31) SGE.acts SGE.av X.val0 X.Wd X.a0 Q 0 := by
  intro γ listed a w o hF hC hW h1 ho h2
  obtain ⟨hd, hop, hg⟩ := fields2 (x := some 16) (y := Op.fieldAddr 106 (.tmp 4) 0) (z := none) (by kernel_rfl) ho
  have e4 : a.eval (.tmp 4) = .pointer (some ⟨X.b, 0, none⟩) := (hF.eval0 (by kernel_rfl)).trans ok.e4
  refine st_pureG hF hC hW ho h2 (by decide) hd hg rfl ?_
  show _ = Result.ok (Next.value (.pointer (some ⟨X.b, 0, none⟩))) w
  generalize a.eval = ρ at e4 ⊢
  unfold execOp
  rw [hop]
  simp [e4, go_sem]
theorem SGE.s1 (X : SGE) (ok : SGEOk X) {Q : Exit → Act → World → Prop} : StepG (opsOf 6 Try.f31) SGE.acts SGE.av X.val0 X.Wd X.a0 Q 1 := by
  intro γ listed a w o hF hC hW h1 ho h2
  obtain ⟨hd, hop, hg⟩ := fields2 (x := some 17) (y := Op.load 3 (.tmp 16)) (z := none) (by kernel_rfl) ho
  have e16 : a.eval (.tmp 16) = .pointer (some ⟨X.b, 0, none⟩) := slotG hF ho h2 (j := 0) (d := 16) (by kernel_rfl) (by kernel_rfl) (by rw [ok.sz]; decide)
  have hc0 := rq_at (SGE.kp hW) ok.c0
  refine st_pureG hF hC hW ho h2 (by decide) hd hg rfl ?_
  show _ = Result.ok (Next.value (.int .i64 X.at0)) w
  generalize a.eval = ρ at e16 ⊢
  unfold execOp
  rw [hop]
  simp [e16, hc0, go_sem]
theorem SGE.s2 (X : SGE) (ok : SGEOk X) {Q : Exit → Act → World → Prop} : StepG (opsOf 6 Try.f31) SGE.acts SGE.av X.val0 X.Wd X.a0 Q 2 := by
  intro γ listed a w o hF hC hW h1 ho h2
  obtain ⟨hd, hop, hg⟩ := fields2 (x := some 18) (y := Op.call { callee := .value (.func 70), args := #[(.tmp 17), (.const (.int .i64 0)), (.const (.int .i64 65536))], argTypes := #[3, 3, 3] }) (z := none) (by kernel_rfl) ho
  have e17 : a.eval (.tmp 17) = .int .i64 X.at0 := slotG hF ho h2 (j := 1) (d := 17) (by kernel_rfl) (by kernel_rfl) (by rw [ok.sz]; decide)
  have ec1 : a.eval (.const (.int .i64 0)) = .int .i64 0 := rfl
  have ec2 : a.eval (.const (.int .i64 65536)) = .int .i64 65536 := rfl
  have ef : a.eval (.func 70) = .func (.func 70) #[] #[] := rfl
  refine st_callG hF hC hW ho h2 (by decide) hd hg rfl (f := 70) (args := #[.int .i64 X.at0, .int .i64 0, .int .i64 65536]) ?_ ?_ ?_
  · generalize a.eval = ρ at e17 ec1 ec2 ef ⊢
    unfold execOp
    rw [hop]
    simp [e17, ec1, ec2, ef, go_sem]
  · exact in_k ok.h1 w
  · intro w' hk; exact SGE.keep hW hk
theorem SGE.s3 (X : SGE) (ok : SGEOk X) {Q : Exit → Act → World → Prop} : StepG (opsOf 6 Try.f31) SGE.acts SGE.av X.val0 X.Wd X.a0 Q 3 := by
  intro γ listed a w o hF hC hW h1 ho h2
  obtain ⟨hd, hop, hg⟩ := fields2 (x := some 19) (y := Op.unOp .not 4 (.tmp 18)) (z := none) (by kernel_rfl) ho
  have e18 : a.eval (.tmp 18) = .bool true := slotG hF ho h2 (j := 2) (d := 18) (by kernel_rfl) (by kernel_rfl) (by rw [ok.sz]; decide)
  refine st_pureG hF hC hW ho h2 (by decide) hd hg rfl ?_
  show _ = Result.ok (Next.value (.bool false)) w
  generalize a.eval = ρ at e18 ⊢
  unfold execOp
  rw [hop]
  simp [e18, go_sem]
theorem SGE.s4 (X : SGE) (ok : SGEOk X) {Q : Exit → Act → World → Prop} : StepG (opsOf 6 Try.f31) SGE.acts SGE.av X.val0 X.Wd X.a0 Q 4 := by
  intro γ listed a w o hF hC hW h1 ho h2
  obtain ⟨hd, hop, hg⟩ := fields2 (x := some 20) (y := Op.move (.tmp 19)) (z := none) (by kernel_rfl) ho
  have e19 : a.eval (.tmp 19) = .bool false := slotG hF ho h2 (j := 3) (d := 19) (by kernel_rfl) (by kernel_rfl) (by rw [ok.sz]; decide)
  refine st_pureG hF hC hW ho h2 (by decide) hd hg rfl ?_
  show _ = Result.ok (Next.value (.bool false)) w
  generalize a.eval = ρ at e19 ⊢
  unfold execOp
  rw [hop]
  simp [e19, go_sem]
theorem SGE.s5 (X : SGE) (ok : SGEOk X) {Q : Exit → Act → World → Prop} : StepG (opsOf 6 Try.f31) SGE.acts SGE.av X.val0 X.Wd X.a0 Q 5 := by
  intro γ listed a w o hF hC hW h1 ho h2
  obtain ⟨hd, hop, hg⟩ := fields2 (x := some 21) (y := Op.fieldAddr 106 (.tmp 4) 1) (z := some (4, false)) (by kernel_rfl) ho
  have eg : a.eval (.tmp 20) = .bool false := slotG hF ho h2 (j := 4) (d := 20) (by kernel_rfl) (by kernel_rfl) (by rw [ok.sz]; decide)
  have hw := wanted_of (ops := (opsOf 6 Try.f31)) hg (yl_of (by kernel_rfl : dstOf (opsOf 6 Try.f31) 4 = some 20) (by rw [hF.tsize, ok.sz]; decide) eg)
  replace hw : Region.wanted o (yielded (opsOf 6 Try.f31) a.tmps) = true := hw
  have e4 : a.eval (.tmp 4) = .pointer (some ⟨X.b, 0, none⟩) := (hF.eval0 (by kernel_rfl)).trans ok.e4
  refine st_pureW hF hC hW ho h2 (by decide) hd hw rfl ?_
  show _ = Result.ok (Next.value (.pointer (some ⟨X.b, 1, none⟩))) w
  generalize a.eval = ρ at e4 ⊢
  unfold execOp
  rw [hop]
  simp [e4, go_sem]
theorem SGE.s6 (X : SGE) (ok : SGEOk X) {Q : Exit → Act → World → Prop} : StepG (opsOf 6 Try.f31) SGE.acts SGE.av X.val0 X.Wd X.a0 Q 6 := by
  intro γ listed a w o hF hC hW h1 ho h2
  obtain ⟨hd, hop, hg⟩ := fields2 (x := some 22) (y := Op.load 24 (.tmp 21)) (z := some (4, false)) (by kernel_rfl) ho
  have eg : a.eval (.tmp 20) = .bool false := slotG hF ho h2 (j := 4) (d := 20) (by kernel_rfl) (by kernel_rfl) (by rw [ok.sz]; decide)
  have hw := wanted_of (ops := (opsOf 6 Try.f31)) hg (yl_of (by kernel_rfl : dstOf (opsOf 6 Try.f31) 4 = some 20) (by rw [hF.tsize, ok.sz]; decide) eg)
  replace hw : Region.wanted o (yielded (opsOf 6 Try.f31) a.tmps) = true := hw
  have e21 : a.eval (.tmp 21) = .pointer (some ⟨X.b, 1, none⟩) := slotG hF ho h2 (j := 5) (d := 21) (by kernel_rfl) (by kernel_rfl) (by rw [ok.sz]; decide)
  have hc0 := rq_at (SGE.kp hW) ok.c1
  have hc1 := rq_at (SGE.kp hW) ok.c2
  have hc2 := rq_at (SGE.kp hW) ok.c3
  have hc3 := rq_at (SGE.kp hW) ok.c4
  refine st_pureW hF hC hW ho h2 (by decide) hd hw rfl ?_
  show _ = Result.ok (Next.value (.agg #[.int .i64 X.t0, .int .i64 X.t1, .int .i64 X.t2, .int .i64 X.t3])) w
  generalize a.eval = ρ at e21 ⊢
  unfold execOp
  rw [hop]
  simp [e21, hc0, hc1, hc2, hc3, go_sem]
theorem SGE.s7 (X : SGE) (ok : SGEOk X) {Q : Exit → Act → World → Prop} : StepG (opsOf 6 Try.f31) SGE.acts SGE.av X.val0 X.Wd X.a0 Q 7 := by
  intro γ listed a w o hF hC hW h1 ho h2
  obtain ⟨hd, hop, hg⟩ := fields2 (x := some 23) (y := Op.call { callee := .value (.func 22), args := #[(.tmp 22)], argTypes := #[24] }) (z := some (4, false)) (by kernel_rfl) ho
  have eg : a.eval (.tmp 20) = .bool false := slotG hF ho h2 (j := 4) (d := 20) (by kernel_rfl) (by kernel_rfl) (by rw [ok.sz]; decide)
  have hw := wanted_of (ops := (opsOf 6 Try.f31)) hg (yl_of (by kernel_rfl : dstOf (opsOf 6 Try.f31) 4 = some 20) (by rw [hF.tsize, ok.sz]; decide) eg)
  replace hw : Region.wanted o (yielded (opsOf 6 Try.f31) a.tmps) = true := hw
  have e22 : a.eval (.tmp 22) = .agg #[.int .i64 X.t0, .int .i64 X.t1, .int .i64 X.t2, .int .i64 X.t3] := slotG hF ho h2 (j := 6) (d := 22) (by kernel_rfl) (by kernel_rfl) (by rw [ok.sz]; decide)
  have ef : a.eval (.func 22) = .func (.func 22) #[] #[] := rfl
  refine st_callW hF hC hW ho h2 (by decide) hd hw rfl (f := 22) (args := #[.agg #[.int .i64 X.t0, .int .i64 X.t1, .int .i64 X.t2, .int .i64 X.t3]]) ?_ ?_ ?_
  · generalize a.eval = ρ at e22 ef ⊢
    unfold execOp
    rw [hop]
    simp [e22, ef, go_sem]
  · exact good_k ok.h2 w
  · intro w' hk; exact SGE.keep hW hk
theorem SGE.s8 (X : SGE) (ok : SGEOk X) {Q : Exit → Act → World → Prop} : StepG (opsOf 6 Try.f31) SGE.acts SGE.av X.val0 X.Wd X.a0 Q 8 := by
  intro γ listed a w o hF hC hW h1 ho h2
  obtain ⟨hd, hop, hg⟩ := fields2 (x := some 24) (y := Op.unOp .not 4 (.tmp 23)) (z := some (4, false)) (by kernel_rfl) ho
  have eg : a.eval (.tmp 20) = .bool false := slotG hF ho h2 (j := 4) (d := 20) (by kernel_rfl) (by kernel_rfl) (by rw [ok.sz]; decide)
  have hw := wanted_of (ops := (opsOf 6 Try.f31)) hg (yl_of (by kernel_rfl : dstOf (opsOf 6 Try.f31) 4 = some 20) (by rw [hF.tsize, ok.sz]; decide) eg)
  replace hw : Region.wanted o (yielded (opsOf 6 Try.f31) a.tmps) = true := hw
  have e23 : a.eval (.tmp 23) = .bool true := slotG hF ho h2 (j := 7) (d := 23) (by kernel_rfl) (by kernel_rfl) (by rw [ok.sz]; decide)
  refine st_pureW hF hC hW ho h2 (by decide) hd hw rfl ?_
  show _ = Result.ok (Next.value (.bool false)) w
  generalize a.eval = ρ at e23 ⊢
  unfold execOp
  rw [hop]
  simp [e23, go_sem]
theorem SGE.s9 (X : SGE) (ok : SGEOk X) {Q : Exit → Act → World → Prop} : StepG (opsOf 6 Try.f31) SGE.acts SGE.av X.val0 X.Wd X.a0 Q 9 := by
  intro γ listed a w o hF hC hW h1 ho h2
  obtain ⟨hd, hop, hg⟩ := fields2 (x := some 25) (y := Op.pick (.tmp 20) (.const (.bool true)) (.tmp 24)) (z := none) (by kernel_rfl) ho
  have e20 : a.eval (.tmp 20) = .bool false := slotG hF ho h2 (j := 4) (d := 20) (by kernel_rfl) (by kernel_rfl) (by rw [ok.sz]; decide)
  have ec1 : a.eval (.const (.bool true)) = .bool true := rfl
  have e24 : a.eval (.tmp 24) = .bool false := slotG hF ho h2 (j := 8) (d := 24) (by kernel_rfl) (by kernel_rfl) (by rw [ok.sz]; decide)
  refine st_pureG hF hC hW ho h2 (by decide) hd hg rfl ?_
  show _ = Result.ok (Next.value (.bool false)) w
  generalize a.eval = ρ at e20 ec1 e24 ⊢
  unfold execOp
  rw [hop]
  simp [e20, ec1, e24, go_sem]
theorem SGE.s10 (X : SGE) (ok : SGEOk X) {Q : Exit → Act → World → Prop} : StepG (opsOf 6 Try.f31) SGE.acts SGE.av X.val0 X.Wd X.a0 Q 10 := by
  intro γ listed a w o hF hC hW h1 ho h2
  obtain ⟨hd, hop, hg⟩ := fields2 (x := some 26) (y := Op.move (.tmp 25)) (z := none) (by kernel_rfl) ho
  have e25 : a.eval (.tmp 25) = .bool false := slotG hF ho h2 (j := 9) (d := 25) (by kernel_rfl) (by kernel_rfl) (by rw [ok.sz]; decide)
  refine st_pureG hF hC hW ho h2 (by decide) hd hg rfl ?_
  show _ = Result.ok (Next.value (.bool false)) w
  generalize a.eval = ρ at e25 ⊢
  unfold execOp
  rw [hop]
  simp [e25, go_sem]
theorem SGE.s11 (X : SGE) (ok : SGEOk X) {Q : Exit → Act → World → Prop} : StepG (opsOf 6 Try.f31) SGE.acts SGE.av X.val0 X.Wd X.a0 Q 11 := by
  intro γ listed a w o hF hC hW h1 ho h2
  obtain ⟨hd, hop, hg⟩ := fields2 (x := some 27) (y := Op.move (.tmp 3)) (z := some (10, false)) (by kernel_rfl) ho
  have eg : a.eval (.tmp 26) = .bool false := slotG hF ho h2 (j := 10) (d := 26) (by kernel_rfl) (by kernel_rfl) (by rw [ok.sz]; decide)
  have hw := wanted_of (ops := (opsOf 6 Try.f31)) hg (yl_of (by kernel_rfl : dstOf (opsOf 6 Try.f31) 10 = some 26) (by rw [hF.tsize, ok.sz]; decide) eg)
  replace hw : Region.wanted o (yielded (opsOf 6 Try.f31) a.tmps) = true := hw
  have e3 : a.eval (.tmp 3) = .int .i64 (X.k : Int) := (hF.eval0 (by kernel_rfl)).trans ok.e3
  refine st_pureW hF hC hW ho h2 (by decide) hd hw rfl ?_
  show _ = Result.ok (Next.value (.int .i64 (X.k : Int))) w
  generalize a.eval = ρ at e3 ⊢
  unfold execOp
  rw [hop]
  simp [e3, go_sem]
theorem SGE.s12 (X : SGE) (ok : SGEOk X) {Q : Exit → Act → World → Prop} : StepG (opsOf 6 Try.f31) SGE.acts SGE.av X.val0 X.Wd X.a0 Q 12 := by
  intro γ listed a w o hF hC hW h1 ho h2
  obtain ⟨hd, hop, hg⟩ := fields2 (x := some 28) (y := Op.binOp .gtr 3 (.tmp 27) (.const (.int .i64 0)) 3) (z := some (10, false)) (by kernel_rfl) ho
  have eg : a.eval (.tmp 26) = .bool false := slotG hF ho h2 (j := 10) (d := 26) (by kernel_rfl) (by kernel_rfl) (by rw [ok.sz]; decide)
  have hw := wanted_of (ops := (opsOf 6 Try.f31)) hg (yl_of (by kernel_rfl : dstOf (opsOf 6 Try.f31) 10 = some 26) (by rw [hF.tsize, ok.sz]; decide) eg)
  replace hw : Region.wanted o (yielded (opsOf 6 Try.f31) a.tmps) = true := hw
  have e27 : a.eval (.tmp 27) = .int .i64 (X.k : Int) := slotG hF ho h2 (j := 11) (d := 27) (by kernel_rfl) (by kernel_rfl) (by rw [ok.sz]; decide)
  have ec1 : a.eval (.const (.int .i64 0)) = .int .i64 0 := rfl
  refine st_pureW hF hC hW ho h2 (by decide) hd hw rfl ?_
  show _ = Result.ok (Next.value (.bool true)) w
  generalize a.eval = ρ at e27 ec1 ⊢
  unfold execOp
  rw [hop]
  simp [e27, ec1, ok.hk, go_sem]
theorem SGE.s13 (X : SGE) (ok : SGEOk X) {Q : Exit → Act → World → Prop} : StepG (opsOf 6 Try.f31) SGE.acts SGE.av X.val0 X.Wd X.a0 Q 13 := by
  intro γ listed a w o hF hC hW h1 ho h2
  obtain ⟨hd, hop, hg⟩ := fields2 (x := some 29) (y := Op.move (.tmp 28)) (z := some (10, false)) (by kernel_rfl) ho
  have eg : a.eval (.tmp 26) = .bool false := slotG hF ho h2 (j := 10) (d := 26) (by kernel_rfl) (by kernel_rfl) (by rw [ok.sz]; decide)
  have hw := wanted_of (ops := (opsOf 6 Try.f31)) hg (yl_of (by kernel_rfl : dstOf (opsOf 6 Try.f31) 10 = some 26) (by rw [hF.tsize, ok.sz]; decide) eg)
  replace hw : Region.wanted o (yielded (opsOf 6 Try.f31) a.tmps) = true := hw
  have e28 : a.eval (.tmp 28) = .bool true := slotG hF ho h2 (j := 12) (d := 28) (by kernel_rfl) (by kernel_rfl) (by rw [ok.sz]; decide)
  refine st_pureW hF hC hW ho h2 (by decide) hd hw rfl ?_
  show _ = Result.ok (Next.value (.bool true)) w
  generalize a.eval = ρ at e28 ⊢
  unfold execOp
  rw [hop]
  simp [e28, go_sem]
theorem SGE.s14 (X : SGE) (ok : SGEOk X) {Q : Exit → Act → World → Prop} : StepG (opsOf 6 Try.f31) SGE.acts SGE.av X.val0 X.Wd X.a0 Q 14 := by
  intro γ listed a w o hF hC hW h1 ho h2
  obtain ⟨hd, hop, hg⟩ := fields2 (x := some 30) (y := Op.move (.tmp 0)) (z := some (13, true)) (by kernel_rfl) ho
  have eg : a.eval (.tmp 29) = .bool true := slotG hF ho h2 (j := 13) (d := 29) (by kernel_rfl) (by kernel_rfl) (by rw [ok.sz]; decide)
  have hw := wanted_of (ops := (opsOf 6 Try.f31)) hg (yl_of (by kernel_rfl : dstOf (opsOf 6 Try.f31) 13 = some 29) (by rw [hF.tsize, ok.sz]; decide) eg)
  replace hw : Region.wanted o (yielded (opsOf 6 Try.f31) a.tmps) = true := hw
  have e0 : a.eval (.tmp 0) = .slice (some ⟨X.ga, X.of, none⟩) X.n X.cp := (hF.eval0 (by kernel_rfl)).trans ok.e0
  refine st_pureW hF hC hW ho h2 (by decide) hd hw rfl ?_
  show _ = Result.ok (Next.value (.slice (some ⟨X.ga, X.of, none⟩) X.n X.cp)) w
  generalize a.eval = ρ at e0 ⊢
  unfold execOp
  rw [hop]
  simp [e0, go_sem]
theorem SGE.s15 (X : SGE) (ok : SGEOk X) {Q : Exit → Act → World → Prop} : StepG (opsOf 6 Try.f31) SGE.acts SGE.av X.val0 X.Wd X.a0 Q 15 := by
  intro γ listed a w o hF hC hW h1 ho h2
  obtain ⟨hd, hop, hg⟩ := fields2 (x := some 31) (y := Op.move (.tmp 3)) (z := some (13, true)) (by kernel_rfl) ho
  have eg : a.eval (.tmp 29) = .bool true := slotG hF ho h2 (j := 13) (d := 29) (by kernel_rfl) (by kernel_rfl) (by rw [ok.sz]; decide)
  have hw := wanted_of (ops := (opsOf 6 Try.f31)) hg (yl_of (by kernel_rfl : dstOf (opsOf 6 Try.f31) 13 = some 29) (by rw [hF.tsize, ok.sz]; decide) eg)
  replace hw : Region.wanted o (yielded (opsOf 6 Try.f31) a.tmps) = true := hw
  have e3 : a.eval (.tmp 3) = .int .i64 (X.k : Int) := (hF.eval0 (by kernel_rfl)).trans ok.e3
  refine st_pureW hF hC hW ho h2 (by decide) hd hw rfl ?_
  show _ = Result.ok (Next.value (.int .i64 (X.k : Int))) w
  generalize a.eval = ρ at e3 ⊢
  unfold execOp
  rw [hop]
  simp [e3, go_sem]
theorem SGE.s16 (X : SGE) (ok : SGEOk X) {Q : Exit → Act → World → Prop} : StepG (opsOf 6 Try.f31) SGE.acts SGE.av X.val0 X.Wd X.a0 Q 16 := by
  intro γ listed a w o hF hC hW h1 ho h2
  obtain ⟨hd, hop, hg⟩ := fields2 (x := some 32) (y := Op.binOp .sub 3 (.tmp 31) (.const (.int .i64 1)) 3) (z := some (13, true)) (by kernel_rfl) ho
  have eg : a.eval (.tmp 29) = .bool true := slotG hF ho h2 (j := 13) (d := 29) (by kernel_rfl) (by kernel_rfl) (by rw [ok.sz]; decide)
  have hw := wanted_of (ops := (opsOf 6 Try.f31)) hg (yl_of (by kernel_rfl : dstOf (opsOf 6 Try.f31) 13 = some 29) (by rw [hF.tsize, ok.sz]; decide) eg)
  replace hw : Region.wanted o (yielded (opsOf 6 Try.f31) a.tmps) = true := hw
  have e31 : a.eval (.tmp 31) = .int .i64 (X.k : Int) := slotG hF ho h2 (j := 15) (d := 31) (by kernel_rfl) (by kernel_rfl) (by rw [ok.sz]; decide)
  have ec1 : a.eval (.const (.int .i64 1)) = .int .i64 1 := rfl
  refine st_pureW hF hC hW ho h2 (by decide) hd hw rfl ?_
  show _ = Result.ok (Next.value (.int .i64 ((X.k : Int) - 1))) w
  generalize a.eval = ρ at e31 ec1 ⊢
  unfold execOp
  rw [hop]
  simp [e31, ec1, ok.wk, go_sem]
theorem SGE.s17 (X : SGE) (ok : SGEOk X) {Q : Exit → Act → World → Prop} : StepG (opsOf 6 Try.f31) SGE.acts SGE.av X.val0 X.Wd X.a0 Q 17 := by
  intro γ listed a w o hF hC hW h1 ho h2
  obtain ⟨hd, hop, hg⟩ := fields2 (x := some 33) (y := Op.indexAddr 30 (.tmp 30) (.tmp 32)) (z := some (13, true)) (by kernel_rfl) ho
  have eg : a.eval (.tmp 29) = .bool true := slotG hF ho h2 (j := 13) (d := 29) (by kernel_rfl) (by kernel_rfl) (by rw [ok.sz]; decide)
  have hw := wanted_of (ops := (opsOf 6 Try.f31)) hg (yl_of (by kernel_rfl : dstOf (opsOf 6 Try.f31) 13 = some 29) (by rw [hF.tsize, ok.sz]; decide) eg)
  replace hw : Region.wanted o (yielded (opsOf 6 Try.f31) a.tmps) = true := hw
  have e30 : a.eval (.tmp 30) = .slice (some ⟨X.ga, X.of, none⟩) X.n X.cp := slotG hF ho h2 (j := 14) (d := 30) (by kernel_rfl) (by kernel_rfl) (by rw [ok.sz]; decide)
  have e32 : a.eval (.tmp 32) = .int .i64 ((X.k : Int) - 1) := slotG hF ho h2 (j := 16) (d := 32) (by kernel_rfl) (by kernel_rfl) (by rw [ok.sz]; decide)
  refine st_pureW hF hC hW ho h2 (by decide) hd hw rfl ?_
  show _ = Result.ok (Next.value (.pointer (some ⟨X.ga, X.of + (X.k - 1) * 5, none⟩))) w
  generalize a.eval = ρ at e30 e32 ⊢
  unfold execOp
  rw [hop]
  simp [e30, e32, ok.ek, ok.hn, go_sem]
theorem SGE.s18 (X : SGE) (ok : SGEOk X) {Q : Exit → Act → World → Prop} : StepG (opsOf 6 Try.f31) SGE.acts SGE.av X.val0 X.Wd X.a0 Q 18 := by
  intro γ listed a w o hF hC hW h1 ho h2
  obtain ⟨hd, hop, hg⟩ := fields2 (x := some 34) (y := Op.fieldAddr 106 (.tmp 33) 0) (z := some (13, true)) (by kernel_rfl) ho
  have eg : a.eval (.tmp 29) = .bool true := slotG hF ho h2 (j := 13) (d := 29) (by kernel_rfl) (by kernel_rfl) (by rw [ok.sz]; decide)
  have hw := wanted_of (ops := (opsOf 6 Try.f31)) hg (yl_of (by kernel_rfl : dstOf (opsOf 6 Try.f31) 13 = some 29) (by rw [hF.tsize, ok.sz]; decide) eg)
  replace hw : Region.wanted o (yielded (opsOf 6 Try.f31) a.tmps) = true := hw
  have e33 : a.eval (.tmp 33) = .pointer (some ⟨X.ga, X.of + (X.k - 1) * 5, none⟩) := slotG hF ho h2 (j := 17) (d := 33) (by kernel_rfl) (by kernel_rfl) (by rw [ok.sz]; decide)
  refine st_pureW hF hC hW ho h2 (by decide) hd hw rfl ?_
  show _ = Result.ok (Next.value (.pointer (some ⟨X.ga, X.of + (X.k - 1) * 5, none⟩))) w
  generalize a.eval = ρ at e33 ⊢
  unfold execOp
  rw [hop]
  simp [e33, go_sem]
theorem SGE.s19 (X : SGE) (ok : SGEOk X) {Q : Exit → Act → World → Prop} : StepG (opsOf 6 Try.f31) SGE.acts SGE.av X.val0 X.Wd X.a0 Q 19 := by
  intro γ listed a w o hF hC hW h1 ho h2
  obtain ⟨hd, hop, hg⟩ := fields2 (x := some 35) (y := Op.load 3 (.tmp 34)) (z := some (13, true)) (by kernel_rfl) ho
  have eg : a.eval (.tmp 29) = .bool true := slotG hF ho h2 (j := 13) (d := 29) (by kernel_rfl) (by kernel_rfl) (by rw [ok.sz]; decide)
  have hw := wanted_of (ops := (opsOf 6 Try.f31)) hg (yl_of (by kernel_rfl : dstOf (opsOf 6 Try.f31) 13 = some 29) (by rw [hF.tsize, ok.sz]; decide) eg)
  replace hw : Region.wanted o (yielded (opsOf 6 Try.f31) a.tmps) = true := hw
  have e34 : a.eval (.tmp 34) = .pointer (some ⟨X.ga, X.of + (X.k - 1) * 5, none⟩) := slotG hF ho h2 (j := 18) (d := 34) (by kernel_rfl) (by kernel_rfl) (by rw [ok.sz]; decide)
  have hc0 := rq_at (SGE.kp hW) ok.pc
  refine st_pureW hF hC hW ho h2 (by decide) hd hw rfl ?_
  show _ = Result.ok (Next.value (.int .i64 X.pv)) w
  generalize a.eval = ρ at e34 ⊢
  unfold execOp
  rw [hop]
  simp [e34, hc0, go_sem]
theorem SGE.s20 (X : SGE) (ok : SGEOk X) {Q : Exit → Act → World → Prop} : StepG (opsOf 6 Try.f31) SGE.acts SGE.av X.val0 X.Wd X.a0 Q 20 := by
  intro γ listed a w o hF hC hW h1 ho h2
  obtain ⟨hd, hop, hg⟩ := fields2 (x := some 36) (y := Op.fieldAddr 106 (.tmp 4) 0) (z := some (13, true)) (by kernel_rfl) ho
  have eg : a.eval (.tmp 29) = .bool true := slotG hF ho h2 (j := 13) (d := 29) (by kernel_rfl) (by kernel_rfl) (by rw [ok.sz]; decide)
  have hw := wanted_of (ops := (opsOf 6 Try.f31)) hg (yl_of (by kernel_rfl : dstOf (opsOf 6 Try.f31) 13 = some 29) (by rw [hF.tsize, ok.sz]; decide) eg)
  replace hw : Region.wanted o (yielded (opsOf 6 Try.f31) a.tmps) = true := hw
  have e4 : a.eval (.tmp 4) = .pointer (some ⟨X.b, 0, none⟩) := (hF.eval0 (by kernel_rfl)).trans ok.e4
  refine st_pureW hF hC hW ho h2 (by decide) hd hw rfl ?_
  show _ = Result.ok (Next.value (.pointer (some ⟨X.b, 0, none⟩))) w
  generalize a.eval = ρ at e4 ⊢
  unfold execOp
  rw [hop]
  simp [e4, go_sem]
theorem SGE.s21 (X : SGE) (ok : SGEOk X) {Q : Exit → Act → World → Prop} : StepG (opsOf 6 Try.f31) SGE.acts SGE.av X.val0 X.Wd X.a0 Q 21 := by
  intro γ listed a w o hF hC hW h1 ho h2
  obtain ⟨hd, hop, hg⟩ := fields2 (x := some 37) (y := Op.load 3 (.tmp 36)) (z := some (13, true)) (by kernel_rfl) ho
  have eg : a.eval (.tmp 29) = .bool true := slotG hF ho h2 (j := 13) (d := 29) (by kernel_rfl) (by kernel_rfl) (by rw [ok.sz]; decide)
  have hw := wanted_of (ops := (opsOf 6 Try.f31)) hg (yl_of (by kernel_rfl : dstOf (opsOf 6 Try.f31) 13 = some 29) (by rw [hF.tsize, ok.sz]; decide) eg)
  replace hw : Region.wanted o (yielded (opsOf 6 Try.f31) a.tmps) = true := hw
  have e36 : a.eval (.tmp 36) = .pointer (some ⟨X.b, 0, none⟩) := slotG hF ho h2 (j := 20) (d := 36) (by kernel_rfl) (by kernel_rfl) (by rw [ok.sz]; decide)
  have hc0 := rq_at (SGE.kp hW) ok.c0
  refine st_pureW hF hC hW ho h2 (by decide) hd hw rfl ?_
  show _ = Result.ok (Next.value (.int .i64 X.at0)) w
  generalize a.eval = ρ at e36 ⊢
  unfold execOp
  rw [hop]
  simp [e36, hc0, go_sem]
theorem SGE.s22 (X : SGE) (ok : SGEOk X) {Q : Exit → Act → World → Prop} : StepG (opsOf 6 Try.f31) SGE.acts SGE.av X.val0 X.Wd X.a0 Q 22 := by
  intro γ listed a w o hF hC hW h1 ho h2
  obtain ⟨hd, hop, hg⟩ := fields2 (x := some 38) (y := Op.binOp .gtr 3 (.tmp 35) (.tmp 37) 3) (z := some (13, true)) (by kernel_rfl) ho
  have eg : a.eval (.tmp 29) = .bool true := slotG hF ho h2 (j := 13) (d := 29) (by kernel_rfl) (by kernel_rfl) (by rw [ok.sz]; decide)
  have hw := wanted_of (ops := (opsOf 6 Try.f31)) hg (yl_of (by kernel_rfl : dstOf (opsOf 6 Try.f31) 13 = some 29) (by rw [hF.tsize, ok.sz]; decide) eg)
  replace hw : Region.wanted o (yielded (opsOf 6 Try.f31) a.tmps) = true := hw
  have e35 : a.eval (.tmp 35) = .int .i64 X.pv := slotG hF ho h2 (j := 19) (d := 35) (by kernel_rfl) (by kernel_rfl) (by rw [ok.sz]; decide)
  have e37 : a.eval (.tmp 37) = .int .i64 X.at0 := slotG hF ho h2 (j := 21) (d := 37) (by kernel_rfl) (by kernel_rfl) (by rw [ok.sz]; decide)
  refine st_pureW hF hC hW ho h2 (by decide) hd hw rfl ?_
  show _ = Result.ok (Next.value (.bool false)) w
  generalize a.eval = ρ at e35 e37 ⊢
  unfold execOp
  rw [hop]
  simp [e35, e37, ok.hv, go_sem]
theorem SGE.s23 (X : SGE) (ok : SGEOk X) {Q : Exit → Act → World → Prop} : StepG (opsOf 6 Try.f31) SGE.acts SGE.av X.val0 X.Wd X.a0 Q 23 := by
  intro γ listed a w o hF hC hW h1 ho h2
  obtain ⟨hd, hop, hg⟩ := fields2 (x := some 39) (y := Op.pick (.tmp 29) (.tmp 38) (.const (.bool false))) (z := some (10, false)) (by kernel_rfl) ho
  have eg : a.eval (.tmp 26) = .bool false := slotG hF ho h2 (j := 10) (d := 26) (by kernel_rfl) (by kernel_rfl) (by rw [ok.sz]; decide)
  have hw := wanted_of (ops := (opsOf 6 Try.f31)) hg (yl_of (by kernel_rfl : dstOf (opsOf 6 Try.f31) 10 = some 26) (by rw [hF.tsize, ok.sz]; decide) eg)
  replace hw : Region.wanted o (yielded (opsOf 6 Try.f31) a.tmps) = true := hw
  have e29 : a.eval (.tmp 29) = .bool true := slotG hF ho h2 (j := 13) (d := 29) (by kernel_rfl) (by kernel_rfl) (by rw [ok.sz]; decide)
  have e38 : a.eval (.tmp 38) = .bool false := slotG hF ho h2 (j := 22) (d := 38) (by kernel_rfl) (by kernel_rfl) (by rw [ok.sz]; decide)
  have ec2 : a.eval (.const (.bool false)) = .bool false := rfl
  refine st_pureW hF hC hW ho h2 (by decide) hd hw rfl ?_
  show _ = Result.ok (Next.value (.bool false)) w
  generalize a.eval = ρ at e29 e38 ec2 ⊢
  unfold execOp
  rw [hop]
  simp [e29, e38, ec2, go_sem]
theorem SGE.s24 (X : SGE) (ok : SGEOk X) {Q : Exit → Act → World → Prop} : StepG (opsOf 6 Try.f31) SGE.acts SGE.av X.val0 X.Wd X.a0 Q 24 := by
  intro γ listed a w o hF hC hW h1 ho h2
  obtain ⟨hd, hop, hg⟩ := fields2 (x := some 40) (y := Op.pick (.tmp 26) (.const (.bool true)) (.tmp 39)) (z := none) (by kernel_rfl) ho
  have e26 : a.eval (.tmp 26) = .bool false := slotG hF ho h2 (j := 10) (d := 26) (by kernel_rfl) (by kernel_rfl) (by rw [ok.sz]; decide)
  have ec1 : a.eval (.const (.bool true)) = .bool true := rfl
  have e39 : a.eval (.tmp 39) = .bool false := slotG hF ho h2 (j := 23) (d := 39) (by kernel_rfl) (by kernel_rfl) (by rw [ok.sz]; decide)
  refine st_pureG hF hC hW ho h2 (by decide) hd hg rfl ?_
  show _ = Result.ok (Next.value (.bool false)) w
  generalize a.eval = ρ at e26 ec1 e39 ⊢
  unfold execOp
  rw [hop]
  simp [e26, ec1, e39, go_sem]
theorem SGE.size : (opsOf 6 Try.f31).size = 25 := by kernel_rfl
theorem SGE.steps (X : SGE) (ok : SGEOk X) {Q : Exit → Act → World → Prop} (i : Nat) (hi : i < (opsOf 6 Try.f31).size) : StepG (opsOf 6 Try.f31) SGE.acts SGE.av X.val0 X.Wd X.a0 Q i := by
  rw [SGE.size] at hi
  have hc : i = 0 ∨ i = 1 ∨ i = 2 ∨ i = 3 ∨ i = 4 ∨ i = 5 ∨ i = 6 ∨ i = 7 ∨ i = 8 ∨ i = 9 ∨ i = 10 ∨ i = 11 ∨ i = 12 ∨ i = 13 ∨ i = 14 ∨ i = 15 ∨ i = 16 ∨ i = 17 ∨ i = 18 ∨ i = 19 ∨ i = 20 ∨ i = 21 ∨ i = 22 ∨ i = 23 ∨ i = 24 := by omega
  rcases hc with rfl | rfl | rfl | rfl | rfl | rfl | rfl | rfl | rfl | rfl | rfl | rfl | rfl | rfl | rfl | rfl | rfl | rfl | rfl | rfl | rfl | rfl | rfl | rfl | rfl
  · exact SGE.s0 X ok
  · exact SGE.s1 X ok
  · exact SGE.s2 X ok
  · exact SGE.s3 X ok
  · exact SGE.s4 X ok
  · exact SGE.s5 X ok
  · exact SGE.s6 X ok
  · exact SGE.s7 X ok
  · exact SGE.s8 X ok
  · exact SGE.s9 X ok
  · exact SGE.s10 X ok
  · exact SGE.s11 X ok
  · exact SGE.s12 X ok
  · exact SGE.s13 X ok
  · exact SGE.s14 X ok
  · exact SGE.s15 X ok
  · exact SGE.s16 X ok
  · exact SGE.s17 X ok
  · exact SGE.s18 X ok
  · exact SGE.s19 X ok
  · exact SGE.s20 X ok
  · exact SGE.s21 X ok
  · exact SGE.s22 X ok
  · exact SGE.s23 X ok
  · exact SGE.s24 X ok
theorem SGE.puts (X : SGE) (γ : Nat → Value) (a0 : Act) : putsL (valG SGE.av X.val0 γ) (opsOf 6 Try.f31).toList a0 = (((((((((((((((((((((((((a0.put (some 16) (.pointer (some ⟨X.b, 0, none⟩))).put (some 17) (.int .i64 X.at0)).put (some 18) (.bool true)).put (some 19) (.bool false)).put (some 20) (.bool false)).put (some 21) (.pointer (some ⟨X.b, 1, none⟩))).put (some 22) (.agg #[.int .i64 X.t0, .int .i64 X.t1, .int .i64 X.t2, .int .i64 X.t3])).put (some 23) (.bool true)).put (some 24) (.bool false)).put (some 25) (.bool false)).put (some 26) (.bool false)).put (some 27) (.int .i64 (X.k : Int))).put (some 28) (.bool true)).put (some 29) (.bool true)).put (some 30) (.slice (some ⟨X.ga, X.of, none⟩) X.n X.cp)).put (some 31) (.int .i64 (X.k : Int))).put (some 32) (.int .i64 ((X.k : Int) - 1))).put (some 33) (.pointer (some ⟨X.ga, X.of + (X.k - 1) * 5, none⟩))).put (some 34) (.pointer (some ⟨X.ga, X.of + (X.k - 1) * 5, none⟩))).put (some 35) (.int .i64 X.pv)).put (some 36) (.pointer (some ⟨X.b, 0, none⟩))).put (some 37) (.int .i64 X.at0)).put (some 38) (.bool false)).put (some 39) (.bool false)).put (some 40) (.bool false)) := by kernel_rfl
/-- The region, whatever order comes up. -/
theorem SGE.run (X : SGE) (ok : SGEOk X) {Q : Exit → Act → World → Prop} (w : World) (h0 : X.Wd 0 (fun _ => undef) w.drew) (hend : ∀ (γ : Nat → Value) w', X.Wd 0 γ w' → Q .normal (((((((((((((((((((((((((X.a0.put (some 16) (.pointer (some ⟨X.b, 0, none⟩))).put (some 17) (.int .i64 X.at0)).put (some 18) (.bool true)).put (some 19) (.bool false)).put (some 20) (.bool false)).put (some 21) (.pointer (some ⟨X.b, 1, none⟩))).put (some 22) (.agg #[.int .i64 X.t0, .int .i64 X.t1, .int .i64 X.t2, .int .i64 X.t3])).put (some 23) (.bool true)).put (some 24) (.bool false)).put (some 25) (.bool false)).put (some 26) (.bool false)).put (some 27) (.int .i64 (X.k : Int))).put (some 28) (.bool true)).put (some 29) (.bool true)).put (some 30) (.slice (some ⟨X.ga, X.of, none⟩) X.n X.cp)).put (some 31) (.int .i64 (X.k : Int))).put (some 32) (.int .i64 ((X.k : Int) - 1))).put (some 33) (.pointer (some ⟨X.ga, X.of + (X.k - 1) * 5, none⟩))).put (some 34) (.pointer (some ⟨X.ga, X.of + (X.k - 1) * 5, none⟩))).put (some 35) (.int .i64 X.pv)).put (some 36) (.pointer (some ⟨X.b, 0, none⟩))).put (some 37) (.int .i64 X.at0)).put (some 38) (.bool false)).put (some 39) (.bool false)).put (some 40) (.bool false)) w') : (Code.region 6 (opsOf 6 Try.f31) true).wp Try.prog Q X.a0 w := by
  refine reg_act (acts := SGE.acts) (av := SGE.av) (val0 := X.val0) (Wd := X.Wd) (by kernel_rfl) (by kernel_rfl) (by rw [SGE.size]; decide) (fun i hi => SGE.steps X ok i hi) _ h0 ?_
  intro γ w' h
  rw [SGE.puts]
  exact hend γ w' h
end Go.Proofs.Ythlohbiocfeapaa
