/-
  The statement of bend that makes a list of one point, whatever order its operations come up in; each theorem names its conditions.
-/
import Derived.Test.YtoajjdlgipphiaaLoE
import Derived.Test.YtoajjdlgipphiaaRc
namespace Go.Proofs.Ytoajjdlgipphiaa
open Go.ChangeShapes Go.WideShapes Go.ChangeAt Go.RowKit
set_option linter.unusedVariables false

theorem ownp_lit (w : World) (B : Nat) (x y : Int) (hB : B ≤ w.heap.size) : OwnP (w.alloc (.cells #[.int .i64 x, .int .i64 y] 54)) B (.slice (some ⟨w.heap.size, 0, none⟩) 1 1) [(x, y)] :=
  World.ownsRow_lit w #[.int .i64 x, .int .i64 y] 1 hB (by unfold maxLen; omega) (by simp)
structure BEN where
  bx : Nat
  gu : Nat
  n : Nat
  m : Nat
  uc : Nat
  x : Int
  y : Int
  W : World
  a0 : Act
structure BENOk (X : BEN) : Prop where
  c1 : X.W.cell? ⟨X.bx, 1, none⟩ = some (.slice (some ⟨X.gu, 0, none⟩) X.n X.uc)
  wm : IntKind.i64.wrap ((X.n : Int) - 1) = (X.m : Int)
  hm : X.m < X.n
  px : X.W.cell? ⟨X.gu, X.m * 2, none⟩ = some (.int .i64 X.x)
  py : X.W.cell? ⟨X.gu, X.m * 2 + 1, none⟩ = some (.int .i64 X.y)
  e0 : X.a0.eval (.tmp 0) = .pointer (some ⟨X.bx, 0, none⟩)
  sz : X.a0.tmps.size = 34
def BEN.val0 (X : BEN) : Nat → Value
  | 6 => .pointer (some ⟨X.bx, 0, none⟩)
  | 7 => .pointer (some ⟨X.bx, 0, none⟩)
  | 8 => .pointer (some ⟨X.bx, 1, none⟩)
  | 9 => .slice (some ⟨X.gu, 0, none⟩) X.n X.uc
  | 10 => .pointer (some ⟨X.bx, 0, none⟩)
  | 11 => .pointer (some ⟨X.bx, 0, none⟩)
  | 12 => .pointer (some ⟨X.bx, 1, none⟩)
  | 13 => .slice (some ⟨X.gu, 0, none⟩) X.n X.uc
  | 14 => .int .i64 (X.n : Int)
  | 15 => .int .i64 (X.m : Int)
  | 16 => .pointer (some ⟨X.gu, X.m * 2, none⟩)
  | 17 => .agg #[.int .i64 X.x, .int .i64 X.y]
  | _ => undef
def BEN.av : Nat → Option Nat
  | 18 => some 0
  | 4 => some 1
  | _ => none
def BEN.ext : Nat → Value → Value
  | _ => fun u => u
def BEN.acts : List Nat := [12, 13, 14]
theorem BEN.nodup : BEN.acts.Nodup := by decide
structure BEN.Wd (X : BEN) (S : Nat → Bool) (γ : Nat → Value) (w : World) : Prop where
  nw : Nw X.W w
  s0 : S 0 = true → OwnP w X.W.heap.size (γ 0) [(X.x, X.y)]
  s1 : S 1 = true → ∃ b, γ 1 = .pointer (some ⟨b, 0, none⟩) ∧ X.W.heap.size ≤ b ∧ b < w.heap.size ∧ (∃ z, w.cell? ⟨b, 0, none⟩ = some z) ∧ (∀ o, w.frozen? ⟨b, o, none⟩ = false) ∧ (S 2 = true → w.cell? ⟨b, 0, none⟩ = some (γ 0)) ∧ (S 0 = true → (γ 0).ownBlock ≠ some b)
theorem BEN.s0 (X : BEN) (ok : BENOk X) {Q : Exit → Act → World → Prop} : StepH (opsOf 0 Try.f73) BEN.acts BEN.av BEN.ext X.val0 X.Wd X.a0 Q 0 := by
  intro γ listed a w o hF hC hW h1 ho h2
  obtain ⟨hd, hop, hg⟩ := fields2 (x := some 6) (y := Op.move (.tmp 0)) (z := none) (by kernel_rfl) ho
  have e0 : a.eval (.tmp 0) = .pointer (some ⟨X.bx, 0, none⟩) := (hF.eval0 (by kernel_rfl)).trans ok.e0
  refine st_pureH hF hC hW ho h2 (by decide) hd hg ?_
  show _ = Result.ok (Next.value (.pointer (some ⟨X.bx, 0, none⟩))) w
  generalize a.eval = ρ at e0 ⊢
  unfold execOp
  rw [hop]
  simp [e0, go_sem]
theorem BEN.s1 (X : BEN) (ok : BENOk X) {Q : Exit → Act → World → Prop} : StepH (opsOf 0 Try.f73) BEN.acts BEN.av BEN.ext X.val0 X.Wd X.a0 Q 1 := by
  intro γ listed a w o hF hC hW h1 ho h2
  obtain ⟨hd, hop, hg⟩ := fields2 (x := some 7) (y := Op.nilCheck (.tmp 6)) (z := none) (by kernel_rfl) ho
  have e6 : a.eval (.tmp 6) = .pointer (some ⟨X.bx, 0, none⟩) := slotH hF ho h2 (j := 0) (d := 6) (by kernel_rfl) (by kernel_rfl) (by rw [ok.sz]; decide)
  refine st_pureH hF hC hW ho h2 (by decide) hd hg ?_
  show _ = Result.ok (Next.value (.pointer (some ⟨X.bx, 0, none⟩))) w
  generalize a.eval = ρ at e6 ⊢
  unfold execOp
  rw [hop]
  simp [e6, go_sem]
theorem BEN.s2 (X : BEN) (ok : BENOk X) {Q : Exit → Act → World → Prop} : StepH (opsOf 0 Try.f73) BEN.acts BEN.av BEN.ext X.val0 X.Wd X.a0 Q 2 := by
  intro γ listed a w o hF hC hW h1 ho h2
  obtain ⟨hd, hop, hg⟩ := fields2 (x := some 8) (y := Op.fieldAddr 79 (.tmp 7) 1) (z := none) (by kernel_rfl) ho
  have e7 : a.eval (.tmp 7) = .pointer (some ⟨X.bx, 0, none⟩) := slotH hF ho h2 (j := 1) (d := 7) (by kernel_rfl) (by kernel_rfl) (by rw [ok.sz]; decide)
  refine st_pureH hF hC hW ho h2 (by decide) hd hg ?_
  show _ = Result.ok (Next.value (.pointer (some ⟨X.bx, 1, none⟩))) w
  generalize a.eval = ρ at e7 ⊢
  unfold execOp
  rw [hop]
  simp [e7, go_sem]
theorem BEN.s3 (X : BEN) (ok : BENOk X) {Q : Exit → Act → World → Prop} : StepH (opsOf 0 Try.f73) BEN.acts BEN.av BEN.ext X.val0 X.Wd X.a0 Q 3 := by
  intro γ listed a w o hF hC hW h1 ho h2
  obtain ⟨hd, hop, hg⟩ := fields2 (x := some 9) (y := Op.load 60 (.tmp 8)) (z := none) (by kernel_rfl) ho
  have e8 : a.eval (.tmp 8) = .pointer (some ⟨X.bx, 1, none⟩) := slotH hF ho h2 (j := 2) (d := 8) (by kernel_rfl) (by kernel_rfl) (by rw [ok.sz]; decide)
  have hc := ((bcell hW.nw).1 _ _ (World.block_lt_of_cell? X.W ⟨_, _, none⟩ ok.c1)).trans ok.c1
  refine st_pureH hF hC hW ho h2 (by decide) hd hg ?_
  show _ = Result.ok (Next.value (.slice (some ⟨X.gu, 0, none⟩) X.n X.uc)) w
  generalize a.eval = ρ at e8 ⊢
  unfold execOp
  rw [hop]
  simp [e8, hc, go_sem]
theorem BEN.s4 (X : BEN) (ok : BENOk X) {Q : Exit → Act → World → Prop} : StepH (opsOf 0 Try.f73) BEN.acts BEN.av BEN.ext X.val0 X.Wd X.a0 Q 4 := by
  intro γ listed a w o hF hC hW h1 ho h2
  obtain ⟨hd, hop, hg⟩ := fields2 (x := some 10) (y := Op.move (.tmp 0)) (z := none) (by kernel_rfl) ho
  have e0 : a.eval (.tmp 0) = .pointer (some ⟨X.bx, 0, none⟩) := (hF.eval0 (by kernel_rfl)).trans ok.e0
  refine st_pureH hF hC hW ho h2 (by decide) hd hg ?_
  show _ = Result.ok (Next.value (.pointer (some ⟨X.bx, 0, none⟩))) w
  generalize a.eval = ρ at e0 ⊢
  unfold execOp
  rw [hop]
  simp [e0, go_sem]
theorem BEN.s5 (X : BEN) (ok : BENOk X) {Q : Exit → Act → World → Prop} : StepH (opsOf 0 Try.f73) BEN.acts BEN.av BEN.ext X.val0 X.Wd X.a0 Q 5 := by
  intro γ listed a w o hF hC hW h1 ho h2
  obtain ⟨hd, hop, hg⟩ := fields2 (x := some 11) (y := Op.nilCheck (.tmp 10)) (z := none) (by kernel_rfl) ho
  have e10 : a.eval (.tmp 10) = .pointer (some ⟨X.bx, 0, none⟩) := slotH hF ho h2 (j := 4) (d := 10) (by kernel_rfl) (by kernel_rfl) (by rw [ok.sz]; decide)
  refine st_pureH hF hC hW ho h2 (by decide) hd hg ?_
  show _ = Result.ok (Next.value (.pointer (some ⟨X.bx, 0, none⟩))) w
  generalize a.eval = ρ at e10 ⊢
  unfold execOp
  rw [hop]
  simp [e10, go_sem]
theorem BEN.s6 (X : BEN) (ok : BENOk X) {Q : Exit → Act → World → Prop} : StepH (opsOf 0 Try.f73) BEN.acts BEN.av BEN.ext X.val0 X.Wd X.a0 Q 6 := by
  intro γ listed a w o hF hC hW h1 ho h2
  obtain ⟨hd, hop, hg⟩ := fields2 (x := some 12) (y := Op.fieldAddr 79 (.tmp 11) 1) (z := none) (by kernel_rfl) ho
  have e11 : a.eval (.tmp 11) = .pointer (some ⟨X.bx, 0, none⟩) := slotH hF ho h2 (j := 5) (d := 11) (by kernel_rfl) (by kernel_rfl) (by rw [ok.sz]; decide)
  refine st_pureH hF hC hW ho h2 (by decide) hd hg ?_
  show _ = Result.ok (Next.value (.pointer (some ⟨X.bx, 1, none⟩))) w
  generalize a.eval = ρ at e11 ⊢
  unfold execOp
  rw [hop]
  simp [e11, go_sem]
theorem BEN.s7 (X : BEN) (ok : BENOk X) {Q : Exit → Act → World → Prop} : StepH (opsOf 0 Try.f73) BEN.acts BEN.av BEN.ext X.val0 X.Wd X.a0 Q 7 := by
  intro γ listed a w o hF hC hW h1 ho h2
  obtain ⟨hd, hop, hg⟩ := fields2 (x := some 13) (y := Op.load 60 (.tmp 12)) (z := none) (by kernel_rfl) ho
  have e12 : a.eval (.tmp 12) = .pointer (some ⟨X.bx, 1, none⟩) := slotH hF ho h2 (j := 6) (d := 12) (by kernel_rfl) (by kernel_rfl) (by rw [ok.sz]; decide)
  have hc := ((bcell hW.nw).1 _ _ (World.block_lt_of_cell? X.W ⟨_, _, none⟩ ok.c1)).trans ok.c1
  refine st_pureH hF hC hW ho h2 (by decide) hd hg ?_
  show _ = Result.ok (Next.value (.slice (some ⟨X.gu, 0, none⟩) X.n X.uc)) w
  generalize a.eval = ρ at e12 ⊢
  unfold execOp
  rw [hop]
  simp [e12, hc, go_sem]
theorem BEN.s8 (X : BEN) (ok : BENOk X) {Q : Exit → Act → World → Prop} : StepH (opsOf 0 Try.f73) BEN.acts BEN.av BEN.ext X.val0 X.Wd X.a0 Q 8 := by
  intro γ listed a w o hF hC hW h1 ho h2
  obtain ⟨hd, hop, hg⟩ := fields2 (x := some 14) (y := Op.call { callee := .builtin .len, args := #[(.tmp 13)], argTypes := #[60] }) (z := none) (by kernel_rfl) ho
  have e13 : a.eval (.tmp 13) = .slice (some ⟨X.gu, 0, none⟩) X.n X.uc := slotH hF ho h2 (j := 7) (d := 13) (by kernel_rfl) (by kernel_rfl) (by rw [ok.sz]; decide)
  refine st_pureH hF hC hW ho h2 (by decide) hd hg ?_
  show _ = Result.ok (Next.value (.int .i64 (X.n : Int))) w
  generalize a.eval = ρ at e13 ⊢
  unfold execOp
  rw [hop]
  simp [e13, go_sem]
theorem BEN.s9 (X : BEN) (ok : BENOk X) {Q : Exit → Act → World → Prop} : StepH (opsOf 0 Try.f73) BEN.acts BEN.av BEN.ext X.val0 X.Wd X.a0 Q 9 := by
  intro γ listed a w o hF hC hW h1 ho h2
  obtain ⟨hd, hop, hg⟩ := fields2 (x := some 15) (y := Op.binOp .sub 3 (.tmp 14) (.const (.int .i64 1)) 3) (z := none) (by kernel_rfl) ho
  have e14 : a.eval (.tmp 14) = .int .i64 (X.n : Int) := slotH hF ho h2 (j := 8) (d := 14) (by kernel_rfl) (by kernel_rfl) (by rw [ok.sz]; decide)
  have ec1 : a.eval (.const (.int .i64 1)) = .int .i64 1 := rfl
  refine st_pureH hF hC hW ho h2 (by decide) hd hg ?_
  show _ = Result.ok (Next.value (.int .i64 (X.m : Int))) w
  generalize a.eval = ρ at e14 ec1 ⊢
  unfold execOp
  rw [hop]
  simp [e14, ec1, ok.wm, go_sem]
theorem BEN.s10 (X : BEN) (ok : BENOk X) {Q : Exit → Act → World → Prop} : StepH (opsOf 0 Try.f73) BEN.acts BEN.av BEN.ext X.val0 X.Wd X.a0 Q 10 := by
  intro γ listed a w o hF hC hW h1 ho h2
  obtain ⟨hd, hop, hg⟩ := fields2 (x := some 16) (y := Op.indexAddr 60 (.tmp 9) (.tmp 15)) (z := none) (by kernel_rfl) ho
  have e9 : a.eval (.tmp 9) = .slice (some ⟨X.gu, 0, none⟩) X.n X.uc := slotH hF ho h2 (j := 3) (d := 9) (by kernel_rfl) (by kernel_rfl) (by rw [ok.sz]; decide)
  have e15 : a.eval (.tmp 15) = .int .i64 (X.m : Int) := slotH hF ho h2 (j := 9) (d := 15) (by kernel_rfl) (by kernel_rfl) (by rw [ok.sz]; decide)
  refine st_pureH hF hC hW ho h2 (by decide) hd hg ?_
  show _ = Result.ok (Next.value (.pointer (some ⟨X.gu, X.m * 2, none⟩))) w
  generalize a.eval = ρ at e9 e15 ⊢
  unfold execOp
  rw [hop]
  simp [e9, e15, ok.hm, go_sem]
theorem BEN.s11 (X : BEN) (ok : BENOk X) {Q : Exit → Act → World → Prop} : StepH (opsOf 0 Try.f73) BEN.acts BEN.av BEN.ext X.val0 X.Wd X.a0 Q 11 := by
  intro γ listed a w o hF hC hW h1 ho h2
  obtain ⟨hd, hop, hg⟩ := fields2 (x := some 17) (y := Op.load 54 (.tmp 16)) (z := none) (by kernel_rfl) ho
  have e16 : a.eval (.tmp 16) = .pointer (some ⟨X.gu, X.m * 2, none⟩) := slotH hF ho h2 (j := 10) (d := 16) (by kernel_rfl) (by kernel_rfl) (by rw [ok.sz]; decide)
  have hc0 := ((bcell hW.nw).1 _ _ (World.block_lt_of_cell? X.W ⟨_, _, none⟩ ok.px)).trans ok.px
  have hc1 := ((bcell hW.nw).1 _ _ (World.block_lt_of_cell? X.W ⟨_, _, none⟩ ok.py)).trans ok.py
  refine st_pureH hF hC hW ho h2 (by decide) hd hg ?_
  show _ = Result.ok (Next.value (.agg #[.int .i64 X.x, .int .i64 X.y])) w
  generalize a.eval = ρ at e16 ⊢
  unfold execOp
  rw [hop]
  simp [e16, hc0, hc1, go_sem]
theorem BEN.s12 (X : BEN) (ok : BENOk X) {Q : Exit → Act → World → Prop} : StepH (opsOf 0 Try.f73) BEN.acts BEN.av BEN.ext X.val0 X.Wd X.a0 Q 12 := by
  intro γ listed a w o hF hC hW h1 ho h2
  obtain ⟨hd, hop, hg⟩ := fields2 (x := some 18) (y := Op.buildSlice 60 1 #[(0, (.tmp 17))]) (z := none) (by kernel_rfl) ho
  have e17 : a.eval (.tmp 17) = .agg #[.int .i64 X.x, .int .i64 X.y] := slotH hF ho h2 (j := 11) (d := 17) (by kernel_rfl) (by kernel_rfl) (by rw [ok.sz]; decide)
  have hu := unl (hF.lt ho) h1
  have hno : upOf listed BEN.acts 2 = false := up_no hC hu rfl [12] (by kernel_rfl) (by decide)
  refine st_actH (k := 0) (ps := []) BEN.nodup rfl (by kernel_rfl) hF hC h1 ho h2 (Or.inr ⟨18, hd, rfl, fun _ => rfl⟩) hg ?_
  intro K hK
  have hr : (execOp a.eval o).run Try.prog w = .ok (.value (.slice (some ⟨w.heap.size, 0, none⟩) 1 1)) (w.alloc (.cells #[.int .i64 X.x, .int .i64 X.y] 54)) := by
    generalize a.eval = ρ at e17 ⊢
    unfold execOp
    rw [hop]
    simp [e17, go_sem]
  unfold Oper.wp
  rw [hr]
  have n1 : Nw w (w.alloc (.cells #[.int .i64 X.x, .int .i64 X.y] 54)) := (Below.refl _ _).alloc (Nat.le_refl _) _
  refine hK _ _ ⟨Nw.trans hW.nw n1, fun _ => ?_, fun hs => ?_⟩
  · rw [updG_at]; exact ownp_lit w _ X.x X.y (Below.size hW.nw)
  · rw [upS_ne (by decide)] at hs
    obtain ⟨b, b1, b2, b3, ⟨z, bz⟩, b4, b5, b6⟩ := hW.s1 hs
    refine ⟨b, by rw [updG_ne (by decide)]; exact b1, b2, Nat.lt_of_lt_of_le b3 (Below.size n1), ⟨z, ((bcell n1).1 _ _ b3).trans bz⟩, fun o => ((bcell n1).2 _ _ b3).trans (b4 o), fun h => ?_, fun _ => ?_⟩
    · rw [upS_ne (by decide), hno] at h; cases h
    · rw [updG_at]
      intro e
      have : w.heap.size = b := by simpa [Value.ownBlock] using e
      omega
theorem BEN.s13 (X : BEN) (ok : BENOk X) {Q : Exit → Act → World → Prop} : StepH (opsOf 0 Try.f73) BEN.acts BEN.av BEN.ext X.val0 X.Wd X.a0 Q 13 := by
  intro γ listed a w o hF hC hW h1 ho h2
  obtain ⟨hd, hop, hg⟩ := fields2 (x := some 4) (y := Op.alloc 60) (z := none) (by kernel_rfl) ho
  have hu := unl (hF.lt ho) h1
  have hno : upOf listed BEN.acts 2 = false := up_no hC hu rfl [13] (by kernel_rfl) (by decide)
  refine st_actH (k := 1) (ps := []) BEN.nodup rfl (by kernel_rfl) hF hC h1 ho h2 (Or.inr ⟨4, hd, rfl, fun _ => rfl⟩) hg ?_
  intro K hK
  have hr : (execOp a.eval o).run Try.prog w = .ok (.value (.pointer (some ⟨w.heap.size, 0, none⟩))) (w.alloc (.cells #[.slice none 0 0] 60)) := by
    unfold execOp
    rw [hop]
    simp [go_sem]
  unfold Oper.wp
  rw [hr]
  have n1 : Nw w (w.alloc (.cells #[.slice none 0 0] 60)) := (Below.refl _ _).alloc (Nat.le_refl _) _
  refine hK _ _ ⟨Nw.trans hW.nw n1, fun hs => ?_, fun _ => ?_⟩
  · rw [upS_ne (by decide)] at hs
    rw [updG_ne (by decide)]
    exact (hW.s0 hs).nw n1
  · refine ⟨w.heap.size, updG_at _ _ _, Below.size hW.nw, by simp, ⟨.slice none 0 0, by simp⟩, fun o => World.frozen?_alloc_at _ _ _ _ rfl, fun h => ?_, fun hs => ?_⟩
    · rw [upS_ne (by decide), hno] at h; cases h
    · rw [upS_ne (by decide)] at hs
      rw [updG_ne (by decide)]
      intro e
      have := (OwnQ.lt (hW.s0 hs) _ e).2
      omega
theorem BEN.s14 (X : BEN) (ok : BENOk X) {Q : Exit → Act → World → Prop} : StepH (opsOf 0 Try.f73) BEN.acts BEN.av BEN.ext X.val0 X.Wd X.a0 Q 14 := by
  intro γ listed a w o hF hC hW h1 ho h2
  obtain ⟨hd, hop, hg⟩ := fields2 (x := none) (y := Op.store 60 (.tmp 4) (.tmp 18)) (z := none) (by kernel_rfl) ho
  have e4 : a.eval (.tmp 4) = γ 1 := slotH hF ho h2 (j := 13) (d := 4) (by kernel_rfl) (by kernel_rfl) (by rw [ok.sz]; decide)
  have e18 : a.eval (.tmp 18) = γ 0 := slotH hF ho h2 (j := 12) (d := 18) (by kernel_rfl) (by kernel_rfl) (by rw [ok.sz]; decide)
  have hu := unl (hF.lt ho) h1
  have hs0 : upOf listed BEN.acts 0 = true := up_yes hC ho h2 (j := 12) rfl [12] (by kernel_rfl) (by decide)
  have hs1 : upOf listed BEN.acts 1 = true := up_yes hC ho h2 (j := 13) rfl [13] (by kernel_rfl) (by decide)
  refine st_actH (k := 2) (ps := []) BEN.nodup rfl (by kernel_rfl) hF hC h1 ho h2 (Or.inl hd) hg ?_
  intro K hK
  obtain ⟨b, b1, b2, b3, ⟨z, bz⟩, b4, b5, b6⟩ := hW.s1 hs1
  have ho0 := hW.s0 hs0
  obtain ⟨ga, gn, gc, g1⟩ := OwnQ.slice ho0
  rw [b1] at e4
  have hr : (execOp a.eval o).run Try.prog w = .ok .skip (w.setCell ⟨b, 0, none⟩ (γ 0)) := by
    rw [g1] at e18 ⊢
    generalize a.eval = ρ at e4 e18 ⊢
    unfold execOp
    rw [hop]
    simp [e4, e18, bz, b4, go_sem]
  unfold Oper.wp
  rw [hr]
  refine hK undef _ ⟨hW.nw.setCell b2 _, fun _ => ?_, fun _ => ?_⟩
  · rw [updG_ne (by decide)]
    exact OwnQ.far ho0 b 0 _ (b6 hs0)
  · refine ⟨b, by rw [updG_ne (by decide)]; exact b1, b2, by simpa [World.setCell] using b3, ⟨_, World.cell?_setCell_same w ⟨b, 0, none⟩ _ bz⟩, fun o => by rw [World.frozen?_setCell]; exact b4 o, fun _ => ?_, fun _ => ?_⟩
    · rw [updG_ne (by decide)]; exact World.cell?_setCell_same w ⟨b, 0, none⟩ _ bz
    · rw [updG_ne (by decide)]; exact b6 hs0
theorem BEN.size : (opsOf 0 Try.f73).size = 15 := by kernel_rfl
theorem BEN.steps (X : BEN) (ok : BENOk X) {Q : Exit → Act → World → Prop} (i : Nat) (hi : i < (opsOf 0 Try.f73).size) : StepH (opsOf 0 Try.f73) BEN.acts BEN.av BEN.ext X.val0 X.Wd X.a0 Q i := by
  rw [BEN.size] at hi
  have hc : i = 0 ∨ i = 1 ∨ i = 2 ∨ i = 3 ∨ i = 4 ∨ i = 5 ∨ i = 6 ∨ i = 7 ∨ i = 8 ∨ i = 9 ∨ i = 10 ∨ i = 11 ∨ i = 12 ∨ i = 13 ∨ i = 14 := by omega
  rcases hc with rfl | rfl | rfl | rfl | rfl | rfl | rfl | rfl | rfl | rfl | rfl | rfl | rfl | rfl | rfl
  · exact BEN.s0 X ok
  · exact BEN.s1 X ok
  · exact BEN.s2 X ok
  · exact BEN.s3 X ok
  · exact BEN.s4 X ok
  · exact BEN.s5 X ok
  · exact BEN.s6 X ok
  · exact BEN.s7 X ok
  · exact BEN.s8 X ok
  · exact BEN.s9 X ok
  · exact BEN.s10 X ok
  · exact BEN.s11 X ok
  · exact BEN.s12 X ok
  · exact BEN.s13 X ok
  · exact BEN.s14 X ok
theorem BEN.puts (X : BEN) (γ : Nat → Value) (a0 : Act) : putsL (valH BEN.av BEN.ext X.val0 γ) (opsOf 0 Try.f73).toList a0 = ((((((((((((((a0.put (some 6) (.pointer (some ⟨X.bx, 0, none⟩))).put (some 7) (.pointer (some ⟨X.bx, 0, none⟩))).put (some 8) (.pointer (some ⟨X.bx, 1, none⟩))).put (some 9) (.slice (some ⟨X.gu, 0, none⟩) X.n X.uc)).put (some 10) (.pointer (some ⟨X.bx, 0, none⟩))).put (some 11) (.pointer (some ⟨X.bx, 0, none⟩))).put (some 12) (.pointer (some ⟨X.bx, 1, none⟩))).put (some 13) (.slice (some ⟨X.gu, 0, none⟩) X.n X.uc)).put (some 14) (.int .i64 (X.n : Int))).put (some 15) (.int .i64 (X.m : Int))).put (some 16) (.pointer (some ⟨X.gu, X.m * 2, none⟩))).put (some 17) (.agg #[.int .i64 X.x, .int .i64 X.y])).put (some 18) (γ 0)).put (some 4) (γ 1)) := by kernel_rfl
/-- The region, whatever order comes up. -/
theorem BEN.run (X : BEN) (ok : BENOk X) {Q : Exit → Act → World → Prop} (w : World) (h0 : Nw X.W w.drew)
    (hend : ∀ (γ : Nat → Value) w' b, γ 1 = .pointer (some ⟨b, 0, none⟩) → X.W.heap.size ≤ b → Nw X.W w' → OwnP w' X.W.heap.size (γ 0) [(X.x, X.y)] → w'.cell? ⟨b, 0, none⟩ = some (γ 0) → (∀ o, w'.frozen? ⟨b, o, none⟩ = false) → (γ 0).ownBlock ≠ some b → Q .normal ((((((((((((((X.a0.put (some 6) (.pointer (some ⟨X.bx, 0, none⟩))).put (some 7) (.pointer (some ⟨X.bx, 0, none⟩))).put (some 8) (.pointer (some ⟨X.bx, 1, none⟩))).put (some 9) (.slice (some ⟨X.gu, 0, none⟩) X.n X.uc)).put (some 10) (.pointer (some ⟨X.bx, 0, none⟩))).put (some 11) (.pointer (some ⟨X.bx, 0, none⟩))).put (some 12) (.pointer (some ⟨X.bx, 1, none⟩))).put (some 13) (.slice (some ⟨X.gu, 0, none⟩) X.n X.uc)).put (some 14) (.int .i64 (X.n : Int))).put (some 15) (.int .i64 (X.m : Int))).put (some 16) (.pointer (some ⟨X.gu, X.m * 2, none⟩))).put (some 17) (.agg #[.int .i64 X.x, .int .i64 X.y])).put (some 18) (γ 0)).put (some 4) (γ 1)) w') : (Code.region 0 (opsOf 0 Try.f73) true).wp Try.prog Q X.a0 w := by
  refine reg_actH (acts := BEN.acts) (av := BEN.av) (ext := BEN.ext) (val0 := X.val0) (Wd := X.Wd) (by kernel_rfl) (by kernel_rfl) (by rw [BEN.size]; decide) (fun i hi => BEN.steps X ok i hi) (fun _ => undef) ⟨h0, fun h => (by cases h), fun h => (by cases h)⟩ ?_
  intro S γ w' hS h
  rw [BEN.puts]
  have hs := fun k (hk : k < 3) => hS k hk
  obtain ⟨b, b1, b2, b3, _, b4, b5, b6⟩ := h.s1 (hs 1 (by decide))
  exact hend γ w' b b1 b2 h.nw (h.s0 (hs 0 (by decide))) (b5 (hs 2 (by decide))) b4 (b6 (hs 0 (by decide)))
end Go.Proofs.Ytoajjdlgipphiaa
