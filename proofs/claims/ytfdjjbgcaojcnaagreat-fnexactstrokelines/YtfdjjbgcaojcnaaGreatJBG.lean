/-
  Regions that draw their order in which arguments are copied and a function is called with the copies: what is known of the memory, by which of the operations have come up; each theorem names its conditions.
  The statements of the law on StrokeLines that draw their order, whatever order comes up; each theorem names its conditions.
  The walk of the law on StrokeLines; its arguments' lengths are at most what memory holds.
  Points that came in, opened: what their reading says of the memory; each theorem names its conditions.
-/
import Derived.Test.YtfdjjbgcaojcnaaGreatJAH
import Derived.Test.YtfdjjbgcaojcnaaGreatJBE
import Derived.Test.YtfdjjbgcaojcnaaGreatJAW
import Derived.Test.YtfdjjbgcaojcnaaGreatJAI
import Derived.Test.YtfdjjbgcaojcnaaGreatJBF
import Derived.Test.YtfdjjbgcaojcnaaGreatJAB
import Derived.Deep.SlicePairs
import Derived.Lib.SmallJoins
import Derived.ShutString
import Derived.ChangeOld
namespace Go.Proofs.YtfdjjbgcaojcnaaGreat
open Go.ChangeShapes Go.WideShapes Go.ChangeAt Go.RowKit
set_option linter.unusedVariables false

/-- nc copies, of which the i-th says C i; an answer of two that says R. -/
structure LwX where
  nc : Nat
  W : World
  C : Nat → World → Value → Prop
  R : World → Value → Value → Prop
structure LwX.Wd (X : LwX) (S : Nat → Bool) (γ : Nat → Value) (w : World) : Prop where
  nw : Nw X.W w
  cp : ∀ i, i < X.nc → S i = true → S X.nc = false → X.C i w (γ i)
  ans : S X.nc = true → ∃ r b, γ X.nc = .tuple #[r, b] ∧ X.R w r b
theorem LwX.Wd.start (X : LwX) (γ : Nat → Value) (w : World) (h : Nw X.W w) : X.Wd (fun _ => false) γ w :=
  ⟨h, fun _ _ h _ => (by cases h), fun h => (by cases h)⟩
theorem LwX.Wd.copy {X : LwX} (cnw : ∀ i w w' u, X.C i w u → Nw w w' → X.C i w' u) {S : Nat → Bool} {γ : Nat → Value} {w w' : World} (h : X.Wd S γ w) (k : Nw w w') (hno : S X.nc = false) {i : Nat} (hi : i < X.nc) {u : Value} (hc : X.C i w' u) : X.Wd (upS S i) (updG γ i u) w' := by
  refine ⟨Nw.trans h.nw k, fun j hj hs hm => ?_, fun hs => ?_⟩
  · rw [upS_ne (by omega)] at hm
    by_cases e : j = i
    · subst e; rw [updG_at]; exact hc
    · rw [upS_ne e] at hs; rw [updG_ne e]; exact cnw j _ _ _ (h.cp j hj hs hm) k
  · rw [upS_ne (by omega), hno] at hs; cases hs
theorem LwX.Wd.main {X : LwX} {S : Nat → Bool} {γ : Nat → Value} {w w' : World} (h : X.Wd S γ w) (k : Nw w w') {r b : Value} (hr : X.R w' r b) : X.Wd (upS S X.nc) (updG γ X.nc (.tuple #[r, b])) w' :=
  ⟨Nw.trans h.nw k, fun i hi hs hm => (by rw [upS_at] at hm; cases hm), fun _ => ⟨r, b, by rw [updG_at], hr⟩⟩
end Go.Proofs.YtfdjjbgcaojcnaaGreat
namespace Go.Proofs.YtfdjjbgcaojcnaaGreat
open Go.ChangeShapes Go.WideShapes Go.ChangeAt Go.RowKit
set_option linter.unusedVariables false

structure SL8 where
  b3 : Nat
  la : Option Addr
  ln : Nat
  lc : Nat
  p : PD
  da : Option Addr
  dn : Nat
  dc : Nat
  C : Nat → World → Value → Prop
  R : World → Value → Value → Prop
  W : World
  a0 : Act
def SL8.rc (X : SL8) : LwX := ⟨2, X.W, X.C, X.R⟩
structure SL8Ok (X : SL8) : Prop where
  p0 : X.W.cell? ⟨X.b3, 0, none⟩ = some (.int .i64 X.p.w)
  p1 : X.W.cell? ⟨X.b3, 1, none⟩ = some (.int .i64 X.p.j)
  p2 : X.W.cell? ⟨X.b3, 2, none⟩ = some (.int .i64 X.p.c)
  p3 : X.W.cell? ⟨X.b3, 3, none⟩ = some (.slice X.da X.dn X.dc)
  p4 : X.W.cell? ⟨X.b3, 4, none⟩ = some (.int .i64 X.p.f)
  cnw : ∀ i w w' u, X.C i w u → Nw w w' → X.C i w' u
  cc0 : ∀ w, Nw X.W w → Calls Tryz.prog 14 #[.slice X.la X.ln X.lc] w fun e w' => ∃ u, e = .returned u ∧ X.C 0 w' u ∧ Nw w w'
  cc1 : ∀ w, Nw X.W w → Calls Tryz.prog 15 #[.agg #[.int .i64 X.p.w, .int .i64 X.p.j, .int .i64 X.p.c, .slice X.da X.dn X.dc, .int .i64 X.p.f]] w fun e w' => ∃ u, e = .returned u ∧ X.C 1 w' u ∧ Nw w w'
  mm : ∀ w u0 u1, Nw X.W w → X.C 0 w u0 → X.C 1 w u1 → Calls Tryz.prog 11 #[u0, u1] w fun e w' => ∃ r b, e = .returned (.tuple #[r, b]) ∧ X.R w' r b ∧ Nw w w'
  e0 : X.a0.eval (.tmp 0) = .slice X.la X.ln X.lc
  e3 : X.a0.eval (.tmp 3) = .pointer (some ⟨X.b3, 0, none⟩)
  sz : X.a0.tmps.size = 119
def SL8.val0 (X : SL8) : Nat → Value
  | 28 => .slice X.la X.ln X.lc
  | 30 => .agg #[.int .i64 X.p.w, .int .i64 X.p.j, .int .i64 X.p.c, .slice X.da X.dn X.dc, .int .i64 X.p.f]
  | _ => undef
def SL8.av : Nat → Option Nat
  | 6 => some 2
  | 7 => some 2
  | 27 => some 2
  | 29 => some 0
  | 31 => some 1
  | 32 => some 2
  | 33 => some 2
  | 34 => some 2
  | _ => none
def SL8.ext : Nat → Value → Value
  | 6 => fun u => tupAt u 0
  | 7 => fun u => tupAt u 1
  | 33 => fun u => tupAt u 0
  | 34 => fun u => tupAt u 1
  | _ => fun u => u
def SL8.acts : List Nat := [1, 3, 4]
theorem SL8.nodup : SL8.acts.Nodup := by decide
theorem SL8.s0 (X : SL8) (ok : SL8Ok X) {Q : Exit → Act → World → Prop} : StepH (opsOf 8 Tryz.f4) SL8.acts SL8.av SL8.ext X.val0 X.rc.Wd X.a0 Q 0 := by
  intro γ listed a w o hF hC hW h1 ho h2
  obtain ⟨hd, hop, hg⟩ := fields2 (x := some 28) (y := Op.move (.tmp 0)) (z := none) (by kernel_rfl) ho
  have e0 : a.eval (.tmp 0) = .slice X.la X.ln X.lc := (hF.eval0 (by kernel_rfl)).trans ok.e0
  refine st_pureH hF hC hW ho h2 (by decide) hd hg ?_
  show _ = Result.ok (Next.value (.slice X.la X.ln X.lc)) w
  generalize a.eval = ρ at e0 ⊢
  unfold execOp
  rw [hop]
  simp [e0, go_sem]
theorem SL8.s1 (X : SL8) (ok : SL8Ok X) {Q : Exit → Act → World → Prop} : StepH (opsOf 8 Tryz.f4) SL8.acts SL8.av SL8.ext X.val0 X.rc.Wd X.a0 Q 1 := by
  intro γ listed a w o hF hC hW h1 ho h2
  obtain ⟨hd, hop, hg⟩ := fields2 (x := some 29) (y := Op.call { callee := .value (.func 14), args := #[(.tmp 28)], argTypes := #[41] }) (z := none) (by kernel_rfl) ho
  have e28 : a.eval (.tmp 28) = .slice X.la X.ln X.lc := slotH hF ho h2 (j := 0) (d := 28) (by kernel_rfl) (by kernel_rfl) (by rw [ok.sz]; decide)
  have ef : a.eval (.func 14) = .func (.func 14) #[] #[] := rfl
  have hu := unl (hF.lt ho) h1
  have hno : upOf listed SL8.acts 2 = false := up_no hC hu rfl [1] (by kernel_rfl) (by decide)
  refine st_actH (k := 0) (ps := []) SL8.nodup rfl (by kernel_rfl) hF hC h1 ho h2 (Or.inr ⟨29, hd, rfl, fun _ => rfl⟩) hg ?_
  intro K hK
  have hr : (execOp a.eval o).run Tryz.prog w = .ok (.enter 14 #[.slice X.la X.ln X.lc]) w := by
    generalize a.eval = ρ at e28 ef ⊢
    unfold execOp
    rw [hop]
    simp [e28, ef, go_sem]
  unfold Oper.wp
  rw [hr]
  refine Calls.mono (ok.cc0 w hW.nw) ?_
  rintro e w' ⟨u, rfl, hc, k1⟩
  exact hK _ _ (LwX.Wd.copy ok.cnw hW k1 hno (by show 0 < 2; decide) hc)
theorem SL8.s2 (X : SL8) (ok : SL8Ok X) {Q : Exit → Act → World → Prop} : StepH (opsOf 8 Tryz.f4) SL8.acts SL8.av SL8.ext X.val0 X.rc.Wd X.a0 Q 2 := by
  intro γ listed a w o hF hC hW h1 ho h2
  obtain ⟨hd, hop, hg⟩ := fields2 (x := some 30) (y := Op.load 42 (.tmp 3)) (z := none) (by kernel_rfl) ho
  have e3 : a.eval (.tmp 3) = .pointer (some ⟨X.b3, 0, none⟩) := (hF.eval0 (by kernel_rfl)).trans ok.e3
  have hc0 := ((bcell hW.nw).1 _ _ (World.block_lt_of_cell? X.W ⟨_, _, none⟩ ok.p0)).trans ok.p0
  have hc1 := ((bcell hW.nw).1 _ _ (World.block_lt_of_cell? X.W ⟨_, _, none⟩ ok.p1)).trans ok.p1
  have hc2 := ((bcell hW.nw).1 _ _ (World.block_lt_of_cell? X.W ⟨_, _, none⟩ ok.p2)).trans ok.p2
  have hc3 := ((bcell hW.nw).1 _ _ (World.block_lt_of_cell? X.W ⟨_, _, none⟩ ok.p3)).trans ok.p3
  have hc4 := ((bcell hW.nw).1 _ _ (World.block_lt_of_cell? X.W ⟨_, _, none⟩ ok.p4)).trans ok.p4
  refine st_pureH hF hC hW ho h2 (by decide) hd hg ?_
  show _ = Result.ok (Next.value (.agg #[.int .i64 X.p.w, .int .i64 X.p.j, .int .i64 X.p.c, .slice X.da X.dn X.dc, .int .i64 X.p.f])) w
  generalize a.eval = ρ at e3 ⊢
  unfold execOp
  rw [hop]
  simp [e3, hc0, hc1, hc2, hc3, hc4, go_sem]
theorem SL8.s3 (X : SL8) (ok : SL8Ok X) {Q : Exit → Act → World → Prop} : StepH (opsOf 8 Tryz.f4) SL8.acts SL8.av SL8.ext X.val0 X.rc.Wd X.a0 Q 3 := by
  intro γ listed a w o hF hC hW h1 ho h2
  obtain ⟨hd, hop, hg⟩ := fields2 (x := some 31) (y := Op.call { callee := .value (.func 15), args := #[(.tmp 30)], argTypes := #[42] }) (z := none) (by kernel_rfl) ho
  have e30 : a.eval (.tmp 30) = .agg #[.int .i64 X.p.w, .int .i64 X.p.j, .int .i64 X.p.c, .slice X.da X.dn X.dc, .int .i64 X.p.f] := slotH hF ho h2 (j := 2) (d := 30) (by kernel_rfl) (by kernel_rfl) (by rw [ok.sz]; decide)
  have ef : a.eval (.func 15) = .func (.func 15) #[] #[] := rfl
  have hu := unl (hF.lt ho) h1
  have hno : upOf listed SL8.acts 2 = false := up_no hC hu rfl [3] (by kernel_rfl) (by decide)
  refine st_actH (k := 1) (ps := []) SL8.nodup rfl (by kernel_rfl) hF hC h1 ho h2 (Or.inr ⟨31, hd, rfl, fun _ => rfl⟩) hg ?_
  intro K hK
  have hr : (execOp a.eval o).run Tryz.prog w = .ok (.enter 15 #[.agg #[.int .i64 X.p.w, .int .i64 X.p.j, .int .i64 X.p.c, .slice X.da X.dn X.dc, .int .i64 X.p.f]]) w := by
    generalize a.eval = ρ at e30 ef ⊢
    unfold execOp
    rw [hop]
    simp [e30, ef, go_sem]
  unfold Oper.wp
  rw [hr]
  refine Calls.mono (ok.cc1 w hW.nw) ?_
  rintro e w' ⟨u, rfl, hc, k1⟩
  exact hK _ _ (LwX.Wd.copy ok.cnw hW k1 hno (by show 1 < 2; decide) hc)
theorem SL8.s4 (X : SL8) (ok : SL8Ok X) {Q : Exit → Act → World → Prop} : StepH (opsOf 8 Tryz.f4) SL8.acts SL8.av SL8.ext X.val0 X.rc.Wd X.a0 Q 4 := by
  intro γ listed a w o hF hC hW h1 ho h2
  obtain ⟨hd, hop, hg⟩ := fields2 (x := some 32) (y := Op.call { callee := .value (.func 11), args := #[(.tmp 29), (.tmp 31)], argTypes := #[29, 36] }) (z := none) (by kernel_rfl) ho
  have e29 : a.eval (.tmp 29) = γ 0 := slotH hF ho h2 (j := 1) (d := 29) (by kernel_rfl) (by kernel_rfl) (by rw [ok.sz]; decide)
  have e31 : a.eval (.tmp 31) = γ 1 := slotH hF ho h2 (j := 3) (d := 31) (by kernel_rfl) (by kernel_rfl) (by rw [ok.sz]; decide)
  have ef : a.eval (.func 11) = .func (.func 11) #[] #[] := rfl
  have hu := unl (hF.lt ho) h1
  have hy0 : upOf listed SL8.acts 0 = true := up_yes hC ho h2 (j := 1) rfl [1] (by kernel_rfl) (by decide)
  have hy1 : upOf listed SL8.acts 1 = true := up_yes hC ho h2 (j := 3) rfl [3] (by kernel_rfl) (by decide)
  have hself : upOf listed SL8.acts 2 = false := up_self rfl hu
  refine st_actH (k := 2) (ps := [[5, 4], [6, 5, 4], [7, 5, 4], [8, 6, 5, 4], [9, 7, 5, 4]]) SL8.nodup rfl (by kernel_rfl) hF hC h1 ho h2 (Or.inr ⟨32, hd, rfl, fun _ => rfl⟩) hg ?_
  intro K hK
  have hr : (execOp a.eval o).run Tryz.prog w = .ok (.enter 11 #[γ 0, γ 1]) w := by
    generalize a.eval = ρ at e29 e31 ef ⊢
    unfold execOp
    rw [hop]
    simp [e29, e31, ef, go_sem]
  unfold Oper.wp
  rw [hr]
  refine Calls.mono (ok.mm w (γ 0) (γ 1) hW.nw (hW.cp 0 (by show 0 < 2; decide) hy0 hself) (hW.cp 1 (by show 1 < 2; decide) hy1 hself)) ?_
  rintro e w' ⟨r, b, rfl, hR, k1⟩
  exact hK _ _ (LwX.Wd.main hW k1 hR)
theorem SL8.s5 (X : SL8) (ok : SL8Ok X) {Q : Exit → Act → World → Prop} : StepH (opsOf 8 Tryz.f4) SL8.acts SL8.av SL8.ext X.val0 X.rc.Wd X.a0 Q 5 := by
  intro γ listed a w o hF hC hW h1 ho h2
  obtain ⟨hd, hop, hg⟩ := fields2 (x := some 27) (y := Op.move (.tmp 32)) (z := none) (by kernel_rfl) ho
  have e32 : a.eval (.tmp 32) = γ 2 := slotH hF ho h2 (j := 4) (d := 32) (by kernel_rfl) (by kernel_rfl) (by rw [ok.sz]; decide)
  refine st_pureH hF hC hW ho h2 (by decide) hd hg ?_
  show _ = Result.ok (Next.value (γ 2)) w
  generalize a.eval = ρ at e32 ⊢
  unfold execOp
  rw [hop]
  simp [e32, go_sem]
theorem SL8.s6 (X : SL8) (ok : SL8Ok X) {Q : Exit → Act → World → Prop} : StepH (opsOf 8 Tryz.f4) SL8.acts SL8.av SL8.ext X.val0 X.rc.Wd X.a0 Q 6 := by
  intro γ listed a w o hF hC hW h1 ho h2
  obtain ⟨hd, hop, hg⟩ := fields2 (x := some 33) (y := Op.extract (.tmp 27) 0) (z := none) (by kernel_rfl) ho
  have e27 : a.eval (.tmp 27) = γ 2 := slotH hF ho h2 (j := 5) (d := 27) (by kernel_rfl) (by kernel_rfl) (by rw [ok.sz]; decide)
  have hy : upOf listed SL8.acts 2 = true := up_yes hC ho h2 (j := 4) rfl [5, 4] (by kernel_rfl) (by decide)
  obtain ⟨r, b, g1, _⟩ := hW.ans hy
  replace g1 : γ 2 = .tuple #[r, b] := g1
  rw [g1] at e27
  refine st_pureH hF hC hW ho h2 (by decide) hd hg ?_
  show _ = Result.ok (Next.value (tupAt (γ 2) 0)) w
  rw [g1]
  generalize a.eval = ρ at e27 ⊢
  unfold execOp
  rw [hop]
  simp [e27, tupAt, go_sem]
theorem SL8.s7 (X : SL8) (ok : SL8Ok X) {Q : Exit → Act → World → Prop} : StepH (opsOf 8 Tryz.f4) SL8.acts SL8.av SL8.ext X.val0 X.rc.Wd X.a0 Q 7 := by
  intro γ listed a w o hF hC hW h1 ho h2
  obtain ⟨hd, hop, hg⟩ := fields2 (x := some 34) (y := Op.extract (.tmp 27) 1) (z := none) (by kernel_rfl) ho
  have e27 : a.eval (.tmp 27) = γ 2 := slotH hF ho h2 (j := 5) (d := 27) (by kernel_rfl) (by kernel_rfl) (by rw [ok.sz]; decide)
  have hy : upOf listed SL8.acts 2 = true := up_yes hC ho h2 (j := 4) rfl [5, 4] (by kernel_rfl) (by decide)
  obtain ⟨r, b, g1, _⟩ := hW.ans hy
  replace g1 : γ 2 = .tuple #[r, b] := g1
  rw [g1] at e27
  refine st_pureH hF hC hW ho h2 (by decide) hd hg ?_
  show _ = Result.ok (Next.value (tupAt (γ 2) 1)) w
  rw [g1]
  generalize a.eval = ρ at e27 ⊢
  unfold execOp
  rw [hop]
  simp [e27, tupAt, go_sem]
theorem SL8.s8 (X : SL8) (ok : SL8Ok X) {Q : Exit → Act → World → Prop} : StepH (opsOf 8 Tryz.f4) SL8.acts SL8.av SL8.ext X.val0 X.rc.Wd X.a0 Q 8 := by
  intro γ listed a w o hF hC hW h1 ho h2
  obtain ⟨hd, hop, hg⟩ := fields2 (x := some 6) (y := Op.assign (.tmp 33)) (z := none) (by kernel_rfl) ho
  have e33 : a.eval (.tmp 33) = tupAt (γ 2) 0 := slotH hF ho h2 (j := 6) (d := 33) (by kernel_rfl) (by kernel_rfl) (by rw [ok.sz]; decide)
  refine st_pureH hF hC hW ho h2 (by decide) hd hg ?_
  show _ = Result.ok (Next.value (tupAt (γ 2) 0)) w
  generalize a.eval = ρ at e33 ⊢
  unfold execOp
  rw [hop]
  simp [e33, go_sem]
theorem SL8.s9 (X : SL8) (ok : SL8Ok X) {Q : Exit → Act → World → Prop} : StepH (opsOf 8 Tryz.f4) SL8.acts SL8.av SL8.ext X.val0 X.rc.Wd X.a0 Q 9 := by
  intro γ listed a w o hF hC hW h1 ho h2
  obtain ⟨hd, hop, hg⟩ := fields2 (x := some 7) (y := Op.assign (.tmp 34)) (z := none) (by kernel_rfl) ho
  have e34 : a.eval (.tmp 34) = tupAt (γ 2) 1 := slotH hF ho h2 (j := 7) (d := 34) (by kernel_rfl) (by kernel_rfl) (by rw [ok.sz]; decide)
  refine st_pureH hF hC hW ho h2 (by decide) hd hg ?_
  show _ = Result.ok (Next.value (tupAt (γ 2) 1)) w
  generalize a.eval = ρ at e34 ⊢
  unfold execOp
  rw [hop]
  simp [e34, go_sem]
theorem SL8.size : (opsOf 8 Tryz.f4).size = 10 := by kernel_rfl
theorem SL8.steps (X : SL8) (ok : SL8Ok X) {Q : Exit → Act → World → Prop} (i : Nat) (hi : i < (opsOf 8 Tryz.f4).size) : StepH (opsOf 8 Tryz.f4) SL8.acts SL8.av SL8.ext X.val0 X.rc.Wd X.a0 Q i := by
  rw [SL8.size] at hi
  have hc : i = 0 ∨ i = 1 ∨ i = 2 ∨ i = 3 ∨ i = 4 ∨ i = 5 ∨ i = 6 ∨ i = 7 ∨ i = 8 ∨ i = 9 := by omega
  rcases hc with rfl | rfl | rfl | rfl | rfl | rfl | rfl | rfl | rfl | rfl
  · exact SL8.s0 X ok
  · exact SL8.s1 X ok
  · exact SL8.s2 X ok
  · exact SL8.s3 X ok
  · exact SL8.s4 X ok
  · exact SL8.s5 X ok
  · exact SL8.s6 X ok
  · exact SL8.s7 X ok
  · exact SL8.s8 X ok
  · exact SL8.s9 X ok
theorem SL8.puts (X : SL8) (γ : Nat → Value) (a0 : Act) : putsL (valH SL8.av SL8.ext X.val0 γ) (opsOf 8 Tryz.f4).toList a0 = ((((((((((a0.put (some 28) (.slice X.la X.ln X.lc)).put (some 29) (γ 0)).put (some 30) (.agg #[.int .i64 X.p.w, .int .i64 X.p.j, .int .i64 X.p.c, .slice X.da X.dn X.dc, .int .i64 X.p.f])).put (some 31) (γ 1)).put (some 32) (γ 2)).put (some 27) (γ 2)).put (some 33) (tupAt (γ 2) 0)).put (some 34) (tupAt (γ 2) 1)).put (some 6) (tupAt (γ 2) 0)).put (some 7) (tupAt (γ 2) 1)) := by kernel_rfl
/-- The region, whatever order comes up. -/
theorem SL8.run (X : SL8) (ok : SL8Ok X) {Q : Exit → Act → World → Prop} (w : World) (h0 : Nw X.W w.drew)
    (hend : ∀ (γ : Nat → Value) w' r b, Nw X.W w' → X.R w' r b → Q .normal ((((((((((X.a0.put (some 28) (.slice X.la X.ln X.lc)).put (some 29) (γ 0)).put (some 30) (.agg #[.int .i64 X.p.w, .int .i64 X.p.j, .int .i64 X.p.c, .slice X.da X.dn X.dc, .int .i64 X.p.f])).put (some 31) (γ 1)).put (some 32) (.tuple #[r, b])).put (some 27) (.tuple #[r, b])).put (some 33) (r)).put (some 34) (b)).put (some 6) (r)).put (some 7) (b)) w') : (Code.region 8 (opsOf 8 Tryz.f4) true).wp Tryz.prog Q X.a0 w := by
  refine reg_actH (acts := SL8.acts) (av := SL8.av) (ext := SL8.ext) (val0 := X.val0) (Wd := X.rc.Wd) (by kernel_rfl) (by kernel_rfl) (by rw [SL8.size]; decide) (fun i hi => SL8.steps X ok i hi) (fun _ => undef) (LwX.Wd.start X.rc _ _ h0) ?_
  intro S γ w' hS h
  rw [SL8.puts]
  obtain ⟨r, b, g1, hr⟩ := h.ans (hS 2 (by decide))
  replace g1 : γ 2 = .tuple #[r, b] := g1
  have g2 : tupAt (γ 2) 0 = r := by rw [g1]; rfl
  have g3 : tupAt (γ 2) 1 = b := by rw [g1]; rfl
  rw [g2, g3, g1]
  exact hend γ w' r b h.nw hr
structure SL31 where
  b3 : Nat
  la : Option Addr
  ln : Nat
  lc : Nat
  p : PD
  da : Option Addr
  dn : Nat
  dc : Nat
  C : Nat → World → Value → Prop
  R : World → Value → Value → Prop
  W : World
  a0 : Act
def SL31.rc (X : SL31) : LwX := ⟨2, X.W, X.C, X.R⟩
structure SL31Ok (X : SL31) : Prop where
  p0 : X.W.cell? ⟨X.b3, 0, none⟩ = some (.int .i64 X.p.w)
  p1 : X.W.cell? ⟨X.b3, 1, none⟩ = some (.int .i64 X.p.j)
  p2 : X.W.cell? ⟨X.b3, 2, none⟩ = some (.int .i64 X.p.c)
  p3 : X.W.cell? ⟨X.b3, 3, none⟩ = some (.slice X.da X.dn X.dc)
  p4 : X.W.cell? ⟨X.b3, 4, none⟩ = some (.int .i64 X.p.f)
  cnw : ∀ i w w' u, X.C i w u → Nw w w' → X.C i w' u
  cc0 : ∀ w, Nw X.W w → Calls Tryz.prog 14 #[.slice X.la X.ln X.lc] w fun e w' => ∃ u, e = .returned u ∧ X.C 0 w' u ∧ Nw w w'
  cc1 : ∀ w, Nw X.W w → Calls Tryz.prog 15 #[.agg #[.int .i64 X.p.w, .int .i64 X.p.j, .int .i64 X.p.c, .slice X.da X.dn X.dc, .int .i64 X.p.f]] w fun e w' => ∃ u, e = .returned u ∧ X.C 1 w' u ∧ Nw w w'
  mm : ∀ w u0 u1, Nw X.W w → X.C 0 w u0 → X.C 1 w u1 → Calls Tryz.prog 10 #[u0, u1] w fun e w' => ∃ r b, e = .returned (.tuple #[r, b]) ∧ X.R w' r b ∧ Nw w w'
  e0 : X.a0.eval (.tmp 0) = .slice X.la X.ln X.lc
  e3 : X.a0.eval (.tmp 3) = .pointer (some ⟨X.b3, 0, none⟩)
  sz : X.a0.tmps.size = 119
def SL31.val0 (X : SL31) : Nat → Value
  | 95 => .slice X.la X.ln X.lc
  | 97 => .agg #[.int .i64 X.p.w, .int .i64 X.p.j, .int .i64 X.p.c, .slice X.da X.dn X.dc, .int .i64 X.p.f]
  | _ => undef
def SL31.av : Nat → Option Nat
  | 15 => some 2
  | 16 => some 2
  | 94 => some 2
  | 96 => some 0
  | 98 => some 1
  | 99 => some 2
  | 100 => some 2
  | 101 => some 2
  | _ => none
def SL31.ext : Nat → Value → Value
  | 15 => fun u => tupAt u 0
  | 16 => fun u => tupAt u 1
  | 100 => fun u => tupAt u 0
  | 101 => fun u => tupAt u 1
  | _ => fun u => u
def SL31.acts : List Nat := [1, 3, 4]
theorem SL31.nodup : SL31.acts.Nodup := by decide
theorem SL31.s0 (X : SL31) (ok : SL31Ok X) {Q : Exit → Act → World → Prop} : StepH (opsOf 31 Tryz.f4) SL31.acts SL31.av SL31.ext X.val0 X.rc.Wd X.a0 Q 0 := by
  intro γ listed a w o hF hC hW h1 ho h2
  obtain ⟨hd, hop, hg⟩ := fields2 (x := some 95) (y := Op.move (.tmp 0)) (z := none) (by kernel_rfl) ho
  have e0 : a.eval (.tmp 0) = .slice X.la X.ln X.lc := (hF.eval0 (by kernel_rfl)).trans ok.e0
  refine st_pureH hF hC hW ho h2 (by decide) hd hg ?_
  show _ = Result.ok (Next.value (.slice X.la X.ln X.lc)) w
  generalize a.eval = ρ at e0 ⊢
  unfold execOp
  rw [hop]
  simp [e0, go_sem]
theorem SL31.s1 (X : SL31) (ok : SL31Ok X) {Q : Exit → Act → World → Prop} : StepH (opsOf 31 Tryz.f4) SL31.acts SL31.av SL31.ext X.val0 X.rc.Wd X.a0 Q 1 := by
  intro γ listed a w o hF hC hW h1 ho h2
  obtain ⟨hd, hop, hg⟩ := fields2 (x := some 96) (y := Op.call { callee := .value (.func 14), args := #[(.tmp 95)], argTypes := #[41] }) (z := none) (by kernel_rfl) ho
  have e95 : a.eval (.tmp 95) = .slice X.la X.ln X.lc := slotH hF ho h2 (j := 0) (d := 95) (by kernel_rfl) (by kernel_rfl) (by rw [ok.sz]; decide)
  have ef : a.eval (.func 14) = .func (.func 14) #[] #[] := rfl
  have hu := unl (hF.lt ho) h1
  have hno : upOf listed SL31.acts 2 = false := up_no hC hu rfl [1] (by kernel_rfl) (by decide)
  refine st_actH (k := 0) (ps := []) SL31.nodup rfl (by kernel_rfl) hF hC h1 ho h2 (Or.inr ⟨96, hd, rfl, fun _ => rfl⟩) hg ?_
  intro K hK
  have hr : (execOp a.eval o).run Tryz.prog w = .ok (.enter 14 #[.slice X.la X.ln X.lc]) w := by
    generalize a.eval = ρ at e95 ef ⊢
    unfold execOp
    rw [hop]
    simp [e95, ef, go_sem]
  unfold Oper.wp
  rw [hr]
  refine Calls.mono (ok.cc0 w hW.nw) ?_
  rintro e w' ⟨u, rfl, hc, k1⟩
  exact hK _ _ (LwX.Wd.copy ok.cnw hW k1 hno (by show 0 < 2; decide) hc)
theorem SL31.s2 (X : SL31) (ok : SL31Ok X) {Q : Exit → Act → World → Prop} : StepH (opsOf 31 Tryz.f4) SL31.acts SL31.av SL31.ext X.val0 X.rc.Wd X.a0 Q 2 := by
  intro γ listed a w o hF hC hW h1 ho h2
  obtain ⟨hd, hop, hg⟩ := fields2 (x := some 97) (y := Op.load 42 (.tmp 3)) (z := none) (by kernel_rfl) ho
  have e3 : a.eval (.tmp 3) = .pointer (some ⟨X.b3, 0, none⟩) := (hF.eval0 (by kernel_rfl)).trans ok.e3
  have hc0 := ((bcell hW.nw).1 _ _ (World.block_lt_of_cell? X.W ⟨_, _, none⟩ ok.p0)).trans ok.p0
  have hc1 := ((bcell hW.nw).1 _ _ (World.block_lt_of_cell? X.W ⟨_, _, none⟩ ok.p1)).trans ok.p1
  have hc2 := ((bcell hW.nw).1 _ _ (World.block_lt_of_cell? X.W ⟨_, _, none⟩ ok.p2)).trans ok.p2
  have hc3 := ((bcell hW.nw).1 _ _ (World.block_lt_of_cell? X.W ⟨_, _, none⟩ ok.p3)).trans ok.p3
  have hc4 := ((bcell hW.nw).1 _ _ (World.block_lt_of_cell? X.W ⟨_, _, none⟩ ok.p4)).trans ok.p4
  refine st_pureH hF hC hW ho h2 (by decide) hd hg ?_
  show _ = Result.ok (Next.value (.agg #[.int .i64 X.p.w, .int .i64 X.p.j, .int .i64 X.p.c, .slice X.da X.dn X.dc, .int .i64 X.p.f])) w
  generalize a.eval = ρ at e3 ⊢
  unfold execOp
  rw [hop]
  simp [e3, hc0, hc1, hc2, hc3, hc4, go_sem]
theorem SL31.s3 (X : SL31) (ok : SL31Ok X) {Q : Exit → Act → World → Prop} : StepH (opsOf 31 Tryz.f4) SL31.acts SL31.av SL31.ext X.val0 X.rc.Wd X.a0 Q 3 := by
  intro γ listed a w o hF hC hW h1 ho h2
  obtain ⟨hd, hop, hg⟩ := fields2 (x := some 98) (y := Op.call { callee := .value (.func 15), args := #[(.tmp 97)], argTypes := #[42] }) (z := none) (by kernel_rfl) ho
  have e97 : a.eval (.tmp 97) = .agg #[.int .i64 X.p.w, .int .i64 X.p.j, .int .i64 X.p.c, .slice X.da X.dn X.dc, .int .i64 X.p.f] := slotH hF ho h2 (j := 2) (d := 97) (by kernel_rfl) (by kernel_rfl) (by rw [ok.sz]; decide)
  have ef : a.eval (.func 15) = .func (.func 15) #[] #[] := rfl
  have hu := unl (hF.lt ho) h1
  have hno : upOf listed SL31.acts 2 = false := up_no hC hu rfl [3] (by kernel_rfl) (by decide)
  refine st_actH (k := 1) (ps := []) SL31.nodup rfl (by kernel_rfl) hF hC h1 ho h2 (Or.inr ⟨98, hd, rfl, fun _ => rfl⟩) hg ?_
  intro K hK
  have hr : (execOp a.eval o).run Tryz.prog w = .ok (.enter 15 #[.agg #[.int .i64 X.p.w, .int .i64 X.p.j, .int .i64 X.p.c, .slice X.da X.dn X.dc, .int .i64 X.p.f]]) w := by
    generalize a.eval = ρ at e97 ef ⊢
    unfold execOp
    rw [hop]
    simp [e97, ef, go_sem]
  unfold Oper.wp
  rw [hr]
  refine Calls.mono (ok.cc1 w hW.nw) ?_
  rintro e w' ⟨u, rfl, hc, k1⟩
  exact hK _ _ (LwX.Wd.copy ok.cnw hW k1 hno (by show 1 < 2; decide) hc)
theorem SL31.s4 (X : SL31) (ok : SL31Ok X) {Q : Exit → Act → World → Prop} : StepH (opsOf 31 Tryz.f4) SL31.acts SL31.av SL31.ext X.val0 X.rc.Wd X.a0 Q 4 := by
  intro γ listed a w o hF hC hW h1 ho h2
  obtain ⟨hd, hop, hg⟩ := fields2 (x := some 99) (y := Op.call { callee := .value (.func 10), args := #[(.tmp 96), (.tmp 98)], argTypes := #[29, 36] }) (z := none) (by kernel_rfl) ho
  have e96 : a.eval (.tmp 96) = γ 0 := slotH hF ho h2 (j := 1) (d := 96) (by kernel_rfl) (by kernel_rfl) (by rw [ok.sz]; decide)
  have e98 : a.eval (.tmp 98) = γ 1 := slotH hF ho h2 (j := 3) (d := 98) (by kernel_rfl) (by kernel_rfl) (by rw [ok.sz]; decide)
  have ef : a.eval (.func 10) = .func (.func 10) #[] #[] := rfl
  have hu := unl (hF.lt ho) h1
  have hy0 : upOf listed SL31.acts 0 = true := up_yes hC ho h2 (j := 1) rfl [1] (by kernel_rfl) (by decide)
  have hy1 : upOf listed SL31.acts 1 = true := up_yes hC ho h2 (j := 3) rfl [3] (by kernel_rfl) (by decide)
  have hself : upOf listed SL31.acts 2 = false := up_self rfl hu
  refine st_actH (k := 2) (ps := [[5, 4], [6, 5, 4], [7, 5, 4], [8, 6, 5, 4], [9, 7, 5, 4]]) SL31.nodup rfl (by kernel_rfl) hF hC h1 ho h2 (Or.inr ⟨99, hd, rfl, fun _ => rfl⟩) hg ?_
  intro K hK
  have hr : (execOp a.eval o).run Tryz.prog w = .ok (.enter 10 #[γ 0, γ 1]) w := by
    generalize a.eval = ρ at e96 e98 ef ⊢
    unfold execOp
    rw [hop]
    simp [e96, e98, ef, go_sem]
  unfold Oper.wp
  rw [hr]
  refine Calls.mono (ok.mm w (γ 0) (γ 1) hW.nw (hW.cp 0 (by show 0 < 2; decide) hy0 hself) (hW.cp 1 (by show 1 < 2; decide) hy1 hself)) ?_
  rintro e w' ⟨r, b, rfl, hR, k1⟩
  exact hK _ _ (LwX.Wd.main hW k1 hR)
theorem SL31.s5 (X : SL31) (ok : SL31Ok X) {Q : Exit → Act → World → Prop} : StepH (opsOf 31 Tryz.f4) SL31.acts SL31.av SL31.ext X.val0 X.rc.Wd X.a0 Q 5 := by
  intro γ listed a w o hF hC hW h1 ho h2
  obtain ⟨hd, hop, hg⟩ := fields2 (x := some 94) (y := Op.move (.tmp 99)) (z := none) (by kernel_rfl) ho
  have e99 : a.eval (.tmp 99) = γ 2 := slotH hF ho h2 (j := 4) (d := 99) (by kernel_rfl) (by kernel_rfl) (by rw [ok.sz]; decide)
  refine st_pureH hF hC hW ho h2 (by decide) hd hg ?_
  show _ = Result.ok (Next.value (γ 2)) w
  generalize a.eval = ρ at e99 ⊢
  unfold execOp
  rw [hop]
  simp [e99, go_sem]
theorem SL31.s6 (X : SL31) (ok : SL31Ok X) {Q : Exit → Act → World → Prop} : StepH (opsOf 31 Tryz.f4) SL31.acts SL31.av SL31.ext X.val0 X.rc.Wd X.a0 Q 6 := by
  intro γ listed a w o hF hC hW h1 ho h2
  obtain ⟨hd, hop, hg⟩ := fields2 (x := some 100) (y := Op.extract (.tmp 94) 0) (z := none) (by kernel_rfl) ho
  have e94 : a.eval (.tmp 94) = γ 2 := slotH hF ho h2 (j := 5) (d := 94) (by kernel_rfl) (by kernel_rfl) (by rw [ok.sz]; decide)
  have hy : upOf listed SL31.acts 2 = true := up_yes hC ho h2 (j := 4) rfl [5, 4] (by kernel_rfl) (by decide)
  obtain ⟨r, b, g1, _⟩ := hW.ans hy
  replace g1 : γ 2 = .tuple #[r, b] := g1
  rw [g1] at e94
  refine st_pureH hF hC hW ho h2 (by decide) hd hg ?_
  show _ = Result.ok (Next.value (tupAt (γ 2) 0)) w
  rw [g1]
  generalize a.eval = ρ at e94 ⊢
  unfold execOp
  rw [hop]
  simp [e94, tupAt, go_sem]
theorem SL31.s7 (X : SL31) (ok : SL31Ok X) {Q : Exit → Act → World → Prop} : StepH (opsOf 31 Tryz.f4) SL31.acts SL31.av SL31.ext X.val0 X.rc.Wd X.a0 Q 7 := by
  intro γ listed a w o hF hC hW h1 ho h2
  obtain ⟨hd, hop, hg⟩ := fields2 (x := some 101) (y := Op.extract (.tmp 94) 1) (z := none) (by kernel_rfl) ho
  have e94 : a.eval (.tmp 94) = γ 2 := slotH hF ho h2 (j := 5) (d := 94) (by kernel_rfl) (by kernel_rfl) (by rw [ok.sz]; decide)
  have hy : upOf listed SL31.acts 2 = true := up_yes hC ho h2 (j := 4) rfl [5, 4] (by kernel_rfl) (by decide)
  obtain ⟨r, b, g1, _⟩ := hW.ans hy
  replace g1 : γ 2 = .tuple #[r, b] := g1
  rw [g1] at e94
  refine st_pureH hF hC hW ho h2 (by decide) hd hg ?_
  show _ = Result.ok (Next.value (tupAt (γ 2) 1)) w
  rw [g1]
  generalize a.eval = ρ at e94 ⊢
  unfold execOp
  rw [hop]
  simp [e94, tupAt, go_sem]
theorem SL31.s8 (X : SL31) (ok : SL31Ok X) {Q : Exit → Act → World → Prop} : StepH (opsOf 31 Tryz.f4) SL31.acts SL31.av SL31.ext X.val0 X.rc.Wd X.a0 Q 8 := by
  intro γ listed a w o hF hC hW h1 ho h2
  obtain ⟨hd, hop, hg⟩ := fields2 (x := some 15) (y := Op.assign (.tmp 100)) (z := none) (by kernel_rfl) ho
  have e100 : a.eval (.tmp 100) = tupAt (γ 2) 0 := slotH hF ho h2 (j := 6) (d := 100) (by kernel_rfl) (by kernel_rfl) (by rw [ok.sz]; decide)
  refine st_pureH hF hC hW ho h2 (by decide) hd hg ?_
  show _ = Result.ok (Next.value (tupAt (γ 2) 0)) w
  generalize a.eval = ρ at e100 ⊢
  unfold execOp
  rw [hop]
  simp [e100, go_sem]
theorem SL31.s9 (X : SL31) (ok : SL31Ok X) {Q : Exit → Act → World → Prop} : StepH (opsOf 31 Tryz.f4) SL31.acts SL31.av SL31.ext X.val0 X.rc.Wd X.a0 Q 9 := by
  intro γ listed a w o hF hC hW h1 ho h2
  obtain ⟨hd, hop, hg⟩ := fields2 (x := some 16) (y := Op.assign (.tmp 101)) (z := none) (by kernel_rfl) ho
  have e101 : a.eval (.tmp 101) = tupAt (γ 2) 1 := slotH hF ho h2 (j := 7) (d := 101) (by kernel_rfl) (by kernel_rfl) (by rw [ok.sz]; decide)
  refine st_pureH hF hC hW ho h2 (by decide) hd hg ?_
  show _ = Result.ok (Next.value (tupAt (γ 2) 1)) w
  generalize a.eval = ρ at e101 ⊢
  unfold execOp
  rw [hop]
  simp [e101, go_sem]
theorem SL31.size : (opsOf 31 Tryz.f4).size = 10 := by kernel_rfl
theorem SL31.steps (X : SL31) (ok : SL31Ok X) {Q : Exit → Act → World → Prop} (i : Nat) (hi : i < (opsOf 31 Tryz.f4).size) : StepH (opsOf 31 Tryz.f4) SL31.acts SL31.av SL31.ext X.val0 X.rc.Wd X.a0 Q i := by
  rw [SL31.size] at hi
  have hc : i = 0 ∨ i = 1 ∨ i = 2 ∨ i = 3 ∨ i = 4 ∨ i = 5 ∨ i = 6 ∨ i = 7 ∨ i = 8 ∨ i = 9 := by omega
  rcases hc with rfl | rfl | rfl | rfl | rfl | rfl | rfl | rfl | rfl | rfl
  · exact SL31.s0 X ok
  · exact SL31.s1 X ok
  · exact SL31.s2 X ok
  · exact SL31.s3 X ok
  · exact SL31.s4 X ok
  · exact SL31.s5 X ok
  · exact SL31.s6 X ok
  · exact SL31.s7 X ok
  · exact SL31.s8 X ok
  · exact SL31.s9 X ok
theorem SL31.puts (X : SL31) (γ : Nat → Value) (a0 : Act) : putsL (valH SL31.av SL31.ext X.val0 γ) (opsOf 31 Tryz.f4).toList a0 = ((((((((((a0.put (some 95) (.slice X.la X.ln X.lc)).put (some 96) (γ 0)).put (some 97) (.agg #[.int .i64 X.p.w, .int .i64 X.p.j, .int .i64 X.p.c, .slice X.da X.dn X.dc, .int .i64 X.p.f])).put (some 98) (γ 1)).put (some 99) (γ 2)).put (some 94) (γ 2)).put (some 100) (tupAt (γ 2) 0)).put (some 101) (tupAt (γ 2) 1)).put (some 15) (tupAt (γ 2) 0)).put (some 16) (tupAt (γ 2) 1)) := by kernel_rfl
/-- The region, whatever order comes up. -/
theorem SL31.run (X : SL31) (ok : SL31Ok X) {Q : Exit → Act → World → Prop} (w : World) (h0 : Nw X.W w.drew)
    (hend : ∀ (γ : Nat → Value) w' r b, Nw X.W w' → X.R w' r b → Q .normal ((((((((((X.a0.put (some 95) (.slice X.la X.ln X.lc)).put (some 96) (γ 0)).put (some 97) (.agg #[.int .i64 X.p.w, .int .i64 X.p.j, .int .i64 X.p.c, .slice X.da X.dn X.dc, .int .i64 X.p.f])).put (some 98) (γ 1)).put (some 99) (.tuple #[r, b])).put (some 94) (.tuple #[r, b])).put (some 100) (r)).put (some 101) (b)).put (some 15) (r)).put (some 16) (b)) w') : (Code.region 31 (opsOf 31 Tryz.f4) true).wp Tryz.prog Q X.a0 w := by
  refine reg_actH (acts := SL31.acts) (av := SL31.av) (ext := SL31.ext) (val0 := X.val0) (Wd := X.rc.Wd) (by kernel_rfl) (by kernel_rfl) (by rw [SL31.size]; decide) (fun i hi => SL31.steps X ok i hi) (fun _ => undef) (LwX.Wd.start X.rc _ _ h0) ?_
  intro S γ w' hS h
  rw [SL31.puts]
  obtain ⟨r, b, g1, hr⟩ := h.ans (hS 2 (by decide))
  replace g1 : γ 2 = .tuple #[r, b] := g1
  have g2 : tupAt (γ 2) 0 = r := by rw [g1]; rfl
  have g3 : tupAt (γ 2) 1 = b := by rw [g1]; rfl
  rw [g2, g3, g1]
  exact hend γ w' r b h.nw hr
structure SL16 where
  bx : Nat
  ba : Nat
  p : PD
  sv : Value
  aa : Option Addr
  ac : Nat
  l : List Int
  W : World
  a0 : Act
structure SL16Ok (X : SL16) : Prop where
  cx : PB X.W X.bx X.p X.sv
  ca : PB X.W X.ba X.p (.slice X.aa X.l.length X.ac)
  hi : Ints X.W X.aa X.l
  hs : RowI X.W X.sv X.l
  hl : X.l.length ≤ 1048576
  e3 : X.a0.eval (.tmp 3) = .pointer (some ⟨X.ba, 0, none⟩)
  e9 : X.a0.eval (.tmp 9) = .pointer (some ⟨X.bx, 0, none⟩)
  sz : X.a0.tmps.size = 119
def SL16.val0 (X : SL16) : Nat → Value
  | 59 => penV X.p (X.sv)
  | 60 => penV X.p (.slice X.aa X.l.length X.ac)
  | _ => undef
def SL16.av : Nat → Option Nat
  | 61 => some 0
  | 62 => some 1
  | 63 => some 2
  | _ => none
def SL16.acts : List Nat := [2, 3, 4]
/-- The world, by how many of the acting ones have come up. -/
def SL16.Wd (X : SL16) : Nat → (Nat → Value) → World → Prop
  | 0, _, w => Nw X.W w
  | 1, γ, w => ∃ g, γ 0 = penV X.p (.slice (some ⟨g, 0, none⟩) X.l.length X.l.length) ∧ LayI w g X.l ∧ Nw X.W w
  | 2, γ, w => γ 1 = .bool true ∧ Nw X.W w
  | _, γ, w => γ 2 = .bool false ∧ Nw X.W w
theorem SL16.nw {X : SL16} : ∀ {n : Nat} {γ : Nat → Value} {w : World}, X.Wd n γ w → Nw X.W w
  | 0, _, _, h => h
  | 1, _, _, ⟨_, _, _, h⟩ => h
  | 2, _, _, ⟨_, h⟩ => h
  | _ + 3, _, _, ⟨_, h⟩ => h
theorem SL16.chain : chainG (opsOf 16 Tryz.f4) SL16.acts = true := by kernel_rfl
theorem SL16.nodup : SL16.acts.Nodup := by decide
theorem SL16.inj {listed : Array Bool} {i k : Nat} (h : (List.range (opsOf 16 Tryz.f4).size).all (fun j => decide (j = i) || !(match dstOf (opsOf 16 Tryz.f4) j with | some d => decide (SL16.av d = some k) | none => false)) = true) (hu : listed.getD i false = false) : ∀ d, got (opsOf 16 Tryz.f4) listed d → SL16.av d ≠ some k := by
  rintro d ⟨j, h1, h2⟩ h3
  have hlt : j < (opsOf 16 Tryz.f4).size := by
    rcases Nat.lt_or_ge j (opsOf 16 Tryz.f4).size with h4 | h4
    · exact h4
    · unfold dstOf at h2; rw [Array.getElem?_eq_none h4] at h2; cases h2
  have h5 := List.all_eq_true.1 h j (List.mem_range.2 hlt)
  rw [h2] at h5
  simp only [h3, decide_true, Bool.not_true, Bool.or_false, decide_eq_true_eq] at h5
  subst h5
  rw [hu] at h1
  cases h1
theorem SL16.s0 (X : SL16) (ok : SL16Ok X) {Q : Exit → Act → World → Prop} : StepG (opsOf 16 Tryz.f4) SL16.acts SL16.av X.val0 X.Wd X.a0 Q 0 := by
  intro γ listed a w o hF hC hW h1 ho h2
  obtain ⟨hd, hop, hg⟩ := fields2 (x := some 59) (y := Op.load 36 (.tmp 9)) (z := none) (by kernel_rfl) ho
  have e9 : a.eval (.tmp 9) = .pointer (some ⟨X.bx, 0, none⟩) := (hF.eval0 (by kernel_rfl)).trans ok.e9
  obtain ⟨c0, c1, c2, c3, c4⟩ := PB.nw ok.cx (SL16.nw hW)
  refine st_pureG hF hC hW ho h2 (by decide) hd hg rfl ?_
  show _ = Result.ok (Next.value (penV X.p (X.sv))) w
  generalize a.eval = ρ at e9 ⊢
  unfold execOp
  rw [hop]
  simp [e9, c0, c1, c2, c3, c4, go_sem]
theorem SL16.s1 (X : SL16) (ok : SL16Ok X) {Q : Exit → Act → World → Prop} : StepG (opsOf 16 Tryz.f4) SL16.acts SL16.av X.val0 X.Wd X.a0 Q 1 := by
  intro γ listed a w o hF hC hW h1 ho h2
  obtain ⟨hd, hop, hg⟩ := fields2 (x := some 60) (y := Op.load 42 (.tmp 3)) (z := none) (by kernel_rfl) ho
  have e3 : a.eval (.tmp 3) = .pointer (some ⟨X.ba, 0, none⟩) := (hF.eval0 (by kernel_rfl)).trans ok.e3
  obtain ⟨c0, c1, c2, c3, c4⟩ := PB.nw ok.ca (SL16.nw hW)
  refine st_pureG hF hC hW ho h2 (by decide) hd hg rfl ?_
  show _ = Result.ok (Next.value (penV X.p (.slice X.aa X.l.length X.ac))) w
  generalize a.eval = ρ at e3 ⊢
  unfold execOp
  rw [hop]
  simp [e3, c0, c1, c2, c3, c4, go_sem]
theorem SL16.s2 (X : SL16) (ok : SL16Ok X) {Q : Exit → Act → World → Prop} : StepG (opsOf 16 Tryz.f4) SL16.acts SL16.av X.val0 X.Wd X.a0 Q 2 := by
  intro γ listed a w o hF hC hW h1 ho h2
  obtain ⟨hd, hop, hg⟩ := fields2 (x := some 61) (y := Op.call { callee := .value (.func 15), args := #[(.tmp 60)], argTypes := #[42] }) (z := none) (by kernel_rfl) ho
  have e60 : a.eval (.tmp 60) = penV X.p (.slice X.aa X.l.length X.ac) := slotG hF ho h2 (j := 1) (d := 60) (by kernel_rfl) (by kernel_rfl) (by rw [ok.sz]; decide)
  have ef : a.eval (.func 15) = .func (.func 15) #[] #[] := rfl
  have hu := unl (hF.lt ho) h1
  refine st_actG (k := 0) SL16.chain SL16.nodup rfl hF hC hW h1 ho h2 (Or.inr ⟨61, hd, rfl⟩) (SL16.inj (by kernel_rfl) hu) hg ?_
  intro hW0 K hK
  have hr : (execOp a.eval o).run Tryz.prog w = .ok (.enter 15 #[penV X.p (.slice X.aa X.l.length X.ac)]) w := by
    generalize a.eval = ρ at e60 ef ⊢
    unfold execOp
    rw [hop]
    simp [e60, ef, go_sem]
  unfold Oper.wp
  rw [hr]
  refine Calls.mono (toPen_any w X.p X.aa X.ac X.l ok.hl (ok.hi.nw hW0)) ?_
  rintro e w' ⟨g, rfl, n1, _, l1⟩
  exact hK _ _ ⟨g, rfl, l1, Nw.trans hW0 n1⟩
theorem SL16.s3 (X : SL16) (ok : SL16Ok X) {Q : Exit → Act → World → Prop} : StepG (opsOf 16 Tryz.f4) SL16.acts SL16.av X.val0 X.Wd X.a0 Q 3 := by
  intro γ listed a w o hF hC hW h1 ho h2
  obtain ⟨hd, hop, hg⟩ := fields2 (x := some 62) (y := Op.call { callee := .value (.func 17), args := #[(.tmp 59), (.tmp 61)], argTypes := #[36, 36] }) (z := none) (by kernel_rfl) ho
  have e59 : a.eval (.tmp 59) = penV X.p (X.sv) := slotG hF ho h2 (j := 0) (d := 59) (by kernel_rfl) (by kernel_rfl) (by rw [ok.sz]; decide)
  have e61 : a.eval (.tmp 61) = γ 0 := slotG hF ho h2 (j := 2) (d := 61) (by kernel_rfl) (by kernel_rfl) (by rw [ok.sz]; decide)
  have ef : a.eval (.func 17) = .func (.func 17) #[] #[] := rfl
  have hu := unl (hF.lt ho) h1
  refine st_actG (k := 1) SL16.chain SL16.nodup rfl hF hC hW h1 ho h2 (Or.inr ⟨62, hd, rfl⟩) (SL16.inj (by kernel_rfl) hu) hg ?_
  intro hW0 K hK
  obtain ⟨g, g0, l1, n1⟩ := hW0
  rw [g0] at e61
  have hr : (execOp a.eval o).run Tryz.prog w = .ok (.enter 17 #[penV X.p (X.sv), penV X.p (.slice (some ⟨g, 0, none⟩) X.l.length X.l.length)]) w := by
    generalize a.eval = ρ at e59 e61 ef ⊢
    unfold execOp
    rw [hop]
    simp [e59, e61, ef, go_sem]
  unfold Oper.wp
  rw [hr]
  refine Calls.mono (eqPen_any w X.p _ _ X.l ok.hl (ok.hs.nw n1) (l1.row)) ?_
  rintro e w' ⟨rfl, n2⟩
  exact hK _ _ ⟨rfl, Nw.trans n1 n2⟩
theorem SL16.s4 (X : SL16) (ok : SL16Ok X) {Q : Exit → Act → World → Prop} : StepG (opsOf 16 Tryz.f4) SL16.acts SL16.av X.val0 X.Wd X.a0 Q 4 := by
  intro γ listed a w o hF hC hW h1 ho h2
  obtain ⟨hd, hop, hg⟩ := fields2 (x := some 63) (y := Op.unOp .not 4 (.tmp 62)) (z := none) (by kernel_rfl) ho
  have e62 : a.eval (.tmp 62) = γ 1 := slotG hF ho h2 (j := 3) (d := 62) (by kernel_rfl) (by kernel_rfl) (by rw [ok.sz]; decide)
  have hu := unl (hF.lt ho) h1
  refine st_actG (k := 2) SL16.chain SL16.nodup rfl hF hC hW h1 ho h2 (Or.inr ⟨63, hd, rfl⟩) (SL16.inj (by kernel_rfl) hu) hg ?_
  intro hW0 K hK
  obtain ⟨g0, n1⟩ := hW0
  rw [g0] at e62
  have hr : (execOp a.eval o).run Tryz.prog w = .ok (.value (.bool false)) w := by
    generalize a.eval = ρ at e62 ⊢
    unfold execOp
    rw [hop]
    simp [e62, go_sem]
  unfold Oper.wp
  rw [hr]
  exact hK _ _ ⟨rfl, n1⟩
theorem SL16.size : (opsOf 16 Tryz.f4).size = 5 := by kernel_rfl
theorem SL16.steps (X : SL16) (ok : SL16Ok X) {Q : Exit → Act → World → Prop} (i : Nat) (hi : i < (opsOf 16 Tryz.f4).size) : StepG (opsOf 16 Tryz.f4) SL16.acts SL16.av X.val0 X.Wd X.a0 Q i := by
  rw [SL16.size] at hi
  have hc : i = 0 ∨ i = 1 ∨ i = 2 ∨ i = 3 ∨ i = 4 := by omega
  rcases hc with rfl | rfl | rfl | rfl | rfl
  · exact SL16.s0 X ok
  · exact SL16.s1 X ok
  · exact SL16.s2 X ok
  · exact SL16.s3 X ok
  · exact SL16.s4 X ok
theorem SL16.puts (X : SL16) (γ : Nat → Value) (a0 : Act) : putsL (valG SL16.av X.val0 γ) (opsOf 16 Tryz.f4).toList a0 = (((((a0.put (some 59) (penV X.p (X.sv))).put (some 60) (penV X.p (.slice X.aa X.l.length X.ac))).put (some 61) (γ 0)).put (some 62) (γ 1)).put (some 63) (γ 2)) := by kernel_rfl
/-- The region, whatever order comes up. -/
theorem SL16.run (X : SL16) (ok : SL16Ok X) {Q : Exit → Act → World → Prop} (w : World) (h0 : X.Wd 0 (fun _ => undef) w.drew) (hend : ∀ (γ : Nat → Value) w', X.Wd 3 γ w' → Q .normal (((((X.a0.put (some 59) (penV X.p (X.sv))).put (some 60) (penV X.p (.slice X.aa X.l.length X.ac))).put (some 61) (γ 0)).put (some 62) (γ 1)).put (some 63) (γ 2)) w') : (Code.region 16 (opsOf 16 Tryz.f4) true).wp Tryz.prog Q X.a0 w := by
  refine reg_act (acts := SL16.acts) (av := SL16.av) (val0 := X.val0) (Wd := X.Wd) (by kernel_rfl) (by kernel_rfl) (by rw [SL16.size]; decide) (fun i hi => SL16.steps X ok i hi) _ h0 ?_
  intro γ w' h
  rw [SL16.puts]
  exact hend γ w' h
end Go.Proofs.YtfdjjbgcaojcnaaGreat
namespace Go.Proofs.YtfdjjbgcaojcnaaGreat
open Go.ChangeShapes Go.WideShapes Go.ChangeAt Go.RowKit
set_option linter.unusedVariables false

/-- What the copies of the law are: lines, a pen. -/
def CpS (l : List LD) (p : PD) (ns : List Int) (i : Nat) (w : World) (u : Value) : Prop :=
  (i = 0 → ∃ g it, u = .slice (some ⟨g, 0, none⟩) l.length l.length ∧ it.map (·.2) = l ∧ LayLn w g it l.length) ∧ (i = 1 → ∃ g, u = penV p (.slice (some ⟨g, 0, none⟩) ns.length ns.length) ∧ LayI w g ns)
theorem CpS.nw {l : List LD} {p : PD} {ns : List Int} {i : Nat} {w w' : World} {u : Value} (h : CpS l p ns i w u) (k : Nw w w') : CpS l p ns i w' u := by
  refine ⟨fun e => ?_, fun e => ?_⟩
  · obtain ⟨g, it, h1, h2, h3⟩ := h.1 e
    exact ⟨g, it, h1, h2, h3.nw k⟩
  · obtain ⟨g, h1, h2⟩ := h.2 e
    exact ⟨g, h1, LayI.nw h2 k⟩
/-- What is answered: a row of lines and whether. -/
def AnS (M : List LD) (ok : Bool) (w : World) (r b : Value) : Prop := b = .bool ok ∧ (∃ sa sn sc, r = .slice sa sn sc) ∧ RowL w r M
set_option maxRecDepth 100000 in
set_option maxHeartbeats 16000000 in
/-- The walk of the law on StrokeLines. -/
theorem walk_strk (w : World) (a : Option Addr) (l : List LD) (c : Nat) (pw pj pc : Int) (na : Option Addr) (ns : List Int) (nc : Nat) (pf : Int) (hr : Lines w a l) (ho : ∀ i, i < l.length → (lnAt l i).pts.length ≤ maxLen) (hl : l.length ≤ maxLen) (hI : Ints w na ns) (hnl : ns.length ≤ maxLen) :
    Calls Tryz.prog 4 #[.slice a l.length c, .agg #[.int .i64 pw, .int .i64 pj, .int .i64 pc, .slice na ns.length nc, .int .i64 pf]] w fun e w' => e = .returned (.bool true) ∧ Below w.heap.size w w' := by
  have HZ : Hid (∀ w : World, Lines w a l → _) := fun w h => szLineS_any w a c l 1048576 (by omega) (by omega) hl ho h
  obtain ⟨p, hp⟩ : ∃ p : PD, p = ⟨pw, pj, pc, pf⟩ := ⟨_, rfl⟩
  have HP : Hid (p = ⟨pw, pj, pc, pf⟩) := hp
  have HZP : Hid (∀ (w : World) (left : Int), 0 ≤ left → left ≤ 1048576 → _) := fun w left h0 h1 => szPen_any w ⟨pw, pj, pc, pf⟩ na ns.length nc left h0 h1 hnl
  unfold penV at HZP
  simp only at HZP
  have HR : Hid (Lines w a l) := hr
  have HI : Hid (Ints w na ns) := hI
  clear ho hr hI hnl hp
  obtain ⟨W0, hW0⟩ : ∃ W0, w.alloc (.cells #[.int .i64 pw, .int .i64 pj, .int .i64 pc, .slice na ns.length nc, .int .i64 pf] 42) = W0 := ⟨_, rfl⟩
  have N0 : Hid (Nw w W0) := by show Nw _ _; rw [← hW0]; exact (Below.refl _ _).alloc (Nat.le_refl _) _
  have PB0 : Hid (PB W0 w.heap.size ⟨pw, pj, pc, pf⟩ (.slice na ns.length nc)) := by show PB _ _ _ _; rw [← hW0]; exact PB.new w ⟨pw, pj, pc, pf⟩ _ _
  have HW0 : Hid (_ = W0) := hW0
  clear hW0
  by_cases h : ((l.length + manyL l : Nat) : Int) ≤ 1048576
  · have e1 : szLn l 1048576 = 1048576 - ((l.length + manyL l : Nat) : Int) := by unfold szLn; rw [if_pos h]
    rw [e1] at HZ
    obtain ⟨left, hleft⟩ : ∃ left : Int, 1048576 - ((l.length + manyL l : Nat) : Int) = left := ⟨_, rfl⟩
    rw [hleft] at HZ
    have hl0 : 0 ≤ left := by omega
    have hl1 : left ≤ 1048576 := by omega
    have hd1 : decide (left < 0) = false := decide_eq_false (by omega)
    have hll : l.length ≤ 1048576 := by omega
    have hmm : manyL l ≤ 1048576 := by omega
    have HZP1 : Hid (∀ w : World, _) := fun w => HZP.out w left hl0 hl1
    clear hleft e1 h HZP
    by_cases h2 : (ns.length : Int) ≤ left
    · rw [if_pos h2] at HZP1
      have hd2 : decide (left - (ns.length : Int) < 0) = false := decide_eq_false (by omega)
      have hnn : ns.length ≤ 1048576 := by omega
      have HT : Hid (∀ w : World, Lines w a l → _) := fun w h => toLineS_any w a c l hll (lenS_of hmm) h
      have HTP : Hid (∀ w : World, Ints w na ns → _) := fun w h => toPen_any w ⟨pw, pj, pc, pf⟩ na nc ns hnn h
      have HS : Hid (∀ (w : World) (u0 u1 : Value), CpS l ⟨pw, pj, pc, pf⟩ ns 0 w u0 → CpS l ⟨pw, pj, pc, pf⟩ ns 1 w u1 → Calls Tryz.prog 11 #[u0, u1] w fun e w' => ∃ r b, e = .returned (.tuple #[r, b]) ∧ AnS (stkV l ⟨pw, pj, pc, pf⟩ ns).1 (stkV l ⟨pw, pj, pc, pf⟩ ns).2 w' r b ∧ Nw w w') := fun w u0 u1 h0 h1 => by
        obtain ⟨g, it, rfl, e2, lay⟩ := h0.1 rfl
        obtain ⟨g1, rfl, lay1⟩ := h1.2 rfl
        have hL := lay.lines
        rw [e2] at hL
        refine Calls.mono (sstrokeLines w (some ⟨g, 0, none⟩) l.length l ⟨pw, pj, pc, pf⟩ (some ⟨g1, 0, none⟩) ns.length ns hll hmm hnn hL lay1.ints) ?_
        rintro e w' ⟨v, rfl, ⟨it', o, e3⟩, n⟩
        have hrow := o.row
        rw [e3] at hrow
        exact ⟨v, _, rfl, ⟨rfl, OwnQ.slice o.own, hrow⟩, n⟩
      have HGI : Hid (∀ (w : World) (g g1 : Nat) (it : Its), it.map (·.2) = l → LayLn w g it l.length → LayI w g1 ns → _) := fun w g g1 it e lay lay1 => istrokeLines w (some ⟨g, 0, none⟩) l.length l ⟨pw, pj, pc, pf⟩ (some ⟨g1, 0, none⟩) ns.length ns hll hmm hnn (by have := lay.linesC; rw [e] at this; exact this) lay1.ints
      have HG2 : Hid (∀ (w : World) (u0 u1 : Value), CpS l ⟨pw, pj, pc, pf⟩ ns 0 w u0 → CpS l ⟨pw, pj, pc, pf⟩ ns 1 w u1 → Calls Tryz.prog 10 #[u0, u1] w fun e w' => ∃ r b, e = .returned (.tuple #[r, b]) ∧ AnS (stkV l ⟨pw, pj, pc, pf⟩ ns).1 (stkV l ⟨pw, pj, pc, pf⟩ ns).2 w' r b ∧ Nw w w') := fun w u0 u1 h0 h1 => by
        obtain ⟨g, it, rfl, e2, lay⟩ := h0.1 rfl
        obtain ⟨g1, rfl, lay1⟩ := h1.2 rfl
        refine Calls.mono (HGI.out w g g1 it e2 lay lay1) ?_
        rintro e w' ⟨v, rfl, ⟨it', o, e3⟩, n⟩
        have hrow := o.row
        rw [e3] at hrow
        exact ⟨v, _, rfl, ⟨rfl, OwnQ.slice o.own, hrow⟩, n⟩
      have HCC0 : Hid (∀ w' : World, Nw w w' → Calls Tryz.prog 14 #[.slice a l.length c] w' fun e w'' => ∃ u, e = .returned u ∧ CpS l ⟨pw, pj, pc, pf⟩ ns 0 w'' u ∧ Nw w' w'') := fun w' k => by
        refine Calls.mono (HT.out w' (Lines.nw HR.out k)) ?_
        rintro e w'' ⟨rfl, n, it, e2, lay⟩
        exact ⟨_, rfl, ⟨fun _ => ⟨_, it, rfl, e2, lay⟩, (fun e => by cases e)⟩, n⟩
      have HCC1 : Hid (∀ w' : World, Nw w w' → Calls Tryz.prog 15 #[.agg #[.int .i64 pw, .int .i64 pj, .int .i64 pc, .slice na ns.length nc, .int .i64 pf]] w' fun e w'' => ∃ u, e = .returned u ∧ CpS l ⟨pw, pj, pc, pf⟩ ns 1 w'' u ∧ Nw w' w'') := fun w' k => by
        refine Calls.mono (HTP.out w' (Ints.nw HI.out k)) ?_
        rintro e w'' ⟨g, rfl, n, _, lay⟩
        exact ⟨_, rfl, ⟨(fun e => by cases e), fun _ => ⟨g, rfl, lay⟩⟩, n⟩
      obtain ⟨hML, hMM⟩ := stkV_bd l ⟨pw, pj, pc, pf⟩ ns
      unfold penV at HTP HGI
      simp only at HTP HGI
      unfold StS at HGI
      obtain ⟨RR, hRR⟩ : ∃ RR, stkV l ⟨pw, pj, pc, pf⟩ ns = RR := ⟨_, rfl⟩
      rw [hRR] at hML hMM HS HGI HG2
      clear hRR
      obtain ⟨M, ok⟩ := RR
      simp only at hML hMM HS HGI HG2
      have HE : Hid (∀ (w : World) (v1 v2 : Value), RowL w v1 M → RowL w v2 M → _) := fun w v1 v2 h1 h2 => eqLineS_any w v1 v2 M hML (lenS_of hMM) h1 h2
      have HX : Hid (∀ (w : World) (v1 v2 : Value), RowL w v1 l → RowL w v2 l → _) := fun w v1 v2 h1 h2 => eqLineS_any w v1 v2 l hll (lenS_of hmm) h1 h2
      have HMB : Hid (M.length ≤ 1048576 ∧ manyL M ≤ 1048576) := ⟨hML, hMM⟩
      have HLB : Hid (l.length ≤ 1048576 ∧ manyL l ≤ 1048576 ∧ ns.length ≤ 1048576) := ⟨hll, hmm, hnn⟩
      have hbb : (ok != ok) = false := by cases ok <;> rfl
      obtain ⟨nn, hnn'⟩ : ∃ nn, ns.length = nn := ⟨_, rfl⟩
      have HNN : Hid (ns.length = nn) := hnn'
      rw [hnn'] at HZP1 HTP HGI HCC1 HW0 PB0 hd2 ⊢
      obtain ⟨n, hn'⟩ : ∃ n, l.length = n := ⟨_, rfl⟩
      have HN : Hid (l.length = n) := hn'
      rw [hn'] at HZ HT HGI HCC0 ⊢
      clear hn' hnn' hll hmm hnn hML hMM h2 hl
      go_enter Tryz.func4, Tryz.ntmps4
      go_wp2_with fail
      rw [HW0.out]
      refine Calls.mono (HZ.out _ (Lines.nw HR.out N0.out)) ?_
      rintro e w1 ⟨rfl, n1⟩
      have N1 : Hid (Nw W0 w1) := n1
      obtain ⟨q0, q1, q2, q3, q4⟩ := PB.nw PB0.out n1
      simp only at q0 q1 q2 q3 q4
      clear n1
      go_wp2_with fail
      refine Calls.mono (HZP1.out _) ?_
      rintro e w2 ⟨rfl, n2⟩
      have N2 : Hid (Nw W0 w2) := Nw.trans N1.out n2
      have D2 : Hid (Nw w2 w2.drew) := (Below.refl _ _).drew
      have P2 : Hid (PB w2.drew w.heap.size ⟨pw, pj, pc, pf⟩ (.slice na nn nc)) := PB.nw PB0.out (Nw.trans N2.out D2.out)
      have NW2 : Hid (Nw w w2.drew) := Nw.trans N0.out (Nw.trans N2.out D2.out)
      clear n2 q0 q1 q2 q3 q4
      go_wp2
      refine reg_change (ops' := opsOf 8 Tryz.f4) (by kernel_rfl) ?_
      refine SL8.run ⟨w.heap.size, a, n, c, ⟨pw, pj, pc, pf⟩, na, nn, nc, CpS l ⟨pw, pj, pc, pf⟩ ns, AnS M ok, w2.drew, _⟩ ⟨P2.out.c0, P2.out.c1, P2.out.c2, P2.out.c3, P2.out.c4, fun i w w' u h k => CpS.nw h k, fun w' k => HCC0.out w' (Nw.trans NW2.out k), fun w' k => HCC1.out w' (Nw.trans NW2.out k), fun w' u0 u1 k h0 h1 => HS.out w' u0 u1 h0 h1, rfl, rfl, rfl⟩ w2 (Below.refl _ _) ?_
      rintro γ w4 r4 b4 n4 ⟨hb4, ⟨sa, sn, sc, hr4⟩, row4⟩
      replace hr4 : r4 = .slice sa sn sc := hr4
      replace hb4 : b4 = .bool ok := hb4
      replace row4 : RowL w4 r4 M := row4
      replace n4 : Nw w2.drew w4 := n4
      subst hr4 hb4
      have R4 : Hid (RowL w4 (.slice sa sn sc) M) := row4
      have N4 : Hid (Nw w w4) := Nw.trans NW2.out n4
      have NQ4 : Hid (Nw W0 w4) := Nw.trans N2.out (Nw.trans D2.out n4)
      simp only [Act.put, List.setIfInBounds_toArray, List.set_cons_zero, List.set_cons_succ]
      generalize γ 0 = y0 at *
      generalize γ 1 = y1 at *
      clear row4 n4 P2
      go_wp2_with fail
      refine Calls.mono (HT.out _ (Lines.nw HR.out N4.out)) ?_
      rintro e w5 ⟨rfl, n5, it5, hit5, l5⟩
      have hi5 : it5.length = n := by rw [← HN.out, ← hit5]; simp
      have L5 : Hid (LayLn w5 w4.heap.size it5 n) := l5
      have HI5 : Hid (it5.map (·.2) = l ∧ it5.length = n) := ⟨hit5, hi5⟩
      have M5 : Hid (Nw w4 w5) := n5
      have S5 : Hid (w4.heap.size < w5.heap.size) := l5.lt
      obtain ⟨q0, q1, q2, q3, q4⟩ := PB.nw PB0.out (Nw.trans NQ4.out n5)
      simp only at q0 q1 q2 q3 q4
      clear n5 l5 hit5 hi5
      go_wp2_with fail
      refine Calls.mono (HTP.out _ (Ints.nw HI.out (Nw.trans N4.out M5.out))) ?_
      rintro e w6 ⟨g6, rfl, n6, hg6, l6⟩
      have M6 : Hid (Nw w4 w6) := Nw.trans M5.out n6
      have K6 : Hid (Nw w5 w6) := n6
      have L6 : Hid (LayI w6 g6 ns) := l6
      have G6 : Hid (w5.heap.size ≤ g6 ∧ g6 < w6.heap.size) := ⟨hg6, l6.1⟩
      clear n6 l6 hg6 q0 q1 q2 q3 q4
      obtain ⟨W7, hW7⟩ : ∃ W7, w6.alloc (.cells #[.int .i64 pw, .int .i64 pj, .int .i64 pc, .slice (some ⟨g6, 0, none⟩) nn nn, .int .i64 pf] 36) = W7 := ⟨_, rfl⟩
      have n7 : Nw w6 W7 := by rw [← hW7]; exact (Below.refl _ _).alloc (Nat.le_refl _) _
      have P7 : Hid (PB W7 w6.heap.size ⟨pw, pj, pc, pf⟩ (.slice (some ⟨g6, 0, none⟩) nn nn)) := by show PB _ _ _ _; rw [← hW7]; exact PB.new w6 ⟨pw, pj, pc, pf⟩ _ _
      have S7 : Hid (W7.heap.size = w6.heap.size + 1) := by show _ = _; rw [← hW7]; simp
      have K7 : Hid (Nw w5 W7) := Nw.trans K6.out n7
      have M7 : Hid (Nw w4 W7) := Nw.trans M6.out n7
      have L7 : Hid (LayI W7 g6 ns) := LayI.nw L6.out n7
      have HG7 : Hid _ := HGI.out W7 w4.heap.size g6 it5 HI5.out.1 (LayLn.nw L5.out K7.out) L7.out
      obtain ⟨q0, q1, q2, q3, q4⟩ := P7.out
      simp only at q0 q1 q2 q3 q4
      have HW7 : Hid (_ = W7) := hW7
      clear hW7 n7
      go_upto_region 11 with fail
      rw [HW7.out]
      go_wp2_with fail
      refine Calls.mono HG7.out ?_
      rintro e w8 ⟨v8, rfl, ⟨it8, o8, hit8⟩, n8⟩
      obtain ⟨ga, gn, gc, hv8⟩ := OwnQ.slice o8.own
      subst hv8
      have O8 : Hid (OwnLn w8 W7.heap.size (.slice ga gn gc) it8) := o8
      have HI8 : Hid (it8.map (·.2) = M) := hit8
      have R8 : Hid (RowL w8 (.slice ga gn gc) M) := by show RowL _ _ _; have := o8.row; rw [hit8] at this; exact this
      have M8 : Hid (Nw w4 w8) := Nw.trans M7.out n8
      have A8 : Hid (Nw W7 w8) := n8
      have Z8 : Hid (it8.length ≤ 1048576 ∧ manyL (it8.map (·.2)) ≤ 1048576) := by
        refine ⟨?_, by rw [hit8]; exact HMB.out.2⟩
        have := congrArg List.length hit8
        simp at this
        have := HMB.out.1
        omega
      clear n8 o8 hit8 q0 q1 q2 q3 q4 HG7
      go_wp2_with fail
      refine Calls.mono (HE.out _ _ _ R8.out (RowL.nw R4.out M8.out)) ?_
      rintro e w9 ⟨rfl, n9⟩
      have M9 : Hid (Nw w4 w9) := Nw.trans M8.out n9
      have A9 : Hid (Nw W7 w9) := Nw.trans A8.out n9
      have O9 : Hid (OwnLn w9 W7.heap.size (.slice ga gn gc) it8) := OwnLn.nw O8.out n9
      clear n9 R8 O8
      go_wp2_with fail
      refine Calls.mono (HT.out _ (Lines.nw HR.out (Nw.trans N4.out M9.out))) ?_
      rintro e w10 ⟨rfl, n10, it10, hit10, l10⟩
      have M10 : Hid (Nw w4 w10) := Nw.trans M9.out n10
      have A10 : Hid (Nw W7 w10) := Nw.trans A9.out n10
      have O10 : Hid (OwnLn w10 W7.heap.size (.slice ga gn gc) it8) := OwnLn.nw O9.out n10
      have P10 : Hid (RowL w10 (.slice (some ⟨w9.heap.size, 0, none⟩) n n) l) := by
        show RowL _ _ _
        have := l10.lines; rw [hit10] at this; exact ⟨_, _, by rw [HN.out], this⟩
      have X10 : Hid (RowL w10 (.slice (some ⟨w4.heap.size, 0, none⟩) n n) l) := by
        show RowL _ _ _
        have := (LayLn.nw L5.out (Nw.trans K7.out A10.out)).lines
        rw [HI5.out.1] at this
        exact ⟨_, _, by rw [HN.out], this⟩
      clear n10 l10 hit10 O9
      go_wp2_with fail
      refine Calls.mono (HX.out _ _ _ X10.out P10.out) ?_
      rintro e w11 ⟨rfl, n11⟩
      have M11 : Hid (Nw w4 w11) := Nw.trans M10.out n11
      have A11 : Hid (Nw W7 w11) := Nw.trans A10.out n11
      have O11 : Hid (OwnLn w11 W7.heap.size (.slice ga gn gc) it8) := OwnLn.nw O10.out n11
      have D11 : Hid (Nw w11 w11.drew) := (Below.refl _ _).drew
      have PX : Hid (PB w11.drew w6.heap.size ⟨pw, pj, pc, pf⟩ (.slice (some ⟨g6, 0, none⟩) ns.length ns.length)) := by show PB _ _ _ _; rw [HNN.out]; exact PB.nw P7.out (Nw.trans A11.out D11.out)
      have PA : Hid (PB w11.drew w.heap.size ⟨pw, pj, pc, pf⟩ (.slice na ns.length nc)) := by show PB _ _ _ _; rw [HNN.out]; exact PB.nw PB0.out (Nw.trans NQ4.out (Nw.trans M11.out D11.out))
      have II : Hid (Ints w11.drew na ns) := Ints.nw HI.out (Nw.trans N4.out (Nw.trans M11.out D11.out))
      have LI : Hid (LayI w11.drew g6 ns) := LayI.nw L7.out (Nw.trans A11.out D11.out)
      clear n11 X10 P10 O10
      go_wp2
      refine reg_change (ops' := opsOf 16 Tryz.f4) (by kernel_rfl) ?_
      refine SL16.run ⟨w6.heap.size, w.heap.size, ⟨pw, pj, pc, pf⟩, .slice (some ⟨g6, 0, none⟩) ns.length ns.length, na, nc, ns, w11.drew, _⟩ ⟨PX.out, PA.out, II.out, LayI.row LI.out, HLB.out.2.2, rfl, rfl, rfl⟩ w11 (Below.refl _ _) ?_
      rintro γ2 w12 ⟨g2', n12⟩
      replace n12 : Nw w11.drew w12 := n12
      have M12 : Hid (Nw w4 w12) := Nw.trans M11.out (Nw.trans D11.out n12)
      have A12 : Hid (Nw W7 w12) := Nw.trans A11.out (Nw.trans D11.out n12)
      have O12 : Hid (OwnLn w12 W7.heap.size (.slice ga gn gc) it8) := OwnLn.nw O11.out (Nw.trans D11.out n12)
      simp only [g2', Act.put, List.setIfInBounds_toArray, List.set_cons_zero, List.set_cons_succ]
      generalize γ2 0 = y2 at *
      generalize γ2 1 = y3 at *
      have hmk := markL_lay w5 w12 w4.heap.size n n it5 (by rw [HI5.out.2]; exact L5.out) (Nw.trans K7.out A12.out) (by rw [HI5.out.2, ← HN.out]; exact HLB.out.1) (by rw [HI5.out.1]; exact HLB.out.2.1)
      rw [HI5.out.2] at hmk
      have hkb : kAt (nsOf it5) 1 n ≤ 50000000 := by
        have h1 := kAt_sum it5 1 it5.length (Nat.le_refl _)
        rw [HI5.out.2] at h1
        have h2 := manyL_le (it5.map (·.2)) n
        rw [HI5.out.1] at h1 h2
        have h3 := HLB.out.2.1
        have h4 := HLB.out.1
        rw [HN.out] at h4
        omega
      generalize hkk : kAt (nsOf it5) 1 n = kk at hmk hkb
      have HMK : Hid _ := hmk
      have HKB : Hid (kk ≤ 50000000) := hkb
      clear n12 g2' O11 hmk hkk hkb PX PA II LI
      go_wp2_with fail
      refine Calls.mono HMK.out ?_
      rintro e w13 ⟨rfl, m13⟩
      have hsz : w4.heap.size ≤ w12.heap.size := Below.size M12.out
      have h57 : w5.heap.size ≤ W7.heap.size := Below.size K7.out
      have M13 : Hid (Nw w4 w13) := nw_midD M12.out m13 (Nat.le_refl _) hsz
      have O13 : Hid (OwnLn w13 W7.heap.size (.slice ga gn gc) it8) := OwnLn.mid O12.out m13 h57
      have L13 : Hid (LayI w13 g6 ns) := LayI.mid (LayI.nw L7.out A12.out) m13 G6.out.1
      have P13 : Hid (PB w13 w6.heap.size ⟨pw, pj, pc, pf⟩ (.slice (some ⟨g6, 0, none⟩) nn nn)) := PB.mid (PB.nw P7.out A12.out) m13 (Below.size K6.out)
      have S13 : Hid (W7.heap.size ≤ w13.heap.size) := Nat.le_trans (Below.size A12.out) m13.size
      have hmp := markPen_lay w13 ⟨pw, pj, pc, pf⟩ g6 kk ns HLB.out.2.2 HKB.out L13.out
      rw [HNN.out] at hmp
      unfold penV at hmp
      simp only at hmp
      have HMP : Hid _ := hmp
      obtain ⟨q0, q1, q2, q3, q4⟩ := P13.out
      simp only at q0 q1 q2 q3 q4
      clear m13 hsz h57 hmp O12 HMK
      go_wp2_with fail
      refine Calls.mono HMP.out ?_
      rintro e w14 ⟨rfl, g14⟩
      have s67 := S7.out
      have g6b := G6.out
      have s56 : w4.heap.size ≤ g6 := by have := S5.out; omega
      have m14 := mid_gr (lo := w4.heap.size) (hi := W7.heap.size) g14 s56 (by omega)
      have s13 := S13.out
      have s47 : w4.heap.size ≤ W7.heap.size := Below.size M7.out
      have M14 : Hid (Nw w4 w14) := nw_midD M13.out m14 (Nat.le_refl _) (by omega)
      have O14 : Hid (OwnLn w14 W7.heap.size (.slice ga gn gc) it8) := OwnLn.mid O13.out m14 (Nat.le_refl _)
      have S14 : Hid (W7.heap.size ≤ w14.heap.size) := Nat.le_trans S13.out g14.size
      have R14 : Hid (RowL w14 (.slice ga gn gc) M) := by show RowL _ _ _; have := O14.out.row; rw [HI8.out] at this; exact this
      have hk0 : decide (((kk + nn : Nat) : Int) < 0) = false := by simp; omega
      generalize ((kk + nn : Nat) : Int) = kz at *
      clear g14 m14 s13 s47 s56 s67 g6b q0 q1 q2 q3 q4 O13 HMP
      go_wp2_with fail
      refine Calls.mono (HE.out _ _ _ R14.out (RowL.nw R4.out M14.out)) ?_
      rintro e w15 ⟨rfl, n15⟩
      have M15 : Hid (Nw w4 w15) := Nw.trans M14.out n15
      have O15 : Hid (OwnLn w15 W7.heap.size (.slice ga gn gc) it8) := OwnLn.nw O14.out n15
      have S15 : Hid (W7.heap.size ≤ w15.heap.size) := Nat.le_trans S14.out (Below.size n15)
      have hmk := markL_own w15 W7.heap.size (.slice ga gn gc) it8 O15.out Z8.out.1 Z8.out.2
      have hhd : Hid (∀ w, MkdL w (.slice ga gn gc) it8 1 → _) := fun w h => heldL_own w (.slice ga gn gc) it8 h Z8.out.1 Z8.out.2
      generalize kAt (nsOf it8) 1 it8.length = mm at hmk hhd
      have HMK : Hid _ := hmk
      have hm0 : decide ((mm : Int) < 0) = false := decide_eq_false (by omega)
      have hmm : ((mm : Int) != (mm : Int)) = false := by simp
      clear n15 R14 O14 hmk
      go_wp2_with fail
      refine Calls.mono HMK.out ?_
      rintro e w16 ⟨rfl, m16, h16⟩
      have M16 : Hid (Nw w4 w16) := nw_midD M15.out m16 (Below.size M7.out) S15.out
      have H16 : Hid (MkdL w16 (.slice ga gn gc) it8 1) := h16
      clear m16 h16 HMK O15
      go_wp2_with fail
      refine Calls.mono (hhd.out _ H16.out) ?_
      rintro e w17 ⟨rfl, rfl⟩
      have D17 : Hid (Nw w17 w17.drew) := (Below.refl _ _).drew
      have NW17 : Hid (Nw w w17.drew) := Nw.trans N4.out (Nw.trans M16.out D17.out)
      have P17 : Hid (PB w17.drew w.heap.size ⟨pw, pj, pc, pf⟩ (.slice na nn nc)) := PB.nw PB0.out (Nw.trans NQ4.out (Nw.trans M16.out D17.out))
      go_wp2
      refine reg_change (ops' := opsOf 31 Tryz.f4) (by kernel_rfl) ?_
      refine SL31.run ⟨w.heap.size, a, n, c, ⟨pw, pj, pc, pf⟩, na, nn, nc, CpS l ⟨pw, pj, pc, pf⟩ ns, AnS M ok, w17.drew, _⟩ ⟨P17.out.c0, P17.out.c1, P17.out.c2, P17.out.c3, P17.out.c4, fun i w w' u h k => CpS.nw h k, fun w' k => HCC0.out w' (Nw.trans NW17.out k), fun w' k => HCC1.out w' (Nw.trans NW17.out k), fun w' u0 u1 k h0 h1 => HG2.out w' u0 u1 h0 h1, rfl, rfl, rfl⟩ w17 (Below.refl _ _) ?_
      rintro γ3 w20 r20 b20 n20 ⟨hb20, ⟨ka, kn, kc, hr20⟩, row20⟩
      replace hr20 : r20 = .slice ka kn kc := hr20
      replace hb20 : b20 = .bool ok := hb20
      replace row20 : RowL w20 r20 M := row20
      replace n20 : Nw w17.drew w20 := n20
      subst hr20 hb20
      have R20 : Hid (RowL w20 (.slice ka kn kc) M) := row20
      have M20 : Hid (Nw w4 w20) := Nw.trans M16.out (Nw.trans D17.out n20)
      have H20 : Hid (MkdL w20 (.slice ga gn gc) it8 1) := MkdL.nw H16.out (Nw.trans D17.out n20)
      simp only [Act.put, List.setIfInBounds_toArray, List.set_cons_zero, List.set_cons_succ]
      generalize γ3 0 = y4 at *
      generalize γ3 1 = y5 at *
      clear row20 n20 P17
      go_wp2_with fail
      refine Calls.mono (HE.out _ _ _ R20.out (RowL.nw R4.out M20.out)) ?_
      rintro e w21 ⟨rfl, n21⟩
      have M21 : Hid (Nw w w21) := Nw.trans N4.out (Nw.trans M20.out n21)
      have H21 : Hid (MkdL w21 (.slice ga gn gc) it8 1) := MkdL.nw H20.out n21
      clear n21
      go_wp2_with fail
      refine Calls.mono (hhd.out _ H21.out) ?_
      rintro e w22 ⟨rfl, rfl⟩
      go_wp2
      go_ret
      exact ⟨rfl, M21.out⟩
    · rw [if_neg h2] at HZP1
      clear h2
      generalize l.length = n at *
      generalize ns.length = nn at *
      go_enter Tryz.func4, Tryz.ntmps4
      go_wp2_with fail
      rw [HW0.out]
      refine Calls.mono (HZ.out _ (Lines.nw HR.out N0.out)) ?_
      rintro e w1 ⟨rfl, n1⟩
      have N1 : Hid (Nw W0 w1) := n1
      obtain ⟨q0, q1, q2, q3, q4⟩ := PB.nw PB0.out n1
      simp only at q0 q1 q2 q3 q4
      clear n1
      go_wp2_with fail
      refine Calls.mono (HZP1.out _) ?_
      rintro e w2 ⟨rfl, n2⟩
      have N2 : Hid (Nw w w2) := Nw.trans N0.out (Nw.trans N1.out n2)
      clear n2 q0 q1 q2 q3 q4
      go_wp2
      go_ret
      exact ⟨rfl, N2.out⟩
  · have e1 : szLn l 1048576 = -1 := by unfold szLn; rw [if_neg h]
    rw [e1] at HZ
    clear e1 h
    generalize l.length = n at *
    generalize ns.length = nn at *
    go_enter Tryz.func4, Tryz.ntmps4
    go_wp2_with fail
    rw [HW0.out]
    refine Calls.mono (HZ.out _ (Lines.nw HR.out N0.out)) ?_
    rintro e w1 ⟨rfl, n1⟩
    have N1 : Hid (Nw w w1) := Nw.trans N0.out n1
    clear n1
    go_wp2
    go_ret
    exact ⟨rfl, N1.out⟩
end Go.Proofs.YtfdjjbgcaojcnaaGreat
namespace Go.Proofs.YtfdjjbgcaojcnaaGreat
open Go.ChangeShapes Go.WideShapes Go.ChangeAt Go.RowKit Go.Deep
set_option linter.unusedVariables false

def iv : Value → Int
  | .int _ x => x
  | _ => 0
section
variable {H : Type} {enc : TypeId × Value → H} {W : World} {base : Nat} {held : Bool}
theorem open_pts {fuel : Nat} {v : Value} {x : DataW H × List MemPlace} (h : DataW.trod enc Tryz.prog W base (fun _ => true) held fuel 79 [v] = some x) :
    ∃ a l c, v = .slice a l.length c ∧ Pts W a l ∧ l.length ≤ maxLen := by
  rcases open_slice_pairs Tryz.underlying79 Tryz.underlying136 (by kernel_rfl) rfl rfl (by kernel_rfl) (by kernel_rfl) h with ⟨hcs, _⟩ | ⟨a, len, cap, m, n, V0, V1, D0, D1, P0, P1, hcs, _, hl, hm, hmm, _, hx⟩
  · simp at hcs
    exact ⟨none, [], 0, hcs, Or.inl rfl, by simp⟩
  · simp at hcs hmm
    subst hmm
    have key : ∀ i, i < m → ∃ s t : Int, V0 i = .int .i64 s ∧ V1 i = .int .i64 t := by
      intro i hi
      obtain ⟨_, _, g0, g1⟩ := hx i hi
      obtain ⟨s, e0, _, hs⟩ := DataW.trod_int Tryz.underlying3 g0
      obtain ⟨t, e1, _, ht⟩ := DataW.trod_int Tryz.underlying3 g1
      simp at e0 e1
      exact ⟨s, t, e0, e1⟩
    refine ⟨some a, (List.range len).map fun i => (iv (V0 i), iv (V1 i)), m, by simpa using hcs, ?_, by simp; omega⟩
    by_cases h0 : len = 0
    · subst h0; exact Or.inl rfl
    · have ea := addr_spot (show W.cell? (a.add 0) = some (V0 0) by simpa using (hx 0 (by omega)).1)
      refine Or.inr ⟨a.block, a.off, by rw [← ea], ?_, fun i hi => ?_⟩
      · have := (hx 0 (by omega)).1
        rw [ea, add_at] at this
        exact World.block_lt_of_cell? W ⟨a.block, a.off + 0 * 2, none⟩ this
      · have hi' : i < len := by simpa using hi
        obtain ⟨s, t, e0, e1⟩ := key i (by omega)
        obtain ⟨g0, g1, _, _⟩ := hx i (by omega)
        rw [ea, add_at] at g0 g1
        have ep : ptAt ((List.range len).map fun i => (iv (V0 i), iv (V1 i))) i = (s, t) := by simp [ptAt, hi', e0, e1, iv]
        rw [ep, g0, e0, Nat.add_assoc, g1, e1]
        exact ⟨rfl, rfl⟩
set_option maxRecDepth 100000 in
theorem open_points {r : Reach} {b0 : Nat} {v : Value} {d : DataW H} {p : List MemPlace} (hv : Value.okWide Tryz.prog W r b0 79 v) (h : DataW.Trod enc Tryz.prog W base (fun _ => true) held 79 v d p) :
    ∃ a l c, v = .slice a l.length c ∧ Pts W a l ∧ l.length ≤ maxLen := by
  obtain ⟨a0, len, cap, rfl⟩ := okWide_slice Tryz.underlying79 hv
  obtain ⟨fuel, hf⟩ := h
  exact open_pts (by simpa [Value.cells] using hf)
end
end Go.Proofs.YtfdjjbgcaojcnaaGreat
