/-
  The statements of pointsOf, end, draw and bend that draw their order, whatever order comes up; each theorem names its conditions.
-/
import Derived.Test.YtoajjdlgipphiaaD2
import Derived.Test.YtoajjdlgipphiaaRq
namespace Go.Proofs.Ytoajjdlgipphiaa
open Go.ChangeShapes Go.WideShapes Go.ChangeAt Go.RowKit
set_option linter.unusedVariables false

structure POR where
  bx : Nat
  gb : Nat
  go : Nat
  n : Nat
  cc : Nat
  k : Nat
  k1 : Nat
  x : Int
  y : Int
  P : World → Prop
  W : World
  a0 : Act
structure POROk (X : POR) : Prop where
  hk : X.k < X.n
  hk1 : X.k1 < X.n
  cx : X.W.cell? ⟨X.gb, X.go + X.k, none⟩ = some (.int .i64 X.x)
  cy : X.W.cell? ⟨X.gb, X.go + X.k1, none⟩ = some (.int .i64 X.y)
  wk : IntKind.i64.wrap ((X.k : Int) + 1) = (X.k1 : Int)
  ha : Calls Try.prog 59 #[.pointer (some ⟨X.bx, 0, none⟩), .slice (some ⟨X.W.heap.size, 0, none⟩) 1 1] (X.W.alloc (.cells #[.int .i64 X.x, .int .i64 X.y] 54)) fun e w' => e = .returned (.tuple #[]) ∧ X.P w'
  e0 : X.a0.eval (.tmp 0) = .slice (some ⟨X.gb, X.go, none⟩) X.n X.cc
  e3 : X.a0.eval (.tmp 3) = .pointer (some ⟨X.bx, 0, none⟩)
  e4 : X.a0.eval (.tmp 4) = .int .i64 (X.k : Int)
  sz : X.a0.tmps.size = 24
def POR.val0 (X : POR) : Nat → Value
  | 11 => .slice (some ⟨X.gb, X.go, none⟩) X.n X.cc
  | 12 => .int .i64 (X.k : Int)
  | 13 => .pointer (some ⟨X.gb, X.go + X.k, none⟩)
  | 14 => .int .i64 X.x
  | 15 => .slice (some ⟨X.gb, X.go, none⟩) X.n X.cc
  | 16 => .int .i64 (X.k : Int)
  | 17 => .int .i64 (X.k1 : Int)
  | 18 => .pointer (some ⟨X.gb, X.go + X.k1, none⟩)
  | 19 => .int .i64 X.y
  | 20 => .agg #[.int .i64 X.x, .int .i64 X.y]
  | _ => undef
def POR.av : Nat → Option Nat
  | 21 => some 0
  | 22 => some 1
  | _ => none
def POR.acts : List Nat := [10, 11]
/-- The world, by how many of the acting ones have come up. -/
def POR.Wd (X : POR) : Nat → (Nat → Value) → World → Prop
  | 0, _, w => w = X.W
  | 1, γ, w => γ 0 = .slice (some ⟨X.W.heap.size, 0, none⟩) 1 1 ∧ w = X.W.alloc (.cells #[.int .i64 X.x, .int .i64 X.y] 54)
  | _, _, w => X.P w
theorem POR.chain : chainG (opsOf 5 Try.f72) POR.acts = true := by kernel_rfl
theorem POR.nodup : POR.acts.Nodup := by decide
theorem POR.inj {listed : Array Bool} {i k : Nat} (h : (List.range (opsOf 5 Try.f72).size).all (fun j => decide (j = i) || !(match dstOf (opsOf 5 Try.f72) j with | some d => decide (POR.av d = some k) | none => false)) = true) (hu : listed.getD i false = false) : ∀ d, got (opsOf 5 Try.f72) listed d → POR.av d ≠ some k := by
  rintro d ⟨j, h1, h2⟩ h3
  have hlt : j < (opsOf 5 Try.f72).size := by
    rcases Nat.lt_or_ge j (opsOf 5 Try.f72).size with h4 | h4
    · exact h4
    · unfold dstOf at h2; rw [Array.getElem?_eq_none h4] at h2; cases h2
  have h5 := List.all_eq_true.1 h j (List.mem_range.2 hlt)
  rw [h2] at h5
  simp only [h3, decide_true, Bool.not_true, Bool.or_false, decide_eq_true_eq] at h5
  subst h5
  rw [hu] at h1
  cases h1
theorem POR.s0 (X : POR) (ok : POROk X) {Q : Exit → Act → World → Prop} : StepG (opsOf 5 Try.f72) POR.acts POR.av X.val0 X.Wd X.a0 Q 0 := by
  intro γ listed a w o hF hC hW h1 ho h2
  obtain ⟨hd, hop, hg⟩ := fields2 (x := some 11) (y := Op.move (.tmp 0)) (z := none) (by kernel_rfl) ho
  have e0 : a.eval (.tmp 0) = .slice (some ⟨X.gb, X.go, none⟩) X.n X.cc := (hF.eval0 (by kernel_rfl)).trans ok.e0
  refine st_pureG hF hC hW ho h2 (by decide) hd hg rfl ?_
  show _ = Result.ok (Next.value (.slice (some ⟨X.gb, X.go, none⟩) X.n X.cc)) w
  generalize a.eval = ρ at e0 ⊢
  unfold execOp
  rw [hop]
  simp [e0, go_sem]
theorem POR.s1 (X : POR) (ok : POROk X) {Q : Exit → Act → World → Prop} : StepG (opsOf 5 Try.f72) POR.acts POR.av X.val0 X.Wd X.a0 Q 1 := by
  intro γ listed a w o hF hC hW h1 ho h2
  obtain ⟨hd, hop, hg⟩ := fields2 (x := some 12) (y := Op.move (.tmp 4)) (z := none) (by kernel_rfl) ho
  have e4 : a.eval (.tmp 4) = .int .i64 (X.k : Int) := (hF.eval0 (by kernel_rfl)).trans ok.e4
  refine st_pureG hF hC hW ho h2 (by decide) hd hg rfl ?_
  show _ = Result.ok (Next.value (.int .i64 (X.k : Int))) w
  generalize a.eval = ρ at e4 ⊢
  unfold execOp
  rw [hop]
  simp [e4, go_sem]
theorem POR.s2 (X : POR) (ok : POROk X) {Q : Exit → Act → World → Prop} : StepG (opsOf 5 Try.f72) POR.acts POR.av X.val0 X.Wd X.a0 Q 2 := by
  intro γ listed a w o hF hC hW h1 ho h2
  obtain ⟨hd, hop, hg⟩ := fields2 (x := some 13) (y := Op.indexAddr 25 (.tmp 11) (.tmp 12)) (z := none) (by kernel_rfl) ho
  have e11 : a.eval (.tmp 11) = .slice (some ⟨X.gb, X.go, none⟩) X.n X.cc := slotG hF ho h2 (j := 0) (d := 11) (by kernel_rfl) (by kernel_rfl) (by rw [ok.sz]; decide)
  have e12 : a.eval (.tmp 12) = .int .i64 (X.k : Int) := slotG hF ho h2 (j := 1) (d := 12) (by kernel_rfl) (by kernel_rfl) (by rw [ok.sz]; decide)
  refine st_pureG hF hC hW ho h2 (by decide) hd hg rfl ?_
  show _ = Result.ok (Next.value (.pointer (some ⟨X.gb, X.go + X.k, none⟩))) w
  generalize a.eval = ρ at e11 e12 ⊢
  unfold execOp
  rw [hop]
  simp [e11, e12, ok.hk, go_sem]
theorem POR.s3 (X : POR) (ok : POROk X) {Q : Exit → Act → World → Prop} : StepG (opsOf 5 Try.f72) POR.acts POR.av X.val0 X.Wd X.a0 Q 3 := by
  intro γ listed a w o hF hC hW h1 ho h2
  obtain ⟨hd, hop, hg⟩ := fields2 (x := some 14) (y := Op.load 3 (.tmp 13)) (z := none) (by kernel_rfl) ho
  have e13 : a.eval (.tmp 13) = .pointer (some ⟨X.gb, X.go + X.k, none⟩) := slotG hF ho h2 (j := 2) (d := 13) (by kernel_rfl) (by kernel_rfl) (by rw [ok.sz]; decide)
  have hph := phase_leG (acts := POR.acts) (m := 0) (x := 10) hC (unl (hF.lt ho) h1) rfl [9, 3] (by kernel_rfl) (by decide)
  have hWW := hW
  generalize phase listed POR.acts = n at hph hWW
  obtain rfl : n = 0 := by omega
  have hk : w = X.W := hWW
  have hc := ok.cx
  rw [← hk] at hc
  refine st_pureG hF hC hW ho h2 (by decide) hd hg rfl ?_
  show _ = Result.ok (Next.value (.int .i64 X.x)) w
  generalize a.eval = ρ at e13 ⊢
  unfold execOp
  rw [hop]
  simp [e13, hc, go_sem]
theorem POR.s4 (X : POR) (ok : POROk X) {Q : Exit → Act → World → Prop} : StepG (opsOf 5 Try.f72) POR.acts POR.av X.val0 X.Wd X.a0 Q 4 := by
  intro γ listed a w o hF hC hW h1 ho h2
  obtain ⟨hd, hop, hg⟩ := fields2 (x := some 15) (y := Op.move (.tmp 0)) (z := none) (by kernel_rfl) ho
  have e0 : a.eval (.tmp 0) = .slice (some ⟨X.gb, X.go, none⟩) X.n X.cc := (hF.eval0 (by kernel_rfl)).trans ok.e0
  refine st_pureG hF hC hW ho h2 (by decide) hd hg rfl ?_
  show _ = Result.ok (Next.value (.slice (some ⟨X.gb, X.go, none⟩) X.n X.cc)) w
  generalize a.eval = ρ at e0 ⊢
  unfold execOp
  rw [hop]
  simp [e0, go_sem]
theorem POR.s5 (X : POR) (ok : POROk X) {Q : Exit → Act → World → Prop} : StepG (opsOf 5 Try.f72) POR.acts POR.av X.val0 X.Wd X.a0 Q 5 := by
  intro γ listed a w o hF hC hW h1 ho h2
  obtain ⟨hd, hop, hg⟩ := fields2 (x := some 16) (y := Op.move (.tmp 4)) (z := none) (by kernel_rfl) ho
  have e4 : a.eval (.tmp 4) = .int .i64 (X.k : Int) := (hF.eval0 (by kernel_rfl)).trans ok.e4
  refine st_pureG hF hC hW ho h2 (by decide) hd hg rfl ?_
  show _ = Result.ok (Next.value (.int .i64 (X.k : Int))) w
  generalize a.eval = ρ at e4 ⊢
  unfold execOp
  rw [hop]
  simp [e4, go_sem]
theorem POR.s6 (X : POR) (ok : POROk X) {Q : Exit → Act → World → Prop} : StepG (opsOf 5 Try.f72) POR.acts POR.av X.val0 X.Wd X.a0 Q 6 := by
  intro γ listed a w o hF hC hW h1 ho h2
  obtain ⟨hd, hop, hg⟩ := fields2 (x := some 17) (y := Op.binOp .add 3 (.tmp 16) (.const (.int .i64 1)) 3) (z := none) (by kernel_rfl) ho
  have e16 : a.eval (.tmp 16) = .int .i64 (X.k : Int) := slotG hF ho h2 (j := 5) (d := 16) (by kernel_rfl) (by kernel_rfl) (by rw [ok.sz]; decide)
  have ec1 : a.eval (.const (.int .i64 1)) = .int .i64 1 := rfl
  refine st_pureG hF hC hW ho h2 (by decide) hd hg rfl ?_
  show _ = Result.ok (Next.value (.int .i64 (X.k1 : Int))) w
  generalize a.eval = ρ at e16 ec1 ⊢
  unfold execOp
  rw [hop]
  simp [e16, ec1, ok.wk, go_sem]
theorem POR.s7 (X : POR) (ok : POROk X) {Q : Exit → Act → World → Prop} : StepG (opsOf 5 Try.f72) POR.acts POR.av X.val0 X.Wd X.a0 Q 7 := by
  intro γ listed a w o hF hC hW h1 ho h2
  obtain ⟨hd, hop, hg⟩ := fields2 (x := some 18) (y := Op.indexAddr 25 (.tmp 15) (.tmp 17)) (z := none) (by kernel_rfl) ho
  have e15 : a.eval (.tmp 15) = .slice (some ⟨X.gb, X.go, none⟩) X.n X.cc := slotG hF ho h2 (j := 4) (d := 15) (by kernel_rfl) (by kernel_rfl) (by rw [ok.sz]; decide)
  have e17 : a.eval (.tmp 17) = .int .i64 (X.k1 : Int) := slotG hF ho h2 (j := 6) (d := 17) (by kernel_rfl) (by kernel_rfl) (by rw [ok.sz]; decide)
  refine st_pureG hF hC hW ho h2 (by decide) hd hg rfl ?_
  show _ = Result.ok (Next.value (.pointer (some ⟨X.gb, X.go + X.k1, none⟩))) w
  generalize a.eval = ρ at e15 e17 ⊢
  unfold execOp
  rw [hop]
  simp [e15, e17, ok.hk1, go_sem]
theorem POR.s8 (X : POR) (ok : POROk X) {Q : Exit → Act → World → Prop} : StepG (opsOf 5 Try.f72) POR.acts POR.av X.val0 X.Wd X.a0 Q 8 := by
  intro γ listed a w o hF hC hW h1 ho h2
  obtain ⟨hd, hop, hg⟩ := fields2 (x := some 19) (y := Op.load 3 (.tmp 18)) (z := none) (by kernel_rfl) ho
  have e18 : a.eval (.tmp 18) = .pointer (some ⟨X.gb, X.go + X.k1, none⟩) := slotG hF ho h2 (j := 7) (d := 18) (by kernel_rfl) (by kernel_rfl) (by rw [ok.sz]; decide)
  have hph := phase_leG (acts := POR.acts) (m := 0) (x := 10) hC (unl (hF.lt ho) h1) rfl [9, 8] (by kernel_rfl) (by decide)
  have hWW := hW
  generalize phase listed POR.acts = n at hph hWW
  obtain rfl : n = 0 := by omega
  have hk : w = X.W := hWW
  have hc := ok.cy
  rw [← hk] at hc
  refine st_pureG hF hC hW ho h2 (by decide) hd hg rfl ?_
  show _ = Result.ok (Next.value (.int .i64 X.y)) w
  generalize a.eval = ρ at e18 ⊢
  unfold execOp
  rw [hop]
  simp [e18, hc, go_sem]
theorem POR.s9 (X : POR) (ok : POROk X) {Q : Exit → Act → World → Prop} : StepG (opsOf 5 Try.f72) POR.acts POR.av X.val0 X.Wd X.a0 Q 9 := by
  intro γ listed a w o hF hC hW h1 ho h2
  obtain ⟨hd, hop, hg⟩ := fields2 (x := some 20) (y := Op.build 54 #[(0, (.tmp 14)), (1, (.tmp 19))]) (z := none) (by kernel_rfl) ho
  have e14 : a.eval (.tmp 14) = .int .i64 X.x := slotG hF ho h2 (j := 3) (d := 14) (by kernel_rfl) (by kernel_rfl) (by rw [ok.sz]; decide)
  have e19 : a.eval (.tmp 19) = .int .i64 X.y := slotG hF ho h2 (j := 8) (d := 19) (by kernel_rfl) (by kernel_rfl) (by rw [ok.sz]; decide)
  refine st_pureG hF hC hW ho h2 (by decide) hd hg rfl ?_
  show _ = Result.ok (Next.value (.agg #[.int .i64 X.x, .int .i64 X.y])) w
  generalize a.eval = ρ at e14 e19 ⊢
  unfold execOp
  rw [hop]
  simp [e14, e19, go_sem]
theorem POR.s10 (X : POR) (ok : POROk X) {Q : Exit → Act → World → Prop} : StepG (opsOf 5 Try.f72) POR.acts POR.av X.val0 X.Wd X.a0 Q 10 := by
  intro γ listed a w o hF hC hW h1 ho h2
  obtain ⟨hd, hop, hg⟩ := fields2 (x := some 21) (y := Op.buildSlice 30 1 #[(0, (.tmp 20))]) (z := none) (by kernel_rfl) ho
  have e20 : a.eval (.tmp 20) = .agg #[.int .i64 X.x, .int .i64 X.y] := slotG hF ho h2 (j := 9) (d := 20) (by kernel_rfl) (by kernel_rfl) (by rw [ok.sz]; decide)
  have hu := unl (hF.lt ho) h1
  refine st_actG (k := 0) POR.chain POR.nodup rfl hF hC hW h1 ho h2 (Or.inr ⟨21, hd, rfl⟩) (POR.inj (by kernel_rfl) hu) hg ?_
  intro hW0 K hK
  have hw0 : w = X.W := hW0
  have hr : (execOp a.eval o).run Try.prog w = .ok (.value (.slice (some ⟨w.heap.size, 0, none⟩) 1 1)) (w.alloc (.cells #[.int .i64 X.x, .int .i64 X.y] 54)) := by
    generalize a.eval = ρ at e20 ⊢
    unfold execOp
    rw [hop]
    simp [e20, go_sem]
  unfold Oper.wp
  rw [hr]
  rw [hw0]
  exact hK _ _ ⟨rfl, rfl⟩
theorem POR.s11 (X : POR) (ok : POROk X) {Q : Exit → Act → World → Prop} : StepG (opsOf 5 Try.f72) POR.acts POR.av X.val0 X.Wd X.a0 Q 11 := by
  intro γ listed a w o hF hC hW h1 ho h2
  obtain ⟨hd, hop, hg⟩ := fields2 (x := some 22) (y := Op.call { callee := .value (.func 59), args := #[(.tmp 3), (.tmp 21)], argTypes := #[60, 30] }) (z := none) (by kernel_rfl) ho
  have e3 : a.eval (.tmp 3) = .pointer (some ⟨X.bx, 0, none⟩) := (hF.eval0 (by kernel_rfl)).trans ok.e3
  have e21 : a.eval (.tmp 21) = γ 0 := slotG hF ho h2 (j := 10) (d := 21) (by kernel_rfl) (by kernel_rfl) (by rw [ok.sz]; decide)
  have ef : a.eval (.func 59) = .func (.func 59) #[] #[] := rfl
  have hu := unl (hF.lt ho) h1
  refine st_actG (k := 1) POR.chain POR.nodup rfl hF hC hW h1 ho h2 (Or.inr ⟨22, hd, rfl⟩) (POR.inj (by kernel_rfl) hu) hg ?_
  intro hW0 K hK
  obtain ⟨g0, hw1⟩ := hW0
  rw [g0] at e21
  have hr : (execOp a.eval o).run Try.prog w = .ok (.enter 59 #[.pointer (some ⟨X.bx, 0, none⟩), .slice (some ⟨X.W.heap.size, 0, none⟩) 1 1]) w := by
    generalize a.eval = ρ at e3 e21 ef ⊢
    unfold execOp
    rw [hop]
    simp [e3, e21, ef, go_sem]
  unfold Oper.wp
  rw [hr]
  refine Calls.mono (by rw [hw1]; exact ok.ha) ?_
  rintro e w' ⟨rfl, h⟩
  exact hK _ _ h
theorem POR.size : (opsOf 5 Try.f72).size = 12 := by kernel_rfl
theorem POR.steps (X : POR) (ok : POROk X) {Q : Exit → Act → World → Prop} (i : Nat) (hi : i < (opsOf 5 Try.f72).size) : StepG (opsOf 5 Try.f72) POR.acts POR.av X.val0 X.Wd X.a0 Q i := by
  rw [POR.size] at hi
  have hc : i = 0 ∨ i = 1 ∨ i = 2 ∨ i = 3 ∨ i = 4 ∨ i = 5 ∨ i = 6 ∨ i = 7 ∨ i = 8 ∨ i = 9 ∨ i = 10 ∨ i = 11 := by omega
  rcases hc with rfl | rfl | rfl | rfl | rfl | rfl | rfl | rfl | rfl | rfl | rfl | rfl
  · exact POR.s0 X ok
  · exact POR.s1 X ok
  · exact POR.s2 X ok
  · exact POR.s3 X ok
  · exact POR.s4 X ok
  · exact POR.s5 X ok
  · exact POR.s6 X ok
  · exact POR.s7 X ok
  · exact POR.s8 X ok
  · exact POR.s9 X ok
  · exact POR.s10 X ok
  · exact POR.s11 X ok
theorem POR.puts (X : POR) (γ : Nat → Value) (a0 : Act) : putsL (valG POR.av X.val0 γ) (opsOf 5 Try.f72).toList a0 = ((((((((((((a0.put (some 11) (.slice (some ⟨X.gb, X.go, none⟩) X.n X.cc)).put (some 12) (.int .i64 (X.k : Int))).put (some 13) (.pointer (some ⟨X.gb, X.go + X.k, none⟩))).put (some 14) (.int .i64 X.x)).put (some 15) (.slice (some ⟨X.gb, X.go, none⟩) X.n X.cc)).put (some 16) (.int .i64 (X.k : Int))).put (some 17) (.int .i64 (X.k1 : Int))).put (some 18) (.pointer (some ⟨X.gb, X.go + X.k1, none⟩))).put (some 19) (.int .i64 X.y)).put (some 20) (.agg #[.int .i64 X.x, .int .i64 X.y])).put (some 21) (γ 0)).put (some 22) (γ 1)) := by kernel_rfl
/-- The region, whatever order comes up. -/
theorem POR.run (X : POR) (ok : POROk X) {Q : Exit → Act → World → Prop} (w : World) (h0 : X.Wd 0 (fun _ => undef) w.drew) (hend : ∀ (γ : Nat → Value) w', X.Wd 2 γ w' → Q .normal ((((((((((((X.a0.put (some 11) (.slice (some ⟨X.gb, X.go, none⟩) X.n X.cc)).put (some 12) (.int .i64 (X.k : Int))).put (some 13) (.pointer (some ⟨X.gb, X.go + X.k, none⟩))).put (some 14) (.int .i64 X.x)).put (some 15) (.slice (some ⟨X.gb, X.go, none⟩) X.n X.cc)).put (some 16) (.int .i64 (X.k : Int))).put (some 17) (.int .i64 (X.k1 : Int))).put (some 18) (.pointer (some ⟨X.gb, X.go + X.k1, none⟩))).put (some 19) (.int .i64 X.y)).put (some 20) (.agg #[.int .i64 X.x, .int .i64 X.y])).put (some 21) (γ 0)).put (some 22) (γ 1)) w') : (Code.region 5 (opsOf 5 Try.f72) true).wp Try.prog Q X.a0 w := by
  refine reg_act (acts := POR.acts) (av := POR.av) (val0 := X.val0) (Wd := X.Wd) (by kernel_rfl) (by kernel_rfl) (by rw [POR.size]; decide) (fun i hi => POR.steps X ok i hi) _ h0 ?_
  intro γ w' h
  rw [POR.puts]
  exact hend γ w' h
structure ENR where
  bx : Nat
  va : Option Addr
  vn : Nat
  vc : Nat
  it : Its
  ua : Option Addr
  un : Nat
  uc : Nat
  p : List Pnt
  c : Bool
  W : World
  a0 : Act
structure ENROk (X : ENR) : Prop where
  d : DW X.bx X.W (.slice X.va X.vn X.vc) X.it (.slice X.ua X.un X.uc) X.p
  len : X.it.length ≤ 100000
  e0 : X.a0.eval (.tmp 0) = .pointer (some ⟨X.bx, 0, none⟩)
  e1 : X.a0.eval (.tmp 1) = .bool X.c
  sz : X.a0.tmps.size = 28
def ENR.val0 (X : ENR) : Nat → Value
  | 10 => .pointer (some ⟨X.bx, 0, none⟩)
  | 11 => .pointer (some ⟨X.bx, 0, none⟩)
  | 12 => .pointer (some ⟨X.bx, 0, none⟩)
  | 13 => .pointer (some ⟨X.bx, 0, none⟩)
  | 14 => .slice X.va X.vn X.vc
  | 15 => .pointer (some ⟨X.bx, 0, none⟩)
  | 16 => .pointer (some ⟨X.bx, 0, none⟩)
  | 17 => .pointer (some ⟨X.bx, 1, none⟩)
  | 18 => .slice X.ua X.un X.uc
  | 19 => .bool X.c
  | 20 => .agg #[.slice X.ua X.un X.uc, .bool X.c]
  | 23 => .pointer (some ⟨X.bx, 0, none⟩)
  | 24 => .pointer (some ⟨X.bx, 0, none⟩)
  | _ => undef
def ENR.av : Nat → Option Nat
  | 21 => some 0
  | 22 => some 1
  | _ => none
def ENR.acts : List Nat := [11, 12, 15]
/-- The world, by how many of the acting ones have come up. -/
def ENR.Wd (X : ENR) : Nat → (Nat → Value) → World → Prop
  | 0, _, w => w = X.W
  | 1, γ, w => γ 0 = .slice (some ⟨X.W.heap.size, 0, none⟩) 1 1 ∧ w = (X.W.alloc (.cells #[.slice X.ua X.un X.uc, .bool X.c] 32))
  | 2, γ, w => (∃ g c, γ 1 = .slice (some ⟨g, 0, none⟩) (X.it.length + 1) c) ∧ OwnQ 32 w (X.bx + 1) (γ 1) (vLn (X.it ++ [(.slice X.ua X.un X.uc, ⟨X.p, X.c⟩)])) ∧ Ext (.slice X.va X.vn X.vc) (γ 1) (X.W.alloc (.cells #[.slice X.ua X.un X.uc, .bool X.c] 32)) w
  | _, γ, w => ∃ w2, OwnQ 32 w2 (X.bx + 1) (γ 1) (vLn (X.it ++ [(.slice X.ua X.un X.uc, ⟨X.p, X.c⟩)])) ∧ Ext (.slice X.va X.vn X.vc) (γ 1) (X.W.alloc (.cells #[.slice X.ua X.un X.uc, .bool X.c] 32)) w2 ∧ w = w2.setCell ⟨X.bx, 0, none⟩ (γ 1)
theorem ENR.chain : chainG (opsOf 1 Try.f49) ENR.acts = true := by kernel_rfl
theorem ENR.nodup : ENR.acts.Nodup := by decide
theorem ENR.inj {listed : Array Bool} {i k : Nat} (h : (List.range (opsOf 1 Try.f49).size).all (fun j => decide (j = i) || !(match dstOf (opsOf 1 Try.f49) j with | some d => decide (ENR.av d = some k) | none => false)) = true) (hu : listed.getD i false = false) : ∀ d, got (opsOf 1 Try.f49) listed d → ENR.av d ≠ some k := by
  rintro d ⟨j, h1, h2⟩ h3
  have hlt : j < (opsOf 1 Try.f49).size := by
    rcases Nat.lt_or_ge j (opsOf 1 Try.f49).size with h4 | h4
    · exact h4
    · unfold dstOf at h2; rw [Array.getElem?_eq_none h4] at h2; cases h2
  have h5 := List.all_eq_true.1 h j (List.mem_range.2 hlt)
  rw [h2] at h5
  simp only [h3, decide_true, Bool.not_true, Bool.or_false, decide_eq_true_eq] at h5
  subst h5
  rw [hu] at h1
  cases h1
theorem ENR.s0 (X : ENR) (ok : ENROk X) {Q : Exit → Act → World → Prop} : StepG (opsOf 1 Try.f49) ENR.acts ENR.av X.val0 X.Wd X.a0 Q 0 := by
  intro γ listed a w o hF hC hW h1 ho h2
  obtain ⟨hd, hop, hg⟩ := fields2 (x := some 10) (y := Op.move (.tmp 0)) (z := none) (by kernel_rfl) ho
  have e0 : a.eval (.tmp 0) = .pointer (some ⟨X.bx, 0, none⟩) := (hF.eval0 (by kernel_rfl)).trans ok.e0
  refine st_pureG hF hC hW ho h2 (by decide) hd hg rfl ?_
  show _ = Result.ok (Next.value (.pointer (some ⟨X.bx, 0, none⟩))) w
  generalize a.eval = ρ at e0 ⊢
  unfold execOp
  rw [hop]
  simp [e0, go_sem]
theorem ENR.s1 (X : ENR) (ok : ENROk X) {Q : Exit → Act → World → Prop} : StepG (opsOf 1 Try.f49) ENR.acts ENR.av X.val0 X.Wd X.a0 Q 1 := by
  intro γ listed a w o hF hC hW h1 ho h2
  obtain ⟨hd, hop, hg⟩ := fields2 (x := some 11) (y := Op.move (.tmp 0)) (z := none) (by kernel_rfl) ho
  have e0 : a.eval (.tmp 0) = .pointer (some ⟨X.bx, 0, none⟩) := (hF.eval0 (by kernel_rfl)).trans ok.e0
  refine st_pureG hF hC hW ho h2 (by decide) hd hg rfl ?_
  show _ = Result.ok (Next.value (.pointer (some ⟨X.bx, 0, none⟩))) w
  generalize a.eval = ρ at e0 ⊢
  unfold execOp
  rw [hop]
  simp [e0, go_sem]
theorem ENR.s2 (X : ENR) (ok : ENROk X) {Q : Exit → Act → World → Prop} : StepG (opsOf 1 Try.f49) ENR.acts ENR.av X.val0 X.Wd X.a0 Q 2 := by
  intro γ listed a w o hF hC hW h1 ho h2
  obtain ⟨hd, hop, hg⟩ := fields2 (x := some 12) (y := Op.nilCheck (.tmp 11)) (z := none) (by kernel_rfl) ho
  have e11 : a.eval (.tmp 11) = .pointer (some ⟨X.bx, 0, none⟩) := slotG hF ho h2 (j := 1) (d := 11) (by kernel_rfl) (by kernel_rfl) (by rw [ok.sz]; decide)
  refine st_pureG hF hC hW ho h2 (by decide) hd hg rfl ?_
  show _ = Result.ok (Next.value (.pointer (some ⟨X.bx, 0, none⟩))) w
  generalize a.eval = ρ at e11 ⊢
  unfold execOp
  rw [hop]
  simp [e11, go_sem]
theorem ENR.s3 (X : ENR) (ok : ENROk X) {Q : Exit → Act → World → Prop} : StepG (opsOf 1 Try.f49) ENR.acts ENR.av X.val0 X.Wd X.a0 Q 3 := by
  intro γ listed a w o hF hC hW h1 ho h2
  obtain ⟨hd, hop, hg⟩ := fields2 (x := some 13) (y := Op.fieldAddr 79 (.tmp 12) 0) (z := none) (by kernel_rfl) ho
  have e12 : a.eval (.tmp 12) = .pointer (some ⟨X.bx, 0, none⟩) := slotG hF ho h2 (j := 2) (d := 12) (by kernel_rfl) (by kernel_rfl) (by rw [ok.sz]; decide)
  refine st_pureG hF hC hW ho h2 (by decide) hd hg rfl ?_
  show _ = Result.ok (Next.value (.pointer (some ⟨X.bx, 0, none⟩))) w
  generalize a.eval = ρ at e12 ⊢
  unfold execOp
  rw [hop]
  simp [e12, go_sem]
theorem ENR.s4 (X : ENR) (ok : ENROk X) {Q : Exit → Act → World → Prop} : StepG (opsOf 1 Try.f49) ENR.acts ENR.av X.val0 X.Wd X.a0 Q 4 := by
  intro γ listed a w o hF hC hW h1 ho h2
  obtain ⟨hd, hop, hg⟩ := fields2 (x := some 14) (y := Op.load 27 (.tmp 13)) (z := none) (by kernel_rfl) ho
  have e13 : a.eval (.tmp 13) = .pointer (some ⟨X.bx, 0, none⟩) := slotG hF ho h2 (j := 3) (d := 13) (by kernel_rfl) (by kernel_rfl) (by rw [ok.sz]; decide)
  have hph := phase_leG (acts := ENR.acts) (m := 1) (x := 12) hC (unl (hF.lt ho) h1) rfl [4] (by kernel_rfl) (by decide)
  have hWW := hW
  generalize phase listed ENR.acts = n at hph hWW
  have hc : w.cell? ⟨X.bx, 0, none⟩ = some (.slice X.va X.vn X.vc) := by
    rcases (show n = 0 ∨ n = 1 by omega) with rfl | rfl
    · have hk : w = X.W := hWW
      rw [hk]; exact ok.d.c0
    · obtain ⟨_, rfl⟩ := hWW
      exact (ok.d.nw ((Below.refl _ _).alloc (Nat.le_refl _) _)).c0
  refine st_pureG hF hC hW ho h2 (by decide) hd hg rfl ?_
  show _ = Result.ok (Next.value (.slice X.va X.vn X.vc)) w
  generalize a.eval = ρ at e13 ⊢
  unfold execOp
  rw [hop]
  simp [e13, hc, go_sem]
theorem ENR.s5 (X : ENR) (ok : ENROk X) {Q : Exit → Act → World → Prop} : StepG (opsOf 1 Try.f49) ENR.acts ENR.av X.val0 X.Wd X.a0 Q 5 := by
  intro γ listed a w o hF hC hW h1 ho h2
  obtain ⟨hd, hop, hg⟩ := fields2 (x := some 15) (y := Op.move (.tmp 0)) (z := none) (by kernel_rfl) ho
  have e0 : a.eval (.tmp 0) = .pointer (some ⟨X.bx, 0, none⟩) := (hF.eval0 (by kernel_rfl)).trans ok.e0
  refine st_pureG hF hC hW ho h2 (by decide) hd hg rfl ?_
  show _ = Result.ok (Next.value (.pointer (some ⟨X.bx, 0, none⟩))) w
  generalize a.eval = ρ at e0 ⊢
  unfold execOp
  rw [hop]
  simp [e0, go_sem]
theorem ENR.s6 (X : ENR) (ok : ENROk X) {Q : Exit → Act → World → Prop} : StepG (opsOf 1 Try.f49) ENR.acts ENR.av X.val0 X.Wd X.a0 Q 6 := by
  intro γ listed a w o hF hC hW h1 ho h2
  obtain ⟨hd, hop, hg⟩ := fields2 (x := some 16) (y := Op.nilCheck (.tmp 15)) (z := none) (by kernel_rfl) ho
  have e15 : a.eval (.tmp 15) = .pointer (some ⟨X.bx, 0, none⟩) := slotG hF ho h2 (j := 5) (d := 15) (by kernel_rfl) (by kernel_rfl) (by rw [ok.sz]; decide)
  refine st_pureG hF hC hW ho h2 (by decide) hd hg rfl ?_
  show _ = Result.ok (Next.value (.pointer (some ⟨X.bx, 0, none⟩))) w
  generalize a.eval = ρ at e15 ⊢
  unfold execOp
  rw [hop]
  simp [e15, go_sem]
theorem ENR.s7 (X : ENR) (ok : ENROk X) {Q : Exit → Act → World → Prop} : StepG (opsOf 1 Try.f49) ENR.acts ENR.av X.val0 X.Wd X.a0 Q 7 := by
  intro γ listed a w o hF hC hW h1 ho h2
  obtain ⟨hd, hop, hg⟩ := fields2 (x := some 17) (y := Op.fieldAddr 79 (.tmp 16) 1) (z := none) (by kernel_rfl) ho
  have e16 : a.eval (.tmp 16) = .pointer (some ⟨X.bx, 0, none⟩) := slotG hF ho h2 (j := 6) (d := 16) (by kernel_rfl) (by kernel_rfl) (by rw [ok.sz]; decide)
  refine st_pureG hF hC hW ho h2 (by decide) hd hg rfl ?_
  show _ = Result.ok (Next.value (.pointer (some ⟨X.bx, 1, none⟩))) w
  generalize a.eval = ρ at e16 ⊢
  unfold execOp
  rw [hop]
  simp [e16, go_sem]
theorem ENR.s8 (X : ENR) (ok : ENROk X) {Q : Exit → Act → World → Prop} : StepG (opsOf 1 Try.f49) ENR.acts ENR.av X.val0 X.Wd X.a0 Q 8 := by
  intro γ listed a w o hF hC hW h1 ho h2
  obtain ⟨hd, hop, hg⟩ := fields2 (x := some 18) (y := Op.load 60 (.tmp 17)) (z := none) (by kernel_rfl) ho
  have e17 : a.eval (.tmp 17) = .pointer (some ⟨X.bx, 1, none⟩) := slotG hF ho h2 (j := 7) (d := 17) (by kernel_rfl) (by kernel_rfl) (by rw [ok.sz]; decide)
  have hph := phase_leG (acts := ENR.acts) (m := 0) (x := 11) hC (unl (hF.lt ho) h1) rfl [10, 8] (by kernel_rfl) (by decide)
  have hWW := hW
  generalize phase listed ENR.acts = n at hph hWW
  obtain rfl : n = 0 := by omega
  have hk : w = X.W := hWW
  have hc := ok.d.c1
  rw [← hk] at hc
  refine st_pureG hF hC hW ho h2 (by decide) hd hg rfl ?_
  show _ = Result.ok (Next.value (.slice X.ua X.un X.uc)) w
  generalize a.eval = ρ at e17 ⊢
  unfold execOp
  rw [hop]
  simp [e17, hc, go_sem]
theorem ENR.s9 (X : ENR) (ok : ENROk X) {Q : Exit → Act → World → Prop} : StepG (opsOf 1 Try.f49) ENR.acts ENR.av X.val0 X.Wd X.a0 Q 9 := by
  intro γ listed a w o hF hC hW h1 ho h2
  obtain ⟨hd, hop, hg⟩ := fields2 (x := some 19) (y := Op.move (.tmp 1)) (z := none) (by kernel_rfl) ho
  have e1 : a.eval (.tmp 1) = .bool X.c := (hF.eval0 (by kernel_rfl)).trans ok.e1
  refine st_pureG hF hC hW ho h2 (by decide) hd hg rfl ?_
  show _ = Result.ok (Next.value (.bool X.c)) w
  generalize a.eval = ρ at e1 ⊢
  unfold execOp
  rw [hop]
  simp [e1, go_sem]
theorem ENR.s10 (X : ENR) (ok : ENROk X) {Q : Exit → Act → World → Prop} : StepG (opsOf 1 Try.f49) ENR.acts ENR.av X.val0 X.Wd X.a0 Q 10 := by
  intro γ listed a w o hF hC hW h1 ho h2
  obtain ⟨hd, hop, hg⟩ := fields2 (x := some 20) (y := Op.build 32 #[(0, (.tmp 18)), (1, (.tmp 19))]) (z := none) (by kernel_rfl) ho
  have e18 : a.eval (.tmp 18) = .slice X.ua X.un X.uc := slotG hF ho h2 (j := 8) (d := 18) (by kernel_rfl) (by kernel_rfl) (by rw [ok.sz]; decide)
  have e19 : a.eval (.tmp 19) = .bool X.c := slotG hF ho h2 (j := 9) (d := 19) (by kernel_rfl) (by kernel_rfl) (by rw [ok.sz]; decide)
  refine st_pureG hF hC hW ho h2 (by decide) hd hg rfl ?_
  show _ = Result.ok (Next.value (.agg #[.slice X.ua X.un X.uc, .bool X.c])) w
  generalize a.eval = ρ at e18 e19 ⊢
  unfold execOp
  rw [hop]
  simp [e18, e19, go_sem]
theorem ENR.s11 (X : ENR) (ok : ENROk X) {Q : Exit → Act → World → Prop} : StepG (opsOf 1 Try.f49) ENR.acts ENR.av X.val0 X.Wd X.a0 Q 11 := by
  intro γ listed a w o hF hC hW h1 ho h2
  obtain ⟨hd, hop, hg⟩ := fields2 (x := some 21) (y := Op.buildSlice 27 1 #[(0, (.tmp 20))]) (z := none) (by kernel_rfl) ho
  have e20 : a.eval (.tmp 20) = .agg #[.slice X.ua X.un X.uc, .bool X.c] := slotG hF ho h2 (j := 10) (d := 20) (by kernel_rfl) (by kernel_rfl) (by rw [ok.sz]; decide)
  have hu := unl (hF.lt ho) h1
  refine st_actG (k := 0) ENR.chain ENR.nodup rfl hF hC hW h1 ho h2 (Or.inr ⟨21, hd, rfl⟩) (ENR.inj (by kernel_rfl) hu) hg ?_
  intro hW0 K hK
  have hw0 : w = X.W := hW0
  have hr : (execOp a.eval o).run Try.prog w = .ok (.value (.slice (some ⟨w.heap.size, 0, none⟩) 1 1)) (w.alloc (.cells #[.slice X.ua X.un X.uc, .bool X.c] 32)) := by
    generalize a.eval = ρ at e20 ⊢
    unfold execOp
    rw [hop]
    simp [e20, go_sem]
  unfold Oper.wp
  rw [hr, hw0]
  exact hK _ _ ⟨rfl, rfl⟩
theorem ENR.s12 (X : ENR) (ok : ENROk X) {Q : Exit → Act → World → Prop} : StepG (opsOf 1 Try.f49) ENR.acts ENR.av X.val0 X.Wd X.a0 Q 12 := by
  intro γ listed a w o hF hC hW h1 ho h2
  obtain ⟨hd, hop, hg⟩ := fields2 (x := some 22) (y := Op.call { callee := .builtin .append, args := #[(.tmp 14), (.tmp 21)], argTypes := #[27, 27] }) (z := none) (by kernel_rfl) ho
  have e14 : a.eval (.tmp 14) = .slice X.va X.vn X.vc := slotG hF ho h2 (j := 4) (d := 14) (by kernel_rfl) (by kernel_rfl) (by rw [ok.sz]; decide)
  have e21 : a.eval (.tmp 21) = γ 0 := slotG hF ho h2 (j := 11) (d := 21) (by kernel_rfl) (by kernel_rfl) (by rw [ok.sz]; decide)
  have hu := unl (hF.lt ho) h1
  refine st_actG (k := 1) ENR.chain ENR.nodup rfl hF hC hW h1 ho h2 (Or.inr ⟨22, hd, rfl⟩) (ENR.inj (by kernel_rfl) hu) hg ?_
  intro hW0 K hK
  obtain ⟨g0, rfl⟩ := hW0
  rw [g0] at e21
  have n1 : Nw X.W (X.W.alloc (.cells #[.slice X.ua X.un X.uc, .bool X.c] 32)) := (Below.refl _ _).alloc (Nat.le_refl _) _
  refine wp_q 32 27 27 (.slice none 0 0) (.bool false) 32 under_lns under_lns info_line (by decide) rfl _ (.tmp 14) (.tmp 21) hop (X.bx + 1) (.slice X.va X.vn X.vc) (vLn X.it) [(.slice X.ua X.un X.uc, .bool X.c)] e14 (ok.d.d.ln.own.nw n1) X.W.heap.size 0 1 1 rfl e21 (fun i hi => by
    have : i = 0 := by simp at hi; omega
    subst this
    simp [vvAt]) (fun u hu => by simp [flat2] at hu; rcases hu with rfl | rfl <;> rfl) (by simp) (by rw [vLn_len]; have := ok.len; simp; omega) (by have := ok.d.lt; simp; omega) ?_
  intro g' c' w' h3 h4
  rw [vLn_len] at h3 h4 ⊢
  have e1 : vLn X.it ++ [(.slice X.ua X.un X.uc, .bool X.c)] = vLn (X.it ++ [(.slice X.ua X.un X.uc, ⟨X.p, X.c⟩)]) := by rw [vLn_append]; rfl
  rw [e1] at h3
  exact hK _ _ ⟨⟨g', c', rfl⟩, h3, h4⟩
theorem ENR.s13 (X : ENR) (ok : ENROk X) {Q : Exit → Act → World → Prop} : StepG (opsOf 1 Try.f49) ENR.acts ENR.av X.val0 X.Wd X.a0 Q 13 := by
  intro γ listed a w o hF hC hW h1 ho h2
  obtain ⟨hd, hop, hg⟩ := fields2 (x := some 23) (y := Op.nilCheck (.tmp 10)) (z := none) (by kernel_rfl) ho
  have e10 : a.eval (.tmp 10) = .pointer (some ⟨X.bx, 0, none⟩) := slotG hF ho h2 (j := 0) (d := 10) (by kernel_rfl) (by kernel_rfl) (by rw [ok.sz]; decide)
  refine st_pureG hF hC hW ho h2 (by decide) hd hg rfl ?_
  show _ = Result.ok (Next.value (.pointer (some ⟨X.bx, 0, none⟩))) w
  generalize a.eval = ρ at e10 ⊢
  unfold execOp
  rw [hop]
  simp [e10, go_sem]
theorem ENR.s14 (X : ENR) (ok : ENROk X) {Q : Exit → Act → World → Prop} : StepG (opsOf 1 Try.f49) ENR.acts ENR.av X.val0 X.Wd X.a0 Q 14 := by
  intro γ listed a w o hF hC hW h1 ho h2
  obtain ⟨hd, hop, hg⟩ := fields2 (x := some 24) (y := Op.fieldAddr 79 (.tmp 23) 0) (z := none) (by kernel_rfl) ho
  have e23 : a.eval (.tmp 23) = .pointer (some ⟨X.bx, 0, none⟩) := slotG hF ho h2 (j := 13) (d := 23) (by kernel_rfl) (by kernel_rfl) (by rw [ok.sz]; decide)
  refine st_pureG hF hC hW ho h2 (by decide) hd hg rfl ?_
  show _ = Result.ok (Next.value (.pointer (some ⟨X.bx, 0, none⟩))) w
  generalize a.eval = ρ at e23 ⊢
  unfold execOp
  rw [hop]
  simp [e23, go_sem]
theorem ENR.s15 (X : ENR) (ok : ENROk X) {Q : Exit → Act → World → Prop} : StepG (opsOf 1 Try.f49) ENR.acts ENR.av X.val0 X.Wd X.a0 Q 15 := by
  intro γ listed a w o hF hC hW h1 ho h2
  obtain ⟨hd, hop, hg⟩ := fields2 (x := none) (y := Op.store 27 (.tmp 24) (.tmp 22)) (z := none) (by kernel_rfl) ho
  have e24 : a.eval (.tmp 24) = .pointer (some ⟨X.bx, 0, none⟩) := slotG hF ho h2 (j := 14) (d := 24) (by kernel_rfl) (by kernel_rfl) (by rw [ok.sz]; decide)
  have e22 : a.eval (.tmp 22) = γ 1 := slotG hF ho h2 (j := 12) (d := 22) (by kernel_rfl) (by kernel_rfl) (by rw [ok.sz]; decide)
  have hu := unl (hF.lt ho) h1
  refine st_actG (k := 2) ENR.chain ENR.nodup rfl hF hC hW h1 ho h2 (Or.inl hd) (ENR.inj (by kernel_rfl) hu) hg ?_
  intro hW0 K hK
  obtain ⟨⟨g, cc, g1⟩, o1, x1⟩ := hW0
  have n1 : Nw X.W (X.W.alloc (.cells #[.slice X.ua X.un X.uc, .bool X.c] 32)) := (Below.refl _ _).alloc (Nat.le_refl _) _
  have t0 := (Ext.cell x1 (ok.d.nw n1).lt ok.d.nev 0).trans (ok.d.nw n1).c0
  have tf : ∀ o, w.frozen? ⟨X.bx, o, none⟩ = false := fun o => (World.frozen?_of_block (a := ⟨X.bx, o, none⟩) (x1.1.block X.bx (ok.d.nw n1).lt (fun e => ok.d.nev e.symm))).trans ((ok.d.nw n1).free o)
  have hr : (execOp a.eval o).run Try.prog w = .ok .skip (w.setCell ⟨X.bx, 0, none⟩ (γ 1)) := by
    rw [g1] at e22 ⊢
    generalize a.eval = ρ at e22 e24 ⊢
    unfold execOp
    rw [hop]
    simp [e22, e24, t0, tf, go_sem]
  unfold Oper.wp
  rw [hr]
  exact hK _ _ ⟨w, o1, x1, rfl⟩
theorem ENR.size : (opsOf 1 Try.f49).size = 16 := by kernel_rfl
theorem ENR.steps (X : ENR) (ok : ENROk X) {Q : Exit → Act → World → Prop} (i : Nat) (hi : i < (opsOf 1 Try.f49).size) : StepG (opsOf 1 Try.f49) ENR.acts ENR.av X.val0 X.Wd X.a0 Q i := by
  rw [ENR.size] at hi
  have hc : i = 0 ∨ i = 1 ∨ i = 2 ∨ i = 3 ∨ i = 4 ∨ i = 5 ∨ i = 6 ∨ i = 7 ∨ i = 8 ∨ i = 9 ∨ i = 10 ∨ i = 11 ∨ i = 12 ∨ i = 13 ∨ i = 14 ∨ i = 15 := by omega
  rcases hc with rfl | rfl | rfl | rfl | rfl | rfl | rfl | rfl | rfl | rfl | rfl | rfl | rfl | rfl | rfl | rfl
  · exact ENR.s0 X ok
  · exact ENR.s1 X ok
  · exact ENR.s2 X ok
  · exact ENR.s3 X ok
  · exact ENR.s4 X ok
  · exact ENR.s5 X ok
  · exact ENR.s6 X ok
  · exact ENR.s7 X ok
  · exact ENR.s8 X ok
  · exact ENR.s9 X ok
  · exact ENR.s10 X ok
  · exact ENR.s11 X ok
  · exact ENR.s12 X ok
  · exact ENR.s13 X ok
  · exact ENR.s14 X ok
  · exact ENR.s15 X ok
theorem ENR.puts (X : ENR) (γ : Nat → Value) (a0 : Act) : putsL (valG ENR.av X.val0 γ) (opsOf 1 Try.f49).toList a0 = (((((((((((((((a0.put (some 10) (.pointer (some ⟨X.bx, 0, none⟩))).put (some 11) (.pointer (some ⟨X.bx, 0, none⟩))).put (some 12) (.pointer (some ⟨X.bx, 0, none⟩))).put (some 13) (.pointer (some ⟨X.bx, 0, none⟩))).put (some 14) (.slice X.va X.vn X.vc)).put (some 15) (.pointer (some ⟨X.bx, 0, none⟩))).put (some 16) (.pointer (some ⟨X.bx, 0, none⟩))).put (some 17) (.pointer (some ⟨X.bx, 1, none⟩))).put (some 18) (.slice X.ua X.un X.uc)).put (some 19) (.bool X.c)).put (some 20) (.agg #[.slice X.ua X.un X.uc, .bool X.c])).put (some 21) (γ 0)).put (some 22) (γ 1)).put (some 23) (.pointer (some ⟨X.bx, 0, none⟩))).put (some 24) (.pointer (some ⟨X.bx, 0, none⟩))) := by kernel_rfl
/-- The region, whatever order comes up. -/
theorem ENR.run (X : ENR) (ok : ENROk X) {Q : Exit → Act → World → Prop} (w : World) (h0 : X.Wd 0 (fun _ => undef) w.drew) (hend : ∀ (γ : Nat → Value) w', X.Wd 3 γ w' → Q .normal (((((((((((((((X.a0.put (some 10) (.pointer (some ⟨X.bx, 0, none⟩))).put (some 11) (.pointer (some ⟨X.bx, 0, none⟩))).put (some 12) (.pointer (some ⟨X.bx, 0, none⟩))).put (some 13) (.pointer (some ⟨X.bx, 0, none⟩))).put (some 14) (.slice X.va X.vn X.vc)).put (some 15) (.pointer (some ⟨X.bx, 0, none⟩))).put (some 16) (.pointer (some ⟨X.bx, 0, none⟩))).put (some 17) (.pointer (some ⟨X.bx, 1, none⟩))).put (some 18) (.slice X.ua X.un X.uc)).put (some 19) (.bool X.c)).put (some 20) (.agg #[.slice X.ua X.un X.uc, .bool X.c])).put (some 21) (γ 0)).put (some 22) (γ 1)).put (some 23) (.pointer (some ⟨X.bx, 0, none⟩))).put (some 24) (.pointer (some ⟨X.bx, 0, none⟩))) w') : (Code.region 1 (opsOf 1 Try.f49) true).wp Try.prog Q X.a0 w := by
  refine reg_act (acts := ENR.acts) (av := ENR.av) (val0 := X.val0) (Wd := X.Wd) (by kernel_rfl) (by kernel_rfl) (by rw [ENR.size]; decide) (fun i hi => ENR.steps X ok i hi) _ h0 ?_
  intro γ w' h
  rw [ENR.puts]
  exact hend γ w' h
structure DRM where
  bx : Nat
  bs : Nat
  na : Option Addr
  nn : Nat
  nc : Nat
  P : World → Value → Prop
  R : World → Prop
  W : World
  a0 : Act
structure DRMOk (X : DRM) : Prop where
  cs : X.W.cell? ⟨X.bs, 1, none⟩ = some (.slice X.na X.nn X.nc)
  hp : Calls Try.prog 72 #[.slice X.na X.nn X.nc] X.W fun e w' => ∃ u, e = .returned u ∧ X.P w' u
  ha : ∀ w u, X.P w u → Calls Try.prog 59 #[.pointer (some ⟨X.bx, 1, none⟩), u] w fun e w' => e = .returned (.tuple #[]) ∧ X.R w'
  e0 : X.a0.eval (.tmp 0) = .pointer (some ⟨X.bx, 0, none⟩)
  e3 : X.a0.eval (.tmp 3) = .pointer (some ⟨X.bs, 0, none⟩)
  sz : X.a0.tmps.size = 50
def DRM.val0 (X : DRM) : Nat → Value
  | 11 => .pointer (some ⟨X.bx, 0, none⟩)
  | 12 => .pointer (some ⟨X.bx, 0, none⟩)
  | 13 => .pointer (some ⟨X.bx, 1, none⟩)
  | 14 => .pointer (some ⟨X.bs, 1, none⟩)
  | 15 => .slice X.na X.nn X.nc
  | _ => undef
def DRM.av : Nat → Option Nat
  | 16 => some 0
  | 17 => some 1
  | _ => none
def DRM.acts : List Nat := [5, 6]
/-- The world, by how many of the acting ones have come up. -/
def DRM.Wd (X : DRM) : Nat → (Nat → Value) → World → Prop
  | 0, _, w => w = X.W
  | 1, γ, w => X.P w (γ 0)
  | _, _, w => X.R w
theorem DRM.chain : chainG (opsOf 4 Try.f48) DRM.acts = true := by kernel_rfl
theorem DRM.nodup : DRM.acts.Nodup := by decide
theorem DRM.inj {listed : Array Bool} {i k : Nat} (h : (List.range (opsOf 4 Try.f48).size).all (fun j => decide (j = i) || !(match dstOf (opsOf 4 Try.f48) j with | some d => decide (DRM.av d = some k) | none => false)) = true) (hu : listed.getD i false = false) : ∀ d, got (opsOf 4 Try.f48) listed d → DRM.av d ≠ some k := by
  rintro d ⟨j, h1, h2⟩ h3
  have hlt : j < (opsOf 4 Try.f48).size := by
    rcases Nat.lt_or_ge j (opsOf 4 Try.f48).size with h4 | h4
    · exact h4
    · unfold dstOf at h2; rw [Array.getElem?_eq_none h4] at h2; cases h2
  have h5 := List.all_eq_true.1 h j (List.mem_range.2 hlt)
  rw [h2] at h5
  simp only [h3, decide_true, Bool.not_true, Bool.or_false, decide_eq_true_eq] at h5
  subst h5
  rw [hu] at h1
  cases h1
theorem DRM.s0 (X : DRM) (ok : DRMOk X) {Q : Exit → Act → World → Prop} : StepG (opsOf 4 Try.f48) DRM.acts DRM.av X.val0 X.Wd X.a0 Q 0 := by
  intro γ listed a w o hF hC hW h1 ho h2
  obtain ⟨hd, hop, hg⟩ := fields2 (x := some 11) (y := Op.move (.tmp 0)) (z := none) (by kernel_rfl) ho
  have e0 : a.eval (.tmp 0) = .pointer (some ⟨X.bx, 0, none⟩) := (hF.eval0 (by kernel_rfl)).trans ok.e0
  refine st_pureG hF hC hW ho h2 (by decide) hd hg rfl ?_
  show _ = Result.ok (Next.value (.pointer (some ⟨X.bx, 0, none⟩))) w
  generalize a.eval = ρ at e0 ⊢
  unfold execOp
  rw [hop]
  simp [e0, go_sem]
theorem DRM.s1 (X : DRM) (ok : DRMOk X) {Q : Exit → Act → World → Prop} : StepG (opsOf 4 Try.f48) DRM.acts DRM.av X.val0 X.Wd X.a0 Q 1 := by
  intro γ listed a w o hF hC hW h1 ho h2
  obtain ⟨hd, hop, hg⟩ := fields2 (x := some 12) (y := Op.nilCheck (.tmp 11)) (z := none) (by kernel_rfl) ho
  have e11 : a.eval (.tmp 11) = .pointer (some ⟨X.bx, 0, none⟩) := slotG hF ho h2 (j := 0) (d := 11) (by kernel_rfl) (by kernel_rfl) (by rw [ok.sz]; decide)
  refine st_pureG hF hC hW ho h2 (by decide) hd hg rfl ?_
  show _ = Result.ok (Next.value (.pointer (some ⟨X.bx, 0, none⟩))) w
  generalize a.eval = ρ at e11 ⊢
  unfold execOp
  rw [hop]
  simp [e11, go_sem]
theorem DRM.s2 (X : DRM) (ok : DRMOk X) {Q : Exit → Act → World → Prop} : StepG (opsOf 4 Try.f48) DRM.acts DRM.av X.val0 X.Wd X.a0 Q 2 := by
  intro γ listed a w o hF hC hW h1 ho h2
  obtain ⟨hd, hop, hg⟩ := fields2 (x := some 13) (y := Op.fieldAddr 79 (.tmp 12) 1) (z := none) (by kernel_rfl) ho
  have e12 : a.eval (.tmp 12) = .pointer (some ⟨X.bx, 0, none⟩) := slotG hF ho h2 (j := 1) (d := 12) (by kernel_rfl) (by kernel_rfl) (by rw [ok.sz]; decide)
  refine st_pureG hF hC hW ho h2 (by decide) hd hg rfl ?_
  show _ = Result.ok (Next.value (.pointer (some ⟨X.bx, 1, none⟩))) w
  generalize a.eval = ρ at e12 ⊢
  unfold execOp
  rw [hop]
  simp [e12, go_sem]
theorem DRM.s3 (X : DRM) (ok : DRMOk X) {Q : Exit → Act → World → Prop} : StepG (opsOf 4 Try.f48) DRM.acts DRM.av X.val0 X.Wd X.a0 Q 3 := by
  intro γ listed a w o hF hC hW h1 ho h2
  obtain ⟨hd, hop, hg⟩ := fields2 (x := some 14) (y := Op.fieldAddr 76 (.tmp 3) 1) (z := none) (by kernel_rfl) ho
  have e3 : a.eval (.tmp 3) = .pointer (some ⟨X.bs, 0, none⟩) := (hF.eval0 (by kernel_rfl)).trans ok.e3
  refine st_pureG hF hC hW ho h2 (by decide) hd hg rfl ?_
  show _ = Result.ok (Next.value (.pointer (some ⟨X.bs, 1, none⟩))) w
  generalize a.eval = ρ at e3 ⊢
  unfold execOp
  rw [hop]
  simp [e3, go_sem]
theorem DRM.s4 (X : DRM) (ok : DRMOk X) {Q : Exit → Act → World → Prop} : StepG (opsOf 4 Try.f48) DRM.acts DRM.av X.val0 X.Wd X.a0 Q 4 := by
  intro γ listed a w o hF hC hW h1 ho h2
  obtain ⟨hd, hop, hg⟩ := fields2 (x := some 15) (y := Op.load 25 (.tmp 14)) (z := none) (by kernel_rfl) ho
  have e14 : a.eval (.tmp 14) = .pointer (some ⟨X.bs, 1, none⟩) := slotG hF ho h2 (j := 3) (d := 14) (by kernel_rfl) (by kernel_rfl) (by rw [ok.sz]; decide)
  have hph := phase_leG (acts := DRM.acts) (m := 0) (x := 5) hC (unl (hF.lt ho) h1) rfl [4] (by kernel_rfl) (by decide)
  have hWW := hW
  generalize phase listed DRM.acts = n at hph hWW
  obtain rfl : n = 0 := by omega
  have hk : w = X.W := hWW
  have hc := ok.cs
  rw [← hk] at hc
  refine st_pureG hF hC hW ho h2 (by decide) hd hg rfl ?_
  show _ = Result.ok (Next.value (.slice X.na X.nn X.nc)) w
  generalize a.eval = ρ at e14 ⊢
  unfold execOp
  rw [hop]
  simp [e14, hc, go_sem]
theorem DRM.s5 (X : DRM) (ok : DRMOk X) {Q : Exit → Act → World → Prop} : StepG (opsOf 4 Try.f48) DRM.acts DRM.av X.val0 X.Wd X.a0 Q 5 := by
  intro γ listed a w o hF hC hW h1 ho h2
  obtain ⟨hd, hop, hg⟩ := fields2 (x := some 16) (y := Op.call { callee := .value (.func 72), args := #[(.tmp 15)], argTypes := #[25] }) (z := none) (by kernel_rfl) ho
  have e15 : a.eval (.tmp 15) = .slice X.na X.nn X.nc := slotG hF ho h2 (j := 4) (d := 15) (by kernel_rfl) (by kernel_rfl) (by rw [ok.sz]; decide)
  have ef : a.eval (.func 72) = .func (.func 72) #[] #[] := rfl
  have hu := unl (hF.lt ho) h1
  refine st_actG (k := 0) DRM.chain DRM.nodup rfl hF hC hW h1 ho h2 (Or.inr ⟨16, hd, rfl⟩) (DRM.inj (by kernel_rfl) hu) hg ?_
  intro hW0 K hK
  have hw0 : w = X.W := hW0
  rw [hw0]
  have hr : (execOp a.eval o).run Try.prog X.W = .ok (.enter 72 #[.slice X.na X.nn X.nc]) X.W := by
    generalize a.eval = ρ at e15 ef ⊢
    unfold execOp
    rw [hop]
    simp [e15, ef, go_sem]
  unfold Oper.wp
  rw [hr]
  refine Calls.mono (ok.hp) ?_
  rintro e w' ⟨u, rfl, h⟩
  exact hK _ _ h
theorem DRM.s6 (X : DRM) (ok : DRMOk X) {Q : Exit → Act → World → Prop} : StepG (opsOf 4 Try.f48) DRM.acts DRM.av X.val0 X.Wd X.a0 Q 6 := by
  intro γ listed a w o hF hC hW h1 ho h2
  obtain ⟨hd, hop, hg⟩ := fields2 (x := some 17) (y := Op.call { callee := .value (.func 59), args := #[(.tmp 13), (.tmp 16)], argTypes := #[60, 30] }) (z := none) (by kernel_rfl) ho
  have e13 : a.eval (.tmp 13) = .pointer (some ⟨X.bx, 1, none⟩) := slotG hF ho h2 (j := 2) (d := 13) (by kernel_rfl) (by kernel_rfl) (by rw [ok.sz]; decide)
  have e16 : a.eval (.tmp 16) = γ 0 := slotG hF ho h2 (j := 5) (d := 16) (by kernel_rfl) (by kernel_rfl) (by rw [ok.sz]; decide)
  have ef : a.eval (.func 59) = .func (.func 59) #[] #[] := rfl
  have hu := unl (hF.lt ho) h1
  refine st_actG (k := 1) DRM.chain DRM.nodup rfl hF hC hW h1 ho h2 (Or.inr ⟨17, hd, rfl⟩) (DRM.inj (by kernel_rfl) hu) hg ?_
  intro hW0 K hK
  have hr : (execOp a.eval o).run Try.prog w = .ok (.enter 59 #[.pointer (some ⟨X.bx, 1, none⟩), γ 0]) w := by
    generalize a.eval = ρ at e13 e16 ef ⊢
    unfold execOp
    rw [hop]
    simp [e13, e16, ef, go_sem]
  unfold Oper.wp
  rw [hr]
  refine Calls.mono (ok.ha _ _ hW0) ?_
  rintro e w' ⟨rfl, h⟩
  exact hK _ _ h
theorem DRM.size : (opsOf 4 Try.f48).size = 7 := by kernel_rfl
theorem DRM.steps (X : DRM) (ok : DRMOk X) {Q : Exit → Act → World → Prop} (i : Nat) (hi : i < (opsOf 4 Try.f48).size) : StepG (opsOf 4 Try.f48) DRM.acts DRM.av X.val0 X.Wd X.a0 Q i := by
  rw [DRM.size] at hi
  have hc : i = 0 ∨ i = 1 ∨ i = 2 ∨ i = 3 ∨ i = 4 ∨ i = 5 ∨ i = 6 := by omega
  rcases hc with rfl | rfl | rfl | rfl | rfl | rfl | rfl
  · exact DRM.s0 X ok
  · exact DRM.s1 X ok
  · exact DRM.s2 X ok
  · exact DRM.s3 X ok
  · exact DRM.s4 X ok
  · exact DRM.s5 X ok
  · exact DRM.s6 X ok
theorem DRM.puts (X : DRM) (γ : Nat → Value) (a0 : Act) : putsL (valG DRM.av X.val0 γ) (opsOf 4 Try.f48).toList a0 = (((((((a0.put (some 11) (.pointer (some ⟨X.bx, 0, none⟩))).put (some 12) (.pointer (some ⟨X.bx, 0, none⟩))).put (some 13) (.pointer (some ⟨X.bx, 1, none⟩))).put (some 14) (.pointer (some ⟨X.bs, 1, none⟩))).put (some 15) (.slice X.na X.nn X.nc)).put (some 16) (γ 0)).put (some 17) (γ 1)) := by kernel_rfl
/-- The region, whatever order comes up. -/
theorem DRM.run (X : DRM) (ok : DRMOk X) {Q : Exit → Act → World → Prop} (w : World) (h0 : X.Wd 0 (fun _ => undef) w.drew) (hend : ∀ (γ : Nat → Value) w', X.Wd 2 γ w' → Q .normal (((((((X.a0.put (some 11) (.pointer (some ⟨X.bx, 0, none⟩))).put (some 12) (.pointer (some ⟨X.bx, 0, none⟩))).put (some 13) (.pointer (some ⟨X.bx, 1, none⟩))).put (some 14) (.pointer (some ⟨X.bs, 1, none⟩))).put (some 15) (.slice X.na X.nn X.nc)).put (some 16) (γ 0)).put (some 17) (γ 1)) w') : (Code.region 4 (opsOf 4 Try.f48) true).wp Try.prog Q X.a0 w := by
  refine reg_act (acts := DRM.acts) (av := DRM.av) (val0 := X.val0) (Wd := X.Wd) (by kernel_rfl) (by kernel_rfl) (by rw [DRM.size]; decide) (fun i hi => DRM.steps X ok i hi) _ h0 ?_
  intro γ w' h
  rw [DRM.puts]
  exact hend γ w' h
structure DRL where
  bx : Nat
  bs : Nat
  na : Option Addr
  nn : Nat
  nc : Nat
  P : World → Value → Prop
  R : World → Prop
  W : World
  a0 : Act
structure DRLOk (X : DRL) : Prop where
  cs : X.W.cell? ⟨X.bs, 1, none⟩ = some (.slice X.na X.nn X.nc)
  hp : Calls Try.prog 72 #[.slice X.na X.nn X.nc] X.W fun e w' => ∃ u, e = .returned u ∧ X.P w' u
  ha : ∀ w u, X.P w u → Calls Try.prog 59 #[.pointer (some ⟨X.bx, 1, none⟩), u] w fun e w' => e = .returned (.tuple #[]) ∧ X.R w'
  e0 : X.a0.eval (.tmp 0) = .pointer (some ⟨X.bx, 0, none⟩)
  e3 : X.a0.eval (.tmp 3) = .pointer (some ⟨X.bs, 0, none⟩)
  sz : X.a0.tmps.size = 50
def DRL.val0 (X : DRL) : Nat → Value
  | 20 => .pointer (some ⟨X.bx, 0, none⟩)
  | 21 => .pointer (some ⟨X.bx, 0, none⟩)
  | 22 => .pointer (some ⟨X.bx, 1, none⟩)
  | 23 => .pointer (some ⟨X.bs, 1, none⟩)
  | 24 => .slice X.na X.nn X.nc
  | _ => undef
def DRL.av : Nat → Option Nat
  | 25 => some 0
  | 26 => some 1
  | _ => none
def DRL.acts : List Nat := [5, 6]
/-- The world, by how many of the acting ones have come up. -/
def DRL.Wd (X : DRL) : Nat → (Nat → Value) → World → Prop
  | 0, _, w => w = X.W
  | 1, γ, w => X.P w (γ 0)
  | _, _, w => X.R w
theorem DRL.chain : chainG (opsOf 6 Try.f48) DRL.acts = true := by kernel_rfl
theorem DRL.nodup : DRL.acts.Nodup := by decide
theorem DRL.inj {listed : Array Bool} {i k : Nat} (h : (List.range (opsOf 6 Try.f48).size).all (fun j => decide (j = i) || !(match dstOf (opsOf 6 Try.f48) j with | some d => decide (DRL.av d = some k) | none => false)) = true) (hu : listed.getD i false = false) : ∀ d, got (opsOf 6 Try.f48) listed d → DRL.av d ≠ some k := by
  rintro d ⟨j, h1, h2⟩ h3
  have hlt : j < (opsOf 6 Try.f48).size := by
    rcases Nat.lt_or_ge j (opsOf 6 Try.f48).size with h4 | h4
    · exact h4
    · unfold dstOf at h2; rw [Array.getElem?_eq_none h4] at h2; cases h2
  have h5 := List.all_eq_true.1 h j (List.mem_range.2 hlt)
  rw [h2] at h5
  simp only [h3, decide_true, Bool.not_true, Bool.or_false, decide_eq_true_eq] at h5
  subst h5
  rw [hu] at h1
  cases h1
theorem DRL.s0 (X : DRL) (ok : DRLOk X) {Q : Exit → Act → World → Prop} : StepG (opsOf 6 Try.f48) DRL.acts DRL.av X.val0 X.Wd X.a0 Q 0 := by
  intro γ listed a w o hF hC hW h1 ho h2
  obtain ⟨hd, hop, hg⟩ := fields2 (x := some 20) (y := Op.move (.tmp 0)) (z := none) (by kernel_rfl) ho
  have e0 : a.eval (.tmp 0) = .pointer (some ⟨X.bx, 0, none⟩) := (hF.eval0 (by kernel_rfl)).trans ok.e0
  refine st_pureG hF hC hW ho h2 (by decide) hd hg rfl ?_
  show _ = Result.ok (Next.value (.pointer (some ⟨X.bx, 0, none⟩))) w
  generalize a.eval = ρ at e0 ⊢
  unfold execOp
  rw [hop]
  simp [e0, go_sem]
theorem DRL.s1 (X : DRL) (ok : DRLOk X) {Q : Exit → Act → World → Prop} : StepG (opsOf 6 Try.f48) DRL.acts DRL.av X.val0 X.Wd X.a0 Q 1 := by
  intro γ listed a w o hF hC hW h1 ho h2
  obtain ⟨hd, hop, hg⟩ := fields2 (x := some 21) (y := Op.nilCheck (.tmp 20)) (z := none) (by kernel_rfl) ho
  have e20 : a.eval (.tmp 20) = .pointer (some ⟨X.bx, 0, none⟩) := slotG hF ho h2 (j := 0) (d := 20) (by kernel_rfl) (by kernel_rfl) (by rw [ok.sz]; decide)
  refine st_pureG hF hC hW ho h2 (by decide) hd hg rfl ?_
  show _ = Result.ok (Next.value (.pointer (some ⟨X.bx, 0, none⟩))) w
  generalize a.eval = ρ at e20 ⊢
  unfold execOp
  rw [hop]
  simp [e20, go_sem]
theorem DRL.s2 (X : DRL) (ok : DRLOk X) {Q : Exit → Act → World → Prop} : StepG (opsOf 6 Try.f48) DRL.acts DRL.av X.val0 X.Wd X.a0 Q 2 := by
  intro γ listed a w o hF hC hW h1 ho h2
  obtain ⟨hd, hop, hg⟩ := fields2 (x := some 22) (y := Op.fieldAddr 79 (.tmp 21) 1) (z := none) (by kernel_rfl) ho
  have e21 : a.eval (.tmp 21) = .pointer (some ⟨X.bx, 0, none⟩) := slotG hF ho h2 (j := 1) (d := 21) (by kernel_rfl) (by kernel_rfl) (by rw [ok.sz]; decide)
  refine st_pureG hF hC hW ho h2 (by decide) hd hg rfl ?_
  show _ = Result.ok (Next.value (.pointer (some ⟨X.bx, 1, none⟩))) w
  generalize a.eval = ρ at e21 ⊢
  unfold execOp
  rw [hop]
  simp [e21, go_sem]
theorem DRL.s3 (X : DRL) (ok : DRLOk X) {Q : Exit → Act → World → Prop} : StepG (opsOf 6 Try.f48) DRL.acts DRL.av X.val0 X.Wd X.a0 Q 3 := by
  intro γ listed a w o hF hC hW h1 ho h2
  obtain ⟨hd, hop, hg⟩ := fields2 (x := some 23) (y := Op.fieldAddr 76 (.tmp 3) 1) (z := none) (by kernel_rfl) ho
  have e3 : a.eval (.tmp 3) = .pointer (some ⟨X.bs, 0, none⟩) := (hF.eval0 (by kernel_rfl)).trans ok.e3
  refine st_pureG hF hC hW ho h2 (by decide) hd hg rfl ?_
  show _ = Result.ok (Next.value (.pointer (some ⟨X.bs, 1, none⟩))) w
  generalize a.eval = ρ at e3 ⊢
  unfold execOp
  rw [hop]
  simp [e3, go_sem]
theorem DRL.s4 (X : DRL) (ok : DRLOk X) {Q : Exit → Act → World → Prop} : StepG (opsOf 6 Try.f48) DRL.acts DRL.av X.val0 X.Wd X.a0 Q 4 := by
  intro γ listed a w o hF hC hW h1 ho h2
  obtain ⟨hd, hop, hg⟩ := fields2 (x := some 24) (y := Op.load 25 (.tmp 23)) (z := none) (by kernel_rfl) ho
  have e23 : a.eval (.tmp 23) = .pointer (some ⟨X.bs, 1, none⟩) := slotG hF ho h2 (j := 3) (d := 23) (by kernel_rfl) (by kernel_rfl) (by rw [ok.sz]; decide)
  have hph := phase_leG (acts := DRL.acts) (m := 0) (x := 5) hC (unl (hF.lt ho) h1) rfl [4] (by kernel_rfl) (by decide)
  have hWW := hW
  generalize phase listed DRL.acts = n at hph hWW
  obtain rfl : n = 0 := by omega
  have hk : w = X.W := hWW
  have hc := ok.cs
  rw [← hk] at hc
  refine st_pureG hF hC hW ho h2 (by decide) hd hg rfl ?_
  show _ = Result.ok (Next.value (.slice X.na X.nn X.nc)) w
  generalize a.eval = ρ at e23 ⊢
  unfold execOp
  rw [hop]
  simp [e23, hc, go_sem]
theorem DRL.s5 (X : DRL) (ok : DRLOk X) {Q : Exit → Act → World → Prop} : StepG (opsOf 6 Try.f48) DRL.acts DRL.av X.val0 X.Wd X.a0 Q 5 := by
  intro γ listed a w o hF hC hW h1 ho h2
  obtain ⟨hd, hop, hg⟩ := fields2 (x := some 25) (y := Op.call { callee := .value (.func 72), args := #[(.tmp 24)], argTypes := #[25] }) (z := none) (by kernel_rfl) ho
  have e24 : a.eval (.tmp 24) = .slice X.na X.nn X.nc := slotG hF ho h2 (j := 4) (d := 24) (by kernel_rfl) (by kernel_rfl) (by rw [ok.sz]; decide)
  have ef : a.eval (.func 72) = .func (.func 72) #[] #[] := rfl
  have hu := unl (hF.lt ho) h1
  refine st_actG (k := 0) DRL.chain DRL.nodup rfl hF hC hW h1 ho h2 (Or.inr ⟨25, hd, rfl⟩) (DRL.inj (by kernel_rfl) hu) hg ?_
  intro hW0 K hK
  have hw0 : w = X.W := hW0
  rw [hw0]
  have hr : (execOp a.eval o).run Try.prog X.W = .ok (.enter 72 #[.slice X.na X.nn X.nc]) X.W := by
    generalize a.eval = ρ at e24 ef ⊢
    unfold execOp
    rw [hop]
    simp [e24, ef, go_sem]
  unfold Oper.wp
  rw [hr]
  refine Calls.mono (ok.hp) ?_
  rintro e w' ⟨u, rfl, h⟩
  exact hK _ _ h
theorem DRL.s6 (X : DRL) (ok : DRLOk X) {Q : Exit → Act → World → Prop} : StepG (opsOf 6 Try.f48) DRL.acts DRL.av X.val0 X.Wd X.a0 Q 6 := by
  intro γ listed a w o hF hC hW h1 ho h2
  obtain ⟨hd, hop, hg⟩ := fields2 (x := some 26) (y := Op.call { callee := .value (.func 59), args := #[(.tmp 22), (.tmp 25)], argTypes := #[60, 30] }) (z := none) (by kernel_rfl) ho
  have e22 : a.eval (.tmp 22) = .pointer (some ⟨X.bx, 1, none⟩) := slotG hF ho h2 (j := 2) (d := 22) (by kernel_rfl) (by kernel_rfl) (by rw [ok.sz]; decide)
  have e25 : a.eval (.tmp 25) = γ 0 := slotG hF ho h2 (j := 5) (d := 25) (by kernel_rfl) (by kernel_rfl) (by rw [ok.sz]; decide)
  have ef : a.eval (.func 59) = .func (.func 59) #[] #[] := rfl
  have hu := unl (hF.lt ho) h1
  refine st_actG (k := 1) DRL.chain DRL.nodup rfl hF hC hW h1 ho h2 (Or.inr ⟨26, hd, rfl⟩) (DRL.inj (by kernel_rfl) hu) hg ?_
  intro hW0 K hK
  have hr : (execOp a.eval o).run Try.prog w = .ok (.enter 59 #[.pointer (some ⟨X.bx, 1, none⟩), γ 0]) w := by
    generalize a.eval = ρ at e22 e25 ef ⊢
    unfold execOp
    rw [hop]
    simp [e22, e25, ef, go_sem]
  unfold Oper.wp
  rw [hr]
  refine Calls.mono (ok.ha _ _ hW0) ?_
  rintro e w' ⟨rfl, h⟩
  exact hK _ _ h
theorem DRL.size : (opsOf 6 Try.f48).size = 7 := by kernel_rfl
theorem DRL.steps (X : DRL) (ok : DRLOk X) {Q : Exit → Act → World → Prop} (i : Nat) (hi : i < (opsOf 6 Try.f48).size) : StepG (opsOf 6 Try.f48) DRL.acts DRL.av X.val0 X.Wd X.a0 Q i := by
  rw [DRL.size] at hi
  have hc : i = 0 ∨ i = 1 ∨ i = 2 ∨ i = 3 ∨ i = 4 ∨ i = 5 ∨ i = 6 := by omega
  rcases hc with rfl | rfl | rfl | rfl | rfl | rfl | rfl
  · exact DRL.s0 X ok
  · exact DRL.s1 X ok
  · exact DRL.s2 X ok
  · exact DRL.s3 X ok
  · exact DRL.s4 X ok
  · exact DRL.s5 X ok
  · exact DRL.s6 X ok
theorem DRL.puts (X : DRL) (γ : Nat → Value) (a0 : Act) : putsL (valG DRL.av X.val0 γ) (opsOf 6 Try.f48).toList a0 = (((((((a0.put (some 20) (.pointer (some ⟨X.bx, 0, none⟩))).put (some 21) (.pointer (some ⟨X.bx, 0, none⟩))).put (some 22) (.pointer (some ⟨X.bx, 1, none⟩))).put (some 23) (.pointer (some ⟨X.bs, 1, none⟩))).put (some 24) (.slice X.na X.nn X.nc)).put (some 25) (γ 0)).put (some 26) (γ 1)) := by kernel_rfl
/-- The region, whatever order comes up. -/
theorem DRL.run (X : DRL) (ok : DRLOk X) {Q : Exit → Act → World → Prop} (w : World) (h0 : X.Wd 0 (fun _ => undef) w.drew) (hend : ∀ (γ : Nat → Value) w', X.Wd 2 γ w' → Q .normal (((((((X.a0.put (some 20) (.pointer (some ⟨X.bx, 0, none⟩))).put (some 21) (.pointer (some ⟨X.bx, 0, none⟩))).put (some 22) (.pointer (some ⟨X.bx, 1, none⟩))).put (some 23) (.pointer (some ⟨X.bs, 1, none⟩))).put (some 24) (.slice X.na X.nn X.nc)).put (some 25) (γ 0)).put (some 26) (γ 1)) w') : (Code.region 6 (opsOf 6 Try.f48) true).wp Try.prog Q X.a0 w := by
  refine reg_act (acts := DRL.acts) (av := DRL.av) (val0 := X.val0) (Wd := X.Wd) (by kernel_rfl) (by kernel_rfl) (by rw [DRL.size]; decide) (fun i hi => DRL.steps X ok i hi) _ h0 ?_
  intro γ w' h
  rw [DRL.puts]
  exact hend γ w' h
structure DRC where
  bx : Nat
  bp : Nat
  x : Int
  y : Int
  P : World → Prop
  W : World
  a0 : Act
structure DRCOk (X : DRC) : Prop where
  cx : X.W.cell? ⟨X.bp, 0, none⟩ = some (.int .i64 X.x)
  cy : X.W.cell? ⟨X.bp, 1, none⟩ = some (.int .i64 X.y)
  ha : Calls Try.prog 59 #[.pointer (some ⟨X.bx, 1, none⟩), .slice (some ⟨X.W.heap.size, 0, none⟩) 1 1] (X.W.alloc (.cells #[.int .i64 X.x, .int .i64 X.y] 54)) fun e w' => e = .returned (.tuple #[]) ∧ X.P w'
  e0 : X.a0.eval (.tmp 0) = .pointer (some ⟨X.bx, 0, none⟩)
  e4 : X.a0.eval (.tmp 4) = .pointer (some ⟨X.bp, 0, none⟩)
  sz : X.a0.tmps.size = 50
def DRC.val0 (X : DRC) : Nat → Value
  | 44 => .pointer (some ⟨X.bx, 0, none⟩)
  | 45 => .pointer (some ⟨X.bx, 0, none⟩)
  | 46 => .pointer (some ⟨X.bx, 1, none⟩)
  | 47 => .agg #[.int .i64 X.x, .int .i64 X.y]
  | _ => undef
def DRC.av : Nat → Option Nat
  | 48 => some 0
  | 49 => some 1
  | _ => none
def DRC.acts : List Nat := [4, 5]
/-- The world, by how many of the acting ones have come up. -/
def DRC.Wd (X : DRC) : Nat → (Nat → Value) → World → Prop
  | 0, _, w => w = X.W
  | 1, γ, w => γ 0 = .slice (some ⟨X.W.heap.size, 0, none⟩) 1 1 ∧ w = X.W.alloc (.cells #[.int .i64 X.x, .int .i64 X.y] 54)
  | _, _, w => X.P w
theorem DRC.chain : chainG (opsOf 12 Try.f48) DRC.acts = true := by kernel_rfl
theorem DRC.nodup : DRC.acts.Nodup := by decide
theorem DRC.inj {listed : Array Bool} {i k : Nat} (h : (List.range (opsOf 12 Try.f48).size).all (fun j => decide (j = i) || !(match dstOf (opsOf 12 Try.f48) j with | some d => decide (DRC.av d = some k) | none => false)) = true) (hu : listed.getD i false = false) : ∀ d, got (opsOf 12 Try.f48) listed d → DRC.av d ≠ some k := by
  rintro d ⟨j, h1, h2⟩ h3
  have hlt : j < (opsOf 12 Try.f48).size := by
    rcases Nat.lt_or_ge j (opsOf 12 Try.f48).size with h4 | h4
    · exact h4
    · unfold dstOf at h2; rw [Array.getElem?_eq_none h4] at h2; cases h2
  have h5 := List.all_eq_true.1 h j (List.mem_range.2 hlt)
  rw [h2] at h5
  simp only [h3, decide_true, Bool.not_true, Bool.or_false, decide_eq_true_eq] at h5
  subst h5
  rw [hu] at h1
  cases h1
theorem DRC.s0 (X : DRC) (ok : DRCOk X) {Q : Exit → Act → World → Prop} : StepG (opsOf 12 Try.f48) DRC.acts DRC.av X.val0 X.Wd X.a0 Q 0 := by
  intro γ listed a w o hF hC hW h1 ho h2
  obtain ⟨hd, hop, hg⟩ := fields2 (x := some 44) (y := Op.move (.tmp 0)) (z := none) (by kernel_rfl) ho
  have e0 : a.eval (.tmp 0) = .pointer (some ⟨X.bx, 0, none⟩) := (hF.eval0 (by kernel_rfl)).trans ok.e0
  refine st_pureG hF hC hW ho h2 (by decide) hd hg rfl ?_
  show _ = Result.ok (Next.value (.pointer (some ⟨X.bx, 0, none⟩))) w
  generalize a.eval = ρ at e0 ⊢
  unfold execOp
  rw [hop]
  simp [e0, go_sem]
theorem DRC.s1 (X : DRC) (ok : DRCOk X) {Q : Exit → Act → World → Prop} : StepG (opsOf 12 Try.f48) DRC.acts DRC.av X.val0 X.Wd X.a0 Q 1 := by
  intro γ listed a w o hF hC hW h1 ho h2
  obtain ⟨hd, hop, hg⟩ := fields2 (x := some 45) (y := Op.nilCheck (.tmp 44)) (z := none) (by kernel_rfl) ho
  have e44 : a.eval (.tmp 44) = .pointer (some ⟨X.bx, 0, none⟩) := slotG hF ho h2 (j := 0) (d := 44) (by kernel_rfl) (by kernel_rfl) (by rw [ok.sz]; decide)
  refine st_pureG hF hC hW ho h2 (by decide) hd hg rfl ?_
  show _ = Result.ok (Next.value (.pointer (some ⟨X.bx, 0, none⟩))) w
  generalize a.eval = ρ at e44 ⊢
  unfold execOp
  rw [hop]
  simp [e44, go_sem]
theorem DRC.s2 (X : DRC) (ok : DRCOk X) {Q : Exit → Act → World → Prop} : StepG (opsOf 12 Try.f48) DRC.acts DRC.av X.val0 X.Wd X.a0 Q 2 := by
  intro γ listed a w o hF hC hW h1 ho h2
  obtain ⟨hd, hop, hg⟩ := fields2 (x := some 46) (y := Op.fieldAddr 79 (.tmp 45) 1) (z := none) (by kernel_rfl) ho
  have e45 : a.eval (.tmp 45) = .pointer (some ⟨X.bx, 0, none⟩) := slotG hF ho h2 (j := 1) (d := 45) (by kernel_rfl) (by kernel_rfl) (by rw [ok.sz]; decide)
  refine st_pureG hF hC hW ho h2 (by decide) hd hg rfl ?_
  show _ = Result.ok (Next.value (.pointer (some ⟨X.bx, 1, none⟩))) w
  generalize a.eval = ρ at e45 ⊢
  unfold execOp
  rw [hop]
  simp [e45, go_sem]
theorem DRC.s3 (X : DRC) (ok : DRCOk X) {Q : Exit → Act → World → Prop} : StepG (opsOf 12 Try.f48) DRC.acts DRC.av X.val0 X.Wd X.a0 Q 3 := by
  intro γ listed a w o hF hC hW h1 ho h2
  obtain ⟨hd, hop, hg⟩ := fields2 (x := some 47) (y := Op.load 54 (.tmp 4)) (z := none) (by kernel_rfl) ho
  have e4 : a.eval (.tmp 4) = .pointer (some ⟨X.bp, 0, none⟩) := (hF.eval0 (by kernel_rfl)).trans ok.e4
  have hph := phase_leG (acts := DRC.acts) (m := 0) (x := 4) hC (unl (hF.lt ho) h1) rfl [3] (by kernel_rfl) (by decide)
  have hWW := hW
  generalize phase listed DRC.acts = n at hph hWW
  obtain rfl : n = 0 := by omega
  have hk : w = X.W := hWW
  have hc0 := ok.cx
  have hc1 := ok.cy
  rw [← hk] at hc0 hc1
  refine st_pureG hF hC hW ho h2 (by decide) hd hg rfl ?_
  show _ = Result.ok (Next.value (.agg #[.int .i64 X.x, .int .i64 X.y])) w
  generalize a.eval = ρ at e4 ⊢
  unfold execOp
  rw [hop]
  simp [e4, hc0, hc1, go_sem]
theorem DRC.s4 (X : DRC) (ok : DRCOk X) {Q : Exit → Act → World → Prop} : StepG (opsOf 12 Try.f48) DRC.acts DRC.av X.val0 X.Wd X.a0 Q 4 := by
  intro γ listed a w o hF hC hW h1 ho h2
  obtain ⟨hd, hop, hg⟩ := fields2 (x := some 48) (y := Op.buildSlice 30 1 #[(0, (.tmp 47))]) (z := none) (by kernel_rfl) ho
  have e47 : a.eval (.tmp 47) = .agg #[.int .i64 X.x, .int .i64 X.y] := slotG hF ho h2 (j := 3) (d := 47) (by kernel_rfl) (by kernel_rfl) (by rw [ok.sz]; decide)
  have hu := unl (hF.lt ho) h1
  refine st_actG (k := 0) DRC.chain DRC.nodup rfl hF hC hW h1 ho h2 (Or.inr ⟨48, hd, rfl⟩) (DRC.inj (by kernel_rfl) hu) hg ?_
  intro hW0 K hK
  have hw0 : w = X.W := hW0
  have hr : (execOp a.eval o).run Try.prog w = .ok (.value (.slice (some ⟨w.heap.size, 0, none⟩) 1 1)) (w.alloc (.cells #[.int .i64 X.x, .int .i64 X.y] 54)) := by
    generalize a.eval = ρ at e47 ⊢
    unfold execOp
    rw [hop]
    simp [e47, go_sem]
  unfold Oper.wp
  rw [hr]
  rw [hw0]
  exact hK _ _ ⟨rfl, rfl⟩
theorem DRC.s5 (X : DRC) (ok : DRCOk X) {Q : Exit → Act → World → Prop} : StepG (opsOf 12 Try.f48) DRC.acts DRC.av X.val0 X.Wd X.a0 Q 5 := by
  intro γ listed a w o hF hC hW h1 ho h2
  obtain ⟨hd, hop, hg⟩ := fields2 (x := some 49) (y := Op.call { callee := .value (.func 59), args := #[(.tmp 46), (.tmp 48)], argTypes := #[60, 30] }) (z := none) (by kernel_rfl) ho
  have e46 : a.eval (.tmp 46) = .pointer (some ⟨X.bx, 1, none⟩) := slotG hF ho h2 (j := 2) (d := 46) (by kernel_rfl) (by kernel_rfl) (by rw [ok.sz]; decide)
  have e48 : a.eval (.tmp 48) = γ 0 := slotG hF ho h2 (j := 4) (d := 48) (by kernel_rfl) (by kernel_rfl) (by rw [ok.sz]; decide)
  have ef : a.eval (.func 59) = .func (.func 59) #[] #[] := rfl
  have hu := unl (hF.lt ho) h1
  refine st_actG (k := 1) DRC.chain DRC.nodup rfl hF hC hW h1 ho h2 (Or.inr ⟨49, hd, rfl⟩) (DRC.inj (by kernel_rfl) hu) hg ?_
  intro hW0 K hK
  obtain ⟨g0, hw1⟩ := hW0
  rw [g0] at e48
  have hr : (execOp a.eval o).run Try.prog w = .ok (.enter 59 #[.pointer (some ⟨X.bx, 1, none⟩), .slice (some ⟨X.W.heap.size, 0, none⟩) 1 1]) w := by
    generalize a.eval = ρ at e46 e48 ef ⊢
    unfold execOp
    rw [hop]
    simp [e46, e48, ef, go_sem]
  unfold Oper.wp
  rw [hr]
  refine Calls.mono (by rw [hw1]; exact ok.ha) ?_
  rintro e w' ⟨rfl, h⟩
  exact hK _ _ h
theorem DRC.size : (opsOf 12 Try.f48).size = 6 := by kernel_rfl
theorem DRC.steps (X : DRC) (ok : DRCOk X) {Q : Exit → Act → World → Prop} (i : Nat) (hi : i < (opsOf 12 Try.f48).size) : StepG (opsOf 12 Try.f48) DRC.acts DRC.av X.val0 X.Wd X.a0 Q i := by
  rw [DRC.size] at hi
  have hc : i = 0 ∨ i = 1 ∨ i = 2 ∨ i = 3 ∨ i = 4 ∨ i = 5 := by omega
  rcases hc with rfl | rfl | rfl | rfl | rfl | rfl
  · exact DRC.s0 X ok
  · exact DRC.s1 X ok
  · exact DRC.s2 X ok
  · exact DRC.s3 X ok
  · exact DRC.s4 X ok
  · exact DRC.s5 X ok
theorem DRC.puts (X : DRC) (γ : Nat → Value) (a0 : Act) : putsL (valG DRC.av X.val0 γ) (opsOf 12 Try.f48).toList a0 = ((((((a0.put (some 44) (.pointer (some ⟨X.bx, 0, none⟩))).put (some 45) (.pointer (some ⟨X.bx, 0, none⟩))).put (some 46) (.pointer (some ⟨X.bx, 1, none⟩))).put (some 47) (.agg #[.int .i64 X.x, .int .i64 X.y])).put (some 48) (γ 0)).put (some 49) (γ 1)) := by kernel_rfl
/-- The region, whatever order comes up. -/
theorem DRC.run (X : DRC) (ok : DRCOk X) {Q : Exit → Act → World → Prop} (w : World) (h0 : X.Wd 0 (fun _ => undef) w.drew) (hend : ∀ (γ : Nat → Value) w', X.Wd 2 γ w' → Q .normal ((((((X.a0.put (some 44) (.pointer (some ⟨X.bx, 0, none⟩))).put (some 45) (.pointer (some ⟨X.bx, 0, none⟩))).put (some 46) (.pointer (some ⟨X.bx, 1, none⟩))).put (some 47) (.agg #[.int .i64 X.x, .int .i64 X.y])).put (some 48) (γ 0)).put (some 49) (γ 1)) w') : (Code.region 12 (opsOf 12 Try.f48) true).wp Try.prog Q X.a0 w := by
  refine reg_act (acts := DRC.acts) (av := DRC.av) (val0 := X.val0) (Wd := X.Wd) (by kernel_rfl) (by kernel_rfl) (by rw [DRC.size]; decide) (fun i hi => DRC.steps X ok i hi) _ h0 ?_
  intro γ w' h
  rw [DRC.puts]
  exact hend γ w' h
structure BNR where
  bx : Nat
  be : Nat
  ea : Option Addr
  ec : Nat
  k : Nat
  x : Int
  y : Int
  P : World → Prop
  W : World
  a0 : Act
structure BNROk (X : BNR) : Prop where
  ce : X.W.cell? ⟨X.be, 0, none⟩ = some (.slice X.ea 4 X.ec)
  wk : IntKind.i64.wrap ((X.k : Int) + 1) = (X.k : Int) + 1
  hv : ∀ w, Kp X.W w → Calls Try.prog 84 #[.slice X.ea 4 X.ec, .int .i64 ((X.k : Int) + 1)] w fun e w' => e = .returned (.agg #[.int .i64 X.x, .int .i64 X.y]) ∧ Kp w w'
  ha : ∀ w, Kp X.W w → Calls Try.prog 59 #[.pointer (some ⟨X.bx, 1, none⟩), .slice (some ⟨w.heap.size, 0, none⟩) 1 1] (w.alloc (.cells #[.int .i64 X.x, .int .i64 X.y] 54)) fun e w' => e = .returned (.tuple #[]) ∧ X.P w'
  e0 : X.a0.eval (.tmp 0) = .pointer (some ⟨X.bx, 0, none⟩)
  e4 : X.a0.eval (.tmp 4) = .pointer (some ⟨X.be, 0, none⟩)
  e5 : X.a0.eval (.tmp 5) = .int .i64 (X.k : Int)
  sz : X.a0.tmps.size = 34
def BNR.val0 (X : BNR) : Nat → Value
  | 24 => .pointer (some ⟨X.bx, 0, none⟩)
  | 25 => .pointer (some ⟨X.bx, 0, none⟩)
  | 26 => .pointer (some ⟨X.bx, 1, none⟩)
  | 27 => .slice X.ea 4 X.ec
  | 28 => .int .i64 (X.k : Int)
  | 29 => .int .i64 ((X.k : Int) + 1)
  | 30 => .agg #[.int .i64 X.x, .int .i64 X.y]
  | _ => undef
def BNR.av : Nat → Option Nat
  | 31 => some 0
  | 32 => some 1
  | _ => none
def BNR.acts : List Nat := [7, 8]
/-- The world, by how many of the acting ones have come up. -/
def BNR.Wd (X : BNR) : Nat → (Nat → Value) → World → Prop
  | 0, _, w => Kp X.W w
  | 1, γ, w => ∃ w1, Kp X.W w1 ∧ γ 0 = .slice (some ⟨w1.heap.size, 0, none⟩) 1 1 ∧ w = w1.alloc (.cells #[.int .i64 X.x, .int .i64 X.y] 54)
  | _, _, w => X.P w
theorem BNR.chain : chainG (opsOf 5 Try.f73) BNR.acts = true := by kernel_rfl
theorem BNR.nodup : BNR.acts.Nodup := by decide
theorem BNR.inj {listed : Array Bool} {i k : Nat} (h : (List.range (opsOf 5 Try.f73).size).all (fun j => decide (j = i) || !(match dstOf (opsOf 5 Try.f73) j with | some d => decide (BNR.av d = some k) | none => false)) = true) (hu : listed.getD i false = false) : ∀ d, got (opsOf 5 Try.f73) listed d → BNR.av d ≠ some k := by
  rintro d ⟨j, h1, h2⟩ h3
  have hlt : j < (opsOf 5 Try.f73).size := by
    rcases Nat.lt_or_ge j (opsOf 5 Try.f73).size with h4 | h4
    · exact h4
    · unfold dstOf at h2; rw [Array.getElem?_eq_none h4] at h2; cases h2
  have h5 := List.all_eq_true.1 h j (List.mem_range.2 hlt)
  rw [h2] at h5
  simp only [h3, decide_true, Bool.not_true, Bool.or_false, decide_eq_true_eq] at h5
  subst h5
  rw [hu] at h1
  cases h1
theorem BNR.s0 (X : BNR) (ok : BNROk X) {Q : Exit → Act → World → Prop} : StepG (opsOf 5 Try.f73) BNR.acts BNR.av X.val0 X.Wd X.a0 Q 0 := by
  intro γ listed a w o hF hC hW h1 ho h2
  obtain ⟨hd, hop, hg⟩ := fields2 (x := some 24) (y := Op.move (.tmp 0)) (z := none) (by kernel_rfl) ho
  have e0 : a.eval (.tmp 0) = .pointer (some ⟨X.bx, 0, none⟩) := (hF.eval0 (by kernel_rfl)).trans ok.e0
  refine st_pureG hF hC hW ho h2 (by decide) hd hg rfl ?_
  show _ = Result.ok (Next.value (.pointer (some ⟨X.bx, 0, none⟩))) w
  generalize a.eval = ρ at e0 ⊢
  unfold execOp
  rw [hop]
  simp [e0, go_sem]
theorem BNR.s1 (X : BNR) (ok : BNROk X) {Q : Exit → Act → World → Prop} : StepG (opsOf 5 Try.f73) BNR.acts BNR.av X.val0 X.Wd X.a0 Q 1 := by
  intro γ listed a w o hF hC hW h1 ho h2
  obtain ⟨hd, hop, hg⟩ := fields2 (x := some 25) (y := Op.nilCheck (.tmp 24)) (z := none) (by kernel_rfl) ho
  have e24 : a.eval (.tmp 24) = .pointer (some ⟨X.bx, 0, none⟩) := slotG hF ho h2 (j := 0) (d := 24) (by kernel_rfl) (by kernel_rfl) (by rw [ok.sz]; decide)
  refine st_pureG hF hC hW ho h2 (by decide) hd hg rfl ?_
  show _ = Result.ok (Next.value (.pointer (some ⟨X.bx, 0, none⟩))) w
  generalize a.eval = ρ at e24 ⊢
  unfold execOp
  rw [hop]
  simp [e24, go_sem]
theorem BNR.s2 (X : BNR) (ok : BNROk X) {Q : Exit → Act → World → Prop} : StepG (opsOf 5 Try.f73) BNR.acts BNR.av X.val0 X.Wd X.a0 Q 2 := by
  intro γ listed a w o hF hC hW h1 ho h2
  obtain ⟨hd, hop, hg⟩ := fields2 (x := some 26) (y := Op.fieldAddr 79 (.tmp 25) 1) (z := none) (by kernel_rfl) ho
  have e25 : a.eval (.tmp 25) = .pointer (some ⟨X.bx, 0, none⟩) := slotG hF ho h2 (j := 1) (d := 25) (by kernel_rfl) (by kernel_rfl) (by rw [ok.sz]; decide)
  refine st_pureG hF hC hW ho h2 (by decide) hd hg rfl ?_
  show _ = Result.ok (Next.value (.pointer (some ⟨X.bx, 1, none⟩))) w
  generalize a.eval = ρ at e25 ⊢
  unfold execOp
  rw [hop]
  simp [e25, go_sem]
theorem BNR.s3 (X : BNR) (ok : BNROk X) {Q : Exit → Act → World → Prop} : StepG (opsOf 5 Try.f73) BNR.acts BNR.av X.val0 X.Wd X.a0 Q 3 := by
  intro γ listed a w o hF hC hW h1 ho h2
  obtain ⟨hd, hop, hg⟩ := fields2 (x := some 27) (y := Op.load 60 (.tmp 4)) (z := none) (by kernel_rfl) ho
  have e4 : a.eval (.tmp 4) = .pointer (some ⟨X.be, 0, none⟩) := (hF.eval0 (by kernel_rfl)).trans ok.e4
  have hph := phase_leG (acts := BNR.acts) (m := 0) (x := 7) hC (unl (hF.lt ho) h1) rfl [6, 3] (by kernel_rfl) (by decide)
  have hWW := hW
  generalize phase listed BNR.acts = n at hph hWW
  obtain rfl : n = 0 := by omega
  have hk : Kp X.W w := hWW
  have hc := rq_at hk ok.ce
  refine st_pureG hF hC hW ho h2 (by decide) hd hg rfl ?_
  show _ = Result.ok (Next.value (.slice X.ea 4 X.ec)) w
  generalize a.eval = ρ at e4 ⊢
  unfold execOp
  rw [hop]
  simp [e4, hc, go_sem]
theorem BNR.s4 (X : BNR) (ok : BNROk X) {Q : Exit → Act → World → Prop} : StepG (opsOf 5 Try.f73) BNR.acts BNR.av X.val0 X.Wd X.a0 Q 4 := by
  intro γ listed a w o hF hC hW h1 ho h2
  obtain ⟨hd, hop, hg⟩ := fields2 (x := some 28) (y := Op.move (.tmp 5)) (z := none) (by kernel_rfl) ho
  have e5 : a.eval (.tmp 5) = .int .i64 (X.k : Int) := (hF.eval0 (by kernel_rfl)).trans ok.e5
  refine st_pureG hF hC hW ho h2 (by decide) hd hg rfl ?_
  show _ = Result.ok (Next.value (.int .i64 (X.k : Int))) w
  generalize a.eval = ρ at e5 ⊢
  unfold execOp
  rw [hop]
  simp [e5, go_sem]
theorem BNR.s5 (X : BNR) (ok : BNROk X) {Q : Exit → Act → World → Prop} : StepG (opsOf 5 Try.f73) BNR.acts BNR.av X.val0 X.Wd X.a0 Q 5 := by
  intro γ listed a w o hF hC hW h1 ho h2
  obtain ⟨hd, hop, hg⟩ := fields2 (x := some 29) (y := Op.binOp .add 3 (.tmp 28) (.const (.int .i64 1)) 3) (z := none) (by kernel_rfl) ho
  have e28 : a.eval (.tmp 28) = .int .i64 (X.k : Int) := slotG hF ho h2 (j := 4) (d := 28) (by kernel_rfl) (by kernel_rfl) (by rw [ok.sz]; decide)
  have ec1 : a.eval (.const (.int .i64 1)) = .int .i64 1 := rfl
  refine st_pureG hF hC hW ho h2 (by decide) hd hg rfl ?_
  show _ = Result.ok (Next.value (.int .i64 ((X.k : Int) + 1))) w
  generalize a.eval = ρ at e28 ec1 ⊢
  unfold execOp
  rw [hop]
  simp [e28, ec1, ok.wk, go_sem]
theorem BNR.s6 (X : BNR) (ok : BNROk X) {Q : Exit → Act → World → Prop} : StepG (opsOf 5 Try.f73) BNR.acts BNR.av X.val0 X.Wd X.a0 Q 6 := by
  intro γ listed a w o hF hC hW h1 ho h2
  obtain ⟨hd, hop, hg⟩ := fields2 (x := some 30) (y := Op.call { callee := .value (.func 84), args := #[(.tmp 27), (.tmp 29)], argTypes := #[30, 3] }) (z := none) (by kernel_rfl) ho
  have e27 : a.eval (.tmp 27) = .slice X.ea 4 X.ec := slotG hF ho h2 (j := 3) (d := 27) (by kernel_rfl) (by kernel_rfl) (by rw [ok.sz]; decide)
  have e29 : a.eval (.tmp 29) = .int .i64 ((X.k : Int) + 1) := slotG hF ho h2 (j := 5) (d := 29) (by kernel_rfl) (by kernel_rfl) (by rw [ok.sz]; decide)
  have ef : a.eval (.func 84) = .func (.func 84) #[] #[] := rfl
  refine st_callG hF hC hW ho h2 (by decide) hd hg rfl (f := 84) (args := #[.slice X.ea 4 X.ec, .int .i64 ((X.k : Int) + 1)]) ?_ ?_ ?_
  · generalize a.eval = ρ at e27 e29 ef ⊢
    unfold execOp
    rw [hop]
    simp [e27, e29, ef, go_sem]
  · exact ok.hv w (by
      have := phase_leG (acts := BNR.acts) (m := 0) (x := 7) hC (unl (hF.lt ho) h1) rfl [6] (by kernel_rfl) (by decide)
      have hz : phase listed BNR.acts = 0 := by omega
      rw [hz] at hW
      exact hW)
  · intro w' hk
    have hz : phase listed BNR.acts = 0 := by
      have := phase_leG (acts := BNR.acts) (m := 0) (x := 7) hC (unl (hF.lt ho) h1) rfl [6] (by kernel_rfl) (by decide)
      omega
    rw [hz] at hW ⊢
    exact Kp.trans hW hk
theorem BNR.s7 (X : BNR) (ok : BNROk X) {Q : Exit → Act → World → Prop} : StepG (opsOf 5 Try.f73) BNR.acts BNR.av X.val0 X.Wd X.a0 Q 7 := by
  intro γ listed a w o hF hC hW h1 ho h2
  obtain ⟨hd, hop, hg⟩ := fields2 (x := some 31) (y := Op.buildSlice 30 1 #[(0, (.tmp 30))]) (z := none) (by kernel_rfl) ho
  have e30 : a.eval (.tmp 30) = .agg #[.int .i64 X.x, .int .i64 X.y] := slotG hF ho h2 (j := 6) (d := 30) (by kernel_rfl) (by kernel_rfl) (by rw [ok.sz]; decide)
  have hu := unl (hF.lt ho) h1
  refine st_actG (k := 0) BNR.chain BNR.nodup rfl hF hC hW h1 ho h2 (Or.inr ⟨31, hd, rfl⟩) (BNR.inj (by kernel_rfl) hu) hg ?_
  intro hW0 K hK
  have hr : (execOp a.eval o).run Try.prog w = .ok (.value (.slice (some ⟨w.heap.size, 0, none⟩) 1 1)) (w.alloc (.cells #[.int .i64 X.x, .int .i64 X.y] 54)) := by
    generalize a.eval = ρ at e30 ⊢
    unfold execOp
    rw [hop]
    simp [e30, go_sem]
  unfold Oper.wp
  rw [hr]
  exact hK _ _ ⟨w, hW0, rfl, rfl⟩
theorem BNR.s8 (X : BNR) (ok : BNROk X) {Q : Exit → Act → World → Prop} : StepG (opsOf 5 Try.f73) BNR.acts BNR.av X.val0 X.Wd X.a0 Q 8 := by
  intro γ listed a w o hF hC hW h1 ho h2
  obtain ⟨hd, hop, hg⟩ := fields2 (x := some 32) (y := Op.call { callee := .value (.func 59), args := #[(.tmp 26), (.tmp 31)], argTypes := #[60, 30] }) (z := none) (by kernel_rfl) ho
  have e26 : a.eval (.tmp 26) = .pointer (some ⟨X.bx, 1, none⟩) := slotG hF ho h2 (j := 2) (d := 26) (by kernel_rfl) (by kernel_rfl) (by rw [ok.sz]; decide)
  have e31 : a.eval (.tmp 31) = γ 0 := slotG hF ho h2 (j := 7) (d := 31) (by kernel_rfl) (by kernel_rfl) (by rw [ok.sz]; decide)
  have ef : a.eval (.func 59) = .func (.func 59) #[] #[] := rfl
  have hu := unl (hF.lt ho) h1
  refine st_actG (k := 1) BNR.chain BNR.nodup rfl hF hC hW h1 ho h2 (Or.inr ⟨32, hd, rfl⟩) (BNR.inj (by kernel_rfl) hu) hg ?_
  intro hW0 K hK
  obtain ⟨w1, k1, g0, rfl⟩ := hW0
  rw [g0] at e31
  have hr : (execOp a.eval o).run Try.prog (w1.alloc (.cells #[.int .i64 X.x, .int .i64 X.y] 54)) = .ok (.enter 59 #[.pointer (some ⟨X.bx, 1, none⟩), .slice (some ⟨w1.heap.size, 0, none⟩) 1 1]) (w1.alloc (.cells #[.int .i64 X.x, .int .i64 X.y] 54)) := by
    generalize a.eval = ρ at e26 e31 ef ⊢
    unfold execOp
    rw [hop]
    simp [e26, e31, ef, go_sem]
  unfold Oper.wp
  rw [hr]
  refine Calls.mono (ok.ha w1 k1) ?_
  rintro e w' ⟨rfl, h⟩
  exact hK _ _ h
theorem BNR.size : (opsOf 5 Try.f73).size = 9 := by kernel_rfl
theorem BNR.steps (X : BNR) (ok : BNROk X) {Q : Exit → Act → World → Prop} (i : Nat) (hi : i < (opsOf 5 Try.f73).size) : StepG (opsOf 5 Try.f73) BNR.acts BNR.av X.val0 X.Wd X.a0 Q i := by
  rw [BNR.size] at hi
  have hc : i = 0 ∨ i = 1 ∨ i = 2 ∨ i = 3 ∨ i = 4 ∨ i = 5 ∨ i = 6 ∨ i = 7 ∨ i = 8 := by omega
  rcases hc with rfl | rfl | rfl | rfl | rfl | rfl | rfl | rfl | rfl
  · exact BNR.s0 X ok
  · exact BNR.s1 X ok
  · exact BNR.s2 X ok
  · exact BNR.s3 X ok
  · exact BNR.s4 X ok
  · exact BNR.s5 X ok
  · exact BNR.s6 X ok
  · exact BNR.s7 X ok
  · exact BNR.s8 X ok
theorem BNR.puts (X : BNR) (γ : Nat → Value) (a0 : Act) : putsL (valG BNR.av X.val0 γ) (opsOf 5 Try.f73).toList a0 = (((((((((a0.put (some 24) (.pointer (some ⟨X.bx, 0, none⟩))).put (some 25) (.pointer (some ⟨X.bx, 0, none⟩))).put (some 26) (.pointer (some ⟨X.bx, 1, none⟩))).put (some 27) (.slice X.ea 4 X.ec)).put (some 28) (.int .i64 (X.k : Int))).put (some 29) (.int .i64 ((X.k : Int) + 1))).put (some 30) (.agg #[.int .i64 X.x, .int .i64 X.y])).put (some 31) (γ 0)).put (some 32) (γ 1)) := by kernel_rfl
/-- The region, whatever order comes up. -/
theorem BNR.run (X : BNR) (ok : BNROk X) {Q : Exit → Act → World → Prop} (w : World) (h0 : X.Wd 0 (fun _ => undef) w.drew) (hend : ∀ (γ : Nat → Value) w', X.Wd 2 γ w' → Q .normal (((((((((X.a0.put (some 24) (.pointer (some ⟨X.bx, 0, none⟩))).put (some 25) (.pointer (some ⟨X.bx, 0, none⟩))).put (some 26) (.pointer (some ⟨X.bx, 1, none⟩))).put (some 27) (.slice X.ea 4 X.ec)).put (some 28) (.int .i64 (X.k : Int))).put (some 29) (.int .i64 ((X.k : Int) + 1))).put (some 30) (.agg #[.int .i64 X.x, .int .i64 X.y])).put (some 31) (γ 0)).put (some 32) (γ 1)) w') : (Code.region 5 (opsOf 5 Try.f73) true).wp Try.prog Q X.a0 w := by
  refine reg_act (acts := BNR.acts) (av := BNR.av) (val0 := X.val0) (Wd := X.Wd) (by kernel_rfl) (by kernel_rfl) (by rw [BNR.size]; decide) (fun i hi => BNR.steps X ok i hi) _ h0 ?_
  intro γ w' h
  rw [BNR.puts]
  exact hend γ w' h
end Go.Proofs.Ytoajjdlgipphiaa
