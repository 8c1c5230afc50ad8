/-
  The two statements of the law on SizeOf that draw their order; each theorem names its conditions.
-/
import Derived.Test.YtolpiapkmlbccaaSzO
import Derived.Test.YtolpiapkmlbccaaRq
namespace Go.Proofs.Ytolpiapkmlbccaa
open Go.ChangeShapes Go.WideShapes Go.ChangeAt Go.RowKit
set_option linter.unusedVariables false

structure ZA where
  ax : Int
  ay : Int
  bx : Int
  cy : Int
  b0 : Nat
  b1 : Nat
  W : World
  a0 : Act
structure ZAOk (X : ZA) : Prop where
  c0 : X.W.cell? ⟨X.b0, 0, none⟩ = some (.int .i64 X.ax)
  c1 : X.W.cell? ⟨X.b0, 1, none⟩ = some (.int .i64 X.ay)
  c2 : X.W.cell? ⟨X.b1, 0, none⟩ = some (.int .i64 X.bx)
  c3 : X.W.cell? ⟨X.b1, 1, none⟩ = some (.int .i64 X.cy)
  e2 : X.a0.eval (.tmp 2) = .pointer (some ⟨X.b0, 0, none⟩)
  e3 : X.a0.eval (.tmp 3) = .pointer (some ⟨X.b1, 0, none⟩)
  sz : X.a0.tmps.size = 33
def ZA.val0 (X : ZA) : Nat → Value
  | 5 => .int .i64 (soV (X.ax, X.ay) (X.bx, X.cy)).1
  | 6 => .bool (soV (X.ax, X.ay) (X.bx, X.cy)).2
  | 9 => .tuple #[.int .i64 (soV (X.ax, X.ay) (X.bx, X.cy)).1, .bool (soV (X.ax, X.ay) (X.bx, X.cy)).2]
  | 10 => .agg #[.int .i64 X.ax, .int .i64 X.ay]
  | 11 => .agg #[.int .i64 X.ax, .int .i64 X.ay]
  | 12 => .agg #[.int .i64 X.bx, .int .i64 X.cy]
  | 13 => .agg #[.int .i64 X.bx, .int .i64 X.cy]
  | 14 => .tuple #[.int .i64 (soV (X.ax, X.ay) (X.bx, X.cy)).1, .bool (soV (X.ax, X.ay) (X.bx, X.cy)).2]
  | 15 => .int .i64 (soV (X.ax, X.ay) (X.bx, X.cy)).1
  | 16 => .bool (soV (X.ax, X.ay) (X.bx, X.cy)).2
  | _ => undef
def ZA.av : Nat → Option Nat
  | _ => none
def ZA.acts : List Nat := []
/-- The world, by how many of the acting ones have come up. -/
def ZA.Wd (X : ZA) : Nat → (Nat → Value) → World → Prop
  | _, _, w => Kp X.W w
theorem ZA.kp {X : ZA} {n : Nat} {γ : Nat → Value} {w : World} (h : X.Wd n γ w) : Kp X.W w := h
theorem ZA.keep {X : ZA} {n : Nat} {γ : Nat → Value} {w w' : World} (h : X.Wd n γ w) (k : Kp w w') : X.Wd n γ w' := Kp.trans h k
theorem ZA.chain : chainG (opsOf 1 Try.f4) ZA.acts = true := by kernel_rfl
theorem ZA.nodup : ZA.acts.Nodup := by decide
theorem ZA.inj {listed : Array Bool} {i k : Nat} (h : (List.range (opsOf 1 Try.f4).size).all (fun j => decide (j = i) || !(match dstOf (opsOf 1 Try.f4) j with | some d => decide (ZA.av d = some k) | none => false)) = true) (hu : listed.getD i false = false) : ∀ d, got (opsOf 1 Try.f4) listed d → ZA.av d ≠ some k := by
  rintro d ⟨j, h1, h2⟩ h3
  have hlt : j < (opsOf 1 Try.f4).size := by
    rcases Nat.lt_or_ge j (opsOf 1 Try.f4).size with h4 | h4
    · exact h4
    · unfold dstOf at h2; rw [Array.getElem?_eq_none h4] at h2; cases h2
  have h5 := List.all_eq_true.1 h j (List.mem_range.2 hlt)
  rw [h2] at h5
  simp only [h3, decide_true, Bool.not_true, Bool.or_false, decide_eq_true_eq] at h5
  subst h5
  rw [hu] at h1
  cases h1
theorem ZA.s0 (X : ZA) (ok : ZAOk X) {Q : Exit → Act → World → Prop} : StepG (opsOf 1 Try.f4) ZA.acts ZA.av X.val0 X.Wd X.a0 Q 0 := by
  intro γ listed a w o hF hC hW h1 ho h2
  obtain ⟨hd, hop, hg⟩ := fields2 (x := some 10) (y := Op.load 32 (.tmp 2)) (z := none) (by kernel_rfl) ho
  have e2 : a.eval (.tmp 2) = .pointer (some ⟨X.b0, 0, none⟩) := (hF.eval0 (by kernel_rfl)).trans ok.e2
  have hc0 := rq_at (ZA.kp hW) ok.c0
  have hc1 := rq_at (ZA.kp hW) ok.c1
  refine st_pureG hF hC hW ho h2 (by decide) hd hg rfl ?_
  show _ = Result.ok (Next.value (.agg #[.int .i64 X.ax, .int .i64 X.ay])) w
  generalize a.eval = ρ at e2 ⊢
  unfold execOp
  rw [hop]
  simp [e2, hc0, hc1, go_sem]
theorem ZA.s1 (X : ZA) (ok : ZAOk X) {Q : Exit → Act → World → Prop} : StepG (opsOf 1 Try.f4) ZA.acts ZA.av X.val0 X.Wd X.a0 Q 1 := by
  intro γ listed a w o hF hC hW h1 ho h2
  obtain ⟨hd, hop, hg⟩ := fields2 (x := some 11) (y := Op.call { callee := .value (.func 14), args := #[(.tmp 10)], argTypes := #[32] }) (z := none) (by kernel_rfl) ho
  have e10 : a.eval (.tmp 10) = .agg #[.int .i64 X.ax, .int .i64 X.ay] := slotG hF ho h2 (j := 0) (d := 10) (by kernel_rfl) (by kernel_rfl) (by rw [ok.sz]; decide)
  have ef : a.eval (.func 14) = .func (.func 14) #[] #[] := rfl
  refine st_callG hF hC hW ho h2 (by decide) hd hg rfl (f := 14) (args := #[.agg #[.int .i64 X.ax, .int .i64 X.ay]]) ?_ ?_ ?_
  · generalize a.eval = ρ at e10 ef ⊢
    unfold execOp
    rw [hop]
    simp [e10, ef, go_sem]
  · exact toPoint_any w _ _
  · intro w' hk; exact ZA.keep hW hk
theorem ZA.s2 (X : ZA) (ok : ZAOk X) {Q : Exit → Act → World → Prop} : StepG (opsOf 1 Try.f4) ZA.acts ZA.av X.val0 X.Wd X.a0 Q 2 := by
  intro γ listed a w o hF hC hW h1 ho h2
  obtain ⟨hd, hop, hg⟩ := fields2 (x := some 12) (y := Op.load 32 (.tmp 3)) (z := none) (by kernel_rfl) ho
  have e3 : a.eval (.tmp 3) = .pointer (some ⟨X.b1, 0, none⟩) := (hF.eval0 (by kernel_rfl)).trans ok.e3
  have hc0 := rq_at (ZA.kp hW) ok.c2
  have hc1 := rq_at (ZA.kp hW) ok.c3
  refine st_pureG hF hC hW ho h2 (by decide) hd hg rfl ?_
  show _ = Result.ok (Next.value (.agg #[.int .i64 X.bx, .int .i64 X.cy])) w
  generalize a.eval = ρ at e3 ⊢
  unfold execOp
  rw [hop]
  simp [e3, hc0, hc1, go_sem]
theorem ZA.s3 (X : ZA) (ok : ZAOk X) {Q : Exit → Act → World → Prop} : StepG (opsOf 1 Try.f4) ZA.acts ZA.av X.val0 X.Wd X.a0 Q 3 := by
  intro γ listed a w o hF hC hW h1 ho h2
  obtain ⟨hd, hop, hg⟩ := fields2 (x := some 13) (y := Op.call { callee := .value (.func 14), args := #[(.tmp 12)], argTypes := #[32] }) (z := none) (by kernel_rfl) ho
  have e12 : a.eval (.tmp 12) = .agg #[.int .i64 X.bx, .int .i64 X.cy] := slotG hF ho h2 (j := 2) (d := 12) (by kernel_rfl) (by kernel_rfl) (by rw [ok.sz]; decide)
  have ef : a.eval (.func 14) = .func (.func 14) #[] #[] := rfl
  refine st_callG hF hC hW ho h2 (by decide) hd hg rfl (f := 14) (args := #[.agg #[.int .i64 X.bx, .int .i64 X.cy]]) ?_ ?_ ?_
  · generalize a.eval = ρ at e12 ef ⊢
    unfold execOp
    rw [hop]
    simp [e12, ef, go_sem]
  · exact toPoint_any w _ _
  · intro w' hk; exact ZA.keep hW hk
theorem ZA.s4 (X : ZA) (ok : ZAOk X) {Q : Exit → Act → World → Prop} : StepG (opsOf 1 Try.f4) ZA.acts ZA.av X.val0 X.Wd X.a0 Q 4 := by
  intro γ listed a w o hF hC hW h1 ho h2
  obtain ⟨hd, hop, hg⟩ := fields2 (x := some 14) (y := Op.call { callee := .value (.func 13), args := #[(.tmp 11), (.tmp 13)], argTypes := #[35, 35] }) (z := none) (by kernel_rfl) ho
  have e11 : a.eval (.tmp 11) = .agg #[.int .i64 X.ax, .int .i64 X.ay] := slotG hF ho h2 (j := 1) (d := 11) (by kernel_rfl) (by kernel_rfl) (by rw [ok.sz]; decide)
  have e13 : a.eval (.tmp 13) = .agg #[.int .i64 X.bx, .int .i64 X.cy] := slotG hF ho h2 (j := 3) (d := 13) (by kernel_rfl) (by kernel_rfl) (by rw [ok.sz]; decide)
  have ef : a.eval (.func 13) = .func (.func 13) #[] #[] := rfl
  refine st_callG hF hC hW ho h2 (by decide) hd hg rfl (f := 13) (args := #[.agg #[.int .i64 X.ax, .int .i64 X.ay], .agg #[.int .i64 X.bx, .int .i64 X.cy]]) ?_ ?_ ?_
  · generalize a.eval = ρ at e11 e13 ef ⊢
    unfold execOp
    rw [hop]
    simp [e11, e13, ef, go_sem]
  · exact ssizeOf w (X.ax, X.ay) (X.bx, X.cy)
  · intro w' hk; exact ZA.keep hW hk
theorem ZA.s5 (X : ZA) (ok : ZAOk X) {Q : Exit → Act → World → Prop} : StepG (opsOf 1 Try.f4) ZA.acts ZA.av X.val0 X.Wd X.a0 Q 5 := by
  intro γ listed a w o hF hC hW h1 ho h2
  obtain ⟨hd, hop, hg⟩ := fields2 (x := some 9) (y := Op.move (.tmp 14)) (z := none) (by kernel_rfl) ho
  have e14 : a.eval (.tmp 14) = .tuple #[.int .i64 (soV (X.ax, X.ay) (X.bx, X.cy)).1, .bool (soV (X.ax, X.ay) (X.bx, X.cy)).2] := slotG hF ho h2 (j := 4) (d := 14) (by kernel_rfl) (by kernel_rfl) (by rw [ok.sz]; decide)
  refine st_pureG hF hC hW ho h2 (by decide) hd hg rfl ?_
  show _ = Result.ok (Next.value (.tuple #[.int .i64 (soV (X.ax, X.ay) (X.bx, X.cy)).1, .bool (soV (X.ax, X.ay) (X.bx, X.cy)).2])) w
  generalize a.eval = ρ at e14 ⊢
  unfold execOp
  rw [hop]
  simp [e14, go_sem]
theorem ZA.s6 (X : ZA) (ok : ZAOk X) {Q : Exit → Act → World → Prop} : StepG (opsOf 1 Try.f4) ZA.acts ZA.av X.val0 X.Wd X.a0 Q 6 := by
  intro γ listed a w o hF hC hW h1 ho h2
  obtain ⟨hd, hop, hg⟩ := fields2 (x := some 15) (y := Op.extract (.tmp 9) 0) (z := none) (by kernel_rfl) ho
  have e9 : a.eval (.tmp 9) = .tuple #[.int .i64 (soV (X.ax, X.ay) (X.bx, X.cy)).1, .bool (soV (X.ax, X.ay) (X.bx, X.cy)).2] := slotG hF ho h2 (j := 5) (d := 9) (by kernel_rfl) (by kernel_rfl) (by rw [ok.sz]; decide)
  refine st_pureG hF hC hW ho h2 (by decide) hd hg rfl ?_
  show _ = Result.ok (Next.value (.int .i64 (soV (X.ax, X.ay) (X.bx, X.cy)).1)) w
  generalize a.eval = ρ at e9 ⊢
  unfold execOp
  rw [hop]
  simp [e9, go_sem]
theorem ZA.s7 (X : ZA) (ok : ZAOk X) {Q : Exit → Act → World → Prop} : StepG (opsOf 1 Try.f4) ZA.acts ZA.av X.val0 X.Wd X.a0 Q 7 := by
  intro γ listed a w o hF hC hW h1 ho h2
  obtain ⟨hd, hop, hg⟩ := fields2 (x := some 16) (y := Op.extract (.tmp 9) 1) (z := none) (by kernel_rfl) ho
  have e9 : a.eval (.tmp 9) = .tuple #[.int .i64 (soV (X.ax, X.ay) (X.bx, X.cy)).1, .bool (soV (X.ax, X.ay) (X.bx, X.cy)).2] := slotG hF ho h2 (j := 5) (d := 9) (by kernel_rfl) (by kernel_rfl) (by rw [ok.sz]; decide)
  refine st_pureG hF hC hW ho h2 (by decide) hd hg rfl ?_
  show _ = Result.ok (Next.value (.bool (soV (X.ax, X.ay) (X.bx, X.cy)).2)) w
  generalize a.eval = ρ at e9 ⊢
  unfold execOp
  rw [hop]
  simp [e9, go_sem]
theorem ZA.s8 (X : ZA) (ok : ZAOk X) {Q : Exit → Act → World → Prop} : StepG (opsOf 1 Try.f4) ZA.acts ZA.av X.val0 X.Wd X.a0 Q 8 := by
  intro γ listed a w o hF hC hW h1 ho h2
  obtain ⟨hd, hop, hg⟩ := fields2 (x := some 5) (y := Op.assign (.tmp 15)) (z := none) (by kernel_rfl) ho
  have e15 : a.eval (.tmp 15) = .int .i64 (soV (X.ax, X.ay) (X.bx, X.cy)).1 := slotG hF ho h2 (j := 6) (d := 15) (by kernel_rfl) (by kernel_rfl) (by rw [ok.sz]; decide)
  refine st_pureG hF hC hW ho h2 (by decide) hd hg rfl ?_
  show _ = Result.ok (Next.value (.int .i64 (soV (X.ax, X.ay) (X.bx, X.cy)).1)) w
  generalize a.eval = ρ at e15 ⊢
  unfold execOp
  rw [hop]
  simp [e15, go_sem]
theorem ZA.s9 (X : ZA) (ok : ZAOk X) {Q : Exit → Act → World → Prop} : StepG (opsOf 1 Try.f4) ZA.acts ZA.av X.val0 X.Wd X.a0 Q 9 := by
  intro γ listed a w o hF hC hW h1 ho h2
  obtain ⟨hd, hop, hg⟩ := fields2 (x := some 6) (y := Op.assign (.tmp 16)) (z := none) (by kernel_rfl) ho
  have e16 : a.eval (.tmp 16) = .bool (soV (X.ax, X.ay) (X.bx, X.cy)).2 := slotG hF ho h2 (j := 7) (d := 16) (by kernel_rfl) (by kernel_rfl) (by rw [ok.sz]; decide)
  refine st_pureG hF hC hW ho h2 (by decide) hd hg rfl ?_
  show _ = Result.ok (Next.value (.bool (soV (X.ax, X.ay) (X.bx, X.cy)).2)) w
  generalize a.eval = ρ at e16 ⊢
  unfold execOp
  rw [hop]
  simp [e16, go_sem]
theorem ZA.size : (opsOf 1 Try.f4).size = 10 := by kernel_rfl
theorem ZA.steps (X : ZA) (ok : ZAOk X) {Q : Exit → Act → World → Prop} (i : Nat) (hi : i < (opsOf 1 Try.f4).size) : StepG (opsOf 1 Try.f4) ZA.acts ZA.av X.val0 X.Wd X.a0 Q i := by
  rw [ZA.size] at hi
  have hc : i = 0 ∨ i = 1 ∨ i = 2 ∨ i = 3 ∨ i = 4 ∨ i = 5 ∨ i = 6 ∨ i = 7 ∨ i = 8 ∨ i = 9 := by omega
  rcases hc with rfl | rfl | rfl | rfl | rfl | rfl | rfl | rfl | rfl | rfl
  · exact ZA.s0 X ok
  · exact ZA.s1 X ok
  · exact ZA.s2 X ok
  · exact ZA.s3 X ok
  · exact ZA.s4 X ok
  · exact ZA.s5 X ok
  · exact ZA.s6 X ok
  · exact ZA.s7 X ok
  · exact ZA.s8 X ok
  · exact ZA.s9 X ok
theorem ZA.puts (X : ZA) (γ : Nat → Value) (a0 : Act) : putsL (valG ZA.av X.val0 γ) (opsOf 1 Try.f4).toList a0 = ((((((((((a0.put (some 10) (.agg #[.int .i64 X.ax, .int .i64 X.ay])).put (some 11) (.agg #[.int .i64 X.ax, .int .i64 X.ay])).put (some 12) (.agg #[.int .i64 X.bx, .int .i64 X.cy])).put (some 13) (.agg #[.int .i64 X.bx, .int .i64 X.cy])).put (some 14) (.tuple #[.int .i64 (soV (X.ax, X.ay) (X.bx, X.cy)).1, .bool (soV (X.ax, X.ay) (X.bx, X.cy)).2])).put (some 9) (.tuple #[.int .i64 (soV (X.ax, X.ay) (X.bx, X.cy)).1, .bool (soV (X.ax, X.ay) (X.bx, X.cy)).2])).put (some 15) (.int .i64 (soV (X.ax, X.ay) (X.bx, X.cy)).1)).put (some 16) (.bool (soV (X.ax, X.ay) (X.bx, X.cy)).2)).put (some 5) (.int .i64 (soV (X.ax, X.ay) (X.bx, X.cy)).1)).put (some 6) (.bool (soV (X.ax, X.ay) (X.bx, X.cy)).2)) := by kernel_rfl
/-- The region, whatever order comes up. -/
theorem ZA.run (X : ZA) (ok : ZAOk X) {Q : Exit → Act → World → Prop} (w : World) (h0 : X.Wd 0 (fun _ => undef) w.drew) (hend : ∀ (γ : Nat → Value) w', X.Wd 0 γ w' → Q .normal ((((((((((X.a0.put (some 10) (.agg #[.int .i64 X.ax, .int .i64 X.ay])).put (some 11) (.agg #[.int .i64 X.ax, .int .i64 X.ay])).put (some 12) (.agg #[.int .i64 X.bx, .int .i64 X.cy])).put (some 13) (.agg #[.int .i64 X.bx, .int .i64 X.cy])).put (some 14) (.tuple #[.int .i64 (soV (X.ax, X.ay) (X.bx, X.cy)).1, .bool (soV (X.ax, X.ay) (X.bx, X.cy)).2])).put (some 9) (.tuple #[.int .i64 (soV (X.ax, X.ay) (X.bx, X.cy)).1, .bool (soV (X.ax, X.ay) (X.bx, X.cy)).2])).put (some 15) (.int .i64 (soV (X.ax, X.ay) (X.bx, X.cy)).1)).put (some 16) (.bool (soV (X.ax, X.ay) (X.bx, X.cy)).2)).put (some 5) (.int .i64 (soV (X.ax, X.ay) (X.bx, X.cy)).1)).put (some 6) (.bool (soV (X.ax, X.ay) (X.bx, X.cy)).2)) w') : (Code.region 1 (opsOf 1 Try.f4) true).wp Try.prog Q X.a0 w := by
  refine reg_act (acts := ZA.acts) (av := ZA.av) (val0 := X.val0) (Wd := X.Wd) (by kernel_rfl) (by kernel_rfl) (by rw [ZA.size]; decide) (fun i hi => ZA.steps X ok i hi) _ h0 ?_
  intro γ w' h
  rw [ZA.puts]
  exact hend γ w' h
structure ZB2 where
  ax : Int
  ay : Int
  bx : Int
  cy : Int
  b0 : Nat
  b1 : Nat
  W : World
  a0 : Act
structure ZB2Ok (X : ZB2) : Prop where
  c0 : X.W.cell? ⟨X.b0, 0, none⟩ = some (.int .i64 X.ax)
  c1 : X.W.cell? ⟨X.b0, 1, none⟩ = some (.int .i64 X.ay)
  c2 : X.W.cell? ⟨X.b1, 0, none⟩ = some (.int .i64 X.bx)
  c3 : X.W.cell? ⟨X.b1, 1, none⟩ = some (.int .i64 X.cy)
  e2 : X.a0.eval (.tmp 2) = .pointer (some ⟨X.b0, 0, none⟩)
  e3 : X.a0.eval (.tmp 3) = .pointer (some ⟨X.b1, 0, none⟩)
  sz : X.a0.tmps.size = 33
def ZB2.val0 (X : ZB2) : Nat → Value
  | 7 => .int .i64 (soV (X.ax, X.ay) (X.bx, X.cy)).1
  | 8 => .bool (soV (X.ax, X.ay) (X.bx, X.cy)).2
  | 17 => .tuple #[.int .i64 (soV (X.ax, X.ay) (X.bx, X.cy)).1, .bool (soV (X.ax, X.ay) (X.bx, X.cy)).2]
  | 18 => .agg #[.int .i64 X.ax, .int .i64 X.ay]
  | 19 => .agg #[.int .i64 X.ax, .int .i64 X.ay]
  | 20 => .agg #[.int .i64 X.bx, .int .i64 X.cy]
  | 21 => .agg #[.int .i64 X.bx, .int .i64 X.cy]
  | 22 => .tuple #[.int .i64 (soV (X.ax, X.ay) (X.bx, X.cy)).1, .bool (soV (X.ax, X.ay) (X.bx, X.cy)).2]
  | 23 => .int .i64 (soV (X.ax, X.ay) (X.bx, X.cy)).1
  | 24 => .bool (soV (X.ax, X.ay) (X.bx, X.cy)).2
  | _ => undef
def ZB2.av : Nat → Option Nat
  | _ => none
def ZB2.acts : List Nat := []
/-- The world, by how many of the acting ones have come up. -/
def ZB2.Wd (X : ZB2) : Nat → (Nat → Value) → World → Prop
  | _, _, w => Kp X.W w
theorem ZB2.kp {X : ZB2} {n : Nat} {γ : Nat → Value} {w : World} (h : X.Wd n γ w) : Kp X.W w := h
theorem ZB2.keep {X : ZB2} {n : Nat} {γ : Nat → Value} {w w' : World} (h : X.Wd n γ w) (k : Kp w w') : X.Wd n γ w' := Kp.trans h k
theorem ZB2.chain : chainG (opsOf 2 Try.f4) ZB2.acts = true := by kernel_rfl
theorem ZB2.nodup : ZB2.acts.Nodup := by decide
theorem ZB2.inj {listed : Array Bool} {i k : Nat} (h : (List.range (opsOf 2 Try.f4).size).all (fun j => decide (j = i) || !(match dstOf (opsOf 2 Try.f4) j with | some d => decide (ZB2.av d = some k) | none => false)) = true) (hu : listed.getD i false = false) : ∀ d, got (opsOf 2 Try.f4) listed d → ZB2.av d ≠ some k := by
  rintro d ⟨j, h1, h2⟩ h3
  have hlt : j < (opsOf 2 Try.f4).size := by
    rcases Nat.lt_or_ge j (opsOf 2 Try.f4).size with h4 | h4
    · exact h4
    · unfold dstOf at h2; rw [Array.getElem?_eq_none h4] at h2; cases h2
  have h5 := List.all_eq_true.1 h j (List.mem_range.2 hlt)
  rw [h2] at h5
  simp only [h3, decide_true, Bool.not_true, Bool.or_false, decide_eq_true_eq] at h5
  subst h5
  rw [hu] at h1
  cases h1
theorem ZB2.s0 (X : ZB2) (ok : ZB2Ok X) {Q : Exit → Act → World → Prop} : StepG (opsOf 2 Try.f4) ZB2.acts ZB2.av X.val0 X.Wd X.a0 Q 0 := by
  intro γ listed a w o hF hC hW h1 ho h2
  obtain ⟨hd, hop, hg⟩ := fields2 (x := some 18) (y := Op.load 32 (.tmp 2)) (z := none) (by kernel_rfl) ho
  have e2 : a.eval (.tmp 2) = .pointer (some ⟨X.b0, 0, none⟩) := (hF.eval0 (by kernel_rfl)).trans ok.e2
  have hc0 := rq_at (ZB2.kp hW) ok.c0
  have hc1 := rq_at (ZB2.kp hW) ok.c1
  refine st_pureG hF hC hW ho h2 (by decide) hd hg rfl ?_
  show _ = Result.ok (Next.value (.agg #[.int .i64 X.ax, .int .i64 X.ay])) w
  generalize a.eval = ρ at e2 ⊢
  unfold execOp
  rw [hop]
  simp [e2, hc0, hc1, go_sem]
theorem ZB2.s1 (X : ZB2) (ok : ZB2Ok X) {Q : Exit → Act → World → Prop} : StepG (opsOf 2 Try.f4) ZB2.acts ZB2.av X.val0 X.Wd X.a0 Q 1 := by
  intro γ listed a w o hF hC hW h1 ho h2
  obtain ⟨hd, hop, hg⟩ := fields2 (x := some 19) (y := Op.call { callee := .value (.func 14), args := #[(.tmp 18)], argTypes := #[32] }) (z := none) (by kernel_rfl) ho
  have e18 : a.eval (.tmp 18) = .agg #[.int .i64 X.ax, .int .i64 X.ay] := slotG hF ho h2 (j := 0) (d := 18) (by kernel_rfl) (by kernel_rfl) (by rw [ok.sz]; decide)
  have ef : a.eval (.func 14) = .func (.func 14) #[] #[] := rfl
  refine st_callG hF hC hW ho h2 (by decide) hd hg rfl (f := 14) (args := #[.agg #[.int .i64 X.ax, .int .i64 X.ay]]) ?_ ?_ ?_
  · generalize a.eval = ρ at e18 ef ⊢
    unfold execOp
    rw [hop]
    simp [e18, ef, go_sem]
  · exact toPoint_any w _ _
  · intro w' hk; exact ZB2.keep hW hk
theorem ZB2.s2 (X : ZB2) (ok : ZB2Ok X) {Q : Exit → Act → World → Prop} : StepG (opsOf 2 Try.f4) ZB2.acts ZB2.av X.val0 X.Wd X.a0 Q 2 := by
  intro γ listed a w o hF hC hW h1 ho h2
  obtain ⟨hd, hop, hg⟩ := fields2 (x := some 20) (y := Op.load 32 (.tmp 3)) (z := none) (by kernel_rfl) ho
  have e3 : a.eval (.tmp 3) = .pointer (some ⟨X.b1, 0, none⟩) := (hF.eval0 (by kernel_rfl)).trans ok.e3
  have hc0 := rq_at (ZB2.kp hW) ok.c2
  have hc1 := rq_at (ZB2.kp hW) ok.c3
  refine st_pureG hF hC hW ho h2 (by decide) hd hg rfl ?_
  show _ = Result.ok (Next.value (.agg #[.int .i64 X.bx, .int .i64 X.cy])) w
  generalize a.eval = ρ at e3 ⊢
  unfold execOp
  rw [hop]
  simp [e3, hc0, hc1, go_sem]
theorem ZB2.s3 (X : ZB2) (ok : ZB2Ok X) {Q : Exit → Act → World → Prop} : StepG (opsOf 2 Try.f4) ZB2.acts ZB2.av X.val0 X.Wd X.a0 Q 3 := by
  intro γ listed a w o hF hC hW h1 ho h2
  obtain ⟨hd, hop, hg⟩ := fields2 (x := some 21) (y := Op.call { callee := .value (.func 14), args := #[(.tmp 20)], argTypes := #[32] }) (z := none) (by kernel_rfl) ho
  have e20 : a.eval (.tmp 20) = .agg #[.int .i64 X.bx, .int .i64 X.cy] := slotG hF ho h2 (j := 2) (d := 20) (by kernel_rfl) (by kernel_rfl) (by rw [ok.sz]; decide)
  have ef : a.eval (.func 14) = .func (.func 14) #[] #[] := rfl
  refine st_callG hF hC hW ho h2 (by decide) hd hg rfl (f := 14) (args := #[.agg #[.int .i64 X.bx, .int .i64 X.cy]]) ?_ ?_ ?_
  · generalize a.eval = ρ at e20 ef ⊢
    unfold execOp
    rw [hop]
    simp [e20, ef, go_sem]
  · exact toPoint_any w _ _
  · intro w' hk; exact ZB2.keep hW hk
theorem ZB2.s4 (X : ZB2) (ok : ZB2Ok X) {Q : Exit → Act → World → Prop} : StepG (opsOf 2 Try.f4) ZB2.acts ZB2.av X.val0 X.Wd X.a0 Q 4 := by
  intro γ listed a w o hF hC hW h1 ho h2
  obtain ⟨hd, hop, hg⟩ := fields2 (x := some 22) (y := Op.call { callee := .value (.func 15), args := #[(.tmp 19), (.tmp 21)], argTypes := #[35, 35] }) (z := none) (by kernel_rfl) ho
  have e19 : a.eval (.tmp 19) = .agg #[.int .i64 X.ax, .int .i64 X.ay] := slotG hF ho h2 (j := 1) (d := 19) (by kernel_rfl) (by kernel_rfl) (by rw [ok.sz]; decide)
  have e21 : a.eval (.tmp 21) = .agg #[.int .i64 X.bx, .int .i64 X.cy] := slotG hF ho h2 (j := 3) (d := 21) (by kernel_rfl) (by kernel_rfl) (by rw [ok.sz]; decide)
  have ef : a.eval (.func 15) = .func (.func 15) #[] #[] := rfl
  refine st_callG hF hC hW ho h2 (by decide) hd hg rfl (f := 15) (args := #[.agg #[.int .i64 X.ax, .int .i64 X.ay], .agg #[.int .i64 X.bx, .int .i64 X.cy]]) ?_ ?_ ?_
  · generalize a.eval = ρ at e19 e21 ef ⊢
    unfold execOp
    rw [hop]
    simp [e19, e21, ef, go_sem]
  · exact isizeOf w (X.ax, X.ay) (X.bx, X.cy)
  · intro w' hk; exact ZB2.keep hW hk
theorem ZB2.s5 (X : ZB2) (ok : ZB2Ok X) {Q : Exit → Act → World → Prop} : StepG (opsOf 2 Try.f4) ZB2.acts ZB2.av X.val0 X.Wd X.a0 Q 5 := by
  intro γ listed a w o hF hC hW h1 ho h2
  obtain ⟨hd, hop, hg⟩ := fields2 (x := some 17) (y := Op.move (.tmp 22)) (z := none) (by kernel_rfl) ho
  have e22 : a.eval (.tmp 22) = .tuple #[.int .i64 (soV (X.ax, X.ay) (X.bx, X.cy)).1, .bool (soV (X.ax, X.ay) (X.bx, X.cy)).2] := slotG hF ho h2 (j := 4) (d := 22) (by kernel_rfl) (by kernel_rfl) (by rw [ok.sz]; decide)
  refine st_pureG hF hC hW ho h2 (by decide) hd hg rfl ?_
  show _ = Result.ok (Next.value (.tuple #[.int .i64 (soV (X.ax, X.ay) (X.bx, X.cy)).1, .bool (soV (X.ax, X.ay) (X.bx, X.cy)).2])) w
  generalize a.eval = ρ at e22 ⊢
  unfold execOp
  rw [hop]
  simp [e22, go_sem]
theorem ZB2.s6 (X : ZB2) (ok : ZB2Ok X) {Q : Exit → Act → World → Prop} : StepG (opsOf 2 Try.f4) ZB2.acts ZB2.av X.val0 X.Wd X.a0 Q 6 := by
  intro γ listed a w o hF hC hW h1 ho h2
  obtain ⟨hd, hop, hg⟩ := fields2 (x := some 23) (y := Op.extract (.tmp 17) 0) (z := none) (by kernel_rfl) ho
  have e17 : a.eval (.tmp 17) = .tuple #[.int .i64 (soV (X.ax, X.ay) (X.bx, X.cy)).1, .bool (soV (X.ax, X.ay) (X.bx, X.cy)).2] := slotG hF ho h2 (j := 5) (d := 17) (by kernel_rfl) (by kernel_rfl) (by rw [ok.sz]; decide)
  refine st_pureG hF hC hW ho h2 (by decide) hd hg rfl ?_
  show _ = Result.ok (Next.value (.int .i64 (soV (X.ax, X.ay) (X.bx, X.cy)).1)) w
  generalize a.eval = ρ at e17 ⊢
  unfold execOp
  rw [hop]
  simp [e17, go_sem]
theorem ZB2.s7 (X : ZB2) (ok : ZB2Ok X) {Q : Exit → Act → World → Prop} : StepG (opsOf 2 Try.f4) ZB2.acts ZB2.av X.val0 X.Wd X.a0 Q 7 := by
  intro γ listed a w o hF hC hW h1 ho h2
  obtain ⟨hd, hop, hg⟩ := fields2 (x := some 24) (y := Op.extract (.tmp 17) 1) (z := none) (by kernel_rfl) ho
  have e17 : a.eval (.tmp 17) = .tuple #[.int .i64 (soV (X.ax, X.ay) (X.bx, X.cy)).1, .bool (soV (X.ax, X.ay) (X.bx, X.cy)).2] := slotG hF ho h2 (j := 5) (d := 17) (by kernel_rfl) (by kernel_rfl) (by rw [ok.sz]; decide)
  refine st_pureG hF hC hW ho h2 (by decide) hd hg rfl ?_
  show _ = Result.ok (Next.value (.bool (soV (X.ax, X.ay) (X.bx, X.cy)).2)) w
  generalize a.eval = ρ at e17 ⊢
  unfold execOp
  rw [hop]
  simp [e17, go_sem]
theorem ZB2.s8 (X : ZB2) (ok : ZB2Ok X) {Q : Exit → Act → World → Prop} : StepG (opsOf 2 Try.f4) ZB2.acts ZB2.av X.val0 X.Wd X.a0 Q 8 := by
  intro γ listed a w o hF hC hW h1 ho h2
  obtain ⟨hd, hop, hg⟩ := fields2 (x := some 7) (y := Op.assign (.tmp 23)) (z := none) (by kernel_rfl) ho
  have e23 : a.eval (.tmp 23) = .int .i64 (soV (X.ax, X.ay) (X.bx, X.cy)).1 := slotG hF ho h2 (j := 6) (d := 23) (by kernel_rfl) (by kernel_rfl) (by rw [ok.sz]; decide)
  refine st_pureG hF hC hW ho h2 (by decide) hd hg rfl ?_
  show _ = Result.ok (Next.value (.int .i64 (soV (X.ax, X.ay) (X.bx, X.cy)).1)) w
  generalize a.eval = ρ at e23 ⊢
  unfold execOp
  rw [hop]
  simp [e23, go_sem]
theorem ZB2.s9 (X : ZB2) (ok : ZB2Ok X) {Q : Exit → Act → World → Prop} : StepG (opsOf 2 Try.f4) ZB2.acts ZB2.av X.val0 X.Wd X.a0 Q 9 := by
  intro γ listed a w o hF hC hW h1 ho h2
  obtain ⟨hd, hop, hg⟩ := fields2 (x := some 8) (y := Op.assign (.tmp 24)) (z := none) (by kernel_rfl) ho
  have e24 : a.eval (.tmp 24) = .bool (soV (X.ax, X.ay) (X.bx, X.cy)).2 := slotG hF ho h2 (j := 7) (d := 24) (by kernel_rfl) (by kernel_rfl) (by rw [ok.sz]; decide)
  refine st_pureG hF hC hW ho h2 (by decide) hd hg rfl ?_
  show _ = Result.ok (Next.value (.bool (soV (X.ax, X.ay) (X.bx, X.cy)).2)) w
  generalize a.eval = ρ at e24 ⊢
  unfold execOp
  rw [hop]
  simp [e24, go_sem]
theorem ZB2.size : (opsOf 2 Try.f4).size = 10 := by kernel_rfl
theorem ZB2.steps (X : ZB2) (ok : ZB2Ok X) {Q : Exit → Act → World → Prop} (i : Nat) (hi : i < (opsOf 2 Try.f4).size) : StepG (opsOf 2 Try.f4) ZB2.acts ZB2.av X.val0 X.Wd X.a0 Q i := by
  rw [ZB2.size] at hi
  have hc : i = 0 ∨ i = 1 ∨ i = 2 ∨ i = 3 ∨ i = 4 ∨ i = 5 ∨ i = 6 ∨ i = 7 ∨ i = 8 ∨ i = 9 := by omega
  rcases hc with rfl | rfl | rfl | rfl | rfl | rfl | rfl | rfl | rfl | rfl
  · exact ZB2.s0 X ok
  · exact ZB2.s1 X ok
  · exact ZB2.s2 X ok
  · exact ZB2.s3 X ok
  · exact ZB2.s4 X ok
  · exact ZB2.s5 X ok
  · exact ZB2.s6 X ok
  · exact ZB2.s7 X ok
  · exact ZB2.s8 X ok
  · exact ZB2.s9 X ok
theorem ZB2.puts (X : ZB2) (γ : Nat → Value) (a0 : Act) : putsL (valG ZB2.av X.val0 γ) (opsOf 2 Try.f4).toList a0 = ((((((((((a0.put (some 18) (.agg #[.int .i64 X.ax, .int .i64 X.ay])).put (some 19) (.agg #[.int .i64 X.ax, .int .i64 X.ay])).put (some 20) (.agg #[.int .i64 X.bx, .int .i64 X.cy])).put (some 21) (.agg #[.int .i64 X.bx, .int .i64 X.cy])).put (some 22) (.tuple #[.int .i64 (soV (X.ax, X.ay) (X.bx, X.cy)).1, .bool (soV (X.ax, X.ay) (X.bx, X.cy)).2])).put (some 17) (.tuple #[.int .i64 (soV (X.ax, X.ay) (X.bx, X.cy)).1, .bool (soV (X.ax, X.ay) (X.bx, X.cy)).2])).put (some 23) (.int .i64 (soV (X.ax, X.ay) (X.bx, X.cy)).1)).put (some 24) (.bool (soV (X.ax, X.ay) (X.bx, X.cy)).2)).put (some 7) (.int .i64 (soV (X.ax, X.ay) (X.bx, X.cy)).1)).put (some 8) (.bool (soV (X.ax, X.ay) (X.bx, X.cy)).2)) := by kernel_rfl
/-- The region, whatever order comes up. -/
theorem ZB2.run (X : ZB2) (ok : ZB2Ok X) {Q : Exit → Act → World → Prop} (w : World) (h0 : X.Wd 0 (fun _ => undef) w.drew) (hend : ∀ (γ : Nat → Value) w', X.Wd 0 γ w' → Q .normal ((((((((((X.a0.put (some 18) (.agg #[.int .i64 X.ax, .int .i64 X.ay])).put (some 19) (.agg #[.int .i64 X.ax, .int .i64 X.ay])).put (some 20) (.agg #[.int .i64 X.bx, .int .i64 X.cy])).put (some 21) (.agg #[.int .i64 X.bx, .int .i64 X.cy])).put (some 22) (.tuple #[.int .i64 (soV (X.ax, X.ay) (X.bx, X.cy)).1, .bool (soV (X.ax, X.ay) (X.bx, X.cy)).2])).put (some 17) (.tuple #[.int .i64 (soV (X.ax, X.ay) (X.bx, X.cy)).1, .bool (soV (X.ax, X.ay) (X.bx, X.cy)).2])).put (some 23) (.int .i64 (soV (X.ax, X.ay) (X.bx, X.cy)).1)).put (some 24) (.bool (soV (X.ax, X.ay) (X.bx, X.cy)).2)).put (some 7) (.int .i64 (soV (X.ax, X.ay) (X.bx, X.cy)).1)).put (some 8) (.bool (soV (X.ax, X.ay) (X.bx, X.cy)).2)) w') : (Code.region 2 (opsOf 2 Try.f4) true).wp Try.prog Q X.a0 w := by
  refine reg_act (acts := ZB2.acts) (av := ZB2.av) (val0 := X.val0) (Wd := X.Wd) (by kernel_rfl) (by kernel_rfl) (by rw [ZB2.size]; decide) (fun i hi => ZB2.steps X ok i hi) _ h0 ?_
  intro γ w' h
  rw [ZB2.puts]
  exact hend γ w' h
end Go.Proofs.Ytolpiapkmlbccaa
