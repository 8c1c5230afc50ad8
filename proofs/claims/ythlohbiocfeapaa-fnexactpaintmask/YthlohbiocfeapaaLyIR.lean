/-
  The statements of below and of the functions that it is handed, whatever order their operations come up in; each theorem names its conditions.
-/
import Derived.Test.YthlohbiocfeapaaCvQ
import Derived.Test.YthlohbiocfeapaaRq
import Derived.Test.YthlohbiocfeapaaTnI
namespace Go.Proofs.Ythlohbiocfeapaa
open Go.ChangeShapes Go.WideShapes Go.ChangeAt Go.RowKit
set_option linter.unusedVariables false

structure PMR where
  k : Nat
  bt : Nat
  bm : Nat
  br : Nat
  gb : Nat
  go : Nat
  n : Nat
  c : Nat
  m : Int
  t0 : Int
  t1 : Int
  t2 : Int
  t3 : Int
  W : World
  a0 : Act
structure PMROk (X : PMR) : Prop where
  c0 : X.W.cell? ⟨X.bt, 0, none⟩ = some (.int .i64 X.t0)
  c1 : X.W.cell? ⟨X.bt, 1, none⟩ = some (.int .i64 X.t1)
  c2 : X.W.cell? ⟨X.bt, 2, none⟩ = some (.int .i64 X.t2)
  c3 : X.W.cell? ⟨X.bt, 3, none⟩ = some (.int .i64 X.t3)
  cm : X.W.cell? ⟨X.bm, 2, none⟩ = some (.slice (some ⟨X.gb, X.go, none⟩) X.n X.c)
  hk : X.k < X.n
  cv : X.W.cell? ⟨X.gb, X.go + X.k, none⟩ = some (.int .i64 X.m)
  wm : IntKind.i64.wrap (X.m * 16) = 16 * X.m
  ot : ok8 X.t0 ∧ ok8 X.t1 ∧ ok8 X.t2 ∧ ok8 X.t3
  hp : 0 ≤ 16 * X.m ∧ 16 * X.m ≤ 256
  z0 : ∃ u, X.W.cell? ⟨X.br, 0, none⟩ = some u
  z1 : ∃ u, X.W.cell? ⟨X.br, 1, none⟩ = some u
  z2 : ∃ u, X.W.cell? ⟨X.br, 2, none⟩ = some u
  z3 : ∃ u, X.W.cell? ⟨X.br, 3, none⟩ = some u
  zf : ∀ o, X.W.frozen? ⟨X.br, o, none⟩ = false
  e0 : X.a0.eval (.tmp 0) = .int .i64 (X.k : Int)
  e1 : X.a0.eval (.tmp 1) = .pointer (some ⟨X.bt, 0, none⟩)
  e2 : X.a0.eval (.tmp 2) = .pointer (some ⟨X.bm, 0, none⟩)
  e4 : X.a0.eval (.tmp 4) = .pointer (some ⟨X.br, 0, none⟩)
  sz : X.a0.tmps.size = 13
def PMR.val0 (X : PMR) : Nat → Value
  | 5 => .agg #[.int .i64 X.t0, .int .i64 X.t1, .int .i64 X.t2, .int .i64 X.t3]
  | 6 => .pointer (some ⟨X.bm, 2, none⟩)
  | 7 => .slice (some ⟨X.gb, X.go, none⟩) X.n X.c
  | 8 => .int .i64 (X.k : Int)
  | 9 => .pointer (some ⟨X.gb, X.go + X.k, none⟩)
  | 10 => .int .i64 X.m
  | 11 => .int .i64 (16 * X.m)
  | 12 => .agg #[.int .i64 (thinT ⟨X.t0, X.t1, X.t2, X.t3⟩ (16 * X.m)).ax, .int .i64 (thinT ⟨X.t0, X.t1, X.t2, X.t3⟩ (16 * X.m)).ay, .int .i64 (thinT ⟨X.t0, X.t1, X.t2, X.t3⟩ (16 * X.m)).bx, .int .i64 (thinT ⟨X.t0, X.t1, X.t2, X.t3⟩ (16 * X.m)).cy]
  | _ => undef
def PMR.av : Nat → Option Nat
  | _ => none
def PMR.acts : List Nat := [8]
/-- The world, by how many of the acting ones have come up. -/
def PMR.Wd (X : PMR) : Nat → (Nat → Value) → World → Prop
  | 0, _, w => Kp X.W w
  | _, _, w => ∃ w1, Kp X.W w1 ∧ w = ((((w1.setCell ⟨X.br, 0, none⟩ (.int .i64 (thinT ⟨X.t0, X.t1, X.t2, X.t3⟩ (16 * X.m)).ax)).setCell ⟨X.br, 1, none⟩ (.int .i64 (thinT ⟨X.t0, X.t1, X.t2, X.t3⟩ (16 * X.m)).ay)).setCell ⟨X.br, 2, none⟩ (.int .i64 (thinT ⟨X.t0, X.t1, X.t2, X.t3⟩ (16 * X.m)).bx)).setCell ⟨X.br, 3, none⟩ (.int .i64 (thinT ⟨X.t0, X.t1, X.t2, X.t3⟩ (16 * X.m)).cy))
theorem PMR.chain : chainG (opsOf 1 Try.f100) PMR.acts = true := by kernel_rfl
theorem PMR.nodup : PMR.acts.Nodup := by decide
theorem PMR.inj {listed : Array Bool} {i k : Nat} (h : (List.range (opsOf 1 Try.f100).size).all (fun j => decide (j = i) || !(match dstOf (opsOf 1 Try.f100) j with | some d => decide (PMR.av d = some k) | none => false)) = true) (hu : listed.getD i false = false) : ∀ d, got (opsOf 1 Try.f100) listed d → PMR.av d ≠ some k := by
  rintro d ⟨j, h1, h2⟩ h3
  have hlt : j < (opsOf 1 Try.f100).size := by
    rcases Nat.lt_or_ge j (opsOf 1 Try.f100).size with h4 | h4
    · exact h4
    · unfold dstOf at h2; rw [Array.getElem?_eq_none h4] at h2; cases h2
  have h5 := List.all_eq_true.1 h j (List.mem_range.2 hlt)
  rw [h2] at h5
  simp only [h3, decide_true, Bool.not_true, Bool.or_false, decide_eq_true_eq] at h5
  subst h5
  rw [hu] at h1
  cases h1
theorem PMR.s0 (X : PMR) (ok : PMROk X) {Q : Exit → Act → World → Prop} : StepG (opsOf 1 Try.f100) PMR.acts PMR.av X.val0 X.Wd X.a0 Q 0 := by
  intro γ listed a w o hF hC hW h1 ho h2
  obtain ⟨hd, hop, hg⟩ := fields2 (x := some 5) (y := Op.load 24 (.tmp 1)) (z := none) (by kernel_rfl) ho
  have e1 : a.eval (.tmp 1) = .pointer (some ⟨X.bt, 0, none⟩) := (hF.eval0 (by kernel_rfl)).trans ok.e1
  have hph := phase_leG (acts := PMR.acts) (m := 0) (x := 8) hC (unl (hF.lt ho) h1) rfl [7, 0] (by kernel_rfl) (by decide)
  have hWW := hW
  generalize phase listed PMR.acts = n at hph hWW
  have hk : Kp X.W w := by
    obtain rfl : n = 0 := by omega
    exact hWW
  have hc0 := rq_at hk ok.c0
  have hc1 := rq_at hk ok.c1
  have hc2 := rq_at hk ok.c2
  have hc3 := rq_at hk ok.c3
  refine st_pureG hF hC hW ho h2 (by decide) hd hg rfl ?_
  show _ = Result.ok (Next.value (.agg #[.int .i64 X.t0, .int .i64 X.t1, .int .i64 X.t2, .int .i64 X.t3])) w
  generalize a.eval = ρ at e1 ⊢
  unfold execOp
  rw [hop]
  simp [e1, hc0, hc1, hc2, hc3, go_sem]
theorem PMR.s1 (X : PMR) (ok : PMROk X) {Q : Exit → Act → World → Prop} : StepG (opsOf 1 Try.f100) PMR.acts PMR.av X.val0 X.Wd X.a0 Q 1 := by
  intro γ listed a w o hF hC hW h1 ho h2
  obtain ⟨hd, hop, hg⟩ := fields2 (x := some 6) (y := Op.fieldAddr 75 (.tmp 2) 2) (z := none) (by kernel_rfl) ho
  have e2 : a.eval (.tmp 2) = .pointer (some ⟨X.bm, 0, none⟩) := (hF.eval0 (by kernel_rfl)).trans ok.e2
  refine st_pureG hF hC hW ho h2 (by decide) hd hg rfl ?_
  show _ = Result.ok (Next.value (.pointer (some ⟨X.bm, 2, none⟩))) w
  generalize a.eval = ρ at e2 ⊢
  unfold execOp
  rw [hop]
  simp [e2, go_sem]
theorem PMR.s2 (X : PMR) (ok : PMROk X) {Q : Exit → Act → World → Prop} : StepG (opsOf 1 Try.f100) PMR.acts PMR.av X.val0 X.Wd X.a0 Q 2 := by
  intro γ listed a w o hF hC hW h1 ho h2
  obtain ⟨hd, hop, hg⟩ := fields2 (x := some 7) (y := Op.load 70 (.tmp 6)) (z := none) (by kernel_rfl) ho
  have e6 : a.eval (.tmp 6) = .pointer (some ⟨X.bm, 2, none⟩) := slotG hF ho h2 (j := 1) (d := 6) (by kernel_rfl) (by kernel_rfl) (by rw [ok.sz]; decide)
  have hph := phase_leG (acts := PMR.acts) (m := 0) (x := 8) hC (unl (hF.lt ho) h1) rfl [7, 6, 5, 4, 2] (by kernel_rfl) (by decide)
  have hWW := hW
  generalize phase listed PMR.acts = n at hph hWW
  have hk : Kp X.W w := by
    obtain rfl : n = 0 := by omega
    exact hWW
  have hc0 := rq_at hk ok.cm
  refine st_pureG hF hC hW ho h2 (by decide) hd hg rfl ?_
  show _ = Result.ok (Next.value (.slice (some ⟨X.gb, X.go, none⟩) X.n X.c)) w
  generalize a.eval = ρ at e6 ⊢
  unfold execOp
  rw [hop]
  simp [e6, hc0, go_sem]
theorem PMR.s3 (X : PMR) (ok : PMROk X) {Q : Exit → Act → World → Prop} : StepG (opsOf 1 Try.f100) PMR.acts PMR.av X.val0 X.Wd X.a0 Q 3 := by
  intro γ listed a w o hF hC hW h1 ho h2
  obtain ⟨hd, hop, hg⟩ := fields2 (x := some 8) (y := Op.move (.tmp 0)) (z := none) (by kernel_rfl) ho
  have e0 : a.eval (.tmp 0) = .int .i64 (X.k : Int) := (hF.eval0 (by kernel_rfl)).trans ok.e0
  refine st_pureG hF hC hW ho h2 (by decide) hd hg rfl ?_
  show _ = Result.ok (Next.value (.int .i64 (X.k : Int))) w
  generalize a.eval = ρ at e0 ⊢
  unfold execOp
  rw [hop]
  simp [e0, go_sem]
theorem PMR.s4 (X : PMR) (ok : PMROk X) {Q : Exit → Act → World → Prop} : StepG (opsOf 1 Try.f100) PMR.acts PMR.av X.val0 X.Wd X.a0 Q 4 := by
  intro γ listed a w o hF hC hW h1 ho h2
  obtain ⟨hd, hop, hg⟩ := fields2 (x := some 9) (y := Op.indexAddr 70 (.tmp 7) (.tmp 8)) (z := none) (by kernel_rfl) ho
  have e7 : a.eval (.tmp 7) = .slice (some ⟨X.gb, X.go, none⟩) X.n X.c := slotG hF ho h2 (j := 2) (d := 7) (by kernel_rfl) (by kernel_rfl) (by rw [ok.sz]; decide)
  have e8 : a.eval (.tmp 8) = .int .i64 (X.k : Int) := slotG hF ho h2 (j := 3) (d := 8) (by kernel_rfl) (by kernel_rfl) (by rw [ok.sz]; decide)
  refine st_pureG hF hC hW ho h2 (by decide) hd hg rfl ?_
  show _ = Result.ok (Next.value (.pointer (some ⟨X.gb, X.go + X.k, none⟩))) w
  generalize a.eval = ρ at e7 e8 ⊢
  unfold execOp
  rw [hop]
  simp [e7, e8, ok.hk, go_sem]
theorem PMR.s5 (X : PMR) (ok : PMROk X) {Q : Exit → Act → World → Prop} : StepG (opsOf 1 Try.f100) PMR.acts PMR.av X.val0 X.Wd X.a0 Q 5 := by
  intro γ listed a w o hF hC hW h1 ho h2
  obtain ⟨hd, hop, hg⟩ := fields2 (x := some 10) (y := Op.load 3 (.tmp 9)) (z := none) (by kernel_rfl) ho
  have e9 : a.eval (.tmp 9) = .pointer (some ⟨X.gb, X.go + X.k, none⟩) := slotG hF ho h2 (j := 4) (d := 9) (by kernel_rfl) (by kernel_rfl) (by rw [ok.sz]; decide)
  have hph := phase_leG (acts := PMR.acts) (m := 0) (x := 8) hC (unl (hF.lt ho) h1) rfl [7, 6, 5] (by kernel_rfl) (by decide)
  have hWW := hW
  generalize phase listed PMR.acts = n at hph hWW
  have hk : Kp X.W w := by
    obtain rfl : n = 0 := by omega
    exact hWW
  have hc0 := rq_at hk ok.cv
  refine st_pureG hF hC hW ho h2 (by decide) hd hg rfl ?_
  show _ = Result.ok (Next.value (.int .i64 X.m)) w
  generalize a.eval = ρ at e9 ⊢
  unfold execOp
  rw [hop]
  simp [e9, hc0, go_sem]
theorem PMR.s6 (X : PMR) (ok : PMROk X) {Q : Exit → Act → World → Prop} : StepG (opsOf 1 Try.f100) PMR.acts PMR.av X.val0 X.Wd X.a0 Q 6 := by
  intro γ listed a w o hF hC hW h1 ho h2
  obtain ⟨hd, hop, hg⟩ := fields2 (x := some 11) (y := Op.binOp .mul 3 (.tmp 10) (.const (.int .i64 16)) 3) (z := none) (by kernel_rfl) ho
  have e10 : a.eval (.tmp 10) = .int .i64 X.m := slotG hF ho h2 (j := 5) (d := 10) (by kernel_rfl) (by kernel_rfl) (by rw [ok.sz]; decide)
  have ec1 : a.eval (.const (.int .i64 16)) = .int .i64 16 := rfl
  refine st_pureG hF hC hW ho h2 (by decide) hd hg rfl ?_
  show _ = Result.ok (Next.value (.int .i64 (16 * X.m))) w
  generalize a.eval = ρ at e10 ec1 ⊢
  unfold execOp
  rw [hop]
  simp [e10, ec1, ok.wm, go_sem]
theorem PMR.s7 (X : PMR) (ok : PMROk X) {Q : Exit → Act → World → Prop} : StepG (opsOf 1 Try.f100) PMR.acts PMR.av X.val0 X.Wd X.a0 Q 7 := by
  intro γ listed a w o hF hC hW h1 ho h2
  obtain ⟨hd, hop, hg⟩ := fields2 (x := some 12) (y := Op.call { callee := .value (.func 80), args := #[(.tmp 5), (.tmp 11)], argTypes := #[24, 3] }) (z := none) (by kernel_rfl) ho
  have e5 : a.eval (.tmp 5) = .agg #[.int .i64 X.t0, .int .i64 X.t1, .int .i64 X.t2, .int .i64 X.t3] := slotG hF ho h2 (j := 0) (d := 5) (by kernel_rfl) (by kernel_rfl) (by rw [ok.sz]; decide)
  have e11 : a.eval (.tmp 11) = .int .i64 (16 * X.m) := slotG hF ho h2 (j := 6) (d := 11) (by kernel_rfl) (by kernel_rfl) (by rw [ok.sz]; decide)
  have ef : a.eval (.func 80) = .func (.func 80) #[] #[] := rfl
  have hph := phase_leG (acts := PMR.acts) (m := 0) (x := 8) hC (unl (hF.lt ho) h1) rfl [7] (by kernel_rfl) (by decide)
  have hWW := hW
  generalize phase listed PMR.acts = n at hph hWW
  refine st_callG hF hC hW ho h2 (by decide) hd hg rfl (f := 80) (args := #[.agg #[.int .i64 X.t0, .int .i64 X.t1, .int .i64 X.t2, .int .i64 X.t3], .int .i64 (16 * X.m)]) ?_ ?_ ?_
  · generalize a.eval = ρ at e5 e11 ef ⊢
    unfold execOp
    rw [hop]
    simp [e5, e11, ef, go_sem]
  · exact ithin w ⟨X.t0, X.t1, X.t2, X.t3⟩ _ ok.ot ok.hp
  · intro w' hk
    have hz : phase listed PMR.acts = 0 := by
      have := phase_leG (acts := PMR.acts) (m := 0) (x := 8) hC (unl (hF.lt ho) h1) rfl [7] (by kernel_rfl) (by decide)
      omega
    rw [hz] at hW ⊢
    exact Kp.trans hW hk
theorem PMR.s8 (X : PMR) (ok : PMROk X) {Q : Exit → Act → World → Prop} : StepG (opsOf 1 Try.f100) PMR.acts PMR.av X.val0 X.Wd X.a0 Q 8 := by
  intro γ listed a w o hF hC hW h1 ho h2
  obtain ⟨hd, hop, hg⟩ := fields2 (x := none) (y := Op.store 24 (.tmp 4) (.tmp 12)) (z := none) (by kernel_rfl) ho
  have e4 : a.eval (.tmp 4) = .pointer (some ⟨X.br, 0, none⟩) := (hF.eval0 (by kernel_rfl)).trans ok.e4
  have e12 : a.eval (.tmp 12) = .agg #[.int .i64 (thinT ⟨X.t0, X.t1, X.t2, X.t3⟩ (16 * X.m)).ax, .int .i64 (thinT ⟨X.t0, X.t1, X.t2, X.t3⟩ (16 * X.m)).ay, .int .i64 (thinT ⟨X.t0, X.t1, X.t2, X.t3⟩ (16 * X.m)).bx, .int .i64 (thinT ⟨X.t0, X.t1, X.t2, X.t3⟩ (16 * X.m)).cy] := slotG hF ho h2 (j := 7) (d := 12) (by kernel_rfl) (by kernel_rfl) (by rw [ok.sz]; decide)
  have hu := unl (hF.lt ho) h1
  refine st_actG (k := 0) PMR.chain PMR.nodup rfl hF hC hW h1 ho h2 (Or.inl hd) (PMR.inj (by kernel_rfl) hu) hg ?_
  intro hW0 K hK
  obtain ⟨u0, z0⟩ := ok.z0
  replace z0 := rq_at hW0 z0
  obtain ⟨u1, z1⟩ := ok.z1
  replace z1 := rq_at hW0 z1
  obtain ⟨u2, z2⟩ := ok.z2
  replace z2 := rq_at hW0 z2
  obtain ⟨u3, z3⟩ := ok.z3
  replace z3 := rq_at hW0 z3
  have zf : ∀ o, w.frozen? ⟨X.br, o, none⟩ = false := fun o => (hW0.cells.2 _ _).trans (ok.zf o)
  have hr : (execOp a.eval o).run Try.prog w = .ok .skip ((((w.setCell ⟨X.br, 0, none⟩ (.int .i64 (thinT ⟨X.t0, X.t1, X.t2, X.t3⟩ (16 * X.m)).ax)).setCell ⟨X.br, 1, none⟩ (.int .i64 (thinT ⟨X.t0, X.t1, X.t2, X.t3⟩ (16 * X.m)).ay)).setCell ⟨X.br, 2, none⟩ (.int .i64 (thinT ⟨X.t0, X.t1, X.t2, X.t3⟩ (16 * X.m)).bx)).setCell ⟨X.br, 3, none⟩ (.int .i64 (thinT ⟨X.t0, X.t1, X.t2, X.t3⟩ (16 * X.m)).cy)) := by
    generalize a.eval = ρ at e4 e12 ⊢
    unfold execOp
    rw [hop]
    simp [e4, e12, z0, z1, z2, z3, zf, go_sem]
  unfold Oper.wp
  rw [hr]
  exact hK _ _ ⟨w, hW0, rfl⟩
theorem PMR.size : (opsOf 1 Try.f100).size = 9 := by kernel_rfl
theorem PMR.steps (X : PMR) (ok : PMROk X) {Q : Exit → Act → World → Prop} (i : Nat) (hi : i < (opsOf 1 Try.f100).size) : StepG (opsOf 1 Try.f100) PMR.acts PMR.av X.val0 X.Wd X.a0 Q i := by
  rw [PMR.size] at hi
  have hc : i = 0 ∨ i = 1 ∨ i = 2 ∨ i = 3 ∨ i = 4 ∨ i = 5 ∨ i = 6 ∨ i = 7 ∨ i = 8 := by omega
  rcases hc with rfl | rfl | rfl | rfl | rfl | rfl | rfl | rfl | rfl
  · exact PMR.s0 X ok
  · exact PMR.s1 X ok
  · exact PMR.s2 X ok
  · exact PMR.s3 X ok
  · exact PMR.s4 X ok
  · exact PMR.s5 X ok
  · exact PMR.s6 X ok
  · exact PMR.s7 X ok
  · exact PMR.s8 X ok
theorem PMR.puts (X : PMR) (γ : Nat → Value) (a0 : Act) : putsL (valG PMR.av X.val0 γ) (opsOf 1 Try.f100).toList a0 = ((((((((a0.put (some 5) (.agg #[.int .i64 X.t0, .int .i64 X.t1, .int .i64 X.t2, .int .i64 X.t3])).put (some 6) (.pointer (some ⟨X.bm, 2, none⟩))).put (some 7) (.slice (some ⟨X.gb, X.go, none⟩) X.n X.c)).put (some 8) (.int .i64 (X.k : Int))).put (some 9) (.pointer (some ⟨X.gb, X.go + X.k, none⟩))).put (some 10) (.int .i64 X.m)).put (some 11) (.int .i64 (16 * X.m))).put (some 12) (.agg #[.int .i64 (thinT ⟨X.t0, X.t1, X.t2, X.t3⟩ (16 * X.m)).ax, .int .i64 (thinT ⟨X.t0, X.t1, X.t2, X.t3⟩ (16 * X.m)).ay, .int .i64 (thinT ⟨X.t0, X.t1, X.t2, X.t3⟩ (16 * X.m)).bx, .int .i64 (thinT ⟨X.t0, X.t1, X.t2, X.t3⟩ (16 * X.m)).cy])) := by kernel_rfl
/-- The region, whatever order comes up. -/
theorem PMR.run (X : PMR) (ok : PMROk X) {Q : Exit → Act → World → Prop} (w : World) (h0 : X.Wd 0 (fun _ => undef) w.drew) (hend : ∀ (γ : Nat → Value) w', X.Wd 1 γ w' → Q .normal ((((((((X.a0.put (some 5) (.agg #[.int .i64 X.t0, .int .i64 X.t1, .int .i64 X.t2, .int .i64 X.t3])).put (some 6) (.pointer (some ⟨X.bm, 2, none⟩))).put (some 7) (.slice (some ⟨X.gb, X.go, none⟩) X.n X.c)).put (some 8) (.int .i64 (X.k : Int))).put (some 9) (.pointer (some ⟨X.gb, X.go + X.k, none⟩))).put (some 10) (.int .i64 X.m)).put (some 11) (.int .i64 (16 * X.m))).put (some 12) (.agg #[.int .i64 (thinT ⟨X.t0, X.t1, X.t2, X.t3⟩ (16 * X.m)).ax, .int .i64 (thinT ⟨X.t0, X.t1, X.t2, X.t3⟩ (16 * X.m)).ay, .int .i64 (thinT ⟨X.t0, X.t1, X.t2, X.t3⟩ (16 * X.m)).bx, .int .i64 (thinT ⟨X.t0, X.t1, X.t2, X.t3⟩ (16 * X.m)).cy])) w') : (Code.region 1 (opsOf 1 Try.f100) true).wp Try.prog Q X.a0 w := by
  refine reg_act (acts := PMR.acts) (av := PMR.av) (val0 := X.val0) (Wd := X.Wd) (by kernel_rfl) (by kernel_rfl) (by rw [PMR.size]; decide) (fun i hi => PMR.steps X ok i hi) _ h0 ?_
  intro γ w' h
  rw [PMR.puts]
  exact hend γ w' h
structure LYR where
  k : Nat
  bl : Nat
  bp : Nat
  br : Nat
  gb : Nat
  go : Nat
  n : Nat
  c : Nat
  p : Int
  t0 : Int
  t1 : Int
  t2 : Int
  t3 : Int
  W : World
  a0 : Act
structure LYROk (X : LYR) : Prop where
  cl : X.W.cell? ⟨X.bl, 2, none⟩ = some (.slice (some ⟨X.gb, X.go, none⟩) X.n X.c)
  cp : X.W.cell? ⟨X.bp, 0, none⟩ = some (.int .i64 X.p)
  hk : X.k < X.n
  y0 : X.W.cell? ⟨X.gb, X.go + X.k * 4, none⟩ = some (.int .i64 X.t0)
  y1 : X.W.cell? ⟨X.gb, X.go + X.k * 4 + 1, none⟩ = some (.int .i64 X.t1)
  y2 : X.W.cell? ⟨X.gb, X.go + X.k * 4 + 2, none⟩ = some (.int .i64 X.t2)
  y3 : X.W.cell? ⟨X.gb, X.go + X.k * 4 + 3, none⟩ = some (.int .i64 X.t3)
  ot : ok8 X.t0 ∧ ok8 X.t1 ∧ ok8 X.t2 ∧ ok8 X.t3
  hp : 0 ≤ X.p ∧ X.p ≤ 256
  z0 : ∃ u, X.W.cell? ⟨X.br, 0, none⟩ = some u
  z1 : ∃ u, X.W.cell? ⟨X.br, 1, none⟩ = some u
  z2 : ∃ u, X.W.cell? ⟨X.br, 2, none⟩ = some u
  z3 : ∃ u, X.W.cell? ⟨X.br, 3, none⟩ = some u
  zf : ∀ o, X.W.frozen? ⟨X.br, o, none⟩ = false
  e0 : X.a0.eval (.tmp 0) = .int .i64 (X.k : Int)
  e1 : X.a0.eval (.tmp 1) = .pointer (some ⟨X.bl, 0, none⟩)
  e2 : X.a0.eval (.tmp 2) = .pointer (some ⟨X.bp, 0, none⟩)
  e4 : X.a0.eval (.tmp 4) = .pointer (some ⟨X.br, 0, none⟩)
  sz : X.a0.tmps.size = 12
def LYR.val0 (X : LYR) : Nat → Value
  | 5 => .pointer (some ⟨X.bl, 2, none⟩)
  | 6 => .slice (some ⟨X.gb, X.go, none⟩) X.n X.c
  | 7 => .int .i64 (X.k : Int)
  | 8 => .pointer (some ⟨X.gb, X.go + X.k * 4, none⟩)
  | 9 => .agg #[.int .i64 X.t0, .int .i64 X.t1, .int .i64 X.t2, .int .i64 X.t3]
  | 10 => .int .i64 X.p
  | 11 => .agg #[.int .i64 (thinT ⟨X.t0, X.t1, X.t2, X.t3⟩ X.p).ax, .int .i64 (thinT ⟨X.t0, X.t1, X.t2, X.t3⟩ X.p).ay, .int .i64 (thinT ⟨X.t0, X.t1, X.t2, X.t3⟩ X.p).bx, .int .i64 (thinT ⟨X.t0, X.t1, X.t2, X.t3⟩ X.p).cy]
  | _ => undef
def LYR.av : Nat → Option Nat
  | _ => none
def LYR.acts : List Nat := [7]
/-- The world, by how many of the acting ones have come up. -/
def LYR.Wd (X : LYR) : Nat → (Nat → Value) → World → Prop
  | 0, _, w => Kp X.W w
  | _, _, w => ∃ w1, Kp X.W w1 ∧ w = ((((w1.setCell ⟨X.br, 0, none⟩ (.int .i64 (thinT ⟨X.t0, X.t1, X.t2, X.t3⟩ X.p).ax)).setCell ⟨X.br, 1, none⟩ (.int .i64 (thinT ⟨X.t0, X.t1, X.t2, X.t3⟩ X.p).ay)).setCell ⟨X.br, 2, none⟩ (.int .i64 (thinT ⟨X.t0, X.t1, X.t2, X.t3⟩ X.p).bx)).setCell ⟨X.br, 3, none⟩ (.int .i64 (thinT ⟨X.t0, X.t1, X.t2, X.t3⟩ X.p).cy))
theorem LYR.chain : chainG (opsOf 1 Try.f103) LYR.acts = true := by kernel_rfl
theorem LYR.nodup : LYR.acts.Nodup := by decide
theorem LYR.inj {listed : Array Bool} {i k : Nat} (h : (List.range (opsOf 1 Try.f103).size).all (fun j => decide (j = i) || !(match dstOf (opsOf 1 Try.f103) j with | some d => decide (LYR.av d = some k) | none => false)) = true) (hu : listed.getD i false = false) : ∀ d, got (opsOf 1 Try.f103) listed d → LYR.av d ≠ some k := by
  rintro d ⟨j, h1, h2⟩ h3
  have hlt : j < (opsOf 1 Try.f103).size := by
    rcases Nat.lt_or_ge j (opsOf 1 Try.f103).size with h4 | h4
    · exact h4
    · unfold dstOf at h2; rw [Array.getElem?_eq_none h4] at h2; cases h2
  have h5 := List.all_eq_true.1 h j (List.mem_range.2 hlt)
  rw [h2] at h5
  simp only [h3, decide_true, Bool.not_true, Bool.or_false, decide_eq_true_eq] at h5
  subst h5
  rw [hu] at h1
  cases h1
theorem LYR.s0 (X : LYR) (ok : LYROk X) {Q : Exit → Act → World → Prop} : StepG (opsOf 1 Try.f103) LYR.acts LYR.av X.val0 X.Wd X.a0 Q 0 := by
  intro γ listed a w o hF hC hW h1 ho h2
  obtain ⟨hd, hop, hg⟩ := fields2 (x := some 5) (y := Op.fieldAddr 114 (.tmp 1) 1) (z := none) (by kernel_rfl) ho
  have e1 : a.eval (.tmp 1) = .pointer (some ⟨X.bl, 0, none⟩) := (hF.eval0 (by kernel_rfl)).trans ok.e1
  refine st_pureG hF hC hW ho h2 (by decide) hd hg rfl ?_
  show _ = Result.ok (Next.value (.pointer (some ⟨X.bl, 2, none⟩))) w
  generalize a.eval = ρ at e1 ⊢
  unfold execOp
  rw [hop]
  simp [e1, go_sem]
theorem LYR.s1 (X : LYR) (ok : LYROk X) {Q : Exit → Act → World → Prop} : StepG (opsOf 1 Try.f103) LYR.acts LYR.av X.val0 X.Wd X.a0 Q 1 := by
  intro γ listed a w o hF hC hW h1 ho h2
  obtain ⟨hd, hop, hg⟩ := fields2 (x := some 6) (y := Op.load 55 (.tmp 5)) (z := none) (by kernel_rfl) ho
  have e5 : a.eval (.tmp 5) = .pointer (some ⟨X.bl, 2, none⟩) := slotG hF ho h2 (j := 0) (d := 5) (by kernel_rfl) (by kernel_rfl) (by rw [ok.sz]; decide)
  have hph := phase_leG (acts := LYR.acts) (m := 0) (x := 7) hC (unl (hF.lt ho) h1) rfl [6, 4, 3, 1] (by kernel_rfl) (by decide)
  have hWW := hW
  generalize phase listed LYR.acts = n at hph hWW
  have hk : Kp X.W w := by
    obtain rfl : n = 0 := by omega
    exact hWW
  have hc0 := rq_at hk ok.cl
  refine st_pureG hF hC hW ho h2 (by decide) hd hg rfl ?_
  show _ = Result.ok (Next.value (.slice (some ⟨X.gb, X.go, none⟩) X.n X.c)) w
  generalize a.eval = ρ at e5 ⊢
  unfold execOp
  rw [hop]
  simp [e5, hc0, go_sem]
theorem LYR.s2 (X : LYR) (ok : LYROk X) {Q : Exit → Act → World → Prop} : StepG (opsOf 1 Try.f103) LYR.acts LYR.av X.val0 X.Wd X.a0 Q 2 := by
  intro γ listed a w o hF hC hW h1 ho h2
  obtain ⟨hd, hop, hg⟩ := fields2 (x := some 7) (y := Op.move (.tmp 0)) (z := none) (by kernel_rfl) ho
  have e0 : a.eval (.tmp 0) = .int .i64 (X.k : Int) := (hF.eval0 (by kernel_rfl)).trans ok.e0
  refine st_pureG hF hC hW ho h2 (by decide) hd hg rfl ?_
  show _ = Result.ok (Next.value (.int .i64 (X.k : Int))) w
  generalize a.eval = ρ at e0 ⊢
  unfold execOp
  rw [hop]
  simp [e0, go_sem]
theorem LYR.s3 (X : LYR) (ok : LYROk X) {Q : Exit → Act → World → Prop} : StepG (opsOf 1 Try.f103) LYR.acts LYR.av X.val0 X.Wd X.a0 Q 3 := by
  intro γ listed a w o hF hC hW h1 ho h2
  obtain ⟨hd, hop, hg⟩ := fields2 (x := some 8) (y := Op.indexAddr 55 (.tmp 6) (.tmp 7)) (z := none) (by kernel_rfl) ho
  have e6 : a.eval (.tmp 6) = .slice (some ⟨X.gb, X.go, none⟩) X.n X.c := slotG hF ho h2 (j := 1) (d := 6) (by kernel_rfl) (by kernel_rfl) (by rw [ok.sz]; decide)
  have e7 : a.eval (.tmp 7) = .int .i64 (X.k : Int) := slotG hF ho h2 (j := 2) (d := 7) (by kernel_rfl) (by kernel_rfl) (by rw [ok.sz]; decide)
  refine st_pureG hF hC hW ho h2 (by decide) hd hg rfl ?_
  show _ = Result.ok (Next.value (.pointer (some ⟨X.gb, X.go + X.k * 4, none⟩))) w
  generalize a.eval = ρ at e6 e7 ⊢
  unfold execOp
  rw [hop]
  simp [e6, e7, ok.hk, go_sem]
theorem LYR.s4 (X : LYR) (ok : LYROk X) {Q : Exit → Act → World → Prop} : StepG (opsOf 1 Try.f103) LYR.acts LYR.av X.val0 X.Wd X.a0 Q 4 := by
  intro γ listed a w o hF hC hW h1 ho h2
  obtain ⟨hd, hop, hg⟩ := fields2 (x := some 9) (y := Op.load 24 (.tmp 8)) (z := none) (by kernel_rfl) ho
  have e8 : a.eval (.tmp 8) = .pointer (some ⟨X.gb, X.go + X.k * 4, none⟩) := slotG hF ho h2 (j := 3) (d := 8) (by kernel_rfl) (by kernel_rfl) (by rw [ok.sz]; decide)
  have hph := phase_leG (acts := LYR.acts) (m := 0) (x := 7) hC (unl (hF.lt ho) h1) rfl [6, 4] (by kernel_rfl) (by decide)
  have hWW := hW
  generalize phase listed LYR.acts = n at hph hWW
  have hk : Kp X.W w := by
    obtain rfl : n = 0 := by omega
    exact hWW
  have hc0 := rq_at hk ok.y0
  have hc1 := rq_at hk ok.y1
  have hc2 := rq_at hk ok.y2
  have hc3 := rq_at hk ok.y3
  refine st_pureG hF hC hW ho h2 (by decide) hd hg rfl ?_
  show _ = Result.ok (Next.value (.agg #[.int .i64 X.t0, .int .i64 X.t1, .int .i64 X.t2, .int .i64 X.t3])) w
  generalize a.eval = ρ at e8 ⊢
  unfold execOp
  rw [hop]
  simp [e8, hc0, hc1, hc2, hc3, go_sem]
theorem LYR.s5 (X : LYR) (ok : LYROk X) {Q : Exit → Act → World → Prop} : StepG (opsOf 1 Try.f103) LYR.acts LYR.av X.val0 X.Wd X.a0 Q 5 := by
  intro γ listed a w o hF hC hW h1 ho h2
  obtain ⟨hd, hop, hg⟩ := fields2 (x := some 10) (y := Op.load 3 (.tmp 2)) (z := none) (by kernel_rfl) ho
  have e2 : a.eval (.tmp 2) = .pointer (some ⟨X.bp, 0, none⟩) := (hF.eval0 (by kernel_rfl)).trans ok.e2
  have hph := phase_leG (acts := LYR.acts) (m := 0) (x := 7) hC (unl (hF.lt ho) h1) rfl [6, 5] (by kernel_rfl) (by decide)
  have hWW := hW
  generalize phase listed LYR.acts = n at hph hWW
  have hk : Kp X.W w := by
    obtain rfl : n = 0 := by omega
    exact hWW
  have hc0 := rq_at hk ok.cp
  refine st_pureG hF hC hW ho h2 (by decide) hd hg rfl ?_
  show _ = Result.ok (Next.value (.int .i64 X.p)) w
  generalize a.eval = ρ at e2 ⊢
  unfold execOp
  rw [hop]
  simp [e2, hc0, go_sem]
theorem LYR.s6 (X : LYR) (ok : LYROk X) {Q : Exit → Act → World → Prop} : StepG (opsOf 1 Try.f103) LYR.acts LYR.av X.val0 X.Wd X.a0 Q 6 := by
  intro γ listed a w o hF hC hW h1 ho h2
  obtain ⟨hd, hop, hg⟩ := fields2 (x := some 11) (y := Op.call { callee := .value (.func 80), args := #[(.tmp 9), (.tmp 10)], argTypes := #[24, 3] }) (z := none) (by kernel_rfl) ho
  have e9 : a.eval (.tmp 9) = .agg #[.int .i64 X.t0, .int .i64 X.t1, .int .i64 X.t2, .int .i64 X.t3] := slotG hF ho h2 (j := 4) (d := 9) (by kernel_rfl) (by kernel_rfl) (by rw [ok.sz]; decide)
  have e10 : a.eval (.tmp 10) = .int .i64 X.p := slotG hF ho h2 (j := 5) (d := 10) (by kernel_rfl) (by kernel_rfl) (by rw [ok.sz]; decide)
  have ef : a.eval (.func 80) = .func (.func 80) #[] #[] := rfl
  have hph := phase_leG (acts := LYR.acts) (m := 0) (x := 7) hC (unl (hF.lt ho) h1) rfl [6] (by kernel_rfl) (by decide)
  have hWW := hW
  generalize phase listed LYR.acts = n at hph hWW
  refine st_callG hF hC hW ho h2 (by decide) hd hg rfl (f := 80) (args := #[.agg #[.int .i64 X.t0, .int .i64 X.t1, .int .i64 X.t2, .int .i64 X.t3], .int .i64 X.p]) ?_ ?_ ?_
  · generalize a.eval = ρ at e9 e10 ef ⊢
    unfold execOp
    rw [hop]
    simp [e9, e10, ef, go_sem]
  · exact ithin w ⟨X.t0, X.t1, X.t2, X.t3⟩ _ ok.ot ok.hp
  · intro w' hk
    have hz : phase listed LYR.acts = 0 := by
      have := phase_leG (acts := LYR.acts) (m := 0) (x := 7) hC (unl (hF.lt ho) h1) rfl [6] (by kernel_rfl) (by decide)
      omega
    rw [hz] at hW ⊢
    exact Kp.trans hW hk
theorem LYR.s7 (X : LYR) (ok : LYROk X) {Q : Exit → Act → World → Prop} : StepG (opsOf 1 Try.f103) LYR.acts LYR.av X.val0 X.Wd X.a0 Q 7 := by
  intro γ listed a w o hF hC hW h1 ho h2
  obtain ⟨hd, hop, hg⟩ := fields2 (x := none) (y := Op.store 24 (.tmp 4) (.tmp 11)) (z := none) (by kernel_rfl) ho
  have e4 : a.eval (.tmp 4) = .pointer (some ⟨X.br, 0, none⟩) := (hF.eval0 (by kernel_rfl)).trans ok.e4
  have e11 : a.eval (.tmp 11) = .agg #[.int .i64 (thinT ⟨X.t0, X.t1, X.t2, X.t3⟩ X.p).ax, .int .i64 (thinT ⟨X.t0, X.t1, X.t2, X.t3⟩ X.p).ay, .int .i64 (thinT ⟨X.t0, X.t1, X.t2, X.t3⟩ X.p).bx, .int .i64 (thinT ⟨X.t0, X.t1, X.t2, X.t3⟩ X.p).cy] := slotG hF ho h2 (j := 6) (d := 11) (by kernel_rfl) (by kernel_rfl) (by rw [ok.sz]; decide)
  have hu := unl (hF.lt ho) h1
  refine st_actG (k := 0) LYR.chain LYR.nodup rfl hF hC hW h1 ho h2 (Or.inl hd) (LYR.inj (by kernel_rfl) hu) hg ?_
  intro hW0 K hK
  obtain ⟨u0, z0⟩ := ok.z0
  replace z0 := rq_at hW0 z0
  obtain ⟨u1, z1⟩ := ok.z1
  replace z1 := rq_at hW0 z1
  obtain ⟨u2, z2⟩ := ok.z2
  replace z2 := rq_at hW0 z2
  obtain ⟨u3, z3⟩ := ok.z3
  replace z3 := rq_at hW0 z3
  have zf : ∀ o, w.frozen? ⟨X.br, o, none⟩ = false := fun o => (hW0.cells.2 _ _).trans (ok.zf o)
  have hr : (execOp a.eval o).run Try.prog w = .ok .skip ((((w.setCell ⟨X.br, 0, none⟩ (.int .i64 (thinT ⟨X.t0, X.t1, X.t2, X.t3⟩ X.p).ax)).setCell ⟨X.br, 1, none⟩ (.int .i64 (thinT ⟨X.t0, X.t1, X.t2, X.t3⟩ X.p).ay)).setCell ⟨X.br, 2, none⟩ (.int .i64 (thinT ⟨X.t0, X.t1, X.t2, X.t3⟩ X.p).bx)).setCell ⟨X.br, 3, none⟩ (.int .i64 (thinT ⟨X.t0, X.t1, X.t2, X.t3⟩ X.p).cy)) := by
    generalize a.eval = ρ at e4 e11 ⊢
    unfold execOp
    rw [hop]
    simp [e4, e11, z0, z1, z2, z3, zf, go_sem]
  unfold Oper.wp
  rw [hr]
  exact hK _ _ ⟨w, hW0, rfl⟩
theorem LYR.size : (opsOf 1 Try.f103).size = 8 := by kernel_rfl
theorem LYR.steps (X : LYR) (ok : LYROk X) {Q : Exit → Act → World → Prop} (i : Nat) (hi : i < (opsOf 1 Try.f103).size) : StepG (opsOf 1 Try.f103) LYR.acts LYR.av X.val0 X.Wd X.a0 Q i := by
  rw [LYR.size] at hi
  have hc : i = 0 ∨ i = 1 ∨ i = 2 ∨ i = 3 ∨ i = 4 ∨ i = 5 ∨ i = 6 ∨ i = 7 := by omega
  rcases hc with rfl | rfl | rfl | rfl | rfl | rfl | rfl | rfl
  · exact LYR.s0 X ok
  · exact LYR.s1 X ok
  · exact LYR.s2 X ok
  · exact LYR.s3 X ok
  · exact LYR.s4 X ok
  · exact LYR.s5 X ok
  · exact LYR.s6 X ok
  · exact LYR.s7 X ok
theorem LYR.puts (X : LYR) (γ : Nat → Value) (a0 : Act) : putsL (valG LYR.av X.val0 γ) (opsOf 1 Try.f103).toList a0 = (((((((a0.put (some 5) (.pointer (some ⟨X.bl, 2, none⟩))).put (some 6) (.slice (some ⟨X.gb, X.go, none⟩) X.n X.c)).put (some 7) (.int .i64 (X.k : Int))).put (some 8) (.pointer (some ⟨X.gb, X.go + X.k * 4, none⟩))).put (some 9) (.agg #[.int .i64 X.t0, .int .i64 X.t1, .int .i64 X.t2, .int .i64 X.t3])).put (some 10) (.int .i64 X.p)).put (some 11) (.agg #[.int .i64 (thinT ⟨X.t0, X.t1, X.t2, X.t3⟩ X.p).ax, .int .i64 (thinT ⟨X.t0, X.t1, X.t2, X.t3⟩ X.p).ay, .int .i64 (thinT ⟨X.t0, X.t1, X.t2, X.t3⟩ X.p).bx, .int .i64 (thinT ⟨X.t0, X.t1, X.t2, X.t3⟩ X.p).cy])) := by kernel_rfl
/-- The region, whatever order comes up. -/
theorem LYR.run (X : LYR) (ok : LYROk X) {Q : Exit → Act → World → Prop} (w : World) (h0 : X.Wd 0 (fun _ => undef) w.drew) (hend : ∀ (γ : Nat → Value) w', X.Wd 1 γ w' → Q .normal (((((((X.a0.put (some 5) (.pointer (some ⟨X.bl, 2, none⟩))).put (some 6) (.slice (some ⟨X.gb, X.go, none⟩) X.n X.c)).put (some 7) (.int .i64 (X.k : Int))).put (some 8) (.pointer (some ⟨X.gb, X.go + X.k * 4, none⟩))).put (some 9) (.agg #[.int .i64 X.t0, .int .i64 X.t1, .int .i64 X.t2, .int .i64 X.t3])).put (some 10) (.int .i64 X.p)).put (some 11) (.agg #[.int .i64 (thinT ⟨X.t0, X.t1, X.t2, X.t3⟩ X.p).ax, .int .i64 (thinT ⟨X.t0, X.t1, X.t2, X.t3⟩ X.p).ay, .int .i64 (thinT ⟨X.t0, X.t1, X.t2, X.t3⟩ X.p).bx, .int .i64 (thinT ⟨X.t0, X.t1, X.t2, X.t3⟩ X.p).cy])) w') : (Code.region 1 (opsOf 1 Try.f103) true).wp Try.prog Q X.a0 w := by
  refine reg_act (acts := LYR.acts) (av := LYR.av) (val0 := X.val0) (Wd := X.Wd) (by kernel_rfl) (by kernel_rfl) (by rw [LYR.size]; decide) (fun i hi => LYR.steps X ok i hi) _ h0 ?_
  intro γ w' h
  rw [LYR.puts]
  exact hend γ w' h
structure BWR where
  bx : Nat
  bu : Nat
  fn : FuncId
  cap : Array Value
  q : MD
  va : Option Addr
  vn : Nat
  vc : Nat
  l : List Edg
  k : Nat
  t0 : Int
  t1 : Int
  t2 : Int
  t3 : Int
  u0 : Int
  u1 : Int
  u2 : Int
  u3 : Int
  W : World
  a0 : Act
structure BWROk (X : BWR) : Prop where
  cb : CvQ X.bx X.W X.q (.slice X.va X.vn X.vc) X.l
  len : X.l.length ≤ 1000000
  z0 : X.W.cell? ⟨X.bu, 0, none⟩ = some (.int .i64 X.u0)
  z1 : X.W.cell? ⟨X.bu, 1, none⟩ = some (.int .i64 X.u1)
  z2 : X.W.cell? ⟨X.bu, 2, none⟩ = some (.int .i64 X.u2)
  z3 : X.W.cell? ⟨X.bu, 3, none⟩ = some (.int .i64 X.u3)
  ot : ok8 X.t0 ∧ ok8 X.t1 ∧ ok8 X.t2 ∧ ok8 X.t3
  ou : ok8 X.u0 ∧ ok8 X.u1 ∧ ok8 X.u2 ∧ ok8 X.u3
  fx : ∀ args w, Sem.run Try.prog (callFunc X.fn args) w = Result.ok (Next.enter X.fn args) w
  f0 : ∀ w, Kp X.W w → Calls Try.prog X.fn (#[.int .i64 (X.k : Int)] ++ X.cap) w fun e w' => e = .returned (edV ⟨X.t0, X.t1, X.t2, X.t3⟩) ∧ Kp w w'
  e1 : X.a0.eval (.tmp 1) = .func (.func X.fn) #[] X.cap
  e5 : X.a0.eval (.tmp 5) = .pointer (some ⟨X.bx, 0, none⟩)
  e6 : X.a0.eval (.tmp 6) = .int .i64 (X.k : Int)
  e7 : X.a0.eval (.tmp 7) = .pointer (some ⟨X.bu, 0, none⟩)
  sz : X.a0.tmps.size = 31
def BWR.val0 (X : BWR) : Nat → Value
  | 19 => .pointer (some ⟨X.bx, 2, none⟩)
  | 20 => .slice X.va X.vn X.vc
  | 21 => .func (.func X.fn) #[] X.cap
  | 22 => .int .i64 (X.k : Int)
  | 23 => edV ⟨X.t0, X.t1, X.t2, X.t3⟩
  | 24 => edV ⟨X.u0, X.u1, X.u2, X.u3⟩
  | 25 => edV (overT ⟨X.t0, X.t1, X.t2, X.t3⟩ ⟨X.u0, X.u1, X.u2, X.u3⟩)
  | 28 => .pointer (some ⟨X.bx, 2, none⟩)
  | _ => undef
def BWR.av : Nat → Option Nat
  | 26 => some 0
  | 27 => some 1
  | _ => none
def BWR.acts : List Nat := [7, 8, 10]
/-- The world, by how many of the acting ones have come up. -/
def BWR.Wd (X : BWR) : Nat → (Nat → Value) → World → Prop
  | 0, _, w => Kp X.W w
  | 1, γ, w => ∃ w1, Kp X.W w1 ∧ γ 0 = .slice (some ⟨w1.heap.size, 0, none⟩) 1 1 ∧ w = w1.alloc (.cells #[.int .i64 (overT ⟨X.t0, X.t1, X.t2, X.t3⟩ ⟨X.u0, X.u1, X.u2, X.u3⟩).ax, .int .i64 (overT ⟨X.t0, X.t1, X.t2, X.t3⟩ ⟨X.u0, X.u1, X.u2, X.u3⟩).ay, .int .i64 (overT ⟨X.t0, X.t1, X.t2, X.t3⟩ ⟨X.u0, X.u1, X.u2, X.u3⟩).bx, .int .i64 (overT ⟨X.t0, X.t1, X.t2, X.t3⟩ ⟨X.u0, X.u1, X.u2, X.u3⟩).cy] 24)
  | 2, γ, w => ∃ w1, Kp X.W w1 ∧ OwnE 24 w (X.bx + 1) (γ 1) (X.l ++ [(overT ⟨X.t0, X.t1, X.t2, X.t3⟩ ⟨X.u0, X.u1, X.u2, X.u3⟩)]) ∧ Ext (.slice X.va X.vn X.vc) (γ 1) w1 w
  | _, γ, w => ∃ w1 w2, Kp X.W w1 ∧ OwnE 24 w2 (X.bx + 1) (γ 1) (X.l ++ [(overT ⟨X.t0, X.t1, X.t2, X.t3⟩ ⟨X.u0, X.u1, X.u2, X.u3⟩)]) ∧ Ext (.slice X.va X.vn X.vc) (γ 1) w1 w2 ∧ w = w2.setCell ⟨X.bx, 2, none⟩ (γ 1)
theorem BWR.chain : chainG (opsOf 5 Try.f99) BWR.acts = true := by kernel_rfl
theorem BWR.nodup : BWR.acts.Nodup := by decide
theorem BWR.inj {listed : Array Bool} {i k : Nat} (h : (List.range (opsOf 5 Try.f99).size).all (fun j => decide (j = i) || !(match dstOf (opsOf 5 Try.f99) j with | some d => decide (BWR.av d = some k) | none => false)) = true) (hu : listed.getD i false = false) : ∀ d, got (opsOf 5 Try.f99) listed d → BWR.av d ≠ some k := by
  rintro d ⟨j, h1, h2⟩ h3
  have hlt : j < (opsOf 5 Try.f99).size := by
    rcases Nat.lt_or_ge j (opsOf 5 Try.f99).size with h4 | h4
    · exact h4
    · unfold dstOf at h2; rw [Array.getElem?_eq_none h4] at h2; cases h2
  have h5 := List.all_eq_true.1 h j (List.mem_range.2 hlt)
  rw [h2] at h5
  simp only [h3, decide_true, Bool.not_true, Bool.or_false, decide_eq_true_eq] at h5
  subst h5
  rw [hu] at h1
  cases h1
theorem BWR.s0 (X : BWR) (ok : BWROk X) {Q : Exit → Act → World → Prop} : StepG (opsOf 5 Try.f99) BWR.acts BWR.av X.val0 X.Wd X.a0 Q 0 := by
  intro γ listed a w o hF hC hW h1 ho h2
  obtain ⟨hd, hop, hg⟩ := fields2 (x := some 19) (y := Op.fieldAddr 114 (.tmp 5) 1) (z := none) (by kernel_rfl) ho
  have e5 : a.eval (.tmp 5) = .pointer (some ⟨X.bx, 0, none⟩) := (hF.eval0 (by kernel_rfl)).trans ok.e5
  refine st_pureG hF hC hW ho h2 (by decide) hd hg rfl ?_
  show _ = Result.ok (Next.value (.pointer (some ⟨X.bx, 2, none⟩))) w
  generalize a.eval = ρ at e5 ⊢
  unfold execOp
  rw [hop]
  simp [e5, go_sem]
theorem BWR.s1 (X : BWR) (ok : BWROk X) {Q : Exit → Act → World → Prop} : StepG (opsOf 5 Try.f99) BWR.acts BWR.av X.val0 X.Wd X.a0 Q 1 := by
  intro γ listed a w o hF hC hW h1 ho h2
  obtain ⟨hd, hop, hg⟩ := fields2 (x := some 20) (y := Op.load 55 (.tmp 19)) (z := none) (by kernel_rfl) ho
  have e19 : a.eval (.tmp 19) = .pointer (some ⟨X.bx, 2, none⟩) := slotG hF ho h2 (j := 0) (d := 19) (by kernel_rfl) (by kernel_rfl) (by rw [ok.sz]; decide)
  have hph := phase_leG (acts := BWR.acts) (m := 1) (x := 8) hC (unl (hF.lt ho) h1) rfl [1] (by kernel_rfl) (by decide)
  have hWW := hW
  generalize phase listed BWR.acts = n at hph hWW
  have hk : Nw X.W w := by
    rcases (show n = 0 ∨ n = 1 by omega) with rfl | rfl
    · exact hWW.nw
    · obtain ⟨w1, k1, _, rfl⟩ := hWW
      exact Nw.trans k1.nw ((Below.refl _ _).alloc (Nat.le_refl _) _)
  have hc := (ok.cb.nw hk).c2
  refine st_pureG hF hC hW ho h2 (by decide) hd hg rfl ?_
  show _ = Result.ok (Next.value (.slice X.va X.vn X.vc)) w
  generalize a.eval = ρ at e19 ⊢
  unfold execOp
  rw [hop]
  simp [e19, hc, go_sem]
theorem BWR.s2 (X : BWR) (ok : BWROk X) {Q : Exit → Act → World → Prop} : StepG (opsOf 5 Try.f99) BWR.acts BWR.av X.val0 X.Wd X.a0 Q 2 := by
  intro γ listed a w o hF hC hW h1 ho h2
  obtain ⟨hd, hop, hg⟩ := fields2 (x := some 21) (y := Op.move (.tmp 1)) (z := none) (by kernel_rfl) ho
  have e1 : a.eval (.tmp 1) = .func (.func X.fn) #[] X.cap := (hF.eval0 (by kernel_rfl)).trans ok.e1
  refine st_pureG hF hC hW ho h2 (by decide) hd hg rfl ?_
  show _ = Result.ok (Next.value (.func (.func X.fn) #[] X.cap)) w
  generalize a.eval = ρ at e1 ⊢
  unfold execOp
  rw [hop]
  simp [e1, go_sem]
theorem BWR.s3 (X : BWR) (ok : BWROk X) {Q : Exit → Act → World → Prop} : StepG (opsOf 5 Try.f99) BWR.acts BWR.av X.val0 X.Wd X.a0 Q 3 := by
  intro γ listed a w o hF hC hW h1 ho h2
  obtain ⟨hd, hop, hg⟩ := fields2 (x := some 22) (y := Op.move (.tmp 6)) (z := none) (by kernel_rfl) ho
  have e6 : a.eval (.tmp 6) = .int .i64 (X.k : Int) := (hF.eval0 (by kernel_rfl)).trans ok.e6
  refine st_pureG hF hC hW ho h2 (by decide) hd hg rfl ?_
  show _ = Result.ok (Next.value (.int .i64 (X.k : Int))) w
  generalize a.eval = ρ at e6 ⊢
  unfold execOp
  rw [hop]
  simp [e6, go_sem]
theorem BWR.s4 (X : BWR) (ok : BWROk X) {Q : Exit → Act → World → Prop} : StepG (opsOf 5 Try.f99) BWR.acts BWR.av X.val0 X.Wd X.a0 Q 4 := by
  intro γ listed a w o hF hC hW h1 ho h2
  obtain ⟨hd, hop, hg⟩ := fields2 (x := some 23) (y := Op.call { callee := .value (.tmp 21), args := #[(.tmp 22)], argTypes := #[3] }) (z := none) (by kernel_rfl) ho
  have e21 : a.eval (.tmp 21) = .func (.func X.fn) #[] X.cap := slotG hF ho h2 (j := 2) (d := 21) (by kernel_rfl) (by kernel_rfl) (by rw [ok.sz]; decide)
  have e22 : a.eval (.tmp 22) = .int .i64 (X.k : Int) := slotG hF ho h2 (j := 3) (d := 22) (by kernel_rfl) (by kernel_rfl) (by rw [ok.sz]; decide)
  refine st_callG hF hC hW ho h2 (by decide) hd hg rfl (f := X.fn) (args := (#[.int .i64 (X.k : Int)] ++ X.cap)) ?_ ?_ ?_
  · generalize a.eval = ρ at e21 e22 ⊢
    unfold execOp
    rw [hop]
    simp [e21, e22, ok.fx, go_sem]
  · exact ok.f0 w (by
      have := phase_leG (acts := BWR.acts) (m := 0) (x := 7) hC (unl (hF.lt ho) h1) rfl [6, 4] (by kernel_rfl) (by decide)
      have hz : phase listed BWR.acts = 0 := by omega
      rw [hz] at hW
      exact hW)
  · intro w' hk
    have hz : phase listed BWR.acts = 0 := by
      have := phase_leG (acts := BWR.acts) (m := 0) (x := 7) hC (unl (hF.lt ho) h1) rfl [6, 4] (by kernel_rfl) (by decide)
      omega
    rw [hz] at hW ⊢
    exact Kp.trans hW hk
theorem BWR.s5 (X : BWR) (ok : BWROk X) {Q : Exit → Act → World → Prop} : StepG (opsOf 5 Try.f99) BWR.acts BWR.av X.val0 X.Wd X.a0 Q 5 := by
  intro γ listed a w o hF hC hW h1 ho h2
  obtain ⟨hd, hop, hg⟩ := fields2 (x := some 24) (y := Op.load 24 (.tmp 7)) (z := none) (by kernel_rfl) ho
  have e7 : a.eval (.tmp 7) = .pointer (some ⟨X.bu, 0, none⟩) := (hF.eval0 (by kernel_rfl)).trans ok.e7
  have hph := phase_leG (acts := BWR.acts) (m := 0) (x := 7) hC (unl (hF.lt ho) h1) rfl [6, 5] (by kernel_rfl) (by decide)
  have hWW := hW
  generalize phase listed BWR.acts = n at hph hWW
  have hk : Kp X.W w := by
    obtain rfl : n = 0 := by omega
    exact hWW
  have hc0 := kpq hk ok.z0
  have hc1 := kpq hk ok.z1
  have hc2 := kpq hk ok.z2
  have hc3 := kpq hk ok.z3
  refine st_pureG hF hC hW ho h2 (by decide) hd hg rfl ?_
  show _ = Result.ok (Next.value (edV ⟨X.u0, X.u1, X.u2, X.u3⟩)) w
  generalize a.eval = ρ at e7 ⊢
  unfold execOp
  rw [hop]
  simp [e7, hc0, hc1, hc2, hc3, go_sem]
theorem BWR.s6 (X : BWR) (ok : BWROk X) {Q : Exit → Act → World → Prop} : StepG (opsOf 5 Try.f99) BWR.acts BWR.av X.val0 X.Wd X.a0 Q 6 := by
  intro γ listed a w o hF hC hW h1 ho h2
  obtain ⟨hd, hop, hg⟩ := fields2 (x := some 25) (y := Op.call { callee := .value (.func 58), args := #[(.tmp 23), (.tmp 24)], argTypes := #[24, 24] }) (z := none) (by kernel_rfl) ho
  have e23 : a.eval (.tmp 23) = edV ⟨X.t0, X.t1, X.t2, X.t3⟩ := slotG hF ho h2 (j := 4) (d := 23) (by kernel_rfl) (by kernel_rfl) (by rw [ok.sz]; decide)
  have e24 : a.eval (.tmp 24) = edV ⟨X.u0, X.u1, X.u2, X.u3⟩ := slotG hF ho h2 (j := 5) (d := 24) (by kernel_rfl) (by kernel_rfl) (by rw [ok.sz]; decide)
  have ef : a.eval (.func 58) = .func (.func 58) #[] #[] := rfl
  refine st_callG hF hC hW ho h2 (by decide) hd hg rfl (f := 58) (args := #[edV ⟨X.t0, X.t1, X.t2, X.t3⟩, edV ⟨X.u0, X.u1, X.u2, X.u3⟩]) ?_ ?_ ?_
  · generalize a.eval = ρ at e23 e24 ef ⊢
    unfold execOp
    rw [hop]
    simp [e23, e24, ef, go_sem]
  · exact iover w ⟨X.t0, X.t1, X.t2, X.t3⟩ ⟨X.u0, X.u1, X.u2, X.u3⟩ ok.ot ok.ou
  · intro w' hk
    have hz : phase listed BWR.acts = 0 := by
      have := phase_leG (acts := BWR.acts) (m := 0) (x := 7) hC (unl (hF.lt ho) h1) rfl [6] (by kernel_rfl) (by decide)
      omega
    rw [hz] at hW ⊢
    exact Kp.trans hW hk
theorem BWR.s7 (X : BWR) (ok : BWROk X) {Q : Exit → Act → World → Prop} : StepG (opsOf 5 Try.f99) BWR.acts BWR.av X.val0 X.Wd X.a0 Q 7 := by
  intro γ listed a w o hF hC hW h1 ho h2
  obtain ⟨hd, hop, hg⟩ := fields2 (x := some 26) (y := Op.buildSlice 55 1 #[(0, (.tmp 25))]) (z := none) (by kernel_rfl) ho
  have e25 : a.eval (.tmp 25) = edV (overT ⟨X.t0, X.t1, X.t2, X.t3⟩ ⟨X.u0, X.u1, X.u2, X.u3⟩) := slotG hF ho h2 (j := 6) (d := 25) (by kernel_rfl) (by kernel_rfl) (by rw [ok.sz]; decide)
  have hu := unl (hF.lt ho) h1
  refine st_actG (k := 0) BWR.chain BWR.nodup rfl hF hC hW h1 ho h2 (Or.inr ⟨26, hd, rfl⟩) (BWR.inj (by kernel_rfl) hu) hg ?_
  intro hW0 K hK
  have hr : (execOp a.eval o).run Try.prog w = .ok (.value (.slice (some ⟨w.heap.size, 0, none⟩) 1 1)) (w.alloc (.cells #[.int .i64 (overT ⟨X.t0, X.t1, X.t2, X.t3⟩ ⟨X.u0, X.u1, X.u2, X.u3⟩).ax, .int .i64 (overT ⟨X.t0, X.t1, X.t2, X.t3⟩ ⟨X.u0, X.u1, X.u2, X.u3⟩).ay, .int .i64 (overT ⟨X.t0, X.t1, X.t2, X.t3⟩ ⟨X.u0, X.u1, X.u2, X.u3⟩).bx, .int .i64 (overT ⟨X.t0, X.t1, X.t2, X.t3⟩ ⟨X.u0, X.u1, X.u2, X.u3⟩).cy] 24)) := by
    unfold edV at e25
    generalize a.eval = ρ at e25 ⊢
    unfold execOp
    rw [hop]
    simp [e25, go_sem]
  unfold Oper.wp
  rw [hr]
  exact hK _ _ ⟨w, hW0, rfl, rfl⟩
theorem BWR.s8 (X : BWR) (ok : BWROk X) {Q : Exit → Act → World → Prop} : StepG (opsOf 5 Try.f99) BWR.acts BWR.av X.val0 X.Wd X.a0 Q 8 := by
  intro γ listed a w o hF hC hW h1 ho h2
  obtain ⟨hd, hop, hg⟩ := fields2 (x := some 27) (y := Op.call { callee := .builtin .append, args := #[(.tmp 20), (.tmp 26)], argTypes := #[55, 55] }) (z := none) (by kernel_rfl) ho
  have e20 : a.eval (.tmp 20) = .slice X.va X.vn X.vc := slotG hF ho h2 (j := 1) (d := 20) (by kernel_rfl) (by kernel_rfl) (by rw [ok.sz]; decide)
  have e26 : a.eval (.tmp 26) = γ 0 := slotG hF ho h2 (j := 7) (d := 26) (by kernel_rfl) (by kernel_rfl) (by rw [ok.sz]; decide)
  have hu := unl (hF.lt ho) h1
  refine st_actG (k := 1) BWR.chain BWR.nodup rfl hF hC hW h1 ho h2 (Or.inr ⟨27, hd, rfl⟩) (BWR.inj (by kernel_rfl) hu) hg ?_
  intro hW0 K hK
  obtain ⟨w1, k1, g0, rfl⟩ := hW0
  rw [g0] at e26
  have lb := ok.cb.nw k1.nw
  have n1 : Nw w1 (w1.alloc (.cells #[.int .i64 (overT ⟨X.t0, X.t1, X.t2, X.t3⟩ ⟨X.u0, X.u1, X.u2, X.u3⟩).ax, .int .i64 (overT ⟨X.t0, X.t1, X.t2, X.t3⟩ ⟨X.u0, X.u1, X.u2, X.u3⟩).ay, .int .i64 (overT ⟨X.t0, X.t1, X.t2, X.t3⟩ ⟨X.u0, X.u1, X.u2, X.u3⟩).bx, .int .i64 (overT ⟨X.t0, X.t1, X.t2, X.t3⟩ ⟨X.u0, X.u1, X.u2, X.u3⟩).cy] 24)) := (Below.refl _ _).alloc (Nat.le_refl _) _
  refine wp_e 24 55 Try.underlying55 info_tint _ (.tmp 20) (.tmp 26) hop (X.bx + 1) (.slice X.va X.vn X.vc) X.l (overT ⟨X.t0, X.t1, X.t2, X.t3⟩ ⟨X.u0, X.u1, X.u2, X.u3⟩) e20 (lb.own.nw n1) w1.heap.size e26 ⟨by simp, by simp, by simp, by simp⟩ ok.len (by have := lb.lt; simp; omega) ?_
  intro v' w' h3 h4
  exact hK _ _ ⟨w1, k1, h3, n1.ext h4⟩
theorem BWR.s9 (X : BWR) (ok : BWROk X) {Q : Exit → Act → World → Prop} : StepG (opsOf 5 Try.f99) BWR.acts BWR.av X.val0 X.Wd X.a0 Q 9 := by
  intro γ listed a w o hF hC hW h1 ho h2
  obtain ⟨hd, hop, hg⟩ := fields2 (x := some 28) (y := Op.fieldAddr 114 (.tmp 5) 1) (z := none) (by kernel_rfl) ho
  have e5 : a.eval (.tmp 5) = .pointer (some ⟨X.bx, 0, none⟩) := (hF.eval0 (by kernel_rfl)).trans ok.e5
  refine st_pureG hF hC hW ho h2 (by decide) hd hg rfl ?_
  show _ = Result.ok (Next.value (.pointer (some ⟨X.bx, 2, none⟩))) w
  generalize a.eval = ρ at e5 ⊢
  unfold execOp
  rw [hop]
  simp [e5, go_sem]
theorem BWR.s10 (X : BWR) (ok : BWROk X) {Q : Exit → Act → World → Prop} : StepG (opsOf 5 Try.f99) BWR.acts BWR.av X.val0 X.Wd X.a0 Q 10 := by
  intro γ listed a w o hF hC hW h1 ho h2
  obtain ⟨hd, hop, hg⟩ := fields2 (x := none) (y := Op.store 55 (.tmp 28) (.tmp 27)) (z := none) (by kernel_rfl) ho
  have e28 : a.eval (.tmp 28) = .pointer (some ⟨X.bx, 2, none⟩) := slotG hF ho h2 (j := 9) (d := 28) (by kernel_rfl) (by kernel_rfl) (by rw [ok.sz]; decide)
  have e27 : a.eval (.tmp 27) = γ 1 := slotG hF ho h2 (j := 8) (d := 27) (by kernel_rfl) (by kernel_rfl) (by rw [ok.sz]; decide)
  have hu := unl (hF.lt ho) h1
  refine st_actG (k := 2) BWR.chain BWR.nodup rfl hF hC hW h1 ho h2 (Or.inl hd) (BWR.inj (by kernel_rfl) hu) hg ?_
  intro hW0 K hK
  obtain ⟨w1, k1, o1, x1⟩ := hW0
  obtain ⟨t0, tf⟩ := (ok.cb.nw k1.nw).there x1
  obtain ⟨sa, sn, sc, g1⟩ := o1.slice
  have hr : (execOp a.eval o).run Try.prog w = .ok .skip (w.setCell ⟨X.bx, 2, none⟩ (γ 1)) := by
    rw [g1] at e27 ⊢
    generalize a.eval = ρ at e27 e28 ⊢
    unfold execOp
    rw [hop]
    simp [e27, e28, t0, tf, go_sem]
  unfold Oper.wp
  rw [hr]
  exact hK _ _ ⟨w1, w, k1, o1, x1, rfl⟩
theorem BWR.size : (opsOf 5 Try.f99).size = 11 := by kernel_rfl
theorem BWR.steps (X : BWR) (ok : BWROk X) {Q : Exit → Act → World → Prop} (i : Nat) (hi : i < (opsOf 5 Try.f99).size) : StepG (opsOf 5 Try.f99) BWR.acts BWR.av X.val0 X.Wd X.a0 Q i := by
  rw [BWR.size] at hi
  have hc : i = 0 ∨ i = 1 ∨ i = 2 ∨ i = 3 ∨ i = 4 ∨ i = 5 ∨ i = 6 ∨ i = 7 ∨ i = 8 ∨ i = 9 ∨ i = 10 := by omega
  rcases hc with rfl | rfl | rfl | rfl | rfl | rfl | rfl | rfl | rfl | rfl | rfl
  · exact BWR.s0 X ok
  · exact BWR.s1 X ok
  · exact BWR.s2 X ok
  · exact BWR.s3 X ok
  · exact BWR.s4 X ok
  · exact BWR.s5 X ok
  · exact BWR.s6 X ok
  · exact BWR.s7 X ok
  · exact BWR.s8 X ok
  · exact BWR.s9 X ok
  · exact BWR.s10 X ok
theorem BWR.puts (X : BWR) (γ : Nat → Value) (a0 : Act) : putsL (valG BWR.av X.val0 γ) (opsOf 5 Try.f99).toList a0 = ((((((((((a0.put (some 19) (.pointer (some ⟨X.bx, 2, none⟩))).put (some 20) (.slice X.va X.vn X.vc)).put (some 21) (.func (.func X.fn) #[] X.cap)).put (some 22) (.int .i64 (X.k : Int))).put (some 23) (edV ⟨X.t0, X.t1, X.t2, X.t3⟩)).put (some 24) (edV ⟨X.u0, X.u1, X.u2, X.u3⟩)).put (some 25) (edV (overT ⟨X.t0, X.t1, X.t2, X.t3⟩ ⟨X.u0, X.u1, X.u2, X.u3⟩))).put (some 26) (γ 0)).put (some 27) (γ 1)).put (some 28) (.pointer (some ⟨X.bx, 2, none⟩))) := by kernel_rfl
/-- The region, whatever order comes up. -/
theorem BWR.run (X : BWR) (ok : BWROk X) {Q : Exit → Act → World → Prop} (w : World) (h0 : X.Wd 0 (fun _ => undef) w.drew) (hend : ∀ (γ : Nat → Value) w', X.Wd 3 γ w' → Q .normal ((((((((((X.a0.put (some 19) (.pointer (some ⟨X.bx, 2, none⟩))).put (some 20) (.slice X.va X.vn X.vc)).put (some 21) (.func (.func X.fn) #[] X.cap)).put (some 22) (.int .i64 (X.k : Int))).put (some 23) (edV ⟨X.t0, X.t1, X.t2, X.t3⟩)).put (some 24) (edV ⟨X.u0, X.u1, X.u2, X.u3⟩)).put (some 25) (edV (overT ⟨X.t0, X.t1, X.t2, X.t3⟩ ⟨X.u0, X.u1, X.u2, X.u3⟩))).put (some 26) (γ 0)).put (some 27) (γ 1)).put (some 28) (.pointer (some ⟨X.bx, 2, none⟩))) w') : (Code.region 5 (opsOf 5 Try.f99) true).wp Try.prog Q X.a0 w := by
  refine reg_act (acts := BWR.acts) (av := BWR.av) (val0 := X.val0) (Wd := X.Wd) (by kernel_rfl) (by kernel_rfl) (by rw [BWR.size]; decide) (fun i hi => BWR.steps X ok i hi) _ h0 ?_
  intro γ w' h
  rw [BWR.puts]
  exact hend γ w' h
end Go.Proofs.Ythlohbiocfeapaa
