/-
  Fine places: a number's, of both; the statements that draw their order; each theorem names its conditions.
-/
import Derived.Test.YtllljknpicmmjaaNr0
import Derived.Test.YtllljknpicmmjaaDd
import Derived.Test.YtllljknpicmmjaaRfDown
import Derived.Test.YtllljknpicmmjaaRq
namespace Go.Proofs.Ytllljknpicmmjaa
open Go.ChangeShapes Go.WideShapes Go.ChangeAt Go.RowKit
set_option linter.unusedVariables false

/-- A number's fine place. -/
def fnV (x : Int) : Int := (x * 16 + 32768) / 65536
theorem fn_wraps {x : Int} (h : nr x) : IntKind.i64.wrap (x * 16) = x * 16 ∧ IntKind.i64.wrap (x * 16 + 32768) = x * 16 + 32768 := by
  unfold nr at h
  exact ⟨IntWalk.i64_in _ ⟨by omega, by omega⟩, IntWalk.i64_in _ ⟨by omega, by omega⟩⟩
theorem fnV_bd {x : Int} (h : nr x) : -16384 ≤ fnV x ∧ fnV x ≤ 16384 := by
  unfold nr at h
  unfold fnV
  constructor
  · exact Int.le_ediv_of_mul_le (by decide) (by omega)
  · have : (x * 16 + 32768) / 65536 < 16385 := Int.ediv_lt_of_lt_mul (by decide) (by omega)
    omega
theorem idn (x : Int) (h : nr x) (w : World) : Calls Try.prog 81 #[.int .i64 (x * 16 + 32768), .int .i64 65536] w fun e w' => e = .returned (.int .i64 (fnV x)) ∧ Kp w w' := by
  unfold nr at h
  refine Calls.mono (divDown_any (x * 16 + 32768) 65536 w (by decide) (by decide) (by omega) (by omega)) ?_
  rintro e w' ⟨rfl, rfl⟩
  exact ⟨rfl, Kp.refl _⟩
theorem sfine (x : Int) (h : nr x) (w : World) : Calls Try.prog 49 #[.int .i64 x] w fun e w' => e = .returned (.int .i64 (fnV x)) ∧ Kp w w' := by
  unfold nr at h
  have HD : Hid (∀ w, _) := fun w => sdown_any (x * 16 + 32768) 65536 w (by decide) (by decide) (by omega) (by omega)
  unfold fnV
  go_enter Try.func49, Try.ntmps49
  go_wp2_with fail
  refine Calls.mono (HD.out _) ?_
  rintro e w1 ⟨rfl, rfl⟩
  go_wp2
  go_ret
  exact ⟨rfl, Kp.refl _⟩
structure FA where
  x : Int
  y : Int
  b : Nat
  W : World
  a0 : Act
structure FAOk (X : FA) : Prop where
  c0 : X.W.cell? ⟨X.b, 0, none⟩ = some (.int .i64 X.x)
  c1 : X.W.cell? ⟨X.b, 1, none⟩ = some (.int .i64 X.y)
  hx : nr X.x
  hy : nr X.y
  e1 : X.a0.eval (.tmp 1) = .pointer (some ⟨X.b, 0, none⟩)
  sz : X.a0.tmps.size = 14
def FA.val0 (X : FA) : Nat → Value
  | 2 => .int .i64 (fnV X.x)
  | 3 => .int .i64 (fnV X.y)
  | 4 => (.bool true)
  | 8 => .pointer (some ⟨X.b, 0, none⟩)
  | 9 => .int .i64 X.x
  | 10 => .int .i64 (fnV X.x)
  | 11 => .pointer (some ⟨X.b, 1, none⟩)
  | 12 => .int .i64 X.y
  | 13 => .int .i64 (fnV X.y)
  | _ => undef
def FA.av : Nat → Option Nat
  | _ => none
def FA.acts : List Nat := []
/-- The world, by how many of the acting ones have come up. -/
def FA.Wd (X : FA) : Nat → (Nat → Value) → World → Prop
  | _, _, w => Kp X.W w
theorem FA.kp {X : FA} {n : Nat} {γ : Nat → Value} {w : World} (h : X.Wd n γ w) : Kp X.W w := h
theorem FA.keep {X : FA} {n : Nat} {γ : Nat → Value} {w w' : World} (h : X.Wd n γ w) (k : Kp w w') : X.Wd n γ w' := Kp.trans h k
theorem FA.chain : chainG (opsOf 3 Try.f17) FA.acts = true := by kernel_rfl
theorem FA.nodup : FA.acts.Nodup := by decide
theorem FA.inj {listed : Array Bool} {i k : Nat} (h : (List.range (opsOf 3 Try.f17).size).all (fun j => decide (j = i) || !(match dstOf (opsOf 3 Try.f17) j with | some d => decide (FA.av d = some k) | none => false)) = true) (hu : listed.getD i false = false) : ∀ d, got (opsOf 3 Try.f17) listed d → FA.av d ≠ some k := by
  rintro d ⟨j, h1, h2⟩ h3
  have hlt : j < (opsOf 3 Try.f17).size := by
    rcases Nat.lt_or_ge j (opsOf 3 Try.f17).size with h4 | h4
    · exact h4
    · unfold dstOf at h2; rw [Array.getElem?_eq_none h4] at h2; cases h2
  have h5 := List.all_eq_true.1 h j (List.mem_range.2 hlt)
  rw [h2] at h5
  simp only [h3, decide_true, Bool.not_true, Bool.or_false, decide_eq_true_eq] at h5
  subst h5
  rw [hu] at h1
  cases h1
theorem FA.s0 (X : FA) (ok : FAOk X) {Q : Exit → Act → World → Prop} : StepG (opsOf 3 Try.f17) FA.acts FA.av X.val0 X.Wd X.a0 Q 0 := by
  intro γ listed a w o hF hC hW h1 ho h2
  obtain ⟨hd, hop, hg⟩ := fields2 (x := some 8) (y := Op.fieldAddr 37 (.tmp 1) 0) (z := none) (by kernel_rfl) ho
  have e1 : a.eval (.tmp 1) = .pointer (some ⟨X.b, 0, none⟩) := (hF.eval0 (by kernel_rfl)).trans ok.e1
  refine st_pureG hF hC hW ho h2 (by decide) hd hg rfl ?_
  show _ = Result.ok (Next.value (.pointer (some ⟨X.b, 0, none⟩))) w
  generalize a.eval = ρ at e1 ⊢
  unfold execOp
  rw [hop]
  simp [e1, go_sem]
theorem FA.s1 (X : FA) (ok : FAOk X) {Q : Exit → Act → World → Prop} : StepG (opsOf 3 Try.f17) FA.acts FA.av X.val0 X.Wd X.a0 Q 1 := by
  intro γ listed a w o hF hC hW h1 ho h2
  obtain ⟨hd, hop, hg⟩ := fields2 (x := some 9) (y := Op.load 3 (.tmp 8)) (z := none) (by kernel_rfl) ho
  have e8 : a.eval (.tmp 8) = .pointer (some ⟨X.b, 0, none⟩) := slotG hF ho h2 (j := 0) (d := 8) (by kernel_rfl) (by kernel_rfl) (by rw [ok.sz]; decide)
  have hc0 := rq_at (FA.kp hW) ok.c0
  refine st_pureG hF hC hW ho h2 (by decide) hd hg rfl ?_
  show _ = Result.ok (Next.value (.int .i64 X.x)) w
  generalize a.eval = ρ at e8 ⊢
  unfold execOp
  rw [hop]
  simp [e8, hc0, go_sem]
theorem FA.s2 (X : FA) (ok : FAOk X) {Q : Exit → Act → World → Prop} : StepG (opsOf 3 Try.f17) FA.acts FA.av X.val0 X.Wd X.a0 Q 2 := by
  intro γ listed a w o hF hC hW h1 ho h2
  obtain ⟨hd, hop, hg⟩ := fields2 (x := some 10) (y := Op.call { callee := .value (.func 49), args := #[(.tmp 9)], argTypes := #[3] }) (z := none) (by kernel_rfl) ho
  have e9 : a.eval (.tmp 9) = .int .i64 X.x := slotG hF ho h2 (j := 1) (d := 9) (by kernel_rfl) (by kernel_rfl) (by rw [ok.sz]; decide)
  have ef : a.eval (.func 49) = .func (.func 49) #[] #[] := rfl
  refine st_callG hF hC hW ho h2 (by decide) hd hg rfl (f := 49) (args := #[.int .i64 X.x]) ?_ ?_ ?_
  · generalize a.eval = ρ at e9 ef ⊢
    unfold execOp
    rw [hop]
    simp [e9, ef, go_sem]
  · exact sfine X.x ok.hx w
  · intro w' hk; exact FA.keep hW hk
theorem FA.s3 (X : FA) (ok : FAOk X) {Q : Exit → Act → World → Prop} : StepG (opsOf 3 Try.f17) FA.acts FA.av X.val0 X.Wd X.a0 Q 3 := by
  intro γ listed a w o hF hC hW h1 ho h2
  obtain ⟨hd, hop, hg⟩ := fields2 (x := some 11) (y := Op.fieldAddr 37 (.tmp 1) 1) (z := none) (by kernel_rfl) ho
  have e1 : a.eval (.tmp 1) = .pointer (some ⟨X.b, 0, none⟩) := (hF.eval0 (by kernel_rfl)).trans ok.e1
  refine st_pureG hF hC hW ho h2 (by decide) hd hg rfl ?_
  show _ = Result.ok (Next.value (.pointer (some ⟨X.b, 1, none⟩))) w
  generalize a.eval = ρ at e1 ⊢
  unfold execOp
  rw [hop]
  simp [e1, go_sem]
theorem FA.s4 (X : FA) (ok : FAOk X) {Q : Exit → Act → World → Prop} : StepG (opsOf 3 Try.f17) FA.acts FA.av X.val0 X.Wd X.a0 Q 4 := by
  intro γ listed a w o hF hC hW h1 ho h2
  obtain ⟨hd, hop, hg⟩ := fields2 (x := some 12) (y := Op.load 3 (.tmp 11)) (z := none) (by kernel_rfl) ho
  have e11 : a.eval (.tmp 11) = .pointer (some ⟨X.b, 1, none⟩) := slotG hF ho h2 (j := 3) (d := 11) (by kernel_rfl) (by kernel_rfl) (by rw [ok.sz]; decide)
  have hc0 := rq_at (FA.kp hW) ok.c1
  refine st_pureG hF hC hW ho h2 (by decide) hd hg rfl ?_
  show _ = Result.ok (Next.value (.int .i64 X.y)) w
  generalize a.eval = ρ at e11 ⊢
  unfold execOp
  rw [hop]
  simp [e11, hc0, go_sem]
theorem FA.s5 (X : FA) (ok : FAOk X) {Q : Exit → Act → World → Prop} : StepG (opsOf 3 Try.f17) FA.acts FA.av X.val0 X.Wd X.a0 Q 5 := by
  intro γ listed a w o hF hC hW h1 ho h2
  obtain ⟨hd, hop, hg⟩ := fields2 (x := some 13) (y := Op.call { callee := .value (.func 49), args := #[(.tmp 12)], argTypes := #[3] }) (z := none) (by kernel_rfl) ho
  have e12 : a.eval (.tmp 12) = .int .i64 X.y := slotG hF ho h2 (j := 4) (d := 12) (by kernel_rfl) (by kernel_rfl) (by rw [ok.sz]; decide)
  have ef : a.eval (.func 49) = .func (.func 49) #[] #[] := rfl
  refine st_callG hF hC hW ho h2 (by decide) hd hg rfl (f := 49) (args := #[.int .i64 X.y]) ?_ ?_ ?_
  · generalize a.eval = ρ at e12 ef ⊢
    unfold execOp
    rw [hop]
    simp [e12, ef, go_sem]
  · exact sfine X.y ok.hy w
  · intro w' hk; exact FA.keep hW hk
theorem FA.s6 (X : FA) (ok : FAOk X) {Q : Exit → Act → World → Prop} : StepG (opsOf 3 Try.f17) FA.acts FA.av X.val0 X.Wd X.a0 Q 6 := by
  intro γ listed a w o hF hC hW h1 ho h2
  obtain ⟨hd, hop, hg⟩ := fields2 (x := some 2) (y := Op.assign (.tmp 10)) (z := none) (by kernel_rfl) ho
  have e10 : a.eval (.tmp 10) = .int .i64 (fnV X.x) := slotG hF ho h2 (j := 2) (d := 10) (by kernel_rfl) (by kernel_rfl) (by rw [ok.sz]; decide)
  refine st_pureG hF hC hW ho h2 (by decide) hd hg rfl ?_
  show _ = Result.ok (Next.value (.int .i64 (fnV X.x))) w
  generalize a.eval = ρ at e10 ⊢
  unfold execOp
  rw [hop]
  simp [e10, go_sem]
theorem FA.s7 (X : FA) (ok : FAOk X) {Q : Exit → Act → World → Prop} : StepG (opsOf 3 Try.f17) FA.acts FA.av X.val0 X.Wd X.a0 Q 7 := by
  intro γ listed a w o hF hC hW h1 ho h2
  obtain ⟨hd, hop, hg⟩ := fields2 (x := some 3) (y := Op.assign (.tmp 13)) (z := none) (by kernel_rfl) ho
  have e13 : a.eval (.tmp 13) = .int .i64 (fnV X.y) := slotG hF ho h2 (j := 5) (d := 13) (by kernel_rfl) (by kernel_rfl) (by rw [ok.sz]; decide)
  refine st_pureG hF hC hW ho h2 (by decide) hd hg rfl ?_
  show _ = Result.ok (Next.value (.int .i64 (fnV X.y))) w
  generalize a.eval = ρ at e13 ⊢
  unfold execOp
  rw [hop]
  simp [e13, go_sem]
theorem FA.s8 (X : FA) (ok : FAOk X) {Q : Exit → Act → World → Prop} : StepG (opsOf 3 Try.f17) FA.acts FA.av X.val0 X.Wd X.a0 Q 8 := by
  intro γ listed a w o hF hC hW h1 ho h2
  obtain ⟨hd, hop, hg⟩ := fields2 (x := some 4) (y := Op.assign (.const (.bool true))) (z := none) (by kernel_rfl) ho
  have ec0 : a.eval (.const (.bool true)) = .bool true := rfl
  refine st_pureG hF hC hW ho h2 (by decide) hd hg rfl ?_
  show _ = Result.ok (Next.value ((.bool true))) w
  generalize a.eval = ρ at ec0 ⊢
  unfold execOp
  rw [hop]
  simp [ec0, go_sem]
theorem FA.size : (opsOf 3 Try.f17).size = 9 := by kernel_rfl
theorem FA.steps (X : FA) (ok : FAOk X) {Q : Exit → Act → World → Prop} (i : Nat) (hi : i < (opsOf 3 Try.f17).size) : StepG (opsOf 3 Try.f17) FA.acts FA.av X.val0 X.Wd X.a0 Q i := by
  rw [FA.size] at hi
  have hc : i = 0 ∨ i = 1 ∨ i = 2 ∨ i = 3 ∨ i = 4 ∨ i = 5 ∨ i = 6 ∨ i = 7 ∨ i = 8 := by omega
  rcases hc with rfl | rfl | rfl | rfl | rfl | rfl | rfl | rfl | rfl
  · exact FA.s0 X ok
  · exact FA.s1 X ok
  · exact FA.s2 X ok
  · exact FA.s3 X ok
  · exact FA.s4 X ok
  · exact FA.s5 X ok
  · exact FA.s6 X ok
  · exact FA.s7 X ok
  · exact FA.s8 X ok
theorem FA.puts (X : FA) (γ : Nat → Value) (a0 : Act) : putsL (valG FA.av X.val0 γ) (opsOf 3 Try.f17).toList a0 = (((((((((a0.put (some 8) (.pointer (some ⟨X.b, 0, none⟩))).put (some 9) (.int .i64 X.x)).put (some 10) (.int .i64 (fnV X.x))).put (some 11) (.pointer (some ⟨X.b, 1, none⟩))).put (some 12) (.int .i64 X.y)).put (some 13) (.int .i64 (fnV X.y))).put (some 2) (.int .i64 (fnV X.x))).put (some 3) (.int .i64 (fnV X.y))).put (some 4) ((.bool true))) := by kernel_rfl
/-- The region, whatever order comes up. -/
theorem FA.run (X : FA) (ok : FAOk X) {Q : Exit → Act → World → Prop} (w : World) (h0 : X.Wd 0 (fun _ => undef) w.drew) (hend : ∀ (γ : Nat → Value) w', X.Wd 0 γ w' → Q .normal (((((((((X.a0.put (some 8) (.pointer (some ⟨X.b, 0, none⟩))).put (some 9) (.int .i64 X.x)).put (some 10) (.int .i64 (fnV X.x))).put (some 11) (.pointer (some ⟨X.b, 1, none⟩))).put (some 12) (.int .i64 X.y)).put (some 13) (.int .i64 (fnV X.y))).put (some 2) (.int .i64 (fnV X.x))).put (some 3) (.int .i64 (fnV X.y))).put (some 4) ((.bool true))) w') : (Code.region 3 (opsOf 3 Try.f17) true).wp Try.prog Q X.a0 w := by
  refine reg_act (acts := FA.acts) (av := FA.av) (val0 := X.val0) (Wd := X.Wd) (by kernel_rfl) (by kernel_rfl) (by rw [FA.size]; decide) (fun i hi => FA.steps X ok i hi) _ h0 ?_
  intro γ w' h
  rw [FA.puts]
  exact hend γ w' h
structure FB where
  x : Int
  y : Int
  b : Nat
  g : Nat
  W : World
  a0 : Act
structure FBOk (X : FB) : Prop where
  c0 : X.W.cell? ⟨X.b, 0, none⟩ = some (.int .i64 X.x)
  c1 : X.W.cell? ⟨X.b, 1, none⟩ = some (.int .i64 X.y)
  hx : nr X.x
  hy : nr X.y
  z0 : ∃ u, X.W.cell? ⟨X.g, 0, none⟩ = some u
  z1 : ∃ u, X.W.cell? ⟨X.g, 1, none⟩ = some u
  zf : ∀ o, X.W.frozen? ⟨X.g, o, none⟩ = false
  e1 : X.a0.eval (.tmp 1) = .pointer (some ⟨X.b, 0, none⟩)
  e2 : X.a0.eval (.tmp 2) = .pointer (some ⟨X.g, 0, none⟩)
  sz : X.a0.tmps.size = 14
def FB.val0 (X : FB) : Nat → Value
  | 3 => .pointer (some ⟨X.b, 0, none⟩)
  | 4 => .int .i64 X.x
  | 5 => .int .i64 (X.x * 16)
  | 6 => .int .i64 (X.x * 16 + 32768)
  | 7 => .int .i64 (fnV X.x)
  | 8 => .pointer (some ⟨X.b, 1, none⟩)
  | 9 => .int .i64 X.y
  | 10 => .int .i64 (X.y * 16)
  | 11 => .int .i64 (X.y * 16 + 32768)
  | 12 => .int .i64 (fnV X.y)
  | 13 => .agg #[.int .i64 (fnV X.x), .int .i64 (fnV X.y)]
  | _ => undef
def FB.av : Nat → Option Nat
  | _ => none
def FB.acts : List Nat := [11]
/-- The world, by how many of the acting ones have come up. -/
def FB.Wd (X : FB) : Nat → (Nat → Value) → World → Prop
  | 0, _, w => Kp X.W w
  | _, _, w => ∃ w1, Kp X.W w1 ∧ w = ((w1.setCell ⟨X.g, 0, none⟩ (.int .i64 (fnV X.x))).setCell ⟨X.g, 1, none⟩ (.int .i64 (fnV X.y)))
theorem FB.chain : chainG (opsOf 1 Try.f51) FB.acts = true := by kernel_rfl
theorem FB.nodup : FB.acts.Nodup := by decide
theorem FB.inj {listed : Array Bool} {i k : Nat} (h : (List.range (opsOf 1 Try.f51).size).all (fun j => decide (j = i) || !(match dstOf (opsOf 1 Try.f51) j with | some d => decide (FB.av d = some k) | none => false)) = true) (hu : listed.getD i false = false) : ∀ d, got (opsOf 1 Try.f51) listed d → FB.av d ≠ some k := by
  rintro d ⟨j, h1, h2⟩ h3
  have hlt : j < (opsOf 1 Try.f51).size := by
    rcases Nat.lt_or_ge j (opsOf 1 Try.f51).size with h4 | h4
    · exact h4
    · unfold dstOf at h2; rw [Array.getElem?_eq_none h4] at h2; cases h2
  have h5 := List.all_eq_true.1 h j (List.mem_range.2 hlt)
  rw [h2] at h5
  simp only [h3, decide_true, Bool.not_true, Bool.or_false, decide_eq_true_eq] at h5
  subst h5
  rw [hu] at h1
  cases h1
theorem FB.s0 (X : FB) (ok : FBOk X) {Q : Exit → Act → World → Prop} : StepG (opsOf 1 Try.f51) FB.acts FB.av X.val0 X.Wd X.a0 Q 0 := by
  intro γ listed a w o hF hC hW h1 ho h2
  obtain ⟨hd, hop, hg⟩ := fields2 (x := some 3) (y := Op.fieldAddr 37 (.tmp 1) 0) (z := none) (by kernel_rfl) ho
  have e1 : a.eval (.tmp 1) = .pointer (some ⟨X.b, 0, none⟩) := (hF.eval0 (by kernel_rfl)).trans ok.e1
  refine st_pureG hF hC hW ho h2 (by decide) hd hg rfl ?_
  show _ = Result.ok (Next.value (.pointer (some ⟨X.b, 0, none⟩))) w
  generalize a.eval = ρ at e1 ⊢
  unfold execOp
  rw [hop]
  simp [e1, go_sem]
theorem FB.s1 (X : FB) (ok : FBOk X) {Q : Exit → Act → World → Prop} : StepG (opsOf 1 Try.f51) FB.acts FB.av X.val0 X.Wd X.a0 Q 1 := by
  intro γ listed a w o hF hC hW h1 ho h2
  obtain ⟨hd, hop, hg⟩ := fields2 (x := some 4) (y := Op.load 3 (.tmp 3)) (z := none) (by kernel_rfl) ho
  have e3 : a.eval (.tmp 3) = .pointer (some ⟨X.b, 0, none⟩) := slotG hF ho h2 (j := 0) (d := 3) (by kernel_rfl) (by kernel_rfl) (by rw [ok.sz]; decide)
  have hph := phase_leG (acts := FB.acts) (m := 0) (x := 11) hC (unl (hF.lt ho) h1) rfl [10, 4, 3, 2, 1] (by kernel_rfl) (by decide)
  have hWW := hW
  generalize phase listed FB.acts = n at hph hWW
  have hk : Kp X.W w := by
    obtain rfl : n = 0 := by omega
    exact hWW
  have hc0 := rq_at hk ok.c0
  refine st_pureG hF hC hW ho h2 (by decide) hd hg rfl ?_
  show _ = Result.ok (Next.value (.int .i64 X.x)) w
  generalize a.eval = ρ at e3 ⊢
  unfold execOp
  rw [hop]
  simp [e3, hc0, go_sem]
theorem FB.s2 (X : FB) (ok : FBOk X) {Q : Exit → Act → World → Prop} : StepG (opsOf 1 Try.f51) FB.acts FB.av X.val0 X.Wd X.a0 Q 2 := by
  intro γ listed a w o hF hC hW h1 ho h2
  obtain ⟨hd, hop, hg⟩ := fields2 (x := some 5) (y := Op.binOp .mul 3 (.tmp 4) (.const (.int .i64 16)) 3) (z := none) (by kernel_rfl) ho
  have e4 : a.eval (.tmp 4) = .int .i64 X.x := slotG hF ho h2 (j := 1) (d := 4) (by kernel_rfl) (by kernel_rfl) (by rw [ok.sz]; decide)
  have ec1 : a.eval (.const (.int .i64 16)) = .int .i64 16 := rfl
  refine st_pureG hF hC hW ho h2 (by decide) hd hg rfl ?_
  show _ = Result.ok (Next.value (.int .i64 (X.x * 16))) w
  generalize a.eval = ρ at e4 ec1 ⊢
  unfold execOp
  rw [hop]
  simp [e4, ec1, (fn_wraps ok.hx).1, go_sem]
theorem FB.s3 (X : FB) (ok : FBOk X) {Q : Exit → Act → World → Prop} : StepG (opsOf 1 Try.f51) FB.acts FB.av X.val0 X.Wd X.a0 Q 3 := by
  intro γ listed a w o hF hC hW h1 ho h2
  obtain ⟨hd, hop, hg⟩ := fields2 (x := some 6) (y := Op.binOp .add 3 (.tmp 5) (.const (.int .i64 32768)) 3) (z := none) (by kernel_rfl) ho
  have e5 : a.eval (.tmp 5) = .int .i64 (X.x * 16) := slotG hF ho h2 (j := 2) (d := 5) (by kernel_rfl) (by kernel_rfl) (by rw [ok.sz]; decide)
  have ec1 : a.eval (.const (.int .i64 32768)) = .int .i64 32768 := rfl
  refine st_pureG hF hC hW ho h2 (by decide) hd hg rfl ?_
  show _ = Result.ok (Next.value (.int .i64 (X.x * 16 + 32768))) w
  generalize a.eval = ρ at e5 ec1 ⊢
  unfold execOp
  rw [hop]
  simp [e5, ec1, (fn_wraps ok.hx).2, go_sem]
theorem FB.s4 (X : FB) (ok : FBOk X) {Q : Exit → Act → World → Prop} : StepG (opsOf 1 Try.f51) FB.acts FB.av X.val0 X.Wd X.a0 Q 4 := by
  intro γ listed a w o hF hC hW h1 ho h2
  obtain ⟨hd, hop, hg⟩ := fields2 (x := some 7) (y := Op.call { callee := .value (.func 81), args := #[(.tmp 6), (.const (.int .i64 65536))], argTypes := #[3, 3] }) (z := none) (by kernel_rfl) ho
  have e6 : a.eval (.tmp 6) = .int .i64 (X.x * 16 + 32768) := slotG hF ho h2 (j := 3) (d := 6) (by kernel_rfl) (by kernel_rfl) (by rw [ok.sz]; decide)
  have ec1 : a.eval (.const (.int .i64 65536)) = .int .i64 65536 := rfl
  have ef : a.eval (.func 81) = .func (.func 81) #[] #[] := rfl
  have hph := phase_leG (acts := FB.acts) (m := 0) (x := 11) hC (unl (hF.lt ho) h1) rfl [10, 4] (by kernel_rfl) (by decide)
  have hWW := hW
  generalize phase listed FB.acts = n at hph hWW
  refine st_callG hF hC hW ho h2 (by decide) hd hg rfl (f := 81) (args := #[.int .i64 (X.x * 16 + 32768), .int .i64 65536]) ?_ ?_ ?_
  · generalize a.eval = ρ at e6 ec1 ef ⊢
    unfold execOp
    rw [hop]
    simp [e6, ec1, ef, go_sem]
  · exact idn X.x ok.hx w
  · intro w' hk
    have hz : phase listed FB.acts = 0 := by
      have := phase_leG (acts := FB.acts) (m := 0) (x := 11) hC (unl (hF.lt ho) h1) rfl [10, 4] (by kernel_rfl) (by decide)
      omega
    rw [hz] at hW ⊢
    exact Kp.trans hW hk
theorem FB.s5 (X : FB) (ok : FBOk X) {Q : Exit → Act → World → Prop} : StepG (opsOf 1 Try.f51) FB.acts FB.av X.val0 X.Wd X.a0 Q 5 := by
  intro γ listed a w o hF hC hW h1 ho h2
  obtain ⟨hd, hop, hg⟩ := fields2 (x := some 8) (y := Op.fieldAddr 37 (.tmp 1) 1) (z := none) (by kernel_rfl) ho
  have e1 : a.eval (.tmp 1) = .pointer (some ⟨X.b, 0, none⟩) := (hF.eval0 (by kernel_rfl)).trans ok.e1
  refine st_pureG hF hC hW ho h2 (by decide) hd hg rfl ?_
  show _ = Result.ok (Next.value (.pointer (some ⟨X.b, 1, none⟩))) w
  generalize a.eval = ρ at e1 ⊢
  unfold execOp
  rw [hop]
  simp [e1, go_sem]
theorem FB.s6 (X : FB) (ok : FBOk X) {Q : Exit → Act → World → Prop} : StepG (opsOf 1 Try.f51) FB.acts FB.av X.val0 X.Wd X.a0 Q 6 := by
  intro γ listed a w o hF hC hW h1 ho h2
  obtain ⟨hd, hop, hg⟩ := fields2 (x := some 9) (y := Op.load 3 (.tmp 8)) (z := none) (by kernel_rfl) ho
  have e8 : a.eval (.tmp 8) = .pointer (some ⟨X.b, 1, none⟩) := slotG hF ho h2 (j := 5) (d := 8) (by kernel_rfl) (by kernel_rfl) (by rw [ok.sz]; decide)
  have hph := phase_leG (acts := FB.acts) (m := 0) (x := 11) hC (unl (hF.lt ho) h1) rfl [10, 9, 8, 7, 6] (by kernel_rfl) (by decide)
  have hWW := hW
  generalize phase listed FB.acts = n at hph hWW
  have hk : Kp X.W w := by
    obtain rfl : n = 0 := by omega
    exact hWW
  have hc0 := rq_at hk ok.c1
  refine st_pureG hF hC hW ho h2 (by decide) hd hg rfl ?_
  show _ = Result.ok (Next.value (.int .i64 X.y)) w
  generalize a.eval = ρ at e8 ⊢
  unfold execOp
  rw [hop]
  simp [e8, hc0, go_sem]
theorem FB.s7 (X : FB) (ok : FBOk X) {Q : Exit → Act → World → Prop} : StepG (opsOf 1 Try.f51) FB.acts FB.av X.val0 X.Wd X.a0 Q 7 := by
  intro γ listed a w o hF hC hW h1 ho h2
  obtain ⟨hd, hop, hg⟩ := fields2 (x := some 10) (y := Op.binOp .mul 3 (.tmp 9) (.const (.int .i64 16)) 3) (z := none) (by kernel_rfl) ho
  have e9 : a.eval (.tmp 9) = .int .i64 X.y := slotG hF ho h2 (j := 6) (d := 9) (by kernel_rfl) (by kernel_rfl) (by rw [ok.sz]; decide)
  have ec1 : a.eval (.const (.int .i64 16)) = .int .i64 16 := rfl
  refine st_pureG hF hC hW ho h2 (by decide) hd hg rfl ?_
  show _ = Result.ok (Next.value (.int .i64 (X.y * 16))) w
  generalize a.eval = ρ at e9 ec1 ⊢
  unfold execOp
  rw [hop]
  simp [e9, ec1, (fn_wraps ok.hy).1, go_sem]
theorem FB.s8 (X : FB) (ok : FBOk X) {Q : Exit → Act → World → Prop} : StepG (opsOf 1 Try.f51) FB.acts FB.av X.val0 X.Wd X.a0 Q 8 := by
  intro γ listed a w o hF hC hW h1 ho h2
  obtain ⟨hd, hop, hg⟩ := fields2 (x := some 11) (y := Op.binOp .add 3 (.tmp 10) (.const (.int .i64 32768)) 3) (z := none) (by kernel_rfl) ho
  have e10 : a.eval (.tmp 10) = .int .i64 (X.y * 16) := slotG hF ho h2 (j := 7) (d := 10) (by kernel_rfl) (by kernel_rfl) (by rw [ok.sz]; decide)
  have ec1 : a.eval (.const (.int .i64 32768)) = .int .i64 32768 := rfl
  refine st_pureG hF hC hW ho h2 (by decide) hd hg rfl ?_
  show _ = Result.ok (Next.value (.int .i64 (X.y * 16 + 32768))) w
  generalize a.eval = ρ at e10 ec1 ⊢
  unfold execOp
  rw [hop]
  simp [e10, ec1, (fn_wraps ok.hy).2, go_sem]
theorem FB.s9 (X : FB) (ok : FBOk X) {Q : Exit → Act → World → Prop} : StepG (opsOf 1 Try.f51) FB.acts FB.av X.val0 X.Wd X.a0 Q 9 := by
  intro γ listed a w o hF hC hW h1 ho h2
  obtain ⟨hd, hop, hg⟩ := fields2 (x := some 12) (y := Op.call { callee := .value (.func 81), args := #[(.tmp 11), (.const (.int .i64 65536))], argTypes := #[3, 3] }) (z := none) (by kernel_rfl) ho
  have e11 : a.eval (.tmp 11) = .int .i64 (X.y * 16 + 32768) := slotG hF ho h2 (j := 8) (d := 11) (by kernel_rfl) (by kernel_rfl) (by rw [ok.sz]; decide)
  have ec1 : a.eval (.const (.int .i64 65536)) = .int .i64 65536 := rfl
  have ef : a.eval (.func 81) = .func (.func 81) #[] #[] := rfl
  have hph := phase_leG (acts := FB.acts) (m := 0) (x := 11) hC (unl (hF.lt ho) h1) rfl [10, 9] (by kernel_rfl) (by decide)
  have hWW := hW
  generalize phase listed FB.acts = n at hph hWW
  refine st_callG hF hC hW ho h2 (by decide) hd hg rfl (f := 81) (args := #[.int .i64 (X.y * 16 + 32768), .int .i64 65536]) ?_ ?_ ?_
  · generalize a.eval = ρ at e11 ec1 ef ⊢
    unfold execOp
    rw [hop]
    simp [e11, ec1, ef, go_sem]
  · exact idn X.y ok.hy w
  · intro w' hk
    have hz : phase listed FB.acts = 0 := by
      have := phase_leG (acts := FB.acts) (m := 0) (x := 11) hC (unl (hF.lt ho) h1) rfl [10, 9] (by kernel_rfl) (by decide)
      omega
    rw [hz] at hW ⊢
    exact Kp.trans hW hk
theorem FB.s10 (X : FB) (ok : FBOk X) {Q : Exit → Act → World → Prop} : StepG (opsOf 1 Try.f51) FB.acts FB.av X.val0 X.Wd X.a0 Q 10 := by
  intro γ listed a w o hF hC hW h1 ho h2
  obtain ⟨hd, hop, hg⟩ := fields2 (x := some 13) (y := Op.build 37 #[(0, (.tmp 7)), (1, (.tmp 12))]) (z := none) (by kernel_rfl) ho
  have e7 : a.eval (.tmp 7) = .int .i64 (fnV X.x) := slotG hF ho h2 (j := 4) (d := 7) (by kernel_rfl) (by kernel_rfl) (by rw [ok.sz]; decide)
  have e12 : a.eval (.tmp 12) = .int .i64 (fnV X.y) := slotG hF ho h2 (j := 9) (d := 12) (by kernel_rfl) (by kernel_rfl) (by rw [ok.sz]; decide)
  refine st_pureG hF hC hW ho h2 (by decide) hd hg rfl ?_
  show _ = Result.ok (Next.value (.agg #[.int .i64 (fnV X.x), .int .i64 (fnV X.y)])) w
  generalize a.eval = ρ at e7 e12 ⊢
  unfold execOp
  rw [hop]
  simp [e7, e12, go_sem]
theorem FB.s11 (X : FB) (ok : FBOk X) {Q : Exit → Act → World → Prop} : StepG (opsOf 1 Try.f51) FB.acts FB.av X.val0 X.Wd X.a0 Q 11 := by
  intro γ listed a w o hF hC hW h1 ho h2
  obtain ⟨hd, hop, hg⟩ := fields2 (x := none) (y := Op.store 37 (.tmp 2) (.tmp 13)) (z := none) (by kernel_rfl) ho
  have e2 : a.eval (.tmp 2) = .pointer (some ⟨X.g, 0, none⟩) := (hF.eval0 (by kernel_rfl)).trans ok.e2
  have e13 : a.eval (.tmp 13) = .agg #[.int .i64 (fnV X.x), .int .i64 (fnV X.y)] := slotG hF ho h2 (j := 10) (d := 13) (by kernel_rfl) (by kernel_rfl) (by rw [ok.sz]; decide)
  have hu := unl (hF.lt ho) h1
  refine st_actG (k := 0) FB.chain FB.nodup rfl hF hC hW h1 ho h2 (Or.inl hd) (FB.inj (by kernel_rfl) hu) hg ?_
  intro hW0 K hK
  obtain ⟨u0, z0⟩ := ok.z0
  replace z0 := rq_at hW0 z0
  obtain ⟨u1, z1⟩ := ok.z1
  replace z1 := rq_at hW0 z1
  have zf : ∀ o, w.frozen? ⟨X.g, o, none⟩ = false := fun o => (hW0.cells.2 _ _).trans (ok.zf o)
  have hr : (execOp a.eval o).run Try.prog w = .ok .skip ((w.setCell ⟨X.g, 0, none⟩ (.int .i64 (fnV X.x))).setCell ⟨X.g, 1, none⟩ (.int .i64 (fnV X.y))) := by
    generalize a.eval = ρ at e2 e13 ⊢
    unfold execOp
    rw [hop]
    simp [e2, e13, z0, z1, zf, go_sem]
  unfold Oper.wp
  rw [hr]
  exact hK _ _ ⟨w, hW0, rfl⟩
theorem FB.size : (opsOf 1 Try.f51).size = 12 := by kernel_rfl
theorem FB.steps (X : FB) (ok : FBOk X) {Q : Exit → Act → World → Prop} (i : Nat) (hi : i < (opsOf 1 Try.f51).size) : StepG (opsOf 1 Try.f51) FB.acts FB.av X.val0 X.Wd X.a0 Q i := by
  rw [FB.size] at hi
  have hc : i = 0 ∨ i = 1 ∨ i = 2 ∨ i = 3 ∨ i = 4 ∨ i = 5 ∨ i = 6 ∨ i = 7 ∨ i = 8 ∨ i = 9 ∨ i = 10 ∨ i = 11 := by omega
  rcases hc with rfl | rfl | rfl | rfl | rfl | rfl | rfl | rfl | rfl | rfl | rfl | rfl
  · exact FB.s0 X ok
  · exact FB.s1 X ok
  · exact FB.s2 X ok
  · exact FB.s3 X ok
  · exact FB.s4 X ok
  · exact FB.s5 X ok
  · exact FB.s6 X ok
  · exact FB.s7 X ok
  · exact FB.s8 X ok
  · exact FB.s9 X ok
  · exact FB.s10 X ok
  · exact FB.s11 X ok
theorem FB.puts (X : FB) (γ : Nat → Value) (a0 : Act) : putsL (valG FB.av X.val0 γ) (opsOf 1 Try.f51).toList a0 = (((((((((((a0.put (some 3) (.pointer (some ⟨X.b, 0, none⟩))).put (some 4) (.int .i64 X.x)).put (some 5) (.int .i64 (X.x * 16))).put (some 6) (.int .i64 (X.x * 16 + 32768))).put (some 7) (.int .i64 (fnV X.x))).put (some 8) (.pointer (some ⟨X.b, 1, none⟩))).put (some 9) (.int .i64 X.y)).put (some 10) (.int .i64 (X.y * 16))).put (some 11) (.int .i64 (X.y * 16 + 32768))).put (some 12) (.int .i64 (fnV X.y))).put (some 13) (.agg #[.int .i64 (fnV X.x), .int .i64 (fnV X.y)])) := by kernel_rfl
/-- The region, whatever order comes up. -/
theorem FB.run (X : FB) (ok : FBOk X) {Q : Exit → Act → World → Prop} (w : World) (h0 : X.Wd 0 (fun _ => undef) w.drew) (hend : ∀ (γ : Nat → Value) w', X.Wd 1 γ w' → Q .normal (((((((((((X.a0.put (some 3) (.pointer (some ⟨X.b, 0, none⟩))).put (some 4) (.int .i64 X.x)).put (some 5) (.int .i64 (X.x * 16))).put (some 6) (.int .i64 (X.x * 16 + 32768))).put (some 7) (.int .i64 (fnV X.x))).put (some 8) (.pointer (some ⟨X.b, 1, none⟩))).put (some 9) (.int .i64 X.y)).put (some 10) (.int .i64 (X.y * 16))).put (some 11) (.int .i64 (X.y * 16 + 32768))).put (some 12) (.int .i64 (fnV X.y))).put (some 13) (.agg #[.int .i64 (fnV X.x), .int .i64 (fnV X.y)])) w') : (Code.region 1 (opsOf 1 Try.f51) true).wp Try.prog Q X.a0 w := by
  refine reg_act (acts := FB.acts) (av := FB.av) (val0 := X.val0) (Wd := X.Wd) (by kernel_rfl) (by kernel_rfl) (by rw [FB.size]; decide) (fun i hi => FB.steps X ok i hi) _ h0 ?_
  intro γ w' h
  rw [FB.puts]
  exact hend γ w' h
end Go.Proofs.Ytllljknpicmmjaa
