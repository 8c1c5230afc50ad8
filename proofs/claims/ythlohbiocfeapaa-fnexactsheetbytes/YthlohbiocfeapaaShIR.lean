/-
  The statement of isGood that looks at the sides and draws its order, a text a way; each theorem names its conditions.
-/
import Derived.Test.YthlohbiocfeapaaSh
import Derived.Test.YthlohbiocfeapaaRq
import Derived.Test.YthlohbiocfeapaaRgG
namespace Go.Proofs.Ythlohbiocfeapaa
open Go.ChangeShapes Go.WideShapes Go.ChangeAt Go.RowKit
set_option linter.unusedVariables false

theorem isides (w : World) (pw ph : Int) : Calls Try.prog 84 #[.agg #[.int .i64 pw, .int .i64 ph]] w fun e w' => e = .returned (.bool (sdB pw && sdB ph)) ∧ Kp w w' := by
  have H1 : Hid _ := fun w => igoodSide w pw
  have H2 : Hid _ := fun w => igoodSide w ph
  cases b1 : sdB pw with
  | false =>
    rw [b1] at H1
    clear b1
    go_enter Try.func84, Try.ntmps84
    go_wp2_with fail
    refine Calls.mono (H1.out _) ?_
    rintro e w9 ⟨rfl, rfl⟩
    go_wp2
    go_ret
    exact ⟨rfl, (Kp.refl w).alloc _ _⟩
  | true =>
    rw [b1] at H1
    rw [Bool.true_and]
    generalize sdB ph = b2 at *
    clear b1
    go_enter Try.func84, Try.ntmps84
    go_wp2_with fail
    refine Calls.mono (H1.out _) ?_
    rintro e w9 ⟨rfl, rfl⟩
    go_wp2_with fail
    refine Calls.mono (H2.out _) ?_
    rintro e w9 ⟨rfl, rfl⟩
    go_wp2
    go_ret
    exact ⟨rfl, (Kp.refl w).alloc _ _⟩
theorem icount (w : World) (pw ph : Int) (h : 1 ≤ pw * ph ∧ pw * ph ≤ 1296) : Calls Try.prog 85 #[.agg #[.int .i64 pw, .int .i64 ph]] w fun e w' => e = .returned (.int .i64 (pw * ph)) ∧ Kp w w' := by
  obtain ⟨h1, h2⟩ := h
  go_enter Try.func85, Try.ntmps85
  go_wp2
  go_ret
  exact ⟨rfl, (Kp.refl w).alloc _ _⟩
theorem sides_k {pw ph : Int} {v : Bool} (h : (sdB pw && sdB ph) = v) (w : World) : Calls Try.prog 84 #[.agg #[.int .i64 pw, .int .i64 ph]] w fun e w' => e = .returned (.bool v) ∧ Kp w w' := by
  rw [← h]
  exact isides w pw ph
structure SHA where
  b : Nat
  pw : Int
  ph : Int
  a : Option Addr
  n : Nat
  c : Nat
  W : World
  a0 : Act
structure SHAOk (X : SHA) : Prop where
  c0 : X.W.cell? ⟨X.b, 0, none⟩ = some (.int .i64 X.pw)
  c1 : X.W.cell? ⟨X.b, 1, none⟩ = some (.int .i64 X.ph)
  c2 : X.W.cell? ⟨X.b, 2, none⟩ = some (.slice X.a X.n X.c)
  h1 : (sdB X.pw && sdB X.ph) = false
  e1 : X.a0.eval (.tmp 1) = .pointer (some ⟨X.b, 0, none⟩)
  sz : X.a0.tmps.size = 29
def SHA.val0 (X : SHA) : Nat → Value
  | 5 => .pointer (some ⟨X.b, 0, none⟩)
  | 6 => .agg #[.int .i64 X.pw, .int .i64 X.ph]
  | 7 => .bool false
  | 8 => .bool true
  | 9 => .bool true
  | 10 => undef
  | 11 => undef
  | 12 => undef
  | 13 => undef
  | 14 => undef
  | 15 => undef
  | 16 => undef
  | 17 => .bool true
  | _ => undef
def SHA.av : Nat → Option Nat
  | _ => none
def SHA.acts : List Nat := []
/-- The world, by how many of the acting ones have come up. -/
def SHA.Wd (X : SHA) : Nat → (Nat → Value) → World → Prop
  | _, _, w => Kp X.W w
theorem SHA.kp {X : SHA} {n : Nat} {γ : Nat → Value} {w : World} (h : X.Wd n γ w) : Kp X.W w := h
theorem SHA.keep {X : SHA} {n : Nat} {γ : Nat → Value} {w w' : World} (h : X.Wd n γ w) (k : Kp w w') : X.Wd n γ w' := Kp.trans h k
theorem SHA.chain : chainG (opsOf 1 Try.f93) SHA.acts = true := by kernel_rfl
theorem SHA.nodup : SHA.acts.Nodup := by decide
theorem SHA.inj {listed : Array Bool} {i k : Nat} (h : (List.range (opsOf 1 Try.f93).size).all (fun j => decide (j = i) || !(match dstOf (opsOf 1 Try.f93) j with | some d => decide (SHA.av d = some k) | none => false)) = true) (hu : listed.getD i false = false) : ∀ d, got (opsOf 1 Try.f93) listed d → SHA.av d ≠ some k := by
  rintro d ⟨j, h1, h2⟩ h3
  have hlt : j < (opsOf 1 Try.f93).size := by
    rcases Nat.lt_or_ge j (opsOf 1 Try.f93).size with h4 | h4
    · exact h4
    · unfold dstOf at h2; rw [Array.getElem?_eq_none h4] at h2; cases h2
  have h5 := List.all_eq_true.1 h j (List.mem_range.2 hlt)
  rw [h2] at h5
  simp only [h3, decide_true, Bool.not_true, Bool.or_false, decide_eq_true_eq] at h5
  subst h5
  rw [hu] at h1
  cases h1
theorem SHA.s0 (X : SHA) (ok : SHAOk X) {Q : Exit → Act → World → Prop} : StepG (opsOf 1 Try.f93) SHA.acts SHA.av X.val0 X.Wd X.a0 Q 0 := by
  intro γ listed a w o hF hC hW h1 ho h2
  obtain ⟨hd, hop, hg⟩ := fields2 (x := some 5) (y := Op.fieldAddr 114 (.tmp 1) 0) (z := none) (by kernel_rfl) ho
  have e1 : a.eval (.tmp 1) = .pointer (some ⟨X.b, 0, none⟩) := (hF.eval0 (by kernel_rfl)).trans ok.e1
  refine st_pureG hF hC hW ho h2 (by decide) hd hg rfl ?_
  show _ = Result.ok (Next.value (.pointer (some ⟨X.b, 0, none⟩))) w
  generalize a.eval = ρ at e1 ⊢
  unfold execOp
  rw [hop]
  simp [e1, go_sem]
theorem SHA.s1 (X : SHA) (ok : SHAOk X) {Q : Exit → Act → World → Prop} : StepG (opsOf 1 Try.f93) SHA.acts SHA.av X.val0 X.Wd X.a0 Q 1 := by
  intro γ listed a w o hF hC hW h1 ho h2
  obtain ⟨hd, hop, hg⟩ := fields2 (x := some 6) (y := Op.load 112 (.tmp 5)) (z := none) (by kernel_rfl) ho
  have e5 : a.eval (.tmp 5) = .pointer (some ⟨X.b, 0, none⟩) := slotG hF ho h2 (j := 0) (d := 5) (by kernel_rfl) (by kernel_rfl) (by rw [ok.sz]; decide)
  have hc0 := rq_at (SHA.kp hW) ok.c0
  have hc1 := rq_at (SHA.kp hW) ok.c1
  refine st_pureG hF hC hW ho h2 (by decide) hd hg rfl ?_
  show _ = Result.ok (Next.value (.agg #[.int .i64 X.pw, .int .i64 X.ph])) w
  generalize a.eval = ρ at e5 ⊢
  unfold execOp
  rw [hop]
  simp [e5, hc0, hc1, go_sem]
theorem SHA.s2 (X : SHA) (ok : SHAOk X) {Q : Exit → Act → World → Prop} : StepG (opsOf 1 Try.f93) SHA.acts SHA.av X.val0 X.Wd X.a0 Q 2 := by
  intro γ listed a w o hF hC hW h1 ho h2
  obtain ⟨hd, hop, hg⟩ := fields2 (x := some 7) (y := Op.call { callee := .value (.func 84), args := #[(.tmp 6)], argTypes := #[112] }) (z := none) (by kernel_rfl) ho
  have e6 : a.eval (.tmp 6) = .agg #[.int .i64 X.pw, .int .i64 X.ph] := slotG hF ho h2 (j := 1) (d := 6) (by kernel_rfl) (by kernel_rfl) (by rw [ok.sz]; decide)
  have ef : a.eval (.func 84) = .func (.func 84) #[] #[] := rfl
  refine st_callG hF hC hW ho h2 (by decide) hd hg rfl (f := 84) (args := #[.agg #[.int .i64 X.pw, .int .i64 X.ph]]) ?_ ?_ ?_
  · generalize a.eval = ρ at e6 ef ⊢
    unfold execOp
    rw [hop]
    simp [e6, ef, go_sem]
  · exact sides_k ok.h1 w
  · intro w' hk; exact SHA.keep hW hk
theorem SHA.s3 (X : SHA) (ok : SHAOk X) {Q : Exit → Act → World → Prop} : StepG (opsOf 1 Try.f93) SHA.acts SHA.av X.val0 X.Wd X.a0 Q 3 := by
  intro γ listed a w o hF hC hW h1 ho h2
  obtain ⟨hd, hop, hg⟩ := fields2 (x := some 8) (y := Op.unOp .not 4 (.tmp 7)) (z := none) (by kernel_rfl) ho
  have e7 : a.eval (.tmp 7) = .bool false := slotG hF ho h2 (j := 2) (d := 7) (by kernel_rfl) (by kernel_rfl) (by rw [ok.sz]; decide)
  refine st_pureG hF hC hW ho h2 (by decide) hd hg rfl ?_
  show _ = Result.ok (Next.value (.bool true)) w
  generalize a.eval = ρ at e7 ⊢
  unfold execOp
  rw [hop]
  simp [e7, go_sem]
theorem SHA.s4 (X : SHA) (ok : SHAOk X) {Q : Exit → Act → World → Prop} : StepG (opsOf 1 Try.f93) SHA.acts SHA.av X.val0 X.Wd X.a0 Q 4 := by
  intro γ listed a w o hF hC hW h1 ho h2
  obtain ⟨hd, hop, hg⟩ := fields2 (x := some 9) (y := Op.move (.tmp 8)) (z := none) (by kernel_rfl) ho
  have e8 : a.eval (.tmp 8) = .bool true := slotG hF ho h2 (j := 3) (d := 8) (by kernel_rfl) (by kernel_rfl) (by rw [ok.sz]; decide)
  refine st_pureG hF hC hW ho h2 (by decide) hd hg rfl ?_
  show _ = Result.ok (Next.value (.bool true)) w
  generalize a.eval = ρ at e8 ⊢
  unfold execOp
  rw [hop]
  simp [e8, go_sem]
theorem SHA.s5 (X : SHA) (ok : SHAOk X) {Q : Exit → Act → World → Prop} : StepG (opsOf 1 Try.f93) SHA.acts SHA.av X.val0 X.Wd X.a0 Q 5 := by
  intro γ listed a w o hF hC hW h1 ho h2
  obtain ⟨hd, hop, hg⟩ := fields2 (x := some 10) (y := Op.fieldAddr 114 (.tmp 1) 1) (z := some (4, false)) (by kernel_rfl) ho
  have eg : a.eval (.tmp 9) = .bool true := slotG hF ho h2 (j := 4) (d := 9) (by kernel_rfl) (by kernel_rfl) (by rw [ok.sz]; decide)
  have hw := wanted_of (ops := (opsOf 1 Try.f93)) hg (yl_of (by kernel_rfl : dstOf (opsOf 1 Try.f93) 4 = some 9) (by rw [hF.tsize, ok.sz]; decide) eg)
  replace hw : Region.wanted o (yielded (opsOf 1 Try.f93) a.tmps) = false := hw
  exact st_skipW hF hC hW ho h2 (by decide) hd hw rfl rfl
theorem SHA.s6 (X : SHA) (ok : SHAOk X) {Q : Exit → Act → World → Prop} : StepG (opsOf 1 Try.f93) SHA.acts SHA.av X.val0 X.Wd X.a0 Q 6 := by
  intro γ listed a w o hF hC hW h1 ho h2
  obtain ⟨hd, hop, hg⟩ := fields2 (x := some 11) (y := Op.load 55 (.tmp 10)) (z := some (4, false)) (by kernel_rfl) ho
  have eg : a.eval (.tmp 9) = .bool true := slotG hF ho h2 (j := 4) (d := 9) (by kernel_rfl) (by kernel_rfl) (by rw [ok.sz]; decide)
  have hw := wanted_of (ops := (opsOf 1 Try.f93)) hg (yl_of (by kernel_rfl : dstOf (opsOf 1 Try.f93) 4 = some 9) (by rw [hF.tsize, ok.sz]; decide) eg)
  replace hw : Region.wanted o (yielded (opsOf 1 Try.f93) a.tmps) = false := hw
  exact st_skipW hF hC hW ho h2 (by decide) hd hw rfl rfl
theorem SHA.s7 (X : SHA) (ok : SHAOk X) {Q : Exit → Act → World → Prop} : StepG (opsOf 1 Try.f93) SHA.acts SHA.av X.val0 X.Wd X.a0 Q 7 := by
  intro γ listed a w o hF hC hW h1 ho h2
  obtain ⟨hd, hop, hg⟩ := fields2 (x := some 12) (y := Op.call { callee := .builtin .len, args := #[(.tmp 11)], argTypes := #[55] }) (z := some (4, false)) (by kernel_rfl) ho
  have eg : a.eval (.tmp 9) = .bool true := slotG hF ho h2 (j := 4) (d := 9) (by kernel_rfl) (by kernel_rfl) (by rw [ok.sz]; decide)
  have hw := wanted_of (ops := (opsOf 1 Try.f93)) hg (yl_of (by kernel_rfl : dstOf (opsOf 1 Try.f93) 4 = some 9) (by rw [hF.tsize, ok.sz]; decide) eg)
  replace hw : Region.wanted o (yielded (opsOf 1 Try.f93) a.tmps) = false := hw
  exact st_skipW hF hC hW ho h2 (by decide) hd hw rfl rfl
theorem SHA.s8 (X : SHA) (ok : SHAOk X) {Q : Exit → Act → World → Prop} : StepG (opsOf 1 Try.f93) SHA.acts SHA.av X.val0 X.Wd X.a0 Q 8 := by
  intro γ listed a w o hF hC hW h1 ho h2
  obtain ⟨hd, hop, hg⟩ := fields2 (x := some 13) (y := Op.fieldAddr 114 (.tmp 1) 0) (z := some (4, false)) (by kernel_rfl) ho
  have eg : a.eval (.tmp 9) = .bool true := slotG hF ho h2 (j := 4) (d := 9) (by kernel_rfl) (by kernel_rfl) (by rw [ok.sz]; decide)
  have hw := wanted_of (ops := (opsOf 1 Try.f93)) hg (yl_of (by kernel_rfl : dstOf (opsOf 1 Try.f93) 4 = some 9) (by rw [hF.tsize, ok.sz]; decide) eg)
  replace hw : Region.wanted o (yielded (opsOf 1 Try.f93) a.tmps) = false := hw
  exact st_skipW hF hC hW ho h2 (by decide) hd hw rfl rfl
theorem SHA.s9 (X : SHA) (ok : SHAOk X) {Q : Exit → Act → World → Prop} : StepG (opsOf 1 Try.f93) SHA.acts SHA.av X.val0 X.Wd X.a0 Q 9 := by
  intro γ listed a w o hF hC hW h1 ho h2
  obtain ⟨hd, hop, hg⟩ := fields2 (x := some 14) (y := Op.load 112 (.tmp 13)) (z := some (4, false)) (by kernel_rfl) ho
  have eg : a.eval (.tmp 9) = .bool true := slotG hF ho h2 (j := 4) (d := 9) (by kernel_rfl) (by kernel_rfl) (by rw [ok.sz]; decide)
  have hw := wanted_of (ops := (opsOf 1 Try.f93)) hg (yl_of (by kernel_rfl : dstOf (opsOf 1 Try.f93) 4 = some 9) (by rw [hF.tsize, ok.sz]; decide) eg)
  replace hw : Region.wanted o (yielded (opsOf 1 Try.f93) a.tmps) = false := hw
  exact st_skipW hF hC hW ho h2 (by decide) hd hw rfl rfl
theorem SHA.s10 (X : SHA) (ok : SHAOk X) {Q : Exit → Act → World → Prop} : StepG (opsOf 1 Try.f93) SHA.acts SHA.av X.val0 X.Wd X.a0 Q 10 := by
  intro γ listed a w o hF hC hW h1 ho h2
  obtain ⟨hd, hop, hg⟩ := fields2 (x := some 15) (y := Op.call { callee := .value (.func 85), args := #[(.tmp 14)], argTypes := #[112] }) (z := some (4, false)) (by kernel_rfl) ho
  have eg : a.eval (.tmp 9) = .bool true := slotG hF ho h2 (j := 4) (d := 9) (by kernel_rfl) (by kernel_rfl) (by rw [ok.sz]; decide)
  have hw := wanted_of (ops := (opsOf 1 Try.f93)) hg (yl_of (by kernel_rfl : dstOf (opsOf 1 Try.f93) 4 = some 9) (by rw [hF.tsize, ok.sz]; decide) eg)
  replace hw : Region.wanted o (yielded (opsOf 1 Try.f93) a.tmps) = false := hw
  exact st_skipW hF hC hW ho h2 (by decide) hd hw rfl rfl
theorem SHA.s11 (X : SHA) (ok : SHAOk X) {Q : Exit → Act → World → Prop} : StepG (opsOf 1 Try.f93) SHA.acts SHA.av X.val0 X.Wd X.a0 Q 11 := by
  intro γ listed a w o hF hC hW h1 ho h2
  obtain ⟨hd, hop, hg⟩ := fields2 (x := some 16) (y := Op.binOp .neq 3 (.tmp 12) (.tmp 15) 3) (z := some (4, false)) (by kernel_rfl) ho
  have eg : a.eval (.tmp 9) = .bool true := slotG hF ho h2 (j := 4) (d := 9) (by kernel_rfl) (by kernel_rfl) (by rw [ok.sz]; decide)
  have hw := wanted_of (ops := (opsOf 1 Try.f93)) hg (yl_of (by kernel_rfl : dstOf (opsOf 1 Try.f93) 4 = some 9) (by rw [hF.tsize, ok.sz]; decide) eg)
  replace hw : Region.wanted o (yielded (opsOf 1 Try.f93) a.tmps) = false := hw
  exact st_skipW hF hC hW ho h2 (by decide) hd hw rfl rfl
theorem SHA.s12 (X : SHA) (ok : SHAOk X) {Q : Exit → Act → World → Prop} : StepG (opsOf 1 Try.f93) SHA.acts SHA.av X.val0 X.Wd X.a0 Q 12 := by
  intro γ listed a w o hF hC hW h1 ho h2
  obtain ⟨hd, hop, hg⟩ := fields2 (x := some 17) (y := Op.pick (.tmp 9) (.const (.bool true)) (.tmp 16)) (z := none) (by kernel_rfl) ho
  have e9 : a.eval (.tmp 9) = .bool true := slotG hF ho h2 (j := 4) (d := 9) (by kernel_rfl) (by kernel_rfl) (by rw [ok.sz]; decide)
  have ec1 : a.eval (.const (.bool true)) = .bool true := rfl
  have e16 : a.eval (.tmp 16) = undef := slotG hF ho h2 (j := 11) (d := 16) (by kernel_rfl) (by kernel_rfl) (by rw [ok.sz]; decide)
  refine st_pureG hF hC hW ho h2 (by decide) hd hg rfl ?_
  show _ = Result.ok (Next.value (.bool true)) w
  generalize a.eval = ρ at e9 ec1 e16 ⊢
  unfold execOp
  rw [hop]
  simp [e9, ec1, e16, go_sem]
theorem SHA.size : (opsOf 1 Try.f93).size = 13 := by kernel_rfl
theorem SHA.steps (X : SHA) (ok : SHAOk X) {Q : Exit → Act → World → Prop} (i : Nat) (hi : i < (opsOf 1 Try.f93).size) : StepG (opsOf 1 Try.f93) SHA.acts SHA.av X.val0 X.Wd X.a0 Q i := by
  rw [SHA.size] at hi
  have hc : i = 0 ∨ i = 1 ∨ i = 2 ∨ i = 3 ∨ i = 4 ∨ i = 5 ∨ i = 6 ∨ i = 7 ∨ i = 8 ∨ i = 9 ∨ i = 10 ∨ i = 11 ∨ i = 12 := by omega
  rcases hc with rfl | rfl | rfl | rfl | rfl | rfl | rfl | rfl | rfl | rfl | rfl | rfl | rfl
  · exact SHA.s0 X ok
  · exact SHA.s1 X ok
  · exact SHA.s2 X ok
  · exact SHA.s3 X ok
  · exact SHA.s4 X ok
  · exact SHA.s5 X ok
  · exact SHA.s6 X ok
  · exact SHA.s7 X ok
  · exact SHA.s8 X ok
  · exact SHA.s9 X ok
  · exact SHA.s10 X ok
  · exact SHA.s11 X ok
  · exact SHA.s12 X ok
theorem SHA.puts (X : SHA) (γ : Nat → Value) (a0 : Act) : putsL (valG SHA.av X.val0 γ) (opsOf 1 Try.f93).toList a0 = (((((((((((((a0.put (some 5) (.pointer (some ⟨X.b, 0, none⟩))).put (some 6) (.agg #[.int .i64 X.pw, .int .i64 X.ph])).put (some 7) (.bool false)).put (some 8) (.bool true)).put (some 9) (.bool true)).put (some 10) (undef)).put (some 11) (undef)).put (some 12) (undef)).put (some 13) (undef)).put (some 14) (undef)).put (some 15) (undef)).put (some 16) (undef)).put (some 17) (.bool true)) := by kernel_rfl
/-- The region, whatever order comes up. -/
theorem SHA.run (X : SHA) (ok : SHAOk X) {Q : Exit → Act → World → Prop} (w : World) (h0 : X.Wd 0 (fun _ => undef) w.drew) (hend : ∀ (γ : Nat → Value) w', X.Wd 0 γ w' → Q .normal (((((((((((((X.a0.put (some 5) (.pointer (some ⟨X.b, 0, none⟩))).put (some 6) (.agg #[.int .i64 X.pw, .int .i64 X.ph])).put (some 7) (.bool false)).put (some 8) (.bool true)).put (some 9) (.bool true)).put (some 10) (undef)).put (some 11) (undef)).put (some 12) (undef)).put (some 13) (undef)).put (some 14) (undef)).put (some 15) (undef)).put (some 16) (undef)).put (some 17) (.bool true)) w') : (Code.region 1 (opsOf 1 Try.f93) true).wp Try.prog Q X.a0 w := by
  refine reg_act (acts := SHA.acts) (av := SHA.av) (val0 := X.val0) (Wd := X.Wd) (by kernel_rfl) (by kernel_rfl) (by rw [SHA.size]; decide) (fun i hi => SHA.steps X ok i hi) _ h0 ?_
  intro γ w' h
  rw [SHA.puts]
  exact hend γ w' h
structure SHB where
  b : Nat
  pw : Int
  ph : Int
  a : Option Addr
  n : Nat
  c : Nat
  W : World
  a0 : Act
structure SHBOk (X : SHB) : Prop where
  c0 : X.W.cell? ⟨X.b, 0, none⟩ = some (.int .i64 X.pw)
  c1 : X.W.cell? ⟨X.b, 1, none⟩ = some (.int .i64 X.ph)
  c2 : X.W.cell? ⟨X.b, 2, none⟩ = some (.slice X.a X.n X.c)
  h1 : (sdB X.pw && sdB X.ph) = true
  hm : 1 ≤ X.pw * X.ph ∧ X.pw * X.ph ≤ 1296
  hv : ((X.n : Int) != X.pw * X.ph) = true
  e1 : X.a0.eval (.tmp 1) = .pointer (some ⟨X.b, 0, none⟩)
  sz : X.a0.tmps.size = 29
def SHB.val0 (X : SHB) : Nat → Value
  | 5 => .pointer (some ⟨X.b, 0, none⟩)
  | 6 => .agg #[.int .i64 X.pw, .int .i64 X.ph]
  | 7 => .bool true
  | 8 => .bool false
  | 9 => .bool false
  | 10 => .pointer (some ⟨X.b, 2, none⟩)
  | 11 => .slice X.a X.n X.c
  | 12 => .int .i64 (X.n : Int)
  | 13 => .pointer (some ⟨X.b, 0, none⟩)
  | 14 => .agg #[.int .i64 X.pw, .int .i64 X.ph]
  | 15 => .int .i64 (X.pw * X.ph)
  | 16 => .bool true
  | 17 => .bool true
  | _ => undef
def SHB.av : Nat → Option Nat
  | _ => none
def SHB.acts : List Nat := []
/-- The world, by how many of the acting ones have come up. -/
def SHB.Wd (X : SHB) : Nat → (Nat → Value) → World → Prop
  | _, _, w => Kp X.W w
theorem SHB.kp {X : SHB} {n : Nat} {γ : Nat → Value} {w : World} (h : X.Wd n γ w) : Kp X.W w := h
theorem SHB.keep {X : SHB} {n : Nat} {γ : Nat → Value} {w w' : World} (h : X.Wd n γ w) (k : Kp w w') : X.Wd n γ w' := Kp.trans h k
theorem SHB.chain : chainG (opsOf 1 Try.f93) SHB.acts = true := by kernel_rfl
theorem SHB.nodup : SHB.acts.Nodup := by decide
theorem SHB.inj {listed : Array Bool} {i k : Nat} (h : (List.range (opsOf 1 Try.f93).size).all (fun j => decide (j = i) || !(match dstOf (opsOf 1 Try.f93) j with | some d => decide (SHB.av d = some k) | none => false)) = true) (hu : listed.getD i false = false) : ∀ d, got (opsOf 1 Try.f93) listed d → SHB.av d ≠ some k := by
  rintro d ⟨j, h1, h2⟩ h3
  have hlt : j < (opsOf 1 Try.f93).size := by
    rcases Nat.lt_or_ge j (opsOf 1 Try.f93).size with h4 | h4
    · exact h4
    · unfold dstOf at h2; rw [Array.getElem?_eq_none h4] at h2; cases h2
  have h5 := List.all_eq_true.1 h j (List.mem_range.2 hlt)
  rw [h2] at h5
  simp only [h3, decide_true, Bool.not_true, Bool.or_false, decide_eq_true_eq] at h5
  subst h5
  rw [hu] at h1
  cases h1
theorem SHB.s0 (X : SHB) (ok : SHBOk X) {Q : Exit → Act → World → Prop} : StepG (opsOf 1 Try.f93) SHB.acts SHB.av X.val0 X.Wd X.a0 Q 0 := by
  intro γ listed a w o hF hC hW h1 ho h2
  obtain ⟨hd, hop, hg⟩ := fields2 (x := some 5) (y := Op.fieldAddr 114 (.tmp 1) 0) (z := none) (by kernel_rfl) ho
  have e1 : a.eval (.tmp 1) = .pointer (some ⟨X.b, 0, none⟩) := (hF.eval0 (by kernel_rfl)).trans ok.e1
  refine st_pureG hF hC hW ho h2 (by decide) hd hg rfl ?_
  show _ = Result.ok (Next.value (.pointer (some ⟨X.b, 0, none⟩))) w
  generalize a.eval = ρ at e1 ⊢
  unfold execOp
  rw [hop]
  simp [e1, go_sem]
theorem SHB.s1 (X : SHB) (ok : SHBOk X) {Q : Exit → Act → World → Prop} : StepG (opsOf 1 Try.f93) SHB.acts SHB.av X.val0 X.Wd X.a0 Q 1 := by
  intro γ listed a w o hF hC hW h1 ho h2
  obtain ⟨hd, hop, hg⟩ := fields2 (x := some 6) (y := Op.load 112 (.tmp 5)) (z := none) (by kernel_rfl) ho
  have e5 : a.eval (.tmp 5) = .pointer (some ⟨X.b, 0, none⟩) := slotG hF ho h2 (j := 0) (d := 5) (by kernel_rfl) (by kernel_rfl) (by rw [ok.sz]; decide)
  have hc0 := rq_at (SHB.kp hW) ok.c0
  have hc1 := rq_at (SHB.kp hW) ok.c1
  refine st_pureG hF hC hW ho h2 (by decide) hd hg rfl ?_
  show _ = Result.ok (Next.value (.agg #[.int .i64 X.pw, .int .i64 X.ph])) w
  generalize a.eval = ρ at e5 ⊢
  unfold execOp
  rw [hop]
  simp [e5, hc0, hc1, go_sem]
theorem SHB.s2 (X : SHB) (ok : SHBOk X) {Q : Exit → Act → World → Prop} : StepG (opsOf 1 Try.f93) SHB.acts SHB.av X.val0 X.Wd X.a0 Q 2 := by
  intro γ listed a w o hF hC hW h1 ho h2
  obtain ⟨hd, hop, hg⟩ := fields2 (x := some 7) (y := Op.call { callee := .value (.func 84), args := #[(.tmp 6)], argTypes := #[112] }) (z := none) (by kernel_rfl) ho
  have e6 : a.eval (.tmp 6) = .agg #[.int .i64 X.pw, .int .i64 X.ph] := slotG hF ho h2 (j := 1) (d := 6) (by kernel_rfl) (by kernel_rfl) (by rw [ok.sz]; decide)
  have ef : a.eval (.func 84) = .func (.func 84) #[] #[] := rfl
  refine st_callG hF hC hW ho h2 (by decide) hd hg rfl (f := 84) (args := #[.agg #[.int .i64 X.pw, .int .i64 X.ph]]) ?_ ?_ ?_
  · generalize a.eval = ρ at e6 ef ⊢
    unfold execOp
    rw [hop]
    simp [e6, ef, go_sem]
  · exact sides_k ok.h1 w
  · intro w' hk; exact SHB.keep hW hk
theorem SHB.s3 (X : SHB) (ok : SHBOk X) {Q : Exit → Act → World → Prop} : StepG (opsOf 1 Try.f93) SHB.acts SHB.av X.val0 X.Wd X.a0 Q 3 := by
  intro γ listed a w o hF hC hW h1 ho h2
  obtain ⟨hd, hop, hg⟩ := fields2 (x := some 8) (y := Op.unOp .not 4 (.tmp 7)) (z := none) (by kernel_rfl) ho
  have e7 : a.eval (.tmp 7) = .bool true := slotG hF ho h2 (j := 2) (d := 7) (by kernel_rfl) (by kernel_rfl) (by rw [ok.sz]; decide)
  refine st_pureG hF hC hW ho h2 (by decide) hd hg rfl ?_
  show _ = Result.ok (Next.value (.bool false)) w
  generalize a.eval = ρ at e7 ⊢
  unfold execOp
  rw [hop]
  simp [e7, go_sem]
theorem SHB.s4 (X : SHB) (ok : SHBOk X) {Q : Exit → Act → World → Prop} : StepG (opsOf 1 Try.f93) SHB.acts SHB.av X.val0 X.Wd X.a0 Q 4 := by
  intro γ listed a w o hF hC hW h1 ho h2
  obtain ⟨hd, hop, hg⟩ := fields2 (x := some 9) (y := Op.move (.tmp 8)) (z := none) (by kernel_rfl) ho
  have e8 : a.eval (.tmp 8) = .bool false := slotG hF ho h2 (j := 3) (d := 8) (by kernel_rfl) (by kernel_rfl) (by rw [ok.sz]; decide)
  refine st_pureG hF hC hW ho h2 (by decide) hd hg rfl ?_
  show _ = Result.ok (Next.value (.bool false)) w
  generalize a.eval = ρ at e8 ⊢
  unfold execOp
  rw [hop]
  simp [e8, go_sem]
theorem SHB.s5 (X : SHB) (ok : SHBOk X) {Q : Exit → Act → World → Prop} : StepG (opsOf 1 Try.f93) SHB.acts SHB.av X.val0 X.Wd X.a0 Q 5 := by
  intro γ listed a w o hF hC hW h1 ho h2
  obtain ⟨hd, hop, hg⟩ := fields2 (x := some 10) (y := Op.fieldAddr 114 (.tmp 1) 1) (z := some (4, false)) (by kernel_rfl) ho
  have eg : a.eval (.tmp 9) = .bool false := slotG hF ho h2 (j := 4) (d := 9) (by kernel_rfl) (by kernel_rfl) (by rw [ok.sz]; decide)
  have hw := wanted_of (ops := (opsOf 1 Try.f93)) hg (yl_of (by kernel_rfl : dstOf (opsOf 1 Try.f93) 4 = some 9) (by rw [hF.tsize, ok.sz]; decide) eg)
  replace hw : Region.wanted o (yielded (opsOf 1 Try.f93) a.tmps) = true := hw
  have e1 : a.eval (.tmp 1) = .pointer (some ⟨X.b, 0, none⟩) := (hF.eval0 (by kernel_rfl)).trans ok.e1
  refine st_pureW hF hC hW ho h2 (by decide) hd hw rfl ?_
  show _ = Result.ok (Next.value (.pointer (some ⟨X.b, 2, none⟩))) w
  generalize a.eval = ρ at e1 ⊢
  unfold execOp
  rw [hop]
  simp [e1, go_sem]
theorem SHB.s6 (X : SHB) (ok : SHBOk X) {Q : Exit → Act → World → Prop} : StepG (opsOf 1 Try.f93) SHB.acts SHB.av X.val0 X.Wd X.a0 Q 6 := by
  intro γ listed a w o hF hC hW h1 ho h2
  obtain ⟨hd, hop, hg⟩ := fields2 (x := some 11) (y := Op.load 55 (.tmp 10)) (z := some (4, false)) (by kernel_rfl) ho
  have eg : a.eval (.tmp 9) = .bool false := slotG hF ho h2 (j := 4) (d := 9) (by kernel_rfl) (by kernel_rfl) (by rw [ok.sz]; decide)
  have hw := wanted_of (ops := (opsOf 1 Try.f93)) hg (yl_of (by kernel_rfl : dstOf (opsOf 1 Try.f93) 4 = some 9) (by rw [hF.tsize, ok.sz]; decide) eg)
  replace hw : Region.wanted o (yielded (opsOf 1 Try.f93) a.tmps) = true := hw
  have e10 : a.eval (.tmp 10) = .pointer (some ⟨X.b, 2, none⟩) := slotG hF ho h2 (j := 5) (d := 10) (by kernel_rfl) (by kernel_rfl) (by rw [ok.sz]; decide)
  have hc0 := rq_at (SHB.kp hW) ok.c2
  refine st_pureW hF hC hW ho h2 (by decide) hd hw rfl ?_
  show _ = Result.ok (Next.value (.slice X.a X.n X.c)) w
  generalize a.eval = ρ at e10 ⊢
  unfold execOp
  rw [hop]
  simp [e10, hc0, go_sem]
theorem SHB.s7 (X : SHB) (ok : SHBOk X) {Q : Exit → Act → World → Prop} : StepG (opsOf 1 Try.f93) SHB.acts SHB.av X.val0 X.Wd X.a0 Q 7 := by
  intro γ listed a w o hF hC hW h1 ho h2
  obtain ⟨hd, hop, hg⟩ := fields2 (x := some 12) (y := Op.call { callee := .builtin .len, args := #[(.tmp 11)], argTypes := #[55] }) (z := some (4, false)) (by kernel_rfl) ho
  have eg : a.eval (.tmp 9) = .bool false := slotG hF ho h2 (j := 4) (d := 9) (by kernel_rfl) (by kernel_rfl) (by rw [ok.sz]; decide)
  have hw := wanted_of (ops := (opsOf 1 Try.f93)) hg (yl_of (by kernel_rfl : dstOf (opsOf 1 Try.f93) 4 = some 9) (by rw [hF.tsize, ok.sz]; decide) eg)
  replace hw : Region.wanted o (yielded (opsOf 1 Try.f93) a.tmps) = true := hw
  have e11 : a.eval (.tmp 11) = .slice X.a X.n X.c := slotG hF ho h2 (j := 6) (d := 11) (by kernel_rfl) (by kernel_rfl) (by rw [ok.sz]; decide)
  refine st_pureW hF hC hW ho h2 (by decide) hd hw rfl ?_
  show _ = Result.ok (Next.value (.int .i64 (X.n : Int))) w
  generalize a.eval = ρ at e11 ⊢
  unfold execOp
  rw [hop]
  simp [e11, go_sem]
theorem SHB.s8 (X : SHB) (ok : SHBOk X) {Q : Exit → Act → World → Prop} : StepG (opsOf 1 Try.f93) SHB.acts SHB.av X.val0 X.Wd X.a0 Q 8 := by
  intro γ listed a w o hF hC hW h1 ho h2
  obtain ⟨hd, hop, hg⟩ := fields2 (x := some 13) (y := Op.fieldAddr 114 (.tmp 1) 0) (z := some (4, false)) (by kernel_rfl) ho
  have eg : a.eval (.tmp 9) = .bool false := slotG hF ho h2 (j := 4) (d := 9) (by kernel_rfl) (by kernel_rfl) (by rw [ok.sz]; decide)
  have hw := wanted_of (ops := (opsOf 1 Try.f93)) hg (yl_of (by kernel_rfl : dstOf (opsOf 1 Try.f93) 4 = some 9) (by rw [hF.tsize, ok.sz]; decide) eg)
  replace hw : Region.wanted o (yielded (opsOf 1 Try.f93) a.tmps) = true := hw
  have e1 : a.eval (.tmp 1) = .pointer (some ⟨X.b, 0, none⟩) := (hF.eval0 (by kernel_rfl)).trans ok.e1
  refine st_pureW hF hC hW ho h2 (by decide) hd hw rfl ?_
  show _ = Result.ok (Next.value (.pointer (some ⟨X.b, 0, none⟩))) w
  generalize a.eval = ρ at e1 ⊢
  unfold execOp
  rw [hop]
  simp [e1, go_sem]
theorem SHB.s9 (X : SHB) (ok : SHBOk X) {Q : Exit → Act → World → Prop} : StepG (opsOf 1 Try.f93) SHB.acts SHB.av X.val0 X.Wd X.a0 Q 9 := by
  intro γ listed a w o hF hC hW h1 ho h2
  obtain ⟨hd, hop, hg⟩ := fields2 (x := some 14) (y := Op.load 112 (.tmp 13)) (z := some (4, false)) (by kernel_rfl) ho
  have eg : a.eval (.tmp 9) = .bool false := slotG hF ho h2 (j := 4) (d := 9) (by kernel_rfl) (by kernel_rfl) (by rw [ok.sz]; decide)
  have hw := wanted_of (ops := (opsOf 1 Try.f93)) hg (yl_of (by kernel_rfl : dstOf (opsOf 1 Try.f93) 4 = some 9) (by rw [hF.tsize, ok.sz]; decide) eg)
  replace hw : Region.wanted o (yielded (opsOf 1 Try.f93) a.tmps) = true := hw
  have e13 : a.eval (.tmp 13) = .pointer (some ⟨X.b, 0, none⟩) := slotG hF ho h2 (j := 8) (d := 13) (by kernel_rfl) (by kernel_rfl) (by rw [ok.sz]; decide)
  have hc0 := rq_at (SHB.kp hW) ok.c0
  have hc1 := rq_at (SHB.kp hW) ok.c1
  refine st_pureW hF hC hW ho h2 (by decide) hd hw rfl ?_
  show _ = Result.ok (Next.value (.agg #[.int .i64 X.pw, .int .i64 X.ph])) w
  generalize a.eval = ρ at e13 ⊢
  unfold execOp
  rw [hop]
  simp [e13, hc0, hc1, go_sem]
theorem SHB.s10 (X : SHB) (ok : SHBOk X) {Q : Exit → Act → World → Prop} : StepG (opsOf 1 Try.f93) SHB.acts SHB.av X.val0 X.Wd X.a0 Q 10 := by
  intro γ listed a w o hF hC hW h1 ho h2
  obtain ⟨hd, hop, hg⟩ := fields2 (x := some 15) (y := Op.call { callee := .value (.func 85), args := #[(.tmp 14)], argTypes := #[112] }) (z := some (4, false)) (by kernel_rfl) ho
  have eg : a.eval (.tmp 9) = .bool false := slotG hF ho h2 (j := 4) (d := 9) (by kernel_rfl) (by kernel_rfl) (by rw [ok.sz]; decide)
  have hw := wanted_of (ops := (opsOf 1 Try.f93)) hg (yl_of (by kernel_rfl : dstOf (opsOf 1 Try.f93) 4 = some 9) (by rw [hF.tsize, ok.sz]; decide) eg)
  replace hw : Region.wanted o (yielded (opsOf 1 Try.f93) a.tmps) = true := hw
  have e14 : a.eval (.tmp 14) = .agg #[.int .i64 X.pw, .int .i64 X.ph] := slotG hF ho h2 (j := 9) (d := 14) (by kernel_rfl) (by kernel_rfl) (by rw [ok.sz]; decide)
  have ef : a.eval (.func 85) = .func (.func 85) #[] #[] := rfl
  refine st_callW hF hC hW ho h2 (by decide) hd hw rfl (f := 85) (args := #[.agg #[.int .i64 X.pw, .int .i64 X.ph]]) ?_ ?_ ?_
  · generalize a.eval = ρ at e14 ef ⊢
    unfold execOp
    rw [hop]
    simp [e14, ef, go_sem]
  · exact icount w _ _ ok.hm
  · intro w' hk; exact SHB.keep hW hk
theorem SHB.s11 (X : SHB) (ok : SHBOk X) {Q : Exit → Act → World → Prop} : StepG (opsOf 1 Try.f93) SHB.acts SHB.av X.val0 X.Wd X.a0 Q 11 := by
  intro γ listed a w o hF hC hW h1 ho h2
  obtain ⟨hd, hop, hg⟩ := fields2 (x := some 16) (y := Op.binOp .neq 3 (.tmp 12) (.tmp 15) 3) (z := some (4, false)) (by kernel_rfl) ho
  have eg : a.eval (.tmp 9) = .bool false := slotG hF ho h2 (j := 4) (d := 9) (by kernel_rfl) (by kernel_rfl) (by rw [ok.sz]; decide)
  have hw := wanted_of (ops := (opsOf 1 Try.f93)) hg (yl_of (by kernel_rfl : dstOf (opsOf 1 Try.f93) 4 = some 9) (by rw [hF.tsize, ok.sz]; decide) eg)
  replace hw : Region.wanted o (yielded (opsOf 1 Try.f93) a.tmps) = true := hw
  have e12 : a.eval (.tmp 12) = .int .i64 (X.n : Int) := slotG hF ho h2 (j := 7) (d := 12) (by kernel_rfl) (by kernel_rfl) (by rw [ok.sz]; decide)
  have e15 : a.eval (.tmp 15) = .int .i64 (X.pw * X.ph) := slotG hF ho h2 (j := 10) (d := 15) (by kernel_rfl) (by kernel_rfl) (by rw [ok.sz]; decide)
  refine st_pureW hF hC hW ho h2 (by decide) hd hw rfl ?_
  show _ = Result.ok (Next.value (.bool true)) w
  generalize a.eval = ρ at e12 e15 ⊢
  unfold execOp
  rw [hop]
  simp [e12, e15, ok.hv, go_sem]
theorem SHB.s12 (X : SHB) (ok : SHBOk X) {Q : Exit → Act → World → Prop} : StepG (opsOf 1 Try.f93) SHB.acts SHB.av X.val0 X.Wd X.a0 Q 12 := by
  intro γ listed a w o hF hC hW h1 ho h2
  obtain ⟨hd, hop, hg⟩ := fields2 (x := some 17) (y := Op.pick (.tmp 9) (.const (.bool true)) (.tmp 16)) (z := none) (by kernel_rfl) ho
  have e9 : a.eval (.tmp 9) = .bool false := slotG hF ho h2 (j := 4) (d := 9) (by kernel_rfl) (by kernel_rfl) (by rw [ok.sz]; decide)
  have ec1 : a.eval (.const (.bool true)) = .bool true := rfl
  have e16 : a.eval (.tmp 16) = .bool true := slotG hF ho h2 (j := 11) (d := 16) (by kernel_rfl) (by kernel_rfl) (by rw [ok.sz]; decide)
  refine st_pureG hF hC hW ho h2 (by decide) hd hg rfl ?_
  show _ = Result.ok (Next.value (.bool true)) w
  generalize a.eval = ρ at e9 ec1 e16 ⊢
  unfold execOp
  rw [hop]
  simp [e9, ec1, e16, go_sem]
theorem SHB.size : (opsOf 1 Try.f93).size = 13 := by kernel_rfl
theorem SHB.steps (X : SHB) (ok : SHBOk X) {Q : Exit → Act → World → Prop} (i : Nat) (hi : i < (opsOf 1 Try.f93).size) : StepG (opsOf 1 Try.f93) SHB.acts SHB.av X.val0 X.Wd X.a0 Q i := by
  rw [SHB.size] at hi
  have hc : i = 0 ∨ i = 1 ∨ i = 2 ∨ i = 3 ∨ i = 4 ∨ i = 5 ∨ i = 6 ∨ i = 7 ∨ i = 8 ∨ i = 9 ∨ i = 10 ∨ i = 11 ∨ i = 12 := by omega
  rcases hc with rfl | rfl | rfl | rfl | rfl | rfl | rfl | rfl | rfl | rfl | rfl | rfl | rfl
  · exact SHB.s0 X ok
  · exact SHB.s1 X ok
  · exact SHB.s2 X ok
  · exact SHB.s3 X ok
  · exact SHB.s4 X ok
  · exact SHB.s5 X ok
  · exact SHB.s6 X ok
  · exact SHB.s7 X ok
  · exact SHB.s8 X ok
  · exact SHB.s9 X ok
  · exact SHB.s10 X ok
  · exact SHB.s11 X ok
  · exact SHB.s12 X ok
theorem SHB.puts (X : SHB) (γ : Nat → Value) (a0 : Act) : putsL (valG SHB.av X.val0 γ) (opsOf 1 Try.f93).toList a0 = (((((((((((((a0.put (some 5) (.pointer (some ⟨X.b, 0, none⟩))).put (some 6) (.agg #[.int .i64 X.pw, .int .i64 X.ph])).put (some 7) (.bool true)).put (some 8) (.bool false)).put (some 9) (.bool false)).put (some 10) (.pointer (some ⟨X.b, 2, none⟩))).put (some 11) (.slice X.a X.n X.c)).put (some 12) (.int .i64 (X.n : Int))).put (some 13) (.pointer (some ⟨X.b, 0, none⟩))).put (some 14) (.agg #[.int .i64 X.pw, .int .i64 X.ph])).put (some 15) (.int .i64 (X.pw * X.ph))).put (some 16) (.bool true)).put (some 17) (.bool true)) := by kernel_rfl
/-- The region, whatever order comes up. -/
theorem SHB.run (X : SHB) (ok : SHBOk X) {Q : Exit → Act → World → Prop} (w : World) (h0 : X.Wd 0 (fun _ => undef) w.drew) (hend : ∀ (γ : Nat → Value) w', X.Wd 0 γ w' → Q .normal (((((((((((((X.a0.put (some 5) (.pointer (some ⟨X.b, 0, none⟩))).put (some 6) (.agg #[.int .i64 X.pw, .int .i64 X.ph])).put (some 7) (.bool true)).put (some 8) (.bool false)).put (some 9) (.bool false)).put (some 10) (.pointer (some ⟨X.b, 2, none⟩))).put (some 11) (.slice X.a X.n X.c)).put (some 12) (.int .i64 (X.n : Int))).put (some 13) (.pointer (some ⟨X.b, 0, none⟩))).put (some 14) (.agg #[.int .i64 X.pw, .int .i64 X.ph])).put (some 15) (.int .i64 (X.pw * X.ph))).put (some 16) (.bool true)).put (some 17) (.bool true)) w') : (Code.region 1 (opsOf 1 Try.f93) true).wp Try.prog Q X.a0 w := by
  refine reg_act (acts := SHB.acts) (av := SHB.av) (val0 := X.val0) (Wd := X.Wd) (by kernel_rfl) (by kernel_rfl) (by rw [SHB.size]; decide) (fun i hi => SHB.steps X ok i hi) _ h0 ?_
  intro γ w' h
  rw [SHB.puts]
  exact hend γ w' h
structure SHC where
  b : Nat
  pw : Int
  ph : Int
  a : Option Addr
  n : Nat
  c : Nat
  W : World
  a0 : Act
structure SHCOk (X : SHC) : Prop where
  c0 : X.W.cell? ⟨X.b, 0, none⟩ = some (.int .i64 X.pw)
  c1 : X.W.cell? ⟨X.b, 1, none⟩ = some (.int .i64 X.ph)
  c2 : X.W.cell? ⟨X.b, 2, none⟩ = some (.slice X.a X.n X.c)
  h1 : (sdB X.pw && sdB X.ph) = true
  hm : 1 ≤ X.pw * X.ph ∧ X.pw * X.ph ≤ 1296
  hv : ((X.n : Int) != X.pw * X.ph) = false
  e1 : X.a0.eval (.tmp 1) = .pointer (some ⟨X.b, 0, none⟩)
  sz : X.a0.tmps.size = 29
def SHC.val0 (X : SHC) : Nat → Value
  | 5 => .pointer (some ⟨X.b, 0, none⟩)
  | 6 => .agg #[.int .i64 X.pw, .int .i64 X.ph]
  | 7 => .bool true
  | 8 => .bool false
  | 9 => .bool false
  | 10 => .pointer (some ⟨X.b, 2, none⟩)
  | 11 => .slice X.a X.n X.c
  | 12 => .int .i64 (X.n : Int)
  | 13 => .pointer (some ⟨X.b, 0, none⟩)
  | 14 => .agg #[.int .i64 X.pw, .int .i64 X.ph]
  | 15 => .int .i64 (X.pw * X.ph)
  | 16 => .bool false
  | 17 => .bool false
  | _ => undef
def SHC.av : Nat → Option Nat
  | _ => none
def SHC.acts : List Nat := []
/-- The world, by how many of the acting ones have come up. -/
def SHC.Wd (X : SHC) : Nat → (Nat → Value) → World → Prop
  | _, _, w => Kp X.W w
theorem SHC.kp {X : SHC} {n : Nat} {γ : Nat → Value} {w : World} (h : X.Wd n γ w) : Kp X.W w := h
theorem SHC.keep {X : SHC} {n : Nat} {γ : Nat → Value} {w w' : World} (h : X.Wd n γ w) (k : Kp w w') : X.Wd n γ w' := Kp.trans h k
theorem SHC.chain : chainG (opsOf 1 Try.f93) SHC.acts = true := by kernel_rfl
theorem SHC.nodup : SHC.acts.Nodup := by decide
theorem SHC.inj {listed : Array Bool} {i k : Nat} (h : (List.range (opsOf 1 Try.f93).size).all (fun j => decide (j = i) || !(match dstOf (opsOf 1 Try.f93) j with | some d => decide (SHC.av d = some k) | none => false)) = true) (hu : listed.getD i false = false) : ∀ d, got (opsOf 1 Try.f93) listed d → SHC.av d ≠ some k := by
  rintro d ⟨j, h1, h2⟩ h3
  have hlt : j < (opsOf 1 Try.f93).size := by
    rcases Nat.lt_or_ge j (opsOf 1 Try.f93).size with h4 | h4
    · exact h4
    · unfold dstOf at h2; rw [Array.getElem?_eq_none h4] at h2; cases h2
  have h5 := List.all_eq_true.1 h j (List.mem_range.2 hlt)
  rw [h2] at h5
  simp only [h3, decide_true, Bool.not_true, Bool.or_false, decide_eq_true_eq] at h5
  subst h5
  rw [hu] at h1
  cases h1
theorem SHC.s0 (X : SHC) (ok : SHCOk X) {Q : Exit → Act → World → Prop} : StepG (opsOf 1 Try.f93) SHC.acts SHC.av X.val0 X.Wd X.a0 Q 0 := by
  intro γ listed a w o hF hC hW h1 ho h2
  obtain ⟨hd, hop, hg⟩ := fields2 (x := some 5) (y := Op.fieldAddr 114 (.tmp 1) 0) (z := none) (by kernel_rfl) ho
  have e1 : a.eval (.tmp 1) = .pointer (some ⟨X.b, 0, none⟩) := (hF.eval0 (by kernel_rfl)).trans ok.e1
  refine st_pureG hF hC hW ho h2 (by decide) hd hg rfl ?_
  show _ = Result.ok (Next.value (.pointer (some ⟨X.b, 0, none⟩))) w
  generalize a.eval = ρ at e1 ⊢
  unfold execOp
  rw [hop]
  simp [e1, go_sem]
theorem SHC.s1 (X : SHC) (ok : SHCOk X) {Q : Exit → Act → World → Prop} : StepG (opsOf 1 Try.f93) SHC.acts SHC.av X.val0 X.Wd X.a0 Q 1 := by
  intro γ listed a w o hF hC hW h1 ho h2
  obtain ⟨hd, hop, hg⟩ := fields2 (x := some 6) (y := Op.load 112 (.tmp 5)) (z := none) (by kernel_rfl) ho
  have e5 : a.eval (.tmp 5) = .pointer (some ⟨X.b, 0, none⟩) := slotG hF ho h2 (j := 0) (d := 5) (by kernel_rfl) (by kernel_rfl) (by rw [ok.sz]; decide)
  have hc0 := rq_at (SHC.kp hW) ok.c0
  have hc1 := rq_at (SHC.kp hW) ok.c1
  refine st_pureG hF hC hW ho h2 (by decide) hd hg rfl ?_
  show _ = Result.ok (Next.value (.agg #[.int .i64 X.pw, .int .i64 X.ph])) w
  generalize a.eval = ρ at e5 ⊢
  unfold execOp
  rw [hop]
  simp [e5, hc0, hc1, go_sem]
theorem SHC.s2 (X : SHC) (ok : SHCOk X) {Q : Exit → Act → World → Prop} : StepG (opsOf 1 Try.f93) SHC.acts SHC.av X.val0 X.Wd X.a0 Q 2 := by
  intro γ listed a w o hF hC hW h1 ho h2
  obtain ⟨hd, hop, hg⟩ := fields2 (x := some 7) (y := Op.call { callee := .value (.func 84), args := #[(.tmp 6)], argTypes := #[112] }) (z := none) (by kernel_rfl) ho
  have e6 : a.eval (.tmp 6) = .agg #[.int .i64 X.pw, .int .i64 X.ph] := slotG hF ho h2 (j := 1) (d := 6) (by kernel_rfl) (by kernel_rfl) (by rw [ok.sz]; decide)
  have ef : a.eval (.func 84) = .func (.func 84) #[] #[] := rfl
  refine st_callG hF hC hW ho h2 (by decide) hd hg rfl (f := 84) (args := #[.agg #[.int .i64 X.pw, .int .i64 X.ph]]) ?_ ?_ ?_
  · generalize a.eval = ρ at e6 ef ⊢
    unfold execOp
    rw [hop]
    simp [e6, ef, go_sem]
  · exact sides_k ok.h1 w
  · intro w' hk; exact SHC.keep hW hk
theorem SHC.s3 (X : SHC) (ok : SHCOk X) {Q : Exit → Act → World → Prop} : StepG (opsOf 1 Try.f93) SHC.acts SHC.av X.val0 X.Wd X.a0 Q 3 := by
  intro γ listed a w o hF hC hW h1 ho h2
  obtain ⟨hd, hop, hg⟩ := fields2 (x := some 8) (y := Op.unOp .not 4 (.tmp 7)) (z := none) (by kernel_rfl) ho
  have e7 : a.eval (.tmp 7) = .bool true := slotG hF ho h2 (j := 2) (d := 7) (by kernel_rfl) (by kernel_rfl) (by rw [ok.sz]; decide)
  refine st_pureG hF hC hW ho h2 (by decide) hd hg rfl ?_
  show _ = Result.ok (Next.value (.bool false)) w
  generalize a.eval = ρ at e7 ⊢
  unfold execOp
  rw [hop]
  simp [e7, go_sem]
theorem SHC.s4 (X : SHC) (ok : SHCOk X) {Q : Exit → Act → World → Prop} : StepG (opsOf 1 Try.f93) SHC.acts SHC.av X.val0 X.Wd X.a0 Q 4 := by
  intro γ listed a w o hF hC hW h1 ho h2
  obtain ⟨hd, hop, hg⟩ := fields2 (x := some 9) (y := Op.move (.tmp 8)) (z := none) (by kernel_rfl) ho
  have e8 : a.eval (.tmp 8) = .bool false := slotG hF ho h2 (j := 3) (d := 8) (by kernel_rfl) (by kernel_rfl) (by rw [ok.sz]; decide)
  refine st_pureG hF hC hW ho h2 (by decide) hd hg rfl ?_
  show _ = Result.ok (Next.value (.bool false)) w
  generalize a.eval = ρ at e8 ⊢
  unfold execOp
  rw [hop]
  simp [e8, go_sem]
theorem SHC.s5 (X : SHC) (ok : SHCOk X) {Q : Exit → Act → World → Prop} : StepG (opsOf 1 Try.f93) SHC.acts SHC.av X.val0 X.Wd X.a0 Q 5 := by
  intro γ listed a w o hF hC hW h1 ho h2
  obtain ⟨hd, hop, hg⟩ := fields2 (x := some 10) (y := Op.fieldAddr 114 (.tmp 1) 1) (z := some (4, false)) (by kernel_rfl) ho
  have eg : a.eval (.tmp 9) = .bool false := slotG hF ho h2 (j := 4) (d := 9) (by kernel_rfl) (by kernel_rfl) (by rw [ok.sz]; decide)
  have hw := wanted_of (ops := (opsOf 1 Try.f93)) hg (yl_of (by kernel_rfl : dstOf (opsOf 1 Try.f93) 4 = some 9) (by rw [hF.tsize, ok.sz]; decide) eg)
  replace hw : Region.wanted o (yielded (opsOf 1 Try.f93) a.tmps) = true := hw
  have e1 : a.eval (.tmp 1) = .pointer (some ⟨X.b, 0, none⟩) := (hF.eval0 (by kernel_rfl)).trans ok.e1
  refine st_pureW hF hC hW ho h2 (by decide) hd hw rfl ?_
  show _ = Result.ok (Next.value (.pointer (some ⟨X.b, 2, none⟩))) w
  generalize a.eval = ρ at e1 ⊢
  unfold execOp
  rw [hop]
  simp [e1, go_sem]
theorem SHC.s6 (X : SHC) (ok : SHCOk X) {Q : Exit → Act → World → Prop} : StepG (opsOf 1 Try.f93) SHC.acts SHC.av X.val0 X.Wd X.a0 Q 6 := by
  intro γ listed a w o hF hC hW h1 ho h2
  obtain ⟨hd, hop, hg⟩ := fields2 (x := some 11) (y := Op.load 55 (.tmp 10)) (z := some (4, false)) (by kernel_rfl) ho
  have eg : a.eval (.tmp 9) = .bool false := slotG hF ho h2 (j := 4) (d := 9) (by kernel_rfl) (by kernel_rfl) (by rw [ok.sz]; decide)
  have hw := wanted_of (ops := (opsOf 1 Try.f93)) hg (yl_of (by kernel_rfl : dstOf (opsOf 1 Try.f93) 4 = some 9) (by rw [hF.tsize, ok.sz]; decide) eg)
  replace hw : Region.wanted o (yielded (opsOf 1 Try.f93) a.tmps) = true := hw
  have e10 : a.eval (.tmp 10) = .pointer (some ⟨X.b, 2, none⟩) := slotG hF ho h2 (j := 5) (d := 10) (by kernel_rfl) (by kernel_rfl) (by rw [ok.sz]; decide)
  have hc0 := rq_at (SHC.kp hW) ok.c2
  refine st_pureW hF hC hW ho h2 (by decide) hd hw rfl ?_
  show _ = Result.ok (Next.value (.slice X.a X.n X.c)) w
  generalize a.eval = ρ at e10 ⊢
  unfold execOp
  rw [hop]
  simp [e10, hc0, go_sem]
theorem SHC.s7 (X : SHC) (ok : SHCOk X) {Q : Exit → Act → World → Prop} : StepG (opsOf 1 Try.f93) SHC.acts SHC.av X.val0 X.Wd X.a0 Q 7 := by
  intro γ listed a w o hF hC hW h1 ho h2
  obtain ⟨hd, hop, hg⟩ := fields2 (x := some 12) (y := Op.call { callee := .builtin .len, args := #[(.tmp 11)], argTypes := #[55] }) (z := some (4, false)) (by kernel_rfl) ho
  have eg : a.eval (.tmp 9) = .bool false := slotG hF ho h2 (j := 4) (d := 9) (by kernel_rfl) (by kernel_rfl) (by rw [ok.sz]; decide)
  have hw := wanted_of (ops := (opsOf 1 Try.f93)) hg (yl_of (by kernel_rfl : dstOf (opsOf 1 Try.f93) 4 = some 9) (by rw [hF.tsize, ok.sz]; decide) eg)
  replace hw : Region.wanted o (yielded (opsOf 1 Try.f93) a.tmps) = true := hw
  have e11 : a.eval (.tmp 11) = .slice X.a X.n X.c := slotG hF ho h2 (j := 6) (d := 11) (by kernel_rfl) (by kernel_rfl) (by rw [ok.sz]; decide)
  refine st_pureW hF hC hW ho h2 (by decide) hd hw rfl ?_
  show _ = Result.ok (Next.value (.int .i64 (X.n : Int))) w
  generalize a.eval = ρ at e11 ⊢
  unfold execOp
  rw [hop]
  simp [e11, go_sem]
theorem SHC.s8 (X : SHC) (ok : SHCOk X) {Q : Exit → Act → World → Prop} : StepG (opsOf 1 Try.f93) SHC.acts SHC.av X.val0 X.Wd X.a0 Q 8 := by
  intro γ listed a w o hF hC hW h1 ho h2
  obtain ⟨hd, hop, hg⟩ := fields2 (x := some 13) (y := Op.fieldAddr 114 (.tmp 1) 0) (z := some (4, false)) (by kernel_rfl) ho
  have eg : a.eval (.tmp 9) = .bool false := slotG hF ho h2 (j := 4) (d := 9) (by kernel_rfl) (by kernel_rfl) (by rw [ok.sz]; decide)
  have hw := wanted_of (ops := (opsOf 1 Try.f93)) hg (yl_of (by kernel_rfl : dstOf (opsOf 1 Try.f93) 4 = some 9) (by rw [hF.tsize, ok.sz]; decide) eg)
  replace hw : Region.wanted o (yielded (opsOf 1 Try.f93) a.tmps) = true := hw
  have e1 : a.eval (.tmp 1) = .pointer (some ⟨X.b, 0, none⟩) := (hF.eval0 (by kernel_rfl)).trans ok.e1
  refine st_pureW hF hC hW ho h2 (by decide) hd hw rfl ?_
  show _ = Result.ok (Next.value (.pointer (some ⟨X.b, 0, none⟩))) w
  generalize a.eval = ρ at e1 ⊢
  unfold execOp
  rw [hop]
  simp [e1, go_sem]
theorem SHC.s9 (X : SHC) (ok : SHCOk X) {Q : Exit → Act → World → Prop} : StepG (opsOf 1 Try.f93) SHC.acts SHC.av X.val0 X.Wd X.a0 Q 9 := by
  intro γ listed a w o hF hC hW h1 ho h2
  obtain ⟨hd, hop, hg⟩ := fields2 (x := some 14) (y := Op.load 112 (.tmp 13)) (z := some (4, false)) (by kernel_rfl) ho
  have eg : a.eval (.tmp 9) = .bool false := slotG hF ho h2 (j := 4) (d := 9) (by kernel_rfl) (by kernel_rfl) (by rw [ok.sz]; decide)
  have hw := wanted_of (ops := (opsOf 1 Try.f93)) hg (yl_of (by kernel_rfl : dstOf (opsOf 1 Try.f93) 4 = some 9) (by rw [hF.tsize, ok.sz]; decide) eg)
  replace hw : Region.wanted o (yielded (opsOf 1 Try.f93) a.tmps) = true := hw
  have e13 : a.eval (.tmp 13) = .pointer (some ⟨X.b, 0, none⟩) := slotG hF ho h2 (j := 8) (d := 13) (by kernel_rfl) (by kernel_rfl) (by rw [ok.sz]; decide)
  have hc0 := rq_at (SHC.kp hW) ok.c0
  have hc1 := rq_at (SHC.kp hW) ok.c1
  refine st_pureW hF hC hW ho h2 (by decide) hd hw rfl ?_
  show _ = Result.ok (Next.value (.agg #[.int .i64 X.pw, .int .i64 X.ph])) w
  generalize a.eval = ρ at e13 ⊢
  unfold execOp
  rw [hop]
  simp [e13, hc0, hc1, go_sem]
theorem SHC.s10 (X : SHC) (ok : SHCOk X) {Q : Exit → Act → World → Prop} : StepG (opsOf 1 Try.f93) SHC.acts SHC.av X.val0 X.Wd X.a0 Q 10 := by
  intro γ listed a w o hF hC hW h1 ho h2
  obtain ⟨hd, hop, hg⟩ := fields2 (x := some 15) (y := Op.call { callee := .value (.func 85), args := #[(.tmp 14)], argTypes := #[112] }) (z := some (4, false)) (by kernel_rfl) ho
  have eg : a.eval (.tmp 9) = .bool false := slotG hF ho h2 (j := 4) (d := 9) (by kernel_rfl) (by kernel_rfl) (by rw [ok.sz]; decide)
  have hw := wanted_of (ops := (opsOf 1 Try.f93)) hg (yl_of (by kernel_rfl : dstOf (opsOf 1 Try.f93) 4 = some 9) (by rw [hF.tsize, ok.sz]; decide) eg)
  replace hw : Region.wanted o (yielded (opsOf 1 Try.f93) a.tmps) = true := hw
  have e14 : a.eval (.tmp 14) = .agg #[.int .i64 X.pw, .int .i64 X.ph] := slotG hF ho h2 (j := 9) (d := 14) (by kernel_rfl) (by kernel_rfl) (by rw [ok.sz]; decide)
  have ef : a.eval (.func 85) = .func (.func 85) #[] #[] := rfl
  refine st_callW hF hC hW ho h2 (by decide) hd hw rfl (f := 85) (args := #[.agg #[.int .i64 X.pw, .int .i64 X.ph]]) ?_ ?_ ?_
  · generalize a.eval = ρ at e14 ef ⊢
    unfold execOp
    rw [hop]
    simp [e14, ef, go_sem]
  · exact icount w _ _ ok.hm
  · intro w' hk; exact SHC.keep hW hk
theorem SHC.s11 (X : SHC) (ok : SHCOk X) {Q : Exit → Act → World → Prop} : StepG (opsOf 1 Try.f93) SHC.acts SHC.av X.val0 X.Wd X.a0 Q 11 := by
  intro γ listed a w o hF hC hW h1 ho h2
  obtain ⟨hd, hop, hg⟩ := fields2 (x := some 16) (y := Op.binOp .neq 3 (.tmp 12) (.tmp 15) 3) (z := some (4, false)) (by kernel_rfl) ho
  have eg : a.eval (.tmp 9) = .bool false := slotG hF ho h2 (j := 4) (d := 9) (by kernel_rfl) (by kernel_rfl) (by rw [ok.sz]; decide)
  have hw := wanted_of (ops := (opsOf 1 Try.f93)) hg (yl_of (by kernel_rfl : dstOf (opsOf 1 Try.f93) 4 = some 9) (by rw [hF.tsize, ok.sz]; decide) eg)
  replace hw : Region.wanted o (yielded (opsOf 1 Try.f93) a.tmps) = true := hw
  have e12 : a.eval (.tmp 12) = .int .i64 (X.n : Int) := slotG hF ho h2 (j := 7) (d := 12) (by kernel_rfl) (by kernel_rfl) (by rw [ok.sz]; decide)
  have e15 : a.eval (.tmp 15) = .int .i64 (X.pw * X.ph) := slotG hF ho h2 (j := 10) (d := 15) (by kernel_rfl) (by kernel_rfl) (by rw [ok.sz]; decide)
  refine st_pureW hF hC hW ho h2 (by decide) hd hw rfl ?_
  show _ = Result.ok (Next.value (.bool false)) w
  generalize a.eval = ρ at e12 e15 ⊢
  unfold execOp
  rw [hop]
  simp [e12, e15, ok.hv, go_sem]
theorem SHC.s12 (X : SHC) (ok : SHCOk X) {Q : Exit → Act → World → Prop} : StepG (opsOf 1 Try.f93) SHC.acts SHC.av X.val0 X.Wd X.a0 Q 12 := by
  intro γ listed a w o hF hC hW h1 ho h2
  obtain ⟨hd, hop, hg⟩ := fields2 (x := some 17) (y := Op.pick (.tmp 9) (.const (.bool true)) (.tmp 16)) (z := none) (by kernel_rfl) ho
  have e9 : a.eval (.tmp 9) = .bool false := slotG hF ho h2 (j := 4) (d := 9) (by kernel_rfl) (by kernel_rfl) (by rw [ok.sz]; decide)
  have ec1 : a.eval (.const (.bool true)) = .bool true := rfl
  have e16 : a.eval (.tmp 16) = .bool false := slotG hF ho h2 (j := 11) (d := 16) (by kernel_rfl) (by kernel_rfl) (by rw [ok.sz]; decide)
  refine st_pureG hF hC hW ho h2 (by decide) hd hg rfl ?_
  show _ = Result.ok (Next.value (.bool false)) w
  generalize a.eval = ρ at e9 ec1 e16 ⊢
  unfold execOp
  rw [hop]
  simp [e9, ec1, e16, go_sem]
theorem SHC.size : (opsOf 1 Try.f93).size = 13 := by kernel_rfl
theorem SHC.steps (X : SHC) (ok : SHCOk X) {Q : Exit → Act → World → Prop} (i : Nat) (hi : i < (opsOf 1 Try.f93).size) : StepG (opsOf 1 Try.f93) SHC.acts SHC.av X.val0 X.Wd X.a0 Q i := by
  rw [SHC.size] at hi
  have hc : i = 0 ∨ i = 1 ∨ i = 2 ∨ i = 3 ∨ i = 4 ∨ i = 5 ∨ i = 6 ∨ i = 7 ∨ i = 8 ∨ i = 9 ∨ i = 10 ∨ i = 11 ∨ i = 12 := by omega
  rcases hc with rfl | rfl | rfl | rfl | rfl | rfl | rfl | rfl | rfl | rfl | rfl | rfl | rfl
  · exact SHC.s0 X ok
  · exact SHC.s1 X ok
  · exact SHC.s2 X ok
  · exact SHC.s3 X ok
  · exact SHC.s4 X ok
  · exact SHC.s5 X ok
  · exact SHC.s6 X ok
  · exact SHC.s7 X ok
  · exact SHC.s8 X ok
  · exact SHC.s9 X ok
  · exact SHC.s10 X ok
  · exact SHC.s11 X ok
  · exact SHC.s12 X ok
theorem SHC.puts (X : SHC) (γ : Nat → Value) (a0 : Act) : putsL (valG SHC.av X.val0 γ) (opsOf 1 Try.f93).toList a0 = (((((((((((((a0.put (some 5) (.pointer (some ⟨X.b, 0, none⟩))).put (some 6) (.agg #[.int .i64 X.pw, .int .i64 X.ph])).put (some 7) (.bool true)).put (some 8) (.bool false)).put (some 9) (.bool false)).put (some 10) (.pointer (some ⟨X.b, 2, none⟩))).put (some 11) (.slice X.a X.n X.c)).put (some 12) (.int .i64 (X.n : Int))).put (some 13) (.pointer (some ⟨X.b, 0, none⟩))).put (some 14) (.agg #[.int .i64 X.pw, .int .i64 X.ph])).put (some 15) (.int .i64 (X.pw * X.ph))).put (some 16) (.bool false)).put (some 17) (.bool false)) := by kernel_rfl
/-- The region, whatever order comes up. -/
theorem SHC.run (X : SHC) (ok : SHCOk X) {Q : Exit → Act → World → Prop} (w : World) (h0 : X.Wd 0 (fun _ => undef) w.drew) (hend : ∀ (γ : Nat → Value) w', X.Wd 0 γ w' → Q .normal (((((((((((((X.a0.put (some 5) (.pointer (some ⟨X.b, 0, none⟩))).put (some 6) (.agg #[.int .i64 X.pw, .int .i64 X.ph])).put (some 7) (.bool true)).put (some 8) (.bool false)).put (some 9) (.bool false)).put (some 10) (.pointer (some ⟨X.b, 2, none⟩))).put (some 11) (.slice X.a X.n X.c)).put (some 12) (.int .i64 (X.n : Int))).put (some 13) (.pointer (some ⟨X.b, 0, none⟩))).put (some 14) (.agg #[.int .i64 X.pw, .int .i64 X.ph])).put (some 15) (.int .i64 (X.pw * X.ph))).put (some 16) (.bool false)).put (some 17) (.bool false)) w') : (Code.region 1 (opsOf 1 Try.f93) true).wp Try.prog Q X.a0 w := by
  refine reg_act (acts := SHC.acts) (av := SHC.av) (val0 := X.val0) (Wd := X.Wd) (by kernel_rfl) (by kernel_rfl) (by rw [SHC.size]; decide) (fun i hi => SHC.steps X ok i hi) _ h0 ?_
  intro γ w' h
  rw [SHC.puts]
  exact hend γ w' h
end Go.Proofs.Ythlohbiocfeapaa
