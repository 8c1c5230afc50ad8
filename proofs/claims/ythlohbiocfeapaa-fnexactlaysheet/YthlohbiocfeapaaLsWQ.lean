/-
  The statements of the law on LaySheet that hold the arguments' copies against them and draw their order; each theorem names its conditions.
-/
import Derived.Test.YthlohbiocfeapaaShT
import Derived.Test.YthlohbiocfeapaaRq
namespace Go.Proofs.Ythlohbiocfeapaa
open Go.ChangeShapes Go.WideShapes Go.ChangeAt Go.RowKit
set_option linter.unusedVariables false

structure LSE where
  bx : Nat
  ba : Nat
  p : MD
  sv : Value
  aa : Option Addr
  ac : Nat
  l : List Edg
  W : World
  a0 : Act
structure LSEOk (X : LSE) : Prop where
  cx : MB X.W X.bx X.p X.sv
  ca : MB X.W X.ba X.p (.slice X.aa X.l.length X.ac)
  hi : Edgs X.W X.aa X.l
  hs : RowQ X.W X.sv X.l
  hl : X.l.length ≤ 1048576
  e3 : X.a0.eval (.tmp 3) = .pointer (some ⟨X.ba, 0, none⟩)
  e10 : X.a0.eval (.tmp 10) = .pointer (some ⟨X.bx, 0, none⟩)
  sz : X.a0.tmps.size = 124
def LSE.val0 (X : LSE) : Nat → Value
  | 58 => mskV X.p (X.sv)
  | 59 => mskV X.p (.slice X.aa X.l.length X.ac)
  | _ => undef
def LSE.av : Nat → Option Nat
  | 60 => some 0
  | 61 => some 1
  | 62 => some 2
  | _ => none
def LSE.acts : List Nat := [2, 3, 4]
/-- The world, by how many of the acting ones have come up. -/
def LSE.Wd (X : LSE) : Nat → (Nat → Value) → World → Prop
  | 0, _, w => Nw X.W w
  | 1, γ, w => ∃ g, γ 0 = mskV X.p (.slice (some ⟨g, 0, none⟩) X.l.length X.l.length) ∧ LayS w g X.l ∧ Nw X.W w
  | 2, γ, w => γ 1 = .bool true ∧ Nw X.W w
  | _, γ, w => γ 2 = .bool false ∧ Nw X.W w
theorem LSE.nw {X : LSE} : ∀ {n : Nat} {γ : Nat → Value} {w : World}, X.Wd n γ w → Nw X.W w
  | 0, _, _, h => h
  | 1, _, _, ⟨_, _, _, h⟩ => h
  | 2, _, _, ⟨_, h⟩ => h
  | _ + 3, _, _, ⟨_, h⟩ => h
theorem LSE.chain : chainG (opsOf 14 Try.f13) LSE.acts = true := by kernel_rfl
theorem LSE.nodup : LSE.acts.Nodup := by decide
theorem LSE.inj {listed : Array Bool} {i k : Nat} (h : (List.range (opsOf 14 Try.f13).size).all (fun j => decide (j = i) || !(match dstOf (opsOf 14 Try.f13) j with | some d => decide (LSE.av d = some k) | none => false)) = true) (hu : listed.getD i false = false) : ∀ d, got (opsOf 14 Try.f13) listed d → LSE.av d ≠ some k := by
  rintro d ⟨j, h1, h2⟩ h3
  have hlt : j < (opsOf 14 Try.f13).size := by
    rcases Nat.lt_or_ge j (opsOf 14 Try.f13).size with h4 | h4
    · exact h4
    · unfold dstOf at h2; rw [Array.getElem?_eq_none h4] at h2; cases h2
  have h5 := List.all_eq_true.1 h j (List.mem_range.2 hlt)
  rw [h2] at h5
  simp only [h3, decide_true, Bool.not_true, Bool.or_false, decide_eq_true_eq] at h5
  subst h5
  rw [hu] at h1
  cases h1
theorem LSE.s0 (X : LSE) (ok : LSEOk X) {Q : Exit → Act → World → Prop} : StepG (opsOf 14 Try.f13) LSE.acts LSE.av X.val0 X.Wd X.a0 Q 0 := by
  intro γ listed a w o hF hC hW h1 ho h2
  obtain ⟨hd, hop, hg⟩ := fields2 (x := some 58) (y := Op.load 57 (.tmp 10)) (z := none) (by kernel_rfl) ho
  have e10 : a.eval (.tmp 10) = .pointer (some ⟨X.bx, 0, none⟩) := (hF.eval0 (by kernel_rfl)).trans ok.e10
  obtain ⟨c0, c1, c2⟩ := MB.nw ok.cx (LSE.nw hW)
  refine st_pureG hF hC hW ho h2 (by decide) hd hg rfl ?_
  show _ = Result.ok (Next.value (mskV X.p (X.sv))) w
  generalize a.eval = ρ at e10 ⊢
  unfold execOp
  rw [hop]
  simp [e10, c0, c1, c2, go_sem]
theorem LSE.s1 (X : LSE) (ok : LSEOk X) {Q : Exit → Act → World → Prop} : StepG (opsOf 14 Try.f13) LSE.acts LSE.av X.val0 X.Wd X.a0 Q 1 := by
  intro γ listed a w o hF hC hW h1 ho h2
  obtain ⟨hd, hop, hg⟩ := fields2 (x := some 59) (y := Op.load 65 (.tmp 3)) (z := none) (by kernel_rfl) ho
  have e3 : a.eval (.tmp 3) = .pointer (some ⟨X.ba, 0, none⟩) := (hF.eval0 (by kernel_rfl)).trans ok.e3
  obtain ⟨c0, c1, c2⟩ := MB.nw ok.ca (LSE.nw hW)
  refine st_pureG hF hC hW ho h2 (by decide) hd hg rfl ?_
  show _ = Result.ok (Next.value (mskV X.p (.slice X.aa X.l.length X.ac))) w
  generalize a.eval = ρ at e3 ⊢
  unfold execOp
  rw [hop]
  simp [e3, c0, c1, c2, go_sem]
theorem LSE.s2 (X : LSE) (ok : LSEOk X) {Q : Exit → Act → World → Prop} : StepG (opsOf 14 Try.f13) LSE.acts LSE.av X.val0 X.Wd X.a0 Q 2 := by
  intro γ listed a w o hF hC hW h1 ho h2
  obtain ⟨hd, hop, hg⟩ := fields2 (x := some 60) (y := Op.call { callee := .value (.func 42), args := #[(.tmp 59)], argTypes := #[65] }) (z := none) (by kernel_rfl) ho
  have e59 : a.eval (.tmp 59) = mskV X.p (.slice X.aa X.l.length X.ac) := slotG hF ho h2 (j := 1) (d := 59) (by kernel_rfl) (by kernel_rfl) (by rw [ok.sz]; decide)
  have ef : a.eval (.func 42) = .func (.func 42) #[] #[] := rfl
  have hu := unl (hF.lt ho) h1
  refine st_actG (k := 0) LSE.chain LSE.nodup rfl hF hC hW h1 ho h2 (Or.inr ⟨60, hd, rfl⟩) (LSE.inj (by kernel_rfl) hu) hg ?_
  intro hW0 K hK
  have hr : (execOp a.eval o).run Try.prog w = .ok (.enter 42 #[mskV X.p (.slice X.aa X.l.length X.ac)]) w := by
    generalize a.eval = ρ at e59 ef ⊢
    unfold execOp
    rw [hop]
    simp [e59, ef, go_sem]
  unfold Oper.wp
  rw [hr]
  refine Calls.mono (toSheet_any w X.p X.aa X.ac X.l ok.hl (ok.hi.nw hW0)) ?_
  rintro e w' ⟨g, rfl, n1, _, l1⟩
  exact hK _ _ ⟨g, rfl, l1, Nw.trans hW0 n1⟩
theorem LSE.s3 (X : LSE) (ok : LSEOk X) {Q : Exit → Act → World → Prop} : StepG (opsOf 14 Try.f13) LSE.acts LSE.av X.val0 X.Wd X.a0 Q 3 := by
  intro γ listed a w o hF hC hW h1 ho h2
  obtain ⟨hd, hop, hg⟩ := fields2 (x := some 61) (y := Op.call { callee := .value (.func 37), args := #[(.tmp 58), (.tmp 60)], argTypes := #[57, 57] }) (z := none) (by kernel_rfl) ho
  have e58 : a.eval (.tmp 58) = mskV X.p (X.sv) := slotG hF ho h2 (j := 0) (d := 58) (by kernel_rfl) (by kernel_rfl) (by rw [ok.sz]; decide)
  have e60 : a.eval (.tmp 60) = γ 0 := slotG hF ho h2 (j := 2) (d := 60) (by kernel_rfl) (by kernel_rfl) (by rw [ok.sz]; decide)
  have ef : a.eval (.func 37) = .func (.func 37) #[] #[] := rfl
  have hu := unl (hF.lt ho) h1
  refine st_actG (k := 1) LSE.chain LSE.nodup rfl hF hC hW h1 ho h2 (Or.inr ⟨61, hd, rfl⟩) (LSE.inj (by kernel_rfl) hu) hg ?_
  intro hW0 K hK
  obtain ⟨g, g0, l1, n1⟩ := hW0
  rw [g0] at e60
  have hr : (execOp a.eval o).run Try.prog w = .ok (.enter 37 #[mskV X.p (X.sv), mskV X.p (.slice (some ⟨g, 0, none⟩) X.l.length X.l.length)]) w := by
    generalize a.eval = ρ at e58 e60 ef ⊢
    unfold execOp
    rw [hop]
    simp [e58, e60, ef, go_sem]
  unfold Oper.wp
  rw [hr]
  refine Calls.mono (eqSheet_any w X.p _ _ X.l ok.hl (ok.hs.nw n1) (l1.row)) ?_
  rintro e w' ⟨rfl, n2⟩
  exact hK _ _ ⟨rfl, Nw.trans n1 n2⟩
theorem LSE.s4 (X : LSE) (ok : LSEOk X) {Q : Exit → Act → World → Prop} : StepG (opsOf 14 Try.f13) LSE.acts LSE.av X.val0 X.Wd X.a0 Q 4 := by
  intro γ listed a w o hF hC hW h1 ho h2
  obtain ⟨hd, hop, hg⟩ := fields2 (x := some 62) (y := Op.unOp .not 4 (.tmp 61)) (z := none) (by kernel_rfl) ho
  have e61 : a.eval (.tmp 61) = γ 1 := slotG hF ho h2 (j := 3) (d := 61) (by kernel_rfl) (by kernel_rfl) (by rw [ok.sz]; decide)
  have hu := unl (hF.lt ho) h1
  refine st_actG (k := 2) LSE.chain LSE.nodup rfl hF hC hW h1 ho h2 (Or.inr ⟨62, hd, rfl⟩) (LSE.inj (by kernel_rfl) hu) hg ?_
  intro hW0 K hK
  obtain ⟨g0, n1⟩ := hW0
  rw [g0] at e61
  have hr : (execOp a.eval o).run Try.prog w = .ok (.value (.bool false)) w := by
    generalize a.eval = ρ at e61 ⊢
    unfold execOp
    rw [hop]
    simp [e61, go_sem]
  unfold Oper.wp
  rw [hr]
  exact hK _ _ ⟨rfl, n1⟩
theorem LSE.size : (opsOf 14 Try.f13).size = 5 := by kernel_rfl
theorem LSE.steps (X : LSE) (ok : LSEOk X) {Q : Exit → Act → World → Prop} (i : Nat) (hi : i < (opsOf 14 Try.f13).size) : StepG (opsOf 14 Try.f13) LSE.acts LSE.av X.val0 X.Wd X.a0 Q i := by
  rw [LSE.size] at hi
  have hc : i = 0 ∨ i = 1 ∨ i = 2 ∨ i = 3 ∨ i = 4 := by omega
  rcases hc with rfl | rfl | rfl | rfl | rfl
  · exact LSE.s0 X ok
  · exact LSE.s1 X ok
  · exact LSE.s2 X ok
  · exact LSE.s3 X ok
  · exact LSE.s4 X ok
theorem LSE.puts (X : LSE) (γ : Nat → Value) (a0 : Act) : putsL (valG LSE.av X.val0 γ) (opsOf 14 Try.f13).toList a0 = (((((a0.put (some 58) (mskV X.p (X.sv))).put (some 59) (mskV X.p (.slice X.aa X.l.length X.ac))).put (some 60) (γ 0)).put (some 61) (γ 1)).put (some 62) (γ 2)) := by kernel_rfl
/-- The region, whatever order comes up. -/
theorem LSE.run (X : LSE) (ok : LSEOk X) {Q : Exit → Act → World → Prop} (w : World) (h0 : X.Wd 0 (fun _ => undef) w.drew) (hend : ∀ (γ : Nat → Value) w', X.Wd 3 γ w' → Q .normal (((((X.a0.put (some 58) (mskV X.p (X.sv))).put (some 59) (mskV X.p (.slice X.aa X.l.length X.ac))).put (some 60) (γ 0)).put (some 61) (γ 1)).put (some 62) (γ 2)) w') : (Code.region 14 (opsOf 14 Try.f13) true).wp Try.prog Q X.a0 w := by
  refine reg_act (acts := LSE.acts) (av := LSE.av) (val0 := X.val0) (Wd := X.Wd) (by kernel_rfl) (by kernel_rfl) (by rw [LSE.size]; decide) (fun i hi => LSE.steps X ok i hi) _ h0 ?_
  intro γ w' h
  rw [LSE.puts]
  exact hend γ w' h
structure LSF where
  bx : Nat
  ba : Nat
  p : MD
  sv : Value
  aa : Option Addr
  ac : Nat
  l : List Edg
  W : World
  a0 : Act
structure LSFOk (X : LSF) : Prop where
  cx : MB X.W X.bx X.p X.sv
  ca : MB X.W X.ba X.p (.slice X.aa X.l.length X.ac)
  hi : Edgs X.W X.aa X.l
  hs : RowQ X.W X.sv X.l
  hl : X.l.length ≤ 1048576
  e4 : X.a0.eval (.tmp 4) = .pointer (some ⟨X.ba, 0, none⟩)
  e11 : X.a0.eval (.tmp 11) = .pointer (some ⟨X.bx, 0, none⟩)
  sz : X.a0.tmps.size = 124
def LSF.val0 (X : LSF) : Nat → Value
  | 63 => mskV X.p (X.sv)
  | 64 => mskV X.p (.slice X.aa X.l.length X.ac)
  | _ => undef
def LSF.av : Nat → Option Nat
  | 65 => some 0
  | 66 => some 1
  | 67 => some 2
  | _ => none
def LSF.acts : List Nat := [2, 3, 4]
/-- The world, by how many of the acting ones have come up. -/
def LSF.Wd (X : LSF) : Nat → (Nat → Value) → World → Prop
  | 0, _, w => Nw X.W w
  | 1, γ, w => ∃ g, γ 0 = mskV X.p (.slice (some ⟨g, 0, none⟩) X.l.length X.l.length) ∧ LayS w g X.l ∧ Nw X.W w
  | 2, γ, w => γ 1 = .bool true ∧ Nw X.W w
  | _, γ, w => γ 2 = .bool false ∧ Nw X.W w
theorem LSF.nw {X : LSF} : ∀ {n : Nat} {γ : Nat → Value} {w : World}, X.Wd n γ w → Nw X.W w
  | 0, _, _, h => h
  | 1, _, _, ⟨_, _, _, h⟩ => h
  | 2, _, _, ⟨_, h⟩ => h
  | _ + 3, _, _, ⟨_, h⟩ => h
theorem LSF.chain : chainG (opsOf 16 Try.f13) LSF.acts = true := by kernel_rfl
theorem LSF.nodup : LSF.acts.Nodup := by decide
theorem LSF.inj {listed : Array Bool} {i k : Nat} (h : (List.range (opsOf 16 Try.f13).size).all (fun j => decide (j = i) || !(match dstOf (opsOf 16 Try.f13) j with | some d => decide (LSF.av d = some k) | none => false)) = true) (hu : listed.getD i false = false) : ∀ d, got (opsOf 16 Try.f13) listed d → LSF.av d ≠ some k := by
  rintro d ⟨j, h1, h2⟩ h3
  have hlt : j < (opsOf 16 Try.f13).size := by
    rcases Nat.lt_or_ge j (opsOf 16 Try.f13).size with h4 | h4
    · exact h4
    · unfold dstOf at h2; rw [Array.getElem?_eq_none h4] at h2; cases h2
  have h5 := List.all_eq_true.1 h j (List.mem_range.2 hlt)
  rw [h2] at h5
  simp only [h3, decide_true, Bool.not_true, Bool.or_false, decide_eq_true_eq] at h5
  subst h5
  rw [hu] at h1
  cases h1
theorem LSF.s0 (X : LSF) (ok : LSFOk X) {Q : Exit → Act → World → Prop} : StepG (opsOf 16 Try.f13) LSF.acts LSF.av X.val0 X.Wd X.a0 Q 0 := by
  intro γ listed a w o hF hC hW h1 ho h2
  obtain ⟨hd, hop, hg⟩ := fields2 (x := some 63) (y := Op.load 57 (.tmp 11)) (z := none) (by kernel_rfl) ho
  have e11 : a.eval (.tmp 11) = .pointer (some ⟨X.bx, 0, none⟩) := (hF.eval0 (by kernel_rfl)).trans ok.e11
  obtain ⟨c0, c1, c2⟩ := MB.nw ok.cx (LSF.nw hW)
  refine st_pureG hF hC hW ho h2 (by decide) hd hg rfl ?_
  show _ = Result.ok (Next.value (mskV X.p (X.sv))) w
  generalize a.eval = ρ at e11 ⊢
  unfold execOp
  rw [hop]
  simp [e11, c0, c1, c2, go_sem]
theorem LSF.s1 (X : LSF) (ok : LSFOk X) {Q : Exit → Act → World → Prop} : StepG (opsOf 16 Try.f13) LSF.acts LSF.av X.val0 X.Wd X.a0 Q 1 := by
  intro γ listed a w o hF hC hW h1 ho h2
  obtain ⟨hd, hop, hg⟩ := fields2 (x := some 64) (y := Op.load 65 (.tmp 4)) (z := none) (by kernel_rfl) ho
  have e4 : a.eval (.tmp 4) = .pointer (some ⟨X.ba, 0, none⟩) := (hF.eval0 (by kernel_rfl)).trans ok.e4
  obtain ⟨c0, c1, c2⟩ := MB.nw ok.ca (LSF.nw hW)
  refine st_pureG hF hC hW ho h2 (by decide) hd hg rfl ?_
  show _ = Result.ok (Next.value (mskV X.p (.slice X.aa X.l.length X.ac))) w
  generalize a.eval = ρ at e4 ⊢
  unfold execOp
  rw [hop]
  simp [e4, c0, c1, c2, go_sem]
theorem LSF.s2 (X : LSF) (ok : LSFOk X) {Q : Exit → Act → World → Prop} : StepG (opsOf 16 Try.f13) LSF.acts LSF.av X.val0 X.Wd X.a0 Q 2 := by
  intro γ listed a w o hF hC hW h1 ho h2
  obtain ⟨hd, hop, hg⟩ := fields2 (x := some 65) (y := Op.call { callee := .value (.func 42), args := #[(.tmp 64)], argTypes := #[65] }) (z := none) (by kernel_rfl) ho
  have e64 : a.eval (.tmp 64) = mskV X.p (.slice X.aa X.l.length X.ac) := slotG hF ho h2 (j := 1) (d := 64) (by kernel_rfl) (by kernel_rfl) (by rw [ok.sz]; decide)
  have ef : a.eval (.func 42) = .func (.func 42) #[] #[] := rfl
  have hu := unl (hF.lt ho) h1
  refine st_actG (k := 0) LSF.chain LSF.nodup rfl hF hC hW h1 ho h2 (Or.inr ⟨65, hd, rfl⟩) (LSF.inj (by kernel_rfl) hu) hg ?_
  intro hW0 K hK
  have hr : (execOp a.eval o).run Try.prog w = .ok (.enter 42 #[mskV X.p (.slice X.aa X.l.length X.ac)]) w := by
    generalize a.eval = ρ at e64 ef ⊢
    unfold execOp
    rw [hop]
    simp [e64, ef, go_sem]
  unfold Oper.wp
  rw [hr]
  refine Calls.mono (toSheet_any w X.p X.aa X.ac X.l ok.hl (ok.hi.nw hW0)) ?_
  rintro e w' ⟨g, rfl, n1, _, l1⟩
  exact hK _ _ ⟨g, rfl, l1, Nw.trans hW0 n1⟩
theorem LSF.s3 (X : LSF) (ok : LSFOk X) {Q : Exit → Act → World → Prop} : StepG (opsOf 16 Try.f13) LSF.acts LSF.av X.val0 X.Wd X.a0 Q 3 := by
  intro γ listed a w o hF hC hW h1 ho h2
  obtain ⟨hd, hop, hg⟩ := fields2 (x := some 66) (y := Op.call { callee := .value (.func 37), args := #[(.tmp 63), (.tmp 65)], argTypes := #[57, 57] }) (z := none) (by kernel_rfl) ho
  have e63 : a.eval (.tmp 63) = mskV X.p (X.sv) := slotG hF ho h2 (j := 0) (d := 63) (by kernel_rfl) (by kernel_rfl) (by rw [ok.sz]; decide)
  have e65 : a.eval (.tmp 65) = γ 0 := slotG hF ho h2 (j := 2) (d := 65) (by kernel_rfl) (by kernel_rfl) (by rw [ok.sz]; decide)
  have ef : a.eval (.func 37) = .func (.func 37) #[] #[] := rfl
  have hu := unl (hF.lt ho) h1
  refine st_actG (k := 1) LSF.chain LSF.nodup rfl hF hC hW h1 ho h2 (Or.inr ⟨66, hd, rfl⟩) (LSF.inj (by kernel_rfl) hu) hg ?_
  intro hW0 K hK
  obtain ⟨g, g0, l1, n1⟩ := hW0
  rw [g0] at e65
  have hr : (execOp a.eval o).run Try.prog w = .ok (.enter 37 #[mskV X.p (X.sv), mskV X.p (.slice (some ⟨g, 0, none⟩) X.l.length X.l.length)]) w := by
    generalize a.eval = ρ at e63 e65 ef ⊢
    unfold execOp
    rw [hop]
    simp [e63, e65, ef, go_sem]
  unfold Oper.wp
  rw [hr]
  refine Calls.mono (eqSheet_any w X.p _ _ X.l ok.hl (ok.hs.nw n1) (l1.row)) ?_
  rintro e w' ⟨rfl, n2⟩
  exact hK _ _ ⟨rfl, Nw.trans n1 n2⟩
theorem LSF.s4 (X : LSF) (ok : LSFOk X) {Q : Exit → Act → World → Prop} : StepG (opsOf 16 Try.f13) LSF.acts LSF.av X.val0 X.Wd X.a0 Q 4 := by
  intro γ listed a w o hF hC hW h1 ho h2
  obtain ⟨hd, hop, hg⟩ := fields2 (x := some 67) (y := Op.unOp .not 4 (.tmp 66)) (z := none) (by kernel_rfl) ho
  have e66 : a.eval (.tmp 66) = γ 1 := slotG hF ho h2 (j := 3) (d := 66) (by kernel_rfl) (by kernel_rfl) (by rw [ok.sz]; decide)
  have hu := unl (hF.lt ho) h1
  refine st_actG (k := 2) LSF.chain LSF.nodup rfl hF hC hW h1 ho h2 (Or.inr ⟨67, hd, rfl⟩) (LSF.inj (by kernel_rfl) hu) hg ?_
  intro hW0 K hK
  obtain ⟨g0, n1⟩ := hW0
  rw [g0] at e66
  have hr : (execOp a.eval o).run Try.prog w = .ok (.value (.bool false)) w := by
    generalize a.eval = ρ at e66 ⊢
    unfold execOp
    rw [hop]
    simp [e66, go_sem]
  unfold Oper.wp
  rw [hr]
  exact hK _ _ ⟨rfl, n1⟩
theorem LSF.size : (opsOf 16 Try.f13).size = 5 := by kernel_rfl
theorem LSF.steps (X : LSF) (ok : LSFOk X) {Q : Exit → Act → World → Prop} (i : Nat) (hi : i < (opsOf 16 Try.f13).size) : StepG (opsOf 16 Try.f13) LSF.acts LSF.av X.val0 X.Wd X.a0 Q i := by
  rw [LSF.size] at hi
  have hc : i = 0 ∨ i = 1 ∨ i = 2 ∨ i = 3 ∨ i = 4 := by omega
  rcases hc with rfl | rfl | rfl | rfl | rfl
  · exact LSF.s0 X ok
  · exact LSF.s1 X ok
  · exact LSF.s2 X ok
  · exact LSF.s3 X ok
  · exact LSF.s4 X ok
theorem LSF.puts (X : LSF) (γ : Nat → Value) (a0 : Act) : putsL (valG LSF.av X.val0 γ) (opsOf 16 Try.f13).toList a0 = (((((a0.put (some 63) (mskV X.p (X.sv))).put (some 64) (mskV X.p (.slice X.aa X.l.length X.ac))).put (some 65) (γ 0)).put (some 66) (γ 1)).put (some 67) (γ 2)) := by kernel_rfl
/-- The region, whatever order comes up. -/
theorem LSF.run (X : LSF) (ok : LSFOk X) {Q : Exit → Act → World → Prop} (w : World) (h0 : X.Wd 0 (fun _ => undef) w.drew) (hend : ∀ (γ : Nat → Value) w', X.Wd 3 γ w' → Q .normal (((((X.a0.put (some 63) (mskV X.p (X.sv))).put (some 64) (mskV X.p (.slice X.aa X.l.length X.ac))).put (some 65) (γ 0)).put (some 66) (γ 1)).put (some 67) (γ 2)) w') : (Code.region 16 (opsOf 16 Try.f13) true).wp Try.prog Q X.a0 w := by
  refine reg_act (acts := LSF.acts) (av := LSF.av) (val0 := X.val0) (Wd := X.Wd) (by kernel_rfl) (by kernel_rfl) (by rw [LSF.size]; decide) (fun i hi => LSF.steps X ok i hi) _ h0 ?_
  intro γ w' h
  rw [LSF.puts]
  exact hend γ w' h
end Go.Proofs.Ythlohbiocfeapaa
