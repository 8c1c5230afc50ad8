/-
  The statements of the law on PaintMask that hold the arguments' copies against them and draw their order; each theorem names its conditions.
-/
import Derived.Test.YthlohbiocfeapaaShT
import Derived.Test.YthlohbiocfeapaaMskT
import Derived.Test.YthlohbiocfeapaaRq
namespace Go.Proofs.Ythlohbiocfeapaa
open Go.ChangeShapes Go.WideShapes Go.ChangeAt Go.RowKit
set_option linter.unusedVariables false

structure PME where
  bx : Nat
  ba : Nat
  p : MD
  sv : Value
  aa : Option Addr
  ac : Nat
  l : List Edg
  W : World
  a0 : Act
structure PMEOk (X : PME) : Prop where
  cx : MB X.W X.bx X.p X.sv
  ca : MB X.W X.ba X.p (.slice X.aa X.l.length X.ac)
  hi : Edgs X.W X.aa X.l
  hs : RowQ X.W X.sv X.l
  hl : X.l.length ≤ 1048576
  e3 : X.a0.eval (.tmp 3) = .pointer (some ⟨X.ba, 0, none⟩)
  e10 : X.a0.eval (.tmp 10) = .pointer (some ⟨X.bx, 0, none⟩)
  sz : X.a0.tmps.size = 127
def PME.val0 (X : PME) : Nat → Value
  | 60 => mskV X.p (X.sv)
  | 61 => mskV X.p (.slice X.aa X.l.length X.ac)
  | _ => undef
def PME.av : Nat → Option Nat
  | 62 => some 0
  | 63 => some 1
  | 64 => some 2
  | _ => none
def PME.acts : List Nat := [2, 3, 4]
/-- The world, by how many of the acting ones have come up. -/
def PME.Wd (X : PME) : Nat → (Nat → Value) → World → Prop
  | 0, _, w => Nw X.W w
  | 1, γ, w => ∃ g, γ 0 = mskV X.p (.slice (some ⟨g, 0, none⟩) X.l.length X.l.length) ∧ LayS w g X.l ∧ Nw X.W w
  | 2, γ, w => γ 1 = .bool true ∧ Nw X.W w
  | _, γ, w => γ 2 = .bool false ∧ Nw X.W w
theorem PME.nw {X : PME} : ∀ {n : Nat} {γ : Nat → Value} {w : World}, X.Wd n γ w → Nw X.W w
  | 0, _, _, h => h
  | 1, _, _, ⟨_, _, _, h⟩ => h
  | 2, _, _, ⟨_, h⟩ => h
  | _ + 3, _, _, ⟨_, h⟩ => h
theorem PME.chain : chainG (opsOf 14 Try.f12) PME.acts = true := by kernel_rfl
theorem PME.nodup : PME.acts.Nodup := by decide
theorem PME.inj {listed : Array Bool} {i k : Nat} (h : (List.range (opsOf 14 Try.f12).size).all (fun j => decide (j = i) || !(match dstOf (opsOf 14 Try.f12) j with | some d => decide (PME.av d = some k) | none => false)) = true) (hu : listed.getD i false = false) : ∀ d, got (opsOf 14 Try.f12) listed d → PME.av d ≠ some k := by
  rintro d ⟨j, h1, h2⟩ h3
  have hlt : j < (opsOf 14 Try.f12).size := by
    rcases Nat.lt_or_ge j (opsOf 14 Try.f12).size with h4 | h4
    · exact h4
    · unfold dstOf at h2; rw [Array.getElem?_eq_none h4] at h2; cases h2
  have h5 := List.all_eq_true.1 h j (List.mem_range.2 hlt)
  rw [h2] at h5
  simp only [h3, decide_true, Bool.not_true, Bool.or_false, decide_eq_true_eq] at h5
  subst h5
  rw [hu] at h1
  cases h1
theorem PME.s0 (X : PME) (ok : PMEOk X) {Q : Exit → Act → World → Prop} : StepG (opsOf 14 Try.f12) PME.acts PME.av X.val0 X.Wd X.a0 Q 0 := by
  intro γ listed a w o hF hC hW h1 ho h2
  obtain ⟨hd, hop, hg⟩ := fields2 (x := some 60) (y := Op.load 57 (.tmp 10)) (z := none) (by kernel_rfl) ho
  have e10 : a.eval (.tmp 10) = .pointer (some ⟨X.bx, 0, none⟩) := (hF.eval0 (by kernel_rfl)).trans ok.e10
  obtain ⟨c0, c1, c2⟩ := MB.nw ok.cx (PME.nw hW)
  refine st_pureG hF hC hW ho h2 (by decide) hd hg rfl ?_
  show _ = Result.ok (Next.value (mskV X.p (X.sv))) w
  generalize a.eval = ρ at e10 ⊢
  unfold execOp
  rw [hop]
  simp [e10, c0, c1, c2, go_sem]
theorem PME.s1 (X : PME) (ok : PMEOk X) {Q : Exit → Act → World → Prop} : StepG (opsOf 14 Try.f12) PME.acts PME.av X.val0 X.Wd X.a0 Q 1 := by
  intro γ listed a w o hF hC hW h1 ho h2
  obtain ⟨hd, hop, hg⟩ := fields2 (x := some 61) (y := Op.load 65 (.tmp 3)) (z := none) (by kernel_rfl) ho
  have e3 : a.eval (.tmp 3) = .pointer (some ⟨X.ba, 0, none⟩) := (hF.eval0 (by kernel_rfl)).trans ok.e3
  obtain ⟨c0, c1, c2⟩ := MB.nw ok.ca (PME.nw hW)
  refine st_pureG hF hC hW ho h2 (by decide) hd hg rfl ?_
  show _ = Result.ok (Next.value (mskV X.p (.slice X.aa X.l.length X.ac))) w
  generalize a.eval = ρ at e3 ⊢
  unfold execOp
  rw [hop]
  simp [e3, c0, c1, c2, go_sem]
theorem PME.s2 (X : PME) (ok : PMEOk X) {Q : Exit → Act → World → Prop} : StepG (opsOf 14 Try.f12) PME.acts PME.av X.val0 X.Wd X.a0 Q 2 := by
  intro γ listed a w o hF hC hW h1 ho h2
  obtain ⟨hd, hop, hg⟩ := fields2 (x := some 62) (y := Op.call { callee := .value (.func 42), args := #[(.tmp 61)], argTypes := #[65] }) (z := none) (by kernel_rfl) ho
  have e61 : a.eval (.tmp 61) = mskV X.p (.slice X.aa X.l.length X.ac) := slotG hF ho h2 (j := 1) (d := 61) (by kernel_rfl) (by kernel_rfl) (by rw [ok.sz]; decide)
  have ef : a.eval (.func 42) = .func (.func 42) #[] #[] := rfl
  have hu := unl (hF.lt ho) h1
  refine st_actG (k := 0) PME.chain PME.nodup rfl hF hC hW h1 ho h2 (Or.inr ⟨62, hd, rfl⟩) (PME.inj (by kernel_rfl) hu) hg ?_
  intro hW0 K hK
  have hr : (execOp a.eval o).run Try.prog w = .ok (.enter 42 #[mskV X.p (.slice X.aa X.l.length X.ac)]) w := by
    generalize a.eval = ρ at e61 ef ⊢
    unfold execOp
    rw [hop]
    simp [e61, ef, go_sem]
  unfold Oper.wp
  rw [hr]
  refine Calls.mono (toSheet_any w X.p X.aa X.ac X.l ok.hl (ok.hi.nw hW0)) ?_
  rintro e w' ⟨g, rfl, n1, _, l1⟩
  exact hK _ _ ⟨g, rfl, l1, Nw.trans hW0 n1⟩
theorem PME.s3 (X : PME) (ok : PMEOk X) {Q : Exit → Act → World → Prop} : StepG (opsOf 14 Try.f12) PME.acts PME.av X.val0 X.Wd X.a0 Q 3 := by
  intro γ listed a w o hF hC hW h1 ho h2
  obtain ⟨hd, hop, hg⟩ := fields2 (x := some 63) (y := Op.call { callee := .value (.func 37), args := #[(.tmp 60), (.tmp 62)], argTypes := #[57, 57] }) (z := none) (by kernel_rfl) ho
  have e60 : a.eval (.tmp 60) = mskV X.p (X.sv) := slotG hF ho h2 (j := 0) (d := 60) (by kernel_rfl) (by kernel_rfl) (by rw [ok.sz]; decide)
  have e62 : a.eval (.tmp 62) = γ 0 := slotG hF ho h2 (j := 2) (d := 62) (by kernel_rfl) (by kernel_rfl) (by rw [ok.sz]; decide)
  have ef : a.eval (.func 37) = .func (.func 37) #[] #[] := rfl
  have hu := unl (hF.lt ho) h1
  refine st_actG (k := 1) PME.chain PME.nodup rfl hF hC hW h1 ho h2 (Or.inr ⟨63, hd, rfl⟩) (PME.inj (by kernel_rfl) hu) hg ?_
  intro hW0 K hK
  obtain ⟨g, g0, l1, n1⟩ := hW0
  rw [g0] at e62
  have hr : (execOp a.eval o).run Try.prog w = .ok (.enter 37 #[mskV X.p (X.sv), mskV X.p (.slice (some ⟨g, 0, none⟩) X.l.length X.l.length)]) w := by
    generalize a.eval = ρ at e60 e62 ef ⊢
    unfold execOp
    rw [hop]
    simp [e60, e62, ef, go_sem]
  unfold Oper.wp
  rw [hr]
  refine Calls.mono (eqSheet_any w X.p _ _ X.l ok.hl (ok.hs.nw n1) (l1.row)) ?_
  rintro e w' ⟨rfl, n2⟩
  exact hK _ _ ⟨rfl, Nw.trans n1 n2⟩
theorem PME.s4 (X : PME) (ok : PMEOk X) {Q : Exit → Act → World → Prop} : StepG (opsOf 14 Try.f12) PME.acts PME.av X.val0 X.Wd X.a0 Q 4 := by
  intro γ listed a w o hF hC hW h1 ho h2
  obtain ⟨hd, hop, hg⟩ := fields2 (x := some 64) (y := Op.unOp .not 4 (.tmp 63)) (z := none) (by kernel_rfl) ho
  have e63 : a.eval (.tmp 63) = γ 1 := slotG hF ho h2 (j := 3) (d := 63) (by kernel_rfl) (by kernel_rfl) (by rw [ok.sz]; decide)
  have hu := unl (hF.lt ho) h1
  refine st_actG (k := 2) PME.chain PME.nodup rfl hF hC hW h1 ho h2 (Or.inr ⟨64, hd, rfl⟩) (PME.inj (by kernel_rfl) hu) hg ?_
  intro hW0 K hK
  obtain ⟨g0, n1⟩ := hW0
  rw [g0] at e63
  have hr : (execOp a.eval o).run Try.prog w = .ok (.value (.bool false)) w := by
    generalize a.eval = ρ at e63 ⊢
    unfold execOp
    rw [hop]
    simp [e63, go_sem]
  unfold Oper.wp
  rw [hr]
  exact hK _ _ ⟨rfl, n1⟩
theorem PME.size : (opsOf 14 Try.f12).size = 5 := by kernel_rfl
theorem PME.steps (X : PME) (ok : PMEOk X) {Q : Exit → Act → World → Prop} (i : Nat) (hi : i < (opsOf 14 Try.f12).size) : StepG (opsOf 14 Try.f12) PME.acts PME.av X.val0 X.Wd X.a0 Q i := by
  rw [PME.size] at hi
  have hc : i = 0 ∨ i = 1 ∨ i = 2 ∨ i = 3 ∨ i = 4 := by omega
  rcases hc with rfl | rfl | rfl | rfl | rfl
  · exact PME.s0 X ok
  · exact PME.s1 X ok
  · exact PME.s2 X ok
  · exact PME.s3 X ok
  · exact PME.s4 X ok
theorem PME.puts (X : PME) (γ : Nat → Value) (a0 : Act) : putsL (valG PME.av X.val0 γ) (opsOf 14 Try.f12).toList a0 = (((((a0.put (some 60) (mskV X.p (X.sv))).put (some 61) (mskV X.p (.slice X.aa X.l.length X.ac))).put (some 62) (γ 0)).put (some 63) (γ 1)).put (some 64) (γ 2)) := by kernel_rfl
/-- The region, whatever order comes up. -/
theorem PME.run (X : PME) (ok : PMEOk X) {Q : Exit → Act → World → Prop} (w : World) (h0 : X.Wd 0 (fun _ => undef) w.drew) (hend : ∀ (γ : Nat → Value) w', X.Wd 3 γ w' → Q .normal (((((X.a0.put (some 60) (mskV X.p (X.sv))).put (some 61) (mskV X.p (.slice X.aa X.l.length X.ac))).put (some 62) (γ 0)).put (some 63) (γ 1)).put (some 64) (γ 2)) w') : (Code.region 14 (opsOf 14 Try.f12) true).wp Try.prog Q X.a0 w := by
  refine reg_act (acts := PME.acts) (av := PME.av) (val0 := X.val0) (Wd := X.Wd) (by kernel_rfl) (by kernel_rfl) (by rw [PME.size]; decide) (fun i hi => PME.steps X ok i hi) _ h0 ?_
  intro γ w' h
  rw [PME.puts]
  exact hend γ w' h
structure PMF where
  bx : Nat
  ba : Nat
  p : MD
  sv : Value
  aa : Option Addr
  ac : Nat
  l : List Int
  W : World
  a0 : Act
structure PMFOk (X : PMF) : Prop where
  cx : MB X.W X.bx X.p X.sv
  ca : MB X.W X.ba X.p (.slice X.aa X.l.length X.ac)
  hi : Ints X.W X.aa X.l
  hs : RowI X.W X.sv X.l
  hl : X.l.length ≤ 1048576
  e4 : X.a0.eval (.tmp 4) = .pointer (some ⟨X.ba, 0, none⟩)
  e11 : X.a0.eval (.tmp 11) = .pointer (some ⟨X.bx, 0, none⟩)
  sz : X.a0.tmps.size = 127
def PMF.val0 (X : PMF) : Nat → Value
  | 65 => mskV X.p (X.sv)
  | 66 => mskV X.p (.slice X.aa X.l.length X.ac)
  | _ => undef
def PMF.av : Nat → Option Nat
  | 67 => some 0
  | 68 => some 1
  | 69 => some 2
  | _ => none
def PMF.acts : List Nat := [2, 3, 4]
/-- The world, by how many of the acting ones have come up. -/
def PMF.Wd (X : PMF) : Nat → (Nat → Value) → World → Prop
  | 0, _, w => Nw X.W w
  | 1, γ, w => ∃ g, γ 0 = mskV X.p (.slice (some ⟨g, 0, none⟩) X.l.length X.l.length) ∧ LayI w g X.l ∧ Nw X.W w
  | 2, γ, w => γ 1 = .bool true ∧ Nw X.W w
  | _, γ, w => γ 2 = .bool false ∧ Nw X.W w
theorem PMF.nw {X : PMF} : ∀ {n : Nat} {γ : Nat → Value} {w : World}, X.Wd n γ w → Nw X.W w
  | 0, _, _, h => h
  | 1, _, _, ⟨_, _, _, h⟩ => h
  | 2, _, _, ⟨_, h⟩ => h
  | _ + 3, _, _, ⟨_, h⟩ => h
theorem PMF.chain : chainG (opsOf 16 Try.f12) PMF.acts = true := by kernel_rfl
theorem PMF.nodup : PMF.acts.Nodup := by decide
theorem PMF.inj {listed : Array Bool} {i k : Nat} (h : (List.range (opsOf 16 Try.f12).size).all (fun j => decide (j = i) || !(match dstOf (opsOf 16 Try.f12) j with | some d => decide (PMF.av d = some k) | none => false)) = true) (hu : listed.getD i false = false) : ∀ d, got (opsOf 16 Try.f12) listed d → PMF.av d ≠ some k := by
  rintro d ⟨j, h1, h2⟩ h3
  have hlt : j < (opsOf 16 Try.f12).size := by
    rcases Nat.lt_or_ge j (opsOf 16 Try.f12).size with h4 | h4
    · exact h4
    · unfold dstOf at h2; rw [Array.getElem?_eq_none h4] at h2; cases h2
  have h5 := List.all_eq_true.1 h j (List.mem_range.2 hlt)
  rw [h2] at h5
  simp only [h3, decide_true, Bool.not_true, Bool.or_false, decide_eq_true_eq] at h5
  subst h5
  rw [hu] at h1
  cases h1
theorem PMF.s0 (X : PMF) (ok : PMFOk X) {Q : Exit → Act → World → Prop} : StepG (opsOf 16 Try.f12) PMF.acts PMF.av X.val0 X.Wd X.a0 Q 0 := by
  intro γ listed a w o hF hC hW h1 ho h2
  obtain ⟨hd, hop, hg⟩ := fields2 (x := some 65) (y := Op.load 75 (.tmp 11)) (z := none) (by kernel_rfl) ho
  have e11 : a.eval (.tmp 11) = .pointer (some ⟨X.bx, 0, none⟩) := (hF.eval0 (by kernel_rfl)).trans ok.e11
  obtain ⟨c0, c1, c2⟩ := MB.nw ok.cx (PMF.nw hW)
  refine st_pureG hF hC hW ho h2 (by decide) hd hg rfl ?_
  show _ = Result.ok (Next.value (mskV X.p (X.sv))) w
  generalize a.eval = ρ at e11 ⊢
  unfold execOp
  rw [hop]
  simp [e11, c0, c1, c2, go_sem]
theorem PMF.s1 (X : PMF) (ok : PMFOk X) {Q : Exit → Act → World → Prop} : StepG (opsOf 16 Try.f12) PMF.acts PMF.av X.val0 X.Wd X.a0 Q 1 := by
  intro γ listed a w o hF hC hW h1 ho h2
  obtain ⟨hd, hop, hg⟩ := fields2 (x := some 66) (y := Op.load 72 (.tmp 4)) (z := none) (by kernel_rfl) ho
  have e4 : a.eval (.tmp 4) = .pointer (some ⟨X.ba, 0, none⟩) := (hF.eval0 (by kernel_rfl)).trans ok.e4
  obtain ⟨c0, c1, c2⟩ := MB.nw ok.ca (PMF.nw hW)
  refine st_pureG hF hC hW ho h2 (by decide) hd hg rfl ?_
  show _ = Result.ok (Next.value (mskV X.p (.slice X.aa X.l.length X.ac))) w
  generalize a.eval = ρ at e4 ⊢
  unfold execOp
  rw [hop]
  simp [e4, c0, c1, c2, go_sem]
theorem PMF.s2 (X : PMF) (ok : PMFOk X) {Q : Exit → Act → World → Prop} : StepG (opsOf 16 Try.f12) PMF.acts PMF.av X.val0 X.Wd X.a0 Q 2 := by
  intro γ listed a w o hF hC hW h1 ho h2
  obtain ⟨hd, hop, hg⟩ := fields2 (x := some 67) (y := Op.call { callee := .value (.func 46), args := #[(.tmp 66)], argTypes := #[72] }) (z := none) (by kernel_rfl) ho
  have e66 : a.eval (.tmp 66) = mskV X.p (.slice X.aa X.l.length X.ac) := slotG hF ho h2 (j := 1) (d := 66) (by kernel_rfl) (by kernel_rfl) (by rw [ok.sz]; decide)
  have ef : a.eval (.func 46) = .func (.func 46) #[] #[] := rfl
  have hu := unl (hF.lt ho) h1
  refine st_actG (k := 0) PMF.chain PMF.nodup rfl hF hC hW h1 ho h2 (Or.inr ⟨67, hd, rfl⟩) (PMF.inj (by kernel_rfl) hu) hg ?_
  intro hW0 K hK
  have hr : (execOp a.eval o).run Try.prog w = .ok (.enter 46 #[mskV X.p (.slice X.aa X.l.length X.ac)]) w := by
    generalize a.eval = ρ at e66 ef ⊢
    unfold execOp
    rw [hop]
    simp [e66, ef, go_sem]
  unfold Oper.wp
  rw [hr]
  refine Calls.mono (toMask_any w X.p X.aa X.ac X.l ok.hl (ok.hi.nw hW0)) ?_
  rintro e w' ⟨g, rfl, n1, _, l1⟩
  exact hK _ _ ⟨g, rfl, l1, Nw.trans hW0 n1⟩
theorem PMF.s3 (X : PMF) (ok : PMFOk X) {Q : Exit → Act → World → Prop} : StepG (opsOf 16 Try.f12) PMF.acts PMF.av X.val0 X.Wd X.a0 Q 3 := by
  intro γ listed a w o hF hC hW h1 ho h2
  obtain ⟨hd, hop, hg⟩ := fields2 (x := some 68) (y := Op.call { callee := .value (.func 48), args := #[(.tmp 65), (.tmp 67)], argTypes := #[75, 75] }) (z := none) (by kernel_rfl) ho
  have e65 : a.eval (.tmp 65) = mskV X.p (X.sv) := slotG hF ho h2 (j := 0) (d := 65) (by kernel_rfl) (by kernel_rfl) (by rw [ok.sz]; decide)
  have e67 : a.eval (.tmp 67) = γ 0 := slotG hF ho h2 (j := 2) (d := 67) (by kernel_rfl) (by kernel_rfl) (by rw [ok.sz]; decide)
  have ef : a.eval (.func 48) = .func (.func 48) #[] #[] := rfl
  have hu := unl (hF.lt ho) h1
  refine st_actG (k := 1) PMF.chain PMF.nodup rfl hF hC hW h1 ho h2 (Or.inr ⟨68, hd, rfl⟩) (PMF.inj (by kernel_rfl) hu) hg ?_
  intro hW0 K hK
  obtain ⟨g, g0, l1, n1⟩ := hW0
  rw [g0] at e67
  have hr : (execOp a.eval o).run Try.prog w = .ok (.enter 48 #[mskV X.p (X.sv), mskV X.p (.slice (some ⟨g, 0, none⟩) X.l.length X.l.length)]) w := by
    generalize a.eval = ρ at e65 e67 ef ⊢
    unfold execOp
    rw [hop]
    simp [e65, e67, ef, go_sem]
  unfold Oper.wp
  rw [hr]
  refine Calls.mono (eqMask_any w X.p _ _ X.l ok.hl (ok.hs.nw n1) (l1.row)) ?_
  rintro e w' ⟨rfl, n2⟩
  exact hK _ _ ⟨rfl, Nw.trans n1 n2⟩
theorem PMF.s4 (X : PMF) (ok : PMFOk X) {Q : Exit → Act → World → Prop} : StepG (opsOf 16 Try.f12) PMF.acts PMF.av X.val0 X.Wd X.a0 Q 4 := by
  intro γ listed a w o hF hC hW h1 ho h2
  obtain ⟨hd, hop, hg⟩ := fields2 (x := some 69) (y := Op.unOp .not 4 (.tmp 68)) (z := none) (by kernel_rfl) ho
  have e68 : a.eval (.tmp 68) = γ 1 := slotG hF ho h2 (j := 3) (d := 68) (by kernel_rfl) (by kernel_rfl) (by rw [ok.sz]; decide)
  have hu := unl (hF.lt ho) h1
  refine st_actG (k := 2) PMF.chain PMF.nodup rfl hF hC hW h1 ho h2 (Or.inr ⟨69, hd, rfl⟩) (PMF.inj (by kernel_rfl) hu) hg ?_
  intro hW0 K hK
  obtain ⟨g0, n1⟩ := hW0
  rw [g0] at e68
  have hr : (execOp a.eval o).run Try.prog w = .ok (.value (.bool false)) w := by
    generalize a.eval = ρ at e68 ⊢
    unfold execOp
    rw [hop]
    simp [e68, go_sem]
  unfold Oper.wp
  rw [hr]
  exact hK _ _ ⟨rfl, n1⟩
theorem PMF.size : (opsOf 16 Try.f12).size = 5 := by kernel_rfl
theorem PMF.steps (X : PMF) (ok : PMFOk X) {Q : Exit → Act → World → Prop} (i : Nat) (hi : i < (opsOf 16 Try.f12).size) : StepG (opsOf 16 Try.f12) PMF.acts PMF.av X.val0 X.Wd X.a0 Q i := by
  rw [PMF.size] at hi
  have hc : i = 0 ∨ i = 1 ∨ i = 2 ∨ i = 3 ∨ i = 4 := by omega
  rcases hc with rfl | rfl | rfl | rfl | rfl
  · exact PMF.s0 X ok
  · exact PMF.s1 X ok
  · exact PMF.s2 X ok
  · exact PMF.s3 X ok
  · exact PMF.s4 X ok
theorem PMF.puts (X : PMF) (γ : Nat → Value) (a0 : Act) : putsL (valG PMF.av X.val0 γ) (opsOf 16 Try.f12).toList a0 = (((((a0.put (some 65) (mskV X.p (X.sv))).put (some 66) (mskV X.p (.slice X.aa X.l.length X.ac))).put (some 67) (γ 0)).put (some 68) (γ 1)).put (some 69) (γ 2)) := by kernel_rfl
/-- The region, whatever order comes up. -/
theorem PMF.run (X : PMF) (ok : PMFOk X) {Q : Exit → Act → World → Prop} (w : World) (h0 : X.Wd 0 (fun _ => undef) w.drew) (hend : ∀ (γ : Nat → Value) w', X.Wd 3 γ w' → Q .normal (((((X.a0.put (some 65) (mskV X.p (X.sv))).put (some 66) (mskV X.p (.slice X.aa X.l.length X.ac))).put (some 67) (γ 0)).put (some 68) (γ 1)).put (some 69) (γ 2)) w') : (Code.region 16 (opsOf 16 Try.f12) true).wp Try.prog Q X.a0 w := by
  refine reg_act (acts := PMF.acts) (av := PMF.av) (val0 := X.val0) (Wd := X.Wd) (by kernel_rfl) (by kernel_rfl) (by rw [PMF.size]; decide) (fun i hi => PMF.steps X ok i hi) _ h0 ?_
  intro γ w' h
  rw [PMF.puts]
  exact hend γ w' h
end Go.Proofs.Ythlohbiocfeapaa
