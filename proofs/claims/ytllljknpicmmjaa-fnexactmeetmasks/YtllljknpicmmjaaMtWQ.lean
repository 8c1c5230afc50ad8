/-
  The statements of the law on MeetMasks that hold the arguments' copies against them and draw their order; each theorem names its conditions.
-/
import Derived.Test.YtllljknpicmmjaaMsk
import Derived.Test.YtllljknpicmmjaaRq
namespace Go.Proofs.Ytllljknpicmmjaa
open Go.ChangeShapes Go.WideShapes Go.ChangeAt Go.RowKit
set_option linter.unusedVariables false

structure ME where
  bx : Nat
  ba : Nat
  p : MD
  sv : Value
  aa : Option Addr
  ac : Nat
  l : List Int
  W : World
  a0 : Act
structure MEOk (X : ME) : Prop where
  cx : MB X.W X.bx X.p X.sv
  ca : MB X.W X.ba X.p (.slice X.aa X.l.length X.ac)
  hi : Ints X.W X.aa X.l
  hs : RowI X.W X.sv X.l
  hl : X.l.length ≤ 1048576
  e2 : X.a0.eval (.tmp 2) = .pointer (some ⟨X.ba, 0, none⟩)
  e8 : X.a0.eval (.tmp 8) = .pointer (some ⟨X.bx, 0, none⟩)
  sz : X.a0.tmps.size = 119
def ME.val0 (X : ME) : Nat → Value
  | 54 => mskV X.p (X.sv)
  | 55 => mskV X.p (.slice X.aa X.l.length X.ac)
  | _ => undef
def ME.av : Nat → Option Nat
  | 56 => some 0
  | 57 => some 1
  | 58 => some 2
  | _ => none
def ME.acts : List Nat := [2, 3, 4]
/-- The world, by how many of the acting ones have come up. -/
def ME.Wd (X : ME) : Nat → (Nat → Value) → World → Prop
  | 0, _, w => Nw X.W w
  | 1, γ, w => ∃ g, γ 0 = mskV X.p (.slice (some ⟨g, 0, none⟩) X.l.length X.l.length) ∧ LayI w g X.l ∧ Nw X.W w
  | 2, γ, w => γ 1 = .bool true ∧ Nw X.W w
  | _, γ, w => γ 2 = .bool false ∧ Nw X.W w
theorem ME.nw {X : ME} : ∀ {n : Nat} {γ : Nat → Value} {w : World}, X.Wd n γ w → Nw X.W w
  | 0, _, _, h => h
  | 1, _, _, ⟨_, _, _, h⟩ => h
  | 2, _, _, ⟨_, h⟩ => h
  | _ + 3, _, _, ⟨_, h⟩ => h
theorem ME.chain : chainG (opsOf 14 Try.f8) ME.acts = true := by kernel_rfl
theorem ME.nodup : ME.acts.Nodup := by decide
theorem ME.inj {listed : Array Bool} {i k : Nat} (h : (List.range (opsOf 14 Try.f8).size).all (fun j => decide (j = i) || !(match dstOf (opsOf 14 Try.f8) j with | some d => decide (ME.av d = some k) | none => false)) = true) (hu : listed.getD i false = false) : ∀ d, got (opsOf 14 Try.f8) listed d → ME.av d ≠ some k := by
  rintro d ⟨j, h1, h2⟩ h3
  have hlt : j < (opsOf 14 Try.f8).size := by
    rcases Nat.lt_or_ge j (opsOf 14 Try.f8).size with h4 | h4
    · exact h4
    · unfold dstOf at h2; rw [Array.getElem?_eq_none h4] at h2; cases h2
  have h5 := List.all_eq_true.1 h j (List.mem_range.2 hlt)
  rw [h2] at h5
  simp only [h3, decide_true, Bool.not_true, Bool.or_false, decide_eq_true_eq] at h5
  subst h5
  rw [hu] at h1
  cases h1
theorem ME.s0 (X : ME) (ok : MEOk X) {Q : Exit → Act → World → Prop} : StepG (opsOf 14 Try.f8) ME.acts ME.av X.val0 X.Wd X.a0 Q 0 := by
  intro γ listed a w o hF hC hW h1 ho h2
  obtain ⟨hd, hop, hg⟩ := fields2 (x := some 54) (y := Op.load 28 (.tmp 8)) (z := none) (by kernel_rfl) ho
  have e8 : a.eval (.tmp 8) = .pointer (some ⟨X.bx, 0, none⟩) := (hF.eval0 (by kernel_rfl)).trans ok.e8
  obtain ⟨c0, c1, c2⟩ := MB.nw ok.cx (ME.nw hW)
  refine st_pureG hF hC hW ho h2 (by decide) hd hg rfl ?_
  show _ = Result.ok (Next.value (mskV X.p (X.sv))) w
  generalize a.eval = ρ at e8 ⊢
  unfold execOp
  rw [hop]
  simp [e8, c0, c1, c2, go_sem]
theorem ME.s1 (X : ME) (ok : MEOk X) {Q : Exit → Act → World → Prop} : StepG (opsOf 14 Try.f8) ME.acts ME.av X.val0 X.Wd X.a0 Q 1 := by
  intro γ listed a w o hF hC hW h1 ho h2
  obtain ⟨hd, hop, hg⟩ := fields2 (x := some 55) (y := Op.load 57 (.tmp 2)) (z := none) (by kernel_rfl) ho
  have e2 : a.eval (.tmp 2) = .pointer (some ⟨X.ba, 0, none⟩) := (hF.eval0 (by kernel_rfl)).trans ok.e2
  obtain ⟨c0, c1, c2⟩ := MB.nw ok.ca (ME.nw hW)
  refine st_pureG hF hC hW ho h2 (by decide) hd hg rfl ?_
  show _ = Result.ok (Next.value (mskV X.p (.slice X.aa X.l.length X.ac))) w
  generalize a.eval = ρ at e2 ⊢
  unfold execOp
  rw [hop]
  simp [e2, c0, c1, c2, go_sem]
theorem ME.s2 (X : ME) (ok : MEOk X) {Q : Exit → Act → World → Prop} : StepG (opsOf 14 Try.f8) ME.acts ME.av X.val0 X.Wd X.a0 Q 2 := by
  intro γ listed a w o hF hC hW h1 ho h2
  obtain ⟨hd, hop, hg⟩ := fields2 (x := some 56) (y := Op.call { callee := .value (.func 31), args := #[(.tmp 55)], argTypes := #[57] }) (z := none) (by kernel_rfl) ho
  have e55 : a.eval (.tmp 55) = mskV X.p (.slice X.aa X.l.length X.ac) := slotG hF ho h2 (j := 1) (d := 55) (by kernel_rfl) (by kernel_rfl) (by rw [ok.sz]; decide)
  have ef : a.eval (.func 31) = .func (.func 31) #[] #[] := rfl
  have hu := unl (hF.lt ho) h1
  refine st_actG (k := 0) ME.chain ME.nodup rfl hF hC hW h1 ho h2 (Or.inr ⟨56, hd, rfl⟩) (ME.inj (by kernel_rfl) hu) hg ?_
  intro hW0 K hK
  have hr : (execOp a.eval o).run Try.prog w = .ok (.enter 31 #[mskV X.p (.slice X.aa X.l.length X.ac)]) w := by
    generalize a.eval = ρ at e55 ef ⊢
    unfold execOp
    rw [hop]
    simp [e55, ef, go_sem]
  unfold Oper.wp
  rw [hr]
  refine Calls.mono (toMask_any w X.p X.aa X.ac X.l ok.hl (ok.hi.nw hW0)) ?_
  rintro e w' ⟨g, rfl, n1, _, l1⟩
  exact hK _ _ ⟨g, rfl, l1, Nw.trans hW0 n1⟩
theorem ME.s3 (X : ME) (ok : MEOk X) {Q : Exit → Act → World → Prop} : StepG (opsOf 14 Try.f8) ME.acts ME.av X.val0 X.Wd X.a0 Q 3 := by
  intro γ listed a w o hF hC hW h1 ho h2
  obtain ⟨hd, hop, hg⟩ := fields2 (x := some 57) (y := Op.call { callee := .value (.func 25), args := #[(.tmp 54), (.tmp 56)], argTypes := #[28, 28] }) (z := none) (by kernel_rfl) ho
  have e54 : a.eval (.tmp 54) = mskV X.p (X.sv) := slotG hF ho h2 (j := 0) (d := 54) (by kernel_rfl) (by kernel_rfl) (by rw [ok.sz]; decide)
  have e56 : a.eval (.tmp 56) = γ 0 := slotG hF ho h2 (j := 2) (d := 56) (by kernel_rfl) (by kernel_rfl) (by rw [ok.sz]; decide)
  have ef : a.eval (.func 25) = .func (.func 25) #[] #[] := rfl
  have hu := unl (hF.lt ho) h1
  refine st_actG (k := 1) ME.chain ME.nodup rfl hF hC hW h1 ho h2 (Or.inr ⟨57, hd, rfl⟩) (ME.inj (by kernel_rfl) hu) hg ?_
  intro hW0 K hK
  obtain ⟨g, g0, l1, n1⟩ := hW0
  rw [g0] at e56
  have hr : (execOp a.eval o).run Try.prog w = .ok (.enter 25 #[mskV X.p (X.sv), mskV X.p (.slice (some ⟨g, 0, none⟩) X.l.length X.l.length)]) w := by
    generalize a.eval = ρ at e54 e56 ef ⊢
    unfold execOp
    rw [hop]
    simp [e54, e56, ef, go_sem]
  unfold Oper.wp
  rw [hr]
  refine Calls.mono (eqMask_any w X.p _ _ X.l ok.hl (ok.hs.nw n1) (l1.row)) ?_
  rintro e w' ⟨rfl, n2⟩
  exact hK _ _ ⟨rfl, Nw.trans n1 n2⟩
theorem ME.s4 (X : ME) (ok : MEOk X) {Q : Exit → Act → World → Prop} : StepG (opsOf 14 Try.f8) ME.acts ME.av X.val0 X.Wd X.a0 Q 4 := by
  intro γ listed a w o hF hC hW h1 ho h2
  obtain ⟨hd, hop, hg⟩ := fields2 (x := some 58) (y := Op.unOp .not 4 (.tmp 57)) (z := none) (by kernel_rfl) ho
  have e57 : a.eval (.tmp 57) = γ 1 := slotG hF ho h2 (j := 3) (d := 57) (by kernel_rfl) (by kernel_rfl) (by rw [ok.sz]; decide)
  have hu := unl (hF.lt ho) h1
  refine st_actG (k := 2) ME.chain ME.nodup rfl hF hC hW h1 ho h2 (Or.inr ⟨58, hd, rfl⟩) (ME.inj (by kernel_rfl) hu) hg ?_
  intro hW0 K hK
  obtain ⟨g0, n1⟩ := hW0
  rw [g0] at e57
  have hr : (execOp a.eval o).run Try.prog w = .ok (.value (.bool false)) w := by
    generalize a.eval = ρ at e57 ⊢
    unfold execOp
    rw [hop]
    simp [e57, go_sem]
  unfold Oper.wp
  rw [hr]
  exact hK _ _ ⟨rfl, n1⟩
theorem ME.size : (opsOf 14 Try.f8).size = 5 := by kernel_rfl
theorem ME.steps (X : ME) (ok : MEOk X) {Q : Exit → Act → World → Prop} (i : Nat) (hi : i < (opsOf 14 Try.f8).size) : StepG (opsOf 14 Try.f8) ME.acts ME.av X.val0 X.Wd X.a0 Q i := by
  rw [ME.size] at hi
  have hc : i = 0 ∨ i = 1 ∨ i = 2 ∨ i = 3 ∨ i = 4 := by omega
  rcases hc with rfl | rfl | rfl | rfl | rfl
  · exact ME.s0 X ok
  · exact ME.s1 X ok
  · exact ME.s2 X ok
  · exact ME.s3 X ok
  · exact ME.s4 X ok
theorem ME.puts (X : ME) (γ : Nat → Value) (a0 : Act) : putsL (valG ME.av X.val0 γ) (opsOf 14 Try.f8).toList a0 = (((((a0.put (some 54) (mskV X.p (X.sv))).put (some 55) (mskV X.p (.slice X.aa X.l.length X.ac))).put (some 56) (γ 0)).put (some 57) (γ 1)).put (some 58) (γ 2)) := by kernel_rfl
/-- The region, whatever order comes up. -/
theorem ME.run (X : ME) (ok : MEOk X) {Q : Exit → Act → World → Prop} (w : World) (h0 : X.Wd 0 (fun _ => undef) w.drew) (hend : ∀ (γ : Nat → Value) w', X.Wd 3 γ w' → Q .normal (((((X.a0.put (some 54) (mskV X.p (X.sv))).put (some 55) (mskV X.p (.slice X.aa X.l.length X.ac))).put (some 56) (γ 0)).put (some 57) (γ 1)).put (some 58) (γ 2)) w') : (Code.region 14 (opsOf 14 Try.f8) true).wp Try.prog Q X.a0 w := by
  refine reg_act (acts := ME.acts) (av := ME.av) (val0 := X.val0) (Wd := X.Wd) (by kernel_rfl) (by kernel_rfl) (by rw [ME.size]; decide) (fun i hi => ME.steps X ok i hi) _ h0 ?_
  intro γ w' h
  rw [ME.puts]
  exact hend γ w' h
structure MF where
  bx : Nat
  ba : Nat
  p : MD
  sv : Value
  aa : Option Addr
  ac : Nat
  l : List Int
  W : World
  a0 : Act
structure MFOk (X : MF) : Prop where
  cx : MB X.W X.bx X.p X.sv
  ca : MB X.W X.ba X.p (.slice X.aa X.l.length X.ac)
  hi : Ints X.W X.aa X.l
  hs : RowI X.W X.sv X.l
  hl : X.l.length ≤ 1048576
  e3 : X.a0.eval (.tmp 3) = .pointer (some ⟨X.ba, 0, none⟩)
  e9 : X.a0.eval (.tmp 9) = .pointer (some ⟨X.bx, 0, none⟩)
  sz : X.a0.tmps.size = 119
def MF.val0 (X : MF) : Nat → Value
  | 59 => mskV X.p (X.sv)
  | 60 => mskV X.p (.slice X.aa X.l.length X.ac)
  | _ => undef
def MF.av : Nat → Option Nat
  | 61 => some 0
  | 62 => some 1
  | 63 => some 2
  | _ => none
def MF.acts : List Nat := [2, 3, 4]
/-- The world, by how many of the acting ones have come up. -/
def MF.Wd (X : MF) : Nat → (Nat → Value) → World → Prop
  | 0, _, w => Nw X.W w
  | 1, γ, w => ∃ g, γ 0 = mskV X.p (.slice (some ⟨g, 0, none⟩) X.l.length X.l.length) ∧ LayI w g X.l ∧ Nw X.W w
  | 2, γ, w => γ 1 = .bool true ∧ Nw X.W w
  | _, γ, w => γ 2 = .bool false ∧ Nw X.W w
theorem MF.nw {X : MF} : ∀ {n : Nat} {γ : Nat → Value} {w : World}, X.Wd n γ w → Nw X.W w
  | 0, _, _, h => h
  | 1, _, _, ⟨_, _, _, h⟩ => h
  | 2, _, _, ⟨_, h⟩ => h
  | _ + 3, _, _, ⟨_, h⟩ => h
theorem MF.chain : chainG (opsOf 16 Try.f8) MF.acts = true := by kernel_rfl
theorem MF.nodup : MF.acts.Nodup := by decide
theorem MF.inj {listed : Array Bool} {i k : Nat} (h : (List.range (opsOf 16 Try.f8).size).all (fun j => decide (j = i) || !(match dstOf (opsOf 16 Try.f8) j with | some d => decide (MF.av d = some k) | none => false)) = true) (hu : listed.getD i false = false) : ∀ d, got (opsOf 16 Try.f8) listed d → MF.av d ≠ some k := by
  rintro d ⟨j, h1, h2⟩ h3
  have hlt : j < (opsOf 16 Try.f8).size := by
    rcases Nat.lt_or_ge j (opsOf 16 Try.f8).size with h4 | h4
    · exact h4
    · unfold dstOf at h2; rw [Array.getElem?_eq_none h4] at h2; cases h2
  have h5 := List.all_eq_true.1 h j (List.mem_range.2 hlt)
  rw [h2] at h5
  simp only [h3, decide_true, Bool.not_true, Bool.or_false, decide_eq_true_eq] at h5
  subst h5
  rw [hu] at h1
  cases h1
theorem MF.s0 (X : MF) (ok : MFOk X) {Q : Exit → Act → World → Prop} : StepG (opsOf 16 Try.f8) MF.acts MF.av X.val0 X.Wd X.a0 Q 0 := by
  intro γ listed a w o hF hC hW h1 ho h2
  obtain ⟨hd, hop, hg⟩ := fields2 (x := some 59) (y := Op.load 28 (.tmp 9)) (z := none) (by kernel_rfl) ho
  have e9 : a.eval (.tmp 9) = .pointer (some ⟨X.bx, 0, none⟩) := (hF.eval0 (by kernel_rfl)).trans ok.e9
  obtain ⟨c0, c1, c2⟩ := MB.nw ok.cx (MF.nw hW)
  refine st_pureG hF hC hW ho h2 (by decide) hd hg rfl ?_
  show _ = Result.ok (Next.value (mskV X.p (X.sv))) w
  generalize a.eval = ρ at e9 ⊢
  unfold execOp
  rw [hop]
  simp [e9, c0, c1, c2, go_sem]
theorem MF.s1 (X : MF) (ok : MFOk X) {Q : Exit → Act → World → Prop} : StepG (opsOf 16 Try.f8) MF.acts MF.av X.val0 X.Wd X.a0 Q 1 := by
  intro γ listed a w o hF hC hW h1 ho h2
  obtain ⟨hd, hop, hg⟩ := fields2 (x := some 60) (y := Op.load 57 (.tmp 3)) (z := none) (by kernel_rfl) ho
  have e3 : a.eval (.tmp 3) = .pointer (some ⟨X.ba, 0, none⟩) := (hF.eval0 (by kernel_rfl)).trans ok.e3
  obtain ⟨c0, c1, c2⟩ := MB.nw ok.ca (MF.nw hW)
  refine st_pureG hF hC hW ho h2 (by decide) hd hg rfl ?_
  show _ = Result.ok (Next.value (mskV X.p (.slice X.aa X.l.length X.ac))) w
  generalize a.eval = ρ at e3 ⊢
  unfold execOp
  rw [hop]
  simp [e3, c0, c1, c2, go_sem]
theorem MF.s2 (X : MF) (ok : MFOk X) {Q : Exit → Act → World → Prop} : StepG (opsOf 16 Try.f8) MF.acts MF.av X.val0 X.Wd X.a0 Q 2 := by
  intro γ listed a w o hF hC hW h1 ho h2
  obtain ⟨hd, hop, hg⟩ := fields2 (x := some 61) (y := Op.call { callee := .value (.func 31), args := #[(.tmp 60)], argTypes := #[57] }) (z := none) (by kernel_rfl) ho
  have e60 : a.eval (.tmp 60) = mskV X.p (.slice X.aa X.l.length X.ac) := slotG hF ho h2 (j := 1) (d := 60) (by kernel_rfl) (by kernel_rfl) (by rw [ok.sz]; decide)
  have ef : a.eval (.func 31) = .func (.func 31) #[] #[] := rfl
  have hu := unl (hF.lt ho) h1
  refine st_actG (k := 0) MF.chain MF.nodup rfl hF hC hW h1 ho h2 (Or.inr ⟨61, hd, rfl⟩) (MF.inj (by kernel_rfl) hu) hg ?_
  intro hW0 K hK
  have hr : (execOp a.eval o).run Try.prog w = .ok (.enter 31 #[mskV X.p (.slice X.aa X.l.length X.ac)]) w := by
    generalize a.eval = ρ at e60 ef ⊢
    unfold execOp
    rw [hop]
    simp [e60, ef, go_sem]
  unfold Oper.wp
  rw [hr]
  refine Calls.mono (toMask_any w X.p X.aa X.ac X.l ok.hl (ok.hi.nw hW0)) ?_
  rintro e w' ⟨g, rfl, n1, _, l1⟩
  exact hK _ _ ⟨g, rfl, l1, Nw.trans hW0 n1⟩
theorem MF.s3 (X : MF) (ok : MFOk X) {Q : Exit → Act → World → Prop} : StepG (opsOf 16 Try.f8) MF.acts MF.av X.val0 X.Wd X.a0 Q 3 := by
  intro γ listed a w o hF hC hW h1 ho h2
  obtain ⟨hd, hop, hg⟩ := fields2 (x := some 62) (y := Op.call { callee := .value (.func 25), args := #[(.tmp 59), (.tmp 61)], argTypes := #[28, 28] }) (z := none) (by kernel_rfl) ho
  have e59 : a.eval (.tmp 59) = mskV X.p (X.sv) := slotG hF ho h2 (j := 0) (d := 59) (by kernel_rfl) (by kernel_rfl) (by rw [ok.sz]; decide)
  have e61 : a.eval (.tmp 61) = γ 0 := slotG hF ho h2 (j := 2) (d := 61) (by kernel_rfl) (by kernel_rfl) (by rw [ok.sz]; decide)
  have ef : a.eval (.func 25) = .func (.func 25) #[] #[] := rfl
  have hu := unl (hF.lt ho) h1
  refine st_actG (k := 1) MF.chain MF.nodup rfl hF hC hW h1 ho h2 (Or.inr ⟨62, hd, rfl⟩) (MF.inj (by kernel_rfl) hu) hg ?_
  intro hW0 K hK
  obtain ⟨g, g0, l1, n1⟩ := hW0
  rw [g0] at e61
  have hr : (execOp a.eval o).run Try.prog w = .ok (.enter 25 #[mskV X.p (X.sv), mskV X.p (.slice (some ⟨g, 0, none⟩) X.l.length X.l.length)]) w := by
    generalize a.eval = ρ at e59 e61 ef ⊢
    unfold execOp
    rw [hop]
    simp [e59, e61, ef, go_sem]
  unfold Oper.wp
  rw [hr]
  refine Calls.mono (eqMask_any w X.p _ _ X.l ok.hl (ok.hs.nw n1) (l1.row)) ?_
  rintro e w' ⟨rfl, n2⟩
  exact hK _ _ ⟨rfl, Nw.trans n1 n2⟩
theorem MF.s4 (X : MF) (ok : MFOk X) {Q : Exit → Act → World → Prop} : StepG (opsOf 16 Try.f8) MF.acts MF.av X.val0 X.Wd X.a0 Q 4 := by
  intro γ listed a w o hF hC hW h1 ho h2
  obtain ⟨hd, hop, hg⟩ := fields2 (x := some 63) (y := Op.unOp .not 4 (.tmp 62)) (z := none) (by kernel_rfl) ho
  have e62 : a.eval (.tmp 62) = γ 1 := slotG hF ho h2 (j := 3) (d := 62) (by kernel_rfl) (by kernel_rfl) (by rw [ok.sz]; decide)
  have hu := unl (hF.lt ho) h1
  refine st_actG (k := 2) MF.chain MF.nodup rfl hF hC hW h1 ho h2 (Or.inr ⟨63, hd, rfl⟩) (MF.inj (by kernel_rfl) hu) hg ?_
  intro hW0 K hK
  obtain ⟨g0, n1⟩ := hW0
  rw [g0] at e62
  have hr : (execOp a.eval o).run Try.prog w = .ok (.value (.bool false)) w := by
    generalize a.eval = ρ at e62 ⊢
    unfold execOp
    rw [hop]
    simp [e62, go_sem]
  unfold Oper.wp
  rw [hr]
  exact hK _ _ ⟨rfl, n1⟩
theorem MF.size : (opsOf 16 Try.f8).size = 5 := by kernel_rfl
theorem MF.steps (X : MF) (ok : MFOk X) {Q : Exit → Act → World → Prop} (i : Nat) (hi : i < (opsOf 16 Try.f8).size) : StepG (opsOf 16 Try.f8) MF.acts MF.av X.val0 X.Wd X.a0 Q i := by
  rw [MF.size] at hi
  have hc : i = 0 ∨ i = 1 ∨ i = 2 ∨ i = 3 ∨ i = 4 := by omega
  rcases hc with rfl | rfl | rfl | rfl | rfl
  · exact MF.s0 X ok
  · exact MF.s1 X ok
  · exact MF.s2 X ok
  · exact MF.s3 X ok
  · exact MF.s4 X ok
theorem MF.puts (X : MF) (γ : Nat → Value) (a0 : Act) : putsL (valG MF.av X.val0 γ) (opsOf 16 Try.f8).toList a0 = (((((a0.put (some 59) (mskV X.p (X.sv))).put (some 60) (mskV X.p (.slice X.aa X.l.length X.ac))).put (some 61) (γ 0)).put (some 62) (γ 1)).put (some 63) (γ 2)) := by kernel_rfl
/-- The region, whatever order comes up. -/
theorem MF.run (X : MF) (ok : MFOk X) {Q : Exit → Act → World → Prop} (w : World) (h0 : X.Wd 0 (fun _ => undef) w.drew) (hend : ∀ (γ : Nat → Value) w', X.Wd 3 γ w' → Q .normal (((((X.a0.put (some 59) (mskV X.p (X.sv))).put (some 60) (mskV X.p (.slice X.aa X.l.length X.ac))).put (some 61) (γ 0)).put (some 62) (γ 1)).put (some 63) (γ 2)) w') : (Code.region 16 (opsOf 16 Try.f8) true).wp Try.prog Q X.a0 w := by
  refine reg_act (acts := MF.acts) (av := MF.av) (val0 := X.val0) (Wd := X.Wd) (by kernel_rfl) (by kernel_rfl) (by rw [MF.size]; decide) (fun i hi => MF.steps X ok i hi) _ h0 ?_
  intro γ w' h
  rw [MF.puts]
  exact hend γ w' h
end Go.Proofs.Ytllljknpicmmjaa
