/-
  The statement of the law on SheetBytes that draws its order; each theorem names its conditions.
-/
import Derived.Test.YthlohbiocfeapaaShT
import Derived.Test.YthlohbiocfeapaaRq
namespace Go.Proofs.Ythlohbiocfeapaa
open Go.ChangeShapes Go.WideShapes Go.ChangeAt Go.RowKit
set_option linter.unusedVariables false

structure SBX where
  bx : Nat
  ba : Nat
  p : MD
  sv : Value
  aa : Option Addr
  ac : Nat
  l : List Edg
  W : World
  a0 : Act
structure SBXOk (X : SBX) : Prop where
  cx : MB X.W X.bx X.p X.sv
  ca : MB X.W X.ba X.p (.slice X.aa X.l.length X.ac)
  hi : Edgs X.W X.aa X.l
  hs : RowQ X.W X.sv X.l
  hl : X.l.length ≤ 1048576
  e1 : X.a0.eval (.tmp 1) = .pointer (some ⟨X.ba, 0, none⟩)
  e6 : X.a0.eval (.tmp 6) = .pointer (some ⟨X.bx, 0, none⟩)
  sz : X.a0.tmps.size = 96
def SBX.val0 (X : SBX) : Nat → Value
  | 41 => mskV X.p (X.sv)
  | 42 => mskV X.p (.slice X.aa X.l.length X.ac)
  | _ => undef
def SBX.av : Nat → Option Nat
  | 43 => some 0
  | 44 => some 1
  | 45 => some 2
  | _ => none
def SBX.acts : List Nat := [2, 3, 4]
/-- The world, by how many of the acting ones have come up. -/
def SBX.Wd (X : SBX) : Nat → (Nat → Value) → World → Prop
  | 0, _, w => Nw X.W w
  | 1, γ, w => ∃ g, γ 0 = mskV X.p (.slice (some ⟨g, 0, none⟩) X.l.length X.l.length) ∧ LayS w g X.l ∧ Nw X.W w
  | 2, γ, w => γ 1 = .bool true ∧ Nw X.W w
  | _, γ, w => γ 2 = .bool false ∧ Nw X.W w
theorem SBX.nw {X : SBX} : ∀ {n : Nat} {γ : Nat → Value} {w : World}, X.Wd n γ w → Nw X.W w
  | 0, _, _, h => h
  | 1, _, _, ⟨_, _, _, h⟩ => h
  | 2, _, _, ⟨_, h⟩ => h
  | _ + 3, _, _, ⟨_, h⟩ => h
theorem SBX.chain : chainG (opsOf 10 Try.f14) SBX.acts = true := by kernel_rfl
theorem SBX.nodup : SBX.acts.Nodup := by decide
theorem SBX.inj {listed : Array Bool} {i k : Nat} (h : (List.range (opsOf 10 Try.f14).size).all (fun j => decide (j = i) || !(match dstOf (opsOf 10 Try.f14) j with | some d => decide (SBX.av d = some k) | none => false)) = true) (hu : listed.getD i false = false) : ∀ d, got (opsOf 10 Try.f14) listed d → SBX.av d ≠ some k := by
  rintro d ⟨j, h1, h2⟩ h3
  have hlt : j < (opsOf 10 Try.f14).size := by
    rcases Nat.lt_or_ge j (opsOf 10 Try.f14).size with h4 | h4
    · exact h4
    · unfold dstOf at h2; rw [Array.getElem?_eq_none h4] at h2; cases h2
  have h5 := List.all_eq_true.1 h j (List.mem_range.2 hlt)
  rw [h2] at h5
  simp only [h3, decide_true, Bool.not_true, Bool.or_false, decide_eq_true_eq] at h5
  subst h5
  rw [hu] at h1
  cases h1
theorem SBX.s0 (X : SBX) (ok : SBXOk X) {Q : Exit → Act → World → Prop} : StepG (opsOf 10 Try.f14) SBX.acts SBX.av X.val0 X.Wd X.a0 Q 0 := by
  intro γ listed a w o hF hC hW h1 ho h2
  obtain ⟨hd, hop, hg⟩ := fields2 (x := some 41) (y := Op.load 57 (.tmp 6)) (z := none) (by kernel_rfl) ho
  have e6 : a.eval (.tmp 6) = .pointer (some ⟨X.bx, 0, none⟩) := (hF.eval0 (by kernel_rfl)).trans ok.e6
  obtain ⟨c0, c1, c2⟩ := MB.nw ok.cx (SBX.nw hW)
  refine st_pureG hF hC hW ho h2 (by decide) hd hg rfl ?_
  show _ = Result.ok (Next.value (mskV X.p (X.sv))) w
  generalize a.eval = ρ at e6 ⊢
  unfold execOp
  rw [hop]
  simp [e6, c0, c1, c2, go_sem]
theorem SBX.s1 (X : SBX) (ok : SBXOk X) {Q : Exit → Act → World → Prop} : StepG (opsOf 10 Try.f14) SBX.acts SBX.av X.val0 X.Wd X.a0 Q 1 := by
  intro γ listed a w o hF hC hW h1 ho h2
  obtain ⟨hd, hop, hg⟩ := fields2 (x := some 42) (y := Op.load 65 (.tmp 1)) (z := none) (by kernel_rfl) ho
  have e1 : a.eval (.tmp 1) = .pointer (some ⟨X.ba, 0, none⟩) := (hF.eval0 (by kernel_rfl)).trans ok.e1
  obtain ⟨c0, c1, c2⟩ := MB.nw ok.ca (SBX.nw hW)
  refine st_pureG hF hC hW ho h2 (by decide) hd hg rfl ?_
  show _ = Result.ok (Next.value (mskV X.p (.slice X.aa X.l.length X.ac))) w
  generalize a.eval = ρ at e1 ⊢
  unfold execOp
  rw [hop]
  simp [e1, c0, c1, c2, go_sem]
theorem SBX.s2 (X : SBX) (ok : SBXOk X) {Q : Exit → Act → World → Prop} : StepG (opsOf 10 Try.f14) SBX.acts SBX.av X.val0 X.Wd X.a0 Q 2 := by
  intro γ listed a w o hF hC hW h1 ho h2
  obtain ⟨hd, hop, hg⟩ := fields2 (x := some 43) (y := Op.call { callee := .value (.func 42), args := #[(.tmp 42)], argTypes := #[65] }) (z := none) (by kernel_rfl) ho
  have e42 : a.eval (.tmp 42) = mskV X.p (.slice X.aa X.l.length X.ac) := slotG hF ho h2 (j := 1) (d := 42) (by kernel_rfl) (by kernel_rfl) (by rw [ok.sz]; decide)
  have ef : a.eval (.func 42) = .func (.func 42) #[] #[] := rfl
  have hu := unl (hF.lt ho) h1
  refine st_actG (k := 0) SBX.chain SBX.nodup rfl hF hC hW h1 ho h2 (Or.inr ⟨43, hd, rfl⟩) (SBX.inj (by kernel_rfl) hu) hg ?_
  intro hW0 K hK
  have hr : (execOp a.eval o).run Try.prog w = .ok (.enter 42 #[mskV X.p (.slice X.aa X.l.length X.ac)]) w := by
    generalize a.eval = ρ at e42 ef ⊢
    unfold execOp
    rw [hop]
    simp [e42, ef, go_sem]
  unfold Oper.wp
  rw [hr]
  refine Calls.mono (toSheet_any w X.p X.aa X.ac X.l ok.hl (ok.hi.nw hW0)) ?_
  rintro e w' ⟨g, rfl, n1, _, l1⟩
  exact hK _ _ ⟨g, rfl, l1, Nw.trans hW0 n1⟩
theorem SBX.s3 (X : SBX) (ok : SBXOk X) {Q : Exit → Act → World → Prop} : StepG (opsOf 10 Try.f14) SBX.acts SBX.av X.val0 X.Wd X.a0 Q 3 := by
  intro γ listed a w o hF hC hW h1 ho h2
  obtain ⟨hd, hop, hg⟩ := fields2 (x := some 44) (y := Op.call { callee := .value (.func 37), args := #[(.tmp 41), (.tmp 43)], argTypes := #[57, 57] }) (z := none) (by kernel_rfl) ho
  have e41 : a.eval (.tmp 41) = mskV X.p (X.sv) := slotG hF ho h2 (j := 0) (d := 41) (by kernel_rfl) (by kernel_rfl) (by rw [ok.sz]; decide)
  have e43 : a.eval (.tmp 43) = γ 0 := slotG hF ho h2 (j := 2) (d := 43) (by kernel_rfl) (by kernel_rfl) (by rw [ok.sz]; decide)
  have ef : a.eval (.func 37) = .func (.func 37) #[] #[] := rfl
  have hu := unl (hF.lt ho) h1
  refine st_actG (k := 1) SBX.chain SBX.nodup rfl hF hC hW h1 ho h2 (Or.inr ⟨44, hd, rfl⟩) (SBX.inj (by kernel_rfl) hu) hg ?_
  intro hW0 K hK
  obtain ⟨g, g0, l1, n1⟩ := hW0
  rw [g0] at e43
  have hr : (execOp a.eval o).run Try.prog w = .ok (.enter 37 #[mskV X.p (X.sv), mskV X.p (.slice (some ⟨g, 0, none⟩) X.l.length X.l.length)]) w := by
    generalize a.eval = ρ at e41 e43 ef ⊢
    unfold execOp
    rw [hop]
    simp [e41, e43, ef, go_sem]
  unfold Oper.wp
  rw [hr]
  refine Calls.mono (eqSheet_any w X.p _ _ X.l ok.hl (ok.hs.nw n1) (l1.row)) ?_
  rintro e w' ⟨rfl, n2⟩
  exact hK _ _ ⟨rfl, Nw.trans n1 n2⟩
theorem SBX.s4 (X : SBX) (ok : SBXOk X) {Q : Exit → Act → World → Prop} : StepG (opsOf 10 Try.f14) SBX.acts SBX.av X.val0 X.Wd X.a0 Q 4 := by
  intro γ listed a w o hF hC hW h1 ho h2
  obtain ⟨hd, hop, hg⟩ := fields2 (x := some 45) (y := Op.unOp .not 4 (.tmp 44)) (z := none) (by kernel_rfl) ho
  have e44 : a.eval (.tmp 44) = γ 1 := slotG hF ho h2 (j := 3) (d := 44) (by kernel_rfl) (by kernel_rfl) (by rw [ok.sz]; decide)
  have hu := unl (hF.lt ho) h1
  refine st_actG (k := 2) SBX.chain SBX.nodup rfl hF hC hW h1 ho h2 (Or.inr ⟨45, hd, rfl⟩) (SBX.inj (by kernel_rfl) hu) hg ?_
  intro hW0 K hK
  obtain ⟨g0, n1⟩ := hW0
  rw [g0] at e44
  have hr : (execOp a.eval o).run Try.prog w = .ok (.value (.bool false)) w := by
    generalize a.eval = ρ at e44 ⊢
    unfold execOp
    rw [hop]
    simp [e44, go_sem]
  unfold Oper.wp
  rw [hr]
  exact hK _ _ ⟨rfl, n1⟩
theorem SBX.size : (opsOf 10 Try.f14).size = 5 := by kernel_rfl
theorem SBX.steps (X : SBX) (ok : SBXOk X) {Q : Exit → Act → World → Prop} (i : Nat) (hi : i < (opsOf 10 Try.f14).size) : StepG (opsOf 10 Try.f14) SBX.acts SBX.av X.val0 X.Wd X.a0 Q i := by
  rw [SBX.size] at hi
  have hc : i = 0 ∨ i = 1 ∨ i = 2 ∨ i = 3 ∨ i = 4 := by omega
  rcases hc with rfl | rfl | rfl | rfl | rfl
  · exact SBX.s0 X ok
  · exact SBX.s1 X ok
  · exact SBX.s2 X ok
  · exact SBX.s3 X ok
  · exact SBX.s4 X ok
theorem SBX.puts (X : SBX) (γ : Nat → Value) (a0 : Act) : putsL (valG SBX.av X.val0 γ) (opsOf 10 Try.f14).toList a0 = (((((a0.put (some 41) (mskV X.p (X.sv))).put (some 42) (mskV X.p (.slice X.aa X.l.length X.ac))).put (some 43) (γ 0)).put (some 44) (γ 1)).put (some 45) (γ 2)) := by kernel_rfl
/-- The region, whatever order comes up. -/
theorem SBX.run (X : SBX) (ok : SBXOk X) {Q : Exit → Act → World → Prop} (w : World) (h0 : X.Wd 0 (fun _ => undef) w.drew) (hend : ∀ (γ : Nat → Value) w', X.Wd 3 γ w' → Q .normal (((((X.a0.put (some 41) (mskV X.p (X.sv))).put (some 42) (mskV X.p (.slice X.aa X.l.length X.ac))).put (some 43) (γ 0)).put (some 44) (γ 1)).put (some 45) (γ 2)) w') : (Code.region 10 (opsOf 10 Try.f14) true).wp Try.prog Q X.a0 w := by
  refine reg_act (acts := SBX.acts) (av := SBX.av) (val0 := X.val0) (Wd := X.Wd) (by kernel_rfl) (by kernel_rfl) (by rw [SBX.size]; decide) (fun i hi => SBX.steps X ok i hi) _ h0 ?_
  intro γ w' h
  rw [SBX.puts]
  exact hend γ w' h
end Go.Proofs.Ythlohbiocfeapaa
