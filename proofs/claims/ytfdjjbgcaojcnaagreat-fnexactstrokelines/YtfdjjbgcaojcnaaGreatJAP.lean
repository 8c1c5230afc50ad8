/-
  A region that draws its order and holds guarded operations whose guards are known; each theorem names its conditions.
  The statements of dashing's next, reach and lay that draw their order, whatever order comes up; each theorem names its conditions.
  Lines being ended, as pure functions; no condition.
  Lists of numbers of the call's own, to which numbers are appended; and what the laws' helpers do that hold two such lists against each other, mark one and look for the marks; each theorem names its conditions.
-/
import Derived.Test.YtfdjjbgcaojcnaaGreatJAH
import Derived.Test.YtfdjjbgcaojcnaaGreatJAG
import Derived.Test.YtfdjjbgcaojcnaaGreatJAI
import Derived.Test.YtfdjjbgcaojcnaaGreatJAD
namespace Go.Proofs.YtfdjjbgcaojcnaaGreat
open Go.ChangeShapes Go.WideShapes Go.ChangeAt Go.RowKit
set_option linter.unusedVariables false

section
variable {ops : Array Oper} {acts : List Nat} {av : Nat → Option Nat} {val0 : Nat → Value} {Wd : Nat → (Nat → Value) → World → Prop} {a0 : Act} {Q : Exit → Act → World → Prop}
theorem yl_of {a : Act} {j d : Nat} {v : Bool} (hd : dstOf ops j = some d) (hs : d < a.tmps.size) (he : a.eval (.tmp d) = .bool v) : yielded ops a.tmps j = some v := by
  have h1 : a.tmps.getD d undef = .bool v := he
  rw [Array.getD_eq_getD_getElem?, Array.getElem?_eq_getElem hs] at h1
  simp only [Option.getD_some] at h1
  unfold yielded
  unfold dstOf at hd
  rw [hd]
  simp only [Option.bind_some, Array.getElem?_eq_getElem hs, h1]
theorem wanted_of {o : Oper} {j : Nat} {b v : Bool} {a : Act} (hg : o.guard = some (j, b)) (hy : yielded ops a.tmps j = some v) : Region.wanted o (yielded ops a.tmps) = (v == b) := by
  unfold Region.wanted
  rw [hg]
  simp [hy]
/-- Its guard itself was not wanted. -/
theorem wanted_un {o : Oper} {j d : Nat} {b : Bool} {a : Act} (hg : o.guard = some (j, b)) (hd : dstOf ops j = some d) (hs : d < a.tmps.size) (he : a.eval (.tmp d) = undef) : Region.wanted o (yielded ops a.tmps) = false := by
  have h1 : a.tmps.getD d undef = undef := he
  rw [Array.getD_eq_getD_getElem?, Array.getElem?_eq_getElem hs] at h1
  simp only [Option.getD_some] at h1
  have hy : yielded ops a.tmps j = none := by
    unfold yielded
    unfold dstOf at hd
    rw [hd]
    simp only [Option.bind_some, Array.getElem?_eq_getElem hs, h1]
    rfl
  unfold Region.wanted
  rw [hg]
  simp [hy]
/-- A guarded operation that is wanted and leaves the world alone. -/
theorem st_pureW {γ : Nat → Value} {listed : Array Bool} {a : Act} {w : World} {i d : Nat} {o : Oper} (hF : FrI ops (valG av val0 γ) a0 listed a) (hC : Clo ops listed) (hW : Wd (phase listed acts) γ w) (ho : ops[i]? = some o) (h2 : ∀ e ∈ o.after, Region.binds .any e = true → listed.getD e.on false = true)
    (hna : i ∉ acts) (hd : o.dst = some d) (hw : Region.wanted o (yielded ops a.tmps) = true) (hav : av d = none) (hrun : (execOp a.eval o).run Tryz.prog w = .ok (.value (val0 d)) w) : wpOp Tryz.prog ops Q i (fun a' w' => InvG ops acts av val0 Wd a0 (listed.setIfInBounds i true) a' w') a w := by
  have hi := hF.lt ho
  unfold wpOp
  rw [ho]
  simp only [hw, if_true]
  refine Or.inl ?_
  unfold Oper.wp
  rw [hrun]
  have e : valG av val0 γ d = val0 d := by unfold valG; rw [hav]
  refine ⟨γ, ?_, hC.set hi ho h2, by rw [phase_ne hi acts hna]; exact hW⟩
  have := hF.put ho hd
  rw [e] at this
  exact this
theorem st_callW {γ : Nat → Value} {listed : Array Bool} {a : Act} {w : World} {i d : Nat} {o : Oper} {f : FuncId} {args : Array Value} (hF : FrI ops (valG av val0 γ) a0 listed a) (hC : Clo ops listed) (hW : Wd (phase listed acts) γ w) (ho : ops[i]? = some o) (h2 : ∀ e ∈ o.after, Region.binds .any e = true → listed.getD e.on false = true)
    (hna : i ∉ acts) (hd : o.dst = some d) (hw : Region.wanted o (yielded ops a.tmps) = true) (hav : av d = none) (hrun : (execOp a.eval o).run Tryz.prog w = .ok (.enter f args) w) (hc : Calls Tryz.prog f args w fun e w' => e = .returned (val0 d) ∧ Kp w w') (hk : ∀ w', Kp w w' → Wd (phase listed acts) γ w') :
    wpOp Tryz.prog ops Q i (fun a' w' => InvG ops acts av val0 Wd a0 (listed.setIfInBounds i true) a' w') a w := by
  have hi := hF.lt ho
  unfold wpOp
  rw [ho]
  simp only [hw, if_true]
  refine Or.inl ?_
  unfold Oper.wp
  rw [hrun]
  have e : valG av val0 γ d = val0 d := by unfold valG; rw [hav]
  refine Calls.mono hc ?_
  rintro e' w' ⟨rfl, hkk⟩
  refine ⟨γ, ?_, hC.set hi ho h2, by rw [phase_ne hi acts hna]; exact hk w' hkk⟩
  have := hF.put ho hd
  rw [e] at this
  exact this
/-- A guarded operation that is not wanted. -/
theorem st_skipW {γ : Nat → Value} {listed : Array Bool} {a : Act} {w : World} {i d : Nat} {o : Oper} (hF : FrI ops (valG av val0 γ) a0 listed a) (hC : Clo ops listed) (hW : Wd (phase listed acts) γ w) (ho : ops[i]? = some o) (h2 : ∀ e ∈ o.after, Region.binds .any e = true → listed.getD e.on false = true)
    (hna : i ∉ acts) (hd : o.dst = some d) (hw : Region.wanted o (yielded ops a.tmps) = false) (hav : av d = none) (hv : val0 d = undef) : wpOp Tryz.prog ops Q i (fun a' w' => InvG ops acts av val0 Wd a0 (listed.setIfInBounds i true) a' w') a w := by
  have hi := hF.lt ho
  unfold wpOp
  rw [ho]
  simp only [hw, Bool.false_eq_true, if_false]
  have e : valG av val0 γ d = undef := by unfold valG; rw [hav]; exact hv
  refine ⟨γ, ?_, hC.set hi ho h2, by rw [phase_ne hi acts hna]; exact hW⟩
  have := hF.put ho hd
  rw [e] at this
  exact this
end
end Go.Proofs.YtfdjjbgcaojcnaaGreat
namespace Go.Proofs.YtfdjjbgcaojcnaaGreat
open Go.ChangeShapes Go.WideShapes Go.ChangeAt Go.RowKit
set_option linter.unusedVariables false

structure NXR where
  bx : Nat
  nb : Nat
  no : Nat
  n : Nat
  nc : Nat
  a : Nat
  m : Nat
  x : Int
  W : World
  a0 : Act
structure NXROk (X : NXR) : Prop where
  cn : X.W.cell? ⟨X.bx, 0, none⟩ = some (.slice (some ⟨X.nb, X.no, none⟩) X.n X.nc)
  ca : X.W.cell? ⟨X.bx, 1, none⟩ = some (.int .i64 (X.a : Int))
  rm : (X.a : Int).tmod (X.n : Int) = (X.m : Int)
  hn : X.n ≠ 0
  hm : X.m < X.n
  cx : X.W.cell? ⟨X.nb, X.no + X.m, none⟩ = some (.int .i64 X.x)
  cz : ∃ z, X.W.cell? ⟨X.bx, 2, none⟩ = some (.int .i64 z)
  ff : ∀ o, X.W.frozen? ⟨X.bx, o, none⟩ = false
  e0 : X.a0.eval (.tmp 0) = .pointer (some ⟨X.bx, 0, none⟩)
  sz : X.a0.tmps.size = 28
def NXR.val0 (X : NXR) : Nat → Value
  | 9 => .pointer (some ⟨X.bx, 0, none⟩)
  | 10 => .pointer (some ⟨X.bx, 0, none⟩)
  | 11 => .pointer (some ⟨X.bx, 0, none⟩)
  | 12 => .pointer (some ⟨X.bx, 0, none⟩)
  | 13 => .slice (some ⟨X.nb, X.no, none⟩) X.n X.nc
  | 14 => .pointer (some ⟨X.bx, 0, none⟩)
  | 15 => .pointer (some ⟨X.bx, 0, none⟩)
  | 16 => .pointer (some ⟨X.bx, 1, none⟩)
  | 17 => .int .i64 (X.a : Int)
  | 18 => .pointer (some ⟨X.bx, 0, none⟩)
  | 19 => .pointer (some ⟨X.bx, 0, none⟩)
  | 20 => .pointer (some ⟨X.bx, 0, none⟩)
  | 21 => .slice (some ⟨X.nb, X.no, none⟩) X.n X.nc
  | 22 => .int .i64 (X.n : Int)
  | 23 => .int .i64 (X.m : Int)
  | 24 => .pointer (some ⟨X.nb, X.no + X.m, none⟩)
  | 25 => .int .i64 X.x
  | 26 => .pointer (some ⟨X.bx, 0, none⟩)
  | 27 => .pointer (some ⟨X.bx, 2, none⟩)
  | _ => undef
def NXR.av : Nat → Option Nat
  | _ => none
def NXR.acts : List Nat := [19]
/-- The world, by how many of the acting ones have come up. -/
def NXR.Wd (X : NXR) : Nat → (Nat → Value) → World → Prop
  | 0, _, w => w = X.W
  | _, _, w => w = X.W.setCell ⟨X.bx, 2, none⟩ (.int .i64 X.x)
theorem NXR.chain : chainG (opsOf 1 Tryz.f59) NXR.acts = true := by kernel_rfl
theorem NXR.nodup : NXR.acts.Nodup := by decide
theorem NXR.inj {listed : Array Bool} {i k : Nat} (h : (List.range (opsOf 1 Tryz.f59).size).all (fun j => decide (j = i) || !(match dstOf (opsOf 1 Tryz.f59) j with | some d => decide (NXR.av d = some k) | none => false)) = true) (hu : listed.getD i false = false) : ∀ d, got (opsOf 1 Tryz.f59) listed d → NXR.av d ≠ some k := by
  rintro d ⟨j, h1, h2⟩ h3
  have hlt : j < (opsOf 1 Tryz.f59).size := by
    rcases Nat.lt_or_ge j (opsOf 1 Tryz.f59).size with h4 | h4
    · exact h4
    · unfold dstOf at h2; rw [Array.getElem?_eq_none h4] at h2; cases h2
  have h5 := List.all_eq_true.1 h j (List.mem_range.2 hlt)
  rw [h2] at h5
  simp only [h3, decide_true, Bool.not_true, Bool.or_false, decide_eq_true_eq] at h5
  subst h5
  rw [hu] at h1
  cases h1
theorem NXR.s0 (X : NXR) (ok : NXROk X) {Q : Exit → Act → World → Prop} : StepG (opsOf 1 Tryz.f59) NXR.acts NXR.av X.val0 X.Wd X.a0 Q 0 := by
  intro γ listed a w o hF hC hW h1 ho h2
  obtain ⟨hd, hop, hg⟩ := fields2 (x := some 9) (y := Op.move (.tmp 0)) (z := none) (by kernel_rfl) ho
  have e0 : a.eval (.tmp 0) = .pointer (some ⟨X.bx, 0, none⟩) := (hF.eval0 (by kernel_rfl)).trans ok.e0
  refine st_pureG hF hC hW ho h2 (by decide) hd hg rfl ?_
  show _ = Result.ok (Next.value (.pointer (some ⟨X.bx, 0, none⟩))) w
  generalize a.eval = ρ at e0 ⊢
  unfold execOp
  rw [hop]
  simp [e0, go_sem]
theorem NXR.s1 (X : NXR) (ok : NXROk X) {Q : Exit → Act → World → Prop} : StepG (opsOf 1 Tryz.f59) NXR.acts NXR.av X.val0 X.Wd X.a0 Q 1 := by
  intro γ listed a w o hF hC hW h1 ho h2
  obtain ⟨hd, hop, hg⟩ := fields2 (x := some 10) (y := Op.move (.tmp 0)) (z := none) (by kernel_rfl) ho
  have e0 : a.eval (.tmp 0) = .pointer (some ⟨X.bx, 0, none⟩) := (hF.eval0 (by kernel_rfl)).trans ok.e0
  refine st_pureG hF hC hW ho h2 (by decide) hd hg rfl ?_
  show _ = Result.ok (Next.value (.pointer (some ⟨X.bx, 0, none⟩))) w
  generalize a.eval = ρ at e0 ⊢
  unfold execOp
  rw [hop]
  simp [e0, go_sem]
theorem NXR.s2 (X : NXR) (ok : NXROk X) {Q : Exit → Act → World → Prop} : StepG (opsOf 1 Tryz.f59) NXR.acts NXR.av X.val0 X.Wd X.a0 Q 2 := by
  intro γ listed a w o hF hC hW h1 ho h2
  obtain ⟨hd, hop, hg⟩ := fields2 (x := some 11) (y := Op.nilCheck (.tmp 10)) (z := none) (by kernel_rfl) ho
  have e10 : a.eval (.tmp 10) = .pointer (some ⟨X.bx, 0, none⟩) := slotG hF ho h2 (j := 1) (d := 10) (by kernel_rfl) (by kernel_rfl) (by rw [ok.sz]; decide)
  refine st_pureG hF hC hW ho h2 (by decide) hd hg rfl ?_
  show _ = Result.ok (Next.value (.pointer (some ⟨X.bx, 0, none⟩))) w
  generalize a.eval = ρ at e10 ⊢
  unfold execOp
  rw [hop]
  simp [e10, go_sem]
theorem NXR.s3 (X : NXR) (ok : NXROk X) {Q : Exit → Act → World → Prop} : StepG (opsOf 1 Tryz.f59) NXR.acts NXR.av X.val0 X.Wd X.a0 Q 3 := by
  intro γ listed a w o hF hC hW h1 ho h2
  obtain ⟨hd, hop, hg⟩ := fields2 (x := some 12) (y := Op.fieldAddr 67 (.tmp 11) 0) (z := none) (by kernel_rfl) ho
  have e11 : a.eval (.tmp 11) = .pointer (some ⟨X.bx, 0, none⟩) := slotG hF ho h2 (j := 2) (d := 11) (by kernel_rfl) (by kernel_rfl) (by rw [ok.sz]; decide)
  refine st_pureG hF hC hW ho h2 (by decide) hd hg rfl ?_
  show _ = Result.ok (Next.value (.pointer (some ⟨X.bx, 0, none⟩))) w
  generalize a.eval = ρ at e11 ⊢
  unfold execOp
  rw [hop]
  simp [e11, go_sem]
theorem NXR.s4 (X : NXR) (ok : NXROk X) {Q : Exit → Act → World → Prop} : StepG (opsOf 1 Tryz.f59) NXR.acts NXR.av X.val0 X.Wd X.a0 Q 4 := by
  intro γ listed a w o hF hC hW h1 ho h2
  obtain ⟨hd, hop, hg⟩ := fields2 (x := some 13) (y := Op.load 26 (.tmp 12)) (z := none) (by kernel_rfl) ho
  have e12 : a.eval (.tmp 12) = .pointer (some ⟨X.bx, 0, none⟩) := slotG hF ho h2 (j := 3) (d := 12) (by kernel_rfl) (by kernel_rfl) (by rw [ok.sz]; decide)
  have hph := phase_leG (acts := NXR.acts) (m := 0) (x := 19) hC (unl (hF.lt ho) h1) rfl [16, 15, 4] (by kernel_rfl) (by decide)
  have hWW := hW
  generalize phase listed NXR.acts = n at hph hWW
  obtain rfl : n = 0 := by omega
  have hk : w = X.W := hWW
  have hc0 := ok.cn
  rw [← hk] at hc0
  refine st_pureG hF hC hW ho h2 (by decide) hd hg rfl ?_
  show _ = Result.ok (Next.value (.slice (some ⟨X.nb, X.no, none⟩) X.n X.nc)) w
  generalize a.eval = ρ at e12 ⊢
  unfold execOp
  rw [hop]
  simp [e12, hc0, go_sem]
theorem NXR.s5 (X : NXR) (ok : NXROk X) {Q : Exit → Act → World → Prop} : StepG (opsOf 1 Tryz.f59) NXR.acts NXR.av X.val0 X.Wd X.a0 Q 5 := by
  intro γ listed a w o hF hC hW h1 ho h2
  obtain ⟨hd, hop, hg⟩ := fields2 (x := some 14) (y := Op.move (.tmp 0)) (z := none) (by kernel_rfl) ho
  have e0 : a.eval (.tmp 0) = .pointer (some ⟨X.bx, 0, none⟩) := (hF.eval0 (by kernel_rfl)).trans ok.e0
  refine st_pureG hF hC hW ho h2 (by decide) hd hg rfl ?_
  show _ = Result.ok (Next.value (.pointer (some ⟨X.bx, 0, none⟩))) w
  generalize a.eval = ρ at e0 ⊢
  unfold execOp
  rw [hop]
  simp [e0, go_sem]
theorem NXR.s6 (X : NXR) (ok : NXROk X) {Q : Exit → Act → World → Prop} : StepG (opsOf 1 Tryz.f59) NXR.acts NXR.av X.val0 X.Wd X.a0 Q 6 := by
  intro γ listed a w o hF hC hW h1 ho h2
  obtain ⟨hd, hop, hg⟩ := fields2 (x := some 15) (y := Op.nilCheck (.tmp 14)) (z := none) (by kernel_rfl) ho
  have e14 : a.eval (.tmp 14) = .pointer (some ⟨X.bx, 0, none⟩) := slotG hF ho h2 (j := 5) (d := 14) (by kernel_rfl) (by kernel_rfl) (by rw [ok.sz]; decide)
  refine st_pureG hF hC hW ho h2 (by decide) hd hg rfl ?_
  show _ = Result.ok (Next.value (.pointer (some ⟨X.bx, 0, none⟩))) w
  generalize a.eval = ρ at e14 ⊢
  unfold execOp
  rw [hop]
  simp [e14, go_sem]
theorem NXR.s7 (X : NXR) (ok : NXROk X) {Q : Exit → Act → World → Prop} : StepG (opsOf 1 Tryz.f59) NXR.acts NXR.av X.val0 X.Wd X.a0 Q 7 := by
  intro γ listed a w o hF hC hW h1 ho h2
  obtain ⟨hd, hop, hg⟩ := fields2 (x := some 16) (y := Op.fieldAddr 67 (.tmp 15) 1) (z := none) (by kernel_rfl) ho
  have e15 : a.eval (.tmp 15) = .pointer (some ⟨X.bx, 0, none⟩) := slotG hF ho h2 (j := 6) (d := 15) (by kernel_rfl) (by kernel_rfl) (by rw [ok.sz]; decide)
  refine st_pureG hF hC hW ho h2 (by decide) hd hg rfl ?_
  show _ = Result.ok (Next.value (.pointer (some ⟨X.bx, 1, none⟩))) w
  generalize a.eval = ρ at e15 ⊢
  unfold execOp
  rw [hop]
  simp [e15, go_sem]
theorem NXR.s8 (X : NXR) (ok : NXROk X) {Q : Exit → Act → World → Prop} : StepG (opsOf 1 Tryz.f59) NXR.acts NXR.av X.val0 X.Wd X.a0 Q 8 := by
  intro γ listed a w o hF hC hW h1 ho h2
  obtain ⟨hd, hop, hg⟩ := fields2 (x := some 17) (y := Op.load 3 (.tmp 16)) (z := none) (by kernel_rfl) ho
  have e16 : a.eval (.tmp 16) = .pointer (some ⟨X.bx, 1, none⟩) := slotG hF ho h2 (j := 7) (d := 16) (by kernel_rfl) (by kernel_rfl) (by rw [ok.sz]; decide)
  have hph := phase_leG (acts := NXR.acts) (m := 0) (x := 19) hC (unl (hF.lt ho) h1) rfl [16, 15, 14, 8] (by kernel_rfl) (by decide)
  have hWW := hW
  generalize phase listed NXR.acts = n at hph hWW
  obtain rfl : n = 0 := by omega
  have hk : w = X.W := hWW
  have hc0 := ok.ca
  rw [← hk] at hc0
  refine st_pureG hF hC hW ho h2 (by decide) hd hg rfl ?_
  show _ = Result.ok (Next.value (.int .i64 (X.a : Int))) w
  generalize a.eval = ρ at e16 ⊢
  unfold execOp
  rw [hop]
  simp [e16, hc0, go_sem]
theorem NXR.s9 (X : NXR) (ok : NXROk X) {Q : Exit → Act → World → Prop} : StepG (opsOf 1 Tryz.f59) NXR.acts NXR.av X.val0 X.Wd X.a0 Q 9 := by
  intro γ listed a w o hF hC hW h1 ho h2
  obtain ⟨hd, hop, hg⟩ := fields2 (x := some 18) (y := Op.move (.tmp 0)) (z := none) (by kernel_rfl) ho
  have e0 : a.eval (.tmp 0) = .pointer (some ⟨X.bx, 0, none⟩) := (hF.eval0 (by kernel_rfl)).trans ok.e0
  refine st_pureG hF hC hW ho h2 (by decide) hd hg rfl ?_
  show _ = Result.ok (Next.value (.pointer (some ⟨X.bx, 0, none⟩))) w
  generalize a.eval = ρ at e0 ⊢
  unfold execOp
  rw [hop]
  simp [e0, go_sem]
theorem NXR.s10 (X : NXR) (ok : NXROk X) {Q : Exit → Act → World → Prop} : StepG (opsOf 1 Tryz.f59) NXR.acts NXR.av X.val0 X.Wd X.a0 Q 10 := by
  intro γ listed a w o hF hC hW h1 ho h2
  obtain ⟨hd, hop, hg⟩ := fields2 (x := some 19) (y := Op.nilCheck (.tmp 18)) (z := none) (by kernel_rfl) ho
  have e18 : a.eval (.tmp 18) = .pointer (some ⟨X.bx, 0, none⟩) := slotG hF ho h2 (j := 9) (d := 18) (by kernel_rfl) (by kernel_rfl) (by rw [ok.sz]; decide)
  refine st_pureG hF hC hW ho h2 (by decide) hd hg rfl ?_
  show _ = Result.ok (Next.value (.pointer (some ⟨X.bx, 0, none⟩))) w
  generalize a.eval = ρ at e18 ⊢
  unfold execOp
  rw [hop]
  simp [e18, go_sem]
theorem NXR.s11 (X : NXR) (ok : NXROk X) {Q : Exit → Act → World → Prop} : StepG (opsOf 1 Tryz.f59) NXR.acts NXR.av X.val0 X.Wd X.a0 Q 11 := by
  intro γ listed a w o hF hC hW h1 ho h2
  obtain ⟨hd, hop, hg⟩ := fields2 (x := some 20) (y := Op.fieldAddr 67 (.tmp 19) 0) (z := none) (by kernel_rfl) ho
  have e19 : a.eval (.tmp 19) = .pointer (some ⟨X.bx, 0, none⟩) := slotG hF ho h2 (j := 10) (d := 19) (by kernel_rfl) (by kernel_rfl) (by rw [ok.sz]; decide)
  refine st_pureG hF hC hW ho h2 (by decide) hd hg rfl ?_
  show _ = Result.ok (Next.value (.pointer (some ⟨X.bx, 0, none⟩))) w
  generalize a.eval = ρ at e19 ⊢
  unfold execOp
  rw [hop]
  simp [e19, go_sem]
theorem NXR.s12 (X : NXR) (ok : NXROk X) {Q : Exit → Act → World → Prop} : StepG (opsOf 1 Tryz.f59) NXR.acts NXR.av X.val0 X.Wd X.a0 Q 12 := by
  intro γ listed a w o hF hC hW h1 ho h2
  obtain ⟨hd, hop, hg⟩ := fields2 (x := some 21) (y := Op.load 26 (.tmp 20)) (z := none) (by kernel_rfl) ho
  have e20 : a.eval (.tmp 20) = .pointer (some ⟨X.bx, 0, none⟩) := slotG hF ho h2 (j := 11) (d := 20) (by kernel_rfl) (by kernel_rfl) (by rw [ok.sz]; decide)
  have hph := phase_leG (acts := NXR.acts) (m := 0) (x := 19) hC (unl (hF.lt ho) h1) rfl [16, 15, 14, 13, 12] (by kernel_rfl) (by decide)
  have hWW := hW
  generalize phase listed NXR.acts = n at hph hWW
  obtain rfl : n = 0 := by omega
  have hk : w = X.W := hWW
  have hc0 := ok.cn
  rw [← hk] at hc0
  refine st_pureG hF hC hW ho h2 (by decide) hd hg rfl ?_
  show _ = Result.ok (Next.value (.slice (some ⟨X.nb, X.no, none⟩) X.n X.nc)) w
  generalize a.eval = ρ at e20 ⊢
  unfold execOp
  rw [hop]
  simp [e20, hc0, go_sem]
theorem NXR.s13 (X : NXR) (ok : NXROk X) {Q : Exit → Act → World → Prop} : StepG (opsOf 1 Tryz.f59) NXR.acts NXR.av X.val0 X.Wd X.a0 Q 13 := by
  intro γ listed a w o hF hC hW h1 ho h2
  obtain ⟨hd, hop, hg⟩ := fields2 (x := some 22) (y := Op.call { callee := .builtin .len, args := #[(.tmp 21)], argTypes := #[26] }) (z := none) (by kernel_rfl) ho
  have e21 : a.eval (.tmp 21) = .slice (some ⟨X.nb, X.no, none⟩) X.n X.nc := slotG hF ho h2 (j := 12) (d := 21) (by kernel_rfl) (by kernel_rfl) (by rw [ok.sz]; decide)
  refine st_pureG hF hC hW ho h2 (by decide) hd hg rfl ?_
  show _ = Result.ok (Next.value (.int .i64 (X.n : Int))) w
  generalize a.eval = ρ at e21 ⊢
  unfold execOp
  rw [hop]
  simp [e21, go_sem]
theorem NXR.s14 (X : NXR) (ok : NXROk X) {Q : Exit → Act → World → Prop} : StepG (opsOf 1 Tryz.f59) NXR.acts NXR.av X.val0 X.Wd X.a0 Q 14 := by
  intro γ listed a w o hF hC hW h1 ho h2
  obtain ⟨hd, hop, hg⟩ := fields2 (x := some 23) (y := Op.binOp .rem 3 (.tmp 17) (.tmp 22) 3) (z := none) (by kernel_rfl) ho
  have e17 : a.eval (.tmp 17) = .int .i64 (X.a : Int) := slotG hF ho h2 (j := 8) (d := 17) (by kernel_rfl) (by kernel_rfl) (by rw [ok.sz]; decide)
  have e22 : a.eval (.tmp 22) = .int .i64 (X.n : Int) := slotG hF ho h2 (j := 13) (d := 22) (by kernel_rfl) (by kernel_rfl) (by rw [ok.sz]; decide)
  refine st_pureG hF hC hW ho h2 (by decide) hd hg rfl ?_
  show _ = Result.ok (Next.value (.int .i64 (X.m : Int))) w
  generalize a.eval = ρ at e17 e22 ⊢
  unfold execOp
  rw [hop]
  simp [e17, e22, ok.rm, ok.hn, go_sem]
theorem NXR.s15 (X : NXR) (ok : NXROk X) {Q : Exit → Act → World → Prop} : StepG (opsOf 1 Tryz.f59) NXR.acts NXR.av X.val0 X.Wd X.a0 Q 15 := by
  intro γ listed a w o hF hC hW h1 ho h2
  obtain ⟨hd, hop, hg⟩ := fields2 (x := some 24) (y := Op.indexAddr 26 (.tmp 13) (.tmp 23)) (z := none) (by kernel_rfl) ho
  have e13 : a.eval (.tmp 13) = .slice (some ⟨X.nb, X.no, none⟩) X.n X.nc := slotG hF ho h2 (j := 4) (d := 13) (by kernel_rfl) (by kernel_rfl) (by rw [ok.sz]; decide)
  have e23 : a.eval (.tmp 23) = .int .i64 (X.m : Int) := slotG hF ho h2 (j := 14) (d := 23) (by kernel_rfl) (by kernel_rfl) (by rw [ok.sz]; decide)
  refine st_pureG hF hC hW ho h2 (by decide) hd hg rfl ?_
  show _ = Result.ok (Next.value (.pointer (some ⟨X.nb, X.no + X.m, none⟩))) w
  generalize a.eval = ρ at e13 e23 ⊢
  unfold execOp
  rw [hop]
  simp [e13, e23, ok.hm, go_sem]
theorem NXR.s16 (X : NXR) (ok : NXROk X) {Q : Exit → Act → World → Prop} : StepG (opsOf 1 Tryz.f59) NXR.acts NXR.av X.val0 X.Wd X.a0 Q 16 := by
  intro γ listed a w o hF hC hW h1 ho h2
  obtain ⟨hd, hop, hg⟩ := fields2 (x := some 25) (y := Op.load 3 (.tmp 24)) (z := none) (by kernel_rfl) ho
  have e24 : a.eval (.tmp 24) = .pointer (some ⟨X.nb, X.no + X.m, none⟩) := slotG hF ho h2 (j := 15) (d := 24) (by kernel_rfl) (by kernel_rfl) (by rw [ok.sz]; decide)
  have hph := phase_leG (acts := NXR.acts) (m := 0) (x := 19) hC (unl (hF.lt ho) h1) rfl [16] (by kernel_rfl) (by decide)
  have hWW := hW
  generalize phase listed NXR.acts = n at hph hWW
  obtain rfl : n = 0 := by omega
  have hk : w = X.W := hWW
  have hc0 := ok.cx
  rw [← hk] at hc0
  refine st_pureG hF hC hW ho h2 (by decide) hd hg rfl ?_
  show _ = Result.ok (Next.value (.int .i64 X.x)) w
  generalize a.eval = ρ at e24 ⊢
  unfold execOp
  rw [hop]
  simp [e24, hc0, go_sem]
theorem NXR.s17 (X : NXR) (ok : NXROk X) {Q : Exit → Act → World → Prop} : StepG (opsOf 1 Tryz.f59) NXR.acts NXR.av X.val0 X.Wd X.a0 Q 17 := by
  intro γ listed a w o hF hC hW h1 ho h2
  obtain ⟨hd, hop, hg⟩ := fields2 (x := some 26) (y := Op.nilCheck (.tmp 9)) (z := none) (by kernel_rfl) ho
  have e9 : a.eval (.tmp 9) = .pointer (some ⟨X.bx, 0, none⟩) := slotG hF ho h2 (j := 0) (d := 9) (by kernel_rfl) (by kernel_rfl) (by rw [ok.sz]; decide)
  refine st_pureG hF hC hW ho h2 (by decide) hd hg rfl ?_
  show _ = Result.ok (Next.value (.pointer (some ⟨X.bx, 0, none⟩))) w
  generalize a.eval = ρ at e9 ⊢
  unfold execOp
  rw [hop]
  simp [e9, go_sem]
theorem NXR.s18 (X : NXR) (ok : NXROk X) {Q : Exit → Act → World → Prop} : StepG (opsOf 1 Tryz.f59) NXR.acts NXR.av X.val0 X.Wd X.a0 Q 18 := by
  intro γ listed a w o hF hC hW h1 ho h2
  obtain ⟨hd, hop, hg⟩ := fields2 (x := some 27) (y := Op.fieldAddr 67 (.tmp 26) 2) (z := none) (by kernel_rfl) ho
  have e26 : a.eval (.tmp 26) = .pointer (some ⟨X.bx, 0, none⟩) := slotG hF ho h2 (j := 17) (d := 26) (by kernel_rfl) (by kernel_rfl) (by rw [ok.sz]; decide)
  refine st_pureG hF hC hW ho h2 (by decide) hd hg rfl ?_
  show _ = Result.ok (Next.value (.pointer (some ⟨X.bx, 2, none⟩))) w
  generalize a.eval = ρ at e26 ⊢
  unfold execOp
  rw [hop]
  simp [e26, go_sem]
theorem NXR.s19 (X : NXR) (ok : NXROk X) {Q : Exit → Act → World → Prop} : StepG (opsOf 1 Tryz.f59) NXR.acts NXR.av X.val0 X.Wd X.a0 Q 19 := by
  intro γ listed a w o hF hC hW h1 ho h2
  obtain ⟨hd, hop, hg⟩ := fields2 (x := none) (y := Op.store 3 (.tmp 27) (.tmp 25)) (z := none) (by kernel_rfl) ho
  have e27 : a.eval (.tmp 27) = .pointer (some ⟨X.bx, 2, none⟩) := slotG hF ho h2 (j := 18) (d := 27) (by kernel_rfl) (by kernel_rfl) (by rw [ok.sz]; decide)
  have e25 : a.eval (.tmp 25) = .int .i64 X.x := slotG hF ho h2 (j := 16) (d := 25) (by kernel_rfl) (by kernel_rfl) (by rw [ok.sz]; decide)
  have hu := unl (hF.lt ho) h1
  refine st_actG (k := 0) NXR.chain NXR.nodup rfl hF hC hW h1 ho h2 (Or.inl hd) (NXR.inj (by kernel_rfl) hu) hg ?_
  intro hW0 K hK
  have hw0 : w = X.W := hW0
  obtain ⟨z0, f0⟩ := ok.cz
  have ff := ok.ff
  have hr : (execOp a.eval o).run Tryz.prog X.W = .ok .skip (X.W.setCell ⟨X.bx, 2, none⟩ (.int .i64 X.x)) := by
    generalize a.eval = ρ at e25 e27 ⊢
    unfold execOp
    rw [hop]
    simp [e25, e27, f0, ff, go_sem]
  unfold Oper.wp
  rw [hw0, hr]
  exact hK undef _ rfl
theorem NXR.size : (opsOf 1 Tryz.f59).size = 20 := by kernel_rfl
theorem NXR.steps (X : NXR) (ok : NXROk X) {Q : Exit → Act → World → Prop} (i : Nat) (hi : i < (opsOf 1 Tryz.f59).size) : StepG (opsOf 1 Tryz.f59) NXR.acts NXR.av X.val0 X.Wd X.a0 Q i := by
  rw [NXR.size] at hi
  have hc : i = 0 ∨ i = 1 ∨ i = 2 ∨ i = 3 ∨ i = 4 ∨ i = 5 ∨ i = 6 ∨ i = 7 ∨ i = 8 ∨ i = 9 ∨ i = 10 ∨ i = 11 ∨ i = 12 ∨ i = 13 ∨ i = 14 ∨ i = 15 ∨ i = 16 ∨ i = 17 ∨ i = 18 ∨ i = 19 := by omega
  rcases hc with rfl | rfl | rfl | rfl | rfl | rfl | rfl | rfl | rfl | rfl | rfl | rfl | rfl | rfl | rfl | rfl | rfl | rfl | rfl | rfl
  · exact NXR.s0 X ok
  · exact NXR.s1 X ok
  · exact NXR.s2 X ok
  · exact NXR.s3 X ok
  · exact NXR.s4 X ok
  · exact NXR.s5 X ok
  · exact NXR.s6 X ok
  · exact NXR.s7 X ok
  · exact NXR.s8 X ok
  · exact NXR.s9 X ok
  · exact NXR.s10 X ok
  · exact NXR.s11 X ok
  · exact NXR.s12 X ok
  · exact NXR.s13 X ok
  · exact NXR.s14 X ok
  · exact NXR.s15 X ok
  · exact NXR.s16 X ok
  · exact NXR.s17 X ok
  · exact NXR.s18 X ok
  · exact NXR.s19 X ok
theorem NXR.puts (X : NXR) (γ : Nat → Value) (a0 : Act) : putsL (valG NXR.av X.val0 γ) (opsOf 1 Tryz.f59).toList a0 = (((((((((((((((((((a0.put (some 9) (.pointer (some ⟨X.bx, 0, none⟩))).put (some 10) (.pointer (some ⟨X.bx, 0, none⟩))).put (some 11) (.pointer (some ⟨X.bx, 0, none⟩))).put (some 12) (.pointer (some ⟨X.bx, 0, none⟩))).put (some 13) (.slice (some ⟨X.nb, X.no, none⟩) X.n X.nc)).put (some 14) (.pointer (some ⟨X.bx, 0, none⟩))).put (some 15) (.pointer (some ⟨X.bx, 0, none⟩))).put (some 16) (.pointer (some ⟨X.bx, 1, none⟩))).put (some 17) (.int .i64 (X.a : Int))).put (some 18) (.pointer (some ⟨X.bx, 0, none⟩))).put (some 19) (.pointer (some ⟨X.bx, 0, none⟩))).put (some 20) (.pointer (some ⟨X.bx, 0, none⟩))).put (some 21) (.slice (some ⟨X.nb, X.no, none⟩) X.n X.nc)).put (some 22) (.int .i64 (X.n : Int))).put (some 23) (.int .i64 (X.m : Int))).put (some 24) (.pointer (some ⟨X.nb, X.no + X.m, none⟩))).put (some 25) (.int .i64 X.x)).put (some 26) (.pointer (some ⟨X.bx, 0, none⟩))).put (some 27) (.pointer (some ⟨X.bx, 2, none⟩))) := by kernel_rfl
/-- The region, whatever order comes up. -/
theorem NXR.run (X : NXR) (ok : NXROk X) {Q : Exit → Act → World → Prop} (w : World) (h0 : X.Wd 0 (fun _ => undef) w.drew) (hend : ∀ (γ : Nat → Value) w', X.Wd 1 γ w' → Q .normal (((((((((((((((((((X.a0.put (some 9) (.pointer (some ⟨X.bx, 0, none⟩))).put (some 10) (.pointer (some ⟨X.bx, 0, none⟩))).put (some 11) (.pointer (some ⟨X.bx, 0, none⟩))).put (some 12) (.pointer (some ⟨X.bx, 0, none⟩))).put (some 13) (.slice (some ⟨X.nb, X.no, none⟩) X.n X.nc)).put (some 14) (.pointer (some ⟨X.bx, 0, none⟩))).put (some 15) (.pointer (some ⟨X.bx, 0, none⟩))).put (some 16) (.pointer (some ⟨X.bx, 1, none⟩))).put (some 17) (.int .i64 (X.a : Int))).put (some 18) (.pointer (some ⟨X.bx, 0, none⟩))).put (some 19) (.pointer (some ⟨X.bx, 0, none⟩))).put (some 20) (.pointer (some ⟨X.bx, 0, none⟩))).put (some 21) (.slice (some ⟨X.nb, X.no, none⟩) X.n X.nc)).put (some 22) (.int .i64 (X.n : Int))).put (some 23) (.int .i64 (X.m : Int))).put (some 24) (.pointer (some ⟨X.nb, X.no + X.m, none⟩))).put (some 25) (.int .i64 X.x)).put (some 26) (.pointer (some ⟨X.bx, 0, none⟩))).put (some 27) (.pointer (some ⟨X.bx, 2, none⟩))) w') : (Code.region 1 (opsOf 1 Tryz.f59) true).wp Tryz.prog Q X.a0 w := by
  refine reg_act (acts := NXR.acts) (av := NXR.av) (val0 := X.val0) (Wd := X.Wd) (by kernel_rfl) (by kernel_rfl) (by rw [NXR.size]; decide) (fun i hi => NXR.steps X ok i hi) _ h0 ?_
  intro γ w' h
  rw [NXR.puts]
  exact hend γ w' h
/-- Whether a dashing is in a gap. -/
theorem igap (w : World) (b : Nat) (a : Int) (c1 : w.cell? ⟨b, 1, none⟩ = some (.int .i64 a)) : Calls Tryz.prog 60 #[.pointer (some ⟨b, 0, none⟩)] w fun e w' => e = .returned (.bool (decide (a.tmod 2 = 1))) ∧ w' = w := by
  have hwr : IntKind.i64.wrap (a.tmod 2) = a.tmod 2 := by
    rcases Int.lt_or_le a 0 with h | h
    · rw [tmod_neg_of a 2 h]; exact IntWalk.i64_in _ ⟨by omega, by omega⟩
    · rw [Int.tmod_eq_emod_of_nonneg h]; exact IntWalk.i64_in _ ⟨by omega, by omega⟩
  have hbe : (a.tmod 2 == 1) = decide (a.tmod 2 = 1) := by rw [Bool.eq_iff_iff]; simp
  go_enter Tryz.func60, Tryz.ntmps60
  go_wp2
  go_ret
  exact ⟨by show Ending.returned (.bool (a.tmod 2 == 1)) = _; rw [hbe], rfl⟩
theorem gap_k {W w : World} {b : Nat} {a : Int} {v : Bool} (c1 : W.cell? ⟨b, 1, none⟩ = some (.int .i64 a)) (h : decide (a.tmod 2 = 1) = v) (k : Kp W w) : Calls Tryz.prog 60 #[.pointer (some ⟨b, 0, none⟩)] w fun e w' => e = .returned (.bool v) ∧ Kp w w' := by
  refine Calls.mono (igap w b a (rq_at k c1)) ?_
  rintro e w' ⟨rfl, rfl⟩
  rw [← h]
  exact ⟨rfl, Kp.refl _⟩
structure RCA where
  bx : Nat
  bq : Nat
  x : Int
  y : Int
  a : Int
  W : World
  a0 : Act
structure RCAOk (X : RCA) : Prop where
  q0 : X.W.cell? ⟨X.bq, 0, none⟩ = some (.int .i64 X.x)
  q1 : X.W.cell? ⟨X.bq, 1, none⟩ = some (.int .i64 X.y)
  ca : X.W.cell? ⟨X.bx, 1, none⟩ = some (.int .i64 X.a)
  hg : decide (X.a.tmod 2 = 1) = true
  e0 : X.a0.eval (.tmp 0) = .pointer (some ⟨X.bx, 0, none⟩)
  e3 : X.a0.eval (.tmp 3) = .pointer (some ⟨X.bq, 0, none⟩)
  sz : X.a0.tmps.size = 36
def RCA.val0 (X : RCA) : Nat → Value
  | 4 => .pointer (some ⟨X.bx, 0, none⟩)
  | 5 => .bool true
  | 6 => .bool true
  | 7 => undef
  | 8 => undef
  | 9 => undef
  | 10 => undef
  | 11 => undef
  | 12 => undef
  | 13 => undef
  | 14 => undef
  | 15 => undef
  | 16 => undef
  | 17 => undef
  | 18 => undef
  | 19 => undef
  | 20 => undef
  | 21 => undef
  | 22 => undef
  | 23 => undef
  | 24 => undef
  | 25 => undef
  | 26 => undef
  | 27 => undef
  | 28 => undef
  | 29 => .bool true
  | _ => undef
def RCA.av : Nat → Option Nat
  | _ => none
def RCA.acts : List Nat := []
/-- The world, by how many of the acting ones have come up. -/
def RCA.Wd (X : RCA) : Nat → (Nat → Value) → World → Prop
  | _, _, w => Kp X.W w
theorem RCA.kp {X : RCA} {n : Nat} {γ : Nat → Value} {w : World} (h : X.Wd n γ w) : Kp X.W w := h
theorem RCA.keep {X : RCA} {n : Nat} {γ : Nat → Value} {w w' : World} (h : X.Wd n γ w) (k : Kp w w') : X.Wd n γ w' := Kp.trans h k
theorem RCA.chain : chainG (opsOf 1 Tryz.f32) RCA.acts = true := by kernel_rfl
theorem RCA.nodup : RCA.acts.Nodup := by decide
theorem RCA.inj {listed : Array Bool} {i k : Nat} (h : (List.range (opsOf 1 Tryz.f32).size).all (fun j => decide (j = i) || !(match dstOf (opsOf 1 Tryz.f32) j with | some d => decide (RCA.av d = some k) | none => false)) = true) (hu : listed.getD i false = false) : ∀ d, got (opsOf 1 Tryz.f32) listed d → RCA.av d ≠ some k := by
  rintro d ⟨j, h1, h2⟩ h3
  have hlt : j < (opsOf 1 Tryz.f32).size := by
    rcases Nat.lt_or_ge j (opsOf 1 Tryz.f32).size with h4 | h4
    · exact h4
    · unfold dstOf at h2; rw [Array.getElem?_eq_none h4] at h2; cases h2
  have h5 := List.all_eq_true.1 h j (List.mem_range.2 hlt)
  rw [h2] at h5
  simp only [h3, decide_true, Bool.not_true, Bool.or_false, decide_eq_true_eq] at h5
  subst h5
  rw [hu] at h1
  cases h1
theorem RCA.s0 (X : RCA) (ok : RCAOk X) {Q : Exit → Act → World → Prop} : StepG (opsOf 1 Tryz.f32) RCA.acts RCA.av X.val0 X.Wd X.a0 Q 0 := by
  intro γ listed a w o hF hC hW h1 ho h2
  obtain ⟨hd, hop, hg⟩ := fields2 (x := some 4) (y := Op.move (.tmp 0)) (z := none) (by kernel_rfl) ho
  have e0 : a.eval (.tmp 0) = .pointer (some ⟨X.bx, 0, none⟩) := (hF.eval0 (by kernel_rfl)).trans ok.e0
  refine st_pureG hF hC hW ho h2 (by decide) hd hg rfl ?_
  show _ = Result.ok (Next.value (.pointer (some ⟨X.bx, 0, none⟩))) w
  generalize a.eval = ρ at e0 ⊢
  unfold execOp
  rw [hop]
  simp [e0, go_sem]
theorem RCA.s1 (X : RCA) (ok : RCAOk X) {Q : Exit → Act → World → Prop} : StepG (opsOf 1 Tryz.f32) RCA.acts RCA.av X.val0 X.Wd X.a0 Q 1 := by
  intro γ listed a w o hF hC hW h1 ho h2
  obtain ⟨hd, hop, hg⟩ := fields2 (x := some 5) (y := Op.call { callee := .value (.func 60), args := #[(.tmp 4)], argTypes := #[90] }) (z := none) (by kernel_rfl) ho
  have e4 : a.eval (.tmp 4) = .pointer (some ⟨X.bx, 0, none⟩) := slotG hF ho h2 (j := 0) (d := 4) (by kernel_rfl) (by kernel_rfl) (by rw [ok.sz]; decide)
  have ef : a.eval (.func 60) = .func (.func 60) #[] #[] := rfl
  refine st_callG hF hC hW ho h2 (by decide) hd hg rfl (f := 60) (args := #[.pointer (some ⟨X.bx, 0, none⟩)]) ?_ ?_ ?_
  · generalize a.eval = ρ at e4 ef ⊢
    unfold execOp
    rw [hop]
    simp [e4, ef, go_sem]
  · exact gap_k ok.ca ok.hg (RCA.kp hW)
  · intro w' hk; exact RCA.keep hW hk
theorem RCA.s2 (X : RCA) (ok : RCAOk X) {Q : Exit → Act → World → Prop} : StepG (opsOf 1 Tryz.f32) RCA.acts RCA.av X.val0 X.Wd X.a0 Q 2 := by
  intro γ listed a w o hF hC hW h1 ho h2
  obtain ⟨hd, hop, hg⟩ := fields2 (x := some 6) (y := Op.move (.tmp 5)) (z := none) (by kernel_rfl) ho
  have e5 : a.eval (.tmp 5) = .bool true := slotG hF ho h2 (j := 1) (d := 5) (by kernel_rfl) (by kernel_rfl) (by rw [ok.sz]; decide)
  refine st_pureG hF hC hW ho h2 (by decide) hd hg rfl ?_
  show _ = Result.ok (Next.value (.bool true)) w
  generalize a.eval = ρ at e5 ⊢
  unfold execOp
  rw [hop]
  simp [e5, go_sem]
theorem RCA.s3 (X : RCA) (ok : RCAOk X) {Q : Exit → Act → World → Prop} : StepG (opsOf 1 Tryz.f32) RCA.acts RCA.av X.val0 X.Wd X.a0 Q 3 := by
  intro γ listed a w o hF hC hW h1 ho h2
  obtain ⟨hd, hop, hg⟩ := fields2 (x := some 7) (y := Op.move (.tmp 0)) (z := some (2, false)) (by kernel_rfl) ho
  have eg : a.eval (.tmp 6) = .bool true := slotG hF ho h2 (j := 2) (d := 6) (by kernel_rfl) (by kernel_rfl) (by rw [ok.sz]; decide)
  have hw := wanted_of (ops := (opsOf 1 Tryz.f32)) hg (yl_of (by kernel_rfl : dstOf (opsOf 1 Tryz.f32) 2 = some 6) (by rw [hF.tsize, ok.sz]; decide) eg)
  replace hw : Region.wanted o (yielded (opsOf 1 Tryz.f32) a.tmps) = false := hw
  exact st_skipW hF hC hW ho h2 (by decide) hd hw rfl rfl
theorem RCA.s4 (X : RCA) (ok : RCAOk X) {Q : Exit → Act → World → Prop} : StepG (opsOf 1 Tryz.f32) RCA.acts RCA.av X.val0 X.Wd X.a0 Q 4 := by
  intro γ listed a w o hF hC hW h1 ho h2
  obtain ⟨hd, hop, hg⟩ := fields2 (x := some 8) (y := Op.nilCheck (.tmp 7)) (z := some (2, false)) (by kernel_rfl) ho
  have eg : a.eval (.tmp 6) = .bool true := slotG hF ho h2 (j := 2) (d := 6) (by kernel_rfl) (by kernel_rfl) (by rw [ok.sz]; decide)
  have hw := wanted_of (ops := (opsOf 1 Tryz.f32)) hg (yl_of (by kernel_rfl : dstOf (opsOf 1 Tryz.f32) 2 = some 6) (by rw [hF.tsize, ok.sz]; decide) eg)
  replace hw : Region.wanted o (yielded (opsOf 1 Tryz.f32) a.tmps) = false := hw
  exact st_skipW hF hC hW ho h2 (by decide) hd hw rfl rfl
theorem RCA.s5 (X : RCA) (ok : RCAOk X) {Q : Exit → Act → World → Prop} : StepG (opsOf 1 Tryz.f32) RCA.acts RCA.av X.val0 X.Wd X.a0 Q 5 := by
  intro γ listed a w o hF hC hW h1 ho h2
  obtain ⟨hd, hop, hg⟩ := fields2 (x := some 9) (y := Op.fieldAddr 67 (.tmp 8) 4) (z := some (2, false)) (by kernel_rfl) ho
  have eg : a.eval (.tmp 6) = .bool true := slotG hF ho h2 (j := 2) (d := 6) (by kernel_rfl) (by kernel_rfl) (by rw [ok.sz]; decide)
  have hw := wanted_of (ops := (opsOf 1 Tryz.f32)) hg (yl_of (by kernel_rfl : dstOf (opsOf 1 Tryz.f32) 2 = some 6) (by rw [hF.tsize, ok.sz]; decide) eg)
  replace hw : Region.wanted o (yielded (opsOf 1 Tryz.f32) a.tmps) = false := hw
  exact st_skipW hF hC hW ho h2 (by decide) hd hw rfl rfl
theorem RCA.s6 (X : RCA) (ok : RCAOk X) {Q : Exit → Act → World → Prop} : StepG (opsOf 1 Tryz.f32) RCA.acts RCA.av X.val0 X.Wd X.a0 Q 6 := by
  intro γ listed a w o hF hC hW h1 ho h2
  obtain ⟨hd, hop, hg⟩ := fields2 (x := some 10) (y := Op.load 64 (.tmp 9)) (z := some (2, false)) (by kernel_rfl) ho
  have eg : a.eval (.tmp 6) = .bool true := slotG hF ho h2 (j := 2) (d := 6) (by kernel_rfl) (by kernel_rfl) (by rw [ok.sz]; decide)
  have hw := wanted_of (ops := (opsOf 1 Tryz.f32)) hg (yl_of (by kernel_rfl : dstOf (opsOf 1 Tryz.f32) 2 = some 6) (by rw [hF.tsize, ok.sz]; decide) eg)
  replace hw : Region.wanted o (yielded (opsOf 1 Tryz.f32) a.tmps) = false := hw
  exact st_skipW hF hC hW ho h2 (by decide) hd hw rfl rfl
theorem RCA.s7 (X : RCA) (ok : RCAOk X) {Q : Exit → Act → World → Prop} : StepG (opsOf 1 Tryz.f32) RCA.acts RCA.av X.val0 X.Wd X.a0 Q 7 := by
  intro γ listed a w o hF hC hW h1 ho h2
  obtain ⟨hd, hop, hg⟩ := fields2 (x := some 11) (y := Op.call { callee := .builtin .len, args := #[(.tmp 10)], argTypes := #[64] }) (z := some (2, false)) (by kernel_rfl) ho
  have eg : a.eval (.tmp 6) = .bool true := slotG hF ho h2 (j := 2) (d := 6) (by kernel_rfl) (by kernel_rfl) (by rw [ok.sz]; decide)
  have hw := wanted_of (ops := (opsOf 1 Tryz.f32)) hg (yl_of (by kernel_rfl : dstOf (opsOf 1 Tryz.f32) 2 = some 6) (by rw [hF.tsize, ok.sz]; decide) eg)
  replace hw : Region.wanted o (yielded (opsOf 1 Tryz.f32) a.tmps) = false := hw
  exact st_skipW hF hC hW ho h2 (by decide) hd hw rfl rfl
theorem RCA.s8 (X : RCA) (ok : RCAOk X) {Q : Exit → Act → World → Prop} : StepG (opsOf 1 Tryz.f32) RCA.acts RCA.av X.val0 X.Wd X.a0 Q 8 := by
  intro γ listed a w o hF hC hW h1 ho h2
  obtain ⟨hd, hop, hg⟩ := fields2 (x := some 12) (y := Op.binOp .gtr 3 (.tmp 11) (.const (.int .i64 0)) 3) (z := some (2, false)) (by kernel_rfl) ho
  have eg : a.eval (.tmp 6) = .bool true := slotG hF ho h2 (j := 2) (d := 6) (by kernel_rfl) (by kernel_rfl) (by rw [ok.sz]; decide)
  have hw := wanted_of (ops := (opsOf 1 Tryz.f32)) hg (yl_of (by kernel_rfl : dstOf (opsOf 1 Tryz.f32) 2 = some 6) (by rw [hF.tsize, ok.sz]; decide) eg)
  replace hw : Region.wanted o (yielded (opsOf 1 Tryz.f32) a.tmps) = false := hw
  exact st_skipW hF hC hW ho h2 (by decide) hd hw rfl rfl
theorem RCA.s9 (X : RCA) (ok : RCAOk X) {Q : Exit → Act → World → Prop} : StepG (opsOf 1 Tryz.f32) RCA.acts RCA.av X.val0 X.Wd X.a0 Q 9 := by
  intro γ listed a w o hF hC hW h1 ho h2
  obtain ⟨hd, hop, hg⟩ := fields2 (x := some 13) (y := Op.move (.tmp 12)) (z := some (2, false)) (by kernel_rfl) ho
  have eg : a.eval (.tmp 6) = .bool true := slotG hF ho h2 (j := 2) (d := 6) (by kernel_rfl) (by kernel_rfl) (by rw [ok.sz]; decide)
  have hw := wanted_of (ops := (opsOf 1 Tryz.f32)) hg (yl_of (by kernel_rfl : dstOf (opsOf 1 Tryz.f32) 2 = some 6) (by rw [hF.tsize, ok.sz]; decide) eg)
  replace hw : Region.wanted o (yielded (opsOf 1 Tryz.f32) a.tmps) = false := hw
  exact st_skipW hF hC hW ho h2 (by decide) hd hw rfl rfl
theorem RCA.s10 (X : RCA) (ok : RCAOk X) {Q : Exit → Act → World → Prop} : StepG (opsOf 1 Tryz.f32) RCA.acts RCA.av X.val0 X.Wd X.a0 Q 10 := by
  intro γ listed a w o hF hC hW h1 ho h2
  obtain ⟨hd, hop, hg⟩ := fields2 (x := some 14) (y := Op.move (.tmp 0)) (z := some (9, true)) (by kernel_rfl) ho
  have eg : a.eval (.tmp 13) = undef := slotG hF ho h2 (j := 9) (d := 13) (by kernel_rfl) (by kernel_rfl) (by rw [ok.sz]; decide)
  have hw := wanted_un (ops := (opsOf 1 Tryz.f32)) hg (by kernel_rfl : dstOf (opsOf 1 Tryz.f32) 9 = some 13) (by rw [hF.tsize, ok.sz]; decide) eg
  exact st_skipW hF hC hW ho h2 (by decide) hd hw rfl rfl
theorem RCA.s11 (X : RCA) (ok : RCAOk X) {Q : Exit → Act → World → Prop} : StepG (opsOf 1 Tryz.f32) RCA.acts RCA.av X.val0 X.Wd X.a0 Q 11 := by
  intro γ listed a w o hF hC hW h1 ho h2
  obtain ⟨hd, hop, hg⟩ := fields2 (x := some 15) (y := Op.nilCheck (.tmp 14)) (z := some (9, true)) (by kernel_rfl) ho
  have eg : a.eval (.tmp 13) = undef := slotG hF ho h2 (j := 9) (d := 13) (by kernel_rfl) (by kernel_rfl) (by rw [ok.sz]; decide)
  have hw := wanted_un (ops := (opsOf 1 Tryz.f32)) hg (by kernel_rfl : dstOf (opsOf 1 Tryz.f32) 9 = some 13) (by rw [hF.tsize, ok.sz]; decide) eg
  exact st_skipW hF hC hW ho h2 (by decide) hd hw rfl rfl
theorem RCA.s12 (X : RCA) (ok : RCAOk X) {Q : Exit → Act → World → Prop} : StepG (opsOf 1 Tryz.f32) RCA.acts RCA.av X.val0 X.Wd X.a0 Q 12 := by
  intro γ listed a w o hF hC hW h1 ho h2
  obtain ⟨hd, hop, hg⟩ := fields2 (x := some 16) (y := Op.fieldAddr 67 (.tmp 15) 4) (z := some (9, true)) (by kernel_rfl) ho
  have eg : a.eval (.tmp 13) = undef := slotG hF ho h2 (j := 9) (d := 13) (by kernel_rfl) (by kernel_rfl) (by rw [ok.sz]; decide)
  have hw := wanted_un (ops := (opsOf 1 Tryz.f32)) hg (by kernel_rfl : dstOf (opsOf 1 Tryz.f32) 9 = some 13) (by rw [hF.tsize, ok.sz]; decide) eg
  exact st_skipW hF hC hW ho h2 (by decide) hd hw rfl rfl
theorem RCA.s13 (X : RCA) (ok : RCAOk X) {Q : Exit → Act → World → Prop} : StepG (opsOf 1 Tryz.f32) RCA.acts RCA.av X.val0 X.Wd X.a0 Q 13 := by
  intro γ listed a w o hF hC hW h1 ho h2
  obtain ⟨hd, hop, hg⟩ := fields2 (x := some 17) (y := Op.load 64 (.tmp 16)) (z := some (9, true)) (by kernel_rfl) ho
  have eg : a.eval (.tmp 13) = undef := slotG hF ho h2 (j := 9) (d := 13) (by kernel_rfl) (by kernel_rfl) (by rw [ok.sz]; decide)
  have hw := wanted_un (ops := (opsOf 1 Tryz.f32)) hg (by kernel_rfl : dstOf (opsOf 1 Tryz.f32) 9 = some 13) (by rw [hF.tsize, ok.sz]; decide) eg
  exact st_skipW hF hC hW ho h2 (by decide) hd hw rfl rfl
theorem RCA.s14 (X : RCA) (ok : RCAOk X) {Q : Exit → Act → World → Prop} : StepG (opsOf 1 Tryz.f32) RCA.acts RCA.av X.val0 X.Wd X.a0 Q 14 := by
  intro γ listed a w o hF hC hW h1 ho h2
  obtain ⟨hd, hop, hg⟩ := fields2 (x := some 18) (y := Op.move (.tmp 0)) (z := some (9, true)) (by kernel_rfl) ho
  have eg : a.eval (.tmp 13) = undef := slotG hF ho h2 (j := 9) (d := 13) (by kernel_rfl) (by kernel_rfl) (by rw [ok.sz]; decide)
  have hw := wanted_un (ops := (opsOf 1 Tryz.f32)) hg (by kernel_rfl : dstOf (opsOf 1 Tryz.f32) 9 = some 13) (by rw [hF.tsize, ok.sz]; decide) eg
  exact st_skipW hF hC hW ho h2 (by decide) hd hw rfl rfl
theorem RCA.s15 (X : RCA) (ok : RCAOk X) {Q : Exit → Act → World → Prop} : StepG (opsOf 1 Tryz.f32) RCA.acts RCA.av X.val0 X.Wd X.a0 Q 15 := by
  intro γ listed a w o hF hC hW h1 ho h2
  obtain ⟨hd, hop, hg⟩ := fields2 (x := some 19) (y := Op.nilCheck (.tmp 18)) (z := some (9, true)) (by kernel_rfl) ho
  have eg : a.eval (.tmp 13) = undef := slotG hF ho h2 (j := 9) (d := 13) (by kernel_rfl) (by kernel_rfl) (by rw [ok.sz]; decide)
  have hw := wanted_un (ops := (opsOf 1 Tryz.f32)) hg (by kernel_rfl : dstOf (opsOf 1 Tryz.f32) 9 = some 13) (by rw [hF.tsize, ok.sz]; decide) eg
  exact st_skipW hF hC hW ho h2 (by decide) hd hw rfl rfl
theorem RCA.s16 (X : RCA) (ok : RCAOk X) {Q : Exit → Act → World → Prop} : StepG (opsOf 1 Tryz.f32) RCA.acts RCA.av X.val0 X.Wd X.a0 Q 16 := by
  intro γ listed a w o hF hC hW h1 ho h2
  obtain ⟨hd, hop, hg⟩ := fields2 (x := some 20) (y := Op.fieldAddr 67 (.tmp 19) 4) (z := some (9, true)) (by kernel_rfl) ho
  have eg : a.eval (.tmp 13) = undef := slotG hF ho h2 (j := 9) (d := 13) (by kernel_rfl) (by kernel_rfl) (by rw [ok.sz]; decide)
  have hw := wanted_un (ops := (opsOf 1 Tryz.f32)) hg (by kernel_rfl : dstOf (opsOf 1 Tryz.f32) 9 = some 13) (by rw [hF.tsize, ok.sz]; decide) eg
  exact st_skipW hF hC hW ho h2 (by decide) hd hw rfl rfl
theorem RCA.s17 (X : RCA) (ok : RCAOk X) {Q : Exit → Act → World → Prop} : StepG (opsOf 1 Tryz.f32) RCA.acts RCA.av X.val0 X.Wd X.a0 Q 17 := by
  intro γ listed a w o hF hC hW h1 ho h2
  obtain ⟨hd, hop, hg⟩ := fields2 (x := some 21) (y := Op.load 64 (.tmp 20)) (z := some (9, true)) (by kernel_rfl) ho
  have eg : a.eval (.tmp 13) = undef := slotG hF ho h2 (j := 9) (d := 13) (by kernel_rfl) (by kernel_rfl) (by rw [ok.sz]; decide)
  have hw := wanted_un (ops := (opsOf 1 Tryz.f32)) hg (by kernel_rfl : dstOf (opsOf 1 Tryz.f32) 9 = some 13) (by rw [hF.tsize, ok.sz]; decide) eg
  exact st_skipW hF hC hW ho h2 (by decide) hd hw rfl rfl
theorem RCA.s18 (X : RCA) (ok : RCAOk X) {Q : Exit → Act → World → Prop} : StepG (opsOf 1 Tryz.f32) RCA.acts RCA.av X.val0 X.Wd X.a0 Q 18 := by
  intro γ listed a w o hF hC hW h1 ho h2
  obtain ⟨hd, hop, hg⟩ := fields2 (x := some 22) (y := Op.call { callee := .builtin .len, args := #[(.tmp 21)], argTypes := #[64] }) (z := some (9, true)) (by kernel_rfl) ho
  have eg : a.eval (.tmp 13) = undef := slotG hF ho h2 (j := 9) (d := 13) (by kernel_rfl) (by kernel_rfl) (by rw [ok.sz]; decide)
  have hw := wanted_un (ops := (opsOf 1 Tryz.f32)) hg (by kernel_rfl : dstOf (opsOf 1 Tryz.f32) 9 = some 13) (by rw [hF.tsize, ok.sz]; decide) eg
  exact st_skipW hF hC hW ho h2 (by decide) hd hw rfl rfl
theorem RCA.s19 (X : RCA) (ok : RCAOk X) {Q : Exit → Act → World → Prop} : StepG (opsOf 1 Tryz.f32) RCA.acts RCA.av X.val0 X.Wd X.a0 Q 19 := by
  intro γ listed a w o hF hC hW h1 ho h2
  obtain ⟨hd, hop, hg⟩ := fields2 (x := some 23) (y := Op.binOp .sub 3 (.tmp 22) (.const (.int .i64 1)) 3) (z := some (9, true)) (by kernel_rfl) ho
  have eg : a.eval (.tmp 13) = undef := slotG hF ho h2 (j := 9) (d := 13) (by kernel_rfl) (by kernel_rfl) (by rw [ok.sz]; decide)
  have hw := wanted_un (ops := (opsOf 1 Tryz.f32)) hg (by kernel_rfl : dstOf (opsOf 1 Tryz.f32) 9 = some 13) (by rw [hF.tsize, ok.sz]; decide) eg
  exact st_skipW hF hC hW ho h2 (by decide) hd hw rfl rfl
theorem RCA.s20 (X : RCA) (ok : RCAOk X) {Q : Exit → Act → World → Prop} : StepG (opsOf 1 Tryz.f32) RCA.acts RCA.av X.val0 X.Wd X.a0 Q 20 := by
  intro γ listed a w o hF hC hW h1 ho h2
  obtain ⟨hd, hop, hg⟩ := fields2 (x := some 24) (y := Op.indexAddr 64 (.tmp 17) (.tmp 23)) (z := some (9, true)) (by kernel_rfl) ho
  have eg : a.eval (.tmp 13) = undef := slotG hF ho h2 (j := 9) (d := 13) (by kernel_rfl) (by kernel_rfl) (by rw [ok.sz]; decide)
  have hw := wanted_un (ops := (opsOf 1 Tryz.f32)) hg (by kernel_rfl : dstOf (opsOf 1 Tryz.f32) 9 = some 13) (by rw [hF.tsize, ok.sz]; decide) eg
  exact st_skipW hF hC hW ho h2 (by decide) hd hw rfl rfl
theorem RCA.s21 (X : RCA) (ok : RCAOk X) {Q : Exit → Act → World → Prop} : StepG (opsOf 1 Tryz.f32) RCA.acts RCA.av X.val0 X.Wd X.a0 Q 21 := by
  intro γ listed a w o hF hC hW h1 ho h2
  obtain ⟨hd, hop, hg⟩ := fields2 (x := some 25) (y := Op.load 34 (.tmp 24)) (z := some (9, true)) (by kernel_rfl) ho
  have eg : a.eval (.tmp 13) = undef := slotG hF ho h2 (j := 9) (d := 13) (by kernel_rfl) (by kernel_rfl) (by rw [ok.sz]; decide)
  have hw := wanted_un (ops := (opsOf 1 Tryz.f32)) hg (by kernel_rfl : dstOf (opsOf 1 Tryz.f32) 9 = some 13) (by rw [hF.tsize, ok.sz]; decide) eg
  exact st_skipW hF hC hW ho h2 (by decide) hd hw rfl rfl
theorem RCA.s22 (X : RCA) (ok : RCAOk X) {Q : Exit → Act → World → Prop} : StepG (opsOf 1 Tryz.f32) RCA.acts RCA.av X.val0 X.Wd X.a0 Q 22 := by
  intro γ listed a w o hF hC hW h1 ho h2
  obtain ⟨hd, hop, hg⟩ := fields2 (x := some 26) (y := Op.load 34 (.tmp 3)) (z := some (9, true)) (by kernel_rfl) ho
  have eg : a.eval (.tmp 13) = undef := slotG hF ho h2 (j := 9) (d := 13) (by kernel_rfl) (by kernel_rfl) (by rw [ok.sz]; decide)
  have hw := wanted_un (ops := (opsOf 1 Tryz.f32)) hg (by kernel_rfl : dstOf (opsOf 1 Tryz.f32) 9 = some 13) (by rw [hF.tsize, ok.sz]; decide) eg
  exact st_skipW hF hC hW ho h2 (by decide) hd hw rfl rfl
theorem RCA.s23 (X : RCA) (ok : RCAOk X) {Q : Exit → Act → World → Prop} : StepG (opsOf 1 Tryz.f32) RCA.acts RCA.av X.val0 X.Wd X.a0 Q 23 := by
  intro γ listed a w o hF hC hW h1 ho h2
  obtain ⟨hd, hop, hg⟩ := fields2 (x := some 27) (y := Op.binOp .eql 34 (.tmp 25) (.tmp 26) 34) (z := some (9, true)) (by kernel_rfl) ho
  have eg : a.eval (.tmp 13) = undef := slotG hF ho h2 (j := 9) (d := 13) (by kernel_rfl) (by kernel_rfl) (by rw [ok.sz]; decide)
  have hw := wanted_un (ops := (opsOf 1 Tryz.f32)) hg (by kernel_rfl : dstOf (opsOf 1 Tryz.f32) 9 = some 13) (by rw [hF.tsize, ok.sz]; decide) eg
  exact st_skipW hF hC hW ho h2 (by decide) hd hw rfl rfl
theorem RCA.s24 (X : RCA) (ok : RCAOk X) {Q : Exit → Act → World → Prop} : StepG (opsOf 1 Tryz.f32) RCA.acts RCA.av X.val0 X.Wd X.a0 Q 24 := by
  intro γ listed a w o hF hC hW h1 ho h2
  obtain ⟨hd, hop, hg⟩ := fields2 (x := some 28) (y := Op.pick (.tmp 13) (.tmp 27) (.const (.bool false))) (z := some (2, false)) (by kernel_rfl) ho
  have eg : a.eval (.tmp 6) = .bool true := slotG hF ho h2 (j := 2) (d := 6) (by kernel_rfl) (by kernel_rfl) (by rw [ok.sz]; decide)
  have hw := wanted_of (ops := (opsOf 1 Tryz.f32)) hg (yl_of (by kernel_rfl : dstOf (opsOf 1 Tryz.f32) 2 = some 6) (by rw [hF.tsize, ok.sz]; decide) eg)
  replace hw : Region.wanted o (yielded (opsOf 1 Tryz.f32) a.tmps) = false := hw
  exact st_skipW hF hC hW ho h2 (by decide) hd hw rfl rfl
theorem RCA.s25 (X : RCA) (ok : RCAOk X) {Q : Exit → Act → World → Prop} : StepG (opsOf 1 Tryz.f32) RCA.acts RCA.av X.val0 X.Wd X.a0 Q 25 := by
  intro γ listed a w o hF hC hW h1 ho h2
  obtain ⟨hd, hop, hg⟩ := fields2 (x := some 29) (y := Op.pick (.tmp 6) (.const (.bool true)) (.tmp 28)) (z := none) (by kernel_rfl) ho
  have e6 : a.eval (.tmp 6) = .bool true := slotG hF ho h2 (j := 2) (d := 6) (by kernel_rfl) (by kernel_rfl) (by rw [ok.sz]; decide)
  have ec1 : a.eval (.const (.bool true)) = .bool true := rfl
  have e28 : a.eval (.tmp 28) = undef := slotG hF ho h2 (j := 24) (d := 28) (by kernel_rfl) (by kernel_rfl) (by rw [ok.sz]; decide)
  refine st_pureG hF hC hW ho h2 (by decide) hd hg rfl ?_
  show _ = Result.ok (Next.value (.bool true)) w
  generalize a.eval = ρ at e6 ec1 e28 ⊢
  unfold execOp
  rw [hop]
  simp [e6, ec1, e28, go_sem]
theorem RCA.size : (opsOf 1 Tryz.f32).size = 26 := by kernel_rfl
theorem RCA.steps (X : RCA) (ok : RCAOk X) {Q : Exit → Act → World → Prop} (i : Nat) (hi : i < (opsOf 1 Tryz.f32).size) : StepG (opsOf 1 Tryz.f32) RCA.acts RCA.av X.val0 X.Wd X.a0 Q i := by
  rw [RCA.size] at hi
  have hc : i = 0 ∨ i = 1 ∨ i = 2 ∨ i = 3 ∨ i = 4 ∨ i = 5 ∨ i = 6 ∨ i = 7 ∨ i = 8 ∨ i = 9 ∨ i = 10 ∨ i = 11 ∨ i = 12 ∨ i = 13 ∨ i = 14 ∨ i = 15 ∨ i = 16 ∨ i = 17 ∨ i = 18 ∨ i = 19 ∨ i = 20 ∨ i = 21 ∨ i = 22 ∨ i = 23 ∨ i = 24 ∨ i = 25 := by omega
  rcases hc with rfl | rfl | rfl | rfl | rfl | rfl | rfl | rfl | rfl | rfl | rfl | rfl | rfl | rfl | rfl | rfl | rfl | rfl | rfl | rfl | rfl | rfl | rfl | rfl | rfl | rfl
  · exact RCA.s0 X ok
  · exact RCA.s1 X ok
  · exact RCA.s2 X ok
  · exact RCA.s3 X ok
  · exact RCA.s4 X ok
  · exact RCA.s5 X ok
  · exact RCA.s6 X ok
  · exact RCA.s7 X ok
  · exact RCA.s8 X ok
  · exact RCA.s9 X ok
  · exact RCA.s10 X ok
  · exact RCA.s11 X ok
  · exact RCA.s12 X ok
  · exact RCA.s13 X ok
  · exact RCA.s14 X ok
  · exact RCA.s15 X ok
  · exact RCA.s16 X ok
  · exact RCA.s17 X ok
  · exact RCA.s18 X ok
  · exact RCA.s19 X ok
  · exact RCA.s20 X ok
  · exact RCA.s21 X ok
  · exact RCA.s22 X ok
  · exact RCA.s23 X ok
  · exact RCA.s24 X ok
  · exact RCA.s25 X ok
theorem RCA.puts (X : RCA) (γ : Nat → Value) (a0 : Act) : putsL (valG RCA.av X.val0 γ) (opsOf 1 Tryz.f32).toList a0 = ((((((((((((((((((((((((((a0.put (some 4) (.pointer (some ⟨X.bx, 0, none⟩))).put (some 5) (.bool true)).put (some 6) (.bool true)).put (some 7) (undef)).put (some 8) (undef)).put (some 9) (undef)).put (some 10) (undef)).put (some 11) (undef)).put (some 12) (undef)).put (some 13) (undef)).put (some 14) (undef)).put (some 15) (undef)).put (some 16) (undef)).put (some 17) (undef)).put (some 18) (undef)).put (some 19) (undef)).put (some 20) (undef)).put (some 21) (undef)).put (some 22) (undef)).put (some 23) (undef)).put (some 24) (undef)).put (some 25) (undef)).put (some 26) (undef)).put (some 27) (undef)).put (some 28) (undef)).put (some 29) (.bool true)) := by kernel_rfl
/-- The region, whatever order comes up. -/
theorem RCA.run (X : RCA) (ok : RCAOk X) {Q : Exit → Act → World → Prop} (w : World) (h0 : X.Wd 0 (fun _ => undef) w.drew) (hend : ∀ (γ : Nat → Value) w', X.Wd 0 γ w' → Q .normal ((((((((((((((((((((((((((X.a0.put (some 4) (.pointer (some ⟨X.bx, 0, none⟩))).put (some 5) (.bool true)).put (some 6) (.bool true)).put (some 7) (undef)).put (some 8) (undef)).put (some 9) (undef)).put (some 10) (undef)).put (some 11) (undef)).put (some 12) (undef)).put (some 13) (undef)).put (some 14) (undef)).put (some 15) (undef)).put (some 16) (undef)).put (some 17) (undef)).put (some 18) (undef)).put (some 19) (undef)).put (some 20) (undef)).put (some 21) (undef)).put (some 22) (undef)).put (some 23) (undef)).put (some 24) (undef)).put (some 25) (undef)).put (some 26) (undef)).put (some 27) (undef)).put (some 28) (undef)).put (some 29) (.bool true)) w') : (Code.region 1 (opsOf 1 Tryz.f32) true).wp Tryz.prog Q X.a0 w := by
  refine reg_act (acts := RCA.acts) (av := RCA.av) (val0 := X.val0) (Wd := X.Wd) (by kernel_rfl) (by kernel_rfl) (by rw [RCA.size]; decide) (fun i hi => RCA.steps X ok i hi) _ h0 ?_
  intro γ w' h
  rw [RCA.puts]
  exact hend γ w' h
structure RCB where
  bx : Nat
  bq : Nat
  x : Int
  y : Int
  a : Int
  ua : Option Addr
  uc : Nat
  W : World
  a0 : Act
structure RCBOk (X : RCB) : Prop where
  q0 : X.W.cell? ⟨X.bq, 0, none⟩ = some (.int .i64 X.x)
  q1 : X.W.cell? ⟨X.bq, 1, none⟩ = some (.int .i64 X.y)
  c4 : X.W.cell? ⟨X.bx, 4, none⟩ = some (.slice X.ua 0 X.uc)
  ca : X.W.cell? ⟨X.bx, 1, none⟩ = some (.int .i64 X.a)
  hg : decide (X.a.tmod 2 = 1) = false
  e0 : X.a0.eval (.tmp 0) = .pointer (some ⟨X.bx, 0, none⟩)
  e3 : X.a0.eval (.tmp 3) = .pointer (some ⟨X.bq, 0, none⟩)
  sz : X.a0.tmps.size = 36
def RCB.val0 (X : RCB) : Nat → Value
  | 4 => .pointer (some ⟨X.bx, 0, none⟩)
  | 5 => .bool false
  | 6 => .bool false
  | 7 => .pointer (some ⟨X.bx, 0, none⟩)
  | 8 => .pointer (some ⟨X.bx, 0, none⟩)
  | 9 => .pointer (some ⟨X.bx, 4, none⟩)
  | 10 => .slice X.ua 0 X.uc
  | 11 => .int .i64 0
  | 12 => .bool false
  | 13 => .bool false
  | 14 => undef
  | 15 => undef
  | 16 => undef
  | 17 => undef
  | 18 => undef
  | 19 => undef
  | 20 => undef
  | 21 => undef
  | 22 => undef
  | 23 => undef
  | 24 => undef
  | 25 => undef
  | 26 => undef
  | 27 => undef
  | 28 => .bool false
  | 29 => .bool false
  | _ => undef
def RCB.av : Nat → Option Nat
  | _ => none
def RCB.acts : List Nat := []
/-- The world, by how many of the acting ones have come up. -/
def RCB.Wd (X : RCB) : Nat → (Nat → Value) → World → Prop
  | _, _, w => Kp X.W w
theorem RCB.kp {X : RCB} {n : Nat} {γ : Nat → Value} {w : World} (h : X.Wd n γ w) : Kp X.W w := h
theorem RCB.keep {X : RCB} {n : Nat} {γ : Nat → Value} {w w' : World} (h : X.Wd n γ w) (k : Kp w w') : X.Wd n γ w' := Kp.trans h k
theorem RCB.chain : chainG (opsOf 1 Tryz.f32) RCB.acts = true := by kernel_rfl
theorem RCB.nodup : RCB.acts.Nodup := by decide
theorem RCB.inj {listed : Array Bool} {i k : Nat} (h : (List.range (opsOf 1 Tryz.f32).size).all (fun j => decide (j = i) || !(match dstOf (opsOf 1 Tryz.f32) j with | some d => decide (RCB.av d = some k) | none => false)) = true) (hu : listed.getD i false = false) : ∀ d, got (opsOf 1 Tryz.f32) listed d → RCB.av d ≠ some k := by
  rintro d ⟨j, h1, h2⟩ h3
  have hlt : j < (opsOf 1 Tryz.f32).size := by
    rcases Nat.lt_or_ge j (opsOf 1 Tryz.f32).size with h4 | h4
    · exact h4
    · unfold dstOf at h2; rw [Array.getElem?_eq_none h4] at h2; cases h2
  have h5 := List.all_eq_true.1 h j (List.mem_range.2 hlt)
  rw [h2] at h5
  simp only [h3, decide_true, Bool.not_true, Bool.or_false, decide_eq_true_eq] at h5
  subst h5
  rw [hu] at h1
  cases h1
theorem RCB.s0 (X : RCB) (ok : RCBOk X) {Q : Exit → Act → World → Prop} : StepG (opsOf 1 Tryz.f32) RCB.acts RCB.av X.val0 X.Wd X.a0 Q 0 := by
  intro γ listed a w o hF hC hW h1 ho h2
  obtain ⟨hd, hop, hg⟩ := fields2 (x := some 4) (y := Op.move (.tmp 0)) (z := none) (by kernel_rfl) ho
  have e0 : a.eval (.tmp 0) = .pointer (some ⟨X.bx, 0, none⟩) := (hF.eval0 (by kernel_rfl)).trans ok.e0
  refine st_pureG hF hC hW ho h2 (by decide) hd hg rfl ?_
  show _ = Result.ok (Next.value (.pointer (some ⟨X.bx, 0, none⟩))) w
  generalize a.eval = ρ at e0 ⊢
  unfold execOp
  rw [hop]
  simp [e0, go_sem]
theorem RCB.s1 (X : RCB) (ok : RCBOk X) {Q : Exit → Act → World → Prop} : StepG (opsOf 1 Tryz.f32) RCB.acts RCB.av X.val0 X.Wd X.a0 Q 1 := by
  intro γ listed a w o hF hC hW h1 ho h2
  obtain ⟨hd, hop, hg⟩ := fields2 (x := some 5) (y := Op.call { callee := .value (.func 60), args := #[(.tmp 4)], argTypes := #[90] }) (z := none) (by kernel_rfl) ho
  have e4 : a.eval (.tmp 4) = .pointer (some ⟨X.bx, 0, none⟩) := slotG hF ho h2 (j := 0) (d := 4) (by kernel_rfl) (by kernel_rfl) (by rw [ok.sz]; decide)
  have ef : a.eval (.func 60) = .func (.func 60) #[] #[] := rfl
  refine st_callG hF hC hW ho h2 (by decide) hd hg rfl (f := 60) (args := #[.pointer (some ⟨X.bx, 0, none⟩)]) ?_ ?_ ?_
  · generalize a.eval = ρ at e4 ef ⊢
    unfold execOp
    rw [hop]
    simp [e4, ef, go_sem]
  · exact gap_k ok.ca ok.hg (RCB.kp hW)
  · intro w' hk; exact RCB.keep hW hk
theorem RCB.s2 (X : RCB) (ok : RCBOk X) {Q : Exit → Act → World → Prop} : StepG (opsOf 1 Tryz.f32) RCB.acts RCB.av X.val0 X.Wd X.a0 Q 2 := by
  intro γ listed a w o hF hC hW h1 ho h2
  obtain ⟨hd, hop, hg⟩ := fields2 (x := some 6) (y := Op.move (.tmp 5)) (z := none) (by kernel_rfl) ho
  have e5 : a.eval (.tmp 5) = .bool false := slotG hF ho h2 (j := 1) (d := 5) (by kernel_rfl) (by kernel_rfl) (by rw [ok.sz]; decide)
  refine st_pureG hF hC hW ho h2 (by decide) hd hg rfl ?_
  show _ = Result.ok (Next.value (.bool false)) w
  generalize a.eval = ρ at e5 ⊢
  unfold execOp
  rw [hop]
  simp [e5, go_sem]
theorem RCB.s3 (X : RCB) (ok : RCBOk X) {Q : Exit → Act → World → Prop} : StepG (opsOf 1 Tryz.f32) RCB.acts RCB.av X.val0 X.Wd X.a0 Q 3 := by
  intro γ listed a w o hF hC hW h1 ho h2
  obtain ⟨hd, hop, hg⟩ := fields2 (x := some 7) (y := Op.move (.tmp 0)) (z := some (2, false)) (by kernel_rfl) ho
  have eg : a.eval (.tmp 6) = .bool false := slotG hF ho h2 (j := 2) (d := 6) (by kernel_rfl) (by kernel_rfl) (by rw [ok.sz]; decide)
  have hw := wanted_of (ops := (opsOf 1 Tryz.f32)) hg (yl_of (by kernel_rfl : dstOf (opsOf 1 Tryz.f32) 2 = some 6) (by rw [hF.tsize, ok.sz]; decide) eg)
  replace hw : Region.wanted o (yielded (opsOf 1 Tryz.f32) a.tmps) = true := hw
  have e0 : a.eval (.tmp 0) = .pointer (some ⟨X.bx, 0, none⟩) := (hF.eval0 (by kernel_rfl)).trans ok.e0
  refine st_pureW hF hC hW ho h2 (by decide) hd hw rfl ?_
  show _ = Result.ok (Next.value (.pointer (some ⟨X.bx, 0, none⟩))) w
  generalize a.eval = ρ at e0 ⊢
  unfold execOp
  rw [hop]
  simp [e0, go_sem]
theorem RCB.s4 (X : RCB) (ok : RCBOk X) {Q : Exit → Act → World → Prop} : StepG (opsOf 1 Tryz.f32) RCB.acts RCB.av X.val0 X.Wd X.a0 Q 4 := by
  intro γ listed a w o hF hC hW h1 ho h2
  obtain ⟨hd, hop, hg⟩ := fields2 (x := some 8) (y := Op.nilCheck (.tmp 7)) (z := some (2, false)) (by kernel_rfl) ho
  have eg : a.eval (.tmp 6) = .bool false := slotG hF ho h2 (j := 2) (d := 6) (by kernel_rfl) (by kernel_rfl) (by rw [ok.sz]; decide)
  have hw := wanted_of (ops := (opsOf 1 Tryz.f32)) hg (yl_of (by kernel_rfl : dstOf (opsOf 1 Tryz.f32) 2 = some 6) (by rw [hF.tsize, ok.sz]; decide) eg)
  replace hw : Region.wanted o (yielded (opsOf 1 Tryz.f32) a.tmps) = true := hw
  have e7 : a.eval (.tmp 7) = .pointer (some ⟨X.bx, 0, none⟩) := slotG hF ho h2 (j := 3) (d := 7) (by kernel_rfl) (by kernel_rfl) (by rw [ok.sz]; decide)
  refine st_pureW hF hC hW ho h2 (by decide) hd hw rfl ?_
  show _ = Result.ok (Next.value (.pointer (some ⟨X.bx, 0, none⟩))) w
  generalize a.eval = ρ at e7 ⊢
  unfold execOp
  rw [hop]
  simp [e7, go_sem]
theorem RCB.s5 (X : RCB) (ok : RCBOk X) {Q : Exit → Act → World → Prop} : StepG (opsOf 1 Tryz.f32) RCB.acts RCB.av X.val0 X.Wd X.a0 Q 5 := by
  intro γ listed a w o hF hC hW h1 ho h2
  obtain ⟨hd, hop, hg⟩ := fields2 (x := some 9) (y := Op.fieldAddr 67 (.tmp 8) 4) (z := some (2, false)) (by kernel_rfl) ho
  have eg : a.eval (.tmp 6) = .bool false := slotG hF ho h2 (j := 2) (d := 6) (by kernel_rfl) (by kernel_rfl) (by rw [ok.sz]; decide)
  have hw := wanted_of (ops := (opsOf 1 Tryz.f32)) hg (yl_of (by kernel_rfl : dstOf (opsOf 1 Tryz.f32) 2 = some 6) (by rw [hF.tsize, ok.sz]; decide) eg)
  replace hw : Region.wanted o (yielded (opsOf 1 Tryz.f32) a.tmps) = true := hw
  have e8 : a.eval (.tmp 8) = .pointer (some ⟨X.bx, 0, none⟩) := slotG hF ho h2 (j := 4) (d := 8) (by kernel_rfl) (by kernel_rfl) (by rw [ok.sz]; decide)
  refine st_pureW hF hC hW ho h2 (by decide) hd hw rfl ?_
  show _ = Result.ok (Next.value (.pointer (some ⟨X.bx, 4, none⟩))) w
  generalize a.eval = ρ at e8 ⊢
  unfold execOp
  rw [hop]
  simp [e8, go_sem]
theorem RCB.s6 (X : RCB) (ok : RCBOk X) {Q : Exit → Act → World → Prop} : StepG (opsOf 1 Tryz.f32) RCB.acts RCB.av X.val0 X.Wd X.a0 Q 6 := by
  intro γ listed a w o hF hC hW h1 ho h2
  obtain ⟨hd, hop, hg⟩ := fields2 (x := some 10) (y := Op.load 64 (.tmp 9)) (z := some (2, false)) (by kernel_rfl) ho
  have eg : a.eval (.tmp 6) = .bool false := slotG hF ho h2 (j := 2) (d := 6) (by kernel_rfl) (by kernel_rfl) (by rw [ok.sz]; decide)
  have hw := wanted_of (ops := (opsOf 1 Tryz.f32)) hg (yl_of (by kernel_rfl : dstOf (opsOf 1 Tryz.f32) 2 = some 6) (by rw [hF.tsize, ok.sz]; decide) eg)
  replace hw : Region.wanted o (yielded (opsOf 1 Tryz.f32) a.tmps) = true := hw
  have e9 : a.eval (.tmp 9) = .pointer (some ⟨X.bx, 4, none⟩) := slotG hF ho h2 (j := 5) (d := 9) (by kernel_rfl) (by kernel_rfl) (by rw [ok.sz]; decide)
  have hc0 := rq_at (RCB.kp hW) ok.c4
  refine st_pureW hF hC hW ho h2 (by decide) hd hw rfl ?_
  show _ = Result.ok (Next.value (.slice X.ua 0 X.uc)) w
  generalize a.eval = ρ at e9 ⊢
  unfold execOp
  rw [hop]
  simp [e9, hc0, go_sem]
theorem RCB.s7 (X : RCB) (ok : RCBOk X) {Q : Exit → Act → World → Prop} : StepG (opsOf 1 Tryz.f32) RCB.acts RCB.av X.val0 X.Wd X.a0 Q 7 := by
  intro γ listed a w o hF hC hW h1 ho h2
  obtain ⟨hd, hop, hg⟩ := fields2 (x := some 11) (y := Op.call { callee := .builtin .len, args := #[(.tmp 10)], argTypes := #[64] }) (z := some (2, false)) (by kernel_rfl) ho
  have eg : a.eval (.tmp 6) = .bool false := slotG hF ho h2 (j := 2) (d := 6) (by kernel_rfl) (by kernel_rfl) (by rw [ok.sz]; decide)
  have hw := wanted_of (ops := (opsOf 1 Tryz.f32)) hg (yl_of (by kernel_rfl : dstOf (opsOf 1 Tryz.f32) 2 = some 6) (by rw [hF.tsize, ok.sz]; decide) eg)
  replace hw : Region.wanted o (yielded (opsOf 1 Tryz.f32) a.tmps) = true := hw
  have e10 : a.eval (.tmp 10) = .slice X.ua 0 X.uc := slotG hF ho h2 (j := 6) (d := 10) (by kernel_rfl) (by kernel_rfl) (by rw [ok.sz]; decide)
  refine st_pureW hF hC hW ho h2 (by decide) hd hw rfl ?_
  show _ = Result.ok (Next.value (.int .i64 0)) w
  generalize a.eval = ρ at e10 ⊢
  unfold execOp
  rw [hop]
  simp [e10, go_sem]
theorem RCB.s8 (X : RCB) (ok : RCBOk X) {Q : Exit → Act → World → Prop} : StepG (opsOf 1 Tryz.f32) RCB.acts RCB.av X.val0 X.Wd X.a0 Q 8 := by
  intro γ listed a w o hF hC hW h1 ho h2
  obtain ⟨hd, hop, hg⟩ := fields2 (x := some 12) (y := Op.binOp .gtr 3 (.tmp 11) (.const (.int .i64 0)) 3) (z := some (2, false)) (by kernel_rfl) ho
  have eg : a.eval (.tmp 6) = .bool false := slotG hF ho h2 (j := 2) (d := 6) (by kernel_rfl) (by kernel_rfl) (by rw [ok.sz]; decide)
  have hw := wanted_of (ops := (opsOf 1 Tryz.f32)) hg (yl_of (by kernel_rfl : dstOf (opsOf 1 Tryz.f32) 2 = some 6) (by rw [hF.tsize, ok.sz]; decide) eg)
  replace hw : Region.wanted o (yielded (opsOf 1 Tryz.f32) a.tmps) = true := hw
  have e11 : a.eval (.tmp 11) = .int .i64 0 := slotG hF ho h2 (j := 7) (d := 11) (by kernel_rfl) (by kernel_rfl) (by rw [ok.sz]; decide)
  have ec1 : a.eval (.const (.int .i64 0)) = .int .i64 0 := rfl
  refine st_pureW hF hC hW ho h2 (by decide) hd hw rfl ?_
  show _ = Result.ok (Next.value (.bool false)) w
  generalize a.eval = ρ at e11 ec1 ⊢
  unfold execOp
  rw [hop]
  simp [e11, ec1, go_sem]
theorem RCB.s9 (X : RCB) (ok : RCBOk X) {Q : Exit → Act → World → Prop} : StepG (opsOf 1 Tryz.f32) RCB.acts RCB.av X.val0 X.Wd X.a0 Q 9 := by
  intro γ listed a w o hF hC hW h1 ho h2
  obtain ⟨hd, hop, hg⟩ := fields2 (x := some 13) (y := Op.move (.tmp 12)) (z := some (2, false)) (by kernel_rfl) ho
  have eg : a.eval (.tmp 6) = .bool false := slotG hF ho h2 (j := 2) (d := 6) (by kernel_rfl) (by kernel_rfl) (by rw [ok.sz]; decide)
  have hw := wanted_of (ops := (opsOf 1 Tryz.f32)) hg (yl_of (by kernel_rfl : dstOf (opsOf 1 Tryz.f32) 2 = some 6) (by rw [hF.tsize, ok.sz]; decide) eg)
  replace hw : Region.wanted o (yielded (opsOf 1 Tryz.f32) a.tmps) = true := hw
  have e12 : a.eval (.tmp 12) = .bool false := slotG hF ho h2 (j := 8) (d := 12) (by kernel_rfl) (by kernel_rfl) (by rw [ok.sz]; decide)
  refine st_pureW hF hC hW ho h2 (by decide) hd hw rfl ?_
  show _ = Result.ok (Next.value (.bool false)) w
  generalize a.eval = ρ at e12 ⊢
  unfold execOp
  rw [hop]
  simp [e12, go_sem]
theorem RCB.s10 (X : RCB) (ok : RCBOk X) {Q : Exit → Act → World → Prop} : StepG (opsOf 1 Tryz.f32) RCB.acts RCB.av X.val0 X.Wd X.a0 Q 10 := by
  intro γ listed a w o hF hC hW h1 ho h2
  obtain ⟨hd, hop, hg⟩ := fields2 (x := some 14) (y := Op.move (.tmp 0)) (z := some (9, true)) (by kernel_rfl) ho
  have eg : a.eval (.tmp 13) = .bool false := slotG hF ho h2 (j := 9) (d := 13) (by kernel_rfl) (by kernel_rfl) (by rw [ok.sz]; decide)
  have hw := wanted_of (ops := (opsOf 1 Tryz.f32)) hg (yl_of (by kernel_rfl : dstOf (opsOf 1 Tryz.f32) 9 = some 13) (by rw [hF.tsize, ok.sz]; decide) eg)
  replace hw : Region.wanted o (yielded (opsOf 1 Tryz.f32) a.tmps) = false := hw
  exact st_skipW hF hC hW ho h2 (by decide) hd hw rfl rfl
theorem RCB.s11 (X : RCB) (ok : RCBOk X) {Q : Exit → Act → World → Prop} : StepG (opsOf 1 Tryz.f32) RCB.acts RCB.av X.val0 X.Wd X.a0 Q 11 := by
  intro γ listed a w o hF hC hW h1 ho h2
  obtain ⟨hd, hop, hg⟩ := fields2 (x := some 15) (y := Op.nilCheck (.tmp 14)) (z := some (9, true)) (by kernel_rfl) ho
  have eg : a.eval (.tmp 13) = .bool false := slotG hF ho h2 (j := 9) (d := 13) (by kernel_rfl) (by kernel_rfl) (by rw [ok.sz]; decide)
  have hw := wanted_of (ops := (opsOf 1 Tryz.f32)) hg (yl_of (by kernel_rfl : dstOf (opsOf 1 Tryz.f32) 9 = some 13) (by rw [hF.tsize, ok.sz]; decide) eg)
  replace hw : Region.wanted o (yielded (opsOf 1 Tryz.f32) a.tmps) = false := hw
  exact st_skipW hF hC hW ho h2 (by decide) hd hw rfl rfl
theorem RCB.s12 (X : RCB) (ok : RCBOk X) {Q : Exit → Act → World → Prop} : StepG (opsOf 1 Tryz.f32) RCB.acts RCB.av X.val0 X.Wd X.a0 Q 12 := by
  intro γ listed a w o hF hC hW h1 ho h2
  obtain ⟨hd, hop, hg⟩ := fields2 (x := some 16) (y := Op.fieldAddr 67 (.tmp 15) 4) (z := some (9, true)) (by kernel_rfl) ho
  have eg : a.eval (.tmp 13) = .bool false := slotG hF ho h2 (j := 9) (d := 13) (by kernel_rfl) (by kernel_rfl) (by rw [ok.sz]; decide)
  have hw := wanted_of (ops := (opsOf 1 Tryz.f32)) hg (yl_of (by kernel_rfl : dstOf (opsOf 1 Tryz.f32) 9 = some 13) (by rw [hF.tsize, ok.sz]; decide) eg)
  replace hw : Region.wanted o (yielded (opsOf 1 Tryz.f32) a.tmps) = false := hw
  exact st_skipW hF hC hW ho h2 (by decide) hd hw rfl rfl
theorem RCB.s13 (X : RCB) (ok : RCBOk X) {Q : Exit → Act → World → Prop} : StepG (opsOf 1 Tryz.f32) RCB.acts RCB.av X.val0 X.Wd X.a0 Q 13 := by
  intro γ listed a w o hF hC hW h1 ho h2
  obtain ⟨hd, hop, hg⟩ := fields2 (x := some 17) (y := Op.load 64 (.tmp 16)) (z := some (9, true)) (by kernel_rfl) ho
  have eg : a.eval (.tmp 13) = .bool false := slotG hF ho h2 (j := 9) (d := 13) (by kernel_rfl) (by kernel_rfl) (by rw [ok.sz]; decide)
  have hw := wanted_of (ops := (opsOf 1 Tryz.f32)) hg (yl_of (by kernel_rfl : dstOf (opsOf 1 Tryz.f32) 9 = some 13) (by rw [hF.tsize, ok.sz]; decide) eg)
  replace hw : Region.wanted o (yielded (opsOf 1 Tryz.f32) a.tmps) = false := hw
  exact st_skipW hF hC hW ho h2 (by decide) hd hw rfl rfl
theorem RCB.s14 (X : RCB) (ok : RCBOk X) {Q : Exit → Act → World → Prop} : StepG (opsOf 1 Tryz.f32) RCB.acts RCB.av X.val0 X.Wd X.a0 Q 14 := by
  intro γ listed a w o hF hC hW h1 ho h2
  obtain ⟨hd, hop, hg⟩ := fields2 (x := some 18) (y := Op.move (.tmp 0)) (z := some (9, true)) (by kernel_rfl) ho
  have eg : a.eval (.tmp 13) = .bool false := slotG hF ho h2 (j := 9) (d := 13) (by kernel_rfl) (by kernel_rfl) (by rw [ok.sz]; decide)
  have hw := wanted_of (ops := (opsOf 1 Tryz.f32)) hg (yl_of (by kernel_rfl : dstOf (opsOf 1 Tryz.f32) 9 = some 13) (by rw [hF.tsize, ok.sz]; decide) eg)
  replace hw : Region.wanted o (yielded (opsOf 1 Tryz.f32) a.tmps) = false := hw
  exact st_skipW hF hC hW ho h2 (by decide) hd hw rfl rfl
theorem RCB.s15 (X : RCB) (ok : RCBOk X) {Q : Exit → Act → World → Prop} : StepG (opsOf 1 Tryz.f32) RCB.acts RCB.av X.val0 X.Wd X.a0 Q 15 := by
  intro γ listed a w o hF hC hW h1 ho h2
  obtain ⟨hd, hop, hg⟩ := fields2 (x := some 19) (y := Op.nilCheck (.tmp 18)) (z := some (9, true)) (by kernel_rfl) ho
  have eg : a.eval (.tmp 13) = .bool false := slotG hF ho h2 (j := 9) (d := 13) (by kernel_rfl) (by kernel_rfl) (by rw [ok.sz]; decide)
  have hw := wanted_of (ops := (opsOf 1 Tryz.f32)) hg (yl_of (by kernel_rfl : dstOf (opsOf 1 Tryz.f32) 9 = some 13) (by rw [hF.tsize, ok.sz]; decide) eg)
  replace hw : Region.wanted o (yielded (opsOf 1 Tryz.f32) a.tmps) = false := hw
  exact st_skipW hF hC hW ho h2 (by decide) hd hw rfl rfl
theorem RCB.s16 (X : RCB) (ok : RCBOk X) {Q : Exit → Act → World → Prop} : StepG (opsOf 1 Tryz.f32) RCB.acts RCB.av X.val0 X.Wd X.a0 Q 16 := by
  intro γ listed a w o hF hC hW h1 ho h2
  obtain ⟨hd, hop, hg⟩ := fields2 (x := some 20) (y := Op.fieldAddr 67 (.tmp 19) 4) (z := some (9, true)) (by kernel_rfl) ho
  have eg : a.eval (.tmp 13) = .bool false := slotG hF ho h2 (j := 9) (d := 13) (by kernel_rfl) (by kernel_rfl) (by rw [ok.sz]; decide)
  have hw := wanted_of (ops := (opsOf 1 Tryz.f32)) hg (yl_of (by kernel_rfl : dstOf (opsOf 1 Tryz.f32) 9 = some 13) (by rw [hF.tsize, ok.sz]; decide) eg)
  replace hw : Region.wanted o (yielded (opsOf 1 Tryz.f32) a.tmps) = false := hw
  exact st_skipW hF hC hW ho h2 (by decide) hd hw rfl rfl
theorem RCB.s17 (X : RCB) (ok : RCBOk X) {Q : Exit → Act → World → Prop} : StepG (opsOf 1 Tryz.f32) RCB.acts RCB.av X.val0 X.Wd X.a0 Q 17 := by
  intro γ listed a w o hF hC hW h1 ho h2
  obtain ⟨hd, hop, hg⟩ := fields2 (x := some 21) (y := Op.load 64 (.tmp 20)) (z := some (9, true)) (by kernel_rfl) ho
  have eg : a.eval (.tmp 13) = .bool false := slotG hF ho h2 (j := 9) (d := 13) (by kernel_rfl) (by kernel_rfl) (by rw [ok.sz]; decide)
  have hw := wanted_of (ops := (opsOf 1 Tryz.f32)) hg (yl_of (by kernel_rfl : dstOf (opsOf 1 Tryz.f32) 9 = some 13) (by rw [hF.tsize, ok.sz]; decide) eg)
  replace hw : Region.wanted o (yielded (opsOf 1 Tryz.f32) a.tmps) = false := hw
  exact st_skipW hF hC hW ho h2 (by decide) hd hw rfl rfl
theorem RCB.s18 (X : RCB) (ok : RCBOk X) {Q : Exit → Act → World → Prop} : StepG (opsOf 1 Tryz.f32) RCB.acts RCB.av X.val0 X.Wd X.a0 Q 18 := by
  intro γ listed a w o hF hC hW h1 ho h2
  obtain ⟨hd, hop, hg⟩ := fields2 (x := some 22) (y := Op.call { callee := .builtin .len, args := #[(.tmp 21)], argTypes := #[64] }) (z := some (9, true)) (by kernel_rfl) ho
  have eg : a.eval (.tmp 13) = .bool false := slotG hF ho h2 (j := 9) (d := 13) (by kernel_rfl) (by kernel_rfl) (by rw [ok.sz]; decide)
  have hw := wanted_of (ops := (opsOf 1 Tryz.f32)) hg (yl_of (by kernel_rfl : dstOf (opsOf 1 Tryz.f32) 9 = some 13) (by rw [hF.tsize, ok.sz]; decide) eg)
  replace hw : Region.wanted o (yielded (opsOf 1 Tryz.f32) a.tmps) = false := hw
  exact st_skipW hF hC hW ho h2 (by decide) hd hw rfl rfl
theorem RCB.s19 (X : RCB) (ok : RCBOk X) {Q : Exit → Act → World → Prop} : StepG (opsOf 1 Tryz.f32) RCB.acts RCB.av X.val0 X.Wd X.a0 Q 19 := by
  intro γ listed a w o hF hC hW h1 ho h2
  obtain ⟨hd, hop, hg⟩ := fields2 (x := some 23) (y := Op.binOp .sub 3 (.tmp 22) (.const (.int .i64 1)) 3) (z := some (9, true)) (by kernel_rfl) ho
  have eg : a.eval (.tmp 13) = .bool false := slotG hF ho h2 (j := 9) (d := 13) (by kernel_rfl) (by kernel_rfl) (by rw [ok.sz]; decide)
  have hw := wanted_of (ops := (opsOf 1 Tryz.f32)) hg (yl_of (by kernel_rfl : dstOf (opsOf 1 Tryz.f32) 9 = some 13) (by rw [hF.tsize, ok.sz]; decide) eg)
  replace hw : Region.wanted o (yielded (opsOf 1 Tryz.f32) a.tmps) = false := hw
  exact st_skipW hF hC hW ho h2 (by decide) hd hw rfl rfl
theorem RCB.s20 (X : RCB) (ok : RCBOk X) {Q : Exit → Act → World → Prop} : StepG (opsOf 1 Tryz.f32) RCB.acts RCB.av X.val0 X.Wd X.a0 Q 20 := by
  intro γ listed a w o hF hC hW h1 ho h2
  obtain ⟨hd, hop, hg⟩ := fields2 (x := some 24) (y := Op.indexAddr 64 (.tmp 17) (.tmp 23)) (z := some (9, true)) (by kernel_rfl) ho
  have eg : a.eval (.tmp 13) = .bool false := slotG hF ho h2 (j := 9) (d := 13) (by kernel_rfl) (by kernel_rfl) (by rw [ok.sz]; decide)
  have hw := wanted_of (ops := (opsOf 1 Tryz.f32)) hg (yl_of (by kernel_rfl : dstOf (opsOf 1 Tryz.f32) 9 = some 13) (by rw [hF.tsize, ok.sz]; decide) eg)
  replace hw : Region.wanted o (yielded (opsOf 1 Tryz.f32) a.tmps) = false := hw
  exact st_skipW hF hC hW ho h2 (by decide) hd hw rfl rfl
theorem RCB.s21 (X : RCB) (ok : RCBOk X) {Q : Exit → Act → World → Prop} : StepG (opsOf 1 Tryz.f32) RCB.acts RCB.av X.val0 X.Wd X.a0 Q 21 := by
  intro γ listed a w o hF hC hW h1 ho h2
  obtain ⟨hd, hop, hg⟩ := fields2 (x := some 25) (y := Op.load 34 (.tmp 24)) (z := some (9, true)) (by kernel_rfl) ho
  have eg : a.eval (.tmp 13) = .bool false := slotG hF ho h2 (j := 9) (d := 13) (by kernel_rfl) (by kernel_rfl) (by rw [ok.sz]; decide)
  have hw := wanted_of (ops := (opsOf 1 Tryz.f32)) hg (yl_of (by kernel_rfl : dstOf (opsOf 1 Tryz.f32) 9 = some 13) (by rw [hF.tsize, ok.sz]; decide) eg)
  replace hw : Region.wanted o (yielded (opsOf 1 Tryz.f32) a.tmps) = false := hw
  exact st_skipW hF hC hW ho h2 (by decide) hd hw rfl rfl
theorem RCB.s22 (X : RCB) (ok : RCBOk X) {Q : Exit → Act → World → Prop} : StepG (opsOf 1 Tryz.f32) RCB.acts RCB.av X.val0 X.Wd X.a0 Q 22 := by
  intro γ listed a w o hF hC hW h1 ho h2
  obtain ⟨hd, hop, hg⟩ := fields2 (x := some 26) (y := Op.load 34 (.tmp 3)) (z := some (9, true)) (by kernel_rfl) ho
  have eg : a.eval (.tmp 13) = .bool false := slotG hF ho h2 (j := 9) (d := 13) (by kernel_rfl) (by kernel_rfl) (by rw [ok.sz]; decide)
  have hw := wanted_of (ops := (opsOf 1 Tryz.f32)) hg (yl_of (by kernel_rfl : dstOf (opsOf 1 Tryz.f32) 9 = some 13) (by rw [hF.tsize, ok.sz]; decide) eg)
  replace hw : Region.wanted o (yielded (opsOf 1 Tryz.f32) a.tmps) = false := hw
  exact st_skipW hF hC hW ho h2 (by decide) hd hw rfl rfl
theorem RCB.s23 (X : RCB) (ok : RCBOk X) {Q : Exit → Act → World → Prop} : StepG (opsOf 1 Tryz.f32) RCB.acts RCB.av X.val0 X.Wd X.a0 Q 23 := by
  intro γ listed a w o hF hC hW h1 ho h2
  obtain ⟨hd, hop, hg⟩ := fields2 (x := some 27) (y := Op.binOp .eql 34 (.tmp 25) (.tmp 26) 34) (z := some (9, true)) (by kernel_rfl) ho
  have eg : a.eval (.tmp 13) = .bool false := slotG hF ho h2 (j := 9) (d := 13) (by kernel_rfl) (by kernel_rfl) (by rw [ok.sz]; decide)
  have hw := wanted_of (ops := (opsOf 1 Tryz.f32)) hg (yl_of (by kernel_rfl : dstOf (opsOf 1 Tryz.f32) 9 = some 13) (by rw [hF.tsize, ok.sz]; decide) eg)
  replace hw : Region.wanted o (yielded (opsOf 1 Tryz.f32) a.tmps) = false := hw
  exact st_skipW hF hC hW ho h2 (by decide) hd hw rfl rfl
theorem RCB.s24 (X : RCB) (ok : RCBOk X) {Q : Exit → Act → World → Prop} : StepG (opsOf 1 Tryz.f32) RCB.acts RCB.av X.val0 X.Wd X.a0 Q 24 := by
  intro γ listed a w o hF hC hW h1 ho h2
  obtain ⟨hd, hop, hg⟩ := fields2 (x := some 28) (y := Op.pick (.tmp 13) (.tmp 27) (.const (.bool false))) (z := some (2, false)) (by kernel_rfl) ho
  have eg : a.eval (.tmp 6) = .bool false := slotG hF ho h2 (j := 2) (d := 6) (by kernel_rfl) (by kernel_rfl) (by rw [ok.sz]; decide)
  have hw := wanted_of (ops := (opsOf 1 Tryz.f32)) hg (yl_of (by kernel_rfl : dstOf (opsOf 1 Tryz.f32) 2 = some 6) (by rw [hF.tsize, ok.sz]; decide) eg)
  replace hw : Region.wanted o (yielded (opsOf 1 Tryz.f32) a.tmps) = true := hw
  have e13 : a.eval (.tmp 13) = .bool false := slotG hF ho h2 (j := 9) (d := 13) (by kernel_rfl) (by kernel_rfl) (by rw [ok.sz]; decide)
  have e27 : a.eval (.tmp 27) = undef := slotG hF ho h2 (j := 23) (d := 27) (by kernel_rfl) (by kernel_rfl) (by rw [ok.sz]; decide)
  have ec2 : a.eval (.const (.bool false)) = .bool false := rfl
  refine st_pureW hF hC hW ho h2 (by decide) hd hw rfl ?_
  show _ = Result.ok (Next.value (.bool false)) w
  generalize a.eval = ρ at e13 e27 ec2 ⊢
  unfold execOp
  rw [hop]
  simp [e13, e27, ec2, go_sem]
theorem RCB.s25 (X : RCB) (ok : RCBOk X) {Q : Exit → Act → World → Prop} : StepG (opsOf 1 Tryz.f32) RCB.acts RCB.av X.val0 X.Wd X.a0 Q 25 := by
  intro γ listed a w o hF hC hW h1 ho h2
  obtain ⟨hd, hop, hg⟩ := fields2 (x := some 29) (y := Op.pick (.tmp 6) (.const (.bool true)) (.tmp 28)) (z := none) (by kernel_rfl) ho
  have e6 : a.eval (.tmp 6) = .bool false := slotG hF ho h2 (j := 2) (d := 6) (by kernel_rfl) (by kernel_rfl) (by rw [ok.sz]; decide)
  have ec1 : a.eval (.const (.bool true)) = .bool true := rfl
  have e28 : a.eval (.tmp 28) = .bool false := slotG hF ho h2 (j := 24) (d := 28) (by kernel_rfl) (by kernel_rfl) (by rw [ok.sz]; decide)
  refine st_pureG hF hC hW ho h2 (by decide) hd hg rfl ?_
  show _ = Result.ok (Next.value (.bool false)) w
  generalize a.eval = ρ at e6 ec1 e28 ⊢
  unfold execOp
  rw [hop]
  simp [e6, ec1, e28, go_sem]
theorem RCB.size : (opsOf 1 Tryz.f32).size = 26 := by kernel_rfl
theorem RCB.steps (X : RCB) (ok : RCBOk X) {Q : Exit → Act → World → Prop} (i : Nat) (hi : i < (opsOf 1 Tryz.f32).size) : StepG (opsOf 1 Tryz.f32) RCB.acts RCB.av X.val0 X.Wd X.a0 Q i := by
  rw [RCB.size] at hi
  have hc : i = 0 ∨ i = 1 ∨ i = 2 ∨ i = 3 ∨ i = 4 ∨ i = 5 ∨ i = 6 ∨ i = 7 ∨ i = 8 ∨ i = 9 ∨ i = 10 ∨ i = 11 ∨ i = 12 ∨ i = 13 ∨ i = 14 ∨ i = 15 ∨ i = 16 ∨ i = 17 ∨ i = 18 ∨ i = 19 ∨ i = 20 ∨ i = 21 ∨ i = 22 ∨ i = 23 ∨ i = 24 ∨ i = 25 := by omega
  rcases hc with rfl | rfl | rfl | rfl | rfl | rfl | rfl | rfl | rfl | rfl | rfl | rfl | rfl | rfl | rfl | rfl | rfl | rfl | rfl | rfl | rfl | rfl | rfl | rfl | rfl | rfl
  · exact RCB.s0 X ok
  · exact RCB.s1 X ok
  · exact RCB.s2 X ok
  · exact RCB.s3 X ok
  · exact RCB.s4 X ok
  · exact RCB.s5 X ok
  · exact RCB.s6 X ok
  · exact RCB.s7 X ok
  · exact RCB.s8 X ok
  · exact RCB.s9 X ok
  · exact RCB.s10 X ok
  · exact RCB.s11 X ok
  · exact RCB.s12 X ok
  · exact RCB.s13 X ok
  · exact RCB.s14 X ok
  · exact RCB.s15 X ok
  · exact RCB.s16 X ok
  · exact RCB.s17 X ok
  · exact RCB.s18 X ok
  · exact RCB.s19 X ok
  · exact RCB.s20 X ok
  · exact RCB.s21 X ok
  · exact RCB.s22 X ok
  · exact RCB.s23 X ok
  · exact RCB.s24 X ok
  · exact RCB.s25 X ok
theorem RCB.puts (X : RCB) (γ : Nat → Value) (a0 : Act) : putsL (valG RCB.av X.val0 γ) (opsOf 1 Tryz.f32).toList a0 = ((((((((((((((((((((((((((a0.put (some 4) (.pointer (some ⟨X.bx, 0, none⟩))).put (some 5) (.bool false)).put (some 6) (.bool false)).put (some 7) (.pointer (some ⟨X.bx, 0, none⟩))).put (some 8) (.pointer (some ⟨X.bx, 0, none⟩))).put (some 9) (.pointer (some ⟨X.bx, 4, none⟩))).put (some 10) (.slice X.ua 0 X.uc)).put (some 11) (.int .i64 0)).put (some 12) (.bool false)).put (some 13) (.bool false)).put (some 14) (undef)).put (some 15) (undef)).put (some 16) (undef)).put (some 17) (undef)).put (some 18) (undef)).put (some 19) (undef)).put (some 20) (undef)).put (some 21) (undef)).put (some 22) (undef)).put (some 23) (undef)).put (some 24) (undef)).put (some 25) (undef)).put (some 26) (undef)).put (some 27) (undef)).put (some 28) (.bool false)).put (some 29) (.bool false)) := by kernel_rfl
/-- The region, whatever order comes up. -/
theorem RCB.run (X : RCB) (ok : RCBOk X) {Q : Exit → Act → World → Prop} (w : World) (h0 : X.Wd 0 (fun _ => undef) w.drew) (hend : ∀ (γ : Nat → Value) w', X.Wd 0 γ w' → Q .normal ((((((((((((((((((((((((((X.a0.put (some 4) (.pointer (some ⟨X.bx, 0, none⟩))).put (some 5) (.bool false)).put (some 6) (.bool false)).put (some 7) (.pointer (some ⟨X.bx, 0, none⟩))).put (some 8) (.pointer (some ⟨X.bx, 0, none⟩))).put (some 9) (.pointer (some ⟨X.bx, 4, none⟩))).put (some 10) (.slice X.ua 0 X.uc)).put (some 11) (.int .i64 0)).put (some 12) (.bool false)).put (some 13) (.bool false)).put (some 14) (undef)).put (some 15) (undef)).put (some 16) (undef)).put (some 17) (undef)).put (some 18) (undef)).put (some 19) (undef)).put (some 20) (undef)).put (some 21) (undef)).put (some 22) (undef)).put (some 23) (undef)).put (some 24) (undef)).put (some 25) (undef)).put (some 26) (undef)).put (some 27) (undef)).put (some 28) (.bool false)).put (some 29) (.bool false)) w') : (Code.region 1 (opsOf 1 Tryz.f32) true).wp Tryz.prog Q X.a0 w := by
  refine reg_act (acts := RCB.acts) (av := RCB.av) (val0 := X.val0) (Wd := X.Wd) (by kernel_rfl) (by kernel_rfl) (by rw [RCB.size]; decide) (fun i hi => RCB.steps X ok i hi) _ h0 ?_
  intro γ w' h
  rw [RCB.puts]
  exact hend γ w' h
structure RCC where
  bx : Nat
  bq : Nat
  x : Int
  y : Int
  a : Int
  g : Nat
  n : Nat
  m : Nat
  uc : Nat
  W : World
  a0 : Act
structure RCCOk (X : RCC) : Prop where
  q0 : X.W.cell? ⟨X.bq, 0, none⟩ = some (.int .i64 X.x)
  q1 : X.W.cell? ⟨X.bq, 1, none⟩ = some (.int .i64 X.y)
  c4 : X.W.cell? ⟨X.bx, 4, none⟩ = some (.slice (some ⟨X.g, 0, none⟩) X.n X.uc)
  ca : X.W.cell? ⟨X.bx, 1, none⟩ = some (.int .i64 X.a)
  hg : decide (X.a.tmod 2 = 1) = false
  h0 : 0 < X.n
  wm : IntKind.i64.wrap ((X.n : Int) - 1) = (X.m : Int)
  hm : X.m < X.n
  px : X.W.cell? ⟨X.g, X.m * 2, none⟩ = some (.int .i64 X.x)
  py : X.W.cell? ⟨X.g, X.m * 2 + 1, none⟩ = some (.int .i64 X.y)
  e0 : X.a0.eval (.tmp 0) = .pointer (some ⟨X.bx, 0, none⟩)
  e3 : X.a0.eval (.tmp 3) = .pointer (some ⟨X.bq, 0, none⟩)
  sz : X.a0.tmps.size = 36
def RCC.val0 (X : RCC) : Nat → Value
  | 4 => .pointer (some ⟨X.bx, 0, none⟩)
  | 5 => .bool false
  | 6 => .bool false
  | 7 => .pointer (some ⟨X.bx, 0, none⟩)
  | 8 => .pointer (some ⟨X.bx, 0, none⟩)
  | 9 => .pointer (some ⟨X.bx, 4, none⟩)
  | 10 => .slice (some ⟨X.g, 0, none⟩) X.n X.uc
  | 11 => .int .i64 (X.n : Int)
  | 12 => .bool true
  | 13 => .bool true
  | 14 => .pointer (some ⟨X.bx, 0, none⟩)
  | 15 => .pointer (some ⟨X.bx, 0, none⟩)
  | 16 => .pointer (some ⟨X.bx, 4, none⟩)
  | 17 => .slice (some ⟨X.g, 0, none⟩) X.n X.uc
  | 18 => .pointer (some ⟨X.bx, 0, none⟩)
  | 19 => .pointer (some ⟨X.bx, 0, none⟩)
  | 20 => .pointer (some ⟨X.bx, 4, none⟩)
  | 21 => .slice (some ⟨X.g, 0, none⟩) X.n X.uc
  | 22 => .int .i64 (X.n : Int)
  | 23 => .int .i64 (X.m : Int)
  | 24 => .pointer (some ⟨X.g, X.m * 2, none⟩)
  | 25 => .agg #[.int .i64 X.x, .int .i64 X.y]
  | 26 => .agg #[.int .i64 X.x, .int .i64 X.y]
  | 27 => .bool true
  | 28 => .bool true
  | 29 => .bool true
  | _ => undef
def RCC.av : Nat → Option Nat
  | _ => none
def RCC.acts : List Nat := []
/-- The world, by how many of the acting ones have come up. -/
def RCC.Wd (X : RCC) : Nat → (Nat → Value) → World → Prop
  | _, _, w => Kp X.W w
theorem RCC.kp {X : RCC} {n : Nat} {γ : Nat → Value} {w : World} (h : X.Wd n γ w) : Kp X.W w := h
theorem RCC.keep {X : RCC} {n : Nat} {γ : Nat → Value} {w w' : World} (h : X.Wd n γ w) (k : Kp w w') : X.Wd n γ w' := Kp.trans h k
theorem RCC.chain : chainG (opsOf 1 Tryz.f32) RCC.acts = true := by kernel_rfl
theorem RCC.nodup : RCC.acts.Nodup := by decide
theorem RCC.inj {listed : Array Bool} {i k : Nat} (h : (List.range (opsOf 1 Tryz.f32).size).all (fun j => decide (j = i) || !(match dstOf (opsOf 1 Tryz.f32) j with | some d => decide (RCC.av d = some k) | none => false)) = true) (hu : listed.getD i false = false) : ∀ d, got (opsOf 1 Tryz.f32) listed d → RCC.av d ≠ some k := by
  rintro d ⟨j, h1, h2⟩ h3
  have hlt : j < (opsOf 1 Tryz.f32).size := by
    rcases Nat.lt_or_ge j (opsOf 1 Tryz.f32).size with h4 | h4
    · exact h4
    · unfold dstOf at h2; rw [Array.getElem?_eq_none h4] at h2; cases h2
  have h5 := List.all_eq_true.1 h j (List.mem_range.2 hlt)
  rw [h2] at h5
  simp only [h3, decide_true, Bool.not_true, Bool.or_false, decide_eq_true_eq] at h5
  subst h5
  rw [hu] at h1
  cases h1
theorem RCC.s0 (X : RCC) (ok : RCCOk X) {Q : Exit → Act → World → Prop} : StepG (opsOf 1 Tryz.f32) RCC.acts RCC.av X.val0 X.Wd X.a0 Q 0 := by
  intro γ listed a w o hF hC hW h1 ho h2
  obtain ⟨hd, hop, hg⟩ := fields2 (x := some 4) (y := Op.move (.tmp 0)) (z := none) (by kernel_rfl) ho
  have e0 : a.eval (.tmp 0) = .pointer (some ⟨X.bx, 0, none⟩) := (hF.eval0 (by kernel_rfl)).trans ok.e0
  refine st_pureG hF hC hW ho h2 (by decide) hd hg rfl ?_
  show _ = Result.ok (Next.value (.pointer (some ⟨X.bx, 0, none⟩))) w
  generalize a.eval = ρ at e0 ⊢
  unfold execOp
  rw [hop]
  simp [e0, go_sem]
theorem RCC.s1 (X : RCC) (ok : RCCOk X) {Q : Exit → Act → World → Prop} : StepG (opsOf 1 Tryz.f32) RCC.acts RCC.av X.val0 X.Wd X.a0 Q 1 := by
  intro γ listed a w o hF hC hW h1 ho h2
  obtain ⟨hd, hop, hg⟩ := fields2 (x := some 5) (y := Op.call { callee := .value (.func 60), args := #[(.tmp 4)], argTypes := #[90] }) (z := none) (by kernel_rfl) ho
  have e4 : a.eval (.tmp 4) = .pointer (some ⟨X.bx, 0, none⟩) := slotG hF ho h2 (j := 0) (d := 4) (by kernel_rfl) (by kernel_rfl) (by rw [ok.sz]; decide)
  have ef : a.eval (.func 60) = .func (.func 60) #[] #[] := rfl
  refine st_callG hF hC hW ho h2 (by decide) hd hg rfl (f := 60) (args := #[.pointer (some ⟨X.bx, 0, none⟩)]) ?_ ?_ ?_
  · generalize a.eval = ρ at e4 ef ⊢
    unfold execOp
    rw [hop]
    simp [e4, ef, go_sem]
  · exact gap_k ok.ca ok.hg (RCC.kp hW)
  · intro w' hk; exact RCC.keep hW hk
theorem RCC.s2 (X : RCC) (ok : RCCOk X) {Q : Exit → Act → World → Prop} : StepG (opsOf 1 Tryz.f32) RCC.acts RCC.av X.val0 X.Wd X.a0 Q 2 := by
  intro γ listed a w o hF hC hW h1 ho h2
  obtain ⟨hd, hop, hg⟩ := fields2 (x := some 6) (y := Op.move (.tmp 5)) (z := none) (by kernel_rfl) ho
  have e5 : a.eval (.tmp 5) = .bool false := slotG hF ho h2 (j := 1) (d := 5) (by kernel_rfl) (by kernel_rfl) (by rw [ok.sz]; decide)
  refine st_pureG hF hC hW ho h2 (by decide) hd hg rfl ?_
  show _ = Result.ok (Next.value (.bool false)) w
  generalize a.eval = ρ at e5 ⊢
  unfold execOp
  rw [hop]
  simp [e5, go_sem]
theorem RCC.s3 (X : RCC) (ok : RCCOk X) {Q : Exit → Act → World → Prop} : StepG (opsOf 1 Tryz.f32) RCC.acts RCC.av X.val0 X.Wd X.a0 Q 3 := by
  intro γ listed a w o hF hC hW h1 ho h2
  obtain ⟨hd, hop, hg⟩ := fields2 (x := some 7) (y := Op.move (.tmp 0)) (z := some (2, false)) (by kernel_rfl) ho
  have eg : a.eval (.tmp 6) = .bool false := slotG hF ho h2 (j := 2) (d := 6) (by kernel_rfl) (by kernel_rfl) (by rw [ok.sz]; decide)
  have hw := wanted_of (ops := (opsOf 1 Tryz.f32)) hg (yl_of (by kernel_rfl : dstOf (opsOf 1 Tryz.f32) 2 = some 6) (by rw [hF.tsize, ok.sz]; decide) eg)
  replace hw : Region.wanted o (yielded (opsOf 1 Tryz.f32) a.tmps) = true := hw
  have e0 : a.eval (.tmp 0) = .pointer (some ⟨X.bx, 0, none⟩) := (hF.eval0 (by kernel_rfl)).trans ok.e0
  refine st_pureW hF hC hW ho h2 (by decide) hd hw rfl ?_
  show _ = Result.ok (Next.value (.pointer (some ⟨X.bx, 0, none⟩))) w
  generalize a.eval = ρ at e0 ⊢
  unfold execOp
  rw [hop]
  simp [e0, go_sem]
theorem RCC.s4 (X : RCC) (ok : RCCOk X) {Q : Exit → Act → World → Prop} : StepG (opsOf 1 Tryz.f32) RCC.acts RCC.av X.val0 X.Wd X.a0 Q 4 := by
  intro γ listed a w o hF hC hW h1 ho h2
  obtain ⟨hd, hop, hg⟩ := fields2 (x := some 8) (y := Op.nilCheck (.tmp 7)) (z := some (2, false)) (by kernel_rfl) ho
  have eg : a.eval (.tmp 6) = .bool false := slotG hF ho h2 (j := 2) (d := 6) (by kernel_rfl) (by kernel_rfl) (by rw [ok.sz]; decide)
  have hw := wanted_of (ops := (opsOf 1 Tryz.f32)) hg (yl_of (by kernel_rfl : dstOf (opsOf 1 Tryz.f32) 2 = some 6) (by rw [hF.tsize, ok.sz]; decide) eg)
  replace hw : Region.wanted o (yielded (opsOf 1 Tryz.f32) a.tmps) = true := hw
  have e7 : a.eval (.tmp 7) = .pointer (some ⟨X.bx, 0, none⟩) := slotG hF ho h2 (j := 3) (d := 7) (by kernel_rfl) (by kernel_rfl) (by rw [ok.sz]; decide)
  refine st_pureW hF hC hW ho h2 (by decide) hd hw rfl ?_
  show _ = Result.ok (Next.value (.pointer (some ⟨X.bx, 0, none⟩))) w
  generalize a.eval = ρ at e7 ⊢
  unfold execOp
  rw [hop]
  simp [e7, go_sem]
theorem RCC.s5 (X : RCC) (ok : RCCOk X) {Q : Exit → Act → World → Prop} : StepG (opsOf 1 Tryz.f32) RCC.acts RCC.av X.val0 X.Wd X.a0 Q 5 := by
  intro γ listed a w o hF hC hW h1 ho h2
  obtain ⟨hd, hop, hg⟩ := fields2 (x := some 9) (y := Op.fieldAddr 67 (.tmp 8) 4) (z := some (2, false)) (by kernel_rfl) ho
  have eg : a.eval (.tmp 6) = .bool false := slotG hF ho h2 (j := 2) (d := 6) (by kernel_rfl) (by kernel_rfl) (by rw [ok.sz]; decide)
  have hw := wanted_of (ops := (opsOf 1 Tryz.f32)) hg (yl_of (by kernel_rfl : dstOf (opsOf 1 Tryz.f32) 2 = some 6) (by rw [hF.tsize, ok.sz]; decide) eg)
  replace hw : Region.wanted o (yielded (opsOf 1 Tryz.f32) a.tmps) = true := hw
  have e8 : a.eval (.tmp 8) = .pointer (some ⟨X.bx, 0, none⟩) := slotG hF ho h2 (j := 4) (d := 8) (by kernel_rfl) (by kernel_rfl) (by rw [ok.sz]; decide)
  refine st_pureW hF hC hW ho h2 (by decide) hd hw rfl ?_
  show _ = Result.ok (Next.value (.pointer (some ⟨X.bx, 4, none⟩))) w
  generalize a.eval = ρ at e8 ⊢
  unfold execOp
  rw [hop]
  simp [e8, go_sem]
theorem RCC.s6 (X : RCC) (ok : RCCOk X) {Q : Exit → Act → World → Prop} : StepG (opsOf 1 Tryz.f32) RCC.acts RCC.av X.val0 X.Wd X.a0 Q 6 := by
  intro γ listed a w o hF hC hW h1 ho h2
  obtain ⟨hd, hop, hg⟩ := fields2 (x := some 10) (y := Op.load 64 (.tmp 9)) (z := some (2, false)) (by kernel_rfl) ho
  have eg : a.eval (.tmp 6) = .bool false := slotG hF ho h2 (j := 2) (d := 6) (by kernel_rfl) (by kernel_rfl) (by rw [ok.sz]; decide)
  have hw := wanted_of (ops := (opsOf 1 Tryz.f32)) hg (yl_of (by kernel_rfl : dstOf (opsOf 1 Tryz.f32) 2 = some 6) (by rw [hF.tsize, ok.sz]; decide) eg)
  replace hw : Region.wanted o (yielded (opsOf 1 Tryz.f32) a.tmps) = true := hw
  have e9 : a.eval (.tmp 9) = .pointer (some ⟨X.bx, 4, none⟩) := slotG hF ho h2 (j := 5) (d := 9) (by kernel_rfl) (by kernel_rfl) (by rw [ok.sz]; decide)
  have hc0 := rq_at (RCC.kp hW) ok.c4
  refine st_pureW hF hC hW ho h2 (by decide) hd hw rfl ?_
  show _ = Result.ok (Next.value (.slice (some ⟨X.g, 0, none⟩) X.n X.uc)) w
  generalize a.eval = ρ at e9 ⊢
  unfold execOp
  rw [hop]
  simp [e9, hc0, go_sem]
theorem RCC.s7 (X : RCC) (ok : RCCOk X) {Q : Exit → Act → World → Prop} : StepG (opsOf 1 Tryz.f32) RCC.acts RCC.av X.val0 X.Wd X.a0 Q 7 := by
  intro γ listed a w o hF hC hW h1 ho h2
  obtain ⟨hd, hop, hg⟩ := fields2 (x := some 11) (y := Op.call { callee := .builtin .len, args := #[(.tmp 10)], argTypes := #[64] }) (z := some (2, false)) (by kernel_rfl) ho
  have eg : a.eval (.tmp 6) = .bool false := slotG hF ho h2 (j := 2) (d := 6) (by kernel_rfl) (by kernel_rfl) (by rw [ok.sz]; decide)
  have hw := wanted_of (ops := (opsOf 1 Tryz.f32)) hg (yl_of (by kernel_rfl : dstOf (opsOf 1 Tryz.f32) 2 = some 6) (by rw [hF.tsize, ok.sz]; decide) eg)
  replace hw : Region.wanted o (yielded (opsOf 1 Tryz.f32) a.tmps) = true := hw
  have e10 : a.eval (.tmp 10) = .slice (some ⟨X.g, 0, none⟩) X.n X.uc := slotG hF ho h2 (j := 6) (d := 10) (by kernel_rfl) (by kernel_rfl) (by rw [ok.sz]; decide)
  refine st_pureW hF hC hW ho h2 (by decide) hd hw rfl ?_
  show _ = Result.ok (Next.value (.int .i64 (X.n : Int))) w
  generalize a.eval = ρ at e10 ⊢
  unfold execOp
  rw [hop]
  simp [e10, go_sem]
theorem RCC.s8 (X : RCC) (ok : RCCOk X) {Q : Exit → Act → World → Prop} : StepG (opsOf 1 Tryz.f32) RCC.acts RCC.av X.val0 X.Wd X.a0 Q 8 := by
  intro γ listed a w o hF hC hW h1 ho h2
  obtain ⟨hd, hop, hg⟩ := fields2 (x := some 12) (y := Op.binOp .gtr 3 (.tmp 11) (.const (.int .i64 0)) 3) (z := some (2, false)) (by kernel_rfl) ho
  have eg : a.eval (.tmp 6) = .bool false := slotG hF ho h2 (j := 2) (d := 6) (by kernel_rfl) (by kernel_rfl) (by rw [ok.sz]; decide)
  have hw := wanted_of (ops := (opsOf 1 Tryz.f32)) hg (yl_of (by kernel_rfl : dstOf (opsOf 1 Tryz.f32) 2 = some 6) (by rw [hF.tsize, ok.sz]; decide) eg)
  replace hw : Region.wanted o (yielded (opsOf 1 Tryz.f32) a.tmps) = true := hw
  have e11 : a.eval (.tmp 11) = .int .i64 (X.n : Int) := slotG hF ho h2 (j := 7) (d := 11) (by kernel_rfl) (by kernel_rfl) (by rw [ok.sz]; decide)
  have ec1 : a.eval (.const (.int .i64 0)) = .int .i64 0 := rfl
  refine st_pureW hF hC hW ho h2 (by decide) hd hw rfl ?_
  show _ = Result.ok (Next.value (.bool true)) w
  generalize a.eval = ρ at e11 ec1 ⊢
  unfold execOp
  rw [hop]
  simp [e11, ec1, ok.h0, go_sem]
theorem RCC.s9 (X : RCC) (ok : RCCOk X) {Q : Exit → Act → World → Prop} : StepG (opsOf 1 Tryz.f32) RCC.acts RCC.av X.val0 X.Wd X.a0 Q 9 := by
  intro γ listed a w o hF hC hW h1 ho h2
  obtain ⟨hd, hop, hg⟩ := fields2 (x := some 13) (y := Op.move (.tmp 12)) (z := some (2, false)) (by kernel_rfl) ho
  have eg : a.eval (.tmp 6) = .bool false := slotG hF ho h2 (j := 2) (d := 6) (by kernel_rfl) (by kernel_rfl) (by rw [ok.sz]; decide)
  have hw := wanted_of (ops := (opsOf 1 Tryz.f32)) hg (yl_of (by kernel_rfl : dstOf (opsOf 1 Tryz.f32) 2 = some 6) (by rw [hF.tsize, ok.sz]; decide) eg)
  replace hw : Region.wanted o (yielded (opsOf 1 Tryz.f32) a.tmps) = true := hw
  have e12 : a.eval (.tmp 12) = .bool true := slotG hF ho h2 (j := 8) (d := 12) (by kernel_rfl) (by kernel_rfl) (by rw [ok.sz]; decide)
  refine st_pureW hF hC hW ho h2 (by decide) hd hw rfl ?_
  show _ = Result.ok (Next.value (.bool true)) w
  generalize a.eval = ρ at e12 ⊢
  unfold execOp
  rw [hop]
  simp [e12, go_sem]
theorem RCC.s10 (X : RCC) (ok : RCCOk X) {Q : Exit → Act → World → Prop} : StepG (opsOf 1 Tryz.f32) RCC.acts RCC.av X.val0 X.Wd X.a0 Q 10 := by
  intro γ listed a w o hF hC hW h1 ho h2
  obtain ⟨hd, hop, hg⟩ := fields2 (x := some 14) (y := Op.move (.tmp 0)) (z := some (9, true)) (by kernel_rfl) ho
  have eg : a.eval (.tmp 13) = .bool true := slotG hF ho h2 (j := 9) (d := 13) (by kernel_rfl) (by kernel_rfl) (by rw [ok.sz]; decide)
  have hw := wanted_of (ops := (opsOf 1 Tryz.f32)) hg (yl_of (by kernel_rfl : dstOf (opsOf 1 Tryz.f32) 9 = some 13) (by rw [hF.tsize, ok.sz]; decide) eg)
  replace hw : Region.wanted o (yielded (opsOf 1 Tryz.f32) a.tmps) = true := hw
  have e0 : a.eval (.tmp 0) = .pointer (some ⟨X.bx, 0, none⟩) := (hF.eval0 (by kernel_rfl)).trans ok.e0
  refine st_pureW hF hC hW ho h2 (by decide) hd hw rfl ?_
  show _ = Result.ok (Next.value (.pointer (some ⟨X.bx, 0, none⟩))) w
  generalize a.eval = ρ at e0 ⊢
  unfold execOp
  rw [hop]
  simp [e0, go_sem]
theorem RCC.s11 (X : RCC) (ok : RCCOk X) {Q : Exit → Act → World → Prop} : StepG (opsOf 1 Tryz.f32) RCC.acts RCC.av X.val0 X.Wd X.a0 Q 11 := by
  intro γ listed a w o hF hC hW h1 ho h2
  obtain ⟨hd, hop, hg⟩ := fields2 (x := some 15) (y := Op.nilCheck (.tmp 14)) (z := some (9, true)) (by kernel_rfl) ho
  have eg : a.eval (.tmp 13) = .bool true := slotG hF ho h2 (j := 9) (d := 13) (by kernel_rfl) (by kernel_rfl) (by rw [ok.sz]; decide)
  have hw := wanted_of (ops := (opsOf 1 Tryz.f32)) hg (yl_of (by kernel_rfl : dstOf (opsOf 1 Tryz.f32) 9 = some 13) (by rw [hF.tsize, ok.sz]; decide) eg)
  replace hw : Region.wanted o (yielded (opsOf 1 Tryz.f32) a.tmps) = true := hw
  have e14 : a.eval (.tmp 14) = .pointer (some ⟨X.bx, 0, none⟩) := slotG hF ho h2 (j := 10) (d := 14) (by kernel_rfl) (by kernel_rfl) (by rw [ok.sz]; decide)
  refine st_pureW hF hC hW ho h2 (by decide) hd hw rfl ?_
  show _ = Result.ok (Next.value (.pointer (some ⟨X.bx, 0, none⟩))) w
  generalize a.eval = ρ at e14 ⊢
  unfold execOp
  rw [hop]
  simp [e14, go_sem]
theorem RCC.s12 (X : RCC) (ok : RCCOk X) {Q : Exit → Act → World → Prop} : StepG (opsOf 1 Tryz.f32) RCC.acts RCC.av X.val0 X.Wd X.a0 Q 12 := by
  intro γ listed a w o hF hC hW h1 ho h2
  obtain ⟨hd, hop, hg⟩ := fields2 (x := some 16) (y := Op.fieldAddr 67 (.tmp 15) 4) (z := some (9, true)) (by kernel_rfl) ho
  have eg : a.eval (.tmp 13) = .bool true := slotG hF ho h2 (j := 9) (d := 13) (by kernel_rfl) (by kernel_rfl) (by rw [ok.sz]; decide)
  have hw := wanted_of (ops := (opsOf 1 Tryz.f32)) hg (yl_of (by kernel_rfl : dstOf (opsOf 1 Tryz.f32) 9 = some 13) (by rw [hF.tsize, ok.sz]; decide) eg)
  replace hw : Region.wanted o (yielded (opsOf 1 Tryz.f32) a.tmps) = true := hw
  have e15 : a.eval (.tmp 15) = .pointer (some ⟨X.bx, 0, none⟩) := slotG hF ho h2 (j := 11) (d := 15) (by kernel_rfl) (by kernel_rfl) (by rw [ok.sz]; decide)
  refine st_pureW hF hC hW ho h2 (by decide) hd hw rfl ?_
  show _ = Result.ok (Next.value (.pointer (some ⟨X.bx, 4, none⟩))) w
  generalize a.eval = ρ at e15 ⊢
  unfold execOp
  rw [hop]
  simp [e15, go_sem]
theorem RCC.s13 (X : RCC) (ok : RCCOk X) {Q : Exit → Act → World → Prop} : StepG (opsOf 1 Tryz.f32) RCC.acts RCC.av X.val0 X.Wd X.a0 Q 13 := by
  intro γ listed a w o hF hC hW h1 ho h2
  obtain ⟨hd, hop, hg⟩ := fields2 (x := some 17) (y := Op.load 64 (.tmp 16)) (z := some (9, true)) (by kernel_rfl) ho
  have eg : a.eval (.tmp 13) = .bool true := slotG hF ho h2 (j := 9) (d := 13) (by kernel_rfl) (by kernel_rfl) (by rw [ok.sz]; decide)
  have hw := wanted_of (ops := (opsOf 1 Tryz.f32)) hg (yl_of (by kernel_rfl : dstOf (opsOf 1 Tryz.f32) 9 = some 13) (by rw [hF.tsize, ok.sz]; decide) eg)
  replace hw : Region.wanted o (yielded (opsOf 1 Tryz.f32) a.tmps) = true := hw
  have e16 : a.eval (.tmp 16) = .pointer (some ⟨X.bx, 4, none⟩) := slotG hF ho h2 (j := 12) (d := 16) (by kernel_rfl) (by kernel_rfl) (by rw [ok.sz]; decide)
  have hc0 := rq_at (RCC.kp hW) ok.c4
  refine st_pureW hF hC hW ho h2 (by decide) hd hw rfl ?_
  show _ = Result.ok (Next.value (.slice (some ⟨X.g, 0, none⟩) X.n X.uc)) w
  generalize a.eval = ρ at e16 ⊢
  unfold execOp
  rw [hop]
  simp [e16, hc0, go_sem]
theorem RCC.s14 (X : RCC) (ok : RCCOk X) {Q : Exit → Act → World → Prop} : StepG (opsOf 1 Tryz.f32) RCC.acts RCC.av X.val0 X.Wd X.a0 Q 14 := by
  intro γ listed a w o hF hC hW h1 ho h2
  obtain ⟨hd, hop, hg⟩ := fields2 (x := some 18) (y := Op.move (.tmp 0)) (z := some (9, true)) (by kernel_rfl) ho
  have eg : a.eval (.tmp 13) = .bool true := slotG hF ho h2 (j := 9) (d := 13) (by kernel_rfl) (by kernel_rfl) (by rw [ok.sz]; decide)
  have hw := wanted_of (ops := (opsOf 1 Tryz.f32)) hg (yl_of (by kernel_rfl : dstOf (opsOf 1 Tryz.f32) 9 = some 13) (by rw [hF.tsize, ok.sz]; decide) eg)
  replace hw : Region.wanted o (yielded (opsOf 1 Tryz.f32) a.tmps) = true := hw
  have e0 : a.eval (.tmp 0) = .pointer (some ⟨X.bx, 0, none⟩) := (hF.eval0 (by kernel_rfl)).trans ok.e0
  refine st_pureW hF hC hW ho h2 (by decide) hd hw rfl ?_
  show _ = Result.ok (Next.value (.pointer (some ⟨X.bx, 0, none⟩))) w
  generalize a.eval = ρ at e0 ⊢
  unfold execOp
  rw [hop]
  simp [e0, go_sem]
theorem RCC.s15 (X : RCC) (ok : RCCOk X) {Q : Exit → Act → World → Prop} : StepG (opsOf 1 Tryz.f32) RCC.acts RCC.av X.val0 X.Wd X.a0 Q 15 := by
  intro γ listed a w o hF hC hW h1 ho h2
  obtain ⟨hd, hop, hg⟩ := fields2 (x := some 19) (y := Op.nilCheck (.tmp 18)) (z := some (9, true)) (by kernel_rfl) ho
  have eg : a.eval (.tmp 13) = .bool true := slotG hF ho h2 (j := 9) (d := 13) (by kernel_rfl) (by kernel_rfl) (by rw [ok.sz]; decide)
  have hw := wanted_of (ops := (opsOf 1 Tryz.f32)) hg (yl_of (by kernel_rfl : dstOf (opsOf 1 Tryz.f32) 9 = some 13) (by rw [hF.tsize, ok.sz]; decide) eg)
  replace hw : Region.wanted o (yielded (opsOf 1 Tryz.f32) a.tmps) = true := hw
  have e18 : a.eval (.tmp 18) = .pointer (some ⟨X.bx, 0, none⟩) := slotG hF ho h2 (j := 14) (d := 18) (by kernel_rfl) (by kernel_rfl) (by rw [ok.sz]; decide)
  refine st_pureW hF hC hW ho h2 (by decide) hd hw rfl ?_
  show _ = Result.ok (Next.value (.pointer (some ⟨X.bx, 0, none⟩))) w
  generalize a.eval = ρ at e18 ⊢
  unfold execOp
  rw [hop]
  simp [e18, go_sem]
theorem RCC.s16 (X : RCC) (ok : RCCOk X) {Q : Exit → Act → World → Prop} : StepG (opsOf 1 Tryz.f32) RCC.acts RCC.av X.val0 X.Wd X.a0 Q 16 := by
  intro γ listed a w o hF hC hW h1 ho h2
  obtain ⟨hd, hop, hg⟩ := fields2 (x := some 20) (y := Op.fieldAddr 67 (.tmp 19) 4) (z := some (9, true)) (by kernel_rfl) ho
  have eg : a.eval (.tmp 13) = .bool true := slotG hF ho h2 (j := 9) (d := 13) (by kernel_rfl) (by kernel_rfl) (by rw [ok.sz]; decide)
  have hw := wanted_of (ops := (opsOf 1 Tryz.f32)) hg (yl_of (by kernel_rfl : dstOf (opsOf 1 Tryz.f32) 9 = some 13) (by rw [hF.tsize, ok.sz]; decide) eg)
  replace hw : Region.wanted o (yielded (opsOf 1 Tryz.f32) a.tmps) = true := hw
  have e19 : a.eval (.tmp 19) = .pointer (some ⟨X.bx, 0, none⟩) := slotG hF ho h2 (j := 15) (d := 19) (by kernel_rfl) (by kernel_rfl) (by rw [ok.sz]; decide)
  refine st_pureW hF hC hW ho h2 (by decide) hd hw rfl ?_
  show _ = Result.ok (Next.value (.pointer (some ⟨X.bx, 4, none⟩))) w
  generalize a.eval = ρ at e19 ⊢
  unfold execOp
  rw [hop]
  simp [e19, go_sem]
theorem RCC.s17 (X : RCC) (ok : RCCOk X) {Q : Exit → Act → World → Prop} : StepG (opsOf 1 Tryz.f32) RCC.acts RCC.av X.val0 X.Wd X.a0 Q 17 := by
  intro γ listed a w o hF hC hW h1 ho h2
  obtain ⟨hd, hop, hg⟩ := fields2 (x := some 21) (y := Op.load 64 (.tmp 20)) (z := some (9, true)) (by kernel_rfl) ho
  have eg : a.eval (.tmp 13) = .bool true := slotG hF ho h2 (j := 9) (d := 13) (by kernel_rfl) (by kernel_rfl) (by rw [ok.sz]; decide)
  have hw := wanted_of (ops := (opsOf 1 Tryz.f32)) hg (yl_of (by kernel_rfl : dstOf (opsOf 1 Tryz.f32) 9 = some 13) (by rw [hF.tsize, ok.sz]; decide) eg)
  replace hw : Region.wanted o (yielded (opsOf 1 Tryz.f32) a.tmps) = true := hw
  have e20 : a.eval (.tmp 20) = .pointer (some ⟨X.bx, 4, none⟩) := slotG hF ho h2 (j := 16) (d := 20) (by kernel_rfl) (by kernel_rfl) (by rw [ok.sz]; decide)
  have hc0 := rq_at (RCC.kp hW) ok.c4
  refine st_pureW hF hC hW ho h2 (by decide) hd hw rfl ?_
  show _ = Result.ok (Next.value (.slice (some ⟨X.g, 0, none⟩) X.n X.uc)) w
  generalize a.eval = ρ at e20 ⊢
  unfold execOp
  rw [hop]
  simp [e20, hc0, go_sem]
theorem RCC.s18 (X : RCC) (ok : RCCOk X) {Q : Exit → Act → World → Prop} : StepG (opsOf 1 Tryz.f32) RCC.acts RCC.av X.val0 X.Wd X.a0 Q 18 := by
  intro γ listed a w o hF hC hW h1 ho h2
  obtain ⟨hd, hop, hg⟩ := fields2 (x := some 22) (y := Op.call { callee := .builtin .len, args := #[(.tmp 21)], argTypes := #[64] }) (z := some (9, true)) (by kernel_rfl) ho
  have eg : a.eval (.tmp 13) = .bool true := slotG hF ho h2 (j := 9) (d := 13) (by kernel_rfl) (by kernel_rfl) (by rw [ok.sz]; decide)
  have hw := wanted_of (ops := (opsOf 1 Tryz.f32)) hg (yl_of (by kernel_rfl : dstOf (opsOf 1 Tryz.f32) 9 = some 13) (by rw [hF.tsize, ok.sz]; decide) eg)
  replace hw : Region.wanted o (yielded (opsOf 1 Tryz.f32) a.tmps) = true := hw
  have e21 : a.eval (.tmp 21) = .slice (some ⟨X.g, 0, none⟩) X.n X.uc := slotG hF ho h2 (j := 17) (d := 21) (by kernel_rfl) (by kernel_rfl) (by rw [ok.sz]; decide)
  refine st_pureW hF hC hW ho h2 (by decide) hd hw rfl ?_
  show _ = Result.ok (Next.value (.int .i64 (X.n : Int))) w
  generalize a.eval = ρ at e21 ⊢
  unfold execOp
  rw [hop]
  simp [e21, go_sem]
theorem RCC.s19 (X : RCC) (ok : RCCOk X) {Q : Exit → Act → World → Prop} : StepG (opsOf 1 Tryz.f32) RCC.acts RCC.av X.val0 X.Wd X.a0 Q 19 := by
  intro γ listed a w o hF hC hW h1 ho h2
  obtain ⟨hd, hop, hg⟩ := fields2 (x := some 23) (y := Op.binOp .sub 3 (.tmp 22) (.const (.int .i64 1)) 3) (z := some (9, true)) (by kernel_rfl) ho
  have eg : a.eval (.tmp 13) = .bool true := slotG hF ho h2 (j := 9) (d := 13) (by kernel_rfl) (by kernel_rfl) (by rw [ok.sz]; decide)
  have hw := wanted_of (ops := (opsOf 1 Tryz.f32)) hg (yl_of (by kernel_rfl : dstOf (opsOf 1 Tryz.f32) 9 = some 13) (by rw [hF.tsize, ok.sz]; decide) eg)
  replace hw : Region.wanted o (yielded (opsOf 1 Tryz.f32) a.tmps) = true := hw
  have e22 : a.eval (.tmp 22) = .int .i64 (X.n : Int) := slotG hF ho h2 (j := 18) (d := 22) (by kernel_rfl) (by kernel_rfl) (by rw [ok.sz]; decide)
  have ec1 : a.eval (.const (.int .i64 1)) = .int .i64 1 := rfl
  refine st_pureW hF hC hW ho h2 (by decide) hd hw rfl ?_
  show _ = Result.ok (Next.value (.int .i64 (X.m : Int))) w
  generalize a.eval = ρ at e22 ec1 ⊢
  unfold execOp
  rw [hop]
  simp [e22, ec1, ok.wm, go_sem]
theorem RCC.s20 (X : RCC) (ok : RCCOk X) {Q : Exit → Act → World → Prop} : StepG (opsOf 1 Tryz.f32) RCC.acts RCC.av X.val0 X.Wd X.a0 Q 20 := by
  intro γ listed a w o hF hC hW h1 ho h2
  obtain ⟨hd, hop, hg⟩ := fields2 (x := some 24) (y := Op.indexAddr 64 (.tmp 17) (.tmp 23)) (z := some (9, true)) (by kernel_rfl) ho
  have eg : a.eval (.tmp 13) = .bool true := slotG hF ho h2 (j := 9) (d := 13) (by kernel_rfl) (by kernel_rfl) (by rw [ok.sz]; decide)
  have hw := wanted_of (ops := (opsOf 1 Tryz.f32)) hg (yl_of (by kernel_rfl : dstOf (opsOf 1 Tryz.f32) 9 = some 13) (by rw [hF.tsize, ok.sz]; decide) eg)
  replace hw : Region.wanted o (yielded (opsOf 1 Tryz.f32) a.tmps) = true := hw
  have e17 : a.eval (.tmp 17) = .slice (some ⟨X.g, 0, none⟩) X.n X.uc := slotG hF ho h2 (j := 13) (d := 17) (by kernel_rfl) (by kernel_rfl) (by rw [ok.sz]; decide)
  have e23 : a.eval (.tmp 23) = .int .i64 (X.m : Int) := slotG hF ho h2 (j := 19) (d := 23) (by kernel_rfl) (by kernel_rfl) (by rw [ok.sz]; decide)
  refine st_pureW hF hC hW ho h2 (by decide) hd hw rfl ?_
  show _ = Result.ok (Next.value (.pointer (some ⟨X.g, X.m * 2, none⟩))) w
  generalize a.eval = ρ at e17 e23 ⊢
  unfold execOp
  rw [hop]
  simp [e17, e23, ok.hm, go_sem]
theorem RCC.s21 (X : RCC) (ok : RCCOk X) {Q : Exit → Act → World → Prop} : StepG (opsOf 1 Tryz.f32) RCC.acts RCC.av X.val0 X.Wd X.a0 Q 21 := by
  intro γ listed a w o hF hC hW h1 ho h2
  obtain ⟨hd, hop, hg⟩ := fields2 (x := some 25) (y := Op.load 34 (.tmp 24)) (z := some (9, true)) (by kernel_rfl) ho
  have eg : a.eval (.tmp 13) = .bool true := slotG hF ho h2 (j := 9) (d := 13) (by kernel_rfl) (by kernel_rfl) (by rw [ok.sz]; decide)
  have hw := wanted_of (ops := (opsOf 1 Tryz.f32)) hg (yl_of (by kernel_rfl : dstOf (opsOf 1 Tryz.f32) 9 = some 13) (by rw [hF.tsize, ok.sz]; decide) eg)
  replace hw : Region.wanted o (yielded (opsOf 1 Tryz.f32) a.tmps) = true := hw
  have e24 : a.eval (.tmp 24) = .pointer (some ⟨X.g, X.m * 2, none⟩) := slotG hF ho h2 (j := 20) (d := 24) (by kernel_rfl) (by kernel_rfl) (by rw [ok.sz]; decide)
  have hc0 := rq_at (RCC.kp hW) ok.px
  have hc1 := rq_at (RCC.kp hW) ok.py
  refine st_pureW hF hC hW ho h2 (by decide) hd hw rfl ?_
  show _ = Result.ok (Next.value (.agg #[.int .i64 X.x, .int .i64 X.y])) w
  generalize a.eval = ρ at e24 ⊢
  unfold execOp
  rw [hop]
  simp [e24, hc0, hc1, go_sem]
theorem RCC.s22 (X : RCC) (ok : RCCOk X) {Q : Exit → Act → World → Prop} : StepG (opsOf 1 Tryz.f32) RCC.acts RCC.av X.val0 X.Wd X.a0 Q 22 := by
  intro γ listed a w o hF hC hW h1 ho h2
  obtain ⟨hd, hop, hg⟩ := fields2 (x := some 26) (y := Op.load 34 (.tmp 3)) (z := some (9, true)) (by kernel_rfl) ho
  have eg : a.eval (.tmp 13) = .bool true := slotG hF ho h2 (j := 9) (d := 13) (by kernel_rfl) (by kernel_rfl) (by rw [ok.sz]; decide)
  have hw := wanted_of (ops := (opsOf 1 Tryz.f32)) hg (yl_of (by kernel_rfl : dstOf (opsOf 1 Tryz.f32) 9 = some 13) (by rw [hF.tsize, ok.sz]; decide) eg)
  replace hw : Region.wanted o (yielded (opsOf 1 Tryz.f32) a.tmps) = true := hw
  have e3 : a.eval (.tmp 3) = .pointer (some ⟨X.bq, 0, none⟩) := (hF.eval0 (by kernel_rfl)).trans ok.e3
  have hc0 := rq_at (RCC.kp hW) ok.q0
  have hc1 := rq_at (RCC.kp hW) ok.q1
  refine st_pureW hF hC hW ho h2 (by decide) hd hw rfl ?_
  show _ = Result.ok (Next.value (.agg #[.int .i64 X.x, .int .i64 X.y])) w
  generalize a.eval = ρ at e3 ⊢
  unfold execOp
  rw [hop]
  simp [e3, hc0, hc1, go_sem]
theorem RCC.s23 (X : RCC) (ok : RCCOk X) {Q : Exit → Act → World → Prop} : StepG (opsOf 1 Tryz.f32) RCC.acts RCC.av X.val0 X.Wd X.a0 Q 23 := by
  intro γ listed a w o hF hC hW h1 ho h2
  obtain ⟨hd, hop, hg⟩ := fields2 (x := some 27) (y := Op.binOp .eql 34 (.tmp 25) (.tmp 26) 34) (z := some (9, true)) (by kernel_rfl) ho
  have eg : a.eval (.tmp 13) = .bool true := slotG hF ho h2 (j := 9) (d := 13) (by kernel_rfl) (by kernel_rfl) (by rw [ok.sz]; decide)
  have hw := wanted_of (ops := (opsOf 1 Tryz.f32)) hg (yl_of (by kernel_rfl : dstOf (opsOf 1 Tryz.f32) 9 = some 13) (by rw [hF.tsize, ok.sz]; decide) eg)
  replace hw : Region.wanted o (yielded (opsOf 1 Tryz.f32) a.tmps) = true := hw
  have e25 : a.eval (.tmp 25) = .agg #[.int .i64 X.x, .int .i64 X.y] := slotG hF ho h2 (j := 21) (d := 25) (by kernel_rfl) (by kernel_rfl) (by rw [ok.sz]; decide)
  have e26 : a.eval (.tmp 26) = .agg #[.int .i64 X.x, .int .i64 X.y] := slotG hF ho h2 (j := 22) (d := 26) (by kernel_rfl) (by kernel_rfl) (by rw [ok.sz]; decide)
  refine st_pureW hF hC hW ho h2 (by decide) hd hw rfl ?_
  show _ = Result.ok (Next.value (.bool true)) w
  generalize a.eval = ρ at e25 e26 ⊢
  unfold execOp
  rw [hop]
  simp [e25, e26, go_sem]
theorem RCC.s24 (X : RCC) (ok : RCCOk X) {Q : Exit → Act → World → Prop} : StepG (opsOf 1 Tryz.f32) RCC.acts RCC.av X.val0 X.Wd X.a0 Q 24 := by
  intro γ listed a w o hF hC hW h1 ho h2
  obtain ⟨hd, hop, hg⟩ := fields2 (x := some 28) (y := Op.pick (.tmp 13) (.tmp 27) (.const (.bool false))) (z := some (2, false)) (by kernel_rfl) ho
  have eg : a.eval (.tmp 6) = .bool false := slotG hF ho h2 (j := 2) (d := 6) (by kernel_rfl) (by kernel_rfl) (by rw [ok.sz]; decide)
  have hw := wanted_of (ops := (opsOf 1 Tryz.f32)) hg (yl_of (by kernel_rfl : dstOf (opsOf 1 Tryz.f32) 2 = some 6) (by rw [hF.tsize, ok.sz]; decide) eg)
  replace hw : Region.wanted o (yielded (opsOf 1 Tryz.f32) a.tmps) = true := hw
  have e13 : a.eval (.tmp 13) = .bool true := slotG hF ho h2 (j := 9) (d := 13) (by kernel_rfl) (by kernel_rfl) (by rw [ok.sz]; decide)
  have e27 : a.eval (.tmp 27) = .bool true := slotG hF ho h2 (j := 23) (d := 27) (by kernel_rfl) (by kernel_rfl) (by rw [ok.sz]; decide)
  have ec2 : a.eval (.const (.bool false)) = .bool false := rfl
  refine st_pureW hF hC hW ho h2 (by decide) hd hw rfl ?_
  show _ = Result.ok (Next.value (.bool true)) w
  generalize a.eval = ρ at e13 e27 ec2 ⊢
  unfold execOp
  rw [hop]
  simp [e13, e27, ec2, go_sem]
theorem RCC.s25 (X : RCC) (ok : RCCOk X) {Q : Exit → Act → World → Prop} : StepG (opsOf 1 Tryz.f32) RCC.acts RCC.av X.val0 X.Wd X.a0 Q 25 := by
  intro γ listed a w o hF hC hW h1 ho h2
  obtain ⟨hd, hop, hg⟩ := fields2 (x := some 29) (y := Op.pick (.tmp 6) (.const (.bool true)) (.tmp 28)) (z := none) (by kernel_rfl) ho
  have e6 : a.eval (.tmp 6) = .bool false := slotG hF ho h2 (j := 2) (d := 6) (by kernel_rfl) (by kernel_rfl) (by rw [ok.sz]; decide)
  have ec1 : a.eval (.const (.bool true)) = .bool true := rfl
  have e28 : a.eval (.tmp 28) = .bool true := slotG hF ho h2 (j := 24) (d := 28) (by kernel_rfl) (by kernel_rfl) (by rw [ok.sz]; decide)
  refine st_pureG hF hC hW ho h2 (by decide) hd hg rfl ?_
  show _ = Result.ok (Next.value (.bool true)) w
  generalize a.eval = ρ at e6 ec1 e28 ⊢
  unfold execOp
  rw [hop]
  simp [e6, ec1, e28, go_sem]
theorem RCC.size : (opsOf 1 Tryz.f32).size = 26 := by kernel_rfl
theorem RCC.steps (X : RCC) (ok : RCCOk X) {Q : Exit → Act → World → Prop} (i : Nat) (hi : i < (opsOf 1 Tryz.f32).size) : StepG (opsOf 1 Tryz.f32) RCC.acts RCC.av X.val0 X.Wd X.a0 Q i := by
  rw [RCC.size] at hi
  have hc : i = 0 ∨ i = 1 ∨ i = 2 ∨ i = 3 ∨ i = 4 ∨ i = 5 ∨ i = 6 ∨ i = 7 ∨ i = 8 ∨ i = 9 ∨ i = 10 ∨ i = 11 ∨ i = 12 ∨ i = 13 ∨ i = 14 ∨ i = 15 ∨ i = 16 ∨ i = 17 ∨ i = 18 ∨ i = 19 ∨ i = 20 ∨ i = 21 ∨ i = 22 ∨ i = 23 ∨ i = 24 ∨ i = 25 := by omega
  rcases hc with rfl | rfl | rfl | rfl | rfl | rfl | rfl | rfl | rfl | rfl | rfl | rfl | rfl | rfl | rfl | rfl | rfl | rfl | rfl | rfl | rfl | rfl | rfl | rfl | rfl | rfl
  · exact RCC.s0 X ok
  · exact RCC.s1 X ok
  · exact RCC.s2 X ok
  · exact RCC.s3 X ok
  · exact RCC.s4 X ok
  · exact RCC.s5 X ok
  · exact RCC.s6 X ok
  · exact RCC.s7 X ok
  · exact RCC.s8 X ok
  · exact RCC.s9 X ok
  · exact RCC.s10 X ok
  · exact RCC.s11 X ok
  · exact RCC.s12 X ok
  · exact RCC.s13 X ok
  · exact RCC.s14 X ok
  · exact RCC.s15 X ok
  · exact RCC.s16 X ok
  · exact RCC.s17 X ok
  · exact RCC.s18 X ok
  · exact RCC.s19 X ok
  · exact RCC.s20 X ok
  · exact RCC.s21 X ok
  · exact RCC.s22 X ok
  · exact RCC.s23 X ok
  · exact RCC.s24 X ok
  · exact RCC.s25 X ok
theorem RCC.puts (X : RCC) (γ : Nat → Value) (a0 : Act) : putsL (valG RCC.av X.val0 γ) (opsOf 1 Tryz.f32).toList a0 = ((((((((((((((((((((((((((a0.put (some 4) (.pointer (some ⟨X.bx, 0, none⟩))).put (some 5) (.bool false)).put (some 6) (.bool false)).put (some 7) (.pointer (some ⟨X.bx, 0, none⟩))).put (some 8) (.pointer (some ⟨X.bx, 0, none⟩))).put (some 9) (.pointer (some ⟨X.bx, 4, none⟩))).put (some 10) (.slice (some ⟨X.g, 0, none⟩) X.n X.uc)).put (some 11) (.int .i64 (X.n : Int))).put (some 12) (.bool true)).put (some 13) (.bool true)).put (some 14) (.pointer (some ⟨X.bx, 0, none⟩))).put (some 15) (.pointer (some ⟨X.bx, 0, none⟩))).put (some 16) (.pointer (some ⟨X.bx, 4, none⟩))).put (some 17) (.slice (some ⟨X.g, 0, none⟩) X.n X.uc)).put (some 18) (.pointer (some ⟨X.bx, 0, none⟩))).put (some 19) (.pointer (some ⟨X.bx, 0, none⟩))).put (some 20) (.pointer (some ⟨X.bx, 4, none⟩))).put (some 21) (.slice (some ⟨X.g, 0, none⟩) X.n X.uc)).put (some 22) (.int .i64 (X.n : Int))).put (some 23) (.int .i64 (X.m : Int))).put (some 24) (.pointer (some ⟨X.g, X.m * 2, none⟩))).put (some 25) (.agg #[.int .i64 X.x, .int .i64 X.y])).put (some 26) (.agg #[.int .i64 X.x, .int .i64 X.y])).put (some 27) (.bool true)).put (some 28) (.bool true)).put (some 29) (.bool true)) := by kernel_rfl
/-- The region, whatever order comes up. -/
theorem RCC.run (X : RCC) (ok : RCCOk X) {Q : Exit → Act → World → Prop} (w : World) (h0 : X.Wd 0 (fun _ => undef) w.drew) (hend : ∀ (γ : Nat → Value) w', X.Wd 0 γ w' → Q .normal ((((((((((((((((((((((((((X.a0.put (some 4) (.pointer (some ⟨X.bx, 0, none⟩))).put (some 5) (.bool false)).put (some 6) (.bool false)).put (some 7) (.pointer (some ⟨X.bx, 0, none⟩))).put (some 8) (.pointer (some ⟨X.bx, 0, none⟩))).put (some 9) (.pointer (some ⟨X.bx, 4, none⟩))).put (some 10) (.slice (some ⟨X.g, 0, none⟩) X.n X.uc)).put (some 11) (.int .i64 (X.n : Int))).put (some 12) (.bool true)).put (some 13) (.bool true)).put (some 14) (.pointer (some ⟨X.bx, 0, none⟩))).put (some 15) (.pointer (some ⟨X.bx, 0, none⟩))).put (some 16) (.pointer (some ⟨X.bx, 4, none⟩))).put (some 17) (.slice (some ⟨X.g, 0, none⟩) X.n X.uc)).put (some 18) (.pointer (some ⟨X.bx, 0, none⟩))).put (some 19) (.pointer (some ⟨X.bx, 0, none⟩))).put (some 20) (.pointer (some ⟨X.bx, 4, none⟩))).put (some 21) (.slice (some ⟨X.g, 0, none⟩) X.n X.uc)).put (some 22) (.int .i64 (X.n : Int))).put (some 23) (.int .i64 (X.m : Int))).put (some 24) (.pointer (some ⟨X.g, X.m * 2, none⟩))).put (some 25) (.agg #[.int .i64 X.x, .int .i64 X.y])).put (some 26) (.agg #[.int .i64 X.x, .int .i64 X.y])).put (some 27) (.bool true)).put (some 28) (.bool true)).put (some 29) (.bool true)) w') : (Code.region 1 (opsOf 1 Tryz.f32) true).wp Tryz.prog Q X.a0 w := by
  refine reg_act (acts := RCC.acts) (av := RCC.av) (val0 := X.val0) (Wd := X.Wd) (by kernel_rfl) (by kernel_rfl) (by rw [RCC.size]; decide) (fun i hi => RCC.steps X ok i hi) _ h0 ?_
  intro γ w' h
  rw [RCC.puts]
  exact hend γ w' h
structure RCD where
  bx : Nat
  bq : Nat
  x : Int
  y : Int
  a : Int
  g : Nat
  n : Nat
  m : Nat
  uc : Nat
  lx : Int
  ly : Int
  W : World
  a0 : Act
structure RCDOk (X : RCD) : Prop where
  q0 : X.W.cell? ⟨X.bq, 0, none⟩ = some (.int .i64 X.x)
  q1 : X.W.cell? ⟨X.bq, 1, none⟩ = some (.int .i64 X.y)
  c4 : X.W.cell? ⟨X.bx, 4, none⟩ = some (.slice (some ⟨X.g, 0, none⟩) X.n X.uc)
  ca : X.W.cell? ⟨X.bx, 1, none⟩ = some (.int .i64 X.a)
  hg : decide (X.a.tmod 2 = 1) = false
  h0 : 0 < X.n
  wm : IntKind.i64.wrap ((X.n : Int) - 1) = (X.m : Int)
  hm : X.m < X.n
  px : X.W.cell? ⟨X.g, X.m * 2, none⟩ = some (.int .i64 X.lx)
  py : X.W.cell? ⟨X.g, X.m * 2 + 1, none⟩ = some (.int .i64 X.ly)
  hv : X.lx = X.x → ¬X.ly = X.y
  e0 : X.a0.eval (.tmp 0) = .pointer (some ⟨X.bx, 0, none⟩)
  e3 : X.a0.eval (.tmp 3) = .pointer (some ⟨X.bq, 0, none⟩)
  sz : X.a0.tmps.size = 36
def RCD.val0 (X : RCD) : Nat → Value
  | 4 => .pointer (some ⟨X.bx, 0, none⟩)
  | 5 => .bool false
  | 6 => .bool false
  | 7 => .pointer (some ⟨X.bx, 0, none⟩)
  | 8 => .pointer (some ⟨X.bx, 0, none⟩)
  | 9 => .pointer (some ⟨X.bx, 4, none⟩)
  | 10 => .slice (some ⟨X.g, 0, none⟩) X.n X.uc
  | 11 => .int .i64 (X.n : Int)
  | 12 => .bool true
  | 13 => .bool true
  | 14 => .pointer (some ⟨X.bx, 0, none⟩)
  | 15 => .pointer (some ⟨X.bx, 0, none⟩)
  | 16 => .pointer (some ⟨X.bx, 4, none⟩)
  | 17 => .slice (some ⟨X.g, 0, none⟩) X.n X.uc
  | 18 => .pointer (some ⟨X.bx, 0, none⟩)
  | 19 => .pointer (some ⟨X.bx, 0, none⟩)
  | 20 => .pointer (some ⟨X.bx, 4, none⟩)
  | 21 => .slice (some ⟨X.g, 0, none⟩) X.n X.uc
  | 22 => .int .i64 (X.n : Int)
  | 23 => .int .i64 (X.m : Int)
  | 24 => .pointer (some ⟨X.g, X.m * 2, none⟩)
  | 25 => .agg #[.int .i64 X.lx, .int .i64 X.ly]
  | 26 => .agg #[.int .i64 X.x, .int .i64 X.y]
  | 27 => .bool false
  | 28 => .bool false
  | 29 => .bool false
  | _ => undef
def RCD.av : Nat → Option Nat
  | _ => none
def RCD.acts : List Nat := []
/-- The world, by how many of the acting ones have come up. -/
def RCD.Wd (X : RCD) : Nat → (Nat → Value) → World → Prop
  | _, _, w => Kp X.W w
theorem RCD.kp {X : RCD} {n : Nat} {γ : Nat → Value} {w : World} (h : X.Wd n γ w) : Kp X.W w := h
theorem RCD.keep {X : RCD} {n : Nat} {γ : Nat → Value} {w w' : World} (h : X.Wd n γ w) (k : Kp w w') : X.Wd n γ w' := Kp.trans h k
theorem RCD.chain : chainG (opsOf 1 Tryz.f32) RCD.acts = true := by kernel_rfl
theorem RCD.nodup : RCD.acts.Nodup := by decide
theorem RCD.inj {listed : Array Bool} {i k : Nat} (h : (List.range (opsOf 1 Tryz.f32).size).all (fun j => decide (j = i) || !(match dstOf (opsOf 1 Tryz.f32) j with | some d => decide (RCD.av d = some k) | none => false)) = true) (hu : listed.getD i false = false) : ∀ d, got (opsOf 1 Tryz.f32) listed d → RCD.av d ≠ some k := by
  rintro d ⟨j, h1, h2⟩ h3
  have hlt : j < (opsOf 1 Tryz.f32).size := by
    rcases Nat.lt_or_ge j (opsOf 1 Tryz.f32).size with h4 | h4
    · exact h4
    · unfold dstOf at h2; rw [Array.getElem?_eq_none h4] at h2; cases h2
  have h5 := List.all_eq_true.1 h j (List.mem_range.2 hlt)
  rw [h2] at h5
  simp only [h3, decide_true, Bool.not_true, Bool.or_false, decide_eq_true_eq] at h5
  subst h5
  rw [hu] at h1
  cases h1
theorem RCD.s0 (X : RCD) (ok : RCDOk X) {Q : Exit → Act → World → Prop} : StepG (opsOf 1 Tryz.f32) RCD.acts RCD.av X.val0 X.Wd X.a0 Q 0 := by
  intro γ listed a w o hF hC hW h1 ho h2
  obtain ⟨hd, hop, hg⟩ := fields2 (x := some 4) (y := Op.move (.tmp 0)) (z := none) (by kernel_rfl) ho
  have e0 : a.eval (.tmp 0) = .pointer (some ⟨X.bx, 0, none⟩) := (hF.eval0 (by kernel_rfl)).trans ok.e0
  refine st_pureG hF hC hW ho h2 (by decide) hd hg rfl ?_
  show _ = Result.ok (Next.value (.pointer (some ⟨X.bx, 0, none⟩))) w
  generalize a.eval = ρ at e0 ⊢
  unfold execOp
  rw [hop]
  simp [e0, go_sem]
theorem RCD.s1 (X : RCD) (ok : RCDOk X) {Q : Exit → Act → World → Prop} : StepG (opsOf 1 Tryz.f32) RCD.acts RCD.av X.val0 X.Wd X.a0 Q 1 := by
  intro γ listed a w o hF hC hW h1 ho h2
  obtain ⟨hd, hop, hg⟩ := fields2 (x := some 5) (y := Op.call { callee := .value (.func 60), args := #[(.tmp 4)], argTypes := #[90] }) (z := none) (by kernel_rfl) ho
  have e4 : a.eval (.tmp 4) = .pointer (some ⟨X.bx, 0, none⟩) := slotG hF ho h2 (j := 0) (d := 4) (by kernel_rfl) (by kernel_rfl) (by rw [ok.sz]; decide)
  have ef : a.eval (.func 60) = .func (.func 60) #[] #[] := rfl
  refine st_callG hF hC hW ho h2 (by decide) hd hg rfl (f := 60) (args := #[.pointer (some ⟨X.bx, 0, none⟩)]) ?_ ?_ ?_
  · generalize a.eval = ρ at e4 ef ⊢
    unfold execOp
    rw [hop]
    simp [e4, ef, go_sem]
  · exact gap_k ok.ca ok.hg (RCD.kp hW)
  · intro w' hk; exact RCD.keep hW hk
theorem RCD.s2 (X : RCD) (ok : RCDOk X) {Q : Exit → Act → World → Prop} : StepG (opsOf 1 Tryz.f32) RCD.acts RCD.av X.val0 X.Wd X.a0 Q 2 := by
  intro γ listed a w o hF hC hW h1 ho h2
  obtain ⟨hd, hop, hg⟩ := fields2 (x := some 6) (y := Op.move (.tmp 5)) (z := none) (by kernel_rfl) ho
  have e5 : a.eval (.tmp 5) = .bool false := slotG hF ho h2 (j := 1) (d := 5) (by kernel_rfl) (by kernel_rfl) (by rw [ok.sz]; decide)
  refine st_pureG hF hC hW ho h2 (by decide) hd hg rfl ?_
  show _ = Result.ok (Next.value (.bool false)) w
  generalize a.eval = ρ at e5 ⊢
  unfold execOp
  rw [hop]
  simp [e5, go_sem]
theorem RCD.s3 (X : RCD) (ok : RCDOk X) {Q : Exit → Act → World → Prop} : StepG (opsOf 1 Tryz.f32) RCD.acts RCD.av X.val0 X.Wd X.a0 Q 3 := by
  intro γ listed a w o hF hC hW h1 ho h2
  obtain ⟨hd, hop, hg⟩ := fields2 (x := some 7) (y := Op.move (.tmp 0)) (z := some (2, false)) (by kernel_rfl) ho
  have eg : a.eval (.tmp 6) = .bool false := slotG hF ho h2 (j := 2) (d := 6) (by kernel_rfl) (by kernel_rfl) (by rw [ok.sz]; decide)
  have hw := wanted_of (ops := (opsOf 1 Tryz.f32)) hg (yl_of (by kernel_rfl : dstOf (opsOf 1 Tryz.f32) 2 = some 6) (by rw [hF.tsize, ok.sz]; decide) eg)
  replace hw : Region.wanted o (yielded (opsOf 1 Tryz.f32) a.tmps) = true := hw
  have e0 : a.eval (.tmp 0) = .pointer (some ⟨X.bx, 0, none⟩) := (hF.eval0 (by kernel_rfl)).trans ok.e0
  refine st_pureW hF hC hW ho h2 (by decide) hd hw rfl ?_
  show _ = Result.ok (Next.value (.pointer (some ⟨X.bx, 0, none⟩))) w
  generalize a.eval = ρ at e0 ⊢
  unfold execOp
  rw [hop]
  simp [e0, go_sem]
theorem RCD.s4 (X : RCD) (ok : RCDOk X) {Q : Exit → Act → World → Prop} : StepG (opsOf 1 Tryz.f32) RCD.acts RCD.av X.val0 X.Wd X.a0 Q 4 := by
  intro γ listed a w o hF hC hW h1 ho h2
  obtain ⟨hd, hop, hg⟩ := fields2 (x := some 8) (y := Op.nilCheck (.tmp 7)) (z := some (2, false)) (by kernel_rfl) ho
  have eg : a.eval (.tmp 6) = .bool false := slotG hF ho h2 (j := 2) (d := 6) (by kernel_rfl) (by kernel_rfl) (by rw [ok.sz]; decide)
  have hw := wanted_of (ops := (opsOf 1 Tryz.f32)) hg (yl_of (by kernel_rfl : dstOf (opsOf 1 Tryz.f32) 2 = some 6) (by rw [hF.tsize, ok.sz]; decide) eg)
  replace hw : Region.wanted o (yielded (opsOf 1 Tryz.f32) a.tmps) = true := hw
  have e7 : a.eval (.tmp 7) = .pointer (some ⟨X.bx, 0, none⟩) := slotG hF ho h2 (j := 3) (d := 7) (by kernel_rfl) (by kernel_rfl) (by rw [ok.sz]; decide)
  refine st_pureW hF hC hW ho h2 (by decide) hd hw rfl ?_
  show _ = Result.ok (Next.value (.pointer (some ⟨X.bx, 0, none⟩))) w
  generalize a.eval = ρ at e7 ⊢
  unfold execOp
  rw [hop]
  simp [e7, go_sem]
theorem RCD.s5 (X : RCD) (ok : RCDOk X) {Q : Exit → Act → World → Prop} : StepG (opsOf 1 Tryz.f32) RCD.acts RCD.av X.val0 X.Wd X.a0 Q 5 := by
  intro γ listed a w o hF hC hW h1 ho h2
  obtain ⟨hd, hop, hg⟩ := fields2 (x := some 9) (y := Op.fieldAddr 67 (.tmp 8) 4) (z := some (2, false)) (by kernel_rfl) ho
  have eg : a.eval (.tmp 6) = .bool false := slotG hF ho h2 (j := 2) (d := 6) (by kernel_rfl) (by kernel_rfl) (by rw [ok.sz]; decide)
  have hw := wanted_of (ops := (opsOf 1 Tryz.f32)) hg (yl_of (by kernel_rfl : dstOf (opsOf 1 Tryz.f32) 2 = some 6) (by rw [hF.tsize, ok.sz]; decide) eg)
  replace hw : Region.wanted o (yielded (opsOf 1 Tryz.f32) a.tmps) = true := hw
  have e8 : a.eval (.tmp 8) = .pointer (some ⟨X.bx, 0, none⟩) := slotG hF ho h2 (j := 4) (d := 8) (by kernel_rfl) (by kernel_rfl) (by rw [ok.sz]; decide)
  refine st_pureW hF hC hW ho h2 (by decide) hd hw rfl ?_
  show _ = Result.ok (Next.value (.pointer (some ⟨X.bx, 4, none⟩))) w
  generalize a.eval = ρ at e8 ⊢
  unfold execOp
  rw [hop]
  simp [e8, go_sem]
theorem RCD.s6 (X : RCD) (ok : RCDOk X) {Q : Exit → Act → World → Prop} : StepG (opsOf 1 Tryz.f32) RCD.acts RCD.av X.val0 X.Wd X.a0 Q 6 := by
  intro γ listed a w o hF hC hW h1 ho h2
  obtain ⟨hd, hop, hg⟩ := fields2 (x := some 10) (y := Op.load 64 (.tmp 9)) (z := some (2, false)) (by kernel_rfl) ho
  have eg : a.eval (.tmp 6) = .bool false := slotG hF ho h2 (j := 2) (d := 6) (by kernel_rfl) (by kernel_rfl) (by rw [ok.sz]; decide)
  have hw := wanted_of (ops := (opsOf 1 Tryz.f32)) hg (yl_of (by kernel_rfl : dstOf (opsOf 1 Tryz.f32) 2 = some 6) (by rw [hF.tsize, ok.sz]; decide) eg)
  replace hw : Region.wanted o (yielded (opsOf 1 Tryz.f32) a.tmps) = true := hw
  have e9 : a.eval (.tmp 9) = .pointer (some ⟨X.bx, 4, none⟩) := slotG hF ho h2 (j := 5) (d := 9) (by kernel_rfl) (by kernel_rfl) (by rw [ok.sz]; decide)
  have hc0 := rq_at (RCD.kp hW) ok.c4
  refine st_pureW hF hC hW ho h2 (by decide) hd hw rfl ?_
  show _ = Result.ok (Next.value (.slice (some ⟨X.g, 0, none⟩) X.n X.uc)) w
  generalize a.eval = ρ at e9 ⊢
  unfold execOp
  rw [hop]
  simp [e9, hc0, go_sem]
theorem RCD.s7 (X : RCD) (ok : RCDOk X) {Q : Exit → Act → World → Prop} : StepG (opsOf 1 Tryz.f32) RCD.acts RCD.av X.val0 X.Wd X.a0 Q 7 := by
  intro γ listed a w o hF hC hW h1 ho h2
  obtain ⟨hd, hop, hg⟩ := fields2 (x := some 11) (y := Op.call { callee := .builtin .len, args := #[(.tmp 10)], argTypes := #[64] }) (z := some (2, false)) (by kernel_rfl) ho
  have eg : a.eval (.tmp 6) = .bool false := slotG hF ho h2 (j := 2) (d := 6) (by kernel_rfl) (by kernel_rfl) (by rw [ok.sz]; decide)
  have hw := wanted_of (ops := (opsOf 1 Tryz.f32)) hg (yl_of (by kernel_rfl : dstOf (opsOf 1 Tryz.f32) 2 = some 6) (by rw [hF.tsize, ok.sz]; decide) eg)
  replace hw : Region.wanted o (yielded (opsOf 1 Tryz.f32) a.tmps) = true := hw
  have e10 : a.eval (.tmp 10) = .slice (some ⟨X.g, 0, none⟩) X.n X.uc := slotG hF ho h2 (j := 6) (d := 10) (by kernel_rfl) (by kernel_rfl) (by rw [ok.sz]; decide)
  refine st_pureW hF hC hW ho h2 (by decide) hd hw rfl ?_
  show _ = Result.ok (Next.value (.int .i64 (X.n : Int))) w
  generalize a.eval = ρ at e10 ⊢
  unfold execOp
  rw [hop]
  simp [e10, go_sem]
theorem RCD.s8 (X : RCD) (ok : RCDOk X) {Q : Exit → Act → World → Prop} : StepG (opsOf 1 Tryz.f32) RCD.acts RCD.av X.val0 X.Wd X.a0 Q 8 := by
  intro γ listed a w o hF hC hW h1 ho h2
  obtain ⟨hd, hop, hg⟩ := fields2 (x := some 12) (y := Op.binOp .gtr 3 (.tmp 11) (.const (.int .i64 0)) 3) (z := some (2, false)) (by kernel_rfl) ho
  have eg : a.eval (.tmp 6) = .bool false := slotG hF ho h2 (j := 2) (d := 6) (by kernel_rfl) (by kernel_rfl) (by rw [ok.sz]; decide)
  have hw := wanted_of (ops := (opsOf 1 Tryz.f32)) hg (yl_of (by kernel_rfl : dstOf (opsOf 1 Tryz.f32) 2 = some 6) (by rw [hF.tsize, ok.sz]; decide) eg)
  replace hw : Region.wanted o (yielded (opsOf 1 Tryz.f32) a.tmps) = true := hw
  have e11 : a.eval (.tmp 11) = .int .i64 (X.n : Int) := slotG hF ho h2 (j := 7) (d := 11) (by kernel_rfl) (by kernel_rfl) (by rw [ok.sz]; decide)
  have ec1 : a.eval (.const (.int .i64 0)) = .int .i64 0 := rfl
  refine st_pureW hF hC hW ho h2 (by decide) hd hw rfl ?_
  show _ = Result.ok (Next.value (.bool true)) w
  generalize a.eval = ρ at e11 ec1 ⊢
  unfold execOp
  rw [hop]
  simp [e11, ec1, ok.h0, go_sem]
theorem RCD.s9 (X : RCD) (ok : RCDOk X) {Q : Exit → Act → World → Prop} : StepG (opsOf 1 Tryz.f32) RCD.acts RCD.av X.val0 X.Wd X.a0 Q 9 := by
  intro γ listed a w o hF hC hW h1 ho h2
  obtain ⟨hd, hop, hg⟩ := fields2 (x := some 13) (y := Op.move (.tmp 12)) (z := some (2, false)) (by kernel_rfl) ho
  have eg : a.eval (.tmp 6) = .bool false := slotG hF ho h2 (j := 2) (d := 6) (by kernel_rfl) (by kernel_rfl) (by rw [ok.sz]; decide)
  have hw := wanted_of (ops := (opsOf 1 Tryz.f32)) hg (yl_of (by kernel_rfl : dstOf (opsOf 1 Tryz.f32) 2 = some 6) (by rw [hF.tsize, ok.sz]; decide) eg)
  replace hw : Region.wanted o (yielded (opsOf 1 Tryz.f32) a.tmps) = true := hw
  have e12 : a.eval (.tmp 12) = .bool true := slotG hF ho h2 (j := 8) (d := 12) (by kernel_rfl) (by kernel_rfl) (by rw [ok.sz]; decide)
  refine st_pureW hF hC hW ho h2 (by decide) hd hw rfl ?_
  show _ = Result.ok (Next.value (.bool true)) w
  generalize a.eval = ρ at e12 ⊢
  unfold execOp
  rw [hop]
  simp [e12, go_sem]
theorem RCD.s10 (X : RCD) (ok : RCDOk X) {Q : Exit → Act → World → Prop} : StepG (opsOf 1 Tryz.f32) RCD.acts RCD.av X.val0 X.Wd X.a0 Q 10 := by
  intro γ listed a w o hF hC hW h1 ho h2
  obtain ⟨hd, hop, hg⟩ := fields2 (x := some 14) (y := Op.move (.tmp 0)) (z := some (9, true)) (by kernel_rfl) ho
  have eg : a.eval (.tmp 13) = .bool true := slotG hF ho h2 (j := 9) (d := 13) (by kernel_rfl) (by kernel_rfl) (by rw [ok.sz]; decide)
  have hw := wanted_of (ops := (opsOf 1 Tryz.f32)) hg (yl_of (by kernel_rfl : dstOf (opsOf 1 Tryz.f32) 9 = some 13) (by rw [hF.tsize, ok.sz]; decide) eg)
  replace hw : Region.wanted o (yielded (opsOf 1 Tryz.f32) a.tmps) = true := hw
  have e0 : a.eval (.tmp 0) = .pointer (some ⟨X.bx, 0, none⟩) := (hF.eval0 (by kernel_rfl)).trans ok.e0
  refine st_pureW hF hC hW ho h2 (by decide) hd hw rfl ?_
  show _ = Result.ok (Next.value (.pointer (some ⟨X.bx, 0, none⟩))) w
  generalize a.eval = ρ at e0 ⊢
  unfold execOp
  rw [hop]
  simp [e0, go_sem]
theorem RCD.s11 (X : RCD) (ok : RCDOk X) {Q : Exit → Act → World → Prop} : StepG (opsOf 1 Tryz.f32) RCD.acts RCD.av X.val0 X.Wd X.a0 Q 11 := by
  intro γ listed a w o hF hC hW h1 ho h2
  obtain ⟨hd, hop, hg⟩ := fields2 (x := some 15) (y := Op.nilCheck (.tmp 14)) (z := some (9, true)) (by kernel_rfl) ho
  have eg : a.eval (.tmp 13) = .bool true := slotG hF ho h2 (j := 9) (d := 13) (by kernel_rfl) (by kernel_rfl) (by rw [ok.sz]; decide)
  have hw := wanted_of (ops := (opsOf 1 Tryz.f32)) hg (yl_of (by kernel_rfl : dstOf (opsOf 1 Tryz.f32) 9 = some 13) (by rw [hF.tsize, ok.sz]; decide) eg)
  replace hw : Region.wanted o (yielded (opsOf 1 Tryz.f32) a.tmps) = true := hw
  have e14 : a.eval (.tmp 14) = .pointer (some ⟨X.bx, 0, none⟩) := slotG hF ho h2 (j := 10) (d := 14) (by kernel_rfl) (by kernel_rfl) (by rw [ok.sz]; decide)
  refine st_pureW hF hC hW ho h2 (by decide) hd hw rfl ?_
  show _ = Result.ok (Next.value (.pointer (some ⟨X.bx, 0, none⟩))) w
  generalize a.eval = ρ at e14 ⊢
  unfold execOp
  rw [hop]
  simp [e14, go_sem]
theorem RCD.s12 (X : RCD) (ok : RCDOk X) {Q : Exit → Act → World → Prop} : StepG (opsOf 1 Tryz.f32) RCD.acts RCD.av X.val0 X.Wd X.a0 Q 12 := by
  intro γ listed a w o hF hC hW h1 ho h2
  obtain ⟨hd, hop, hg⟩ := fields2 (x := some 16) (y := Op.fieldAddr 67 (.tmp 15) 4) (z := some (9, true)) (by kernel_rfl) ho
  have eg : a.eval (.tmp 13) = .bool true := slotG hF ho h2 (j := 9) (d := 13) (by kernel_rfl) (by kernel_rfl) (by rw [ok.sz]; decide)
  have hw := wanted_of (ops := (opsOf 1 Tryz.f32)) hg (yl_of (by kernel_rfl : dstOf (opsOf 1 Tryz.f32) 9 = some 13) (by rw [hF.tsize, ok.sz]; decide) eg)
  replace hw : Region.wanted o (yielded (opsOf 1 Tryz.f32) a.tmps) = true := hw
  have e15 : a.eval (.tmp 15) = .pointer (some ⟨X.bx, 0, none⟩) := slotG hF ho h2 (j := 11) (d := 15) (by kernel_rfl) (by kernel_rfl) (by rw [ok.sz]; decide)
  refine st_pureW hF hC hW ho h2 (by decide) hd hw rfl ?_
  show _ = Result.ok (Next.value (.pointer (some ⟨X.bx, 4, none⟩))) w
  generalize a.eval = ρ at e15 ⊢
  unfold execOp
  rw [hop]
  simp [e15, go_sem]
theorem RCD.s13 (X : RCD) (ok : RCDOk X) {Q : Exit → Act → World → Prop} : StepG (opsOf 1 Tryz.f32) RCD.acts RCD.av X.val0 X.Wd X.a0 Q 13 := by
  intro γ listed a w o hF hC hW h1 ho h2
  obtain ⟨hd, hop, hg⟩ := fields2 (x := some 17) (y := Op.load 64 (.tmp 16)) (z := some (9, true)) (by kernel_rfl) ho
  have eg : a.eval (.tmp 13) = .bool true := slotG hF ho h2 (j := 9) (d := 13) (by kernel_rfl) (by kernel_rfl) (by rw [ok.sz]; decide)
  have hw := wanted_of (ops := (opsOf 1 Tryz.f32)) hg (yl_of (by kernel_rfl : dstOf (opsOf 1 Tryz.f32) 9 = some 13) (by rw [hF.tsize, ok.sz]; decide) eg)
  replace hw : Region.wanted o (yielded (opsOf 1 Tryz.f32) a.tmps) = true := hw
  have e16 : a.eval (.tmp 16) = .pointer (some ⟨X.bx, 4, none⟩) := slotG hF ho h2 (j := 12) (d := 16) (by kernel_rfl) (by kernel_rfl) (by rw [ok.sz]; decide)
  have hc0 := rq_at (RCD.kp hW) ok.c4
  refine st_pureW hF hC hW ho h2 (by decide) hd hw rfl ?_
  show _ = Result.ok (Next.value (.slice (some ⟨X.g, 0, none⟩) X.n X.uc)) w
  generalize a.eval = ρ at e16 ⊢
  unfold execOp
  rw [hop]
  simp [e16, hc0, go_sem]
theorem RCD.s14 (X : RCD) (ok : RCDOk X) {Q : Exit → Act → World → Prop} : StepG (opsOf 1 Tryz.f32) RCD.acts RCD.av X.val0 X.Wd X.a0 Q 14 := by
  intro γ listed a w o hF hC hW h1 ho h2
  obtain ⟨hd, hop, hg⟩ := fields2 (x := some 18) (y := Op.move (.tmp 0)) (z := some (9, true)) (by kernel_rfl) ho
  have eg : a.eval (.tmp 13) = .bool true := slotG hF ho h2 (j := 9) (d := 13) (by kernel_rfl) (by kernel_rfl) (by rw [ok.sz]; decide)
  have hw := wanted_of (ops := (opsOf 1 Tryz.f32)) hg (yl_of (by kernel_rfl : dstOf (opsOf 1 Tryz.f32) 9 = some 13) (by rw [hF.tsize, ok.sz]; decide) eg)
  replace hw : Region.wanted o (yielded (opsOf 1 Tryz.f32) a.tmps) = true := hw
  have e0 : a.eval (.tmp 0) = .pointer (some ⟨X.bx, 0, none⟩) := (hF.eval0 (by kernel_rfl)).trans ok.e0
  refine st_pureW hF hC hW ho h2 (by decide) hd hw rfl ?_
  show _ = Result.ok (Next.value (.pointer (some ⟨X.bx, 0, none⟩))) w
  generalize a.eval = ρ at e0 ⊢
  unfold execOp
  rw [hop]
  simp [e0, go_sem]
theorem RCD.s15 (X : RCD) (ok : RCDOk X) {Q : Exit → Act → World → Prop} : StepG (opsOf 1 Tryz.f32) RCD.acts RCD.av X.val0 X.Wd X.a0 Q 15 := by
  intro γ listed a w o hF hC hW h1 ho h2
  obtain ⟨hd, hop, hg⟩ := fields2 (x := some 19) (y := Op.nilCheck (.tmp 18)) (z := some (9, true)) (by kernel_rfl) ho
  have eg : a.eval (.tmp 13) = .bool true := slotG hF ho h2 (j := 9) (d := 13) (by kernel_rfl) (by kernel_rfl) (by rw [ok.sz]; decide)
  have hw := wanted_of (ops := (opsOf 1 Tryz.f32)) hg (yl_of (by kernel_rfl : dstOf (opsOf 1 Tryz.f32) 9 = some 13) (by rw [hF.tsize, ok.sz]; decide) eg)
  replace hw : Region.wanted o (yielded (opsOf 1 Tryz.f32) a.tmps) = true := hw
  have e18 : a.eval (.tmp 18) = .pointer (some ⟨X.bx, 0, none⟩) := slotG hF ho h2 (j := 14) (d := 18) (by kernel_rfl) (by kernel_rfl) (by rw [ok.sz]; decide)
  refine st_pureW hF hC hW ho h2 (by decide) hd hw rfl ?_
  show _ = Result.ok (Next.value (.pointer (some ⟨X.bx, 0, none⟩))) w
  generalize a.eval = ρ at e18 ⊢
  unfold execOp
  rw [hop]
  simp [e18, go_sem]
theorem RCD.s16 (X : RCD) (ok : RCDOk X) {Q : Exit → Act → World → Prop} : StepG (opsOf 1 Tryz.f32) RCD.acts RCD.av X.val0 X.Wd X.a0 Q 16 := by
  intro γ listed a w o hF hC hW h1 ho h2
  obtain ⟨hd, hop, hg⟩ := fields2 (x := some 20) (y := Op.fieldAddr 67 (.tmp 19) 4) (z := some (9, true)) (by kernel_rfl) ho
  have eg : a.eval (.tmp 13) = .bool true := slotG hF ho h2 (j := 9) (d := 13) (by kernel_rfl) (by kernel_rfl) (by rw [ok.sz]; decide)
  have hw := wanted_of (ops := (opsOf 1 Tryz.f32)) hg (yl_of (by kernel_rfl : dstOf (opsOf 1 Tryz.f32) 9 = some 13) (by rw [hF.tsize, ok.sz]; decide) eg)
  replace hw : Region.wanted o (yielded (opsOf 1 Tryz.f32) a.tmps) = true := hw
  have e19 : a.eval (.tmp 19) = .pointer (some ⟨X.bx, 0, none⟩) := slotG hF ho h2 (j := 15) (d := 19) (by kernel_rfl) (by kernel_rfl) (by rw [ok.sz]; decide)
  refine st_pureW hF hC hW ho h2 (by decide) hd hw rfl ?_
  show _ = Result.ok (Next.value (.pointer (some ⟨X.bx, 4, none⟩))) w
  generalize a.eval = ρ at e19 ⊢
  unfold execOp
  rw [hop]
  simp [e19, go_sem]
theorem RCD.s17 (X : RCD) (ok : RCDOk X) {Q : Exit → Act → World → Prop} : StepG (opsOf 1 Tryz.f32) RCD.acts RCD.av X.val0 X.Wd X.a0 Q 17 := by
  intro γ listed a w o hF hC hW h1 ho h2
  obtain ⟨hd, hop, hg⟩ := fields2 (x := some 21) (y := Op.load 64 (.tmp 20)) (z := some (9, true)) (by kernel_rfl) ho
  have eg : a.eval (.tmp 13) = .bool true := slotG hF ho h2 (j := 9) (d := 13) (by kernel_rfl) (by kernel_rfl) (by rw [ok.sz]; decide)
  have hw := wanted_of (ops := (opsOf 1 Tryz.f32)) hg (yl_of (by kernel_rfl : dstOf (opsOf 1 Tryz.f32) 9 = some 13) (by rw [hF.tsize, ok.sz]; decide) eg)
  replace hw : Region.wanted o (yielded (opsOf 1 Tryz.f32) a.tmps) = true := hw
  have e20 : a.eval (.tmp 20) = .pointer (some ⟨X.bx, 4, none⟩) := slotG hF ho h2 (j := 16) (d := 20) (by kernel_rfl) (by kernel_rfl) (by rw [ok.sz]; decide)
  have hc0 := rq_at (RCD.kp hW) ok.c4
  refine st_pureW hF hC hW ho h2 (by decide) hd hw rfl ?_
  show _ = Result.ok (Next.value (.slice (some ⟨X.g, 0, none⟩) X.n X.uc)) w
  generalize a.eval = ρ at e20 ⊢
  unfold execOp
  rw [hop]
  simp [e20, hc0, go_sem]
theorem RCD.s18 (X : RCD) (ok : RCDOk X) {Q : Exit → Act → World → Prop} : StepG (opsOf 1 Tryz.f32) RCD.acts RCD.av X.val0 X.Wd X.a0 Q 18 := by
  intro γ listed a w o hF hC hW h1 ho h2
  obtain ⟨hd, hop, hg⟩ := fields2 (x := some 22) (y := Op.call { callee := .builtin .len, args := #[(.tmp 21)], argTypes := #[64] }) (z := some (9, true)) (by kernel_rfl) ho
  have eg : a.eval (.tmp 13) = .bool true := slotG hF ho h2 (j := 9) (d := 13) (by kernel_rfl) (by kernel_rfl) (by rw [ok.sz]; decide)
  have hw := wanted_of (ops := (opsOf 1 Tryz.f32)) hg (yl_of (by kernel_rfl : dstOf (opsOf 1 Tryz.f32) 9 = some 13) (by rw [hF.tsize, ok.sz]; decide) eg)
  replace hw : Region.wanted o (yielded (opsOf 1 Tryz.f32) a.tmps) = true := hw
  have e21 : a.eval (.tmp 21) = .slice (some ⟨X.g, 0, none⟩) X.n X.uc := slotG hF ho h2 (j := 17) (d := 21) (by kernel_rfl) (by kernel_rfl) (by rw [ok.sz]; decide)
  refine st_pureW hF hC hW ho h2 (by decide) hd hw rfl ?_
  show _ = Result.ok (Next.value (.int .i64 (X.n : Int))) w
  generalize a.eval = ρ at e21 ⊢
  unfold execOp
  rw [hop]
  simp [e21, go_sem]
theorem RCD.s19 (X : RCD) (ok : RCDOk X) {Q : Exit → Act → World → Prop} : StepG (opsOf 1 Tryz.f32) RCD.acts RCD.av X.val0 X.Wd X.a0 Q 19 := by
  intro γ listed a w o hF hC hW h1 ho h2
  obtain ⟨hd, hop, hg⟩ := fields2 (x := some 23) (y := Op.binOp .sub 3 (.tmp 22) (.const (.int .i64 1)) 3) (z := some (9, true)) (by kernel_rfl) ho
  have eg : a.eval (.tmp 13) = .bool true := slotG hF ho h2 (j := 9) (d := 13) (by kernel_rfl) (by kernel_rfl) (by rw [ok.sz]; decide)
  have hw := wanted_of (ops := (opsOf 1 Tryz.f32)) hg (yl_of (by kernel_rfl : dstOf (opsOf 1 Tryz.f32) 9 = some 13) (by rw [hF.tsize, ok.sz]; decide) eg)
  replace hw : Region.wanted o (yielded (opsOf 1 Tryz.f32) a.tmps) = true := hw
  have e22 : a.eval (.tmp 22) = .int .i64 (X.n : Int) := slotG hF ho h2 (j := 18) (d := 22) (by kernel_rfl) (by kernel_rfl) (by rw [ok.sz]; decide)
  have ec1 : a.eval (.const (.int .i64 1)) = .int .i64 1 := rfl
  refine st_pureW hF hC hW ho h2 (by decide) hd hw rfl ?_
  show _ = Result.ok (Next.value (.int .i64 (X.m : Int))) w
  generalize a.eval = ρ at e22 ec1 ⊢
  unfold execOp
  rw [hop]
  simp [e22, ec1, ok.wm, go_sem]
theorem RCD.s20 (X : RCD) (ok : RCDOk X) {Q : Exit → Act → World → Prop} : StepG (opsOf 1 Tryz.f32) RCD.acts RCD.av X.val0 X.Wd X.a0 Q 20 := by
  intro γ listed a w o hF hC hW h1 ho h2
  obtain ⟨hd, hop, hg⟩ := fields2 (x := some 24) (y := Op.indexAddr 64 (.tmp 17) (.tmp 23)) (z := some (9, true)) (by kernel_rfl) ho
  have eg : a.eval (.tmp 13) = .bool true := slotG hF ho h2 (j := 9) (d := 13) (by kernel_rfl) (by kernel_rfl) (by rw [ok.sz]; decide)
  have hw := wanted_of (ops := (opsOf 1 Tryz.f32)) hg (yl_of (by kernel_rfl : dstOf (opsOf 1 Tryz.f32) 9 = some 13) (by rw [hF.tsize, ok.sz]; decide) eg)
  replace hw : Region.wanted o (yielded (opsOf 1 Tryz.f32) a.tmps) = true := hw
  have e17 : a.eval (.tmp 17) = .slice (some ⟨X.g, 0, none⟩) X.n X.uc := slotG hF ho h2 (j := 13) (d := 17) (by kernel_rfl) (by kernel_rfl) (by rw [ok.sz]; decide)
  have e23 : a.eval (.tmp 23) = .int .i64 (X.m : Int) := slotG hF ho h2 (j := 19) (d := 23) (by kernel_rfl) (by kernel_rfl) (by rw [ok.sz]; decide)
  refine st_pureW hF hC hW ho h2 (by decide) hd hw rfl ?_
  show _ = Result.ok (Next.value (.pointer (some ⟨X.g, X.m * 2, none⟩))) w
  generalize a.eval = ρ at e17 e23 ⊢
  unfold execOp
  rw [hop]
  simp [e17, e23, ok.hm, go_sem]
theorem RCD.s21 (X : RCD) (ok : RCDOk X) {Q : Exit → Act → World → Prop} : StepG (opsOf 1 Tryz.f32) RCD.acts RCD.av X.val0 X.Wd X.a0 Q 21 := by
  intro γ listed a w o hF hC hW h1 ho h2
  obtain ⟨hd, hop, hg⟩ := fields2 (x := some 25) (y := Op.load 34 (.tmp 24)) (z := some (9, true)) (by kernel_rfl) ho
  have eg : a.eval (.tmp 13) = .bool true := slotG hF ho h2 (j := 9) (d := 13) (by kernel_rfl) (by kernel_rfl) (by rw [ok.sz]; decide)
  have hw := wanted_of (ops := (opsOf 1 Tryz.f32)) hg (yl_of (by kernel_rfl : dstOf (opsOf 1 Tryz.f32) 9 = some 13) (by rw [hF.tsize, ok.sz]; decide) eg)
  replace hw : Region.wanted o (yielded (opsOf 1 Tryz.f32) a.tmps) = true := hw
  have e24 : a.eval (.tmp 24) = .pointer (some ⟨X.g, X.m * 2, none⟩) := slotG hF ho h2 (j := 20) (d := 24) (by kernel_rfl) (by kernel_rfl) (by rw [ok.sz]; decide)
  have hc0 := rq_at (RCD.kp hW) ok.px
  have hc1 := rq_at (RCD.kp hW) ok.py
  refine st_pureW hF hC hW ho h2 (by decide) hd hw rfl ?_
  show _ = Result.ok (Next.value (.agg #[.int .i64 X.lx, .int .i64 X.ly])) w
  generalize a.eval = ρ at e24 ⊢
  unfold execOp
  rw [hop]
  simp [e24, hc0, hc1, go_sem]
theorem RCD.s22 (X : RCD) (ok : RCDOk X) {Q : Exit → Act → World → Prop} : StepG (opsOf 1 Tryz.f32) RCD.acts RCD.av X.val0 X.Wd X.a0 Q 22 := by
  intro γ listed a w o hF hC hW h1 ho h2
  obtain ⟨hd, hop, hg⟩ := fields2 (x := some 26) (y := Op.load 34 (.tmp 3)) (z := some (9, true)) (by kernel_rfl) ho
  have eg : a.eval (.tmp 13) = .bool true := slotG hF ho h2 (j := 9) (d := 13) (by kernel_rfl) (by kernel_rfl) (by rw [ok.sz]; decide)
  have hw := wanted_of (ops := (opsOf 1 Tryz.f32)) hg (yl_of (by kernel_rfl : dstOf (opsOf 1 Tryz.f32) 9 = some 13) (by rw [hF.tsize, ok.sz]; decide) eg)
  replace hw : Region.wanted o (yielded (opsOf 1 Tryz.f32) a.tmps) = true := hw
  have e3 : a.eval (.tmp 3) = .pointer (some ⟨X.bq, 0, none⟩) := (hF.eval0 (by kernel_rfl)).trans ok.e3
  have hc0 := rq_at (RCD.kp hW) ok.q0
  have hc1 := rq_at (RCD.kp hW) ok.q1
  refine st_pureW hF hC hW ho h2 (by decide) hd hw rfl ?_
  show _ = Result.ok (Next.value (.agg #[.int .i64 X.x, .int .i64 X.y])) w
  generalize a.eval = ρ at e3 ⊢
  unfold execOp
  rw [hop]
  simp [e3, hc0, hc1, go_sem]
theorem RCD.s23 (X : RCD) (ok : RCDOk X) {Q : Exit → Act → World → Prop} : StepG (opsOf 1 Tryz.f32) RCD.acts RCD.av X.val0 X.Wd X.a0 Q 23 := by
  intro γ listed a w o hF hC hW h1 ho h2
  obtain ⟨hd, hop, hg⟩ := fields2 (x := some 27) (y := Op.binOp .eql 34 (.tmp 25) (.tmp 26) 34) (z := some (9, true)) (by kernel_rfl) ho
  have eg : a.eval (.tmp 13) = .bool true := slotG hF ho h2 (j := 9) (d := 13) (by kernel_rfl) (by kernel_rfl) (by rw [ok.sz]; decide)
  have hw := wanted_of (ops := (opsOf 1 Tryz.f32)) hg (yl_of (by kernel_rfl : dstOf (opsOf 1 Tryz.f32) 9 = some 13) (by rw [hF.tsize, ok.sz]; decide) eg)
  replace hw : Region.wanted o (yielded (opsOf 1 Tryz.f32) a.tmps) = true := hw
  have e25 : a.eval (.tmp 25) = .agg #[.int .i64 X.lx, .int .i64 X.ly] := slotG hF ho h2 (j := 21) (d := 25) (by kernel_rfl) (by kernel_rfl) (by rw [ok.sz]; decide)
  have e26 : a.eval (.tmp 26) = .agg #[.int .i64 X.x, .int .i64 X.y] := slotG hF ho h2 (j := 22) (d := 26) (by kernel_rfl) (by kernel_rfl) (by rw [ok.sz]; decide)
  refine st_pureW hF hC hW ho h2 (by decide) hd hw rfl ?_
  show _ = Result.ok (Next.value (.bool false)) w
  generalize a.eval = ρ at e25 e26 ⊢
  unfold execOp
  rw [hop]
  simp [e25, e26, go_sem]
  exact ok.hv
theorem RCD.s24 (X : RCD) (ok : RCDOk X) {Q : Exit → Act → World → Prop} : StepG (opsOf 1 Tryz.f32) RCD.acts RCD.av X.val0 X.Wd X.a0 Q 24 := by
  intro γ listed a w o hF hC hW h1 ho h2
  obtain ⟨hd, hop, hg⟩ := fields2 (x := some 28) (y := Op.pick (.tmp 13) (.tmp 27) (.const (.bool false))) (z := some (2, false)) (by kernel_rfl) ho
  have eg : a.eval (.tmp 6) = .bool false := slotG hF ho h2 (j := 2) (d := 6) (by kernel_rfl) (by kernel_rfl) (by rw [ok.sz]; decide)
  have hw := wanted_of (ops := (opsOf 1 Tryz.f32)) hg (yl_of (by kernel_rfl : dstOf (opsOf 1 Tryz.f32) 2 = some 6) (by rw [hF.tsize, ok.sz]; decide) eg)
  replace hw : Region.wanted o (yielded (opsOf 1 Tryz.f32) a.tmps) = true := hw
  have e13 : a.eval (.tmp 13) = .bool true := slotG hF ho h2 (j := 9) (d := 13) (by kernel_rfl) (by kernel_rfl) (by rw [ok.sz]; decide)
  have e27 : a.eval (.tmp 27) = .bool false := slotG hF ho h2 (j := 23) (d := 27) (by kernel_rfl) (by kernel_rfl) (by rw [ok.sz]; decide)
  have ec2 : a.eval (.const (.bool false)) = .bool false := rfl
  refine st_pureW hF hC hW ho h2 (by decide) hd hw rfl ?_
  show _ = Result.ok (Next.value (.bool false)) w
  generalize a.eval = ρ at e13 e27 ec2 ⊢
  unfold execOp
  rw [hop]
  simp [e13, e27, ec2, go_sem]
theorem RCD.s25 (X : RCD) (ok : RCDOk X) {Q : Exit → Act → World → Prop} : StepG (opsOf 1 Tryz.f32) RCD.acts RCD.av X.val0 X.Wd X.a0 Q 25 := by
  intro γ listed a w o hF hC hW h1 ho h2
  obtain ⟨hd, hop, hg⟩ := fields2 (x := some 29) (y := Op.pick (.tmp 6) (.const (.bool true)) (.tmp 28)) (z := none) (by kernel_rfl) ho
  have e6 : a.eval (.tmp 6) = .bool false := slotG hF ho h2 (j := 2) (d := 6) (by kernel_rfl) (by kernel_rfl) (by rw [ok.sz]; decide)
  have ec1 : a.eval (.const (.bool true)) = .bool true := rfl
  have e28 : a.eval (.tmp 28) = .bool false := slotG hF ho h2 (j := 24) (d := 28) (by kernel_rfl) (by kernel_rfl) (by rw [ok.sz]; decide)
  refine st_pureG hF hC hW ho h2 (by decide) hd hg rfl ?_
  show _ = Result.ok (Next.value (.bool false)) w
  generalize a.eval = ρ at e6 ec1 e28 ⊢
  unfold execOp
  rw [hop]
  simp [e6, ec1, e28, go_sem]
theorem RCD.size : (opsOf 1 Tryz.f32).size = 26 := by kernel_rfl
theorem RCD.steps (X : RCD) (ok : RCDOk X) {Q : Exit → Act → World → Prop} (i : Nat) (hi : i < (opsOf 1 Tryz.f32).size) : StepG (opsOf 1 Tryz.f32) RCD.acts RCD.av X.val0 X.Wd X.a0 Q i := by
  rw [RCD.size] at hi
  have hc : i = 0 ∨ i = 1 ∨ i = 2 ∨ i = 3 ∨ i = 4 ∨ i = 5 ∨ i = 6 ∨ i = 7 ∨ i = 8 ∨ i = 9 ∨ i = 10 ∨ i = 11 ∨ i = 12 ∨ i = 13 ∨ i = 14 ∨ i = 15 ∨ i = 16 ∨ i = 17 ∨ i = 18 ∨ i = 19 ∨ i = 20 ∨ i = 21 ∨ i = 22 ∨ i = 23 ∨ i = 24 ∨ i = 25 := by omega
  rcases hc with rfl | rfl | rfl | rfl | rfl | rfl | rfl | rfl | rfl | rfl | rfl | rfl | rfl | rfl | rfl | rfl | rfl | rfl | rfl | rfl | rfl | rfl | rfl | rfl | rfl | rfl
  · exact RCD.s0 X ok
  · exact RCD.s1 X ok
  · exact RCD.s2 X ok
  · exact RCD.s3 X ok
  · exact RCD.s4 X ok
  · exact RCD.s5 X ok
  · exact RCD.s6 X ok
  · exact RCD.s7 X ok
  · exact RCD.s8 X ok
  · exact RCD.s9 X ok
  · exact RCD.s10 X ok
  · exact RCD.s11 X ok
  · exact RCD.s12 X ok
  · exact RCD.s13 X ok
  · exact RCD.s14 X ok
  · exact RCD.s15 X ok
  · exact RCD.s16 X ok
  · exact RCD.s17 X ok
  · exact RCD.s18 X ok
  · exact RCD.s19 X ok
  · exact RCD.s20 X ok
  · exact RCD.s21 X ok
  · exact RCD.s22 X ok
  · exact RCD.s23 X ok
  · exact RCD.s24 X ok
  · exact RCD.s25 X ok
theorem RCD.puts (X : RCD) (γ : Nat → Value) (a0 : Act) : putsL (valG RCD.av X.val0 γ) (opsOf 1 Tryz.f32).toList a0 = ((((((((((((((((((((((((((a0.put (some 4) (.pointer (some ⟨X.bx, 0, none⟩))).put (some 5) (.bool false)).put (some 6) (.bool false)).put (some 7) (.pointer (some ⟨X.bx, 0, none⟩))).put (some 8) (.pointer (some ⟨X.bx, 0, none⟩))).put (some 9) (.pointer (some ⟨X.bx, 4, none⟩))).put (some 10) (.slice (some ⟨X.g, 0, none⟩) X.n X.uc)).put (some 11) (.int .i64 (X.n : Int))).put (some 12) (.bool true)).put (some 13) (.bool true)).put (some 14) (.pointer (some ⟨X.bx, 0, none⟩))).put (some 15) (.pointer (some ⟨X.bx, 0, none⟩))).put (some 16) (.pointer (some ⟨X.bx, 4, none⟩))).put (some 17) (.slice (some ⟨X.g, 0, none⟩) X.n X.uc)).put (some 18) (.pointer (some ⟨X.bx, 0, none⟩))).put (some 19) (.pointer (some ⟨X.bx, 0, none⟩))).put (some 20) (.pointer (some ⟨X.bx, 4, none⟩))).put (some 21) (.slice (some ⟨X.g, 0, none⟩) X.n X.uc)).put (some 22) (.int .i64 (X.n : Int))).put (some 23) (.int .i64 (X.m : Int))).put (some 24) (.pointer (some ⟨X.g, X.m * 2, none⟩))).put (some 25) (.agg #[.int .i64 X.lx, .int .i64 X.ly])).put (some 26) (.agg #[.int .i64 X.x, .int .i64 X.y])).put (some 27) (.bool false)).put (some 28) (.bool false)).put (some 29) (.bool false)) := by kernel_rfl
/-- The region, whatever order comes up. -/
theorem RCD.run (X : RCD) (ok : RCDOk X) {Q : Exit → Act → World → Prop} (w : World) (h0 : X.Wd 0 (fun _ => undef) w.drew) (hend : ∀ (γ : Nat → Value) w', X.Wd 0 γ w' → Q .normal ((((((((((((((((((((((((((X.a0.put (some 4) (.pointer (some ⟨X.bx, 0, none⟩))).put (some 5) (.bool false)).put (some 6) (.bool false)).put (some 7) (.pointer (some ⟨X.bx, 0, none⟩))).put (some 8) (.pointer (some ⟨X.bx, 0, none⟩))).put (some 9) (.pointer (some ⟨X.bx, 4, none⟩))).put (some 10) (.slice (some ⟨X.g, 0, none⟩) X.n X.uc)).put (some 11) (.int .i64 (X.n : Int))).put (some 12) (.bool true)).put (some 13) (.bool true)).put (some 14) (.pointer (some ⟨X.bx, 0, none⟩))).put (some 15) (.pointer (some ⟨X.bx, 0, none⟩))).put (some 16) (.pointer (some ⟨X.bx, 4, none⟩))).put (some 17) (.slice (some ⟨X.g, 0, none⟩) X.n X.uc)).put (some 18) (.pointer (some ⟨X.bx, 0, none⟩))).put (some 19) (.pointer (some ⟨X.bx, 0, none⟩))).put (some 20) (.pointer (some ⟨X.bx, 4, none⟩))).put (some 21) (.slice (some ⟨X.g, 0, none⟩) X.n X.uc)).put (some 22) (.int .i64 (X.n : Int))).put (some 23) (.int .i64 (X.m : Int))).put (some 24) (.pointer (some ⟨X.g, X.m * 2, none⟩))).put (some 25) (.agg #[.int .i64 X.lx, .int .i64 X.ly])).put (some 26) (.agg #[.int .i64 X.x, .int .i64 X.y])).put (some 27) (.bool false)).put (some 28) (.bool false)).put (some 29) (.bool false)) w') : (Code.region 1 (opsOf 1 Tryz.f32) true).wp Tryz.prog Q X.a0 w := by
  refine reg_act (acts := RCD.acts) (av := RCD.av) (val0 := X.val0) (Wd := X.Wd) (by kernel_rfl) (by kernel_rfl) (by rw [RCD.size]; decide) (fun i hi => RCD.steps X ok i hi) _ h0 ?_
  intro γ w' h
  rw [RCD.puts]
  exact hend γ w' h
structure RC2 where
  bx : Nat
  bq : Nat
  x : Int
  y : Int
  P : World → Prop
  W : World
  a0 : Act
structure RC2Ok (X : RC2) : Prop where
  q0 : X.W.cell? ⟨X.bq, 0, none⟩ = some (.int .i64 X.x)
  q1 : X.W.cell? ⟨X.bq, 1, none⟩ = some (.int .i64 X.y)
  ha : Calls Tryz.prog 61 #[.pointer (some ⟨X.bx, 4, none⟩), .slice (some ⟨X.W.heap.size, 0, none⟩) 1 1] (X.W.alloc (.cells #[.int .i64 X.x, .int .i64 X.y] 34)) fun e w' => e = .returned (.tuple #[]) ∧ X.P w'
  e0 : X.a0.eval (.tmp 0) = .pointer (some ⟨X.bx, 0, none⟩)
  e3 : X.a0.eval (.tmp 3) = .pointer (some ⟨X.bq, 0, none⟩)
  sz : X.a0.tmps.size = 36
def RC2.val0 (X : RC2) : Nat → Value
  | 30 => .pointer (some ⟨X.bx, 0, none⟩)
  | 31 => .pointer (some ⟨X.bx, 0, none⟩)
  | 32 => .pointer (some ⟨X.bx, 4, none⟩)
  | 33 => .agg #[.int .i64 X.x, .int .i64 X.y]
  | _ => undef
def RC2.av : Nat → Option Nat
  | 34 => some 0
  | 35 => some 1
  | _ => none
def RC2.acts : List Nat := [4, 5]
/-- The world, by how many of the acting ones have come up. -/
def RC2.Wd (X : RC2) : Nat → (Nat → Value) → World → Prop
  | 0, _, w => w = X.W
  | 1, γ, w => γ 0 = .slice (some ⟨X.W.heap.size, 0, none⟩) 1 1 ∧ w = X.W.alloc (.cells #[.int .i64 X.x, .int .i64 X.y] 34)
  | _, _, w => X.P w
theorem RC2.chain : chainG (opsOf 2 Tryz.f32) RC2.acts = true := by kernel_rfl
theorem RC2.nodup : RC2.acts.Nodup := by decide
theorem RC2.inj {listed : Array Bool} {i k : Nat} (h : (List.range (opsOf 2 Tryz.f32).size).all (fun j => decide (j = i) || !(match dstOf (opsOf 2 Tryz.f32) j with | some d => decide (RC2.av d = some k) | none => false)) = true) (hu : listed.getD i false = false) : ∀ d, got (opsOf 2 Tryz.f32) listed d → RC2.av d ≠ some k := by
  rintro d ⟨j, h1, h2⟩ h3
  have hlt : j < (opsOf 2 Tryz.f32).size := by
    rcases Nat.lt_or_ge j (opsOf 2 Tryz.f32).size with h4 | h4
    · exact h4
    · unfold dstOf at h2; rw [Array.getElem?_eq_none h4] at h2; cases h2
  have h5 := List.all_eq_true.1 h j (List.mem_range.2 hlt)
  rw [h2] at h5
  simp only [h3, decide_true, Bool.not_true, Bool.or_false, decide_eq_true_eq] at h5
  subst h5
  rw [hu] at h1
  cases h1
theorem RC2.s0 (X : RC2) (ok : RC2Ok X) {Q : Exit → Act → World → Prop} : StepG (opsOf 2 Tryz.f32) RC2.acts RC2.av X.val0 X.Wd X.a0 Q 0 := by
  intro γ listed a w o hF hC hW h1 ho h2
  obtain ⟨hd, hop, hg⟩ := fields2 (x := some 30) (y := Op.move (.tmp 0)) (z := none) (by kernel_rfl) ho
  have e0 : a.eval (.tmp 0) = .pointer (some ⟨X.bx, 0, none⟩) := (hF.eval0 (by kernel_rfl)).trans ok.e0
  refine st_pureG hF hC hW ho h2 (by decide) hd hg rfl ?_
  show _ = Result.ok (Next.value (.pointer (some ⟨X.bx, 0, none⟩))) w
  generalize a.eval = ρ at e0 ⊢
  unfold execOp
  rw [hop]
  simp [e0, go_sem]
theorem RC2.s1 (X : RC2) (ok : RC2Ok X) {Q : Exit → Act → World → Prop} : StepG (opsOf 2 Tryz.f32) RC2.acts RC2.av X.val0 X.Wd X.a0 Q 1 := by
  intro γ listed a w o hF hC hW h1 ho h2
  obtain ⟨hd, hop, hg⟩ := fields2 (x := some 31) (y := Op.nilCheck (.tmp 30)) (z := none) (by kernel_rfl) ho
  have e30 : a.eval (.tmp 30) = .pointer (some ⟨X.bx, 0, none⟩) := slotG hF ho h2 (j := 0) (d := 30) (by kernel_rfl) (by kernel_rfl) (by rw [ok.sz]; decide)
  refine st_pureG hF hC hW ho h2 (by decide) hd hg rfl ?_
  show _ = Result.ok (Next.value (.pointer (some ⟨X.bx, 0, none⟩))) w
  generalize a.eval = ρ at e30 ⊢
  unfold execOp
  rw [hop]
  simp [e30, go_sem]
theorem RC2.s2 (X : RC2) (ok : RC2Ok X) {Q : Exit → Act → World → Prop} : StepG (opsOf 2 Tryz.f32) RC2.acts RC2.av X.val0 X.Wd X.a0 Q 2 := by
  intro γ listed a w o hF hC hW h1 ho h2
  obtain ⟨hd, hop, hg⟩ := fields2 (x := some 32) (y := Op.fieldAddr 67 (.tmp 31) 4) (z := none) (by kernel_rfl) ho
  have e31 : a.eval (.tmp 31) = .pointer (some ⟨X.bx, 0, none⟩) := slotG hF ho h2 (j := 1) (d := 31) (by kernel_rfl) (by kernel_rfl) (by rw [ok.sz]; decide)
  refine st_pureG hF hC hW ho h2 (by decide) hd hg rfl ?_
  show _ = Result.ok (Next.value (.pointer (some ⟨X.bx, 4, none⟩))) w
  generalize a.eval = ρ at e31 ⊢
  unfold execOp
  rw [hop]
  simp [e31, go_sem]
theorem RC2.s3 (X : RC2) (ok : RC2Ok X) {Q : Exit → Act → World → Prop} : StepG (opsOf 2 Tryz.f32) RC2.acts RC2.av X.val0 X.Wd X.a0 Q 3 := by
  intro γ listed a w o hF hC hW h1 ho h2
  obtain ⟨hd, hop, hg⟩ := fields2 (x := some 33) (y := Op.load 34 (.tmp 3)) (z := none) (by kernel_rfl) ho
  have e3 : a.eval (.tmp 3) = .pointer (some ⟨X.bq, 0, none⟩) := (hF.eval0 (by kernel_rfl)).trans ok.e3
  have hph := phase_leG (acts := RC2.acts) (m := 0) (x := 4) hC (unl (hF.lt ho) h1) rfl [3] (by kernel_rfl) (by decide)
  have hWW := hW
  generalize phase listed RC2.acts = n at hph hWW
  obtain rfl : n = 0 := by omega
  have hk : w = X.W := hWW
  have hc0 := ok.q0
  have hc1 := ok.q1
  rw [← hk] at hc0 hc1
  refine st_pureG hF hC hW ho h2 (by decide) hd hg rfl ?_
  show _ = Result.ok (Next.value (.agg #[.int .i64 X.x, .int .i64 X.y])) w
  generalize a.eval = ρ at e3 ⊢
  unfold execOp
  rw [hop]
  simp [e3, hc0, hc1, go_sem]
theorem RC2.s4 (X : RC2) (ok : RC2Ok X) {Q : Exit → Act → World → Prop} : StepG (opsOf 2 Tryz.f32) RC2.acts RC2.av X.val0 X.Wd X.a0 Q 4 := by
  intro γ listed a w o hF hC hW h1 ho h2
  obtain ⟨hd, hop, hg⟩ := fields2 (x := some 34) (y := Op.buildSlice 23 1 #[(0, (.tmp 33))]) (z := none) (by kernel_rfl) ho
  have e33 : a.eval (.tmp 33) = .agg #[.int .i64 X.x, .int .i64 X.y] := slotG hF ho h2 (j := 3) (d := 33) (by kernel_rfl) (by kernel_rfl) (by rw [ok.sz]; decide)
  have hu := unl (hF.lt ho) h1
  refine st_actG (k := 0) RC2.chain RC2.nodup rfl hF hC hW h1 ho h2 (Or.inr ⟨34, hd, rfl⟩) (RC2.inj (by kernel_rfl) hu) hg ?_
  intro hW0 K hK
  have hw0 : w = X.W := hW0
  have hr : (execOp a.eval o).run Tryz.prog w = .ok (.value (.slice (some ⟨w.heap.size, 0, none⟩) 1 1)) (w.alloc (.cells #[.int .i64 X.x, .int .i64 X.y] 34)) := by
    generalize a.eval = ρ at e33 ⊢
    unfold execOp
    rw [hop]
    simp [e33, go_sem]
  unfold Oper.wp
  rw [hr, hw0]
  exact hK _ _ ⟨rfl, rfl⟩
theorem RC2.s5 (X : RC2) (ok : RC2Ok X) {Q : Exit → Act → World → Prop} : StepG (opsOf 2 Tryz.f32) RC2.acts RC2.av X.val0 X.Wd X.a0 Q 5 := by
  intro γ listed a w o hF hC hW h1 ho h2
  obtain ⟨hd, hop, hg⟩ := fields2 (x := some 35) (y := Op.call { callee := .value (.func 61), args := #[(.tmp 32), (.tmp 34)], argTypes := #[64, 23] }) (z := none) (by kernel_rfl) ho
  have e32 : a.eval (.tmp 32) = .pointer (some ⟨X.bx, 4, none⟩) := slotG hF ho h2 (j := 2) (d := 32) (by kernel_rfl) (by kernel_rfl) (by rw [ok.sz]; decide)
  have e34 : a.eval (.tmp 34) = γ 0 := slotG hF ho h2 (j := 4) (d := 34) (by kernel_rfl) (by kernel_rfl) (by rw [ok.sz]; decide)
  have ef : a.eval (.func 61) = .func (.func 61) #[] #[] := rfl
  have hu := unl (hF.lt ho) h1
  refine st_actG (k := 1) RC2.chain RC2.nodup rfl hF hC hW h1 ho h2 (Or.inr ⟨35, hd, rfl⟩) (RC2.inj (by kernel_rfl) hu) hg ?_
  intro hW0 K hK
  obtain ⟨g0, hw1⟩ := hW0
  rw [g0] at e34
  have hr : (execOp a.eval o).run Tryz.prog w = .ok (.enter 61 #[.pointer (some ⟨X.bx, 4, none⟩), .slice (some ⟨X.W.heap.size, 0, none⟩) 1 1]) w := by
    generalize a.eval = ρ at e32 e34 ef ⊢
    unfold execOp
    rw [hop]
    simp [e32, e34, ef, go_sem]
  unfold Oper.wp
  rw [hr]
  refine Calls.mono (by rw [hw1]; exact ok.ha) ?_
  rintro e w' ⟨rfl, h⟩
  exact hK _ _ h
theorem RC2.size : (opsOf 2 Tryz.f32).size = 6 := by kernel_rfl
theorem RC2.steps (X : RC2) (ok : RC2Ok X) {Q : Exit → Act → World → Prop} (i : Nat) (hi : i < (opsOf 2 Tryz.f32).size) : StepG (opsOf 2 Tryz.f32) RC2.acts RC2.av X.val0 X.Wd X.a0 Q i := by
  rw [RC2.size] at hi
  have hc : i = 0 ∨ i = 1 ∨ i = 2 ∨ i = 3 ∨ i = 4 ∨ i = 5 := by omega
  rcases hc with rfl | rfl | rfl | rfl | rfl | rfl
  · exact RC2.s0 X ok
  · exact RC2.s1 X ok
  · exact RC2.s2 X ok
  · exact RC2.s3 X ok
  · exact RC2.s4 X ok
  · exact RC2.s5 X ok
theorem RC2.puts (X : RC2) (γ : Nat → Value) (a0 : Act) : putsL (valG RC2.av X.val0 γ) (opsOf 2 Tryz.f32).toList a0 = ((((((a0.put (some 30) (.pointer (some ⟨X.bx, 0, none⟩))).put (some 31) (.pointer (some ⟨X.bx, 0, none⟩))).put (some 32) (.pointer (some ⟨X.bx, 4, none⟩))).put (some 33) (.agg #[.int .i64 X.x, .int .i64 X.y])).put (some 34) (γ 0)).put (some 35) (γ 1)) := by kernel_rfl
/-- The region, whatever order comes up. -/
theorem RC2.run (X : RC2) (ok : RC2Ok X) {Q : Exit → Act → World → Prop} (w : World) (h0 : X.Wd 0 (fun _ => undef) w.drew) (hend : ∀ (γ : Nat → Value) w', X.Wd 2 γ w' → Q .normal ((((((X.a0.put (some 30) (.pointer (some ⟨X.bx, 0, none⟩))).put (some 31) (.pointer (some ⟨X.bx, 0, none⟩))).put (some 32) (.pointer (some ⟨X.bx, 4, none⟩))).put (some 33) (.agg #[.int .i64 X.x, .int .i64 X.y])).put (some 34) (γ 0)).put (some 35) (γ 1)) w') : (Code.region 2 (opsOf 2 Tryz.f32) true).wp Tryz.prog Q X.a0 w := by
  refine reg_act (acts := RC2.acts) (av := RC2.av) (val0 := X.val0) (Wd := X.Wd) (by kernel_rfl) (by kernel_rfl) (by rw [RC2.size]; decide) (fun i hi => RC2.steps X ok i hi) _ h0 ?_
  intro γ w' h
  rw [RC2.puts]
  exact hend γ w' h
structure LYR where
  bx : Nat
  ua : Option Addr
  un : Nat
  uc : Nat
  P : World → Prop
  W : World
  a0 : Act
structure LYROk (X : LYR) : Prop where
  c4 : X.W.cell? ⟨X.bx, 4, none⟩ = some (.slice X.ua X.un X.uc)
  ha : Calls Tryz.prog 44 #[.pointer (some ⟨X.bx, 5, none⟩), .slice (some ⟨X.W.heap.size, 0, none⟩) 1 1] (X.W.alloc (.cells #[.slice X.ua X.un X.uc, .bool false] 25)) fun e w' => e = .returned (.tuple #[]) ∧ X.P w'
  e0 : X.a0.eval (.tmp 0) = .pointer (some ⟨X.bx, 0, none⟩)
  sz : X.a0.tmps.size = 21
def LYR.val0 (X : LYR) : Nat → Value
  | 8 => .pointer (some ⟨X.bx, 0, none⟩)
  | 9 => .pointer (some ⟨X.bx, 0, none⟩)
  | 10 => .pointer (some ⟨X.bx, 5, none⟩)
  | 11 => .pointer (some ⟨X.bx, 0, none⟩)
  | 12 => .pointer (some ⟨X.bx, 0, none⟩)
  | 13 => .pointer (some ⟨X.bx, 4, none⟩)
  | 14 => .slice X.ua X.un X.uc
  | 15 => .agg #[.slice X.ua X.un X.uc, .bool false]
  | _ => undef
def LYR.av : Nat → Option Nat
  | 16 => some 0
  | 17 => some 1
  | _ => none
def LYR.acts : List Nat := [8, 9]
/-- The world, by how many of the acting ones have come up. -/
def LYR.Wd (X : LYR) : Nat → (Nat → Value) → World → Prop
  | 0, _, w => w = X.W
  | 1, γ, w => γ 0 = .slice (some ⟨X.W.heap.size, 0, none⟩) 1 1 ∧ w = X.W.alloc (.cells #[.slice X.ua X.un X.uc, .bool false] 25)
  | _, _, w => X.P w
theorem LYR.chain : chainG (opsOf 1 Tryz.f34) LYR.acts = true := by kernel_rfl
theorem LYR.nodup : LYR.acts.Nodup := by decide
theorem LYR.inj {listed : Array Bool} {i k : Nat} (h : (List.range (opsOf 1 Tryz.f34).size).all (fun j => decide (j = i) || !(match dstOf (opsOf 1 Tryz.f34) j with | some d => decide (LYR.av d = some k) | none => false)) = true) (hu : listed.getD i false = false) : ∀ d, got (opsOf 1 Tryz.f34) listed d → LYR.av d ≠ some k := by
  rintro d ⟨j, h1, h2⟩ h3
  have hlt : j < (opsOf 1 Tryz.f34).size := by
    rcases Nat.lt_or_ge j (opsOf 1 Tryz.f34).size with h4 | h4
    · exact h4
    · unfold dstOf at h2; rw [Array.getElem?_eq_none h4] at h2; cases h2
  have h5 := List.all_eq_true.1 h j (List.mem_range.2 hlt)
  rw [h2] at h5
  simp only [h3, decide_true, Bool.not_true, Bool.or_false, decide_eq_true_eq] at h5
  subst h5
  rw [hu] at h1
  cases h1
theorem LYR.s0 (X : LYR) (ok : LYROk X) {Q : Exit → Act → World → Prop} : StepG (opsOf 1 Tryz.f34) LYR.acts LYR.av X.val0 X.Wd X.a0 Q 0 := by
  intro γ listed a w o hF hC hW h1 ho h2
  obtain ⟨hd, hop, hg⟩ := fields2 (x := some 8) (y := Op.move (.tmp 0)) (z := none) (by kernel_rfl) ho
  have e0 : a.eval (.tmp 0) = .pointer (some ⟨X.bx, 0, none⟩) := (hF.eval0 (by kernel_rfl)).trans ok.e0
  refine st_pureG hF hC hW ho h2 (by decide) hd hg rfl ?_
  show _ = Result.ok (Next.value (.pointer (some ⟨X.bx, 0, none⟩))) w
  generalize a.eval = ρ at e0 ⊢
  unfold execOp
  rw [hop]
  simp [e0, go_sem]
theorem LYR.s1 (X : LYR) (ok : LYROk X) {Q : Exit → Act → World → Prop} : StepG (opsOf 1 Tryz.f34) LYR.acts LYR.av X.val0 X.Wd X.a0 Q 1 := by
  intro γ listed a w o hF hC hW h1 ho h2
  obtain ⟨hd, hop, hg⟩ := fields2 (x := some 9) (y := Op.nilCheck (.tmp 8)) (z := none) (by kernel_rfl) ho
  have e8 : a.eval (.tmp 8) = .pointer (some ⟨X.bx, 0, none⟩) := slotG hF ho h2 (j := 0) (d := 8) (by kernel_rfl) (by kernel_rfl) (by rw [ok.sz]; decide)
  refine st_pureG hF hC hW ho h2 (by decide) hd hg rfl ?_
  show _ = Result.ok (Next.value (.pointer (some ⟨X.bx, 0, none⟩))) w
  generalize a.eval = ρ at e8 ⊢
  unfold execOp
  rw [hop]
  simp [e8, go_sem]
theorem LYR.s2 (X : LYR) (ok : LYROk X) {Q : Exit → Act → World → Prop} : StepG (opsOf 1 Tryz.f34) LYR.acts LYR.av X.val0 X.Wd X.a0 Q 2 := by
  intro γ listed a w o hF hC hW h1 ho h2
  obtain ⟨hd, hop, hg⟩ := fields2 (x := some 10) (y := Op.fieldAddr 67 (.tmp 9) 5) (z := none) (by kernel_rfl) ho
  have e9 : a.eval (.tmp 9) = .pointer (some ⟨X.bx, 0, none⟩) := slotG hF ho h2 (j := 1) (d := 9) (by kernel_rfl) (by kernel_rfl) (by rw [ok.sz]; decide)
  refine st_pureG hF hC hW ho h2 (by decide) hd hg rfl ?_
  show _ = Result.ok (Next.value (.pointer (some ⟨X.bx, 5, none⟩))) w
  generalize a.eval = ρ at e9 ⊢
  unfold execOp
  rw [hop]
  simp [e9, go_sem]
theorem LYR.s3 (X : LYR) (ok : LYROk X) {Q : Exit → Act → World → Prop} : StepG (opsOf 1 Tryz.f34) LYR.acts LYR.av X.val0 X.Wd X.a0 Q 3 := by
  intro γ listed a w o hF hC hW h1 ho h2
  obtain ⟨hd, hop, hg⟩ := fields2 (x := some 11) (y := Op.move (.tmp 0)) (z := none) (by kernel_rfl) ho
  have e0 : a.eval (.tmp 0) = .pointer (some ⟨X.bx, 0, none⟩) := (hF.eval0 (by kernel_rfl)).trans ok.e0
  refine st_pureG hF hC hW ho h2 (by decide) hd hg rfl ?_
  show _ = Result.ok (Next.value (.pointer (some ⟨X.bx, 0, none⟩))) w
  generalize a.eval = ρ at e0 ⊢
  unfold execOp
  rw [hop]
  simp [e0, go_sem]
theorem LYR.s4 (X : LYR) (ok : LYROk X) {Q : Exit → Act → World → Prop} : StepG (opsOf 1 Tryz.f34) LYR.acts LYR.av X.val0 X.Wd X.a0 Q 4 := by
  intro γ listed a w o hF hC hW h1 ho h2
  obtain ⟨hd, hop, hg⟩ := fields2 (x := some 12) (y := Op.nilCheck (.tmp 11)) (z := none) (by kernel_rfl) ho
  have e11 : a.eval (.tmp 11) = .pointer (some ⟨X.bx, 0, none⟩) := slotG hF ho h2 (j := 3) (d := 11) (by kernel_rfl) (by kernel_rfl) (by rw [ok.sz]; decide)
  refine st_pureG hF hC hW ho h2 (by decide) hd hg rfl ?_
  show _ = Result.ok (Next.value (.pointer (some ⟨X.bx, 0, none⟩))) w
  generalize a.eval = ρ at e11 ⊢
  unfold execOp
  rw [hop]
  simp [e11, go_sem]
theorem LYR.s5 (X : LYR) (ok : LYROk X) {Q : Exit → Act → World → Prop} : StepG (opsOf 1 Tryz.f34) LYR.acts LYR.av X.val0 X.Wd X.a0 Q 5 := by
  intro γ listed a w o hF hC hW h1 ho h2
  obtain ⟨hd, hop, hg⟩ := fields2 (x := some 13) (y := Op.fieldAddr 67 (.tmp 12) 4) (z := none) (by kernel_rfl) ho
  have e12 : a.eval (.tmp 12) = .pointer (some ⟨X.bx, 0, none⟩) := slotG hF ho h2 (j := 4) (d := 12) (by kernel_rfl) (by kernel_rfl) (by rw [ok.sz]; decide)
  refine st_pureG hF hC hW ho h2 (by decide) hd hg rfl ?_
  show _ = Result.ok (Next.value (.pointer (some ⟨X.bx, 4, none⟩))) w
  generalize a.eval = ρ at e12 ⊢
  unfold execOp
  rw [hop]
  simp [e12, go_sem]
theorem LYR.s6 (X : LYR) (ok : LYROk X) {Q : Exit → Act → World → Prop} : StepG (opsOf 1 Tryz.f34) LYR.acts LYR.av X.val0 X.Wd X.a0 Q 6 := by
  intro γ listed a w o hF hC hW h1 ho h2
  obtain ⟨hd, hop, hg⟩ := fields2 (x := some 14) (y := Op.load 64 (.tmp 13)) (z := none) (by kernel_rfl) ho
  have e13 : a.eval (.tmp 13) = .pointer (some ⟨X.bx, 4, none⟩) := slotG hF ho h2 (j := 5) (d := 13) (by kernel_rfl) (by kernel_rfl) (by rw [ok.sz]; decide)
  have hph := phase_leG (acts := LYR.acts) (m := 0) (x := 8) hC (unl (hF.lt ho) h1) rfl [7, 6] (by kernel_rfl) (by decide)
  have hWW := hW
  generalize phase listed LYR.acts = n at hph hWW
  obtain rfl : n = 0 := by omega
  have hk : w = X.W := hWW
  have hc0 := ok.c4
  rw [← hk] at hc0
  refine st_pureG hF hC hW ho h2 (by decide) hd hg rfl ?_
  show _ = Result.ok (Next.value (.slice X.ua X.un X.uc)) w
  generalize a.eval = ρ at e13 ⊢
  unfold execOp
  rw [hop]
  simp [e13, hc0, go_sem]
theorem LYR.s7 (X : LYR) (ok : LYROk X) {Q : Exit → Act → World → Prop} : StepG (opsOf 1 Tryz.f34) LYR.acts LYR.av X.val0 X.Wd X.a0 Q 7 := by
  intro γ listed a w o hF hC hW h1 ho h2
  obtain ⟨hd, hop, hg⟩ := fields2 (x := some 15) (y := Op.build 25 #[(0, (.tmp 14))]) (z := none) (by kernel_rfl) ho
  have e14 : a.eval (.tmp 14) = .slice X.ua X.un X.uc := slotG hF ho h2 (j := 6) (d := 14) (by kernel_rfl) (by kernel_rfl) (by rw [ok.sz]; decide)
  refine st_pureG hF hC hW ho h2 (by decide) hd hg rfl ?_
  show _ = Result.ok (Next.value (.agg #[.slice X.ua X.un X.uc, .bool false])) w
  generalize a.eval = ρ at e14 ⊢
  unfold execOp
  rw [hop]
  simp [e14, go_sem]
theorem LYR.s8 (X : LYR) (ok : LYROk X) {Q : Exit → Act → World → Prop} : StepG (opsOf 1 Tryz.f34) LYR.acts LYR.av X.val0 X.Wd X.a0 Q 8 := by
  intro γ listed a w o hF hC hW h1 ho h2
  obtain ⟨hd, hop, hg⟩ := fields2 (x := some 16) (y := Op.buildSlice 29 1 #[(0, (.tmp 15))]) (z := none) (by kernel_rfl) ho
  have e15 : a.eval (.tmp 15) = .agg #[.slice X.ua X.un X.uc, .bool false] := slotG hF ho h2 (j := 7) (d := 15) (by kernel_rfl) (by kernel_rfl) (by rw [ok.sz]; decide)
  have hu := unl (hF.lt ho) h1
  refine st_actG (k := 0) LYR.chain LYR.nodup rfl hF hC hW h1 ho h2 (Or.inr ⟨16, hd, rfl⟩) (LYR.inj (by kernel_rfl) hu) hg ?_
  intro hW0 K hK
  have hw0 : w = X.W := hW0
  have hr : (execOp a.eval o).run Tryz.prog w = .ok (.value (.slice (some ⟨w.heap.size, 0, none⟩) 1 1)) (w.alloc (.cells #[.slice X.ua X.un X.uc, .bool false] 25)) := by
    generalize a.eval = ρ at e15 ⊢
    unfold execOp
    rw [hop]
    simp [e15, go_sem]
  unfold Oper.wp
  rw [hr, hw0]
  exact hK _ _ ⟨rfl, rfl⟩
theorem LYR.s9 (X : LYR) (ok : LYROk X) {Q : Exit → Act → World → Prop} : StepG (opsOf 1 Tryz.f34) LYR.acts LYR.av X.val0 X.Wd X.a0 Q 9 := by
  intro γ listed a w o hF hC hW h1 ho h2
  obtain ⟨hd, hop, hg⟩ := fields2 (x := some 17) (y := Op.call { callee := .value (.func 44), args := #[(.tmp 10), (.tmp 16)], argTypes := #[65, 29] }) (z := none) (by kernel_rfl) ho
  have e10 : a.eval (.tmp 10) = .pointer (some ⟨X.bx, 5, none⟩) := slotG hF ho h2 (j := 2) (d := 10) (by kernel_rfl) (by kernel_rfl) (by rw [ok.sz]; decide)
  have e16 : a.eval (.tmp 16) = γ 0 := slotG hF ho h2 (j := 8) (d := 16) (by kernel_rfl) (by kernel_rfl) (by rw [ok.sz]; decide)
  have ef : a.eval (.func 44) = .func (.func 44) #[] #[] := rfl
  have hu := unl (hF.lt ho) h1
  refine st_actG (k := 1) LYR.chain LYR.nodup rfl hF hC hW h1 ho h2 (Or.inr ⟨17, hd, rfl⟩) (LYR.inj (by kernel_rfl) hu) hg ?_
  intro hW0 K hK
  obtain ⟨g0, hw1⟩ := hW0
  rw [g0] at e16
  have hr : (execOp a.eval o).run Tryz.prog w = .ok (.enter 44 #[.pointer (some ⟨X.bx, 5, none⟩), .slice (some ⟨X.W.heap.size, 0, none⟩) 1 1]) w := by
    generalize a.eval = ρ at e10 e16 ef ⊢
    unfold execOp
    rw [hop]
    simp [e10, e16, ef, go_sem]
  unfold Oper.wp
  rw [hr]
  refine Calls.mono (by rw [hw1]; exact ok.ha) ?_
  rintro e w' ⟨rfl, h⟩
  exact hK _ _ h
theorem LYR.size : (opsOf 1 Tryz.f34).size = 10 := by kernel_rfl
theorem LYR.steps (X : LYR) (ok : LYROk X) {Q : Exit → Act → World → Prop} (i : Nat) (hi : i < (opsOf 1 Tryz.f34).size) : StepG (opsOf 1 Tryz.f34) LYR.acts LYR.av X.val0 X.Wd X.a0 Q i := by
  rw [LYR.size] at hi
  have hc : i = 0 ∨ i = 1 ∨ i = 2 ∨ i = 3 ∨ i = 4 ∨ i = 5 ∨ i = 6 ∨ i = 7 ∨ i = 8 ∨ i = 9 := by omega
  rcases hc with rfl | rfl | rfl | rfl | rfl | rfl | rfl | rfl | rfl | rfl
  · exact LYR.s0 X ok
  · exact LYR.s1 X ok
  · exact LYR.s2 X ok
  · exact LYR.s3 X ok
  · exact LYR.s4 X ok
  · exact LYR.s5 X ok
  · exact LYR.s6 X ok
  · exact LYR.s7 X ok
  · exact LYR.s8 X ok
  · exact LYR.s9 X ok
theorem LYR.puts (X : LYR) (γ : Nat → Value) (a0 : Act) : putsL (valG LYR.av X.val0 γ) (opsOf 1 Tryz.f34).toList a0 = ((((((((((a0.put (some 8) (.pointer (some ⟨X.bx, 0, none⟩))).put (some 9) (.pointer (some ⟨X.bx, 0, none⟩))).put (some 10) (.pointer (some ⟨X.bx, 5, none⟩))).put (some 11) (.pointer (some ⟨X.bx, 0, none⟩))).put (some 12) (.pointer (some ⟨X.bx, 0, none⟩))).put (some 13) (.pointer (some ⟨X.bx, 4, none⟩))).put (some 14) (.slice X.ua X.un X.uc)).put (some 15) (.agg #[.slice X.ua X.un X.uc, .bool false])).put (some 16) (γ 0)).put (some 17) (γ 1)) := by kernel_rfl
/-- The region, whatever order comes up. -/
theorem LYR.run (X : LYR) (ok : LYROk X) {Q : Exit → Act → World → Prop} (w : World) (h0 : X.Wd 0 (fun _ => undef) w.drew) (hend : ∀ (γ : Nat → Value) w', X.Wd 2 γ w' → Q .normal ((((((((((X.a0.put (some 8) (.pointer (some ⟨X.bx, 0, none⟩))).put (some 9) (.pointer (some ⟨X.bx, 0, none⟩))).put (some 10) (.pointer (some ⟨X.bx, 5, none⟩))).put (some 11) (.pointer (some ⟨X.bx, 0, none⟩))).put (some 12) (.pointer (some ⟨X.bx, 0, none⟩))).put (some 13) (.pointer (some ⟨X.bx, 4, none⟩))).put (some 14) (.slice X.ua X.un X.uc)).put (some 15) (.agg #[.slice X.ua X.un X.uc, .bool false])).put (some 16) (γ 0)).put (some 17) (γ 1)) w') : (Code.region 1 (opsOf 1 Tryz.f34) true).wp Tryz.prog Q X.a0 w := by
  refine reg_act (acts := LYR.acts) (av := LYR.av) (val0 := X.val0) (Wd := X.Wd) (by kernel_rfl) (by kernel_rfl) (by rw [LYR.size]; decide) (fun i hi => LYR.steps X ok i hi) _ h0 ?_
  intro γ w' h
  rw [LYR.puts]
  exact hend γ w' h
end Go.Proofs.YtfdjjbgcaojcnaaGreat
namespace Go.Proofs.YtfdjjbgcaojcnaaGreat
open Go.ChangeShapes Go.WideShapes Go.ChangeAt Go.RowKit
set_option linter.unusedVariables false

/-- A line is ended: it counts where it has more than one point. -/
def endL (o : List LD) (p : List Pnt) (c : Bool) : List LD := if 1 < p.length then o ++ [⟨p, c⟩] else o
def lastP (p : List Pnt) : Pnt := ptAt p (p.length - 1)
theorem manyL_app (a b : List LD) : manyL (a ++ b) = manyL a + manyL b := by simp [manyL]
theorem endL_many (o : List LD) (p : List Pnt) (c : Bool) : manyL (endL o p c) ≤ manyL o + p.length := by
  unfold endL
  split
  · rw [manyL_app]; simp [manyL]
  · omega
theorem endL_len (o : List LD) (p : List Pnt) (c : Bool) : (endL o p c).length ≤ o.length + 1 := by
  unfold endL
  split <;> simp
end Go.Proofs.YtfdjjbgcaojcnaaGreat
namespace Go.Proofs.YtfdjjbgcaojcnaaGreat
open Go.ChangeShapes Go.WideShapes Go.ChangeAt Go.RowKit
set_option linter.unusedVariables false

theorem ins_parts : ∃ i, Tryz.prog.info? 3 = some i ∧ i.zero = some (.int .i64 0) ∧ i.size = 1 ∧ i.bytes = 8 := by
  have h : (Tryz.prog.info? 3).map (fun i => (i.zero, i.size, i.bytes)) = some (some (.int .i64 0), 1, 8) := by kernel_rfl
  obtain ⟨i, hi, hzz⟩ := Option.map_eq_some_iff.1 h
  simp only [Prod.mk.injEq] at hzz
  exact ⟨i, hi, hzz⟩
/-- The numbers l in a list of the call's own, nil or in a block from B on. -/
def Ins (w : World) (B : Nat) (v : Value) (l : List Int) : Prop := w.ownsRow B 3 1 v l.length (l.map (Value.int .i64))
theorem Ins.nil (w : World) (B : Nat) : Ins w B (.slice none 0 0) [] := World.ownsRow_nil w B _ 1
theorem Ins.nw {w w' : World} {B : Nat} {v : Value} {l : List Int} (h : Ins w B v l) (k : Nw w w') : Ins w' B v l :=
  World.ownsRow.kept h (row := none) ⟨Below.os k, Below.tape k, Below.output k, Below.size k, fun b hb _ => Below.block k b hb⟩ (by cases hv : v.ownBlock <;> simp)
theorem Ins.below {w w' : World} {B : Nat} {v v' : Value} {l : List Int} (h : Ins w B v l) (k : Ext v v' w w') (hB : B ≤ w.heap.size) : Below B w w' :=
  k.below (fun g e => (World.ownsRow.lt h g e).1) hB
def intAt (l : List Int) (i : Nat) : Int := l.getD i 0
/-- The numbers l lie in the block g. -/
def LayI (w : World) (g : Nat) (l : List Int) : Prop :=
  g < w.heap.size ∧ (∀ i, i < l.length → w.cell? ⟨g, i, none⟩ = some (.int .i64 (intAt l i))) ∧ ∀ o, w.frozen? ⟨g, o, none⟩ = false
theorem LayI.nw {w w' : World} {g : Nat} {l : List Int} (h : LayI w g l) (k : Nw w w') : LayI w' g l :=
  ⟨Nat.lt_of_lt_of_le h.1 (Below.size k), fun i hi => ((bcell k).1 _ _ h.1).trans (h.2.1 i hi), fun o => ((bcell k).2 _ _ h.1).trans (h.2.2 o)⟩
/-- Where they lie. -/
theorem Ins.lay {w : World} {B : Nat} {v : Value} {l : List Int} (h : Ins w B v l) : (v = .slice none 0 0 ∧ l = []) ∨ ∃ g c, v = .slice (some ⟨g, 0, none⟩) l.length c ∧ B ≤ g ∧ LayI w g l := by
  rcases h.2 with ⟨hn, h0⟩ | ⟨g, cap, cur, h1, h2, h3⟩
  · exact Or.inl ⟨hn, List.eq_nil_of_length_eq_zero h0⟩
  · refine Or.inr ⟨g, cap, h1, h2, ?_⟩
    subst h1
    refine ⟨(World.ownsRow.lt h g rfl).2, fun i hi => ?_, fun o => World.ownsRow.frozenAt h o⟩
    have := World.ownsRow.cellAt h i (by omega)
    rw [this]
    simp [intAt, hi]
/-- Nil, or a block of its own. -/
def Lay0 (w : World) (B : Nat) (v : Value) (l : List Int) : Prop := (v = .slice none 0 0 ∧ l = []) ∨ ∃ g c, v = .slice (some ⟨g, 0, none⟩) l.length c ∧ B ≤ g ∧ LayI w g l
/-- A number is appended. -/
theorem wp_in (w : World) {ops : Array Oper} {rest : List Oper} {o : Oper} {a : Act} {Q : Exit → Act → World → Prop} (hgd : o.guard = none) (s x : Operand)
    (ho : o.op = .call { callee := .builtin .append, args := #[s, x], argTypes := #[26, 26] })
    (B : Nat) (v : Value) (l : List Int) (t : Int) (hs : a.eval s = v) (hown : Ins w B v l) (g : Nat) (hx : a.eval x = .slice (some ⟨g, 0, none⟩) 1 1) (hc : w.cell? ⟨g, 0, none⟩ = some (.int .i64 t))
    (h63 : l.length ≤ 10000000) (hB : B ≤ w.heap.size)
    (h : ∀ v' w', Ins w' B v' (l ++ [t]) → Ext v v' w w' → wpList Tryz.prog ops Q rest (a.put o.dst v') w') : wpList Tryz.prog ops Q (o :: rest) a w := by
  obtain ⟨i0, hi, hz0, hz1, hz2⟩ := ins_parts
  refine wpList_append_own_at w hgd s x 26 ho B 3 i0 (.int .i64 0) 1 8 Tryz.underlying26 hi hz0 hz1 hz2 rfl (by decide) v l.length (l.map (Value.int .i64)) hs hown ⟨g, 0, none⟩ 1 1 [.int .i64 t] hx rfl (fun j u hj => ?_) (fun u hu => ?_) (by unfold maxLen; omega) (by omega) hB ?_
  · cases j with
    | zero => simp at hj; subst hj; simpa [Addr.add] using hc
    | succ j => simp at hj
  · simp at hu; subst hu; rfl
  · intro v' w' h1 h2 _ h4
    refine h v' w' ?_ ⟨h2, h4.imp id fun e => ⟨_, e, Nat.le_refl _⟩⟩
    unfold Ins
    rw [List.length_append, List.map_append]
    exact h1
end Go.Proofs.YtfdjjbgcaojcnaaGreat
