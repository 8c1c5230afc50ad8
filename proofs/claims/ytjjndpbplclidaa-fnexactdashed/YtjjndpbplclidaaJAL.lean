/-
  A list of points copied, by the program: slices.Clone; each theorem names its conditions.
  The statements of the program's Dashed that draw their order, whatever order comes up; each theorem names its conditions.
  Good dashes, by the program: goodDash; each theorem names its conditions.
  Lines of an answer in memory; each theorem names its conditions.
-/
import Derived.Test.YtjjndpbplclidaaJAE
import Derived.Test.YtjjndpbplclidaaJAF
import Derived.Test.YtjjndpbplclidaaJAG
import Derived.Test.YtjjndpbplclidaaJAH
import Derived.Test.YtjjndpbplclidaaJAB
import Derived.Test.YtjjndpbplclidaaJAJ
namespace Go.Proofs.Ytjjndpbplclidaa
open Go.ChangeShapes Go.WideShapes Go.ChangeAt Go.RowKit
set_option linter.unusedVariables false

set_option maxRecDepth 100000 in
set_option maxHeartbeats 2000000 in
theorem iclone (w : World) (g off c : Nat) (p : List Pnt) (h0 : 0 < p.length) (h1 : p.length ≤ 100000) (hr : LieP w g off p) :
    Calls Try.prog 33 #[.slice (some ⟨g, off, none⟩) p.length c] w fun e w' => ∃ u, e = .returned u ∧ OwnP w' w.heap.size u p ∧ Nw w w' := by
  have n1 : Nw w (w.alloc (.cells #[] 54)) := (Below.refl _ _).alloc (Nat.le_refl _) _
  have HO : Hid (OwnQ 54 (w.alloc (.cells #[] 54)) w.heap.size (.slice (some ⟨w.heap.size, 0, none⟩) 0 0) []) := World.ownsRow_lit w #[] 0 (Nat.le_refl _) (by unfold maxLen; omega) (by simp)
  have HI : Hid _ := (LieP.nw hr n1).vv
  have HN : Hid (0 < p.length ∧ p.length ≤ 100000) := ⟨h0, h1⟩
  have NW : Hid (Nw w (w.alloc (.cells #[] 54))) := n1
  clear hr n1
  obtain ⟨n, hn⟩ : ∃ n, p.length = n := ⟨_, rfl⟩
  have HL : Hid (p.length = n) := hn
  rw [hn] at h0 h1 ⊢
  clear hn
  have hnil := fun (w : World) (a : Option Addr) (n c : Nat) => Lib.run_eql_slice_nil (P := Try.prog) w 30 54 a n c 0 0 under_pts
  go_enter Try.func33, Try.ntmps33
  go_wp2_with (at_builtin; (refine wpl_q 54 30 30 (.int .i64 0) (.int .i64 0) 16 under_pts under_pts Try.info54 (by decide) rfl (w.alloc (.cells #[] 54)) (.tmp 5) (.tmp 6) rfl w.heap.size (.slice (some ⟨w.heap.size, 0, none⟩) 0 0) [] (vP p) rfl HO.out g off n c (by rw [vP_len]; exact HL.out.symm) rfl HI.out (vP_one p) (by rw [vP_len]; exact HN.out.1) ?cl (by simp) rfl ?_))
  case cl => rw [vP_len]; have := HN.out; simp; omega
  intro g' c' w1 h2 h3
  have H2 : Hid (OwnP w1 w.heap.size (.slice (some ⟨g', 0, none⟩) n c') p) := by
    show OwnQ _ _ _ _ _
    simpa using h2
  have N2 : Hid (Nw w w1) := Below.trans NW.out (Ext.below h3 (fun g e => (OwnQ.lt HO.out g e).1) (by simp))
  clear h2 h3
  go_wp2
  go_ret
  exact ⟨_, rfl, by simpa [Nat.zero_add] using H2.out, N2.out⟩
end Go.Proofs.Ytjjndpbplclidaa
namespace Go.Proofs.Ytjjndpbplclidaa
open Go.ChangeShapes Go.WideShapes Go.ChangeAt Go.RowKit
set_option linter.unusedVariables false

structure DS4 where
  bl : Nat
  g : Nat
  off : Nat
  n : Nat
  pc : Nat
  cl : Bool
  P : World → Value → Prop
  W : World
  a0 : Act
structure DS4Ok (X : DS4) : Prop where
  c0 : X.W.cell? ⟨X.bl, 0, none⟩ = some (.slice (some ⟨X.g, X.off, none⟩) X.n X.pc)
  c1 : X.W.cell? ⟨X.bl, 1, none⟩ = some (.bool X.cl)
  hc : Calls Try.prog 33 #[.slice (some ⟨X.g, X.off, none⟩) X.n X.pc] X.W fun e w' => ∃ u, e = .returned u ∧ X.P w' u
  hn : ∀ w u, X.P w u → Nw X.W w
  hs : ∀ w u, X.P w u → ∃ a n c, u = .slice a n c
  e3 : X.a0.eval (.tmp 3) = .pointer (some ⟨X.bl, 0, none⟩)
  sz : X.a0.tmps.size = 85
def DS4.val0 (X : DS4) : Nat → Value
  | 7 => .bool true
  | 32 => .pointer (some ⟨X.bl, 0, none⟩)
  | 33 => .slice (some ⟨X.g, X.off, none⟩) X.n X.pc
  | 35 => .pointer (some ⟨X.bl, 1, none⟩)
  | 36 => .bool X.cl
  | _ => undef
def DS4.av : Nat → Option Nat
  | 34 => some 0
  | 37 => some 1
  | 38 => some 2
  | 6 => some 3
  | _ => none
def DS4.acts : List Nat := [2, 5, 6, 7]
/-- The world, by how many of the acting ones have come up. -/
def DS4.Wd (X : DS4) : Nat → (Nat → Value) → World → Prop
  | 0, _, w => w = X.W
  | 1, γ, w => X.P w (γ 0)
  | 2, γ, w => X.P w (γ 0) ∧ γ 1 = .agg #[γ 0, .bool X.cl]
  | 3, γ, w => ∃ w1, X.P w1 (γ 0) ∧ γ 2 = .slice (some ⟨w1.heap.size, 0, none⟩) 1 1 ∧ w = w1.alloc (.cells #[γ 0, .bool X.cl] 32)
  | _, γ, w => ∃ w1, X.P w1 (γ 0) ∧ γ 3 = .slice (some ⟨w1.heap.size, 0, none⟩) 1 1 ∧ w = w1.alloc (.cells #[γ 0, .bool X.cl] 32)
theorem DS4.chain : chainG (opsOf 4 Try.f9) DS4.acts = true := by kernel_rfl
theorem DS4.nodup : DS4.acts.Nodup := by decide
theorem DS4.inj {listed : Array Bool} {i k : Nat} (h : (List.range (opsOf 4 Try.f9).size).all (fun j => decide (j = i) || !(match dstOf (opsOf 4 Try.f9) j with | some d => decide (DS4.av d = some k) | none => false)) = true) (hu : listed.getD i false = false) : ∀ d, got (opsOf 4 Try.f9) listed d → DS4.av d ≠ some k := by
  rintro d ⟨j, h1, h2⟩ h3
  have hlt : j < (opsOf 4 Try.f9).size := by
    rcases Nat.lt_or_ge j (opsOf 4 Try.f9).size with h4 | h4
    · exact h4
    · unfold dstOf at h2; rw [Array.getElem?_eq_none h4] at h2; cases h2
  have h5 := List.all_eq_true.1 h j (List.mem_range.2 hlt)
  rw [h2] at h5
  simp only [h3, decide_true, Bool.not_true, Bool.or_false, decide_eq_true_eq] at h5
  subst h5
  rw [hu] at h1
  cases h1
theorem DS4.s0 (X : DS4) (ok : DS4Ok X) {Q : Exit → Act → World → Prop} : StepG (opsOf 4 Try.f9) DS4.acts DS4.av X.val0 X.Wd X.a0 Q 0 := by
  intro γ listed a w o hF hC hW h1 ho h2
  obtain ⟨hd, hop, hg⟩ := fields2 (x := some 32) (y := Op.fieldAddr 32 (.tmp 3) 0) (z := none) (by kernel_rfl) ho
  have e3 : a.eval (.tmp 3) = .pointer (some ⟨X.bl, 0, none⟩) := (hF.eval0 (by kernel_rfl)).trans ok.e3
  refine st_pureG hF hC hW ho h2 (by decide) hd hg rfl ?_
  show _ = Result.ok (Next.value (.pointer (some ⟨X.bl, 0, none⟩))) w
  generalize a.eval = ρ at e3 ⊢
  unfold execOp
  rw [hop]
  simp [e3, go_sem]
theorem DS4.s1 (X : DS4) (ok : DS4Ok X) {Q : Exit → Act → World → Prop} : StepG (opsOf 4 Try.f9) DS4.acts DS4.av X.val0 X.Wd X.a0 Q 1 := by
  intro γ listed a w o hF hC hW h1 ho h2
  obtain ⟨hd, hop, hg⟩ := fields2 (x := some 33) (y := Op.load 30 (.tmp 32)) (z := none) (by kernel_rfl) ho
  have e32 : a.eval (.tmp 32) = .pointer (some ⟨X.bl, 0, none⟩) := slotG hF ho h2 (j := 0) (d := 32) (by kernel_rfl) (by kernel_rfl) (by rw [ok.sz]; decide)
  have hph := phase_leG (acts := DS4.acts) (m := 0) (x := 2) hC (unl (hF.lt ho) h1) rfl [1] (by kernel_rfl) (by decide)
  have hWW := hW
  generalize phase listed DS4.acts = n at hph hWW
  obtain rfl : n = 0 := by omega
  have hk : w = X.W := hWW
  have hc0 := ok.c0
  rw [← hk] at hc0
  refine st_pureG hF hC hW ho h2 (by decide) hd hg rfl ?_
  show _ = Result.ok (Next.value (.slice (some ⟨X.g, X.off, none⟩) X.n X.pc)) w
  generalize a.eval = ρ at e32 ⊢
  unfold execOp
  rw [hop]
  simp [e32, hc0, go_sem]
theorem DS4.s2 (X : DS4) (ok : DS4Ok X) {Q : Exit → Act → World → Prop} : StepG (opsOf 4 Try.f9) DS4.acts DS4.av X.val0 X.Wd X.a0 Q 2 := by
  intro γ listed a w o hF hC hW h1 ho h2
  obtain ⟨hd, hop, hg⟩ := fields2 (x := some 34) (y := Op.call { callee := .value (.func 33), args := #[(.tmp 33)], argTypes := #[30] }) (z := none) (by kernel_rfl) ho
  have e33 : a.eval (.tmp 33) = .slice (some ⟨X.g, X.off, none⟩) X.n X.pc := slotG hF ho h2 (j := 1) (d := 33) (by kernel_rfl) (by kernel_rfl) (by rw [ok.sz]; decide)
  have ef : a.eval (.func 33) = .func (.func 33) #[] #[] := rfl
  have hu := unl (hF.lt ho) h1
  refine st_actG (k := 0) DS4.chain DS4.nodup rfl hF hC hW h1 ho h2 (Or.inr ⟨34, hd, rfl⟩) (DS4.inj (by kernel_rfl) hu) hg ?_
  intro hW0 K hK
  have hw0 : w = X.W := hW0
  have hr : (execOp a.eval o).run Try.prog w = .ok (.enter 33 #[.slice (some ⟨X.g, X.off, none⟩) X.n X.pc]) w := by
    generalize a.eval = ρ at e33 ef ⊢
    unfold execOp
    rw [hop]
    simp [e33, ef, go_sem]
  unfold Oper.wp
  rw [hr]
  refine Calls.mono (by rw [hw0]; exact ok.hc) ?_
  rintro e w' ⟨u, rfl, h⟩
  exact hK _ _ h
theorem DS4.s3 (X : DS4) (ok : DS4Ok X) {Q : Exit → Act → World → Prop} : StepG (opsOf 4 Try.f9) DS4.acts DS4.av X.val0 X.Wd X.a0 Q 3 := by
  intro γ listed a w o hF hC hW h1 ho h2
  obtain ⟨hd, hop, hg⟩ := fields2 (x := some 35) (y := Op.fieldAddr 32 (.tmp 3) 1) (z := none) (by kernel_rfl) ho
  have e3 : a.eval (.tmp 3) = .pointer (some ⟨X.bl, 0, none⟩) := (hF.eval0 (by kernel_rfl)).trans ok.e3
  refine st_pureG hF hC hW ho h2 (by decide) hd hg rfl ?_
  show _ = Result.ok (Next.value (.pointer (some ⟨X.bl, 1, none⟩))) w
  generalize a.eval = ρ at e3 ⊢
  unfold execOp
  rw [hop]
  simp [e3, go_sem]
theorem DS4.s4 (X : DS4) (ok : DS4Ok X) {Q : Exit → Act → World → Prop} : StepG (opsOf 4 Try.f9) DS4.acts DS4.av X.val0 X.Wd X.a0 Q 4 := by
  intro γ listed a w o hF hC hW h1 ho h2
  obtain ⟨hd, hop, hg⟩ := fields2 (x := some 36) (y := Op.load 4 (.tmp 35)) (z := none) (by kernel_rfl) ho
  have e35 : a.eval (.tmp 35) = .pointer (some ⟨X.bl, 1, none⟩) := slotG hF ho h2 (j := 3) (d := 35) (by kernel_rfl) (by kernel_rfl) (by rw [ok.sz]; decide)
  have hph := phase_leG (acts := DS4.acts) (m := 1) (x := 5) hC (unl (hF.lt ho) h1) rfl [4] (by kernel_rfl) (by decide)
  have hWW := hW
  generalize phase listed DS4.acts = n at hph hWW
  have hk : Nw X.W w := by
    rcases (show n = 0 ∨ n = 1 by omega) with rfl | rfl
    · have : w = X.W := hWW
      rw [this]; exact Below.refl _ _
    · exact ok.hn _ _ hWW
  have hc := ((bcell hk).1 _ _ (World.block_lt_of_cell? X.W ⟨X.bl, 1, none⟩ ok.c1)).trans ok.c1
  refine st_pureG hF hC hW ho h2 (by decide) hd hg rfl ?_
  show _ = Result.ok (Next.value (.bool X.cl)) w
  generalize a.eval = ρ at e35 ⊢
  unfold execOp
  rw [hop]
  simp [e35, hc, go_sem]
theorem DS4.s5 (X : DS4) (ok : DS4Ok X) {Q : Exit → Act → World → Prop} : StepG (opsOf 4 Try.f9) DS4.acts DS4.av X.val0 X.Wd X.a0 Q 5 := by
  intro γ listed a w o hF hC hW h1 ho h2
  obtain ⟨hd, hop, hg⟩ := fields2 (x := some 37) (y := Op.build 32 #[(0, (.tmp 34)), (1, (.tmp 36))]) (z := none) (by kernel_rfl) ho
  have e34 : a.eval (.tmp 34) = γ 0 := slotG hF ho h2 (j := 2) (d := 34) (by kernel_rfl) (by kernel_rfl) (by rw [ok.sz]; decide)
  have e36 : a.eval (.tmp 36) = .bool X.cl := slotG hF ho h2 (j := 4) (d := 36) (by kernel_rfl) (by kernel_rfl) (by rw [ok.sz]; decide)
  have hu := unl (hF.lt ho) h1
  refine st_actG (k := 1) DS4.chain DS4.nodup rfl hF hC hW h1 ho h2 (Or.inr ⟨37, hd, rfl⟩) (DS4.inj (by kernel_rfl) hu) hg ?_
  intro hW0 K hK
  have hP : X.P w (γ 0) := hW0
  obtain ⟨ua, un, uc, g0⟩ := ok.hs _ _ hP
  have hr : (execOp a.eval o).run Try.prog w = .ok (.value (.agg #[γ 0, .bool X.cl])) w := by
    rw [g0] at e34 ⊢
    generalize a.eval = ρ at e34 e36 ⊢
    unfold execOp
    rw [hop]
    simp [e34, e36, go_sem]
  unfold Oper.wp
  rw [hr]
  exact hK _ _ ⟨hP, rfl⟩
theorem DS4.s6 (X : DS4) (ok : DS4Ok X) {Q : Exit → Act → World → Prop} : StepG (opsOf 4 Try.f9) DS4.acts DS4.av X.val0 X.Wd X.a0 Q 6 := by
  intro γ listed a w o hF hC hW h1 ho h2
  obtain ⟨hd, hop, hg⟩ := fields2 (x := some 38) (y := Op.buildSlice 27 1 #[(0, (.tmp 37))]) (z := none) (by kernel_rfl) ho
  have e37 : a.eval (.tmp 37) = γ 1 := slotG hF ho h2 (j := 5) (d := 37) (by kernel_rfl) (by kernel_rfl) (by rw [ok.sz]; decide)
  have hu := unl (hF.lt ho) h1
  refine st_actG (k := 2) DS4.chain DS4.nodup rfl hF hC hW h1 ho h2 (Or.inr ⟨38, hd, rfl⟩) (DS4.inj (by kernel_rfl) hu) hg ?_
  intro hW0 K hK
  obtain ⟨hP, g1⟩ := hW0
  obtain ⟨ua, un, uc, g0⟩ := ok.hs _ _ hP
  rw [g1, g0] at e37
  have hr : (execOp a.eval o).run Try.prog w = .ok (.value (.slice (some ⟨w.heap.size, 0, none⟩) 1 1)) (w.alloc (.cells #[γ 0, .bool X.cl] 32)) := by
    rw [g0]
    generalize a.eval = ρ at e37 ⊢
    unfold execOp
    rw [hop]
    simp [e37, go_sem]
  unfold Oper.wp
  rw [hr]
  exact hK _ _ ⟨w, hP, rfl, rfl⟩
theorem DS4.s7 (X : DS4) (ok : DS4Ok X) {Q : Exit → Act → World → Prop} : StepG (opsOf 4 Try.f9) DS4.acts DS4.av X.val0 X.Wd X.a0 Q 7 := by
  intro γ listed a w o hF hC hW h1 ho h2
  obtain ⟨hd, hop, hg⟩ := fields2 (x := some 6) (y := Op.assign (.tmp 38)) (z := none) (by kernel_rfl) ho
  have e38 : a.eval (.tmp 38) = γ 2 := slotG hF ho h2 (j := 6) (d := 38) (by kernel_rfl) (by kernel_rfl) (by rw [ok.sz]; decide)
  have hu := unl (hF.lt ho) h1
  refine st_actG (k := 3) DS4.chain DS4.nodup rfl hF hC hW h1 ho h2 (Or.inr ⟨6, hd, rfl⟩) (DS4.inj (by kernel_rfl) hu) hg ?_
  intro hW0 K hK
  obtain ⟨w1, hP, g2, hw1⟩ := hW0
  rw [g2] at e38
  have hr : (execOp a.eval o).run Try.prog w = .ok (.value (.slice (some ⟨w1.heap.size, 0, none⟩) 1 1)) w := by
    generalize a.eval = ρ at e38 ⊢
    unfold execOp
    rw [hop]
    simp [e38, go_sem]
  unfold Oper.wp
  rw [hr]
  exact hK _ _ ⟨w1, hP, rfl, hw1⟩
theorem DS4.s8 (X : DS4) (ok : DS4Ok X) {Q : Exit → Act → World → Prop} : StepG (opsOf 4 Try.f9) DS4.acts DS4.av X.val0 X.Wd X.a0 Q 8 := by
  intro γ listed a w o hF hC hW h1 ho h2
  obtain ⟨hd, hop, hg⟩ := fields2 (x := some 7) (y := Op.assign (.const (.bool true))) (z := none) (by kernel_rfl) ho
  have ec0 : a.eval (.const (.bool true)) = .bool true := rfl
  refine st_pureG hF hC hW ho h2 (by decide) hd hg rfl ?_
  show _ = Result.ok (Next.value (.bool true)) w
  generalize a.eval = ρ at ec0 ⊢
  unfold execOp
  rw [hop]
  simp [ec0, go_sem]
theorem DS4.size : (opsOf 4 Try.f9).size = 9 := by kernel_rfl
theorem DS4.steps (X : DS4) (ok : DS4Ok X) {Q : Exit → Act → World → Prop} (i : Nat) (hi : i < (opsOf 4 Try.f9).size) : StepG (opsOf 4 Try.f9) DS4.acts DS4.av X.val0 X.Wd X.a0 Q i := by
  rw [DS4.size] at hi
  have hc : i = 0 ∨ i = 1 ∨ i = 2 ∨ i = 3 ∨ i = 4 ∨ i = 5 ∨ i = 6 ∨ i = 7 ∨ i = 8 := by omega
  rcases hc with rfl | rfl | rfl | rfl | rfl | rfl | rfl | rfl | rfl
  · exact DS4.s0 X ok
  · exact DS4.s1 X ok
  · exact DS4.s2 X ok
  · exact DS4.s3 X ok
  · exact DS4.s4 X ok
  · exact DS4.s5 X ok
  · exact DS4.s6 X ok
  · exact DS4.s7 X ok
  · exact DS4.s8 X ok
theorem DS4.puts (X : DS4) (γ : Nat → Value) (a0 : Act) : putsL (valG DS4.av X.val0 γ) (opsOf 4 Try.f9).toList a0 = (((((((((a0.put (some 32) (.pointer (some ⟨X.bl, 0, none⟩))).put (some 33) (.slice (some ⟨X.g, X.off, none⟩) X.n X.pc)).put (some 34) (γ 0)).put (some 35) (.pointer (some ⟨X.bl, 1, none⟩))).put (some 36) (.bool X.cl)).put (some 37) (γ 1)).put (some 38) (γ 2)).put (some 6) (γ 3)).put (some 7) (.bool true)) := by kernel_rfl
/-- The region, whatever order comes up. -/
theorem DS4.run (X : DS4) (ok : DS4Ok X) {Q : Exit → Act → World → Prop} (w : World) (h0 : X.Wd 0 (fun _ => undef) w.drew) (hend : ∀ (γ : Nat → Value) w', X.Wd 4 γ w' → Q .normal (((((((((X.a0.put (some 32) (.pointer (some ⟨X.bl, 0, none⟩))).put (some 33) (.slice (some ⟨X.g, X.off, none⟩) X.n X.pc)).put (some 34) (γ 0)).put (some 35) (.pointer (some ⟨X.bl, 1, none⟩))).put (some 36) (.bool X.cl)).put (some 37) (γ 1)).put (some 38) (γ 2)).put (some 6) (γ 3)).put (some 7) (.bool true)) w') : (Code.region 4 (opsOf 4 Try.f9) true).wp Try.prog Q X.a0 w := by
  refine reg_act (acts := DS4.acts) (av := DS4.av) (val0 := X.val0) (Wd := X.Wd) (by kernel_rfl) (by kernel_rfl) (by rw [DS4.size]; decide) (fun i hi => DS4.steps X ok i hi) _ h0 ?_
  intro γ w' h
  rw [DS4.puts]
  exact hend γ w' h
structure DS16 where
  bl : Nat
  bh : Nat
  bd : Nat
  g : Nat
  off : Nat
  n : Nat
  pc : Nat
  hx : Int
  hy : Int
  x : Int
  y : Int
  P : World → Prop
  W : World
  a0 : Act
structure DS16Ok (X : DS16) : Prop where
  c0 : X.W.cell? ⟨X.bl, 0, none⟩ = some (.slice (some ⟨X.g, X.off, none⟩) X.n X.pc)
  h0 : X.W.cell? ⟨X.bh, 0, none⟩ = some (.int .i64 X.hx)
  h1 : X.W.cell? ⟨X.bh, 1, none⟩ = some (.int .i64 X.hy)
  p0 : X.W.cell? ⟨X.g, X.off, none⟩ = some (.int .i64 X.x)
  p1 : X.W.cell? ⟨X.g, X.off + 1, none⟩ = some (.int .i64 X.y)
  hn : 0 < X.n
  hc : Calls Try.prog 36 #[.pointer (some ⟨X.bd, 0, none⟩), .agg #[.int .i64 X.hx, .int .i64 X.hy], .agg #[.int .i64 X.x, .int .i64 X.y]] X.W fun e w' => e = .returned (.tuple #[]) ∧ X.P w'
  e3 : X.a0.eval (.tmp 3) = .pointer (some ⟨X.bl, 0, none⟩)
  e8 : X.a0.eval (.tmp 8) = .pointer (some ⟨X.bd, 0, none⟩)
  e9 : X.a0.eval (.tmp 9) = .pointer (some ⟨X.bh, 0, none⟩)
  sz : X.a0.tmps.size = 85
def DS16.val0 (X : DS16) : Nat → Value
  | 67 => .agg #[.int .i64 X.hx, .int .i64 X.hy]
  | 68 => .pointer (some ⟨X.bl, 0, none⟩)
  | 69 => .slice (some ⟨X.g, X.off, none⟩) X.n X.pc
  | 70 => .pointer (some ⟨X.g, X.off, none⟩)
  | 71 => .agg #[.int .i64 X.x, .int .i64 X.y]
  | _ => undef
def DS16.av : Nat → Option Nat
  | 72 => some 0
  | _ => none
def DS16.acts : List Nat := [5]
/-- The world, by how many of the acting ones have come up. -/
def DS16.Wd (X : DS16) : Nat → (Nat → Value) → World → Prop
  | 0, _, w => w = X.W
  | _, _, w => X.P w
theorem DS16.chain : chainG (opsOf 16 Try.f9) DS16.acts = true := by kernel_rfl
theorem DS16.nodup : DS16.acts.Nodup := by decide
theorem DS16.inj {listed : Array Bool} {i k : Nat} (h : (List.range (opsOf 16 Try.f9).size).all (fun j => decide (j = i) || !(match dstOf (opsOf 16 Try.f9) j with | some d => decide (DS16.av d = some k) | none => false)) = true) (hu : listed.getD i false = false) : ∀ d, got (opsOf 16 Try.f9) listed d → DS16.av d ≠ some k := by
  rintro d ⟨j, h1, h2⟩ h3
  have hlt : j < (opsOf 16 Try.f9).size := by
    rcases Nat.lt_or_ge j (opsOf 16 Try.f9).size with h4 | h4
    · exact h4
    · unfold dstOf at h2; rw [Array.getElem?_eq_none h4] at h2; cases h2
  have h5 := List.all_eq_true.1 h j (List.mem_range.2 hlt)
  rw [h2] at h5
  simp only [h3, decide_true, Bool.not_true, Bool.or_false, decide_eq_true_eq] at h5
  subst h5
  rw [hu] at h1
  cases h1
theorem DS16.s0 (X : DS16) (ok : DS16Ok X) {Q : Exit → Act → World → Prop} : StepG (opsOf 16 Try.f9) DS16.acts DS16.av X.val0 X.Wd X.a0 Q 0 := by
  intro γ listed a w o hF hC hW h1 ho h2
  obtain ⟨hd, hop, hg⟩ := fields2 (x := some 67) (y := Op.load 54 (.tmp 9)) (z := none) (by kernel_rfl) ho
  have e9 : a.eval (.tmp 9) = .pointer (some ⟨X.bh, 0, none⟩) := (hF.eval0 (by kernel_rfl)).trans ok.e9
  have hph := phase_leG (acts := DS16.acts) (m := 0) (x := 5) hC (unl (hF.lt ho) h1) rfl [0] (by kernel_rfl) (by decide)
  have hWW := hW
  generalize phase listed DS16.acts = n at hph hWW
  obtain rfl : n = 0 := by omega
  have hk : w = X.W := hWW
  have hc0 := ok.h0
  have hc1 := ok.h1
  rw [← hk] at hc0 hc1
  refine st_pureG hF hC hW ho h2 (by decide) hd hg rfl ?_
  show _ = Result.ok (Next.value (.agg #[.int .i64 X.hx, .int .i64 X.hy])) w
  generalize a.eval = ρ at e9 ⊢
  unfold execOp
  rw [hop]
  simp [e9, hc0, hc1, go_sem]
theorem DS16.s1 (X : DS16) (ok : DS16Ok X) {Q : Exit → Act → World → Prop} : StepG (opsOf 16 Try.f9) DS16.acts DS16.av X.val0 X.Wd X.a0 Q 1 := by
  intro γ listed a w o hF hC hW h1 ho h2
  obtain ⟨hd, hop, hg⟩ := fields2 (x := some 68) (y := Op.fieldAddr 32 (.tmp 3) 0) (z := none) (by kernel_rfl) ho
  have e3 : a.eval (.tmp 3) = .pointer (some ⟨X.bl, 0, none⟩) := (hF.eval0 (by kernel_rfl)).trans ok.e3
  refine st_pureG hF hC hW ho h2 (by decide) hd hg rfl ?_
  show _ = Result.ok (Next.value (.pointer (some ⟨X.bl, 0, none⟩))) w
  generalize a.eval = ρ at e3 ⊢
  unfold execOp
  rw [hop]
  simp [e3, go_sem]
theorem DS16.s2 (X : DS16) (ok : DS16Ok X) {Q : Exit → Act → World → Prop} : StepG (opsOf 16 Try.f9) DS16.acts DS16.av X.val0 X.Wd X.a0 Q 2 := by
  intro γ listed a w o hF hC hW h1 ho h2
  obtain ⟨hd, hop, hg⟩ := fields2 (x := some 69) (y := Op.load 30 (.tmp 68)) (z := none) (by kernel_rfl) ho
  have e68 : a.eval (.tmp 68) = .pointer (some ⟨X.bl, 0, none⟩) := slotG hF ho h2 (j := 1) (d := 68) (by kernel_rfl) (by kernel_rfl) (by rw [ok.sz]; decide)
  have hph := phase_leG (acts := DS16.acts) (m := 0) (x := 5) hC (unl (hF.lt ho) h1) rfl [4, 3, 2] (by kernel_rfl) (by decide)
  have hWW := hW
  generalize phase listed DS16.acts = n at hph hWW
  obtain rfl : n = 0 := by omega
  have hk : w = X.W := hWW
  have hc0 := ok.c0
  rw [← hk] at hc0
  refine st_pureG hF hC hW ho h2 (by decide) hd hg rfl ?_
  show _ = Result.ok (Next.value (.slice (some ⟨X.g, X.off, none⟩) X.n X.pc)) w
  generalize a.eval = ρ at e68 ⊢
  unfold execOp
  rw [hop]
  simp [e68, hc0, go_sem]
theorem DS16.s3 (X : DS16) (ok : DS16Ok X) {Q : Exit → Act → World → Prop} : StepG (opsOf 16 Try.f9) DS16.acts DS16.av X.val0 X.Wd X.a0 Q 3 := by
  intro γ listed a w o hF hC hW h1 ho h2
  obtain ⟨hd, hop, hg⟩ := fields2 (x := some 70) (y := Op.indexAddr 30 (.tmp 69) (.const (.int .i64 0))) (z := none) (by kernel_rfl) ho
  have e69 : a.eval (.tmp 69) = .slice (some ⟨X.g, X.off, none⟩) X.n X.pc := slotG hF ho h2 (j := 2) (d := 69) (by kernel_rfl) (by kernel_rfl) (by rw [ok.sz]; decide)
  have ec1 : a.eval (.const (.int .i64 0)) = .int .i64 0 := rfl
  refine st_pureG hF hC hW ho h2 (by decide) hd hg rfl ?_
  show _ = Result.ok (Next.value (.pointer (some ⟨X.g, X.off, none⟩))) w
  generalize a.eval = ρ at e69 ec1 ⊢
  unfold execOp
  rw [hop]
  simp [e69, ec1, ok.hn, go_sem]
theorem DS16.s4 (X : DS16) (ok : DS16Ok X) {Q : Exit → Act → World → Prop} : StepG (opsOf 16 Try.f9) DS16.acts DS16.av X.val0 X.Wd X.a0 Q 4 := by
  intro γ listed a w o hF hC hW h1 ho h2
  obtain ⟨hd, hop, hg⟩ := fields2 (x := some 71) (y := Op.load 54 (.tmp 70)) (z := none) (by kernel_rfl) ho
  have e70 : a.eval (.tmp 70) = .pointer (some ⟨X.g, X.off, none⟩) := slotG hF ho h2 (j := 3) (d := 70) (by kernel_rfl) (by kernel_rfl) (by rw [ok.sz]; decide)
  have hph := phase_leG (acts := DS16.acts) (m := 0) (x := 5) hC (unl (hF.lt ho) h1) rfl [4] (by kernel_rfl) (by decide)
  have hWW := hW
  generalize phase listed DS16.acts = n at hph hWW
  obtain rfl : n = 0 := by omega
  have hk : w = X.W := hWW
  have hc0 := ok.p0
  have hc1 := ok.p1
  rw [← hk] at hc0 hc1
  refine st_pureG hF hC hW ho h2 (by decide) hd hg rfl ?_
  show _ = Result.ok (Next.value (.agg #[.int .i64 X.x, .int .i64 X.y])) w
  generalize a.eval = ρ at e70 ⊢
  unfold execOp
  rw [hop]
  simp [e70, hc0, hc1, go_sem]
theorem DS16.s5 (X : DS16) (ok : DS16Ok X) {Q : Exit → Act → World → Prop} : StepG (opsOf 16 Try.f9) DS16.acts DS16.av X.val0 X.Wd X.a0 Q 5 := by
  intro γ listed a w o hF hC hW h1 ho h2
  obtain ⟨hd, hop, hg⟩ := fields2 (x := some 72) (y := Op.call { callee := .value (.func 36), args := #[(.tmp 8), (.tmp 67), (.tmp 71)], argTypes := #[63, 54, 54] }) (z := none) (by kernel_rfl) ho
  have e8 : a.eval (.tmp 8) = .pointer (some ⟨X.bd, 0, none⟩) := (hF.eval0 (by kernel_rfl)).trans ok.e8
  have e67 : a.eval (.tmp 67) = .agg #[.int .i64 X.hx, .int .i64 X.hy] := slotG hF ho h2 (j := 0) (d := 67) (by kernel_rfl) (by kernel_rfl) (by rw [ok.sz]; decide)
  have e71 : a.eval (.tmp 71) = .agg #[.int .i64 X.x, .int .i64 X.y] := slotG hF ho h2 (j := 4) (d := 71) (by kernel_rfl) (by kernel_rfl) (by rw [ok.sz]; decide)
  have ef : a.eval (.func 36) = .func (.func 36) #[] #[] := rfl
  have hu := unl (hF.lt ho) h1
  refine st_actG (k := 0) DS16.chain DS16.nodup rfl hF hC hW h1 ho h2 (Or.inr ⟨72, hd, rfl⟩) (DS16.inj (by kernel_rfl) hu) hg ?_
  intro hW0 K hK
  have hw0 : w = X.W := hW0
  have hr : (execOp a.eval o).run Try.prog w = .ok (.enter 36 #[.pointer (some ⟨X.bd, 0, none⟩), .agg #[.int .i64 X.hx, .int .i64 X.hy], .agg #[.int .i64 X.x, .int .i64 X.y]]) w := by
    generalize a.eval = ρ at e8 e67 e71 ef ⊢
    unfold execOp
    rw [hop]
    simp [e8, e67, e71, ef, go_sem]
  unfold Oper.wp
  rw [hr]
  refine Calls.mono (by rw [hw0]; exact ok.hc) ?_
  rintro e w' ⟨rfl, h⟩
  exact hK _ _ h
theorem DS16.size : (opsOf 16 Try.f9).size = 6 := by kernel_rfl
theorem DS16.steps (X : DS16) (ok : DS16Ok X) {Q : Exit → Act → World → Prop} (i : Nat) (hi : i < (opsOf 16 Try.f9).size) : StepG (opsOf 16 Try.f9) DS16.acts DS16.av X.val0 X.Wd X.a0 Q i := by
  rw [DS16.size] at hi
  have hc : i = 0 ∨ i = 1 ∨ i = 2 ∨ i = 3 ∨ i = 4 ∨ i = 5 := by omega
  rcases hc with rfl | rfl | rfl | rfl | rfl | rfl
  · exact DS16.s0 X ok
  · exact DS16.s1 X ok
  · exact DS16.s2 X ok
  · exact DS16.s3 X ok
  · exact DS16.s4 X ok
  · exact DS16.s5 X ok
theorem DS16.puts (X : DS16) (γ : Nat → Value) (a0 : Act) : putsL (valG DS16.av X.val0 γ) (opsOf 16 Try.f9).toList a0 = ((((((a0.put (some 67) (.agg #[.int .i64 X.hx, .int .i64 X.hy])).put (some 68) (.pointer (some ⟨X.bl, 0, none⟩))).put (some 69) (.slice (some ⟨X.g, X.off, none⟩) X.n X.pc)).put (some 70) (.pointer (some ⟨X.g, X.off, none⟩))).put (some 71) (.agg #[.int .i64 X.x, .int .i64 X.y])).put (some 72) (γ 0)) := by kernel_rfl
/-- The region, whatever order comes up. -/
theorem DS16.run (X : DS16) (ok : DS16Ok X) {Q : Exit → Act → World → Prop} (w : World) (h0 : X.Wd 0 (fun _ => undef) w.drew) (hend : ∀ (γ : Nat → Value) w', X.Wd 1 γ w' → Q .normal ((((((X.a0.put (some 67) (.agg #[.int .i64 X.hx, .int .i64 X.hy])).put (some 68) (.pointer (some ⟨X.bl, 0, none⟩))).put (some 69) (.slice (some ⟨X.g, X.off, none⟩) X.n X.pc)).put (some 70) (.pointer (some ⟨X.g, X.off, none⟩))).put (some 71) (.agg #[.int .i64 X.x, .int .i64 X.y])).put (some 72) (γ 0)) w') : (Code.region 16 (opsOf 16 Try.f9) true).wp Try.prog Q X.a0 w := by
  refine reg_act (acts := DS16.acts) (av := DS16.av) (val0 := X.val0) (Wd := X.Wd) (by kernel_rfl) (by kernel_rfl) (by rw [DS16.size]; decide) (fun i hi => DS16.steps X ok i hi) _ h0 ?_
  intro γ w' h
  rw [DS16.puts]
  exact hend γ w' h
end Go.Proofs.Ytjjndpbplclidaa
namespace Go.Proofs.Ytjjndpbplclidaa
open Go.ChangeShapes Go.WideShapes Go.ChangeAt Go.RowKit
set_option linter.unusedVariables false

def dnB (x : Int) : Bool := decide (0 ≤ x ∧ x ≤ 67108864)
/-- A good dash. -/
def dshB (l : List Int) (f : Int) : Bool := decide (l.length ≤ 8) && (dnB f && l.all dnB)
theorem Ints.at {w : World} {a : Option Addr} {l : List Int} (h : Ints w a l) {k : Nat} (hk : k < l.length) : ∃ b off, a = some ⟨b, off, none⟩ ∧ w.cell? ⟨b, off + k, none⟩ = some (.int .i64 (intAt l k)) := by
  rcases h with h | ⟨b, off, rfl, hb, hc⟩
  · rw [h] at hk; simp at hk
  · exact ⟨b, off, rfl, hc k hk⟩
set_option maxHeartbeats 2000000 in
theorem igoodDash (w : World) (a : Option Addr) (c : Nat) (l : List Int) (f : Int) (hl : l.length ≤ 1048576) (hr : Ints w a l) :
    Calls Try.prog 31 #[.slice a l.length c, .int .i64 f] w fun e w' => e = .returned (.bool (dshB l f)) ∧ w' = w := by
  obtain ⟨V, hV⟩ : ∃ V, dshB l f = V := ⟨_, rfl⟩
  rw [hV]
  have HV : Hid (dshB l f = V) := hV
  have HR : Hid (Ints w a l) := hr
  have HF : Hid (∀ w, Calls Try.prog 29 #[.int .i64 f, .int .i64 0, .int .i64 67108864] w fun e w' => e = .returned (.bool (dnB f)) ∧ w' = w) := fun w => iin_any w f 0 67108864
  clear hr hV
  by_cases h8 : l.length ≤ 8
  · have hd : decide ((8 : Int) < l.length) = false := decide_eq_false (by omega)
    cases hf : dnB f with
    | false =>
      have HX : Hid (V = false) := by show V = false; rw [← HV.out]; unfold dshB; rw [hf]; simp
      rw [hf] at HF
      clear hf
      go_enter Try.func31, Try.ntmps31
      go_wp2_with fail
      refine (HF.out _).mono ?_
      rintro e w1 ⟨rfl, rfl⟩
      go_wp2
      go_ret
      exact ⟨ret_bool HX.out.symm, rfl⟩
    | true =>
      rw [hf] at HF
      have HX : Hid (V = l.all dnB) := by show V = _; rw [← HV.out]; unfold dshB; rw [hf, decide_eq_true h8]; simp
      clear hf HV
      go_enter Try.func31, Try.ntmps31
      go_wp2_with fail
      refine (HF.out _).mono ?_
      rintro e w1 ⟨rfl, rfl⟩
      go_wp2
      go_loop [17] (fun i => ∃ k : Nat, k ≤ l.length ∧ i = .int .i64 k ∧ ∀ j, j < k → dnB (intAt l j) = true) (fun i => l.length - (intOf i).toNat)
      case atStart => exact ⟨0, Nat.zero_le _, rfl, fun j hj => absurd hj (by omega)⟩
      case round =>
        obtain ⟨k, hk, rfl, ha⟩ := hrel
        have HA : Hid _ := ha
        clear ha
        by_cases hlt : k < l.length
        · obtain ⟨b, off, rfl, q⟩ := Ints.at HR.out hlt
          obtain ⟨x, hx⟩ : ∃ x, intAt l k = x := ⟨_, rfl⟩
          have HXX : Hid (intAt l k = x) := hx
          rw [hx] at q
          clear hx
          have HC : Hid (∀ w, Calls Try.prog 29 #[.int .i64 x, .int .i64 0, .int .i64 67108864] w fun e w' => e = .returned (.bool (dnB x)) ∧ w' = w) := fun w => iin_any w x 0 67108864
          cases hdn : dnB x with
          | false =>
            have HY : Hid (V = false) := HX.out.trans (all_false dnB 0 l k hlt (show dnB (intAt l k) = false by rw [HXX.out]; exact hdn))
            rw [hdn] at HC
            clear hdn
            go_wp2_with fail
            refine (HC.out _).mono ?_
            rintro e w2 ⟨rfl, rfl⟩
            go_wp2
            go_ret
            exact ⟨ret_bool HY.out.symm, rfl⟩
          | true =>
            have HY : Hid (dnB (intAt l k) = true) := by show _ = _; rw [HXX.out]; exact hdn
            rw [hdn] at HC
            clear hdn
            go_wp2_with fail
            refine (HC.out _).mono ?_
            rintro e w2 ⟨rfl, rfl⟩
            go_wp2
            go_round
            case rel =>
              refine ⟨k + 1, by omega, by go_num, fun j hj => ?_⟩
              rcases Nat.lt_succ_iff_lt_or_eq.1 hj with h | h
              · exact HA.out j h
              · rw [h]; exact HY.out
            case measure => simp [intOf]; omega
        · have HY : Hid (V = true) := HX.out.trans (all_true dnB 0 l (fun j hj => HA.out j (by omega)))
          clear HA
          go_wp2
          go_ret
          exact ⟨ret_bool HY.out.symm, rfl⟩
  · have hd : decide ((8 : Int) < l.length) = true := decide_eq_true (by omega)
    have HX : Hid (V = false) := by show V = false; rw [← HV.out]; unfold dshB; rw [decide_eq_false h8]; simp
    go_enter Try.func31, Try.ntmps31
    go_wp2
    go_ret
    exact ⟨ret_bool HX.out.symm, rfl⟩
end Go.Proofs.Ytjjndpbplclidaa
namespace Go.Proofs.Ytjjndpbplclidaa
open Go.ChangeShapes Go.WideShapes Go.ChangeAt Go.RowKit
set_option linter.unusedVariables false

/-- Lines of an answer: in memory from B on. -/
def LsOk (w : World) (B : Nat) (v : Value) (o : List LD) : Prop := ∃ it, OwnLn w B v it ∧ it.map (·.2) = o
theorem LsOk.nw {w w' : World} {B : Nat} {v : Value} {o : List LD} (h : LsOk w B v o) (k : Nw w w') : LsOk w' B v o := by
  obtain ⟨it, h1, h2⟩ := h
  exact ⟨it, h1.nw k, h2⟩
theorem LsOk.of {w : World} {B : Nat} {v : Value} {it : Its} {o : List LD} (h : OwnLn w B v it) (e : it.map (·.2) = o) : LsOk w B v o := ⟨it, h, e⟩
theorem OwnLn.lines {w : World} {B : Nat} {v : Value} {it : Its} (h : OwnLn w B v it) : ∃ a c, v = .slice a (it.map (·.2)).length c ∧ Lines w a (it.map (·.2)) := by
  obtain ⟨a, c, e, h2⟩ := h.row
  exact ⟨a, c, e, h2⟩
theorem ownp_lit (w : World) (B : Nat) (x y : Int) (hB : B ≤ w.heap.size) : OwnP (w.alloc (.cells #[.int .i64 x, .int .i64 y] 54)) B (.slice (some ⟨w.heap.size, 0, none⟩) 1 1) [(x, y)] :=
  World.ownsRow_lit w #[.int .i64 x, .int .i64 y] 1 hB (by unfold maxLen; omega) (by simp)
end Go.Proofs.Ytjjndpbplclidaa
