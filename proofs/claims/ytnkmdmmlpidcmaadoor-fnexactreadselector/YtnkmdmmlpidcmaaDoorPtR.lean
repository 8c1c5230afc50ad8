/-
  The statement of partOf that appends a class; each theorem names its conditions.
-/
import Derived.Test.YtnkmdmmlpidcmaaDoorPtB
import Derived.Test.YtnkmdmmlpidcmaaDoorRk
import Derived.Test.YtnkmdmmlpidcmaaDoorCln
namespace Go.Proofs.YtnkmdmmlpidcmaaDoor
open Go.ChangeShapes Go.WideShapes Go.ChangeAt Go.RowKit
set_option linter.unusedVariables false

structure IP7 where
 bx : Nat
 p : ByteArray
 q : ByteArray
 va : Option Addr
 vc : Nat
 l : List ByteArray
 x : ByteArray
 W : World
 a0 : Act
structure IP7Ok (X : IP7) : Prop where
 cb : CvP X.bx X.W X.p X.q (.slice X.va X.l.length X.vc) X.l
 len : X.l.length ≤ 2000000
 hx : X.x.size ≤ 1048576
 e8 : X.a0.eval (.tmp 8) = .pointer (some ⟨X.bx, 0, none⟩)
 e10 : X.a0.eval (.tmp 10) = .string X.x
 sz : X.a0.tmps.size = 53
def IP7.val0 (X : IP7) : Nat → Value
 | 8 => .pointer (some ⟨X.bx, 0, none⟩)
 | 10 => .string X.x
 | 33 => .pointer (some ⟨X.bx, 2, none⟩)
 | 34 => .slice X.va X.l.length X.vc
 | 35 => .string X.x
 | 39 => .pointer (some ⟨X.bx, 2, none⟩)
 | _ => undef
def IP7.av : Nat → Option Nat
 | 36 => some 0
 | 37 => some 1
 | 38 => some 2
 | _ => none
def IP7.acts : List Nat := [3, 4, 5, 7]
/-- The world, by how many of the acting ones have come up. -/
def IP7.Wd (X : IP7) : Nat → (Nat → Value) → World → Prop
  | 0, _, w => Nw X.W w
  | 1, γ, w => γ 0 = .string X.x ∧ Nw X.W w
  | 2, γ, w => ∃ w1, Nw X.W w1 ∧ γ 1 = .slice (some ⟨w1.heap.size, 0, none⟩) 1 1 ∧ w = w1.alloc (.cells #[.string (X.x)] 9)
  | 3, γ, w => ∃ w1, Nw X.W w1 ∧ Txs w (X.bx + 1) (γ 2) (X.l ++ [X.x]) ∧ Ext (.slice X.va X.l.length X.vc) (γ 2) w1 w
  | _, γ, w => ∃ w1 w2, Nw X.W w1 ∧ Txs w2 (X.bx + 1) (γ 2) (X.l ++ [X.x]) ∧ Ext (.slice X.va X.l.length X.vc) (γ 2) w1 w2 ∧ w = w2.setCell ⟨X.bx, 2, none⟩ (γ 2)
theorem IP7.chain : chainG (opsOf 7 Tryd.f34) IP7.acts = true := by kernel_rfl
theorem IP7.nodup : IP7.acts.Nodup := by decide
def IP7.L : List (Option Nat × Op × Option (Nat × Bool)) := [
 (some 33, .fieldAddr 56 (.tmp 8) 2, none),
 (some 34, .load 52 (.tmp 33), none),
 (some 35, .move (.tmp 10), none),
 (some 36, .call { callee := .value (.func 63), args := #[(.tmp 35)], argTypes := #[9] }, none),
 (some 37, .buildSlice 52 1 #[(0, (.tmp 36))], none),
 (some 38, .call { callee := .builtin .append, args := #[(.tmp 34), (.tmp 37)], argTypes := #[52, 52] }, none),
 (some 39, .fieldAddr 56 (.tmp 8) 2, none),
 (none, .store 52 (.tmp 39) (.tmp 38), none)]
theorem IP7.isL : (opsOf 7 Tryd.f34).toList.map tri = IP7.L := by kernel_rfl
theorem IP7.ini {X : IP7} (ok : IP7Ok X) : ∀ n ∈ [8, 10], X.a0.eval (.tmp n) = X.val0 n := by
 simp only [List.forall_mem_cons]
 exact ⟨ok.e8, ok.e10, List.forall_mem_nil _⟩
abbrev IP7.St (X : IP7) (Q : Exit → Act → World → Prop) (i : Nat) : Prop := StepG (opsOf 7 Tryd.f34) IP7.acts IP7.av X.val0 X.Wd X.a0 Q i
theorem IP7.plain (X : IP7) (ok : IP7Ok X) {Q : Exit → Act → World → Prop} : ∀ i ∈ [0, 2, 6], IP7.St X Q i := by
 simp only [List.forall_mem_cons]
 refine ⟨?_, ?_, ?_, List.forall_mem_nil _⟩
 all_goals
  refine st_plain IP7.isL (IP7.ini ok) ok.sz rfl (by kernel_rfl) ?_
  intro γ w n o hW hop
  unfold execOp
  rw [hop]
  simp [envR, valG, IP7.av, IP7.val0, go_sem]
theorem IP7.s1 (X : IP7) (ok : IP7Ok X) {Q : Exit → Act → World → Prop} : IP7.St X Q 1 := by
 intro γ listed a w o hF hC hW h1 ho h2
 obtain ⟨hd, hop, hg⟩ := fieldsL IP7.isL (i := 1) rfl ho
 have e33 : a.eval (.tmp 33) = .pointer (some ⟨X.bx, 2, none⟩) := known hF ho h2 (IP7.ini ok) ok.sz (by kernel_rfl)
 have hph := phase_leG (acts := IP7.acts) (m := 2) (x := 5) hC (unl (hF.lt ho) h1) rfl [1] (by kernel_rfl) (by decide)
 have hWW := hW
 generalize phase listed IP7.acts = n at hph hWW
 have hk : Nw X.W w := by
  rcases (show n = 0 ∨ n = 1 ∨ n = 2 by omega) with rfl | rfl | rfl
  ·exact hWW
  ·exact hWW.2
  ·obtain ⟨w1, k1, _, rfl⟩ := hWW
   exact Nw.trans k1 ((Below.refl _ _).alloc (Nat.le_refl _) _)
 have hc := (ok.cb.nw hk).c2
 refine st_pureG hF hC hW ho h2 (by decide) hd hg rfl ?_
 show _ = Result.ok (Next.value (.slice X.va X.l.length X.vc)) w
 generalize a.eval = ρ at e33 ⊢
 unfold execOp
 rw [hop]
 simp [e33, hc, go_sem]
theorem IP7.s3 (X : IP7) (ok : IP7Ok X) {Q : Exit → Act → World → Prop} : IP7.St X Q 3 := by
 intro γ listed a w o hF hC hW h1 ho h2
 obtain ⟨hd, hop, hg⟩ := fieldsL IP7.isL (i := 3) rfl ho
 have e35 : a.eval (.tmp 35) = .string X.x := known hF ho h2 (IP7.ini ok) ok.sz (by kernel_rfl)
 have ef : a.eval (.func 63) = .func (.func 63) #[] #[] := rfl
 have hu := unl (hF.lt ho) h1
 refine st_actG (k := 0) IP7.chain IP7.nodup rfl hF hC hW h1 ho h2 (Or.inr ⟨36, hd, rfl⟩) (injG (by kernel_rfl) hu) hg ?_
 intro hW0 K hK
 have k0 : Nw X.W w := hW0
 have hr : (execOp a.eval o).run Tryd.prog w = .ok (.enter 63 #[.string X.x]) w := by
  generalize a.eval = ρ at e35 ef ⊢
  unfold execOp
  rw [hop]
  simp [e35, ef, go_sem]
 unfold Oper.wp
 rw [hr]
 refine Calls.mono (clone_any w X.x ok.hx) ?_
 rintro e w' ⟨rfl, n1⟩
 exact hK _ _ ⟨rfl, Nw.trans k0 n1⟩
theorem IP7.s4 (X : IP7) (ok : IP7Ok X) {Q : Exit → Act → World → Prop} : IP7.St X Q 4 := by
 intro γ listed a w o hF hC hW h1 ho h2
 obtain ⟨hd, hop, hg⟩ := fieldsL IP7.isL (i := 4) rfl ho
 have e36 : a.eval (.tmp 36) = γ 0 := known hF ho h2 (IP7.ini ok) ok.sz (by kernel_rfl)
 have hu := unl (hF.lt ho) h1
 refine st_actG (k := 1) IP7.chain IP7.nodup rfl hF hC hW h1 ho h2 (Or.inr ⟨37, hd, rfl⟩) (injG (by kernel_rfl) hu) hg ?_
 intro hW0 K hK
 obtain ⟨g0, k0⟩ := hW0
 rw [g0] at e36
 have hr : (execOp a.eval o).run Tryd.prog w = .ok (.value (.slice (some ⟨w.heap.size, 0, none⟩) 1 1)) (w.alloc (.cells #[.string (X.x)] 9)) := by
  generalize a.eval = ρ at e36 ⊢
  unfold execOp
  rw [hop]
  simp [e36, go_sem]
 unfold Oper.wp
 rw [hr]
 exact hK _ _ ⟨w, k0, rfl, rfl⟩
theorem IP7.s5 (X : IP7) (ok : IP7Ok X) {Q : Exit → Act → World → Prop} : IP7.St X Q 5 := by
 intro γ listed a w o hF hC hW h1 ho h2
 obtain ⟨hd, hop, hg⟩ := fieldsL IP7.isL (i := 5) rfl ho
 have e34 : a.eval (.tmp 34) = .slice X.va X.l.length X.vc := known hF ho h2 (IP7.ini ok) ok.sz (by kernel_rfl)
 have e37 : a.eval (.tmp 37) = γ 1 := known hF ho h2 (IP7.ini ok) ok.sz (by kernel_rfl)
 have hu := unl (hF.lt ho) h1
 refine st_actG (k := 2) IP7.chain IP7.nodup rfl hF hC hW h1 ho h2 (Or.inr ⟨38, hd, rfl⟩) (injG (by kernel_rfl) hu) hg ?_
 intro hW0 K hK
 obtain ⟨w1, k1, g0, rfl⟩ := hW0
 rw [g0] at e37
 have lb := ok.cb.nw k1
 have n1 : Nw w1 (w1.alloc (.cells #[.string (X.x)] 9)) := (Below.refl _ _).alloc (Nat.le_refl _) _
 refine wpk_tx _ (.tmp 34) (.tmp 37) hop (X.bx + 1) (.slice X.va X.l.length X.vc) X.l (X.x) e34 (lb.own.nw n1) w1.heap.size e37 (by simp) (by have := ok.len; omega) (by have := lb.lt; simp; omega) ?_
 intro v' w' h3 h4
 exact hK _ _ ⟨w1, k1, h3, n1.ext h4⟩
theorem IP7.s7 (X : IP7) (ok : IP7Ok X) {Q : Exit → Act → World → Prop} : IP7.St X Q 7 := by
 intro γ listed a w o hF hC hW h1 ho h2
 obtain ⟨hd, hop, hg⟩ := fieldsL IP7.isL (i := 7) rfl ho
 have e39 : a.eval (.tmp 39) = .pointer (some ⟨X.bx, 2, none⟩) := known hF ho h2 (IP7.ini ok) ok.sz (by kernel_rfl)
 have e38 : a.eval (.tmp 38) = γ 2 := known hF ho h2 (IP7.ini ok) ok.sz (by kernel_rfl)
 have hu := unl (hF.lt ho) h1
 refine st_actG (k := 3) IP7.chain IP7.nodup rfl hF hC hW h1 ho h2 (Or.inl hd) (injG (by kernel_rfl) hu) hg ?_
 intro hW0 K hK
 obtain ⟨w1, k1, o1, x1⟩ := hW0
 obtain ⟨t0, tf⟩ := (ok.cb.nw k1).there x1
 obtain ⟨sa, sc, g1⟩ := o1.slice
 have hr : (execOp a.eval o).run Tryd.prog w = .ok .skip (w.setCell ⟨X.bx, 2, none⟩ (γ 2)) := by
  rw [g1] at e38 ⊢
  generalize a.eval = ρ at e38 e39 ⊢
  unfold execOp
  rw [hop]
  simp [e38, e39, t0, tf, go_sem]
 unfold Oper.wp
 rw [hr]
 exact hK _ _ ⟨w1, w, k1, o1, x1, rfl⟩
theorem IP7.size : (opsOf 7 Tryd.f34).size = 8 := by kernel_rfl
theorem IP7.rest (X : IP7) (ok : IP7Ok X) {Q : Exit → Act → World → Prop} : ∀ i ∈ [1, 3, 4, 5, 7], IP7.St X Q i := by
 simp only [List.forall_mem_cons]
 exact ⟨IP7.s1 X ok,
  IP7.s3 X ok,
  IP7.s4 X ok,
  IP7.s5 X ok,
  IP7.s7 X ok, List.forall_mem_nil _⟩
theorem IP7.steps (X : IP7) (ok : IP7Ok X) {Q : Exit → Act → World → Prop} (i : Nat) (hi : i < (opsOf 7 Tryd.f34).size) : IP7.St X Q i := by
 rw [IP7.size] at hi
 rcases (by decide : ∀ i, i < 8 → i ∈ [0, 2, 6] ∨ i ∈ [1, 3, 4, 5, 7]) i hi with h | h
 · exact IP7.plain X ok i h
 · exact IP7.rest X ok i h
/-- The region, whatever order comes up. -/
theorem IP7.run (X : IP7) (ok : IP7Ok X) {Q : Exit → Act → World → Prop} (w : World) (h0 : X.Wd 0 (fun _ => undef) w.drew) (hend : ∀ (γ : Nat → Value) w', X.Wd 4 γ w' → Q .normal (((((((X.a0.put (some 33) (.pointer (some ⟨X.bx, 2, none⟩))).put (some 34) (.slice X.va X.l.length X.vc)).put (some 35) (.string X.x)).put (some 36) (γ 0)).put (some 37) (γ 1)).put (some 38) (γ 2)).put (some 39) (.pointer (some ⟨X.bx, 2, none⟩))) w') : (Code.region 7 (opsOf 7 Tryd.f34) true).wp Tryd.prog Q X.a0 w := by
 refine reg_act (acts := IP7.acts) (av := IP7.av) (val0 := X.val0) (Wd := X.Wd) (by kernel_rfl) (by kernel_rfl) (by rw [IP7.size]; decide) (fun i hi => IP7.steps X ok i hi) _ h0 ?_
 intro γ w' h
 exact end_at (hend γ w' h) (by kernel_rfl)
end Go.Proofs.YtnkmdmmlpidcmaaDoor
