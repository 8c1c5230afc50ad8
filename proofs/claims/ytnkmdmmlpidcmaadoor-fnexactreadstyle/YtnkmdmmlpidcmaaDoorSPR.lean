/-
  The statement of l5Part that appends a class; each theorem names its conditions.
-/
import Derived.Test.YtnkmdmmlpidcmaaDoorPtB
import Derived.Test.YtnkmdmmlpidcmaaDoorRk
namespace Go.Proofs.YtnkmdmmlpidcmaaDoor
open Go.ChangeShapes Go.WideShapes Go.ChangeAt Go.RowKit
set_option linter.unusedVariables false

structure SP22 where
 bx : Nat
 p : ByteArray
 q : ByteArray
 va : Option Addr
 vc : Nat
 l : List ByteArray
 s : ByteArray
 k : Nat
 n : Nat
 W : World
 a0 : Act
structure SP22Ok (X : SP22) : Prop where
 cb : CvP X.bx X.W X.p X.q (.slice X.va X.l.length X.vc) X.l
 len : X.l.length ≤ 2000000
 w1 : IntKind.i64.wrap ((X.k : Int) + 1) = (X.k : Int) + 1
 w2 : IntKind.i64.wrap ((X.k : Int) + 1 + (X.n : Int)) = (X.k : Int) + 1 + (X.n : Int)
 hk : X.k + 1 + X.n ≤ X.s.size
 c1 : (0 : Int) ≤ (X.k : Int) + 1
 c2 : (X.k : Int) + 1 ≤ (X.k : Int) + 1 + (X.n : Int)
 c3 : (X.k : Int) + 1 + (X.n : Int) ≤ (X.s.size : Int)
 t1 : ((X.k : Int) + 1).toNat = X.k + 1
 t2 : ((X.k : Int) + 1 + (X.n : Int)).toNat = X.k + 1 + X.n
 e0 : X.a0.eval (.tmp 0) = .string X.s
 e4 : X.a0.eval (.tmp 4) = .pointer (some ⟨X.bx, 0, none⟩)
 e5 : X.a0.eval (.tmp 5) = .int .i64 (X.k : Int)
 e8 : X.a0.eval (.tmp 8) = .int .i64 (X.n : Int)
 sz : X.a0.tmps.size = 103
def SP22.val0 (X : SP22) : Nat → Value
 | 0 => .string X.s
 | 4 => .pointer (some ⟨X.bx, 0, none⟩)
 | 5 => .int .i64 (X.k : Int)
 | 8 => .int .i64 (X.n : Int)
 | 81 => .pointer (some ⟨X.bx, 2, none⟩)
 | 82 => .slice X.va X.l.length X.vc
 | 83 => .string X.s
 | 84 => .int .i64 (X.k : Int)
 | 85 => .int .i64 ((X.k : Int) + 1)
 | 86 => .int .i64 (X.k : Int)
 | 87 => .int .i64 ((X.k : Int) + 1)
 | 88 => .int .i64 (X.n : Int)
 | 89 => .int .i64 ((X.k : Int) + 1 + (X.n : Int))
 | 90 => .string (X.s.extract (X.k + 1) (X.k + 1 + X.n))
 | 93 => .pointer (some ⟨X.bx, 2, none⟩)
 | _ => undef
def SP22.av : Nat → Option Nat
 | 91 => some 0
 | 92 => some 1
 | _ => none
def SP22.acts : List Nat := [10, 11, 13]
/-- The world, by how many of the acting ones have come up. -/
def SP22.Wd (X : SP22) : Nat → (Nat → Value) → World → Prop
  | 0, _, w => Nw X.W w
  | 1, γ, w => ∃ w1, Nw X.W w1 ∧ γ 0 = .slice (some ⟨w1.heap.size, 0, none⟩) 1 1 ∧ w = w1.alloc (.cells #[.string (X.s.extract (X.k + 1) (X.k + 1 + X.n))] 9)
  | 2, γ, w => ∃ w1, Nw X.W w1 ∧ Txs w (X.bx + 1) (γ 1) (X.l ++ [X.s.extract (X.k + 1) (X.k + 1 + X.n)]) ∧ Ext (.slice X.va X.l.length X.vc) (γ 1) w1 w
  | _, γ, w => ∃ w1 w2, Nw X.W w1 ∧ Txs w2 (X.bx + 1) (γ 1) (X.l ++ [X.s.extract (X.k + 1) (X.k + 1 + X.n)]) ∧ Ext (.slice X.va X.l.length X.vc) (γ 1) w1 w2 ∧ w = w2.setCell ⟨X.bx, 2, none⟩ (γ 1)
theorem SP22.chain : chainG (opsOf 22 Tryd.f61) SP22.acts = true := by kernel_rfl
theorem SP22.nodup : SP22.acts.Nodup := by decide
def SP22.L : List (Option Nat × Op × Option (Nat × Bool)) := [
 (some 81, .fieldAddr 56 (.tmp 4) 2, none),
 (some 82, .load 52 (.tmp 81), none),
 (some 83, .move (.tmp 0), none),
 (some 84, .move (.tmp 5), none),
 (some 85, .binOp .add 3 (.tmp 84) (.const (.int .i64 1)) 3, none),
 (some 86, .move (.tmp 5), none),
 (some 87, .binOp .add 3 (.tmp 86) (.const (.int .i64 1)) 3, none),
 (some 88, .move (.tmp 8), none),
 (some 89, .binOp .add 3 (.tmp 87) (.tmp 88) 3, none),
 (some 90, .slice 9 (.tmp 83) (some (.tmp 85)) (some (.tmp 89)) none, none),
 (some 91, .buildSlice 52 1 #[(0, (.tmp 90))], none),
 (some 92, .call { callee := .builtin .append, args := #[(.tmp 82), (.tmp 91)], argTypes := #[52, 52] }, none),
 (some 93, .fieldAddr 56 (.tmp 4) 2, none),
 (none, .store 52 (.tmp 93) (.tmp 92), none)]
theorem SP22.isL : (opsOf 22 Tryd.f61).toList.map tri = SP22.L := by kernel_rfl
theorem SP22.ini {X : SP22} (ok : SP22Ok X) : ∀ n ∈ [0, 4, 5, 8], X.a0.eval (.tmp n) = X.val0 n := by
 simp only [List.forall_mem_cons]
 exact ⟨ok.e0, ok.e4, ok.e5, ok.e8, List.forall_mem_nil _⟩
abbrev SP22.St (X : SP22) (Q : Exit → Act → World → Prop) (i : Nat) : Prop := StepG (opsOf 22 Tryd.f61) SP22.acts SP22.av X.val0 X.Wd X.a0 Q i
theorem SP22.plain (X : SP22) (ok : SP22Ok X) {Q : Exit → Act → World → Prop} : ∀ i ∈ [0, 2, 3, 4, 5, 6, 7, 8, 12], SP22.St X Q i := by
 simp only [List.forall_mem_cons]
 refine ⟨?_, ?_, ?_, ?_, ?_, ?_, ?_, ?_, ?_, List.forall_mem_nil _⟩
 all_goals
  refine st_plain SP22.isL (SP22.ini ok) ok.sz rfl (by kernel_rfl) ?_
  intro γ w n o hW hop
  unfold execOp
  rw [hop]
  simp [envR, valG, SP22.av, SP22.val0, ok.w1, ok.w2, go_sem]
theorem SP22.s1 (X : SP22) (ok : SP22Ok X) {Q : Exit → Act → World → Prop} : SP22.St X Q 1 := by
 intro γ listed a w o hF hC hW h1 ho h2
 obtain ⟨hd, hop, hg⟩ := fieldsL SP22.isL (i := 1) rfl ho
 have e81 : a.eval (.tmp 81) = .pointer (some ⟨X.bx, 2, none⟩) := known hF ho h2 (SP22.ini ok) ok.sz (by kernel_rfl)
 have hph := phase_leG (acts := SP22.acts) (m := 1) (x := 11) hC (unl (hF.lt ho) h1) rfl [1] (by kernel_rfl) (by decide)
 have hWW := hW
 generalize phase listed SP22.acts = n at hph hWW
 have hk : Nw X.W w := by
  rcases (show n = 0 ∨ n = 1 by omega) with rfl | rfl
  ·exact hWW
  ·obtain ⟨w1, k1, _, rfl⟩ := hWW
   exact Nw.trans k1 ((Below.refl _ _).alloc (Nat.le_refl _) _)
 have hc := (ok.cb.nw hk).c2
 refine st_pureG hF hC hW ho h2 (by decide) hd hg rfl ?_
 show _ = Result.ok (Next.value (.slice X.va X.l.length X.vc)) w
 generalize a.eval = ρ at e81 ⊢
 unfold execOp
 rw [hop]
 simp [e81, hc, go_sem]
theorem SP22.s9 (X : SP22) (ok : SP22Ok X) {Q : Exit → Act → World → Prop} : SP22.St X Q 9 := by
 intro γ listed a w o hF hC hW h1 ho h2
 obtain ⟨hd, hop, hg⟩ := fieldsL SP22.isL (i := 9) rfl ho
 have e83 : a.eval (.tmp 83) = .string X.s := known hF ho h2 (SP22.ini ok) ok.sz (by kernel_rfl)
 have e85 : a.eval (.tmp 85) = .int .i64 ((X.k : Int) + 1) := known hF ho h2 (SP22.ini ok) ok.sz (by kernel_rfl)
 have e89 : a.eval (.tmp 89) = .int .i64 ((X.k : Int) + 1 + (X.n : Int)) := known hF ho h2 (SP22.ini ok) ok.sz (by kernel_rfl)
 refine st_pureG hF hC hW ho h2 (by decide) hd hg rfl ?_
 show _ = Result.ok (Next.value (.string (X.s.extract (X.k + 1) (X.k + 1 + X.n)))) w
 generalize a.eval = ρ at e83 e85 e89 ⊢
 unfold execOp
 rw [hop]
 simp [e83, e85, e89, ok.c1, ok.c2, ok.c3, ok.t1, ok.t2, go_sem]
theorem SP22.s10 (X : SP22) (ok : SP22Ok X) {Q : Exit → Act → World → Prop} : SP22.St X Q 10 := by
 intro γ listed a w o hF hC hW h1 ho h2
 obtain ⟨hd, hop, hg⟩ := fieldsL SP22.isL (i := 10) rfl ho
 have e90 : a.eval (.tmp 90) = .string (X.s.extract (X.k + 1) (X.k + 1 + X.n)) := known hF ho h2 (SP22.ini ok) ok.sz (by kernel_rfl)
 have hu := unl (hF.lt ho) h1
 refine st_actG (k := 0) SP22.chain SP22.nodup rfl hF hC hW h1 ho h2 (Or.inr ⟨91, hd, rfl⟩) (injG (by kernel_rfl) hu) hg ?_
 intro hW0 K hK
 have k0 : Nw X.W w := hW0
 have hr : (execOp a.eval o).run Tryd.prog w = .ok (.value (.slice (some ⟨w.heap.size, 0, none⟩) 1 1)) (w.alloc (.cells #[.string (X.s.extract (X.k + 1) (X.k + 1 + X.n))] 9)) := by
  generalize a.eval = ρ at e90 ⊢
  unfold execOp
  rw [hop]
  simp [e90, go_sem]
 unfold Oper.wp
 rw [hr]
 exact hK _ _ ⟨w, k0, rfl, rfl⟩
theorem SP22.s11 (X : SP22) (ok : SP22Ok X) {Q : Exit → Act → World → Prop} : SP22.St X Q 11 := by
 intro γ listed a w o hF hC hW h1 ho h2
 obtain ⟨hd, hop, hg⟩ := fieldsL SP22.isL (i := 11) rfl ho
 have e82 : a.eval (.tmp 82) = .slice X.va X.l.length X.vc := known hF ho h2 (SP22.ini ok) ok.sz (by kernel_rfl)
 have e91 : a.eval (.tmp 91) = γ 0 := known hF ho h2 (SP22.ini ok) ok.sz (by kernel_rfl)
 have hu := unl (hF.lt ho) h1
 refine st_actG (k := 1) SP22.chain SP22.nodup rfl hF hC hW h1 ho h2 (Or.inr ⟨92, hd, rfl⟩) (injG (by kernel_rfl) hu) hg ?_
 intro hW0 K hK
 obtain ⟨w1, k1, g0, rfl⟩ := hW0
 rw [g0] at e91
 have lb := ok.cb.nw k1
 have n1 : Nw w1 (w1.alloc (.cells #[.string (X.s.extract (X.k + 1) (X.k + 1 + X.n))] 9)) := (Below.refl _ _).alloc (Nat.le_refl _) _
 refine wpk_tx _ (.tmp 82) (.tmp 91) hop (X.bx + 1) (.slice X.va X.l.length X.vc) X.l (X.s.extract (X.k + 1) (X.k + 1 + X.n)) e82 (lb.own.nw n1) w1.heap.size e91 (by simp) (by have := ok.len; omega) (by have := lb.lt; simp; omega) ?_
 intro v' w' h3 h4
 exact hK _ _ ⟨w1, k1, h3, n1.ext h4⟩
theorem SP22.s13 (X : SP22) (ok : SP22Ok X) {Q : Exit → Act → World → Prop} : SP22.St X Q 13 := by
 intro γ listed a w o hF hC hW h1 ho h2
 obtain ⟨hd, hop, hg⟩ := fieldsL SP22.isL (i := 13) rfl ho
 have e93 : a.eval (.tmp 93) = .pointer (some ⟨X.bx, 2, none⟩) := known hF ho h2 (SP22.ini ok) ok.sz (by kernel_rfl)
 have e92 : a.eval (.tmp 92) = γ 1 := known hF ho h2 (SP22.ini ok) ok.sz (by kernel_rfl)
 have hu := unl (hF.lt ho) h1
 refine st_actG (k := 2) SP22.chain SP22.nodup rfl hF hC hW h1 ho h2 (Or.inl hd) (injG (by kernel_rfl) hu) hg ?_
 intro hW0 K hK
 obtain ⟨w1, k1, o1, x1⟩ := hW0
 obtain ⟨t0, tf⟩ := (ok.cb.nw k1).there x1
 obtain ⟨sa, sc, g1⟩ := o1.slice
 have hr : (execOp a.eval o).run Tryd.prog w = .ok .skip (w.setCell ⟨X.bx, 2, none⟩ (γ 1)) := by
  rw [g1] at e92 ⊢
  generalize a.eval = ρ at e92 e93 ⊢
  unfold execOp
  rw [hop]
  simp [e92, e93, t0, tf, go_sem]
 unfold Oper.wp
 rw [hr]
 exact hK _ _ ⟨w1, w, k1, o1, x1, rfl⟩
theorem SP22.size : (opsOf 22 Tryd.f61).size = 14 := by kernel_rfl
theorem SP22.rest (X : SP22) (ok : SP22Ok X) {Q : Exit → Act → World → Prop} : ∀ i ∈ [1, 9, 10, 11, 13], SP22.St X Q i := by
 simp only [List.forall_mem_cons]
 exact ⟨SP22.s1 X ok,
  SP22.s9 X ok,
  SP22.s10 X ok,
  SP22.s11 X ok,
  SP22.s13 X ok, List.forall_mem_nil _⟩
theorem SP22.steps (X : SP22) (ok : SP22Ok X) {Q : Exit → Act → World → Prop} (i : Nat) (hi : i < (opsOf 22 Tryd.f61).size) : SP22.St X Q i := by
 rw [SP22.size] at hi
 rcases (by decide : ∀ i, i < 14 → i ∈ [0, 2, 3, 4, 5, 6, 7, 8, 12] ∨ i ∈ [1, 9, 10, 11, 13]) i hi with h | h
 · exact SP22.plain X ok i h
 · exact SP22.rest X ok i h
/-- The region, whatever order comes up. -/
theorem SP22.run (X : SP22) (ok : SP22Ok X) {Q : Exit → Act → World → Prop} (w : World) (h0 : X.Wd 0 (fun _ => undef) w.drew) (hend : ∀ (γ : Nat → Value) w', X.Wd 3 γ w' → Q .normal (((((((((((((X.a0.put (some 81) (.pointer (some ⟨X.bx, 2, none⟩))).put (some 82) (.slice X.va X.l.length X.vc)).put (some 83) (.string X.s)).put (some 84) (.int .i64 (X.k : Int))).put (some 85) (.int .i64 ((X.k : Int) + 1))).put (some 86) (.int .i64 (X.k : Int))).put (some 87) (.int .i64 ((X.k : Int) + 1))).put (some 88) (.int .i64 (X.n : Int))).put (some 89) (.int .i64 ((X.k : Int) + 1 + (X.n : Int)))).put (some 90) (.string (X.s.extract (X.k + 1) (X.k + 1 + X.n)))).put (some 91) (γ 0)).put (some 92) (γ 1)).put (some 93) (.pointer (some ⟨X.bx, 2, none⟩))) w') : (Code.region 22 (opsOf 22 Tryd.f61) true).wp Tryd.prog Q X.a0 w := by
 refine reg_act (acts := SP22.acts) (av := SP22.av) (val0 := X.val0) (Wd := X.Wd) (by kernel_rfl) (by kernel_rfl) (by rw [SP22.size]; decide) (fun i hi => SP22.steps X ok i hi) _ h0 ?_
 intro γ w' h
 exact end_at (hend γ w' h) (by kernel_rfl)
end Go.Proofs.YtnkmdmmlpidcmaaDoor
