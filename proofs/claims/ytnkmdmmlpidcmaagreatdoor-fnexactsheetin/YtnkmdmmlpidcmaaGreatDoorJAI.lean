/-
  The statement of l5Part that appends a class; each theorem names its conditions.
  A part read from a word by the specification; each theorem names its conditions.
  A text without its comments, by the specification; each theorem names its conditions.
  A part read from a word by the specification: its walk; each theorem names its conditions.
-/
import Derived.Test.YtnkmdmmlpidcmaaGreatDoorJAG
import Derived.Test.YtnkmdmmlpidcmaaGreatDoorJAH
import Derived.Test.YtnkmdmmlpidcmaaGreatDoorJAF
import Derived.Deep.DeepCutAuto
namespace Go.Proofs.YtnkmdmmlpidcmaaGreatDoor
open Go.ChangeShapes Go.WideShapes Go.ChangeAt Go.RowKit
set_option linter.unusedVariables false

structure SP22 where
 bx : Nat
 p : ByteArray
 q : ByteArray
 va : Option Addr
 vc : Nat
 l : List ByteArray
 s : ByteArray
 k : Nat
 n : Nat
 W : World
 a0 : Act
structure SP22Ok (X : SP22) : Prop where
 cb : CvP X.bx X.W X.p X.q (.slice X.va X.l.length X.vc) X.l
 len : X.l.length ≤ 2000000
 w1 : IntKind.i64.wrap ((X.k : Int) + 1) = (X.k : Int) + 1
 w2 : IntKind.i64.wrap ((X.k : Int) + 1 + (X.n : Int)) = (X.k : Int) + 1 + (X.n : Int)
 hk : X.k + 1 + X.n ≤ X.s.size
 c1 : (0 : Int) ≤ (X.k : Int) + 1
 c2 : (X.k : Int) + 1 ≤ (X.k : Int) + 1 + (X.n : Int)
 c3 : (X.k : Int) + 1 + (X.n : Int) ≤ (X.s.size : Int)
 t1 : ((X.k : Int) + 1).toNat = X.k + 1
 t2 : ((X.k : Int) + 1 + (X.n : Int)).toNat = X.k + 1 + X.n
 e0 : X.a0.eval (.tmp 0) = .string X.s
 e4 : X.a0.eval (.tmp 4) = .pointer (some ⟨X.bx, 0, none⟩)
 e5 : X.a0.eval (.tmp 5) = .int .i64 (X.k : Int)
 e8 : X.a0.eval (.tmp 8) = .int .i64 (X.n : Int)
 sz : X.a0.tmps.size = 103
def SP22.val0 (X : SP22) : Nat → Value
 | 0 => .string X.s
 | 4 => .pointer (some ⟨X.bx, 0, none⟩)
 | 5 => .int .i64 (X.k : Int)
 | 8 => .int .i64 (X.n : Int)
 | 81 => .pointer (some ⟨X.bx, 2, none⟩)
 | 82 => .slice X.va X.l.length X.vc
 | 83 => .string X.s
 | 84 => .int .i64 (X.k : Int)
 | 85 => .int .i64 ((X.k : Int) + 1)
 | 86 => .int .i64 (X.k : Int)
 | 87 => .int .i64 ((X.k : Int) + 1)
 | 88 => .int .i64 (X.n : Int)
 | 89 => .int .i64 ((X.k : Int) + 1 + (X.n : Int))
 | 90 => .string (X.s.extract (X.k + 1) (X.k + 1 + X.n))
 | 93 => .pointer (some ⟨X.bx, 2, none⟩)
 | _ => undef
def SP22.av : Nat → Option Nat
 | 91 => some 0
 | 92 => some 1
 | _ => none
def SP22.acts : List Nat := [10, 11, 13]
/-- The world, by how many of the acting ones have come up. -/
def SP22.Wd (X : SP22) : Nat → (Nat → Value) → World → Prop
  | 0, _, w => Nw X.W w
  | 1, γ, w => ∃ w1, Nw X.W w1 ∧ γ 0 = .slice (some ⟨w1.heap.size, 0, none⟩) 1 1 ∧ w = w1.alloc (.cells #[.string (X.s.extract (X.k + 1) (X.k + 1 + X.n))] 9)
  | 2, γ, w => ∃ w1, Nw X.W w1 ∧ Txs w (X.bx + 1) (γ 1) (X.l ++ [X.s.extract (X.k + 1) (X.k + 1 + X.n)]) ∧ Ext (.slice X.va X.l.length X.vc) (γ 1) w1 w
  | _, γ, w => ∃ w1 w2, Nw X.W w1 ∧ Txs w2 (X.bx + 1) (γ 1) (X.l ++ [X.s.extract (X.k + 1) (X.k + 1 + X.n)]) ∧ Ext (.slice X.va X.l.length X.vc) (γ 1) w1 w2 ∧ w = w2.setCell ⟨X.bx, 2, none⟩ (γ 1)
theorem SP22.chain : chainG (opsOf 22 Tryz.f114) SP22.acts = true := by kernel_rfl
theorem SP22.nodup : SP22.acts.Nodup := by decide
def SP22.L : List (Option Nat × Op × Option (Nat × Bool)) := [
 (some 81, .fieldAddr 67 (.tmp 4) 2, none),
 (some 82, .load 65 (.tmp 81), none),
 (some 83, .move (.tmp 0), none),
 (some 84, .move (.tmp 5), none),
 (some 85, .binOp .add 3 (.tmp 84) (.const (.int .i64 1)) 3, none),
 (some 86, .move (.tmp 5), none),
 (some 87, .binOp .add 3 (.tmp 86) (.const (.int .i64 1)) 3, none),
 (some 88, .move (.tmp 8), none),
 (some 89, .binOp .add 3 (.tmp 87) (.tmp 88) 3, none),
 (some 90, .slice 9 (.tmp 83) (some (.tmp 85)) (some (.tmp 89)) none, none),
 (some 91, .buildSlice 65 1 #[(0, (.tmp 90))], none),
 (some 92, .call { callee := .builtin .append, args := #[(.tmp 82), (.tmp 91)], argTypes := #[65, 65] }, none),
 (some 93, .fieldAddr 67 (.tmp 4) 2, none),
 (none, .store 65 (.tmp 93) (.tmp 92), none)]
theorem SP22.isL : (opsOf 22 Tryz.f114).toList.map tri = SP22.L := by kernel_rfl
theorem SP22.ini {X : SP22} (ok : SP22Ok X) : ∀ n ∈ [0, 4, 5, 8], X.a0.eval (.tmp n) = X.val0 n := by
 simp only [List.forall_mem_cons]
 exact ⟨ok.e0, ok.e4, ok.e5, ok.e8, List.forall_mem_nil _⟩
abbrev SP22.St (X : SP22) (Q : Exit → Act → World → Prop) (i : Nat) : Prop := StepG (opsOf 22 Tryz.f114) SP22.acts SP22.av X.val0 X.Wd X.a0 Q i
theorem SP22.plain (X : SP22) (ok : SP22Ok X) {Q : Exit → Act → World → Prop} : ∀ i ∈ [0, 2, 3, 4, 5, 6, 7, 8, 12], SP22.St X Q i := by
 simp only [List.forall_mem_cons]
 refine ⟨?_, ?_, ?_, ?_, ?_, ?_, ?_, ?_, ?_, List.forall_mem_nil _⟩
 all_goals
  refine st_plain SP22.isL (SP22.ini ok) ok.sz rfl (by kernel_rfl) ?_
  intro γ w n o hW hop
  unfold execOp
  rw [hop]
  simp [envR, valG, SP22.av, SP22.val0, ok.w1, ok.w2, go_sem]
theorem SP22.s1 (X : SP22) (ok : SP22Ok X) {Q : Exit → Act → World → Prop} : SP22.St X Q 1 := by
 intro γ listed a w o hF hC hW h1 ho h2
 obtain ⟨hd, hop, hg⟩ := fieldsL SP22.isL (i := 1) rfl ho
 have e81 : a.eval (.tmp 81) = .pointer (some ⟨X.bx, 2, none⟩) := known hF ho h2 (SP22.ini ok) ok.sz (by kernel_rfl)
 have hph := phase_leG (acts := SP22.acts) (m := 1) (x := 11) hC (unl (hF.lt ho) h1) rfl [1] (by kernel_rfl) (by decide)
 have hWW := hW
 generalize phase listed SP22.acts = n at hph hWW
 have hk : Nw X.W w := by
  rcases (show n = 0 ∨ n = 1 by omega) with rfl | rfl
  ·exact hWW
  ·obtain ⟨w1, k1, _, rfl⟩ := hWW
   exact Nw.trans k1 ((Below.refl _ _).alloc (Nat.le_refl _) _)
 have hc := (ok.cb.nw hk).c2
 refine st_pureG hF hC hW ho h2 (by decide) hd hg rfl ?_
 show _ = Result.ok (Next.value (.slice X.va X.l.length X.vc)) w
 generalize a.eval = ρ at e81 ⊢
 unfold execOp
 rw [hop]
 simp [e81, hc, go_sem]
theorem SP22.s9 (X : SP22) (ok : SP22Ok X) {Q : Exit → Act → World → Prop} : SP22.St X Q 9 := by
 intro γ listed a w o hF hC hW h1 ho h2
 obtain ⟨hd, hop, hg⟩ := fieldsL SP22.isL (i := 9) rfl ho
 have e83 : a.eval (.tmp 83) = .string X.s := known hF ho h2 (SP22.ini ok) ok.sz (by kernel_rfl)
 have e85 : a.eval (.tmp 85) = .int .i64 ((X.k : Int) + 1) := known hF ho h2 (SP22.ini ok) ok.sz (by kernel_rfl)
 have e89 : a.eval (.tmp 89) = .int .i64 ((X.k : Int) + 1 + (X.n : Int)) := known hF ho h2 (SP22.ini ok) ok.sz (by kernel_rfl)
 refine st_pureG hF hC hW ho h2 (by decide) hd hg rfl ?_
 show _ = Result.ok (Next.value (.string (X.s.extract (X.k + 1) (X.k + 1 + X.n)))) w
 generalize a.eval = ρ at e83 e85 e89 ⊢
 unfold execOp
 rw [hop]
 simp [e83, e85, e89, ok.c1, ok.c2, ok.c3, ok.t1, ok.t2, go_sem]
theorem SP22.s10 (X : SP22) (ok : SP22Ok X) {Q : Exit → Act → World → Prop} : SP22.St X Q 10 := by
 intro γ listed a w o hF hC hW h1 ho h2
 obtain ⟨hd, hop, hg⟩ := fieldsL SP22.isL (i := 10) rfl ho
 have e90 : a.eval (.tmp 90) = .string (X.s.extract (X.k + 1) (X.k + 1 + X.n)) := known hF ho h2 (SP22.ini ok) ok.sz (by kernel_rfl)
 have hu := unl (hF.lt ho) h1
 refine st_actG (k := 0) SP22.chain SP22.nodup rfl hF hC hW h1 ho h2 (Or.inr ⟨91, hd, rfl⟩) (injG (by kernel_rfl) hu) hg ?_
 intro hW0 K hK
 have k0 : Nw X.W w := hW0
 have hr : (execOp a.eval o).run Tryz.prog w = .ok (.value (.slice (some ⟨w.heap.size, 0, none⟩) 1 1)) (w.alloc (.cells #[.string (X.s.extract (X.k + 1) (X.k + 1 + X.n))] 9)) := by
  generalize a.eval = ρ at e90 ⊢
  unfold execOp
  rw [hop]
  simp [e90, go_sem]
 unfold Oper.wp
 rw [hr]
 exact hK _ _ ⟨w, k0, rfl, rfl⟩
theorem SP22.s11 (X : SP22) (ok : SP22Ok X) {Q : Exit → Act → World → Prop} : SP22.St X Q 11 := by
 intro γ listed a w o hF hC hW h1 ho h2
 obtain ⟨hd, hop, hg⟩ := fieldsL SP22.isL (i := 11) rfl ho
 have e82 : a.eval (.tmp 82) = .slice X.va X.l.length X.vc := known hF ho h2 (SP22.ini ok) ok.sz (by kernel_rfl)
 have e91 : a.eval (.tmp 91) = γ 0 := known hF ho h2 (SP22.ini ok) ok.sz (by kernel_rfl)
 have hu := unl (hF.lt ho) h1
 refine st_actG (k := 1) SP22.chain SP22.nodup rfl hF hC hW h1 ho h2 (Or.inr ⟨92, hd, rfl⟩) (injG (by kernel_rfl) hu) hg ?_
 intro hW0 K hK
 obtain ⟨w1, k1, g0, rfl⟩ := hW0
 rw [g0] at e91
 have lb := ok.cb.nw k1
 have n1 : Nw w1 (w1.alloc (.cells #[.string (X.s.extract (X.k + 1) (X.k + 1 + X.n))] 9)) := (Below.refl _ _).alloc (Nat.le_refl _) _
 refine wpk_tx _ (.tmp 82) (.tmp 91) hop (X.bx + 1) (.slice X.va X.l.length X.vc) X.l (X.s.extract (X.k + 1) (X.k + 1 + X.n)) e82 (lb.own.nw n1) w1.heap.size e91 (by simp) (by have := ok.len; omega) (by have := lb.lt; simp; omega) ?_
 intro v' w' h3 h4
 exact hK _ _ ⟨w1, k1, h3, n1.ext h4⟩
theorem SP22.s13 (X : SP22) (ok : SP22Ok X) {Q : Exit → Act → World → Prop} : SP22.St X Q 13 := by
 intro γ listed a w o hF hC hW h1 ho h2
 obtain ⟨hd, hop, hg⟩ := fieldsL SP22.isL (i := 13) rfl ho
 have e93 : a.eval (.tmp 93) = .pointer (some ⟨X.bx, 2, none⟩) := known hF ho h2 (SP22.ini ok) ok.sz (by kernel_rfl)
 have e92 : a.eval (.tmp 92) = γ 1 := known hF ho h2 (SP22.ini ok) ok.sz (by kernel_rfl)
 have hu := unl (hF.lt ho) h1
 refine st_actG (k := 2) SP22.chain SP22.nodup rfl hF hC hW h1 ho h2 (Or.inl hd) (injG (by kernel_rfl) hu) hg ?_
 intro hW0 K hK
 obtain ⟨w1, k1, o1, x1⟩ := hW0
 obtain ⟨t0, tf⟩ := (ok.cb.nw k1).there x1
 obtain ⟨sa, sc, g1⟩ := o1.slice
 have hr : (execOp a.eval o).run Tryz.prog w = .ok .skip (w.setCell ⟨X.bx, 2, none⟩ (γ 1)) := by
  rw [g1] at e92 ⊢
  generalize a.eval = ρ at e92 e93 ⊢
  unfold execOp
  rw [hop]
  simp [e92, e93, t0, tf, go_sem]
 unfold Oper.wp
 rw [hr]
 exact hK _ _ ⟨w1, w, k1, o1, x1, rfl⟩
theorem SP22.size : (opsOf 22 Tryz.f114).size = 14 := by kernel_rfl
theorem SP22.rest (X : SP22) (ok : SP22Ok X) {Q : Exit → Act → World → Prop} : ∀ i ∈ [1, 9, 10, 11, 13], SP22.St X Q i := by
 simp only [List.forall_mem_cons]
 exact ⟨SP22.s1 X ok,
  SP22.s9 X ok,
  SP22.s10 X ok,
  SP22.s11 X ok,
  SP22.s13 X ok, List.forall_mem_nil _⟩
theorem SP22.steps (X : SP22) (ok : SP22Ok X) {Q : Exit → Act → World → Prop} (i : Nat) (hi : i < (opsOf 22 Tryz.f114).size) : SP22.St X Q i := by
 rw [SP22.size] at hi
 rcases (by decide : ∀ i, i < 14 → i ∈ [0, 2, 3, 4, 5, 6, 7, 8, 12] ∨ i ∈ [1, 9, 10, 11, 13]) i hi with h | h
 · exact SP22.plain X ok i h
 · exact SP22.rest X ok i h
/-- The region, whatever order comes up. -/
theorem SP22.run (X : SP22) (ok : SP22Ok X) {Q : Exit → Act → World → Prop} (w : World) (h0 : X.Wd 0 (fun _ => undef) w.drew) (hend : ∀ (γ : Nat → Value) w', X.Wd 3 γ w' → Q .normal (((((((((((((X.a0.put (some 81) (.pointer (some ⟨X.bx, 2, none⟩))).put (some 82) (.slice X.va X.l.length X.vc)).put (some 83) (.string X.s)).put (some 84) (.int .i64 (X.k : Int))).put (some 85) (.int .i64 ((X.k : Int) + 1))).put (some 86) (.int .i64 (X.k : Int))).put (some 87) (.int .i64 ((X.k : Int) + 1))).put (some 88) (.int .i64 (X.n : Int))).put (some 89) (.int .i64 ((X.k : Int) + 1 + (X.n : Int)))).put (some 90) (.string (X.s.extract (X.k + 1) (X.k + 1 + X.n)))).put (some 91) (γ 0)).put (some 92) (γ 1)).put (some 93) (.pointer (some ⟨X.bx, 2, none⟩))) w') : (Code.region 22 (opsOf 22 Tryz.f114) true).wp Tryz.prog Q X.a0 w := by
 refine reg_act (acts := SP22.acts) (av := SP22.av) (val0 := X.val0) (Wd := X.Wd) (by kernel_rfl) (by kernel_rfl) (by rw [SP22.size]; decide) (fun i hi => SP22.steps X ok i hi) _ h0 ?_
 intro γ w' h
 exact end_at (hend γ w' h) (by kernel_rfl)
end Go.Proofs.YtnkmdmmlpidcmaaGreatDoor
namespace Go.Proofs.YtnkmdmmlpidcmaaGreatDoor
open Go.ChangeShapes Go.WideShapes Go.ChangeAt Go.RowKit
set_option linter.unusedVariables false

theorem srunL (w : World) (s : ByteArray) (hs : s.size ≤ 1048576) : Calls Tryz.prog 105 #[.string s] w fun e w' => e = .returned (.int .i64 (runL s.data.toList : Nat)) ∧ w' = w := by
  refine (srun w s hs).mono ?_
  rintro e w' ⟨⟨n, h1, rfl⟩, rfl⟩
  exact ⟨by rw [lead_run h1], rfl⟩
theorem runL_le (l : List UInt8) : runL l ≤ l.length := by
  by_cases h : runL l = 0
  · rw [h]; exact Nat.zero_le _
  · exact (run_pos h).2.2
theorem clsS_fuel : ∀ (f g : Nat) (l : List UInt8) (acc : List (List UInt8)), l.length < f → l.length < g → clsS f l acc = clsS g l acc := by
  intro f
  induction f with
  | zero => intro g l acc h; omega
  | succ f ih =>
    intro g l acc h1 h2
    cases g with
    | zero => omega
    | succ g =>
      cases l with
      | nil => rfl
      | cons b t =>
        show (if b = 46 then (if runL t = 0 ∨ acc.length = 4 then none else clsS f (t.drop (runL t)) (acc ++ [t.take (runL t)])) else none) = (if b = 46 then (if runL t = 0 ∨ acc.length = 4 then none else clsS g (t.drop (runL t)) (acc ++ [t.take (runL t)])) else none)
        have hl : (t.drop (runL t)).length < f ∧ (t.drop (runL t)).length < g := by
          simp only [List.length_cons] at h1 h2
          rw [List.length_drop]
          omega
        rw [ih g _ _ hl.1 hl.2]
/-- Classes that are still to be read. -/
def clsR (l : List UInt8) (acc : List (List UInt8)) : Option (List (List UInt8)) := clsS (l.length + 1) l acc
theorem clsR_step (t : List UInt8) (acc : List (List UInt8)) (h1 : runL t ≠ 0) (h2 : acc.length ≠ 4) : clsR (46 :: t) acc = clsR (t.drop (runL t)) (acc ++ [t.take (runL t)]) := by
  unfold clsR
  show (if (46 : UInt8) = 46 then (if runL t = 0 ∨ acc.length = 4 then none else clsS _ (t.drop (runL t)) (acc ++ [t.take (runL t)])) else none) = _
  rw [if_pos rfl, if_neg (by omega)]
  exact clsS_fuel _ _ _ _ (by rw [List.length_drop, List.length_cons]; omega) (Nat.lt_succ_self _)
theorem clsR_bad (t : List UInt8) (acc : List (List UInt8)) (h : runL t = 0 ∨ acc.length = 4) : clsR (46 :: t) acc = none := by
  unfold clsR
  show (if (46 : UInt8) = 46 then (if runL t = 0 ∨ acc.length = 4 then none else clsS _ (t.drop (runL t)) (acc ++ [t.take (runL t)])) else none) = _
  rw [if_pos rfl, if_pos h]
theorem clsR_other (b : UInt8) (t : List UInt8) (acc : List (List UInt8)) (h : b ≠ 46) : clsR (b :: t) acc = none := by
  unfold clsR
  show (if b = 46 then _ else none) = none
  rw [if_neg h]
theorem clsR_nil (acc : List (List UInt8)) : clsR [] acc = some acc := rfl
/-- How far the type goes. -/
def tyN (l : List UInt8) : Nat := if l.head? = some 42 then 1 else runL l
theorem tyN_le (l : List UInt8) : tyN l ≤ l.length := by
  unfold tyN
  split
  · cases l with
    | nil => rename_i h; cases h
    | cons b t => simp
  · exact runL_le l
theorem tyS_N (l : List UInt8) : tyS l = (l.take (tyN l), l.drop (tyN l)) := by
  cases l with
  | nil => simp [tyS]
  | cons b t =>
    unfold tyN tyS
    by_cases h : b = 42
    · simp [h]
    · simp [h]
theorem prs_split {l : List UInt8} (h : l ≠ []) : prs l = match idS (l.drop (tyN l)) with
  | none => none
  | some (id, r) => match clsR r [] with
    | none => none
    | some cs => some ⟨l.take (tyN l), id, cs⟩ := by
  unfold prs clsR
  rw [if_neg h, tyS_N]
  rfl
theorem drop_at {l : List UInt8} {i : Nat} (h : i < l.length) : l.drop i = l[i] :: l.drop (i + 1) := List.drop_eq_getElem_cons h
theorem tail_list (s : ByteArray) (k : Nat) : (s.extract k s.size).data.toList = s.data.toList.drop k := by rw [ext_tail, bA_list]
theorem ext_mid (s : ByteArray) (a n : Nat) : s.extract a (a + n) = bA ((s.data.toList.drop a).take n) := by
  rw [ext_bA, List.drop_take, Nat.add_sub_cancel_left]
/-! ### The state -/
theorem CvP.off {b : Nat} {w : World} {p q : ByteArray} {v : Value} {l : List ByteArray} (h : CvP b w p q v l) (b2 o : Nat) (u : Value) (hne : b ≠ b2) (hv : v.ownBlock ≠ some b2) : CvP b (w.setCell ⟨b2, o, none⟩ u) p q v l := by
  have far : ∀ x, (w.setCell ⟨b2, o, none⟩ u).cell? ⟨b, x, none⟩ = w.cell? ⟨b, x, none⟩ := fun x => World.cell?_setCell_other _ _ _ _ (fun e => by injection e; omega)
  exact ⟨(far 0).trans h.c0, (far 1).trans h.c1, (far 2).trans h.c2, fun x => by rw [World.frozen?_setCell]; exact h.free x, Txs.far h.own _ _ _ hv⟩
theorem CvP.low {b B : Nat} {w w' : World} {p q : ByteArray} (h : CvP b w p q (.slice none 0 0) []) (k : Below B w w') (hb : b < B) : CvP b w' p q (.slice none 0 0) [] :=
  ⟨(Below.cell k (p := ⟨b, 0, none⟩) hb).trans h.c0, (Below.cell k (p := ⟨b, 1, none⟩) hb).trans h.c1, (Below.cell k (p := ⟨b, 2, none⟩) hb).trans h.c2, fun o => (Below.frozen k (p := ⟨b, o, none⟩) hb).trans (h.free o), Txs.nil _ _⟩
theorem CvP.ty {b : Nat} {w : World} {p q : ByteArray} {v : Value} {l : List ByteArray} (h : CvP b w p q v l) (p' : ByteArray) : CvP b (w.setCell ⟨b, 0, none⟩ (.string p')) p' q v l := by
  have far : ∀ x, x ≠ 0 → (w.setCell ⟨b, 0, none⟩ (.string p')).cell? ⟨b, x, none⟩ = w.cell? ⟨b, x, none⟩ := fun x hx => World.cell?_setCell_other _ _ _ _ (fun e => by injection e; omega)
  exact ⟨World.cell?_setCell_same w ⟨b, 0, none⟩ _ h.c0, (far 1 (by omega)).trans h.c1, (far 2 (by omega)).trans h.c2, fun x => by rw [World.frozen?_setCell]; exact h.free x, Txs.far h.own _ _ _ h.ne⟩
theorem CvP.id {b : Nat} {w : World} {p q : ByteArray} {v : Value} {l : List ByteArray} (h : CvP b w p q v l) (q' : ByteArray) : CvP b (w.setCell ⟨b, 1, none⟩ (.string q')) p q' v l := by
  have far : ∀ x, x ≠ 1 → (w.setCell ⟨b, 1, none⟩ (.string q')).cell? ⟨b, x, none⟩ = w.cell? ⟨b, x, none⟩ := fun x hx => World.cell?_setCell_other _ _ _ _ (fun e => by injection e; omega)
  exact ⟨(far 0 (by omega)).trans h.c0, World.cell?_setCell_same w ⟨b, 1, none⟩ _ h.c1, (far 2 (by omega)).trans h.c2, fun x => by rw [World.frozen?_setCell]; exact h.free x, Txs.far h.own _ _ _ h.ne⟩
structure PSt (w wx : World) (ty id : ByteArray) (v : Value) (cls : List ByteArray) : Prop where
  box : CvP (w.heap.size + 1) wx ty id v cls
  z : CvP w.heap.size wx ⟨#[]⟩ ⟨#[]⟩ (.slice none 0 0) []
  nw : Nw w wx
theorem PSt.ty {w wx : World} {ty id : ByteArray} {v : Value} {cls : List ByteArray} (h : PSt w wx ty id v cls) (ty' : ByteArray) : PSt w (wx.setCell ⟨w.heap.size + 1, 0, none⟩ (.string ty')) ty' id v cls :=
  ⟨h.box.ty ty', h.z.off _ _ _ (by omega) (by simp [Value.ownBlock]), h.nw.setCell (by simp) _⟩
theorem PSt.id {w wx : World} {ty id : ByteArray} {v : Value} {cls : List ByteArray} (h : PSt w wx ty id v cls) (id' : ByteArray) : PSt w (wx.setCell ⟨w.heap.size + 1, 1, none⟩ (.string id')) ty id' v cls :=
  ⟨h.box.id id', h.z.off _ _ _ (by omega) (by simp [Value.ownBlock]), h.nw.setCell (by simp) _⟩
theorem PSt.go {w wx wy : World} {ty id : ByteArray} {v : Value} {cls : List ByteArray} (h : PSt w wx ty id v cls) (k : Nw wx wy) : PSt w wy ty id v cls := ⟨h.box.nw k, h.z.nw k, Nw.trans h.nw k⟩
theorem PSt.put {w wx w' : World} {ty id : ByteArray} {v v' : Value} {cls cls' : List ByteArray} (h : PSt w wx ty id v cls) (k : Ext v v' wx w') (ho : Txs w' (w.heap.size + 1 + 1) v' cls') : PSt w (w'.setCell ⟨w.heap.size + 1, 2, none⟩ v') ty id v' cls' := by
  obtain ⟨h1, h2⟩ := h.box.put k ho
  exact ⟨h1, h.z.low h2 (Nat.lt_succ_self _), Below.trans h.nw (Below.mono h2 (by omega))⟩
theorem PSt.new (w : World) (t : TypeId) : PSt w ((w.alloc (.cells #[.string ⟨#[]⟩, .string ⟨#[]⟩, .slice none 0 0] t)).alloc (.cells #[.string ⟨#[]⟩, .string ⟨#[]⟩, .slice none 0 0] t)) ⟨#[]⟩ ⟨#[]⟩ (.slice none 0 0) [] := by
  have h1 := CvP.new w t ⟨#[]⟩ ⟨#[]⟩
  have h2 := CvP.new (w.alloc (.cells #[.string ⟨#[]⟩, .string ⟨#[]⟩, .slice none 0 0] t)) t ⟨#[]⟩ ⟨#[]⟩
  rw [World.size_alloc] at h2
  exact ⟨h2, h1.nw ((Below.refl _ _).alloc (Nat.le_refl _) _), (((Below.refl _ _).alloc (Nat.le_refl _) _).alloc (by simp) _)⟩
theorem PSt.done {w w9 : World} {ty id : ByteArray} {va : Option Addr} {vc : Nat} {D : List ByteArray} (h : PSt w w9 ty id (.slice va D.length vc) D) (u0 u1 u2 : Value) :
    RowM 1 EStr (((w9.setCell ⟨w.heap.size, 0, none⟩ u0).setCell ⟨w.heap.size, 1, none⟩ u1).setCell ⟨w.heap.size, 2, none⟩ u2) (.slice va D.length vc) D (iv w (((w9.setCell ⟨w.heap.size, 0, none⟩ u0).setCell ⟨w.heap.size, 1, none⟩ u1).setCell ⟨w.heap.size, 2, none⟩ u2)) := by
  have hne : (Value.slice va D.length vc).ownBlock ≠ some w.heap.size := fun e => by have := (World.ownsRow.lt h.box.own _ e).1; omega
  exact RowM.ofTxs (((h.box.own.far _ _ _ hne).far _ _ _ hne).far _ _ _ hne) (fun b h1 h2 => ⟨by omega, h2⟩)
end Go.Proofs.YtnkmdmmlpidcmaaGreatDoor
namespace Go.Proofs.YtnkmdmmlpidcmaaGreatDoor
open Go.ChangeShapes Go.WideShapes Go.ChangeAt Go.RowKit
set_option linter.unusedVariables false

theorem hd_byte (s : ByteArray) (k : Nat) (h : k < s.size) : s.data.toList.drop k = s[k] :: s.data.toList.drop (k + 1) := by
  rw [drop_at (by rw [data_len]; exact h), getB s k h]
theorem hd_some (s : ByteArray) (k : Nat) (h : k < s.size) : (s.data.toList.drop k).head? = some s[k] := by rw [hd_byte s k h]; rfl
theorem hd_none (s : ByteArray) (k : Nat) (h : ¬ k < s.size) : s.data.toList.drop k = [] := List.drop_eq_nil_of_le (by rw [data_len]; omega)
theorem byte_ne {b : UInt8} (n : Nat) (hn : n < 256) (h : b ≠ UInt8.ofNat n) : ((b.toNat : Int) == (n : Int)) = false ∧ ((b.toNat : Int) != (n : Int)) = true := by
  have e : ((b.toNat : Int) == (n : Int)) = false := by
    rw [beq_eq_false_iff_ne]
    intro e
    apply h
    apply UInt8.toNat_inj.1
    have : (UInt8.ofNat n).toNat = n := UInt8.toNat_ofNat_of_lt (by simpa using hn)
    rw [this]
    omega
  exact ⟨e, by rw [bne, e]; rfl⟩
theorem ext_one (s : ByteArray) (k : Nat) (h : k < s.size) : (s.extract k (k + 1)).data.toList = [s[k]] := by
  rw [ext_mid, bA_list, hd_byte s k h]
  rfl
set_option maxRecDepth 100000 in
set_option maxHeartbeats 8000000 in
theorem sbare (s : ByteArray) (w : World) (hs : s.size ≤ 1048576) :
    Calls Tryz.prog 78 #[.string s] w fun e w' => e = .returned (.string (bareB s)) ∧ w' = w := by
  go_enter Tryz.func78, Tryz.ntmps78
  go_wp2
  go_loop [3, 4] (fun v i => ∃ (pos : Nat) (acc : ByteArray), i = .int .i64 (pos : Int) ∧ v = .string acc ∧ pos ≤ s.size + 2 ∧ acc.data.toList ++ bareL (s.data.toList.drop pos) = bareL s.data.toList) (fun _ i => s.size + 2 - (intOf i).toNat)
  case atStart => exact ⟨0, ⟨#[]⟩, rfl, rfl, by omega, rfl⟩
  case round =>
    obtain ⟨pos, acc, rfl, rfl, hp, hbr⟩ := hrel
    have hac : acc.size ≤ 1048576 := by
      have h1 := congrArg List.length hbr
      have h2 := bareL_len _ s.data.toList (Nat.le_refl _)
      rw [List.length_append, data_len] at h1
      rw [data_len] at h2
      omega
    by_cases hlt : pos < s.size
    · have hd := hd_byte s pos hlt
      have hltI : (pos : Int) < (s.size : Int) := by omega
      have hsz : (s.extract pos (pos + 1)).size ≤ 1048576 := by rw [ByteArray.size_extract]; omega
      have hone := ext_one s pos hlt
      by_cases hC : s[pos] = 47 ∧ (s.data.toList.drop (pos + 1)).head? = some 42
      · have hl1 : pos + 1 < s.size := by
          by_cases h : pos + 1 < s.size
          · exact h
          · rw [hd_none s _ h] at hC; exact absurd hC.2 (by simp)
        have h42 : s[pos + 1] = 42 := by have := hC.2; rw [hd_some s _ hl1] at this; injection this
        have g1 : ((s[pos].toNat : Int) == 47) = true := by rw [hC.1]; rfl
        have g1' : ((s[pos].toNat : Int) != 47) = false := by rw [hC.1]; rfl
        have g2 : ((s[pos + 1].toNat : Int) == 42) = true := by rw [h42]; rfl
        have g2' : ((s[pos + 1].toNat : Int) != 42) = false := by rw [h42]; rfl
        have hge : ¬ ((s.size : Int) ≤ (pos : Int) + 1) := by omega
        have HBR : Hid (∀ k, skipC (s.data.toList.drop (pos + 2)) = s.data.toList.drop (k + 2) → (acc ++ ⟨#[32]⟩).data.toList ++ bareL (s.data.toList.drop (k + 2)) = bareL s.data.toList) := by
          intro k hk
          rw [← hk, ← hbr, hd, hC.1, bareL_begin _ hC.2, List.tail_drop]
          simp
        clear hd hone hC h42 hsz hbr
        go_wp2
        go_loop [5] (fun v => ∃ k : Nat, v = .int .i64 (k : Int) ∧ pos + 2 ≤ k ∧ k ≤ s.size ∧ skipC (s.data.toList.drop (pos + 2)) = skipC (s.data.toList.drop k)) (fun v => s.size - (intOf v).toNat)
        case atStart => exact ⟨pos + 2, by go_num, Nat.le_refl _, by omega, rfl⟩
        case round =>
          obtain ⟨k, rfl, hk1, hk2, hsk⟩ := hrel
          by_cases hkl : k < s.size
          · have hkI : (k : Int) < (s.size : Int) := by omega
            have hdk := hd_byte s k hkl
            by_cases hE : s[k] = 42 ∧ (s.data.toList.drop (k + 1)).head? = some 47
            · have hl2 : k + 1 < s.size := by
                by_cases h : k + 1 < s.size
                · exact h
                · rw [hd_none s _ h] at hE; exact absurd hE.2 (by simp)
              have h47 : s[k + 1] = 47 := by have := hE.2; rw [hd_some s _ hl2] at this; injection this
              have f1 : ((s[k].toNat : Int) == 42) = true := by rw [hE.1]; rfl
              have f2 : ((s[k + 1].toNat : Int) == 47) = true := by rw [h47]; rfl
              have hl2I : (k : Int) + 1 < (s.size : Int) := by omega
              have HO : Hid _ := HBR.out k (by rw [hsk, hdk, hE.1, skipC_end _ hE.2, List.tail_drop])
              clear hdk hE h47 hsk
              go_wp2
              go_round
              case rel => exact ⟨k + 2, _, by go_num, by first | rfl | simp, by omega, HO.out⟩
              case measure => simp [intOf]; omega
            · have HK : Hid (skipC (s.data.toList.drop (pos + 2)) = skipC (s.data.toList.drop (k + 1))) := by show _ = _; rw [hsk, hdk, skipC_step _ _ hE]
              by_cases e1 : s[k] = 42
              · have f1 : ((s[k].toNat : Int) == 42) = true := by rw [e1]; rfl
                by_cases hl2 : k + 1 < s.size
                · have hl2I : (k : Int) + 1 < (s.size : Int) := by omega
                  have e2 : s[k + 1] ≠ 47 := fun h => hE ⟨e1, by rw [hd_some s _ hl2, h]⟩
                  have f2 : ((s[k + 1].toNat : Int) == 47) = false := (byte_ne 47 (by omega) e2).1
                  clear hdk hE hsk e1 e2
                  go_wp2
                  go_round
                  case rel => exact ⟨k + 1, by go_num, by omega, by omega, HK.out⟩
                  case measure => simp [intOf]; omega
                · have hl2I : ¬ ((k : Int) + 1 < (s.size : Int)) := by omega
                  clear hdk hE hsk e1
                  go_wp2
                  go_round
                  case rel => exact ⟨k + 1, by go_num, by omega, by omega, HK.out⟩
                  case measure => simp [intOf]; omega
              · have f1 : ((s[k].toNat : Int) == 42) = false := (byte_ne 42 (by omega) e1).1
                clear hdk hE hsk e1
                go_wp2
                go_round
                case rel => exact ⟨k + 1, by go_num, by omega, by omega, HK.out⟩
                case measure => simp [intOf]; omega
          · have hkI : ¬ ((k : Int) < (s.size : Int)) := by omega
            have HO : Hid _ := HBR.out k (by rw [hsk, hd_none s k hkl, hd_none s (k + 2) (by omega)]; rfl)
            clear hsk
            go_wp2
            go_round
            case rel => exact ⟨k + 2, _, by go_num, by first | rfl | simp, by omega, HO.out⟩
            case measure => simp [intOf]; omega
      · have HS : Hid ((acc ++ s.extract pos (pos + 1)).data.toList ++ bareL (s.data.toList.drop (pos + 1)) = bareL s.data.toList) := by
          show _ = _
          rw [← hbr, hd, bareL_step _ _ hC]
          simp only [ByteArray.data_append, Array.toList_append, hone, List.append_assoc]
          rfl
        by_cases e1 : s[pos] = 47
        · have g1 : ((s[pos].toNat : Int) == 47) = true := by rw [e1]; rfl
          have g1' : ((s[pos].toNat : Int) != 47) = false := by rw [e1]; rfl
          by_cases hl1 : pos + 1 < s.size
          · have hge : ¬ ((s.size : Int) ≤ (pos : Int) + 1) := by omega
            have e2 : s[pos + 1] ≠ 42 := fun h => hC ⟨e1, by rw [hd_some s _ hl1, h]⟩
            have g2 : ((s[pos + 1].toNat : Int) == 42) = false := (byte_ne 42 (by omega) e2).1
            have g2' : ((s[pos + 1].toNat : Int) != 42) = true := (byte_ne 42 (by omega) e2).2
            clear hd hC hbr e1 e2 hone
            go_wp2
            go_round
            case rel => exact ⟨pos + 1, _, by go_num, by first | rfl | simp, by omega, HS.out⟩
            case measure => simp [intOf]; omega
          · have hge : (s.size : Int) ≤ (pos : Int) + 1 := by omega
            clear hd hC hbr e1 hone
            go_wp2
            go_round
            case rel => exact ⟨pos + 1, _, by go_num, by first | rfl | simp, by omega, HS.out⟩
            case measure => simp [intOf]; omega
        · have g1 : ((s[pos].toNat : Int) == 47) = false := (byte_ne 47 (by omega) e1).1
          have g1' : ((s[pos].toNat : Int) != 47) = true := (byte_ne 47 (by omega) e1).2
          clear hd hC hbr e1 hone
          go_wp2
          go_round
          case rel => exact ⟨pos + 1, _, by go_num, by first | rfl | simp, by omega, HS.out⟩
          case measure => simp [intOf]; omega
    · have hltI : ¬ ((pos : Int) < (s.size : Int)) := by omega
      have HR : Hid (acc = bareB s) := by
        show _ = _
        rw [hd_none s pos hlt, bareL_nil, List.append_nil] at hbr
        unfold bareB
        rw [← hbr, bA_data]
      clear hbr
      go_wp2
      go_ret
      exact ⟨by rw [HR.out]; rfl, rfl⟩
end Go.Proofs.YtnkmdmmlpidcmaaGreatDoor
namespace Go.Proofs.YtnkmdmmlpidcmaaGreatDoor
open Go.ChangeShapes Go.WideShapes Go.ChangeAt Go.RowKit
set_option linter.unusedVariables false

theorem head_byte (s : ByteArray) (k : Nat) (h : k < s.size) : s.data.toList.drop k = s[k] :: s.data.toList.drop (k + 1) := by
  rw [drop_at (by rw [data_len]; exact h), getB s k h]
theorem byte_no {b : UInt8} (n : Nat) (hn : n < 256) (h : b ≠ UInt8.ofNat n) : ((b.toNat : Int) == (n : Int)) = false := by
  rw [beq_eq_false_iff_ne]
  intro e
  apply h
  apply UInt8.toNat_inj.1
  have : (UInt8.ofNat n).toNat = n := UInt8.toNat_ofNat_of_lt (by simpa using hn)
  rw [this]
  omega
theorem idS_bad {t : List UInt8} (h : runL t = 0) : idS (35 :: t) = none := by
  show (if (35 : UInt8) = 35 then (if runL t = 0 then none else some (t.take (runL t), t.drop (runL t))) else some ([], 35 :: t)) = none
  rw [if_pos rfl, if_pos h]
theorem idS_hit {t : List UInt8} (h : ¬ runL t = 0) : idS (35 :: t) = some (t.take (runL t), t.drop (runL t)) := by
  show (if (35 : UInt8) = 35 then (if runL t = 0 then none else some (t.take (runL t), t.drop (runL t))) else some ([], 35 :: t)) = _
  rw [if_pos rfl, if_neg h]
/-- What an early end says. -/
theorem PSt.out {w wx : World} {ty id : ByteArray} {v : Value} {cls : List ByteArray} (h : PSt w wx ty id v cls) (u0 u1 u2 : Value) : Nw w (((wx.setCell ⟨w.heap.size, 0, none⟩ u0).setCell ⟨w.heap.size, 1, none⟩ u1).setCell ⟨w.heap.size, 2, none⟩ u2) :=
  ((Below.setCell h.nw (Nat.le_refl _) _).setCell (Nat.le_refl _) _).setCell (Nat.le_refl _) _
set_option maxRecDepth 100000 in
set_option maxHeartbeats 8000000 in
theorem spart (w : World) (s : ByteArray) (hs : s.size ≤ 1048576) :
    Calls Tryz.prog 114 #[.string s] w fun e w' => PartSays s w w' e ∧ Nw w w' := by
  by_cases h0 : s.size = 0
  · obtain rfl := empty_of h0
    have HP : Hid (prP ⟨#[]⟩ = none) := rfl
    clear h0 hs
    have HS0 : Hid (PSt w _ ⟨#[]⟩ ⟨#[]⟩ (.slice none 0 0) []) := PSt.new w 67
    go_enter Tryz.func114, Tryz.ntmps114
    go_upto_if 11 with fail
    obtain ⟨⟨b0, b1, b2, bf, _⟩, ⟨z0, z1, z2, zf, _⟩, _⟩ := HS0.out
    generalize ((w.alloc (.cells #[.string ⟨#[]⟩, .string ⟨#[]⟩, .slice none 0 0] 67)).alloc (.cells #[.string ⟨#[]⟩, .string ⟨#[]⟩, .slice none 0 0] 67)) = W at *
    obtain ⟨y0, y1, y2⟩ := set3c W w.heap.size (.string ⟨#[]⟩) (.string ⟨#[]⟩) (.slice none 0 0) z0 z1 z2
    go_wp2
    refine bodyPost_ret (v := .tuple #[.agg #[.string ⟨#[]⟩, .string ⟨#[]⟩, .slice none 0 0], .bool false]) (by simp [results, Tryz.results114, go_sem, y0, y1, y2]) rfl ⟨Or.inr ⟨HP.out, _, _, _, _, _, rfl⟩, ?_⟩
    exact HS0.out.out _ _ _
  · have h1 : 0 < s.size := by omega
    have n1 := ne_nil h1
    have n2 := ne_emp h1
    have hnl : s.data.toList ≠ [] := fun e => h0 (by rw [← data_len, e]; rfl)
    have HPS : Hid _ := prs_split hnl
    have HT : Hid (tyN s.data.toList = if s[0] = 42 then 1 else runL s.data.toList) := by
      show _ = _
      have hh : s.data.toList.head? = some s[0] := by
        have := head_byte s 0 h1
        rw [List.drop_zero] at this
        rw [this]; rfl
      unfold tyN
      rw [hh]
      simp
    have hTL : tyN s.data.toList ≤ s.size := by rw [← data_len]; exact tyN_le _
    have HX1 : Hid (s[0] = 42 → s.extract 0 1 = ⟨#[42]⟩) := by
      intro h
      rw [ext_head]
      have := head_byte s 0 h1
      rw [List.drop_zero] at this
      rw [this, h]; rfl
    have HX0 : Hid (s.extract 0 0 = ⟨#[]⟩) := by show _ = _; rw [ext_head]; rfl
    have HS0 : Hid (PSt w _ ⟨#[]⟩ ⟨#[]⟩ (.slice none 0 0) []) := PSt.new w 67
    clear hnl h0
    generalize ha1 : tyN s.data.toList = a1 at *
    clear ha1
    go_enter Tryz.func114, Tryz.ntmps114
    go_upto_if 15 with fail
    obtain ⟨⟨b0, b1, b2, bf, _⟩, ⟨z0, z1, z2, zf, _⟩, _⟩ := HS0.out
    generalize ((w.alloc (.cells #[.string ⟨#[]⟩, .string ⟨#[]⟩, .slice none 0 0] 67)).alloc (.cells #[.string ⟨#[]⟩, .string ⟨#[]⟩, .slice none 0 0] 67)) = W at *
    go_cut [5] (fun v wx => v = .int .i64 (a1 : Int) ∧ PSt w wx (s.extract 0 a1) ⟨#[]⟩ (.slice none 0 0) [])
    case first =>
      by_cases h42 : s[0] = 42
      · have g42 : ((s[0].toNat : Int) == 42) = true := by rw [h42]; rfl
        have ha : a1 = 1 := by rw [HT.out, if_pos h42]
        have hx := HX1.out h42
        have HE : Hid (PSt w (W.setCell ⟨w.heap.size + 1, 0, none⟩ (.string ⟨#[42]⟩)) (s.extract 0 a1) ⟨#[]⟩ (.slice none 0 0) []) := by
          show PSt _ _ _ _ _ _
          rw [ha, hx]; exact HS0.out.ty _
        subst ha
        clear hx h42
        go_wp2
        go_meet
        exact ⟨rfl, HE.out⟩
      · have g42 : ((s[0].toNat : Int) == 42) = false := byte_no 42 (by omega) h42
        have ha : a1 = runL s.data.toList := by rw [HT.out, if_neg h42]
        have HRN : Hid (Calls Tryz.prog 105 #[.string s] W fun e w' => e = .returned (.int .i64 (a1 : Nat)) ∧ w' = W) := by rw [ha]; exact srunL W s hs
        clear h42 ha
        by_cases hn : a1 = 0
        · have HE : Hid (PSt w W (s.extract 0 a1) ⟨#[]⟩ (.slice none 0 0) []) := by
            show PSt _ _ _ _ _ _
            rw [hn, HX0.out]; exact HS0.out
          subst hn
          go_wp2_with (go_at_call 105; refine HRN.out.mono ?_; rintro e w' ⟨rfl, hq⟩; have hq2 := hq.symm; clear hq; subst hq2)
          go_meet
          exact ⟨rfl, HE.out⟩
        · have hp : 0 < a1 := by omega
          have HE : Hid (PSt w (W.setCell ⟨w.heap.size + 1, 0, none⟩ (.string (s.extract 0 a1))) (s.extract 0 a1) ⟨#[]⟩ (.slice none 0 0) []) := HS0.out.ty _
          go_wp2_with (go_at_call 105; refine HRN.out.mono ?_; rintro e w' ⟨rfl, hq⟩; have hq2 := hq.symm; clear hq; subst hq2)
          go_meet
          exact ⟨rfl, HE.out⟩
    case rest =>
      obtain ⟨rfl, hst⟩ := hcut
      clear b0 b1 b2 bf z0 z1 z2 zf HX0 HX1 HT
      have HTY : Hid (bA (s.data.toList.take a1) = s.extract 0 a1) := (ext_head s a1).symm
      have HST : Hid (PSt w wc (s.extract 0 a1) ⟨#[]⟩ (.slice none 0 0) []) := hst
      generalize s.extract 0 a1 = ty at *
      clear hst
      go_upto_region 12 with fail
      go_cut [35] (fun b wx => b = .bool (decide (∃ h : a1 < s.size, s[a1] = 35)) ∧ wx = wc)
      case first =>
        by_cases hlt : a1 < s.size
        · have hltI : (a1 : Int) < (s.size : Int) := by omega
          by_cases h35 : s[a1] = 35
          · have g35 : ((s[a1].toNat : Int) == 35) = true := by rw [h35]; rfl
            have HD : Hid (decide (∃ h : a1 < s.size, s[a1] = 35) = true) := decide_eq_true ⟨hlt, h35⟩
            clear h35
            go_wp2
            go_meet
            exact ⟨by rw [HD.out], rfl⟩
          · have g35 : ((s[a1].toNat : Int) == 35) = false := byte_no 35 (by omega) h35
            have HD : Hid (decide (∃ h : a1 < s.size, s[a1] = 35) = false) := decide_eq_false (fun ⟨_, h⟩ => h35 h)
            clear h35
            go_wp2
            go_meet
            exact ⟨by rw [HD.out], rfl⟩
        · have hltI : ¬ ((a1 : Int) < (s.size : Int)) := by omega
          have HD : Hid (decide (∃ h : a1 < s.size, s[a1] = 35) = false) := decide_eq_false (fun ⟨h, _⟩ => hlt h)
          go_wp2
          go_meet
          exact ⟨by rw [HD.out], rfl⟩
      case rest =>
      obtain ⟨rfl, hwx⟩ := hcut
      subst hwx
      have HC35 : Hid (∀ b, decide (∃ h : a1 < s.size, s[a1] = 35) = b → decide (∃ h : a1 < s.size, s[a1] = 35) = b) := fun _ h => h
      generalize hcc : decide (∃ h : a1 < s.size, s[a1] = 35) = cc at *
      have HCC : Hid (decide (∃ h : a1 < s.size, s[a1] = 35) = cc) := hcc
      clear hcc HC35
      go_upto_if 35 with fail
      go_cut [5] (fun v wx => ∃ (a2 : Nat) (id : ByteArray), v = .int .i64 (a2 : Int) ∧ a2 ≤ s.size ∧ PSt w wx ty id (.slice none 0 0) [] ∧ idS (s.data.toList.drop a1) = some (id.data.toList, s.data.toList.drop a2))
      case first =>
        obtain ⟨⟨b0, b1, b2, bf, _⟩, ⟨z0, z1, z2, zf, _⟩, _⟩ := HST.out
        by_cases hlt : a1 < s.size
        · have hd := head_byte s a1 hlt
          have hltI : (a1 : Int) < (s.size : Int) := by omega
          by_cases h35 : s[a1] = 35
          · have hcc : cc = true := by rw [← HCC.out]; exact decide_eq_true ⟨hlt, h35⟩
            subst hcc
            have hsz : (s.extract (a1 + 1) s.size).size ≤ 1048576 := by rw [ByteArray.size_extract]; omega
            have HRN : Hid (Calls Tryz.prog 105 #[.string (s.extract (a1 + 1) s.size)] wc fun e w' => e = .returned (.int .i64 (runL (s.data.toList.drop (a1 + 1)) : Nat)) ∧ w' = wc) := by rw [← tail_list]; exact srunL wc (s.extract (a1 + 1) s.size) hsz
            have hrl := runL_le (s.data.toList.drop (a1 + 1))
            rw [List.length_drop, data_len] at hrl
            rw [h35] at hd
            by_cases hn : runL (s.data.toList.drop (a1 + 1)) = 0
            · have HNO : Hid (prP s = none) := by
                show prP s = none
                unfold prP
                rw [HPS.out, hd]
                rw [idS_bad hn]
                rfl
              rw [hn] at HRN
              clear hd hrl h35 hn
              obtain ⟨y0, y1, y2⟩ := set3c wc w.heap.size (.string ty) (.string ⟨#[]⟩) (.slice none 0 0) z0 z1 z2
              go_wp2_with (go_at_call 105; refine HRN.out.mono ?_; rintro e w' ⟨rfl, hq⟩; have hq2 := hq.symm; clear hq; subst hq2)
              refine bodyPost_ret (v := .tuple #[.agg #[.string ty, .string ⟨#[]⟩, .slice none 0 0], .bool false]) (by simp [results, Tryz.results114, go_sem, y0, y1, y2]) rfl ⟨Or.inr ⟨HNO.out, _, _, _, _, _, rfl⟩, ?_⟩
              exact HST.out.out _ _ _
            · have HID : Hid (idS (s.data.toList.drop a1) = some ((s.extract (a1 + 1) (a1 + 1 + runL (s.data.toList.drop (a1 + 1)))).data.toList, s.data.toList.drop (a1 + 1 + runL (s.data.toList.drop (a1 + 1))))) := by
                show _ = _
                rw [hd]
                rw [idS_hit hn, ext_mid, bA_list, List.drop_drop]
              generalize runL (s.data.toList.drop (a1 + 1)) = n at *
              have hn0 : 0 < n := by omega
              have hle : a1 + 1 + n ≤ s.size := by omega
              have HE : Hid (PSt w (wc.setCell ⟨w.heap.size + 1, 1, none⟩ (.string (s.extract (a1 + 1) (a1 + 1 + n)))) ty (s.extract (a1 + 1) (a1 + 1 + n)) (.slice none 0 0) []) := HST.out.id _
              clear hd hrl h35
              go_wp2_with (go_at_call 105; refine HRN.out.mono ?_; rintro e w' ⟨rfl, hq⟩; have hq2 := hq.symm; clear hq; subst hq2)
              go_meet
              exact ⟨a1 + 1 + n, _, by go_num, hle, by simpa using HE.out, HID.out⟩
          · have hcc : cc = false := by rw [← HCC.out]; exact decide_eq_false (fun ⟨_, h⟩ => h35 h)
            subst hcc
            have HID : Hid (idS (s.data.toList.drop a1) = some ((⟨#[]⟩ : ByteArray).data.toList, s.data.toList.drop a1)) := by
              show _ = _
              rw [hd]
              show (if s[a1] = 35 then _ else some ([], s[a1] :: s.data.toList.drop (a1 + 1))) = _
              rw [if_neg h35]
            clear hd h35
            go_wp2
            go_meet
            exact ⟨a1, _, rfl, hTL, HST.out, HID.out⟩
        · have hcc : cc = false := by rw [← HCC.out]; exact decide_eq_false (fun ⟨h, _⟩ => hlt h)
          subst hcc
          have HID : Hid (idS (s.data.toList.drop a1) = some ((⟨#[]⟩ : ByteArray).data.toList, s.data.toList.drop a1)) := by
            show _ = _
            rw [List.drop_eq_nil_of_le (by rw [data_len]; omega)]
            rfl
          go_wp2
          go_meet
          exact ⟨a1, _, rfl, hTL, HST.out, HID.out⟩
      case rest =>
        obtain ⟨a2, id, rfl, ha2, hst, hid⟩ := hcut
        have HYES : Hid (∀ cs, clsR (s.data.toList.drop a2) [] = some cs → prP s = some ⟨ty, id, cs.map bA⟩) := by
          intro cs hcs
          unfold prP
          rw [HPS.out, hid]
          simp only [hcs]
          show some (ofL ⟨_, _, _⟩) = _
          unfold ofL
          simp only [HTY.out, bA_data]
        have HNO : Hid (clsR (s.data.toList.drop a2) [] = none → prP s = none) := by
          intro hcs
          unfold prP
          rw [HPS.out, hid]
          simp only [hcs]
          rfl
        clear hid HPS HTY HS0 HST
        go_wp2
        go_loopw [5] (fun v wr => ∃ (a : Nat) (acc : List (List UInt8)) (u : Value), v = .int .i64 (a : Int) ∧ a ≤ s.size ∧ acc.length ≤ 4 ∧ clsR (s.data.toList.drop a) acc = clsR (s.data.toList.drop a2) [] ∧ PSt w wr ty id u (acc.map bA)) (fun v _ => s.size - (intOf v).toNat)
        case atStart => exact ⟨a2, [], _, rfl, ha2, Nat.zero_le _, rfl, hst⟩
        case round =>
          obtain ⟨a, acc, u, rfl, ha, hac, hcl, hst⟩ := hrel
          have hml : (acc.map bA).length = acc.length := List.length_map ..
          obtain ⟨va, vc, hv⟩ := hst.box.own.slice
          subst hv
          rw [hml] at hst
          have HST : Hid (PSt w wr ty id (.slice va acc.length vc) (acc.map bA)) := hst
          have HCL : Hid (clsR (s.data.toList.drop a) acc = clsR (s.data.toList.drop a2) []) := hcl
          obtain ⟨⟨b0, b1, b2, bf, _⟩, ⟨z0, z1, z2, zf, _⟩, _⟩ := hst
          clear hcl hml
          obtain ⟨y0, y1, y2⟩ := set3c wr w.heap.size (.string ty) (.string id) (.slice va acc.length vc) z0 z1 z2
          by_cases hlt : a < s.size
          · have hd := head_byte s a hlt
            have hltI : (a : Int) < (s.size : Int) := by omega
            by_cases h46 : s[a] = 46
            · have g46 : ((s[a].toNat : Int) == 46) = true := by rw [h46]; rfl
              have hsz : (s.extract (a + 1) s.size).size ≤ 1048576 := by rw [ByteArray.size_extract]; omega
              have HRN : Hid (Calls Tryz.prog 105 #[.string (s.extract (a + 1) s.size)] wr fun e w' => e = .returned (.int .i64 (runL (s.data.toList.drop (a + 1)) : Nat)) ∧ w' = wr) := by rw [← tail_list]; exact srunL wr (s.extract (a + 1) s.size) hsz
              have hrl := runL_le (s.data.toList.drop (a + 1))
              rw [List.length_drop, data_len] at hrl
              rw [h46] at hd
              by_cases hn : runL (s.data.toList.drop (a + 1)) = 0
              · have HX : Hid (prP s = none) := HNO.out (by rw [← HCL.out, hd]; exact clsR_bad _ _ (Or.inl hn))
                rw [hn] at HRN
                clear hd hrl h46 hn
                go_wp2_with (go_at_call 105; refine HRN.out.mono ?_; rintro e w' ⟨rfl, hq⟩; have hq2 := hq.symm; clear hq; subst hq2)
                refine bodyPost_ret (v := .tuple #[.agg #[.string ty, .string id, .slice va acc.length vc], .bool false]) (by simp [results, Tryz.results114, go_sem, y0, y1, y2]) rfl ⟨Or.inr ⟨HX.out, _, _, _, _, _, rfl⟩, ?_⟩
                exact HST.out.out _ _ _
              · by_cases h4 : acc.length = 4
                · have HX : Hid (prP s = none) := HNO.out (by rw [← HCL.out, hd]; exact clsR_bad _ _ (Or.inr h4))
                  generalize runL (s.data.toList.drop (a + 1)) = n at *
                  have hn0 : ((n : Int) == 0) = false := by simp; omega
                  have g4 : ((acc.length : Int) == 4) = true := by rw [h4]; rfl
                  clear hd hrl h46 hn h4
                  go_wp2_with (go_at_call 105; refine HRN.out.mono ?_; rintro e w' ⟨rfl, hq⟩; have hq2 := hq.symm; clear hq; subst hq2)
                  refine bodyPost_ret (v := .tuple #[.agg #[.string ty, .string id, .slice va acc.length vc], .bool false]) (by simp [results, Tryz.results114, go_sem, y0, y1, y2]) rfl ⟨Or.inr ⟨HX.out, _, _, _, _, _, rfl⟩, ?_⟩
                  exact HST.out.out _ _ _
                · have HST2 : Hid (clsR (s.data.toList.drop (a + 1 + runL (s.data.toList.drop (a + 1)))) (acc ++ [(s.data.toList.drop (a + 1)).take (runL (s.data.toList.drop (a + 1)))]) = clsR (s.data.toList.drop a2) []) := by
                    show _ = _
                    rw [← HCL.out, hd, clsR_step _ _ hn h4, List.drop_drop]
                  have HMP : Hid ((acc ++ [(s.data.toList.drop (a + 1)).take (runL (s.data.toList.drop (a + 1)))]).map bA = acc.map bA ++ [s.extract (a + 1) (a + 1 + runL (s.data.toList.drop (a + 1)))]) := by
                    show _ = _
                    rw [List.map_append, ext_mid]; rfl
                  have HLN : Hid ((acc ++ [(s.data.toList.drop (a + 1)).take (runL (s.data.toList.drop (a + 1)))]).length ≤ 4) := by show _ ≤ _; simp; omega
                  generalize acc ++ [(s.data.toList.drop (a + 1)).take (runL (s.data.toList.drop (a + 1)))] = acc2 at *
                  generalize runL (s.data.toList.drop (a + 1)) = n at *
                  have hn0 : ((n : Int) == 0) = false := by simp; omega
                  have g4 : ((acc.length : Int) == 4) = false := by simp; omega
                  have hle : a + 1 + n ≤ s.size := by omega
                  have HML : Hid ((acc.map bA).length = acc.length) := List.length_map ..
                  have HF : Hid ((acc.map bA).length ≤ 2000000 ∧ IntKind.i64.wrap ((a : Int) + 1) = (a : Int) + 1 ∧ IntKind.i64.wrap ((a : Int) + 1 + (n : Int)) = (a : Int) + 1 + (n : Int) ∧ (0 : Int) ≤ (a : Int) + 1 ∧ (a : Int) + 1 ≤ (a : Int) + 1 + (n : Int) ∧ (a : Int) + 1 + (n : Int) ≤ (s.size : Int) ∧ ((a : Int) + 1).toNat = a + 1 ∧ ((a : Int) + 1 + (n : Int)).toNat = a + 1 + n) :=
                    ⟨by rw [List.length_map]; omega, IntWalk.i64_in _ (by omega), IntWalk.i64_in _ (by omega), by omega, by omega, by omega, by omega, by omega⟩
                  clear hd hrl h46 y0 y1 y2
                  go_wp2_with (go_at_call 105; refine HRN.out.mono ?_; rintro e w' ⟨rfl, hq⟩; have hq2 := hq.symm; clear hq; subst hq2)
                  have HBX : Hid (CvP (w.heap.size + 1) wr.drew ty id (.slice va (acc.map bA).length vc) (acc.map bA)) := by
                    show CvP _ _ _ _ _ _
                    rw [HML.out]; exact CvP.nw HST.out.box ((Below.refl _ _).drew)
                  refine reg_change (ops' := opsOf 22 Tryz.f114) (by kernel_rfl) ?_
                  refine SP22.run ⟨w.heap.size + 1, ty, id, va, vc, acc.map bA, s, a, n, wr.drew, _⟩ ⟨HBX.out, HF.out.1, HF.out.2.1, HF.out.2.2.1, hle, HF.out.2.2.2.1, HF.out.2.2.2.2.1, HF.out.2.2.2.2.2.1, HF.out.2.2.2.2.2.2.1, HF.out.2.2.2.2.2.2.2, rfl, rfl, rfl, rfl, rfl⟩ wr (Below.refl _ _) ?_
                  rintro γ w9 ⟨w7, w8, k1, o1, y1, rfl⟩
                  simp only at o1 y1 k1 ⊢
                  rw [HML.out] at y1
                  have HPT : Hid _ := PSt.put ((HST.out.go ((Below.refl _ _).drew)).go k1) y1 o1
                  rw [← HMP.out] at HPT o1
                  generalize γ 1 = v' at *
                  generalize γ 0 = v0 at *
                  obtain ⟨sa, sc, g1⟩ := o1.slice
                  subst g1
                  clear o1 y1 k1 b0 b1 b2 bf z0 z1 z2 zf
                  simp only [Act.put, List.setIfInBounds_toArray, List.set_cons_zero, List.set_cons_succ]
                  generalize (acc2.map bA).length = M at *
                  go_wp2
                  go_roundw
                  case rel => exact ⟨a + 1 + n, acc2, _, by go_num, hle, HLN.out, HST2.out, HPT.out⟩
                  case measure => simp [intOf]; omega
            · have g46 : ((s[a].toNat : Int) == 46) = false := byte_no 46 (by omega) h46
              have HX : Hid (prP s = none) := HNO.out (by rw [← HCL.out, hd]; exact clsR_other _ _ _ h46)
              have hne : ((a : Int) == (s.size : Int)) = false := by simp; omega
              clear hd h46
              go_wp2
              refine bodyPost_ret (v := .tuple #[.agg #[.string ty, .string id, .slice va acc.length vc], .bool false]) (by simp [results, Tryz.results114, go_sem, y0, y1, y2]) rfl ⟨Or.inr ⟨HX.out, _, _, _, _, _, rfl⟩, ?_⟩
              exact HST.out.out _ _ _
          · have hltI : ¬ ((a : Int) < (s.size : Int)) := by omega
            have hae : a = s.size := by omega
            have HX : Hid (prP s = some ⟨ty, id, acc.map bA⟩) := HYES.out acc (by rw [← HCL.out, List.drop_eq_nil_of_le (by rw [data_len]; omega)]; rfl)
            have hne : ((a : Int) == (s.size : Int)) = true := by simp; omega
            have HML : Hid ((acc.map bA).length = acc.length) := List.length_map ..
            have h9 := PSt.done (va := va) (vc := vc) (D := acc.map bA) (w9 := wr) (w := w) (ty := ty) (id := id) (by rw [HML.out]; exact HST.out) (.string ty) (.string id) (.slice va acc.length vc)
            rw [HML.out] at h9
            have HDN : Hid (RowM 1 EStr (((wr.setCell ⟨w.heap.size, 0, none⟩ (.string ty)).setCell ⟨w.heap.size, 1, none⟩ (.string id)).setCell ⟨w.heap.size, 2, none⟩ (.slice va acc.length vc)) (.slice va acc.length vc) (acc.map bA) (iv w (((wr.setCell ⟨w.heap.size, 0, none⟩ (.string ty)).setCell ⟨w.heap.size, 1, none⟩ (.string id)).setCell ⟨w.heap.size, 2, none⟩ (.slice va acc.length vc)))) := h9
            clear h9
            clear hae
            go_wp2
            refine bodyPost_ret (v := .tuple #[.agg #[.string ty, .string id, .slice va acc.length vc], .bool true]) (by simp [results, Tryz.results114, go_sem, y0, y1, y2]) rfl ⟨Or.inl ⟨⟨ty, id, acc.map bA⟩, _, HX.out, rfl, HDN.out⟩, ?_⟩
            exact HST.out.out _ _ _
end Go.Proofs.YtnkmdmmlpidcmaaGreatDoor
