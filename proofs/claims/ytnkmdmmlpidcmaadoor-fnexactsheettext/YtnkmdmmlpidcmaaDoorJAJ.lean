/-
  A part in a variable, to whose classes is appended; each theorem names its conditions.
  The statement of l5Part that appends a class; each theorem names its conditions.
  A part read from a word by the specification; each theorem names its conditions.
  A text without its comments, by the specification; each theorem names its conditions.
-/
import Derived.Test.YtnkmdmmlpidcmaaDoorJAD
import Derived.Test.YtnkmdmmlpidcmaaDoorJAB
import Derived.Test.YtnkmdmmlpidcmaaDoorJAI
import Derived.Deep.DeepCutAuto
namespace Go.Proofs.YtnkmdmmlpidcmaaDoor
open Go.ChangeShapes Go.WideShapes Go.ChangeAt Go.RowKit
set_option linter.unusedVariables false

/-- A part in the block bx: texts of the call's own, which lie behind it. -/
structure CvP (bx : Nat) (w : World) (p q : ByteArray) (v : Value) (l : List ByteArray) : Prop where
  c0 : w.cell? ⟨bx, 0, none⟩ = some (.string p)
  c1 : w.cell? ⟨bx, 1, none⟩ = some (.string q)
  c2 : w.cell? ⟨bx, 2, none⟩ = some v
  free : ∀ o, w.frozen? ⟨bx, o, none⟩ = false
  own : Txs w (bx + 1) v l
theorem CvP.lt {bx : Nat} {w : World} {p q : ByteArray} {v : Value} {l : List ByteArray} (h : CvP bx w p q v l) : bx < w.heap.size := World.block_lt_of_cell? w ⟨bx, 0, none⟩ h.c0
theorem CvP.nw {bx : Nat} {w w' : World} {p q : ByteArray} {v : Value} {l : List ByteArray} (h : CvP bx w p q v l) (k : Nw w w') : CvP bx w' p q v l :=
  ⟨((bcell k).1 _ _ h.lt).trans h.c0, ((bcell k).1 _ _ h.lt).trans h.c1, ((bcell k).1 _ _ h.lt).trans h.c2, fun o => ((bcell k).2 _ _ h.lt).trans (h.free o), h.own.nw k⟩
theorem CvP.new (w : World) (t : TypeId) (p q : ByteArray) : CvP w.heap.size (w.alloc (.cells #[.string p, .string q, .slice none 0 0] t)) p q (.slice none 0 0) [] :=
  ⟨by simp, by simp, by simp, fun o => World.frozen?_alloc_at _ _ _ _ rfl, Txs.nil _ _⟩
theorem CvP.ne {bx : Nat} {w : World} {p q : ByteArray} {v : Value} {l : List ByteArray} (h : CvP bx w p q v l) : v.ownBlock ≠ some bx := fun e => by
  have := (World.ownsRow.lt h.own bx e).1
  omega
/-- What is there for the store. -/
theorem CvP.there {bx : Nat} {w w' : World} {p q : ByteArray} {v v' : Value} {l : List ByteArray} (h : CvP bx w p q v l) (k : Ext v v' w w') : w'.cell? ⟨bx, 2, none⟩ = some v ∧ ∀ o, w'.frozen? ⟨bx, o, none⟩ = false :=
  ⟨(Ext.cell k h.lt h.ne 2).trans h.c2, fun o => (World.frozen?_of_block (w := w) (a := ⟨bx, o, none⟩) (k.1.block bx h.lt (fun e => h.ne e.symm))).trans (h.free o)⟩
theorem Txs.far {w : World} {B : Nat} {v : Value} {l : List ByteArray} (h : Txs w B v l) (b o : Nat) (u : Value) (hne : v.ownBlock ≠ some b) : Txs (w.setCell ⟨b, o, none⟩ u) B v l :=
  World.ownsRow.kept h set_grown (Or.inr hne)
theorem CvP.put {bx : Nat} {w w' : World} {p q : ByteArray} {v v' : Value} {l l' : List ByteArray} (h : CvP bx w p q v l) (k : Ext v v' w w') (ho : Txs w' (bx + 1) v' l') : CvP bx (w'.setCell ⟨bx, 2, none⟩ v') p q v' l' ∧ Below bx w (w'.setCell ⟨bx, 2, none⟩ v') := by
  have hb := h.lt
  have hne2 : v'.ownBlock ≠ some bx := Ext.apart k hb h.ne
  obtain ⟨t0, tf⟩ := h.there k
  refine ⟨⟨?_, ?_, World.cell?_setCell_same w' ⟨bx, 2, none⟩ _ t0, fun o => by rw [World.frozen?_setCell]; exact tf o, Txs.far ho bx 2 _ hne2⟩, ?_⟩
  · rw [World.cell?_setCell_other _ _ _ _ (fun e => by injection e; omega)]
    exact (Ext.cell k hb h.ne 0).trans h.c0
  · rw [World.cell?_setCell_other _ _ _ _ (fun e => by injection e; omega)]
    exact (Ext.cell k hb h.ne 1).trans h.c1
  · exact (k.below (fun g e => Nat.le_of_succ_le (World.ownsRow.lt h.own g e).1) (by omega)).setCell (Nat.le_refl _) _
theorem Txs.slice {w : World} {B : Nat} {v : Value} {l : List ByteArray} (h : Txs w B v l) : ∃ a c, v = .slice a l.length c := by
  obtain ⟨a, c, h1, _⟩ := h.strs
  exact ⟨a, c, h1⟩
theorem set3c (w : World) (b : Nat) (u0 u1 u2 : Value) {v0 v1 v2 : Value} (z0 : w.cell? ⟨b, 0, none⟩ = some v0) (z1 : w.cell? ⟨b, 1, none⟩ = some v1) (z2 : w.cell? ⟨b, 2, none⟩ = some v2) :
    (((w.setCell ⟨b, 0, none⟩ u0).setCell ⟨b, 1, none⟩ u1).setCell ⟨b, 2, none⟩ u2).cell? ⟨b, 0, none⟩ = some u0 ∧ (((w.setCell ⟨b, 0, none⟩ u0).setCell ⟨b, 1, none⟩ u1).setCell ⟨b, 2, none⟩ u2).cell? ⟨b, 1, none⟩ = some u1 ∧ (((w.setCell ⟨b, 0, none⟩ u0).setCell ⟨b, 1, none⟩ u1).setCell ⟨b, 2, none⟩ u2).cell? ⟨b, 2, none⟩ = some u2 := by
  have far : ∀ (w : World) (o o' : Nat) (u : Value), o ≠ o' → (w.setCell ⟨b, o, none⟩ u).cell? ⟨b, o', none⟩ = w.cell? ⟨b, o', none⟩ := fun w o o' u h => World.cell?_setCell_other _ _ _ _ (fun e => by injection e; omega)
  refine ⟨?_, ?_, ?_⟩
  · rw [far _ 2 0 _ (by omega), far _ 1 0 _ (by omega)]
    exact World.cell?_setCell_same w ⟨b, 0, none⟩ _ z0
  · rw [far _ 2 1 _ (by omega)]
    exact World.cell?_setCell_same _ ⟨b, 1, none⟩ _ ((far _ 0 1 _ (by omega)).trans z1)
  · exact World.cell?_setCell_same _ ⟨b, 2, none⟩ _ ((far _ 1 2 _ (by omega)).trans ((far _ 0 2 _ (by omega)).trans z2))
/-- A text is appended, wherever the append stands. -/
theorem wpk_tx (w : World) {o : Oper} {a : Act} {K : Act → World → Prop} {Q : Exit → Act → World → Prop} (s x : Operand)
    (ho : o.op = .call { callee := .builtin .append, args := #[s, x], argTypes := #[52, 52] })
    (B : Nat) (v : Value) (l : List ByteArray) (t : ByteArray) (hs : a.eval s = v) (hown : Txs w B v l) (g : Nat) (hx : a.eval x = .slice (some ⟨g, 0, none⟩) 1 1) (hc : w.cell? ⟨g, 0, none⟩ = some (.string t))
    (h63 : l.length ≤ 10000000) (hB : B ≤ w.heap.size)
    (h : ∀ v' w', Txs w' B v' (l ++ [t]) → Ext v v' w w' → K (a.put o.dst v') w') : o.wp Tryd.prog a w K Q := by
  obtain ⟨i0, hi, hz0, hz1, hz2⟩ := txs_parts
  obtain ⟨v', w', hr, h2, h3, h4, h5⟩ := run_append_own_at (P := Tryd.prog) w B 52 o.type 9 i0 (.string ⟨#[]⟩) 1 16 Tryd.underlying52 hi hz0 hz1 hz2 rfl (by decide) v l.length (l.map Value.string) hown ⟨g, 0, none⟩ 1 1 [.string t] rfl (fun j u hj => by
    cases j with
    | zero => simp at hj; subst hj; simpa [Addr.add] using hc
    | succ j => simp at hj) (fun u hu => by simp at hu; subst hu; rfl) (by unfold maxLen; omega) (by omega) hB
  unfold Oper.wp execOp
  simp only [ho, resolve, invoke, builtin, Sem.run_bind, Sem.run_pure, Result.andThen_ok, List.map_toArray, List.map_cons, List.map_nil, hs, hx, hr]
  refine h v' w' ?_ ⟨h3, h5.imp id fun e => ⟨_, e, Nat.le_refl _⟩⟩
  unfold Txs
  rw [List.length_append, List.map_append]
  exact h2
end Go.Proofs.YtnkmdmmlpidcmaaDoor
namespace Go.Proofs.YtnkmdmmlpidcmaaDoor
open Go.ChangeShapes Go.WideShapes Go.ChangeAt Go.RowKit
set_option linter.unusedVariables false

structure SP22 where
 bx : Nat
 p : ByteArray
 q : ByteArray
 va : Option Addr
 vc : Nat
 l : List ByteArray
 s : ByteArray
 k : Nat
 n : Nat
 W : World
 a0 : Act
structure SP22Ok (X : SP22) : Prop where
 cb : CvP X.bx X.W X.p X.q (.slice X.va X.l.length X.vc) X.l
 len : X.l.length ≤ 2000000
 w1 : IntKind.i64.wrap ((X.k : Int) + 1) = (X.k : Int) + 1
 w2 : IntKind.i64.wrap ((X.k : Int) + 1 + (X.n : Int)) = (X.k : Int) + 1 + (X.n : Int)
 hk : X.k + 1 + X.n ≤ X.s.size
 c1 : (0 : Int) ≤ (X.k : Int) + 1
 c2 : (X.k : Int) + 1 ≤ (X.k : Int) + 1 + (X.n : Int)
 c3 : (X.k : Int) + 1 + (X.n : Int) ≤ (X.s.size : Int)
 t1 : ((X.k : Int) + 1).toNat = X.k + 1
 t2 : ((X.k : Int) + 1 + (X.n : Int)).toNat = X.k + 1 + X.n
 e0 : X.a0.eval (.tmp 0) = .string X.s
 e4 : X.a0.eval (.tmp 4) = .pointer (some ⟨X.bx, 0, none⟩)
 e5 : X.a0.eval (.tmp 5) = .int .i64 (X.k : Int)
 e8 : X.a0.eval (.tmp 8) = .int .i64 (X.n : Int)
 sz : X.a0.tmps.size = 103
def SP22.val0 (X : SP22) : Nat → Value
 | 0 => .string X.s
 | 4 => .pointer (some ⟨X.bx, 0, none⟩)
 | 5 => .int .i64 (X.k : Int)
 | 8 => .int .i64 (X.n : Int)
 | 81 => .pointer (some ⟨X.bx, 2, none⟩)
 | 82 => .slice X.va X.l.length X.vc
 | 83 => .string X.s
 | 84 => .int .i64 (X.k : Int)
 | 85 => .int .i64 ((X.k : Int) + 1)
 | 86 => .int .i64 (X.k : Int)
 | 87 => .int .i64 ((X.k : Int) + 1)
 | 88 => .int .i64 (X.n : Int)
 | 89 => .int .i64 ((X.k : Int) + 1 + (X.n : Int))
 | 90 => .string (X.s.extract (X.k + 1) (X.k + 1 + X.n))
 | 93 => .pointer (some ⟨X.bx, 2, none⟩)
 | _ => undef
def SP22.av : Nat → Option Nat
 | 91 => some 0
 | 92 => some 1
 | _ => none
def SP22.acts : List Nat := [10, 11, 13]
/-- The world, by how many of the acting ones have come up. -/
def SP22.Wd (X : SP22) : Nat → (Nat → Value) → World → Prop
  | 0, _, w => Nw X.W w
  | 1, γ, w => ∃ w1, Nw X.W w1 ∧ γ 0 = .slice (some ⟨w1.heap.size, 0, none⟩) 1 1 ∧ w = w1.alloc (.cells #[.string (X.s.extract (X.k + 1) (X.k + 1 + X.n))] 9)
  | 2, γ, w => ∃ w1, Nw X.W w1 ∧ Txs w (X.bx + 1) (γ 1) (X.l ++ [X.s.extract (X.k + 1) (X.k + 1 + X.n)]) ∧ Ext (.slice X.va X.l.length X.vc) (γ 1) w1 w
  | _, γ, w => ∃ w1 w2, Nw X.W w1 ∧ Txs w2 (X.bx + 1) (γ 1) (X.l ++ [X.s.extract (X.k + 1) (X.k + 1 + X.n)]) ∧ Ext (.slice X.va X.l.length X.vc) (γ 1) w1 w2 ∧ w = w2.setCell ⟨X.bx, 2, none⟩ (γ 1)
theorem SP22.chain : chainG (opsOf 22 Tryd.f61) SP22.acts = true := by kernel_rfl
theorem SP22.nodup : SP22.acts.Nodup := by decide
def SP22.L : List (Option Nat × Op × Option (Nat × Bool)) := [
 (some 81, .fieldAddr 56 (.tmp 4) 2, none),
 (some 82, .load 52 (.tmp 81), none),
 (some 83, .move (.tmp 0), none),
 (some 84, .move (.tmp 5), none),
 (some 85, .binOp .add 3 (.tmp 84) (.const (.int .i64 1)) 3, none),
 (some 86, .move (.tmp 5), none),
 (some 87, .binOp .add 3 (.tmp 86) (.const (.int .i64 1)) 3, none),
 (some 88, .move (.tmp 8), none),
 (some 89, .binOp .add 3 (.tmp 87) (.tmp 88) 3, none),
 (some 90, .slice 9 (.tmp 83) (some (.tmp 85)) (some (.tmp 89)) none, none),
 (some 91, .buildSlice 52 1 #[(0, (.tmp 90))], none),
 (some 92, .call { callee := .builtin .append, args := #[(.tmp 82), (.tmp 91)], argTypes := #[52, 52] }, none),
 (some 93, .fieldAddr 56 (.tmp 4) 2, none),
 (none, .store 52 (.tmp 93) (.tmp 92), none)]
theorem SP22.isL : (opsOf 22 Tryd.f61).toList.map tri = SP22.L := by kernel_rfl
theorem SP22.ini {X : SP22} (ok : SP22Ok X) : ∀ n ∈ [0, 4, 5, 8], X.a0.eval (.tmp n) = X.val0 n := by
 simp only [List.forall_mem_cons]
 exact ⟨ok.e0, ok.e4, ok.e5, ok.e8, List.forall_mem_nil _⟩
abbrev SP22.St (X : SP22) (Q : Exit → Act → World → Prop) (i : Nat) : Prop := StepG (opsOf 22 Tryd.f61) SP22.acts SP22.av X.val0 X.Wd X.a0 Q i
theorem SP22.plain (X : SP22) (ok : SP22Ok X) {Q : Exit → Act → World → Prop} : ∀ i ∈ [0, 2, 3, 4, 5, 6, 7, 8, 12], SP22.St X Q i := by
 simp only [List.forall_mem_cons]
 refine ⟨?_, ?_, ?_, ?_, ?_, ?_, ?_, ?_, ?_, List.forall_mem_nil _⟩
 all_goals
  refine st_plain SP22.isL (SP22.ini ok) ok.sz rfl (by kernel_rfl) ?_
  intro γ w n o hW hop
  unfold execOp
  rw [hop]
  simp [envR, valG, SP22.av, SP22.val0, ok.w1, ok.w2, go_sem]
theorem SP22.s1 (X : SP22) (ok : SP22Ok X) {Q : Exit → Act → World → Prop} : SP22.St X Q 1 := by
 intro γ listed a w o hF hC hW h1 ho h2
 obtain ⟨hd, hop, hg⟩ := fieldsL SP22.isL (i := 1) rfl ho
 have e81 : a.eval (.tmp 81) = .pointer (some ⟨X.bx, 2, none⟩) := known hF ho h2 (SP22.ini ok) ok.sz (by kernel_rfl)
 have hph := phase_leG (acts := SP22.acts) (m := 1) (x := 11) hC (unl (hF.lt ho) h1) rfl [1] (by kernel_rfl) (by decide)
 have hWW := hW
 generalize phase listed SP22.acts = n at hph hWW
 have hk : Nw X.W w := by
  rcases (show n = 0 ∨ n = 1 by omega) with rfl | rfl
  ·exact hWW
  ·obtain ⟨w1, k1, _, rfl⟩ := hWW
   exact Nw.trans k1 ((Below.refl _ _).alloc (Nat.le_refl _) _)
 have hc := (ok.cb.nw hk).c2
 refine st_pureG hF hC hW ho h2 (by decide) hd hg rfl ?_
 show _ = Result.ok (Next.value (.slice X.va X.l.length X.vc)) w
 generalize a.eval = ρ at e81 ⊢
 unfold execOp
 rw [hop]
 simp [e81, hc, go_sem]
theorem SP22.s9 (X : SP22) (ok : SP22Ok X) {Q : Exit → Act → World → Prop} : SP22.St X Q 9 := by
 intro γ listed a w o hF hC hW h1 ho h2
 obtain ⟨hd, hop, hg⟩ := fieldsL SP22.isL (i := 9) rfl ho
 have e83 : a.eval (.tmp 83) = .string X.s := known hF ho h2 (SP22.ini ok) ok.sz (by kernel_rfl)
 have e85 : a.eval (.tmp 85) = .int .i64 ((X.k : Int) + 1) := known hF ho h2 (SP22.ini ok) ok.sz (by kernel_rfl)
 have e89 : a.eval (.tmp 89) = .int .i64 ((X.k : Int) + 1 + (X.n : Int)) := known hF ho h2 (SP22.ini ok) ok.sz (by kernel_rfl)
 refine st_pureG hF hC hW ho h2 (by decide) hd hg rfl ?_
 show _ = Result.ok (Next.value (.string (X.s.extract (X.k + 1) (X.k + 1 + X.n)))) w
 generalize a.eval = ρ at e83 e85 e89 ⊢
 unfold execOp
 rw [hop]
 simp [e83, e85, e89, ok.c1, ok.c2, ok.c3, ok.t1, ok.t2, go_sem]
theorem SP22.s10 (X : SP22) (ok : SP22Ok X) {Q : Exit → Act → World → Prop} : SP22.St X Q 10 := by
 intro γ listed a w o hF hC hW h1 ho h2
 obtain ⟨hd, hop, hg⟩ := fieldsL SP22.isL (i := 10) rfl ho
 have e90 : a.eval (.tmp 90) = .string (X.s.extract (X.k + 1) (X.k + 1 + X.n)) := known hF ho h2 (SP22.ini ok) ok.sz (by kernel_rfl)
 have hu := unl (hF.lt ho) h1
 refine st_actG (k := 0) SP22.chain SP22.nodup rfl hF hC hW h1 ho h2 (Or.inr ⟨91, hd, rfl⟩) (injG (by kernel_rfl) hu) hg ?_
 intro hW0 K hK
 have k0 : Nw X.W w := hW0
 have hr : (execOp a.eval o).run Tryd.prog w = .ok (.value (.slice (some ⟨w.heap.size, 0, none⟩) 1 1)) (w.alloc (.cells #[.string (X.s.extract (X.k + 1) (X.k + 1 + X.n))] 9)) := by
  generalize a.eval = ρ at e90 ⊢
  unfold execOp
  rw [hop]
  simp [e90, go_sem]
 unfold Oper.wp
 rw [hr]
 exact hK _ _ ⟨w, k0, rfl, rfl⟩
theorem SP22.s11 (X : SP22) (ok : SP22Ok X) {Q : Exit → Act → World → Prop} : SP22.St X Q 11 := by
 intro γ listed a w o hF hC hW h1 ho h2
 obtain ⟨hd, hop, hg⟩ := fieldsL SP22.isL (i := 11) rfl ho
 have e82 : a.eval (.tmp 82) = .slice X.va X.l.length X.vc := known hF ho h2 (SP22.ini ok) ok.sz (by kernel_rfl)
 have e91 : a.eval (.tmp 91) = γ 0 := known hF ho h2 (SP22.ini ok) ok.sz (by kernel_rfl)
 have hu := unl (hF.lt ho) h1
 refine st_actG (k := 1) SP22.chain SP22.nodup rfl hF hC hW h1 ho h2 (Or.inr ⟨92, hd, rfl⟩) (injG (by kernel_rfl) hu) hg ?_
 intro hW0 K hK
 obtain ⟨w1, k1, g0, rfl⟩ := hW0
 rw [g0] at e91
 have lb := ok.cb.nw k1
 have n1 : Nw w1 (w1.alloc (.cells #[.string (X.s.extract (X.k + 1) (X.k + 1 + X.n))] 9)) := (Below.refl _ _).alloc (Nat.le_refl _) _
 refine wpk_tx _ (.tmp 82) (.tmp 91) hop (X.bx + 1) (.slice X.va X.l.length X.vc) X.l (X.s.extract (X.k + 1) (X.k + 1 + X.n)) e82 (lb.own.nw n1) w1.heap.size e91 (by simp) (by have := ok.len; omega) (by have := lb.lt; simp; omega) ?_
 intro v' w' h3 h4
 exact hK _ _ ⟨w1, k1, h3, n1.ext h4⟩
theorem SP22.s13 (X : SP22) (ok : SP22Ok X) {Q : Exit → Act → World → Prop} : SP22.St X Q 13 := by
 intro γ listed a w o hF hC hW h1 ho h2
 obtain ⟨hd, hop, hg⟩ := fieldsL SP22.isL (i := 13) rfl ho
 have e93 : a.eval (.tmp 93) = .pointer (some ⟨X.bx, 2, none⟩) := known hF ho h2 (SP22.ini ok) ok.sz (by kernel_rfl)
 have e92 : a.eval (.tmp 92) = γ 1 := known hF ho h2 (SP22.ini ok) ok.sz (by kernel_rfl)
 have hu := unl (hF.lt ho) h1
 refine st_actG (k := 2) SP22.chain SP22.nodup rfl hF hC hW h1 ho h2 (Or.inl hd) (injG (by kernel_rfl) hu) hg ?_
 intro hW0 K hK
 obtain ⟨w1, k1, o1, x1⟩ := hW0
 obtain ⟨t0, tf⟩ := (ok.cb.nw k1).there x1
 obtain ⟨sa, sc, g1⟩ := o1.slice
 have hr : (execOp a.eval o).run Tryd.prog w = .ok .skip (w.setCell ⟨X.bx, 2, none⟩ (γ 1)) := by
  rw [g1] at e92 ⊢
  generalize a.eval = ρ at e92 e93 ⊢
  unfold execOp
  rw [hop]
  simp [e92, e93, t0, tf, go_sem]
 unfold Oper.wp
 rw [hr]
 exact hK _ _ ⟨w1, w, k1, o1, x1, rfl⟩
theorem SP22.size : (opsOf 22 Tryd.f61).size = 14 := by kernel_rfl
theorem SP22.rest (X : SP22) (ok : SP22Ok X) {Q : Exit → Act → World → Prop} : ∀ i ∈ [1, 9, 10, 11, 13], SP22.St X Q i := by
 simp only [List.forall_mem_cons]
 exact ⟨SP22.s1 X ok,
  SP22.s9 X ok,
  SP22.s10 X ok,
  SP22.s11 X ok,
  SP22.s13 X ok, List.forall_mem_nil _⟩
theorem SP22.steps (X : SP22) (ok : SP22Ok X) {Q : Exit → Act → World → Prop} (i : Nat) (hi : i < (opsOf 22 Tryd.f61).size) : SP22.St X Q i := by
 rw [SP22.size] at hi
 rcases (by decide : ∀ i, i < 14 → i ∈ [0, 2, 3, 4, 5, 6, 7, 8, 12] ∨ i ∈ [1, 9, 10, 11, 13]) i hi with h | h
 · exact SP22.plain X ok i h
 · exact SP22.rest X ok i h
/-- The region, whatever order comes up. -/
theorem SP22.run (X : SP22) (ok : SP22Ok X) {Q : Exit → Act → World → Prop} (w : World) (h0 : X.Wd 0 (fun _ => undef) w.drew) (hend : ∀ (γ : Nat → Value) w', X.Wd 3 γ w' → Q .normal (((((((((((((X.a0.put (some 81) (.pointer (some ⟨X.bx, 2, none⟩))).put (some 82) (.slice X.va X.l.length X.vc)).put (some 83) (.string X.s)).put (some 84) (.int .i64 (X.k : Int))).put (some 85) (.int .i64 ((X.k : Int) + 1))).put (some 86) (.int .i64 (X.k : Int))).put (some 87) (.int .i64 ((X.k : Int) + 1))).put (some 88) (.int .i64 (X.n : Int))).put (some 89) (.int .i64 ((X.k : Int) + 1 + (X.n : Int)))).put (some 90) (.string (X.s.extract (X.k + 1) (X.k + 1 + X.n)))).put (some 91) (γ 0)).put (some 92) (γ 1)).put (some 93) (.pointer (some ⟨X.bx, 2, none⟩))) w') : (Code.region 22 (opsOf 22 Tryd.f61) true).wp Tryd.prog Q X.a0 w := by
 refine reg_act (acts := SP22.acts) (av := SP22.av) (val0 := X.val0) (Wd := X.Wd) (by kernel_rfl) (by kernel_rfl) (by rw [SP22.size]; decide) (fun i hi => SP22.steps X ok i hi) _ h0 ?_
 intro γ w' h
 exact end_at (hend γ w' h) (by kernel_rfl)
end Go.Proofs.YtnkmdmmlpidcmaaDoor
namespace Go.Proofs.YtnkmdmmlpidcmaaDoor
open Go.ChangeShapes Go.WideShapes Go.ChangeAt Go.RowKit
set_option linter.unusedVariables false

theorem srunL (w : World) (s : ByteArray) (hs : s.size ≤ 1048576) : Calls Tryd.prog 91 #[.string s] w fun e w' => e = .returned (.int .i64 (runL s.data.toList : Nat)) ∧ w' = w := by
  refine (srun w s hs).mono ?_
  rintro e w' ⟨⟨n, h1, rfl⟩, rfl⟩
  exact ⟨by rw [lead_run h1], rfl⟩
theorem runL_le (l : List UInt8) : runL l ≤ l.length := by
  by_cases h : runL l = 0
  · rw [h]; exact Nat.zero_le _
  · exact (run_pos h).2.2
theorem clsS_fuel : ∀ (f g : Nat) (l : List UInt8) (acc : List (List UInt8)), l.length < f → l.length < g → clsS f l acc = clsS g l acc := by
  intro f
  induction f with
  | zero => intro g l acc h; omega
  | succ f ih =>
    intro g l acc h1 h2
    cases g with
    | zero => omega
    | succ g =>
      cases l with
      | nil => rfl
      | cons b t =>
        show (if b = 46 then (if runL t = 0 ∨ acc.length = 4 then none else clsS f (t.drop (runL t)) (acc ++ [t.take (runL t)])) else none) = (if b = 46 then (if runL t = 0 ∨ acc.length = 4 then none else clsS g (t.drop (runL t)) (acc ++ [t.take (runL t)])) else none)
        have hl : (t.drop (runL t)).length < f ∧ (t.drop (runL t)).length < g := by
          simp only [List.length_cons] at h1 h2
          rw [List.length_drop]
          omega
        rw [ih g _ _ hl.1 hl.2]
/-- Classes that are still to be read. -/
def clsR (l : List UInt8) (acc : List (List UInt8)) : Option (List (List UInt8)) := clsS (l.length + 1) l acc
theorem clsR_step (t : List UInt8) (acc : List (List UInt8)) (h1 : runL t ≠ 0) (h2 : acc.length ≠ 4) : clsR (46 :: t) acc = clsR (t.drop (runL t)) (acc ++ [t.take (runL t)]) := by
  unfold clsR
  show (if (46 : UInt8) = 46 then (if runL t = 0 ∨ acc.length = 4 then none else clsS _ (t.drop (runL t)) (acc ++ [t.take (runL t)])) else none) = _
  rw [if_pos rfl, if_neg (by omega)]
  exact clsS_fuel _ _ _ _ (by rw [List.length_drop, List.length_cons]; omega) (Nat.lt_succ_self _)
theorem clsR_bad (t : List UInt8) (acc : List (List UInt8)) (h : runL t = 0 ∨ acc.length = 4) : clsR (46 :: t) acc = none := by
  unfold clsR
  show (if (46 : UInt8) = 46 then (if runL t = 0 ∨ acc.length = 4 then none else clsS _ (t.drop (runL t)) (acc ++ [t.take (runL t)])) else none) = _
  rw [if_pos rfl, if_pos h]
theorem clsR_other (b : UInt8) (t : List UInt8) (acc : List (List UInt8)) (h : b ≠ 46) : clsR (b :: t) acc = none := by
  unfold clsR
  show (if b = 46 then _ else none) = none
  rw [if_neg h]
theorem clsR_nil (acc : List (List UInt8)) : clsR [] acc = some acc := rfl
/-- How far the type goes. -/
def tyN (l : List UInt8) : Nat := if l.head? = some 42 then 1 else runL l
theorem tyN_le (l : List UInt8) : tyN l ≤ l.length := by
  unfold tyN
  split
  · cases l with
    | nil => rename_i h; cases h
    | cons b t => simp
  · exact runL_le l
theorem tyS_N (l : List UInt8) : tyS l = (l.take (tyN l), l.drop (tyN l)) := by
  cases l with
  | nil => simp [tyS]
  | cons b t =>
    unfold tyN tyS
    by_cases h : b = 42
    · simp [h]
    · simp [h]
theorem prs_split {l : List UInt8} (h : l ≠ []) : prs l = match idS (l.drop (tyN l)) with
  | none => none
  | some (id, r) => match clsR r [] with
    | none => none
    | some cs => some ⟨l.take (tyN l), id, cs⟩ := by
  unfold prs clsR
  rw [if_neg h, tyS_N]
  rfl
theorem drop_at {l : List UInt8} {i : Nat} (h : i < l.length) : l.drop i = l[i] :: l.drop (i + 1) := List.drop_eq_getElem_cons h
theorem tail_list (s : ByteArray) (k : Nat) : (s.extract k s.size).data.toList = s.data.toList.drop k := by rw [ext_tail, bA_list]
theorem ext_mid (s : ByteArray) (a n : Nat) : s.extract a (a + n) = bA ((s.data.toList.drop a).take n) := by
  rw [ext_bA, List.drop_take, Nat.add_sub_cancel_left]
/-! ### The state -/
theorem CvP.off {b : Nat} {w : World} {p q : ByteArray} {v : Value} {l : List ByteArray} (h : CvP b w p q v l) (b2 o : Nat) (u : Value) (hne : b ≠ b2) (hv : v.ownBlock ≠ some b2) : CvP b (w.setCell ⟨b2, o, none⟩ u) p q v l := by
  have far : ∀ x, (w.setCell ⟨b2, o, none⟩ u).cell? ⟨b, x, none⟩ = w.cell? ⟨b, x, none⟩ := fun x => World.cell?_setCell_other _ _ _ _ (fun e => by injection e; omega)
  exact ⟨(far 0).trans h.c0, (far 1).trans h.c1, (far 2).trans h.c2, fun x => by rw [World.frozen?_setCell]; exact h.free x, Txs.far h.own _ _ _ hv⟩
theorem CvP.low {b B : Nat} {w w' : World} {p q : ByteArray} (h : CvP b w p q (.slice none 0 0) []) (k : Below B w w') (hb : b < B) : CvP b w' p q (.slice none 0 0) [] :=
  ⟨(Below.cell k (p := ⟨b, 0, none⟩) hb).trans h.c0, (Below.cell k (p := ⟨b, 1, none⟩) hb).trans h.c1, (Below.cell k (p := ⟨b, 2, none⟩) hb).trans h.c2, fun o => (Below.frozen k (p := ⟨b, o, none⟩) hb).trans (h.free o), Txs.nil _ _⟩
theorem CvP.ty {b : Nat} {w : World} {p q : ByteArray} {v : Value} {l : List ByteArray} (h : CvP b w p q v l) (p' : ByteArray) : CvP b (w.setCell ⟨b, 0, none⟩ (.string p')) p' q v l := by
  have far : ∀ x, x ≠ 0 → (w.setCell ⟨b, 0, none⟩ (.string p')).cell? ⟨b, x, none⟩ = w.cell? ⟨b, x, none⟩ := fun x hx => World.cell?_setCell_other _ _ _ _ (fun e => by injection e; omega)
  exact ⟨World.cell?_setCell_same w ⟨b, 0, none⟩ _ h.c0, (far 1 (by omega)).trans h.c1, (far 2 (by omega)).trans h.c2, fun x => by rw [World.frozen?_setCell]; exact h.free x, Txs.far h.own _ _ _ h.ne⟩
theorem CvP.id {b : Nat} {w : World} {p q : ByteArray} {v : Value} {l : List ByteArray} (h : CvP b w p q v l) (q' : ByteArray) : CvP b (w.setCell ⟨b, 1, none⟩ (.string q')) p q' v l := by
  have far : ∀ x, x ≠ 1 → (w.setCell ⟨b, 1, none⟩ (.string q')).cell? ⟨b, x, none⟩ = w.cell? ⟨b, x, none⟩ := fun x hx => World.cell?_setCell_other _ _ _ _ (fun e => by injection e; omega)
  exact ⟨(far 0 (by omega)).trans h.c0, World.cell?_setCell_same w ⟨b, 1, none⟩ _ h.c1, (far 2 (by omega)).trans h.c2, fun x => by rw [World.frozen?_setCell]; exact h.free x, Txs.far h.own _ _ _ h.ne⟩
structure PSt (w wx : World) (ty id : ByteArray) (v : Value) (cls : List ByteArray) : Prop where
  box : CvP (w.heap.size + 1) wx ty id v cls
  z : CvP w.heap.size wx ⟨#[]⟩ ⟨#[]⟩ (.slice none 0 0) []
  nw : Nw w wx
theorem PSt.ty {w wx : World} {ty id : ByteArray} {v : Value} {cls : List ByteArray} (h : PSt w wx ty id v cls) (ty' : ByteArray) : PSt w (wx.setCell ⟨w.heap.size + 1, 0, none⟩ (.string ty')) ty' id v cls :=
  ⟨h.box.ty ty', h.z.off _ _ _ (by omega) (by simp [Value.ownBlock]), h.nw.setCell (by simp) _⟩
theorem PSt.id {w wx : World} {ty id : ByteArray} {v : Value} {cls : List ByteArray} (h : PSt w wx ty id v cls) (id' : ByteArray) : PSt w (wx.setCell ⟨w.heap.size + 1, 1, none⟩ (.string id')) ty id' v cls :=
  ⟨h.box.id id', h.z.off _ _ _ (by omega) (by simp [Value.ownBlock]), h.nw.setCell (by simp) _⟩
theorem PSt.go {w wx wy : World} {ty id : ByteArray} {v : Value} {cls : List ByteArray} (h : PSt w wx ty id v cls) (k : Nw wx wy) : PSt w wy ty id v cls := ⟨h.box.nw k, h.z.nw k, Nw.trans h.nw k⟩
theorem PSt.put {w wx w' : World} {ty id : ByteArray} {v v' : Value} {cls cls' : List ByteArray} (h : PSt w wx ty id v cls) (k : Ext v v' wx w') (ho : Txs w' (w.heap.size + 1 + 1) v' cls') : PSt w (w'.setCell ⟨w.heap.size + 1, 2, none⟩ v') ty id v' cls' := by
  obtain ⟨h1, h2⟩ := h.box.put k ho
  exact ⟨h1, h.z.low h2 (Nat.lt_succ_self _), Below.trans h.nw (Below.mono h2 (by omega))⟩
theorem PSt.new (w : World) (t : TypeId) : PSt w ((w.alloc (.cells #[.string ⟨#[]⟩, .string ⟨#[]⟩, .slice none 0 0] t)).alloc (.cells #[.string ⟨#[]⟩, .string ⟨#[]⟩, .slice none 0 0] t)) ⟨#[]⟩ ⟨#[]⟩ (.slice none 0 0) [] := by
  have h1 := CvP.new w t ⟨#[]⟩ ⟨#[]⟩
  have h2 := CvP.new (w.alloc (.cells #[.string ⟨#[]⟩, .string ⟨#[]⟩, .slice none 0 0] t)) t ⟨#[]⟩ ⟨#[]⟩
  rw [World.size_alloc] at h2
  exact ⟨h2, h1.nw ((Below.refl _ _).alloc (Nat.le_refl _) _), (((Below.refl _ _).alloc (Nat.le_refl _) _).alloc (by simp) _)⟩
theorem PSt.done {w w9 : World} {ty id : ByteArray} {va : Option Addr} {vc : Nat} {D : List ByteArray} (h : PSt w w9 ty id (.slice va D.length vc) D) (u0 u1 u2 : Value) :
    RowM 1 EStr (((w9.setCell ⟨w.heap.size, 0, none⟩ u0).setCell ⟨w.heap.size, 1, none⟩ u1).setCell ⟨w.heap.size, 2, none⟩ u2) (.slice va D.length vc) D (iv w (((w9.setCell ⟨w.heap.size, 0, none⟩ u0).setCell ⟨w.heap.size, 1, none⟩ u1).setCell ⟨w.heap.size, 2, none⟩ u2)) := by
  have hne : (Value.slice va D.length vc).ownBlock ≠ some w.heap.size := fun e => by have := (World.ownsRow.lt h.box.own _ e).1; omega
  exact RowM.ofTxs (((h.box.own.far _ _ _ hne).far _ _ _ hne).far _ _ _ hne) (fun b h1 h2 => ⟨by omega, h2⟩)
end Go.Proofs.YtnkmdmmlpidcmaaDoor
namespace Go.Proofs.YtnkmdmmlpidcmaaDoor
open Go.ChangeShapes Go.WideShapes Go.ChangeAt Go.RowKit
set_option linter.unusedVariables false

theorem hd_byte (s : ByteArray) (k : Nat) (h : k < s.size) : s.data.toList.drop k = s[k] :: s.data.toList.drop (k + 1) := by
  rw [drop_at (by rw [data_len]; exact h), getB s k h]
theorem hd_some (s : ByteArray) (k : Nat) (h : k < s.size) : (s.data.toList.drop k).head? = some s[k] := by rw [hd_byte s k h]; rfl
theorem hd_none (s : ByteArray) (k : Nat) (h : ¬ k < s.size) : s.data.toList.drop k = [] := List.drop_eq_nil_of_le (by rw [data_len]; omega)
theorem byte_ne {b : UInt8} (n : Nat) (hn : n < 256) (h : b ≠ UInt8.ofNat n) : ((b.toNat : Int) == (n : Int)) = false ∧ ((b.toNat : Int) != (n : Int)) = true := by
  have e : ((b.toNat : Int) == (n : Int)) = false := by
    rw [beq_eq_false_iff_ne]
    intro e
    apply h
    apply UInt8.toNat_inj.1
    have : (UInt8.ofNat n).toNat = n := UInt8.toNat_ofNat_of_lt (by simpa using hn)
    rw [this]
    omega
  exact ⟨e, by rw [bne, e]; rfl⟩
theorem ext_one (s : ByteArray) (k : Nat) (h : k < s.size) : (s.extract k (k + 1)).data.toList = [s[k]] := by
  rw [ext_mid, bA_list, hd_byte s k h]
  rfl
set_option maxRecDepth 100000 in
set_option maxHeartbeats 8000000 in
theorem sbare (s : ByteArray) (w : World) (hs : s.size ≤ 1048576) :
    Calls Tryd.prog 26 #[.string s] w fun e w' => e = .returned (.string (bareB s)) ∧ w' = w := by
  go_enter Tryd.func26, Tryd.ntmps26
  go_wp2
  go_loop [3, 4] (fun v i => ∃ (pos : Nat) (acc : ByteArray), i = .int .i64 (pos : Int) ∧ v = .string acc ∧ pos ≤ s.size + 2 ∧ acc.data.toList ++ bareL (s.data.toList.drop pos) = bareL s.data.toList) (fun _ i => s.size + 2 - (intOf i).toNat)
  case atStart => exact ⟨0, ⟨#[]⟩, rfl, rfl, by omega, rfl⟩
  case round =>
    obtain ⟨pos, acc, rfl, rfl, hp, hbr⟩ := hrel
    have hac : acc.size ≤ 1048576 := by
      have h1 := congrArg List.length hbr
      have h2 := bareL_len _ s.data.toList (Nat.le_refl _)
      rw [List.length_append, data_len] at h1
      rw [data_len] at h2
      omega
    by_cases hlt : pos < s.size
    · have hd := hd_byte s pos hlt
      have hltI : (pos : Int) < (s.size : Int) := by omega
      have hsz : (s.extract pos (pos + 1)).size ≤ 1048576 := by rw [ByteArray.size_extract]; omega
      have hone := ext_one s pos hlt
      by_cases hC : s[pos] = 47 ∧ (s.data.toList.drop (pos + 1)).head? = some 42
      · have hl1 : pos + 1 < s.size := by
          by_cases h : pos + 1 < s.size
          · exact h
          · rw [hd_none s _ h] at hC; exact absurd hC.2 (by simp)
        have h42 : s[pos + 1] = 42 := by have := hC.2; rw [hd_some s _ hl1] at this; injection this
        have g1 : ((s[pos].toNat : Int) == 47) = true := by rw [hC.1]; rfl
        have g1' : ((s[pos].toNat : Int) != 47) = false := by rw [hC.1]; rfl
        have g2 : ((s[pos + 1].toNat : Int) == 42) = true := by rw [h42]; rfl
        have g2' : ((s[pos + 1].toNat : Int) != 42) = false := by rw [h42]; rfl
        have hge : ¬ ((s.size : Int) ≤ (pos : Int) + 1) := by omega
        have HBR : Hid (∀ k, skipC (s.data.toList.drop (pos + 2)) = s.data.toList.drop (k + 2) → (acc ++ ⟨#[32]⟩).data.toList ++ bareL (s.data.toList.drop (k + 2)) = bareL s.data.toList) := by
          intro k hk
          rw [← hk, ← hbr, hd, hC.1, bareL_begin _ hC.2, List.tail_drop]
          simp
        clear hd hone hC h42 hsz hbr
        go_wp2
        go_loop [5] (fun v => ∃ k : Nat, v = .int .i64 (k : Int) ∧ pos + 2 ≤ k ∧ k ≤ s.size ∧ skipC (s.data.toList.drop (pos + 2)) = skipC (s.data.toList.drop k)) (fun v => s.size - (intOf v).toNat)
        case atStart => exact ⟨pos + 2, by go_num, Nat.le_refl _, by omega, rfl⟩
        case round =>
          obtain ⟨k, rfl, hk1, hk2, hsk⟩ := hrel
          by_cases hkl : k < s.size
          · have hkI : (k : Int) < (s.size : Int) := by omega
            have hdk := hd_byte s k hkl
            by_cases hE : s[k] = 42 ∧ (s.data.toList.drop (k + 1)).head? = some 47
            · have hl2 : k + 1 < s.size := by
                by_cases h : k + 1 < s.size
                · exact h
                · rw [hd_none s _ h] at hE; exact absurd hE.2 (by simp)
              have h47 : s[k + 1] = 47 := by have := hE.2; rw [hd_some s _ hl2] at this; injection this
              have f1 : ((s[k].toNat : Int) == 42) = true := by rw [hE.1]; rfl
              have f2 : ((s[k + 1].toNat : Int) == 47) = true := by rw [h47]; rfl
              have hl2I : (k : Int) + 1 < (s.size : Int) := by omega
              have HO : Hid _ := HBR.out k (by rw [hsk, hdk, hE.1, skipC_end _ hE.2, List.tail_drop])
              clear hdk hE h47 hsk
              go_wp2
              go_round
              case rel => exact ⟨k + 2, _, by go_num, by first | rfl | simp, by omega, HO.out⟩
              case measure => simp [intOf]; omega
            · have HK : Hid (skipC (s.data.toList.drop (pos + 2)) = skipC (s.data.toList.drop (k + 1))) := by show _ = _; rw [hsk, hdk, skipC_step _ _ hE]
              by_cases e1 : s[k] = 42
              · have f1 : ((s[k].toNat : Int) == 42) = true := by rw [e1]; rfl
                by_cases hl2 : k + 1 < s.size
                · have hl2I : (k : Int) + 1 < (s.size : Int) := by omega
                  have e2 : s[k + 1] ≠ 47 := fun h => hE ⟨e1, by rw [hd_some s _ hl2, h]⟩
                  have f2 : ((s[k + 1].toNat : Int) == 47) = false := (byte_ne 47 (by omega) e2).1
                  clear hdk hE hsk e1 e2
                  go_wp2
                  go_round
                  case rel => exact ⟨k + 1, by go_num, by omega, by omega, HK.out⟩
                  case measure => simp [intOf]; omega
                · have hl2I : ¬ ((k : Int) + 1 < (s.size : Int)) := by omega
                  clear hdk hE hsk e1
                  go_wp2
                  go_round
                  case rel => exact ⟨k + 1, by go_num, by omega, by omega, HK.out⟩
                  case measure => simp [intOf]; omega
              · have f1 : ((s[k].toNat : Int) == 42) = false := (byte_ne 42 (by omega) e1).1
                clear hdk hE hsk e1
                go_wp2
                go_round
                case rel => exact ⟨k + 1, by go_num, by omega, by omega, HK.out⟩
                case measure => simp [intOf]; omega
          · have hkI : ¬ ((k : Int) < (s.size : Int)) := by omega
            have HO : Hid _ := HBR.out k (by rw [hsk, hd_none s k hkl, hd_none s (k + 2) (by omega)]; rfl)
            clear hsk
            go_wp2
            go_round
            case rel => exact ⟨k + 2, _, by go_num, by first | rfl | simp, by omega, HO.out⟩
            case measure => simp [intOf]; omega
      · have HS : Hid ((acc ++ s.extract pos (pos + 1)).data.toList ++ bareL (s.data.toList.drop (pos + 1)) = bareL s.data.toList) := by
          show _ = _
          rw [← hbr, hd, bareL_step _ _ hC]
          simp only [ByteArray.data_append, Array.toList_append, hone, List.append_assoc]
          rfl
        by_cases e1 : s[pos] = 47
        · have g1 : ((s[pos].toNat : Int) == 47) = true := by rw [e1]; rfl
          have g1' : ((s[pos].toNat : Int) != 47) = false := by rw [e1]; rfl
          by_cases hl1 : pos + 1 < s.size
          · have hge : ¬ ((s.size : Int) ≤ (pos : Int) + 1) := by omega
            have e2 : s[pos + 1] ≠ 42 := fun h => hC ⟨e1, by rw [hd_some s _ hl1, h]⟩
            have g2 : ((s[pos + 1].toNat : Int) == 42) = false := (byte_ne 42 (by omega) e2).1
            have g2' : ((s[pos + 1].toNat : Int) != 42) = true := (byte_ne 42 (by omega) e2).2
            clear hd hC hbr e1 e2 hone
            go_wp2
            go_round
            case rel => exact ⟨pos + 1, _, by go_num, by first | rfl | simp, by omega, HS.out⟩
            case measure => simp [intOf]; omega
          · have hge : (s.size : Int) ≤ (pos : Int) + 1 := by omega
            clear hd hC hbr e1 hone
            go_wp2
            go_round
            case rel => exact ⟨pos + 1, _, by go_num, by first | rfl | simp, by omega, HS.out⟩
            case measure => simp [intOf]; omega
        · have g1 : ((s[pos].toNat : Int) == 47) = false := (byte_ne 47 (by omega) e1).1
          have g1' : ((s[pos].toNat : Int) != 47) = true := (byte_ne 47 (by omega) e1).2
          clear hd hC hbr e1 hone
          go_wp2
          go_round
          case rel => exact ⟨pos + 1, _, by go_num, by first | rfl | simp, by omega, HS.out⟩
          case measure => simp [intOf]; omega
    · have hltI : ¬ ((pos : Int) < (s.size : Int)) := by omega
      have HR : Hid (acc = bareB s) := by
        show _ = _
        rw [hd_none s pos hlt, bareL_nil, List.append_nil] at hbr
        unfold bareB
        rw [← hbr, bA_data]
      clear hbr
      go_wp2
      go_ret
      exact ⟨by rw [HR.out]; rfl, rfl⟩
end Go.Proofs.YtnkmdmmlpidcmaaDoor
