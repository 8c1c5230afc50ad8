/-
  Regions that draw their order, whose callees make new memory at most and say nothing of what may be written; each theorem names its conditions.
  What an append leaves as it was; each theorem names its conditions.
  Rows of elements in blocks of the call's own, each element with memory of its own; each theorem names its conditions.
  A mark as a text: what the laws' helper makes of a number; each theorem names its conditions.
-/
import Derived.Test.YtnkmdmmlpidcmaaDoorJAB
import Derived.Maps.AppendAt
import Derived.OwnWalk
import Derived.Handy
import Derived.Lib.SlBytesRow
namespace Go.Proofs.YtnkmdmmlpidcmaaDoor
open Go.ChangeShapes Go.WideShapes Go.ChangeAt Go.RowKit
set_option linter.unusedVariables false

theorem rq_atN {W w : World} {b o : Nat} {v : Value} (k : Nw W w) (h : W.cell? ⟨b, o, none⟩ = some v) : w.cell? ⟨b, o, none⟩ = some v := ((bcell k).1 _ _ (World.block_lt_of_cell? W ⟨b, o, none⟩ h)).trans h
section
variable {ops : Array Oper} {acts : List Nat} {av : Nat → Option Nat} {val0 : Nat → Value} {Wd : Nat → (Nat → Value) → World → Prop} {a0 : Act} {Q : Exit → Act → World → Prop}
theorem st_callGN {γ : Nat → Value} {listed : Array Bool} {a : Act} {w : World} {i d : Nat} {o : Oper} {f : FuncId} {args : Array Value} (hF : FrI ops (valG av val0 γ) a0 listed a) (hC : Clo ops listed) (hW : Wd (phase listed acts) γ w) (ho : ops[i]? = some o) (h2 : ∀ e ∈ o.after, Region.binds .any e = true → listed.getD e.on false = true)
    (hna : i ∉ acts) (hd : o.dst = some d) (hg : o.guard = none) (hav : av d = none) (hrun : (execOp a.eval o).run Tryd.prog w = .ok (.enter f args) w) (hc : Calls Tryd.prog f args w fun e w' => e = .returned (val0 d) ∧ Nw w w') (hk : ∀ w', Nw w w' → Wd (phase listed acts) γ w') :
    wpOp Tryd.prog ops Q i (fun a' w' => InvG ops acts av val0 Wd a0 (listed.setIfInBounds i true) a' w') a w := by
  have hi := hF.lt ho
  unfold wpOp
  rw [ho]
  have hw : Region.wanted o (yielded ops a.tmps) = true := by unfold Region.wanted; rw [hg]
  simp only [hw, if_true]
  refine Or.inl ?_
  unfold Oper.wp
  rw [hrun]
  have e : valG av val0 γ d = val0 d := by unfold valG; rw [hav]
  refine Calls.mono hc ?_
  rintro e' w' ⟨rfl, hkk⟩
  refine ⟨γ, ?_, hC.set hi ho h2, by rw [phase_ne hi acts hna]; exact hk w' hkk⟩
  have := hF.put ho hd
  rw [e] at this
  exact this
theorem st_callWN {γ : Nat → Value} {listed : Array Bool} {a : Act} {w : World} {i d : Nat} {o : Oper} {f : FuncId} {args : Array Value} (hF : FrI ops (valG av val0 γ) a0 listed a) (hC : Clo ops listed) (hW : Wd (phase listed acts) γ w) (ho : ops[i]? = some o) (h2 : ∀ e ∈ o.after, Region.binds .any e = true → listed.getD e.on false = true)
    (hna : i ∉ acts) (hd : o.dst = some d) (hw : Region.wanted o (yielded ops a.tmps) = true) (hav : av d = none) (hrun : (execOp a.eval o).run Tryd.prog w = .ok (.enter f args) w) (hc : Calls Tryd.prog f args w fun e w' => e = .returned (val0 d) ∧ Nw w w') (hk : ∀ w', Nw w w' → Wd (phase listed acts) γ w') :
    wpOp Tryd.prog ops Q i (fun a' w' => InvG ops acts av val0 Wd a0 (listed.setIfInBounds i true) a' w') a w := by
  have hi := hF.lt ho
  unfold wpOp
  rw [ho]
  simp only [hw, if_true]
  refine Or.inl ?_
  unfold Oper.wp
  rw [hrun]
  have e : valG av val0 γ d = val0 d := by unfold valG; rw [hav]
  refine Calls.mono hc ?_
  rintro e' w' ⟨rfl, hkk⟩
  refine ⟨γ, ?_, hC.set hi ho h2, by rw [phase_ne hi acts hna]; exact hk w' hkk⟩
  have := hF.put ho hd
  rw [e] at this
  exact this
end
section
variable {ops : Array Oper} {acts : List Nat} {av : Nat → Option Nat} {val0 : Nat → Value} {Wd : Nat → (Nat → Value) → World → Prop} {a0 : Act} {Q : Exit → Act → World → Prop} {L : List (Option Nat × Op × Option (Nat × Bool))} {ini : List Nat} {nt : Nat}
theorem st_callKN (hL : ops.toList.map tri = L) (hI : ∀ n ∈ ini, a0.eval (.tmp n) = val0 n) (hs : a0.tmps.size = nt) {i d : Nat} {f : FuncId} {args : Array Operand} {ts : Array TypeId} (hl : L[i]? = some (some d, .call { callee := .value (.func f), args := args, argTypes := ts }, none)) (hk : callB ops acts av ini nt i d args = true) (hf : ∀ v w, (callFunc f v).run Tryd.prog w = .ok (.enter f v) w)
    (hx : ∀ γ w n, Wd n γ w → Calls Tryd.prog f (args.toList.map (envR (valG av val0 γ))).toArray w fun e w' => e = .returned (val0 d) ∧ Nw w w') (hp : ∀ γ w n w', Wd n γ w → Nw w w' → Wd n γ w') : StepG ops acts av val0 Wd a0 Q i := by
  intro γ listed a w o hF hC hW h1 ho h2
  obtain ⟨hd, hop, hg⟩ := fieldsL hL hl ho
  obtain ⟨h3, h4, h5⟩ := call_run (w := w) hF ho h2 hI hs hop hk hf
  exact st_callGN hF hC hW ho h2 h3 hd hg h4 h5 (hx γ w _ hW) (fun w' => hp γ w _ w' hW)
end
end Go.Proofs.YtnkmdmmlpidcmaaDoor
namespace Go.Proofs.YtnkmdmmlpidcmaaDoor
open Go.ChangeShapes Go.WideShapes Go.ChangeAt Go.RowKit
set_option linter.unusedVariables false

/-- Behind an append to v, which is v' now. -/
def Ext (v v' : Value) (w w' : World) : Prop := w.grownBy w' v.ownBlock ∧ (v'.ownBlock = v.ownBlock ∨ ∃ g, v'.ownBlock = some g ∧ w.heap.size ≤ g)
theorem Ext.refl (v : Value) (w : World) : Ext v v w w := ⟨⟨rfl, rfl, rfl, Nat.le_refl _, fun _ _ _ => rfl⟩, Or.inl rfl⟩
theorem Ext.size {v v' : Value} {w w' : World} (h : Ext v v' w w') : w.heap.size ≤ w'.heap.size := h.1.size
theorem Ext.trans {v v1 v2 : Value} {w w1 w2 : World} (h : Ext v v1 w w1) (k : Ext v1 v2 w1 w2) : Ext v v2 w w2 := by
  refine ⟨⟨k.1.os.trans h.1.os, k.1.tape.trans h.1.tape, k.1.output.trans h.1.output, Nat.le_trans h.1.size k.1.size, fun b hb hne => ?_⟩, ?_⟩
  · rw [k.1.block b (Nat.lt_of_lt_of_le hb h.1.size) ?_, h.1.block b hb hne]
    rcases h.2 with e | ⟨g, e, hg⟩
    · rw [e]; exact hne
    · rw [e]; intro e2; injection e2; omega
  · rcases k.2 with e | ⟨g, e, hg⟩
    · rcases h.2 with e2 | ⟨g, e2, hg⟩
      · exact Or.inl (e.trans e2)
      · exact Or.inr ⟨g, e.trans e2, hg⟩
    · exact Or.inr ⟨g, e, Nat.le_trans h.1.size hg⟩
theorem Nw.ext {v v' : Value} {a b c : World} (h : Nw a b) (k : Ext v v' b c) : Ext v v' a c := by
  have hs := Below.size h
  refine ⟨⟨k.1.os.trans (Below.os h), k.1.tape.trans (Below.tape h), k.1.output.trans (Below.output h), Nat.le_trans hs k.1.size, fun b hb hne => ?_⟩, ?_⟩
  · rw [k.1.block b (by omega) hne, Below.block h b hb]
  · rcases k.2 with e | ⟨g, e, hg⟩
    · exact Or.inl e
    · exact Or.inr ⟨g, e, by omega⟩
theorem Ext.nw {v v' : Value} {a b c : World} (h : Ext v v' a b) (k : Nw b c) : Ext v v' a c := by
  have hs := h.1.size
  refine ⟨⟨(Below.os k).trans h.1.os, (Below.tape k).trans h.1.tape, (Below.output k).trans h.1.output, Nat.le_trans hs (Below.size k), fun b hb hne => ?_⟩, h.2⟩
  rw [Below.block k b (by omega), h.1.block b hb hne]
theorem Ext.below {v v' : Value} {w w' : World} {B : Nat} (h : Ext v v' w w') (hv : ∀ g, v.ownBlock = some g → B ≤ g) (hB : B ≤ w.heap.size) : Below B w w' :=
  ⟨h.1.os, h.1.tape, h.1.output, h.1.size, fun k hk => h.1.block k (by omega) (fun e => by have := hv k e.symm; omega)⟩
theorem Ext.apart {v v' : Value} {w w' : World} {b : Nat} (h : Ext v v' w w') (hb : b < w.heap.size) (hne : v.ownBlock ≠ some b) : v'.ownBlock ≠ some b := by
  rcases h.2 with e | ⟨g, e, hg⟩
  · rw [e]; exact hne
  · rw [e]; intro e2; injection e2; omega
theorem Ext.cell {v v' : Value} {w w' : World} {b : Nat} (h : Ext v v' w w') (hb : b < w.heap.size) (hne : v.ownBlock ≠ some b) (o : Nat) : w'.cell? ⟨b, o, none⟩ = w.cell? ⟨b, o, none⟩ :=
  World.cell?_of_block (w := w) (a := ⟨b, o, none⟩) (h.1.block b hb (fun e => hne e.symm))

theorem set_grown {w : World} {b o : Nat} {u : Value} : w.grownBy (w.setCell ⟨b, o, none⟩ u) (some b) :=
  ⟨rfl, rfl, rfl, by simp [World.setCell], fun i hi hne => Below.heap_setCell _ _ _ _ (by intro e; apply hne; rw [e])⟩
end Go.Proofs.YtnkmdmmlpidcmaaDoor
namespace Go.Proofs.YtnkmdmmlpidcmaaDoor
open Go.ChangeShapes Go.WideShapes Go.ChangeAt Go.RowKit
set_option linter.unusedVariables false

/-- Of what was there nothing but blocks of F is written. -/
structure Wr (F : Nat → Prop) (w w' : World) : Prop where
  os : w'.os = w.os
  tape : w'.tape = w.tape
  output : w'.output = w.output
  size : w.heap.size ≤ w'.heap.size
  block : ∀ b, b < w.heap.size → ¬ F b → w'.heap[b]? = w.heap[b]?
theorem Wr.refl (F : Nat → Prop) (w : World) : Wr F w w := ⟨rfl, rfl, rfl, Nat.le_refl _, fun _ _ _ => rfl⟩
theorem Wr.trans {F : Nat → Prop} {a b c : World} (h : Wr F a b) (k : Wr F b c) : Wr F a c :=
  ⟨k.os.trans h.os, k.tape.trans h.tape, k.output.trans h.output, Nat.le_trans h.size k.size, fun x hx hn => (k.block x (Nat.lt_of_lt_of_le hx h.size) hn).trans (h.block x hx hn)⟩
theorem Wr.mono {F G : Nat → Prop} {a b : World} (h : Wr F a b) (k : ∀ x, F x → G x) : Wr G a b :=
  ⟨h.os, h.tape, h.output, h.size, fun x hx hn => h.block x hx (fun e => hn (k x e))⟩
theorem Wr.nw {F : Nat → Prop} {a b : World} (h : Nw a b) : Wr F a b := ⟨Below.os h, Below.tape h, Below.output h, Below.size h, fun x hx _ => Below.block h x hx⟩
theorem Wr.set {F : Nat → Prop} {a b : World} (h : Wr F a b) {g : Nat} (hg : F g) (o : Nat) (v : Value) : Wr F a (b.setCell ⟨g, o, none⟩ v) :=
  ⟨h.os, h.tape, h.output, by simpa [World.setCell] using h.size, fun i hi hne => by
    rw [Below.heap_setCell _ _ _ _ (by intro e; apply hne; rw [e]; exact hg)]
    exact h.block i hi hne⟩
theorem Wr.grown {F : Nat → Prop} {a b : World} {g : Nat} (h : a.grownBy b (some g)) (hg : F g) : Wr F a b :=
  ⟨h.os, h.tape, h.output, h.size, fun x hx hn => h.block x hx (fun e => hn (by injection e with e; rw [e]; exact hg))⟩
theorem Wr.ext {F : Nat → Prop} {v v' : Value} {a b : World} (h : Ext v v' a b) (k : ∀ x, v.ownBlock = some x → F x) : Wr F a b :=
  ⟨h.1.os, h.1.tape, h.1.output, h.1.size, fun x hx hn => h.1.block x hx (fun e => hn (k x e.symm))⟩
theorem Wr.below {F : Nat → Prop} {a b : World} (h : Wr F a b) {B : Nat} (k : ∀ x, F x → B ≤ x) (hB : B ≤ a.heap.size) : Below B a b :=
  ⟨h.os, h.tape, h.output, h.size, fun x hx => h.block x (by omega) (fun e => by have := k x e; omega)⟩
/-- Blocks that came between two worlds. -/
def iv (w w' : World) : Nat → Prop := fun b => w.heap.size ≤ b ∧ b < w'.heap.size
def disj (F G : Nat → Prop) : Prop := ∀ b, F b → ¬ G b

/-- How an element lies in its cells, with which blocks besides. -/
abbrev Els (α : Type) := World → List Value → α → (Nat → Prop) → Prop
def KeptE {α : Type} (E : Els α) : Prop := ∀ w w' cs x F G, E w cs x F → Wr G w w' → disj F G → E w' cs x F
structure El (α : Type) where
  x : α
  cs : List Value
  F : Nat → Prop

structure RowO (t : TypeId) (n : Nat) {α : Type} (E : Els α) (w : World) (B : Nat) (v : Value) (els : List (El α)) : Prop where
  own : w.ownsRow B t n v els.length (els.flatMap (·.cs))
  el : ∀ e, e ∈ els → E w e.cs e.x e.F ∧ e.cs.length = n ∧ ∀ b, e.F b → B ≤ b ∧ b < w.heap.size ∧ v.ownBlock ≠ some b
  apart : els.Pairwise fun a b => disj a.F b.F
theorem RowO.nil (t : TypeId) (n : Nat) {α : Type} (E : Els α) (w : World) (B : Nat) : RowO t n E w B (.slice none 0 0) [] :=
  ⟨World.ownsRow_nil w B t n, (fun e h => by cases h), List.Pairwise.nil⟩
theorem RowO.nw {t : TypeId} {n : Nat} {α : Type} {E : Els α} (hE : KeptE E) {w w' : World} {B : Nat} {v : Value} {els : List (El α)} (h : RowO t n E w B v els) (k : Nw w w') : RowO t n E w' B v els := by
  refine ⟨World.ownsRow.kept h.own (row := none) ⟨Below.os k, Below.tape k, Below.output k, Below.size k, fun b hb _ => Below.block k b hb⟩ (by cases hv : v.ownBlock <;> simp), fun e he => ?_, h.apart⟩
  obtain ⟨h1, h2, h3⟩ := h.el e he
  refine ⟨hE _ _ _ _ _ (fun _ => False) h1 (Wr.nw k) (fun _ _ hf => hf), h2, fun b hb => ?_⟩
  obtain ⟨a, c, d⟩ := h3 b hb
  exact ⟨a, Nat.lt_of_lt_of_le c (Below.size k), d⟩
theorem RowO.lt {t : TypeId} {n : Nat} {α : Type} {E : Els α} {w : World} {B : Nat} {v : Value} {els : List (El α)} (h : RowO t n E w B v els) : ∀ g, v.ownBlock = some g → B ≤ g ∧ g < w.heap.size := World.ownsRow.lt h.own
theorem RowO.slice {t : TypeId} {n : Nat} {α : Type} {E : Els α} {w : World} {B : Nat} {v : Value} {els : List (El α)} (h : RowO t n E w B v els) : ∃ a c, v = .slice a els.length c := by
  rcases h.own.2 with ⟨hn, h1⟩ | ⟨g, cap, cur, h1, _⟩
  · exact ⟨_, _, by rw [h1]; exact hn⟩
  · exact ⟨_, _, h1⟩
theorem RowO.below {t : TypeId} {n : Nat} {α : Type} {E : Els α} {w w' : World} {B : Nat} {v v' : Value} {els : List (El α)} (h : RowO t n E w B v els) (k : Ext v v' w w') (hB : B ≤ w.heap.size) : Below B w w' :=
  k.below (fun g e => (h.lt g e).1) hB
theorem RowO.put {t : TypeId} {n : Nat} {α : Type} {E : Els α} (hE : KeptE E) {w0 w w' : World} {B : Nat} {v v' : Value} {els : List (El α)} (h : RowO t n E w0 B v els) (k : Nw w0 w) (hB : B ≤ w0.heap.size) {x : α} {cs : List Value} (hx : E w cs x (iv w0 w)) (hcs : cs.length = n)
    (hown : w'.ownsRow B t n v' (els.length + 1) (els.flatMap (·.cs) ++ cs)) (hext : Ext v v' w w') : RowO t n E w' B v' (els ++ [⟨x, cs, iv w0 w⟩]) := by
  have h1 := h.nw hE k
  have hs := hext.size
  have hk := Below.size k
  refine ⟨?_, fun e he => ?_, ?_⟩
  · rw [List.length_append, List.flatMap_append]
    have e1 : ([⟨x, cs, iv w0 w⟩] : List (El α)).flatMap (·.cs) = cs := by simp
    rw [e1]
    exact hown
  · rcases List.mem_append.1 he with he | he
    · obtain ⟨a1, a2, a3⟩ := h1.el e he
      refine ⟨hE _ _ _ _ _ (fun b => v.ownBlock = some b) a1 (Wr.ext hext (fun _ e => e)) (fun b hb => (a3 b hb).2.2), a2, fun b hb => ?_⟩
      obtain ⟨b1, b2, b3⟩ := a3 b hb
      exact ⟨b1, by omega, hext.apart b2 b3⟩
    · rw [List.mem_singleton] at he
      subst he
      have nv : ∀ b, iv w0 w b → v.ownBlock ≠ some b := by
        intro b hb e
        have := (h.lt b e).2
        have := hb.1
        omega
      refine ⟨hE _ _ _ _ _ (fun b => v.ownBlock = some b) hx (Wr.ext hext (fun _ e => e)) nv, hcs, fun b hb => ⟨Nat.le_trans hB hb.1, Nat.lt_of_lt_of_le hb.2 hs, hext.apart hb.2 (nv b hb)⟩⟩
  · rw [List.pairwise_append]
    refine ⟨h.apart, List.pairwise_singleton _ _, fun a ha b hb => ?_⟩
    rw [List.mem_singleton] at hb
    subst hb
    intro c hc hd
    have := ((h.el a ha).2.2 c hc).2.1
    have := hd.1
    omega

/-- Elements that lie in a block, cell by cell. -/
structure RowA (n : Nat) {α : Type} (E : Els α) (w : World) (g : Nat) (els : List (El α)) (F : Nat → Prop) : Prop where
  lt : g < w.heap.size
  fz : ∀ o, w.frozen? ⟨g, o, none⟩ = false
  inF : F g
  cell : ∀ i e, els[i]? = some e → ∀ j u, e.cs[j]? = some u → w.cell? ⟨g, i * n + j, none⟩ = some u
  el : ∀ e, e ∈ els → E w e.cs e.x e.F ∧ e.cs.length = n ∧ ∀ b, e.F b → F b ∧ b ≠ g
  apart : els.Pairwise fun a b => disj a.F b.F
def RowM (n : Nat) {α : Type} (E : Els α) (w : World) (v : Value) (xs : List α) (F : Nat → Prop) : Prop :=
  (v = .slice none 0 0 ∧ xs = []) ∨ ∃ g c els, v = .slice (some ⟨g, 0, none⟩) xs.length c ∧ xs.length ≤ c ∧ els.map El.x = xs ∧ RowA n E w g els F
theorem RowM.nil (n : Nat) {α : Type} (E : Els α) (w : World) (F : Nat → Prop) : RowM n E w (.slice none 0 0) [] F := Or.inl ⟨rfl, rfl⟩
theorem RowM.mono {n : Nat} {α : Type} {E : Els α} {w : World} {v : Value} {xs : List α} {F G : Nat → Prop} (h : RowM n E w v xs F) (k : ∀ b, F b → G b) : RowM n E w v xs G := by
  rcases h with h | ⟨g, c, els, h1, h2, h3, h4⟩
  · exact Or.inl h
  · exact Or.inr ⟨g, c, els, h1, h2, h3, h4.lt, h4.fz, k _ h4.inF, h4.cell, fun e he => ⟨(h4.el e he).1, (h4.el e he).2.1, fun b hb => ⟨k b ((h4.el e he).2.2 b hb).1, ((h4.el e he).2.2 b hb).2⟩⟩, h4.apart⟩
theorem RowA.kept {n : Nat} {α : Type} {E : Els α} (hE : KeptE E) {w w' : World} {g : Nat} {els : List (El α)} {F G : Nat → Prop} (h : RowA n E w g els F) (k : Wr G w w') (d : disj F G) : RowA n E w' g els F := by
  have hb := k.block g h.lt (d g h.inF)
  refine ⟨Nat.lt_of_lt_of_le h.lt k.size, fun o => ?_, h.inF, fun i e hi j u hj => ?_, fun e he => ?_, h.apart⟩
  · rw [World.frozen?_of_block (w := w) (a := ⟨g, o, none⟩) hb]; exact h.fz o
  · rw [World.cell?_of_block (w := w) (a := ⟨g, _, none⟩) hb]; exact h.cell i e hi j u hj
  · obtain ⟨h1, h2, h3⟩ := h.el e he
    exact ⟨hE _ _ _ _ _ G h1 k (fun b hb => d b (h3 b hb).1), h2, h3⟩
theorem RowM.kept {n : Nat} {α : Type} {E : Els α} (hE : KeptE E) {w w' : World} {v : Value} {xs : List α} {F G : Nat → Prop} (h : RowM n E w v xs F) (k : Wr G w w') (d : disj F G) : RowM n E w' v xs F := by
  rcases h with h | ⟨g, c, els, h1, h2, h3, h4⟩
  · exact Or.inl h
  · exact Or.inr ⟨g, c, els, h1, h2, h3, h4.kept hE k d⟩
theorem RowM.nw {n : Nat} {α : Type} {E : Els α} (hE : KeptE E) {w w' : World} {v : Value} {xs : List α} {F : Nat → Prop} (h : RowM n E w v xs F) (k : Nw w w') : RowM n E w' v xs F :=
  h.kept hE (Wr.nw k) (fun _ _ (hf : False) => hf)
theorem RowM.slice {n : Nat} {α : Type} {E : Els α} {w : World} {v : Value} {xs : List α} {F : Nat → Prop} (h : RowM n E w v xs F) : ∃ a c, v = .slice a xs.length c ∧ xs.length ≤ c := by
  rcases h with ⟨h1, h2⟩ | ⟨g, c, els, h1, h2, h3, h4⟩
  · exact ⟨none, 0, by rw [h2]; exact h1, by rw [h2]; exact Nat.le_refl _⟩
  · exact ⟨_, c, h1, h2⟩
theorem flat_at {α : Type} (n : Nat) : ∀ (els : List (El α)), (∀ e, e ∈ els → e.cs.length = n) → ∀ i e, els[i]? = some e → ∀ j, j < n → (els.flatMap (·.cs))[i * n + j]? = e.cs[j]? := by
  intro els
  induction els with
  | nil => intro _ i e h; simp at h
  | cons x l ih =>
    intro hl i e hi j hj
    have hx := hl x List.mem_cons_self
    rw [List.flatMap_cons]
    cases i with
    | zero =>
      simp at hi
      subst hi
      rw [Nat.zero_mul, Nat.zero_add, List.getElem?_append_left (by rw [hx]; exact hj)]
    | succ i =>
      rw [List.getElem?_append_right (by rw [hx, Nat.succ_mul]; omega)]
      have e1 : (i + 1) * n + j - x.cs.length = i * n + j := by rw [hx, Nat.succ_mul]; omega
      rw [e1]
      exact ih (fun e he => hl e (List.mem_cons_of_mem _ he)) i e (by simpa using hi) j hj
theorem RowO.row {t : TypeId} {n : Nat} {α : Type} {E : Els α} {w : World} {B : Nat} {v : Value} {els : List (El α)} (h : RowO t n E w B v els) {F : Nat → Prop} (hF : ∀ b, B ≤ b → b < w.heap.size → F b) : RowM n E w v (els.map El.x) F := by
  have h0 := h.own
  rcases h.own.2 with ⟨hn, h1⟩ | ⟨g, cap, cur, h1, h2, h3, h4, h5, h6, h7⟩
  · exact Or.inl ⟨hn, by rw [List.eq_nil_of_length_eq_zero h1]; rfl⟩
  · subst h1
    have hlt := h.lt g rfl
    refine Or.inr ⟨g, cap, els, by rw [List.length_map], by rw [List.length_map]; exact h4, rfl, hlt.2, fun o => World.ownsRow.frozenAt h0 o, hF g h2 hlt.2, fun i e hi j u hj => ?_, fun e he => ?_, h.apart⟩
    · have hi' := (List.getElem?_eq_some_iff.1 hi).1
      have hj' := (List.getElem?_eq_some_iff.1 hj).1
      have hm : e ∈ els := List.mem_of_getElem? hi
      rw [(h.el e hm).2.1] at hj'
      have hb : i * n + j < els.length * n := by
        have : (i + 1) * n ≤ els.length * n := Nat.mul_le_mul_right n hi'
        rw [Nat.succ_mul] at this
        omega
      rw [World.ownsRow.cellAt h0 (i * n + j) hb, flat_at n els (fun e he => (h.el e he).2.1) i e hi j hj']
      exact hj
    · obtain ⟨a1, a2, a3⟩ := h.el e he
      refine ⟨a1, a2, fun b hb => ?_⟩
      obtain ⟨b1, b2, b3⟩ := a3 b hb
      exact ⟨hF b b1 b2, fun e => b3 (by rw [e]; rfl)⟩
/-- An element in its place is written anew. -/
theorem RowA.step {n : Nat} {α : Type} {E : Els α} (hE : KeptE E) {w w' : World} {g : Nat} {els : List (El α)} {F : Nat → Prop} (h : RowA n E w g els F) (k : Nat) (e : El α) (x' : α) (cs' : List Value) (hk : els[k]? = some e) (hlen : cs'.length = n)
    (hw : Wr (fun b => b = g ∨ e.F b) w w') (hfz : ∀ o, w'.frozen? ⟨g, o, none⟩ = false) (hc : ∀ j u, cs'[j]? = some u → w'.cell? ⟨g, k * n + j, none⟩ = some u)
    (hoth : ∀ i j, i ≠ k → j < n → w'.cell? ⟨g, i * n + j, none⟩ = w.cell? ⟨g, i * n + j, none⟩) (hx : E w' cs' x' e.F) : RowA n E w' g (els.set k ⟨x', cs', e.F⟩) F := by
  have hk' := (List.getElem?_eq_some_iff.1 hk).1
  have hke := (List.getElem?_eq_some_iff.1 hk).2
  have hm : e ∈ els := List.mem_of_getElem? hk
  have hap := List.pairwise_iff_getElem.1 h.apart
  refine ⟨Nat.lt_of_lt_of_le h.lt hw.size, hfz, h.inF, fun i e1 hi j u hj => ?_, fun e1 he => ?_, ?_⟩
  · by_cases hik : i = k
    · subst hik
      rw [List.getElem?_set_self hk'] at hi
      injection hi with hi
      subst hi
      exact hc j u hj
    · rw [List.getElem?_set_ne (fun c => hik c.symm)] at hi
      have hm1 : e1 ∈ els := List.mem_of_getElem? hi
      have hj' := (List.getElem?_eq_some_iff.1 hj).1
      rw [(h.el e1 hm1).2.1] at hj'
      rw [hoth i j hik hj']
      exact h.cell i e1 hi j u hj
  · obtain ⟨i, hi, hie⟩ := List.mem_iff_getElem.1 he
    rw [List.length_set] at hi
    by_cases hik : i = k
    · subst hik
      rw [List.getElem_set_self] at hie
      subst hie
      exact ⟨hx, hlen, (h.el e hm).2.2⟩
    · rw [List.getElem_set_ne (fun c => hik c.symm)] at hie
      have hm1 : e1 ∈ els := by rw [← hie]; exact List.getElem_mem _
      obtain ⟨a1, a2, a3⟩ := h.el e1 hm1
      refine ⟨hE _ _ _ _ _ _ a1 hw (fun b hb => ?_), a2, a3⟩
      rintro (c | c)
      · exact (a3 b hb).2 c
      · rcases Nat.lt_or_gt_of_ne hik with d | d
        · have := hap i k hi hk' d b
          rw [hie, hke] at this
          exact this hb c
        · have := hap k i hk' hi d b
          rw [hie, hke] at this
          exact this c hb
  · rw [List.pairwise_iff_getElem]
    intro i j hi hj hij
    rw [List.length_set] at hi hj
    have := hap i j hi hj hij
    have e2 : ∀ m (hm : m < (els.set k ⟨x', cs', e.F⟩).length) (hm2 : m < els.length), ((els.set k ⟨x', cs', e.F⟩)[m]'hm).F = (els[m]'hm2).F := by
      intro m hm hm2
      by_cases hmk : m = k
      · subst hmk; rw [List.getElem_set_self, hke]
      · rw [List.getElem_set_ne (fun c => hmk c.symm)]
    rw [e2 i _ hi, e2 j _ hj]
    exact this
theorem set_marked {α : Type} (m l : List α) (k : Nat) (x : α) (hl : m.length = l.length) (hk : k < l.length) (hx : m[k]? = some x) : (m.take k ++ l.drop k).set k x = m.take (k + 1) ++ l.drop (k + 1) := by
  have hk2 : k < m.length := by omega
  rw [List.set_append_right _ _ (by rw [List.length_take]; omega)]
  have e1 : k - (m.take k).length = 0 := by rw [List.length_take]; omega
  rw [e1, List.drop_eq_getElem_cons hk, List.set_cons_zero]
  have e2 : m[k] = x := (List.getElem?_eq_some_iff.1 hx).2
  rw [List.take_succ_eq_append_getElem hk2, e2, List.append_assoc]
  rfl
theorem marked_at {α : Type} (m l : List α) (k : Nat) (hl : m.length = l.length) (hk : k < l.length) : (m.take k ++ l.drop k)[k]? = l[k]? := by
  rw [List.getElem?_append_right (by rw [List.length_take]; omega), List.length_take, Nat.min_eq_left (by omega), Nat.sub_self, List.getElem?_drop, Nat.add_zero]
end Go.Proofs.YtnkmdmmlpidcmaaDoor
namespace Go.Proofs.YtnkmdmmlpidcmaaDoor
open Go.ChangeShapes Go.WideShapes Go.ChangeAt Go.RowKit
set_option linter.unusedVariables false

/-- The digits of a number. -/
def digT : Nat → Nat → ByteArray → ByteArray
  | 0, _, s => s
  | f + 1, n, s => if n = 0 then s else digT f (n / 10) ((⟨#[UInt8.ofNat (48 + n % 10)]⟩ : ByteArray) ++ s)
theorem digT_fuel : ∀ (f g n : Nat) (s : ByteArray), n ≤ f → n ≤ g → digT f n s = digT g n s
  | 0, 0, _, _, _, _ => rfl
  | 0, g + 1, n, s, h, _ => by
    have : n = 0 := by omega
    subst this; rfl
  | f + 1, 0, n, s, _, h => by
    have : n = 0 := by omega
    subst this; rfl
  | f + 1, g + 1, n, s, h1, h2 => by
    unfold digT
    by_cases h : n = 0
    · rw [if_pos h, if_pos h]
    · rw [if_neg h, if_neg h]
      exact digT_fuel f g (n / 10) _ (by omega) (by omega)
def markT (n : Nat) : ByteArray := (⟨#[109]⟩ : ByteArray) ++ digT n n ⟨#[]⟩
theorem digT_step (n : Nat) (s : ByteArray) (h : ¬ n = 0) : digT n n s = digT (n / 10) (n / 10) ((⟨#[UInt8.ofNat (48 + n % 10)]⟩ : ByteArray) ++ s) := by
  obtain ⟨f, rfl⟩ : ∃ f, n = f + 1 := ⟨n - 1, by omega⟩
  conv => lhs; unfold digT
  rw [if_neg h]
  exact digT_fuel f _ _ _ (by omega) (Nat.le_refl _)
theorem conv_byte (w : World) (c : UInt8) : (convert 73 9 (.slice (some ⟨w.heap.size, 0, none⟩) 1 1)).run Tryd.prog (w.alloc (.cells #[.int .u8 (c.toNat : Int)] 5)) = .ok (.string ⟨#[c]⟩) (w.alloc (.cells #[.int .u8 (c.toNat : Int)] 5)) := by
  have hu : Tryd.prog.underlying 9 = some .string := Tryd.underlying9
  have h8 : Tryd.prog.underlying 5 = some (.int .u8) := Tryd.underlying5
  refine Lib.run_convert_whole _ _ _ _ Tryd.underlying73 h8 hu w.heap.size 0 ⟨#[c]⟩ ?_ 1
  intro i hi
  have e : i = 0 := by have : (⟨#[c]⟩ : ByteArray).size = 1 := rfl; omega
  subst e
  simp; rfl
set_option maxHeartbeats 1000000 in
set_option maxRecDepth 100000 in
theorem markText_any (w : World) (n : Nat) (h1 : 1 ≤ n) (hn : n ≤ 100000000) : Calls Tryd.prog 30 #[.int .i64 (n : Int)] w fun e w' => e = .returned (.string (markT n)) ∧ Nw w w' := by
  have hpos : ¬ ((n : Int) ≤ 0) := by omega
  go_enter Tryd.func30, Tryd.ntmps30
  go_wp2
  go_loopw [0, 3] (fun x y wr => ∃ (m : Nat) (acc : ByteArray), x = .int .i64 m ∧ y = .string acc ∧ m ≤ n ∧ acc.size + m ≤ n ∧ digT m m acc = digT n n ⟨#[]⟩ ∧ Nw w wr) (fun x _ _ => (intOf x).toNat)
  case atStart => exact ⟨n, ⟨#[]⟩, rfl, rfl, Nat.le_refl _, Nat.le_of_eq (Nat.zero_add _), rfl, Below.refl _ _⟩
  case round =>
    obtain ⟨m, acc, rfl, rfl, hm, hz, hd, hw⟩ := hrel
    by_cases h0 : m = 0
    · subst h0
      have HX : Hid (markT n = (⟨#[109]⟩ : ByteArray) ++ acc) := by show markT n = _; unfold markT; rw [← hd]; rfl
      have HW : Hid (Nw w wr) := hw
      clear hd hw
      have hsz : (⟨#[109]⟩ : ByteArray).size = 1 := rfl
      go_wp2
      go_ret
      exact ⟨by rw [HX.out]; rfl, HW.out⟩
    · have hp : (0 : Int) < (m : Int) := by omega
      have HD : Hid (digT (m / 10) (m / 10) ((⟨#[UInt8.ofNat (48 + m % 10)]⟩ : ByteArray) ++ acc) = digT n n ⟨#[]⟩) := by show _ = _; rw [← digT_step m acc h0]; exact hd
      have HW : Hid (Nw w wr) := hw
      clear hd hw
      have ht : (m : Int).tmod 10 = ((m % 10 : Nat) : Int) := by rw [Int.tmod_eq_emod_of_nonneg (by omega)]; omega
      have hq : (m : Int).tdiv 10 = ((m / 10 : Nat) : Int) := by rw [Int.tdiv_eq_ediv_of_nonneg (by omega)]; omega
      have hcv := conv_byte wr (UInt8.ofNat (48 + m % 10))
      have hcn : (UInt8.ofNat (48 + m % 10)).toNat = 48 + m % 10 := by simp; omega
      rw [hcn, show ((48 + m % 10 : Nat) : Int) = 48 + (m : Int) % 10 by omega] at hcv
      clear hcn
      generalize UInt8.ofNat (48 + m % 10) = ch at *
      have hs1 : (⟨#[ch]⟩ : ByteArray).size = 1 := rfl
      go_wp2
      go_roundw
      case rel => exact ⟨m / 10, _, congrArg (Value.int .i64) (by omega), rfl, by omega, by rw [ByteArray.size_append, hs1]; omega, HD.out, HW.out.trans ((Below.refl _ _).alloc (Nat.le_refl _) _)⟩
      case measure => simp [intOf]; omega
end Go.Proofs.YtnkmdmmlpidcmaaDoor
