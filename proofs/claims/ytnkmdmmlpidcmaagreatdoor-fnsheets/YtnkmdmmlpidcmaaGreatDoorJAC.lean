/-
  Rows of elements in blocks of the call's own, each element with memory of its own; each theorem names its conditions.
  An element with memory of its own appended to a row; each theorem names its conditions.
  Rows of elements that grow beside a reader whose block alone is written; each theorem names its conditions.
  A part of a selector read from its text, on lists of bytes: as the specification reads it; each theorem names its conditions.
-/
import Derived.Test.YtnkmdmmlpidcmaaGreatDoorJAB
import Derived.ProofKit
namespace Go.Proofs.YtnkmdmmlpidcmaaGreatDoor
open Go.ChangeShapes Go.WideShapes Go.ChangeAt Go.RowKit
set_option linter.unusedVariables false

/-- Of what was there nothing but blocks of F is written. -/
structure Wr (F : Nat → Prop) (w w' : World) : Prop where
  os : w'.os = w.os
  tape : w'.tape = w.tape
  output : w'.output = w.output
  size : w.heap.size ≤ w'.heap.size
  block : ∀ b, b < w.heap.size → ¬ F b → w'.heap[b]? = w.heap[b]?
theorem Wr.refl (F : Nat → Prop) (w : World) : Wr F w w := ⟨rfl, rfl, rfl, Nat.le_refl _, fun _ _ _ => rfl⟩
theorem Wr.trans {F : Nat → Prop} {a b c : World} (h : Wr F a b) (k : Wr F b c) : Wr F a c :=
  ⟨k.os.trans h.os, k.tape.trans h.tape, k.output.trans h.output, Nat.le_trans h.size k.size, fun x hx hn => (k.block x (Nat.lt_of_lt_of_le hx h.size) hn).trans (h.block x hx hn)⟩
theorem Wr.mono {F G : Nat → Prop} {a b : World} (h : Wr F a b) (k : ∀ x, F x → G x) : Wr G a b :=
  ⟨h.os, h.tape, h.output, h.size, fun x hx hn => h.block x hx (fun e => hn (k x e))⟩
theorem Wr.nw {F : Nat → Prop} {a b : World} (h : Nw a b) : Wr F a b := ⟨Below.os h, Below.tape h, Below.output h, Below.size h, fun x hx _ => Below.block h x hx⟩
theorem Wr.set {F : Nat → Prop} {a b : World} (h : Wr F a b) {g : Nat} (hg : F g) (o : Nat) (v : Value) : Wr F a (b.setCell ⟨g, o, none⟩ v) :=
  ⟨h.os, h.tape, h.output, by simpa [World.setCell] using h.size, fun i hi hne => by
    rw [Below.heap_setCell _ _ _ _ (by intro e; apply hne; rw [e]; exact hg)]
    exact h.block i hi hne⟩
theorem Wr.grown {F : Nat → Prop} {a b : World} {g : Nat} (h : a.grownBy b (some g)) (hg : F g) : Wr F a b :=
  ⟨h.os, h.tape, h.output, h.size, fun x hx hn => h.block x hx (fun e => hn (by injection e with e; rw [e]; exact hg))⟩
theorem Wr.ext {F : Nat → Prop} {v v' : Value} {a b : World} (h : Ext v v' a b) (k : ∀ x, v.ownBlock = some x → F x) : Wr F a b :=
  ⟨h.1.os, h.1.tape, h.1.output, h.1.size, fun x hx hn => h.1.block x hx (fun e => hn (k x e.symm))⟩
theorem Wr.below {F : Nat → Prop} {a b : World} (h : Wr F a b) {B : Nat} (k : ∀ x, F x → B ≤ x) (hB : B ≤ a.heap.size) : Below B a b :=
  ⟨h.os, h.tape, h.output, h.size, fun x hx => h.block x (by omega) (fun e => by have := k x e; omega)⟩
/-- Blocks that came between two worlds. -/
def iv (w w' : World) : Nat → Prop := fun b => w.heap.size ≤ b ∧ b < w'.heap.size
def disj (F G : Nat → Prop) : Prop := ∀ b, F b → ¬ G b

/-- How an element lies in its cells, with which blocks besides. -/
abbrev Els (α : Type) := World → List Value → α → (Nat → Prop) → Prop
def KeptE {α : Type} (E : Els α) : Prop := ∀ w w' cs x F G, E w cs x F → Wr G w w' → disj F G → E w' cs x F
structure El (α : Type) where
  x : α
  cs : List Value
  F : Nat → Prop

structure RowO (t : TypeId) (n : Nat) {α : Type} (E : Els α) (w : World) (B : Nat) (v : Value) (els : List (El α)) : Prop where
  own : w.ownsRow B t n v els.length (els.flatMap (·.cs))
  el : ∀ e, e ∈ els → E w e.cs e.x e.F ∧ e.cs.length = n ∧ ∀ b, e.F b → B ≤ b ∧ b < w.heap.size ∧ v.ownBlock ≠ some b
  apart : els.Pairwise fun a b => disj a.F b.F
theorem RowO.nil (t : TypeId) (n : Nat) {α : Type} (E : Els α) (w : World) (B : Nat) : RowO t n E w B (.slice none 0 0) [] :=
  ⟨World.ownsRow_nil w B t n, (fun e h => by cases h), List.Pairwise.nil⟩
theorem RowO.nw {t : TypeId} {n : Nat} {α : Type} {E : Els α} (hE : KeptE E) {w w' : World} {B : Nat} {v : Value} {els : List (El α)} (h : RowO t n E w B v els) (k : Nw w w') : RowO t n E w' B v els := by
  refine ⟨World.ownsRow.kept h.own (row := none) ⟨Below.os k, Below.tape k, Below.output k, Below.size k, fun b hb _ => Below.block k b hb⟩ (by cases hv : v.ownBlock <;> simp), fun e he => ?_, h.apart⟩
  obtain ⟨h1, h2, h3⟩ := h.el e he
  refine ⟨hE _ _ _ _ _ (fun _ => False) h1 (Wr.nw k) (fun _ _ hf => hf), h2, fun b hb => ?_⟩
  obtain ⟨a, c, d⟩ := h3 b hb
  exact ⟨a, Nat.lt_of_lt_of_le c (Below.size k), d⟩
theorem RowO.lt {t : TypeId} {n : Nat} {α : Type} {E : Els α} {w : World} {B : Nat} {v : Value} {els : List (El α)} (h : RowO t n E w B v els) : ∀ g, v.ownBlock = some g → B ≤ g ∧ g < w.heap.size := World.ownsRow.lt h.own
theorem RowO.slice {t : TypeId} {n : Nat} {α : Type} {E : Els α} {w : World} {B : Nat} {v : Value} {els : List (El α)} (h : RowO t n E w B v els) : ∃ a c, v = .slice a els.length c := by
  rcases h.own.2 with ⟨hn, h1⟩ | ⟨g, cap, cur, h1, _⟩
  · exact ⟨_, _, by rw [h1]; exact hn⟩
  · exact ⟨_, _, h1⟩
theorem RowO.below {t : TypeId} {n : Nat} {α : Type} {E : Els α} {w w' : World} {B : Nat} {v v' : Value} {els : List (El α)} (h : RowO t n E w B v els) (k : Ext v v' w w') (hB : B ≤ w.heap.size) : Below B w w' :=
  k.below (fun g e => (h.lt g e).1) hB
theorem RowO.put {t : TypeId} {n : Nat} {α : Type} {E : Els α} (hE : KeptE E) {w0 w w' : World} {B : Nat} {v v' : Value} {els : List (El α)} (h : RowO t n E w0 B v els) (k : Nw w0 w) (hB : B ≤ w0.heap.size) {x : α} {cs : List Value} (hx : E w cs x (iv w0 w)) (hcs : cs.length = n)
    (hown : w'.ownsRow B t n v' (els.length + 1) (els.flatMap (·.cs) ++ cs)) (hext : Ext v v' w w') : RowO t n E w' B v' (els ++ [⟨x, cs, iv w0 w⟩]) := by
  have h1 := h.nw hE k
  have hs := hext.size
  have hk := Below.size k
  refine ⟨?_, fun e he => ?_, ?_⟩
  · rw [List.length_append, List.flatMap_append]
    have e1 : ([⟨x, cs, iv w0 w⟩] : List (El α)).flatMap (·.cs) = cs := by simp
    rw [e1]
    exact hown
  · rcases List.mem_append.1 he with he | he
    · obtain ⟨a1, a2, a3⟩ := h1.el e he
      refine ⟨hE _ _ _ _ _ (fun b => v.ownBlock = some b) a1 (Wr.ext hext (fun _ e => e)) (fun b hb => (a3 b hb).2.2), a2, fun b hb => ?_⟩
      obtain ⟨b1, b2, b3⟩ := a3 b hb
      exact ⟨b1, by omega, hext.apart b2 b3⟩
    · rw [List.mem_singleton] at he
      subst he
      have nv : ∀ b, iv w0 w b → v.ownBlock ≠ some b := by
        intro b hb e
        have := (h.lt b e).2
        have := hb.1
        omega
      refine ⟨hE _ _ _ _ _ (fun b => v.ownBlock = some b) hx (Wr.ext hext (fun _ e => e)) nv, hcs, fun b hb => ⟨Nat.le_trans hB hb.1, Nat.lt_of_lt_of_le hb.2 hs, hext.apart hb.2 (nv b hb)⟩⟩
  · rw [List.pairwise_append]
    refine ⟨h.apart, List.pairwise_singleton _ _, fun a ha b hb => ?_⟩
    rw [List.mem_singleton] at hb
    subst hb
    intro c hc hd
    have := ((h.el a ha).2.2 c hc).2.1
    have := hd.1
    omega

/-- Elements that lie in a block, cell by cell. -/
structure RowA (n : Nat) {α : Type} (E : Els α) (w : World) (g : Nat) (els : List (El α)) (F : Nat → Prop) : Prop where
  lt : g < w.heap.size
  fz : ∀ o, w.frozen? ⟨g, o, none⟩ = false
  inF : F g
  cell : ∀ i e, els[i]? = some e → ∀ j u, e.cs[j]? = some u → w.cell? ⟨g, i * n + j, none⟩ = some u
  el : ∀ e, e ∈ els → E w e.cs e.x e.F ∧ e.cs.length = n ∧ ∀ b, e.F b → F b ∧ b ≠ g
  apart : els.Pairwise fun a b => disj a.F b.F
def RowM (n : Nat) {α : Type} (E : Els α) (w : World) (v : Value) (xs : List α) (F : Nat → Prop) : Prop :=
  (v = .slice none 0 0 ∧ xs = []) ∨ ∃ g c els, v = .slice (some ⟨g, 0, none⟩) xs.length c ∧ xs.length ≤ c ∧ els.map El.x = xs ∧ RowA n E w g els F
theorem RowM.nil (n : Nat) {α : Type} (E : Els α) (w : World) (F : Nat → Prop) : RowM n E w (.slice none 0 0) [] F := Or.inl ⟨rfl, rfl⟩
theorem RowM.mono {n : Nat} {α : Type} {E : Els α} {w : World} {v : Value} {xs : List α} {F G : Nat → Prop} (h : RowM n E w v xs F) (k : ∀ b, F b → G b) : RowM n E w v xs G := by
  rcases h with h | ⟨g, c, els, h1, h2, h3, h4⟩
  · exact Or.inl h
  · exact Or.inr ⟨g, c, els, h1, h2, h3, h4.lt, h4.fz, k _ h4.inF, h4.cell, fun e he => ⟨(h4.el e he).1, (h4.el e he).2.1, fun b hb => ⟨k b ((h4.el e he).2.2 b hb).1, ((h4.el e he).2.2 b hb).2⟩⟩, h4.apart⟩
theorem RowA.kept {n : Nat} {α : Type} {E : Els α} (hE : KeptE E) {w w' : World} {g : Nat} {els : List (El α)} {F G : Nat → Prop} (h : RowA n E w g els F) (k : Wr G w w') (d : disj F G) : RowA n E w' g els F := by
  have hb := k.block g h.lt (d g h.inF)
  refine ⟨Nat.lt_of_lt_of_le h.lt k.size, fun o => ?_, h.inF, fun i e hi j u hj => ?_, fun e he => ?_, h.apart⟩
  · rw [World.frozen?_of_block (w := w) (a := ⟨g, o, none⟩) hb]; exact h.fz o
  · rw [World.cell?_of_block (w := w) (a := ⟨g, _, none⟩) hb]; exact h.cell i e hi j u hj
  · obtain ⟨h1, h2, h3⟩ := h.el e he
    exact ⟨hE _ _ _ _ _ G h1 k (fun b hb => d b (h3 b hb).1), h2, h3⟩
theorem RowM.kept {n : Nat} {α : Type} {E : Els α} (hE : KeptE E) {w w' : World} {v : Value} {xs : List α} {F G : Nat → Prop} (h : RowM n E w v xs F) (k : Wr G w w') (d : disj F G) : RowM n E w' v xs F := by
  rcases h with h | ⟨g, c, els, h1, h2, h3, h4⟩
  · exact Or.inl h
  · exact Or.inr ⟨g, c, els, h1, h2, h3, h4.kept hE k d⟩
theorem RowM.nw {n : Nat} {α : Type} {E : Els α} (hE : KeptE E) {w w' : World} {v : Value} {xs : List α} {F : Nat → Prop} (h : RowM n E w v xs F) (k : Nw w w') : RowM n E w' v xs F :=
  h.kept hE (Wr.nw k) (fun _ _ (hf : False) => hf)
theorem RowM.slice {n : Nat} {α : Type} {E : Els α} {w : World} {v : Value} {xs : List α} {F : Nat → Prop} (h : RowM n E w v xs F) : ∃ a c, v = .slice a xs.length c ∧ xs.length ≤ c := by
  rcases h with ⟨h1, h2⟩ | ⟨g, c, els, h1, h2, h3, h4⟩
  · exact ⟨none, 0, by rw [h2]; exact h1, by rw [h2]; exact Nat.le_refl _⟩
  · exact ⟨_, c, h1, h2⟩
theorem flat_at {α : Type} (n : Nat) : ∀ (els : List (El α)), (∀ e, e ∈ els → e.cs.length = n) → ∀ i e, els[i]? = some e → ∀ j, j < n → (els.flatMap (·.cs))[i * n + j]? = e.cs[j]? := by
  intro els
  induction els with
  | nil => intro _ i e h; simp at h
  | cons x l ih =>
    intro hl i e hi j hj
    have hx := hl x List.mem_cons_self
    rw [List.flatMap_cons]
    cases i with
    | zero =>
      simp at hi
      subst hi
      rw [Nat.zero_mul, Nat.zero_add, List.getElem?_append_left (by rw [hx]; exact hj)]
    | succ i =>
      rw [List.getElem?_append_right (by rw [hx, Nat.succ_mul]; omega)]
      have e1 : (i + 1) * n + j - x.cs.length = i * n + j := by rw [hx, Nat.succ_mul]; omega
      rw [e1]
      exact ih (fun e he => hl e (List.mem_cons_of_mem _ he)) i e (by simpa using hi) j hj
theorem RowO.row {t : TypeId} {n : Nat} {α : Type} {E : Els α} {w : World} {B : Nat} {v : Value} {els : List (El α)} (h : RowO t n E w B v els) {F : Nat → Prop} (hF : ∀ b, B ≤ b → b < w.heap.size → F b) : RowM n E w v (els.map El.x) F := by
  have h0 := h.own
  rcases h.own.2 with ⟨hn, h1⟩ | ⟨g, cap, cur, h1, h2, h3, h4, h5, h6, h7⟩
  · exact Or.inl ⟨hn, by rw [List.eq_nil_of_length_eq_zero h1]; rfl⟩
  · subst h1
    have hlt := h.lt g rfl
    refine Or.inr ⟨g, cap, els, by rw [List.length_map], by rw [List.length_map]; exact h4, rfl, hlt.2, fun o => World.ownsRow.frozenAt h0 o, hF g h2 hlt.2, fun i e hi j u hj => ?_, fun e he => ?_, h.apart⟩
    · have hi' := (List.getElem?_eq_some_iff.1 hi).1
      have hj' := (List.getElem?_eq_some_iff.1 hj).1
      have hm : e ∈ els := List.mem_of_getElem? hi
      rw [(h.el e hm).2.1] at hj'
      have hb : i * n + j < els.length * n := by
        have : (i + 1) * n ≤ els.length * n := Nat.mul_le_mul_right n hi'
        rw [Nat.succ_mul] at this
        omega
      rw [World.ownsRow.cellAt h0 (i * n + j) hb, flat_at n els (fun e he => (h.el e he).2.1) i e hi j hj']
      exact hj
    · obtain ⟨a1, a2, a3⟩ := h.el e he
      refine ⟨a1, a2, fun b hb => ?_⟩
      obtain ⟨b1, b2, b3⟩ := a3 b hb
      exact ⟨hF b b1 b2, fun e => b3 (by rw [e]; rfl)⟩
/-- An element in its place is written anew. -/
theorem RowA.step {n : Nat} {α : Type} {E : Els α} (hE : KeptE E) {w w' : World} {g : Nat} {els : List (El α)} {F : Nat → Prop} (h : RowA n E w g els F) (k : Nat) (e : El α) (x' : α) (cs' : List Value) (hk : els[k]? = some e) (hlen : cs'.length = n)
    (hw : Wr (fun b => b = g ∨ e.F b) w w') (hfz : ∀ o, w'.frozen? ⟨g, o, none⟩ = false) (hc : ∀ j u, cs'[j]? = some u → w'.cell? ⟨g, k * n + j, none⟩ = some u)
    (hoth : ∀ i j, i ≠ k → j < n → w'.cell? ⟨g, i * n + j, none⟩ = w.cell? ⟨g, i * n + j, none⟩) (hx : E w' cs' x' e.F) : RowA n E w' g (els.set k ⟨x', cs', e.F⟩) F := by
  have hk' := (List.getElem?_eq_some_iff.1 hk).1
  have hke := (List.getElem?_eq_some_iff.1 hk).2
  have hm : e ∈ els := List.mem_of_getElem? hk
  have hap := List.pairwise_iff_getElem.1 h.apart
  refine ⟨Nat.lt_of_lt_of_le h.lt hw.size, hfz, h.inF, fun i e1 hi j u hj => ?_, fun e1 he => ?_, ?_⟩
  · by_cases hik : i = k
    · subst hik
      rw [List.getElem?_set_self hk'] at hi
      injection hi with hi
      subst hi
      exact hc j u hj
    · rw [List.getElem?_set_ne (fun c => hik c.symm)] at hi
      have hm1 : e1 ∈ els := List.mem_of_getElem? hi
      have hj' := (List.getElem?_eq_some_iff.1 hj).1
      rw [(h.el e1 hm1).2.1] at hj'
      rw [hoth i j hik hj']
      exact h.cell i e1 hi j u hj
  · obtain ⟨i, hi, hie⟩ := List.mem_iff_getElem.1 he
    rw [List.length_set] at hi
    by_cases hik : i = k
    · subst hik
      rw [List.getElem_set_self] at hie
      subst hie
      exact ⟨hx, hlen, (h.el e hm).2.2⟩
    · rw [List.getElem_set_ne (fun c => hik c.symm)] at hie
      have hm1 : e1 ∈ els := by rw [← hie]; exact List.getElem_mem _
      obtain ⟨a1, a2, a3⟩ := h.el e1 hm1
      refine ⟨hE _ _ _ _ _ _ a1 hw (fun b hb => ?_), a2, a3⟩
      rintro (c | c)
      · exact (a3 b hb).2 c
      · rcases Nat.lt_or_gt_of_ne hik with d | d
        · have := hap i k hi hk' d b
          rw [hie, hke] at this
          exact this hb c
        · have := hap k i hk' hi d b
          rw [hie, hke] at this
          exact this c hb
  · rw [List.pairwise_iff_getElem]
    intro i j hi hj hij
    rw [List.length_set] at hi hj
    have := hap i j hi hj hij
    have e2 : ∀ m (hm : m < (els.set k ⟨x', cs', e.F⟩).length) (hm2 : m < els.length), ((els.set k ⟨x', cs', e.F⟩)[m]'hm).F = (els[m]'hm2).F := by
      intro m hm hm2
      by_cases hmk : m = k
      · subst hmk; rw [List.getElem_set_self, hke]
      · rw [List.getElem_set_ne (fun c => hmk c.symm)]
    rw [e2 i _ hi, e2 j _ hj]
    exact this
theorem set_marked {α : Type} (m l : List α) (k : Nat) (x : α) (hl : m.length = l.length) (hk : k < l.length) (hx : m[k]? = some x) : (m.take k ++ l.drop k).set k x = m.take (k + 1) ++ l.drop (k + 1) := by
  have hk2 : k < m.length := by omega
  rw [List.set_append_right _ _ (by rw [List.length_take]; omega)]
  have e1 : k - (m.take k).length = 0 := by rw [List.length_take]; omega
  rw [e1, List.drop_eq_getElem_cons hk, List.set_cons_zero]
  have e2 : m[k] = x := (List.getElem?_eq_some_iff.1 hx).2
  rw [List.take_succ_eq_append_getElem hk2, e2, List.append_assoc]
  rfl
theorem marked_at {α : Type} (m l : List α) (k : Nat) (hl : m.length = l.length) (hk : k < l.length) : (m.take k ++ l.drop k)[k]? = l[k]? := by
  rw [List.getElem?_append_right (by rw [List.length_take]; omega), List.length_take, Nat.min_eq_left (by omega), Nat.sub_self, List.getElem?_drop, Nat.add_zero]
end Go.Proofs.YtnkmdmmlpidcmaaGreatDoor
namespace Go.Proofs.YtnkmdmmlpidcmaaGreatDoor
open Go.ChangeShapes Go.WideShapes Go.ChangeAt Go.RowKit
set_option linter.unusedVariables false

theorem wp_rw {α : Type} {E : Els α} (hE : KeptE E) {t ts : TypeId} {n bytes : Nat} {z : Value} (ht : Tryz.prog.underlying ts = some (.slice t)) (hinfo : (Tryz.prog.info? t).map (fun i => (i.zero, i.size, i.bytes)) = some (some z, n, bytes)) (hz : z.cells.size = n) (hn : 0 < n) (hby : bytes ≤ 1000)
    {ops : Array Oper} {rest : List Oper} {o : Oper} {a : Act} {Q : Exit → Act → World → Prop} (w0 w : World) (hgd : o.guard = none) (s x : Operand)
    (ho : o.op = .call { callee := .builtin .append, args := #[s, x], argTypes := #[ts, ts] }) (B : Nat) (v : Value) (els : List (El α)) (hs : a.eval s = v) (h0 : RowO t n E w0 B v els) (k : Nw w0 w) (hB : B ≤ w0.heap.size)
    (g : Nat) (hx : a.eval x = .slice (some ⟨g, 0, none⟩) 1 1) (y : α) (cs : List Value) (hc : ∀ j u, cs[j]? = some u → w.cell? ⟨g, j, none⟩ = some u) (hcs : cs.length = n) (h1 : ∀ u ∈ cs, u.oneCell' = true) (hy : E w cs y (iv w0 w)) (hl : els.length ≤ 10000000)
    (h : ∀ v' w', RowO t n E w' B v' (els ++ [⟨y, cs, iv w0 w⟩]) → Ext v v' w w' → wpList Tryz.prog ops Q rest (a.put o.dst v') w') : wpList Tryz.prog ops Q (o :: rest) a w := by
  obtain ⟨i0, hi, hzz'⟩ := Option.map_eq_some_iff.1 hinfo
  simp only [Prod.mk.injEq] at hzz'
  obtain ⟨hz0, hz1, hz2⟩ := hzz'
  have hB2 : B ≤ w.heap.size := Nat.le_trans hB (Below.size k)
  have hmul : (els.length + 1) * bytes ≤ 140737488355328 := by
    have : (els.length + 1) * bytes ≤ 10000001 * 1000 := Nat.mul_le_mul (by omega) hby
    omega
  refine wpList_append_own_at w hgd s x ts ho B t i0 z n bytes ht hi hz0 hz1 hz2 hz hn v els.length (els.flatMap (·.cs)) hs (h0.nw hE k).own ⟨g, 0, none⟩ 1 1 cs hx (by rw [Nat.one_mul]; exact hcs) (fun j u hj => by rw [add_at, Nat.zero_add]; exact hc j u hj) h1 (by unfold maxLen; omega) hmul hB2 ?_
  intro v' w' h2 h3 _ h5
  have hext : Ext v v' w w' := ⟨h3, h5.imp id fun e => ⟨_, e, Nat.le_refl _⟩⟩
  exact h v' w' (RowO.put hE h0 k hB hy hcs h2 hext) hext
theorem iv_mono {w w1 w2 : World} (h : w1.heap.size ≤ w2.heap.size) : ∀ b, iv w w1 b → iv w w2 b := fun b hb => ⟨hb.1, Nat.lt_of_lt_of_le hb.2 h⟩
theorem iv_low {w0 w w1 : World} (h : w0.heap.size ≤ w.heap.size) : ∀ b, iv w w1 b → iv w0 w1 b := fun b hb => ⟨Nat.le_trans h hb.1, hb.2⟩
end Go.Proofs.YtnkmdmmlpidcmaaGreatDoor
namespace Go.Proofs.YtnkmdmmlpidcmaaGreatDoor
open Go.ChangeShapes Go.WideShapes Go.ChangeAt Go.RowKit
set_option linter.unusedVariables false

theorem Wr.gr {b : Nat} {w w' : World} (k : Gr b w w') : Wr (fun x => x = b) w w' := Wr.grown k rfl
theorem RowO.gr {t : TypeId} {n : Nat} {α : Type} {E : Els α} (hE : KeptE E) {w w' : World} {B b : Nat} {v : Value} {els : List (El α)} (h : RowO t n E w B v els) (k : Gr b w w') (hb : b < B) : RowO t n E w' B v els := by
  refine ⟨World.ownsRow.kept h.own k (Or.inr (fun e => by have := (h.lt b e).1; omega)), fun e he => ?_, h.apart⟩
  obtain ⟨h1, h2, h3⟩ := h.el e he
  refine ⟨hE _ _ _ _ _ (fun x => x = b) h1 (Wr.gr k) (fun x hx e => by have := (h3 x hx).1; omega), h2, fun x hx => ?_⟩
  obtain ⟨a, c, d⟩ := h3 x hx
  exact ⟨a, Nat.lt_of_lt_of_le c k.size, d⟩
theorem RowO.putG {t : TypeId} {n : Nat} {α : Type} {E : Els α} (hE : KeptE E) {w0 w w' : World} {B b : Nat} {v v' : Value} {els : List (El α)} (h : RowO t n E w0 B v els) (k : Gr b w0 w) (hb : b < B) (hB : B ≤ w0.heap.size) {x : α} {cs : List Value} (hx : E w cs x (iv w0 w)) (hcs : cs.length = n)
    (hown : w'.ownsRow B t n v' (els.length + 1) (els.flatMap (·.cs) ++ cs)) (hext : Ext v v' w w') : RowO t n E w' B v' (els ++ [⟨x, cs, iv w0 w⟩]) := by
  have h1 := h.gr hE k hb
  have hs := hext.size
  have hk := k.size
  refine ⟨?_, fun e he => ?_, ?_⟩
  · rw [List.length_append, List.flatMap_append]
    have e1 : ([⟨x, cs, iv w0 w⟩] : List (El α)).flatMap (·.cs) = cs := by simp
    rw [e1]
    exact hown
  · rcases List.mem_append.1 he with he | he
    · obtain ⟨a1, a2, a3⟩ := h1.el e he
      refine ⟨hE _ _ _ _ _ (fun b => v.ownBlock = some b) a1 (Wr.ext hext (fun _ e => e)) (fun b hb => (a3 b hb).2.2), a2, fun b hb => ?_⟩
      obtain ⟨b1, b2, b3⟩ := a3 b hb
      exact ⟨b1, by omega, hext.apart b2 b3⟩
    · rw [List.mem_singleton] at he
      subst he
      have nv : ∀ b, iv w0 w b → v.ownBlock ≠ some b := by
        intro b hb e
        have := (h.lt b e).2
        have := hb.1
        omega
      refine ⟨hE _ _ _ _ _ (fun b => v.ownBlock = some b) hx (Wr.ext hext (fun _ e => e)) nv, hcs, fun b hb => ⟨Nat.le_trans hB hb.1, Nat.lt_of_lt_of_le hb.2 hs, hext.apart hb.2 (nv b hb)⟩⟩
  · rw [List.pairwise_append]
    refine ⟨h.apart, List.pairwise_singleton _ _, fun a ha b hb => ?_⟩
    rw [List.mem_singleton] at hb
    subst hb
    intro c hc hd
    have := ((h.el a ha).2.2 c hc).2.1
    have := hd.1
    omega
theorem wp_rwG {α : Type} {E : Els α} (hE : KeptE E) {t ts : TypeId} {n bytes : Nat} {z : Value} (ht : Tryz.prog.underlying ts = some (.slice t)) (hinfo : (Tryz.prog.info? t).map (fun i => (i.zero, i.size, i.bytes)) = some (some z, n, bytes)) (hz : z.cells.size = n) (hn : 0 < n) (hby : bytes ≤ 1000)
    {ops : Array Oper} {rest : List Oper} {o : Oper} {a : Act} {Q : Exit → Act → World → Prop} (w0 w : World) (hgd : o.guard = none) (s x : Operand)
    (ho : o.op = .call { callee := .builtin .append, args := #[s, x], argTypes := #[ts, ts] }) (B b : Nat) (v : Value) (els : List (El α)) (hs : a.eval s = v) (h0 : RowO t n E w0 B v els) (k : Gr b w0 w) (hb : b < B) (hB : B ≤ w0.heap.size)
    (g : Nat) (hx : a.eval x = .slice (some ⟨g, 0, none⟩) 1 1) (y : α) (cs : List Value) (hc : ∀ j u, cs[j]? = some u → w.cell? ⟨g, j, none⟩ = some u) (hcs : cs.length = n) (h1 : ∀ u ∈ cs, u.oneCell' = true) (hy : E w cs y (iv w0 w)) (hl : els.length ≤ 10000000)
    (h : ∀ v' w', RowO t n E w' B v' (els ++ [⟨y, cs, iv w0 w⟩]) → Ext v v' w w' → wpList Tryz.prog ops Q rest (a.put o.dst v') w') : wpList Tryz.prog ops Q (o :: rest) a w := by
  obtain ⟨i0, hi, hzz'⟩ := Option.map_eq_some_iff.1 hinfo
  simp only [Prod.mk.injEq] at hzz'
  obtain ⟨hz0, hz1, hz2⟩ := hzz'
  have hB2 : B ≤ w.heap.size := Nat.le_trans hB k.size
  have hmul : (els.length + 1) * bytes ≤ 140737488355328 := by
    have : (els.length + 1) * bytes ≤ 10000001 * 1000 := Nat.mul_le_mul (by omega) hby
    omega
  refine wpList_append_own_at w hgd s x ts ho B t i0 z n bytes ht hi hz0 hz1 hz2 hz hn v els.length (els.flatMap (·.cs)) hs (h0.gr hE k hb).own ⟨g, 0, none⟩ 1 1 cs hx (by rw [Nat.one_mul]; exact hcs) (fun j u hj => by rw [add_at, Nat.zero_add]; exact hc j u hj) h1 (by unfold maxLen; omega) hmul hB2 ?_
  intro v' w' h2 h3 _ h5
  have hext : Ext v v' w w' := ⟨h3, h5.imp id fun e => ⟨_, e, Nat.le_refl _⟩⟩
  exact h v' w' (RowO.putG hE h0 k hb hB hy hcs h2 hext) hext
theorem Gr.ext {v v' : Value} {w0 w w' : World} {b : Nat} (h : Gr b w0 w) (e : Ext v v' w w') (hv : ∀ g, v.ownBlock = some g → w0.heap.size ≤ g) : Gr b w0 w' := by
  have h' : w0.grownBy w (some b) := h
  exact ⟨e.1.os.trans h'.os, e.1.tape.trans h'.tape, e.1.output.trans h'.output, Nat.le_trans h'.size e.1.size, fun i hi hne => (e.1.block i (Nat.lt_of_lt_of_le hi h'.size) (fun x => by have := hv i x.symm; omega)).trans (h'.block i hi hne)⟩
/-- A reader is not touched by an append to a row that is not its own. -/
theorem Cur.ext {w w' : World} {B : Nat} {ca : Option Addr} {len cap n : Nat} (h : Cur w B ca len cap n) {v v' : Value} (k : Ext v v' w w') (hne : v.ownBlock ≠ some B) : Cur w' B ca len cap n := by
  obtain ⟨k', sd, q1, q2, q3, c0, c1, c2, hf, hBB⟩ := h
  have e := fun o => Ext.cell k hBB hne o
  exact ⟨k', sd, q1, q2, q3, (e _).trans c0, (e _).trans c1, (e _).trans c2, fun o => (World.frozen?_of_block (a := ⟨B, o, none⟩) (k.1.block B hBB (fun x => hne x.symm))).trans (hf o), Nat.lt_of_lt_of_le hBB k.size⟩
theorem run_rwG {α : Type} {E : Els α} (hE : KeptE E) {t ts : TypeId} {n bytes : Nat} {z : Value} (ht : Tryz.prog.underlying ts = some (.slice t)) (hinfo : (Tryz.prog.info? t).map (fun i => (i.zero, i.size, i.bytes)) = some (some z, n, bytes)) (hz : z.cells.size = n) (hn : 0 < n) (hby : bytes ≤ 1000)
    {o : Oper} {a : Act} (w0 w : World) (s x : Operand)
    (ho : o.op = .call { callee := .builtin .append, args := #[s, x], argTypes := #[ts, ts] }) (B b : Nat) (v : Value) (els : List (El α)) (hs : a.eval s = v) (h0 : RowO t n E w0 B v els) (k : Gr b w0 w) (hb : b < B) (hB : B ≤ w0.heap.size)
    (g : Nat) (hx : a.eval x = .slice (some ⟨g, 0, none⟩) 1 1) (y : α) (cs : List Value) (hc : ∀ j u, cs[j]? = some u → w.cell? ⟨g, j, none⟩ = some u) (hcs : cs.length = n) (h1 : ∀ u ∈ cs, u.oneCell' = true) (hy : E w cs y (iv w0 w)) (hl : els.length ≤ 10000000) :
    ∃ v' w', (execOp a.eval o).run Tryz.prog w = .ok (.value v') w' ∧ RowO t n E w' B v' (els ++ [⟨y, cs, iv w0 w⟩]) ∧ Ext v v' w w' := by
  obtain ⟨i0, hi, hzz'⟩ := Option.map_eq_some_iff.1 hinfo
  simp only [Prod.mk.injEq] at hzz'
  obtain ⟨hz0, hz1, hz2⟩ := hzz'
  have hB2 : B ≤ w.heap.size := Nat.le_trans hB k.size
  have hmul : (els.length + 1) * bytes ≤ 140737488355328 := by
    have : (els.length + 1) * bytes ≤ 10000001 * 1000 := Nat.mul_le_mul (by omega) hby
    omega
  obtain ⟨v', w', hr, h2, h3, h4, h5⟩ := run_append_own_at (P := Tryz.prog) w B ts o.type t i0 z n bytes ht hi hz0 hz1 hz2 hz hn v els.length (els.flatMap (·.cs)) (h0.gr hE k hb).own ⟨g, 0, none⟩ 1 1 cs (by rw [Nat.one_mul]; exact hcs) (fun j u hj => by rw [add_at, Nat.zero_add]; exact hc j u hj) h1 (by unfold maxLen; omega) hmul hB2
  have hext : Ext v v' w w' := ⟨h3, h5.imp id fun e => ⟨_, e, Nat.le_refl _⟩⟩
  refine ⟨v', w', ?_, RowO.putG hE h0 k hb hB hy hcs h2 hext, hext⟩
  unfold execOp
  simp only [ho, resolve, invoke, builtin, Sem.run_bind, Sem.run_pure, Result.andThen_ok, List.map_toArray, List.map_cons, List.map_nil, hs, hx, hr]
end Go.Proofs.YtnkmdmmlpidcmaaGreatDoor
namespace Go.Proofs.YtnkmdmmlpidcmaaGreatDoor
set_option linter.unusedVariables false

def wbL (b : UInt8) : Bool := decide ((97 ≤ b.toNat ∧ b.toNat ≤ 122) ∨ (65 ≤ b.toNat ∧ b.toNat ≤ 90) ∨ b.toNat = 95 ∨ b.toNat = 45 ∨ (48 ≤ b.toNat ∧ b.toNat ≤ 57))
def dgL (b : UInt8) : Bool := decide (48 ≤ b.toNat ∧ b.toNat ≤ 57)
def leadD (l : List UInt8) : Bool := match l with | [] => false | b :: _ => dgL b
/-- A word, as a list of bytes. -/
def wordL (l : List UInt8) : Bool := decide (1 ≤ l.length ∧ l.length ≤ 30) && (!leadD l && l.all wbL)
/-- What does not go on with a word. -/
def stopL (l : List UInt8) : Prop := ∀ b r, l = b :: r → wbL b = false
def runL (l : List UInt8) : Nat := if (l.takeWhile wbL).length = 0 ∨ leadD l = true ∨ 30 < (l.takeWhile wbL).length then 0 else (l.takeWhile wbL).length
theorem take_all {l r : List UInt8} (h : l.all wbL = true) (hr : stopL r) : (l ++ r).takeWhile wbL = l := by
  induction l with
  | nil =>
    cases r with
    | nil => rfl
    | cons b r => show (b :: r).takeWhile wbL = []; rw [List.takeWhile_cons, hr b r rfl]; rfl
  | cons b l ih =>
    rw [List.all_cons, Bool.and_eq_true] at h
    rw [List.cons_append, List.takeWhile_cons, if_pos h.1, ih h.2]
theorem runL_word {l r : List UInt8} (h : wordL l = true) (hr : stopL r) : runL (l ++ r) = l.length := by
  unfold wordL at h
  simp only [Bool.and_eq_true, decide_eq_true_eq, Bool.not_eq_true'] at h
  obtain ⟨⟨h1, h2⟩, h3, h4⟩ := h
  unfold runL
  rw [take_all h4 hr]
  have e : leadD (l ++ r) = false := by
    cases l with
    | nil => simp at h1
    | cons b l => exact h3
  rw [if_neg]
  rintro (h | h | h)
  · omega
  · rw [e] at h; cases h
  · omega
theorem run_pos {l : List UInt8} (h : runL l ≠ 0) : wordL (l.take (runL l)) = true ∧ stopL (l.drop (runL l)) ∧ runL l ≤ l.length := by
  unfold runL at h ⊢
  split at h
  · exact absurd rfl h
  · rename_i hc
    rw [if_neg hc]
    have h1 : (l.takeWhile wbL).length ≠ 0 := fun e => hc (Or.inl e)
    have h2 : leadD l ≠ true := fun e => hc (Or.inr (Or.inl e))
    have h3 : (l.takeWhile wbL).length ≤ 30 := by
      rcases Nat.lt_or_ge 30 (l.takeWhile wbL).length with c | c
      · exact absurd (Or.inr (Or.inr c)) hc
      · exact c
    have e1 : l.take (l.takeWhile wbL).length = l.takeWhile wbL := by
      conv => lhs; arg 2; rw [← List.takeWhile_append_dropWhile (p := wbL) (l := l)]
      rw [List.take_left']
      rfl
    have e2 : l.drop (l.takeWhile wbL).length = l.dropWhile wbL := by
      conv => lhs; arg 2; rw [← List.takeWhile_append_dropWhile (p := wbL) (l := l)]
      rw [List.drop_left']
      rfl
    have hle : (l.takeWhile wbL).length ≤ l.length := (List.takeWhile_sublist wbL).length_le
    refine ⟨?_, ?_, hle⟩
    · rw [e1]
      unfold wordL
      simp only [Bool.and_eq_true, decide_eq_true_eq, Bool.not_eq_true']
      refine ⟨⟨by omega, h3⟩, ?_, ?_⟩
      · cases l with
        | nil => rfl
        | cons b l =>
          rw [List.takeWhile_cons]
          split
          · show dgL b = false
            have h9 : ¬ dgL b = true := h2
            simpa using h9
          · rfl
      · rw [List.all_eq_true]
        intro b hb
        have := List.all_takeWhile (l := l) (p := wbL)
        exact List.all_eq_true.1 this b hb
    · rw [e2]
      intro b r hbr
      have := List.head?_dropWhile_not wbL l
      rw [hbr] at this
      simpa using this
structure PL where
  ty : List UInt8
  id : List UInt8
  cls : List (List UInt8)
def idL (id : List UInt8) : List UInt8 := if id = [] then [] else 35 :: id
def clsL (cs : List (List UInt8)) : List UInt8 := cs.flatMap fun c => 46 :: c
/-- The text of a part. -/
def txtL (p : PL) : List UInt8 := p.ty ++ (idL p.id ++ clsL p.cls)
structure GoodL (p : PL) : Prop where
  few : p.cls.length ≤ 4
  cls : ∀ c, c ∈ p.cls → wordL c = true
  ty : p.ty = [] ∨ p.ty = [42] ∨ wordL p.ty = true
  id : p.id = [] ∨ wordL p.id = true
  some' : p.ty ≠ [] ∨ p.id ≠ [] ∨ p.cls ≠ []
theorem stop_nil : stopL [] := fun b r h => by cases h
theorem stop_cls (cs : List (List UInt8)) : stopL (clsL cs) := by
  cases cs with
  | nil => exact stop_nil
  | cons c cs =>
    intro b r h
    have : b = 46 := by
      unfold clsL at h
      rw [List.flatMap_cons] at h
      injection h with h1 _
      exact h1.symm
    subst this
    decide
theorem stop_id (id : List UInt8) (cs : List (List UInt8)) : stopL (idL id ++ clsL cs) := by
  unfold idL
  split
  · exact stop_cls cs
  · intro b r h
    injection h with h1 _
    subst h1
    decide
theorem head_id {id : List UInt8} {cs : List (List UInt8)} {b : UInt8} {r : List UInt8} (h : idL id ++ clsL cs = b :: r) : b ≠ 42 := by
  unfold idL at h
  split at h
  · rw [List.nil_append] at h
    cases cs with
    | nil => cases h
    | cons c cs =>
      unfold clsL at h
      rw [List.flatMap_cons] at h
      injection h with h1 _
      rw [← h1]; decide
  · injection h with h1 _
    rw [← h1]; decide
/-- Classes as the specification reads them. -/
def clsS : Nat → List UInt8 → List (List UInt8) → Option (List (List UInt8))
  | 0, _, _ => none
  | f + 1, l, acc => match l with
    | [] => some acc
    | b :: t => if b = 46 then (if runL t = 0 ∨ acc.length = 4 then none else clsS f (t.drop (runL t)) (acc ++ [t.take (runL t)])) else none
theorem clsS_full : ∀ (cs : List (List UInt8)) (f : Nat) (acc : List (List UInt8)), (∀ c, c ∈ cs → wordL c = true) → (clsL cs).length < f → acc.length + cs.length ≤ 4 → clsS f (clsL cs) acc = some (acc ++ cs) := by
  intro cs
  induction cs with
  | nil =>
    intro f acc _ hf _
    cases f with
    | zero => simp at hf
    | succ f => show some acc = some (acc ++ []); rw [List.append_nil]
  | cons c cs ih =>
    intro f acc hw hf ha
    cases f with
    | zero => simp at hf
    | succ f =>
      have hc := hw c (by simp)
      have hr := runL_word hc (stop_cls cs)
      have hne : c.length ≠ 0 := by
        unfold wordL at hc
        simp only [Bool.and_eq_true, decide_eq_true_eq] at hc
        omega
      have e : clsL (c :: cs) = 46 :: (c ++ clsL cs) := by unfold clsL; rw [List.flatMap_cons]; rfl
      rw [e] at hf ⊢
      simp only [List.length_cons, List.length_append] at hf ha
      show (if (46 : UInt8) = 46 then (if runL (c ++ clsL cs) = 0 ∨ acc.length = 4 then none else clsS f ((c ++ clsL cs).drop (runL (c ++ clsL cs))) (acc ++ [(c ++ clsL cs).take (runL (c ++ clsL cs))])) else none) = _
      rw [if_pos rfl, hr, if_neg (by omega), List.drop_left, List.take_left, ih f (acc ++ [c]) (fun x hx => hw x (by simp [hx])) (by omega) (by simp; omega), List.append_assoc]
      rfl
theorem clsS_sound : ∀ (f : Nat) (l : List UInt8) (acc out : List (List UInt8)), clsS f l acc = some out → ∃ cs, out = acc ++ cs ∧ l = clsL cs ∧ (∀ c, c ∈ cs → wordL c = true) ∧ (acc.length ≤ 4 → out.length ≤ 4) := by
  intro f
  induction f with
  | zero => intro l acc out h; cases h
  | succ f ih =>
    intro l acc out h
    cases l with
    | nil =>
      injection h with h
      subst h
      exact ⟨[], (List.append_nil _).symm, rfl, (fun c hc => by cases hc), fun h => h⟩
    | cons b t =>
      replace h : (if b = 46 then (if runL t = 0 ∨ acc.length = 4 then none else clsS f (t.drop (runL t)) (acc ++ [t.take (runL t)])) else none) = some out := h
      split at h
      · rename_i hb
        subst hb
        split at h
        · cases h
        · rename_i hc
          have h0 : runL t ≠ 0 := fun e => hc (Or.inl e)
          have h4 : acc.length ≠ 4 := fun e => hc (Or.inr e)
          obtain ⟨hw, _, _⟩ := run_pos h0
          obtain ⟨cs, e1, e2, e3, e4⟩ := ih _ _ _ h
          refine ⟨t.take (runL t) :: cs, ?_, ?_, ?_, fun ha => e4 (by simp; omega)⟩
          · rw [e1, List.append_assoc]; rfl
          · show 46 :: t = clsL (t.take (runL t) :: cs)
            unfold clsL
            rw [List.flatMap_cons]
            show 46 :: t = 46 :: (t.take (runL t) ++ clsL cs)
            rw [← e2, List.take_append_drop]
          · intro c hc2
            rcases List.mem_cons.1 hc2 with e | hc2
            · rw [e]; exact hw
            · exact e3 c hc2
      · cases h
/-- The part's type ahead of a text. -/
def tyS (l : List UInt8) : List UInt8 × List UInt8 := match l with
  | [] => ([], [])
  | b :: t => if b = 42 then ([42], t) else ((b :: t).take (runL (b :: t)), (b :: t).drop (runL (b :: t)))
/-- The id ahead of what is left; none where a `#` has no word. -/
def idS (l : List UInt8) : Option (List UInt8 × List UInt8) := match l with
  | [] => some ([], [])
  | b :: t => if b = 35 then (if runL t = 0 then none else some (t.take (runL t), t.drop (runL t))) else some ([], b :: t)
/-- A part as the specification reads it. -/
def prs (l : List UInt8) : Option PL := if l = [] then none else
  match idS (tyS l).2 with
  | none => none
  | some (id, r) => match clsS (r.length + 1) r [] with
    | none => none
    | some cs => some ⟨(tyS l).1, id, cs⟩
theorem wordL_ne {l : List UInt8} (h : wordL l = true) : l ≠ [] := by
  rintro rfl
  revert h
  decide
theorem wordL_head {b : UInt8} {l : List UInt8} (h : wordL (b :: l) = true) : wbL b = true := by
  unfold wordL at h
  simp only [Bool.and_eq_true, List.all_cons] at h
  exact h.2.2.1
theorem prs_full {p : PL} (h : GoodL p) : prs (txtL p) = some p := by
  obtain ⟨ty, id, cls⟩ := p
  obtain ⟨h1, h2, h3, h4, h5⟩ := h
  simp only at h1 h2 h3 h4 h5
  have hne : txtL ⟨ty, id, cls⟩ ≠ [] := by
    unfold txtL idL clsL
    simp only
    rcases h5 with h | h | h
    · intro e; exact h (List.append_eq_nil_iff.1 e).1
    · rw [if_neg h]; intro e; have := (List.append_eq_nil_iff.1 e).2; cases this
    · cases cls with
      | nil => exact absurd rfl h
      | cons c cs =>
        intro e
        have := (List.append_eq_nil_iff.1 (List.append_eq_nil_iff.1 e).2).2
        rw [List.flatMap_cons] at this
        cases this
  have hrest := stop_id id cls
  have hty : tyS (txtL ⟨ty, id, cls⟩) = (ty, idL id ++ clsL cls) := by
    unfold txtL
    simp only
    have h42R : ∀ b r, idL id ++ clsL cls = b :: r → b ≠ 42 := fun b r e => head_id e
    generalize idL id ++ clsL cls = R at *
    rcases h3 with rfl | rfl | hw
    · rw [List.nil_append]
      cases R with
      | nil => rfl
      | cons b r =>
        have hb := hrest b r rfl
        have hr0 : runL (b :: r) = 0 := by
          unfold runL
          rw [List.takeWhile_cons, hb]
          rfl
        have h42 : b ≠ 42 := h42R b r rfl
        show (if b = 42 then ([42], r) else ((b :: r).take (runL (b :: r)), (b :: r).drop (runL (b :: r)))) = _
        rw [if_neg h42, hr0]
        rfl
    · rfl
    · have hr := runL_word hw hrest
      cases ty with
      | nil => exact absurd rfl (wordL_ne hw)
      | cons b t =>
        have hb := wordL_head hw
        have h42 : b ≠ 42 := by rintro rfl; revert hb; decide
        unfold tyS
        simp only [List.cons_append]
        rw [if_neg h42]
        have e : b :: (t ++ R) = (b :: t) ++ R := rfl
        rw [e, hr, List.take_left, List.drop_left]
  have hid : idS (idL id ++ clsL cls) = some (id, clsL cls) := by
    unfold idL
    split
    · rename_i e
      subst e
      rw [List.nil_append]
      cases cls with
      | nil => rfl
      | cons c cs => rfl
    · rename_i e
      rcases h4 with h | h
      · exact absurd h e
      · have hr := runL_word h (stop_cls cls)
        show (if (35 : UInt8) = 35 then (if runL (id ++ clsL cls) = 0 then none else some ((id ++ clsL cls).take (runL (id ++ clsL cls)), (id ++ clsL cls).drop (runL (id ++ clsL cls)))) else some ([], 35 :: (id ++ clsL cls))) = _
        rw [if_pos rfl, hr, if_neg (fun e2 => e (List.eq_nil_of_length_eq_zero e2)), List.take_left, List.drop_left]
  unfold prs
  rw [if_neg hne, hty]
  simp only
  rw [hid]
  simp only
  rw [clsS_full cls _ [] h2 (Nat.lt_succ_self _) (by simpa using h1)]
  rfl
theorem prs_sound {l : List UInt8} {p : PL} (h : prs l = some p) : GoodL p ∧ txtL p = l := by
  unfold prs at h
  split at h
  · cases h
  · rename_i hne
    cases hi : idS (tyS l).2 with
    | none => rw [hi] at h; cases h
    | some x =>
      obtain ⟨id, r⟩ := x
      rw [hi] at h
      simp only at h
      cases hc : clsS (r.length + 1) r [] with
      | none => rw [hc] at h; cases h
      | some cs =>
        rw [hc] at h
        simp only at h
        injection h with h
        subst h
        obtain ⟨cs', e1, e2, e3, e4⟩ := clsS_sound _ _ _ _ hc
        rw [List.nil_append] at e1
        subst e1
        have hty : ((tyS l).1 = [] ∨ (tyS l).1 = [42] ∨ wordL (tyS l).1 = true) ∧ (tyS l).1 ++ (tyS l).2 = l := by
          cases l with
          | nil => exact absurd rfl hne
          | cons b t =>
            by_cases hb : b = 42
            · subst hb
              exact ⟨Or.inr (Or.inl rfl), rfl⟩
            · have e : tyS (b :: t) = ((b :: t).take (runL (b :: t)), (b :: t).drop (runL (b :: t))) := by
                show (if b = 42 then ([42], t) else _) = _
                rw [if_neg hb]
              rw [e]
              refine ⟨?_, List.take_append_drop _ _⟩
              by_cases h0 : runL (b :: t) = 0
              · rw [h0]; exact Or.inl rfl
              · exact Or.inr (Or.inr (run_pos h0).1)
        have hid : (id = [] ∨ wordL id = true) ∧ idL id ++ r = (tyS l).2 := by
          generalize (tyS l).2 = R at *
          cases R with
          | nil =>
            injection hi with hi
            injection hi with i1 i2
            subst i1 i2
            exact ⟨Or.inl rfl, rfl⟩
          | cons b t =>
            by_cases hb : b = 35
            · subst hb
              replace hi : (if (35 : UInt8) = 35 then (if runL t = 0 then none else some (t.take (runL t), t.drop (runL t))) else some ([], 35 :: t)) = some (id, r) := hi
              rw [if_pos rfl] at hi
              split at hi
              · cases hi
              · rename_i h0
                injection hi with hi
                injection hi with i1 i2
                have hw := (run_pos h0).1
                rw [i1] at hw
                refine ⟨Or.inr hw, ?_⟩
                unfold idL
                rw [if_neg (wordL_ne hw), ← i1, ← i2]
                show 35 :: (t.take (runL t) ++ t.drop (runL t)) = 35 :: t
                rw [List.take_append_drop]
            · replace hi : (if b = 35 then (if runL t = 0 then none else some (t.take (runL t), t.drop (runL t))) else some ([], b :: t)) = some (id, r) := hi
              rw [if_neg hb] at hi
              injection hi with hi
              injection hi with i1 i2
              subst i1 i2
              exact ⟨Or.inl rfl, rfl⟩
        have htx : txtL ⟨(tyS l).1, id, cs⟩ = l := by
          unfold txtL
          simp only
          rw [← e2, hid.2, hty.2]
        refine ⟨⟨e4 (by simp), e3, hty.1, hid.1, ?_⟩, htx⟩
        simp only
        by_cases c1 : (tyS l).1 = []
        · by_cases c2 : id = []
          · refine Or.inr (Or.inr fun c3 => hne ?_)
            rw [← htx, c1, c2, c3]
            rfl
          · exact Or.inr (Or.inl c2)
        · exact Or.inl c1
/-- What the specification reads is what has that text. -/
theorem prs_iff (l : List UInt8) (p : PL) : prs l = some p ↔ GoodL p ∧ txtL p = l := by
  constructor
  · exact prs_sound
  · rintro ⟨h, rfl⟩
    exact prs_full h
/-- A text parted at its points. -/
def dots : List UInt8 → List UInt8 × List (List UInt8)
  | [] => ([], [])
  | b :: l => if b = 46 then ([], (dots l).1 :: (dots l).2) else (b :: (dots l).1, (dots l).2)
theorem dots_join : ∀ l, (dots l).1 ++ clsL (dots l).2 = l := by
  intro l
  induction l with
  | nil => rfl
  | cons b l ih =>
    rw [dots]
    split
    · rename_i h
      subst h
      show clsL ((dots l).1 :: (dots l).2) = _
      unfold clsL
      rw [List.flatMap_cons]
      show 46 :: ((dots l).1 ++ clsL (dots l).2) = _
      rw [ih]
    · show b :: ((dots l).1 ++ clsL (dots l).2) = _
      rw [ih]
theorem dots_text : ∀ (cs : List (List UInt8)), (∀ c, c ∈ cs → (46 : UInt8) ∉ c) → ∀ a : List UInt8, (46 : UInt8) ∉ a → dots (a ++ clsL cs) = (a, cs) := by
  intro cs
  induction cs with
  | nil =>
    intro _ a
    induction a with
    | nil => intro _; rfl
    | cons b a iha =>
      intro h
      have h1 := iha (fun x => h (List.mem_cons_of_mem _ x))
      show dots (b :: (a ++ clsL [])) = _
      rw [dots, if_neg (fun e => h (by rw [e]; exact List.mem_cons_self)), h1]
  | cons c cs ih =>
    intro hc a
    induction a with
    | nil =>
      intro _
      have h1 := ih (fun x hx => hc x (List.mem_cons_of_mem _ hx)) c (hc c List.mem_cons_self)
      have e : clsL (c :: cs) = 46 :: (c ++ clsL cs) := by unfold clsL; rw [List.flatMap_cons]; rfl
      rw [List.nil_append, e, dots, if_pos rfl, h1]
    | cons b a iha =>
      intro h
      have h1 := iha (fun x => h (List.mem_cons_of_mem _ x))
      show dots (b :: (a ++ clsL (c :: cs))) = _
      rw [dots, if_neg (fun e => h (by rw [e]; exact List.mem_cons_self)), h1]
/-- A text cut at its first `#`. -/
def cutH : List UInt8 → List UInt8 × List UInt8 × Bool
  | [] => ([], [], false)
  | b :: l => if b = 35 then ([], l, true) else (b :: (cutH l).1, (cutH l).2.1, (cutH l).2.2)
theorem cutH_join : ∀ l, ((cutH l).2.2 = true → l = (cutH l).1 ++ 35 :: (cutH l).2.1) ∧ ((cutH l).2.2 = false → l = (cutH l).1 ∧ (cutH l).2.1 = []) := by
  intro l
  induction l with
  | nil => exact ⟨(fun h => by cases h), fun _ => ⟨rfl, rfl⟩⟩
  | cons b l ih =>
    rw [cutH]
    split
    · rename_i h
      subst h
      exact ⟨fun _ => rfl, (fun h => by cases h)⟩
    · refine ⟨fun h => ?_, fun h => ?_⟩
      · have := ih.1 h
        show b :: l = b :: ((cutH l).1 ++ 35 :: (cutH l).2.1)
        rw [← this]
      · obtain ⟨h1, h2⟩ := ih.2 h
        exact ⟨congrArg (List.cons b) h1, h2⟩
theorem cutH_text : ∀ (a id : List UInt8), (35 : UInt8) ∉ a → cutH (a ++ idL id) = (a, id, decide (id ≠ [])) := by
  intro a id
  induction a with
  | nil =>
    intro _
    rw [List.nil_append]
    unfold idL
    split
    · rename_i h; subst h; rfl
    · rename_i h
      rw [cutH, if_pos rfl, decide_eq_true h]
  | cons b a ih =>
    intro h
    have h1 := ih (fun x => h (List.mem_cons_of_mem _ x))
    show cutH (b :: (a ++ idL id)) = _
    rw [cutH, if_neg (fun e => h (by rw [e]; exact List.mem_cons_self)), h1]
/-- A part as the program reads it. -/
def prI (l : List UInt8) : PL := ⟨(cutH (dots l).1).1, (cutH (dots l).1).2.1, (dots l).2⟩
def prIok (l : List UInt8) : Prop := GoodL (prI l) ∧ ¬ ((cutH (dots l).1).2.2 = true ∧ (cutH (dots l).1).2.1 = [])
theorem not_in_word {w : List UInt8} {b : UInt8} (h : wordL w = true) (hb : wbL b = false) : b ∉ w := by
  intro hm
  unfold wordL at h
  simp only [Bool.and_eq_true] at h
  have := List.all_eq_true.1 h.2.2 b hm
  rw [hb] at this
  cases this
theorem prI_sound {l : List UInt8} (h : prIok l) : txtL (prI l) = l := by
  obtain ⟨h1, h2⟩ := h
  have hj := dots_join l
  have hc := cutH_join (dots l).1
  unfold txtL prI
  simp only
  cases hb : (cutH (dots l).1).2.2 with
  | true =>
    have h3 : (cutH (dots l).1).2.1 ≠ [] := fun e => h2 ⟨hb, e⟩
    have h4 := hc.1 hb
    unfold idL
    rw [if_neg h3, ← List.append_assoc, ← h4, hj]
  | false =>
    obtain ⟨h4, h5⟩ := hc.2 hb
    rw [h5]
    unfold idL
    rw [if_pos rfl, List.nil_append, ← h4, hj]
theorem prI_full {p : PL} (h : GoodL p) : prI (txtL p) = p ∧ prIok (txtL p) := by
  obtain ⟨ty, id, cls⟩ := p
  have hw46 : wbL 46 = false := by decide
  have hw35 : wbL 35 = false := by decide
  have n46c : ∀ c, c ∈ cls → (46 : UInt8) ∉ c := fun c hc => not_in_word (h.cls c hc) hw46
  have n46t : (46 : UInt8) ∉ ty := by
    rcases h.ty with e | e | e
    · simp only at e; rw [e]; simp
    · simp only at e; rw [e]; decide
    · exact not_in_word e hw46
  have n35t : (35 : UInt8) ∉ ty := by
    rcases h.ty with e | e | e
    · simp only at e; rw [e]; simp
    · simp only at e; rw [e]; decide
    · exact not_in_word e hw35
  have n46i : (46 : UInt8) ∉ idL id := by
    unfold idL
    split
    · simp
    · rename_i e
      rcases h.id with e2 | e2
      · exact absurd e2 e
      · intro hm
        rcases List.mem_cons.1 hm with e3 | hm
        · revert e3; decide
        · exact not_in_word e2 hw46 hm
  have hd : dots (txtL ⟨ty, id, cls⟩) = (ty ++ idL id, cls) := by
    unfold txtL
    simp only
    rw [← List.append_assoc]
    exact dots_text cls n46c (ty ++ idL id) (fun hm => by
      rcases List.mem_append.1 hm with h | h
      · exact n46t h
      · exact n46i h)
  have hc := cutH_text ty id n35t
  have e : prI (txtL ⟨ty, id, cls⟩) = ⟨ty, id, cls⟩ := by
    unfold prI
    rw [hd]
    simp only
    rw [hc]
  refine ⟨e, by rw [e]; exact h, ?_⟩
  rw [hd]
  simp only
  rw [hc]
  simp only
  rintro ⟨h1, h2⟩
  rw [h2] at h1
  revert h1
  decide
/-- Both readers answer alike. -/
theorem prs_prI (l : List UInt8) : (prIok l → prs l = some (prI l)) ∧ (¬ prIok l → prs l = none) := by
  constructor
  · intro h
    exact (prs_iff l _).2 ⟨h.1, prI_sound h⟩
  · intro h
    cases e : prs l with
    | none => rfl
    | some p =>
      exfalso
      obtain ⟨h1, h2⟩ := (prs_iff l p).1 e
      have h3 := (prI_full h1).2
      rw [h2] at h3
      exact h h3
end Go.Proofs.YtnkmdmmlpidcmaaGreatDoor
