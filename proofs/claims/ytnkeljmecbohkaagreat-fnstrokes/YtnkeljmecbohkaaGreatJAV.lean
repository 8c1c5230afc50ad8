/-
  What the specification's reader of choices answers of a list
-/
import Derived.Test.YtnkeljmecbohkaaGreatJAU
import Derived.Test.YtnkeljmecbohkaaGreatJAC
import Derived.Test.YtnkeljmecbohkaaGreatJAE
import Derived.Test.YtnkeljmecbohkaaGreatJAD
import Derived.Test.YtnkeljmecbohkaaGreatJAA
namespace Go.Proofs.YtnkeljmecbohkaaGreat
open Go.ChangeShapes Go.WideShapes Go.ChangeAt Go.RowKit
set_option linter.unusedVariables false
def Nums (w : World) (L : Nat) (l : List Int) : Prop := ∀ i (h : i < l.length), w.cell? ⟨L, i, none⟩ = some (.int .i64 l[i])
set_option maxHeartbeats 1000000 in
theorem among_any (w : World) (B L ln : Nat) (l : List Int) (hln : l.length = ln) (ca : Option Addr) (len cap n : Nat) (hl : len ≤ 9223372036854775807) (hn : n ≤ 1000000000) (l1 : 2 ≤ ln) (l2 : ln ≤ 1000) (hLB : L ≠ B) (hN : Nums w L l) (hc : Cur w B ca len cap n) (hd : Code w B ca len) :
  Calls Tryz.prog 24 #[.pointer (some ⟨B, 0, none⟩), .slice (some ⟨L, 0, none⟩) ln ln] w fun e w' => ∃ v : Int, e = .returned (.int .i64 v) ∧ v ∈ l ∧ Cur w' B ca len cap (n + 2) ∧ Sel B w w' := by
 have HC : Hid _ := hc
 have HD : Hid _ := hd
 have HN : Hid _ := hN
 have HL : Hid _ := hln
 clear hc hd hN hln
 go_enter Tryz.func24, Tryz.ntmps24
 go_wp2_with fail
 refine (pick_any w B ca len cap n ln hl hn (by omega) (by omega) HC.out HD.out).mono ?_
 rintro e w1 ⟨i, rfl, i0, i1, hc1, hb1⟩
 obtain ⟨k, rfl⟩ := Int.eq_ofNat_of_zero_le i0
 have hkl : k < l.length := by rw [HL.out]; omega
 have HM : Hid (l[k] ∈ l) := List.getElem_mem _
 have hv := HN.out k hkl
 generalize l[k] = v at *
 have hv1 : w1.cell? ⟨L, k, none⟩ = some (.int .i64 v) := by rw [hb1.cell (p := ⟨L, k, none⟩) hLB]; exact hv
 have HC1 : Hid _ := hc1
 have HB1 : Hid _ := hb1
 clear hc1 hb1 hv hkl
 go_wp2
 go_ret
 exact ⟨v, rfl, HM.out, HC1.out, HB1.out⟩
structure Wr (F : Nat → Prop) (w w' : World) : Prop where
 os : w'.os = w.os
 tape : w'.tape = w.tape
 output : w'.output = w.output
 size : w.heap.size ≤ w'.heap.size
 block : ∀ b, b < w.heap.size → ¬ F b → w'.heap[b]? = w.heap[b]?
def disj (F G : Nat → Prop) : Prop := ∀ b, F b → ¬ G b
abbrev Els (α : Type) := World → List Value → α → (Nat → Prop) → Prop
def KeptE {α : Type} (E : Els α) : Prop := ∀ w w' cs x F G, E w cs x F → Wr G w w' → disj F G → E w' cs x F
structure El (α : Type) where
 x : α
 cs : List Value
 F : Nat → Prop
structure RowO (t : TypeId) (n : Nat) {α : Type} (E : Els α) (w : World) (B : Nat) (v : Value) (els : List (El α)) : Prop where
 own : w.ownsRow B t n v els.length (els.flatMap (·.cs))
 el : ∀ e, e ∈ els → E w e.cs e.x e.F ∧ e.cs.length = n ∧ ∀ b, e.F b → B ≤ b ∧ b < w.heap.size ∧ v.ownBlock ≠ some b
 apart : els.Pairwise fun a b => disj a.F b.F
structure RowA (n : Nat) {α : Type} (E : Els α) (w : World) (g : Nat) (els : List (El α)) (F : Nat → Prop) : Prop where
 lt : g < w.heap.size
 fz : ∀ o, w.frozen? ⟨g, o, none⟩ = false
 inF : F g
 cell : ∀ i e, els[i]? = some e → ∀ j u, e.cs[j]? = some u → w.cell? ⟨g, i * n + j, none⟩ = some u
 el : ∀ e, e ∈ els → E w e.cs e.x e.F ∧ e.cs.length = n ∧ ∀ b, e.F b → F b ∧ b ≠ g
 apart : els.Pairwise fun a b => disj a.F b.F
def RowM (n : Nat) {α : Type} (E : Els α) (w : World) (v : Value) (xs : List α) (F : Nat → Prop) : Prop :=
 (v = .slice none 0 0 ∧ xs = []) ∨ ∃ g c els, v = .slice (some ⟨g, 0, none⟩) xs.length c ∧ xs.length ≤ c ∧ els.map El.x = xs ∧ RowA n E w g els F
theorem RowA.kept {n : Nat} {α : Type} {E : Els α} (hE : KeptE E) {w w' : World} {g : Nat} {els : List (El α)} {F G : Nat → Prop} (h : RowA n E w g els F) (k : Wr G w w') (d : disj F G) : RowA n E w' g els F := by
 have hb := k.block g h.lt (d g h.inF)
 refine ⟨Nat.lt_of_lt_of_le h.lt k.size, fun o => ?_, h.inF, fun i e hi j u hj => ?_, fun e he => ?_, h.apart⟩
 ·rw [World.frozen?_of_block (w := w) (a := ⟨g, o, none⟩) hb]; exact h.fz o
 ·rw [World.cell?_of_block (w := w) (a := ⟨g, _, none⟩) hb]; exact h.cell i e hi j u hj
 ·obtain ⟨h1, h2, h3⟩ := h.el e he
  exact ⟨hE _ _ _ _ _ G h1 k (fun b hb => d b (h3 b hb).1), h2, h3⟩
theorem RowM.kept {n : Nat} {α : Type} {E : Els α} (hE : KeptE E) {w w' : World} {v : Value} {xs : List α} {F G : Nat → Prop} (h : RowM n E w v xs F) (k : Wr G w w') (d : disj F G) : RowM n E w' v xs F := by
 rcases h with h | ⟨g, c, els, h1, h2, h3, h4⟩
 ·exact Or.inl h
 ·exact Or.inr ⟨g, c, els, h1, h2, h3, h4.kept hE k d⟩

def Gr (B : Nat) (w w' : World) : Prop := w.grownBy w' (some B)
theorem Gr.refl (B : Nat) (w : World) : Gr B w w := ⟨rfl, rfl, rfl, Nat.le_refl _, fun _ _ _ => rfl⟩
theorem Gr.size {B : Nat} {a b : World} (h : Gr B a b) : a.heap.size ≤ b.heap.size := World.grownBy.size h
theorem Gr.trans {B : Nat} {a b c : World} (h : Gr B a b) (k : Gr B b c) : Gr B a c :=
  ⟨(World.grownBy.os k).trans (World.grownBy.os h), (World.grownBy.tape k).trans (World.grownBy.tape h), (World.grownBy.output k).trans (World.grownBy.output h), Nat.le_trans h.size k.size,
   fun i hi hne => (World.grownBy.block k i (Nat.lt_of_lt_of_le hi h.size) hne).trans (World.grownBy.block h i hi hne)⟩
theorem Gr.of_sel {B : Nat} {a b : World} (h : Sel B a b) : Gr B a b :=
 ⟨h.os, h.tape, h.output, by rw [h.size]; exact Nat.le_refl _, fun i _ hne => h.block i (fun e => hne (by rw [e]))⟩
theorem Gr.of_nw {B : Nat} {a b : World} (h : Nw a b) : Gr B a b := ⟨Below.os h, Below.tape h, Below.output h, Below.size h, fun i hi _ => Below.block h i hi⟩
theorem Gr.alloc {B : Nat} {a b : World} (h : Gr B a b) (o : Obj) : Gr B a (b.alloc o) := h.trans (Gr.of_nw ((Below.refl _ _).alloc (Nat.le_refl _) _))
theorem Gr.set {B : Nat} {a b : World} (h : Gr B a b) {g : Nat} (hg : a.heap.size ≤ g) (o : Nat) (v : Value) : Gr B a (b.setCell ⟨g, o, none⟩ v) := by
 have h' : a.grownBy b (some B) := h
 exact ⟨h'.os, h'.tape, h'.output, by simpa [World.setCell] using h.size, fun i hi hne => by
  rw [Below.heap_setCell _ _ _ _ (by show i ≠ g; omega)]
  exact h'.block i hi hne⟩
theorem Gr.cell {B : Nat} {a b : World} (h : Gr B a b) {g : Nat} (hg : g < a.heap.size) (hne : g ≠ B) (o : Nat) : b.cell? ⟨g, o, none⟩ = a.cell? ⟨g, o, none⟩ :=
 World.cell?_of_block (w := a) (a := ⟨g, o, none⟩) (World.grownBy.block h g hg (fun e => hne (Option.some.inj e)))
theorem Gr.frozen {B : Nat} {a b : World} (h : Gr B a b) {g : Nat} (hg : g < a.heap.size) (hne : g ≠ B) (o : Nat) : b.frozen? ⟨g, o, none⟩ = a.frozen? ⟨g, o, none⟩ :=
 World.frozen?_of_block (w := a) (a := ⟨g, o, none⟩) (World.grownBy.block h g hg (fun e => hne (Option.some.inj e)))
theorem Gr.below {B : Nat} {a b : World} (h : Gr B a b) (hB : B ≤ a.heap.size) : Below B a b :=
 ⟨World.grownBy.os h, World.grownBy.tape h, World.grownBy.output h, h.size, fun i hi => World.grownBy.block h i (by omega) (fun e => by have := Option.some.inj e; omega)⟩
theorem Cur.set {w : World} {B : Nat} {ca : Option Addr} {len cap n : Nat} (h : Cur w B ca len cap n) {g : Nat} (hg : g ≠ B) (o : Nat) (v : Value) : Cur (w.setCell ⟨g, o, none⟩ v) B ca len cap n := by
 obtain ⟨k, sd, h1, h2, h3, c0, c1, c2, hf, hB⟩ := h
 have e : ∀ o', (w.setCell ⟨g, o, none⟩ v).cell? ⟨B, o', none⟩ = w.cell? ⟨B, o', none⟩ := fun o' => World.cell?_setCell_other _ _ _ _ (fun e => by injection e; omega)
 exact ⟨k, sd, h1, h2, h3, (e _).trans c0, (e _).trans c1, (e _).trans c2, fun o' => by rw [World.frozen?_setCell]; exact hf o', by simpa [World.setCell] using hB⟩
theorem Gr.ext {v v' : Value} {w0 w w' : World} {b : Nat} (h : Gr b w0 w) (e : Ext v v' w w') (hv : ∀ g, v.ownBlock = some g → w0.heap.size ≤ g) : Gr b w0 w' := by
 have h' : w0.grownBy w (some b) := h
 exact ⟨e.1.os.trans h'.os, e.1.tape.trans h'.tape, e.1.output.trans h'.output, Nat.le_trans h'.size e.1.size, fun i hi hne => (e.1.block i (Nat.lt_of_lt_of_le hi h'.size) (fun x => by have := hv i x.symm; omega)).trans (h'.block i hi hne)⟩
theorem Cur.ext {w w' : World} {B : Nat} {ca : Option Addr} {len cap n : Nat} (h : Cur w B ca len cap n) {v v' : Value} (k : Ext v v' w w') (hne : v.ownBlock ≠ some B) : Cur w' B ca len cap n := by
 obtain ⟨k', sd, q1, q2, q3, c0, c1, c2, hf, hBB⟩ := h
 have e := fun o => Ext.cell k hBB hne o
 exact ⟨k', sd, q1, q2, q3, (e _).trans c0, (e _).trans c1, (e _).trans c2, fun o => (World.frozen?_of_block (a := ⟨B, o, none⟩) (k.1.block B hBB (fun x => hne x.symm))).trans (hf o), Nat.lt_of_lt_of_le hBB k.size⟩
theorem OwnQ.mid {T : TypeId} {w w' : World} {B lo hi : Nat} {v : Value} {l : List VV} (h : OwnQ T w B v l) (k : Mid lo hi w w') (hh : hi ≤ B) : OwnQ T w' B v l := by
 refine ⟨h.1, ?_⟩
 rcases h.2 with hn | ⟨g, cap, cur, rfl, hb, hgg, rest⟩
 ·exact .inl hn
 ·refine .inr ⟨g, cap, cur, rfl, hb, ?_, rest⟩
  rw [k.block g (Array.getElem?_eq_some_iff.1 hgg).1 (Or.inr (by omega))]
  exact hgg
theorem OwnLn.mid {w w' : World} {B lo hi : Nat} {v : Value} {it : Its} (h : OwnLn w B v it) (k : Mid lo hi w w') (hh : hi ≤ B) : OwnLn w' B v it :=
 ⟨OwnQ.mid h.own k hh, fun i hi => OwnQ.mid (h.pts i hi) k hh, h.far, h.apart⟩
end Go.Proofs.YtnkeljmecbohkaaGreat
