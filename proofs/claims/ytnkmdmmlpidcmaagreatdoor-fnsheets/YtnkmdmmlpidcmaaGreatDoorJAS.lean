/-
  A rule in a variable; each theorem names its conditions.
  The statements of the draw of a sheet that draw their order; each theorem names its conditions.
  Rows of rules as rules in memory; each theorem names its conditions.
  The specification's draw of a sheet; each theorem names its conditions.
-/
import Derived.Test.YtnkmdmmlpidcmaaGreatDoorJAR
import Derived.Test.YtnkmdmmlpidcmaaGreatDoorJAC
import Derived.Test.YtnkmdmmlpidcmaaGreatDoorJAP
import Derived.Test.YtnkmdmmlpidcmaaGreatDoorJAH
namespace Go.Proofs.YtnkmdmmlpidcmaaGreatDoor
open Go.ChangeShapes Go.WideShapes Go.ChangeAt Go.RowKit
set_option linter.unusedVariables false

theorem RowO.setB {t : TypeId} {n : Nat} {α : Type} {E : Els α} (hE : KeptE E) {w : World} {B : Nat} {v : Value} {els : List (El α)} (h : RowO t n E w B v els) {g : Nat} (hg : g < B) (o : Nat) (u : Value) : RowO t n E (w.setCell ⟨g, o, none⟩ u) B v els := by
  have hs : (w.setCell ⟨g, o, none⟩ u).heap.size = w.heap.size := by simp [World.setCell]
  refine ⟨World.ownsRow.kept h.own (row := some g) set_grown (Or.inr (by intro e; have := (h.lt g e).1; omega)), fun e he => ?_, h.apart⟩
  obtain ⟨h1, h2, h3⟩ := h.el e he
  refine ⟨hE _ _ _ _ _ (fun x => x = g) h1 (Wr.set (F := fun x => x = g) (Wr.refl _ w) rfl o u) (fun x hx hf => ?_), h2, fun x hx => ?_⟩
  · have := (h3 x hx).1; omega
  · obtain ⟨a, c, d⟩ := h3 x hx
    exact ⟨a, by omega, d⟩
/-- A rule in a variable. -/
def Bx (w : World) (B : Nat) (u d : Value) : Prop := w.heap[B]? = some (.cells #[u, d] 32)
theorem Bx.lt {w : World} {B : Nat} {u d : Value} (h : Bx w B u d) : B < w.heap.size := by
  unfold Bx at h
  exact (Array.getElem?_eq_some_iff.1 h).1
theorem Bx.c0 {w : World} {B : Nat} {u d : Value} (h : Bx w B u d) : w.cell? ⟨B, 0, none⟩ = some u := by
  unfold Bx at h; simp [World.cell?, h]
theorem Bx.c1 {w : World} {B : Nat} {u d : Value} (h : Bx w B u d) : w.cell? ⟨B, 1, none⟩ = some d := by
  unfold Bx at h; simp [World.cell?, h]
theorem Bx.fz {w : World} {B : Nat} {u d : Value} (h : Bx w B u d) (o : Nat) : w.frozen? ⟨B, o, none⟩ = false := by
  unfold Bx at h; simp [World.frozen?, h]
theorem Bx.alloc (w : World) (u d : Value) : Bx (w.alloc (.cells #[u, d] 32)) w.heap.size u d := by
  show (w.heap.push _)[w.heap.size]? = _
  simp
theorem Bx.nw {w w' : World} {B : Nat} {u d : Value} (h : Bx w B u d) (k : Nw w w') : Bx w' B u d := (Below.block k B h.lt).trans h
theorem Bx.ext {w w' : World} {B : Nat} {u d v v' : Value} (h : Bx w B u d) (k : Ext v v' w w') (hv : v.ownBlock ≠ some B) : Bx w' B u d := (k.1.block B h.lt (fun e => hv e.symm)).trans h
theorem Bx.set {w : World} {B : Nat} {u d : Value} (h : Bx w B u d) (v : Value) : Bx (w.setCell ⟨B, 0, none⟩ v) B v d := by
  have hl := h.lt
  unfold Bx at h ⊢
  obtain ⟨_, h2⟩ := Array.getElem?_eq_some_iff.1 h
  rw [Array.getElem?_eq_some_iff]
  refine ⟨by simpa [World.setCell] using hl, ?_⟩
  simp [World.setCell, Array.getElem_modify_self, h2]
end Go.Proofs.YtnkmdmmlpidcmaaGreatDoor
namespace Go.Proofs.YtnkmdmmlpidcmaaGreatDoor
open Go.ChangeShapes Go.WideShapes Go.ChangeAt Go.RowKit
set_option linter.unusedVariables false

structure DS where
 B : Nat
 P : Nat
 Bo : Nat
 ca : Option Addr
 len : Nat
 cap : Nat
 n : Nat
 v : Value
 d : Value
 els : List (El (List PD))
 W : World
 a0 : Act
structure DSOk (X : DS) : Prop where
 hB : X.B < X.Bo
 hP : X.P < X.Bo
 hne : X.P ≠ X.B
 hBo : X.Bo ≤ X.W.heap.size
 own : RowO 34 1 ESel X.W X.Bo X.v X.els
 hl : X.els.length ≤ 1000000
 bx : Bx X.W X.P X.v X.d
 code : ∀ w, Gr X.B X.W w → Code w X.B X.ca X.len
 hlen : X.len ≤ 9223372036854775807
 hn : X.n ≤ 900000
 e0 : X.a0.eval (.tmp 0) = .pointer (some ⟨X.B, 0, none⟩)
 e5 : X.a0.eval (.tmp 5) = .pointer (some ⟨X.P, 0, none⟩)
 sz : X.a0.tmps.size = 67
def DS.val0 (X : DS) : Nat → Value
 | 0 => .pointer (some ⟨X.B, 0, none⟩)
 | 5 => .pointer (some ⟨X.P, 0, none⟩)
 | 23 => .pointer (some ⟨X.P, 0, none⟩)
 | 24 => X.v
 | 25 => .pointer (some ⟨X.B, 0, none⟩)
 | 29 => .pointer (some ⟨X.P, 0, none⟩)
 | _ => undef
def DS.av : Nat → Option Nat
 | 26 => some 0
 | 27 => some 1
 | 28 => some 2
 | _ => none
def DS.acts : List Nat := [3, 4, 5, 7]
/-- The world, by how many of the acting ones have come up. -/
def DS.Wd (X : DS) : Nat → (Nat → Value) → World → Prop
  | 0, _, w => Gr X.B X.W w ∧ Cur w X.B X.ca X.len X.cap (X.n)
  | 1, γ, w => (∃ (l : List PD) (a : Option Addr) (c : Nat), γ 0 = .slice a l.length c ∧ RowM 3 EPart w (.slice a l.length c) l (iv X.W w) ∧ (l.length ≤ 6 ∧ bulkPs l ≤ 200 * l.length)) ∧ Gr X.B X.W w ∧ Cur w X.B X.ca X.len X.cap (X.n + 126)
  | 2, γ, w => ∃ (l : List PD) (g : Nat) (a : Option Addr) (c : Nat), γ 1 = .slice (some ⟨g, 0, none⟩) 1 1 ∧ w.cell? ⟨g, 0, none⟩ = some (.slice a l.length c) ∧ RowM 3 EPart w (.slice a l.length c) l (iv X.W w) ∧ (l.length ≤ 6 ∧ bulkPs l ≤ 200 * l.length) ∧ Gr X.B X.W w ∧ Cur w X.B X.ca X.len X.cap (X.n + 126)
  | 3, γ, w => ∃ (l : List PD) (a : Option Addr) (c : Nat) (w1 : World), (l.length ≤ 6 ∧ bulkPs l ≤ 200 * l.length) ∧ RowO 34 1 ESel w X.Bo (γ 2) (X.els ++ [⟨l, [.slice a l.length c], iv X.W w1⟩]) ∧ Ext X.v (γ 2) w1 w ∧ Gr X.B X.W w1 ∧ Cur w1 X.B X.ca X.len X.cap (X.n + 126)
  | _, γ, w => ∃ (l : List PD) (a : Option Addr) (c : Nat) (w1 w2 : World), (l.length ≤ 6 ∧ bulkPs l ≤ 200 * l.length) ∧ RowO 34 1 ESel w2 X.Bo (γ 2) (X.els ++ [⟨l, [.slice a l.length c], iv X.W w1⟩]) ∧ Ext X.v (γ 2) w1 w2 ∧ Gr X.B X.W w1 ∧ Cur w1 X.B X.ca X.len X.cap (X.n + 126) ∧ w = w2.setCell ⟨X.P, 0, none⟩ (γ 2)
theorem DS.gr {X : DS} : ∀ {n : Nat} {γ : Nat → Value} {w : World}, X.Wd n γ w → n ≤ 2 → Gr X.B X.W w
  | 0, _, _, h, _ => h.1
  | 1, _, _, h, _ => h.2.1
  | 2, _, _, h, _ => by obtain ⟨_, _, _, _, _, _, _, _, h, _⟩ := h; exact h
  | _ + 3, _, _, _, h => absurd h (by omega)
theorem DS.chain : chainG (opsOf 9 Tryz.f25) DS.acts = true := by kernel_rfl
theorem DS.nodup : DS.acts.Nodup := by decide
def DS.L : List (Option Nat × Op × Option (Nat × Bool)) := [
 (some 23, .fieldAddr 32 (.tmp 5) 0, none),
 (some 24, .load 29 (.tmp 23), none),
 (some 25, .move (.tmp 0), none),
 (some 26, .call { callee := .value (.func 34), args := #[(.tmp 25)], argTypes := #[53] }, none),
 (some 27, .buildSlice 29 1 #[(0, (.tmp 26))], none),
 (some 28, .call { callee := .builtin .append, args := #[(.tmp 24), (.tmp 27)], argTypes := #[29, 29] }, none),
 (some 29, .fieldAddr 32 (.tmp 5) 0, none),
 (none, .store 29 (.tmp 29) (.tmp 28), none)]
theorem DS.isL : (opsOf 9 Tryz.f25).toList.map tri = DS.L := by kernel_rfl
theorem DS.ini {X : DS} (ok : DSOk X) : ∀ n ∈ [0, 5], X.a0.eval (.tmp n) = X.val0 n := by
 simp only [List.forall_mem_cons]
 exact ⟨ok.e0, ok.e5, List.forall_mem_nil _⟩
abbrev DS.St (X : DS) (Q : Exit → Act → World → Prop) (i : Nat) : Prop := StepG (opsOf 9 Tryz.f25) DS.acts DS.av X.val0 X.Wd X.a0 Q i
theorem DS.plain (X : DS) (ok : DSOk X) {Q : Exit → Act → World → Prop} : ∀ i ∈ [0, 2, 6], DS.St X Q i := by
 simp only [List.forall_mem_cons]
 refine ⟨?_, ?_, ?_, List.forall_mem_nil _⟩
 all_goals
  refine st_plain DS.isL (DS.ini ok) ok.sz rfl (by kernel_rfl) ?_
  intro γ w n o hW hop
  unfold execOp
  rw [hop]
  simp [envR, valG, DS.av, DS.val0, go_sem]
theorem DS.s1 (X : DS) (ok : DSOk X) {Q : Exit → Act → World → Prop} : DS.St X Q 1 := by
 intro γ listed a w o hF hC hW h1 ho h2
 obtain ⟨hd, hop, hg⟩ := fieldsL DS.isL (i := 1) rfl ho
 have e23 : a.eval (.tmp 23) = .pointer (some ⟨X.P, 0, none⟩) := known hF ho h2 (DS.ini ok) ok.sz (by kernel_rfl)
 have hph := phase_leG (acts := DS.acts) (m := 2) (x := 5) hC (unl (hF.lt ho) h1) rfl [1] (by kernel_rfl) (by decide)
 have hWW := hW
 generalize phase listed DS.acts = n at hph hWW
 have hk := DS.gr hWW hph
 have h0 : w.cell? ⟨X.P, 0, none⟩ = some X.v := (hk.cell (by have := ok.hP; have := ok.hBo; omega) ok.hne 0).trans ok.bx.c0
 refine st_pureG hF hC hW ho h2 (by decide) hd hg rfl ?_
 show _ = Result.ok (Next.value (X.v)) w
 generalize a.eval = ρ at e23 ⊢
 unfold execOp
 rw [hop]
 simp [e23, h0, go_sem]
theorem DS.s3 (X : DS) (ok : DSOk X) {Q : Exit → Act → World → Prop} : DS.St X Q 3 := by
 intro γ listed a w o hF hC hW h1 ho h2
 obtain ⟨hd, hop, hg⟩ := fieldsL DS.isL (i := 3) rfl ho
 have e25 : a.eval (.tmp 25) = .pointer (some ⟨X.B, 0, none⟩) := known hF ho h2 (DS.ini ok) ok.sz (by kernel_rfl)
 have ef : a.eval (.func 34) = .func (.func 34) #[] #[] := rfl
 have hu := unl (hF.lt ho) h1
 refine st_actG (k := 0) DS.chain DS.nodup rfl hF hC hW h1 ho h2 (Or.inr ⟨26, hd, rfl⟩) (injG (by kernel_rfl) hu) hg ?_
 intro hW0 K hK
 obtain ⟨hg1, hc1⟩ := hW0
 have hr : (execOp a.eval o).run Tryz.prog w = .ok (.enter 34 #[.pointer (some ⟨X.B, 0, none⟩)]) w := by
  generalize a.eval = ρ at e25 ef ⊢
  unfold execOp
  rw [hop]
  simp [e25, ef, go_sem]
 unfold Oper.wp
 rw [hr]
 refine Calls.mono (selector_any w X.B X.ca X.len X.cap X.n ok.hlen (by have := ok.hn; omega) hc1 (ok.code _ hg1)) ?_
 rintro e w' ⟨⟨l, u, rfl, hu, hb1, hb2⟩, hc2, hs⟩
 obtain ⟨ua, uc, rfl, _⟩ := hu.slice
 exact hK _ _ ⟨⟨l, ua, uc, rfl, hu.mono (iv_low hg1.size), hb1, hb2⟩, hg1.trans hs, hc2⟩
theorem DS.s4 (X : DS) (ok : DSOk X) {Q : Exit → Act → World → Prop} : DS.St X Q 4 := by
 intro γ listed a w o hF hC hW h1 ho h2
 obtain ⟨hd, hop, hg⟩ := fieldsL DS.isL (i := 4) rfl ho
 have e26 : a.eval (.tmp 26) = γ 0 := known hF ho h2 (DS.ini ok) ok.sz (by kernel_rfl)
 have hu := unl (hF.lt ho) h1
 refine st_actG (k := 1) DS.chain DS.nodup rfl hF hC hW h1 ho h2 (Or.inr ⟨27, hd, rfl⟩) (injG (by kernel_rfl) hu) hg ?_
 intro hW0 K hK
 obtain ⟨⟨l, ua, uc, g0, hu, hbs⟩, hg1, hc1⟩ := hW0
 rw [g0] at e26
 have hr : (execOp a.eval o).run Tryz.prog w = .ok (.value (.slice (some ⟨w.heap.size, 0, none⟩) 1 1)) (w.alloc (.cells #[.slice ua l.length uc] 34)) := by
  generalize a.eval = ρ at e26 ⊢
  unfold execOp
  rw [hop]
  simp [e26, go_sem]
 unfold Oper.wp
 rw [hr]
 exact hK _ _ ⟨l, w.heap.size, ua, uc, rfl, by simp, (hu.nw EPart.kept ((Below.refl _ _).alloc (Nat.le_refl _) _)).mono (iv_mono (by simp)), hbs, hg1.alloc _, hc1.alloc _ _⟩
theorem DS.s5 (X : DS) (ok : DSOk X) {Q : Exit → Act → World → Prop} : DS.St X Q 5 := by
 intro γ listed a w o hF hC hW h1 ho h2
 obtain ⟨hd, hop, hg⟩ := fieldsL DS.isL (i := 5) rfl ho
 have e24 : a.eval (.tmp 24) = X.v := known hF ho h2 (DS.ini ok) ok.sz (by kernel_rfl)
 have e27 : a.eval (.tmp 27) = γ 1 := known hF ho h2 (DS.ini ok) ok.sz (by kernel_rfl)
 have hu := unl (hF.lt ho) h1
 refine st_actG (k := 2) DS.chain DS.nodup rfl hF hC hW h1 ho h2 (Or.inr ⟨28, hd, rfl⟩) (injG (by kernel_rfl) hu) hg ?_
 intro hW0 K hK
 obtain ⟨l, g, ua, uc, g2, hcell, hu, hbs, hg1, hc1⟩ := hW0
 rw [g2] at e27
 obtain ⟨v', w', hr, h3, h4⟩ := run_rwG ESel.kept Tryz.underlying29 info_sel rfl (by decide) (by decide) X.W w (.tmp 24) (.tmp 27) hop X.Bo X.B X.v X.els e24 ok.own hg1 ok.hB ok.hBo g e27 l [.slice ua l.length uc] (fun j u hj => by
  cases j with
  | zero => simp at hj; subst hj; exact hcell
  | succ j => simp at hj) rfl (fun u hu => by simp at hu; subst hu; rfl) ⟨_, rfl, hu⟩ (by have := ok.hl; omega)
 unfold Oper.wp
 rw [hr]
 exact hK _ _ ⟨l, ua, uc, w, hbs, h3, h4, hg1, hc1⟩
theorem DS.s7 (X : DS) (ok : DSOk X) {Q : Exit → Act → World → Prop} : DS.St X Q 7 := by
 intro γ listed a w o hF hC hW h1 ho h2
 obtain ⟨hd, hop, hg⟩ := fieldsL DS.isL (i := 7) rfl ho
 have e29 : a.eval (.tmp 29) = .pointer (some ⟨X.P, 0, none⟩) := known hF ho h2 (DS.ini ok) ok.sz (by kernel_rfl)
 have e28 : a.eval (.tmp 28) = γ 2 := known hF ho h2 (DS.ini ok) ok.sz (by kernel_rfl)
 have hu := unl (hF.lt ho) h1
 refine st_actG (k := 3) DS.chain DS.nodup rfl hF hC hW h1 ho h2 (Or.inl hd) (injG (by kernel_rfl) hu) hg ?_
 intro hW0 K hK
 obtain ⟨l, ua, uc, w1, hbs, h3, h4, hg1, hc1⟩ := hW0
 have hlt : X.P < X.W.heap.size := by have := ok.hP; have := ok.hBo; omega
 have hlt1 : X.P < w1.heap.size := Nat.lt_of_lt_of_le hlt hg1.size
 have hvn : X.v.ownBlock ≠ some X.P := fun e => by have := (ok.own.lt _ e).1; have := ok.hP; omega
 have z0 : w.cell? ⟨X.P, 0, none⟩ = some X.v := (Ext.cell h4 hlt1 hvn 0).trans ((hg1.cell hlt ok.hne 0).trans ok.bx.c0)
 have zf : w.frozen? ⟨X.P, 0, none⟩ = false := (World.frozen?_of_block (a := ⟨X.P, 0, none⟩) (h4.1.block X.P hlt1 (fun e => hvn e.symm))).trans ((hg1.frozen hlt ok.hne 0).trans (ok.bx.fz 0))
 obtain ⟨va, vc, hv⟩ := h3.slice
 rw [hv] at e28
 have hr : (execOp a.eval o).run Tryz.prog w = .ok .skip (w.setCell ⟨X.P, 0, none⟩ (.slice va (X.els ++ [(⟨l, [.slice ua l.length uc], iv X.W w1⟩ : El (List PD))]).length vc)) := by
  generalize a.eval = ρ at e29 e28 ⊢
  unfold execOp
  rw [hop]
  simp [e29, e28, z0, zf, go_sem]
 unfold Oper.wp
 rw [hr]
 exact hK _ _ ⟨l, ua, uc, w1, w, hbs, h3, h4, hg1, hc1, by show w.setCell _ _ = w.setCell _ (γ 2); rw [hv]⟩
theorem DS.size : (opsOf 9 Tryz.f25).size = 8 := by kernel_rfl
theorem DS.rest (X : DS) (ok : DSOk X) {Q : Exit → Act → World → Prop} : ∀ i ∈ [1, 3, 4, 5, 7], DS.St X Q i := by
 simp only [List.forall_mem_cons]
 exact ⟨DS.s1 X ok,
  DS.s3 X ok,
  DS.s4 X ok,
  DS.s5 X ok,
  DS.s7 X ok, List.forall_mem_nil _⟩
theorem DS.steps (X : DS) (ok : DSOk X) {Q : Exit → Act → World → Prop} (i : Nat) (hi : i < (opsOf 9 Tryz.f25).size) : DS.St X Q i := by
 rw [DS.size] at hi
 rcases (by decide : ∀ i, i < 8 → i ∈ [0, 2, 6] ∨ i ∈ [1, 3, 4, 5, 7]) i hi with h | h
 · exact DS.plain X ok i h
 · exact DS.rest X ok i h
/-- The region, whatever order comes up. -/
theorem DS.run (X : DS) (ok : DSOk X) {Q : Exit → Act → World → Prop} (w : World) (h0 : X.Wd 0 (fun _ => undef) w.drew) (hend : ∀ (γ : Nat → Value) w', X.Wd 4 γ w' → Q .normal (((((((X.a0.put (some 23) (.pointer (some ⟨X.P, 0, none⟩))).put (some 24) (X.v)).put (some 25) (.pointer (some ⟨X.B, 0, none⟩))).put (some 26) (γ 0)).put (some 27) (γ 1)).put (some 28) (γ 2)).put (some 29) (.pointer (some ⟨X.P, 0, none⟩))) w') : (Code.region 9 (opsOf 9 Tryz.f25) true).wp Tryz.prog Q X.a0 w := by
 refine reg_act (acts := DS.acts) (av := DS.av) (val0 := X.val0) (Wd := X.Wd) (by kernel_rfl) (by kernel_rfl) (by rw [DS.size]; decide) (fun i hi => DS.steps X ok i hi) _ h0 ?_
 intro γ w' h
 exact end_at (hend γ w' h) (by kernel_rfl)
structure DT where
 B : Nat
 P : Nat
 Bo : Nat
 ca : Option Addr
 len : Nat
 cap : Nat
 n : Nat
 v : Value
 d : Value
 els : List (El DD)
 W : World
 a0 : Act
structure DTOk (X : DT) : Prop where
 hB : X.B < X.Bo
 hP : X.P < X.Bo
 hne : X.P ≠ X.B
 hBo : X.Bo ≤ X.W.heap.size
 own : RowO 36 3 EDecl X.W X.Bo X.v X.els
 hl : X.els.length ≤ 1000000
 bx : Bx X.W X.P X.d X.v
 code : ∀ w, Gr X.B X.W w → Code w X.B X.ca X.len
 hlen : X.len ≤ 9223372036854775807
 hn : X.n ≤ 900000
 e0 : X.a0.eval (.tmp 0) = .pointer (some ⟨X.B, 0, none⟩)
 e5 : X.a0.eval (.tmp 5) = .pointer (some ⟨X.P, 0, none⟩)
 sz : X.a0.tmps.size = 67
def DT.val0 (X : DT) : Nat → Value
 | 0 => .pointer (some ⟨X.B, 0, none⟩)
 | 5 => .pointer (some ⟨X.P, 0, none⟩)
 | 36 => .pointer (some ⟨X.P, 1, none⟩)
 | 37 => X.v
 | 38 => .pointer (some ⟨X.B, 0, none⟩)
 | 42 => .pointer (some ⟨X.P, 1, none⟩)
 | _ => undef
def DT.av : Nat → Option Nat
 | 39 => some 0
 | 40 => some 1
 | 41 => some 2
 | _ => none
def DT.acts : List Nat := [3, 4, 5, 7]
/-- The world, by how many of the acting ones have come up. -/
def DT.Wd (X : DT) : Nat → (Nat → Value) → World → Prop
  | 0, _, w => Gr X.B X.W w ∧ Cur w X.B X.ca X.len X.cap (X.n)
  | 1, γ, w => (∃ d : DD, γ 0 = .agg #[.string d.nm, .string d.vl, .bool d.im] ∧ bulkD d ≤ 100) ∧ Gr X.B X.W w ∧ Cur w X.B X.ca X.len X.cap (X.n + 20)
  | 2, γ, w => ∃ (d : DD) (g : Nat), γ 1 = .slice (some ⟨g, 0, none⟩) 1 1 ∧ (w.cell? ⟨g, 0, none⟩ = some (.string d.nm) ∧ w.cell? ⟨g, 1, none⟩ = some (.string d.vl) ∧ w.cell? ⟨g, 2, none⟩ = some (.bool d.im)) ∧ bulkD d ≤ 100 ∧ Gr X.B X.W w ∧ Cur w X.B X.ca X.len X.cap (X.n + 20)
  | 3, γ, w => ∃ (d : DD) (w1 : World), bulkD d ≤ 100 ∧ RowO 36 3 EDecl w X.Bo (γ 2) (X.els ++ [⟨d, [.string d.nm, .string d.vl, .bool d.im], iv X.W w1⟩]) ∧ Ext X.v (γ 2) w1 w ∧ Gr X.B X.W w1 ∧ Cur w1 X.B X.ca X.len X.cap (X.n + 20)
  | _, γ, w => ∃ (d : DD) (w1 w2 : World), bulkD d ≤ 100 ∧ RowO 36 3 EDecl w2 X.Bo (γ 2) (X.els ++ [⟨d, [.string d.nm, .string d.vl, .bool d.im], iv X.W w1⟩]) ∧ Ext X.v (γ 2) w1 w2 ∧ Gr X.B X.W w1 ∧ Cur w1 X.B X.ca X.len X.cap (X.n + 20) ∧ w = w2.setCell ⟨X.P, 1, none⟩ (γ 2)
theorem DT.gr {X : DT} : ∀ {n : Nat} {γ : Nat → Value} {w : World}, X.Wd n γ w → n ≤ 2 → Gr X.B X.W w
  | 0, _, _, h, _ => h.1
  | 1, _, _, h, _ => h.2.1
  | 2, _, _, h, _ => by obtain ⟨_, _, _, _, _, h, _⟩ := h; exact h
  | _ + 3, _, _, _, h => absurd h (by omega)
theorem DT.chain : chainG (opsOf 13 Tryz.f25) DT.acts = true := by kernel_rfl
theorem DT.nodup : DT.acts.Nodup := by decide
def DT.L : List (Option Nat × Op × Option (Nat × Bool)) := [
 (some 36, .fieldAddr 32 (.tmp 5) 1, none),
 (some 37, .load 30 (.tmp 36), none),
 (some 38, .move (.tmp 0), none),
 (some 39, .call { callee := .value (.func 58), args := #[(.tmp 38)], argTypes := #[53] }, none),
 (some 40, .buildSlice 30 1 #[(0, (.tmp 39))], none),
 (some 41, .call { callee := .builtin .append, args := #[(.tmp 37), (.tmp 40)], argTypes := #[30, 30] }, none),
 (some 42, .fieldAddr 32 (.tmp 5) 1, none),
 (none, .store 30 (.tmp 42) (.tmp 41), none)]
theorem DT.isL : (opsOf 13 Tryz.f25).toList.map tri = DT.L := by kernel_rfl
theorem DT.ini {X : DT} (ok : DTOk X) : ∀ n ∈ [0, 5], X.a0.eval (.tmp n) = X.val0 n := by
 simp only [List.forall_mem_cons]
 exact ⟨ok.e0, ok.e5, List.forall_mem_nil _⟩
abbrev DT.St (X : DT) (Q : Exit → Act → World → Prop) (i : Nat) : Prop := StepG (opsOf 13 Tryz.f25) DT.acts DT.av X.val0 X.Wd X.a0 Q i
theorem DT.plain (X : DT) (ok : DTOk X) {Q : Exit → Act → World → Prop} : ∀ i ∈ [0, 2, 6], DT.St X Q i := by
 simp only [List.forall_mem_cons]
 refine ⟨?_, ?_, ?_, List.forall_mem_nil _⟩
 all_goals
  refine st_plain DT.isL (DT.ini ok) ok.sz rfl (by kernel_rfl) ?_
  intro γ w n o hW hop
  unfold execOp
  rw [hop]
  simp [envR, valG, DT.av, DT.val0, go_sem]
theorem DT.s1 (X : DT) (ok : DTOk X) {Q : Exit → Act → World → Prop} : DT.St X Q 1 := by
 intro γ listed a w o hF hC hW h1 ho h2
 obtain ⟨hd, hop, hg⟩ := fieldsL DT.isL (i := 1) rfl ho
 have e36 : a.eval (.tmp 36) = .pointer (some ⟨X.P, 1, none⟩) := known hF ho h2 (DT.ini ok) ok.sz (by kernel_rfl)
 have hph := phase_leG (acts := DT.acts) (m := 2) (x := 5) hC (unl (hF.lt ho) h1) rfl [1] (by kernel_rfl) (by decide)
 have hWW := hW
 generalize phase listed DT.acts = n at hph hWW
 have hk := DT.gr hWW hph
 have h0 : w.cell? ⟨X.P, 1, none⟩ = some X.v := (hk.cell (by have := ok.hP; have := ok.hBo; omega) ok.hne 1).trans ok.bx.c1
 refine st_pureG hF hC hW ho h2 (by decide) hd hg rfl ?_
 show _ = Result.ok (Next.value (X.v)) w
 generalize a.eval = ρ at e36 ⊢
 unfold execOp
 rw [hop]
 simp [e36, h0, go_sem]
theorem DT.s3 (X : DT) (ok : DTOk X) {Q : Exit → Act → World → Prop} : DT.St X Q 3 := by
 intro γ listed a w o hF hC hW h1 ho h2
 obtain ⟨hd, hop, hg⟩ := fieldsL DT.isL (i := 3) rfl ho
 have e38 : a.eval (.tmp 38) = .pointer (some ⟨X.B, 0, none⟩) := known hF ho h2 (DT.ini ok) ok.sz (by kernel_rfl)
 have ef : a.eval (.func 58) = .func (.func 58) #[] #[] := rfl
 have hu := unl (hF.lt ho) h1
 refine st_actG (k := 0) DT.chain DT.nodup rfl hF hC hW h1 ho h2 (Or.inr ⟨39, hd, rfl⟩) (injG (by kernel_rfl) hu) hg ?_
 intro hW0 K hK
 obtain ⟨hg1, hc1⟩ := hW0
 have hr : (execOp a.eval o).run Tryz.prog w = .ok (.enter 58 #[.pointer (some ⟨X.B, 0, none⟩)]) w := by
  generalize a.eval = ρ at e38 ef ⊢
  unfold execOp
  rw [hop]
  simp [e38, ef, go_sem]
 unfold Oper.wp
 rw [hr]
 refine Calls.mono (declOf_any w X.B X.ca X.len X.cap X.n ok.hlen (by have := ok.hn; omega) hc1 (ok.code _ hg1)) ?_
 rintro e w' ⟨⟨d, rfl, hb⟩, hc2, hs⟩
 exact hK _ _ ⟨⟨d, rfl, hb⟩, hg1.trans hs, hc2⟩
theorem DT.s4 (X : DT) (ok : DTOk X) {Q : Exit → Act → World → Prop} : DT.St X Q 4 := by
 intro γ listed a w o hF hC hW h1 ho h2
 obtain ⟨hd, hop, hg⟩ := fieldsL DT.isL (i := 4) rfl ho
 have e39 : a.eval (.tmp 39) = γ 0 := known hF ho h2 (DT.ini ok) ok.sz (by kernel_rfl)
 have hu := unl (hF.lt ho) h1
 refine st_actG (k := 1) DT.chain DT.nodup rfl hF hC hW h1 ho h2 (Or.inr ⟨40, hd, rfl⟩) (injG (by kernel_rfl) hu) hg ?_
 intro hW0 K hK
 obtain ⟨⟨d, g0, hbs⟩, hg1, hc1⟩ := hW0
 rw [g0] at e39
 have hr : (execOp a.eval o).run Tryz.prog w = .ok (.value (.slice (some ⟨w.heap.size, 0, none⟩) 1 1)) (w.alloc (.cells #[.string d.nm, .string d.vl, .bool d.im] 36)) := by
  generalize a.eval = ρ at e39 ⊢
  unfold execOp
  rw [hop]
  simp [e39, go_sem]
 unfold Oper.wp
 rw [hr]
 exact hK _ _ ⟨d, w.heap.size, rfl, ⟨by simp, by simp, by simp⟩, hbs, hg1.alloc _, hc1.alloc _ _⟩
theorem DT.s5 (X : DT) (ok : DTOk X) {Q : Exit → Act → World → Prop} : DT.St X Q 5 := by
 intro γ listed a w o hF hC hW h1 ho h2
 obtain ⟨hd, hop, hg⟩ := fieldsL DT.isL (i := 5) rfl ho
 have e37 : a.eval (.tmp 37) = X.v := known hF ho h2 (DT.ini ok) ok.sz (by kernel_rfl)
 have e40 : a.eval (.tmp 40) = γ 1 := known hF ho h2 (DT.ini ok) ok.sz (by kernel_rfl)
 have hu := unl (hF.lt ho) h1
 refine st_actG (k := 2) DT.chain DT.nodup rfl hF hC hW h1 ho h2 (Or.inr ⟨41, hd, rfl⟩) (injG (by kernel_rfl) hu) hg ?_
 intro hW0 K hK
 obtain ⟨d, g, g2, ⟨x0, x1, x2⟩, hbs, hg1, hc1⟩ := hW0
 rw [g2] at e40
 obtain ⟨v', w', hr, h3, h4⟩ := run_rwG EDecl.kept Tryz.underlying30 Tryz.info36 rfl (by decide) (by decide) X.W w (.tmp 37) (.tmp 40) hop X.Bo X.B X.v X.els e37 ok.own hg1 ok.hB ok.hBo g e40 d [.string d.nm, .string d.vl, .bool d.im] (fun j u hj => by
  rcases (show j = 0 ∨ j = 1 ∨ j = 2 ∨ 3 ≤ j by omega) with rfl | rfl | rfl | h
  ·simp at hj; subst hj; exact x0
  ·simp at hj; subst hj; exact x1
  ·simp at hj; subst hj; exact x2
  ·rw [List.getElem?_eq_none (by simpa using h)] at hj; cases hj) rfl (fun u hu => by
  simp only [List.mem_cons, List.not_mem_nil, or_false] at hu
  rcases hu with rfl | rfl | rfl <;> rfl) rfl (by have := ok.hl; omega)
 unfold Oper.wp
 rw [hr]
 exact hK _ _ ⟨d, w, hbs, h3, h4, hg1, hc1⟩
theorem DT.s7 (X : DT) (ok : DTOk X) {Q : Exit → Act → World → Prop} : DT.St X Q 7 := by
 intro γ listed a w o hF hC hW h1 ho h2
 obtain ⟨hd, hop, hg⟩ := fieldsL DT.isL (i := 7) rfl ho
 have e42 : a.eval (.tmp 42) = .pointer (some ⟨X.P, 1, none⟩) := known hF ho h2 (DT.ini ok) ok.sz (by kernel_rfl)
 have e41 : a.eval (.tmp 41) = γ 2 := known hF ho h2 (DT.ini ok) ok.sz (by kernel_rfl)
 have hu := unl (hF.lt ho) h1
 refine st_actG (k := 3) DT.chain DT.nodup rfl hF hC hW h1 ho h2 (Or.inl hd) (injG (by kernel_rfl) hu) hg ?_
 intro hW0 K hK
 obtain ⟨d, w1, hbs, h3, h4, hg1, hc1⟩ := hW0
 have hlt : X.P < X.W.heap.size := by have := ok.hP; have := ok.hBo; omega
 have hlt1 : X.P < w1.heap.size := Nat.lt_of_lt_of_le hlt hg1.size
 have hvn : X.v.ownBlock ≠ some X.P := fun e => by have := (ok.own.lt _ e).1; have := ok.hP; omega
 have z0 : w.cell? ⟨X.P, 1, none⟩ = some X.v := (Ext.cell h4 hlt1 hvn 1).trans ((hg1.cell hlt ok.hne 1).trans ok.bx.c1)
 have zf : w.frozen? ⟨X.P, 1, none⟩ = false := (World.frozen?_of_block (a := ⟨X.P, 1, none⟩) (h4.1.block X.P hlt1 (fun e => hvn e.symm))).trans ((hg1.frozen hlt ok.hne 1).trans (ok.bx.fz 1))
 obtain ⟨va, vc, hv⟩ := h3.slice
 rw [hv] at e41
 have hr : (execOp a.eval o).run Tryz.prog w = .ok .skip (w.setCell ⟨X.P, 1, none⟩ (.slice va (X.els ++ [(⟨d, [.string d.nm, .string d.vl, .bool d.im], iv X.W w1⟩ : El DD)]).length vc)) := by
  generalize a.eval = ρ at e42 e41 ⊢
  unfold execOp
  rw [hop]
  simp [e42, e41, z0, zf, go_sem]
 unfold Oper.wp
 rw [hr]
 exact hK _ _ ⟨d, w1, w, hbs, h3, h4, hg1, hc1, by show w.setCell _ _ = w.setCell _ (γ 2); rw [hv]⟩
theorem DT.size : (opsOf 13 Tryz.f25).size = 8 := by kernel_rfl
theorem DT.rest (X : DT) (ok : DTOk X) {Q : Exit → Act → World → Prop} : ∀ i ∈ [1, 3, 4, 5, 7], DT.St X Q i := by
 simp only [List.forall_mem_cons]
 exact ⟨DT.s1 X ok,
  DT.s3 X ok,
  DT.s4 X ok,
  DT.s5 X ok,
  DT.s7 X ok, List.forall_mem_nil _⟩
theorem DT.steps (X : DT) (ok : DTOk X) {Q : Exit → Act → World → Prop} (i : Nat) (hi : i < (opsOf 13 Tryz.f25).size) : DT.St X Q i := by
 rw [DT.size] at hi
 rcases (by decide : ∀ i, i < 8 → i ∈ [0, 2, 6] ∨ i ∈ [1, 3, 4, 5, 7]) i hi with h | h
 · exact DT.plain X ok i h
 · exact DT.rest X ok i h
/-- The region, whatever order comes up. -/
theorem DT.run (X : DT) (ok : DTOk X) {Q : Exit → Act → World → Prop} (w : World) (h0 : X.Wd 0 (fun _ => undef) w.drew) (hend : ∀ (γ : Nat → Value) w', X.Wd 4 γ w' → Q .normal (((((((X.a0.put (some 36) (.pointer (some ⟨X.P, 1, none⟩))).put (some 37) (X.v)).put (some 38) (.pointer (some ⟨X.B, 0, none⟩))).put (some 39) (γ 0)).put (some 40) (γ 1)).put (some 41) (γ 2)).put (some 42) (.pointer (some ⟨X.P, 1, none⟩))) w') : (Code.region 13 (opsOf 13 Tryz.f25) true).wp Tryz.prog Q X.a0 w := by
 refine reg_act (acts := DT.acts) (av := DT.av) (val0 := X.val0) (Wd := X.Wd) (by kernel_rfl) (by kernel_rfl) (by rw [DT.size]; decide) (fun i hi => DT.steps X ok i hi) _ h0 ?_
 intro γ w' h
 exact end_at (hend γ w' h) (by kernel_rfl)
end Go.Proofs.YtnkmdmmlpidcmaaGreatDoor
namespace Go.Proofs.YtnkmdmmlpidcmaaGreatDoor
open Go.ChangeShapes Go.WideShapes Go.ChangeAt Go.RowKit
set_option linter.unusedVariables false

theorem RowM.selss {w : World} {v : Value} {l : List (List PD)} {F : Nat → Prop} (h : RowM 1 ESel w v l F) : ∃ a c, v = .slice a l.length c ∧ l.length ≤ c ∧ Selss w a l := by
  rcases h with ⟨h1, h2⟩ | ⟨g, c, els, h1, h2, h3, h4⟩
  · exact ⟨none, 0, by rw [h2]; exact h1, by rw [h2]; exact Nat.le_refl _, Or.inl h2⟩
  · refine ⟨_, c, h1, h2, Or.inr ⟨g, 0, rfl, h4.lt, fun i hi => ?_⟩⟩
    obtain ⟨e, he, hx⟩ := el_at h3 i hi []
    obtain ⟨u, hc, hu⟩ := (h4.el e (List.mem_of_getElem? he)).1
    have c0 := h4.cell i e he 0 u (by rw [hc]; rfl)
    have hp : Go.Proofs.YtnkmdmmlpidcmaaGreatDoor.selAt l i = e.x := hx.symm
    rw [hp]
    obtain ⟨a, c', hv, hcap, hs⟩ := hu.parts
    rw [hv] at c0
    exact ⟨a, c', by simpa using c0, hcap, hs⟩
theorem RowM.declsO {w : World} {v : Value} {l : List DD} {F : Nat → Prop} (h : RowM 3 EDecl w v l F) : ∃ a c, v = .slice a l.length c ∧ l.length ≤ c ∧ DeclsO w a l := by
  rcases h with ⟨h1, h2⟩ | ⟨g, c, els, h1, h2, h3, h4⟩
  · exact ⟨none, 0, by rw [h2]; exact h1, by rw [h2]; exact Nat.le_refl _, Or.inl h2⟩
  · refine ⟨_, c, h1, h2, Or.inr ⟨g, 0, rfl, h4.lt, fun i hi => ?_⟩⟩
    obtain ⟨e, he, hx⟩ := el_at h3 i hi noDD
    have hc := (h4.el e (List.mem_of_getElem? he)).1
    have c0 := h4.cell i e he 0 (.string e.x.nm) (by rw [hc]; rfl)
    have c1 := h4.cell i e he 1 (.string e.x.vl) (by rw [hc]; rfl)
    have c2 := h4.cell i e he 2 (.bool e.x.im) (by rw [hc]; rfl)
    have hp : declAt l i = e.x := hx.symm
    rw [hp]
    exact ⟨by simpa using c0, by simpa using c1, by simpa using c2⟩
theorem RowM.rules {w : World} {v : Value} {l : List RD} {F : Nat → Prop} (h : RowM 2 ERule w v l F) : ∃ a c, v = .slice a l.length c ∧ l.length ≤ c ∧ Rules w a l := by
  rcases h with ⟨h1, h2⟩ | ⟨g, c, els, h1, h2, h3, h4⟩
  · exact ⟨none, 0, by rw [h2]; exact h1, by rw [h2]; exact Nat.le_refl _, Or.inl h2⟩
  · refine ⟨_, c, h1, h2, Or.inr ⟨g, 0, rfl, h4.lt, fun i hi => ?_⟩⟩
    obtain ⟨e, he, hx⟩ := el_at h3 i hi noRD
    obtain ⟨v1, v2, F1, F2, hc, hu1, hu2, _, _, _⟩ := (h4.el e (List.mem_of_getElem? he)).1
    have c0 := h4.cell i e he 0 v1 (by rw [hc]; rfl)
    have c1 := h4.cell i e he 1 v2 (by rw [hc]; rfl)
    have hp : Go.Proofs.YtnkmdmmlpidcmaaGreatDoor.ruleAt l i = e.x := hx.symm
    rw [hp]
    obtain ⟨a, c', hv, hcap, hs⟩ := hu1.selss
    obtain ⟨a2, c2, hv2, hcap2, hs2⟩ := hu2.declsO
    rw [hv] at c0
    rw [hv2] at c1
    exact ⟨⟨a, c', by simpa using c0, hcap, hs⟩, ⟨a2, c2, by simpa using c1, hcap2, hs2⟩⟩
end Go.Proofs.YtnkmdmmlpidcmaaGreatDoor
namespace Go.Proofs.YtnkmdmmlpidcmaaGreatDoor
open Go.ChangeShapes Go.WideShapes Go.ChangeAt Go.RowKit
set_option linter.unusedVariables false

theorem bulkSS_snoc (l : List (List PD)) (x : List PD) : bulkSS (l ++ [x]) = bulkSS l + bulkX x := by simp [bulkSS]
theorem bulkDs_snoc (l : List DD) (x : DD) : bulkDs (l ++ [x]) = bulkDs l + bulkD x := by simp [bulkDs]
theorem bulkRs_snoc (l : List RD) (x : RD) : bulkRs (l ++ [x]) = bulkRs l + bulkR x := by simp [bulkRs]
theorem Bx.gr {w w' : World} {B b : Nat} {u d : Value} (h : Bx w B u d) (k : Gr b w w') (hne : B ≠ b) : Bx w' B u d := by
  have k' : w.grownBy w' (some b) := k
  exact (k'.block B h.lt (fun e => hne (Option.some.inj e))).trans h
theorem Bx.set1 {w : World} {B : Nat} {u d : Value} (h : Bx w B u d) (v : Value) : Bx (w.setCell ⟨B, 1, none⟩ v) B u v := by
  have hl := h.lt
  unfold Bx at h ⊢
  obtain ⟨_, h2⟩ := Array.getElem?_eq_some_iff.1 h
  rw [Array.getElem?_eq_some_iff]
  refine ⟨by simpa [World.setCell] using hl, ?_⟩
  simp [World.setCell, Array.getElem_modify_self, h2]
theorem RowM.one {n : Nat} {α : Type} {E : Els α} {w : World} {g : Nat} {x : α} {cs : List Value} {Fe F : Nat → Prop} (hg : g < w.heap.size) (fz : ∀ o, w.frozen? ⟨g, o, none⟩ = false) (hF : F g) (hc : ∀ j u, cs[j]? = some u → w.cell? ⟨g, j, none⟩ = some u)
    (hE : E w cs x Fe) (hn : cs.length = n) (hFe : ∀ b, Fe b → F b ∧ b ≠ g) : RowM n E w (.slice (some ⟨g, 0, none⟩) 1 1) [x] F := by
  refine Or.inr ⟨g, 1, [⟨x, cs, Fe⟩], rfl, Nat.le_refl _, rfl, hg, fz, hF, fun i e hi j u hj => ?_, fun e he => ?_, List.pairwise_singleton _ _⟩
  · cases i with
    | zero => simp at hi; subst hi; rw [Nat.zero_mul, Nat.zero_add]; exact hc j u hj
    | succ i => simp at hi
  · simp at he
    subst he
    exact ⟨hE, hn, hFe⟩
theorem cells_at {w : World} {g : Nat} {cs : List Value} {t : TypeId} (h : w.heap[g]? = some (.cells cs.toArray t)) : g < w.heap.size ∧ (∀ o, w.frozen? ⟨g, o, none⟩ = false) ∧ ∀ j u, cs[j]? = some u → w.cell? ⟨g, j, none⟩ = some u :=
  ⟨(Array.getElem?_eq_some_iff.1 h).1, fun o => by simp [World.frozen?, h], fun j u hj => by simp [World.cell?, h, hj]⟩
theorem new_block (w : World) (o : Obj) : (w.alloc o).heap[w.heap.size]? = some o := by
  show (w.heap.push _)[w.heap.size]? = _
  simp
/-- A rule of one selector of one type, newly laid. -/
theorem gRule (w : World) (s : ByteArray) (t1 t2 : TypeId) (o3 : Obj) :
    ERule (((w.alloc (.cells #[.string s, .string ⟨#[]⟩, .slice none 0 0] t1)).alloc (.cells #[.slice (some ⟨w.heap.size, 0, none⟩) 1 1] t2)).alloc o3) [.slice (some ⟨w.heap.size + 1, 0, none⟩) 1 1, .slice none 0 0] ⟨[[⟨s, ⟨#[]⟩, []⟩]], []⟩
      (iv w (((w.alloc (.cells #[.string s, .string ⟨#[]⟩, .slice none 0 0] t1)).alloc (.cells #[.slice (some ⟨w.heap.size, 0, none⟩) 1 1] t2)).alloc o3)) := by
  have e1 : (((w.alloc (.cells #[.string s, .string ⟨#[]⟩, .slice none 0 0] t1)).alloc (.cells #[.slice (some ⟨w.heap.size, 0, none⟩) 1 1] t2)).alloc o3).heap[w.heap.size]? = some (.cells [.string s, .string ⟨#[]⟩, .slice none 0 0].toArray t1) := by
    have k : Nw (w.alloc (.cells #[.string s, .string ⟨#[]⟩, .slice none 0 0] t1)) (((w.alloc (.cells #[.string s, .string ⟨#[]⟩, .slice none 0 0] t1)).alloc (.cells #[.slice (some ⟨w.heap.size, 0, none⟩) 1 1] t2)).alloc o3) := ((Below.refl _ _).alloc (Nat.le_refl _) _).alloc (by simp) _
    exact (Below.block k w.heap.size (by simp)).trans (new_block w _)
  have e2 : (((w.alloc (.cells #[.string s, .string ⟨#[]⟩, .slice none 0 0] t1)).alloc (.cells #[.slice (some ⟨w.heap.size, 0, none⟩) 1 1] t2)).alloc o3).heap[w.heap.size + 1]? = some (.cells [.slice (some ⟨w.heap.size, 0, none⟩) 1 1].toArray t2) := by
    have k : Nw ((w.alloc (.cells #[.string s, .string ⟨#[]⟩, .slice none 0 0] t1)).alloc (.cells #[.slice (some ⟨w.heap.size, 0, none⟩) 1 1] t2)) (((w.alloc (.cells #[.string s, .string ⟨#[]⟩, .slice none 0 0] t1)).alloc (.cells #[.slice (some ⟨w.heap.size, 0, none⟩) 1 1] t2)).alloc o3) := (Below.refl _ _).alloc (Nat.le_refl _) _
    have h := new_block (w.alloc (.cells #[.string s, .string ⟨#[]⟩, .slice none 0 0] t1)) (.cells #[.slice (some ⟨w.heap.size, 0, none⟩) 1 1] t2)
    rw [World.size_alloc] at h
    exact (Below.block k (w.heap.size + 1) (by simp)).trans h
  have hsz : (((w.alloc (.cells #[.string s, .string ⟨#[]⟩, .slice none 0 0] t1)).alloc (.cells #[.slice (some ⟨w.heap.size, 0, none⟩) 1 1] t2)).alloc o3).heap.size = w.heap.size + 3 := by simp
  generalize (((w.alloc (.cells #[.string s, .string ⟨#[]⟩, .slice none 0 0] t1)).alloc (.cells #[.slice (some ⟨w.heap.size, 0, none⟩) 1 1] t2)).alloc o3) = W at *
  obtain ⟨a1, a2, a3⟩ := cells_at e1
  obtain ⟨b1, b2, b3⟩ := cells_at e2
  refine ⟨_, _, (fun b => w.heap.size ≤ b ∧ b < W.heap.size), (fun _ => False), rfl, ?_, RowM.nil _ _ _ _, fun b hb => hb, fun b hb => hb.elim, fun b _ hb => hb.elim⟩
  refine RowM.one (cs := [.slice (some ⟨w.heap.size, 0, none⟩) 1 1]) (Fe := fun b => b = w.heap.size) b1 b2 ⟨by omega, by omega⟩ b3 ⟨_, rfl, ?_⟩ rfl (fun b hb => ⟨⟨by omega, by omega⟩, by omega⟩)
  exact RowM.one (cs := [.string s, .string ⟨#[]⟩, .slice none 0 0]) (Fe := fun _ => False) a1 a2 rfl a3 ⟨_, rfl, RowM.nil _ _ _ _⟩ rfl (fun b hb => hb.elim)
theorem gRule_bulk (s : ByteArray) (h : s.size ≤ 20) : bulkR ⟨[[⟨s, ⟨#[]⟩, []⟩]], []⟩ ≤ 4000 := by
  have e : (ByteArray.mk #[]).size = 0 := rfl
  simp [bulkR, bulkSS, bulkX, bulkPs, bulkP, bulk1, bulkDs, e]
  omega
def SheetDrawn (w w' : World) (e : Ending) : Prop := ∃ (l : List RD) (u : Value), e = .returned u ∧ RowM 2 ERule w' u l (iv w w') ∧ l.length ≤ 40 ∧ bulkRs l ≤ 4000 * l.length
end Go.Proofs.YtnkmdmmlpidcmaaGreatDoor
