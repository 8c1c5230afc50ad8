/-
  Marks laid into a list of texts and looked for: what the laws' helpers do; each theorem names its conditions.
  Rows of texts and of parts with memory of their own, and marks in them; each theorem names its conditions.
  An element with memory of its own appended to a row; each theorem names its conditions.
  Lists of numbers of the call's own, to which numbers are appended; and what the laws' helpers do that hold two such lists against each other, mark one and look for the marks; each theorem names its conditions.
-/
import Derived.Test.YtnkmdmmlpidcmaaDoorJAE
import Derived.Test.YtnkmdmmlpidcmaaDoorJAC
import Derived.Lib.SlBytesRow
import Derived.Test.YtnkmdmmlpidcmaaDoorJAB
import Derived.Test.YtnkmdmmlpidcmaaDoorJAD
namespace Go.Proofs.YtnkmdmmlpidcmaaDoor
open Go.ChangeShapes Go.WideShapes Go.ChangeAt Go.RowKit
set_option linter.unusedVariables false

def markL (K n : Nat) : List ByteArray := (List.range n).map fun i => markT (K + i)
theorem markL_len (K n : Nat) : (markL K n).length = n := by simp [markL]
theorem markL_at (K n i : Nat) (h : i < n) : strAt (markL K n) i = markT (K + i) := by simp [strAt, markL, h]
theorem grown_refl (w : World) (r : Option Nat) : w.grownBy w r := ⟨rfl, rfl, rfl, Nat.le_refl _, fun _ _ _ => rfl⟩
theorem grown_nw {a b c : World} {r : Option Nat} (h : a.grownBy b r) (k : Nw b c) : a.grownBy c r :=
  ⟨(Below.os k).trans h.os, (Below.tape k).trans h.tape, (Below.output k).trans h.output, Nat.le_trans h.size (Below.size k), fun i hi hne => (Below.block k i (Nat.lt_of_lt_of_le hi h.size)).trans (h.block i hi hne)⟩
theorem grown_set {a b : World} {g : Nat} (h : a.grownBy b (some g)) (o : Nat) (v : Value) : a.grownBy (b.setCell ⟨g, o, none⟩ v) (some g) :=
  ⟨h.os, h.tape, h.output, by simpa [World.setCell] using h.size, fun i hi hne => by
    rw [Below.heap_setCell _ _ _ _ (by intro e; apply hne; rw [e])]
    exact h.block i hi hne⟩
theorem grown_below {a b : World} {g B : Nat} (h : a.grownBy b (some g)) (hg : B ≤ g) (hB : B ≤ a.heap.size) : Below B a b :=
  ⟨h.os, h.tape, h.output, h.size, fun i hi => h.block i (by omega) (by intro e; injection e; omega)⟩
theorem Strs.grown {w w' : World} {b off g : Nat} {l : List ByteArray} (h : Strs w (some ⟨b, off, none⟩) l) (k : w.grownBy w' (some g)) (hne : b ≠ g) : Strs w' (some ⟨b, off, none⟩) l := by
  rcases h with h | ⟨b', off', e, hb, hc⟩
  · exact Or.inl h
  · injection e with e; injection e with e1 e2; subst e1 e2
    refine Or.inr ⟨b, off, rfl, Nat.lt_of_lt_of_le hb k.size, fun i hi => ?_⟩
    exact (World.cell?_of_block (w := w) (a := ⟨b, off + i, none⟩) (k.block b hb (by intro e; injection e; omega))).trans (hc i hi)
/-- A row of texts of which the first j bear marks. -/
def MkTo (w : World) (g K n j : Nat) : Prop :=
  g < w.heap.size ∧ (∀ i, i < j → w.cell? ⟨g, i, none⟩ = some (.string (markT (K + i)))) ∧ (∀ i, j ≤ i → i < n → ∃ s, w.cell? ⟨g, i, none⟩ = some (.string s)) ∧ ∀ o, w.frozen? ⟨g, o, none⟩ = false
theorem MkTo.nw {w w' : World} {g K n j : Nat} (h : MkTo w g K n j) (k : Nw w w') : MkTo w' g K n j :=
  ⟨Nat.lt_of_lt_of_le h.1 (Below.size k), fun i hi => ((bcell k).1 _ _ h.1).trans (h.2.1 i hi), fun i a b => by obtain ⟨s, e⟩ := h.2.2.1 i a b; exact ⟨s, ((bcell k).1 _ _ h.1).trans e⟩, fun o => ((bcell k).2 _ _ h.1).trans (h.2.2.2 o)⟩
theorem MkTo.step {w : World} {g K n j : Nat} (h : MkTo w g K n j) (hj : j < n) : MkTo (w.setCell ⟨g, j, none⟩ (.string (markT (K + j)))) g K n (j + 1) := by
  obtain ⟨h1, h2, h3, h4⟩ := h
  obtain ⟨s0, c0⟩ := h3 j (Nat.le_refl _) hj
  have far : ∀ o, o ≠ j → (w.setCell ⟨g, j, none⟩ (.string (markT (K + j)))).cell? ⟨g, o, none⟩ = w.cell? ⟨g, o, none⟩ := by
    intro o a
    rw [World.cell?_setCell_other _ _ _ _ (fun h => by injection h; omega)]
  refine ⟨by simpa [World.setCell] using h1, fun i hi => ?_, fun i a b => ?_, fun o => by rw [World.frozen?_setCell]; exact h4 o⟩
  · by_cases e : i = j
    · subst e; exact World.cell?_setCell_same w ⟨g, i, none⟩ _ c0
    · rw [far i e]; exact h2 i (by omega)
  · rw [far i (by omega)]; exact h3 i (by omega) b
theorem MkTo.lay {w : World} {g K n : Nat} (h : MkTo w g K n n) : LayS w g (markL K n) n :=
  ⟨h.1, fun i hi => by rw [markL_at K n i hi]; exact h.2.1 i hi, fun i a b => by rw [markL_len] at b; omega, h.2.2.2⟩
set_option maxHeartbeats 1000000 in
theorem markS_any (w : World) (g c K : Nat) (l : List ByteArray) (hl : l.length ≤ 1048576) (hK : 1 ≤ K) (hK2 : K ≤ 50000000) (h : LayS w g l l.length) :
    Calls Tryd.prog 36 #[.slice (some ⟨g, 0, none⟩) l.length c, .int .i64 (K : Int)] w fun e w' => e = .returned (.int .i64 ((K + l.length : Nat) : Int)) ∧ w.grownBy w' (some g) ∧ LayS w' g (markL K l.length) l.length := by
  have HS : Hid (MkTo w g K l.length 0) := ⟨h.1, fun i hi => absurd hi (by omega), fun i _ b => ⟨_, h.2.1 i b⟩, h.2.2.2⟩
  clear h
  go_enter Tryd.func36, Tryd.ntmps36
  go_wp2
  go_loopw [1, 5] (fun x i wr => ∃ j : Nat, j ≤ l.length ∧ i = .int .i64 j ∧ x = .int .i64 ((K + j : Nat) : Int) ∧ w.grownBy wr (some g) ∧ MkTo wr g K l.length j) (fun _ i _ => l.length - (intOf i).toNat)
  case atStart => exact ⟨0, Nat.zero_le _, rfl, rfl, grown_refl _ _, HS.out⟩
  case round =>
    obtain ⟨j, hj, rfl, rfl, hw, hm⟩ := hrel
    have HW : Hid (w.grownBy wr (some g)) := hw
    have HM : Hid (MkTo wr g K l.length j) := hm
    clear hw hm
    by_cases hlt : j < l.length
    · obtain ⟨s0, c0⟩ := HM.out.2.2.1 j (Nat.le_refl _) hlt
      have hf0 := HM.out.2.2.2
      have hg0 := HM.out.1
      go_wp2_with (go_at_call 30; refine Calls.mono (markText_any _ (K + j) (by omega) (by omega)) ?_; rintro e w1 ⟨rfl, k1⟩; have d0 := ((bcell k1).1 _ j hg0).trans c0; have df : ∀ o, w1.frozen? ⟨g, o, none⟩ = false := fun o => ((bcell k1).2 _ o hg0).trans (hf0 o))
      go_roundw
      case rel => exact ⟨j + 1, by omega, by go_num, by go_num, grown_set (grown_nw HW.out k1) _ _, (HM.out.nw k1).step hlt⟩
      case measure => simp [intOf]; omega
    · have e : j = l.length := by omega
      subst e
      go_wp2
      go_ret
      exact ⟨rfl, HW.out, HM.out.lay⟩
set_option maxHeartbeats 4000000 in
theorem heldS_any (w : World) (g c K n : Nat) (hl : n ≤ 1048576) (hK : 1 ≤ K) (hK2 : K ≤ 50000000) (h : LayS w g (markL K n) n) :
    Calls Tryd.prog 37 #[.slice (some ⟨g, 0, none⟩) n c, .int .i64 (K : Int)] w fun e w' => e = .returned (.int .i64 ((K + n : Nat) : Int)) ∧ Nw w w' := by
  have HS : Hid (LayS w g (markL K n) n) := h
  clear h
  go_enter Tryd.func37, Tryd.ntmps37
  go_wp2
  go_loopw [1, 5] (fun x i wr => ∃ j : Nat, j ≤ n ∧ i = .int .i64 j ∧ x = .int .i64 ((K + j : Nat) : Int) ∧ Nw w wr) (fun _ i _ => n - (intOf i).toNat)
  case atStart => exact ⟨0, Nat.zero_le _, rfl, rfl, Below.refl _ _⟩
  case round =>
    obtain ⟨j, hj, rfl, rfl, hw⟩ := hrel
    by_cases hlt : j < n
    · have hs := HS.out.nw hw
      have c0 := hs.2.1 j hlt
      have hg0 := hs.1
      rw [markL_at K n j hlt] at c0
      have HW : Hid (Nw w wr) := hw
      clear hw hs
      have hg1 : g < wr.drew.heap.size := hg0
      have C1 : wr.drew.cell? ⟨g, j, none⟩ = some (.string (markT (K + j))) := c0
      go_wp2
      go_region_with (go_at_call 30; refine Calls.mono (markText_any _ (K + j) (by omega) (by omega)) ?_; rintro e w1 ⟨rfl, k1⟩; have d0 := ((bcell k1).1 _ j hg1).trans C1)
      all_goals
        go_wp2
        go_roundw
        case rel => exact ⟨j + 1, by omega, by go_num, by go_num, HW.out.trans k1.drw⟩
        case measure => simp [intOf]; omega
    · have e : j = n := by omega
      subst e
      have HW : Hid (Nw w wr) := hw
      clear hw
      go_wp2
      go_ret
      exact ⟨rfl, HW.out⟩
end Go.Proofs.YtnkmdmmlpidcmaaDoor
namespace Go.Proofs.YtnkmdmmlpidcmaaDoor
open Go.ChangeShapes Go.WideShapes Go.ChangeAt Go.RowKit
set_option linter.unusedVariables false

def EStr : Els ByteArray := fun _ cs x _ => cs = [.string x]
theorem EStr.kept : KeptE EStr := fun w w' cs x F G h _ _ => h
def EPart : Els PD := fun w cs p F => ∃ u, cs = [.string p.ty, .string p.id, u] ∧ RowM 1 EStr w u p.cls F
theorem EPart.kept : KeptE EPart := fun w w' cs x F G ⟨u, h1, h2⟩ k d => ⟨u, h1, h2.kept EStr.kept k d⟩
theorem el_at {α : Type} {els : List (El α)} {xs : List α} (h : els.map El.x = xs) (i : Nat) (hi : i < xs.length) (d : α) : ∃ e, els[i]? = some e ∧ e.x = xs.getD i d := by
  subst h
  rw [List.length_map] at hi
  refine ⟨els[i], List.getElem?_eq_getElem hi, ?_⟩
  simp [hi]
theorem RowM.lay {w : World} {v : Value} {l : List ByteArray} {F : Nat → Prop} (h : RowM 1 EStr w v l F) : (v = .slice none 0 0 ∧ l = []) ∨ ∃ g c, v = .slice (some ⟨g, 0, none⟩) l.length c ∧ l.length ≤ c ∧ F g ∧ LayS w g l l.length := by
  rcases h with h | ⟨g, c, els, h1, h2, h3, h4⟩
  · exact Or.inl h
  · refine Or.inr ⟨g, c, h1, h2, h4.inF, h4.lt, fun i hi => ?_, fun i a b => absurd b (by omega), h4.fz⟩
    obtain ⟨e, he, hx⟩ := el_at h3 i hi ⟨#[]⟩
    have hc := (h4.el e (List.mem_of_getElem? he)).1
    have := h4.cell i e he 0 (.string e.x) (by rw [hc]; rfl)
    rw [hx] at this
    simpa [strAt] using this
theorem RowM.ofLay {w : World} {g c : Nat} {l : List ByteArray} {F : Nat → Prop} (h : LayS w g l l.length) (hF : F g) (hc : l.length ≤ c) : RowM 1 EStr w (.slice (some ⟨g, 0, none⟩) l.length c) l F := by
  refine Or.inr ⟨g, c, l.map fun s => ⟨s, [.string s], fun _ => False⟩, rfl, hc, by rw [List.map_map]; exact List.map_id l, h.1, h.2.2.2, hF, fun i e hi j u hj => ?_, fun e he => ?_, ?_⟩
  · rw [List.getElem?_map, Option.map_eq_some_iff] at hi
    obtain ⟨s, hs, rfl⟩ := hi
    have hi' := (List.getElem?_eq_some_iff.1 hs).1
    have hv := (List.getElem?_eq_some_iff.1 hs).2
    cases j with
    | zero =>
      simp at hj
      subst hj
      have := h.2.1 i hi'
      rw [Nat.mul_one, Nat.add_zero, this]
      simp [strAt, hi', hv]
    | succ j => simp at hj
  · obtain ⟨s, _, rfl⟩ := List.mem_map.1 he
    exact ⟨rfl, rfl, (fun b hb => hb.elim)⟩
  · rw [List.pairwise_iff_getElem]
    intro i j hi hj _ b hb
    simp at hb
theorem RowM.strs {w : World} {v : Value} {l : List ByteArray} {F : Nat → Prop} (h : RowM 1 EStr w v l F) : ∃ a c, v = .slice a l.length c ∧ l.length ≤ c ∧ Strs w a l := by
  rcases h.lay with ⟨h1, h2⟩ | ⟨g, c, h1, h2, _, h3⟩
  · exact ⟨none, 0, by rw [h2]; exact h1, by rw [h2]; exact Nat.le_refl _, Or.inl h2⟩
  · exact ⟨_, c, h1, h2, h3.strs⟩
theorem RowM.parts {w : World} {v : Value} {l : List PD} {F : Nat → Prop} (h : RowM 3 EPart w v l F) : ∃ a c, v = .slice a l.length c ∧ l.length ≤ c ∧ Parts w a l := by
  rcases h with ⟨h1, h2⟩ | ⟨g, c, els, h1, h2, h3, h4⟩
  · exact ⟨none, 0, by rw [h2]; exact h1, by rw [h2]; exact Nat.le_refl _, Or.inl h2⟩
  · refine ⟨_, c, h1, h2, Or.inr ⟨g, 0, rfl, h4.lt, fun i hi => ?_⟩⟩
    obtain ⟨e, he, hx⟩ := el_at h3 i hi noPD
    obtain ⟨u, hc, hu⟩ := (h4.el e (List.mem_of_getElem? he)).1
    have c0 := h4.cell i e he 0 (.string e.x.ty) (by rw [hc]; rfl)
    have c1 := h4.cell i e he 1 (.string e.x.id) (by rw [hc]; rfl)
    have c2 := h4.cell i e he 2 u (by rw [hc]; rfl)
    have hp : partAt l i = e.x := hx.symm
    rw [hp]
    obtain ⟨a, c', hv, hcap, hs⟩ := hu.strs
    rw [hv] at c2
    exact ⟨by simpa using c0, by simpa using c1, a, c', by simpa using c2, hcap, hs⟩
theorem RowM.ofTxs {w : World} {B : Nat} {v : Value} {l : List ByteArray} (h : Txs w B v l) {F : Nat → Prop} (hF : ∀ b, B ≤ b → b < w.heap.size → F b) : RowM 1 EStr w v l F := by
  rcases h.2 with ⟨hn, h0⟩ | ⟨g, cap, cur, h1, h2, h3, h4, _⟩
  · exact Or.inl ⟨hn, List.eq_nil_of_length_eq_zero h0⟩
  · rcases h.lay with ⟨hv, _⟩ | ⟨g2, c2, e2, hg2, hl⟩
    · rw [h1] at hv; cases hv
    · rw [h1] at e2
      injection e2 with e3 e4 e5
      injection e3 with e3
      injection e3 with e3
      subst e3 e5
      subst h1
      exact RowM.ofLay hl (hF g hg2 hl.1) h4
/-! ### Marks -/
def cntP (p : PD) : Nat := 2 + p.cls.length
def mkP (K : Nat) (p : PD) : PD := ⟨markT K, markT (K + 1), markL (K + 2) p.cls.length⟩
def mkPs : Nat → List PD → List PD
  | _, [] => []
  | K, p :: l => mkP K p :: mkPs (K + cntP p) l
def cntPs (l : List PD) : Nat := (l.map cntP).sum
theorem mkPs_len (l : List PD) : ∀ K, (mkPs K l).length = l.length := by
  induction l with
  | nil => intro K; rfl
  | cons p l ih => intro K; simp [mkPs, ih]
theorem mkPs_at (l : List PD) : ∀ K k, k < l.length → (mkPs K l)[k]? = some (mkP (K + cntPs (l.take k)) (partAt l k)) := by
  induction l with
  | nil => intro K k h; simp at h
  | cons p l ih =>
    intro K k h
    cases k with
    | zero => simp [mkPs, cntPs, partAt]
    | succ k =>
      have := ih (K + cntP p) k (by simpa using h)
      simp only [mkPs, List.getElem?_cons_succ, this]
      simp [cntPs, partAt, Nat.add_assoc]
theorem cntPs_step (l : List PD) (k : Nat) (h : k < l.length) : cntPs (l.take (k + 1)) = cntPs (l.take k) + cntP (partAt l k) := by
  unfold cntPs partAt
  rw [List.take_succ_eq_append_getElem h, List.map_append, List.sum_append]
  simp [h]
theorem cntPs_le (l : List PD) (k : Nat) : cntPs (l.take k) ≤ cntPs l := by
  unfold cntPs
  conv => rhs; rw [← List.take_append_drop k l, List.map_append, List.sum_append]
  omega
theorem cntPs_len (l : List PD) : l.length ≤ cntPs l := by
  unfold cntPs
  induction l with
  | nil => simp
  | cons p l ih => simp [cntP]; omega
theorem markSt_any (w : World) (v : Value) (K : Nat) (l : List ByteArray) (F : Nat → Prop) (hl : l.length ≤ 1048576) (hK : 1 ≤ K) (hK2 : K ≤ 50000000) (h : RowM 1 EStr w v l F) :
    Calls Tryd.prog 36 #[v, .int .i64 (K : Int)] w fun e w' => e = .returned (.int .i64 ((K + l.length : Nat) : Int)) ∧ Wr F w w' ∧ RowM 1 EStr w' v (markL K l.length) F := by
  rcases h.lay with ⟨rfl, rfl⟩ | ⟨g, c, rfl, hc, hF, hl2⟩
  · clear h
    go_enter Tryd.func36, Tryd.ntmps36
    go_wp2
    go_loopw [1, 5] (fun x i wr => x = .int .i64 (K : Int) ∧ i = .int .i64 0 ∧ wr = w) (fun _ _ _ => 0)
    case atStart => exact ⟨rfl, rfl, rfl⟩
    case round =>
      obtain ⟨rfl, rfl, rfl⟩ := hrel
      go_wp2
      go_ret
      exact ⟨rfl, Wr.refl _ _, Or.inl ⟨rfl, rfl⟩⟩
  · refine (markS_any w g c K l hl hK hK2 hl2).mono ?_
    rintro e w' ⟨rfl, k1, k2⟩
    refine ⟨rfl, Wr.grown k1 hF, ?_⟩
    have := RowM.ofLay (c := c) (F := F) (w := w') (g := g) (l := markL K l.length) (by rw [markL_len]; exact k2) hF (by rw [markL_len]; exact hc)
    rw [markL_len] at this
    exact this
theorem heldSt_any (w : World) (v : Value) (K n : Nat) (F : Nat → Prop) (hl : n ≤ 1048576) (hK : 1 ≤ K) (hK2 : K ≤ 50000000) (h : RowM 1 EStr w v (markL K n) F) :
    Calls Tryd.prog 37 #[v, .int .i64 (K : Int)] w fun e w' => e = .returned (.int .i64 ((K + n : Nat) : Int)) ∧ Nw w w' := by
  rcases h.lay with ⟨rfl, h0⟩ | ⟨g, c, rfl, hc, hF, hl2⟩
  · have hn : n = 0 := by have := congrArg List.length h0; rw [markL_len] at this; exact this
    subst hn
    clear h h0
    go_enter Tryd.func37, Tryd.ntmps37
    go_wp2
    go_loopw [1, 5] (fun x i wr => x = .int .i64 (K : Int) ∧ i = .int .i64 0 ∧ wr = w) (fun _ _ _ => 0)
    case atStart => exact ⟨rfl, rfl, rfl⟩
    case round =>
      obtain ⟨rfl, rfl, rfl⟩ := hrel
      go_wp2
      go_ret
      exact ⟨rfl, Below.refl _ _⟩
  · rw [markL_len] at *
    exact heldS_any w g c K n hl hK hK2 hl2
end Go.Proofs.YtnkmdmmlpidcmaaDoor
namespace Go.Proofs.YtnkmdmmlpidcmaaDoor
open Go.ChangeShapes Go.WideShapes Go.ChangeAt Go.RowKit
set_option linter.unusedVariables false

theorem wp_rw {α : Type} {E : Els α} (hE : KeptE E) {t ts : TypeId} {n bytes : Nat} {z : Value} (ht : Tryd.prog.underlying ts = some (.slice t)) (hinfo : (Tryd.prog.info? t).map (fun i => (i.zero, i.size, i.bytes)) = some (some z, n, bytes)) (hz : z.cells.size = n) (hn : 0 < n) (hby : bytes ≤ 1000)
    {ops : Array Oper} {rest : List Oper} {o : Oper} {a : Act} {Q : Exit → Act → World → Prop} (w0 w : World) (hgd : o.guard = none) (s x : Operand)
    (ho : o.op = .call { callee := .builtin .append, args := #[s, x], argTypes := #[ts, ts] }) (B : Nat) (v : Value) (els : List (El α)) (hs : a.eval s = v) (h0 : RowO t n E w0 B v els) (k : Nw w0 w) (hB : B ≤ w0.heap.size)
    (g : Nat) (hx : a.eval x = .slice (some ⟨g, 0, none⟩) 1 1) (y : α) (cs : List Value) (hc : ∀ j u, cs[j]? = some u → w.cell? ⟨g, j, none⟩ = some u) (hcs : cs.length = n) (h1 : ∀ u ∈ cs, u.oneCell' = true) (hy : E w cs y (iv w0 w)) (hl : els.length ≤ 10000000)
    (h : ∀ v' w', RowO t n E w' B v' (els ++ [⟨y, cs, iv w0 w⟩]) → Ext v v' w w' → wpList Tryd.prog ops Q rest (a.put o.dst v') w') : wpList Tryd.prog ops Q (o :: rest) a w := by
  obtain ⟨i0, hi, hzz'⟩ := Option.map_eq_some_iff.1 hinfo
  simp only [Prod.mk.injEq] at hzz'
  obtain ⟨hz0, hz1, hz2⟩ := hzz'
  have hB2 : B ≤ w.heap.size := Nat.le_trans hB (Below.size k)
  have hmul : (els.length + 1) * bytes ≤ 140737488355328 := by
    have : (els.length + 1) * bytes ≤ 10000001 * 1000 := Nat.mul_le_mul (by omega) hby
    omega
  refine wpList_append_own_at w hgd s x ts ho B t i0 z n bytes ht hi hz0 hz1 hz2 hz hn v els.length (els.flatMap (·.cs)) hs (h0.nw hE k).own ⟨g, 0, none⟩ 1 1 cs hx (by rw [Nat.one_mul]; exact hcs) (fun j u hj => by rw [add_at, Nat.zero_add]; exact hc j u hj) h1 (by unfold maxLen; omega) hmul hB2 ?_
  intro v' w' h2 h3 _ h5
  have hext : Ext v v' w w' := ⟨h3, h5.imp id fun e => ⟨_, e, Nat.le_refl _⟩⟩
  exact h v' w' (RowO.put hE h0 k hB hy hcs h2 hext) hext
theorem iv_mono {w w1 w2 : World} (h : w1.heap.size ≤ w2.heap.size) : ∀ b, iv w w1 b → iv w w2 b := fun b hb => ⟨hb.1, Nat.lt_of_lt_of_le hb.2 h⟩
theorem iv_low {w0 w w1 : World} (h : w0.heap.size ≤ w.heap.size) : ∀ b, iv w w1 b → iv w0 w1 b := fun b hb => ⟨Nat.le_trans h hb.1, hb.2⟩
end Go.Proofs.YtnkmdmmlpidcmaaDoor
namespace Go.Proofs.YtnkmdmmlpidcmaaDoor
open Go.ChangeShapes Go.WideShapes Go.ChangeAt Go.RowKit
set_option linter.unusedVariables false

theorem ins_parts : ∃ i, Tryd.prog.info? 3 = some i ∧ i.zero = some (.int .i64 0) ∧ i.size = 1 ∧ i.bytes = 8 := by
  have h : (Tryd.prog.info? 3).map (fun i => (i.zero, i.size, i.bytes)) = some (some (.int .i64 0), 1, 8) := by kernel_rfl
  obtain ⟨i, hi, hzz⟩ := Option.map_eq_some_iff.1 h
  simp only [Prod.mk.injEq] at hzz
  exact ⟨i, hi, hzz⟩
/-- The numbers l in a list of the call's own, nil or in a block from B on. -/
def Ins (w : World) (B : Nat) (v : Value) (l : List Int) : Prop := w.ownsRow B 3 1 v l.length (l.map (Value.int .i64))
theorem Ins.nil (w : World) (B : Nat) : Ins w B (.slice none 0 0) [] := World.ownsRow_nil w B _ 1
theorem Ins.nw {w w' : World} {B : Nat} {v : Value} {l : List Int} (h : Ins w B v l) (k : Nw w w') : Ins w' B v l :=
  World.ownsRow.kept h (row := none) ⟨Below.os k, Below.tape k, Below.output k, Below.size k, fun b hb _ => Below.block k b hb⟩ (by cases hv : v.ownBlock <;> simp)
theorem Ins.below {w w' : World} {B : Nat} {v v' : Value} {l : List Int} (h : Ins w B v l) (k : Ext v v' w w') (hB : B ≤ w.heap.size) : Below B w w' :=
  k.below (fun g e => (World.ownsRow.lt h g e).1) hB
def intAt (l : List Int) (i : Nat) : Int := l.getD i 0
/-- The numbers l lie in the block g. -/
def LayI (w : World) (g : Nat) (l : List Int) : Prop :=
  g < w.heap.size ∧ (∀ i, i < l.length → w.cell? ⟨g, i, none⟩ = some (.int .i64 (intAt l i))) ∧ ∀ o, w.frozen? ⟨g, o, none⟩ = false
theorem LayI.nw {w w' : World} {g : Nat} {l : List Int} (h : LayI w g l) (k : Nw w w') : LayI w' g l :=
  ⟨Nat.lt_of_lt_of_le h.1 (Below.size k), fun i hi => ((bcell k).1 _ _ h.1).trans (h.2.1 i hi), fun o => ((bcell k).2 _ _ h.1).trans (h.2.2 o)⟩
/-- Where they lie. -/
theorem Ins.lay {w : World} {B : Nat} {v : Value} {l : List Int} (h : Ins w B v l) : (v = .slice none 0 0 ∧ l = []) ∨ ∃ g c, v = .slice (some ⟨g, 0, none⟩) l.length c ∧ B ≤ g ∧ LayI w g l := by
  rcases h.2 with ⟨hn, h0⟩ | ⟨g, cap, cur, h1, h2, h3⟩
  · exact Or.inl ⟨hn, List.eq_nil_of_length_eq_zero h0⟩
  · refine Or.inr ⟨g, cap, h1, h2, ?_⟩
    subst h1
    refine ⟨(World.ownsRow.lt h g rfl).2, fun i hi => ?_, fun o => World.ownsRow.frozenAt h o⟩
    have := World.ownsRow.cellAt h i (by omega)
    rw [this]
    simp [intAt, hi]
/-- Nil, or a block of its own. -/
def Lay0 (w : World) (B : Nat) (v : Value) (l : List Int) : Prop := (v = .slice none 0 0 ∧ l = []) ∨ ∃ g c, v = .slice (some ⟨g, 0, none⟩) l.length c ∧ B ≤ g ∧ LayI w g l
/-- A number is appended. -/
theorem wp_in (w : World) {ops : Array Oper} {rest : List Oper} {o : Oper} {a : Act} {Q : Exit → Act → World → Prop} (hgd : o.guard = none) (s x : Operand)
    (ho : o.op = .call { callee := .builtin .append, args := #[s, x], argTypes := #[110, 110] })
    (B : Nat) (v : Value) (l : List Int) (t : Int) (hs : a.eval s = v) (hown : Ins w B v l) (g : Nat) (hx : a.eval x = .slice (some ⟨g, 0, none⟩) 1 1) (hc : w.cell? ⟨g, 0, none⟩ = some (.int .i64 t))
    (h63 : l.length ≤ 10000000) (hB : B ≤ w.heap.size)
    (h : ∀ v' w', Ins w' B v' (l ++ [t]) → Ext v v' w w' → wpList Tryd.prog ops Q rest (a.put o.dst v') w') : wpList Tryd.prog ops Q (o :: rest) a w := by
  obtain ⟨i0, hi, hz0, hz1, hz2⟩ := ins_parts
  refine wpList_append_own_at w hgd s x 110 ho B 3 i0 (.int .i64 0) 1 8 Tryd.underlying110 hi hz0 hz1 hz2 rfl (by decide) v l.length (l.map (Value.int .i64)) hs hown ⟨g, 0, none⟩ 1 1 [.int .i64 t] hx rfl (fun j u hj => ?_) (fun u hu => ?_) (by unfold maxLen; omega) (by omega) hB ?_
  · cases j with
    | zero => simp at hj; subst hj; simpa [Addr.add] using hc
    | succ j => simp at hj
  · simp at hu; subst hu; rfl
  · intro v' w' h1 h2 _ h4
    refine h v' w' ?_ ⟨h2, h4.imp id fun e => ⟨_, e, Nat.le_refl _⟩⟩
    unfold Ins
    rw [List.length_append, List.map_append]
    exact h1
end Go.Proofs.YtnkmdmmlpidcmaaDoor
