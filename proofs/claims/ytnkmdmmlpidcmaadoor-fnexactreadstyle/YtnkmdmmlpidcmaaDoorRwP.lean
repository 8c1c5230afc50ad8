/-
  Rows of texts and of parts with memory of their own, and marks in them; each theorem names its conditions.
-/
import Derived.Test.YtnkmdmmlpidcmaaDoorRw
import Derived.Test.YtnkmdmmlpidcmaaDoorMarkS
import Derived.Test.YtnkmdmmlpidcmaaDoorPsS
namespace Go.Proofs.YtnkmdmmlpidcmaaDoor
open Go.ChangeShapes Go.WideShapes Go.ChangeAt Go.RowKit
set_option linter.unusedVariables false

def EStr : Els ByteArray := fun _ cs x _ => cs = [.string x]
theorem EStr.kept : KeptE EStr := fun w w' cs x F G h _ _ => h
def EPart : Els PD := fun w cs p F => ∃ u, cs = [.string p.ty, .string p.id, u] ∧ RowM 1 EStr w u p.cls F
theorem EPart.kept : KeptE EPart := fun w w' cs x F G ⟨u, h1, h2⟩ k d => ⟨u, h1, h2.kept EStr.kept k d⟩
theorem el_at {α : Type} {els : List (El α)} {xs : List α} (h : els.map El.x = xs) (i : Nat) (hi : i < xs.length) (d : α) : ∃ e, els[i]? = some e ∧ e.x = xs.getD i d := by
  subst h
  rw [List.length_map] at hi
  refine ⟨els[i], List.getElem?_eq_getElem hi, ?_⟩
  simp [hi]
theorem RowM.lay {w : World} {v : Value} {l : List ByteArray} {F : Nat → Prop} (h : RowM 1 EStr w v l F) : (v = .slice none 0 0 ∧ l = []) ∨ ∃ g c, v = .slice (some ⟨g, 0, none⟩) l.length c ∧ l.length ≤ c ∧ F g ∧ LayS w g l l.length := by
  rcases h with h | ⟨g, c, els, h1, h2, h3, h4⟩
  · exact Or.inl h
  · refine Or.inr ⟨g, c, h1, h2, h4.inF, h4.lt, fun i hi => ?_, fun i a b => absurd b (by omega), h4.fz⟩
    obtain ⟨e, he, hx⟩ := el_at h3 i hi ⟨#[]⟩
    have hc := (h4.el e (List.mem_of_getElem? he)).1
    have := h4.cell i e he 0 (.string e.x) (by rw [hc]; rfl)
    rw [hx] at this
    simpa [strAt] using this
theorem RowM.ofLay {w : World} {g c : Nat} {l : List ByteArray} {F : Nat → Prop} (h : LayS w g l l.length) (hF : F g) (hc : l.length ≤ c) : RowM 1 EStr w (.slice (some ⟨g, 0, none⟩) l.length c) l F := by
  refine Or.inr ⟨g, c, l.map fun s => ⟨s, [.string s], fun _ => False⟩, rfl, hc, by rw [List.map_map]; exact List.map_id l, h.1, h.2.2.2, hF, fun i e hi j u hj => ?_, fun e he => ?_, ?_⟩
  · rw [List.getElem?_map, Option.map_eq_some_iff] at hi
    obtain ⟨s, hs, rfl⟩ := hi
    have hi' := (List.getElem?_eq_some_iff.1 hs).1
    have hv := (List.getElem?_eq_some_iff.1 hs).2
    cases j with
    | zero =>
      simp at hj
      subst hj
      have := h.2.1 i hi'
      rw [Nat.mul_one, Nat.add_zero, this]
      simp [strAt, hi', hv]
    | succ j => simp at hj
  · obtain ⟨s, _, rfl⟩ := List.mem_map.1 he
    exact ⟨rfl, rfl, (fun b hb => hb.elim)⟩
  · rw [List.pairwise_iff_getElem]
    intro i j hi hj _ b hb
    simp at hb
theorem RowM.strs {w : World} {v : Value} {l : List ByteArray} {F : Nat → Prop} (h : RowM 1 EStr w v l F) : ∃ a c, v = .slice a l.length c ∧ l.length ≤ c ∧ Strs w a l := by
  rcases h.lay with ⟨h1, h2⟩ | ⟨g, c, h1, h2, _, h3⟩
  · exact ⟨none, 0, by rw [h2]; exact h1, by rw [h2]; exact Nat.le_refl _, Or.inl h2⟩
  · exact ⟨_, c, h1, h2, h3.strs⟩
theorem RowM.parts {w : World} {v : Value} {l : List PD} {F : Nat → Prop} (h : RowM 3 EPart w v l F) : ∃ a c, v = .slice a l.length c ∧ l.length ≤ c ∧ Parts w a l := by
  rcases h with ⟨h1, h2⟩ | ⟨g, c, els, h1, h2, h3, h4⟩
  · exact ⟨none, 0, by rw [h2]; exact h1, by rw [h2]; exact Nat.le_refl _, Or.inl h2⟩
  · refine ⟨_, c, h1, h2, Or.inr ⟨g, 0, rfl, h4.lt, fun i hi => ?_⟩⟩
    obtain ⟨e, he, hx⟩ := el_at h3 i hi noPD
    obtain ⟨u, hc, hu⟩ := (h4.el e (List.mem_of_getElem? he)).1
    have c0 := h4.cell i e he 0 (.string e.x.ty) (by rw [hc]; rfl)
    have c1 := h4.cell i e he 1 (.string e.x.id) (by rw [hc]; rfl)
    have c2 := h4.cell i e he 2 u (by rw [hc]; rfl)
    have hp : partAt l i = e.x := hx.symm
    rw [hp]
    obtain ⟨a, c', hv, hcap, hs⟩ := hu.strs
    rw [hv] at c2
    exact ⟨by simpa using c0, by simpa using c1, a, c', by simpa using c2, hcap, hs⟩
theorem RowM.ofTxs {w : World} {B : Nat} {v : Value} {l : List ByteArray} (h : Txs w B v l) {F : Nat → Prop} (hF : ∀ b, B ≤ b → b < w.heap.size → F b) : RowM 1 EStr w v l F := by
  rcases h.2 with ⟨hn, h0⟩ | ⟨g, cap, cur, h1, h2, h3, h4, _⟩
  · exact Or.inl ⟨hn, List.eq_nil_of_length_eq_zero h0⟩
  · rcases h.lay with ⟨hv, _⟩ | ⟨g2, c2, e2, hg2, hl⟩
    · rw [h1] at hv; cases hv
    · rw [h1] at e2
      injection e2 with e3 e4 e5
      injection e3 with e3
      injection e3 with e3
      subst e3 e5
      subst h1
      exact RowM.ofLay hl (hF g hg2 hl.1) h4
/-! ### Marks -/
def cntP (p : PD) : Nat := 2 + p.cls.length
def mkP (K : Nat) (p : PD) : PD := ⟨markT K, markT (K + 1), markL (K + 2) p.cls.length⟩
def mkPs : Nat → List PD → List PD
  | _, [] => []
  | K, p :: l => mkP K p :: mkPs (K + cntP p) l
def cntPs (l : List PD) : Nat := (l.map cntP).sum
theorem mkPs_len (l : List PD) : ∀ K, (mkPs K l).length = l.length := by
  induction l with
  | nil => intro K; rfl
  | cons p l ih => intro K; simp [mkPs, ih]
theorem mkPs_at (l : List PD) : ∀ K k, k < l.length → (mkPs K l)[k]? = some (mkP (K + cntPs (l.take k)) (partAt l k)) := by
  induction l with
  | nil => intro K k h; simp at h
  | cons p l ih =>
    intro K k h
    cases k with
    | zero => simp [mkPs, cntPs, partAt]
    | succ k =>
      have := ih (K + cntP p) k (by simpa using h)
      simp only [mkPs, List.getElem?_cons_succ, this]
      simp [cntPs, partAt, Nat.add_assoc]
theorem cntPs_step (l : List PD) (k : Nat) (h : k < l.length) : cntPs (l.take (k + 1)) = cntPs (l.take k) + cntP (partAt l k) := by
  unfold cntPs partAt
  rw [List.take_succ_eq_append_getElem h, List.map_append, List.sum_append]
  simp [h]
theorem cntPs_le (l : List PD) (k : Nat) : cntPs (l.take k) ≤ cntPs l := by
  unfold cntPs
  conv => rhs; rw [← List.take_append_drop k l, List.map_append, List.sum_append]
  omega
theorem cntPs_len (l : List PD) : l.length ≤ cntPs l := by
  unfold cntPs
  induction l with
  | nil => simp
  | cons p l ih => simp [cntP]; omega
theorem markSt_any (w : World) (v : Value) (K : Nat) (l : List ByteArray) (F : Nat → Prop) (hl : l.length ≤ 1048576) (hK : 1 ≤ K) (hK2 : K ≤ 50000000) (h : RowM 1 EStr w v l F) :
    Calls Tryd.prog 36 #[v, .int .i64 (K : Int)] w fun e w' => e = .returned (.int .i64 ((K + l.length : Nat) : Int)) ∧ Wr F w w' ∧ RowM 1 EStr w' v (markL K l.length) F := by
  rcases h.lay with ⟨rfl, rfl⟩ | ⟨g, c, rfl, hc, hF, hl2⟩
  · clear h
    go_enter Tryd.func36, Tryd.ntmps36
    go_wp2
    go_loopw [1, 5] (fun x i wr => x = .int .i64 (K : Int) ∧ i = .int .i64 0 ∧ wr = w) (fun _ _ _ => 0)
    case atStart => exact ⟨rfl, rfl, rfl⟩
    case round =>
      obtain ⟨rfl, rfl, rfl⟩ := hrel
      go_wp2
      go_ret
      exact ⟨rfl, Wr.refl _ _, Or.inl ⟨rfl, rfl⟩⟩
  · refine (markS_any w g c K l hl hK hK2 hl2).mono ?_
    rintro e w' ⟨rfl, k1, k2⟩
    refine ⟨rfl, Wr.grown k1 hF, ?_⟩
    have := RowM.ofLay (c := c) (F := F) (w := w') (g := g) (l := markL K l.length) (by rw [markL_len]; exact k2) hF (by rw [markL_len]; exact hc)
    rw [markL_len] at this
    exact this
theorem heldSt_any (w : World) (v : Value) (K n : Nat) (F : Nat → Prop) (hl : n ≤ 1048576) (hK : 1 ≤ K) (hK2 : K ≤ 50000000) (h : RowM 1 EStr w v (markL K n) F) :
    Calls Tryd.prog 37 #[v, .int .i64 (K : Int)] w fun e w' => e = .returned (.int .i64 ((K + n : Nat) : Int)) ∧ Nw w w' := by
  rcases h.lay with ⟨rfl, h0⟩ | ⟨g, c, rfl, hc, hF, hl2⟩
  · have hn : n = 0 := by have := congrArg List.length h0; rw [markL_len] at this; exact this
    subst hn
    clear h h0
    go_enter Tryd.func37, Tryd.ntmps37
    go_wp2
    go_loopw [1, 5] (fun x i wr => x = .int .i64 (K : Int) ∧ i = .int .i64 0 ∧ wr = w) (fun _ _ _ => 0)
    case atStart => exact ⟨rfl, rfl, rfl⟩
    case round =>
      obtain ⟨rfl, rfl, rfl⟩ := hrel
      go_wp2
      go_ret
      exact ⟨rfl, Below.refl _ _⟩
  · rw [markL_len] at *
    exact heldS_any w g c K n hl hK hK2 hl2
end Go.Proofs.YtnkmdmmlpidcmaaDoor
