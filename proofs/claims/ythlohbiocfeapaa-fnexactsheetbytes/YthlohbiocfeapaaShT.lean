/-
  Sheets: what the laws' helpers do that measure one, copy it, hold two against each other, mark one and look for the marks; each theorem names its conditions.
-/
import Derived.Test.YthlohbiocfeapaaTnT
import Derived.Test.YthlohbiocfeapaaMskB
namespace Go.Proofs.Ythlohbiocfeapaa
open Go.ChangeShapes Go.WideShapes Go.ChangeAt Go.RowKit
set_option linter.unusedVariables false

/-- The tints l lie in the block g, which may be written. -/
def LayS (w : World) (g : Nat) (l : List Edg) : Prop := LayQ w g l l.length
theorem LayS.nw {w w' : World} {g : Nat} {l : List Edg} (h : LayS w g l) (k : Nw w w') : LayS w' g l := LayQ.nw h k
theorem LayS.edgs {w : World} {g : Nat} {l : List Edg} (h : LayS w g l) : Edgs w (some ⟨g, 0, none⟩) l := LayQ.edgs h
theorem LayS.row {w : World} {g c : Nat} {l : List Edg} (h : LayS w g l) : RowQ w (.slice (some ⟨g, 0, none⟩) l.length c) l := LayQ.row h
theorem LayS.lt {w : World} {g : Nat} {l : List Edg} (h : LayS w g l) : g < w.heap.size := h.1
theorem szSheet_any (w : World) (p : MD) (a : Option Addr) (n c : Nat) (left : Int) (h0 : 0 ≤ left) (h1 : left ≤ 1048576) (hm : n ≤ maxLen) :
    Calls Try.prog 40 #[mskV p (.slice a n c), .int .i64 left] w fun e w' => e = .returned (.int .i64 (if (n : Int) ≤ left then left - (n : Int) else -1)) ∧ Nw w w' := by
  have HZ : Hid _ := fun w => szTintS_any w a n c left h0 h1 hm
  clear hm
  obtain ⟨pw, ph⟩ := p
  by_cases c1 : (n : Int) ≤ left
  · rw [if_pos c1] at HZ ⊢
    go_enter Try.func40, Try.ntmps40
    go_wp2_with fail
    refine Calls.mono (HZ.out _) ?_
    rintro e w1 ⟨rfl, rfl⟩
    go_wp2
    go_ret
    exact ⟨rfl, (Below.refl _ _).alloc (Nat.le_refl _) _⟩
  · rw [if_neg c1] at HZ ⊢
    go_enter Try.func40, Try.ntmps40
    go_wp2_with fail
    refine Calls.mono (HZ.out _) ?_
    rintro e w1 ⟨rfl, rfl⟩
    go_wp2
    go_ret
    exact ⟨rfl, (Below.refl _ _).alloc (Nat.le_refl _) _⟩
set_option maxRecDepth 100000 in
set_option maxHeartbeats 4000000 in
theorem toSheet_any (w : World) (p : MD) (a : Option Addr) (c : Nat) (l : List Edg) (hm : l.length ≤ 1048576) (hr : Edgs w a l) :
    Calls Try.prog 42 #[mskV p (.slice a l.length c)] w fun e w' => ∃ g, e = .returned (mskV p (.slice (some ⟨g, 0, none⟩) l.length l.length)) ∧ Nw w w' ∧ w.heap.size ≤ g ∧ LayS w' g l := by
  obtain ⟨pw, ph⟩ := p
  unfold mskV
  simp only
  have HR : ∀ o1 o2 o3, Hid (Edgs (((w.alloc o1).alloc o2).alloc o3) a l) := fun o1 o2 o3 => hr.nw ((((Below.refl _ _).alloc (Nat.le_refl _) _).alloc (by simp) _).alloc (by simp; omega) _)
  clear hr
  go_enter Try.func42, Try.ntmps42
  go_wp2_with (go_at_call 91; refine (toTintS_any _ a c l hm (HR _ _ _).out).mono ?_; rintro e w' ⟨rfl, k1, k2⟩; obtain ⟨hc, hf⟩ := bcell k1)
  have K0 : Below w.heap.size w w' := Below.trans ((((Below.refl _ _).alloc (Nat.le_refl _) _).alloc (by simp) _).alloc (by simp; omega) _) (Below.mono k1 (by simp; omega))
  have hz : w.heap.size + 1 + 1 + 1 < w'.heap.size := by have := k2.1; simpa using this
  have K2 : LayQ w' (w.heap.size + 1 + 1 + 1) l l.length := by simpa using k2
  clear k1 k2
  refine bodyPost_ret (v := .agg #[.int .i64 pw, .int .i64 ph, .slice (some ⟨w.heap.size + 1 + 1 + 1, 0, none⟩) l.length l.length]) (by simp [results, Try.results42, go_sem, hc]) rfl ⟨w.heap.size + 1 + 1 + 1, rfl, ?_, by omega, ?_⟩
  · exact (((K0.setCell (by first | (simp; done) | (simp; omega)) _).setCell (by first | (simp; done) | (simp; omega)) _).setCell (by simp) _).setCell (by simp) _
  · exact (((K2.off _ _ _ (by omega)).off _ _ _ (by omega)).off _ _ _ (by omega)).off _ _ _ (by omega)
set_option maxRecDepth 100000 in
set_option maxHeartbeats 4000000 in
theorem eqSheet_any (w : World) (p : MD) (v1 v2 : Value) (l : List Edg) (hl : l.length ≤ 1048576) (h1 : RowQ w v1 l) (h2 : RowQ w v2 l) :
    Calls Try.prog 37 #[mskV p v1, mskV p v2] w fun e w' => e = .returned (.bool true) ∧ Nw w w' := by
  obtain ⟨a1, c1, rfl, p1⟩ := h1
  obtain ⟨a2, c2, rfl, p2⟩ := h2
  have h1 : RowQ w (.slice a1 l.length c1) l := ⟨_, _, rfl, p1⟩
  have h2 : RowQ w (.slice a2 l.length c2) l := ⟨_, _, rfl, p2⟩
  clear p1 p2
  obtain ⟨pw, ph⟩ := p
  unfold mskV
  simp only
  generalize l.length = n at h1 h2 ⊢
  have n1 : ∀ o1 o2, Nw w ((w.alloc o1).alloc o2) := fun o1 o2 => ((Below.refl _ _).alloc (Nat.le_refl _) _).alloc (by simp) _
  have HE : Hid (∀ o1 o2, _) := fun o1 o2 => eqTintS_any ((w.alloc o1).alloc o2) _ _ l hl (h1.nw (n1 o1 o2)) (h2.nw (n1 o1 o2))
  clear h1 h2
  have e1 : (pw != pw) = false := by simp
  have e2 : (ph != ph) = false := by simp
  go_enter Try.func37, Try.ntmps37
  go_wp2_with fail
  refine Calls.mono (HE.out _ _) ?_
  rintro e w1 ⟨rfl, k1⟩
  have K1 : Hid (Nw w w1) := Nw.trans (n1 _ _) k1
  clear k1 n1 HE
  go_wp2
  go_ret
  exact ⟨rfl, K1.out⟩
/-- Numbers that may be written: nil, or in a block of their own. -/
def NumQ (w : World) (v : Value) (l : List Edg) : Prop := (v = .slice none 0 0 ∧ l = []) ∨ ∃ g c, v = .slice (some ⟨g, 0, none⟩) l.length c ∧ LayQ w g l l.length
theorem NumQ.nw {w w' : World} {v : Value} {l : List Edg} (h : NumQ w v l) (k : Nw w w') : NumQ w' v l := by
  rcases h with h | ⟨g, c, h1, h2⟩
  · exact Or.inl h
  · exact Or.inr ⟨g, c, h1, h2.nw k⟩
theorem NumQ.row {w : World} {v : Value} {l : List Edg} (h : NumQ w v l) : RowQ w v l := by
  rcases h with ⟨rfl, rfl⟩ | ⟨g, c, h1, h2⟩
  · exact ⟨none, 0, rfl, Or.inl rfl⟩
  · rw [h1]; exact h2.row
theorem NumQ.own {w : World} {v : Value} {l : List Edg} (h : NumQ w v l) {b : Nat} (hb : v.ownBlock = some b) : b < w.heap.size := by
  rcases h with ⟨rfl, _⟩ | ⟨g, c, rfl, h2⟩
  · cases hb
  · have : g = b := by simpa [Value.ownBlock] using hb
    rw [← this]; exact h2.1
theorem OwnE.num {T : TypeId} {w : World} {B : Nat} {v : Value} {l : List Edg} (h : OwnE T w B v l) : NumQ w v l := by
  have h0 := h
  unfold OwnE at h0
  rcases h.2 with ⟨hn, h1⟩ | ⟨g, cap, cur, h1, h2, h3, h4, h5, h6, h7⟩
  · exact Or.inl ⟨hn, List.eq_nil_of_length_eq_zero h1⟩
  · subst h1
    refine Or.inr ⟨g, cap, rfl, (h.lt g rfl).2, fun i hi => ?_, fun i a b => absurd b (by omega), fun o => World.ownsRow.frozenAt h0 o⟩
    obtain ⟨e0, e1, e2, e3⟩ := flat4_at l i hi
    rw [World.ownsRow.cellAt h0 (i * 4) (by omega), World.ownsRow.cellAt h0 (i * 4 + 1) (by omega), World.ownsRow.cellAt h0 (i * 4 + 2) (by omega), World.ownsRow.cellAt h0 (i * 4 + 3) (by omega)]
    exact ⟨e0, e1, e2, e3⟩
theorem LayS.num {w : World} {g : Nat} {l : List Edg} (h : LayS w g l) : NumQ w (.slice (some ⟨g, 0, none⟩) l.length l.length) l := Or.inr ⟨g, _, rfl, h⟩
theorem LayQ.grown {w w' : World} {g k : Nat} {l : List Edg} {r : Option Nat} (h : LayQ w g l k) (q : w.grownBy w' r) (hne : some g ≠ r) : LayQ w' g l k := by
  have e := fun o => World.cell?_of_block (w := w) (w' := w') (a := ⟨g, o, none⟩) (q.block g h.1 hne)
  have f := fun o => World.frozen?_of_block (w := w) (w' := w') (a := ⟨g, o, none⟩) (q.block g h.1 hne)
  exact ⟨Nat.lt_of_lt_of_le h.1 q.size, fun i hi => by rw [e, e, e, e]; exact h.2.1 i hi, fun i a b => by rw [e, e, e, e]; exact h.2.2.1 i a b, fun o => (f o).trans (h.2.2.2 o)⟩
theorem LayS.grown {w w' : World} {g : Nat} {l : List Edg} {r : Option Nat} (h : LayS w g l) (q : w.grownBy w' r) (hne : some g ≠ r) : LayS w' g l := LayQ.grown h q hne
theorem NumQ.grown {w w' : World} {v : Value} {l : List Edg} {r : Option Nat} (h : NumQ w v l) (k : w.grownBy w' r) (hne : ∀ b, v.ownBlock = some b → some b ≠ r) : NumQ w' v l := by
  rcases h with h | ⟨g, c, h1, h2⟩
  · exact Or.inl h
  · exact Or.inr ⟨g, c, h1, h2.grown k (hne g (by rw [h1]; rfl))⟩
set_option maxHeartbeats 1000000 in
theorem markSh_any (w : World) (p : MD) (v : Value) (l : List Edg) (K : Nat) (hl : l.length ≤ 1048576) (hK : K ≤ 50000000) (h : NumQ w v l) :
    Calls Try.prog 38 #[mskV p v, .int .i64 (K : Int)] w fun e w' => e = .returned (.int .i64 ((K + 4 * l.length : Nat) : Int)) ∧ w.grownBy w' v.ownBlock ∧ NumQ w' v (mkQ K l.length) := by
  obtain ⟨pw, ph⟩ := p
  unfold mskV
  simp only
  rcases h with ⟨rfl, rfl⟩ | ⟨g, c, rfl, h⟩
  · have HM : Hid _ := fun w => markQ_nil w K hK
    go_enter Try.func38, Try.ntmps38
    go_wp2_with fail
    refine Calls.mono (HM.out _) ?_
    rintro e w1 ⟨rfl, rfl⟩
    go_wp2
    go_ret
    exact ⟨rfl, gr_alloc1 _, Or.inl ⟨rfl, rfl⟩⟩
  · have HM : Hid (∀ o, _) := fun o => markQ_any (w.alloc o) g c K l.length hl hK (LayQ.any (h.nw ((Below.refl _ _).alloc (Nat.le_refl _) _)))
    have HG : Hid (g < w.heap.size) := h.1
    clear h
    generalize l.length = n at *
    generalize ((K + 4 * n : Nat) : Int) = Z at *
    go_enter Try.func38, Try.ntmps38
    go_wp2_with fail
    refine Calls.mono (HM.out _) ?_
    rintro e w1 ⟨rfl, k1, l1⟩
    have HK : Hid _ := k1
    have HL : Hid _ := l1
    clear k1 l1
    go_wp2
    go_ret
    exact ⟨rfl, gr_trans (gr_alloc1 _) HK.out, Or.inr ⟨g, c, by rw [mkQ_len], by rw [mkQ_len]; exact HL.out⟩⟩
set_option maxHeartbeats 1000000 in
theorem heldSh_any (w : World) (p : MD) (v : Value) (n K : Nat) (hl : n ≤ 1048576) (hK : K ≤ 50000000) (h : NumQ w v (mkQ K n)) :
    Calls Try.prog 39 #[mskV p v, .int .i64 (K : Int)] w fun e w' => e = .returned (.int .i64 ((K + 4 * n : Nat) : Int)) ∧ Nw w w' := by
  obtain ⟨pw, ph⟩ := p
  unfold mskV
  simp only
  rcases h with ⟨rfl, hn⟩ | ⟨g, c, rfl, h⟩
  · have hn0 : n = 0 := by have := congrArg List.length hn; rw [mkQ_len] at this; simpa using this
    subst hn0
    have HM : Hid _ := fun w => heldQ_nil w K hK
    have hd : decide ((K : Int) < 0) = false := decide_eq_false (by omega)
    clear hn
    go_enter Try.func39, Try.ntmps39
    go_wp2_with fail
    refine Calls.mono (HM.out _) ?_
    rintro e w1 ⟨rfl, rfl⟩
    go_wp2
    go_ret
    exact ⟨rfl, (Below.refl _ _).alloc (Nat.le_refl _) _⟩
  · have HM : Hid (∀ o, _) := fun o => heldQ_any (w.alloc o) g c K n hl hK (by rw [mkQ_len] at h; exact h.nw ((Below.refl _ _).alloc (Nat.le_refl _) _))
    clear h
    rw [mkQ_len]
    have hz : (0 : Int) ≤ ((K + 4 * n : Nat) : Int) := by omega
    have hz2 : ((K + 4 * n : Nat) : Int) ≤ 100000000 := by omega
    generalize ((K + 4 * n : Nat) : Int) = Z at *
    have hd : decide (Z < 0) = false := decide_eq_false (by omega)
    go_enter Try.func39, Try.ntmps39
    go_wp2_with fail
    refine Calls.mono (HM.out _) ?_
    rintro e w1 ⟨rfl, rfl⟩
    go_wp2
    go_ret
    exact ⟨rfl, (Below.refl _ _).alloc (Nat.le_refl _) _⟩
end Go.Proofs.Ythlohbiocfeapaa
