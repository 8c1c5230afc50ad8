/-
  Pens: what the laws' helpers do that measure one, copy it and hold two against each other; each theorem names its conditions.
-/
import Derived.Test.YtolpiapkmlbccaaIsT
import Derived.Test.YtolpiapkmlbccaaIn
namespace Go.Proofs.Ytolpiapkmlbccaa
open Go.ChangeShapes Go.WideShapes Go.ChangeAt Go.RowKit
set_option linter.unusedVariables false

/-- A pen's numbers beside its dash. -/
structure PD where
  w : Int
  j : Int
  c : Int
  f : Int
abbrev penV (p : PD) (v : Value) : Value := .agg #[.int .i64 p.w, .int .i64 p.j, .int .i64 p.c, v, .int .i64 p.f]
abbrev penC (p : PD) (v : Value) : Array Value := #[.int .i64 p.w, .int .i64 p.j, .int .i64 p.c, v, .int .i64 p.f]
/-- A pen in a block. -/
structure PB (w : World) (b : Nat) (p : PD) (v : Value) : Prop where
  c0 : w.cell? ⟨b, 0, none⟩ = some (.int .i64 p.w)
  c1 : w.cell? ⟨b, 1, none⟩ = some (.int .i64 p.j)
  c2 : w.cell? ⟨b, 2, none⟩ = some (.int .i64 p.c)
  c3 : w.cell? ⟨b, 3, none⟩ = some v
  c4 : w.cell? ⟨b, 4, none⟩ = some (.int .i64 p.f)
theorem PB.nw {w w' : World} {b : Nat} {p : PD} {v : Value} (h : PB w b p v) (k : Nw w w') : PB w' b p v := by
  have e : ∀ o, w'.cell? ⟨b, o, none⟩ = w.cell? ⟨b, o, none⟩ := fun o => (bcell k).1 _ _ (World.block_lt_of_cell? w ⟨b, 0, none⟩ h.c0)
  exact ⟨(e _).trans h.c0, (e _).trans h.c1, (e _).trans h.c2, (e _).trans h.c3, (e _).trans h.c4⟩
theorem PB.new (w : World) (p : PD) (v : Value) (t : TypeId) : PB (w.alloc (.cells (penC p v) t)) w.heap.size p v := by
  refine ⟨?_, ?_, ?_, ?_, ?_⟩ <;> simp
theorem szPen_any (w : World) (p : PD) (a : Option Addr) (n c : Nat) (left : Int) (h0 : 0 ≤ left) (h1 : left ≤ 1048576) (hm : n ≤ maxLen) :
    Calls Try.prog 8 #[penV p (.slice a n c), .int .i64 left] w fun e w' => e = .returned (.int .i64 (if (n : Int) ≤ left then left - (n : Int) else -1)) ∧ Nw w w' := by
  have HZ : Hid _ := fun w => szIntS_any w a n c left h0 h1 hm
  clear hm
  obtain ⟨pw, pj, pc, pf⟩ := p
  by_cases c1 : (n : Int) ≤ left
  · rw [if_pos c1] at HZ ⊢
    go_enter Try.func8, Try.ntmps8
    go_wp2_with fail
    refine Calls.mono (HZ.out _) ?_
    rintro e w1 ⟨rfl, rfl⟩
    go_wp2
    go_ret
    exact ⟨rfl, (Below.refl _ _).alloc (Nat.le_refl _) _⟩
  · rw [if_neg c1] at HZ ⊢
    go_enter Try.func8, Try.ntmps8
    go_wp2_with fail
    refine Calls.mono (HZ.out _) ?_
    rintro e w1 ⟨rfl, rfl⟩
    go_wp2
    go_ret
    exact ⟨rfl, (Below.refl _ _).alloc (Nat.le_refl _) _⟩
theorem LayI.offP {w : World} {g : Nat} {l : List Int} (h : LayI w g l) (b o : Nat) (v : Value) (hne : b ≠ g) : LayI (w.setCell ⟨b, o, none⟩ v) g l :=
  ⟨by simpa [World.setCell] using h.1, fun i hi => by rw [World.cell?_setCell_other _ _ _ _ (fun h => by injection h; omega)]; exact h.2.1 i hi, fun o => by rw [World.frozen?_setCell]; exact h.2.2 o⟩
set_option maxRecDepth 100000 in
set_option maxHeartbeats 4000000 in
theorem toPen_any (w : World) (p : PD) (a : Option Addr) (c : Nat) (l : List Int) (hm : l.length ≤ 1048576) (hr : Ints w a l) :
    Calls Try.prog 10 #[penV p (.slice a l.length c)] w fun e w' => ∃ g, e = .returned (penV p (.slice (some ⟨g, 0, none⟩) l.length l.length)) ∧ Nw w w' ∧ w.heap.size ≤ g ∧ LayI w' g l := by
  obtain ⟨pw, pj, pc, pf⟩ := p
  unfold penV
  simp only
  have HR : ∀ o1 o2 o3, Hid (Ints (((w.alloc o1).alloc o2).alloc o3) a l) := fun o1 o2 o3 => hr.nw ((((Below.refl _ _).alloc (Nat.le_refl _) _).alloc (by simp) _).alloc (by simp; omega) _)
  clear hr
  go_enter Try.func10, Try.ntmps10
  go_wp2_with (go_at_call 19; refine (toIntS_any _ a c l hm (HR _ _ _).out).mono ?_; rintro e w' ⟨rfl, k1, k2⟩; obtain ⟨hc, hf⟩ := bcell k1)
  have K0 : Below w.heap.size w w' := Below.trans ((((Below.refl _ _).alloc (Nat.le_refl _) _).alloc (by simp) _).alloc (by simp; omega) _) (Below.mono k1 (by simp; omega))
  have hz : w.heap.size + 1 + 1 + 1 < w'.heap.size := by have := k2.1; simpa using this
  have K2 : LayI w' (w.heap.size + 1 + 1 + 1) l := by simpa using k2
  clear k1 k2
  refine bodyPost_ret (v := .agg #[.int .i64 pw, .int .i64 pj, .int .i64 pc, .slice (some ⟨w.heap.size + 1 + 1 + 1, 0, none⟩) l.length l.length, .int .i64 pf]) (by simp [results, Try.results10, go_sem, hc]) rfl ⟨w.heap.size + 1 + 1 + 1, rfl, ?_, by omega, ?_⟩
  · exact ((((((K0.setCell (by simp; omega) _).setCell (by simp; omega) _).setCell (by simp) _).setCell (by simp) _).setCell (by simp) _).setCell (by simp) _).setCell (by simp) _
  · exact ((((((K2.offP _ _ _ (by omega)).offP _ _ _ (by omega)).offP _ _ _ (by omega)).offP _ _ _ (by omega)).offP _ _ _ (by omega)).offP _ _ _ (by omega)).offP _ _ _ (by omega)
set_option maxRecDepth 100000 in
set_option maxHeartbeats 4000000 in
theorem eqPen_any (w : World) (p : PD) (v1 v2 : Value) (l : List Int) (hl : l.length ≤ 1048576) (h1 : RowI w v1 l) (h2 : RowI w v2 l) :
    Calls Try.prog 12 #[penV p v1, penV p v2] w fun e w' => e = .returned (.bool true) ∧ Nw w w' := by
  have form : ∀ v, RowI w v l → ∃ a c, v = .slice a l.length c := fun v h => by
    rcases h with ⟨rfl, rfl⟩ | ⟨g, c, rfl, _⟩
    · exact ⟨none, 0, rfl⟩
    · exact ⟨_, c, rfl⟩
  obtain ⟨a1, c1, rfl⟩ := form v1 h1
  obtain ⟨a2, c2, rfl⟩ := form v2 h2
  clear form
  obtain ⟨pw, pj, pc, pf⟩ := p
  unfold penV
  simp only
  generalize l.length = n at h1 h2 ⊢
  have n1 : ∀ o1 o2, Nw w ((w.alloc o1).alloc o2) := fun o1 o2 => ((Below.refl _ _).alloc (Nat.le_refl _) _).alloc (by simp) _
  have HE : Hid (∀ o1 o2, _) := fun o1 o2 => eqI_any ((w.alloc o1).alloc o2) _ _ l hl (h1.nw (n1 o1 o2)) (h2.nw (n1 o1 o2))
  clear h1 h2
  have e1 : (pw != pw) = false := by simp
  have e2 : (pj != pj) = false := by simp
  have e3 : (pc != pc) = false := by simp
  have e4 : (pf != pf) = false := by simp
  have PB1 : Hid (∀ t1 t2, PB ((w.alloc (.cells (penC ⟨pw, pj, pc, pf⟩ (.slice a1 n c1)) t1)).alloc (.cells (penC ⟨pw, pj, pc, pf⟩ (.slice a2 n c2)) t2)) w.heap.size ⟨pw, pj, pc, pf⟩ (.slice a1 n c1)) := fun t1 t2 => (PB.new w _ _ t1).nw ((Below.refl _ _).alloc (Nat.le_refl _) _)
  have PB2 : Hid (∀ t1 t2, PB ((w.alloc (.cells (penC ⟨pw, pj, pc, pf⟩ (.slice a1 n c1)) t1)).alloc (.cells (penC ⟨pw, pj, pc, pf⟩ (.slice a2 n c2)) t2)) (w.heap.size + 1) ⟨pw, pj, pc, pf⟩ (.slice a2 n c2)) := fun t1 t2 => by
    have := PB.new (w.alloc (.cells (penC ⟨pw, pj, pc, pf⟩ (.slice a1 n c1)) t1)) ⟨pw, pj, pc, pf⟩ (.slice a2 n c2) t2
    rw [World.size_alloc] at this
    exact this
  go_enter Try.func12, Try.ntmps12
  go_wp2_with fail
  refine Calls.mono (HE.out _ _) ?_
  rintro e w1 ⟨rfl, k1⟩
  have K1 : Hid (Nw w w1) := Nw.trans (n1 _ _) k1
  have q1 := (PB.nw (PB1.out _ _) k1).c4
  have q2 := (PB.nw (PB2.out _ _) k1).c4
  simp only at q1 q2
  clear k1 n1 PB1 PB2 HE
  go_wp2
  go_ret
  exact ⟨rfl, K1.out⟩
end Go.Proofs.Ytolpiapkmlbccaa
