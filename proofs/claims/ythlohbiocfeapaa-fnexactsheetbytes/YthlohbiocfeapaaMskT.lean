/-
  Masks: what the laws' helpers do that measure one, copy it and hold two against each other; each theorem names its conditions.
-/
import Derived.Test.YthlohbiocfeapaaIsT
import Derived.Test.YthlohbiocfeapaaIn
import Derived.Test.YthlohbiocfeapaaMskB
namespace Go.Proofs.Ythlohbiocfeapaa
open Go.ChangeShapes Go.WideShapes Go.ChangeAt Go.RowKit
set_option linter.unusedVariables false

theorem szMask_any (w : World) (p : MD) (a : Option Addr) (n c : Nat) (left : Int) (h0 : 0 ≤ left) (h1 : left ≤ 1048576) (hm : n ≤ maxLen) :
    Calls Try.prog 44 #[mskV p (.slice a n c), .int .i64 left] w fun e w' => e = .returned (.int .i64 (if (n : Int) ≤ left then left - (n : Int) else -1)) ∧ Nw w w' := by
  have HZ : Hid _ := fun w => szIntS_any w a n c left h0 h1 hm
  clear hm
  obtain ⟨pw, ph⟩ := p
  by_cases c1 : (n : Int) ≤ left
  · rw [if_pos c1] at HZ ⊢
    go_enter Try.func44, Try.ntmps44
    go_wp2_with fail
    refine Calls.mono (HZ.out _) ?_
    rintro e w1 ⟨rfl, rfl⟩
    go_wp2
    go_ret
    exact ⟨rfl, (Below.refl _ _).alloc (Nat.le_refl _) _⟩
  · rw [if_neg c1] at HZ ⊢
    go_enter Try.func44, Try.ntmps44
    go_wp2_with fail
    refine Calls.mono (HZ.out _) ?_
    rintro e w1 ⟨rfl, rfl⟩
    go_wp2
    go_ret
    exact ⟨rfl, (Below.refl _ _).alloc (Nat.le_refl _) _⟩
theorem LayI.offM {w : World} {g : Nat} {l : List Int} (h : LayI w g l) (b o : Nat) (v : Value) (hne : b ≠ g) : LayI (w.setCell ⟨b, o, none⟩ v) g l :=
  ⟨by simpa [World.setCell] using h.1, fun i hi => by rw [World.cell?_setCell_other _ _ _ _ (fun h => by injection h; omega)]; exact h.2.1 i hi, fun o => by rw [World.frozen?_setCell]; exact h.2.2 o⟩
set_option maxRecDepth 100000 in
set_option maxHeartbeats 4000000 in
theorem toMask_any (w : World) (p : MD) (a : Option Addr) (c : Nat) (l : List Int) (hm : l.length ≤ 1048576) (hr : Ints w a l) :
    Calls Try.prog 46 #[mskV p (.slice a l.length c)] w fun e w' => ∃ g, e = .returned (mskV p (.slice (some ⟨g, 0, none⟩) l.length l.length)) ∧ Nw w w' ∧ w.heap.size ≤ g ∧ LayI w' g l := by
  obtain ⟨pw, ph⟩ := p
  unfold mskV
  simp only
  have HR : ∀ o1 o2 o3, Hid (Ints (((w.alloc o1).alloc o2).alloc o3) a l) := fun o1 o2 o3 => hr.nw ((((Below.refl _ _).alloc (Nat.le_refl _) _).alloc (by simp) _).alloc (by simp; omega) _)
  clear hr
  go_enter Try.func46, Try.ntmps46
  go_wp2_with (go_at_call 96; refine (toIntS_any _ a c l hm (HR _ _ _).out).mono ?_; rintro e w' ⟨rfl, k1, k2⟩; obtain ⟨hc, hf⟩ := bcell k1)
  have K0 : Below w.heap.size w w' := Below.trans ((((Below.refl _ _).alloc (Nat.le_refl _) _).alloc (by simp) _).alloc (by simp; omega) _) (Below.mono k1 (by simp; omega))
  have hz : w.heap.size + 1 + 1 + 1 < w'.heap.size := by have := k2.1; simpa using this
  have K2 : LayI w' (w.heap.size + 1 + 1 + 1) l := by simpa using k2
  clear k1 k2
  refine bodyPost_ret (v := .agg #[.int .i64 pw, .int .i64 ph, .slice (some ⟨w.heap.size + 1 + 1 + 1, 0, none⟩) l.length l.length]) (by simp [results, Try.results46, go_sem, hc]) rfl ⟨w.heap.size + 1 + 1 + 1, rfl, ?_, by omega, ?_⟩
  · exact (((K0.setCell (by first | (simp; done) | (simp; omega)) _).setCell (by first | (simp; done) | (simp; omega)) _).setCell (by simp) _).setCell (by simp) _
  · exact (((K2.offM _ _ _ (by omega)).offM _ _ _ (by omega)).offM _ _ _ (by omega)).offM _ _ _ (by omega)
set_option maxRecDepth 100000 in
set_option maxHeartbeats 4000000 in
theorem eqMask_any (w : World) (p : MD) (v1 v2 : Value) (l : List Int) (hl : l.length ≤ 1048576) (h1 : RowI w v1 l) (h2 : RowI w v2 l) :
    Calls Try.prog 48 #[mskV p v1, mskV p v2] w fun e w' => e = .returned (.bool true) ∧ Nw w w' := by
  have form : ∀ v, RowI w v l → ∃ a c, v = .slice a l.length c := fun v h => by
    rcases h with ⟨rfl, rfl⟩ | ⟨g, c, rfl, _⟩
    · exact ⟨none, 0, rfl⟩
    · exact ⟨_, c, rfl⟩
  obtain ⟨a1, c1, rfl⟩ := form v1 h1
  obtain ⟨a2, c2, rfl⟩ := form v2 h2
  clear form
  obtain ⟨pw, ph⟩ := p
  unfold mskV
  simp only
  generalize l.length = n at h1 h2 ⊢
  have n1 : ∀ o1 o2, Nw w ((w.alloc o1).alloc o2) := fun o1 o2 => ((Below.refl _ _).alloc (Nat.le_refl _) _).alloc (by simp) _
  have HE : Hid (∀ o1 o2, _) := fun o1 o2 => eqI_any ((w.alloc o1).alloc o2) _ _ l hl (h1.nw (n1 o1 o2)) (h2.nw (n1 o1 o2))
  clear h1 h2
  have e1 : (pw != pw) = false := by simp
  have e2 : (ph != ph) = false := by simp
  go_enter Try.func48, Try.ntmps48
  go_wp2_with fail
  refine Calls.mono (HE.out _ _) ?_
  rintro e w1 ⟨rfl, k1⟩
  have K1 : Hid (Nw w w1) := Nw.trans (n1 _ _) k1
  clear k1 n1 HE
  go_wp2
  go_ret
  exact ⟨rfl, K1.out⟩
end Go.Proofs.Ythlohbiocfeapaa
