/-
  A line that comes in: what the laws' helpers do that measure it and copy it; each theorem names its conditions.
-/
import Derived.Test.YtllljknpicmmjaaLnIt
namespace Go.Proofs.Ytllljknpicmmjaa
open Go.ChangeShapes Go.WideShapes Go.ChangeAt Go.RowKit
set_option linter.unusedVariables false

theorem retL {x y : Int} (h : x = y) : Ending.returned (.int .i64 x) = Ending.returned (.int .i64 y) := by rw [h]
def okL (l : List LD) : Prop := ∀ i, i < l.length → (lnAt l i).pts.length ≤ maxLen
set_option maxHeartbeats 1000000 in
theorem szLine_any (w : World) (a : Option Addr) (n c : Nat) (cl : Bool) (left : Int) (h0 : 0 ≤ left) (h1 : left ≤ 1048576) (hm : n ≤ maxLen) :
    Calls Try.prog 52 #[.agg #[.slice a n c, .bool cl], .int .i64 left] w fun e w' => e = .returned (.int .i64 (if (n : Int) ≤ left then left - (n : Int) else -1)) ∧ Nw w w' := by
  have HZ : Hid _ := fun w => szPointS_any w a n c left h0 h1 hm
  clear hm
  by_cases c1 : (n : Int) ≤ left
  · rw [if_pos c1] at HZ ⊢
    go_enter Try.func52, Try.ntmps52
    go_wp2_with fail
    refine Calls.mono (HZ.out _) ?_
    rintro e w1 ⟨rfl, rfl⟩
    go_wp2
    go_ret
    exact ⟨rfl, (Below.refl _ _).alloc (Nat.le_refl _) _⟩
  · rw [if_neg c1] at HZ ⊢
    go_enter Try.func52, Try.ntmps52
    go_wp2_with fail
    refine Calls.mono (HZ.out _) ?_
    rintro e w1 ⟨rfl, rfl⟩
    go_wp2
    go_ret
    exact ⟨rfl, (Below.refl _ _).alloc (Nat.le_refl _) _⟩
set_option maxHeartbeats 2000000 in
theorem toLine_any (w : World) (a : Option Addr) (c : Nat) (ps : List Pnt) (cl : Bool) (hl : ps.length ≤ 1048576) (hr : Pts w a ps) :
    Calls Try.prog 56 #[.agg #[.slice a ps.length c, .bool cl]] w fun e w' => ∃ g, e = .returned (.agg #[.slice (some ⟨g, 0, none⟩) ps.length ps.length, .bool cl]) ∧ Nw w w' ∧ w.heap.size ≤ g ∧ LayPt w' g ps ps.length := by
  have HR : ∀ o1 o2 o3, Hid (Pts (((w.alloc o1).alloc o2).alloc o3) a ps) := fun o1 o2 o3 => hr.nw ((((Below.refl _ _).alloc (Nat.le_refl _) _).alloc (by simp) _).alloc (by simp; omega) _)
  clear hr
  go_enter Try.func56, Try.ntmps56
  go_wp2_with (go_at_call 83; refine (toPointS_any _ a c ps hl (HR _ _ _).out).mono ?_; rintro e w' ⟨rfl, k1, k2⟩; obtain ⟨hc, hf⟩ := bcell k1)
  have K0 : Below w.heap.size w w' := Below.trans ((((Below.refl _ _).alloc (Nat.le_refl _) _).alloc (by simp) _).alloc (by simp; omega) _) (Below.mono k1 (by simp; omega))
  have hz : w.heap.size + 1 + 1 + 1 < w'.heap.size := by have := k2.1; simpa using this
  have K2 : LayPt w' (w.heap.size + 1 + 1 + 1) ps ps.length := by simpa using k2
  clear k1 k2
  refine bodyPost_ret (v := .agg #[.slice (some ⟨w.heap.size + 1 + 1 + 1, 0, none⟩) ps.length ps.length, .bool cl]) (by simp [results, Try.results56, go_sem, hc]) rfl ⟨w.heap.size + 1 + 1 + 1, rfl, ?_, by omega, ?_⟩
  · exact (((K0.setCell (by simp; omega) _).setCell (by simp; omega) _).setCell (by simp) _).setCell (by simp) _
  · exact (((K2.off _ _ _ (by omega)).off _ _ _ (by omega)).off _ _ _ (by omega)).off _ _ _ (by omega)
end Go.Proofs.Ytllljknpicmmjaa
