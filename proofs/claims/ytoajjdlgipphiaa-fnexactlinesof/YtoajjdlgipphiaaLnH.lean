/-
  What the laws' helpers do that hold two lines against each other, mark one and look for the marks; each theorem names its conditions.
-/
import Derived.Test.YtoajjdlgipphiaaQs
import Derived.Test.YtoajjdlgipphiaaIn
import Derived.Test.YtoajjdlgipphiaaLnE
namespace Go.Proofs.Ytoajjdlgipphiaa
open Go.ChangeShapes Go.WideShapes Go.ChangeAt Go.RowKit
set_option linter.unusedVariables false

theorem OwnP.row {w : World} {B : Nat} {v : Value} {l : List Pnt} (h : OwnP w B v l) : RowP w v l := h.pts
set_option maxHeartbeats 1000000 in
theorem markLine_any (w : World) (B : Nat) (v : Value) (l : List Pnt) (cl : Bool) (K : Nat) (hl : l.length ≤ 1048576) (hK2 : K ≤ 40000000) (h : OwnP w B v l) :
    Calls Try.prog 13 #[.agg #[v, .bool cl], .int .i64 (K : Int)] w fun e w' => e = .returned (.int .i64 ((K + 2 * l.length : Nat) : Int)) ∧ w.grownBy w' v.ownBlock ∧ Mkd w' v l.length K := by
  have n1 : ∀ o1, Nw w (w.alloc o1) := fun o1 => (Below.refl _ _).alloc (Nat.le_refl _) _
  rcases h.lay with ⟨rfl, rfl⟩ | ⟨g, c, rfl, hg, hlay⟩
  · go_enter Try.func13, Try.ntmps13
    go_wp2_with fail
    refine Calls.mono (markPt_nil _ K (by omega)) ?_
    rintro e w1 ⟨rfl, rfl⟩
    go_wp2
    go_ret
    exact ⟨rfl, gr_alloc _, Or.inl ⟨rfl, rfl⟩⟩
  · have HA : Hid (∀ o, AnyPt (w.alloc o) g l.length) := fun o => (hlay.nw (n1 o)).any
    have HK : Hid (K + 2 * l.length ≤ 60000000) := by show _ ≤ _; omega
    clear hlay h
    go_enter Try.func13, Try.ntmps13
    go_wp2_with fail
    refine Calls.mono (markPt_any _ g c K l.length hl (by omega) (HA.out _)) ?_
    rintro e w1 ⟨rfl, g1, l1⟩
    have G1 : Hid (w.grownBy w1 (some g)) := World.grownBy.trans (gr_alloc _) g1
    have L1 : Hid _ := l1
    clear g1 l1 HA
    go_wp2
    go_ret
    exact ⟨rfl, G1.out, Or.inr ⟨g, c, rfl, L1.out⟩⟩
end Go.Proofs.Ytoajjdlgipphiaa
