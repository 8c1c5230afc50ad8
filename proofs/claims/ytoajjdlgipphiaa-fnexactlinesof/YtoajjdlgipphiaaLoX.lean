/-
  Lines out of steps, by the reference: LinesOf; each theorem names its conditions.
-/
import Derived.Test.YtoajjdlgipphiaaLoL
import Derived.Test.YtoajjdlgipphiaaLoS
namespace Go.Proofs.Ytoajjdlgipphiaa
open Go.ChangeShapes Go.WideShapes Go.ChangeAt Go.RowKit
set_option linter.unusedVariables false

set_option maxRecDepth 100000 in
set_option maxHeartbeats 4000000 in
theorem slinesOf (w : World) (a : Option Addr) (c : Nat) (l : List SD) (hl : l.length ≤ 1048576) (hns : ∀ i, i < l.length → (stAt l i).ns.length ≤ 1048576) (hr : Steps w a l) :
    Calls Try.prog 18 #[.slice a l.length c] w fun e w' => ∃ v, e = .returned (.tuple #[v, .bool (stsB l)]) ∧ LsOk w' w.heap.size v (lsV l) ∧ Nw w w' := by
  have H1 : Hid _ := sgoodSteps w a c l hl hns hr
  have HR : Hid (Steps w a l) := hr
  clear hr hns
  unfold lsV
  cases b : stsB l with
  | false =>
    rw [b] at H1
    simp only [Bool.false_eq_true, if_false]
    clear b
    generalize l.length = n at *
    go_enter Try.func18, Try.ntmps18
    go_wp2_with fail
    refine Calls.mono H1.out ?_
    rintro e w1 ⟨rfl, k1⟩
    have K1 : Hid (Nw w w1) := k1.nw
    clear k1
    go_wp2
    go_ret2
    exact ⟨_, rfl, LsOk.of (OwnLn.nil _ _) rfl, K1.out⟩
  | true =>
    rw [b] at H1
    simp only [if_true]
    obtain ⟨hl60, hok⟩ := stsB_all b
    have HS : Hid (∀ w, Steps w a l → _) := fun w h => slines w a c l hl60 hok h
    have HGL : Hid (goodL (lnsP l) = true) := lns_good hok hl60
    have HM : Hid (manyL (lnsP l) ≤ 600) := lns_many hok hl60
    have HLL : Hid ((lnsP l).length ≤ 1048576) := by
      have h1 := endL_len (stS l l.length).o (stS l l.length).p false
      have h2 := (stS_bd hok l.length (Nat.le_refl _)).2.2.1
      show (lnsP l).length ≤ 1048576
      unfold lnsP
      omega
    clear b hok hl60 hl
    generalize l.length = n at *
    go_enter Try.func18, Try.ntmps18
    go_wp2_with fail
    refine Calls.mono H1.out ?_
    rintro e w1 ⟨rfl, k1⟩
    have N1 : Hid (Nw w w1) := k1.nw
    clear k1
    go_wp2_with fail
    refine Calls.mono (HS.out _ (Steps.nw HR.out N1.out)) ?_
    rintro e w2 ⟨v, rfl, ⟨it, o2, i2⟩, n2⟩
    obtain ⟨la, lc, hv, hlines⟩ := OwnLn.lines o2
    rw [i2] at hv hlines
    subst hv
    have HG : Hid _ := sgoodL w2 la lc (lnsP l) HLL.out (by have := HM.out; omega) hlines
    rw [HGL.out] at HG
    have N2 : Hid (Nw w w2) := Nw.trans N1.out n2
    have O2 : Hid (LsOk w2 w.heap.size (.slice la (lnsP l).length lc) (lnsP l)) := LsOk.of (OwnLn.base o2 (Below.size N1.out)) i2
    clear o2 i2 n2 hlines
    generalize (lnsP l).length = m at *
    go_wp2_with fail
    refine Calls.mono HG.out ?_
    rintro e w3 ⟨rfl, k3⟩
    have N3 : Hid (Nw w w3) := Nw.trans N2.out k3.nw
    have O3 : Hid (LsOk w3 w.heap.size (.slice la m lc) (lnsP l)) := LsOk.nw O2.out k3.nw
    clear k3
    go_wp2
    go_ret2
    exact ⟨_, rfl, O3.out, N3.out⟩
end Go.Proofs.Ytoajjdlgipphiaa
