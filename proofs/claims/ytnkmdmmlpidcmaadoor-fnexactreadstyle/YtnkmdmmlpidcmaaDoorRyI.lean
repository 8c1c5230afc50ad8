/-
  A style read, by both; each theorem names its conditions.
-/
import Derived.Test.YtnkmdmmlpidcmaaDoorDeS
import Derived.Test.YtnkmdmmlpidcmaaDoorCmI
namespace Go.Proofs.YtnkmdmmlpidcmaaDoor
open Go.ChangeShapes Go.WideShapes Go.ChangeAt Go.RowKit
set_option linter.unusedVariables false

def styL (s : ByteArray) : List DD := if 1500 < s.size then [] else dcs (pcB 59 (bareB s))
def StySays (s : ByteArray) (w w' : World) (e : Ending) : Prop := ∃ v, e = .returned (.tuple #[v, .bool (!decide (1500 < s.size))]) ∧ RowM 3 EDecl w' v (styL s) (iv w w')
theorem styL_le (s : ByteArray) : (styL s).length ≤ 12 := by
  unfold styL
  split
  · exact Nat.zero_le _
  · exact dcs_le _
theorem iv_up {w w1 w2 : World} (h : w.heap.size ≤ w1.heap.size) : ∀ b, iv w1 w2 b → iv w w2 b := fun b hb => ⟨Nat.le_trans h hb.1, hb.2⟩
set_option maxHeartbeats 2000000 in
theorem istyle (s : ByteArray) (w : World) (hm : MaxL w) (hs : s.size ≤ 1048576) :
    Calls Tryd.prog 8 #[.string s] w fun e w' => StySays s w w' e ∧ Nw w w' := by
  have HM : Hid (MaxL w) := hm
  clear hm
  unfold StySays styL
  by_cases h : 1500 < s.size
  · have hd : decide (1500 < (s.size : Int)) = true := by simp; omega
    rw [if_pos h, decide_eq_true h]
    go_enter Tryd.func8, Tryd.ntmps8
    go_wp2
    go_ret2
    exact ⟨⟨_, rfl, RowM.nil _ _ _ _⟩, Below.refl _ _⟩
  · have hd : decide (1500 < (s.size : Int)) = false := by simp; omega
    rw [if_neg h, decide_eq_false h]
    have hbs := bareB_size s
    go_enter Tryd.func8, Tryd.ntmps8
    go_wp2_with fail
    refine Calls.mono (iwithout s _ HM.out hs) ?_
    rintro e w1 ⟨rfl, k1⟩
    have HN1 : Hid (Nw w w1) := k1
    clear k1
    go_wp2_with fail
    refine Calls.mono (ideclsOf (bareB s) _ (by omega)) ?_
    rintro e w2 ⟨⟨v, rfl, hr⟩, k2⟩
    have HR : Hid (RowM 3 EDecl w2 v (dcs (pcB 59 (bareB s))) (iv w1 w2)) := hr
    have HN2 : Hid (Nw w w2) := Nw.trans HN1.out k2
    obtain ⟨a, c, hv, _⟩ := hr.slice
    subst hv
    clear hr k2
    go_wp2
    go_ret2
    exact ⟨⟨_, rfl, HR.out.mono (iv_up (Below.size HN1.out))⟩, HN2.out⟩
set_option maxHeartbeats 2000000 in
theorem sstyle (s : ByteArray) (w : World) (hs : s.size ≤ 1048576) :
    Calls Tryd.prog 7 #[.string s] w fun e w' => StySays s w w' e ∧ Nw w w' := by
  unfold StySays styL
  by_cases h : 1500 < s.size
  · have hd : decide (1500 < (s.size : Int)) = true := by simp; omega
    rw [if_pos h, decide_eq_true h]
    go_enter Tryd.func7, Tryd.ntmps7
    go_wp2
    go_ret2
    exact ⟨⟨_, rfl, RowM.nil _ _ _ _⟩, Below.refl _ _⟩
  · have hd : decide (1500 < (s.size : Int)) = false := by simp; omega
    rw [if_neg h, decide_eq_false h]
    have hbs := bareB_size s
    go_enter Tryd.func7, Tryd.ntmps7
    go_wp2_with fail
    refine Calls.mono (sbare s _ hs) ?_
    rintro e w1 ⟨rfl, hq⟩
    have hq2 := hq.symm; clear hq; subst hq2
    go_wp2_with fail
    refine Calls.mono (sdecls (bareB s) _ (by omega)) ?_
    rintro e w2 ⟨⟨v, rfl, hr⟩, k2⟩
    have HR : Hid (RowM 3 EDecl w2 v (dcs (pcB 59 (bareB s))) (iv w w2)) := hr
    have HN2 : Hid (Nw w w2) := k2
    obtain ⟨a, c, hv, _⟩ := hr.slice
    subst hv
    clear hr k2
    go_wp2
    go_ret2
    exact ⟨⟨_, rfl, HR.out⟩, HN2.out⟩
end Go.Proofs.YtnkmdmmlpidcmaaDoor
