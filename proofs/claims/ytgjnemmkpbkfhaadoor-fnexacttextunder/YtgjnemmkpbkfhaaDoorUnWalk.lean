/-
  The law on TextUnder: the walk of its text, where utf8's two tables lie; each theorem names its conditions.
-/
import Derived.Test.YtgjnemmkpbkfhaaDoorIUnder
import Derived.Test.YtgjnemmkpbkfhaaDoorMkSGood
import Derived.Test.YtgjnemmkpbkfhaaDoorMkSm
namespace Go.Proofs.YtgjnemmkpbkfhaaDoor
open Go.ChangeShapes Go.WideShapes Go.ChangeAt Go.RowKit
set_option linter.unusedVariables false

set_option maxHeartbeats 4000000 in
theorem walk_under (w : World) (ht : Tb w) (a : Option Addr) (l : List ND) (c : Nat) (k : Int) (hr : Nodes w a l) (ho : okAll l) (hl : l.length ≤ maxLen) (hk : -9223372036854775808 ≤ k ∧ k ≤ 9223372036854775807) :
    Calls Tryd.prog 4 #[.slice a l.length c, .int .i64 k] w fun e w' => e = .returned (.bool true) ∧ Below w.heap.size w w' := by
  have HR : Hid (Nodes w a l) := hr
  have HT : Hid (Tb w) := ht
  have HO : Hid (okAll l) := ho
  have HL : Hid (l.length ≤ maxLen) := hl
  clear hr ht ho hl
  by_cases hb : ((l.length + bulkL l : Nat) : Int) ≤ 1048576
  · have hs : szL l 1048576 = 1048576 - ((l.length + bulkL l : Nat) : Int) := by unfold szL; rw [if_pos hb]
    have hneg : decide ((1048576 : Int) - ((l.length + bulkL l : Nat) : Int) < 0) = false := decide_eq_false (by omega)
    have hll : l.length ≤ 1048576 := by omega
    obtain ⟨hsm, hlo⟩ := small_of HO.out hb
    have HS : Hid (Small l) := hsm
    have HLO : Hid (lenOk l) := hlo
    have HA : underV l k = .tuple #[.string (underS l k), .bool (underOk l k)] := rfl
    generalize underS l k = S at *
    generalize underOk l k = q at *
    generalize ((l.length + bulkL l : Nat) : Int) = B at *
    clear hsm hlo hb
    go_enter Tryd.func4, Tryd.ntmps4
    go_wp2_with fail
    refine Calls.mono (szNodeS_any _ a c l _ (by omega) (by omega) HL.out HR.out HO.out) ?_
    rw [hs]
    rintro e w1 ⟨rfl, k1⟩
    have S1 : Hid (Nw w w1) := k1
    clear k1
    go_wp2_with fail
    refine Calls.mono (toNodeS_any _ a c l hll HLO.out (HR.out.nw S1.out)) ?_
    rintro e w2 ⟨rfl, k1, t1⟩
    have S2 : Hid (Nw w w2) := S1.out.trans k1
    have N2 : Hid (Nodes w2 (some ⟨w1.heap.size, 0, none⟩) l) := t1.nodes
    clear k1 t1
    go_wp2_with fail
    refine Calls.mono (stextUnder _ _ _ l k hk hll HS.out N2.out (fun w' h => sgoodNodes w' _ _ l hll HS.out h)) ?_
    rw [HA]
    rintro e w3 ⟨rfl, k1⟩
    have S3 : Hid (Nw w w3) := S2.out.trans k1
    clear k1 N2
    go_wp2_with fail
    refine Calls.mono (toNodeS_any _ a c l hll HLO.out (HR.out.nw S3.out)) ?_
    rintro e w4 ⟨rfl, k1, t1⟩
    have S4 : Hid (Nw w w4) := S3.out.trans k1
    have N4 : Hid (Nodes w4 (some ⟨w3.heap.size, 0, none⟩) l) := t1.nodes
    clear k1 t1
    go_wp2_with fail
    refine Calls.mono (itextUnder _ _ _ l k hk hll (Nat.le_refl _) (HT.out.nw S4.out) HS.out N4.out) ?_
    rw [HA]
    rintro e w5 ⟨rfl, k1⟩
    have S5 : Hid (Nw w w5) := S4.out.trans k1
    have N5 : Hid (Nodes w5 (some ⟨w3.heap.size, 0, none⟩) l) := N4.out.nw k1
    clear k1 N4
    go_wp2_with fail
    refine Calls.mono (toNodeS_any _ a c l hll HLO.out (HR.out.nw S5.out)) ?_
    rintro e w6 ⟨rfl, k1, t1⟩
    have S6 : Hid (Nw w w6) := S5.out.trans k1
    have N6 : Hid (Nodes w6 (some ⟨w3.heap.size, 0, none⟩) l) := N5.out.nw k1
    have M6 : Hid (Nodes w6 (some ⟨w5.heap.size, 0, none⟩) l) := t1.nodes
    clear k1 t1 N5
    go_wp2_with fail
    refine Calls.mono (eqNodeS_any _ _ _ _ _ l hll HLO.out N6.out M6.out) ?_
    rintro e w7 ⟨rfl, k1⟩
    go_wp2
    go_ret
    exact ⟨rfl, S6.out.trans k1⟩
  · have hs : szL l 1048576 = -1 := by unfold szL; rw [if_neg hb]
    clear hb
    go_enter Tryd.func4, Tryd.ntmps4
    go_wp2_with fail
    refine Calls.mono (szNodeS_any _ a c l _ (by omega) (by omega) HL.out HR.out HO.out) ?_
    rw [hs]
    rintro e w1 ⟨rfl, k1⟩
    go_wp2
    go_ret
    exact ⟨rfl, k1⟩
end Go.Proofs.YtgjnemmkpbkfhaaDoor
