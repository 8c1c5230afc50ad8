/-
  The law on UsesOf: the walk of its text, where utf8's two tables lie; each theorem names its conditions.
-/
import Derived.Test.YthnmebmjmjfflaaDoorUsOf
import Derived.Test.YthnmebmjmjfflaaDoorMarkN
import Derived.Test.YthnmebmjmjfflaaDoorHoldZ
import Derived.Test.YthnmebmjmjfflaaDoorMkSm
import Derived.Test.YthnmebmjmjfflaaDoorMkE
namespace Go.Proofs.YthnmebmjmjfflaaDoor
open Go.ChangeShapes Go.WideShapes Go.ChangeAt Go.RowKit
set_option linter.unusedVariables false

theorem RowI.mid {lo hi : Nat} {w w' : World} {v : Value} {l : List Int} (h : RowI w v l) (k : Mid lo hi w w') (hb : ∀ g, v.ownBlock = some g → g < lo ∨ hi ≤ g) : RowI w' v l := by
  rcases h with h | ⟨g, c, h1, h2, h3⟩
  · exact Or.inl h
  · refine Or.inr ⟨g, c, h1, Nat.lt_of_lt_of_le h2 k.size, fun i hi => (k.cell h2 (hb g (by rw [h1]; rfl)) i).trans (h3 i hi)⟩
theorem LayI.mid {lo hi : Nat} {w w' : World} {g : Nat} {l : List Int} (h : LayI w g l) (k : Mid lo hi w w') (hb : g < lo ∨ hi ≤ g) : LayI w' g l :=
  ⟨Nat.lt_of_lt_of_le h.1 k.size, fun i hi => (k.cell h.1 hb i).trans (h.2.1 i hi), fun o => (k.frozen h.1 hb o).trans (h.2.2 o)⟩
theorem RowI.lt {w : World} {v : Value} {l : List Int} (h : RowI w v l) : ∀ g, v.ownBlock = some g → g < w.heap.size := by
  rcases h with ⟨rfl, _⟩ | ⟨g, c, rfl, h2, _⟩
  · intro g e; cases e
  · intro g' e
    have : g = g' := Option.some.inj e
    omega
set_option maxHeartbeats 8000000 in
theorem walk_uses (w : World) (ht : Tb w) (a : Option Addr) (l : List ND) (c : Nat) (k : Int) (hr : Nodes w a l) (ho : okAll l) (hl : l.length ≤ maxLen) (hk : -9223372036854775808 ≤ k ∧ k ≤ 9223372036854775807) :
    Calls Tryd.prog 3 #[.slice a l.length c, .int .i64 k] w fun e w' => e = .returned (.bool true) ∧ Below w.heap.size w w' := by
  have HR : Hid (Nodes w a l) := hr
  have HT : Hid (Tb w) := ht
  have HO : Hid (okAll l) := ho
  have HL : Hid (l.length ≤ maxLen) := hl
  clear hr ht ho hl
  by_cases hb : ((l.length + bulkL l : Nat) : Int) ≤ 1048576
  · have hs : szL l 1048576 = 1048576 - ((l.length + bulkL l : Nat) : Int) := by unfold szL; rw [if_pos hb]
    have hneg : decide ((1048576 : Int) - ((l.length + bulkL l : Nat) : Int) < 0) = false := decide_eq_false (by omega)
    have hll : l.length ≤ 1048576 := by omega
    have hbk : bulkL l ≤ 1048576 := by omega
    have HBK : Hid (bulkL l ≤ 1048576) := hbk
    obtain ⟨hsm, hlo⟩ := small_of HO.out hb
    have HS : Hid (Small l) := hsm
    have HLO : Hid (lenOk l) := hlo
    have hq1 : (usR l k).length ≤ 1048576 := Nat.le_trans (usR_len l k) hll
    have HC1 : ∀ W a c, Nodes W a l → Hid (UsSays 6 W a c l k) := fun W a c h => susesOf W a c l k hk hll HS.out h
    have HC2 : ∀ W a, Tb W → Nodes W a l → Hid (UsSays 8 W a l.length l k) := fun W a t h => iusesOf W a l.length l k hk hll (Nat.le_refl _) t HS.out h
    unfold UsSays at HC1 HC2
    generalize usR l k = R at *
    generalize usOk l k = q at *
    have hqq : (q != q) = false := by simp
    generalize ((l.length + bulkL l : Nat) : Int) = B at *
    clear hsm hlo hb hbk
    go_enter Tryd.func3, Tryd.ntmps3
    go_wp2_with fail
    refine Calls.mono (szNodeS_any _ a c l _ (by omega) (by omega) HL.out HR.out HO.out) ?_
    rw [hs]
    rintro e w1 ⟨rfl, k1⟩
    have S1 : Hid (Nw w w1) := k1
    clear k1
    go_wp2_with fail
    refine Calls.mono (toNodeS_any _ a c l hll HLO.out (HR.out.nw S1.out)) ?_
    rintro e w2 ⟨rfl, k1, t1⟩
    have S2 : Hid (Nw w w2) := S1.out.trans k1
    have N2 : Hid (Nodes w2 (some ⟨w1.heap.size, 0, none⟩) l) := t1.nodes
    clear k1 t1
    go_wp2_with fail
    refine Calls.mono (HC1 _ _ _ N2.out).out ?_
    rintro e w3 ⟨v1, rfl, i3, k1⟩
    have S3 : Hid (Nw w w3) := S2.out.trans k1
    have R3 : Hid (RowI w3 v1 R) := Ins.row i3
    have V1 : Hid (∀ g, v1.ownBlock = some g → g < w3.heap.size) := R3.out.lt
    clear k1 N2 i3
    go_wp2_with fail
    refine Calls.mono (toNodeS_any _ a c l hll HLO.out (HR.out.nw S3.out)) ?_
    rintro e w4 ⟨rfl, k1, t1⟩
    have S4 : Hid (Nw w w4) := S3.out.trans k1
    have N4 : Hid (Nodes w4 (some ⟨w3.heap.size, 0, none⟩) l) := t1.nodes
    have M4 : Hid (NodesW w3.heap.size w4.heap.size w4 w3.heap.size l) := t1.nodesW rfl
    have R4 : Hid (RowI w4 v1 R) := R3.out.nw k1
    have G34 : Hid (w3.heap.size ≤ w4.heap.size) := Below.size k1
    clear k1 t1 R3
    go_wp2_with fail
    refine Calls.mono (HC2 _ _ (HT.out.nw S4.out) N4.out).out ?_
    rintro e w5 ⟨v2, rfl, i5, k1⟩
    have S5 : Hid (Nw w w5) := S4.out.trans k1
    have N5 : Hid (Nodes w5 (some ⟨w3.heap.size, 0, none⟩) l) := N4.out.nw k1
    have M5 : Hid (NodesW w3.heap.size w4.heap.size w5 w3.heap.size l) := M4.out.nw k1
    have R5 : Hid (RowI w5 v1 R) := R4.out.nw k1
    have Q5 : Hid (RowI w5 v2 R) := Ins.row i5
    have L5 : Hid ((v2 = .slice none 0 0 ∧ R = []) ∨ ∃ g c, v2 = .slice (some ⟨g, 0, none⟩) R.length c ∧ w4.heap.size ≤ g ∧ LayI w5 g R) := i5.lay
    have V2 : Hid (∀ g, v2.ownBlock = some g → w4.heap.size ≤ g) := fun g e => by
      rcases L5.out with ⟨rfl, _⟩ | ⟨g', c', rfl, h, _⟩
      · cases e
      · have : g' = g := Option.some.inj e
        omega
    clear k1 N4 M4 R4 i5
    go_wp2_with fail
    refine Calls.mono (eqI_any _ _ _ R hq1 Q5.out R5.out) ?_
    rintro e w6 ⟨rfl, k1⟩
    have S6 : Hid (Nw w w6) := S5.out.trans k1
    have N6 : Hid (Nodes w6 (some ⟨w3.heap.size, 0, none⟩) l) := N5.out.nw k1
    have M6 : Hid (NodesW w3.heap.size w4.heap.size w6 w3.heap.size l) := M5.out.nw k1
    have R6 : Hid (RowI w6 v1 R) := R5.out.nw k1
    have K56 : Hid (Nw w5 w6) := k1
    clear k1 N5 M5 R5
    go_wp2_with fail
    refine Calls.mono (toNodeS_any _ a c l hll HLO.out (HR.out.nw S6.out)) ?_
    rintro e w7 ⟨rfl, k1, t1⟩
    have S7 : Hid (Nw w w7) := S6.out.trans k1
    have N7 : Hid (Nodes w7 (some ⟨w3.heap.size, 0, none⟩) l) := N6.out.nw k1
    have P7 : Hid (Nodes w7 (some ⟨w6.heap.size, 0, none⟩) l) := t1.nodes
    have M7 : Hid (NodesW w3.heap.size w4.heap.size w7 w3.heap.size l) := M6.out.nw k1
    have R7 : Hid (RowI w7 v1 R) := R6.out.nw k1
    have K57 : Hid (Nw w5 w7) := K56.out.trans k1
    clear k1 t1 N6 M6 R6 K56
    go_wp2_with fail
    refine Calls.mono (eqNodeS_any _ _ _ _ _ l hll HLO.out N7.out P7.out) ?_
    rintro e w8 ⟨rfl, k1⟩
    have S8 : Hid (Nw w w8) := S7.out.trans k1
    have M8 : Hid (NodesW w3.heap.size w4.heap.size w8 w3.heap.size l) := M7.out.nw k1
    have R8 : Hid (RowI w8 v1 R) := R7.out.nw k1
    have K58 : Hid (Nw w5 w8) := K57.out.trans k1
    clear k1 N7 P7 M7 R7 K57
    go_wp2_with fail
    refine Calls.mono (markN_any _ _ _ _ _ l hll HBK.out M8.out) ?_
    rintro e w9 ⟨⟨X, hX, rfl⟩, m9⟩
    have hXn : decide ((X : Int) < 0) = false := decide_eq_false (by omega)
    have S9 : Hid (Nw w w9) := Below.trans (show Below w.heap.size w w8 from S8.out) (Below.mono (m9.below (Nat.le_of_lt M8.out.lt)) (Below.size S3.out))
    have R9 : Hid (RowI w9 v1 R) := R8.out.mid m9 (fun g e => Or.inl (V1.out g e))
    have Q9 : Hid (RowI w9 v2 R) := (Q5.out.nw K58.out).mid m9 (fun g e => Or.inr (V2.out g e))
    have L9 : Hid ((v2 = .slice none 0 0 ∧ R = []) ∨ ∃ g c, v2 = .slice (some ⟨g, 0, none⟩) R.length c ∧ w4.heap.size ≤ g ∧ LayI w9 g R) := by
      rcases L5.out with h | ⟨g, c, h1, h2, h3⟩
      · exact Or.inl h
      · exact Or.inr ⟨g, c, h1, h2, (h3.nw K58.out).mid m9 (Or.inr h2)⟩
    clear m9 M8 R8 K58 Q5 L5
    go_wp2_with fail
    refine Calls.mono (eqI_any _ _ _ R hq1 Q9.out R9.out) ?_
    rintro e w10 ⟨rfl, k1⟩
    have S10 : Hid (Nw w w10) := S9.out.trans k1
    have R10 : Hid (RowI w10 v1 R) := R9.out.nw k1
    have L10 : Hid ((v2 = .slice none 0 0 ∧ R = []) ∨ ∃ g c, v2 = .slice (some ⟨g, 0, none⟩) R.length c ∧ w4.heap.size ≤ g ∧ LayI w10 g R) := by
      rcases L9.out with h | ⟨g, c, h1, h2, h3⟩
      · exact Or.inl h
      · exact Or.inr ⟨g, c, h1, h2, h3.nw k1⟩
    clear k1 R9 Q9 L9
    rcases L10.out with ⟨rfl, hR0⟩ | ⟨g, gc, rfl, hg, hlay⟩
    · have HR0 : Hid (R = []) := hR0
      clear hR0 L10
      go_wp2_with fail
      refine Calls.mono (markI_nil _ 1 (by omega)) ?_
      rintro e w11 ⟨rfl, hq⟩
      have hq2 := hq.symm; clear hq; subst hq2
      go_wp2_with fail
      refine Calls.mono (heldI_nil _ 1 (by omega)) ?_
      rintro e w11 ⟨rfl, hq⟩
      have hq2 := hq.symm; clear hq; subst hq2
      go_wp2_with fail
      refine Calls.mono (toNodeS_any _ a c l hll HLO.out (HR.out.nw S10.out)) ?_
      rintro e w12 ⟨rfl, k1, t1⟩
      have S12 : Hid (Nw w w12) := S10.out.trans k1
      have N12 : Hid (Nodes w12 (some ⟨w10.heap.size, 0, none⟩) l) := t1.nodes
      have R12 : Hid (RowI w12 v1 R) := R10.out.nw k1
      clear k1 t1
      go_wp2_with fail
      refine Calls.mono (HC2 _ _ (HT.out.nw S12.out) N12.out).out ?_
      rintro e w13 ⟨v3, rfl, i13, k1⟩
      have S13 : Hid (Nw w w13) := S12.out.trans k1
      have R13 : Hid (RowI w13 v1 R) := R12.out.nw k1
      have Q13 : Hid (RowI w13 v3 R) := Ins.row i13
      clear k1 i13
      go_wp2_with fail
      refine Calls.mono (eqI_any _ _ _ R hq1 Q13.out R13.out) ?_
      rintro e w14 ⟨rfl, k1⟩
      have S14 : Hid (Nw w w14) := S13.out.trans k1
      clear k1
      go_wp2_with fail
      refine Calls.mono (heldI_nil _ 1 (by omega)) ?_
      rintro e w15 ⟨rfl, hq⟩
      have hq2 := hq.symm; clear hq; subst hq2
      go_wp2
      go_ret
      exact ⟨rfl, S14.out⟩
    · have HG : Hid (w4.heap.size ≤ g) := hg
      have HLY : Hid (LayI w10 g R) := hlay
      clear hg hlay L10
      go_wp2_with fail
      refine Calls.mono (markI_any _ g gc 1 R hq1 (by omega) HLY.out) ?_
      rintro e w11 ⟨rfl, g4, l4⟩
      have S11 : Hid (Nw w w11) := Below.trans (show Below w.heap.size w w10 from S10.out) (grI_below g4 (Nat.le_trans (Nat.le_trans (Below.size S3.out) G34.out) HG.out) (Below.size S10.out))
      have R11 : Hid (RowI w11 v1 R) := RowI.grown R10.out g4 (fun e => by have h1 := V1.out g e; have h2 := G34.out; have h3 := HG.out; omega)
      have L11 : Hid (LayI w11 g (mkL 1 R.length)) := l4
      clear g4 l4 R10 HLY
      go_wp2_with fail
      refine Calls.mono (heldI_any _ g gc 1 R.length hq1 (by omega) L11.out) ?_
      rintro e w12 ⟨rfl, hq⟩
      have hq2 := hq.symm; clear hq; subst hq2
      go_wp2_with fail
      refine Calls.mono (toNodeS_any _ a c l hll HLO.out (HR.out.nw S11.out)) ?_
      rintro e w12 ⟨rfl, k1, t1⟩
      have S12 : Hid (Nw w w12) := S11.out.trans k1
      have N12 : Hid (Nodes w12 (some ⟨w11.heap.size, 0, none⟩) l) := t1.nodes
      have R12 : Hid (RowI w12 v1 R) := R11.out.nw k1
      have L12 : Hid (LayI w12 g (mkL 1 R.length)) := LayI.nw L11.out k1
      clear k1 t1 R11 L11
      go_wp2_with fail
      refine Calls.mono (HC2 _ _ (HT.out.nw S12.out) N12.out).out ?_
      rintro e w13 ⟨v3, rfl, i13, k1⟩
      have S13 : Hid (Nw w w13) := S12.out.trans k1
      have R13 : Hid (RowI w13 v1 R) := R12.out.nw k1
      have Q13 : Hid (RowI w13 v3 R) := Ins.row i13
      have L13 : Hid (LayI w13 g (mkL 1 R.length)) := LayI.nw L12.out k1
      clear k1 i13 R12 L12
      go_wp2_with fail
      refine Calls.mono (eqI_any _ _ _ R hq1 Q13.out R13.out) ?_
      rintro e w14 ⟨rfl, k1⟩
      have S14 : Hid (Nw w w14) := S13.out.trans k1
      have L14 : Hid (LayI w14 g (mkL 1 R.length)) := LayI.nw L13.out k1
      clear k1 L13
      go_wp2_with fail
      refine Calls.mono (heldI_any _ g gc 1 R.length hq1 (by omega) L14.out) ?_
      rintro e w15 ⟨rfl, hq⟩
      have hq2 := hq.symm; clear hq; subst hq2
      go_wp2
      go_ret
      exact ⟨rfl, S14.out⟩
  · have hs : szL l 1048576 = -1 := by unfold szL; rw [if_neg hb]
    clear hb
    go_enter Tryd.func3, Tryd.ntmps3
    go_wp2_with fail
    refine Calls.mono (szNodeS_any _ a c l _ (by omega) (by omega) HL.out HR.out HO.out) ?_
    rw [hs]
    rintro e w1 ⟨rfl, k1⟩
    go_wp2
    go_ret
    exact ⟨rfl, k1⟩
end Go.Proofs.YthnmebmjmjfflaaDoor
