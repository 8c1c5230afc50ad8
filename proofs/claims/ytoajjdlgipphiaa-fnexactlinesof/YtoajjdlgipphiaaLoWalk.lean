/-
  The walk of the law on LinesOf; its argument's lengths are at most what memory holds.
-/
import Derived.Test.YtoajjdlgipphiaaLoX
import Derived.Test.YtoajjdlgipphiaaStH
import Derived.Test.YtoajjdlgipphiaaLnK0
import Derived.Test.YtoajjdlgipphiaaLnE
namespace Go.Proofs.Ytoajjdlgipphiaa
open Go.ChangeShapes Go.WideShapes Go.ChangeAt Go.RowKit
set_option linter.unusedVariables false

theorem lsV_bd (l : List SD) : (lsV l).length ≤ 1048576 ∧ manyL (lsV l) ≤ 600 := by
  unfold lsV
  cases b : stsB l with
  | false => exact ⟨by simp, by simp [manyL]⟩
  | true =>
    obtain ⟨hl60, hok⟩ := stsB_all b
    simp only [if_true]
    refine ⟨?_, lns_many hok hl60⟩
    have h1 := endL_len (stS l l.length).o (stS l l.length).p false
    have h2 := (stS_bd hok l.length (Nat.le_refl _)).2.2.1
    unfold lnsP
    omega
theorem lenL_some {l : List LD} (h : manyL l ≤ 600) : lenL l := fun i hi => Nat.le_trans (manyL_at l i hi) (by omega)
theorem nw_midL {W a b : World} {lo hi : Nat} (h : Nw W a) (k : Mid lo hi a b) (hl : W.heap.size ≤ lo) (hs : lo ≤ a.heap.size) : Nw W b := Below.trans h (Below.mono (k.below hs) hl)
set_option maxRecDepth 100000 in
set_option maxHeartbeats 8000000 in
/-- The walk of the law on LinesOf. -/
theorem walk_lines (w : World) (a : Option Addr) (l : List SD) (c : Nat) (hr : Steps w a l) (ho : ∀ i, i < l.length → (stAt l i).ns.length ≤ maxLen) (hl : l.length ≤ maxLen) :
    Calls Try.prog 4 #[.slice a l.length c] w fun e w' => e = .returned (.bool true) ∧ Below w.heap.size w w' := by
  have HZ : Hid (∀ w : World, Steps w a l → _) := fun w h => szStepS_any w a c l 1048576 (by omega) (by omega) hl ho h
  have HR : Hid (Steps w a l) := hr
  clear ho hr
  by_cases h : ((l.length + manyS l : Nat) : Int) ≤ 1048576
  · have e1 : szSt l 1048576 = 1048576 - ((l.length + manyS l : Nat) : Int) := by unfold szSt; rw [if_pos h]
    rw [e1] at HZ
    have hl1 : l.length ≤ 1048576 := by omega
    have hm1 : manyS l ≤ 1048576 := by omega
    have hns : ∀ i, i < l.length → (stAt l i).ns.length ≤ 1048576 := fun i hi => Nat.le_trans (manyS_at l i hi) hm1
    have HT : Hid (∀ w : World, Steps w a l → _) := fun w h => toStepS_any w a c l hl1 hns h
    have HS : Hid (∀ (w : World) (p : Option Addr), Steps w p l → _) := fun w p h => slinesOf w p l.length l hl1 hns h
    have HI : Hid (∀ (w : World) (p : Option Addr), Steps w p l → _) := fun w p h => ilines w p l.length l hl1 hns h
    have HML : Hid ((lsV l).length ≤ 1048576) := (lsV_bd l).1
    have HMM : Hid (manyL (lsV l) ≤ 600) := (lsV_bd l).2
    generalize lsV l = M at *
    generalize stsB l = ok at *
    have HE : Hid (∀ (w : World) (v1 v2 : Value), RowL w v1 M → RowL w v2 M → _) := fun w v1 v2 h1 h2 => eqLineS_any w v1 v2 M HML.out (lenL_some HMM.out) h1 h2
    have HL1 : Hid (l.length ≤ 1048576) := hl1
    have HM1 : Hid (manyS l ≤ 1048576) := hm1
    have HNS : Hid _ := hns
    have hdz : decide (1048576 - ((l.length + manyS l : Nat) : Int) < 0) = false := decide_eq_false (by omega)
    generalize ((l.length + manyS l : Nat) : Int) = zz at *
    have hbb : (ok != ok) = false := by cases ok <;> rfl
    clear hm1 e1 h hl hns
    go_enter Try.func4, Try.ntmps4
    generalize hn : l.length = n at *
    have HN : Hid (l.length = n) := hn
    clear hn
    go_wp2_with fail
    refine Calls.mono (HZ.out _ HR.out) ?_
    rintro e w1 ⟨rfl, n1⟩
    have N1 : Hid (Nw w w1) := n1
    clear n1
    go_wp2_with fail
    refine Calls.mono (HT.out _ (Steps.nw HR.out N1.out)) ?_
    rintro e w3 ⟨rfl, n3, it3, hit3, l3⟩
    have P3 : Hid (Steps w3 (some ⟨w1.heap.size, 0, none⟩) l) := by show Steps _ _ _; have := l3.steps; rw [hit3] at this; exact this
    have N3 : Hid (Nw w w3) := Nw.trans N1.out n3
    clear n3 l3 hit3
    go_wp2_with fail
    refine Calls.mono (HS.out _ _ P3.out) ?_
    rintro e w4 ⟨v4, rfl, ⟨it4, o4, hit4⟩, n4⟩
    obtain ⟨sa, sn, sc, hv4⟩ := OwnQ.slice o4.own
    subst hv4
    have R4 : Hid (RowL w4 (.slice sa sn sc) M) := by show RowL _ _ _; have := o4.row; rw [hit4] at this; exact this
    have N4 : Hid (Nw w w4) := Nw.trans N3.out n4
    clear n4 o4 hit4 P3
    go_wp2_with fail
    refine Calls.mono (HT.out _ (Steps.nw HR.out N4.out)) ?_
    rintro e w5 ⟨rfl, n5, it5, hit5, l5⟩
    have P5 : Hid (Steps w5 (some ⟨w4.heap.size, 0, none⟩) l) := by show Steps _ _ _; have := l5.steps; rw [hit5] at this; exact this
    have L5 : Hid (LaySt w5 w4.heap.size it5 n) := l5
    have hi5 : it5.length = n := by rw [← HN.out, ← hit5]; simp
    have HI5 : Hid (it5.map (·.2) = l) := hit5
    have hs5 : Hid (w4.heap.size < w5.heap.size) := l5.lt
    have N5 : Hid (Nw w w5) := Nw.trans N4.out n5
    have M5 : Hid (Nw w4 w5) := n5
    have hi5H : Hid (it5.length = n) := hi5
    clear n5 l5 hit5 hi5
    go_wp2_with fail
    refine Calls.mono (HI.out _ _ P5.out) ?_
    rintro e w7 ⟨v7, rfl, ⟨it7, o7, hit7⟩, n7⟩
    obtain ⟨ga, gn, gc, hv7⟩ := OwnQ.slice o7.own
    subst hv7
    have O7 : Hid (OwnLn w7 w5.heap.size (.slice ga gn gc) it7) := o7
    have HI7 : Hid (it7.map (·.2) = M) := hit7
    have N7 : Hid (Nw w w7) := Nw.trans N5.out n7
    have M7 : Hid (Nw w4 w7) := Nw.trans M5.out n7
    have K7 : Hid (Nw w5 w7) := n7
    have R7 : Hid (RowL w7 (.slice ga gn gc) M) := by show RowL _ _ _; have := o7.row; rw [hit7] at this; exact this
    have Z7 : Hid (it7.length ≤ 1048576 ∧ manyL (it7.map (·.2)) ≤ 1048576) := by
      refine ⟨?_, by rw [hit7]; have := HMM.out; omega⟩
      have := congrArg List.length hit7
      simp at this
      have := HML.out
      omega
    clear n7 o7 hit7
    go_wp2_with fail
    refine Calls.mono (HE.out _ _ _ R7.out (RowL.nw R4.out M7.out)) ?_
    rintro e w8 ⟨rfl, n8⟩
    have N8 : Hid (Nw w w8) := Nw.trans N7.out n8
    have M8 : Hid (Nw w4 w8) := Nw.trans M7.out n8
    have K8 : Hid (Nw w5 w8) := Nw.trans K7.out n8
    have O8 : Hid (OwnLn w8 w5.heap.size (.slice ga gn gc) it7) := OwnLn.nw O7.out n8
    clear n8 O7 R7
    go_wp2_with fail
    refine Calls.mono (HT.out _ (Steps.nw HR.out N8.out)) ?_
    rintro e w9 ⟨rfl, n9, it9, hit9, l9⟩
    have N9 : Hid (Nw w w9) := Nw.trans N8.out n9
    have M9 : Hid (Nw w4 w9) := Nw.trans M8.out n9
    have K9 : Hid (Nw w5 w9) := Nw.trans K8.out n9
    have O9 : Hid (OwnLn w9 w5.heap.size (.slice ga gn gc) it7) := OwnLn.nw O8.out n9
    have X9 : Hid _ := eqStepS_any w9 w4.heap.size w8.heap.size n it5 it9 l HI5.out hit9 HN.out HL1.out (by rw [HN.out]; exact HNS.out) (LaySt.nw L5.out K9.out) l9
    clear n9 l9 hit9 O8
    go_wp2_with fail
    refine Calls.mono X9.out ?_
    rintro e w10 ⟨rfl, n10⟩
    have N10 : Hid (Nw w w10) := Nw.trans N9.out n10
    have M10 : Hid (Nw w4 w10) := Nw.trans M9.out n10
    have K10 : Hid (Nw w5 w10) := Nw.trans K9.out n10
    have O10 : Hid (OwnLn w10 w5.heap.size (.slice ga gn gc) it7) := OwnLn.nw O9.out n10
    have hmk := markStepS_any w10 w4.heap.size w5.heap.size n it5 (by rw [hi5H.out]; exact HL1.out) (by rw [HI5.out]; exact HM1.out) (fun i hi => (L5.out.pts i hi).2.1) hs5.out (LaySt.any (LaySt.nw L5.out K10.out))
    rw [hi5H.out] at hmk
    have HMK : Hid _ := hmk
    clear n10 O9 X9 hmk
    go_wp2_with fail
    refine Calls.mono HMK.out ?_
    rintro e w11 ⟨⟨kk, rfl⟩, m11⟩
    have hk0 : decide ((kk : Int) < 0) = false := decide_eq_false (by omega)
    have hsz : w4.heap.size ≤ w10.heap.size := Below.size M10.out
    have N11 : Hid (Nw w w11) := nw_midL N10.out m11 (Below.size N4.out) hsz
    have M11 : Hid (Nw w4 w11) := nw_midL M10.out m11 (Nat.le_refl _) hsz
    have O11 : Hid (OwnLn w11 w5.heap.size (.slice ga gn gc) it7) := OwnLn.mid O10.out m11 (Nat.le_refl _)
    have G11 : Hid (w5.heap.size ≤ w11.heap.size) := Nat.le_trans (Below.size K10.out) m11.size
    have R11 : Hid (RowL w11 (.slice ga gn gc) M) := by show RowL _ _ _; have := O11.out.row; rw [HI7.out] at this; exact this
    clear m11 hsz O10 HMK L5 HI5
    go_wp2_with fail
    refine Calls.mono (HE.out _ _ _ R11.out (RowL.nw R4.out M11.out)) ?_
    rintro e w12 ⟨rfl, n12⟩
    have N12 : Hid (Nw w w12) := Nw.trans N11.out n12
    have M12 : Hid (Nw w4 w12) := Nw.trans M11.out n12
    have O12 : Hid (OwnLn w12 w5.heap.size (.slice ga gn gc) it7) := OwnLn.nw O11.out n12
    have G12 : Hid (w5.heap.size ≤ w12.heap.size) := Nat.le_trans G11.out (Below.size n12)
    have hmk := markL_own w12 w5.heap.size (.slice ga gn gc) it7 O12.out Z7.out.1 Z7.out.2
    have hhd : Hid (∀ w, MkdL w (.slice ga gn gc) it7 1 → _) := fun w h => heldL_own w (.slice ga gn gc) it7 h Z7.out.1 Z7.out.2
    generalize kAt (nsOf it7) 1 it7.length = mm at hmk hhd
    have HMK : Hid _ := hmk
    have hm0 : decide ((mm : Int) < 0) = false := decide_eq_false (by omega)
    have hmm : ((mm : Int) != (mm : Int)) = false := by simp
    clear n12 R11 O11 hmk
    go_wp2_with fail
    refine Calls.mono HMK.out ?_
    rintro e w13 ⟨rfl, m13, h13⟩
    have s45 : w4.heap.size ≤ w5.heap.size := Nat.le_of_lt hs5.out
    have N13 : Hid (Nw w w13) := nw_midL N12.out m13 (Nat.le_trans (Below.size N4.out) s45) G12.out
    have M13 : Hid (Nw w4 w13) := nw_midL M12.out m13 s45 G12.out
    have H13 : Hid (MkdL w13 (.slice ga gn gc) it7 1) := h13
    clear m13 h13 s45 HMK O12
    go_wp2_with fail
    refine Calls.mono (hhd.out _ H13.out) ?_
    rintro e w14 ⟨rfl, rfl⟩
    go_wp2_with fail
    refine Calls.mono (HT.out _ (Steps.nw HR.out N13.out)) ?_
    rintro e w16 ⟨rfl, n16, it16, hit16, l16⟩
    have P16 : Hid (Steps w16 (some ⟨w14.heap.size, 0, none⟩) l) := by show Steps _ _ _; have := l16.steps; rw [hit16] at this; exact this
    have N16 : Hid (Nw w w16) := Nw.trans N13.out n16
    have M16 : Hid (Nw w4 w16) := Nw.trans M13.out n16
    have H16 : Hid (MkdL w16 (.slice ga gn gc) it7 1) := MkdL.nw H13.out n16
    clear n16 l16 hit16
    go_wp2_with fail
    refine Calls.mono (HI.out _ _ P16.out) ?_
    rintro e w17 ⟨v17, rfl, ⟨it17, o17, hit17⟩, n17⟩
    obtain ⟨ka, kn, kc, hv17⟩ := OwnQ.slice o17.own
    subst hv17
    have R17 : Hid (RowL w17 (.slice ka kn kc) M) := by show RowL _ _ _; have := o17.row; rw [hit17] at this; exact this
    have N17 : Hid (Nw w w17) := Nw.trans N16.out n17
    have M17 : Hid (Nw w4 w17) := Nw.trans M16.out n17
    have H17 : Hid (MkdL w17 (.slice ga gn gc) it7 1) := MkdL.nw H16.out n17
    clear n17 o17 hit17
    go_wp2_with fail
    refine Calls.mono (HE.out _ _ _ R17.out (RowL.nw R4.out M17.out)) ?_
    rintro e w18 ⟨rfl, n18⟩
    have N18 : Hid (Nw w w18) := Nw.trans N17.out n18
    have H18 : Hid (MkdL w18 (.slice ga gn gc) it7 1) := MkdL.nw H17.out n18
    clear n18
    go_wp2_with fail
    refine Calls.mono (hhd.out _ H18.out) ?_
    rintro e w19 ⟨rfl, rfl⟩
    go_wp2
    go_ret
    exact ⟨rfl, N18.out⟩
  · have e1 : szSt l 1048576 = -1 := by unfold szSt; rw [if_neg h]
    rw [e1] at HZ
    clear e1 h
    generalize l.length = n at *
    go_enter Try.func4, Try.ntmps4
    go_wp2_with fail
    refine Calls.mono (HZ.out _ HR.out) ?_
    rintro e w1 ⟨rfl, n1⟩
    have N1 : Hid (Nw w w1) := n1
    clear n1
    go_wp2
    go_ret
    exact ⟨rfl, N1.out⟩
end Go.Proofs.Ytoajjdlgipphiaa
