/-
  The walk of the law on MoveLines; its argument's lengths are at most what memory holds.
-/
import Derived.Test.YtmojppchpeecmaaSMvN
import Derived.Test.YtmojppchpeecmaaLnK
namespace Go.Proofs.Ytmojppchpeecmaa
open Go.ChangeShapes Go.WideShapes Go.ChangeAt Go.RowKit
set_option linter.unusedVariables false

theorem mvR_len (A : Aff) (l : List LD) : (mvR A l).length ≤ l.length := by
  unfold mvR; split <;> simp
theorem mvR_many (A : Aff) (l : List LD) : manyL (mvR A l) ≤ manyL l := by
  unfold mvR; split
  · rw [manyL_map]; exact Nat.le_refl _
  · simp [manyL]
theorem lenL_of {l : List LD} (h : manyL l ≤ 1048576) : lenL l := fun i hi => Nat.le_trans (manyL_at l i hi) h
theorem nw_mid {W a b : World} {lo hi : Nat} (h : Nw W a) (k : Mid lo hi a b) (hl : W.heap.size ≤ lo) (hs : lo ≤ a.heap.size) : Nw W b := Below.trans h (Below.mono (k.below hs) hl)
set_option maxRecDepth 100000 in
set_option maxHeartbeats 8000000 in
/-- The walk of the law on MoveLines. -/
theorem walk_mv (w : World) (xa xb xc xd xe xf : Int) (a : Option Addr) (l : List LD) (c : Nat) (hb : (-9223372036854775808 ≤ xa ∧ xa ≤ 9223372036854775807) ∧ (-9223372036854775808 ≤ xb ∧ xb ≤ 9223372036854775807) ∧ (-9223372036854775808 ≤ xc ∧ xc ≤ 9223372036854775807) ∧ (-9223372036854775808 ≤ xd ∧ xd ≤ 9223372036854775807) ∧ (-9223372036854775808 ≤ xe ∧ xe ≤ 9223372036854775807) ∧ (-9223372036854775808 ≤ xf ∧ xf ≤ 9223372036854775807)) (hr : Lines w a l) (ho : ∀ i, i < l.length → (lnAt l i).pts.length ≤ maxLen) (hl : l.length ≤ maxLen) :
    Calls Try.prog 8 #[affV xa xb xc xd xe xf, .slice a l.length c] w fun e w' => e = .returned (.bool true) ∧ Below w.heap.size w w' := by
  clear hb
  have HZ : Hid (∀ w : World, Lines w a l → _) := fun w h => szLineS_any w a c l 1048576 (by omega) (by omega) hl ho h
  have HR : Hid (Lines w a l) := hr
  clear ho hr
  have a0 : Nw w (w.alloc (.cells #[.int .i64 xa, .int .i64 xb, .int .i64 xc, .int .i64 xd, .int .i64 xe, .int .i64 xf] 63)) := (Below.refl _ _).alloc (Nat.le_refl _) _
  have N0 : Hid (Nw w (w.alloc (.cells #[.int .i64 xa, .int .i64 xb, .int .i64 xc, .int .i64 xd, .int .i64 xe, .int .i64 xf] 63))) := a0
  have HB : Hid (B6 w.heap.size ⟨xa, xb, xc, xd, xe, xf⟩ (w.alloc (.cells #[.int .i64 xa, .int .i64 xb, .int .i64 xc, .int .i64 xd, .int .i64 xe, .int .i64 xf] 63))) := B6.new w ⟨xa, xb, xc, xd, xe, xf⟩ _
  have HS0 : Hid ((w.alloc (.cells #[.int .i64 xa, .int .i64 xb, .int .i64 xc, .int .i64 xd, .int .i64 xe, .int .i64 xf] 63)).heap.size = w.heap.size + 1) := World.size_alloc _ _
  clear a0
  unfold affV
  by_cases h : ((l.length + manyL l : Nat) : Int) ≤ 1048576
  · have e1 : szLn l 1048576 = 1048576 - ((l.length + manyL l : Nat) : Int) := by unfold szLn; rw [if_pos h]
    rw [e1] at HZ
    have hl1 : l.length ≤ 1048576 := by omega
    have hm1 : manyL l ≤ 1048576 := by omega
    have HA : Hid _ := fun w => toAffine_any w xa xb xc xd xe xf
    unfold affV at HA
    have HT : Hid (∀ w : World, Lines w a l → _) := fun w h => toLineS_any w a c l hl1 (lenL_of hm1) h
    have HS : Hid (∀ (w : World) (p : Option Addr), Lines w p l → _) := fun w p h => smove w ⟨xa, xb, xc, xd, xe, xf⟩ p l.length l hl1 hm1 h
    have HI : Hid (∀ (w : World) (p : Option Addr), Lines w p l → _) := fun w p h => imove w ⟨xa, xb, xc, xd, xe, xf⟩ p l.length l hl1 hm1 h
    unfold Aff.v at HS HI
    simp only at HS HI
    have HML : Hid ((mvR ⟨xa, xb, xc, xd, xe, xf⟩ l).length ≤ 1048576) := Nat.le_trans (mvR_len _ l) hl1
    have HMM : Hid (manyL (mvR ⟨xa, xb, xc, xd, xe, xf⟩ l) ≤ 1048576) := Nat.le_trans (mvR_many _ l) hm1
    generalize mvR ⟨xa, xb, xc, xd, xe, xf⟩ l = M at *
    generalize mvAll ⟨xa, xb, xc, xd, xe, xf⟩ l = ok at *
    have HE : Hid (∀ (w : World) (v1 v2 : Value), RowL w v1 M → RowL w v2 M → _) := fun w v1 v2 h1 h2 => eqLineS_any w v1 v2 M HML.out (lenL_of HMM.out) h1 h2
    have HX : Hid (∀ (w : World) (v1 v2 : Value), RowL w v1 l → RowL w v2 l → _) := fun w v1 v2 h1 h2 => eqLineS_any w v1 v2 l hl1 (lenL_of hm1) h1 h2
    have HL1 : Hid (l.length ≤ 1048576) := hl1
    have HM1 : Hid (manyL l ≤ 1048576) := hm1
    have hdz : decide (1048576 - ((l.length + manyL l : Nat) : Int) < 0) = false := decide_eq_false (by omega)
    generalize ((l.length + manyL l : Nat) : Int) = zz at *
    have hbb : (ok != ok) = false := by cases ok <;> rfl
    clear hm1 e1 h hl
    go_enter Try.func8, Try.ntmps8
    generalize hn : l.length = n at *
    have HN : Hid (l.length = n) := hn
    clear hn
    obtain ⟨W0, hW0⟩ : ∃ W0, w.alloc (.cells #[.int .i64 xa, .int .i64 xb, .int .i64 xc, .int .i64 xd, .int .i64 xe, .int .i64 xf] 63) = W0 := ⟨_, rfl⟩
    rw [hW0] at N0 HB HS0
    have Q0 : Hid (w.alloc (.cells #[.int .i64 xa, .int .i64 xb, .int .i64 xc, .int .i64 xd, .int .i64 xe, .int .i64 xf] 63) = W0) := hW0
    clear hW0
    go_wp2_with fail
    rw [Q0.out]
    refine Calls.mono (HZ.out _ (Lines.nw HR.out N0.out)) ?_
    rintro e w1 ⟨rfl, n1⟩
    have N1 : Hid (Nw W0 w1) := n1
    clear n1 Q0
    obtain ⟨q10, q11, q12, q13, q14, q15⟩ : B6 w.heap.size ⟨xa, xb, xc, xd, xe, xf⟩ w1 := B6.nw HB.out N1.out
    go_wp2_with fail
    refine Calls.mono (HA.out _) ?_
    rintro e w2 ⟨rfl, k2⟩
    have N2 : Hid (Nw W0 w2) := Nw.trans N1.out k2.nw
    clear k2 q10 q11 q12 q13 q14 q15
    go_wp2_with fail
    refine Calls.mono (HT.out _ (Lines.nw HR.out (Nw.trans N0.out N2.out))) ?_
    rintro e w3 ⟨rfl, n3, it3, hit3, l3⟩
    have P3 : Hid (Lines w3 (some ⟨w2.heap.size, 0, none⟩) l) := by show Lines _ _ _; have := l3.lines; rw [hit3] at this; exact this
    have N3 : Hid (Nw W0 w3) := Nw.trans N2.out n3
    clear n3 l3 hit3
    go_wp2_with fail
    refine Calls.mono (HS.out _ _ P3.out) ?_
    rintro e w4 ⟨v4, it4, rfl, o4, hit4, n4⟩
    obtain ⟨sa, sn, sc, hv4⟩ := OwnQ.slice o4.own
    subst hv4
    have R4 : Hid (RowL w4 (.slice sa sn sc) M) := by show RowL _ _ _; have := o4.row; rw [hit4] at this; exact this
    have N4 : Hid (Nw W0 w4) := Nw.trans N3.out n4
    clear n4 o4 hit4 P3
    go_wp2_with fail
    refine Calls.mono (HT.out _ (Lines.nw HR.out (Nw.trans N0.out N4.out))) ?_
    rintro e w5 ⟨rfl, n5, it5, hit5, l5⟩
    have P5 : Hid (Lines w5 (some ⟨w4.heap.size, 0, none⟩) l) := by show Lines _ _ _; have := l5.lines; rw [hit5] at this; exact this
    have hi5 : it5.length = n := by rw [← HN.out, ← hit5]; simp
    have L5 : Hid (LayLn w5 w4.heap.size it5 it5.length) := by show LayLn _ _ _ _; rw [hi5]; exact l5
    have HI5 : Hid (it5.map (·.2) = l) := hit5
    have hs5 : Hid (w4.heap.size < w5.heap.size) := l5.lt
    have N5 : Hid (Nw W0 w5) := Nw.trans N4.out n5
    have M5 : Hid (Nw w4 w5) := n5
    clear n5 l5 hit5
    obtain ⟨q50, q51, q52, q53, q54, q55⟩ : B6 w.heap.size ⟨xa, xb, xc, xd, xe, xf⟩ w5 := B6.nw HB.out N5.out
    go_wp2_with fail
    refine Calls.mono (HA.out _) ?_
    rintro e w6 ⟨rfl, k6⟩
    have N6 : Hid (Nw W0 w6) := Nw.trans N5.out k6.nw
    have M6 : Hid (Nw w4 w6) := Nw.trans M5.out k6.nw
    have K6 : Hid (Nw w5 w6) := k6.nw
    clear k6 q50 q51 q52 q53 q54 q55
    go_wp2_with fail
    refine Calls.mono (HI.out _ _ (Lines.nw P5.out K6.out)) ?_
    rintro e w7 ⟨v7, it7, rfl, o7, hit7, n7⟩
    obtain ⟨ga, gn, gc, hv7⟩ := OwnQ.slice o7.own
    subst hv7
    have O7 : Hid (OwnLn w7 w5.heap.size (.slice ga gn gc) it7) := OwnLn.base o7 (Below.size K6.out)
    have HI7 : Hid (it7.map (·.2) = M) := hit7
    have N7 : Hid (Nw W0 w7) := Nw.trans N6.out n7
    have M7 : Hid (Nw w4 w7) := Nw.trans M6.out n7
    have K7 : Hid (Nw w5 w7) := Nw.trans K6.out n7
    have R7 : Hid (RowL w7 (.slice ga gn gc) M) := by show RowL _ _ _; have := o7.row; rw [hit7] at this; exact this
    have Z7 : Hid (it7.length ≤ 1048576 ∧ manyL (it7.map (·.2)) ≤ 1048576) := by
      refine ⟨?_, by rw [hit7]; exact HMM.out⟩
      have := congrArg List.length hit7
      simp at this
      have := HML.out
      omega
    clear n7 o7 hit7
    go_wp2_with fail
    refine Calls.mono (HE.out _ _ _ R7.out (RowL.nw R4.out M7.out)) ?_
    rintro e w8 ⟨rfl, n8⟩
    have N8 : Hid (Nw W0 w8) := Nw.trans N7.out n8
    have M8 : Hid (Nw w4 w8) := Nw.trans M7.out n8
    have K8 : Hid (Nw w5 w8) := Nw.trans K7.out n8
    have O8 : Hid (OwnLn w8 w5.heap.size (.slice ga gn gc) it7) := OwnLn.nw O7.out n8
    clear n8 O7 R7
    go_wp2_with fail
    refine Calls.mono (HT.out _ (Lines.nw HR.out (Nw.trans N0.out N8.out))) ?_
    rintro e w9 ⟨rfl, n9, it9, hit9, l9⟩
    have hi9 : it9.length = n := by rw [← HN.out, ← hit9]; simp
    have P9 : Hid (RowL w9 (.slice (some ⟨w8.heap.size, 0, none⟩) n n) l) := by
      show RowL _ _ _
      have := l9.lines; rw [hit9] at this; exact ⟨_, _, by rw [HN.out], this⟩
    have N9 : Hid (Nw W0 w9) := Nw.trans N8.out n9
    have M9 : Hid (Nw w4 w9) := Nw.trans M8.out n9
    have K9 : Hid (Nw w5 w9) := Nw.trans K8.out n9
    have O9 : Hid (OwnLn w9 w5.heap.size (.slice ga gn gc) it7) := OwnLn.nw O8.out n9
    have X9 : Hid (RowL w9 (.slice (some ⟨w4.heap.size, 0, none⟩) n n) l) := by
      show RowL _ _ _
      exact ⟨_, _, by rw [HN.out], Lines.nw P5.out K9.out⟩
    clear n9 l9 hit9 hi9 O8
    go_wp2_with fail
    refine Calls.mono (HX.out _ _ _ X9.out P9.out) ?_
    rintro e w10 ⟨rfl, n10⟩
    have N10 : Hid (Nw W0 w10) := Nw.trans N9.out n10
    have M10 : Hid (Nw w4 w10) := Nw.trans M9.out n10
    have K10 : Hid (Nw w5 w10) := Nw.trans K9.out n10
    have O10 : Hid (OwnLn w10 w5.heap.size (.slice ga gn gc) it7) := OwnLn.nw O9.out n10
    have hmk := markL_lay w5 w10 w4.heap.size n n it5 L5.out K10.out (by rw [hi5]; have := HL1.out; omega) (by rw [HI5.out]; exact HM1.out)
    rw [hi5] at hmk
    generalize hkk : kAt (nsOf it5) 1 n = kk at hmk
    have HMK : Hid _ := hmk
    have hk0 : decide ((kk : Int) < 0) = false := decide_eq_false (by omega)
    clear n10 O9 X9 P9 hmk hkk
    go_wp2_with fail
    refine Calls.mono HMK.out ?_
    rintro e w11 ⟨rfl, m11⟩
    have hsz : w4.heap.size ≤ w10.heap.size := Below.size M10.out
    have N11 : Hid (Nw W0 w11) := nw_mid N10.out m11 (Below.size N4.out) hsz
    have M11 : Hid (Nw w4 w11) := nw_mid M10.out m11 (Nat.le_refl _) hsz
    have O11 : Hid (OwnLn w11 w5.heap.size (.slice ga gn gc) it7) := OwnLn.mid O10.out m11 (Nat.le_refl _)
    have G11 : Hid (w5.heap.size ≤ w11.heap.size) := Nat.le_trans (Below.size K10.out) m11.size
    have R11 : Hid (RowL w11 (.slice ga gn gc) M) := by show RowL _ _ _; have := O11.out.row; rw [HI7.out] at this; exact this
    clear m11 hsz O10 HMK L5 HI5
    go_wp2_with fail
    refine Calls.mono (HE.out _ _ _ R11.out (RowL.nw R4.out M11.out)) ?_
    rintro e w12 ⟨rfl, n12⟩
    have N12 : Hid (Nw W0 w12) := Nw.trans N11.out n12
    have M12 : Hid (Nw w4 w12) := Nw.trans M11.out n12
    have O12 : Hid (OwnLn w12 w5.heap.size (.slice ga gn gc) it7) := OwnLn.nw O11.out n12
    have G12 : Hid (w5.heap.size ≤ w12.heap.size) := Nat.le_trans G11.out (Below.size n12)
    have hmk := markL_own w12 w5.heap.size (.slice ga gn gc) it7 O12.out Z7.out.1 Z7.out.2
    have hhd : Hid (∀ w, MkdL w (.slice ga gn gc) it7 1 → _) := fun w h => heldL_own w (.slice ga gn gc) it7 h Z7.out.1 Z7.out.2
    generalize kAt (nsOf it7) 1 it7.length = mm at hmk hhd
    have HMK : Hid _ := hmk
    have hm0 : decide ((mm : Int) < 0) = false := decide_eq_false (by omega)
    have hmm : ((mm : Int) != (mm : Int)) = false := by simp
    clear n12 R11 O11 hmk
    go_wp2_with fail
    refine Calls.mono HMK.out ?_
    rintro e w13 ⟨rfl, m13, h13⟩
    have s45 : w4.heap.size ≤ w5.heap.size := Nat.le_of_lt hs5.out
    have N13 : Hid (Nw W0 w13) := nw_mid N12.out m13 (Nat.le_trans (Below.size N4.out) s45) G12.out
    have M13 : Hid (Nw w4 w13) := nw_mid M12.out m13 s45 G12.out
    have H13 : Hid (MkdL w13 (.slice ga gn gc) it7 1) := h13
    clear m13 h13 s45 HMK O12
    go_wp2_with fail
    refine Calls.mono (hhd.out _ H13.out) ?_
    rintro e w14 ⟨rfl, rfl⟩
    obtain ⟨q130, q131, q132, q133, q134, q135⟩ : B6 w.heap.size ⟨xa, xb, xc, xd, xe, xf⟩ w14 := B6.nw HB.out N13.out
    go_wp2_with fail
    refine Calls.mono (HA.out _) ?_
    rintro e w15 ⟨rfl, k15⟩
    have N15 : Hid (Nw W0 w15) := Nw.trans N13.out k15.nw
    have M15 : Hid (Nw w4 w15) := Nw.trans M13.out k15.nw
    have H15 : Hid (MkdL w15 (.slice ga gn gc) it7 1) := MkdL.nw H13.out k15.nw
    clear k15 q130 q131 q132 q133 q134 q135
    go_wp2_with fail
    refine Calls.mono (HT.out _ (Lines.nw HR.out (Nw.trans N0.out N15.out))) ?_
    rintro e w16 ⟨rfl, n16, it16, hit16, l16⟩
    have P16 : Hid (Lines w16 (some ⟨w15.heap.size, 0, none⟩) l) := by show Lines _ _ _; have := l16.lines; rw [hit16] at this; exact this
    have N16 : Hid (Nw W0 w16) := Nw.trans N15.out n16
    have M16 : Hid (Nw w4 w16) := Nw.trans M15.out n16
    have H16 : Hid (MkdL w16 (.slice ga gn gc) it7 1) := MkdL.nw H15.out n16
    clear n16 l16 hit16
    go_wp2_with fail
    refine Calls.mono (HI.out _ _ P16.out) ?_
    rintro e w17 ⟨v17, it17, rfl, o17, hit17, n17⟩
    obtain ⟨ka, kn, kc, hv17⟩ := OwnQ.slice o17.own
    subst hv17
    have R17 : Hid (RowL w17 (.slice ka kn kc) M) := by show RowL _ _ _; have := o17.row; rw [hit17] at this; exact this
    have N17 : Hid (Nw W0 w17) := Nw.trans N16.out n17
    have M17 : Hid (Nw w4 w17) := Nw.trans M16.out n17
    have H17 : Hid (MkdL w17 (.slice ga gn gc) it7 1) := MkdL.nw H16.out n17
    clear n17 o17 hit17
    go_wp2_with fail
    refine Calls.mono (HE.out _ _ _ R17.out (RowL.nw R4.out M17.out)) ?_
    rintro e w18 ⟨rfl, n18⟩
    have N18 : Hid (Nw W0 w18) := Nw.trans N17.out n18
    have H18 : Hid (MkdL w18 (.slice ga gn gc) it7 1) := MkdL.nw H17.out n18
    clear n18
    go_wp2_with fail
    refine Calls.mono (hhd.out _ H18.out) ?_
    rintro e w19 ⟨rfl, rfl⟩
    go_wp2
    go_ret
    exact ⟨rfl, Nw.trans N0.out N18.out⟩
  · have e1 : szLn l 1048576 = -1 := by unfold szLn; rw [if_neg h]
    rw [e1] at HZ
    clear e1 h
    generalize l.length = n at *
    go_enter Try.func8, Try.ntmps8
    go_wp2_with fail
    refine Calls.mono (HZ.out _ (Lines.nw HR.out N0.out)) ?_
    rintro e w1 ⟨rfl, n1⟩
    have N1 : Hid (Nw w w1) := Nw.trans N0.out n1
    clear n1
    go_wp2
    go_ret
    exact ⟨rfl, N1.out⟩
end Go.Proofs.Ytmojppchpeecmaa
