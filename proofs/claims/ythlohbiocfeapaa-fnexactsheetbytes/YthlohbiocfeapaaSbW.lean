/-
  The walk of the law on SheetBytes; its argument's length is at most what memory holds; each theorem names its conditions.
-/
import Derived.Test.YthlohbiocfeapaaSbK
import Derived.Test.YthlohbiocfeapaaSbR
namespace Go.Proofs.Ythlohbiocfeapaa
open Go.ChangeShapes Go.WideShapes Go.ChangeAt Go.RowKit
set_option linter.unusedVariables false

theorem Lies.grown {lo hi : Nat} {w w' : World} {v : Value} {cs : List Int} {g : Nat} (h : Lies lo hi w v cs) (k : w.grownBy w' (some g)) (hg : g < lo ∨ hi ≤ g) : Lies lo hi w' v cs := by
  rcases h with h | ⟨b, c, h1, h2, h3, h4⟩
  · exact Or.inl h
  · have hb : some b ≠ some g := fun e => by injection e; omega
    exact Or.inr ⟨b, c, h1, h2, h3, Nat.lt_of_lt_of_le h4.1 k.size, fun i hi => (World.cell?_of_block (w := w) (a := ⟨b, 0 + i, none⟩) (k.block b h4.1 hb)).trans (h4.2.1 i hi), fun o => (World.frozen?_of_block (w := w) (a := ⟨b, o, none⟩) (k.block b h4.1 hb)).trans (h4.2.2 o)⟩
theorem Lies.slice {lo hi : Nat} {w : World} {v : Value} {cs : List Int} (h : Lies lo hi w v cs) : ∃ a n c, v = .slice a n c := by
  rcases h with ⟨rfl, _⟩ | ⟨b, c, rfl, _⟩
  · exact ⟨_, _, _, rfl⟩
  · exact ⟨_, _, _, rfl⟩
set_option maxRecDepth 100000 in
set_option maxHeartbeats 8000000 in
/-- The walk of the law on SheetBytes. -/
theorem walk_sheetb (w : World) (pw ph : Int) (a : Option Addr) (l : List Edg) (c : Nat) (hr : Edgs w a l) (hl : l.length ≤ maxLen) :
    Calls Try.prog 14 #[.agg #[.int .i64 pw, .int .i64 ph, .slice a l.length c]] w fun e w' => e = .returned (.bool true) ∧ Below w.heap.size w w' := by
  have HZ : Hid _ := fun w => szSheet_any w ⟨pw, ph⟩ a l.length c 1048576 (by omega) (by omega) hl
  unfold mskV at HZ
  simp only at HZ
  obtain ⟨W, hW⟩ : ∃ W, w.alloc (.cells #[.int .i64 pw, .int .i64 ph, .slice a l.length c] 65) = W := ⟨_, rfl⟩
  have HP : Hid (MB W w.heap.size ⟨pw, ph⟩ (.slice a l.length c)) := by show MB _ _ _ _; rw [← hW]; exact MB.new w ⟨pw, ph⟩ _ _
  have NW : Hid (Nw w W) := by show Nw w W; rw [← hW]; exact (Below.refl _ _).alloc (Nat.le_refl _) _
  have HI : Hid (Edgs W a l) := hr.nw NW.out
  have HW : Hid (_ = W) := hW
  clear hW hr
  by_cases h : (l.length : Int) ≤ 1048576
  · rw [if_pos h] at HZ
    have hl1 : l.length ≤ 1048576 := by omega
    have HT : Hid (∀ w : World, Edgs w a l → _) := fun w h => toSheet_any w ⟨pw, ph⟩ a c l hl1 h
    have HS : Hid (∀ (w : World) (g : Nat), Edgs w (some ⟨g, 0, none⟩) l → _) := fun w g h => sshB w ⟨pw, ph⟩ (some ⟨g, 0, none⟩) l.length l hl1 h
    have HG : Hid (∀ (w : World) (g : Nat), Edgs w (some ⟨g, 0, none⟩) l → _) := fun w g h => ishB w ⟨pw, ph⟩ (some ⟨g, 0, none⟩) l.length l hl1 h
    have HMS : Hid (∀ (w : World) (v : Value), NumQ w v l → _) := fun w v h => markSh_any w ⟨pw, ph⟩ v l 1 hl1 (by omega) h
    have hzl : (sbV ⟨pw, ph⟩ l).length ≤ 1048576 := Nat.le_trans (sbV_len _ _) (by decide)
    unfold mskV at HT HS HG HMS
    simp only at HT HS HG HMS
    generalize shB ⟨pw, ph⟩ l = V at *
    generalize sbV ⟨pw, ph⟩ l = Z at *
    have HE : Hid (∀ (w : World) (lo1 hi1 lo2 hi2 : Nat) (v1 v2 : Value), Lies lo1 hi1 w v1 Z → Lies lo2 hi2 w v2 Z → _) := fun w lo1 hi1 lo2 hi2 v1 v2 h1 h2 => eqByte_lies w lo1 hi1 lo2 hi2 v1 v2 Z hzl h1 h2
    have HM : Hid (∀ (w : World) (lo hi : Nat) (v : Value), Lies lo hi w v Z → _) := fun w lo hi v h => mark_lies w lo hi v 1 Z (by omega) (by omega) hzl h
    have HH : Hid (∀ (w : World) (lo hi : Nat) (v : Value), Lies lo hi w v (markd 1 Z.length) → _) := fun w lo hi v h => held_lies w lo hi v 1 Z.length (by omega) (by omega) hzl h
    have hbb : (V != V) = false := by cases V <;> rfl
    have hd : decide (1048576 - (l.length : Int) < 0) = false := decide_eq_false (by omega)
    have HL : Hid (l.length ≤ 1048576) := hl1
    obtain ⟨K, hK⟩ : ∃ K : Int, ((1 + 4 * l.length : Nat) : Int) = K := ⟨_, rfl⟩
    obtain ⟨M, hM⟩ : ∃ M : Int, 1 + (Z.length : Int) = M := ⟨_, rfl⟩
    rw [hK] at HMS
    rw [hM] at HM HH
    have hk0 : decide (K < 0) = false := decide_eq_false (by omega)
    have hm0 : decide (M < 0) = false := decide_eq_false (by omega)
    have hmm : (M != M) = false := by simp
    generalize hn : l.length = n at *
    have HN : Hid (l.length = n) := hn
    clear hl1 hl hn h hzl hK hM
    go_enter Try.func14, Try.ntmps14
    go_wp2_with fail
    rw [HW.out]
    refine Calls.mono (HZ.out _) ?_
    rintro e w1 ⟨rfl, n1⟩
    have N1 : Hid (Nw W w1) := n1
    clear n1
    obtain ⟨q0, q1, q2⟩ := MB.nw HP.out N1.out
    simp only at q0 q1 q2
    go_wp2_with fail
    refine Calls.mono (HT.out _ (Edgs.nw HI.out N1.out)) ?_
    rintro e w2 ⟨g2, rfl, n2, _, l2⟩
    have N2 : Hid (Nw W w2) := Nw.trans N1.out n2
    have I2 : Hid (Edgs w2 (some ⟨g2, 0, none⟩) l) := l2.edgs
    clear n2 l2 q0 q1 q2
    go_wp2_with fail
    refine Calls.mono (HS.out _ _ I2.out) ?_
    rintro e w3 ⟨v0, rfl, o3, n3⟩
    have V3 : Hid (Lies w2.heap.size w3.heap.size w3 v0 Z) := Own.lies o3
    have N3 : Hid (Nw W w3) := Nw.trans N2.out n3
    obtain ⟨sa, sn, sc, rfl⟩ := Lies.slice V3.out
    clear n3 I2 o3
    obtain ⟨q0, q1, q2⟩ := MB.nw HP.out N3.out
    simp only at q0 q1 q2
    go_wp2_with fail
    refine Calls.mono (HT.out _ (Edgs.nw HI.out N3.out)) ?_
    rintro e w4 ⟨g4, rfl, n4, hg4, l4⟩
    have N34 : Hid (Nw w3 w4) := n4
    have G4 : Hid (w3.heap.size ≤ g4 ∧ g4 < w4.heap.size) := ⟨hg4, l4.lt⟩
    have L4 : Hid (LayS w4 g4 l) := l4
    clear n4 l4 q0 q1 q2 hg4
    obtain ⟨W5, hW5⟩ : ∃ W5, w4.alloc (.cells #[.int .i64 pw, .int .i64 ph, .slice (some ⟨g4, 0, none⟩) n n] 57) = W5 := ⟨_, rfl⟩
    have n5 : Nw w4 W5 := by rw [← hW5]; exact (Below.refl _ _).alloc (Nat.le_refl _) _
    have Z5 : Hid (w4.heap.size + 1 ≤ W5.heap.size) := by show _ ≤ _; rw [← hW5]; simp
    have P5 : Hid (MB W5 w4.heap.size ⟨pw, ph⟩ (.slice (some ⟨g4, 0, none⟩) n n)) := by show MB _ _ _ _; rw [← hW5]; exact MB.new w4 ⟨pw, ph⟩ _ _
    have L5 : Hid (LayS W5 g4 l) := LayS.nw L4.out n5
    have N35 : Hid (Nw w3 W5) := Nw.trans N34.out n5
    have H5 : Hid (_ = W5) := hW5
    clear hW5 n5
    go_wp2_with fail
    rw [H5.out]
    refine Calls.mono (HG.out _ _ (LayS.edgs L5.out)) ?_
    rintro e w6 ⟨v1, rfl, o6, n6⟩
    have V6 : Hid (Lies W5.heap.size w6.heap.size w6 v1 Z) := Own.lies o6
    have N56 : Hid (Nw W5 w6) := n6
    obtain ⟨ta, tn, tc, rfl⟩ := Lies.slice V6.out
    clear n6 o6 H5
    go_wp2_with fail
    refine Calls.mono (HE.out _ _ _ _ _ _ _ V6.out (Lies.nw V3.out (Nw.trans N35.out N56.out))) ?_
    rintro e w7 ⟨rfl, n7⟩
    have N57 : Hid (Nw W5 w7) := Nw.trans N56.out n7
    have V7 : Hid (Lies W5.heap.size w6.heap.size w7.drew (.slice ta tn tc) Z) := Lies.nw V6.out (Below.drew n7)
    have N57d : Hid (Nw W5 w7.drew) := Below.drew N57.out
    have Z7 : Hid (w6.heap.size ≤ w7.heap.size) := Below.size n7
    clear n7
    go_wp2
    have hq : MB w7.drew w.heap.size ⟨pw, ph⟩ (.slice a l.length c) := by have := MB.nw HP.out (Nw.trans N3.out (Nw.trans N35.out N57d.out)); rw [HN.out]; exact this
    have hro : RowQ w7.drew (.slice (some ⟨g4, 0, none⟩) n n) l := by have := LayS.row (c := n) (LayS.nw L5.out N57d.out); rw [HN.out] at this; exact this
    refine reg_change (ops' := opsOf 10 Try.f14) (by kernel_rfl) ?_
    refine SBX.run ⟨w4.heap.size, w.heap.size, ⟨pw, ph⟩, .slice (some ⟨g4, 0, none⟩) n n, a, c, l, w7.drew, _⟩ ⟨MB.nw P5.out N57d.out, hq, Edgs.nw HI.out (Nw.trans N3.out (Nw.trans N35.out N57d.out)), hro, by rw [HN.out]; exact HL.out, rfl, rfl, rfl⟩ w7 (Below.refl _ _) ?_
    rintro γ w8 ⟨hg2, n8⟩
    replace n8 : Nw w7.drew w8 := n8
    have N58 : Hid (Nw W5 w8) := Nw.trans N57d.out n8
    have V8 : Hid (Lies W5.heap.size w6.heap.size w8 (.slice ta tn tc) Z) := Lies.nw V7.out n8
    have Z8 : Hid (w6.heap.size ≤ w8.heap.size) := Nat.le_trans Z7.out (Below.size n8.drw)
    clear n8 hq hro
    simp only [hg2, Act.put, List.setIfInBounds_toArray, List.set_cons_zero, List.set_cons_succ]
    generalize γ 0 = gm0 at *
    generalize γ 1 = gm1 at *
    obtain ⟨q0, q1, q2⟩ := MB.nw P5.out N58.out
    simp only at q0 q1 q2
    have NQ8 : Hid (NumQ w8 (.slice (some ⟨g4, 0, none⟩) n n) l) := by have := LayS.num (LayS.nw L5.out N58.out); rw [HN.out] at this; exact this
    go_wp2_with fail
    refine Calls.mono (HMS.out _ _ NQ8.out) ?_
    rintro e w9 ⟨rfl, k9, _⟩
    replace k9 : w8.grownBy w9 (some g4) := k9
    have V9 : Hid (Lies W5.heap.size w6.heap.size w9 (.slice ta tn tc) Z) := Lies.grown V8.out k9 (Or.inl (by have := G4.out; have := Z5.out; omega))
    have U9 : Hid (Lies w2.heap.size w3.heap.size w9 (.slice sa sn sc) Z) := Lies.grown (Lies.nw V3.out (Nw.trans N35.out N58.out)) k9 (Or.inr G4.out.1)
    have N39 : Hid (Nw w3 w9) := gr_below (Nw.trans N35.out N58.out) k9 (fun g e => by injection e with e; have := G4.out; omega) (Nat.le_trans (Below.size N35.out) (Below.size N58.out))
    have Z9 : Hid (w6.heap.size ≤ w9.heap.size) := Nat.le_trans Z8.out k9.size
    clear k9 q0 q1 q2
    go_wp2_with fail
    refine Calls.mono (HE.out _ _ _ _ _ _ _ V9.out U9.out) ?_
    rintro e w10 ⟨rfl, n10⟩
    have V10 : Hid (Lies W5.heap.size w6.heap.size w10 (.slice ta tn tc) Z) := Lies.nw V9.out n10
    have U10 : Hid (Lies w2.heap.size w3.heap.size w10 (.slice sa sn sc) Z) := Lies.nw U9.out n10
    have N310 : Hid (Nw w3 w10) := Nw.trans N39.out n10
    clear n10
    go_wp2_with fail
    refine Calls.mono (HM.out _ _ _ _ V10.out) ?_
    rintro e w11 ⟨rfl, m11, v11⟩
    have V11 : Hid (Lies W5.heap.size w6.heap.size w11 (.slice ta tn tc) (markd 1 Z.length)) := v11
    have U11 : Hid (Lies w2.heap.size w3.heap.size w11 (.slice sa sn sc) Z) := Lies.mid U10.out m11 (Or.inl (Below.size N35.out))
    have N311 : Hid (Nw w3 w11) := Below.trans N310.out (m11.below (Below.size N35.out))
    clear m11 v11
    go_wp2_with fail
    refine Calls.mono (HH.out _ _ _ _ V11.out) ?_
    rintro e w12 ⟨rfl, rfl⟩
    obtain ⟨q0, q1, q2⟩ := MB.nw HP.out (Nw.trans N3.out N311.out)
    simp only at q0 q1 q2
    go_wp2_with fail
    refine Calls.mono (HT.out _ (Edgs.nw HI.out (Nw.trans N3.out N311.out))) ?_
    rintro e w13 ⟨g13, rfl, n13, _, l13⟩
    have N13 : Hid (Nw w12 w13) := n13
    have I13 : Hid (Edgs w13 (some ⟨g13, 0, none⟩) l) := l13.edgs
    clear n13 l13 q0 q1 q2
    go_wp2_with fail
    refine Calls.mono (HG.out _ _ I13.out) ?_
    rintro e w14 ⟨v3, rfl, o14, n14⟩
    have V14 : Hid (Lies w13.heap.size w14.heap.size w14 v3 Z) := Own.lies o14
    have N14 : Hid (Nw w12 w14) := Nw.trans N13.out n14
    obtain ⟨ra, rn, rc, rfl⟩ := Lies.slice V14.out
    clear n14 o14 I13
    go_wp2_with fail
    refine Calls.mono (HE.out _ _ _ _ _ _ _ V14.out (Lies.nw U11.out N14.out)) ?_
    rintro e w15 ⟨rfl, n15⟩
    have N15 : Hid (Nw w12 w15) := Nw.trans N14.out n15
    clear n15
    go_wp2_with fail
    refine Calls.mono (HH.out _ _ _ _ (Lies.nw V11.out N15.out)) ?_
    rintro e w16 ⟨rfl, rfl⟩
    go_wp2
    go_ret
    exact ⟨rfl, Nw.trans NW.out (Nw.trans N3.out (Nw.trans N311.out N15.out))⟩
  · rw [if_neg h] at HZ
    clear h
    generalize l.length = n at *
    go_enter Try.func14, Try.ntmps14
    go_wp2_with fail
    rw [HW.out]
    refine Calls.mono (HZ.out _) ?_
    rintro e w1 ⟨rfl, n1⟩
    have N1 : Hid (Nw w w1) := Nw.trans NW.out n1
    clear n1
    go_wp2
    go_ret
    exact ⟨rfl, N1.out⟩
end Go.Proofs.Ythlohbiocfeapaa
