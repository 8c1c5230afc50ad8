/-
  Matches, the program's and the specification's, and the walk of the law's text; each theorem names its conditions.
-/
import Derived.Test.YtaeepbjdhcbofaaDoorISels
import Derived.Test.YtaeepbjdhcbofaaDoorSSels
import Derived.Test.YtaeepbjdhcbofaaDoorSelSm
import Derived.Test.YtaeepbjdhcbofaaDoorMkSm
import Derived.Test.YtaeepbjdhcbofaaDoorMkE
import Derived.Test.YtaeepbjdhcbofaaDoorPsOpen
namespace Go.Proofs.YtaeepbjdhcbofaaDoor
open Go.ChangeShapes Go.WideShapes Go.ChangeAt Go.RowKit
set_option linter.unusedVariables false

theorem elB_no {l : List ND} {k : Int} (h : ¬ (0 ≤ k ∧ k < l.length)) : elB l k = false := by unfold elB; rw [decide_eq_false h]; rfl
theorem elB_yes {l : List ND} {k : Nat} (h : k < l.length) : elB l k = !decide ((nodeAt l k).name.size = 0) := by
  unfold elB; rw [decide_eq_true (by omega), Int.toNat_natCast]; rfl
set_option maxHeartbeats 2000000 in
theorem ielement (w : World) (a : Option Addr) (c : Nat) (l : List ND) (k : Int) (hk : -9223372036854775808 ≤ k ∧ k ≤ 9223372036854775807) (hl : l.length ≤ 1048576) (hr : Nodes w a l) :
    Calls Tryd.prog 21 #[.slice a l.length c, .int .i64 k] w fun e w' => e = .returned (.bool (elB l k)) ∧ Nw w w' := by
  by_cases h : 0 ≤ k ∧ k < l.length
  · obtain ⟨n, rfl⟩ : ∃ n : Nat, k = (n : Int) := ⟨k.toNat, by omega⟩
    have hn : n < l.length := by omega
    have HX : Hid (elB l n = !decide ((nodeAt l n).name.size = 0)) := elB_yes hn
    rcases hr with h0 | ⟨b, o, rfl, hb, hc⟩
    · rw [h0] at hn; simp at hn
    obtain ⟨q0, q1, ⟨qa, qc, q2, qcap, q4⟩, q3⟩ := hc n hn
    clear hc q4 qcap
    have HI : Hid (Calls Tryd.prog 40 #[.agg #[.string (nodeAt l n).name, .int .i64 (nodeAt l n).up, .slice qa (nodeAt l n).attrs.length qc, .string (nodeAt l n).text]] w fun e w' => e = .returned (.bool (elB l n)) ∧ Nw w w') := by
      show Calls _ _ _ _ _
      rw [HX.out]
      exact iisElem _ _ _ _ _
    generalize elB l n = eb at *
    clear HX
    go_enter Tryd.func21, Tryd.ntmps21
    go_wp2_with (go_at_call 40; refine Calls.mono HI.out ?_; rintro e w1 ⟨rfl, k1⟩)
    go_ret
    exact ⟨rfl, k1⟩
  · have HX : Hid (elB l k = false) := elB_no h
    clear hr
    by_cases h0 : 0 ≤ k
    · have h1 : ¬ k < (l.length : Int) := by omega
      clear h
      go_enter Tryd.func21, Tryd.ntmps21
      go_wp2
      go_ret
      exact ⟨ret_bool HX.out.symm, Below.refl _ _⟩
    · clear h
      go_enter Tryd.func21, Tryd.ntmps21
      go_wp2
      go_ret
      exact ⟨ret_bool HX.out.symm, Below.refl _ _⟩
set_option maxHeartbeats 2000000 in
theorem selement (w : World) (a : Option Addr) (c : Nat) (l : List ND) (k : Int) (hk : -9223372036854775808 ≤ k ∧ k ≤ 9223372036854775807) (hl : l.length ≤ 1048576) (hr : Nodes w a l) :
    Calls Tryd.prog 15 #[.slice a l.length c, .int .i64 k] w fun e w' => e = .returned (.bool (elB l k)) ∧ Nw w w' := by
  by_cases h : 0 ≤ k ∧ k < l.length
  · obtain ⟨n, rfl⟩ : ∃ n : Nat, k = (n : Int) := ⟨k.toNat, by omega⟩
    have hn : n < l.length := by omega
    have hx : elB l n = !decide ((nodeAt l n).name.size = 0) := elB_yes hn
    have hd : decide ((0 : Int) ≤ (n : Int) ∧ (n : Int) ≤ (l.length : Int) - 1) = true := by simp; omega
    rcases hr with h0 | ⟨b, o, rfl, hb, hc⟩
    · rw [h0] at hn; simp at hn
    obtain ⟨q0, q1, ⟨qa, qc, q2, qcap, q4⟩, q3⟩ := hc n hn
    clear hc q4 qcap q1 q2 q3
    by_cases hz : (nodeAt l n).name.size = 0
    · have HX : Hid (elB l n = false) := by show _ = _; rw [hx, hz]; rfl
      have hq := empty_of hz
      rw [hq] at q0
      clear hx hz hq
      go_enter Tryd.func15, Tryd.ntmps15
      go_wp2_with (go_at_call 28; refine (in_any _ _ _ _).mono ?_; rw [hd]; rintro e w' ⟨rfl, hq⟩; have hq2 := hq.symm; clear hq; subst hq2)
      go_ret
      exact ⟨ret_bool HX.out.symm, Below.refl _ _⟩
    · have HX : Hid (elB l n = true) := by show _ = _; rw [hx]; simp [hz]
      have n1 := ne_nil (s := (nodeAt l n).name) (by omega)
      have n2 := ne_emp (s := (nodeAt l n).name) (by omega)
      generalize (nodeAt l n).name = nm at *
      clear hx hz
      go_enter Tryd.func15, Tryd.ntmps15
      go_wp2_with (go_at_call 28; refine (in_any _ _ _ _).mono ?_; rw [hd]; rintro e w' ⟨rfl, hq⟩; have hq2 := hq.symm; clear hq; subst hq2)
      go_ret
      exact ⟨ret_bool HX.out.symm, Below.refl _ _⟩
  · have HX : Hid (elB l k = false) := elB_no h
    have hd : decide ((0 : Int) ≤ k ∧ k ≤ (l.length : Int) - 1) = false := by simp; omega
    clear hr h
    go_enter Tryd.func15, Tryd.ntmps15
    go_wp2_with (go_at_call 28; refine (in_any _ _ _ _).mono ?_; rw [hd]; rintro e w' ⟨rfl, hq⟩; have hq2 := hq.symm; clear hq; subst hq2)
    go_ret
    exact ⟨ret_bool HX.out.symm, Below.refl _ _⟩
set_option maxHeartbeats 2000000 in
theorem imatches (w : World) (a : Option Addr) (c : Nat) (l : List ND) (k : Int) (ps : Option Addr) (pc : Nat) (sel : List PD) (hk : -9223372036854775808 ≤ k ∧ k ≤ 9223372036854775807) (ht : Tb w) (hl : l.length ≤ 1048576) (hz : Small l) (hr : Nodes w a l) (hsl : sel.length ≤ 1048576) (hsz : smallPs sel) (hp : Parts w ps sel) :
    Calls Tryd.prog 9 #[.slice a l.length c, .int .i64 k, .slice ps sel.length pc] w fun e w' => e = .returned (.bool (matB l k sel)) ∧ Nw w w' := by
  have HT : Hid (Tb w) := ht
  have HZ : Hid (Small l) := hz
  have HR : Hid (Nodes w a l) := hr
  have HSZ : Hid (smallPs sel) := hsz
  have HP : Hid (Parts w ps sel) := hp
  clear ht hz hr hsz hp
  have hm : matB l k sel = (goodB l && (elB l k && (selB sel && matchB l k.toNat sel))) := rfl
  cases hg : goodB l
  · have HX : Hid (matB l k sel = false) := by show _ = _; rw [hm, hg]; rfl
    go_enter Tryd.func9, Tryd.ntmps9
    go_wp2_with (go_at_call 20; refine Calls.mono (igoodNodes _ _ _ l hl HT.out HZ.out HR.out) ?_; rw [hg]; rintro e w1 ⟨rfl, k1⟩)
    go_ret
    exact ⟨ret_bool HX.out.symm, k1⟩
  · cases he : elB l k
    · have HX : Hid (matB l k sel = false) := by show _ = _; rw [hm, hg, he]; rfl
      go_enter Tryd.func9, Tryd.ntmps9
      go_wp2_with (first | (go_at_call 20; refine Calls.mono (igoodNodes _ _ _ l hl HT.out HZ.out HR.out) ?_; rw [hg]; rintro e w1 ⟨rfl, k1⟩) | (go_at_call 21; refine Calls.mono (ielement _ _ _ l k hk hl (HR.out.nw k1)) ?_; rw [he]; rintro e w2 ⟨rfl, k2⟩))
      go_ret
      exact ⟨ret_bool HX.out.symm, k1.trans k2⟩
    · cases hs : selB sel
      · have HX : Hid (matB l k sel = false) := by show _ = _; rw [hm, hg, he, hs]; rfl
        go_enter Tryd.func9, Tryd.ntmps9
        go_wp2_with (first | (go_at_call 20; refine Calls.mono (igoodNodes _ _ _ l hl HT.out HZ.out HR.out) ?_; rw [hg]; rintro e w1 ⟨rfl, k1⟩) | (go_at_call 21; refine Calls.mono (ielement _ _ _ l k hk hl (HR.out.nw k1)) ?_; rw [he]; rintro e w2 ⟨rfl, k2⟩) | (go_at_call 22; refine Calls.mono (igoodSel _ _ _ sel hsl HSZ.out (HP.out.nw (Nw.trans k1 k2))) ?_; rw [hs]; rintro e w3 ⟨rfl, k3⟩))
        go_ret
        exact ⟨ret_bool HX.out.symm, (k1.trans k2).trans k3⟩
      · have hgp := (goodB_iff l).1 hg
        have hsp := (selB_iff sel).1 hs
        have hke : 0 ≤ k ∧ k < l.length := by
          by_cases h : 0 ≤ k ∧ k < l.length
          · exact h
          · rw [elB_no h] at he; cases he
        have HX : Hid (matB l k sel = matchB l k.toNat sel) := by show _ = _; rw [hm, hg, he, hs]; rfl
        clear hm
        obtain ⟨n, rfl⟩ : ∃ n : Nat, k = (n : Int) := ⟨k.toNat, by omega⟩
        rw [Int.toNat_natCast] at HX
        have HS : ∀ W, Nw w W → Hid (Calls Tryd.prog 23 #[.slice a l.length c, .int .i64 (n : Int), .slice ps sel.length pc] W fun e w' => e = .returned (.bool (matchB l n sel)) ∧ Nw W w') := fun W hW =>
          isels W a c l n ps pc sel hgp.1.2 (by omega) (ups_of l l.length (Nat.le_refl _) hgp.2) HZ.out (HR.out.nw hW) hsp.1.1 hsp.1.2 HSZ.out (HP.out.nw hW)
        clear hgp hsp
        go_enter Tryd.func9, Tryd.ntmps9
        go_wp2_with (first | (go_at_call 20; refine Calls.mono (igoodNodes _ _ _ l hl HT.out HZ.out HR.out) ?_; rw [hg]; rintro e w1 ⟨rfl, k1⟩) | (go_at_call 21; refine Calls.mono (ielement _ _ _ l n hk hl (HR.out.nw k1)) ?_; rw [he]; rintro e w2 ⟨rfl, k2⟩) | (go_at_call 22; refine Calls.mono (igoodSel _ _ _ sel hsl HSZ.out (HP.out.nw (Nw.trans k1 k2))) ?_; rw [hs]; rintro e w3 ⟨rfl, k3⟩) | (go_at_call 23; refine Calls.mono (HS _ ((Nw.trans k1 k2).trans k3)).out ?_; rintro e w4 ⟨rfl, k4⟩))
        go_ret
        exact ⟨ret_bool HX.out.symm, ((k1.trans k2).trans k3).trans k4⟩
set_option maxHeartbeats 2000000 in
theorem smatches (w : World) (a : Option Addr) (c : Nat) (l : List ND) (k : Int) (ps : Option Addr) (pc : Nat) (sel : List PD) (hk : -9223372036854775808 ≤ k ∧ k ≤ 9223372036854775807) (hl : l.length ≤ 1048576) (hz : Small l) (hr : Nodes w a l) (hsl : sel.length ≤ 1048576) (hsz : smallPs sel) (hp : Parts w ps sel) :
    Calls Tryd.prog 6 #[.slice a l.length c, .int .i64 k, .slice ps sel.length pc] w fun e w' => e = .returned (.bool (matB l k sel)) ∧ Nw w w' := by
  have HZ : Hid (Small l) := hz
  have HR : Hid (Nodes w a l) := hr
  have HSZ : Hid (smallPs sel) := hsz
  have HP : Hid (Parts w ps sel) := hp
  clear hz hr hsz hp
  have hm : matB l k sel = (goodB l && (elB l k && (selB sel && matchB l k.toNat sel))) := rfl
  cases hg : goodB l
  · have HX : Hid (matB l k sel = false) := by show _ = _; rw [hm, hg]; rfl
    go_enter Tryd.func6, Tryd.ntmps6
    go_wp2_with (go_at_call 14; refine Calls.mono (sgoodNodes _ _ _ l hl HZ.out HR.out) ?_; rw [hg]; rintro e w1 ⟨rfl, k1⟩)
    go_ret
    exact ⟨ret_bool HX.out.symm, k1⟩
  · cases he : elB l k
    · have HX : Hid (matB l k sel = false) := by show _ = _; rw [hm, hg, he]; rfl
      go_enter Tryd.func6, Tryd.ntmps6
      go_wp2_with (first | (go_at_call 14; refine Calls.mono (sgoodNodes _ _ _ l hl HZ.out HR.out) ?_; rw [hg]; rintro e w1 ⟨rfl, k1⟩) | (go_at_call 15; refine Calls.mono (selement _ _ _ l k hk hl (HR.out.nw k1)) ?_; rw [he]; rintro e w2 ⟨rfl, k2⟩))
      go_ret
      exact ⟨ret_bool HX.out.symm, k1.trans k2⟩
    · cases hs : selB sel
      · have HX : Hid (matB l k sel = false) := by show _ = _; rw [hm, hg, he, hs]; rfl
        go_enter Tryd.func6, Tryd.ntmps6
        go_wp2_with (first | (go_at_call 14; refine Calls.mono (sgoodNodes _ _ _ l hl HZ.out HR.out) ?_; rw [hg]; rintro e w1 ⟨rfl, k1⟩) | (go_at_call 15; refine Calls.mono (selement _ _ _ l k hk hl (HR.out.nw k1)) ?_; rw [he]; rintro e w2 ⟨rfl, k2⟩) | (go_at_call 16; refine Calls.mono (sgoodSel _ _ _ sel hsl HSZ.out (HP.out.nw (Nw.trans k1 k2))) ?_; rw [hs]; rintro e w3 ⟨rfl, k3⟩))
        go_ret
        exact ⟨ret_bool HX.out.symm, (k1.trans k2).trans k3⟩
      · have hgp := (goodB_iff l).1 hg
        have hsp := (selB_iff sel).1 hs
        have hke : 0 ≤ k ∧ k < l.length := by
          by_cases h : 0 ≤ k ∧ k < l.length
          · exact h
          · rw [elB_no h] at he; cases he
        have HX : Hid (matB l k sel = matchB l k.toNat sel) := by show _ = _; rw [hm, hg, he, hs]; rfl
        clear hm
        obtain ⟨n, rfl⟩ : ∃ n : Nat, k = (n : Int) := ⟨k.toNat, by omega⟩
        rw [Int.toNat_natCast] at HX
        have HS : ∀ W, Nw w W → Hid (Calls Tryd.prog 17 #[.slice a l.length c, .int .i64 (n : Int), .slice ps sel.length pc] W fun e w' => e = .returned (.bool (matchB l n sel)) ∧ Nw W w') := fun W hW =>
          ssels W a c l n ps pc sel hgp.1.2 (by omega) (ups_of l l.length (Nat.le_refl _) hgp.2) HZ.out (HR.out.nw hW) hsp.1.1 hsp.1.2 HSZ.out (HP.out.nw hW)
        clear hgp hsp
        go_enter Tryd.func6, Tryd.ntmps6
        go_wp2_with (first | (go_at_call 14; refine Calls.mono (sgoodNodes _ _ _ l hl HZ.out HR.out) ?_; rw [hg]; rintro e w1 ⟨rfl, k1⟩) | (go_at_call 15; refine Calls.mono (selement _ _ _ l n hk hl (HR.out.nw k1)) ?_; rw [he]; rintro e w2 ⟨rfl, k2⟩) | (go_at_call 16; refine Calls.mono (sgoodSel _ _ _ sel hsl HSZ.out (HP.out.nw (Nw.trans k1 k2))) ?_; rw [hs]; rintro e w3 ⟨rfl, k3⟩) | (go_at_call 17; refine Calls.mono (HS _ ((Nw.trans k1 k2).trans k3)).out ?_; rintro e w4 ⟨rfl, k4⟩))
        go_ret
        exact ⟨ret_bool HX.out.symm, ((k1.trans k2).trans k3).trans k4⟩
set_option maxHeartbeats 4000000 in
theorem walk_mat (w : World) (ht : Tb w) (a : Option Addr) (l : List ND) (c : Nat) (k : Int) (pa : Option Addr) (sel : List PD) (pc : Nat) (hr : Nodes w a l) (ho : okAll l) (hl : l.length ≤ maxLen) (hk : -9223372036854775808 ≤ k ∧ k ≤ 9223372036854775807) (hpr : Parts w pa sel) (hpo : okPDs sel) (hpl : sel.length ≤ maxLen) :
    Calls Tryd.prog 3 #[.slice a l.length c, .int .i64 k, .slice pa sel.length pc] w fun e w' => e = .returned (.bool true) ∧ Below w.heap.size w w' := by
  have HR : Hid (Nodes w a l) := hr
  have HT : Hid (Tb w) := ht
  have HO : Hid (okAll l) := ho
  have HL : Hid (l.length ≤ maxLen) := hl
  have PR : Hid (Parts w pa sel) := hpr
  have PO : Hid (okPDs sel) := hpo
  have PL : Hid (sel.length ≤ maxLen) := hpl
  clear hr ht ho hl hpr hpo hpl
  by_cases hb : ((l.length + bulkL l : Nat) : Int) ≤ 1048576
  · have hs : szL l 1048576 = 1048576 - ((l.length + bulkL l : Nat) : Int) := by unfold szL; rw [if_pos hb]
    have hneg : decide ((1048576 : Int) - ((l.length + bulkL l : Nat) : Int) < 0) = false := decide_eq_false (by omega)
    have hll : l.length ≤ 1048576 := by omega
    obtain ⟨hsm, hlo⟩ := small_of HO.out hb
    have HS : Hid (Small l) := hsm
    have HLO : Hid (lenOk l) := hlo
    have hB0 : (0 : Int) ≤ ((l.length + bulkL l : Nat) : Int) := by omega
    generalize ((l.length + bulkL l : Nat) : Int) = B at *
    clear hsm hlo
    by_cases hpb : ((sel.length + bulkPs sel : Nat) : Int) ≤ 1048576 - B
    · have hps : szPs sel (1048576 - B) = 1048576 - B - ((sel.length + bulkPs sel : Nat) : Int) := by unfold szPs; rw [if_pos hpb]
      have hneg2 : decide ((1048576 : Int) - B - ((sel.length + bulkPs sel : Nat) : Int) < 0) = false := decide_eq_false (by omega)
      have hpll : sel.length ≤ 1048576 := by omega
      obtain ⟨psm, plo⟩ := smallPs_of (l := sel) (by omega)
      have PS : Hid (smallPs sel) := psm
      have PLO : Hid (lenPs sel) := plo
      have hB2 : (0 : Int) ≤ ((sel.length + bulkPs sel : Nat) : Int) := by omega
      generalize ((sel.length + bulkPs sel : Nat) : Int) = C at *
      clear psm plo
      have hq : (matB l k sel != matB l k sel) = false := by simp
      go_enter Tryd.func3, Tryd.ntmps3
      go_wp2_with fail
      refine Calls.mono (szNodeS_any _ a c l _ (by omega) (by omega) HL.out HR.out HO.out) ?_
      rw [hs]
      rintro e w1 ⟨rfl, k1⟩
      have S1 : Hid (Nw w w1) := k1
      clear k1
      go_wp2_with fail
      refine Calls.mono (szPartS_any _ pa pc sel _ (by omega) (by omega) PL.out (PR.out.nw S1.out) PO.out) ?_
      rw [hps]
      rintro e w2 ⟨rfl, k1⟩
      have S2 : Hid (Nw w w2) := S1.out.trans k1
      clear k1
      go_wp2_with fail
      refine Calls.mono (toNodeS_any _ a c l hll HLO.out (HR.out.nw S2.out)) ?_
      rintro e w3 ⟨rfl, k1, t1⟩
      have S3 : Hid (Nw w w3) := S2.out.trans k1
      have N3 : Hid (Nodes w3 (some ⟨w2.heap.size, 0, none⟩) l) := t1.nodes
      clear k1 t1
      go_wp2_with fail
      refine Calls.mono (toPartS_any _ pa pc sel hpll PLO.out (PR.out.nw S3.out)) ?_
      rintro e w4 ⟨rfl, k1, t1⟩
      have S4 : Hid (Nw w w4) := S3.out.trans k1
      have N4 : Hid (Nodes w4 (some ⟨w2.heap.size, 0, none⟩) l) := N3.out.nw k1
      have P4 : Hid (Parts w4 (some ⟨w3.heap.size, 0, none⟩) sel) := t1.parts
      clear k1 t1 N3
      go_wp2_with fail
      refine Calls.mono (smatches _ _ _ l k _ _ sel hk hll HS.out N4.out hpll PS.out P4.out) ?_
      rintro e w5 ⟨rfl, k1⟩
      have S5 : Hid (Nw w w5) := S4.out.trans k1
      clear k1 N4 P4
      go_wp2_with fail
      refine Calls.mono (toNodeS_any _ a c l hll HLO.out (HR.out.nw S5.out)) ?_
      rintro e w6 ⟨rfl, k1, t1⟩
      have S6 : Hid (Nw w w6) := S5.out.trans k1
      have N6 : Hid (Nodes w6 (some ⟨w5.heap.size, 0, none⟩) l) := t1.nodes
      clear k1 t1
      go_wp2_with fail
      refine Calls.mono (toPartS_any _ pa pc sel hpll PLO.out (PR.out.nw S6.out)) ?_
      rintro e w7 ⟨rfl, k1, t1⟩
      have S7 : Hid (Nw w w7) := S6.out.trans k1
      have N7 : Hid (Nodes w7 (some ⟨w5.heap.size, 0, none⟩) l) := N6.out.nw k1
      have P7 : Hid (Parts w7 (some ⟨w6.heap.size, 0, none⟩) sel) := t1.parts
      clear k1 t1 N6
      go_wp2_with fail
      refine Calls.mono (imatches _ _ _ l k _ _ sel hk (HT.out.nw S7.out) hll HS.out N7.out hpll PS.out P7.out) ?_
      rintro e w8 ⟨rfl, k1⟩
      have S8 : Hid (Nw w w8) := S7.out.trans k1
      have N8 : Hid (Nodes w8 (some ⟨w5.heap.size, 0, none⟩) l) := N7.out.nw k1
      have P8 : Hid (Parts w8 (some ⟨w6.heap.size, 0, none⟩) sel) := P7.out.nw k1
      clear k1 N7 P7
      go_wp2_with fail
      refine Calls.mono (toNodeS_any _ a c l hll HLO.out (HR.out.nw S8.out)) ?_
      rintro e w9 ⟨rfl, k1, t1⟩
      have S9 : Hid (Nw w w9) := S8.out.trans k1
      have N9 : Hid (Nodes w9 (some ⟨w5.heap.size, 0, none⟩) l) := N8.out.nw k1
      have P9 : Hid (Parts w9 (some ⟨w6.heap.size, 0, none⟩) sel) := P8.out.nw k1
      have M9 : Hid (Nodes w9 (some ⟨w8.heap.size, 0, none⟩) l) := t1.nodes
      clear k1 t1 N8 P8
      go_wp2_with fail
      refine Calls.mono (eqNodeS_any _ _ _ _ _ l hll HLO.out N9.out M9.out) ?_
      rintro e w10 ⟨rfl, k1⟩
      have S10 : Hid (Nw w w10) := S9.out.trans k1
      have P10 : Hid (Parts w10 (some ⟨w6.heap.size, 0, none⟩) sel) := P9.out.nw k1
      clear k1 N9 P9 M9
      go_wp2_with fail
      refine Calls.mono (toPartS_any _ pa pc sel hpll PLO.out (PR.out.nw S10.out)) ?_
      rintro e w11 ⟨rfl, k1, t1⟩
      have S11 : Hid (Nw w w11) := S10.out.trans k1
      have P11 : Hid (Parts w11 (some ⟨w6.heap.size, 0, none⟩) sel) := P10.out.nw k1
      have M11 : Hid (Parts w11 (some ⟨w10.heap.size, 0, none⟩) sel) := t1.parts
      clear k1 t1 P10
      go_wp2_with fail
      refine Calls.mono (eqPartS_any _ _ _ _ _ sel hpll PLO.out P11.out M11.out) ?_
      rintro e w12 ⟨rfl, k1⟩
      go_wp2
      go_ret
      exact ⟨rfl, S11.out.trans k1⟩
    · have hps : szPs sel (1048576 - B) = -1 := by unfold szPs; rw [if_neg hpb]
      clear hpb
      go_enter Tryd.func3, Tryd.ntmps3
      go_wp2_with fail
      refine Calls.mono (szNodeS_any _ a c l _ (by omega) (by omega) HL.out HR.out HO.out) ?_
      rw [hs]
      rintro e w1 ⟨rfl, k1⟩
      have S1 : Hid (Nw w w1) := k1
      clear k1
      go_wp2_with fail
      refine Calls.mono (szPartS_any _ pa pc sel _ (by omega) (by omega) PL.out (PR.out.nw S1.out) PO.out) ?_
      rw [hps]
      rintro e w2 ⟨rfl, k1⟩
      go_wp2
      go_ret
      exact ⟨rfl, S1.out.trans k1⟩
  · have hs : szL l 1048576 = -1 := by unfold szL; rw [if_neg hb]
    clear hb
    go_enter Tryd.func3, Tryd.ntmps3
    go_wp2_with fail
    refine Calls.mono (szNodeS_any _ a c l _ (by omega) (by omega) HL.out HR.out HO.out) ?_
    rw [hs]
    rintro e w1 ⟨rfl, k1⟩
    go_wp2
    go_ret
    exact ⟨rfl, k1⟩
end Go.Proofs.YtaeepbjdhcbofaaDoor
