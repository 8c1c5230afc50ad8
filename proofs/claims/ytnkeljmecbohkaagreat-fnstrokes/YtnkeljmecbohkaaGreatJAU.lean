/-
  Strokes of lines, by the specification: StrokeLines; each th
-/
import Derived.Test.YtnkeljmecbohkaaGreatJAT
import Derived.Test.YtnkeljmecbohkaaGreatJAP
import Derived.Test.YtnkeljmecbohkaaGreatJAO
import Derived.Test.YtnkeljmecbohkaaGreatJAA
import Derived.Laws.Bits64b
import Derived.Laws.Externs
import Derived.Laws.Pointers
import Derived.StillTactics
import Derived.BigRegion
namespace Go.Proofs.YtnkeljmecbohkaaGreat
open Go.ChangeShapes Go.WideShapes Go.ChangeAt Go.RowKit
set_option linter.unusedVariables false
theorem sstroke0 (w : World) (a : Option Addr) (n c : Nat) (pj pc pf : Int) (na : Option Addr) (nn nc : Nat) :
  Calls Tryz.prog 47 #[.slice a n c, .agg #[.int .i64 0, .int .i64 pj, .int .i64 pc, .slice na nn nc, .int .i64 pf]] w fun e w' => e = .returned (.tuple #[.slice none 0 0, .bool true]) ∧ Nw w w' := by
 go_enter Tryz.func47, Tryz.ntmps47
 go_wp2
 go_ret2
 exact ⟨rfl, Kp.nw ((Kp.refl w).alloc _ _)⟩
def StS (w w' : World) (e : Ending) (RV : List LD × Bool) : Prop := ∃ v, e = .returned (.tuple #[v, .bool RV.2]) ∧ LsOk w' w.heap.size v RV.1 ∧ Nw w w'
theorem StS.no {w w' : World} (k : Nw w w') : StS w w' (.returned (.tuple #[.slice none 0 0, .bool false])) ([], false) := ⟨_, rfl, LsOk.of (OwnLn.nil _ _) rfl, k⟩
theorem stkV_no {ls : List LD} {p : PD} {ns : List Int} (h : ¬ (penB p ns = true ∧ manyL ls ≤ 600 ∧ nearL ls = true)) : stkV ls p ns = ([], false) := by
 unfold stkV; rw [if_neg h]
theorem stkV_false {ls : List LD} {p : PD} {ns : List Int} (h : (stkV ls p ns).2 = false) : stkV ls p ns = ([], false) := by
 revert h
 unfold stkV
 split
 ·split
  ·intro h; cases h
  ·cases stK ls p ns ls.length with
   | none => intro _; rfl
   | some o =>
    simp only
    split
    ·intro h; cases h
    ·intro _; rfl
 ·intro _; rfl
set_option maxRecDepth 100000 in
set_option maxHeartbeats 16000000 in
theorem sstrokeLines (w : World) (a : Option Addr) (c : Nat) (ls : List LD) (p : PD) (na : Option Addr) (nc : Nat) (ns : List Int) (hl : ls.length ≤ 1048576) (hm : manyL ls ≤ 1048576) (hns : ns.length ≤ 1048576) (hr : Lines w a ls) (hI : Ints w na ns) :
  Calls Tryz.prog 11 #[.slice a ls.length c, penV p (.slice na ns.length nc)] w fun e w' => StS w w' e (stkV ls p ns) := by
 have HGP : Hid (∀ w', Nw w w' → _) := fun w' k => sgoodPen w' p na nc ns hns (Ints.nw hI k)
 have HMY : Hid (∀ w', Nw w w' → _) := fun w' k => smany w' a c ls hl hm (Lines.nw hr k)
 have HNOV : Hid (¬ (penB p ns = true ∧ manyL ls ≤ 600 ∧ nearL ls = true) → stkV ls p ns = ([], false)) := stkV_no
 have HST : Hid (penB p ns = true → manyL ls ≤ 600 → nearL ls = true → p.w ≠ 0 → ∀ w', Nw w w' → _) := fun h1 h2 h3 h4 w' k => sstroke w' a c ls p na nc ns hl h1 h2 h3 h4 (Lines.nw hr k) (Ints.nw hI k)
 have HZR : Hid (penB p ns = true → manyL ls ≤ 600 → nearL ls = true → p.w = 0 → stkV ls p ns = ([], true)) := fun h1 h2 h3 h4 => by unfold stkV; rw [if_pos ⟨h1, h2, h3⟩, if_pos h4]
 have HFA : Hid ((stkV ls p ns).2 = false → stkV ls p ns = ([], false)) := stkV_false
 obtain ⟨RV, hRV⟩ : ∃ RV, stkV ls p ns = RV := ⟨_, rfl⟩
 rw [hRV] at HNOV HST HZR HFA ⊢
 clear hRV
 obtain ⟨PB', hPB⟩ : ∃ b, penB p ns = b := ⟨_, rfl⟩
 rw [hPB] at HGP HNOV HST HZR
 clear hPB
 have HR : Hid (Lines w a ls) := hr
 clear hr hI
 obtain ⟨pw, pj, pc, pf⟩ := p
 simp only [penV] at *
 obtain ⟨W, hW⟩ : ∃ W, w.alloc (.cells #[.int .i64 pw, .int .i64 pj, .int .i64 pc, .slice na ns.length nc, .int .i64 pf] 36) = W := ⟨_, rfl⟩
 have y0 : W.cell? ⟨w.heap.size, 0, none⟩ = some (.int .i64 pw) := by rw [← hW]; simp
 have y1 : W.cell? ⟨w.heap.size, 1, none⟩ = some (.int .i64 pj) := by rw [← hW]; simp
 have y2 : W.cell? ⟨w.heap.size, 2, none⟩ = some (.int .i64 pc) := by rw [← hW]; simp
 have y3 : W.cell? ⟨w.heap.size, 3, none⟩ = some (.slice na ns.length nc) := by rw [← hW]; simp
 have y4 : W.cell? ⟨w.heap.size, 4, none⟩ = some (.int .i64 pf) := by rw [← hW]; simp
 have HPB : Hid (∀ w', Nw W w' → (w'.cell? ⟨w.heap.size, 0, none⟩ = some (.int .i64 pw) ∧ w'.cell? ⟨w.heap.size, 1, none⟩ = some (.int .i64 pj) ∧ w'.cell? ⟨w.heap.size, 2, none⟩ = some (.int .i64 pc) ∧ w'.cell? ⟨w.heap.size, 3, none⟩ = some (.slice na ns.length nc) ∧ w'.cell? ⟨w.heap.size, 4, none⟩ = some (.int .i64 pf))) := fun w' k => ⟨nw_at k y0, nw_at k y1, nw_at k y2, nw_at k y3, nw_at k y4⟩
 have NW : Hid (Nw w W) := by show Nw _ _; rw [← hW]; exact (Below.refl _ _).alloc (Nat.le_refl _) _
 have HW : Hid (_ = W) := hW
 clear hW
 generalize ns.length = nn at *
 clear hns
 cases PB' with
 | false =>
  have HE : Hid (RV = ([], false)) := HNOV.out (fun h => by cases h.1)
  generalize ls.length = n at *
  go_enter Tryz.func11, Tryz.ntmps11
  go_wp2_with fail
  rw [HW.out]
  refine Calls.mono (HGP.out W NW.out) ?_
  rintro e w1 ⟨rfl, k1⟩
  have N1 : Hid (Nw w w1) := Nw.trans NW.out (Kp.nw k1)
  clear k1
  go_wp2
  go_ret2
  rw [HE.out]
  exact StS.no N1.out
 | true =>
  by_cases h6 : manyL ls ≤ 600
  ·have d6 : decide ((600 : Int) < (manyL ls : Int)) = false := by simp; omega
   have HMG : Hid (manyL ls = manyL ls) := rfl
   have HATL : Hid (∀ k, k < ls.length → (lnAt ls k).pts.length ≤ 600) := fun k hk => Nat.le_trans (manyL_at ls k hk) h6
   have HST2 : Hid _ := HST.out rfl h6
   have HZR2 : Hid _ := HZR.out rfl h6
   have HNO2 : Hid (nearL ls = false → RV = ([], false)) := fun h => HNOV.out (fun h2 => by rw [h] at h2; cases h2.2.2)
   clear HST HZR HNOV h6 hm
   obtain ⟨n, hn⟩ : ∃ n, ls.length = n := ⟨_, rfl⟩
   have HN : Hid (ls.length = n) := hn
   rw [hn] at HMY HATL HST2 hl ⊢
   clear hn
   generalize manyL ls = mm at *
   go_enter Tryz.func11, Tryz.ntmps11
   go_wp2_with fail
   rw [HW.out]
   refine Calls.mono (HGP.out W NW.out) ?_
   rintro e w1 ⟨rfl, k1⟩
   have K1 : Hid (Nw W w1) := Kp.nw k1
   clear k1 y0 y1 y2 y3 y4
   go_wp2_with fail
   refine Calls.mono (HMY.out w1 (Nw.trans NW.out K1.out)) ?_
   rintro e w2 ⟨rfl, k2⟩
   have K2 : Hid (Nw W w2) := Nw.trans K1.out (Kp.nw k2)
   clear k2
   go_wp2
   go_loopw [22] (fun i wr => ∃ k : Nat, k ≤ n ∧ i = .int .i64 (k : Int) ∧ (∀ m, m < k → nearsB (lnAt ls m).pts = true) ∧ Nw W wr) (fun i _ => n - (intOf i).toNat)
   case atStart => exact ⟨0, Nat.zero_le _, rfl, fun m hm => absurd hm (by omega), K2.out⟩
   case round =>
    obtain ⟨k, hk, rfl, ha, hw⟩ := hrel
    obtain ⟨wo, hwo⟩ : ∃ x, x = wr := ⟨_, rfl⟩
    subst hwo
    have HA : Hid _ := ha
    have HWo : Hid (Nw W wo) := hw
    clear ha hw
    by_cases hlt : k < n
    ·have d1 : decide ((k : Int) < (n : Int)) = true := by simp; omega
     rcases (Lines.nw HR.out (Nw.trans NW.out HWo.out)) with h0 | ⟨b, off, rfl, hb, hc⟩
     ·have := HN.out; rw [h0] at this; simp at this; omega
     obtain ⟨⟨pa, pcc, q0, hP⟩, q1⟩ := hc k (by rw [HN.out]; exact hlt)
     have HPk : Hid (Pts wo pa (lnAt ls k).pts) := hP
     have hpl := HATL.out k hlt
     have HNF : Hid (nearsB (lnAt ls k).pts = false → nearL ls = false) := fun h => nearL_false (by rw [HN.out]; exact hlt) h
     have HNT : Hid (nearsB (lnAt ls k).pts = true → ∀ m, m < k + 1 → nearsB (lnAt ls m).pts = true) := fun h m hm => by
      rcases Nat.lt_succ_iff_lt_or_eq.1 hm with h1 | h1
      ·exact HA.out m h1
      ·rw [h1]; exact h
     clear hc hP
     generalize lnAt ls k = ll at *
     obtain ⟨pts, cl⟩ := ll
     simp only at q0 q1 HPk hpl HNF HNT
     obtain ⟨np, hnp⟩ : ∃ np, pts.length = np := ⟨_, rfl⟩
     have HNP : Hid (pts.length = np) := hnp
     rw [hnp] at q0 hpl
     clear hnp
     go_wp2
     go_loopw [29] (fun i wr => ∃ j : Nat, j ≤ np ∧ i = .int .i64 (j : Int) ∧ (∀ m, m < j → nearB (ptAt pts m) = true) ∧ Nw wo wr) (fun i _ => np - (intOf i).toNat)
     case atStart => exact ⟨0, Nat.zero_le _, rfl, fun m hm => absurd hm (by omega), Kp.nw ((Kp.refl wo).alloc _ _)⟩
     case round =>
      obtain ⟨j, hj, rfl, haj, hwj⟩ := hrel
      have HAJ : Hid _ := haj
      have HWJ : Hid (Nw wo wr) := hwj
      clear haj hwj
      by_cases hjlt : j < np
      ·have d3 : decide ((j : Int) < (np : Int)) = true := by simp; omega
       rcases (Pts.nw HPk.out HWJ.out) with h0 | ⟨b2, off2, hb2e, hb2, hc2⟩
       ·have := HNP.out; rw [h0] at this; simp at this; omega
       subst hb2e
       obtain ⟨r0, r1⟩ := hc2 j (by rw [HNP.out]; exact hjlt)
       clear hc2
       have HC : Hid (∀ w, _) := fun w => snear w (ptAt pts j).1 (ptAt pts j).2
       have ep : nearB ((ptAt pts j).1, (ptAt pts j).2) = nearB (ptAt pts j) := rfl
       rw [ep] at HC
       have HNB : Hid (nearB (ptAt pts j) = false → nearsB pts = false) := fun h => nears_not (j := j) (by rw [HNP.out]; exact hjlt) h
       have HNB2 : Hid (nearB (ptAt pts j) = true → ∀ m, m < j + 1 → nearB (ptAt pts m) = true) := fun h m hm => by
        rcases Nat.lt_succ_iff_lt_or_eq.1 hm with h1 | h1
        ·exact HAJ.out m h1
        ·rw [h1]; exact h
       generalize (ptAt pts j).1 = x at *
       generalize (ptAt pts j).2 = y at *
       clear ep
       cases hnb : nearB (ptAt pts j) with
       | false =>
        rw [hnb] at HC
        have HE : Hid (RV = ([], false)) := HNO2.out (HNF.out (HNB.out hnb))
        clear hnb
        go_wp2_with fail
        refine Calls.mono (HC.out _) ?_
        rintro e w5 ⟨rfl, k5⟩
        have N5 : Hid (Nw w w5) := Nw.trans NW.out (Nw.trans HWo.out (Nw.trans HWJ.out (Nw.trans (Kp.nw ((Kp.refl wr).alloc _ _)) (Kp.nw k5))))
        clear k5 r0 r1
        go_wp2
        go_ret2
        rw [HE.out]
        exact StS.no N5.out
       | true =>
        rw [hnb] at HC
        have HAL : Hid _ := HNB2.out hnb
        clear hnb
        go_wp2_with fail
        refine Calls.mono (HC.out _) ?_
        rintro e w5 ⟨rfl, k5⟩
        have N5 : Hid (Nw wo w5) := Nw.trans HWJ.out (Nw.trans (Kp.nw ((Kp.refl wr).alloc _ _)) (Kp.nw k5))
        clear k5 r0 r1
        go_wp2
        go_roundw
        case rel => exact ⟨j + 1, hjlt, by go_num, HAL.out, N5.out⟩
        case measure => simp [intOf]; omega
      ·obtain rfl : j = np := by omega
       have d3 : decide ((j : Int) < (j : Int)) = false := by simp
       have HAL : Hid (∀ m, m < k + 1 → nearsB (lnAt ls m).pts = true) := HNT.out (nears_all (fun m hm => HAJ.out m (by rw [HNP.out] at hm; exact hm)))
       go_wp2
       go_roundw
       case rel => exact ⟨k + 1, hlt, by go_num, HAL.out, Nw.trans HWo.out HWJ.out⟩
       case measure => simp [intOf]; omega
    ·obtain rfl : k = n := by omega
     have d1 : decide ((k : Int) < (k : Int)) = false := by simp
     have hnear : nearL ls = true := nearL_true (fun m hm => HA.out m (by rw [HN.out] at hm; exact hm))
     obtain ⟨x0, x1, x2, x3, x4⟩ := HPB.out wo HWo.out
     by_cases hz : pw = 0
     ·have HE : Hid (RV = ([], true)) := HZR2.out hnear hz
      subst hz
      have H0 : Hid (∀ w, _) := fun w => sstroke0 w a k c pj pc pf na nn nc
      go_wp2_with fail
      refine Calls.mono (H0.out _) ?_
      rintro e w5 ⟨rfl, n5⟩
      have N5 : Hid (Nw w w5) := Nw.trans NW.out (Nw.trans HWo.out n5)
      clear n5 x0 x1 x2 x3 x4
      go_wp2
      go_ret2
      rw [HE.out]
      exact ⟨_, rfl, LsOk.of (OwnLn.nil _ _) rfl, N5.out⟩
     ·have HS : Hid _ := HST2.out hnear hz wo (Nw.trans NW.out HWo.out)
      clear hz hnear
      go_wp2_with fail
      refine Calls.mono HS.out ?_
      rintro e w5 ⟨v5, o5, rfl, ⟨it5, ho5, he5⟩, himp, n5⟩
      have N5 : Hid (Nw w w5) := Nw.trans NW.out (Nw.trans HWo.out n5)
      have B5 : Hid (OwnLn w5 w.heap.size v5 it5) := OwnLn.base ho5 (Below.size (Nw.trans NW.out HWo.out))
      obtain ⟨ga, gn, gc, hv5⟩ := OwnQ.slice ho5.own
      subst hv5
      have HIM : Hid (RV.2 = true → it5.map (·.2) = RV.1) := fun h => he5.trans (himp h)
      clear ho5 he5 himp n5 x0 x1 x2 x3 x4
      cases hrv : RV.2 with
      | true =>
       have HI2 : Hid _ := HIM.out hrv
       have HRE : Hid (RV.2 = true) := hrv
       clear hrv
       go_wp2
       go_ret2
       exact ⟨_, by rw [HRE.out]; rfl, LsOk.of B5.out HI2.out, N5.out⟩
      | false =>
       have HRE : Hid (RV = ([], false)) := HFA.out hrv
       clear hrv
       go_wp2
       go_ret2
       rw [HRE.out]
       exact StS.no N5.out
  ·have d6 : decide ((600 : Int) < (manyL ls : Int)) = true := by simp; omega
   have HE : Hid (RV = ([], false)) := HNOV.out (fun h => h6 h.2.1)
   clear h6 hm
   generalize ls.length = n at *
   generalize manyL ls = mm at *
   go_enter Tryz.func11, Tryz.ntmps11
   go_wp2_with fail
   rw [HW.out]
   refine Calls.mono (HGP.out W NW.out) ?_
   rintro e w1 ⟨rfl, k1⟩
   have K1 : Hid (Nw W w1) := Kp.nw k1
   clear k1 y0 y1 y2 y3 y4
   go_wp2_with fail
   refine Calls.mono (HMY.out w1 (Nw.trans NW.out K1.out)) ?_
   rintro e w2 ⟨rfl, k2⟩
   have K2 : Hid (Nw w w2) := Nw.trans NW.out (Nw.trans K1.out (Kp.nw k2))
   clear k2
   go_wp2
   go_ret2
   rw [HE.out]
   exact StS.no K2.out
set_option maxRecDepth 100000 in
set_option maxHeartbeats 4000000 in
theorem igoodPen (w : World) (p : PD) (a : Option Addr) (c : Nat) (l : List Int) (hl : l.length ≤ 1048576) (hr : Ints w a l) :
  Calls Tryz.prog 41 #[penV p (.slice a l.length c)] w fun e w' => e = .returned (.bool (penB p l)) ∧ Kp w w' := by
 obtain ⟨pw, pj, pc, pf⟩ := p
 unfold penV penB
 simp only
 have k1 : ∀ o t, Kp w (w.alloc (.cells o t)) := fun o t => (Kp.refl w).alloc _ _
 have HD : Hid (∀ o t, _) := fun o t => igoodDash (w.alloc (.cells o t)) a c l pf hl (hr.nw (k1 o t).nw)
 have H1 : Hid _ := fun w => iin_any w pw 0 4194304
 have H2 : Hid _ := fun w => iin_any w pj 1 3
 have H3 : Hid _ := fun w => iin_any w pc 1 3
 clear hr
 generalize l.length = n at *
 generalize decide (0 ≤ pw ∧ pw ≤ 4194304) = b1 at *
 generalize decide (1 ≤ pj ∧ pj ≤ 3) = b2 at *
 generalize decide (1 ≤ pc ∧ pc ≤ 3) = b3 at *
 generalize dshB l pf = b4 at *
 cases b1 with
 | false =>
  go_enter Tryz.func41, Tryz.ntmps41
  go_wp2_with fail
  refine Calls.mono (H1.out _) ?_
  rintro e w9 ⟨rfl, rfl⟩
  go_wp2
  go_ret
  exact ⟨rfl, k1 _ _⟩
 | true =>
  rw [Bool.true_and]
  cases b2 with
  | false =>
   go_enter Tryz.func41, Tryz.ntmps41
   go_wp2_with fail
   refine Calls.mono (H1.out _) ?_
   rintro e w9 ⟨rfl, rfl⟩
   go_wp2_with fail
   refine Calls.mono (H2.out _) ?_
   rintro e w9 ⟨rfl, rfl⟩
   go_wp2
   go_ret
   exact ⟨rfl, k1 _ _⟩
  | true =>
   rw [Bool.true_and]
   cases b3 with
   | false =>
    go_enter Tryz.func41, Tryz.ntmps41
    go_wp2_with fail
    refine Calls.mono (H1.out _) ?_
    rintro e w9 ⟨rfl, rfl⟩
    go_wp2_with fail
    refine Calls.mono (H2.out _) ?_
    rintro e w9 ⟨rfl, rfl⟩
    go_wp2_with fail
    refine Calls.mono (H3.out _) ?_
    rintro e w9 ⟨rfl, rfl⟩
    go_wp2
    go_ret
    exact ⟨rfl, k1 _ _⟩
   | true =>
    rw [Bool.true_and]
    go_enter Tryz.func41, Tryz.ntmps41
    go_wp2_with fail
    refine Calls.mono (H1.out _) ?_
    rintro e w9 ⟨rfl, rfl⟩
    go_wp2_with fail
    refine Calls.mono (H2.out _) ?_
    rintro e w9 ⟨rfl, rfl⟩
    go_wp2_with fail
    refine Calls.mono (H3.out _) ?_
    rintro e w9 ⟨rfl, rfl⟩
    go_wp2_with fail
    refine Calls.mono (HD.out _ _) ?_
    rintro e w9 ⟨rfl, rfl⟩
    go_wp2
    go_ret
    exact ⟨rfl, k1 _ _⟩
def LinesC (w : World) (a : Option Addr) (l : List LD) : Prop :=
 l = [] ∨ ∃ b off, a = some ⟨b, off, none⟩ ∧ b < w.heap.size ∧ ∀ i, i < l.length → (∃ pa pc, w.cell? ⟨b, off + i * 2, none⟩ = some (.slice pa (lnAt l i).pts.length pc) ∧ (lnAt l i).pts.length ≤ pc ∧ Pts w pa (lnAt l i).pts) ∧ w.cell? ⟨b, off + i * 2 + 1, none⟩ = some (.bool (lnAt l i).closed)
theorem LinesC.nw {w w' : World} {a : Option Addr} {l : List LD} (h : LinesC w a l) (k : Nw w w') : LinesC w' a l := by
 rcases h with h | ⟨b, off, rfl, hb, hc⟩
 ·exact Or.inl h
 ·refine Or.inr ⟨b, off, rfl, Nat.lt_of_lt_of_le hb (Below.size k), fun i hi => ?_⟩
  obtain ⟨⟨pa, pc, h1, h2, h3⟩, h4⟩ := hc i hi
  exact ⟨⟨pa, pc, ((bcell k).1 _ _ hb).trans h1, h2, Pts.nw h3 k⟩, ((bcell k).1 _ _ hb).trans h4⟩
theorem LinesC.lines {w : World} {a : Option Addr} {l : List LD} (h : LinesC w a l) : Lines w a l := by
 rcases h with h | ⟨b, off, rfl, hb, hc⟩
 ·exact Or.inl h
 ·refine Or.inr ⟨b, off, rfl, hb, fun i hi => ?_⟩
  obtain ⟨⟨pa, pc, h1, h2, h3⟩, h4⟩ := hc i hi
  exact ⟨⟨pa, pc, h1, h3⟩, h4⟩
set_option maxRecDepth 100000 in
set_option maxHeartbeats 16000000 in
theorem istrokeLines (w : World) (a : Option Addr) (c : Nat) (ls : List LD) (p : PD) (na : Option Addr) (nc : Nat) (ns : List Int) (hl : ls.length ≤ 1048576) (hm : manyL ls ≤ 1048576) (hns : ns.length ≤ 1048576) (hr : LinesC w a ls) (hI : Ints w na ns) :
  Calls Tryz.prog 10 #[.slice a ls.length c, penV p (.slice na ns.length nc)] w fun e w' => StS w w' e (stkV ls p ns) := by
 have HGP : Hid (∀ w', Nw w w' → _) := fun w' k => igoodPen w' p na nc ns hns (Ints.nw hI k)
 have HMY : Hid (∀ w', Nw w w' → _) := fun w' k => imany w' a c ls hl hm (Lines.nw hr.lines k)
 have HNY : Hid (∀ w', Nw w w' → _) := fun w' k => inearL w' a c ls hl hm (Lines.nw hr.lines k)
 have HNOV : Hid (¬ (penB p ns = true ∧ manyL ls ≤ 600 ∧ nearL ls = true) → stkV ls p ns = ([], false)) := stkV_no
 have HZR : Hid (penB p ns = true → manyL ls ≤ 600 → nearL ls = true → p.w = 0 → stkV ls p ns = ([], true)) := fun h1 h2 h3 h4 => by unfold stkV; rw [if_pos ⟨h1, h2, h3⟩, if_pos h4]
 have HZ : Hid (∀ k, (lnAt ls k).pts.length = 0 → stK ls p ns (k + 1) = stK ls p ns k) := fun k h => stK_zero h
 have HNO : Hid (penB p ns = true → manyL ls ≤ 600 → nearL ls = true → p.w ≠ 0 → ∀ k, k < ls.length → (lnAt ls k).pts.length ≠ 0 → (dsV ns p.f (lnAt ls k).pts (lnAt ls k).closed).2 = false → stkV ls p ns = ([], false)) := fun a1 a2 a3 a4 k hk h1 h2 => stkV_none a1 a2 a3 a4 (show k + 1 ≤ ls.length by omega) (stK_no h1 h2)
 have HMN : Hid (penB p ns = true → manyL ls ≤ 600 → nearL ls = true → p.w ≠ 0 → ∀ k o m, k < ls.length → stK ls p ns k = some o → (lnAt ls k).pts.length ≠ 0 → (dsV ns p.f (lnAt ls k).pts (lnAt ls k).closed).2 = true → 4800 < manyL (o ++ strkS ((dsV ns p.f (lnAt ls k).pts (lnAt ls k).closed).1.take m) (p.w / 2) p.j p.c) → stkV ls p ns = ([], false)) := fun a1 a2 a3 a4 k o m hk h1 h2 h3 h4 => stkV_many a1 a2 a3 a4 hk h1 h2 h3 h4
 have HYES : Hid (∀ k o, stK ls p ns k = some o → (lnAt ls k).pts.length ≠ 0 → (dsV ns p.f (lnAt ls k).pts (lnAt ls k).closed).2 = true → stK ls p ns (k + 1) = some (o ++ strkS (dsV ns p.f (lnAt ls k).pts (lnAt ls k).closed).1 (p.w / 2) p.j p.c)) := fun k o h1 h2 h3 => stK_yes h1 h2 h3
 have HBD : Hid (manyL ls ≤ 600 → ∀ k o, k ≤ ls.length → stK ls p ns k = some o → o.length ≤ 720000) := fun h6 k o hk h => by
  obtain ⟨b1, b2⟩ := stK_bd ls p ns k o hk h
  have b3 := manyL_le ls k
  omega
 have HEND : Hid (penB p ns = true → manyL ls ≤ 600 → nearL ls = true → p.w ≠ 0 → ∀ o, stK ls p ns ls.length = some o → manyL o ≤ 4800 → stkV ls p ns = (o, true)) := fun a1 a2 a3 a4 o h h4 => by
  rw [stkV_is a1 a2 a3 a4, h]; simp only [if_pos h4]
 have HIN : Hid (penB p ns = true → manyL ls ≤ 600 → nearL ls = true → ∀ k, k < ls.length → (lnAt ls k).pts.length ≠ 0 → (lnAt ls k).pts.length ≤ 600 ∧ ∀ l, l ∈ (dsV ns p.f (lnAt ls k).pts (lnAt ls k).closed).1 → okSt l) := fun a1 a2 a3 k hk h => by
  have h1 := manyL_at ls k hk
  exact ⟨by omega, dsV_good _ (by omega) (nearL_at a3 k hk)⟩
 have HDL : Hid (∀ k, (dsV ns p.f (lnAt ls k).pts (lnAt ls k).closed).1.length ≤ 1048576 ∧ manyL (dsV ns p.f (lnAt ls k).pts (lnAt ls k).closed).1 ≤ 600) := fun k => dsV_bd _ _ _ _
 have HPW : Hid (penB p ns = true → 0 ≤ p.w ∧ p.w ≤ 4194304) := fun h => (penB_w h).1
 have HDS : Hid (∀ (w' : World) (pa : Option Addr) (pc : Nat) (pt : List Pnt) (cl : Bool), Nw w w' → pt.length ≤ 600 → pt.length ≤ pc → Pts w' pa pt → _) := fun w' pa pc pt cl k h1 h2 h3 => idashed w' pa pc pt cl na nc ns p.f (by omega) hns h2 h3 (Ints.nw hI k)
 obtain ⟨SK, hSK⟩ : ∃ SK, stK ls p ns = SK := ⟨_, rfl⟩
 have HS0 : Hid (SK 0 = some []) := by show _ = _; rw [← hSK]; rfl
 rw [hSK] at HZ HYES HBD HEND HMN
 obtain ⟨RV, hRV⟩ : ∃ RV, stkV ls p ns = RV := ⟨_, rfl⟩
 rw [hRV] at HNOV HZR HNO HMN HEND ⊢
 clear hSK hRV
 obtain ⟨PB', hPB⟩ : ∃ b, penB p ns = b := ⟨_, rfl⟩
 rw [hPB] at HGP HNOV HZR HNO HMN HEND HIN HPW
 clear hPB
 obtain ⟨NL, hNL⟩ : ∃ b, nearL ls = b := ⟨_, rfl⟩
 rw [hNL] at HNY HNOV HZR HNO HMN HEND HIN
 clear hNL
 have HR : Hid (LinesC w a ls) := hr
 clear hr hI
 obtain ⟨pw, pj, pc, pf⟩ := p
 simp only [penV] at *
 obtain ⟨W, hW⟩ : ∃ W, w.alloc (.cells #[.int .i64 pw, .int .i64 pj, .int .i64 pc, .slice na ns.length nc, .int .i64 pf] 36) = W := ⟨_, rfl⟩
 obtain ⟨bp, hbp⟩ : ∃ bp, w.heap.size = bp := ⟨_, rfl⟩
 have y0 : W.cell? ⟨bp, 0, none⟩ = some (.int .i64 pw) := by rw [← hW, ← hbp]; simp
 have y1 : W.cell? ⟨bp, 1, none⟩ = some (.int .i64 pj) := by rw [← hW, ← hbp]; simp
 have y2 : W.cell? ⟨bp, 2, none⟩ = some (.int .i64 pc) := by rw [← hW, ← hbp]; simp
 have y3 : W.cell? ⟨bp, 3, none⟩ = some (.slice na ns.length nc) := by rw [← hW, ← hbp]; simp
 have y4 : W.cell? ⟨bp, 4, none⟩ = some (.int .i64 pf) := by rw [← hW, ← hbp]; simp
 have HPB : Hid (∀ w', Nw W w' → (w'.cell? ⟨bp, 0, none⟩ = some (.int .i64 pw) ∧ w'.cell? ⟨bp, 1, none⟩ = some (.int .i64 pj) ∧ w'.cell? ⟨bp, 2, none⟩ = some (.int .i64 pc) ∧ w'.cell? ⟨bp, 3, none⟩ = some (.slice na ns.length nc) ∧ w'.cell? ⟨bp, 4, none⟩ = some (.int .i64 pf))) := fun w' k => ⟨nw_at k y0, nw_at k y1, nw_at k y2, nw_at k y3, nw_at k y4⟩
 have NW : Hid (Nw w W) := by show Nw _ _; rw [← hW]; exact (Below.refl _ _).alloc (Nat.le_refl _) _
 have HBP : Hid (w.heap.size = bp) := hbp
 have HW : Hid (_ = W) := hW
 clear hW
 have HST : Hid (0 ≤ pw ∧ pw ≤ 4194304 → ∀ (w' : World) (a : Option Addr) (c : Nat) (l : LD), okSt l → Pts w' a l.pts → _) := fun hp w' a c l hk hP => istroke w' a c l ⟨pw, pj, pc, pf⟩ (.slice na ns.length nc) ⟨_, _, _, rfl⟩ hk.1 hk.2.1 hk.2.2 hp.1 hp.2 hP
 simp only at HST
 obtain ⟨nn, hnn⟩ : ∃ nn, ns.length = nn := ⟨_, rfl⟩
 rw [hnn] at HPB HST HW HGP HDS y3 ⊢
 clear hnn hns
 have HSTR : Hid (∀ (w' w'' : World) (e : Ending), Nw w w' → StS w' w'' e RV → StS w w'' e RV) := fun w' w'' e k h => by
  obtain ⟨v, h1, ⟨it, h2, h3⟩, h4⟩ := h
  exact ⟨v, h1, LsOk.of (OwnLn.base h2 (Below.size k)) h3, Nw.trans k h4⟩
 cases PB' with
 | false =>
  have HE : Hid (RV = ([], false)) := HNOV.out (fun h => by cases h.1)
  generalize ls.length = n at *
  go_enter Tryz.func10, Tryz.ntmps10
  go_wp2_with fail
  rw [HW.out]
  refine Calls.mono (HGP.out W NW.out) ?_
  rintro e w1 ⟨rfl, k1⟩
  have N1 : Hid (Nw w w1) := Nw.trans NW.out (Kp.nw k1)
  clear k1
  go_wp2
  go_ret2
  rw [HE.out]
  exact StS.no N1.out
 | true =>
  by_cases h6 : manyL ls ≤ 600
  ·have d6 : decide ((600 : Int) < (manyL ls : Int)) = false := by simp; omega
   cases NL with
   | false =>
    have HE : Hid (RV = ([], false)) := HNOV.out (fun h => by cases h.2.2)
    clear h6 hm
    generalize ls.length = n at *
    generalize manyL ls = mm at *
    go_enter Tryz.func10, Tryz.ntmps10
    go_wp2_with fail
    rw [HW.out]
    refine Calls.mono (HGP.out W NW.out) ?_
    rintro e w1 ⟨rfl, k1⟩
    have K1 : Hid (Nw W w1) := Kp.nw k1
    clear k1 y0 y1 y2 y3 y4
    go_wp2_with fail
    refine Calls.mono (HMY.out w1 (Nw.trans NW.out K1.out)) ?_
    rintro e w2 ⟨rfl, k2⟩
    have K2 : Hid (Nw w w2) := Nw.trans NW.out (Nw.trans K1.out (Kp.nw k2))
    clear k2
    go_wp2_with fail
    refine Calls.mono (HNY.out w2 K2.out) ?_
    rintro e w3 ⟨rfl, k3⟩
    have K3 : Hid (Nw w w3) := Nw.trans K2.out (Kp.nw k3)
    clear k3
    go_wp2
    go_ret2
    rw [HE.out]
    exact StS.no K3.out
   | true =>
    by_cases hz : pw = 0
    ·have HE : Hid (RV = ([], true)) := HZR.out rfl h6 rfl hz
     have d0 : (pw == 0) = true := by simp [hz]
     clear h6 hm hz
     generalize ls.length = n at *
     generalize manyL ls = mm at *
     go_enter Tryz.func10, Tryz.ntmps10
     go_wp2_with fail
     rw [HW.out]
     refine Calls.mono (HGP.out W NW.out) ?_
     rintro e w1 ⟨rfl, k1⟩
     have K1 : Hid (Nw W w1) := Kp.nw k1
     clear k1 y0 y1 y2 y3 y4
     go_wp2_with fail
     refine Calls.mono (HMY.out w1 (Nw.trans NW.out K1.out)) ?_
     rintro e w2 ⟨rfl, k2⟩
     have K2 : Hid (Nw W w2) := Nw.trans K1.out (Kp.nw k2)
     clear k2
     go_wp2_with fail
     refine Calls.mono (HNY.out w2 (Nw.trans NW.out K2.out)) ?_
     rintro e w3 ⟨rfl, k3⟩
     have K3 : Hid (Nw W w3) := Nw.trans K2.out (Kp.nw k3)
     obtain ⟨x0, _⟩ := HPB.out w3 K3.out
     clear k3
     go_wp2
     go_ret2
     rw [HE.out]
     exact ⟨_, rfl, LsOk.of (OwnLn.nil _ _) rfl, Nw.trans NW.out K3.out⟩
    ·have d0 : (pw == 0) = false := by simp [hz]
     have HNOa : Hid _ := HNO.out rfl h6 rfl hz
     have HMNa : Hid _ := HMN.out rfl h6 rfl hz
     have HBDa : Hid _ := HBD.out h6
     have HENDa : Hid _ := HEND.out rfl h6 rfl hz
     have HINa : Hid _ := HIN.out rfl h6 rfl
     have HSTa : Hid _ := HST.out (HPW.out rfl)
     clear h6 hm hz HNO HMN HBD HEND HIN HST HZR HNOV
     generalize hh : pw / 2 = h at *
     clear hh
     obtain ⟨n, hn⟩ : ∃ n, ls.length = n := ⟨_, rfl⟩
     have HN : Hid (ls.length = n) := hn
     rw [hn] at HMY HNY HNOa HMNa HBDa HENDa HINa hl ⊢
     clear hn
     generalize manyL ls = mm at *
     go_enter Tryz.func10, Tryz.ntmps10
     go_wp2_with fail
     rw [HW.out]
     refine Calls.mono (HGP.out W NW.out) ?_
     rintro e w1 ⟨rfl, k1⟩
     have K1 : Hid (Nw W w1) := Kp.nw k1
     clear k1 y0 y1 y2 y3 y4
     go_wp2_with fail
     refine Calls.mono (HMY.out w1 (Nw.trans NW.out K1.out)) ?_
     rintro e w2 ⟨rfl, k2⟩
     have K2 : Hid (Nw W w2) := Nw.trans K1.out (Kp.nw k2)
     clear k2
     go_wp2_with fail
     refine Calls.mono (HNY.out w2 (Nw.trans NW.out K2.out)) ?_
     rintro e w3 ⟨rfl, k3⟩
     have K3 : Hid (Nw W w3) := Nw.trans K2.out (Kp.nw k3)
     obtain ⟨x0, _⟩ := HPB.out w3 K3.out
     clear k3
     obtain ⟨W4, hW4⟩ : ∃ W4, w3.alloc (.cells #[.slice none 0 0] 65) = W4 := ⟨_, rfl⟩
     obtain ⟨bx, hbx⟩ : ∃ bx, w3.heap.size = bx := ⟨_, rfl⟩
     have z0 : W4.cell? ⟨bx, 0, none⟩ = some (.slice none 0 0) := by rw [← hW4, ← hbx]; simp
     have zf : W4.frozen? ⟨bx, 0, none⟩ = false := by rw [← hW4, ← hbx]; exact World.frozen?_alloc_at _ _ _ _ rfl
     have n34 : Nw w3 W4 := by rw [← hW4]; exact (Below.refl _ _).alloc (Nat.le_refl _) _
     have S4 : Hid (W4.cell? ⟨bx, 0, none⟩ = some (.slice none 0 0) ∧ W4.frozen? ⟨bx, 0, none⟩ = false ∧ Nw W W4 ∧ w3.heap.size = bx ∧ W.heap.size ≤ bx) := ⟨z0, zf, Nw.trans K3.out n34, hbx, by rw [← hbx]; exact Below.size K3.out⟩
     have HW4 : Hid (_ = W4) := hW4
     clear hW4 n34
     go_upto_region 6 with fail
     rw [HW4.out]
     clear z0 zf x0 HW4
     go_wp2
     go_loopw [33, 7] (fun i q wr => ∃ (k : Nat) (it : Its) (v : Value), k ≤ n ∧ i = .int .i64 (k : Int) ∧ q = .int .i64 (manyL (it.map (·.2)) : Int) ∧ manyL (it.map (·.2)) ≤ 4800 ∧ wr.cell? ⟨bx, 0, none⟩ = some v ∧ wr.frozen? ⟨bx, 0, none⟩ = false ∧ OwnLn wr (bx + 1) v it ∧ SK k = some (it.map (·.2)) ∧ Nw W wr) (fun i _ _ => n - (intOf i).toNat)
     case atStart => exact ⟨0, [], _, Nat.zero_le _, rfl, rfl, by simp [manyL], S4.out.1, S4.out.2.1, OwnLn.nil _ _, HS0.out, S4.out.2.2.1⟩
     case round =>
      obtain ⟨k, it, v, hk, rfl, rfl, h48, z0, zf, ho, he, hw⟩ := hrel
      obtain ⟨wo, hwo⟩ : ∃ x, x = wr := ⟨_, rfl⟩
      subst hwo
      have HE : Hid (SK k = some (it.map (·.2))) := he
      have HO : Hid (OwnLn wo (bx + 1) v it) := ho
      have HWo : Hid (Nw W wo) := hw
      obtain ⟨M, hM⟩ : ∃ M, manyL (it.map (·.2)) = M := ⟨_, rfl⟩
      have HM : Hid (manyL (it.map (·.2)) = M) := hM
      rw [hM] at h48 ⊢
      clear hM
      have hil : it.length ≤ 720000 := by have := HBDa.out k _ hk he; rw [List.length_map] at this; exact this
      obtain ⟨va, vn, vc, hv⟩ := OwnQ.slice ho.own
      subst hv
      have Z0 : Hid (wo.cell? ⟨bx, 0, none⟩ = some (.slice va vn vc) ∧ wo.frozen? ⟨bx, 0, none⟩ = false ∧ bx < wo.heap.size) := ⟨z0, zf, World.block_lt_of_cell? wo ⟨bx, 0, none⟩ z0⟩
      clear ho hw he
      by_cases hlt : k < n
      ·have d1 : decide ((k : Int) < (n : Int)) = true := by simp; omega
       rcases (LinesC.nw HR.out (Nw.trans NW.out HWo.out)) with h0 | ⟨b, off, rfl, hb, hc⟩
       ·have := HN.out; rw [h0] at this; simp at this; omega
       obtain ⟨⟨pa, pcc, q0, hcap, hP⟩, q1⟩ := hc k (by rw [HN.out]; exact hlt)
       have HPk : Hid (Pts wo pa (lnAt ls k).pts) := hP
       have HZk := HZ.out k
       have HNOk : Hid _ := HNOa.out k hlt
       have HYk : Hid _ := HYES.out k
       have HINk : Hid _ := HINa.out k hlt
       have HDLk := HDL.out k
       have HMNk : Hid (∀ m, _) := fun m => HMNa.out k _ m hlt HE.out
       clear hc hP HZ HNOa HYES HINa HDL HMNa
       generalize lnAt ls k = ll at *
       obtain ⟨pts, cl⟩ := ll
       simp only at q0 q1 HPk HZk HNOk HYk HINk HDLk hcap HMNk
       by_cases hz : pts.length = 0
       ·have HZZ : Hid (SK (k + 1) = SK k) := HZk hz
        rw [hz] at q0
        clear HZk z0 zf
        have na1 : Nw wo (wo.alloc (.cells #[.slice pa 0 pcc, .bool cl] 25)) := Kp.nw ((Kp.refl wo).alloc _ _)
        have R1 : Hid _ := And.intro (nw_at na1 Z0.out.1) (And.intro (((bcell na1).2 _ _ Z0.out.2.2).trans Z0.out.2.1) (And.intro (OwnLn.nw HO.out na1) (Nw.trans HWo.out na1)))
        clear na1
        go_wp2
        go_roundw
        case rel => exact ⟨k + 1, it, _, hlt, by go_num, by rw [HM.out], by rw [HM.out]; exact h48, R1.out.1, R1.out.2.1, R1.out.2.2.1, by rw [HZZ.out]; exact HE.out, R1.out.2.2.2⟩
        case measure => simp [intOf]; omega
       ·obtain ⟨hp6, hok⟩ := HINk.out hz
        have hbx := Z0.out.2.2
        obtain ⟨W5, hW5⟩ : ∃ W5, wo.alloc (.cells #[.slice pa pts.length pcc, .bool cl] 25) = W5 := ⟨_, rfl⟩
        have n5 : Nw wo W5 := by rw [← hW5]; exact Kp.nw ((Kp.refl wo).alloc _ _)
        have HD : Hid _ := HDS.out W5 pa pcc pts cl (Nw.trans NW.out (Nw.trans HWo.out n5)) hp6 hcap (Pts.nw HPk.out n5)
        have d2 : ((pts.length : Int) == 0) = false := beq_eq_false_iff_ne.2 (by omega)
        obtain ⟨x0, x1, x2, x3, x4⟩ := HPB.out wo HWo.out
        have hbpw : bp < wo.heap.size := World.block_lt_of_cell? wo ⟨bp, 0, none⟩ x0
        have HOK : Hid _ := hok
        have HNZ : Hid (¬ pts.length = 0) := hz
        have HW5 : Hid (_ = W5) := hW5
        have N5 : Hid (Nw wo W5) := n5
        clear hok hW5 n5 HINk HPk HZk hcap HDS
        cases hds : (dsV ns pf pts cl).2 with
        | false =>
         have HRE : Hid (RV = ([], false)) := HNOk.out HNZ.out hds
         rw [hds] at HD
         clear hds hz HMNk HYk HNOk
         generalize pts.length = np at *
         go_wp2_with fail
         rw [HW5.out]
         refine Calls.mono HD.out ?_
         rintro e w6 ⟨v6, rfl, _, n6⟩
         have N6 : Hid (Nw w w6) := Nw.trans NW.out (Nw.trans HWo.out (Nw.trans N5.out n6))
         obtain ⟨sa, sn, sc, hv6⟩ : ∃ a b c, v6 = Value.slice a b c := by
          rename_i hls
          obtain ⟨_, h1, _⟩ := hls
          exact OwnQ.slice h1.own
         subst hv6
         clear n6
         go_wp2
         go_ret2
         rw [HRE.out]
         exact StS.no N6.out
        | true =>
         rw [hds] at HD
         have HSK : Hid _ := HYk.out _ HE.out HNZ.out hds
         have HMNm : Hid (∀ m, _) := fun m => HMNk.out m HNZ.out hds
         generalize (dsV ns pf pts cl).1 = ds at *
         clear hds hz HNOk HYk HMNk
         generalize pts.length = np at *
         go_wp2_with fail
         rw [HW5.out]
         refine Calls.mono HD.out ?_
         rintro e w6 ⟨v6, rfl, ⟨itd, od, hed⟩, n6⟩
         obtain ⟨da, dc, hv6, _⟩ := OwnLn.lines od
         rw [hed] at hv6
         have OD : Hid (OwnLn w6 W5.heap.size v6 itd) := od
         have HED : Hid (itd.map (·.2) = ds) := hed
         have NO6 : Hid (Nw wo w6) := Nw.trans N5.out n6
         have S56 : Hid (wo.heap.size ≤ W5.heap.size ∧ W5.heap.size ≤ w6.heap.size) := ⟨Below.size N5.out, Below.size n6⟩
         obtain ⟨nd, hnd⟩ : ∃ nd, ds.length = nd := ⟨_, rfl⟩
         have HND : Hid (ds.length = nd) := hnd
         rw [hnd] at hv6 HDLk
         subst hv6
         clear od hed n6 hnd x0 x1 x2 x3 x4 HD q0 q1 z0 zf
         go_wp2
         go_loopw [54, 7] (fun i q wr => ∃ (m : Nat) (it' : Its) (v : Value), m ≤ nd ∧ i = .int .i64 (m : Int) ∧ q = .int .i64 (manyL (it'.map (·.2)) : Int) ∧ manyL (it'.map (·.2)) ≤ 4800 ∧ wr.cell? ⟨bx, 0, none⟩ = some v ∧ wr.frozen? ⟨bx, 0, none⟩ = false ∧ OwnLn wr (bx + 1) v it' ∧ it'.map (·.2) = it.map (·.2) ++ strkS (ds.take m) h pj pc ∧ Nw W wr ∧ Kin W5.heap.size w6.heap.size w6 wr ∧ (∀ b, v.ownBlock = some b → b < W5.heap.size ∨ w6.heap.size ≤ b)) (fun i _ _ => nd - (intOf i).toNat)
         case atStart =>
          refine ⟨0, it, .slice va vn vc, Nat.zero_le _, rfl, by rw [HM.out], by rw [HM.out]; exact h48, nw_at NO6.out Z0.out.1, ((bcell NO6.out).2 _ _ Z0.out.2.2).trans Z0.out.2.1, OwnLn.nw HO.out NO6.out, by simp [strkS], Nw.trans HWo.out NO6.out, Kin.refl _ _ _, fun b hb => Or.inl ?_⟩
          have h1 := (OwnQ.lt HO.out.own b hb).2
          have h2 := S56.out.1
          omega
         case round =>
          obtain ⟨m, it', v', hm', rfl, rfl, h48', z0', zf', ho', he', hw', hkin, hbl⟩ := hrel
          have HE' : Hid _ := he'
          have HO' : Hid (OwnLn wr (bx + 1) v' it') := ho'
          have HW' : Hid (Nw W wr) := hw'
          have HK' : Hid (Kin W5.heap.size w6.heap.size w6 wr) := hkin
          have HBL' : Hid _ := hbl
          have Z1 : Hid (wr.cell? ⟨bx, 0, none⟩ = some v' ∧ wr.frozen? ⟨bx, 0, none⟩ = false ∧ bx < wr.heap.size) := ⟨z0', zf', World.block_lt_of_cell? wr ⟨bx, 0, none⟩ z0'⟩
          obtain ⟨M', hM'⟩ : ∃ M, manyL (it'.map (·.2)) = M := ⟨_, rfl⟩
          have HM' : Hid (manyL (it'.map (·.2)) = M') := hM'
          rw [hM'] at h48' ⊢
          obtain ⟨ua, un, uc, hu⟩ := OwnQ.slice ho'.own
          clear ho' he' hw' hkin hbl hM' z0' zf'
          by_cases hmlt : m < nd
          ·have d3 : decide ((m : Int) < (nd : Int)) = true := by simp; omega
           have odk := OwnLn.kin OD.out HK'.out (Nat.le_refl _)
           obtain ⟨da', dc', hda, hLn⟩ := OwnLn.lines odk
           rw [HED.out] at hda hLn
           have e0 : da = da' := by injection hda
           rw [← e0] at hLn
           clear hda e0
           rcases hLn with h0 | ⟨b2, off2, hda2, hb2, hc2⟩
           ·have := HND.out; rw [h0] at this; simp at this; omega
           subst hda2
           obtain ⟨⟨pa2, pc2, r0, hP2⟩, r1⟩ := hc2 m (by rw [HND.out]; exact hmlt)
           have hok2 := HOK.out (lnAt ds m) (lnAt_mem (by rw [HND.out]; exact hmlt))
           have HSS : Hid (strkS (ds.take (m + 1)) h pj pc = strkS (ds.take m) h pj pc ++ strkL (lnAt ds m) h pj pc) := strkS_succ ds h pj pc m (by rw [HND.out]; exact hmlt)
           have hll : it'.length ≤ 730000 := by
            have e1 := congrArg List.length HE'.out
            rw [List.length_map, List.length_append, List.length_map] at e1
            have e2 := strkS_take_len ds h pj pc m
            have e3 := HDLk.2
            omega
           have hsl := strkL_len (lnAt ds m) h pj pc
           have hsm := (slim_strk (lnAt ds m) h pj pc).many
           have hs6 := hok2.2.1
           obtain ⟨x0, x1, x2, x3, x4⟩ := HPB.out wr HW'.out
           have hbpw2 : bp < wr.heap.size := World.block_lt_of_cell? wr ⟨bp, 0, none⟩ x0
           generalize lnAt ds m = dl at *
           obtain ⟨dpts, dcl⟩ := dl
           simp only at r0 r1 hP2 hok2 hsl hs6 hsm
           obtain ⟨W7, hW7⟩ : ∃ W7, wr.alloc (.cells #[.slice pa2 dpts.length pc2, .bool dcl] 25) = W7 := ⟨_, rfl⟩
           have n7 : Nw wr W7 := by rw [← hW7]; exact Kp.nw ((Kp.refl wr).alloc _ _)
           have HLL : Hid _ := HSTa.out W7 pa2 pc2 ⟨dpts, dcl⟩ hok2 (Pts.nw hP2 n7)
           simp only at HLL
           have N7 : Hid (Nw wr W7) := n7
           have HSL : Hid ((strkL ⟨dpts, dcl⟩ h pj pc).length ≤ 1200 ∧ manyL (strkL ⟨dpts, dcl⟩ h pj pc) ≤ 38400) := ⟨by omega, by omega⟩
           have HLT : Hid (it'.length ≤ 730000) := hll
           have HW7 : Hid (_ = W7) := hW7
           generalize strkL ⟨dpts, dcl⟩ h pj pc = ST at *
           clear hP2 hok2 hsl hs6 hsm hc2 odk n7 hW7 hll
           generalize dpts.length = dn at *
           go_wp2_with fail
           rw [HW7.out]
           refine Calls.mono HLL.out ?_
           rintro e w8 ⟨v8, rfl, ⟨it8, o8, e8⟩, n8⟩
           obtain ⟨ga, gc, hv8, _⟩ := OwnLn.lines o8
           have O8 : Hid (OwnLn w8 W7.heap.size v8 it8) := o8
           have E8 : Hid (it8.map (·.2) = ST) := e8
           have N8 : Hid (Nw wr w8) := Nw.trans N7.out n8
           have L8 : Hid (it8.length ≤ 1200) := by show _ ≤ _; have := congrArg List.length e8; rw [List.length_map] at this; have := HSL.out.1; omega
           have S7 : Hid (wr.heap.size ≤ W7.heap.size ∧ W7.heap.size ≤ w8.heap.size) := ⟨Below.size N7.out, Below.size n8⟩
           have hne : v'.ownBlock ≠ some bx := fun e => by have := (OwnQ.lt HO'.out.own bx e).1; omega
           have HA : Hid _ := iaddLns w8 bx 0 (bx + 1) W7.heap.size v' v8 it' it8 (nw_at N8.out Z1.out.1) (((bcell N8.out).2 _ _ Z1.out.2.2).trans Z1.out.2.1) (OwnQ.nw HO'.out.own N8.out) O8.out.own O8.out.its.one (by have h1 := HLT.out; have h2 := L8.out; omega) (by have h1 := Z1.out.2.2; have h2 := Below.size N8.out; omega) hne
           have HNE : Hid (v'.ownBlock ≠ some bx) := hne
           rw [e8] at hv8
           obtain ⟨gn, hgn⟩ : ∃ gn, ST.length = gn := ⟨_, rfl⟩
           have HGN : Hid (ST.length = gn) := hgn
           rw [hgn] at hv8
           subst hv8
           clear o8 e8 n8 r0 r1 x0 x1 x2 x3 x4 HLL hne hgn
           go_wp2_with fail
           refine Calls.mono HA.out ?_
           rintro e w10 ⟨rfl, v9, w9, o9, x9, hw10⟩
           have hbx8 : bx < w8.heap.size := by have h1 := Z1.out.2.2; have h2 := Below.size N8.out; omega
           have hne9 : v9.ownBlock ≠ some bx := Ext.apart x9 hbx8 HNE.out
           have s0 : w10.cell? ⟨bx, 0, none⟩ = some v9 := by rw [hw10]; exact World.cell?_setCell_same w9 ⟨bx, 0, none⟩ _ ((Ext.cell x9 hbx8 HNE.out 0).trans (nw_at N8.out Z1.out.1))
           have s1 : w10.frozen? ⟨bx, 0, none⟩ = false := by
            rw [hw10, World.frozen?_setCell]
            exact (World.frozen?_of_block (w := w8) (a := ⟨bx, 0, none⟩) (x9.1.block _ hbx8 (fun e => HNE.out e.symm))).trans (((bcell N8.out).2 _ _ Z1.out.2.2).trans Z1.out.2.1)
           have hB' : bx + 1 ≤ wr.heap.size := Z1.out.2.2
           have O10 : Hid (OwnLn w10 (bx + 1) v9 (it' ++ it8)) := by
            show OwnLn _ _ _ _
            rw [hw10]
            exact OwnLn.farSet (OwnLn.puts (u := .slice none 0 0) HO'.out N8.out hB' (ItsOk.base O8.out.its S7.out.1) o9 x9) bx 0 v9 (Nat.lt_succ_self _)
           have hWb : W.heap.size ≤ bx := S4.out.2.2.2.2
           have N10 : Hid (Nw W w10) := by
            show Nw _ _
            rw [hw10]
            have b1 : Below W.heap.size w8 w9 := Ext.below x9 (fun g hg => by have := (OwnQ.lt HO'.out.own g hg).1; omega) (by omega)
            exact Below.setCell (Below.trans (Nw.trans HW'.out N8.out) b1) hWb _
           have hvlt : ∀ b, v'.ownBlock = some b → b < wr.heap.size := fun b hb => (OwnQ.lt HO'.out.own b hb).2
           have s78 := S7.out
           have hk6 := HK'.out.1
           have s68 : w6.heap.size ≤ w8.heap.size := by omega
           have hbx5 : bx < W5.heap.size := by have h1 := Z0.out.2.2; have h2 := S56.out.1; omega
           have K10 : Hid (Kin W5.heap.size w6.heap.size w6 w10) := by
            show Kin _ _ _ _
            rw [hw10]
            exact Kin.trans HK'.out (Kin.trans (Kin.nw N8.out hk6) (Kin.trans (Kin.ext x9 s68 HBL'.out) (Kin.set v9 (Or.inl hbx5))))
           have B10 : Hid (∀ b, v9.ownBlock = some b → b < W5.heap.size ∨ w6.heap.size ≤ b) := fun b hb => by
            rcases x9.2 with h4 | ⟨g, h4, h5⟩
            ·rw [h4] at hb; exact HBL'.out b hb
            ·rw [h4] at hb; injection hb with hb; omega
           have O8' : OwnLn w10 W7.heap.size (.slice ga gn gc) it8 := by
            rw [hw10]
            exact OwnLn.kin O8.out (Kin.trans (Kin.ext (hi := w8.heap.size) x9 (Nat.le_refl _) (fun b hb => Or.inl (by have := hvlt b hb; omega))) (Kin.set v9 (Or.inl (by omega)))) (Nat.le_refl _)
           obtain ⟨ga', gc', hga, hLn8⟩ := OwnLn.lines O8'
           rw [E8.out] at hga hLn8
           have e1 : ga = ga' := by injection hga
           rw [← e1] at hLn8
           have HMP := imany w10 ga gc ST (by have := HSL.out.1; omega) (by have := HSL.out.2; omega) hLn8
           rw [HGN.out] at HMP
           have HMPP : Hid _ := HMP
           have SS : Hid _ := And.intro s0 s1
           have hms : manyL (it'.map (·.2) ++ ST) = M' + manyL ST := by rw [manyL_app', HM'.out]
           have HMS : Hid (manyL ((it' ++ it8).map (·.2)) = M' + manyL ST) := by show _ = _; rw [List.map_append, E8.out]; exact hms
           have hmst := HSL.out.2
           have HTK : Hid ((it' ++ it8).map (·.2) = it.map (·.2) ++ strkS (ds.take (m + 1)) h pj pc) := by show _ = _; rw [List.map_append, HE'.out, E8.out, HSS.out, List.append_assoc]
           have HMB := HMNm.out (m + 1)
           rw [← HTK.out, HMS.out] at HMB
           have HMBH : Hid _ := HMB
           clear s0 s1 o9 x9 hne9 hLn8 O8' hga e1 hms HMB HMP hw10 hB' hWb hvlt s78 hk6 s68
           generalize manyL ST = ms at *
           go_wp2_with fail
           refine Calls.mono HMPP.out ?_
           rintro e w11 ⟨rfl, k11⟩
           have N11 : Hid (Nw w10 w11) := Kp.nw k11
           clear k11
           by_cases hbig : 4800 < M' + ms
           ·have d4 : decide ((4800 : Int) < (M' : Int) + (ms : Int)) = true := by simp; omega
            have HRE : Hid (RV = ([], false)) := HMBH.out hbig
            go_wp2
            go_ret2
            rw [HRE.out]
            exact StS.no (Nw.trans NW.out (Nw.trans N10.out N11.out))
           ·have d4 : decide ((4800 : Int) < (M' : Int) + (ms : Int)) = false := by simp; omega
            have R11 : Hid _ := And.intro (nw_at N11.out SS.out.1) (And.intro (((bcell N11.out).2 _ _ (World.block_lt_of_cell? w10 ⟨bx, 0, none⟩ SS.out.1)).trans SS.out.2) (And.intro (OwnLn.nw O10.out N11.out) (And.intro (Nw.trans N10.out N11.out) (Kin.trans K10.out (Kin.nw N11.out K10.out.1)))))
            go_wp2
            go_roundw
            case rel => exact ⟨m + 1, it' ++ it8, v9, hmlt, by go_num, by rw [HMS.out]; go_num, by rw [HMS.out]; omega, R11.out.1, R11.out.2.1, R11.out.2.2.1, HTK.out, R11.out.2.2.2.1, R11.out.2.2.2.2, B10.out⟩
            case measure => simp [intOf]; omega
          ·obtain rfl : m = nd := by omega
           have d3 : decide ((m : Int) < (m : Int)) = false := by simp
           have HTK : Hid (ds.take m = ds) := by show _ = _; rw [← HND.out, List.take_length]
           go_wp2
           go_roundw
           case rel => exact ⟨k + 1, it', v', hlt, by go_num, by rw [HM'.out], by rw [HM'.out]; exact h48', Z1.out.1, Z1.out.2.1, HO'.out, by rw [HSK.out, HE'.out, HTK.out], HW'.out⟩
           case measure => simp [intOf]; omega
      ·obtain rfl : k = n := by omega
       have d1 : decide ((k : Int) < (k : Int)) = false := by simp
       have HRE : Hid (RV = (it.map (·.2), true)) := HENDa.out _ HE.out (by rw [HM.out]; exact h48)
       go_wp2
       go_ret2
       rw [HRE.out]
       exact ⟨_, rfl, LsOk.of (OwnLn.base HO.out (by have := S4.out.2.2.2.2; have := Below.size NW.out; omega)) rfl, Nw.trans NW.out HWo.out⟩
  ·have d6 : decide ((600 : Int) < (manyL ls : Int)) = true := by simp; omega
   have HE : Hid (RV = ([], false)) := HNOV.out (fun h => h6 h.2.1)
   clear h6 hm
   generalize ls.length = n at *
   generalize manyL ls = mm at *
   go_enter Tryz.func10, Tryz.ntmps10
   go_wp2_with fail
   rw [HW.out]
   refine Calls.mono (HGP.out W NW.out) ?_
   rintro e w1 ⟨rfl, k1⟩
   have K1 : Hid (Nw W w1) := Kp.nw k1
   clear k1 y0 y1 y2 y3 y4
   go_wp2_with fail
   refine Calls.mono (HMY.out w1 (Nw.trans NW.out K1.out)) ?_
   rintro e w2 ⟨rfl, k2⟩
   have K2 : Hid (Nw w w2) := Nw.trans NW.out (Nw.trans K1.out (Kp.nw k2))
   clear k2
   go_wp2
   go_ret2
   rw [HE.out]
   exact StS.no K2.out
theorem cornsK_closed (J : Sg → Sg → List Pnt) (l : List Sg) (cl : Bool) : ∀ k, ∀ x, x ∈ cornsK J l cl k → x.closed = true
 | 0, x, h => by simp [cornsK] at h
 | k + 1, x, h => by
  simp only [cornsK, List.mem_append] at h
  rcases h with h | h
  ·exact cornsK_closed J l cl k x h
  ·split at h
   ·simp at h
   ·simp at h; rw [h]
theorem capL_closed (c : Int) (a s o : Pnt) (h : Int) : ∀ x, x ∈ capL c a s o h → x.closed = true := by
 intro x hx
 unfold capL at hx
 split at hx
 ·simp at hx; rw [hx]
 ·split at hx
  ·simp at hx; rw [hx]
  ·simp at hx
theorem strkL_closed (l : LD) (h j c : Int) : ∀ x, x ∈ strkL l h j c → x.closed = true := by
 intro x hx
 unfold strkL at hx
 split at hx
 ·simp at hx
 ·unfold strkQ at hx
  simp only [List.mem_append] at hx
  rcases hx with (hx | hx) | hx
  ·rw [List.mem_map] at hx
   obtain ⟨y, _, rfl⟩ := hx
   rfl
  ·exact cornsK_closed _ _ _ _ x hx
  ·split at hx
   ·simp at hx
   ·unfold capsL at hx
    rcases List.mem_append.1 hx with hx | hx
    ·exact capL_closed _ _ _ _ _ x hx
    ·exact capL_closed _ _ _ _ _ x hx
theorem strkS_closed (ds : List LD) (h j c : Int) : ∀ x, x ∈ strkS ds h j c → x.closed = true := by
 intro x hx
 unfold strkS at hx
 rw [List.mem_flatMap] at hx
 obtain ⟨l, _, hx⟩ := hx
 exact strkL_closed l h j c x hx
theorem stK_closed (ls : List LD) (p : PD) (ns : List Int) : ∀ k o, stK ls p ns k = some o → ∀ x, x ∈ o → x.closed = true
 | 0, o, h => by
  simp [stK] at h
  subst h
  intro x hx
  simp at hx
 | k + 1, o, h => by
  unfold stK at h
  cases hk : stK ls p ns k with
  | none => rw [hk] at h; simp at h
  | some o1 =>
   rw [hk] at h
   have ih := stK_closed ls p ns k o1 hk
   simp only at h
   split at h
   ·injection h with h; subst h; exact ih
   ·split at h
    ·injection h with h
     subst h
     intro x hx
     rcases List.mem_append.1 hx with hx | hx
     ·exact ih x hx
     ·exact strkS_closed _ _ _ _ x hx
    ·cases h
theorem stkV_closed (ls : List LD) (p : PD) (ns : List Int) : ∀ x, x ∈ (stkV ls p ns).1 → x.closed = true := by
 unfold stkV
 split
 ·split
  ·intro x hx; simp at hx
  ·split
   ·intro x hx; simp at hx
   ·rename_i o ho
    split
    ·exact stK_closed ls p ns _ o ho
    ·intro x hx; simp at hx
 ·intro x hx; simp at hx
theorem stkV_wide (ls : List LD) (p : PD) (ns : List Int) : 0 < p.w ∨ (stkV ls p ns).1 = [] := by
 unfold stkV
 split
 ·rename_i h
  have hp := h.1
  unfold penB at hp
  simp only [Bool.and_eq_true, decide_eq_true_eq] at hp
  split
  ·exact Or.inr rfl
  ·exact Or.inl (by have := hp.1.1; omega)
 ·exact Or.inr rfl
theorem dsV_plain (p : List Pnt) (cl : Bool) (h : (dsV [] 0 p cl).2 = true) : dsV [] 0 p cl = ([⟨p, cl⟩], true) := by
 unfold dsV at h ⊢
 split
 ·rfl
 ·rename_i hn
  rw [if_neg hn] at h
  cases h
theorem dsV_some {ns : List Int} {f : Int} {p : List Pnt} {cl : Bool} (h : (dsV ns f p cl).2 = true) : 1 ≤ p.length := by
 unfold dsV at h
 split at h
 ·rename_i hi
  unfold dsIn at hi
  simp only [Bool.and_eq_true, decide_eq_true_eq] at hi
  exact hi.1.1
 ·cases h
theorem stkV_few (ls : List LD) (p : PD) (ns : List Int) : (stkV ls p ns).1.length ≤ 1048576 := by
 unfold stkV
 split
 ·rename_i hc
  split
  ·simp
  ·cases hs : stK ls p ns ls.length with
   | none => simp
   | some o =>
    simp only
    split
    ·have b1 := (stK_bd ls p ns ls.length o (Nat.le_refl _) hs).1
     rw [List.take_length] at b1
     have := hc.2.1
     show o.length ≤ _
     omega
    ·simp
 ·simp
structure BoxS (Wb : World) (a b : Nat) (wr : World) (lx ly hx hy : Int) (p : List Pnt) (k : Nat) : Prop where
 l0 : wr.cell? ⟨a, 0, none⟩ = some (.int .i64 lx)
 l1 : wr.cell? ⟨a, 1, none⟩ = some (.int .i64 ly)
 h0 : wr.cell? ⟨b, 0, none⟩ = some (.int .i64 hx)
 h1 : wr.cell? ⟨b, 1, none⟩ = some (.int .i64 hy)
 fl : ∀ o, wr.frozen? ⟨a, o, none⟩ = false
 fh : ∀ o, wr.frozen? ⟨b, o, none⟩ = false
 ne : a ≠ b
 wa : Wb.heap.size ≤ a
 wb : Wb.heap.size ≤ b
 kept : Nw Wb wr
 box : ∀ i, i < k → bxP lx hx ly hy (ptAt p i)
theorem BoxS.la {Wb wr : World} {a b k : Nat} {lx ly hx hy : Int} {p : List Pnt} (h : BoxS Wb a b wr lx ly hx hy p k) : a < wr.heap.size := World.block_lt_of_cell? wr ⟨a, 0, none⟩ h.l0
theorem BoxS.lb {Wb wr : World} {a b k : Nat} {lx ly hx hy : Int} {p : List Pnt} (h : BoxS Wb a b wr lx ly hx hy p k) : b < wr.heap.size := World.block_lt_of_cell? wr ⟨b, 0, none⟩ h.h0
theorem BoxS.nw {Wb wr w2 : World} {a b k : Nat} {lx ly hx hy : Int} {p : List Pnt} (h : BoxS Wb a b wr lx ly hx hy p k) (n : Nw wr w2) : BoxS Wb a b w2 lx ly hx hy p k :=
 ⟨((bcell n).1 _ _ h.la).trans h.l0, ((bcell n).1 _ _ h.la).trans h.l1, ((bcell n).1 _ _ h.lb).trans h.h0, ((bcell n).1 _ _ h.lb).trans h.h1, fun o => ((bcell n).2 _ _ h.la).trans (h.fl o), fun o => ((bcell n).2 _ _ h.lb).trans (h.fh o), h.ne, h.wa, h.wb, Nw.trans h.kept n, h.box⟩
theorem BoxS.new (w : World) (x y : Int) (t : TypeId) (p : List Pnt) : BoxS w w.heap.size (w.heap.size + 1) ((w.alloc (.cells #[.int .i64 x, .int .i64 y] t)).alloc (.cells #[.int .i64 x, .int .i64 y] t)) x y x y p 0 := by
 have n1 : Nw (w.alloc (.cells #[.int .i64 x, .int .i64 y] t)) ((w.alloc (.cells #[.int .i64 x, .int .i64 y] t)).alloc (.cells #[.int .i64 x, .int .i64 y] t)) := (Below.refl _ _).alloc (Nat.le_refl _) _
 have hs : (w.alloc (.cells #[.int .i64 x, .int .i64 y] t)).heap.size = w.heap.size + 1 := by simp
 refine ⟨((bcell n1).1 _ _ (by omega)).trans (by simp), ((bcell n1).1 _ _ (by omega)).trans (by simp), by rw [← hs]; simp, by rw [← hs]; simp, fun o => ((bcell n1).2 _ _ (by omega)).trans (World.frozen?_alloc_at _ _ _ _ rfl), fun o => by rw [← hs]; exact World.frozen?_alloc_at _ _ _ _ rfl, by omega, Nat.le_refl _, by omega, Nw.trans ((Below.refl _ _).alloc (Nat.le_refl _) _) n1, fun i hi => by omega⟩
theorem BoxS.sa0 {Wb wr : World} {a b k : Nat} {lx ly hx hy : Int} {p : List Pnt} (h : BoxS Wb a b wr lx ly hx hy p k) (x : Int) (hx' : x ≤ lx) : BoxS Wb a b (wr.setCell ⟨a, 0, none⟩ (.int .i64 x)) x ly hx hy p k :=
 ⟨World.cell?_setCell_same wr ⟨a, 0, none⟩ _ h.l0, (World.cell?_setCell_other _ _ _ _ (by simp)).trans h.l1, (World.cell?_setCell_other _ _ _ _ (fun e => by injection e with e; exact h.ne e)).trans h.h0, (World.cell?_setCell_other _ _ _ _ (fun e => by injection e with e; exact h.ne e)).trans h.h1,
  fun o => by rw [World.frozen?_setCell]; exact h.fl o, fun o => by rw [World.frozen?_setCell]; exact h.fh o, h.ne, h.wa, h.wb, Below.setCell h.kept (show Wb.heap.size ≤ (Addr.mk a 0 none).block from h.wa) _, fun i hi => by have := h.box i hi; unfold bxP at this ⊢; omega⟩
theorem BoxS.sa1 {Wb wr : World} {a b k : Nat} {lx ly hx hy : Int} {p : List Pnt} (h : BoxS Wb a b wr lx ly hx hy p k) (x : Int) (hx' : x ≤ ly) : BoxS Wb a b (wr.setCell ⟨a, 1, none⟩ (.int .i64 x)) lx x hx hy p k :=
 ⟨(World.cell?_setCell_other _ _ _ _ (by simp)).trans h.l0, World.cell?_setCell_same wr ⟨a, 1, none⟩ _ h.l1, (World.cell?_setCell_other _ _ _ _ (fun e => by injection e with e; exact h.ne e)).trans h.h0, (World.cell?_setCell_other _ _ _ _ (fun e => by injection e with e; exact h.ne e)).trans h.h1,
  fun o => by rw [World.frozen?_setCell]; exact h.fl o, fun o => by rw [World.frozen?_setCell]; exact h.fh o, h.ne, h.wa, h.wb, Below.setCell h.kept (show Wb.heap.size ≤ (Addr.mk a 1 none).block from h.wa) _, fun i hi => by have := h.box i hi; unfold bxP at this ⊢; omega⟩
theorem BoxS.sb0 {Wb wr : World} {a b k : Nat} {lx ly hx hy : Int} {p : List Pnt} (h : BoxS Wb a b wr lx ly hx hy p k) (x : Int) (hx' : hx ≤ x) : BoxS Wb a b (wr.setCell ⟨b, 0, none⟩ (.int .i64 x)) lx ly x hy p k :=
 ⟨(World.cell?_setCell_other _ _ _ _ (fun e => by injection e with e; exact h.ne e.symm)).trans h.l0, (World.cell?_setCell_other _ _ _ _ (fun e => by injection e with e; exact h.ne e.symm)).trans h.l1, World.cell?_setCell_same wr ⟨b, 0, none⟩ _ h.h0, (World.cell?_setCell_other _ _ _ _ (by simp)).trans h.h1,
  fun o => by rw [World.frozen?_setCell]; exact h.fl o, fun o => by rw [World.frozen?_setCell]; exact h.fh o, h.ne, h.wa, h.wb, Below.setCell h.kept (show Wb.heap.size ≤ (Addr.mk b 0 none).block from h.wb) _, fun i hi => by have := h.box i hi; unfold bxP at this ⊢; omega⟩
theorem BoxS.sb1 {Wb wr : World} {a b k : Nat} {lx ly hx hy : Int} {p : List Pnt} (h : BoxS Wb a b wr lx ly hx hy p k) (x : Int) (hx' : hy ≤ x) : BoxS Wb a b (wr.setCell ⟨b, 1, none⟩ (.int .i64 x)) lx ly hx x p k :=
 ⟨(World.cell?_setCell_other _ _ _ _ (fun e => by injection e with e; exact h.ne e.symm)).trans h.l0, (World.cell?_setCell_other _ _ _ _ (fun e => by injection e with e; exact h.ne e.symm)).trans h.l1, (World.cell?_setCell_other _ _ _ _ (by simp)).trans h.h0, World.cell?_setCell_same wr ⟨b, 1, none⟩ _ h.h1,
  fun o => by rw [World.frozen?_setCell]; exact h.fl o, fun o => by rw [World.frozen?_setCell]; exact h.fh o, h.ne, h.wa, h.wb, Below.setCell h.kept (show Wb.heap.size ≤ (Addr.mk b 1 none).block from h.wb) _, fun i hi => by have := h.box i hi; unfold bxP at this ⊢; omega⟩
theorem BoxS.step {Wb wr : World} {a b k : Nat} {lx ly hx hy : Int} {p : List Pnt} (h : BoxS Wb a b wr lx ly hx hy p k) {qx qy : Int} (e : ptAt p k = (qx, qy)) (hq : bxP lx hx ly hy (qx, qy)) : BoxS Wb a b wr lx ly hx hy p (k + 1) :=
 ⟨h.l0, h.l1, h.h0, h.h1, h.fl, h.fh, h.ne, h.wa, h.wb, h.kept, fun i hi => by
  by_cases hik : i < k
  ·exact h.box i hik
  ·obtain rfl : i = k := by omega
   rw [e]
   exact hq⟩
theorem OwnLn.linesC {w : World} {B : Nat} {v : Value} {it : Its} (h : OwnLn w B v it) : ∃ a c, v = .slice a (it.map (·.2)).length c ∧ LinesC w a (it.map (·.2)) := by
 rcases OwnQ.form h.own with ⟨e1, e2⟩ | ⟨g, c, e1, _, h3, _, _, h4, _⟩
 ·have e : it = [] := by
   have := congrArg List.length e2
   rw [vLn_len] at this
   exact List.eq_nil_of_length_eq_zero this
  subst e
  exact ⟨none, 0, e1, Or.inl rfl⟩
 ·rw [vLn_len] at e1 h4
  refine ⟨some ⟨g, 0, none⟩, c, by rw [e1]; simp, Or.inr ⟨g, 0, rfl, h3, fun i hi => ?_⟩⟩
  have hi' : i < it.length := by simpa using hi
  obtain ⟨c0, c1⟩ := h4 i hi'
  rw [vLn_at it i hi'] at c0 c1
  rw [ld_at it i hi', Nat.zero_add]
  refine ⟨?_, c1⟩
  simp only at c0
  rcases OwnQ.form (h.pts i hi') with ⟨e3, e4⟩ | ⟨g2, c2, e3, _, h6, h7, _, _, _⟩
  ·have e : (itAt it i).2.pts = [] := by
    have := congrArg List.length e4
    rw [vP_len] at this
    exact List.eq_nil_of_length_eq_zero this
   rw [e3] at c0
   refine ⟨none, 0, by rw [e]; exact c0, by rw [e]; simp, by rw [e]; exact Or.inl rfl⟩
  ·rw [vP_len] at e3 h7
   obtain ⟨a', c', e5, h8⟩ := OwnP.pts (h.pts i hi')
   rw [e3] at e5
   injection e5 with e6 _ e7
   subst e6 e7
   exact ⟨_, _, by rw [e3] at c0; exact c0, h7, h8⟩
theorem OwnP.room {w : World} {B : Nat} {v : Value} {p : List Pnt} (h : OwnP w B v p) : ∃ a c, v = .slice a p.length c ∧ p.length ≤ c ∧ Pts w a p := by
 rcases OwnQ.form h with ⟨e3, e4⟩ | ⟨g2, c2, e3, _, h6, h7, _, _, _⟩
 ·have e : p = [] := by
   have := congrArg List.length e4
   rw [vP_len] at this
   exact List.eq_nil_of_length_eq_zero this
  subst e
  exact ⟨none, 0, e3, Nat.le_refl _, Or.inl rfl⟩
 ·rw [vP_len] at e3 h7
  obtain ⟨a', c', e5, h8⟩ := OwnP.pts h
  rw [e3] at e5
  injection e5 with e6 _ e7
  subst e6 e7
  exact ⟨_, _, e3, h7, h8⟩
theorem ins_ints {w : World} {B : Nat} {v : Value} {l : List Int} (h : Ins w B v l) : ∃ a c, v = .slice a l.length c ∧ Ints w a l := by
 rcases h.lay with ⟨e, e2⟩ | ⟨g, c, e, _, h3⟩
 ·subst e2; exact ⟨none, 0, e, Or.inl rfl⟩
 ·exact ⟨_, c, e, h3.ints⟩
theorem Sel.drew {B : Nat} {a b : World} (h : Sel B a b) : Sel B a b.drew := ⟨h.os, h.tape, h.output, h.size, h.block⟩
theorem Sel.cell {B : Nat} {w w' : World} (h : Sel B w w') {p : Addr} (hp : p.block ≠ B) : w'.cell? p = w.cell? p := World.cell?_of_block (w := w) (h.block p.block hp)
def Code (w : World) (B : Nat) (ca : Option Addr) (len : Nat) : Prop :=
 len = 0 ∨ ∃ b off, ca = some ⟨b, off, none⟩ ∧ b < B ∧ ∀ i, i < len → ∃ v : Int, 0 ≤ v ∧ v ≤ 255 ∧ w.cell? ⟨b, off + i, none⟩ = some (.int .u8 v)
def Cur (w : World) (B : Nat) (ca : Option Addr) (len cap : Nat) (n : Nat) : Prop :=
 ∃ (k : Nat) (sd : Int), k ≤ n ∧ 0 ≤ sd ∧ sd < 18446744073709551616 ∧ w.cell? ⟨B, 0, none⟩ = some (.slice ca len cap) ∧ w.cell? ⟨B, 1, none⟩ = some (.int .i64 (k : Int)) ∧ w.cell? ⟨B, 2, none⟩ = some (.int .u64 sd) ∧ (∀ o, w.frozen? ⟨B, o, none⟩ = false) ∧ B < w.heap.size
theorem and_byte (a : Int) (h0 : 0 ≤ a) (h : a < 18446744073709551616) : bits .and .u64 a 255 = a % 256 := by
 obtain ⟨x, rfl⟩ := Int.eq_ofNat_of_zero_le h0
 have e := bits_and_u64_nat x 255 (by omega) (by omega)
 have e2 : x &&& 255 = x % 256 := Nat.and_two_pow_sub_one_eq_mod x 8
 rw [e2] at e
 exact e
theorem cur_set (w : World) (B : Nat) (ca : Option Addr) (len cap n k : Nat) (sd S : Int) (hk : k ≤ n) (S0 : 0 ≤ S) (S1 : S < 18446744073709551616) (c0 : w.cell? ⟨B, 0, none⟩ = some (.slice ca len cap)) (c1 : w.cell? ⟨B, 1, none⟩ = some (.int .i64 (k : Int))) (c2 : w.cell? ⟨B, 2, none⟩ = some (.int .u64 sd)) (hf : ∀ o, w.frozen? ⟨B, o, none⟩ = false) (hB : B < w.heap.size) :
  Cur ((w.setCell ⟨B, 1, none⟩ (.int .i64 ((k : Int) + 1))).setCell ⟨B, 2, none⟩ (.int .u64 S)) B ca len cap (n + 1) ∧ Sel B w ((w.setCell ⟨B, 1, none⟩ (.int .i64 ((k : Int) + 1))).setCell ⟨B, 2, none⟩ (.int .u64 S)) := by
 refine ⟨⟨k + 1, S, by omega, S0, S1, ?_, ?_, ?_, ?_, by simpa [World.setCell] using hB⟩, ((Sel.refl B w).setCell _ _).setCell _ _⟩
 ·rw [World.cell?_setCell_other _ _ _ _ (by simp), World.cell?_setCell_other _ _ _ _ (by simp)]; exact c0
 ·rw [World.cell?_setCell_other _ _ _ _ (by simp)]
  rw [World.cell?_setCell_same (u := .int .i64 (k : Int)) (h := c1)]; rfl
 ·apply World.cell?_setCell_same (u := .int .u64 sd)
  rw [World.cell?_setCell_other _ _ _ _ (by simp)]; exact c2
 ·intro o; rw [World.frozen?_setCell, World.frozen?_setCell]; exact hf o
theorem wrap_bd (x : Int) : 0 ≤ IntKind.u64.wrap x ∧ IntKind.u64.wrap x < 18446744073709551616 := by rw [IntKind.wrap_u64]; omega
theorem seed_bd (X : Int) : 0 ≤ wrap64 (bits .and .u64 (IntKind.u64.wrap X / 1099511627776) 255) ∧ wrap64 (bits .and .u64 (IntKind.u64.wrap X / 1099511627776) 255) ≤ 255 := by
 have h := wrap_bd X
 rw [and_byte _ (by omega) (by omega)]
 generalize IntKind.u64.wrap X = Y at *
 rw [IntWalk.wrap64_in _ ⟨by omega, by omega⟩]
 omega
set_option maxHeartbeats 1000000 in
theorem next_any (w : World) (B : Nat) (ca : Option Addr) (len cap n : Nat) (hl : len ≤ 9223372036854775807) (hn : n ≤ 1099511627776) (hc : Cur w B ca len cap n) (hd : Code w B ca len) :
  Calls Tryz.prog 58 #[.pointer (some ⟨B, 0, none⟩)] w fun e w' => ∃ v : Int, e = .returned (.int .i64 v) ∧ 0 ≤ v ∧ v ≤ 255 ∧ Cur w' B ca len cap (n + 1) ∧ Sel B w w' := by
 obtain ⟨k, sd, hk, s0, s1, c0, c1, c2, hf, hB⟩ := hc
 by_cases hlt : k < len
 ·rcases hd with h | ⟨b, off, rfl, hb, hcs⟩
  ·exact absurd hlt (by omega)
  ·obtain ⟨v, v0, v1, hv⟩ := hcs k hlt
   clear hcs
   have HC := fun S S0 S1 => Hid.out (cur_set w B (some ⟨b, off, none⟩) len cap n k sd S hk S0 S1 c0 c1 c2 hf hB)
   have HC' : Hid _ := HC
   clear HC
   go_enter Tryz.func58, Tryz.ntmps58
   go_wp2
   go_region
   go_wp2
   go_region
   go_wp2
   go_region
   go_wp2
   go_ret
   exact ⟨v, rfl, v0, v1, (HC'.out _ (wrap_bd _).1 (wrap_bd _).2).1, (HC'.out _ (wrap_bd _).1 (wrap_bd _).2).2.drew.drew.drew⟩
 ·have HC := fun S S0 S1 => Hid.out (cur_set w B ca len cap n k sd S hk S0 S1 c0 c1 c2 hf hB)
  have HC' : Hid _ := HC
  clear HC
  go_enter Tryz.func58, Tryz.ntmps58
  go_wp2
  go_region
  go_wp2
  go_region
  go_wp2
  go_ret
  exact ⟨_, rfl, (seed_bd _).1, (seed_bd _).2, (HC'.out _ (wrap_bd _).1 (wrap_bd _).2).1, (HC'.out _ (wrap_bd _).1 (wrap_bd _).2).2.drew.drew⟩
theorem Code.below {w w1 : World} {B : Nat} {ca : Option Addr} {len : Nat} (h : Code w B ca len) (hb : Below B w w1) : Code w1 B ca len := by
 rcases h with h | ⟨b, off, h1, h2, h3⟩
 ·exact Or.inl h
 ·refine Or.inr ⟨b, off, h1, h2, fun i hi => ?_⟩
  obtain ⟨v, v0, v1, hv⟩ := h3 i hi
  exact ⟨v, v0, v1, by rw [hb.cell (p := ⟨b, off + i, none⟩) h2]; exact hv⟩
theorem Cur.mono {w : World} {B : Nat} {ca : Option Addr} {len cap n m : Nat} (h : Cur w B ca len cap n) (hm : n ≤ m) : Cur w B ca len cap m := by
 obtain ⟨k, sd, h1, h2⟩ := h
 exact ⟨k, sd, by omega, h2⟩
set_option maxHeartbeats 1000000 in
theorem pick_any (w : World) (B : Nat) (ca : Option Addr) (len cap n : Nat) (m : Int) (hl : len ≤ 9223372036854775807) (hn : n ≤ 1000000000) (m1 : 1 ≤ m) (m2 : m ≤ 1000000) (hc : Cur w B ca len cap n) (hd : Code w B ca len) :
  Calls Tryz.prog 23 #[.pointer (some ⟨B, 0, none⟩), .int .i64 m] w fun e w' => ∃ v : Int, e = .returned (.int .i64 v) ∧ 0 ≤ v ∧ v < m ∧ Cur w' B ca len cap (n + 2) ∧ Sel B w w' := by
 have HC : Hid _ := hc
 have HD : Hid _ := hd
 clear hc hd
 by_cases h1 : m = 1
 ·subst h1
  go_enter Tryz.func23, Tryz.ntmps23
  go_wp2
  go_ret
  exact ⟨0, rfl, by omega, by omega, Cur.mono HC.out (by omega), Sel.refl _ _⟩
 have d1 : decide (m ≤ 1) = false := decide_eq_false (by omega)
 by_cases h2 : m ≤ 200
 ·go_enter Tryz.func23, Tryz.ntmps23
  go_wp2_with fail
  refine (next_any w B ca len cap n hl (by omega) HC.out HD.out).mono ?_
  rintro e w1 ⟨v, rfl, v0, v1, hc1, hb1⟩
  have HC1 : Hid _ := hc1
  have HB1 : Hid _ := hb1
  clear hc1 hb1
  have x1 := Int.emod_nonneg v (b := m) (by omega)
  have x2 := Int.emod_lt_of_pos v (b := m) (by omega)
  go_wp2
  go_ret
  exact ⟨v % m, rfl, x1, x2, Cur.mono HC1.out (by omega), HB1.out⟩
 ·go_enter Tryz.func23, Tryz.ntmps23
  go_wp2_with fail
  refine (next_any w B ca len cap n hl (by omega) HC.out HD.out).mono ?_
  rintro e w1 ⟨v, rfl, v0, v1, hc1, hb1⟩
  have HC1 : Hid _ := hc1
  have HB1 : Hid _ := hb1
  clear hc1 hb1
  go_wp2_with fail
  refine (next_any w1 B ca len cap (n + 1) hl (by omega) HC1.out (Code.below HD.out (Sel.below HB1.out))).mono ?_
  rintro e w2 ⟨u, rfl, u0, u1, hc2, hb2⟩
  have HC2 : Hid _ := hc2
  have HB2 : Hid _ := hb2
  clear hc2 hb2
  have x1 := Int.emod_nonneg (v * 256 + u) (b := m) (by omega)
  have x2 := Int.emod_lt_of_pos (v * 256 + u) (b := m) (by omega)
  go_wp2
  go_ret
  exact ⟨(v * 256 + u) % m, rfl, x1, x2, HC2.out, Sel.trans HB1.out HB2.out⟩
set_option maxHeartbeats 1000000 in
theorem one_any (w : World) (B : Nat) (ca : Option Addr) (len cap n : Nat) (m : Int) (hl : len ≤ 9223372036854775807) (hn : n ≤ 1000000000) (m1 : 1 ≤ m) (m2 : m ≤ 1000000) (hc : Cur w B ca len cap n) (hd : Code w B ca len) :
  Calls Tryz.prog 22 #[.pointer (some ⟨B, 0, none⟩), .int .i64 m] w fun e w' => ∃ v : Bool, e = .returned (.bool v) ∧ Cur w' B ca len cap (n + 2) ∧ Sel B w w' := by
 have HC : Hid _ := hc
 have HD : Hid _ := hd
 clear hc hd
 go_enter Tryz.func22, Tryz.ntmps22
 go_wp2_with fail
 refine (pick_any w B ca len cap n m hl hn m1 m2 HC.out HD.out).mono ?_
 rintro e w1 ⟨v, rfl, v0, v1, hc1, hb1⟩
 have HC1 : Hid _ := hc1
 have HB1 : Hid _ := hb1
 clear hc1 hb1
 go_wp2
 go_ret
 exact ⟨_, rfl, HC1.out, HB1.out⟩
theorem Cur.alloc {w : World} {B : Nat} {ca : Option Addr} {len cap n : Nat} (h : Cur w B ca len cap n) (c : Array Value) (t : TypeId) : Cur (w.alloc (.cells c t)) B ca len cap n := by
 obtain ⟨k, sd, h1, h2, h3, h4, h5, h6, h7, h8⟩ := h
 refine ⟨k, sd, h1, h2, h3, ?_, ?_, ?_, ?_, by simp; omega⟩
 ·rw [World.cell?_alloc_past _ _ _ h8]; exact h4
 ·rw [World.cell?_alloc_past _ _ _ h8]; exact h5
 ·rw [World.cell?_alloc_past _ _ _ h8]; exact h6
 ·intro o; rw [frozen?_alloc_cells]; exact h7 o
theorem Code.alloc {w : World} {B : Nat} {ca : Option Addr} {len : Nat} (h : Code w B ca len) (hB : B ≤ w.heap.size) (o : Obj) : Code (w.alloc o) B ca len :=
 Code.below h ((Below.refl B w).alloc hB o)
theorem Cur.lt {w : World} {B : Nat} {ca : Option Addr} {len cap n : Nat} (h : Cur w B ca len cap n) : B < w.heap.size := by
 obtain ⟨_, _, _, _, _, _, _, _, _, h⟩ := h; exact h
end Go.Proofs.YtnkeljmecbohkaaGreat
