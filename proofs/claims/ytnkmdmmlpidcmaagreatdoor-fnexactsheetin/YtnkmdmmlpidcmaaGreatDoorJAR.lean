/-
  Rules that were marked are found marked; each theorem names its conditions.
  How much a sheet holds; each theorem names its conditions.
  The law on ReadSheet: its walk; each theorem names its conditions.
-/
import Derived.Test.YtnkmdmmlpidcmaaGreatDoorJAQ
import Derived.Test.YtnkmdmmlpidcmaaGreatDoorJAJ
namespace Go.Proofs.YtnkmdmmlpidcmaaGreatDoor
open Go.ChangeShapes Go.WideShapes Go.ChangeAt Go.RowKit
set_option linter.unusedVariables false

set_option maxHeartbeats 8000000 in
theorem heldRs_any (w : World) (v : Value) (K : Nat) (l : List RD) (F : Nat → Prop) (hl : l.length ≤ 1000000) (hla : ∀ i, i < l.length → (ruleAt l i).sels.length ≤ 1000000) (hK : 1 ≤ K) (hK2 : K + cntRs l ≤ 1000000) (h : RowM 2 ERule w v (mkRs K l) F) :
    Calls Tryz.prog 18 #[v, .int .i64 (K : Int)] w fun e w' => e = .returned (.int .i64 ((K + cntRs l : Nat) : Int)) ∧ Nw w w' := by
  obtain ⟨va, vc, hv, _⟩ := h.slice
  rw [mkRs_len] at hv
  subst hv
  have HR : Hid (RowM 2 ERule w (.slice va l.length vc) (mkRs K l) F) := h
  have HLA : Hid (∀ i, i < l.length → (ruleAt l i).sels.length ≤ 1000000) := hla
  clear h hla
  go_enter Tryz.func18, Tryz.ntmps18
  go_wp2
  go_loopw [1, 5] (fun x i wr => ∃ (j : Nat), j ≤ l.length ∧ i = .int .i64 j ∧ x = .int .i64 ((K + cntRs (l.take j) : Nat) : Int) ∧ Nw w wr) (fun _ i _ => l.length - (intOf i).toNat)
  case atStart => exact ⟨0, Nat.zero_le _, rfl, rfl, Below.refl _ _⟩
  case round =>
    obtain ⟨j, hj, rfl, rfl, hw⟩ := hrel
    have HW : Hid (Nw w wr) := hw
    by_cases hlt : j < l.length
    · rcases HR.out.nw ERule.kept hw with ⟨_, h2⟩ | ⟨g, c, els, h1, h2, h3, h4⟩
      · have := mkRs_len l K; rw [h2] at this; simp at this; omega
      injection h1 with h1a h1b h1c
      subst h1a
      obtain ⟨e, hje, hex⟩ := el_at h3 j (by rw [mkRs_len]; exact hlt) noRD
      have hex2 : e.x = mkR (K + cntRs (l.take j)) (ruleAt l j) := by
        rw [hex, List.getD_eq_getElem?_getD, mkRs_at l K j hlt]; rfl
      obtain ⟨⟨u1, u2, F1, F2, hcs, hu1, hu2, hf1, hf2, hd⟩, hlen, hFe⟩ := h4.el e (List.mem_of_getElem? hje)
      have c0 := h4.cell j e hje 0 u1 (by rw [hcs]; rfl)
      have c1 := h4.cell j e hje 1 u2 (by rw [hcs]; rfl)
      have hst := cntRs_step l j hlt
      have hle := cntRs_le l (j + 1)
      have hsl := HLA.out j hlt
      have hg := h4.lt
      rw [hex2] at hu1 hu2
      rw [Nat.add_zero] at c0
      have hcr : cntR (ruleAt l j) = cntSS (ruleAt l j).sels + 3 * (ruleAt l j).decls.length := rfl
      rw [hcr] at hst
      rw [hst] at hle
      have HU1 : Hid (RowM 1 ESel wr u1 (mkSS (K + cntRs (l.take j)) (ruleAt l j).sels) F1) := hu1
      have HU2 : Hid (RowM 3 EDecl wr u2 (mkDs (K + cntRs (l.take j) + cntSS (ruleAt l j).sels) (ruleAt l j).decls.length) F2) := hu2
      obtain ⟨ua, uc, hue, _⟩ := HU1.out.slice
      obtain ⟨ub, ud, huf, _⟩ := HU2.out.slice
      subst hue huf
      have HST : Hid (cntRs (l.take (j + 1)) = cntRs (l.take j) + (cntSS (ruleAt l j).sels + 3 * (ruleAt l j).decls.length)) := hst
      clear hst hu1 hu2 hje hFe hex hex2 hcs hlen hw h1b h1c h2 h3 h4 hf1 hf2 hd hcr
      generalize cntRs (l.take j) = C at *
      have HH : Hid (Calls Tryz.prog 46 #[.slice ua (mkSS (K + C) (ruleAt l j).sels).length uc, .int .i64 ((K + C : Nat) : Int)] wr fun e w' => e = .returned (.int .i64 ((K + C + cntSS (ruleAt l j).sels : Nat) : Int)) ∧ Nw wr w') := heldSS_any _ _ (K + C) (ruleAt l j).sels F1 hsl (by omega) (by omega) HU1.out
      generalize cntSS (ruleAt l j).sels = n1 at *
      go_wp2_with fail
      refine Calls.mono HH.out ?_
      rintro e1 w1 ⟨rfl, k1⟩
      have d1 := (Below.cell k1 (p := ⟨g, j * 2 + 1, none⟩) hg).trans c1
      have hg1 : g < w1.heap.size := Nat.lt_of_lt_of_le hg (Below.size k1)
      have HN1 : Hid (Nw w w1) := Nw.trans HW.out k1
      have HV2 : Hid (RowM 3 EDecl w1 (.slice ub (mkDs (K + C + n1) (ruleAt l j).decls.length).length ud) (mkDs (K + C + n1) (ruleAt l j).decls.length) F2) := HU2.out.nw EDecl.kept k1
      clear k1 c0 c1 HH
      go_wp2_with fail
      refine Calls.mono (heldDl_any _ _ (K + C + n1) (ruleAt l j).decls.length F2 (by omega) (by omega) HV2.out) ?_
      rintro e2 w2 ⟨rfl, k2⟩
      have HN2 : Hid (Nw w w2) := Nw.trans HN1.out k2
      clear k2
      go_wp2
      go_roundw
      case rel => exact ⟨j + 1, by omega, by go_num, by rw [HST.out]; go_num, HN2.out⟩
      case measure => simp [intOf]; omega
    · have e : j = l.length := by omega
      subst e
      rw [List.take_length] at *
      clear hw
      go_wp2
      go_ret
      exact ⟨rfl, HW.out⟩
end Go.Proofs.YtnkmdmmlpidcmaaGreatDoor
namespace Go.Proofs.YtnkmdmmlpidcmaaGreatDoor
open Go.ChangeShapes Go.WideShapes Go.ChangeAt Go.RowKit
set_option linter.unusedVariables false

def nsel (l : List RD) : Nat := (l.map fun r => r.sels.length).sum
theorem nsel_take (l : List RD) (k : Nat) : nsel (l.take k) ≤ nsel l := by
  unfold nsel
  conv => rhs; rw [← List.take_append_drop k l, List.map_append, List.sum_append]
  omega
theorem nsel_mem : ∀ (l : List RD) (r : RD), r ∈ l → r.sels.length ≤ nsel l := by
  intro l
  induction l with
  | nil => intro r h; cases h
  | cons q l ih =>
    intro r h
    have e : nsel (q :: l) = q.sels.length + nsel l := by simp [nsel]
    rcases List.mem_cons.1 h with rfl | h
    · omega
    · have := ih r h; omega
theorem selsW_len (l : List UInt8) : (selsW (bA l)).length ≤ l.length + 1 := by
  unfold selsW
  rw [List.length_map, pcB_len]
  have := count_le_size 44 (bA l)
  rw [bA_size] at this
  omega
theorem nsel_one {l : List UInt8} : nsel (oneR l) ≤ (aheadL l).length + 1 := by
  unfold oneR
  split
  · have := selsW_len (aheadL l)
    simpa [nsel, ruleL] using this
  · simp [nsel]
theorem nsel_rules : ∀ (f : Nat) (l : List UInt8), nsel (rulesF f l) ≤ l.length := by
  intro f
  induction f with
  | zero => intro l; simp [rulesF, nsel]
  | succ f ih =>
    intro l
    unfold rulesF
    split
    · next h =>
      have h1 := ih (restL l)
      have h2 := nsel_one (l := l)
      have h3 : nsel (oneR l ++ rulesF f (restL l)) = nsel (oneR l) + nsel (rulesF f (restL l)) := by unfold nsel; rw [List.map_append, List.sum_append]
      have h4 : (aheadL l).length + 1 + (restL l).length ≤ l.length := by
        unfold aheadL restL behindL
        rw [List.length_take, List.length_drop, List.length_drop]
        omega
      omega
    · simp [nsel]
/-- Rules whose selectors and declarations are few. -/
def SmR (r : RD) : Prop := (∃ a, r.sels = selsW a) ∧ r.decls.length ≤ 12
theorem smR_rules : ∀ (f : Nat) (l : List UInt8), ∀ r, r ∈ rulesF f l → SmR r := by
  intro f
  induction f with
  | zero => intro l r h; cases h
  | succ f ih =>
    intro l r h
    unfold rulesF at h
    split at h
    · rcases List.mem_append.1 h with h | h
      · unfold oneR at h
        split at h
        · rw [List.mem_singleton] at h
          subst h
          exact ⟨⟨_, rfl⟩, dcs_le _⟩
        · cases h
      · exact ih _ r h
    · cases h
theorem cntSS_bd (a : ByteArray) : cntSS (selsW a) ≤ 30 * (selsW a).length := by
  unfold selsW cntSS
  generalize pcB 44 a = ps
  induction ps with
  | nil => simp
  | cons x ps ih =>
    obtain ⟨h1, h2⟩ := selL_small x
    have h3 := cntPs_bd _ h2
    simp only [List.map_cons, List.sum_cons, List.length_cons] at *
    omega
theorem cntRs_bd : ∀ (l : List RD), (∀ r, r ∈ l → SmR r) → cntRs l ≤ 30 * nsel l + 36 * l.length := by
  intro l
  induction l with
  | nil => intro _; simp [cntRs]
  | cons r l ih =>
    intro h
    obtain ⟨⟨a, h1⟩, h2⟩ := h r List.mem_cons_self
    have h3 := ih (fun q hq => h q (List.mem_cons_of_mem _ hq))
    have h4 := cntSS_bd a
    rw [← h1] at h4
    have h5 : cntR r = cntSS r.sels + 3 * r.decls.length := rfl
    unfold cntRs nsel at *
    simp only [List.map_cons, List.sum_cons, List.length_cons]
    omega
theorem shtL_small (s : ByteArray) : (shtL s).length ≤ 30 ∧ cntRs (shtL s) ≤ 46080 + 36 ∧ ∀ i, i < (shtL s).length → (ruleAt (shtL s) i).sels.length ≤ 1000000 := by
  unfold shtL
  split
  · exact ⟨by simp, by simp [cntRs], fun i h => by simp at h⟩
  · next h =>
    have hb := bareB_size s
    have h1 : (rules30 (bareB s)).length ≤ 30 := by unfold rules30; rw [List.length_take]; omega
    have h2 : nsel (rules30 (bareB s)) ≤ 1500 := by
      have := nsel_take (rulesA (bareB s).data.toList) 30
      have h3 := nsel_rules ((bareB s).data.toList.length + 1) (bareB s).data.toList
      rw [data_len] at h3
      unfold rules30 rulesA at *
      rw [data_len] at *
      omega
    have h4 := cntRs_bd (rules30 (bareB s)) (fun r hr => smR_rules _ _ r (List.mem_of_mem_take hr))
    refine ⟨h1, by omega, fun i hi => ?_⟩
    have h5 : (ruleAt (rules30 (bareB s)) i).sels.length ≤ nsel (rules30 (bareB s)) := nsel_mem _ _ (by simp [ruleAt, hi])
    omega
theorem lenSS_sels (a : ByteArray) : lenSS (selsW a) := by
  intro i hi
  unfold selsW at *
  have e : ∃ x, selAt ((pcB 44 a).map selL) i = selL x := ⟨(pcB 44 a)[i]'(by simpa using hi), by unfold selAt; simp at hi; simp [hi]⟩
  obtain ⟨x, hx⟩ := e
  rw [hx]
  obtain ⟨h1, h2⟩ := selL_small x
  exact ⟨by omega, lenPs_of h2⟩
theorem lenRs_sht (s : ByteArray) : lenRs (shtL s) := by
  intro i hi
  obtain ⟨_, _, h3⟩ := shtL_small s
  have h4 := h3 i hi
  have h5 : SmR (ruleAt (shtL s) i) := by
    have hm : ruleAt (shtL s) i ∈ shtL s := by simp [ruleAt, hi]
    generalize ruleAt (shtL s) i = r at hm
    unfold shtL at hm
    split at hm
    · cases hm
    · exact smR_rules _ _ _ (List.mem_of_mem_take hm)
  obtain ⟨⟨a, h6⟩, h7⟩ := h5
  refine ⟨by omega, by rw [h6]; exact lenSS_sels a, by omega⟩
end Go.Proofs.YtnkmdmmlpidcmaaGreatDoor
namespace Go.Proofs.YtnkmdmmlpidcmaaGreatDoor
open Go.ChangeShapes Go.WideShapes Go.ChangeAt Go.RowKit
set_option linter.unusedVariables false

set_option maxHeartbeats 4000000 in
theorem walk_rsheet (w : World) (hm : MaxL w) (s : ByteArray) (hs : s.size ≤ maxLen) : Calls Tryz.prog 4 #[.string s] w fun e w' => e = .returned (.bool true) ∧ Below w.heap.size w w' := by
  unfold maxLen at hs
  have HML : Hid (MaxL w) := hm
  clear hm
  by_cases h : 1048576 < s.size
  · go_enter Tryz.func4, Tryz.ntmps4
    go_wp2
    go_ret
    exact ⟨rfl, Below.refl _ _⟩
  · have hsz : s.size ≤ 1048576 := by omega
    have hd : decide (1048576 < (s.size : Int)) = false := by simp; omega
    have HS : Hid (∀ W, Calls Tryz.prog 15 #[.string s] W fun e w' => ShtSays s W w' e ∧ Nw W w') := fun W => ssheet s W hsz
    have HI : Hid (∀ W, MaxL W → Calls Tryz.prog 9 #[.string s] W fun e w' => ShtSays s W w' e ∧ Nw W w') := fun W h => isheet s W h hsz
    obtain ⟨hl12, hcb, hsel⟩ := shtL_small s
    have HSEL : Hid (∀ i, i < (shtL s).length → (ruleAt (shtL s) i).sels.length ≤ 1000000) := hsel
    have HLR : Hid (lenRs (shtL s)) := lenRs_sht s
    clear hsel
    unfold ShtSays at HS HI
    generalize shtL s = l at *
    generalize (!decide (1500 < s.size)) = b at *
    have HCB : Hid (1 + cntRs l ≤ 1000000) := by show _ ≤ _; omega
    obtain ⟨M, hM⟩ : ∃ M, 1 + cntRs l = M := ⟨_, rfl⟩
    have HM : Hid (1 + cntRs l = M) := hM
    clear hM
    go_enter Tryz.func4, Tryz.ntmps4
    go_wp2_with fail
    refine Calls.mono (HS.out _) ?_
    rintro e w1 ⟨⟨v1, rfl, r1⟩, k1⟩
    obtain ⟨a1, c1, rfl, _⟩ := r1.slice
    have P1 : Hid (RowM 2 ERule w1 (.slice a1 l.length c1) l (iv w w1)) := r1
    have B1 : Hid (Nw w w1) := k1
    clear r1 k1
    go_wp2_with fail
    refine Calls.mono (HI.out _ (HML.out.nw B1.out)) ?_
    rintro e w2 ⟨⟨v2, rfl, r2⟩, k2⟩
    obtain ⟨a2, c2, rfl, _⟩ := r2.slice
    have N2 : Hid (Nw w1 w2) := k2
    have R2 : Hid (RowM 2 ERule w2 (.slice a2 l.length c2) l (iv w1 w2)) := r2
    clear r2 k2
    go_wp2_with fail
    refine Calls.mono (eqRuleS_any _ (.slice a2 l.length c2) (.slice a1 l.length c1) l (iv w1 w2) (iv w w1) (by omega) HLR.out R2.out (P1.out.nw ERule.kept N2.out)) ?_
    rintro e w3 ⟨rfl, k3⟩
    have N3 : Hid (Nw w1 w3) := Nw.trans N2.out k3
    have R3 : Hid (RowM 2 ERule w3 (.slice a2 l.length c2) l (iv w1 w2)) := R2.out.nw ERule.kept k3
    clear k3 R2
    go_wp2_with fail
    refine Calls.mono (markRs_any _ (.slice a2 l.length c2) 1 l (iv w1 w2) (by omega) HSEL.out (by omega) (by omega) R3.out) ?_
    rintro e w4 ⟨rfl, k4, r4⟩
    rw [HM.out]
    have N4 : Hid (Nw w1 w4) := Below.trans N3.out (k4.below (fun x hx => hx.1) (Below.size N3.out))
    have R4 : Hid (RowM 2 ERule w4 (.slice a2 l.length c2) (mkRs 1 l) (iv w1 w2)) := r4
    clear k4 r4 R3
    go_wp2_with fail
    refine Calls.mono (heldRs_any _ (.slice a2 l.length c2) 1 l (iv w1 w2) (by omega) HSEL.out (by omega) (by omega) R4.out) ?_
    rintro e w5 ⟨rfl, k5⟩
    rw [HM.out]
    have N5 : Hid (Nw w1 w5) := Nw.trans N4.out k5
    have R5 : Hid (RowM 2 ERule w5 (.slice a2 l.length c2) (mkRs 1 l) (iv w1 w2)) := R4.out.nw ERule.kept k5
    clear k5 R4
    go_wp2_with fail
    refine Calls.mono (HI.out _ (HML.out.nw (Nw.trans B1.out N5.out))) ?_
    rintro e w6 ⟨⟨v6, rfl, r6⟩, k6⟩
    obtain ⟨a6, c6, rfl, _⟩ := r6.slice
    have N6 : Hid (Nw w1 w6) := Nw.trans N5.out k6
    have R6 : Hid (RowM 2 ERule w6 (.slice a2 l.length c2) (mkRs 1 l) (iv w1 w2)) := R5.out.nw ERule.kept k6
    have P6 : Hid (RowM 2 ERule w6 (.slice a6 l.length c6) l (iv w5 w6)) := r6
    clear r6 k6 R5
    go_wp2_with fail
    refine Calls.mono (eqRuleS_any _ (.slice a6 l.length c6) (.slice a1 l.length c1) l (iv w5 w6) (iv w w1) (by omega) HLR.out P6.out (P1.out.nw ERule.kept N6.out)) ?_
    rintro e w7 ⟨rfl, k7⟩
    have N7 : Hid (Nw w1 w7) := Nw.trans N6.out k7
    have R7 : Hid (RowM 2 ERule w7 (.slice a2 l.length c2) (mkRs 1 l) (iv w1 w2)) := R6.out.nw ERule.kept k7
    clear k7 R6 P6
    go_wp2_with fail
    refine Calls.mono (heldRs_any _ (.slice a2 l.length c2) 1 l (iv w1 w2) (by omega) HSEL.out (by omega) HCB.out R7.out) ?_
    rintro e w8 ⟨rfl, k8⟩
    rw [HM.out]
    have N8 : Hid (Nw w w8) := Nw.trans B1.out (Nw.trans N7.out k8)
    clear k8
    go_wp2
    go_ret
    exact ⟨rfl, N8.out⟩
end Go.Proofs.YtnkmdmmlpidcmaaGreatDoor
