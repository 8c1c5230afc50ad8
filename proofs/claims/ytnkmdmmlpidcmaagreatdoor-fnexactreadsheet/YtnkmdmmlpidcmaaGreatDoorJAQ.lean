/-
  Marks laid into rows of selectors and rules and looked for; each theorem names its conditions.
  Rules that were marked are found marked; each theorem names its conditions.
  How much a selector holds; each theorem names its conditions.
  How much a sheet holds; each theorem names its conditions.
-/
import Derived.Test.YtnkmdmmlpidcmaaGreatDoorJAH
import Derived.Test.YtnkmdmmlpidcmaaGreatDoorJAI
import Derived.Test.YtnkmdmmlpidcmaaGreatDoorJAD
import Derived.Test.YtnkmdmmlpidcmaaGreatDoorJAO
namespace Go.Proofs.YtnkmdmmlpidcmaaGreatDoor
open Go.ChangeShapes Go.WideShapes Go.ChangeAt Go.RowKit
set_option linter.unusedVariables false

def cntSS (l : List (List PD)) : Nat := (l.map cntPs).sum
def mkSS : Nat → List (List PD) → List (List PD)
  | _, [] => []
  | K, p :: l => mkPs K p :: mkSS (K + cntPs p) l
theorem mkSS_len (l : List (List PD)) : ∀ K, (mkSS K l).length = l.length := by
  induction l with
  | nil => intro K; rfl
  | cons p l ih => intro K; simp [mkSS, ih]
theorem mkSS_at (l : List (List PD)) : ∀ K k, k < l.length → (mkSS K l)[k]? = some (mkPs (K + cntSS (l.take k)) (selAt l k)) := by
  induction l with
  | nil => intro K k h; simp at h
  | cons p l ih =>
    intro K k h
    cases k with
    | zero => simp [mkSS, cntSS, selAt]
    | succ k =>
      have := ih (K + cntPs p) k (by simpa using h)
      simp only [mkSS, List.getElem?_cons_succ, this]
      simp [cntSS, selAt, Nat.add_assoc]
theorem cntSS_step (l : List (List PD)) (k : Nat) (h : k < l.length) : cntSS (l.take (k + 1)) = cntSS (l.take k) + cntPs (selAt l k) := by
  unfold cntSS selAt
  rw [List.take_succ_eq_append_getElem h, List.map_append, List.sum_append]
  simp [h]
theorem cntSS_le (l : List (List PD)) (k : Nat) : cntSS (l.take k) ≤ cntSS l := by
  unfold cntSS
  conv => rhs; rw [← List.take_append_drop k l, List.map_append, List.sum_append]
  omega
set_option maxHeartbeats 4000000 in
theorem markSS_any (w : World) (v : Value) (K : Nat) (l : List (List PD)) (F : Nat → Prop) (hl : l.length ≤ 1000000) (hK : 1 ≤ K) (hK2 : K + cntSS l ≤ 1000000) (h : RowM 1 ESel w v l F) :
    Calls Tryz.prog 44 #[v, .int .i64 (K : Int)] w fun e w' => e = .returned (.int .i64 ((K + cntSS l : Nat) : Int)) ∧ Wr F w w' ∧ RowM 1 ESel w' v (mkSS K l) F := by
  rcases h with ⟨rfl, rfl⟩ | ⟨g, c, els, rfl, hc, hx, hA⟩
  · go_enter Tryz.func44, Tryz.ntmps44
    go_wp2
    go_loopw [1, 5] (fun x i wr => x = .int .i64 (K : Int) ∧ i = .int .i64 0 ∧ wr = w) (fun _ _ _ => 0)
    case atStart => exact ⟨rfl, rfl, rfl⟩
    case round =>
      obtain ⟨rfl, rfl, rfl⟩ := hrel
      go_wp2
      go_ret
      exact ⟨rfl, Wr.refl _ _, Or.inl ⟨rfl, rfl⟩⟩
  · have HA : Hid (RowA 1 ESel w g els F) := hA
    have HX : Hid (els.map El.x = l) := hx
    clear hA hx
    have HC : Hid (l.length ≤ c) := hc
    go_enter Tryz.func44, Tryz.ntmps44
    go_wp2
    go_loopw [1, 5] (fun x i wr => ∃ (j : Nat) (es : List (El (List PD))), j ≤ l.length ∧ i = .int .i64 j ∧ x = .int .i64 ((K + cntSS (l.take j) : Nat) : Int) ∧ Wr F w wr ∧ es.map El.x = (mkSS K l).take j ++ l.drop j ∧ RowA 1 ESel wr g es F) (fun _ i _ => l.length - (intOf i).toNat)
    case atStart => exact ⟨0, els, Nat.zero_le _, rfl, rfl, Wr.refl _ _, HX.out, HA.out⟩
    case round =>
      obtain ⟨j, es, hj, rfl, rfl, hw, he, hA⟩ := hrel
      have HW : Hid (Wr F w wr) := hw
      have HE : Hid (es.map El.x = (mkSS K l).take j ++ l.drop j) := he
      by_cases hlt : j < l.length
      · obtain ⟨e, hje, hex⟩ := el_at he j (by rw [List.length_append, List.length_take, List.length_drop, mkSS_len]; omega) []
        have hex2 : e.x = selAt l j := by
          rw [hex]
          show ((mkSS K l).take j ++ l.drop j).getD j [] = l.getD j []
          rw [List.getD_eq_getElem?_getD, marked_at _ _ _ (mkSS_len l K) hlt, ← List.getD_eq_getElem?_getD]
        obtain ⟨⟨u, hcs, hu⟩, hlen, hFe⟩ := hA.el e (List.mem_of_getElem? hje)
        have c0 := hA.cell j e hje 0 u (by rw [hcs]; rfl)
        have hst := cntSS_step l j hlt
        have hle := cntSS_le l (j + 1)
        have HMK : Hid _ := mkSS_at l K j hlt
        have hg := hA.lt
        rw [hex2] at hu
        rw [Nat.mul_one, Nat.add_zero] at c0
        have HU : Hid (RowM 3 EPart wr u (selAt l j) e.F) := hu
        have HRA : Hid (RowA 1 ESel wr g es F) := hA
        have HJE : Hid (es[j]? = some e) := hje
        have HCS : Hid (e.cs = [u]) := hcs
        have HFE : Hid (∀ b, e.F b → F b ∧ b ≠ g) := hFe
        obtain ⟨ua, uc, hue, _⟩ := hu.slice
        subst hue
        rw [hst] at hle
        have HST : Hid (cntSS (l.take (j + 1)) = cntSS (l.take j) + cntPs (selAt l j)) := hst
        have HSM : Hid _ := fun x hx => set_marked (mkSS K l) l j x (mkSS_len l K) hlt hx
        clear hst hu hA hje hFe hex hex2 hcs hlen he hw
        generalize cntSS (l.take j) = C at *
        go_wp2_with fail
        refine Calls.mono (markPt_any _ (.slice ua (selAt l j).length uc) (K + C) (selAt l j) e.F (by omega) (by omega) HU.out) ?_
        rintro e1 w1 ⟨rfl, k1, m1⟩
        have HNX : Hid (RowA 1 ESel w1 g (es.set j ⟨mkPs (K + C) (selAt l j), e.cs, e.F⟩) F) := HRA.out.inner ESel.kept j e _ HJE.out k1 ⟨_, HCS.out, m1⟩
        have HW1 : Hid (Wr F w w1) := HW.out.trans (k1.mono (fun b hb => (HFE.out b hb).1))
        clear k1 m1
        go_wp2
        go_roundw
        case rel =>
          refine ⟨j + 1, _, by omega, by go_num, by rw [HST.out]; go_num, HW1.out, ?_, HNX.out⟩
          rw [List.map_set, HE.out, HSM.out _ HMK.out]
        case measure => simp [intOf]; omega
      · have e : j = l.length := by omega
        subst e
        rw [List.take_length] at *
        have HRA : Hid (RowA 1 ESel wr g es F) := hA
        have HE2 : Hid (es.map El.x = mkSS K l) := by
          show _ = _
          rw [he, List.drop_length, List.append_nil, List.take_of_length_le (by rw [mkSS_len]; exact Nat.le_refl _)]
        have HLN : Hid ((mkSS K l).length = l.length) := mkSS_len l K
        clear hA he hw
        go_wp2
        go_ret
        refine ⟨rfl, HW.out, Or.inr ⟨g, c, es, ?_, ?_, HE2.out, HRA.out⟩⟩
        · rw [HLN.out]
        · rw [HLN.out]; exact HC.out
set_option maxHeartbeats 8000000 in
theorem heldSS_any (w : World) (v : Value) (K : Nat) (l : List (List PD)) (F : Nat → Prop) (hl : l.length ≤ 1000000) (hK : 1 ≤ K) (hK2 : K + cntSS l ≤ 1000000) (h : RowM 1 ESel w v (mkSS K l) F) :
    Calls Tryz.prog 46 #[v, .int .i64 (K : Int)] w fun e w' => e = .returned (.int .i64 ((K + cntSS l : Nat) : Int)) ∧ Nw w w' := by
  obtain ⟨va, vc, hv, _⟩ := h.slice
  rw [mkSS_len] at hv
  subst hv
  have HR : Hid (RowM 1 ESel w (.slice va l.length vc) (mkSS K l) F) := h
  clear h
  go_enter Tryz.func46, Tryz.ntmps46
  go_wp2
  go_loopw [1, 5] (fun x i wr => ∃ (j : Nat), j ≤ l.length ∧ i = .int .i64 j ∧ x = .int .i64 ((K + cntSS (l.take j) : Nat) : Int) ∧ Nw w wr) (fun _ i _ => l.length - (intOf i).toNat)
  case atStart => exact ⟨0, Nat.zero_le _, rfl, rfl, Below.refl _ _⟩
  case round =>
    obtain ⟨j, hj, rfl, rfl, hw⟩ := hrel
    have HW : Hid (Nw w wr) := hw
    by_cases hlt : j < l.length
    · rcases HR.out.nw ESel.kept hw with ⟨_, h2⟩ | ⟨g, c, els, h1, h2, h3, h4⟩
      · have := mkSS_len l K; rw [h2] at this; simp at this; omega
      injection h1 with h1a h1b h1c
      subst h1a
      obtain ⟨e, hje, hex⟩ := el_at h3 j (by rw [mkSS_len]; exact hlt) []
      have hex2 : e.x = mkPs (K + cntSS (l.take j)) (selAt l j) := by
        rw [hex, List.getD_eq_getElem?_getD, mkSS_at l K j hlt]; rfl
      obtain ⟨⟨u, hcs, hu⟩, hlen, hFe⟩ := h4.el e (List.mem_of_getElem? hje)
      have c0 := h4.cell j e hje 0 u (by rw [hcs]; rfl)
      have hst := cntSS_step l j hlt
      have hle := cntSS_le l (j + 1)
      have hg := h4.lt
      rw [hex2] at hu
      rw [Nat.mul_one, Nat.add_zero] at c0
      obtain ⟨ua, uc, hue, _⟩ := hu.slice
      rw [mkPs_len] at hue
      subst hue
      have HU : Hid (RowM 3 EPart wr (.slice ua (selAt l j).length uc) (mkPs (K + cntSS (l.take j)) (selAt l j)) e.F) := hu
      rw [hst] at hle
      have HST : Hid (cntSS (l.take (j + 1)) = cntSS (l.take j) + cntPs (selAt l j)) := hst
      clear hst hu hje hFe hex hex2 hcs hlen hw h1b h1c h2 h3 h4
      generalize cntSS (l.take j) = C at *
      go_wp2_with fail
      refine Calls.mono (heldPt_any _ (.slice ua (selAt l j).length uc) (K + C) (selAt l j) e.F (by omega) (by omega) HU.out) ?_
      rintro e1 w1 ⟨rfl, k1⟩
      have HN1 : Hid (Nw w w1) := Nw.trans HW.out k1
      clear k1
      go_wp2
      go_roundw
      case rel => exact ⟨j + 1, by omega, by go_num, by rw [HST.out]; go_num, HN1.out⟩
      case measure => simp [intOf]; omega
    · have e : j = l.length := by omega
      subst e
      rw [List.take_length] at *
      clear hw
      go_wp2
      go_ret
      exact ⟨rfl, HW.out⟩
/-! ### Rules -/
def cntR (r : RD) : Nat := cntSS r.sels + 3 * r.decls.length
def mkR (K : Nat) (r : RD) : RD := ⟨mkSS K r.sels, mkDs (K + cntSS r.sels) r.decls.length⟩
def cntRs (l : List RD) : Nat := (l.map cntR).sum
def mkRs : Nat → List RD → List RD
  | _, [] => []
  | K, p :: l => mkR K p :: mkRs (K + cntR p) l
theorem mkRs_len (l : List RD) : ∀ K, (mkRs K l).length = l.length := by
  induction l with
  | nil => intro K; rfl
  | cons p l ih => intro K; simp [mkRs, ih]
theorem mkRs_at (l : List RD) : ∀ K k, k < l.length → (mkRs K l)[k]? = some (mkR (K + cntRs (l.take k)) (ruleAt l k)) := by
  induction l with
  | nil => intro K k h; simp at h
  | cons p l ih =>
    intro K k h
    cases k with
    | zero => simp [mkRs, cntRs, ruleAt]
    | succ k =>
      have := ih (K + cntR p) k (by simpa using h)
      simp only [mkRs, List.getElem?_cons_succ, this]
      simp [cntRs, ruleAt, Nat.add_assoc]
theorem cntRs_step (l : List RD) (k : Nat) (h : k < l.length) : cntRs (l.take (k + 1)) = cntRs (l.take k) + cntR (ruleAt l k) := by
  unfold cntRs ruleAt
  rw [List.take_succ_eq_append_getElem h, List.map_append, List.sum_append]
  simp [h]
theorem cntRs_le (l : List RD) (k : Nat) : cntRs (l.take k) ≤ cntRs l := by
  unfold cntRs
  conv => rhs; rw [← List.take_append_drop k l, List.map_append, List.sum_append]
  omega
set_option maxHeartbeats 4000000 in
theorem markRs_any (w : World) (v : Value) (K : Nat) (l : List RD) (F : Nat → Prop) (hl : l.length ≤ 1000000) (hla : ∀ i, i < l.length → (ruleAt l i).sels.length ≤ 1000000) (hK : 1 ≤ K) (hK2 : K + cntRs l ≤ 1000000) (h : RowM 2 ERule w v l F) :
    Calls Tryz.prog 17 #[v, .int .i64 (K : Int)] w fun e w' => e = .returned (.int .i64 ((K + cntRs l : Nat) : Int)) ∧ Wr F w w' ∧ RowM 2 ERule w' v (mkRs K l) F := by
  rcases h with ⟨rfl, rfl⟩ | ⟨g, c, els, rfl, hc, hx, hA⟩
  · go_enter Tryz.func17, Tryz.ntmps17
    go_wp2
    go_loopw [1, 5] (fun x i wr => x = .int .i64 (K : Int) ∧ i = .int .i64 0 ∧ wr = w) (fun _ _ _ => 0)
    case atStart => exact ⟨rfl, rfl, rfl⟩
    case round =>
      obtain ⟨rfl, rfl, rfl⟩ := hrel
      go_wp2
      go_ret
      exact ⟨rfl, Wr.refl _ _, Or.inl ⟨rfl, rfl⟩⟩
  · have HA : Hid (RowA 2 ERule w g els F) := hA
    have HX : Hid (els.map El.x = l) := hx
    have HLA : Hid (∀ i, i < l.length → (ruleAt l i).sels.length ≤ 1000000) := hla
    clear hA hx hla
    have HC : Hid (l.length ≤ c) := hc
    go_enter Tryz.func17, Tryz.ntmps17
    go_wp2
    go_loopw [1, 5] (fun x i wr => ∃ (j : Nat) (es : List (El RD)), j ≤ l.length ∧ i = .int .i64 j ∧ x = .int .i64 ((K + cntRs (l.take j) : Nat) : Int) ∧ Wr F w wr ∧ es.map El.x = (mkRs K l).take j ++ l.drop j ∧ RowA 2 ERule wr g es F) (fun _ i _ => l.length - (intOf i).toNat)
    case atStart => exact ⟨0, els, Nat.zero_le _, rfl, rfl, Wr.refl _ _, HX.out, HA.out⟩
    case round =>
      obtain ⟨j, es, hj, rfl, rfl, hw, he, hA⟩ := hrel
      have HW : Hid (Wr F w wr) := hw
      have HE : Hid (es.map El.x = (mkRs K l).take j ++ l.drop j) := he
      by_cases hlt : j < l.length
      · obtain ⟨e, hje, hex⟩ := el_at he j (by rw [List.length_append, List.length_take, List.length_drop, mkRs_len]; omega) noRD
        have hex2 : e.x = ruleAt l j := by
          rw [hex]
          show ((mkRs K l).take j ++ l.drop j).getD j noRD = l.getD j noRD
          rw [List.getD_eq_getElem?_getD, marked_at _ _ _ (mkRs_len l K) hlt, ← List.getD_eq_getElem?_getD]
        obtain ⟨⟨u1, u2, F1, F2, hcs, hu1, hu2, hf1, hf2, hd⟩, hlen, hFe⟩ := hA.el e (List.mem_of_getElem? hje)
        have c0 := hA.cell j e hje 0 u1 (by rw [hcs]; rfl)
        have c1 := hA.cell j e hje 1 u2 (by rw [hcs]; rfl)
        have hst := cntRs_step l j hlt
        have hle := cntRs_le l (j + 1)
        have hsl := HLA.out j hlt
        have HMK : Hid _ := mkRs_at l K j hlt
        have hg := hA.lt
        rw [hex2] at hu1 hu2
        rw [Nat.add_zero] at c0
        have HU1 : Hid (RowM 1 ESel wr u1 (ruleAt l j).sels F1) := hu1
        have HU2 : Hid (RowM 3 EDecl wr u2 (ruleAt l j).decls F2) := hu2
        have HRA : Hid (RowA 2 ERule wr g es F) := hA
        have HJE : Hid (es[j]? = some e) := hje
        have HCS : Hid (e.cs = [u1, u2]) := hcs
        have HFE : Hid (∀ b, e.F b → F b ∧ b ≠ g) := hFe
        have HF1 : Hid (∀ b, F1 b → e.F b) := hf1
        have HF2 : Hid (∀ b, F2 b → e.F b) := hf2
        have HDJ : Hid (disj F1 F2) := hd
        obtain ⟨ua, uc, hue, _⟩ := hu1.slice
        obtain ⟨ub, ud, huf, _⟩ := hu2.slice
        subst hue huf
        have hcr : cntR (ruleAt l j) = cntSS (ruleAt l j).sels + 3 * (ruleAt l j).decls.length := rfl
        rw [hcr] at hst
        rw [hst] at hle
        have HST : Hid (cntRs (l.take (j + 1)) = cntRs (l.take j) + (cntSS (ruleAt l j).sels + 3 * (ruleAt l j).decls.length)) := hst
        have HSM : Hid _ := fun x hx => set_marked (mkRs K l) l j x (mkRs_len l K) hlt hx
        clear hst hu1 hu2 hA hje hFe hex hex2 hcs hlen he hw hf1 hf2 hd hcr
        generalize cntRs (l.take j) = C at *
        obtain ⟨n1, hn1⟩ : ∃ n, cntSS (ruleAt l j).sels = n := ⟨_, rfl⟩
        rw [hn1] at hle HST
        have HN1 : Hid (cntSS (ruleAt l j).sels = n1) := hn1
        go_wp2_with fail
        refine Calls.mono (markSS_any _ _ (K + C) (ruleAt l j).sels F1 hsl (by omega) (by omega) HU1.out) ?_
        rintro e1 w1 ⟨rfl, k1, m1⟩
        rw [HN1.out]
        have hnb : ¬ F1 g := fun hb => (HFE.out g (HF1.out g hb)).2 rfl
        have hbk := k1.block g hg hnb
        have d1 := (World.cell?_of_block (w := wr) (w' := w1) (a := ⟨g, j * 2 + 1, none⟩) hbk).trans c1
        have hg1 : g < w1.heap.size := Nat.lt_of_lt_of_le hg k1.size
        have HK1 : Hid (Wr F1 wr w1) := k1
        have HM1 : Hid (RowM 1 ESel w1 _ (mkSS (K + C) (ruleAt l j).sels) F1) := m1
        have HV2 : Hid (RowM 3 EDecl w1 _ (ruleAt l j).decls F2) := HU2.out.kept EDecl.kept k1 (fun b hb hb2 => HDJ.out b hb2 hb)
        clear k1 m1 hbk c0 c1
        go_wp2_with fail
        refine Calls.mono (markDl_any _ _ (K + C + n1) (ruleAt l j).decls F2 (by omega) (by omega) HV2.out) ?_
        rintro e2 w2 ⟨rfl, k2, m2⟩
        have HM1' : Hid (RowM 1 ESel w2 _ (mkSS (K + C) (ruleAt l j).sels) F1) := HM1.out.kept ESel.kept k2 HDJ.out
        have HWR : Hid (Wr e.F wr w2) := (HK1.out.mono HF1.out).trans (k2.mono HF2.out)
        have HNX : Hid (RowA 2 ERule w2 g (es.set j ⟨mkR (K + C) (ruleAt l j), e.cs, e.F⟩) F) := by
          refine HRA.out.inner ERule.kept j e _ HJE.out HWR.out ⟨_, _, F1, F2, HCS.out, HM1'.out, ?_, HF1.out, HF2.out, HDJ.out⟩
          show RowM 3 EDecl w2 _ (mkDs (K + C + cntSS (ruleAt l j).sels) (ruleAt l j).decls.length) F2
          rw [HN1.out]
          exact m2
        have HW1 : Hid (Wr F w w2) := HW.out.trans (HWR.out.mono (fun b hb => (HFE.out b hb).1))
        clear k2 m2
        go_wp2
        go_roundw
        case rel =>
          refine ⟨j + 1, _, by omega, by go_num, by rw [HST.out]; go_num, HW1.out, ?_, HNX.out⟩
          rw [List.map_set, HE.out, HSM.out _ HMK.out]
        case measure => simp [intOf]; omega
      · have e : j = l.length := by omega
        subst e
        rw [List.take_length] at *
        have HRA : Hid (RowA 2 ERule wr g es F) := hA
        have HE2 : Hid (es.map El.x = mkRs K l) := by
          show _ = _
          rw [he, List.drop_length, List.append_nil, List.take_of_length_le (by rw [mkRs_len]; exact Nat.le_refl _)]
        have HLN : Hid ((mkRs K l).length = l.length) := mkRs_len l K
        clear hA he hw
        go_wp2
        go_ret
        refine ⟨rfl, HW.out, Or.inr ⟨g, c, es, ?_, ?_, HE2.out, HRA.out⟩⟩
        · rw [HLN.out]
        · rw [HLN.out]; exact HC.out
end Go.Proofs.YtnkmdmmlpidcmaaGreatDoor
namespace Go.Proofs.YtnkmdmmlpidcmaaGreatDoor
open Go.ChangeShapes Go.WideShapes Go.ChangeAt Go.RowKit
set_option linter.unusedVariables false

set_option maxHeartbeats 8000000 in
theorem heldRs_any (w : World) (v : Value) (K : Nat) (l : List RD) (F : Nat → Prop) (hl : l.length ≤ 1000000) (hla : ∀ i, i < l.length → (ruleAt l i).sels.length ≤ 1000000) (hK : 1 ≤ K) (hK2 : K + cntRs l ≤ 1000000) (h : RowM 2 ERule w v (mkRs K l) F) :
    Calls Tryz.prog 18 #[v, .int .i64 (K : Int)] w fun e w' => e = .returned (.int .i64 ((K + cntRs l : Nat) : Int)) ∧ Nw w w' := by
  obtain ⟨va, vc, hv, _⟩ := h.slice
  rw [mkRs_len] at hv
  subst hv
  have HR : Hid (RowM 2 ERule w (.slice va l.length vc) (mkRs K l) F) := h
  have HLA : Hid (∀ i, i < l.length → (ruleAt l i).sels.length ≤ 1000000) := hla
  clear h hla
  go_enter Tryz.func18, Tryz.ntmps18
  go_wp2
  go_loopw [1, 5] (fun x i wr => ∃ (j : Nat), j ≤ l.length ∧ i = .int .i64 j ∧ x = .int .i64 ((K + cntRs (l.take j) : Nat) : Int) ∧ Nw w wr) (fun _ i _ => l.length - (intOf i).toNat)
  case atStart => exact ⟨0, Nat.zero_le _, rfl, rfl, Below.refl _ _⟩
  case round =>
    obtain ⟨j, hj, rfl, rfl, hw⟩ := hrel
    have HW : Hid (Nw w wr) := hw
    by_cases hlt : j < l.length
    · rcases HR.out.nw ERule.kept hw with ⟨_, h2⟩ | ⟨g, c, els, h1, h2, h3, h4⟩
      · have := mkRs_len l K; rw [h2] at this; simp at this; omega
      injection h1 with h1a h1b h1c
      subst h1a
      obtain ⟨e, hje, hex⟩ := el_at h3 j (by rw [mkRs_len]; exact hlt) noRD
      have hex2 : e.x = mkR (K + cntRs (l.take j)) (ruleAt l j) := by
        rw [hex, List.getD_eq_getElem?_getD, mkRs_at l K j hlt]; rfl
      obtain ⟨⟨u1, u2, F1, F2, hcs, hu1, hu2, hf1, hf2, hd⟩, hlen, hFe⟩ := h4.el e (List.mem_of_getElem? hje)
      have c0 := h4.cell j e hje 0 u1 (by rw [hcs]; rfl)
      have c1 := h4.cell j e hje 1 u2 (by rw [hcs]; rfl)
      have hst := cntRs_step l j hlt
      have hle := cntRs_le l (j + 1)
      have hsl := HLA.out j hlt
      have hg := h4.lt
      rw [hex2] at hu1 hu2
      rw [Nat.add_zero] at c0
      have hcr : cntR (ruleAt l j) = cntSS (ruleAt l j).sels + 3 * (ruleAt l j).decls.length := rfl
      rw [hcr] at hst
      rw [hst] at hle
      have HU1 : Hid (RowM 1 ESel wr u1 (mkSS (K + cntRs (l.take j)) (ruleAt l j).sels) F1) := hu1
      have HU2 : Hid (RowM 3 EDecl wr u2 (mkDs (K + cntRs (l.take j) + cntSS (ruleAt l j).sels) (ruleAt l j).decls.length) F2) := hu2
      obtain ⟨ua, uc, hue, _⟩ := HU1.out.slice
      obtain ⟨ub, ud, huf, _⟩ := HU2.out.slice
      subst hue huf
      have HST : Hid (cntRs (l.take (j + 1)) = cntRs (l.take j) + (cntSS (ruleAt l j).sels + 3 * (ruleAt l j).decls.length)) := hst
      clear hst hu1 hu2 hje hFe hex hex2 hcs hlen hw h1b h1c h2 h3 h4 hf1 hf2 hd hcr
      generalize cntRs (l.take j) = C at *
      have HH : Hid (Calls Tryz.prog 46 #[.slice ua (mkSS (K + C) (ruleAt l j).sels).length uc, .int .i64 ((K + C : Nat) : Int)] wr fun e w' => e = .returned (.int .i64 ((K + C + cntSS (ruleAt l j).sels : Nat) : Int)) ∧ Nw wr w') := heldSS_any _ _ (K + C) (ruleAt l j).sels F1 hsl (by omega) (by omega) HU1.out
      generalize cntSS (ruleAt l j).sels = n1 at *
      go_wp2_with fail
      refine Calls.mono HH.out ?_
      rintro e1 w1 ⟨rfl, k1⟩
      have d1 := (Below.cell k1 (p := ⟨g, j * 2 + 1, none⟩) hg).trans c1
      have hg1 : g < w1.heap.size := Nat.lt_of_lt_of_le hg (Below.size k1)
      have HN1 : Hid (Nw w w1) := Nw.trans HW.out k1
      have HV2 : Hid (RowM 3 EDecl w1 (.slice ub (mkDs (K + C + n1) (ruleAt l j).decls.length).length ud) (mkDs (K + C + n1) (ruleAt l j).decls.length) F2) := HU2.out.nw EDecl.kept k1
      clear k1 c0 c1 HH
      go_wp2_with fail
      refine Calls.mono (heldDl_any _ _ (K + C + n1) (ruleAt l j).decls.length F2 (by omega) (by omega) HV2.out) ?_
      rintro e2 w2 ⟨rfl, k2⟩
      have HN2 : Hid (Nw w w2) := Nw.trans HN1.out k2
      clear k2
      go_wp2
      go_roundw
      case rel => exact ⟨j + 1, by omega, by go_num, by rw [HST.out]; go_num, HN2.out⟩
      case measure => simp [intOf]; omega
    · have e : j = l.length := by omega
      subst e
      rw [List.take_length] at *
      clear hw
      go_wp2
      go_ret
      exact ⟨rfl, HW.out⟩
end Go.Proofs.YtnkmdmmlpidcmaaGreatDoor
namespace Go.Proofs.YtnkmdmmlpidcmaaGreatDoor
open Go.ChangeShapes Go.WideShapes Go.ChangeAt Go.RowKit
set_option linter.unusedVariables false

theorem prD_small {s : ByteArray} (h : okW s = true) : (prD s).cls.length ≤ 4 := by
  unfold okW at h
  unfold prD prP at *
  cases e : prs s.data.toList with
  | none => rw [e] at h; cases h
  | some p =>
    rw [Option.map_some, Option.getD_some]
    unfold ofL
    simp only [List.length_map]
    exact (prs_sound e).1.few
theorem selL_small (s : ByteArray) : (selL s).length ≤ 5 ∧ ∀ p, p ∈ selL s → p.cls.length ≤ 4 := by
  unfold selL
  cases h : selOkW (wordsOf s) with
  | false => rw [selLW_no h]; exact ⟨Nat.zero_le _, (fun p hp => by cases hp)⟩
  | true =>
    rw [selLW_yes h]
    unfold selOkW at h
    rw [Bool.and_eq_true, decide_eq_true_eq] at h
    refine ⟨by rw [List.length_map]; exact h.1.2, fun p hp => ?_⟩
    obtain ⟨x, hx, rfl⟩ := List.mem_map.1 hp
    exact prD_small (List.all_eq_true.1 h.2 x hx)
theorem cntPs_bd (l : List PD) (h : ∀ p, p ∈ l → p.cls.length ≤ 4) : cntPs l ≤ 6 * l.length := by
  unfold cntPs
  induction l with
  | nil => simp
  | cons p l ih =>
    have h1 := h p List.mem_cons_self
    have h2 := ih (fun q hq => h q (List.mem_cons_of_mem _ hq))
    rw [List.map_cons, List.sum_cons, List.length_cons]
    show 2 + p.cls.length + _ ≤ _
    omega
theorem lenPs_of {l : List PD} (h : ∀ p, p ∈ l → p.cls.length ≤ 4) : lenPs l := by
  intro i hi
  have := h (partAt l i) (by simp [partAt, hi])
  omega
end Go.Proofs.YtnkmdmmlpidcmaaGreatDoor
namespace Go.Proofs.YtnkmdmmlpidcmaaGreatDoor
open Go.ChangeShapes Go.WideShapes Go.ChangeAt Go.RowKit
set_option linter.unusedVariables false

def nsel (l : List RD) : Nat := (l.map fun r => r.sels.length).sum
theorem nsel_take (l : List RD) (k : Nat) : nsel (l.take k) ≤ nsel l := by
  unfold nsel
  conv => rhs; rw [← List.take_append_drop k l, List.map_append, List.sum_append]
  omega
theorem nsel_mem : ∀ (l : List RD) (r : RD), r ∈ l → r.sels.length ≤ nsel l := by
  intro l
  induction l with
  | nil => intro r h; cases h
  | cons q l ih =>
    intro r h
    have e : nsel (q :: l) = q.sels.length + nsel l := by simp [nsel]
    rcases List.mem_cons.1 h with rfl | h
    · omega
    · have := ih r h; omega
theorem selsW_len (l : List UInt8) : (selsW (bA l)).length ≤ l.length + 1 := by
  unfold selsW
  rw [List.length_map, pcB_len]
  have := count_le_size 44 (bA l)
  rw [bA_size] at this
  omega
theorem nsel_one {l : List UInt8} : nsel (oneR l) ≤ (aheadL l).length + 1 := by
  unfold oneR
  split
  · have := selsW_len (aheadL l)
    simpa [nsel, ruleL] using this
  · simp [nsel]
theorem nsel_rules : ∀ (f : Nat) (l : List UInt8), nsel (rulesF f l) ≤ l.length := by
  intro f
  induction f with
  | zero => intro l; simp [rulesF, nsel]
  | succ f ih =>
    intro l
    unfold rulesF
    split
    · next h =>
      have h1 := ih (restL l)
      have h2 := nsel_one (l := l)
      have h3 : nsel (oneR l ++ rulesF f (restL l)) = nsel (oneR l) + nsel (rulesF f (restL l)) := by unfold nsel; rw [List.map_append, List.sum_append]
      have h4 : (aheadL l).length + 1 + (restL l).length ≤ l.length := by
        unfold aheadL restL behindL
        rw [List.length_take, List.length_drop, List.length_drop]
        omega
      omega
    · simp [nsel]
/-- Rules whose selectors and declarations are few. -/
def SmR (r : RD) : Prop := (∃ a, r.sels = selsW a) ∧ r.decls.length ≤ 12
theorem smR_rules : ∀ (f : Nat) (l : List UInt8), ∀ r, r ∈ rulesF f l → SmR r := by
  intro f
  induction f with
  | zero => intro l r h; cases h
  | succ f ih =>
    intro l r h
    unfold rulesF at h
    split at h
    · rcases List.mem_append.1 h with h | h
      · unfold oneR at h
        split at h
        · rw [List.mem_singleton] at h
          subst h
          exact ⟨⟨_, rfl⟩, dcs_le _⟩
        · cases h
      · exact ih _ r h
    · cases h
theorem cntSS_bd (a : ByteArray) : cntSS (selsW a) ≤ 30 * (selsW a).length := by
  unfold selsW cntSS
  generalize pcB 44 a = ps
  induction ps with
  | nil => simp
  | cons x ps ih =>
    obtain ⟨h1, h2⟩ := selL_small x
    have h3 := cntPs_bd _ h2
    simp only [List.map_cons, List.sum_cons, List.length_cons] at *
    omega
theorem cntRs_bd : ∀ (l : List RD), (∀ r, r ∈ l → SmR r) → cntRs l ≤ 30 * nsel l + 36 * l.length := by
  intro l
  induction l with
  | nil => intro _; simp [cntRs]
  | cons r l ih =>
    intro h
    obtain ⟨⟨a, h1⟩, h2⟩ := h r List.mem_cons_self
    have h3 := ih (fun q hq => h q (List.mem_cons_of_mem _ hq))
    have h4 := cntSS_bd a
    rw [← h1] at h4
    have h5 : cntR r = cntSS r.sels + 3 * r.decls.length := rfl
    unfold cntRs nsel at *
    simp only [List.map_cons, List.sum_cons, List.length_cons]
    omega
theorem shtL_small (s : ByteArray) : (shtL s).length ≤ 30 ∧ cntRs (shtL s) ≤ 46080 + 36 ∧ ∀ i, i < (shtL s).length → (ruleAt (shtL s) i).sels.length ≤ 1000000 := by
  unfold shtL
  split
  · exact ⟨by simp, by simp [cntRs], fun i h => by simp at h⟩
  · next h =>
    have hb := bareB_size s
    have h1 : (rules30 (bareB s)).length ≤ 30 := by unfold rules30; rw [List.length_take]; omega
    have h2 : nsel (rules30 (bareB s)) ≤ 1500 := by
      have := nsel_take (rulesA (bareB s).data.toList) 30
      have h3 := nsel_rules ((bareB s).data.toList.length + 1) (bareB s).data.toList
      rw [data_len] at h3
      unfold rules30 rulesA at *
      rw [data_len] at *
      omega
    have h4 := cntRs_bd (rules30 (bareB s)) (fun r hr => smR_rules _ _ r (List.mem_of_mem_take hr))
    refine ⟨h1, by omega, fun i hi => ?_⟩
    have h5 : (ruleAt (rules30 (bareB s)) i).sels.length ≤ nsel (rules30 (bareB s)) := nsel_mem _ _ (by simp [ruleAt, hi])
    omega
theorem lenSS_sels (a : ByteArray) : lenSS (selsW a) := by
  intro i hi
  unfold selsW at *
  have e : ∃ x, selAt ((pcB 44 a).map selL) i = selL x := ⟨(pcB 44 a)[i]'(by simpa using hi), by unfold selAt; simp at hi; simp [hi]⟩
  obtain ⟨x, hx⟩ := e
  rw [hx]
  obtain ⟨h1, h2⟩ := selL_small x
  exact ⟨by omega, lenPs_of h2⟩
theorem lenRs_sht (s : ByteArray) : lenRs (shtL s) := by
  intro i hi
  obtain ⟨_, _, h3⟩ := shtL_small s
  have h4 := h3 i hi
  have h5 : SmR (ruleAt (shtL s) i) := by
    have hm : ruleAt (shtL s) i ∈ shtL s := by simp [ruleAt, hi]
    generalize ruleAt (shtL s) i = r at hm
    unfold shtL at hm
    split at hm
    · cases hm
    · exact smR_rules _ _ _ (List.mem_of_mem_take hm)
  obtain ⟨⟨a, h6⟩, h7⟩ := h5
  refine ⟨by omega, by rw [h6]; exact lenSS_sels a, by omega⟩
end Go.Proofs.YtnkmdmmlpidcmaaGreatDoor
