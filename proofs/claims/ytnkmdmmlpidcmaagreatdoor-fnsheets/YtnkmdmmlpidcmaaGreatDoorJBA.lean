/-
  A declaration that can be told, the specification's; each theorem names its conditions.
  The walk of the law FnSheets; each theorem names its conditions.
-/
import Derived.Test.YtnkmdmmlpidcmaaGreatDoorJAZ
import Derived.Test.YtnkmdmmlpidcmaaGreatDoorJAT
import Derived.Test.YtnkmdmmlpidcmaaGreatDoorJAX
import Derived.Test.YtnkmdmmlpidcmaaGreatDoorJAK
import Derived.Test.YtnkmdmmlpidcmaaGreatDoorJAY
import Derived.Test.YtnkmdmmlpidcmaaGreatDoorJAL
import Derived.Test.YtnkmdmmlpidcmaaGreatDoorJAO
import Derived.Test.YtnkmdmmlpidcmaaGreatDoorJAW
namespace Go.Proofs.YtnkmdmmlpidcmaaGreatDoor
open Go.ChangeShapes Go.WideShapes Go.ChangeAt Go.RowKit
set_option linter.unusedVariables false

theorem declB_size {nm vl : ByteArray} {im : Bool} (h : fit60 vl.data.toList = false) : declB ⟨nm, vl, im⟩ = false := by unfold declB; simp only; rw [h, Bool.and_false]
theorem fit60_in (vl : ByteArray) : decide ((1 : Int) ≤ (vl.size : Int) ∧ (vl.size : Int) ≤ 60) = fit60 vl.data.toList := by
  unfold fit60
  rw [data_len, Bool.eq_iff_iff]
  simp only [decide_eq_true_eq]
  omega
section
variable {nm vl : ByteArray}
theorem kWord (hn : nm.size ≤ 1048576) {v : Bool} (h : wordB nm = v) (w : World) : Calls Tryz.prog 64 #[.string nm] w fun e w' => e = .returned (.bool v) ∧ Nw w w' := by
  refine (sword w nm hn).mono ?_
  rintro e w' ⟨rfl, rfl⟩
  exact ⟨by rw [h], Below.refl _ _⟩
theorem kIn {v : Bool} (h : fit60 vl.data.toList = v) (w : World) : Calls Tryz.prog 61 #[.int .i64 (vl.size : Int), .int .i64 1, .int .i64 60] w fun e w' => e = .returned (.bool v) ∧ Nw w w' := by
  refine (in_any w _ _ _).mono ?_
  rintro e w' ⟨rfl, rfl⟩
  exact ⟨by rw [fit60_in, h], Below.refl _ _⟩
theorem kTrim (hv : vl.size ≤ 1048576) (w : World) : Calls Tryz.prog 66 #[.string vl] w fun e w' => e = .returned (.string (bA (tmL vl.data.toList))) ∧ Nw w w' := by
  refine (strimL vl w hv).mono ?_
  rintro e w' ⟨rfl, rfl⟩
  exact ⟨rfl, Below.refl _ _⟩
end
set_option maxHeartbeats 8000000 in
set_option maxRecDepth 100000 in
theorem sgd_1 (w : World) (nm vl : ByteArray) (im : Bool) (hn : nm.size ≤ 1048576) (hv : vl.size ≤ 1048576) (hw : wordB nm = false) : Calls Tryz.prog 30 #[.agg #[.string nm, .string vl, .bool im]] w fun e w' => e = .returned (.bool (declB ⟨nm, vl, im⟩)) ∧ Nw w w' := by
  have HX : Hid (declB ⟨nm, vl, im⟩ = false) := declB_name (nameOk_word hw)
  have G0 : Hid (Gm w (w.alloc (.cells #[.string nm, .string vl, .bool im] 36)) w.heap.size nm vl) := ⟨(Below.refl _ _).alloc (Nat.le_refl _) _, by simp, by simp⟩
  go_enter Tryz.func30, Tryz.ntmps30
  go_wp2_with fail
  generalize w.alloc (.cells #[.string nm, .string vl, .bool im] 36) = A at *
  generalize w.heap.size = g at *
  refine reg_change (ops' := opsOf 1 Tryz.f30) (by kernel_rfl) ?_
  refine SA1.run ⟨g, nm, vl, A.drew, _⟩ ⟨G0.out.c0, G0.out.c1, kWord hn hw, rfl, rfl⟩ A (Below.refl _ _) ?_
  rintro γ1 w1 k1
  have G1 : Hid (Gm w w1 g nm vl) := G0.out.step k1
  clear k1
  simp only [Act.put, List.setIfInBounds_toArray, List.set_cons_zero, List.set_cons_succ]
  go_wp2
  go_ret
  exact ⟨ret_bool HX.out.symm, G1.out.nw⟩
set_option maxHeartbeats 8000000 in
set_option maxRecDepth 100000 in
theorem sgd_2 (w : World) (nm vl : ByteArray) (im : Bool) (hn : nm.size ≤ 1048576) (hv : vl.size ≤ 1048576) (hw : wordB nm = true) (hl : ¬ lowL nm.data.toList = nm.data.toList) : Calls Tryz.prog 30 #[.agg #[.string nm, .string vl, .bool im]] w fun e w' => e = .returned (.bool (declB ⟨nm, vl, im⟩)) ∧ Nw w w' := by
  have HX : Hid (declB ⟨nm, vl, im⟩ = false) := declB_name (nameOk_low hl)
  have G0 : Hid (Gm w (w.alloc (.cells #[.string nm, .string vl, .bool im] 36)) w.heap.size nm vl) := ⟨(Below.refl _ _).alloc (Nat.le_refl _) _, by simp, by simp⟩
  go_enter Tryz.func30, Tryz.ntmps30
  go_wp2_with fail
  generalize w.alloc (.cells #[.string nm, .string vl, .bool im] 36) = A at *
  generalize w.heap.size = g at *
  refine reg_change (ops' := opsOf 1 Tryz.f30) (by kernel_rfl) ?_
  refine SA2.run ⟨g, nm, vl, bA (lowL nm.data.toList), A.drew, _⟩ ⟨G0.out.c0, G0.out.c1, fun h => hl ((list_bA2 _ _).1 h), kWord hn hw, fun w => slow nm w hn, rfl, rfl⟩ A (Below.refl _ _) ?_
  rintro γ1 w1 k1
  have G1 : Hid (Gm w w1 g nm vl) := G0.out.step k1
  clear k1
  simp only [Act.put, List.setIfInBounds_toArray, List.set_cons_zero, List.set_cons_succ]
  go_wp2
  go_ret
  exact ⟨ret_bool HX.out.symm, G1.out.nw⟩
set_option maxHeartbeats 8000000 in
set_option maxRecDepth 100000 in
theorem sgd_3 (w : World) (nm vl : ByteArray) (im : Bool) (hn : nm.size ≤ 1048576) (hv : vl.size ≤ 1048576) (hw : wordB nm = true) (hl : lowL nm.data.toList = nm.data.toList) (hf : fit60 vl.data.toList = false) : Calls Tryz.prog 30 #[.agg #[.string nm, .string vl, .bool im]] w fun e w' => e = .returned (.bool (declB ⟨nm, vl, im⟩)) ∧ Nw w w' := by
  have HX : Hid (declB ⟨nm, vl, im⟩ = false) := declB_size hf
  have G0 : Hid (Gm w (w.alloc (.cells #[.string nm, .string vl, .bool im] 36)) w.heap.size nm vl) := ⟨(Below.refl _ _).alloc (Nat.le_refl _) _, by simp, by simp⟩
  go_enter Tryz.func30, Tryz.ntmps30
  go_wp2_with fail
  generalize w.alloc (.cells #[.string nm, .string vl, .bool im] 36) = A at *
  generalize w.heap.size = g at *
  refine reg_change (ops' := opsOf 1 Tryz.f30) (by kernel_rfl) ?_
  refine SA3.run ⟨g, nm, vl, bA (lowL nm.data.toList), A.drew, _⟩ ⟨G0.out.c0, G0.out.c1, (list_bA2 _ _).2 hl, kWord hn hw, fun w => slow nm w hn, kIn hf, rfl, rfl⟩ A (Below.refl _ _) ?_
  rintro γ1 w1 k1
  have G1 : Hid (Gm w w1 g nm vl) := G0.out.step k1
  clear k1
  simp only [Act.put, List.setIfInBounds_toArray, List.set_cons_zero, List.set_cons_succ]
  go_wp2
  go_ret
  exact ⟨ret_bool HX.out.symm, G1.out.nw⟩
set_option maxHeartbeats 8000000 in
set_option maxRecDepth 100000 in
theorem sgd_4 (w : World) (nm vl : ByteArray) (im : Bool) (hn : nm.size ≤ 1048576) (hv : vl.size ≤ 1048576) (hw : wordB nm = true) (hl : lowL nm.data.toList = nm.data.toList) (hf : fit60 vl.data.toList = true) (ht : ¬ tmL vl.data.toList = vl.data.toList) : Calls Tryz.prog 30 #[.agg #[.string nm, .string vl, .bool im]] w fun e w' => e = .returned (.bool (declB ⟨nm, vl, im⟩)) ∧ Nw w w' := by
  have HX : Hid (declB ⟨nm, vl, im⟩ = false) := declB_whole (wholeOk_trim ht)
  have G0 : Hid (Gm w (w.alloc (.cells #[.string nm, .string vl, .bool im] 36)) w.heap.size nm vl) := ⟨(Below.refl _ _).alloc (Nat.le_refl _) _, by simp, by simp⟩
  go_enter Tryz.func30, Tryz.ntmps30
  go_wp2_with fail
  generalize w.alloc (.cells #[.string nm, .string vl, .bool im] 36) = A at *
  generalize w.heap.size = g at *
  refine reg_change (ops' := opsOf 1 Tryz.f30) (by kernel_rfl) ?_
  refine SA4.run ⟨g, nm, vl, bA (lowL nm.data.toList), bA (tmL vl.data.toList), A.drew, _⟩ ⟨G0.out.c0, G0.out.c1, (list_bA2 _ _).2 hl, fun h => ht ((list_bA2 _ _).1 h), kWord hn hw, fun w => slow nm w hn, kIn hf, kTrim hv, rfl, rfl⟩ A (Below.refl _ _) ?_
  rintro γ1 w1 k1
  have G1 : Hid (Gm w w1 g nm vl) := G0.out.step k1
  clear k1
  simp only [Act.put, List.setIfInBounds_toArray, List.set_cons_zero, List.set_cons_succ]
  go_wp2
  go_ret
  exact ⟨ret_bool HX.out.symm, G1.out.nw⟩
set_option maxHeartbeats 8000000 in
set_option maxRecDepth 100000 in
theorem sgd_5 (w : World) (nm vl : ByteArray) (im : Bool) (hn : nm.size ≤ 1048576) (hv : vl.size ≤ 1048576) (hw : wordB nm = true) (hl : lowL nm.data.toList = nm.data.toList) (hf : fit60 vl.data.toList = true) (ht : tmL vl.data.toList = vl.data.toList) : Calls Tryz.prog 30 #[.agg #[.string nm, .string vl, .bool im]] w fun e w' => e = .returned (.bool (declB ⟨nm, vl, im⟩)) ∧ Nw w w' := by
  have HX : Hid (declB ⟨nm, vl, im⟩ = !badL vl.data.toList) := (by unfold declB wholeOk; simp only; rw [nameOk_yes hw hl, hf, decide_eq_true ht]; simp : declB ⟨nm, vl, im⟩ = !badL vl.data.toList)
  have G0 : Hid (Gm w (w.alloc (.cells #[.string nm, .string vl, .bool im] 36)) w.heap.size nm vl) := ⟨(Below.refl _ _).alloc (Nat.le_refl _) _, by simp, by simp⟩
  go_enter Tryz.func30, Tryz.ntmps30
  go_wp2_with fail
  generalize w.alloc (.cells #[.string nm, .string vl, .bool im] 36) = A at *
  generalize w.heap.size = g at *
  refine reg_change (ops' := opsOf 1 Tryz.f30) (by kernel_rfl) ?_
  refine SA5.run ⟨g, nm, vl, bA (lowL nm.data.toList), bA (tmL vl.data.toList), A.drew, _⟩ ⟨G0.out.c0, G0.out.c1, (list_bA2 _ _).2 hl, (list_bA2 _ _).2 ht, kWord hn hw, fun w => slow nm w hn, kIn hf, kTrim hv, rfl, rfl⟩ A (Below.refl _ _) ?_
  rintro γ1 w1 k1
  have G1 : Hid (Gm w w1 g nm vl) := G0.out.step k1
  clear k1
  simp only [Act.put, List.setIfInBounds_toArray, List.set_cons_zero, List.set_cons_succ]
  have d1 := G1.out.c1
  clear hw hl hf ht
  go_wp2
  go_loop [3] (fun i => ∃ k : Nat, k ≤ vl.size ∧ i = .int .i64 k ∧ (vl.data.toList.take k).any badB = false) (fun i => vl.size - (intOf i).toNat)
  case atStart => exact ⟨0, Nat.zero_le _, rfl, rfl⟩
  case round =>
    obtain ⟨k, hk, rfl, hto⟩ := hrel
    have HT : Hid ((vl.data.toList.take k).any badB = false) := hto
    clear hto
    by_cases hlt : k < vl.size
    · have HB : Hid (∀ c : Int, ((vl[k].toNat : Int) == c) = true → badN c.toNat = true → declB ⟨nm, vl, im⟩ = false) := by
        intro c h1 h2
        have h3 : badB vl[k] = true := by
          unfold badB
          rw [beq_iff_eq] at h1
          rw [← h1] at h2
          exact h2
        rw [HX.out]
        have h4 : badL vl.data.toList = true := List.any_eq_true.2 ⟨vl[k], by rw [show vl[k] = vl.data.toList[k]'(by rw [data_len]; exact hlt) from rfl]; exact List.getElem_mem _, h3⟩
        rw [h4]; rfl
      have HN : Hid (((vl[k].toNat : Int) == 59) = false → ((vl[k].toNat : Int) == 123) = false → ((vl[k].toNat : Int) == 125) = false → ((vl[k].toNat : Int) == 47) = false → ((vl[k].toNat : Int) == 33) = false → (vl.data.toList.take (k + 1)).any badB = false) := by
        intro h1 h2 h3 h4 h5
        refine any_step HT.out (by omega) fun j hj hj2 => ?_
        obtain rfl : j = 0 := by omega
        show badB vl[k] = false
        unfold badB badN
        simp only [beq_eq_false_iff_ne] at h1 h2 h3 h4 h5
        exact decide_eq_false (by omega)
      clear HT
      go_wp2
      case roundEnd =>
        go_round
        case rel => exact ⟨k + 1, by omega, by go_num, HN.out (by assumption) (by assumption) (by assumption) (by assumption) (by assumption)⟩
        case measure => simp [intOf]; omega
      all_goals
        go_ret
        refine ⟨ret_bool (Eq.symm ?_), G1.out.nw⟩
        first
          | exact HB.out 59 (by assumption) rfl
          | exact HB.out 123 (by assumption) rfl
          | exact HB.out 125 (by assumption) rfl
          | exact HB.out 47 (by assumption) rfl
          | exact HB.out 33 (by assumption) rfl
    · have e : k = vl.size := by omega
      subst e
      have HY : Hid (declB ⟨nm, vl, im⟩ = true) := by
        show _ = true
        have h := HT.out
        rw [← data_len vl, List.take_length] at h
        rw [HX.out]; show (!badL vl.data.toList) = true; unfold badL; rw [h]; rfl
      go_wp2
      go_ret
      exact ⟨ret_bool HY.out.symm, G1.out.nw⟩
theorem sgoodDecl : GdS := by
  intro w d hn hv
  obtain ⟨nm, vl, im⟩ := d
  cases hw : wordB nm with
  | false => exact sgd_1 w nm vl im hn hv hw
  | true =>
    by_cases hl : lowL nm.data.toList = nm.data.toList
    · cases hf : fit60 vl.data.toList with
      | false => exact sgd_3 w nm vl im hn hv hw hl hf
      | true =>
        by_cases ht : tmL vl.data.toList = vl.data.toList
        · exact sgd_5 w nm vl im hn hv hw hl hf ht
        · exact sgd_4 w nm vl im hn hv hw hl hf ht
    · exact sgd_2 w nm vl im hn hv hw hl
end Go.Proofs.YtnkmdmmlpidcmaaGreatDoor
namespace Go.Proofs.YtnkmdmmlpidcmaaGreatDoor
open Go.ChangeShapes Go.WideShapes Go.ChangeAt Go.RowKit
set_option linter.unusedVariables false

theorem sheetOk_size {l : List RD} (h : sheetOk l = true) : (sheetT l l.length).size ≤ 1500 := by
  unfold sheetOk at h
  simp only [Bool.and_eq_true, decide_eq_true_eq] at h
  exact h.2
theorem quiet_rule {w : World} {v : Value} {l : List RD} {F : Nat → Prop} (h : RowM 2 ERule w v l F) {k : Nat} (hk : k < l.length) :
    ∃ g c x1 y1 x2 y2 F1 F2, v = .slice (some ⟨g, 0, none⟩) l.length c ∧ g < w.heap.size ∧ w.cell? ⟨g, k * 2, none⟩ = some (.slice x1 (ruleAt l k).sels.length y1) ∧ w.cell? ⟨g, k * 2 + 1, none⟩ = some (.slice x2 (ruleAt l k).decls.length y2) ∧
      RowM 1 ESel w (.slice x1 (ruleAt l k).sels.length y1) (ruleAt l k).sels F1 ∧ RowM 3 EDecl w (.slice x2 (ruleAt l k).decls.length y2) (ruleAt l k).decls F2 := by
  obtain ⟨g, c, u1, u2, F1, F2, h1, h2, h3, h4, h5, h6⟩ := h.ruleAt hk
  obtain ⟨x1, y1, e1, _⟩ := h5.slice
  obtain ⟨x2, y2, e2, _⟩ := h6.slice
  subst e1 e2
  exact ⟨g, c, x1, y1, x2, y2, F1, F2, h1, h2, h3, h4, h5, h6⟩
theorem nw_drewN2 (w : World) (n : Nat) : Nw w (w.drewN n) := ⟨rfl, rfl, rfl, Nat.le_refl _, fun _ _ => rfl⟩
set_option maxRecDepth 100000 in
set_option maxHeartbeats 16000000 in
theorem walk_sheets (w : World) (hm : MaxL w) (a0 : Option Addr) (len0 cap0 : Nat) (a1 : Option Addr) (len1 cap1 : Nat) (ml0 : len0 ≤ 9223372036854775807) (hd0 : Code w w.heap.size a0 len0) (ml1 : len1 ≤ 9223372036854775807) (hd1 : Code w w.heap.size a1 len1) :
    Calls Tryz.prog 3 #[.slice a0 len0 cap0, .slice a1 len1 cap1] w fun e w' => e = .returned (.bool true) ∧ Below w.heap.size w w' := by
  have HC0 : Hid _ := hd0
  have HC1 : Hid _ := hd1
  have HM : Hid (MaxL w) := hm
  clear hd0 hd1 hm
  by_cases hbig : 1048576 < wrap64 ((len0 : Int) + (len1 : Int))
  · go_enter Tryz.func3, Tryz.ntmps3
    go_wp2
    go_ret
    exact ⟨rfl, Below.refl _ _⟩
  · go_enter Tryz.func3, Tryz.ntmps3
    go_wp2_with fail
    refine (drawSheet_any w a0 len0 cap0 ml0 HC0.out).mono ?_
    rintro e w1 ⟨⟨l, u, rfl, hu, hl40, hbk⟩, n1⟩
    obtain ⟨la, lc, hus, _, hru⟩ := hu.rules
    subst hus
    have HU : Hid (RowM 2 ERule w1 (.slice la l.length lc) l (iv w w1)) := hu
    have HRU : Hid (Rules w1 la l) := hru
    have N1 : Hid (Nw w w1) := n1
    obtain ⟨hsm, hln⟩ := smRs_of (l := l) (by omega)
    have HSM : Hid (smRs l) := hsm
    have HLN : Hid (lenRs l) := hln
    have HA := sheetAns_eq l
    have HOK : Hid (sheetOk l = true → ansT l = sheetT l l.length ∧ (sheetT l l.length).size ≤ 1500 ∧ shtL (sheetT l l.length) = l) := fun h => ⟨by unfold ansT; rw [if_pos h], sheetOk_size h, sheet_back h⟩
    clear hu hru n1 hsm hln hbk
    generalize ansT l = S at *
    generalize hq : sheetOk l = q at *
    clear hq
    have hqq : (q != q) = false := by cases q <;> rfl
    go_wp2_with fail
    refine Calls.mono (isheetT igoodDecl w1 la lc l HSM.out HRU.out) ?_
    rw [HA]
    rintro e w2 ⟨rfl, k2⟩
    have N12 : Hid (Nw w1 w2) := k2
    clear k2
    go_wp2_with fail
    refine Calls.mono (ssheetT sgoodDecl w2 la lc l HSM.out (HRU.out.nw N12.out)) ?_
    rw [HA]
    rintro e w3 ⟨rfl, k3⟩
    have N3 : Hid (Nw w w3) := Nw.trans N1.out (Nw.trans N12.out k3)
    have U3 : Hid (RowM 2 ERule w3 (.slice la l.length lc) l (iv w w1)) := HU.out.nw ERule.kept (Nw.trans N12.out k3)
    clear k3 N12 HU HRU HA
    go_upto_if 48 with fail
    go_cut [] (fun wx => Nw w wx)
    case first =>
      cases q with
      | false =>
        go_wp2
        go_meet
        exact N3.out
      | true =>
        obtain ⟨hS, hsz, hsb⟩ := HOK.out rfl
        subst hS
        have hdS : decide (1500 < (sheetT l l.length).size) = false := decide_eq_false (by omega)
        have HI : Hid (Calls Tryz.prog 9 #[.string (sheetT l l.length)] w3 fun e w' => ShtSays (sheetT l l.length) w3 w' e ∧ Nw w3 w') := isheet _ w3 (HM.out.nw N3.out) (by omega)
        unfold ShtSays at HI
        rw [hsb, hdS] at HI
        clear hsz hsb hdS HOK
        generalize sheetT l l.length = S at *
        go_wp2_with fail
        refine Calls.mono HI.out ?_
        rintro e w4 ⟨⟨v, rfl, hv⟩, k4⟩
        obtain ⟨ma, mc, hvs, _⟩ := hv.slice
        subst hvs
        have V4 : Hid (RowM 2 ERule w4 (.slice ma l.length mc) l (iv w3 w4)) := hv
        have U4 : Hid (RowM 2 ERule w4 (.slice la l.length lc) l (iv w w1)) := U3.out.nw ERule.kept k4
        have N4 : Hid (Nw w w4) := Nw.trans N3.out k4
        clear hv k4 U3 HI
        go_wp2
        go_loopw [65] (fun i wr => ∃ k n : Nat, k ≤ l.length ∧ i = .int .i64 k ∧ wr = w4.drewN n) (fun i _ => l.length - (intOf i).toNat)
        case atStart => exact ⟨0, 0, Nat.zero_le _, rfl, rfl⟩
        case round =>
          obtain ⟨k, n, hk, rfl, rfl⟩ := hrel
          by_cases hlt : k < l.length
          · obtain ⟨V, hV⟩ : ∃ V, V = w4.drewN n := ⟨_, rfl⟩
            have UV := U4.out.nw ERule.kept (nw_drewN2 w4 n)
            have VV := V4.out.nw ERule.kept (nw_drewN2 w4 n)
            rw [← hV] at UV VV ⊢
            obtain ⟨g1, d1, x1, y1, x2, y2, F1, F2, e1, hg1, p1, p2, r1, r2⟩ := quiet_rule UV hlt
            obtain ⟨g2, d2, x3, y3, x4, y4, F3, F4, e2, hg2, p3, p4, r3, r4⟩ := quiet_rule VV hlt
            injection e1 with e1 e1b e1c
            injection e2 with e2 e2b e2c
            subst e1 e2
            have HLR := HLN.out k hlt
            generalize ruleAt l k = r at *
            obtain ⟨sels, decls⟩ := r
            simp only at p1 p2 r1 r2 p3 p4 r3 r4
            have HR1 : Hid (RowM 1 ESel V (.slice x1 sels.length y1) sels F1) := r1
            have HR2 : Hid (RowM 3 EDecl V (.slice x2 decls.length y2) decls F2) := r2
            have HR3 : Hid (RowM 1 ESel V (.slice x3 sels.length y3) sels F3) := r3
            have HR4 : Hid (RowM 3 EDecl V (.slice x4 decls.length y4) decls F4) := r4
            have HLS : Hid (lenSS sels) := HLR.s2
            have hls := HLR.s1
            have hld := HLR.s3
            simp only at hls hld
            have HV : Hid (V = w4.drewN n) := hV
            have i1 : (0 : Int) ≤ (k : Int) := by omega
            have i2 : (k : Int) < (l.length : Int) := by omega
            clear r1 r2 r3 r4 UV VV hV e1b e2b HLR
            go_wp2_with fail
            go_quiet (fail)
            go_wp2
            go_loopw [102] (fun i wr => ∃ j n : Nat, j ≤ sels.length ∧ i = .int .i64 j ∧ wr = V.drewN n) (fun i _ => sels.length - (intOf i).toNat)
            case atStart => exact ⟨0, _, Nat.zero_le _, rfl, rfl⟩
            case round =>
              obtain ⟨j, n2, hj, rfl, rfl⟩ := hrel
              by_cases hjl : j < sels.length
              · obtain ⟨V2, hV2⟩ : ∃ V2, V2 = V.drewN n2 := ⟨_, rfl⟩
                have RA := HR1.out.nw ESel.kept (nw_drewN2 V n2)
                have RB := HR3.out.nw ESel.kept (nw_drewN2 V n2)
                obtain ⟨s1, t1, z1, m1, e1, hs1, c1, q1⟩ := RA.selAt hjl
                obtain ⟨s2, t2, z2, m2, e2, hs2, c2, q2⟩ := RB.selAt hjl
                injection e1 with e1 e1b e1c
                injection e2 with e2 e2b e2c
                subst e1 e2
                obtain ⟨hx1, hx2⟩ := HLS.out j hjl
                have HQ : Hid (∀ n', Calls Tryz.prog 10 #[.slice z1 (selAt sels j).length m1, .slice z2 (selAt sels j).length m2] (V2.drewN n') fun e w' => e = .returned (.bool true) ∧ ∃ m, w' = V2.drewN m) := by
                  intro n'
                  refine (sameParts_any (V2.drewN n') z1 z2 m1 m2 _ hx1 hx2 ?_ ?_).mono ?_
                  · rw [hV2]; exact q1.nw (nw_drewN2 _ _)
                  · rw [hV2]; exact q2.nw (nw_drewN2 _ _)
                  rintro e w' ⟨rfl, m, rfl⟩
                  exact ⟨rfl, n' + m, World.drewN_drewN _ _ _⟩
                generalize selAt sels j = sj at *
                have hcell : ∀ a, V2.cell? a = V.cell? a := fun a => by rw [hV2]; rfl
                rw [← hV2] at c1 c2 ⊢
                replace p1 := (hcell _).trans p1
                replace p3 := (hcell _).trans p3
                have HV2 : Hid (V2 = V.drewN n2) := hV2
                have i3 : (0 : Int) ≤ (j : Int) := by omega
                have i4 : (j : Int) < (sels.length : Int) := by omega
                clear RA RB q1 q2 hV2 hcell p2 p4 e1b e1c e2b e2c
                go_wp2_with fail
                go_quiet (first | (go_at_call 10; exact HQ.out _))
                go_wp2
                go_roundw
                case rel => exact ⟨j + 1, _, by omega, by go_num, by rw [HV2.out]; exact World.drewN_drewN _ _ _⟩
                case measure => simp [intOf]; omega
              · have hje : j = sels.length := by omega
                subst hje
                have hcell : ∀ a, (V.drewN n2).cell? a = V.cell? a := fun a => rfl
                replace p2 := (hcell _).trans p2
                replace p4 := (hcell _).trans p4
                generalize hV2 : V.drewN n2 = V2 at *
                have HV2 : Hid (V.drewN n2 = V2) := hV2
                clear hV2 hcell
                go_wp2
                go_loopw [130] (fun i wr => ∃ j n : Nat, j ≤ decls.length ∧ i = .int .i64 j ∧ wr = V2.drewN n) (fun i _ => decls.length - (intOf i).toNat)
                case atStart => exact ⟨0, 0, Nat.zero_le _, rfl, rfl⟩
                case round =>
                  obtain ⟨j, n3, hj, rfl, rfl⟩ := hrel
                  by_cases hjl : j < decls.length
                  · obtain ⟨V3, hV3⟩ : ∃ V3, V3 = V2.drewN n3 := ⟨_, rfl⟩
                    have KV : Nw V V3 := by rw [hV3, ← HV2.out]; exact Nw.trans (nw_drewN2 _ _) (nw_drewN2 _ _)
                    obtain ⟨za, zc, e1, _, hd1⟩ := (HR2.out.nw EDecl.kept KV).decls
                    obtain ⟨zb, zd, e2, _, hd2⟩ := (HR4.out.nw EDecl.kept KV).decls
                    injection e1 with e1 e1b e1c
                    injection e2 with e2 e2b e2c
                    subst e1 e2
                    rcases hd1 with h | ⟨b1, rfl, hb1, hc1⟩
                    · rw [h] at hjl; simp at hjl
                    rcases hd2 with h | ⟨b2, rfl, hb2, hc2⟩
                    · rw [h] at hjl; simp at hjl
                    obtain ⟨s0, s1, s2⟩ := hc1 j hjl
                    obtain ⟨t0, t1, t2⟩ := hc2 j hjl
                    generalize declAt decls j = d at *
                    obtain ⟨dn, dv, di⟩ := d
                    simp only at s0 s1 s2 t0 t1 t2
                    have hcell : ∀ a, V3.cell? a = V2.cell? a := fun a => by rw [hV3]; rfl
                    rw [← hV3]
                    replace p2 := (hcell _).trans p2
                    replace p4 := (hcell _).trans p4
                    have HV3 : Hid (V3 = V2.drewN n3) := hV3
                    have i5 : (0 : Int) ≤ (j : Int) := by omega
                    have i6 : (j : Int) < (decls.length : Int) := by omega
                    have ed : (di == di) = true := by cases di <;> rfl
                    clear hV3 hcell hc1 hc2 KV p1 p3 e1b e1c e2b e2c
                    go_wp2_with fail
                    go_quiet (fail)
                    go_wp2
                    go_roundw
                    case rel => exact ⟨j + 1, _, by omega, by go_num, by rw [HV3.out]; exact World.drewN_drewN _ _ _⟩
                    case measure => simp [intOf]; omega
                  · go_wp2
                    go_roundw
                    case rel => exact ⟨k + 1, _, by omega, by go_num, by rw [← HV2.out, HV.out, World.drewN_drewN, World.drewN_drewN]⟩
                    case measure => simp [intOf]; omega
          · go_wp2
            go_meet
            exact Nw.trans N4.out (nw_drewN2 w4 n)
    case rest =>
      have NC : Hid (Nw w wc) := hcut
      clear hcut HOK U3 N3 N1 HSM HLN hqq
      go_wp2_with fail
      refine (drawSel_any wc a1 len1 cap1 ml1 (Code.past HC1.out NC.out (Below.size NC.out))).mono ?_
      rintro e w5 ⟨⟨x, ux, rfl, hx, hx7, hxb⟩, n5⟩
      obtain ⟨xa, xc, hxs, _, hxp⟩ := hx.parts
      subst hxs
      obtain ⟨hsm, hlp⟩ := smallPs_of (l := x) (by omega)
      have HXP : Hid (Parts w5 xa x) := hxp
      have HSM : Hid (smallPs x) := hsm
      have HLP : Hid (lenPs x) := hlp
      have N5 : Hid (Nw w w5) := Nw.trans NC.out n5
      have hx1 : x.length ≤ 1048576 := by omega
      have HA := selAns_eq x
      have HOK : Hid (selB x = true → (ansS x).size ≤ 1048576 ∧ selOk (ansS x) = true ∧ selL (ansS x) = x) := fun h => by
        have e : ansS x = selT x x.length := by unfold ansS; rw [if_pos h]
        rw [e]
        have h1 := selT_x x
        unfold bulkX at h1
        exact ⟨by omega, sel_ok h, sel_back h⟩
      have HNO : Hid (selB x = false → ansS x = ⟨#[]⟩) := fun h => by unfold ansS; rw [h]; rfl
      clear hx hxp hsm hlp n5 hxb
      generalize ansS x = S2 at *
      generalize hq2 : selB x = q2 at *
      clear hq2
      have hqq : (q2 != q2) = false := by cases q2 <;> rfl
      go_wp2_with fail
      refine Calls.mono (iselectorText w5 xa xc x hx1 HSM.out HXP.out) ?_
      rw [HA]
      rintro e w6 ⟨rfl, k6⟩
      have N56 : Hid (Nw w5 w6) := k6
      clear k6
      go_wp2_with fail
      refine Calls.mono (sselectorText w6 xa xc x hx1 HSM.out (HXP.out.nw N56.out)) ?_
      rw [HA]
      rintro e w7 ⟨rfl, k7⟩
      have N7 : Hid (Nw w w7) := Nw.trans N5.out (Nw.trans N56.out k7)
      have P7 : Hid (Parts w7 xa x) := HXP.out.nw (Nw.trans N56.out k7)
      clear k7 HA HXP
      cases q2 with
      | false =>
        have hS := HNO.out rfl
        subst hS
        go_wp2
        go_ret
        exact ⟨rfl, N7.out⟩
      | true =>
        obtain ⟨hsz, hso, hsl⟩ := HOK.out rfl
        have HI : Hid (Calls Tryz.prog 14 #[.string S2] w7 fun e w' => SelSays S2 w7 w' e ∧ Nw w7 w') := ireadSel w7 S2 hsz
        unfold SelSays at HI
        rw [hso, hsl] at HI
        clear hsz hso hsl HOK HNO
        go_wp2_with fail
        refine Calls.mono HI.out ?_
        rintro e w8 ⟨⟨v, rfl, hv⟩, k8⟩
        obtain ⟨va, vc, hvs, _, hvp⟩ := hv.parts
        subst hvs
        have P8 : Hid (Parts w8 xa x) := P7.out.nw k8
        have V8 : Hid (Parts w8 va x) := hvp
        have N8 : Hid (Nw w w8) := Nw.trans N7.out k8
        clear hv hvp k8 HI P7
        go_wp2_with fail
        refine Calls.mono (sameParts_any w8 xa va xc vc x hx1 HLP.out P8.out V8.out) ?_
        rintro e w9 ⟨rfl, m, rfl⟩
        go_wp2
        go_ret
        exact ⟨rfl, Nw.trans N8.out (nw_drewN2 _ _)⟩
end Go.Proofs.YtnkmdmmlpidcmaaGreatDoor
