/-
  A declaration that can be told, the program's; each theorem names its conditions.
  The statement of the specification that looks at a declaration and draws its order; each theorem names its conditions.
  A text in small letters, by the specification; each theorem names its conditions.
  A declaration read by the specification; each theorem names its conditions.
-/
import Derived.Test.YtnkmdmmlpidcmaaGreatDoorJAY
import Derived.Test.YtnkmdmmlpidcmaaGreatDoorJAQ
import Derived.Test.YtnkmdmmlpidcmaaGreatDoorJAL
import Derived.Test.YtnkmdmmlpidcmaaGreatDoorJAB
import Derived.Lib.ConvBytes
import Derived.Lib.SlBytesRow
namespace Go.Proofs.YtnkmdmmlpidcmaaGreatDoor
open Go.ChangeShapes Go.WideShapes Go.ChangeAt Go.RowKit
set_option linter.unusedVariables false

theorem list_bA (s : ByteArray) (l : List UInt8) : s.toList = (bA l).toList ↔ l = s.data.toList := by
  rw [ByteArray.toList_eq, ByteArray.toList_eq, bA_list]; exact eq_comm
theorem list_bA2 (s : ByteArray) (l : List UInt8) : (bA l).toList = s.toList ↔ l = s.data.toList := by
  rw [ByteArray.toList_eq, ByteArray.toList_eq, bA_list]
theorem nameOk_word {s : ByteArray} (h : wordB s = false) : nameOk s = false := by unfold nameOk; rw [h]; rfl
theorem nameOk_low {s : ByteArray} (h : ¬ lowL s.data.toList = s.data.toList) : nameOk s = false := by unfold nameOk; rw [decide_eq_false h, Bool.and_false]
theorem nameOk_yes {s : ByteArray} (h : wordB s = true) (k : lowL s.data.toList = s.data.toList) : nameOk s = true := by unfold nameOk; rw [h, decide_eq_true k]; rfl
theorem wholeOk_trim {s : ByteArray} (h : ¬ tmL s.data.toList = s.data.toList) : wholeOk s = false := by unfold wholeOk; rw [decide_eq_false h]; rfl
theorem wholeOk_bad {s : ByteArray} (h : badL s.data.toList = true) : wholeOk s = false := by unfold wholeOk; rw [h]; exact Bool.and_false _
theorem wholeOk_yes {s : ByteArray} (h : tmL s.data.toList = s.data.toList) (k : badL s.data.toList = false) : wholeOk s = true := by unfold wholeOk; rw [k, decide_eq_true h]; rfl
theorem declB_name {nm vl : ByteArray} {im : Bool} (h : nameOk nm = false) : declB ⟨nm, vl, im⟩ = false := by unfold declB; simp only; rw [h]; rfl
theorem declB_whole {nm vl : ByteArray} {im : Bool} (h : wholeOk vl = false) : declB ⟨nm, vl, im⟩ = false := by unfold declB; simp only; rw [h, Bool.and_false]; rfl
theorem declB_fit {nm vl : ByteArray} {im : Bool} (h : nameOk nm = true) (k : wholeOk vl = true) : declB ⟨nm, vl, im⟩ = fit60 vl.data.toList := by unfold declB; simp only; rw [h, k]; rfl
/-- The memory while a declaration is looked at. -/
structure Gm (w A : World) (g : Nat) (nm vl : ByteArray) : Prop where
  nw : Nw w A
  c0 : A.cell? ⟨g, 0, none⟩ = some (.string nm)
  c1 : A.cell? ⟨g, 1, none⟩ = some (.string vl)
theorem Gm.step {w A B : World} {g : Nat} {nm vl : ByteArray} (h : Gm w A g nm vl) (k : Nw A.drew B) : Gm w B g nm vl := ⟨h.nw.trans k.drw, rq_atN k.drw h.c0, rq_atN k.drw h.c1⟩
set_option maxHeartbeats 8000000 in
set_option maxRecDepth 100000 in
theorem igd_WR (w : World) (nm vl : ByteArray) (im : Bool) (hn : nm.size ≤ 1048576) (hv : vl.size ≤ 1048576) (hw : wordB nm = false) (ht : ¬ tmL vl.data.toList = vl.data.toList) : Calls Tryz.prog 59 #[.agg #[.string nm, .string vl, .bool im]] w fun e w' => e = .returned (.bool (declB ⟨nm, vl, im⟩)) ∧ Nw w w' := by
  have HX : Hid (declB ⟨nm, vl, im⟩ = false) := declB_name (nameOk_word hw)
  have G0 : Hid (Gm w (w.alloc (.cells #[.string nm, .string vl, .bool im] 36)) w.heap.size nm vl) := ⟨(Below.refl _ _).alloc (Nat.le_refl _) _, by simp, by simp⟩
  go_enter Tryz.func59, Tryz.ntmps59
  go_wp2_with fail
  generalize w.alloc (.cells #[.string nm, .string vl, .bool im] 36) = A at *
  generalize w.heap.size = g at *
  refine reg_change (ops' := opsOf 1 Tryz.f59) (by kernel_rfl) ?_
  refine GA1.run ⟨g, nm, vl, A.drew, _⟩ ⟨G0.out.c0, G0.out.c1, fun w => by have := iword w nm hn; rw [hw] at this; exact this, rfl, rfl⟩ A (Below.refl _ _) ?_
  rintro γ1 w1 k1
  have G1 : Hid (Gm w w1 g nm vl) := G0.out.step k1
  clear k1
  simp only [Act.put, List.setIfInBounds_toArray, List.set_cons_zero, List.set_cons_succ]
  go_wp2_with fail
  refine reg_change (ops' := opsOf 2 Tryz.f59) (by kernel_rfl) ?_
  refine GB1.run ⟨g, nm, vl, bA (tmL vl.data.toList), w1.drew, _⟩ ⟨G1.out.c0, G1.out.c1, fun h => ht ((list_bA _ _).1 h), fun w => itrim vl w hv, rfl, rfl⟩ w1 (Below.refl _ _) ?_
  rintro γ2 w2 k2
  have G2 : Hid (Gm w w2 g nm vl) := G1.out.step k2
  clear k2
  simp only [Act.put, List.setIfInBounds_toArray, List.set_cons_zero, List.set_cons_succ]
  go_wp2
  go_ret
  exact ⟨ret_bool HX.out.symm, G2.out.nw⟩
set_option maxHeartbeats 8000000 in
set_option maxRecDepth 100000 in
theorem igd_WB (w : World) (nm vl : ByteArray) (im : Bool) (hn : nm.size ≤ 1048576) (hv : vl.size ≤ 1048576) (hw : wordB nm = false) (ht : tmL vl.data.toList = vl.data.toList) (hc : badL vl.data.toList = true) : Calls Tryz.prog 59 #[.agg #[.string nm, .string vl, .bool im]] w fun e w' => e = .returned (.bool (declB ⟨nm, vl, im⟩)) ∧ Nw w w' := by
  have HX : Hid (declB ⟨nm, vl, im⟩ = false) := declB_name (nameOk_word hw)
  have G0 : Hid (Gm w (w.alloc (.cells #[.string nm, .string vl, .bool im] 36)) w.heap.size nm vl) := ⟨(Below.refl _ _).alloc (Nat.le_refl _) _, by simp, by simp⟩
  go_enter Tryz.func59, Tryz.ntmps59
  go_wp2_with fail
  generalize w.alloc (.cells #[.string nm, .string vl, .bool im] 36) = A at *
  generalize w.heap.size = g at *
  refine reg_change (ops' := opsOf 1 Tryz.f59) (by kernel_rfl) ?_
  refine GA1.run ⟨g, nm, vl, A.drew, _⟩ ⟨G0.out.c0, G0.out.c1, fun w => by have := iword w nm hn; rw [hw] at this; exact this, rfl, rfl⟩ A (Below.refl _ _) ?_
  rintro γ1 w1 k1
  have G1 : Hid (Gm w w1 g nm vl) := G0.out.step k1
  clear k1
  simp only [Act.put, List.setIfInBounds_toArray, List.set_cons_zero, List.set_cons_succ]
  go_wp2_with fail
  refine reg_change (ops' := opsOf 2 Tryz.f59) (by kernel_rfl) ?_
  refine GB2.run ⟨g, nm, vl, bA (tmL vl.data.toList), true, w1.drew, _⟩ ⟨G1.out.c0, G1.out.c1, (list_bA _ _).2 ht, fun w => itrim vl w hv, fun w => by have := icontains vl w hv; rw [hc] at this; exact this, rfl, rfl⟩ w1 (Below.refl _ _) ?_
  rintro γ2 w2 k2
  have G2 : Hid (Gm w w2 g nm vl) := G1.out.step k2
  clear k2
  simp only [Act.put, List.setIfInBounds_toArray, List.set_cons_zero, List.set_cons_succ]
  go_wp2
  go_ret
  exact ⟨ret_bool HX.out.symm, G2.out.nw⟩
set_option maxHeartbeats 8000000 in
set_option maxRecDepth 100000 in
theorem igd_WN (w : World) (nm vl : ByteArray) (im : Bool) (hn : nm.size ≤ 1048576) (hv : vl.size ≤ 1048576) (hw : wordB nm = false) (ht : tmL vl.data.toList = vl.data.toList) (hc : badL vl.data.toList = false) : Calls Tryz.prog 59 #[.agg #[.string nm, .string vl, .bool im]] w fun e w' => e = .returned (.bool (declB ⟨nm, vl, im⟩)) ∧ Nw w w' := by
  have HX : Hid (declB ⟨nm, vl, im⟩ = false) := declB_name (nameOk_word hw)
  have G0 : Hid (Gm w (w.alloc (.cells #[.string nm, .string vl, .bool im] 36)) w.heap.size nm vl) := ⟨(Below.refl _ _).alloc (Nat.le_refl _) _, by simp, by simp⟩
  go_enter Tryz.func59, Tryz.ntmps59
  go_wp2_with fail
  generalize w.alloc (.cells #[.string nm, .string vl, .bool im] 36) = A at *
  generalize w.heap.size = g at *
  refine reg_change (ops' := opsOf 1 Tryz.f59) (by kernel_rfl) ?_
  refine GA1.run ⟨g, nm, vl, A.drew, _⟩ ⟨G0.out.c0, G0.out.c1, fun w => by have := iword w nm hn; rw [hw] at this; exact this, rfl, rfl⟩ A (Below.refl _ _) ?_
  rintro γ1 w1 k1
  have G1 : Hid (Gm w w1 g nm vl) := G0.out.step k1
  clear k1
  simp only [Act.put, List.setIfInBounds_toArray, List.set_cons_zero, List.set_cons_succ]
  go_wp2_with fail
  refine reg_change (ops' := opsOf 2 Tryz.f59) (by kernel_rfl) ?_
  refine GB2.run ⟨g, nm, vl, bA (tmL vl.data.toList), false, w1.drew, _⟩ ⟨G1.out.c0, G1.out.c1, (list_bA _ _).2 ht, fun w => itrim vl w hv, fun w => by have := icontains vl w hv; rw [hc] at this; exact this, rfl, rfl⟩ w1 (Below.refl _ _) ?_
  rintro γ2 w2 k2
  have G2 : Hid (Gm w w2 g nm vl) := G1.out.step k2
  clear k2
  simp only [Act.put, List.setIfInBounds_toArray, List.set_cons_zero, List.set_cons_succ]
  go_wp2
  go_ret
  exact ⟨ret_bool HX.out.symm, G2.out.nw⟩
set_option maxHeartbeats 8000000 in
set_option maxRecDepth 100000 in
theorem igd_LR (w : World) (nm vl : ByteArray) (im : Bool) (hn : nm.size ≤ 1048576) (hv : vl.size ≤ 1048576) (hw : wordB nm = true) (hl : ¬ lowL nm.data.toList = nm.data.toList) (ht : ¬ tmL vl.data.toList = vl.data.toList) : Calls Tryz.prog 59 #[.agg #[.string nm, .string vl, .bool im]] w fun e w' => e = .returned (.bool (declB ⟨nm, vl, im⟩)) ∧ Nw w w' := by
  have HX : Hid (declB ⟨nm, vl, im⟩ = false) := declB_name (nameOk_low hl)
  have HL : Hid (∀ w6, Calls Tryz.prog 101 #[.string nm] w6 fun e w' => e = .returned (.string (bA (lowL nm.data.toList))) ∧ Nw w6 w') := by
    intro w6
    have ha : wordL nm.data.toList = true := by rw [← hw]; exact (wordB_L nm).symm
    refine (Tryz.strings_ToLower_ascii nm w6 (by omega) (word_ascii ha)).mono ?_
    rw [low_lower]
    exact fun e w' h => h
  have hlb : (nm.toList == (bA (lowL nm.data.toList)).toList) = false := beq_eq_false_iff_ne.2 fun h => hl ((list_bA _ _).1 h)
  have G0 : Hid (Gm w (w.alloc (.cells #[.string nm, .string vl, .bool im] 36)) w.heap.size nm vl) := ⟨(Below.refl _ _).alloc (Nat.le_refl _) _, by simp, by simp⟩
  go_enter Tryz.func59, Tryz.ntmps59
  go_wp2_with fail
  generalize w.alloc (.cells #[.string nm, .string vl, .bool im] 36) = A at *
  generalize w.heap.size = g at *
  refine reg_change (ops' := opsOf 1 Tryz.f59) (by kernel_rfl) ?_
  refine GA2.run ⟨g, nm, vl, bA (lowL nm.data.toList), false, A.drew, _⟩ ⟨G0.out.c0, G0.out.c1, hlb, fun w => by have := iword w nm hn; rw [hw] at this; exact this, HL.out, rfl, rfl⟩ A (Below.refl _ _) ?_
  rintro γ1 w1 k1
  have G1 : Hid (Gm w w1 g nm vl) := G0.out.step k1
  clear k1
  simp only [Act.put, List.setIfInBounds_toArray, List.set_cons_zero, List.set_cons_succ]
  go_wp2_with fail
  refine reg_change (ops' := opsOf 2 Tryz.f59) (by kernel_rfl) ?_
  refine GB1.run ⟨g, nm, vl, bA (tmL vl.data.toList), w1.drew, _⟩ ⟨G1.out.c0, G1.out.c1, fun h => ht ((list_bA _ _).1 h), fun w => itrim vl w hv, rfl, rfl⟩ w1 (Below.refl _ _) ?_
  rintro γ2 w2 k2
  have G2 : Hid (Gm w w2 g nm vl) := G1.out.step k2
  clear k2
  simp only [Act.put, List.setIfInBounds_toArray, List.set_cons_zero, List.set_cons_succ]
  go_wp2
  go_ret
  exact ⟨ret_bool HX.out.symm, G2.out.nw⟩
set_option maxHeartbeats 8000000 in
set_option maxRecDepth 100000 in
theorem igd_LB (w : World) (nm vl : ByteArray) (im : Bool) (hn : nm.size ≤ 1048576) (hv : vl.size ≤ 1048576) (hw : wordB nm = true) (hl : ¬ lowL nm.data.toList = nm.data.toList) (ht : tmL vl.data.toList = vl.data.toList) (hc : badL vl.data.toList = true) : Calls Tryz.prog 59 #[.agg #[.string nm, .string vl, .bool im]] w fun e w' => e = .returned (.bool (declB ⟨nm, vl, im⟩)) ∧ Nw w w' := by
  have HX : Hid (declB ⟨nm, vl, im⟩ = false) := declB_name (nameOk_low hl)
  have HL : Hid (∀ w6, Calls Tryz.prog 101 #[.string nm] w6 fun e w' => e = .returned (.string (bA (lowL nm.data.toList))) ∧ Nw w6 w') := by
    intro w6
    have ha : wordL nm.data.toList = true := by rw [← hw]; exact (wordB_L nm).symm
    refine (Tryz.strings_ToLower_ascii nm w6 (by omega) (word_ascii ha)).mono ?_
    rw [low_lower]
    exact fun e w' h => h
  have hlb : (nm.toList == (bA (lowL nm.data.toList)).toList) = false := beq_eq_false_iff_ne.2 fun h => hl ((list_bA _ _).1 h)
  have G0 : Hid (Gm w (w.alloc (.cells #[.string nm, .string vl, .bool im] 36)) w.heap.size nm vl) := ⟨(Below.refl _ _).alloc (Nat.le_refl _) _, by simp, by simp⟩
  go_enter Tryz.func59, Tryz.ntmps59
  go_wp2_with fail
  generalize w.alloc (.cells #[.string nm, .string vl, .bool im] 36) = A at *
  generalize w.heap.size = g at *
  refine reg_change (ops' := opsOf 1 Tryz.f59) (by kernel_rfl) ?_
  refine GA2.run ⟨g, nm, vl, bA (lowL nm.data.toList), false, A.drew, _⟩ ⟨G0.out.c0, G0.out.c1, hlb, fun w => by have := iword w nm hn; rw [hw] at this; exact this, HL.out, rfl, rfl⟩ A (Below.refl _ _) ?_
  rintro γ1 w1 k1
  have G1 : Hid (Gm w w1 g nm vl) := G0.out.step k1
  clear k1
  simp only [Act.put, List.setIfInBounds_toArray, List.set_cons_zero, List.set_cons_succ]
  go_wp2_with fail
  refine reg_change (ops' := opsOf 2 Tryz.f59) (by kernel_rfl) ?_
  refine GB2.run ⟨g, nm, vl, bA (tmL vl.data.toList), true, w1.drew, _⟩ ⟨G1.out.c0, G1.out.c1, (list_bA _ _).2 ht, fun w => itrim vl w hv, fun w => by have := icontains vl w hv; rw [hc] at this; exact this, rfl, rfl⟩ w1 (Below.refl _ _) ?_
  rintro γ2 w2 k2
  have G2 : Hid (Gm w w2 g nm vl) := G1.out.step k2
  clear k2
  simp only [Act.put, List.setIfInBounds_toArray, List.set_cons_zero, List.set_cons_succ]
  go_wp2
  go_ret
  exact ⟨ret_bool HX.out.symm, G2.out.nw⟩
set_option maxHeartbeats 8000000 in
set_option maxRecDepth 100000 in
theorem igd_LN (w : World) (nm vl : ByteArray) (im : Bool) (hn : nm.size ≤ 1048576) (hv : vl.size ≤ 1048576) (hw : wordB nm = true) (hl : ¬ lowL nm.data.toList = nm.data.toList) (ht : tmL vl.data.toList = vl.data.toList) (hc : badL vl.data.toList = false) : Calls Tryz.prog 59 #[.agg #[.string nm, .string vl, .bool im]] w fun e w' => e = .returned (.bool (declB ⟨nm, vl, im⟩)) ∧ Nw w w' := by
  have HX : Hid (declB ⟨nm, vl, im⟩ = false) := declB_name (nameOk_low hl)
  have HL : Hid (∀ w6, Calls Tryz.prog 101 #[.string nm] w6 fun e w' => e = .returned (.string (bA (lowL nm.data.toList))) ∧ Nw w6 w') := by
    intro w6
    have ha : wordL nm.data.toList = true := by rw [← hw]; exact (wordB_L nm).symm
    refine (Tryz.strings_ToLower_ascii nm w6 (by omega) (word_ascii ha)).mono ?_
    rw [low_lower]
    exact fun e w' h => h
  have hlb : (nm.toList == (bA (lowL nm.data.toList)).toList) = false := beq_eq_false_iff_ne.2 fun h => hl ((list_bA _ _).1 h)
  have G0 : Hid (Gm w (w.alloc (.cells #[.string nm, .string vl, .bool im] 36)) w.heap.size nm vl) := ⟨(Below.refl _ _).alloc (Nat.le_refl _) _, by simp, by simp⟩
  go_enter Tryz.func59, Tryz.ntmps59
  go_wp2_with fail
  generalize w.alloc (.cells #[.string nm, .string vl, .bool im] 36) = A at *
  generalize w.heap.size = g at *
  refine reg_change (ops' := opsOf 1 Tryz.f59) (by kernel_rfl) ?_
  refine GA2.run ⟨g, nm, vl, bA (lowL nm.data.toList), false, A.drew, _⟩ ⟨G0.out.c0, G0.out.c1, hlb, fun w => by have := iword w nm hn; rw [hw] at this; exact this, HL.out, rfl, rfl⟩ A (Below.refl _ _) ?_
  rintro γ1 w1 k1
  have G1 : Hid (Gm w w1 g nm vl) := G0.out.step k1
  clear k1
  simp only [Act.put, List.setIfInBounds_toArray, List.set_cons_zero, List.set_cons_succ]
  go_wp2_with fail
  refine reg_change (ops' := opsOf 2 Tryz.f59) (by kernel_rfl) ?_
  refine GB2.run ⟨g, nm, vl, bA (tmL vl.data.toList), false, w1.drew, _⟩ ⟨G1.out.c0, G1.out.c1, (list_bA _ _).2 ht, fun w => itrim vl w hv, fun w => by have := icontains vl w hv; rw [hc] at this; exact this, rfl, rfl⟩ w1 (Below.refl _ _) ?_
  rintro γ2 w2 k2
  have G2 : Hid (Gm w w2 g nm vl) := G1.out.step k2
  clear k2
  simp only [Act.put, List.setIfInBounds_toArray, List.set_cons_zero, List.set_cons_succ]
  go_wp2
  go_ret
  exact ⟨ret_bool HX.out.symm, G2.out.nw⟩
set_option maxHeartbeats 8000000 in
set_option maxRecDepth 100000 in
theorem igd_TR (w : World) (nm vl : ByteArray) (im : Bool) (hn : nm.size ≤ 1048576) (hv : vl.size ≤ 1048576) (hw : wordB nm = true) (hl : lowL nm.data.toList = nm.data.toList) (ht : ¬ tmL vl.data.toList = vl.data.toList) : Calls Tryz.prog 59 #[.agg #[.string nm, .string vl, .bool im]] w fun e w' => e = .returned (.bool (declB ⟨nm, vl, im⟩)) ∧ Nw w w' := by
  have HX : Hid (declB ⟨nm, vl, im⟩ = false) := declB_whole (wholeOk_trim ht)
  have HL : Hid (∀ w6, Calls Tryz.prog 101 #[.string nm] w6 fun e w' => e = .returned (.string (bA (lowL nm.data.toList))) ∧ Nw w6 w') := by
    intro w6
    have ha : wordL nm.data.toList = true := by rw [← hw]; exact (wordB_L nm).symm
    refine (Tryz.strings_ToLower_ascii nm w6 (by omega) (word_ascii ha)).mono ?_
    rw [low_lower]
    exact fun e w' h => h
  have hlb : (nm.toList == (bA (lowL nm.data.toList)).toList) = true := beq_iff_eq.2 ((list_bA _ _).2 hl)
  have G0 : Hid (Gm w (w.alloc (.cells #[.string nm, .string vl, .bool im] 36)) w.heap.size nm vl) := ⟨(Below.refl _ _).alloc (Nat.le_refl _) _, by simp, by simp⟩
  go_enter Tryz.func59, Tryz.ntmps59
  go_wp2_with fail
  generalize w.alloc (.cells #[.string nm, .string vl, .bool im] 36) = A at *
  generalize w.heap.size = g at *
  refine reg_change (ops' := opsOf 1 Tryz.f59) (by kernel_rfl) ?_
  refine GA2.run ⟨g, nm, vl, bA (lowL nm.data.toList), true, A.drew, _⟩ ⟨G0.out.c0, G0.out.c1, hlb, fun w => by have := iword w nm hn; rw [hw] at this; exact this, HL.out, rfl, rfl⟩ A (Below.refl _ _) ?_
  rintro γ1 w1 k1
  have G1 : Hid (Gm w w1 g nm vl) := G0.out.step k1
  clear k1
  simp only [Act.put, List.setIfInBounds_toArray, List.set_cons_zero, List.set_cons_succ]
  go_wp2_with fail
  refine reg_change (ops' := opsOf 2 Tryz.f59) (by kernel_rfl) ?_
  refine GB1.run ⟨g, nm, vl, bA (tmL vl.data.toList), w1.drew, _⟩ ⟨G1.out.c0, G1.out.c1, fun h => ht ((list_bA _ _).1 h), fun w => itrim vl w hv, rfl, rfl⟩ w1 (Below.refl _ _) ?_
  rintro γ2 w2 k2
  have G2 : Hid (Gm w w2 g nm vl) := G1.out.step k2
  clear k2
  simp only [Act.put, List.setIfInBounds_toArray, List.set_cons_zero, List.set_cons_succ]
  go_wp2
  go_ret
  exact ⟨ret_bool HX.out.symm, G2.out.nw⟩
set_option maxHeartbeats 8000000 in
set_option maxRecDepth 100000 in
theorem igd_TB (w : World) (nm vl : ByteArray) (im : Bool) (hn : nm.size ≤ 1048576) (hv : vl.size ≤ 1048576) (hw : wordB nm = true) (hl : lowL nm.data.toList = nm.data.toList) (ht : tmL vl.data.toList = vl.data.toList) (hc : badL vl.data.toList = true) : Calls Tryz.prog 59 #[.agg #[.string nm, .string vl, .bool im]] w fun e w' => e = .returned (.bool (declB ⟨nm, vl, im⟩)) ∧ Nw w w' := by
  have HX : Hid (declB ⟨nm, vl, im⟩ = false) := declB_whole (wholeOk_bad hc)
  have HL : Hid (∀ w6, Calls Tryz.prog 101 #[.string nm] w6 fun e w' => e = .returned (.string (bA (lowL nm.data.toList))) ∧ Nw w6 w') := by
    intro w6
    have ha : wordL nm.data.toList = true := by rw [← hw]; exact (wordB_L nm).symm
    refine (Tryz.strings_ToLower_ascii nm w6 (by omega) (word_ascii ha)).mono ?_
    rw [low_lower]
    exact fun e w' h => h
  have hlb : (nm.toList == (bA (lowL nm.data.toList)).toList) = true := beq_iff_eq.2 ((list_bA _ _).2 hl)
  have G0 : Hid (Gm w (w.alloc (.cells #[.string nm, .string vl, .bool im] 36)) w.heap.size nm vl) := ⟨(Below.refl _ _).alloc (Nat.le_refl _) _, by simp, by simp⟩
  go_enter Tryz.func59, Tryz.ntmps59
  go_wp2_with fail
  generalize w.alloc (.cells #[.string nm, .string vl, .bool im] 36) = A at *
  generalize w.heap.size = g at *
  refine reg_change (ops' := opsOf 1 Tryz.f59) (by kernel_rfl) ?_
  refine GA2.run ⟨g, nm, vl, bA (lowL nm.data.toList), true, A.drew, _⟩ ⟨G0.out.c0, G0.out.c1, hlb, fun w => by have := iword w nm hn; rw [hw] at this; exact this, HL.out, rfl, rfl⟩ A (Below.refl _ _) ?_
  rintro γ1 w1 k1
  have G1 : Hid (Gm w w1 g nm vl) := G0.out.step k1
  clear k1
  simp only [Act.put, List.setIfInBounds_toArray, List.set_cons_zero, List.set_cons_succ]
  go_wp2_with fail
  refine reg_change (ops' := opsOf 2 Tryz.f59) (by kernel_rfl) ?_
  refine GB2.run ⟨g, nm, vl, bA (tmL vl.data.toList), true, w1.drew, _⟩ ⟨G1.out.c0, G1.out.c1, (list_bA _ _).2 ht, fun w => itrim vl w hv, fun w => by have := icontains vl w hv; rw [hc] at this; exact this, rfl, rfl⟩ w1 (Below.refl _ _) ?_
  rintro γ2 w2 k2
  have G2 : Hid (Gm w w2 g nm vl) := G1.out.step k2
  clear k2
  simp only [Act.put, List.setIfInBounds_toArray, List.set_cons_zero, List.set_cons_succ]
  go_wp2
  go_ret
  exact ⟨ret_bool HX.out.symm, G2.out.nw⟩
set_option maxHeartbeats 8000000 in
set_option maxRecDepth 100000 in
theorem igd_TN (w : World) (nm vl : ByteArray) (im : Bool) (hn : nm.size ≤ 1048576) (hv : vl.size ≤ 1048576) (hw : wordB nm = true) (hl : lowL nm.data.toList = nm.data.toList) (ht : tmL vl.data.toList = vl.data.toList) (hc : badL vl.data.toList = false) : Calls Tryz.prog 59 #[.agg #[.string nm, .string vl, .bool im]] w fun e w' => e = .returned (.bool (declB ⟨nm, vl, im⟩)) ∧ Nw w w' := by
  have HX : Hid (declB ⟨nm, vl, im⟩ = fit60 vl.data.toList) := declB_fit (nameOk_yes hw hl) (wholeOk_yes ht hc)
  have HL : Hid (∀ w6, Calls Tryz.prog 101 #[.string nm] w6 fun e w' => e = .returned (.string (bA (lowL nm.data.toList))) ∧ Nw w6 w') := by
    intro w6
    have ha : wordL nm.data.toList = true := by rw [← hw]; exact (wordB_L nm).symm
    refine (Tryz.strings_ToLower_ascii nm w6 (by omega) (word_ascii ha)).mono ?_
    rw [low_lower]
    exact fun e w' h => h
  have hlb : (nm.toList == (bA (lowL nm.data.toList)).toList) = true := beq_iff_eq.2 ((list_bA _ _).2 hl)
  have G0 : Hid (Gm w (w.alloc (.cells #[.string nm, .string vl, .bool im] 36)) w.heap.size nm vl) := ⟨(Below.refl _ _).alloc (Nat.le_refl _) _, by simp, by simp⟩
  go_enter Tryz.func59, Tryz.ntmps59
  go_wp2_with fail
  generalize w.alloc (.cells #[.string nm, .string vl, .bool im] 36) = A at *
  generalize w.heap.size = g at *
  refine reg_change (ops' := opsOf 1 Tryz.f59) (by kernel_rfl) ?_
  refine GA2.run ⟨g, nm, vl, bA (lowL nm.data.toList), true, A.drew, _⟩ ⟨G0.out.c0, G0.out.c1, hlb, fun w => by have := iword w nm hn; rw [hw] at this; exact this, HL.out, rfl, rfl⟩ A (Below.refl _ _) ?_
  rintro γ1 w1 k1
  have G1 : Hid (Gm w w1 g nm vl) := G0.out.step k1
  clear k1
  simp only [Act.put, List.setIfInBounds_toArray, List.set_cons_zero, List.set_cons_succ]
  go_wp2_with fail
  refine reg_change (ops' := opsOf 2 Tryz.f59) (by kernel_rfl) ?_
  refine GB2.run ⟨g, nm, vl, bA (tmL vl.data.toList), false, w1.drew, _⟩ ⟨G1.out.c0, G1.out.c1, (list_bA _ _).2 ht, fun w => itrim vl w hv, fun w => by have := icontains vl w hv; rw [hc] at this; exact this, rfl, rfl⟩ w1 (Below.refl _ _) ?_
  rintro γ2 w2 k2
  have G2 : Hid (Gm w w2 g nm vl) := G1.out.step k2
  clear k2
  simp only [Act.put, List.setIfInBounds_toArray, List.set_cons_zero, List.set_cons_succ]
  have d1 := G2.out.c1
  go_wp2_with (go_at_call 104; refine (igvs _ vl hv).mono ?_; rintro e w3 ⟨rfl, hq⟩; have hq2 := hq.symm; clear hq; subst hq2)
  go_ret
  exact ⟨ret_bool HX.out.symm, G2.out.nw⟩
theorem igoodDecl : GdI := by
  intro w d hn hv
  obtain ⟨nm, vl, im⟩ := d
  by_cases ht : tmL vl.data.toList = vl.data.toList
  · cases hc : badL vl.data.toList with
    | true =>
      cases hw : wordB nm with
      | false => exact igd_WB w nm vl im hn hv hw ht hc
      | true =>
        by_cases hl : lowL nm.data.toList = nm.data.toList
        · exact igd_TB w nm vl im hn hv hw hl ht hc
        · exact igd_LB w nm vl im hn hv hw hl ht hc
    | false =>
      cases hw : wordB nm with
      | false => exact igd_WN w nm vl im hn hv hw ht hc
      | true =>
        by_cases hl : lowL nm.data.toList = nm.data.toList
        · exact igd_TN w nm vl im hn hv hw hl ht hc
        · exact igd_LN w nm vl im hn hv hw hl ht hc
  · cases hw : wordB nm with
    | false => exact igd_WR w nm vl im hn hv hw ht
    | true =>
      by_cases hl : lowL nm.data.toList = nm.data.toList
      · exact igd_TR w nm vl im hn hv hw hl ht
      · exact igd_LR w nm vl im hn hv hw hl ht
end Go.Proofs.YtnkmdmmlpidcmaaGreatDoor
namespace Go.Proofs.YtnkmdmmlpidcmaaGreatDoor
open Go.ChangeShapes Go.WideShapes Go.ChangeAt Go.RowKit
set_option linter.unusedVariables false
set_option linter.unusedSimpArgs false

structure SA1 where
 g : Nat
 nm : ByteArray
 vl : ByteArray
 W : World
 a0 : Act
structure SA1Ok (X : SA1) : Prop where
 c0 : X.W.cell? ⟨X.g, 0, none⟩ = some (.string X.nm)
 c1 : X.W.cell? ⟨X.g, 1, none⟩ = some (.string X.vl)
 k2 : ∀ w, Calls Tryz.prog 64 #[.string X.nm] w fun e w' => e = .returned (.bool false) ∧ Nw w w'
 e1 : X.a0.eval (.tmp 1) = .pointer (some ⟨X.g, 0, none⟩)
 sz : X.a0.tmps.size = 48
def SA1.val0 (X : SA1) : Nat → Value
 | 1 => .pointer (some ⟨X.g, 0, none⟩)
 | 4 => .pointer (some ⟨X.g, 0, none⟩)
 | 5 => .string X.nm
 | 6 => .bool false
 | 7 => .bool true
 | 8 => .bool true
 | 15 => .bool true
 | 16 => .bool true
 | 22 => .bool true
 | 23 => .bool true
 | 30 => .bool true
 | _ => undef
def SA1.av : Nat → Option Nat
 | _ => none
def SA1.acts : List Nat := []
/-- The world, by how many of the acting ones have come up. -/
def SA1.Wd (X : SA1) : Nat → (Nat → Value) → World → Prop
  | _, _, w => Nw X.W w
theorem SA1.kp {X : SA1} {n : Nat} {γ : Nat → Value} {w : World} (h : X.Wd n γ w) : Nw X.W w := h
theorem SA1.keep {X : SA1} {n : Nat} {γ : Nat → Value} {w w' : World} (h : X.Wd n γ w) (k : Nw w w') : X.Wd n γ w' := Nw.trans h k
def SA1.L : List (Option Nat × Op × Option (Nat × Bool)) := [
 (some 4, .fieldAddr 36 (.tmp 1) 0, none),
 (some 5, .load 9 (.tmp 4), none),
 (some 6, .call { callee := .value (.func 64), args := #[(.tmp 5)], argTypes := #[9] }, none),
 (some 7, .unOp .not 4 (.tmp 6), none),
 (some 8, .move (.tmp 7), none),
 (some 9, .fieldAddr 36 (.tmp 1) 0, some (4, false)),
 (some 10, .load 9 (.tmp 9), some (4, false)),
 (some 11, .call { callee := .value (.func 65), args := #[(.tmp 10)], argTypes := #[9] }, some (4, false)),
 (some 12, .fieldAddr 36 (.tmp 1) 0, some (4, false)),
 (some 13, .load 9 (.tmp 12), some (4, false)),
 (some 14, .binOp .neq 9 (.tmp 11) (.tmp 13) 9, some (4, false)),
 (some 15, .pick (.tmp 8) (.const (.bool true)) (.tmp 14), none),
 (some 16, .move (.tmp 15), none),
 (some 17, .fieldAddr 36 (.tmp 1) 1, some (12, false)),
 (some 18, .load 9 (.tmp 17), some (12, false)),
 (some 19, .call { callee := .builtin .len, args := #[(.tmp 18)], argTypes := #[9] }, some (12, false)),
 (some 20, .call { callee := .value (.func 61), args := #[(.tmp 19), (.const (.int .i64 1)), (.const (.int .i64 60))], argTypes := #[3, 3, 3] }, some (12, false)),
 (some 21, .unOp .not 4 (.tmp 20), some (12, false)),
 (some 22, .pick (.tmp 16) (.const (.bool true)) (.tmp 21), none),
 (some 23, .move (.tmp 22), none),
 (some 24, .fieldAddr 36 (.tmp 1) 1, some (19, false)),
 (some 25, .load 9 (.tmp 24), some (19, false)),
 (some 26, .call { callee := .value (.func 66), args := #[(.tmp 25)], argTypes := #[9] }, some (19, false)),
 (some 27, .fieldAddr 36 (.tmp 1) 1, some (19, false)),
 (some 28, .load 9 (.tmp 27), some (19, false)),
 (some 29, .binOp .neq 9 (.tmp 26) (.tmp 28) 9, some (19, false)),
 (some 30, .pick (.tmp 23) (.const (.bool true)) (.tmp 29), none)]
theorem SA1.isL : (opsOf 1 Tryz.f30).toList.map tri = SA1.L := by kernel_rfl
theorem SA1.ini {X : SA1} (ok : SA1Ok X) : ∀ n ∈ [1], X.a0.eval (.tmp n) = X.val0 n := by
 simp only [List.forall_mem_cons]
 exact ⟨ok.e1, List.forall_mem_nil _⟩
abbrev SA1.St (X : SA1) (Q : Exit → Act → World → Prop) (i : Nat) : Prop := StepG (opsOf 1 Tryz.f30) SA1.acts SA1.av X.val0 X.Wd X.a0 Q i
theorem SA1.plain (X : SA1) (ok : SA1Ok X) {Q : Exit → Act → World → Prop} : ∀ i ∈ [0, 1, 3, 4, 11, 12, 18, 19, 26], SA1.St X Q i := by
 simp only [List.forall_mem_cons]
 refine ⟨?_, ?_, ?_, ?_, ?_, ?_, ?_, ?_, ?_, List.forall_mem_nil _⟩
 all_goals
  refine st_plain SA1.isL (SA1.ini ok) ok.sz rfl (by kernel_rfl) ?_
  intro γ w n o hW hop
  have hc_c0 := rq_atN (SA1.kp hW) ok.c0
  unfold execOp
  rw [hop]
  simp [envR, valG, SA1.av, SA1.val0, hc_c0, go_sem]
theorem SA1.skip (X : SA1) (ok : SA1Ok X) {Q : Exit → Act → World → Prop} : ∀ i ∈ [5, 6, 7, 8, 9, 10, 13, 14, 15, 16, 17, 20, 21, 22, 23, 24, 25], SA1.St X Q i := by
 simp only [List.forall_mem_cons]
 refine ⟨?_, ?_, ?_, ?_, ?_, ?_, ?_, ?_, ?_, ?_, ?_, ?_, ?_, ?_, ?_, ?_, ?_, List.forall_mem_nil _⟩
 all_goals
  exact st_plainS SA1.isL (SA1.ini ok) ok.sz rfl rfl (Or.inl rfl) (by kernel_rfl) rfl
theorem SA1.size : (opsOf 1 Tryz.f30).size = 27 := by kernel_rfl
theorem SA1.rest (X : SA1) (ok : SA1Ok X) {Q : Exit → Act → World → Prop} : ∀ i ∈ [2], SA1.St X Q i := by
 simp only [List.forall_mem_cons]
 exact ⟨st_callKN SA1.isL (SA1.ini ok) ok.sz rfl (by kernel_rfl) (fun _ _ => by simp [go_sem]) (fun γ w n hW => ok.k2 w) (fun _ _ _ _ hW hk => SA1.keep hW hk), List.forall_mem_nil _⟩
theorem SA1.steps (X : SA1) (ok : SA1Ok X) {Q : Exit → Act → World → Prop} (i : Nat) (hi : i < (opsOf 1 Tryz.f30).size) : SA1.St X Q i := by
 rw [SA1.size] at hi
 rcases (by decide : ∀ i, i < 27 → i ∈ [0, 1, 3, 4, 11, 12, 18, 19, 26] ∨ i ∈ [5, 6, 7, 8, 9, 10, 13, 14, 15, 16, 17, 20, 21, 22, 23, 24, 25] ∨ i ∈ [2]) i hi with h | h | h
 · exact SA1.plain X ok i h
 · exact SA1.skip X ok i h
 · exact SA1.rest X ok i h
/-- The region, whatever order comes up. -/
theorem SA1.run (X : SA1) (ok : SA1Ok X) {Q : Exit → Act → World → Prop} (w : World) (h0 : X.Wd 0 (fun _ => undef) w.drew) (hend : ∀ (γ : Nat → Value) w', X.Wd 0 γ w' → Q .normal (((((((((((((((((((((((((((X.a0.put (some 4) (.pointer (some ⟨X.g, 0, none⟩))).put (some 5) (.string X.nm)).put (some 6) (.bool false)).put (some 7) (.bool true)).put (some 8) (.bool true)).put (some 9) (undef)).put (some 10) (undef)).put (some 11) (undef)).put (some 12) (undef)).put (some 13) (undef)).put (some 14) (undef)).put (some 15) (.bool true)).put (some 16) (.bool true)).put (some 17) (undef)).put (some 18) (undef)).put (some 19) (undef)).put (some 20) (undef)).put (some 21) (undef)).put (some 22) (.bool true)).put (some 23) (.bool true)).put (some 24) (undef)).put (some 25) (undef)).put (some 26) (undef)).put (some 27) (undef)).put (some 28) (undef)).put (some 29) (undef)).put (some 30) (.bool true)) w') : (Code.region 1 (opsOf 1 Tryz.f30) true).wp Tryz.prog Q X.a0 w := by
 refine reg_act (acts := SA1.acts) (av := SA1.av) (val0 := X.val0) (Wd := X.Wd) (by kernel_rfl) (by kernel_rfl) (by rw [SA1.size]; decide) (fun i hi => SA1.steps X ok i hi) _ h0 ?_
 intro γ w' h
 exact end_at (hend γ w' h) (by kernel_rfl)
structure SA2 where
 g : Nat
 nm : ByteArray
 vl : ByteArray
 lw : ByteArray
 W : World
 a0 : Act
structure SA2Ok (X : SA2) : Prop where
 c0 : X.W.cell? ⟨X.g, 0, none⟩ = some (.string X.nm)
 c1 : X.W.cell? ⟨X.g, 1, none⟩ = some (.string X.vl)
 hl : ¬ X.lw.toList = X.nm.toList
 k2 : ∀ w, Calls Tryz.prog 64 #[.string X.nm] w fun e w' => e = .returned (.bool true) ∧ Nw w w'
 k7 : ∀ w, Calls Tryz.prog 65 #[.string X.nm] w fun e w' => e = .returned (.string X.lw) ∧ Nw w w'
 e1 : X.a0.eval (.tmp 1) = .pointer (some ⟨X.g, 0, none⟩)
 sz : X.a0.tmps.size = 48
def SA2.val0 (X : SA2) : Nat → Value
 | 1 => .pointer (some ⟨X.g, 0, none⟩)
 | 4 => .pointer (some ⟨X.g, 0, none⟩)
 | 5 => .string X.nm
 | 6 => .bool true
 | 7 => .bool false
 | 8 => .bool false
 | 9 => .pointer (some ⟨X.g, 0, none⟩)
 | 10 => .string X.nm
 | 11 => .string X.lw
 | 12 => .pointer (some ⟨X.g, 0, none⟩)
 | 13 => .string X.nm
 | 14 => .bool true
 | 15 => .bool true
 | 16 => .bool true
 | 22 => .bool true
 | 23 => .bool true
 | 30 => .bool true
 | _ => undef
def SA2.av : Nat → Option Nat
 | _ => none
def SA2.acts : List Nat := []
/-- The world, by how many of the acting ones have come up. -/
def SA2.Wd (X : SA2) : Nat → (Nat → Value) → World → Prop
  | _, _, w => Nw X.W w
theorem SA2.kp {X : SA2} {n : Nat} {γ : Nat → Value} {w : World} (h : X.Wd n γ w) : Nw X.W w := h
theorem SA2.keep {X : SA2} {n : Nat} {γ : Nat → Value} {w w' : World} (h : X.Wd n γ w) (k : Nw w w') : X.Wd n γ w' := Nw.trans h k
theorem SA2.ini {X : SA2} (ok : SA2Ok X) : ∀ n ∈ [1], X.a0.eval (.tmp n) = X.val0 n := by
 simp only [List.forall_mem_cons]
 exact ⟨ok.e1, List.forall_mem_nil _⟩
abbrev SA2.St (X : SA2) (Q : Exit → Act → World → Prop) (i : Nat) : Prop := StepG (opsOf 1 Tryz.f30) SA2.acts SA2.av X.val0 X.Wd X.a0 Q i
theorem SA2.plain (X : SA2) (ok : SA2Ok X) {Q : Exit → Act → World → Prop} : ∀ i ∈ [0, 1, 3, 4, 11, 12, 18, 19, 26], SA2.St X Q i := by
 simp only [List.forall_mem_cons]
 refine ⟨?_, ?_, ?_, ?_, ?_, ?_, ?_, ?_, ?_, List.forall_mem_nil _⟩
 all_goals
  refine st_plain SA1.isL (SA2.ini ok) ok.sz rfl (by kernel_rfl) ?_
  intro γ w n o hW hop
  have hc_c0 := rq_atN (SA2.kp hW) ok.c0
  unfold execOp
  rw [hop]
  simp [envR, valG, SA2.av, SA2.val0, hc_c0, ok.hl, go_sem]
theorem SA2.want (X : SA2) (ok : SA2Ok X) {Q : Exit → Act → World → Prop} : ∀ i ∈ [5, 6, 8, 9, 10], SA2.St X Q i := by
 simp only [List.forall_mem_cons]
 refine ⟨?_, ?_, ?_, ?_, ?_, List.forall_mem_nil _⟩
 all_goals
  refine st_plainW SA1.isL (SA2.ini ok) ok.sz rfl rfl rfl (by kernel_rfl) ?_
  intro γ w n o hW hop
  have hc_c0 := rq_atN (SA2.kp hW) ok.c0
  unfold execOp
  rw [hop]
  simp [envR, valG, SA2.av, SA2.val0, hc_c0, ok.hl, go_sem]
theorem SA2.skip (X : SA2) (ok : SA2Ok X) {Q : Exit → Act → World → Prop} : ∀ i ∈ [13, 14, 15, 16, 17, 20, 21, 22, 23, 24, 25], SA2.St X Q i := by
 simp only [List.forall_mem_cons]
 refine ⟨?_, ?_, ?_, ?_, ?_, ?_, ?_, ?_, ?_, ?_, ?_, List.forall_mem_nil _⟩
 all_goals
  exact st_plainS SA1.isL (SA2.ini ok) ok.sz rfl rfl (Or.inl rfl) (by kernel_rfl) rfl
theorem SA2.s7 (X : SA2) (ok : SA2Ok X) {Q : Exit → Act → World → Prop} : SA2.St X Q 7 := by
 intro γ listed a w o hF hC hW h1 ho h2
 obtain ⟨hd, hop, hg⟩ := fieldsL SA1.isL (i := 7) rfl ho
 have eg : a.eval (.tmp 8) = .bool false := known hF ho h2 (SA2.ini ok) ok.sz (by kernel_rfl)
 have hw := wanted_of (ops := (opsOf 1 Tryz.f30)) hg (yl_of (by kernel_rfl : dstOf (opsOf 1 Tryz.f30) 4 = some 8) (by rw [hF.tsize, ok.sz]; decide) eg)
 replace hw : Region.wanted o (yielded (opsOf 1 Tryz.f30) a.tmps) = true := hw
 have e10 : a.eval (.tmp 10) = .string X.nm := known hF ho h2 (SA2.ini ok) ok.sz (by kernel_rfl)
 have ef : a.eval (.func 65) = .func (.func 65) #[] #[] := rfl
 refine st_callWN hF hC hW ho h2 (by decide) hd hw rfl (f := 65) (args := #[.string X.nm]) ?_ ?_ ?_
 · generalize a.eval = ρ at e10 ef ⊢
   unfold execOp
   rw [hop]
   simp [e10, ef, go_sem]
 ·exact ok.k7 w
 ·intro w' hk; exact SA2.keep hW hk
theorem SA2.rest (X : SA2) (ok : SA2Ok X) {Q : Exit → Act → World → Prop} : ∀ i ∈ [2, 7], SA2.St X Q i := by
 simp only [List.forall_mem_cons]
 exact ⟨st_callKN SA1.isL (SA2.ini ok) ok.sz rfl (by kernel_rfl) (fun _ _ => by simp [go_sem]) (fun γ w n hW => ok.k2 w) (fun _ _ _ _ hW hk => SA2.keep hW hk),
  SA2.s7 X ok, List.forall_mem_nil _⟩
theorem SA2.steps (X : SA2) (ok : SA2Ok X) {Q : Exit → Act → World → Prop} (i : Nat) (hi : i < (opsOf 1 Tryz.f30).size) : SA2.St X Q i := by
 rw [SA1.size] at hi
 rcases (by decide : ∀ i, i < 27 → i ∈ [0, 1, 3, 4, 11, 12, 18, 19, 26] ∨ i ∈ [5, 6, 8, 9, 10] ∨ i ∈ [13, 14, 15, 16, 17, 20, 21, 22, 23, 24, 25] ∨ i ∈ [2, 7]) i hi with h | h | h | h
 · exact SA2.plain X ok i h
 · exact SA2.want X ok i h
 · exact SA2.skip X ok i h
 · exact SA2.rest X ok i h
/-- The region, whatever order comes up. -/
theorem SA2.run (X : SA2) (ok : SA2Ok X) {Q : Exit → Act → World → Prop} (w : World) (h0 : X.Wd 0 (fun _ => undef) w.drew) (hend : ∀ (γ : Nat → Value) w', X.Wd 0 γ w' → Q .normal (((((((((((((((((((((((((((X.a0.put (some 4) (.pointer (some ⟨X.g, 0, none⟩))).put (some 5) (.string X.nm)).put (some 6) (.bool true)).put (some 7) (.bool false)).put (some 8) (.bool false)).put (some 9) (.pointer (some ⟨X.g, 0, none⟩))).put (some 10) (.string X.nm)).put (some 11) (.string X.lw)).put (some 12) (.pointer (some ⟨X.g, 0, none⟩))).put (some 13) (.string X.nm)).put (some 14) (.bool true)).put (some 15) (.bool true)).put (some 16) (.bool true)).put (some 17) (undef)).put (some 18) (undef)).put (some 19) (undef)).put (some 20) (undef)).put (some 21) (undef)).put (some 22) (.bool true)).put (some 23) (.bool true)).put (some 24) (undef)).put (some 25) (undef)).put (some 26) (undef)).put (some 27) (undef)).put (some 28) (undef)).put (some 29) (undef)).put (some 30) (.bool true)) w') : (Code.region 1 (opsOf 1 Tryz.f30) true).wp Tryz.prog Q X.a0 w := by
 refine reg_act (acts := SA2.acts) (av := SA2.av) (val0 := X.val0) (Wd := X.Wd) (by kernel_rfl) (by kernel_rfl) (by rw [SA1.size]; decide) (fun i hi => SA2.steps X ok i hi) _ h0 ?_
 intro γ w' h
 exact end_at (hend γ w' h) (by kernel_rfl)
structure SA3 where
 g : Nat
 nm : ByteArray
 vl : ByteArray
 lw : ByteArray
 W : World
 a0 : Act
structure SA3Ok (X : SA3) : Prop where
 c0 : X.W.cell? ⟨X.g, 0, none⟩ = some (.string X.nm)
 c1 : X.W.cell? ⟨X.g, 1, none⟩ = some (.string X.vl)
 hl : X.lw.toList = X.nm.toList
 k2 : ∀ w, Calls Tryz.prog 64 #[.string X.nm] w fun e w' => e = .returned (.bool true) ∧ Nw w w'
 k7 : ∀ w, Calls Tryz.prog 65 #[.string X.nm] w fun e w' => e = .returned (.string X.lw) ∧ Nw w w'
 k16 : ∀ w, Calls Tryz.prog 61 #[.int .i64 (X.vl.size : Int), .int .i64 1, .int .i64 60] w fun e w' => e = .returned (.bool false) ∧ Nw w w'
 e1 : X.a0.eval (.tmp 1) = .pointer (some ⟨X.g, 0, none⟩)
 sz : X.a0.tmps.size = 48
def SA3.val0 (X : SA3) : Nat → Value
 | 1 => .pointer (some ⟨X.g, 0, none⟩)
 | 4 => .pointer (some ⟨X.g, 0, none⟩)
 | 5 => .string X.nm
 | 6 => .bool true
 | 7 => .bool false
 | 8 => .bool false
 | 9 => .pointer (some ⟨X.g, 0, none⟩)
 | 10 => .string X.nm
 | 11 => .string X.lw
 | 12 => .pointer (some ⟨X.g, 0, none⟩)
 | 13 => .string X.nm
 | 14 => .bool false
 | 15 => .bool false
 | 16 => .bool false
 | 17 => .pointer (some ⟨X.g, 1, none⟩)
 | 18 => .string X.vl
 | 19 => .int .i64 (X.vl.size : Int)
 | 20 => .bool false
 | 21 => .bool true
 | 22 => .bool true
 | 23 => .bool true
 | 30 => .bool true
 | _ => undef
def SA3.av : Nat → Option Nat
 | _ => none
def SA3.acts : List Nat := []
/-- The world, by how many of the acting ones have come up. -/
def SA3.Wd (X : SA3) : Nat → (Nat → Value) → World → Prop
  | _, _, w => Nw X.W w
theorem SA3.kp {X : SA3} {n : Nat} {γ : Nat → Value} {w : World} (h : X.Wd n γ w) : Nw X.W w := h
theorem SA3.keep {X : SA3} {n : Nat} {γ : Nat → Value} {w w' : World} (h : X.Wd n γ w) (k : Nw w w') : X.Wd n γ w' := Nw.trans h k
theorem SA3.ini {X : SA3} (ok : SA3Ok X) : ∀ n ∈ [1], X.a0.eval (.tmp n) = X.val0 n := by
 simp only [List.forall_mem_cons]
 exact ⟨ok.e1, List.forall_mem_nil _⟩
abbrev SA3.St (X : SA3) (Q : Exit → Act → World → Prop) (i : Nat) : Prop := StepG (opsOf 1 Tryz.f30) SA3.acts SA3.av X.val0 X.Wd X.a0 Q i
theorem SA3.plain (X : SA3) (ok : SA3Ok X) {Q : Exit → Act → World → Prop} : ∀ i ∈ [0, 1, 3, 4, 11, 12, 18, 19, 26], SA3.St X Q i := by
 simp only [List.forall_mem_cons]
 refine ⟨?_, ?_, ?_, ?_, ?_, ?_, ?_, ?_, ?_, List.forall_mem_nil _⟩
 all_goals
  refine st_plain SA1.isL (SA3.ini ok) ok.sz rfl (by kernel_rfl) ?_
  intro γ w n o hW hop
  have hc_c0 := rq_atN (SA3.kp hW) ok.c0
  have hc_c1 := rq_atN (SA3.kp hW) ok.c1
  unfold execOp
  rw [hop]
  simp [envR, valG, SA3.av, SA3.val0, hc_c0, ok.hl, hc_c1, go_sem]
theorem SA3.want (X : SA3) (ok : SA3Ok X) {Q : Exit → Act → World → Prop} : ∀ i ∈ [5, 6, 8, 9, 10, 13, 14, 15, 17], SA3.St X Q i := by
 simp only [List.forall_mem_cons]
 refine ⟨?_, ?_, ?_, ?_, ?_, ?_, ?_, ?_, ?_, List.forall_mem_nil _⟩
 all_goals
  refine st_plainW SA1.isL (SA3.ini ok) ok.sz rfl rfl rfl (by kernel_rfl) ?_
  intro γ w n o hW hop
  have hc_c0 := rq_atN (SA3.kp hW) ok.c0
  have hc_c1 := rq_atN (SA3.kp hW) ok.c1
  unfold execOp
  rw [hop]
  simp [envR, valG, SA3.av, SA3.val0, hc_c0, ok.hl, hc_c1, go_sem]
theorem SA3.skip (X : SA3) (ok : SA3Ok X) {Q : Exit → Act → World → Prop} : ∀ i ∈ [20, 21, 22, 23, 24, 25], SA3.St X Q i := by
 simp only [List.forall_mem_cons]
 refine ⟨?_, ?_, ?_, ?_, ?_, ?_, List.forall_mem_nil _⟩
 all_goals
  exact st_plainS SA1.isL (SA3.ini ok) ok.sz rfl rfl (Or.inl rfl) (by kernel_rfl) rfl
theorem SA3.s7 (X : SA3) (ok : SA3Ok X) {Q : Exit → Act → World → Prop} : SA3.St X Q 7 := by
 intro γ listed a w o hF hC hW h1 ho h2
 obtain ⟨hd, hop, hg⟩ := fieldsL SA1.isL (i := 7) rfl ho
 have eg : a.eval (.tmp 8) = .bool false := known hF ho h2 (SA3.ini ok) ok.sz (by kernel_rfl)
 have hw := wanted_of (ops := (opsOf 1 Tryz.f30)) hg (yl_of (by kernel_rfl : dstOf (opsOf 1 Tryz.f30) 4 = some 8) (by rw [hF.tsize, ok.sz]; decide) eg)
 replace hw : Region.wanted o (yielded (opsOf 1 Tryz.f30) a.tmps) = true := hw
 have e10 : a.eval (.tmp 10) = .string X.nm := known hF ho h2 (SA3.ini ok) ok.sz (by kernel_rfl)
 have ef : a.eval (.func 65) = .func (.func 65) #[] #[] := rfl
 refine st_callWN hF hC hW ho h2 (by decide) hd hw rfl (f := 65) (args := #[.string X.nm]) ?_ ?_ ?_
 · generalize a.eval = ρ at e10 ef ⊢
   unfold execOp
   rw [hop]
   simp [e10, ef, go_sem]
 ·exact ok.k7 w
 ·intro w' hk; exact SA3.keep hW hk
theorem SA3.s16 (X : SA3) (ok : SA3Ok X) {Q : Exit → Act → World → Prop} : SA3.St X Q 16 := by
 intro γ listed a w o hF hC hW h1 ho h2
 obtain ⟨hd, hop, hg⟩ := fieldsL SA1.isL (i := 16) rfl ho
 have eg : a.eval (.tmp 16) = .bool false := known hF ho h2 (SA3.ini ok) ok.sz (by kernel_rfl)
 have hw := wanted_of (ops := (opsOf 1 Tryz.f30)) hg (yl_of (by kernel_rfl : dstOf (opsOf 1 Tryz.f30) 12 = some 16) (by rw [hF.tsize, ok.sz]; decide) eg)
 replace hw : Region.wanted o (yielded (opsOf 1 Tryz.f30) a.tmps) = true := hw
 have e19 : a.eval (.tmp 19) = .int .i64 (X.vl.size : Int) := known hF ho h2 (SA3.ini ok) ok.sz (by kernel_rfl)
 have ec1 : a.eval (.const (.int .i64 1)) = .int .i64 1 := rfl
 have ec2 : a.eval (.const (.int .i64 60)) = .int .i64 60 := rfl
 have ef : a.eval (.func 61) = .func (.func 61) #[] #[] := rfl
 refine st_callWN hF hC hW ho h2 (by decide) hd hw rfl (f := 61) (args := #[.int .i64 (X.vl.size : Int), .int .i64 1, .int .i64 60]) ?_ ?_ ?_
 · generalize a.eval = ρ at e19 ec1 ec2 ef ⊢
   unfold execOp
   rw [hop]
   simp [e19, ec1, ec2, ef, go_sem]
 ·exact ok.k16 w
 ·intro w' hk; exact SA3.keep hW hk
theorem SA3.rest (X : SA3) (ok : SA3Ok X) {Q : Exit → Act → World → Prop} : ∀ i ∈ [2, 7, 16], SA3.St X Q i := by
 simp only [List.forall_mem_cons]
 exact ⟨st_callKN SA1.isL (SA3.ini ok) ok.sz rfl (by kernel_rfl) (fun _ _ => by simp [go_sem]) (fun γ w n hW => ok.k2 w) (fun _ _ _ _ hW hk => SA3.keep hW hk),
  SA3.s7 X ok,
  SA3.s16 X ok, List.forall_mem_nil _⟩
theorem SA3.steps (X : SA3) (ok : SA3Ok X) {Q : Exit → Act → World → Prop} (i : Nat) (hi : i < (opsOf 1 Tryz.f30).size) : SA3.St X Q i := by
 rw [SA1.size] at hi
 rcases (by decide : ∀ i, i < 27 → i ∈ [0, 1, 3, 4, 11, 12, 18, 19, 26] ∨ i ∈ [5, 6, 8, 9, 10, 13, 14, 15, 17] ∨ i ∈ [20, 21, 22, 23, 24, 25] ∨ i ∈ [2, 7, 16]) i hi with h | h | h | h
 · exact SA3.plain X ok i h
 · exact SA3.want X ok i h
 · exact SA3.skip X ok i h
 · exact SA3.rest X ok i h
/-- The region, whatever order comes up. -/
theorem SA3.run (X : SA3) (ok : SA3Ok X) {Q : Exit → Act → World → Prop} (w : World) (h0 : X.Wd 0 (fun _ => undef) w.drew) (hend : ∀ (γ : Nat → Value) w', X.Wd 0 γ w' → Q .normal (((((((((((((((((((((((((((X.a0.put (some 4) (.pointer (some ⟨X.g, 0, none⟩))).put (some 5) (.string X.nm)).put (some 6) (.bool true)).put (some 7) (.bool false)).put (some 8) (.bool false)).put (some 9) (.pointer (some ⟨X.g, 0, none⟩))).put (some 10) (.string X.nm)).put (some 11) (.string X.lw)).put (some 12) (.pointer (some ⟨X.g, 0, none⟩))).put (some 13) (.string X.nm)).put (some 14) (.bool false)).put (some 15) (.bool false)).put (some 16) (.bool false)).put (some 17) (.pointer (some ⟨X.g, 1, none⟩))).put (some 18) (.string X.vl)).put (some 19) (.int .i64 (X.vl.size : Int))).put (some 20) (.bool false)).put (some 21) (.bool true)).put (some 22) (.bool true)).put (some 23) (.bool true)).put (some 24) (undef)).put (some 25) (undef)).put (some 26) (undef)).put (some 27) (undef)).put (some 28) (undef)).put (some 29) (undef)).put (some 30) (.bool true)) w') : (Code.region 1 (opsOf 1 Tryz.f30) true).wp Tryz.prog Q X.a0 w := by
 refine reg_act (acts := SA3.acts) (av := SA3.av) (val0 := X.val0) (Wd := X.Wd) (by kernel_rfl) (by kernel_rfl) (by rw [SA1.size]; decide) (fun i hi => SA3.steps X ok i hi) _ h0 ?_
 intro γ w' h
 exact end_at (hend γ w' h) (by kernel_rfl)
structure SA4 where
 g : Nat
 nm : ByteArray
 vl : ByteArray
 lw : ByteArray
 tv : ByteArray
 W : World
 a0 : Act
structure SA4Ok (X : SA4) : Prop where
 c0 : X.W.cell? ⟨X.g, 0, none⟩ = some (.string X.nm)
 c1 : X.W.cell? ⟨X.g, 1, none⟩ = some (.string X.vl)
 hl : X.lw.toList = X.nm.toList
 ht : ¬ X.tv.toList = X.vl.toList
 k2 : ∀ w, Calls Tryz.prog 64 #[.string X.nm] w fun e w' => e = .returned (.bool true) ∧ Nw w w'
 k7 : ∀ w, Calls Tryz.prog 65 #[.string X.nm] w fun e w' => e = .returned (.string X.lw) ∧ Nw w w'
 k16 : ∀ w, Calls Tryz.prog 61 #[.int .i64 (X.vl.size : Int), .int .i64 1, .int .i64 60] w fun e w' => e = .returned (.bool true) ∧ Nw w w'
 k22 : ∀ w, Calls Tryz.prog 66 #[.string X.vl] w fun e w' => e = .returned (.string X.tv) ∧ Nw w w'
 e1 : X.a0.eval (.tmp 1) = .pointer (some ⟨X.g, 0, none⟩)
 sz : X.a0.tmps.size = 48
def SA4.val0 (X : SA4) : Nat → Value
 | 1 => .pointer (some ⟨X.g, 0, none⟩)
 | 4 => .pointer (some ⟨X.g, 0, none⟩)
 | 5 => .string X.nm
 | 6 => .bool true
 | 7 => .bool false
 | 8 => .bool false
 | 9 => .pointer (some ⟨X.g, 0, none⟩)
 | 10 => .string X.nm
 | 11 => .string X.lw
 | 12 => .pointer (some ⟨X.g, 0, none⟩)
 | 13 => .string X.nm
 | 14 => .bool false
 | 15 => .bool false
 | 16 => .bool false
 | 17 => .pointer (some ⟨X.g, 1, none⟩)
 | 18 => .string X.vl
 | 19 => .int .i64 (X.vl.size : Int)
 | 20 => .bool true
 | 21 => .bool false
 | 22 => .bool false
 | 23 => .bool false
 | 24 => .pointer (some ⟨X.g, 1, none⟩)
 | 25 => .string X.vl
 | 26 => .string X.tv
 | 27 => .pointer (some ⟨X.g, 1, none⟩)
 | 28 => .string X.vl
 | 29 => .bool true
 | 30 => .bool true
 | _ => undef
def SA4.av : Nat → Option Nat
 | _ => none
def SA4.acts : List Nat := []
/-- The world, by how many of the acting ones have come up. -/
def SA4.Wd (X : SA4) : Nat → (Nat → Value) → World → Prop
  | _, _, w => Nw X.W w
theorem SA4.kp {X : SA4} {n : Nat} {γ : Nat → Value} {w : World} (h : X.Wd n γ w) : Nw X.W w := h
theorem SA4.keep {X : SA4} {n : Nat} {γ : Nat → Value} {w w' : World} (h : X.Wd n γ w) (k : Nw w w') : X.Wd n γ w' := Nw.trans h k
theorem SA4.ini {X : SA4} (ok : SA4Ok X) : ∀ n ∈ [1], X.a0.eval (.tmp n) = X.val0 n := by
 simp only [List.forall_mem_cons]
 exact ⟨ok.e1, List.forall_mem_nil _⟩
abbrev SA4.St (X : SA4) (Q : Exit → Act → World → Prop) (i : Nat) : Prop := StepG (opsOf 1 Tryz.f30) SA4.acts SA4.av X.val0 X.Wd X.a0 Q i
theorem SA4.plain (X : SA4) (ok : SA4Ok X) {Q : Exit → Act → World → Prop} : ∀ i ∈ [0, 1, 3, 4, 11, 12, 18, 19, 26], SA4.St X Q i := by
 simp only [List.forall_mem_cons]
 refine ⟨?_, ?_, ?_, ?_, ?_, ?_, ?_, ?_, ?_, List.forall_mem_nil _⟩
 all_goals
  refine st_plain SA1.isL (SA4.ini ok) ok.sz rfl (by kernel_rfl) ?_
  intro γ w n o hW hop
  have hc_c0 := rq_atN (SA4.kp hW) ok.c0
  have hc_c1 := rq_atN (SA4.kp hW) ok.c1
  unfold execOp
  rw [hop]
  simp [envR, valG, SA4.av, SA4.val0, hc_c0, ok.hl, hc_c1, ok.ht, go_sem]
theorem SA4.want (X : SA4) (ok : SA4Ok X) {Q : Exit → Act → World → Prop} : ∀ i ∈ [5, 6, 8, 9, 10, 13, 14, 15, 17, 20, 21, 23, 24, 25], SA4.St X Q i := by
 simp only [List.forall_mem_cons]
 refine ⟨?_, ?_, ?_, ?_, ?_, ?_, ?_, ?_, ?_, ?_, ?_, ?_, ?_, ?_, List.forall_mem_nil _⟩
 all_goals
  refine st_plainW SA1.isL (SA4.ini ok) ok.sz rfl rfl rfl (by kernel_rfl) ?_
  intro γ w n o hW hop
  have hc_c0 := rq_atN (SA4.kp hW) ok.c0
  have hc_c1 := rq_atN (SA4.kp hW) ok.c1
  unfold execOp
  rw [hop]
  simp [envR, valG, SA4.av, SA4.val0, hc_c0, ok.hl, hc_c1, ok.ht, go_sem]
theorem SA4.s7 (X : SA4) (ok : SA4Ok X) {Q : Exit → Act → World → Prop} : SA4.St X Q 7 := by
 intro γ listed a w o hF hC hW h1 ho h2
 obtain ⟨hd, hop, hg⟩ := fieldsL SA1.isL (i := 7) rfl ho
 have eg : a.eval (.tmp 8) = .bool false := known hF ho h2 (SA4.ini ok) ok.sz (by kernel_rfl)
 have hw := wanted_of (ops := (opsOf 1 Tryz.f30)) hg (yl_of (by kernel_rfl : dstOf (opsOf 1 Tryz.f30) 4 = some 8) (by rw [hF.tsize, ok.sz]; decide) eg)
 replace hw : Region.wanted o (yielded (opsOf 1 Tryz.f30) a.tmps) = true := hw
 have e10 : a.eval (.tmp 10) = .string X.nm := known hF ho h2 (SA4.ini ok) ok.sz (by kernel_rfl)
 have ef : a.eval (.func 65) = .func (.func 65) #[] #[] := rfl
 refine st_callWN hF hC hW ho h2 (by decide) hd hw rfl (f := 65) (args := #[.string X.nm]) ?_ ?_ ?_
 · generalize a.eval = ρ at e10 ef ⊢
   unfold execOp
   rw [hop]
   simp [e10, ef, go_sem]
 ·exact ok.k7 w
 ·intro w' hk; exact SA4.keep hW hk
theorem SA4.s16 (X : SA4) (ok : SA4Ok X) {Q : Exit → Act → World → Prop} : SA4.St X Q 16 := by
 intro γ listed a w o hF hC hW h1 ho h2
 obtain ⟨hd, hop, hg⟩ := fieldsL SA1.isL (i := 16) rfl ho
 have eg : a.eval (.tmp 16) = .bool false := known hF ho h2 (SA4.ini ok) ok.sz (by kernel_rfl)
 have hw := wanted_of (ops := (opsOf 1 Tryz.f30)) hg (yl_of (by kernel_rfl : dstOf (opsOf 1 Tryz.f30) 12 = some 16) (by rw [hF.tsize, ok.sz]; decide) eg)
 replace hw : Region.wanted o (yielded (opsOf 1 Tryz.f30) a.tmps) = true := hw
 have e19 : a.eval (.tmp 19) = .int .i64 (X.vl.size : Int) := known hF ho h2 (SA4.ini ok) ok.sz (by kernel_rfl)
 have ec1 : a.eval (.const (.int .i64 1)) = .int .i64 1 := rfl
 have ec2 : a.eval (.const (.int .i64 60)) = .int .i64 60 := rfl
 have ef : a.eval (.func 61) = .func (.func 61) #[] #[] := rfl
 refine st_callWN hF hC hW ho h2 (by decide) hd hw rfl (f := 61) (args := #[.int .i64 (X.vl.size : Int), .int .i64 1, .int .i64 60]) ?_ ?_ ?_
 · generalize a.eval = ρ at e19 ec1 ec2 ef ⊢
   unfold execOp
   rw [hop]
   simp [e19, ec1, ec2, ef, go_sem]
 ·exact ok.k16 w
 ·intro w' hk; exact SA4.keep hW hk
theorem SA4.s22 (X : SA4) (ok : SA4Ok X) {Q : Exit → Act → World → Prop} : SA4.St X Q 22 := by
 intro γ listed a w o hF hC hW h1 ho h2
 obtain ⟨hd, hop, hg⟩ := fieldsL SA1.isL (i := 22) rfl ho
 have eg : a.eval (.tmp 23) = .bool false := known hF ho h2 (SA4.ini ok) ok.sz (by kernel_rfl)
 have hw := wanted_of (ops := (opsOf 1 Tryz.f30)) hg (yl_of (by kernel_rfl : dstOf (opsOf 1 Tryz.f30) 19 = some 23) (by rw [hF.tsize, ok.sz]; decide) eg)
 replace hw : Region.wanted o (yielded (opsOf 1 Tryz.f30) a.tmps) = true := hw
 have e25 : a.eval (.tmp 25) = .string X.vl := known hF ho h2 (SA4.ini ok) ok.sz (by kernel_rfl)
 have ef : a.eval (.func 66) = .func (.func 66) #[] #[] := rfl
 refine st_callWN hF hC hW ho h2 (by decide) hd hw rfl (f := 66) (args := #[.string X.vl]) ?_ ?_ ?_
 · generalize a.eval = ρ at e25 ef ⊢
   unfold execOp
   rw [hop]
   simp [e25, ef, go_sem]
 ·exact ok.k22 w
 ·intro w' hk; exact SA4.keep hW hk
theorem SA4.rest (X : SA4) (ok : SA4Ok X) {Q : Exit → Act → World → Prop} : ∀ i ∈ [2, 7, 16, 22], SA4.St X Q i := by
 simp only [List.forall_mem_cons]
 exact ⟨st_callKN SA1.isL (SA4.ini ok) ok.sz rfl (by kernel_rfl) (fun _ _ => by simp [go_sem]) (fun γ w n hW => ok.k2 w) (fun _ _ _ _ hW hk => SA4.keep hW hk),
  SA4.s7 X ok,
  SA4.s16 X ok,
  SA4.s22 X ok, List.forall_mem_nil _⟩
theorem SA4.steps (X : SA4) (ok : SA4Ok X) {Q : Exit → Act → World → Prop} (i : Nat) (hi : i < (opsOf 1 Tryz.f30).size) : SA4.St X Q i := by
 rw [SA1.size] at hi
 rcases (by decide : ∀ i, i < 27 → i ∈ [0, 1, 3, 4, 11, 12, 18, 19, 26] ∨ i ∈ [5, 6, 8, 9, 10, 13, 14, 15, 17, 20, 21, 23, 24, 25] ∨ i ∈ [2, 7, 16, 22]) i hi with h | h | h
 · exact SA4.plain X ok i h
 · exact SA4.want X ok i h
 · exact SA4.rest X ok i h
/-- The region, whatever order comes up. -/
theorem SA4.run (X : SA4) (ok : SA4Ok X) {Q : Exit → Act → World → Prop} (w : World) (h0 : X.Wd 0 (fun _ => undef) w.drew) (hend : ∀ (γ : Nat → Value) w', X.Wd 0 γ w' → Q .normal (((((((((((((((((((((((((((X.a0.put (some 4) (.pointer (some ⟨X.g, 0, none⟩))).put (some 5) (.string X.nm)).put (some 6) (.bool true)).put (some 7) (.bool false)).put (some 8) (.bool false)).put (some 9) (.pointer (some ⟨X.g, 0, none⟩))).put (some 10) (.string X.nm)).put (some 11) (.string X.lw)).put (some 12) (.pointer (some ⟨X.g, 0, none⟩))).put (some 13) (.string X.nm)).put (some 14) (.bool false)).put (some 15) (.bool false)).put (some 16) (.bool false)).put (some 17) (.pointer (some ⟨X.g, 1, none⟩))).put (some 18) (.string X.vl)).put (some 19) (.int .i64 (X.vl.size : Int))).put (some 20) (.bool true)).put (some 21) (.bool false)).put (some 22) (.bool false)).put (some 23) (.bool false)).put (some 24) (.pointer (some ⟨X.g, 1, none⟩))).put (some 25) (.string X.vl)).put (some 26) (.string X.tv)).put (some 27) (.pointer (some ⟨X.g, 1, none⟩))).put (some 28) (.string X.vl)).put (some 29) (.bool true)).put (some 30) (.bool true)) w') : (Code.region 1 (opsOf 1 Tryz.f30) true).wp Tryz.prog Q X.a0 w := by
 refine reg_act (acts := SA4.acts) (av := SA4.av) (val0 := X.val0) (Wd := X.Wd) (by kernel_rfl) (by kernel_rfl) (by rw [SA1.size]; decide) (fun i hi => SA4.steps X ok i hi) _ h0 ?_
 intro γ w' h
 exact end_at (hend γ w' h) (by kernel_rfl)
structure SA5 where
 g : Nat
 nm : ByteArray
 vl : ByteArray
 lw : ByteArray
 tv : ByteArray
 W : World
 a0 : Act
structure SA5Ok (X : SA5) : Prop where
 c0 : X.W.cell? ⟨X.g, 0, none⟩ = some (.string X.nm)
 c1 : X.W.cell? ⟨X.g, 1, none⟩ = some (.string X.vl)
 hl : X.lw.toList = X.nm.toList
 ht : X.tv.toList = X.vl.toList
 k2 : ∀ w, Calls Tryz.prog 64 #[.string X.nm] w fun e w' => e = .returned (.bool true) ∧ Nw w w'
 k7 : ∀ w, Calls Tryz.prog 65 #[.string X.nm] w fun e w' => e = .returned (.string X.lw) ∧ Nw w w'
 k16 : ∀ w, Calls Tryz.prog 61 #[.int .i64 (X.vl.size : Int), .int .i64 1, .int .i64 60] w fun e w' => e = .returned (.bool true) ∧ Nw w w'
 k22 : ∀ w, Calls Tryz.prog 66 #[.string X.vl] w fun e w' => e = .returned (.string X.tv) ∧ Nw w w'
 e1 : X.a0.eval (.tmp 1) = .pointer (some ⟨X.g, 0, none⟩)
 sz : X.a0.tmps.size = 48
def SA5.val0 (X : SA5) : Nat → Value
 | 1 => .pointer (some ⟨X.g, 0, none⟩)
 | 4 => .pointer (some ⟨X.g, 0, none⟩)
 | 5 => .string X.nm
 | 6 => .bool true
 | 7 => .bool false
 | 8 => .bool false
 | 9 => .pointer (some ⟨X.g, 0, none⟩)
 | 10 => .string X.nm
 | 11 => .string X.lw
 | 12 => .pointer (some ⟨X.g, 0, none⟩)
 | 13 => .string X.nm
 | 14 => .bool false
 | 15 => .bool false
 | 16 => .bool false
 | 17 => .pointer (some ⟨X.g, 1, none⟩)
 | 18 => .string X.vl
 | 19 => .int .i64 (X.vl.size : Int)
 | 20 => .bool true
 | 21 => .bool false
 | 22 => .bool false
 | 23 => .bool false
 | 24 => .pointer (some ⟨X.g, 1, none⟩)
 | 25 => .string X.vl
 | 26 => .string X.tv
 | 27 => .pointer (some ⟨X.g, 1, none⟩)
 | 28 => .string X.vl
 | 29 => .bool false
 | 30 => .bool false
 | _ => undef
def SA5.av : Nat → Option Nat
 | _ => none
def SA5.acts : List Nat := []
/-- The world, by how many of the acting ones have come up. -/
def SA5.Wd (X : SA5) : Nat → (Nat → Value) → World → Prop
  | _, _, w => Nw X.W w
theorem SA5.kp {X : SA5} {n : Nat} {γ : Nat → Value} {w : World} (h : X.Wd n γ w) : Nw X.W w := h
theorem SA5.keep {X : SA5} {n : Nat} {γ : Nat → Value} {w w' : World} (h : X.Wd n γ w) (k : Nw w w') : X.Wd n γ w' := Nw.trans h k
theorem SA5.ini {X : SA5} (ok : SA5Ok X) : ∀ n ∈ [1], X.a0.eval (.tmp n) = X.val0 n := by
 simp only [List.forall_mem_cons]
 exact ⟨ok.e1, List.forall_mem_nil _⟩
abbrev SA5.St (X : SA5) (Q : Exit → Act → World → Prop) (i : Nat) : Prop := StepG (opsOf 1 Tryz.f30) SA5.acts SA5.av X.val0 X.Wd X.a0 Q i
theorem SA5.plain (X : SA5) (ok : SA5Ok X) {Q : Exit → Act → World → Prop} : ∀ i ∈ [0, 1, 3, 4, 11, 12, 18, 19, 26], SA5.St X Q i := by
 simp only [List.forall_mem_cons]
 refine ⟨?_, ?_, ?_, ?_, ?_, ?_, ?_, ?_, ?_, List.forall_mem_nil _⟩
 all_goals
  refine st_plain SA1.isL (SA5.ini ok) ok.sz rfl (by kernel_rfl) ?_
  intro γ w n o hW hop
  have hc_c0 := rq_atN (SA5.kp hW) ok.c0
  have hc_c1 := rq_atN (SA5.kp hW) ok.c1
  unfold execOp
  rw [hop]
  simp [envR, valG, SA5.av, SA5.val0, hc_c0, ok.hl, hc_c1, ok.ht, go_sem]
theorem SA5.want (X : SA5) (ok : SA5Ok X) {Q : Exit → Act → World → Prop} : ∀ i ∈ [5, 6, 8, 9, 10, 13, 14, 15, 17, 20, 21, 23, 24, 25], SA5.St X Q i := by
 simp only [List.forall_mem_cons]
 refine ⟨?_, ?_, ?_, ?_, ?_, ?_, ?_, ?_, ?_, ?_, ?_, ?_, ?_, ?_, List.forall_mem_nil _⟩
 all_goals
  refine st_plainW SA1.isL (SA5.ini ok) ok.sz rfl rfl rfl (by kernel_rfl) ?_
  intro γ w n o hW hop
  have hc_c0 := rq_atN (SA5.kp hW) ok.c0
  have hc_c1 := rq_atN (SA5.kp hW) ok.c1
  unfold execOp
  rw [hop]
  simp [envR, valG, SA5.av, SA5.val0, hc_c0, ok.hl, hc_c1, ok.ht, go_sem]
theorem SA5.s7 (X : SA5) (ok : SA5Ok X) {Q : Exit → Act → World → Prop} : SA5.St X Q 7 := by
 intro γ listed a w o hF hC hW h1 ho h2
 obtain ⟨hd, hop, hg⟩ := fieldsL SA1.isL (i := 7) rfl ho
 have eg : a.eval (.tmp 8) = .bool false := known hF ho h2 (SA5.ini ok) ok.sz (by kernel_rfl)
 have hw := wanted_of (ops := (opsOf 1 Tryz.f30)) hg (yl_of (by kernel_rfl : dstOf (opsOf 1 Tryz.f30) 4 = some 8) (by rw [hF.tsize, ok.sz]; decide) eg)
 replace hw : Region.wanted o (yielded (opsOf 1 Tryz.f30) a.tmps) = true := hw
 have e10 : a.eval (.tmp 10) = .string X.nm := known hF ho h2 (SA5.ini ok) ok.sz (by kernel_rfl)
 have ef : a.eval (.func 65) = .func (.func 65) #[] #[] := rfl
 refine st_callWN hF hC hW ho h2 (by decide) hd hw rfl (f := 65) (args := #[.string X.nm]) ?_ ?_ ?_
 · generalize a.eval = ρ at e10 ef ⊢
   unfold execOp
   rw [hop]
   simp [e10, ef, go_sem]
 ·exact ok.k7 w
 ·intro w' hk; exact SA5.keep hW hk
theorem SA5.s16 (X : SA5) (ok : SA5Ok X) {Q : Exit → Act → World → Prop} : SA5.St X Q 16 := by
 intro γ listed a w o hF hC hW h1 ho h2
 obtain ⟨hd, hop, hg⟩ := fieldsL SA1.isL (i := 16) rfl ho
 have eg : a.eval (.tmp 16) = .bool false := known hF ho h2 (SA5.ini ok) ok.sz (by kernel_rfl)
 have hw := wanted_of (ops := (opsOf 1 Tryz.f30)) hg (yl_of (by kernel_rfl : dstOf (opsOf 1 Tryz.f30) 12 = some 16) (by rw [hF.tsize, ok.sz]; decide) eg)
 replace hw : Region.wanted o (yielded (opsOf 1 Tryz.f30) a.tmps) = true := hw
 have e19 : a.eval (.tmp 19) = .int .i64 (X.vl.size : Int) := known hF ho h2 (SA5.ini ok) ok.sz (by kernel_rfl)
 have ec1 : a.eval (.const (.int .i64 1)) = .int .i64 1 := rfl
 have ec2 : a.eval (.const (.int .i64 60)) = .int .i64 60 := rfl
 have ef : a.eval (.func 61) = .func (.func 61) #[] #[] := rfl
 refine st_callWN hF hC hW ho h2 (by decide) hd hw rfl (f := 61) (args := #[.int .i64 (X.vl.size : Int), .int .i64 1, .int .i64 60]) ?_ ?_ ?_
 · generalize a.eval = ρ at e19 ec1 ec2 ef ⊢
   unfold execOp
   rw [hop]
   simp [e19, ec1, ec2, ef, go_sem]
 ·exact ok.k16 w
 ·intro w' hk; exact SA5.keep hW hk
theorem SA5.s22 (X : SA5) (ok : SA5Ok X) {Q : Exit → Act → World → Prop} : SA5.St X Q 22 := by
 intro γ listed a w o hF hC hW h1 ho h2
 obtain ⟨hd, hop, hg⟩ := fieldsL SA1.isL (i := 22) rfl ho
 have eg : a.eval (.tmp 23) = .bool false := known hF ho h2 (SA5.ini ok) ok.sz (by kernel_rfl)
 have hw := wanted_of (ops := (opsOf 1 Tryz.f30)) hg (yl_of (by kernel_rfl : dstOf (opsOf 1 Tryz.f30) 19 = some 23) (by rw [hF.tsize, ok.sz]; decide) eg)
 replace hw : Region.wanted o (yielded (opsOf 1 Tryz.f30) a.tmps) = true := hw
 have e25 : a.eval (.tmp 25) = .string X.vl := known hF ho h2 (SA5.ini ok) ok.sz (by kernel_rfl)
 have ef : a.eval (.func 66) = .func (.func 66) #[] #[] := rfl
 refine st_callWN hF hC hW ho h2 (by decide) hd hw rfl (f := 66) (args := #[.string X.vl]) ?_ ?_ ?_
 · generalize a.eval = ρ at e25 ef ⊢
   unfold execOp
   rw [hop]
   simp [e25, ef, go_sem]
 ·exact ok.k22 w
 ·intro w' hk; exact SA5.keep hW hk
theorem SA5.rest (X : SA5) (ok : SA5Ok X) {Q : Exit → Act → World → Prop} : ∀ i ∈ [2, 7, 16, 22], SA5.St X Q i := by
 simp only [List.forall_mem_cons]
 exact ⟨st_callKN SA1.isL (SA5.ini ok) ok.sz rfl (by kernel_rfl) (fun _ _ => by simp [go_sem]) (fun γ w n hW => ok.k2 w) (fun _ _ _ _ hW hk => SA5.keep hW hk),
  SA5.s7 X ok,
  SA5.s16 X ok,
  SA5.s22 X ok, List.forall_mem_nil _⟩
theorem SA5.steps (X : SA5) (ok : SA5Ok X) {Q : Exit → Act → World → Prop} (i : Nat) (hi : i < (opsOf 1 Tryz.f30).size) : SA5.St X Q i := by
 rw [SA1.size] at hi
 rcases (by decide : ∀ i, i < 27 → i ∈ [0, 1, 3, 4, 11, 12, 18, 19, 26] ∨ i ∈ [5, 6, 8, 9, 10, 13, 14, 15, 17, 20, 21, 23, 24, 25] ∨ i ∈ [2, 7, 16, 22]) i hi with h | h | h
 · exact SA5.plain X ok i h
 · exact SA5.want X ok i h
 · exact SA5.rest X ok i h
/-- The region, whatever order comes up. -/
theorem SA5.run (X : SA5) (ok : SA5Ok X) {Q : Exit → Act → World → Prop} (w : World) (h0 : X.Wd 0 (fun _ => undef) w.drew) (hend : ∀ (γ : Nat → Value) w', X.Wd 0 γ w' → Q .normal (((((((((((((((((((((((((((X.a0.put (some 4) (.pointer (some ⟨X.g, 0, none⟩))).put (some 5) (.string X.nm)).put (some 6) (.bool true)).put (some 7) (.bool false)).put (some 8) (.bool false)).put (some 9) (.pointer (some ⟨X.g, 0, none⟩))).put (some 10) (.string X.nm)).put (some 11) (.string X.lw)).put (some 12) (.pointer (some ⟨X.g, 0, none⟩))).put (some 13) (.string X.nm)).put (some 14) (.bool false)).put (some 15) (.bool false)).put (some 16) (.bool false)).put (some 17) (.pointer (some ⟨X.g, 1, none⟩))).put (some 18) (.string X.vl)).put (some 19) (.int .i64 (X.vl.size : Int))).put (some 20) (.bool true)).put (some 21) (.bool false)).put (some 22) (.bool false)).put (some 23) (.bool false)).put (some 24) (.pointer (some ⟨X.g, 1, none⟩))).put (some 25) (.string X.vl)).put (some 26) (.string X.tv)).put (some 27) (.pointer (some ⟨X.g, 1, none⟩))).put (some 28) (.string X.vl)).put (some 29) (.bool false)).put (some 30) (.bool false)) w') : (Code.region 1 (opsOf 1 Tryz.f30) true).wp Tryz.prog Q X.a0 w := by
 refine reg_act (acts := SA5.acts) (av := SA5.av) (val0 := X.val0) (Wd := X.Wd) (by kernel_rfl) (by kernel_rfl) (by rw [SA1.size]; decide) (fun i hi => SA5.steps X ok i hi) _ h0 ?_
 intro γ w' h
 exact end_at (hend γ w' h) (by kernel_rfl)
end Go.Proofs.YtnkmdmmlpidcmaaGreatDoor
namespace Go.Proofs.YtnkmdmmlpidcmaaGreatDoor
open Go.ChangeShapes Go.WideShapes Go.ChangeAt Go.RowKit
set_option linter.unusedVariables false

def byL (l : List UInt8) (k : Nat) : UInt8 := l.getD k 0
/-- A row of bytes of which the first k are in small letters. -/
structure LwR (g : Nat) (l : List UInt8) (k : Nat) (w : World) : Prop where
  lt : g < w.heap.size
  lo : ∀ j, j < k → w.cell? ⟨g, j, none⟩ = some (.int .u8 ((lowB (byL l j)).toNat : Int))
  hi : ∀ j, k ≤ j → j < l.length → w.cell? ⟨g, j, none⟩ = some (.int .u8 ((byL l j).toNat : Int))
  fz : ∀ j, j < l.length → w.frozen? ⟨g, j, none⟩ = false
theorem LwR.keep {g k : Nat} {l : List UInt8} {w : World} (h : LwR g l k w) (hk : k < l.length) (e : lowB (byL l k) = byL l k) : LwR g l (k + 1) w :=
  ⟨h.lt, fun j hj => by
    rcases Nat.lt_succ_iff_lt_or_eq.1 hj with h1 | h1
    · exact h.lo j h1
    · subst h1; rw [e]; exact h.hi j (Nat.le_refl _) hk, fun j h1 h2 => h.hi j (by omega) h2, h.fz⟩
theorem LwR.put {g k : Nat} {l : List UInt8} {w : World} (h : LwR g l k w) (hk : k < l.length) : LwR g l (k + 1) (w.setCell ⟨g, k, none⟩ (.int .u8 ((lowB (byL l k)).toNat : Int))) := by
  have far : ∀ j, j ≠ k → (w.setCell ⟨g, k, none⟩ (.int .u8 ((lowB (byL l k)).toNat : Int))).cell? ⟨g, j, none⟩ = w.cell? ⟨g, j, none⟩ := fun j hj => World.cell?_setCell_other _ _ _ _ (fun e => by injection e; omega)
  refine ⟨by simpa [World.setCell] using h.lt, fun j hj => ?_, fun j h1 h2 => ?_, fun j hj => by rw [World.frozen?_setCell]; exact h.fz j hj⟩
  · by_cases e : j = k
    · subst e; exact World.cell?_setCell_same w ⟨g, j, none⟩ _ (h.hi j (Nat.le_refl _) hk)
    · rw [far j e]; exact h.lo j (by omega)
  · rw [far j (by omega)]; exact h.hi j (by omega) h2
theorem LwR.start (w : World) (s : ByteArray) (t : TypeId) : LwR w.heap.size s.data.toList 0 (Lib.bytesWorld w t s) := by
  refine ⟨by rw [Lib.bytesWorld_size]; omega, fun j hj => absurd hj (by omega), fun j _ hj => ?_, fun j hj => ?_⟩
  · rw [data_len] at hj
    rw [Lib.bytesWorld_cell w t s j hj]; rfl
  · rw [data_len] at hj
    unfold World.frozen?
    rw [Lib.bytesWorld_at_new]
    have h1 : s.size ≤ (Lib.bytesCells w t s).size := by simp [Lib.bytesCells]
    simp only
    rw [Bool.and_eq_false_iff]
    left
    simp
    omega
theorem bytes_nw (w : World) (t : TypeId) (s : ByteArray) : Nw w (Lib.bytesWorld w t s) := by
  refine ⟨?_, ?_, ?_, by rw [Lib.bytesWorld_size]; omega, fun k hk => Lib.bytesWorld_at_old w t s k hk⟩
  · unfold Lib.bytesWorld World.freeze; split <;> rfl
  · unfold Lib.bytesWorld World.freeze; split <;> rfl
  · unfold Lib.bytesWorld World.freeze; split <;> rfl
theorem low_up {b : UInt8} (h : 65 ≤ b.toNat ∧ b.toNat ≤ 90) : ((lowB b).toNat : Int) = (b.toNat : Int) + 32 := by
  unfold lowB
  rw [if_pos h, UInt8.toNat_add]
  have : (32 : UInt8).toNat = 32 := rfl
  rw [this, Nat.mod_eq_of_lt (by omega)]
  omega
theorem low_no {b : UInt8} (h : ¬ (65 ≤ b.toNat ∧ b.toNat ≤ 90)) : lowB b = b := by unfold lowB; rw [if_neg h]
set_option maxHeartbeats 4000000 in
theorem slow (s : ByteArray) (w : World) (hs : s.size ≤ 1048576) :
    Calls Tryz.prog 65 #[.string s] w fun e w' => e = .returned (.string (bA (lowL s.data.toList))) ∧ Nw w w' := by
  have hcv := Lib.run_convert_string_bytes (P := Tryz.prog) w 9 22 5 s (u := .string) Tryz.underlying9 Tryz.underlying22 Tryz.underlying5
  have HST : Hid (LwR w.heap.size s.data.toList 0 (Lib.bytesWorld w 5 s)) := LwR.start w s 5
  have HNW : Hid (Nw w (Lib.bytesWorld w 5 s)) := bytes_nw w 5 s
  generalize Lib.bytesWorld w 5 s = W at *
  generalize grownCap w s.size 0 5 = C at *
  go_enter Tryz.func65, Tryz.ntmps65
  go_wp2
  clear hcv
  go_loopw [10] (fun i wr => ∃ k : Nat, k ≤ s.size ∧ i = .int .i64 (k : Int) ∧ LwR w.heap.size s.data.toList k wr ∧ Nw w wr) (fun i _ => s.size - (intOf i).toNat)
  case atStart => exact ⟨0, Nat.zero_le _, rfl, HST.out, HNW.out⟩
  case round =>
    obtain ⟨k, hk, rfl, hl, hw⟩ := hrel
    have HL : Hid (LwR w.heap.size s.data.toList k wr) := hl
    have HW : Hid (Nw w wr) := hw
    have hlt0 := hl.lt
    have hfz := hl.fz
    by_cases hlt : k < s.size
    · have q0 := hl.hi k (Nat.le_refl _) (by rw [data_len]; exact hlt)
      have qf := hfz k (by rw [data_len]; exact hlt)
      have hub : (byL s.data.toList k).toNat ≤ 255 := by have := UInt8.toNat_lt (byL s.data.toList k); omega
      clear hl hw hfz
      by_cases hu : 65 ≤ (byL s.data.toList k).toNat ∧ (byL s.data.toList k).toNat ≤ 90
      · have HP : Hid _ := HL.out.put (by rw [data_len]; exact hlt)
        have hlo := low_up hu
        rw [hlo] at HP
        have h1 : (65 : Int) ≤ ((byL s.data.toList k).toNat : Int) := by omega
        have h2 : ((byL s.data.toList k).toNat : Int) ≤ 90 := by omega
        clear hlo hu
        generalize (byL s.data.toList k).toNat = x at *
        go_wp2
        go_roundw
        case rel => exact ⟨k + 1, by omega, by go_num, HP.out, HW.out.setCell (Nat.le_refl _) _⟩
        case measure => simp [intOf]; omega
      · have HP : Hid _ := HL.out.keep (by rw [data_len]; exact hlt) (low_no hu)
        by_cases h1 : (65 : Int) ≤ ((byL s.data.toList k).toNat : Int)
        · have h2 : ¬ (((byL s.data.toList k).toNat : Int) ≤ 90) := by omega
          clear hu
          generalize (byL s.data.toList k).toNat = x at *
          go_wp2
          go_roundw
          case rel => exact ⟨k + 1, by omega, by go_num, HP.out, HW.out⟩
          case measure => simp [intOf]; omega
        · clear hu
          generalize (byL s.data.toList k).toNat = x at *
          go_wp2
          go_roundw
          case rel => exact ⟨k + 1, by omega, by go_num, HP.out, HW.out⟩
          case measure => simp [intOf]; omega
    · have e : k = s.size := by omega
      have hsz : (bA (lowL s.data.toList)).size = s.size := by rw [bA_size]; unfold lowL; rw [List.length_map, data_len]
      have hbk := Lib.run_convert_whole (P := Tryz.prog) wr 22 5 9 Tryz.underlying22 Tryz.underlying5 Tryz.underlying9 w.heap.size 0 (bA (lowL s.data.toList)) (by
        intro i hi
        rw [hsz] at hi
        rw [Nat.zero_add, HL.out.lo i (by omega)]
        congr 2
        have hi2 : i < s.data.size := hi
        rw [getB _ i (by rw [hsz]; exact hi)]
        simp [bA, lowL, byL]
        rw [Array.getElem?_eq_getElem hi2]
        rfl) C
      rw [hsz] at hbk
      subst e
      clear hl hw hfz
      go_wp2
      go_ret
      exact ⟨rfl, HW.out⟩
end Go.Proofs.YtnkmdmmlpidcmaaGreatDoor
namespace Go.Proofs.YtnkmdmmlpidcmaaGreatDoor
open Go.ChangeShapes Go.WideShapes Go.ChangeAt Go.RowKit
set_option linter.unusedVariables false

theorem TB_bA (s : ByteArray) : TB s = bA (tmL s.data.toList) := rfl
theorem strimL (s : ByteArray) (w : World) (hs : s.size ≤ 1048576) : Calls Tryz.prog 66 #[.string s] w fun e w' => e = .returned (.string (bA (tmL s.data.toList))) ∧ w' = w := strim s w hs
/-- What is left of the declaration's value. -/
def vlS (v : List UInt8) : List UInt8 := (valS v).1
theorem suf_at {v : List UInt8} : markL10.isSuffixOf v = decide (10 ≤ v.length ∧ v.drop (v.length - 10) = markL10) := by
  rw [Bool.eq_iff_iff, List.isSuffixOf_iff_suffix, decide_eq_true_eq]
  constructor
  · intro h
    have hl := h.length_le
    refine ⟨hl, ?_⟩
    obtain ⟨t, ht⟩ := h
    rw [← ht]
    have : (t ++ markL10).length - 10 = t.length := by rw [List.length_append]; show t.length + 10 - 10 = _; omega
    rw [this, List.drop_left]
  · rintro ⟨h1, h2⟩
    exact ⟨v.take (v.length - 10), by rw [← h2, List.take_append_drop]⟩
theorem Bx3.s1 {b : Nat} {w : World} {u0 u1 u2 : Value} (h : Bx3 b w u0 u1 u2) (v : Value) : Bx3 b (w.setCell ⟨b, 1, none⟩ v) u0 v u2 := by
  have far : ∀ x, x ≠ 1 → (w.setCell ⟨b, 1, none⟩ v).cell? ⟨b, x, none⟩ = w.cell? ⟨b, x, none⟩ := fun x hx => World.cell?_setCell_other _ _ _ _ (fun e => by injection e; omega)
  exact ⟨(far 0 (by omega)).trans h.c0, World.cell?_setCell_same w ⟨b, 1, none⟩ _ h.c1, (far 2 (by omega)).trans h.c2, fun o => by rw [World.frozen?_setCell]; exact h.fz o⟩
theorem Bx3.s2 {b : Nat} {w : World} {u0 u1 u2 : Value} (h : Bx3 b w u0 u1 u2) (v : Value) : Bx3 b (w.setCell ⟨b, 2, none⟩ v) u0 u1 v := by
  have far : ∀ x, x ≠ 2 → (w.setCell ⟨b, 2, none⟩ v).cell? ⟨b, x, none⟩ = w.cell? ⟨b, x, none⟩ := fun x hx => World.cell?_setCell_other _ _ _ _ (fun e => by injection e; omega)
  exact ⟨(far 0 (by omega)).trans h.c0, (far 1 (by omega)).trans h.c1, World.cell?_setCell_same w ⟨b, 2, none⟩ _ h.c2, fun o => by rw [World.frozen?_setCell]; exact h.fz o⟩
theorem Bx3.off {b : Nat} {w : World} {u0 u1 u2 : Value} (h : Bx3 b w u0 u1 u2) (b2 o : Nat) (v : Value) (hne : b ≠ b2) : Bx3 b (w.setCell ⟨b2, o, none⟩ v) u0 u1 u2 := by
  have far : ∀ x, (w.setCell ⟨b2, o, none⟩ v).cell? ⟨b, x, none⟩ = w.cell? ⟨b, x, none⟩ := fun x => World.cell?_setCell_other _ _ _ _ (fun e => by injection e; omega)
  exact ⟨(far 0).trans h.c0, (far 1).trans h.c1, (far 2).trans h.c2, fun x => by rw [World.frozen?_setCell]; exact h.fz x⟩
set_option maxRecDepth 100000 in
set_option maxHeartbeats 16000000 in
theorem sdecl (s : ByteArray) (w : World) (hs : s.size ≤ 1048576) :
    Calls Tryz.prog 113 #[.string s] w fun e w' => DeclSays s e ∧ Nw w w' := by
  have hDP : declP s = (declS s.data.toList).map fun d => ⟨bA d.1, bA d.2.1, d.2.2⟩ := by unfold declP; rw [← decl_one]
  have h1 := tm_len s.data.toList
  rw [data_len] at h1
  unfold declS at hDP
  have HB0 : Hid (Bx3 w.heap.size (w.alloc (.cells #[.string ⟨#[]⟩, .string ⟨#[]⟩, .bool false] 36)) (.string ⟨#[]⟩) (.string ⟨#[]⟩) (.bool false)) := Bx3.new _ _ _ _ _
  have HN0 : Hid (Nw w (w.alloc (.cells #[.string ⟨#[]⟩, .string ⟨#[]⟩, .bool false] 36))) := (Below.refl _ _).alloc (Nat.le_refl _) _
  have HDP : Hid _ := hDP
  clear hDP
  have HT0 : Hid (∀ W, Calls Tryz.prog 66 #[.string s] W fun e w' => e = .returned (.string (bA (tmL s.data.toList))) ∧ w' = W) := fun W => strimL s W hs
  generalize tmL s.data.toList = T at *
  have hrl := runL_le T
  have hT : (bA T).size = T.length := bA_size T
  have HR0 : Hid (∀ W, Calls Tryz.prog 105 #[.string (bA T)] W fun e w' => e = .returned (.int .i64 (runL T : Nat)) ∧ w' = W) := fun W => by
    have := srunL W (bA T) (by rw [hT]; omega)
    rw [bA_list] at this
    exact this
  go_enter Tryz.func113, Tryz.ntmps113
  go_wp2_with fail
  generalize w.alloc (.cells #[.string ⟨#[]⟩, .string ⟨#[]⟩, .bool false] 36) = W at *
  refine Calls.mono (HT0.out _) ?_
  rintro e w1 ⟨rfl, hq⟩
  have hq2 := hq.symm; clear hq; subst hq2
  go_wp2_with fail
  refine Calls.mono (HR0.out _) ?_
  rintro e w1 ⟨rfl, hq⟩
  have hq2 := hq.symm; clear hq; subst hq2
  obtain ⟨z0, z1, z2, zf⟩ := HB0.out
  by_cases hn : runL T = 0
  · have HX : Hid (declP s = none) := by show declP s = none; rw [HDP.out, if_pos hn]; rfl
    rw [hn]
    obtain ⟨y0, y1, y2⟩ := set3d W w.heap.size (.string ⟨#[]⟩) (.string ⟨#[]⟩) (.bool false) z0 z1 z2
    clear hn
    go_wp2
    refine bodyPost_ret (v := .tuple #[.agg #[.string ⟨#[]⟩, .string ⟨#[]⟩, .bool false], .bool false]) (by simp [results, Tryz.results113, go_sem, y0, y1, y2]) rfl ⟨Or.inr ⟨HX.out, _, _, _, rfl⟩, ?_⟩
    exact ((HN0.out.setCell (Nat.le_refl _) _).setCell (Nat.le_refl _) _).setCell (Nat.le_refl _) _
  · have hdp := HDP.out
    rw [if_neg hn] at hdp
    have HD1 : Hid _ := hdp
    clear hdp HDP
    have HE1 : Hid ((bA T).extract 0 (runL T) = bA (T.take (runL T))) := by show _ = _; rw [ext_head, bA_list]
    have HE2 : Hid ((bA T).extract (runL T) (bA T).size = bA (T.drop (runL T))) := by show _ = _; rw [ext_tail, bA_list]
    rw [hT] at HE2
    have HL1 : Hid (∀ W, Calls Tryz.prog 65 #[.string (bA (T.take (runL T)))] W fun e w' => e = .returned (.string (bA (lowL (T.take (runL T))))) ∧ Nw W w') := fun W => by
      have := slow (bA (T.take (runL T))) W (by rw [bA_size, List.length_take]; omega)
      rw [bA_list] at this
      exact this
    have HT1 : Hid (∀ W, Calls Tryz.prog 66 #[.string (bA (T.drop (runL T)))] W fun e w' => e = .returned (.string (bA (tmL (T.drop (runL T))))) ∧ w' = W) := fun W => by
      have := strimL (bA (T.drop (runL T))) W (by rw [bA_size, List.length_drop]; omega)
      rw [bA_list] at this
      exact this
    have hr2 := tm_len (T.drop (runL T))
    rw [List.length_drop] at hr2
    generalize runL T = n at *
    have hnI : ((n : Int) == 0) = false := by simp; omega
    generalize tmL (T.drop n) = R at *
    generalize lowL (T.take n) = LN at *
    generalize bA (T.take n) = TN at *
    generalize bA (T.drop n) = TD at *
    generalize bA T = BT at *
    go_wp2_with fail
    rw [HE1.out]
    refine Calls.mono (HL1.out _) ?_
    rintro e w2 ⟨rfl, k2⟩
    have HB2 : Hid _ := HB0.out.nw k2
    have HN2 : Hid (Nw w w2) := Nw.trans HN0.out k2
    clear k2 z0 z1 z2 zf
    go_wp2_with fail
    rw [HE2.out]
    refine Calls.mono (HT1.out _) ?_
    rintro e w3 ⟨rfl, hq⟩
    have hq2 := hq.symm; clear hq; subst hq2
    have HB3 : Hid (Bx3 w.heap.size (w2.alloc (.cells #[.string (bA LN), .string ⟨#[]⟩, .bool false] 36)) (.string ⟨#[]⟩) (.string ⟨#[]⟩) (.bool false)) := HB2.out.nw ((Below.refl _ _).alloc (Nat.le_refl _) _)
    have HC3 : Hid (Bx3 w2.heap.size (w2.alloc (.cells #[.string (bA LN), .string ⟨#[]⟩, .bool false] 36)) (.string (bA LN)) (.string ⟨#[]⟩) (.bool false)) := Bx3.new _ _ _ _ _
    have HN3 : Hid (Nw w (w2.alloc (.cells #[.string (bA LN), .string ⟨#[]⟩, .bool false] 36))) := Nw.trans HN2.out ((Below.refl _ _).alloc (Nat.le_refl _) _)
    have hbl : w.heap.size < w2.heap.size := HB2.out.lt
    clear HB2
    generalize hW3 : w2.alloc (.cells #[.string (bA LN), .string ⟨#[]⟩, .bool false] 36) = W3 at *
    clear hW3
    obtain ⟨z0, z1, z2, zf⟩ := HB3.out
    have hRs : (bA R).size = R.length := bA_size R
    have hcells := HC3.out
    obtain ⟨p0, p1, p2, pf⟩ := hcells
    cases R with
    | nil =>
      have HX : Hid (declP s = none) := by show declP s = none; rw [HD1.out]; rfl
      have hb0 : bA ([] : List UInt8) = ⟨#[]⟩ := rfl
      rw [hb0]
      clear HC3 p0 p1 p2 pf hRs
      obtain ⟨y0, y1, y2⟩ := set3d W3 w.heap.size (.string ⟨#[]⟩) (.string ⟨#[]⟩) (.bool false) z0 z1 z2
      go_wp2
      refine bodyPost_ret (v := .tuple #[.agg #[.string ⟨#[]⟩, .string ⟨#[]⟩, .bool false], .bool false]) (by simp [results, Tryz.results113, go_sem, y0, y1, y2]) rfl ⟨Or.inr ⟨HX.out, _, _, _, rfl⟩, ?_⟩
      exact ((HN3.out.setCell (Nat.le_refl _) _).setCell (Nat.le_refl _) _).setCell (Nat.le_refl _) _
    | cons c v =>
      have hb0 : 0 < (bA (c :: v)).size := by rw [bA_size]; simp
      have hbc : (bA (c :: v))[0]'hb0 = c := by rw [getB]; simp [bA]
      have hlen : (((bA (c :: v)).size : Int) == 0) = false := by rw [beq_eq_false_iff_ne]; omega
      have HE3 : Hid ((bA (c :: v)).extract 1 (bA (c :: v)).size = bA v) := by show _ = _; rw [ext_tail, bA_list]; rfl
      by_cases h58 : c = 58
      · subst h58
        have g58 : ((((bA (58 :: v))[0]'hb0).toNat : Int) == 58) = true := by rw [hbc]; rfl
        have g58' : ((((bA (58 :: v))[0]'hb0).toNat : Int) != 58) = false := by rw [hbc]; rfl
        have HD2 : Hid (declP s = if fit60 (valS (tmL v)).1 then some ⟨bA LN, bA (valS (tmL v)).1, (valS (tmL v)).2⟩ else none) := by
          show _ = _
          rw [HD1.out]
          simp only [if_true]
          split <;> rfl
        have hvl : v.length ≤ 1048576 := by simp at hr2; omega
        have hv1 := tm_len v
        have HT2 : Hid (∀ W, Calls Tryz.prog 66 #[.string (bA v)] W fun e w' => e = .returned (.string (bA (tmL v))) ∧ w' = W) := fun W => by
          have := strimL (bA v) W (by rw [bA_size]; omega)
          rw [bA_list] at this
          exact this
        clear hbc HD1 hRs hr2
        generalize tmL v = V1 at *
        generalize bA v = BV at *
        generalize bA (58 :: v) = BR at *
        go_wp2_with fail
        rw [HE3.out]
        refine Calls.mono (HT2.out _) ?_
        rintro e w4 ⟨rfl, hq⟩
        have hq2 := hq.symm; clear hq; subst hq2
        have hV1 : (bA V1).size = V1.length := bA_size V1
        have hS1 : (bA V1).size ≤ 1048576 := by rw [hV1]; omega
        by_cases h10 : 10 ≤ V1.length
        · have h10I : (10 : Int) ≤ ((bA V1).size : Int) := by rw [hV1]; omega
          have HE4 : Hid ((bA V1).extract (V1.length - 10) V1.length = bA (V1.drop (V1.length - 10))) := by show _ = _; rw [← hV1, ext_tail, bA_list, hV1]
          have HE5 : Hid ((bA V1).extract 0 (V1.length - 10) = bA (V1.take (V1.length - 10))) := by show _ = _; rw [ext_head, bA_list]
          by_cases hm : V1.drop (V1.length - 10) = markL10
          · have hsuf : markL10.isSuffixOf V1 = true := by rw [suf_at]; exact decide_eq_true ⟨h10, hm⟩
            have hmb : ((bA (V1.drop (V1.length - 10))).toList == [33, 105, 109, 112, 111, 114, 116, 97, 110, 116]) = true := by
              rw [hm, ByteArray.toList_eq, bA_list]; rfl
            have HDE : Hid (declP s = if fit60 (tmL (V1.take (V1.length - 10))) then some ⟨bA LN, bA (tmL (V1.take (V1.length - 10))), true⟩ else none) := by
              show _ = _
              rw [HD2.out]
              unfold valS
              rw [if_pos hsuf]
            have HT3 : Hid (∀ W, Calls Tryz.prog 66 #[.string (bA (V1.take (V1.length - 10)))] W fun e w' => e = .returned (.string (bA (tmL (V1.take (V1.length - 10))))) ∧ w' = W) := fun W => by
              have := strimL (bA (V1.take (V1.length - 10))) W (by rw [bA_size, List.length_take]; omega)
              rw [bA_list] at this
              exact this
            have hvs := bA_size (tmL (V1.take (V1.length - 10)))
            have hvt := tm_len (V1.take (V1.length - 10))
            rw [List.length_take] at hvt
            generalize tmL (V1.take (V1.length - 10)) = VL at *
            have hVL : VL.length ≤ 1048576 := by omega
            obtain ⟨X8, hX8⟩ : ∃ X8, W3.setCell ⟨w2.heap.size, 2, none⟩ (.bool true) = X8 := ⟨_, rfl⟩
            have HX8 : Hid (W3.setCell ⟨w2.heap.size, 2, none⟩ (.bool true) = X8) := hX8
            have HC8 : Hid (Bx3 w2.heap.size X8 (.string (bA LN)) (.string ⟨#[]⟩) (.bool true)) := by show Bx3 _ _ _ _ _; rw [← hX8]; exact HC3.out.s2 _
            have HB8 : Hid (Bx3 w.heap.size X8 (.string ⟨#[]⟩) (.string ⟨#[]⟩) (.bool false)) := by show Bx3 _ _ _ _ _; rw [← hX8]; exact HB3.out.off _ _ _ (by omega)
            have HN8 : Hid (Nw w X8) := by show Nw _ _; rw [← hX8]; exact HN3.out.setCell (by show w.heap.size ≤ w2.heap.size; omega) _
            obtain ⟨X9, hX9⟩ : ∃ X9, X8.setCell ⟨w2.heap.size, 1, none⟩ (.string (bA VL)) = X9 := ⟨_, rfl⟩
            have HX9 : Hid (X8.setCell ⟨w2.heap.size, 1, none⟩ (.string (bA VL)) = X9) := hX9
            have HPB : Hid (Bx3 w2.heap.size X9 (.string (bA LN)) (.string (bA VL)) (.bool true)) := by show Bx3 _ _ _ _ _; rw [← hX9]; exact HC8.out.s1 _
            have HZB : Hid (Bx3 w.heap.size X9 (.string ⟨#[]⟩) (.string ⟨#[]⟩) (.bool false)) := by show Bx3 _ _ _ _ _; rw [← hX9]; exact HB8.out.off _ _ _ (by omega)
            have HN9 : Hid (Nw w X9) := by show Nw _ _; rw [← hX9]; exact HN8.out.setCell (by show w.heap.size ≤ w2.heap.size; omega) _
            clear hX8 hX9 hsuf hm hvt
            generalize bA (V1.take (V1.length - 10)) = B10 at *
            generalize bA (V1.drop (V1.length - 10)) = D10 at *
            generalize bA V1 = BV1 at *
            have hx1 := HE4.out
            go_wp2_with fail
            rw [HX8.out, HE5.out]
            refine Calls.mono (HT3.out _) ?_
            rintro e w5 ⟨rfl, hq⟩
            have hq2 := hq.symm; clear hq; subst hq2
            obtain ⟨r0, r1, r2, rf⟩ := HC8.out
            clear z0 z1 z2 zf p0 p1 p2 pf
            go_wp2
            rw [HX9.out]
            clear r0 r1 r2 rf
            obtain ⟨p0, p1, p2, pf⟩ := HPB.out
            obtain ⟨z0, z1, z2, zf⟩ := HZB.out
            obtain ⟨_, _, y2⟩ := set3d X9 w.heap.size (.string (bA LN)) (.string (bA VL)) (.bool true) z0 z1 z2
            have y0 := World.cell?_setCell_same X9 ⟨w.heap.size, 0, none⟩ (.string (bA LN)) z0
            have y1 := World.cell?_setCell_same (X9.setCell ⟨w.heap.size, 0, none⟩ (.string (bA LN))) ⟨w.heap.size, 1, none⟩ (.string (bA VL)) ((World.cell?_setCell_other _ _ _ _ (fun e => by injection e; omega)).trans z1)
            have q0 : X9.drew.cell? ⟨w2.heap.size, 0, none⟩ = some (.string (bA LN)) := p0
            have q1 : X9.drew.cell? ⟨w2.heap.size, 1, none⟩ = some (.string (bA VL)) := p1
            have q2 : X9.drew.cell? ⟨w2.heap.size, 2, none⟩ = some (.bool true) := p2
            have e0 : X9.drew.cell? ⟨w.heap.size, 0, none⟩ = some (.string ⟨#[]⟩) := z0
            have e1 : X9.drew.cell? ⟨w.heap.size, 1, none⟩ = some (.string ⟨#[]⟩) := z1
            have e2 : X9.drew.cell? ⟨w.heap.size, 2, none⟩ = some (.bool false) := z2
            have ef : ∀ o, X9.drew.frozen? ⟨w.heap.size, o, none⟩ = false := zf
            have HND : Hid (Nw w X9.drew) := Below.drew HN9.out
            have HIN : Hid (∀ W, Calls Tryz.prog 61 #[.int .i64 (VL.length : Int), .int .i64 1, .int .i64 60] W fun e w' => e = .returned (.bool (fit60 VL)) ∧ w' = W) := fun W => by
              have := in_any W VL.length 1 60
              have e : decide ((1 : Int) ≤ (VL.length : Int) ∧ (VL.length : Int) ≤ 60) = fit60 VL := by unfold fit60; rw [Bool.eq_iff_iff, decide_eq_true_eq, decide_eq_true_eq]; omega
              rw [e] at this
              exact this
            generalize fit60 VL = ft at *
            go_region_with (go_at_call 61; refine (HIN.out _).mono ?_; rintro e w' ⟨rfl, hq⟩; have hq2 := hq.symm; clear hq; subst hq2)
            all_goals
              go_wp2
              refine bodyPost_ret (v := .tuple #[.agg #[.string (bA LN), .string (bA VL), .bool true], .bool ft]) (by simp [results, Tryz.results113, go_sem, y0, y1, y2]) rfl ⟨?_, ((HND.out.setCell (Nat.le_refl _) _).setCell (Nat.le_refl _) _).setCell (Nat.le_refl _) _⟩
              cases ft with
              | true => exact Or.inl ⟨⟨bA LN, bA VL, true⟩, by rw [HDE.out]; rfl, rfl⟩
              | false => exact Or.inr ⟨by rw [HDE.out]; rfl, _, _, _, rfl⟩
          · have hsuf : markL10.isSuffixOf V1 = false := by rw [suf_at]; exact decide_eq_false (fun h => hm h.2)
            have hmb : ((bA (V1.drop (V1.length - 10))).toList == [33, 105, 109, 112, 111, 114, 116, 97, 110, 116]) = false := by
              rw [beq_eq_false_iff_ne, ByteArray.toList_eq, bA_list]; exact hm
            have HDE : Hid (declP s = if fit60 V1 then some ⟨bA LN, bA V1, false⟩ else none) := by
              show _ = _
              rw [HD2.out]
              unfold valS
              rw [hsuf]
              simp only [Bool.false_eq_true, if_false]
            obtain ⟨X9, hX9⟩ : ∃ X9, W3.setCell ⟨w2.heap.size, 1, none⟩ (.string (bA V1)) = X9 := ⟨_, rfl⟩
            have HX9 : Hid (W3.setCell ⟨w2.heap.size, 1, none⟩ (.string (bA V1)) = X9) := hX9
            have HPB : Hid (Bx3 w2.heap.size X9 (.string (bA LN)) (.string (bA V1)) (.bool false)) := by show Bx3 _ _ _ _ _; rw [← hX9]; exact HC3.out.s1 _
            have HZB : Hid (Bx3 w.heap.size X9 (.string ⟨#[]⟩) (.string ⟨#[]⟩) (.bool false)) := by show Bx3 _ _ _ _ _; rw [← hX9]; exact HB3.out.off _ _ _ (by omega)
            have HN9 : Hid (Nw w X9) := by show Nw _ _; rw [← hX9]; exact HN3.out.setCell (by show w.heap.size ≤ w2.heap.size; omega) _
            clear hX9 hsuf
            have hx1 := HE4.out
            generalize bA (V1.drop (V1.length - 10)) = D10 at *
            go_wp2
            rw [HX9.out]
            clear p0 p1 p2 pf z0 z1 z2 zf hx1 hmb
            generalize V1 = VL at *
            obtain ⟨p0, p1, p2, pf⟩ := HPB.out
            obtain ⟨z0, z1, z2, zf⟩ := HZB.out
            obtain ⟨_, _, y2⟩ := set3d X9 w.heap.size (.string (bA LN)) (.string (bA VL)) (.bool false) z0 z1 z2
            have y0 := World.cell?_setCell_same X9 ⟨w.heap.size, 0, none⟩ (.string (bA LN)) z0
            have y1 := World.cell?_setCell_same (X9.setCell ⟨w.heap.size, 0, none⟩ (.string (bA LN))) ⟨w.heap.size, 1, none⟩ (.string (bA VL)) ((World.cell?_setCell_other _ _ _ _ (fun e => by injection e; omega)).trans z1)
            have q0 : X9.drew.cell? ⟨w2.heap.size, 0, none⟩ = some (.string (bA LN)) := p0
            have q1 : X9.drew.cell? ⟨w2.heap.size, 1, none⟩ = some (.string (bA VL)) := p1
            have q2 : X9.drew.cell? ⟨w2.heap.size, 2, none⟩ = some (.bool false) := p2
            have e0 : X9.drew.cell? ⟨w.heap.size, 0, none⟩ = some (.string ⟨#[]⟩) := z0
            have e1 : X9.drew.cell? ⟨w.heap.size, 1, none⟩ = some (.string ⟨#[]⟩) := z1
            have e2 : X9.drew.cell? ⟨w.heap.size, 2, none⟩ = some (.bool false) := z2
            have ef : ∀ o, X9.drew.frozen? ⟨w.heap.size, o, none⟩ = false := zf
            have HND : Hid (Nw w X9.drew) := Below.drew HN9.out
            have HIN : Hid (∀ W, Calls Tryz.prog 61 #[.int .i64 (VL.length : Int), .int .i64 1, .int .i64 60] W fun e w' => e = .returned (.bool (fit60 VL)) ∧ w' = W) := fun W => by
              have := in_any W VL.length 1 60
              have e : decide ((1 : Int) ≤ (VL.length : Int) ∧ (VL.length : Int) ≤ 60) = fit60 VL := by unfold fit60; rw [Bool.eq_iff_iff, decide_eq_true_eq, decide_eq_true_eq]; omega
              rw [e] at this
              exact this
            generalize fit60 VL = ft at *
            go_region_with (go_at_call 61; refine (HIN.out _).mono ?_; rintro e w' ⟨rfl, hq⟩; have hq2 := hq.symm; clear hq; subst hq2)
            all_goals
              go_wp2
              refine bodyPost_ret (v := .tuple #[.agg #[.string (bA LN), .string (bA VL), .bool false], .bool ft]) (by simp [results, Tryz.results113, go_sem, y0, y1, y2]) rfl ⟨?_, ((HND.out.setCell (Nat.le_refl _) _).setCell (Nat.le_refl _) _).setCell (Nat.le_refl _) _⟩
              cases ft with
              | true => exact Or.inl ⟨⟨bA LN, bA VL, false⟩, by rw [HDE.out]; rfl, rfl⟩
              | false => exact Or.inr ⟨by rw [HDE.out]; rfl, _, _, _, rfl⟩
        · have h10I : ¬ ((10 : Int) ≤ ((bA V1).size : Int)) := by rw [hV1]; omega
          have hsuf : markL10.isSuffixOf V1 = false := by rw [suf_at]; exact decide_eq_false (fun h => h10 h.1)
          have HDE : Hid (declP s = if fit60 V1 then some ⟨bA LN, bA V1, false⟩ else none) := by
            show _ = _
            rw [HD2.out]
            unfold valS
            rw [hsuf]
            simp only [Bool.false_eq_true, if_false]
          obtain ⟨X9, hX9⟩ : ∃ X9, W3.setCell ⟨w2.heap.size, 1, none⟩ (.string (bA V1)) = X9 := ⟨_, rfl⟩
          have HX9 : Hid (W3.setCell ⟨w2.heap.size, 1, none⟩ (.string (bA V1)) = X9) := hX9
          have HPB : Hid (Bx3 w2.heap.size X9 (.string (bA LN)) (.string (bA V1)) (.bool false)) := by show Bx3 _ _ _ _ _; rw [← hX9]; exact HC3.out.s1 _
          have HZB : Hid (Bx3 w.heap.size X9 (.string ⟨#[]⟩) (.string ⟨#[]⟩) (.bool false)) := by show Bx3 _ _ _ _ _; rw [← hX9]; exact HB3.out.off _ _ _ (by omega)
          have HN9 : Hid (Nw w X9) := by show Nw _ _; rw [← hX9]; exact HN3.out.setCell (by show w.heap.size ≤ w2.heap.size; omega) _
          clear hX9 hsuf
          go_wp2
          rw [HX9.out]
          clear p0 p1 p2 pf z0 z1 z2 zf
          generalize V1 = VL at *
          obtain ⟨p0, p1, p2, pf⟩ := HPB.out
          obtain ⟨z0, z1, z2, zf⟩ := HZB.out
          obtain ⟨_, _, y2⟩ := set3d X9 w.heap.size (.string (bA LN)) (.string (bA VL)) (.bool false) z0 z1 z2
          have y0 := World.cell?_setCell_same X9 ⟨w.heap.size, 0, none⟩ (.string (bA LN)) z0
          have y1 := World.cell?_setCell_same (X9.setCell ⟨w.heap.size, 0, none⟩ (.string (bA LN))) ⟨w.heap.size, 1, none⟩ (.string (bA VL)) ((World.cell?_setCell_other _ _ _ _ (fun e => by injection e; omega)).trans z1)
          have q0 : X9.drew.cell? ⟨w2.heap.size, 0, none⟩ = some (.string (bA LN)) := p0
          have q1 : X9.drew.cell? ⟨w2.heap.size, 1, none⟩ = some (.string (bA VL)) := p1
          have q2 : X9.drew.cell? ⟨w2.heap.size, 2, none⟩ = some (.bool false) := p2
          have e0 : X9.drew.cell? ⟨w.heap.size, 0, none⟩ = some (.string ⟨#[]⟩) := z0
          have e1 : X9.drew.cell? ⟨w.heap.size, 1, none⟩ = some (.string ⟨#[]⟩) := z1
          have e2 : X9.drew.cell? ⟨w.heap.size, 2, none⟩ = some (.bool false) := z2
          have ef : ∀ o, X9.drew.frozen? ⟨w.heap.size, o, none⟩ = false := zf
          have HND : Hid (Nw w X9.drew) := Below.drew HN9.out
          have HIN : Hid (∀ W, Calls Tryz.prog 61 #[.int .i64 (VL.length : Int), .int .i64 1, .int .i64 60] W fun e w' => e = .returned (.bool (fit60 VL)) ∧ w' = W) := fun W => by
            have := in_any W VL.length 1 60
            have e : decide ((1 : Int) ≤ (VL.length : Int) ∧ (VL.length : Int) ≤ 60) = fit60 VL := by unfold fit60; rw [Bool.eq_iff_iff, decide_eq_true_eq, decide_eq_true_eq]; omega
            rw [e] at this
            exact this
          generalize fit60 VL = ft at *
          go_region_with (go_at_call 61; refine (HIN.out _).mono ?_; rintro e w' ⟨rfl, hq⟩; have hq2 := hq.symm; clear hq; subst hq2)
          all_goals
            go_wp2
            refine bodyPost_ret (v := .tuple #[.agg #[.string (bA LN), .string (bA VL), .bool false], .bool ft]) (by simp [results, Tryz.results113, go_sem, y0, y1, y2]) rfl ⟨?_, ((HND.out.setCell (Nat.le_refl _) _).setCell (Nat.le_refl _) _).setCell (Nat.le_refl _) _⟩
            cases ft with
            | true => exact Or.inl ⟨⟨bA LN, bA VL, false⟩, by rw [HDE.out]; rfl, rfl⟩
            | false => exact Or.inr ⟨by rw [HDE.out]; rfl, _, _, _, rfl⟩
      · have g58 : ((((bA (c :: v))[0]'hb0).toNat : Int) == 58) = false := by rw [hbc]; exact (byte_ne 58 (by omega) h58).1
        have g58' : ((((bA (c :: v))[0]'hb0).toNat : Int) != 58) = true := by rw [hbc]; exact (byte_ne 58 (by omega) h58).2
        have HX : Hid (declP s = none) := by show declP s = none; rw [HD1.out]; simp only [if_neg h58]; rfl
        clear HC3 p0 p1 p2 pf hbc HD1 hRs h58
        generalize bA (c :: v) = BR at *
        obtain ⟨y0, y1, y2⟩ := set3d W3 w.heap.size (.string ⟨#[]⟩) (.string ⟨#[]⟩) (.bool false) z0 z1 z2
        go_wp2
        refine bodyPost_ret (v := .tuple #[.agg #[.string ⟨#[]⟩, .string ⟨#[]⟩, .bool false], .bool false]) (by simp [results, Tryz.results113, go_sem, y0, y1, y2]) rfl ⟨Or.inr ⟨HX.out, _, _, _, rfl⟩, ?_⟩
        exact ((HN3.out.setCell (Nat.le_refl _) _).setCell (Nat.le_refl _) _).setCell (Nat.le_refl _) _
end Go.Proofs.YtnkmdmmlpidcmaaGreatDoor
