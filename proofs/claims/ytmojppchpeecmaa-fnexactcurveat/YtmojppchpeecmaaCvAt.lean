/-
  CurveAt of both, and the walk of its law; each theorem names its conditions.
-/
import Derived.Test.YtmojppchpeecmaaICv
import Derived.Test.YtmojppchpeecmaaBx
namespace Go.Proofs.Ytmojppchpeecmaa
open Go.ChangeShapes Go.WideShapes Go.ChangeAt Go.RowKit
set_option linter.unusedVariables false

/-- What CurveAt answers. -/
def cvV (l : List Pnt) (k : Int) : Pnt × Bool := if l.length = 4 ∧ (0 ≤ k ∧ k ≤ 8) ∧ ptsB l = true then (curveP l k, true) else ((0, 0), false)
def CvSays (f : FuncId) (l : List Pnt) (k : Int) : Prop := ∀ w a c, Pts w a l → Calls Try.prog f #[.slice a l.length c, .int .i64 k] w fun e w' => e = .returned (.tuple #[.agg #[.int .i64 (cvV l k).1.1, .int .i64 (cvV l k).1.2], .bool (cvV l k).2]) ∧ Kp w w'
set_option maxHeartbeats 4000000 in
theorem scurveAt (l : List Pnt) (k : Int) (hl : l.length ≤ 1048576) : CvSays 11 l k := by
  intro w a c hr
  by_cases c1 : l.length = 4
  · rw [c1]
    by_cases c2 : 0 ≤ k ∧ k ≤ 8
    · have hin : Hid _ := fun w => in_any w k 0 8
      rw [decide_eq_true c2] at hin
      have HR : ∀ w', Nw w w' → Hid (Pts w' a l) := fun w' h => hr.nw h
      clear hr
      obtain ⟨V, hV⟩ : ∃ V, ptsB l = V := ⟨_, rfl⟩
      have HV : Hid (ptsB l = V) := hV
      obtain ⟨r, hrr⟩ : ∃ r, cvV l k = r := ⟨_, rfl⟩
      have HRR : Hid (cvV l k = r) := hrr
      rw [hrr]
      clear hV hrr
      obtain ⟨⟨rx, ry⟩, rb⟩ := r
      simp only
      go_enter Try.func11, Try.ntmps11
      go_wp2_with fail
      refine (hin.out _).mono ?_
      rintro e w1 ⟨rfl, rfl⟩
      go_wp2
      go_loopw [20] (fun i wr => ∃ j : Nat, j ≤ 4 ∧ i = .int .i64 j ∧ (∀ m, m < j → ptB (ptAt l m) = true) ∧ Kp (w.alloc (.cells #[.int .i64 0, .int .i64 0] 27)) wr) (fun i _ => 4 - (intOf i).toNat)
      case atStart => exact ⟨0, Nat.zero_le _, rfl, fun j hj => absurd hj (by omega), Kp.refl _⟩
      case round =>
        obtain ⟨j, hj, rfl, ha, hw⟩ := hrel
        have HA : Hid _ := ha
        have HW : Hid _ := hw
        obtain ⟨z0, z1, zf, hz⟩ := zbox w wr _ hw
        clear ha hw
        by_cases hlt : j < 4
        · rcases (HR wr (kp_box HW.out).nw).out with h | ⟨b, off, rfl, hb, hc⟩
          · rw [h] at c1; simp at c1
          obtain ⟨q0, q1⟩ := hc j (by omega)
          clear hc
          obtain ⟨p, hp⟩ : ∃ p, ptAt l j = p := ⟨_, rfl⟩
          have HP : Hid (ptAt l j = p) := hp
          rw [hp] at q0 q1
          clear hp
          obtain ⟨x, y⟩ := p
          have hcall : Hid _ := fun w => sgoodP w x y
          cases hf : ptB (x, y) with
          | true =>
            rw [hf] at hcall
            have HF : Hid (ptB (x, y) = true) := hf
            clear hf
            go_wp2_with fail
            refine (hcall.out _).mono ?_
            rintro e w1 ⟨rfl, k1⟩
            have K1 : Hid _ := Kp.trans (Kp.alloc HW.out _ _) k1
            clear k1
            go_wp2
            go_roundw
            case rel =>
              refine ⟨j + 1, by omega, by go_num, fun m hm => ?_, K1.out⟩
              rcases Nat.lt_succ_iff_lt_or_eq.1 hm with h | h
              · exact HA.out m h
              · rw [h, HP.out]; exact HF.out
            case measure => simp [intOf]; omega
          | false =>
            rw [hf] at hcall
            have HF : Hid (rx = 0 ∧ ry = 0 ∧ rb = false) := by
              have h1 : ptsB l = false := all_false _ (0, 0) l j (by omega) (show ptB (ptAt l j) = false by rw [HP.out]; exact hf)
              have h2 := HRR.out
              unfold cvV at h2
              rw [if_neg (fun h => by rw [h1] at h; cases h.2.2)] at h2
              injection h2 with h3 h4
              injection h3 with h5 h6
              exact ⟨h5.symm, h6.symm, h4.symm⟩
            clear hf
            go_wp2_with fail
            refine (hcall.out _).mono ?_
            rintro e w1 ⟨rfl, k1⟩
            have K1 : Hid _ := Kp.trans (Kp.alloc HW.out _ _) k1
            clear k1 z0 z1 zf hz
            obtain ⟨z0, z1, zf, hz⟩ := zbox w w1 _ K1.out
            go_wp2
            obtain ⟨e0, e1, e2⟩ := HF.out
            obtain ⟨y0, y1⟩ := set2 w1 w.heap.size (.int .i64 0) (.int .i64 0) z0 z1
            refine bodyPost_ret (v := .tuple #[.agg #[.int .i64 0, .int .i64 0], .bool false]) (by simp [results, Try.results11, go_sem, y0, y1]) rfl ⟨by rw [e0, e1, e2], ?_⟩
            exact ((kp_box K1.out).setCell (Nat.le_refl _) _).setCell (Nat.le_refl _) _
        · have hg : ptsB l = true := all_true _ (0, 0) _ (fun m hm => HA.out m (by omega))
          have hS : Hid _ := fun (w : World) (a : Option Addr) (h : Pts w a l) => scurve_any w a c l k c1 h hg c2.1 c2.2
          have HG : Hid (ptB (curveP l k) = true) := curve_good c1 hg c2.1 c2.2
          have HF : Hid ((curveP l k).1 = rx ∧ (curveP l k).2 = ry ∧ rb = true) := by
            have h2 := HRR.out
            unfold cvV at h2
            rw [if_pos ⟨c1, c2, hg⟩] at h2
            injection h2 with h3 h4
            exact ⟨by rw [h3], by rw [h3], h4.symm⟩
          have HQ : Hid _ := HR wr (kp_box HW.out).nw
          clear hg HA HV HRR
          unfold ptV at hS
          obtain ⟨P, hP⟩ : ∃ P, curveP l k = P := ⟨_, rfl⟩
          rw [hP] at hS HG HF
          clear hP
          obtain ⟨px, py⟩ := P
          have hcall : Hid _ := fun w => sgoodP w px py
          rw [HG.out] at hcall
          go_wp2_with fail
          refine Calls.mono (hS.out _ _ HQ.out) ?_
          rintro e w1 ⟨rfl, k1⟩
          have K1 : Hid _ := Kp.trans HW.out k1
          clear k1 z0 z1 zf hz
          obtain ⟨z0, z1, zf, hz⟩ := zbox w w1 _ K1.out
          simp only
          go_wp2_with fail
          refine (hcall.out _).mono ?_
          rintro e w2 ⟨rfl, k2⟩
          have x0 := (k2.cells.1 w1.heap.size 0 (by simp)).trans (by simp : _ = some (.int .i64 px))
          have x1 := (k2.cells.1 w1.heap.size 1 (by simp)).trans (by simp : _ = some (.int .i64 py))
          have K2 : Hid _ := Kp.trans (Kp.alloc K1.out _ _) k2
          clear k2 z0 z1 zf hz
          obtain ⟨z0, z1, zf, hz⟩ := zbox w w2 _ K2.out
          go_wp2
          obtain ⟨e0, e1, e2⟩ := HF.out
          obtain ⟨y0, y1⟩ := set2 w2 w.heap.size (.int .i64 px) (.int .i64 py) z0 z1
          refine bodyPost_ret (v := .tuple #[.agg #[.int .i64 px, .int .i64 py], .bool true]) (by simp [results, Try.results11, go_sem, y0, y1]) rfl ⟨by rw [← e0, ← e1, e2], ?_⟩
          exact ((kp_box K2.out).setCell (Nat.le_refl _) _).setCell (Nat.le_refl _) _
    · have hin : Hid _ := fun w => in_any w k 0 8
      rw [decide_eq_false c2] at hin
      have e : cvV l k = ((0, 0), false) := by unfold cvV; rw [if_neg (fun h => c2 h.2.1)]
      rw [e]
      clear e hr
      go_enter Try.func11, Try.ntmps11
      go_wp2_with fail
      refine (hin.out _).mono ?_
      rintro e w1 ⟨rfl, rfl⟩
      go_wp2
      exact bodyPost_ret (v := .tuple #[.agg #[.int .i64 0, .int .i64 0], .bool false]) (by simp [results, Try.results11, go_sem]) rfl ⟨rfl, (Kp.refl w).alloc _ _⟩
  · have e : cvV l k = ((0, 0), false) := by unfold cvV; rw [if_neg (fun h => c1 h.1)]
    have hne : ((l.length : Int) != 4) = true := by simp; omega
    rw [e]
    clear e hr
    go_enter Try.func11, Try.ntmps11
    go_wp2
    exact bodyPost_ret (v := .tuple #[.agg #[.int .i64 0, .int .i64 0], .bool false]) (by simp [results, Try.results11, go_sem]) rfl ⟨rfl, (Kp.refl w).alloc _ _⟩
set_option maxHeartbeats 4000000 in
theorem icurveAt (l : List Pnt) (k : Int) (hl : l.length ≤ 1048576) : CvSays 10 l k := by
  intro w a c hr
  by_cases c1 : l.length = 4
  · have hG : Hid _ := fun (w : World) (a : Option Addr) (h : Pts w a l) => igoodPs w a c l hl h
    rw [c1] at hG ⊢
    have HR : ∀ w', Nw w w' → Hid (Pts w' a l) := fun w' h => hr.nw h
    have H1 : Hid _ := HR (w.alloc (.cells #[.int .i64 0, .int .i64 0] 27)) ((Below.refl _ _).alloc (Nat.le_refl _) _)
    clear hr
    cases hg : ptsB l with
    | false =>
      rw [hg] at hG
      have e : cvV l k = ((0, 0), false) := by unfold cvV; rw [if_neg (fun h => by rw [hg] at h; cases h.2.2)]
      rw [e]
      clear e hg
      go_enter Try.func10, Try.ntmps10
      go_wp2_with fail
      refine Calls.mono (hG.out _ _ H1.out) ?_
      rintro e w1 ⟨rfl, k1⟩
      have K1 : Hid _ := k1
      clear k1
      obtain ⟨z0, z1, zf, hz⟩ := zbox w w1 _ K1.out
      go_wp2
      obtain ⟨y0, y1⟩ := set2 w1 w.heap.size (.int .i64 0) (.int .i64 0) z0 z1
      refine bodyPost_ret (v := .tuple #[.agg #[.int .i64 0, .int .i64 0], .bool false]) (by simp [results, Try.results10, go_sem, y0, y1]) rfl ⟨rfl, ?_⟩
      exact ((kp_box K1.out).setCell (Nat.le_refl _) _).setCell (Nat.le_refl _) _
    | true =>
      rw [hg] at hG
      by_cases c2 : 0 ≤ k ∧ k ≤ 8
      · have e : cvV l k = (curveP l k, true) := by unfold cvV; rw [if_pos ⟨c1, c2, hg⟩]
        rw [e]
        have hS : Hid _ := fun (w : World) (a : Option Addr) (h : Pts w a l) => icurve_any w a c l k c1 h hg c2.1 c2.2
        unfold ptV at hS
        have hk1 : decide (k < 0) = false := by simp; omega
        have hk2 : decide (8 < k) = false := by simp; omega
        clear e hg
        generalize curveP l k = P at *
        obtain ⟨px, py⟩ := P
        simp only at *
        go_enter Try.func10, Try.ntmps10
        go_wp2_with fail
        refine Calls.mono (hG.out _ _ H1.out) ?_
        rintro e w1 ⟨rfl, k1⟩
        have K1 : Hid _ := k1
        have H2 : Hid _ := HR w1 (kp_box k1).nw
        clear k1
        go_wp2_with fail
        refine Calls.mono (hS.out _ _ H2.out) ?_
        rintro e w2 ⟨rfl, k2⟩
        have K2 : Hid _ := Kp.trans K1.out k2
        clear k2
        obtain ⟨z0, z1, zf, hz⟩ := zbox w w2 _ K2.out
        go_wp2
        obtain ⟨y0, y1⟩ := set2 w2 w.heap.size (.int .i64 px) (.int .i64 py) z0 z1
        refine bodyPost_ret (v := .tuple #[.agg #[.int .i64 px, .int .i64 py], .bool true]) (by simp [results, Try.results10, go_sem, y0, y1]) rfl ⟨rfl, ?_⟩
        exact ((kp_box K2.out).setCell (Nat.le_refl _) _).setCell (Nat.le_refl _) _
      · have e : cvV l k = ((0, 0), false) := by unfold cvV; rw [if_neg (fun h => c2 h.2.1)]
        rw [e]
        clear e hg
        by_cases c3 : k < 0
        · have hk1 : decide (k < 0) = true := by simp; omega
          go_enter Try.func10, Try.ntmps10
          go_wp2_with fail
          refine Calls.mono (hG.out _ _ H1.out) ?_
          rintro e w1 ⟨rfl, k1⟩
          have K1 : Hid _ := k1
          clear k1
          obtain ⟨z0, z1, zf, hz⟩ := zbox w w1 _ K1.out
          go_wp2
          obtain ⟨y0, y1⟩ := set2 w1 w.heap.size (.int .i64 0) (.int .i64 0) z0 z1
          refine bodyPost_ret (v := .tuple #[.agg #[.int .i64 0, .int .i64 0], .bool false]) (by simp [results, Try.results10, go_sem, y0, y1]) rfl ⟨rfl, ?_⟩
          exact ((kp_box K1.out).setCell (Nat.le_refl _) _).setCell (Nat.le_refl _) _
        · have hk1 : decide (k < 0) = false := by simp; omega
          have hk2 : decide (8 < k) = true := by simp; omega
          go_enter Try.func10, Try.ntmps10
          go_wp2_with fail
          refine Calls.mono (hG.out _ _ H1.out) ?_
          rintro e w1 ⟨rfl, k1⟩
          have K1 : Hid _ := k1
          clear k1
          obtain ⟨z0, z1, zf, hz⟩ := zbox w w1 _ K1.out
          go_wp2
          obtain ⟨y0, y1⟩ := set2 w1 w.heap.size (.int .i64 0) (.int .i64 0) z0 z1
          refine bodyPost_ret (v := .tuple #[.agg #[.int .i64 0, .int .i64 0], .bool false]) (by simp [results, Try.results10, go_sem, y0, y1]) rfl ⟨rfl, ?_⟩
          exact ((kp_box K1.out).setCell (Nat.le_refl _) _).setCell (Nat.le_refl _) _
  · have e : cvV l k = ((0, 0), false) := by unfold cvV; rw [if_neg (fun h => c1 h.1)]
    have hne : ((l.length : Int) != 4) = true := by simp; omega
    rw [e]
    clear e hr
    go_enter Try.func10, Try.ntmps10
    go_wp2
    exact bodyPost_ret (v := .tuple #[.agg #[.int .i64 0, .int .i64 0], .bool false]) (by simp [results, Try.results10, go_sem]) rfl ⟨rfl, (Kp.refl w).alloc _ _⟩
end Go.Proofs.Ytmojppchpeecmaa
