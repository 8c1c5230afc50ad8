/-
  Fine places, of both: FineOf; each theorem names its conditions.
-/
import Derived.Test.YtllljknpicmmjaaFiR
namespace Go.Proofs.Ytllljknpicmmjaa
open Go.ChangeShapes Go.WideShapes Go.ChangeAt Go.RowKit
set_option linter.unusedVariables false

set_option maxRecDepth 100000 in
set_option maxHeartbeats 2000000 in
theorem ifineP (w : World) (x y : Int) (hx : nr x) (hy : nr y) : Calls Try.prog 51 #[.agg #[.int .i64 x, .int .i64 y]] w fun e w' => e = .returned (.agg #[.int .i64 (fnV x), .int .i64 (fnV y)]) ∧ Kp w w' := by
  have HX : Hid (nr x) := hx
  have HY : Hid (nr y) := hy
  clear hx hy
  obtain ⟨W, hW⟩ : ∃ W, (w.alloc (.cells #[.int .i64 x, .int .i64 y] 37)).alloc (.cells #[.int .i64 0, .int .i64 0] 37) = W := ⟨_, rfl⟩
  have KW : Hid (Kp w W) := by show Kp w W; rw [← hW]; exact ((Kp.refl w).alloc _ _).alloc _ _
  have HB : Hid _ := boxes2 (w1 := W.drew) (t1 := 37) (t2 := 37) (w := w) (ax := x) (ay := y) (bx := 0) (by' := 0) (by rw [hW]; exact (Kp.refl W).drew)
  have HF : Hid (∀ o, W.drew.frozen? ⟨w.heap.size + 1, o, none⟩ = false) := fun o => by
    show W.frozen? _ = false
    rw [← hW]
    have e : w.heap.size + 1 = (w.alloc (.cells #[.int .i64 x, .int .i64 y] 37)).heap.size := by simp
    rw [e]
    exact World.frozen?_alloc_at _ _ _ _ rfl
  have HW : Hid (_ = W) := hW
  clear hW
  go_enter Try.func51, Try.ntmps51
  go_wp2
  rw [HW.out]
  obtain ⟨⟨q0, q1⟩, ⟨r0, r1⟩, hs⟩ := HB.out
  refine reg_change (ops' := opsOf 1 Try.f51) (by kernel_rfl) ?_
  refine FB.run ⟨x, y, w.heap.size, w.heap.size + 1, W.drew, _⟩ ⟨q0, q1, HX.out, HY.out, ⟨_, r0⟩, ⟨_, r1⟩, HF.out, rfl, rfl, rfl⟩ W (Kp.refl _) ?_
  rintro γ w9 ⟨w1, k1, rfl⟩
  have K1 : Hid (Kp w w1) := Kp.trans KW.out (undrew k1)
  have z0 := rq_at k1 r0
  have z1 := rq_at k1 r1
  clear k1 q0 q1 r0 r1 hs
  obtain ⟨y0, y1⟩ := set2 w1 (w.heap.size + 1) (.int .i64 (fnV x)) (.int .i64 (fnV y)) z0 z1
  simp only [Act.put, List.setIfInBounds_toArray, List.set_cons_zero, List.set_cons_succ]
  go_wp2
  refine bodyPost_ret (v := .agg #[.int .i64 (fnV x), .int .i64 (fnV y)]) (by simp [results, Try.results51, go_sem, y0, y1]) rfl ⟨rfl, ?_⟩
  exact (K1.out.setCell (by simp) _).setCell (by simp) _
/-- What FineOf answers. -/
def fiV (x y : Int) : (Int × Int) × Bool := if nearB (x, y) then ((fnV x, fnV y), true) else ((0, 0), false)
theorem pts1_new (W : World) (x y : Int) (t : TypeId) : Pts (W.alloc (.cells #[.int .i64 x, .int .i64 y] t)) (some ⟨W.heap.size, 0, none⟩) [(x, y)] := by
  refine Or.inr ⟨_, 0, rfl, by simp, fun i hi => ?_⟩
  have : i = 0 := by simp at hi; omega
  subst this
  simp [ptAt]
theorem near_one (p : Pnt) : nearsB [p] = nearB p := by simp [nearsB]
set_option maxRecDepth 100000 in
set_option maxHeartbeats 2000000 in
theorem sfineOf (w : World) (x y : Int) : Calls Try.prog 17 #[.agg #[.int .i64 x, .int .i64 y]] w fun e w' => e = .returned (.tuple #[.int .i64 (fiV x y).1.1, .int .i64 (fiV x y).1.2, .bool (fiV x y).2]) ∧ Kp w w' := by
  have HN : Hid _ := fun w => snear w x y
  unfold fiV
  cases h : nearB (x, y) with
  | false =>
    rw [h] at HN
    simp only [Bool.false_eq_true, if_false]
    go_enter Try.func17, Try.ntmps17
    go_wp2_with fail
    refine Calls.mono (HN.out _) ?_
    rintro e w1 ⟨rfl, k1⟩
    have K1 : Hid (Kp w w1) := Kp.trans ((Kp.refl w).alloc _ _) k1
    clear k1
    go_wp2
    exact bodyPost_ret (v := .tuple #[.int .i64 0, .int .i64 0, .bool false]) (by simp [results, Try.results17, go_sem]) rfl ⟨rfl, K1.out⟩
  | true =>
    rw [h] at HN
    simp only [if_true]
    have HR : Hid _ := nearB_nr h
    clear h
    go_enter Try.func17, Try.ntmps17
    go_wp2_with fail
    refine Calls.mono (HN.out _) ?_
    rintro e w1 ⟨rfl, k1⟩
    have K1 : Hid (Kp w w1) := Kp.trans ((Kp.refl w).alloc _ _) k1
    have KB : Hid (Kp (w.alloc (.cells #[.int .i64 x, .int .i64 y] 37)) w1.drew) := k1.drew
    clear k1
    go_wp2
    have q0 : w1.drew.cell? ⟨w.heap.size, 0, none⟩ = some (.int .i64 x) := (KB.out.cells.1 _ _ (by simp)).trans (by simp)
    have q1 : w1.drew.cell? ⟨w.heap.size, 1, none⟩ = some (.int .i64 y) := (KB.out.cells.1 _ _ (by simp)).trans (by simp)
    refine reg_change (ops' := opsOf 3 Try.f17) (by kernel_rfl) ?_
    refine FA.run ⟨x, y, w.heap.size, w1.drew, _⟩ ⟨q0, q1, HR.out.1, HR.out.2, rfl, rfl⟩ w1 (Kp.refl _) ?_
    rintro γ w9 k9
    have K9 : Hid (Kp w w9) := Kp.trans K1.out (undrew k9)
    clear k9 q0 q1
    simp only [Act.put, List.setIfInBounds_toArray, List.set_cons_zero, List.set_cons_succ]
    go_wp2
    exact bodyPost_ret (v := .tuple #[.int .i64 (fnV x), .int .i64 (fnV y), .bool true]) (by simp [results, Try.results17, go_sem]) rfl ⟨rfl, K9.out⟩
set_option maxRecDepth 100000 in
set_option maxHeartbeats 2000000 in
theorem ifineOf (w : World) (x y : Int) : Calls Try.prog 19 #[.agg #[.int .i64 x, .int .i64 y]] w fun e w' => e = .returned (.tuple #[.int .i64 (fiV x y).1.1, .int .i64 (fiV x y).1.2, .bool (fiV x y).2]) ∧ Kp w w' := by
  obtain ⟨W, hW⟩ : ∃ W, w.alloc (.cells #[.int .i64 x, .int .i64 y] 37) = W := ⟨_, rfl⟩
  have hsz : W.heap.size = w.heap.size + 1 := by rw [← hW]; simp
  have KW : Hid (Kp w W) := by show Kp w W; rw [← hW]; exact (Kp.refl w).alloc _ _
  have C0 : Hid (W.cell? ⟨w.heap.size, 0, none⟩ = some (.int .i64 x) ∧ W.cell? ⟨w.heap.size, 1, none⟩ = some (.int .i64 y) ∧ w.heap.size < W.heap.size) := by show _ ∧ _ ∧ _; rw [← hW]; exact ⟨by simp, by simp, by simp⟩
  have HN : Hid (∀ (t : TypeId), Calls Try.prog 50 #[.slice (some ⟨w.heap.size + 1, 0, none⟩) 1 1] (W.alloc (.cells #[.int .i64 x, .int .i64 y] t)) fun e w' => e = .returned (.bool (nearB (x, y))) ∧ Kp (W.alloc (.cells #[.int .i64 x, .int .i64 y] t)) w') := fun t => by
    have := inear (W.alloc (.cells #[.int .i64 x, .int .i64 y] t)) (some ⟨W.heap.size, 0, none⟩) 1 [(x, y)] (by simp) (pts1_new W x y t)
    rw [near_one, hsz] at this
    exact this
  have HW : Hid (_ = W) := hW
  clear hW hsz
  have HP : Hid (nr x → nr y → ∀ w, _) := fun h1 h2 w => ifineP w x y h1 h2
  unfold fiV
  cases h : nearB (x, y) with
  | false =>
    rw [h] at HN
    simp only [Bool.false_eq_true, if_false]
    go_enter Try.func19, Try.ntmps19
    go_wp2_with fail
    rw [HW.out]
    refine Calls.mono (HN.out _) ?_
    rintro e w1 ⟨rfl, k1⟩
    have K1 : Hid (Kp w w1) := Kp.trans KW.out (Kp.trans ((Kp.refl W).alloc _ _) k1)
    clear k1
    go_wp2
    exact bodyPost_ret (v := .tuple #[.int .i64 0, .int .i64 0, .bool false]) (by simp [results, Try.results19, go_sem]) rfl ⟨rfl, K1.out⟩
  | true =>
    rw [h] at HN
    simp only [if_true]
    have HQ : Hid _ := HP.out (nearB_nr h).1 (nearB_nr h).2
    clear h HP
    generalize fnV x = X at *
    generalize fnV y = Y at *
    go_enter Try.func19, Try.ntmps19
    go_wp2_with fail
    rw [HW.out]
    refine Calls.mono (HN.out _) ?_
    rintro e w1 ⟨rfl, k1⟩
    have K1 : Hid (Kp w w1) := Kp.trans KW.out (Kp.trans ((Kp.refl W).alloc _ _) k1)
    have kb : Kp W w1 := Kp.trans ((Kp.refl _).alloc _ _) k1
    have q0 : w1.cell? ⟨w.heap.size, 0, none⟩ = some (.int .i64 x) := (kb.cells.1 _ _ C0.out.2.2).trans C0.out.1
    have q1 : w1.cell? ⟨w.heap.size, 1, none⟩ = some (.int .i64 y) := (kb.cells.1 _ _ C0.out.2.2).trans C0.out.2.1
    clear k1 kb
    go_wp2_with fail
    refine Calls.mono (HQ.out _) ?_
    rintro e w2 ⟨rfl, k2⟩
    have K2 : Hid (Kp w w2) := Kp.trans K1.out k2
    clear k2 q0 q1
    go_wp2
    go_quiet (fail)
    go_wp2
    exact bodyPost_ret (v := .tuple #[.int .i64 X, .int .i64 Y, .bool true]) (by simp [results, Try.results19, go_sem]) rfl ⟨rfl, (K2.out.alloc _ _).drewN _⟩
end Go.Proofs.Ytllljknpicmmjaa
