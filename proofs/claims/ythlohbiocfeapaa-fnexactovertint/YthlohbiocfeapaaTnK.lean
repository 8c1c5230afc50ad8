/-
  TintOf, by the program; each theorem names its conditions.
-/
import Derived.Test.YthlohbiocfeapaaTnJ
namespace Go.Proofs.Ythlohbiocfeapaa
open Go.ChangeShapes Go.WideShapes Go.ChangeAt Go.RowKit
set_option linter.unusedVariables false

theorem coV_eq (r g b p : Int) : coV r g b p = if tnB ⟨r, g, b, 255⟩ && inN p 0 256 then (colT r g b p, true) else (noE, false) := by
  unfold coV tnB
  have e : inN 255 0 255 = true := by decide
  rw [e, Bool.true_and, Bool.and_assoc, Bool.and_assoc]
theorem col255 (a : Int) : colC 255 a = a := by unfold colC; omega
set_option maxRecDepth 100000 in
set_option maxHeartbeats 4000000 in
theorem itintOf (w : World) (r g b p : Int) :
    Calls Try.prog 26 #[.agg #[.int .i64 r, .int .i64 g, .int .i64 b], .int .i64 p] w fun e w' => e = .returned (.tuple #[edV (coV r g b p).1, .bool (coV r g b p).2]) ∧ Kp w w' := by
  rw [coV_eq]
  have H1 : Hid _ := fun w => igoodTn w ⟨r, g, b, 255⟩
  have H2 : Hid _ := fun w => ipart w p
  unfold edV at H1 ⊢
  simp only at H1
  obtain ⟨W, hW⟩ : ∃ W, ((w.alloc (.cells #[.int .i64 r, .int .i64 g, .int .i64 b] 41)).alloc (.cells #[.int .i64 0, .int .i64 0, .int .i64 0, .int .i64 0] 24)).alloc (.cells #[.int .i64 r, .int .i64 g, .int .i64 b, .int .i64 255] 24) = W := ⟨_, rfl⟩
  have KW : Hid (Kp w W) := by show Kp w W; rw [← hW]; exact (((Kp.refl w).alloc _ _).alloc _ _).alloc _ _
  have HZ : Hid (QB W (w.heap.size + 1) noE) := by
    show QB _ _ _
    rw [← hW]
    have := QB.new (w.alloc (.cells #[.int .i64 r, .int .i64 g, .int .i64 b] 41)) noE 24
    simp only [World.size_alloc] at this
    exact this.nw (QBnw _ _)
  have HB : Hid (QB W (w.heap.size + 1 + 1) ⟨r, g, b, 255⟩) := by
    show QB _ _ _
    rw [← hW]
    have := QB.new ((w.alloc (.cells #[.int .i64 r, .int .i64 g, .int .i64 b] 41)).alloc (.cells #[.int .i64 0, .int .i64 0, .int .i64 0, .int .i64 0] 24)) ⟨r, g, b, 255⟩ 24
    simp only [World.size_alloc] at this
    exact this
  have HF : Hid (∀ w1, Kp W w1 → w1.cell? ⟨w.heap.size + 1 + 1, 0, none⟩ = some (.int .i64 r) ∧ w1.cell? ⟨w.heap.size + 1 + 1, 1, none⟩ = some (.int .i64 g) ∧ w1.cell? ⟨w.heap.size + 1 + 1, 2, none⟩ = some (.int .i64 b) ∧ w1.cell? ⟨w.heap.size + 1 + 1, 3, none⟩ = some (.int .i64 255)) := fun w1 k => by
    have h := QB.nw HB.out k.nw
    exact ⟨h.c0, h.c1, h.c2, h.c3⟩
  have HW : Hid (_ = W) := hW
  clear hW
  cases c1 : tnB ⟨r, g, b, 255⟩ with
  | false =>
    rw [c1] at H1
    simp only [Bool.false_and, Bool.false_eq_true, if_false]
    simp only [noE]
    go_enter Try.func26, Try.ntmps26
    go_wp2_with fail
    rw [HW.out]
    refine Calls.mono (H1.out _) ?_
    rintro e w1 ⟨rfl, k1⟩
    have K1 : Hid (Kp W w1) := k1
    clear k1
    obtain ⟨q0, q1, q2, q3⟩ := HF.out w1 K1.out
    obtain ⟨z0, z1, z2, z3, zf⟩ := QB.nw HZ.out K1.out.nw
    simp only [noE] at z0 z1 z2 z3
    obtain ⟨y0, y1, y2, y3⟩ := set4 w1 (w.heap.size + 1) (.int .i64 0) (.int .i64 0) (.int .i64 0) (.int .i64 0) z0 z1 z2 z3
    go_wp2
    refine bodyPost_ret (v := .tuple #[.agg #[.int .i64 0, .int .i64 0, .int .i64 0, .int .i64 0], .bool false]) (by simp [results, Try.results26, go_sem, y0, y1, y2, y3]) rfl ⟨rfl, ?_⟩
    exact ((((Kp.trans KW.out K1.out).setCell (by first | (simp; done) | (simp; omega)) _).setCell (by first | (simp; done) | (simp; omega)) _).setCell (by first | (simp; done) | (simp; omega)) _).setCell (by first | (simp; done) | (simp; omega)) _
  | true =>
    rw [c1] at H1
    have hb := tnB_some c1
    simp only at hb
    cases c2 : inN p 0 256 with
    | false =>
      rw [c2] at H2
      simp only [Bool.and_false, Bool.false_eq_true, if_false]
      simp only [noE]
      clear hb
      go_enter Try.func26, Try.ntmps26
      go_wp2_with fail
      rw [HW.out]
      refine Calls.mono (H1.out _) ?_
      rintro e w1 ⟨rfl, k1⟩
      have K1 : Hid (Kp W w1) := k1
      clear k1
      obtain ⟨q0, q1, q2, q3⟩ := HF.out w1 K1.out
      go_wp2_with fail
      refine Calls.mono (H2.out _) ?_
      rintro e w2 ⟨rfl, k2⟩
      have K2 : Hid (Kp W w2) := by rw [k2]; exact K1.out
      clear k2
      obtain ⟨z0, z1, z2, z3, zf⟩ := QB.nw HZ.out K2.out.nw
      simp only [noE] at z0 z1 z2 z3
      obtain ⟨y0, y1, y2, y3⟩ := set4 w2 (w.heap.size + 1) (.int .i64 0) (.int .i64 0) (.int .i64 0) (.int .i64 0) z0 z1 z2 z3
      go_wp2
      refine bodyPost_ret (v := .tuple #[.agg #[.int .i64 0, .int .i64 0, .int .i64 0, .int .i64 0], .bool false]) (by simp [results, Try.results26, go_sem, y0, y1, y2, y3]) rfl ⟨rfl, ?_⟩
      exact ((((Kp.trans KW.out K2.out).setCell (by first | (simp; done) | (simp; omega)) _).setCell (by first | (simp; done) | (simp; omega)) _).setCell (by first | (simp; done) | (simp; omega)) _).setCell (by first | (simp; done) | (simp; omega)) _
    | true =>
      rw [c2] at H2
      simp only [Bool.true_and, if_true]
      have hp : 0 ≤ p ∧ p ≤ 256 := by unfold inN at c2; simpa using c2
      have H3 : Hid (∀ w, _) := fun w => ithinTone w 255 p (by omega) hp
      have ha := (colA_f hp).2
      have ea : thinC 255 p = colA p := rfl
      rw [ea] at H3
      have HC : Hid (∀ (w1 : World) (g1 : Nat), w1.cell? ⟨g1, 0, none⟩ = some (.int .i64 (colA p)) → Calls Try.prog 76 #[edV ⟨r, g, b, 255⟩, .func (.func 77) #[] #[.pointer (some ⟨g1, 0, none⟩)]] w1 fun e w' => e = .returned (edV (colT r g b p)) ∧ Kp w1 w') := fun w1 g1 hc => by
        have hcl : ∀ w2, Kp w1 w2 → w2.cell? ⟨g1, 0, none⟩ = some (.int .i64 (colA p)) := fun w2 k => rq_at k hc
        refine ieach w1 ⟨r, g, b, 255⟩ (colT r g b p) 77 _ (fun _ _ => by simp [go_sem]) (fun w2 k => icol1 w2 _ _ _ hb.1 ha (hcl w2 k)) (fun w2 k => icol1 w2 _ _ _ hb.2.1 ha (hcl w2 k)) (fun w2 k => icol1 w2 _ _ _ hb.2.2.1 ha (hcl w2 k)) (fun w2 k => ?_)
        have h := icol1 w2 255 _ _ (by omega) ha (hcl w2 k)
        rw [col255] at h
        exact h
      unfold edV at HC
      generalize colT r g b p = V at *
      obtain ⟨v0, v1, v2, v3⟩ := V
      generalize colA p = A at *
      simp only at HC ⊢
      have hmf : ∀ (fn : Fn) (first cap : Array Value) (w : World), (Instr.makeFunc fn first cap).run Try.prog w = .ok (.func fn first cap) w := fun _ _ _ _ => rfl
      clear hb hp c1 c2 ea
      go_enter Try.func26, Try.ntmps26
      go_wp2_with fail
      rw [HW.out]
      refine Calls.mono (H1.out _) ?_
      rintro e w1 ⟨rfl, k1⟩
      have K1 : Hid (Kp W w1) := k1
      clear k1
      obtain ⟨q0, q1, q2, q3⟩ := HF.out w1 K1.out
      go_wp2_with fail
      refine Calls.mono (H2.out _) ?_
      rintro e w2 ⟨rfl, k2⟩
      have K2 : Hid (Kp W w2) := by rw [k2]; exact K1.out
      clear k2 q0 q1 q2 q3
      obtain ⟨q0, q1, q2, q3⟩ := HF.out w2 K2.out
      go_wp2_with fail
      refine Calls.mono (H3.out _) ?_
      rintro e w3 ⟨rfl, rfl⟩
      have hlt : w.heap.size + 1 + 1 < w3.heap.size := World.block_lt_of_cell? w3 ⟨_, 0, none⟩ q0
      have r0 : (w3.alloc (.cells #[.int .i64 A] 3)).cell? ⟨w.heap.size + 1 + 1, 0, none⟩ = some (.int .i64 r) := (World.cell?_alloc_past _ _ _ hlt).trans q0
      have r1 : (w3.alloc (.cells #[.int .i64 A] 3)).cell? ⟨w.heap.size + 1 + 1, 1, none⟩ = some (.int .i64 g) := (World.cell?_alloc_past _ _ _ hlt).trans q1
      have r2 : (w3.alloc (.cells #[.int .i64 A] 3)).cell? ⟨w.heap.size + 1 + 1, 2, none⟩ = some (.int .i64 b) := (World.cell?_alloc_past _ _ _ hlt).trans q2
      have r3 : (w3.alloc (.cells #[.int .i64 A] 3)).cell? ⟨w.heap.size + 1 + 1, 3, none⟩ = some (.int .i64 255) := (World.cell?_alloc_past _ _ _ hlt).trans q3
      go_wp2_with fail
      refine Calls.mono (HC.out _ _ (by simp)) ?_
      rintro e w4 ⟨rfl, k4⟩
      have K4 : Hid (Kp W w4) := Kp.trans (K2.out.alloc _ _) k4
      clear k4 q0 q1 q2 q3 r0 r1 r2 r3
      obtain ⟨z0, z1, z2, z3, zf⟩ := QB.nw HZ.out K4.out.nw
      simp only [noE] at z0 z1 z2 z3
      obtain ⟨y0, y1, y2, y3⟩ := set4 w4 (w.heap.size + 1) (.int .i64 v0) (.int .i64 v1) (.int .i64 v2) (.int .i64 v3) z0 z1 z2 z3
      go_wp2
      refine bodyPost_ret (v := .tuple #[.agg #[.int .i64 v0, .int .i64 v1, .int .i64 v2, .int .i64 v3], .bool true]) (by simp [results, Try.results26, go_sem, y0, y1, y2, y3]) rfl ⟨rfl, ?_⟩
      exact ((((Kp.trans KW.out K4.out).setCell (by first | (simp; done) | (simp; omega)) _).setCell (by first | (simp; done) | (simp; omega)) _).setCell (by first | (simp; done) | (simp; omega)) _).setCell (by first | (simp; done) | (simp; omega)) _
end Go.Proofs.Ythlohbiocfeapaa
