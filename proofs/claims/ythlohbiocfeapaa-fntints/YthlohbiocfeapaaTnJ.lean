/-
  ThinTint and OverTint, by the program; each theorem names its conditions.
-/
import Derived.Test.YthlohbiocfeapaaTnI
namespace Go.Proofs.Ythlohbiocfeapaa
open Go.ChangeShapes Go.WideShapes Go.ChangeAt Go.RowKit
set_option linter.unusedVariables false

set_option maxRecDepth 100000 in
set_option maxHeartbeats 4000000 in
theorem ithinOf (w : World) (t : Edg) (p : Int) :
    Calls Try.prog 29 #[edV t, .int .i64 p] w fun e w' => e = .returned (.tuple #[edV (thV t p).1, .bool (thV t p).2]) ∧ Kp w w' := by
  obtain ⟨r, g, b, a⟩ := t
  have H1 : Hid _ := fun w => igoodTn w ⟨r, g, b, a⟩
  have H2 : Hid _ := fun w => ipart w p
  unfold edV at H1 ⊢
  unfold thV
  simp only at H1
  obtain ⟨W, hW⟩ : ∃ W, (w.alloc (.cells #[.int .i64 r, .int .i64 g, .int .i64 b, .int .i64 a] 24)).alloc (.cells #[.int .i64 0, .int .i64 0, .int .i64 0, .int .i64 0] 24) = W := ⟨_, rfl⟩
  have KW : Hid (Kp w W) := by show Kp w W; rw [← hW]; exact (((Kp.refl w).alloc _ _).alloc _ _)
  have HZ : Hid (QB W (w.heap.size + 1) noE) := by
    show QB _ _ _
    rw [← hW]
    have := QB.new ((w.alloc (.cells #[.int .i64 r, .int .i64 g, .int .i64 b, .int .i64 a] 24))) noE 24
    simp only [World.size_alloc] at this
    exact this
  have HBX : Hid (∀ w1, Nw W w1 → w1.cell? ⟨w.heap.size, 0, none⟩ = some (.int .i64 r) ∧ w1.cell? ⟨w.heap.size, 1, none⟩ = some (.int .i64 g) ∧ w1.cell? ⟨w.heap.size, 2, none⟩ = some (.int .i64 b) ∧ w1.cell? ⟨w.heap.size, 3, none⟩ = some (.int .i64 a)) := fun w1 k => by
    have b0 : QB W (w.heap.size) ⟨r, g, b, a⟩ := by
      rw [← hW]
      have := QB.new (w) ⟨r, g, b, a⟩ 24
      exact (this.nw (QBnw _ _))
    replace b0 := b0.nw k
    exact ⟨b0.c0, b0.c1, b0.c2, b0.c3⟩
  have HW : Hid (_ = W) := hW
  clear hW
  cases c1 : tnB ⟨r, g, b, a⟩ with
  | false =>
    rw [c1] at H1
    simp only [Bool.false_and, Bool.false_eq_true, if_false]
    simp only [noE]
    go_enter Try.func29, Try.ntmps29
    go_wp2_with fail
    rw [HW.out]
    refine Calls.mono (H1.out _) ?_
    rintro e w1 ⟨rfl, k1⟩
    have KK1 : Hid (Kp W w1) := k1
    clear k1
    obtain ⟨q0, q1, q2, q3⟩ := HBX.out _ KK1.out.nw
    obtain ⟨z0, z1, z2, z3, zf⟩ := QB.nw HZ.out KK1.out.nw
    simp only [noE] at z0 z1 z2 z3
    obtain ⟨y0, y1, y2, y3⟩ := set4 w1 (w.heap.size + 1) (.int .i64 0) (.int .i64 0) (.int .i64 0) (.int .i64 0) z0 z1 z2 z3
    go_wp2
    refine bodyPost_ret (v := .tuple #[.agg #[.int .i64 0, .int .i64 0, .int .i64 0, .int .i64 0], .bool false]) (by simp [results, Try.results29, go_sem, y0, y1, y2, y3]) rfl ⟨rfl, ?_⟩
    exact ((((Kp.trans KW.out KK1.out).setCell (by first | (simp; done) | (simp; omega)) _).setCell (by first | (simp; done) | (simp; omega)) _).setCell (by first | (simp; done) | (simp; omega)) _).setCell (by first | (simp; done) | (simp; omega)) _
  | true =>
    rw [c1] at H1
    cases c2 : inN p 0 256 with
    | false =>
      rw [c2] at H2
      simp only [Bool.and_false, Bool.false_eq_true, if_false]
      simp only [noE]
      go_enter Try.func29, Try.ntmps29
      go_wp2_with fail
      rw [HW.out]
      refine Calls.mono (H1.out _) ?_
      rintro e w1 ⟨rfl, k1⟩
      have KK1 : Hid (Kp W w1) := k1
      clear k1
      obtain ⟨q0, q1, q2, q3⟩ := HBX.out _ KK1.out.nw
      go_wp2_with fail
      refine Calls.mono (H2.out _) ?_
      rintro e w2 ⟨rfl, k2⟩
      have KK2 : Hid (Kp W w2) := by rw [k2]; exact KK1.out
      clear k2 q0 q1 q2 q3
      obtain ⟨q0, q1, q2, q3⟩ := HBX.out _ KK2.out.nw
      obtain ⟨z0, z1, z2, z3, zf⟩ := QB.nw HZ.out KK2.out.nw
      simp only [noE] at z0 z1 z2 z3
      obtain ⟨y0, y1, y2, y3⟩ := set4 w2 (w.heap.size + 1) (.int .i64 0) (.int .i64 0) (.int .i64 0) (.int .i64 0) z0 z1 z2 z3
      go_wp2
      refine bodyPost_ret (v := .tuple #[.agg #[.int .i64 0, .int .i64 0, .int .i64 0, .int .i64 0], .bool false]) (by simp [results, Try.results29, go_sem, y0, y1, y2, y3]) rfl ⟨rfl, ?_⟩
      exact ((((Kp.trans KW.out KK2.out).setCell (by first | (simp; done) | (simp; omega)) _).setCell (by first | (simp; done) | (simp; omega)) _).setCell (by first | (simp; done) | (simp; omega)) _).setCell (by first | (simp; done) | (simp; omega)) _
    | true =>
      rw [c2] at H2
      simp only [Bool.true_and, if_true]
      have HC : Hid (∀ w, _) := fun w => ithin w ⟨r, g, b, a⟩ p (tnB_some c1) (by unfold inN at c2; simpa using c2)
      unfold edV at HC
      generalize thinT ⟨r, g, b, a⟩ p = V at *
      obtain ⟨v0, v1, v2, v3⟩ := V
      simp only at HC ⊢
      go_enter Try.func29, Try.ntmps29
      go_wp2_with fail
      rw [HW.out]
      refine Calls.mono (H1.out _) ?_
      rintro e w1 ⟨rfl, k1⟩
      have KK1 : Hid (Kp W w1) := k1
      clear k1
      obtain ⟨q0, q1, q2, q3⟩ := HBX.out _ KK1.out.nw
      go_wp2_with fail
      refine Calls.mono (H2.out _) ?_
      rintro e w2 ⟨rfl, k2⟩
      have KK2 : Hid (Kp W w2) := by rw [k2]; exact KK1.out
      clear k2 q0 q1 q2 q3
      obtain ⟨q0, q1, q2, q3⟩ := HBX.out _ KK2.out.nw
      go_wp2_with fail
      refine Calls.mono (HC.out _) ?_
      rintro e wc ⟨rfl, kc⟩
      have KKc : Hid (Kp W wc) := Kp.trans KK2.out kc
      clear kc q0 q1 q2 q3
      obtain ⟨z0, z1, z2, z3, zf⟩ := QB.nw HZ.out KKc.out.nw
      simp only [noE] at z0 z1 z2 z3
      obtain ⟨y0, y1, y2, y3⟩ := set4 wc (w.heap.size + 1) (.int .i64 v0) (.int .i64 v1) (.int .i64 v2) (.int .i64 v3) z0 z1 z2 z3
      go_wp2
      refine bodyPost_ret (v := .tuple #[.agg #[.int .i64 v0, .int .i64 v1, .int .i64 v2, .int .i64 v3], .bool true]) (by simp [results, Try.results29, go_sem, y0, y1, y2, y3]) rfl ⟨rfl, ?_⟩
      exact ((((Kp.trans KW.out KKc.out).setCell (by first | (simp; done) | (simp; omega)) _).setCell (by first | (simp; done) | (simp; omega)) _).setCell (by first | (simp; done) | (simp; omega)) _).setCell (by first | (simp; done) | (simp; omega)) _
set_option maxRecDepth 100000 in
set_option maxHeartbeats 4000000 in
theorem ioverOf (w : World) (t u : Edg) :
    Calls Try.prog 16 #[edV t, edV u] w fun e w' => e = .returned (.tuple #[edV (ovV t u).1, .bool (ovV t u).2]) ∧ Kp w w' := by
  obtain ⟨r, g, b, a⟩ := t
  obtain ⟨x, y, z, v⟩ := u
  have H1 : Hid _ := fun w => igoodTn w ⟨r, g, b, a⟩
  have H2 : Hid _ := fun w => igoodTn w ⟨x, y, z, v⟩
  unfold edV at H1 H2 ⊢
  unfold ovV
  simp only at H1 H2
  obtain ⟨W, hW⟩ : ∃ W, ((w.alloc (.cells #[.int .i64 r, .int .i64 g, .int .i64 b, .int .i64 a] 24)).alloc (.cells #[.int .i64 x, .int .i64 y, .int .i64 z, .int .i64 v] 24)).alloc (.cells #[.int .i64 0, .int .i64 0, .int .i64 0, .int .i64 0] 24) = W := ⟨_, rfl⟩
  have KW : Hid (Kp w W) := by show Kp w W; rw [← hW]; exact ((((Kp.refl w).alloc _ _).alloc _ _).alloc _ _)
  have HZ : Hid (QB W (w.heap.size + 1 + 1) noE) := by
    show QB _ _ _
    rw [← hW]
    have := QB.new (((w.alloc (.cells #[.int .i64 r, .int .i64 g, .int .i64 b, .int .i64 a] 24)).alloc (.cells #[.int .i64 x, .int .i64 y, .int .i64 z, .int .i64 v] 24))) noE 24
    simp only [World.size_alloc] at this
    exact this
  have HBX : Hid (∀ w1, Nw W w1 → w1.cell? ⟨w.heap.size, 0, none⟩ = some (.int .i64 r) ∧ w1.cell? ⟨w.heap.size, 1, none⟩ = some (.int .i64 g) ∧ w1.cell? ⟨w.heap.size, 2, none⟩ = some (.int .i64 b) ∧ w1.cell? ⟨w.heap.size, 3, none⟩ = some (.int .i64 a) ∧ w1.cell? ⟨w.heap.size + 1, 0, none⟩ = some (.int .i64 x) ∧ w1.cell? ⟨w.heap.size + 1, 1, none⟩ = some (.int .i64 y) ∧ w1.cell? ⟨w.heap.size + 1, 2, none⟩ = some (.int .i64 z) ∧ w1.cell? ⟨w.heap.size + 1, 3, none⟩ = some (.int .i64 v)) := fun w1 k => by
    have b0 : QB W (w.heap.size) ⟨r, g, b, a⟩ := by
      rw [← hW]
      have := QB.new (w) ⟨r, g, b, a⟩ 24
      exact ((this.nw (QBnw _ _)).nw (QBnw _ _))
    replace b0 := b0.nw k
    have b1 : QB W (w.heap.size + 1) ⟨x, y, z, v⟩ := by
      rw [← hW]
      have := QB.new ((w.alloc (.cells #[.int .i64 r, .int .i64 g, .int .i64 b, .int .i64 a] 24))) ⟨x, y, z, v⟩ 24
      simp only [World.size_alloc] at this
      exact (this.nw (QBnw _ _))
    replace b1 := b1.nw k
    exact ⟨b0.c0, b0.c1, b0.c2, b0.c3, b1.c0, b1.c1, b1.c2, b1.c3⟩
  have HW : Hid (_ = W) := hW
  clear hW
  cases c1 : tnB ⟨r, g, b, a⟩ with
  | false =>
    rw [c1] at H1
    simp only [Bool.false_and, Bool.false_eq_true, if_false]
    simp only [noE]
    go_enter Try.func16, Try.ntmps16
    go_wp2_with fail
    rw [HW.out]
    refine Calls.mono (H1.out _) ?_
    rintro e w1 ⟨rfl, k1⟩
    have KK1 : Hid (Kp W w1) := k1
    clear k1
    obtain ⟨q0, q1, q2, q3, q4, q5, q6, q7⟩ := HBX.out _ KK1.out.nw
    obtain ⟨z0, z1, z2, z3, zf⟩ := QB.nw HZ.out KK1.out.nw
    simp only [noE] at z0 z1 z2 z3
    obtain ⟨y0, y1, y2, y3⟩ := set4 w1 (w.heap.size + 1 + 1) (.int .i64 0) (.int .i64 0) (.int .i64 0) (.int .i64 0) z0 z1 z2 z3
    go_wp2
    refine bodyPost_ret (v := .tuple #[.agg #[.int .i64 0, .int .i64 0, .int .i64 0, .int .i64 0], .bool false]) (by simp [results, Try.results16, go_sem, y0, y1, y2, y3]) rfl ⟨rfl, ?_⟩
    exact ((((Kp.trans KW.out KK1.out).setCell (by first | (simp; done) | (simp; omega)) _).setCell (by first | (simp; done) | (simp; omega)) _).setCell (by first | (simp; done) | (simp; omega)) _).setCell (by first | (simp; done) | (simp; omega)) _
  | true =>
    rw [c1] at H1
    cases c2 : tnB ⟨x, y, z, v⟩ with
    | false =>
      rw [c2] at H2
      simp only [Bool.and_false, Bool.false_eq_true, if_false]
      simp only [noE]
      go_enter Try.func16, Try.ntmps16
      go_wp2_with fail
      rw [HW.out]
      refine Calls.mono (H1.out _) ?_
      rintro e w1 ⟨rfl, k1⟩
      have KK1 : Hid (Kp W w1) := k1
      clear k1
      obtain ⟨q0, q1, q2, q3, q4, q5, q6, q7⟩ := HBX.out _ KK1.out.nw
      go_wp2_with fail
      refine Calls.mono (H2.out _) ?_
      rintro e w2 ⟨rfl, k2⟩
      have KK2 : Hid (Kp W w2) := Kp.trans KK1.out k2
      clear k2 q0 q1 q2 q3 q4 q5 q6 q7
      obtain ⟨q0, q1, q2, q3, q4, q5, q6, q7⟩ := HBX.out _ KK2.out.nw
      obtain ⟨z0, z1, z2, z3, zf⟩ := QB.nw HZ.out KK2.out.nw
      simp only [noE] at z0 z1 z2 z3
      obtain ⟨y0, y1, y2, y3⟩ := set4 w2 (w.heap.size + 1 + 1) (.int .i64 0) (.int .i64 0) (.int .i64 0) (.int .i64 0) z0 z1 z2 z3
      go_wp2
      refine bodyPost_ret (v := .tuple #[.agg #[.int .i64 0, .int .i64 0, .int .i64 0, .int .i64 0], .bool false]) (by simp [results, Try.results16, go_sem, y0, y1, y2, y3]) rfl ⟨rfl, ?_⟩
      exact ((((Kp.trans KW.out KK2.out).setCell (by first | (simp; done) | (simp; omega)) _).setCell (by first | (simp; done) | (simp; omega)) _).setCell (by first | (simp; done) | (simp; omega)) _).setCell (by first | (simp; done) | (simp; omega)) _
    | true =>
      rw [c2] at H2
      simp only [Bool.true_and, if_true]
      have HC : Hid (∀ w, _) := fun w => iover w ⟨r, g, b, a⟩ ⟨x, y, z, v⟩ (tnB_some c1) (tnB_some c2)
      unfold edV at HC
      generalize overT ⟨r, g, b, a⟩ ⟨x, y, z, v⟩ = V at *
      obtain ⟨v0, v1, v2, v3⟩ := V
      simp only at HC ⊢
      go_enter Try.func16, Try.ntmps16
      go_wp2_with fail
      rw [HW.out]
      refine Calls.mono (H1.out _) ?_
      rintro e w1 ⟨rfl, k1⟩
      have KK1 : Hid (Kp W w1) := k1
      clear k1
      obtain ⟨q0, q1, q2, q3, q4, q5, q6, q7⟩ := HBX.out _ KK1.out.nw
      go_wp2_with fail
      refine Calls.mono (H2.out _) ?_
      rintro e w2 ⟨rfl, k2⟩
      have KK2 : Hid (Kp W w2) := Kp.trans KK1.out k2
      clear k2 q0 q1 q2 q3 q4 q5 q6 q7
      obtain ⟨q0, q1, q2, q3, q4, q5, q6, q7⟩ := HBX.out _ KK2.out.nw
      go_wp2_with fail
      refine Calls.mono (HC.out _) ?_
      rintro e wc ⟨rfl, kc⟩
      have KKc : Hid (Kp W wc) := Kp.trans KK2.out kc
      clear kc q0 q1 q2 q3 q4 q5 q6 q7
      obtain ⟨z0, z1, z2, z3, zf⟩ := QB.nw HZ.out KKc.out.nw
      simp only [noE] at z0 z1 z2 z3
      obtain ⟨y0, y1, y2, y3⟩ := set4 wc (w.heap.size + 1 + 1) (.int .i64 v0) (.int .i64 v1) (.int .i64 v2) (.int .i64 v3) z0 z1 z2 z3
      go_wp2
      refine bodyPost_ret (v := .tuple #[.agg #[.int .i64 v0, .int .i64 v1, .int .i64 v2, .int .i64 v3], .bool true]) (by simp [results, Try.results16, go_sem, y0, y1, y2, y3]) rfl ⟨rfl, ?_⟩
      exact ((((Kp.trans KW.out KKc.out).setCell (by first | (simp; done) | (simp; omega)) _).setCell (by first | (simp; done) | (simp; omega)) _).setCell (by first | (simp; done) | (simp; omega)) _).setCell (by first | (simp; done) | (simp; omega)) _
end Go.Proofs.Ythlohbiocfeapaa
