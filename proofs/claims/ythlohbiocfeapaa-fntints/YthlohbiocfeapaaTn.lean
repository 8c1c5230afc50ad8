/-
  Tints, by the specification: which are good; thinned, laid over, made of a color; each theorem names its conditions.
-/
import Derived.Test.YthlohbiocfeapaaTnP
namespace Go.Proofs.Ythlohbiocfeapaa
open Go.ChangeShapes Go.WideShapes Go.ChangeAt Go.RowKit
set_option linter.unusedVariables false

set_option maxRecDepth 100000 in
set_option maxHeartbeats 2000000 in
theorem sgoodTn (w : World) (t : Edg) : Calls Try.prog 22 #[edV t] w fun e w' => e = .returned (.bool (tnB t)) ∧ Kp w w' := by
  obtain ⟨r, g, b, a⟩ := t
  unfold edV tnB
  simp only
  have H1 : Hid (∀ w, Calls Try.prog 70 #[.int .i64 a, .int .i64 0, .int .i64 255] w fun e w' => e = .returned (.bool (inN a 0 255)) ∧ w' = w) := fun w => in_any w a _ _
  have H2 : Hid (∀ w, Calls Try.prog 70 #[.int .i64 r, .int .i64 0, .int .i64 a] w fun e w' => e = .returned (.bool (inN r 0 a)) ∧ w' = w) := fun w => in_any w r _ _
  have H3 : Hid (∀ w, Calls Try.prog 70 #[.int .i64 g, .int .i64 0, .int .i64 a] w fun e w' => e = .returned (.bool (inN g 0 a)) ∧ w' = w) := fun w => in_any w g _ _
  have H4 : Hid (∀ w, Calls Try.prog 70 #[.int .i64 b, .int .i64 0, .int .i64 a] w fun e w' => e = .returned (.bool (inN b 0 a)) ∧ w' = w) := fun w => in_any w b _ _
  generalize inN a 0 255 = b1 at *
  generalize inN r 0 a = b2 at *
  generalize inN g 0 a = b3 at *
  generalize inN b 0 a = b4 at *
  cases b1 with
  | false =>
    go_enter Try.func22, Try.ntmps22
    go_wp2_with fail
    refine Calls.mono (H1.out _) ?_
    rintro e w9 ⟨rfl, rfl⟩
    go_wp2
    go_ret
    exact ⟨rfl, (Kp.refl w).alloc _ _⟩
  | true =>
    rw [Bool.true_and]
    cases b2 with
    | false =>
      go_enter Try.func22, Try.ntmps22
      go_wp2_with fail
      refine Calls.mono (H1.out _) ?_
      rintro e w9 ⟨rfl, rfl⟩
      go_wp2_with fail
      refine Calls.mono (H2.out _) ?_
      rintro e w9 ⟨rfl, rfl⟩
      go_wp2
      go_ret
      exact ⟨rfl, (Kp.refl w).alloc _ _⟩
    | true =>
      rw [Bool.true_and]
      cases b3 with
      | false =>
        go_enter Try.func22, Try.ntmps22
        go_wp2_with fail
        refine Calls.mono (H1.out _) ?_
        rintro e w9 ⟨rfl, rfl⟩
        go_wp2_with fail
        refine Calls.mono (H2.out _) ?_
        rintro e w9 ⟨rfl, rfl⟩
        go_wp2_with fail
        refine Calls.mono (H3.out _) ?_
        rintro e w9 ⟨rfl, rfl⟩
        go_wp2
        go_ret
        exact ⟨rfl, (Kp.refl w).alloc _ _⟩
      | true =>
        rw [Bool.true_and]
        go_enter Try.func22, Try.ntmps22
        go_wp2_with fail
        refine Calls.mono (H1.out _) ?_
        rintro e w9 ⟨rfl, rfl⟩
        go_wp2_with fail
        refine Calls.mono (H2.out _) ?_
        rintro e w9 ⟨rfl, rfl⟩
        go_wp2_with fail
        refine Calls.mono (H3.out _) ?_
        rintro e w9 ⟨rfl, rfl⟩
        go_wp2_with fail
        refine Calls.mono (H4.out _) ?_
        rintro e w9 ⟨rfl, rfl⟩
        go_wp2
        go_ret
        exact ⟨rfl, (Kp.refl w).alloc _ _⟩
theorem spart (w : World) (p : Int) : Calls Try.prog 72 #[.int .i64 p] w fun e w' => e = .returned (.bool (inN p 0 256)) ∧ w' = w := by
  have H1 : Hid (∀ w, Calls Try.prog 70 #[.int .i64 p, .int .i64 0, .int .i64 256] w fun e w' => e = .returned (.bool (inN p 0 256)) ∧ w' = w) := fun w => in_any w p _ _
  go_enter Try.func72, Try.ntmps72
  go_wp2_with fail
  refine Calls.mono (H1.out _) ?_
  rintro e w9 ⟨rfl, rfl⟩
  go_wp2
  go_ret
  exact ⟨rfl, rfl⟩
set_option maxRecDepth 100000 in
set_option maxHeartbeats 4000000 in
theorem sthin (w : World) (t : Edg) (p : Int) (ht : ok8 t.ax ∧ ok8 t.ay ∧ ok8 t.bx ∧ ok8 t.cy) (hp : 0 ≤ p ∧ p ≤ 256) :
    Calls Try.prog 79 #[edV t, .int .i64 p] w fun e w' => e = .returned (edV (thinT t p)) ∧ Kp w w' := by
  obtain ⟨r, g, b, a⟩ := t
  unfold ok8 at ht
  obtain ⟨hr, hg, hb, ha⟩ := ht
  simp only at hr hg hb ha
  obtain ⟨r1, r2, r3, r4, r5⟩ := thin_f hr hp
  obtain ⟨g1, g2, g3, g4, g5⟩ := thin_f hg hp
  obtain ⟨b1, b2, b3, b4, b5⟩ := thin_f hb hp
  obtain ⟨a1, a2, a3, a4, a5⟩ := thin_f ha hp
  unfold edV thinT
  simp only
  generalize thinC r p = R at *
  generalize thinC g p = G at *
  generalize thinC b p = B at *
  generalize thinC a p = A at *
  clear hr hg hb ha hp
  go_enter Try.func79, Try.ntmps79
  go_wp2
  exact bodyPost_ret (v := .agg #[.int .i64 R, .int .i64 G, .int .i64 B, .int .i64 A]) (by simp [results, Try.results79, go_sem]) rfl ⟨rfl, ((Kp.refl w).alloc _ _).alloc _ _⟩
set_option maxRecDepth 100000 in
set_option maxHeartbeats 4000000 in
theorem sover (w : World) (t u : Edg) (ht : ok8 t.ax ∧ ok8 t.ay ∧ ok8 t.bx ∧ ok8 t.cy) (hu : ok8 u.ax ∧ ok8 u.ay ∧ ok8 u.bx ∧ ok8 u.cy) :
    Calls Try.prog 59 #[edV t, edV u] w fun e w' => e = .returned (edV (overT t u)) ∧ Kp w w' := by
  obtain ⟨r, g, b, a⟩ := t
  obtain ⟨x, y, z, v⟩ := u
  unfold ok8 at ht hu
  obtain ⟨hr, hg, hb, ha⟩ := ht
  obtain ⟨hx, hy, hz, hv⟩ := hu
  simp only at hr hg hb ha hx hy hz hv
  have hm : 0 ≤ 255 - a ∧ 255 - a ≤ 255 := by omega
  unfold edV overT overC
  simp only
  have hmm : 255 - a = 255 - a := rfl
  obtain ⟨r1, r2, r3, r4, r5⟩ := over_f hr hx hm
  obtain ⟨g1, g2, g3, g4, g5⟩ := over_f hg hy hm
  obtain ⟨b1, b2, b3, b4, b5⟩ := over_f hb hz hm
  obtain ⟨a1, a2, a3, a4, a5⟩ := over_f ha hv hm
  clear hx hy hz hv hmm
  generalize hR : (x * (255 - a) + 127) / 255 = R at *
  generalize hG : (y * (255 - a) + 127) / 255 = G at *
  generalize hB : (z * (255 - a) + 127) / 255 = B at *
  generalize hA : (v * (255 - a) + 127) / 255 = A at *
  clear hR hG hB hA
  go_enter Try.func59, Try.ntmps59
  go_wp2
  exact bodyPost_ret (v := .agg #[.int .i64 (r + R), .int .i64 (g + G), .int .i64 (b + B), .int .i64 (a + A)]) (by simp [results, Try.results59, go_sem]) rfl ⟨rfl, (((Kp.refl w).alloc _ _).alloc _ _).alloc _ _⟩
set_option maxRecDepth 100000 in
set_option maxHeartbeats 4000000 in
theorem stint (w : World) (r g b p : Int) (hr : ok8 r) (hg : ok8 g) (hb : ok8 b) (hp : 0 ≤ p ∧ p ≤ 256) :
    Calls Try.prog 73 #[.agg #[.int .i64 r, .int .i64 g, .int .i64 b], .int .i64 p] w fun e w' => e = .returned (edV (colT r g b p)) ∧ Kp w w' := by
  unfold ok8 at hr hg hb
  obtain ⟨p1, p2, p3⟩ := colA_f hp
  obtain ⟨r1, r2, r3⟩ := col_f hr ⟨p2, p3⟩
  obtain ⟨g1, g2, g3⟩ := col_f hg ⟨p2, p3⟩
  obtain ⟨b1, b2, b3⟩ := col_f hb ⟨p2, p3⟩
  unfold edV colT
  simp only
  have hq : ∀ x : Int, 0 ≤ x → x ≤ 65025 → 0 ≤ (x + 127) / 255 ∧ (x + 127) / 255 ≤ 255 := fun x h1 h2 => by omega
  have r4 : 0 ≤ colC r (colA p) ∧ colC r (colA p) ≤ 255 := hq _ r1 r2
  have g4 : 0 ≤ colC g (colA p) ∧ colC g (colA p) ≤ 255 := hq _ g1 g2
  have b4 : 0 ≤ colC b (colA p) ∧ colC b (colA p) ≤ 255 := hq _ b1 b2
  clear hq hr hg hb
  generalize colC r (colA p) = R at *
  generalize colC g (colA p) = G at *
  generalize colC b (colA p) = B at *
  generalize colA p = A at *
  go_enter Try.func73, Try.ntmps73
  go_wp2
  exact bodyPost_ret (v := .agg #[.int .i64 R, .int .i64 G, .int .i64 B, .int .i64 A]) (by simp [results, Try.results73, go_sem]) rfl ⟨rfl, ((Kp.refl w).alloc _ _).alloc _ _⟩
set_option maxRecDepth 100000 in
set_option maxHeartbeats 4000000 in
theorem sthinOf (w : World) (t : Edg) (p : Int) :
    Calls Try.prog 28 #[edV t, .int .i64 p] w fun e w' => e = .returned (.tuple #[edV (thV t p).1, .bool (thV t p).2]) ∧ Kp w w' := by
  obtain ⟨r, g, b, a⟩ := t
  have H1 : Hid _ := fun w => sgoodTn w ⟨r, g, b, a⟩
  have H2 : Hid _ := fun w => spart w p
  unfold edV at H1 ⊢
  unfold thV
  simp only at H1
  obtain ⟨W, hW⟩ : ∃ W, (w.alloc (.cells #[.int .i64 r, .int .i64 g, .int .i64 b, .int .i64 a] 24)).alloc (.cells #[.int .i64 0, .int .i64 0, .int .i64 0, .int .i64 0] 24) = W := ⟨_, rfl⟩
  have KW : Hid (Kp w W) := by show Kp w W; rw [← hW]; exact (((Kp.refl w).alloc _ _).alloc _ _)
  have HZ : Hid (QB W (w.heap.size + 1) noE) := by
    show QB _ _ _
    rw [← hW]
    have := QB.new ((w.alloc (.cells #[.int .i64 r, .int .i64 g, .int .i64 b, .int .i64 a] 24))) noE 24
    simp only [World.size_alloc] at this
    exact this
  have HBX : Hid (∀ w1, Nw W w1 → w1.cell? ⟨w.heap.size, 0, none⟩ = some (.int .i64 r) ∧ w1.cell? ⟨w.heap.size, 1, none⟩ = some (.int .i64 g) ∧ w1.cell? ⟨w.heap.size, 2, none⟩ = some (.int .i64 b) ∧ w1.cell? ⟨w.heap.size, 3, none⟩ = some (.int .i64 a)) := fun w1 k => by
    have b0 : QB W (w.heap.size) ⟨r, g, b, a⟩ := by
      rw [← hW]
      have := QB.new (w) ⟨r, g, b, a⟩ 24
      exact (this.nw (QBnw _ _))
    replace b0 := b0.nw k
    exact ⟨b0.c0, b0.c1, b0.c2, b0.c3⟩
  have HW : Hid (_ = W) := hW
  clear hW
  cases c1 : tnB ⟨r, g, b, a⟩ with
  | false =>
    rw [c1] at H1
    simp only [Bool.false_and, Bool.false_eq_true, if_false]
    simp only [noE]
    go_enter Try.func28, Try.ntmps28
    go_wp2_with fail
    rw [HW.out]
    refine Calls.mono (H1.out _) ?_
    rintro e w1 ⟨rfl, k1⟩
    have KK1 : Hid (Kp W w1) := k1
    clear k1
    obtain ⟨q0, q1, q2, q3⟩ := HBX.out _ KK1.out.nw
    obtain ⟨z0, z1, z2, z3, zf⟩ := QB.nw HZ.out KK1.out.nw
    simp only [noE] at z0 z1 z2 z3
    obtain ⟨y0, y1, y2, y3⟩ := set4 w1 (w.heap.size + 1) (.int .i64 0) (.int .i64 0) (.int .i64 0) (.int .i64 0) z0 z1 z2 z3
    go_wp2
    refine bodyPost_ret (v := .tuple #[.agg #[.int .i64 0, .int .i64 0, .int .i64 0, .int .i64 0], .bool false]) (by simp [results, Try.results28, go_sem, y0, y1, y2, y3]) rfl ⟨rfl, ?_⟩
    exact ((((Kp.trans KW.out KK1.out).setCell (by first | (simp; done) | (simp; omega)) _).setCell (by first | (simp; done) | (simp; omega)) _).setCell (by first | (simp; done) | (simp; omega)) _).setCell (by first | (simp; done) | (simp; omega)) _
  | true =>
    rw [c1] at H1
    cases c2 : inN p 0 256 with
    | false =>
      rw [c2] at H2
      simp only [Bool.and_false, Bool.false_eq_true, if_false]
      simp only [noE]
      go_enter Try.func28, Try.ntmps28
      go_wp2_with fail
      rw [HW.out]
      refine Calls.mono (H1.out _) ?_
      rintro e w1 ⟨rfl, k1⟩
      have KK1 : Hid (Kp W w1) := k1
      clear k1
      obtain ⟨q0, q1, q2, q3⟩ := HBX.out _ KK1.out.nw
      go_wp2_with fail
      refine Calls.mono (H2.out _) ?_
      rintro e w2 ⟨rfl, k2⟩
      have KK2 : Hid (Kp W w2) := by rw [k2]; exact KK1.out
      clear k2 q0 q1 q2 q3
      obtain ⟨q0, q1, q2, q3⟩ := HBX.out _ KK2.out.nw
      obtain ⟨z0, z1, z2, z3, zf⟩ := QB.nw HZ.out KK2.out.nw
      simp only [noE] at z0 z1 z2 z3
      obtain ⟨y0, y1, y2, y3⟩ := set4 w2 (w.heap.size + 1) (.int .i64 0) (.int .i64 0) (.int .i64 0) (.int .i64 0) z0 z1 z2 z3
      go_wp2
      refine bodyPost_ret (v := .tuple #[.agg #[.int .i64 0, .int .i64 0, .int .i64 0, .int .i64 0], .bool false]) (by simp [results, Try.results28, go_sem, y0, y1, y2, y3]) rfl ⟨rfl, ?_⟩
      exact ((((Kp.trans KW.out KK2.out).setCell (by first | (simp; done) | (simp; omega)) _).setCell (by first | (simp; done) | (simp; omega)) _).setCell (by first | (simp; done) | (simp; omega)) _).setCell (by first | (simp; done) | (simp; omega)) _
    | true =>
      rw [c2] at H2
      simp only [Bool.true_and, if_true]
      have HC : Hid (∀ w, _) := fun w => sthin w ⟨r, g, b, a⟩ p (tnB_some c1) (by unfold inN at c2; simpa using c2)
      unfold edV at HC
      generalize thinT ⟨r, g, b, a⟩ p = V at *
      obtain ⟨v0, v1, v2, v3⟩ := V
      simp only at HC ⊢
      go_enter Try.func28, Try.ntmps28
      go_wp2_with fail
      rw [HW.out]
      refine Calls.mono (H1.out _) ?_
      rintro e w1 ⟨rfl, k1⟩
      have KK1 : Hid (Kp W w1) := k1
      clear k1
      obtain ⟨q0, q1, q2, q3⟩ := HBX.out _ KK1.out.nw
      go_wp2_with fail
      refine Calls.mono (H2.out _) ?_
      rintro e w2 ⟨rfl, k2⟩
      have KK2 : Hid (Kp W w2) := by rw [k2]; exact KK1.out
      clear k2 q0 q1 q2 q3
      obtain ⟨q0, q1, q2, q3⟩ := HBX.out _ KK2.out.nw
      go_wp2_with fail
      refine Calls.mono (HC.out _) ?_
      rintro e wc ⟨rfl, kc⟩
      have KKc : Hid (Kp W wc) := Kp.trans KK2.out kc
      clear kc q0 q1 q2 q3
      obtain ⟨z0, z1, z2, z3, zf⟩ := QB.nw HZ.out KKc.out.nw
      simp only [noE] at z0 z1 z2 z3
      obtain ⟨y0, y1, y2, y3⟩ := set4 wc (w.heap.size + 1) (.int .i64 v0) (.int .i64 v1) (.int .i64 v2) (.int .i64 v3) z0 z1 z2 z3
      go_wp2
      refine bodyPost_ret (v := .tuple #[.agg #[.int .i64 v0, .int .i64 v1, .int .i64 v2, .int .i64 v3], .bool true]) (by simp [results, Try.results28, go_sem, y0, y1, y2, y3]) rfl ⟨rfl, ?_⟩
      exact ((((Kp.trans KW.out KKc.out).setCell (by first | (simp; done) | (simp; omega)) _).setCell (by first | (simp; done) | (simp; omega)) _).setCell (by first | (simp; done) | (simp; omega)) _).setCell (by first | (simp; done) | (simp; omega)) _
set_option maxRecDepth 100000 in
set_option maxHeartbeats 4000000 in
theorem soverOf (w : World) (t u : Edg) :
    Calls Try.prog 17 #[edV t, edV u] w fun e w' => e = .returned (.tuple #[edV (ovV t u).1, .bool (ovV t u).2]) ∧ Kp w w' := by
  obtain ⟨r, g, b, a⟩ := t
  obtain ⟨x, y, z, v⟩ := u
  have H1 : Hid _ := fun w => sgoodTn w ⟨r, g, b, a⟩
  have H2 : Hid _ := fun w => sgoodTn w ⟨x, y, z, v⟩
  unfold edV at H1 H2 ⊢
  unfold ovV
  simp only at H1 H2
  obtain ⟨W, hW⟩ : ∃ W, ((w.alloc (.cells #[.int .i64 r, .int .i64 g, .int .i64 b, .int .i64 a] 24)).alloc (.cells #[.int .i64 x, .int .i64 y, .int .i64 z, .int .i64 v] 24)).alloc (.cells #[.int .i64 0, .int .i64 0, .int .i64 0, .int .i64 0] 24) = W := ⟨_, rfl⟩
  have KW : Hid (Kp w W) := by show Kp w W; rw [← hW]; exact ((((Kp.refl w).alloc _ _).alloc _ _).alloc _ _)
  have HZ : Hid (QB W (w.heap.size + 1 + 1) noE) := by
    show QB _ _ _
    rw [← hW]
    have := QB.new (((w.alloc (.cells #[.int .i64 r, .int .i64 g, .int .i64 b, .int .i64 a] 24)).alloc (.cells #[.int .i64 x, .int .i64 y, .int .i64 z, .int .i64 v] 24))) noE 24
    simp only [World.size_alloc] at this
    exact this
  have HBX : Hid (∀ w1, Nw W w1 → w1.cell? ⟨w.heap.size, 0, none⟩ = some (.int .i64 r) ∧ w1.cell? ⟨w.heap.size, 1, none⟩ = some (.int .i64 g) ∧ w1.cell? ⟨w.heap.size, 2, none⟩ = some (.int .i64 b) ∧ w1.cell? ⟨w.heap.size, 3, none⟩ = some (.int .i64 a) ∧ w1.cell? ⟨w.heap.size + 1, 0, none⟩ = some (.int .i64 x) ∧ w1.cell? ⟨w.heap.size + 1, 1, none⟩ = some (.int .i64 y) ∧ w1.cell? ⟨w.heap.size + 1, 2, none⟩ = some (.int .i64 z) ∧ w1.cell? ⟨w.heap.size + 1, 3, none⟩ = some (.int .i64 v)) := fun w1 k => by
    have b0 : QB W (w.heap.size) ⟨r, g, b, a⟩ := by
      rw [← hW]
      have := QB.new (w) ⟨r, g, b, a⟩ 24
      exact ((this.nw (QBnw _ _)).nw (QBnw _ _))
    replace b0 := b0.nw k
    have b1 : QB W (w.heap.size + 1) ⟨x, y, z, v⟩ := by
      rw [← hW]
      have := QB.new ((w.alloc (.cells #[.int .i64 r, .int .i64 g, .int .i64 b, .int .i64 a] 24))) ⟨x, y, z, v⟩ 24
      simp only [World.size_alloc] at this
      exact (this.nw (QBnw _ _))
    replace b1 := b1.nw k
    exact ⟨b0.c0, b0.c1, b0.c2, b0.c3, b1.c0, b1.c1, b1.c2, b1.c3⟩
  have HW : Hid (_ = W) := hW
  clear hW
  cases c1 : tnB ⟨r, g, b, a⟩ with
  | false =>
    rw [c1] at H1
    simp only [Bool.false_and, Bool.false_eq_true, if_false]
    simp only [noE]
    go_enter Try.func17, Try.ntmps17
    go_wp2_with fail
    rw [HW.out]
    refine Calls.mono (H1.out _) ?_
    rintro e w1 ⟨rfl, k1⟩
    have KK1 : Hid (Kp W w1) := k1
    clear k1
    obtain ⟨q0, q1, q2, q3, q4, q5, q6, q7⟩ := HBX.out _ KK1.out.nw
    obtain ⟨z0, z1, z2, z3, zf⟩ := QB.nw HZ.out KK1.out.nw
    simp only [noE] at z0 z1 z2 z3
    obtain ⟨y0, y1, y2, y3⟩ := set4 w1 (w.heap.size + 1 + 1) (.int .i64 0) (.int .i64 0) (.int .i64 0) (.int .i64 0) z0 z1 z2 z3
    go_wp2
    refine bodyPost_ret (v := .tuple #[.agg #[.int .i64 0, .int .i64 0, .int .i64 0, .int .i64 0], .bool false]) (by simp [results, Try.results17, go_sem, y0, y1, y2, y3]) rfl ⟨rfl, ?_⟩
    exact ((((Kp.trans KW.out KK1.out).setCell (by first | (simp; done) | (simp; omega)) _).setCell (by first | (simp; done) | (simp; omega)) _).setCell (by first | (simp; done) | (simp; omega)) _).setCell (by first | (simp; done) | (simp; omega)) _
  | true =>
    rw [c1] at H1
    cases c2 : tnB ⟨x, y, z, v⟩ with
    | false =>
      rw [c2] at H2
      simp only [Bool.and_false, Bool.false_eq_true, if_false]
      simp only [noE]
      go_enter Try.func17, Try.ntmps17
      go_wp2_with fail
      rw [HW.out]
      refine Calls.mono (H1.out _) ?_
      rintro e w1 ⟨rfl, k1⟩
      have KK1 : Hid (Kp W w1) := k1
      clear k1
      obtain ⟨q0, q1, q2, q3, q4, q5, q6, q7⟩ := HBX.out _ KK1.out.nw
      go_wp2_with fail
      refine Calls.mono (H2.out _) ?_
      rintro e w2 ⟨rfl, k2⟩
      have KK2 : Hid (Kp W w2) := Kp.trans KK1.out k2
      clear k2 q0 q1 q2 q3 q4 q5 q6 q7
      obtain ⟨q0, q1, q2, q3, q4, q5, q6, q7⟩ := HBX.out _ KK2.out.nw
      obtain ⟨z0, z1, z2, z3, zf⟩ := QB.nw HZ.out KK2.out.nw
      simp only [noE] at z0 z1 z2 z3
      obtain ⟨y0, y1, y2, y3⟩ := set4 w2 (w.heap.size + 1 + 1) (.int .i64 0) (.int .i64 0) (.int .i64 0) (.int .i64 0) z0 z1 z2 z3
      go_wp2
      refine bodyPost_ret (v := .tuple #[.agg #[.int .i64 0, .int .i64 0, .int .i64 0, .int .i64 0], .bool false]) (by simp [results, Try.results17, go_sem, y0, y1, y2, y3]) rfl ⟨rfl, ?_⟩
      exact ((((Kp.trans KW.out KK2.out).setCell (by first | (simp; done) | (simp; omega)) _).setCell (by first | (simp; done) | (simp; omega)) _).setCell (by first | (simp; done) | (simp; omega)) _).setCell (by first | (simp; done) | (simp; omega)) _
    | true =>
      rw [c2] at H2
      simp only [Bool.true_and, if_true]
      have HC : Hid (∀ w, _) := fun w => sover w ⟨r, g, b, a⟩ ⟨x, y, z, v⟩ (tnB_some c1) (tnB_some c2)
      unfold edV at HC
      generalize overT ⟨r, g, b, a⟩ ⟨x, y, z, v⟩ = V at *
      obtain ⟨v0, v1, v2, v3⟩ := V
      simp only at HC ⊢
      go_enter Try.func17, Try.ntmps17
      go_wp2_with fail
      rw [HW.out]
      refine Calls.mono (H1.out _) ?_
      rintro e w1 ⟨rfl, k1⟩
      have KK1 : Hid (Kp W w1) := k1
      clear k1
      obtain ⟨q0, q1, q2, q3, q4, q5, q6, q7⟩ := HBX.out _ KK1.out.nw
      go_wp2_with fail
      refine Calls.mono (H2.out _) ?_
      rintro e w2 ⟨rfl, k2⟩
      have KK2 : Hid (Kp W w2) := Kp.trans KK1.out k2
      clear k2 q0 q1 q2 q3 q4 q5 q6 q7
      obtain ⟨q0, q1, q2, q3, q4, q5, q6, q7⟩ := HBX.out _ KK2.out.nw
      go_wp2_with fail
      refine Calls.mono (HC.out _) ?_
      rintro e wc ⟨rfl, kc⟩
      have KKc : Hid (Kp W wc) := Kp.trans KK2.out kc
      clear kc q0 q1 q2 q3 q4 q5 q6 q7
      obtain ⟨z0, z1, z2, z3, zf⟩ := QB.nw HZ.out KKc.out.nw
      simp only [noE] at z0 z1 z2 z3
      obtain ⟨y0, y1, y2, y3⟩ := set4 wc (w.heap.size + 1 + 1) (.int .i64 v0) (.int .i64 v1) (.int .i64 v2) (.int .i64 v3) z0 z1 z2 z3
      go_wp2
      refine bodyPost_ret (v := .tuple #[.agg #[.int .i64 v0, .int .i64 v1, .int .i64 v2, .int .i64 v3], .bool true]) (by simp [results, Try.results17, go_sem, y0, y1, y2, y3]) rfl ⟨rfl, ?_⟩
      exact ((((Kp.trans KW.out KKc.out).setCell (by first | (simp; done) | (simp; omega)) _).setCell (by first | (simp; done) | (simp; omega)) _).setCell (by first | (simp; done) | (simp; omega)) _).setCell (by first | (simp; done) | (simp; omega)) _
set_option maxRecDepth 100000 in
set_option maxHeartbeats 4000000 in
theorem stintOf (w : World) (r g b p : Int) :
    Calls Try.prog 24 #[.agg #[.int .i64 r, .int .i64 g, .int .i64 b], .int .i64 p] w fun e w' => e = .returned (.tuple #[edV (coV r g b p).1, .bool (coV r g b p).2]) ∧ Kp w w' := by
  have H1 : Hid (∀ w, Calls Try.prog 70 #[.int .i64 r, .int .i64 0, .int .i64 255] w fun e w' => e = .returned (.bool (inN r 0 255)) ∧ w' = w) := fun w => in_any w r _ _
  have H2 : Hid (∀ w, Calls Try.prog 70 #[.int .i64 g, .int .i64 0, .int .i64 255] w fun e w' => e = .returned (.bool (inN g 0 255)) ∧ w' = w) := fun w => in_any w g _ _
  have H3 : Hid (∀ w, Calls Try.prog 70 #[.int .i64 b, .int .i64 0, .int .i64 255] w fun e w' => e = .returned (.bool (inN b 0 255)) ∧ w' = w) := fun w => in_any w b _ _
  have H4 : Hid _ := fun w => spart w p
  unfold edV
  unfold coV
  obtain ⟨W, hW⟩ : ∃ W, (w.alloc (.cells #[.int .i64 r, .int .i64 g, .int .i64 b] 41)).alloc (.cells #[.int .i64 0, .int .i64 0, .int .i64 0, .int .i64 0] 24) = W := ⟨_, rfl⟩
  have KW : Hid (Kp w W) := by show Kp w W; rw [← hW]; exact (((Kp.refl w).alloc _ _).alloc _ _)
  have HZ : Hid (QB W (w.heap.size + 1) noE) := by
    show QB _ _ _
    rw [← hW]
    have := QB.new ((w.alloc (.cells #[.int .i64 r, .int .i64 g, .int .i64 b] 41))) noE 24
    simp only [World.size_alloc] at this
    exact this
  have HBX : Hid (∀ w1, Nw W w1 → w1.cell? ⟨w.heap.size, 0, none⟩ = some (.int .i64 r) ∧ w1.cell? ⟨w.heap.size, 1, none⟩ = some (.int .i64 g) ∧ w1.cell? ⟨w.heap.size, 2, none⟩ = some (.int .i64 b)) := fun w1 k => by
    have e : ∀ b o, b < W.heap.size → w1.cell? ⟨b, o, none⟩ = W.cell? ⟨b, o, none⟩ := fun b o hb => (bcell k).1 b o hb
    have hsz : W.heap.size = w.heap.size + 1 + 1 := by rw [← hW]; simp
    refine ⟨?_, ?_, ?_⟩
    all_goals
      rw [e _ _ (by omega), ← hW]
      simp [World.cell?_alloc_past]
  have HW : Hid (_ = W) := hW
  clear hW
  cases c1 : inN r 0 255 with
  | false =>
    rw [c1] at H1
    simp only [Bool.false_and, Bool.false_eq_true, if_false]
    simp only [noE]
    go_enter Try.func24, Try.ntmps24
    go_wp2_with fail
    rw [HW.out]
    refine Calls.mono (H1.out _) ?_
    rintro e w1 ⟨rfl, k1⟩
    have KK1 : Hid (Kp W w1) := by rw [k1]; exact (Kp.refl W)
    clear k1
    obtain ⟨q0, q1, q2⟩ := HBX.out _ KK1.out.nw
    obtain ⟨z0, z1, z2, z3, zf⟩ := QB.nw HZ.out KK1.out.nw
    simp only [noE] at z0 z1 z2 z3
    obtain ⟨y0, y1, y2, y3⟩ := set4 w1 (w.heap.size + 1) (.int .i64 0) (.int .i64 0) (.int .i64 0) (.int .i64 0) z0 z1 z2 z3
    go_wp2
    refine bodyPost_ret (v := .tuple #[.agg #[.int .i64 0, .int .i64 0, .int .i64 0, .int .i64 0], .bool false]) (by simp [results, Try.results24, go_sem, y0, y1, y2, y3]) rfl ⟨rfl, ?_⟩
    exact ((((Kp.trans KW.out KK1.out).setCell (by first | (simp; done) | (simp; omega)) _).setCell (by first | (simp; done) | (simp; omega)) _).setCell (by first | (simp; done) | (simp; omega)) _).setCell (by first | (simp; done) | (simp; omega)) _
  | true =>
    rw [c1] at H1
    cases c2 : inN g 0 255 with
    | false =>
      rw [c2] at H2
      simp only [Bool.true_and, Bool.false_and, Bool.false_eq_true, if_false]
      simp only [noE]
      go_enter Try.func24, Try.ntmps24
      go_wp2_with fail
      rw [HW.out]
      refine Calls.mono (H1.out _) ?_
      rintro e w1 ⟨rfl, k1⟩
      have KK1 : Hid (Kp W w1) := by rw [k1]; exact (Kp.refl W)
      clear k1
      obtain ⟨q0, q1, q2⟩ := HBX.out _ KK1.out.nw
      go_wp2_with fail
      refine Calls.mono (H2.out _) ?_
      rintro e w2 ⟨rfl, k2⟩
      have KK2 : Hid (Kp W w2) := by rw [k2]; exact KK1.out
      clear k2 q0 q1 q2
      obtain ⟨q0, q1, q2⟩ := HBX.out _ KK2.out.nw
      obtain ⟨z0, z1, z2, z3, zf⟩ := QB.nw HZ.out KK2.out.nw
      simp only [noE] at z0 z1 z2 z3
      obtain ⟨y0, y1, y2, y3⟩ := set4 w2 (w.heap.size + 1) (.int .i64 0) (.int .i64 0) (.int .i64 0) (.int .i64 0) z0 z1 z2 z3
      go_wp2
      refine bodyPost_ret (v := .tuple #[.agg #[.int .i64 0, .int .i64 0, .int .i64 0, .int .i64 0], .bool false]) (by simp [results, Try.results24, go_sem, y0, y1, y2, y3]) rfl ⟨rfl, ?_⟩
      exact ((((Kp.trans KW.out KK2.out).setCell (by first | (simp; done) | (simp; omega)) _).setCell (by first | (simp; done) | (simp; omega)) _).setCell (by first | (simp; done) | (simp; omega)) _).setCell (by first | (simp; done) | (simp; omega)) _
    | true =>
      rw [c2] at H2
      cases c3 : inN b 0 255 with
      | false =>
        rw [c3] at H3
        simp only [Bool.true_and, Bool.false_and, Bool.false_eq_true, if_false]
        simp only [noE]
        go_enter Try.func24, Try.ntmps24
        go_wp2_with fail
        rw [HW.out]
        refine Calls.mono (H1.out _) ?_
        rintro e w1 ⟨rfl, k1⟩
        have KK1 : Hid (Kp W w1) := by rw [k1]; exact (Kp.refl W)
        clear k1
        obtain ⟨q0, q1, q2⟩ := HBX.out _ KK1.out.nw
        go_wp2_with fail
        refine Calls.mono (H2.out _) ?_
        rintro e w2 ⟨rfl, k2⟩
        have KK2 : Hid (Kp W w2) := by rw [k2]; exact KK1.out
        clear k2 q0 q1 q2
        obtain ⟨q0, q1, q2⟩ := HBX.out _ KK2.out.nw
        go_wp2_with fail
        refine Calls.mono (H3.out _) ?_
        rintro e w3 ⟨rfl, k3⟩
        have KK3 : Hid (Kp W w3) := by rw [k3]; exact KK2.out
        clear k3 q0 q1 q2
        obtain ⟨q0, q1, q2⟩ := HBX.out _ KK3.out.nw
        obtain ⟨z0, z1, z2, z3, zf⟩ := QB.nw HZ.out KK3.out.nw
        simp only [noE] at z0 z1 z2 z3
        obtain ⟨y0, y1, y2, y3⟩ := set4 w3 (w.heap.size + 1) (.int .i64 0) (.int .i64 0) (.int .i64 0) (.int .i64 0) z0 z1 z2 z3
        go_wp2
        refine bodyPost_ret (v := .tuple #[.agg #[.int .i64 0, .int .i64 0, .int .i64 0, .int .i64 0], .bool false]) (by simp [results, Try.results24, go_sem, y0, y1, y2, y3]) rfl ⟨rfl, ?_⟩
        exact ((((Kp.trans KW.out KK3.out).setCell (by first | (simp; done) | (simp; omega)) _).setCell (by first | (simp; done) | (simp; omega)) _).setCell (by first | (simp; done) | (simp; omega)) _).setCell (by first | (simp; done) | (simp; omega)) _
      | true =>
        rw [c3] at H3
        cases c4 : inN p 0 256 with
        | false =>
          rw [c4] at H4
          simp only [Bool.and_false, Bool.false_eq_true, if_false]
          simp only [noE]
          go_enter Try.func24, Try.ntmps24
          go_wp2_with fail
          rw [HW.out]
          refine Calls.mono (H1.out _) ?_
          rintro e w1 ⟨rfl, k1⟩
          have KK1 : Hid (Kp W w1) := by rw [k1]; exact (Kp.refl W)
          clear k1
          obtain ⟨q0, q1, q2⟩ := HBX.out _ KK1.out.nw
          go_wp2_with fail
          refine Calls.mono (H2.out _) ?_
          rintro e w2 ⟨rfl, k2⟩
          have KK2 : Hid (Kp W w2) := by rw [k2]; exact KK1.out
          clear k2 q0 q1 q2
          obtain ⟨q0, q1, q2⟩ := HBX.out _ KK2.out.nw
          go_wp2_with fail
          refine Calls.mono (H3.out _) ?_
          rintro e w3 ⟨rfl, k3⟩
          have KK3 : Hid (Kp W w3) := by rw [k3]; exact KK2.out
          clear k3 q0 q1 q2
          obtain ⟨q0, q1, q2⟩ := HBX.out _ KK3.out.nw
          go_wp2_with fail
          refine Calls.mono (H4.out _) ?_
          rintro e w4 ⟨rfl, k4⟩
          have KK4 : Hid (Kp W w4) := by rw [k4]; exact KK3.out
          clear k4 q0 q1 q2
          obtain ⟨q0, q1, q2⟩ := HBX.out _ KK4.out.nw
          obtain ⟨z0, z1, z2, z3, zf⟩ := QB.nw HZ.out KK4.out.nw
          simp only [noE] at z0 z1 z2 z3
          obtain ⟨y0, y1, y2, y3⟩ := set4 w4 (w.heap.size + 1) (.int .i64 0) (.int .i64 0) (.int .i64 0) (.int .i64 0) z0 z1 z2 z3
          go_wp2
          refine bodyPost_ret (v := .tuple #[.agg #[.int .i64 0, .int .i64 0, .int .i64 0, .int .i64 0], .bool false]) (by simp [results, Try.results24, go_sem, y0, y1, y2, y3]) rfl ⟨rfl, ?_⟩
          exact ((((Kp.trans KW.out KK4.out).setCell (by first | (simp; done) | (simp; omega)) _).setCell (by first | (simp; done) | (simp; omega)) _).setCell (by first | (simp; done) | (simp; omega)) _).setCell (by first | (simp; done) | (simp; omega)) _
        | true =>
          rw [c4] at H4
          simp only [Bool.true_and, if_true]
          have HC : Hid (∀ w, _) := fun w => stint w r g b p (by unfold inN at c1; simpa [ok8] using c1) (by unfold inN at c2; simpa [ok8] using c2) (by unfold inN at c3; simpa [ok8] using c3) (by unfold inN at c4; simpa using c4)
          unfold edV at HC
          generalize colT r g b p = V at *
          obtain ⟨v0, v1, v2, v3⟩ := V
          simp only at HC ⊢
          go_enter Try.func24, Try.ntmps24
          go_wp2_with fail
          rw [HW.out]
          refine Calls.mono (H1.out _) ?_
          rintro e w1 ⟨rfl, k1⟩
          have KK1 : Hid (Kp W w1) := by rw [k1]; exact (Kp.refl W)
          clear k1
          obtain ⟨q0, q1, q2⟩ := HBX.out _ KK1.out.nw
          go_wp2_with fail
          refine Calls.mono (H2.out _) ?_
          rintro e w2 ⟨rfl, k2⟩
          have KK2 : Hid (Kp W w2) := by rw [k2]; exact KK1.out
          clear k2 q0 q1 q2
          obtain ⟨q0, q1, q2⟩ := HBX.out _ KK2.out.nw
          go_wp2_with fail
          refine Calls.mono (H3.out _) ?_
          rintro e w3 ⟨rfl, k3⟩
          have KK3 : Hid (Kp W w3) := by rw [k3]; exact KK2.out
          clear k3 q0 q1 q2
          obtain ⟨q0, q1, q2⟩ := HBX.out _ KK3.out.nw
          go_wp2_with fail
          refine Calls.mono (H4.out _) ?_
          rintro e w4 ⟨rfl, k4⟩
          have KK4 : Hid (Kp W w4) := by rw [k4]; exact KK3.out
          clear k4 q0 q1 q2
          obtain ⟨q0, q1, q2⟩ := HBX.out _ KK4.out.nw
          go_wp2_with fail
          refine Calls.mono (HC.out _) ?_
          rintro e wc ⟨rfl, kc⟩
          have KKc : Hid (Kp W wc) := Kp.trans KK4.out kc
          clear kc q0 q1 q2
          obtain ⟨z0, z1, z2, z3, zf⟩ := QB.nw HZ.out KKc.out.nw
          simp only [noE] at z0 z1 z2 z3
          obtain ⟨y0, y1, y2, y3⟩ := set4 wc (w.heap.size + 1) (.int .i64 v0) (.int .i64 v1) (.int .i64 v2) (.int .i64 v3) z0 z1 z2 z3
          go_wp2
          refine bodyPost_ret (v := .tuple #[.agg #[.int .i64 v0, .int .i64 v1, .int .i64 v2, .int .i64 v3], .bool true]) (by simp [results, Try.results24, go_sem, y0, y1, y2, y3]) rfl ⟨rfl, ?_⟩
          exact ((((Kp.trans KW.out KKc.out).setCell (by first | (simp; done) | (simp; omega)) _).setCell (by first | (simp; done) | (simp; omega)) _).setCell (by first | (simp; done) | (simp; omega)) _).setCell (by first | (simp; done) | (simp; omega)) _
end Go.Proofs.Ythlohbiocfeapaa
