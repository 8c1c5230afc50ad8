/-
  Tints, by the program: which are good; thinned, laid over; each theorem names its conditions.
-/
import Derived.Test.YthlohbiocfeapaaTnIR
import Derived.Test.YthlohbiocfeapaaIw
namespace Go.Proofs.Ythlohbiocfeapaa
open Go.ChangeShapes Go.WideShapes Go.ChangeAt Go.RowKit
set_option linter.unusedVariables false

set_option maxRecDepth 100000 in
set_option maxHeartbeats 2000000 in
theorem igoodTn (w : World) (t : Edg) : Calls Try.prog 18 #[edV t] w fun e w' => e = .returned (.bool (tnB t)) ∧ Kp w w' := by
  obtain ⟨r, g, b, a⟩ := t
  unfold edV tnB
  simp only
  have H1 : Hid (∀ w, Calls Try.prog 60 #[.int .i64 a, .int .i64 0, .int .i64 255] w fun e w' => e = .returned (.bool (inN a 0 255)) ∧ w' = w) := fun w => iin_any w a _ _
  have H2 : Hid (∀ w, Calls Try.prog 60 #[.int .i64 r, .int .i64 0, .int .i64 a] w fun e w' => e = .returned (.bool (inN r 0 a)) ∧ w' = w) := fun w => iin_any w r _ _
  have H3 : Hid (∀ w, Calls Try.prog 60 #[.int .i64 g, .int .i64 0, .int .i64 a] w fun e w' => e = .returned (.bool (inN g 0 a)) ∧ w' = w) := fun w => iin_any w g _ _
  have H4 : Hid (∀ w, Calls Try.prog 60 #[.int .i64 b, .int .i64 0, .int .i64 a] w fun e w' => e = .returned (.bool (inN b 0 a)) ∧ w' = w) := fun w => iin_any w b _ _
  generalize inN a 0 255 = b1 at *
  generalize inN r 0 a = b2 at *
  generalize inN g 0 a = b3 at *
  generalize inN b 0 a = b4 at *
  cases b1 with
  | false =>
    go_enter Try.func18, Try.ntmps18
    go_wp2_with fail
    refine Calls.mono (H1.out _) ?_
    rintro e w9 ⟨rfl, rfl⟩
    go_wp2
    go_ret
    exact ⟨rfl, (Kp.refl w).alloc _ _⟩
  | true =>
    rw [Bool.true_and]
    cases b2 with
    | false =>
      go_enter Try.func18, Try.ntmps18
      go_wp2_with fail
      refine Calls.mono (H1.out _) ?_
      rintro e w9 ⟨rfl, rfl⟩
      go_wp2_with fail
      refine Calls.mono (H2.out _) ?_
      rintro e w9 ⟨rfl, rfl⟩
      go_wp2
      go_ret
      exact ⟨rfl, (Kp.refl w).alloc _ _⟩
    | true =>
      rw [Bool.true_and]
      cases b3 with
      | false =>
        go_enter Try.func18, Try.ntmps18
        go_wp2_with fail
        refine Calls.mono (H1.out _) ?_
        rintro e w9 ⟨rfl, rfl⟩
        go_wp2_with fail
        refine Calls.mono (H2.out _) ?_
        rintro e w9 ⟨rfl, rfl⟩
        go_wp2_with fail
        refine Calls.mono (H3.out _) ?_
        rintro e w9 ⟨rfl, rfl⟩
        go_wp2
        go_ret
        exact ⟨rfl, (Kp.refl w).alloc _ _⟩
      | true =>
        rw [Bool.true_and]
        go_enter Try.func18, Try.ntmps18
        go_wp2_with fail
        refine Calls.mono (H1.out _) ?_
        rintro e w9 ⟨rfl, rfl⟩
        go_wp2_with fail
        refine Calls.mono (H2.out _) ?_
        rintro e w9 ⟨rfl, rfl⟩
        go_wp2_with fail
        refine Calls.mono (H3.out _) ?_
        rintro e w9 ⟨rfl, rfl⟩
        go_wp2_with fail
        refine Calls.mono (H4.out _) ?_
        rintro e w9 ⟨rfl, rfl⟩
        go_wp2
        go_ret
        exact ⟨rfl, (Kp.refl w).alloc _ _⟩
theorem ipart (w : World) (p : Int) : Calls Try.prog 74 #[.int .i64 p] w fun e w' => e = .returned (.bool (inN p 0 256)) ∧ w' = w := by
  have H1 : Hid (∀ w, Calls Try.prog 60 #[.int .i64 p, .int .i64 0, .int .i64 256] w fun e w' => e = .returned (.bool (inN p 0 256)) ∧ w' = w) := fun w => iin_any w p _ _
  go_enter Try.func74, Try.ntmps74
  go_wp2_with fail
  refine Calls.mono (H1.out _) ?_
  rintro e w9 ⟨rfl, rfl⟩
  go_wp2
  go_ret
  exact ⟨rfl, rfl⟩
theorem ithinTone (w : World) (x p : Int) (hx : 0 ≤ x ∧ x ≤ 255) (hp : 0 ≤ p ∧ p ≤ 256) : Calls Try.prog 75 #[.int .i64 x, .int .i64 p] w fun e w' => e = .returned (.int .i64 (thinC x p)) ∧ w' = w := by
  obtain ⟨r1, r2, r3, r4, r5⟩ := thin_f hx hp
  generalize thinC x p = R at *
  clear hx hp
  go_enter Try.func75, Try.ntmps75
  go_wp2
  go_ret
  exact ⟨rfl, rfl⟩
theorem itoneTimes (w : World) (x a : Int) (hx : 0 ≤ x ∧ x ≤ 255) (ha : 0 ≤ a ∧ a ≤ 255) : Calls Try.prog 78 #[.int .i64 x, .int .i64 a] w fun e w' => e = .returned (.int .i64 (colC x a)) ∧ w' = w := by
  obtain ⟨r1, r2, r3⟩ := col_f hx ha
  have r4 : 0 ≤ colC x a ∧ colC x a ≤ 255 := by unfold colC; generalize x * a = z at *; omega
  generalize colC x a = R at *
  clear hx ha
  go_enter Try.func78, Try.ntmps78
  go_wp2
  go_ret
  exact ⟨rfl, rfl⟩
/-- The closure of thinned. -/
theorem ithin1 (w : World) (x p : Int) (g : Nat) (hx : 0 ≤ x ∧ x ≤ 255) (hp : 0 ≤ p ∧ p ≤ 256) (hc : w.cell? ⟨g, 0, none⟩ = some (.int .i64 p)) : Calls Try.prog 114 (#[.int .i64 x] ++ #[.pointer (some ⟨g, 0, none⟩)]) w fun e w' => e = .returned (.int .i64 (thinC x p)) ∧ Kp w w' := by
  show Calls Try.prog 114 #[.int .i64 x, .pointer (some ⟨g, 0, none⟩)] w _
  have H : Hid (∀ w, _) := fun w => ithinTone w x p hx hp
  generalize thinC x p = R at *
  clear hx hp
  go_enter Try.func114, Try.ntmps114
  go_wp2_with fail
  refine Calls.mono (H.out _) ?_
  rintro e w1 ⟨rfl, rfl⟩
  go_wp2
  go_ret
  exact ⟨rfl, Kp.refl _⟩
/-- The closure of TintOf. -/
theorem icol1 (w : World) (x a : Int) (g : Nat) (hx : 0 ≤ x ∧ x ≤ 255) (ha : 0 ≤ a ∧ a ≤ 255) (hc : w.cell? ⟨g, 0, none⟩ = some (.int .i64 a)) : Calls Try.prog 77 (#[.int .i64 x] ++ #[.pointer (some ⟨g, 0, none⟩)]) w fun e w' => e = .returned (.int .i64 (colC x a)) ∧ Kp w w' := by
  show Calls Try.prog 77 #[.int .i64 x, .pointer (some ⟨g, 0, none⟩)] w _
  have H : Hid (∀ w, _) := fun w => itoneTimes w x a hx ha
  generalize colC x a = R at *
  clear hx ha
  go_enter Try.func77, Try.ntmps77
  go_wp2_with fail
  refine Calls.mono (H.out _) ?_
  rintro e w1 ⟨rfl, rfl⟩
  go_wp2
  go_ret
  exact ⟨rfl, Kp.refl _⟩
/-- The closure of over. -/
theorem iover1 (w : World) (x u m : Int) (g : Nat) (hx : 0 ≤ x ∧ x ≤ 255) (hu : 0 ≤ u ∧ u ≤ 255) (hm : 0 ≤ m ∧ m ≤ 255) (hc : w.cell? ⟨g, 0, none⟩ = some (.int .i64 m)) : Calls Try.prog 107 (#[.int .i64 x, .int .i64 u] ++ #[.pointer (some ⟨g, 0, none⟩)]) w fun e w' => e = .returned (.int .i64 (overC x u m)) ∧ Kp w w' := by
  show Calls Try.prog 107 #[.int .i64 x, .int .i64 u, .pointer (some ⟨g, 0, none⟩)] w _
  have H : Hid (∀ w, _) := fun w => itoneTimes w u m hu hm
  have r4 : 0 ≤ colC u m ∧ colC u m ≤ 255 := by
    obtain ⟨a1, a2, a3, a4, a5⟩ := over_f hx hu hm
    exact ⟨a4, a5⟩
  have hV : overC x u m = x + colC u m := rfl
  rw [hV]
  clear hV
  generalize colC u m = R at *
  clear hu hm
  go_enter Try.func107, Try.ntmps107
  go_wp2_with fail
  refine Calls.mono (H.out _) ?_
  rintro e w1 ⟨rfl, rfl⟩
  go_wp2
  go_ret
  exact ⟨rfl, Kp.refl _⟩
set_option maxRecDepth 100000 in
set_option maxHeartbeats 4000000 in
theorem ieach (w : World) (t r : Edg) (fn : FuncId) (cap : Array Value) (hfx : ∀ args w, Sem.run Try.prog (callFunc fn args) w = Result.ok (Next.enter fn args) w)
    (h0 : ∀ w1, Kp w w1 → Calls Try.prog fn (#[.int .i64 t.ax] ++ cap) w1 fun e w' => e = .returned (.int .i64 r.ax) ∧ Kp w1 w')
    (h1 : ∀ w1, Kp w w1 → Calls Try.prog fn (#[.int .i64 t.ay] ++ cap) w1 fun e w' => e = .returned (.int .i64 r.ay) ∧ Kp w1 w')
    (h2 : ∀ w1, Kp w w1 → Calls Try.prog fn (#[.int .i64 t.bx] ++ cap) w1 fun e w' => e = .returned (.int .i64 r.bx) ∧ Kp w1 w')
    (h3 : ∀ w1, Kp w w1 → Calls Try.prog fn (#[.int .i64 t.cy] ++ cap) w1 fun e w' => e = .returned (.int .i64 r.cy) ∧ Kp w1 w') :
    Calls Try.prog 76 #[edV t, .func (.func fn) #[] cap] w fun e w' => e = .returned (edV r) ∧ Kp w w' := by
  obtain ⟨x0, x1, x2, x3⟩ := t
  obtain ⟨y0, y1, y2, y3⟩ := r
  simp only at h0 h1 h2 h3
  unfold edV
  simp only
  have H0 : Hid _ := h0
  have H1 : Hid _ := h1
  have H2 : Hid _ := h2
  have H3 : Hid _ := h3
  have HX : Hid _ := hfx
  clear h0 h1 h2 h3 hfx
  obtain ⟨W, hW⟩ : ∃ W, (w.alloc (.cells #[.int .i64 x0, .int .i64 x1, .int .i64 x2, .int .i64 x3] 24)).alloc (.cells #[.int .i64 0, .int .i64 0, .int .i64 0, .int .i64 0] 24) = W := ⟨_, rfl⟩
  have KW : Hid (Kp w W) := by show Kp w W; rw [← hW]; exact (((Kp.refl w).alloc _ _).alloc _ _)
  have HZ : Hid (QB W (w.heap.size + 1) noE) := by
    show QB _ _ _
    rw [← hW]
    have := QB.new (w.alloc (.cells #[.int .i64 x0, .int .i64 x1, .int .i64 x2, .int .i64 x3] 24)) noE 24
    simp only [World.size_alloc] at this
    exact this
  have HB0 : Hid (QB W (w.heap.size) ⟨x0, x1, x2, x3⟩) := by
    show QB _ _ _
    rw [← hW]
    have := QB.new w ⟨x0, x1, x2, x3⟩ 24
    exact (this.nw (QBnw _ _))
  have HW : Hid (_ = W) := hW
  clear hW
  go_enter Try.func76, Try.ntmps76
  go_wp2
  rw [HW.out]
  refine reg_change (ops' := opsOf 1 Try.f76) (by kernel_rfl) ?_
  obtain ⟨c00, c01, c02, c03, cf0⟩ := HB0.out
  obtain ⟨z0, z1, z2, z3, zf⟩ := HZ.out
  refine EaR.run ⟨x0, x1, x2, x3, y0, y1, y2, y3, fn, cap, w.heap.size, w.heap.size + 1, W.drew, _⟩ ⟨c00, c01, c02, c03, HX.out, fun w1 k => H0.out w1 (Kp.trans KW.out (undrew k)), fun w1 k => H1.out w1 (Kp.trans KW.out (undrew k)), fun w1 k => H2.out w1 (Kp.trans KW.out (undrew k)), fun w1 k => H3.out w1 (Kp.trans KW.out (undrew k)), ⟨_, z0⟩, ⟨_, z1⟩, ⟨_, z2⟩, ⟨_, z3⟩, zf, rfl, rfl, rfl, rfl⟩ W (Kp.refl _) ?_
  rintro γ w5 ⟨w4, k4, rfl⟩
  replace k4 : Kp W w4 := undrew k4
  have K4 : Hid (Kp W w4) := k4
  clear k4 z0 z1 z2 z3 zf c00 c01 c02 c03
  obtain ⟨z0, z1, z2, z3, zf⟩ := QB.nw HZ.out K4.out.nw
  simp only [noE] at z0 z1 z2 z3
  simp only [Act.put, List.setIfInBounds_toArray, List.set_cons_zero, List.set_cons_succ]
  obtain ⟨v0, v1, v2, v3⟩ := set4 w4 (w.heap.size + 1) (.int .i64 y0) (.int .i64 y1) (.int .i64 y2) (.int .i64 y3) z0 z1 z2 z3
  go_wp2
  refine bodyPost_ret (v := .agg #[.int .i64 y0, .int .i64 y1, .int .i64 y2, .int .i64 y3]) (by simp [results, Try.results76, go_sem, v0, v1, v2, v3]) rfl ⟨rfl, ?_⟩
  exact ((((Kp.trans KW.out K4.out).setCell (by first | (simp; done) | (simp; omega)) _).setCell (by first | (simp; done) | (simp; omega)) _).setCell (by first | (simp; done) | (simp; omega)) _).setCell (by first | (simp; done) | (simp; omega)) _
set_option maxRecDepth 100000 in
set_option maxHeartbeats 4000000 in
theorem iwith (w : World) (t u r : Edg) (fn : FuncId) (cap : Array Value) (hfx : ∀ args w, Sem.run Try.prog (callFunc fn args) w = Result.ok (Next.enter fn args) w)
    (h0 : ∀ w1, Kp w w1 → Calls Try.prog fn (#[.int .i64 t.ax, .int .i64 u.ax] ++ cap) w1 fun e w' => e = .returned (.int .i64 r.ax) ∧ Kp w1 w')
    (h1 : ∀ w1, Kp w w1 → Calls Try.prog fn (#[.int .i64 t.ay, .int .i64 u.ay] ++ cap) w1 fun e w' => e = .returned (.int .i64 r.ay) ∧ Kp w1 w')
    (h2 : ∀ w1, Kp w w1 → Calls Try.prog fn (#[.int .i64 t.bx, .int .i64 u.bx] ++ cap) w1 fun e w' => e = .returned (.int .i64 r.bx) ∧ Kp w1 w')
    (h3 : ∀ w1, Kp w w1 → Calls Try.prog fn (#[.int .i64 t.cy, .int .i64 u.cy] ++ cap) w1 fun e w' => e = .returned (.int .i64 r.cy) ∧ Kp w1 w') :
    Calls Try.prog 106 #[edV t, edV u, .func (.func fn) #[] cap] w fun e w' => e = .returned (edV r) ∧ Kp w w' := by
  obtain ⟨x0, x1, x2, x3⟩ := t
  obtain ⟨u0, u1, u2, u3⟩ := u
  obtain ⟨y0, y1, y2, y3⟩ := r
  simp only at h0 h1 h2 h3
  unfold edV
  simp only
  have H0 : Hid _ := h0
  have H1 : Hid _ := h1
  have H2 : Hid _ := h2
  have H3 : Hid _ := h3
  have HX : Hid _ := hfx
  clear h0 h1 h2 h3 hfx
  obtain ⟨W, hW⟩ : ∃ W, ((w.alloc (.cells #[.int .i64 x0, .int .i64 x1, .int .i64 x2, .int .i64 x3] 24)).alloc (.cells #[.int .i64 u0, .int .i64 u1, .int .i64 u2, .int .i64 u3] 24)).alloc (.cells #[.int .i64 0, .int .i64 0, .int .i64 0, .int .i64 0] 24) = W := ⟨_, rfl⟩
  have KW : Hid (Kp w W) := by show Kp w W; rw [← hW]; exact ((((Kp.refl w).alloc _ _).alloc _ _).alloc _ _)
  have HZ : Hid (QB W (w.heap.size + 1 + 1) noE) := by
    show QB _ _ _
    rw [← hW]
    have := QB.new ((w.alloc (.cells #[.int .i64 x0, .int .i64 x1, .int .i64 x2, .int .i64 x3] 24)).alloc (.cells #[.int .i64 u0, .int .i64 u1, .int .i64 u2, .int .i64 u3] 24)) noE 24
    simp only [World.size_alloc] at this
    exact this
  have HB0 : Hid (QB W (w.heap.size) ⟨x0, x1, x2, x3⟩) := by
    show QB _ _ _
    rw [← hW]
    have := QB.new w ⟨x0, x1, x2, x3⟩ 24
    exact ((this.nw (QBnw _ _)).nw (QBnw _ _))
  have HB1 : Hid (QB W (w.heap.size + 1) ⟨u0, u1, u2, u3⟩) := by
    show QB _ _ _
    rw [← hW]
    have := QB.new (w.alloc (.cells #[.int .i64 x0, .int .i64 x1, .int .i64 x2, .int .i64 x3] 24)) ⟨u0, u1, u2, u3⟩ 24
    simp only [World.size_alloc] at this
    exact (this.nw (QBnw _ _))
  have HW : Hid (_ = W) := hW
  clear hW
  go_enter Try.func106, Try.ntmps106
  go_wp2
  rw [HW.out]
  refine reg_change (ops' := opsOf 1 Try.f106) (by kernel_rfl) ?_
  obtain ⟨c00, c01, c02, c03, cf0⟩ := HB0.out
  obtain ⟨c10, c11, c12, c13, cf1⟩ := HB1.out
  obtain ⟨z0, z1, z2, z3, zf⟩ := HZ.out
  refine WiR.run ⟨x0, x1, x2, x3, u0, u1, u2, u3, y0, y1, y2, y3, fn, cap, w.heap.size, w.heap.size + 1, w.heap.size + 1 + 1, W.drew, _⟩ ⟨c00, c01, c02, c03, c10, c11, c12, c13, HX.out, fun w1 k => H0.out w1 (Kp.trans KW.out (undrew k)), fun w1 k => H1.out w1 (Kp.trans KW.out (undrew k)), fun w1 k => H2.out w1 (Kp.trans KW.out (undrew k)), fun w1 k => H3.out w1 (Kp.trans KW.out (undrew k)), ⟨_, z0⟩, ⟨_, z1⟩, ⟨_, z2⟩, ⟨_, z3⟩, zf, rfl, rfl, rfl, rfl, rfl⟩ W (Kp.refl _) ?_
  rintro γ w5 ⟨w4, k4, rfl⟩
  replace k4 : Kp W w4 := undrew k4
  have K4 : Hid (Kp W w4) := k4
  clear k4 z0 z1 z2 z3 zf c00 c01 c02 c03 c10 c11 c12 c13
  obtain ⟨z0, z1, z2, z3, zf⟩ := QB.nw HZ.out K4.out.nw
  simp only [noE] at z0 z1 z2 z3
  simp only [Act.put, List.setIfInBounds_toArray, List.set_cons_zero, List.set_cons_succ]
  obtain ⟨v0, v1, v2, v3⟩ := set4 w4 (w.heap.size + 1 + 1) (.int .i64 y0) (.int .i64 y1) (.int .i64 y2) (.int .i64 y3) z0 z1 z2 z3
  go_wp2
  refine bodyPost_ret (v := .agg #[.int .i64 y0, .int .i64 y1, .int .i64 y2, .int .i64 y3]) (by simp [results, Try.results106, go_sem, v0, v1, v2, v3]) rfl ⟨rfl, ?_⟩
  exact ((((Kp.trans KW.out K4.out).setCell (by first | (simp; done) | (simp; omega)) _).setCell (by first | (simp; done) | (simp; omega)) _).setCell (by first | (simp; done) | (simp; omega)) _).setCell (by first | (simp; done) | (simp; omega)) _
set_option maxRecDepth 100000 in
set_option maxHeartbeats 4000000 in
theorem ithin (w : World) (t : Edg) (p : Int) (ht : ok8 t.ax ∧ ok8 t.ay ∧ ok8 t.bx ∧ ok8 t.cy) (hp : 0 ≤ p ∧ p ≤ 256) :
    Calls Try.prog 80 #[edV t, .int .i64 p] w fun e w' => e = .returned (edV (thinT t p)) ∧ Kp w w' := by
  obtain ⟨W, hW⟩ : ∃ W, ((w.alloc (.cells #[.int .i64 t.ax, .int .i64 t.ay, .int .i64 t.bx, .int .i64 t.cy] 24)).alloc (.cells #[.int .i64 p] 3)).alloc (.cells #[.int .i64 0, .int .i64 0, .int .i64 0, .int .i64 0] 24) = W := ⟨_, rfl⟩
  have KW : Hid (Kp w W) := by show Kp w W; rw [← hW]; exact (((Kp.refl w).alloc _ _).alloc _ _).alloc _ _
  have hsz : Hid (W.heap.size = w.heap.size + 1 + 1 + 1) := by show _ = _; rw [← hW]; simp
  have HP : Hid (W.cell? ⟨w.heap.size + 1, 0, none⟩ = some (.int .i64 p)) := by show _ = _; rw [← hW]; simp [World.cell?_alloc_past]
  have HZ : Hid (QB W (w.heap.size + 1 + 1) noE) := by
    show QB _ _ _
    rw [← hW]
    have := QB.new ((w.alloc (.cells #[.int .i64 t.ax, .int .i64 t.ay, .int .i64 t.bx, .int .i64 t.cy] 24)).alloc (.cells #[.int .i64 p] 3)) noE 24
    simp only [World.size_alloc] at this
    exact this
  have HC : Hid (Calls Try.prog 76 #[edV t, .func (.func 114) #[] #[.pointer (some ⟨w.heap.size + 1, 0, none⟩)]] W fun e w' => e = .returned (edV (thinT t p)) ∧ Kp W w') := by
    have hcl : ∀ w1, Kp W w1 → w1.cell? ⟨w.heap.size + 1, 0, none⟩ = some (.int .i64 p) := fun w1 k => rq_at k HP.out
    exact ieach W t (thinT t p) 114 _ (fun _ _ => by simp [go_sem]) (fun w1 k => ithin1 w1 _ p _ ht.1 hp (hcl w1 k)) (fun w1 k => ithin1 w1 _ p _ ht.2.1 hp (hcl w1 k)) (fun w1 k => ithin1 w1 _ p _ ht.2.2.1 hp (hcl w1 k)) (fun w1 k => ithin1 w1 _ p _ ht.2.2.2 hp (hcl w1 k))
  have HW : Hid (_ = W) := hW
  have hmf : ∀ (fn : Fn) (first cap : Array Value) (w : World), (Instr.makeFunc fn first cap).run Try.prog w = .ok (.func fn first cap) w := fun _ _ _ _ => rfl
  clear hW ht hp
  generalize thinT t p = V at *
  obtain ⟨r, g, b, a⟩ := t
  obtain ⟨v0, v1, v2, v3⟩ := V
  unfold edV at HC ⊢
  simp only at HC HW ⊢
  go_enter Try.func80, Try.ntmps80
  go_wp2_with fail
  rw [HW.out]
  refine Calls.mono HC.out ?_
  rintro e w4 ⟨rfl, k4⟩
  have K4 : Hid (Kp W w4) := k4
  clear k4
  obtain ⟨z0, z1, z2, z3, zf⟩ := QB.nw HZ.out K4.out.nw
  simp only [noE] at z0 z1 z2 z3
  obtain ⟨y0, y1, y2, y3⟩ := set4 w4 (w.heap.size + 1 + 1) (.int .i64 v0) (.int .i64 v1) (.int .i64 v2) (.int .i64 v3) z0 z1 z2 z3
  go_wp2
  refine bodyPost_ret (v := .agg #[.int .i64 v0, .int .i64 v1, .int .i64 v2, .int .i64 v3]) (by simp [results, Try.results80, go_sem, y0, y1, y2, y3]) rfl ⟨rfl, ?_⟩
  exact ((((Kp.trans KW.out K4.out).setCell (by first | (simp; done) | (simp; omega)) _).setCell (by first | (simp; done) | (simp; omega)) _).setCell (by first | (simp; done) | (simp; omega)) _).setCell (by first | (simp; done) | (simp; omega)) _
set_option maxRecDepth 100000 in
set_option maxHeartbeats 4000000 in
theorem iover (w : World) (t u : Edg) (ht : ok8 t.ax ∧ ok8 t.ay ∧ ok8 t.bx ∧ ok8 t.cy) (hu : ok8 u.ax ∧ ok8 u.ay ∧ ok8 u.bx ∧ ok8 u.cy) :
    Calls Try.prog 58 #[edV t, edV u] w fun e w' => e = .returned (edV (overT t u)) ∧ Kp w w' := by
  obtain ⟨W, hW⟩ : ∃ W, (((w.alloc (.cells #[.int .i64 t.ax, .int .i64 t.ay, .int .i64 t.bx, .int .i64 t.cy] 24)).alloc (.cells #[.int .i64 u.ax, .int .i64 u.ay, .int .i64 u.bx, .int .i64 u.cy] 24)).alloc (.cells #[.int .i64 0, .int .i64 0, .int .i64 0, .int .i64 0] 24)).alloc (.cells #[.int .i64 (255 - t.cy)] 3) = W := ⟨_, rfl⟩
  have KW : Hid (Kp w W) := by show Kp w W; rw [← hW]; exact ((((Kp.refl w).alloc _ _).alloc _ _).alloc _ _).alloc _ _
  have HP : Hid (W.cell? ⟨w.heap.size + 1 + 1 + 1, 0, none⟩ = some (.int .i64 (255 - t.cy))) := by
    have h1 : ∀ (w : World) (v : Value) (ty : TypeId), (w.alloc (.cells #[v] ty)).cell? ⟨w.heap.size, 0, none⟩ = some v := fun _ _ _ => by simp
    have h := h1 (((w.alloc (.cells #[.int .i64 t.ax, .int .i64 t.ay, .int .i64 t.bx, .int .i64 t.cy] 24)).alloc (.cells #[.int .i64 u.ax, .int .i64 u.ay, .int .i64 u.bx, .int .i64 u.cy] 24)).alloc (.cells #[.int .i64 0, .int .i64 0, .int .i64 0, .int .i64 0] 24)) (.int .i64 (255 - t.cy)) 3
    simp only [World.size_alloc] at h
    show _ = _
    rw [← hW]
    exact h
  have HZ : Hid (QB W (w.heap.size + 1 + 1) noE) := by
    show QB _ _ _
    rw [← hW]
    have := QB.new ((w.alloc (.cells #[.int .i64 t.ax, .int .i64 t.ay, .int .i64 t.bx, .int .i64 t.cy] 24)).alloc (.cells #[.int .i64 u.ax, .int .i64 u.ay, .int .i64 u.bx, .int .i64 u.cy] 24)) noE 24
    simp only [World.size_alloc] at this
    exact this.nw (QBnw _ _)
  have HC : Hid (Calls Try.prog 106 #[edV t, edV u, .func (.func 107) #[] #[.pointer (some ⟨w.heap.size + 1 + 1 + 1, 0, none⟩)]] W fun e w' => e = .returned (edV (overT t u)) ∧ Kp W w') := by
    have hcl : ∀ w1, Kp W w1 → w1.cell? ⟨w.heap.size + 1 + 1 + 1, 0, none⟩ = some (.int .i64 (255 - t.cy)) := fun w1 k => rq_at k HP.out
    have hm : 0 ≤ 255 - t.cy ∧ 255 - t.cy ≤ 255 := by have := ht.2.2.2; unfold ok8 at this; omega
    exact iwith W t u (overT t u) 107 _ (fun _ _ => by simp [go_sem]) (fun w1 k => iover1 w1 _ _ _ _ ht.1 hu.1 hm (hcl w1 k)) (fun w1 k => iover1 w1 _ _ _ _ ht.2.1 hu.2.1 hm (hcl w1 k)) (fun w1 k => iover1 w1 _ _ _ _ ht.2.2.1 hu.2.2.1 hm (hcl w1 k)) (fun w1 k => iover1 w1 _ _ _ _ ht.2.2.2 hu.2.2.2 hm (hcl w1 k))
  have HW : Hid (_ = W) := hW
  have hmf : ∀ (fn : Fn) (first cap : Array Value) (w : World), (Instr.makeFunc fn first cap).run Try.prog w = .ok (.func fn first cap) w := fun _ _ _ _ => rfl
  have ha := ht.2.2.2
  clear hW ht hu
  generalize overT t u = V at *
  obtain ⟨r, g, b, a⟩ := t
  obtain ⟨x, y, z, v⟩ := u
  obtain ⟨v0, v1, v2, v3⟩ := V
  unfold edV at HC ⊢
  unfold ok8 at ha
  simp only at HC HW ha HP ⊢
  go_enter Try.func58, Try.ntmps58
  go_wp2_with fail
  rw [HW.out]
  refine Calls.mono HC.out ?_
  rintro e w4 ⟨rfl, k4⟩
  have K4 : Hid (Kp W w4) := k4
  clear k4
  obtain ⟨z0, z1, z2, z3, zf⟩ := QB.nw HZ.out K4.out.nw
  simp only [noE] at z0 z1 z2 z3
  obtain ⟨y0, y1, y2, y3⟩ := set4 w4 (w.heap.size + 1 + 1) (.int .i64 v0) (.int .i64 v1) (.int .i64 v2) (.int .i64 v3) z0 z1 z2 z3
  go_wp2
  refine bodyPost_ret (v := .agg #[.int .i64 v0, .int .i64 v1, .int .i64 v2, .int .i64 v3]) (by simp [results, Try.results58, go_sem, y0, y1, y2, y3]) rfl ⟨rfl, ?_⟩
  exact ((((Kp.trans KW.out K4.out).setCell (by first | (simp; done) | (simp; omega)) _).setCell (by first | (simp; done) | (simp; omega)) _).setCell (by first | (simp; done) | (simp; omega)) _).setCell (by first | (simp; done) | (simp; omega)) _
end Go.Proofs.Ythlohbiocfeapaa
