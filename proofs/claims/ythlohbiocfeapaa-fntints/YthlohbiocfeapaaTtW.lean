/-
  The walk of the law FnTints; each theorem names its conditions.
-/
import Derived.Test.YthlohbiocfeapaaTtP
import Derived.Test.YthlohbiocfeapaaDrR
import Derived.Test.YthlohbiocfeapaaTnJ
import Derived.Test.YthlohbiocfeapaaTn
namespace Go.Proofs.Ythlohbiocfeapaa
open Go.ChangeShapes Go.WideShapes Go.ChangeAt Go.RowKit
set_option linter.unusedVariables false

theorem Code.later {w w1 : World} {B B' : Nat} {ca : Option Addr} {len : Nat} (h : Code w B ca len) (hb : Below B w w1) (hB : B ≤ B') : Code w1 B' ca len := by
  rcases h with h | ⟨b, off, h1, h2, h3⟩
  · exact Or.inl h
  · refine Or.inr ⟨b, off, h1, by omega, fun i hi => ?_⟩
    obtain ⟨v, v0, v1, hv⟩ := h3 i hi
    exact ⟨v, v0, v1, by rw [hb.cell (p := ⟨b, off + i, none⟩) h2]; exact hv⟩
theorem ovV_good {t u : Edg} (h : (ovV t u).2 = true) : tnB (ovV t u).1 = true ∧ (t.cy = 255 → (ovV t u).1 = t) ∧ (t.cy = 0 → (ovV t u).1 = u) := by
  unfold ovV at h ⊢
  by_cases hc : (tnB t && tnB u) = true
  · rw [if_pos hc]
    rw [Bool.and_eq_true] at hc
    exact ⟨over_good hc.1 hc.2, fun h => over_full h, fun h => over_empty hc.1 h⟩
  · rw [if_neg hc] at h
    simp at h
set_option maxRecDepth 100000 in
set_option maxHeartbeats 8000000 in
theorem walk_tints (w : World) (a0 : Option Addr) (len0 cap0 : Nat) (a1 : Option Addr) (len1 cap1 : Nat) (ml0 : len0 ≤ 9223372036854775807) (ml1 : len1 ≤ 9223372036854775807) (hd0 : Code w w.heap.size a0 len0) (hd1 : Code w w.heap.size a1 len1) :
    Calls Try.prog 3 #[.slice a0 len0 cap0, .slice a1 len1 cap1] w fun e w' => e = .returned (.bool true) ∧ Below w.heap.size w w' := by
  have HC0 : Hid _ := hd0
  have HC1 : Hid _ := hd1
  clear hd0 hd1
  by_cases hbig : 1048576 < wrap64 ((len0 : Int) + (len1 : Int))
  · go_enter Try.func3, Try.ntmps3
    go_wp2
    go_ret
    exact ⟨rfl, Below.refl _ _⟩
  · go_enter Try.func3, Try.ntmps3
    go_wp2_with fail
    refine (drawOver_any w a0 len0 cap0 ml0 HC0.out).mono ?_
    rintro e w1 ⟨a, b, rfl, n1⟩
    have N1 : Hid (Nw w w1) := n1
    clear n1
    have HI : Hid (∀ w, _) := fun w => ioverOf w a b
    have HS : Hid (∀ w, _) := fun w => soverOf w a b
    have HO : Hid _ := fun h => ovV_good (t := a) (u := b) h
    generalize (ovV a b).2 = bv at *
    generalize (ovV a b).1 = V at *
    have HG : Hid (∀ w, _) := fun w => igoodTn w V
    obtain ⟨r, g, b', A⟩ := a
    obtain ⟨x, y, z, v⟩ := b
    obtain ⟨v0, v1, v2, v3⟩ := V
    unfold edV at HI HS HG ⊢
    simp only at HI HS HG HO ⊢
    have hbb : (bv != bv) = false := by cases bv <;> rfl
    obtain ⟨W2, hW2⟩ : ∃ W2, (w1.alloc (.cells #[.int .i64 r, .int .i64 g, .int .i64 b', .int .i64 A] 24)).alloc (.cells #[.int .i64 x, .int .i64 y, .int .i64 z, .int .i64 v] 24) = W2 := ⟨_, rfl⟩
    have QA : Hid (QB W2 w1.heap.size ⟨r, g, b', A⟩) := by show QB _ _ _; rw [← hW2]; exact (QB.new w1 ⟨r, g, b', A⟩ _).nw (QBnw _ _)
    have QBB : Hid (QB W2 (w1.heap.size + 1) ⟨x, y, z, v⟩) := by
      show QB _ _ _
      rw [← hW2]
      have := QB.new (w1.alloc (.cells #[.int .i64 r, .int .i64 g, .int .i64 b', .int .i64 A] 24)) ⟨x, y, z, v⟩ 24
      rw [World.size_alloc] at this
      exact this
    have N2 : Hid (Nw w W2) := by show Nw _ _; rw [← hW2]; exact Nw.trans N1.out (Nw.trans (QBnw _ _) (QBnw _ _))
    have HW2 : Hid (_ = W2) := hW2
    clear hW2
    go_wp2_with fail
    rw [HW2.out]
    refine Calls.mono (HI.out _) ?_
    rintro e w2 ⟨rfl, k2⟩
    have N22 : Hid (Nw W2 w2) := k2.nw
    clear k2
    obtain ⟨W3, hW3⟩ : ∃ W3, w2.alloc (.cells #[.int .i64 v0, .int .i64 v1, .int .i64 v2, .int .i64 v3] 24) = W3 := ⟨_, rfl⟩
    have N23 : Hid (Nw W2 W3) := by show Nw _ _; rw [← hW3]; exact Nw.trans N22.out (QBnw _ _)
    have QV : Hid (QB W3 w2.heap.size ⟨v0, v1, v2, v3⟩) := by show QB _ _ _; rw [← hW3]; exact QB.new w2 ⟨v0, v1, v2, v3⟩ _
    obtain ⟨p0, p1, p2, p3, _⟩ := QB.nw QA.out N23.out
    obtain ⟨s0, s1, s2, s3, _⟩ := QB.nw QBB.out N23.out
    simp only at p0 p1 p2 p3 s0 s1 s2 s3
    rw [← hW3] at p0 p1 p2 p3 s0 s1 s2 s3
    have HW3 : Hid (_ = W3) := hW3
    clear hW3
    go_wp2_with fail
    rw [HW3.out]
    refine Calls.mono (HS.out _) ?_
    rintro e w3 ⟨rfl, k3⟩
    have N33 : Hid (Nw W3 w3) := k3.nw
    clear k3 p0 p1 p2 p3 s0 s1 s2 s3
    obtain ⟨W4, hW4⟩ : ∃ W4, w3.alloc (.cells #[.int .i64 v0, .int .i64 v1, .int .i64 v2, .int .i64 v3] 24) = W4 := ⟨_, rfl⟩
    have N34 : Hid (Nw W3 W4) := by show Nw _ _; rw [← hW4]; exact Nw.trans N33.out (QBnw _ _)
    have N4 : Hid (Nw w W4) := Nw.trans N2.out (Nw.trans N23.out N34.out)
    have QA4 : Hid (QB W4 w1.heap.size ⟨r, g, b', A⟩) := QB.nw QA.out (Nw.trans N23.out N34.out)
    have QB4 : Hid (QB W4 (w1.heap.size + 1) ⟨x, y, z, v⟩) := QB.nw QBB.out (Nw.trans N23.out N34.out)
    have QV4 : Hid (QB W4 w2.heap.size ⟨v0, v1, v2, v3⟩) := QB.nw QV.out N34.out
    obtain ⟨p0, p1, p2, p3, _⟩ := QV4.out
    simp only at p0 p1 p2 p3
    rw [← hW4] at p0 p1 p2 p3
    have HW4 : Hid (_ = W4) := hW4
    clear hW4
    cases bv with
    | false =>
      clear HG HO
      go_wp2_with fail
      rw [HW4.out]
      refine (drawRun_any W4 a1 len1 cap1 ml1 (Code.later HC1.out N4.out (Below.size N4.out))).mono ?_
      rintro e w6 ⟨sa, sc, l, X, s, rfl, h1, h2, h3, h4⟩
      have N6 : Hid (Nw w w6) := Nw.trans N4.out h4
      have ST6 : Hid (Stps w6 sa l) := h3
      have RI : Hid (∀ w1, Nw w6 w1 → _) := fun w1 k => irunAt w1 sa sc l X s (by omega) h1 (Stps.nw ST6.out k)
      have RS : Hid (∀ w1, Nw w6 w1 → _) := fun w1 k => srunAt w1 sa sc l X s (by omega) (Stps.nw ST6.out k)
      have RG : Hid (ruB l X s = true → tnB (ruV l X s) = true) := fun h => ruV_good h
      clear h1 h2 h3 h4
      generalize ruB l X s = rb at *
      generalize ruV l X s = T at *
      have HG2 : Hid (∀ w, _) := fun w => igoodTn w T
      obtain ⟨t0, t1, t2, t3⟩ := T
      unfold edV at RI RS HG2
      simp only at RI RS HG2
      have hrb : (rb != rb) = false := by cases rb <;> rfl
      go_wp2_with fail
      refine Calls.mono (RI.out _ (Below.refl _ _)) ?_
      rintro e w7 ⟨rfl, k7⟩
      have N67 : Hid (Nw w6 w7) := k7.nw
      clear k7
      obtain ⟨W8, hW8⟩ : ∃ W8, w7.alloc (.cells #[.int .i64 t0, .int .i64 t1, .int .i64 t2, .int .i64 t3] 24) = W8 := ⟨_, rfl⟩
      have Q8 : Hid (QB W8 w7.heap.size ⟨t0, t1, t2, t3⟩) := by show QB _ _ _; rw [← hW8]; exact QB.new w7 ⟨t0, t1, t2, t3⟩ _
      have N68 : Hid (Nw w6 W8) := by show Nw _ _; rw [← hW8]; exact Nw.trans N67.out (QBnw _ _)
      have HW8 : Hid (_ = W8) := hW8
      clear hW8
      go_wp2_with fail
      rw [HW8.out]
      refine Calls.mono (RS.out _ N68.out) ?_
      rintro e w9 ⟨rfl, k9⟩
      have N89 : Hid (Nw W8 w9) := k9.nw
      have N69 : Hid (Nw w w9) := Nw.trans N6.out (Nw.trans N68.out k9.nw)
      clear k9
      cases rb with
      | false =>
        go_wp2
        go_ret
        exact ⟨rfl, Nw.trans N69.out (QBnw _ _)⟩
      | true =>
        rw [RG.out rfl] at HG2
        obtain ⟨W10, hW10⟩ : ∃ W10, w9.alloc (.cells #[.int .i64 t0, .int .i64 t1, .int .i64 t2, .int .i64 t3] 24) = W10 := ⟨_, rfl⟩
        obtain ⟨q0, q1, q2, q3, _⟩ := QB.nw Q8.out (show Nw W8 W10 by rw [← hW10]; exact Nw.trans N89.out (QBnw _ _))
        simp only at q0 q1 q2 q3
        have N10 : Hid (Nw w W10) := by show Nw _ _; rw [← hW10]; exact Nw.trans N69.out (QBnw _ _)
        rw [← hW10] at q0 q1 q2 q3
        have HW10 : Hid (_ = W10) := hW10
        clear hW10
        go_wp2_with fail
        rw [HW10.out]
        refine Calls.mono (HG2.out _) ?_
        rintro e w11 ⟨rfl, k11⟩
        have N11 : Hid (Nw w w11) := Nw.trans N10.out k11.nw
        clear k11
        go_wp2
        go_ret
        exact ⟨rfl, N11.out⟩
    | true =>
      obtain ⟨ho1, ho2, ho3⟩ := HO.out rfl
      rw [ho1] at HG
      clear ho1 HO
      by_cases hA : A = 255
      · have hv := ho2 hA
        have dA : (A == 255) = true := by simp [hA]
        have dB : (A == 0) = false := by simp [hA]
        clear ho2 ho3 hA
        injection hv with i0 i1 i2 i3
        subst i0 i1 i2 i3
        go_wp2_with fail
        rw [HW4.out]
        refine Calls.mono (HG.out _) ?_
        rintro e w5 ⟨rfl, k5⟩
        have N5 : Hid (Nw w w5) := Nw.trans N4.out k5.nw
        obtain ⟨c0, c1, c2, c3, _⟩ := QB.nw QA4.out k5.nw
        obtain ⟨d0, d1, d2, d3, _⟩ := QB.nw QB4.out k5.nw
        obtain ⟨e0, e1, e2, e3, _⟩ := QB.nw QV4.out k5.nw
        simp only at c0 c1 c2 c3 d0 d1 d2 d3 e0 e1 e2 e3
        clear k5 p0 p1 p2 p3
        go_wp2_with fail
        refine (drawRun_any w5 a1 len1 cap1 ml1 (Code.later HC1.out N5.out (Below.size N5.out))).mono ?_
        rintro e w6 ⟨sa, sc, l, X, s, rfl, h1, h2, h3, h4⟩
        have N6 : Hid (Nw w w6) := Nw.trans N5.out h4
        have ST6 : Hid (Stps w6 sa l) := h3
        have RI : Hid (∀ w1, Nw w6 w1 → _) := fun w1 k => irunAt w1 sa sc l X s (by omega) h1 (Stps.nw ST6.out k)
        have RS : Hid (∀ w1, Nw w6 w1 → _) := fun w1 k => srunAt w1 sa sc l X s (by omega) (Stps.nw ST6.out k)
        have RG : Hid (ruB l X s = true → tnB (ruV l X s) = true) := fun h => ruV_good h
        clear h1 h2 h3 h4
        generalize ruB l X s = rb at *
        generalize ruV l X s = T at *
        have HG2 : Hid (∀ w, _) := fun w => igoodTn w T
        obtain ⟨t0, t1, t2, t3⟩ := T
        unfold edV at RI RS HG2
        simp only at RI RS HG2
        have hrb : (rb != rb) = false := by cases rb <;> rfl
        go_wp2_with fail
        refine Calls.mono (RI.out _ (Below.refl _ _)) ?_
        rintro e w7 ⟨rfl, k7⟩
        have N67 : Hid (Nw w6 w7) := k7.nw
        clear k7
        obtain ⟨W8, hW8⟩ : ∃ W8, w7.alloc (.cells #[.int .i64 t0, .int .i64 t1, .int .i64 t2, .int .i64 t3] 24) = W8 := ⟨_, rfl⟩
        have Q8 : Hid (QB W8 w7.heap.size ⟨t0, t1, t2, t3⟩) := by show QB _ _ _; rw [← hW8]; exact QB.new w7 ⟨t0, t1, t2, t3⟩ _
        have N68 : Hid (Nw w6 W8) := by show Nw _ _; rw [← hW8]; exact Nw.trans N67.out (QBnw _ _)
        have HW8 : Hid (_ = W8) := hW8
        clear hW8
        go_wp2_with fail
        rw [HW8.out]
        refine Calls.mono (RS.out _ N68.out) ?_
        rintro e w9 ⟨rfl, k9⟩
        have N89 : Hid (Nw W8 w9) := k9.nw
        have N69 : Hid (Nw w w9) := Nw.trans N6.out (Nw.trans N68.out k9.nw)
        clear k9
        cases rb with
        | false =>
          go_wp2
          go_ret
          exact ⟨rfl, Nw.trans N69.out (QBnw _ _)⟩
        | true =>
          rw [RG.out rfl] at HG2
          obtain ⟨W10, hW10⟩ : ∃ W10, w9.alloc (.cells #[.int .i64 t0, .int .i64 t1, .int .i64 t2, .int .i64 t3] 24) = W10 := ⟨_, rfl⟩
          obtain ⟨q0, q1, q2, q3, _⟩ := QB.nw Q8.out (show Nw W8 W10 by rw [← hW10]; exact Nw.trans N89.out (QBnw _ _))
          simp only at q0 q1 q2 q3
          have N10 : Hid (Nw w W10) := by show Nw _ _; rw [← hW10]; exact Nw.trans N69.out (QBnw _ _)
          rw [← hW10] at q0 q1 q2 q3
          have HW10 : Hid (_ = W10) := hW10
          clear hW10
          go_wp2_with fail
          rw [HW10.out]
          refine Calls.mono (HG2.out _) ?_
          rintro e w11 ⟨rfl, k11⟩
          have N11 : Hid (Nw w w11) := Nw.trans N10.out k11.nw
          clear k11
          go_wp2
          go_ret
          exact ⟨rfl, N11.out⟩
      · by_cases hB : A = 0
        · have hv := ho3 hB
          have dA : (A == 255) = false := by simp [hA]
          have dB : (A == 0) = true := by simp [hB]
          clear ho2 ho3 hA hB
          injection hv with i0 i1 i2 i3
          subst i0 i1 i2 i3
          go_wp2_with fail
          rw [HW4.out]
          refine Calls.mono (HG.out _) ?_
          rintro e w5 ⟨rfl, k5⟩
          have N5 : Hid (Nw w w5) := Nw.trans N4.out k5.nw
          obtain ⟨c0, c1, c2, c3, _⟩ := QB.nw QA4.out k5.nw
          obtain ⟨d0, d1, d2, d3, _⟩ := QB.nw QB4.out k5.nw
          obtain ⟨e0, e1, e2, e3, _⟩ := QB.nw QV4.out k5.nw
          simp only at c0 c1 c2 c3 d0 d1 d2 d3 e0 e1 e2 e3
          clear k5 p0 p1 p2 p3
          go_wp2_with fail
          refine (drawRun_any w5 a1 len1 cap1 ml1 (Code.later HC1.out N5.out (Below.size N5.out))).mono ?_
          rintro e w6 ⟨sa, sc, l, X, s, rfl, h1, h2, h3, h4⟩
          have N6 : Hid (Nw w w6) := Nw.trans N5.out h4
          have ST6 : Hid (Stps w6 sa l) := h3
          have RI : Hid (∀ w1, Nw w6 w1 → _) := fun w1 k => irunAt w1 sa sc l X s (by omega) h1 (Stps.nw ST6.out k)
          have RS : Hid (∀ w1, Nw w6 w1 → _) := fun w1 k => srunAt w1 sa sc l X s (by omega) (Stps.nw ST6.out k)
          have RG : Hid (ruB l X s = true → tnB (ruV l X s) = true) := fun h => ruV_good h
          clear h1 h2 h3 h4
          generalize ruB l X s = rb at *
          generalize ruV l X s = T at *
          have HG2 : Hid (∀ w, _) := fun w => igoodTn w T
          obtain ⟨t0, t1, t2, t3⟩ := T
          unfold edV at RI RS HG2
          simp only at RI RS HG2
          have hrb : (rb != rb) = false := by cases rb <;> rfl
          go_wp2_with fail
          refine Calls.mono (RI.out _ (Below.refl _ _)) ?_
          rintro e w7 ⟨rfl, k7⟩
          have N67 : Hid (Nw w6 w7) := k7.nw
          clear k7
          obtain ⟨W8, hW8⟩ : ∃ W8, w7.alloc (.cells #[.int .i64 t0, .int .i64 t1, .int .i64 t2, .int .i64 t3] 24) = W8 := ⟨_, rfl⟩
          have Q8 : Hid (QB W8 w7.heap.size ⟨t0, t1, t2, t3⟩) := by show QB _ _ _; rw [← hW8]; exact QB.new w7 ⟨t0, t1, t2, t3⟩ _
          have N68 : Hid (Nw w6 W8) := by show Nw _ _; rw [← hW8]; exact Nw.trans N67.out (QBnw _ _)
          have HW8 : Hid (_ = W8) := hW8
          clear hW8
          go_wp2_with fail
          rw [HW8.out]
          refine Calls.mono (RS.out _ N68.out) ?_
          rintro e w9 ⟨rfl, k9⟩
          have N89 : Hid (Nw W8 w9) := k9.nw
          have N69 : Hid (Nw w w9) := Nw.trans N6.out (Nw.trans N68.out k9.nw)
          clear k9
          cases rb with
          | false =>
            go_wp2
            go_ret
            exact ⟨rfl, Nw.trans N69.out (QBnw _ _)⟩
          | true =>
            rw [RG.out rfl] at HG2
            obtain ⟨W10, hW10⟩ : ∃ W10, w9.alloc (.cells #[.int .i64 t0, .int .i64 t1, .int .i64 t2, .int .i64 t3] 24) = W10 := ⟨_, rfl⟩
            obtain ⟨q0, q1, q2, q3, _⟩ := QB.nw Q8.out (show Nw W8 W10 by rw [← hW10]; exact Nw.trans N89.out (QBnw _ _))
            simp only at q0 q1 q2 q3
            have N10 : Hid (Nw w W10) := by show Nw _ _; rw [← hW10]; exact Nw.trans N69.out (QBnw _ _)
            rw [← hW10] at q0 q1 q2 q3
            have HW10 : Hid (_ = W10) := hW10
            clear hW10
            go_wp2_with fail
            rw [HW10.out]
            refine Calls.mono (HG2.out _) ?_
            rintro e w11 ⟨rfl, k11⟩
            have N11 : Hid (Nw w w11) := Nw.trans N10.out k11.nw
            clear k11
            go_wp2
            go_ret
            exact ⟨rfl, N11.out⟩
        · have dA : (A == 255) = false := by simp [hA]
          have dB : (A == 0) = false := by simp [hB]
          clear ho2 ho3 hA hB
          go_wp2_with fail
          rw [HW4.out]
          refine Calls.mono (HG.out _) ?_
          rintro e w5 ⟨rfl, k5⟩
          have N5 : Hid (Nw w w5) := Nw.trans N4.out k5.nw
          obtain ⟨c0, c1, c2, c3, _⟩ := QB.nw QA4.out k5.nw
          obtain ⟨d0, d1, d2, d3, _⟩ := QB.nw QB4.out k5.nw
          obtain ⟨e0, e1, e2, e3, _⟩ := QB.nw QV4.out k5.nw
          simp only at c0 c1 c2 c3 d0 d1 d2 d3 e0 e1 e2 e3
          clear k5 p0 p1 p2 p3
          go_wp2_with fail
          refine (drawRun_any w5 a1 len1 cap1 ml1 (Code.later HC1.out N5.out (Below.size N5.out))).mono ?_
          rintro e w6 ⟨sa, sc, l, X, s, rfl, h1, h2, h3, h4⟩
          have N6 : Hid (Nw w w6) := Nw.trans N5.out h4
          have ST6 : Hid (Stps w6 sa l) := h3
          have RI : Hid (∀ w1, Nw w6 w1 → _) := fun w1 k => irunAt w1 sa sc l X s (by omega) h1 (Stps.nw ST6.out k)
          have RS : Hid (∀ w1, Nw w6 w1 → _) := fun w1 k => srunAt w1 sa sc l X s (by omega) (Stps.nw ST6.out k)
          have RG : Hid (ruB l X s = true → tnB (ruV l X s) = true) := fun h => ruV_good h
          clear h1 h2 h3 h4
          generalize ruB l X s = rb at *
          generalize ruV l X s = T at *
          have HG2 : Hid (∀ w, _) := fun w => igoodTn w T
          obtain ⟨t0, t1, t2, t3⟩ := T
          unfold edV at RI RS HG2
          simp only at RI RS HG2
          have hrb : (rb != rb) = false := by cases rb <;> rfl
          go_wp2_with fail
          refine Calls.mono (RI.out _ (Below.refl _ _)) ?_
          rintro e w7 ⟨rfl, k7⟩
          have N67 : Hid (Nw w6 w7) := k7.nw
          clear k7
          obtain ⟨W8, hW8⟩ : ∃ W8, w7.alloc (.cells #[.int .i64 t0, .int .i64 t1, .int .i64 t2, .int .i64 t3] 24) = W8 := ⟨_, rfl⟩
          have Q8 : Hid (QB W8 w7.heap.size ⟨t0, t1, t2, t3⟩) := by show QB _ _ _; rw [← hW8]; exact QB.new w7 ⟨t0, t1, t2, t3⟩ _
          have N68 : Hid (Nw w6 W8) := by show Nw _ _; rw [← hW8]; exact Nw.trans N67.out (QBnw _ _)
          have HW8 : Hid (_ = W8) := hW8
          clear hW8
          go_wp2_with fail
          rw [HW8.out]
          refine Calls.mono (RS.out _ N68.out) ?_
          rintro e w9 ⟨rfl, k9⟩
          have N89 : Hid (Nw W8 w9) := k9.nw
          have N69 : Hid (Nw w w9) := Nw.trans N6.out (Nw.trans N68.out k9.nw)
          clear k9
          cases rb with
          | false =>
            go_wp2
            go_ret
            exact ⟨rfl, Nw.trans N69.out (QBnw _ _)⟩
          | true =>
            rw [RG.out rfl] at HG2
            obtain ⟨W10, hW10⟩ : ∃ W10, w9.alloc (.cells #[.int .i64 t0, .int .i64 t1, .int .i64 t2, .int .i64 t3] 24) = W10 := ⟨_, rfl⟩
            obtain ⟨q0, q1, q2, q3, _⟩ := QB.nw Q8.out (show Nw W8 W10 by rw [← hW10]; exact Nw.trans N89.out (QBnw _ _))
            simp only at q0 q1 q2 q3
            have N10 : Hid (Nw w W10) := by show Nw _ _; rw [← hW10]; exact Nw.trans N69.out (QBnw _ _)
            rw [← hW10] at q0 q1 q2 q3
            have HW10 : Hid (_ = W10) := hW10
            clear hW10
            go_wp2_with fail
            rw [HW10.out]
            refine Calls.mono (HG2.out _) ?_
            rintro e w11 ⟨rfl, k11⟩
            have N11 : Hid (Nw w w11) := Nw.trans N10.out k11.nw
            clear k11
            go_wp2
            go_ret
            exact ⟨rfl, N11.out⟩
end Go.Proofs.Ythlohbiocfeapaa
