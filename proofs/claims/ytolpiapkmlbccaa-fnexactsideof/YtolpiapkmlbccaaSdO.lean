/-
  The side of a segment, of both: SideOf; each theorem names its conditions.
-/
import Derived.Test.YtolpiapkmlbccaaSzO
import Derived.Test.YtolpiapkmlbccaaSdR
namespace Go.Proofs.Ytolpiapkmlbccaa
open Go.ChangeShapes Go.WideShapes Go.ChangeAt Go.RowKit
set_option linter.unusedVariables false

/-- The side of a segment. -/
def sideP (a b : Pnt) (h : Int) : Pnt := (fmV h (divV (a.2 - b.2) (szV a b)), fmV h (divV (b.1 - a.1) (szV a b)))
/-- What SideOf answers. -/
def sdV (a b : Pnt) (h : Int) : Pnt × Bool := if nearB a = true ∧ nearB b = true ∧ a ≠ b ∧ (0 ≤ h ∧ h ≤ 4194304) then (sideP a b h, true) else ((0, 0), false)
theorem wrap_small {x : Int} (h1 : -9223372036854775808 ≤ x) (h2 : x ≤ 9223372036854775807) : IntKind.i64.wrap x = x := by
  unfold IntKind.wrap; simp [IntKind.signed, IntKind.bits]; omega
/-- Two boxes and a third one of noughts, later on. -/
theorem boxes3 {w w1 : World} {ax ay bx by' : Int} {t1 t2 t3 : TypeId} (h : Kp (((w.alloc (.cells #[.int .i64 ax, .int .i64 ay] t1)).alloc (.cells #[.int .i64 bx, .int .i64 by'] t2)).alloc (.cells #[.int .i64 0, .int .i64 0] t3)) w1) :
    (w1.cell? ⟨w.heap.size, 0, none⟩ = some (.int .i64 ax) ∧ w1.cell? ⟨w.heap.size, 1, none⟩ = some (.int .i64 ay)) ∧ (w1.cell? ⟨w.heap.size + 1, 0, none⟩ = some (.int .i64 bx) ∧ w1.cell? ⟨w.heap.size + 1, 1, none⟩ = some (.int .i64 by')) ∧
    (w1.cell? ⟨w.heap.size + 1 + 1, 0, none⟩ = some (.int .i64 0) ∧ w1.cell? ⟨w.heap.size + 1 + 1, 1, none⟩ = some (.int .i64 0) ∧ ∀ o, w1.frozen? ⟨w.heap.size + 1 + 1, o, none⟩ = false) := by
  obtain ⟨h1, h2, _⟩ := boxes2 (Kp.trans ((Kp.refl _).alloc _ _) h)
  obtain ⟨z0, z1, zf, _⟩ := zbox _ w1 _ h
  rw [World.size_alloc, World.size_alloc] at z0 z1 zf
  exact ⟨h1, h2, z0, z1, zf⟩
set_option maxRecDepth 100000 in
set_option maxHeartbeats 4000000 in
theorem sside (w : World) (a b : Pnt) (h : Int) (ha : nearB a = true) (hb : nearB b = true) :
    Calls Try.prog 60 #[.agg #[.int .i64 a.1, .int .i64 a.2], .agg #[.int .i64 b.1, .int .i64 b.2], .int .i64 h] w fun e w' => e = .returned (.agg #[.int .i64 (sideP a b h).1, .int .i64 (sideP a b h).2]) ∧ Kp w w' := by
  have HS : Hid _ := fun w => ssize w a b ha hb
  obtain ⟨a1, a2⟩ := nearB_nr ha
  obtain ⟨b1, b2⟩ := nearB_nr hb
  unfold sideP
  clear ha hb
  generalize szV a b = n at *
  obtain ⟨ax, ay⟩ := a
  obtain ⟨bx, by'⟩ := b
  unfold nr at *
  simp only at *
  have x1 : IntKind.i64.wrap (ay - by') = ay - by' := wrap_small (by omega) (by omega)
  have x2 : IntKind.i64.wrap (bx - ax) = bx - ax := wrap_small (by omega) (by omega)
  obtain ⟨W, hW⟩ : ∃ W, ((w.alloc (.cells #[.int .i64 ax, .int .i64 ay] 35)).alloc (.cells #[.int .i64 bx, .int .i64 by'] 35)).alloc (.cells #[.int .i64 0, .int .i64 0] 35) = W := ⟨_, rfl⟩
  have HB : Hid (∀ w1, Kp W w1 → _) := fun w1 k => boxes3 (hW ▸ k)
  have KW : Hid (Kp w W) := by show Kp w W; rw [← hW]; exact (((Kp.refl w).alloc _ _).alloc _ _).alloc _ _
  have HW : Hid (_ = W) := hW
  clear hW
  obtain ⟨u, hu⟩ : ∃ u, fmV h (divV (ay - by') n) = u := ⟨_, rfl⟩
  obtain ⟨v, hv⟩ : ∃ v, fmV h (divV (bx - ax) n) = v := ⟨_, rfl⟩
  rw [hu, hv]
  go_enter Try.func60, Try.ntmps60
  go_wp2_with fail
  rw [HW.out]
  clear HW
  refine Calls.mono (HS.out _) ?_
  rintro e w1 ⟨rfl, k1⟩
  obtain ⟨⟨q0, q1⟩, ⟨q2, q3⟩, z0, z1, zf⟩ := HB.out w1 k1
  have K1 : Hid (Kp w w1) := Kp.trans KW.out k1
  clear k1 HB
  go_wp2
  refine reg_change (ops' := opsOf 2 Try.f60) (by kernel_rfl) ?_
  refine SDS.run ⟨ax, ay, bx, by', h, n, w.heap.size, w.heap.size + 1, w.heap.size + 1 + 1, w1.drew, _⟩ ⟨q0, q1, q2, q3, x1, x2, ⟨_, z0⟩, ⟨_, z1⟩, zf, rfl, rfl, rfl, rfl, rfl, rfl⟩ w1 (Kp.refl _) ?_
  rintro γ w2 ⟨w3, k3, rfl⟩
  replace k3 : Kp w1 w3 := undrew k3
  replace z0 := rq_at k3 z0
  replace z1 := rq_at k3 z1
  have K3 : Hid (Kp w w3) := Kp.trans K1.out k3
  clear k3 q0 q1 q2 q3 K1 zf
  simp only [hu, hv, Act.put, List.setIfInBounds_toArray, List.set_cons_zero, List.set_cons_succ]
  obtain ⟨y0, y1⟩ := set2 w3 (w.heap.size + 1 + 1) (.int .i64 u) (.int .i64 v) z0 z1
  go_wp2
  refine bodyPost_ret (v := .agg #[.int .i64 u, .int .i64 v]) (by simp [results, Try.results60, go_sem, y0, y1]) rfl ⟨rfl, ?_⟩
  exact (K3.out.setCell (by simp; omega) _).setCell (by simp; omega) _
set_option maxRecDepth 100000 in
set_option maxHeartbeats 4000000 in
theorem ssideOf (w : World) (a b : Pnt) (h : Int) :
    Calls Try.prog 28 #[.agg #[.int .i64 a.1, .int .i64 a.2], .agg #[.int .i64 b.1, .int .i64 b.2], .int .i64 h] w fun e w' => e = .returned (.tuple #[.agg #[.int .i64 (sdV a b h).1.1, .int .i64 (sdV a b h).1.2], .bool (sdV a b h).2]) ∧ Kp w w' := by
  have HA : Hid _ := fun w => snear w a.1 a.2
  have HB : Hid _ := fun w => snear w b.1 b.2
  have HH : Hid _ := fun w => in_any w h 0 4194304
  have HS : Hid (nearB a = true → nearB b = true → ∀ w, _) := fun h1 h2 w => sside w a b h h1 h2
  have ea : nearB (a.1, a.2) = nearB a := rfl
  have eb : nearB (b.1, b.2) = nearB b := rfl
  rw [ea] at HA
  rw [eb] at HB
  obtain ⟨r, hr⟩ : ∃ r, sdV a b h = r := ⟨_, rfl⟩
  rw [hr]
  have HR : Hid (sdV a b h = r) := hr
  clear hr ea eb
  obtain ⟨⟨rx, ry⟩, rb⟩ := r
  simp only
  have HN : Hid (¬ (nearB a = true ∧ nearB b = true ∧ a ≠ b ∧ (0 ≤ h ∧ h ≤ 4194304)) → rx = 0 ∧ ry = 0 ∧ rb = false) := fun hn => by
    have h2 := HR.out
    unfold sdV at h2
    rw [if_neg hn] at h2
    injection h2 with h3 h4
    injection h3 with h5 h6
    exact ⟨h5.symm, h6.symm, h4.symm⟩
  have HY : Hid ((nearB a = true ∧ nearB b = true ∧ a ≠ b ∧ (0 ≤ h ∧ h ≤ 4194304)) → sideP a b h = (rx, ry) ∧ rb = true) := fun hn => by
    have h2 := HR.out
    unfold sdV at h2
    rw [if_pos hn] at h2
    injection h2 with h3 h4
    exact ⟨h3, h4.symm⟩
  clear HR
  have hD : (decide (a = b) : Bool) = (a.1 == b.1 && a.2 == b.2) := by
    rw [Bool.eq_iff_iff]
    simp [Prod.ext_iff]
  generalize sideP a b h = S at *
  obtain ⟨W, hW⟩ : ∃ W, ((w.alloc (.cells #[.int .i64 a.1, .int .i64 a.2] 35)).alloc (.cells #[.int .i64 b.1, .int .i64 b.2] 35)).alloc (.cells #[.int .i64 0, .int .i64 0] 35) = W := ⟨_, rfl⟩
  have KW : Hid (Kp w W) := by show Kp w W; rw [← hW]; exact (((Kp.refl w).alloc _ _).alloc _ _).alloc _ _
  have HBX : Hid (∀ w1, Kp W w1 → _) := fun w1 k => boxes3 (hW ▸ k)
  have HW : Hid (_ = W) := hW
  clear hW
  cases hna : nearB a with
  | false =>
    rw [hna] at HA
    obtain ⟨e0, e1, e2⟩ := HN.out (fun h => by rw [hna] at h; cases h.1)
    subst e0 e1 e2
    clear HN HY
    go_enter Try.func28, Try.ntmps28
    go_wp2_with fail
    rw [HW.out]
    refine Calls.mono (HA.out _) ?_
    rintro e w1 ⟨rfl, k1⟩
    obtain ⟨_, _, z0, z1, zf⟩ := HBX.out w1 k1
    have K1 : Hid (Kp w w1) := Kp.trans KW.out k1
    clear k1 HBX
    obtain ⟨y0, y1⟩ := set2 w1 (w.heap.size + 1 + 1) (.int .i64 0) (.int .i64 0) z0 z1
    go_wp2
    refine bodyPost_ret (v := .tuple #[.agg #[.int .i64 0, .int .i64 0], .bool false]) (by simp [results, Try.results28, go_sem, y0, y1]) rfl ⟨rfl, ?_⟩
    exact (K1.out.setCell (by simp; omega) _).setCell (by simp; omega) _
  | true =>
    rw [hna] at HA
    cases hnb : nearB b with
    | false =>
      rw [hnb] at HB
      obtain ⟨e0, e1, e2⟩ := HN.out (fun h => by rw [hnb] at h; cases h.2.1)
      subst e0 e1 e2
      clear HN HY
      go_enter Try.func28, Try.ntmps28
      go_wp2_with fail
      rw [HW.out]
      refine Calls.mono (HA.out _) ?_
      rintro e w1 ⟨rfl, k1⟩
      obtain ⟨⟨q0, q1⟩, ⟨q2, q3⟩, _⟩ := HBX.out w1 k1
      have K1 : Hid (Kp W w1) := k1
      clear k1
      go_wp2_with fail
      refine Calls.mono (HB.out _) ?_
      rintro e w2 ⟨rfl, k2⟩
      have K2 : Hid (Kp W w2) := Kp.trans K1.out k2
      clear k2 q0 q1 q2 q3
      obtain ⟨_, _, z0, z1, zf⟩ := HBX.out w2 K2.out
      obtain ⟨y0, y1⟩ := set2 w2 (w.heap.size + 1 + 1) (.int .i64 0) (.int .i64 0) z0 z1
      go_wp2
      refine bodyPost_ret (v := .tuple #[.agg #[.int .i64 0, .int .i64 0], .bool false]) (by simp [results, Try.results28, go_sem, y0, y1]) rfl ⟨rfl, ?_⟩
      exact ((Kp.trans KW.out K2.out).setCell (by simp; omega) _).setCell (by simp; omega) _
    | true =>
      rw [hnb] at HB
      -- both near
      by_cases heq : a = b
      · obtain ⟨e0, e1, e2⟩ := HN.out (fun h => h.2.2.1 heq)
        subst e0 e1 e2
        have h1 : (a.1 == b.1) = true := by rw [heq]; simp
        have h2 : (a.2 == b.2) = true := by rw [heq]; simp
        clear HN HY heq hD
        go_enter Try.func28, Try.ntmps28
        go_wp2_with fail
        rw [HW.out]
        refine Calls.mono (HA.out _) ?_
        rintro e w1 ⟨rfl, k1⟩
        obtain ⟨⟨q0, q1⟩, ⟨q2, q3⟩, _⟩ := HBX.out w1 k1
        have K1 : Hid (Kp W w1) := k1
        clear k1
        go_wp2_with fail
        refine Calls.mono (HB.out _) ?_
        rintro e w2 ⟨rfl, k2⟩
        have K2 : Hid (Kp W w2) := Kp.trans K1.out k2
        clear k2 q0 q1 q2 q3
        obtain ⟨⟨q0, q1⟩, ⟨q2, q3⟩, z0, z1, zf⟩ := HBX.out w2 K2.out
        obtain ⟨y0, y1⟩ := set2 w2 (w.heap.size + 1 + 1) (.int .i64 0) (.int .i64 0) z0 z1
        go_wp2
        refine bodyPost_ret (v := .tuple #[.agg #[.int .i64 0, .int .i64 0], .bool false]) (by simp [results, Try.results28, go_sem, y0, y1]) rfl ⟨rfl, ?_⟩
        exact ((Kp.trans KW.out K2.out).setCell (by simp; omega) _).setCell (by simp; omega) _
      · have hne : (a.1 == b.1) = false ∨ ((a.1 == b.1) = true ∧ (a.2 == b.2) = false) := by
          rw [decide_eq_false heq] at hD
          cases h1 : (a.1 == b.1) with
          | false => exact Or.inl rfl
          | true => rw [h1] at hD; exact Or.inr ⟨rfl, by simpa using hD.symm⟩
        by_cases hh : 0 ≤ h ∧ h ≤ 4194304
        · obtain ⟨e0, e1⟩ := HY.out ⟨hna, hnb, heq, hh⟩
          rw [decide_eq_true hh] at HH
          have HS2 : Hid _ := HS.out hna hnb
          rw [e0] at HS2
          simp only at HS2
          subst e1
          clear HN HY heq hD HS e0
          rcases hne with h1 | ⟨h1, h2⟩
          all_goals
            go_enter Try.func28, Try.ntmps28
            go_wp2_with fail
            rw [HW.out]
            refine Calls.mono (HA.out _) ?_
            rintro e w1 ⟨rfl, k1⟩
            obtain ⟨⟨q0, q1⟩, ⟨q2, q3⟩, _⟩ := HBX.out w1 k1
            have K1 : Hid (Kp W w1) := k1
            clear k1
            go_wp2_with fail
            refine Calls.mono (HB.out _) ?_
            rintro e w2 ⟨rfl, k2⟩
            have K2 : Hid (Kp W w2) := Kp.trans K1.out k2
            clear k2 q0 q1 q2 q3
            obtain ⟨⟨q0, q1⟩, ⟨q2, q3⟩, z0, z1, zf⟩ := HBX.out w2 K2.out
            go_wp2_with fail
            refine Calls.mono (HH.out _) ?_
            rintro e w3 ⟨rfl, rfl⟩
            go_wp2_with fail
            refine Calls.mono (HS2.out _) ?_
            rintro e w4 ⟨rfl, k4⟩
            have K4 : Hid (Kp W w4) := Kp.trans K2.out k4
            clear k4 q0 q1 q2 q3 z0 z1 zf
            obtain ⟨_, _, z0, z1, zf⟩ := HBX.out w4 K4.out
            obtain ⟨y0, y1⟩ := set2 w4 (w.heap.size + 1 + 1) (.int .i64 rx) (.int .i64 ry) z0 z1
            go_wp2
            refine bodyPost_ret (v := .tuple #[.agg #[.int .i64 rx, .int .i64 ry], .bool true]) (by simp [results, Try.results28, go_sem, y0, y1]) rfl ⟨rfl, ?_⟩
            exact ((Kp.trans KW.out K4.out).setCell (by simp; omega) _).setCell (by simp; omega) _
        · obtain ⟨e0, e1, e2⟩ := HN.out (fun h => hh h.2.2.2)
          subst e0 e1 e2
          rw [decide_eq_false hh] at HH
          clear HN HY heq hD HS
          rcases hne with h1 | ⟨h1, h2⟩
          all_goals
            go_enter Try.func28, Try.ntmps28
            go_wp2_with fail
            rw [HW.out]
            refine Calls.mono (HA.out _) ?_
            rintro e w1 ⟨rfl, k1⟩
            obtain ⟨⟨q0, q1⟩, ⟨q2, q3⟩, _⟩ := HBX.out w1 k1
            have K1 : Hid (Kp W w1) := k1
            clear k1
            go_wp2_with fail
            refine Calls.mono (HB.out _) ?_
            rintro e w2 ⟨rfl, k2⟩
            have K2 : Hid (Kp W w2) := Kp.trans K1.out k2
            clear k2 q0 q1 q2 q3
            obtain ⟨⟨q0, q1⟩, ⟨q2, q3⟩, z0, z1, zf⟩ := HBX.out w2 K2.out
            go_wp2_with fail
            refine Calls.mono (HH.out _) ?_
            rintro e w3 ⟨rfl, rfl⟩
            obtain ⟨y0, y1⟩ := set2 w3 (w.heap.size + 1 + 1) (.int .i64 0) (.int .i64 0) z0 z1
            go_wp2
            refine bodyPost_ret (v := .tuple #[.agg #[.int .i64 0, .int .i64 0], .bool false]) (by simp [results, Try.results28, go_sem, y0, y1]) rfl ⟨rfl, ?_⟩
            exact ((Kp.trans KW.out K2.out).setCell (by simp; omega) _).setCell (by simp; omega) _
set_option maxRecDepth 100000 in
set_option maxHeartbeats 4000000 in
theorem isideOf (w : World) (a b : Pnt) (h : Int) :
    Calls Try.prog 29 #[.agg #[.int .i64 a.1, .int .i64 a.2], .agg #[.int .i64 b.1, .int .i64 b.2], .int .i64 h] w fun e w' => e = .returned (.tuple #[.agg #[.int .i64 (sdV a b h).1.1, .int .i64 (sdV a b h).1.2], .bool (sdV a b h).2]) ∧ Kp w w' := by
  have HA : Hid _ := fun w => isizeOf w a b
  have HH : Hid _ := fun w => iin_any w h 0 4194304
  obtain ⟨r, hr⟩ : ∃ r, sdV a b h = r := ⟨_, rfl⟩
  rw [hr]
  have HR : Hid (sdV a b h = r) := hr
  clear hr
  obtain ⟨⟨rx, ry⟩, rb⟩ := r
  simp only
  have HN : Hid (¬ (nearB a = true ∧ nearB b = true ∧ a ≠ b ∧ (0 ≤ h ∧ h ≤ 4194304)) → rx = 0 ∧ ry = 0 ∧ rb = false) := fun hn => by
    have h2 := HR.out
    unfold sdV at h2
    rw [if_neg hn] at h2
    injection h2 with h3 h4
    injection h3 with h5 h6
    exact ⟨h5.symm, h6.symm, h4.symm⟩
  have HY : Hid ((nearB a = true ∧ nearB b = true ∧ a ≠ b ∧ (0 ≤ h ∧ h ≤ 4194304)) → fmV h (divV (a.2 - b.2) (szV a b)) = rx ∧ fmV h (divV (b.1 - a.1) (szV a b)) = ry ∧ rb = true) := fun hn => by
    have h2 := HR.out
    unfold sdV sideP at h2
    rw [if_pos hn] at h2
    injection h2 with h3 h4
    injection h3 with h5 h6
    exact ⟨h5, h6, h4.symm⟩
  clear HR
  have hD : (decide (a = b) : Bool) = (a.1 == b.1 && a.2 == b.2) := by
    rw [Bool.eq_iff_iff]
    simp [Prod.ext_iff]
  obtain ⟨W, hW⟩ : ∃ W, ((w.alloc (.cells #[.int .i64 a.1, .int .i64 a.2] 35)).alloc (.cells #[.int .i64 b.1, .int .i64 b.2] 35)).alloc (.cells #[.int .i64 0, .int .i64 0] 35) = W := ⟨_, rfl⟩
  have KW : Hid (Kp w W) := by show Kp w W; rw [← hW]; exact (((Kp.refl w).alloc _ _).alloc _ _).alloc _ _
  have HBX : Hid (∀ w1, Kp W w1 → _) := fun w1 k => boxes3 (hW ▸ k)
  have HW : Hid (_ = W) := hW
  clear hW
  by_cases hn : nearB a = true ∧ nearB b = true
  · have es : soV a b = (szV a b, true) := by unfold soV; rw [if_pos hn]
    rw [es] at HA
    simp only at HA
    clear es
    by_cases heq : a = b
    · obtain ⟨e0, e1, e2⟩ := HN.out (fun h => h.2.2.1 heq)
      subst e0 e1 e2
      have h1 : (a.1 == b.1) = true := by rw [heq]; simp
      have h2 : (a.2 == b.2) = true := by rw [heq]; simp
      clear HN HY heq hD
      generalize szV a b = n at *
      go_enter Try.func29, Try.ntmps29
      go_wp2_with fail
      rw [HW.out]
      refine Calls.mono (HA.out _) ?_
      rintro e w2 ⟨rfl, k1⟩
      obtain ⟨⟨q0, q1⟩, ⟨q2, q3⟩, z0, z1, zf⟩ := HBX.out w2 k1
      have K2 : Hid (Kp W w2) := k1
      clear k1
      obtain ⟨y0, y1⟩ := set2 w2 (w.heap.size + 1 + 1) (.int .i64 0) (.int .i64 0) z0 z1
      go_wp2
      refine bodyPost_ret (v := .tuple #[.agg #[.int .i64 0, .int .i64 0], .bool false]) (by simp [results, Try.results29, go_sem, y0, y1]) rfl ⟨rfl, ?_⟩
      exact ((Kp.trans KW.out K2.out).setCell (by simp; omega) _).setCell (by simp; omega) _
    · have hne : (a.1 == b.1) = false ∨ ((a.1 == b.1) = true ∧ (a.2 == b.2) = false) := by
        rw [decide_eq_false heq] at hD
        cases h1 : (a.1 == b.1) with
        | false => exact Or.inl rfl
        | true => rw [h1] at hD; exact Or.inr ⟨rfl, by simpa using hD.symm⟩
      by_cases hh : 0 ≤ h ∧ h ≤ 4194304
      · obtain ⟨hu, hv, e1⟩ := HY.out ⟨hn.1, hn.2, heq, hh⟩
        rw [decide_eq_true hh] at HH
        obtain ⟨a1, a2⟩ := nearB_nr hn.1
        obtain ⟨b1, b2⟩ := nearB_nr hn.2
        unfold nr at a1 a2 b1 b2
        have x1 : IntKind.i64.wrap (a.2 - b.2) = a.2 - b.2 := wrap_small (by omega) (by omega)
        have x2 : IntKind.i64.wrap (b.1 - a.1) = b.1 - a.1 := wrap_small (by omega) (by omega)
        generalize szV a b = n at *
        obtain ⟨ax, ay⟩ := a
        obtain ⟨bx, by'⟩ := b
        simp only at *
        clear HN HY heq hD a1 a2 b1 b2 hn
        have X1 : Hid (IntKind.i64.wrap (ay - by') = ay - by') := x1
        have X2 : Hid (IntKind.i64.wrap (bx - ax) = bx - ax) := x2
        clear x1 x2
        rcases hne with h1 | ⟨h1, h2⟩
        all_goals
          go_enter Try.func29, Try.ntmps29
          go_wp2_with fail
          rw [HW.out]
          refine Calls.mono (HA.out _) ?_
          rintro e w2 ⟨rfl, k1⟩
          obtain ⟨⟨q0, q1⟩, ⟨q2, q3⟩, z0, z1, zf⟩ := HBX.out w2 k1
          have K2 : Hid (Kp W w2) := k1
          clear k1
          go_wp2_with fail
          refine Calls.mono (HH.out _) ?_
          rintro e w3 ⟨rfl, rfl⟩
          go_wp2
          refine reg_change (ops' := opsOf 4 Try.f29) (by kernel_rfl) ?_
          refine SDI.run ⟨ax, ay, bx, by', h, n, w.heap.size, w.heap.size + 1, w.heap.size + 1 + 1, w3.drew, _⟩ ⟨q0, q1, q2, q3, X1.out, X2.out, ⟨_, z0⟩, ⟨_, z1⟩, zf, rfl, rfl, rfl, rfl, rfl, rfl⟩ w3 (Kp.refl _) ?_
          rintro γ w5 ⟨w4, k4, rfl⟩
          replace k4 : Kp w3 w4 := undrew k4
          have K4 : Hid (Kp W w4) := Kp.trans K2.out k4
          clear k4 q0 q1 q2 q3 z0 z1 zf
          obtain ⟨_, _, z0, z1, zf⟩ := HBX.out w4 K4.out
          simp only [hu, hv, Act.put, List.setIfInBounds_toArray, List.set_cons_zero, List.set_cons_succ]
          obtain ⟨y0, y1⟩ := set2 w4 (w.heap.size + 1 + 1) (.int .i64 rx) (.int .i64 ry) z0 z1
          go_wp2
          refine bodyPost_ret (v := .tuple #[.agg #[.int .i64 rx, .int .i64 ry], .bool true]) (by simp [results, Try.results29, go_sem, y0, y1]) rfl ⟨by rw [e1], ?_⟩
          exact ((Kp.trans KW.out K4.out).setCell (by simp; omega) _).setCell (by simp; omega) _
      · obtain ⟨e0, e1, e2⟩ := HN.out (fun h => hh h.2.2.2)
        subst e0 e1 e2
        rw [decide_eq_false hh] at HH
        generalize szV a b = n at *
        clear HN HY heq hD
        rcases hne with h1 | ⟨h1, h2⟩
        all_goals
          go_enter Try.func29, Try.ntmps29
          go_wp2_with fail
          rw [HW.out]
          refine Calls.mono (HA.out _) ?_
          rintro e w2 ⟨rfl, k1⟩
          obtain ⟨⟨q0, q1⟩, ⟨q2, q3⟩, z0, z1, zf⟩ := HBX.out w2 k1
          have K2 : Hid (Kp W w2) := k1
          clear k1
          go_wp2_with fail
          refine Calls.mono (HH.out _) ?_
          rintro e w3 ⟨rfl, rfl⟩
          obtain ⟨y0, y1⟩ := set2 w3 (w.heap.size + 1 + 1) (.int .i64 0) (.int .i64 0) z0 z1
          go_wp2
          refine bodyPost_ret (v := .tuple #[.agg #[.int .i64 0, .int .i64 0], .bool false]) (by simp [results, Try.results29, go_sem, y0, y1]) rfl ⟨rfl, ?_⟩
          exact ((Kp.trans KW.out K2.out).setCell (by simp; omega) _).setCell (by simp; omega) _
  · have es : soV a b = (0, false) := by unfold soV; rw [if_neg hn]
    rw [es] at HA
    simp only at HA
    obtain ⟨e0, e1, e2⟩ := HN.out (fun h => hn ⟨h.1, h.2.1⟩)
    subst e0 e1 e2
    clear es HN HY hD
    go_enter Try.func29, Try.ntmps29
    go_wp2_with fail
    rw [HW.out]
    refine Calls.mono (HA.out _) ?_
    rintro e w2 ⟨rfl, k1⟩
    obtain ⟨⟨q0, q1⟩, ⟨q2, q3⟩, z0, z1, zf⟩ := HBX.out w2 k1
    have K2 : Hid (Kp W w2) := k1
    clear k1
    obtain ⟨y0, y1⟩ := set2 w2 (w.heap.size + 1 + 1) (.int .i64 0) (.int .i64 0) z0 z1
    go_wp2
    refine bodyPost_ret (v := .tuple #[.agg #[.int .i64 0, .int .i64 0], .bool false]) (by simp [results, Try.results29, go_sem, y0, y1]) rfl ⟨rfl, ?_⟩
    exact ((Kp.trans KW.out K2.out).setCell (by simp; omega) _).setCell (by simp; omega) _
end Go.Proofs.Ytolpiapkmlbccaa
