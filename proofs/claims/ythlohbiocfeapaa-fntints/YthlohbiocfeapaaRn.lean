/-
  Runs of colors, by the specification: l12Run; each theorem names its conditions.
-/
import Derived.Test.YthlohbiocfeapaaRnR
import Derived.Test.YthlohbiocfeapaaRfDn
import Derived.Test.YthlohbiocfeapaaSpG
namespace Go.Proofs.Ythlohbiocfeapaa
open Go.ChangeShapes Go.WideShapes Go.ChangeAt Go.RowKit
set_option linter.unusedVariables false

theorem smod (x b : Int) (hb : 0 < b) (hb2 : b ≤ 131072) (hx : -1099511627776 ≤ x ∧ x ≤ 1099511627776) (w : World) :
    Calls Try.prog 113 #[.int .i64 x, .int .i64 b] w fun e w' => e = .returned (.int .i64 (x % b)) ∧ w' = w := by
  have HD : Hid (∀ w, _) := fun w => sdown_any x b w hb (by omega) (by omega) (by omega)
  have he : x % b = x - b * (x / b) := Int.emod_def x b
  have h0 := Int.emod_nonneg x (b := b) (by omega)
  have h1 := Int.emod_lt_of_pos x hb
  rw [he] at h0 h1 ⊢
  generalize x / b = q at *
  have hq : b * q = x - (x - b * q) := by omega
  have hbq : -1099511758848 ≤ b * q ∧ b * q ≤ 1099511758848 := by omega
  clear hq he
  go_enter Try.func113, Try.ntmps113
  go_wp2_with fail
  refine Calls.mono (HD.out _) ?_
  rintro e w1 ⟨rfl, rfl⟩
  go_wp2
  go_ret
  exact ⟨rfl, rfl⟩
theorem sfixed (w : World) (x : Int) : Calls Try.prog 69 #[.int .i64 x] w fun e w' => e = .returned (.bool (inN x (-1099511627776) 1099511627776)) ∧ w' = w := by
  have H1 : Hid (∀ w, Calls Try.prog 70 #[.int .i64 x, .int .i64 (-1099511627776), .int .i64 1099511627776] w fun e w' => e = .returned (.bool (inN x (-1099511627776) 1099511627776)) ∧ w' = w) := fun w => in_any w x _ _
  go_enter Try.func69, Try.ntmps69
  go_wp2_with fail
  refine Calls.mono (H1.out _) ?_
  rintro e w1 ⟨rfl, rfl⟩
  go_wp2
  go_ret
  exact ⟨rfl, rfl⟩
theorem spOk_some {l : List Stp} {k : Nat} (h : spOk l k = true) : ok16 (spAt l k).p ∧ tnB (spAt l k).t = true := by
  unfold spOk at h
  rw [Bool.and_eq_true, Bool.and_eq_true] at h
  refine ⟨?_, h.2.1⟩
  have := h.1
  unfold inN at this
  unfold ok16
  simpa using this
theorem set4z (w : World) (b : Nat) (t : Edg) (h : QB w b noE) : (((((w.setCell ⟨b, 0, none⟩ (.int .i64 t.ax)).setCell ⟨b, 1, none⟩ (.int .i64 t.ay)).setCell ⟨b, 2, none⟩ (.int .i64 t.bx)).setCell ⟨b, 3, none⟩ (.int .i64 t.cy)).cell? ⟨b, 0, none⟩ = some (.int .i64 t.ax)) ∧ ((((w.setCell ⟨b, 0, none⟩ (.int .i64 t.ax)).setCell ⟨b, 1, none⟩ (.int .i64 t.ay)).setCell ⟨b, 2, none⟩ (.int .i64 t.bx)).setCell ⟨b, 3, none⟩ (.int .i64 t.cy)).cell? ⟨b, 1, none⟩ = some (.int .i64 t.ay) ∧ ((((w.setCell ⟨b, 0, none⟩ (.int .i64 t.ax)).setCell ⟨b, 1, none⟩ (.int .i64 t.ay)).setCell ⟨b, 2, none⟩ (.int .i64 t.bx)).setCell ⟨b, 3, none⟩ (.int .i64 t.cy)).cell? ⟨b, 2, none⟩ = some (.int .i64 t.bx) ∧ ((((w.setCell ⟨b, 0, none⟩ (.int .i64 t.ax)).setCell ⟨b, 1, none⟩ (.int .i64 t.ay)).setCell ⟨b, 2, none⟩ (.int .i64 t.bx)).setCell ⟨b, 3, none⟩ (.int .i64 t.cy)).cell? ⟨b, 3, none⟩ = some (.int .i64 t.cy) :=
  set4 w b _ _ _ _ h.c0 h.c1 h.c2 h.c3
set_option maxRecDepth 100000 in
set_option maxHeartbeats 8000000 in
theorem srun2 (w : World) (a : Option Addr) (c : Nat) (l : List Stp) (x X : Int) (hg : sgB l = true) (hx : -1099511627776 ≤ x ∧ x ≤ 1099511627776) (hr : Stps w a l) (hbd : 0 ≤ X ∧ X ≤ 65536) (hX : x % 65536 = X) :
    Calls Try.prog 71 #[.slice a l.length c, .int .i64 x, .int .i64 2] w fun e w' => e = .returned (edV (rnT l X)) ∧ Kp w w' := by
  have HG : Hid (∀ k, k < l.length → spOk l k = true) := fun k hk => sgB_at hg k hk
  have hlen : 1 ≤ l.length ∧ l.length ≤ 8 := by
    unfold sgB at hg
    rw [Bool.and_eq_true] at hg
    have := hg.1
    unfold inN at this
    simp at this
    omega
  clear hg
  replace hr := hr.nw (QBnw w (.cells #[.int .i64 0, .int .i64 0, .int .i64 0, .int .i64 0] 24))
  rcases hr with h | ⟨b, off, rfl, hb, hc⟩
  · rw [h] at hlen; simp at hlen
  have HC : Hid (∀ i, i < l.length → _) := hc
  clear hc hb
  obtain ⟨n, hn⟩ : ∃ n, l.length = n := ⟨_, rfl⟩
  have HN : Hid (l.length = n) := hn
  rw [hn] at HC HG hlen ⊢
  clear hn
  unfold edV
  obtain ⟨⟨f, ⟨f0, f1, f2, f3⟩⟩, hf⟩ : ∃ s, spAt l 0 = s := ⟨_, rfl⟩
  obtain ⟨⟨e, ⟨e0, e1, e2, e3⟩⟩, he⟩ : ∃ s, spAt l (n - 1) = s := ⟨_, rfl⟩
  have HF0 : Hid _ := hf
  have HE0 : Hid _ := he
  have HF16 : Hid (0 ≤ f ∧ f ≤ 65536) := by have := (spOk_some (HG.out 0 (by omega))).1; rw [hf] at this; exact this
  have HE16 : Hid (0 ≤ e ∧ e ≤ 65536) := by have := (spOk_some (HG.out (n - 1) (by omega))).1; rw [he] at this; exact this
  obtain ⟨q0, q1, q2, q3, q4⟩ := HC.out 0 (by omega)
  obtain ⟨r0, r1, r2, r3, r4⟩ := HC.out (n - 1) (by omega)
  rw [hf] at q0 q1 q2 q3 q4
  rw [he] at r0 r1 r2 r3 r4
  simp only [Nat.zero_mul, Nat.add_zero] at q0 q1 q2 q3 q4 r0 r1 r2 r3 r4
  have hn1 : ((n : Int) - 1) = ((n - 1 : Nat) : Int) := by omega
  clear hf he
  have HM : Hid (∀ w, _) := fun w => smod x 65536 (by decide) (by decide) hx w
  rw [hX] at HM
  clear hX
  by_cases g1 : X ≤ f
  · have HV : Hid (rnT l X = ⟨f0, f1, f2, f3⟩) := by show _ = _; unfold rnT; rw [HF0.out, if_pos g1]
    rw [HV.out]
    go_enter Try.func71, Try.ntmps71
    go_wp2_with fail
    refine Calls.mono (HM.out _) ?_
    rintro e w9 ⟨rfl, hw9⟩
    obtain rfl := hw9
    go_wp2
    exact bodyPost_ret (v := .agg #[.int .i64 f0, .int .i64 f1, .int .i64 f2, .int .i64 f3]) (by simp [results, Try.results71, go_sem]) rfl ⟨rfl, (Kp.refl _).alloc _ _⟩
  · by_cases g2 : e ≤ X
    · have HV : Hid (rnT l X = ⟨e0, e1, e2, e3⟩) := by show _ = _; unfold rnT; rw [HF0.out, if_neg g1, HN.out, HE0.out, if_pos g2]
      rw [HV.out]
      go_enter Try.func71, Try.ntmps71
      go_wp2_with fail
      refine Calls.mono (HM.out _) ?_
      rintro e w9 ⟨rfl, hw9⟩
      obtain rfl := hw9
      go_wp2
      exact bodyPost_ret (v := .agg #[.int .i64 e0, .int .i64 e1, .int .i64 e2, .int .i64 e3]) (by simp [results, Try.results71, go_sem]) rfl ⟨rfl, (Kp.refl _).alloc _ _⟩
    · have HG1 : Hid (¬ X ≤ f) := g1
      have HG2 : Hid (¬ e ≤ X) := g2
      have hn2 : 0 + 1 < n := by
        rcases Nat.lt_or_ge 1 n with h | h
        · omega
        · exfalso
          have e1 : n - 1 = 0 := by omega
          have := HE0.out
          rw [e1, HF0.out] at this
          injection this with h1
          omega
      have HN2 : Hid (0 + 1 < n) := hn2
      clear hn2
      go_enter Try.func71, Try.ntmps71
      go_wp2_with fail
      refine Calls.mono (HM.out _) ?_
      rintro e w9 ⟨rfl, hw9⟩
      obtain rfl := hw9
      go_wp2
      clear q0 q1 q2 q3 q4 r0 r1 r2 r3 r4 g1 g2
      have HZ : Hid (Kp w (w.alloc (.cells #[.int .i64 0, .int .i64 0, .int .i64 0, .int .i64 0] 24))) := (Kp.refl _).alloc _ _
      have HQ : Hid (QB (w.alloc (.cells #[.int .i64 0, .int .i64 0, .int .i64 0, .int .i64 0] 24)) w.heap.size noE) := QB.new w noE _
      generalize (w.alloc (.cells #[.int .i64 0, .int .i64 0, .int .i64 0, .int .i64 0] 24)) = wz at *
      go_loop [7] (fun i => ∃ k : Nat, k + 1 < n ∧ i = .int .i64 (k : Int) ∧ (∀ j, j < k + 1 → (spAt l j).p ≤ X)) (fun i => n - (intOf i).toNat)
      case atStart =>
        refine ⟨0, HN2.out, rfl, fun j hj => ?_⟩
        obtain rfl : j = 0 := by omega
        have := HG1.out
        rw [HF0.out]
        show f ≤ X
        omega
      case round =>
        obtain ⟨k, hk, rfl, ha⟩ := hrel
        have HA : Hid _ := ha
        clear ha
        obtain ⟨p0, p1, p2, p3, p4⟩ := HC.out (k + 1) (by omega)
        obtain ⟨⟨E, ⟨u0, u1, u2, u3⟩⟩, hE⟩ : ∃ s, spAt l (k + 1) = s := ⟨_, rfl⟩
        have HE : Hid _ := hE
        rw [hE] at p0 p1 p2 p3 p4
        simp only at p0 p1 p2 p3 p4
        clear hE
        by_cases hle : E ≤ X
        · have hk2 : k + 1 + 1 < n := by
            rcases Nat.lt_or_ge (k + 1 + 1) n with h | h
            · exact h
            · exfalso
              have e1 : n - 1 = k + 1 := by omega
              have := HE0.out
              rw [e1, HE.out] at this
              injection this with h1
              have := HG2.out
              omega
          have HK2 : Hid (k + 1 + 1 < n) := hk2
          clear hk2
          go_wp2
          go_round
          case rel =>
            refine ⟨k + 1, HK2.out, by go_num, fun j hj => ?_⟩
            rcases Nat.lt_succ_iff_lt_or_eq.1 hj with h | h
            · exact HA.out j h
            · rw [h, HE.out]; exact hle
          case measure => simp [intOf]; omega
        · have HLE : Hid (¬ E ≤ X) := hle
          obtain ⟨q0, q1, q2, q3, q4⟩ := HC.out k (by omega)
          obtain ⟨⟨f', ⟨t0, t1, t2, t3⟩⟩, hF⟩ : ∃ s, spAt l k = s := ⟨_, rfl⟩
          have HF : Hid _ := hF
          rw [hF] at q0 q1 q2 q3 q4
          simp only at q0 q1 q2 q3 q4
          clear hF
          have hbz := World.block_lt_of_cell? wz ⟨b, _, none⟩ p0
          have NA := bcell (QBnw wz (.cells #[.int .i64 f', .int .i64 t0, .int .i64 t1, .int .i64 t2, .int .i64 t3] 106))
          have v0 := (NA.1 b _ hbz).trans p0
          have v1 := (NA.1 b _ hbz).trans p1
          have v2 := (NA.1 b _ hbz).trans p2
          have v3 := (NA.1 b _ hbz).trans p3
          have v4 := (NA.1 b _ hbz).trans p4
          clear NA hbz
          have HS : Hid (ok16 f' ∧ tnB ⟨t0, t1, t2, t3⟩ = true) := by have := spOk_some (HG.out k (by omega)); rw [HF.out] at this; exact this
          have HT : Hid (ok16 E ∧ tnB ⟨u0, u1, u2, u3⟩ = true) := by have := spOk_some (HG.out (k + 1) hk); rw [HE.out] at this; exact this
          have h16 : 0 ≤ f' ∧ f' ≤ 65536 := HS.out.1
          have k16 : 0 ≤ E ∧ E ≤ 65536 := HT.out.1
          go_wp2
          clear p0 p1 p2 p3 p4 q0 q1 q2 q3 q4 v0 v1 v2 v3 v4
          have hkk : rnK l X = k := rnK_of (by rw [HN.out]; exact hk) (fun i hi => HA.out (i + 1) (by omega)) (by rw [HE.out]; have := HLE.out; show ¬ E ≤ X; omega)
          have hfX : f' ≤ X := by have := HA.out k (by omega); rw [HF.out] at this; exact this
          have hEX : X < E := by have := HLE.out; omega
          have HV : Hid (rnT l X = ⟨lerp t0 u0 (E - X) (X - f') (E - f'), lerp t1 u1 (E - X) (X - f') (E - f'), lerp t2 u2 (E - X) (X - f') (E - f'), lerp t3 u3 (E - X) (X - f') (E - f')⟩) := by
            show _ = _
            unfold rnT
            rw [HF0.out, if_neg (show ¬ X ≤ f by have := HG1.out; omega), HN.out, HE0.out, if_neg (show ¬ e ≤ X by have := HG2.out; omega), hkk, HF.out, HE.out]
            rfl
          clear hkk
          obtain ⟨o0, o1, o2, o3⟩ := tnB_some HS.out.2
          obtain ⟨d0, d1, d2, d3⟩ := tnB_some HT.out.2
          simp only at o0 o1 o2 o3 d0 d1 d2 d3
          have hx : ok16 (E - X) := ⟨by omega, by omega⟩
          have hy : ok16 (X - f') := ⟨by omega, by omega⟩
          have hn : 1 ≤ E - f' := by omega
          have F0 := lerp_f o0 d0 hx hy hn
          have F1 := lerp_f o1 d1 hx hy hn
          have F2 := lerp_f o2 d2 hx hy hn
          have F3 := lerp_f o3 d3 hx hy hn
          clear hx hy o0 o1 o2 o3 d0 d1 d2 d3
          have NA : Nw wz (wz.alloc (.cells #[.int .i64 f', .int .i64 t0, .int .i64 t1, .int .i64 t2, .int .i64 t3] 106)) := QBnw _ _
          have NB : Nw (wz.alloc (.cells #[.int .i64 f', .int .i64 t0, .int .i64 t1, .int .i64 t2, .int .i64 t3] 106)) ((wz.alloc (.cells #[.int .i64 f', .int .i64 t0, .int .i64 t1, .int .i64 t2, .int .i64 t3] 106)).alloc (.cells #[.int .i64 E, .int .i64 u0, .int .i64 u1, .int .i64 u2, .int .i64 u3] 106)) := QBnw _ _
          have hsz : (wz.alloc (.cells #[.int .i64 f', .int .i64 t0, .int .i64 t1, .int .i64 t2, .int .i64 t3] 106)).heap.size = wz.heap.size + 1 := by simp
          have ca : ∀ o, ((wz.alloc (.cells #[.int .i64 f', .int .i64 t0, .int .i64 t1, .int .i64 t2, .int .i64 t3] 106)).alloc (.cells #[.int .i64 E, .int .i64 u0, .int .i64 u1, .int .i64 u2, .int .i64 u3] 106)).cell? ⟨wz.heap.size, o, none⟩ = (wz.alloc (.cells #[.int .i64 f', .int .i64 t0, .int .i64 t1, .int .i64 t2, .int .i64 t3] 106)).cell? ⟨wz.heap.size, o, none⟩ := fun o => (bcell NB).1 _ _ (by rw [hsz]; omega)
          have a1 := (ca 1).trans (show _ = some (.int .i64 t0) by simp)
          have a2 := (ca 2).trans (show _ = some (.int .i64 t1) by simp)
          have a3 := (ca 3).trans (show _ = some (.int .i64 t2) by simp)
          have a4 := (ca 4).trans (show _ = some (.int .i64 t3) by simp)
          have b1 : ((wz.alloc (.cells #[.int .i64 f', .int .i64 t0, .int .i64 t1, .int .i64 t2, .int .i64 t3] 106)).alloc (.cells #[.int .i64 E, .int .i64 u0, .int .i64 u1, .int .i64 u2, .int .i64 u3] 106)).cell? ⟨wz.heap.size + 1, 1, none⟩ = some (.int .i64 u0) := by rw [← hsz]; simp
          have b2 : ((wz.alloc (.cells #[.int .i64 f', .int .i64 t0, .int .i64 t1, .int .i64 t2, .int .i64 t3] 106)).alloc (.cells #[.int .i64 E, .int .i64 u0, .int .i64 u1, .int .i64 u2, .int .i64 u3] 106)).cell? ⟨wz.heap.size + 1, 2, none⟩ = some (.int .i64 u1) := by rw [← hsz]; simp
          have b3 : ((wz.alloc (.cells #[.int .i64 f', .int .i64 t0, .int .i64 t1, .int .i64 t2, .int .i64 t3] 106)).alloc (.cells #[.int .i64 E, .int .i64 u0, .int .i64 u1, .int .i64 u2, .int .i64 u3] 106)).cell? ⟨wz.heap.size + 1, 3, none⟩ = some (.int .i64 u2) := by rw [← hsz]; simp
          have b4 : ((wz.alloc (.cells #[.int .i64 f', .int .i64 t0, .int .i64 t1, .int .i64 t2, .int .i64 t3] 106)).alloc (.cells #[.int .i64 E, .int .i64 u0, .int .i64 u1, .int .i64 u2, .int .i64 u3] 106)).cell? ⟨wz.heap.size + 1, 4, none⟩ = some (.int .i64 u3) := by rw [← hsz]; simp
          have KW : Kp wz ((wz.alloc (.cells #[.int .i64 f', .int .i64 t0, .int .i64 t1, .int .i64 t2, .int .i64 t3] 106)).alloc (.cells #[.int .i64 E, .int .i64 u0, .int .i64 u1, .int .i64 u2, .int .i64 u3] 106)) := ((Kp.refl _).alloc _ _).alloc _ _
          clear NA NB ca hsz
          generalize ((wz.alloc (.cells #[.int .i64 f', .int .i64 t0, .int .i64 t1, .int .i64 t2, .int .i64 t3] 106)).alloc (.cells #[.int .i64 E, .int .i64 u0, .int .i64 u1, .int .i64 u2, .int .i64 u3] 106)) = W at *
          have HKW : Hid (Kp wz W) := KW
          have hzw : wz.heap.size + 1 < W.heap.size := World.block_lt_of_cell? W ⟨_, _, none⟩ b1
          have D := ((Kp.refl W).drew).cells.1
          replace a1 := (D _ _ (by omega)).trans a1
          replace a2 := (D _ _ (by omega)).trans a2
          replace a3 := (D _ _ (by omega)).trans a3
          replace a4 := (D _ _ (by omega)).trans a4
          replace b1 := (D _ _ hzw).trans b1
          replace b2 := (D _ _ hzw).trans b2
          replace b3 := (D _ _ hzw).trans b3
          replace b4 := (D _ _ hzw).trans b4
          clear KW D hzw
          obtain ⟨z0, z1, z2, z3, zf⟩ := QB.nw HQ.out (HKW.out.drew).nw
          refine reg_change (ops' := opsOf 24 Try.f71) (by kernel_rfl) ?_
          refine RN.run ⟨wz.heap.size, wz.heap.size + 1, w.heap.size, E - X, X - f', E - f', t0, t1, t2, t3, u0, u1, u2, u3, W.drew, _⟩ ⟨a1, a2, a3, a4, b1, b2, b3, b4, F0, F1, F2, F3, by show ¬ E - f' = 0; omega, ⟨_, z0⟩, ⟨_, z1⟩, ⟨_, z2⟩, ⟨_, z3⟩, zf, rfl, rfl, rfl, rfl, rfl, rfl, rfl⟩ W (Kp.refl _) ?_
          rintro γ w9 ⟨w8, k8, hw9⟩
          simp only at k8 hw9
          clear a1 a2 a3 a4 b1 b2 b3 b4 F0 F1 F2 F3 z0 z1 z2 z3 zf hfX hEX hn h16 k16
          have K8 : Hid (Kp wz w8) := Kp.trans HKW.out.drew k8
          clear k8
          simp only [Act.put, List.setIfInBounds_toArray, List.set_cons_zero, List.set_cons_succ]
          clear γ
          generalize lerp t0 u0 (E - X) (X - f') (E - f') = L0 at *
          generalize lerp t1 u1 (E - X) (X - f') (E - f') = L1 at *
          generalize lerp t2 u2 (E - X) (X - f') (E - f') = L2 at *
          generalize lerp t3 u3 (E - X) (X - f') (E - f') = L3 at *
          obtain ⟨z0, z1, z2, z3, zf⟩ := QB.nw HQ.out K8.out.nw
          obtain ⟨y0, y1, y2, y3⟩ := set4 w8 w.heap.size (.int .i64 L0) (.int .i64 L1) (.int .i64 L2) (.int .i64 L3) z0 z1 z2 z3
          clear z0 z1 z2 z3 zf
          have K9 : Hid (Kp w w9) := by
            show Kp w w9
            rw [hw9]
            exact ((((Kp.trans HZ.out K8.out).setCell (Nat.le_refl _) _).setCell (Nat.le_refl _) _).setCell (Nat.le_refl _) _).setCell (Nat.le_refl _) _
          rw [← hw9] at y0 y1 y2 y3
          clear hw9
          go_wp2
          refine bodyPost_ret (v := .agg #[.int .i64 L0, .int .i64 L1, .int .i64 L2, .int .i64 L3]) (by simp [results, Try.results71, go_sem, y0, y1, y2, y3]) rfl ⟨?_, K9.out⟩
          rw [HV.out]
set_option maxRecDepth 100000 in
set_option maxHeartbeats 8000000 in
theorem srun3a (w : World) (a : Option Addr) (c : Nat) (l : List Stp) (x X : Int) (hg : sgB l = true) (hx : -1099511627776 ≤ x ∧ x ≤ 1099511627776) (hr : Stps w a l) (hbd : 0 ≤ X ∧ X ≤ 65536) (m : Int) (hm : x % 131072 = m) (hge : 65536 ≤ m) (hlt : m ≤ 131072) (hX : 131072 - m = X) :
    Calls Try.prog 71 #[.slice a l.length c, .int .i64 x, .int .i64 3] w fun e w' => e = .returned (edV (rnT l X)) ∧ Kp w w' := by
  have HG : Hid (∀ k, k < l.length → spOk l k = true) := fun k hk => sgB_at hg k hk
  have hlen : 1 ≤ l.length ∧ l.length ≤ 8 := by
    unfold sgB at hg
    rw [Bool.and_eq_true] at hg
    have := hg.1
    unfold inN at this
    simp at this
    omega
  clear hg
  replace hr := hr.nw (QBnw w (.cells #[.int .i64 0, .int .i64 0, .int .i64 0, .int .i64 0] 24))
  rcases hr with h | ⟨b, off, rfl, hb, hc⟩
  · rw [h] at hlen; simp at hlen
  have HC : Hid (∀ i, i < l.length → _) := hc
  clear hc hb
  obtain ⟨n, hn⟩ : ∃ n, l.length = n := ⟨_, rfl⟩
  have HN : Hid (l.length = n) := hn
  rw [hn] at HC HG hlen ⊢
  clear hn
  unfold edV
  obtain ⟨⟨f, ⟨f0, f1, f2, f3⟩⟩, hf⟩ : ∃ s, spAt l 0 = s := ⟨_, rfl⟩
  obtain ⟨⟨e, ⟨e0, e1, e2, e3⟩⟩, he⟩ : ∃ s, spAt l (n - 1) = s := ⟨_, rfl⟩
  have HF0 : Hid _ := hf
  have HE0 : Hid _ := he
  have HF16 : Hid (0 ≤ f ∧ f ≤ 65536) := by have := (spOk_some (HG.out 0 (by omega))).1; rw [hf] at this; exact this
  have HE16 : Hid (0 ≤ e ∧ e ≤ 65536) := by have := (spOk_some (HG.out (n - 1) (by omega))).1; rw [he] at this; exact this
  obtain ⟨q0, q1, q2, q3, q4⟩ := HC.out 0 (by omega)
  obtain ⟨r0, r1, r2, r3, r4⟩ := HC.out (n - 1) (by omega)
  rw [hf] at q0 q1 q2 q3 q4
  rw [he] at r0 r1 r2 r3 r4
  simp only [Nat.zero_mul, Nat.add_zero] at q0 q1 q2 q3 q4 r0 r1 r2 r3 r4
  have hn1 : ((n : Int) - 1) = ((n - 1 : Nat) : Int) := by omega
  clear hf he
  have HM : Hid (∀ w, _) := fun w => smod x 131072 (by decide) (by decide) hx w
  rw [hm] at HM
  clear hm
  have hw : IntKind.i64.wrap (131072 - m) = X := by rw [hX]; exact IntWalk.i64_in _ ⟨by omega, by omega⟩
  clear hX
  by_cases g1 : X ≤ f
  · have HV : Hid (rnT l X = ⟨f0, f1, f2, f3⟩) := by show _ = _; unfold rnT; rw [HF0.out, if_pos g1]
    rw [HV.out]
    go_enter Try.func71, Try.ntmps71
    go_wp2_with fail
    refine Calls.mono (HM.out _) ?_
    rintro e w9 ⟨rfl, hw9⟩
    obtain rfl := hw9
    go_wp2
    exact bodyPost_ret (v := .agg #[.int .i64 f0, .int .i64 f1, .int .i64 f2, .int .i64 f3]) (by simp [results, Try.results71, go_sem]) rfl ⟨rfl, (Kp.refl _).alloc _ _⟩
  · by_cases g2 : e ≤ X
    · have HV : Hid (rnT l X = ⟨e0, e1, e2, e3⟩) := by show _ = _; unfold rnT; rw [HF0.out, if_neg g1, HN.out, HE0.out, if_pos g2]
      rw [HV.out]
      go_enter Try.func71, Try.ntmps71
      go_wp2_with fail
      refine Calls.mono (HM.out _) ?_
      rintro e w9 ⟨rfl, hw9⟩
      obtain rfl := hw9
      go_wp2
      exact bodyPost_ret (v := .agg #[.int .i64 e0, .int .i64 e1, .int .i64 e2, .int .i64 e3]) (by simp [results, Try.results71, go_sem]) rfl ⟨rfl, (Kp.refl _).alloc _ _⟩
    · have HG1 : Hid (¬ X ≤ f) := g1
      have HG2 : Hid (¬ e ≤ X) := g2
      have hn2 : 0 + 1 < n := by
        rcases Nat.lt_or_ge 1 n with h | h
        · omega
        · exfalso
          have e1 : n - 1 = 0 := by omega
          have := HE0.out
          rw [e1, HF0.out] at this
          injection this with h1
          omega
      have HN2 : Hid (0 + 1 < n) := hn2
      clear hn2
      go_enter Try.func71, Try.ntmps71
      go_wp2_with fail
      refine Calls.mono (HM.out _) ?_
      rintro e w9 ⟨rfl, hw9⟩
      obtain rfl := hw9
      go_wp2
      clear q0 q1 q2 q3 q4 r0 r1 r2 r3 r4 g1 g2
      have HZ : Hid (Kp w (w.alloc (.cells #[.int .i64 0, .int .i64 0, .int .i64 0, .int .i64 0] 24))) := (Kp.refl _).alloc _ _
      have HQ : Hid (QB (w.alloc (.cells #[.int .i64 0, .int .i64 0, .int .i64 0, .int .i64 0] 24)) w.heap.size noE) := QB.new w noE _
      generalize (w.alloc (.cells #[.int .i64 0, .int .i64 0, .int .i64 0, .int .i64 0] 24)) = wz at *
      go_loop [7] (fun i => ∃ k : Nat, k + 1 < n ∧ i = .int .i64 (k : Int) ∧ (∀ j, j < k + 1 → (spAt l j).p ≤ X)) (fun i => n - (intOf i).toNat)
      case atStart =>
        refine ⟨0, HN2.out, rfl, fun j hj => ?_⟩
        obtain rfl : j = 0 := by omega
        have := HG1.out
        rw [HF0.out]
        show f ≤ X
        omega
      case round =>
        obtain ⟨k, hk, rfl, ha⟩ := hrel
        have HA : Hid _ := ha
        clear ha
        obtain ⟨p0, p1, p2, p3, p4⟩ := HC.out (k + 1) (by omega)
        obtain ⟨⟨E, ⟨u0, u1, u2, u3⟩⟩, hE⟩ : ∃ s, spAt l (k + 1) = s := ⟨_, rfl⟩
        have HE : Hid _ := hE
        rw [hE] at p0 p1 p2 p3 p4
        simp only at p0 p1 p2 p3 p4
        clear hE
        by_cases hle : E ≤ X
        · have hk2 : k + 1 + 1 < n := by
            rcases Nat.lt_or_ge (k + 1 + 1) n with h | h
            · exact h
            · exfalso
              have e1 : n - 1 = k + 1 := by omega
              have := HE0.out
              rw [e1, HE.out] at this
              injection this with h1
              have := HG2.out
              omega
          have HK2 : Hid (k + 1 + 1 < n) := hk2
          clear hk2
          go_wp2
          go_round
          case rel =>
            refine ⟨k + 1, HK2.out, by go_num, fun j hj => ?_⟩
            rcases Nat.lt_succ_iff_lt_or_eq.1 hj with h | h
            · exact HA.out j h
            · rw [h, HE.out]; exact hle
          case measure => simp [intOf]; omega
        · have HLE : Hid (¬ E ≤ X) := hle
          obtain ⟨q0, q1, q2, q3, q4⟩ := HC.out k (by omega)
          obtain ⟨⟨f', ⟨t0, t1, t2, t3⟩⟩, hF⟩ : ∃ s, spAt l k = s := ⟨_, rfl⟩
          have HF : Hid _ := hF
          rw [hF] at q0 q1 q2 q3 q4
          simp only at q0 q1 q2 q3 q4
          clear hF
          have hbz := World.block_lt_of_cell? wz ⟨b, _, none⟩ p0
          have NA := bcell (QBnw wz (.cells #[.int .i64 f', .int .i64 t0, .int .i64 t1, .int .i64 t2, .int .i64 t3] 106))
          have v0 := (NA.1 b _ hbz).trans p0
          have v1 := (NA.1 b _ hbz).trans p1
          have v2 := (NA.1 b _ hbz).trans p2
          have v3 := (NA.1 b _ hbz).trans p3
          have v4 := (NA.1 b _ hbz).trans p4
          clear NA hbz
          have HS : Hid (ok16 f' ∧ tnB ⟨t0, t1, t2, t3⟩ = true) := by have := spOk_some (HG.out k (by omega)); rw [HF.out] at this; exact this
          have HT : Hid (ok16 E ∧ tnB ⟨u0, u1, u2, u3⟩ = true) := by have := spOk_some (HG.out (k + 1) hk); rw [HE.out] at this; exact this
          have h16 : 0 ≤ f' ∧ f' ≤ 65536 := HS.out.1
          have k16 : 0 ≤ E ∧ E ≤ 65536 := HT.out.1
          go_wp2
          clear p0 p1 p2 p3 p4 q0 q1 q2 q3 q4 v0 v1 v2 v3 v4
          have hkk : rnK l X = k := rnK_of (by rw [HN.out]; exact hk) (fun i hi => HA.out (i + 1) (by omega)) (by rw [HE.out]; have := HLE.out; show ¬ E ≤ X; omega)
          have hfX : f' ≤ X := by have := HA.out k (by omega); rw [HF.out] at this; exact this
          have hEX : X < E := by have := HLE.out; omega
          have HV : Hid (rnT l X = ⟨lerp t0 u0 (E - X) (X - f') (E - f'), lerp t1 u1 (E - X) (X - f') (E - f'), lerp t2 u2 (E - X) (X - f') (E - f'), lerp t3 u3 (E - X) (X - f') (E - f')⟩) := by
            show _ = _
            unfold rnT
            rw [HF0.out, if_neg (show ¬ X ≤ f by have := HG1.out; omega), HN.out, HE0.out, if_neg (show ¬ e ≤ X by have := HG2.out; omega), hkk, HF.out, HE.out]
            rfl
          clear hkk
          obtain ⟨o0, o1, o2, o3⟩ := tnB_some HS.out.2
          obtain ⟨d0, d1, d2, d3⟩ := tnB_some HT.out.2
          simp only at o0 o1 o2 o3 d0 d1 d2 d3
          have hx : ok16 (E - X) := ⟨by omega, by omega⟩
          have hy : ok16 (X - f') := ⟨by omega, by omega⟩
          have hn : 1 ≤ E - f' := by omega
          have F0 := lerp_f o0 d0 hx hy hn
          have F1 := lerp_f o1 d1 hx hy hn
          have F2 := lerp_f o2 d2 hx hy hn
          have F3 := lerp_f o3 d3 hx hy hn
          clear hx hy o0 o1 o2 o3 d0 d1 d2 d3
          have NA : Nw wz (wz.alloc (.cells #[.int .i64 f', .int .i64 t0, .int .i64 t1, .int .i64 t2, .int .i64 t3] 106)) := QBnw _ _
          have NB : Nw (wz.alloc (.cells #[.int .i64 f', .int .i64 t0, .int .i64 t1, .int .i64 t2, .int .i64 t3] 106)) ((wz.alloc (.cells #[.int .i64 f', .int .i64 t0, .int .i64 t1, .int .i64 t2, .int .i64 t3] 106)).alloc (.cells #[.int .i64 E, .int .i64 u0, .int .i64 u1, .int .i64 u2, .int .i64 u3] 106)) := QBnw _ _
          have hsz : (wz.alloc (.cells #[.int .i64 f', .int .i64 t0, .int .i64 t1, .int .i64 t2, .int .i64 t3] 106)).heap.size = wz.heap.size + 1 := by simp
          have ca : ∀ o, ((wz.alloc (.cells #[.int .i64 f', .int .i64 t0, .int .i64 t1, .int .i64 t2, .int .i64 t3] 106)).alloc (.cells #[.int .i64 E, .int .i64 u0, .int .i64 u1, .int .i64 u2, .int .i64 u3] 106)).cell? ⟨wz.heap.size, o, none⟩ = (wz.alloc (.cells #[.int .i64 f', .int .i64 t0, .int .i64 t1, .int .i64 t2, .int .i64 t3] 106)).cell? ⟨wz.heap.size, o, none⟩ := fun o => (bcell NB).1 _ _ (by rw [hsz]; omega)
          have a1 := (ca 1).trans (show _ = some (.int .i64 t0) by simp)
          have a2 := (ca 2).trans (show _ = some (.int .i64 t1) by simp)
          have a3 := (ca 3).trans (show _ = some (.int .i64 t2) by simp)
          have a4 := (ca 4).trans (show _ = some (.int .i64 t3) by simp)
          have b1 : ((wz.alloc (.cells #[.int .i64 f', .int .i64 t0, .int .i64 t1, .int .i64 t2, .int .i64 t3] 106)).alloc (.cells #[.int .i64 E, .int .i64 u0, .int .i64 u1, .int .i64 u2, .int .i64 u3] 106)).cell? ⟨wz.heap.size + 1, 1, none⟩ = some (.int .i64 u0) := by rw [← hsz]; simp
          have b2 : ((wz.alloc (.cells #[.int .i64 f', .int .i64 t0, .int .i64 t1, .int .i64 t2, .int .i64 t3] 106)).alloc (.cells #[.int .i64 E, .int .i64 u0, .int .i64 u1, .int .i64 u2, .int .i64 u3] 106)).cell? ⟨wz.heap.size + 1, 2, none⟩ = some (.int .i64 u1) := by rw [← hsz]; simp
          have b3 : ((wz.alloc (.cells #[.int .i64 f', .int .i64 t0, .int .i64 t1, .int .i64 t2, .int .i64 t3] 106)).alloc (.cells #[.int .i64 E, .int .i64 u0, .int .i64 u1, .int .i64 u2, .int .i64 u3] 106)).cell? ⟨wz.heap.size + 1, 3, none⟩ = some (.int .i64 u2) := by rw [← hsz]; simp
          have b4 : ((wz.alloc (.cells #[.int .i64 f', .int .i64 t0, .int .i64 t1, .int .i64 t2, .int .i64 t3] 106)).alloc (.cells #[.int .i64 E, .int .i64 u0, .int .i64 u1, .int .i64 u2, .int .i64 u3] 106)).cell? ⟨wz.heap.size + 1, 4, none⟩ = some (.int .i64 u3) := by rw [← hsz]; simp
          have KW : Kp wz ((wz.alloc (.cells #[.int .i64 f', .int .i64 t0, .int .i64 t1, .int .i64 t2, .int .i64 t3] 106)).alloc (.cells #[.int .i64 E, .int .i64 u0, .int .i64 u1, .int .i64 u2, .int .i64 u3] 106)) := ((Kp.refl _).alloc _ _).alloc _ _
          clear NA NB ca hsz
          generalize ((wz.alloc (.cells #[.int .i64 f', .int .i64 t0, .int .i64 t1, .int .i64 t2, .int .i64 t3] 106)).alloc (.cells #[.int .i64 E, .int .i64 u0, .int .i64 u1, .int .i64 u2, .int .i64 u3] 106)) = W at *
          have HKW : Hid (Kp wz W) := KW
          have hzw : wz.heap.size + 1 < W.heap.size := World.block_lt_of_cell? W ⟨_, _, none⟩ b1
          have D := ((Kp.refl W).drew).cells.1
          replace a1 := (D _ _ (by omega)).trans a1
          replace a2 := (D _ _ (by omega)).trans a2
          replace a3 := (D _ _ (by omega)).trans a3
          replace a4 := (D _ _ (by omega)).trans a4
          replace b1 := (D _ _ hzw).trans b1
          replace b2 := (D _ _ hzw).trans b2
          replace b3 := (D _ _ hzw).trans b3
          replace b4 := (D _ _ hzw).trans b4
          clear KW D hzw
          obtain ⟨z0, z1, z2, z3, zf⟩ := QB.nw HQ.out (HKW.out.drew).nw
          refine reg_change (ops' := opsOf 24 Try.f71) (by kernel_rfl) ?_
          refine RN.run ⟨wz.heap.size, wz.heap.size + 1, w.heap.size, E - X, X - f', E - f', t0, t1, t2, t3, u0, u1, u2, u3, W.drew, _⟩ ⟨a1, a2, a3, a4, b1, b2, b3, b4, F0, F1, F2, F3, by show ¬ E - f' = 0; omega, ⟨_, z0⟩, ⟨_, z1⟩, ⟨_, z2⟩, ⟨_, z3⟩, zf, rfl, rfl, rfl, rfl, rfl, rfl, rfl⟩ W (Kp.refl _) ?_
          rintro γ w9 ⟨w8, k8, hw9⟩
          simp only at k8 hw9
          clear a1 a2 a3 a4 b1 b2 b3 b4 F0 F1 F2 F3 z0 z1 z2 z3 zf hfX hEX hn h16 k16
          have K8 : Hid (Kp wz w8) := Kp.trans HKW.out.drew k8
          clear k8
          simp only [Act.put, List.setIfInBounds_toArray, List.set_cons_zero, List.set_cons_succ]
          clear γ
          generalize lerp t0 u0 (E - X) (X - f') (E - f') = L0 at *
          generalize lerp t1 u1 (E - X) (X - f') (E - f') = L1 at *
          generalize lerp t2 u2 (E - X) (X - f') (E - f') = L2 at *
          generalize lerp t3 u3 (E - X) (X - f') (E - f') = L3 at *
          obtain ⟨z0, z1, z2, z3, zf⟩ := QB.nw HQ.out K8.out.nw
          obtain ⟨y0, y1, y2, y3⟩ := set4 w8 w.heap.size (.int .i64 L0) (.int .i64 L1) (.int .i64 L2) (.int .i64 L3) z0 z1 z2 z3
          clear z0 z1 z2 z3 zf
          have K9 : Hid (Kp w w9) := by
            show Kp w w9
            rw [hw9]
            exact ((((Kp.trans HZ.out K8.out).setCell (Nat.le_refl _) _).setCell (Nat.le_refl _) _).setCell (Nat.le_refl _) _).setCell (Nat.le_refl _) _
          rw [← hw9] at y0 y1 y2 y3
          clear hw9
          go_wp2
          refine bodyPost_ret (v := .agg #[.int .i64 L0, .int .i64 L1, .int .i64 L2, .int .i64 L3]) (by simp [results, Try.results71, go_sem, y0, y1, y2, y3]) rfl ⟨?_, K9.out⟩
          rw [HV.out]
set_option maxRecDepth 100000 in
set_option maxHeartbeats 8000000 in
theorem srun3b (w : World) (a : Option Addr) (c : Nat) (l : List Stp) (x X : Int) (hg : sgB l = true) (hx : -1099511627776 ≤ x ∧ x ≤ 1099511627776) (hr : Stps w a l) (hbd : 0 ≤ X ∧ X ≤ 65536) (hX : x % 131072 = X) (hlt : X < 65536) :
    Calls Try.prog 71 #[.slice a l.length c, .int .i64 x, .int .i64 3] w fun e w' => e = .returned (edV (rnT l X)) ∧ Kp w w' := by
  have HG : Hid (∀ k, k < l.length → spOk l k = true) := fun k hk => sgB_at hg k hk
  have hlen : 1 ≤ l.length ∧ l.length ≤ 8 := by
    unfold sgB at hg
    rw [Bool.and_eq_true] at hg
    have := hg.1
    unfold inN at this
    simp at this
    omega
  clear hg
  replace hr := hr.nw (QBnw w (.cells #[.int .i64 0, .int .i64 0, .int .i64 0, .int .i64 0] 24))
  rcases hr with h | ⟨b, off, rfl, hb, hc⟩
  · rw [h] at hlen; simp at hlen
  have HC : Hid (∀ i, i < l.length → _) := hc
  clear hc hb
  obtain ⟨n, hn⟩ : ∃ n, l.length = n := ⟨_, rfl⟩
  have HN : Hid (l.length = n) := hn
  rw [hn] at HC HG hlen ⊢
  clear hn
  unfold edV
  obtain ⟨⟨f, ⟨f0, f1, f2, f3⟩⟩, hf⟩ : ∃ s, spAt l 0 = s := ⟨_, rfl⟩
  obtain ⟨⟨e, ⟨e0, e1, e2, e3⟩⟩, he⟩ : ∃ s, spAt l (n - 1) = s := ⟨_, rfl⟩
  have HF0 : Hid _ := hf
  have HE0 : Hid _ := he
  have HF16 : Hid (0 ≤ f ∧ f ≤ 65536) := by have := (spOk_some (HG.out 0 (by omega))).1; rw [hf] at this; exact this
  have HE16 : Hid (0 ≤ e ∧ e ≤ 65536) := by have := (spOk_some (HG.out (n - 1) (by omega))).1; rw [he] at this; exact this
  obtain ⟨q0, q1, q2, q3, q4⟩ := HC.out 0 (by omega)
  obtain ⟨r0, r1, r2, r3, r4⟩ := HC.out (n - 1) (by omega)
  rw [hf] at q0 q1 q2 q3 q4
  rw [he] at r0 r1 r2 r3 r4
  simp only [Nat.zero_mul, Nat.add_zero] at q0 q1 q2 q3 q4 r0 r1 r2 r3 r4
  have hn1 : ((n : Int) - 1) = ((n - 1 : Nat) : Int) := by omega
  clear hf he
  have HM : Hid (∀ w, _) := fun w => smod x 131072 (by decide) (by decide) hx w
  rw [hX] at HM
  clear hX
  by_cases g1 : X ≤ f
  · have HV : Hid (rnT l X = ⟨f0, f1, f2, f3⟩) := by show _ = _; unfold rnT; rw [HF0.out, if_pos g1]
    rw [HV.out]
    go_enter Try.func71, Try.ntmps71
    go_wp2_with fail
    refine Calls.mono (HM.out _) ?_
    rintro e w9 ⟨rfl, hw9⟩
    obtain rfl := hw9
    go_wp2
    exact bodyPost_ret (v := .agg #[.int .i64 f0, .int .i64 f1, .int .i64 f2, .int .i64 f3]) (by simp [results, Try.results71, go_sem]) rfl ⟨rfl, (Kp.refl _).alloc _ _⟩
  · by_cases g2 : e ≤ X
    · have HV : Hid (rnT l X = ⟨e0, e1, e2, e3⟩) := by show _ = _; unfold rnT; rw [HF0.out, if_neg g1, HN.out, HE0.out, if_pos g2]
      rw [HV.out]
      go_enter Try.func71, Try.ntmps71
      go_wp2_with fail
      refine Calls.mono (HM.out _) ?_
      rintro e w9 ⟨rfl, hw9⟩
      obtain rfl := hw9
      go_wp2
      exact bodyPost_ret (v := .agg #[.int .i64 e0, .int .i64 e1, .int .i64 e2, .int .i64 e3]) (by simp [results, Try.results71, go_sem]) rfl ⟨rfl, (Kp.refl _).alloc _ _⟩
    · have HG1 : Hid (¬ X ≤ f) := g1
      have HG2 : Hid (¬ e ≤ X) := g2
      have hn2 : 0 + 1 < n := by
        rcases Nat.lt_or_ge 1 n with h | h
        · omega
        · exfalso
          have e1 : n - 1 = 0 := by omega
          have := HE0.out
          rw [e1, HF0.out] at this
          injection this with h1
          omega
      have HN2 : Hid (0 + 1 < n) := hn2
      clear hn2
      go_enter Try.func71, Try.ntmps71
      go_wp2_with fail
      refine Calls.mono (HM.out _) ?_
      rintro e w9 ⟨rfl, hw9⟩
      obtain rfl := hw9
      go_wp2
      clear q0 q1 q2 q3 q4 r0 r1 r2 r3 r4 g1 g2
      have HZ : Hid (Kp w (w.alloc (.cells #[.int .i64 0, .int .i64 0, .int .i64 0, .int .i64 0] 24))) := (Kp.refl _).alloc _ _
      have HQ : Hid (QB (w.alloc (.cells #[.int .i64 0, .int .i64 0, .int .i64 0, .int .i64 0] 24)) w.heap.size noE) := QB.new w noE _
      generalize (w.alloc (.cells #[.int .i64 0, .int .i64 0, .int .i64 0, .int .i64 0] 24)) = wz at *
      go_loop [7] (fun i => ∃ k : Nat, k + 1 < n ∧ i = .int .i64 (k : Int) ∧ (∀ j, j < k + 1 → (spAt l j).p ≤ X)) (fun i => n - (intOf i).toNat)
      case atStart =>
        refine ⟨0, HN2.out, rfl, fun j hj => ?_⟩
        obtain rfl : j = 0 := by omega
        have := HG1.out
        rw [HF0.out]
        show f ≤ X
        omega
      case round =>
        obtain ⟨k, hk, rfl, ha⟩ := hrel
        have HA : Hid _ := ha
        clear ha
        obtain ⟨p0, p1, p2, p3, p4⟩ := HC.out (k + 1) (by omega)
        obtain ⟨⟨E, ⟨u0, u1, u2, u3⟩⟩, hE⟩ : ∃ s, spAt l (k + 1) = s := ⟨_, rfl⟩
        have HE : Hid _ := hE
        rw [hE] at p0 p1 p2 p3 p4
        simp only at p0 p1 p2 p3 p4
        clear hE
        by_cases hle : E ≤ X
        · have hk2 : k + 1 + 1 < n := by
            rcases Nat.lt_or_ge (k + 1 + 1) n with h | h
            · exact h
            · exfalso
              have e1 : n - 1 = k + 1 := by omega
              have := HE0.out
              rw [e1, HE.out] at this
              injection this with h1
              have := HG2.out
              omega
          have HK2 : Hid (k + 1 + 1 < n) := hk2
          clear hk2
          go_wp2
          go_round
          case rel =>
            refine ⟨k + 1, HK2.out, by go_num, fun j hj => ?_⟩
            rcases Nat.lt_succ_iff_lt_or_eq.1 hj with h | h
            · exact HA.out j h
            · rw [h, HE.out]; exact hle
          case measure => simp [intOf]; omega
        · have HLE : Hid (¬ E ≤ X) := hle
          obtain ⟨q0, q1, q2, q3, q4⟩ := HC.out k (by omega)
          obtain ⟨⟨f', ⟨t0, t1, t2, t3⟩⟩, hF⟩ : ∃ s, spAt l k = s := ⟨_, rfl⟩
          have HF : Hid _ := hF
          rw [hF] at q0 q1 q2 q3 q4
          simp only at q0 q1 q2 q3 q4
          clear hF
          have hbz := World.block_lt_of_cell? wz ⟨b, _, none⟩ p0
          have NA := bcell (QBnw wz (.cells #[.int .i64 f', .int .i64 t0, .int .i64 t1, .int .i64 t2, .int .i64 t3] 106))
          have v0 := (NA.1 b _ hbz).trans p0
          have v1 := (NA.1 b _ hbz).trans p1
          have v2 := (NA.1 b _ hbz).trans p2
          have v3 := (NA.1 b _ hbz).trans p3
          have v4 := (NA.1 b _ hbz).trans p4
          clear NA hbz
          have HS : Hid (ok16 f' ∧ tnB ⟨t0, t1, t2, t3⟩ = true) := by have := spOk_some (HG.out k (by omega)); rw [HF.out] at this; exact this
          have HT : Hid (ok16 E ∧ tnB ⟨u0, u1, u2, u3⟩ = true) := by have := spOk_some (HG.out (k + 1) hk); rw [HE.out] at this; exact this
          have h16 : 0 ≤ f' ∧ f' ≤ 65536 := HS.out.1
          have k16 : 0 ≤ E ∧ E ≤ 65536 := HT.out.1
          go_wp2
          clear p0 p1 p2 p3 p4 q0 q1 q2 q3 q4 v0 v1 v2 v3 v4
          have hkk : rnK l X = k := rnK_of (by rw [HN.out]; exact hk) (fun i hi => HA.out (i + 1) (by omega)) (by rw [HE.out]; have := HLE.out; show ¬ E ≤ X; omega)
          have hfX : f' ≤ X := by have := HA.out k (by omega); rw [HF.out] at this; exact this
          have hEX : X < E := by have := HLE.out; omega
          have HV : Hid (rnT l X = ⟨lerp t0 u0 (E - X) (X - f') (E - f'), lerp t1 u1 (E - X) (X - f') (E - f'), lerp t2 u2 (E - X) (X - f') (E - f'), lerp t3 u3 (E - X) (X - f') (E - f')⟩) := by
            show _ = _
            unfold rnT
            rw [HF0.out, if_neg (show ¬ X ≤ f by have := HG1.out; omega), HN.out, HE0.out, if_neg (show ¬ e ≤ X by have := HG2.out; omega), hkk, HF.out, HE.out]
            rfl
          clear hkk
          obtain ⟨o0, o1, o2, o3⟩ := tnB_some HS.out.2
          obtain ⟨d0, d1, d2, d3⟩ := tnB_some HT.out.2
          simp only at o0 o1 o2 o3 d0 d1 d2 d3
          have hx : ok16 (E - X) := ⟨by omega, by omega⟩
          have hy : ok16 (X - f') := ⟨by omega, by omega⟩
          have hn : 1 ≤ E - f' := by omega
          have F0 := lerp_f o0 d0 hx hy hn
          have F1 := lerp_f o1 d1 hx hy hn
          have F2 := lerp_f o2 d2 hx hy hn
          have F3 := lerp_f o3 d3 hx hy hn
          clear hx hy o0 o1 o2 o3 d0 d1 d2 d3
          have NA : Nw wz (wz.alloc (.cells #[.int .i64 f', .int .i64 t0, .int .i64 t1, .int .i64 t2, .int .i64 t3] 106)) := QBnw _ _
          have NB : Nw (wz.alloc (.cells #[.int .i64 f', .int .i64 t0, .int .i64 t1, .int .i64 t2, .int .i64 t3] 106)) ((wz.alloc (.cells #[.int .i64 f', .int .i64 t0, .int .i64 t1, .int .i64 t2, .int .i64 t3] 106)).alloc (.cells #[.int .i64 E, .int .i64 u0, .int .i64 u1, .int .i64 u2, .int .i64 u3] 106)) := QBnw _ _
          have hsz : (wz.alloc (.cells #[.int .i64 f', .int .i64 t0, .int .i64 t1, .int .i64 t2, .int .i64 t3] 106)).heap.size = wz.heap.size + 1 := by simp
          have ca : ∀ o, ((wz.alloc (.cells #[.int .i64 f', .int .i64 t0, .int .i64 t1, .int .i64 t2, .int .i64 t3] 106)).alloc (.cells #[.int .i64 E, .int .i64 u0, .int .i64 u1, .int .i64 u2, .int .i64 u3] 106)).cell? ⟨wz.heap.size, o, none⟩ = (wz.alloc (.cells #[.int .i64 f', .int .i64 t0, .int .i64 t1, .int .i64 t2, .int .i64 t3] 106)).cell? ⟨wz.heap.size, o, none⟩ := fun o => (bcell NB).1 _ _ (by rw [hsz]; omega)
          have a1 := (ca 1).trans (show _ = some (.int .i64 t0) by simp)
          have a2 := (ca 2).trans (show _ = some (.int .i64 t1) by simp)
          have a3 := (ca 3).trans (show _ = some (.int .i64 t2) by simp)
          have a4 := (ca 4).trans (show _ = some (.int .i64 t3) by simp)
          have b1 : ((wz.alloc (.cells #[.int .i64 f', .int .i64 t0, .int .i64 t1, .int .i64 t2, .int .i64 t3] 106)).alloc (.cells #[.int .i64 E, .int .i64 u0, .int .i64 u1, .int .i64 u2, .int .i64 u3] 106)).cell? ⟨wz.heap.size + 1, 1, none⟩ = some (.int .i64 u0) := by rw [← hsz]; simp
          have b2 : ((wz.alloc (.cells #[.int .i64 f', .int .i64 t0, .int .i64 t1, .int .i64 t2, .int .i64 t3] 106)).alloc (.cells #[.int .i64 E, .int .i64 u0, .int .i64 u1, .int .i64 u2, .int .i64 u3] 106)).cell? ⟨wz.heap.size + 1, 2, none⟩ = some (.int .i64 u1) := by rw [← hsz]; simp
          have b3 : ((wz.alloc (.cells #[.int .i64 f', .int .i64 t0, .int .i64 t1, .int .i64 t2, .int .i64 t3] 106)).alloc (.cells #[.int .i64 E, .int .i64 u0, .int .i64 u1, .int .i64 u2, .int .i64 u3] 106)).cell? ⟨wz.heap.size + 1, 3, none⟩ = some (.int .i64 u2) := by rw [← hsz]; simp
          have b4 : ((wz.alloc (.cells #[.int .i64 f', .int .i64 t0, .int .i64 t1, .int .i64 t2, .int .i64 t3] 106)).alloc (.cells #[.int .i64 E, .int .i64 u0, .int .i64 u1, .int .i64 u2, .int .i64 u3] 106)).cell? ⟨wz.heap.size + 1, 4, none⟩ = some (.int .i64 u3) := by rw [← hsz]; simp
          have KW : Kp wz ((wz.alloc (.cells #[.int .i64 f', .int .i64 t0, .int .i64 t1, .int .i64 t2, .int .i64 t3] 106)).alloc (.cells #[.int .i64 E, .int .i64 u0, .int .i64 u1, .int .i64 u2, .int .i64 u3] 106)) := ((Kp.refl _).alloc _ _).alloc _ _
          clear NA NB ca hsz
          generalize ((wz.alloc (.cells #[.int .i64 f', .int .i64 t0, .int .i64 t1, .int .i64 t2, .int .i64 t3] 106)).alloc (.cells #[.int .i64 E, .int .i64 u0, .int .i64 u1, .int .i64 u2, .int .i64 u3] 106)) = W at *
          have HKW : Hid (Kp wz W) := KW
          have hzw : wz.heap.size + 1 < W.heap.size := World.block_lt_of_cell? W ⟨_, _, none⟩ b1
          have D := ((Kp.refl W).drew).cells.1
          replace a1 := (D _ _ (by omega)).trans a1
          replace a2 := (D _ _ (by omega)).trans a2
          replace a3 := (D _ _ (by omega)).trans a3
          replace a4 := (D _ _ (by omega)).trans a4
          replace b1 := (D _ _ hzw).trans b1
          replace b2 := (D _ _ hzw).trans b2
          replace b3 := (D _ _ hzw).trans b3
          replace b4 := (D _ _ hzw).trans b4
          clear KW D hzw
          obtain ⟨z0, z1, z2, z3, zf⟩ := QB.nw HQ.out (HKW.out.drew).nw
          refine reg_change (ops' := opsOf 24 Try.f71) (by kernel_rfl) ?_
          refine RN.run ⟨wz.heap.size, wz.heap.size + 1, w.heap.size, E - X, X - f', E - f', t0, t1, t2, t3, u0, u1, u2, u3, W.drew, _⟩ ⟨a1, a2, a3, a4, b1, b2, b3, b4, F0, F1, F2, F3, by show ¬ E - f' = 0; omega, ⟨_, z0⟩, ⟨_, z1⟩, ⟨_, z2⟩, ⟨_, z3⟩, zf, rfl, rfl, rfl, rfl, rfl, rfl, rfl⟩ W (Kp.refl _) ?_
          rintro γ w9 ⟨w8, k8, hw9⟩
          simp only at k8 hw9
          clear a1 a2 a3 a4 b1 b2 b3 b4 F0 F1 F2 F3 z0 z1 z2 z3 zf hfX hEX hn h16 k16
          have K8 : Hid (Kp wz w8) := Kp.trans HKW.out.drew k8
          clear k8
          simp only [Act.put, List.setIfInBounds_toArray, List.set_cons_zero, List.set_cons_succ]
          clear γ
          generalize lerp t0 u0 (E - X) (X - f') (E - f') = L0 at *
          generalize lerp t1 u1 (E - X) (X - f') (E - f') = L1 at *
          generalize lerp t2 u2 (E - X) (X - f') (E - f') = L2 at *
          generalize lerp t3 u3 (E - X) (X - f') (E - f') = L3 at *
          obtain ⟨z0, z1, z2, z3, zf⟩ := QB.nw HQ.out K8.out.nw
          obtain ⟨y0, y1, y2, y3⟩ := set4 w8 w.heap.size (.int .i64 L0) (.int .i64 L1) (.int .i64 L2) (.int .i64 L3) z0 z1 z2 z3
          clear z0 z1 z2 z3 zf
          have K9 : Hid (Kp w w9) := by
            show Kp w w9
            rw [hw9]
            exact ((((Kp.trans HZ.out K8.out).setCell (Nat.le_refl _) _).setCell (Nat.le_refl _) _).setCell (Nat.le_refl _) _).setCell (Nat.le_refl _) _
          rw [← hw9] at y0 y1 y2 y3
          clear hw9
          go_wp2
          refine bodyPost_ret (v := .agg #[.int .i64 L0, .int .i64 L1, .int .i64 L2, .int .i64 L3]) (by simp [results, Try.results71, go_sem, y0, y1, y2, y3]) rfl ⟨?_, K9.out⟩
          rw [HV.out]
set_option maxRecDepth 100000 in
set_option maxHeartbeats 8000000 in
theorem srun1a (w : World) (a : Option Addr) (c : Nat) (l : List Stp) (x X : Int) (hg : sgB l = true) (hx : -1099511627776 ≤ x ∧ x ≤ 1099511627776) (hr : Stps w a l) (hbd : 0 ≤ X ∧ X ≤ 65536) (hlt : x < 0) (hX : X = 0) :
    Calls Try.prog 71 #[.slice a l.length c, .int .i64 x, .int .i64 1] w fun e w' => e = .returned (edV (rnT l X)) ∧ Kp w w' := by
  have HG : Hid (∀ k, k < l.length → spOk l k = true) := fun k hk => sgB_at hg k hk
  have hlen : 1 ≤ l.length ∧ l.length ≤ 8 := by
    unfold sgB at hg
    rw [Bool.and_eq_true] at hg
    have := hg.1
    unfold inN at this
    simp at this
    omega
  clear hg
  replace hr := hr.nw (QBnw w (.cells #[.int .i64 0, .int .i64 0, .int .i64 0, .int .i64 0] 24))
  rcases hr with h | ⟨b, off, rfl, hb, hc⟩
  · rw [h] at hlen; simp at hlen
  have HC : Hid (∀ i, i < l.length → _) := hc
  clear hc hb
  obtain ⟨n, hn⟩ : ∃ n, l.length = n := ⟨_, rfl⟩
  have HN : Hid (l.length = n) := hn
  rw [hn] at HC HG hlen ⊢
  clear hn
  unfold edV
  obtain ⟨⟨f, ⟨f0, f1, f2, f3⟩⟩, hf⟩ : ∃ s, spAt l 0 = s := ⟨_, rfl⟩
  obtain ⟨⟨e, ⟨e0, e1, e2, e3⟩⟩, he⟩ : ∃ s, spAt l (n - 1) = s := ⟨_, rfl⟩
  have HF0 : Hid _ := hf
  have HE0 : Hid _ := he
  have HF16 : Hid (0 ≤ f ∧ f ≤ 65536) := by have := (spOk_some (HG.out 0 (by omega))).1; rw [hf] at this; exact this
  have HE16 : Hid (0 ≤ e ∧ e ≤ 65536) := by have := (spOk_some (HG.out (n - 1) (by omega))).1; rw [he] at this; exact this
  obtain ⟨q0, q1, q2, q3, q4⟩ := HC.out 0 (by omega)
  obtain ⟨r0, r1, r2, r3, r4⟩ := HC.out (n - 1) (by omega)
  rw [hf] at q0 q1 q2 q3 q4
  rw [he] at r0 r1 r2 r3 r4
  simp only [Nat.zero_mul, Nat.add_zero] at q0 q1 q2 q3 q4 r0 r1 r2 r3 r4
  have hn1 : ((n : Int) - 1) = ((n - 1 : Nat) : Int) := by omega
  clear hf he
  subst hX
  by_cases g1 : 0 ≤ f
  · have HV : Hid (rnT l 0 = ⟨f0, f1, f2, f3⟩) := by show _ = _; unfold rnT; rw [HF0.out, if_pos g1]
    rw [HV.out]
    go_enter Try.func71, Try.ntmps71
    go_wp2
    exact bodyPost_ret (v := .agg #[.int .i64 f0, .int .i64 f1, .int .i64 f2, .int .i64 f3]) (by simp [results, Try.results71, go_sem]) rfl ⟨rfl, (Kp.refl _).alloc _ _⟩
  · exact absurd HF16.out.1 g1
set_option maxRecDepth 100000 in
set_option maxHeartbeats 8000000 in
theorem srun1b (w : World) (a : Option Addr) (c : Nat) (l : List Stp) (x X : Int) (hg : sgB l = true) (hx : -1099511627776 ≤ x ∧ x ≤ 1099511627776) (hr : Stps w a l) (hbd : 0 ≤ X ∧ X ≤ 65536) (hgt : 65536 < x) (hX : X = 65536) :
    Calls Try.prog 71 #[.slice a l.length c, .int .i64 x, .int .i64 1] w fun e w' => e = .returned (edV (rnT l X)) ∧ Kp w w' := by
  have HG : Hid (∀ k, k < l.length → spOk l k = true) := fun k hk => sgB_at hg k hk
  have hlen : 1 ≤ l.length ∧ l.length ≤ 8 := by
    unfold sgB at hg
    rw [Bool.and_eq_true] at hg
    have := hg.1
    unfold inN at this
    simp at this
    omega
  clear hg
  replace hr := hr.nw (QBnw w (.cells #[.int .i64 0, .int .i64 0, .int .i64 0, .int .i64 0] 24))
  rcases hr with h | ⟨b, off, rfl, hb, hc⟩
  · rw [h] at hlen; simp at hlen
  have HC : Hid (∀ i, i < l.length → _) := hc
  clear hc hb
  obtain ⟨n, hn⟩ : ∃ n, l.length = n := ⟨_, rfl⟩
  have HN : Hid (l.length = n) := hn
  rw [hn] at HC HG hlen ⊢
  clear hn
  unfold edV
  obtain ⟨⟨f, ⟨f0, f1, f2, f3⟩⟩, hf⟩ : ∃ s, spAt l 0 = s := ⟨_, rfl⟩
  obtain ⟨⟨e, ⟨e0, e1, e2, e3⟩⟩, he⟩ : ∃ s, spAt l (n - 1) = s := ⟨_, rfl⟩
  have HF0 : Hid _ := hf
  have HE0 : Hid _ := he
  have HF16 : Hid (0 ≤ f ∧ f ≤ 65536) := by have := (spOk_some (HG.out 0 (by omega))).1; rw [hf] at this; exact this
  have HE16 : Hid (0 ≤ e ∧ e ≤ 65536) := by have := (spOk_some (HG.out (n - 1) (by omega))).1; rw [he] at this; exact this
  obtain ⟨q0, q1, q2, q3, q4⟩ := HC.out 0 (by omega)
  obtain ⟨r0, r1, r2, r3, r4⟩ := HC.out (n - 1) (by omega)
  rw [hf] at q0 q1 q2 q3 q4
  rw [he] at r0 r1 r2 r3 r4
  simp only [Nat.zero_mul, Nat.add_zero] at q0 q1 q2 q3 q4 r0 r1 r2 r3 r4
  have hn1 : ((n : Int) - 1) = ((n - 1 : Nat) : Int) := by omega
  clear hf he
  subst hX
  by_cases g1 : 65536 ≤ f
  · have HV : Hid (rnT l 65536 = ⟨f0, f1, f2, f3⟩) := by show _ = _; unfold rnT; rw [HF0.out, if_pos g1]
    rw [HV.out]
    go_enter Try.func71, Try.ntmps71
    go_wp2
    exact bodyPost_ret (v := .agg #[.int .i64 f0, .int .i64 f1, .int .i64 f2, .int .i64 f3]) (by simp [results, Try.results71, go_sem]) rfl ⟨rfl, (Kp.refl _).alloc _ _⟩
  · by_cases g2 : e ≤ 65536
    · have HV : Hid (rnT l 65536 = ⟨e0, e1, e2, e3⟩) := by show _ = _; unfold rnT; rw [HF0.out, if_neg g1, HN.out, HE0.out, if_pos g2]
      rw [HV.out]
      go_enter Try.func71, Try.ntmps71
      go_wp2
      exact bodyPost_ret (v := .agg #[.int .i64 e0, .int .i64 e1, .int .i64 e2, .int .i64 e3]) (by simp [results, Try.results71, go_sem]) rfl ⟨rfl, (Kp.refl _).alloc _ _⟩
    · exact absurd HE16.out.2 g2
set_option maxRecDepth 100000 in
set_option maxHeartbeats 8000000 in
theorem srun1c (w : World) (a : Option Addr) (c : Nat) (l : List Stp) (x X : Int) (hg : sgB l = true) (hx : -1099511627776 ≤ x ∧ x ≤ 1099511627776) (hr : Stps w a l) (hbd : 0 ≤ X ∧ X ≤ 65536) (hX : X = x) :
    Calls Try.prog 71 #[.slice a l.length c, .int .i64 x, .int .i64 1] w fun e w' => e = .returned (edV (rnT l X)) ∧ Kp w w' := by
  have HG : Hid (∀ k, k < l.length → spOk l k = true) := fun k hk => sgB_at hg k hk
  have hlen : 1 ≤ l.length ∧ l.length ≤ 8 := by
    unfold sgB at hg
    rw [Bool.and_eq_true] at hg
    have := hg.1
    unfold inN at this
    simp at this
    omega
  clear hg
  replace hr := hr.nw (QBnw w (.cells #[.int .i64 0, .int .i64 0, .int .i64 0, .int .i64 0] 24))
  rcases hr with h | ⟨b, off, rfl, hb, hc⟩
  · rw [h] at hlen; simp at hlen
  have HC : Hid (∀ i, i < l.length → _) := hc
  clear hc hb
  obtain ⟨n, hn⟩ : ∃ n, l.length = n := ⟨_, rfl⟩
  have HN : Hid (l.length = n) := hn
  rw [hn] at HC HG hlen ⊢
  clear hn
  unfold edV
  obtain ⟨⟨f, ⟨f0, f1, f2, f3⟩⟩, hf⟩ : ∃ s, spAt l 0 = s := ⟨_, rfl⟩
  obtain ⟨⟨e, ⟨e0, e1, e2, e3⟩⟩, he⟩ : ∃ s, spAt l (n - 1) = s := ⟨_, rfl⟩
  have HF0 : Hid _ := hf
  have HE0 : Hid _ := he
  have HF16 : Hid (0 ≤ f ∧ f ≤ 65536) := by have := (spOk_some (HG.out 0 (by omega))).1; rw [hf] at this; exact this
  have HE16 : Hid (0 ≤ e ∧ e ≤ 65536) := by have := (spOk_some (HG.out (n - 1) (by omega))).1; rw [he] at this; exact this
  obtain ⟨q0, q1, q2, q3, q4⟩ := HC.out 0 (by omega)
  obtain ⟨r0, r1, r2, r3, r4⟩ := HC.out (n - 1) (by omega)
  rw [hf] at q0 q1 q2 q3 q4
  rw [he] at r0 r1 r2 r3 r4
  simp only [Nat.zero_mul, Nat.add_zero] at q0 q1 q2 q3 q4 r0 r1 r2 r3 r4
  have hn1 : ((n : Int) - 1) = ((n - 1 : Nat) : Int) := by omega
  clear hf he
  subst hX
  by_cases g1 : X ≤ f
  · have HV : Hid (rnT l X = ⟨f0, f1, f2, f3⟩) := by show _ = _; unfold rnT; rw [HF0.out, if_pos g1]
    rw [HV.out]
    go_enter Try.func71, Try.ntmps71
    go_wp2
    exact bodyPost_ret (v := .agg #[.int .i64 f0, .int .i64 f1, .int .i64 f2, .int .i64 f3]) (by simp [results, Try.results71, go_sem]) rfl ⟨rfl, (Kp.refl _).alloc _ _⟩
  · by_cases g2 : e ≤ X
    · have HV : Hid (rnT l X = ⟨e0, e1, e2, e3⟩) := by show _ = _; unfold rnT; rw [HF0.out, if_neg g1, HN.out, HE0.out, if_pos g2]
      rw [HV.out]
      go_enter Try.func71, Try.ntmps71
      go_wp2
      exact bodyPost_ret (v := .agg #[.int .i64 e0, .int .i64 e1, .int .i64 e2, .int .i64 e3]) (by simp [results, Try.results71, go_sem]) rfl ⟨rfl, (Kp.refl _).alloc _ _⟩
    · have HG1 : Hid (¬ X ≤ f) := g1
      have HG2 : Hid (¬ e ≤ X) := g2
      have hn2 : 0 + 1 < n := by
        rcases Nat.lt_or_ge 1 n with h | h
        · omega
        · exfalso
          have e1 : n - 1 = 0 := by omega
          have := HE0.out
          rw [e1, HF0.out] at this
          injection this with h1
          omega
      have HN2 : Hid (0 + 1 < n) := hn2
      clear hn2
      go_enter Try.func71, Try.ntmps71
      go_wp2
      clear q0 q1 q2 q3 q4 r0 r1 r2 r3 r4 g1 g2
      have HZ : Hid (Kp w (w.alloc (.cells #[.int .i64 0, .int .i64 0, .int .i64 0, .int .i64 0] 24))) := (Kp.refl _).alloc _ _
      have HQ : Hid (QB (w.alloc (.cells #[.int .i64 0, .int .i64 0, .int .i64 0, .int .i64 0] 24)) w.heap.size noE) := QB.new w noE _
      generalize (w.alloc (.cells #[.int .i64 0, .int .i64 0, .int .i64 0, .int .i64 0] 24)) = wz at *
      go_loop [7] (fun i => ∃ k : Nat, k + 1 < n ∧ i = .int .i64 (k : Int) ∧ (∀ j, j < k + 1 → (spAt l j).p ≤ X)) (fun i => n - (intOf i).toNat)
      case atStart =>
        refine ⟨0, HN2.out, rfl, fun j hj => ?_⟩
        obtain rfl : j = 0 := by omega
        have := HG1.out
        rw [HF0.out]
        show f ≤ X
        omega
      case round =>
        obtain ⟨k, hk, rfl, ha⟩ := hrel
        have HA : Hid _ := ha
        clear ha
        obtain ⟨p0, p1, p2, p3, p4⟩ := HC.out (k + 1) (by omega)
        obtain ⟨⟨E, ⟨u0, u1, u2, u3⟩⟩, hE⟩ : ∃ s, spAt l (k + 1) = s := ⟨_, rfl⟩
        have HE : Hid _ := hE
        rw [hE] at p0 p1 p2 p3 p4
        simp only at p0 p1 p2 p3 p4
        clear hE
        by_cases hle : E ≤ X
        · have hk2 : k + 1 + 1 < n := by
            rcases Nat.lt_or_ge (k + 1 + 1) n with h | h
            · exact h
            · exfalso
              have e1 : n - 1 = k + 1 := by omega
              have := HE0.out
              rw [e1, HE.out] at this
              injection this with h1
              have := HG2.out
              omega
          have HK2 : Hid (k + 1 + 1 < n) := hk2
          clear hk2
          go_wp2
          go_round
          case rel =>
            refine ⟨k + 1, HK2.out, by go_num, fun j hj => ?_⟩
            rcases Nat.lt_succ_iff_lt_or_eq.1 hj with h | h
            · exact HA.out j h
            · rw [h, HE.out]; exact hle
          case measure => simp [intOf]; omega
        · have HLE : Hid (¬ E ≤ X) := hle
          obtain ⟨q0, q1, q2, q3, q4⟩ := HC.out k (by omega)
          obtain ⟨⟨f', ⟨t0, t1, t2, t3⟩⟩, hF⟩ : ∃ s, spAt l k = s := ⟨_, rfl⟩
          have HF : Hid _ := hF
          rw [hF] at q0 q1 q2 q3 q4
          simp only at q0 q1 q2 q3 q4
          clear hF
          have hbz := World.block_lt_of_cell? wz ⟨b, _, none⟩ p0
          have NA := bcell (QBnw wz (.cells #[.int .i64 f', .int .i64 t0, .int .i64 t1, .int .i64 t2, .int .i64 t3] 106))
          have v0 := (NA.1 b _ hbz).trans p0
          have v1 := (NA.1 b _ hbz).trans p1
          have v2 := (NA.1 b _ hbz).trans p2
          have v3 := (NA.1 b _ hbz).trans p3
          have v4 := (NA.1 b _ hbz).trans p4
          clear NA hbz
          have HS : Hid (ok16 f' ∧ tnB ⟨t0, t1, t2, t3⟩ = true) := by have := spOk_some (HG.out k (by omega)); rw [HF.out] at this; exact this
          have HT : Hid (ok16 E ∧ tnB ⟨u0, u1, u2, u3⟩ = true) := by have := spOk_some (HG.out (k + 1) hk); rw [HE.out] at this; exact this
          have h16 : 0 ≤ f' ∧ f' ≤ 65536 := HS.out.1
          have k16 : 0 ≤ E ∧ E ≤ 65536 := HT.out.1
          go_wp2
          clear p0 p1 p2 p3 p4 q0 q1 q2 q3 q4 v0 v1 v2 v3 v4
          have hkk : rnK l X = k := rnK_of (by rw [HN.out]; exact hk) (fun i hi => HA.out (i + 1) (by omega)) (by rw [HE.out]; have := HLE.out; show ¬ E ≤ X; omega)
          have hfX : f' ≤ X := by have := HA.out k (by omega); rw [HF.out] at this; exact this
          have hEX : X < E := by have := HLE.out; omega
          have HV : Hid (rnT l X = ⟨lerp t0 u0 (E - X) (X - f') (E - f'), lerp t1 u1 (E - X) (X - f') (E - f'), lerp t2 u2 (E - X) (X - f') (E - f'), lerp t3 u3 (E - X) (X - f') (E - f')⟩) := by
            show _ = _
            unfold rnT
            rw [HF0.out, if_neg (show ¬ X ≤ f by have := HG1.out; omega), HN.out, HE0.out, if_neg (show ¬ e ≤ X by have := HG2.out; omega), hkk, HF.out, HE.out]
            rfl
          clear hkk
          obtain ⟨o0, o1, o2, o3⟩ := tnB_some HS.out.2
          obtain ⟨d0, d1, d2, d3⟩ := tnB_some HT.out.2
          simp only at o0 o1 o2 o3 d0 d1 d2 d3
          have hx : ok16 (E - X) := ⟨by omega, by omega⟩
          have hy : ok16 (X - f') := ⟨by omega, by omega⟩
          have hn : 1 ≤ E - f' := by omega
          have F0 := lerp_f o0 d0 hx hy hn
          have F1 := lerp_f o1 d1 hx hy hn
          have F2 := lerp_f o2 d2 hx hy hn
          have F3 := lerp_f o3 d3 hx hy hn
          clear hx hy o0 o1 o2 o3 d0 d1 d2 d3
          have NA : Nw wz (wz.alloc (.cells #[.int .i64 f', .int .i64 t0, .int .i64 t1, .int .i64 t2, .int .i64 t3] 106)) := QBnw _ _
          have NB : Nw (wz.alloc (.cells #[.int .i64 f', .int .i64 t0, .int .i64 t1, .int .i64 t2, .int .i64 t3] 106)) ((wz.alloc (.cells #[.int .i64 f', .int .i64 t0, .int .i64 t1, .int .i64 t2, .int .i64 t3] 106)).alloc (.cells #[.int .i64 E, .int .i64 u0, .int .i64 u1, .int .i64 u2, .int .i64 u3] 106)) := QBnw _ _
          have hsz : (wz.alloc (.cells #[.int .i64 f', .int .i64 t0, .int .i64 t1, .int .i64 t2, .int .i64 t3] 106)).heap.size = wz.heap.size + 1 := by simp
          have ca : ∀ o, ((wz.alloc (.cells #[.int .i64 f', .int .i64 t0, .int .i64 t1, .int .i64 t2, .int .i64 t3] 106)).alloc (.cells #[.int .i64 E, .int .i64 u0, .int .i64 u1, .int .i64 u2, .int .i64 u3] 106)).cell? ⟨wz.heap.size, o, none⟩ = (wz.alloc (.cells #[.int .i64 f', .int .i64 t0, .int .i64 t1, .int .i64 t2, .int .i64 t3] 106)).cell? ⟨wz.heap.size, o, none⟩ := fun o => (bcell NB).1 _ _ (by rw [hsz]; omega)
          have a1 := (ca 1).trans (show _ = some (.int .i64 t0) by simp)
          have a2 := (ca 2).trans (show _ = some (.int .i64 t1) by simp)
          have a3 := (ca 3).trans (show _ = some (.int .i64 t2) by simp)
          have a4 := (ca 4).trans (show _ = some (.int .i64 t3) by simp)
          have b1 : ((wz.alloc (.cells #[.int .i64 f', .int .i64 t0, .int .i64 t1, .int .i64 t2, .int .i64 t3] 106)).alloc (.cells #[.int .i64 E, .int .i64 u0, .int .i64 u1, .int .i64 u2, .int .i64 u3] 106)).cell? ⟨wz.heap.size + 1, 1, none⟩ = some (.int .i64 u0) := by rw [← hsz]; simp
          have b2 : ((wz.alloc (.cells #[.int .i64 f', .int .i64 t0, .int .i64 t1, .int .i64 t2, .int .i64 t3] 106)).alloc (.cells #[.int .i64 E, .int .i64 u0, .int .i64 u1, .int .i64 u2, .int .i64 u3] 106)).cell? ⟨wz.heap.size + 1, 2, none⟩ = some (.int .i64 u1) := by rw [← hsz]; simp
          have b3 : ((wz.alloc (.cells #[.int .i64 f', .int .i64 t0, .int .i64 t1, .int .i64 t2, .int .i64 t3] 106)).alloc (.cells #[.int .i64 E, .int .i64 u0, .int .i64 u1, .int .i64 u2, .int .i64 u3] 106)).cell? ⟨wz.heap.size + 1, 3, none⟩ = some (.int .i64 u2) := by rw [← hsz]; simp
          have b4 : ((wz.alloc (.cells #[.int .i64 f', .int .i64 t0, .int .i64 t1, .int .i64 t2, .int .i64 t3] 106)).alloc (.cells #[.int .i64 E, .int .i64 u0, .int .i64 u1, .int .i64 u2, .int .i64 u3] 106)).cell? ⟨wz.heap.size + 1, 4, none⟩ = some (.int .i64 u3) := by rw [← hsz]; simp
          have KW : Kp wz ((wz.alloc (.cells #[.int .i64 f', .int .i64 t0, .int .i64 t1, .int .i64 t2, .int .i64 t3] 106)).alloc (.cells #[.int .i64 E, .int .i64 u0, .int .i64 u1, .int .i64 u2, .int .i64 u3] 106)) := ((Kp.refl _).alloc _ _).alloc _ _
          clear NA NB ca hsz
          generalize ((wz.alloc (.cells #[.int .i64 f', .int .i64 t0, .int .i64 t1, .int .i64 t2, .int .i64 t3] 106)).alloc (.cells #[.int .i64 E, .int .i64 u0, .int .i64 u1, .int .i64 u2, .int .i64 u3] 106)) = W at *
          have HKW : Hid (Kp wz W) := KW
          have hzw : wz.heap.size + 1 < W.heap.size := World.block_lt_of_cell? W ⟨_, _, none⟩ b1
          have D := ((Kp.refl W).drew).cells.1
          replace a1 := (D _ _ (by omega)).trans a1
          replace a2 := (D _ _ (by omega)).trans a2
          replace a3 := (D _ _ (by omega)).trans a3
          replace a4 := (D _ _ (by omega)).trans a4
          replace b1 := (D _ _ hzw).trans b1
          replace b2 := (D _ _ hzw).trans b2
          replace b3 := (D _ _ hzw).trans b3
          replace b4 := (D _ _ hzw).trans b4
          clear KW D hzw
          obtain ⟨z0, z1, z2, z3, zf⟩ := QB.nw HQ.out (HKW.out.drew).nw
          refine reg_change (ops' := opsOf 24 Try.f71) (by kernel_rfl) ?_
          refine RN.run ⟨wz.heap.size, wz.heap.size + 1, w.heap.size, E - X, X - f', E - f', t0, t1, t2, t3, u0, u1, u2, u3, W.drew, _⟩ ⟨a1, a2, a3, a4, b1, b2, b3, b4, F0, F1, F2, F3, by show ¬ E - f' = 0; omega, ⟨_, z0⟩, ⟨_, z1⟩, ⟨_, z2⟩, ⟨_, z3⟩, zf, rfl, rfl, rfl, rfl, rfl, rfl, rfl⟩ W (Kp.refl _) ?_
          rintro γ w9 ⟨w8, k8, hw9⟩
          simp only at k8 hw9
          clear a1 a2 a3 a4 b1 b2 b3 b4 F0 F1 F2 F3 z0 z1 z2 z3 zf hfX hEX hn h16 k16
          have K8 : Hid (Kp wz w8) := Kp.trans HKW.out.drew k8
          clear k8
          simp only [Act.put, List.setIfInBounds_toArray, List.set_cons_zero, List.set_cons_succ]
          clear γ
          generalize lerp t0 u0 (E - X) (X - f') (E - f') = L0 at *
          generalize lerp t1 u1 (E - X) (X - f') (E - f') = L1 at *
          generalize lerp t2 u2 (E - X) (X - f') (E - f') = L2 at *
          generalize lerp t3 u3 (E - X) (X - f') (E - f') = L3 at *
          obtain ⟨z0, z1, z2, z3, zf⟩ := QB.nw HQ.out K8.out.nw
          obtain ⟨y0, y1, y2, y3⟩ := set4 w8 w.heap.size (.int .i64 L0) (.int .i64 L1) (.int .i64 L2) (.int .i64 L3) z0 z1 z2 z3
          clear z0 z1 z2 z3 zf
          have K9 : Hid (Kp w w9) := by
            show Kp w w9
            rw [hw9]
            exact ((((Kp.trans HZ.out K8.out).setCell (Nat.le_refl _) _).setCell (Nat.le_refl _) _).setCell (Nat.le_refl _) _).setCell (Nat.le_refl _) _
          rw [← hw9] at y0 y1 y2 y3
          clear hw9
          go_wp2
          refine bodyPost_ret (v := .agg #[.int .i64 L0, .int .i64 L1, .int .i64 L2, .int .i64 L3]) (by simp [results, Try.results71, go_sem, y0, y1, y2, y3]) rfl ⟨?_, K9.out⟩
          rw [HV.out]
theorem srun (w : World) (a : Option Addr) (c : Nat) (l : List Stp) (x s : Int) (hg : sgB l = true) (hx : -1099511627776 ≤ x ∧ x ≤ 1099511627776) (hs : 1 ≤ s ∧ s ≤ 3) (hr : Stps w a l) :
    Calls Try.prog 71 #[.slice a l.length c, .int .i64 x, .int .i64 s] w fun e w' => e = .returned (edV (rnT l (rnA x s))) ∧ Kp w w' := by
  have hbd := rnA_bd x s
  unfold rnA at hbd ⊢
  by_cases s2 : s = 2
  · subst s2
    rw [if_pos rfl] at hbd ⊢
    exact srun2 w a c l x _ hg hx hr hbd rfl
  · rw [if_neg s2] at hbd ⊢
    by_cases s3 : s = 3
    · subst s3
      rw [if_pos rfl] at hbd ⊢
      by_cases h : 65536 ≤ x % 131072
      · rw [if_pos h] at hbd ⊢
        exact srun3a w a c l x _ hg hx hr hbd _ rfl h (by omega) rfl
      · rw [if_neg h] at hbd ⊢
        exact srun3b w a c l x _ hg hx hr hbd rfl (by omega)
    · rw [if_neg s3] at hbd ⊢
      obtain rfl : s = 1 := by omega
      by_cases h : x < 0
      · rw [if_pos h] at hbd ⊢
        exact srun1a w a c l x _ hg hx hr hbd h rfl
      · rw [if_neg h] at hbd ⊢
        by_cases k : 65536 < x
        · rw [if_pos k] at hbd ⊢
          exact srun1b w a c l x _ hg hx hr hbd k rfl
        · rw [if_neg k] at hbd ⊢
          exact srun1c w a c l x _ hg hx hr hbd rfl
end Go.Proofs.Ythlohbiocfeapaa
