/-
  What is laid over is a tint, a full one hides what is under it, an empty one does not, a run of tints is a tint: pure facts; each theorem names its conditions.
-/
import Derived.Test.YthlohbiocfeapaaRnK
namespace Go.Proofs.Ythlohbiocfeapaa
open Go.ChangeShapes Go.WideShapes Go.ChangeAt Go.RowKit
set_option linter.unusedVariables false

theorem tnB_of {t : Edg} (h : 0 ≤ t.ax ∧ t.ax ≤ t.cy ∧ 0 ≤ t.ay ∧ t.ay ≤ t.cy ∧ 0 ≤ t.bx ∧ t.bx ≤ t.cy ∧ 0 ≤ t.cy ∧ t.cy ≤ 255) : tnB t = true := by
  unfold tnB inN
  simp only [Bool.and_eq_true, decide_eq_true_eq]
  omega
theorem tnB_le {t : Edg} (h : tnB t = true) : 0 ≤ t.ax ∧ t.ax ≤ t.cy ∧ 0 ≤ t.ay ∧ t.ay ≤ t.cy ∧ 0 ≤ t.bx ∧ t.bx ≤ t.cy ∧ 0 ≤ t.cy ∧ t.cy ≤ 255 := by
  unfold tnB inN at h
  simp only [Bool.and_eq_true, decide_eq_true_eq] at h
  omega
theorem over_mono {u v m : Int} (h : u ≤ v) (hm : 0 ≤ m) : (u * m + 127) / 255 ≤ (v * m + 127) / 255 := by
  have := Int.mul_le_mul_of_nonneg_right h hm
  omega
theorem over_nn {u m : Int} (h : 0 ≤ u) (hm : 0 ≤ m) : 0 ≤ (u * m + 127) / 255 := by
  have := Int.mul_nonneg h hm
  omega
theorem over_good {t u : Edg} (ht : tnB t = true) (hu : tnB u = true) : tnB (overT t u) = true := by
  obtain ⟨a1, a2, a3, a4, a5, a6, a7, a8⟩ := tnB_le ht
  obtain ⟨b1, b2, b3, b4, b5, b6, b7, b8⟩ := tnB_le hu
  have hm : 0 ≤ 255 - t.cy := by omega
  have e1 := over_mono b2 hm
  have e2 := over_mono b4 hm
  have e3 := over_mono b6 hm
  have e4 := over_mono b8 hm
  have e5 : ((255 : Int) * (255 - t.cy) + 127) / 255 = 255 - t.cy := by omega
  rw [e5] at e4
  have n1 := over_nn b1 hm
  have n2 := over_nn b3 hm
  have n3 := over_nn b5 hm
  have n4 := over_nn b7 hm
  apply tnB_of
  unfold overT overC
  simp only
  generalize (u.ax * (255 - t.cy) + 127) / 255 = y1 at *
  generalize (u.ay * (255 - t.cy) + 127) / 255 = y2 at *
  generalize (u.bx * (255 - t.cy) + 127) / 255 = y3 at *
  generalize (u.cy * (255 - t.cy) + 127) / 255 = y4 at *
  omega
theorem over_full {t u : Edg} (h : t.cy = 255) : overT t u = t := by
  obtain ⟨r, g, b, a⟩ := t
  simp only at h
  subst h
  unfold overT overC
  simp
theorem over_empty {t u : Edg} (ht : tnB t = true) (h : t.cy = 0) : overT t u = u := by
  obtain ⟨a1, a2, a3, a4, a5, a6, a7, a8⟩ := tnB_le ht
  obtain ⟨r, g, b, a⟩ := t
  obtain ⟨x, y, z, v⟩ := u
  simp only at *
  have e1 : r = 0 := by omega
  have e2 : g = 0 := by omega
  have e3 : b = 0 := by omega
  subst h e1 e2 e3
  have e : ∀ q : Int, 0 + (q * (255 - 0) + 127) / 255 = q := fun q => by omega
  unfold overT overC
  simp only [e]
theorem least_at (f : Nat → Bool) : ∀ n, f n = false → ∃ k, k ≤ n ∧ (∀ i, i < k → f i = true) ∧ f k = false
  | 0, h => ⟨0, Nat.le_refl _, fun i hi => absurd hi (by omega), h⟩
  | n + 1, h => by
    by_cases h2 : ∃ m, m ≤ n ∧ f m = false
    · obtain ⟨m, hm, hf⟩ := h2
      obtain ⟨k, h3, h4, h5⟩ := least_below f n m hm hf
      exact ⟨k, by omega, h4, h5⟩
    · refine ⟨n + 1, Nat.le_refl _, fun i hi => ?_, h⟩
      cases e : f i with
      | true => rfl
      | false => exact absurd ⟨i, by omega, e⟩ h2
where
  least_below (f : Nat → Bool) : ∀ n m, m ≤ n → f m = false → ∃ k, k ≤ n ∧ (∀ i, i < k → f i = true) ∧ f k = false
    | 0, m, hm, hf => ⟨0, Nat.le_refl _, fun i hi => absurd hi (by omega), by rw [show (0 : Nat) = m by omega]; exact hf⟩
    | n + 1, m, hm, hf => by
      by_cases h2 : ∃ q, q ≤ n ∧ f q = false
      · obtain ⟨q, hq, hfq⟩ := h2
        obtain ⟨k, h3, h4, h5⟩ := least_below f n q hq hfq
        exact ⟨k, by omega, h4, h5⟩
      · refine ⟨n + 1, Nat.le_refl _, fun i hi => ?_, ?_⟩
        · cases e : f i with
          | true => rfl
          | false => exact absurd ⟨i, by omega, e⟩ h2
        · have : m = n + 1 := by
            by_cases hmn : m ≤ n
            · exact absurd ⟨m, hmn, hf⟩ h2
            · omega
          rw [← this]; exact hf
theorem lerp_le {a b c d x y n : Int} (h1 : a ≤ c) (h2 : b ≤ d) (hx : 0 ≤ x) (hy : 0 ≤ y) (hn : 0 < n) : lerp a b x y n ≤ lerp c d x y n := by
  unfold lerp
  have e1 := Int.mul_le_mul_of_nonneg_right h1 hx
  have e2 := Int.mul_le_mul_of_nonneg_right h2 hy
  exact Int.ediv_le_ediv hn (by omega)
theorem lerp_nn {a b x y n : Int} (h1 : 0 ≤ a) (h2 : 0 ≤ b) (hx : 0 ≤ x) (hy : 0 ≤ y) (hn : 0 < n) : 0 ≤ lerp a b x y n := by
  unfold lerp
  have e1 := Int.mul_nonneg h1 hx
  have e2 := Int.mul_nonneg h2 hy
  exact Int.ediv_nonneg (by omega) (by omega)
theorem lerp_255 {x y n : Int} (h : x + y = n) (hn : 0 < n) : lerp 255 255 x y n = 255 := by
  unfold lerp
  rw [← Int.mul_add, h]
  exact Int.mul_ediv_cancel _ (by omega)
theorem mix_good {s t : Stp} {x : Int} (hs : tnB s.t = true) (ht : tnB t.t = true) (h1 : s.p ≤ x) (h2 : x < t.p) : tnB (mixT s t x) = true := by
  obtain ⟨a1, a2, a3, a4, a5, a6, a7, a8⟩ := tnB_le hs
  obtain ⟨b1, b2, b3, b4, b5, b6, b7, b8⟩ := tnB_le ht
  have hx : 0 ≤ t.p - x := by omega
  have hy : 0 ≤ x - s.p := by omega
  have hn : 0 < t.p - s.p := by omega
  have e := lerp_le a8 b8 hx hy hn
  rw [lerp_255 (by omega) hn] at e
  exact tnB_of ⟨lerp_nn a1 b1 hx hy hn, lerp_le a2 b2 hx hy hn, lerp_nn a3 b3 hx hy hn, lerp_le a4 b4 hx hy hn, lerp_nn a5 b5 hx hy hn, lerp_le a6 b6 hx hy hn, lerp_nn a7 b7 hx hy hn, e⟩
theorem run_good {l : List Stp} (hg : sgB l = true) (x : Int) : tnB (rnT l x) = true := by
  have hall : ∀ k, k < l.length → spOk l k = true := fun k hk => sgB_at hg k hk
  have hlen : 1 ≤ l.length := by
    unfold sgB at hg
    rw [Bool.and_eq_true] at hg
    have := hg.1
    unfold inN at this
    simp at this
    omega
  have hok : ∀ k, k < l.length → tnB (spAt l k).t = true := fun k hk => (spOk_some (hall k hk)).2
  by_cases h0 : x ≤ (spAt l 0).p
  · rw [rnT_first h0]; exact hok 0 (by omega)
  · by_cases h1 : (spAt l (l.length - 1)).p ≤ x
    · rw [rnT_last h0 h1]; exact hok _ (by omega)
    · have h2 : 2 ≤ l.length := by
        by_cases h : l.length = 1
        · rw [h] at h1; simp at h1; omega
        · omega
      obtain ⟨k, hk, hb, hn⟩ := least_at (fun i => decide ((spAt l (i + 1)).p ≤ x)) (l.length - 2) (by
        rw [show l.length - 2 + 1 = l.length - 1 by omega]
        exact decide_eq_false h1)
      have hb' : ∀ i, i < k → (spAt l (i + 1)).p ≤ x := fun i hi => by simpa using hb i hi
      have hn' : x < (spAt l (k + 1)).p := by simpa using hn
      rw [rnT_mid hall h0 (by omega) hb' hn']
      refine mix_good (hok k (by omega)) (hok (k + 1) (by omega)) ?_ hn'
      by_cases hk0 : k = 0
      · rw [hk0]; omega
      · have := hb' (k - 1) (by omega)
        rw [show k - 1 + 1 = k by omega] at this
        exact this
theorem ruV_good {l : List Stp} {x s : Int} (h : ruB l x s = true) : tnB (ruV l x s) = true := by
  unfold ruV
  rw [if_pos h]
  unfold ruB at h
  rw [Bool.and_eq_true] at h
  exact run_good h.1 _
end Go.Proofs.Ythlohbiocfeapaa
