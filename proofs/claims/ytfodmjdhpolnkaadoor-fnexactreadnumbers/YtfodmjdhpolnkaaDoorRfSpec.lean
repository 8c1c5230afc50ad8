/-
  What the specification's ReadFixed answers, for texts of at most 1048576 bytes.
-/
import Derived.Test.YtfodmjdhpolnkaaDoorRfDecBase
namespace Go.Proofs.YtfodmjdhpolnkaaDoor
open Go.ChangeShapes Go.WideShapes Go.ChangeAt Go.RowKit

/-- What ReadFixed makes of what l1Decimal answers. -/
def resOf (n x : Int) (sz : Nat) : Int × Bool := if n = 0 ∨ n < sz then (0, false) else (x, true)

set_option maxHeartbeats 400000 in
theorem sread_of (s : ByteArray) (w : World) (r : Int × Bool)
    (h : ∀ w, Calls Tryd.prog 29 #[.string s] w fun e w' => ∃ n x : Int, e = .returned (.tuple #[.int .i64 n, .int .i64 x]) ∧ w' = w ∧ resOf n x s.size = r) :
    Calls Tryd.prog 70 #[.string s] w fun e w' => e = .returned (.tuple #[.int .i64 r.1, .bool r.2]) ∧ w' = w := by
  have H : Hid _ := h
  clear h
  go_enter Tryd.func70, Tryd.ntmps70
  go_wp2_with fail
  refine (H.out _).mono ?_
  rintro e w1 ⟨n, x, rfl, rfl, hr⟩
  have HR : Hid _ := hr
  clear hr
  by_cases h0 : n = 0
  · subst h0
    have HE : Hid (r = (0, false)) := by show _ = _; rw [← HR.out]; unfold resOf; rw [if_pos (Or.inl rfl)]
    go_wp2
    go_ret2
    exact ⟨by rw [HE.out]; rfl, rfl⟩
  · have z : (n == 0) = false := by rw [beq_eq_false_iff_ne]; exact h0
    by_cases hl : n < s.size
    · have HE : Hid (r = (0, false)) := by show _ = _; rw [← HR.out]; unfold resOf; rw [if_pos (Or.inr hl)]
      clear h0
      go_wp2
      go_ret2
      exact ⟨by rw [HE.out]; rfl, rfl⟩
    · have HE : Hid (r = (x, true)) := by show _ = _; rw [← HR.out]; unfold resOf; rw [if_neg (by omega)]
      have dl : decide (n < (s.size : Int)) = false := by simp; omega
      clear h0
      go_wp2
      go_ret2
      exact ⟨by rw [HE.out]; rfl, rfl⟩

theorem get_of (s : ByteArray) (l1 : List UInt8) (c : UInt8) (l2 : List UInt8) (h : s.data.toList = l1 ++ c :: l2) (k : Nat) (hk : k = l1.length) (hlt : k < s.size) : s[k] = c := by
  subst hk
  have e : s[l1.length] = s.data.toList[l1.length]'(by simpa using hlt) := rfl
  rw [e]
  simp [h]
theorem digs_of (s : ByteArray) (l1 a l2 : List UInt8) (h : s.data.toList = l1 ++ (a ++ l2)) (ha : allD a = true) (p e : Nat) (hp : p = l1.length) (he : e = l1.length + a.length) : Digs s p e := by
  intro k hk h1 h2
  have e1 : s[k] = s.data.toList[k]'(by simpa using hk) := rfl
  have e2 : s.data.toList[k]'(by simpa using hk) = a[k - l1.length]'(by omega) := by
    simp only [h]
    rw [List.getElem_append_right (by omega), List.getElem_append_left (by omega)]
  rw [e1, e2]
  unfold allD at ha
  exact List.all_eq_true.1 ha _ (List.getElem_mem _)
theorem nk_num (s : ByteArray) (l1 a l2 : List UInt8) (h : s.data.toList = l1 ++ (a ++ l2)) (p m k : Nat) (hp : p = l1.length) (hk : k = l1.length + a.length) (hm : a.length ≤ m) : nk s p m k = num a := by
  unfold nk
  rw [h, hp, List.drop_left, show min (k - l1.length) m = a.length by omega, List.take_left]
theorem size_of (s : ByteArray) (l : List UInt8) (h : s.data.toList = l) : s.size = l.length := by rw [← h]; simp

/-- What l1Decimal answers, as its four kinds of texts say it. -/
def Dec (s : ByteArray) (w : World) (Q : Int → Int → Prop) : Prop := Calls Tryd.prog 29 #[.string s] w fun e w' => ∃ n x : Int, e = .returned (.tuple #[.int .i64 n, .int .i64 x]) ∧ w' = w ∧ Q n x
theorem Dec.mono {s : ByteArray} {w : World} {Q R : Int → Int → Prop} (h : Dec s w Q) (hr : ∀ n x, Q n x → R n x) : Dec s w R :=
  Calls.mono h fun _ _ ⟨n, x, h1, h2, h3⟩ => ⟨n, x, h1, h2, hr n x h3⟩

theorem res_bad (s : ByteArray) (n x : Int) (h : PB s n x) : resOf n x s.size = (0, false) := by
  unfold resOf; rw [if_pos (Or.inr h.1)]
theorem fin_ok (σ N : Int) (h : okFix (fixOf σ N) = true) : fin σ N = (fixOf σ N, true) := by unfold fin; rw [if_pos h]
theorem fin_bad (σ N : Int) (h : okFix (fixOf σ N) = false) : fin σ N = (0, false) := by unfold fin; rw [if_neg (by rw [h]; decide)]

theorem dec_gen (s : ByteArray) (p : Nat) (σ : Int) (pre lr : List UInt8) (hp : p = pre.length) (hl : s.data.toList = pre ++ lr)
    (dA : ∀ (i : Nat) (w : World), i + p ≤ s.size → s.size ≤ i + p → Digs s p s.size → Dec s w (PA s p σ i))
    (dB : ∀ (e1 i : Nat) (w : World), i + p ≤ e1 → e1 ≤ i + p → ∀ he : e1 < s.size, isD s[e1] = false → Digs s p e1 → (∀ h : e1 + 1 < s.size, (s[e1].toNat : Int) = 46 → isD s[e1 + 1] = false) → Dec s w (PB s))
    (dC : ∀ (e1 i j : Nat) (w : World), i + p ≤ e1 → e1 ≤ i + p → ∀ he : e1 < s.size, isD s[e1] = false → Digs s p e1 → (s[e1].toNat : Int) = 46 → e1 + 1 < s.size → j + (e1 + 1) ≤ s.size → s.size ≤ j + (e1 + 1) → Digs s (e1 + 1) s.size → Dec s w (PC s p σ e1 i j))
    (dD : ∀ (e1 e2 i j : Nat) (w : World), i + p ≤ e1 → e1 ≤ i + p → ∀ he : e1 < s.size, isD s[e1] = false → Digs s p e1 → (s[e1].toNat : Int) = 46 → e1 + 1 < e2 → j + (e1 + 1) ≤ e2 → e2 ≤ j + (e1 + 1) → Digs s (e1 + 1) e2 → ∀ he3 : e2 < s.size, isD s[e2] = false → Dec s w (PB s))
    (w : World) : Dec s w (fun n x => resOf n x s.size = rf σ lr) := by
  obtain ⟨a, t, hat, ha, ht⟩ := parts lr
  subst hat
  have hsz := size_of s _ hl
  rw [List.length_append, List.length_append] at hsz
  rcases ht with rfl | ⟨c, b, rfl, hc⟩
  · rw [List.length_nil] at hsz
    refine (dA a.length w (by omega) (by omega) (digs_of s pre a [] hl ha p s.size hp (by omega))).mono fun n x h => ?_
    rw [List.append_nil, rf_all σ a ha]
    have e0 : a.length ≤ 8 → nk s p 9 s.size * p6 0 = num a * 1000000 := fun h8 => by rw [nk_num s pre a [] hl p 9 s.size hp (by omega) (by omega)]; rfl
    rcases h with ⟨hn, h⟩ | ⟨hv, h1, hn, hx⟩
    · unfold resOf
      rw [if_pos (Or.inl hn)]
      by_cases hv : 1 ≤ a.length ∧ a.length ≤ 8
      · have h1 := h hv
        rw [e0 hv.2] at h1
        rw [if_pos hv, fin_bad _ _ h1]
      · rw [if_neg hv]
    · rw [e0 hv.2] at h1 hx
      rw [if_pos hv, fin_ok _ _ h1]
      unfold resOf
      rw [if_neg (by omega), hx]
  · have hsz2 : s.size = p + a.length + (b.length + 1) := by rw [hsz, List.length_cons, hp]; omega
    have hl2 : s.data.toList = (pre ++ a) ++ c :: b := by rw [hl, List.append_assoc]
    have he : p + a.length < s.size := by omega
    have g1 : s[p + a.length] = c := get_of s (pre ++ a) c b hl2 _ (by rw [List.length_append, hp]) he
    have hd1 := digs_of s pre a (c :: b) hl ha p (p + a.length) hp (by omega)
    rw [rf_split σ a c b ha hc]
    by_cases hC : c = 46 ∧ ∃ d b', b = d :: b' ∧ isD d = true
    · obtain ⟨rfl, d, b', hb, hdd⟩ := hC
      obtain ⟨f, u, hfu, hf, hu⟩ := parts b
      have hf1 : 1 ≤ f.length := by
        match f, hfu with
        | [], hfu =>
          rcases hu with rfl | ⟨c2, b2, rfl, hc2⟩
          · rw [hb] at hfu; simp at hfu
          · rw [hb] at hfu; simp at hfu; rw [hfu.1, hc2] at hdd; cases hdd
        | _ :: _, _ => simp
      have hbl : b.length = f.length + u.length := by rw [hfu, List.length_append]
      have hl3 : s.data.toList = (pre ++ a ++ [46]) ++ (f ++ u) := by rw [hl2, hfu]; simp
      have hq : p + a.length + 1 = (pre ++ a ++ [46]).length := by simp; omega
      rcases hu with rfl | ⟨c2, b2, rfl, hc2⟩
      · rw [List.length_nil] at hbl
        have hbf : b = f := by rw [hfu, List.append_nil]
        refine (dC (p + a.length) a.length f.length w (by omega) (by omega) he (by rw [g1]; exact hc) hd1 (by rw [g1]; rfl) (by omega) (by omega) (by omega) (digs_of s _ f [] hl3 hf (p + a.length + 1) s.size hq (by omega))).mono fun n x h => ?_
        rw [hbf]
        have e0 : a.length ≤ 8 → f.length ≤ 6 → mm s (p + a.length + 1) (nk s p 9 (p + a.length)) s.size * p6 f.length = num a * 1000000 + num f * 10 ^ (6 - f.length) := fun h8 h6 => by
          rw [mm_ten s _ s.size f.length _ (by omega) (by omega) h6, nk_num s pre a (46 :: b) hl p 9 (p + a.length) hp (by omega) (by omega), nk_num s _ f [] hl3 (p + a.length + 1) 6 s.size hq (by omega) h6]
          rfl
        rcases h with ⟨hn, h⟩ | ⟨hv, h1, hn, hx⟩
        · unfold resOf
          rw [if_pos (Or.inl hn)]
          by_cases hv : 1 ≤ a.length + f.length ∧ a.length ≤ 8 ∧ f.length ≤ 6
          · have h1 := h hv
            rw [e0 hv.2.1 hv.2.2] at h1
            rw [if_pos ⟨rfl, hf, hf1, hv.2.2, hv.2.1⟩, fin_bad _ _ h1]
          · rw [if_neg (by omega)]
        · rw [e0 hv.2.1 hv.2.2] at h1 hx
          rw [if_pos ⟨rfl, hf, hf1, hv.2.2, hv.2.1⟩, fin_ok _ _ h1]
          unfold resOf
          rw [if_neg (by omega), hx]
      · rw [List.length_cons] at hbl
        have hl4 : s.data.toList = (pre ++ a ++ [46] ++ f) ++ c2 :: b2 := by rw [hl3]; simp
        have he2 : p + a.length + 1 + f.length < s.size := by omega
        have g2 : s[p + a.length + 1 + f.length] = c2 := get_of s _ c2 b2 hl4 _ (by simp; omega) he2
        refine (dD (p + a.length) (p + a.length + 1 + f.length) a.length f.length w (by omega) (by omega) he (by rw [g1]; exact hc) hd1 (by rw [g1]; rfl) (by omega) (by omega) (by omega) (digs_of s _ f (c2 :: b2) hl3 hf (p + a.length + 1) _ hq (by omega)) he2 (by rw [g2]; exact hc2)).mono fun n x h => ?_
        rw [res_bad s n x h, if_neg]
        intro hh
        have h5 := hh.2.1
        unfold allD at h5
        rw [hfu, List.all_append] at h5
        simp [hc2] at h5
    · refine (dB (p + a.length) a.length w (by omega) (by omega) he (by rw [g1]; exact hc) hd1 (fun h h46 => ?_)).mono fun n x h => ?_
      · rw [g1] at h46
        have hc46 : c = 46 := by
          apply UInt8.toNat_inj.1
          have : ((46 : UInt8).toNat : Int) = 46 := rfl
          omega
        match b, hl2 with
        | [], _ => simp at hsz2; omega
        | d :: b', hl2 =>
          have g3 : s[p + a.length + 1] = d := get_of s (pre ++ a ++ [c]) d b' (by rw [hl2]; simp) _ (by simp; omega) h
          rw [g3]
          cases hdd : isD d with
          | false => rfl
          | true => exact absurd ⟨hc46, d, b', rfl, hdd⟩ hC
      · rw [res_bad s n x h, if_neg]
        intro hh
        apply hC
        refine ⟨hh.1, ?_⟩
        match b, hh with
        | [], hh => simp at hh
        | d :: b', hh =>
          refine ⟨d, b', rfl, ?_⟩
          have h5 := hh.2.1
          unfold allD at h5
          simp only [List.all_cons, Bool.and_eq_true] at h5
          exact h5.1
end Go.Proofs.YtfodmjdhpolnkaaDoor
