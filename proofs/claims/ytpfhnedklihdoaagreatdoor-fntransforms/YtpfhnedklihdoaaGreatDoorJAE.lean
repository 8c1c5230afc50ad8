/-
  Plain facts on a text that is read byte by byte: the number of its first digits, and what a reader of fixed numbers answers; no condition.
  What the program's ReadFixed answers, for texts of at most 1048576 bytes.
  Small facts for the walk through the specification's l1Decimal; each theorem names its conditions.
  What the specification's ReadFixed answers, for texts of at most 1048576 bytes.
-/
import Derived.Test.YtpfhnedklihdoaaGreatDoorJAD
namespace Go.Proofs.YtpfhnedklihdoaaGreatDoor

/-- The number of at most m digits from p up to k. -/
def nk (s : ByteArray) (p m k : Nat) : Int := num ((s.data.toList.drop p).take (min (k - p) m))

theorem nk_start (s : ByteArray) (p m : Nat) : nk s p m p = 0 := by unfold nk; rw [Nat.sub_self, Nat.zero_min]; rfl
theorem nk_more (s : ByteArray) (p m k : Nat) (hp : p ≤ k) (h : k < s.size) (hm : k - p < m) : nk s p m (k + 1) = nk s p m k * 10 + ((s[k].toNat : Int) - 48) := by
  unfold nk
  have e1 : min (k + 1 - p) m = (k - p) + 1 := by omega
  have e2 : min (k - p) m = k - p := by omega
  have hl : s.data.toList.length = s.size := by simp
  rw [e1, e2, List.take_succ_eq_append_getElem (by rw [List.length_drop]; omega), num_snoc, List.getElem_drop]
  have e3 : s.data.toList[p + (k - p)]'(by omega) = s[k] := by
    have : p + (k - p) = k := by omega
    simp only [this]; rfl
  rw [e3]
theorem nk_same (s : ByteArray) (p m k : Nat) (hm : ¬ k - p < m) : nk s p m (k + 1) = nk s p m k := by
  unfold nk
  rw [show min (k + 1 - p) m = m by omega, show min (k - p) m = m by omega]
/-- All bytes from p up to e are digits. -/
def Digs (s : ByteArray) (p e : Nat) : Prop := ∀ k (h : k < s.size), p ≤ k → k < e → isD s[k] = true
theorem nk_bd (s : ByteArray) (p m k e : Nat) (hd : Digs s p e) (hk : k ≤ e) : 0 ≤ nk s p m k ∧ nk s p m k < 10 ^ (min (k - p) m) := by
  have h1 := num_bd ((s.data.toList.drop p).take (min (k - p) m)) (by
    rw [List.all_eq_true]
    intro x hx
    obtain ⟨i, hi, rfl⟩ := List.getElem_of_mem hx
    have hl : s.data.toList.length = s.size := by simp
    rw [List.length_take, List.length_drop] at hi
    rw [List.getElem_take, List.getElem_drop]
    exact hd (p + i) (by omega) (by omega) (by omega))
  have h2 : ((s.data.toList.drop p).take (min (k - p) m)).length ≤ min (k - p) m := List.length_take_le _ _
  have h3 : (10 : Int) ^ ((s.data.toList.drop p).take (min (k - p) m)).length ≤ 10 ^ (min (k - p) m) := by
    have := Nat.pow_le_pow_right (n := 10) (by omega) h2
    exact_mod_cast this
  unfold nk
  omega
theorem pow_le (a b : Nat) (h : a ≤ b) : (10 : Int) ^ a ≤ 10 ^ b := by
  have := Nat.pow_le_pow_right (n := 10) (by omega) h
  exact_mod_cast this

/-- So many tens. -/
def p6 (j : Nat) : Int := 10 ^ (6 - j)
theorem p6_pos (j : Nat) : 1 ≤ p6 j := by have := pow_pos10 (6 - j); unfold p6; omega
theorem p6_step (j : Nat) (h : j < 6) : p6 j = 10 * p6 (j + 1) := by
  unfold p6
  rw [show 6 - j = (6 - (j + 1)) + 1 by omega, Int.pow_succ]; omega
theorem p6_six : p6 6 = 1 := rfl

/-- What a reader of fixed numbers answers: of what stands behind the sign. -/
def rf (σ : Int) (l : List UInt8) : Int × Bool :=
  match l.dropWhile isD with
  | [] => if 1 ≤ l.length ∧ l.length ≤ 8 then fin σ (num l * 1000000) else (0, false)
  | c :: b => if c = 46 ∧ allD b = true ∧ 1 ≤ b.length ∧ b.length ≤ 6 ∧ (l.takeWhile isD).length ≤ 8 then fin σ (num (l.takeWhile isD) * 1000000 + num b * 10 ^ (6 - b.length)) else (0, false)

theorem dw_split (a : List UInt8) (c : UInt8) (b : List UInt8) (ha : allD a = true) (hc : isD c = false) : (a ++ c :: b).dropWhile isD = c :: b ∧ (a ++ c :: b).takeWhile isD = a := by
  induction a with
  | nil => simp [hc]
  | cons x a ih =>
    unfold allD at ha
    simp only [List.all_cons, Bool.and_eq_true] at ha
    have h := ih ha.2
    simp [ha.1, h.1, h.2]
theorem dw_all (a : List UInt8) (ha : allD a = true) : a.dropWhile isD = [] := by
  induction a with
  | nil => rfl
  | cons x a ih =>
    unfold allD at ha
    simp only [List.all_cons, Bool.and_eq_true] at ha
    simp [ha.1, ih ha.2]
theorem rf_all (σ : Int) (a : List UInt8) (ha : allD a = true) : rf σ a = if 1 ≤ a.length ∧ a.length ≤ 8 then fin σ (num a * 1000000) else (0, false) := by
  unfold rf; rw [dw_all a ha]
theorem rf_split (σ : Int) (a : List UInt8) (c : UInt8) (b : List UInt8) (ha : allD a = true) (hc : isD c = false) :
    rf σ (a ++ c :: b) = if c = 46 ∧ allD b = true ∧ 1 ≤ b.length ∧ b.length ≤ 6 ∧ a.length ≤ 8 then fin σ (num a * 1000000 + num b * 10 ^ (6 - b.length)) else (0, false) := by
  unfold rf; rw [(dw_split a c b ha hc).1, (dw_split a c b ha hc).2]
/-- Every text is digits and then nothing or a byte that is none. -/
theorem parts (l : List UInt8) : ∃ a t, l = a ++ t ∧ allD a = true ∧ (t = [] ∨ ∃ c b, t = c :: b ∧ isD c = false) := by
  induction l with
  | nil => exact ⟨[], [], rfl, rfl, Or.inl rfl⟩
  | cons x l ih =>
    by_cases h : isD x = true
    · obtain ⟨a, t, h1, h2, h3⟩ := ih
      exact ⟨x :: a, t, by rw [h1]; rfl, by unfold allD at *; simp [h, h2], h3⟩
    · exact ⟨[], x :: l, rfl, rfl, Or.inr ⟨x, l, rfl, by simpa using h⟩⟩
end Go.Proofs.YtpfhnedklihdoaaGreatDoor
namespace Go.Proofs.YtpfhnedklihdoaaGreatDoor
open Go.ChangeShapes Go.WideShapes Go.ChangeAt Go.RowKit

theorem rf_bad (σ : Int) (a x : List UInt8) (h : allD a = false) (h46 : ∀ y ∈ a, y ≠ 46) : rf σ (a ++ x) = (0, false) := by
  obtain ⟨d, t, e1, e2, e3⟩ := parts a
  rcases e3 with rfl | ⟨c, b, rfl, hc⟩
  · rw [List.append_nil] at e1; subst e1; rw [e2] at h; cases h
  · subst e1
    rw [List.append_assoc, List.cons_append, rf_split σ d c _ e2 hc, if_neg]
    intro hh
    exact h46 c (by simp) hh.1
theorem first46 (l : List UInt8) : (∀ y ∈ l, y ≠ 46) ∨ ∃ a b, l = a ++ 46 :: b ∧ ∀ y ∈ a, y ≠ 46 := by
  induction l with
  | nil => exact Or.inl (by simp)
  | cons x l ih =>
    by_cases h : x = 46
    · exact Or.inr ⟨[], l, by rw [h]; rfl, by simp⟩
    · rcases ih with h1 | ⟨a, b, h1, h2⟩
      · exact Or.inl (by intro y hy; rcases List.mem_cons.1 hy with rfl | hy; exact h; exact h1 y hy)
      · exact Or.inr ⟨x :: a, b, by rw [h1]; rfl, by intro y hy; rcases List.mem_cons.1 hy with rfl | hy; exact h; exact h2 y hy⟩

theorem sz (r : ByteArray) : r.data.toList.length = r.size := by simp

theorem read_any (s r : ByteArray) (σ : Int) (hσ : σ = 1 ∨ σ = -1) (w : World) (hsg : SignIs s σ r) (hr : r.size ≤ 1048576) :
    Calls Tryz.prog 37 #[.string s] w fun e w' => e = .returned (.tuple #[.int .i64 (rf σ r.data.toList).1, .bool (rf σ r.data.toList).2]) ∧ Kp w w' := by
  rcases first46 r.data.toList with h46 | ⟨a, b, hl, h46⟩
  · have hct : CutIs r r ⟨#[]⟩ false := fun w => cut_no r w (idx_none r 46 h46)
    cases hd : allD r.data.toList with
    | false =>
      have e := rf_bad σ r.data.toList [] hd h46
      rw [List.append_nil] at e
      rw [e]
      exact read_c1 s r r ⟨#[]⟩ σ false w hsg hct hr hd
    | true =>
      rw [rf_all σ _ hd]
      by_cases h8 : 8 < r.size
      · rw [if_neg (by rw [sz]; omega)]
        exact read_c3 s r r ⟨#[]⟩ σ false w hsg hct hr (by decide) hd rfl h8
      · by_cases h0 : r.size = 0
        · rw [if_neg (by rw [sz]; omega)]
          exact read_c6 s r r ⟨#[]⟩ σ w hsg hct (by omega) (by decide) hd rfl h0
        · rw [if_pos (by rw [sz]; omega)]
          have ez : num (ByteArray.mk #[48, 48, 48, 48, 48, 48]).data.toList = 0 := rfl
          rcases hσ with rfl | rfl
          · have h := val_pn s r r w hsg hct (by omega) (by omega) hd
            rw [ez, Int.add_zero] at h; exact h
          · have h := val_mn s r r w hsg hct (by omega) (by omega) hd
            rw [ez, Int.add_zero] at h; exact h
  · have hk : a.length < r.size := by rw [← sz, hl]; simp
    have hct : CutIs r (r.extract 0 a.length) (r.extract (a.length + 1) r.size) true := fun w => cut_yes r a.length w hr hk (idx_some r a b 46 hl h46)
    have eA : (r.extract 0 a.length).data.toList = a := by rw [Lib.extract_data, hl]; simp
    have eB : (r.extract (a.length + 1) r.size).data.toList = b := by rw [Lib.extract_to_end, hl]; simp
    generalize r.extract 0 a.length = A at *
    generalize r.extract (a.length + 1) r.size = B at *
    have sA : A.size = a.length := by rw [← sz, eA]
    have sB : B.size = b.length := by rw [← sz, eB]
    have sr : r.size = a.length + (b.length + 1) := by rw [← sz, hl]; simp
    cases hd : allD a with
    | false =>
      rw [hl, rf_bad σ a _ hd h46]
      exact read_c1 s r A B σ true w hsg hct (by omega) (by rw [eA]; exact hd)
    | true =>
      rw [hl, rf_split σ a 46 b hd rfl]
      cases hb : allD b with
      | false =>
        rw [if_neg (by simp)]
        exact read_c2 s r A B σ true w hsg hct (by omega) (by omega) (by rw [eA]; exact hd) (by rw [eB]; exact hb)
      | true =>
        by_cases h8 : 8 < a.length
        · rw [if_neg (by omega)]
          exact read_c3 s r A B σ true w hsg hct (by omega) (by omega) (by rw [eA]; exact hd) (by rw [eB]; exact hb) (by omega)
        by_cases h6 : 6 < b.length
        · rw [if_neg (by omega)]
          exact read_c4 s r A B σ true w hsg hct (by omega) (by omega) (by rw [eA]; exact hd) (by rw [eB]; exact hb) (by omega)
        by_cases h0 : b.length = 0
        · rw [if_neg (by omega)]
          exact read_c5 s r A B σ w hsg hct (by omega) (by omega) (by rw [eA]; exact hd) (by rw [eB]; exact hb) (by omega)
        rw [if_pos ⟨rfl, rfl, by omega, by omega, by omega⟩]
        have ep : num (B ++ (ByteArray.mk #[48, 48, 48, 48, 48, 48]).extract B.size 6).data.toList = num b * 10 ^ (6 - b.length) := by
          rw [pad_data, num_pad, eB, sB]
        rcases hσ with rfl | rfl
        · have h := val_pp s r A B w hsg hct (by omega) (by omega) (by omega) (by rw [eA]; exact hd) (by rw [eB]; exact hb)
          rw [ep, eA] at h; exact h
        · have h := val_mp s r A B w hsg hct (by omega) (by omega) (by omega) (by rw [eA]; exact hd) (by rw [eB]; exact hb)
          rw [ep, eA] at h; exact h
end Go.Proofs.YtpfhnedklihdoaaGreatDoor
namespace Go.Proofs.YtpfhnedklihdoaaGreatDoor
open Go.ChangeShapes Go.WideShapes Go.ChangeAt Go.RowKit

theorem int_eq {a b : Int} (h : a = b) : Value.int .i64 a = Value.int .i64 b := by rw [h]
set_option maxHeartbeats 400000 in
theorem sdown_big (a b : Int) (w : World) (hb : 0 < b) (hb' : b ≤ 4611686018427387904) (h1 : -9223372036854775000 ≤ a) (h2 : a ≤ 9223372036854775000) :
    Calls Tryz.prog 68 #[.int .i64 a, .int .i64 b] w fun e w' => e = .returned (.int .i64 (a / b)) ∧ w' = w := by
  have hdb : decide (b < 0) = false := by simp; omega
  by_cases ha : 0 ≤ a
  · have hd := ediv_bd a b ha hb
    have hm := Int.emod_nonneg a (b := b) (by omega)
    have hm' := Int.emod_lt_of_pos a hb
    have hda : decide (a < 0) = false := by simp; omega
    by_cases hz : a % b = 0
    · have hq : (a % b != 0) = false := by simp [hz]
      clear hz
      go_enter Tryz.func68, Tryz.ntmps68
      go_wp2
      go_ret
      exact ⟨rfl, rfl⟩
    · have hq : (a % b != 0) = true := by simp [hz]
      clear hz
      go_enter Tryz.func68, Tryz.ntmps68
      go_wp2
      go_ret
      exact ⟨rfl, rfl⟩
  · have e1 := tdiv_neg_of a b (by omega)
    have e2 := tmod_neg_of a b (by omega)
    have e3 := ediv_neg_of a b hb
    have hd := ediv_bd (-a) b (by omega) hb
    have hm := Int.emod_nonneg (-a) (b := b) (by omega)
    have hm' := Int.emod_lt_of_pos (-a) hb
    have hda : decide (a < 0) = true := by simp; omega
    by_cases hz : (-a) % b = 0
    · rw [if_pos hz] at e3
      rw [e3]
      clear e3
      generalize (-a) / b = q at *
      rw [hz] at e2 hm hm'
      clear hz hm hm'
      go_enter Tryz.func68, Tryz.ntmps68
      go_wp2
      go_ret
      exact ⟨rfl, rfl⟩
    · rw [if_neg hz] at e3
      rw [e3]
      clear e3
      generalize (-a) / b = q at *
      generalize (-a) % b = r at *
      have hq : (-r != 0) = true := by simp; omega
      clear hz
      go_enter Tryz.func68, Tryz.ntmps68
      go_wp2
      go_ret
      exact ⟨rfl, rfl⟩

theorem digit_yes (c : Int) (w : World) (h1 : 48 ≤ c) (h2 : c ≤ 57) : Calls Tryz.prog 67 #[.int .u8 c] w fun e w' => e = .returned (.bool true) ∧ w' = w := by
  go_enter Tryz.func67, Tryz.ntmps67
  go_wp2
  go_ret
  exact ⟨rfl, rfl⟩
theorem digit_no (c : Int) (w : World) (h : ¬ (48 ≤ c ∧ c ≤ 57)) : Calls Tryz.prog 67 #[.int .u8 c] w fun e w' => e = .returned (.bool false) ∧ w' = w := by
  by_cases h1 : 48 ≤ c
  · have h2 : 57 < c := by omega
    have h3 : decide (c ≤ 57) = false := by simp; omega
    clear h
    go_enter Tryz.func67, Tryz.ntmps67
    go_wp2
    go_ret
    exact ⟨rfl, rfl⟩
  · clear h
    go_enter Tryz.func67, Tryz.ntmps67
    go_wp2
    go_ret
    exact ⟨rfl, rfl⟩
theorem notD (c : UInt8) (h : isD c = false) : ¬ (48 ≤ (c.toNat : Int) ∧ (c.toNat : Int) ≤ 57) := by
  intro hh; rw [(isD_iff c).2 hh] at h; cases h
theorem sgood_yes (x : Int) (w : World) (h : okFix x = true) : Calls Tryz.prog 45 #[.int .i64 x] w fun e w' => e = .returned (.bool true) ∧ w' = w := by
  unfold okFix at h
  simp only [Bool.and_eq_true, decide_eq_true_eq] at h
  obtain ⟨h1, h2⟩ := h
  go_enter Tryz.func45, Tryz.ntmps45
  go_wp2
  go_ret
  exact ⟨rfl, rfl⟩
theorem sgood_no (x : Int) (w : World) (h : ¬ okFix x = true) : Calls Tryz.prog 45 #[.int .i64 x] w fun e w' => e = .returned (.bool false) ∧ w' = w := by
  unfold okFix at h
  simp only [Bool.and_eq_true, decide_eq_true_eq] at h
  by_cases h1 : -1099511627776 ≤ x
  · have h2 : 1099511627776 < x := by omega
    have h3 : decide (x ≤ 1099511627776) = false := by simp; omega
    clear h
    go_enter Tryz.func45, Tryz.ntmps45
    go_wp2
    go_ret
    exact ⟨rfl, rfl⟩
  · clear h
    go_enter Tryz.func45, Tryz.ntmps45
    go_wp2
    go_ret
    exact ⟨rfl, rfl⟩
theorem le_mul_of (t P : Int) (h : 0 ≤ t) (hP : 1 ≤ P) : t ≤ t * P := by
  have := Int.mul_le_mul_of_nonneg_left hP h; omega
theorem nk9 (s : ByteArray) (p k e : Nat) (hd : Digs s p e) (hk : k ≤ e) : 0 ≤ nk s p 9 k ∧ nk s p 9 k < 1000000000 := by
  have h1 := nk_bd s p 9 k e hd hk
  have h2 := pow_le (min (k - p) 9) 9 (by omega)
  omega
theorem nk8 (s : ByteArray) (p k e i : Nat) (hd : Digs s p e) (hk : k ≤ e) (h1 : k ≤ i + p) (h8 : i ≤ 8) : 0 ≤ nk s p 9 k ∧ nk s p 9 k < 100000000 := by
  have h1 := nk_bd s p 9 k e hd hk
  have h2 := pow_le (min (k - p) 9) 8 (by omega)
  omega
/-- Digits behind a point, onto a number. -/
def mm (s : ByteArray) (q : Nat) (m : Int) (k : Nat) : Int := m * 10 ^ (min (k - q) 6) + nk s q 6 k
theorem mm_start (s : ByteArray) (q : Nat) (m : Int) : mm s q m q = m := by unfold mm; rw [nk_start, Nat.sub_self, Nat.zero_min]; simp
theorem mm_more (s : ByteArray) (q k : Nat) (m : Int) (hp : q ≤ k) (h : k < s.size) (hm : k - q < 6) : mm s q m (k + 1) = mm s q m k * 10 + ((s[k].toNat : Int) - 48) := by
  unfold mm
  rw [nk_more s q 6 k hp h hm, show min (k + 1 - q) 6 = min (k - q) 6 + 1 by omega, Int.pow_succ, Int.add_mul, Int.mul_assoc]
  omega
theorem mm_same (s : ByteArray) (q k : Nat) (m : Int) (hm : ¬ k - q < 6) : mm s q m (k + 1) = mm s q m k := by
  unfold mm
  rw [nk_same s q 6 k hm, show min (k + 1 - q) 6 = min (k - q) 6 by omega]
theorem mm_bd (s : ByteArray) (q k e : Nat) (m : Int) (hd : Digs s q e) (hk : k ≤ e) (m0 : 0 ≤ m) (m1 : m < 1000000000) : 0 ≤ mm s q m k ∧ mm s q m k < 1000000000000000 := by
  have h1 := nk_bd s q 6 k e hd hk
  have h2 := pow_le (min (k - q) 6) 6 (by omega)
  have h3 := pow_pos10 (min (k - q) 6)
  unfold mm
  generalize (10 : Int) ^ min (k - q) 6 = P at *
  have h4 : 0 ≤ m * P := Int.mul_nonneg m0 (by omega)
  have h5 : m * P ≤ 999999999 * P := Int.mul_le_mul_of_nonneg_right (by omega) (by omega)
  omega
theorem T_one (m : Int) (h0 : 0 ≤ m) (h1 : m < 100000000) : 0 ≤ m * p6 0 ∧ m * p6 0 < 100000000000000 := by
  have : p6 0 = 1000000 := rfl
  rw [this]; omega
theorem mm_ten (s : ByteArray) (q k j : Nat) (m : Int) (h1 : j + q ≤ k) (h2 : k ≤ j + q) (h6 : j ≤ 6) : mm s q m k * p6 j = m * 1000000 + nk s q 6 k * p6 j := by
  unfold mm p6
  rw [show min (k - q) 6 = j by omega, Int.add_mul, Int.mul_assoc, ← Int.pow_add, show j + (6 - j) = 6 by omega]
  rfl
theorem T_two (s : ByteArray) (q k e j : Nat) (m : Int) (hd : Digs s q e) (hk : k ≤ e) (h1 : j + q ≤ k) (h2 : k ≤ j + q) (h6 : j ≤ 6) (m0 : 0 ≤ m) (m1 : m < 100000000) : 0 ≤ mm s q m k * p6 j ∧ mm s q m k * p6 j < 100000000000000 := by
  rw [mm_ten s q k j m h1 h2 h6]
  have h3 := nk_bd s q 6 k e hd hk
  rw [show min (k - q) 6 = j by omega] at h3
  have h4 := p6_pos j
  have h5 : nk s q 6 k * p6 j < 1000000 := by
    have a1 := Int.mul_lt_mul_of_pos_right h3.2 (show 0 < p6 j by omega)
    have a2 : (10 : Int) ^ j * p6 j = 1000000 := by unfold p6; rw [← Int.pow_add, show j + (6 - j) = 6 by omega]; rfl
    omega
  have h6 : 0 ≤ nk s q 6 k * p6 j := Int.mul_nonneg h3.1 (by omega)
  omega
/-- What l1Decimal answers: digits alone; digits, a point and digits; others. -/
def PA (s : ByteArray) (p : Nat) (σ : Int) (i : Nat) (n x : Int) : Prop :=
  n = 0 ∧ (1 ≤ i ∧ i ≤ 8 → okFix (fixOf σ (nk s p 9 s.size * p6 0)) = false) ∨ (1 ≤ i ∧ i ≤ 8) ∧ okFix (fixOf σ (nk s p 9 s.size * p6 0)) = true ∧ n = s.size ∧ x = fixOf σ (nk s p 9 s.size * p6 0)
def PC (s : ByteArray) (p : Nat) (σ : Int) (e1 i j : Nat) (n x : Int) : Prop :=
  n = 0 ∧ (1 ≤ i + j ∧ i ≤ 8 ∧ j ≤ 6 → okFix (fixOf σ (mm s (e1 + 1) (nk s p 9 e1) s.size * p6 j)) = false) ∨ (1 ≤ i + j ∧ i ≤ 8 ∧ j ≤ 6) ∧ okFix (fixOf σ (mm s (e1 + 1) (nk s p 9 e1) s.size * p6 j)) = true ∧ n = s.size ∧ x = fixOf σ (mm s (e1 + 1) (nk s p 9 e1) s.size * p6 j)
def PB (s : ByteArray) (n x : Int) : Prop := n < s.size ∧ x = x
/-- The same, where the text goes on behind e. -/
def PE (s : ByteArray) (p : Nat) (σ : Int) (e i : Nat) (n x : Int) : Prop :=
  n = 0 ∧ (1 ≤ i ∧ i ≤ 8 → okFix (fixOf σ (nk s p 9 e * p6 0)) = false) ∨ (1 ≤ i ∧ i ≤ 8) ∧ okFix (fixOf σ (nk s p 9 e * p6 0)) = true ∧ n = e ∧ x = fixOf σ (nk s p 9 e * p6 0)
def PF (s : ByteArray) (p : Nat) (σ : Int) (e1 e2 i j : Nat) (n x : Int) : Prop :=
  n = 0 ∧ (1 ≤ i + j ∧ i ≤ 8 ∧ j ≤ 6 → okFix (fixOf σ (mm s (e1 + 1) (nk s p 9 e1) e2 * p6 j)) = false) ∨ (1 ≤ i + j ∧ i ≤ 8 ∧ j ≤ 6) ∧ okFix (fixOf σ (mm s (e1 + 1) (nk s p 9 e1) e2 * p6 j)) = true ∧ n = e2 ∧ x = fixOf σ (mm s (e1 + 1) (nk s p 9 e1) e2 * p6 j)
theorem PE.pb {s : ByteArray} {p : Nat} {σ : Int} {e i : Nat} {n x : Int} (h : PE s p σ e i n x) (he : e < s.size) : PB s n x := by
  rcases h with ⟨hn, _⟩ | ⟨_, _, hn, _⟩ <;> exact ⟨by omega, rfl⟩
theorem PF.pb {s : ByteArray} {p : Nat} {σ : Int} {e1 e2 i j : Nat} {n x : Int} (h : PF s p σ e1 e2 i j n x) (he : e2 < s.size) : PB s n x := by
  rcases h with ⟨hn, _⟩ | ⟨_, _, hn, _⟩ <;> exact ⟨by omega, rfl⟩
end Go.Proofs.YtpfhnedklihdoaaGreatDoor
namespace Go.Proofs.YtpfhnedklihdoaaGreatDoor
open Go.ChangeShapes Go.WideShapes Go.ChangeAt Go.RowKit

/-- What ReadFixed makes of what l1Decimal answers. -/
def resOf (n x : Int) (sz : Nat) : Int × Bool := if n = 0 ∨ n < sz then (0, false) else (x, true)

theorem get_of (s : ByteArray) (l1 : List UInt8) (c : UInt8) (l2 : List UInt8) (h : s.data.toList = l1 ++ c :: l2) (k : Nat) (hk : k = l1.length) (hlt : k < s.size) : s[k] = c := by
  subst hk
  have e : s[l1.length] = s.data.toList[l1.length]'(by simpa using hlt) := rfl
  rw [e]
  simp [h]
theorem digs_of (s : ByteArray) (l1 a l2 : List UInt8) (h : s.data.toList = l1 ++ (a ++ l2)) (ha : allD a = true) (p e : Nat) (hp : p = l1.length) (he : e = l1.length + a.length) : Digs s p e := by
  intro k hk h1 h2
  have e1 : s[k] = s.data.toList[k]'(by simpa using hk) := rfl
  have e2 : s.data.toList[k]'(by simpa using hk) = a[k - l1.length]'(by omega) := by
    simp only [h]
    rw [List.getElem_append_right (by omega), List.getElem_append_left (by omega)]
  rw [e1, e2]
  unfold allD at ha
  exact List.all_eq_true.1 ha _ (List.getElem_mem _)
theorem nk_num (s : ByteArray) (l1 a l2 : List UInt8) (h : s.data.toList = l1 ++ (a ++ l2)) (p m k : Nat) (hp : p = l1.length) (hk : k = l1.length + a.length) (hm : a.length ≤ m) : nk s p m k = num a := by
  unfold nk
  rw [h, hp, List.drop_left, show min (k - l1.length) m = a.length by omega, List.take_left]
theorem size_of (s : ByteArray) (l : List UInt8) (h : s.data.toList = l) : s.size = l.length := by rw [← h]; simp

/-- What l1Decimal answers, as its four kinds of texts say it. -/
def Dec (s : ByteArray) (w : World) (Q : Int → Int → Prop) : Prop := Calls Tryz.prog 40 #[.string s] w fun e w' => ∃ n x : Int, e = .returned (.tuple #[.int .i64 n, .int .i64 x]) ∧ w' = w ∧ Q n x
theorem Dec.mono {s : ByteArray} {w : World} {Q R : Int → Int → Prop} (h : Dec s w Q) (hr : ∀ n x, Q n x → R n x) : Dec s w R :=
  Calls.mono h fun _ _ ⟨n, x, h1, h2, h3⟩ => ⟨n, x, h1, h2, hr n x h3⟩

theorem res_bad (s : ByteArray) (n x : Int) (h : PB s n x) : resOf n x s.size = (0, false) := by
  unfold resOf; rw [if_pos (Or.inr h.1)]
theorem fin_ok (σ N : Int) (h : okFix (fixOf σ N) = true) : fin σ N = (fixOf σ N, true) := by unfold fin; rw [if_pos h]
theorem fin_bad (σ N : Int) (h : okFix (fixOf σ N) = false) : fin σ N = (0, false) := by unfold fin; rw [if_neg (by rw [h]; decide)]

theorem dec_gen (s : ByteArray) (p : Nat) (σ : Int) (pre lr : List UInt8) (hp : p = pre.length) (hl : s.data.toList = pre ++ lr)
    (dA : ∀ (i : Nat) (w : World), i + p ≤ s.size → s.size ≤ i + p → Digs s p s.size → Dec s w (PA s p σ i))
    (dB : ∀ (e1 i : Nat) (w : World), i + p ≤ e1 → e1 ≤ i + p → ∀ he : e1 < s.size, isD s[e1] = false → Digs s p e1 → (∀ h : e1 + 1 < s.size, (s[e1].toNat : Int) = 46 → isD s[e1 + 1] = false) → Dec s w (PB s))
    (dC : ∀ (e1 i j : Nat) (w : World), i + p ≤ e1 → e1 ≤ i + p → ∀ he : e1 < s.size, isD s[e1] = false → Digs s p e1 → (s[e1].toNat : Int) = 46 → e1 + 1 < s.size → j + (e1 + 1) ≤ s.size → s.size ≤ j + (e1 + 1) → Digs s (e1 + 1) s.size → Dec s w (PC s p σ e1 i j))
    (dD : ∀ (e1 e2 i j : Nat) (w : World), i + p ≤ e1 → e1 ≤ i + p → ∀ he : e1 < s.size, isD s[e1] = false → Digs s p e1 → (s[e1].toNat : Int) = 46 → e1 + 1 < e2 → j + (e1 + 1) ≤ e2 → e2 ≤ j + (e1 + 1) → Digs s (e1 + 1) e2 → ∀ he3 : e2 < s.size, isD s[e2] = false → Dec s w (PB s))
    (w : World) : Dec s w (fun n x => resOf n x s.size = rf σ lr) := by
  obtain ⟨a, t, hat, ha, ht⟩ := parts lr
  subst hat
  have hsz := size_of s _ hl
  rw [List.length_append, List.length_append] at hsz
  rcases ht with rfl | ⟨c, b, rfl, hc⟩
  · rw [List.length_nil] at hsz
    refine (dA a.length w (by omega) (by omega) (digs_of s pre a [] hl ha p s.size hp (by omega))).mono fun n x h => ?_
    rw [List.append_nil, rf_all σ a ha]
    have e0 : a.length ≤ 8 → nk s p 9 s.size * p6 0 = num a * 1000000 := fun h8 => by rw [nk_num s pre a [] hl p 9 s.size hp (by omega) (by omega)]; rfl
    rcases h with ⟨hn, h⟩ | ⟨hv, h1, hn, hx⟩
    · unfold resOf
      rw [if_pos (Or.inl hn)]
      by_cases hv : 1 ≤ a.length ∧ a.length ≤ 8
      · have h1 := h hv
        rw [e0 hv.2] at h1
        rw [if_pos hv, fin_bad _ _ h1]
      · rw [if_neg hv]
    · rw [e0 hv.2] at h1 hx
      rw [if_pos hv, fin_ok _ _ h1]
      unfold resOf
      rw [if_neg (by omega), hx]
  · have hsz2 : s.size = p + a.length + (b.length + 1) := by rw [hsz, List.length_cons, hp]; omega
    have hl2 : s.data.toList = (pre ++ a) ++ c :: b := by rw [hl, List.append_assoc]
    have he : p + a.length < s.size := by omega
    have g1 : s[p + a.length] = c := get_of s (pre ++ a) c b hl2 _ (by rw [List.length_append, hp]) he
    have hd1 := digs_of s pre a (c :: b) hl ha p (p + a.length) hp (by omega)
    rw [rf_split σ a c b ha hc]
    by_cases hC : c = 46 ∧ ∃ d b', b = d :: b' ∧ isD d = true
    · obtain ⟨rfl, d, b', hb, hdd⟩ := hC
      obtain ⟨f, u, hfu, hf, hu⟩ := parts b
      have hf1 : 1 ≤ f.length := by
        match f, hfu with
        | [], hfu =>
          rcases hu with rfl | ⟨c2, b2, rfl, hc2⟩
          · rw [hb] at hfu; simp at hfu
          · rw [hb] at hfu; simp at hfu; rw [hfu.1, hc2] at hdd; cases hdd
        | _ :: _, _ => simp
      have hbl : b.length = f.length + u.length := by rw [hfu, List.length_append]
      have hl3 : s.data.toList = (pre ++ a ++ [46]) ++ (f ++ u) := by rw [hl2, hfu]; simp
      have hq : p + a.length + 1 = (pre ++ a ++ [46]).length := by simp; omega
      rcases hu with rfl | ⟨c2, b2, rfl, hc2⟩
      · rw [List.length_nil] at hbl
        have hbf : b = f := by rw [hfu, List.append_nil]
        refine (dC (p + a.length) a.length f.length w (by omega) (by omega) he (by rw [g1]; exact hc) hd1 (by rw [g1]; rfl) (by omega) (by omega) (by omega) (digs_of s _ f [] hl3 hf (p + a.length + 1) s.size hq (by omega))).mono fun n x h => ?_
        rw [hbf]
        have e0 : a.length ≤ 8 → f.length ≤ 6 → mm s (p + a.length + 1) (nk s p 9 (p + a.length)) s.size * p6 f.length = num a * 1000000 + num f * 10 ^ (6 - f.length) := fun h8 h6 => by
          rw [mm_ten s _ s.size f.length _ (by omega) (by omega) h6, nk_num s pre a (46 :: b) hl p 9 (p + a.length) hp (by omega) (by omega), nk_num s _ f [] hl3 (p + a.length + 1) 6 s.size hq (by omega) h6]
          rfl
        rcases h with ⟨hn, h⟩ | ⟨hv, h1, hn, hx⟩
        · unfold resOf
          rw [if_pos (Or.inl hn)]
          by_cases hv : 1 ≤ a.length + f.length ∧ a.length ≤ 8 ∧ f.length ≤ 6
          · have h1 := h hv
            rw [e0 hv.2.1 hv.2.2] at h1
            rw [if_pos ⟨rfl, hf, hf1, hv.2.2, hv.2.1⟩, fin_bad _ _ h1]
          · rw [if_neg (by omega)]
        · rw [e0 hv.2.1 hv.2.2] at h1 hx
          rw [if_pos ⟨rfl, hf, hf1, hv.2.2, hv.2.1⟩, fin_ok _ _ h1]
          unfold resOf
          rw [if_neg (by omega), hx]
      · rw [List.length_cons] at hbl
        have hl4 : s.data.toList = (pre ++ a ++ [46] ++ f) ++ c2 :: b2 := by rw [hl3]; simp
        have he2 : p + a.length + 1 + f.length < s.size := by omega
        have g2 : s[p + a.length + 1 + f.length] = c2 := get_of s _ c2 b2 hl4 _ (by simp; omega) he2
        refine (dD (p + a.length) (p + a.length + 1 + f.length) a.length f.length w (by omega) (by omega) he (by rw [g1]; exact hc) hd1 (by rw [g1]; rfl) (by omega) (by omega) (by omega) (digs_of s _ f (c2 :: b2) hl3 hf (p + a.length + 1) _ hq (by omega)) he2 (by rw [g2]; exact hc2)).mono fun n x h => ?_
        rw [res_bad s n x h, if_neg]
        intro hh
        have h5 := hh.2.1
        unfold allD at h5
        rw [hfu, List.all_append] at h5
        simp [hc2] at h5
    · refine (dB (p + a.length) a.length w (by omega) (by omega) he (by rw [g1]; exact hc) hd1 (fun h h46 => ?_)).mono fun n x h => ?_
      · rw [g1] at h46
        have hc46 : c = 46 := by
          apply UInt8.toNat_inj.1
          have : ((46 : UInt8).toNat : Int) = 46 := rfl
          omega
        match b, hl2 with
        | [], _ => simp at hsz2; omega
        | d :: b', hl2 =>
          have g3 : s[p + a.length + 1] = d := get_of s (pre ++ a ++ [c]) d b' (by rw [hl2]; simp) _ (by simp; omega) h
          rw [g3]
          cases hdd : isD d with
          | false => rfl
          | true => exact absurd ⟨hc46, d, b', rfl, hdd⟩ hC
      · rw [res_bad s n x h, if_neg]
        intro hh
        apply hC
        refine ⟨hh.1, ?_⟩
        match b, hh with
        | [], hh => simp at hh
        | d :: b', hh =>
          refine ⟨d, b', rfl, ?_⟩
          have h5 := hh.2.1
          unfold allD at h5
          simp only [List.all_cons, Bool.and_eq_true] at h5
          exact h5.1
end Go.Proofs.YtpfhnedklihdoaaGreatDoor
