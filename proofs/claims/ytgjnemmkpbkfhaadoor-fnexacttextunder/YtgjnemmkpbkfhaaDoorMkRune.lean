/-
  Runes: the specification's look at the front of a text; each theorem names its conditions.
-/
import Derived.Test.YtgjnemmkpbkfhaaDoorMkName2
import Derived.Lib.TrimUEq
namespace Go.Proofs.YtgjnemmkpbkfhaaDoor
open Go.ChangeShapes Go.WideShapes Go.ChangeAt Go.RowKit
set_option linter.unusedVariables false

/-- The rune at k and how many bytes it has; -1 where it is none. -/
def rn (s : ByteArray) (k : Nat) : Int × Int := if (Utf8.decode s k).1 = 65533 ∧ (Utf8.decode s k).2 = 1 then (-1, 1) else (((Utf8.decode s k).1 : Int), ((Utf8.decode s k).2 : Int))
def nb (s : ByteArray) (k : Nat) : Nat := (bt s k).toNat
theorem nb_of (s : ByteArray) (k : Nat) : ((nb s k : Nat) : Int) = bt s k := by have := bt_bd s k; unfold nb; omega
theorem get_nb (s : ByteArray) (k : Nat) (h : k < s.size) : (s.get! k).toNat = nb s k := by
  unfold nb; rw [bt_of s k h]
  have : s.get! k = s[k] := by
    cases s with
    | mk d => exact getElem!_pos d k h
  rw [this]; simp
theorem decodeN_far (n b0 b1 b2 b3 c1 c2 c3 : Nat) (h1 : 1 < n → b1 = c1) (h2 : 2 < n → b2 = c2) (h3 : 3 < n → b3 = c3) : Lib.decodeN n b0 b1 b2 b3 = Lib.decodeN n b0 c1 c2 c3 := by
  by_cases e1 : 1 < n
  · obtain rfl := h1 e1
    by_cases e2 : 2 < n
    · obtain rfl := h2 e2
      by_cases e3 : 3 < n
      · obtain rfl := h3 e3; rfl
      · simp [Lib.decodeN, e3]
    · have e3 : ¬ 3 < n := by omega
      simp [Lib.decodeN, e2, e3]
  · have e2 : ¬ 2 < n := by omega
    have e3 : ¬ 3 < n := by omega
    simp [Lib.decodeN, e1, e2, e3]
theorem decode_nb (s : ByteArray) (h : 0 < s.size) : Utf8.decode s 0 = Lib.decodeN s.size (nb s 0) (nb s 1) (nb s 2) (nb s 3) := by
  rw [Lib.decode_at, Nat.sub_zero, get_nb s 0 h]
  exact decodeN_far _ _ _ _ _ _ _ _ (fun h => get_nb s 1 h) (fun h => get_nb s 2 h) (fun h => get_nb s 3 h)
theorem rn_bad (s : ByteArray) (h0 : 0 < s.size) (h : Lib.decodeN s.size (nb s 0) (nb s 1) (nb s 2) (nb s 3) = (65533, 1)) : rn s 0 = (-1, 1) := by
  unfold rn; rw [decode_nb s h0, h]; simp
theorem rn_ok (s : ByteArray) (h0 : 0 < s.size) (x n : Nat) (h : Lib.decodeN s.size (nb s 0) (nb s 1) (nb s 2) (nb s 3) = (x, n)) (hn : n ≠ 1 ∨ x ≠ 65533) : rn s 0 = ((x : Int), (n : Int)) := by
  unfold rn; rw [decode_nb s h0, h]
  rw [if_neg (by omega)]
def Cont (s : ByteArray) (k : Nat) : Prop := 128 ≤ bt s k ∧ bt s k ≤ 191
theorem cont_nb {s : ByteArray} {k : Nat} (h : Cont s k) : nb s k / 64 = 2 ∧ ((nb s k % 64 : Nat) : Int) = bt s k - 128 := by
  have := nb_of s k; unfold Cont at h; omega
theorem cont_no {s : ByteArray} {k : Nat} (h : ¬ Cont s k) : ¬ nb s k / 64 = 2 := by
  have := nb_of s k; have := bt_bd s k; unfold Cont at h; omega
def xval (s : ByteArray) (x0 : Int) : Nat → Int
  | 0 => x0
  | k + 1 => xval s x0 k * 64 + bt s (k + 1) - 128
def ContTo (s : ByteArray) (k : Nat) : Prop := ∀ j, 1 ≤ j → j ≤ k → Cont s j
theorem xval_bd (s : ByteArray) (x0 : Int) (k : Nat) (h0 : 0 ≤ x0) (h1 : x0 ≤ 31) (hk : k ≤ 3) (hc : ContTo s k) : 0 ≤ xval s x0 k ∧ xval s x0 k < 10000000 := by
  have e : ∀ j, 1 ≤ j → j ≤ k → 128 ≤ bt s j ∧ bt s j ≤ 191 := hc
  have g : k = 0 ∨ k = 1 ∨ k = 2 ∨ k = 3 := by omega
  rcases g with rfl | rfl | rfl | rfl
  · simp [xval]; omega
  · have := e 1 (by omega) (by omega); simp [xval]; omega
  · have := e 1 (by omega) (by omega); have := e 2 (by omega) (by omega); simp [xval]; omega
  · have := e 1 (by omega) (by omega); have := e 2 (by omega) (by omega); have := e 3 (by omega) (by omega); simp [xval]; omega
def mayB (r : Int) : Bool := decide (r = 9 ∨ r = 10 ∨ r = 13 ∨ 32 ≤ r)
theorem smay (w : World) (r : Int) : Calls Tryd.prog 130 #[.int .i64 r] w fun e w' => e = .returned (.bool (mayB r)) ∧ w' = w := by
  go_enter Tryd.func130, Tryd.ntmps130
  go_wp2
  all_goals
    go_ret
    exact ⟨ret_bool (by rw [Bool.eq_iff_iff]; simp [mayB]; omega), rfl⟩
theorem ret_pair {a b c d : Int} (h : (a, b) = (c, d)) : Ending.returned (.tuple #[.int .i64 a, .int .i64 b]) = .returned (.tuple #[.int .i64 c, .int .i64 d]) := by
  simp only [Prod.mk.injEq] at h; rw [h.1, h.2]
abbrev RuneSays (s : ByteArray) (w : World) : Prop := Calls Tryd.prog 129 #[.string s] w fun e w' => e = .returned (.tuple #[.int .i64 (rn s 0).1, .int .i64 (rn s 0).2]) ∧ w' = w

set_option maxRecDepth 100000 in
theorem srune0 (w : World) (s : ByteArray) (h0 : 0 < s.size) (hs : s.size ≤ 1048576) (hb : bt s 0 < 128 ∨ (128 ≤ bt s 0 ∧ bt s 0 < 194) ∨ 245 ≤ bt s 0) : RuneSays s w := by
  have hbd := bt_bd s 0
  have hn := nb_of s 0
  have he := bt_of s 0 h0
  rcases hb with hb | hb
  · have HR : Hid (rn s 0 = (bt s 0, 1)) := by
      have : Lib.decodeN s.size (nb s 0) (nb s 1) (nb s 2) (nb s 3) = (nb s 0, 1) := by simp [Lib.decodeN]; omega
      show rn s 0 = _
      rw [rn_ok s h0 _ _ this (by omega), hn]; rfl
    rw [he] at hb hbd
    have HE : Hid _ := he
    clear he hn
    go_enter Tryd.func129, Tryd.ntmps129
    go_wp2
    go_ret2
    exact ⟨ret_pair (by rw [HR.out, HE.out]), rfl⟩
  · have HR : Hid (rn s 0 = (-1, 1)) := by
      refine rn_bad s h0 ?_
      unfold Lib.decodeN
      repeat' split
      all_goals first | rfl | (exfalso; omega)
    rw [he] at hb hbd
    clear he hn
    rcases hb with hb | hb
    all_goals
      go_enter Tryd.func129, Tryd.ntmps129
      go_wp2
      go_ret2
      exact ⟨ret_pair (by rw [HR.out]), rfl⟩

/-! ### Runes of 2 bytes -/
theorem dno2 (s : ByteArray) (h0 : 0 < s.size) (hb : 194 ≤ bt s 0 ∧ bt s 0 ≤ 223) (h : ¬ (1 < s.size ∧ ContTo s 1)) : rn s 0 = (-1, 1) := by
  have hn := nb_of s 0
  refine rn_bad s h0 ?_
  unfold Lib.decodeN
  rw [if_neg (by omega)]
  rw [if_neg ?_, if_neg (by rintro ⟨h, _⟩; omega), if_neg (by rintro ⟨h, _⟩; omega)]
  rintro ⟨_, h2⟩
  apply h
  refine ⟨by omega, fun j hj hk => Classical.byContradiction fun hc => ?_⟩
  have := cont_no hc
  have e : j = 1 := by omega
  rcases e with rfl <;> omega
theorem dyes2 (s : ByteArray) (h0 : 0 < s.size) (hb : 194 ≤ bt s 0 ∧ bt s 0 ≤ 223) (h : 1 < s.size) (hc : ContTo s 1) (X : Int) (hX : X = xval s (bt s 0 - 192) 1) :
    rn s 0 = if True then (X, 2) else (-1, 1) := by
  have hn := nb_of s 0
  have q1 := cont_nb (hc 1 (by omega) (by omega))
  have z1 := (show Cont s 1 from hc 1 (by omega) (by omega)); unfold Cont at z1
  have hx : X = (bt s 0 - 192) * 64 + (bt s 1 - 128) := by rw [hX]; simp [xval]; omega
  have hlo : 0 ≤ X := by rw [hX]; exact (xval_bd s _ 1 (by omega) (by omega) (by omega) hc).1
  split
  · rename_i hg
    have : Lib.decodeN s.size (nb s 0) (nb s 1) (nb s 2) (nb s 3) = (X.toNat, 2) := by
      unfold Lib.decodeN
      rw [if_neg (by omega)]
      rw [if_pos (by omega)]
      split
      · simp only [Prod.mk.injEq, and_true]; omega
      · exfalso; omega
    rw [rn_ok s h0 _ _ this (by omega)]
    simp only [Prod.mk.injEq]; omega
  · rename_i hg
    exfalso; exact hg trivial
set_option maxRecDepth 100000 in
set_option maxHeartbeats 1000000 in
theorem srune2 (w : World) (s : ByteArray) (h0 : 0 < s.size) (hs : s.size ≤ 1048576) (hb : 194 ≤ bt s 0 ∧ bt s 0 ≤ 223) : RuneSays s w := by
  have hbd := bt_bd s 0
  have he := bt_of s 0 h0
  by_cases hl : 1 < s.size
  · have HB : Hid _ := hb
    rw [he] at hb hbd
    have HE : Hid _ := he
    clear he
    go_enter Tryd.func129, Tryd.ntmps129
    go_wp2
    go_loop [6, 7] (fun x i => ∃ k : Nat, k ≤ 1 ∧ i = .int .i64 (k + 1) ∧ x = .int .i64 (xval s (bt s 0 - 192) k) ∧ ContTo s k) (fun _ i => 2 - (intOf i).toNat)
    case atStart => exact ⟨0, by omega, rfl, by rw [xval, HE.out], fun j a b => absurd b (by omega)⟩
    case round =>
      obtain ⟨k, hk, rfl, rfl, hct⟩ := hrel
      have hxb := xval_bd s (bt s 0 - 192) k (by have := HB.out; omega) (by have := HB.out; omega) (by omega) hct
      have HC : Hid (ContTo s k) := hct
      clear hct
      by_cases hk2 : k < 1
      · have hl2 : k + 1 < s.size := by omega
        have hek := bt_of s (k + 1) hl2
        have hbk := bt_bd s (k + 1)
        rw [hek] at hbk
        by_cases hcn : Cont s (k + 1)
        · have HN : Hid (Cont s (k + 1)) := hcn
          unfold Cont at hcn
          rw [hek] at hcn
          have HX : Hid (xval s (bt s 0 - 192) (k + 1) = xval s (bt s 0 - 192) k * 64 + (s[k + 1].toNat : Int) - 128) := by show xval s _ (k + 1) = _; rw [xval, hek]
          clear hek
          generalize xval s (bt s 0 - 192) k = X at *
          go_wp2
          go_round
          case rel =>
            refine ⟨k + 1, by omega, by go_num, by rw [HX.out], fun j a b => ?_⟩
            by_cases e : j = k + 1
            · rw [e]; exact HN.out
            · exact HC.out j a (by omega)
          case measure => simp [intOf]; omega
        · have HR : Hid (rn s 0 = (-1, 1)) := dno2 s h0 HB.out fun h => hcn (h.2 (k + 1) (by omega) (by omega))
          have hcn' : (s[k + 1].toNat : Int) < 128 ∨ 191 < (s[k + 1].toNat : Int) := by unfold Cont at hcn; rw [hek] at hcn; omega
          clear hek hcn
          generalize xval s (bt s 0 - 192) k = X at *
          rcases hcn' with hcn | hcn
          · go_wp2
            go_ret2
            exact ⟨ret_pair (by rw [HR.out]), rfl⟩
          · have : ¬ (s[k + 1].toNat : Int) < 128 := by omega
            go_wp2
            go_ret2
            exact ⟨ret_pair (by rw [HR.out]), rfl⟩
      · have e : k = 1 := by omega
        subst e
        have HY : Hid _ := dyes2 s h0 HB.out hl HC.out _ rfl
        generalize xval s (bt s 0 - 192) 1 = X at *
        go_wp2
        go_ret2
        exact ⟨ret_pair (by rw [HY.out, if_pos trivial]), rfl⟩
  · have HR : Hid (rn s 0 = (-1, 1)) := dno2 s h0 hb fun h => hl h.1
    rw [he] at hb hbd
    clear he
    go_enter Tryd.func129, Tryd.ntmps129
    go_wp2
    go_ret2
    exact ⟨ret_pair (by rw [HR.out]), rfl⟩

/-! ### Runes of 3 bytes -/
theorem dno3 (s : ByteArray) (h0 : 0 < s.size) (hb : 224 ≤ bt s 0 ∧ bt s 0 ≤ 239) (h : ¬ (2 < s.size ∧ ContTo s 2)) : rn s 0 = (-1, 1) := by
  have hn := nb_of s 0
  refine rn_bad s h0 ?_
  unfold Lib.decodeN
  rw [if_neg (by omega), if_neg (by rintro ⟨h, _⟩; omega)]
  rw [if_neg ?_, if_neg (by rintro ⟨h, _⟩; omega)]
  rintro ⟨_, h2⟩
  apply h
  refine ⟨by omega, fun j hj hk => Classical.byContradiction fun hc => ?_⟩
  have := cont_no hc
  have e : j = 1 ∨ j = 2 := by omega
  rcases e with rfl | rfl <;> omega
theorem dyes3 (s : ByteArray) (h0 : 0 < s.size) (hb : 224 ≤ bt s 0 ∧ bt s 0 ≤ 239) (h : 2 < s.size) (hc : ContTo s 2) (X : Int) (hX : X = xval s (bt s 0 - 224) 2) :
    rn s 0 = if 2048 ≤ X ∧ ¬ (55296 ≤ X ∧ X ≤ 57343) then (X, 3) else (-1, 1) := by
  have hn := nb_of s 0
  have q1 := cont_nb (hc 1 (by omega) (by omega))
  have z1 := (show Cont s 1 from hc 1 (by omega) (by omega)); unfold Cont at z1
  have q2 := cont_nb (hc 2 (by omega) (by omega))
  have z2 := (show Cont s 2 from hc 2 (by omega) (by omega)); unfold Cont at z2
  have hx : X = (bt s 0 - 224) * 4096 + (bt s 1 - 128) * 64 + (bt s 2 - 128) := by rw [hX]; simp [xval]; omega
  have hlo : 0 ≤ X := by rw [hX]; exact (xval_bd s _ 2 (by omega) (by omega) (by omega) hc).1
  split
  · rename_i hg
    have : Lib.decodeN s.size (nb s 0) (nb s 1) (nb s 2) (nb s 3) = (X.toNat, 3) := by
      unfold Lib.decodeN
      rw [if_neg (by omega), if_neg (by rintro ⟨h, _⟩; omega)]
      rw [if_pos (by omega)]
      split
      · simp only [Prod.mk.injEq, and_true]; omega
      · exfalso; omega
    rw [rn_ok s h0 _ _ this (by omega)]
    simp only [Prod.mk.injEq]; omega
  · rename_i hg
    refine rn_bad s h0 ?_
    unfold Lib.decodeN
    rw [if_neg (by omega), if_neg (by rintro ⟨h, _⟩; omega)]
    rw [if_pos (by omega)]
    split
    · exfalso; omega
    · rfl
set_option maxRecDepth 100000 in
set_option maxHeartbeats 1000000 in
theorem srune3 (w : World) (s : ByteArray) (h0 : 0 < s.size) (hs : s.size ≤ 1048576) (hb : 224 ≤ bt s 0 ∧ bt s 0 ≤ 239) : RuneSays s w := by
  have hbd := bt_bd s 0
  have he := bt_of s 0 h0
  by_cases hl : 2 < s.size
  · have HB : Hid _ := hb
    rw [he] at hb hbd
    have HE : Hid _ := he
    clear he
    go_enter Tryd.func129, Tryd.ntmps129
    go_wp2
    go_loop [6, 7] (fun x i => ∃ k : Nat, k ≤ 2 ∧ i = .int .i64 (k + 1) ∧ x = .int .i64 (xval s (bt s 0 - 224) k) ∧ ContTo s k) (fun _ i => 3 - (intOf i).toNat)
    case atStart => exact ⟨0, by omega, rfl, by rw [xval, HE.out], fun j a b => absurd b (by omega)⟩
    case round =>
      obtain ⟨k, hk, rfl, rfl, hct⟩ := hrel
      have hxb := xval_bd s (bt s 0 - 224) k (by have := HB.out; omega) (by have := HB.out; omega) (by omega) hct
      have HC : Hid (ContTo s k) := hct
      clear hct
      by_cases hk2 : k < 2
      · have hl2 : k + 1 < s.size := by omega
        have hek := bt_of s (k + 1) hl2
        have hbk := bt_bd s (k + 1)
        rw [hek] at hbk
        by_cases hcn : Cont s (k + 1)
        · have HN : Hid (Cont s (k + 1)) := hcn
          unfold Cont at hcn
          rw [hek] at hcn
          have HX : Hid (xval s (bt s 0 - 224) (k + 1) = xval s (bt s 0 - 224) k * 64 + (s[k + 1].toNat : Int) - 128) := by show xval s _ (k + 1) = _; rw [xval, hek]
          clear hek
          generalize xval s (bt s 0 - 224) k = X at *
          go_wp2
          go_round
          case rel =>
            refine ⟨k + 1, by omega, by go_num, by rw [HX.out], fun j a b => ?_⟩
            by_cases e : j = k + 1
            · rw [e]; exact HN.out
            · exact HC.out j a (by omega)
          case measure => simp [intOf]; omega
        · have HR : Hid (rn s 0 = (-1, 1)) := dno3 s h0 HB.out fun h => hcn (h.2 (k + 1) (by omega) (by omega))
          have hcn' : (s[k + 1].toNat : Int) < 128 ∨ 191 < (s[k + 1].toNat : Int) := by unfold Cont at hcn; rw [hek] at hcn; omega
          clear hek hcn
          generalize xval s (bt s 0 - 224) k = X at *
          rcases hcn' with hcn | hcn
          · go_wp2
            go_ret2
            exact ⟨ret_pair (by rw [HR.out]), rfl⟩
          · have : ¬ (s[k + 1].toNat : Int) < 128 := by omega
            go_wp2
            go_ret2
            exact ⟨ret_pair (by rw [HR.out]), rfl⟩
      · have e : k = 2 := by omega
        subst e
        have HY : Hid _ := dyes3 s h0 HB.out hl HC.out _ rfl
        generalize xval s (bt s 0 - 224) 2 = X at *
        by_cases c1 : X < 2048
        · go_wp2
          go_ret2
          exact ⟨ret_pair (by rw [HY.out, if_neg (by omega)]), rfl⟩
        · by_cases c2 : 55296 ≤ X ∧ X ≤ 57343
          · have hd : decide ((55296 : Int) ≤ X ∧ X ≤ 57343) = true := by simp; omega
            go_wp2_with (go_at_call 44; refine (in_any _ _ _ _).mono ?_; rw [hd]; rintro e w' ⟨rfl, rfl⟩)
            go_ret2
            exact ⟨ret_pair (by rw [HY.out, if_neg (by omega)]), rfl⟩
          · have hd : decide ((55296 : Int) ≤ X ∧ X ≤ 57343) = false := by simp; omega
            go_wp2_with (go_at_call 44; refine (in_any _ _ _ _).mono ?_; rw [hd]; rintro e w' ⟨rfl, rfl⟩)
            go_ret2
            exact ⟨ret_pair (by rw [HY.out, if_pos (by omega)]), rfl⟩
  · have HR : Hid (rn s 0 = (-1, 1)) := dno3 s h0 hb fun h => hl h.1
    rw [he] at hb hbd
    clear he
    go_enter Tryd.func129, Tryd.ntmps129
    go_wp2
    go_ret2
    exact ⟨ret_pair (by rw [HR.out]), rfl⟩

/-! ### Runes of 4 bytes -/
theorem dno4 (s : ByteArray) (h0 : 0 < s.size) (hb : 240 ≤ bt s 0 ∧ bt s 0 ≤ 244) (h : ¬ (3 < s.size ∧ ContTo s 3)) : rn s 0 = (-1, 1) := by
  have hn := nb_of s 0
  refine rn_bad s h0 ?_
  unfold Lib.decodeN
  rw [if_neg (by omega), if_neg (by rintro ⟨h, _⟩; omega), if_neg (by rintro ⟨h, _⟩; omega)]
  rw [if_neg ?_]
  rintro ⟨_, h2⟩
  apply h
  refine ⟨by omega, fun j hj hk => Classical.byContradiction fun hc => ?_⟩
  have := cont_no hc
  have e : j = 1 ∨ j = 2 ∨ j = 3 := by omega
  rcases e with rfl | rfl | rfl <;> omega
theorem dyes4 (s : ByteArray) (h0 : 0 < s.size) (hb : 240 ≤ bt s 0 ∧ bt s 0 ≤ 244) (h : 3 < s.size) (hc : ContTo s 3) (X : Int) (hX : X = xval s (bt s 0 - 240) 3) :
    rn s 0 = if 65536 ≤ X ∧ X ≤ 1114111 then (X, 4) else (-1, 1) := by
  have hn := nb_of s 0
  have q1 := cont_nb (hc 1 (by omega) (by omega))
  have z1 := (show Cont s 1 from hc 1 (by omega) (by omega)); unfold Cont at z1
  have q2 := cont_nb (hc 2 (by omega) (by omega))
  have z2 := (show Cont s 2 from hc 2 (by omega) (by omega)); unfold Cont at z2
  have q3 := cont_nb (hc 3 (by omega) (by omega))
  have z3 := (show Cont s 3 from hc 3 (by omega) (by omega)); unfold Cont at z3
  have hx : X = (bt s 0 - 240) * 262144 + (bt s 1 - 128) * 4096 + (bt s 2 - 128) * 64 + (bt s 3 - 128) := by rw [hX]; simp [xval]; omega
  have hlo : 0 ≤ X := by rw [hX]; exact (xval_bd s _ 3 (by omega) (by omega) (by omega) hc).1
  split
  · rename_i hg
    have : Lib.decodeN s.size (nb s 0) (nb s 1) (nb s 2) (nb s 3) = (X.toNat, 4) := by
      unfold Lib.decodeN
      rw [if_neg (by omega), if_neg (by rintro ⟨h, _⟩; omega), if_neg (by rintro ⟨h, _⟩; omega)]
      rw [if_pos (by omega)]
      split
      · simp only [Prod.mk.injEq, and_true]; omega
      · exfalso; omega
    rw [rn_ok s h0 _ _ this (by omega)]
    simp only [Prod.mk.injEq]; omega
  · rename_i hg
    refine rn_bad s h0 ?_
    unfold Lib.decodeN
    rw [if_neg (by omega), if_neg (by rintro ⟨h, _⟩; omega), if_neg (by rintro ⟨h, _⟩; omega)]
    rw [if_pos (by omega)]
    split
    · exfalso; omega
    · rfl
set_option maxRecDepth 100000 in
set_option maxHeartbeats 1000000 in
theorem srune4 (w : World) (s : ByteArray) (h0 : 0 < s.size) (hs : s.size ≤ 1048576) (hb : 240 ≤ bt s 0 ∧ bt s 0 ≤ 244) : RuneSays s w := by
  have hbd := bt_bd s 0
  have he := bt_of s 0 h0
  by_cases hl : 3 < s.size
  · have HB : Hid _ := hb
    rw [he] at hb hbd
    have HE : Hid _ := he
    clear he
    go_enter Tryd.func129, Tryd.ntmps129
    go_wp2
    go_loop [6, 7] (fun x i => ∃ k : Nat, k ≤ 3 ∧ i = .int .i64 (k + 1) ∧ x = .int .i64 (xval s (bt s 0 - 240) k) ∧ ContTo s k) (fun _ i => 4 - (intOf i).toNat)
    case atStart => exact ⟨0, by omega, rfl, by rw [xval, HE.out], fun j a b => absurd b (by omega)⟩
    case round =>
      obtain ⟨k, hk, rfl, rfl, hct⟩ := hrel
      have hxb := xval_bd s (bt s 0 - 240) k (by have := HB.out; omega) (by have := HB.out; omega) (by omega) hct
      have HC : Hid (ContTo s k) := hct
      clear hct
      by_cases hk2 : k < 3
      · have hl2 : k + 1 < s.size := by omega
        have hek := bt_of s (k + 1) hl2
        have hbk := bt_bd s (k + 1)
        rw [hek] at hbk
        by_cases hcn : Cont s (k + 1)
        · have HN : Hid (Cont s (k + 1)) := hcn
          unfold Cont at hcn
          rw [hek] at hcn
          have HX : Hid (xval s (bt s 0 - 240) (k + 1) = xval s (bt s 0 - 240) k * 64 + (s[k + 1].toNat : Int) - 128) := by show xval s _ (k + 1) = _; rw [xval, hek]
          clear hek
          generalize xval s (bt s 0 - 240) k = X at *
          go_wp2
          go_round
          case rel =>
            refine ⟨k + 1, by omega, by go_num, by rw [HX.out], fun j a b => ?_⟩
            by_cases e : j = k + 1
            · rw [e]; exact HN.out
            · exact HC.out j a (by omega)
          case measure => simp [intOf]; omega
        · have HR : Hid (rn s 0 = (-1, 1)) := dno4 s h0 HB.out fun h => hcn (h.2 (k + 1) (by omega) (by omega))
          have hcn' : (s[k + 1].toNat : Int) < 128 ∨ 191 < (s[k + 1].toNat : Int) := by unfold Cont at hcn; rw [hek] at hcn; omega
          clear hek hcn
          generalize xval s (bt s 0 - 240) k = X at *
          rcases hcn' with hcn | hcn
          · go_wp2
            go_ret2
            exact ⟨ret_pair (by rw [HR.out]), rfl⟩
          · have : ¬ (s[k + 1].toNat : Int) < 128 := by omega
            go_wp2
            go_ret2
            exact ⟨ret_pair (by rw [HR.out]), rfl⟩
      · have e : k = 3 := by omega
        subst e
        have HY : Hid _ := dyes4 s h0 HB.out hl HC.out _ rfl
        generalize xval s (bt s 0 - 240) 3 = X at *
        by_cases c2 : 65536 ≤ X ∧ X ≤ 1114111
        · have hd : decide ((65536 : Int) ≤ X ∧ X ≤ 1114111) = true := by simp; omega
          go_wp2_with (go_at_call 44; refine (in_any _ _ _ _).mono ?_; rw [hd]; rintro e w' ⟨rfl, rfl⟩)
          go_ret2
          exact ⟨ret_pair (by rw [HY.out, if_pos (by omega)]), rfl⟩
        · have hd : decide ((65536 : Int) ≤ X ∧ X ≤ 1114111) = false := by simp; omega
          go_wp2_with (go_at_call 44; refine (in_any _ _ _ _).mono ?_; rw [hd]; rintro e w' ⟨rfl, rfl⟩)
          go_ret2
          exact ⟨ret_pair (by rw [HY.out, if_neg (by omega)]), rfl⟩
  · have HR : Hid (rn s 0 = (-1, 1)) := dno4 s h0 hb fun h => hl h.1
    rw [he] at hb hbd
    clear he
    go_enter Tryd.func129, Tryd.ntmps129
    go_wp2
    go_ret2
    exact ⟨ret_pair (by rw [HR.out]), rfl⟩

theorem srune (w : World) (s : ByteArray) (h0 : 0 < s.size) (hs : s.size ≤ 1048576) : RuneSays s w := by
  have hbd := bt_bd s 0
  by_cases c2 : 194 ≤ bt s 0 ∧ bt s 0 ≤ 223
  · exact srune2 w s h0 hs c2
  by_cases c3 : 224 ≤ bt s 0 ∧ bt s 0 ≤ 239
  · exact srune3 w s h0 hs c3
  by_cases c4 : 240 ≤ bt s 0 ∧ bt s 0 ≤ 244
  · exact srune4 w s h0 hs c4
  exact srune0 w s h0 hs (by omega)
end Go.Proofs.YtgjnemmkpbkfhaaDoor
