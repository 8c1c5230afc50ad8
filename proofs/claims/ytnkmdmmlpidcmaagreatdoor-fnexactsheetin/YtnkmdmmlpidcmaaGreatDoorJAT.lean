/-
  The way up from a node: the program's looks and the specification's; each theorem names its conditions.
  Marks' names: the program's look at a text; each theorem names its conditions.
  Runes: the specification's look at the front of a text; each theorem names its conditions.
  Elements that lie elsewhere appended to a row; each theorem names its conditions.
-/
import Derived.Test.YtnkmdmmlpidcmaaGreatDoorJAS
import Derived.Lib.TrimUEq
import Derived.Test.YtnkmdmmlpidcmaaGreatDoorJAF
namespace Go.Proofs.YtnkmdmmlpidcmaaGreatDoor
open Go.ChangeShapes Go.WideShapes Go.ChangeAt Go.RowKit
set_option linter.unusedVariables false

theorem sdeep (w : World) (a : Option Addr) (c : Nat) (l : List ND) (N : Nat) (k : Int) (hl : l.length ≤ 1048576) (hr : Nodes w a l) (hu : Ups l N) (hN : N ≤ l.length) (h0 : -1 ≤ k) (h1 : k < N) :
    Calls Tryz.prog 90 #[.slice a l.length c, .int .i64 k] w fun e w' => e = .returned (.int .i64 (deepN l k)) ∧ w' = w := by
  have HR : Hid (Nodes w a l) := hr
  have HU : Hid (Ups l N) := hu
  have hD := deepN_le l N hu hN (N + 1) k (by omega) h1 h0
  generalize hDD : (deepN l k : Int) = D at *
  have HD : Hid ((deepN l k : Int) = D) := hDD
  clear hr hu hDD
  go_enter Tryz.func90, Tryz.ntmps90
  go_wp2
  go_loop [1, 5] (fun x n => ∃ (K : Int) (d : Nat), -1 ≤ K ∧ K < N ∧ x = .int .i64 K ∧ n = .int .i64 d ∧ (d : Int) + deepN l K = D) (fun x _ => ((intOf x) + 1).toNat)
  case atStart => exact ⟨k, 0, h0, h1, rfl, rfl, by have := HD.out; omega⟩
  case round =>
    obtain ⟨K, d, hK0, hK1, rfl, rfl, hd⟩ := hrel
    have HX : Hid ((d : Int) + deepN l K = D) := hd
    by_cases hneg : K < 0
    · have HE : Hid ((d : Int) = D) := by show (d : Int) = D; rw [deepN_neg l K hneg] at hd; omega
      clear hd
      go_wp2
      go_ret
      exact ⟨ret_int HE.out, rfl⟩
    · obtain ⟨m, rfl⟩ := Int.eq_ofNat_of_zero_le (show 0 ≤ K by omega)
      have hm : m < l.length := by omega
      have hup := HU.out m (by omega)
      have hdu := deepN_up l (m : Int) N HU.out hN (by omega) (by omega)
      simp only [Int.toNat_natCast] at hdu
      have hdb : (d : Int) < 1048576 := by omega
      rcases HR.out with h | ⟨b, o, rfl, hb, hc⟩
      · rw [h] at hm; simp at hm
      obtain ⟨q0, q1, q2, q3⟩ := hc m hm
      have HN : Hid (((d + 1 : Nat) : Int) + deepN l (upAt l m) = D) := by show ((d + 1 : Nat) : Int) + _ = D; omega
      unfold upAt at hup HN
      clear hc hd hdu q0 q2 q3
      generalize (nodeAt l m).up = U at *
      go_wp2
      go_round
      case rel => exact ⟨U, d + 1, by omega, by omega, rfl, by go_num, HN.out⟩
      case measure => simp [intOf]; omega
theorem ideep (w : World) (a : Option Addr) (c : Nat) (l : List ND) (N : Nat) (k : Int) (hl : l.length ≤ 1048576) (hr : Nodes w a l) (hu : Ups l N) (hN : N ≤ l.length) (h0 : -1 ≤ k) (h1 : k < N) :
    Calls Tryz.prog 130 #[.slice a l.length c, .int .i64 k] w fun e w' => e = .returned (.int .i64 (deepN l k)) ∧ w' = w := by
  have HR : Hid (Nodes w a l) := hr
  have HU : Hid (Ups l N) := hu
  have hD := deepN_le l N hu hN (N + 1) k (by omega) h1 h0
  generalize hDD : (deepN l k : Int) = D at *
  have HD : Hid ((deepN l k : Int) = D) := hDD
  clear hr hu hDD
  go_enter Tryz.func130, Tryz.ntmps130
  go_wp2
  go_loop [1, 5] (fun x n => ∃ (K : Int) (d : Nat), -1 ≤ K ∧ K < N ∧ x = .int .i64 K ∧ n = .int .i64 d ∧ (d : Int) + deepN l K = D) (fun x _ => ((intOf x) + 1).toNat)
  case atStart => exact ⟨k, 0, h0, h1, rfl, rfl, by have := HD.out; omega⟩
  case round =>
    obtain ⟨K, d, hK0, hK1, rfl, rfl, hd⟩ := hrel
    by_cases hneg : K < 0
    · have e : K = -1 := by omega
      have HE : Hid ((d : Int) = D) := by show (d : Int) = D; rw [deepN_neg l K hneg] at hd; omega
      subst e
      clear hd
      go_wp2
      go_ret
      exact ⟨ret_int HE.out, rfl⟩
    · obtain ⟨m, rfl⟩ := Int.eq_ofNat_of_zero_le (show 0 ≤ K by omega)
      have hm : m < l.length := by omega
      have hne : ((m : Int) != -1) = true := bne_iff_ne.2 (by omega)
      have hup := HU.out m (by omega)
      have hdu := deepN_up l (m : Int) N HU.out hN (by omega) (by omega)
      simp only [Int.toNat_natCast] at hdu
      have hdb : (d : Int) < 1048576 := by omega
      rcases HR.out with h | ⟨b, o, rfl, hb, hc⟩
      · rw [h] at hm; simp at hm
      obtain ⟨q0, q1, q2, q3⟩ := hc m hm
      have HN : Hid (((d + 1 : Nat) : Int) + deepN l (upAt l m) = D) := by show ((d + 1 : Nat) : Int) + _ = D; omega
      unfold upAt at hup HN
      clear hc hd hdu q0 q2 q3
      generalize (nodeAt l m).up = U at *
      go_wp2
      go_round
      case rel => exact ⟨U, d + 1, by omega, by omega, rfl, by go_num, HN.out⟩
      case measure => simp [intOf]; omega
theorem iaround (w : World) (a : Option Addr) (c : Nat) (l : List ND) (N : Nat) (k x : Int) (hl : l.length ≤ 1048576) (hr : Nodes w a l) (hu : Ups l N) (hN : N ≤ l.length) (h0 : -1 ≤ k) (h1 : k < N) :
    Calls Tryz.prog 129 #[.slice a l.length c, .int .i64 k, .int .i64 x] w fun e w' => e = .returned (.bool (meetsN l x k)) ∧ w' = w := by
  have HR : Hid (Nodes w a l) := hr
  have HU : Hid (Ups l N) := hu
  generalize hDD : meetsN l x k = D at *
  have HD : Hid (meetsN l x k = D) := hDD
  clear hr hu hDD
  go_enter Tryz.func129, Tryz.ntmps129
  go_wp2
  go_loop [1] (fun y => ∃ (K : Int), -1 ≤ K ∧ K < N ∧ y = .int .i64 K ∧ meetsN l x K = D) (fun y => ((intOf y) + 1).toNat)
  case atStart => exact ⟨k, h0, h1, rfl, HD.out⟩
  case round =>
    obtain ⟨K, hK0, hK1, rfl, hd⟩ := hrel
    by_cases hneg : K < 0
    · have e : K = -1 := by omega
      have HE : Hid (false = D) := by show false = D; rw [← hd, meetsN_neg l x K hneg]
      subst e
      clear hd
      go_wp2
      go_ret
      exact ⟨ret_bool HE.out, rfl⟩
    · obtain ⟨m, rfl⟩ := Int.eq_ofNat_of_zero_le (show 0 ≤ K by omega)
      have hm : m < l.length := by omega
      have hne : ((m : Int) != -1) = true := bne_iff_ne.2 (by omega)
      by_cases hx : (m : Int) = x
      · have HE : Hid (true = D) := by show true = D; rw [← hd, hx, meetsN_same l x (by omega)]
        subst hx
        clear hd
        go_wp2
        go_ret
        exact ⟨ret_bool HE.out, rfl⟩
      · have hnx : ((m : Int) != x) = true := bne_iff_ne.2 hx
        have hup := HU.out m (by omega)
        have hdu := meetsN_up l x (m : Int) N HU.out hN (by omega) (by omega) hx
        simp only [Int.toNat_natCast] at hdu
        rcases HR.out with h | ⟨b, o, rfl, hb, hc⟩
        · rw [h] at hm; simp at hm
        obtain ⟨q0, q1, q2, q3⟩ := hc m hm
        have HN : Hid (meetsN l x (upAt l m) = D) := by show meetsN l x _ = D; rw [← hdu]; exact hd
        unfold upAt at hup HN
        clear hc hd hdu q0 q2 q3
        generalize (nodeAt l m).up = U at *
        go_wp2
        go_round
        case rel => exact ⟨U, by omega, by omega, rfl, HN.out⟩
        case measure => simp [intOf]; omega
end Go.Proofs.YtnkmdmmlpidcmaaGreatDoor
namespace Go.Proofs.YtnkmdmmlpidcmaaGreatDoor
open Go.ChangeShapes Go.WideShapes Go.ChangeAt Go.RowKit
set_option linter.unusedVariables false

theorem first_inner {c : Int} (h : firstB c = true) : innerB c = true := by
  simp [firstB] at h; simp [innerB]; omega
theorem first_let {c : Int} : firstB c = (letB c || decide (c = 95)) := by
  rw [Bool.eq_iff_iff]; simp [firstB, letB]; omega
def InnerTo (s : ByteArray) (k : Nat) : Prop := ∀ i, i < k → innerB (bt s i) = true
theorem InnerTo.step {s : ByteArray} {k : Nat} (h : InnerTo s k) (e : innerB (bt s k) = true) : InnerTo s (k + 1) := by
  intro i hi
  by_cases c : i = k
  · subst c; exact e
  · exact h i (by omega)
theorem isize (w : World) (s : ByteArray) (h1 : 1 ≤ s.size) (h2 : s.size ≤ 1048576) :
    Calls Tryz.prog 159 #[.string s] w fun e w' => ∃ m : Nat, e = .returned (.int .i64 m) ∧ (m = s.size ↔ firstB (bt s 0) = true ∧ InnerTo s s.size) ∧ w' = w := by
  have hn1 := ne_nil (s := s) (by omega)
  have hn2 := ne_emp (s := s) (by omega)
  have h0 : 0 < s.size := by omega
  have hb := bt_of s 0 h0
  have hbd := bt_bd s 0
  rw [hb] at hbd
  by_cases hf : firstB (bt s 0) = true
  · have HF : Hid (firstB (bt s 0) = true) := hf
    rw [first_let, hb] at hf
    have hfl : letB (s[0].toNat : Int) = true ∨ (letB (s[0].toNat : Int) = false ∧ ((s[0].toNat : Int) != 95) = false) := by
      cases hl : letB (s[0].toNat : Int) with
      | true => exact Or.inl rfl
      | false => rw [hl] at hf; simp at hf; exact Or.inr ⟨rfl, by simp; exact hf⟩
    clear hf hb
    rcases hfl with hl | ⟨hl, he⟩
    all_goals
      go_enter Tryz.func159, Tryz.ntmps159
      go_wp2_with (go_at_call 161; refine (iletter _ _ hbd.1 hbd.2).mono ?_; rw [hl]; rintro e w' ⟨rfl, rfl⟩)
      go_loop [3] (fun i => ∃ k : Nat, k ≤ s.size ∧ 1 ≤ k ∧ i = .int .i64 k ∧ InnerTo s k) (fun i => s.size - (intOf i).toNat)
      case atStart => exact ⟨1, by omega, by omega, rfl, fun j hj => by have : j = 0 := by omega
                                                                        rw [this]; exact first_inner HF.out⟩
      case round =>
        obtain ⟨k, hk, hk1, rfl, hin⟩ := hrel
        have HI : Hid (InnerTo s k) := hin
        clear hin
        by_cases hlt : k < s.size
        · have hbk := bt_of s k hlt
          have hbdk := bt_bd s k
          rw [hbk] at hbdk
          by_cases hi : innerB (bt s k) = true
          · have hi' : innerB (s[k].toNat : Int) = true := by rw [← hbk]; exact hi
            have HJ : Hid (innerB (bt s k) = true) := hi
            clear hbk hi
            go_wp2_with (go_at_call 178; refine (iinner _ _ hbdk.1 hbdk.2).mono ?_; rw [hi']; rintro e w' ⟨rfl, rfl⟩)
            go_round
            case rel => exact ⟨k + 1, by omega, by omega, by go_num, HI.out.step HJ.out⟩
            case measure => simp [intOf]; omega
          · have hi' : innerB (s[k].toNat : Int) = false := by rw [← hbk]; simpa using hi
            have HJ : Hid (¬ innerB (bt s k) = true) := hi
            clear hbk hi
            go_wp2_with (go_at_call 178; refine (iinner _ _ hbdk.1 hbdk.2).mono ?_; rw [hi']; rintro e w' ⟨rfl, rfl⟩)
            go_ret
            exact ⟨k, rfl, ⟨fun e => absurd hlt (by omega), fun h => absurd (h.2 k hlt) HJ.out⟩, rfl⟩
        · have e : k = s.size := by omega
          go_wp2
          go_ret
          exact ⟨s.size, rfl, ⟨fun _ => ⟨HF.out, by have := HI.out; rwa [e] at this⟩, fun _ => rfl⟩, rfl⟩
  · have HF : Hid (¬ firstB (bt s 0) = true) := hf
    have hf' : firstB (bt s 0) = false := by simpa using hf
    rw [first_let, hb] at hf'
    simp only [Bool.or_eq_false_iff] at hf'
    obtain ⟨hl, he⟩ := hf'
    have he2 : ((s[0].toNat : Int) != 95) = true := by simpa using he
    clear hf hb he
    go_enter Tryz.func159, Tryz.ntmps159
    go_wp2_with (go_at_call 161; refine (iletter _ _ hbd.1 hbd.2).mono ?_; rw [hl]; rintro e w' ⟨rfl, rfl⟩)
    go_ret
    exact ⟨0, rfl, ⟨fun e => absurd h1 (by omega), fun h => absurd h.1 HF.out⟩, rfl⟩
theorem iname (w : World) (s : ByteArray) (hs : s.size ≤ 1048576) : Calls Tryz.prog 125 #[.string s] w fun e w' => e = .returned (.bool (nameB s)) ∧ w' = w := by
  by_cases h0 : s.size = 0
  · have e : s = ⟨#[]⟩ := ByteArray.ext (Array.eq_empty_of_size_eq_zero h0)
    have HN : Hid (nameB s = false) := nameB_no fun h => by have := h.1.1; omega
    subst e
    go_enter Tryz.func125, Tryz.ntmps125
    go_wp2
    go_ret
    exact ⟨ret_bool HN.out.symm, rfl⟩
  · have hn1 := ne_nil (s := s) (by omega)
    have hn2 := ne_emp (s := s) (by omega)
    by_cases h30 : (s.size : Int) ≤ 30
    · go_enter Tryz.func125, Tryz.ntmps125
      go_wp2_with (go_at_call 159; refine (isize _ _ (by omega) hs).mono ?_; rintro e w' ⟨m, rfl, hm, rfl⟩; have HM : Hid _ := hm; clear hm)
      all_goals
        go_ret
        refine ⟨ret_bool ?_, rfl⟩
        have hm := HM.out
        by_cases c : m = s.size
        · rw [nameB_yes ⟨⟨by omega, by omega⟩, hm.1 c⟩]; simp [c]
        · rw [nameB_no fun h => c (hm.2 h.2)]; simp; omega
    · have HN : Hid (nameB s = false) := nameB_no fun h => by have := h.1.2; omega
      go_enter Tryz.func125, Tryz.ntmps125
      go_wp2
      go_ret
      exact ⟨ret_bool HN.out.symm, rfl⟩
end Go.Proofs.YtnkmdmmlpidcmaaGreatDoor
namespace Go.Proofs.YtnkmdmmlpidcmaaGreatDoor
open Go.ChangeShapes Go.WideShapes Go.ChangeAt Go.RowKit
set_option linter.unusedVariables false

/-- The rune at k and how many bytes it has; -1 where it is none. -/
def rn (s : ByteArray) (k : Nat) : Int × Int := if (Utf8.decode s k).1 = 65533 ∧ (Utf8.decode s k).2 = 1 then (-1, 1) else (((Utf8.decode s k).1 : Int), ((Utf8.decode s k).2 : Int))
def nb (s : ByteArray) (k : Nat) : Nat := (bt s k).toNat
theorem nb_of (s : ByteArray) (k : Nat) : ((nb s k : Nat) : Int) = bt s k := by have := bt_bd s k; unfold nb; omega
theorem get_nb (s : ByteArray) (k : Nat) (h : k < s.size) : (s.get! k).toNat = nb s k := by
  unfold nb; rw [bt_of s k h]
  have : s.get! k = s[k] := by
    cases s with
    | mk d => exact getElem!_pos d k h
  rw [this]; simp
theorem decodeN_far (n b0 b1 b2 b3 c1 c2 c3 : Nat) (h1 : 1 < n → b1 = c1) (h2 : 2 < n → b2 = c2) (h3 : 3 < n → b3 = c3) : Lib.decodeN n b0 b1 b2 b3 = Lib.decodeN n b0 c1 c2 c3 := by
  by_cases e1 : 1 < n
  · obtain rfl := h1 e1
    by_cases e2 : 2 < n
    · obtain rfl := h2 e2
      by_cases e3 : 3 < n
      · obtain rfl := h3 e3; rfl
      · simp [Lib.decodeN, e3]
    · have e3 : ¬ 3 < n := by omega
      simp [Lib.decodeN, e2, e3]
  · have e2 : ¬ 2 < n := by omega
    have e3 : ¬ 3 < n := by omega
    simp [Lib.decodeN, e1, e2, e3]
theorem decode_nb (s : ByteArray) (h : 0 < s.size) : Utf8.decode s 0 = Lib.decodeN s.size (nb s 0) (nb s 1) (nb s 2) (nb s 3) := by
  rw [Lib.decode_at, Nat.sub_zero, get_nb s 0 h]
  exact decodeN_far _ _ _ _ _ _ _ _ (fun h => get_nb s 1 h) (fun h => get_nb s 2 h) (fun h => get_nb s 3 h)
theorem rn_bad (s : ByteArray) (h0 : 0 < s.size) (h : Lib.decodeN s.size (nb s 0) (nb s 1) (nb s 2) (nb s 3) = (65533, 1)) : rn s 0 = (-1, 1) := by
  unfold rn; rw [decode_nb s h0, h]; simp
theorem rn_ok (s : ByteArray) (h0 : 0 < s.size) (x n : Nat) (h : Lib.decodeN s.size (nb s 0) (nb s 1) (nb s 2) (nb s 3) = (x, n)) (hn : n ≠ 1 ∨ x ≠ 65533) : rn s 0 = ((x : Int), (n : Int)) := by
  unfold rn; rw [decode_nb s h0, h]
  rw [if_neg (by omega)]
def Cont (s : ByteArray) (k : Nat) : Prop := 128 ≤ bt s k ∧ bt s k ≤ 191
theorem cont_nb {s : ByteArray} {k : Nat} (h : Cont s k) : nb s k / 64 = 2 ∧ ((nb s k % 64 : Nat) : Int) = bt s k - 128 := by
  have := nb_of s k; unfold Cont at h; omega
theorem cont_no {s : ByteArray} {k : Nat} (h : ¬ Cont s k) : ¬ nb s k / 64 = 2 := by
  have := nb_of s k; have := bt_bd s k; unfold Cont at h; omega
def xval (s : ByteArray) (x0 : Int) : Nat → Int
  | 0 => x0
  | k + 1 => xval s x0 k * 64 + bt s (k + 1) - 128
def ContTo (s : ByteArray) (k : Nat) : Prop := ∀ j, 1 ≤ j → j ≤ k → Cont s j
theorem xval_bd (s : ByteArray) (x0 : Int) (k : Nat) (h0 : 0 ≤ x0) (h1 : x0 ≤ 31) (hk : k ≤ 3) (hc : ContTo s k) : 0 ≤ xval s x0 k ∧ xval s x0 k < 10000000 := by
  have e : ∀ j, 1 ≤ j → j ≤ k → 128 ≤ bt s j ∧ bt s j ≤ 191 := hc
  have g : k = 0 ∨ k = 1 ∨ k = 2 ∨ k = 3 := by omega
  rcases g with rfl | rfl | rfl | rfl
  · simp [xval]; omega
  · have := e 1 (by omega) (by omega); simp [xval]; omega
  · have := e 1 (by omega) (by omega); have := e 2 (by omega) (by omega); simp [xval]; omega
  · have := e 1 (by omega) (by omega); have := e 2 (by omega) (by omega); have := e 3 (by omega) (by omega); simp [xval]; omega
def mayB (r : Int) : Bool := decide (r = 9 ∨ r = 10 ∨ r = 13 ∨ 32 ≤ r)
theorem smay (w : World) (r : Int) : Calls Tryz.prog 123 #[.int .i64 r] w fun e w' => e = .returned (.bool (mayB r)) ∧ w' = w := by
  go_enter Tryz.func123, Tryz.ntmps123
  go_wp2
  all_goals
    go_ret
    exact ⟨ret_bool (by rw [Bool.eq_iff_iff]; simp [mayB]; omega), rfl⟩
theorem ret_pair {a b c d : Int} (h : (a, b) = (c, d)) : Ending.returned (.tuple #[.int .i64 a, .int .i64 b]) = .returned (.tuple #[.int .i64 c, .int .i64 d]) := by
  simp only [Prod.mk.injEq] at h; rw [h.1, h.2]
abbrev RuneSays (s : ByteArray) (w : World) : Prop := Calls Tryz.prog 122 #[.string s] w fun e w' => e = .returned (.tuple #[.int .i64 (rn s 0).1, .int .i64 (rn s 0).2]) ∧ w' = w

set_option maxRecDepth 100000 in
theorem srune0 (w : World) (s : ByteArray) (h0 : 0 < s.size) (hs : s.size ≤ 1048576) (hb : bt s 0 < 128 ∨ (128 ≤ bt s 0 ∧ bt s 0 < 194) ∨ 245 ≤ bt s 0) : RuneSays s w := by
  have hbd := bt_bd s 0
  have hn := nb_of s 0
  have he := bt_of s 0 h0
  rcases hb with hb | hb
  · have HR : Hid (rn s 0 = (bt s 0, 1)) := by
      have : Lib.decodeN s.size (nb s 0) (nb s 1) (nb s 2) (nb s 3) = (nb s 0, 1) := by simp [Lib.decodeN]; omega
      show rn s 0 = _
      rw [rn_ok s h0 _ _ this (by omega), hn]; rfl
    rw [he] at hb hbd
    have HE : Hid _ := he
    clear he hn
    go_enter Tryz.func122, Tryz.ntmps122
    go_wp2
    go_ret2
    exact ⟨ret_pair (by rw [HR.out, HE.out]), rfl⟩
  · have HR : Hid (rn s 0 = (-1, 1)) := by
      refine rn_bad s h0 ?_
      unfold Lib.decodeN
      repeat' split
      all_goals first | rfl | (exfalso; omega)
    rw [he] at hb hbd
    clear he hn
    rcases hb with hb | hb
    all_goals
      go_enter Tryz.func122, Tryz.ntmps122
      go_wp2
      go_ret2
      exact ⟨ret_pair (by rw [HR.out]), rfl⟩

/-! ### Runes of 2 bytes -/
theorem dno2 (s : ByteArray) (h0 : 0 < s.size) (hb : 194 ≤ bt s 0 ∧ bt s 0 ≤ 223) (h : ¬ (1 < s.size ∧ ContTo s 1)) : rn s 0 = (-1, 1) := by
  have hn := nb_of s 0
  refine rn_bad s h0 ?_
  unfold Lib.decodeN
  rw [if_neg (by omega)]
  rw [if_neg ?_, if_neg (by rintro ⟨h, _⟩; omega), if_neg (by rintro ⟨h, _⟩; omega)]
  rintro ⟨_, h2⟩
  apply h
  refine ⟨by omega, fun j hj hk => Classical.byContradiction fun hc => ?_⟩
  have := cont_no hc
  have e : j = 1 := by omega
  rcases e with rfl <;> omega
theorem dyes2 (s : ByteArray) (h0 : 0 < s.size) (hb : 194 ≤ bt s 0 ∧ bt s 0 ≤ 223) (h : 1 < s.size) (hc : ContTo s 1) (X : Int) (hX : X = xval s (bt s 0 - 192) 1) :
    rn s 0 = if True then (X, 2) else (-1, 1) := by
  have hn := nb_of s 0
  have q1 := cont_nb (hc 1 (by omega) (by omega))
  have z1 := (show Cont s 1 from hc 1 (by omega) (by omega)); unfold Cont at z1
  have hx : X = (bt s 0 - 192) * 64 + (bt s 1 - 128) := by rw [hX]; simp [xval]; omega
  have hlo : 0 ≤ X := by rw [hX]; exact (xval_bd s _ 1 (by omega) (by omega) (by omega) hc).1
  split
  · rename_i hg
    have : Lib.decodeN s.size (nb s 0) (nb s 1) (nb s 2) (nb s 3) = (X.toNat, 2) := by
      unfold Lib.decodeN
      rw [if_neg (by omega)]
      rw [if_pos (by omega)]
      split
      · simp only [Prod.mk.injEq, and_true]; omega
      · exfalso; omega
    rw [rn_ok s h0 _ _ this (by omega)]
    simp only [Prod.mk.injEq]; omega
  · rename_i hg
    exfalso; exact hg trivial
set_option maxRecDepth 100000 in
set_option maxHeartbeats 1000000 in
theorem srune2 (w : World) (s : ByteArray) (h0 : 0 < s.size) (hs : s.size ≤ 1048576) (hb : 194 ≤ bt s 0 ∧ bt s 0 ≤ 223) : RuneSays s w := by
  have hbd := bt_bd s 0
  have he := bt_of s 0 h0
  by_cases hl : 1 < s.size
  · have HB : Hid _ := hb
    rw [he] at hb hbd
    have HE : Hid _ := he
    clear he
    go_enter Tryz.func122, Tryz.ntmps122
    go_wp2
    go_loop [6, 7] (fun x i => ∃ k : Nat, k ≤ 1 ∧ i = .int .i64 (k + 1) ∧ x = .int .i64 (xval s (bt s 0 - 192) k) ∧ ContTo s k) (fun _ i => 2 - (intOf i).toNat)
    case atStart => exact ⟨0, by omega, rfl, by rw [xval, HE.out], fun j a b => absurd b (by omega)⟩
    case round =>
      obtain ⟨k, hk, rfl, rfl, hct⟩ := hrel
      have hxb := xval_bd s (bt s 0 - 192) k (by have := HB.out; omega) (by have := HB.out; omega) (by omega) hct
      have HC : Hid (ContTo s k) := hct
      clear hct
      by_cases hk2 : k < 1
      · have hl2 : k + 1 < s.size := by omega
        have hek := bt_of s (k + 1) hl2
        have hbk := bt_bd s (k + 1)
        rw [hek] at hbk
        by_cases hcn : Cont s (k + 1)
        · have HN : Hid (Cont s (k + 1)) := hcn
          unfold Cont at hcn
          rw [hek] at hcn
          have HX : Hid (xval s (bt s 0 - 192) (k + 1) = xval s (bt s 0 - 192) k * 64 + (s[k + 1].toNat : Int) - 128) := by show xval s _ (k + 1) = _; rw [xval, hek]
          clear hek
          generalize xval s (bt s 0 - 192) k = X at *
          go_wp2
          go_round
          case rel =>
            refine ⟨k + 1, by omega, by go_num, by rw [HX.out], fun j a b => ?_⟩
            by_cases e : j = k + 1
            · rw [e]; exact HN.out
            · exact HC.out j a (by omega)
          case measure => simp [intOf]; omega
        · have HR : Hid (rn s 0 = (-1, 1)) := dno2 s h0 HB.out fun h => hcn (h.2 (k + 1) (by omega) (by omega))
          have hcn' : (s[k + 1].toNat : Int) < 128 ∨ 191 < (s[k + 1].toNat : Int) := by unfold Cont at hcn; rw [hek] at hcn; omega
          clear hek hcn
          generalize xval s (bt s 0 - 192) k = X at *
          rcases hcn' with hcn | hcn
          · go_wp2
            go_ret2
            exact ⟨ret_pair (by rw [HR.out]), rfl⟩
          · have : ¬ (s[k + 1].toNat : Int) < 128 := by omega
            go_wp2
            go_ret2
            exact ⟨ret_pair (by rw [HR.out]), rfl⟩
      · have e : k = 1 := by omega
        subst e
        have HY : Hid _ := dyes2 s h0 HB.out hl HC.out _ rfl
        generalize xval s (bt s 0 - 192) 1 = X at *
        go_wp2
        go_ret2
        exact ⟨ret_pair (by rw [HY.out, if_pos trivial]), rfl⟩
  · have HR : Hid (rn s 0 = (-1, 1)) := dno2 s h0 hb fun h => hl h.1
    rw [he] at hb hbd
    clear he
    go_enter Tryz.func122, Tryz.ntmps122
    go_wp2
    go_ret2
    exact ⟨ret_pair (by rw [HR.out]), rfl⟩

/-! ### Runes of 3 bytes -/
theorem dno3 (s : ByteArray) (h0 : 0 < s.size) (hb : 224 ≤ bt s 0 ∧ bt s 0 ≤ 239) (h : ¬ (2 < s.size ∧ ContTo s 2)) : rn s 0 = (-1, 1) := by
  have hn := nb_of s 0
  refine rn_bad s h0 ?_
  unfold Lib.decodeN
  rw [if_neg (by omega), if_neg (by rintro ⟨h, _⟩; omega)]
  rw [if_neg ?_, if_neg (by rintro ⟨h, _⟩; omega)]
  rintro ⟨_, h2⟩
  apply h
  refine ⟨by omega, fun j hj hk => Classical.byContradiction fun hc => ?_⟩
  have := cont_no hc
  have e : j = 1 ∨ j = 2 := by omega
  rcases e with rfl | rfl <;> omega
theorem dyes3 (s : ByteArray) (h0 : 0 < s.size) (hb : 224 ≤ bt s 0 ∧ bt s 0 ≤ 239) (h : 2 < s.size) (hc : ContTo s 2) (X : Int) (hX : X = xval s (bt s 0 - 224) 2) :
    rn s 0 = if 2048 ≤ X ∧ ¬ (55296 ≤ X ∧ X ≤ 57343) then (X, 3) else (-1, 1) := by
  have hn := nb_of s 0
  have q1 := cont_nb (hc 1 (by omega) (by omega))
  have z1 := (show Cont s 1 from hc 1 (by omega) (by omega)); unfold Cont at z1
  have q2 := cont_nb (hc 2 (by omega) (by omega))
  have z2 := (show Cont s 2 from hc 2 (by omega) (by omega)); unfold Cont at z2
  have hx : X = (bt s 0 - 224) * 4096 + (bt s 1 - 128) * 64 + (bt s 2 - 128) := by rw [hX]; simp [xval]; omega
  have hlo : 0 ≤ X := by rw [hX]; exact (xval_bd s _ 2 (by omega) (by omega) (by omega) hc).1
  split
  · rename_i hg
    have : Lib.decodeN s.size (nb s 0) (nb s 1) (nb s 2) (nb s 3) = (X.toNat, 3) := by
      unfold Lib.decodeN
      rw [if_neg (by omega), if_neg (by rintro ⟨h, _⟩; omega)]
      rw [if_pos (by omega)]
      split
      · simp only [Prod.mk.injEq, and_true]; omega
      · exfalso; omega
    rw [rn_ok s h0 _ _ this (by omega)]
    simp only [Prod.mk.injEq]; omega
  · rename_i hg
    refine rn_bad s h0 ?_
    unfold Lib.decodeN
    rw [if_neg (by omega), if_neg (by rintro ⟨h, _⟩; omega)]
    rw [if_pos (by omega)]
    split
    · exfalso; omega
    · rfl
set_option maxRecDepth 100000 in
set_option maxHeartbeats 1000000 in
theorem srune3 (w : World) (s : ByteArray) (h0 : 0 < s.size) (hs : s.size ≤ 1048576) (hb : 224 ≤ bt s 0 ∧ bt s 0 ≤ 239) : RuneSays s w := by
  have hbd := bt_bd s 0
  have he := bt_of s 0 h0
  by_cases hl : 2 < s.size
  · have HB : Hid _ := hb
    rw [he] at hb hbd
    have HE : Hid _ := he
    clear he
    go_enter Tryz.func122, Tryz.ntmps122
    go_wp2
    go_loop [6, 7] (fun x i => ∃ k : Nat, k ≤ 2 ∧ i = .int .i64 (k + 1) ∧ x = .int .i64 (xval s (bt s 0 - 224) k) ∧ ContTo s k) (fun _ i => 3 - (intOf i).toNat)
    case atStart => exact ⟨0, by omega, rfl, by rw [xval, HE.out], fun j a b => absurd b (by omega)⟩
    case round =>
      obtain ⟨k, hk, rfl, rfl, hct⟩ := hrel
      have hxb := xval_bd s (bt s 0 - 224) k (by have := HB.out; omega) (by have := HB.out; omega) (by omega) hct
      have HC : Hid (ContTo s k) := hct
      clear hct
      by_cases hk2 : k < 2
      · have hl2 : k + 1 < s.size := by omega
        have hek := bt_of s (k + 1) hl2
        have hbk := bt_bd s (k + 1)
        rw [hek] at hbk
        by_cases hcn : Cont s (k + 1)
        · have HN : Hid (Cont s (k + 1)) := hcn
          unfold Cont at hcn
          rw [hek] at hcn
          have HX : Hid (xval s (bt s 0 - 224) (k + 1) = xval s (bt s 0 - 224) k * 64 + (s[k + 1].toNat : Int) - 128) := by show xval s _ (k + 1) = _; rw [xval, hek]
          clear hek
          generalize xval s (bt s 0 - 224) k = X at *
          go_wp2
          go_round
          case rel =>
            refine ⟨k + 1, by omega, by go_num, by rw [HX.out], fun j a b => ?_⟩
            by_cases e : j = k + 1
            · rw [e]; exact HN.out
            · exact HC.out j a (by omega)
          case measure => simp [intOf]; omega
        · have HR : Hid (rn s 0 = (-1, 1)) := dno3 s h0 HB.out fun h => hcn (h.2 (k + 1) (by omega) (by omega))
          have hcn' : (s[k + 1].toNat : Int) < 128 ∨ 191 < (s[k + 1].toNat : Int) := by unfold Cont at hcn; rw [hek] at hcn; omega
          clear hek hcn
          generalize xval s (bt s 0 - 224) k = X at *
          rcases hcn' with hcn | hcn
          · go_wp2
            go_ret2
            exact ⟨ret_pair (by rw [HR.out]), rfl⟩
          · have : ¬ (s[k + 1].toNat : Int) < 128 := by omega
            go_wp2
            go_ret2
            exact ⟨ret_pair (by rw [HR.out]), rfl⟩
      · have e : k = 2 := by omega
        subst e
        have HY : Hid _ := dyes3 s h0 HB.out hl HC.out _ rfl
        generalize xval s (bt s 0 - 224) 2 = X at *
        by_cases c1 : X < 2048
        · go_wp2
          go_ret2
          exact ⟨ret_pair (by rw [HY.out, if_neg (by omega)]), rfl⟩
        · by_cases c2 : 55296 ≤ X ∧ X ≤ 57343
          · have hd : decide ((55296 : Int) ≤ X ∧ X ≤ 57343) = true := by simp; omega
            go_wp2_with (go_at_call 61; refine (in_any _ _ _ _).mono ?_; rw [hd]; rintro e w' ⟨rfl, rfl⟩)
            go_ret2
            exact ⟨ret_pair (by rw [HY.out, if_neg (by omega)]), rfl⟩
          · have hd : decide ((55296 : Int) ≤ X ∧ X ≤ 57343) = false := by simp; omega
            go_wp2_with (go_at_call 61; refine (in_any _ _ _ _).mono ?_; rw [hd]; rintro e w' ⟨rfl, rfl⟩)
            go_ret2
            exact ⟨ret_pair (by rw [HY.out, if_pos (by omega)]), rfl⟩
  · have HR : Hid (rn s 0 = (-1, 1)) := dno3 s h0 hb fun h => hl h.1
    rw [he] at hb hbd
    clear he
    go_enter Tryz.func122, Tryz.ntmps122
    go_wp2
    go_ret2
    exact ⟨ret_pair (by rw [HR.out]), rfl⟩

/-! ### Runes of 4 bytes -/
theorem dno4 (s : ByteArray) (h0 : 0 < s.size) (hb : 240 ≤ bt s 0 ∧ bt s 0 ≤ 244) (h : ¬ (3 < s.size ∧ ContTo s 3)) : rn s 0 = (-1, 1) := by
  have hn := nb_of s 0
  refine rn_bad s h0 ?_
  unfold Lib.decodeN
  rw [if_neg (by omega), if_neg (by rintro ⟨h, _⟩; omega), if_neg (by rintro ⟨h, _⟩; omega)]
  rw [if_neg ?_]
  rintro ⟨_, h2⟩
  apply h
  refine ⟨by omega, fun j hj hk => Classical.byContradiction fun hc => ?_⟩
  have := cont_no hc
  have e : j = 1 ∨ j = 2 ∨ j = 3 := by omega
  rcases e with rfl | rfl | rfl <;> omega
theorem dyes4 (s : ByteArray) (h0 : 0 < s.size) (hb : 240 ≤ bt s 0 ∧ bt s 0 ≤ 244) (h : 3 < s.size) (hc : ContTo s 3) (X : Int) (hX : X = xval s (bt s 0 - 240) 3) :
    rn s 0 = if 65536 ≤ X ∧ X ≤ 1114111 then (X, 4) else (-1, 1) := by
  have hn := nb_of s 0
  have q1 := cont_nb (hc 1 (by omega) (by omega))
  have z1 := (show Cont s 1 from hc 1 (by omega) (by omega)); unfold Cont at z1
  have q2 := cont_nb (hc 2 (by omega) (by omega))
  have z2 := (show Cont s 2 from hc 2 (by omega) (by omega)); unfold Cont at z2
  have q3 := cont_nb (hc 3 (by omega) (by omega))
  have z3 := (show Cont s 3 from hc 3 (by omega) (by omega)); unfold Cont at z3
  have hx : X = (bt s 0 - 240) * 262144 + (bt s 1 - 128) * 4096 + (bt s 2 - 128) * 64 + (bt s 3 - 128) := by rw [hX]; simp [xval]; omega
  have hlo : 0 ≤ X := by rw [hX]; exact (xval_bd s _ 3 (by omega) (by omega) (by omega) hc).1
  split
  · rename_i hg
    have : Lib.decodeN s.size (nb s 0) (nb s 1) (nb s 2) (nb s 3) = (X.toNat, 4) := by
      unfold Lib.decodeN
      rw [if_neg (by omega), if_neg (by rintro ⟨h, _⟩; omega), if_neg (by rintro ⟨h, _⟩; omega)]
      rw [if_pos (by omega)]
      split
      · simp only [Prod.mk.injEq, and_true]; omega
      · exfalso; omega
    rw [rn_ok s h0 _ _ this (by omega)]
    simp only [Prod.mk.injEq]; omega
  · rename_i hg
    refine rn_bad s h0 ?_
    unfold Lib.decodeN
    rw [if_neg (by omega), if_neg (by rintro ⟨h, _⟩; omega), if_neg (by rintro ⟨h, _⟩; omega)]
    rw [if_pos (by omega)]
    split
    · exfalso; omega
    · rfl
set_option maxRecDepth 100000 in
set_option maxHeartbeats 1000000 in
theorem srune4 (w : World) (s : ByteArray) (h0 : 0 < s.size) (hs : s.size ≤ 1048576) (hb : 240 ≤ bt s 0 ∧ bt s 0 ≤ 244) : RuneSays s w := by
  have hbd := bt_bd s 0
  have he := bt_of s 0 h0
  by_cases hl : 3 < s.size
  · have HB : Hid _ := hb
    rw [he] at hb hbd
    have HE : Hid _ := he
    clear he
    go_enter Tryz.func122, Tryz.ntmps122
    go_wp2
    go_loop [6, 7] (fun x i => ∃ k : Nat, k ≤ 3 ∧ i = .int .i64 (k + 1) ∧ x = .int .i64 (xval s (bt s 0 - 240) k) ∧ ContTo s k) (fun _ i => 4 - (intOf i).toNat)
    case atStart => exact ⟨0, by omega, rfl, by rw [xval, HE.out], fun j a b => absurd b (by omega)⟩
    case round =>
      obtain ⟨k, hk, rfl, rfl, hct⟩ := hrel
      have hxb := xval_bd s (bt s 0 - 240) k (by have := HB.out; omega) (by have := HB.out; omega) (by omega) hct
      have HC : Hid (ContTo s k) := hct
      clear hct
      by_cases hk2 : k < 3
      · have hl2 : k + 1 < s.size := by omega
        have hek := bt_of s (k + 1) hl2
        have hbk := bt_bd s (k + 1)
        rw [hek] at hbk
        by_cases hcn : Cont s (k + 1)
        · have HN : Hid (Cont s (k + 1)) := hcn
          unfold Cont at hcn
          rw [hek] at hcn
          have HX : Hid (xval s (bt s 0 - 240) (k + 1) = xval s (bt s 0 - 240) k * 64 + (s[k + 1].toNat : Int) - 128) := by show xval s _ (k + 1) = _; rw [xval, hek]
          clear hek
          generalize xval s (bt s 0 - 240) k = X at *
          go_wp2
          go_round
          case rel =>
            refine ⟨k + 1, by omega, by go_num, by rw [HX.out], fun j a b => ?_⟩
            by_cases e : j = k + 1
            · rw [e]; exact HN.out
            · exact HC.out j a (by omega)
          case measure => simp [intOf]; omega
        · have HR : Hid (rn s 0 = (-1, 1)) := dno4 s h0 HB.out fun h => hcn (h.2 (k + 1) (by omega) (by omega))
          have hcn' : (s[k + 1].toNat : Int) < 128 ∨ 191 < (s[k + 1].toNat : Int) := by unfold Cont at hcn; rw [hek] at hcn; omega
          clear hek hcn
          generalize xval s (bt s 0 - 240) k = X at *
          rcases hcn' with hcn | hcn
          · go_wp2
            go_ret2
            exact ⟨ret_pair (by rw [HR.out]), rfl⟩
          · have : ¬ (s[k + 1].toNat : Int) < 128 := by omega
            go_wp2
            go_ret2
            exact ⟨ret_pair (by rw [HR.out]), rfl⟩
      · have e : k = 3 := by omega
        subst e
        have HY : Hid _ := dyes4 s h0 HB.out hl HC.out _ rfl
        generalize xval s (bt s 0 - 240) 3 = X at *
        by_cases c2 : 65536 ≤ X ∧ X ≤ 1114111
        · have hd : decide ((65536 : Int) ≤ X ∧ X ≤ 1114111) = true := by simp; omega
          go_wp2_with (go_at_call 61; refine (in_any _ _ _ _).mono ?_; rw [hd]; rintro e w' ⟨rfl, rfl⟩)
          go_ret2
          exact ⟨ret_pair (by rw [HY.out, if_pos (by omega)]), rfl⟩
        · have hd : decide ((65536 : Int) ≤ X ∧ X ≤ 1114111) = false := by simp; omega
          go_wp2_with (go_at_call 61; refine (in_any _ _ _ _).mono ?_; rw [hd]; rintro e w' ⟨rfl, rfl⟩)
          go_ret2
          exact ⟨ret_pair (by rw [HY.out, if_neg (by omega)]), rfl⟩
  · have HR : Hid (rn s 0 = (-1, 1)) := dno4 s h0 hb fun h => hl h.1
    rw [he] at hb hbd
    clear he
    go_enter Tryz.func122, Tryz.ntmps122
    go_wp2
    go_ret2
    exact ⟨ret_pair (by rw [HR.out]), rfl⟩

theorem srune (w : World) (s : ByteArray) (h0 : 0 < s.size) (hs : s.size ≤ 1048576) : RuneSays s w := by
  have hbd := bt_bd s 0
  by_cases c2 : 194 ≤ bt s 0 ∧ bt s 0 ≤ 223
  · exact srune2 w s h0 hs c2
  by_cases c3 : 224 ≤ bt s 0 ∧ bt s 0 ≤ 239
  · exact srune3 w s h0 hs c3
  by_cases c4 : 240 ≤ bt s 0 ∧ bt s 0 ≤ 244
  · exact srune4 w s h0 hs c4
  exact srune0 w s h0 hs (by omega)
end Go.Proofs.YtnkmdmmlpidcmaaGreatDoor
namespace Go.Proofs.YtnkmdmmlpidcmaaGreatDoor
open Go.ChangeShapes Go.WideShapes Go.ChangeAt Go.RowKit
set_option linter.unusedVariables false

/-- What elements that are to be appended keep. -/
structure Elts (n : Nat) {α : Type} (E : Els α) (w : World) (B : Nat) (v : Value) (els els2 : List (El α)) : Prop where
  el : ∀ e, e ∈ els2 → E w e.cs e.x e.F ∧ e.cs.length = n ∧ ∀ b, e.F b → B ≤ b ∧ b < w.heap.size ∧ v.ownBlock ≠ some b
  apart : els2.Pairwise fun a b => disj a.F b.F
  off : ∀ a, a ∈ els → ∀ b, b ∈ els2 → disj a.F b.F
theorem RowO.puts {t : TypeId} {n : Nat} {α : Type} {E : Els α} (hE : KeptE E) {w w' : World} {B : Nat} {v v' : Value} {els els2 : List (El α)} (h : RowO t n E w B v els) (h2 : Elts n E w B v els els2)
    (hown : w'.ownsRow B t n v' (els.length + els2.length) (els.flatMap (·.cs) ++ els2.flatMap (·.cs))) (hext : Ext v v' w w') : RowO t n E w' B v' (els ++ els2) := by
  have hs := hext.size
  refine ⟨?_, fun e he => ?_, ?_⟩
  · rw [List.length_append, List.flatMap_append]; exact hown
  · have key : E w e.cs e.x e.F ∧ e.cs.length = n ∧ ∀ b, e.F b → B ≤ b ∧ b < w.heap.size ∧ v.ownBlock ≠ some b := by
      rcases List.mem_append.1 he with he | he
      · exact h.el e he
      · exact h2.el e he
    obtain ⟨a1, a2, a3⟩ := key
    refine ⟨hE _ _ _ _ _ (fun b => v.ownBlock = some b) a1 (Wr.ext hext (fun _ e => e)) (fun b hb => (a3 b hb).2.2), a2, fun b hb => ?_⟩
    obtain ⟨b1, b2, b3⟩ := a3 b hb
    exact ⟨b1, by omega, hext.apart b2 b3⟩
  · rw [List.pairwise_append]; exact ⟨h.apart, h2.apart, h2.off⟩
theorem flat_len {α : Type} (n : Nat) : ∀ (els : List (El α)), (∀ e, e ∈ els → e.cs.length = n) → (els.flatMap (·.cs)).length = els.length * n := by
  intro els
  induction els with
  | nil => intro _; simp
  | cons x l ih =>
    intro h
    rw [List.flatMap_cons, List.length_append, h x List.mem_cons_self, ih (fun e he => h e (List.mem_cons_of_mem _ he)), List.length_cons, Nat.succ_mul]
    omega
theorem RowO.cap {t : TypeId} {n : Nat} {α : Type} {E : Els α} {w : World} {B : Nat} {v : Value} {els : List (El α)} (h : RowO t n E w B v els) : ∃ a c, v = .slice a els.length c ∧ els.length ≤ c := by
  rcases h.own.2 with ⟨hn, h1⟩ | ⟨g, cap, cur, h1, h2, h3, h4, _⟩
  · exact ⟨_, _, by rw [h1]; exact hn, by rw [h1]; exact Nat.le_refl _⟩
  · exact ⟨_, _, h1, h4⟩
theorem wp_rws {α : Type} {E : Els α} (hE : KeptE E) {t ts : TypeId} {n bytes : Nat} {z : Value} (ht : Tryz.prog.underlying ts = some (.slice t)) (hinfo : (Tryz.prog.info? t).map (fun i => (i.zero, i.size, i.bytes)) = some (some z, n, bytes)) (hz : z.cells.size = n) (hn : 0 < n) (hby : bytes ≤ 1000)
    {ops : Array Oper} {rest : List Oper} {o : Oper} {a : Act} {Q : Exit → Act → World → Prop} (w : World) (hgd : o.guard = none) (s x : Operand)
    (ho : o.op = .call { callee := .builtin .append, args := #[s, x], argTypes := #[ts, ts] }) (B : Nat) (v : Value) (els : List (El α)) (hs : a.eval s = v) (h0 : RowO t n E w B v els) (hB : B ≤ w.heap.size)
    (u : Value) (hx : a.eval x = u) (els2 : List (El α)) (hu : (u = .slice none 0 0 ∧ els2 = []) ∨ ∃ g c, u = .slice (some ⟨g, 0, none⟩) els2.length c ∧ ∀ j y, (els2.flatMap (·.cs))[j]? = some y → w.cell? ⟨g, j, none⟩ = some y)
    (h1 : ∀ y ∈ els2.flatMap (·.cs), y.oneCell' = true) (h2 : Elts n E w B v els els2) (hl : els.length + els2.length ≤ 10000000)
    (h : ∀ v' w', RowO t n E w' B v' (els ++ els2) → Ext v v' w w' → wpList Tryz.prog ops Q rest (a.put o.dst v') w') : wpList Tryz.prog ops Q (o :: rest) a w := by
  obtain ⟨i0, hi, hzz'⟩ := Option.map_eq_some_iff.1 hinfo
  simp only [Prod.mk.injEq] at hzz'
  obtain ⟨hz0, hz1, hz2⟩ := hzz'
  rcases hu with ⟨hu, he2⟩ | ⟨g, c, hu, hc⟩
  · subst he2
    obtain ⟨sa, sc, hv, hle⟩ := h0.cap
    have hr : (Builtin.append_ #[ts, ts] o.type #[v, u]).run Tryz.prog w = .ok v w := by
      rw [hv, hu]
      cases sa <;> simp [Builtin.append_, run_underlying ht, sizeOf, typeInfo, hi, Builtin.lenOf, Builtin.firstCells, hle, storeCells, loadCells]
    refine wpList_plain hgd fun K hK => ?_
    unfold Oper.wp execOp
    simp only [ho, resolve, invoke, builtin, Sem.run_bind, Sem.run_pure, Result.andThen_ok, List.map_toArray, List.map_cons, List.map_nil, hs, hx, hr]
    exact hK _ _ (h v w (by rw [List.append_nil]; exact h0) (Ext.refl _ _))
  · have hmul : (els.length + els2.length) * bytes ≤ 140737488355328 := by
      have : (els.length + els2.length) * bytes ≤ 10000000 * 1000 := Nat.mul_le_mul hl hby
      omega
    refine wpList_append_own_at w hgd s x ts ho B t i0 z n bytes ht hi hz0 hz1 hz2 hz hn v els.length (els.flatMap (·.cs)) hs h0.own ⟨g, 0, none⟩ els2.length c (els2.flatMap (·.cs)) (hx.trans hu) (flat_len n els2 (fun e he => (h2.el e he).2.1)) (fun j y hj => by rw [add_at, Nat.zero_add]; exact hc j y hj) h1 (by unfold maxLen; omega) hmul hB ?_
    intro v' w' h3 h4 _ h5
    have hext : Ext v v' w w' := ⟨h4, h5.imp id fun e => ⟨_, e, Nat.le_refl _⟩⟩
    exact h v' w' (RowO.puts hE h0 h2 h3 hext) hext
/-- The cells of elements that lie in a block, one behind the other. -/
theorem RowA.flat {n : Nat} {α : Type} {E : Els α} {w : World} {g : Nat} {els : List (El α)} {F : Nat → Prop} (h : RowA n E w g els F) (hn : 0 < n) : ∀ j y, (els.flatMap (·.cs))[j]? = some y → w.cell? ⟨g, j, none⟩ = some y := by
  intro j y hj
  have hl := flat_len n els (fun e he => (h.el e he).2.1)
  have hlt := (List.getElem?_eq_some_iff.1 hj).1
  rw [hl] at hlt
  have hq : j / n < els.length := by rw [Nat.div_lt_iff_lt_mul hn]; exact hlt
  have hm : j % n < n := Nat.mod_lt _ hn
  have e1 : j / n * n + j % n = j := Nat.div_add_mod' j n
  have e2 := flat_at n els (fun e he => (h.el e he).2.1) (j / n) _ (List.getElem?_eq_getElem hq) (j % n) hm
  rw [e1, hj] at e2
  have := h.cell (j / n) _ (List.getElem?_eq_getElem hq) (j % n) y e2.symm
  rw [e1] at this
  exact this
theorem flat_take {α : Type} (els : List (El α)) (m : Nat) : ∀ (j : Nat) (y : Value), ((els.take m).flatMap (·.cs))[j]? = some y → (els.flatMap (·.cs))[j]? = some y := by
  intro j y hj
  have e : els.flatMap (·.cs) = (els.take m).flatMap (·.cs) ++ (els.drop m).flatMap (·.cs) := by rw [← List.flatMap_append, List.take_append_drop]
  rw [e, List.getElem?_append_left (List.getElem?_eq_some_iff.1 hj).1]
  exact hj
end Go.Proofs.YtnkmdmmlpidcmaaGreatDoor
