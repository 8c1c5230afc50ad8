/-
  What the specification's readers of numbers answer at any te
-/
import Derived.Test.YtdjemnbdaddegaaJAA
import Derived.Test.YtdjemnbdaddegaaJAC
import Derived.Deep.DeepCutAuto
import Derived.Deep.CutBlock
import Derived.Test.YtdjemnbdaddegaaJAB
import Derived.Deep.AppendLies
namespace Go.Proofs.Ytdjemnbdaddegaa
open Go.ChangeShapes Go.WideShapes Go.ChangeAt Go.RowKit
set_option linter.unusedVariables false
theorem dgt_some (c : Nat) : ∃ b : Bool, ∀ w, Calls Try.prog 148 #[.int .u8 (c : Int)] w fun e w' => e = .returned (.bool b) ∧ w' = w := by
 by_cases h1 : 48 ≤ (c : Int)
 ·by_cases h2 : (c : Int) ≤ 57
  ·refine ⟨true, fun w => ?_⟩
   go_enter Try.func148, Try.ntmps148
   go_wp2
   go_ret
   exact ⟨rfl, rfl⟩
  ·refine ⟨false, fun w => ?_⟩
   have h3 : decide ((c : Int) ≤ 57) = false := by simp; omega
   go_enter Try.func148, Try.ntmps148
   go_wp2
   go_ret
   exact ⟨rfl, rfl⟩
 ·refine ⟨false, fun w => ?_⟩
  go_enter Try.func148, Try.ntmps148
  go_wp2
  go_ret
  exact ⟨rfl, rfl⟩
theorem gfix_some (x : Int) : ∃ b : Bool, ∀ w, Calls Try.prog 69 #[.int .i64 x] w fun e w' => e = .returned (.bool b) ∧ w' = w := by
 by_cases h1 : -1099511627776 ≤ x
 ·by_cases h2 : x ≤ 1099511627776
  ·refine ⟨true, fun w => ?_⟩
   go_enter Try.func69, Try.ntmps69
   go_wp2
   go_ret
   exact ⟨rfl, rfl⟩
  ·refine ⟨false, fun w => ?_⟩
   have h3 : decide (x ≤ 1099511627776) = false := by simp; omega
   go_enter Try.func69, Try.ntmps69
   go_wp2
   go_ret
   exact ⟨rfl, rfl⟩
 ·refine ⟨false, fun w => ?_⟩
  have h3 : decide (-1099511627776 ≤ x) = false := by simp; omega
  go_enter Try.func69, Try.ntmps69
  go_wp2
  go_ret
  exact ⟨rfl, rfl⟩
theorem dwn_some (a b : Int) (hb : 0 < b) (hb2 : b ≤ 1000000) : ∃ v : Int, ∀ w, Calls Try.prog 104 #[.int .i64 a, .int .i64 b] w fun e w' => e = .returned (.int .i64 v) ∧ w' = w := by
 have hdb : decide (b < 0) = false := by simp; omega
 have hz : (b == 0) = false := by simp; omega
 obtain ⟨r, hr⟩ : ∃ r, a.tmod b = r := ⟨_, rfl⟩
 obtain ⟨q, hq⟩ : ∃ q, a.tdiv b = q := ⟨_, rfl⟩
 by_cases hr0 : r = 0
 ·refine ⟨wrap64 q, fun w => ?_⟩
  go_enter Try.func104, Try.ntmps104
  go_wp2
  go_ret
  exact ⟨rfl, rfl⟩
 ·have hrn : (r != 0) = true := by simp; omega
  by_cases ha : a < 0
  ·refine ⟨wrap64 (wrap64 q - 1), fun w => ?_⟩
   go_enter Try.func104, Try.ntmps104
   go_wp2
   go_ret
   exact ⟨rfl, rfl⟩
  ·have hda : decide (a < 0) = false := by simp; omega
   refine ⟨wrap64 q, fun w => ?_⟩
   go_enter Try.func104, Try.ntmps104
   go_wp2
   go_ret
   exact ⟨rfl, rfl⟩
theorem dwn_any (a b : Int) (hb : 0 < b) (hb2 : b ≤ 1000000) (w : World) : Calls Try.prog 104 #[.int .i64 a, .int .i64 b] w fun e w' => ∃ v : Int, e = .returned (.int .i64 v) ∧ w = w' := by
 obtain ⟨v, hv⟩ := dwn_some a b hb hb2
 exact (hv w).mono fun e w' ⟨h1, h2⟩ => ⟨v, h1, h2.symm⟩
theorem gfix_any (a : Int) (w : World) : Calls Try.prog 69 #[.int .i64 a] w fun e w' => ∃ v : Bool, e = .returned (.bool v) ∧ w = w' := by
 obtain ⟨v, hv⟩ := gfix_some a
 exact (hv w).mono fun e w' ⟨h1, h2⟩ => ⟨v, h1, h2.symm⟩
def txSz : Value → Nat
 | .string t => t.size
 | _ => 0
def TxtLe (m : Nat) (w : World) (e : Ending) (w' : World) : Prop := ∃ t : ByteArray, e = .returned (.string t) ∧ t.size ≤ m ∧ w' = w
theorem blank_some (c : Nat) : ∃ b : Bool, ∀ w, Calls Try.prog 134 #[.int .u8 (c : Int)] w fun e w' => e = .returned (.bool b) ∧ w' = w := by
 by_cases h1 : c = 9
 ·subst h1
  refine ⟨true, fun w => ?_⟩
  go_enter Try.func134, Try.ntmps134
  go_wp2
  go_ret
  exact ⟨rfl, rfl⟩
 by_cases h2 : c = 10
 ·subst h2
  refine ⟨true, fun w => ?_⟩
  go_enter Try.func134, Try.ntmps134
  go_wp2
  go_ret
  exact ⟨rfl, rfl⟩
 by_cases h3 : c = 13
 ·subst h3
  refine ⟨true, fun w => ?_⟩
  go_enter Try.func134, Try.ntmps134
  go_wp2
  go_ret
  exact ⟨rfl, rfl⟩
 have e1 : ((c : Int) == 9) = false := by simp; omega
 have e2 : ((c : Int) == 10) = false := by simp; omega
 have e3 : ((c : Int) == 13) = false := by simp; omega
 obtain ⟨b, hb⟩ : ∃ b, ((c : Int) == 32) = b := ⟨_, rfl⟩
 refine ⟨b, fun w => ?_⟩
 go_enter Try.func134, Try.ntmps134
 go_wp2
 go_ret
 exact ⟨rfl, rfl⟩
theorem ex_sizeW (s : ByteArray) (i j : Nat) (hij : i ≤ j) (hj : j ≤ s.size) : (s.extract i j).size = j - i := by
 rw [ByteArray.size_extract]; omega
set_option maxHeartbeats 2000000 in
theorem trim_some (s : ByteArray) (w : World) (hs : s.size ≤ 1048576) : Calls Try.prog 111 #[.string s] w fun e w' => TxtLe s.size w e w' := by
 go_enter Try.func111, Try.ntmps111
 go_wp2
 go_loop [0] (fun v => ∃ t : ByteArray, v = .string t ∧ t.size ≤ s.size) (fun v => txSz v)
 case atStart => exact ⟨s, rfl, Nat.le_refl _⟩
 case round =>
  obtain ⟨t, rfl, hts⟩ := hrel
  by_cases h0 : 0 < t.size
  ·obtain ⟨b, hb⟩ := blank_some t[0].toNat
   have HB : Hid _ := hb
   clear hb
   have hz : decide ((0 : Int) < (t.size : Int)) = true := decide_eq_true (by omega)
   cases b with
   | true =>
    have he := ex_sizeW t 1 t.size (by omega) (Nat.le_refl _)
    go_wp2_with (go_at_call 134; refine (HB.out _).mono ?_; rintro e w' ⟨rfl, rfl⟩)
    go_round
    case rel => exact ⟨_, rfl, by rw [he]; omega⟩
    case measure => simp [txSz, he]; omega
   | false =>
    go_wp2_with (go_at_call 134; refine (HB.out _).mono ?_; rintro e w' ⟨rfl, rfl⟩)
    clear HB
    go_loop [0] (fun v => ∃ t : ByteArray, v = .string t ∧ t.size ≤ s.size) (fun v => txSz v)
    case atStart => exact ⟨t, rfl, hts⟩
    case round =>
     clear hz
     obtain ⟨t, rfl, hts⟩ := hrel
     by_cases h0 : 0 < t.size
     ·obtain ⟨m, hm⟩ : ∃ m, t.size = m + 1 := ⟨t.size - 1, by omega⟩
      have hi : m < t.size := by omega
      obtain ⟨b, hb⟩ := blank_some t[m].toNat
      have HB : Hid _ := hb
      clear hb
      have hz : decide ((0 : Int) < (t.size : Int)) = true := decide_eq_true (by omega)
      cases b with
      | true =>
       have he := ex_sizeW t 0 m (by omega) (by omega)
       go_wp2_with (go_at_call 134; refine (HB.out _).mono ?_; rintro e w' ⟨rfl, rfl⟩)
       go_round
       case rel => exact ⟨_, rfl, by rw [he]; omega⟩
       case measure => simp [txSz, he]; omega
      | false =>
       go_wp2_with (go_at_call 134; refine (HB.out _).mono ?_; rintro e w' ⟨rfl, rfl⟩)
       go_ret
       exact ⟨t, rfl, hts, rfl⟩
     ·have hz : decide ((0 : Int) < (t.size : Int)) = false := decide_eq_false (by omega)
      go_wp2
      go_ret
      exact ⟨t, rfl, hts, rfl⟩
  ·have hz : decide ((0 : Int) < (t.size : Int)) = false := decide_eq_false (by omega)
   go_wp2
   go_loop [0] (fun v => ∃ t : ByteArray, v = .string t ∧ t.size ≤ s.size) (fun v => txSz v)
   case atStart => exact ⟨t, rfl, hts⟩
   case round =>
    clear hz
    obtain ⟨t, rfl, hts⟩ := hrel
    by_cases h0 : 0 < t.size
    ·obtain ⟨m, hm⟩ : ∃ m, t.size = m + 1 := ⟨t.size - 1, by omega⟩
     have hi : m < t.size := by omega
     obtain ⟨b, hb⟩ := blank_some t[m].toNat
     have HB : Hid _ := hb
     clear hb
     have hz : decide ((0 : Int) < (t.size : Int)) = true := decide_eq_true (by omega)
     cases b with
     | true =>
      have he := ex_sizeW t 0 m (by omega) (by omega)
      go_wp2_with (go_at_call 134; refine (HB.out _).mono ?_; rintro e w' ⟨rfl, rfl⟩)
      go_round
      case rel => exact ⟨_, rfl, by rw [he]; omega⟩
      case measure => simp [txSz, he]; omega
     | false =>
      go_wp2_with (go_at_call 134; refine (HB.out _).mono ?_; rintro e w' ⟨rfl, rfl⟩)
      go_ret
      exact ⟨t, rfl, hts, rfl⟩
    ·have hz : decide ((0 : Int) < (t.size : Int)) = false := decide_eq_false (by omega)
     go_wp2
     go_ret
     exact ⟨t, rfl, hts, rfl⟩
set_option maxHeartbeats 2000000 in
theorem gap_some (s : ByteArray) (w : World) (hs : s.size ≤ 1048576) : Calls Try.prog 132 #[.string s] w fun e w' => TxtLe s.size w e w' := by
 go_enter Try.func132, Try.ntmps132
 obtain ⟨t, hts, hst⟩ : ∃ t : ByteArray, t.size ≤ s.size ∧ s = t := ⟨s, Nat.le_refl _, rfl⟩
 rw [show (Value.string s) = .string t by rw [hst]]
 clear hst
 go_upto_block 0 with fail
 go_cut [0] (fun v wx => ∃ t : ByteArray, v = .string t ∧ t.size ≤ s.size ∧ wx = w)
 case first =>
  go_wp2
  go_loop [0] (fun v => ∃ t : ByteArray, v = .string t ∧ t.size ≤ s.size) (fun v => txSz v)
  case atStart => exact ⟨t, rfl, hts⟩
  case round =>
   clear hts
   obtain ⟨t, rfl, hts⟩ := hrel
   by_cases h0 : 0 < t.size
   ·obtain ⟨b, hb⟩ := blank_some t[0].toNat
    have HB : Hid _ := hb
    clear hb
    have hz : decide ((0 : Int) < (t.size : Int)) = true := decide_eq_true (by omega)
    cases b with
    | true =>
     have he := ex_sizeW t 1 t.size (by omega) (Nat.le_refl _)
     go_wp2_with (go_at_call 134; refine (HB.out _).mono ?_; rintro e w' ⟨rfl, rfl⟩)
     go_round
     case rel => exact ⟨_, rfl, by rw [he]; omega⟩
     case measure => simp [txSz, he]; omega
    | false =>
     go_wp2_with (go_at_call 134; refine (HB.out _).mono ?_; rintro e w' ⟨rfl, rfl⟩)
     go_meet
     exact ⟨t, rfl, hts, rfl⟩
   ·have hz : decide ((0 : Int) < (t.size : Int)) = false := decide_eq_false (by omega)
    go_wp2
    go_meet
    exact ⟨t, rfl, hts, rfl⟩
 case rest =>
  clear hts t
  obtain ⟨t, rfl, hts, rfl⟩ := hcut
  by_cases h0 : 0 < t.size
  case' pos =>
   have hz : decide ((0 : Int) < (t.size : Int)) = true := decide_eq_true (by omega)
   have he := ex_sizeW t 1 t.size (by omega) (Nat.le_refl _)
   cases hb : ((t[0].toNat : Int) == 44)
   case' true => go_upto_block 2 with fail
   case' false => go_upto_block 2 with fail
  case' neg =>
   have hz : decide ((0 : Int) < (t.size : Int)) = false := decide_eq_false (by omega)
   go_upto_block 2 with fail
  all_goals
   go_wp2
   go_loop [0] (fun v => ∃ t : ByteArray, v = .string t ∧ t.size ≤ s.size) (fun v => txSz v)
   case atStart => first | exact ⟨_, rfl, hts⟩ | exact ⟨_, rfl, by rw [he]; omega⟩
   case round =>
    clear hts
    obtain ⟨t, rfl, hts⟩ := hrel
    by_cases h0 : 0 < t.size
    ·obtain ⟨b, hb⟩ := blank_some t[0].toNat
     have HB : Hid _ := hb
     clear hb
     have hz : decide ((0 : Int) < (t.size : Int)) = true := decide_eq_true (by omega)
     cases b with
     | true =>
      have he := ex_sizeW t 1 t.size (by omega) (Nat.le_refl _)
      go_wp2_with (go_at_call 134; refine (HB.out _).mono ?_; rintro e w' ⟨rfl, rfl⟩)
      go_round
      case rel => exact ⟨_, rfl, by rw [he]; omega⟩
      case measure => simp [txSz, he]; omega
     | false =>
      go_wp2_with (go_at_call 134; refine (HB.out _).mono ?_; rintro e w' ⟨rfl, rfl⟩)
      go_ret
      exact ⟨t, rfl, hts, rfl⟩
    ·have hz : decide ((0 : Int) < (t.size : Int)) = false := decide_eq_false (by omega)
     go_wp2
     go_ret
     exact ⟨t, rfl, hts, rfl⟩
def DecS (s : ByteArray) (w : World) (e : Ending) (w' : World) : Prop := ∃ (n : Nat) (x : Int), e = .returned (.tuple #[.int .i64 (n : Int), .int .i64 x]) ∧ n ≤ s.size ∧ w' = w
theorem dec_nil (s : ByteArray) (w : World) (hs : s.size = 0) : Calls Try.prog 142 #[.string s] w fun e w' => DecS s w e w' := by
 have hz : decide ((0 : Int) < (s.size : Int)) = false := decide_eq_false (by omega)
 have hz1 : decide ((1 : Int) < (s.size : Int)) = false := decide_eq_false (by omega)
 go_enter Try.func142, Try.ntmps142
 go_wp2
 go_loop [4, 6, 7] (fun p n q => p = .int .i64 0 ∧ n = .int .i64 0 ∧ q = .int .i64 0) (fun _ _ _ => 0)
 case atStart => exact ⟨rfl, rfl, rfl⟩
 case round =>
  obtain ⟨rfl, rfl, rfl⟩ := hrel
  go_wp2
  go_ret2
  exact ⟨0, 0, rfl, Nat.zero_le _, rfl⟩
set_option maxHeartbeats 4000000 in
theorem dec_some (s : ByteArray) (w : World) (hs : s.size ≤ 1048576) : Calls Try.prog 142 #[.string s] w fun e w' => DecS s w e w' := by
 by_cases h0 : 0 < s.size
 case neg => exact dec_nil s w (by omega)
 go_enter Try.func142, Try.ntmps142
 have hz : decide ((0 : Int) < (s.size : Int)) = true := decide_eq_true (by omega)
 cases h45 : ((s[0].toNat : Int) == 45)
 case' true => go_upto_block 0 with fail
 case' false =>
  cases h43 : ((s[0].toNat : Int) == 43)
  case' true => go_upto_block 0 with fail
  case' false => go_upto_block 0 with fail
 all_goals
  go_cut [4, 6, 7] (fun p n q wx => ∃ (k : Nat) (x c : Int), p = .int .i64 (k : Int) ∧ n = .int .i64 x ∧ q = .int .i64 c ∧ k ≤ s.size ∧ 0 ≤ c ∧ c ≤ (k : Int) ∧ w = wx)
  case first =>
   go_wp2
   go_loop [4, 6, 7] (fun p n q => ∃ (k : Nat) (x c : Int), p = .int .i64 (k : Int) ∧ n = .int .i64 x ∧ q = .int .i64 c ∧ k ≤ s.size ∧ 0 ≤ c ∧ c ≤ (k : Int)) (fun p _ _ => s.size - (intOf p).toNat)
   case atStart => first | exact ⟨0, 0, 0, rfl, rfl, rfl, by omega, by omega, by omega⟩ | exact ⟨1, 0, 0, rfl, rfl, rfl, by omega, by omega, by omega⟩
   case round =>
    obtain ⟨k, x, c, rfl, rfl, rfl, hk, hc0, hck⟩ := hrel
    by_cases hlt : k < s.size
    ·obtain ⟨b, hb⟩ := dgt_some s[k].toNat
     have HB : Hid _ := hb
     clear hb
     have hz : decide ((k : Int) < (s.size : Int)) = true := decide_eq_true (by omega)
     cases b with
     | true =>
      by_cases h9 : c < 9
      ·have h9' : decide (c < 9) = true := decide_eq_true h9
       go_wp2_with (go_at_call 148; refine (HB.out _).mono ?_; rintro e w' ⟨rfl, hw9⟩; have hw8 := hw9.symm; clear hw9; subst hw8)
       go_round
       case rel => exact ⟨k + 1, _, c + 1, by go_num, rfl, by go_num, by omega, by omega, by omega⟩
       case measure => simp [intOf]; omega
      ·have h9' : decide (c < 9) = false := decide_eq_false h9
       go_wp2_with (go_at_call 148; refine (HB.out _).mono ?_; rintro e w' ⟨rfl, hw9⟩; have hw8 := hw9.symm; clear hw9; subst hw8)
       go_round
       case rel => exact ⟨k + 1, _, c + 1, by go_num, rfl, by go_num, by omega, by omega, by omega⟩
       case measure => simp [intOf]; omega
     | false =>
      go_wp2_with (go_at_call 148; refine (HB.out _).mono ?_; rintro e w' ⟨rfl, hw9⟩; have hw8 := hw9.symm; clear hw9; subst hw8)
      go_meet
      exact ⟨k, _, _, rfl, rfl, rfl, hk, hc0, hck, rfl⟩
    ·have hz : decide ((k : Int) < (s.size : Int)) = false := decide_eq_false (by omega)
     go_wp2
     go_meet
     exact ⟨k, _, _, rfl, rfl, rfl, hk, hc0, hck, rfl⟩
  case rest =>
   obtain ⟨k, x, c, rfl, rfl, rfl, hk, hc0, hck, rfl⟩ := hcut
   by_cases h1 : k + 1 < s.size
   case' pos =>
    have hz1 : decide ((k : Int) + 1 < (s.size : Int)) = true := decide_eq_true (by omega)
    have hk1 : k < s.size := by omega
    cases hp : ((s[k].toNat : Int) == 46)
    case' true =>
     obtain ⟨b, hb⟩ := dgt_some s[k + 1].toNat
     have HB : Hid _ := hb
     clear hb
     cases b
     case' true =>
      go_upto_block 2 with (go_at_call 148; refine (HB.out _).mono ?_; rintro e w' ⟨rfl, hw9⟩; have hw8 := hw9.symm; clear hw9; subst hw8)
      go_cut [4, 6, 8] (fun p n q wx => ∃ (k : Nat) (x c : Int), p = .int .i64 (k : Int) ∧ n = .int .i64 x ∧ q = .int .i64 c ∧ k ≤ s.size ∧ 0 ≤ c ∧ c ≤ (k : Int) ∧ w = wx)
      case first =>
       go_wp2
       go_loop [4, 6, 8] (fun p n q => ∃ (k : Nat) (x c : Int), p = .int .i64 (k : Int) ∧ n = .int .i64 x ∧ q = .int .i64 c ∧ k ≤ s.size ∧ 0 ≤ c ∧ c ≤ (k : Int)) (fun p _ _ => s.size - (intOf p).toNat)
       case atStart => exact ⟨k + 1, x, 0, by go_num, rfl, rfl, by omega, by omega, by omega⟩
       case round =>
        obtain ⟨k, x, c, rfl, rfl, rfl, hk, hc0, hck⟩ := hrel
        by_cases hlt : k < s.size
        ·obtain ⟨b, hb⟩ := dgt_some s[k].toNat
         have HB : Hid _ := hb
         clear hb
         have hz : decide ((k : Int) < (s.size : Int)) = true := decide_eq_true (by omega)
         cases b with
         | true =>
          by_cases h9 : c < 6
          ·have h9' : decide (c < 6) = true := decide_eq_true h9
           go_wp2_with (go_at_call 148; refine (HB.out _).mono ?_; rintro e w' ⟨rfl, hw9⟩; have hw8 := hw9.symm; clear hw9; subst hw8)
           go_round
           case rel => exact ⟨k + 1, _, c + 1, by go_num, rfl, by go_num, by omega, by omega, by omega⟩
           case measure => simp [intOf]; omega
          ·have h9' : decide (c < 6) = false := decide_eq_false h9
           go_wp2_with (go_at_call 148; refine (HB.out _).mono ?_; rintro e w' ⟨rfl, hw9⟩; have hw8 := hw9.symm; clear hw9; subst hw8)
           go_round
           case rel => exact ⟨k + 1, _, c + 1, by go_num, rfl, by go_num, by omega, by omega, by omega⟩
           case measure => simp [intOf]; omega
         | false =>
          go_wp2_with (go_at_call 148; refine (HB.out _).mono ?_; rintro e w' ⟨rfl, hw9⟩; have hw8 := hw9.symm; clear hw9; subst hw8)
          go_meet
          exact ⟨k, _, _, rfl, rfl, rfl, hk, hc0, hck, rfl⟩
        ·have hz : decide ((k : Int) < (s.size : Int)) = false := decide_eq_false (by omega)
         go_wp2
         go_meet
         exact ⟨k, _, _, rfl, rfl, rfl, hk, hc0, hck, rfl⟩
      case' rest =>
       obtain ⟨k2, x2, d, rfl, rfl, rfl, hk2, hd0, hdk, rfl⟩ := hcut
     case' false =>
      go_upto_region 21 with (go_at_call 148; refine (HB.out _).mono ?_; rintro e w' ⟨rfl, hw9⟩; have hw8 := hw9.symm; clear hw9; subst hw8)
      obtain ⟨d, hd0, hdk⟩ : ∃ d : Int, 0 ≤ d ∧ d ≤ (k : Int) := ⟨0, by omega, by omega⟩
    case' false =>
     go_upto_region 21 with fail
     obtain ⟨d, hd0, hdk⟩ : ∃ d : Int, 0 ≤ d ∧ d ≤ (k : Int) := ⟨0, by omega, by omega⟩
   case' neg =>
    have hz1 : decide ((k : Int) + 1 < (s.size : Int)) = false := decide_eq_false (by omega)
    go_upto_region 21 with fail
    obtain ⟨d, hd0, hdk⟩ : ∃ d : Int, 0 ≤ d ∧ d ≤ (k : Int) := ⟨0, by omega, by omega⟩
   all_goals
    go_wp2
    all_goals try (go_ret2; exact ⟨0, 0, rfl, Nat.zero_le _, rfl⟩)
    all_goals
     go_loop [6, 9] (fun n q => ∃ x j : Int, n = .int .i64 x ∧ q = .int .i64 j ∧ 0 ≤ j) (fun _ q => (6 - intOf q).toNat)
     case atStart => first | exact ⟨_, _, rfl, rfl, hd0⟩ | exact ⟨_, 0, rfl, rfl, by omega⟩
     case round =>
      obtain ⟨x3, j, rfl, rfl, hj⟩ := hrel
      by_cases hj6 : j < 6
      ·have hj7 : decide (j < 6) = true := decide_eq_true hj6
       go_wp2
       go_round
       case rel => exact ⟨_, j + 1, rfl, by go_num, by omega⟩
       case measure => simp [intOf]; omega
      ·have hj7 : decide (j < 6) = false := decide_eq_false hj6
       go_wp2_with fail
       refine (dwn_any _ 1000000 (by omega) (by omega) _).mono ?_
       rintro e w' ⟨v, rfl, rfl⟩
       go_wp2_with fail
       refine (gfix_any _ _).mono ?_
       rintro e w' ⟨b, rfl, rfl⟩
       cases b with
       | true =>
        go_wp2
        go_ret2
        exact ⟨_, _, rfl, by omega, rfl⟩
       | false =>
        go_wp2
        go_ret2
        exact ⟨0, 0, rfl, Nat.zero_le _, rfl⟩
theorem few_form {w : World} {B : Nat} {v : Value} {l : List Int} (h : Ins w B v l) : ∃ a c, v = .slice a l.length c := by
 rcases h.lay with ⟨rfl, rfl⟩ | ⟨g, c, rfl, _⟩
 ·exact ⟨none, 0, rfl⟩
 ·exact ⟨_, c, rfl⟩
def FewS (w : World) (e : Ending) (w' : World) : Prop := ∃ v l ok, e = .returned (.tuple #[v, .bool ok]) ∧ l.length ≤ 60 ∧ Ins w' w.heap.size v l ∧ Below w.heap.size w w'
set_option maxHeartbeats 4000000 in
theorem snums_few (s : ByteArray) (w : World) (hs : s.size ≤ 1048576) : Calls Try.prog 129 #[.string s] w fun e w' => FewS w e w' := by
 have HT : Hid _ := fun w => trim_some s w (by omega)
 go_enter Try.func129, Try.ntmps129
 go_wp2_with fail
 refine (HT.out _).mono ?_
 rintro e w0 ⟨T, rfl, hTs, hw⟩
 have hw2 := hw.symm
 clear hw
 subst hw2
 clear HT
 go_wp2
 go_loopw [0, 4] (fun x y wr => ∃ (t : ByteArray) (out : List Int) (v : Value), x = .string t ∧ y = v ∧ t.size ≤ s.size ∧ out.length ≤ 60 ∧ Ins wr w.heap.size v out ∧ Below w.heap.size w wr) (fun x _ _ => txSz x)
 case atStart => exact ⟨T, [], _, rfl, rfl, hTs, by simp, Ins.nil _ _, Below.refl _ _⟩
 case round =>
  obtain ⟨t, out, v, rfl, hy, hts, hlen, hins, hw⟩ := hrel
  have hy2 := hy.symm
  clear hy
  subst hy2
  have HI : Hid (Ins wr w.heap.size v out) := hins
  have HW : Hid (Below w.heap.size w wr) := hw
  obtain ⟨va, vc, rfl⟩ := few_form hins
  clear hins hw
  go_wp2_with fail
  refine (dec_some t _ (by omega)).mono ?_
  rintro e w1 ⟨n, y, rfl, hn, hw1⟩
  have hw2 := hw1.symm
  clear hw1
  subst hw2
  by_cases hn0 : n = 0
  ·subst hn0
   go_wp2
   go_ret2
   exact ⟨_, [], false, rfl, by simp, Ins.nil _ _, HW.out⟩
  ·have z : ((n : Int) == 0) = false := by rw [beq_eq_false_iff_ne]; omega
   by_cases h60 : out.length = 60
   ·have hq60 : ((out.length : Int) == 60) = true := by rw [h60]; rfl
    go_wp2
    go_ret2
    exact ⟨_, [], false, rfl, by simp, Ins.nil _ _, HW.out⟩
   ·have hq60 : ((out.length : Int) == 60) = false := by rw [beq_eq_false_iff_ne]; omega
    have HB0 : ∀ o, Hid (Nw wr (wr.alloc o)) := fun o => (Below.refl _ _).alloc (Nat.le_refl _) o
    have HA0 : ∀ o, Hid (Below w.heap.size w (wr.alloc o)) := fun o => Below.trans HW.out (Below.mono (HB0 o).out (Below.size HW.out))
    have hol : out.length ≤ 10000000 := by omega
    go_wp2_with (at_builtin; (refine wp_in _ rfl _ _ rfl w.heap.size _ out y rfl (HI.out.nw (HB0 _).out) _ rfl ?c1 hol ?c3 ?_))
    case c1 => simp
    case c3 => exact Below.size (HA0 _).out
    intro v' w' h1 h2
    have HN3 : Hid (Below w.heap.size w w') := Below.trans (HA0 _).out (Ins.below (HI.out.nw (HB0 _).out) h2 (Below.size (HA0 _).out))
    have hl1 : (out ++ [y]).length = out.length + 1 := by simp
    obtain ⟨va', vc', hv'⟩ := few_form h1
    rw [hl1] at hv'
    subst hv'
    have H1 : Hid (Ins w' w.heap.size (.slice va' (out.length + 1) vc') (out ++ [y])) := h1
    have HL1 : Hid ((out ++ [y]).length = out.length + 1) := hl1
    have hl2 : (out ++ [y]).length ≤ 60 := by omega
    clear h1 h2 hl1 HB0 HA0 HI HW
    generalize out ++ [y] = out2 at *
    have hrs := ex_sizeW t n t.size hn (Nat.le_refl _)
    by_cases hend : n = t.size
    ·have hrest : t.extract n t.size = ⟨#[]⟩ := empty_of (by omega)
     go_wp2
     go_ret2
     exact ⟨_, out2, true, rfl, hl2, H1.out, HN3.out⟩
    ·have q0 := ne_emp (s := t.extract n t.size) (by omega)
     have q0b := ne_nil (s := t.extract n t.size) (by omega)
     obtain ⟨rt, hrt⟩ : ∃ rt, t.extract n t.size = rt := ⟨_, rfl⟩
     rw [hrt] at hrs q0 q0b
     go_wp2_with fail
     refine (gap_some rt _ (by omega)).mono ?_
     rintro e w4 ⟨gt, rfl, hg, hw4⟩
     have hw5 := hw4.symm
     clear hw4
     subst hw5
     by_cases hsame : gt.size = rt.size
     ·have hq : ((gt.size : Int) == (rt.size : Int)) = true := by rw [hsame]; simp
      have hz : 0 < gt.size := by omega
      have i0 : (0 : Int) < (gt.size : Int) := by omega
      cases c45 : ((gt[0].toNat : Int) != 45)
      ·go_wp2
       go_roundw
       case rel => exact ⟨gt, out2, _, rfl, rfl, by omega, hl2, H1.out, HN3.out⟩
       case measure => simp [txSz]; omega
      ·cases c43 : ((gt[0].toNat : Int) != 43)
       ·go_wp2
        go_roundw
        case rel => exact ⟨gt, out2, _, rfl, rfl, by omega, hl2, H1.out, HN3.out⟩
        case measure => simp [txSz]; omega
       ·go_wp2
        go_ret2
        exact ⟨_, [], false, rfl, by simp, Ins.nil _ _, HN3.out⟩
     ·have hq : ((gt.size : Int) == (rt.size : Int)) = false := by rw [beq_eq_false_iff_ne]; omega
      go_wp2
      go_roundw
      case rel => exact ⟨gt, out2, _, rfl, rfl, by omega, hl2, H1.out, HN3.out⟩
      case measure => simp [txSz]; omega
abbrev Pnt := Int × Int
def ptAt (l : List Pnt) (i : Nat) : Pnt := l.getD i (0, 0)
abbrev ptV (p : Pnt) : Value := .agg #[.int .i64 p.1, .int .i64 p.2]
def Pts (w : World) (a : Option Addr) (l : List Pnt) : Prop :=
 l = [] ∨ ∃ b off, a = some ⟨b, off, none⟩ ∧ b < w.heap.size ∧ ∀ i, i < l.length → w.cell? ⟨b, off + i * 2, none⟩ = some (.int .i64 (ptAt l i).1) ∧ w.cell? ⟨b, off + i * 2 + 1, none⟩ = some (.int .i64 (ptAt l i).2)
theorem Pts.nw {w w' : World} {a : Option Addr} {l : List Pnt} (h : Pts w a l) (k : Nw w w') : Pts w' a l := by
 rcases h with h | ⟨b, off, rfl, hb, hc⟩
 ·exact Or.inl h
 ·exact Or.inr ⟨b, off, rfl, Nat.lt_of_lt_of_le hb (Below.size k), fun i hi => ⟨((bcell k).1 _ _ hb).trans (hc i hi).1, ((bcell k).1 _ _ hb).trans (hc i hi).2⟩⟩
def LayPt (w : World) (g : Nat) (l : List Pnt) (k : Nat) : Prop :=
 g < w.heap.size ∧ (∀ i, i < k → w.cell? ⟨g, i * 2, none⟩ = some (.int .i64 (ptAt l i).1) ∧ w.cell? ⟨g, i * 2 + 1, none⟩ = some (.int .i64 (ptAt l i).2)) ∧ (∀ i, k ≤ i → i < l.length → w.cell? ⟨g, i * 2, none⟩ = some (.int .i64 0) ∧ w.cell? ⟨g, i * 2 + 1, none⟩ = some (.int .i64 0)) ∧ ∀ o, w.frozen? ⟨g, o, none⟩ = false
theorem LayPt.nw {w w' : World} {g k : Nat} {l : List Pnt} (h : LayPt w g l k) (q : Nw w w') : LayPt w' g l k :=
 ⟨Nat.lt_of_lt_of_le h.1 (Below.size q), fun i hi => ⟨((bcell q).1 _ _ h.1).trans (h.2.1 i hi).1, ((bcell q).1 _ _ h.1).trans (h.2.1 i hi).2⟩,
  fun i hi hj => ⟨((bcell q).1 _ _ h.1).trans (h.2.2.1 i hi hj).1, ((bcell q).1 _ _ h.1).trans (h.2.2.1 i hi hj).2⟩, fun o => ((bcell q).2 _ _ h.1).trans (h.2.2.2 o)⟩
theorem LayPt.off {w : World} {g k : Nat} {l : List Pnt} (h : LayPt w g l k) (b o : Nat) (v : Value) (hne : b ≠ g) : LayPt (w.setCell ⟨b, o, none⟩ v) g l k := by
 have far : ∀ x, (w.setCell ⟨b, o, none⟩ v).cell? ⟨g, x, none⟩ = w.cell? ⟨g, x, none⟩ := fun x => World.cell?_setCell_other _ _ _ _ (fun h => by injection h; omega)
 refine ⟨by simpa [World.setCell] using h.1, fun m hm => ?_, fun m hm1 hm2 => ?_, fun x => ?_⟩
 ·rw [far, far]; exact h.2.1 m hm
 ·rw [far, far]; exact h.2.2.1 m hm1 hm2
 ·rw [World.frozen?_setCell]; exact h.2.2.2 x
theorem LayPt.pts {w : World} {g : Nat} {l : List Pnt} (h : LayPt w g l l.length) : Pts w (some ⟨g, 0, none⟩) l :=
 Or.inr ⟨g, 0, rfl, h.1, fun i hi => by simpa using h.2.1 i hi⟩
theorem Try.info27 : (Try.prog.info? 27).map (fun i => (i.zero, i.size, i.bytes)) = some (some (.agg #[.int .i64 0, .int .i64 0]), 2, 16) := by kernel_rfl
theorem LayPt.start (w : World) (l : List Pnt) (t : TypeId) : LayPt (w.alloc (.cells (madeCells #[.int .i64 0, .int .i64 0] (l.length * 2)) t)) w.heap.size l 0 := by
 refine ⟨by simp, fun i hi => absurd hi (by omega), fun i _ hi => ⟨?_, ?_⟩, fun o => World.frozen?_alloc_at _ _ _ _ rfl⟩
 ·have := madeCells_get #[.int .i64 0, .int .i64 0] (l.length * 2) (i * 2) (by omega)
  simp at this
  simp [this]
 ·have := madeCells_get #[.int .i64 0, .int .i64 0] (l.length * 2) (i * 2 + 1) (by omega)
  have e : (i * 2 + 1) % 2 = 1 := by omega
  simp [e] at this
  simp [this]
def mkP (K n : Nat) : List Pnt := (List.range n).map fun i => (((K + 2 * i : Nat) : Int), ((K + 2 * i + 1 : Nat) : Int))
theorem mkP_len (K n : Nat) : (mkP K n).length = n := by simp [mkP]
theorem mkP_at (K n i : Nat) (h : i < n) : ptAt (mkP K n) i = (((K + 2 * i : Nat) : Int), ((K + 2 * i + 1 : Nat) : Int)) := by simp [ptAt, mkP, h]
def AnyPt (w : World) (g n : Nat) : Prop :=
 g < w.heap.size ∧ (∀ i, i < n → (∃ x : Int, w.cell? ⟨g, i * 2, none⟩ = some (.int .i64 x)) ∧ ∃ y : Int, w.cell? ⟨g, i * 2 + 1, none⟩ = some (.int .i64 y)) ∧ ∀ o, w.frozen? ⟨g, o, none⟩ = false
theorem LayPt.any {w : World} {g : Nat} {l : List Pnt} (h : LayPt w g l l.length) : AnyPt w g l.length := ⟨h.1, fun i hi => ⟨⟨_, (h.2.1 i hi).1⟩, ⟨_, (h.2.1 i hi).2⟩⟩, h.2.2.2⟩
def MkPt (w : World) (g K n j : Nat) : Prop :=
 g < w.heap.size ∧ (∀ i, i < j → w.cell? ⟨g, i * 2, none⟩ = some (.int .i64 ((K + 2 * i : Nat) : Int)) ∧ w.cell? ⟨g, i * 2 + 1, none⟩ = some (.int .i64 ((K + 2 * i + 1 : Nat) : Int))) ∧
  (∀ i, j ≤ i → i < n → (∃ x : Int, w.cell? ⟨g, i * 2, none⟩ = some (.int .i64 x)) ∧ ∃ y : Int, w.cell? ⟨g, i * 2 + 1, none⟩ = some (.int .i64 y)) ∧ ∀ o, w.frozen? ⟨g, o, none⟩ = false
theorem MkPt.lay {w : World} {g K n : Nat} (h : MkPt w g K n n) : LayPt w g (mkP K n) n :=
 ⟨h.1, fun i hi => by rw [mkP_at K n i hi]; exact h.2.1 i hi, fun i a b => absurd b (by rw [mkP_len]; omega), h.2.2.2⟩
abbrev VV := Value × Value
def flat2 : List VV → List Value
 | [] => []
 | p :: l => p.1 :: p.2 :: flat2 l
theorem flat2_len (l : List VV) : (flat2 l).length = l.length * 2 := by
 induction l with
 | nil => rfl
 | cons p l ih => simp only [flat2, List.length_cons, ih]; omega
theorem flat2_append (l m : List VV) : flat2 (l ++ m) = flat2 l ++ flat2 m := by
 induction l with
 | nil => rfl
 | cons p l ih => simp only [flat2, List.cons_append, ih]
def vvAt (l : List VV) (i : Nat) : VV := l.getD i (undef, undef)
theorem flat2_at (l : List VV) : ∀ i, i < l.length → (flat2 l)[i * 2]? = some (vvAt l i).1 ∧ (flat2 l)[i * 2 + 1]? = some (vvAt l i).2 := by
 induction l with
 | nil => intro i hi; simp at hi
 | cons p l ih =>
  intro i hi
  cases i with
  | zero => exact ⟨rfl, rfl⟩
  | succ i =>
   have h := ih i (by simpa using hi)
   have e : (i + 1) * 2 = i * 2 + 2 := by omega
   rw [e]
   simpa [flat2, vvAt] using h
def OwnQ (T : TypeId) (w : World) (B : Nat) (v : Value) (l : List VV) : Prop := w.ownsRow B T 2 v l.length (flat2 l)
theorem OwnQ.nil (T : TypeId) (w : World) (B : Nat) : OwnQ T w B (.slice none 0 0) [] := World.ownsRow_nil w B T 2
theorem OwnQ.nw {T : TypeId} {w w' : World} {B : Nat} {v : Value} {l : List VV} (h : OwnQ T w B v l) (k : Nw w w') : OwnQ T w' B v l :=
 World.ownsRow.kept h (row := none) ⟨Below.os k, Below.tape k, Below.output k, Below.size k, fun b hb _ => Below.block k b hb⟩ (by cases hv : v.ownBlock <;> simp)
theorem OwnQ.keep {T : TypeId} {w w' : World} {B : Nat} {u v v' : Value} {l : List VV} (h : OwnQ T w B u l) (k : Ext v v' w w') (hne : u.ownBlock = none ∨ u.ownBlock ≠ v.ownBlock) : OwnQ T w' B u l :=
 World.ownsRow.kept h k.1 hne
theorem OwnQ.lt {T : TypeId} {w : World} {B : Nat} {v : Value} {l : List VV} (h : OwnQ T w B v l) : ∀ g, v.ownBlock = some g → B ≤ g ∧ g < w.heap.size := World.ownsRow.lt h
theorem OwnQ.base {T : TypeId} {w : World} {B B' : Nat} {v : Value} {l : List VV} (h : OwnQ T w B v l) (hB : B' ≤ B) : OwnQ T w B' v l := by
 refine ⟨h.1, ?_⟩
 rcases h.2 with hn | ⟨g, cap, cur, h1, h2, h3⟩
 ·exact Or.inl hn
 ·exact Or.inr ⟨g, cap, cur, h1, by omega, h3⟩
theorem OwnQ.far {T : TypeId} {w : World} {B : Nat} {v : Value} {l : List VV} (h : OwnQ T w B v l) (b o : Nat) (u : Value) (hne : v.ownBlock ≠ some b) : OwnQ T (w.setCell ⟨b, o, none⟩ u) B v l :=
 World.ownsRow.kept h set_grown (Or.inr hne)
theorem OwnQ.form {T : TypeId} {w : World} {B : Nat} {v : Value} {l : List VV} (h : OwnQ T w B v l) : (v = .slice none 0 0 ∧ l = []) ∨ ∃ g c, v = .slice (some ⟨g, 0, none⟩) l.length c ∧ B ≤ g ∧ g < w.heap.size ∧ l.length ≤ c ∧ c ≤ maxLen ∧
  (∀ i, i < l.length → w.cell? ⟨g, i * 2, none⟩ = some (vvAt l i).1 ∧ w.cell? ⟨g, i * 2 + 1, none⟩ = some (vvAt l i).2) ∧ ∀ o, w.frozen? ⟨g, o, none⟩ = false := by
 have h0 := h
 unfold OwnQ at h0
 rcases h.2 with ⟨hn, h1⟩ | ⟨g, cap, cur, h1, h2, h3, h4, h5, h6, h7⟩
 ·exact Or.inl ⟨hn, List.eq_nil_of_length_eq_zero h1⟩
 ·subst h1
  refine Or.inr ⟨g, cap, rfl, h2, (h.lt g rfl).2, h4, h5, fun i hi => ?_, fun o => World.ownsRow.frozenAt h0 o⟩
  obtain ⟨e1, e2⟩ := flat2_at l i hi
  have c1 := World.ownsRow.cellAt h0 (i * 2) (by omega)
  have c2 := World.ownsRow.cellAt h0 (i * 2 + 1) (by omega)
  rw [c1, c2, e1, e2]
  exact ⟨rfl, rfl⟩
theorem append_mix (t u ty e : TypeId) (ht : Try.prog.underlying t = some (.slice e)) (hu : Try.prog.underlying u = some (.slice e)) (sa : Option Addr) (sn sc : Nat) (x : Value) (w : World) :
  (Builtin.append_ #[t, u] ty #[.slice sa sn sc, x]).run Try.prog w = (Builtin.append_ #[t, t] ty #[.slice sa sn sc, x]).run Try.prog w := by
 have h : ∀ w', (underlying u).run Try.prog w' = (underlying t).run Try.prog w' := fun w' => by rw [run_underlying hu, run_underlying ht]
 simp only [Builtin.append_, Sem.run_bind, List.getElem?_toArray, List.getElem?_cons_zero, List.getElem?_cons_succ, run_underlying ht, Result.andThen_ok, h]
theorem OwnQ.slice {T : TypeId} {w : World} {B : Nat} {v : Value} {l : List VV} (h : OwnQ T w B v l) : ∃ a n c, v = .slice a n c := by
 rcases h.2 with ⟨hn, _⟩ | ⟨g, cap, cur, h1, _⟩
 ·exact ⟨_, _, _, hn⟩
 ·exact ⟨_, _, _, h1⟩
section
variable (T t1 t2 : TypeId) (z0 z1 : Value) (bytes : Nat) (ht1 : Try.prog.underlying t1 = some (.slice T)) (ht2 : Try.prog.underlying t2 = some (.slice T))
 (hinfo : (Try.prog.info? T).map (fun i => (i.zero, i.size, i.bytes)) = some (some (.agg #[z0, z1]), 2, bytes)) (hb : bytes ≤ 64) (hzz : (Value.agg #[z0, z1]).cells.size = 2)
include ht1 ht2 hinfo hb hzz
theorem run_q (ty : TypeId) (w : World) (B : Nat) (v : Value) (l news : List VV) (hown : OwnQ T w B v l) (g off c : Nat)
  (hc : ∀ i, i < news.length → w.cell? ⟨g, off + i * 2, none⟩ = some (vvAt news i).1 ∧ w.cell? ⟨g, off + i * 2 + 1, none⟩ = some (vvAt news i).2) (h1 : ∀ u ∈ flat2 news, u.oneCell' = true)
  (hn : 0 < news.length) (hl : l.length + news.length ≤ 10000000) (hB : B ≤ w.heap.size) :
  ∃ g' c' w', (Builtin.append_ #[t1, t2] ty #[v, .slice (some ⟨g, off, none⟩) news.length c]).run Try.prog w = .ok (.slice (some ⟨g', 0, none⟩) (l.length + news.length) c') w' ∧
   OwnQ T w' B (.slice (some ⟨g', 0, none⟩) (l.length + news.length) c') (l ++ news) ∧ Ext v (.slice (some ⟨g', 0, none⟩) (l.length + news.length) c') w w' := by
 obtain ⟨i0, hi, hzz'⟩ := Option.map_eq_some_iff.1 hinfo
 simp only [Prod.mk.injEq] at hzz'
 obtain ⟨hz0, hz1, hz2⟩ := hzz'
 obtain ⟨sa, sn, sc, rfl⟩ := hown.slice
 rw [append_mix t1 t2 ty T ht1 ht2]
 have hnews : ∀ j u, (flat2 news)[j]? = some u → w.cell? ((⟨g, off, none⟩ : Addr).add j) = some u := by
  intro j u hj
  have hj2 : j < news.length * 2 := by
   have := (List.getElem?_eq_some_iff.1 hj).1
   rw [flat2_len] at this; exact this
  rw [add_at]
  have e := flat2_at news (j / 2) (by omega)
  have c0 := hc (j / 2) (by omega)
  rcases (show j = j / 2 * 2 ∨ j = j / 2 * 2 + 1 by omega) with h | h
  ·rw [h] at hj ⊢
   rw [e.1] at hj
   rw [c0.1]; exact hj
  ·rw [h] at hj ⊢
   rw [e.2] at hj
   rw [← Nat.add_assoc, c0.2]; exact hj
 obtain ⟨g', cap, w', hr, h2, h3, h4, h5⟩ := run_append_lies (P := Try.prog) w t1 ty B T i0 (.agg #[z0, z1]) 2 bytes ht1 hi hz0 hz1 hz2 hzz (by decide) (.slice sa sn sc) l.length (flat2 l) hown ⟨g, off, none⟩ news.length c (flat2 news) (flat2_len news) hnews h1 hn (by unfold maxLen; omega)
  (Nat.le_trans (Nat.mul_le_mul hl hb) (by decide)) hB w.heap.size rfl
 refine ⟨g', cap, w', hr, ?_, h3, ?_⟩
 ·unfold OwnQ
  rw [List.length_append, flat2_append]
  exact h2
 ·rcases h4 with h4 | h4
  ·exact Or.inl (by rw [h4]; rfl)
  ·exact Or.inr ⟨g', rfl, by omega⟩
variable (w : World) {ops : Array Oper} {o : Oper} {a : Act} (s x : Operand) (ho : o.op = .call { callee := .builtin .append, args := #[s, x], argTypes := #[t1, t2] })
 (B : Nat) (v : Value) (l news : List VV) (hs : a.eval s = v) (hown : OwnQ T w B v l) (g off m c : Nat) (hm : m = news.length) (hx : a.eval x = .slice (some ⟨g, off, none⟩) m c)
 (hc : ∀ i, i < news.length → w.cell? ⟨g, off + i * 2, none⟩ = some (vvAt news i).1 ∧ w.cell? ⟨g, off + i * 2 + 1, none⟩ = some (vvAt news i).2) (h1 : ∀ u ∈ flat2 news, u.oneCell' = true)
 (hn : 0 < news.length) (hl : l.length + news.length ≤ 10000000) (hB : B ≤ w.heap.size)
include ho hs hown hx hc h1 hn hl hB hm
theorem wp_q {K : Act → World → Prop} {Q : PQ}
  (h : ∀ g' c' w', OwnQ T w' B (.slice (some ⟨g', 0, none⟩) (l.length + m) c') (l ++ news) → Ext v (.slice (some ⟨g', 0, none⟩) (l.length + m) c') w w' → K (a.put o.dst (.slice (some ⟨g', 0, none⟩) (l.length + m) c')) w') : o.wp Try.prog a w K Q := by
 subst hm
 obtain ⟨g', c', w', hr, h2, h3⟩ := run_q T t1 t2 z0 z1 bytes ht1 ht2 hinfo hb hzz o.type w B v l news hown g off c hc h1 hn hl hB
 unfold Oper.wp execOp
 simp only [ho, resolve, invoke, builtin, Sem.run_bind, Sem.run_pure, Result.andThen_ok, List.map_toArray, List.map_cons, List.map_nil, hs, hx, hr]
 exact h g' c' w' h2 h3
theorem wpl_q (hgd : o.guard = none) {rest : List Oper} {Q : PQ}
  (h : ∀ g' c' w', OwnQ T w' B (.slice (some ⟨g', 0, none⟩) (l.length + m) c') (l ++ news) → Ext v (.slice (some ⟨g', 0, none⟩) (l.length + m) c') w w' → wpList Try.prog ops Q rest (a.put o.dst (.slice (some ⟨g', 0, none⟩) (l.length + m) c')) w') : wpList Try.prog ops Q (o :: rest) a w :=
 wpList_plain hgd fun _ hK => wp_q T t1 t2 z0 z1 bytes ht1 ht2 hinfo hb hzz w s x ho B v l news hs hown g off m c hm hx hc h1 hn hl hB fun g' c' w' h2 h3 => hK _ _ (h g' c' w' h2 h3)
theorem st_q (hgd : o.guard = none) {K : Act → World → Prop} {Q : PQ} {E : Prop}
  (h : ∀ g' c' w', OwnQ T w' B (.slice (some ⟨g', 0, none⟩) (l.length + m) c') (l ++ news) → Ext v (.slice (some ⟨g', 0, none⟩) (l.length + m) c') w w' → K (a.put o.dst (.slice (some ⟨g', 0, none⟩) (l.length + m) c')) w') :
  if Region.wanted o (yielded ops a.tmps) = true then Oper.wp Try.prog o a w K Q else E := by
 have hw : Region.wanted o (yielded ops a.tmps) = true := by simp [Region.wanted, hgd]
 rw [if_pos hw]
 exact wp_q T t1 t2 z0 z1 bytes ht1 ht2 hinfo hb hzz w s x ho B v l news hs hown g off m c hm hx hc h1 hn hl hB h
end
def vP (l : List Pnt) : List VV := l.map fun p => (.int .i64 p.1, .int .i64 p.2)
theorem vP_len (l : List Pnt) : (vP l).length = l.length := by simp [vP]
theorem vP_append (l m : List Pnt) : vP (l ++ m) = vP l ++ vP m := by simp [vP]
theorem vP_at (l : List Pnt) (i : Nat) (h : i < l.length) : vvAt (vP l) i = (.int .i64 (ptAt l i).1, .int .i64 (ptAt l i).2) := by simp [vvAt, vP, ptAt, h]
theorem vP_one (l : List Pnt) : ∀ u ∈ flat2 (vP l), u.oneCell' = true := by
 induction l with
 | nil => intro u hu; simp [vP, flat2] at hu
 | cons p l ih =>
  intro u hu
  simp only [vP, List.map_cons, flat2, List.mem_cons] at hu
  rcases hu with rfl | rfl | hu
  ·rfl
  ·rfl
  ·exact ih u hu
def OwnP (w : World) (B : Nat) (v : Value) (l : List Pnt) : Prop := OwnQ 27 w B v (vP l)
theorem OwnP.nil (w : World) (B : Nat) : OwnP w B (.slice none 0 0) [] := OwnQ.nil _ w B
theorem OwnP.nw {w w' : World} {B : Nat} {v : Value} {l : List Pnt} (h : OwnP w B v l) (k : Nw w w') : OwnP w' B v l := OwnQ.nw h k
theorem OwnP.lay {w : World} {B : Nat} {v : Value} {l : List Pnt} (h : OwnP w B v l) : (v = .slice none 0 0 ∧ l = []) ∨ ∃ g c, v = .slice (some ⟨g, 0, none⟩) l.length c ∧ B ≤ g ∧ LayPt w g l l.length := by
 rcases OwnQ.form h with ⟨h1, h2⟩ | ⟨g, c, h1, h2, h3, _, _, h4, h5⟩
 ·exact Or.inl ⟨h1, by simpa [vP] using h2⟩
 ·rw [vP_len] at h1 h4
  refine Or.inr ⟨g, c, h1, h2, h3, fun i hi => ?_, fun i a b => by omega, h5⟩
  rw [← show (vvAt (vP l) i).1 = Value.int .i64 (ptAt l i).1 by rw [vP_at l i hi], ← show (vvAt (vP l) i).2 = Value.int .i64 (ptAt l i).2 by rw [vP_at l i hi]]
  exact h4 i hi
theorem OwnP.pts {w : World} {B : Nat} {v : Value} {l : List Pnt} (h : OwnP w B v l) : ∃ a c, v = .slice a l.length c ∧ Pts w a l := by
 rcases h.lay with ⟨rfl, rfl⟩ | ⟨g, c, rfl, _, h3⟩
 ·exact ⟨none, 0, rfl, Or.inl rfl⟩
 ·exact ⟨_, c, rfl, h3.pts⟩
def Ints (w : World) (a : Option Addr) (l : List Int) : Prop :=
 l = [] ∨ ∃ b off, a = some ⟨b, off, none⟩ ∧ b < w.heap.size ∧ ∀ i, i < l.length → w.cell? ⟨b, off + i, none⟩ = some (.int .i64 (intAt l i))
theorem Ints.nw {w w' : World} {a : Option Addr} {l : List Int} (h : Ints w a l) (k : Nw w w') : Ints w' a l := by
 rcases h with h | ⟨b, off, rfl, hb, hc⟩
 ·exact Or.inl h
 ·exact Or.inr ⟨b, off, rfl, Nat.lt_of_lt_of_le hb (Below.size k), fun i hi => ((bcell k).1 _ _ hb).trans (hc i hi)⟩
structure SD where
 kind : Int
 ns : List Int
def noSD : SD := ⟨0, []⟩
def stAt (l : List SD) (i : Nat) : SD := l.getD i noSD
def Steps (w : World) (a : Option Addr) (l : List SD) : Prop :=
 l = [] ∨ ∃ b off, a = some ⟨b, off, none⟩ ∧ b < w.heap.size ∧ ∀ i, i < l.length → w.cell? ⟨b, off + i * 2, none⟩ = some (.int .i64 (stAt l i).kind) ∧ ∃ pa pc, w.cell? ⟨b, off + i * 2 + 1, none⟩ = some (.slice pa (stAt l i).ns.length pc) ∧ Ints w pa (stAt l i).ns
theorem Steps.nw {w w' : World} {a : Option Addr} {l : List SD} (h : Steps w a l) (k : Nw w w') : Steps w' a l := by
 rcases h with h | ⟨b, off, rfl, hb, hc⟩
 ·exact Or.inl h
 ·refine Or.inr ⟨b, off, rfl, Nat.lt_of_lt_of_le hb (Below.size k), fun i hi => ?_⟩
  obtain ⟨h1, pa, pc, h2, h3⟩ := hc i hi
  exact ⟨((bcell k).1 _ _ hb).trans h1, pa, pc, ((bcell k).1 _ _ hb).trans h2, h3.nw k⟩
end Go.Proofs.Ytdjemnbdaddegaa
