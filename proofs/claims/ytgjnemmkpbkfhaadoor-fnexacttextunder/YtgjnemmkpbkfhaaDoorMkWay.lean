/-
  The way up from a node: the program's looks and the specification's; each theorem names its conditions.
-/
import Derived.Test.YtgjnemmkpbkfhaaDoorMkNs
import Derived.Test.YtgjnemmkpbkfhaaDoorMkName
namespace Go.Proofs.YtgjnemmkpbkfhaaDoor
open Go.ChangeShapes Go.WideShapes Go.ChangeAt Go.RowKit
set_option linter.unusedVariables false

theorem sdeep (w : World) (a : Option Addr) (c : Nat) (l : List ND) (N : Nat) (k : Int) (hl : l.length ≤ 1048576) (hr : Nodes w a l) (hu : Ups l N) (hN : N ≤ l.length) (h0 : -1 ≤ k) (h1 : k < N) :
    Calls Tryd.prog 79 #[.slice a l.length c, .int .i64 k] w fun e w' => e = .returned (.int .i64 (deepN l k)) ∧ w' = w := by
  have HR : Hid (Nodes w a l) := hr
  have HU : Hid (Ups l N) := hu
  have hD := deepN_le l N hu hN (N + 1) k (by omega) h1 h0
  generalize hDD : (deepN l k : Int) = D at *
  have HD : Hid ((deepN l k : Int) = D) := hDD
  clear hr hu hDD
  go_enter Tryd.func79, Tryd.ntmps79
  go_wp2
  go_loop [1, 5] (fun x n => ∃ (K : Int) (d : Nat), -1 ≤ K ∧ K < N ∧ x = .int .i64 K ∧ n = .int .i64 d ∧ (d : Int) + deepN l K = D) (fun x _ => ((intOf x) + 1).toNat)
  case atStart => exact ⟨k, 0, h0, h1, rfl, rfl, by have := HD.out; omega⟩
  case round =>
    obtain ⟨K, d, hK0, hK1, rfl, rfl, hd⟩ := hrel
    have HX : Hid ((d : Int) + deepN l K = D) := hd
    by_cases hneg : K < 0
    · have HE : Hid ((d : Int) = D) := by show (d : Int) = D; rw [deepN_neg l K hneg] at hd; omega
      clear hd
      go_wp2
      go_ret
      exact ⟨ret_int HE.out, rfl⟩
    · obtain ⟨m, rfl⟩ := Int.eq_ofNat_of_zero_le (show 0 ≤ K by omega)
      have hm : m < l.length := by omega
      have hup := HU.out m (by omega)
      have hdu := deepN_up l (m : Int) N HU.out hN (by omega) (by omega)
      simp only [Int.toNat_natCast] at hdu
      have hdb : (d : Int) < 1048576 := by omega
      rcases HR.out with h | ⟨b, o, rfl, hb, hc⟩
      · rw [h] at hm; simp at hm
      obtain ⟨q0, q1, q2, q3⟩ := hc m hm
      have HN : Hid (((d + 1 : Nat) : Int) + deepN l (upAt l m) = D) := by show ((d + 1 : Nat) : Int) + _ = D; omega
      unfold upAt at hup HN
      clear hc hd hdu q0 q2 q3
      generalize (nodeAt l m).up = U at *
      go_wp2
      go_round
      case rel => exact ⟨U, d + 1, by omega, by omega, rfl, by go_num, HN.out⟩
      case measure => simp [intOf]; omega
theorem ideep (w : World) (a : Option Addr) (c : Nat) (l : List ND) (N : Nat) (k : Int) (hl : l.length ≤ 1048576) (hr : Nodes w a l) (hu : Ups l N) (hN : N ≤ l.length) (h0 : -1 ≤ k) (h1 : k < N) :
    Calls Tryd.prog 137 #[.slice a l.length c, .int .i64 k] w fun e w' => e = .returned (.int .i64 (deepN l k)) ∧ w' = w := by
  have HR : Hid (Nodes w a l) := hr
  have HU : Hid (Ups l N) := hu
  have hD := deepN_le l N hu hN (N + 1) k (by omega) h1 h0
  generalize hDD : (deepN l k : Int) = D at *
  have HD : Hid ((deepN l k : Int) = D) := hDD
  clear hr hu hDD
  go_enter Tryd.func137, Tryd.ntmps137
  go_wp2
  go_loop [1, 5] (fun x n => ∃ (K : Int) (d : Nat), -1 ≤ K ∧ K < N ∧ x = .int .i64 K ∧ n = .int .i64 d ∧ (d : Int) + deepN l K = D) (fun x _ => ((intOf x) + 1).toNat)
  case atStart => exact ⟨k, 0, h0, h1, rfl, rfl, by have := HD.out; omega⟩
  case round =>
    obtain ⟨K, d, hK0, hK1, rfl, rfl, hd⟩ := hrel
    by_cases hneg : K < 0
    · have e : K = -1 := by omega
      have HE : Hid ((d : Int) = D) := by show (d : Int) = D; rw [deepN_neg l K hneg] at hd; omega
      subst e
      clear hd
      go_wp2
      go_ret
      exact ⟨ret_int HE.out, rfl⟩
    · obtain ⟨m, rfl⟩ := Int.eq_ofNat_of_zero_le (show 0 ≤ K by omega)
      have hm : m < l.length := by omega
      have hne : ((m : Int) != -1) = true := bne_iff_ne.2 (by omega)
      have hup := HU.out m (by omega)
      have hdu := deepN_up l (m : Int) N HU.out hN (by omega) (by omega)
      simp only [Int.toNat_natCast] at hdu
      have hdb : (d : Int) < 1048576 := by omega
      rcases HR.out with h | ⟨b, o, rfl, hb, hc⟩
      · rw [h] at hm; simp at hm
      obtain ⟨q0, q1, q2, q3⟩ := hc m hm
      have HN : Hid (((d + 1 : Nat) : Int) + deepN l (upAt l m) = D) := by show ((d + 1 : Nat) : Int) + _ = D; omega
      unfold upAt at hup HN
      clear hc hd hdu q0 q2 q3
      generalize (nodeAt l m).up = U at *
      go_wp2
      go_round
      case rel => exact ⟨U, d + 1, by omega, by omega, rfl, by go_num, HN.out⟩
      case measure => simp [intOf]; omega
theorem iaround (w : World) (a : Option Addr) (c : Nat) (l : List ND) (N : Nat) (k x : Int) (hl : l.length ≤ 1048576) (hr : Nodes w a l) (hu : Ups l N) (hN : N ≤ l.length) (h0 : -1 ≤ k) (h1 : k < N) :
    Calls Tryd.prog 136 #[.slice a l.length c, .int .i64 k, .int .i64 x] w fun e w' => e = .returned (.bool (meetsN l x k)) ∧ w' = w := by
  have HR : Hid (Nodes w a l) := hr
  have HU : Hid (Ups l N) := hu
  generalize hDD : meetsN l x k = D at *
  have HD : Hid (meetsN l x k = D) := hDD
  clear hr hu hDD
  go_enter Tryd.func136, Tryd.ntmps136
  go_wp2
  go_loop [1] (fun y => ∃ (K : Int), -1 ≤ K ∧ K < N ∧ y = .int .i64 K ∧ meetsN l x K = D) (fun y => ((intOf y) + 1).toNat)
  case atStart => exact ⟨k, h0, h1, rfl, HD.out⟩
  case round =>
    obtain ⟨K, hK0, hK1, rfl, hd⟩ := hrel
    by_cases hneg : K < 0
    · have e : K = -1 := by omega
      have HE : Hid (false = D) := by show false = D; rw [← hd, meetsN_neg l x K hneg]
      subst e
      clear hd
      go_wp2
      go_ret
      exact ⟨ret_bool HE.out, rfl⟩
    · obtain ⟨m, rfl⟩ := Int.eq_ofNat_of_zero_le (show 0 ≤ K by omega)
      have hm : m < l.length := by omega
      have hne : ((m : Int) != -1) = true := bne_iff_ne.2 (by omega)
      by_cases hx : (m : Int) = x
      · have HE : Hid (true = D) := by show true = D; rw [← hd, hx, meetsN_same l x (by omega)]
        subst hx
        clear hd
        go_wp2
        go_ret
        exact ⟨ret_bool HE.out, rfl⟩
      · have hnx : ((m : Int) != x) = true := bne_iff_ne.2 hx
        have hup := HU.out m (by omega)
        have hdu := meetsN_up l x (m : Int) N HU.out hN (by omega) (by omega) hx
        simp only [Int.toNat_natCast] at hdu
        rcases HR.out with h | ⟨b, o, rfl, hb, hc⟩
        · rw [h] at hm; simp at hm
        obtain ⟨q0, q1, q2, q3⟩ := hc m hm
        have HN : Hid (meetsN l x (upAt l m) = D) := by show meetsN l x _ = D; rw [← hdu]; exact hd
        unfold upAt at hup HN
        clear hc hd hdu q0 q2 q3
        generalize (nodeAt l m).up = U at *
        go_wp2
        go_round
        case rel => exact ⟨U, by omega, by omega, rfl, HN.out⟩
        case measure => simp [intOf]; omega
end Go.Proofs.YtgjnemmkpbkfhaaDoor
