/-
  Transforms: GoodAffine of both; no condition but that the numbers are ints.
-/
import Derived.Test.YtfdjjbgcaojcnaaBase
namespace Go.Proofs.Ytfdjjbgcaojcnaa
open Go.ChangeShapes Go.WideShapes Go.ChangeAt Go.RowKit
set_option linter.unusedVariables false

def inR (x : Int) : Bool := decide (-4294967296 ≤ x) && decide (x ≤ 4294967296)
def el (a b c d e f : Int) : Nat → Int
  | 0 => a
  | 1 => b
  | 2 => c
  | 3 => d
  | 4 => e
  | _ => f
def gA (a b c d e f : Int) : Bool := (List.range 6).all fun k => inR (el a b c d e f k)
theorem gA_false {a b c d e f : Int} (k : Nat) (hk : k < 6) (h : inR (el a b c d e f k) = false) : gA a b c d e f = false := by
  unfold gA
  rw [List.all_eq_false]
  exact ⟨k, List.mem_range.2 hk, by rw [h]; decide⟩
theorem gA_true {a b c d e f : Int} (h : ∀ k, k < 6 → inR (el a b c d e f k) = true) : gA a b c d e f = true := by
  unfold gA
  rw [List.all_eq_true]
  exact fun k hk => h k (List.mem_range.1 hk)
abbrev affV (a b c d e f : Int) : Value := .agg #[.int .i64 a, .int .i64 b, .int .i64 c, .int .i64 d, .int .i64 e, .int .i64 f]

theorem sin_any (w : World) (x : Int) : Calls Try.prog 34 #[.int .i64 x, .int .i64 (-4294967296), .int .i64 4294967296] w fun e w' => e = .returned (.bool (inR x)) ∧ w' = w := by
  by_cases h1 : -4294967296 ≤ x
  · by_cases h2 : x ≤ 4294967296
    · have h : inR x = true := by unfold inR; simp [h1, h2]
      rw [h]
      go_enter Try.func34, Try.ntmps34
      go_wp2
      go_ret
      exact ⟨rfl, rfl⟩
    · have h : inR x = false := by unfold inR; simp [h2]
      have h3 : decide (x ≤ 4294967296) = false := by simp; omega
      rw [h]
      go_enter Try.func34, Try.ntmps34
      go_wp2
      go_ret
      exact ⟨rfl, rfl⟩
  · have h : inR x = false := by unfold inR; simp [h1]
    rw [h]
    go_enter Try.func34, Try.ntmps34
    go_wp2
    go_ret
    exact ⟨rfl, rfl⟩

set_option maxHeartbeats 4000000 in
theorem sgoodAff (w : World) (a b c d e f : Int) : Calls Try.prog 43 #[affV a b c d e f] w fun x w' => x = .returned (.bool (gA a b c d e f)) ∧ Kp w w' := by
  unfold affV
  go_enter Try.func43, Try.ntmps43
  go_wp2
  go_loop [19] (fun v => ∃ k : Nat, k ≤ 6 ∧ v = .int .i64 (k : Int) ∧ ∀ j, j < k → inR (el a b c d e f j) = true) (fun v => 6 - (intOf v).toNat)
  case atStart => exact ⟨0, by omega, rfl, fun j hj => absurd hj (by omega)⟩
  case round =>
    obtain ⟨k, hk, rfl, hall⟩ := hrel
    have HA : Hid _ := hall
    clear hall
    by_cases h6 : k < 6
    · have hc : k = 0 ∨ k = 1 ∨ k = 2 ∨ k = 3 ∨ k = 4 ∨ k = 5 := by omega
      rcases hc with rfl | rfl | rfl | rfl | rfl | rfl
      · clear h6 hk
        go_wp2_with fail
        refine (sin_any _ _).mono ?_
        rintro y w' ⟨rfl, rfl⟩
        cases hi : inR a with
        | true =>
          go_wp2
          go_round
          case rel => exact ⟨1, by omega, by go_num, fun j hj => by rcases Nat.lt_succ_iff_lt_or_eq.1 hj with h | rfl; exact HA.out j h; exact hi⟩
          case measure => simp [intOf]
        | false =>
          go_wp2
          go_ret
          exact ⟨by rw [gA_false (a := a) (b := b) (c := c) (d := d) (e := e) (f := f) 0 (by omega) hi]; rfl, ((Kp.refl w).alloc _ _).alloc _ _⟩
      · clear h6 hk
        go_wp2_with fail
        refine (sin_any _ _).mono ?_
        rintro y w' ⟨rfl, rfl⟩
        cases hi : inR b with
        | true =>
          go_wp2
          go_round
          case rel => exact ⟨2, by omega, by go_num, fun j hj => by rcases Nat.lt_succ_iff_lt_or_eq.1 hj with h | rfl; exact HA.out j h; exact hi⟩
          case measure => simp [intOf]
        | false =>
          go_wp2
          go_ret
          exact ⟨by rw [gA_false (a := a) (b := b) (c := c) (d := d) (e := e) (f := f) 1 (by omega) hi]; rfl, ((Kp.refl w).alloc _ _).alloc _ _⟩
      · clear h6 hk
        go_wp2_with fail
        refine (sin_any _ _).mono ?_
        rintro y w' ⟨rfl, rfl⟩
        cases hi : inR c with
        | true =>
          go_wp2
          go_round
          case rel => exact ⟨3, by omega, by go_num, fun j hj => by rcases Nat.lt_succ_iff_lt_or_eq.1 hj with h | rfl; exact HA.out j h; exact hi⟩
          case measure => simp [intOf]
        | false =>
          go_wp2
          go_ret
          exact ⟨by rw [gA_false (a := a) (b := b) (c := c) (d := d) (e := e) (f := f) 2 (by omega) hi]; rfl, ((Kp.refl w).alloc _ _).alloc _ _⟩
      · clear h6 hk
        go_wp2_with fail
        refine (sin_any _ _).mono ?_
        rintro y w' ⟨rfl, rfl⟩
        cases hi : inR d with
        | true =>
          go_wp2
          go_round
          case rel => exact ⟨4, by omega, by go_num, fun j hj => by rcases Nat.lt_succ_iff_lt_or_eq.1 hj with h | rfl; exact HA.out j h; exact hi⟩
          case measure => simp [intOf]
        | false =>
          go_wp2
          go_ret
          exact ⟨by rw [gA_false (a := a) (b := b) (c := c) (d := d) (e := e) (f := f) 3 (by omega) hi]; rfl, ((Kp.refl w).alloc _ _).alloc _ _⟩
      · clear h6 hk
        go_wp2_with fail
        refine (sin_any _ _).mono ?_
        rintro y w' ⟨rfl, rfl⟩
        cases hi : inR e with
        | true =>
          go_wp2
          go_round
          case rel => exact ⟨5, by omega, by go_num, fun j hj => by rcases Nat.lt_succ_iff_lt_or_eq.1 hj with h | rfl; exact HA.out j h; exact hi⟩
          case measure => simp [intOf]
        | false =>
          go_wp2
          go_ret
          exact ⟨by rw [gA_false (a := a) (b := b) (c := c) (d := d) (e := e) (f := f) 4 (by omega) hi]; rfl, ((Kp.refl w).alloc _ _).alloc _ _⟩
      · clear h6 hk
        go_wp2_with fail
        refine (sin_any _ _).mono ?_
        rintro y w' ⟨rfl, rfl⟩
        cases hi : inR f with
        | true =>
          go_wp2
          go_round
          case rel => exact ⟨6, by omega, by go_num, fun j hj => by rcases Nat.lt_succ_iff_lt_or_eq.1 hj with h | rfl; exact HA.out j h; exact hi⟩
          case measure => simp [intOf]
        | false =>
          go_wp2
          go_ret
          exact ⟨by rw [gA_false (a := a) (b := b) (c := c) (d := d) (e := e) (f := f) 5 (by omega) hi]; rfl, ((Kp.refl w).alloc _ _).alloc _ _⟩
    · obtain rfl : k = 6 := by omega
      clear h6 hk
      go_wp2
      go_ret
      exact ⟨by rw [gA_true HA.out]; rfl, ((Kp.refl w).alloc _ _).alloc _ _⟩

theorem el_at (a b c d e f : Int) (k : Nat) (h : k < 6) : (#[.int .i64 a, .int .i64 b, .int .i64 c, .int .i64 d, .int .i64 e, .int .i64 f] : Array Value)[k]? = some (.int .i64 (el a b c d e f k)) := by
  have hc : k = 0 ∨ k = 1 ∨ k = 2 ∨ k = 3 ∨ k = 4 ∨ k = 5 := by omega
  rcases hc with rfl | rfl | rfl | rfl | rfl | rfl <;> rfl
theorem ix6 (T : Array Value) (k : Nat) (c : Int) (h : k < 6) (c0 : T[k]? = some (.int .i64 c)) (W : World) : (Instr.index 107 (.agg T) (.int .i64 (k : Int))).run Try.prog W = .ok (.int .i64 c) W := by
  have h2 : (0 : Int) ≤ (k : Int) ∧ (k : Int) < 6 := by omega
  simp [Instr.index, run_underlying Try.underlying107, asIntOf, h2, h, c0, go_sem]
set_option maxHeartbeats 4000000 in
theorem igoodAff (w : World) (a b c d e f : Int) : Calls Try.prog 39 #[affV a b c d e f] w fun x w' => x = .returned (.bool (gA a b c d e f)) ∧ Kp w w' := by
  unfold affV
  go_enter Try.func39, Try.ntmps39
  go_wp2
  go_loop [18] (fun v => ∃ k : Nat, k ≤ 6 ∧ v = .int .i64 (k : Int) ∧ ∀ j, j < k → inR (el a b c d e f j) = true) (fun v => 6 - (intOf v).toNat)
  case atStart => exact ⟨0, by omega, rfl, fun j hj => absurd hj (by omega)⟩
  case round =>
    obtain ⟨k, hk, rfl, hall⟩ := hrel
    have HA : Hid _ := hall
    clear hall
    by_cases h6 : k < 6
    · have hix := ix6 _ k _ h6 (el_at a b c d e f k h6)
      obtain ⟨X, hX⟩ : ∃ X, el a b c d e f k = X := ⟨_, rfl⟩
      rw [hX] at hix
      have HX : Hid _ := hX
      clear hX
      by_cases h1 : -4294967296 ≤ X
      · by_cases h2 : X ≤ 4294967296
        · have hi : Hid (inR X = true) := by show _ = _; unfold inR; simp [h1, h2]
          go_wp2
          go_round
          case rel => exact ⟨k + 1, by omega, by go_num, fun j hj => by
            rcases Nat.lt_succ_iff_lt_or_eq.1 hj with h | rfl
            · exact HA.out j h
            · rw [HX.out]; exact hi.out⟩
          case measure => simp [intOf]; omega
        · have hi : Hid (inR X = false) := by show _ = _; unfold inR; simp [h2]
          have h3 : decide (4294967296 < X) = true := by simp; omega
          go_wp2
          go_ret
          exact ⟨by rw [gA_false (a := a) (b := b) (c := c) (d := d) (e := e) (f := f) k h6 (by rw [HX.out]; exact hi.out)]; rfl, (Kp.refl w).alloc _ _⟩
      · have hi : Hid (inR X = false) := by show _ = _; unfold inR; simp [h1]
        go_wp2
        go_ret
        exact ⟨by rw [gA_false (a := a) (b := b) (c := c) (d := d) (e := e) (f := f) k h6 (by rw [HX.out]; exact hi.out)]; rfl, (Kp.refl w).alloc _ _⟩
    · obtain rfl : k = 6 := by omega
      clear h6 hk
      go_wp2
      go_ret
      exact ⟨by rw [gA_true HA.out]; rfl, (Kp.refl w).alloc _ _⟩
end Go.Proofs.Ytfdjjbgcaojcnaa
