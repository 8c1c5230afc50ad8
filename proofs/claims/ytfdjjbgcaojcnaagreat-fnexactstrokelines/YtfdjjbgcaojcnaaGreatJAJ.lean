/-
  What the program's wholeRoot answers, for numbers within the bounds named in each theorem.
  How far a point lies from another, of both: SizeOf; each theorem names its conditions.
  What the program's quotient rounded down is, for the numbers within the bounds named in its theorem.
  What the program's own division helpers answer: nearest, cutTo, FixDiv, each for the numbers within the bounds named in its theorem.
-/
import Derived.Test.YtfdjjbgcaojcnaaGreatJAA
import Derived.Test.YtfdjjbgcaojcnaaGreatJAC
namespace Go.Proofs.YtfdjjbgcaojcnaaGreat
open Go.ChangeShapes Go.WideShapes Go.ChangeAt Go.RowKit

theorem root_uniq (n r s : Int) (hr : 0 ≤ r) (hs : 0 ≤ s) (r1 : r * r ≤ n) (r2 : n < (r + 1) * (r + 1)) (s1 : s * s ≤ n) (s2 : n < (s + 1) * (s + 1)) : r = s := by
  by_cases h : r < s
  · have : (r + 1) * (r + 1) ≤ s * s := Int.mul_le_mul (by omega) (by omega) (by omega) (by omega); omega
  by_cases h' : s < r
  · have : (s + 1) * (s + 1) ≤ r * r := Int.mul_le_mul (by omega) (by omega) (by omega) (by omega); omega
  omega

theorem sq_bd (r : Int) (h0 : 0 ≤ r) (h : r ≤ 2147483648) : 0 ≤ r * r ∧ r * r ≤ 4611686018427387904 :=
  ⟨Int.mul_nonneg h0 h0, Int.mul_le_mul h h h0 (by omega)⟩

set_option maxHeartbeats 1000000 in
theorem whole_any (n : Int) (w : World) (hn : 0 ≤ n) (hn' : n < 4611686018427387904) :
    Calls Tryz.prog 82 #[.int .i64 n] w fun e w' => ∃ r : Int, e = .returned (.int .i64 r) ∧ 0 ≤ r ∧ r * r ≤ n ∧ n < (r + 1) * (r + 1) ∧ w' = w := by
  go_enter Tryz.func82, Tryz.ntmps82
  go_wp2
  go_loop [3, 4] (fun root bit => ∃ (k : Nat) (r T : Int), T = 2 ^ k ∧ k ≤ 31 ∧ 0 ≤ r ∧ r * r ≤ n ∧ n < (r + T) * (r + T) ∧ r + T ≤ 2147483648 ∧ root = .int .i64 r ∧ bit = .int .i64 (T / 2)) (fun _ bit => (intOf bit).toNat)
  case atStart => exact ⟨31, 0, 2147483648, by decide, by omega, by omega, by omega, by omega, by omega, rfl, rfl⟩
  case round =>
    obtain ⟨k, r, T, hT, hk, h0, h1, h2, h3, rfl, rfl⟩ := hrel
    cases k with
    | zero =>
      obtain rfl : T = 1 := by simpa using hT
      clear hT
      go_wp2
      go_ret
      exact ⟨r, rfl, h0, h1, h2, rfl⟩
    | succ j =>
      obtain ⟨B, hB⟩ : ∃ B : Int, B = 2 ^ j := ⟨_, rfl⟩
      have hB1 : 0 < B := by rw [hB]; exact Int.pow_pos (by omega)
      have hTB : T = 2 * B := by rw [hT, hB, Int.pow_succ]; omega
      have HB : Hid (B = 2 ^ j) := hB
      clear hB hT
      subst hTB
      rw [show 2 * B / 2 = B from by omega] at *
      obtain ⟨s1, s2⟩ := sq_bd (r + B) (by omega) (by omega)
      by_cases hc : (r + B) * (r + B) ≤ n
      · go_wp2
        go_round
        case rel => exact ⟨j, r + B, B, HB.out, by omega, by omega, hc, by rw [show r + B + B = r + 2 * B from by omega]; exact h2, by omega, rfl, rfl⟩
        case measure => simp [intOf]; omega
      · go_wp2
        go_round
        case rel => exact ⟨j, r, B, HB.out, by omega, h0, h1, by omega, by omega, rfl, rfl⟩
        case measure => simp [intOf]; omega
/-- Every number has a root, rounded down. -/
theorem root_nat (n : Nat) : ∃ r : Nat, r * r ≤ n ∧ n < (r + 1) * (r + 1) := by
  induction n with
  | zero => exact ⟨0, by omega, by omega⟩
  | succ n ih =>
    obtain ⟨r, h1, h2⟩ := ih
    by_cases h : n + 1 < (r + 1) * (r + 1)
    · exact ⟨r, by omega, h⟩
    · refine ⟨r + 1, by omega, ?_⟩
      have : (r + 1) * (r + 1) < (r + 1 + 1) * (r + 1 + 1) := Nat.mul_lt_mul_of_lt_of_lt (by omega) (by omega)
      omega
end Go.Proofs.YtfdjjbgcaojcnaaGreat
namespace Go.Proofs.YtfdjjbgcaojcnaaGreat
open Go.ChangeShapes Go.WideShapes Go.ChangeAt Go.RowKit
set_option linter.unusedVariables false

/-- The root of a number, down. -/
def rootN : Nat → Nat
  | 0 => 0
  | n + 1 => if (rootN n + 1) * (rootN n + 1) ≤ n + 1 then rootN n + 1 else rootN n
theorem rootN_is (n : Nat) : rootN n * rootN n ≤ n ∧ n < (rootN n + 1) * (rootN n + 1) := by
  induction n with
  | zero => exact ⟨Nat.le_refl _, by decide⟩
  | succ n ih =>
    obtain ⟨h1, h2⟩ := ih
    unfold rootN
    split
    · rename_i h
      refine ⟨h, ?_⟩
      have : (rootN n + 1) * (rootN n + 1) < (rootN n + 1 + 1) * (rootN n + 1 + 1) := Nat.mul_lt_mul_of_lt_of_lt (by omega) (by omega)
      omega
    · rename_i h
      exact ⟨by omega, by omega⟩
/-- The sum of the squares of the differences. -/
def sqV (a b : Pnt) : Int := (b.1 - a.1) * (b.1 - a.1) + (b.2 - a.2) * (b.2 - a.2)
def szV (a b : Pnt) : Int := (rootN (sqV a b).toNat : Nat)
theorem sq_nn (x : Int) : 0 ≤ x * x := by
  by_cases h : 0 ≤ x
  · exact Int.mul_nonneg h h
  · rw [← Int.neg_mul_neg]; exact Int.mul_nonneg (by omega) (by omega)
theorem sq_le {x : Int} {m : Int} (h1 : -m ≤ x) (h2 : x ≤ m) : x * x ≤ m * m := by
  by_cases h : 0 ≤ x
  · exact Int.mul_le_mul h2 h2 h (by omega)
  · rw [← Int.neg_mul_neg]; exact Int.mul_le_mul (by omega) (by omega) (by omega) (by omega)
theorem sqV_nn (a b : Pnt) : 0 ≤ sqV a b := Int.add_nonneg (sq_nn _) (sq_nn _)
theorem szV_is (a b : Pnt) : 0 ≤ szV a b ∧ szV a b * szV a b ≤ sqV a b ∧ sqV a b < (szV a b + 1) * (szV a b + 1) := by
  have h := rootN_is (sqV a b).toNat
  have h0 := sqV_nn a b
  unfold szV
  generalize rootN (sqV a b).toNat = r at *
  have e1 : ((r * r : Nat) : Int) = (r : Int) * r := Int.natCast_mul r r
  have e2 : (((r + 1) * (r + 1) : Nat) : Int) = ((r : Int) + 1) * ((r : Int) + 1) := by rw [Int.natCast_mul]; rfl
  exact ⟨by omega, by omega, by omega⟩
theorem szV_of {a b : Pnt} {r : Int} (h0 : 0 ≤ r) (h1 : r * r ≤ sqV a b) (h2 : sqV a b < (r + 1) * (r + 1)) : r = szV a b := by
  obtain ⟨s0, s1, s2⟩ := szV_is a b
  exact root_uniq _ r _ h0 s0 h1 h2 s1 s2
theorem sqV_le {a b : Pnt} (ha : nearB a = true) (hb : nearB b = true) : sqV a b ≤ 36028797018963968 := by
  obtain ⟨a1, a2⟩ := nearB_nr ha
  obtain ⟨b1, b2⟩ := nearB_nr hb
  unfold nr at *
  have h1 := sq_le (x := b.1 - a.1) (m := 134217728) (by omega) (by omega)
  have h2 := sq_le (x := b.2 - a.2) (m := 134217728) (by omega) (by omega)
  unfold sqV
  omega
theorem szV_le {a b : Pnt} (ha : nearB a = true) (hb : nearB b = true) : szV a b ≤ 268435455 := by
  obtain ⟨s0, s1, s2⟩ := szV_is a b
  have h := sqV_le ha hb
  by_cases c : szV a b ≤ 268435455
  · exact c
  · exfalso
    have : (268435456 : Int) * 268435456 ≤ szV a b * szV a b := Int.mul_le_mul (by omega) (by omega) (by omega) (by omega)
    omega
set_option maxHeartbeats 2000000 in
theorem ssize (w : World) (a b : Pnt) (ha : nearB a = true) (hb : nearB b = true) :
    Calls Tryz.prog 85 #[.agg #[.int .i64 a.1, .int .i64 a.2], .agg #[.int .i64 b.1, .int .i64 b.2]] w fun e w' => e = .returned (.int .i64 (szV a b)) ∧ Kp w w' := by
  have HX : Hid (∀ r, 0 ≤ r → r * r ≤ sqV a b → sqV a b < (r + 1) * (r + 1) → r = szV a b) := fun r h0 h1 h2 => szV_of h0 h1 h2
  have hq := sqV_le ha hb
  have hq0 := sqV_nn a b
  obtain ⟨a1, a2⟩ := nearB_nr ha
  obtain ⟨b1, b2⟩ := nearB_nr hb
  clear ha hb
  obtain ⟨ax, ay⟩ := a
  obtain ⟨bx, by'⟩ := b
  unfold nr at *
  simp only at *
  have hD1 := sq_le (x := bx - ax) (m := 134217728) (by omega) (by omega)
  have hD2 := sq_le (x := by' - ay) (m := 134217728) (by omega) (by omega)
  have hN1 := sq_nn (bx - ax)
  have hN2 := sq_nn (by' - ay)
  have hS : sqV (ax, ay) (bx, by') = (bx - ax) * (bx - ax) + (by' - ay) * (by' - ay) := rfl
  generalize szV (ax, ay) (bx, by') = V at *
  rw [hS] at HX hq hq0
  clear hS
  go_enter Tryz.func85, Tryz.ntmps85
  go_wp2
  go_loop [7, 8] (fun lo hi => ∃ l h : Int, lo = .int .i64 l ∧ hi = .int .i64 h ∧ 0 ≤ l ∧ l ≤ h ∧ h ≤ 268435456 ∧ l * l ≤ (bx - ax) * (bx - ax) + (by' - ay) * (by' - ay) ∧ (bx - ax) * (bx - ax) + (by' - ay) * (by' - ay) < (h + 1) * (h + 1)) (fun lo hi => (intOf hi - intOf lo).toNat)
  case atStart => exact ⟨0, 268435456, rfl, rfl, by omega, by omega, by omega, by omega, by omega⟩
  case round =>
    obtain ⟨l, h, rfl, rfl, h0, h1, h2, h3, h4⟩ := hrel
    have H4 : Hid _ := h4
    have H3 : Hid _ := h3
    clear h4 h3
    by_cases hlt : l < h
    · have m1 : l < l + (h - l + 1) / 2 := by omega
      have m2 : l + (h - l + 1) / 2 ≤ h := by omega
      obtain ⟨s1, s2⟩ := sq_bd (l + (h - l + 1) / 2) (by omega) (by omega)
      by_cases hc : (bx - ax) * (bx - ax) + (by' - ay) * (by' - ay) < (l + (h - l + 1) / 2) * (l + (h - l + 1) / 2)
      · have hd : decide ((bx - ax) * (bx - ax) + (by' - ay) * (by' - ay) < (l + (h - l + 1) / 2) * (l + (h - l + 1) / 2)) = true := decide_eq_true hc
        go_wp2
        go_round
        case rel => exact ⟨l, l + (h - l + 1) / 2 - 1, rfl, rfl, h0, by omega, by omega, H3.out, by rw [Int.sub_add_cancel]; exact hc⟩
        case measure => simp [intOf]; omega
      · have hd : decide ((bx - ax) * (bx - ax) + (by' - ay) * (by' - ay) < (l + (h - l + 1) / 2) * (l + (h - l + 1) / 2)) = false := decide_eq_false hc
        go_wp2
        go_round
        case rel => exact ⟨l + (h - l + 1) / 2, h, rfl, rfl, by omega, m2, h2, by omega, H4.out⟩
        case measure => simp [intOf]; omega
    · obtain rfl : l = h := by omega
      have HE : Hid (l = V) := HX.out l h0 H3.out H4.out
      clear hlt
      go_wp2
      go_ret
      exact ⟨ret_int HE.out, ((Kp.refl w).alloc _ _).alloc _ _⟩
/-- What SizeOf answers. -/
def soV (a b : Pnt) : Int × Bool := if nearB a = true ∧ nearB b = true then (szV a b, true) else (0, false)
set_option maxHeartbeats 2000000 in
theorem isizeOf (w : World) (a b : Pnt) :
    Calls Tryz.prog 62 #[.agg #[.int .i64 a.1, .int .i64 a.2], .agg #[.int .i64 b.1, .int .i64 b.2]] w fun e w' => e = .returned (.tuple #[.int .i64 (soV a b).1, .bool (soV a b).2]) ∧ Kp w w' := by
  have hv : soV a b = if nearsB [a, b] = true then (szV a b, true) else (0, false) := by
    unfold soV nearsB
    cases h1 : nearB a <;> cases h2 : nearB b <;> simp [h1, h2]
  have HN : Hid (∀ (w : World) (g : Nat), Pts w (some ⟨g, 0, none⟩) [a, b] → _) := fun w g h => inear w (some ⟨g, 0, none⟩) 2 [a, b] (by simp) h
  have HZ : Hid (nearsB [a, b] = true → nearB a = true ∧ nearB b = true) := fun h => by simpa [nearsB] using h
  rw [hv]
  clear hv
  obtain ⟨ax, ay⟩ := a
  obtain ⟨bx, by'⟩ := b
  simp only at *
  have k1 : ∀ t1 t2 t3, Kp w (((w.alloc (.cells #[.int .i64 ax, .int .i64 ay] t1)).alloc (.cells #[.int .i64 bx, .int .i64 by'] t2)).alloc (.cells #[.int .i64 ax, .int .i64 ay, .int .i64 bx, .int .i64 by'] t3)) := fun t1 t2 t3 => (((Kp.refl w).alloc _ _).alloc _ _).alloc _ _
  have p1 : ∀ t1 t2 t3, Pts (((w.alloc (.cells #[.int .i64 ax, .int .i64 ay] t1)).alloc (.cells #[.int .i64 bx, .int .i64 by'] t2)).alloc (.cells #[.int .i64 ax, .int .i64 ay, .int .i64 bx, .int .i64 by'] t3)) (some ⟨w.heap.size + 1 + 1, 0, none⟩) [(ax, ay), (bx, by')] := fun t1 t2 t3 => by
    have := pts2_new ((w.alloc (.cells #[.int .i64 ax, .int .i64 ay] t1)).alloc (.cells #[.int .i64 bx, .int .i64 by'] t2)) ax ay bx by' t3
    rw [World.size_alloc, World.size_alloc] at this
    exact this
  cases hb : nearsB [(ax, ay), (bx, by')] with
  | false =>
    rw [hb] at HN
    rw [if_neg (fun h => by cases h)]
    simp only
    clear hb HZ
    go_enter Tryz.func62, Tryz.ntmps62
    go_wp2_with fail
    refine Calls.mono (HN.out _ _ (p1 _ _ _)) ?_
    rintro e w1 ⟨rfl, h1⟩
    have K1 : Hid (Kp w w1) := Kp.trans (k1 _ _ _) h1
    clear h1
    go_wp2
    go_ret2
    exact ⟨rfl, K1.out⟩
  | true =>
    rw [hb] at HN
    rw [if_pos rfl]
    obtain ⟨na, nb⟩ := HZ.out hb
    have hq := sqV_le na nb
    have hq0 := sqV_nn (ax, ay) (bx, by')
    obtain ⟨a1, a2⟩ := nearB_nr na
    obtain ⟨b1, b2⟩ := nearB_nr nb
    simp only at a1 a2 b1 b2 ⊢
    have HX : Hid (∀ r, 0 ≤ r → r * r ≤ sqV (ax, ay) (bx, by') → sqV (ax, ay) (bx, by') < (r + 1) * (r + 1) → r = szV (ax, ay) (bx, by')) := fun r h0 h1 h2 => szV_of h0 h1 h2
    have HM : Hid _ := fun w => iminus w bx by' ax ay (nr_sml b1) (nr_sml b2) (nr_sml a1) (nr_sml a2)
    unfold nr at a1 a2 b1 b2
    have hD1 := sq_le (x := bx - ax) (m := 134217728) (by omega) (by omega)
    have hD2 := sq_le (x := by' - ay) (m := 134217728) (by omega) (by omega)
    have hN1 := sq_nn (bx - ax)
    have hN2 := sq_nn (by' - ay)
    have hS : sqV (ax, ay) (bx, by') = (bx - ax) * (bx - ax) + (by' - ay) * (by' - ay) := rfl
    generalize szV (ax, ay) (bx, by') = V at *
    rw [hS] at HX hq hq0
    have HW : Hid _ := fun w => whole_any ((bx - ax) * (bx - ax) + (by' - ay) * (by' - ay)) w (by omega) (by omega)
    clear hS hb HZ na nb
    generalize bx - ax = dx at *
    generalize by' - ay = dy at *
    go_enter Tryz.func62, Tryz.ntmps62
    go_wp2_with fail
    refine Calls.mono (HN.out _ _ (p1 _ _ _)) ?_
    rintro e w1 ⟨rfl, h1⟩
    have K1 : Hid (Kp w w1) := Kp.trans (k1 _ _ _) h1
    obtain ⟨⟨q0, q1⟩, ⟨q2, q3⟩, _⟩ := boxes2 (Kp.trans ((Kp.refl _).alloc _ _) h1)
    clear h1 k1 p1 HN
    go_wp2_with fail
    refine Calls.mono (HM.out _) ?_
    rintro e w2 ⟨rfl, h2⟩
    have K2 : Hid (Kp w w2) := Kp.trans K1.out h2
    clear h2 q0 q1 q2 q3 HM
    go_wp2_with fail
    refine Calls.mono (HW.out _) ?_
    rintro e w3 ⟨r, rfl, r0, r1, r2, rfl⟩
    have HE : Hid (r = V) := HX.out r r0 r1 r2
    clear r2 r1
    go_wp2
    refine bodyPost_ret (v := .tuple #[.int .i64 r, .bool true]) (by simp [results, Tryz.results62, go_sem]) rfl ⟨by rw [HE.out], ?_⟩
    exact K2.out.alloc _ _
end Go.Proofs.YtfdjjbgcaojcnaaGreat
namespace Go.Proofs.YtfdjjbgcaojcnaaGreat
open Go.ChangeShapes Go.WideShapes Go.ChangeAt Go.RowKit

set_option maxHeartbeats 400000 in
theorem divDown_any (a b : Int) (w : World) (hb : 0 < b) (hb' : b ≤ 4611686018427387904) (h1 : -4611686018427387904 ≤ a) (h2 : a ≤ 4611686018427387904) :
    Calls Tryz.prog 84 #[.int .i64 a, .int .i64 b] w fun e w' => e = .returned (.int .i64 (a / b)) ∧ w' = w := by
  by_cases ha : 0 ≤ a
  · have hd := ediv_bd a b ha hb
    have hm := Int.emod_nonneg a (b := b) (by omega)
    have hm' := Int.emod_lt_of_pos a hb
    go_enter Tryz.func84, Tryz.ntmps84
    go_wp2
    all_goals go_ret
    all_goals exact ⟨rfl, rfl⟩
  · have e1 := tdiv_neg_of a b (by omega)
    have e2 := tmod_neg_of a b (by omega)
    have e3 := ediv_neg_of a b hb
    have hd := ediv_bd (-a) b (by omega) hb
    have hm := Int.emod_nonneg (-a) (b := b) (by omega)
    have hm' := Int.emod_lt_of_pos (-a) hb
    by_cases hz : (-a) % b = 0
    · rw [if_pos hz] at e3
      rw [e3]
      clear e3
      generalize (-a) / b = q at *
      generalize (-a) % b = r at *
      go_enter Tryz.func84, Tryz.ntmps84
      go_wp2
      all_goals go_ret
      all_goals exact ⟨rfl, rfl⟩
    · rw [if_neg hz] at e3
      rw [e3]
      clear e3
      generalize (-a) / b = q at *
      generalize (-a) % b = r at *
      go_enter Tryz.func84, Tryz.ntmps84
      go_wp2
      all_goals go_ret
      all_goals exact ⟨rfl, rfl⟩
end Go.Proofs.YtfdjjbgcaojcnaaGreat
namespace Go.Proofs.YtfdjjbgcaojcnaaGreat
open Go.ChangeShapes Go.WideShapes Go.ChangeAt Go.RowKit

/-- a / b to the nearest, of two as near the greater. -/
def nearV (a b : Int) : Int := if b < 0 then (2 * -a + -b) / (2 * -b) else (2 * a + b) / (2 * b)

set_option maxHeartbeats 400000 in
theorem nearest_any (a b : Int) (w : World) (hb : b ≠ 0) (hb1 : -1152921504606846976 ≤ b) (hb2 : b ≤ 1152921504606846976) (h1 : -1152921504606846976 ≤ a) (h2 : a ≤ 1152921504606846976) :
    Calls Tryz.prog 117 #[.int .i64 a, .int .i64 b] w fun e w' => e = .returned (.int .i64 (nearV a b)) ∧ w' = w := by
  by_cases hn : b < 0
  · have e : nearV a b = (2 * -a + -b) / (2 * -b) := by unfold nearV; rw [if_pos hn]
    rw [e]; clear e
    go_enter Tryz.func117, Tryz.ntmps117
    go_wp2_with (go_at_call 84; refine (divDown_any _ _ _ (by omega) (by omega) (by omega) (by omega)).mono ?_; rintro e w' ⟨rfl, rfl⟩)
    go_ret
    exact ⟨rfl, rfl⟩
  · have e : nearV a b = (2 * a + b) / (2 * b) := by unfold nearV; rw [if_neg hn]
    rw [e]; clear e
    go_enter Tryz.func117, Tryz.ntmps117
    go_wp2_with (go_at_call 84; refine (divDown_any _ _ _ (by omega) (by omega) (by omega) (by omega)).mono ?_; rintro e w' ⟨rfl, rfl⟩)
    go_ret
    exact ⟨rfl, rfl⟩

/-- Cut to a range. -/
def cutV (x least greatest : Int) : Int := max least (min x greatest)

set_option maxHeartbeats 400000 in
theorem cutTo_any (x l g : Int) (w : World) :
    Calls Tryz.prog 116 #[.int .i64 x, .int .i64 l, .int .i64 g] w fun e w' => e = .returned (.int .i64 (cutV x l g)) ∧ w' = w := by
  go_enter Tryz.func116, Tryz.ntmps116
  go_wp2
  all_goals go_ret
  all_goals exact ⟨ret_int (by unfold cutV; omega), rfl⟩

/-- What FixDiv answers. -/
def divV (a b : Int) : Int := if -1099511627776 ≤ a ∧ a ≤ 1099511627776 ∧ -1099511627776 ≤ b ∧ b ≤ 1099511627776 ∧ b ≠ 0 then cutV (nearV (a * 65536) b) (-1099511627776) 1099511627776 else 0

set_option maxHeartbeats 800000 in
theorem fixDiv_yes (a b : Int) (w : World) (a1 : -1099511627776 ≤ a) (a2 : a ≤ 1099511627776) (b1 : -1099511627776 ≤ b) (b2 : b ≤ 1099511627776) (b0 : b ≠ 0) :
    Calls Tryz.prog 105 #[.int .i64 a, .int .i64 b] w fun e w' => e = .returned (.int .i64 (cutV (nearV (a * 65536) b) (-1099511627776) 1099511627776)) ∧ w' = w := by
  have hz : (b == 0) = false := by simpa using b0
  go_enter Tryz.func105, Tryz.ntmps105
  go_wp2_with (first | (go_at_call 117; refine (nearest_any _ _ _ (by omega) (by omega) (by omega) (by omega) (by omega)).mono ?_; rintro e w' ⟨rfl, rfl⟩) | (go_at_call 116; refine (cutTo_any _ _ _ _).mono ?_; rintro e w' ⟨rfl, rfl⟩) | go_in)
  go_ret
  exact ⟨rfl, rfl⟩
end Go.Proofs.YtfdjjbgcaojcnaaGreat
