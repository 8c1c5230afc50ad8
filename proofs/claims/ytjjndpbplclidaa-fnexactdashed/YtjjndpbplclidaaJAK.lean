/-
  What the program's wholeRoot answers, for numbers within the bounds named in each theorem.
  How far a point lies from another, of both: SizeOf; each theorem names its conditions.
  A dashing goes along a side, by the program: along; each theorem names its conditions.
  A dashing's sum and skip, by the program; each theorem names its conditions.
-/
import Derived.Test.YtjjndpbplclidaaJAA
import Derived.Test.YtjjndpbplclidaaJAJ
import Derived.Test.YtjjndpbplclidaaJAI
import Derived.Deep.DeepCutAuto
namespace Go.Proofs.Ytjjndpbplclidaa
open Go.ChangeShapes Go.WideShapes Go.ChangeAt Go.RowKit

theorem root_uniq (n r s : Int) (hr : 0 ≤ r) (hs : 0 ≤ s) (r1 : r * r ≤ n) (r2 : n < (r + 1) * (r + 1)) (s1 : s * s ≤ n) (s2 : n < (s + 1) * (s + 1)) : r = s := by
  by_cases h : r < s
  · have : (r + 1) * (r + 1) ≤ s * s := Int.mul_le_mul (by omega) (by omega) (by omega) (by omega); omega
  by_cases h' : s < r
  · have : (s + 1) * (s + 1) ≤ r * r := Int.mul_le_mul (by omega) (by omega) (by omega) (by omega); omega
  omega

theorem sq_bd (r : Int) (h0 : 0 ≤ r) (h : r ≤ 2147483648) : 0 ≤ r * r ∧ r * r ≤ 4611686018427387904 :=
  ⟨Int.mul_nonneg h0 h0, Int.mul_le_mul h h h0 (by omega)⟩

set_option maxHeartbeats 1000000 in
theorem whole_any (n : Int) (w : World) (hn : 0 ≤ n) (hn' : n < 4611686018427387904) :
    Calls Try.prog 79 #[.int .i64 n] w fun e w' => ∃ r : Int, e = .returned (.int .i64 r) ∧ 0 ≤ r ∧ r * r ≤ n ∧ n < (r + 1) * (r + 1) ∧ w' = w := by
  go_enter Try.func79, Try.ntmps79
  go_wp2
  go_loop [3, 4] (fun root bit => ∃ (k : Nat) (r T : Int), T = 2 ^ k ∧ k ≤ 31 ∧ 0 ≤ r ∧ r * r ≤ n ∧ n < (r + T) * (r + T) ∧ r + T ≤ 2147483648 ∧ root = .int .i64 r ∧ bit = .int .i64 (T / 2)) (fun _ bit => (intOf bit).toNat)
  case atStart => exact ⟨31, 0, 2147483648, by decide, by omega, by omega, by omega, by omega, by omega, rfl, rfl⟩
  case round =>
    obtain ⟨k, r, T, hT, hk, h0, h1, h2, h3, rfl, rfl⟩ := hrel
    cases k with
    | zero =>
      obtain rfl : T = 1 := by simpa using hT
      clear hT
      go_wp2
      go_ret
      exact ⟨r, rfl, h0, h1, h2, rfl⟩
    | succ j =>
      obtain ⟨B, hB⟩ : ∃ B : Int, B = 2 ^ j := ⟨_, rfl⟩
      have hB1 : 0 < B := by rw [hB]; exact Int.pow_pos (by omega)
      have hTB : T = 2 * B := by rw [hT, hB, Int.pow_succ]; omega
      have HB : Hid (B = 2 ^ j) := hB
      clear hB hT
      subst hTB
      rw [show 2 * B / 2 = B from by omega] at *
      obtain ⟨s1, s2⟩ := sq_bd (r + B) (by omega) (by omega)
      by_cases hc : (r + B) * (r + B) ≤ n
      · go_wp2
        go_round
        case rel => exact ⟨j, r + B, B, HB.out, by omega, by omega, hc, by rw [show r + B + B = r + 2 * B from by omega]; exact h2, by omega, rfl, rfl⟩
        case measure => simp [intOf]; omega
      · go_wp2
        go_round
        case rel => exact ⟨j, r, B, HB.out, by omega, h0, h1, by omega, by omega, rfl, rfl⟩
        case measure => simp [intOf]; omega
/-- Every number has a root, rounded down. -/
theorem root_nat (n : Nat) : ∃ r : Nat, r * r ≤ n ∧ n < (r + 1) * (r + 1) := by
  induction n with
  | zero => exact ⟨0, by omega, by omega⟩
  | succ n ih =>
    obtain ⟨r, h1, h2⟩ := ih
    by_cases h : n + 1 < (r + 1) * (r + 1)
    · exact ⟨r, by omega, h⟩
    · refine ⟨r + 1, by omega, ?_⟩
      have : (r + 1) * (r + 1) < (r + 1 + 1) * (r + 1 + 1) := Nat.mul_lt_mul_of_lt_of_lt (by omega) (by omega)
      omega
end Go.Proofs.Ytjjndpbplclidaa
namespace Go.Proofs.Ytjjndpbplclidaa
open Go.ChangeShapes Go.WideShapes Go.ChangeAt Go.RowKit
set_option linter.unusedVariables false

/-- The root of a number, down. -/
def rootN : Nat → Nat
  | 0 => 0
  | n + 1 => if (rootN n + 1) * (rootN n + 1) ≤ n + 1 then rootN n + 1 else rootN n
theorem rootN_is (n : Nat) : rootN n * rootN n ≤ n ∧ n < (rootN n + 1) * (rootN n + 1) := by
  induction n with
  | zero => exact ⟨Nat.le_refl _, by decide⟩
  | succ n ih =>
    obtain ⟨h1, h2⟩ := ih
    unfold rootN
    split
    · rename_i h
      refine ⟨h, ?_⟩
      have : (rootN n + 1) * (rootN n + 1) < (rootN n + 1 + 1) * (rootN n + 1 + 1) := Nat.mul_lt_mul_of_lt_of_lt (by omega) (by omega)
      omega
    · rename_i h
      exact ⟨by omega, by omega⟩
/-- The sum of the squares of the differences. -/
def sqV (a b : Pnt) : Int := (b.1 - a.1) * (b.1 - a.1) + (b.2 - a.2) * (b.2 - a.2)
def szV (a b : Pnt) : Int := (rootN (sqV a b).toNat : Nat)
theorem sq_nn (x : Int) : 0 ≤ x * x := by
  by_cases h : 0 ≤ x
  · exact Int.mul_nonneg h h
  · rw [← Int.neg_mul_neg]; exact Int.mul_nonneg (by omega) (by omega)
theorem sq_le {x : Int} {m : Int} (h1 : -m ≤ x) (h2 : x ≤ m) : x * x ≤ m * m := by
  by_cases h : 0 ≤ x
  · exact Int.mul_le_mul h2 h2 h (by omega)
  · rw [← Int.neg_mul_neg]; exact Int.mul_le_mul (by omega) (by omega) (by omega) (by omega)
theorem sqV_nn (a b : Pnt) : 0 ≤ sqV a b := Int.add_nonneg (sq_nn _) (sq_nn _)
theorem szV_is (a b : Pnt) : 0 ≤ szV a b ∧ szV a b * szV a b ≤ sqV a b ∧ sqV a b < (szV a b + 1) * (szV a b + 1) := by
  have h := rootN_is (sqV a b).toNat
  have h0 := sqV_nn a b
  unfold szV
  generalize rootN (sqV a b).toNat = r at *
  have e1 : ((r * r : Nat) : Int) = (r : Int) * r := Int.natCast_mul r r
  have e2 : (((r + 1) * (r + 1) : Nat) : Int) = ((r : Int) + 1) * ((r : Int) + 1) := by rw [Int.natCast_mul]; rfl
  exact ⟨by omega, by omega, by omega⟩
theorem szV_of {a b : Pnt} {r : Int} (h0 : 0 ≤ r) (h1 : r * r ≤ sqV a b) (h2 : sqV a b < (r + 1) * (r + 1)) : r = szV a b := by
  obtain ⟨s0, s1, s2⟩ := szV_is a b
  exact root_uniq _ r _ h0 s0 h1 h2 s1 s2
theorem sqV_le {a b : Pnt} (ha : nearB a = true) (hb : nearB b = true) : sqV a b ≤ 36028797018963968 := by
  obtain ⟨a1, a2⟩ := nearB_nr ha
  obtain ⟨b1, b2⟩ := nearB_nr hb
  unfold nr at *
  have h1 := sq_le (x := b.1 - a.1) (m := 134217728) (by omega) (by omega)
  have h2 := sq_le (x := b.2 - a.2) (m := 134217728) (by omega) (by omega)
  unfold sqV
  omega
theorem szV_le {a b : Pnt} (ha : nearB a = true) (hb : nearB b = true) : szV a b ≤ 268435455 := by
  obtain ⟨s0, s1, s2⟩ := szV_is a b
  have h := sqV_le ha hb
  by_cases c : szV a b ≤ 268435455
  · exact c
  · exfalso
    have : (268435456 : Int) * 268435456 ≤ szV a b * szV a b := Int.mul_le_mul (by omega) (by omega) (by omega) (by omega)
    omega
set_option maxHeartbeats 2000000 in
theorem ssize (w : World) (a b : Pnt) (ha : nearB a = true) (hb : nearB b = true) :
    Calls Try.prog 74 #[.agg #[.int .i64 a.1, .int .i64 a.2], .agg #[.int .i64 b.1, .int .i64 b.2]] w fun e w' => e = .returned (.int .i64 (szV a b)) ∧ Kp w w' := by
  have HX : Hid (∀ r, 0 ≤ r → r * r ≤ sqV a b → sqV a b < (r + 1) * (r + 1) → r = szV a b) := fun r h0 h1 h2 => szV_of h0 h1 h2
  have hq := sqV_le ha hb
  have hq0 := sqV_nn a b
  obtain ⟨a1, a2⟩ := nearB_nr ha
  obtain ⟨b1, b2⟩ := nearB_nr hb
  clear ha hb
  obtain ⟨ax, ay⟩ := a
  obtain ⟨bx, by'⟩ := b
  unfold nr at *
  simp only at *
  have hD1 := sq_le (x := bx - ax) (m := 134217728) (by omega) (by omega)
  have hD2 := sq_le (x := by' - ay) (m := 134217728) (by omega) (by omega)
  have hN1 := sq_nn (bx - ax)
  have hN2 := sq_nn (by' - ay)
  have hS : sqV (ax, ay) (bx, by') = (bx - ax) * (bx - ax) + (by' - ay) * (by' - ay) := rfl
  generalize szV (ax, ay) (bx, by') = V at *
  rw [hS] at HX hq hq0
  clear hS
  go_enter Try.func74, Try.ntmps74
  go_wp2
  go_loop [7, 8] (fun lo hi => ∃ l h : Int, lo = .int .i64 l ∧ hi = .int .i64 h ∧ 0 ≤ l ∧ l ≤ h ∧ h ≤ 268435456 ∧ l * l ≤ (bx - ax) * (bx - ax) + (by' - ay) * (by' - ay) ∧ (bx - ax) * (bx - ax) + (by' - ay) * (by' - ay) < (h + 1) * (h + 1)) (fun lo hi => (intOf hi - intOf lo).toNat)
  case atStart => exact ⟨0, 268435456, rfl, rfl, by omega, by omega, by omega, by omega, by omega⟩
  case round =>
    obtain ⟨l, h, rfl, rfl, h0, h1, h2, h3, h4⟩ := hrel
    have H4 : Hid _ := h4
    have H3 : Hid _ := h3
    clear h4 h3
    by_cases hlt : l < h
    · have m1 : l < l + (h - l + 1) / 2 := by omega
      have m2 : l + (h - l + 1) / 2 ≤ h := by omega
      obtain ⟨s1, s2⟩ := sq_bd (l + (h - l + 1) / 2) (by omega) (by omega)
      by_cases hc : (bx - ax) * (bx - ax) + (by' - ay) * (by' - ay) < (l + (h - l + 1) / 2) * (l + (h - l + 1) / 2)
      · have hd : decide ((bx - ax) * (bx - ax) + (by' - ay) * (by' - ay) < (l + (h - l + 1) / 2) * (l + (h - l + 1) / 2)) = true := decide_eq_true hc
        go_wp2
        go_round
        case rel => exact ⟨l, l + (h - l + 1) / 2 - 1, rfl, rfl, h0, by omega, by omega, H3.out, by rw [Int.sub_add_cancel]; exact hc⟩
        case measure => simp [intOf]; omega
      · have hd : decide ((bx - ax) * (bx - ax) + (by' - ay) * (by' - ay) < (l + (h - l + 1) / 2) * (l + (h - l + 1) / 2)) = false := decide_eq_false hc
        go_wp2
        go_round
        case rel => exact ⟨l + (h - l + 1) / 2, h, rfl, rfl, by omega, m2, h2, by omega, H4.out⟩
        case measure => simp [intOf]; omega
    · obtain rfl : l = h := by omega
      have HE : Hid (l = V) := HX.out l h0 H3.out H4.out
      clear hlt
      go_wp2
      go_ret
      exact ⟨ret_int HE.out, ((Kp.refl w).alloc _ _).alloc _ _⟩
/-- What SizeOf answers. -/
def soV (a b : Pnt) : Int × Bool := if nearB a = true ∧ nearB b = true then (szV a b, true) else (0, false)
set_option maxHeartbeats 2000000 in
theorem isizeOf (w : World) (a b : Pnt) :
    Calls Try.prog 60 #[.agg #[.int .i64 a.1, .int .i64 a.2], .agg #[.int .i64 b.1, .int .i64 b.2]] w fun e w' => e = .returned (.tuple #[.int .i64 (soV a b).1, .bool (soV a b).2]) ∧ Kp w w' := by
  have hv : soV a b = if nearsB [a, b] = true then (szV a b, true) else (0, false) := by
    unfold soV nearsB
    cases h1 : nearB a <;> cases h2 : nearB b <;> simp [h1, h2]
  have HN : Hid (∀ (w : World) (g : Nat), Pts w (some ⟨g, 0, none⟩) [a, b] → _) := fun w g h => inear w (some ⟨g, 0, none⟩) 2 [a, b] (by simp) h
  have HZ : Hid (nearsB [a, b] = true → nearB a = true ∧ nearB b = true) := fun h => by simpa [nearsB] using h
  rw [hv]
  clear hv
  obtain ⟨ax, ay⟩ := a
  obtain ⟨bx, by'⟩ := b
  simp only at *
  have k1 : ∀ t1 t2 t3, Kp w (((w.alloc (.cells #[.int .i64 ax, .int .i64 ay] t1)).alloc (.cells #[.int .i64 bx, .int .i64 by'] t2)).alloc (.cells #[.int .i64 ax, .int .i64 ay, .int .i64 bx, .int .i64 by'] t3)) := fun t1 t2 t3 => (((Kp.refl w).alloc _ _).alloc _ _).alloc _ _
  have p1 : ∀ t1 t2 t3, Pts (((w.alloc (.cells #[.int .i64 ax, .int .i64 ay] t1)).alloc (.cells #[.int .i64 bx, .int .i64 by'] t2)).alloc (.cells #[.int .i64 ax, .int .i64 ay, .int .i64 bx, .int .i64 by'] t3)) (some ⟨w.heap.size + 1 + 1, 0, none⟩) [(ax, ay), (bx, by')] := fun t1 t2 t3 => by
    have := pts2_new ((w.alloc (.cells #[.int .i64 ax, .int .i64 ay] t1)).alloc (.cells #[.int .i64 bx, .int .i64 by'] t2)) ax ay bx by' t3
    rw [World.size_alloc, World.size_alloc] at this
    exact this
  cases hb : nearsB [(ax, ay), (bx, by')] with
  | false =>
    rw [hb] at HN
    rw [if_neg (fun h => by cases h)]
    simp only
    clear hb HZ
    go_enter Try.func60, Try.ntmps60
    go_wp2_with fail
    refine Calls.mono (HN.out _ _ (p1 _ _ _)) ?_
    rintro e w1 ⟨rfl, h1⟩
    have K1 : Hid (Kp w w1) := Kp.trans (k1 _ _ _) h1
    clear h1
    go_wp2
    go_ret2
    exact ⟨rfl, K1.out⟩
  | true =>
    rw [hb] at HN
    rw [if_pos rfl]
    obtain ⟨na, nb⟩ := HZ.out hb
    have hq := sqV_le na nb
    have hq0 := sqV_nn (ax, ay) (bx, by')
    obtain ⟨a1, a2⟩ := nearB_nr na
    obtain ⟨b1, b2⟩ := nearB_nr nb
    simp only at a1 a2 b1 b2 ⊢
    have HX : Hid (∀ r, 0 ≤ r → r * r ≤ sqV (ax, ay) (bx, by') → sqV (ax, ay) (bx, by') < (r + 1) * (r + 1) → r = szV (ax, ay) (bx, by')) := fun r h0 h1 h2 => szV_of h0 h1 h2
    have HM : Hid _ := fun w => iminus w bx by' ax ay (nr_sml b1) (nr_sml b2) (nr_sml a1) (nr_sml a2)
    unfold nr at a1 a2 b1 b2
    have hD1 := sq_le (x := bx - ax) (m := 134217728) (by omega) (by omega)
    have hD2 := sq_le (x := by' - ay) (m := 134217728) (by omega) (by omega)
    have hN1 := sq_nn (bx - ax)
    have hN2 := sq_nn (by' - ay)
    have hS : sqV (ax, ay) (bx, by') = (bx - ax) * (bx - ax) + (by' - ay) * (by' - ay) := rfl
    generalize szV (ax, ay) (bx, by') = V at *
    rw [hS] at HX hq hq0
    have HW : Hid _ := fun w => whole_any ((bx - ax) * (bx - ax) + (by' - ay) * (by' - ay)) w (by omega) (by omega)
    clear hS hb HZ na nb
    generalize bx - ax = dx at *
    generalize by' - ay = dy at *
    go_enter Try.func60, Try.ntmps60
    go_wp2_with fail
    refine Calls.mono (HN.out _ _ (p1 _ _ _)) ?_
    rintro e w1 ⟨rfl, h1⟩
    have K1 : Hid (Kp w w1) := Kp.trans (k1 _ _ _) h1
    obtain ⟨⟨q0, q1⟩, ⟨q2, q3⟩, _⟩ := boxes2 (Kp.trans ((Kp.refl _).alloc _ _) h1)
    clear h1 k1 p1 HN
    go_wp2_with fail
    refine Calls.mono (HM.out _) ?_
    rintro e w2 ⟨rfl, h2⟩
    have K2 : Hid (Kp w w2) := Kp.trans K1.out h2
    clear h2 q0 q1 q2 q3 HM
    go_wp2_with fail
    refine Calls.mono (HW.out _) ?_
    rintro e w3 ⟨r, rfl, r0, r1, r2, rfl⟩
    have HE : Hid (r = V) := HX.out r r0 r1 r2
    clear r2 r1
    go_wp2
    refine bodyPost_ret (v := .tuple #[.int .i64 r, .bool true]) (by simp [results, Try.results60, go_sem]) rfl ⟨by rw [HE.out], ?_⟩
    exact K2.out.alloc _ _
end Go.Proofs.Ytjjndpbplclidaa
namespace Go.Proofs.Ytjjndpbplclidaa
open Go.ChangeShapes Go.WideShapes Go.ChangeAt Go.RowKit
set_option linter.unusedVariables false

def walkD (ns : List Int) (a b : Pnt) (n : Int) : Nat → Dg → Int → Dg
  | 0, d, _ => d
  | f + 1, d, g => if d.left ≤ n - g then (if 2400 < (turnD ns d (placeV a b (g + d.left) n)).begun then turnD ns d (placeV a b (g + d.left) n) else walkD ns a b n f (turnD ns d (placeV a b (g + d.left) n)) (g + d.left)) else reachD ⟨d.at', d.left - (n - g), d.begun, d.p, d.o⟩ b
def alongD (ns : List Int) (d : Dg) (a b : Pnt) : Dg := if szV a b = 0 then d else walkD ns a b (szV a b) (2401 - d.begun + 1) d 0
/-- How far a dashing can be. -/
structure DB (c : Nat) (d : Dg) : Prop where
  ha : d.at' ≤ d.begun + 16
  hp : d.p.length ≤ c
  ho : d.o.length ≤ d.begun
  h0 : 0 ≤ d.left
  h1 : d.left ≤ 67108864
  hb : d.begun ≤ 2401 + c
  hm : manyL d.o + d.p.length ≤ 2 * d.begun + c
def NB (ns : List Int) : Prop := 0 < ns.length ∧ ∀ i, i < ns.length → 0 ≤ intAt ns i ∧ intAt ns i ≤ 67108864
theorem turn_is (ns : List Int) (d : Dg) (q : Pnt) : (turnD ns d q).begun = d.begun + 1 ∧ (turnD ns d q).at' = d.at' + 1 ∧ (turnD ns d q).p.length ≤ 1 ∧ (turnD ns d q).o.length ≤ d.o.length + 1 ∧ (turnD ns d q).left = intAt ns ((d.at' + 1) % ns.length) ∧ manyL (turnD ns d q).o + (turnD ns d q).p.length ≤ manyL d.o + d.p.length + 2 := by
  obtain ⟨b1, b2, b3, b4, b5⟩ := rD_bd d q
  obtain ⟨c1, c2, c3, c4, c5⟩ := rD_bd (moreD (nextD ns (layD (reachD d q)))) q
  have e := endL_len (reachD d q).o (reachD d q).p false
  have em := endL_many (reachD d q).o (reachD d q).p false
  have ho : (turnD ns d q).o = endL (reachD d q).o (reachD d q).p false := c2
  have hp : (turnD ns d q).p.length ≤ 1 := Nat.le_trans c1 (Nat.le_refl _)
  refine ⟨c4.trans ?_, c3.trans ?_, hp, ?_, c5.trans ?_, by rw [ho]; rw [b2] at em ⊢; omega⟩
  · show (reachD d q).begun + 1 = _; rw [b4]
  · show (reachD d q).at' + 1 = _; rw [b3]
  · show (reachD (moreD (nextD ns (layD (reachD d q)))) q).o.length ≤ _
    rw [c2]
    show (endL (reachD d q).o (reachD d q).p false).length ≤ _
    rw [b2] at e ⊢
    exact e
  · show intAt ns (((reachD d q).at' + 1) % ns.length) = _; rw [b3]
theorem DB.turn {c : Nat} {d : Dg} {ns : List Int} (h : DB c d) (hc : 1 ≤ c) (hn : NB ns) (q : Pnt) (hb : d.begun + 1 ≤ 2401 + c) : DB c (turnD ns d q) := by
  obtain ⟨t1, t2, t3, t4, t5, t6⟩ := turn_is ns d q
  obtain ⟨n1, n2⟩ := hn.2 _ (Nat.mod_lt (d.at' + 1) hn.1)
  exact ⟨by rw [t1, t2]; have := h.ha; omega, by omega, by rw [t1]; have := h.ho; omega, by rw [t5]; exact n1, by rw [t5]; exact n2, by rw [t1]; exact hb, by rw [t1]; have := h.hm; omega⟩
theorem DB.more {c : Nat} {d : Dg} (h : DB c d) : DB (c + 1) d := ⟨h.ha, by have := h.hp; omega, h.ho, h.h0, h.h1, by have := h.hb; omega, by have := h.hm; omega⟩
set_option maxRecDepth 100000 in
set_option maxHeartbeats 8000000 in
/-- Along a side. -/
theorem ialong (w0 w : World) (bx : Nat) (K : List (Nat × Int × Int)) (na : Option Addr) (nc : Nat) (ns : List Int) (d : Dg) (ax ay ex ey : Int) (c : Nat) (hb0 : w0.heap.size ≤ bx) (hna : nearB (ax, ay) = true) (hnb : nearB (ex, ey) = true) (hI : Ints w0 na ns) (hns : NB ns) (hc : 1 ≤ c) (hc2 : c ≤ 10000) (hdb : DB c d) (h : DhS bx w0 w K na nc ns d) :
    Calls Try.prog 36 #[.pointer (some ⟨bx, 0, none⟩), .agg #[.int .i64 ax, .int .i64 ay], .agg #[.int .i64 ex, .int .i64 ey]] w fun e w' => e = .returned (.tuple #[]) ∧ DhS bx w0 w' K na nc ns (alongD ns d (ax, ay) (ex, ey)) ∧ DB (c + 1) (alongD ns d (ax, ay) (ex, ey)) := by
  have HSZ : Hid (∀ w, _) := fun w => isizeOf w (ax, ay) (ex, ey)
  have e1 : soV (ax, ay) (ex, ey) = (szV (ax, ay) (ex, ey), true) := by unfold soV; rw [if_pos ⟨hna, hnb⟩]
  rw [e1] at HSZ
  simp only at HSZ
  have hn0 : 0 ≤ szV (ax, ay) (ex, ey) := (szV_is _ _).1
  have hn1 : szV (ax, ay) (ex, ey) ≤ 268435455 := szV_le hna hnb
  obtain ⟨R, hR⟩ : ∃ R, alongD ns d (ax, ay) (ex, ey) = R := ⟨_, rfl⟩
  rw [hR]
  obtain ⟨n, hn⟩ : ∃ n, szV (ax, ay) (ex, ey) = n := ⟨_, rfl⟩
  have hR2 : (if n = 0 then d else walkD ns (ax, ay) (ex, ey) n (2401 - d.begun + 1) d 0) = R := by rw [← hR, ← hn]; rfl
  rw [hn] at HSZ hn0 hn1
  obtain ⟨W2, hW2⟩ : ∃ W2, (w.alloc (.cells #[.int .i64 ax, .int .i64 ay] 54)).alloc (.cells #[.int .i64 ex, .int .i64 ey] 54) = W2 := ⟨_, rfl⟩
  have h2 := DhS.box (DhS.box h ax ay 54) ex ey 54
  rw [hW2, World.size_alloc] at h2
  obtain ⟨ba, hba⟩ : ∃ ba, w.heap.size = ba := ⟨_, rfl⟩
  rw [hba] at h2
  have H2 : Hid (DhS bx w0 W2 ((ba + 1, ex, ey) :: (ba, ax, ay) :: K) na nc ns d) := h2
  have HNA : Hid (nr ax ∧ nr ay ∧ nr ex ∧ nr ey) := ⟨(nearB_nr hna).1, (nearB_nr hna).2, (nearB_nr hnb).1, (nearB_nr hnb).2⟩
  have HW2 : Hid (_ = W2) := hW2
  have HBA : Hid (w.heap.size = ba) := hba
  have HI : Hid (Ints w0 na ns) := hI
  have HNB : Hid (NB ns) := hns
  have HDB : Hid (DB c d) := hdb
  obtain ⟨q0, q1⟩ := DhS.at H2.out (b := ba) (x := ax) (y := ay) (by simp)
  obtain ⟨q2, q3⟩ := DhS.at H2.out (b := ba + 1) (x := ex) (y := ey) (by simp)
  clear h h2 hW2 hba hI hns hdb hna hnb e1 hR
  by_cases hz : n = 0
  · subst hz
    have HR : Hid (R = d) := by show _ = _; rw [← hR2, if_pos rfl]
    clear hR2 hn
    go_enter Try.func36, Try.ntmps36
    go_wp2_with fail
    rw [HW2.out]
    refine Calls.mono (HSZ.out _) ?_
    rintro e w3 ⟨rfl, k3⟩
    have H3 : Hid (DhS bx w0 w3 K na nc ns d) := DhS.sub (DhS.nw H2.out k3.nw) (fun k hk => by simp [hk])
    clear k3 q0 q1 q2 q3
    go_wp2
    (try simp only [Exit.inBlock, Exit.then])
    refine bodyPost_ret (results_none rfl _ _ _) rfl ?_
    exact ⟨rfl, by rw [HR.out]; exact ⟨H3.out, HDB.out.more⟩⟩
  · have HR : Hid (walkD ns (ax, ay) (ex, ey) n (2401 - d.begun + 1) d 0 = R) := by show _ = _; rw [← hR2, if_neg hz]
    have hz1 : (n == 0) = false := by simp [hz]
    clear hR2 hn
    go_enter Try.func36, Try.ntmps36
    go_wp2_with fail
    rw [HW2.out, HBA.out]
    refine Calls.mono (HSZ.out _) ?_
    rintro e w3 ⟨rfl, k3⟩
    have H3 : Hid (DhS bx w0 w3 ((ba + 1, ex, ey) :: (ba, ax, ay) :: K) na nc ns d) := DhS.nw H2.out k3.nw
    clear k3 q0 q1 q2 q3 H2
    go_wp2
    clear hz1
    go_loopw [8] (fun g wr => ∃ gi : Int, g = .int .i64 gi ∧ 0 ≤ gi ∧ gi ≤ n ∧ ∃ d', DhS bx w0 wr ((ba + 1, ex, ey) :: (ba, ax, ay) :: K) na nc ns d' ∧ DB c d' ∧ walkD ns (ax, ay) (ex, ey) n (2401 - d'.begun + 1) d' gi = R) (fun _ wr => 30000 - (intOf ((wr.cell? ⟨bx, 3, none⟩).getD undef)).toNat)
    case atStart => exact ⟨0, rfl, by omega, by omega, d, H3.out, HDB.out, HR.out⟩
    case round =>
      obtain ⟨gi, rfl, hg0, hg1, d', hd', hdb', hr'⟩ := hrel
      have HD : Hid (DhS bx w0 wr ((ba + 1, ex, ey) :: (ba, ax, ay) :: K) na nc ns d') := hd'
      have HB' : Hid (DB c d') := hdb'
      have HR' : Hid (walkD ns (ax, ay) (ex, ey) n (2401 - d'.begun + 1) d' gi = R) := hr'
      have hl0 := hdb'.h0
      have hl1 := hdb'.h1
      have hbg := hdb'.hb
      obtain ⟨v, it, u, dh, _, _, _⟩ := hd'
      have c2 := dh.c2
      have c3 := dh.c3
      have fr := dh.free
      obtain ⟨q0, q1⟩ := DhS.at HD.out (b := ba) (x := ax) (y := ay) (by simp)
      obtain ⟨q2, q3⟩ := DhS.at HD.out (b := ba + 1) (x := ex) (y := ey) (by simp)
      clear hdb' hr' dh
      obtain ⟨lf, hlf⟩ : ∃ lf, d'.left = lf := ⟨_, rfl⟩
      have HLF : Hid (d'.left = lf) := hlf
      obtain ⟨bg, hbgn⟩ : ∃ bg, d'.begun = bg := ⟨_, rfl⟩
      have HBG : Hid (d'.begun = bg) := hbgn
      rw [hlf] at c2 hl0 hl1
      rw [hbgn] at c3 hbg
      by_cases hle : lf ≤ n - gi
      · have dl : decide (lf ≤ n - gi) = true := decide_eq_true hle
        obtain ⟨q, hq⟩ : ∃ q, placeV (ax, ay) (ex, ey) (gi + lf) n = q := ⟨_, rfl⟩
        have HRT : Hid ((if 2400 < (turnD ns d' q).begun then turnD ns d' q else walkD ns (ax, ay) (ex, ey) n (2401 - bg) (turnD ns d' q) (gi + lf)) = R) := by
          have := HR'.out
          rw [HBG.out] at this
          rw [walkD, if_pos (by rw [HLF.out]; exact hle), HLF.out, hq] at this
          exact this
        have HPL : Hid (∀ w, _) := fun w => iplace w ax ay ex ey (gi + lf) n HNA.out.1 HNA.out.2.1 HNA.out.2.2.1 HNA.out.2.2.2 (by omega) (by omega) (by omega) (by omega)
        rw [hq] at HPL
        obtain ⟨t1, t2, t3, t4, t5, t6⟩ := turn_is ns d' q
        have HT1 : Hid ((turnD ns d' q).begun = bg + 1) := by show _ = _; rw [t1, HBG.out]
        obtain ⟨px, py⟩ := q
        simp only at HPL
        have HDT : Hid (∀ c2, 1 ≤ c2 → DB c2 d' → bg + 1 ≤ 2401 + c2 → DB c2 (turnD ns d' (px, py))) := fun c2 h1 h2 h3 => DB.turn h2 h1 HNB.out _ (by rw [HBG.out]; exact h3)
        have hwa : IntKind.i64.wrap (gi + lf) = gi + lf := IntWalk.i64_in _ ⟨by omega, by omega⟩
        clear hq t1 t2 t3 t4 t5 t6 hlf hbgn
        go_wp2_with fail
        refine Calls.mono (HPL.out _) ?_
        rintro e w4 ⟨rfl, n4⟩
        have H4 : Hid (DhS bx w0 w4 ((ba + 1, ex, ey) :: (ba, ax, ay) :: K) na nc ns d') := DhS.nw HD.out n4
        clear n4
        go_wp2_with fail
        refine Calls.mono (iturn w0 w4 bx _ na nc ns d' px py hb0 HNB.out.1 (by have := HB'.out.ha; have := HB'.out.hb; omega) (by have := HB'.out.hb; omega) (by have := HB'.out.hp; omega) (by have := HB'.out.ho; have := HB'.out.hb; omega) HI.out H4.out) ?_
        rintro e w5 ⟨rfl, h5⟩
        have H5 : Hid (DhS bx w0 w5 ((ba + 1, ex, ey) :: (ba, ax, ay) :: K) na nc ns (turnD ns d' (px, py))) := h5
        obtain ⟨v5, it5, u5, dh5, _, _, _⟩ := h5
        have c35 := dh5.c3
        rw [HT1.out] at c35
        simp only [Int.natCast_add, Int.cast_ofNat_Int] at c35
        clear dh5
        by_cases hgt : 2400 < bg + 1
        · have dg : decide ((2400 : Int) < (bg : Int) + 1) = true := by simp; omega
          have HRT2 : Hid (R = turnD ns d' (px, py)) := by
            show _ = _
            have := HRT.out
            rw [HT1.out, if_pos hgt] at this
            exact this.symm
          clear c2 c3 fr q0 q1 q2 q3 dl hwa
          go_wp2
          (try simp only [Exit.inBlock, Exit.then])
          refine bodyPost_ret (results_none rfl _ _ _) rfl ?_
          refine ⟨rfl, ?_⟩
          rw [HRT2.out]
          exact ⟨DhS.sub H5.out (fun k hk => by simp [hk]), HDT.out (c + 1) (by omega) HB'.out.more (by have := HB'.out.hb; omega)⟩
        · have dg : decide ((2400 : Int) < (bg : Int) + 1) = false := by simp; omega
          have HRT2 : Hid (walkD ns (ax, ay) (ex, ey) n (2401 - (turnD ns d' (px, py)).begun + 1) (turnD ns d' (px, py)) (gi + lf) = R) := by
            show _ = _
            have := HRT.out
            rw [HT1.out, if_neg hgt] at this
            rw [HT1.out, show 2401 - (bg + 1) + 1 = 2401 - bg by omega]
            exact this
          have c3' := c3
          clear c2 c3 fr q0 q1 q2 q3 dl hwa
          go_wp2
          go_roundw
          case rel => exact ⟨gi + lf, rfl, by omega, by omega, _, H5.out, HDT.out c hc HB'.out (by omega), HRT2.out⟩
          case measure => rw [c35, c3']; simp [intOf]; omega
      · have dl : decide (lf ≤ n - gi) = false := decide_eq_false hle
        have HRT : Hid (R = reachD ⟨d'.at', lf - (n - gi), d'.begun, d'.p, d'.o⟩ (ex, ey)) := by
          show _ = _
          have := HR'.out
          rw [walkD, if_neg (by rw [HLF.out]; exact hle), HLF.out] at this
          exact this.symm
        have hw1 : IntKind.i64.wrap (n - gi) = n - gi := IntWalk.i64_in _ ⟨by omega, by omega⟩
        have hw2 : IntKind.i64.wrap (lf - (n - gi)) = lf - (n - gi) := IntWalk.i64_in _ ⟨by omega, by omega⟩
        have H5 : Hid (DhS bx w0 (wr.setCell ⟨bx, 2, none⟩ (.int .i64 (lf - (n - gi)))) ((ba + 1, ex, ey) :: (ba, ax, ay) :: K) na nc ns ⟨d'.at', lf - (n - gi), d'.begun, d'.p, d'.o⟩) := by
          obtain ⟨v, it, u, dh, o1, n1, k1⟩ := HD.out
          obtain ⟨s1, s2⟩ := DH.setL dh (lf - (n - gi))
          exact DhS.of s1 o1 (Below.trans n1 (Below.mono s2 hb0)) rfl rfl rfl rfl (Kb.set k1 2 _)
        obtain ⟨r2, r3⟩ := DhS.at H5.out (b := ba + 1) (x := ex) (y := ey) (by simp)
        have HDB2 : Hid (DB (c + 1) (reachD ⟨d'.at', lf - (n - gi), d'.begun, d'.p, d'.o⟩ (ex, ey))) := by
          obtain ⟨b1, b2, b3, b4, b5⟩ := rD_bd ⟨d'.at', lf - (n - gi), d'.begun, d'.p, d'.o⟩ (ex, ey)
          simp only at b1 b2 b3 b4 b5
          have g1 := HB'.out.ha
          have g2 := HB'.out.hp
          have g3 := HB'.out.ho
          have g4 := HB'.out.hb
          have g5 := HB'.out.hm
          exact ⟨by rw [b3, b4]; exact g1, by omega, by rw [b2, b4]; exact g3, by rw [b5]; omega, by rw [b5]; omega, by rw [b4]; omega, by rw [b2, b4]; omega⟩
        clear hlf hbgn c3 q0 q1 q2 q3
        go_wp2_with fail
        refine Calls.mono (ireach w0 _ bx _ na nc ns ⟨d'.at', lf - (n - gi), d'.begun, d'.p, d'.o⟩ ex ey hb0 (by have := HB'.out.hp; show d'.p.length ≤ _; omega) H5.out) ?_
        rintro e w6 ⟨rfl, h6⟩
        have H6 : Hid _ := h6
        clear h6 c2 fr r2 r3 dl hw1 hw2
        go_wp2
        go_end0
        refine ⟨rfl, ?_⟩
        rw [HRT.out]
        exact ⟨DhS.sub H6.out (fun k hk => by simp [hk]), HDB2.out⟩
end Go.Proofs.Ytjjndpbplclidaa
namespace Go.Proofs.Ytjjndpbplclidaa
open Go.ChangeShapes Go.WideShapes Go.ChangeAt Go.RowKit
set_option linter.unusedVariables false

def sumN (ns : List Int) : Nat → Int
  | 0 => 0
  | k + 1 => sumN ns k + intAt ns k
/-- How much k numbers are, counted round and round. -/
def sumR (ns : List Int) : Nat → Int
  | 0 => 0
  | k + 1 => sumR ns k + intAt ns (k % ns.length)
theorem sumN_bd {ns : List Int} (h : ∀ i, i < ns.length → 0 ≤ intAt ns i ∧ intAt ns i ≤ 67108864) : ∀ k, k ≤ ns.length → 0 ≤ sumN ns k ∧ sumN ns k ≤ 67108864 * k
  | 0, _ => ⟨by simp [sumN], by simp [sumN]⟩
  | k + 1, hk => by
    obtain ⟨h1, h2⟩ := sumN_bd h k (by omega)
    obtain ⟨h3, h4⟩ := h k (by omega)
    show 0 ≤ sumN ns k + intAt ns k ∧ sumN ns k + intAt ns k ≤ _
    omega
theorem sumR_N {ns : List Int} : ∀ k, k ≤ ns.length → sumR ns k = sumN ns k
  | 0, _ => rfl
  | k + 1, hk => by
    show sumR ns k + intAt ns (k % ns.length) = sumN ns k + intAt ns k
    rw [sumR_N k (by omega), Nat.mod_eq_of_lt (by omega)]
theorem sumR_more (ns : List Int) : ∀ j, sumR ns (ns.length + j) = sumR ns ns.length + sumR ns j
  | 0 => by simp [sumR]
  | j + 1 => by
    show sumR ns (ns.length + j) + intAt ns ((ns.length + j) % ns.length) = sumR ns ns.length + (sumR ns j + intAt ns (j % ns.length))
    rw [sumR_more ns j, Nat.add_mod_left]
    omega
theorem sumR_step {ns : List Int} (h : NB ns) (k : Nat) : sumR ns k ≤ sumR ns (k + 1) ∧ sumR ns (k + 1) ≤ sumR ns k + 67108864 := by
  obtain ⟨h1, h2⟩ := h.2 _ (Nat.mod_lt k h.1)
  show sumR ns k ≤ sumR ns k + intAt ns (k % ns.length) ∧ sumR ns k + intAt ns (k % ns.length) ≤ _
  omega
theorem sumR_mono {ns : List Int} (h : NB ns) (a : Nat) : ∀ j, sumR ns a ≤ sumR ns (a + j)
  | 0 => Int.le_refl _
  | j + 1 => Int.le_trans (sumR_mono h a j) (sumR_step h (a + j)).1
theorem sumR_lt {ns : List Int} (h : NB ns) {a b : Nat} {f : Int} (h1 : sumR ns a ≤ f) (h2 : f < sumR ns b) : a < b := by
  rcases Nat.lt_or_ge a b with h3 | h3
  · exact h3
  · have := sumR_mono h b (a - b)
    rw [show b + (a - b) = a by omega] at this
    omega
theorem sumR_nn {ns : List Int} (h : NB ns) (k : Nat) : 0 ≤ sumR ns k := by
  have := sumR_mono h 0 k
  simpa [sumR] using this
set_option maxHeartbeats 1000000 in
theorem isum (w : World) (a : Option Addr) (c : Nat) (ns : List Int) (hl : ns.length ≤ 8) (hb : ∀ i, i < ns.length → 0 ≤ intAt ns i ∧ intAt ns i ≤ 67108864) (hr : Ints w a ns) :
    Calls Try.prog 32 #[.slice a ns.length c] w fun e w' => e = .returned (.int .i64 (sumN ns ns.length)) ∧ w' = w := by
  have HR : Hid (Ints w a ns) := hr
  have HB : Hid _ := hb
  clear hr hb
  obtain ⟨n, hn⟩ : ∃ n, ns.length = n := ⟨_, rfl⟩
  have HN : Hid (ns.length = n) := hn
  rw [hn] at hl ⊢
  clear hn
  go_enter Try.func32, Try.ntmps32
  go_wp2
  go_loop [3, 8] (fun s i => ∃ k : Nat, k ≤ n ∧ i = .int .i64 (k : Int) ∧ s = .int .i64 (sumN ns k)) (fun _ i => n - (intOf i).toNat)
  case atStart => exact ⟨0, Nat.zero_le _, rfl, rfl⟩
  case round =>
    obtain ⟨k, hk, rfl, rfl⟩ := hrel
    by_cases hlt : k < n
    · rcases HR.out with h | ⟨b, off, rfl, hbb, hc⟩
      · have := HN.out; rw [h] at this; simp at this; omega
      have q := hc k (by rw [HN.out]; exact hlt)
      obtain ⟨b1, b2⟩ := sumN_bd HB.out k (by rw [HN.out]; exact hk)
      obtain ⟨b3, b4⟩ := HB.out k (by rw [HN.out]; exact hlt)
      have HS : Hid (sumN ns (k + 1) = sumN ns k + intAt ns k) := rfl
      clear hc
      generalize intAt ns k = x at *
      generalize hs : sumN ns k = s at *
      clear hs
      have hw : IntKind.i64.wrap (s + x) = s + x := IntWalk.i64_in _ ⟨by omega, by omega⟩
      go_wp2
      go_round
      case rel => exact ⟨k + 1, by omega, by go_num, by rw [HS.out]⟩
      case measure => simp [intOf]; omega
    · have hkn : k = n := by omega
      subst hkn
      go_wp2
      go_ret
      exact ⟨rfl, rfl⟩
def rndN (ns : List Int) : Int := if ns.length % 2 = 1 then sumN ns ns.length * 2 else sumN ns ns.length
def rndL (ns : List Int) : Nat := if ns.length % 2 = 1 then ns.length + ns.length else ns.length
theorem rnd_is (ns : List Int) : sumR ns (rndL ns) = rndN ns := by
  unfold rndL rndN
  split
  · rw [sumR_more, sumR_N _ (Nat.le_refl _)]; omega
  · exact sumR_N _ (Nat.le_refl _)
/-- Behind how many numbers a dashing starts. -/
def skK (ns : List Int) (f0 : Int) : Nat → Nat → Nat
  | 0, k => k
  | f + 1, k => if sumR ns (k + 1) ≤ f0 then skK ns f0 f (k + 1) else k
def startD (ns : List Int) (f0 : Int) : Dg := ⟨skK ns f0 17 0, sumR ns (skK ns f0 17 0 + 1) - f0, 0, [], []⟩
theorem skK_is {ns : List Int} (h : NB ns) (f0 : Int) : ∀ f k, sumR ns k ≤ f0 → f0 < sumR ns (k + f) → sumR ns (skK ns f0 f k) ≤ f0 ∧ f0 < sumR ns (skK ns f0 f k + 1)
  | 0, k, h1, h2 => absurd h2 (by rw [Nat.add_zero]; omega)
  | f + 1, k, h1, h2 => by
    by_cases hc : sumR ns (k + 1) ≤ f0
    · rw [skK, if_pos hc]
      exact skK_is h f0 f (k + 1) hc (by rw [show k + 1 + f = k + (f + 1) by omega]; exact h2)
    · rw [skK, if_neg hc]
      exact ⟨h1, by omega⟩
theorem start_DB {ns : List Int} (h : NB ns) (hl : ns.length ≤ 8) {f0 : Int} (h0 : 0 ≤ f0) (h1 : f0 < rndN ns) : DB 0 (startD ns f0) := by
  have hrl : rndL ns ≤ 16 := by unfold rndL; split <;> omega
  have hri := rnd_is ns
  have h17 : f0 < sumR ns (0 + 17) := by
    have := sumR_mono h (rndL ns) (17 - rndL ns)
    rw [show rndL ns + (17 - rndL ns) = 17 by omega, hri] at this
    rw [Nat.zero_add]
    omega
  obtain ⟨a1, a2⟩ := skK_is h f0 17 0 (by simpa [sumR] using h0) h17
  have a3 := sumR_lt h a1 (by rw [hri]; exact h1)
  have a4 := sumR_step h (skK ns f0 17 0)
  exact ⟨by show skK ns f0 17 0 ≤ 0 + 16; omega, Nat.le_refl _, Nat.le_refl _, by show 0 ≤ sumR ns (skK ns f0 17 0 + 1) - f0; omega, by show sumR ns (skK ns f0 17 0 + 1) - f0 ≤ _; omega, Nat.zero_le _, by show manyL [] + 0 ≤ _; simp [manyL]⟩
theorem DB.reach {c : Nat} {d : Dg} (h : DB c d) (q : Pnt) : DB (c + 1) (reachD d q) := by
  obtain ⟨b1, b2, b3, b4, b5⟩ := rD_bd d q
  exact ⟨by rw [b3, b4]; exact h.ha, by have := h.hp; omega, by rw [b2, b4]; exact h.ho, by rw [b5]; exact h.h0, by rw [b5]; exact h.h1, by rw [b4]; have := h.hb; omega, by rw [b2, b4]; have := h.hm; omega⟩
set_option maxRecDepth 100000 in
set_option maxHeartbeats 4000000 in
/-- What is ahead of the first point is left out. -/
theorem iskip (w0 w : World) (bx : Nat) (K : List (Nat × Int × Int)) (na : Option Addr) (nc : Nat) (ns : List Int) (f : Int) (hb0 : w0.heap.size ≤ bx) (hl : ns.length ≤ 8) (hns : NB ns) (hpos : 0 < sumN ns ns.length) (hf0 : 0 ≤ f) (hf1 : f ≤ 67108864) (hI : Ints w0 na ns) (h : DhS bx w0 w K na nc ns ⟨0, intAt ns 0, 0, [], []⟩) :
    Calls Try.prog 34 #[.pointer (some ⟨bx, 0, none⟩), .int .i64 f] w fun e w' => e = .returned (.tuple #[]) ∧ DhS bx w0 w' K na nc ns (startD ns (f % rndN ns)) := by
  obtain ⟨s1, s2⟩ := sumN_bd hns.2 ns.length (Nat.le_refl _)
  have hrp : 0 < rndN ns ∧ rndN ns ≤ 67108864 * 16 := by unfold rndN; split <;> omega
  have hrl : rndL ns ≤ 16 := by unfold rndL; split <;> omega
  have hri := rnd_is ns
  obtain ⟨v, it, u, dh, o0, n0, k0⟩ := h
  have c0 := dh.c0
  have H0 : Hid (DhS bx w0 w K na nc ns ⟨0, intAt ns 0, 0, [], []⟩) := ⟨v, it, u, dh, o0, n0, k0⟩
  have HSU : Hid _ := isum w na nc ns hl hns.2 (Ints.nw hI n0)
  have HI : Hid (Ints w0 na ns) := hI
  have HNB : Hid (NB ns) := hns
  have HRN : Hid (rndN ns = if ns.length % 2 = 1 then sumN ns ns.length * 2 else sumN ns ns.length) := rfl
  have htm : ((ns.length : Int)).tmod 2 = ((ns.length % 2 : Nat) : Int) := by
    rw [Int.tmod_eq_emod_of_nonneg (by omega)]
    first | exact (Int.natCast_emod _ _).symm | rfl
  obtain ⟨f0, hf⟩ : ∃ f0, f % rndN ns = f0 := ⟨_, rfl⟩
  have hfa : 0 ≤ f0 := by rw [← hf]; exact Int.emod_nonneg _ (by omega)
  have hfb : f0 < rndN ns := by rw [← hf]; exact Int.emod_lt_of_pos _ hrp.1
  have hft : f.tmod (rndN ns) = f0 := by rw [Int.tmod_eq_emod_of_nonneg hf0]; exact hf
  rw [hf]
  have HLT : Hid (∀ k, sumR ns k ≤ f0 → k < 16) := fun k hk => by
    have := sumR_lt hns hk (by rw [hri]; exact hfb)
    omega
  have HST : Hid (startD ns f0 = ⟨skK ns f0 17 0, sumR ns (skK ns f0 17 0 + 1) - f0, 0, [], []⟩) := rfl
  generalize hsn : sumN ns ns.length = sn at *
  generalize hr : rndN ns = r at *
  clear dh o0 n0 k0 hI hns hri hf hsn hr
  obtain ⟨n, hn⟩ : ∃ n, ns.length = n := ⟨_, rfl⟩
  have HN : Hid (ns.length = n) := hn
  rw [hn] at c0 HSU HRN hl htm s2
  clear hn
  go_enter Try.func34, Try.ntmps34
  go_wp2_with fail
  refine Calls.mono HSU.out ?_
  rintro e w1 ⟨rfl, rfl⟩
  have hrem : n % 2 < 2 := Nat.mod_lt _ (by omega)
  go_upto_if 16 with fail
  go_cut [4] (fun rr wx => rr = .int .i64 r ∧ w1 = wx)
  case first =>
    by_cases hodd : n % 2 = 1
    · have hr2 : r = sn * 2 := by rw [HRN.out, if_pos hodd]
      have hd : ((n : Int).tmod 2 == 1) = true := by rw [htm, hodd]; rfl
      have hw : IntKind.i64.wrap (sn * 2) = sn * 2 := IntWalk.i64_in _ ⟨by omega, by omega⟩
      go_wp2
      go_meet
      exact ⟨by rw [hr2], rfl⟩
    · have hr2 : r = sn := by rw [HRN.out, if_neg hodd]
      have hz : n % 2 = 0 := by omega
      have hd : ((n : Int).tmod 2 == 1) = false := by rw [htm, hz]; rfl
      go_wp2
      go_meet
      exact ⟨by rw [hr2], rfl⟩
  case rest =>
    obtain ⟨rfl, hwc⟩ := hcut
    subst hwc
    have hr0 : ¬ r = 0 := by omega
    clear htm hrem c0 HRN
    go_wp2
    go_loopw [1] (fun fr wr => ∃ k : Nat, fr = .int .i64 (f0 - sumR ns k) ∧ sumR ns k ≤ f0 ∧ skK ns f0 (17 - k) k = skK ns f0 17 0 ∧ DhS bx w0 wr K na nc ns ⟨k, intAt ns (k % ns.length), 0, [], []⟩) (fun _ wr => 100 - (intOf ((wr.cell? ⟨bx, 1, none⟩).getD undef)).toNat)
    case atStart => exact ⟨0, by simp [sumR], by simpa [sumR] using hfa, rfl, by rw [Nat.zero_mod]; exact H0.out⟩
    case round =>
      obtain ⟨k, rfl, hk1, hk2, hk3⟩ := hrel
      have HK2 : Hid (skK ns f0 (17 - k) k = skK ns f0 17 0) := hk2
      have HK3 : Hid (DhS bx w0 wr K na nc ns ⟨k, intAt ns (k % ns.length), 0, [], []⟩) := hk3
      have hk16 := HLT.out k hk1
      obtain ⟨v, it, u, dh, _, _, _⟩ := hk3
      have c1 := dh.c1
      have c2 := dh.c2
      have fr := dh.free
      simp only at c1 c2
      have HSS : Hid (sumR ns (k + 1) = sumR ns k + intAt ns (k % ns.length)) := rfl
      obtain ⟨x1, x2⟩ := HNB.out.2 _ (Nat.mod_lt k HNB.out.1)
      have hsn := sumR_nn HNB.out k
      have HKK : Hid (skK ns f0 (17 - k) k = if sumR ns (k + 1) ≤ f0 then skK ns f0 (16 - k) (k + 1) else k) := by
        show _ = _
        rw [show 17 - k = (16 - k) + 1 by omega]
        rfl
      clear dh hk2
      generalize hx : intAt ns (k % ns.length) = x at *
      generalize hs : sumR ns k = s at *
      have HX : Hid (intAt ns (k % ns.length) = x) := hx
      have HS : Hid (sumR ns k = s) := hs
      clear hx hs
      have hw1 : IntKind.i64.wrap (f0 - s - x) = f0 - s - x := IntWalk.i64_in _ ⟨by omega, by omega⟩
      have hw2 : IntKind.i64.wrap (x - (f0 - s)) = x - (f0 - s) := IntWalk.i64_in _ ⟨by omega, by omega⟩
      by_cases hle : x ≤ f0 - s
      · have dl : decide (x ≤ f0 - s) = true := decide_eq_true hle
        have H1 : Hid (sumR ns (k + 1) ≤ f0) := by show _ ≤ _; rw [HSS.out]; omega
        have HKN : Hid (skK ns f0 (17 - (k + 1)) (k + 1) = skK ns f0 17 0) := by
          show _ = _
          rw [← HK2.out, HKK.out, if_pos H1.out, show 17 - (k + 1) = 16 - k by omega]
        clear c1
        go_wp2_with fail
        refine Calls.mono (inext w0 wr bx _ na nc ns ⟨k, x, 0, [], []⟩ hb0 HNB.out.1 (by show k ≤ _; omega) HI.out HK3.out) ?_
        rintro e w4 ⟨rfl, h4⟩
        have H4 : Hid (DhS bx w0 w4 K na nc ns ⟨k + 1, intAt ns ((k + 1) % ns.length), 0, [], []⟩) := h4
        obtain ⟨v4, it4, u4, dh4, _, _, _⟩ := h4
        have c14 := dh4.c1
        obtain ⟨v3, it3, u3, dh3, _, _, _⟩ := HK3.out
        have c13 := dh3.c1
        have hk17 := HLT.out (k + 1) H1.out
        simp only [nextD, Int.natCast_add, Int.cast_ofNat_Int] at c14 c13
        clear dh4 dh3 c2 fr
        go_wp2
        go_roundw
        case rel => exact ⟨k + 1, by rw [HSS.out]; congr 1; omega, H1.out, HKN.out, H4.out⟩
        case measure => rw [c14, c13]; simp [intOf]; omega
      · have dl : decide (x ≤ f0 - s) = false := decide_eq_false hle
        have H1 : Hid (¬ sumR ns (k + 1) ≤ f0) := by show ¬ _; rw [HSS.out]; omega
        have HKN : Hid (skK ns f0 17 0 = k) := by show _ = _; rw [← HK2.out, HKK.out, if_neg H1.out]
        have H5 : Hid (DhS bx w0 (wr.setCell ⟨bx, 2, none⟩ (.int .i64 (x - (f0 - s)))) K na nc ns ⟨k, sumR ns (k + 1) - f0, 0, [], []⟩) := by
          obtain ⟨v, it, u, dh, o1, n1, k1⟩ := HK3.out
          obtain ⟨s1, s2⟩ := DH.setL dh (x - (f0 - s))
          exact DhS.of s1 o1 (Below.trans n1 (Below.mono s2 hb0)) rfl (by show _ = sumR ns (k + 1) - f0; rw [HSS.out]; omega) rfl rfl (Kb.set k1 2 _)
        clear c1
        go_wp2
        go_end0
        refine ⟨rfl, ?_⟩
        rw [HST.out, HKN.out]
        exact H5.out
end Go.Proofs.Ytjjndpbplclidaa
