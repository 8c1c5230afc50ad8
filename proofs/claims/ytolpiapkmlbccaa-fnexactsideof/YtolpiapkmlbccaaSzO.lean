/-
  How far a point lies from another, of both: SizeOf; each theorem names its conditions.
-/
import Derived.Test.YtolpiapkmlbccaaNr
import Derived.Test.YtolpiapkmlbccaaWhl
namespace Go.Proofs.Ytolpiapkmlbccaa
open Go.ChangeShapes Go.WideShapes Go.ChangeAt Go.RowKit
set_option linter.unusedVariables false

/-- The root of a number, down. -/
def rootN : Nat → Nat
  | 0 => 0
  | n + 1 => if (rootN n + 1) * (rootN n + 1) ≤ n + 1 then rootN n + 1 else rootN n
theorem rootN_is (n : Nat) : rootN n * rootN n ≤ n ∧ n < (rootN n + 1) * (rootN n + 1) := by
  induction n with
  | zero => exact ⟨Nat.le_refl _, by decide⟩
  | succ n ih =>
    obtain ⟨h1, h2⟩ := ih
    unfold rootN
    split
    · rename_i h
      refine ⟨h, ?_⟩
      have : (rootN n + 1) * (rootN n + 1) < (rootN n + 1 + 1) * (rootN n + 1 + 1) := Nat.mul_lt_mul_of_lt_of_lt (by omega) (by omega)
      omega
    · rename_i h
      exact ⟨by omega, by omega⟩
/-- The sum of the squares of the differences. -/
def sqV (a b : Pnt) : Int := (b.1 - a.1) * (b.1 - a.1) + (b.2 - a.2) * (b.2 - a.2)
def szV (a b : Pnt) : Int := (rootN (sqV a b).toNat : Nat)
theorem sq_nn (x : Int) : 0 ≤ x * x := by
  by_cases h : 0 ≤ x
  · exact Int.mul_nonneg h h
  · rw [← Int.neg_mul_neg]; exact Int.mul_nonneg (by omega) (by omega)
theorem sq_le {x : Int} {m : Int} (h1 : -m ≤ x) (h2 : x ≤ m) : x * x ≤ m * m := by
  by_cases h : 0 ≤ x
  · exact Int.mul_le_mul h2 h2 h (by omega)
  · rw [← Int.neg_mul_neg]; exact Int.mul_le_mul (by omega) (by omega) (by omega) (by omega)
theorem sqV_nn (a b : Pnt) : 0 ≤ sqV a b := Int.add_nonneg (sq_nn _) (sq_nn _)
theorem szV_is (a b : Pnt) : 0 ≤ szV a b ∧ szV a b * szV a b ≤ sqV a b ∧ sqV a b < (szV a b + 1) * (szV a b + 1) := by
  have h := rootN_is (sqV a b).toNat
  have h0 := sqV_nn a b
  unfold szV
  generalize rootN (sqV a b).toNat = r at *
  have e1 : ((r * r : Nat) : Int) = (r : Int) * r := Int.natCast_mul r r
  have e2 : (((r + 1) * (r + 1) : Nat) : Int) = ((r : Int) + 1) * ((r : Int) + 1) := by rw [Int.natCast_mul]; rfl
  exact ⟨by omega, by omega, by omega⟩
theorem szV_of {a b : Pnt} {r : Int} (h0 : 0 ≤ r) (h1 : r * r ≤ sqV a b) (h2 : sqV a b < (r + 1) * (r + 1)) : r = szV a b := by
  obtain ⟨s0, s1, s2⟩ := szV_is a b
  exact root_uniq _ r _ h0 s0 h1 h2 s1 s2
theorem sqV_le {a b : Pnt} (ha : nearB a = true) (hb : nearB b = true) : sqV a b ≤ 36028797018963968 := by
  obtain ⟨a1, a2⟩ := nearB_nr ha
  obtain ⟨b1, b2⟩ := nearB_nr hb
  unfold nr at *
  have h1 := sq_le (x := b.1 - a.1) (m := 134217728) (by omega) (by omega)
  have h2 := sq_le (x := b.2 - a.2) (m := 134217728) (by omega) (by omega)
  unfold sqV
  omega
theorem szV_le {a b : Pnt} (ha : nearB a = true) (hb : nearB b = true) : szV a b ≤ 268435455 := by
  obtain ⟨s0, s1, s2⟩ := szV_is a b
  have h := sqV_le ha hb
  by_cases c : szV a b ≤ 268435455
  · exact c
  · exfalso
    have : (268435456 : Int) * 268435456 ≤ szV a b * szV a b := Int.mul_le_mul (by omega) (by omega) (by omega) (by omega)
    omega
set_option maxHeartbeats 2000000 in
theorem ssize (w : World) (a b : Pnt) (ha : nearB a = true) (hb : nearB b = true) :
    Calls Try.prog 42 #[.agg #[.int .i64 a.1, .int .i64 a.2], .agg #[.int .i64 b.1, .int .i64 b.2]] w fun e w' => e = .returned (.int .i64 (szV a b)) ∧ Kp w w' := by
  have HX : Hid (∀ r, 0 ≤ r → r * r ≤ sqV a b → sqV a b < (r + 1) * (r + 1) → r = szV a b) := fun r h0 h1 h2 => szV_of h0 h1 h2
  have hq := sqV_le ha hb
  have hq0 := sqV_nn a b
  obtain ⟨a1, a2⟩ := nearB_nr ha
  obtain ⟨b1, b2⟩ := nearB_nr hb
  clear ha hb
  obtain ⟨ax, ay⟩ := a
  obtain ⟨bx, by'⟩ := b
  unfold nr at *
  simp only at *
  have hD1 := sq_le (x := bx - ax) (m := 134217728) (by omega) (by omega)
  have hD2 := sq_le (x := by' - ay) (m := 134217728) (by omega) (by omega)
  have hN1 := sq_nn (bx - ax)
  have hN2 := sq_nn (by' - ay)
  have hS : sqV (ax, ay) (bx, by') = (bx - ax) * (bx - ax) + (by' - ay) * (by' - ay) := rfl
  generalize szV (ax, ay) (bx, by') = V at *
  rw [hS] at HX hq hq0
  clear hS
  go_enter Try.func42, Try.ntmps42
  go_wp2
  go_loop [7, 8] (fun lo hi => ∃ l h : Int, lo = .int .i64 l ∧ hi = .int .i64 h ∧ 0 ≤ l ∧ l ≤ h ∧ h ≤ 268435456 ∧ l * l ≤ (bx - ax) * (bx - ax) + (by' - ay) * (by' - ay) ∧ (bx - ax) * (bx - ax) + (by' - ay) * (by' - ay) < (h + 1) * (h + 1)) (fun lo hi => (intOf hi - intOf lo).toNat)
  case atStart => exact ⟨0, 268435456, rfl, rfl, by omega, by omega, by omega, by omega, by omega⟩
  case round =>
    obtain ⟨l, h, rfl, rfl, h0, h1, h2, h3, h4⟩ := hrel
    have H4 : Hid _ := h4
    have H3 : Hid _ := h3
    clear h4 h3
    by_cases hlt : l < h
    · have m1 : l < l + (h - l + 1) / 2 := by omega
      have m2 : l + (h - l + 1) / 2 ≤ h := by omega
      obtain ⟨s1, s2⟩ := sq_bd (l + (h - l + 1) / 2) (by omega) (by omega)
      by_cases hc : (bx - ax) * (bx - ax) + (by' - ay) * (by' - ay) < (l + (h - l + 1) / 2) * (l + (h - l + 1) / 2)
      · have hd : decide ((bx - ax) * (bx - ax) + (by' - ay) * (by' - ay) < (l + (h - l + 1) / 2) * (l + (h - l + 1) / 2)) = true := decide_eq_true hc
        go_wp2
        go_round
        case rel => exact ⟨l, l + (h - l + 1) / 2 - 1, rfl, rfl, h0, by omega, by omega, H3.out, by rw [Int.sub_add_cancel]; exact hc⟩
        case measure => simp [intOf]; omega
      · have hd : decide ((bx - ax) * (bx - ax) + (by' - ay) * (by' - ay) < (l + (h - l + 1) / 2) * (l + (h - l + 1) / 2)) = false := decide_eq_false hc
        go_wp2
        go_round
        case rel => exact ⟨l + (h - l + 1) / 2, h, rfl, rfl, by omega, m2, h2, by omega, H4.out⟩
        case measure => simp [intOf]; omega
    · obtain rfl : l = h := by omega
      have HE : Hid (l = V) := HX.out l h0 H3.out H4.out
      clear hlt
      go_wp2
      go_ret
      exact ⟨ret_int HE.out, ((Kp.refl w).alloc _ _).alloc _ _⟩
/-- What SizeOf answers. -/
def soV (a b : Pnt) : Int × Bool := if nearB a = true ∧ nearB b = true then (szV a b, true) else (0, false)
set_option maxHeartbeats 1000000 in
theorem ssizeOf (w : World) (a b : Pnt) :
    Calls Try.prog 13 #[.agg #[.int .i64 a.1, .int .i64 a.2], .agg #[.int .i64 b.1, .int .i64 b.2]] w fun e w' => e = .returned (.tuple #[.int .i64 (soV a b).1, .bool (soV a b).2]) ∧ Kp w w' := by
  have HA : Hid _ := fun w => snear w a.1 a.2
  have HB : Hid _ := fun w => snear w b.1 b.2
  have HS : Hid (nearB a = true → nearB b = true → ∀ w, _) := fun h1 h2 w => ssize w a b h1 h2
  have ea : nearB (a.1, a.2) = nearB a := rfl
  have eb : nearB (b.1, b.2) = nearB b := rfl
  rw [ea] at HA
  rw [eb] at HB
  have hv : soV a b = if nearB a = true ∧ nearB b = true then (szV a b, true) else (0, false) := rfl
  rw [hv]
  clear hv ea eb
  generalize szV a b = V at *
  obtain ⟨ax, ay⟩ := a
  obtain ⟨bx, by'⟩ := b
  generalize nearB (ax, ay) = ba at *
  generalize nearB (bx, by') = bb at *
  simp only at *
  have k1 : ∀ t1 t2, Kp w ((w.alloc (.cells #[.int .i64 ax, .int .i64 ay] t1)).alloc (.cells #[.int .i64 bx, .int .i64 by'] t2)) := fun t1 t2 => ((Kp.refl w).alloc _ _).alloc _ _
  cases ba with
  | false =>
    rw [if_neg (fun h => by cases h.1)]
    simp only
    go_enter Try.func13, Try.ntmps13
    go_wp2_with fail
    refine Calls.mono (HA.out _) ?_
    rintro e w1 ⟨rfl, h1⟩
    have K1 : Hid (Kp w w1) := Kp.trans (k1 _ _) h1
    clear h1
    go_wp2
    go_ret2
    exact ⟨rfl, K1.out⟩
  | true =>
    cases bb with
    | false =>
      rw [if_neg (fun h => by cases h.2)]
      simp only
      go_enter Try.func13, Try.ntmps13
      go_wp2_with fail
      refine Calls.mono (HA.out _) ?_
      rintro e w1 ⟨rfl, h1⟩
      have K1 : Hid (Kp w w1) := Kp.trans (k1 _ _) h1
      have hs : w.heap.size + 1 < ((w.alloc (.cells #[.int .i64 ax, .int .i64 ay] 35)).alloc (.cells #[.int .i64 bx, .int .i64 by'] 35)).heap.size := by simp
      have q2 := (h1.cells.1 (w.heap.size + 1) 0 hs).trans (by simp : _ = some (.int .i64 bx))
      have q3 := (h1.cells.1 (w.heap.size + 1) 1 hs).trans (by simp : _ = some (.int .i64 by'))
      clear h1 hs
      go_wp2_with fail
      refine Calls.mono (HB.out _) ?_
      rintro e w2 ⟨rfl, h2⟩
      have K2 : Hid (Kp w w2) := Kp.trans K1.out h2
      clear h2 q2 q3
      go_wp2
      go_ret2
      exact ⟨rfl, K2.out⟩
    | true =>
      rw [if_pos ⟨rfl, rfl⟩]
      simp only
      go_enter Try.func13, Try.ntmps13
      go_wp2_with fail
      refine Calls.mono (HA.out _) ?_
      rintro e w1 ⟨rfl, h1⟩
      have K1 : Hid (Kp w w1) := Kp.trans (k1 _ _) h1
      have hs0 : w.heap.size < ((w.alloc (.cells #[.int .i64 ax, .int .i64 ay] 35)).alloc (.cells #[.int .i64 bx, .int .i64 by'] 35)).heap.size := by simp; omega
      have hs : w.heap.size + 1 < ((w.alloc (.cells #[.int .i64 ax, .int .i64 ay] 35)).alloc (.cells #[.int .i64 bx, .int .i64 by'] 35)).heap.size := by simp
      have q0 := (h1.cells.1 w.heap.size 0 hs0).trans (by simp [World.cell?_alloc_past] : _ = some (.int .i64 ax))
      have q1 := (h1.cells.1 w.heap.size 1 hs0).trans (by simp [World.cell?_alloc_past] : _ = some (.int .i64 ay))
      have q2 := (h1.cells.1 (w.heap.size + 1) 0 hs).trans (by simp : _ = some (.int .i64 bx))
      have q3 := (h1.cells.1 (w.heap.size + 1) 1 hs).trans (by simp : _ = some (.int .i64 by'))
      have hz : w.heap.size + 1 < w1.heap.size := Nat.lt_of_lt_of_le hs h1.size
      clear h1 hs hs0
      go_wp2_with fail
      refine Calls.mono (HB.out _) ?_
      rintro e w2 ⟨rfl, h2⟩
      have K2 : Hid (Kp w w2) := Kp.trans K1.out h2
      replace q0 := (h2.cells.1 w.heap.size 0 (by omega)).trans q0
      replace q1 := (h2.cells.1 w.heap.size 1 (by omega)).trans q1
      replace q2 := (h2.cells.1 (w.heap.size + 1) 0 hz).trans q2
      replace q3 := (h2.cells.1 (w.heap.size + 1) 1 hz).trans q3
      clear h2 hz
      go_wp2_with fail
      refine Calls.mono (HS.out (by trivial) (by trivial) _) ?_
      rintro e w3 ⟨rfl, h3⟩
      have K3 : Hid (Kp w w3) := Kp.trans K2.out h3
      clear h3 q0 q1 q2 q3
      go_wp2
      go_ret2
      exact ⟨rfl, K3.out⟩
set_option maxHeartbeats 2000000 in
theorem isizeOf (w : World) (a b : Pnt) :
    Calls Try.prog 15 #[.agg #[.int .i64 a.1, .int .i64 a.2], .agg #[.int .i64 b.1, .int .i64 b.2]] w fun e w' => e = .returned (.tuple #[.int .i64 (soV a b).1, .bool (soV a b).2]) ∧ Kp w w' := by
  have hv : soV a b = if nearsB [a, b] = true then (szV a b, true) else (0, false) := by
    unfold soV nearsB
    cases h1 : nearB a <;> cases h2 : nearB b <;> simp [h1, h2]
  have HN : Hid (∀ (w : World) (g : Nat), Pts w (some ⟨g, 0, none⟩) [a, b] → _) := fun w g h => inear w (some ⟨g, 0, none⟩) 2 [a, b] (by simp) h
  have HZ : Hid (nearsB [a, b] = true → nearB a = true ∧ nearB b = true) := fun h => by simpa [nearsB] using h
  rw [hv]
  clear hv
  obtain ⟨ax, ay⟩ := a
  obtain ⟨bx, by'⟩ := b
  simp only at *
  have k1 : ∀ t1 t2 t3, Kp w (((w.alloc (.cells #[.int .i64 ax, .int .i64 ay] t1)).alloc (.cells #[.int .i64 bx, .int .i64 by'] t2)).alloc (.cells #[.int .i64 ax, .int .i64 ay, .int .i64 bx, .int .i64 by'] t3)) := fun t1 t2 t3 => (((Kp.refl w).alloc _ _).alloc _ _).alloc _ _
  have p1 : ∀ t1 t2 t3, Pts (((w.alloc (.cells #[.int .i64 ax, .int .i64 ay] t1)).alloc (.cells #[.int .i64 bx, .int .i64 by'] t2)).alloc (.cells #[.int .i64 ax, .int .i64 ay, .int .i64 bx, .int .i64 by'] t3)) (some ⟨w.heap.size + 1 + 1, 0, none⟩) [(ax, ay), (bx, by')] := fun t1 t2 t3 => by
    have := pts2_new ((w.alloc (.cells #[.int .i64 ax, .int .i64 ay] t1)).alloc (.cells #[.int .i64 bx, .int .i64 by'] t2)) ax ay bx by' t3
    rw [World.size_alloc, World.size_alloc] at this
    exact this
  cases hb : nearsB [(ax, ay), (bx, by')] with
  | false =>
    rw [hb] at HN
    rw [if_neg (fun h => by cases h)]
    simp only
    clear hb HZ
    go_enter Try.func15, Try.ntmps15
    go_wp2_with fail
    refine Calls.mono (HN.out _ _ (p1 _ _ _)) ?_
    rintro e w1 ⟨rfl, h1⟩
    have K1 : Hid (Kp w w1) := Kp.trans (k1 _ _ _) h1
    clear h1
    go_wp2
    go_ret2
    exact ⟨rfl, K1.out⟩
  | true =>
    rw [hb] at HN
    rw [if_pos rfl]
    obtain ⟨na, nb⟩ := HZ.out hb
    have hq := sqV_le na nb
    have hq0 := sqV_nn (ax, ay) (bx, by')
    obtain ⟨a1, a2⟩ := nearB_nr na
    obtain ⟨b1, b2⟩ := nearB_nr nb
    simp only at a1 a2 b1 b2 ⊢
    have HX : Hid (∀ r, 0 ≤ r → r * r ≤ sqV (ax, ay) (bx, by') → sqV (ax, ay) (bx, by') < (r + 1) * (r + 1) → r = szV (ax, ay) (bx, by')) := fun r h0 h1 h2 => szV_of h0 h1 h2
    have HM : Hid _ := fun w => iminus w bx by' ax ay (nr_sml b1) (nr_sml b2) (nr_sml a1) (nr_sml a2)
    unfold nr at a1 a2 b1 b2
    have hD1 := sq_le (x := bx - ax) (m := 134217728) (by omega) (by omega)
    have hD2 := sq_le (x := by' - ay) (m := 134217728) (by omega) (by omega)
    have hN1 := sq_nn (bx - ax)
    have hN2 := sq_nn (by' - ay)
    have hS : sqV (ax, ay) (bx, by') = (bx - ax) * (bx - ax) + (by' - ay) * (by' - ay) := rfl
    generalize szV (ax, ay) (bx, by') = V at *
    rw [hS] at HX hq hq0
    have HW : Hid _ := fun w => whole_any ((bx - ax) * (bx - ax) + (by' - ay) * (by' - ay)) w (by omega) (by omega)
    clear hS hb HZ na nb
    generalize bx - ax = dx at *
    generalize by' - ay = dy at *
    go_enter Try.func15, Try.ntmps15
    go_wp2_with fail
    refine Calls.mono (HN.out _ _ (p1 _ _ _)) ?_
    rintro e w1 ⟨rfl, h1⟩
    have K1 : Hid (Kp w w1) := Kp.trans (k1 _ _ _) h1
    obtain ⟨⟨q0, q1⟩, ⟨q2, q3⟩, _⟩ := boxes2 (Kp.trans ((Kp.refl _).alloc _ _) h1)
    clear h1 k1 p1 HN
    go_wp2_with fail
    refine Calls.mono (HM.out _) ?_
    rintro e w2 ⟨rfl, h2⟩
    have K2 : Hid (Kp w w2) := Kp.trans K1.out h2
    clear h2 q0 q1 q2 q3 HM
    go_wp2_with fail
    refine Calls.mono (HW.out _) ?_
    rintro e w3 ⟨r, rfl, r0, r1, r2, rfl⟩
    have HE : Hid (r = V) := HX.out r r0 r1 r2
    clear r2 r1
    go_wp2
    refine bodyPost_ret (v := .tuple #[.int .i64 r, .bool true]) (by simp [results, Try.results15, go_sem]) rfl ⟨by rw [HE.out], ?_⟩
    exact K2.out.alloc _ _
end Go.Proofs.Ytolpiapkmlbccaa
