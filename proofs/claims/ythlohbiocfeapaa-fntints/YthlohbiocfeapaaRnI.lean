/-
  Runs of colors, by the program: RunAt; each theorem names its conditions.
-/
import Derived.Test.YthlohbiocfeapaaSpI
import Derived.Test.YthlohbiocfeapaaRnA
import Derived.Test.YthlohbiocfeapaaFx0
namespace Go.Proofs.Ythlohbiocfeapaa
open Go.ChangeShapes Go.WideShapes Go.ChangeAt Go.RowKit
set_option linter.unusedVariables false

/-- A remainder that is from 0 on. -/
theorem imod (x b : Int) (hb : 0 < b) (hb2 : b ≤ 131072) (hx : -1099511627776 ≤ x ∧ x ≤ 1099511627776) (w : World) :
    Calls Try.prog 111 #[.int .i64 x, .int .i64 b] w fun e w' => e = .returned (.int .i64 (x % b)) ∧ w' = w := by
  have hne : (b == 0) = false := by simp; omega
  have h0 := Int.emod_nonneg x (b := b) (by omega)
  have h1 := Int.emod_lt_of_pos x hb
  have ht : x.tmod b = x % b ∨ (x.tmod b < 0 ∧ x.tmod b + b = x % b) := by
    rw [Int.tmod_eq_emod]
    split
    · left; omega
    · right
      have : (b.natAbs : Int) = b := by omega
      omega
  have hlb : -131072 ≤ x.tmod b ∧ x.tmod b < 131072 := by omega
  rcases ht with ht | ⟨ht, ht2⟩
  · have hd : decide (x.tmod b < 0) = false := decide_eq_false (by omega)
    have HE : Hid (x.tmod b = x % b) := ht
    clear ht h0 h1
    go_enter Try.func111, Try.ntmps111
    go_wp2
    go_ret
    exact ⟨by rw [← HE.out]; rfl, rfl⟩
  · have hd : decide (x.tmod b < 0) = true := decide_eq_true ht
    have HE : Hid (x.tmod b + b = x % b) := ht2
    clear ht ht2 h0 h1
    go_enter Try.func111, Try.ntmps111
    go_wp2
    go_ret
    exact ⟨by rw [← HE.out]; rfl, rfl⟩
theorem icut (x : Int) (w : World) :
    Calls Try.prog 112 #[.int .i64 x, .int .i64 0, .int .i64 65536] w fun e w' => e = .returned (.int .i64 (if x < 0 then 0 else if 65536 < x then 65536 else x)) ∧ w' = w := by
  by_cases h1 : x < 0
  · rw [if_pos h1]
    have e1 : (if (65536 : Int) < x then 65536 else x) = x := if_neg (by omega)
    have e2 : (if (0 : Int) < x then x else 0) = 0 := if_neg (by omega)
    go_enter Try.func112, Try.ntmps112
    go_wp2
    go_ret
    exact ⟨rfl, rfl⟩
  · rw [if_neg h1]
    by_cases h2 : 65536 < x
    · rw [if_pos h2]
      have e1 : (if (65536 : Int) < x then 65536 else x) = 65536 := if_pos h2
      go_enter Try.func112, Try.ntmps112
      go_wp2
      go_ret
      exact ⟨rfl, rfl⟩
    · rw [if_neg h2]
      have e1 : (if (65536 : Int) < x then 65536 else x) = x := if_neg h2
      have e2 : (if (0 : Int) < x then x else 0) = x := by split <;> omega
      go_enter Try.func112, Try.ntmps112
      go_wp2
      go_ret
      exact ⟨rfl, rfl⟩
theorem ispread (x s : Int) (hx : -1099511627776 ≤ x ∧ x ≤ 1099511627776) (w : World) :
    Calls Try.prog 68 #[.int .i64 x, .int .i64 s] w fun e w' => e = .returned (.int .i64 (rnA x s)) ∧ w' = w := by
  by_cases h2 : s = 2
  · subst h2
    have H : Hid (∀ w, _) := fun w => imod x 65536 (by decide) (by decide) hx w
    have e : rnA x 2 = x % 65536 := by unfold rnA; rw [if_pos rfl]
    rw [e]
    clear e
    generalize x % 65536 = q at *
    go_enter Try.func68, Try.ntmps68
    go_wp2_with fail
    refine Calls.mono (H.out _) ?_
    rintro e w1 ⟨rfl, rfl⟩
    go_wp2
    go_ret
    exact ⟨rfl, rfl⟩
  · have d2 : (s == 2) = false := by simp [h2]
    by_cases h3 : s = 3
    · subst h3
      have H : Hid (∀ w, _) := fun w => imod x 131072 (by decide) (by decide) hx w
      have h0 := Int.emod_nonneg x (b := 131072) (by omega)
      have h1 := Int.emod_lt_of_pos x (b := 131072) (by omega)
      have HE : Hid (rnA x 3 = if 131072 - x % 131072 < x % 131072 then 131072 - x % 131072 else x % 131072) := by
        show _ = _
        unfold rnA
        rw [if_neg (by decide), if_pos rfl]
        split <;> split <;> omega
      generalize hq : x % 131072 = q at *
      clear hq
      obtain ⟨M, hM⟩ : ∃ M, (if 131072 - q < q then 131072 - q else q) = M := ⟨_, rfl⟩
      rw [hM] at HE
      rw [HE.out]
      clear HE
      go_enter Try.func68, Try.ntmps68
      go_wp2_with fail
      refine Calls.mono (H.out _) ?_
      rintro e w1 ⟨rfl, rfl⟩
      go_wp2
      go_ret
      exact ⟨rfl, rfl⟩
    · have d3 : (s == 3) = false := by simp [h3]
      have H : Hid (∀ w, _) := fun w => icut x w
      have e : rnA x s = if x < 0 then 0 else if 65536 < x then 65536 else x := by unfold rnA; rw [if_neg h2, if_neg h3]
      rw [e]
      clear e h2 h3
      generalize (if x < 0 then (0 : Int) else if 65536 < x then 65536 else x) = q at *
      go_enter Try.func68, Try.ntmps68
      go_wp2_with fail
      refine Calls.mono (H.out _) ?_
      rintro e w1 ⟨rfl, rfl⟩
      go_wp2
      go_ret
      exact ⟨rfl, rfl⟩
/-- A stop in a block of its own. -/
structure SB (w : World) (b : Nat) (s : Stp) : Prop where
  c0 : w.cell? ⟨b, 0, none⟩ = some (.int .i64 s.p)
  c1 : w.cell? ⟨b, 1, none⟩ = some (.int .i64 s.t.ax)
  c2 : w.cell? ⟨b, 2, none⟩ = some (.int .i64 s.t.ay)
  c3 : w.cell? ⟨b, 3, none⟩ = some (.int .i64 s.t.bx)
  c4 : w.cell? ⟨b, 4, none⟩ = some (.int .i64 s.t.cy)
theorem SB.nw {w w' : World} {b : Nat} {s : Stp} (h : SB w b s) (k : Nw w w') : SB w' b s := by
  have hb := World.block_lt_of_cell? w ⟨b, 0, none⟩ h.c0
  have e := fun o => (bcell k).1 b o hb
  exact ⟨(e _).trans h.c0, (e _).trans h.c1, (e _).trans h.c2, (e _).trans h.c3, (e _).trans h.c4⟩
theorem SB.new (w : World) (s : Stp) (ty : TypeId) : SB (w.alloc (.cells #[.int .i64 s.p, .int .i64 s.t.ax, .int .i64 s.t.ay, .int .i64 s.t.bx, .int .i64 s.t.cy] ty)) w.heap.size s :=
  ⟨by simp, by simp, by simp, by simp, by simp⟩
/-- The closure of tintBetween. -/
theorem ibet1 (w : World) (x y : Int) (gb gx ga : Nat) (pa pb X : Int) (hx : ok8 x) (hy : ok8 y) (ha : ok16 pa) (hb : ok16 pb) (h1 : pa ≤ X) (h2 : X < pb)
    (c0 : w.cell? ⟨gb, 0, none⟩ = some (.int .i64 pb)) (c1 : w.cell? ⟨gx, 0, none⟩ = some (.int .i64 X)) (c2 : w.cell? ⟨ga, 0, none⟩ = some (.int .i64 pa)) :
    Calls Try.prog 117 (#[.int .i64 x, .int .i64 y] ++ #[.pointer (some ⟨gb, 0, none⟩), .pointer (some ⟨gx, 0, none⟩), .pointer (some ⟨ga, 0, none⟩)]) w fun e w' => e = .returned (.int .i64 (lerp x y (pb - X) (X - pa) (pb - pa))) ∧ Kp w w' := by
  show Calls Try.prog 117 #[.int .i64 x, .int .i64 y, .pointer (some ⟨gb, 0, none⟩), .pointer (some ⟨gx, 0, none⟩), .pointer (some ⟨ga, 0, none⟩)] w _
  unfold ok16 at ha hb
  obtain ⟨f1, f2, f3, f4, f5⟩ := lerp_f hx hy (x := pb - X) (y := X - pa) (n := pb - pa) (by unfold ok16; omega) (by unfold ok16; omega) (by omega)
  unfold ok8 at hx hy
  have h0 : 0 ≤ x * (pb - X) := Int.mul_nonneg hx.1 (by omega)
  have h3 : x * (pb - X) ≤ 16711680 := Int.le_trans (Int.mul_le_mul hx.2 (show pb - X ≤ 65536 by omega) (by omega) (by decide)) (by decide)
  have h4 : 0 ≤ y * (X - pa) := Int.mul_nonneg hy.1 (by omega)
  have h5 : y * (X - pa) ≤ 16711680 := Int.le_trans (Int.mul_le_mul hy.2 (show X - pa ≤ 65536 by omega) (by omega) (by decide)) (by decide)
  have h6 : 0 ≤ lerp x y (pb - X) (X - pa) (pb - pa) ∧ lerp x y (pb - X) (X - pa) (pb - pa) ≤ 33423360 := by
    unfold lerp
    exact ⟨Int.ediv_nonneg (by omega) (by omega), Int.le_trans (Int.ediv_le_self _ (by omega)) (by omega)⟩
  have hnz : (pb - pa == 0) = false := by simp; omega
  have hnz2 : ¬ (pb - pa = 0) := by omega
  generalize lerp x y (pb - X) (X - pa) (pb - pa) = R at *
  clear f1 f2 f3 f5
  go_enter Try.func117, Try.ntmps117
  go_wp2
  go_ret
  exact ⟨rfl, Kp.refl _⟩
end Go.Proofs.Ythlohbiocfeapaa
