/-
  Runs of colors, as pure functions; each theorem names its conditions.
-/
import Derived.Test.YthlohbiocfeapaaSp
namespace Go.Proofs.Ythlohbiocfeapaa
open Go.ChangeShapes Go.WideShapes Go.ChangeAt Go.RowKit
set_option linter.unusedVariables false

/-- The place that a spread makes of another. -/
def rnA (x s : Int) : Int := if s = 2 then x % 65536 else if s = 3 then (if 65536 ≤ x % 131072 then 131072 - x % 131072 else x % 131072) else if x < 0 then 0 else if 65536 < x then 65536 else x
theorem rnA_bd (x s : Int) : 0 ≤ rnA x s ∧ rnA x s ≤ 65536 := by
  unfold rnA
  split
  · omega
  · split
    · split <;> omega
    · split
      · omega
      · split <;> omega
/-- How many stops behind the first are not beyond x, from the left. -/
def rnK (l : List Stp) (x : Int) : Nat := ((List.range (l.length - 1)).takeWhile fun i => decide ((spAt l (i + 1)).p ≤ x)).length
theorem takeWhile_range (f : Nat → Bool) (n k : Nat) (hk : k < n) (h : ∀ i, i < k → f i = true) (hn : f k = false) : ((List.range n).takeWhile f).length = k := by
  have e : List.range n = List.range k ++ (k :: (List.range (n - k - 1)).map (· + (k + 1))) := by
    apply List.ext_getElem
    · simp; omega
    · intro i h1 h2
      simp only [List.getElem_range, List.getElem_append, List.length_range]
      split
      · simp
      · rename_i hi
        rcases Nat.eq_or_lt_of_le (Nat.le_of_not_lt hi) with e | e
        · subst e; simp
        · obtain ⟨j, hj⟩ : ∃ j, i - k = j + 1 := ⟨i - k - 1, by omega⟩
          simp only [hj, List.getElem_cons_succ, List.getElem_map, List.getElem_range]
          omega
  rw [e, List.takeWhile_append_of_pos (by intro i hi; exact h i (List.mem_range.1 hi)), List.takeWhile_cons_of_neg (by rw [hn]; decide)]
  simp
theorem rnK_of {l : List Stp} {x : Int} {k : Nat} (hk : k + 1 < l.length) (h : ∀ i, i < k → (spAt l (i + 1)).p ≤ x) (hn : ¬ (spAt l (k + 1)).p ≤ x) : rnK l x = k :=
  takeWhile_range _ _ k (by omega) (fun i hi => decide_eq_true (h i hi)) (decide_eq_false hn)
def lerp (a b x y n : Int) : Int := (a * x + b * y) / n
def mixT (s t : Stp) (x : Int) : Edg := ⟨lerp s.t.ax t.t.ax (t.p - x) (x - s.p) (t.p - s.p), lerp s.t.ay t.t.ay (t.p - x) (x - s.p) (t.p - s.p), lerp s.t.bx t.t.bx (t.p - x) (x - s.p) (t.p - s.p), lerp s.t.cy t.t.cy (t.p - x) (x - s.p) (t.p - s.p)⟩
/-- The tint at x. -/
def rnT (l : List Stp) (x : Int) : Edg := if x ≤ (spAt l 0).p then (spAt l 0).t else if (spAt l (l.length - 1)).p ≤ x then (spAt l (l.length - 1)).t else mixT (spAt l (rnK l x)) (spAt l (rnK l x + 1)) x
def ruB (l : List Stp) (x s : Int) : Bool := sgB l && (inN x (-1099511627776) 1099511627776 && inN s 1 3)
def ruV (l : List Stp) (x s : Int) : Edg := if ruB l x s then rnT l (rnA x s) else noE
/-- Numbers that a mixed tint is worked out with. -/
def ok16 (x : Int) : Prop := 0 ≤ x ∧ x ≤ 65536
theorem lerp_f {a b x y n : Int} (ha : ok8 a) (hb : ok8 b) (hx : ok16 x) (hy : ok16 y) (hn : 1 ≤ n) :
    IntKind.i64.wrap (a * x) = a * x ∧ IntKind.i64.wrap (b * y) = b * y ∧ IntKind.i64.wrap (a * x + b * y) = a * x + b * y ∧ (a * x + b * y).tdiv n = lerp a b x y n ∧ IntKind.i64.wrap (lerp a b x y n) = lerp a b x y n := by
  unfold ok8 at ha hb
  unfold ok16 at hx hy
  have h0 : 0 ≤ a * x := Int.mul_nonneg ha.1 hx.1
  have h1 : a * x ≤ 16711680 := Int.le_trans (Int.mul_le_mul ha.2 hx.2 hx.1 (by decide)) (by decide)
  have h2 : 0 ≤ b * y := Int.mul_nonneg hb.1 hy.1
  have h3 : b * y ≤ 16711680 := Int.le_trans (Int.mul_le_mul hb.2 hy.2 hy.1 (by decide)) (by decide)
  unfold lerp
  generalize a * x = u at *
  generalize b * y = v at *
  have h4 : 0 ≤ (u + v) / n := Int.ediv_nonneg (by omega) (by omega)
  have h5 : (u + v) / n ≤ u + v := Int.ediv_le_self _ (by omega)
  exact ⟨IntWalk.i64_in _ ⟨by omega, by omega⟩, IntWalk.i64_in _ ⟨by omega, by omega⟩, IntWalk.i64_in _ ⟨by omega, by omega⟩, Int.tdiv_eq_ediv_of_nonneg (by omega), IntWalk.i64_in _ ⟨by omega, by omega⟩⟩
end Go.Proofs.Ythlohbiocfeapaa
