/-
  The bits that a block of the fixed codes has: pure facts; what putDistance and MatchAt answer. Each theorem names its conditions.
-/
import Derived.Test.YteehoihkbcbbgaaDoorSFixed
import Derived.Test.YteehoihkbcbbgaaDoorSMatch
namespace Go.Proofs.YteehoihkbcbbgaaDoor
open Go.ChangeShapes Go.WideShapes Go.ChangeAt Go.RowKit
set_option linter.unusedVariables false

theorem fixed_fit : fit fixedL = true := by decide +kernel
theorem fixed_full : full fixedL = true := by decide +kernel
def fc (k : Nat) : Nat := (cd fixedL k).toNat
def fn (k : Nat) : Nat := (fl k).toNat
theorem fn_bd (k : Nat) : 7 ≤ fn k ∧ fn k ≤ 9 ∧ fl k = (fn k : Int) := by
  unfold fn fl; split
  · decide
  · split
    · decide
    · split <;> decide
theorem fc_all : (List.range 288).all (fun k => decide (0 ≤ cd fixedL k ∧ cd fixedL k < 512)) = true := by decide +kernel
theorem fc_bd (k : Nat) (h : k < 288) : fc k < 512 ∧ cd fixedL k = (fc k : Int) := by
  have := List.all_eq_true.1 fc_all k (by simpa using h)
  simp at this
  unfold fc
  omega
theorem fc_end : fc 256 = 0 := by decide +kernel

theorem mt_bd (zs : List Int) (p : Nat) (hp : p ≤ zs.length) : mtA zs p = 0 ∨ (3 ≤ mtA zs p ∧ mtA zs p ≤ 258 ∧ p + mtA zs p ≤ zs.length ∧ 1 ≤ mtB zs p ∧ mtB zs p ≤ p) := by
  unfold mtA mtB
  by_cases h : (sb (Ld zs p) p).1 < 3
  · rw [if_pos h]; exact Or.inl rfl
  · rw [if_neg h, if_neg h]
    right
    have a := sb_le (Ld zs p) (min 258 (zs.length - p)) (Ld_le zs p) p
    rcases sb_ib (Ld zs p) p with ⟨b1, b2, b3⟩ | ⟨b1, _⟩
    · exact ⟨b1, by omega, by omega, b3, a.2⟩
    · omega
/-- The bits of one step, and how far it goes. -/
def stepB (zs : List Int) (p : Nat) : List Nat :=
  if mtA zs p = 0 then codeOf (fc (zs.getD p 0).toNat) (fn (zs.getD p 0).toNat)
  else codeOf (fc (257 + lp (mtA zs p))) (fn (257 + lp (mtA zs p))) ++ bitsOf (mtA zs p - LB (lp (mtA zs p))) (LE (lp (mtA zs p))) ++ codeOf (dp (mtB zs p)) 5 ++ bitsOf (mtB zs p - DB (dp (mtB zs p))) (DE (dp (mtB zs p)))
def stepN (zs : List Int) (p : Nat) : Nat := if mtA zs p = 0 then 1 else mtA zs p
def pos (zs : List Int) : Nat → Nat
  | 0 => 0
  | j + 1 => pos zs j + stepN zs (pos zs j)
def acc (zs : List Int) : Nat → List Nat
  | 0 => bitsOf 3 3
  | j + 1 => acc zs j ++ stepB zs (pos zs j)
def Ends (zs : List Int) (J : Nat) : Prop := pos zs J = zs.length ∧ ∀ i, i < J → pos zs i < zs.length
theorem step_bd (zs : List Int) (p : Nat) (hp : p < zs.length) : 1 ≤ stepN zs p ∧ p + stepN zs p ≤ zs.length ∧ (stepB zs p).length ≤ 11 * stepN zs p := by
  unfold stepN stepB
  rcases mt_bd zs p (by omega) with h | h
  · rw [if_pos h, if_pos h, codeOf_len]
    have := fn_bd (zs.getD p 0).toNat
    omega
  · rw [if_neg (by omega), if_neg (by omega)]
    have a := fn_bd (257 + lp (mtA zs p))
    have b := LB_bd (lp (mtA zs p)) (by have := dn_le LB (mtA zs p) 28; unfold lp; omega)
    have c := DB_bd (dp (mtB zs p)) (by have := dn_le DB (mtB zs p) 29; unfold dp; omega)
    simp only [List.length_append, codeOf_len, bitsOf_len]
    omega
theorem ends_ex (zs : List Int) (n j : Nat) : zs.length - pos zs j ≤ n → pos zs j ≤ zs.length → (∀ i, i < j → pos zs i < zs.length) → ∃ J, Ends zs J := by
  induction n generalizing j with
  | zero => intro h1 h2 h3; exact ⟨j, by omega, h3⟩
  | succ n ih =>
    intro h1 h2 h3
    by_cases e : pos zs j = zs.length
    · exact ⟨j, e, h3⟩
    · have b := step_bd zs (pos zs j) (by omega)
      have e2 : pos zs (j + 1) = pos zs j + stepN zs (pos zs j) := rfl
      refine ih (j + 1) (by omega) (by omega) (fun i hi => ?_)
      by_cases e3 : i = j
      · subst e3; omega
      · exact h3 i (by omega)
theorem ends (zs : List Int) : ∃ J, Ends zs J := ends_ex zs zs.length 0 (by omega) (Nat.zero_le _) (fun i hi => by omega)
theorem acc_bd (zs : List Int) (J : Nat) (hJ : Ends zs J) (j : Nat) : j ≤ J → pos zs j ≤ zs.length ∧ (acc zs j).length ≤ 11 * pos zs j + 3 := by
  induction j with
  | zero => intro _; exact ⟨Nat.zero_le _, by show (bitsOf 3 3).length ≤ _; rw [bitsOf_len]; omega⟩
  | succ j ih =>
    intro h
    have a := ih (by omega)
    have b := step_bd zs (pos zs j) (hJ.2 j (by omega))
    show pos zs j + stepN zs (pos zs j) ≤ _ ∧ (acc zs j ++ stepB zs (pos zs j)).length ≤ 11 * (pos zs j + stepN zs (pos zs j)) + 3
    rw [List.length_append]
    omega
theorem codeOf_bits' (n k : Nat) : ∀ x ∈ codeOf n k, x ≤ 1 := by
  intro x hx; exact codeOf_bits n k k x (by rw [List.take_of_length_le (by rw [codeOf_len]; exact Nat.le_refl _)]; exact hx)
theorem step_bits (zs : List Int) (p : Nat) : ∀ x ∈ stepB zs p, x ≤ 1 := by
  intro x hx
  unfold stepB at hx
  split at hx
  · exact codeOf_bits' _ _ x hx
  · simp only [List.mem_append] at hx
    rcases hx with ((h | h) | h) | h
    · exact codeOf_bits' _ _ x h
    · exact bitsOf_bits _ _ x h
    · exact codeOf_bits' _ _ x h
    · exact bitsOf_bits _ _ x h
theorem acc_bits (zs : List Int) (j : Nat) : ∀ x ∈ acc zs j, x ≤ 1 := by
  induction j with
  | zero => exact bitsOf_bits 3 3
  | succ j ih =>
    intro x hx
    rcases List.mem_append.1 hx with h | h
    · exact ih x h
    · exact step_bits zs _ x h
theorem fine0 : Fine ([], 0) := ⟨by decide, by simp, fun h => absurd rfl h⟩
theorem acc_fine (zs : List Int) (j : Nat) : Fine (puts ([], 0) (acc zs j)) := fine_puts _ _ fine0 (acc_bits zs j)
/-- The bytes of the block. -/
def outB (zs : List Int) (J : Nat) : List Nat := (puts ([], 0) (acc zs J ++ codeOf 0 7)).1

theorem imatch_in (w : World) (b off cap : Nat) (zs : List Int) (n : Nat) (hc : ∀ i, i < zs.length → w.cell? ⟨b, off + i, none⟩ = some (.int .u8 (zs.getD i 0))) (hl : zs.length ≤ 6000) (hn : n ≤ zs.length) :
    Calls Tryd.prog 26 #[.slice (some ⟨b, off, none⟩) zs.length cap, .int .i64 n] w fun e w' => e = .returned (.tuple #[.int .i64 (mtA zs n), .int .i64 (mtB zs n)]) ∧ ∃ q, w' = w.drewN q := by
  by_cases h : (258 : Int) ≤ (zs.length : Int) - (n : Int)
  · exact imatch_A w b off cap zs n hc hl hn h
  · exact imatch_B w b off cap zs n hc hl hn (zs.length - n) (by omega) (by omega)
theorem smatch_in (w : World) (b off cap : Nat) (zs : List Int) (n : Nat) (hc : ∀ i, i < zs.length → w.cell? ⟨b, off + i, none⟩ = some (.int .u8 (zs.getD i 0))) (hl : zs.length ≤ 6000) (hn : n ≤ zs.length) :
    Calls Tryd.prog 90 #[.slice (some ⟨b, off, none⟩) zs.length cap, .int .i64 n] w fun e w' => e = .returned (.tuple #[.int .i64 (mtA zs n), .int .i64 (mtB zs n)]) ∧ ∃ q, w' = w.drewN q := by
  by_cases h : (258 : Int) ≤ (zs.length : Int) - (n : Int)
  · exact smatch_A w b off cap zs n hc hl hn h
  · exact smatch_B w b off cap zs n hc hl hn (zs.length - n) (by omega) (by omega)

end Go.Proofs.YteehoihkbcbbgaaDoor
