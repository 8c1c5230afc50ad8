/-
  What the looks at kinds, sides and rows answer, and the filter of a kind; each theorem names its conditions.
-/
import Derived.Test.YteehoihkbcbbgaaDoorFilt
namespace Go.Proofs.YteehoihkbcbbgaaDoor
open Go.ChangeShapes Go.WideShapes Go.ChangeAt Go.RowKit
set_option linter.unusedVariables false

/-- Rows that may be filtered. -/
def RowOk (n m : Nat) : Prop := 0 < n ∧ n % 4 = 0 ∧ n ≤ 144 ∧ m = n
theorem igoodKind (w : World) (k : Int) : Calls Tryd.prog 105 #[.int .i64 k] w fun e w' => e = .returned (.bool (decide (0 ≤ k ∧ k ≤ 4))) ∧ w' = w := by
  by_cases h1 : 0 ≤ k
  · by_cases h2 : k < 5
    · have e : decide (0 ≤ k ∧ k ≤ 4) = true := by simp; omega
      rw [e]; clear e
      go_enter Tryd.func105, Tryd.ntmps105
      go_wp2
      go_ret
      exact ⟨rfl, rfl⟩
    · have e : decide (0 ≤ k ∧ k ≤ 4) = false := by simp; omega
      rw [e]; clear e
      go_enter Tryd.func105, Tryd.ntmps105
      go_wp2
      go_ret
      exact ⟨rfl, rfl⟩
  · have e : decide (0 ≤ k ∧ k ≤ 4) = false := by simp; omega
    rw [e]; clear e
    go_enter Tryd.func105, Tryd.ntmps105
    go_wp2
    go_ret
    exact ⟨rfl, rfl⟩
theorem igoodSide (w : World) (k : Int) : Calls Tryd.prog 34 #[.int .i64 k] w fun e w' => e = .returned (.bool (decide (1 ≤ k ∧ k ≤ 36))) ∧ w' = w := by
  by_cases h1 : 1 ≤ k
  · by_cases h2 : k ≤ 36
    · have e : decide (1 ≤ k ∧ k ≤ 36) = true := by simp; omega
      rw [e]; clear e
      go_enter Tryd.func34, Tryd.ntmps34
      go_wp2
      go_ret
      exact ⟨rfl, rfl⟩
    · have e : decide (1 ≤ k ∧ k ≤ 36) = false := by simp; omega
      rw [e]; clear e
      go_enter Tryd.func34, Tryd.ntmps34
      go_wp2
      go_ret
      exact ⟨rfl, rfl⟩
  · have e : decide (1 ≤ k ∧ k ≤ 36) = false := by simp; omega
    rw [e]; clear e
    go_enter Tryd.func34, Tryd.ntmps34
    go_wp2
    go_ret
    exact ⟨rfl, rfl⟩
theorem sl1In (w : World) (k a b : Int) : Calls Tryd.prog 65 #[.int .i64 k, .int .i64 a, .int .i64 b] w fun e w' => e = .returned (.bool (decide (a ≤ k ∧ k ≤ b))) ∧ w' = w := by
  by_cases h1 : a ≤ k
  · by_cases h2 : k ≤ b
    · have e : decide (a ≤ k ∧ k ≤ b) = true := by simp; omega
      rw [e]; clear e
      go_enter Tryd.func65, Tryd.ntmps65
      go_wp2
      go_ret
      exact ⟨rfl, rfl⟩
    · have e : decide (a ≤ k ∧ k ≤ b) = false := by simp; omega
      rw [e]; clear e
      go_enter Tryd.func65, Tryd.ntmps65
      go_wp2
      go_ret
      exact ⟨rfl, rfl⟩
  · have e : decide (a ≤ k ∧ k ≤ b) = false := by simp; omega
    rw [e]; clear e
    go_enter Tryd.func65, Tryd.ntmps65
    go_wp2
    go_ret
    exact ⟨rfl, rfl⟩
theorem igoodRows_yes (w : World) (a1 a2 : Option Addr) (n c1 c2 : Nat) (h : RowOk n n) : Calls Tryd.prog 103 #[.slice a1 n c1, .slice a2 n c2] w fun e w' => e = .returned (.bool true) ∧ w' = w := by
  obtain ⟨h1, h2, h3, _⟩ := h
  have HS : Hid _ := igoodSide w ((n : Int) / 4)
  have e : decide (1 ≤ (n : Int) / 4 ∧ (n : Int) / 4 ≤ 36) = true := by simp; omega
  rw [e] at HS
  have h4 : ((n : Int) % 4 == 0) = true := by simp; omega
  have h5 : ((n : Int) == (n : Int)) = true := by simp
  clear e h2
  go_enter Tryd.func103, Tryd.ntmps103
  go_wp2_with fail
  refine Calls.mono HS.out ?_
  rintro e w1 ⟨rfl, rfl⟩
  go_wp2
  go_ret
  exact ⟨rfl, rfl⟩
theorem igoodRows_no (w : World) (a1 a2 : Option Addr) (n m c1 c2 : Nat) (hn : n ≤ 1048576) (hm : m ≤ 1048576) (h : ¬ RowOk n m) : Calls Tryd.prog 103 #[.slice a1 n c1, .slice a2 m c2] w fun e w' => e = .returned (.bool false) ∧ w' = w := by
  have HS : Hid _ := igoodSide w ((n : Int) / 4)
  by_cases h2 : n % 4 = 0
  · have h4 : ((n : Int) % 4 == 0) = true := by simp; omega
    by_cases h3 : 1 ≤ (n : Int) / 4 ∧ (n : Int) / 4 ≤ 36
    · have e : decide (1 ≤ (n : Int) / 4 ∧ (n : Int) / 4 ≤ 36) = true := by simp; omega
      rw [e] at HS
      have h5 : m ≠ n := fun e => h ⟨by omega, h2, by omega, e⟩
      have h6 : ((m : Int) == (n : Int)) = false := by rw [beq_eq_false_iff_ne]; omega
      clear e h2 h3 h h5
      go_enter Tryd.func103, Tryd.ntmps103
      go_wp2_with fail
      refine Calls.mono HS.out ?_
      rintro e w1 ⟨rfl, rfl⟩
      go_wp2
      go_ret
      exact ⟨rfl, rfl⟩
    · have e : decide (1 ≤ (n : Int) / 4 ∧ (n : Int) / 4 ≤ 36) = false := by simp; omega
      rw [e] at HS
      clear e h2 h3 h
      go_enter Tryd.func103, Tryd.ntmps103
      go_wp2_with fail
      refine Calls.mono HS.out ?_
      rintro e w1 ⟨rfl, rfl⟩
      go_wp2
      go_ret
      exact ⟨rfl, rfl⟩
  · have h4 : ((n : Int) % 4 == 0) = false := by rw [beq_eq_false_iff_ne]; omega
    clear h HS h2
    go_enter Tryd.func103, Tryd.ntmps103
    go_wp2
    go_ret
    exact ⟨rfl, rfl⟩
theorem run_store_func (P : Program) (w : World) (a : Addr) (m : Mode) (f : Fn) (x y : Array Value) : (store a (.func f x y) m).run P w = stored P w a (.func f x y) m := run_store P w a _ m rfl
attribute [local go_sem] run_store_func
def guessFn (k : Nat) : Nat := if k = 0 then 122 else if k = 1 then 123 else if k = 2 then 124 else if k = 3 then 125 else 126
theorem ifilterOf (w : World) (k : Nat) (h : k ≤ 4) : Calls Tryd.prog 106 #[.int .i64 (k : Int)] w fun e w' => e = .returned (.agg #[.func (.func (guessFn k)) #[] #[]]) ∧ Nw w w' := by
  have h : k = 0 ∨ k = 1 ∨ k = 2 ∨ k = 3 ∨ k = 4 := by omega
  rcases h with rfl | rfl | rfl | rfl | rfl
  · show Calls Tryd.prog 106 #[.int .i64 0] w _
    go_enter Tryd.func106, Tryd.ntmps106
    go_wp2
    exact bodyPost_ret (v := .agg #[.func (.func 122) #[] #[]]) (by simp [results, Tryd.results106, go_sem]) rfl ⟨rfl, (((Below.refl _ _).alloc (Nat.le_refl _) _).alloc (by simp) _)⟩
  · show Calls Tryd.prog 106 #[.int .i64 1] w _
    go_enter Tryd.func106, Tryd.ntmps106
    go_wp2
    exact bodyPost_ret (v := .agg #[.func (.func 123) #[] #[]]) (by simp [results, Tryd.results106, go_sem]) rfl ⟨rfl, (((Below.refl _ _).alloc (Nat.le_refl _) _).alloc (by simp) _)⟩
  · show Calls Tryd.prog 106 #[.int .i64 2] w _
    go_enter Tryd.func106, Tryd.ntmps106
    go_wp2
    exact bodyPost_ret (v := .agg #[.func (.func 124) #[] #[]]) (by simp [results, Tryd.results106, go_sem]) rfl ⟨rfl, (((Below.refl _ _).alloc (Nat.le_refl _) _).alloc (by simp) _)⟩
  · show Calls Tryd.prog 106 #[.int .i64 3] w _
    go_enter Tryd.func106, Tryd.ntmps106
    go_wp2
    exact bodyPost_ret (v := .agg #[.func (.func 125) #[] #[]]) (by simp [results, Tryd.results106, go_sem]) rfl ⟨rfl, (((Below.refl _ _).alloc (Nat.le_refl _) _).alloc (by simp) _)⟩
  · show Calls Tryd.prog 106 #[.int .i64 4] w _
    go_enter Tryd.func106, Tryd.ntmps106
    go_wp2
    exact bodyPost_ret (v := .agg #[.func (.func 126) #[] #[]]) (by simp [results, Tryd.results106, go_sem]) rfl ⟨rfl, (((Below.refl _ _).alloc (Nat.le_refl _) _).alloc (by simp) _)⟩
end Go.Proofs.YteehoihkbcbbgaaDoor
