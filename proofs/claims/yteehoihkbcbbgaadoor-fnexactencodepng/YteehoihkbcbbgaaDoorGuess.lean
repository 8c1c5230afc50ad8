/-
  What the filters guess, of the program and of the specification; each theorem names its conditions.
-/
import Derived.Test.YteehoihkbcbbgaaDoorAdler
namespace Go.Proofs.YteehoihkbcbbgaaDoor
open Go.ChangeShapes Go.WideShapes Go.ChangeAt Go.RowKit
set_option linter.unusedVariables false

def absI (x : Int) : Int := if x < 0 then -x else x
def paeth (a b c : Int) : Int :=
  if absI (a + b - c - a) ≤ absI (a + b - c - b) ∧ absI (a + b - c - a) ≤ absI (a + b - c - c) then a else if absI (a + b - c - b) ≤ absI (a + b - c - c) then b else c
def guess (kind : Nat) (a b c : Int) : Int :=
  if kind = 1 then a else if kind = 2 then b else if kind = 3 then (a + b) / 2 else if kind = 4 then paeth a b c else 0
theorem guess_bd (kind : Nat) (a b c : Int) (ha : 0 ≤ a ∧ a ≤ 255) (hb : 0 ≤ b ∧ b ≤ 255) (hc : 0 ≤ c ∧ c ≤ 255) : 0 ≤ guess kind a b c ∧ guess kind a b c ≤ 255 := by
  unfold guess paeth
  repeat' split
  all_goals omega

theorem isz (w : World) (x X : Int) (hX : absI x = X) (h : -1000000 ≤ x ∧ x ≤ 1000000) : Calls Tryd.prog 134 #[.int .i64 x] w fun e w' => e = .returned (.int .u64 X) ∧ w' = w := by
  unfold absI at hX
  by_cases hlt : x < 0
  · rw [if_pos hlt] at hX; subst hX
    go_enter Tryd.func134, Tryd.ntmps134
    go_wp2
    go_ret
    exact ⟨rfl, rfl⟩
  · rw [if_neg hlt] at hX; subst hX
    go_enter Tryd.func134, Tryd.ntmps134
    go_wp2
    go_ret
    exact ⟨rfl, rfl⟩
theorem ssz (w : World) (x X : Int) (hX : absI x = X) (h : -1000000 ≤ x ∧ x ≤ 1000000) : Calls Tryd.prog 131 #[.int .i64 x] w fun e w' => e = .returned (.int .i64 X) ∧ w' = w := by
  unfold absI at hX
  by_cases hlt : x < 0
  · rw [if_pos hlt] at hX; subst hX
    go_enter Tryd.func131, Tryd.ntmps131
    go_wp2
    go_ret
    exact ⟨rfl, rfl⟩
  · rw [if_neg hlt] at hX; subst hX
    go_enter Tryd.func131, Tryd.ntmps131
    go_wp2
    go_ret
    exact ⟨rfl, rfl⟩

theorem ig0 (w : World) (a b c : Int) : Calls Tryd.prog 122 #[.int .u8 a, .int .u8 b, .int .u8 c] w fun e w' => e = .returned (.int .u8 (guess 0 a b c)) ∧ w' = w := by
  go_enter Tryd.func122, Tryd.ntmps122
  go_wp2
  go_ret
  exact ⟨rfl, rfl⟩
theorem ig1 (w : World) (a b c : Int) : Calls Tryd.prog 123 #[.int .u8 a, .int .u8 b, .int .u8 c] w fun e w' => e = .returned (.int .u8 (guess 1 a b c)) ∧ w' = w := by
  go_enter Tryd.func123, Tryd.ntmps123
  go_wp2
  go_ret
  exact ⟨rfl, rfl⟩
theorem ig2 (w : World) (a b c : Int) : Calls Tryd.prog 124 #[.int .u8 a, .int .u8 b, .int .u8 c] w fun e w' => e = .returned (.int .u8 (guess 2 a b c)) ∧ w' = w := by
  go_enter Tryd.func124, Tryd.ntmps124
  go_wp2
  go_ret
  exact ⟨rfl, rfl⟩
theorem ig3 (w : World) (a b c : Int) (ha : 0 ≤ a ∧ a ≤ 255) (hb : 0 ≤ b ∧ b ≤ 255) : Calls Tryd.prog 125 #[.int .u8 a, .int .u8 b, .int .u8 c] w fun e w' => e = .returned (.int .u8 (guess 3 a b c)) ∧ w' = w := by
  go_enter Tryd.func125, Tryd.ntmps125
  go_wp2
  go_ret
  exact ⟨rfl, rfl⟩
set_option maxHeartbeats 1000000 in
theorem ig4 (w : World) (a b c : Int) (ha : 0 ≤ a ∧ a ≤ 255) (hb : 0 ≤ b ∧ b ≤ 255) (hc : 0 ≤ c ∧ c ≤ 255) : Calls Tryd.prog 126 #[.int .u8 a, .int .u8 b, .int .u8 c] w fun e w' => e = .returned (.int .u8 (guess 4 a b c)) ∧ w' = w := by
  have HG : Hid (guess 4 a b c = if absI (a + b - c - a) ≤ absI (a + b - c - b) ∧ absI (a + b - c - a) ≤ absI (a + b - c - c) then a else if absI (a + b - c - b) ≤ absI (a + b - c - c) then b else c) := rfl
  have H1 : Hid _ := isz w (a + b - c - a) _ rfl (by omega)
  have H2 : Hid _ := isz w (a + b - c - b) _ rfl (by omega)
  have H3 : Hid _ := isz w (a + b - c - c) _ rfl (by omega)
  generalize absI (a + b - c - a) = X at *
  generalize absI (a + b - c - b) = Y at *
  generalize absI (a + b - c - c) = Z at *
  go_enter Tryd.func126, Tryd.ntmps126
  go_wp2_with fail
  refine Calls.mono H1.out ?_
  rintro e w1 ⟨rfl, rfl⟩
  go_wp2_with fail
  refine Calls.mono H2.out ?_
  rintro e w1 ⟨rfl, rfl⟩
  go_wp2_with fail
  refine Calls.mono H3.out ?_
  rintro e w1 ⟨rfl, rfl⟩
  clear H1 H2 H3
  by_cases h1 : X ≤ Y
  · by_cases h2 : X ≤ Z
    · go_wp2
      go_ret
      exact ⟨by rw [HG.out, if_pos ⟨h1, h2⟩]; rfl, rfl⟩
    · have h3 : ¬ Y ≤ Z := by omega
      go_wp2
      go_ret
      exact ⟨by rw [HG.out, if_neg (by omega), if_neg (by omega)]; rfl, rfl⟩
  · by_cases h3 : Y ≤ Z
    · go_wp2
      go_ret
      exact ⟨by rw [HG.out, if_neg (by omega), if_pos h3]; rfl, rfl⟩
    · go_wp2
      go_ret
      exact ⟨by rw [HG.out, if_neg (by omega), if_neg (by omega)]; rfl, rfl⟩

set_option maxHeartbeats 1000000 in
theorem sguess4 (w : World) (a b c : Int) (ha : 0 ≤ a ∧ a ≤ 255) (hb : 0 ≤ b ∧ b ≤ 255) (hc : 0 ≤ c ∧ c ≤ 255) : Calls Tryd.prog 113 #[.int .i64 4, .int .i64 a, .int .i64 b, .int .i64 c] w fun e w' => e = .returned (.int .i64 (guess 4 a b c)) ∧ w' = w := by
  have HG : Hid (guess 4 a b c = if absI (a + b - c - a) ≤ absI (a + b - c - b) ∧ absI (a + b - c - a) ≤ absI (a + b - c - c) then a else if absI (a + b - c - b) ≤ absI (a + b - c - c) then b else c) := rfl
  have H1 : Hid _ := ssz w (a + b - c - a) _ rfl (by omega)
  have H2 : Hid _ := ssz w (a + b - c - b) _ rfl (by omega)
  have H3 : Hid _ := ssz w (a + b - c - c) _ rfl (by omega)
  generalize absI (a + b - c - a) = X at *
  generalize absI (a + b - c - b) = Y at *
  generalize absI (a + b - c - c) = Z at *
  go_enter Tryd.func113, Tryd.ntmps113
  go_wp2_with fail
  refine Calls.mono H1.out ?_
  rintro e w1 ⟨rfl, rfl⟩
  go_wp2_with fail
  refine Calls.mono H2.out ?_
  rintro e w1 ⟨rfl, rfl⟩
  go_wp2_with fail
  refine Calls.mono H3.out ?_
  rintro e w1 ⟨rfl, rfl⟩
  clear H1 H2 H3
  by_cases h1 : X ≤ Y
  · by_cases h2 : X ≤ Z
    · go_wp2
      go_ret
      exact ⟨by rw [HG.out, if_pos ⟨h1, h2⟩]; rfl, rfl⟩
    · have h3 : ¬ Y ≤ Z := by omega
      go_wp2
      go_ret
      exact ⟨by rw [HG.out, if_neg (by omega), if_neg (by omega)]; rfl, rfl⟩
  · by_cases h3 : Y ≤ Z
    · go_wp2
      go_ret
      exact ⟨by rw [HG.out, if_neg (by omega), if_pos h3]; rfl, rfl⟩
    · go_wp2
      go_ret
      exact ⟨by rw [HG.out, if_neg (by omega), if_neg (by omega)]; rfl, rfl⟩
theorem sguess (w : World) (k : Nat) (hk : k ≤ 4) (a b c : Int) (ha : 0 ≤ a ∧ a ≤ 255) (hb : 0 ≤ b ∧ b ≤ 255) (hc : 0 ≤ c ∧ c ≤ 255) : Calls Tryd.prog 113 #[.int .i64 (k : Int), .int .i64 a, .int .i64 b, .int .i64 c] w fun e w' => e = .returned (.int .i64 (guess k a b c)) ∧ w' = w := by
  have h : k = 0 ∨ k = 1 ∨ k = 2 ∨ k = 3 ∨ k = 4 := by omega
  rcases h with rfl | rfl | rfl | rfl | rfl
  · show Calls Tryd.prog 113 #[.int .i64 0, .int .i64 a, .int .i64 b, .int .i64 c] w _
    go_enter Tryd.func113, Tryd.ntmps113
    go_wp2
    go_ret
    exact ⟨rfl, rfl⟩
  · show Calls Tryd.prog 113 #[.int .i64 1, .int .i64 a, .int .i64 b, .int .i64 c] w _
    go_enter Tryd.func113, Tryd.ntmps113
    go_wp2
    go_ret
    exact ⟨rfl, rfl⟩
  · show Calls Tryd.prog 113 #[.int .i64 2, .int .i64 a, .int .i64 b, .int .i64 c] w _
    go_enter Tryd.func113, Tryd.ntmps113
    go_wp2
    go_ret
    exact ⟨rfl, rfl⟩
  · show Calls Tryd.prog 113 #[.int .i64 3, .int .i64 a, .int .i64 b, .int .i64 c] w _
    go_enter Tryd.func113, Tryd.ntmps113
    go_wp2
    go_ret
    exact ⟨rfl, rfl⟩
  · exact sguess4 w a b c ha hb hc
end Go.Proofs.YteehoihkbcbbgaaDoor
