/-
  No code of a row of lengths is the beginning of another one: a pure fact; and what the laws' sameInts answers. Each theorem names its conditions.
-/
import Derived.Test.YtakdmgnkcpahbaaDrawD
namespace Go.Proofs.Ytakdmgnkcpahbaa
open Go.ChangeShapes Go.WideShapes Go.ChangeAt Go.RowKit
set_option linter.unusedVariables false

theorem cn_mono (xs : List Int) (l i d : Nat) : i + d ≤ xs.length → cn xs i l ≤ cn xs (i + d) l := by
  induction d with
  | zero => intro _; exact Int.le_refl _
  | succ d ih =>
    intro h
    have a := ih (by omega)
    have b := cn_succ xs (i + d) l (by omega)
    show _ ≤ cn xs (i + d + 1) l
    rw [b]
    split <;> omega
theorem cn_strict (xs : List Int) (l i k : Nat) (hik : i < k) (hk : k ≤ xs.length) (h0 : l ≠ 0) (h : xs.getD i 0 = (l : Int)) : cn xs i l + 1 ≤ cn xs k l := by
  have a := cn_succ xs i l (by omega)
  rw [if_pos ⟨h0, h⟩] at a
  have b := cn_mono xs l (i + 1) (k - (i + 1)) (by omega)
  rw [show i + 1 + (k - (i + 1)) = k by omega] at b
  omega
theorem nx_nonneg (xs : List Int) (l : Nat) : 0 ≤ nx xs l := by
  induction l with
  | zero => exact Int.le_refl _
  | succ l ih => have := cn_bd xs xs.length l; show 0 ≤ (nx xs l + cn xs xs.length l) * 2; omega
theorem nx_far (xs : List Int) (l d : Nat) : (nx xs l + cn xs xs.length l) * 2 ^ (d + 1) ≤ nx xs (l + d + 1) := by
  induction d with
  | zero => show _ * 2 ^ 1 ≤ (nx xs l + cn xs xs.length l) * 2; exact Int.le_refl _
  | succ d ih =>
    have b := cn_bd xs xs.length (l + d + 1)
    show _ ≤ (nx xs (l + d + 1) + cn xs xs.length (l + d + 1)) * 2
    have e : (2 : Int) ^ (d + 1 + 1) = 2 ^ (d + 1) * 2 := Int.pow_succ 2 (d + 1)
    rw [e, ← Int.mul_assoc]
    omega
theorem prefix_free (xs : List Int) (i k X Y : Nat) (hi : i < xs.length) (hk : k < xs.length) (hne : i ≠ k) (hx : xs.getD i 0 = (X : Int)) (hy : xs.getD k 0 = (Y : Int)) (hX : 0 < X) (hXY : X ≤ Y) :
    cd xs k / 2 ^ (Y - X) ≠ cd xs i := by
  have ei : cd xs i = nx xs X + cn xs i X := by unfold cd; rw [hx, if_pos (by omega)]; simp
  have ek : cd xs k = nx xs Y + cn xs k Y := by unfold cd; rw [hy, if_pos (by omega)]; simp
  rw [ei, ek]
  have bi := cn_strict xs X i xs.length hi (Nat.le_refl _) (by omega) hx
  have bk := cn_bd xs k Y
  by_cases e : X = Y
  · subst e
    rw [Nat.sub_self]
    have e1 : (nx xs X + cn xs k X) / 2 ^ 0 = nx xs X + cn xs k X := by simp
    rw [e1]
    by_cases h : i < k
    · have := cn_strict xs X i k h (by omega) (by omega) hx
      omega
    · have := cn_strict xs X k i (by omega) (by omega) (by omega) hy
      omega
  · have f := nx_far xs X (Y - X - 1)
    rw [show X + (Y - X - 1) + 1 = Y by omega, show Y - X - 1 + 1 = Y - X by omega] at f
    have hp : (0 : Int) < 2 ^ (Y - X) := Int.pow_pos (by omega)
    have g : nx xs X + cn xs xs.length X ≤ (nx xs Y + cn xs k Y) / 2 ^ (Y - X) := by
      apply Int.le_ediv_of_mul_le hp
      omega
    omega
theorem cd_bd (xs : List Int) (hf : fit xs = true) (i : Nat) (hi : i < xs.length) : 0 ≤ cd xs i ∧ cd xs i ≤ 20000000 := by
  have b := fit_at hf i
  have hl := fit_len hf
  unfold cd
  split
  · have a := nx_small xs hl (xs.getD i 0).toNat (by omega)
    have c := cn_bd xs i (xs.getD i 0).toNat
    omega
  · omega

theorem same_any (w : World) (a1 a2 : Option Addr) (c1 c2 : Nat) (zs : List Int) (hl : zs.length ≤ 1048576) (h1 : Row .i64 w a1 zs) (h2 : Row .i64 w a2 zs) :
    Calls Try.prog 10 #[.slice a1 zs.length c1, .slice a2 zs.length c2] w fun e w' => e = .returned (.bool true) ∧ ∃ q, w' = w.drewN q := by
  go_enter Try.func10, Try.ntmps10
  go_wp2
  go_loopw [13] (fun i wr => ∃ k q : Nat, k ≤ zs.length ∧ i = .int .i64 k ∧ wr = w.drewN q) (fun i _ => zs.length - (intOf i).toNat)
  case atStart => exact ⟨0, 0, Nat.zero_le _, rfl, rfl⟩
  case round =>
    obtain ⟨k, q, hk, rfl, rfl⟩ := hrel
    by_cases hlt : k < zs.length
    · rcases h1 with rfl | ⟨b1, o1, rfl, hb1, h1⟩
      · exact absurd hlt (by simp)
      rcases h2 with rfl | ⟨b2, o2, rfl, hb2, h2⟩
      · exact absurd hlt (by simp)
      have c0 := h1 k hlt
      have c1 := h2 k hlt
      clear h1 h2
      generalize zs.getD k 0 = x at *
      have hq : (x == x) = true := by simp
      go_wp2
      go_quiet (fail)
      go_wp2
      go_roundw
      case rel => exact ⟨k + 1, _, by omega, by go_num, rfl⟩
      case measure => simp [intOf]; omega
    · clear h1 h2
      go_wp2
      go_ret
      exact ⟨rfl, _, rfl⟩
theorem same_at (W : World) (b1 b2 n c1 c2 : Nat) (cs : List Int) (hn : cs.length = n) (hl : n ≤ 1048576) (h1 : At W b1 cs) (h2 : At W b2 cs) :
    Calls Try.prog 10 #[.slice (some ⟨b1, 0, none⟩) n c1, .slice (some ⟨b2, 0, none⟩) n c2] W fun e w' => e = .returned (.bool true) ∧ Kp W w' := by
  subst hn
  refine (same_any W _ _ c1 c2 cs hl h1.row h2.row).mono ?_
  rintro e w' ⟨he, q, rfl⟩
  exact ⟨he, (Kp.refl W).drewN q⟩
theorem same_nil (W : World) : Calls Try.prog 10 #[.slice none 0 0, .slice none 0 0] W fun e w' => e = .returned (.bool true) ∧ Kp W w' := by
  refine (same_any W none none 0 0 [] (by simp) (Or.inl rfl) (Or.inl rfl)).mono ?_
  rintro e w' ⟨he, q, rfl⟩
  exact ⟨he, (Kp.refl W).drewN q⟩
end Go.Proofs.Ytakdmgnkcpahbaa
