/-
  How far the program finds a number to go, and what stands ahead of the next one; for texts of at most 1048576 bytes.
-/
import Derived.Test.YtfodmjdhpolnkaaDoorNuGap
namespace Go.Proofs.YtfodmjdhpolnkaaDoor
open Go.ChangeShapes Go.WideShapes Go.ChangeAt Go.RowKit
set_option linter.unusedVariables false

theorem idig (c : UInt8) (w : World) : Calls Tryd.prog 110 #[.int .u8 (c.toNat : Int)] w fun e w' => e = .returned (.bool (isD c)) ∧ w' = w := by
  by_cases h1 : 48 ≤ c.toNat
  · by_cases h2 : c.toNat ≤ 57
    · have h : isD c = true := by unfold isD; simp [h1, h2]
      rw [h]
      have g1 : (48 : Int) ≤ (c.toNat : Int) := by omega
      have g2 : (c.toNat : Int) ≤ 57 := by omega
      go_enter Tryd.func110, Tryd.ntmps110
      go_wp2
      go_ret
      exact ⟨rfl, rfl⟩
    · have h : isD c = false := by unfold isD; simp [h2]
      rw [h]
      have g2 : decide ((c.toNat : Int) ≤ 57) = false := by simp; omega
      have g1 : (48 : Int) ≤ (c.toNat : Int) := by omega
      clear h1 h2
      go_enter Tryd.func110, Tryd.ntmps110
      go_wp2
      go_ret
      exact ⟨rfl, rfl⟩
  · have h : isD c = false := by unfold isD; simp [h1]
    rw [h]
    have g1 : decide ((48 : Int) ≤ (c.toNat : Int)) = false := by simp; omega
    clear h1
    go_enter Tryd.func110, Tryd.ntmps110
    go_wp2
    go_ret
    exact ⟨rfl, rfl⟩
theorem isgn (c : UInt8) (w : World) : Calls Tryd.prog 89 #[.int .u8 (c.toNat : Int)] w fun e w' => e = .returned (.bool (isS c)) ∧ w' = w := by
  by_cases h1 : c = 45
  · have g1 : ((c.toNat : Int) == 45) = true := by rw [h1]; rfl
    have h : isS c = true := by unfold isS; simp [h1]
    rw [h]
    clear h1
    go_enter Tryd.func89, Tryd.ntmps89
    go_wp2
    go_ret
    exact ⟨rfl, rfl⟩
  · have g1 : ((c.toNat : Int) == 45) = false := by
      rw [beq_eq_false_iff_ne]; intro e; apply h1; apply UInt8.toNat_inj.1; have : ((45 : UInt8).toNat : Int) = 45 := rfl; omega
    by_cases h2 : c = 43
    · have g2 : ((c.toNat : Int) == 43) = true := by rw [h2]; rfl
      have h : isS c = true := by unfold isS; simp [h2]
      rw [h]
      clear h1 h2
      go_enter Tryd.func89, Tryd.ntmps89
      go_wp2
      go_ret
      exact ⟨rfl, rfl⟩
    · have g2 : ((c.toNat : Int) == 43) = false := by
        rw [beq_eq_false_iff_ne]; intro e; apply h2; apply UInt8.toNat_inj.1; have : ((43 : UInt8).toNat : Int) = 43 := rfl; omega
      have h : isS c = false := by unfold isS; simp [h1, h2]
      rw [h]
      clear h1 h2
      go_enter Tryd.func89, Tryd.ntmps89
      go_wp2
      go_ret
      exact ⟨rfl, rfl⟩
theorem tw_at : ∀ (k : Nat) (l : List UInt8), k ≤ l.length → (∀ j b, j < k → l[j]? = some b → isD b = true) → (∀ b, l[k]? = some b → isD b = false) → (l.takeWhile isD).length = k := by
  intro k
  induction k with
  | zero =>
    intro l _ _ h2
    match l with
    | [] => rfl
    | c :: t =>
      have := h2 c rfl
      rw [List.takeWhile_cons, this]
      rfl
  | succ k ih =>
    intro l hl h1 h2
    match l, hl with
    | c :: t, hl =>
      have hc := h1 0 c (by omega) rfl
      have e := ih t (by rw [List.length_cons] at hl; omega) (fun j b hj hb => h1 (j + 1) b (by omega) hb) (fun b hb => h2 b hb)
      rw [List.takeWhile_cons, hc]
      simp [e]
theorem at_of (s : ByteArray) (k : Nat) (b : UInt8) (h : s.data.toList[k]? = some b) (hk : k < s.size) : s[k] = b := by
  have e : s[k] = s.data.toList[k]'(by simpa using hk) := rfl
  rw [List.getElem?_eq_getElem (by simpa using hk)] at h
  exact e.trans (Option.some.inj h)
def twL (s : ByteArray) : Nat := (s.data.toList.takeWhile isD).length
theorem tw_le (l : List UInt8) : (l.takeWhile isD).length ≤ l.length := by
  have : (l.takeWhile isD).length + (l.dropWhile isD).length = l.length := by rw [← List.length_append, List.takeWhile_append_dropWhile]
  omega
theorem idigs (s : ByteArray) (w : World) (hs : s.size ≤ 1048576) : Calls Tryd.prog 90 #[.string s] w fun e w' => e = .returned (.int .i64 (twL s : Int)) ∧ w' = w := by
  go_enter Tryd.func90, Tryd.ntmps90
  go_wp2
  go_loop [3] (fun v => ∃ k : Nat, k ≤ s.size ∧ v = .int .i64 (k : Int) ∧ ∀ j b, j < k → s.data.toList[j]? = some b → isD b = true) (fun v => s.size - (intOf v).toNat)
  case atStart => exact ⟨0, Nat.zero_le _, rfl, fun j b hj => absurd hj (by omega)⟩
  case round =>
    obtain ⟨k, hk, rfl, hall⟩ := hrel
    have HA : Hid _ := hall
    clear hall
    by_cases hlt : k < s.size
    · have HG : Hid _ := at_of s k
      cases hd : isD s[k] with
      | true =>
        have HD : Hid _ := hd
        clear hd
        go_wp2_with fail
        refine (idig s[k] _).mono ?_
        rintro e w' ⟨rfl, rfl⟩
        rw [HD.out]
        go_wp2
        go_round
        case rel => exact ⟨k + 1, by omega, by go_num, fun j b hj hb => by
          rcases Nat.lt_succ_iff_lt_or_eq.1 hj with h | rfl
          · exact HA.out j b h hb
          · rw [← HG.out b hb hlt]; exact HD.out⟩
        case measure => simp [intOf]; omega
      | false =>
        have HD : Hid _ := hd
        clear hd
        have HE : Hid (twL s = k) := tw_at k _ (by simpa using hk) HA.out (fun b hb => by rw [← HG.out b hb hlt]; exact HD.out)
        go_wp2_with fail
        refine (idig s[k] _).mono ?_
        rintro e w' ⟨rfl, rfl⟩
        rw [HD.out]
        go_wp2
        go_ret
        exact ⟨by rw [HE.out]; rfl, rfl⟩
    · have e : k = s.size := by omega
      subst e
      have HE : Hid (twL s = s.size) := tw_at s.size _ (by simp) HA.out (fun b hb => by rw [List.getElem?_eq_none (by simp)] at hb; cases hb)
      go_wp2
      go_ret
      exact ⟨by rw [HE.out]; rfl, rfl⟩
theorem dw_drop (l : List UInt8) : l.dropWhile isD = l.drop (l.takeWhile isD).length := by
  conv => rhs; rw [← List.takeWhile_append_dropWhile (p := isD) (l := l)]
  rw [show (((l.takeWhile isD) ++ (l.dropWhile isD)).takeWhile isD) = l.takeWhile isD by rw [List.takeWhile_append_dropWhile], List.drop_left]
theorem nn_point (l : List UInt8) (h : l[(l.takeWhile isD).length]? = some 46) : nn l = (l.takeWhile isD).length + (1 + ((l.drop ((l.takeWhile isD).length + 1)).takeWhile isD).length) := by
  have hlt : (l.takeWhile isD).length < l.length := by
    rcases Nat.lt_or_ge (l.takeWhile isD).length l.length with h1 | h1
    · exact h1
    · rw [List.getElem?_eq_none h1] at h; cases h
  have e : l.dropWhile isD = 46 :: l.drop ((l.takeWhile isD).length + 1) := by
    rw [dw_drop, List.drop_eq_getElem_cons hlt]
    rw [List.getElem?_eq_getElem hlt] at h
    injection h with h
    rw [h]
  unfold nn
  rw [e]
  show _ + (if (46 : UInt8) = 46 then _ else _) = _
  rw [if_pos rfl]
theorem nn_else (l : List UInt8) (h : ¬ l[(l.takeWhile isD).length]? = some 46) : nn l = (l.takeWhile isD).length := by
  unfold nn
  rw [dw_drop]
  match hd : l.drop (l.takeWhile isD).length with
  | [] => rfl
  | c :: b =>
    show _ + (if c = 46 then _ else _) = _
    rw [if_neg]
    · rfl
    · rintro rfl
      apply h
      have := congrArg List.head? hd
      rw [List.head?_drop] at this
      exact this
end Go.Proofs.YtfodmjdhpolnkaaDoor
