/-
  What MatchAt and the specification's l2Match answer, for every list of at most 6000 bytes and every place in it; each theorem names its conditions.
-/
import Derived.Test.YteehoihkbcbbgaaDoorBytes
namespace Go.Proofs.YteehoihkbcbbgaaDoor
open Go.ChangeShapes Go.WideShapes Go.ChangeAt Go.RowKit
set_option linter.unusedVariables false

/-- How many numbers from a on are those from b on, at most m. -/
def alk (zs : List Int) (a b : Nat) : Nat → Nat
  | 0 => 0
  | m + 1 => if zs.getD a 0 = zs.getD b 0 then alk zs (a + 1) (b + 1) m + 1 else 0
theorem alk_le (zs : List Int) (m : Nat) : ∀ a b, alk zs a b m ≤ m := by
  induction m with
  | zero => intro a b; exact Nat.le_refl _
  | succ m ih => intro a b; unfold alk; split
                 · have := ih (a + 1) (b + 1); omega
                 · omega
theorem alk_of (zs : List Int) (m : Nat) : ∀ a b n, n ≤ m → (∀ i, i < n → zs.getD (a + i) 0 = zs.getD (b + i) 0) → (n < m → zs.getD (a + n) 0 ≠ zs.getD (b + n) 0) → alk zs a b m = n := by
  induction m with
  | zero => intro a b n h _ _; show 0 = n; omega
  | succ m ih =>
    intro a b n h he hn
    unfold alk
    cases n with
    | zero => rw [if_neg (by simpa using hn (by omega))]
    | succ n =>
      rw [if_pos (by simpa using he 0 (by omega))]
      rw [ih (a + 1) (b + 1) n (by omega) (fun i hi => by have := he (i + 1) (by omega); rw [show a + 1 + i = a + (i + 1) by omega, show b + 1 + i = b + (i + 1) by omega]; exact this)
        (fun hlt => by have := hn (by omega); rw [show a + 1 + n = a + (n + 1) by omega, show b + 1 + n = b + (n + 1) by omega]; exact this)]

/-- The longest stretch with a distance in 1..k, and the least distance of it (0 and 0 where there is none). -/
def sb (L : Nat → Nat) : Nat → Nat × Nat
  | 0 => (0, 0)
  | k + 1 => if (sb L k).1 < L (k + 1) then (L (k + 1), k + 1) else sb L k
/-- The same, of at least 3. -/
def ib (L : Nat → Nat) : Nat → Nat × Nat
  | 0 => (2, 0)
  | k + 1 => if (ib L k).1 < L (k + 1) then (L (k + 1), k + 1) else ib L k
theorem sb_ib (L : Nat → Nat) (k : Nat) : (3 ≤ (sb L k).1 ∧ ib L k = sb L k ∧ 1 ≤ (sb L k).2) ∨ ((sb L k).1 < 3 ∧ ib L k = (2, 0)) := by
  induction k with
  | zero => exact Or.inr ⟨by show 0 < 3; omega, rfl⟩
  | succ k ih =>
    unfold sb ib
    rcases ih with ⟨h1, h2, h3⟩ | ⟨h1, h2⟩
    · rw [h2]; split
      · exact Or.inl ⟨by show 3 ≤ L (k + 1); omega, rfl, by show 1 ≤ k + 1; omega⟩
      · exact Or.inl ⟨h1, rfl, h3⟩
    · rw [h2]
      by_cases h : 3 ≤ L (k + 1)
      · rw [if_pos (by omega), if_pos (by show 2 < L (k + 1); omega)]
        exact Or.inl ⟨h, rfl, by show 1 ≤ k + 1; omega⟩
      · rw [if_neg (show ¬ 2 < L (k + 1) by omega)]
        split
        · exact Or.inr ⟨by show L (k + 1) < 3; omega, rfl⟩
        · exact Or.inr ⟨h1, rfl⟩
theorem ib_stop (L : Nat → Nat) (M : Nat) (hL : ∀ d, L d ≤ M) (k : Nat) (h : M ≤ (ib L k).1) (n : Nat) : ib L (k + n) = ib L k := by
  induction n with
  | zero => rfl
  | succ n ih =>
    have e : ib L (k + n + 1) = if (ib L (k + n)).1 < L (k + n + 1) then (L (k + n + 1), k + n + 1) else ib L (k + n) := rfl
    show ib L (k + n + 1) = _
    rw [e, ih, if_neg (by have := hL (k + n + 1); omega)]
def mt (zs : List Int) (at' : Nat) : Nat × Nat :=
  let s := sb (fun d => alk zs (at' - d) at' (min 258 (zs.length - at'))) at'
  if s.1 < 3 then (0, 0) else s

set_option maxHeartbeats 1000000 in
theorem alike_any (w : World) (b off cap : Nat) (zs : List Int) (A B M : Nat) (hc : ∀ i, i < zs.length → w.cell? ⟨b, off + i, none⟩ = some (.int .u8 (zs.getD i 0))) (hl : zs.length ≤ 6000) (hAB : A ≤ B) (hM : B + M ≤ zs.length) :
    Calls Tryd.prog 57 #[.slice (some ⟨b, off, none⟩) zs.length cap, .int .i64 A, .int .i64 B, .int .i64 M] w fun e w' => e = .returned (.int .i64 (alk zs A B M)) ∧ ∃ q, w' = w.drewN q := by
  go_enter Tryd.func57, Tryd.ntmps57
  go_wp2
  go_loopw [9] (fun i wr => ∃ k q : Nat, k ≤ M ∧ i = .int .i64 k ∧ wr = w.drewN q ∧ ∀ j, j < k → zs.getD (A + j) 0 = zs.getD (B + j) 0) (fun i _ => M - (intOf i).toNat)
  case atStart => exact ⟨0, 0, Nat.zero_le _, rfl, rfl, fun j hj => absurd hj (by omega)⟩
  case round =>
    obtain ⟨k, q, hk, rfl, rfl, hall⟩ := hrel
    have HA : Hid _ := hall
    clear hall
    by_cases hlt : k < M
    · have c0 := hc (A + k) (by omega)
      have c1 := hc (B + k) (by omega)
      have hi : (k : Int) < (M : Int) := by omega
      have x0 : (A : Int) + (k : Int) < (zs.length : Int) := by omega
      have x1 : (B : Int) + (k : Int) < (zs.length : Int) := by omega
      have y0 : (0 : Int) ≤ (A : Int) + (k : Int) := by omega
      have y1 : (0 : Int) ≤ (B : Int) + (k : Int) := by omega
      by_cases he : zs.getD (A + k) 0 = zs.getD (B + k) 0
      · have HE : Hid _ := he
        have hq : (zs.getD (A + k) 0 == zs.getD (B + k) 0) = true := by rw [he]; simp
        have HN : Hid (∀ j, j < k + 1 → zs.getD (A + j) 0 = zs.getD (B + j) 0) := by
          intro j hj
          by_cases hjk : j = k
          · subst hjk; exact HE.out
          · exact HA.out j (by omega)
        clear he
        generalize zs.getD (A + k) 0 = x at *
        generalize zs.getD (B + k) 0 = y at *
        go_wp2
        go_quiet (fail)
        go_wp2
        go_roundw
        case rel => exact ⟨k + 1, _, by omega, by go_num, rfl, HN.out⟩
        case measure => simp [intOf]; omega
      · have HV : Hid (alk zs A B M = k) := alk_of zs M A B k hk HA.out (fun _ => he)
        have hq : (zs.getD (A + k) 0 == zs.getD (B + k) 0) = false := by rw [beq_eq_false_iff_ne]; exact he
        clear he
        generalize zs.getD (A + k) 0 = x at *
        generalize zs.getD (B + k) 0 = y at *
        go_wp2
        go_quiet (fail)
        go_wp2
        go_ret
        exact ⟨by rw [HV.out]; rfl, _, World.drewN_drewN _ _ _⟩
    · have HV : Hid (alk zs A B M = k) := alk_of zs M A B k hk HA.out (fun h => absurd h hlt)
      have hd : decide ((k : Int) < (M : Int)) = false := by simp; omega
      go_wp2
      go_quiet (fail)
      go_wp2
      go_ret
      exact ⟨by rw [HV.out]; rfl, _, World.drewN_drewN _ _ _⟩

/-- What is known of the longest stretch. -/
theorem sb_le (L : Nat → Nat) (M : Nat) (hL : ∀ d, L d ≤ M) (k : Nat) : (sb L k).1 ≤ M ∧ (sb L k).2 ≤ k := by
  induction k with
  | zero => exact ⟨Nat.zero_le _, Nat.zero_le _⟩
  | succ k ih =>
    unfold sb; split
    · exact ⟨hL _, Nat.le_refl _⟩
    · exact ⟨ih.1, by omega⟩
theorem ib_le (L : Nat → Nat) (M : Nat) (hL : ∀ d, L d ≤ M) (k : Nat) : (ib L k).1 ≤ max M 2 ∧ (ib L k).2 ≤ k := by
  induction k with
  | zero => exact ⟨Nat.le_max_right _ _, Nat.zero_le _⟩
  | succ k ih =>
    unfold ib; split
    · exact ⟨Nat.le_trans (hL _) (Nat.le_max_left _ _), Nat.le_refl _⟩
    · exact ⟨ih.1, by omega⟩
theorem sb_yes (L : Nat → Nat) (k : Nat) (h : (sb L k).1 < L (k + 1)) : sb L (k + 1) = (L (k + 1), k + 1) := by
  show (if (sb L k).1 < L (k + 1) then (L (k + 1), k + 1) else sb L k) = _; rw [if_pos h]
theorem sb_no (L : Nat → Nat) (k : Nat) (h : ¬ (sb L k).1 < L (k + 1)) : sb L (k + 1) = sb L k := by
  show (if (sb L k).1 < L (k + 1) then (L (k + 1), k + 1) else sb L k) = _; rw [if_neg h]
theorem ib_yes (L : Nat → Nat) (k : Nat) (h : (ib L k).1 < L (k + 1)) : ib L (k + 1) = (L (k + 1), k + 1) := by
  show (if (ib L k).1 < L (k + 1) then (L (k + 1), k + 1) else ib L k) = _; rw [if_pos h]
theorem ib_no (L : Nat → Nat) (k : Nat) (h : ¬ (ib L k).1 < L (k + 1)) : ib L (k + 1) = ib L k := by
  show (if (ib L k).1 < L (k + 1) then (L (k + 1), k + 1) else ib L k) = _; rw [if_neg h]

/-- The stretch at the distance d. -/
def Ld (zs : List Int) (p d : Nat) : Nat := alk zs (p - d) p (min 258 (zs.length - p))
theorem Ld_le (zs : List Int) (p d : Nat) : Ld zs p d ≤ min 258 (zs.length - p) := alk_le _ _ _ _
def mtA (zs : List Int) (p : Nat) : Nat := if (sb (Ld zs p) p).1 < 3 then 0 else (sb (Ld zs p) p).1
def mtB (zs : List Int) (p : Nat) : Nat := if (sb (Ld zs p) p).1 < 3 then 0 else (sb (Ld zs p) p).2

set_option maxHeartbeats 1000000 in
theorem imatch_A (w : World) (b off cap : Nat) (zs : List Int) (p : Nat) (hc : ∀ i, i < zs.length → w.cell? ⟨b, off + i, none⟩ = some (.int .u8 (zs.getD i 0))) (hl : zs.length ≤ 6000) (hp : p ≤ zs.length) (h258 : (258 : Int) ≤ (zs.length : Int) - (p : Int)) :
    Calls Tryd.prog 26 #[.slice (some ⟨b, off, none⟩) zs.length cap, .int .i64 p] w fun e w' => e = .returned (.tuple #[.int .i64 (mtA zs p), .int .i64 (mtB zs p)]) ∧ ∃ q, w' = w.drewN q := by
  have HL : Hid (∀ d, Ld zs p d ≤ 258) := fun d => by have := Ld_le zs p d; omega
  have HC : Hid (∀ (k q : Nat), k < p → Calls Tryd.prog 57 #[.slice (some ⟨b, off, none⟩) zs.length cap, .int .i64 ((p : Int) - ((k : Int) + 1)), .int .i64 p, .int .i64 258] (w.drewN q) fun e w' => e = .returned (.int .i64 (Ld zs p (k + 1))) ∧ ∃ q', w' = (w.drewN q).drewN q') := by
    intro k q hk
    have h := alike_any (w.drewN q) b off cap zs (p - (k + 1)) p 258 hc hl (by omega) (by omega)
    have e1 : ((p - (k + 1) : Nat) : Int) = (p : Int) - ((k : Int) + 1) := by omega
    have e2 : alk zs (p - (k + 1)) p 258 = Ld zs p (k + 1) := by unfold Ld; rw [show min 258 (zs.length - p) = 258 by omega]
    rw [e1, e2] at h
    exact h
  have HF : Hid ((3 ≤ (sb (Ld zs p) p).1 ∧ ib (Ld zs p) p = sb (Ld zs p) p ∧ 1 ≤ (sb (Ld zs p) p).2) ∨ ((sb (Ld zs p) p).1 < 3 ∧ ib (Ld zs p) p = (2, 0))) := sb_ib _ _
  have HV : Hid (∀ x y : Nat, ib (Ld zs p) p = (x, y) → (y = 0 ∧ mtA zs p = 0 ∧ mtB zs p = 0) ∨ (1 ≤ y ∧ mtA zs p = x ∧ mtB zs p = y)) := by
    intro x y he
    unfold mtA mtB
    rcases HF.out with ⟨h1, h2, h3⟩ | ⟨h1, h2⟩
    · rw [if_neg (by omega), if_neg (by omega), ← h2, he]
      rw [← h2, he] at h3
      exact Or.inr ⟨h3, rfl, rfl⟩
    · rw [if_pos h1, if_pos h1]
      rw [h2] at he
      injection he with _ e2
      exact Or.inl ⟨e2.symm, rfl, rfl⟩
  clear HF
  generalize mtA zs p = RA at *
  generalize mtB zs p = RB at *
  generalize Ld zs p = L at *
  have hd1 : decide ((6000 : Int) < (zs.length : Int)) = false := by simp; omega
  have hd2 : decide ((p : Int) < 0) = false := by simp
  have hd3 : decide (zs.length < p) = false := by simp; omega
  clear hc
  go_enter Tryd.func26, Tryd.ntmps26
  go_wp2
  go_loopw [7, 8, 9] (fun l d bk wr => ∃ k q : Nat, k ≤ p ∧ l = .int .i64 ((ib L k).1 : Int) ∧ d = .int .i64 ((ib L k).2 : Int) ∧ bk = .int .i64 ((k : Int) + 1) ∧ wr = w.drewN q) (fun _ _ bk _ => p + 1 - (intOf bk).toNat)
  case atStart => exact ⟨0, 0, Nat.zero_le _, rfl, rfl, rfl, rfl⟩
  case round =>
    obtain ⟨k, q, hk, rfl, rfl, rfl, rfl⟩ := hrel
    have hb1 : (ib L k).1 ≤ 258 := by have := (ib_le L 258 HL.out k).1; omega
    have hb2 : (ib L k).2 ≤ k := (ib_le L 258 HL.out k).2
    by_cases hlt : k < p
    · have hle : decide ((k : Int) + 1 ≤ (p : Int)) = true := by simp; omega
      by_cases hs : (ib L k).1 < 258
      · have hs' : ((ib L k).1 : Int) < 258 := by omega
        have HCk := HC.out k q hlt
        have HCK : Hid _ := HCk
        clear HCk
        by_cases hn : (ib L k).1 < L (k + 1)
        · have HN : Hid _ := ib_yes L k hn
          have hLn := HL.out (k + 1)
          generalize ib L k = pr at *
          generalize L (k + 1) = n at *
          obtain ⟨x, y⟩ := pr
          dsimp only at *
          go_wp2_with fail
          refine Calls.mono HCK.out ?_
          rintro e w1 ⟨rfl, q', rfl⟩
          go_wp2
          go_roundw
          case rel => exact ⟨k + 1, q + q', by omega, by rw [HN.out], by rw [HN.out]; go_num, by go_num, rfl⟩
          case measure => simp [intOf]; omega
        · have HN : Hid _ := ib_no L k hn
          have hLn := HL.out (k + 1)
          generalize hpr : ib L k = pr at *
          have HP : Hid _ := hpr
          clear hpr
          generalize L (k + 1) = n at *
          obtain ⟨x, y⟩ := pr
          dsimp only at *
          go_wp2_with fail
          refine Calls.mono HCK.out ?_
          rintro e w1 ⟨rfl, q', rfl⟩
          go_wp2
          go_roundw
          case rel => exact ⟨k + 1, q + q', by omega, by rw [HN.out], by rw [HN.out], by go_num, rfl⟩
          case measure => simp [intOf]; omega
      · have he : ib L p = ib L k := by
          have := ib_stop L 258 HL.out k (by omega) (p - k)
          rwa [show k + (p - k) = p by omega] at this
        have hv := HV.out (ib L k).1 (ib L k).2 he
        have hs2 : decide (((ib L k).1 : Int) < 258) = false := by simp; omega
        have hs3 : decide ((ib L k).1 < 258) = false := by simp; omega
        clear hs
        generalize ib L k = pr at *
        obtain ⟨x, y⟩ := pr
        dsimp only at *
        clear he
        rcases hv with ⟨rfl, rfl, rfl⟩ | ⟨h1, rfl, rfl⟩
        · go_wp2
          go_ret2
          exact ⟨rfl, _, rfl⟩
        · have h0 : ((RB : Int) == 0) = false := by rw [beq_eq_false_iff_ne]; omega
          go_wp2
          go_ret2
          exact ⟨rfl, _, rfl⟩
    · have e : k = p := by omega
      subst e
      have hv := HV.out (ib L k).1 (ib L k).2 rfl
      have hs2 : decide ((k : Int) + 1 ≤ (k : Int)) = false := by simp; omega
      generalize ib L k = pr at *
      obtain ⟨x, y⟩ := pr
      dsimp only at *
      rcases hv with ⟨rfl, rfl, rfl⟩ | ⟨h1, rfl, rfl⟩
      · go_wp2
        go_ret2
        exact ⟨rfl, _, rfl⟩
      · have h0 : ((RB : Int) == 0) = false := by rw [beq_eq_false_iff_ne]; omega
        go_wp2
        go_ret2
        exact ⟨rfl, _, rfl⟩

set_option maxHeartbeats 1000000 in
theorem imatch_B (w : World) (b off cap : Nat) (zs : List Int) (p : Nat) (hc : ∀ i, i < zs.length → w.cell? ⟨b, off + i, none⟩ = some (.int .u8 (zs.getD i 0))) (hl : zs.length ≤ 6000) (hp : p ≤ zs.length) (M : Nat) (h258 : (zs.length : Int) - (p : Int) = (M : Int)) (hM : (M : Int) < 258) :
    Calls Tryd.prog 26 #[.slice (some ⟨b, off, none⟩) zs.length cap, .int .i64 p] w fun e w' => e = .returned (.tuple #[.int .i64 (mtA zs p), .int .i64 (mtB zs p)]) ∧ ∃ q, w' = w.drewN q := by
  have HL : Hid (∀ d, Ld zs p d ≤ M) := fun d => by have := Ld_le zs p d; omega
  have HC : Hid (∀ (k q : Nat), k < p → Calls Tryd.prog 57 #[.slice (some ⟨b, off, none⟩) zs.length cap, .int .i64 ((p : Int) - ((k : Int) + 1)), .int .i64 p, .int .i64 (M : Int)] (w.drewN q) fun e w' => e = .returned (.int .i64 (Ld zs p (k + 1))) ∧ ∃ q', w' = (w.drewN q).drewN q') := by
    intro k q hk
    have h := alike_any (w.drewN q) b off cap zs (p - (k + 1)) p M hc hl (by omega) (by omega)
    have e1 : ((p - (k + 1) : Nat) : Int) = (p : Int) - ((k : Int) + 1) := by omega
    have e2 : alk zs (p - (k + 1)) p M = Ld zs p (k + 1) := by unfold Ld; rw [show min 258 (zs.length - p) = M by omega]
    rw [e1, e2] at h
    exact h
  have HF : Hid ((3 ≤ (sb (Ld zs p) p).1 ∧ ib (Ld zs p) p = sb (Ld zs p) p ∧ 1 ≤ (sb (Ld zs p) p).2) ∨ ((sb (Ld zs p) p).1 < 3 ∧ ib (Ld zs p) p = (2, 0))) := sb_ib _ _
  have HV : Hid (∀ x y : Nat, ib (Ld zs p) p = (x, y) → (y = 0 ∧ mtA zs p = 0 ∧ mtB zs p = 0) ∨ (1 ≤ y ∧ mtA zs p = x ∧ mtB zs p = y)) := by
    intro x y he
    unfold mtA mtB
    rcases HF.out with ⟨h1, h2, h3⟩ | ⟨h1, h2⟩
    · rw [if_neg (by omega), if_neg (by omega), ← h2, he]
      rw [← h2, he] at h3
      exact Or.inr ⟨h3, rfl, rfl⟩
    · rw [if_pos h1, if_pos h1]
      rw [h2] at he
      injection he with _ e2
      exact Or.inl ⟨e2.symm, rfl, rfl⟩
  clear HF
  generalize mtA zs p = RA at *
  generalize mtB zs p = RB at *
  generalize Ld zs p = L at *
  have hd1 : decide ((6000 : Int) < (zs.length : Int)) = false := by simp; omega
  have hd2 : decide ((p : Int) < 0) = false := by simp
  have hd3 : decide (zs.length < p) = false := by simp; omega
  clear hc
  go_enter Tryd.func26, Tryd.ntmps26
  go_wp2
  go_loopw [7, 8, 9] (fun l d bk wr => ∃ k q : Nat, k ≤ p ∧ l = .int .i64 ((ib L k).1 : Int) ∧ d = .int .i64 ((ib L k).2 : Int) ∧ bk = .int .i64 ((k : Int) + 1) ∧ wr = w.drewN q) (fun _ _ bk _ => p + 1 - (intOf bk).toNat)
  case atStart => exact ⟨0, 0, Nat.zero_le _, rfl, rfl, rfl, rfl⟩
  case round =>
    obtain ⟨k, q, hk, rfl, rfl, rfl, rfl⟩ := hrel
    have hb1 : (ib L k).1 ≤ 258 := by have := (ib_le L M HL.out k).1; omega
    have hb2 : (ib L k).2 ≤ k := (ib_le L M HL.out k).2
    by_cases hlt : k < p
    · have hle : decide ((k : Int) + 1 ≤ (p : Int)) = true := by simp; omega
      by_cases hs : (ib L k).1 < M
      · have hs' : ((ib L k).1 : Int) < (M : Int) := by omega
        have HCk := HC.out k q hlt
        have HCK : Hid _ := HCk
        clear HCk
        by_cases hn : (ib L k).1 < L (k + 1)
        · have HN : Hid _ := ib_yes L k hn
          have hLn := HL.out (k + 1)
          generalize ib L k = pr at *
          generalize L (k + 1) = n at *
          obtain ⟨x, y⟩ := pr
          dsimp only at *
          go_wp2_with fail
          refine Calls.mono HCK.out ?_
          rintro e w1 ⟨rfl, q', rfl⟩
          go_wp2
          go_roundw
          case rel => exact ⟨k + 1, q + q', by omega, by rw [HN.out], by rw [HN.out]; go_num, by go_num, rfl⟩
          case measure => simp [intOf]; omega
        · have HN : Hid _ := ib_no L k hn
          have hLn := HL.out (k + 1)
          generalize hpr : ib L k = pr at *
          have HP : Hid _ := hpr
          clear hpr
          generalize L (k + 1) = n at *
          obtain ⟨x, y⟩ := pr
          dsimp only at *
          go_wp2_with fail
          refine Calls.mono HCK.out ?_
          rintro e w1 ⟨rfl, q', rfl⟩
          go_wp2
          go_roundw
          case rel => exact ⟨k + 1, q + q', by omega, by rw [HN.out], by rw [HN.out], by go_num, rfl⟩
          case measure => simp [intOf]; omega
      · have he : ib L p = ib L k := by
          have := ib_stop L M HL.out k (by omega) (p - k)
          rwa [show k + (p - k) = p by omega] at this
        have hv := HV.out (ib L k).1 (ib L k).2 he
        have hs2 : decide (((ib L k).1 : Int) < (M : Int)) = false := by simp; omega
        have hs3 : decide ((ib L k).1 < M) = false := by simp; omega
        clear hs
        generalize ib L k = pr at *
        obtain ⟨x, y⟩ := pr
        dsimp only at *
        clear he
        rcases hv with ⟨rfl, rfl, rfl⟩ | ⟨h1, rfl, rfl⟩
        · go_wp2
          go_ret2
          exact ⟨rfl, _, rfl⟩
        · have h0 : ((RB : Int) == 0) = false := by rw [beq_eq_false_iff_ne]; omega
          go_wp2
          go_ret2
          exact ⟨rfl, _, rfl⟩
    · have e : k = p := by omega
      subst e
      have hv := HV.out (ib L k).1 (ib L k).2 rfl
      have hs2 : decide ((k : Int) + 1 ≤ (k : Int)) = false := by simp; omega
      generalize ib L k = pr at *
      obtain ⟨x, y⟩ := pr
      dsimp only at *
      rcases hv with ⟨rfl, rfl, rfl⟩ | ⟨h1, rfl, rfl⟩
      · go_wp2
        go_ret2
        exact ⟨rfl, _, rfl⟩
      · have h0 : ((RB : Int) == 0) = false := by rw [beq_eq_false_iff_ne]; omega
        go_wp2
        go_ret2
        exact ⟨rfl, _, rfl⟩

end Go.Proofs.YteehoihkbcbbgaaDoor
