/-
  What MatchAt and the specification's l2Match answer, for every list of at most 6000 bytes and every place in it; each theorem names its conditions.
  What the specification's l2Match answers, for every list of at most 6000 bytes and every place in it: the same as MatchAt; each theorem names its conditions.
  The bits that a block of the fixed codes has: pure facts; what putDistance and MatchAt answer. Each theorem names its conditions.
  A match that was found is one: what lies at its distance is what is there; each theorem names its conditions.
-/
import Derived.Test.YtaeicgfebeliiaaGreatDoorJAA
import Derived.Test.YtaeicgfebeliiaaGreatDoorJAD
namespace Go.Proofs.YtaeicgfebeliiaaGreatDoor
open Go.ChangeShapes Go.WideShapes Go.ChangeAt Go.RowKit
set_option linter.unusedVariables false

/-- How many numbers from a on are those from b on, at most m. -/
def alk (zs : List Int) (a b : Nat) : Nat → Nat
  | 0 => 0
  | m + 1 => if zs.getD a 0 = zs.getD b 0 then alk zs (a + 1) (b + 1) m + 1 else 0
theorem alk_le (zs : List Int) (m : Nat) : ∀ a b, alk zs a b m ≤ m := by
  induction m with
  | zero => intro a b; exact Nat.le_refl _
  | succ m ih => intro a b; unfold alk; split
                 · have := ih (a + 1) (b + 1); omega
                 · omega
theorem alk_of (zs : List Int) (m : Nat) : ∀ a b n, n ≤ m → (∀ i, i < n → zs.getD (a + i) 0 = zs.getD (b + i) 0) → (n < m → zs.getD (a + n) 0 ≠ zs.getD (b + n) 0) → alk zs a b m = n := by
  induction m with
  | zero => intro a b n h _ _; show 0 = n; omega
  | succ m ih =>
    intro a b n h he hn
    unfold alk
    cases n with
    | zero => rw [if_neg (by simpa using hn (by omega))]
    | succ n =>
      rw [if_pos (by simpa using he 0 (by omega))]
      rw [ih (a + 1) (b + 1) n (by omega) (fun i hi => by have := he (i + 1) (by omega); rw [show a + 1 + i = a + (i + 1) by omega, show b + 1 + i = b + (i + 1) by omega]; exact this)
        (fun hlt => by have := hn (by omega); rw [show a + 1 + n = a + (n + 1) by omega, show b + 1 + n = b + (n + 1) by omega]; exact this)]

/-- The longest stretch with a distance in 1..k, and the least distance of it (0 and 0 where there is none). -/
def sb (L : Nat → Nat) : Nat → Nat × Nat
  | 0 => (0, 0)
  | k + 1 => if (sb L k).1 < L (k + 1) then (L (k + 1), k + 1) else sb L k
/-- The same, of at least 3. -/
def ib (L : Nat → Nat) : Nat → Nat × Nat
  | 0 => (2, 0)
  | k + 1 => if (ib L k).1 < L (k + 1) then (L (k + 1), k + 1) else ib L k
theorem sb_ib (L : Nat → Nat) (k : Nat) : (3 ≤ (sb L k).1 ∧ ib L k = sb L k ∧ 1 ≤ (sb L k).2) ∨ ((sb L k).1 < 3 ∧ ib L k = (2, 0)) := by
  induction k with
  | zero => exact Or.inr ⟨by show 0 < 3; omega, rfl⟩
  | succ k ih =>
    unfold sb ib
    rcases ih with ⟨h1, h2, h3⟩ | ⟨h1, h2⟩
    · rw [h2]; split
      · exact Or.inl ⟨by show 3 ≤ L (k + 1); omega, rfl, by show 1 ≤ k + 1; omega⟩
      · exact Or.inl ⟨h1, rfl, h3⟩
    · rw [h2]
      by_cases h : 3 ≤ L (k + 1)
      · rw [if_pos (by omega), if_pos (by show 2 < L (k + 1); omega)]
        exact Or.inl ⟨h, rfl, by show 1 ≤ k + 1; omega⟩
      · rw [if_neg (show ¬ 2 < L (k + 1) by omega)]
        split
        · exact Or.inr ⟨by show L (k + 1) < 3; omega, rfl⟩
        · exact Or.inr ⟨h1, rfl⟩
theorem ib_stop (L : Nat → Nat) (M : Nat) (hL : ∀ d, L d ≤ M) (k : Nat) (h : M ≤ (ib L k).1) (n : Nat) : ib L (k + n) = ib L k := by
  induction n with
  | zero => rfl
  | succ n ih =>
    have e : ib L (k + n + 1) = if (ib L (k + n)).1 < L (k + n + 1) then (L (k + n + 1), k + n + 1) else ib L (k + n) := rfl
    show ib L (k + n + 1) = _
    rw [e, ih, if_neg (by have := hL (k + n + 1); omega)]
def mt (zs : List Int) (at' : Nat) : Nat × Nat :=
  let s := sb (fun d => alk zs (at' - d) at' (min 258 (zs.length - at'))) at'
  if s.1 < 3 then (0, 0) else s

set_option maxHeartbeats 1000000 in
theorem alike_any (w : World) (b off cap : Nat) (zs : List Int) (A B M : Nat) (hc : ∀ i, i < zs.length → w.cell? ⟨b, off + i, none⟩ = some (.int .u8 (zs.getD i 0))) (hl : zs.length ≤ 6000) (hAB : A ≤ B) (hM : B + M ≤ zs.length) :
    Calls Tryz.prog 97 #[.slice (some ⟨b, off, none⟩) zs.length cap, .int .i64 A, .int .i64 B, .int .i64 M] w fun e w' => e = .returned (.int .i64 (alk zs A B M)) ∧ ∃ q, w' = w.drewN q := by
  go_enter Tryz.func97, Tryz.ntmps97
  go_wp2
  go_loopw [9] (fun i wr => ∃ k q : Nat, k ≤ M ∧ i = .int .i64 k ∧ wr = w.drewN q ∧ ∀ j, j < k → zs.getD (A + j) 0 = zs.getD (B + j) 0) (fun i _ => M - (intOf i).toNat)
  case atStart => exact ⟨0, 0, Nat.zero_le _, rfl, rfl, fun j hj => absurd hj (by omega)⟩
  case round =>
    obtain ⟨k, q, hk, rfl, rfl, hall⟩ := hrel
    have HA : Hid _ := hall
    clear hall
    by_cases hlt : k < M
    · have c0 := hc (A + k) (by omega)
      have c1 := hc (B + k) (by omega)
      have hi : (k : Int) < (M : Int) := by omega
      have x0 : (A : Int) + (k : Int) < (zs.length : Int) := by omega
      have x1 : (B : Int) + (k : Int) < (zs.length : Int) := by omega
      have y0 : (0 : Int) ≤ (A : Int) + (k : Int) := by omega
      have y1 : (0 : Int) ≤ (B : Int) + (k : Int) := by omega
      by_cases he : zs.getD (A + k) 0 = zs.getD (B + k) 0
      · have HE : Hid _ := he
        have hq : (zs.getD (A + k) 0 == zs.getD (B + k) 0) = true := by rw [he]; simp
        have HN : Hid (∀ j, j < k + 1 → zs.getD (A + j) 0 = zs.getD (B + j) 0) := by
          intro j hj
          by_cases hjk : j = k
          · subst hjk; exact HE.out
          · exact HA.out j (by omega)
        clear he
        generalize zs.getD (A + k) 0 = x at *
        generalize zs.getD (B + k) 0 = y at *
        go_wp2
        go_quiet (fail)
        go_wp2
        go_roundw
        case rel => exact ⟨k + 1, _, by omega, by go_num, rfl, HN.out⟩
        case measure => simp [intOf]; omega
      · have HV : Hid (alk zs A B M = k) := alk_of zs M A B k hk HA.out (fun _ => he)
        have hq : (zs.getD (A + k) 0 == zs.getD (B + k) 0) = false := by rw [beq_eq_false_iff_ne]; exact he
        clear he
        generalize zs.getD (A + k) 0 = x at *
        generalize zs.getD (B + k) 0 = y at *
        go_wp2
        go_quiet (fail)
        go_wp2
        go_ret
        exact ⟨by rw [HV.out]; rfl, _, World.drewN_drewN _ _ _⟩
    · have HV : Hid (alk zs A B M = k) := alk_of zs M A B k hk HA.out (fun h => absurd h hlt)
      have hd : decide ((k : Int) < (M : Int)) = false := by simp; omega
      go_wp2
      go_quiet (fail)
      go_wp2
      go_ret
      exact ⟨by rw [HV.out]; rfl, _, World.drewN_drewN _ _ _⟩

/-- What is known of the longest stretch. -/
theorem sb_le (L : Nat → Nat) (M : Nat) (hL : ∀ d, L d ≤ M) (k : Nat) : (sb L k).1 ≤ M ∧ (sb L k).2 ≤ k := by
  induction k with
  | zero => exact ⟨Nat.zero_le _, Nat.zero_le _⟩
  | succ k ih =>
    unfold sb; split
    · exact ⟨hL _, Nat.le_refl _⟩
    · exact ⟨ih.1, by omega⟩
theorem ib_le (L : Nat → Nat) (M : Nat) (hL : ∀ d, L d ≤ M) (k : Nat) : (ib L k).1 ≤ max M 2 ∧ (ib L k).2 ≤ k := by
  induction k with
  | zero => exact ⟨Nat.le_max_right _ _, Nat.zero_le _⟩
  | succ k ih =>
    unfold ib; split
    · exact ⟨Nat.le_trans (hL _) (Nat.le_max_left _ _), Nat.le_refl _⟩
    · exact ⟨ih.1, by omega⟩
theorem sb_yes (L : Nat → Nat) (k : Nat) (h : (sb L k).1 < L (k + 1)) : sb L (k + 1) = (L (k + 1), k + 1) := by
  show (if (sb L k).1 < L (k + 1) then (L (k + 1), k + 1) else sb L k) = _; rw [if_pos h]
theorem sb_no (L : Nat → Nat) (k : Nat) (h : ¬ (sb L k).1 < L (k + 1)) : sb L (k + 1) = sb L k := by
  show (if (sb L k).1 < L (k + 1) then (L (k + 1), k + 1) else sb L k) = _; rw [if_neg h]
theorem ib_yes (L : Nat → Nat) (k : Nat) (h : (ib L k).1 < L (k + 1)) : ib L (k + 1) = (L (k + 1), k + 1) := by
  show (if (ib L k).1 < L (k + 1) then (L (k + 1), k + 1) else ib L k) = _; rw [if_pos h]
theorem ib_no (L : Nat → Nat) (k : Nat) (h : ¬ (ib L k).1 < L (k + 1)) : ib L (k + 1) = ib L k := by
  show (if (ib L k).1 < L (k + 1) then (L (k + 1), k + 1) else ib L k) = _; rw [if_neg h]

/-- The stretch at the distance d. -/
def Ld (zs : List Int) (p d : Nat) : Nat := alk zs (p - d) p (min 258 (zs.length - p))
theorem Ld_le (zs : List Int) (p d : Nat) : Ld zs p d ≤ min 258 (zs.length - p) := alk_le _ _ _ _
def mtA (zs : List Int) (p : Nat) : Nat := if (sb (Ld zs p) p).1 < 3 then 0 else (sb (Ld zs p) p).1
def mtB (zs : List Int) (p : Nat) : Nat := if (sb (Ld zs p) p).1 < 3 then 0 else (sb (Ld zs p) p).2

set_option maxHeartbeats 1000000 in
theorem imatch_A (w : World) (b off cap : Nat) (zs : List Int) (p : Nat) (hc : ∀ i, i < zs.length → w.cell? ⟨b, off + i, none⟩ = some (.int .u8 (zs.getD i 0))) (hl : zs.length ≤ 6000) (hp : p ≤ zs.length) (h258 : (258 : Int) ≤ (zs.length : Int) - (p : Int)) :
    Calls Tryz.prog 81 #[.slice (some ⟨b, off, none⟩) zs.length cap, .int .i64 p] w fun e w' => e = .returned (.tuple #[.int .i64 (mtA zs p), .int .i64 (mtB zs p)]) ∧ ∃ q, w' = w.drewN q := by
  have HL : Hid (∀ d, Ld zs p d ≤ 258) := fun d => by have := Ld_le zs p d; omega
  have HC : Hid (∀ (k q : Nat), k < p → Calls Tryz.prog 97 #[.slice (some ⟨b, off, none⟩) zs.length cap, .int .i64 ((p : Int) - ((k : Int) + 1)), .int .i64 p, .int .i64 258] (w.drewN q) fun e w' => e = .returned (.int .i64 (Ld zs p (k + 1))) ∧ ∃ q', w' = (w.drewN q).drewN q') := by
    intro k q hk
    have h := alike_any (w.drewN q) b off cap zs (p - (k + 1)) p 258 hc hl (by omega) (by omega)
    have e1 : ((p - (k + 1) : Nat) : Int) = (p : Int) - ((k : Int) + 1) := by omega
    have e2 : alk zs (p - (k + 1)) p 258 = Ld zs p (k + 1) := by unfold Ld; rw [show min 258 (zs.length - p) = 258 by omega]
    rw [e1, e2] at h
    exact h
  have HF : Hid ((3 ≤ (sb (Ld zs p) p).1 ∧ ib (Ld zs p) p = sb (Ld zs p) p ∧ 1 ≤ (sb (Ld zs p) p).2) ∨ ((sb (Ld zs p) p).1 < 3 ∧ ib (Ld zs p) p = (2, 0))) := sb_ib _ _
  have HV : Hid (∀ x y : Nat, ib (Ld zs p) p = (x, y) → (y = 0 ∧ mtA zs p = 0 ∧ mtB zs p = 0) ∨ (1 ≤ y ∧ mtA zs p = x ∧ mtB zs p = y)) := by
    intro x y he
    unfold mtA mtB
    rcases HF.out with ⟨h1, h2, h3⟩ | ⟨h1, h2⟩
    · rw [if_neg (by omega), if_neg (by omega), ← h2, he]
      rw [← h2, he] at h3
      exact Or.inr ⟨h3, rfl, rfl⟩
    · rw [if_pos h1, if_pos h1]
      rw [h2] at he
      injection he with _ e2
      exact Or.inl ⟨e2.symm, rfl, rfl⟩
  clear HF
  generalize mtA zs p = RA at *
  generalize mtB zs p = RB at *
  generalize Ld zs p = L at *
  have hd1 : decide ((6000 : Int) < (zs.length : Int)) = false := by simp; omega
  have hd2 : decide ((p : Int) < 0) = false := by simp
  have hd3 : decide (zs.length < p) = false := by simp; omega
  clear hc
  go_enter Tryz.func81, Tryz.ntmps81
  go_wp2
  go_loopw [7, 8, 9] (fun l d bk wr => ∃ k q : Nat, k ≤ p ∧ l = .int .i64 ((ib L k).1 : Int) ∧ d = .int .i64 ((ib L k).2 : Int) ∧ bk = .int .i64 ((k : Int) + 1) ∧ wr = w.drewN q) (fun _ _ bk _ => p + 1 - (intOf bk).toNat)
  case atStart => exact ⟨0, 0, Nat.zero_le _, rfl, rfl, rfl, rfl⟩
  case round =>
    obtain ⟨k, q, hk, rfl, rfl, rfl, rfl⟩ := hrel
    have hb1 : (ib L k).1 ≤ 258 := by have := (ib_le L 258 HL.out k).1; omega
    have hb2 : (ib L k).2 ≤ k := (ib_le L 258 HL.out k).2
    by_cases hlt : k < p
    · have hle : decide ((k : Int) + 1 ≤ (p : Int)) = true := by simp; omega
      by_cases hs : (ib L k).1 < 258
      · have hs' : ((ib L k).1 : Int) < 258 := by omega
        have HCk := HC.out k q hlt
        have HCK : Hid _ := HCk
        clear HCk
        by_cases hn : (ib L k).1 < L (k + 1)
        · have HN : Hid _ := ib_yes L k hn
          have hLn := HL.out (k + 1)
          generalize ib L k = pr at *
          generalize L (k + 1) = n at *
          obtain ⟨x, y⟩ := pr
          dsimp only at *
          go_wp2_with fail
          refine Calls.mono HCK.out ?_
          rintro e w1 ⟨rfl, q', rfl⟩
          go_wp2
          go_roundw
          case rel => exact ⟨k + 1, q + q', by omega, by rw [HN.out], by rw [HN.out]; go_num, by go_num, rfl⟩
          case measure => simp [intOf]; omega
        · have HN : Hid _ := ib_no L k hn
          have hLn := HL.out (k + 1)
          generalize hpr : ib L k = pr at *
          have HP : Hid _ := hpr
          clear hpr
          generalize L (k + 1) = n at *
          obtain ⟨x, y⟩ := pr
          dsimp only at *
          go_wp2_with fail
          refine Calls.mono HCK.out ?_
          rintro e w1 ⟨rfl, q', rfl⟩
          go_wp2
          go_roundw
          case rel => exact ⟨k + 1, q + q', by omega, by rw [HN.out], by rw [HN.out], by go_num, rfl⟩
          case measure => simp [intOf]; omega
      · have he : ib L p = ib L k := by
          have := ib_stop L 258 HL.out k (by omega) (p - k)
          rwa [show k + (p - k) = p by omega] at this
        have hv := HV.out (ib L k).1 (ib L k).2 he
        have hs2 : decide (((ib L k).1 : Int) < 258) = false := by simp; omega
        have hs3 : decide ((ib L k).1 < 258) = false := by simp; omega
        clear hs
        generalize ib L k = pr at *
        obtain ⟨x, y⟩ := pr
        dsimp only at *
        clear he
        rcases hv with ⟨rfl, rfl, rfl⟩ | ⟨h1, rfl, rfl⟩
        · go_wp2
          go_ret2
          exact ⟨rfl, _, rfl⟩
        · have h0 : ((RB : Int) == 0) = false := by rw [beq_eq_false_iff_ne]; omega
          go_wp2
          go_ret2
          exact ⟨rfl, _, rfl⟩
    · have e : k = p := by omega
      subst e
      have hv := HV.out (ib L k).1 (ib L k).2 rfl
      have hs2 : decide ((k : Int) + 1 ≤ (k : Int)) = false := by simp; omega
      generalize ib L k = pr at *
      obtain ⟨x, y⟩ := pr
      dsimp only at *
      rcases hv with ⟨rfl, rfl, rfl⟩ | ⟨h1, rfl, rfl⟩
      · go_wp2
        go_ret2
        exact ⟨rfl, _, rfl⟩
      · have h0 : ((RB : Int) == 0) = false := by rw [beq_eq_false_iff_ne]; omega
        go_wp2
        go_ret2
        exact ⟨rfl, _, rfl⟩

set_option maxHeartbeats 1000000 in
theorem imatch_B (w : World) (b off cap : Nat) (zs : List Int) (p : Nat) (hc : ∀ i, i < zs.length → w.cell? ⟨b, off + i, none⟩ = some (.int .u8 (zs.getD i 0))) (hl : zs.length ≤ 6000) (hp : p ≤ zs.length) (M : Nat) (h258 : (zs.length : Int) - (p : Int) = (M : Int)) (hM : (M : Int) < 258) :
    Calls Tryz.prog 81 #[.slice (some ⟨b, off, none⟩) zs.length cap, .int .i64 p] w fun e w' => e = .returned (.tuple #[.int .i64 (mtA zs p), .int .i64 (mtB zs p)]) ∧ ∃ q, w' = w.drewN q := by
  have HL : Hid (∀ d, Ld zs p d ≤ M) := fun d => by have := Ld_le zs p d; omega
  have HC : Hid (∀ (k q : Nat), k < p → Calls Tryz.prog 97 #[.slice (some ⟨b, off, none⟩) zs.length cap, .int .i64 ((p : Int) - ((k : Int) + 1)), .int .i64 p, .int .i64 (M : Int)] (w.drewN q) fun e w' => e = .returned (.int .i64 (Ld zs p (k + 1))) ∧ ∃ q', w' = (w.drewN q).drewN q') := by
    intro k q hk
    have h := alike_any (w.drewN q) b off cap zs (p - (k + 1)) p M hc hl (by omega) (by omega)
    have e1 : ((p - (k + 1) : Nat) : Int) = (p : Int) - ((k : Int) + 1) := by omega
    have e2 : alk zs (p - (k + 1)) p M = Ld zs p (k + 1) := by unfold Ld; rw [show min 258 (zs.length - p) = M by omega]
    rw [e1, e2] at h
    exact h
  have HF : Hid ((3 ≤ (sb (Ld zs p) p).1 ∧ ib (Ld zs p) p = sb (Ld zs p) p ∧ 1 ≤ (sb (Ld zs p) p).2) ∨ ((sb (Ld zs p) p).1 < 3 ∧ ib (Ld zs p) p = (2, 0))) := sb_ib _ _
  have HV : Hid (∀ x y : Nat, ib (Ld zs p) p = (x, y) → (y = 0 ∧ mtA zs p = 0 ∧ mtB zs p = 0) ∨ (1 ≤ y ∧ mtA zs p = x ∧ mtB zs p = y)) := by
    intro x y he
    unfold mtA mtB
    rcases HF.out with ⟨h1, h2, h3⟩ | ⟨h1, h2⟩
    · rw [if_neg (by omega), if_neg (by omega), ← h2, he]
      rw [← h2, he] at h3
      exact Or.inr ⟨h3, rfl, rfl⟩
    · rw [if_pos h1, if_pos h1]
      rw [h2] at he
      injection he with _ e2
      exact Or.inl ⟨e2.symm, rfl, rfl⟩
  clear HF
  generalize mtA zs p = RA at *
  generalize mtB zs p = RB at *
  generalize Ld zs p = L at *
  have hd1 : decide ((6000 : Int) < (zs.length : Int)) = false := by simp; omega
  have hd2 : decide ((p : Int) < 0) = false := by simp
  have hd3 : decide (zs.length < p) = false := by simp; omega
  clear hc
  go_enter Tryz.func81, Tryz.ntmps81
  go_wp2
  go_loopw [7, 8, 9] (fun l d bk wr => ∃ k q : Nat, k ≤ p ∧ l = .int .i64 ((ib L k).1 : Int) ∧ d = .int .i64 ((ib L k).2 : Int) ∧ bk = .int .i64 ((k : Int) + 1) ∧ wr = w.drewN q) (fun _ _ bk _ => p + 1 - (intOf bk).toNat)
  case atStart => exact ⟨0, 0, Nat.zero_le _, rfl, rfl, rfl, rfl⟩
  case round =>
    obtain ⟨k, q, hk, rfl, rfl, rfl, rfl⟩ := hrel
    have hb1 : (ib L k).1 ≤ 258 := by have := (ib_le L M HL.out k).1; omega
    have hb2 : (ib L k).2 ≤ k := (ib_le L M HL.out k).2
    by_cases hlt : k < p
    · have hle : decide ((k : Int) + 1 ≤ (p : Int)) = true := by simp; omega
      by_cases hs : (ib L k).1 < M
      · have hs' : ((ib L k).1 : Int) < (M : Int) := by omega
        have HCk := HC.out k q hlt
        have HCK : Hid _ := HCk
        clear HCk
        by_cases hn : (ib L k).1 < L (k + 1)
        · have HN : Hid _ := ib_yes L k hn
          have hLn := HL.out (k + 1)
          generalize ib L k = pr at *
          generalize L (k + 1) = n at *
          obtain ⟨x, y⟩ := pr
          dsimp only at *
          go_wp2_with fail
          refine Calls.mono HCK.out ?_
          rintro e w1 ⟨rfl, q', rfl⟩
          go_wp2
          go_roundw
          case rel => exact ⟨k + 1, q + q', by omega, by rw [HN.out], by rw [HN.out]; go_num, by go_num, rfl⟩
          case measure => simp [intOf]; omega
        · have HN : Hid _ := ib_no L k hn
          have hLn := HL.out (k + 1)
          generalize hpr : ib L k = pr at *
          have HP : Hid _ := hpr
          clear hpr
          generalize L (k + 1) = n at *
          obtain ⟨x, y⟩ := pr
          dsimp only at *
          go_wp2_with fail
          refine Calls.mono HCK.out ?_
          rintro e w1 ⟨rfl, q', rfl⟩
          go_wp2
          go_roundw
          case rel => exact ⟨k + 1, q + q', by omega, by rw [HN.out], by rw [HN.out], by go_num, rfl⟩
          case measure => simp [intOf]; omega
      · have he : ib L p = ib L k := by
          have := ib_stop L M HL.out k (by omega) (p - k)
          rwa [show k + (p - k) = p by omega] at this
        have hv := HV.out (ib L k).1 (ib L k).2 he
        have hs2 : decide (((ib L k).1 : Int) < (M : Int)) = false := by simp; omega
        have hs3 : decide ((ib L k).1 < M) = false := by simp; omega
        clear hs
        generalize ib L k = pr at *
        obtain ⟨x, y⟩ := pr
        dsimp only at *
        clear he
        rcases hv with ⟨rfl, rfl, rfl⟩ | ⟨h1, rfl, rfl⟩
        · go_wp2
          go_ret2
          exact ⟨rfl, _, rfl⟩
        · have h0 : ((RB : Int) == 0) = false := by rw [beq_eq_false_iff_ne]; omega
          go_wp2
          go_ret2
          exact ⟨rfl, _, rfl⟩
    · have e : k = p := by omega
      subst e
      have hv := HV.out (ib L k).1 (ib L k).2 rfl
      have hs2 : decide ((k : Int) + 1 ≤ (k : Int)) = false := by simp; omega
      generalize ib L k = pr at *
      obtain ⟨x, y⟩ := pr
      dsimp only at *
      rcases hv with ⟨rfl, rfl, rfl⟩ | ⟨h1, rfl, rfl⟩
      · go_wp2
        go_ret2
        exact ⟨rfl, _, rfl⟩
      · have h0 : ((RB : Int) == 0) = false := by rw [beq_eq_false_iff_ne]; omega
        go_wp2
        go_ret2
        exact ⟨rfl, _, rfl⟩

end Go.Proofs.YtaeicgfebeliiaaGreatDoor
namespace Go.Proofs.YtaeicgfebeliiaaGreatDoor
open Go.ChangeShapes Go.WideShapes Go.ChangeAt Go.RowKit
set_option linter.unusedVariables false

theorem wrap_in (x : Int) (h1 : -9223372036854775808 ≤ x) (h2 : x ≤ 9223372036854775807) : IntKind.i64.wrap x = x := by
  rw [IntKind.wrap_i64]; omega

set_option maxHeartbeats 2000000 in
theorem smatch_A (w : World) (b off cap : Nat) (zs : List Int) (p : Nat) (hc : ∀ i, i < zs.length → w.cell? ⟨b, off + i, none⟩ = some (.int .u8 (zs.getD i 0))) (hl : zs.length ≤ 6000) (hp : p ≤ zs.length) (h258 : (258 : Int) ≤ (zs.length : Int) - (p : Int)) :
    Calls Tryz.prog 102 #[.slice (some ⟨b, off, none⟩) zs.length cap, .int .i64 p] w fun e w' => e = .returned (.tuple #[.int .i64 (mtA zs p), .int .i64 (mtB zs p)]) ∧ ∃ q, w' = w.drewN q := by
  have HL : Hid (∀ d, Ld zs p d ≤ 258) := fun d => by have := Ld_le zs p d; omega
  have HE : Hid (∀ k j : Nat, k < p → j ≤ 258 → (∀ i, i < j → zs.getD (p - (k + 1) + i) 0 = zs.getD (p + i) 0) → (j < 258 → zs.getD (p - (k + 1) + j) 0 ≠ zs.getD (p + j) 0) → Ld zs p (k + 1) = j) := by
    intro k j hk hj h1 h2
    unfold Ld
    rw [show min 258 (zs.length - p) = 258 by omega]
    exact alk_of zs 258 _ _ j hj h1 h2
  have HV : Hid (∀ x y : Nat, sb (Ld zs p) p = (x, y) → (x < 3 ∧ mtA zs p = 0 ∧ mtB zs p = 0) ∨ (3 ≤ x ∧ mtA zs p = x ∧ mtB zs p = y)) := by
    intro x y he
    unfold mtA mtB
    rw [he]
    by_cases h : x < 3
    · rw [if_pos h, if_pos h]; exact Or.inl ⟨h, rfl, rfl⟩
    · rw [if_neg h, if_neg h]; exact Or.inr ⟨by omega, rfl, rfl⟩
  generalize mtA zs p = RA at *
  generalize mtB zs p = RB at *
  generalize Ld zs p = L at *
  have HCc : Hid _ := hc
  clear hc
  go_enter Tryz.func102, Tryz.ntmps102
  go_wp2
  go_loopw [6, 7, 8] (fun l d bk wr => ∃ k q : Nat, k ≤ p ∧ l = .int .i64 ((sb L k).1 : Int) ∧ d = .int .i64 ((sb L k).2 : Int) ∧ bk = .int .i64 ((k : Int) + 1) ∧ wr = w.drewN q) (fun _ _ bk _ => p + 1 - (intOf bk).toNat)
  case atStart => exact ⟨0, 0, Nat.zero_le _, rfl, rfl, rfl, rfl⟩
  case round =>
    obtain ⟨k, q, hk, rfl, rfl, rfl, rfl⟩ := hrel
    have hb1 : (sb L k).1 ≤ 258 := by have := (sb_le L 258 HL.out k).1; omega
    have hb2 : (sb L k).2 ≤ k := (sb_le L 258 HL.out k).2
    by_cases hlt : k < p
    · have hle : decide ((k : Int) + 1 ≤ (p : Int)) = true := by simp; omega
      go_wp2
      go_loopw [9] (fun i wr => ∃ j q' : Nat, j ≤ 258 ∧ i = .int .i64 j ∧ wr = w.drewN q' ∧ ∀ m, m < j → zs.getD (p - (k + 1) + m) 0 = zs.getD (p + m) 0) (fun i _ => 258 - (intOf i).toNat)
      case atStart => exact ⟨0, q, Nat.zero_le _, rfl, rfl, fun m hm => absurd hm (by omega)⟩
      case round =>
        obtain ⟨j, q', hj, rfl, rfl, hall⟩ := hrel
        have HA : Hid _ := hall
        clear hall
        by_cases hjM : j < 258
        · have c0 := HCc.out (p + j) (by omega)
          have c1 := HCc.out (p - (k + 1) + j) (by omega)
          have e0 : off + (p + j) = off + ((p : Int) + (j : Int)).toNat := by omega
          have c0' := c0
          rw [e0] at c0
          have g0 : (j : Int) < 258 := by omega
          have x0 : (p : Int) + (j : Int) < (zs.length : Int) := by omega
          have y0 : (0 : Int) ≤ (p : Int) + (j : Int) := by omega
          have d1 : decide ((j : Int) < 258) = true := by simp; omega
          have hw := wrap_in ((p : Int) + (j : Int)) (by omega) (by omega)
          have hI : (p : Int) + (j : Int) - ((k : Int) + 1) = ((p - (k + 1) + j : Nat) : Int) := by omega
          have hI2 : p - (k + 1) + j < zs.length := by omega
          have hw2 := wrap_in ((p - (k + 1) + j : Nat) : Int) (by omega) (by omega)
          have d2 : decide ((p : Int) + (j : Int) < (zs.length : Int)) = true := by simp; omega
          by_cases he : zs.getD (p - (k + 1) + j) 0 = zs.getD (p + j) 0
          · have HQ : Hid _ := he
            have hq : (zs.getD (p + j) 0 == zs.getD (p - (k + 1) + j) 0) = true := by rw [he]; simp
            have HN : Hid (∀ m, m < j + 1 → zs.getD (p - (k + 1) + m) 0 = zs.getD (p + m) 0) := by
              intro m hm
              by_cases hmj : m = j
              · subst hmj; exact HQ.out
              · exact HA.out m (by omega)
            clear he
            generalize zs.getD (p - (k + 1) + j) 0 = x at *
            generalize p - (k + 1) + j = I at *
            generalize zs.getD (p + j) 0 = y at *
            go_wp2
            go_quiet (fail)
            go_wp2
            go_roundw
            case rel => exact ⟨j + 1, _, by omega, by go_num, rfl, HN.out⟩
            case measure => simp [intOf]; omega
          · have HVk : Hid (L (k + 1) = j) := HE.out k j hlt hj HA.out (fun _ => he)
            have HSN := True.intro
            have hq : (zs.getD (p + j) 0 == zs.getD (p - (k + 1) + j) 0) = false := by rw [beq_eq_false_iff_ne]; exact fun h => he h.symm
            clear he
            generalize zs.getD (p - (k + 1) + j) 0 = x' at *
            generalize p - (k + 1) + j = I at *
            generalize zs.getD (p + j) 0 = y' at *
            have hsn := HSN
            by_cases hn : (sb L k).1 < L (k + 1)
            · have HN : Hid _ := sb_yes L k hn
              rw [HVk.out] at hn HN
              generalize hpr : sb L k = pr at *
              have HP : Hid _ := hpr
              clear hpr
              obtain ⟨x, y⟩ := pr
              dsimp only at *
              have hnd : decide ((x : Int) < (j : Int)) = true := by simp; omega
              go_wp2
              go_quiet (fail)
              go_wp2
              go_roundw
              case rel => exact ⟨k + 1, _, by omega, by rw [HN.out], by rw [HN.out]; go_num, by go_num, rfl⟩
              case measure => simp [intOf]; omega
            · have HN : Hid _ := sb_no L k hn
              rw [HVk.out] at hn
              generalize hpr : sb L k = pr at *
              have HP : Hid _ := hpr
              clear hpr
              obtain ⟨x, y⟩ := pr
              dsimp only at *
              have hnd : decide ((x : Int) < (j : Int)) = false := by simp; omega
              have hnd2 : decide (x < j) = false := by simp; omega
              go_wp2
              go_quiet (fail)
              go_wp2
              go_roundw
              case rel => exact ⟨k + 1, _, by omega, by rw [HN.out], by rw [HN.out], by go_num, rfl⟩
              case measure => simp [intOf]; omega
        · have HVk : Hid (L (k + 1) = j) := HE.out k j hlt hj HA.out (fun h => absurd h hjM)
          have HSN := True.intro
          have e : j = 258 := by omega
          subst e
          clear hj hjM
          have hsn := HSN
          by_cases hn : (sb L k).1 < L (k + 1)
          · have HN : Hid _ := sb_yes L k hn
            rw [HVk.out] at hn HN
            generalize hpr : sb L k = pr at *
            have HP : Hid _ := hpr
            clear hpr
            obtain ⟨x, y⟩ := pr
            dsimp only at *
            have hnd : decide ((x : Int) < (258 : Int)) = true := by simp; omega
            go_wp2
            go_quiet (fail)
            go_wp2
            go_roundw
            case rel => exact ⟨k + 1, _, by omega, by rw [HN.out], by rw [HN.out]; go_num, by go_num, rfl⟩
            case measure => simp [intOf]; omega
          · have HN : Hid _ := sb_no L k hn
            rw [HVk.out] at hn
            generalize hpr : sb L k = pr at *
            have HP : Hid _ := hpr
            clear hpr
            obtain ⟨x, y⟩ := pr
            dsimp only at *
            have hnd : decide ((x : Int) < (258 : Int)) = false := by simp; omega
            have hnd2 : decide (x < 258) = false := by simp; omega
            go_wp2
            go_quiet (fail)
            go_wp2
            go_roundw
            case rel => exact ⟨k + 1, _, by omega, by rw [HN.out], by rw [HN.out], by go_num, rfl⟩
            case measure => simp [intOf]; omega
    · have e : k = p := by omega
      subst e
      have hv := HV.out (sb L k).1 (sb L k).2 rfl
      have hs2 : decide ((k : Int) + 1 ≤ (k : Int)) = false := by simp; omega
      generalize sb L k = pr at *
      obtain ⟨x, y⟩ := pr
      dsimp only at *
      rcases hv with ⟨h3, rfl, rfl⟩ | ⟨h1, rfl, rfl⟩
      · have h4 : decide ((x : Int) < 3) = true := by simp; omega
        go_wp2
        go_ret2
        exact ⟨rfl, _, rfl⟩
      · have h4 : decide ((RA : Int) < 3) = false := by simp; omega
        go_wp2
        go_ret2
        exact ⟨rfl, _, rfl⟩

set_option maxHeartbeats 2000000 in
theorem smatch_B (w : World) (b off cap : Nat) (zs : List Int) (p : Nat) (hc : ∀ i, i < zs.length → w.cell? ⟨b, off + i, none⟩ = some (.int .u8 (zs.getD i 0))) (hl : zs.length ≤ 6000) (hp : p ≤ zs.length) (M : Nat) (h258 : (zs.length : Int) - (p : Int) = (M : Int)) (hM : (M : Int) < 258) :
    Calls Tryz.prog 102 #[.slice (some ⟨b, off, none⟩) zs.length cap, .int .i64 p] w fun e w' => e = .returned (.tuple #[.int .i64 (mtA zs p), .int .i64 (mtB zs p)]) ∧ ∃ q, w' = w.drewN q := by
  have HL : Hid (∀ d, Ld zs p d ≤ M) := fun d => by have := Ld_le zs p d; omega
  have HE : Hid (∀ k j : Nat, k < p → j ≤ M → (∀ i, i < j → zs.getD (p - (k + 1) + i) 0 = zs.getD (p + i) 0) → (j < M → zs.getD (p - (k + 1) + j) 0 ≠ zs.getD (p + j) 0) → Ld zs p (k + 1) = j) := by
    intro k j hk hj h1 h2
    unfold Ld
    rw [show min 258 (zs.length - p) = M by omega]
    exact alk_of zs M _ _ j hj h1 h2
  have HV : Hid (∀ x y : Nat, sb (Ld zs p) p = (x, y) → (x < 3 ∧ mtA zs p = 0 ∧ mtB zs p = 0) ∨ (3 ≤ x ∧ mtA zs p = x ∧ mtB zs p = y)) := by
    intro x y he
    unfold mtA mtB
    rw [he]
    by_cases h : x < 3
    · rw [if_pos h, if_pos h]; exact Or.inl ⟨h, rfl, rfl⟩
    · rw [if_neg h, if_neg h]; exact Or.inr ⟨by omega, rfl, rfl⟩
  generalize mtA zs p = RA at *
  generalize mtB zs p = RB at *
  generalize Ld zs p = L at *
  have HCc : Hid _ := hc
  clear hc
  go_enter Tryz.func102, Tryz.ntmps102
  go_wp2
  go_loopw [6, 7, 8] (fun l d bk wr => ∃ k q : Nat, k ≤ p ∧ l = .int .i64 ((sb L k).1 : Int) ∧ d = .int .i64 ((sb L k).2 : Int) ∧ bk = .int .i64 ((k : Int) + 1) ∧ wr = w.drewN q) (fun _ _ bk _ => p + 1 - (intOf bk).toNat)
  case atStart => exact ⟨0, 0, Nat.zero_le _, rfl, rfl, rfl, rfl⟩
  case round =>
    obtain ⟨k, q, hk, rfl, rfl, rfl, rfl⟩ := hrel
    have hb1 : (sb L k).1 ≤ 258 := by have := (sb_le L M HL.out k).1; omega
    have hb2 : (sb L k).2 ≤ k := (sb_le L M HL.out k).2
    by_cases hlt : k < p
    · have hle : decide ((k : Int) + 1 ≤ (p : Int)) = true := by simp; omega
      go_wp2
      go_loopw [9] (fun i wr => ∃ j q' : Nat, j ≤ M ∧ i = .int .i64 j ∧ wr = w.drewN q' ∧ ∀ m, m < j → zs.getD (p - (k + 1) + m) 0 = zs.getD (p + m) 0) (fun i _ => M - (intOf i).toNat)
      case atStart => exact ⟨0, q, Nat.zero_le _, rfl, rfl, fun m hm => absurd hm (by omega)⟩
      case round =>
        obtain ⟨j, q', hj, rfl, rfl, hall⟩ := hrel
        have HA : Hid _ := hall
        clear hall
        by_cases hjM : j < M
        · have c0 := HCc.out (p + j) (by omega)
          have c1 := HCc.out (p - (k + 1) + j) (by omega)
          have e0 : off + (p + j) = off + ((p : Int) + (j : Int)).toNat := by omega
          have c0' := c0
          rw [e0] at c0
          have g0 : (j : Int) < 258 := by omega
          have x0 : (p : Int) + (j : Int) < (zs.length : Int) := by omega
          have y0 : (0 : Int) ≤ (p : Int) + (j : Int) := by omega
          have d1 : decide ((j : Int) < 258) = true := by simp; omega
          have hw := wrap_in ((p : Int) + (j : Int)) (by omega) (by omega)
          have hI : (p : Int) + (j : Int) - ((k : Int) + 1) = ((p - (k + 1) + j : Nat) : Int) := by omega
          have hI2 : p - (k + 1) + j < zs.length := by omega
          have hw2 := wrap_in ((p - (k + 1) + j : Nat) : Int) (by omega) (by omega)
          have d2 : decide ((p : Int) + (j : Int) < (zs.length : Int)) = true := by simp; omega
          by_cases he : zs.getD (p - (k + 1) + j) 0 = zs.getD (p + j) 0
          · have HQ : Hid _ := he
            have hq : (zs.getD (p + j) 0 == zs.getD (p - (k + 1) + j) 0) = true := by rw [he]; simp
            have HN : Hid (∀ m, m < j + 1 → zs.getD (p - (k + 1) + m) 0 = zs.getD (p + m) 0) := by
              intro m hm
              by_cases hmj : m = j
              · subst hmj; exact HQ.out
              · exact HA.out m (by omega)
            clear he
            generalize zs.getD (p - (k + 1) + j) 0 = x at *
            generalize p - (k + 1) + j = I at *
            generalize zs.getD (p + j) 0 = y at *
            go_wp2
            go_quiet (fail)
            go_wp2
            go_roundw
            case rel => exact ⟨j + 1, _, by omega, by go_num, rfl, HN.out⟩
            case measure => simp [intOf]; omega
          · have HVk : Hid (L (k + 1) = j) := HE.out k j hlt hj HA.out (fun _ => he)
            have HSN := True.intro
            have hq : (zs.getD (p + j) 0 == zs.getD (p - (k + 1) + j) 0) = false := by rw [beq_eq_false_iff_ne]; exact fun h => he h.symm
            clear he
            generalize zs.getD (p - (k + 1) + j) 0 = x' at *
            generalize p - (k + 1) + j = I at *
            generalize zs.getD (p + j) 0 = y' at *
            have hsn := HSN
            by_cases hn : (sb L k).1 < L (k + 1)
            · have HN : Hid _ := sb_yes L k hn
              rw [HVk.out] at hn HN
              generalize hpr : sb L k = pr at *
              have HP : Hid _ := hpr
              clear hpr
              obtain ⟨x, y⟩ := pr
              dsimp only at *
              have hnd : decide ((x : Int) < (j : Int)) = true := by simp; omega
              go_wp2
              go_quiet (fail)
              go_wp2
              go_roundw
              case rel => exact ⟨k + 1, _, by omega, by rw [HN.out], by rw [HN.out]; go_num, by go_num, rfl⟩
              case measure => simp [intOf]; omega
            · have HN : Hid _ := sb_no L k hn
              rw [HVk.out] at hn
              generalize hpr : sb L k = pr at *
              have HP : Hid _ := hpr
              clear hpr
              obtain ⟨x, y⟩ := pr
              dsimp only at *
              have hnd : decide ((x : Int) < (j : Int)) = false := by simp; omega
              have hnd2 : decide (x < j) = false := by simp; omega
              go_wp2
              go_quiet (fail)
              go_wp2
              go_roundw
              case rel => exact ⟨k + 1, _, by omega, by rw [HN.out], by rw [HN.out], by go_num, rfl⟩
              case measure => simp [intOf]; omega
        · have HVk : Hid (L (k + 1) = j) := HE.out k j hlt hj HA.out (fun h => absurd h hjM)
          have HSN := True.intro
          have e : j = M := by omega
          subst e
          have hw := wrap_in ((p : Int) + (j : Int)) (by omega) (by omega)
          have g0 : (j : Int) < 258 := by omega
          have d1 : decide ((j : Int) < 258) = true := by simp; omega
          have d2 : decide ((p : Int) + (j : Int) < (zs.length : Int)) = false := by simp; omega
          have hsn := HSN
          by_cases hn : (sb L k).1 < L (k + 1)
          · have HN : Hid _ := sb_yes L k hn
            rw [HVk.out] at hn HN
            generalize hpr : sb L k = pr at *
            have HP : Hid _ := hpr
            clear hpr
            obtain ⟨x, y⟩ := pr
            dsimp only at *
            have hnd : decide ((x : Int) < (j : Int)) = true := by simp; omega
            go_wp2
            go_quiet (fail)
            go_wp2
            go_roundw
            case rel => exact ⟨k + 1, _, by omega, by rw [HN.out], by rw [HN.out]; go_num, by go_num, rfl⟩
            case measure => simp [intOf]; omega
          · have HN : Hid _ := sb_no L k hn
            rw [HVk.out] at hn
            generalize hpr : sb L k = pr at *
            have HP : Hid _ := hpr
            clear hpr
            obtain ⟨x, y⟩ := pr
            dsimp only at *
            have hnd : decide ((x : Int) < (j : Int)) = false := by simp; omega
            have hnd2 : decide (x < j) = false := by simp; omega
            go_wp2
            go_quiet (fail)
            go_wp2
            go_roundw
            case rel => exact ⟨k + 1, _, by omega, by rw [HN.out], by rw [HN.out], by go_num, rfl⟩
            case measure => simp [intOf]; omega
    · have e : k = p := by omega
      subst e
      have hv := HV.out (sb L k).1 (sb L k).2 rfl
      have hs2 : decide ((k : Int) + 1 ≤ (k : Int)) = false := by simp; omega
      generalize sb L k = pr at *
      obtain ⟨x, y⟩ := pr
      dsimp only at *
      rcases hv with ⟨h3, rfl, rfl⟩ | ⟨h1, rfl, rfl⟩
      · have h4 : decide ((x : Int) < 3) = true := by simp; omega
        go_wp2
        go_ret2
        exact ⟨rfl, _, rfl⟩
      · have h4 : decide ((RA : Int) < 3) = false := by simp; omega
        go_wp2
        go_ret2
        exact ⟨rfl, _, rfl⟩

end Go.Proofs.YtaeicgfebeliiaaGreatDoor
namespace Go.Proofs.YtaeicgfebeliiaaGreatDoor
open Go.ChangeShapes Go.WideShapes Go.ChangeAt Go.RowKit
set_option linter.unusedVariables false

theorem fixed_fit : fit fixedL = true := by decide +kernel
theorem fixed_full : full fixedL = true := by decide +kernel
def fc (k : Nat) : Nat := (cd fixedL k).toNat
def fn (k : Nat) : Nat := (fl k).toNat
theorem fn_bd (k : Nat) : 7 ≤ fn k ∧ fn k ≤ 9 ∧ fl k = (fn k : Int) := by
  unfold fn fl; split
  · decide
  · split
    · decide
    · split <;> decide
theorem fc_all : (List.range 288).all (fun k => decide (0 ≤ cd fixedL k ∧ cd fixedL k < 512)) = true := by decide +kernel
theorem fc_bd (k : Nat) (h : k < 288) : fc k < 512 ∧ cd fixedL k = (fc k : Int) := by
  have := List.all_eq_true.1 fc_all k (by simpa using h)
  simp at this
  unfold fc
  omega
theorem fc_end : fc 256 = 0 := by decide +kernel

theorem mt_bd (zs : List Int) (p : Nat) (hp : p ≤ zs.length) : mtA zs p = 0 ∨ (3 ≤ mtA zs p ∧ mtA zs p ≤ 258 ∧ p + mtA zs p ≤ zs.length ∧ 1 ≤ mtB zs p ∧ mtB zs p ≤ p) := by
  unfold mtA mtB
  by_cases h : (sb (Ld zs p) p).1 < 3
  · rw [if_pos h]; exact Or.inl rfl
  · rw [if_neg h, if_neg h]
    right
    have a := sb_le (Ld zs p) (min 258 (zs.length - p)) (Ld_le zs p) p
    rcases sb_ib (Ld zs p) p with ⟨b1, b2, b3⟩ | ⟨b1, _⟩
    · exact ⟨b1, by omega, by omega, b3, a.2⟩
    · omega
/-- The bits of one step, and how far it goes. -/
def stepB (zs : List Int) (p : Nat) : List Nat :=
  if mtA zs p = 0 then codeOf (fc (zs.getD p 0).toNat) (fn (zs.getD p 0).toNat)
  else codeOf (fc (257 + lp (mtA zs p))) (fn (257 + lp (mtA zs p))) ++ bitsOf (mtA zs p - LB (lp (mtA zs p))) (LE (lp (mtA zs p))) ++ codeOf (dp (mtB zs p)) 5 ++ bitsOf (mtB zs p - DB (dp (mtB zs p))) (DE (dp (mtB zs p)))
def stepN (zs : List Int) (p : Nat) : Nat := if mtA zs p = 0 then 1 else mtA zs p
def pos (zs : List Int) : Nat → Nat
  | 0 => 0
  | j + 1 => pos zs j + stepN zs (pos zs j)
def acc (zs : List Int) : Nat → List Nat
  | 0 => bitsOf 3 3
  | j + 1 => acc zs j ++ stepB zs (pos zs j)
def Ends (zs : List Int) (J : Nat) : Prop := pos zs J = zs.length ∧ ∀ i, i < J → pos zs i < zs.length
theorem step_bd (zs : List Int) (p : Nat) (hp : p < zs.length) : 1 ≤ stepN zs p ∧ p + stepN zs p ≤ zs.length ∧ (stepB zs p).length ≤ 11 * stepN zs p := by
  unfold stepN stepB
  rcases mt_bd zs p (by omega) with h | h
  · rw [if_pos h, if_pos h, codeOf_len]
    have := fn_bd (zs.getD p 0).toNat
    omega
  · rw [if_neg (by omega), if_neg (by omega)]
    have a := fn_bd (257 + lp (mtA zs p))
    have b := LB_bd (lp (mtA zs p)) (by have := dn_le LB (mtA zs p) 28; unfold lp; omega)
    have c := DB_bd (dp (mtB zs p)) (by have := dn_le DB (mtB zs p) 29; unfold dp; omega)
    simp only [List.length_append, codeOf_len, bitsOf_len]
    omega
theorem ends_ex (zs : List Int) (n j : Nat) : zs.length - pos zs j ≤ n → pos zs j ≤ zs.length → (∀ i, i < j → pos zs i < zs.length) → ∃ J, Ends zs J := by
  induction n generalizing j with
  | zero => intro h1 h2 h3; exact ⟨j, by omega, h3⟩
  | succ n ih =>
    intro h1 h2 h3
    by_cases e : pos zs j = zs.length
    · exact ⟨j, e, h3⟩
    · have b := step_bd zs (pos zs j) (by omega)
      have e2 : pos zs (j + 1) = pos zs j + stepN zs (pos zs j) := rfl
      refine ih (j + 1) (by omega) (by omega) (fun i hi => ?_)
      by_cases e3 : i = j
      · subst e3; omega
      · exact h3 i (by omega)
theorem ends (zs : List Int) : ∃ J, Ends zs J := ends_ex zs zs.length 0 (by omega) (Nat.zero_le _) (fun i hi => by omega)
theorem acc_bd (zs : List Int) (J : Nat) (hJ : Ends zs J) (j : Nat) : j ≤ J → pos zs j ≤ zs.length ∧ (acc zs j).length ≤ 11 * pos zs j + 3 := by
  induction j with
  | zero => intro _; exact ⟨Nat.zero_le _, by show (bitsOf 3 3).length ≤ _; rw [bitsOf_len]; omega⟩
  | succ j ih =>
    intro h
    have a := ih (by omega)
    have b := step_bd zs (pos zs j) (hJ.2 j (by omega))
    show pos zs j + stepN zs (pos zs j) ≤ _ ∧ (acc zs j ++ stepB zs (pos zs j)).length ≤ 11 * (pos zs j + stepN zs (pos zs j)) + 3
    rw [List.length_append]
    omega
theorem codeOf_bits' (n k : Nat) : ∀ x ∈ codeOf n k, x ≤ 1 := by
  intro x hx; exact codeOf_bits n k k x (by rw [List.take_of_length_le (by rw [codeOf_len]; exact Nat.le_refl _)]; exact hx)
theorem step_bits (zs : List Int) (p : Nat) : ∀ x ∈ stepB zs p, x ≤ 1 := by
  intro x hx
  unfold stepB at hx
  split at hx
  · exact codeOf_bits' _ _ x hx
  · simp only [List.mem_append] at hx
    rcases hx with ((h | h) | h) | h
    · exact codeOf_bits' _ _ x h
    · exact bitsOf_bits _ _ x h
    · exact codeOf_bits' _ _ x h
    · exact bitsOf_bits _ _ x h
theorem acc_bits (zs : List Int) (j : Nat) : ∀ x ∈ acc zs j, x ≤ 1 := by
  induction j with
  | zero => exact bitsOf_bits 3 3
  | succ j ih =>
    intro x hx
    rcases List.mem_append.1 hx with h | h
    · exact ih x h
    · exact step_bits zs _ x h
theorem fine0 : Fine ([], 0) := ⟨by decide, by simp, fun h => absurd rfl h⟩
theorem acc_fine (zs : List Int) (j : Nat) : Fine (puts ([], 0) (acc zs j)) := fine_puts _ _ fine0 (acc_bits zs j)
/-- The bytes of the block. -/
def outB (zs : List Int) (J : Nat) : List Nat := (puts ([], 0) (acc zs J ++ codeOf 0 7)).1

theorem imatch_in (w : World) (b off cap : Nat) (zs : List Int) (n : Nat) (hc : ∀ i, i < zs.length → w.cell? ⟨b, off + i, none⟩ = some (.int .u8 (zs.getD i 0))) (hl : zs.length ≤ 6000) (hn : n ≤ zs.length) :
    Calls Tryz.prog 81 #[.slice (some ⟨b, off, none⟩) zs.length cap, .int .i64 n] w fun e w' => e = .returned (.tuple #[.int .i64 (mtA zs n), .int .i64 (mtB zs n)]) ∧ ∃ q, w' = w.drewN q := by
  by_cases h : (258 : Int) ≤ (zs.length : Int) - (n : Int)
  · exact imatch_A w b off cap zs n hc hl hn h
  · exact imatch_B w b off cap zs n hc hl hn (zs.length - n) (by omega) (by omega)
theorem smatch_in (w : World) (b off cap : Nat) (zs : List Int) (n : Nat) (hc : ∀ i, i < zs.length → w.cell? ⟨b, off + i, none⟩ = some (.int .u8 (zs.getD i 0))) (hl : zs.length ≤ 6000) (hn : n ≤ zs.length) :
    Calls Tryz.prog 102 #[.slice (some ⟨b, off, none⟩) zs.length cap, .int .i64 n] w fun e w' => e = .returned (.tuple #[.int .i64 (mtA zs n), .int .i64 (mtB zs n)]) ∧ ∃ q, w' = w.drewN q := by
  by_cases h : (258 : Int) ≤ (zs.length : Int) - (n : Int)
  · exact smatch_A w b off cap zs n hc hl hn h
  · exact smatch_B w b off cap zs n hc hl hn (zs.length - n) (by omega) (by omega)

end Go.Proofs.YtaeicgfebeliiaaGreatDoor
namespace Go.Proofs.YtaeicgfebeliiaaGreatDoor
open Go.ChangeShapes Go.WideShapes Go.ChangeAt Go.RowKit
set_option linter.unusedVariables false

theorem alk_real (zs : List Int) (m : Nat) : ∀ a b i, i < alk zs a b m → zs.getD (a + i) 0 = zs.getD (b + i) 0 := by
  induction m with
  | zero => intro a b i h; exact absurd h (Nat.not_lt_zero _)
  | succ m ih =>
    intro a b i h
    unfold alk at h
    split at h
    · next e =>
      cases i with
      | zero => exact e
      | succ i =>
        have := ih (a + 1) (b + 1) i (by omega)
        rw [show a + (i + 1) = a + 1 + i by omega, show b + (i + 1) = b + 1 + i by omega]
        exact this
    · exact absurd h (Nat.not_lt_zero _)
theorem sb_is (L : Nat → Nat) (k : Nat) : (sb L k).2 ≠ 0 → (sb L k).1 = L (sb L k).2 := by
  induction k with
  | zero => intro h; exact absurd rfl h
  | succ k ih =>
    by_cases h : (sb L k).1 < L (k + 1)
    · rw [sb_yes L k h]; intro _; rfl
    · rw [sb_no L k h]; exact ih
/-- What lies at the match's distance is what is there. -/
theorem mt_real (zs : List Int) (p : Nat) (hp : p ≤ zs.length) (h : mtA zs p ≠ 0) : ∀ i, i < mtA zs p → zs.getD (p - mtB zs p + i) 0 = zs.getD (p + i) 0 := by
  intro i hi
  rcases mt_bd zs p hp with e | ⟨h1, h2, h3, h4, h5⟩
  · exact absurd e h
  unfold mtA at h hi h1
  unfold mtB at h4 h5 ⊢
  by_cases hc : (sb (Ld zs p) p).1 < 3
  · rw [if_pos hc] at h; exact absurd rfl h
  · rw [if_neg hc] at hi h4 h5 ⊢
    have e := sb_is (Ld zs p) p (by omega)
    rw [e] at hi
    exact alk_real zs _ _ _ i hi
/-- The length's place and how much more is told. -/
theorem dn_above (f : Nat → Nat) (n M : Nat) (h : dn f n M < M) : n < f (dn f n M + 1) := by
  induction M with
  | zero => exact absurd h (Nat.not_lt_zero _)
  | succ M ih =>
    unfold dn at h ⊢
    split at h
    · exact absurd h (Nat.lt_irrefl _)
    · next hn =>
      rw [if_neg hn]
      by_cases hM : dn f n M < M
      · exact ih hM
      · have := dn_le f n M
        have e : dn f n M = M := by omega
        rw [e]; omega
theorem LB_next : (List.range 28).all (fun k => decide (LB (k + 1) ≤ LB k + 2 ^ LE k)) = true := by decide +kernel
theorem DB_next : (List.range 29).all (fun k => decide (DB (k + 1) ≤ DB k + 2 ^ DE k)) = true := by decide +kernel
theorem lp_more (n : Nat) (h3 : 3 ≤ n) (h : n ≤ 258) : LB (lp n) ≤ n ∧ n - LB (lp n) < 2 ^ LE (lp n) ∧ lp n ≤ 28 := by
  have a := dn_fit LB n 28 (by show 3 ≤ n; exact h3)
  have b := dn_le LB n 28
  refine ⟨a, ?_, b⟩
  unfold lp
  by_cases hM : dn LB n 28 < 28
  · have c := dn_above LB n 28 hM
    have d := of_decide_eq_true (List.all_eq_true.1 LB_next (dn LB n 28) (List.mem_range.2 hM))
    omega
  · have e : dn LB n 28 = 28 := by omega
    rw [e] at a ⊢
    have f : LB 28 = 258 := by decide
    have g : LE 28 = 0 := by decide
    rw [g, f, Nat.pow_zero]; omega
theorem dp_more (n : Nat) (h3 : 1 ≤ n) (h : n ≤ 6000) : DB (dp n) ≤ n ∧ n - DB (dp n) < 2 ^ DE (dp n) ∧ dp n ≤ 29 := by
  have a := dn_fit DB n 29 (by show 1 ≤ n; exact h3)
  have b := dn_le DB n 29
  refine ⟨a, ?_, b⟩
  unfold dp
  by_cases hM : dn DB n 29 < 29
  · have c := dn_above DB n 29 hM
    have d := of_decide_eq_true (List.all_eq_true.1 DB_next (dn DB n 29) (List.mem_range.2 hM))
    omega
  · have e : dn DB n 29 = 29 := by omega
    rw [e] at a
    have f : DB 29 = 24577 := by decide
    omega
end Go.Proofs.YtaeicgfebeliiaaGreatDoor
