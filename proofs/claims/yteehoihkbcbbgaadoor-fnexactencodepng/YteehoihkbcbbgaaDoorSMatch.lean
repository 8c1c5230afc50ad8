/-
  What the specification's l2Match answers, for every list of at most 6000 bytes and every place in it: the same as MatchAt; each theorem names its conditions.
-/
import Derived.Test.YteehoihkbcbbgaaDoorMatch
namespace Go.Proofs.YteehoihkbcbbgaaDoor
open Go.ChangeShapes Go.WideShapes Go.ChangeAt Go.RowKit
set_option linter.unusedVariables false

theorem wrap_in (x : Int) (h1 : -9223372036854775808 ≤ x) (h2 : x ≤ 9223372036854775807) : IntKind.i64.wrap x = x := by
  rw [IntKind.wrap_i64]; omega

set_option maxHeartbeats 2000000 in
theorem smatch_A (w : World) (b off cap : Nat) (zs : List Int) (p : Nat) (hc : ∀ i, i < zs.length → w.cell? ⟨b, off + i, none⟩ = some (.int .u8 (zs.getD i 0))) (hl : zs.length ≤ 6000) (hp : p ≤ zs.length) (h258 : (258 : Int) ≤ (zs.length : Int) - (p : Int)) :
    Calls Tryd.prog 90 #[.slice (some ⟨b, off, none⟩) zs.length cap, .int .i64 p] w fun e w' => e = .returned (.tuple #[.int .i64 (mtA zs p), .int .i64 (mtB zs p)]) ∧ ∃ q, w' = w.drewN q := by
  have HL : Hid (∀ d, Ld zs p d ≤ 258) := fun d => by have := Ld_le zs p d; omega
  have HE : Hid (∀ k j : Nat, k < p → j ≤ 258 → (∀ i, i < j → zs.getD (p - (k + 1) + i) 0 = zs.getD (p + i) 0) → (j < 258 → zs.getD (p - (k + 1) + j) 0 ≠ zs.getD (p + j) 0) → Ld zs p (k + 1) = j) := by
    intro k j hk hj h1 h2
    unfold Ld
    rw [show min 258 (zs.length - p) = 258 by omega]
    exact alk_of zs 258 _ _ j hj h1 h2
  have HV : Hid (∀ x y : Nat, sb (Ld zs p) p = (x, y) → (x < 3 ∧ mtA zs p = 0 ∧ mtB zs p = 0) ∨ (3 ≤ x ∧ mtA zs p = x ∧ mtB zs p = y)) := by
    intro x y he
    unfold mtA mtB
    rw [he]
    by_cases h : x < 3
    · rw [if_pos h, if_pos h]; exact Or.inl ⟨h, rfl, rfl⟩
    · rw [if_neg h, if_neg h]; exact Or.inr ⟨by omega, rfl, rfl⟩
  generalize mtA zs p = RA at *
  generalize mtB zs p = RB at *
  generalize Ld zs p = L at *
  have HCc : Hid _ := hc
  clear hc
  go_enter Tryd.func90, Tryd.ntmps90
  go_wp2
  go_loopw [6, 7, 8] (fun l d bk wr => ∃ k q : Nat, k ≤ p ∧ l = .int .i64 ((sb L k).1 : Int) ∧ d = .int .i64 ((sb L k).2 : Int) ∧ bk = .int .i64 ((k : Int) + 1) ∧ wr = w.drewN q) (fun _ _ bk _ => p + 1 - (intOf bk).toNat)
  case atStart => exact ⟨0, 0, Nat.zero_le _, rfl, rfl, rfl, rfl⟩
  case round =>
    obtain ⟨k, q, hk, rfl, rfl, rfl, rfl⟩ := hrel
    have hb1 : (sb L k).1 ≤ 258 := by have := (sb_le L 258 HL.out k).1; omega
    have hb2 : (sb L k).2 ≤ k := (sb_le L 258 HL.out k).2
    by_cases hlt : k < p
    · have hle : decide ((k : Int) + 1 ≤ (p : Int)) = true := by simp; omega
      go_wp2
      go_loopw [9] (fun i wr => ∃ j q' : Nat, j ≤ 258 ∧ i = .int .i64 j ∧ wr = w.drewN q' ∧ ∀ m, m < j → zs.getD (p - (k + 1) + m) 0 = zs.getD (p + m) 0) (fun i _ => 258 - (intOf i).toNat)
      case atStart => exact ⟨0, q, Nat.zero_le _, rfl, rfl, fun m hm => absurd hm (by omega)⟩
      case round =>
        obtain ⟨j, q', hj, rfl, rfl, hall⟩ := hrel
        have HA : Hid _ := hall
        clear hall
        by_cases hjM : j < 258
        · have c0 := HCc.out (p + j) (by omega)
          have c1 := HCc.out (p - (k + 1) + j) (by omega)
          have e0 : off + (p + j) = off + ((p : Int) + (j : Int)).toNat := by omega
          have c0' := c0
          rw [e0] at c0
          have g0 : (j : Int) < 258 := by omega
          have x0 : (p : Int) + (j : Int) < (zs.length : Int) := by omega
          have y0 : (0 : Int) ≤ (p : Int) + (j : Int) := by omega
          have d1 : decide ((j : Int) < 258) = true := by simp; omega
          have hw := wrap_in ((p : Int) + (j : Int)) (by omega) (by omega)
          have hI : (p : Int) + (j : Int) - ((k : Int) + 1) = ((p - (k + 1) + j : Nat) : Int) := by omega
          have hI2 : p - (k + 1) + j < zs.length := by omega
          have hw2 := wrap_in ((p - (k + 1) + j : Nat) : Int) (by omega) (by omega)
          have d2 : decide ((p : Int) + (j : Int) < (zs.length : Int)) = true := by simp; omega
          by_cases he : zs.getD (p - (k + 1) + j) 0 = zs.getD (p + j) 0
          · have HQ : Hid _ := he
            have hq : (zs.getD (p + j) 0 == zs.getD (p - (k + 1) + j) 0) = true := by rw [he]; simp
            have HN : Hid (∀ m, m < j + 1 → zs.getD (p - (k + 1) + m) 0 = zs.getD (p + m) 0) := by
              intro m hm
              by_cases hmj : m = j
              · subst hmj; exact HQ.out
              · exact HA.out m (by omega)
            clear he
            generalize zs.getD (p - (k + 1) + j) 0 = x at *
            generalize p - (k + 1) + j = I at *
            generalize zs.getD (p + j) 0 = y at *
            go_wp2
            go_quiet (fail)
            go_wp2
            go_roundw
            case rel => exact ⟨j + 1, _, by omega, by go_num, rfl, HN.out⟩
            case measure => simp [intOf]; omega
          · have HVk : Hid (L (k + 1) = j) := HE.out k j hlt hj HA.out (fun _ => he)
            have HSN := True.intro
            have hq : (zs.getD (p + j) 0 == zs.getD (p - (k + 1) + j) 0) = false := by rw [beq_eq_false_iff_ne]; exact fun h => he h.symm
            clear he
            generalize zs.getD (p - (k + 1) + j) 0 = x' at *
            generalize p - (k + 1) + j = I at *
            generalize zs.getD (p + j) 0 = y' at *
            have hsn := HSN
            by_cases hn : (sb L k).1 < L (k + 1)
            · have HN : Hid _ := sb_yes L k hn
              rw [HVk.out] at hn HN
              generalize hpr : sb L k = pr at *
              have HP : Hid _ := hpr
              clear hpr
              obtain ⟨x, y⟩ := pr
              dsimp only at *
              have hnd : decide ((x : Int) < (j : Int)) = true := by simp; omega
              go_wp2
              go_quiet (fail)
              go_wp2
              go_roundw
              case rel => exact ⟨k + 1, _, by omega, by rw [HN.out], by rw [HN.out]; go_num, by go_num, rfl⟩
              case measure => simp [intOf]; omega
            · have HN : Hid _ := sb_no L k hn
              rw [HVk.out] at hn
              generalize hpr : sb L k = pr at *
              have HP : Hid _ := hpr
              clear hpr
              obtain ⟨x, y⟩ := pr
              dsimp only at *
              have hnd : decide ((x : Int) < (j : Int)) = false := by simp; omega
              have hnd2 : decide (x < j) = false := by simp; omega
              go_wp2
              go_quiet (fail)
              go_wp2
              go_roundw
              case rel => exact ⟨k + 1, _, by omega, by rw [HN.out], by rw [HN.out], by go_num, rfl⟩
              case measure => simp [intOf]; omega
        · have HVk : Hid (L (k + 1) = j) := HE.out k j hlt hj HA.out (fun h => absurd h hjM)
          have HSN := True.intro
          have e : j = 258 := by omega
          subst e
          clear hj hjM
          have hsn := HSN
          by_cases hn : (sb L k).1 < L (k + 1)
          · have HN : Hid _ := sb_yes L k hn
            rw [HVk.out] at hn HN
            generalize hpr : sb L k = pr at *
            have HP : Hid _ := hpr
            clear hpr
            obtain ⟨x, y⟩ := pr
            dsimp only at *
            have hnd : decide ((x : Int) < (258 : Int)) = true := by simp; omega
            go_wp2
            go_quiet (fail)
            go_wp2
            go_roundw
            case rel => exact ⟨k + 1, _, by omega, by rw [HN.out], by rw [HN.out]; go_num, by go_num, rfl⟩
            case measure => simp [intOf]; omega
          · have HN : Hid _ := sb_no L k hn
            rw [HVk.out] at hn
            generalize hpr : sb L k = pr at *
            have HP : Hid _ := hpr
            clear hpr
            obtain ⟨x, y⟩ := pr
            dsimp only at *
            have hnd : decide ((x : Int) < (258 : Int)) = false := by simp; omega
            have hnd2 : decide (x < 258) = false := by simp; omega
            go_wp2
            go_quiet (fail)
            go_wp2
            go_roundw
            case rel => exact ⟨k + 1, _, by omega, by rw [HN.out], by rw [HN.out], by go_num, rfl⟩
            case measure => simp [intOf]; omega
    · have e : k = p := by omega
      subst e
      have hv := HV.out (sb L k).1 (sb L k).2 rfl
      have hs2 : decide ((k : Int) + 1 ≤ (k : Int)) = false := by simp; omega
      generalize sb L k = pr at *
      obtain ⟨x, y⟩ := pr
      dsimp only at *
      rcases hv with ⟨h3, rfl, rfl⟩ | ⟨h1, rfl, rfl⟩
      · have h4 : decide ((x : Int) < 3) = true := by simp; omega
        go_wp2
        go_ret2
        exact ⟨rfl, _, rfl⟩
      · have h4 : decide ((RA : Int) < 3) = false := by simp; omega
        go_wp2
        go_ret2
        exact ⟨rfl, _, rfl⟩

set_option maxHeartbeats 2000000 in
theorem smatch_B (w : World) (b off cap : Nat) (zs : List Int) (p : Nat) (hc : ∀ i, i < zs.length → w.cell? ⟨b, off + i, none⟩ = some (.int .u8 (zs.getD i 0))) (hl : zs.length ≤ 6000) (hp : p ≤ zs.length) (M : Nat) (h258 : (zs.length : Int) - (p : Int) = (M : Int)) (hM : (M : Int) < 258) :
    Calls Tryd.prog 90 #[.slice (some ⟨b, off, none⟩) zs.length cap, .int .i64 p] w fun e w' => e = .returned (.tuple #[.int .i64 (mtA zs p), .int .i64 (mtB zs p)]) ∧ ∃ q, w' = w.drewN q := by
  have HL : Hid (∀ d, Ld zs p d ≤ M) := fun d => by have := Ld_le zs p d; omega
  have HE : Hid (∀ k j : Nat, k < p → j ≤ M → (∀ i, i < j → zs.getD (p - (k + 1) + i) 0 = zs.getD (p + i) 0) → (j < M → zs.getD (p - (k + 1) + j) 0 ≠ zs.getD (p + j) 0) → Ld zs p (k + 1) = j) := by
    intro k j hk hj h1 h2
    unfold Ld
    rw [show min 258 (zs.length - p) = M by omega]
    exact alk_of zs M _ _ j hj h1 h2
  have HV : Hid (∀ x y : Nat, sb (Ld zs p) p = (x, y) → (x < 3 ∧ mtA zs p = 0 ∧ mtB zs p = 0) ∨ (3 ≤ x ∧ mtA zs p = x ∧ mtB zs p = y)) := by
    intro x y he
    unfold mtA mtB
    rw [he]
    by_cases h : x < 3
    · rw [if_pos h, if_pos h]; exact Or.inl ⟨h, rfl, rfl⟩
    · rw [if_neg h, if_neg h]; exact Or.inr ⟨by omega, rfl, rfl⟩
  generalize mtA zs p = RA at *
  generalize mtB zs p = RB at *
  generalize Ld zs p = L at *
  have HCc : Hid _ := hc
  clear hc
  go_enter Tryd.func90, Tryd.ntmps90
  go_wp2
  go_loopw [6, 7, 8] (fun l d bk wr => ∃ k q : Nat, k ≤ p ∧ l = .int .i64 ((sb L k).1 : Int) ∧ d = .int .i64 ((sb L k).2 : Int) ∧ bk = .int .i64 ((k : Int) + 1) ∧ wr = w.drewN q) (fun _ _ bk _ => p + 1 - (intOf bk).toNat)
  case atStart => exact ⟨0, 0, Nat.zero_le _, rfl, rfl, rfl, rfl⟩
  case round =>
    obtain ⟨k, q, hk, rfl, rfl, rfl, rfl⟩ := hrel
    have hb1 : (sb L k).1 ≤ 258 := by have := (sb_le L M HL.out k).1; omega
    have hb2 : (sb L k).2 ≤ k := (sb_le L M HL.out k).2
    by_cases hlt : k < p
    · have hle : decide ((k : Int) + 1 ≤ (p : Int)) = true := by simp; omega
      go_wp2
      go_loopw [9] (fun i wr => ∃ j q' : Nat, j ≤ M ∧ i = .int .i64 j ∧ wr = w.drewN q' ∧ ∀ m, m < j → zs.getD (p - (k + 1) + m) 0 = zs.getD (p + m) 0) (fun i _ => M - (intOf i).toNat)
      case atStart => exact ⟨0, q, Nat.zero_le _, rfl, rfl, fun m hm => absurd hm (by omega)⟩
      case round =>
        obtain ⟨j, q', hj, rfl, rfl, hall⟩ := hrel
        have HA : Hid _ := hall
        clear hall
        by_cases hjM : j < M
        · have c0 := HCc.out (p + j) (by omega)
          have c1 := HCc.out (p - (k + 1) + j) (by omega)
          have e0 : off + (p + j) = off + ((p : Int) + (j : Int)).toNat := by omega
          have c0' := c0
          rw [e0] at c0
          have g0 : (j : Int) < 258 := by omega
          have x0 : (p : Int) + (j : Int) < (zs.length : Int) := by omega
          have y0 : (0 : Int) ≤ (p : Int) + (j : Int) := by omega
          have d1 : decide ((j : Int) < 258) = true := by simp; omega
          have hw := wrap_in ((p : Int) + (j : Int)) (by omega) (by omega)
          have hI : (p : Int) + (j : Int) - ((k : Int) + 1) = ((p - (k + 1) + j : Nat) : Int) := by omega
          have hI2 : p - (k + 1) + j < zs.length := by omega
          have hw2 := wrap_in ((p - (k + 1) + j : Nat) : Int) (by omega) (by omega)
          have d2 : decide ((p : Int) + (j : Int) < (zs.length : Int)) = true := by simp; omega
          by_cases he : zs.getD (p - (k + 1) + j) 0 = zs.getD (p + j) 0
          · have HQ : Hid _ := he
            have hq : (zs.getD (p + j) 0 == zs.getD (p - (k + 1) + j) 0) = true := by rw [he]; simp
            have HN : Hid (∀ m, m < j + 1 → zs.getD (p - (k + 1) + m) 0 = zs.getD (p + m) 0) := by
              intro m hm
              by_cases hmj : m = j
              · subst hmj; exact HQ.out
              · exact HA.out m (by omega)
            clear he
            generalize zs.getD (p - (k + 1) + j) 0 = x at *
            generalize p - (k + 1) + j = I at *
            generalize zs.getD (p + j) 0 = y at *
            go_wp2
            go_quiet (fail)
            go_wp2
            go_roundw
            case rel => exact ⟨j + 1, _, by omega, by go_num, rfl, HN.out⟩
            case measure => simp [intOf]; omega
          · have HVk : Hid (L (k + 1) = j) := HE.out k j hlt hj HA.out (fun _ => he)
            have HSN := True.intro
            have hq : (zs.getD (p + j) 0 == zs.getD (p - (k + 1) + j) 0) = false := by rw [beq_eq_false_iff_ne]; exact fun h => he h.symm
            clear he
            generalize zs.getD (p - (k + 1) + j) 0 = x' at *
            generalize p - (k + 1) + j = I at *
            generalize zs.getD (p + j) 0 = y' at *
            have hsn := HSN
            by_cases hn : (sb L k).1 < L (k + 1)
            · have HN : Hid _ := sb_yes L k hn
              rw [HVk.out] at hn HN
              generalize hpr : sb L k = pr at *
              have HP : Hid _ := hpr
              clear hpr
              obtain ⟨x, y⟩ := pr
              dsimp only at *
              have hnd : decide ((x : Int) < (j : Int)) = true := by simp; omega
              go_wp2
              go_quiet (fail)
              go_wp2
              go_roundw
              case rel => exact ⟨k + 1, _, by omega, by rw [HN.out], by rw [HN.out]; go_num, by go_num, rfl⟩
              case measure => simp [intOf]; omega
            · have HN : Hid _ := sb_no L k hn
              rw [HVk.out] at hn
              generalize hpr : sb L k = pr at *
              have HP : Hid _ := hpr
              clear hpr
              obtain ⟨x, y⟩ := pr
              dsimp only at *
              have hnd : decide ((x : Int) < (j : Int)) = false := by simp; omega
              have hnd2 : decide (x < j) = false := by simp; omega
              go_wp2
              go_quiet (fail)
              go_wp2
              go_roundw
              case rel => exact ⟨k + 1, _, by omega, by rw [HN.out], by rw [HN.out], by go_num, rfl⟩
              case measure => simp [intOf]; omega
        · have HVk : Hid (L (k + 1) = j) := HE.out k j hlt hj HA.out (fun h => absurd h hjM)
          have HSN := True.intro
          have e : j = M := by omega
          subst e
          have hw := wrap_in ((p : Int) + (j : Int)) (by omega) (by omega)
          have g0 : (j : Int) < 258 := by omega
          have d1 : decide ((j : Int) < 258) = true := by simp; omega
          have d2 : decide ((p : Int) + (j : Int) < (zs.length : Int)) = false := by simp; omega
          have hsn := HSN
          by_cases hn : (sb L k).1 < L (k + 1)
          · have HN : Hid _ := sb_yes L k hn
            rw [HVk.out] at hn HN
            generalize hpr : sb L k = pr at *
            have HP : Hid _ := hpr
            clear hpr
            obtain ⟨x, y⟩ := pr
            dsimp only at *
            have hnd : decide ((x : Int) < (j : Int)) = true := by simp; omega
            go_wp2
            go_quiet (fail)
            go_wp2
            go_roundw
            case rel => exact ⟨k + 1, _, by omega, by rw [HN.out], by rw [HN.out]; go_num, by go_num, rfl⟩
            case measure => simp [intOf]; omega
          · have HN : Hid _ := sb_no L k hn
            rw [HVk.out] at hn
            generalize hpr : sb L k = pr at *
            have HP : Hid _ := hpr
            clear hpr
            obtain ⟨x, y⟩ := pr
            dsimp only at *
            have hnd : decide ((x : Int) < (j : Int)) = false := by simp; omega
            have hnd2 : decide (x < j) = false := by simp; omega
            go_wp2
            go_quiet (fail)
            go_wp2
            go_roundw
            case rel => exact ⟨k + 1, _, by omega, by rw [HN.out], by rw [HN.out], by go_num, rfl⟩
            case measure => simp [intOf]; omega
    · have e : k = p := by omega
      subst e
      have hv := HV.out (sb L k).1 (sb L k).2 rfl
      have hs2 : decide ((k : Int) + 1 ≤ (k : Int)) = false := by simp; omega
      generalize sb L k = pr at *
      obtain ⟨x, y⟩ := pr
      dsimp only at *
      rcases hv with ⟨h3, rfl, rfl⟩ | ⟨h1, rfl, rfl⟩
      · have h4 : decide ((x : Int) < 3) = true := by simp; omega
        go_wp2
        go_ret2
        exact ⟨rfl, _, rfl⟩
      · have h4 : decide ((RA : Int) < 3) = false := by simp; omega
        go_wp2
        go_ret2
        exact ⟨rfl, _, rfl⟩

end Go.Proofs.YteehoihkbcbbgaaDoor
