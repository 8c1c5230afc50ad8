/-
  What the specification's l7Gap answers; for texts of at most 1048576 bytes.
-/
import Derived.Test.YtfodmjdhpolnkaaDoorNuP
namespace Go.Proofs.YtfodmjdhpolnkaaDoor
open Go.ChangeShapes Go.WideShapes Go.ChangeAt Go.RowKit
set_option linter.unusedVariables false

theorem dropB_at (s : ByteArray) (i j : Nat) (hij : i ≤ j) (hj : j ≤ s.size) (h1 : ∀ k, i ≤ k → k < j → blankN (byN s k) = true) (h2 : j < s.size → blankN (byN s j) = false) : dropB (s.data.toList.drop i) = s.data.toList.drop j := by
  have hl : s.data.toList.length = s.size := by simp
  unfold dropB
  rw [Lib.trimLeftS_drop _ bl4 (j - i) (by rw [List.length_drop]; omega) (fun k b hk hb => ?_) (fun b hb => ?_), List.drop_drop, show i + (j - i) = j by omega]
  · rw [List.getElem?_drop] at hb
    obtain ⟨_, e⟩ := by_at s (i + k) b hb
    rw [bl4_has, e]; exact h1 _ (by omega) (by omega)
  · rw [List.getElem?_drop, show i + (j - i) = j by omega] at hb
    obtain ⟨q, e⟩ := by_at s j b hb
    rw [bl4_has, e]; exact h2 q
/-- What l7Gap answers. -/
def gapT (s : ByteArray) : ByteArray := ⟨(gapB s.data.toList).toArray⟩
theorem drop_head (s : ByteArray) (i : Nat) (h : i < s.size) : ∃ c, s.data.toList.drop i = c :: s.data.toList.drop (i + 1) ∧ c.toNat = byN s i := by
  have hl : i < s.data.toList.length := by simpa using h
  refine ⟨s.data.toList[i], (List.drop_eq_getElem_cons hl), ?_⟩
  rw [byN_of s i h]; rfl
theorem ba_drop (s : ByteArray) (j : Nat) (l : List UInt8) (h : l = s.data.toList.drop j) : (⟨l.toArray⟩ : ByteArray) = s.extract j s.size := by
  rw [← Lib.mk_data (s.extract j s.size), Lib.extract_to_end, h]
theorem gap_comma (s : ByteArray) (i j : Nat) (hi : i < s.size) (hij : i + 1 ≤ j) (hj : j ≤ s.size) (h1 : ∀ k, k < i → blankN (byN s k) = true) (hc : byN s i = 44) (h2 : ∀ k, i + 1 ≤ k → k < j → blankN (byN s k) = true) (h3 : j < s.size → blankN (byN s j) = false) : gapT s = s.extract j s.size := by
  refine ba_drop s j _ ?_
  have e1 := dropB_at s 0 i (Nat.zero_le _) (by omega) (fun k _ hk => h1 k hk) (fun _ => by rw [hc]; decide)
  rw [List.drop_zero] at e1
  obtain ⟨c, e2, e3⟩ := drop_head s i hi
  unfold gapB
  rw [e1, e2]
  show (if c = 44 then _ else _) = _
  rw [if_pos (UInt8.toNat_inj.1 (by rw [e3, hc]; rfl))]
  exact dropB_at s (i + 1) j hij hj h2 h3
theorem gap_none (s : ByteArray) (i : Nat) (hi : i ≤ s.size) (h1 : ∀ k, k < i → blankN (byN s k) = true) (h2 : i < s.size → blankN (byN s i) = false) (h3 : i < s.size → byN s i ≠ 44) : gapT s = s.extract i s.size := by
  refine ba_drop s i _ ?_
  have e1 := dropB_at s 0 i (Nat.zero_le _) hi (fun k _ hk => h1 k hk) h2
  rw [List.drop_zero] at e1
  unfold gapB
  rw [e1]
  by_cases h : i < s.size
  · obtain ⟨c, e2, e3⟩ := drop_head s i h
    rw [e2]
    show (if c = 44 then _ else _) = _
    rw [if_neg (fun e => h3 h (by rw [← e3, e]; rfl))]
  · rw [List.drop_eq_nil_of_le (by simp; omega)]
set_option maxHeartbeats 2000000 in
/-- The specification's l7Gap. -/
theorem sgap (s : ByteArray) (w : World) (hs : s.size ≤ 1048576) : Calls Tryd.prog 60 #[.string s] w fun e w' => e = .returned (.string (gapT s)) ∧ w' = w := by
  go_enter Tryd.func60, Tryd.ntmps60
  go_wp2
  go_loop [0] (fun v => ∃ i : Nat, i ≤ s.size ∧ v = .string (s.extract i s.size) ∧ ∀ k, k < i → blankN (byN s k) = true) (fun v => Lib.strSize v)
  case atStart => exact ⟨0, Nat.zero_le _, by rw [ex_all], fun k hk => absurd hk (by omega)⟩
  case round =>
    obtain ⟨i, hi, rfl, hbl⟩ := hrel
    have HB : Hid _ := hbl
    clear hbl
    have hts := ex_size s i s.size hi (Nat.le_refl _)
    have HAt : Hid _ := ex_at s i s.size
    have HEx : Hid _ := ex_ex s i s.size
    obtain ⟨t, ht⟩ : ∃ t, s.extract i s.size = t := ⟨_, rfl⟩
    rw [ht] at hts HAt HEx ⊢
    have HT2 : Hid _ := ht
    clear ht
    by_cases h0 : i < s.size
    · have hsz0 : 0 < t.size := by omega
      have hat : Hid _ := HAt.out 0 (by omega) (Nat.le_refl _) hsz0
      have HX : Hid (t.extract 1 (s.size - i) = s.extract (i + 1) s.size) := by
        show _ = _
        have h := HEx.out 1 (s.size - i) (Nat.le_refl _) (by omega)
        rw [show i + (s.size - i) = s.size by omega] at h
        exact h
      have h255 : t[0].toNat ≤ 255 := by have := t[0].toNat_lt; omega
      clear HEx HAt
      cases hb : blankN (byN s i) with
      | true =>
        have HN : Hid _ := hb
        clear hb
        go_wp2_with fail
        refine (sblank0 _ t[0].toNat h255).mono ?_
        rintro e w' ⟨rfl, rfl⟩
        rw [hat.out, Nat.add_zero, HN.out]
        go_wp2
        go_round
        case rel => exact ⟨i + 1, by omega, by rw [HX.out], fun k hk => by
          rcases Nat.lt_succ_iff_lt_or_eq.1 hk with h | rfl
          · exact HB.out k h
          · exact HN.out⟩
        case measure => simp [Lib.strSize, hts]; omega
      | false =>
        have HE : Hid (i < s.size → blankN (byN s i) = false) := fun _ => hb
        clear hb
        by_cases hq : byN s i = 44
        · have HQ : Hid (byN s i = 44) := hq
          have g44 : ((t[0].toNat : Int) == 44) = true := by rw [hat.out, Nat.add_zero, hq]; rfl
          clear hq
          go_wp2_with fail
          refine (sblank0 _ t[0].toNat h255).mono ?_
          rintro e w' ⟨rfl, rfl⟩
          rw [hat.out, Nat.add_zero, HE.out h0]
          go_wp2
          rw [HX.out]
          clear g44 hat HX
          go_loop [0] (fun v => ∃ j : Nat, (i + 1) ≤ j ∧ j ≤ s.size ∧ v = .string (s.extract j s.size) ∧ ∀ k, (i + 1) ≤ k → k < j → blankN (byN s k) = true) (fun v => Lib.strSize v)
          case atStart => exact ⟨(i + 1), Nat.le_refl _, by omega, rfl, fun k h1 h2 => absurd h1 (by omega)⟩
          case round =>
            obtain ⟨j, hij, hj, rfl, hbl⟩ := hrel
            have HC : Hid _ := hbl
            clear hbl
            have hts2 := ex_size s j s.size hj (Nat.le_refl _)
            have HAt2 : Hid _ := ex_at s j s.size
            have HEx2 : Hid _ := ex_ex s j s.size
            obtain ⟨t2, ht2⟩ : ∃ t2, s.extract j s.size = t2 := ⟨_, rfl⟩
            rw [ht2] at hts2 HAt2 HEx2 ⊢
            have HT3 : Hid _ := ht2
            clear ht2
            by_cases h1 : j < s.size
            · have hsz1 : 0 < t2.size := by omega
              have hat2 : Hid _ := HAt2.out 0 (by omega) (Nat.le_refl _) hsz1
              have HX2 : Hid (t2.extract 1 (s.size - j) = s.extract (j + 1) s.size) := by
                show _ = _
                have h := HEx2.out 1 (s.size - j) (Nat.le_refl _) (by omega)
                rw [show j + (s.size - j) = s.size by omega] at h
                exact h
              have h2552 : t2[0].toNat ≤ 255 := by have := t2[0].toNat_lt; omega
              clear HEx2 HAt2
              cases hb2 : blankN (byN s j) with
              | true =>
                have HN : Hid _ := hb2
                clear hb2
                go_wp2_with fail
                refine (sblank0 _ t2[0].toNat h2552).mono ?_
                rintro e w' ⟨rfl, rfl⟩
                rw [hat2.out, Nat.add_zero, HN.out]
                go_wp2
                go_round
                case rel => exact ⟨j + 1, by omega, by omega, by rw [HX2.out], fun k h2 h3 => by
                  by_cases h4 : k = j
                  · rw [h4]; exact HN.out
                  · exact HC.out k h2 (by omega)⟩
                case measure => simp [Lib.strSize, hts2]; omega
              | false =>
                have HN : Hid _ := hb2
                clear hb2
                go_wp2_with fail
                refine (sblank0 _ t2[0].toNat h2552).mono ?_
                rintro e w' ⟨rfl, rfl⟩
                rw [hat2.out, Nat.add_zero, HN.out]
                go_wp2
                go_ret
                exact ⟨by rw [gap_comma s i j h0 hij hj HB.out HQ.out HC.out (fun _ => HN.out), HT3.out]; rfl, rfl⟩
            · have h3 : t2.size = 0 := by omega
              clear HEx2 HAt2 hts2
              go_wp2
              go_ret
              exact ⟨by rw [gap_comma s i j h0 hij hj HB.out HQ.out HC.out (fun h => absurd h h1), HT3.out]; rfl, rfl⟩
        · have HQ : Hid (byN s i ≠ 44) := hq
          have g44 : ((t[0].toNat : Int) == 44) = false := by rw [hat.out, Nat.add_zero, beq_eq_false_iff_ne]; omega
          clear hq
          go_wp2_with fail
          refine (sblank0 _ t[0].toNat h255).mono ?_
          rintro e w' ⟨rfl, rfl⟩
          rw [hat.out, Nat.add_zero, HE.out h0]
          go_wp2
          clear g44
          go_loop [0] (fun v => v = .string t) (fun v => Lib.strSize v)
          case atStart => rfl
          case round =>
            subst hrel
            go_wp2_with fail
            refine (sblank0 _ t[0].toNat h255).mono ?_
            rintro e w' ⟨rfl, rfl⟩
            rw [hat.out, Nat.add_zero, HE.out h0]
            go_wp2
            go_ret
            exact ⟨by rw [gap_none s i hi HB.out HE.out (fun _ => HQ.out), HT2.out]; rfl, rfl⟩
    · have h2 : t.size = 0 := by omega
      clear HAt HEx hts
      go_wp2
      go_loop [0] (fun v => v = .string t) (fun v => Lib.strSize v)
      case atStart => rfl
      case round =>
        subst hrel
        go_wp2
        go_ret
        exact ⟨by rw [gap_none s i hi HB.out (fun h => absurd h h0) (fun h => absurd h h0), HT2.out]; rfl, rfl⟩
end Go.Proofs.YtfodmjdhpolnkaaDoor
