/-
  Texts without the blanks around them, of both; each theorem names its conditions.
-/
import Derived.Test.YtnkmdmmlpidcmaaDoorShelf
import Derived.Test.YtnkmdmmlpidcmaaDoorBase
import Derived.Test.YtnkmdmmlpidcmaaDoorFlds
import Derived.Shelf.Strings.SlTrimAscii
namespace Go.Proofs.YtnkmdmmlpidcmaaDoor
open Go.ChangeShapes Go.WideShapes Go.ChangeAt Go.RowKit
set_option linter.unusedVariables false

abbrev bl4 : List UInt8 := [9, 10, 13, 32]
/-- A text without the blanks around it. -/
def TB (s : ByteArray) : ByteArray := ⟨(Lib.trimS s.data.toList bl4).toArray⟩
theorem bl4_has (b : UInt8) : bl4.contains b = blankN b.toNat := by
  rw [Bool.eq_iff_iff]
  simp only [bl4, blankN, List.contains_iff_mem, List.mem_cons, List.not_mem_nil, or_false, decide_eq_true_eq]
  constructor
  · rintro (rfl | rfl | rfl | rfl) <;> simp
  · rintro (h | h | h | h)
    · exact Or.inl (UInt8.toNat_inj.1 h)
    · exact Or.inr (Or.inl (UInt8.toNat_inj.1 h))
    · exact Or.inr (Or.inr (Or.inl (UInt8.toNat_inj.1 h)))
    · exact Or.inr (Or.inr (Or.inr (UInt8.toNat_inj.1 h)))
theorem by_at (s : ByteArray) (k : Nat) (b : UInt8) (h : s.data.toList[k]? = some b) : k < s.size ∧ b.toNat = byN s k := by
  have hk : k < s.data.toList.length := by
    rcases Nat.lt_or_ge k s.data.toList.length with h1 | h1
    · exact h1
    · rw [List.getElem?_eq_none h1] at h; cases h
  have hk2 : k < s.size := by simpa using hk
  refine ⟨hk2, ?_⟩
  rw [byN_of s k hk2]
  have e : s[k] = s.data.toList[k] := rfl
  rw [e]
  rw [List.getElem?_eq_getElem hk] at h
  injection h with h
  rw [h]
theorem trim_cut (s : ByteArray) (i j : Nat) (hij : i ≤ j) (hj : j ≤ s.size) (h1 : ∀ k, k < i → blankN (byN s k) = true) (h2 : ∀ k, j ≤ k → k < s.size → blankN (byN s k) = true)
    (h3 : i < j → blankN (byN s i) = false) (h4 : i < j → blankN (byN s (j - 1)) = false) : TB s = s.extract i j := by
  have hl : s.data.toList.length = s.size := by simp
  have ex : s.extract i j = ⟨((s.data.toList.drop i).take (j - i)).toArray⟩ := by
    conv => lhs; rw [← Lib.mk_data s]
    rw [Lib.extract_mk]
  rw [ex]
  unfold TB Lib.trimS
  by_cases h : i < j
  · rw [Lib.trimRightS_take _ bl4 j (by omega) (fun k b hk hb => ?_) (fun b _ hb => ?_), Lib.trimLeftS_drop _ bl4 i (by rw [List.length_take]; omega) (fun k b hk hb => ?_) (fun b hb => ?_), List.drop_take]
    · rw [List.getElem?_take] at hb
      rw [if_pos (by omega)] at hb
      obtain ⟨_, e⟩ := by_at s k b hb
      rw [bl4_has, e]; exact h1 k hk
    · rw [List.getElem?_take, if_pos h] at hb
      obtain ⟨_, e⟩ := by_at s i b hb
      rw [bl4_has, e]; exact h3 h
    · obtain ⟨q, e⟩ := by_at s k b hb
      rw [bl4_has, e]; exact h2 k hk q
    · obtain ⟨_, e⟩ := by_at s (j - 1) b hb
      rw [bl4_has, e]; exact h4 h
  · have e : i = j := by omega
    subst e
    rw [Lib.trimRightS_take _ bl4 0 (by omega) (fun k b hk hb => ?_) (fun b h0 => absurd h0 (by omega)), List.take_zero, Lib.trimLeftS_nil, Nat.sub_self, List.take_zero]
    obtain ⟨q, e⟩ := by_at s k b hb
    rw [bl4_has, e]
    by_cases hk2 : k < i
    · exact h1 k hk2
    · exact h2 k (by omega) q
theorem dw_len {α : Type} (p : α → Bool) (l : List α) : (l.dropWhile p).length ≤ l.length := by
  induction l with
  | nil => exact Nat.le_refl _
  | cons x l ih =>
    rw [List.dropWhile_cons]
    cases p x with
    | true => simp only [if_true, List.length_cons]; omega
    | false => simp
theorem TB_le (s : ByteArray) : (TB s).size ≤ s.size := by
  unfold TB Lib.trimS Lib.trimLeftS Lib.trimRightS
  rw [Lib.size_mk, Lib.size_eq]
  refine Nat.le_trans (dw_len _ _) ?_
  rw [List.length_reverse]
  refine Nat.le_trans (dw_len _ _) ?_
  rw [List.length_reverse]
  exact Nat.le_refl _

theorem retb {a b : Bool} (h : a = b) : Ending.returned (.bool a) = .returned (.bool b) := by rw [h]
theorem sblank0 (w : World) (x : Nat) (h : x ≤ 255) : Calls Tryd.prog 60 #[.int .u8 (x : Int)] w fun e w' => e = .returned (.bool (blankN x)) ∧ w' = w := by
  go_enter Tryd.func60, Tryd.ntmps60
  go_wp2
  all_goals
    go_ret
    exact ⟨retb (by rw [Bool.eq_iff_iff]; simp [blankN]; omega), rfl⟩
theorem ex_size (s : ByteArray) (i j : Nat) (hij : i ≤ j) (hj : j ≤ s.size) : (s.extract i j).size = j - i := by
  rw [ByteArray.size_extract]; omega
theorem ex_at (s : ByteArray) (i j k : Nat) (hij : i + k < j) (hj : j ≤ s.size) (h : k < (s.extract i j).size) : (s.extract i j)[k].toNat = byN s (i + k) := by
  rw [byN_of s (i + k) (by omega), ByteArray.getElem_extract]
theorem ex_ex (s : ByteArray) (i j a b : Nat) (hj : j ≤ s.size) (hb : i + b ≤ j) : (s.extract i j).extract a b = s.extract (i + a) (i + b) := by
  rw [ByteArray.extract_extract, Nat.min_eq_left hb]
theorem ex_all (s : ByteArray) : s.extract 0 s.size = s := by
  have e : s.extract 0 s.size = (⟨s.data.toList.toArray⟩ : ByteArray).extract 0 s.size := by rw [Lib.mk_data]
  rw [e, Lib.extract_mk, List.drop_zero, List.take_of_length_le (by simp), Lib.mk_data]
set_option maxHeartbeats 1000000 in
/-- The specification's l5Trim. -/
theorem strim (s : ByteArray) (w : World) (hs : s.size ≤ 1048576) : Calls Tryd.prog 73 #[.string s] w fun e w' => e = .returned (.string (TB s)) ∧ w' = w := by
  go_enter Tryd.func73, Tryd.ntmps73
  go_wp2
  go_loop [0] (fun v => ∃ i : Nat, i ≤ s.size ∧ v = .string (s.extract i s.size) ∧ ∀ k, k < i → blankN (byN s k) = true) (fun v => Lib.strSize v)
  case atStart => exact ⟨0, Nat.zero_le _, by rw [ex_all], fun k hk => absurd hk (by omega)⟩
  case round =>
    obtain ⟨i, hi, rfl, hbl⟩ := hrel
    have HB : Hid _ := hbl
    clear hbl
    have hts := ex_size s i s.size hi (Nat.le_refl _)
    have HAt : Hid _ := ex_at s i s.size
    have HEx : Hid _ := ex_ex s i s.size
    obtain ⟨t, ht⟩ : ∃ t, s.extract i s.size = t := ⟨_, rfl⟩
    rw [ht] at hts HAt HEx ⊢
    have HT2 : Hid _ := ht
    clear ht
    by_cases h0 : i < s.size
    · have hsz0 : 0 < t.size := by omega
      have hat : Hid _ := HAt.out 0 (by omega) (Nat.le_refl _) hsz0
      have HX : Hid (t.extract 1 (s.size - i) = s.extract (i + 1) s.size) := by
        show _ = _
        have h := HEx.out 1 (s.size - i) (Nat.le_refl _) (by omega)
        rw [show i + (s.size - i) = s.size by omega] at h
        exact h
      have h255 : t[0].toNat ≤ 255 := by have := t[0].toNat_lt; omega
      clear HEx HAt
      cases hb : blankN (byN s i) with
      | true =>
        have HN : Hid _ := hb
        clear hb
        go_wp2_with fail
        refine (sblank0 _ t[0].toNat h255).mono ?_
        rintro e w' ⟨rfl, rfl⟩
        rw [hat.out, Nat.add_zero, HN.out]
        go_wp2
        go_round
        case rel => exact ⟨i + 1, by omega, by rw [HX.out], fun k hk => by
          rcases Nat.lt_succ_iff_lt_or_eq.1 hk with h | rfl
          · exact HB.out k h
          · exact HN.out⟩
        case measure => simp [Lib.strSize, hts]; omega
      | false =>
        have HE : Hid (i < s.size → blankN (byN s i) = false) := fun _ => hb
        clear hb
        go_wp2_with fail
        refine (sblank0 _ t[0].toNat h255).mono ?_
        rintro e w' ⟨rfl, rfl⟩
        rw [hat.out, Nat.add_zero, HE.out h0]
        go_wp2
        rw [← HT2.out]
        go_loop [0] (fun v => ∃ j : Nat, i ≤ j ∧ j ≤ s.size ∧ v = .string (s.extract i j) ∧ ∀ k, j ≤ k → k < s.size → blankN (byN s k) = true) (fun v => Lib.strSize v)
        case atStart => exact ⟨s.size, hi, Nat.le_refl _, rfl, fun k h1 h2 => absurd h1 (by omega)⟩
        case round =>
          obtain ⟨j, hij, hj, rfl, hbl⟩ := hrel
          have HC : Hid _ := hbl
          clear hbl HT2 hts
          have hts2 := ex_size s i j hij hj
          have HAt : Hid _ := ex_at s i j
          have HEx : Hid _ := ex_ex s i j
          obtain ⟨t2, ht2⟩ : ∃ t2, s.extract i j = t2 := ⟨_, rfl⟩
          rw [ht2] at hts2 HAt HEx ⊢
          have HT3 : Hid _ := ht2
          clear ht2
          by_cases h1 : i < j
          · have hsz1 : j - i - 1 < t2.size := by omega
            have hat : Hid _ := HAt.out (j - i - 1) (by omega) hj hsz1
            have HX : Hid (t2.extract 0 (j - i - 1) = s.extract i (j - 1)) := by
              show _ = _
              have h := HEx.out 0 (j - i - 1) hj (by omega)
              rw [show i + (j - i - 1) = j - 1 by omega, Nat.add_zero] at h
              exact h
            have h255 : t2[j - i - 1].toNat ≤ 255 := by have := t2[j - i - 1].toNat_lt; omega
            have hw1 : ((j - i : Nat) : Int) - 1 = ((j - i - 1 : Nat) : Int) := by omega
            clear HEx HAt
            cases hb : blankN (byN s (j - 1)) with
            | true =>
              have HN : Hid _ := hb
              clear hb
              go_wp2_with fail
              refine (sblank0 _ t2[j - i - 1].toNat h255).mono ?_
              rintro e w' ⟨rfl, rfl⟩
              rw [hat.out, show i + (j - i - 1) = j - 1 by omega, HN.out]
              go_wp2
              go_round
              case rel => exact ⟨j - 1, by omega, by omega, by rw [HX.out], fun k h2 h3 => by
                by_cases h4 : k = j - 1
                · rw [h4]; exact HN.out
                · exact HC.out k (by omega) h3⟩
              case measure => simp [Lib.strSize, hts2]; omega
            | false =>
              have HN : Hid _ := hb
              clear hb
              go_wp2_with fail
              refine (sblank0 _ t2[j - i - 1].toNat h255).mono ?_
              rintro e w' ⟨rfl, rfl⟩
              rw [hat.out, show i + (j - i - 1) = j - 1 by omega, HN.out]
              go_wp2
              go_ret
              exact ⟨by rw [trim_cut s i j hij hj HB.out HC.out (fun _ => HE.out (by omega)) (fun _ => HN.out), HT3.out]; rfl, rfl⟩
          · have h2 : j = i := by omega
            clear HEx HAt
            have h3 : t2.size = 0 := by omega
            clear hts2
            go_wp2
            go_ret
            exact ⟨by rw [trim_cut s i j hij hj HB.out HC.out (fun h => absurd h h1) (fun h => absurd h h1), HT3.out]; rfl, rfl⟩
    · have HE : Hid (i < s.size → blankN (byN s i) = false) := fun h => absurd h h0
      have h2 : t.size = 0 := by omega
      clear HAt HEx
      go_wp2
      rw [← HT2.out]
      go_loop [0] (fun v => ∃ j : Nat, i ≤ j ∧ j ≤ s.size ∧ v = .string (s.extract i j) ∧ ∀ k, j ≤ k → k < s.size → blankN (byN s k) = true) (fun v => Lib.strSize v)
      case atStart => exact ⟨s.size, hi, Nat.le_refl _, rfl, fun k h1 h2 => absurd h1 (by omega)⟩
      case round =>
        obtain ⟨j, hij, hj, rfl, hbl⟩ := hrel
        have HC : Hid _ := hbl
        clear hbl HT2 hts
        have hts2 := ex_size s i j hij hj
        have HAt : Hid _ := ex_at s i j
        have HEx : Hid _ := ex_ex s i j
        obtain ⟨t2, ht2⟩ : ∃ t2, s.extract i j = t2 := ⟨_, rfl⟩
        rw [ht2] at hts2 HAt HEx ⊢
        have HT3 : Hid _ := ht2
        clear ht2
        by_cases h1 : i < j
        · exact absurd h1 (by omega)
        · have h2 : j = i := by omega
          clear HEx HAt
          have h3 : t2.size = 0 := by omega
          clear hts2
          go_wp2
          go_ret
          exact ⟨by rw [trim_cut s i j hij hj HB.out HC.out (fun h => absurd h h1) (fun h => absurd h h1), HT3.out]; rfl, rfl⟩
end Go.Proofs.YtnkmdmmlpidcmaaDoor
