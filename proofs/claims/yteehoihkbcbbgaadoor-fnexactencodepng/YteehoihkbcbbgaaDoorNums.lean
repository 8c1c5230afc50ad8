/-
  What laying a number or a code does, of the program and of the specification; each theorem names its conditions.
-/
import Derived.Test.YteehoihkbcbbgaaDoorSB
namespace Go.Proofs.YteehoihkbcbbgaaDoor
open Go.ChangeShapes Go.WideShapes Go.ChangeAt Go.RowKit
set_option linter.unusedVariables false

theorem and_one (d : Nat) (h : d < 1152921504606846976) : bits .and .i64 (d : Int) 1 = ((d % 2 : Nat) : Int) := by
  have h := (bits_nat .i64 60 (by decide) (fun m h0 h2 => by rw [IntKind.wrap_i64]; omega) d 1 (by omega) (by omega)).1
  rw [Nat.and_one_is_mod] at h; exact h

set_option maxHeartbeats 4000000 in
theorem number_any (W : World) (S : Nat) (bs : List Nat) (m n k : Nat) (hn : n < 65536) (hk : k ≤ 16) (hm : m ≤ 900000) (hl : bs.length ≤ 900000) (hfi : Fine (bs, m % 8)) (hs : SB W S bs m) :
    Calls Tryd.prog 89 #[.pointer (some ⟨S, 0, none⟩), .int .i64 n, .int .i64 k] W fun e w' => e = .returned (.tuple #[]) ∧ SB w' S (puts (bs, m % 8) (bitsOf n k)).1 (m + k) ∧ Below S W w' := by
  go_enter Tryd.func89, Tryd.ntmps89
  go_wp2
  go_loopw [6] (fun i wr => ∃ j : Nat, j ≤ k ∧ i = .int .i64 j ∧ SB wr S (puts (bs, m % 8) (bitsOf n j)).1 (m + j) ∧ Below S W wr) (fun i _ => k - (intOf i).toNat)
  case atStart => exact ⟨0, Nat.zero_le _, rfl, hs, Below.refl _ _⟩
  case round =>
    obtain ⟨j, hj, rfl, hsj, hbj⟩ := hrel
    have HS : Hid (SB wr S (puts (bs, m % 8) (bitsOf n j)).1 (m + j)) := hsj
    have HB : Hid (Below S W wr) := hbj
    clear hsj hbj
    by_cases hlt : j < k
    · have HC : Hid (Calls Tryd.prog 119 #[.pointer (some ⟨S, 0, none⟩), .int .i64 (((n / 2 ^ j : Nat) : Int) % 2)] wr fun e w' => e = .returned (.tuple #[]) ∧ SB w' S (puts (bs, m % 8) (bitsOf n (j + 1))).1 (m + j + 1) ∧ Below S wr w') := by
        have hu := puts_u bs m (bitsOf n j)
        rw [bitsOf_len] at hu
        have e : puts (bs, m % 8) (bitsOf n j) = ((puts (bs, m % 8) (bitsOf n j)).1, (m + j) % 8) := by rw [← hu]
        have hpl := puts_len (bs, m % 8) (bitsOf n j)
        rw [bitsOf_len] at hpl
        dsimp only at hpl
        have h := bit_any wr S (puts (bs, m % 8) (bitsOf n j)).1 (m + j) (n / 2 ^ j % 2) (by omega) (by omega) (by omega) (by rw [← e]; exact puts_fine _ _ _ hfi) HS.out
        rw [← e, ← puts_snoc, ← bitsOf_succ] at h
        rw [show (((n / 2 ^ j : Nat) : Int) % 2) = ((n / 2 ^ j % 2 : Nat) : Int) by omega]
        exact h
      have hd : ((n : Int) / 2 ^ j) = ((n / 2 ^ j : Nat) : Int) := by simp
      have hq : n / 2 ^ j ≤ n := Nat.div_le_self _ _
      have ha := and_one (n / 2 ^ j) (by omega)
      generalize n / 2 ^ j = d at *
      go_wp2_with fail
      refine Calls.mono HC.out ?_
      rintro e w2 ⟨rfl, hs2, hb2⟩
      have HS2 : Hid (SB w2 S (puts (bs, m % 8) (bitsOf n (j + 1))).1 (m + (j + 1))) := hs2
      have HB2 : Hid (Below S W w2) := HB.out.trans hb2
      clear hs2 hb2
      go_wp2
      go_roundw
      case rel => exact ⟨j + 1, by omega, by go_num, HS2.out, HB2.out⟩
      case measure => simp [intOf]; omega
    · have e : j = k := by omega
      subst e
      go_wp2
      go_returns
      exact ⟨rfl, HS.out, HB.out⟩

set_option maxHeartbeats 4000000 in
theorem code_any (W : World) (S : Nat) (bs : List Nat) (m n k : Nat) (hn : n < 65536) (hk : k ≤ 16) (hm : m ≤ 900000) (hl : bs.length ≤ 900000) (hfi : Fine (bs, m % 8)) (hs : SB W S bs m) :
    Calls Tryd.prog 91 #[.pointer (some ⟨S, 0, none⟩), .int .i64 n, .int .i64 k] W fun e w' => e = .returned (.tuple #[]) ∧ SB w' S (puts (bs, m % 8) (codeOf n k)).1 (m + k) ∧ Below S W w' := by
  go_enter Tryd.func91, Tryd.ntmps91
  go_wp2
  go_loopw [6] (fun i wr => ∃ j : Nat, j ≤ k ∧ i = .int .i64 ((k : Int) - 1 - (j : Int)) ∧ SB wr S (puts (bs, m % 8) ((codeOf n k).take j)).1 (m + j) ∧ Below S W wr) (fun i _ => (intOf i + 1).toNat)
  case atStart => exact ⟨0, Nat.zero_le _, by simp, hs, Below.refl _ _⟩
  case round =>
    obtain ⟨j, hj, rfl, hsj, hbj⟩ := hrel
    have HS : Hid (SB wr S (puts (bs, m % 8) ((codeOf n k).take j)).1 (m + j)) := hsj
    have HB : Hid (Below S W wr) := hbj
    clear hsj hbj
    by_cases hlt : j < k
    · have HC : Hid (Calls Tryd.prog 119 #[.pointer (some ⟨S, 0, none⟩), .int .i64 (((n / 2 ^ (k - 1 - j) : Nat) : Int) % 2)] wr fun e w' => e = .returned (.tuple #[]) ∧ SB w' S (puts (bs, m % 8) ((codeOf n k).take (j + 1))).1 (m + j + 1) ∧ Below S wr w') := by
        have hlen : ((codeOf n k).take j).length = j := by rw [List.length_take, codeOf_len]; omega
        have hu := puts_u bs m ((codeOf n k).take j)
        rw [hlen] at hu
        have e : puts (bs, m % 8) ((codeOf n k).take j) = ((puts (bs, m % 8) ((codeOf n k).take j)).1, (m + j) % 8) := by rw [← hu]
        have hpl := puts_len (bs, m % 8) ((codeOf n k).take j)
        rw [hlen] at hpl
        dsimp only at hpl
        have h := bit_any wr S (puts (bs, m % 8) ((codeOf n k).take j)).1 (m + j) (n / 2 ^ (k - 1 - j) % 2) (by omega) (by omega) (by omega) (by rw [← e]; exact fine_puts _ _ hfi (codeOf_bits n k j)) HS.out
        rw [← e, ← puts_snoc, ← codeOf_take n k j hlt] at h
        rw [show (((n / 2 ^ (k - 1 - j) : Nat) : Int) % 2) = ((n / 2 ^ (k - 1 - j) % 2 : Nat) : Int) by omega]
        exact h
      have hI : (k : Int) - 1 - (j : Int) = ((k - 1 - j : Nat) : Int) := by omega
      have hI2 : k - 1 - j ≤ 15 := by omega
      have hI3 : ((k - 1 - j : Nat) : Int) - 1 = (k : Int) - 1 - ((j + 1 : Nat) : Int) := by omega
      have HI3 : Hid _ := hI3
      have hd : ((n : Int) / 2 ^ (k - 1 - j)) = ((n / 2 ^ (k - 1 - j) : Nat) : Int) := by simp
      have hq : n / 2 ^ (k - 1 - j) ≤ n := Nat.div_le_self _ _
      have ha := and_one (n / 2 ^ (k - 1 - j)) (by omega)
      generalize n / 2 ^ (k - 1 - j) = d at *
      clear hI3
      generalize k - 1 - j = I at *
      rw [hI]
      clear hI
      go_wp2_with fail
      refine Calls.mono HC.out ?_
      rintro e w2 ⟨rfl, hs2, hb2⟩
      have HS2 : Hid (SB w2 S (puts (bs, m % 8) ((codeOf n k).take (j + 1))).1 (m + (j + 1))) := hs2
      have HB2 : Hid (Below S W w2) := HB.out.trans hb2
      clear hs2 hb2
      go_wp2
      go_roundw
      case rel => exact ⟨j + 1, by omega, by rw [HI3.out], HS2.out, HB2.out⟩
      case measure => simp [intOf]
    · have e : j = k := by omega
      subst e
      have hneg : decide ((0 : Int) ≤ (j : Int) - 1 - (j : Int)) = false := by simp; omega
      have HT : Hid ((codeOf n j).take j = codeOf n j) := by show _ = _; rw [List.take_of_length_le (by rw [codeOf_len]; exact Nat.le_refl _)]
      rw [HT.out] at HS
      generalize hE : (j : Int) - 1 - (j : Int) = E at *
      go_wp2
      go_returns
      exact ⟨rfl, HS.out, HB.out⟩

set_option maxHeartbeats 4000000 in
theorem putCode_any (W : World) (S : Nat) (s : List Nat × Nat) (n k : Nat) (hn : n < 65536) (hk : k ≤ 16) (hl : s.1.length ≤ 900000) (hfi : Fine s) (hs : Sink W S s.1 s.2) :
    Calls Tryd.prog 27 #[.iface 36 (.pointer (some ⟨S, 0, none⟩)), .int .i64 n, .int .i64 k] W fun e w' => e = .returned (.tuple #[]) ∧ Sink w' S (puts s (codeOf n k)).1 (puts s (codeOf n k)).2 ∧ Below S W w' := by
  go_enter Tryd.func27, Tryd.ntmps27
  go_wp2
  go_loopw [6] (fun i wr => ∃ j : Nat, j ≤ k ∧ i = .int .i64 ((k : Int) - 1 - (j : Int)) ∧ Sink wr S (puts s ((codeOf n k).take j)).1 (puts s ((codeOf n k).take j)).2 ∧ Below S W wr) (fun i _ => (intOf i + 1).toNat)
  case atStart => exact ⟨0, Nat.zero_le _, by simp, hs, Below.refl _ _⟩
  case round =>
    obtain ⟨j, hj, rfl, hsj, hbj⟩ := hrel
    have HS : Hid (Sink wr S (puts s ((codeOf n k).take j)).1 (puts s ((codeOf n k).take j)).2) := hsj
    have HB : Hid (Below S W wr) := hbj
    clear hsj hbj
    by_cases hlt : j < k
    · have HC : Hid (∀ W', Sink W' S (puts s ((codeOf n k).take j)).1 (puts s ((codeOf n k).take j)).2 → Calls Tryd.prog 150 #[.pointer (some ⟨S, 0, none⟩), .int .i64 (((n / 2 ^ (k - 1 - j) : Nat) : Int) % 2)] W' fun e w' => e = .returned (.tuple #[]) ∧ Sink w' S (puts s ((codeOf n k).take (j + 1))).1 (puts s ((codeOf n k).take (j + 1))).2 ∧ Below S W' w') := by
        intro W' h
        have hlen : ((codeOf n k).take j).length = j := by rw [List.length_take, codeOf_len]; omega
        have hpl := puts_len s ((codeOf n k).take j)
        rw [hlen] at hpl
        rw [codeOf_take n k j hlt, puts_snoc, show (((n / 2 ^ (k - 1 - j) : Nat) : Int) % 2) = ((n / 2 ^ (k - 1 - j) % 2 : Nat) : Int) by omega]
        exact putBit_any W' S _ _ (by omega) (by omega) (fine_puts _ _ hfi (codeOf_bits n k j)) h
      have hI : (k : Int) - 1 - (j : Int) = ((k - 1 - j : Nat) : Int) := by omega
      have hI2 : k - 1 - j ≤ 15 := by omega
      have hI3 : ((k - 1 - j : Nat) : Int) - 1 = (k : Int) - 1 - ((j + 1 : Nat) : Int) := by omega
      have HI3 : Hid _ := hI3
      have hd : ((n : Int) / 2 ^ (k - 1 - j)) = ((n / 2 ^ (k - 1 - j) : Nat) : Int) := by simp
      have hq : n / 2 ^ (k - 1 - j) ≤ n := Nat.div_le_self _ _
      have ha := and_one (n / 2 ^ (k - 1 - j)) (by omega)
      generalize n / 2 ^ (k - 1 - j) = d at *
      clear hI3
      generalize k - 1 - j = I at *
      rw [hI]
      clear hI
      have hnil := nil_put ⟨S, 0, none⟩
      go_wp2
      go_region_with (go_at_call 150
                      refine Calls.mono (HC.out _ ?_) ?_
                      · exact HS.out
                      rintro e w2 ⟨rfl, hs2, hb2⟩
                      have HS2 : Hid (Sink w2 S (puts s ((codeOf n k).take (j + 1))).1 (puts s ((codeOf n k).take (j + 1))).2) := hs2
                      have HB2 : Hid (Below S wr w2) := (Below.refl S wr).drew.trans hb2
                      clear hs2 hb2)
      go_wp2
      go_roundw
      case rel => exact ⟨j + 1, by omega, by rw [HI3.out], HS2.out, HB.out.trans HB2.out⟩
      case measure => simp [intOf]
    · have e : j = k := by omega
      subst e
      have hneg : decide ((0 : Int) ≤ (j : Int) - 1 - (j : Int)) = false := by simp; omega
      have HT : Hid ((codeOf n j).take j = codeOf n j) := by show _ = _; rw [List.take_of_length_le (by rw [codeOf_len]; exact Nat.le_refl _)]
      rw [HT.out] at HS
      generalize hE : (j : Int) - 1 - (j : Int) = E at *
      go_wp2
      go_returns
      exact ⟨rfl, HS.out, HB.out⟩

set_option maxHeartbeats 1000000 in
theorem putHead1 (W : World) (S : Nat) (hs : Sink W S [] 0) :
    Calls Tryd.prog 22 #[.iface 36 (.pointer (some ⟨S, 0, none⟩)), .int .i64 1] W fun e w' => e = .returned (.tuple #[]) ∧ Sink w' S (puts ([], 0) (bitsOf 3 3)).1 (puts ([], 0) (bitsOf 3 3)).2 ∧ Below S W w' := by
  have f0 : Fine ([], 0) := ⟨by decide, by simp, fun h => absurd rfl h⟩
  have HC1 : Hid (∀ W', Sink W' S [] 0 → Calls Tryd.prog 23 #[.iface 36 (.pointer (some ⟨S, 0, none⟩)), .int .i64 1, .int .i64 1] W' fun e w' => e = .returned (.tuple #[]) ∧ Sink w' S (puts ([], 0) (bitsOf 1 1)).1 (puts ([], 0) (bitsOf 1 1)).2 ∧ Below S W' w') :=
    fun W' h => putNumber_any W' S ([], 0) 1 1 (by omega) (by omega) (by simp) f0 h
  have HC2 : Hid (∀ W', Sink W' S (puts ([], 0) (bitsOf 1 1)).1 (puts ([], 0) (bitsOf 1 1)).2 → Calls Tryd.prog 23 #[.iface 36 (.pointer (some ⟨S, 0, none⟩)), .int .i64 1, .int .i64 2] W' fun e w' => e = .returned (.tuple #[]) ∧ Sink w' S (puts ([], 0) (bitsOf 3 3)).1 (puts ([], 0) (bitsOf 3 3)).2 ∧ Below S W' w') :=
    fun W' h => putNumber_any W' S (puts ([], 0) (bitsOf 1 1)) 1 2 (by omega) (by omega) (by decide) (puts_fine _ _ _ f0) h
  have HS : Hid (Sink W S [] 0) := hs
  clear hs f0
  generalize puts ([], 0) (bitsOf 3 3) = s2 at *
  generalize puts ([], 0) (bitsOf 1 1) = s1 at *
  go_enter Tryd.func22, Tryd.ntmps22
  go_wp2_with fail
  refine Calls.mono (HC1.out _ HS.out) ?_
  rintro e w1 ⟨rfl, h1, h2⟩
  have HS1 : Hid (Sink w1 S s1.1 s1.2) := h1
  have HB1 : Hid (Below S W w1) := h2
  clear h1 h2
  go_wp2_with fail
  refine Calls.mono (HC2.out _ HS1.out) ?_
  rintro e w2 ⟨rfl, h1, h2⟩
  have HS2 : Hid (Sink w2 S s2.1 s2.2) := h1
  have HB2 : Hid (Below S W w2) := HB1.out.trans h2
  clear h1 h2
  go_wp2
  go_returns
  exact ⟨rfl, HS2.out, HB2.out⟩
end Go.Proofs.YteehoihkbcbbgaaDoor
