/-
  What the program's sink of bits does with a number; each theorem names its conditions.
-/
import Derived.Test.YteehoihkbcbbgaaDoorSink
import Derived.Deep.RegionWith
namespace Go.Proofs.YteehoihkbcbbgaaDoor
open Go.ChangeShapes Go.WideShapes Go.ChangeAt Go.RowKit
set_option linter.unusedVariables false

theorem nil_put (a : Addr) (W : World) : (nilAhead 263 36 (.pointer (some a)) "loop.example/g00137/impl.putBit").run Tryd.prog W = .ok (some false) W := by kernel_rfl

/-- The lowest k bits of n, one by one. -/
def bitsOf (n : Nat) (k : Nat) : List Nat := (List.range k).map (fun i => n / 2 ^ i % 2)
def puts (s : List Nat × Nat) (xs : List Nat) : List Nat × Nat := xs.foldl stp s
theorem bitsOf_succ (n k : Nat) : bitsOf n (k + 1) = bitsOf n k ++ [n / 2 ^ k % 2] := by simp [bitsOf, List.range_succ]
theorem puts_snoc (s : List Nat × Nat) (xs : List Nat) (x : Nat) : puts s (xs ++ [x]) = stp (puts s xs) x := by simp [puts]
theorem puts_fine (s : List Nat × Nat) (n k : Nat) (h : Fine s) : Fine (puts s (bitsOf n k)) := by
  induction k with
  | zero => exact h
  | succ k ih => rw [bitsOf_succ, puts_snoc]; exact fine_step _ _ ih (by omega)
theorem puts_len (s : List Nat × Nat) (xs : List Nat) : (puts s xs).1.length ≤ s.1.length + xs.length := by
  induction xs generalizing s with
  | nil => exact Nat.le_refl _
  | cons x xs ih => have a := ih (stp s x); have b := stp_len s x; show (puts (stp s x) xs).1.length ≤ _; simp; omega
theorem bitsOf_len (n k : Nat) : (bitsOf n k).length = k := by simp [bitsOf]

set_option maxHeartbeats 4000000 in
theorem putNumber_any (W : World) (S : Nat) (s : List Nat × Nat) (n k : Nat) (hn : n < 65536) (hk : k ≤ 16) (hl : s.1.length ≤ 900000) (hfi : Fine s) (hs : Sink W S s.1 s.2) :
    Calls Tryd.prog 23 #[.iface 36 (.pointer (some ⟨S, 0, none⟩)), .int .i64 n, .int .i64 k] W fun e w' => e = .returned (.tuple #[]) ∧ Sink w' S (puts s (bitsOf n k)).1 (puts s (bitsOf n k)).2 ∧ Below S W w' := by
  go_enter Tryd.func23, Tryd.ntmps23
  go_wp2
  go_loopw [8] (fun i wr => ∃ j : Nat, j ≤ k ∧ i = .int .i64 j ∧ Sink wr S (puts s (bitsOf n j)).1 (puts s (bitsOf n j)).2 ∧ Below S W wr) (fun i _ => k - (intOf i).toNat)
  case atStart => exact ⟨0, Nat.zero_le _, rfl, hs, Below.refl _ _⟩
  case round =>
    obtain ⟨j, hj, rfl, hsj, hbj⟩ := hrel
    by_cases hlt : j < k
    · have HS : Hid (Sink wr S (puts s (bitsOf n j)).1 (puts s (bitsOf n j)).2) := hsj
      have HB : Hid (Below S W wr) := hbj
      clear hsj hbj
      have HF : Hid (Fine (puts s (bitsOf n j))) := puts_fine s n j hfi
      have HLn : Hid ((puts s (bitsOf n j)).1.length ≤ 1000000) := by
        have := puts_len s (bitsOf n j); rw [bitsOf_len] at this; show _ ≤ _; omega
      have HC : Hid (∀ W', Sink W' S (puts s (bitsOf n j)).1 (puts s (bitsOf n j)).2 → Calls Tryd.prog 150 #[.pointer (some ⟨S, 0, none⟩), .int .i64 (((n / 2 ^ j : Nat) : Int) % 2)] W' fun e w' => e = .returned (.tuple #[]) ∧ Sink w' S (puts s (bitsOf n (j + 1))).1 (puts s (bitsOf n (j + 1))).2 ∧ Below S W' w') := by
        intro W' h
        rw [bitsOf_succ, puts_snoc, show (((n / 2 ^ j : Nat) : Int) % 2) = ((n / 2 ^ j % 2 : Nat) : Int) by omega]
        exact putBit_any W' S _ _ (by omega) HLn.out HF.out h
      have hd : ((n : Int) / 2 ^ j) = ((n / 2 ^ j : Nat) : Int) := by simp
      have hq : n / 2 ^ j ≤ n := Nat.div_le_self _ _
      have ha : bits .and .i64 ((n / 2 ^ j : Nat) : Int) 1 = ((n / 2 ^ j % 2 : Nat) : Int) := by
        have h := (bits_nat .i64 60 (by decide) (fun m h0 h2 => by rw [IntKind.wrap_i64]; omega) (n / 2 ^ j) 1 (by omega) (by omega)).1
        rw [Nat.and_one_is_mod] at h; exact h
      generalize n / 2 ^ j = d at *
      have hnil := nil_put ⟨S, 0, none⟩
      go_wp2
      go_region_with (go_at_call 150
                      refine Calls.mono (HC.out _ ?_) ?_
                      · exact HS.out
                      rintro e w2 ⟨rfl, hs2, hb2⟩
                      have HS2 : Hid (Sink w2 S (puts s (bitsOf n (j + 1))).1 (puts s (bitsOf n (j + 1))).2) := hs2
                      have HB2 : Hid (Below S wr w2) := (Below.refl S wr).drew.trans hb2
                      clear hs2 hb2)
      go_wp2
      go_roundw
      case rel => exact ⟨j + 1, by omega, by go_num, HS2.out, HB.out.trans HB2.out⟩
      case measure => simp [intOf]; omega
    · have e : j = k := by omega
      subst e
      have HS : Hid _ := hsj
      have HB : Hid _ := hbj
      clear hsj hbj
      go_wp2
      go_returns
      exact ⟨rfl, HS.out, HB.out⟩

theorem puts_append (s : List Nat × Nat) (xs ys : List Nat) : puts s (xs ++ ys) = puts (puts s xs) ys := by simp [puts]
theorem puts8 (bs : List Nat) (b : Nat) (hb : b < 256) : puts (bs, 0) (bitsOf b 8) = (bs ++ [b], 0) := by
  have e : bitsOf b 8 = [b / 2 ^ 0 % 2, b / 2 ^ 1 % 2, b / 2 ^ 2 % 2, b / 2 ^ 3 % 2, b / 2 ^ 4 % 2, b / 2 ^ 5 % 2, b / 2 ^ 6 % 2, b / 2 ^ 7 % 2] := rfl
  rw [e]
  show stp (stp (stp (stp (stp (stp (stp (stp (bs, 0) _) _) _) _) _) _) _) _ = _
  rw [stp_zero, stp_more _ _ 1 _ (by decide), stp_more _ _ _ _ (by decide), stp_more _ _ _ _ (by decide), stp_more _ _ _ _ (by decide), stp_more _ _ _ _ (by decide), stp_more _ _ _ _ (by decide), stp_more _ _ _ _ (by decide)]
  simp
  omega
theorem bitsOf_split (n : Nat) : bitsOf n 16 = bitsOf (n % 256) 8 ++ bitsOf (n / 256) 8 := by
  have e : ∀ m, bitsOf m 8 = [m / 2 ^ 0 % 2, m / 2 ^ 1 % 2, m / 2 ^ 2 % 2, m / 2 ^ 3 % 2, m / 2 ^ 4 % 2, m / 2 ^ 5 % 2, m / 2 ^ 6 % 2, m / 2 ^ 7 % 2] := fun _ => rfl
  have e2 : bitsOf n 16 = [n / 2 ^ 0 % 2, n / 2 ^ 1 % 2, n / 2 ^ 2 % 2, n / 2 ^ 3 % 2, n / 2 ^ 4 % 2, n / 2 ^ 5 % 2, n / 2 ^ 6 % 2, n / 2 ^ 7 % 2, n / 2 ^ 8 % 2, n / 2 ^ 9 % 2, n / 2 ^ 10 % 2, n / 2 ^ 11 % 2, n / 2 ^ 12 % 2, n / 2 ^ 13 % 2, n / 2 ^ 14 % 2, n / 2 ^ 15 % 2] := rfl
  rw [e, e, e2]
  simp
  omega
theorem puts16 (bs : List Nat) (n : Nat) (hn : n < 65536) : puts (bs, 0) (bitsOf n 16) = (bs ++ [n % 256] ++ [n / 256], 0) := by
  rw [bitsOf_split, puts_append, puts8 _ _ (by omega), puts8 _ _ (by omega)]
theorem puts_head : puts (puts (puts ([], 0) (bitsOf 1 1)) (bitsOf 0 2)) (bitsOf 0 5) = ([1], 0) := by decide

set_option maxHeartbeats 1000000 in
theorem putHead_any (W : World) (S : Nat) (hs : Sink W S [] 0) :
    Calls Tryd.prog 22 #[.iface 36 (.pointer (some ⟨S, 0, none⟩)), .int .i64 0] W fun e w' => e = .returned (.tuple #[]) ∧ Sink w' S (puts (puts ([], 0) (bitsOf 1 1)) (bitsOf 0 2)).1 (puts (puts ([], 0) (bitsOf 1 1)) (bitsOf 0 2)).2 ∧ Below S W w' := by
  have f0 : Fine ([], 0) := ⟨by decide, by simp, fun h => absurd rfl h⟩
  have HC1 : Hid (∀ W', Sink W' S [] 0 → Calls Tryd.prog 23 #[.iface 36 (.pointer (some ⟨S, 0, none⟩)), .int .i64 1, .int .i64 1] W' fun e w' => e = .returned (.tuple #[]) ∧ Sink w' S (puts ([], 0) (bitsOf 1 1)).1 (puts ([], 0) (bitsOf 1 1)).2 ∧ Below S W' w') :=
    fun W' h => putNumber_any W' S ([], 0) 1 1 (by omega) (by omega) (by simp) f0 h
  have HC2 : Hid (∀ W', Sink W' S (puts ([], 0) (bitsOf 1 1)).1 (puts ([], 0) (bitsOf 1 1)).2 → Calls Tryd.prog 23 #[.iface 36 (.pointer (some ⟨S, 0, none⟩)), .int .i64 0, .int .i64 2] W' fun e w' => e = .returned (.tuple #[]) ∧ Sink w' S (puts (puts ([], 0) (bitsOf 1 1)) (bitsOf 0 2)).1 (puts (puts ([], 0) (bitsOf 1 1)) (bitsOf 0 2)).2 ∧ Below S W' w') :=
    fun W' h => putNumber_any W' S (puts ([], 0) (bitsOf 1 1)) 0 2 (by omega) (by omega) (by decide) (puts_fine _ _ _ f0) h
  have HS : Hid (Sink W S [] 0) := hs
  clear hs f0
  generalize puts (puts ([], 0) (bitsOf 1 1)) (bitsOf 0 2) = s2 at *
  generalize puts ([], 0) (bitsOf 1 1) = s1 at *
  go_enter Tryd.func22, Tryd.ntmps22
  go_wp2_with fail
  refine Calls.mono (HC1.out _ HS.out) ?_
  rintro e w1 ⟨rfl, h1, h2⟩
  have HS1 : Hid (Sink w1 S s1.1 s1.2) := h1
  have HB1 : Hid (Below S W w1) := h2
  clear h1 h2
  go_wp2_with fail
  refine Calls.mono (HC2.out _ HS1.out) ?_
  rintro e w2 ⟨rfl, h1, h2⟩
  have HS2 : Hid (Sink w2 S s2.1 s2.2) := h1
  have HB2 : Hid (Below S W w2) := HB1.out.trans h2
  clear h1 h2
  go_wp2
  go_returns
  exact ⟨rfl, HS2.out, HB2.out⟩
end Go.Proofs.YteehoihkbcbbgaaDoor
