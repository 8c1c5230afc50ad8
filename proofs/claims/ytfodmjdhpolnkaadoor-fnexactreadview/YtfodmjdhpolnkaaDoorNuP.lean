/-
  Rows of numbers in a text: pure facts, without the program; no condition but those of each line.
-/
import Derived.Test.YtfodmjdhpolnkaaDoorNuDec
import Derived.Test.YtfodmjdhpolnkaaDoorTrB
namespace Go.Proofs.YtfodmjdhpolnkaaDoor
open Go.ChangeShapes Go.WideShapes Go.ChangeAt Go.RowKit
set_option linter.unusedVariables false

/-- A text without the blanks ahead. -/
def dropB (l : List UInt8) : List UInt8 := Lib.trimLeftS l bl4
/-- What stands behind blanks and one comma. -/
def gapB (l : List UInt8) : List UInt8 := match dropB l with
  | [] => []
  | c :: t => if c = 44 then dropB t else c :: t
theorem dropB_len (l : List UInt8) : (dropB l).length ≤ l.length := dw_len _ _
theorem gapB_len (l : List UInt8) : (gapB l).length ≤ l.length := by
  have h := dropB_len l
  unfold gapB
  match hd : dropB l with
  | [] => exact Nat.zero_le _
  | c :: t =>
    rw [hd, List.length_cons] at h
    show (if c = 44 then dropB t else c :: t).length ≤ l.length
    by_cases hc : c = 44
    · rw [if_pos hc]; have := dropB_len t; omega
    · rw [if_neg hc, List.length_cons]; omega
def isS (c : UInt8) : Bool := decide (c = 45 ∨ c = 43)
def headS (l : List UInt8) : Bool := match l with | [] => false | c :: _ => isS c
/-- May the number behind go on so? -/
def partB (rest : List UInt8) : Bool := decide ((gapB rest).length < rest.length) || headS rest

/-- The numbers of a text, with fuel. -/
def numsF : Nat → List UInt8 → Option (List Int)
  | 0, _ => none
  | n + 1, l =>
    if (rfS (l.take (dk l))).2 = true then
      (if l.drop (dk l) = [] then some [(rfS (l.take (dk l))).1]
       else if partB (l.drop (dk l)) = true then (numsF n (gapB (l.drop (dk l)))).map ((rfS (l.take (dk l))).1 :: ·)
       else none)
    else none
theorem dk_pos (l : List UInt8) (h : (rfS (l.take (dk l))).2 = true) : 1 ≤ dk l := by
  rcases Nat.eq_zero_or_pos (dk l) with e | e
  · rw [e, List.take_zero] at h; exact absurd h (by decide)
  · exact e
theorem numsF_fuel : ∀ (n m : Nat) (l : List UInt8), l.length < n → l.length < m → numsF n l = numsF m l := by
  intro n
  induction n with
  | zero => intro m l h; omega
  | succ n ih =>
    intro m l hn hm
    match m, hm with
    | m + 1, hm =>
      unfold numsF
      by_cases h1 : (rfS (l.take (dk l))).2 = true
      · rw [if_pos h1, if_pos h1]
        have hp := dk_pos l h1
        by_cases h2 : l.drop (dk l) = []
        · rw [if_pos h2, if_pos h2]
        · rw [if_neg h2, if_neg h2]
          by_cases h3 : partB (l.drop (dk l)) = true
          · rw [if_pos h3, if_pos h3]
            have hg := gapB_len (l.drop (dk l))
            have hne : l.drop (dk l) ≠ [] := h2
            have hl : (l.drop (dk l)).length = l.length - dk l := List.length_drop
            have hpos : 0 < (l.drop (dk l)).length := List.length_pos_iff.2 hne
            rw [ih m (gapB (l.drop (dk l))) (by omega) (by omega)]
          · rw [if_neg h3, if_neg h3]
      · rw [if_neg h1, if_neg h1]
/-- The numbers of a text. -/
def nums (l : List UInt8) : Option (List Int) := numsF (l.length + 1) l
theorem nums_bad (l : List UInt8) (h : (rfS (l.take (dk l))).2 = false) : nums l = none := by
  unfold nums numsF; rw [if_neg (by rw [h]; decide)]
theorem nums_end (l : List UInt8) (h : (rfS (l.take (dk l))).2 = true) (h2 : l.drop (dk l) = []) : nums l = some [(rfS (l.take (dk l))).1] := by
  unfold nums numsF; rw [if_pos h, if_pos h2]
theorem nums_part (l : List UInt8) (h : (rfS (l.take (dk l))).2 = true) (h2 : l.drop (dk l) ≠ []) (h3 : partB (l.drop (dk l)) = false) : nums l = none := by
  unfold nums numsF; rw [if_pos h, if_neg h2, if_neg (by rw [h3]; decide)]
theorem nums_more (l : List UInt8) (h : (rfS (l.take (dk l))).2 = true) (h2 : l.drop (dk l) ≠ []) (h3 : partB (l.drop (dk l)) = true) : nums l = (nums (gapB (l.drop (dk l)))).map ((rfS (l.take (dk l))).1 :: ·) := by
  have hp := dk_pos l h
  have hg := gapB_len (l.drop (dk l))
  have hl : (l.drop (dk l)).length = l.length - dk l := List.length_drop
  have hpos : 0 < (l.drop (dk l)).length := List.length_pos_iff.2 h2
  unfold nums
  rw [numsF, if_pos h, if_neg h2, if_pos h3, numsF_fuel l.length ((gapB (l.drop (dk l))).length + 1) _ (by omega) (by omega)]

/-- How far the program's numberSize goes. -/
def nn (l : List UInt8) : Nat := (l.takeWhile isD).length + (match l.dropWhile isD with
  | [] => 0
  | c :: b => if c = 46 then 1 + (b.takeWhile isD).length else 0)
def ns (l : List UInt8) : Nat := match l with
  | [] => 0
  | c :: t => if isS c = true then 1 + nn t else nn (c :: t)
theorem ns_cons (c : UInt8) (t : List UInt8) : ns (c :: t) = if isS c = true then 1 + nn t else nn (c :: t) := rfl
theorem nn_kn (l : List UInt8) : nn l = kn l ∨ (nn l = kn l + 1 ∧ kn l < l.length ∧ (l.drop (kn l)).head? = some 46 ∧ ∀ σ, rf σ (l.take (nn l)) = (0, false)) := by
  obtain ⟨a, t, rfl, ha, ht⟩ := parts l
  rcases ht with rfl | ⟨c, b, rfl, hc⟩
  · refine Or.inl ?_
    rw [List.append_nil, kn_all a ha]
    unfold nn
    rw [dw_all a ha, tw_all a ha]
    rfl
  · have e1 : nn (a ++ c :: b) = a.length + (if c = 46 then 1 + (b.takeWhile isD).length else 0) := by
      unfold nn; rw [(dw_split a c b ha hc).1, (dw_split a c b ha hc).2]
    have e2 : kn (a ++ c :: b) = a.length + (if c = 46 ∧ (b.takeWhile isD).length ≠ 0 then 1 + (b.takeWhile isD).length else 0) := by
      unfold kn; rw [(dw_split a c b ha hc).1, (dw_split a c b ha hc).2]
    by_cases h46 : c = 46
    · by_cases h0 : (b.takeWhile isD).length = 0
      · refine Or.inr ?_
        rw [e1, e2, if_pos h46, if_neg (fun h => h.2 h0), h0]
        refine ⟨rfl, by simp, ?_, fun σ => ?_⟩
        · rw [Nat.add_zero, List.drop_left, h46]; rfl
        · have e3 : (a ++ c :: b).take (a.length + (1 + 0)) = a ++ c :: [] := by
            rw [show a ++ c :: b = (a ++ c :: []) ++ b by simp, show a.length + (1 + 0) = (a ++ c :: []).length by simp, List.take_left]
          rw [e3, rf_split σ a c [] ha hc, if_neg]
          rintro ⟨-, -, h1, -⟩
          simp at h1
      · refine Or.inl ?_
        rw [e1, e2, if_pos h46, if_pos ⟨h46, h0⟩]
    · refine Or.inl ?_
      rw [e1, e2, if_neg h46, if_neg (fun h => h46 h.1)]
theorem ns_dk (l : List UInt8) : ns l = dk l ∨ (ns l = dk l + 1 ∧ dk l < l.length ∧ (l.drop (dk l)).head? = some 46 ∧ rfS (l.take (ns l)) = (0, false)) := by
  match l with
  | [] => exact Or.inl rfl
  | c :: t =>
    by_cases hc : c = 45 ∨ c = 43
    · have e1 : ns (c :: t) = 1 + nn t := by rw [ns_cons, if_pos (by unfold isS; simpa using hc)]
      have e2 : dk (c :: t) = 1 + kn t := by rw [dk_cons, if_pos hc]
      rcases nn_kn t with h | ⟨h1, h2, h3, h4⟩
      · exact Or.inl (by rw [e1, e2, h])
      · refine Or.inr ⟨by rw [e1, e2, h1]; omega, by rw [e2, List.length_cons]; omega, ?_, ?_⟩
        · rw [e2, Nat.add_comm, List.drop_succ_cons]; exact h3
        · rw [e1, Nat.add_comm, List.take_succ_cons, rfS_cons]
          split
          · exact h4 _
          · split
            · exact h4 _
            · rename_i g1 g2
              rcases hc with h | h
              · exact absurd h g1
              · exact absurd h g2
    · have e1 : ns (c :: t) = nn (c :: t) := by rw [ns_cons, if_neg (by unfold isS; simpa using hc)]
      have e2 : dk (c :: t) = kn (c :: t) := by rw [dk_cons, if_neg hc]
      rcases nn_kn (c :: t) with h | ⟨h1, h2, h3, h4⟩
      · exact Or.inl (by rw [e1, e2, h])
      · refine Or.inr ⟨by rw [e1, e2, h1], by rw [e2]; exact h2, by rw [e2]; exact h3, ?_⟩
        rw [e1, h1, List.take_succ_cons, rfS_cons, if_neg (fun h => hc (Or.inl h)), if_neg (fun h => hc (Or.inr h))]
        have := h4 1
        rw [h1, List.take_succ_cons] at this
        exact this
/-- A point does not part two numbers. -/
theorem partB_point (r : List UInt8) (h : r.head? = some 46) : partB r = false := by
  match r, h with
  | c :: t, h =>
    have hc : c = 46 := by simpa using h
    subst hc
    have hd : dropB (46 :: t) = 46 :: t := by
      unfold dropB Lib.trimLeftS
      rw [List.dropWhile_cons, if_neg]
      rw [bl4_has]; decide
    have hg : gapB (46 :: t) = 46 :: t := by
      unfold gapB
      rw [hd]
      show (if (46 : UInt8) = 44 then dropB t else 46 :: t) = _
      rw [if_neg (by decide)]
    unfold partB
    rw [hg]
    simp [headS, isS]
end Go.Proofs.YtfodmjdhpolnkaaDoor
