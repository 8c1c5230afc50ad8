/-
  ReadLength of both, and the walk of its law; for texts of at most 1048576 bytes (the law asks for no longer ones).
-/
import Derived.Test.YtfodmjdhpolnkaaDoorRdPart
namespace Go.Proofs.YtfodmjdhpolnkaaDoor
open Go.ChangeShapes Go.WideShapes Go.ChangeAt Go.RowKit
set_option linter.unusedVariables false

/-! What stands behind a number. -/
theorem kn_stop (p : List UInt8) (c : UInt8) (u : List UInt8) (h1 : isD c = false) (h2 : c ≠ 46) : kn (p ++ c :: u) = kn p := by
  obtain ⟨a, t, rfl, ha, ht⟩ := parts p
  rcases ht with rfl | ⟨d, b, rfl, hd⟩
  · rw [List.append_nil, kn_all a ha]
    exact kn_no a c u ha h1 (fun h => h2 h.1)
  · rw [List.append_assoc, List.cons_append]
    by_cases hC : d = 46 ∧ ∃ e b', b = e :: b' ∧ isD e = true
    · obtain ⟨rfl, e, b', hb, he⟩ := hC
      obtain ⟨f, v, hfv, hf, hv⟩ := parts b
      have hf1 : 1 ≤ f.length := by
        match f, hfv with
        | [], hfv =>
          rcases hv with rfl | ⟨c2, b2, rfl, hc2⟩
          · rw [hb] at hfv; simp at hfv
          · rw [hb] at hfv; simp at hfv; rw [hfv.1, hc2] at he; cases he
        | _ :: _, _ => simp
      rw [hfv, kn_pt a f v ha hf hf1 hv, List.append_assoc, kn_pt a f (v ++ c :: u) ha hf hf1]
      rcases hv with rfl | ⟨c2, b2, rfl, hc2⟩
      · exact Or.inr ⟨c, u, rfl, h1⟩
      · exact Or.inr ⟨c2, b2 ++ c :: u, rfl, hc2⟩
    · rw [kn_no a d b ha hd hC, kn_no a d (b ++ c :: u) ha hd]
      rintro ⟨h46, e, b', hb, he⟩
      apply hC
      refine ⟨h46, ?_⟩
      match b, hb with
      | [], hb =>
        rw [List.nil_append] at hb
        injection hb with h3 h4
        rw [← h3, h1] at he; cases he
      | x :: y, hb =>
        rw [List.cons_append] at hb
        injection hb with h3 h4
        exact ⟨x, y, rfl, by rw [h3]; exact he⟩
theorem dk_stop (p : List UInt8) (c : UInt8) (u : List UInt8) (h1 : isD c = false) (h2 : c ≠ 46) (h3 : c ≠ 45) (h4 : c ≠ 43) : dk (p ++ c :: u) = dk p := by
  match p with
  | [] =>
    rw [List.nil_append, dk_cons, if_neg (by rintro (h | h); exact h3 h; exact h4 h)]
    have := kn_stop [] c u h1 h2
    rw [List.nil_append] at this
    rw [this]; rfl
  | x :: p =>
    rw [List.cons_append, dk_cons, dk_cons]
    by_cases hx : x = 45 ∨ x = 43
    · rw [if_pos hx, if_pos hx, kn_stop p c u h1 h2]
    · rw [if_neg hx, if_neg hx]
      have := kn_stop (x :: p) c u h1 h2
      rw [List.cons_append] at this
      exact this

/-- The units. -/
def unAt : Nat → ByteArray × Int × Int
  | 0 => (⟨#[112, 120]⟩, 1, 1)
  | 1 => (⟨#[112, 116]⟩, 400, 300)
  | 2 => (⟨#[112, 99]⟩, 1600, 100)
  | 3 => (⟨#[105, 110]⟩, 9600, 100)
  | 4 => (⟨#[99, 109]⟩, 9600, 254)
  | _ => (⟨#[109, 109]⟩, 9600, 2540)
def unTab : Array Value := #[.string ⟨#[112, 120]⟩, .int .i64 1, .int .i64 1, .string ⟨#[112, 116]⟩, .int .i64 400, .int .i64 300, .string ⟨#[112, 99]⟩, .int .i64 1600, .int .i64 100, .string ⟨#[105, 110]⟩, .int .i64 9600, .int .i64 100, .string ⟨#[99, 109]⟩, .int .i64 9600, .int .i64 254, .string ⟨#[109, 109]⟩, .int .i64 9600, .int .i64 2540]
theorem unTab_at (k : Nat) (h : k < 6) : Value.agg (unTab.extract (k * 3) (k * 3 + 3)) = .agg #[.string (unAt k).1, .int .i64 (unAt k).2.1, .int .i64 (unAt k).2.2] := by
  have hc : k = 0 ∨ k = 1 ∨ k = 2 ∨ k = 3 ∨ k = 4 ∨ k = 5 := by omega
  rcases hc with rfl | rfl | rfl | rfl | rfl | rfl <;> rfl
theorem ix_un (k : Nat) (h : k < 6) (W : World) : (Instr.index 67 (.agg unTab) (.int .i64 (k : Int))).run Tryd.prog W = .ok (.agg #[.string (unAt k).1, .int .i64 (unAt k).2.1, .int .i64 (unAt k).2.2]) W := by
  have h2 : (0 : Int) ≤ (k : Int) ∧ (k : Int) < 6 := by omega
  have h3 := unTab_at k h
  generalize unTab = T at *
  simp [Instr.index, run_underlying Tryd.underlying67, asIntOf, h2, h, go_sem]
  simpa using h3
/-- What a length is, of what ReadFixed answers and a unit. -/
def lenR (r : Int × Bool) (mul div : Int) : Int × Bool := if r.2 = true ∧ okFix (r.1 * mul / div) = true then (r.1 * mul / div, true) else (0, false)
/-- What a unit's text says. -/
def unO (u : ByteArray) : Option (Int × Int) :=
  if u = ⟨#[]⟩ then some (1, 1) else if u = ⟨#[112, 120]⟩ then some (1, 1) else if u = ⟨#[112, 116]⟩ then some (400, 300) else if u = ⟨#[112, 99]⟩ then some (1600, 100) else if u = ⟨#[105, 110]⟩ then some (9600, 100) else if u = ⟨#[99, 109]⟩ then some (9600, 254) else if u = ⟨#[109, 109]⟩ then some (9600, 2540) else none
/-- What ReadLength answers of a text without blanks around it. -/
def lsV (t : ByteArray) : Int × Bool :=
  match unO (t.extract (dk t.data.toList) t.size) with
  | some (m, d) => lenR (rfS (t.data.toList.take (dk t.data.toList))) m d
  | none => (0, false)
def lnV (s : ByteArray) : Int × Bool := if 600 < s.size then (0, false) else lsV (TB s)
theorem ex_list (t : ByteArray) (n : Nat) : (t.extract n t.size).data.toList = t.data.toList.drop n := Lib.extract_to_end t n
theorem ba_eq {x y : ByteArray} (h : x.data.toList = y.data.toList) : x = y := by
  rw [← Lib.mk_data x, ← Lib.mk_data y, h]
theorem unO_len {u : ByteArray} {v : Int × Int} (h : unO u = some v) : u.data.toList.length = 0 ∨ u.data.toList.length = 2 := by
  unfold unO at h
  repeat' split at h
  all_goals first | (rename_i e; subst e; simp) | cases h
theorem unO_at (k : Nat) (h : k < 6) : unO (unAt k).1 = some ((unAt k).2.1, (unAt k).2.2) := by
  have hc : k = 0 ∨ k = 1 ∨ k = 2 ∨ k = 3 ∨ k = 4 ∨ k = 5 := by omega
  rcases hc with rfl | rfl | rfl | rfl | rfl | rfl <;> (unfold unO unAt; decide)
theorem unO_is {u : ByteArray} {v : Int × Int} (h : unO u = some v) : u = ⟨#[]⟩ ∨ ∃ k, k < 6 ∧ u = (unAt k).1 := by
  unfold unO at h
  repeat' split at h
  · rename_i e; exact Or.inl e
  · rename_i e; exact Or.inr ⟨0, by omega, e⟩
  · rename_i e; exact Or.inr ⟨1, by omega, e⟩
  · rename_i e; exact Or.inr ⟨2, by omega, e⟩
  · rename_i e; exact Or.inr ⟨3, by omega, e⟩
  · rename_i e; exact Or.inr ⟨4, by omega, e⟩
  · rename_i e; exact Or.inr ⟨5, by omega, e⟩
  · cases h
theorem unAt_form (k : Nat) (h : k < 6) : ∃ c d, (unAt k).1.data.toList = [c, d] ∧ isD c = false ∧ c ≠ 46 ∧ c ≠ 45 ∧ c ≠ 43 := by
  have hc : k = 0 ∨ k = 1 ∨ k = 2 ∨ k = 3 ∨ k = 4 ∨ k = 5 := by omega
  rcases hc with rfl | rfl | rfl | rfl | rfl | rfl <;> exact ⟨_, _, rfl, by decide, by decide, by decide, by decide⟩
theorem lenR_false (m d : Int) : lenR (0, false) m d = (0, false) := by unfold lenR; rw [if_neg (fun h => by cases h.1)]
theorem lenR_no {r : Int × Bool} (h : r.2 = false) (m d : Int) : lenR r m d = (0, false) := by unfold lenR; rw [if_neg (fun h2 => by rw [h] at h2; cases h2.1)]
/-- A text that ends with a unit. -/
theorem lsV_unit (t : ByteArray) (k : Nat) (hk : k < 6) (h : Lib.hasSuffix t.data.toList (unAt k).1.data.toList = true) :
    lsV t = lenR (rfS (Lib.trimSuffix t.data.toList (unAt k).1.data.toList)) (unAt k).2.1 (unAt k).2.2 := by
  obtain ⟨c, d, hu, g1, g2, g3, g4⟩ := unAt_form k hk
  have hp : ∃ p, t.data.toList = p ++ [c, d] := by
    unfold Lib.hasSuffix at h
    rw [List.isSuffixOf_iff_suffix, hu] at h
    obtain ⟨p, hp⟩ := h
    exact ⟨p, hp.symm⟩
  obtain ⟨p, hp⟩ := hp
  have ht : Lib.trimSuffix t.data.toList (unAt k).1.data.toList = p := by
    unfold Lib.trimSuffix
    rw [if_pos h, hu, hp]
    simp
  have hdk : dk t.data.toList = dk p := by rw [hp]; exact dk_stop p c [d] g1 g2 g3 g4
  have hle := dk_le p
  rw [ht]
  unfold lsV
  rw [hdk]
  by_cases he : dk p = p.length
  · have e1 : t.extract (dk p) t.size = (unAt k).1 := ba_eq (by rw [ex_list, hp, he, hu]; simp)
    have e2 : t.data.toList.take (dk p) = p := by rw [hp, he]; simp
    rw [e1, e2, unO_at k hk]
  · rw [rfS_short p (by omega), lenR_false]
    split
    · rename_i m d2 heq
      have := unO_len heq
      rw [ex_list, hp, List.length_drop] at this
      simp at this
      omega
    · rfl
/-- A text that ends with none. -/
theorem lsV_none (t : ByteArray) (h : ∀ k, k < 6 → Lib.hasSuffix t.data.toList (unAt k).1.data.toList = false) : lsV t = lenR (rfS t.data.toList) 1 1 := by
  have hle := dk_le t.data.toList
  unfold lsV
  by_cases he : dk t.data.toList = t.data.toList.length
  · have e1 : t.extract (dk t.data.toList) t.size = ⟨#[]⟩ := ba_eq (by rw [ex_list, he]; simp)
    have e2 : unO ⟨#[]⟩ = some (1, 1) := by unfold unO; rw [if_pos rfl]
    rw [e1, e2, he, List.take_length]
  · rw [rfS_short t.data.toList (by omega), lenR_false 1 1]
    split
    · rename_i m d heq
      exfalso
      rcases unO_is heq with e | ⟨k, hk, e⟩
      · have := congrArg (fun x : ByteArray => x.data.toList.length) e
        simp only at this
        rw [ex_list, List.length_drop] at this
        simp at this
        rw [Lib.size_eq] at this
        omega
      · have h1 := h k hk
        have : Lib.hasSuffix t.data.toList (unAt k).1.data.toList = true := by
          unfold Lib.hasSuffix
          rw [List.isSuffixOf_iff_suffix, ← e, ex_list]
          exact List.drop_suffix _ _
        rw [h1] at this; cases this
    · rfl
end Go.Proofs.YtfodmjdhpolnkaaDoor
