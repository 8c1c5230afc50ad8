/-
  What the program's ReadFixed answers, for texts of at most 1048576 bytes.
-/
import Derived.Test.YtfodmjdhpolnkaaDoorRfScan
namespace Go.Proofs.YtfodmjdhpolnkaaDoor
open Go.ChangeShapes Go.WideShapes Go.ChangeAt Go.RowKit

theorem rf_bad (σ : Int) (a x : List UInt8) (h : allD a = false) (h46 : ∀ y ∈ a, y ≠ 46) : rf σ (a ++ x) = (0, false) := by
  obtain ⟨d, t, e1, e2, e3⟩ := parts a
  rcases e3 with rfl | ⟨c, b, rfl, hc⟩
  · rw [List.append_nil] at e1; subst e1; rw [e2] at h; cases h
  · subst e1
    rw [List.append_assoc, List.cons_append, rf_split σ d c _ e2 hc, if_neg]
    intro hh
    exact h46 c (by simp) hh.1
theorem first46 (l : List UInt8) : (∀ y ∈ l, y ≠ 46) ∨ ∃ a b, l = a ++ 46 :: b ∧ ∀ y ∈ a, y ≠ 46 := by
  induction l with
  | nil => exact Or.inl (by simp)
  | cons x l ih =>
    by_cases h : x = 46
    · exact Or.inr ⟨[], l, by rw [h]; rfl, by simp⟩
    · rcases ih with h1 | ⟨a, b, h1, h2⟩
      · exact Or.inl (by intro y hy; rcases List.mem_cons.1 hy with rfl | hy; exact h; exact h1 y hy)
      · exact Or.inr ⟨x :: a, b, by rw [h1]; rfl, by intro y hy; rcases List.mem_cons.1 hy with rfl | hy; exact h; exact h2 y hy⟩

theorem sz (r : ByteArray) : r.data.toList.length = r.size := by simp

theorem read_any (s r : ByteArray) (σ : Int) (hσ : σ = 1 ∨ σ = -1) (w : World) (hsg : SignIs s σ r) (hr : r.size ≤ 1048576) :
    Calls Tryd.prog 34 #[.string s] w fun e w' => e = .returned (.tuple #[.int .i64 (rf σ r.data.toList).1, .bool (rf σ r.data.toList).2]) ∧ Kp w w' := by
  rcases first46 r.data.toList with h46 | ⟨a, b, hl, h46⟩
  · have hct : CutIs r r ⟨#[]⟩ false := fun w => cut_no r w (idx_none r 46 h46)
    cases hd : allD r.data.toList with
    | false =>
      have e := rf_bad σ r.data.toList [] hd h46
      rw [List.append_nil] at e
      rw [e]
      exact read_c1 s r r ⟨#[]⟩ σ false w hsg hct hr hd
    | true =>
      rw [rf_all σ _ hd]
      by_cases h8 : 8 < r.size
      · rw [if_neg (by rw [sz]; omega)]
        exact read_c3 s r r ⟨#[]⟩ σ false w hsg hct hr (by decide) hd rfl h8
      · by_cases h0 : r.size = 0
        · rw [if_neg (by rw [sz]; omega)]
          exact read_c6 s r r ⟨#[]⟩ σ w hsg hct (by omega) (by decide) hd rfl h0
        · rw [if_pos (by rw [sz]; omega)]
          have ez : num (ByteArray.mk #[48, 48, 48, 48, 48, 48]).data.toList = 0 := rfl
          rcases hσ with rfl | rfl
          · have h := val_pn s r r w hsg hct (by omega) (by omega) hd
            rw [ez, Int.add_zero] at h; exact h
          · have h := val_mn s r r w hsg hct (by omega) (by omega) hd
            rw [ez, Int.add_zero] at h; exact h
  · have hk : a.length < r.size := by rw [← sz, hl]; simp
    have hct : CutIs r (r.extract 0 a.length) (r.extract (a.length + 1) r.size) true := fun w => cut_yes r a.length w hr hk (idx_some r a b 46 hl h46)
    have eA : (r.extract 0 a.length).data.toList = a := by rw [Lib.extract_data, hl]; simp
    have eB : (r.extract (a.length + 1) r.size).data.toList = b := by rw [Lib.extract_to_end, hl]; simp
    generalize r.extract 0 a.length = A at *
    generalize r.extract (a.length + 1) r.size = B at *
    have sA : A.size = a.length := by rw [← sz, eA]
    have sB : B.size = b.length := by rw [← sz, eB]
    have sr : r.size = a.length + (b.length + 1) := by rw [← sz, hl]; simp
    cases hd : allD a with
    | false =>
      rw [hl, rf_bad σ a _ hd h46]
      exact read_c1 s r A B σ true w hsg hct (by omega) (by rw [eA]; exact hd)
    | true =>
      rw [hl, rf_split σ a 46 b hd rfl]
      cases hb : allD b with
      | false =>
        rw [if_neg (by simp)]
        exact read_c2 s r A B σ true w hsg hct (by omega) (by omega) (by rw [eA]; exact hd) (by rw [eB]; exact hb)
      | true =>
        by_cases h8 : 8 < a.length
        · rw [if_neg (by omega)]
          exact read_c3 s r A B σ true w hsg hct (by omega) (by omega) (by rw [eA]; exact hd) (by rw [eB]; exact hb) (by omega)
        by_cases h6 : 6 < b.length
        · rw [if_neg (by omega)]
          exact read_c4 s r A B σ true w hsg hct (by omega) (by omega) (by rw [eA]; exact hd) (by rw [eB]; exact hb) (by omega)
        by_cases h0 : b.length = 0
        · rw [if_neg (by omega)]
          exact read_c5 s r A B σ w hsg hct (by omega) (by omega) (by rw [eA]; exact hd) (by rw [eB]; exact hb) (by omega)
        rw [if_pos ⟨rfl, rfl, by omega, by omega, by omega⟩]
        have ep : num (B ++ (ByteArray.mk #[48, 48, 48, 48, 48, 48]).extract B.size 6).data.toList = num b * 10 ^ (6 - b.length) := by
          rw [pad_data, num_pad, eB, sB]
        rcases hσ with rfl | rfl
        · have h := val_pp s r A B w hsg hct (by omega) (by omega) (by omega) (by rw [eA]; exact hd) (by rw [eB]; exact hb)
          rw [ep, eA] at h; exact h
        · have h := val_mp s r A B w hsg hct (by omega) (by omega) (by omega) (by rw [eA]; exact hd) (by rw [eB]; exact hb)
          rw [ep, eA] at h; exact h
end Go.Proofs.YtfodmjdhpolnkaaDoor
