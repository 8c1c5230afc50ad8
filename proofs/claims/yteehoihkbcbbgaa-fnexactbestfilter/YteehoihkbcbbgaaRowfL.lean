/-
  What FilterRow and UnfilterRow answer, of the specification, and where nothing may be filtered; each theorem names its conditions.
-/
import Derived.Test.YteehoihkbcbbgaaRowf
namespace Go.Proofs.Yteehoihkbcbbgaa
open Go.ChangeShapes Go.WideShapes Go.ChangeAt Go.RowKit
set_option linter.unusedVariables false

theorem sl3row_yes (w : World) (a1 a2 : Option Addr) (n c1 c2 : Nat) (h : RowOk n n) : Calls Try.prog 26 #[.slice a1 n c1, .slice a2 n c2] w fun e w' => e = .returned (.bool true) ∧ w' = w := by
  obtain ⟨h1, h2, h3, _⟩ := h
  have h0 : decide ((0 : Int) < (n : Int)) = true := by simp; omega
  have h4 : ((n : Int) % 4 == 0) = true := by simp; omega
  have h5 : ((n : Int) == (n : Int)) = true := by simp
  clear h2
  go_enter Try.func26, Try.ntmps26
  go_wp2
  go_ret
  exact ⟨rfl, rfl⟩
theorem sl3row_no (w : World) (a1 a2 : Option Addr) (n m c1 c2 : Nat) (hn : n ≤ 1048576) (hm : m ≤ 1048576) (h : ¬ RowOk n m) : Calls Try.prog 26 #[.slice a1 n c1, .slice a2 m c2] w fun e w' => e = .returned (.bool false) ∧ w' = w := by
  by_cases h1 : 0 < n
  · have h0 : decide ((0 : Int) < (n : Int)) = true := by simp; omega
    by_cases h2 : n % 4 = 0
    · have h4 : ((n : Int) % 4 == 0) = true := by simp; omega
      by_cases h3 : n ≤ 144
      · have h5 : m ≠ n := fun e => h ⟨h1, h2, h3, e⟩
        have h6 : ((m : Int) == (n : Int)) = false := by rw [beq_eq_false_iff_ne]; omega
        clear h h2 h5
        go_enter Try.func26, Try.ntmps26
        go_wp2
        go_ret
        exact ⟨rfl, rfl⟩
      · have h5 : decide ((n : Int) ≤ 144) = false := by simp; omega
        clear h h2 h3
        go_enter Try.func26, Try.ntmps26
        go_wp2
        go_ret
        exact ⟨rfl, rfl⟩
    · have h4 : ((n : Int) % 4 == 0) = false := by rw [beq_eq_false_iff_ne]; omega
      clear h h2
      go_enter Try.func26, Try.ntmps26
      go_wp2
      go_ret
      exact ⟨rfl, rfl⟩
  · obtain rfl : n = 0 := by omega
    have h0 : decide ((0 : Int) < ((0 : Nat) : Int)) = false := by simp
    clear h h1
    go_enter Try.func26, Try.ntmps26
    go_wp2
    go_ret
    exact ⟨rfl, rfl⟩

theorem sfilter (W : World) (kind : Nat) (hk : kind ≤ 4) (br or cr ba oa ca n : Nat) (zr za : List Int) (hn : RowOk n n) (hzr : zr.length = n) (hza : za.length = n) (hr : Lie W br or zr) (ha : Lie W ba oa za) (h8r : ∀ z ∈ zr, 0 ≤ z ∧ z ≤ 255) (h8a : ∀ z ∈ za, 0 ≤ z ∧ z ≤ 255) :
    Calls Try.prog 14 #[.int .i64 (kind : Int), .slice (some ⟨br, or, none⟩) n cr, .slice (some ⟨ba, oa, none⟩) n ca] W fun e w' => ∃ g, e = .returned (.tuple #[.slice (some ⟨g, 0, none⟩) n n, .bool true]) ∧ Nw W w' ∧ W.heap.size ≤ g ∧ At w' g (filt kind zr za) := by
  have HK : Hid _ := sl1In W (kind : Int) 0 4
  have e : decide (0 ≤ (kind : Int) ∧ (kind : Int) ≤ 4) = true := by simp; omega
  rw [e] at HK
  have HG : Hid _ := sl3row_yes W (some ⟨br, or, none⟩) (some ⟨ba, oa, none⟩) n cr ca hn
  have HF : Hid _ := sl3filter W kind hk br or cr ba oa ca n zr za _ (by have := hn.2.2.1; omega) hzr hza hr ha h8r h8a (filt_is kind zr za)
  clear hr ha h8r h8a hn hzr hza e
  go_enter Try.func14, Try.ntmps14
  go_wp2_with fail
  refine Calls.mono HK.out ?_
  rintro e w1 ⟨rfl, rfl⟩
  go_wp2_with fail
  refine Calls.mono HG.out ?_
  rintro e w1 ⟨rfl, rfl⟩
  go_wp2_with fail
  refine Calls.mono HF.out ?_
  rintro e w2 ⟨rfl, h1, h2⟩
  have H : Hid (Nw w1 w2 ∧ w1.heap.size ≤ w1.heap.size ∧ At w2 w1.heap.size (filt kind zr za)) := ⟨h1, Nat.le_refl _, h2⟩
  clear h1 h2 HK HG HF
  go_wp2
  go_ret2
  exact ⟨_, rfl, H.out⟩
theorem ifilter_no (W : World) (k : Int) (a1 a2 : Option Addr) (n m c1 c2 : Nat) (hn : n ≤ 1048576) (hm : m ≤ 1048576) (h : ¬ ((0 ≤ k ∧ k ≤ 4) ∧ RowOk n m)) :
    Calls Try.prog 15 #[.int .i64 k, .slice a1 n c1, .slice a2 m c2] W fun e w' => e = .returned (.tuple #[.slice none 0 0, .bool false]) ∧ w' = W := by
  have HK : Hid _ := igoodKind W k
  by_cases hk : 0 ≤ k ∧ k ≤ 4
  · have e : decide (0 ≤ k ∧ k ≤ 4) = true := by simp; omega
    rw [e] at HK
    have HG : Hid _ := igoodRows_no W a1 a2 n m c1 c2 hn hm (fun e => h ⟨hk, e⟩)
    clear h e hk
    go_enter Try.func15, Try.ntmps15
    go_wp2_with fail
    refine Calls.mono HK.out ?_
    rintro e w1 ⟨rfl, rfl⟩
    go_wp2_with fail
    refine Calls.mono HG.out ?_
    rintro e w1 ⟨rfl, rfl⟩
    go_wp2
    go_ret2
    exact ⟨rfl, rfl⟩
  · have e : decide (0 ≤ k ∧ k ≤ 4) = false := by simp; omega
    rw [e] at HK
    clear h e hk
    go_enter Try.func15, Try.ntmps15
    go_wp2_with fail
    refine Calls.mono HK.out ?_
    rintro e w1 ⟨rfl, rfl⟩
    go_wp2
    go_ret2
    exact ⟨rfl, rfl⟩
theorem sfilter_no (W : World) (k : Int) (a1 a2 : Option Addr) (n m c1 c2 : Nat) (hn : n ≤ 1048576) (hm : m ≤ 1048576) (h : ¬ ((0 ≤ k ∧ k ≤ 4) ∧ RowOk n m)) :
    Calls Try.prog 14 #[.int .i64 k, .slice a1 n c1, .slice a2 m c2] W fun e w' => e = .returned (.tuple #[.slice none 0 0, .bool false]) ∧ w' = W := by
  have HK : Hid _ := sl1In W k 0 4
  by_cases hk : 0 ≤ k ∧ k ≤ 4
  · have e : decide (0 ≤ k ∧ k ≤ 4) = true := by simp; omega
    rw [e] at HK
    have HG : Hid _ := sl3row_no W a1 a2 n m c1 c2 hn hm (fun e => h ⟨hk, e⟩)
    clear h e hk
    go_enter Try.func14, Try.ntmps14
    go_wp2_with fail
    refine Calls.mono HK.out ?_
    rintro e w1 ⟨rfl, rfl⟩
    go_wp2_with fail
    refine Calls.mono HG.out ?_
    rintro e w1 ⟨rfl, rfl⟩
    go_wp2
    go_ret2
    exact ⟨rfl, rfl⟩
  · have e : decide (0 ≤ k ∧ k ≤ 4) = false := by simp; omega
    rw [e] at HK
    clear h e hk
    go_enter Try.func14, Try.ntmps14
    go_wp2_with fail
    refine Calls.mono HK.out ?_
    rintro e w1 ⟨rfl, rfl⟩
    go_wp2
    go_ret2
    exact ⟨rfl, rfl⟩
theorem sunfilter (W : World) (kind : Nat) (hk : kind ≤ 4) (br or cr ba oa ca n : Nat) (zr za : List Int) (hn : RowOk n n) (hzr : zr.length = n) (hza : za.length = n) (hr : Lie W br or zr) (ha : Lie W ba oa za) (h8r : ∀ z ∈ zr, 0 ≤ z ∧ z ≤ 255) (h8a : ∀ z ∈ za, 0 ≤ z ∧ z ≤ 255) :
    Calls Try.prog 18 #[.int .i64 (kind : Int), .slice (some ⟨br, or, none⟩) n cr, .slice (some ⟨ba, oa, none⟩) n ca] W fun e w' => ∃ g, e = .returned (.tuple #[.slice (some ⟨g, 0, none⟩) n n, .bool true]) ∧ Nw W w' ∧ W.heap.size ≤ g ∧ At w' g (unf kind zr za) := by
  have HK : Hid _ := sl1In W (kind : Int) 0 4
  have e : decide (0 ≤ (kind : Int) ∧ (kind : Int) ≤ 4) = true := by simp; omega
  rw [e] at HK
  have HG : Hid _ := sl3row_yes W (some ⟨br, or, none⟩) (some ⟨ba, oa, none⟩) n cr ca hn
  have HF : Hid _ := sl3unfilter W kind hk br or cr ba oa ca n zr za _ (by have := hn.2.2.1; omega) hzr hza hr ha h8r h8a (unf_is kind zr za)
  clear hr ha h8r h8a hn hzr hza e
  go_enter Try.func18, Try.ntmps18
  go_wp2_with fail
  refine Calls.mono HK.out ?_
  rintro e w1 ⟨rfl, rfl⟩
  go_wp2_with fail
  refine Calls.mono HG.out ?_
  rintro e w1 ⟨rfl, rfl⟩
  go_wp2_with fail
  refine Calls.mono HF.out ?_
  rintro e w2 ⟨rfl, h1, h2⟩
  have H : Hid (Nw w1 w2 ∧ w1.heap.size ≤ w1.heap.size ∧ At w2 w1.heap.size (unf kind zr za)) := ⟨h1, Nat.le_refl _, h2⟩
  clear h1 h2 HK HG HF
  go_wp2
  go_ret2
  exact ⟨_, rfl, H.out⟩
theorem iunfilter_no (W : World) (k : Int) (a1 a2 : Option Addr) (n m c1 c2 : Nat) (hn : n ≤ 1048576) (hm : m ≤ 1048576) (h : ¬ ((0 ≤ k ∧ k ≤ 4) ∧ RowOk n m)) :
    Calls Try.prog 19 #[.int .i64 k, .slice a1 n c1, .slice a2 m c2] W fun e w' => e = .returned (.tuple #[.slice none 0 0, .bool false]) ∧ w' = W := by
  have HK : Hid _ := igoodKind W k
  by_cases hk : 0 ≤ k ∧ k ≤ 4
  · have e : decide (0 ≤ k ∧ k ≤ 4) = true := by simp; omega
    rw [e] at HK
    have HG : Hid _ := igoodRows_no W a1 a2 n m c1 c2 hn hm (fun e => h ⟨hk, e⟩)
    clear h e hk
    go_enter Try.func19, Try.ntmps19
    go_wp2_with fail
    refine Calls.mono HK.out ?_
    rintro e w1 ⟨rfl, rfl⟩
    go_wp2_with fail
    refine Calls.mono HG.out ?_
    rintro e w1 ⟨rfl, rfl⟩
    go_wp2
    go_ret2
    exact ⟨rfl, rfl⟩
  · have e : decide (0 ≤ k ∧ k ≤ 4) = false := by simp; omega
    rw [e] at HK
    clear h e hk
    go_enter Try.func19, Try.ntmps19
    go_wp2_with fail
    refine Calls.mono HK.out ?_
    rintro e w1 ⟨rfl, rfl⟩
    go_wp2
    go_ret2
    exact ⟨rfl, rfl⟩
theorem sunfilter_no (W : World) (k : Int) (a1 a2 : Option Addr) (n m c1 c2 : Nat) (hn : n ≤ 1048576) (hm : m ≤ 1048576) (h : ¬ ((0 ≤ k ∧ k ≤ 4) ∧ RowOk n m)) :
    Calls Try.prog 18 #[.int .i64 k, .slice a1 n c1, .slice a2 m c2] W fun e w' => e = .returned (.tuple #[.slice none 0 0, .bool false]) ∧ w' = W := by
  have HK : Hid _ := sl1In W k 0 4
  by_cases hk : 0 ≤ k ∧ k ≤ 4
  · have e : decide (0 ≤ k ∧ k ≤ 4) = true := by simp; omega
    rw [e] at HK
    have HG : Hid _ := sl3row_no W a1 a2 n m c1 c2 hn hm (fun e => h ⟨hk, e⟩)
    clear h e hk
    go_enter Try.func18, Try.ntmps18
    go_wp2_with fail
    refine Calls.mono HK.out ?_
    rintro e w1 ⟨rfl, rfl⟩
    go_wp2_with fail
    refine Calls.mono HG.out ?_
    rintro e w1 ⟨rfl, rfl⟩
    go_wp2
    go_ret2
    exact ⟨rfl, rfl⟩
  · have e : decide (0 ≤ k ∧ k ≤ 4) = false := by simp; omega
    rw [e] at HK
    clear h e hk
    go_enter Try.func18, Try.ntmps18
    go_wp2_with fail
    refine Calls.mono HK.out ?_
    rintro e w1 ⟨rfl, rfl⟩
    go_wp2
    go_ret2
    exact ⟨rfl, rfl⟩
end Go.Proofs.Yteehoihkbcbbgaa
