/-
  The value in a text, by the program; each theorem names its conditions.
  ReadColor of both, and the walk of its law; each theorem names its conditions.
  The library's two faults lie in their variables, where the row lays them; each theorem names its conditions.
-/
import Derived.Test.YtnkmdmmlpidcmaaDoorJAJ
import Derived.Test.YtnkmdmmlpidcmaaDoorJAL
import Derived.Test.YtnkmdmmlpidcmaaDoorJAN
import Derived.Test.YtnkmdmmlpidcmaaDoorJAO
import Derived.Test.YtnkmdmmlpidcmaaDoorJAK
import Derived.Stop.LaidErr
import Derived.LaidLaws
namespace Go.Proofs.YtnkmdmmlpidcmaaDoor
open Go.ChangeShapes Go.WideShapes Go.ChangeAt Go.RowKit
set_option linter.unusedVariables false

/-- The program's valueIn. -/
theorem ivalue (s : ByteArray) (w : World) (hs : s.size ≤ 1048576) : Calls Tryd.prog 47 #[.string s] w fun e w' => e = .returned (.tuple #[.string (if 600 < s.size then ⟨#[]⟩ else TB s), .bool (!decide (600 < s.size))]) ∧ Below w.heap.size w w' := by
  have HT : Hid _ := fun w => Any.strings_Trim_laid Tryd.lays160 (by kernel_rfl) s ⟨#[9, 10, 13, 32]⟩ w (by omega) (by decide) (ascii_of_all (by decide))
  by_cases h : 600 < s.size
  · rw [if_pos h, decide_eq_true h]
    go_enter Tryd.func47, Tryd.ntmps47
    go_wp2
    go_ret2
    exact ⟨rfl, Below.refl _ _⟩
  · rw [if_neg h, decide_eq_false h]
    have hd : decide (600 < (s.size : Int)) = false := by simp; omega
    go_enter Tryd.func47, Tryd.ntmps47
    go_wp2_with fail
    refine (HT.out _).mono ?_
    rintro e w1 ⟨rfl, hb⟩
    have HB : Hid _ := hb
    clear hb
    go_wp2
    go_ret2
    exact ⟨rfl, HB.out⟩
end Go.Proofs.YtnkmdmmlpidcmaaDoor
namespace Go.Proofs.YtnkmdmmlpidcmaaDoor
open Go.ChangeShapes Go.WideShapes Go.ChangeAt Go.RowKit
set_option linter.unusedVariables false

theorem nums_drop {t : List UInt8} (h1 : ¬ t.head? = some 35) (h2 : t.take 4 = rgbL) : colC t = numsI (t.drop 4) := by
  have h4 : 4 ≤ t.length := by
    have := congrArg List.length h2
    rw [List.length_take] at this
    have e : rgbL.length = 4 := rfl
    omega
  by_cases h5 : t.length < 5
  · have e : t.drop 4 = [] := List.eq_nil_of_length_eq_zero (by rw [List.length_drop]; omega)
    unfold colC
    rw [if_neg h1, if_pos h2, if_pos h5, e]
    rfl
  · have e1 : (t.drop 4)[(t.drop 4).length - 1]? = t[t.length - 1]? := by
      rw [List.getElem?_drop, List.length_drop]
      congr 1
      omega
    have e2 : (t.drop 4).take ((t.drop 4).length - 1) = (t.take (t.length - 1)).drop 4 := by
      rw [List.drop_take, List.length_drop, show t.length - 4 - 1 = t.length - 1 - 4 by omega]
    unfold colC numsI
    rw [if_neg h1, if_pos h2, if_neg h5, e1, e2]
theorem pre35 (t : List UInt8) : ([35] : List UInt8).isPrefixOf t = decide (t.head? = some 35) := by
  cases t with
  | nil => rfl
  | cons a l =>
    rw [Bool.eq_iff_iff]
    simp [List.isPrefixOf]
    exact eq_comm
theorem preRgb (t : List UInt8) : rgbL.isPrefixOf t = decide (t.take 4 = rgbL) := by
  rw [Bool.eq_iff_iff, List.isPrefixOf_iff_prefix, decide_eq_true_iff, List.prefix_iff_eq_take]
  exact eq_comm
set_option maxHeartbeats 4000000 in
theorem ireadColor (s : ByteArray) (w : World) (hs : s.size ≤ 1048576) (h : ErrL w) : Calls Tryd.prog 23 #[.string s] w fun e w' => e = .returned (colV (rdC s)) ∧ Nw w w' := by
  obtain ⟨W, hW⟩ : ∃ W, w.alloc (.cells #[.int .i64 0, .int .i64 0, .int .i64 0] 42) = W := ⟨_, rfl⟩
  have HCB : Hid (CB W w.heap.size) := by show CB _ _; rw [← hW]; exact CB.new w _
  have HNW : Hid (Nw w W) := by show Nw _ _; rw [← hW]; exact (Below.refl _ _).alloc (Nat.le_refl _) _
  have HW : Hid (_ = W) := hW
  have HE : Hid (ErrL W) := h.nw HNW.out
  clear hW h
  have HVI : Hid (∀ W, Calls Tryd.prog 47 #[.string s] W fun e w' => e = .returned (.tuple #[.string (if 600 < s.size then ⟨#[]⟩ else TB s), .bool (!decide (600 < s.size))]) ∧ Nw W w') := fun W => ivalue s W hs
  unfold rdC
  by_cases h6 : 600 < s.size
  · rw [if_pos h6]
    rw [if_pos h6, decide_eq_true h6] at HVI
    clear h6
    go_enter Tryd.func23, Tryd.ntmps23
    go_wp2_with fail
    rw [HW.out]
    refine Calls.mono (HVI.out _) ?_
    rintro e w1 ⟨rfl, k1⟩
    have HC1 : Hid (CB w1 w.heap.size) := HCB.out.nw k1
    have HN1 : Hid (Nw w w1) := Nw.trans HNW.out k1
    have z0 := HC1.out.c0
    have z1 := HC1.out.c1
    have z2 := HC1.out.c2
    have zf := HC1.out.fz
    obtain ⟨y0, y1, y2⟩ := set3c w1 w.heap.size (.int .i64 0) (.int .i64 0) (.int .i64 0) z0 z1 z2
    have Y : Hid _ := And.intro y0 (And.intro y1 y2)
    clear y0 y1 y2 k1
    go_wp2
    obtain ⟨y0, y1, y2⟩ := Y.out
    exact bodyPost_ret (v := colV none) (by simp [results, Tryd.results23, go_sem, y0, y1, y2, colV]) rfl ⟨rfl, Nw.set3 HN1.out (Nat.le_refl _) _ _ _⟩
  · rw [if_neg h6]
    rw [if_neg h6, decide_eq_false h6] at HVI
    have hT : TB s = bA (tmL s.data.toList) := rfl
    have hTs : (TB s).size ≤ 1048576 := by have := TB_le s; omega
    rw [hT] at HVI hTs
    clear hT
    have e : tmL s.data.toList = (bA (tmL s.data.toList)).data.toList := (bA_list _).symm
    rw [e]
    generalize bA (tmL s.data.toList) = T at *
    clear e h6
    have HP1 : Hid (∀ W, Calls Tryd.prog 48 #[.string T, .string ⟨#[35]⟩] W fun e w' => e = .returned (.tuple #[.string (bA (Lib.trimPrefix T.data.toList [35])), .bool (decide (T.data.toList.head? = some 35))]) ∧ w' = W) := fun W => by
      refine (Tryd.strings_CutPrefix T _ W).mono ?_
      rintro e w' ⟨rfl, h⟩
      exact ⟨by rw [← pre35]; rfl, h⟩
    have HP2 : Hid (∀ W, Calls Tryd.prog 48 #[.string T, .string ⟨#[114, 103, 98, 40]⟩] W fun e w' => e = .returned (.tuple #[.string (bA (Lib.trimPrefix T.data.toList rgbL)), .bool (decide (T.data.toList.take 4 = rgbL))]) ∧ w' = W) := fun W => by
      refine (Tryd.strings_CutPrefix T _ W).mono ?_
      rintro e w' ⟨rfl, h⟩
      exact ⟨by rw [← preRgb]; rfl, h⟩
    have htl : ∀ p, (bA (Lib.trimPrefix T.data.toList p)).size ≤ 1048576 := fun p => by
      rw [bA_size]
      have : (Lib.trimPrefix T.data.toList p).length ≤ T.data.toList.length := by unfold Lib.trimPrefix; split <;> simp
      rw [data_len] at this
      omega
    by_cases h1 : T.data.toList.head? = some 35
    · rw [decide_eq_true h1] at HP1
      have e1 : Lib.trimPrefix T.data.toList [35] = T.data.toList.drop 1 := by
        unfold Lib.trimPrefix Lib.hasPrefix
        rw [pre35, decide_eq_true h1]
        rfl
      have hx := htl [35]
      rw [e1] at HP1 hx
      have HS : Hid (∀ W, ErrL W → Calls Tryd.prog 49 #[.string (bA (T.data.toList.drop 1))] W fun e w' => e = .returned (colV (hashC (T.data.toList.drop 1))) ∧ Nw W w') := fun W h => by
        have := idigits (bA (T.data.toList.drop 1)) W hx h
        rw [bA_list] at this
        exact this
      rw [colC_hash h1]
      clear h1 e1 htl hx HP2
      generalize hashC (T.data.toList.drop 1) = o at *
      generalize bA (T.data.toList.drop 1) = D at *
      go_enter Tryd.func23, Tryd.ntmps23
      go_wp2_with fail
      rw [HW.out]
      refine Calls.mono (HVI.out _) ?_
      rintro e w1 ⟨rfl, k1⟩
      have HN1 : Hid (Nw W w1) := k1
      clear k1
      go_wp2_with fail
      refine Calls.mono (HP1.out _) ?_
      rintro e w2 ⟨rfl, hq⟩
      have hq2 := hq.symm; clear hq; subst hq2
      go_wp2_with fail
      refine Calls.mono (HS.out _ (HE.out.nw HN1.out)) ?_
      rintro e w3 ⟨rfl, k3⟩
      have HC1 : Hid (CB w3 w.heap.size) := (HCB.out.nw HN1.out).nw k3
      have HN3 : Hid (Nw w w3) := Nw.trans HNW.out (Nw.trans HN1.out k3)
      have z0 := HC1.out.c0
      have z1 := HC1.out.c1
      have z2 := HC1.out.c2
      have zf := HC1.out.fz
      clear k3
      cases o with
      | none =>
        obtain ⟨y0, y1, y2⟩ := set3c w3 w.heap.size (.int .i64 0) (.int .i64 0) (.int .i64 0) z0 z1 z2
        have Y : Hid _ := And.intro y0 (And.intro y1 y2)
        clear y0 y1 y2
        unfold colV
        go_wp2
        obtain ⟨y0, y1, y2⟩ := Y.out
        exact bodyPost_ret (v := colV none) (by simp [results, Tryd.results23, go_sem, y0, y1, y2, colV]) rfl ⟨rfl, Nw.set3 HN3.out (Nat.le_refl _) _ _ _⟩
      | some cl =>
        obtain ⟨y0, y1, y2⟩ := set3c w3 w.heap.size (.int .i64 cl.1) (.int .i64 cl.2.1) (.int .i64 cl.2.2) z0 z1 z2
        have Y : Hid _ := And.intro y0 (And.intro y1 y2)
        clear y0 y1 y2
        unfold colV
        go_wp2
        obtain ⟨y0, y1, y2⟩ := Y.out
        exact bodyPost_ret (v := colV (some cl)) (by simp [results, Tryd.results23, go_sem, y0, y1, y2, colV]) rfl ⟨rfl, Nw.set3 HN3.out (Nat.le_refl _) _ _ _⟩
    · rw [decide_eq_false h1] at HP1
      by_cases h2 : T.data.toList.take 4 = rgbL
      · rw [decide_eq_true h2] at HP2
        have e1 : Lib.trimPrefix T.data.toList rgbL = T.data.toList.drop 4 := by
          unfold Lib.trimPrefix Lib.hasPrefix
          rw [preRgb, decide_eq_true h2]
          rfl
        have hx := htl rgbL
        rw [e1] at HP2 hx
        have HS : Hid (∀ W, Calls Tryd.prog 50 #[.string (bA (T.data.toList.drop 4))] W fun e w' => e = .returned (colV (numsI (T.data.toList.drop 4))) ∧ Nw W w') := fun W => by
          have := inums (bA (T.data.toList.drop 4)) W hx
          rw [bA_list] at this
          exact this
        rw [nums_drop h1 h2]
        clear h1 h2 e1 htl hx
        generalize numsI (T.data.toList.drop 4) = o at *
        generalize bA (T.data.toList.drop 4) = D at *
        generalize bA (Lib.trimPrefix T.data.toList [35]) = D0 at *
        go_enter Tryd.func23, Tryd.ntmps23
        go_wp2_with fail
        rw [HW.out]
        refine Calls.mono (HVI.out _) ?_
        rintro e w1 ⟨rfl, k1⟩
        have HN1 : Hid (Nw W w1) := k1
        clear k1
        go_wp2_with fail
        refine Calls.mono (HP1.out _) ?_
        rintro e w2 ⟨rfl, hq⟩
        have hq2 := hq.symm; clear hq; subst hq2
        go_wp2_with fail
        refine Calls.mono (HP2.out _) ?_
        rintro e w2 ⟨rfl, hq⟩
        have hq2 := hq.symm; clear hq; subst hq2
        go_wp2_with fail
        refine Calls.mono (HS.out _) ?_
        rintro e w3 ⟨rfl, k3⟩
        have HC1 : Hid (CB w3 w.heap.size) := (HCB.out.nw HN1.out).nw k3
        have HN3 : Hid (Nw w w3) := Nw.trans HNW.out (Nw.trans HN1.out k3)
        have z0 := HC1.out.c0
        have z1 := HC1.out.c1
        have z2 := HC1.out.c2
        have zf := HC1.out.fz
        clear k3
        cases o with
        | none =>
          obtain ⟨y0, y1, y2⟩ := set3c w3 w.heap.size (.int .i64 0) (.int .i64 0) (.int .i64 0) z0 z1 z2
          have Y : Hid _ := And.intro y0 (And.intro y1 y2)
          clear y0 y1 y2
          unfold colV
          go_wp2
          obtain ⟨y0, y1, y2⟩ := Y.out
          exact bodyPost_ret (v := colV none) (by simp [results, Tryd.results23, go_sem, y0, y1, y2, colV]) rfl ⟨rfl, Nw.set3 HN3.out (Nat.le_refl _) _ _ _⟩
        | some cl =>
          obtain ⟨y0, y1, y2⟩ := set3c w3 w.heap.size (.int .i64 cl.1) (.int .i64 cl.2.1) (.int .i64 cl.2.2) z0 z1 z2
          have Y : Hid _ := And.intro y0 (And.intro y1 y2)
          clear y0 y1 y2
          unfold colV
          go_wp2
          obtain ⟨y0, y1, y2⟩ := Y.out
          exact bodyPost_ret (v := colV (some cl)) (by simp [results, Tryd.results23, go_sem, y0, y1, y2, colV]) rfl ⟨rfl, Nw.set3 HN3.out (Nat.le_refl _) _ _ _⟩
      · rw [decide_eq_false h2] at HP2
        have HS : Hid (∀ W, Calls Tryd.prog 51 #[.string T] W fun e w' => e = .returned (colV (nameC T.data.toList)) ∧ Nw W w') := fun W => iname T W hTs
        rw [colC_name h1 h2]
        clear h1 h2 htl
        generalize nameC T.data.toList = o at *
        generalize bA (Lib.trimPrefix T.data.toList [35]) = D0 at *
        generalize bA (Lib.trimPrefix T.data.toList rgbL) = D1 at *
        go_enter Tryd.func23, Tryd.ntmps23
        go_wp2_with fail
        rw [HW.out]
        refine Calls.mono (HVI.out _) ?_
        rintro e w1 ⟨rfl, k1⟩
        have HN1 : Hid (Nw W w1) := k1
        clear k1
        go_wp2_with fail
        refine Calls.mono (HP1.out _) ?_
        rintro e w2 ⟨rfl, hq⟩
        have hq2 := hq.symm; clear hq; subst hq2
        go_wp2_with fail
        refine Calls.mono (HP2.out _) ?_
        rintro e w2 ⟨rfl, hq⟩
        have hq2 := hq.symm; clear hq; subst hq2
        go_wp2_with fail
        refine Calls.mono (HS.out _) ?_
        rintro e w3 ⟨rfl, k3⟩
        have HC1 : Hid (CB w3 w.heap.size) := (HCB.out.nw HN1.out).nw k3
        have HN3 : Hid (Nw w w3) := Nw.trans HNW.out (Nw.trans HN1.out k3)
        have z0 := HC1.out.c0
        have z1 := HC1.out.c1
        have z2 := HC1.out.c2
        have zf := HC1.out.fz
        clear k3
        cases o with
        | none =>
          obtain ⟨y0, y1, y2⟩ := set3c w3 w.heap.size (.int .i64 0) (.int .i64 0) (.int .i64 0) z0 z1 z2
          have Y : Hid _ := And.intro y0 (And.intro y1 y2)
          clear y0 y1 y2
          unfold colV
          go_wp2
          obtain ⟨y0, y1, y2⟩ := Y.out
          exact bodyPost_ret (v := colV none) (by simp [results, Tryd.results23, go_sem, y0, y1, y2, colV]) rfl ⟨rfl, Nw.set3 HN3.out (Nat.le_refl _) _ _ _⟩
        | some cl =>
          obtain ⟨y0, y1, y2⟩ := set3c w3 w.heap.size (.int .i64 cl.1) (.int .i64 cl.2.1) (.int .i64 cl.2.2) z0 z1 z2
          have Y : Hid _ := And.intro y0 (And.intro y1 y2)
          clear y0 y1 y2
          unfold colV
          go_wp2
          obtain ⟨y0, y1, y2⟩ := Y.out
          exact bodyPost_ret (v := colV (some cl)) (by simp [results, Tryd.results23, go_sem, y0, y1, y2, colV]) rfl ⟨rfl, Nw.set3 HN3.out (Nat.le_refl _) _ _ _⟩
theorem col_form (o : Option C3) : ∃ r g b k, colV o = .tuple #[.agg #[.int .i64 r, .int .i64 g, .int .i64 b], .bool k] := by
  cases o with
  | none => exact ⟨_, _, _, _, rfl⟩
  | some c => exact ⟨_, _, _, _, rfl⟩
theorem ieqColor (r g b : Int) (w : World) : Calls Tryd.prog 24 #[.agg #[.int .i64 r, .int .i64 g, .int .i64 b], .agg #[.int .i64 r, .int .i64 g, .int .i64 b]] w fun e w' => e = .returned (.bool true) ∧ Nw w w' := by
  have HB : ∀ o1 o2, Hid (Nw w ((w.alloc o1).alloc o2)) := fun o1 o2 => ((Below.refl _ _).alloc (Nat.le_refl _) _).alloc (by simp) _
  go_enter Tryd.func24, Tryd.ntmps24
  go_wp2
  go_ret
  exact ⟨rfl, (HB _ _).out⟩
set_option maxHeartbeats 4000000 in
theorem walk_color (w : World) (he : ErrL w) (s : ByteArray) (hs : s.size ≤ maxLen) : Calls Tryd.prog 6 #[.string s] w fun e w' => e = .returned (.bool true) ∧ Below w.heap.size w w' := by
  unfold maxLen at hs
  have HE : Hid (ErrL w) := he
  clear he
  by_cases h : 1048576 < s.size
  · go_enter Tryd.func6, Tryd.ntmps6
    go_wp2
    go_ret
    exact ⟨rfl, Below.refl _ _⟩
  · have hsz : s.size ≤ 1048576 := by omega
    have hd : decide (1048576 < (s.size : Int)) = false := by simp; omega
    have HS : Hid (∀ W, Calls Tryd.prog 22 #[.string s] W fun e w' => e = .returned (colV (rdC s)) ∧ Nw W w') := fun W => sreadColor s W hsz
    have HI : Hid (∀ W, ErrL W → Calls Tryd.prog 23 #[.string s] W fun e w' => e = .returned (colV (rdC s)) ∧ Nw W w') := fun W h => ireadColor s W hsz h
    obtain ⟨r, g, b, k, hc⟩ := col_form (rdC s)
    rw [hc] at HS HI
    clear hc
    have hkk : (k != k) = false := by simp
    have HEQ : Hid (∀ W, Calls Tryd.prog 24 #[.agg #[.int .i64 r, .int .i64 g, .int .i64 b], .agg #[.int .i64 r, .int .i64 g, .int .i64 b]] W fun e w' => e = .returned (.bool true) ∧ Nw W w') := fun W => ieqColor r g b W
    have HA : ∀ W : World, Hid (∀ o, Nw W (W.alloc o)) := fun W o => (Below.refl _ _).alloc (Nat.le_refl _) _
    go_enter Tryd.func6, Tryd.ntmps6
    go_wp2_with fail
    refine Calls.mono (HS.out _) ?_
    rintro e w1 ⟨rfl, k1⟩
    have N1 : Hid (Nw w w1) := k1
    clear k1
    go_wp2_with fail
    obtain ⟨w2, hw2⟩ : ∃ w2, w1.alloc (.cells #[.int .i64 r, .int .i64 g, .int .i64 b] 42) = w2 := ⟨_, rfl⟩
    have N2 : Hid (Nw w w2) := by show Nw _ _; rw [← hw2]; exact Nw.trans N1.out ((HA _).out _)
    have hb2 : w1.heap.size < w2.heap.size := by rw [← hw2]; simp
    have q2 : ∀ w', Nw w2 w' → w'.cell? ⟨w1.heap.size, 0, none⟩ = some (.int .i64 r) ∧ w'.cell? ⟨w1.heap.size, 1, none⟩ = some (.int .i64 g) ∧ w'.cell? ⟨w1.heap.size, 2, none⟩ = some (.int .i64 b) := fun w' k => by
      refine ⟨?_, ?_, ?_⟩
      · rw [Below.cell k (p := ⟨w1.heap.size, 0, none⟩) hb2, ← hw2]; simp
      · rw [Below.cell k (p := ⟨w1.heap.size, 1, none⟩) hb2, ← hw2]; simp
      · rw [Below.cell k (p := ⟨w1.heap.size, 2, none⟩) hb2, ← hw2]; simp
    have Q2 : Hid _ := q2
    rw [hw2]
    clear hw2 hb2 q2
    refine Calls.mono (HI.out _ (HE.out.nw N2.out)) ?_
    rintro e w3 ⟨rfl, k3⟩
    obtain ⟨q0, q1, q2⟩ := Q2.out _ k3
    have hb3 : w1.heap.size < w3.heap.size := cell_lt q0
    have N3 : Hid (Nw w w3) := Nw.trans N2.out k3
    clear k3
    go_wp2_with fail
    refine Calls.mono (HEQ.out _) ?_
    rintro e w4 ⟨rfl, k4⟩
    have N4 : Hid (Nw w w4) := Nw.trans N3.out (Nw.trans ((HA _).out _) k4)
    clear k4
    go_wp2
    go_ret
    exact ⟨rfl, N4.out⟩
end Go.Proofs.YtnkmdmmlpidcmaaDoor
namespace Go.Proofs.YtnkmdmmlpidcmaaDoor
open Go.ChangeShapes Go.WideShapes Go.ChangeAt Go.RowKit
set_option linter.unusedVariables false

theorem err_star : "*" ++ "errors.errorString" = "*errors.errorString" := by decide
theorem err_row (u : TypeId) (h : Tryd.prog.typeName? 3 u = some "*errors.errorString") : u = 179 :=
  typeName_ptr_named (nm := "errors.errorString") (by rw [err_star]; kernel_rfl) (by kernel_rfl) (by decide) u (by rw [err_star]; exact h)
theorem err_cell {n : String} {text : List UInt8} {r : List (String × DataW Unit)} {W : World} {g : Nat}
    (h : laidMet Tryd.prog ((n, .iface "*errors.errorString" (.ptr (.agg [.lit (.string text)]))) :: r) W)
    (hg : Tryd.prog.globalNamed n = some g) (ht : (Tryd.prog.globals[g]?).map (·.type) = some 89) : ∃ v, W.cell? ⟨g, 0, none⟩ = some v ∧ IfV v := by
  obtain ⟨a0, s0, hv0, _⟩ := laid_sentinel h hg ht Tryd.underlying89 err_row Tryd.underlying179 Tryd.underlying181 rfl rfl Tryd.underlying9 (by kernel_rfl) (by kernel_rfl)
  exact ⟨_, by rw [World.var?_cell hg hv0 0]; rfl, Or.inr ⟨_, _, rfl⟩⟩
end Go.Proofs.YtnkmdmmlpidcmaaDoor
