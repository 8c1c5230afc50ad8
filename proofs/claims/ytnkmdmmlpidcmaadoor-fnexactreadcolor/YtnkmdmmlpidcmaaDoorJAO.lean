/-
  A color's text read by the specification: digits and names; each theorem names its conditions.
  A declaration read by the specification; each theorem names its conditions.
  A text parted at a byte, and declarations read by the specification; each theorem names its conditions.
  A color's text read by the specification: numbers; each theorem names its conditions.
-/
import Derived.Test.YtnkmdmmlpidcmaaDoorJAM
import Derived.Test.YtnkmdmmlpidcmaaDoorJAN
import Derived.Test.YtnkmdmmlpidcmaaDoorJAK
import Derived.Test.YtnkmdmmlpidcmaaDoorJAI
namespace Go.Proofs.YtnkmdmmlpidcmaaDoor
open Go.ChangeShapes Go.WideShapes Go.ChangeAt Go.RowKit
set_option linter.unusedVariables false

set_option maxHeartbeats 4000000 in
theorem scolH (T : ByteArray) (s : ByteArray) (w : World) (hts : T.size ≤ 1048576) (HT0 : Hid (∀ W, Calls Tryd.prog 73 #[.string s] W fun e w' => e = .returned (.string T) ∧ w' = W)) (h0 : 0 < T.size) (hh : T.data.toList.head? = some 35) : Calls Tryd.prog 46 #[.string s] w fun e w' => e = .returned (colV (colC T.data.toList)) ∧ Nw w w' := by
  obtain ⟨W, hW⟩ : ∃ W, w.alloc (.cells #[.int .i64 0, .int .i64 0, .int .i64 0] 42) = W := ⟨_, rfl⟩
  have HCB : Hid (CB W w.heap.size) := by show CB _ _; rw [← hW]; exact CB.new w _
  have HNW : Hid (Nw w W) := by show Nw _ _; rw [← hW]; exact (Below.refl _ _).alloc (Nat.le_refl _) _
  have HW : Hid (_ = W) := hW
  clear hW
  have HA : Hid (colC T.data.toList = hashC (T.extract 1 T.size).data.toList) := by show _ = _; rw [colC_hash hh, ext_tail, bA_list]
  have hb : (T[0].toNat : Int) = 35 := by
    have := head_at T h0
    rw [this] at hh
    injection hh with hh
    rw [hh]; rfl
  have h0I : (0 : Int) < (T.size : Int) := by omega
  have HS : Hid (∀ W, Calls Tryd.prog 81 #[.string (T.extract 1 T.size)] W fun e w' => e = .returned (colV (hashC (T.extract 1 T.size).data.toList)) ∧ Nw W w') := fun W => shash _ W (by rw [ByteArray.size_extract]; omega)
  rw [HA.out]
  generalize hashC (T.extract 1 T.size).data.toList = o at *
  clear HA hh
  go_enter Tryd.func46, Tryd.ntmps46
  go_wp2_with fail
  rw [HW.out]
  refine Calls.mono (HT0.out _) ?_
  rintro e w1 ⟨rfl, hq⟩
  have hq2 := hq.symm; clear hq; subst hq2
  go_wp2_with fail
  refine Calls.mono (HS.out _) ?_
  rintro e w1 ⟨rfl, k1⟩
  have HC1 : Hid (CB w1 w.heap.size) := HCB.out.nw k1
  have HN1 : Hid (Nw w w1) := Nw.trans HNW.out k1
  clear k1
  have z0 := HC1.out.c0
  have z1 := HC1.out.c1
  have z2 := HC1.out.c2
  have zf := HC1.out.fz
  cases o with
  | none =>
    obtain ⟨y0, y1, y2⟩ := set3c w1 w.heap.size (.int .i64 0) (.int .i64 0) (.int .i64 0) z0 z1 z2
    have Y : Hid _ := And.intro y0 (And.intro y1 y2)
    clear y0 y1 y2
    unfold colV
    go_wp2
    obtain ⟨y0, y1, y2⟩ := Y.out
    exact bodyPost_ret (v := colV none) (by simp [results, Tryd.results46, go_sem, y0, y1, y2, colV]) rfl ⟨rfl, Nw.set3 HN1.out (Nat.le_refl _) _ _ _⟩
  | some cl =>
    obtain ⟨y0, y1, y2⟩ := set3c w1 w.heap.size (.int .i64 cl.1) (.int .i64 cl.2.1) (.int .i64 cl.2.2) z0 z1 z2
    have Y : Hid _ := And.intro y0 (And.intro y1 y2)
    clear y0 y1 y2
    unfold colV
    go_wp2
    obtain ⟨y0, y1, y2⟩ := Y.out
    exact bodyPost_ret (v := colV (some cl)) (by simp [results, Tryd.results46, go_sem, y0, y1, y2, colV]) rfl ⟨rfl, Nw.set3 HN1.out (Nat.le_refl _) _ _ _⟩
set_option maxHeartbeats 4000000 in
theorem scolE (T : ByteArray) (s : ByteArray) (w : World) (hts : T.size ≤ 1048576) (HT0 : Hid (∀ W, Calls Tryd.prog 73 #[.string s] W fun e w' => e = .returned (.string T) ∧ w' = W)) (h0 : T.size = 0) (HA : Hid (colC T.data.toList = nameC T.data.toList)) : Calls Tryd.prog 46 #[.string s] w fun e w' => e = .returned (colV (colC T.data.toList)) ∧ Nw w w' := by
  obtain ⟨W, hW⟩ : ∃ W, w.alloc (.cells #[.int .i64 0, .int .i64 0, .int .i64 0] 42) = W := ⟨_, rfl⟩
  have HCB : Hid (CB W w.heap.size) := by show CB _ _; rw [← hW]; exact CB.new w _
  have HNW : Hid (Nw w W) := by show Nw _ _; rw [← hW]; exact (Below.refl _ _).alloc (Nat.le_refl _) _
  have HW : Hid (_ = W) := hW
  clear hW
  have h0I : ¬ ((0 : Int) < (T.size : Int)) := by omega
  have h5 : (T.size : Int) < 5 := by omega
  clear h0
  have HS : Hid (∀ W, Calls Tryd.prog 82 #[.string T] W fun e w' => e = .returned (colV (nameC T.data.toList)) ∧ Nw W w') := fun W => snamed _ W hts
  rw [HA.out]
  generalize nameC T.data.toList = o at *
  clear HA
  go_enter Tryd.func46, Tryd.ntmps46
  go_wp2_with fail
  rw [HW.out]
  refine Calls.mono (HT0.out _) ?_
  rintro e w1 ⟨rfl, hq⟩
  have hq2 := hq.symm; clear hq; subst hq2
  go_wp2_with fail
  refine Calls.mono (HS.out _) ?_
  rintro e w1 ⟨rfl, k1⟩
  have HC1 : Hid (CB w1 w.heap.size) := HCB.out.nw k1
  have HN1 : Hid (Nw w w1) := Nw.trans HNW.out k1
  clear k1
  have z0 := HC1.out.c0
  have z1 := HC1.out.c1
  have z2 := HC1.out.c2
  have zf := HC1.out.fz
  cases o with
  | none =>
    obtain ⟨y0, y1, y2⟩ := set3c w1 w.heap.size (.int .i64 0) (.int .i64 0) (.int .i64 0) z0 z1 z2
    have Y : Hid _ := And.intro y0 (And.intro y1 y2)
    clear y0 y1 y2
    unfold colV
    go_wp2
    obtain ⟨y0, y1, y2⟩ := Y.out
    exact bodyPost_ret (v := colV none) (by simp [results, Tryd.results46, go_sem, y0, y1, y2, colV]) rfl ⟨rfl, Nw.set3 HN1.out (Nat.le_refl _) _ _ _⟩
  | some cl =>
    obtain ⟨y0, y1, y2⟩ := set3c w1 w.heap.size (.int .i64 cl.1) (.int .i64 cl.2.1) (.int .i64 cl.2.2) z0 z1 z2
    have Y : Hid _ := And.intro y0 (And.intro y1 y2)
    clear y0 y1 y2
    unfold colV
    go_wp2
    obtain ⟨y0, y1, y2⟩ := Y.out
    exact bodyPost_ret (v := colV (some cl)) (by simp [results, Tryd.results46, go_sem, y0, y1, y2, colV]) rfl ⟨rfl, Nw.set3 HN1.out (Nat.le_refl _) _ _ _⟩
set_option maxHeartbeats 4000000 in
theorem scolS (T : ByteArray) (s : ByteArray) (w : World) (hts : T.size ≤ 1048576) (HT0 : Hid (∀ W, Calls Tryd.prog 73 #[.string s] W fun e w' => e = .returned (.string T) ∧ w' = W)) (h0 : 0 < T.size) (hn : T[0] ≠ 35) (h5 : T.size < 5) (HA : Hid (colC T.data.toList = nameC T.data.toList)) : Calls Tryd.prog 46 #[.string s] w fun e w' => e = .returned (colV (colC T.data.toList)) ∧ Nw w w' := by
  obtain ⟨W, hW⟩ : ∃ W, w.alloc (.cells #[.int .i64 0, .int .i64 0, .int .i64 0] 42) = W := ⟨_, rfl⟩
  have HCB : Hid (CB W w.heap.size) := by show CB _ _; rw [← hW]; exact CB.new w _
  have HNW : Hid (Nw w W) := by show Nw _ _; rw [← hW]; exact (Below.refl _ _).alloc (Nat.le_refl _) _
  have HW : Hid (_ = W) := hW
  clear hW
  have h0I : (0 : Int) < (T.size : Int) := by omega
  have hb : ((T[0].toNat : Int) == 35) = false := by
    rw [beq_eq_false_iff_ne]
    intro e
    apply hn
    apply UInt8.toNat_inj.1
    have : (35 : UInt8).toNat = 35 := rfl
    rw [this]; omega
  clear hn
  have h5I : (T.size : Int) < 5 := by omega
  have HS : Hid (∀ W, Calls Tryd.prog 82 #[.string T] W fun e w' => e = .returned (colV (nameC T.data.toList)) ∧ Nw W w') := fun W => snamed _ W hts
  rw [HA.out]
  generalize nameC T.data.toList = o at *
  clear HA
  go_enter Tryd.func46, Tryd.ntmps46
  go_wp2_with fail
  rw [HW.out]
  refine Calls.mono (HT0.out _) ?_
  rintro e w1 ⟨rfl, hq⟩
  have hq2 := hq.symm; clear hq; subst hq2
  go_wp2_with fail
  refine Calls.mono (HS.out _) ?_
  rintro e w1 ⟨rfl, k1⟩
  have HC1 : Hid (CB w1 w.heap.size) := HCB.out.nw k1
  have HN1 : Hid (Nw w w1) := Nw.trans HNW.out k1
  clear k1
  have z0 := HC1.out.c0
  have z1 := HC1.out.c1
  have z2 := HC1.out.c2
  have zf := HC1.out.fz
  cases o with
  | none =>
    obtain ⟨y0, y1, y2⟩ := set3c w1 w.heap.size (.int .i64 0) (.int .i64 0) (.int .i64 0) z0 z1 z2
    have Y : Hid _ := And.intro y0 (And.intro y1 y2)
    clear y0 y1 y2
    unfold colV
    go_wp2
    obtain ⟨y0, y1, y2⟩ := Y.out
    exact bodyPost_ret (v := colV none) (by simp [results, Tryd.results46, go_sem, y0, y1, y2, colV]) rfl ⟨rfl, Nw.set3 HN1.out (Nat.le_refl _) _ _ _⟩
  | some cl =>
    obtain ⟨y0, y1, y2⟩ := set3c w1 w.heap.size (.int .i64 cl.1) (.int .i64 cl.2.1) (.int .i64 cl.2.2) z0 z1 z2
    have Y : Hid _ := And.intro y0 (And.intro y1 y2)
    clear y0 y1 y2
    unfold colV
    go_wp2
    obtain ⟨y0, y1, y2⟩ := Y.out
    exact bodyPost_ret (v := colV (some cl)) (by simp [results, Tryd.results46, go_sem, y0, y1, y2, colV]) rfl ⟨rfl, Nw.set3 HN1.out (Nat.le_refl _) _ _ _⟩
set_option maxHeartbeats 4000000 in
theorem scolN (T : ByteArray) (s : ByteArray) (w : World) (hts : T.size ≤ 1048576) (HT0 : Hid (∀ W, Calls Tryd.prog 73 #[.string s] W fun e w' => e = .returned (.string T) ∧ w' = W)) (h0 : 0 < T.size) (hn : T[0] ≠ 35) (h5 : ¬ T.size < 5) (h4 : ((T.extract 0 4).toList == [114, 103, 98, 40]) = false) (HA : Hid (colC T.data.toList = nameC T.data.toList)) : Calls Tryd.prog 46 #[.string s] w fun e w' => e = .returned (colV (colC T.data.toList)) ∧ Nw w w' := by
  obtain ⟨W, hW⟩ : ∃ W, w.alloc (.cells #[.int .i64 0, .int .i64 0, .int .i64 0] 42) = W := ⟨_, rfl⟩
  have HCB : Hid (CB W w.heap.size) := by show CB _ _; rw [← hW]; exact CB.new w _
  have HNW : Hid (Nw w W) := by show Nw _ _; rw [← hW]; exact (Below.refl _ _).alloc (Nat.le_refl _) _
  have HW : Hid (_ = W) := hW
  clear hW
  have h0I : (0 : Int) < (T.size : Int) := by omega
  have hb : ((T[0].toNat : Int) == 35) = false := by
    rw [beq_eq_false_iff_ne]
    intro e
    apply hn
    apply UInt8.toNat_inj.1
    have : (35 : UInt8).toNat = 35 := rfl
    rw [this]; omega
  clear hn
  have h5I : ¬ ((T.size : Int) < 5) := by omega
  have HS : Hid (∀ W, Calls Tryd.prog 82 #[.string T] W fun e w' => e = .returned (colV (nameC T.data.toList)) ∧ Nw W w') := fun W => snamed _ W hts
  rw [HA.out]
  generalize nameC T.data.toList = o at *
  clear HA
  go_enter Tryd.func46, Tryd.ntmps46
  go_wp2_with fail
  rw [HW.out]
  refine Calls.mono (HT0.out _) ?_
  rintro e w1 ⟨rfl, hq⟩
  have hq2 := hq.symm; clear hq; subst hq2
  go_wp2_with fail
  refine Calls.mono (HS.out _) ?_
  rintro e w1 ⟨rfl, k1⟩
  have HC1 : Hid (CB w1 w.heap.size) := HCB.out.nw k1
  have HN1 : Hid (Nw w w1) := Nw.trans HNW.out k1
  clear k1
  have z0 := HC1.out.c0
  have z1 := HC1.out.c1
  have z2 := HC1.out.c2
  have zf := HC1.out.fz
  cases o with
  | none =>
    obtain ⟨y0, y1, y2⟩ := set3c w1 w.heap.size (.int .i64 0) (.int .i64 0) (.int .i64 0) z0 z1 z2
    have Y : Hid _ := And.intro y0 (And.intro y1 y2)
    clear y0 y1 y2
    unfold colV
    go_wp2
    obtain ⟨y0, y1, y2⟩ := Y.out
    exact bodyPost_ret (v := colV none) (by simp [results, Tryd.results46, go_sem, y0, y1, y2, colV]) rfl ⟨rfl, Nw.set3 HN1.out (Nat.le_refl _) _ _ _⟩
  | some cl =>
    obtain ⟨y0, y1, y2⟩ := set3c w1 w.heap.size (.int .i64 cl.1) (.int .i64 cl.2.1) (.int .i64 cl.2.2) z0 z1 z2
    have Y : Hid _ := And.intro y0 (And.intro y1 y2)
    clear y0 y1 y2
    unfold colV
    go_wp2
    obtain ⟨y0, y1, y2⟩ := Y.out
    exact bodyPost_ret (v := colV (some cl)) (by simp [results, Tryd.results46, go_sem, y0, y1, y2, colV]) rfl ⟨rfl, Nw.set3 HN1.out (Nat.le_refl _) _ _ _⟩
set_option maxHeartbeats 4000000 in
theorem scolO (T : ByteArray) (s : ByteArray) (w : World) (hts : T.size ≤ 1048576) (HT0 : Hid (∀ W, Calls Tryd.prog 73 #[.string s] W fun e w' => e = .returned (.string T) ∧ w' = W)) (m : Nat) (hm : T.size = m + 1) (h0 : 0 < T.size) (hn : T[0] ≠ 35) (h5 : ¬ T.size < 5) (h4 : ((T.extract 0 4).toList == [114, 103, 98, 40]) = true) (hl : T[m] ≠ 41) (HA : Hid (colC T.data.toList = nameC T.data.toList)) : Calls Tryd.prog 46 #[.string s] w fun e w' => e = .returned (colV (colC T.data.toList)) ∧ Nw w w' := by
  obtain ⟨W, hW⟩ : ∃ W, w.alloc (.cells #[.int .i64 0, .int .i64 0, .int .i64 0] 42) = W := ⟨_, rfl⟩
  have HCB : Hid (CB W w.heap.size) := by show CB _ _; rw [← hW]; exact CB.new w _
  have HNW : Hid (Nw w W) := by show Nw _ _; rw [← hW]; exact (Below.refl _ _).alloc (Nat.le_refl _) _
  have HW : Hid (_ = W) := hW
  clear hW
  have h0I : (0 : Int) < (T.size : Int) := by omega
  have hb : ((T[0].toNat : Int) == 35) = false := by
    rw [beq_eq_false_iff_ne]
    intro e
    apply hn
    apply UInt8.toNat_inj.1
    have : (35 : UInt8).toNat = 35 := rfl
    rw [this]; omega
  clear hn
  have h5I : ¬ ((T.size : Int) < 5) := by omega
  have hlm : m < T.size := by omega
  have hidx : (T.size : Int) - 1 = (m : Int) := by omega
  have hlb : ((T[m].toNat : Int) == 41) = false := by
    rw [beq_eq_false_iff_ne]
    intro e
    apply hl
    apply UInt8.toNat_inj.1
    have : (41 : UInt8).toNat = 41 := rfl
    rw [this]; omega
  have hlb2 : ((T[m].toNat : Int) != 41) = true := by rw [bne, hlb]; rfl
  have hd5 : decide ((T.size : Int) < 5) = false := decide_eq_false h5I
  clear hl hm
  have HS : Hid (∀ W, Calls Tryd.prog 82 #[.string T] W fun e w' => e = .returned (colV (nameC T.data.toList)) ∧ Nw W w') := fun W => snamed _ W hts
  rw [HA.out]
  generalize nameC T.data.toList = o at *
  clear HA
  go_enter Tryd.func46, Tryd.ntmps46
  go_wp2_with fail
  rw [HW.out]
  refine Calls.mono (HT0.out _) ?_
  rintro e w1 ⟨rfl, hq⟩
  have hq2 := hq.symm; clear hq; subst hq2
  go_wp2_with fail
  refine Calls.mono (HS.out _) ?_
  rintro e w1 ⟨rfl, k1⟩
  have HC1 : Hid (CB w1 w.heap.size) := HCB.out.nw k1
  have HN1 : Hid (Nw w w1) := Nw.trans HNW.out k1
  clear k1
  have z0 := HC1.out.c0
  have z1 := HC1.out.c1
  have z2 := HC1.out.c2
  have zf := HC1.out.fz
  cases o with
  | none =>
    obtain ⟨y0, y1, y2⟩ := set3c w1 w.heap.size (.int .i64 0) (.int .i64 0) (.int .i64 0) z0 z1 z2
    have Y : Hid _ := And.intro y0 (And.intro y1 y2)
    clear y0 y1 y2
    unfold colV
    go_wp2
    obtain ⟨y0, y1, y2⟩ := Y.out
    exact bodyPost_ret (v := colV none) (by simp [results, Tryd.results46, go_sem, y0, y1, y2, colV]) rfl ⟨rfl, Nw.set3 HN1.out (Nat.le_refl _) _ _ _⟩
  | some cl =>
    obtain ⟨y0, y1, y2⟩ := set3c w1 w.heap.size (.int .i64 cl.1) (.int .i64 cl.2.1) (.int .i64 cl.2.2) z0 z1 z2
    have Y : Hid _ := And.intro y0 (And.intro y1 y2)
    clear y0 y1 y2
    unfold colV
    go_wp2
    obtain ⟨y0, y1, y2⟩ := Y.out
    exact bodyPost_ret (v := colV (some cl)) (by simp [results, Tryd.results46, go_sem, y0, y1, y2, colV]) rfl ⟨rfl, Nw.set3 HN1.out (Nat.le_refl _) _ _ _⟩
end Go.Proofs.YtnkmdmmlpidcmaaDoor
namespace Go.Proofs.YtnkmdmmlpidcmaaDoor
open Go.ChangeShapes Go.WideShapes Go.ChangeAt Go.RowKit
set_option linter.unusedVariables false

theorem TB_bA (s : ByteArray) : TB s = bA (tmL s.data.toList) := rfl
theorem strimL (s : ByteArray) (w : World) (hs : s.size ≤ 1048576) : Calls Tryd.prog 73 #[.string s] w fun e w' => e = .returned (.string (bA (tmL s.data.toList))) ∧ w' = w := strim s w hs
/-- What is left of the declaration's value. -/
def vlS (v : List UInt8) : List UInt8 := (valS v).1
theorem suf_at {v : List UInt8} : markL10.isSuffixOf v = decide (10 ≤ v.length ∧ v.drop (v.length - 10) = markL10) := by
  rw [Bool.eq_iff_iff, List.isSuffixOf_iff_suffix, decide_eq_true_eq]
  constructor
  · intro h
    have hl := h.length_le
    refine ⟨hl, ?_⟩
    obtain ⟨t, ht⟩ := h
    rw [← ht]
    have : (t ++ markL10).length - 10 = t.length := by rw [List.length_append]; show t.length + 10 - 10 = _; omega
    rw [this, List.drop_left]
  · rintro ⟨h1, h2⟩
    exact ⟨v.take (v.length - 10), by rw [← h2, List.take_append_drop]⟩
theorem Bx3.s1 {b : Nat} {w : World} {u0 u1 u2 : Value} (h : Bx3 b w u0 u1 u2) (v : Value) : Bx3 b (w.setCell ⟨b, 1, none⟩ v) u0 v u2 := by
  have far : ∀ x, x ≠ 1 → (w.setCell ⟨b, 1, none⟩ v).cell? ⟨b, x, none⟩ = w.cell? ⟨b, x, none⟩ := fun x hx => World.cell?_setCell_other _ _ _ _ (fun e => by injection e; omega)
  exact ⟨(far 0 (by omega)).trans h.c0, World.cell?_setCell_same w ⟨b, 1, none⟩ _ h.c1, (far 2 (by omega)).trans h.c2, fun o => by rw [World.frozen?_setCell]; exact h.fz o⟩
theorem Bx3.s2 {b : Nat} {w : World} {u0 u1 u2 : Value} (h : Bx3 b w u0 u1 u2) (v : Value) : Bx3 b (w.setCell ⟨b, 2, none⟩ v) u0 u1 v := by
  have far : ∀ x, x ≠ 2 → (w.setCell ⟨b, 2, none⟩ v).cell? ⟨b, x, none⟩ = w.cell? ⟨b, x, none⟩ := fun x hx => World.cell?_setCell_other _ _ _ _ (fun e => by injection e; omega)
  exact ⟨(far 0 (by omega)).trans h.c0, (far 1 (by omega)).trans h.c1, World.cell?_setCell_same w ⟨b, 2, none⟩ _ h.c2, fun o => by rw [World.frozen?_setCell]; exact h.fz o⟩
theorem Bx3.off {b : Nat} {w : World} {u0 u1 u2 : Value} (h : Bx3 b w u0 u1 u2) (b2 o : Nat) (v : Value) (hne : b ≠ b2) : Bx3 b (w.setCell ⟨b2, o, none⟩ v) u0 u1 u2 := by
  have far : ∀ x, (w.setCell ⟨b2, o, none⟩ v).cell? ⟨b, x, none⟩ = w.cell? ⟨b, x, none⟩ := fun x => World.cell?_setCell_other _ _ _ _ (fun e => by injection e; omega)
  exact ⟨(far 0).trans h.c0, (far 1).trans h.c1, (far 2).trans h.c2, fun x => by rw [World.frozen?_setCell]; exact h.fz x⟩
set_option maxRecDepth 100000 in
set_option maxHeartbeats 16000000 in
theorem sdecl (s : ByteArray) (w : World) (hs : s.size ≤ 1048576) :
    Calls Tryd.prog 53 #[.string s] w fun e w' => DeclSays s e ∧ Nw w w' := by
  have hDP : declP s = (declS s.data.toList).map fun d => ⟨bA d.1, bA d.2.1, d.2.2⟩ := by unfold declP; rw [← decl_one]
  have h1 := tm_len s.data.toList
  rw [data_len] at h1
  unfold declS at hDP
  have HB0 : Hid (Bx3 w.heap.size (w.alloc (.cells #[.string ⟨#[]⟩, .string ⟨#[]⟩, .bool false] 50)) (.string ⟨#[]⟩) (.string ⟨#[]⟩) (.bool false)) := Bx3.new _ _ _ _ _
  have HN0 : Hid (Nw w (w.alloc (.cells #[.string ⟨#[]⟩, .string ⟨#[]⟩, .bool false] 50))) := (Below.refl _ _).alloc (Nat.le_refl _) _
  have HDP : Hid _ := hDP
  clear hDP
  have HT0 : Hid (∀ W, Calls Tryd.prog 73 #[.string s] W fun e w' => e = .returned (.string (bA (tmL s.data.toList))) ∧ w' = W) := fun W => strimL s W hs
  generalize tmL s.data.toList = T at *
  have hrl := runL_le T
  have hT : (bA T).size = T.length := bA_size T
  have HR0 : Hid (∀ W, Calls Tryd.prog 91 #[.string (bA T)] W fun e w' => e = .returned (.int .i64 (runL T : Nat)) ∧ w' = W) := fun W => by
    have := srunL W (bA T) (by rw [hT]; omega)
    rw [bA_list] at this
    exact this
  go_enter Tryd.func53, Tryd.ntmps53
  go_wp2_with fail
  generalize w.alloc (.cells #[.string ⟨#[]⟩, .string ⟨#[]⟩, .bool false] 50) = W at *
  refine Calls.mono (HT0.out _) ?_
  rintro e w1 ⟨rfl, hq⟩
  have hq2 := hq.symm; clear hq; subst hq2
  go_wp2_with fail
  refine Calls.mono (HR0.out _) ?_
  rintro e w1 ⟨rfl, hq⟩
  have hq2 := hq.symm; clear hq; subst hq2
  obtain ⟨z0, z1, z2, zf⟩ := HB0.out
  by_cases hn : runL T = 0
  · have HX : Hid (declP s = none) := by show declP s = none; rw [HDP.out, if_pos hn]; rfl
    rw [hn]
    obtain ⟨y0, y1, y2⟩ := set3d W w.heap.size (.string ⟨#[]⟩) (.string ⟨#[]⟩) (.bool false) z0 z1 z2
    clear hn
    go_wp2
    refine bodyPost_ret (v := .tuple #[.agg #[.string ⟨#[]⟩, .string ⟨#[]⟩, .bool false], .bool false]) (by simp [results, Tryd.results53, go_sem, y0, y1, y2]) rfl ⟨Or.inr ⟨HX.out, _, _, _, rfl⟩, ?_⟩
    exact ((HN0.out.setCell (Nat.le_refl _) _).setCell (Nat.le_refl _) _).setCell (Nat.le_refl _) _
  · have hdp := HDP.out
    rw [if_neg hn] at hdp
    have HD1 : Hid _ := hdp
    clear hdp HDP
    have HE1 : Hid ((bA T).extract 0 (runL T) = bA (T.take (runL T))) := by show _ = _; rw [ext_head, bA_list]
    have HE2 : Hid ((bA T).extract (runL T) (bA T).size = bA (T.drop (runL T))) := by show _ = _; rw [ext_tail, bA_list]
    rw [hT] at HE2
    have HL1 : Hid (∀ W, Calls Tryd.prog 72 #[.string (bA (T.take (runL T)))] W fun e w' => e = .returned (.string (bA (lowL (T.take (runL T))))) ∧ Nw W w') := fun W => by
      have := slow (bA (T.take (runL T))) W (by rw [bA_size, List.length_take]; omega)
      rw [bA_list] at this
      exact this
    have HT1 : Hid (∀ W, Calls Tryd.prog 73 #[.string (bA (T.drop (runL T)))] W fun e w' => e = .returned (.string (bA (tmL (T.drop (runL T))))) ∧ w' = W) := fun W => by
      have := strimL (bA (T.drop (runL T))) W (by rw [bA_size, List.length_drop]; omega)
      rw [bA_list] at this
      exact this
    have hr2 := tm_len (T.drop (runL T))
    rw [List.length_drop] at hr2
    generalize runL T = n at *
    have hnI : ((n : Int) == 0) = false := by simp; omega
    generalize tmL (T.drop n) = R at *
    generalize lowL (T.take n) = LN at *
    generalize bA (T.take n) = TN at *
    generalize bA (T.drop n) = TD at *
    generalize bA T = BT at *
    go_wp2_with fail
    rw [HE1.out]
    refine Calls.mono (HL1.out _) ?_
    rintro e w2 ⟨rfl, k2⟩
    have HB2 : Hid _ := HB0.out.nw k2
    have HN2 : Hid (Nw w w2) := Nw.trans HN0.out k2
    clear k2 z0 z1 z2 zf
    go_wp2_with fail
    rw [HE2.out]
    refine Calls.mono (HT1.out _) ?_
    rintro e w3 ⟨rfl, hq⟩
    have hq2 := hq.symm; clear hq; subst hq2
    have HB3 : Hid (Bx3 w.heap.size (w2.alloc (.cells #[.string (bA LN), .string ⟨#[]⟩, .bool false] 50)) (.string ⟨#[]⟩) (.string ⟨#[]⟩) (.bool false)) := HB2.out.nw ((Below.refl _ _).alloc (Nat.le_refl _) _)
    have HC3 : Hid (Bx3 w2.heap.size (w2.alloc (.cells #[.string (bA LN), .string ⟨#[]⟩, .bool false] 50)) (.string (bA LN)) (.string ⟨#[]⟩) (.bool false)) := Bx3.new _ _ _ _ _
    have HN3 : Hid (Nw w (w2.alloc (.cells #[.string (bA LN), .string ⟨#[]⟩, .bool false] 50))) := Nw.trans HN2.out ((Below.refl _ _).alloc (Nat.le_refl _) _)
    have hbl : w.heap.size < w2.heap.size := HB2.out.lt
    clear HB2
    generalize hW3 : w2.alloc (.cells #[.string (bA LN), .string ⟨#[]⟩, .bool false] 50) = W3 at *
    clear hW3
    obtain ⟨z0, z1, z2, zf⟩ := HB3.out
    have hRs : (bA R).size = R.length := bA_size R
    have hcells := HC3.out
    obtain ⟨p0, p1, p2, pf⟩ := hcells
    cases R with
    | nil =>
      have HX : Hid (declP s = none) := by show declP s = none; rw [HD1.out]; rfl
      have hb0 : bA ([] : List UInt8) = ⟨#[]⟩ := rfl
      rw [hb0]
      clear HC3 p0 p1 p2 pf hRs
      obtain ⟨y0, y1, y2⟩ := set3d W3 w.heap.size (.string ⟨#[]⟩) (.string ⟨#[]⟩) (.bool false) z0 z1 z2
      go_wp2
      refine bodyPost_ret (v := .tuple #[.agg #[.string ⟨#[]⟩, .string ⟨#[]⟩, .bool false], .bool false]) (by simp [results, Tryd.results53, go_sem, y0, y1, y2]) rfl ⟨Or.inr ⟨HX.out, _, _, _, rfl⟩, ?_⟩
      exact ((HN3.out.setCell (Nat.le_refl _) _).setCell (Nat.le_refl _) _).setCell (Nat.le_refl _) _
    | cons c v =>
      have hb0 : 0 < (bA (c :: v)).size := by rw [bA_size]; simp
      have hbc : (bA (c :: v))[0]'hb0 = c := by rw [getB]; simp [bA]
      have hlen : (((bA (c :: v)).size : Int) == 0) = false := by rw [beq_eq_false_iff_ne]; omega
      have HE3 : Hid ((bA (c :: v)).extract 1 (bA (c :: v)).size = bA v) := by show _ = _; rw [ext_tail, bA_list]; rfl
      by_cases h58 : c = 58
      · subst h58
        have g58 : ((((bA (58 :: v))[0]'hb0).toNat : Int) == 58) = true := by rw [hbc]; rfl
        have g58' : ((((bA (58 :: v))[0]'hb0).toNat : Int) != 58) = false := by rw [hbc]; rfl
        have HD2 : Hid (declP s = if fit60 (valS (tmL v)).1 then some ⟨bA LN, bA (valS (tmL v)).1, (valS (tmL v)).2⟩ else none) := by
          show _ = _
          rw [HD1.out]
          simp only [if_true]
          split <;> rfl
        have hvl : v.length ≤ 1048576 := by simp at hr2; omega
        have hv1 := tm_len v
        have HT2 : Hid (∀ W, Calls Tryd.prog 73 #[.string (bA v)] W fun e w' => e = .returned (.string (bA (tmL v))) ∧ w' = W) := fun W => by
          have := strimL (bA v) W (by rw [bA_size]; omega)
          rw [bA_list] at this
          exact this
        clear hbc HD1 hRs hr2
        generalize tmL v = V1 at *
        generalize bA v = BV at *
        generalize bA (58 :: v) = BR at *
        go_wp2_with fail
        rw [HE3.out]
        refine Calls.mono (HT2.out _) ?_
        rintro e w4 ⟨rfl, hq⟩
        have hq2 := hq.symm; clear hq; subst hq2
        have hV1 : (bA V1).size = V1.length := bA_size V1
        have hS1 : (bA V1).size ≤ 1048576 := by rw [hV1]; omega
        by_cases h10 : 10 ≤ V1.length
        · have h10I : (10 : Int) ≤ ((bA V1).size : Int) := by rw [hV1]; omega
          have HE4 : Hid ((bA V1).extract (V1.length - 10) V1.length = bA (V1.drop (V1.length - 10))) := by show _ = _; rw [← hV1, ext_tail, bA_list, hV1]
          have HE5 : Hid ((bA V1).extract 0 (V1.length - 10) = bA (V1.take (V1.length - 10))) := by show _ = _; rw [ext_head, bA_list]
          by_cases hm : V1.drop (V1.length - 10) = markL10
          · have hsuf : markL10.isSuffixOf V1 = true := by rw [suf_at]; exact decide_eq_true ⟨h10, hm⟩
            have hmb : ((bA (V1.drop (V1.length - 10))).toList == [33, 105, 109, 112, 111, 114, 116, 97, 110, 116]) = true := by
              rw [hm, ByteArray.toList_eq, bA_list]; rfl
            have HDE : Hid (declP s = if fit60 (tmL (V1.take (V1.length - 10))) then some ⟨bA LN, bA (tmL (V1.take (V1.length - 10))), true⟩ else none) := by
              show _ = _
              rw [HD2.out]
              unfold valS
              rw [if_pos hsuf]
            have HT3 : Hid (∀ W, Calls Tryd.prog 73 #[.string (bA (V1.take (V1.length - 10)))] W fun e w' => e = .returned (.string (bA (tmL (V1.take (V1.length - 10))))) ∧ w' = W) := fun W => by
              have := strimL (bA (V1.take (V1.length - 10))) W (by rw [bA_size, List.length_take]; omega)
              rw [bA_list] at this
              exact this
            have hvs := bA_size (tmL (V1.take (V1.length - 10)))
            have hvt := tm_len (V1.take (V1.length - 10))
            rw [List.length_take] at hvt
            generalize tmL (V1.take (V1.length - 10)) = VL at *
            have hVL : VL.length ≤ 1048576 := by omega
            obtain ⟨X8, hX8⟩ : ∃ X8, W3.setCell ⟨w2.heap.size, 2, none⟩ (.bool true) = X8 := ⟨_, rfl⟩
            have HX8 : Hid (W3.setCell ⟨w2.heap.size, 2, none⟩ (.bool true) = X8) := hX8
            have HC8 : Hid (Bx3 w2.heap.size X8 (.string (bA LN)) (.string ⟨#[]⟩) (.bool true)) := by show Bx3 _ _ _ _ _; rw [← hX8]; exact HC3.out.s2 _
            have HB8 : Hid (Bx3 w.heap.size X8 (.string ⟨#[]⟩) (.string ⟨#[]⟩) (.bool false)) := by show Bx3 _ _ _ _ _; rw [← hX8]; exact HB3.out.off _ _ _ (by omega)
            have HN8 : Hid (Nw w X8) := by show Nw _ _; rw [← hX8]; exact HN3.out.setCell (by show w.heap.size ≤ w2.heap.size; omega) _
            obtain ⟨X9, hX9⟩ : ∃ X9, X8.setCell ⟨w2.heap.size, 1, none⟩ (.string (bA VL)) = X9 := ⟨_, rfl⟩
            have HX9 : Hid (X8.setCell ⟨w2.heap.size, 1, none⟩ (.string (bA VL)) = X9) := hX9
            have HPB : Hid (Bx3 w2.heap.size X9 (.string (bA LN)) (.string (bA VL)) (.bool true)) := by show Bx3 _ _ _ _ _; rw [← hX9]; exact HC8.out.s1 _
            have HZB : Hid (Bx3 w.heap.size X9 (.string ⟨#[]⟩) (.string ⟨#[]⟩) (.bool false)) := by show Bx3 _ _ _ _ _; rw [← hX9]; exact HB8.out.off _ _ _ (by omega)
            have HN9 : Hid (Nw w X9) := by show Nw _ _; rw [← hX9]; exact HN8.out.setCell (by show w.heap.size ≤ w2.heap.size; omega) _
            clear hX8 hX9 hsuf hm hvt
            generalize bA (V1.take (V1.length - 10)) = B10 at *
            generalize bA (V1.drop (V1.length - 10)) = D10 at *
            generalize bA V1 = BV1 at *
            have hx1 := HE4.out
            go_wp2_with fail
            rw [HX8.out, HE5.out]
            refine Calls.mono (HT3.out _) ?_
            rintro e w5 ⟨rfl, hq⟩
            have hq2 := hq.symm; clear hq; subst hq2
            obtain ⟨r0, r1, r2, rf⟩ := HC8.out
            clear z0 z1 z2 zf p0 p1 p2 pf
            go_wp2
            rw [HX9.out]
            clear r0 r1 r2 rf
            obtain ⟨p0, p1, p2, pf⟩ := HPB.out
            obtain ⟨z0, z1, z2, zf⟩ := HZB.out
            obtain ⟨_, _, y2⟩ := set3d X9 w.heap.size (.string (bA LN)) (.string (bA VL)) (.bool true) z0 z1 z2
            have y0 := World.cell?_setCell_same X9 ⟨w.heap.size, 0, none⟩ (.string (bA LN)) z0
            have y1 := World.cell?_setCell_same (X9.setCell ⟨w.heap.size, 0, none⟩ (.string (bA LN))) ⟨w.heap.size, 1, none⟩ (.string (bA VL)) ((World.cell?_setCell_other _ _ _ _ (fun e => by injection e; omega)).trans z1)
            have q0 : X9.drew.cell? ⟨w2.heap.size, 0, none⟩ = some (.string (bA LN)) := p0
            have q1 : X9.drew.cell? ⟨w2.heap.size, 1, none⟩ = some (.string (bA VL)) := p1
            have q2 : X9.drew.cell? ⟨w2.heap.size, 2, none⟩ = some (.bool true) := p2
            have e0 : X9.drew.cell? ⟨w.heap.size, 0, none⟩ = some (.string ⟨#[]⟩) := z0
            have e1 : X9.drew.cell? ⟨w.heap.size, 1, none⟩ = some (.string ⟨#[]⟩) := z1
            have e2 : X9.drew.cell? ⟨w.heap.size, 2, none⟩ = some (.bool false) := z2
            have ef : ∀ o, X9.drew.frozen? ⟨w.heap.size, o, none⟩ = false := zf
            have HND : Hid (Nw w X9.drew) := Below.drew HN9.out
            have HIN : Hid (∀ W, Calls Tryd.prog 68 #[.int .i64 (VL.length : Int), .int .i64 1, .int .i64 60] W fun e w' => e = .returned (.bool (fit60 VL)) ∧ w' = W) := fun W => by
              have := in_any W VL.length 1 60
              have e : decide ((1 : Int) ≤ (VL.length : Int) ∧ (VL.length : Int) ≤ 60) = fit60 VL := by unfold fit60; rw [Bool.eq_iff_iff, decide_eq_true_eq, decide_eq_true_eq]; omega
              rw [e] at this
              exact this
            generalize fit60 VL = ft at *
            go_region_with (go_at_call 68; refine (HIN.out _).mono ?_; rintro e w' ⟨rfl, hq⟩; have hq2 := hq.symm; clear hq; subst hq2)
            all_goals
              go_wp2
              refine bodyPost_ret (v := .tuple #[.agg #[.string (bA LN), .string (bA VL), .bool true], .bool ft]) (by simp [results, Tryd.results53, go_sem, y0, y1, y2]) rfl ⟨?_, ((HND.out.setCell (Nat.le_refl _) _).setCell (Nat.le_refl _) _).setCell (Nat.le_refl _) _⟩
              cases ft with
              | true => exact Or.inl ⟨⟨bA LN, bA VL, true⟩, by rw [HDE.out]; rfl, rfl⟩
              | false => exact Or.inr ⟨by rw [HDE.out]; rfl, _, _, _, rfl⟩
          · have hsuf : markL10.isSuffixOf V1 = false := by rw [suf_at]; exact decide_eq_false (fun h => hm h.2)
            have hmb : ((bA (V1.drop (V1.length - 10))).toList == [33, 105, 109, 112, 111, 114, 116, 97, 110, 116]) = false := by
              rw [beq_eq_false_iff_ne, ByteArray.toList_eq, bA_list]; exact hm
            have HDE : Hid (declP s = if fit60 V1 then some ⟨bA LN, bA V1, false⟩ else none) := by
              show _ = _
              rw [HD2.out]
              unfold valS
              rw [hsuf]
              simp only [Bool.false_eq_true, if_false]
            obtain ⟨X9, hX9⟩ : ∃ X9, W3.setCell ⟨w2.heap.size, 1, none⟩ (.string (bA V1)) = X9 := ⟨_, rfl⟩
            have HX9 : Hid (W3.setCell ⟨w2.heap.size, 1, none⟩ (.string (bA V1)) = X9) := hX9
            have HPB : Hid (Bx3 w2.heap.size X9 (.string (bA LN)) (.string (bA V1)) (.bool false)) := by show Bx3 _ _ _ _ _; rw [← hX9]; exact HC3.out.s1 _
            have HZB : Hid (Bx3 w.heap.size X9 (.string ⟨#[]⟩) (.string ⟨#[]⟩) (.bool false)) := by show Bx3 _ _ _ _ _; rw [← hX9]; exact HB3.out.off _ _ _ (by omega)
            have HN9 : Hid (Nw w X9) := by show Nw _ _; rw [← hX9]; exact HN3.out.setCell (by show w.heap.size ≤ w2.heap.size; omega) _
            clear hX9 hsuf
            have hx1 := HE4.out
            generalize bA (V1.drop (V1.length - 10)) = D10 at *
            go_wp2
            rw [HX9.out]
            clear p0 p1 p2 pf z0 z1 z2 zf hx1 hmb
            generalize V1 = VL at *
            obtain ⟨p0, p1, p2, pf⟩ := HPB.out
            obtain ⟨z0, z1, z2, zf⟩ := HZB.out
            obtain ⟨_, _, y2⟩ := set3d X9 w.heap.size (.string (bA LN)) (.string (bA VL)) (.bool false) z0 z1 z2
            have y0 := World.cell?_setCell_same X9 ⟨w.heap.size, 0, none⟩ (.string (bA LN)) z0
            have y1 := World.cell?_setCell_same (X9.setCell ⟨w.heap.size, 0, none⟩ (.string (bA LN))) ⟨w.heap.size, 1, none⟩ (.string (bA VL)) ((World.cell?_setCell_other _ _ _ _ (fun e => by injection e; omega)).trans z1)
            have q0 : X9.drew.cell? ⟨w2.heap.size, 0, none⟩ = some (.string (bA LN)) := p0
            have q1 : X9.drew.cell? ⟨w2.heap.size, 1, none⟩ = some (.string (bA VL)) := p1
            have q2 : X9.drew.cell? ⟨w2.heap.size, 2, none⟩ = some (.bool false) := p2
            have e0 : X9.drew.cell? ⟨w.heap.size, 0, none⟩ = some (.string ⟨#[]⟩) := z0
            have e1 : X9.drew.cell? ⟨w.heap.size, 1, none⟩ = some (.string ⟨#[]⟩) := z1
            have e2 : X9.drew.cell? ⟨w.heap.size, 2, none⟩ = some (.bool false) := z2
            have ef : ∀ o, X9.drew.frozen? ⟨w.heap.size, o, none⟩ = false := zf
            have HND : Hid (Nw w X9.drew) := Below.drew HN9.out
            have HIN : Hid (∀ W, Calls Tryd.prog 68 #[.int .i64 (VL.length : Int), .int .i64 1, .int .i64 60] W fun e w' => e = .returned (.bool (fit60 VL)) ∧ w' = W) := fun W => by
              have := in_any W VL.length 1 60
              have e : decide ((1 : Int) ≤ (VL.length : Int) ∧ (VL.length : Int) ≤ 60) = fit60 VL := by unfold fit60; rw [Bool.eq_iff_iff, decide_eq_true_eq, decide_eq_true_eq]; omega
              rw [e] at this
              exact this
            generalize fit60 VL = ft at *
            go_region_with (go_at_call 68; refine (HIN.out _).mono ?_; rintro e w' ⟨rfl, hq⟩; have hq2 := hq.symm; clear hq; subst hq2)
            all_goals
              go_wp2
              refine bodyPost_ret (v := .tuple #[.agg #[.string (bA LN), .string (bA VL), .bool false], .bool ft]) (by simp [results, Tryd.results53, go_sem, y0, y1, y2]) rfl ⟨?_, ((HND.out.setCell (Nat.le_refl _) _).setCell (Nat.le_refl _) _).setCell (Nat.le_refl _) _⟩
              cases ft with
              | true => exact Or.inl ⟨⟨bA LN, bA VL, false⟩, by rw [HDE.out]; rfl, rfl⟩
              | false => exact Or.inr ⟨by rw [HDE.out]; rfl, _, _, _, rfl⟩
        · have h10I : ¬ ((10 : Int) ≤ ((bA V1).size : Int)) := by rw [hV1]; omega
          have hsuf : markL10.isSuffixOf V1 = false := by rw [suf_at]; exact decide_eq_false (fun h => h10 h.1)
          have HDE : Hid (declP s = if fit60 V1 then some ⟨bA LN, bA V1, false⟩ else none) := by
            show _ = _
            rw [HD2.out]
            unfold valS
            rw [hsuf]
            simp only [Bool.false_eq_true, if_false]
          obtain ⟨X9, hX9⟩ : ∃ X9, W3.setCell ⟨w2.heap.size, 1, none⟩ (.string (bA V1)) = X9 := ⟨_, rfl⟩
          have HX9 : Hid (W3.setCell ⟨w2.heap.size, 1, none⟩ (.string (bA V1)) = X9) := hX9
          have HPB : Hid (Bx3 w2.heap.size X9 (.string (bA LN)) (.string (bA V1)) (.bool false)) := by show Bx3 _ _ _ _ _; rw [← hX9]; exact HC3.out.s1 _
          have HZB : Hid (Bx3 w.heap.size X9 (.string ⟨#[]⟩) (.string ⟨#[]⟩) (.bool false)) := by show Bx3 _ _ _ _ _; rw [← hX9]; exact HB3.out.off _ _ _ (by omega)
          have HN9 : Hid (Nw w X9) := by show Nw _ _; rw [← hX9]; exact HN3.out.setCell (by show w.heap.size ≤ w2.heap.size; omega) _
          clear hX9 hsuf
          go_wp2
          rw [HX9.out]
          clear p0 p1 p2 pf z0 z1 z2 zf
          generalize V1 = VL at *
          obtain ⟨p0, p1, p2, pf⟩ := HPB.out
          obtain ⟨z0, z1, z2, zf⟩ := HZB.out
          obtain ⟨_, _, y2⟩ := set3d X9 w.heap.size (.string (bA LN)) (.string (bA VL)) (.bool false) z0 z1 z2
          have y0 := World.cell?_setCell_same X9 ⟨w.heap.size, 0, none⟩ (.string (bA LN)) z0
          have y1 := World.cell?_setCell_same (X9.setCell ⟨w.heap.size, 0, none⟩ (.string (bA LN))) ⟨w.heap.size, 1, none⟩ (.string (bA VL)) ((World.cell?_setCell_other _ _ _ _ (fun e => by injection e; omega)).trans z1)
          have q0 : X9.drew.cell? ⟨w2.heap.size, 0, none⟩ = some (.string (bA LN)) := p0
          have q1 : X9.drew.cell? ⟨w2.heap.size, 1, none⟩ = some (.string (bA VL)) := p1
          have q2 : X9.drew.cell? ⟨w2.heap.size, 2, none⟩ = some (.bool false) := p2
          have e0 : X9.drew.cell? ⟨w.heap.size, 0, none⟩ = some (.string ⟨#[]⟩) := z0
          have e1 : X9.drew.cell? ⟨w.heap.size, 1, none⟩ = some (.string ⟨#[]⟩) := z1
          have e2 : X9.drew.cell? ⟨w.heap.size, 2, none⟩ = some (.bool false) := z2
          have ef : ∀ o, X9.drew.frozen? ⟨w.heap.size, o, none⟩ = false := zf
          have HND : Hid (Nw w X9.drew) := Below.drew HN9.out
          have HIN : Hid (∀ W, Calls Tryd.prog 68 #[.int .i64 (VL.length : Int), .int .i64 1, .int .i64 60] W fun e w' => e = .returned (.bool (fit60 VL)) ∧ w' = W) := fun W => by
            have := in_any W VL.length 1 60
            have e : decide ((1 : Int) ≤ (VL.length : Int) ∧ (VL.length : Int) ≤ 60) = fit60 VL := by unfold fit60; rw [Bool.eq_iff_iff, decide_eq_true_eq, decide_eq_true_eq]; omega
            rw [e] at this
            exact this
          generalize fit60 VL = ft at *
          go_region_with (go_at_call 68; refine (HIN.out _).mono ?_; rintro e w' ⟨rfl, hq⟩; have hq2 := hq.symm; clear hq; subst hq2)
          all_goals
            go_wp2
            refine bodyPost_ret (v := .tuple #[.agg #[.string (bA LN), .string (bA VL), .bool false], .bool ft]) (by simp [results, Tryd.results53, go_sem, y0, y1, y2]) rfl ⟨?_, ((HND.out.setCell (Nat.le_refl _) _).setCell (Nat.le_refl _) _).setCell (Nat.le_refl _) _⟩
            cases ft with
            | true => exact Or.inl ⟨⟨bA LN, bA VL, false⟩, by rw [HDE.out]; rfl, rfl⟩
            | false => exact Or.inr ⟨by rw [HDE.out]; rfl, _, _, _, rfl⟩
      · have g58 : ((((bA (c :: v))[0]'hb0).toNat : Int) == 58) = false := by rw [hbc]; exact (byte_ne 58 (by omega) h58).1
        have g58' : ((((bA (c :: v))[0]'hb0).toNat : Int) != 58) = true := by rw [hbc]; exact (byte_ne 58 (by omega) h58).2
        have HX : Hid (declP s = none) := by show declP s = none; rw [HD1.out]; simp only [if_neg h58]; rfl
        clear HC3 p0 p1 p2 pf hbc HD1 hRs h58
        generalize bA (c :: v) = BR at *
        obtain ⟨y0, y1, y2⟩ := set3d W3 w.heap.size (.string ⟨#[]⟩) (.string ⟨#[]⟩) (.bool false) z0 z1 z2
        go_wp2
        refine bodyPost_ret (v := .tuple #[.agg #[.string ⟨#[]⟩, .string ⟨#[]⟩, .bool false], .bool false]) (by simp [results, Tryd.results53, go_sem, y0, y1, y2]) rfl ⟨Or.inr ⟨HX.out, _, _, _, rfl⟩, ?_⟩
        exact ((HN3.out.setCell (Nat.le_refl _) _).setCell (Nat.le_refl _) _).setCell (Nat.le_refl _) _
end Go.Proofs.YtnkmdmmlpidcmaaDoor
namespace Go.Proofs.YtnkmdmmlpidcmaaDoor
open Go.ChangeShapes Go.WideShapes Go.ChangeAt Go.RowKit
set_option linter.unusedVariables false

structure SpSt (c : UInt8) (s : ByteArray) (at_ pos : Nat) (D : List ByteArray) : Prop where
  le1 : at_ ≤ pos
  le2 : pos ≤ s.size
  len : D.length ≤ pos
  pc : pcB c s = D ++ (pcs c (s.data.toList.drop at_)).map bA
  br : brk c (s.data.toList.drop at_) = pos - at_ + brk c (s.data.toList.drop pos)
theorem SpSt.start (c : UInt8) (s : ByteArray) : SpSt c s 0 0 [] := ⟨Nat.le_refl _, Nat.zero_le _, Nat.zero_le _, rfl, by simp⟩
theorem SpSt.other {c : UInt8} {s : ByteArray} {a pos : Nat} {D : List ByteArray} (h : SpSt c s a pos D) (hlt : pos < s.size) (hc : s[pos] ≠ c) : SpSt c s a (pos + 1) D := by
  refine ⟨by have := h.le1; omega, hlt, by have := h.len; omega, h.pc, ?_⟩
  have h1 := h.le1
  rw [h.br, hd_byte s pos hlt, brk_cons, if_neg hc]
  omega
theorem SpSt.cut {c : UInt8} {s : ByteArray} {a pos : Nat} {D : List ByteArray} (h : SpSt c s a pos D) (hlt : pos < s.size) (hc : s[pos] = c) : SpSt c s (pos + 1) (pos + 1) (D ++ [s.extract a pos]) := by
  have h1 := h.le1
  have hb : brk c (s.data.toList.drop a) = pos - a := by
    rw [h.br, hd_byte s pos hlt, brk_cons, if_pos hc]
    omega
  refine ⟨Nat.le_refl _, hlt, by rw [List.length_append]; have := h.len; simp; omega, ?_, by simp⟩
  rw [h.pc, pcs_hit c _ (by rw [hb, List.length_drop, data_len]; omega), hb, List.drop_drop, List.map_cons, List.append_assoc]
  have e1 : a + (pos - a + 1) = pos + 1 := by omega
  have e2 : s.extract a pos = bA ((s.data.toList.drop a).take (pos - a)) := by
    have := ext_mid s a (pos - a)
    rw [show a + (pos - a) = pos by omega] at this
    exact this
  rw [e1, e2]
  rfl
theorem SpSt.fin {c : UInt8} {s : ByteArray} {a pos : Nat} {D : List ByteArray} (h : SpSt c s a pos D) (hlt : ¬ pos < s.size) : pcB c s = D ++ [s.extract a pos] := by
  have h1 := h.le1
  have h2 := h.le2
  have hb : brk c (s.data.toList.drop a) = pos - a := by
    rw [h.br, hd_none s pos hlt]
    rfl
  rw [h.pc, pcs_miss c _ (by rw [hb, List.length_drop, data_len]; omega)]
  have e2 : s.extract a pos = bA (s.data.toList.drop a) := by
    have e : pos = s.size := by omega
    rw [e, ext_tail]
  rw [e2]
  rfl
theorem byte_eq {b c : UInt8} (h : b = c) : ((b.toNat : Int) == (c.toNat : Int)) = true := by rw [h]; simp
theorem byte_neq {b c : UInt8} (h : b ≠ c) : ((b.toNat : Int) == (c.toNat : Int)) = false := by
  rw [beq_eq_false_iff_ne]
  intro e
  exact h (UInt8.toNat_inj.1 (by omega))
set_option maxHeartbeats 8000000 in
theorem ssplit (s : ByteArray) (c : UInt8) (w : World) (hs : s.size ≤ 1048576) :
    Calls Tryd.prog 52 #[.string s, .int .u8 (c.toNat : Int)] w fun e w' => ∃ v, e = .returned v ∧ Txs w' w.heap.size v (pcB c s) ∧ Nw w w' := by
  go_enter Tryd.func52, Tryd.ntmps52
  go_wp2
  go_loopw [5, 6, 7] (fun v y i wr => Nw w wr ∧ ((∃ (a pos : Nat) (D : List ByteArray), i = .int .i64 (pos : Int) ∧ y = .int .i64 (a : Int) ∧ SpSt c s a pos D ∧ Txs wr w.heap.size v D) ∨ (i = .int .i64 ((s.size + 1 : Nat) : Int) ∧ (∃ a : Int, y = .int .i64 a) ∧ Txs wr w.heap.size v (pcB c s)))) (fun _ _ i _ => s.size + 2 - (intOf i).toNat)
  case atStart => exact ⟨Below.refl _ _, Or.inl ⟨0, 0, [], rfl, rfl, SpSt.start c s, Txs.nil _ _⟩⟩
  case round =>
    obtain ⟨hw, ⟨a, pos, D, rfl, rfl, hst, hv⟩ | ⟨rfl, ⟨a, rfl⟩, hv⟩⟩ := hrel
    · have HW : Hid (Nw w wr) := hw
      have HV : Hid (Txs wr w.heap.size _ D) := hv
      have h1 := hst.le1
      have h2 := hst.le2
      have hcl : D.length ≤ 10000000 := by have := hst.len; omega
      have HB : ∀ o1, Hid (Nw wr (wr.alloc o1)) := fun o1 => (Below.refl _ _).alloc (Nat.le_refl _) _
      have hBs : ∀ o1, Hid (w.heap.size ≤ (wr.alloc o1).heap.size) := fun o1 => Nat.le_trans (Below.size hw) (Below.size (HB o1).out)
      clear hw hv
      have hleI : (pos : Int) ≤ (s.size : Int) := by omega
      by_cases hlt : pos < s.size
      · have hne : ((pos : Int) == (s.size : Int)) = false := by rw [beq_eq_false_iff_ne]; omega
        by_cases hc : s[pos] = c
        · have g1 := byte_eq hc
          have HS : Hid (SpSt c s (pos + 1) (pos + 1) (D ++ [s.extract a pos])) := hst.cut hlt hc
          clear hst hc
          go_wp2_with (at_builtin; (refine wp_tx _ rfl _ _ rfl w.heap.size _ _ (s.extract a pos) rfl (HV.out.nw (HB _).out) _ rfl ?c1 hcl ?c3 ?_))
          case c1 => simp
          case c3 => exact (hBs _).out
          intro v' w' q1 q2
          have HN : Hid (Nw w w') := Below.trans (HW.out.trans (HB _).out) (Txs.below (HV.out.nw (HB _).out) q2 (hBs _).out)
          have H1 : Hid (Txs w' w.heap.size v' (D ++ [s.extract a pos])) := q1
          clear q1 q2
          go_wp2
          go_roundw
          case rel => exact ⟨HN.out, Or.inl ⟨pos + 1, pos + 1, _, by go_num, by go_num, HS.out, H1.out⟩⟩
          case measure => simp [intOf]; try omega
        · have g1 := byte_neq hc
          have HS : Hid (SpSt c s a (pos + 1) D) := hst.other hlt hc
          clear hst hc
          go_wp2
          go_roundw
          case rel => exact ⟨HW.out, Or.inl ⟨a, pos + 1, D, by go_num, rfl, HS.out, HV.out⟩⟩
          case measure => simp [intOf]; try omega
      · have e : pos = s.size := by omega
        have hne : ((pos : Int) == (s.size : Int)) = true := by rw [e]; simp
        have HE : Hid (pcB c s = D ++ [s.extract a pos]) := hst.fin hlt
        have HPS : Hid (pos = s.size) := e
        clear hst e
        go_wp2_with (at_builtin; (refine wp_tx _ rfl _ _ rfl w.heap.size _ _ (s.extract a pos) rfl (HV.out.nw (HB _).out) _ rfl ?c1 hcl ?c3 ?_))
        case c1 => simp
        case c3 => exact (hBs _).out
        intro v' w' q1 q2
        have HN : Hid (Nw w w') := Below.trans (HW.out.trans (HB _).out) (Txs.below (HV.out.nw (HB _).out) q2 (hBs _).out)
        have H1 : Hid (Txs w' w.heap.size v' (pcB c s)) := by show Txs _ _ _ _; rw [HE.out]; exact q1
        clear q1 q2
        go_wp2
        go_roundw
        case rel => exact ⟨HN.out, Or.inr ⟨by rw [← HPS.out]; go_num, ⟨_, rfl⟩, H1.out⟩⟩
        case measure => simp [intOf]; try omega
    · have HW : Hid (Nw w wr) := hw
      have HV : Hid (Txs wr w.heap.size _ (pcB c s)) := hv
      clear hw hv
      have hgt : ¬ (((s.size + 1 : Nat) : Int) ≤ (s.size : Int)) := by omega
      go_wp2
      go_ret
      exact ⟨_, rfl, HV.out, HW.out⟩
set_option maxHeartbeats 8000000 in
theorem sdecls (s : ByteArray) (w : World) (hs : s.size ≤ 1048576) :
    Calls Tryd.prog 25 #[.string s] w fun e w' => DeclsSays s w w' e ∧ Nw w w' := by
  have HSZ : Hid (∀ i, (strAt (pcB 59 s) i).size ≤ 1048576) := fun i => pcB_size 59 s hs i
  have hpl : (pcB 59 s).length ≤ 1048577 := by rw [pcB_len]; have := count_le_size 59 s; omega
  have HI : Hid (Calls Tryd.prog 52 #[.string s, .int .u8 59] w fun e w' => ∃ v, e = .returned v ∧ Txs w' w.heap.size v (pcB 59 s) ∧ Nw w w') := ssplit s 59 w hs
  unfold DeclsSays
  generalize pcB 59 s = ps at *
  go_enter Tryd.func25, Tryd.ntmps25
  go_wp2_with fail
  refine Calls.mono HI.out ?_
  rintro e w1 ⟨v, rfl, hv, k1⟩
  clear HI
  obtain ⟨pa, pc, rfl, hst⟩ := hv.strs
  have HST : Hid (Strs w1 pa ps) := hst
  have HN1 : Hid (Nw w w1) := k1
  clear hv hst k1
  go_wp2
  go_loopw [3, 11] (fun v i wr => ∃ (k : Nat) (els : List (El DD)), k ≤ ps.length ∧ i = .int .i64 k ∧ RowO 50 3 EDecl wr w1.heap.size v els ∧ els.map El.x = dcs (ps.take k) ∧ Nw w1 wr) (fun _ i _ => ps.length - (intOf i).toNat)
  case atStart => exact ⟨0, [], Nat.zero_le _, rfl, RowO.nil _ _ _ _ _, rfl, Below.refl _ _⟩
  case round =>
    obtain ⟨k, els, hk, rfl, hro, hmx, hw⟩ := hrel
    have hel : els.length = (dcs (ps.take k)).length := by have := congrArg List.length hmx; simpa using this
    have h12 := dcs_le (ps.take k)
    obtain ⟨va, vc, hv⟩ := hro.slice
    subst hv
    have HR : Hid (RowO 50 3 EDecl wr w1.heap.size (.slice va els.length vc) els) := hro
    have HM : Hid (els.map El.x = dcs (ps.take k)) := hmx
    have HW : Hid (Nw w1 wr) := hw
    have HEL : Hid (els.length = (dcs (ps.take k)).length) := hel
    have hel12 : els.length ≤ 12 := by omega
    clear hro hmx hel h12
    by_cases hlt : k < ps.length
    · rcases (HST.out.nw hw) with h | ⟨b, o, rfl, hb, hc⟩
      · rw [h] at hlt; simp at hlt
      have q0 := hc k hlt
      have hz := HSZ.out k
      have HTK : Hid (ps.take (k + 1) = ps.take k ++ [strAt ps k]) := take_at hlt
      clear hw hc
      generalize strAt ps k = x at *
      have hkI : (k : Int) < (ps.length : Int) := by omega
      go_wp2_with fail
      refine Calls.mono (sdecl x _ hz) ?_
      rintro e w2 ⟨⟨d, hp, rfl⟩ | ⟨hp, tx, ty, tb, rfl⟩, k2⟩
      · by_cases h5 : els.length = 12
        · have HX : Hid (dcs (ps.take (k + 1)) = dcs (ps.take k)) := by show _ = _; rw [HTK.out]; exact dcs_full (by rw [← HEL.out]; exact h5)
          have HR2 : ∀ o, Hid (RowO 50 3 EDecl (w2.alloc o) w1.heap.size (.slice va els.length vc) els) := fun o => (HR.out.nw EDecl.kept k2).nw EDecl.kept ((Below.refl _ _).alloc (Nat.le_refl _) _)
          have HN2 : ∀ o, Hid (Nw w1 (w2.alloc o)) := fun o => Nw.trans (Nw.trans HW.out k2) ((Below.refl _ _).alloc (Nat.le_refl _) _)
          have g12 : ¬ ((els.length : Int) < 12) := by omega
          clear k2 q0 hp h5
          go_wp2
          go_roundw
          case rel => exact ⟨k + 1, els, by omega, by go_num, (HR2 _).out, by rw [HX.out]; exact HM.out, (HN2 _).out⟩
          case measure => simp [intOf]; omega
        · have HX : Hid (dcs (ps.take (k + 1)) = dcs (ps.take k) ++ [d]) := by show _ = _; rw [HTK.out]; exact dcs_more hp (by rw [← HEL.out]; omega)
          have HK2 : Hid (Nw wr w2) := k2
          have g12 : (els.length : Int) < 12 := by omega
          have HL12 : Hid (els.length ≤ 10000000) := by show _ ≤ _; omega
          clear k2 q0 hp h5
          obtain ⟨dn, dv, di⟩ := d
          simp only
          have HNA : ∀ o1 o2, Hid (Nw wr ((w2.alloc o1).alloc o2)) := fun o1 o2 => Nw.trans HK2.out (((Below.refl _ _).alloc (Nat.le_refl _) _).alloc (by simp) _)
          have HEP : ∀ o1 o2, Hid (EDecl ((w2.alloc o1).alloc o2) [.string dn, .string dv, .bool di] ⟨dn, dv, di⟩ (iv wr ((w2.alloc o1).alloc o2))) := fun o1 o2 => rfl
          go_wp2_with (at_builtin; (refine wp_rw EDecl.kept Tryd.underlying22 Tryd.info50 rfl (by decide) (by decide) wr _ rfl _ _ rfl w1.heap.size _ els rfl HR.out (HNA _ _).out (Below.size HW.out) _ rfl ⟨dn, dv, di⟩ [.string dn, .string dv, .bool di] ?c1 rfl ?c2 (HEP _ _).out HL12.out ?_))
          case c1 =>
            intro j y hj
            rcases (show j = 0 ∨ j = 1 ∨ j = 2 ∨ 3 ≤ j by omega) with rfl | rfl | rfl | h
            · simp at hj; subst hj; simp
            · simp at hj; subst hj; simp
            · simp at hj; subst hj; simp
            · rw [List.getElem?_eq_none (by simpa using h)] at hj; cases hj
          case c2 =>
            intro y hy
            simp only [List.mem_cons, List.not_mem_nil, or_false] at hy
            rcases hy with rfl | rfl | rfl <;> rfl
          intro v' w' h1 h2
          have HN : Hid (Nw w1 w') := Below.trans (HW.out.trans (HNA _ _).out) (Ext.below h2 (fun g e => (HR.out.lt g e).1) (Nat.le_trans (Below.size HW.out) (Below.size (HNA _ _).out)))
          have H1 : Hid _ := h1
          clear h1 h2
          go_wp2
          go_roundw
          case rel => exact ⟨k + 1, _, by omega, by go_num, H1.out, by rw [HX.out, List.map_append, HM.out]; rfl, HN.out⟩
          case measure => simp [intOf]; omega
      · have HX : Hid (dcs (ps.take (k + 1)) = dcs (ps.take k)) := by show _ = _; rw [HTK.out]; exact dcs_none hp
        have HR2 : ∀ o, Hid (RowO 50 3 EDecl (w2.alloc o) w1.heap.size (.slice va els.length vc) els) := fun o => (HR.out.nw EDecl.kept k2).nw EDecl.kept ((Below.refl _ _).alloc (Nat.le_refl _) _)
        have HN2 : ∀ o, Hid (Nw w1 (w2.alloc o)) := fun o => Nw.trans (Nw.trans HW.out k2) ((Below.refl _ _).alloc (Nat.le_refl _) _)
        clear k2 q0 hp
        go_wp2
        go_roundw
        case rel => exact ⟨k + 1, els, by omega, by go_num, (HR2 _).out, by rw [HX.out]; exact HM.out, (HN2 _).out⟩
        case measure => simp [intOf]; omega
    · have hk2 : k = ps.length := by omega
      have HE : Hid (els.map El.x = dcs ps) := by show _ = _; rw [HM.out, hk2, List.take_length]
      have hkn : ¬ ((k : Int) < (ps.length : Int)) := by omega
      clear hk2 hw
      go_wp2
      go_ret
      refine ⟨⟨_, rfl, ?_⟩, Nw.trans HN1.out HW.out⟩
      rw [← HE.out]
      exact RowO.row HR.out (fun b h1 h2 => ⟨Nat.le_trans (Below.size HN1.out) h1, h2⟩)
end Go.Proofs.YtnkmdmmlpidcmaaDoor
namespace Go.Proofs.YtnkmdmmlpidcmaaDoor
open Go.ChangeShapes Go.WideShapes Go.ChangeAt Go.RowKit
set_option linter.unusedVariables false

theorem ktm_le (s : ByteArray) : (bA (tmL s.data.toList)).size ≤ s.size := TB_le s
theorem all_of_take {D : ByteArray} {j : Nat} (h : j < D.size) (hd : isD D[j] = false) : allD D.data.toList = false := allD_false D j h hd
theorem num_small {D : ByteArray} {j : Nat} (h3 : D.size ≤ 3) (ha : (D.data.toList.take j).all isD = true) : 0 ≤ num (D.data.toList.take j) ∧ num (D.data.toList.take j) < 1000 := by
  have h1 := num_bd (D.data.toList.take j) ha
  have h2 : (D.data.toList.take j).length ≤ 3 := by rw [List.length_take, data_len]; omega
  have h4 : (10 : Int) ^ (D.data.toList.take j).length ≤ 10 ^ 3 := by
    have := Nat.pow_le_pow_right (n := 10) (by omega) h2
    exact_mod_cast this
  omega
set_option maxHeartbeats 8000000 in
theorem scolR (T : ByteArray) (s : ByteArray) (w : World) (hts : T.size ≤ 1048576) (HT0 : Hid (∀ W, Calls Tryd.prog 73 #[.string s] W fun e w' => e = .returned (.string T) ∧ w' = W)) (m : Nat) (hm : T.size = m + 1) (h0 : 0 < T.size) (hn : T[0] ≠ 35) (h5 : ¬ T.size < 5) (h4 : ((T.extract 0 4).toList == [114, 103, 98, 40]) = true) (hl : T[m] = 41) (HA : Hid (colC T.data.toList = numsC ((T.data.toList.take m).drop 4))) : Calls Tryd.prog 46 #[.string s] w fun e w' => e = .returned (colV (colC T.data.toList)) ∧ Nw w w' := by
  obtain ⟨W, hW⟩ : ∃ W, w.alloc (.cells #[.int .i64 0, .int .i64 0, .int .i64 0] 42) = W := ⟨_, rfl⟩
  have HCB : Hid (CB W w.heap.size) := by show CB _ _; rw [← hW]; exact CB.new w _
  have HNW : Hid (Nw w W) := by show Nw _ _; rw [← hW]; exact (Below.refl _ _).alloc (Nat.le_refl _) _
  have HW : Hid (_ = W) := hW
  clear hW
  have h0I : (0 : Int) < (T.size : Int) := by omega
  have hb : ((T[0].toNat : Int) == 35) = false := by
    rw [beq_eq_false_iff_ne]
    intro e
    apply hn
    apply UInt8.toNat_inj.1
    have : (35 : UInt8).toNat = 35 := rfl
    rw [this]; omega
  clear hn
  have h5I : ¬ ((T.size : Int) < 5) := by omega
  have hlm : m < T.size := by omega
  have hidx : (T.size : Int) - 1 = (m : Int) := by omega
  have hlb : (T[m].toNat : Int) = 41 := by rw [hl]; rfl
  have hd5 : decide ((T.size : Int) < 5) = false := decide_eq_false h5I
  have h4m : 4 ≤ m := by omega
  have HT4 : Hid (T.extract 4 m = bA ((T.data.toList.take m).drop 4)) := ext_bA T 4 m
  have hxs : (T.extract 4 m).size ≤ 1048576 := by rw [ByteArray.size_extract]; omega
  rw [HA.out, tones_pcs, ← HT4.out]
  have HSP : Hid (∀ wx, Calls Tryd.prog 52 #[.string (T.extract 4 m), .int .u8 44] wx fun e w' => ∃ v, e = .returned v ∧ Txs w' wx.heap.size v (pcB 44 (T.extract 4 m)) ∧ Nw wx w') := fun wx => ssplit (T.extract 4 m) 44 wx hxs
  have HPZ : Hid (∀ i, (strAt (pcB 44 (T.extract 4 m)) i).size ≤ 1048576) := fun i => pcB_size 44 _ hxs i
  have hpl : (pcB 44 (T.extract 4 m)).length ≤ 1048577 := by rw [pcB_len]; have := count_le_size 44 (T.extract 4 m); omega
  clear HT4 HA hl hm
  generalize pcB 44 (T.extract 4 m) = P at *
  obtain ⟨TC, hTC⟩ : ∃ TC, tonesC (P.map (fun p => toneW p.data.toList)) = TC := ⟨_, rfl⟩
  rw [hTC]
  have HTC : Hid (tonesC (P.map (fun p => toneW p.data.toList)) = TC) := hTC
  clear hTC
  go_enter Tryd.func46, Tryd.ntmps46
  go_wp2_with fail
  rw [HW.out]
  refine Calls.mono (HT0.out _) ?_
  rintro e w1 ⟨rfl, hq⟩
  have hq2 := hq.symm; clear hq; subst hq2
  go_wp2_with fail
  refine Calls.mono (HSP.out _) ?_
  rintro e w3 ⟨pv, rfl, hv, k3⟩
  obtain ⟨pa, pc, rfl, hst⟩ := hv.strs
  have HST : Hid (Strs w3 pa P) := hst
  have HN3 : Hid (Nw w w3) := Nw.trans HNW.out k3
  have HC3 : Hid (CB w3 w.heap.size) := HCB.out.nw k3
  clear k3 hv hst HSP
  go_wp2
  go_loopw [4, 51] (fun x i wr => ∃ (k : Nat) (v : Value) (xs : List Int), v = x ∧ k ≤ P.length ∧ i = .int .i64 k ∧ TnS P k xs ∧ Ins wr w3.heap.size v xs ∧ Nw w3 wr) (fun _ i _ => P.length - (intOf i).toNat)
  case atStart => exact ⟨0, _, [], rfl, Nat.zero_le _, rfl, TnS.zero P, Ins.nil _ _, Below.refl _ _⟩
  case round =>
    obtain ⟨k, v, xs, rfl, hk, rfl, htn, hin, hw⟩ := hrel
    have HC1 : Hid (CB wr w.heap.size) := HC3.out.nw hw
    have HN1 : Hid (Nw w wr) := Nw.trans HN3.out hw
    have HXL : Hid (xs.length = k) := htn.len hk
    have HTN : Hid (TnS P k xs) := htn
    have HIN : Hid (Ins wr w3.heap.size v xs) := hin
    have HL : Hid _ := Ins.lay hin
    have HWW : Hid (Nw w3 wr) := hw
    have HSZ : Hid (w3.heap.size ≤ wr.heap.size) := Below.size hw
    obtain ⟨va, vc, hv⟩ : ∃ a c, v = .slice a xs.length c := by
      rcases hin.lay with ⟨h1, h2⟩ | ⟨g, c, h1, _⟩
      · exact ⟨none, 0, by rw [h1, h2]; rfl⟩
      · exact ⟨_, c, h1⟩
    subst hv
    have z0 := HC1.out.c0
    have z1 := HC1.out.c1
    have z2 := HC1.out.c2
    have zf := HC1.out.fz
    by_cases hlt : k < P.length
    · have hltI : (k : Int) < (P.length : Int) := by omega
      have HSW : Hid (Strs wr pa P) := HST.out.nw hw
      rcases HSW.out with h | ⟨g, o, rfl, hgb, hc⟩
      · rw [h] at hlt; simp at hlt
      have q0 := hc k hlt
      have hpz := HPZ.out k
      have HBAD : Hid (toneW (strAt P k).data.toList = none → TC = none) := fun h => by rw [← HTC.out]; exact tones_bad hlt h
      have HGO : Hid (∀ x, toneW (strAt P k).data.toList = some x → TnS P (k + 1) (xs ++ [x])) := fun x hx => htn.step hlt hx
      have HTR : Hid (∀ W, Calls Tryd.prog 73 #[.string (strAt P k)] W fun e w' => e = .returned (.string (bA (tmL (strAt P k).data.toList))) ∧ w' = W) := fun W => strimL _ W hpz
      have hdz : (bA (tmL (strAt P k).data.toList)).size ≤ 1048576 := by have := ktm_le (strAt P k); omega
      have HTW : Hid (toneW (strAt P k).data.toList = toneC (bA (tmL (strAt P k).data.toList)).data.toList) := by show _ = _; rw [bA_list]; rfl
      clear hc hw htn hin
      generalize bA (tmL (strAt P k).data.toList) = D at *
      generalize toneW (strAt P k).data.toList = TW at *
      generalize strAt P k = p at *
      have HDL : Hid (D.data.toList.length = D.size) := data_len D
      have HI3 : Hid (∀ W, Calls Tryd.prog 68 #[.int .i64 (D.size : Int), .int .i64 1, .int .i64 3] W fun e w' => e = .returned (.bool (decide (1 ≤ D.size ∧ D.size ≤ 3))) ∧ w' = W) := fun W => by
        have := in_any W (D.size : Int) 1 3
        have e : decide ((1 : Int) ≤ (D.size : Int) ∧ (D.size : Int) ≤ 3) = decide (1 ≤ D.size ∧ D.size ≤ 3) := by rw [Bool.eq_iff_iff]; simp; omega
        rw [e] at this
        exact this
      by_cases hd3 : 1 ≤ D.size ∧ D.size ≤ 3
      · rw [decide_eq_true hd3] at HI3
        go_wp2_with (first | (go_at_call 73; refine Calls.mono (HTR.out _) ?_; rintro e w9 ⟨rfl, hq⟩; have hq2 := hq.symm; clear hq; subst hq2) | (go_at_call 68; refine Calls.mono (HI3.out _) ?_; rintro e w9 ⟨rfl, hq⟩; have hq2 := hq.symm; clear hq; subst hq2))
        obtain ⟨wo, hwo⟩ : ∃ x, x = wr := ⟨_, rfl⟩
        subst hwo
        go_loopw [7, 8] (fun x i wq => ∃ j : Nat, j ≤ D.size ∧ i = .int .i64 j ∧ x = .int .i64 (num (D.data.toList.take j)) ∧ (D.data.toList.take j).all isD = true ∧ wq = wo) (fun _ i _ => D.size - (intOf i).toNat)
        case atStart => exact ⟨0, Nat.zero_le _, rfl, rfl, rfl, rfl⟩
        case round =>
          obtain ⟨j, hj, rfl, rfl, hall, rfl⟩ := hrel
          have hnb := num_small hd3.2 hall
          have HAL : Hid ((D.data.toList.take j).all isD = true) := hall
          clear hall
          by_cases hjl : j < D.size
          · have hjI : (j : Int) < (D.size : Int) := by omega
            have hub : D[j].toNat ≤ 255 := by have := UInt8.toNat_lt D[j]; omega
            have HDG : Hid (∀ W, Calls Tryd.prog 83 #[.int .u8 (D[j].toNat : Int)] W fun e w' => e = .returned (.bool (isD D[j])) ∧ w' = W) := fun W => by
              have := sdigit W (D[j].toNat : Int) (by omega) (by omega)
              have e : digB (D[j].toNat : Int) = isD D[j] := by rw [Bool.eq_iff_iff, isD_iff]; simp [digB]
              rw [e] at this
              exact this
            cases hdg : isD D[j] with
            | true =>
              rw [hdg] at HDG
              obtain ⟨b1, b2⟩ := (isD_iff _).1 hdg
              have HNT : Hid (num (D.data.toList.take (j + 1)) = 10 * num (D.data.toList.take j) + ((D[j].toNat : Int) - 48)) := by show _ = _; rw [num_take D j hjl, Int.mul_comm]
              have HAT : Hid ((D.data.toList.take (j + 1)).all isD = true) := by show _ = _; rw [all_snoc D j hjl, HAL.out, hdg]; rfl
              clear hdg
              generalize num (D.data.toList.take j) = n at *
              go_wp2_with (go_at_call 83; refine Calls.mono (HDG.out _) ?_; rintro e w9 ⟨rfl, hq⟩; have hq2 := hq.symm; clear hq; subst hq2)
              go_roundw
              case rel => exact ⟨j + 1, by omega, by go_num, by rw [HNT.out], HAT.out, by first | rfl | trivial⟩
              case measure => simp [intOf]; omega
            | false =>
              rw [hdg] at HDG
              have HO : Hid (TC = none) := HBAD.out (by rw [HTW.out]; exact tone_dig (all_of_take hjl hdg))
              clear hdg
              obtain ⟨y0, y1, y2⟩ := set3c wr w.heap.size (.int .i64 0) (.int .i64 0) (.int .i64 0) z0 z1 z2
              have Y : Hid _ := And.intro y0 (And.intro y1 y2)
              clear y0 y1 y2
              go_wp2_with (go_at_call 83; refine Calls.mono (HDG.out _) ?_; rintro e w9 ⟨rfl, hq⟩; have hq2 := hq.symm; clear hq; subst hq2)
              obtain ⟨y0, y1, y2⟩ := Y.out
              exact bodyPost_ret (v := colV none) (by simp [results, Tryd.results46, go_sem, y0, y1, y2, colV]) rfl ⟨by rw [HO.out], Nw.set3 HN1.out (Nat.le_refl _) _ _ _⟩
          · have hje : j = D.size := by omega
            subst hje
            have hjI : ¬ ((D.size : Int) < (D.size : Int)) := by omega
            have htk : D.data.toList.take D.size = D.data.toList := List.take_of_length_le (by rw [HDL.out]; exact Nat.le_refl _)
            rw [htk] at HAL hnb
            rw [htk]
            have HTX : Hid (TW = some (min (num D.data.toList) 255)) := by show _ = _; rw [HTW.out]; exact tone_yes (by rw [HDL.out]; exact hd3) HAL.out
            have HGO2 : Hid (TnS P (k + 1) (xs ++ [min (num D.data.toList) 255])) := HGO.out _ HTX.out
            generalize num D.data.toList = n at *
            have HB0 : ∀ o, Hid (Nw wr (wr.alloc o)) := fun o => (Below.refl _ _).alloc (Nat.le_refl _) _
            have HOL : Hid (xs.length ≤ 10000000) := by show _ ≤ _; have := HXL.out; omega
            clear htk hjl hj
            by_cases hbig : 255 < n
            · have hmn : min n 255 = 255 := by omega
              rw [hmn] at HGO2
              clear hmn z0 z1 z2 zf q0
              go_wp2_with (at_builtin; (refine wp_in _ rfl _ _ rfl w3.heap.size _ xs 255 rfl (HIN.out.nw (HB0 _).out) _ rfl (by simp) HOL.out (by have := HSZ.out; simp; omega) ?_))
              intro v' w' h1 h2
              have H1 : Hid (Ins w' w3.heap.size v' (xs ++ [255])) := h1
              have H2 : Hid (Nw w3 w') := Below.trans (Nw.trans HWW.out (HB0 _).out) (Ins.below (HIN.out.nw (HB0 _).out) h2 (by have := HSZ.out; simp; omega))
              clear h1 h2
              go_wp2
              go_roundw
              case rel => exact ⟨k + 1, _, _, rfl, by omega, by go_num, HGO2.out, H1.out, H2.out⟩
              case measure => simp [intOf]; omega
            · have hmn : min n 255 = n := by omega
              rw [hmn] at HGO2
              clear hmn z0 z1 z2 zf q0
              go_wp2_with (at_builtin; (refine wp_in _ rfl _ _ rfl w3.heap.size _ xs n rfl (HIN.out.nw (HB0 _).out) _ rfl (by simp) HOL.out (by have := HSZ.out; simp; omega) ?_))
              intro v' w' h1 h2
              have H1 : Hid (Ins w' w3.heap.size v' (xs ++ [n])) := h1
              have H2 : Hid (Nw w3 w') := Below.trans (Nw.trans HWW.out (HB0 _).out) (Ins.below (HIN.out.nw (HB0 _).out) h2 (by have := HSZ.out; simp; omega))
              clear h1 h2
              go_wp2
              go_roundw
              case rel => exact ⟨k + 1, _, _, rfl, by omega, by go_num, HGO2.out, H1.out, H2.out⟩
              case measure => simp [intOf]; omega
      · rw [decide_eq_false hd3] at HI3
        have HO : Hid (TC = none) := HBAD.out (by rw [HTW.out]; exact tone_size (by rw [HDL.out]; exact hd3))
        clear hd3
        obtain ⟨y0, y1, y2⟩ := set3c wr w.heap.size (.int .i64 0) (.int .i64 0) (.int .i64 0) z0 z1 z2
        have Y : Hid _ := And.intro y0 (And.intro y1 y2)
        clear y0 y1 y2
        go_wp2_with (first | (go_at_call 73; refine Calls.mono (HTR.out _) ?_; rintro e w9 ⟨rfl, hq⟩; have hq2 := hq.symm; clear hq; subst hq2) | (go_at_call 68; refine Calls.mono (HI3.out _) ?_; rintro e w9 ⟨rfl, hq⟩; have hq2 := hq.symm; clear hq; subst hq2))
        obtain ⟨y0, y1, y2⟩ := Y.out
        exact bodyPost_ret (v := colV none) (by simp [results, Tryd.results46, go_sem, y0, y1, y2, colV]) rfl ⟨by rw [HO.out], Nw.set3 HN1.out (Nat.le_refl _) _ _ _⟩
    · have hke : k = P.length := by omega
      subst hke
      have hltI : ¬ ((P.length : Int) < (P.length : Int)) := by omega
      have HTA : Hid (P.map (fun p => toneW p.data.toList) = xs.map some) := tones_all htn
      have HTX : Hid (TC = tonesC (xs.map some)) := by show _ = _; rw [← HTC.out, HTA.out]
      clear htn hw
      by_cases h3 : xs.length = 3
      · obtain ⟨a, b, c, rfl⟩ := three xs h3
        have HY : Hid (colV (tonesC ([a, b, c].map some)) = .tuple #[.agg #[.int .i64 a, .int .i64 b, .int .i64 c], .bool true]) := rfl
        obtain ⟨g, vc1, hv1, hlay⟩ : ∃ g c1, Value.slice va [a, b, c].length vc = .slice (some ⟨g, 0, none⟩) 3 c1 ∧ LayI wr g [a, b, c] := by
          rcases HL.out with ⟨_, h⟩ | ⟨g, c1, h1, _, h3⟩
          · cases h
          · exact ⟨g, c1, h1, h3⟩
        injection hv1 with hv1 hv2 hv3
        subst hv1
        clear hv2 hv3
        have hgl := hlay.1
        have g0 : wr.cell? ⟨g, 0, none⟩ = some (.int .i64 a) := hlay.2.1 0 (by simp)
        have g1 : wr.cell? ⟨g, 1, none⟩ = some (.int .i64 b) := hlay.2.1 1 (by simp)
        have g2 : wr.cell? ⟨g, 2, none⟩ = some (.int .i64 c) := hlay.2.1 2 (by simp)
        obtain ⟨y0, y1, y2⟩ := set3c wr w.heap.size (.int .i64 a) (.int .i64 b) (.int .i64 c) z0 z1 z2
        have Y : Hid _ := And.intro y0 (And.intro y1 y2)
        have hWN : Hid (Nw w (((wr.setCell ⟨w.heap.size, 0, none⟩ (.int .i64 a)).setCell ⟨w.heap.size, 1, none⟩ (.int .i64 b)).setCell ⟨w.heap.size, 2, none⟩ (.int .i64 c))) := Nw.set3 HN1.out (Nat.le_refl _) _ _ _
        have hl3 : [a, b, c].length = 3 := rfl
        rw [hl3]
        clear y0 y1 y2 hlay HL HIN HTN HTA HXL h3
        have HTY : Hid (colV TC = .tuple #[.agg #[.int .i64 a, .int .i64 b, .int .i64 c], .bool true]) := by show _ = _; rw [HTX.out]; exact HY.out
        go_wp2
        go_region
        all_goals
          go_wp2
          obtain ⟨y0, y1, y2⟩ := Y.out
          exact bodyPost_ret (v := .tuple #[.agg #[.int .i64 a, .int .i64 b, .int .i64 c], .bool true]) (by simp [results, Tryd.results46, go_sem, y0, y1, y2]) rfl ⟨by rw [HTY.out], by first | exact hWN.out | exact Below.drew hWN.out⟩
      · have HO : Hid (TC = none) := by show _ = _; rw [HTX.out]; exact tonesC_len (by rw [List.length_map]; exact h3)
        have e3 : ((xs.length : Int) == 3) = false := by rw [beq_eq_false_iff_ne]; omega
        clear h3 HL
        obtain ⟨y0, y1, y2⟩ := set3c wr w.heap.size (.int .i64 0) (.int .i64 0) (.int .i64 0) z0 z1 z2
        have Y : Hid _ := And.intro y0 (And.intro y1 y2)
        clear y0 y1 y2
        go_wp2
        obtain ⟨y0, y1, y2⟩ := Y.out
        exact bodyPost_ret (v := colV none) (by simp [results, Tryd.results46, go_sem, y0, y1, y2, colV]) rfl ⟨by rw [HO.out], Nw.set3 HN1.out (Nat.le_refl _) _ _ _⟩
theorem scolor (s : ByteArray) (w : World) (hs : s.size ≤ 1048576) : Calls Tryd.prog 46 #[.string s] w fun e w' => e = .returned (colV (colC (tmL s.data.toList))) ∧ Nw w w' := by
  have HT0 : Hid (∀ W, Calls Tryd.prog 73 #[.string s] W fun e w' => e = .returned (.string (bA (tmL s.data.toList))) ∧ w' = W) := fun W => strimL s W hs
  have hts : (bA (tmL s.data.toList)).size ≤ 1048576 := by have := ktm_le s; omega
  have e : tmL s.data.toList = (bA (tmL s.data.toList)).data.toList := (bA_list _).symm
  rw [e]
  generalize bA (tmL s.data.toList) = T at *
  clear e
  by_cases h0 : 0 < T.size
  · by_cases h35 : T[0] = 35
    · exact scolH T s w hts HT0 h0 (by rw [head_at T h0, h35])
    · have hh : ¬ T.data.toList.head? = some 35 := by rw [head_at T h0]; intro e; injection e with e; exact h35 e
      by_cases h5 : T.size < 5
      · exact scolS T s w hts HT0 h0 h35 h5 (colC_short hh (by rw [data_len]; exact h5))
      · have h4e : (T.extract 0 4).toList = T.data.toList.take 4 := by rw [ByteArray.toList_eq, ext_head, bA_list]
        by_cases h4 : T.data.toList.take 4 = rgbL
        · have h4b : ((T.extract 0 4).toList == [114, 103, 98, 40]) = true := by rw [h4e, h4]; rfl
          obtain ⟨m, hm⟩ : ∃ m, T.size = m + 1 := ⟨T.size - 1, by omega⟩
          have hla := last_at T hm
          have hln : T.data.toList.length - 1 = m := by rw [data_len]; omega
          by_cases hl : T[m]'(by omega) = 41
          · have := colC_nums hh h4 (by rw [data_len]; exact h5) (by rw [hla, hl])
            rw [hln] at this
            exact scolR T s w hts HT0 m hm h0 h35 h5 h4b hl this
          · exact scolO T s w hts HT0 m hm h0 h35 h5 h4b hl (colC_open hh (by rw [hla]; intro e; injection e with e; exact hl e))
        · exact scolN T s w hts HT0 h0 h35 h5 (by rw [h4e, beq_eq_false_iff_ne]; exact h4) (colC_name hh h4)
  · have hz : T.size = 0 := by omega
    have hn : T.data.toList = [] := List.eq_nil_of_length_eq_zero (by rw [data_len]; exact hz)
    exact scolE T s w hts HT0 hz (colC_short (by rw [hn]; simp) (by rw [data_len]; omega))
/-- What ReadColor answers. -/
def rdC (s : ByteArray) : Option C3 := if 600 < s.size then none else colC (tmL s.data.toList)
set_option maxHeartbeats 2000000 in
theorem sreadColor (s : ByteArray) (w : World) (hs : s.size ≤ 1048576) : Calls Tryd.prog 22 #[.string s] w fun e w' => e = .returned (colV (rdC s)) ∧ Nw w w' := by
  obtain ⟨W, hW⟩ : ∃ W, w.alloc (.cells #[.int .i64 0, .int .i64 0, .int .i64 0] 42) = W := ⟨_, rfl⟩
  have HCB : Hid (CB W w.heap.size) := by show CB _ _; rw [← hW]; exact CB.new w _
  have HNW : Hid (Nw w W) := by show Nw _ _; rw [← hW]; exact (Below.refl _ _).alloc (Nat.le_refl _) _
  have HW : Hid (_ = W) := hW
  clear hW
  unfold rdC
  by_cases h : 600 < s.size
  · have hd : (600 : Int) < (s.size : Int) := by omega
    rw [if_pos h]
    have HC1 : Hid (CB W w.heap.size) := HCB.out
    have HN1 : Hid (Nw w W) := HNW.out
    have z0 := HC1.out.c0
    have z1 := HC1.out.c1
    have z2 := HC1.out.c2
    have zf := HC1.out.fz
    go_enter Tryd.func22, Tryd.ntmps22
    go_wp2
    rw [HW.out]
    exact bodyPost_ret (v := colV none) (by simp [results, Tryd.results22, go_sem, z0, z1, z2, colV]) rfl ⟨rfl, HN1.out⟩
  · have hd : ¬ ((600 : Int) < (s.size : Int)) := by omega
    rw [if_neg h]
    have HS : Hid (∀ W, Calls Tryd.prog 46 #[.string s] W fun e w' => e = .returned (colV (colC (tmL s.data.toList))) ∧ Nw W w') := fun W => scolor s W hs
    generalize colC (tmL s.data.toList) = o at *
    go_enter Tryd.func22, Tryd.ntmps22
    go_wp2_with fail
    rw [HW.out]
    refine Calls.mono (HS.out _) ?_
    rintro e w1 ⟨rfl, k1⟩
    have HC1 : Hid (CB w1 w.heap.size) := HCB.out.nw k1
    have HN1 : Hid (Nw w w1) := Nw.trans HNW.out k1
    clear k1
    have z0 := HC1.out.c0
    have z1 := HC1.out.c1
    have z2 := HC1.out.c2
    have zf := HC1.out.fz
    cases o with
    | none =>
      obtain ⟨y0, y1, y2⟩ := set3c w1 w.heap.size (.int .i64 0) (.int .i64 0) (.int .i64 0) z0 z1 z2
      have Y : Hid _ := And.intro y0 (And.intro y1 y2)
      clear y0 y1 y2
      unfold colV
      go_wp2
      obtain ⟨y0, y1, y2⟩ := Y.out
      exact bodyPost_ret (v := colV none) (by simp [results, Tryd.results22, go_sem, y0, y1, y2, colV]) rfl ⟨rfl, Nw.set3 HN1.out (Nat.le_refl _) _ _ _⟩
    | some cl =>
      obtain ⟨y0, y1, y2⟩ := set3c w1 w.heap.size (.int .i64 cl.1) (.int .i64 cl.2.1) (.int .i64 cl.2.2) z0 z1 z2
      have Y : Hid _ := And.intro y0 (And.intro y1 y2)
      clear y0 y1 y2
      unfold colV
      go_wp2
      obtain ⟨y0, y1, y2⟩ := Y.out
      exact bodyPost_ret (v := colV (some cl)) (by simp [results, Tryd.results22, go_sem, y0, y1, y2, colV]) rfl ⟨rfl, Nw.set3 HN1.out (Nat.le_refl _) _ _ _⟩
end Go.Proofs.YtnkmdmmlpidcmaaDoor
