/-
  A declaration read by the specification; each theorem names its conditions.
-/
import Derived.Test.YtnkmdmmlpidcmaaDoorDcI
import Derived.Test.YtnkmdmmlpidcmaaDoorLwS
import Derived.Test.YtnkmdmmlpidcmaaDoorCmS
namespace Go.Proofs.YtnkmdmmlpidcmaaDoor
open Go.ChangeShapes Go.WideShapes Go.ChangeAt Go.RowKit
set_option linter.unusedVariables false

theorem TB_bA (s : ByteArray) : TB s = bA (tmL s.data.toList) := rfl
theorem strimL (s : ByteArray) (w : World) (hs : s.size ≤ 1048576) : Calls Tryd.prog 73 #[.string s] w fun e w' => e = .returned (.string (bA (tmL s.data.toList))) ∧ w' = w := strim s w hs
/-- What is left of the declaration's value. -/
def vlS (v : List UInt8) : List UInt8 := (valS v).1
theorem suf_at {v : List UInt8} : markL10.isSuffixOf v = decide (10 ≤ v.length ∧ v.drop (v.length - 10) = markL10) := by
  rw [Bool.eq_iff_iff, List.isSuffixOf_iff_suffix, decide_eq_true_eq]
  constructor
  · intro h
    have hl := h.length_le
    refine ⟨hl, ?_⟩
    obtain ⟨t, ht⟩ := h
    rw [← ht]
    have : (t ++ markL10).length - 10 = t.length := by rw [List.length_append]; show t.length + 10 - 10 = _; omega
    rw [this, List.drop_left]
  · rintro ⟨h1, h2⟩
    exact ⟨v.take (v.length - 10), by rw [← h2, List.take_append_drop]⟩
theorem Bx3.s1 {b : Nat} {w : World} {u0 u1 u2 : Value} (h : Bx3 b w u0 u1 u2) (v : Value) : Bx3 b (w.setCell ⟨b, 1, none⟩ v) u0 v u2 := by
  have far : ∀ x, x ≠ 1 → (w.setCell ⟨b, 1, none⟩ v).cell? ⟨b, x, none⟩ = w.cell? ⟨b, x, none⟩ := fun x hx => World.cell?_setCell_other _ _ _ _ (fun e => by injection e; omega)
  exact ⟨(far 0 (by omega)).trans h.c0, World.cell?_setCell_same w ⟨b, 1, none⟩ _ h.c1, (far 2 (by omega)).trans h.c2, fun o => by rw [World.frozen?_setCell]; exact h.fz o⟩
theorem Bx3.s2 {b : Nat} {w : World} {u0 u1 u2 : Value} (h : Bx3 b w u0 u1 u2) (v : Value) : Bx3 b (w.setCell ⟨b, 2, none⟩ v) u0 u1 v := by
  have far : ∀ x, x ≠ 2 → (w.setCell ⟨b, 2, none⟩ v).cell? ⟨b, x, none⟩ = w.cell? ⟨b, x, none⟩ := fun x hx => World.cell?_setCell_other _ _ _ _ (fun e => by injection e; omega)
  exact ⟨(far 0 (by omega)).trans h.c0, (far 1 (by omega)).trans h.c1, World.cell?_setCell_same w ⟨b, 2, none⟩ _ h.c2, fun o => by rw [World.frozen?_setCell]; exact h.fz o⟩
theorem Bx3.off {b : Nat} {w : World} {u0 u1 u2 : Value} (h : Bx3 b w u0 u1 u2) (b2 o : Nat) (v : Value) (hne : b ≠ b2) : Bx3 b (w.setCell ⟨b2, o, none⟩ v) u0 u1 u2 := by
  have far : ∀ x, (w.setCell ⟨b2, o, none⟩ v).cell? ⟨b, x, none⟩ = w.cell? ⟨b, x, none⟩ := fun x => World.cell?_setCell_other _ _ _ _ (fun e => by injection e; omega)
  exact ⟨(far 0).trans h.c0, (far 1).trans h.c1, (far 2).trans h.c2, fun x => by rw [World.frozen?_setCell]; exact h.fz x⟩
set_option maxRecDepth 100000 in
set_option maxHeartbeats 16000000 in
theorem sdecl (s : ByteArray) (w : World) (hs : s.size ≤ 1048576) :
    Calls Tryd.prog 53 #[.string s] w fun e w' => DeclSays s e ∧ Nw w w' := by
  have hDP : declP s = (declS s.data.toList).map fun d => ⟨bA d.1, bA d.2.1, d.2.2⟩ := by unfold declP; rw [← decl_one]
  have h1 := tm_len s.data.toList
  rw [data_len] at h1
  unfold declS at hDP
  have HB0 : Hid (Bx3 w.heap.size (w.alloc (.cells #[.string ⟨#[]⟩, .string ⟨#[]⟩, .bool false] 50)) (.string ⟨#[]⟩) (.string ⟨#[]⟩) (.bool false)) := Bx3.new _ _ _ _ _
  have HN0 : Hid (Nw w (w.alloc (.cells #[.string ⟨#[]⟩, .string ⟨#[]⟩, .bool false] 50))) := (Below.refl _ _).alloc (Nat.le_refl _) _
  have HDP : Hid _ := hDP
  clear hDP
  have HT0 : Hid (∀ W, Calls Tryd.prog 73 #[.string s] W fun e w' => e = .returned (.string (bA (tmL s.data.toList))) ∧ w' = W) := fun W => strimL s W hs
  generalize tmL s.data.toList = T at *
  have hrl := runL_le T
  have hT : (bA T).size = T.length := bA_size T
  have HR0 : Hid (∀ W, Calls Tryd.prog 91 #[.string (bA T)] W fun e w' => e = .returned (.int .i64 (runL T : Nat)) ∧ w' = W) := fun W => by
    have := srunL W (bA T) (by rw [hT]; omega)
    rw [bA_list] at this
    exact this
  go_enter Tryd.func53, Tryd.ntmps53
  go_wp2_with fail
  generalize w.alloc (.cells #[.string ⟨#[]⟩, .string ⟨#[]⟩, .bool false] 50) = W at *
  refine Calls.mono (HT0.out _) ?_
  rintro e w1 ⟨rfl, hq⟩
  have hq2 := hq.symm; clear hq; subst hq2
  go_wp2_with fail
  refine Calls.mono (HR0.out _) ?_
  rintro e w1 ⟨rfl, hq⟩
  have hq2 := hq.symm; clear hq; subst hq2
  obtain ⟨z0, z1, z2, zf⟩ := HB0.out
  by_cases hn : runL T = 0
  · have HX : Hid (declP s = none) := by show declP s = none; rw [HDP.out, if_pos hn]; rfl
    rw [hn]
    obtain ⟨y0, y1, y2⟩ := set3d W w.heap.size (.string ⟨#[]⟩) (.string ⟨#[]⟩) (.bool false) z0 z1 z2
    clear hn
    go_wp2
    refine bodyPost_ret (v := .tuple #[.agg #[.string ⟨#[]⟩, .string ⟨#[]⟩, .bool false], .bool false]) (by simp [results, Tryd.results53, go_sem, y0, y1, y2]) rfl ⟨Or.inr ⟨HX.out, _, _, _, rfl⟩, ?_⟩
    exact ((HN0.out.setCell (Nat.le_refl _) _).setCell (Nat.le_refl _) _).setCell (Nat.le_refl _) _
  · have hdp := HDP.out
    rw [if_neg hn] at hdp
    have HD1 : Hid _ := hdp
    clear hdp HDP
    have HE1 : Hid ((bA T).extract 0 (runL T) = bA (T.take (runL T))) := by show _ = _; rw [ext_head, bA_list]
    have HE2 : Hid ((bA T).extract (runL T) (bA T).size = bA (T.drop (runL T))) := by show _ = _; rw [ext_tail, bA_list]
    rw [hT] at HE2
    have HL1 : Hid (∀ W, Calls Tryd.prog 72 #[.string (bA (T.take (runL T)))] W fun e w' => e = .returned (.string (bA (lowL (T.take (runL T))))) ∧ Nw W w') := fun W => by
      have := slow (bA (T.take (runL T))) W (by rw [bA_size, List.length_take]; omega)
      rw [bA_list] at this
      exact this
    have HT1 : Hid (∀ W, Calls Tryd.prog 73 #[.string (bA (T.drop (runL T)))] W fun e w' => e = .returned (.string (bA (tmL (T.drop (runL T))))) ∧ w' = W) := fun W => by
      have := strimL (bA (T.drop (runL T))) W (by rw [bA_size, List.length_drop]; omega)
      rw [bA_list] at this
      exact this
    have hr2 := tm_len (T.drop (runL T))
    rw [List.length_drop] at hr2
    generalize runL T = n at *
    have hnI : ((n : Int) == 0) = false := by simp; omega
    generalize tmL (T.drop n) = R at *
    generalize lowL (T.take n) = LN at *
    generalize bA (T.take n) = TN at *
    generalize bA (T.drop n) = TD at *
    generalize bA T = BT at *
    go_wp2_with fail
    rw [HE1.out]
    refine Calls.mono (HL1.out _) ?_
    rintro e w2 ⟨rfl, k2⟩
    have HB2 : Hid _ := HB0.out.nw k2
    have HN2 : Hid (Nw w w2) := Nw.trans HN0.out k2
    clear k2 z0 z1 z2 zf
    go_wp2_with fail
    rw [HE2.out]
    refine Calls.mono (HT1.out _) ?_
    rintro e w3 ⟨rfl, hq⟩
    have hq2 := hq.symm; clear hq; subst hq2
    have HB3 : Hid (Bx3 w.heap.size (w2.alloc (.cells #[.string (bA LN), .string ⟨#[]⟩, .bool false] 50)) (.string ⟨#[]⟩) (.string ⟨#[]⟩) (.bool false)) := HB2.out.nw ((Below.refl _ _).alloc (Nat.le_refl _) _)
    have HC3 : Hid (Bx3 w2.heap.size (w2.alloc (.cells #[.string (bA LN), .string ⟨#[]⟩, .bool false] 50)) (.string (bA LN)) (.string ⟨#[]⟩) (.bool false)) := Bx3.new _ _ _ _ _
    have HN3 : Hid (Nw w (w2.alloc (.cells #[.string (bA LN), .string ⟨#[]⟩, .bool false] 50))) := Nw.trans HN2.out ((Below.refl _ _).alloc (Nat.le_refl _) _)
    have hbl : w.heap.size < w2.heap.size := HB2.out.lt
    clear HB2
    generalize hW3 : w2.alloc (.cells #[.string (bA LN), .string ⟨#[]⟩, .bool false] 50) = W3 at *
    clear hW3
    obtain ⟨z0, z1, z2, zf⟩ := HB3.out
    have hRs : (bA R).size = R.length := bA_size R
    have hcells := HC3.out
    obtain ⟨p0, p1, p2, pf⟩ := hcells
    cases R with
    | nil =>
      have HX : Hid (declP s = none) := by show declP s = none; rw [HD1.out]; rfl
      have hb0 : bA ([] : List UInt8) = ⟨#[]⟩ := rfl
      rw [hb0]
      clear HC3 p0 p1 p2 pf hRs
      obtain ⟨y0, y1, y2⟩ := set3d W3 w.heap.size (.string ⟨#[]⟩) (.string ⟨#[]⟩) (.bool false) z0 z1 z2
      go_wp2
      refine bodyPost_ret (v := .tuple #[.agg #[.string ⟨#[]⟩, .string ⟨#[]⟩, .bool false], .bool false]) (by simp [results, Tryd.results53, go_sem, y0, y1, y2]) rfl ⟨Or.inr ⟨HX.out, _, _, _, rfl⟩, ?_⟩
      exact ((HN3.out.setCell (Nat.le_refl _) _).setCell (Nat.le_refl _) _).setCell (Nat.le_refl _) _
    | cons c v =>
      have hb0 : 0 < (bA (c :: v)).size := by rw [bA_size]; simp
      have hbc : (bA (c :: v))[0]'hb0 = c := by rw [getB]; simp [bA]
      have hlen : (((bA (c :: v)).size : Int) == 0) = false := by rw [beq_eq_false_iff_ne]; omega
      have HE3 : Hid ((bA (c :: v)).extract 1 (bA (c :: v)).size = bA v) := by show _ = _; rw [ext_tail, bA_list]; rfl
      by_cases h58 : c = 58
      · subst h58
        have g58 : ((((bA (58 :: v))[0]'hb0).toNat : Int) == 58) = true := by rw [hbc]; rfl
        have g58' : ((((bA (58 :: v))[0]'hb0).toNat : Int) != 58) = false := by rw [hbc]; rfl
        have HD2 : Hid (declP s = if fit60 (valS (tmL v)).1 then some ⟨bA LN, bA (valS (tmL v)).1, (valS (tmL v)).2⟩ else none) := by
          show _ = _
          rw [HD1.out]
          simp only [if_true]
          split <;> rfl
        have hvl : v.length ≤ 1048576 := by simp at hr2; omega
        have hv1 := tm_len v
        have HT2 : Hid (∀ W, Calls Tryd.prog 73 #[.string (bA v)] W fun e w' => e = .returned (.string (bA (tmL v))) ∧ w' = W) := fun W => by
          have := strimL (bA v) W (by rw [bA_size]; omega)
          rw [bA_list] at this
          exact this
        clear hbc HD1 hRs hr2
        generalize tmL v = V1 at *
        generalize bA v = BV at *
        generalize bA (58 :: v) = BR at *
        go_wp2_with fail
        rw [HE3.out]
        refine Calls.mono (HT2.out _) ?_
        rintro e w4 ⟨rfl, hq⟩
        have hq2 := hq.symm; clear hq; subst hq2
        have hV1 : (bA V1).size = V1.length := bA_size V1
        have hS1 : (bA V1).size ≤ 1048576 := by rw [hV1]; omega
        by_cases h10 : 10 ≤ V1.length
        · have h10I : (10 : Int) ≤ ((bA V1).size : Int) := by rw [hV1]; omega
          have HE4 : Hid ((bA V1).extract (V1.length - 10) V1.length = bA (V1.drop (V1.length - 10))) := by show _ = _; rw [← hV1, ext_tail, bA_list, hV1]
          have HE5 : Hid ((bA V1).extract 0 (V1.length - 10) = bA (V1.take (V1.length - 10))) := by show _ = _; rw [ext_head, bA_list]
          by_cases hm : V1.drop (V1.length - 10) = markL10
          · have hsuf : markL10.isSuffixOf V1 = true := by rw [suf_at]; exact decide_eq_true ⟨h10, hm⟩
            have hmb : ((bA (V1.drop (V1.length - 10))).toList == [33, 105, 109, 112, 111, 114, 116, 97, 110, 116]) = true := by
              rw [hm, ByteArray.toList_eq, bA_list]; rfl
            have HDE : Hid (declP s = if fit60 (tmL (V1.take (V1.length - 10))) then some ⟨bA LN, bA (tmL (V1.take (V1.length - 10))), true⟩ else none) := by
              show _ = _
              rw [HD2.out]
              unfold valS
              rw [if_pos hsuf]
            have HT3 : Hid (∀ W, Calls Tryd.prog 73 #[.string (bA (V1.take (V1.length - 10)))] W fun e w' => e = .returned (.string (bA (tmL (V1.take (V1.length - 10))))) ∧ w' = W) := fun W => by
              have := strimL (bA (V1.take (V1.length - 10))) W (by rw [bA_size, List.length_take]; omega)
              rw [bA_list] at this
              exact this
            have hvs := bA_size (tmL (V1.take (V1.length - 10)))
            have hvt := tm_len (V1.take (V1.length - 10))
            rw [List.length_take] at hvt
            generalize tmL (V1.take (V1.length - 10)) = VL at *
            have hVL : VL.length ≤ 1048576 := by omega
            obtain ⟨X8, hX8⟩ : ∃ X8, W3.setCell ⟨w2.heap.size, 2, none⟩ (.bool true) = X8 := ⟨_, rfl⟩
            have HX8 : Hid (W3.setCell ⟨w2.heap.size, 2, none⟩ (.bool true) = X8) := hX8
            have HC8 : Hid (Bx3 w2.heap.size X8 (.string (bA LN)) (.string ⟨#[]⟩) (.bool true)) := by show Bx3 _ _ _ _ _; rw [← hX8]; exact HC3.out.s2 _
            have HB8 : Hid (Bx3 w.heap.size X8 (.string ⟨#[]⟩) (.string ⟨#[]⟩) (.bool false)) := by show Bx3 _ _ _ _ _; rw [← hX8]; exact HB3.out.off _ _ _ (by omega)
            have HN8 : Hid (Nw w X8) := by show Nw _ _; rw [← hX8]; exact HN3.out.setCell (by show w.heap.size ≤ w2.heap.size; omega) _
            obtain ⟨X9, hX9⟩ : ∃ X9, X8.setCell ⟨w2.heap.size, 1, none⟩ (.string (bA VL)) = X9 := ⟨_, rfl⟩
            have HX9 : Hid (X8.setCell ⟨w2.heap.size, 1, none⟩ (.string (bA VL)) = X9) := hX9
            have HPB : Hid (Bx3 w2.heap.size X9 (.string (bA LN)) (.string (bA VL)) (.bool true)) := by show Bx3 _ _ _ _ _; rw [← hX9]; exact HC8.out.s1 _
            have HZB : Hid (Bx3 w.heap.size X9 (.string ⟨#[]⟩) (.string ⟨#[]⟩) (.bool false)) := by show Bx3 _ _ _ _ _; rw [← hX9]; exact HB8.out.off _ _ _ (by omega)
            have HN9 : Hid (Nw w X9) := by show Nw _ _; rw [← hX9]; exact HN8.out.setCell (by show w.heap.size ≤ w2.heap.size; omega) _
            clear hX8 hX9 hsuf hm hvt
            generalize bA (V1.take (V1.length - 10)) = B10 at *
            generalize bA (V1.drop (V1.length - 10)) = D10 at *
            generalize bA V1 = BV1 at *
            have hx1 := HE4.out
            go_wp2_with fail
            rw [HX8.out, HE5.out]
            refine Calls.mono (HT3.out _) ?_
            rintro e w5 ⟨rfl, hq⟩
            have hq2 := hq.symm; clear hq; subst hq2
            obtain ⟨r0, r1, r2, rf⟩ := HC8.out
            clear z0 z1 z2 zf p0 p1 p2 pf
            go_wp2
            rw [HX9.out]
            clear r0 r1 r2 rf
            obtain ⟨p0, p1, p2, pf⟩ := HPB.out
            obtain ⟨z0, z1, z2, zf⟩ := HZB.out
            obtain ⟨_, _, y2⟩ := set3d X9 w.heap.size (.string (bA LN)) (.string (bA VL)) (.bool true) z0 z1 z2
            have y0 := World.cell?_setCell_same X9 ⟨w.heap.size, 0, none⟩ (.string (bA LN)) z0
            have y1 := World.cell?_setCell_same (X9.setCell ⟨w.heap.size, 0, none⟩ (.string (bA LN))) ⟨w.heap.size, 1, none⟩ (.string (bA VL)) ((World.cell?_setCell_other _ _ _ _ (fun e => by injection e; omega)).trans z1)
            have q0 : X9.drew.cell? ⟨w2.heap.size, 0, none⟩ = some (.string (bA LN)) := p0
            have q1 : X9.drew.cell? ⟨w2.heap.size, 1, none⟩ = some (.string (bA VL)) := p1
            have q2 : X9.drew.cell? ⟨w2.heap.size, 2, none⟩ = some (.bool true) := p2
            have e0 : X9.drew.cell? ⟨w.heap.size, 0, none⟩ = some (.string ⟨#[]⟩) := z0
            have e1 : X9.drew.cell? ⟨w.heap.size, 1, none⟩ = some (.string ⟨#[]⟩) := z1
            have e2 : X9.drew.cell? ⟨w.heap.size, 2, none⟩ = some (.bool false) := z2
            have ef : ∀ o, X9.drew.frozen? ⟨w.heap.size, o, none⟩ = false := zf
            have HND : Hid (Nw w X9.drew) := Below.drew HN9.out
            have HIN : Hid (∀ W, Calls Tryd.prog 68 #[.int .i64 (VL.length : Int), .int .i64 1, .int .i64 60] W fun e w' => e = .returned (.bool (fit60 VL)) ∧ w' = W) := fun W => by
              have := in_any W VL.length 1 60
              have e : decide ((1 : Int) ≤ (VL.length : Int) ∧ (VL.length : Int) ≤ 60) = fit60 VL := by unfold fit60; rw [Bool.eq_iff_iff, decide_eq_true_eq, decide_eq_true_eq]; omega
              rw [e] at this
              exact this
            generalize fit60 VL = ft at *
            go_region_with (go_at_call 68; refine (HIN.out _).mono ?_; rintro e w' ⟨rfl, hq⟩; have hq2 := hq.symm; clear hq; subst hq2)
            all_goals
              go_wp2
              refine bodyPost_ret (v := .tuple #[.agg #[.string (bA LN), .string (bA VL), .bool true], .bool ft]) (by simp [results, Tryd.results53, go_sem, y0, y1, y2]) rfl ⟨?_, ((HND.out.setCell (Nat.le_refl _) _).setCell (Nat.le_refl _) _).setCell (Nat.le_refl _) _⟩
              cases ft with
              | true => exact Or.inl ⟨⟨bA LN, bA VL, true⟩, by rw [HDE.out]; rfl, rfl⟩
              | false => exact Or.inr ⟨by rw [HDE.out]; rfl, _, _, _, rfl⟩
          · have hsuf : markL10.isSuffixOf V1 = false := by rw [suf_at]; exact decide_eq_false (fun h => hm h.2)
            have hmb : ((bA (V1.drop (V1.length - 10))).toList == [33, 105, 109, 112, 111, 114, 116, 97, 110, 116]) = false := by
              rw [beq_eq_false_iff_ne, ByteArray.toList_eq, bA_list]; exact hm
            have HDE : Hid (declP s = if fit60 V1 then some ⟨bA LN, bA V1, false⟩ else none) := by
              show _ = _
              rw [HD2.out]
              unfold valS
              rw [hsuf]
              simp only [Bool.false_eq_true, if_false]
            obtain ⟨X9, hX9⟩ : ∃ X9, W3.setCell ⟨w2.heap.size, 1, none⟩ (.string (bA V1)) = X9 := ⟨_, rfl⟩
            have HX9 : Hid (W3.setCell ⟨w2.heap.size, 1, none⟩ (.string (bA V1)) = X9) := hX9
            have HPB : Hid (Bx3 w2.heap.size X9 (.string (bA LN)) (.string (bA V1)) (.bool false)) := by show Bx3 _ _ _ _ _; rw [← hX9]; exact HC3.out.s1 _
            have HZB : Hid (Bx3 w.heap.size X9 (.string ⟨#[]⟩) (.string ⟨#[]⟩) (.bool false)) := by show Bx3 _ _ _ _ _; rw [← hX9]; exact HB3.out.off _ _ _ (by omega)
            have HN9 : Hid (Nw w X9) := by show Nw _ _; rw [← hX9]; exact HN3.out.setCell (by show w.heap.size ≤ w2.heap.size; omega) _
            clear hX9 hsuf
            have hx1 := HE4.out
            generalize bA (V1.drop (V1.length - 10)) = D10 at *
            go_wp2
            rw [HX9.out]
            clear p0 p1 p2 pf z0 z1 z2 zf hx1 hmb
            generalize V1 = VL at *
            obtain ⟨p0, p1, p2, pf⟩ := HPB.out
            obtain ⟨z0, z1, z2, zf⟩ := HZB.out
            obtain ⟨_, _, y2⟩ := set3d X9 w.heap.size (.string (bA LN)) (.string (bA VL)) (.bool false) z0 z1 z2
            have y0 := World.cell?_setCell_same X9 ⟨w.heap.size, 0, none⟩ (.string (bA LN)) z0
            have y1 := World.cell?_setCell_same (X9.setCell ⟨w.heap.size, 0, none⟩ (.string (bA LN))) ⟨w.heap.size, 1, none⟩ (.string (bA VL)) ((World.cell?_setCell_other _ _ _ _ (fun e => by injection e; omega)).trans z1)
            have q0 : X9.drew.cell? ⟨w2.heap.size, 0, none⟩ = some (.string (bA LN)) := p0
            have q1 : X9.drew.cell? ⟨w2.heap.size, 1, none⟩ = some (.string (bA VL)) := p1
            have q2 : X9.drew.cell? ⟨w2.heap.size, 2, none⟩ = some (.bool false) := p2
            have e0 : X9.drew.cell? ⟨w.heap.size, 0, none⟩ = some (.string ⟨#[]⟩) := z0
            have e1 : X9.drew.cell? ⟨w.heap.size, 1, none⟩ = some (.string ⟨#[]⟩) := z1
            have e2 : X9.drew.cell? ⟨w.heap.size, 2, none⟩ = some (.bool false) := z2
            have ef : ∀ o, X9.drew.frozen? ⟨w.heap.size, o, none⟩ = false := zf
            have HND : Hid (Nw w X9.drew) := Below.drew HN9.out
            have HIN : Hid (∀ W, Calls Tryd.prog 68 #[.int .i64 (VL.length : Int), .int .i64 1, .int .i64 60] W fun e w' => e = .returned (.bool (fit60 VL)) ∧ w' = W) := fun W => by
              have := in_any W VL.length 1 60
              have e : decide ((1 : Int) ≤ (VL.length : Int) ∧ (VL.length : Int) ≤ 60) = fit60 VL := by unfold fit60; rw [Bool.eq_iff_iff, decide_eq_true_eq, decide_eq_true_eq]; omega
              rw [e] at this
              exact this
            generalize fit60 VL = ft at *
            go_region_with (go_at_call 68; refine (HIN.out _).mono ?_; rintro e w' ⟨rfl, hq⟩; have hq2 := hq.symm; clear hq; subst hq2)
            all_goals
              go_wp2
              refine bodyPost_ret (v := .tuple #[.agg #[.string (bA LN), .string (bA VL), .bool false], .bool ft]) (by simp [results, Tryd.results53, go_sem, y0, y1, y2]) rfl ⟨?_, ((HND.out.setCell (Nat.le_refl _) _).setCell (Nat.le_refl _) _).setCell (Nat.le_refl _) _⟩
              cases ft with
              | true => exact Or.inl ⟨⟨bA LN, bA VL, false⟩, by rw [HDE.out]; rfl, rfl⟩
              | false => exact Or.inr ⟨by rw [HDE.out]; rfl, _, _, _, rfl⟩
        · have h10I : ¬ ((10 : Int) ≤ ((bA V1).size : Int)) := by rw [hV1]; omega
          have hsuf : markL10.isSuffixOf V1 = false := by rw [suf_at]; exact decide_eq_false (fun h => h10 h.1)
          have HDE : Hid (declP s = if fit60 V1 then some ⟨bA LN, bA V1, false⟩ else none) := by
            show _ = _
            rw [HD2.out]
            unfold valS
            rw [hsuf]
            simp only [Bool.false_eq_true, if_false]
          obtain ⟨X9, hX9⟩ : ∃ X9, W3.setCell ⟨w2.heap.size, 1, none⟩ (.string (bA V1)) = X9 := ⟨_, rfl⟩
          have HX9 : Hid (W3.setCell ⟨w2.heap.size, 1, none⟩ (.string (bA V1)) = X9) := hX9
          have HPB : Hid (Bx3 w2.heap.size X9 (.string (bA LN)) (.string (bA V1)) (.bool false)) := by show Bx3 _ _ _ _ _; rw [← hX9]; exact HC3.out.s1 _
          have HZB : Hid (Bx3 w.heap.size X9 (.string ⟨#[]⟩) (.string ⟨#[]⟩) (.bool false)) := by show Bx3 _ _ _ _ _; rw [← hX9]; exact HB3.out.off _ _ _ (by omega)
          have HN9 : Hid (Nw w X9) := by show Nw _ _; rw [← hX9]; exact HN3.out.setCell (by show w.heap.size ≤ w2.heap.size; omega) _
          clear hX9 hsuf
          go_wp2
          rw [HX9.out]
          clear p0 p1 p2 pf z0 z1 z2 zf
          generalize V1 = VL at *
          obtain ⟨p0, p1, p2, pf⟩ := HPB.out
          obtain ⟨z0, z1, z2, zf⟩ := HZB.out
          obtain ⟨_, _, y2⟩ := set3d X9 w.heap.size (.string (bA LN)) (.string (bA VL)) (.bool false) z0 z1 z2
          have y0 := World.cell?_setCell_same X9 ⟨w.heap.size, 0, none⟩ (.string (bA LN)) z0
          have y1 := World.cell?_setCell_same (X9.setCell ⟨w.heap.size, 0, none⟩ (.string (bA LN))) ⟨w.heap.size, 1, none⟩ (.string (bA VL)) ((World.cell?_setCell_other _ _ _ _ (fun e => by injection e; omega)).trans z1)
          have q0 : X9.drew.cell? ⟨w2.heap.size, 0, none⟩ = some (.string (bA LN)) := p0
          have q1 : X9.drew.cell? ⟨w2.heap.size, 1, none⟩ = some (.string (bA VL)) := p1
          have q2 : X9.drew.cell? ⟨w2.heap.size, 2, none⟩ = some (.bool false) := p2
          have e0 : X9.drew.cell? ⟨w.heap.size, 0, none⟩ = some (.string ⟨#[]⟩) := z0
          have e1 : X9.drew.cell? ⟨w.heap.size, 1, none⟩ = some (.string ⟨#[]⟩) := z1
          have e2 : X9.drew.cell? ⟨w.heap.size, 2, none⟩ = some (.bool false) := z2
          have ef : ∀ o, X9.drew.frozen? ⟨w.heap.size, o, none⟩ = false := zf
          have HND : Hid (Nw w X9.drew) := Below.drew HN9.out
          have HIN : Hid (∀ W, Calls Tryd.prog 68 #[.int .i64 (VL.length : Int), .int .i64 1, .int .i64 60] W fun e w' => e = .returned (.bool (fit60 VL)) ∧ w' = W) := fun W => by
            have := in_any W VL.length 1 60
            have e : decide ((1 : Int) ≤ (VL.length : Int) ∧ (VL.length : Int) ≤ 60) = fit60 VL := by unfold fit60; rw [Bool.eq_iff_iff, decide_eq_true_eq, decide_eq_true_eq]; omega
            rw [e] at this
            exact this
          generalize fit60 VL = ft at *
          go_region_with (go_at_call 68; refine (HIN.out _).mono ?_; rintro e w' ⟨rfl, hq⟩; have hq2 := hq.symm; clear hq; subst hq2)
          all_goals
            go_wp2
            refine bodyPost_ret (v := .tuple #[.agg #[.string (bA LN), .string (bA VL), .bool false], .bool ft]) (by simp [results, Tryd.results53, go_sem, y0, y1, y2]) rfl ⟨?_, ((HND.out.setCell (Nat.le_refl _) _).setCell (Nat.le_refl _) _).setCell (Nat.le_refl _) _⟩
            cases ft with
            | true => exact Or.inl ⟨⟨bA LN, bA VL, false⟩, by rw [HDE.out]; rfl, rfl⟩
            | false => exact Or.inr ⟨by rw [HDE.out]; rfl, _, _, _, rfl⟩
      · have g58 : ((((bA (c :: v))[0]'hb0).toNat : Int) == 58) = false := by rw [hbc]; exact (byte_ne 58 (by omega) h58).1
        have g58' : ((((bA (c :: v))[0]'hb0).toNat : Int) != 58) = true := by rw [hbc]; exact (byte_ne 58 (by omega) h58).2
        have HX : Hid (declP s = none) := by show declP s = none; rw [HD1.out]; simp only [if_neg h58]; rfl
        clear HC3 p0 p1 p2 pf hbc HD1 hRs h58
        generalize bA (c :: v) = BR at *
        obtain ⟨y0, y1, y2⟩ := set3d W3 w.heap.size (.string ⟨#[]⟩) (.string ⟨#[]⟩) (.bool false) z0 z1 z2
        go_wp2
        refine bodyPost_ret (v := .tuple #[.agg #[.string ⟨#[]⟩, .string ⟨#[]⟩, .bool false], .bool false]) (by simp [results, Tryd.results53, go_sem, y0, y1, y2]) rfl ⟨Or.inr ⟨HX.out, _, _, _, rfl⟩, ?_⟩
        exact ((HN3.out.setCell (Nat.le_refl _) _).setCell (Nat.le_refl _) _).setCell (Nat.le_refl _) _
end Go.Proofs.YtnkmdmmlpidcmaaDoor
