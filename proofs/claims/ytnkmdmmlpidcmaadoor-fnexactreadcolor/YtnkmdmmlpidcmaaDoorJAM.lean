/-
  A color's text, which way it goes: pure facts; each theorem names its conditions.
  A declaration read by the program; each theorem names its conditions.
  Rows of declarations, and what the laws' helpers do with them; each theorem names its conditions.
  Declarations read by the program; each theorem names its conditions.
-/
import Derived.Test.YtnkmdmmlpidcmaaDoorJAL
import Derived.Test.YtnkmdmmlpidcmaaDoorJAJ
import Derived.Test.YtnkmdmmlpidcmaaDoorJAE
import Derived.Lib.Case
import Derived.Test.YtnkmdmmlpidcmaaDoorJAF
import Derived.WalkMore
import Derived.ScopeJumps
namespace Go.Proofs.YtnkmdmmlpidcmaaDoor
open Go.ChangeShapes Go.WideShapes Go.ChangeAt Go.RowKit
set_option linter.unusedVariables false

theorem nm_no40 : ∀ j, j < 17 → (strAt nmL j).data.toList[3]? ≠ some 40 := by decide
theorem name_rgb {t : List UInt8} (h : t.take 4 = rgbL) : nameC t = none := by
  refine name_no (fun j hj e => nm_no40 j hj ?_)
  rw [e, bA_list]
  have h3 : t[3]? = some 40 := by
    have : (t.take 4)[3]? = some 40 := by rw [h]; rfl
    rw [List.getElem?_take] at this
    simpa using this
  unfold lowL
  rw [List.getElem?_map, h3]
  rfl
theorem colC_hash {t : List UInt8} (h : t.head? = some 35) : colC t = hashC (t.drop 1) := by unfold colC; rw [if_pos h]
theorem colC_name {t : List UInt8} (h1 : ¬ t.head? = some 35) (h2 : ¬ t.take 4 = rgbL) : colC t = nameC t := by unfold colC; rw [if_neg h1, if_neg h2]
theorem colC_short {t : List UInt8} (h1 : ¬ t.head? = some 35) (h2 : t.length < 5) : colC t = nameC t := by
  by_cases h : t.take 4 = rgbL
  · unfold colC; rw [if_neg h1, if_pos h, if_pos h2, name_rgb h]
  · exact colC_name h1 h
theorem colC_open {t : List UInt8} (h1 : ¬ t.head? = some 35) (h2 : ¬ t[t.length - 1]? = some 41) : colC t = nameC t := by
  by_cases h : t.take 4 = rgbL
  · unfold colC
    rw [if_neg h1, if_pos h, name_rgb h]
    rw [if_neg h2]
    split <;> rfl
  · exact colC_name h1 h
theorem colC_nums {t : List UInt8} (h1 : ¬ t.head? = some 35) (h2 : t.take 4 = rgbL) (h3 : ¬ t.length < 5) (h4 : t[t.length - 1]? = some 41) : colC t = numsC ((t.take (t.length - 1)).drop 4) := by
  unfold colC; rw [if_neg h1, if_pos h2, if_neg h3, if_pos h4]
theorem head_at (T : ByteArray) (h : 0 < T.size) : T.data.toList.head? = some T[0] := by
  rw [List.head?_eq_getElem?, getB T 0 h, List.getElem?_eq_getElem (by rw [data_len]; exact h)]
theorem last_at (T : ByteArray) {m : Nat} (h : T.size = m + 1) : T.data.toList[T.data.toList.length - 1]? = some (T[m]'(by omega)) := by
  have e : T.data.toList.length - 1 = m := by rw [data_len]; omega
  rw [e, getB T m (by omega), List.getElem?_eq_getElem (by rw [data_len]; omega)]
/-- The tones of the pieces that were looked at. -/
def TnS (ps : List ByteArray) (k : Nat) (xs : List Int) : Prop := (ps.take k).map (fun p => toneW p.data.toList) = xs.map some
theorem TnS.zero (ps : List ByteArray) : TnS ps 0 [] := rfl
theorem TnS.len {ps : List ByteArray} {k : Nat} {xs : List Int} (h : TnS ps k xs) (hk : k ≤ ps.length) : xs.length = k := by
  have := congrArg List.length h
  rw [List.length_map, List.length_map, List.length_take] at this
  omega
theorem TnS.step {ps : List ByteArray} {k : Nat} {xs : List Int} (h : TnS ps k xs) (hk : k < ps.length) {x : Int} (hx : toneW (strAt ps k).data.toList = some x) : TnS ps (k + 1) (xs ++ [x]) := by
  unfold TnS at *
  rw [List.take_add_one, List.getElem?_eq_getElem hk, List.map_append, List.map_append, h]
  have e : ps[k] = strAt ps k := by simp [strAt, hk]
  rw [e]
  simp [hx]
theorem tones_pcs (l : List UInt8) : numsC l = tonesC ((pcB 44 (bA l)).map (fun p => toneW p.data.toList)) := by
  unfold numsC pcB
  rw [List.map_map, bA_list]
  congr 1
theorem tones_bad {ps : List ByteArray} {k : Nat} (hk : k < ps.length) (h : toneW (strAt ps k).data.toList = none) : tonesC (ps.map (fun p => toneW p.data.toList)) = none := by
  apply tonesC_none
  rw [List.mem_map]
  exact ⟨strAt ps k, by simp [strAt, hk], h⟩
theorem tones_all {ps : List ByteArray} {xs : List Int} (h : TnS ps ps.length xs) : ps.map (fun p => toneW p.data.toList) = xs.map some := by
  unfold TnS at h
  rw [List.take_length] at h
  exact h
theorem tone_size {t : List UInt8} (h : ¬ (1 ≤ t.length ∧ t.length ≤ 3)) : toneC t = none := by unfold toneC; rw [decide_eq_false h]; rfl
theorem tone_dig {t : List UInt8} (h : allD t = false) : toneC t = none := by unfold toneC; rw [h, Bool.and_false]; rfl
theorem tone_yes {t : List UInt8} (h1 : 1 ≤ t.length ∧ t.length ≤ 3) (h2 : allD t = true) : toneC t = some (min (num t) 255) := by unfold toneC; rw [decide_eq_true h1, h2]; rfl
end Go.Proofs.YtnkmdmmlpidcmaaDoor
namespace Go.Proofs.YtnkmdmmlpidcmaaDoor
open Go.ChangeShapes Go.WideShapes Go.ChangeAt Go.RowKit
set_option linter.unusedVariables false

/-- A declaration. -/
structure DD where
  nm : ByteArray
  vl : ByteArray
  im : Bool
def noDD : DD := ⟨⟨#[]⟩, ⟨#[]⟩, false⟩
def declP (s : ByteArray) : Option DD := (declI s.data.toList).map fun d => ⟨bA d.1, bA d.2.1, d.2.2⟩
def DeclSays (s : ByteArray) (e : Ending) : Prop :=
  (∃ d, declP s = some d ∧ e = .returned (.tuple #[.agg #[.string d.nm, .string d.vl, .bool d.im], .bool true])) ∨
  (declP s = none ∧ ∃ x y b, e = .returned (.tuple #[.agg #[.string x, .string y, .bool b], .bool false]))
theorem cutV_C (s : ByteArray) : ∃ b, cutV 58 s = .tuple #[.string (bA (nmC s.data.toList)), .string (bA (vlC s.data.toList)), .bool b] := by
  unfold cutV nmC vlC
  rw [data_len]
  by_cases h : brk 58 s.data.toList < s.size
  · rw [if_pos h, if_pos h, if_pos h, ext_head, ext_tail]; exact ⟨_, rfl⟩
  · rw [if_neg h, if_neg h, if_neg h, bA_data]; exact ⟨_, rfl⟩
theorem low_lower (l : List UInt8) : Lib.toLowerA l = lowL l := by
  unfold Lib.toLowerA lowL
  apply List.map_congr_left
  intro b _
  have e : Lib.isUpperB b = decide (65 ≤ b.toNat ∧ b.toNat ≤ 90) := by
    unfold Lib.isUpperB
    rw [Bool.eq_iff_iff]
    simp [UInt8.le_iff_toNat_le]
  unfold Lib.lowerB lowB
  rw [e]
  by_cases h : 65 ≤ b.toNat ∧ b.toNat ≤ 90
  · rw [if_pos h, if_pos (decide_eq_true h)]
  · rw [if_neg h, if_neg (by rw [decide_eq_false h]; simp)]
theorem tm_len (l : List UInt8) : (tmL l).length ≤ l.length := by
  obtain ⟨a, b, h, _⟩ := tmL_split l
  conv => rhs; rw [h]
  simp; omega
theorem tr_len (l : List UInt8) : (trL l).length ≤ l.length := by
  obtain ⟨b, h, _⟩ := trL_split l
  conv => rhs; rw [h]
  simp
theorem nmC_len (l : List UInt8) : (nmC l).length ≤ l.length ∧ (vlC l).length ≤ l.length := by
  unfold nmC vlC
  split <;> simp <;> omega
theorem word_ascii {l : List UInt8} (h : wordL l = true) : ∀ (j : Nat) (b : UInt8), l[j]? = some b → b.toNat < 128 := by
  intro j b hb
  unfold wordL at h
  simp only [Bool.and_eq_true] at h
  have := List.all_eq_true.1 h.2.2 b (List.mem_of_getElem? hb)
  unfold wbL at this
  rw [decide_eq_true_eq] at this
  omega
theorem igvs (w : World) (s : ByteArray) (hs : s.size ≤ 1048576) : Calls Tryd.prog 95 #[.string s] w fun e w' => e = .returned (.bool (fit60 s.data.toList)) ∧ w' = w := by
  unfold fit60
  rw [data_len]
  by_cases h0 : s.size = 0
  · obtain rfl := empty_of h0
    go_enter Tryd.func95, Tryd.ntmps95
    go_wp2
    go_ret
    exact ⟨rfl, rfl⟩
  · have n1 := ne_nil (s := s) (by omega)
    have n2 := ne_emp (s := s) (by omega)
    have HX : Hid (decide (1 ≤ s.size ∧ s.size ≤ 60) = decide ((s.size : Int) ≤ 60)) := by
      show _ = _
      rw [Bool.eq_iff_iff]; simp; omega
    go_enter Tryd.func95, Tryd.ntmps95
    go_wp2
    go_ret
    exact ⟨by rw [HX.out]; first | rfl | simp, rfl⟩
theorem itrim (s : ByteArray) (w : World) (hs : s.size ≤ 1048576) : Calls Tryd.prog 84 #[.string s, .string ⟨#[9, 10, 13, 32]⟩] w fun e w' => e = .returned (.string (bA (tmL s.data.toList))) ∧ Nw w w' := by
  refine (Any.strings_Trim_laid Tryd.lays160 (by kernel_rfl) s ⟨#[9, 10, 13, 32]⟩ w (by omega) (by decide) (ascii_of_all (by decide))).mono ?_
  rintro e w' ⟨rfl, h⟩
  exact ⟨rfl, h⟩
theorem itrimR (s : ByteArray) (w : World) (hs : s.size ≤ 1048576) : Calls Tryd.prog 93 #[.string s, .string ⟨#[9, 10, 13, 32]⟩] w fun e w' => e = .returned (.string (bA (trL s.data.toList))) ∧ Nw w w' := by
  refine (Any.strings_TrimRight_laid Tryd.lays162 (by kernel_rfl) s ⟨#[9, 10, 13, 32]⟩ w (by omega) (by decide) (ascii_of_all (by decide))).mono ?_
  rintro e w' ⟨rfl, h⟩
  exact ⟨rfl, h⟩
def sufL (v : List UInt8) : List UInt8 := if markL10.isSuffixOf v then v.take (v.length - 10) else v
theorem icutS (s : ByteArray) (w : World) (hs : s.size ≤ 1048576) : Calls Tryd.prog 87 #[.string s, .string ⟨#[33, 105, 109, 112, 111, 114, 116, 97, 110, 116]⟩] w fun e w' => e = .returned (.tuple #[.string (bA (sufL s.data.toList)), .bool (markL10.isSuffixOf s.data.toList)]) ∧ w' = w := by
  refine (Tryd.strings_CutSuffix s _ w (by omega)).mono ?_
  rintro e w' ⟨rfl, h⟩
  exact ⟨rfl, h⟩
theorem valI_suf (v : List UInt8) : valI v = (trL (sufL v), markL10.isSuffixOf v) := by
  unfold valI sufL
  split
  · rename_i h; rw [h]
  · rename_i h; rw [Bool.not_eq_true] at h; rw [h]
theorem suf_len (v : List UInt8) : (sufL v).length ≤ v.length := by unfold sufL; split <;> simp
theorem set3d (w : World) (b : Nat) (u0 u1 u2 : Value) {v0 v1 v2 : Value} (z0 : w.cell? ⟨b, 0, none⟩ = some v0) (z1 : w.cell? ⟨b, 1, none⟩ = some v1) (z2 : w.cell? ⟨b, 2, none⟩ = some v2) :
    (((w.setCell ⟨b, 0, none⟩ u0).setCell ⟨b, 1, none⟩ u1).setCell ⟨b, 2, none⟩ u2).cell? ⟨b, 0, none⟩ = some u0 ∧ (((w.setCell ⟨b, 0, none⟩ u0).setCell ⟨b, 1, none⟩ u1).setCell ⟨b, 2, none⟩ u2).cell? ⟨b, 1, none⟩ = some u1 ∧ (((w.setCell ⟨b, 0, none⟩ u0).setCell ⟨b, 1, none⟩ u1).setCell ⟨b, 2, none⟩ u2).cell? ⟨b, 2, none⟩ = some u2 := by
  have far : ∀ (w : World) (o o' : Nat) (u : Value), o ≠ o' → (w.setCell ⟨b, o, none⟩ u).cell? ⟨b, o', none⟩ = w.cell? ⟨b, o', none⟩ := fun w o o' u h => World.cell?_setCell_other _ _ _ _ (fun e => by injection e; omega)
  refine ⟨?_, ?_, ?_⟩
  · rw [far _ 2 0 _ (by omega), far _ 1 0 _ (by omega)]
    exact World.cell?_setCell_same w ⟨b, 0, none⟩ _ z0
  · rw [far _ 2 1 _ (by omega)]
    exact World.cell?_setCell_same _ ⟨b, 1, none⟩ _ ((far _ 0 1 _ (by omega)).trans z1)
  · exact World.cell?_setCell_same _ ⟨b, 2, none⟩ _ ((far _ 1 2 _ (by omega)).trans ((far _ 0 2 _ (by omega)).trans z2))
/-- A box of three cells. -/
structure Bx3 (b : Nat) (w : World) (u0 u1 u2 : Value) : Prop where
  c0 : w.cell? ⟨b, 0, none⟩ = some u0
  c1 : w.cell? ⟨b, 1, none⟩ = some u1
  c2 : w.cell? ⟨b, 2, none⟩ = some u2
  fz : ∀ o, w.frozen? ⟨b, o, none⟩ = false
theorem Bx3.lt {b : Nat} {w : World} {u0 u1 u2 : Value} (h : Bx3 b w u0 u1 u2) : b < w.heap.size := World.block_lt_of_cell? w ⟨b, 0, none⟩ h.c0
theorem Bx3.nw {b : Nat} {w w' : World} {u0 u1 u2 : Value} (h : Bx3 b w u0 u1 u2) (k : Nw w w') : Bx3 b w' u0 u1 u2 :=
  ⟨((bcell k).1 _ _ h.lt).trans h.c0, ((bcell k).1 _ _ h.lt).trans h.c1, ((bcell k).1 _ _ h.lt).trans h.c2, fun o => ((bcell k).2 _ _ h.lt).trans (h.fz o)⟩
theorem Bx3.new (w : World) (t : TypeId) (u0 u1 u2 : Value) : Bx3 w.heap.size (w.alloc (.cells #[u0, u1, u2] t)) u0 u1 u2 :=
  ⟨by simp, by simp, by simp, fun o => World.frozen?_alloc_at _ _ _ _ rfl⟩
set_option maxHeartbeats 8000000 in
theorem ideclOf (s : ByteArray) (w : World) (hs : s.size ≤ 1048576) :
    Calls Tryd.prog 55 #[.string s] w fun e w' => DeclSays s e ∧ Nw w w' := by
  obtain ⟨cb, hcut⟩ := cutV_C s
  have HCT : Hid _ := hcut
  obtain ⟨hn, hv⟩ := nmC_len s.data.toList
  rw [data_len] at hn hv
  have hn2 := tm_len (nmC s.data.toList)
  have hv2 := tm_len (vlC s.data.toList)
  have hv3 := suf_len (tmL (vlC s.data.toList))
  have hv4 := tr_len (sufL (tmL (vlC s.data.toList)))
  have hD : declI s.data.toList = if wordL (tmL (nmC s.data.toList)) && fit60 (trL (sufL (tmL (vlC s.data.toList)))) then some (lowL (tmL (nmC s.data.toList)), trL (sufL (tmL (vlC s.data.toList))), markL10.isSuffixOf (tmL (vlC s.data.toList))) else none := by
    unfold declI
    rw [valI_suf]
  have hDP : declP s = (declI s.data.toList).map fun d => ⟨bA d.1, bA d.2.1, d.2.2⟩ := rfl
  rw [hD] at hDP
  have HDP : Hid _ := hDP
  clear hcut hD hDP
  generalize nmC s.data.toList = N at *
  generalize vlC s.data.toList = V at *
  have HB0 : Hid (Bx3 w.heap.size (w.alloc (.cells #[.string ⟨#[]⟩, .string ⟨#[]⟩, .bool false] 50)) (.string ⟨#[]⟩) (.string ⟨#[]⟩) (.bool false)) := Bx3.new _ _ _ _ _
  have HN0 : Hid (Nw w (w.alloc (.cells #[.string ⟨#[]⟩, .string ⟨#[]⟩, .bool false] 50))) := (Below.refl _ _).alloc (Nat.le_refl _) _
  go_enter Tryd.func55, Tryd.ntmps55
  go_wp2_with fail
  refine Calls.mono (cut1 s 58 _ hs) ?_
  rw [HCT.out]
  rintro e w1 ⟨rfl, k1⟩
  have HN1 : Hid (Nw (w.alloc (.cells #[.string ⟨#[]⟩, .string ⟨#[]⟩, .bool false] 50)) w1) := k1
  clear k1
  go_wp2_with fail
  refine Calls.mono (itrim (bA N) _ (by rw [bA_size]; omega)) ?_
  rw [bA_list]
  rintro e w2 ⟨rfl, k2⟩
  have HN2 : Hid _ := Nw.trans HN1.out k2
  clear k2 HN1
  go_wp2_with fail
  refine Calls.mono (itrim (bA V) _ (by rw [bA_size]; omega)) ?_
  rw [bA_list]
  rintro e w3 ⟨rfl, k3⟩
  have HN3 : Hid _ := Nw.trans HN2.out k3
  clear k3 HN2
  go_wp2_with fail
  refine Calls.mono (icutS (bA (tmL V)) _ (by rw [bA_size]; omega)) ?_
  rw [bA_list]
  rintro e w4 ⟨rfl, hq⟩
  have hq2 := hq.symm; clear hq; subst hq2
  go_wp2_with fail
  refine Calls.mono (itrimR (bA (sufL (tmL V))) _ (by rw [bA_size]; omega)) ?_
  rw [bA_list]
  rintro e w5 ⟨rfl, k5⟩
  have HN5 : Hid _ := Nw.trans HN3.out k5
  clear k5 HN3
  generalize tmL N = NM at *
  generalize markL10.isSuffixOf (tmL V) = im at *
  generalize trL (sufL (tmL V)) = VL at *
  go_wp2_with fail
  refine Calls.mono (iword _ (bA NM) (by rw [bA_size]; omega)) ?_
  rw [wordB_L, bA_list]
  rintro e w6 ⟨rfl, k6⟩
  have HN6 : Hid _ := Nw.trans HN5.out k6
  have HB6 : Hid _ := HB0.out.nw HN6.out
  have HNW : Hid (Nw w w6) := Nw.trans HN0.out HN6.out
  clear k6 HN5 HN6
  obtain ⟨z0, z1, z2, zf⟩ := HB6.out
  cases hw : wordL NM
  · have HX : Hid (declP s = none) := by show declP s = none; rw [HDP.out, hw, Bool.false_and]; rfl
    obtain ⟨y0, y1, y2⟩ := set3d w6 w.heap.size (.string ⟨#[]⟩) (.string ⟨#[]⟩) (.bool false) z0 z1 z2
    clear hw
    go_wp2
    refine bodyPost_ret (v := .tuple #[.agg #[.string ⟨#[]⟩, .string ⟨#[]⟩, .bool false], .bool false]) (by simp [results, Tryd.results55, go_sem, y0, y1, y2]) rfl ⟨Or.inr ⟨HX.out, _, _, _, rfl⟩, ?_⟩
    exact ((HNW.out.setCell (Nat.le_refl _) _).setCell (Nat.le_refl _) _).setCell (Nat.le_refl _) _
  · cases hf : fit60 VL
    · have HX : Hid (declP s = none) := by show declP s = none; rw [HDP.out, hf, Bool.and_false]; rfl
      obtain ⟨y0, y1, y2⟩ := set3d w6 w.heap.size (.string ⟨#[]⟩) (.string ⟨#[]⟩) (.bool false) z0 z1 z2
      have HG : Hid (Calls Tryd.prog 95 #[.string (bA VL)] w6 fun e w' => e = .returned (.bool false) ∧ w' = w6) := by
        have := igvs w6 (bA VL) (by rw [bA_size]; omega)
        rw [bA_list, hf] at this
        exact this
      clear hw hf
      go_wp2_with (go_at_call 95; refine HG.out.mono ?_; rintro e w' ⟨rfl, hq⟩; have hq2 := hq.symm; clear hq; subst hq2)
      refine bodyPost_ret (v := .tuple #[.agg #[.string ⟨#[]⟩, .string ⟨#[]⟩, .bool false], .bool false]) (by simp [results, Tryd.results55, go_sem, y0, y1, y2]) rfl ⟨Or.inr ⟨HX.out, _, _, _, rfl⟩, ?_⟩
      exact ((HNW.out.setCell (Nat.le_refl _) _).setCell (Nat.le_refl _) _).setCell (Nat.le_refl _) _
    · have HX : Hid (declP s = some ⟨bA (lowL NM), bA VL, im⟩) := by show declP s = _; rw [HDP.out, hw, hf]; rfl
      have HG : Hid (Calls Tryd.prog 95 #[.string (bA VL)] w6 fun e w' => e = .returned (.bool true) ∧ w' = w6) := by
        have := igvs w6 (bA VL) (by rw [bA_size]; omega)
        rw [bA_list, hf] at this
        exact this
      have HL : Hid (Calls Tryd.prog 96 #[.string (bA NM)] w6 fun e w' => e = .returned (.string (bA (lowL NM))) ∧ Nw w6 w') := by
        refine (Tryd.strings_ToLower_ascii (bA NM) w6 (by rw [bA_size]; omega) (by rw [bA_list]; exact word_ascii hw)).mono ?_
        rw [bA_list, low_lower]
        exact fun e w' h => h
      clear hw hf
      go_wp2_with (go_at_call 95; refine HG.out.mono ?_; rintro e w' ⟨rfl, hq⟩; have hq2 := hq.symm; clear hq; subst hq2)
      refine Calls.mono HL.out ?_
      rintro e w7 ⟨rfl, k7⟩
      have HN7 : Hid (Nw w w7) := Nw.trans HNW.out k7
      obtain ⟨x0, x1, x2, xf⟩ := HB6.out.nw k7
      obtain ⟨y0, y1, y2⟩ := set3d w7 w.heap.size (.string (bA (lowL NM))) (.string (bA VL)) (.bool im) x0 x1 x2
      clear k7 z0 z1 z2 zf
      go_wp2
      refine bodyPost_ret (v := .tuple #[.agg #[.string (bA (lowL NM)), .string (bA VL), .bool im], .bool true]) (by simp [results, Tryd.results55, go_sem, y0, y1, y2]) rfl ⟨Or.inl ⟨_, HX.out, rfl⟩, ?_⟩
      exact ((HN7.out.setCell (Nat.le_refl _) _).setCell (Nat.le_refl _) _).setCell (Nat.le_refl _) _
end Go.Proofs.YtnkmdmmlpidcmaaDoor
namespace Go.Proofs.YtnkmdmmlpidcmaaDoor
open Go.ChangeShapes Go.WideShapes Go.ChangeAt Go.RowKit
set_option linter.unusedVariables false

def EDecl : Els DD := fun _ cs d _ => cs = [.string d.nm, .string d.vl, .bool d.im]
theorem EDecl.kept : KeptE EDecl := fun w w' cs x F G h _ _ => h
theorem Tryd.info50 : (Tryd.prog.info? 50).map (fun i => (i.zero, i.size, i.bytes)) = some (some (.agg #[.string ⟨#[]⟩, .string ⟨#[]⟩, .bool false]), 3, 40) := by kernel_rfl
def declAt (l : List DD) (i : Nat) : DD := l.getD i noDD
/-- The declarations l lie at a. -/
def Decls (w : World) (a : Option Addr) (l : List DD) : Prop :=
  l = [] ∨ ∃ b, a = some ⟨b, 0, none⟩ ∧ b < w.heap.size ∧ ∀ i, i < l.length → w.cell? ⟨b, i * 3, none⟩ = some (.string (declAt l i).nm) ∧ w.cell? ⟨b, i * 3 + 1, none⟩ = some (.string (declAt l i).vl) ∧ w.cell? ⟨b, i * 3 + 2, none⟩ = some (.bool (declAt l i).im)
theorem Decls.nw {w w' : World} {a : Option Addr} {l : List DD} (h : Decls w a l) (k : Nw w w') : Decls w' a l := by
  rcases h with h | ⟨b, rfl, hb, hc⟩
  · exact Or.inl h
  · refine Or.inr ⟨b, rfl, Nat.lt_of_lt_of_le hb (Below.size k), fun i hi => ?_⟩
    obtain ⟨h0, h1, h2⟩ := hc i hi
    exact ⟨((bcell k).1 _ _ hb).trans h0, ((bcell k).1 _ _ hb).trans h1, ((bcell k).1 _ _ hb).trans h2⟩
theorem RowM.decls {w : World} {v : Value} {l : List DD} {F : Nat → Prop} (h : RowM 3 EDecl w v l F) : ∃ a c, v = .slice a l.length c ∧ l.length ≤ c ∧ Decls w a l := by
  rcases h with ⟨h1, h2⟩ | ⟨g, c, els, h1, h2, h3, h4⟩
  · exact ⟨none, 0, by rw [h2]; exact h1, by rw [h2]; exact Nat.le_refl _, Or.inl h2⟩
  · refine ⟨_, c, h1, h2, Or.inr ⟨g, rfl, h4.lt, fun i hi => ?_⟩⟩
    obtain ⟨e, he, hx⟩ := el_at h3 i hi noDD
    have hc := (h4.el e (List.mem_of_getElem? he)).1
    have c0 := h4.cell i e he 0 (.string e.x.nm) (by rw [hc]; rfl)
    have c1 := h4.cell i e he 1 (.string e.x.vl) (by rw [hc]; rfl)
    have c2 := h4.cell i e he 2 (.bool e.x.im) (by rw [hc]; rfl)
    have hp : declAt l i = e.x := hx.symm
    rw [hp]
    exact ⟨c0, c1, c2⟩
theorem eqDecl_any (w : World) (n : DD) : Calls Tryd.prog 29 #[.agg #[.string n.nm, .string n.vl, .bool n.im], .agg #[.string n.nm, .string n.vl, .bool n.im]] w fun e w' => e = .returned (.bool true) ∧ Nw w w' := by
  obtain ⟨nm, vl, im⟩ := n
  simp only
  go_enter Tryd.func29, Tryd.ntmps29
  go_wp2
  go_ret
  exact ⟨rfl, ((Below.refl _ _).alloc (Nat.le_refl _) _).alloc (by simp) _⟩
set_option maxHeartbeats 4000000 in
theorem eqDeclS_any (w : World) (a1 a2 : Option Addr) (c1 c2 : Nat) (l : List DD) (hl : l.length ≤ 1048576) (h1 : Decls w a1 l) (h2 : Decls w a2 l) :
    Calls Tryd.prog 9 #[.slice a1 l.length c1, .slice a2 l.length c2] w fun e w' => e = .returned (.bool true) ∧ Nw w w' := by
  have H1 : Hid (Decls w a1 l) := h1
  have H2 : Hid (Decls w a2 l) := h2
  clear h1 h2
  go_enter Tryd.func9, Tryd.ntmps9
  go_wp2
  go_loopw [5] (fun i wr => ∃ k : Nat, k ≤ l.length ∧ i = .int .i64 k ∧ Nw w wr) (fun i _ => l.length - (intOf i).toNat)
  case atStart => exact ⟨0, Nat.zero_le _, rfl, Below.refl _ _⟩
  case round =>
    obtain ⟨k, hk, rfl, hw⟩ := hrel
    by_cases hlt : k < l.length
    · rcases (H1.out.nw hw) with h | ⟨b1, rfl, hb1, hc1⟩
      · rw [h] at hlt; simp at hlt
      rcases (H2.out.nw hw) with h | ⟨b2, rfl, hb2, hc2⟩
      · rw [h] at hlt; simp at hlt
      obtain ⟨q0, q1, q2⟩ := hc1 k hlt
      obtain ⟨r0, r1, r2⟩ := hc2 k hlt
      clear hc1 hc2 H1 H2
      have HW : Hid (Nw w wr) := hw
      clear hw
      generalize declAt l k = d at *
      go_wp2
      go_region_with (go_at_call 29; refine Calls.mono (eqDecl_any _ d) ?_; rintro e w' ⟨rfl, k1⟩)
      all_goals
        go_wp2
        go_roundw
        case rel => exact ⟨k + 1, by omega, by go_num, HW.out.trans k1.drw⟩
        case measure => simp [intOf]; omega
    · have HW : Hid (Nw w wr) := hw
      clear hw
      go_wp2
      go_ret
      exact ⟨rfl, HW.out⟩
end Go.Proofs.YtnkmdmmlpidcmaaDoor
namespace Go.Proofs.YtnkmdmmlpidcmaaDoor
open Go.ChangeShapes Go.WideShapes Go.ChangeAt Go.RowKit
set_option linter.unusedVariables false

/-- A scope whose one label stands at its end. -/
theorem scope_fwd {c : Code} {Q : Exit → Act → World → Prop} {a : Act} {w : World} (l : Nat) (hf : findLabel c l = some Code.skip) (h : c.wp Tryd.prog (Exit.jump l (fun a w => Q .normal a w) Q) a w) : (Code.scope c).wp Tryd.prog Q a w :=
  wp_scope_jumps l (fun a w => Q .normal a w) (fun _ _ => 0) hf h (fun a w hJ => wp_skip hJ)
theorem jump_normal {l : Nat} {J : Act → World → Prop} {Q : Exit → Act → World → Prop} {a : Act} {w : World} : Exit.jump l J Q .normal a w = Q .normal a w := rfl
/-- The first twelve declarations. -/
def dcs (ps : List ByteArray) : List DD := (ps.filterMap declP).take 12
theorem dcs_none {l : List ByteArray} {x : ByteArray} (h : declP x = none) : dcs (l ++ [x]) = dcs l := by
  unfold dcs
  rw [List.filterMap_append]
  simp [h]
theorem dcs_full {l : List ByteArray} {x : ByteArray} (h : (dcs l).length = 12) : dcs (l ++ [x]) = dcs l := by
  unfold dcs at *
  rw [List.length_take] at h
  rw [List.filterMap_append, List.take_append_of_le_length (by omega)]
theorem dcs_more {l : List ByteArray} {x : ByteArray} {d : DD} (h : declP x = some d) (hl : (dcs l).length < 12) : dcs (l ++ [x]) = dcs l ++ [d] := by
  unfold dcs at *
  rw [List.length_take] at hl
  rw [List.filterMap_append]
  have e : List.filterMap declP [x] = [d] := by simp [h]
  rw [e, List.take_of_length_le (by simp; omega), List.take_of_length_le (by omega)]
theorem dcs_le (l : List ByteArray) : (dcs l).length ≤ 12 := by unfold dcs; rw [List.length_take]; omega
theorem take_at {l : List ByteArray} {k : Nat} (h : k < l.length) : l.take (k + 1) = l.take k ++ [strAt l k] := by
  rw [List.take_succ_eq_append_getElem h]
  simp [strAt, h]
def DeclsSays (s : ByteArray) (w w' : World) (e : Ending) : Prop := ∃ v, e = .returned v ∧ RowM 3 EDecl w' v (dcs (pcB 59 s)) (iv w w')
theorem pcsz (c : UInt8) : ∀ (l x : List UInt8), x ∈ pcs c l → x.length ≤ l.length := by
  intro l
  induction l with
  | nil => intro x hx; simp [pcs] at hx; subst hx; exact Nat.le_refl _
  | cons b l ih =>
    intro x hx
    rw [pcs] at hx
    split at hx
    · rcases List.mem_cons.1 hx with e | h
      · subst e; exact Nat.zero_le _
      · have := ih x h; simp; omega
    · cases hp : pcs c l with
      | nil => exact absurd hp (pcs_ne c l)
      | cons y r =>
        rw [hp] at hx ih
        rcases List.mem_cons.1 hx with e | h
        · subst e
          have := ih y List.mem_cons_self
          simp; omega
        · have := ih x (List.mem_cons_of_mem _ h)
          simp; omega
theorem pcB_size (c : UInt8) (s : ByteArray) (hs : s.size ≤ 1048576) (i : Nat) : (strAt (pcB c s) i).size ≤ 1048576 := by
  unfold strAt pcB
  by_cases h : i < (pcs c s.data.toList).length
  · have e : ((pcs c s.data.toList).map bA).getD i ⟨#[]⟩ = bA (pcs c s.data.toList)[i] := by simp [h]
    rw [e, bA_size]
    have := pcsz c s.data.toList _ (List.getElem_mem h)
    rw [data_len] at this
    omega
  · have e : ((pcs c s.data.toList).map bA).getD i ⟨#[]⟩ = ⟨#[]⟩ := by simp [h]
    rw [e]; exact Nat.zero_le _
theorem isplit (s : ByteArray) (c : UInt8) (w : World) (hs : s.size ≤ 1048576) :
    Calls Tryd.prog 54 #[.string s, .string ⟨#[c]⟩] w fun e w' => e = .returned (.slice (some ⟨w.heap.size, 0, none⟩) (pcB c s).length (pcB c s).length) ∧ Nw w w' ∧ LayS w' w.heap.size (pcB c s) (pcB c s).length := by
  go_enter Tryd.func54, Tryd.ntmps54
  go_wp2_with (go_at_call 92; refine (gsplit1 s c _ hs).mono ?_; rintro e w' ⟨rfl, k1, k2⟩)
  go_ret
  exact ⟨rfl, k1, k2⟩
set_option maxHeartbeats 8000000 in
theorem ideclsOf (s : ByteArray) (w : World) (hs : s.size ≤ 1048576) :
    Calls Tryd.prog 27 #[.string s] w fun e w' => DeclsSays s w w' e ∧ Nw w w' := by
  have HSZ : Hid (∀ i, (strAt (pcB 59 s) i).size ≤ 1048576) := fun i => pcB_size 59 s hs i
  have hpl : (pcB 59 s).length ≤ 1048577 := by rw [pcB_len]; have := count_le_size 59 s; omega
  have HI : Hid (Calls Tryd.prog 54 #[.string s, .string ⟨#[59]⟩] w fun e w' => e = .returned (.slice (some ⟨w.heap.size, 0, none⟩) (pcB 59 s).length (pcB 59 s).length) ∧ Nw w w' ∧ LayS w' w.heap.size (pcB 59 s) (pcB 59 s).length) := isplit s 59 w hs
  unfold DeclsSays
  generalize pcB 59 s = ps at *
  go_enter Tryd.func27, Tryd.ntmps27
  go_wp2_with fail
  refine Calls.mono HI.out ?_
  rintro e w1 ⟨rfl, k1, l1⟩
  have HN1 : Hid (Nw w w1) := k1
  have HL1 : Hid (LayS w1 w.heap.size ps ps.length) := l1
  clear HI k1 l1
  go_wp2
  go_loopw [3, 11] (fun v i wr => ∃ (k : Nat) (els : List (El DD)), k ≤ ps.length ∧ i = .int .i64 k ∧ RowO 50 3 EDecl wr w1.heap.size v els ∧ els.map El.x = dcs (ps.take k) ∧ Nw w1 wr) (fun _ i _ => ps.length - (intOf i).toNat)
  case atStart => exact ⟨0, [], Nat.zero_le _, rfl, RowO.nil _ _ _ _ _, rfl, Below.refl _ _⟩
  case round =>
    obtain ⟨k, els, hk, rfl, hro, hmx, hw⟩ := hrel
    have hel : els.length = (dcs (ps.take k)).length := by have := congrArg List.length hmx; simpa using this
    have h12 := dcs_le (ps.take k)
    obtain ⟨va, vc, hv⟩ := hro.slice
    subst hv
    have HR : Hid (RowO 50 3 EDecl wr w1.heap.size (.slice va els.length vc) els) := hro
    have HM : Hid (els.map El.x = dcs (ps.take k)) := hmx
    have HW : Hid (Nw w1 wr) := hw
    have HEL : Hid (els.length = (dcs (ps.take k)).length) := hel
    have hel12 : els.length ≤ 12 := by omega
    clear hro hmx hel h12
    by_cases hlt : k < ps.length
    · have q0 := (HL1.out.nw hw).2.1 k hlt
      have hgq := (HL1.out.nw hw).1
      have hz := HSZ.out k
      have HTK : Hid (ps.take (k + 1) = ps.take k ++ [strAt ps k]) := take_at hlt
      clear hw
      generalize strAt ps k = x at *
      have hkI : (k : Int) < (ps.length : Int) := by omega
      go_wp2_with fail
      refine scope_fwd 0 (by kernel_rfl) ?_
      go_wp2_with fail
      refine Calls.mono (ideclOf x _ hz) ?_
      rintro e w2 ⟨⟨d, hp, rfl⟩ | ⟨hp, tx, ty, tb, rfl⟩, k2⟩
      · by_cases h5 : els.length = 12
        · have HX : Hid (dcs (ps.take (k + 1)) = dcs (ps.take k)) := by show _ = _; rw [HTK.out]; exact dcs_full (by rw [← HEL.out]; exact h5)
          have HR2 : ∀ o, Hid (RowO 50 3 EDecl (w2.alloc o) w1.heap.size (.slice va els.length vc) els) := fun o => (HR.out.nw EDecl.kept k2).nw EDecl.kept ((Below.refl _ _).alloc (Nat.le_refl _) _)
          have HN2 : ∀ o, Hid (Nw w1 (w2.alloc o)) := fun o => Nw.trans (Nw.trans HW.out k2) ((Below.refl _ _).alloc (Nat.le_refl _) _)
          have g12 : ((els.length : Int) == 12) = true := by rw [h5]; rfl
          clear k2 q0 hp h5
          go_wp2
          apply wp_goto
          refine ⟨rfl, ?_⟩
          show Exit.inBlock 1 _ Exit.normal _ _
          go_wp2
          go_roundw
          case rel => exact ⟨k + 1, els, by omega, by go_num, (HR2 _).out, by rw [HX.out]; exact HM.out, (HN2 _).out⟩
          case measure => simp [intOf]; omega
        · have HX : Hid (dcs (ps.take (k + 1)) = dcs (ps.take k) ++ [d]) := by show _ = _; rw [HTK.out]; exact dcs_more hp (by rw [← HEL.out]; omega)
          have HK2 : Hid (Nw wr w2) := k2
          have g12 : ((els.length : Int) == 12) = false := by simp; omega
          have HL12 : Hid (els.length ≤ 10000000) := by show _ ≤ _; omega
          clear k2 q0 hp h5
          obtain ⟨dn, dv, di⟩ := d
          simp only
          have HNA : ∀ o1 o2, Hid (Nw wr ((w2.alloc o1).alloc o2)) := fun o1 o2 => Nw.trans HK2.out (((Below.refl _ _).alloc (Nat.le_refl _) _).alloc (by simp) _)
          have HEP : ∀ o1 o2, Hid (EDecl ((w2.alloc o1).alloc o2) [.string dn, .string dv, .bool di] ⟨dn, dv, di⟩ (iv wr ((w2.alloc o1).alloc o2))) := fun o1 o2 => rfl
          go_wp2_with (at_builtin; (refine wp_rw EDecl.kept Tryd.underlying22 Tryd.info50 rfl (by decide) (by decide) wr _ rfl _ _ rfl w1.heap.size _ els rfl HR.out (HNA _ _).out (Below.size HW.out) _ rfl ⟨dn, dv, di⟩ [.string dn, .string dv, .bool di] ?c1 rfl ?c2 (HEP _ _).out HL12.out ?_))
          case c1 =>
            intro j y hj
            rcases (show j = 0 ∨ j = 1 ∨ j = 2 ∨ 3 ≤ j by omega) with rfl | rfl | rfl | h
            · simp at hj; subst hj; simp
            · simp at hj; subst hj; simp
            · simp at hj; subst hj; simp
            · rw [List.getElem?_eq_none (by simpa using h)] at hj; cases hj
          case c2 =>
            intro y hy
            simp only [List.mem_cons, List.not_mem_nil, or_false] at hy
            rcases hy with rfl | rfl | rfl <;> rfl
          intro v' w' h1 h2
          have HN : Hid (Nw w1 w') := Below.trans (HW.out.trans (HNA _ _).out) (Ext.below h2 (fun g e => (HR.out.lt g e).1) (Nat.le_trans (Below.size HW.out) (Below.size (HNA _ _).out)))
          have H1 : Hid _ := h1
          clear h1 h2
          go_wp2
          apply wp_label
          show Exit.inBlock 1 _ Exit.normal _ _
          go_wp2
          go_roundw
          case rel => exact ⟨k + 1, _, by omega, by go_num, H1.out, by rw [HX.out, List.map_append, HM.out]; rfl, HN.out⟩
          case measure => simp [intOf]; omega
      · have HX : Hid (dcs (ps.take (k + 1)) = dcs (ps.take k)) := by show _ = _; rw [HTK.out]; exact dcs_none hp
        have HR2 : ∀ o, Hid (RowO 50 3 EDecl (w2.alloc o) w1.heap.size (.slice va els.length vc) els) := fun o => (HR.out.nw EDecl.kept k2).nw EDecl.kept ((Below.refl _ _).alloc (Nat.le_refl _) _)
        have HN2 : ∀ o, Hid (Nw w1 (w2.alloc o)) := fun o => Nw.trans (Nw.trans HW.out k2) ((Below.refl _ _).alloc (Nat.le_refl _) _)
        clear k2 q0 hp
        go_wp2
        apply wp_goto
        refine ⟨rfl, ?_⟩
        show Exit.inBlock 1 _ Exit.normal _ _
        go_wp2
        go_roundw
        case rel => exact ⟨k + 1, els, by omega, by go_num, (HR2 _).out, by rw [HX.out]; exact HM.out, (HN2 _).out⟩
        case measure => simp [intOf]; omega
    · have hk2 : k = ps.length := by omega
      have HE : Hid (els.map El.x = dcs ps) := by show _ = _; rw [HM.out, hk2, List.take_length]
      have hkn : ¬ ((k : Int) < (ps.length : Int)) := by omega
      clear hk2 hw
      go_wp2
      go_ret
      refine ⟨⟨_, rfl, ?_⟩, Nw.trans HN1.out HW.out⟩
      rw [← HE.out]
      exact RowO.row HR.out (fun b h1 h2 => ⟨Nat.le_trans (Below.size HN1.out) h1, h2⟩)
end Go.Proofs.YtnkmdmmlpidcmaaDoor
