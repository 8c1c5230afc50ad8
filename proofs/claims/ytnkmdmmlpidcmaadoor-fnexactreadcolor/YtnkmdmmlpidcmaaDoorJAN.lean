/-
  A color's numbers read by the program; each theorem names its conditions.
  A text in small letters, by the program; each theorem names its conditions.
  A color's name read by the program, out of a map; each theorem names its conditions.
  Hex digits of a color, by the specification; each theorem names its conditions.
-/
import Derived.Test.YtnkmdmmlpidcmaaDoorJAM
import Derived.Test.YtnkmdmmlpidcmaaDoorJAK
import Derived.MapKept
import Derived.Test.YtnkmdmmlpidcmaaDoorJAJ
import Derived.Test.YtnkmdmmlpidcmaaDoorJAF
import Derived.BigRegion
namespace Go.Proofs.YtnkmdmmlpidcmaaDoor
open Go.ChangeShapes Go.WideShapes Go.ChangeAt Go.RowKit
set_option linter.unusedVariables false

def numsI (l : List UInt8) : Option C3 := if l[l.length - 1]? = some 41 then numsC (l.take (l.length - 1)) else none
theorem suf41 (l : List UInt8) : ([41] : List UInt8).isSuffixOf l = decide (l[l.length - 1]? = some 41) := by
  rw [Bool.eq_iff_iff, List.isSuffixOf_iff_suffix, decide_eq_true_iff, List.singleton_suffix_iff_getLast?_eq_some, List.getLast?_eq_getElem?]
def TnF (P : List ByteArray) (j : Nat) (f : Nat → Int) : Prop := ∀ i, i < j → toneW (strAt P i).data.toList = some (f i)
theorem TnF.step {P : List ByteArray} {j : Nat} {f : Nat → Int} (h : TnF P j f) {x : Int} (hx : toneW (strAt P j).data.toList = some x) : TnF P (j + 1) (fun o => if o = j then x else f o) := by
  intro i hi
  by_cases e : i = j
  · subst e; simp only; exact hx
  · simp only [if_neg e]; exact h i (by omega)
theorem TnF.all {P : List ByteArray} {f : Nat → Int} (h : TnF P 3 f) (hl : P.length = 3) : tonesC (P.map (fun p => toneW p.data.toList)) = some (f 0, f 1, f 2) := by
  match P, hl with
  | [a, b, c], _ =>
    have h0 : toneW a.data.toList = some (f 0) := h 0 (by omega)
    have h1 : toneW b.data.toList = some (f 1) := h 1 (by omega)
    have h2 : toneW c.data.toList = some (f 2) := h 2 (by omega)
    simp only [List.map_cons, List.map_nil, h0, h1, h2]
    rfl
/-- Three numbers in a variable. -/
structure T3 (w : World) (b : Nat) (f : Nat → Int) : Prop where
  lt : b < w.heap.size
  c : ∀ o, o < 3 → w.cell? ⟨b, o, none⟩ = some (.int .i64 (f o))
  fz : ∀ o, w.frozen? ⟨b, o, none⟩ = false
theorem T3.new (w : World) (t : TypeId) : T3 (w.alloc (.cells #[.int .i64 0, .int .i64 0, .int .i64 0] t)) w.heap.size (fun _ => 0) := by
  refine ⟨by simp, fun o ho => ?_, fun o => by simp⟩
  match o, ho with
  | 0, _ => simp
  | 1, _ => simp
  | 2, _ => simp
theorem T3.nw {w w' : World} {b : Nat} {f : Nat → Int} (h : T3 w b f) (k : Nw w w') : T3 w' b f :=
  ⟨Nat.lt_of_lt_of_le h.lt (Below.size k), fun o ho => (Below.cell k (p := ⟨b, o, none⟩) h.lt).trans (h.c o ho), fun o => (Below.frozen k (p := ⟨b, o, none⟩) h.lt).trans (h.fz o)⟩
theorem T3.put {w : World} {b : Nat} {f : Nat → Int} (h : T3 w b f) {j : Nat} (hj : j < 3) (x : Int) : T3 (w.setCell ⟨b, j, none⟩ (.int .i64 x)) b (fun o => if o = j then x else f o) := by
  refine ⟨by simpa [World.setCell] using h.lt, fun o ho => ?_, fun o => by rw [World.frozen?_setCell]; exact h.fz o⟩
  by_cases e : o = j
  · subst e; simp only; exact World.cell?_setCell_same w ⟨b, o, none⟩ _ (h.c o ho)
  · simp only [if_neg e]
    rw [World.cell?_setCell_other _ _ _ _ (fun e2 => by injection e2; omega)]
    exact h.c o ho
set_option maxHeartbeats 8000000 in
theorem inums (s : ByteArray) (w : World) (hs : s.size ≤ 1048576) : Calls Tryd.prog 50 #[.string s] w fun e w' => e = .returned (colV (numsI s.data.toList)) ∧ Nw w w' := by
  obtain ⟨W, hW⟩ : ∃ W, w.alloc (.cells #[.int .i64 0, .int .i64 0, .int .i64 0] 42) = W := ⟨_, rfl⟩
  have HCB : Hid (CB W w.heap.size) := by show CB _ _; rw [← hW]; exact CB.new w _
  have HNW : Hid (Nw w W) := by show Nw _ _; rw [← hW]; exact (Below.refl _ _).alloc (Nat.le_refl _) _
  have HW : Hid (_ = W) := hW
  clear hW
  obtain ⟨J, hJ⟩ : ∃ J : ByteArray, J = ⟨(Lib.trimSuffix s.data.toList [41]).toArray⟩ := ⟨_, rfl⟩
  have HCS : Hid (∀ W, Calls Tryd.prog 87 #[.string s, .string ⟨#[41]⟩] W fun e w' => e = .returned (.tuple #[.string J, .bool (decide (s.data.toList[s.data.toList.length - 1]? = some 41))]) ∧ w' = W) := fun W => by
    refine (Tryd.strings_CutSuffix s _ W (by omega)).mono ?_
    rintro e w' ⟨rfl, h⟩
    refine ⟨?_, h⟩
    rw [hJ, ← suf41]
    rfl
  have hJs : J.size ≤ 1048576 := by
    rw [hJ]
    show (Lib.trimSuffix s.data.toList [41]).toArray.size ≤ _
    rw [List.size_toArray]
    have : (Lib.trimSuffix s.data.toList [41]).length ≤ s.data.toList.length := by unfold Lib.trimSuffix; split <;> simp
    rw [data_len] at this
    omega
  have HSP : Hid (∀ wx, Calls Tryd.prog 54 #[.string J, .string ⟨#[44]⟩] wx fun e w' => e = .returned (.slice (some ⟨wx.heap.size, 0, none⟩) (pcB 44 J).length (pcB 44 J).length) ∧ Nw wx w' ∧ LayS w' wx.heap.size (pcB 44 J) (pcB 44 J).length) := fun wx => isplit J 44 wx hJs
  have HPZ : Hid (∀ i, (strAt (pcB 44 J) i).size ≤ 1048576) := fun i => pcB_size 44 _ hJs i
  have hpl : (pcB 44 J).length ≤ 1048577 := by rw [pcB_len]; have := count_le_size 44 J; omega
  have HNC : Hid (s.data.toList[s.data.toList.length - 1]? = some 41 → numsI s.data.toList = tonesC ((pcB 44 J).map (fun p => toneW p.data.toList))) := fun h => by
    have e : J = bA (s.data.toList.take (s.data.toList.length - 1)) := by
      rw [hJ]
      unfold Lib.trimSuffix
      have : Lib.hasSuffix s.data.toList [41] = true := by
        show ([41] : List UInt8).isSuffixOf s.data.toList = true
        rw [suf41]; exact decide_eq_true h
      rw [if_pos this]
      rfl
    unfold numsI
    rw [if_pos h, tones_pcs, ← e]
  have HNO : Hid (¬ s.data.toList[s.data.toList.length - 1]? = some 41 → numsI s.data.toList = none) := fun h => by unfold numsI; rw [if_neg h]
  clear hJ
  obtain ⟨RES, hRES⟩ : ∃ RES, numsI s.data.toList = RES := ⟨_, rfl⟩
  rw [hRES] at HNC HNO ⊢
  clear hRES
  generalize pcB 44 J = P at *
  by_cases hcl : s.data.toList[s.data.toList.length - 1]? = some 41
  · rw [decide_eq_true hcl] at HCS
    have HRS : Hid (RES = tonesC (P.map (fun p => toneW p.data.toList))) := HNC.out hcl
    clear HNC HNO hcl
    by_cases h3 : P.length = 3
    · have h3I : (P.length : Int) = 3 := by omega
      have e3 : ((P.length : Int) != 3) = false := by rw [bne_eq_false_iff_eq]; exact h3I
      go_enter Tryd.func50, Tryd.ntmps50
      go_wp2_with fail
      rw [HW.out]
      refine Calls.mono (HCS.out _) ?_
      rintro e w1 ⟨rfl, hq⟩
      have hq2 := hq.symm; clear hq; subst hq2
      go_wp2_with fail
      refine Calls.mono (HSP.out _) ?_
      rintro e w2 ⟨rfl, k2, ly2⟩
      have HC2 : Hid (CB w2 w.heap.size) := HCB.out.nw k2
      have HN2 : Hid (Nw w w2) := Nw.trans HNW.out k2
      have HLY : Hid (LayS w2 W.heap.size P P.length) := ly2
      have HA2 : ∀ o, Hid (Nw w2 (w2.alloc o)) := fun o => (Below.refl _ _).alloc (Nat.le_refl _) _
      have HT2 : Hid (T3 (w2.alloc (.cells #[.int .i64 0, .int .i64 0, .int .i64 0] 116)) w2.heap.size (fun _ => 0)) := T3.new w2 _
      clear k2 ly2 HSP HCS
      go_wp2
      go_loopw [25] (fun i wr => ∃ (j : Nat) (f : Nat → Int), j ≤ 3 ∧ i = .int .i64 j ∧ TnF P j f ∧ T3 wr w2.heap.size f ∧ Nw w2 wr) (fun i _ => 3 - (intOf i).toNat)
      case atStart => exact ⟨0, fun _ => 0, Nat.zero_le _, rfl, (fun i hi => absurd hi (by omega)), HT2.out, (HA2 _).out⟩
      case round =>
        obtain ⟨j, f, hj, rfl, htn, ht3, hw⟩ := hrel
        have HC1 : Hid (CB wr w.heap.size) := HC2.out.nw hw
        have HN1 : Hid (Nw w wr) := Nw.trans HN2.out hw
        have HLW : Hid (LayS wr W.heap.size P P.length) := LayS.nw HLY.out hw
        have HWW : Hid (Nw w2 wr) := hw
        have HT : Hid (T3 wr w2.heap.size f) := ht3
        clear ht3 hw
        by_cases hlt : j < 3
        · have hltI : (j : Int) < 3 := by omega
          have hjp : j < P.length := by omega
          have q0 := HLW.out.2.1 j hjp
          have qb := HLW.out.1
          have hpz := HPZ.out j
          have HBD : Hid (toneW (strAt P j).data.toList = none → RES = none) := fun h => by rw [HRS.out]; exact tones_bad hjp h
          have HGO : Hid (∀ x, toneW (strAt P j).data.toList = some x → TnF P (j + 1) (fun o => if o = j then x else f o)) := fun x hx => htn.step hx
          have HTR : Hid (∀ W, Calls Tryd.prog 84 #[.string (strAt P j), .string ⟨#[9, 10, 13, 32]⟩] W fun e w' => e = .returned (.string (bA (tmL (strAt P j).data.toList))) ∧ Nw W w') := fun W => itrim _ W hpz
          have hdz : (bA (tmL (strAt P j).data.toList)).size ≤ 1048576 := by have := TB_le (strAt P j); exact Nat.le_trans this hpz
          have HTW : Hid (toneW (strAt P j).data.toList = toneC (bA (tmL (strAt P j).data.toList)).data.toList) := by show _ = _; rw [bA_list]; rfl
          clear htn
          generalize bA (tmL (strAt P j).data.toList) = D at *
          generalize toneW (strAt P j).data.toList = TW at *
          generalize strAt P j = p at *
          have HDL : Hid (D.data.toList.length = D.size) := data_len D
          go_wp2_with fail
          refine Calls.mono (HTR.out _) ?_
          rintro e w3 ⟨rfl, k3⟩
          have HC3 : Hid (CB w3 w.heap.size) := HC1.out.nw k3
          have HN3 : Hid (Nw w w3) := Nw.trans HN1.out k3
          have HT3 : Hid (T3 w3 w2.heap.size f) := HT.out.nw k3
          have HW3 : Hid (Nw w2 w3) := Nw.trans HWW.out k3
          clear k3 q0 qb
          have z0 := HC3.out.c0
          have z1 := HC3.out.c1
          have z2 := HC3.out.c2
          have zf := HC3.out.fz
          obtain ⟨y0, y1, y2⟩ := set3c w3 w.heap.size (.int .i64 0) (.int .i64 0) (.int .i64 0) z0 z1 z2
          have Y : Hid _ := And.intro y0 (And.intro y1 y2)
          clear y0 y1 y2
          by_cases h0 : D.size = 0
          · have HO : Hid (RES = none) := HBD.out (by rw [HTW.out]; exact tone_size (by rw [HDL.out]; omega))
            have he3 : D.toList = [] := by
              rw [ByteArray.toList_eq]
              exact List.eq_nil_of_length_eq_zero (by rw [HDL.out]; exact h0)
            have he2 : (D.toList == []) = true := by rw [beq_iff_eq]; exact he3
            have he : D.toList.isEmpty = true := by rw [he3]; rfl
            clear h0
            go_wp2
            obtain ⟨y0, y1, y2⟩ := Y.out
            exact bodyPost_ret (v := colV none) (by simp [results, Tryd.results50, go_sem, y0, y1, y2, colV]) rfl ⟨by rw [HO.out], Nw.set3 HN3.out (Nat.le_refl _) _ _ _⟩
          · have he3 : ¬ D.toList = [] := by
              rw [ByteArray.toList_eq]
              intro e
              apply h0
              rw [← HDL.out, e]; rfl
            have he2 : (D.toList == []) = false := by rw [beq_eq_false_iff_ne]; exact he3
            have he : D.toList.isEmpty = false := by
              rw [Bool.eq_false_iff]
              intro e
              exact he3 (List.isEmpty_iff.1 e)
            by_cases hd3 : D.size ≤ 3
            · have hd3I : ¬ (3 < (D.size : Int)) := by omega
              have HDA : Hid (∀ W, Calls Tryd.prog 88 #[.string D] W fun e w' => e = .returned (.bool (allD D.data.toList)) ∧ w' = W) := fun W => allDigits_any D W (by unfold maxLen; omega)
              cases hal : allD D.data.toList with
              | true =>
                rw [hal] at HDA
                have HNM : Hid (∀ W, Calls Tryd.prog 89 #[.string D] W fun e w' => e = .returned (.int .i64 (num D.data.toList)) ∧ w' = W) := fun W => numberOf_any D W (by omega) hal
                have HGX : Hid (TnF P (j + 1) (fun o => if o = j then min (num D.data.toList) 255 else f o)) := HGO.out _ (by rw [HTW.out]; exact tone_yes (by rw [HDL.out]; omega) hal)
                generalize num D.data.toList = n at *
                obtain ⟨x, hx⟩ : ∃ x, min n 255 = x := ⟨_, rfl⟩
                have HX : Hid (min n 255 = x) := hx
                have HTP : Hid (T3 (w3.setCell ⟨w2.heap.size, j, none⟩ (.int .i64 x)) w2.heap.size (fun o => if o = j then x else f o)) := HT3.out.put hlt x
                have tc := HT3.out.c j hlt
                have tf := HT3.out.fz j
                have tl := HT3.out.lt
                clear hal z0 z1 z2 zf Y
                go_wp2_with (first | (go_at_call 88; refine Calls.mono (HDA.out _) ?_; rintro e w9 ⟨rfl, hq⟩; have hq2 := hq.symm; clear hq; subst hq2) | (go_at_call 89; refine Calls.mono (HNM.out _) ?_; rintro e w9 ⟨rfl, hq⟩; have hq2 := hq.symm; clear hq; subst hq2))
                go_roundw
                case rel => exact ⟨j + 1, _, by omega, by go_num, HGX.out, by rw [HX.out]; exact HTP.out, Below.setCell HW3.out (Nat.le_refl _) _⟩
                case measure => simp [intOf]; omega
              | false =>
                rw [hal] at HDA
                have HO : Hid (RES = none) := HBD.out (by rw [HTW.out]; exact tone_dig hal)
                clear hal
                go_wp2_with (go_at_call 88; refine Calls.mono (HDA.out _) ?_; rintro e w9 ⟨rfl, hq⟩; have hq2 := hq.symm; clear hq; subst hq2)
                obtain ⟨y0, y1, y2⟩ := Y.out
                exact bodyPost_ret (v := colV none) (by simp [results, Tryd.results50, go_sem, y0, y1, y2, colV]) rfl ⟨by rw [HO.out], Nw.set3 HN3.out (Nat.le_refl _) _ _ _⟩
            · have HO : Hid (RES = none) := HBD.out (by rw [HTW.out]; exact tone_size (by rw [HDL.out]; omega))
              have hd3I : 3 < (D.size : Int) := by omega
              clear h0 hd3
              go_wp2
              obtain ⟨y0, y1, y2⟩ := Y.out
              exact bodyPost_ret (v := colV none) (by simp [results, Tryd.results50, go_sem, y0, y1, y2, colV]) rfl ⟨by rw [HO.out], Nw.set3 HN3.out (Nat.le_refl _) _ _ _⟩
        · have hje : j = 3 := by omega
          subst hje
          have HR : Hid (colV RES = .tuple #[.agg #[.int .i64 (f 0), .int .i64 (f 1), .int .i64 (f 2)], .bool true]) := by show _ = _; rw [HRS.out, htn.all h3]; rfl
          have c0 := HT.out.c 0 (by omega)
          have c1 := HT.out.c 1 (by omega)
          have c2 := HT.out.c 2 (by omega)
          have tl := HT.out.lt
          have z0 := HC1.out.c0
          have z1 := HC1.out.c1
          have z2 := HC1.out.c2
          have zf := HC1.out.fz
          generalize f 0 = f0 at *
          generalize f 1 = f1 at *
          generalize f 2 = f2 at *
          obtain ⟨y0, y1, y2⟩ := set3c wr w.heap.size (.int .i64 f0) (.int .i64 f1) (.int .i64 f2) z0 z1 z2
          have Y : Hid _ := And.intro y0 (And.intro y1 y2)
          clear y0 y1 y2 hlt htn
          go_wp2
          obtain ⟨y0, y1, y2⟩ := Y.out
          exact bodyPost_ret (v := .tuple #[.agg #[.int .i64 f0, .int .i64 f1, .int .i64 f2], .bool true]) (by simp [results, Tryd.results50, go_sem, y0, y1, y2]) rfl ⟨by rw [HR.out], Nw.set3 HN1.out (Nat.le_refl _) _ _ _⟩
    · have e3 : ((P.length : Int) != 3) = true := by rw [bne_iff_ne]; omega
      have e32 : ((P.length : Int) == 3) = false := by rw [beq_eq_false_iff_ne]; omega
      have HO : Hid (RES = none) := by show _ = _; rw [HRS.out]; exact tonesC_len (by rw [List.length_map]; exact h3)
      clear h3
      go_enter Tryd.func50, Tryd.ntmps50
      go_wp2_with fail
      rw [HW.out]
      refine Calls.mono (HCS.out _) ?_
      rintro e w1 ⟨rfl, hq⟩
      have hq2 := hq.symm; clear hq; subst hq2
      go_wp2_with fail
      refine Calls.mono (HSP.out _) ?_
      rintro e w2 ⟨rfl, k2, ly2⟩
      have HC2 : Hid (CB w2 w.heap.size) := HCB.out.nw k2
      have HN2 : Hid (Nw w w2) := Nw.trans HNW.out k2
      clear k2 ly2 HSP HCS
      have z0 := HC2.out.c0
      have z1 := HC2.out.c1
      have z2 := HC2.out.c2
      have zf := HC2.out.fz
      obtain ⟨y0, y1, y2⟩ := set3c w2 w.heap.size (.int .i64 0) (.int .i64 0) (.int .i64 0) z0 z1 z2
      have Y : Hid _ := And.intro y0 (And.intro y1 y2)
      clear y0 y1 y2
      go_wp2
      obtain ⟨y0, y1, y2⟩ := Y.out
      exact bodyPost_ret (v := colV none) (by simp [results, Tryd.results50, go_sem, y0, y1, y2, colV]) rfl ⟨by rw [HO.out], Nw.set3 HN2.out (Nat.le_refl _) _ _ _⟩
  · rw [decide_eq_false hcl] at HCS
    have HO : Hid (RES = none) := HNO.out hcl
    clear HNC HNO hcl
    go_enter Tryd.func50, Tryd.ntmps50
    go_wp2_with fail
    rw [HW.out]
    refine Calls.mono (HCS.out _) ?_
    rintro e w1 ⟨rfl, hq⟩
    have hq2 := hq.symm; clear hq; subst hq2
    go_wp2_with fail
    refine Calls.mono (HSP.out _) ?_
    rintro e w2 ⟨rfl, k2, ly2⟩
    have HC2 : Hid (CB w2 w.heap.size) := HCB.out.nw k2
    have HN2 : Hid (Nw w w2) := Nw.trans HNW.out k2
    clear k2 ly2 HSP HCS
    have z0 := HC2.out.c0
    have z1 := HC2.out.c1
    have z2 := HC2.out.c2
    have zf := HC2.out.fz
    obtain ⟨y0, y1, y2⟩ := set3c w2 w.heap.size (.int .i64 0) (.int .i64 0) (.int .i64 0) z0 z1 z2
    have Y : Hid _ := And.intro y0 (And.intro y1 y2)
    clear y0 y1 y2
    go_wp2
    obtain ⟨y0, y1, y2⟩ := Y.out
    exact bodyPost_ret (v := colV none) (by simp [results, Tryd.results50, go_sem, y0, y1, y2, colV]) rfl ⟨by rw [HO.out], Nw.set3 HN2.out (Nat.le_refl _) _ _ _⟩
end Go.Proofs.YtnkmdmmlpidcmaaDoor
namespace Go.Proofs.YtnkmdmmlpidcmaaDoor
open Go.ChangeShapes Go.WideShapes Go.ChangeAt Go.RowKit
set_option linter.unusedVariables false

set_option maxHeartbeats 4000000 in
theorem ismall (s : ByteArray) (w : World) (hs : s.size ≤ 1048576) :
    Calls Tryd.prog 90 #[.string s] w fun e w' => e = .returned (.string (bA (lowL s.data.toList))) ∧ Nw w w' := by
  have hcv := Lib.run_convert_string_bytes (P := Tryd.prog) w 9 73 5 s (u := .string) Tryd.underlying9 Tryd.underlying73 Tryd.underlying5
  have HST : Hid (LwR w.heap.size s.data.toList 0 (Lib.bytesWorld w 5 s)) := LwR.start w s 5
  have HNW : Hid (Nw w (Lib.bytesWorld w 5 s)) := bytes_nw w 5 s
  generalize Lib.bytesWorld w 5 s = W at *
  generalize grownCap w s.size 0 5 = C at *
  go_enter Tryd.func90, Tryd.ntmps90
  go_wp2
  clear hcv
  go_loopw [10] (fun i wr => ∃ k : Nat, k ≤ s.size ∧ i = .int .i64 (k : Int) ∧ LwR w.heap.size s.data.toList k wr ∧ Nw w wr) (fun i _ => s.size - (intOf i).toNat)
  case atStart => exact ⟨0, Nat.zero_le _, rfl, HST.out, HNW.out⟩
  case round =>
    obtain ⟨k, hk, rfl, hl, hw⟩ := hrel
    have HL : Hid (LwR w.heap.size s.data.toList k wr) := hl
    have HW : Hid (Nw w wr) := hw
    have hlt0 := hl.lt
    have hfz := hl.fz
    by_cases hlt : k < s.size
    · have q0 := hl.hi k (Nat.le_refl _) (by rw [data_len]; exact hlt)
      have qf := hfz k (by rw [data_len]; exact hlt)
      have hub : (byL s.data.toList k).toNat ≤ 255 := by have := UInt8.toNat_lt (byL s.data.toList k); omega
      clear hl hw hfz
      by_cases hu : 65 ≤ (byL s.data.toList k).toNat ∧ (byL s.data.toList k).toNat ≤ 90
      · have HP : Hid _ := HL.out.put (by rw [data_len]; exact hlt)
        have hlo := low_up hu
        rw [hlo] at HP
        have h1 : (65 : Int) ≤ ((byL s.data.toList k).toNat : Int) := by omega
        have h2 : ((byL s.data.toList k).toNat : Int) ≤ 90 := by omega
        clear hlo hu
        generalize (byL s.data.toList k).toNat = x at *
        have e1 : (x : Int) + 32 = (x : Int) - 65 + 97 := by omega
        rw [e1] at HP
        clear e1
        go_wp2
        go_roundw
        case rel => exact ⟨k + 1, by omega, by go_num, HP.out, HW.out.setCell (Nat.le_refl _) _⟩
        case measure => simp [intOf]; omega
      · have HP : Hid _ := HL.out.keep (by rw [data_len]; exact hlt) (low_no hu)
        by_cases h1 : (65 : Int) ≤ ((byL s.data.toList k).toNat : Int)
        · have h2 : ¬ (((byL s.data.toList k).toNat : Int) ≤ 90) := by omega
          clear hu
          generalize (byL s.data.toList k).toNat = x at *
          go_wp2
          go_roundw
          case rel => exact ⟨k + 1, by omega, by go_num, HP.out, HW.out⟩
          case measure => simp [intOf]; omega
        · clear hu
          generalize (byL s.data.toList k).toNat = x at *
          go_wp2
          go_roundw
          case rel => exact ⟨k + 1, by omega, by go_num, HP.out, HW.out⟩
          case measure => simp [intOf]; omega
    · have e : k = s.size := by omega
      have hsz : (bA (lowL s.data.toList)).size = s.size := by rw [bA_size]; unfold lowL; rw [List.length_map, data_len]
      have hbk := Lib.run_convert_whole (P := Tryd.prog) wr 73 5 9 Tryd.underlying73 Tryd.underlying5 Tryd.underlying9 w.heap.size 0 (bA (lowL s.data.toList)) (by
        intro i hi
        rw [hsz] at hi
        rw [Nat.zero_add, HL.out.lo i (by omega)]
        congr 2
        have hi2 : i < s.data.size := hi
        rw [getB _ i (by rw [hsz]; exact hi)]
        simp [bA, lowL, byL]
        rw [Array.getElem?_eq_getElem hi2]
        rfl) C
      rw [hsz] at hbk
      subst e
      clear hl hw hfz
      go_wp2
      go_ret
      exact ⟨rfl, HW.out⟩
end Go.Proofs.YtnkmdmmlpidcmaaDoor
namespace Go.Proofs.YtnkmdmmlpidcmaaDoor
open Go.ChangeShapes Go.WideShapes Go.ChangeAt Go.RowKit
open Go.MapKept (IsKey findNow_spec run_checkKey run_findKey run_setObj_map)
set_option linter.unusedVariables false

def clV (c : C3) : Value := .agg #[.int .i64 c.1, .int .i64 c.2.1, .int .i64 c.2.2]
def mEnt (i : Nat) : MapEntry := ⟨.string (strAt nmL i), clV (clAt i), i⟩
def mE (n : Nat) : Array MapEntry := ((List.range n).map mEnt).toArray
theorem mE_list (n : Nat) : (mE n).toList = (List.range n).map mEnt := by unfold mE; simp
theorem mE_succ (n : Nat) : mE (n + 1) = (mE n).push (mEnt n) := by
  unfold mE
  rw [List.range_succ, List.map_append]
  simp
theorem nm_inj : ∀ i, i < 17 → ∀ j, j < 17 → strAt nmL i = strAt nmL j → i = j := by decide +kernel
theorem mE_key {n : Nat} : ∀ x ∈ (mE n).toList, IsKey .string x.key := by
  intro x hx
  rw [mE_list] at hx
  obtain ⟨i, _, rfl⟩ := List.mem_map.1 hx
  simp [mEnt, IsKey]
theorem mE_at {n j : Nat} {e : MapEntry} (h : (mE n).toList[j]? = some e) : j < n ∧ e = mEnt j := by
  rw [mE_list, List.getElem?_map] at h
  by_cases hj : j < n
  · rw [List.getElem?_eq_getElem (by rw [List.length_range]; exact hj), List.getElem_range] at h
    exact ⟨hj, (Option.some.inj h).symm⟩
  · rw [List.getElem?_eq_none (by rw [List.length_range]; omega)] at h
    cases h
theorem find_new {n : Nat} (h : n < 17) : Instr.findNow .string (.string (strAt nmL n)) (mE n).toList 0 = some none := by
  rcases findNow_spec (d := .string) (k := .string (strAt nmL n)) (by simp [IsKey]) (mE n).toList 0 mE_key with ⟨h1, _⟩ | ⟨j, e, _, h2, h3⟩
  · exact h1
  · obtain ⟨hj, rfl⟩ := mE_at h2
    have : strAt nmL j = strAt nmL n := by injection h3
    have := nm_inj j (by omega) n h this
    omega
theorem heap_last (W : World) (o : Obj) : (W.alloc o).heap[W.heap.size]? = some o := by
  show (W.heap.push o)[W.heap.size]? = some o
  simp
theorem run_ins (W : World) (es : Array MapEntry) (c : Nat) (k : ByteArray) (v : Value) (h : Instr.findNow .string (.string k) es.toList 0 = some none) :
    (Instr.mapUpdate 118 (.map (some W.heap.size)) (.string k) v).run Tryd.prog (W.alloc (.map es c)) = .ok () (W.alloc (.map (es.push ⟨.string k, v, c⟩) (c + 1))) := by
  have hb := heap_last W (.map es c)
  have hk : IsKey .string (.string k) := by simp [IsKey]
  have hset : ({ W.alloc (.map es c) with heap := (W.alloc (.map es c)).heap.setIfInBounds W.heap.size (.map (es.push ⟨.string k, v, c⟩) (c + 1)) } : World) = W.alloc (.map (es.push ⟨.string k, v, c⟩) (c + 1)) := by
    show ({ W with heap := (W.heap.push (.map es c)).setIfInBounds W.heap.size (.map (es.push ⟨.string k, v, c⟩) (c + 1)) } : World) = { W with heap := W.heap.push (.map (es.push ⟨.string k, v, c⟩) (c + 1)) }
    congr 1
    apply Array.ext_getElem?
    intro i
    rw [Array.getElem?_setIfInBounds, Array.getElem?_push, Array.getElem?_push, Array.size_push]
    by_cases e : W.heap.size = i
    · rw [if_pos e, if_pos (by omega), if_pos e.symm]
    · rw [if_neg e, if_neg (Ne.symm e), if_neg (Ne.symm e)]
  unfold Instr.mapUpdate
  simp only [Sem.run_bind, run_underlying Tryd.underlying118, Result.andThen, MapKept.run_getObj_map hb, run_checkKey (P := Tryd.prog) Tryd.underlying9 hk, run_findKey (P := Tryd.prog) Tryd.underlying9 h, run_setObj_map _ hb, hset]
theorem run_step (W : World) (i : Nat) (h : i < 17) : (Instr.mapUpdate 118 (.map (some W.heap.size)) (.string (strAt nmL i)) (clV (clAt i))).run Tryd.prog (W.alloc (.map (mE i) i)) = .ok () (W.alloc (.map (mE (i + 1)) (i + 1))) := by
  rw [mE_succ]
  exact run_ins W (mE i) i _ _ (find_new h)
theorem zero_col (w : World) : (zeroValue 42).run Tryd.prog w = .ok (.agg #[.int .i64 0, .int .i64 0, .int .i64 0]) w := by kernel_rfl
def lookC (o : Option C3) : Value := .tuple #[clV (o.getD (0, 0, 0)), .bool o.isSome]
theorem run_name (w : World) (r : Nat) (t : List UInt8) (hb : w.heap[r]? = some (.map (mE 17) 17)) : (Instr.lookup 118 (.map (some r)) (.string (bA (lowL t))) true).run Tryd.prog w = .ok (lookC (nameC t)) w := by
  have hk : IsKey .string (.string (bA (lowL t))) := by simp [IsKey]
  unfold Instr.lookup
  rcases findNow_spec (d := .string) (k := .string (bA (lowL t))) hk (mE 17).toList 0 mE_key with ⟨h1, h2⟩ | ⟨j, e, h1, h2, h3⟩
  · have hn : nameC t = none := name_no (fun j hj e => h2 (mEnt j) (by rw [mE_list]; exact List.mem_map.2 ⟨j, List.mem_range.2 hj, rfl⟩) (by show Value.string (strAt nmL j) = _; rw [e]))
    simp only [Sem.run_bind, run_underlying Tryd.underlying118, Result.andThen, MapKept.run_getObj_map hb, Sem.run_pure, run_checkKey (P := Tryd.prog) Tryd.underlying9 hk, run_findKey (P := Tryd.prog) Tryd.underlying9 h1, zero_col, hn]
    rfl
  · obtain ⟨hj, rfl⟩ := mE_at h2
    have he : strAt nmL j = bA (lowL t) := by injection h3
    have hn : nameC t = some (clAt j) := name_yes hj he (fun i hi e => by
      have := nm_inj i (by omega) j hj (e.trans he.symm)
      omega)
    simp only [Sem.run_bind, run_underlying Tryd.underlying118, Result.andThen, MapKept.run_getObj_map hb, Sem.run_pure, run_checkKey (P := Tryd.prog) Tryd.underlying9 hk, run_findKey (P := Tryd.prog) Tryd.underlying9 h1, hn]
    rfl
set_option maxHeartbeats 8000000 in
theorem iname (s : ByteArray) (w : World) (hs : s.size ≤ 1048576) : Calls Tryd.prog 51 #[.string s] w fun e w' => e = .returned (colV (nameC s.data.toList)) ∧ Nw w w' := by
  have HSM : Hid (∀ W, Calls Tryd.prog 90 #[.string s] W fun e w' => e = .returned (.string (bA (lowL s.data.toList))) ∧ Nw W w') := fun W => ismall s W hs
  obtain ⟨W, hW⟩ : ∃ W, w.alloc (.cells #[.int .i64 0, .int .i64 0, .int .i64 0] 42) = W := ⟨_, rfl⟩
  have HCB : Hid (CB W w.heap.size) := by show CB _ _; rw [← hW]; exact CB.new w _
  have HNW : Hid (Nw w W) := by show Nw _ _; rw [← hW]; exact (Below.refl _ _).alloc (Nat.le_refl _) _
  have HWS : Hid (W.heap.size = w.heap.size + 1) := by show _ = _; rw [← hW]; simp
  have HRN : Hid (∀ w2 : World, w2.heap[w.heap.size + 1]? = some (.map (mE 17) 17) → (Instr.lookup 118 (.map (some (w.heap.size + 1))) (.string (bA (lowL s.data.toList))) true).run Tryd.prog w2 = .ok (lookC (nameC s.data.toList)) w2) := fun w2 h => run_name w2 _ _ h
  generalize bA (lowL s.data.toList) = L at *
  generalize nameC s.data.toList = o at *
  have hmm := @run_makeMap Tryd.prog
  have hst := run_step W
  rw [HWS.out, ← hW] at hst
  have h0 : (Instr.mapUpdate 118 (.map (some (w.heap.size + 1))) (.string ⟨#[98, 108, 97, 99, 107]⟩) (.agg #[.int .i64 0, .int .i64 0, .int .i64 0])).run Tryd.prog ((w.alloc (.cells #[.int .i64 0, .int .i64 0, .int .i64 0] 42)).alloc (.map #[] 0)) = .ok () ((w.alloc (.cells #[.int .i64 0, .int .i64 0, .int .i64 0] 42)).alloc (.map (mE 1) 1)) := hst 0 (by decide)
  have h1 : (Instr.mapUpdate 118 (.map (some (w.heap.size + 1))) (.string ⟨#[119, 104, 105, 116, 101]⟩) (.agg #[.int .i64 255, .int .i64 255, .int .i64 255])).run Tryd.prog ((w.alloc (.cells #[.int .i64 0, .int .i64 0, .int .i64 0] 42)).alloc (.map (mE 1) 1)) = .ok () ((w.alloc (.cells #[.int .i64 0, .int .i64 0, .int .i64 0] 42)).alloc (.map (mE 2) 2)) := hst 1 (by decide)
  have h2 : (Instr.mapUpdate 118 (.map (some (w.heap.size + 1))) (.string ⟨#[114, 101, 100]⟩) (.agg #[.int .i64 255, .int .i64 0, .int .i64 0])).run Tryd.prog ((w.alloc (.cells #[.int .i64 0, .int .i64 0, .int .i64 0] 42)).alloc (.map (mE 2) 2)) = .ok () ((w.alloc (.cells #[.int .i64 0, .int .i64 0, .int .i64 0] 42)).alloc (.map (mE 3) 3)) := hst 2 (by decide)
  have h3 : (Instr.mapUpdate 118 (.map (some (w.heap.size + 1))) (.string ⟨#[108, 105, 109, 101]⟩) (.agg #[.int .i64 0, .int .i64 255, .int .i64 0])).run Tryd.prog ((w.alloc (.cells #[.int .i64 0, .int .i64 0, .int .i64 0] 42)).alloc (.map (mE 3) 3)) = .ok () ((w.alloc (.cells #[.int .i64 0, .int .i64 0, .int .i64 0] 42)).alloc (.map (mE 4) 4)) := hst 3 (by decide)
  have h4 : (Instr.mapUpdate 118 (.map (some (w.heap.size + 1))) (.string ⟨#[98, 108, 117, 101]⟩) (.agg #[.int .i64 0, .int .i64 0, .int .i64 255])).run Tryd.prog ((w.alloc (.cells #[.int .i64 0, .int .i64 0, .int .i64 0] 42)).alloc (.map (mE 4) 4)) = .ok () ((w.alloc (.cells #[.int .i64 0, .int .i64 0, .int .i64 0] 42)).alloc (.map (mE 5) 5)) := hst 4 (by decide)
  have h5 : (Instr.mapUpdate 118 (.map (some (w.heap.size + 1))) (.string ⟨#[103, 114, 101, 101, 110]⟩) (.agg #[.int .i64 0, .int .i64 128, .int .i64 0])).run Tryd.prog ((w.alloc (.cells #[.int .i64 0, .int .i64 0, .int .i64 0] 42)).alloc (.map (mE 5) 5)) = .ok () ((w.alloc (.cells #[.int .i64 0, .int .i64 0, .int .i64 0] 42)).alloc (.map (mE 6) 6)) := hst 5 (by decide)
  have h6 : (Instr.mapUpdate 118 (.map (some (w.heap.size + 1))) (.string ⟨#[103, 114, 97, 121]⟩) (.agg #[.int .i64 128, .int .i64 128, .int .i64 128])).run Tryd.prog ((w.alloc (.cells #[.int .i64 0, .int .i64 0, .int .i64 0] 42)).alloc (.map (mE 6) 6)) = .ok () ((w.alloc (.cells #[.int .i64 0, .int .i64 0, .int .i64 0] 42)).alloc (.map (mE 7) 7)) := hst 6 (by decide)
  have h7 : (Instr.mapUpdate 118 (.map (some (w.heap.size + 1))) (.string ⟨#[115, 105, 108, 118, 101, 114]⟩) (.agg #[.int .i64 192, .int .i64 192, .int .i64 192])).run Tryd.prog ((w.alloc (.cells #[.int .i64 0, .int .i64 0, .int .i64 0] 42)).alloc (.map (mE 7) 7)) = .ok () ((w.alloc (.cells #[.int .i64 0, .int .i64 0, .int .i64 0] 42)).alloc (.map (mE 8) 8)) := hst 7 (by decide)
  have h8 : (Instr.mapUpdate 118 (.map (some (w.heap.size + 1))) (.string ⟨#[109, 97, 114, 111, 111, 110]⟩) (.agg #[.int .i64 128, .int .i64 0, .int .i64 0])).run Tryd.prog ((w.alloc (.cells #[.int .i64 0, .int .i64 0, .int .i64 0] 42)).alloc (.map (mE 8) 8)) = .ok () ((w.alloc (.cells #[.int .i64 0, .int .i64 0, .int .i64 0] 42)).alloc (.map (mE 9) 9)) := hst 8 (by decide)
  have h9 : (Instr.mapUpdate 118 (.map (some (w.heap.size + 1))) (.string ⟨#[110, 97, 118, 121]⟩) (.agg #[.int .i64 0, .int .i64 0, .int .i64 128])).run Tryd.prog ((w.alloc (.cells #[.int .i64 0, .int .i64 0, .int .i64 0] 42)).alloc (.map (mE 9) 9)) = .ok () ((w.alloc (.cells #[.int .i64 0, .int .i64 0, .int .i64 0] 42)).alloc (.map (mE 10) 10)) := hst 9 (by decide)
  have h10 : (Instr.mapUpdate 118 (.map (some (w.heap.size + 1))) (.string ⟨#[111, 108, 105, 118, 101]⟩) (.agg #[.int .i64 128, .int .i64 128, .int .i64 0])).run Tryd.prog ((w.alloc (.cells #[.int .i64 0, .int .i64 0, .int .i64 0] 42)).alloc (.map (mE 10) 10)) = .ok () ((w.alloc (.cells #[.int .i64 0, .int .i64 0, .int .i64 0] 42)).alloc (.map (mE 11) 11)) := hst 10 (by decide)
  have h11 : (Instr.mapUpdate 118 (.map (some (w.heap.size + 1))) (.string ⟨#[112, 117, 114, 112, 108, 101]⟩) (.agg #[.int .i64 128, .int .i64 0, .int .i64 128])).run Tryd.prog ((w.alloc (.cells #[.int .i64 0, .int .i64 0, .int .i64 0] 42)).alloc (.map (mE 11) 11)) = .ok () ((w.alloc (.cells #[.int .i64 0, .int .i64 0, .int .i64 0] 42)).alloc (.map (mE 12) 12)) := hst 11 (by decide)
  have h12 : (Instr.mapUpdate 118 (.map (some (w.heap.size + 1))) (.string ⟨#[116, 101, 97, 108]⟩) (.agg #[.int .i64 0, .int .i64 128, .int .i64 128])).run Tryd.prog ((w.alloc (.cells #[.int .i64 0, .int .i64 0, .int .i64 0] 42)).alloc (.map (mE 12) 12)) = .ok () ((w.alloc (.cells #[.int .i64 0, .int .i64 0, .int .i64 0] 42)).alloc (.map (mE 13) 13)) := hst 12 (by decide)
  have h13 : (Instr.mapUpdate 118 (.map (some (w.heap.size + 1))) (.string ⟨#[97, 113, 117, 97]⟩) (.agg #[.int .i64 0, .int .i64 255, .int .i64 255])).run Tryd.prog ((w.alloc (.cells #[.int .i64 0, .int .i64 0, .int .i64 0] 42)).alloc (.map (mE 13) 13)) = .ok () ((w.alloc (.cells #[.int .i64 0, .int .i64 0, .int .i64 0] 42)).alloc (.map (mE 14) 14)) := hst 13 (by decide)
  have h14 : (Instr.mapUpdate 118 (.map (some (w.heap.size + 1))) (.string ⟨#[102, 117, 99, 104, 115, 105, 97]⟩) (.agg #[.int .i64 255, .int .i64 0, .int .i64 255])).run Tryd.prog ((w.alloc (.cells #[.int .i64 0, .int .i64 0, .int .i64 0] 42)).alloc (.map (mE 14) 14)) = .ok () ((w.alloc (.cells #[.int .i64 0, .int .i64 0, .int .i64 0] 42)).alloc (.map (mE 15) 15)) := hst 14 (by decide)
  have h15 : (Instr.mapUpdate 118 (.map (some (w.heap.size + 1))) (.string ⟨#[121, 101, 108, 108, 111, 119]⟩) (.agg #[.int .i64 255, .int .i64 255, .int .i64 0])).run Tryd.prog ((w.alloc (.cells #[.int .i64 0, .int .i64 0, .int .i64 0] 42)).alloc (.map (mE 15) 15)) = .ok () ((w.alloc (.cells #[.int .i64 0, .int .i64 0, .int .i64 0] 42)).alloc (.map (mE 16) 16)) := hst 15 (by decide)
  have h16 : (Instr.mapUpdate 118 (.map (some (w.heap.size + 1))) (.string ⟨#[111, 114, 97, 110, 103, 101]⟩) (.agg #[.int .i64 255, .int .i64 165, .int .i64 0])).run Tryd.prog ((w.alloc (.cells #[.int .i64 0, .int .i64 0, .int .i64 0] 42)).alloc (.map (mE 16) 16)) = .ok () ((w.alloc (.cells #[.int .i64 0, .int .i64 0, .int .i64 0] 42)).alloc (.map (mE 17) 17)) := hst 16 (by decide)
  have HW : Hid (_ = W) := hW
  clear hst hW
  go_enter Tryd.func51, Tryd.ntmps51
  go_wp2_with fail
  clear h0 h1 h2 h3 h4 h5 h6 h7 h8 h9 h10 h11 h12 h13 h14 h15 h16 hmm
  rw [HW.out]
  refine Calls.mono (HSM.out _) ?_
  rintro e w2 ⟨rfl, k2⟩
  have HNM : Hid (Nw W (W.alloc (.map (mE 17) 17))) := (Below.refl _ _).alloc (Nat.le_refl _) _
  have hb : w2.heap[w.heap.size + 1]? = some (.map (mE 17) 17) := by
    rw [Below.block k2 (w.heap.size + 1) (by rw [World.size_alloc, HWS.out]; omega), ← HWS.out]
    exact heap_last W _
  have hlk := HRN.out w2 hb
  have HN2 : Hid (Nw W w2) := Nw.trans HNM.out k2
  have HA2 : ∀ x, Hid (Nw w2 (w2.alloc x)) := fun x => (Below.refl _ _).alloc (Nat.le_refl _) _
  clear k2 hb
  unfold lookC clV at hlk
  cases o with
  | none =>
    simp only [Option.getD_none, Option.isSome_none] at hlk
    have HX : ∀ x, Hid (CB (w2.alloc x) w.heap.size ∧ Nw w (w2.alloc x)) := fun x => ⟨(HCB.out.nw HN2.out).nw (HA2 x).out, Nw.trans HNW.out (Nw.trans HN2.out (HA2 x).out)⟩
    obtain ⟨hc, hn⟩ := (HX (.cells #[.int .i64 0, .int .i64 0, .int .i64 0] 42)).out
    have HN1 : Hid _ := hn
    have z0 := hc.c0
    have z1 := hc.c1
    have z2 := hc.c2
    have zf := hc.fz
    obtain ⟨y0, y1, y2⟩ := set3c _ w.heap.size (.int .i64 0) (.int .i64 0) (.int .i64 0) z0 z1 z2
    have Y : Hid _ := And.intro y0 (And.intro y1 y2)
    clear y0 y1 y2 hc hn
    go_wp2
    obtain ⟨y0, y1, y2⟩ := Y.out
    exact bodyPost_ret (v := colV none) (by simp [results, Tryd.results51, go_sem, y0, y1, y2, colV]) rfl ⟨rfl, Nw.set3 HN1.out (Nat.le_refl _) _ _ _⟩
  | some cl =>
    simp only [Option.getD_some, Option.isSome_some] at hlk
    have HX : ∀ x, Hid (CB (w2.alloc x) w.heap.size ∧ Nw w (w2.alloc x)) := fun x => ⟨(HCB.out.nw HN2.out).nw (HA2 x).out, Nw.trans HNW.out (Nw.trans HN2.out (HA2 x).out)⟩
    obtain ⟨hc, hn⟩ := (HX (.cells #[.int .i64 cl.1, .int .i64 cl.2.1, .int .i64 cl.2.2] 42)).out
    have HN1 : Hid _ := hn
    have z0 := hc.c0
    have z1 := hc.c1
    have z2 := hc.c2
    have zf := hc.fz
    obtain ⟨y0, y1, y2⟩ := set3c _ w.heap.size (.int .i64 cl.1) (.int .i64 cl.2.1) (.int .i64 cl.2.2) z0 z1 z2
    have Y : Hid _ := And.intro y0 (And.intro y1 y2)
    clear y0 y1 y2 hc hn
    go_wp2
    obtain ⟨y0, y1, y2⟩ := Y.out
    exact bodyPost_ret (v := colV (some cl)) (by simp [results, Tryd.results51, go_sem, y0, y1, y2, colV]) rfl ⟨rfl, Nw.set3 HN1.out (Nat.le_refl _) _ _ _⟩
end Go.Proofs.YtnkmdmmlpidcmaaDoor
namespace Go.Proofs.YtnkmdmmlpidcmaaDoor
open Go.ChangeShapes Go.WideShapes Go.ChangeAt Go.RowKit
set_option linter.unusedVariables false

theorem shex (b : UInt8) (w : World) : Calls Tryd.prog 106 #[.int .u8 (b.toNat : Int)] w fun e w' => e = .returned (.int .i64 (hxI b)) ∧ w' = w := by
  have hb : b.toNat ≤ 255 := by have := UInt8.toNat_lt b; omega
  have HD : Hid (∀ W, Calls Tryd.prog 83 #[.int .u8 (b.toNat : Int)] W fun e w' => e = .returned (.bool (digB b.toNat)) ∧ w' = W) := fun W => sdigit W _ (by omega) (by omega)
  have HX : Hid (hxI b = if 48 ≤ b.toNat ∧ b.toNat ≤ 57 then (b.toNat : Int) - 48 else if 97 ≤ b.toNat ∧ b.toNat ≤ 102 then (b.toNat : Int) - 87 else if 65 ≤ b.toNat ∧ b.toNat ≤ 70 then (b.toNat : Int) - 55 else -1) := rfl
  have HG : Hid (digB b.toNat = decide (48 ≤ b.toNat ∧ b.toNat ≤ 57)) := by show _ = _; rw [Bool.eq_iff_iff]; simp [digB]; omega
  generalize hxI b = X at *
  generalize digB b.toNat = D at *
  generalize b.toNat = n at *
  by_cases h1 : 48 ≤ n ∧ n ≤ 57
  · have hD : D = true := by rw [HG.out]; exact decide_eq_true h1
    have HY : Hid (X = (n : Int) - 48) := by show _ = _; rw [HX.out, if_pos h1]
    subst hD
    obtain ⟨a1, a2⟩ := h1
    go_enter Tryd.func106, Tryd.ntmps106
    go_wp2_with (go_at_call 83; refine Calls.mono (HD.out _) ?_; rintro e w1 ⟨rfl, hq⟩; have hq2 := hq.symm; clear hq; subst hq2)
    go_ret
    exact ⟨by rw [HY.out]; first | rfl | (rw [show (n : Int) - 87 = (n : Int) - 97 + 10 by omega]; rfl), rfl⟩
  · have hD : D = false := by rw [HG.out]; exact decide_eq_false h1
    subst hD
    by_cases h2 : 97 ≤ n ∧ n ≤ 102
    · have HY : Hid (X = (n : Int) - 87) := by show _ = _; rw [HX.out, if_neg h1, if_pos h2]
      obtain ⟨a1, a2⟩ := h2
      have b1 : (97 : Int) ≤ (n : Int) := by omega
      have b2 : (n : Int) ≤ 102 := by omega
      clear h1
      go_enter Tryd.func106, Tryd.ntmps106
      go_wp2_with (go_at_call 83; refine Calls.mono (HD.out _) ?_; rintro e w1 ⟨rfl, hq⟩; have hq2 := hq.symm; clear hq; subst hq2)
      go_ret
      exact ⟨by rw [HY.out]; first | rfl | (rw [show (n : Int) - 87 = (n : Int) - 97 + 10 by omega]; rfl), rfl⟩
    · have HY : Hid (X = if 65 ≤ n ∧ n ≤ 70 then (n : Int) - 55 else -1) := by show _ = _; rw [HX.out, if_neg h1, if_neg h2]
      have HN : Hid (¬ (97 ≤ n ∧ n ≤ 102)) := h2
      clear h1 h2
      by_cases h3 : 65 ≤ n ∧ n ≤ 70
      · have HZ : Hid (X = (n : Int) - 55) := by show _ = _; rw [HY.out, if_pos h3]
        obtain ⟨a1, a2⟩ := h3
        have b0 : ¬ ((97 : Int) ≤ (n : Int)) := by omega
        have b1 : (65 : Int) ≤ (n : Int) := by omega
        have b2 : (n : Int) ≤ 70 := by omega
        go_enter Tryd.func106, Tryd.ntmps106
        go_wp2_with (go_at_call 83; refine Calls.mono (HD.out _) ?_; rintro e w1 ⟨rfl, hq⟩; have hq2 := hq.symm; clear hq; subst hq2)
        go_ret
        exact ⟨by rw [HZ.out, show (n : Int) - 55 = (n : Int) - 65 + 10 by omega]; rfl, rfl⟩
      · have HZ : Hid (X = -1) := by show _ = _; rw [HY.out, if_neg h3]
        by_cases c1 : (97 : Int) ≤ (n : Int)
        · have c2 : ¬ ((n : Int) ≤ 102) := by have := HN.out; omega
          have c3 : (65 : Int) ≤ (n : Int) := by omega
          have c4 : ¬ ((n : Int) ≤ 70) := by omega
          clear h3
          go_enter Tryd.func106, Tryd.ntmps106
          go_wp2_with (go_at_call 83; refine Calls.mono (HD.out _) ?_; rintro e w1 ⟨rfl, hq⟩; have hq2 := hq.symm; clear hq; subst hq2)
          go_ret
          exact ⟨by rw [HZ.out]; first | rfl | simp, rfl⟩
        · by_cases c3 : (65 : Int) ≤ (n : Int)
          · have c4 : ¬ ((n : Int) ≤ 70) := by omega
            clear h3
            go_enter Tryd.func106, Tryd.ntmps106
            go_wp2_with (go_at_call 83; refine Calls.mono (HD.out _) ?_; rintro e w1 ⟨rfl, hq⟩; have hq2 := hq.symm; clear hq; subst hq2)
            go_ret
            exact ⟨by rw [HZ.out]; first | rfl | simp, rfl⟩
          · clear h3
            go_enter Tryd.func106, Tryd.ntmps106
            go_wp2_with (go_at_call 83; refine Calls.mono (HD.out _) ?_; rintro e w1 ⟨rfl, hq⟩; have hq2 := hq.symm; clear hq; subst hq2)
            go_ret
            exact ⟨by rw [HZ.out]; first | rfl | simp, rfl⟩
set_option maxHeartbeats 4000000 in
theorem shash (s : ByteArray) (w : World) (hs : s.size ≤ 1048576) : Calls Tryd.prog 81 #[.string s] w fun e w' => e = .returned (colV (hashC s.data.toList)) ∧ Nw w w' := by
  obtain ⟨W, hW⟩ : ∃ W, w.alloc (.cells #[.int .i64 0, .int .i64 0, .int .i64 0] 42) = W := ⟨_, rfl⟩
  have HCB : Hid (CB W w.heap.size) := by show CB _ _; rw [← hW]; exact CB.new w _
  have HNW : Hid (Nw w W) := by show Nw _ _; rw [← hW]; exact (Below.refl _ _).alloc (Nat.le_refl _) _
  have hWs : W.heap.size = w.heap.size + 1 := by rw [← hW]; simp
  have HW : Hid (_ = W) := hW
  clear hW
  go_enter Tryd.func81, Tryd.ntmps81
  go_wp2
  rw [HW.out]
  go_loopw [4, 5] (fun x i wr => ∃ (k : Nat) (v : Value), v = x ∧ k ≤ s.size ∧ i = .int .i64 k ∧ Ins wr (w.heap.size + 1) v ((s.data.toList.take k).map hxI) ∧ (s.data.toList.take k).all hexB = true ∧ Below (w.heap.size + 1) W wr) (fun _ i _ => s.size - (intOf i).toNat)
  case atStart => exact ⟨0, _, rfl, Nat.zero_le _, rfl, Ins.nil _ _, rfl, Below.refl _ _⟩
  case round =>
    obtain ⟨k, v, rfl, hk, rfl, hin, hall, hbw⟩ := hrel
    have HC : Hid (CB wr w.heap.size) := HCB.out.below hbw (by omega)
    obtain ⟨z0, z1, z2, zf⟩ : wr.cell? ⟨w.heap.size, 0, none⟩ = some (.int .i64 0) ∧ wr.cell? ⟨w.heap.size, 1, none⟩ = some (.int .i64 0) ∧ wr.cell? ⟨w.heap.size, 2, none⟩ = some (.int .i64 0) ∧ ∀ o, wr.frozen? ⟨w.heap.size, o, none⟩ = false := ⟨HC.out.c0, HC.out.c1, HC.out.c2, HC.out.fz⟩
    have HN : Hid (Nw w wr) := Below.trans HNW.out (Below.mono hbw (Nat.le_succ _))
    have HB : Hid (Below (w.heap.size + 1) W wr) := hbw
    have HZ : Hid (w.heap.size + 1 ≤ wr.heap.size) := by show _ ≤ _; rw [← hWs]; exact Below.size hbw
    have hll : ((s.data.toList.take k).map hxI).length = k := by rw [List.length_map, List.length_take, data_len]; omega
    have HA : Hid ((s.data.toList.take k).all hexB = true) := hall
    have HI : Hid (Ins wr (w.heap.size + 1) v ((s.data.toList.take k).map hxI)) := hin
    have HL : Hid _ := Ins.lay hin
    clear hin hall hbw
    by_cases hlt : k < s.size
    · have hltI : (k : Int) < (s.size : Int) := by omega
      have HTK : Hid (s.data.toList.take (k + 1) = s.data.toList.take k ++ [s[k]]) := take_snoc s k hlt
      have HX : Hid (∀ W, Calls Tryd.prog 106 #[.int .u8 (s[k].toNat : Int)] W fun e w' => e = .returned (.int .i64 (hxI s[k])) ∧ w' = W) := fun W => shex s[k] W
      have HNO : Hid (hexB s[k] = false → hashC s.data.toList = none) := fun h => hash_no (k := k) (by rw [data_len]; exact hlt) (by rw [← getB]; exact h)
      have HBX : Hid (hexB s[k] = decide (0 ≤ hxI s[k])) := rfl
      have hbd := hxI_bd s[k]
      obtain ⟨va, vc, hv⟩ : ∃ a c, v = .slice a k c := by
        rcases HL.out with ⟨h1, h2⟩ | ⟨g, c, h1, _⟩
        · rw [h2] at hll; simp at hll; exact ⟨none, 0, by rw [h1, ← hll]⟩
        · rw [hll] at h1; exact ⟨_, c, h1⟩
      subst hv
      by_cases hx : 0 ≤ hxI s[k]
      · have HY : Hid ((s.data.toList.take (k + 1)).all hexB = true) := by show _ = _; rw [HTK.out, List.all_append, HA.out]; simp [HBX.out, hx]
        have HM : Hid ((s.data.toList.take (k + 1)).map hxI = (s.data.toList.take k).map hxI ++ [hxI s[k]]) := by show _ = _; rw [HTK.out, List.map_append]; rfl
        have hol : ((s.data.toList.take k).map hxI).length ≤ 10000000 := by omega
        have HOL : Hid _ := hol
        generalize (s.data.toList.take k).map hxI = out at *
        generalize hxI s[k] = x at *
        have hnx : ¬ (x < 0) := by omega
        have HB0 : ∀ o, Hid (Nw wr (wr.alloc o)) := fun o => (Below.refl _ _).alloc (Nat.le_refl _) _
        clear hll hol HL
        go_wp2_with (first | (go_at_call 106; refine Calls.mono (HX.out _) ?_; rintro e w1 ⟨rfl, hq⟩; have hq2 := hq.symm; clear hq; subst hq2) | (at_builtin; (refine wp_in _ rfl _ _ rfl (w.heap.size + 1) _ out x rfl (HI.out.nw (HB0 _).out) _ rfl ?c1 HOL.out ?c3 ?_)))
        case c1 => simp
        case c3 => have := HZ.out; simp; omega
        intro v' w' h1 h2
        have H1 : Hid (Ins w' (w.heap.size + 1) v' (out ++ [x])) := h1
        have H2 : Hid (Below (w.heap.size + 1) W w') := Below.trans (Below.trans HB.out (Below.mono (HB0 _).out HZ.out)) (Ins.below (HI.out.nw (HB0 _).out) h2 (by have := HZ.out; simp; omega))
        clear h1 h2 z0 z1 z2 zf
        go_wp2
        go_roundw
        case rel => exact ⟨k + 1, _, rfl, by omega, by go_num, by rw [HM.out]; exact H1.out, HY.out, H2.out⟩
        case measure => simp [intOf]; omega
      · have HY : Hid (hashC s.data.toList = none) := HNO.out (by rw [HBX.out]; exact decide_eq_false hx)
        generalize hxI s[k] = x at *
        obtain ⟨y0, y1, y2⟩ := set3c wr w.heap.size (.int .i64 0) (.int .i64 0) (.int .i64 0) z0 z1 z2
        have Y : Hid _ := And.intro y0 (And.intro y1 y2)
        clear y0 y1 y2
        have hnx : x < 0 := by omega
        go_wp2_with (go_at_call 106; refine Calls.mono (HX.out _) ?_; rintro e w1 ⟨rfl, hq⟩; have hq2 := hq.symm; clear hq; subst hq2)
        obtain ⟨y0, y1, y2⟩ := Y.out
        exact bodyPost_ret (v := colV none) (by simp [results, Tryd.results81, go_sem, y0, y1, y2, colV]) rfl ⟨by rw [HY.out], Nw.set3 HN.out (Nat.le_refl _) _ _ _⟩
    · have hke : k = s.size := by omega
      subst hke
      have hltI : ¬ ((s.size : Int) < (s.size : Int)) := by omega
      have ht : s.data.toList.take s.size = s.data.toList := List.take_of_length_le (by rw [data_len]; exact Nat.le_refl _)
      rw [ht] at HA HI HL hll
      have HH : Hid (hashC s.data.toList = pickC (s.data.toList.map hxI)) := by show _ = _; unfold hashC; rw [if_pos HA.out]
      have HBD : Hid (∀ x, x ∈ s.data.toList.map hxI → 0 ≤ x ∧ x ≤ 15) := by
        intro x hx
        obtain ⟨b, hb, rfl⟩ := List.mem_map.1 hx
        have := List.all_eq_true.1 HA.out b hb
        exact ⟨of_decide_eq_true this, (hxI_bd b).2⟩
      generalize s.data.toList.map hxI = out at *
      clear HI HA ht
      by_cases h3 : s.size = 3
      · obtain ⟨a, b, c, rfl⟩ := three out (by rw [hll, h3])
        obtain ⟨g, vc, rfl, hlay⟩ : ∃ g c1, v = .slice (some ⟨g, 0, none⟩) 3 c1 ∧ LayI wr g [a, b, c] := by
          rcases HL.out with ⟨_, h⟩ | ⟨g, c1, h1, _, h3⟩
          · cases h
          · exact ⟨g, c1, h1, h3⟩
        have hgl := hlay.1
        have g0 : wr.cell? ⟨g, 0, none⟩ = some (.int .i64 a) := hlay.2.1 0 (by simp)
        have g1 : wr.cell? ⟨g, 1, none⟩ = some (.int .i64 b) := hlay.2.1 1 (by simp)
        have g2 : wr.cell? ⟨g, 2, none⟩ = some (.int .i64 c) := hlay.2.1 2 (by simp)
        have b0 := HBD.out a (by simp)
        have b1 := HBD.out b (by simp)
        have b2 := HBD.out c (by simp)
        have HY : Hid (colV (hashC s.data.toList) = .tuple #[.agg #[.int .i64 (17 * a), .int .i64 (17 * b), .int .i64 (17 * c)], .bool true]) := by show _ = _; rw [HH.out]; rfl
        have w0 : IntKind.i64.wrap (17 * a) = 17 * a := IntWalk.i64_in _ (by omega)
        have w1 : IntKind.i64.wrap (17 * b) = 17 * b := IntWalk.i64_in _ (by omega)
        have w2 : IntKind.i64.wrap (17 * c) = 17 * c := IntWalk.i64_in _ (by omega)
        obtain ⟨y0, y1, y2⟩ := set3c wr w.heap.size (.int .i64 (17 * a)) (.int .i64 (17 * b)) (.int .i64 (17 * c)) z0 z1 z2
        have Y : Hid _ := And.intro y0 (And.intro y1 y2)
        clear y0 y1 y2 hlay HL
        have hWN : Hid (Nw w (((wr.setCell ⟨w.heap.size, 0, none⟩ (.int .i64 (17 * a))).setCell ⟨w.heap.size, 1, none⟩ (.int .i64 (17 * b))).setCell ⟨w.heap.size, 2, none⟩ (.int .i64 (17 * c)))) := Nw.set3 HN.out (Nat.le_refl _) _ _ _
        go_wp2
        go_region
        all_goals
          go_wp2
          obtain ⟨y0, y1, y2⟩ := Y.out
          exact bodyPost_ret (v := .tuple #[.agg #[.int .i64 (17 * a), .int .i64 (17 * b), .int .i64 (17 * c)], .bool true]) (by simp [results, Tryd.results81, go_sem, y0, y1, y2]) rfl ⟨by rw [HY.out], by first | exact hWN.out | exact Below.drew hWN.out⟩
      · by_cases h6 : s.size = 6
        · obtain ⟨a, b, c, d, e, f, rfl⟩ := six out (by rw [hll, h6])
          obtain ⟨g, vc, rfl, hlay⟩ : ∃ g c1, v = .slice (some ⟨g, 0, none⟩) 6 c1 ∧ LayI wr g [a, b, c, d, e, f] := by
            rcases HL.out with ⟨_, h⟩ | ⟨g, c1, h1, _, h3⟩
            · cases h
            · exact ⟨g, c1, h1, h3⟩
          have hgl := hlay.1
          have g0 : wr.cell? ⟨g, 0, none⟩ = some (.int .i64 a) := hlay.2.1 0 (by simp)
          have g1 : wr.cell? ⟨g, 1, none⟩ = some (.int .i64 b) := hlay.2.1 1 (by simp)
          have g2 : wr.cell? ⟨g, 2, none⟩ = some (.int .i64 c) := hlay.2.1 2 (by simp)
          have g3 : wr.cell? ⟨g, 3, none⟩ = some (.int .i64 d) := hlay.2.1 3 (by simp)
          have g4 : wr.cell? ⟨g, 4, none⟩ = some (.int .i64 e) := hlay.2.1 4 (by simp)
          have g5 : wr.cell? ⟨g, 5, none⟩ = some (.int .i64 f) := hlay.2.1 5 (by simp)
          have b0 := HBD.out a (by simp)
          have b1 := HBD.out b (by simp)
          have b2 := HBD.out c (by simp)
          have b3 := HBD.out d (by simp)
          have b4 := HBD.out e (by simp)
          have b5 := HBD.out f (by simp)
          have HY : Hid (colV (hashC s.data.toList) = .tuple #[.agg #[.int .i64 (16 * a + b), .int .i64 (16 * c + d), .int .i64 (16 * e + f)], .bool true]) := by show _ = _; rw [HH.out]; rfl
          have w0 : IntKind.i64.wrap (16 * a) = 16 * a := IntWalk.i64_in _ (by omega)
          have w1 : IntKind.i64.wrap (16 * c) = 16 * c := IntWalk.i64_in _ (by omega)
          have w2 : IntKind.i64.wrap (16 * e) = 16 * e := IntWalk.i64_in _ (by omega)
          have w3 : IntKind.i64.wrap (16 * a + b) = 16 * a + b := IntWalk.i64_in _ (by omega)
          have w4 : IntKind.i64.wrap (16 * c + d) = 16 * c + d := IntWalk.i64_in _ (by omega)
          have w5 : IntKind.i64.wrap (16 * e + f) = 16 * e + f := IntWalk.i64_in _ (by omega)
          obtain ⟨y0, y1, y2⟩ := set3c wr w.heap.size (.int .i64 (16 * a + b)) (.int .i64 (16 * c + d)) (.int .i64 (16 * e + f)) z0 z1 z2
          have Y : Hid _ := And.intro y0 (And.intro y1 y2)
          clear y0 y1 y2 hlay HL
          have hWN : Hid (Nw w (((wr.setCell ⟨w.heap.size, 0, none⟩ (.int .i64 (16 * a + b))).setCell ⟨w.heap.size, 1, none⟩ (.int .i64 (16 * c + d))).setCell ⟨w.heap.size, 2, none⟩ (.int .i64 (16 * e + f)))) := Nw.set3 HN.out (Nat.le_refl _) _ _ _
          go_wp2
          go_region
          all_goals
            go_wp2
            obtain ⟨y0, y1, y2⟩ := Y.out
            exact bodyPost_ret (v := .tuple #[.agg #[.int .i64 (16 * a + b), .int .i64 (16 * c + d), .int .i64 (16 * e + f)], .bool true]) (by simp [results, Tryd.results81, go_sem, y0, y1, y2]) rfl ⟨by rw [HY.out], by first | exact hWN.out | exact Below.drew hWN.out⟩
        · have HY : Hid (hashC s.data.toList = none) := by show _ = _; rw [HH.out]; exact pickC_no (by rw [hll]; exact h3) (by rw [hll]; exact h6)
          obtain ⟨va, vc, hv⟩ : ∃ a c, v = .slice a s.size c := by
            rcases HL.out with ⟨h1, h2⟩ | ⟨g, c, h1, _⟩
            · rw [h2] at hll; simp at hll; exact ⟨none, 0, by rw [h1, ← hll]⟩
            · rw [hll] at h1; exact ⟨_, c, h1⟩
          subst hv
          obtain ⟨y0, y1, y2⟩ := set3c wr w.heap.size (.int .i64 0) (.int .i64 0) (.int .i64 0) z0 z1 z2
          have Y : Hid _ := And.intro y0 (And.intro y1 y2)
          have e3 : ((s.size : Int) == 3) = false := by rw [beq_eq_false_iff_ne]; omega
          have e6 : ((s.size : Int) == 6) = false := by rw [beq_eq_false_iff_ne]; omega
          clear y0 y1 y2 hll h3 h6 HL
          go_wp2
          obtain ⟨y0, y1, y2⟩ := Y.out
          exact bodyPost_ret (v := colV none) (by simp [results, Tryd.results81, go_sem, y0, y1, y2, colV]) rfl ⟨by rw [HY.out], Nw.set3 HN.out (Nat.le_refl _) _ _ _⟩
end Go.Proofs.YtnkmdmmlpidcmaaDoor
