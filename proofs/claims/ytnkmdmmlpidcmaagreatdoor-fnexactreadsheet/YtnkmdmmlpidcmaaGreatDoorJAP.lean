/-
  A part read from a word by the specification: its walk; each theorem names its conditions.
  A selector read by the specification; each theorem names its conditions.
  A sheet read by the specification; each theorem names its conditions.
  A sheet read by the specification, answered; each theorem names its conditions.
-/
import Derived.Test.YtnkmdmmlpidcmaaGreatDoorJAK
import Derived.Test.YtnkmdmmlpidcmaaGreatDoorJAI
import Derived.Test.YtnkmdmmlpidcmaaGreatDoorJAL
import Derived.Test.YtnkmdmmlpidcmaaGreatDoorJAO
namespace Go.Proofs.YtnkmdmmlpidcmaaGreatDoor
open Go.ChangeShapes Go.WideShapes Go.ChangeAt Go.RowKit
set_option linter.unusedVariables false

theorem head_byte (s : ByteArray) (k : Nat) (h : k < s.size) : s.data.toList.drop k = s[k] :: s.data.toList.drop (k + 1) := by
  rw [drop_at (by rw [data_len]; exact h), getB s k h]
theorem byte_no {b : UInt8} (n : Nat) (hn : n < 256) (h : b ≠ UInt8.ofNat n) : ((b.toNat : Int) == (n : Int)) = false := by
  rw [beq_eq_false_iff_ne]
  intro e
  apply h
  apply UInt8.toNat_inj.1
  have : (UInt8.ofNat n).toNat = n := UInt8.toNat_ofNat_of_lt (by simpa using hn)
  rw [this]
  omega
theorem idS_bad {t : List UInt8} (h : runL t = 0) : idS (35 :: t) = none := by
  show (if (35 : UInt8) = 35 then (if runL t = 0 then none else some (t.take (runL t), t.drop (runL t))) else some ([], 35 :: t)) = none
  rw [if_pos rfl, if_pos h]
theorem idS_hit {t : List UInt8} (h : ¬ runL t = 0) : idS (35 :: t) = some (t.take (runL t), t.drop (runL t)) := by
  show (if (35 : UInt8) = 35 then (if runL t = 0 then none else some (t.take (runL t), t.drop (runL t))) else some ([], 35 :: t)) = _
  rw [if_pos rfl, if_neg h]
/-- What an early end says. -/
theorem PSt.out {w wx : World} {ty id : ByteArray} {v : Value} {cls : List ByteArray} (h : PSt w wx ty id v cls) (u0 u1 u2 : Value) : Nw w (((wx.setCell ⟨w.heap.size, 0, none⟩ u0).setCell ⟨w.heap.size, 1, none⟩ u1).setCell ⟨w.heap.size, 2, none⟩ u2) :=
  ((Below.setCell h.nw (Nat.le_refl _) _).setCell (Nat.le_refl _) _).setCell (Nat.le_refl _) _
set_option maxRecDepth 100000 in
set_option maxHeartbeats 8000000 in
theorem spart (w : World) (s : ByteArray) (hs : s.size ≤ 1048576) :
    Calls Tryz.prog 114 #[.string s] w fun e w' => PartSays s w w' e ∧ Nw w w' := by
  by_cases h0 : s.size = 0
  · obtain rfl := empty_of h0
    have HP : Hid (prP ⟨#[]⟩ = none) := rfl
    clear h0 hs
    have HS0 : Hid (PSt w _ ⟨#[]⟩ ⟨#[]⟩ (.slice none 0 0) []) := PSt.new w 67
    go_enter Tryz.func114, Tryz.ntmps114
    go_upto_if 11 with fail
    obtain ⟨⟨b0, b1, b2, bf, _⟩, ⟨z0, z1, z2, zf, _⟩, _⟩ := HS0.out
    generalize ((w.alloc (.cells #[.string ⟨#[]⟩, .string ⟨#[]⟩, .slice none 0 0] 67)).alloc (.cells #[.string ⟨#[]⟩, .string ⟨#[]⟩, .slice none 0 0] 67)) = W at *
    obtain ⟨y0, y1, y2⟩ := set3c W w.heap.size (.string ⟨#[]⟩) (.string ⟨#[]⟩) (.slice none 0 0) z0 z1 z2
    go_wp2
    refine bodyPost_ret (v := .tuple #[.agg #[.string ⟨#[]⟩, .string ⟨#[]⟩, .slice none 0 0], .bool false]) (by simp [results, Tryz.results114, go_sem, y0, y1, y2]) rfl ⟨Or.inr ⟨HP.out, _, _, _, _, _, rfl⟩, ?_⟩
    exact HS0.out.out _ _ _
  · have h1 : 0 < s.size := by omega
    have n1 := ne_nil h1
    have n2 := ne_emp h1
    have hnl : s.data.toList ≠ [] := fun e => h0 (by rw [← data_len, e]; rfl)
    have HPS : Hid _ := prs_split hnl
    have HT : Hid (tyN s.data.toList = if s[0] = 42 then 1 else runL s.data.toList) := by
      show _ = _
      have hh : s.data.toList.head? = some s[0] := by
        have := head_byte s 0 h1
        rw [List.drop_zero] at this
        rw [this]; rfl
      unfold tyN
      rw [hh]
      simp
    have hTL : tyN s.data.toList ≤ s.size := by rw [← data_len]; exact tyN_le _
    have HX1 : Hid (s[0] = 42 → s.extract 0 1 = ⟨#[42]⟩) := by
      intro h
      rw [ext_head]
      have := head_byte s 0 h1
      rw [List.drop_zero] at this
      rw [this, h]; rfl
    have HX0 : Hid (s.extract 0 0 = ⟨#[]⟩) := by show _ = _; rw [ext_head]; rfl
    have HS0 : Hid (PSt w _ ⟨#[]⟩ ⟨#[]⟩ (.slice none 0 0) []) := PSt.new w 67
    clear hnl h0
    generalize ha1 : tyN s.data.toList = a1 at *
    clear ha1
    go_enter Tryz.func114, Tryz.ntmps114
    go_upto_if 15 with fail
    obtain ⟨⟨b0, b1, b2, bf, _⟩, ⟨z0, z1, z2, zf, _⟩, _⟩ := HS0.out
    generalize ((w.alloc (.cells #[.string ⟨#[]⟩, .string ⟨#[]⟩, .slice none 0 0] 67)).alloc (.cells #[.string ⟨#[]⟩, .string ⟨#[]⟩, .slice none 0 0] 67)) = W at *
    go_cut [5] (fun v wx => v = .int .i64 (a1 : Int) ∧ PSt w wx (s.extract 0 a1) ⟨#[]⟩ (.slice none 0 0) [])
    case first =>
      by_cases h42 : s[0] = 42
      · have g42 : ((s[0].toNat : Int) == 42) = true := by rw [h42]; rfl
        have ha : a1 = 1 := by rw [HT.out, if_pos h42]
        have hx := HX1.out h42
        have HE : Hid (PSt w (W.setCell ⟨w.heap.size + 1, 0, none⟩ (.string ⟨#[42]⟩)) (s.extract 0 a1) ⟨#[]⟩ (.slice none 0 0) []) := by
          show PSt _ _ _ _ _ _
          rw [ha, hx]; exact HS0.out.ty _
        subst ha
        clear hx h42
        go_wp2
        go_meet
        exact ⟨rfl, HE.out⟩
      · have g42 : ((s[0].toNat : Int) == 42) = false := byte_no 42 (by omega) h42
        have ha : a1 = runL s.data.toList := by rw [HT.out, if_neg h42]
        have HRN : Hid (Calls Tryz.prog 105 #[.string s] W fun e w' => e = .returned (.int .i64 (a1 : Nat)) ∧ w' = W) := by rw [ha]; exact srunL W s hs
        clear h42 ha
        by_cases hn : a1 = 0
        · have HE : Hid (PSt w W (s.extract 0 a1) ⟨#[]⟩ (.slice none 0 0) []) := by
            show PSt _ _ _ _ _ _
            rw [hn, HX0.out]; exact HS0.out
          subst hn
          go_wp2_with (go_at_call 105; refine HRN.out.mono ?_; rintro e w' ⟨rfl, hq⟩; have hq2 := hq.symm; clear hq; subst hq2)
          go_meet
          exact ⟨rfl, HE.out⟩
        · have hp : 0 < a1 := by omega
          have HE : Hid (PSt w (W.setCell ⟨w.heap.size + 1, 0, none⟩ (.string (s.extract 0 a1))) (s.extract 0 a1) ⟨#[]⟩ (.slice none 0 0) []) := HS0.out.ty _
          go_wp2_with (go_at_call 105; refine HRN.out.mono ?_; rintro e w' ⟨rfl, hq⟩; have hq2 := hq.symm; clear hq; subst hq2)
          go_meet
          exact ⟨rfl, HE.out⟩
    case rest =>
      obtain ⟨rfl, hst⟩ := hcut
      clear b0 b1 b2 bf z0 z1 z2 zf HX0 HX1 HT
      have HTY : Hid (bA (s.data.toList.take a1) = s.extract 0 a1) := (ext_head s a1).symm
      have HST : Hid (PSt w wc (s.extract 0 a1) ⟨#[]⟩ (.slice none 0 0) []) := hst
      generalize s.extract 0 a1 = ty at *
      clear hst
      go_upto_region 12 with fail
      go_cut [35] (fun b wx => b = .bool (decide (∃ h : a1 < s.size, s[a1] = 35)) ∧ wx = wc)
      case first =>
        by_cases hlt : a1 < s.size
        · have hltI : (a1 : Int) < (s.size : Int) := by omega
          by_cases h35 : s[a1] = 35
          · have g35 : ((s[a1].toNat : Int) == 35) = true := by rw [h35]; rfl
            have HD : Hid (decide (∃ h : a1 < s.size, s[a1] = 35) = true) := decide_eq_true ⟨hlt, h35⟩
            clear h35
            go_wp2
            go_meet
            exact ⟨by rw [HD.out], rfl⟩
          · have g35 : ((s[a1].toNat : Int) == 35) = false := byte_no 35 (by omega) h35
            have HD : Hid (decide (∃ h : a1 < s.size, s[a1] = 35) = false) := decide_eq_false (fun ⟨_, h⟩ => h35 h)
            clear h35
            go_wp2
            go_meet
            exact ⟨by rw [HD.out], rfl⟩
        · have hltI : ¬ ((a1 : Int) < (s.size : Int)) := by omega
          have HD : Hid (decide (∃ h : a1 < s.size, s[a1] = 35) = false) := decide_eq_false (fun ⟨h, _⟩ => hlt h)
          go_wp2
          go_meet
          exact ⟨by rw [HD.out], rfl⟩
      case rest =>
      obtain ⟨rfl, hwx⟩ := hcut
      subst hwx
      have HC35 : Hid (∀ b, decide (∃ h : a1 < s.size, s[a1] = 35) = b → decide (∃ h : a1 < s.size, s[a1] = 35) = b) := fun _ h => h
      generalize hcc : decide (∃ h : a1 < s.size, s[a1] = 35) = cc at *
      have HCC : Hid (decide (∃ h : a1 < s.size, s[a1] = 35) = cc) := hcc
      clear hcc HC35
      go_upto_if 35 with fail
      go_cut [5] (fun v wx => ∃ (a2 : Nat) (id : ByteArray), v = .int .i64 (a2 : Int) ∧ a2 ≤ s.size ∧ PSt w wx ty id (.slice none 0 0) [] ∧ idS (s.data.toList.drop a1) = some (id.data.toList, s.data.toList.drop a2))
      case first =>
        obtain ⟨⟨b0, b1, b2, bf, _⟩, ⟨z0, z1, z2, zf, _⟩, _⟩ := HST.out
        by_cases hlt : a1 < s.size
        · have hd := head_byte s a1 hlt
          have hltI : (a1 : Int) < (s.size : Int) := by omega
          by_cases h35 : s[a1] = 35
          · have hcc : cc = true := by rw [← HCC.out]; exact decide_eq_true ⟨hlt, h35⟩
            subst hcc
            have hsz : (s.extract (a1 + 1) s.size).size ≤ 1048576 := by rw [ByteArray.size_extract]; omega
            have HRN : Hid (Calls Tryz.prog 105 #[.string (s.extract (a1 + 1) s.size)] wc fun e w' => e = .returned (.int .i64 (runL (s.data.toList.drop (a1 + 1)) : Nat)) ∧ w' = wc) := by rw [← tail_list]; exact srunL wc (s.extract (a1 + 1) s.size) hsz
            have hrl := runL_le (s.data.toList.drop (a1 + 1))
            rw [List.length_drop, data_len] at hrl
            rw [h35] at hd
            by_cases hn : runL (s.data.toList.drop (a1 + 1)) = 0
            · have HNO : Hid (prP s = none) := by
                show prP s = none
                unfold prP
                rw [HPS.out, hd]
                rw [idS_bad hn]
                rfl
              rw [hn] at HRN
              clear hd hrl h35 hn
              obtain ⟨y0, y1, y2⟩ := set3c wc w.heap.size (.string ty) (.string ⟨#[]⟩) (.slice none 0 0) z0 z1 z2
              go_wp2_with (go_at_call 105; refine HRN.out.mono ?_; rintro e w' ⟨rfl, hq⟩; have hq2 := hq.symm; clear hq; subst hq2)
              refine bodyPost_ret (v := .tuple #[.agg #[.string ty, .string ⟨#[]⟩, .slice none 0 0], .bool false]) (by simp [results, Tryz.results114, go_sem, y0, y1, y2]) rfl ⟨Or.inr ⟨HNO.out, _, _, _, _, _, rfl⟩, ?_⟩
              exact HST.out.out _ _ _
            · have HID : Hid (idS (s.data.toList.drop a1) = some ((s.extract (a1 + 1) (a1 + 1 + runL (s.data.toList.drop (a1 + 1)))).data.toList, s.data.toList.drop (a1 + 1 + runL (s.data.toList.drop (a1 + 1))))) := by
                show _ = _
                rw [hd]
                rw [idS_hit hn, ext_mid, bA_list, List.drop_drop]
              generalize runL (s.data.toList.drop (a1 + 1)) = n at *
              have hn0 : 0 < n := by omega
              have hle : a1 + 1 + n ≤ s.size := by omega
              have HE : Hid (PSt w (wc.setCell ⟨w.heap.size + 1, 1, none⟩ (.string (s.extract (a1 + 1) (a1 + 1 + n)))) ty (s.extract (a1 + 1) (a1 + 1 + n)) (.slice none 0 0) []) := HST.out.id _
              clear hd hrl h35
              go_wp2_with (go_at_call 105; refine HRN.out.mono ?_; rintro e w' ⟨rfl, hq⟩; have hq2 := hq.symm; clear hq; subst hq2)
              go_meet
              exact ⟨a1 + 1 + n, _, by go_num, hle, by simpa using HE.out, HID.out⟩
          · have hcc : cc = false := by rw [← HCC.out]; exact decide_eq_false (fun ⟨_, h⟩ => h35 h)
            subst hcc
            have HID : Hid (idS (s.data.toList.drop a1) = some ((⟨#[]⟩ : ByteArray).data.toList, s.data.toList.drop a1)) := by
              show _ = _
              rw [hd]
              show (if s[a1] = 35 then _ else some ([], s[a1] :: s.data.toList.drop (a1 + 1))) = _
              rw [if_neg h35]
            clear hd h35
            go_wp2
            go_meet
            exact ⟨a1, _, rfl, hTL, HST.out, HID.out⟩
        · have hcc : cc = false := by rw [← HCC.out]; exact decide_eq_false (fun ⟨h, _⟩ => hlt h)
          subst hcc
          have HID : Hid (idS (s.data.toList.drop a1) = some ((⟨#[]⟩ : ByteArray).data.toList, s.data.toList.drop a1)) := by
            show _ = _
            rw [List.drop_eq_nil_of_le (by rw [data_len]; omega)]
            rfl
          go_wp2
          go_meet
          exact ⟨a1, _, rfl, hTL, HST.out, HID.out⟩
      case rest =>
        obtain ⟨a2, id, rfl, ha2, hst, hid⟩ := hcut
        have HYES : Hid (∀ cs, clsR (s.data.toList.drop a2) [] = some cs → prP s = some ⟨ty, id, cs.map bA⟩) := by
          intro cs hcs
          unfold prP
          rw [HPS.out, hid]
          simp only [hcs]
          show some (ofL ⟨_, _, _⟩) = _
          unfold ofL
          simp only [HTY.out, bA_data]
        have HNO : Hid (clsR (s.data.toList.drop a2) [] = none → prP s = none) := by
          intro hcs
          unfold prP
          rw [HPS.out, hid]
          simp only [hcs]
          rfl
        clear hid HPS HTY HS0 HST
        go_wp2
        go_loopw [5] (fun v wr => ∃ (a : Nat) (acc : List (List UInt8)) (u : Value), v = .int .i64 (a : Int) ∧ a ≤ s.size ∧ acc.length ≤ 4 ∧ clsR (s.data.toList.drop a) acc = clsR (s.data.toList.drop a2) [] ∧ PSt w wr ty id u (acc.map bA)) (fun v _ => s.size - (intOf v).toNat)
        case atStart => exact ⟨a2, [], _, rfl, ha2, Nat.zero_le _, rfl, hst⟩
        case round =>
          obtain ⟨a, acc, u, rfl, ha, hac, hcl, hst⟩ := hrel
          have hml : (acc.map bA).length = acc.length := List.length_map ..
          obtain ⟨va, vc, hv⟩ := hst.box.own.slice
          subst hv
          rw [hml] at hst
          have HST : Hid (PSt w wr ty id (.slice va acc.length vc) (acc.map bA)) := hst
          have HCL : Hid (clsR (s.data.toList.drop a) acc = clsR (s.data.toList.drop a2) []) := hcl
          obtain ⟨⟨b0, b1, b2, bf, _⟩, ⟨z0, z1, z2, zf, _⟩, _⟩ := hst
          clear hcl hml
          obtain ⟨y0, y1, y2⟩ := set3c wr w.heap.size (.string ty) (.string id) (.slice va acc.length vc) z0 z1 z2
          by_cases hlt : a < s.size
          · have hd := head_byte s a hlt
            have hltI : (a : Int) < (s.size : Int) := by omega
            by_cases h46 : s[a] = 46
            · have g46 : ((s[a].toNat : Int) == 46) = true := by rw [h46]; rfl
              have hsz : (s.extract (a + 1) s.size).size ≤ 1048576 := by rw [ByteArray.size_extract]; omega
              have HRN : Hid (Calls Tryz.prog 105 #[.string (s.extract (a + 1) s.size)] wr fun e w' => e = .returned (.int .i64 (runL (s.data.toList.drop (a + 1)) : Nat)) ∧ w' = wr) := by rw [← tail_list]; exact srunL wr (s.extract (a + 1) s.size) hsz
              have hrl := runL_le (s.data.toList.drop (a + 1))
              rw [List.length_drop, data_len] at hrl
              rw [h46] at hd
              by_cases hn : runL (s.data.toList.drop (a + 1)) = 0
              · have HX : Hid (prP s = none) := HNO.out (by rw [← HCL.out, hd]; exact clsR_bad _ _ (Or.inl hn))
                rw [hn] at HRN
                clear hd hrl h46 hn
                go_wp2_with (go_at_call 105; refine HRN.out.mono ?_; rintro e w' ⟨rfl, hq⟩; have hq2 := hq.symm; clear hq; subst hq2)
                refine bodyPost_ret (v := .tuple #[.agg #[.string ty, .string id, .slice va acc.length vc], .bool false]) (by simp [results, Tryz.results114, go_sem, y0, y1, y2]) rfl ⟨Or.inr ⟨HX.out, _, _, _, _, _, rfl⟩, ?_⟩
                exact HST.out.out _ _ _
              · by_cases h4 : acc.length = 4
                · have HX : Hid (prP s = none) := HNO.out (by rw [← HCL.out, hd]; exact clsR_bad _ _ (Or.inr h4))
                  generalize runL (s.data.toList.drop (a + 1)) = n at *
                  have hn0 : ((n : Int) == 0) = false := by simp; omega
                  have g4 : ((acc.length : Int) == 4) = true := by rw [h4]; rfl
                  clear hd hrl h46 hn h4
                  go_wp2_with (go_at_call 105; refine HRN.out.mono ?_; rintro e w' ⟨rfl, hq⟩; have hq2 := hq.symm; clear hq; subst hq2)
                  refine bodyPost_ret (v := .tuple #[.agg #[.string ty, .string id, .slice va acc.length vc], .bool false]) (by simp [results, Tryz.results114, go_sem, y0, y1, y2]) rfl ⟨Or.inr ⟨HX.out, _, _, _, _, _, rfl⟩, ?_⟩
                  exact HST.out.out _ _ _
                · have HST2 : Hid (clsR (s.data.toList.drop (a + 1 + runL (s.data.toList.drop (a + 1)))) (acc ++ [(s.data.toList.drop (a + 1)).take (runL (s.data.toList.drop (a + 1)))]) = clsR (s.data.toList.drop a2) []) := by
                    show _ = _
                    rw [← HCL.out, hd, clsR_step _ _ hn h4, List.drop_drop]
                  have HMP : Hid ((acc ++ [(s.data.toList.drop (a + 1)).take (runL (s.data.toList.drop (a + 1)))]).map bA = acc.map bA ++ [s.extract (a + 1) (a + 1 + runL (s.data.toList.drop (a + 1)))]) := by
                    show _ = _
                    rw [List.map_append, ext_mid]; rfl
                  have HLN : Hid ((acc ++ [(s.data.toList.drop (a + 1)).take (runL (s.data.toList.drop (a + 1)))]).length ≤ 4) := by show _ ≤ _; simp; omega
                  generalize acc ++ [(s.data.toList.drop (a + 1)).take (runL (s.data.toList.drop (a + 1)))] = acc2 at *
                  generalize runL (s.data.toList.drop (a + 1)) = n at *
                  have hn0 : ((n : Int) == 0) = false := by simp; omega
                  have g4 : ((acc.length : Int) == 4) = false := by simp; omega
                  have hle : a + 1 + n ≤ s.size := by omega
                  have HML : Hid ((acc.map bA).length = acc.length) := List.length_map ..
                  have HF : Hid ((acc.map bA).length ≤ 2000000 ∧ IntKind.i64.wrap ((a : Int) + 1) = (a : Int) + 1 ∧ IntKind.i64.wrap ((a : Int) + 1 + (n : Int)) = (a : Int) + 1 + (n : Int) ∧ (0 : Int) ≤ (a : Int) + 1 ∧ (a : Int) + 1 ≤ (a : Int) + 1 + (n : Int) ∧ (a : Int) + 1 + (n : Int) ≤ (s.size : Int) ∧ ((a : Int) + 1).toNat = a + 1 ∧ ((a : Int) + 1 + (n : Int)).toNat = a + 1 + n) :=
                    ⟨by rw [List.length_map]; omega, IntWalk.i64_in _ (by omega), IntWalk.i64_in _ (by omega), by omega, by omega, by omega, by omega, by omega⟩
                  clear hd hrl h46 y0 y1 y2
                  go_wp2_with (go_at_call 105; refine HRN.out.mono ?_; rintro e w' ⟨rfl, hq⟩; have hq2 := hq.symm; clear hq; subst hq2)
                  have HBX : Hid (CvP (w.heap.size + 1) wr.drew ty id (.slice va (acc.map bA).length vc) (acc.map bA)) := by
                    show CvP _ _ _ _ _ _
                    rw [HML.out]; exact CvP.nw HST.out.box ((Below.refl _ _).drew)
                  refine reg_change (ops' := opsOf 22 Tryz.f114) (by kernel_rfl) ?_
                  refine SP22.run ⟨w.heap.size + 1, ty, id, va, vc, acc.map bA, s, a, n, wr.drew, _⟩ ⟨HBX.out, HF.out.1, HF.out.2.1, HF.out.2.2.1, hle, HF.out.2.2.2.1, HF.out.2.2.2.2.1, HF.out.2.2.2.2.2.1, HF.out.2.2.2.2.2.2.1, HF.out.2.2.2.2.2.2.2, rfl, rfl, rfl, rfl, rfl⟩ wr (Below.refl _ _) ?_
                  rintro γ w9 ⟨w7, w8, k1, o1, y1, rfl⟩
                  simp only at o1 y1 k1 ⊢
                  rw [HML.out] at y1
                  have HPT : Hid _ := PSt.put ((HST.out.go ((Below.refl _ _).drew)).go k1) y1 o1
                  rw [← HMP.out] at HPT o1
                  generalize γ 1 = v' at *
                  generalize γ 0 = v0 at *
                  obtain ⟨sa, sc, g1⟩ := o1.slice
                  subst g1
                  clear o1 y1 k1 b0 b1 b2 bf z0 z1 z2 zf
                  simp only [Act.put, List.setIfInBounds_toArray, List.set_cons_zero, List.set_cons_succ]
                  generalize (acc2.map bA).length = M at *
                  go_wp2
                  go_roundw
                  case rel => exact ⟨a + 1 + n, acc2, _, by go_num, hle, HLN.out, HST2.out, HPT.out⟩
                  case measure => simp [intOf]; omega
            · have g46 : ((s[a].toNat : Int) == 46) = false := byte_no 46 (by omega) h46
              have HX : Hid (prP s = none) := HNO.out (by rw [← HCL.out, hd]; exact clsR_other _ _ _ h46)
              have hne : ((a : Int) == (s.size : Int)) = false := by simp; omega
              clear hd h46
              go_wp2
              refine bodyPost_ret (v := .tuple #[.agg #[.string ty, .string id, .slice va acc.length vc], .bool false]) (by simp [results, Tryz.results114, go_sem, y0, y1, y2]) rfl ⟨Or.inr ⟨HX.out, _, _, _, _, _, rfl⟩, ?_⟩
              exact HST.out.out _ _ _
          · have hltI : ¬ ((a : Int) < (s.size : Int)) := by omega
            have hae : a = s.size := by omega
            have HX : Hid (prP s = some ⟨ty, id, acc.map bA⟩) := HYES.out acc (by rw [← HCL.out, List.drop_eq_nil_of_le (by rw [data_len]; omega)]; rfl)
            have hne : ((a : Int) == (s.size : Int)) = true := by simp; omega
            have HML : Hid ((acc.map bA).length = acc.length) := List.length_map ..
            have h9 := PSt.done (va := va) (vc := vc) (D := acc.map bA) (w9 := wr) (w := w) (ty := ty) (id := id) (by rw [HML.out]; exact HST.out) (.string ty) (.string id) (.slice va acc.length vc)
            rw [HML.out] at h9
            have HDN : Hid (RowM 1 EStr (((wr.setCell ⟨w.heap.size, 0, none⟩ (.string ty)).setCell ⟨w.heap.size, 1, none⟩ (.string id)).setCell ⟨w.heap.size, 2, none⟩ (.slice va acc.length vc)) (.slice va acc.length vc) (acc.map bA) (iv w (((wr.setCell ⟨w.heap.size, 0, none⟩ (.string ty)).setCell ⟨w.heap.size, 1, none⟩ (.string id)).setCell ⟨w.heap.size, 2, none⟩ (.slice va acc.length vc)))) := h9
            clear h9
            clear hae
            go_wp2
            refine bodyPost_ret (v := .tuple #[.agg #[.string ty, .string id, .slice va acc.length vc], .bool true]) (by simp [results, Tryz.results114, go_sem, y0, y1, y2]) rfl ⟨Or.inl ⟨⟨ty, id, acc.map bA⟩, _, HX.out, rfl, HDN.out⟩, ?_⟩
            exact HST.out.out _ _ _
end Go.Proofs.YtnkmdmmlpidcmaaGreatDoor
namespace Go.Proofs.YtnkmdmmlpidcmaaGreatDoor
open Go.ChangeShapes Go.WideShapes Go.ChangeAt Go.RowKit
set_option linter.unusedVariables false

/-- Parts that have been read. -/
def OutS (w wr : World) (v : Value) (ws : List ByteArray) : Prop := ∃ els : List (El PD), RowO 67 3 EPart wr w.heap.size v els ∧ els.map El.x = ws.map prD ∧ ws.all okW = true ∧ els.length ≤ 5
theorem OutS.len {ws : List ByteArray} {els : List (El PD)} (h : els.map El.x = ws.map prD) : els.length = ws.length := by
  have := congrArg List.length h
  simpa using this
set_option maxHeartbeats 16000000 in
theorem sselector (w : World) (s : ByteArray) (hs : s.size ≤ 1048576) :
    Calls Tryz.prog 82 #[.string s] w fun e w' => SelSays s w w' e ∧ Nw w w' := by
  go_enter Tryz.func82, Tryz.ntmps82
  go_wp2
  go_loopw [4, 5, 6] (fun v x i wr => Nw w wr ∧ ((∃ pos st acc, i = .int .i64 (pos : Nat) ∧ x = .string (opnT s st pos) ∧ WdSt s pos st acc ∧ OutS w wr v (cutT s acc)) ∨ (i = .int .i64 ((s.size + 1 : Nat) : Int) ∧ OutS w wr v (wordsOf s)))) (fun _ _ i _ => s.size + 2 - (intOf i).toNat)
  case atStart => exact ⟨Below.refl _ _, Or.inl ⟨0, none, [], rfl, rfl, WdSt.start s, [], RowO.nil _ _ _ _ _, rfl, rfl, Nat.zero_le _⟩⟩
  case round =>
    obtain ⟨hw, ⟨pos, st, acc, rfl, rfl, hst, hv⟩ | ⟨rfl, hv⟩⟩ := hrel
    · have HW : Hid (Nw w wr) := hw
      have HV : Hid (OutS w wr _ (cutT s acc)) := hv
      obtain ⟨els, hro, hmx, hall, hle⟩ := hv
      have HCL : Hid ((cutT s acc).length = els.length) := (OutS.len hmx).symm
      obtain ⟨va, vc, hvv⟩ := hro.slice
      subst hvv
      have HR : Hid (RowO 67 3 EPart wr w.heap.size (.slice va els.length vc) els) := hro
      have HM : Hid (els.map El.x = (cutT s acc).map prD) := hmx
      have HA : Hid ((cutT s acc).all okW = true) := hall
      have HLE : Hid (els.length ≤ 5) := hle
      have hpos := hst.le
      clear hw hro hmx hall hle
      by_cases hlt : pos < s.size
      · have hby := byN_of s pos hlt
        have h255 : s[pos].toNat ≤ 255 := by have := UInt8.toNat_lt s[pos]; omega
        cases hb : blankN (byN s pos)
        · have hb' : blankN s[pos].toNat = false := by rw [← hby]; exact hb
          cases st with
          | none =>
            have HS : Hid (WdSt s (pos + 1) (some pos) acc) := hst.word_none hlt hb
            have HE : Hid ((⟨#[]⟩ : ByteArray) ++ s.extract pos (pos + 1) = s.extract pos (pos + 1)) := by show _ = _; exact ByteArray.empty_append
            have he0 : opnT s none pos = ⟨#[]⟩ := rfl
            rw [he0]
            clear hst hb hby
            have hsz : (s.extract pos (pos + 1)).size ≤ 1048576 := by rw [ByteArray.size_extract]; omega
            go_wp2_with (go_at_call 106; refine (sblank _ _ h255).mono ?_; rw [hb']; rintro e w' ⟨rfl, hq⟩; have hq2 := hq.symm; clear hq; subst hq2)
            go_roundw
            case rel => exact ⟨HW.out, Or.inl ⟨pos + 1, some pos, acc, by go_num, by first | rfl | (rw [HE.out]; rfl), HS.out, HV.out⟩⟩
            case measure => simp [intOf]; try omega
          | some a =>
            have ha := hst.open_ a rfl
            have HS : Hid (WdSt s (pos + 1) (some a) acc) := hst.word_some hlt hb
            have HE : Hid (s.extract a pos ++ s.extract pos (pos + 1) = s.extract a (pos + 1)) := by show _ = _; exact (ByteArray.extract_eq_extract_append_extract pos (by omega) (by omega)).symm
            have he0 : opnT s (some a) pos = s.extract a pos := rfl
            rw [he0]
            clear hst hb hby
            have hsz : (s.extract pos (pos + 1)).size ≤ 1048576 := by rw [ByteArray.size_extract]; omega
            have hsz2 : (s.extract a pos).size ≤ 1048576 := by rw [ByteArray.size_extract]; omega
            generalize hX : s.extract a pos = X at *
            go_wp2_with (go_at_call 106; refine (sblank _ _ h255).mono ?_; rw [hb']; rintro e w' ⟨rfl, hq⟩; have hq2 := hq.symm; clear hq; subst hq2)
            go_roundw
            case rel => exact ⟨HW.out, Or.inl ⟨pos + 1, some a, acc, by go_num, by rw [HE.out]; rfl, HS.out, HV.out⟩⟩
            case measure => simp [intOf]; try omega
        · have hb' : blankN s[pos].toNat = true := by rw [← hby]; exact hb
          cases st with
          | none =>
            have HS : Hid (WdSt s (pos + 1) none acc) := hst.blank_none hlt hb
            have he0 : opnT s none pos = ⟨#[]⟩ := rfl
            rw [he0]
            clear hst hb hby
            go_wp2_with (go_at_call 106; refine (sblank _ _ h255).mono ?_; rw [hb']; rintro e w' ⟨rfl, hq⟩; have hq2 := hq.symm; clear hq; subst hq2)
            go_roundw
            case rel => exact ⟨HW.out, Or.inl ⟨pos + 1, none, acc, by go_num, rfl, HS.out, HV.out⟩⟩
            case measure => simp [intOf]; try omega
          | some a =>
            have ha := hst.open_ a rfl
            have HS : Hid (WdSt s (pos + 1) none (acc ++ [(a, pos)])) := hst.blank_some hlt hb
            have HPRE : Hid (cutT s acc ++ [s.extract a pos] <+: wordsOf s) := by show _ <+: _; rw [← cutT_snoc]; exact HS.out.pre
            have he0 : opnT s (some a) pos = s.extract a pos := rfl
            rw [he0]
            have hsz2 : 0 < (s.extract a pos).size := by rw [ByteArray.size_extract]; omega
            have hsz : (s.extract a pos).size ≤ 1048576 := by rw [ByteArray.size_extract]; omega
            have n1 := ne_nil hsz2
            have n2 := ne_emp hsz2
            have HC : Hid (cutT s (acc ++ [(a, pos)]) = cutT s acc ++ [s.extract a pos]) := cutT_snoc s acc a pos
            clear hst hb hby hsz2 HV
            generalize s.extract a pos = X at *
            go_wp2_with (go_at_call 106; refine (sblank _ _ h255).mono ?_; rw [hb']; rintro e w' ⟨rfl, hq⟩; have hq2 := hq.symm; clear hq; subst hq2)
            skip
            refine Calls.mono (spart _ X hsz) ?_
            rintro e w2 ⟨⟨p, u, hp, rfl, hu⟩ | ⟨hp, tx, ty, ta, tn, tc, rfl⟩, k2⟩
            · obtain ⟨hd, hok⟩ := prD_of hp
              by_cases h5 : els.length = 5
              · have HX : Hid (selOkW (wordsOf s) = false) := selOkW_many (by have := HPRE.out.length_le; rw [List.length_append, HCL.out, h5] at this; simp at this; omega)
                have HN2 : Hid (Nw w w2) := Nw.trans HW.out k2
                obtain ⟨ua, uc, rfl, _⟩ := hu.slice
                have g5 : ((els.length : Int) == 5) = true := by rw [h5]; rfl
                clear hu k2 hp hd hok h5
                go_wp2
                go_ret2
                refine ⟨⟨.slice none 0 0, by rw [selOk, HX.out]; rfl, by rw [selL, selLW_no HX.out]; exact RowM.nil _ _ _ _⟩, ?_⟩
                exact HN2.out.alloc (Below.size HN2.out) _
              · obtain ⟨ua, uc, rfl, _⟩ := hu.slice
                have HU : Hid (RowM 1 EStr w2 (.slice ua p.cls.length uc) p.cls (iv wr w2)) := hu
                have HK2 : Hid (Nw wr w2) := k2
                have HD : Hid (prD X = p) := hd
                have HOK : Hid (okW X = true) := hok
                have g5 : ((els.length : Int) == 5) = false := by simp; omega
                have HL6 : Hid (els.length + 1 ≤ 5) := by show _ ≤ _; have := HLE.out; omega
                clear hu k2 hp hd hok h5
                have HNA : ∀ o1 o2, Hid (Nw wr ((w2.alloc o1).alloc o2)) := fun o1 o2 => Nw.trans HK2.out (((Below.refl _ _).alloc (Nat.le_refl _) _).alloc (by simp) _)
                have HEP : ∀ o1 o2, Hid (EPart ((w2.alloc o1).alloc o2) [.string p.ty, .string p.id, .slice ua p.cls.length uc] p (iv wr ((w2.alloc o1).alloc o2))) := fun o1 o2 => ⟨_, rfl, (HU.out.nw EStr.kept (((Below.refl _ _).alloc (Nat.le_refl _) _).alloc (by simp) _)).mono (iv_mono (by simp; omega))⟩
                go_wp2_with (at_builtin; (refine wp_rw EPart.kept Tryz.underlying34 Tryz.info67 rfl (by decide) (by decide) wr _ rfl _ _ rfl w.heap.size _ els rfl HR.out (HNA _ _).out (Below.size HW.out) _ rfl p [.string p.ty, .string p.id, .slice ua p.cls.length uc] ?c1 rfl ?c2 (HEP _ _).out (by have := HL6.out; omega) ?_))
                case c1 =>
                  intro j y hj
                  rcases (show j = 0 ∨ j = 1 ∨ j = 2 ∨ 3 ≤ j by omega) with rfl | rfl | rfl | h
                  · simp at hj; subst hj; simp
                  · simp at hj; subst hj; simp
                  · simp at hj; subst hj; simp
                  · rw [List.getElem?_eq_none (by simpa using h)] at hj; cases hj
                case c2 =>
                  intro y hy
                  simp only [List.mem_cons, List.not_mem_nil, or_false] at hy
                  rcases hy with rfl | rfl | rfl <;> rfl
                intro v' w' h1 h2
                have HN : Hid (Nw w w') := Below.trans (HW.out.trans (HNA _ _).out) (Ext.below h2 (fun g e => (HR.out.lt g e).1) (Nat.le_trans (Below.size HW.out) (Below.size (HNA _ _).out)))
                have H1 : Hid _ := h1
                have HMX : Hid (∀ e : El PD, e.x = p → (els ++ [e]).map El.x = (cutT s acc ++ [X]).map prD) := by
                  intro e he
                  rw [List.map_append, List.map_append, HM.out]
                  show _ ++ [e.x] = _ ++ [prD X]
                  rw [HD.out, he]
                have HAX : Hid ((cutT s acc ++ [X]).all okW = true) := by show _ = _; rw [List.all_append, HA.out]; simp [HOK.out]
                clear h1 h2
                go_wp2
                go_roundw
                case rel => exact ⟨HN.out, Or.inl ⟨pos + 1, none, _, by go_num, rfl, HS.out, _, H1.out, by rw [HC.out]; exact HMX.out _ rfl, by rw [HC.out]; exact HAX.out, by rw [List.length_append]; exact HL6.out⟩⟩
                case measure => simp [intOf]; try omega
            · have HX : Hid (selOkW (wordsOf s) = false) := selOkW_bad (HPRE.out.subset (List.mem_append_right _ (List.mem_singleton.2 rfl))) (okW_no hp)
              have HN2 : Hid (Nw w w2) := Nw.trans HW.out k2
              clear k2 hp
              go_wp2
              go_ret2
              refine ⟨⟨.slice none 0 0, by rw [selOk, HX.out]; rfl, by rw [selL, selLW_no HX.out]; exact RowM.nil _ _ _ _⟩, ?_⟩
              exact HN2.out.alloc (Below.size HN2.out) _
      · have e : pos = s.size := by omega
        cases st with
        | none =>
          have HE : Hid (wordsOf s = cutT s acc) := hst.end_none hlt
          have he0 : opnT s none pos = ⟨#[]⟩ := rfl
          rw [he0]
          subst e
          clear hst
          go_wp2
          go_roundw
          case rel => exact ⟨HW.out, Or.inr ⟨by go_num, by rw [HE.out]; exact HV.out⟩⟩
          case measure => simp [intOf]; try omega
        | some a =>
          have ha := hst.open_ a rfl
          have HE : Hid (wordsOf s = cutT s acc ++ [s.extract a pos]) := hst.end_some hlt
          have HPRE : Hid (cutT s acc ++ [s.extract a pos] <+: wordsOf s) := by show _ <+: _; rw [HE.out]; exact List.prefix_refl _
          have he0 : opnT s (some a) pos = s.extract a pos := rfl
          rw [he0]
          have hsz2 : 0 < (s.extract a pos).size := by rw [ByteArray.size_extract]; omega
          have hsz : (s.extract a pos).size ≤ 1048576 := by rw [ByteArray.size_extract]; omega
          have n1 := ne_nil hsz2
          have n2 := ne_emp hsz2
          clear hst hsz2 HV
          generalize s.extract a pos = X at *
          subst e
          go_wp2_with fail
          skip
          refine Calls.mono (spart _ X hsz) ?_
          rintro e w2 ⟨⟨p, u, hp, rfl, hu⟩ | ⟨hp, tx, ty, ta, tn, tc, rfl⟩, k2⟩
          · obtain ⟨hd, hok⟩ := prD_of hp
            by_cases h5 : els.length = 5
            · have HX : Hid (selOkW (wordsOf s) = false) := selOkW_many (by have := HPRE.out.length_le; rw [List.length_append, HCL.out, h5] at this; simp at this; omega)
              have HN2 : Hid (Nw w w2) := Nw.trans HW.out k2
              obtain ⟨ua, uc, rfl, _⟩ := hu.slice
              have g5 : ((els.length : Int) == 5) = true := by rw [h5]; rfl
              clear hu k2 hp hd hok h5
              go_wp2
              go_ret2
              refine ⟨⟨.slice none 0 0, by rw [selOk, HX.out]; rfl, by rw [selL, selLW_no HX.out]; exact RowM.nil _ _ _ _⟩, ?_⟩
              exact HN2.out.alloc (Below.size HN2.out) _
            · obtain ⟨ua, uc, rfl, _⟩ := hu.slice
              have HU : Hid (RowM 1 EStr w2 (.slice ua p.cls.length uc) p.cls (iv wr w2)) := hu
              have HK2 : Hid (Nw wr w2) := k2
              have HD : Hid (prD X = p) := hd
              have HOK : Hid (okW X = true) := hok
              have g5 : ((els.length : Int) == 5) = false := by simp; omega
              have HL6 : Hid (els.length + 1 ≤ 5) := by show _ ≤ _; have := HLE.out; omega
              clear hu k2 hp hd hok h5
              have HNA : ∀ o1 o2, Hid (Nw wr ((w2.alloc o1).alloc o2)) := fun o1 o2 => Nw.trans HK2.out (((Below.refl _ _).alloc (Nat.le_refl _) _).alloc (by simp) _)
              have HEP : ∀ o1 o2, Hid (EPart ((w2.alloc o1).alloc o2) [.string p.ty, .string p.id, .slice ua p.cls.length uc] p (iv wr ((w2.alloc o1).alloc o2))) := fun o1 o2 => ⟨_, rfl, (HU.out.nw EStr.kept (((Below.refl _ _).alloc (Nat.le_refl _) _).alloc (by simp) _)).mono (iv_mono (by simp; omega))⟩
              go_wp2_with (at_builtin; (refine wp_rw EPart.kept Tryz.underlying34 Tryz.info67 rfl (by decide) (by decide) wr _ rfl _ _ rfl w.heap.size _ els rfl HR.out (HNA _ _).out (Below.size HW.out) _ rfl p [.string p.ty, .string p.id, .slice ua p.cls.length uc] ?c1 rfl ?c2 (HEP _ _).out (by have := HL6.out; omega) ?_))
              case c1 =>
                intro j y hj
                rcases (show j = 0 ∨ j = 1 ∨ j = 2 ∨ 3 ≤ j by omega) with rfl | rfl | rfl | h
                · simp at hj; subst hj; simp
                · simp at hj; subst hj; simp
                · simp at hj; subst hj; simp
                · rw [List.getElem?_eq_none (by simpa using h)] at hj; cases hj
              case c2 =>
                intro y hy
                simp only [List.mem_cons, List.not_mem_nil, or_false] at hy
                rcases hy with rfl | rfl | rfl <;> rfl
              intro v' w' h1 h2
              have HN : Hid (Nw w w') := Below.trans (HW.out.trans (HNA _ _).out) (Ext.below h2 (fun g e => (HR.out.lt g e).1) (Nat.le_trans (Below.size HW.out) (Below.size (HNA _ _).out)))
              have H1 : Hid _ := h1
              have HMX : Hid (∀ e : El PD, e.x = p → (els ++ [e]).map El.x = (cutT s acc ++ [X]).map prD) := by
                intro e he
                rw [List.map_append, List.map_append, HM.out]
                show _ ++ [e.x] = _ ++ [prD X]
                rw [HD.out, he]
              have HAX : Hid ((cutT s acc ++ [X]).all okW = true) := by show _ = _; rw [List.all_append, HA.out]; simp [HOK.out]
              clear h1 h2
              go_wp2
              go_roundw
              case rel => exact ⟨HN.out, Or.inr ⟨by go_num, _, H1.out, by rw [HE.out]; exact HMX.out _ rfl, by rw [HE.out]; exact HAX.out, by rw [List.length_append]; exact HL6.out⟩⟩
              case measure => simp [intOf]; try omega
          · have HX : Hid (selOkW (wordsOf s) = false) := selOkW_bad (HPRE.out.subset (List.mem_append_right _ (List.mem_singleton.2 rfl))) (okW_no hp)
            have HN2 : Hid (Nw w w2) := Nw.trans HW.out k2
            clear k2 hp
            go_wp2
            go_ret2
            refine ⟨⟨.slice none 0 0, by rw [selOk, HX.out]; rfl, by rw [selL, selLW_no HX.out]; exact RowM.nil _ _ _ _⟩, ?_⟩
            exact HN2.out.alloc (Below.size HN2.out) _
    · have HW : Hid (Nw w wr) := hw
      obtain ⟨els, hro, hmx, hall, hle⟩ := hv
      have hcl := OutS.len hmx
      obtain ⟨va, vc, hvv⟩ := hro.slice
      subst hvv
      have HR : Hid (RowO 67 3 EPart wr w.heap.size (.slice va els.length vc) els) := hro
      obtain ⟨e1, e2⟩ := selW_end (by omega) hall
      have HE1 : Hid (selOkW (wordsOf s) = decide (0 < els.length)) := by show _ = _; rw [e1, hcl]
      have HE2 : Hid (els.map El.x = selLW (wordsOf s)) := by show _ = _; rw [e2, hmx]
      clear hw hro hmx hall hle e1 e2 hcl
      have hgt : ¬ (((s.size + 1 : Nat) : Int) ≤ (s.size : Int)) := by omega
      generalize hn : els.length = n at *
      have HNN : Hid (els.length = n) := hn
      clear hn
      go_wp2
      go_ret2
      refine ⟨⟨_, by rw [selOk, HE1.out]; first | rfl | simp, ?_⟩, HW.out⟩
      rw [selL, ← HE2.out]
      exact RowO.row HR.out (fun b h1 h2 => ⟨h1, h2⟩)
end Go.Proofs.YtnkmdmmlpidcmaaGreatDoor
namespace Go.Proofs.YtnkmdmmlpidcmaaGreatDoor
open Go.ChangeShapes Go.WideShapes Go.ChangeAt Go.RowKit
set_option linter.unusedVariables false

theorem RowO.setB {t : TypeId} {n : Nat} {α : Type} {E : Els α} (hE : KeptE E) {w : World} {B : Nat} {v : Value} {els : List (El α)} (h : RowO t n E w B v els) {g : Nat} (hg : g < B) (o : Nat) (u : Value) : RowO t n E (w.setCell ⟨g, o, none⟩ u) B v els := by
  have hs : (w.setCell ⟨g, o, none⟩ u).heap.size = w.heap.size := by simp [World.setCell]
  refine ⟨World.ownsRow.kept h.own (row := some g) set_grown (Or.inr (by intro e; have := (h.lt g e).1; omega)), fun e he => ?_, h.apart⟩
  obtain ⟨h1, h2, h3⟩ := h.el e he
  refine ⟨hE _ _ _ _ _ (fun x => x = g) h1 (Wr.set (F := fun x => x = g) (Wr.refl _ w) rfl o u) (fun x hx hf => ?_), h2, fun x hx => ?_⟩
  · have := (h3 x hx).1; omega
  · obtain ⟨a, c, d⟩ := h3 x hx
    exact ⟨a, by omega, d⟩
/-- A rule in a variable. -/
def Bx (w : World) (B : Nat) (u d : Value) : Prop := w.heap[B]? = some (.cells #[u, d] 32)
theorem Bx.lt {w : World} {B : Nat} {u d : Value} (h : Bx w B u d) : B < w.heap.size := by
  unfold Bx at h
  exact (Array.getElem?_eq_some_iff.1 h).1
theorem Bx.c0 {w : World} {B : Nat} {u d : Value} (h : Bx w B u d) : w.cell? ⟨B, 0, none⟩ = some u := by
  unfold Bx at h; simp [World.cell?, h]
theorem Bx.c1 {w : World} {B : Nat} {u d : Value} (h : Bx w B u d) : w.cell? ⟨B, 1, none⟩ = some d := by
  unfold Bx at h; simp [World.cell?, h]
theorem Bx.fz {w : World} {B : Nat} {u d : Value} (h : Bx w B u d) (o : Nat) : w.frozen? ⟨B, o, none⟩ = false := by
  unfold Bx at h; simp [World.frozen?, h]
theorem Bx.alloc (w : World) (u d : Value) : Bx (w.alloc (.cells #[u, d] 32)) w.heap.size u d := by
  show (w.heap.push _)[w.heap.size]? = _
  simp
theorem Bx.nw {w w' : World} {B : Nat} {u d : Value} (h : Bx w B u d) (k : Nw w w') : Bx w' B u d := (Below.block k B h.lt).trans h
theorem Bx.ext {w w' : World} {B : Nat} {u d v v' : Value} (h : Bx w B u d) (k : Ext v v' w w') (hv : v.ownBlock ≠ some B) : Bx w' B u d := (k.1.block B h.lt (fun e => hv e.symm)).trans h
theorem Bx.set {w : World} {B : Nat} {u d : Value} (h : Bx w B u d) (v : Value) : Bx (w.setCell ⟨B, 0, none⟩ v) B v d := by
  have hl := h.lt
  unfold Bx at h ⊢
  obtain ⟨_, h2⟩ := Array.getElem?_eq_some_iff.1 h
  rw [Array.getElem?_eq_some_iff]
  refine ⟨by simpa [World.setCell] using hl, ?_⟩
  simp [World.setCell, Array.getElem_modify_self, h2]
/-- What the reading of a rule's selectors may write: its variable, and what came behind. -/
def Fb (B n : Nat) : Nat → Prop := fun x => x = B ∨ n ≤ x
theorem Txs.strsW {w : World} {Bb : Nat} {v : Value} {l : List ByteArray} (h : Txs w Bb v l) : ∃ a c, v = .slice a l.length c ∧ ∀ wq B, B < Bb → Wr (Fb B w.heap.size) w wq → Strs wq a l := by
  rcases h.lay with ⟨rfl, rfl⟩ | ⟨g, c, rfl, hg, hl⟩
  · exact ⟨none, 0, rfl, fun _ _ _ _ => Or.inl rfl⟩
  · refine ⟨_, c, rfl, fun wq B hB k => Or.inr ⟨g, 0, rfl, Nat.lt_of_lt_of_le hl.1 k.size, fun i hi => ?_⟩⟩
    have hb := k.block g hl.1 (by intro e; have := hl.1; rcases e with e | e <;> omega)
    have := hl.2.1 i hi
    rw [Nat.zero_add, ← this]
    unfold World.cell?
    simp only [hb]

set_option maxHeartbeats 8000000 in
theorem ssheetL (s : ByteArray) (w : World) (hs : s.size ≤ 1048576) :
    Calls Tryz.prog 42 #[.string s] w fun e w' => RulesSays (bareB s) w w' e ∧ Nw w w' := by
  have hbs : (bareB s).size ≤ 1048576 := Nat.le_trans (bareB_size s) hs
  have HSB : Hid (Calls Tryz.prog 78 #[.string s] w fun e w' => e = .returned (.string (bareB s)) ∧ w' = w) := sbare s w hs
  clear hs
  generalize bareB s = b at *
  go_enter Tryz.func42, Tryz.ntmps42
  go_wp2_with fail
  refine Calls.mono HSB.out ?_
  rintro e w1 ⟨rfl, hq⟩
  have hq2 := hq.symm; clear hq; subst hq2
  clear HSB
  go_wp2
  go_loopw [3, 4] (fun v i wr => ∃ (k : Nat) (els : List (El RD)), i = .int .i64 k ∧ k ≤ b.size + 1 ∧ RowO 32 2 ERule wr w.heap.size v els ∧ RuSt b (b.data.toList.drop k) (els.map El.x) ∧ Nw w wr) (fun _ i _ => b.size + 1 - (intOf i).toNat)
  case atStart => exact ⟨0, [], rfl, Nat.zero_le _, RowO.nil _ _ _ _ _, RuSt.start b, Below.refl _ _⟩
  case round =>
    obtain ⟨k, els, rfl, hk, hro, hst, hw⟩ := hrel
    have h30 : els.length ≤ 30 := by have := hst.le; simpa using this
    obtain ⟨va, vc, hv⟩ := hro.slice
    subst hv
    have HR : Hid (RowO 32 2 ERule wr w.heap.size (.slice va els.length vc) els) := hro
    have HST : Hid (RuSt b (b.data.toList.drop k) (els.map El.x)) := hst
    have HW : Hid (Nw w wr) := hw
    clear hro hst hw
    by_cases hlt : k < b.size
    · have hltI : (k : Int) < (b.size : Int) := by omega
      by_cases hm : fndB 123 b k < b.size
      · obtain ⟨e1, e2, e3, g1, g2, hbr⟩ := sh_cut (Nat.le_of_lt hlt) hm
        have g3 := fndB_le (c := 125) (Nat.le_of_lt hm)
        have HF1 : Hid (Calls Tryz.prog 79 #[.string b, .int .i64 (k : Int), .int .u8 123] wr fun e w' => e = .returned (.int .i64 (fndB 123 b k : Nat)) ∧ w' = wr) := sfind b 123 k wr (Nat.le_of_lt hlt) hbs
        have HF2 : Hid (Calls Tryz.prog 79 #[.string b, .int .i64 (fndB 123 b k : Nat), .int .u8 125] wr fun e w' => e = .returned (.int .i64 (fndB 125 b (fndB 123 b k) : Nat)) ∧ w' = wr) := sfind b 125 (fndB 123 b k) wr (Nat.le_of_lt hm) hbs
        generalize fndB 125 b (fndB 123 b k) = en at *
        generalize fndB 123 b k = op at *
        have HX : Hid (RuSt b (b.data.toList.drop k) (els.map El.x) ∧ brk 123 (b.data.toList.drop k) < (b.data.toList.drop k).length ∧ b.extract k op = bA (aheadL (b.data.toList.drop k)) ∧ b.extract (op + 1) en = bA (insideL (b.data.toList.drop k)) ∧ b.data.toList.drop (en + 1) = restL (b.data.toList.drop k)) := ⟨HST.out, hbr, e1, e2, e3⟩
        clear e1 e2 e3 hbr HST
        have hne : ((op : Int) == (b.size : Int)) = false := by rw [beq_eq_false_iff_ne]; omega
        go_wp2_with fail
        refine Calls.mono HF1.out ?_
        rintro e w1 ⟨rfl, hq⟩
        have hq2 := hq.symm; clear hq; subst hq2
        clear HF1
        go_wp2_with fail
        refine Calls.mono HF2.out ?_
        rintro e w1 ⟨rfl, hq⟩
        have hq2 := hq.symm; clear hq; subst hq2
        clear HF2
        have hil : (b.extract (op + 1) en).size ≤ 1048576 := by rw [ByteArray.size_extract]; omega
        have hal : (b.extract k op).size ≤ 1048576 := by rw [ByteArray.size_extract]; omega
        go_wp2_with fail
        refine Calls.mono (sdecls (b.extract (op + 1) en) _ hil) ?_
        rintro e w2 ⟨⟨d, rfl, hd⟩, k2⟩
        obtain ⟨da, dc, hde, _⟩ := hd.slice
        subst hde
        have HK2 : Hid (Nw wr w2) := k2
        have HD : Hid (RowM 3 EDecl w2 (.slice da (dcs (pcB 59 (b.extract (op + 1) en))).length dc) (dcs (pcB 59 (b.extract (op + 1) en))) (iv wr w2)) := hd
        clear hd k2
        have HPL : Hid (∀ i, (strAt (pcB 44 (b.extract k op)) i).size ≤ 1048576) := fun i => pcB_size 44 _ hal i
        have hpl : (pcB 44 (b.extract k op)).length ≤ 1048577 := by rw [pcB_len]; have := count_le_size 44 (b.extract k op); omega
        have HSP : Hid (∀ wx, Calls Tryz.prog 81 #[.string (b.extract k op), .int .u8 44] wx fun e w' => ∃ v, e = .returned v ∧ Txs w' wx.heap.size v (pcB 44 (b.extract k op)) ∧ Nw wx w') := fun wx => ssplit (b.extract k op) 44 wx hal
        have HSO : Hid (selsOk (b.extract k op) = (pcB 44 (b.extract k op)).all selOk ∧ selsW (b.extract k op) = (pcB 44 (b.extract k op)).map selL) := ⟨rfl, rfl⟩
        generalize pcB 44 (b.extract k op) = ps at *
        generalize hdd : dcs (pcB 59 (b.extract (op + 1) en)) = dd at *
        have HBX0 : Hid (Bx (w2.alloc (.cells #[.slice none 0 0, .slice da dd.length dc] 32)) w2.heap.size (.slice none 0 0) (.slice da dd.length dc)) := Bx.alloc w2 (.slice none 0 0) (.slice da dd.length dc)
        have HA0 : Hid (Nw w2 (w2.alloc (.cells #[.slice none 0 0, .slice da dd.length dc] 32))) := (Below.refl _ _).alloc (Nat.le_refl _) _
        have hz0 : w2.heap.size < (w2.alloc (.cells #[.slice none 0 0, .slice da dd.length dc] 32)).heap.size := by simp
        go_wp2_with fail
        refine Calls.mono (HSP.out _) ?_
        generalize w2.alloc (.cells #[.slice none 0 0, .slice da dd.length dc] 32) = wb at *
        rintro e w3 ⟨v, rfl, hv, k3⟩
        obtain ⟨pa, pc, rfl, hst⟩ := hv.strsW
        have HSTR : Hid (∀ wq, Wr (Fb w2.heap.size w3.heap.size) w3 wq → Strs wq pa ps) := fun wq q => hst wq _ hz0 q
        have HK3 : Hid (Nw wb w3) := k3
        have HBX : Hid (Bx w3 w2.heap.size (.slice none 0 0) (.slice da dd.length dc)) := HBX0.out.nw k3
        have hz3 : w2.heap.size < w3.heap.size := Nat.lt_of_lt_of_le hz0 (Below.size k3)
        clear HSP hv hst k3 HBX0
        go_wp2
        obtain ⟨wo, hwo⟩ : ∃ x, x = wr := ⟨_, rfl⟩
        subst hwo
        have HNO : Hid (∀ wq, Wr (Fb w2.heap.size w3.heap.size) w3 wq → Nw wo wq) := fun wq q => by
          have n3 : Nw wo w3 := Nw.trans HK2.out (Nw.trans HA0.out HK3.out)
          have z2 := Below.size HK2.out
          exact Below.trans n3 (q.below (B := wo.heap.size) (fun x hx => by rcases hx with e | e <;> omega) (Below.size n3))
        go_loopw [8, 42] (fun g i wq => ∃ (j : Nat) (u : Value) (el2 : List (El (List PD))), j ≤ ps.length ∧ i = .int .i64 j ∧ g = .bool ((ps.take j).all selOk) ∧ RowO 34 1 ESel wq w3.heap.size u el2 ∧ el2.map El.x = (ps.take j).map selL ∧ Bx wq w2.heap.size u (.slice da dd.length dc) ∧ Wr (Fb w2.heap.size w3.heap.size) w3 wq) (fun _ i _ => ps.length - (intOf i).toNat)
        case atStart => exact ⟨0, _, [], Nat.zero_le _, rfl, rfl, RowO.nil _ _ _ _ _, rfl, HBX.out, Wr.refl _ _⟩
        case round =>
          obtain ⟨j, u, el2, hj, rfl, rfl, hro2, hmx2, hbx, hwr⟩ := hrel
          obtain ⟨ua, uc, hv⟩ := hro2.slice
          subst hv
          have hel2 : el2.length ≤ 10000000 := by have := congrArg List.length hmx2; simp at this; omega
          have HL2 : Hid (el2.length ≤ 10000000) := hel2
          have HR2 : Hid (RowO 34 1 ESel wr w3.heap.size (.slice ua el2.length uc) el2) := hro2
          have HM2 : Hid (el2.map El.x = (ps.take j).map selL) := hmx2
          have HB2 : Hid (Bx wr w2.heap.size (.slice ua el2.length uc) (.slice da dd.length dc)) := hbx
          have HWR : Hid (Wr (Fb w2.heap.size w3.heap.size) w3 wr) := hwr
          clear hro2 hmx2 hbx hel2
          by_cases hjl : j < ps.length
          · rcases HSTR.out _ hwr with h | ⟨g, o, rfl, hb, hc⟩
            · rw [h] at hjl; simp at hjl
            have q0 := hc j hjl
            have hz := HPL.out j
            have HTK : Hid (ps.take (j + 1) = ps.take j ++ [strAt ps j]) := take_at hjl
            clear hwr hc
            generalize strAt ps j = x at *
            have HAL : Hid ((ps.take (j + 1)).all selOk = ((ps.take j).all selOk && selOk x)) := by show _ = _; rw [HTK.out, List.all_append]; simp
            have hjI : (j : Int) < (ps.length : Int) := by omega
            generalize (ps.take j).all selOk = G at *
            go_wp2_with fail
            refine Calls.mono (sselector _ x hz) ?_
            rintro e w4 ⟨⟨t, rfl, ht⟩, k4⟩
            obtain ⟨ta, tc, hte, _⟩ := ht.slice
            subst hte
            have HT : Hid (RowM 3 EPart w4 (.slice ta (selL x).length tc) (selL x) (iv wr w4)) := ht
            have HK4 : Hid (Nw wr w4) := k4
            have q1 := (HB2.out.nw k4).c0
            have HB4 : ∀ o1, Hid (Bx (w4.alloc o1) w2.heap.size (.slice ua el2.length uc) (.slice da dd.length dc)) := fun o1 => (HB2.out.nw k4).nw ((Below.refl _ _).alloc (Nat.le_refl _) _)
            clear ht k4 q0
            have HNA : ∀ o1, Hid (Nw wr (w4.alloc o1)) := fun o1 => Nw.trans HK4.out ((Below.refl _ _).alloc (Nat.le_refl _) _)
            have HEP : ∀ o1, Hid (ESel (w4.alloc o1) [.slice ta (selL x).length tc] (selL x) (iv wr (w4.alloc o1))) := fun o1 => ⟨_, rfl, (HT.out.nw EPart.kept ((Below.refl _ _).alloc (Nat.le_refl _) _)).mono (iv_mono (by simp))⟩
            generalize selOk x = O at *
            have HGO : ∀ g0 o0, G = g0 → O = o0 → Hid ((ps.take (j + 1)).all selOk = (g0 && o0)) := fun g0 o0 e1 e2 => by rw [← e1, ← e2]; exact HAL
            clear HAL
            cases hG : G <;> cases hO : O <;> (
              have HAL := HGO _ _ hG hO
              clear HGO hG hO
              go_wp2_with (at_builtin; (refine wp_rw ESel.kept Tryz.underlying29 info_sel rfl (by decide) (by decide) wr _ rfl _ _ rfl w3.heap.size _ el2 rfl HR2.out (HNA _).out HWR.out.size _ rfl (selL x) [.slice ta (selL x).length tc] ?c1 rfl ?c2 (HEP _).out HL2.out ?_))
              case c1 =>
                intro j y hj
                cases j with
                | zero => simp at hj; subst hj; simp
                | succ j => simp at hj
              case c2 =>
                intro y hy
                simp only [List.mem_cons, List.not_mem_nil, or_false] at hy
                subst hy; rfl
              intro v' w' h1 h2
              obtain ⟨xa, xc, hx⟩ := h1.slice
              have hx2 : v' = .slice xa (el2.length + 1) xc := by rw [hx]; simp
              clear hx
              subst hx2
              have HB5 : Hid (Bx w' w2.heap.size (.slice ua el2.length uc) (.slice da dd.length dc)) := (HB4 _).out.ext h2 (fun e => by have := (HR2.out.lt _ e).1; omega)
              have HW5 : Hid (Wr (Fb w2.heap.size w3.heap.size) w3 w') := (HWR.out.trans (Wr.nw (HNA _).out)).trans (Wr.ext h2 (fun x e => Or.inr (HR2.out.lt x e).1))
              have q5 := HB5.out.c0
              have q6 := HB5.out.fz 0
              have H1 : Hid _ := h1
              clear h1 h2 q1
              go_wp2
              go_roundw
              case rel => exact ⟨j + 1, _, _, by omega, by go_num, by rw [HAL.out]; rfl, RowO.setB ESel.kept H1.out hz3 0 _, by rw [HTK.out, List.map_append, List.map_append, HM2.out]; rfl, HB5.out.set _, HW5.out.set (Or.inl rfl) 0 _⟩
              case measure => simp [intOf]; omega)
          · have hje : j = ps.length := by omega
            subst hje
            have hjI : ¬ ((ps.length : Int) < (ps.length : Int)) := by omega
            have HNW : Hid (Nw wo wr) := HNO.out _ hwr
            have HN : Hid (Nw w wr) := Nw.trans HW.out HNW.out
            have HRO : Hid (RowO 32 2 ERule wr w.heap.size (.slice va els.length vc) els) := HR.out.nw ERule.kept HNW.out
            have HU : Hid (RowM 1 ESel wr (.slice ua el2.length uc) (ps.map selL) (iv w3 wr)) := by
              have h1 := RowO.row HR2.out (F := iv w3 wr) (fun b h1 h2 => ⟨h1, h2⟩)
              have h2 := HM2.out
              rw [List.take_length] at h2
              rw [h2] at h1
              exact h1
            obtain ⟨x1, x2, x3, x4, x5⟩ := HX.out
            have HXN : Hid (ps.all selOk = false → RuSt b (b.data.toList.drop (en + 1)) (els.map El.x)) := fun h => by rw [x5]; exact x1.bad x2 (by rw [← x3, HSO.out.1]; exact h)
            have HXF : Hid (els.length = 30 → RuSt b (b.data.toList.drop (en + 1)) (els.map El.x)) := fun h => by rw [x5]; exact x1.full x2 (by rw [List.length_map]; exact h)
            have HXM : Hid (ps.all selOk = true → els.length < 30 → RuSt b (b.data.toList.drop (en + 1)) (els.map El.x ++ [⟨ps.map selL, dd⟩])) := fun h h2 => by
              have h3 := x1.more x2 (by rw [← x3, HSO.out.1]; exact h) (by rw [List.length_map]; exact h2)
              unfold ruleL at h3
              rw [← x3, ← x4, HSO.out.2, hdd] at h3
              rw [x5]; exact h3
            have q1 := HB2.out.c0
            have q2 := HB2.out.c1
            clear x1 x2 x3 x4 x5 HSO hwr HX hdd
            rw [List.take_length]
            clear HM2
            cases hG : ps.all selOk
            · have HZ := HXN.out hG
              have HX2 : Hid (RuSt b (b.data.toList.drop (en + 1)) (els.map El.x)) := HZ
              clear HZ HXN HXF HXM
              go_wp2
              go_roundw
              case rel => exact ⟨en + 1, els, by go_num, by omega, HRO.out, HX2.out, HN.out⟩
              case measure => simp [intOf]; omega
            · by_cases h3 : els.length = 30
              · have HX2 : Hid (RuSt b (b.data.toList.drop (en + 1)) (els.map El.x)) := HXF.out h3
                have g30 : ¬ ((els.length : Int) < 30) := by omega
                clear HXN HXF HXM h3
                go_wp2
                go_roundw
                case rel => exact ⟨en + 1, els, by go_num, by omega, HRO.out, HX2.out, HN.out⟩
                case measure => simp [intOf]; omega
              · have HX2 : Hid (RuSt b (b.data.toList.drop (en + 1)) (els.map El.x ++ [⟨ps.map selL, dd⟩])) := HXM.out hG (by omega)
                have g30 : (els.length : Int) < 30 := by omega
                have HL30 : Hid (els.length ≤ 10000000) := by show _ ≤ _; omega
                have HNA : ∀ o1, Hid (Nw wo (wr.alloc o1)) := fun o1 => Nw.trans HNW.out ((Below.refl _ _).alloc (Nat.le_refl _) _)
                have HEP : ∀ o1, Hid (ERule (wr.alloc o1) [.slice ua el2.length uc, .slice da dd.length dc] ⟨ps.map selL, dd⟩ (iv wo (wr.alloc o1))) := fun o1 => by
                  have z1 := Below.size HK2.out
                  have z2 := HWR.out.size
                  have a0 : Nw wr (wr.alloc o1) := (Below.refl _ _).alloc (Nat.le_refl _) _
                  have z4 : wr.heap.size ≤ (wr.alloc o1).heap.size := Below.size a0
                  have d2 : RowM 3 EDecl wr (.slice da dd.length dc) dd (iv wo w2) := by
                    have n3 : Nw w2 w3 := Nw.trans HA0.out HK3.out
                    refine (HD.out.nw EDecl.kept n3).kept EDecl.kept HWR.out (fun b hb hc => ?_)
                    have := hb.2
                    rcases hc with e | e <;> omega
                  refine ⟨_, _, iv w3 wr, iv wo w2, rfl, HU.out.nw ESel.kept a0, d2.nw EDecl.kept a0, fun b hb => ⟨by have := hb.1; omega, by have := hb.2; omega⟩, fun b hb => ⟨hb.1, by have := hb.2; omega⟩, fun b hb hc => ?_⟩
                  have := hb.1
                  have := hc.2
                  omega
                clear HXN HXF HXM h3
                go_wp2_with (at_builtin; (refine wp_rw ERule.kept Tryz.underlying23 info_rule rfl (by decide) (by decide) wo _ rfl _ _ rfl w.heap.size _ els rfl HR.out (HNA _).out (Below.size HW.out) _ rfl ⟨ps.map selL, dd⟩ [.slice ua el2.length uc, .slice da dd.length dc] ?c1 rfl ?c2 (HEP _).out HL30.out ?_))
                case c2 => exact ⟨rfl, rfl⟩
                intro v' w' h1 h2
                have HN5 : Hid (Nw w w') := Below.trans (HW.out.trans (HNA _).out) (Ext.below h2 (fun g e => (HR.out.lt g e).1) (Nat.le_trans (Below.size HW.out) (Below.size (HNA _).out)))
                have H1 : Hid _ := h1
                clear h1 h2
                go_wp2
                go_roundw
                case rel => exact ⟨en + 1, _, by go_num, by omega, H1.out, by rw [List.map_append]; exact HX2.out, HN5.out⟩
                case measure => simp [intOf]; omega
      · have HE : Hid (els.map El.x = rules30 b) := HST.out.fin (sh_none (Nat.le_of_lt hlt) hm)
        have HF1 : Hid (Calls Tryz.prog 79 #[.string b, .int .i64 (k : Int), .int .u8 123] wr fun e w' => e = .returned (.int .i64 (fndB 123 b k : Nat)) ∧ w' = wr) := sfind b 123 k wr (Nat.le_of_lt hlt) hbs
        have g3 := fndB_le (c := 123) (Nat.le_of_lt hlt)
        generalize fndB 123 b k = op at *
        have hop : op = b.size := by omega
        subst hop
        have hne : ((b.size : Int) == (b.size : Int)) = true := by simp
        clear hm g3
        go_wp2_with fail
        refine Calls.mono HF1.out ?_
        rintro e w1 ⟨rfl, hq⟩
        have hq2 := hq.symm; clear hq; subst hq2
        clear HF1
        go_wp2
        go_ret
        exact ⟨⟨_, rfl, by rw [← HE.out]; exact RowO.row HR.out (fun b h1 h2 => ⟨h1, h2⟩)⟩, HW.out⟩
    · have hltI : ¬ ((k : Int) < (b.size : Int)) := by omega
      have HE : Hid (els.map El.x = rules30 b) := HST.out.fin (by rw [List.length_drop, data_len]; omega)
      go_wp2
      go_ret
      exact ⟨⟨_, rfl, by rw [← HE.out]; exact RowO.row HR.out (fun b h1 h2 => ⟨h1, h2⟩)⟩, HW.out⟩
end Go.Proofs.YtnkmdmmlpidcmaaGreatDoor
namespace Go.Proofs.YtnkmdmmlpidcmaaGreatDoor
open Go.ChangeShapes Go.WideShapes Go.ChangeAt Go.RowKit
set_option linter.unusedVariables false

set_option maxHeartbeats 2000000 in
theorem ssheet (s : ByteArray) (w : World) (hs : s.size ≤ 1048576) :
    Calls Tryz.prog 15 #[.string s] w fun e w' => ShtSays s w w' e ∧ Nw w w' := by
  unfold ShtSays shtL
  by_cases h : 1500 < s.size
  · have hd : decide (1500 < (s.size : Int)) = true := by simp; omega
    rw [if_pos h, decide_eq_true h]
    go_enter Tryz.func15, Tryz.ntmps15
    go_wp2
    go_ret2
    exact ⟨⟨_, rfl, RowM.nil _ _ _ _⟩, Below.refl _ _⟩
  · have hd : decide (1500 < (s.size : Int)) = false := by simp; omega
    rw [if_neg h, decide_eq_false h]
    go_enter Tryz.func15, Tryz.ntmps15
    go_wp2_with fail
    refine Calls.mono (ssheetL s _ hs) ?_
    rintro e w2 ⟨⟨v, rfl, hr⟩, k2⟩
    have HR : Hid (RowM 2 ERule w2 v (rules30 (bareB s)) (iv w w2)) := hr
    have HN2 : Hid (Nw w w2) := k2
    obtain ⟨a, c, hv, _⟩ := hr.slice
    subst hv
    clear hr k2
    go_wp2
    go_ret2
    exact ⟨⟨_, rfl, HR.out⟩, HN2.out⟩
end Go.Proofs.YtnkmdmmlpidcmaaGreatDoor
