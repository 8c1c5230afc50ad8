/-
  A part read from a word by the specification: its walk; each theorem names its conditions.
-/
import Derived.Test.YtnkmdmmlpidcmaaDoorRsP
namespace Go.Proofs.YtnkmdmmlpidcmaaDoor
open Go.ChangeShapes Go.WideShapes Go.ChangeAt Go.RowKit
set_option linter.unusedVariables false

theorem head_byte (s : ByteArray) (k : Nat) (h : k < s.size) : s.data.toList.drop k = s[k] :: s.data.toList.drop (k + 1) := by
  rw [drop_at (by rw [data_len]; exact h), getB s k h]
theorem byte_no {b : UInt8} (n : Nat) (hn : n < 256) (h : b ≠ UInt8.ofNat n) : ((b.toNat : Int) == (n : Int)) = false := by
  rw [beq_eq_false_iff_ne]
  intro e
  apply h
  apply UInt8.toNat_inj.1
  have : (UInt8.ofNat n).toNat = n := UInt8.toNat_ofNat_of_lt (by simpa using hn)
  rw [this]
  omega
theorem idS_bad {t : List UInt8} (h : runL t = 0) : idS (35 :: t) = none := by
  show (if (35 : UInt8) = 35 then (if runL t = 0 then none else some (t.take (runL t), t.drop (runL t))) else some ([], 35 :: t)) = none
  rw [if_pos rfl, if_pos h]
theorem idS_hit {t : List UInt8} (h : ¬ runL t = 0) : idS (35 :: t) = some (t.take (runL t), t.drop (runL t)) := by
  show (if (35 : UInt8) = 35 then (if runL t = 0 then none else some (t.take (runL t), t.drop (runL t))) else some ([], 35 :: t)) = _
  rw [if_pos rfl, if_neg h]
/-- What an early end says. -/
theorem PSt.out {w wx : World} {ty id : ByteArray} {v : Value} {cls : List ByteArray} (h : PSt w wx ty id v cls) (u0 u1 u2 : Value) : Nw w (((wx.setCell ⟨w.heap.size, 0, none⟩ u0).setCell ⟨w.heap.size, 1, none⟩ u1).setCell ⟨w.heap.size, 2, none⟩ u2) :=
  ((Below.setCell h.nw (Nat.le_refl _) _).setCell (Nat.le_refl _) _).setCell (Nat.le_refl _) _
set_option maxRecDepth 100000 in
set_option maxHeartbeats 8000000 in
theorem spart (w : World) (s : ByteArray) (hs : s.size ≤ 1048576) :
    Calls Tryd.prog 61 #[.string s] w fun e w' => PartSays s w w' e ∧ Nw w w' := by
  by_cases h0 : s.size = 0
  · obtain rfl := empty_of h0
    have HP : Hid (prP ⟨#[]⟩ = none) := rfl
    clear h0 hs
    have HS0 : Hid (PSt w _ ⟨#[]⟩ ⟨#[]⟩ (.slice none 0 0) []) := PSt.new w 56
    go_enter Tryd.func61, Tryd.ntmps61
    go_upto_if 11 with fail
    obtain ⟨⟨b0, b1, b2, bf, _⟩, ⟨z0, z1, z2, zf, _⟩, _⟩ := HS0.out
    generalize ((w.alloc (.cells #[.string ⟨#[]⟩, .string ⟨#[]⟩, .slice none 0 0] 56)).alloc (.cells #[.string ⟨#[]⟩, .string ⟨#[]⟩, .slice none 0 0] 56)) = W at *
    obtain ⟨y0, y1, y2⟩ := set3c W w.heap.size (.string ⟨#[]⟩) (.string ⟨#[]⟩) (.slice none 0 0) z0 z1 z2
    go_wp2
    refine bodyPost_ret (v := .tuple #[.agg #[.string ⟨#[]⟩, .string ⟨#[]⟩, .slice none 0 0], .bool false]) (by simp [results, Tryd.results61, go_sem, y0, y1, y2]) rfl ⟨Or.inr ⟨HP.out, _, _, _, _, _, rfl⟩, ?_⟩
    exact HS0.out.out _ _ _
  · have h1 : 0 < s.size := by omega
    have n1 := ne_nil h1
    have n2 := ne_emp h1
    have hnl : s.data.toList ≠ [] := fun e => h0 (by rw [← data_len, e]; rfl)
    have HPS : Hid _ := prs_split hnl
    have HT : Hid (tyN s.data.toList = if s[0] = 42 then 1 else runL s.data.toList) := by
      show _ = _
      have hh : s.data.toList.head? = some s[0] := by
        have := head_byte s 0 h1
        rw [List.drop_zero] at this
        rw [this]; rfl
      unfold tyN
      rw [hh]
      simp
    have hTL : tyN s.data.toList ≤ s.size := by rw [← data_len]; exact tyN_le _
    have HX1 : Hid (s[0] = 42 → s.extract 0 1 = ⟨#[42]⟩) := by
      intro h
      rw [ext_head]
      have := head_byte s 0 h1
      rw [List.drop_zero] at this
      rw [this, h]; rfl
    have HX0 : Hid (s.extract 0 0 = ⟨#[]⟩) := by show _ = _; rw [ext_head]; rfl
    have HS0 : Hid (PSt w _ ⟨#[]⟩ ⟨#[]⟩ (.slice none 0 0) []) := PSt.new w 56
    clear hnl h0
    generalize ha1 : tyN s.data.toList = a1 at *
    clear ha1
    go_enter Tryd.func61, Tryd.ntmps61
    go_upto_if 15 with fail
    obtain ⟨⟨b0, b1, b2, bf, _⟩, ⟨z0, z1, z2, zf, _⟩, _⟩ := HS0.out
    generalize ((w.alloc (.cells #[.string ⟨#[]⟩, .string ⟨#[]⟩, .slice none 0 0] 56)).alloc (.cells #[.string ⟨#[]⟩, .string ⟨#[]⟩, .slice none 0 0] 56)) = W at *
    go_cut [5] (fun v wx => v = .int .i64 (a1 : Int) ∧ PSt w wx (s.extract 0 a1) ⟨#[]⟩ (.slice none 0 0) [])
    case first =>
      by_cases h42 : s[0] = 42
      · have g42 : ((s[0].toNat : Int) == 42) = true := by rw [h42]; rfl
        have ha : a1 = 1 := by rw [HT.out, if_pos h42]
        have hx := HX1.out h42
        have HE : Hid (PSt w (W.setCell ⟨w.heap.size + 1, 0, none⟩ (.string ⟨#[42]⟩)) (s.extract 0 a1) ⟨#[]⟩ (.slice none 0 0) []) := by
          show PSt _ _ _ _ _ _
          rw [ha, hx]; exact HS0.out.ty _
        subst ha
        clear hx h42
        go_wp2
        go_meet
        exact ⟨rfl, HE.out⟩
      · have g42 : ((s[0].toNat : Int) == 42) = false := byte_no 42 (by omega) h42
        have ha : a1 = runL s.data.toList := by rw [HT.out, if_neg h42]
        have HRN : Hid (Calls Tryd.prog 91 #[.string s] W fun e w' => e = .returned (.int .i64 (a1 : Nat)) ∧ w' = W) := by rw [ha]; exact srunL W s hs
        clear h42 ha
        by_cases hn : a1 = 0
        · have HE : Hid (PSt w W (s.extract 0 a1) ⟨#[]⟩ (.slice none 0 0) []) := by
            show PSt _ _ _ _ _ _
            rw [hn, HX0.out]; exact HS0.out
          subst hn
          go_wp2_with (go_at_call 91; refine HRN.out.mono ?_; rintro e w' ⟨rfl, hq⟩; have hq2 := hq.symm; clear hq; subst hq2)
          go_meet
          exact ⟨rfl, HE.out⟩
        · have hp : 0 < a1 := by omega
          have HE : Hid (PSt w (W.setCell ⟨w.heap.size + 1, 0, none⟩ (.string (s.extract 0 a1))) (s.extract 0 a1) ⟨#[]⟩ (.slice none 0 0) []) := HS0.out.ty _
          go_wp2_with (go_at_call 91; refine HRN.out.mono ?_; rintro e w' ⟨rfl, hq⟩; have hq2 := hq.symm; clear hq; subst hq2)
          go_meet
          exact ⟨rfl, HE.out⟩
    case rest =>
      obtain ⟨rfl, hst⟩ := hcut
      clear b0 b1 b2 bf z0 z1 z2 zf HX0 HX1 HT
      have HTY : Hid (bA (s.data.toList.take a1) = s.extract 0 a1) := (ext_head s a1).symm
      have HST : Hid (PSt w wc (s.extract 0 a1) ⟨#[]⟩ (.slice none 0 0) []) := hst
      generalize s.extract 0 a1 = ty at *
      clear hst
      go_upto_region 12 with fail
      go_cut [35] (fun b wx => b = .bool (decide (∃ h : a1 < s.size, s[a1] = 35)) ∧ wx = wc)
      case first =>
        by_cases hlt : a1 < s.size
        · have hltI : (a1 : Int) < (s.size : Int) := by omega
          by_cases h35 : s[a1] = 35
          · have g35 : ((s[a1].toNat : Int) == 35) = true := by rw [h35]; rfl
            have HD : Hid (decide (∃ h : a1 < s.size, s[a1] = 35) = true) := decide_eq_true ⟨hlt, h35⟩
            clear h35
            go_wp2
            go_meet
            exact ⟨by rw [HD.out], rfl⟩
          · have g35 : ((s[a1].toNat : Int) == 35) = false := byte_no 35 (by omega) h35
            have HD : Hid (decide (∃ h : a1 < s.size, s[a1] = 35) = false) := decide_eq_false (fun ⟨_, h⟩ => h35 h)
            clear h35
            go_wp2
            go_meet
            exact ⟨by rw [HD.out], rfl⟩
        · have hltI : ¬ ((a1 : Int) < (s.size : Int)) := by omega
          have HD : Hid (decide (∃ h : a1 < s.size, s[a1] = 35) = false) := decide_eq_false (fun ⟨h, _⟩ => hlt h)
          go_wp2
          go_meet
          exact ⟨by rw [HD.out], rfl⟩
      case rest =>
      obtain ⟨rfl, hwx⟩ := hcut
      subst hwx
      have HC35 : Hid (∀ b, decide (∃ h : a1 < s.size, s[a1] = 35) = b → decide (∃ h : a1 < s.size, s[a1] = 35) = b) := fun _ h => h
      generalize hcc : decide (∃ h : a1 < s.size, s[a1] = 35) = cc at *
      have HCC : Hid (decide (∃ h : a1 < s.size, s[a1] = 35) = cc) := hcc
      clear hcc HC35
      go_upto_if 35 with fail
      go_cut [5] (fun v wx => ∃ (a2 : Nat) (id : ByteArray), v = .int .i64 (a2 : Int) ∧ a2 ≤ s.size ∧ PSt w wx ty id (.slice none 0 0) [] ∧ idS (s.data.toList.drop a1) = some (id.data.toList, s.data.toList.drop a2))
      case first =>
        obtain ⟨⟨b0, b1, b2, bf, _⟩, ⟨z0, z1, z2, zf, _⟩, _⟩ := HST.out
        by_cases hlt : a1 < s.size
        · have hd := head_byte s a1 hlt
          have hltI : (a1 : Int) < (s.size : Int) := by omega
          by_cases h35 : s[a1] = 35
          · have hcc : cc = true := by rw [← HCC.out]; exact decide_eq_true ⟨hlt, h35⟩
            subst hcc
            have hsz : (s.extract (a1 + 1) s.size).size ≤ 1048576 := by rw [ByteArray.size_extract]; omega
            have HRN : Hid (Calls Tryd.prog 91 #[.string (s.extract (a1 + 1) s.size)] wc fun e w' => e = .returned (.int .i64 (runL (s.data.toList.drop (a1 + 1)) : Nat)) ∧ w' = wc) := by rw [← tail_list]; exact srunL wc (s.extract (a1 + 1) s.size) hsz
            have hrl := runL_le (s.data.toList.drop (a1 + 1))
            rw [List.length_drop, data_len] at hrl
            rw [h35] at hd
            by_cases hn : runL (s.data.toList.drop (a1 + 1)) = 0
            · have HNO : Hid (prP s = none) := by
                show prP s = none
                unfold prP
                rw [HPS.out, hd]
                rw [idS_bad hn]
                rfl
              rw [hn] at HRN
              clear hd hrl h35 hn
              obtain ⟨y0, y1, y2⟩ := set3c wc w.heap.size (.string ty) (.string ⟨#[]⟩) (.slice none 0 0) z0 z1 z2
              go_wp2_with (go_at_call 91; refine HRN.out.mono ?_; rintro e w' ⟨rfl, hq⟩; have hq2 := hq.symm; clear hq; subst hq2)
              refine bodyPost_ret (v := .tuple #[.agg #[.string ty, .string ⟨#[]⟩, .slice none 0 0], .bool false]) (by simp [results, Tryd.results61, go_sem, y0, y1, y2]) rfl ⟨Or.inr ⟨HNO.out, _, _, _, _, _, rfl⟩, ?_⟩
              exact HST.out.out _ _ _
            · have HID : Hid (idS (s.data.toList.drop a1) = some ((s.extract (a1 + 1) (a1 + 1 + runL (s.data.toList.drop (a1 + 1)))).data.toList, s.data.toList.drop (a1 + 1 + runL (s.data.toList.drop (a1 + 1))))) := by
                show _ = _
                rw [hd]
                rw [idS_hit hn, ext_mid, bA_list, List.drop_drop]
              generalize runL (s.data.toList.drop (a1 + 1)) = n at *
              have hn0 : 0 < n := by omega
              have hle : a1 + 1 + n ≤ s.size := by omega
              have HE : Hid (PSt w (wc.setCell ⟨w.heap.size + 1, 1, none⟩ (.string (s.extract (a1 + 1) (a1 + 1 + n)))) ty (s.extract (a1 + 1) (a1 + 1 + n)) (.slice none 0 0) []) := HST.out.id _
              clear hd hrl h35
              go_wp2_with (go_at_call 91; refine HRN.out.mono ?_; rintro e w' ⟨rfl, hq⟩; have hq2 := hq.symm; clear hq; subst hq2)
              go_meet
              exact ⟨a1 + 1 + n, _, by go_num, hle, by simpa using HE.out, HID.out⟩
          · have hcc : cc = false := by rw [← HCC.out]; exact decide_eq_false (fun ⟨_, h⟩ => h35 h)
            subst hcc
            have HID : Hid (idS (s.data.toList.drop a1) = some ((⟨#[]⟩ : ByteArray).data.toList, s.data.toList.drop a1)) := by
              show _ = _
              rw [hd]
              show (if s[a1] = 35 then _ else some ([], s[a1] :: s.data.toList.drop (a1 + 1))) = _
              rw [if_neg h35]
            clear hd h35
            go_wp2
            go_meet
            exact ⟨a1, _, rfl, hTL, HST.out, HID.out⟩
        · have hcc : cc = false := by rw [← HCC.out]; exact decide_eq_false (fun ⟨h, _⟩ => hlt h)
          subst hcc
          have HID : Hid (idS (s.data.toList.drop a1) = some ((⟨#[]⟩ : ByteArray).data.toList, s.data.toList.drop a1)) := by
            show _ = _
            rw [List.drop_eq_nil_of_le (by rw [data_len]; omega)]
            rfl
          go_wp2
          go_meet
          exact ⟨a1, _, rfl, hTL, HST.out, HID.out⟩
      case rest =>
        obtain ⟨a2, id, rfl, ha2, hst, hid⟩ := hcut
        have HYES : Hid (∀ cs, clsR (s.data.toList.drop a2) [] = some cs → prP s = some ⟨ty, id, cs.map bA⟩) := by
          intro cs hcs
          unfold prP
          rw [HPS.out, hid]
          simp only [hcs]
          show some (ofL ⟨_, _, _⟩) = _
          unfold ofL
          simp only [HTY.out, bA_data]
        have HNO : Hid (clsR (s.data.toList.drop a2) [] = none → prP s = none) := by
          intro hcs
          unfold prP
          rw [HPS.out, hid]
          simp only [hcs]
          rfl
        clear hid HPS HTY HS0 HST
        go_wp2
        go_loopw [5] (fun v wr => ∃ (a : Nat) (acc : List (List UInt8)) (u : Value), v = .int .i64 (a : Int) ∧ a ≤ s.size ∧ acc.length ≤ 4 ∧ clsR (s.data.toList.drop a) acc = clsR (s.data.toList.drop a2) [] ∧ PSt w wr ty id u (acc.map bA)) (fun v _ => s.size - (intOf v).toNat)
        case atStart => exact ⟨a2, [], _, rfl, ha2, Nat.zero_le _, rfl, hst⟩
        case round =>
          obtain ⟨a, acc, u, rfl, ha, hac, hcl, hst⟩ := hrel
          have hml : (acc.map bA).length = acc.length := List.length_map ..
          obtain ⟨va, vc, hv⟩ := hst.box.own.slice
          subst hv
          rw [hml] at hst
          have HST : Hid (PSt w wr ty id (.slice va acc.length vc) (acc.map bA)) := hst
          have HCL : Hid (clsR (s.data.toList.drop a) acc = clsR (s.data.toList.drop a2) []) := hcl
          obtain ⟨⟨b0, b1, b2, bf, _⟩, ⟨z0, z1, z2, zf, _⟩, _⟩ := hst
          clear hcl hml
          obtain ⟨y0, y1, y2⟩ := set3c wr w.heap.size (.string ty) (.string id) (.slice va acc.length vc) z0 z1 z2
          by_cases hlt : a < s.size
          · have hd := head_byte s a hlt
            have hltI : (a : Int) < (s.size : Int) := by omega
            by_cases h46 : s[a] = 46
            · have g46 : ((s[a].toNat : Int) == 46) = true := by rw [h46]; rfl
              have hsz : (s.extract (a + 1) s.size).size ≤ 1048576 := by rw [ByteArray.size_extract]; omega
              have HRN : Hid (Calls Tryd.prog 91 #[.string (s.extract (a + 1) s.size)] wr fun e w' => e = .returned (.int .i64 (runL (s.data.toList.drop (a + 1)) : Nat)) ∧ w' = wr) := by rw [← tail_list]; exact srunL wr (s.extract (a + 1) s.size) hsz
              have hrl := runL_le (s.data.toList.drop (a + 1))
              rw [List.length_drop, data_len] at hrl
              rw [h46] at hd
              by_cases hn : runL (s.data.toList.drop (a + 1)) = 0
              · have HX : Hid (prP s = none) := HNO.out (by rw [← HCL.out, hd]; exact clsR_bad _ _ (Or.inl hn))
                rw [hn] at HRN
                clear hd hrl h46 hn
                go_wp2_with (go_at_call 91; refine HRN.out.mono ?_; rintro e w' ⟨rfl, hq⟩; have hq2 := hq.symm; clear hq; subst hq2)
                refine bodyPost_ret (v := .tuple #[.agg #[.string ty, .string id, .slice va acc.length vc], .bool false]) (by simp [results, Tryd.results61, go_sem, y0, y1, y2]) rfl ⟨Or.inr ⟨HX.out, _, _, _, _, _, rfl⟩, ?_⟩
                exact HST.out.out _ _ _
              · by_cases h4 : acc.length = 4
                · have HX : Hid (prP s = none) := HNO.out (by rw [← HCL.out, hd]; exact clsR_bad _ _ (Or.inr h4))
                  generalize runL (s.data.toList.drop (a + 1)) = n at *
                  have hn0 : ((n : Int) == 0) = false := by simp; omega
                  have g4 : ((acc.length : Int) == 4) = true := by rw [h4]; rfl
                  clear hd hrl h46 hn h4
                  go_wp2_with (go_at_call 91; refine HRN.out.mono ?_; rintro e w' ⟨rfl, hq⟩; have hq2 := hq.symm; clear hq; subst hq2)
                  refine bodyPost_ret (v := .tuple #[.agg #[.string ty, .string id, .slice va acc.length vc], .bool false]) (by simp [results, Tryd.results61, go_sem, y0, y1, y2]) rfl ⟨Or.inr ⟨HX.out, _, _, _, _, _, rfl⟩, ?_⟩
                  exact HST.out.out _ _ _
                · have HST2 : Hid (clsR (s.data.toList.drop (a + 1 + runL (s.data.toList.drop (a + 1)))) (acc ++ [(s.data.toList.drop (a + 1)).take (runL (s.data.toList.drop (a + 1)))]) = clsR (s.data.toList.drop a2) []) := by
                    show _ = _
                    rw [← HCL.out, hd, clsR_step _ _ hn h4, List.drop_drop]
                  have HMP : Hid ((acc ++ [(s.data.toList.drop (a + 1)).take (runL (s.data.toList.drop (a + 1)))]).map bA = acc.map bA ++ [s.extract (a + 1) (a + 1 + runL (s.data.toList.drop (a + 1)))]) := by
                    show _ = _
                    rw [List.map_append, ext_mid]; rfl
                  have HLN : Hid ((acc ++ [(s.data.toList.drop (a + 1)).take (runL (s.data.toList.drop (a + 1)))]).length ≤ 4) := by show _ ≤ _; simp; omega
                  generalize acc ++ [(s.data.toList.drop (a + 1)).take (runL (s.data.toList.drop (a + 1)))] = acc2 at *
                  generalize runL (s.data.toList.drop (a + 1)) = n at *
                  have hn0 : ((n : Int) == 0) = false := by simp; omega
                  have g4 : ((acc.length : Int) == 4) = false := by simp; omega
                  have hle : a + 1 + n ≤ s.size := by omega
                  have HML : Hid ((acc.map bA).length = acc.length) := List.length_map ..
                  have HF : Hid ((acc.map bA).length ≤ 2000000 ∧ IntKind.i64.wrap ((a : Int) + 1) = (a : Int) + 1 ∧ IntKind.i64.wrap ((a : Int) + 1 + (n : Int)) = (a : Int) + 1 + (n : Int) ∧ (0 : Int) ≤ (a : Int) + 1 ∧ (a : Int) + 1 ≤ (a : Int) + 1 + (n : Int) ∧ (a : Int) + 1 + (n : Int) ≤ (s.size : Int) ∧ ((a : Int) + 1).toNat = a + 1 ∧ ((a : Int) + 1 + (n : Int)).toNat = a + 1 + n) :=
                    ⟨by rw [List.length_map]; omega, IntWalk.i64_in _ (by omega), IntWalk.i64_in _ (by omega), by omega, by omega, by omega, by omega, by omega⟩
                  clear hd hrl h46 y0 y1 y2
                  go_wp2_with (go_at_call 91; refine HRN.out.mono ?_; rintro e w' ⟨rfl, hq⟩; have hq2 := hq.symm; clear hq; subst hq2)
                  have HBX : Hid (CvP (w.heap.size + 1) wr.drew ty id (.slice va (acc.map bA).length vc) (acc.map bA)) := by
                    show CvP _ _ _ _ _ _
                    rw [HML.out]; exact CvP.nw HST.out.box ((Below.refl _ _).drew)
                  refine reg_change (ops' := opsOf 22 Tryd.f61) (by kernel_rfl) ?_
                  refine SP22.run ⟨w.heap.size + 1, ty, id, va, vc, acc.map bA, s, a, n, wr.drew, _⟩ ⟨HBX.out, HF.out.1, HF.out.2.1, HF.out.2.2.1, hle, HF.out.2.2.2.1, HF.out.2.2.2.2.1, HF.out.2.2.2.2.2.1, HF.out.2.2.2.2.2.2.1, HF.out.2.2.2.2.2.2.2, rfl, rfl, rfl, rfl, rfl⟩ wr (Below.refl _ _) ?_
                  rintro γ w9 ⟨w7, w8, k1, o1, y1, rfl⟩
                  simp only at o1 y1 k1 ⊢
                  rw [HML.out] at y1
                  have HPT : Hid _ := PSt.put ((HST.out.go ((Below.refl _ _).drew)).go k1) y1 o1
                  rw [← HMP.out] at HPT o1
                  generalize γ 1 = v' at *
                  generalize γ 0 = v0 at *
                  obtain ⟨sa, sc, g1⟩ := o1.slice
                  subst g1
                  clear o1 y1 k1 b0 b1 b2 bf z0 z1 z2 zf
                  simp only [Act.put, List.setIfInBounds_toArray, List.set_cons_zero, List.set_cons_succ]
                  generalize (acc2.map bA).length = M at *
                  go_wp2
                  go_roundw
                  case rel => exact ⟨a + 1 + n, acc2, _, by go_num, hle, HLN.out, HST2.out, HPT.out⟩
                  case measure => simp [intOf]; omega
            · have g46 : ((s[a].toNat : Int) == 46) = false := byte_no 46 (by omega) h46
              have HX : Hid (prP s = none) := HNO.out (by rw [← HCL.out, hd]; exact clsR_other _ _ _ h46)
              have hne : ((a : Int) == (s.size : Int)) = false := by simp; omega
              clear hd h46
              go_wp2
              refine bodyPost_ret (v := .tuple #[.agg #[.string ty, .string id, .slice va acc.length vc], .bool false]) (by simp [results, Tryd.results61, go_sem, y0, y1, y2]) rfl ⟨Or.inr ⟨HX.out, _, _, _, _, _, rfl⟩, ?_⟩
              exact HST.out.out _ _ _
          · have hltI : ¬ ((a : Int) < (s.size : Int)) := by omega
            have hae : a = s.size := by omega
            have HX : Hid (prP s = some ⟨ty, id, acc.map bA⟩) := HYES.out acc (by rw [← HCL.out, List.drop_eq_nil_of_le (by rw [data_len]; omega)]; rfl)
            have hne : ((a : Int) == (s.size : Int)) = true := by simp; omega
            have HML : Hid ((acc.map bA).length = acc.length) := List.length_map ..
            have h9 := PSt.done (va := va) (vc := vc) (D := acc.map bA) (w9 := wr) (w := w) (ty := ty) (id := id) (by rw [HML.out]; exact HST.out) (.string ty) (.string id) (.slice va acc.length vc)
            rw [HML.out] at h9
            have HDN : Hid (RowM 1 EStr (((wr.setCell ⟨w.heap.size, 0, none⟩ (.string ty)).setCell ⟨w.heap.size, 1, none⟩ (.string id)).setCell ⟨w.heap.size, 2, none⟩ (.slice va acc.length vc)) (.slice va acc.length vc) (acc.map bA) (iv w (((wr.setCell ⟨w.heap.size, 0, none⟩ (.string ty)).setCell ⟨w.heap.size, 1, none⟩ (.string id)).setCell ⟨w.heap.size, 2, none⟩ (.slice va acc.length vc)))) := h9
            clear h9
            clear hae
            go_wp2
            refine bodyPost_ret (v := .tuple #[.agg #[.string ty, .string id, .slice va acc.length vc], .bool true]) (by simp [results, Tryd.results61, go_sem, y0, y1, y2]) rfl ⟨Or.inl ⟨⟨ty, id, acc.map bA⟩, _, HX.out, rfl, HDN.out⟩, ?_⟩
            exact HST.out.out _ _ _
end Go.Proofs.YtnkmdmmlpidcmaaDoor
