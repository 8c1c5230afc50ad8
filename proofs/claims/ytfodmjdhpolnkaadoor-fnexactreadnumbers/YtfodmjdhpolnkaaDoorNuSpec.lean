/-
  What the specification's l7Numbers answers; for texts of at most 600 bytes.
-/
import Derived.Test.YtfodmjdhpolnkaaDoorNuRow
import Derived.Test.YtfodmjdhpolnkaaDoorRdLenS
namespace Go.Proofs.YtfodmjdhpolnkaaDoor
open Go.ChangeShapes Go.WideShapes Go.ChangeAt Go.RowKit
set_option linter.unusedVariables false

/-- What ReadNumbers answers of a text without blanks around it. -/
def numL (l : List UInt8) : List Int × Bool := match nums l with | none => ([], false) | some xs => if xs.length ≤ 60 then (xs, true) else ([], false)
theorem numL_none {l : List UInt8} (h : nums l = none) : numL l = ([], false) := by unfold numL; rw [h]
theorem numL_some {l : List UInt8} {xs : List Int} (h : nums l = some xs) (hl : xs.length ≤ 60) : numL l = (xs, true) := by unfold numL; rw [h]; simp [hl]
theorem numL_many {l t : List UInt8} {out : List Int} (h : nums l = (nums t).map (out ++ ·)) (hl : out.length = 60) : numL l = ([], false) := by
  unfold numL
  rw [h]
  match hn : nums t with
  | none => rfl
  | some ys =>
    have := nums_pos _ _ _ hn
    show (if (out ++ ys).length ≤ 60 then (out ++ ys, true) else ([], false)) = _
    rw [if_neg (by rw [List.length_append]; omega)]
theorem numL_numV (l : List UInt8) : numL l = if (numV l).2 = true ∧ (numV l).1.length ≤ 60 then ((numV l).1, true) else ([], false) := by
  unfold numL numV
  match nums l with
  | none => simp
  | some xs => simp
theorem gapB_suf (l : List UInt8) : ∃ j, gapB l = l.drop j := by
  have hd : ∀ l : List UInt8, ∃ j, dropB l = l.drop j := fun l => by
    unfold dropB Lib.trimLeftS
    induction l with
    | nil => exact ⟨0, rfl⟩
    | cons x l ih =>
      rw [List.dropWhile_cons]
      split
      · obtain ⟨j, h⟩ := ih; exact ⟨j + 1, by rw [h]; rfl⟩
      · exact ⟨0, rfl⟩
  obtain ⟨j, h⟩ := hd l
  unfold gapB
  rw [h]
  match he : l.drop j with
  | [] => exact ⟨j, he.symm⟩
  | c :: t =>
    show ∃ j, (if c = 44 then dropB t else c :: t) = l.drop j
    split
    · obtain ⟨i, h2⟩ := hd t
      refine ⟨j + (1 + i), ?_⟩
      rw [h2, ← List.drop_drop, he, Nat.add_comm, List.drop_succ_cons]
    · exact ⟨j, he.symm⟩
theorem gapT_eq (r : ByteArray) (h : (gapT r).size = r.size) : gapT r = r := by
  obtain ⟨j, e⟩ := gapB_suf r.data.toList
  have hl : (gapB r.data.toList).length = r.data.toList.length := by
    unfold gapT at h; rw [Lib.size_mk, Lib.size_eq] at h; exact h
  apply ba_eq
  show gapB _ = _
  rw [e, List.length_drop] at hl
  rw [e]
  by_cases h0 : r.data.toList.length = 0
  · rw [List.eq_nil_of_length_eq_zero h0, List.drop_nil]
  · rw [show j = 0 by omega, List.drop_zero]
theorem neI (c : UInt8) (n : UInt8) (h : ¬ c = n) : ((c.toNat : Int) != (n.toNat : Int)) = true := by
  rw [bne_iff_ne]; intro e; apply h; apply UInt8.toNat_inj.1; omega
set_option maxHeartbeats 4000000 in
theorem snums (s : ByteArray) (w : World) (hs : s.size ≤ 600) : Calls Tryd.prog 37 #[.string s] w fun e w' => ∃ v, e = .returned (.tuple #[v, .bool (numL (TB s).data.toList).2]) ∧ Ins w' w.heap.size v (numL (TB s).data.toList).1 ∧ Below w.heap.size w w' := by
  have HT : Hid _ := fun w => strim s w (by omega)
  have hTs := TB_le s
  generalize TB s = T at *
  go_enter Tryd.func37, Tryd.ntmps37
  go_wp2_with fail
  refine (HT.out _).mono ?_; rintro e w0 ⟨rfl, rfl⟩
  go_wp2
  go_loopw [0, 4] (fun x y wr => ∃ (t : ByteArray) (out : List Int) (v : Value), x = .string t ∧ y = v ∧ t.size ≤ T.size ∧ out.length ≤ 60 ∧ nums T.data.toList = (nums t.data.toList).map (out ++ ·) ∧ Ins wr w0.heap.size v out ∧ Below w0.heap.size w0 wr) (fun x _ _ => Lib.strSize x)
  case atStart => exact ⟨T, [], _, rfl, rfl, Nat.le_refl _, by simp, by cases nums T.data.toList <;> simp, Ins.nil _ _, Below.refl _ _⟩
  case round =>
    obtain ⟨t, out, v, rfl, hy, hts, hlen, hnum, hins, hw⟩ := hrel
    have hy2 := hy.symm
    clear hy
    subst hy2
    have HI : Hid (Ins wr w0.heap.size v out) := hins
    have HW : Hid (Below w0.heap.size w0 wr) := hw
    have HN : Hid _ := hnum
    have form : ∃ a c, v = .slice a out.length c := by
      rcases hins.lay with ⟨rfl, rfl⟩ | ⟨g, c, rfl, _⟩
      · exact ⟨none, 0, rfl⟩
      · exact ⟨_, c, rfl⟩
    obtain ⟨va, vc, rfl⟩ := form
    clear hins hw hnum
    have hle := dk_le t.data.toList
    have htl : t.data.toList.length = t.size := by simp
    have HD : Hid (∀ w, Calls Tryd.prog 29 #[.string t] w fun e w' => ∃ n x : Int, e = .returned (.tuple #[.int .i64 n, .int .i64 x]) ∧ w' = w ∧ DV (dk t.data.toList) (rfS (t.data.toList.take (dk t.data.toList))) n x) := fun w => dec_x t (by omega) w
    have HBAD : Hid _ := nums_bad t.data.toList
    have HPOS : Hid _ := dk_pos t.data.toList
    obtain ⟨k, hk⟩ : ∃ k, dk t.data.toList = k := ⟨_, rfl⟩
    have HKK : Hid (dk t.data.toList = k) := hk
    rw [hk] at hle HD HBAD HPOS
    clear hk
    obtain ⟨r, hr⟩ : ∃ r, rfS (t.data.toList.take k) = r := ⟨_, rfl⟩
    rw [hr] at HD HBAD HPOS
    have HRR : Hid _ := hr
    clear hr
    obtain ⟨x, ok⟩ := r
    cases ok with
    | false =>
      have HE : Hid (numL T.data.toList = ([], false)) := numL_none (by rw [HN.out, HBAD.out rfl]; rfl)
      go_wp2_with fail
      refine (HD.out _).mono ?_; rintro e w1 ⟨n, y, rfl, rfl, hv⟩
      obtain rfl : n = 0 := by
        rcases hv with ⟨h1, _⟩ | ⟨_, h1⟩
        · cases h1
        · exact h1
      clear hv
      go_wp2
      go_ret2
      refine ⟨.slice none 0 0, ?_, ?_, HW.out⟩
      · rw [HE.out]; rfl
      · rw [HE.out]; exact Ins.nil _ _
    | true =>
      have hkp := HPOS.out rfl
      have z : ((k : Int) == 0) = false := by rw [beq_eq_false_iff_ne]; omega
      go_wp2_with fail
      refine (HD.out _).mono ?_; rintro e w1 ⟨n, y, rfl, rfl, hv⟩
      obtain ⟨hn, hyx⟩ : (k : Int) = n ∧ x = y := by
        rcases hv with ⟨_, h1, h2⟩ | ⟨h1, _⟩
        · exact ⟨h1.symm, h2.symm⟩
        · cases h1
      subst hn hyx
      clear hv
      by_cases h60 : out.length = 60
      · have HE : Hid (numL T.data.toList = ([], false)) := numL_many HN.out h60
        have hq60 : ((out.length : Int) == 60) = true := by rw [h60]; rfl
        clear h60
        go_wp2
        go_ret2
        refine ⟨.slice none 0 0, ?_, ?_, HW.out⟩
        · rw [HE.out]; rfl
        · rw [HE.out]; exact Ins.nil _ _
      · have hq60 : ((out.length : Int) == 60) = false := by rw [beq_eq_false_iff_ne]; omega
        have HB0 : ∀ o, Hid (Nw w1 (w1.alloc o)) := fun o => (Below.refl _ _).alloc (Nat.le_refl _) o
        have HA0 : ∀ o, Hid (Below w0.heap.size w0 (w1.alloc o)) := fun o => Below.trans HW.out (Below.mono (HB0 o).out (Below.size HW.out))
        have hol : out.length ≤ 10000000 := by omega
        go_wp2_with (at_builtin; (refine wp_in _ rfl _ _ rfl w0.heap.size _ out x rfl (HI.out.nw (HB0 _).out) _ rfl ?c1 hol ?c3 ?_))
        case c1 => simp
        case c3 => exact Below.size (HA0 _).out
        intro v' w' h1 h2
        have HN3 : Hid (Below w0.heap.size w0 w') := Below.trans (HA0 _).out (Ins.below (HI.out.nw (HB0 _).out) h2 (Below.size (HA0 _).out))
        have H1 : Hid (Ins w' w0.heap.size v' (out ++ [x])) := h1
        have form : ∃ a c, v' = .slice a (out ++ [x]).length c := by
          rcases h1.lay with ⟨rfl, h⟩ | ⟨g, c, rfl, _⟩
          · simp at h
          · exact ⟨_, c, rfl⟩
        obtain ⟨va', vc', rfl⟩ := form
        clear h1 h2 HB0 HA0
        by_cases hend : k = t.size
        · have hrest : t.extract k t.size = ⟨#[]⟩ := ba_eq (by rw [exl, hend, ← htl, List.drop_length])
          have HE : Hid (numL T.data.toList = (out ++ [x], true)) := numL_some (by
            rw [HN.out, nums_end t.data.toList ?_ ?_]
            · rw [HKK.out, HRR.out]; rfl
            · rw [HKK.out, HRR.out]
            · rw [HKK.out, hend, ← htl, List.drop_length]) (by rw [List.length_append]; simp; omega)
          clear hend
          go_wp2
          go_ret2
          refine ⟨.slice va' (out ++ [x]).length vc', ?_, ?_, HN3.out⟩
          · rw [HE.out]; rfl
          · rw [HE.out]; exact H1.out
        · have hrs := ex_size t k t.size (by omega) (Nat.le_refl _)
          have hrne : t.extract k t.size ≠ ⟨#[]⟩ := fun e => by have h0 : (⟨#[]⟩ : ByteArray).size = 0 := rfl; rw [e, h0] at hrs; omega
          obtain ⟨q0, q0b⟩ := empn _ hrne
          have HX : Hid _ := fun w => sgap (t.extract k t.size) w (by omega)
          have hrl : (t.extract k t.size).data.toList = t.data.toList.drop (dk t.data.toList) := by rw [exl, HKK.out]
          have hne : t.data.toList.drop (dk t.data.toList) ≠ [] := by
            rw [HKK.out]; intro e; have := congrArg List.length e; rw [List.length_drop] at this; simp at this; omega
          have hgs := gapT_size (t.extract k t.size)
          have hgl : (gapT (t.extract k t.size)).data.toList = gapB (t.data.toList.drop (dk t.data.toList)) := by
            show gapB _ = _; rw [hrl]
          have HPV : Hid _ := part_val (t.extract k t.size) (by omega)
          have HEQ : Hid _ := gapT_eq (t.extract k t.size)
          rw [hrl] at HPV
          have HP1 : Hid (partB (t.data.toList.drop (dk t.data.toList)) = false → numL T.data.toList = ([], false)) := fun h => numL_none (by
            rw [HN.out, nums_part t.data.toList (by rw [HKK.out, HRR.out]) hne h]; rfl)
          have HP2 : Hid (partB (t.data.toList.drop (dk t.data.toList)) = true → nums T.data.toList = (nums (gapT (t.extract k t.size)).data.toList).map ((out ++ [x]) ++ ·)) := fun h => by
            rw [HN.out, nums_more t.data.toList (by rw [HKK.out, HRR.out]) hne h, hgl, HKK.out, HRR.out, Option.map_map]
            congr 1
            funext y
            simp
          clear hrl hne hgl hrne
          generalize partB (t.data.toList.drop (dk t.data.toList)) = pt at *
          obtain ⟨rt, hrt⟩ : ∃ rt, t.extract k t.size = rt := ⟨_, rfl⟩
          rw [hrt] at HX hrs hgs HP2 q0 q0b HEQ
          have HPV2 : Hid (∀ h : 0 < rt.size, pt = (decide ((gapT rt).size < rt.size) || isS rt[0])) := by
            show ∀ h, _
            intro h
            subst hrt
            exact HPV.out
          clear HPV
          generalize gapT rt = gt at *
          by_cases hsame : gt.size = rt.size
          · have hgr := HEQ.out hsame
            have hz : 0 < rt.size := by omega
            have HPV3 : Hid (pt = isS (rt[0]'hz)) := by show _ = _; rw [HPV2.out hz, decide_eq_false (by omega)]; rfl
            clear HEQ HPV2 hsame hgs
            subst hgr
            have hq : ((gt.size : Int) == (gt.size : Int)) = true := by simp
            by_cases c45 : gt[0] = 45
            · have g45 : ((gt[0].toNat : Int) != 45) = false := by rw [c45]; rfl
              have HE : Hid _ := HP2.out (by rw [HPV3.out, c45]; rfl)
              clear c45 HP1 HP2 HPV3
              go_wp2_with fail
              refine (HX.out _).mono ?_; rintro e w4 ⟨rfl, rfl⟩
              go_wp2
              go_roundw
              case rel => exact ⟨gt, out ++ [x], _, rfl, rfl, by omega, by rw [List.length_append]; simp; omega, HE.out, by have h := H1.out; rw [List.length_append] at h; exact h, HN3.out⟩
              case measure => simp [Lib.strSize]; omega
            · have g45 : ((gt[0].toNat : Int) != 45) = true := neI gt[0] 45 c45
              by_cases c43 : gt[0] = 43
              · have g43 : ((gt[0].toNat : Int) != 43) = false := by rw [c43]; rfl
                have HE : Hid _ := HP2.out (by rw [HPV3.out, c43]; rfl)
                clear c45 c43 HP1 HP2 HPV3
                go_wp2_with fail
                refine (HX.out _).mono ?_; rintro e w4 ⟨rfl, rfl⟩
                go_wp2
                go_roundw
                case rel => exact ⟨gt, out ++ [x], _, rfl, rfl, by omega, by rw [List.length_append]; simp; omega, HE.out, by have h := H1.out; rw [List.length_append] at h; exact h, HN3.out⟩
                case measure => simp [Lib.strSize]; omega
              · have g43 : ((gt[0].toNat : Int) != 43) = true := neI gt[0] 43 c43
                have HE : Hid (numL T.data.toList = ([], false)) := HP1.out (by rw [HPV3.out]; unfold isS; simp [c45, c43])
                clear c45 c43 HP1 HP2 HPV3
                go_wp2_with fail
                refine (HX.out _).mono ?_; rintro e w4 ⟨rfl, rfl⟩
                go_wp2
                go_ret2
                refine ⟨.slice none 0 0, ?_, ?_, HN3.out⟩
                · rw [HE.out]; rfl
                · rw [HE.out]; exact Ins.nil _ _
          · have hq : ((gt.size : Int) == (rt.size : Int)) = false := by rw [beq_eq_false_iff_ne]; omega
            have HE : Hid _ := HP2.out (by rw [HPV2.out (by omega), decide_eq_true (by omega)]; rfl)
            clear HEQ HPV2 HP1 HP2
            go_wp2_with fail
            refine (HX.out _).mono ?_; rintro e w4 ⟨rfl, rfl⟩
            go_wp2
            go_roundw
            case rel => exact ⟨gt, out ++ [x], _, rfl, rfl, by omega, by rw [List.length_append]; simp; omega, HE.out, by have h := H1.out; rw [List.length_append] at h; exact h, HN3.out⟩
            case measure => simp [Lib.strSize]; omega
end Go.Proofs.YtfodmjdhpolnkaaDoor
