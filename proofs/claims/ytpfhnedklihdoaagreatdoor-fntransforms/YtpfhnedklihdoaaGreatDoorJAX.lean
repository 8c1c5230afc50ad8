/-
  What the program's rowOf answers; for texts of at most 1048576 bytes.
  What the specification's l7Numbers answers; for texts of at most 600 bytes.
  What the specification reads of a transform: some affine, whatever the text; each theorem names its conditions.
  What the specification makes of one word of a transform, all ways; each theorem names its conditions.
-/
import Derived.Test.YtpfhnedklihdoaaGreatDoorJAW
import Derived.Test.YtpfhnedklihdoaaGreatDoorJAR
import Derived.Test.YtpfhnedklihdoaaGreatDoorJAV
import Derived.Test.YtpfhnedklihdoaaGreatDoorJAB
import Derived.Test.YtpfhnedklihdoaaGreatDoorJAI
import Derived.Test.YtpfhnedklihdoaaGreatDoorJAM
import Derived.Test.YtpfhnedklihdoaaGreatDoorJAQ
import Derived.Test.YtpfhnedklihdoaaGreatDoorJAN
import Derived.Test.YtpfhnedklihdoaaGreatDoorJAP
namespace Go.Proofs.YtpfhnedklihdoaaGreatDoor
open Go.ChangeShapes Go.WideShapes Go.ChangeAt Go.RowKit
set_option linter.unusedVariables false

theorem ns_ok (l : List UInt8) (h : (rfS (l.take (ns l))).2 = true) : ns l = dk l := by
  rcases ns_dk l with e | ⟨_, _, _, e⟩
  · exact e
  · rw [e] at h; cases h
theorem ns_bad (l : List UInt8) (h : (rfS (l.take (ns l))).2 = false) : nums l = none := by
  rcases ns_dk l with e | ⟨_, hlt, hd, _⟩
  · rw [e] at h; exact nums_bad l h
  · cases hr : (rfS (l.take (dk l))).2 with
    | false => exact nums_bad l hr
    | true =>
      refine nums_part l hr ?_ (partB_point _ hd)
      intro e
      rw [e] at hd
      cases hd
theorem nums_pos : ∀ (n : Nat) (l : List UInt8) (xs : List Int), numsF n l = some xs → 1 ≤ xs.length := by
  intro n
  induction n with
  | zero => intro l xs h; cases h
  | succ n ih =>
    intro l xs h
    unfold numsF at h
    split at h
    · split at h
      · injection h with h; rw [← h]; simp
      · split at h
        · obtain ⟨ys, h1, h2⟩ := Option.map_eq_some_iff.1 h
          rw [← h2]; simp
        · cases h
    · cases h
theorem ns_le (l : List UInt8) : ns l ≤ l.length := by
  rcases ns_dk l with e | ⟨e, h, _⟩
  · rw [e]; exact dk_le l
  · omega
/-- What rowOf answers. -/
def numV (l : List UInt8) : List Int × Bool := match nums l with | none => ([], false) | some xs => (xs, true)
theorem numV_none {l : List UInt8} (h : nums l = none) : numV l = ([], false) := by unfold numV; rw [h]
theorem numV_some {l : List UInt8} {xs : List Int} (h : nums l = some xs) : numV l = (xs, true) := by unfold numV; rw [h]
theorem ba_take (s : ByteArray) (k : Nat) : (s.extract 0 k).data.toList = s.data.toList.take k := by
  have e : s.extract 0 k = (⟨s.data.toList.toArray⟩ : ByteArray).extract 0 k := by rw [Lib.mk_data]
  rw [e, Lib.extract_mk, List.drop_zero, Nat.sub_zero]
set_option maxHeartbeats 4000000 in
theorem irow (s : ByteArray) (w : World) (hs : s.size ≤ 1048576) : Calls Tryz.prog 22 #[.string s] w fun e w' => ∃ v, e = .returned (.tuple #[v, .bool (numV s.data.toList).2]) ∧ Ins w' w.heap.size v (numV s.data.toList).1 ∧ Below w.heap.size w w' := by
  go_enter Tryz.func22, Tryz.ntmps22
  go_wp2
  go_loopw [0, 4] (fun x y wr => ∃ (t : ByteArray) (out : List Int) (v : Value), x = .string t ∧ y = v ∧ t.size ≤ s.size ∧ out.length + t.size ≤ s.size ∧ nums s.data.toList = (nums t.data.toList).map (out ++ ·) ∧ Ins wr w.heap.size v out ∧ Below w.heap.size w wr) (fun x _ _ => Lib.strSize x)
  case atStart => exact ⟨s, [], _, rfl, rfl, Nat.le_refl _, by simp, by cases nums s.data.toList <;> simp, Ins.nil _ _, Below.refl _ _⟩
  case round =>
    obtain ⟨t, out, v, rfl, hy, hts, hlen, hnum, hins, hw⟩ := hrel
    have hy2 := hy.symm
    clear hy
    subst hy2
    have HI : Hid (Ins wr w.heap.size v out) := hins
    have HW : Hid (Below w.heap.size w wr) := hw
    have HN : Hid _ := hnum
    have form : ∃ a c, v = .slice a out.length c := by
      rcases hins.lay with ⟨rfl, rfl⟩ | ⟨g, c, rfl, _⟩
      · exact ⟨none, 0, rfl⟩
      · exact ⟨_, c, rfl⟩
    obtain ⟨va, vc, rfl⟩ := form
    clear hins hw hnum
    have hle := ns_le t.data.toList
    have htl : t.data.toList.length = t.size := by simp
    have HSz : Hid _ := fun w => inum t w (by omega)
    have HR : Hid _ := fun w => iread_x (t.extract 0 (ns t.data.toList)) (by rw [ByteArray.size_extract]; omega) w
    rw [ba_take] at HR
    have HOK : Hid _ := ns_ok t.data.toList
    have HBAD : Hid _ := ns_bad t.data.toList
    have hbd := rfS_bd (t.data.toList.take (ns t.data.toList))
    have HFalse : Hid _ := rfS_false (t.data.toList.take (ns t.data.toList))
    obtain ⟨k, hk⟩ : ∃ k, ns t.data.toList = k := ⟨_, rfl⟩
    rw [hk] at hle HSz HR HOK HBAD hbd HFalse
    have HKK : Hid _ := hk
    clear hk
    obtain ⟨r, hr⟩ : ∃ r, rfS (t.data.toList.take k) = r := ⟨_, rfl⟩
    rw [hr] at HR HOK HBAD hbd HFalse
    have HRR : Hid _ := hr
    clear hr
    obtain ⟨x, ok⟩ := r
    cases ok with
    | false =>
      have HE : Hid (numV s.data.toList = ([], false)) := numV_none (by rw [HN.out, HBAD.out rfl]; rfl)
      go_wp2_with fail
      refine (HSz.out _).mono ?_; rintro e w1 ⟨rfl, rfl⟩
      go_wp2_with fail
      refine (HR.out _).mono ?_; rintro e w2 ⟨rfl, hk2⟩
      have HK2 : Hid (Kp _ _) := hk2
      clear hk2
      go_wp2
      go_ret2
      refine ⟨.slice none 0 0, ?_, ?_, ?_⟩
      · rw [HE.out]; rfl
      · rw [HE.out]; exact Ins.nil _ _
      · exact Below.trans HW.out (Below.mono HK2.out.1 (Below.size HW.out))
    | true =>
      have HKD : Hid _ := HOK.out rfl
      go_wp2_with fail
      refine (HSz.out _).mono ?_; rintro e w1 ⟨rfl, rfl⟩
      go_wp2_with fail
      refine (HR.out _).mono ?_; rintro e w2 ⟨rfl, hk2⟩
      have HK2 : Hid (Kp _ _) := hk2
      clear hk2
      have HB0 : ∀ o, Hid (Nw w1 (w2.alloc o)) := fun o => by
        have h1 : Nw w1 w2 := HK2.out.1
        exact Below.alloc h1 (Below.size h1) o
      have HA0 : ∀ o, Hid (Below w.heap.size w (w2.alloc o)) := fun o => Below.trans HW.out (Below.mono (HB0 o).out (Below.size HW.out))
      have hol : out.length ≤ 10000000 := by omega
      go_wp2_with (at_builtin; (refine wp_in _ rfl _ _ rfl w.heap.size _ out x rfl (HI.out.nw (HB0 _).out) _ rfl ?c1 hol ?c3 ?_))
      case c1 => simp
      case c3 => exact Below.size (HA0 _).out
      intro v' w' h1 h2
      have HN3 : Hid (Below w.heap.size w w') := Below.trans (HA0 _).out (Ins.below (HI.out.nw (HB0 _).out) h2 (Below.size (HA0 _).out))
      have H1 : Hid (Ins w' w.heap.size v' (out ++ [x])) := h1
      have form : ∃ a c, v' = .slice a (out ++ [x]).length c := by
        rcases h1.lay with ⟨rfl, h⟩ | ⟨g, c, rfl, _⟩
        · simp at h
        · exact ⟨_, c, rfl⟩
      obtain ⟨va', vc', rfl⟩ := form
      clear h1 h2 HB0 HA0
      have hkd := HKD.out
      by_cases hend : k = t.size
      · have hq : ((k : Int) == (t.size : Int)) = true := by rw [hend]; simp
        have HE : Hid (numV s.data.toList = (out ++ [x], true)) := numV_some (by
          rw [HN.out, nums_end t.data.toList ?_ ?_]
          · rw [← hkd, HRR.out]; rfl
          · rw [← hkd, HRR.out]
          · rw [← hkd, hend, ← htl, List.drop_length])
        clear hend hkd
        go_wp2
        go_ret2
        refine ⟨.slice va' (out ++ [x]).length vc', ?_, ?_, HN3.out⟩
        · rw [HE.out]; rfl
        · rw [HE.out]; exact H1.out
      · have hq : ((k : Int) == (t.size : Int)) = false := by rw [beq_eq_false_iff_ne]; omega
        have hrs := ex_size t k t.size (by omega) (Nat.le_refl _)
        have HX : Hid _ := fun w => inext (t.extract k t.size) w (by omega) (by omega)
        have hrl : (t.extract k t.size).data.toList = t.data.toList.drop (dk t.data.toList) := by rw [exl, hkd]
        have hne : t.data.toList.drop (dk t.data.toList) ≠ [] := by
          rw [← hkd]; intro e; have := congrArg List.length e; rw [List.length_drop] at this; simp at this; omega
        have hgs := gapT_size (t.extract k t.size)
        have hgl : (gapT (t.extract k t.size)).data.toList = gapB (t.data.toList.drop (dk t.data.toList)) := by
          show gapB _ = _; rw [hrl]
        rw [hrl] at HX
        have HP1 : Hid (partB (t.data.toList.drop (dk t.data.toList)) = false → nums s.data.toList = none) := fun h => by
          rw [HN.out, nums_part t.data.toList (by rw [← hkd, HRR.out]) hne h]; rfl
        have HP2 : Hid (partB (t.data.toList.drop (dk t.data.toList)) = true → nums s.data.toList = (nums (gapT (t.extract k t.size)).data.toList).map ((out ++ [x]) ++ ·)) := fun h => by
          rw [HN.out, nums_more t.data.toList (by rw [← hkd, HRR.out]) hne h, hgl, ← hkd, HRR.out, Option.map_map]
          congr 1
          funext y
          simp
        have hkp : 1 ≤ k := by rw [hkd]; exact dk_pos t.data.toList (by rw [← hkd, HRR.out])
        clear hrl hne hgl hkd
        generalize partB (t.data.toList.drop (dk t.data.toList)) = pt at *
        obtain ⟨rt, hrt⟩ : ∃ rt, t.extract k t.size = rt := ⟨_, rfl⟩
        rw [hrt] at HX hrs hgs HP2
        generalize gapT rt = gt at *
        cases pt with
        | false =>
          have HE : Hid (numV s.data.toList = ([], false)) := numV_none (HP1.out rfl)
          go_wp2_with fail
          refine (HX.out _).mono ?_; rintro e w4 ⟨rfl, b4⟩
          have B4 : Hid _ := b4
          clear b4
          go_wp2
          go_ret2
          refine ⟨.slice none 0 0, ?_, ?_, ?_⟩
          · rw [HE.out]; rfl
          · rw [HE.out]; exact Ins.nil _ _
          · exact Below.trans HN3.out (Below.mono B4.out (Below.size HN3.out))
        | true =>
          have HE : Hid _ := HP2.out rfl
          go_wp2_with fail
          refine (HX.out _).mono ?_; rintro e w4 ⟨rfl, b4⟩
          have B4 : Hid _ := b4
          clear b4
          go_wp2
          go_roundw
          case rel => exact ⟨gt, out ++ [x], _, rfl, rfl, by omega, by rw [List.length_append]; simp; omega, HE.out, by have h := Ins.nw H1.out B4.out; rw [List.length_append] at h; exact h, Below.trans HN3.out (Below.mono B4.out (Below.size HN3.out))⟩
          case measure => simp [Lib.strSize]; omega
end Go.Proofs.YtpfhnedklihdoaaGreatDoor
namespace Go.Proofs.YtpfhnedklihdoaaGreatDoor
open Go.ChangeShapes Go.WideShapes Go.ChangeAt Go.RowKit
set_option linter.unusedVariables false

/-- What ReadNumbers answers of a text without blanks around it. -/
def numL (l : List UInt8) : List Int × Bool := match nums l with | none => ([], false) | some xs => if xs.length ≤ 60 then (xs, true) else ([], false)
theorem numL_none {l : List UInt8} (h : nums l = none) : numL l = ([], false) := by unfold numL; rw [h]
theorem numL_some {l : List UInt8} {xs : List Int} (h : nums l = some xs) (hl : xs.length ≤ 60) : numL l = (xs, true) := by unfold numL; rw [h]; simp [hl]
theorem numL_many {l t : List UInt8} {out : List Int} (h : nums l = (nums t).map (out ++ ·)) (hl : out.length = 60) : numL l = ([], false) := by
  unfold numL
  rw [h]
  match hn : nums t with
  | none => rfl
  | some ys =>
    have := nums_pos _ _ _ hn
    show (if (out ++ ys).length ≤ 60 then (out ++ ys, true) else ([], false)) = _
    rw [if_neg (by rw [List.length_append]; omega)]
theorem numL_numV (l : List UInt8) : numL l = if (numV l).2 = true ∧ (numV l).1.length ≤ 60 then ((numV l).1, true) else ([], false) := by
  unfold numL numV
  match nums l with
  | none => simp
  | some xs => simp
theorem gapB_suf (l : List UInt8) : ∃ j, gapB l = l.drop j := by
  have hd : ∀ l : List UInt8, ∃ j, dropB l = l.drop j := fun l => by
    unfold dropB Lib.trimLeftS
    induction l with
    | nil => exact ⟨0, rfl⟩
    | cons x l ih =>
      rw [List.dropWhile_cons]
      split
      · obtain ⟨j, h⟩ := ih; exact ⟨j + 1, by rw [h]; rfl⟩
      · exact ⟨0, rfl⟩
  obtain ⟨j, h⟩ := hd l
  unfold gapB
  rw [h]
  match he : l.drop j with
  | [] => exact ⟨j, he.symm⟩
  | c :: t =>
    show ∃ j, (if c = 44 then dropB t else c :: t) = l.drop j
    split
    · obtain ⟨i, h2⟩ := hd t
      refine ⟨j + (1 + i), ?_⟩
      rw [h2, ← List.drop_drop, he, Nat.add_comm, List.drop_succ_cons]
    · exact ⟨j, he.symm⟩
theorem gapT_eq (r : ByteArray) (h : (gapT r).size = r.size) : gapT r = r := by
  obtain ⟨j, e⟩ := gapB_suf r.data.toList
  have hl : (gapB r.data.toList).length = r.data.toList.length := by
    unfold gapT at h; rw [Lib.size_mk, Lib.size_eq] at h; exact h
  apply ba_eq
  show gapB _ = _
  rw [e, List.length_drop] at hl
  rw [e]
  by_cases h0 : r.data.toList.length = 0
  · rw [List.eq_nil_of_length_eq_zero h0, List.drop_nil]
  · rw [show j = 0 by omega, List.drop_zero]
theorem neI (c : UInt8) (n : UInt8) (h : ¬ c = n) : ((c.toNat : Int) != (n.toNat : Int)) = true := by
  rw [bne_iff_ne]; intro e; apply h; apply UInt8.toNat_inj.1; omega
set_option maxHeartbeats 4000000 in
theorem snums (s : ByteArray) (w : World) (hs : s.size ≤ 600) : Calls Tryz.prog 23 #[.string s] w fun e w' => ∃ v, e = .returned (.tuple #[v, .bool (numL (TB s).data.toList).2]) ∧ Ins w' w.heap.size v (numL (TB s).data.toList).1 ∧ Below w.heap.size w w' := by
  have HT : Hid _ := fun w => strim s w (by omega)
  have hTs := TB_le s
  generalize TB s = T at *
  go_enter Tryz.func23, Tryz.ntmps23
  go_wp2_with fail
  refine (HT.out _).mono ?_; rintro e w0 ⟨rfl, rfl⟩
  go_wp2
  go_loopw [0, 4] (fun x y wr => ∃ (t : ByteArray) (out : List Int) (v : Value), x = .string t ∧ y = v ∧ t.size ≤ T.size ∧ out.length ≤ 60 ∧ nums T.data.toList = (nums t.data.toList).map (out ++ ·) ∧ Ins wr w0.heap.size v out ∧ Below w0.heap.size w0 wr) (fun x _ _ => Lib.strSize x)
  case atStart => exact ⟨T, [], _, rfl, rfl, Nat.le_refl _, by simp, by cases nums T.data.toList <;> simp, Ins.nil _ _, Below.refl _ _⟩
  case round =>
    obtain ⟨t, out, v, rfl, hy, hts, hlen, hnum, hins, hw⟩ := hrel
    have hy2 := hy.symm
    clear hy
    subst hy2
    have HI : Hid (Ins wr w0.heap.size v out) := hins
    have HW : Hid (Below w0.heap.size w0 wr) := hw
    have HN : Hid _ := hnum
    have form : ∃ a c, v = .slice a out.length c := by
      rcases hins.lay with ⟨rfl, rfl⟩ | ⟨g, c, rfl, _⟩
      · exact ⟨none, 0, rfl⟩
      · exact ⟨_, c, rfl⟩
    obtain ⟨va, vc, rfl⟩ := form
    clear hins hw hnum
    have hle := dk_le t.data.toList
    have htl : t.data.toList.length = t.size := by simp
    have HD : Hid (∀ w, Calls Tryz.prog 40 #[.string t] w fun e w' => ∃ n x : Int, e = .returned (.tuple #[.int .i64 n, .int .i64 x]) ∧ w' = w ∧ DV (dk t.data.toList) (rfS (t.data.toList.take (dk t.data.toList))) n x) := fun w => dec_x t (by omega) w
    have HBAD : Hid _ := nums_bad t.data.toList
    have HPOS : Hid _ := dk_pos t.data.toList
    obtain ⟨k, hk⟩ : ∃ k, dk t.data.toList = k := ⟨_, rfl⟩
    have HKK : Hid (dk t.data.toList = k) := hk
    rw [hk] at hle HD HBAD HPOS
    clear hk
    obtain ⟨r, hr⟩ : ∃ r, rfS (t.data.toList.take k) = r := ⟨_, rfl⟩
    rw [hr] at HD HBAD HPOS
    have HRR : Hid _ := hr
    clear hr
    obtain ⟨x, ok⟩ := r
    cases ok with
    | false =>
      have HE : Hid (numL T.data.toList = ([], false)) := numL_none (by rw [HN.out, HBAD.out rfl]; rfl)
      go_wp2_with fail
      refine (HD.out _).mono ?_; rintro e w1 ⟨n, y, rfl, rfl, hv⟩
      obtain rfl : n = 0 := by
        rcases hv with ⟨h1, _⟩ | ⟨_, h1⟩
        · cases h1
        · exact h1
      clear hv
      go_wp2
      go_ret2
      refine ⟨.slice none 0 0, ?_, ?_, HW.out⟩
      · rw [HE.out]; rfl
      · rw [HE.out]; exact Ins.nil _ _
    | true =>
      have hkp := HPOS.out rfl
      have z : ((k : Int) == 0) = false := by rw [beq_eq_false_iff_ne]; omega
      go_wp2_with fail
      refine (HD.out _).mono ?_; rintro e w1 ⟨n, y, rfl, rfl, hv⟩
      obtain ⟨hn, hyx⟩ : (k : Int) = n ∧ x = y := by
        rcases hv with ⟨_, h1, h2⟩ | ⟨h1, _⟩
        · exact ⟨h1.symm, h2.symm⟩
        · cases h1
      subst hn hyx
      clear hv
      by_cases h60 : out.length = 60
      · have HE : Hid (numL T.data.toList = ([], false)) := numL_many HN.out h60
        have hq60 : ((out.length : Int) == 60) = true := by rw [h60]; rfl
        clear h60
        go_wp2
        go_ret2
        refine ⟨.slice none 0 0, ?_, ?_, HW.out⟩
        · rw [HE.out]; rfl
        · rw [HE.out]; exact Ins.nil _ _
      · have hq60 : ((out.length : Int) == 60) = false := by rw [beq_eq_false_iff_ne]; omega
        have HB0 : ∀ o, Hid (Nw w1 (w1.alloc o)) := fun o => (Below.refl _ _).alloc (Nat.le_refl _) o
        have HA0 : ∀ o, Hid (Below w0.heap.size w0 (w1.alloc o)) := fun o => Below.trans HW.out (Below.mono (HB0 o).out (Below.size HW.out))
        have hol : out.length ≤ 10000000 := by omega
        go_wp2_with (at_builtin; (refine wp_in _ rfl _ _ rfl w0.heap.size _ out x rfl (HI.out.nw (HB0 _).out) _ rfl ?c1 hol ?c3 ?_))
        case c1 => simp
        case c3 => exact Below.size (HA0 _).out
        intro v' w' h1 h2
        have HN3 : Hid (Below w0.heap.size w0 w') := Below.trans (HA0 _).out (Ins.below (HI.out.nw (HB0 _).out) h2 (Below.size (HA0 _).out))
        have H1 : Hid (Ins w' w0.heap.size v' (out ++ [x])) := h1
        have form : ∃ a c, v' = .slice a (out ++ [x]).length c := by
          rcases h1.lay with ⟨rfl, h⟩ | ⟨g, c, rfl, _⟩
          · simp at h
          · exact ⟨_, c, rfl⟩
        obtain ⟨va', vc', rfl⟩ := form
        clear h1 h2 HB0 HA0
        by_cases hend : k = t.size
        · have hrest : t.extract k t.size = ⟨#[]⟩ := ba_eq (by rw [exl, hend, ← htl, List.drop_length])
          have HE : Hid (numL T.data.toList = (out ++ [x], true)) := numL_some (by
            rw [HN.out, nums_end t.data.toList ?_ ?_]
            · rw [HKK.out, HRR.out]; rfl
            · rw [HKK.out, HRR.out]
            · rw [HKK.out, hend, ← htl, List.drop_length]) (by rw [List.length_append]; simp; omega)
          clear hend
          go_wp2
          go_ret2
          refine ⟨.slice va' (out ++ [x]).length vc', ?_, ?_, HN3.out⟩
          · rw [HE.out]; rfl
          · rw [HE.out]; exact H1.out
        · have hrs := ex_size t k t.size (by omega) (Nat.le_refl _)
          have hrne : t.extract k t.size ≠ ⟨#[]⟩ := fun e => by have h0 : (⟨#[]⟩ : ByteArray).size = 0 := rfl; rw [e, h0] at hrs; omega
          obtain ⟨q0, q0b⟩ := empn _ hrne
          have HX : Hid _ := fun w => sgap (t.extract k t.size) w (by omega)
          have hrl : (t.extract k t.size).data.toList = t.data.toList.drop (dk t.data.toList) := by rw [exl, HKK.out]
          have hne : t.data.toList.drop (dk t.data.toList) ≠ [] := by
            rw [HKK.out]; intro e; have := congrArg List.length e; rw [List.length_drop] at this; simp at this; omega
          have hgs := gapT_size (t.extract k t.size)
          have hgl : (gapT (t.extract k t.size)).data.toList = gapB (t.data.toList.drop (dk t.data.toList)) := by
            show gapB _ = _; rw [hrl]
          have HPV : Hid _ := part_val (t.extract k t.size) (by omega)
          have HEQ : Hid _ := gapT_eq (t.extract k t.size)
          rw [hrl] at HPV
          have HP1 : Hid (partB (t.data.toList.drop (dk t.data.toList)) = false → numL T.data.toList = ([], false)) := fun h => numL_none (by
            rw [HN.out, nums_part t.data.toList (by rw [HKK.out, HRR.out]) hne h]; rfl)
          have HP2 : Hid (partB (t.data.toList.drop (dk t.data.toList)) = true → nums T.data.toList = (nums (gapT (t.extract k t.size)).data.toList).map ((out ++ [x]) ++ ·)) := fun h => by
            rw [HN.out, nums_more t.data.toList (by rw [HKK.out, HRR.out]) hne h, hgl, HKK.out, HRR.out, Option.map_map]
            congr 1
            funext y
            simp
          clear hrl hne hgl hrne
          generalize partB (t.data.toList.drop (dk t.data.toList)) = pt at *
          obtain ⟨rt, hrt⟩ : ∃ rt, t.extract k t.size = rt := ⟨_, rfl⟩
          rw [hrt] at HX hrs hgs HP2 q0 q0b HEQ
          have HPV2 : Hid (∀ h : 0 < rt.size, pt = (decide ((gapT rt).size < rt.size) || isS rt[0])) := by
            show ∀ h, _
            intro h
            subst hrt
            exact HPV.out
          clear HPV
          generalize gapT rt = gt at *
          by_cases hsame : gt.size = rt.size
          · have hgr := HEQ.out hsame
            have hz : 0 < rt.size := by omega
            have HPV3 : Hid (pt = isS (rt[0]'hz)) := by show _ = _; rw [HPV2.out hz, decide_eq_false (by omega)]; rfl
            clear HEQ HPV2 hsame hgs
            subst hgr
            have hq : ((gt.size : Int) == (gt.size : Int)) = true := by simp
            by_cases c45 : gt[0] = 45
            · have g45 : ((gt[0].toNat : Int) != 45) = false := by rw [c45]; rfl
              have HE : Hid _ := HP2.out (by rw [HPV3.out, c45]; rfl)
              clear c45 HP1 HP2 HPV3
              go_wp2_with fail
              refine (HX.out _).mono ?_; rintro e w4 ⟨rfl, rfl⟩
              go_wp2
              go_roundw
              case rel => exact ⟨gt, out ++ [x], _, rfl, rfl, by omega, by rw [List.length_append]; simp; omega, HE.out, by have h := H1.out; rw [List.length_append] at h; exact h, HN3.out⟩
              case measure => simp [Lib.strSize]; omega
            · have g45 : ((gt[0].toNat : Int) != 45) = true := neI gt[0] 45 c45
              by_cases c43 : gt[0] = 43
              · have g43 : ((gt[0].toNat : Int) != 43) = false := by rw [c43]; rfl
                have HE : Hid _ := HP2.out (by rw [HPV3.out, c43]; rfl)
                clear c45 c43 HP1 HP2 HPV3
                go_wp2_with fail
                refine (HX.out _).mono ?_; rintro e w4 ⟨rfl, rfl⟩
                go_wp2
                go_roundw
                case rel => exact ⟨gt, out ++ [x], _, rfl, rfl, by omega, by rw [List.length_append]; simp; omega, HE.out, by have h := H1.out; rw [List.length_append] at h; exact h, HN3.out⟩
                case measure => simp [Lib.strSize]; omega
              · have g43 : ((gt[0].toNat : Int) != 43) = true := neI gt[0] 43 c43
                have HE : Hid (numL T.data.toList = ([], false)) := HP1.out (by rw [HPV3.out]; unfold isS; simp [c45, c43])
                clear c45 c43 HP1 HP2 HPV3
                go_wp2_with fail
                refine (HX.out _).mono ?_; rintro e w4 ⟨rfl, rfl⟩
                go_wp2
                go_ret2
                refine ⟨.slice none 0 0, ?_, ?_, HN3.out⟩
                · rw [HE.out]; rfl
                · rw [HE.out]; exact Ins.nil _ _
          · have hq : ((gt.size : Int) == (rt.size : Int)) = false := by rw [beq_eq_false_iff_ne]; omega
            have HE : Hid _ := HP2.out (by rw [HPV2.out (by omega), decide_eq_true (by omega)]; rfl)
            clear HEQ HPV2 HP1 HP2
            go_wp2_with fail
            refine (HX.out _).mono ?_; rintro e w4 ⟨rfl, rfl⟩
            go_wp2
            go_roundw
            case rel => exact ⟨gt, out ++ [x], _, rfl, rfl, by omega, by rw [List.length_append]; simp; omega, HE.out, by have h := H1.out; rw [List.length_append] at h; exact h, HN3.out⟩
            case measure => simp [Lib.strSize]; omega
end Go.Proofs.YtpfhnedklihdoaaGreatDoor
namespace Go.Proofs.YtpfhnedklihdoaaGreatDoor
open Go.ChangeShapes Go.WideShapes Go.ChangeAt Go.RowKit
set_option linter.unusedVariables false

def OneS : Prop := ∀ (w : World) (word : ByteArray) (va : Option Addr) (vc : Nat) (l : List Int), l.length ≤ 60 → Nms w va l → Calls Tryz.prog 71 #[.string word, .slice va l.length vc] w fun e w' => AffSome e ∧ Nw w w'
theorem fnd_two {s : ByteArray} {c d : UInt8} (hne : c ≠ d) {k : Nat} (hk : k ≤ s.size) (h : fndB c s k < s.size) : fndB c s k + 1 ≤ fndB d s (fndB c s k) := by
  have hcd : s[fndB c s k]'h = c := by
    have e1 : fndB c s k = k + brk c (s.data.toList.drop k) := rfl
    have hl : brk c (s.data.toList.drop k) < (s.data.toList.drop k).length := by rw [List.length_drop, data_len]; omega
    have h2 := brk_at c (s.data.toList.drop k) hl
    rw [List.getElem_drop] at h2
    exact h2
  generalize fndB c s k = j at *
  rw [fndB_miss h (by rw [hcd]; exact hne)]
  unfold fndB
  omega
theorem gapT_len (s : ByteArray) : (gapT s).size ≤ s.size := by
  have h := gapB_len s.data.toList
  rw [data_len] at h
  exact h
theorem numL_few (l : List UInt8) : (numL l).1.length ≤ 60 := by
  unfold numL
  split
  · simp
  · split
    · assumption
    · simp
def szV : Value → Nat
  | .string s => s.size
  | _ => 0
theorem mul_some (a b c d e f a' b' c' d' e' f' : Int) : ∃ x0 x1 x2 x3 x4 x5 : Int, ∀ w, Calls Tryz.prog 15 #[.agg #[.int .i64 a, .int .i64 b, .int .i64 c, .int .i64 d, .int .i64 e, .int .i64 f], .agg #[.int .i64 a', .int .i64 b', .int .i64 c', .int .i64 d', .int .i64 e', .int .i64 f']] w fun x w' => x = .returned (.agg #[.int .i64 x0, .int .i64 x1, .int .i64 x2, .int .i64 x3, .int .i64 x4, .int .i64 x5]) ∧ Kp w w' :=
  ⟨_, _, _, _, _, _, fun w => sl7mul w a b c d e f a' b' c' d' e' f' fmV sfm⟩
theorem good_some (a b c d e f : Int) : ∃ g : Bool, ∀ w, Calls Tryz.prog 7 #[.agg #[.int .i64 a, .int .i64 b, .int .i64 c, .int .i64 d, .int .i64 e, .int .i64 f]] w fun x w' => x = .returned (.bool g) ∧ Kp w w' :=
  ⟨_, fun w => sgoodAff w a b c d e f⟩
set_option maxRecDepth 100000 in
set_option maxHeartbeats 16000000 in
theorem l7trans_some (H1 : OneS) (w : World) (s0 : ByteArray) (hs0 : s0.size ≤ 600) :
    Calls Tryz.prog 42 #[.string s0] w fun e w' => AffSome e ∧ Nw w w' := by
  have HONE : Hid OneS := H1
  clear H1
  obtain ⟨W0, hW0⟩ : ∃ W0, w.alloc (.cells #[.int .i64 0, .int .i64 0, .int .i64 0, .int .i64 0, .int .i64 0, .int .i64 0] 24) = W0 := ⟨_, rfl⟩
  have HW0 : Hid (_ = W0) := hW0
  have htb := TB_le s0
  have HTB : Hid (Calls Tryz.prog 39 #[.string s0] _ _) := strim s0 w (by omega)
  clear hW0 HTB
  go_enter Tryz.func42, Tryz.ntmps42
  go_wp2_with fail
  rw [HW0.out]
  refine (ssame W0).mono ?_
  rintro e w1 ⟨rfl, h1⟩
  have HO : Hid (OS w _ w1.heap.size) := OS.start w W0 w1 HW0.out h1
  clear h1 HW0
  obtain ⟨W, hW⟩ : ∃ W, w1.alloc (.cells #[.int .i64 65536, .int .i64 0, .int .i64 0, .int .i64 65536, .int .i64 0, .int .i64 0] 24) = W := ⟨_, rfl⟩
  have HW : Hid (_ = W) := hW
  rw [hW] at HO
  clear hW
  go_wp2_with fail
  rw [HW.out]
  clear HW
  generalize w1.heap.size = P at *
  clear w1
  refine (strim s0 W (by omega)).mono ?_
  rintro e w2 ⟨rfl, hq⟩
  have hq2 := hq.symm; clear hq; subst hq2
  generalize TB s0 = t0 at *
  have ht0 : t0.size ≤ 600 := by omega
  go_wp2
  go_loopw [0] (fun v wr => ∃ s : ByteArray, v = .string s ∧ s.size ≤ 600 ∧ OS w wr P) (fun v _ => szV v)
  case atStart => exact ⟨t0, rfl, ht0, HO.out⟩
  case round =>
    obtain ⟨s, rfl, hs, hos⟩ := hrel
    have OR : Hid (OS w wr P) := hos
    clear hos
    by_cases hz : s.size = 0
    · obtain rfl := empty_of hz
      obtain ⟨a0, a1, a2, a3, a4, a5, y0, y1, y2, y3, y4, y5, yf⟩ := OR.out.p.get
      obtain ⟨z0, z1, z2, z3, z4, z5, q0, q1, q2, q3, q4, q5, qf⟩ := OR.out.r.get
      obtain ⟨t0, t1, t2, t3, t4, t5⟩ := sset6 wr w.heap.size (.int .i64 a0) (.int .i64 a1) (.int .i64 a2) (.int .i64 a3) (.int .i64 a4) (.int .i64 a5) q0 q1 q2 q3 q4 q5
      go_wp2
      refine bodyPost_ret (v := .tuple #[.agg #[.int .i64 a0, .int .i64 a1, .int .i64 a2, .int .i64 a3, .int .i64 a4, .int .i64 a5], .bool true]) (by simp [results, Tryz.results42, go_sem, t0, t1, t2, t3, t4, t5]) rfl ⟨⟨_, _, _, _, _, _, _, rfl⟩, nw_six OR.out.nw (Nat.le_refl _) _ _ _ _ _ _⟩
    · have n1 := ne_nil (s := s) (by omega)
      have n2 := ne_emp (s := s) (by omega)
      have HF1 : Hid (Calls Tryz.prog 70 #[.string s, .int .i64 (0 : Nat), .int .u8 ((40 : UInt8).toNat : Int)] wr fun e w' => e = .returned (.int .i64 (fndB 40 s 0 : Nat)) ∧ w' = wr) := sfind s 40 0 wr (Nat.zero_le _) (by omega)
      have hop : fndB 40 s 0 ≤ s.size := fndB_le (Nat.zero_le _)
      have hen : fndB 41 s (fndB 40 s 0) ≤ s.size := fndB_le hop
      have HF2 : Hid (Calls Tryz.prog 70 #[.string s, .int .i64 (fndB 40 s 0 : Nat), .int .u8 ((41 : UInt8).toNat : Int)] wr fun e w' => e = .returned (.int .i64 (fndB 41 s (fndB 40 s 0) : Nat)) ∧ w' = wr) := sfind s 41 (fndB 40 s 0) wr hop (by omega)
      have HX : Hid (fndB 41 s (fndB 40 s 0) < s.size → fndB 40 s 0 + 1 ≤ fndB 41 s (fndB 40 s 0)) := fun h => by
        by_cases h40 : fndB 40 s 0 < s.size
        · exact fnd_two (by decide) (Nat.zero_le _) h40
        · have e : fndB 41 s (fndB 40 s 0) = fndB 40 s 0 := fndB_end h40
          omega
      generalize fndB 41 s (fndB 40 s 0) = en at *
      generalize fndB 40 s 0 = op at *
      obtain ⟨z0, z1, z2, z3, z4, z5, q0, q1, q2, q3, q4, q5, qf⟩ := OR.out.r.get
      by_cases hend : en = s.size
      · have de : ((en : Int) == (s.size : Int)) = true := by rw [hend]; simp
        obtain ⟨t0, t1, t2, t3, t4, t5⟩ := sset6 wr w.heap.size (.int .i64 0) (.int .i64 0) (.int .i64 0) (.int .i64 0) (.int .i64 0) (.int .i64 0) q0 q1 q2 q3 q4 q5
        clear hend
        go_wp2_with fail
        refine Calls.mono HF1.out ?_
        rintro e w2 ⟨rfl, hq⟩
        have hq2 := hq.symm; clear hq; subst hq2
        go_wp2_with fail
        refine Calls.mono HF2.out ?_
        rintro e w2 ⟨rfl, hq⟩
        have hq2 := hq.symm; clear hq; subst hq2
        go_wp2
        refine bodyPost_ret (v := .tuple #[.agg #[.int .i64 0, .int .i64 0, .int .i64 0, .int .i64 0, .int .i64 0, .int .i64 0], .bool false]) (by simp [results, Tryz.results42, go_sem, t0, t1, t2, t3, t4, t5]) rfl ⟨⟨_, _, _, _, _, _, _, rfl⟩, nw_six OR.out.nw (Nat.le_refl _) _ _ _ _ _ _⟩
      · have de : ((en : Int) == (s.size : Int)) = false := beq_eq_false_iff_ne.2 (by omega)
        have hlt : en < s.size := by omega
        have hoe := HX.out hlt
        have i1 : (0 : Int) ≤ (op : Int) + 1 := by omega
        have i2 : (op : Int) + 1 ≤ (en : Int) := by omega
        have i3 : (en : Int) ≤ (s.size : Int) := by omega
        have i4 : (op : Int) ≤ (s.size : Int) := by omega
        have i5 : (0 : Int) ≤ (en : Int) + 1 := by omega
        have i6 : (en : Int) + 1 ≤ (s.size : Int) := by omega
        have z1' : (s.extract (op + 1) en).size ≤ 600 := by rw [ByteArray.size_extract]; omega
        have z2' : (s.extract 0 op).size ≤ 600 := by rw [ByteArray.size_extract]; omega
        have z3' : (s.extract (en + 1) s.size).size < s.size := by rw [ByteArray.size_extract]; omega
        have hgl := gapT_len (s.extract (en + 1) s.size)
        clear hend HX
        go_wp2_with fail
        refine Calls.mono HF1.out ?_
        rintro e w2 ⟨rfl, hq⟩
        have hq2 := hq.symm; clear hq; subst hq2
        go_wp2_with fail
        refine Calls.mono HF2.out ?_
        rintro e w2 ⟨rfl, hq⟩
        have hq2 := hq.symm; clear hq; subst hq2
        go_wp2_with fail
        refine (snums (s.extract (op + 1) en) wr z1').mono ?_
        have hfew := numL_few (TB (s.extract (op + 1) en)).data.toList
        generalize numL (TB (s.extract (op + 1) en)).data.toList = nl at *
        obtain ⟨l, ok⟩ := nl
        simp only at hfew ⊢
        rintro e w3 ⟨v, rfl, hins, hb3⟩
        have N3 : Hid (Nw wr w3) := hb3
        have O3 : Hid (OS w w3 P) := OR.out.go N3.out
        obtain ⟨va, vc, hv, hnm⟩ := hins.nms
        subst hv
        have HNM : Hid (Nms w3 va l) := hnm
        clear hins hb3 hnm q0 q1 q2 q3 q4 q5 qf
        cases ok with
        | false =>
          obtain ⟨z0, z1, z2, z3, z4, z5, q0, q1, q2, q3, q4, q5, qf⟩ := O3.out.r.get
          obtain ⟨t0, t1, t2, t3, t4, t5⟩ := sset6 w3 w.heap.size (.int .i64 0) (.int .i64 0) (.int .i64 0) (.int .i64 0) (.int .i64 0) (.int .i64 0) q0 q1 q2 q3 q4 q5
          go_wp2
          refine bodyPost_ret (v := .tuple #[.agg #[.int .i64 0, .int .i64 0, .int .i64 0, .int .i64 0, .int .i64 0, .int .i64 0], .bool false]) (by simp [results, Tryz.results42, go_sem, t0, t1, t2, t3, t4, t5]) rfl ⟨⟨_, _, _, _, _, _, _, rfl⟩, nw_six O3.out.nw (Nat.le_refl _) _ _ _ _ _ _⟩
        | true =>
          go_wp2_with fail
          refine (strim (s.extract 0 op) w3 (by omega)).mono ?_
          rintro e w4 ⟨rfl, hq⟩
          have hq2 := hq.symm; clear hq; subst hq2
          generalize TB (s.extract 0 op) = word at *
          go_wp2_with fail
          refine (HONE.out w3 word va vc l hfew HNM.out).mono ?_
          rintro e w5 ⟨⟨b0, b1, b2, b3, b4, b5, ok2, rfl⟩, k5⟩
          have O5 : Hid (OS w w5 P) := O3.out.go k5
          clear k5
          cases ok2 with
          | false =>
            obtain ⟨W5, hW5⟩ : ∃ W5, w5.alloc (.cells #[.int .i64 b0, .int .i64 b1, .int .i64 b2, .int .i64 b3, .int .i64 b4, .int .i64 b5] 24) = W5 := ⟨_, rfl⟩
            have O6 : Hid (OS w W5 P) := by show OS _ _ _; rw [← hW5]; exact O5.out.go ((Below.refl _ _).alloc (Nat.le_refl _) _)
            obtain ⟨z0, z1, z2, z3, z4, z5, q0, q1, q2, q3, q4, q5, qf⟩ := O6.out.r.get
            obtain ⟨t0, t1, t2, t3, t4, t5⟩ := sset6 W5 w.heap.size (.int .i64 0) (.int .i64 0) (.int .i64 0) (.int .i64 0) (.int .i64 0) (.int .i64 0) q0 q1 q2 q3 q4 q5
            go_upto_region 12 with fail
            go_wp2
            refine bodyPost_ret (v := .tuple #[.agg #[.int .i64 0, .int .i64 0, .int .i64 0, .int .i64 0, .int .i64 0, .int .i64 0], .bool false]) (by simp [results, Tryz.results42, go_sem, t0, t1, t2, t3, t4, t5]) rfl ⟨⟨_, _, _, _, _, _, _, rfl⟩, nw_six O6.out.nw (Nat.le_refl _) _ _ _ _ _ _⟩
          | true =>
            obtain ⟨W5, hW5⟩ : ∃ W5, w5.alloc (.cells #[.int .i64 b0, .int .i64 b1, .int .i64 b2, .int .i64 b3, .int .i64 b4, .int .i64 b5] 24) = W5 := ⟨_, rfl⟩
            have O6 : Hid (OS w W5 P) := by show OS _ _ _; rw [← hW5]; exact O5.out.go ((Below.refl _ _).alloc (Nat.le_refl _) _)
            have B6 : SixE W5 w5.heap.size := by rw [← hW5]; exact Six.new w5 _ _ _ _ _ _ _
            obtain ⟨e0, e1, e2, e3, e4, e5, x0, x1, x2, x3, x4, x5, xf⟩ := B6.get
            obtain ⟨a0, a1, a2, a3, a4, a5, y0, y1, y2, y3, y4, y5, yf⟩ := O6.out.p.get
            obtain ⟨c0, c1, c2, c3, c4, c5, hM⟩ := mul_some a0 a1 a2 a3 a4 a5 e0 e1 e2 e3 e4 e5
            obtain ⟨gd, hG⟩ := good_some c0 c1 c2 c3 c4 c5
            have HM : Hid _ := hM
            have HG : Hid _ := hG
            clear hM hG
            go_upto_region 12 with fail
            clear hW5
            go_wp2_with fail
            refine (HM.out W5).mono ?_
            rintro e w7 ⟨rfl, k7⟩
            have O7 : Hid (OS w w7 P) := O6.out.go k7.nw
            clear k7 y0 y1 y2 y3 y4 y5 yf x0 x1 x2 x3 x4 x5 xf
            obtain ⟨a0', a1', a2', a3', a4', a5', y0, y1, y2, y3, y4, y5, yf⟩ := O7.out.p.get
            have O8 : Hid (OS w _ P) := O7.out.all c0 c1 c2 c3 c4 c5
            obtain ⟨t0, t1, t2, t3, t4, t5⟩ := sset6 w7 P (.int .i64 c0) (.int .i64 c1) (.int .i64 c2) (.int .i64 c3) (.int .i64 c4) (.int .i64 c5) y0 y1 y2 y3 y4 y5
            go_wp2_with fail
            refine (HG.out _).mono ?_
            rintro e w9 ⟨rfl, k9⟩
            have O9 : Hid (OS w w9 P) := O8.out.go k9.nw
            clear k9 t0 t1 t2 t3 t4 t5 y0 y1 y2 y3 y4 y5 yf
            cases gd with
            | false =>
              obtain ⟨z0, z1, z2, z3, z4, z5, q0, q1, q2, q3, q4, q5, qf⟩ := O9.out.r.get
              obtain ⟨t0, t1, t2, t3, t4, t5⟩ := sset6 w9 w.heap.size (.int .i64 0) (.int .i64 0) (.int .i64 0) (.int .i64 0) (.int .i64 0) (.int .i64 0) q0 q1 q2 q3 q4 q5
              go_wp2
              refine bodyPost_ret (v := .tuple #[.agg #[.int .i64 0, .int .i64 0, .int .i64 0, .int .i64 0, .int .i64 0, .int .i64 0], .bool false]) (by simp [results, Tryz.results42, go_sem, t0, t1, t2, t3, t4, t5]) rfl ⟨⟨_, _, _, _, _, _, _, rfl⟩, nw_six O9.out.nw (Nat.le_refl _) _ _ _ _ _ _⟩
            | true =>
              go_wp2_with fail
              refine (sgap (s.extract (en + 1) s.size) w9 (by omega)).mono ?_
              rintro e w10 ⟨rfl, hq⟩
              have hq2 := hq.symm; clear hq; subst hq2
              generalize gapT (s.extract (en + 1) s.size) = s2 at *
              go_wp2
              go_roundw
              case rel => exact ⟨s2, rfl, by omega, O9.out⟩
              case measure => simp [szV]; omega
end Go.Proofs.YtpfhnedklihdoaaGreatDoor
namespace Go.Proofs.YtpfhnedklihdoaaGreatDoor
open Go.ChangeShapes Go.WideShapes Go.ChangeAt Go.RowKit
set_option linter.unusedVariables false

theorem one_some : OneS := by
  intro w word va vc l hl hn
  by_cases hw : word = ⟨#[116, 114, 97, 110, 115, 108, 97, 116, 101]⟩
  · by_cases hk : l.length = 1
    · exact one_A w word va vc l hl hn (Or.inl ⟨beqy word [116, 114, 97, 110, 115, 108, 97, 116, 101] hw, beqn word [115, 99, 97, 108, 101] (by rw [hw]; decide), beqn word [114, 111, 116, 97, 116, 101] (by rw [hw]; decide), beqn word [109, 97, 116, 114, 105, 120] (by rw [hw]; decide), beqn word [115, 107, 101, 119, 88] (by rw [hw]; decide), beqn word [115, 107, 101, 119, 89] (by rw [hw]; decide), by rw [hk]; rfl, beq_eq_false_iff_ne.2 (by omega), beq_eq_false_iff_ne.2 (by omega), beq_eq_false_iff_ne.2 (by omega)⟩)
    by_cases hk : l.length = 2
    · exact one_A w word va vc l hl hn (Or.inr (Or.inl ⟨beqy word [116, 114, 97, 110, 115, 108, 97, 116, 101] hw, beqn word [115, 99, 97, 108, 101] (by rw [hw]; decide), beqn word [114, 111, 116, 97, 116, 101] (by rw [hw]; decide), beqn word [109, 97, 116, 114, 105, 120] (by rw [hw]; decide), beqn word [115, 107, 101, 119, 88] (by rw [hw]; decide), beqn word [115, 107, 101, 119, 89] (by rw [hw]; decide), beq_eq_false_iff_ne.2 (by omega), by rw [hk]; rfl, beq_eq_false_iff_ne.2 (by omega), beq_eq_false_iff_ne.2 (by omega)⟩))
    exact one_C w word va vc l hl hn ((l.length : Int) == 1) ((l.length : Int) == 2) ((l.length : Int) == 3) ((l.length : Int) == 6) (Or.inr (Or.inl ⟨beqy word [116, 114, 97, 110, 115, 108, 97, 116, 101] hw, beqn word [115, 99, 97, 108, 101] (by rw [hw]; decide), beqn word [114, 111, 116, 97, 116, 101] (by rw [hw]; decide), beqn word [109, 97, 116, 114, 105, 120] (by rw [hw]; decide), beqn word [115, 107, 101, 119, 88] (by rw [hw]; decide), beqn word [115, 107, 101, 119, 89] (by rw [hw]; decide), beq_eq_false_iff_ne.2 (by omega), beq_eq_false_iff_ne.2 (by omega), rfl, rfl⟩))
  have hw0 := hw
  clear hw
  by_cases hw : word = ⟨#[115, 99, 97, 108, 101]⟩
  · by_cases hk : l.length = 1
    · exact one_A w word va vc l hl hn (Or.inr (Or.inr (Or.inl ⟨beqn word [116, 114, 97, 110, 115, 108, 97, 116, 101] (by rw [hw]; decide), beqy word [115, 99, 97, 108, 101] hw, beqn word [114, 111, 116, 97, 116, 101] (by rw [hw]; decide), beqn word [109, 97, 116, 114, 105, 120] (by rw [hw]; decide), beqn word [115, 107, 101, 119, 88] (by rw [hw]; decide), beqn word [115, 107, 101, 119, 89] (by rw [hw]; decide), by rw [hk]; rfl, beq_eq_false_iff_ne.2 (by omega), beq_eq_false_iff_ne.2 (by omega), beq_eq_false_iff_ne.2 (by omega)⟩)))
    by_cases hk : l.length = 2
    · exact one_A w word va vc l hl hn (Or.inr (Or.inr (Or.inr ⟨beqn word [116, 114, 97, 110, 115, 108, 97, 116, 101] (by rw [hw]; decide), beqy word [115, 99, 97, 108, 101] hw, beqn word [114, 111, 116, 97, 116, 101] (by rw [hw]; decide), beqn word [109, 97, 116, 114, 105, 120] (by rw [hw]; decide), beqn word [115, 107, 101, 119, 88] (by rw [hw]; decide), beqn word [115, 107, 101, 119, 89] (by rw [hw]; decide), beq_eq_false_iff_ne.2 (by omega), by rw [hk]; rfl, beq_eq_false_iff_ne.2 (by omega), beq_eq_false_iff_ne.2 (by omega)⟩)))
    exact one_C w word va vc l hl hn ((l.length : Int) == 1) ((l.length : Int) == 2) ((l.length : Int) == 3) ((l.length : Int) == 6) (Or.inr (Or.inr (Or.inl ⟨beqn word [116, 114, 97, 110, 115, 108, 97, 116, 101] (by rw [hw]; decide), beqy word [115, 99, 97, 108, 101] hw, beqn word [114, 111, 116, 97, 116, 101] (by rw [hw]; decide), beqn word [109, 97, 116, 114, 105, 120] (by rw [hw]; decide), beqn word [115, 107, 101, 119, 88] (by rw [hw]; decide), beqn word [115, 107, 101, 119, 89] (by rw [hw]; decide), beq_eq_false_iff_ne.2 (by omega), beq_eq_false_iff_ne.2 (by omega), rfl, rfl⟩)))
  have hw1 := hw
  clear hw
  by_cases hw : word = ⟨#[114, 111, 116, 97, 116, 101]⟩
  · by_cases hk : l.length = 1
    · exact one_R w word va vc l hl hn ⟨beqn word [116, 114, 97, 110, 115, 108, 97, 116, 101] (by rw [hw]; decide), beqn word [115, 99, 97, 108, 101] (by rw [hw]; decide), beqy word [114, 111, 116, 97, 116, 101] hw, beqn word [109, 97, 116, 114, 105, 120] (by rw [hw]; decide), beqn word [115, 107, 101, 119, 88] (by rw [hw]; decide), beqn word [115, 107, 101, 119, 89] (by rw [hw]; decide), by rw [hk]; rfl, beq_eq_false_iff_ne.2 (by omega), beq_eq_false_iff_ne.2 (by omega), beq_eq_false_iff_ne.2 (by omega)⟩
    by_cases hk : l.length = 3
    · exact one_S w word va vc l hl hn ⟨beqn word [116, 114, 97, 110, 115, 108, 97, 116, 101] (by rw [hw]; decide), beqn word [115, 99, 97, 108, 101] (by rw [hw]; decide), beqy word [114, 111, 116, 97, 116, 101] hw, beqn word [109, 97, 116, 114, 105, 120] (by rw [hw]; decide), beqn word [115, 107, 101, 119, 88] (by rw [hw]; decide), beqn word [115, 107, 101, 119, 89] (by rw [hw]; decide), beq_eq_false_iff_ne.2 (by omega), beq_eq_false_iff_ne.2 (by omega), by rw [hk]; rfl, beq_eq_false_iff_ne.2 (by omega)⟩
    exact one_C w word va vc l hl hn ((l.length : Int) == 1) ((l.length : Int) == 2) ((l.length : Int) == 3) ((l.length : Int) == 6) (Or.inr (Or.inr (Or.inr (Or.inl ⟨beqn word [116, 114, 97, 110, 115, 108, 97, 116, 101] (by rw [hw]; decide), beqn word [115, 99, 97, 108, 101] (by rw [hw]; decide), beqy word [114, 111, 116, 97, 116, 101] hw, beqn word [109, 97, 116, 114, 105, 120] (by rw [hw]; decide), beqn word [115, 107, 101, 119, 88] (by rw [hw]; decide), beqn word [115, 107, 101, 119, 89] (by rw [hw]; decide), beq_eq_false_iff_ne.2 (by omega), rfl, beq_eq_false_iff_ne.2 (by omega), rfl⟩))))
  have hw2 := hw
  clear hw
  by_cases hw : word = ⟨#[109, 97, 116, 114, 105, 120]⟩
  · by_cases hk : l.length = 6
    · exact one_M w word va vc l hl hn ⟨beqn word [116, 114, 97, 110, 115, 108, 97, 116, 101] (by rw [hw]; decide), beqn word [115, 99, 97, 108, 101] (by rw [hw]; decide), beqn word [114, 111, 116, 97, 116, 101] (by rw [hw]; decide), beqy word [109, 97, 116, 114, 105, 120] hw, beqn word [115, 107, 101, 119, 88] (by rw [hw]; decide), beqn word [115, 107, 101, 119, 89] (by rw [hw]; decide), beq_eq_false_iff_ne.2 (by omega), beq_eq_false_iff_ne.2 (by omega), beq_eq_false_iff_ne.2 (by omega), by rw [hk]; rfl⟩
    exact one_C w word va vc l hl hn ((l.length : Int) == 1) ((l.length : Int) == 2) ((l.length : Int) == 3) ((l.length : Int) == 6) (Or.inr (Or.inr (Or.inr (Or.inr (Or.inl ⟨beqn word [116, 114, 97, 110, 115, 108, 97, 116, 101] (by rw [hw]; decide), beqn word [115, 99, 97, 108, 101] (by rw [hw]; decide), beqn word [114, 111, 116, 97, 116, 101] (by rw [hw]; decide), beqy word [109, 97, 116, 114, 105, 120] hw, beqn word [115, 107, 101, 119, 88] (by rw [hw]; decide), beqn word [115, 107, 101, 119, 89] (by rw [hw]; decide), rfl, rfl, rfl, beq_eq_false_iff_ne.2 (by omega)⟩)))))
  have hw3 := hw
  clear hw
  by_cases hw : word = ⟨#[115, 107, 101, 119, 88]⟩
  · by_cases hk : l.length = 1
    · exact one_K w word va vc l hl hn (Or.inl ⟨beqn word [116, 114, 97, 110, 115, 108, 97, 116, 101] (by rw [hw]; decide), beqn word [115, 99, 97, 108, 101] (by rw [hw]; decide), beqn word [114, 111, 116, 97, 116, 101] (by rw [hw]; decide), beqn word [109, 97, 116, 114, 105, 120] (by rw [hw]; decide), beqy word [115, 107, 101, 119, 88] hw, beqn word [115, 107, 101, 119, 89] (by rw [hw]; decide), by rw [hk]; rfl, beq_eq_false_iff_ne.2 (by omega), beq_eq_false_iff_ne.2 (by omega), beq_eq_false_iff_ne.2 (by omega)⟩)
    exact one_C w word va vc l hl hn ((l.length : Int) == 1) ((l.length : Int) == 2) ((l.length : Int) == 3) ((l.length : Int) == 6) (Or.inr (Or.inr (Or.inr (Or.inr (Or.inr (Or.inl ⟨beqn word [116, 114, 97, 110, 115, 108, 97, 116, 101] (by rw [hw]; decide), beqn word [115, 99, 97, 108, 101] (by rw [hw]; decide), beqn word [114, 111, 116, 97, 116, 101] (by rw [hw]; decide), beqn word [109, 97, 116, 114, 105, 120] (by rw [hw]; decide), beqy word [115, 107, 101, 119, 88] hw, beqn word [115, 107, 101, 119, 89] (by rw [hw]; decide), beq_eq_false_iff_ne.2 (by omega), rfl, rfl, rfl⟩))))))
  have hw4 := hw
  clear hw
  by_cases hw : word = ⟨#[115, 107, 101, 119, 89]⟩
  · by_cases hk : l.length = 1
    · exact one_K w word va vc l hl hn (Or.inr ⟨beqn word [116, 114, 97, 110, 115, 108, 97, 116, 101] (by rw [hw]; decide), beqn word [115, 99, 97, 108, 101] (by rw [hw]; decide), beqn word [114, 111, 116, 97, 116, 101] (by rw [hw]; decide), beqn word [109, 97, 116, 114, 105, 120] (by rw [hw]; decide), beqn word [115, 107, 101, 119, 88] (by rw [hw]; decide), beqy word [115, 107, 101, 119, 89] hw, by rw [hk]; rfl, beq_eq_false_iff_ne.2 (by omega), beq_eq_false_iff_ne.2 (by omega), beq_eq_false_iff_ne.2 (by omega)⟩)
    exact one_C w word va vc l hl hn ((l.length : Int) == 1) ((l.length : Int) == 2) ((l.length : Int) == 3) ((l.length : Int) == 6) (Or.inr (Or.inr (Or.inr (Or.inr (Or.inr (Or.inr ⟨beqn word [116, 114, 97, 110, 115, 108, 97, 116, 101] (by rw [hw]; decide), beqn word [115, 99, 97, 108, 101] (by rw [hw]; decide), beqn word [114, 111, 116, 97, 116, 101] (by rw [hw]; decide), beqn word [109, 97, 116, 114, 105, 120] (by rw [hw]; decide), beqn word [115, 107, 101, 119, 88] (by rw [hw]; decide), beqy word [115, 107, 101, 119, 89] hw, beq_eq_false_iff_ne.2 (by omega), rfl, rfl, rfl⟩))))))
  have hw5 := hw
  clear hw
  exact one_C w word va vc l hl hn ((l.length : Int) == 1) ((l.length : Int) == 2) ((l.length : Int) == 3) ((l.length : Int) == 6) (Or.inl ⟨beqn word [116, 114, 97, 110, 115, 108, 97, 116, 101] hw0, beqn word [115, 99, 97, 108, 101] hw1, beqn word [114, 111, 116, 97, 116, 101] hw2, beqn word [109, 97, 116, 114, 105, 120] hw3, beqn word [115, 107, 101, 119, 88] hw4, beqn word [115, 107, 101, 119, 89] hw5, rfl, rfl, rfl, rfl⟩)
end Go.Proofs.YtpfhnedklihdoaaGreatDoor
