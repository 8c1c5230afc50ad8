/-
  What the program's rowOf answers; for texts of at most 1048576 bytes.
-/
import Derived.Test.YtfodmjdhpolnkaaDoorNuNext
import Derived.Test.YtfodmjdhpolnkaaDoorRdPart
import Derived.Test.YtfodmjdhpolnkaaDoorHoldI
namespace Go.Proofs.YtfodmjdhpolnkaaDoor
open Go.ChangeShapes Go.WideShapes Go.ChangeAt Go.RowKit
set_option linter.unusedVariables false

theorem ns_ok (l : List UInt8) (h : (rfS (l.take (ns l))).2 = true) : ns l = dk l := by
  rcases ns_dk l with e | ⟨_, _, _, e⟩
  · exact e
  · rw [e] at h; cases h
theorem ns_bad (l : List UInt8) (h : (rfS (l.take (ns l))).2 = false) : nums l = none := by
  rcases ns_dk l with e | ⟨_, hlt, hd, _⟩
  · rw [e] at h; exact nums_bad l h
  · cases hr : (rfS (l.take (dk l))).2 with
    | false => exact nums_bad l hr
    | true =>
      refine nums_part l hr ?_ (partB_point _ hd)
      intro e
      rw [e] at hd
      cases hd
theorem nums_pos : ∀ (n : Nat) (l : List UInt8) (xs : List Int), numsF n l = some xs → 1 ≤ xs.length := by
  intro n
  induction n with
  | zero => intro l xs h; cases h
  | succ n ih =>
    intro l xs h
    unfold numsF at h
    split at h
    · split at h
      · injection h with h; rw [← h]; simp
      · split at h
        · obtain ⟨ys, h1, h2⟩ := Option.map_eq_some_iff.1 h
          rw [← h2]; simp
        · cases h
    · cases h
theorem ns_le (l : List UInt8) : ns l ≤ l.length := by
  rcases ns_dk l with e | ⟨e, h, _⟩
  · rw [e]; exact dk_le l
  · omega
/-- What rowOf answers. -/
def numV (l : List UInt8) : List Int × Bool := match nums l with | none => ([], false) | some xs => (xs, true)
theorem numV_none {l : List UInt8} (h : nums l = none) : numV l = ([], false) := by unfold numV; rw [h]
theorem numV_some {l : List UInt8} {xs : List Int} (h : nums l = some xs) : numV l = (xs, true) := by unfold numV; rw [h]
theorem ba_take (s : ByteArray) (k : Nat) : (s.extract 0 k).data.toList = s.data.toList.take k := by
  have e : s.extract 0 k = (⟨s.data.toList.toArray⟩ : ByteArray).extract 0 k := by rw [Lib.mk_data]
  rw [e, Lib.extract_mk, List.drop_zero, Nat.sub_zero]
set_option maxHeartbeats 4000000 in
theorem irow (s : ByteArray) (w : World) (hs : s.size ≤ 1048576) : Calls Tryd.prog 38 #[.string s] w fun e w' => ∃ v, e = .returned (.tuple #[v, .bool (numV s.data.toList).2]) ∧ Ins w' w.heap.size v (numV s.data.toList).1 ∧ Below w.heap.size w w' := by
  go_enter Tryd.func38, Tryd.ntmps38
  go_wp2
  go_loopw [0, 4] (fun x y wr => ∃ (t : ByteArray) (out : List Int) (v : Value), x = .string t ∧ y = v ∧ t.size ≤ s.size ∧ out.length + t.size ≤ s.size ∧ nums s.data.toList = (nums t.data.toList).map (out ++ ·) ∧ Ins wr w.heap.size v out ∧ Below w.heap.size w wr) (fun x _ _ => Lib.strSize x)
  case atStart => exact ⟨s, [], _, rfl, rfl, Nat.le_refl _, by simp, by cases nums s.data.toList <;> simp, Ins.nil _ _, Below.refl _ _⟩
  case round =>
    obtain ⟨t, out, v, rfl, hy, hts, hlen, hnum, hins, hw⟩ := hrel
    have hy2 := hy.symm
    clear hy
    subst hy2
    have HI : Hid (Ins wr w.heap.size v out) := hins
    have HW : Hid (Below w.heap.size w wr) := hw
    have HN : Hid _ := hnum
    have form : ∃ a c, v = .slice a out.length c := by
      rcases hins.lay with ⟨rfl, rfl⟩ | ⟨g, c, rfl, _⟩
      · exact ⟨none, 0, rfl⟩
      · exact ⟨_, c, rfl⟩
    obtain ⟨va, vc, rfl⟩ := form
    clear hins hw hnum
    have hle := ns_le t.data.toList
    have htl : t.data.toList.length = t.size := by simp
    have HSz : Hid _ := fun w => inum t w (by omega)
    have HR : Hid _ := fun w => iread_x (t.extract 0 (ns t.data.toList)) (by rw [ByteArray.size_extract]; omega) w
    rw [ba_take] at HR
    have HOK : Hid _ := ns_ok t.data.toList
    have HBAD : Hid _ := ns_bad t.data.toList
    have hbd := rfS_bd (t.data.toList.take (ns t.data.toList))
    have HFalse : Hid _ := rfS_false (t.data.toList.take (ns t.data.toList))
    obtain ⟨k, hk⟩ : ∃ k, ns t.data.toList = k := ⟨_, rfl⟩
    rw [hk] at hle HSz HR HOK HBAD hbd HFalse
    have HKK : Hid _ := hk
    clear hk
    obtain ⟨r, hr⟩ : ∃ r, rfS (t.data.toList.take k) = r := ⟨_, rfl⟩
    rw [hr] at HR HOK HBAD hbd HFalse
    have HRR : Hid _ := hr
    clear hr
    obtain ⟨x, ok⟩ := r
    cases ok with
    | false =>
      have HE : Hid (numV s.data.toList = ([], false)) := numV_none (by rw [HN.out, HBAD.out rfl]; rfl)
      go_wp2_with fail
      refine (HSz.out _).mono ?_; rintro e w1 ⟨rfl, rfl⟩
      go_wp2_with fail
      refine (HR.out _).mono ?_; rintro e w2 ⟨rfl, hk2⟩
      have HK2 : Hid (Kp _ _) := hk2
      clear hk2
      go_wp2
      go_ret2
      refine ⟨.slice none 0 0, ?_, ?_, ?_⟩
      · rw [HE.out]; rfl
      · rw [HE.out]; exact Ins.nil _ _
      · exact Below.trans HW.out (Below.mono HK2.out.1 (Below.size HW.out))
    | true =>
      have HKD : Hid _ := HOK.out rfl
      go_wp2_with fail
      refine (HSz.out _).mono ?_; rintro e w1 ⟨rfl, rfl⟩
      go_wp2_with fail
      refine (HR.out _).mono ?_; rintro e w2 ⟨rfl, hk2⟩
      have HK2 : Hid (Kp _ _) := hk2
      clear hk2
      have HB0 : ∀ o, Hid (Nw w1 (w2.alloc o)) := fun o => by
        have h1 : Nw w1 w2 := HK2.out.1
        exact Below.alloc h1 (Below.size h1) o
      have HA0 : ∀ o, Hid (Below w.heap.size w (w2.alloc o)) := fun o => Below.trans HW.out (Below.mono (HB0 o).out (Below.size HW.out))
      have hol : out.length ≤ 10000000 := by omega
      go_wp2_with (at_builtin; (refine wp_in _ rfl _ _ rfl w.heap.size _ out x rfl (HI.out.nw (HB0 _).out) _ rfl ?c1 hol ?c3 ?_))
      case c1 => simp
      case c3 => exact Below.size (HA0 _).out
      intro v' w' h1 h2
      have HN3 : Hid (Below w.heap.size w w') := Below.trans (HA0 _).out (Ins.below (HI.out.nw (HB0 _).out) h2 (Below.size (HA0 _).out))
      have H1 : Hid (Ins w' w.heap.size v' (out ++ [x])) := h1
      have form : ∃ a c, v' = .slice a (out ++ [x]).length c := by
        rcases h1.lay with ⟨rfl, h⟩ | ⟨g, c, rfl, _⟩
        · simp at h
        · exact ⟨_, c, rfl⟩
      obtain ⟨va', vc', rfl⟩ := form
      clear h1 h2 HB0 HA0
      have hkd := HKD.out
      by_cases hend : k = t.size
      · have hq : ((k : Int) == (t.size : Int)) = true := by rw [hend]; simp
        have HE : Hid (numV s.data.toList = (out ++ [x], true)) := numV_some (by
          rw [HN.out, nums_end t.data.toList ?_ ?_]
          · rw [← hkd, HRR.out]; rfl
          · rw [← hkd, HRR.out]
          · rw [← hkd, hend, ← htl, List.drop_length])
        clear hend hkd
        go_wp2
        go_ret2
        refine ⟨.slice va' (out ++ [x]).length vc', ?_, ?_, HN3.out⟩
        · rw [HE.out]; rfl
        · rw [HE.out]; exact H1.out
      · have hq : ((k : Int) == (t.size : Int)) = false := by rw [beq_eq_false_iff_ne]; omega
        have hrs := ex_size t k t.size (by omega) (Nat.le_refl _)
        have HX : Hid _ := fun w => inext (t.extract k t.size) w (by omega) (by omega)
        have hrl : (t.extract k t.size).data.toList = t.data.toList.drop (dk t.data.toList) := by rw [exl, hkd]
        have hne : t.data.toList.drop (dk t.data.toList) ≠ [] := by
          rw [← hkd]; intro e; have := congrArg List.length e; rw [List.length_drop] at this; simp at this; omega
        have hgs := gapT_size (t.extract k t.size)
        have hgl : (gapT (t.extract k t.size)).data.toList = gapB (t.data.toList.drop (dk t.data.toList)) := by
          show gapB _ = _; rw [hrl]
        rw [hrl] at HX
        have HP1 : Hid (partB (t.data.toList.drop (dk t.data.toList)) = false → nums s.data.toList = none) := fun h => by
          rw [HN.out, nums_part t.data.toList (by rw [← hkd, HRR.out]) hne h]; rfl
        have HP2 : Hid (partB (t.data.toList.drop (dk t.data.toList)) = true → nums s.data.toList = (nums (gapT (t.extract k t.size)).data.toList).map ((out ++ [x]) ++ ·)) := fun h => by
          rw [HN.out, nums_more t.data.toList (by rw [← hkd, HRR.out]) hne h, hgl, ← hkd, HRR.out, Option.map_map]
          congr 1
          funext y
          simp
        have hkp : 1 ≤ k := by rw [hkd]; exact dk_pos t.data.toList (by rw [← hkd, HRR.out])
        clear hrl hne hgl hkd
        generalize partB (t.data.toList.drop (dk t.data.toList)) = pt at *
        obtain ⟨rt, hrt⟩ : ∃ rt, t.extract k t.size = rt := ⟨_, rfl⟩
        rw [hrt] at HX hrs hgs HP2
        generalize gapT rt = gt at *
        cases pt with
        | false =>
          have HE : Hid (numV s.data.toList = ([], false)) := numV_none (HP1.out rfl)
          go_wp2_with fail
          refine (HX.out _).mono ?_; rintro e w4 ⟨rfl, b4⟩
          have B4 : Hid _ := b4
          clear b4
          go_wp2
          go_ret2
          refine ⟨.slice none 0 0, ?_, ?_, ?_⟩
          · rw [HE.out]; rfl
          · rw [HE.out]; exact Ins.nil _ _
          · exact Below.trans HN3.out (Below.mono B4.out (Below.size HN3.out))
        | true =>
          have HE : Hid _ := HP2.out rfl
          go_wp2_with fail
          refine (HX.out _).mono ?_; rintro e w4 ⟨rfl, b4⟩
          have B4 : Hid _ := b4
          clear b4
          go_wp2
          go_roundw
          case rel => exact ⟨gt, out ++ [x], _, rfl, rfl, by omega, by rw [List.length_append]; simp; omega, HE.out, by have h := Ins.nw H1.out B4.out; rw [List.length_append] at h; exact h, Below.trans HN3.out (Below.mono B4.out (Below.size HN3.out))⟩
          case measure => simp [Lib.strSize]; omega
end Go.Proofs.YtfodmjdhpolnkaaDoor
