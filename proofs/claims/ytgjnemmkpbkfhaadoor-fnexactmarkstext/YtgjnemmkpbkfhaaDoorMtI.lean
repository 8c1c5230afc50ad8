/-
  MarksText, the program's; each theorem names its conditions.
-/
import Derived.Test.YtgjnemmkpbkfhaaDoorMtB
import Derived.Test.YtgjnemmkpbkfhaaDoorMtQ
import Derived.Test.YtgjnemmkpbkfhaaDoorBoxN
import Derived.Test.YtgjnemmkpbkfhaaDoorMkGood
namespace Go.Proofs.YtgjnemmkpbkfhaaDoor
open Go.ChangeShapes Go.WideShapes Go.ChangeAt Go.RowKit
set_option linter.unusedVariables false

theorem Wr.start (w : World) (nv : Value) (t : TypeId) : Wr (w.alloc (.cells #[nv, .slice none 0 0, .slice none 0 0] t)) w.heap.size nv (.slice none 0 0) (.slice none 0 0) (stI []) ByteArray.empty :=
  ⟨by simp, fun x => World.frozen?_alloc_at _ _ _ _ rfl, by simp, by simp, by simp, Ins.nil _ _, Buf.nil _ _, fun g e => by cases e⟩
set_option maxHeartbeats 4000000 in
set_option maxRecDepth 100000 in
theorem imarks (w : World) (a : Option Addr) (c : Nat) (l : List ND) (hl : l.length ≤ 1048576) (hb : bulkL l ≤ 1048576) (ht : Tb w) (hz : Small l) (hr : Nodes w a l) :
    Calls Tryd.prog 12 #[.slice a l.length c] w fun e w' => e = .returned (mtV l) ∧ Nw w w' := by
  have HR : Hid (Nodes w a l) := hr
  have HZ : Hid (Small l) := hz
  have HT : Hid (Tb w) := ht
  clear hr hz ht
  by_cases hg : goodB l = true
  · have HP : Hid (GoodP l) := (goodB_iff l).1 hg
    have h60 : l.length ≤ 60 := HP.out.1.2
    have HOK : Hid (mtOk l = decide ((tX l 0).size ≤ 3000)) := by show _ = _; unfold mtOk; rw [hg]; rfl
    have HSZ : Hid (∀ n, n ≤ l.length → (runN l n).2.size ≤ 6300000) := fun n hn => runN_size HP.out hb hn
    have HOP : Hid (∀ n, (∀ x, x ∈ (runN l n).1 → x < n) ∧ (runN l n).1.length ≤ n) := fun n => runN_open l n
    have HFIN : Hid ((closeP l (-1) (runN l l.length).1 (runN l l.length).2).2 = tX l 0) := (run_all HP.out).1
    have hts := tX_size HP.out hb
    go_enter Tryd.func12, Tryd.ntmps12
    go_wp2_with fail
    refine Calls.mono (igoodNodes _ _ _ l hl HT.out HZ.out HR.out) ?_
    rw [hg]
    rintro e w1 ⟨rfl, k1⟩
    have K1 : Hid (Nw w w1) := k1
    have N1 : Hid (Nodes w1 a l) := HR.out.nw k1
    have HST : Hid (Wr (w1.alloc (.cells #[.slice a l.length c, .slice none 0 0, .slice none 0 0] 68)) w1.heap.size (.slice a l.length c) (.slice none 0 0) (.slice none 0 0) (stI []) ByteArray.empty) := Wr.start _ _ _
    clear k1 hg
    go_wp2
    go_loopw [14] (fun i wr => ∃ (n : Nat) (vo vt : Value), n ≤ l.length ∧ i = .int .i64 n ∧ Wr wr w1.heap.size (.slice a l.length c) vo vt (stI (runN l n).1) (runN l n).2 ∧ Nw w1 wr) (fun i _ => l.length - (intOf i).toNat)
    case atStart => exact ⟨0, _, _, Nat.zero_le _, rfl, HST.out, (Below.refl _ _).alloc (Nat.le_refl _) _⟩
    case round =>
      obtain ⟨n, vo, vt, hn, rfl, hwr, hw⟩ := hrel
      have W2 : Hid (Wr wr w1.heap.size (.slice a l.length c) vo vt (stI (runN l n).1) (runN l n).2) := hwr
      have B2 : Hid (Nw w1 wr) := hw
      clear HST hwr
      by_cases hlt : n < l.length
      · have hltI : (n : Int) < l.length := by omega
        have hnx := HSZ.out (n + 1) (by omega)
        have hsb := step_big l n (runN l n)
        rw [runN_succ] at hnx
        have HRN : Hid (runN l (n + 1) = stepP l n (runN l n)) := runN_succ l n
        obtain ⟨ho1, ho2⟩ := HOP.out n
        have HO1 : Hid (∀ x, x ∈ (runN l n).1 → x < l.length) := fun x hx => by have := ho1 x hx; omega
        have hcm := closeP_mem l (upAt l n) (runN l n).1 (runN l n).2
        rcases (N1.out.nw hw) with hh | ⟨nb, no, rfl, hnb, hnc⟩
        · rw [hh] at hlt; simp at hlt
        obtain ⟨q0, q1, ⟨aa, cc, q2, qc, qa⟩, q3⟩ := hnc n hlt
        have HUP : Hid ((nodeAt l n).up = upAt l n) := rfl
        have hzt := (HZ.out n hlt).text
        have HSTP : Hid (stepP l n (runN l n) = if (nmAt l n).size = 0 then ((closeP l (upAt l n) (runN l n).1 (runN l n).2).1, (closeP l (upAt l n) (runN l n).1 (runN l n).2).2 ++ told (nodeAt l n).text) else (begS l n (closeP l (upAt l n) (runN l n).1 (runN l n).2).1, begO l n (closeP l (upAt l n) (runN l n).1 (runN l n).2).2)) := by
          show _ = _
          unfold stepP begS begO
          split
          · rfl
          · split <;> rfl
        obtain ⟨W3, hW3⟩ : ∃ W3, W3 = wr.alloc (.cells #[.string (nodeAt l n).name, .int .i64 (nodeAt l n).up, .slice aa (nodeAt l n).attrs.length cc, .string (nodeAt l n).text] 63) := ⟨_, rfl⟩
        have K3 : Hid (Nw wr W3) := by show Nw wr W3; rw [hW3]; exact (Below.refl _ _).alloc (Nat.le_refl _) _
        have HW3 : Hid (Wr W3 w1.heap.size (.slice (some ⟨nb, no, none⟩) l.length c) vo vt (stI (runN l n).1) (runN l n).2) := W2.out.nw K3.out
        have HBX : Hid (BoxN W3 wr.heap.size (nodeAt l n).name (nodeAt l n).up (.slice aa (nodeAt l n).attrs.length cc) (nodeAt l n).text) := by show BoxN _ _ _ _ _ _; rw [hW3]; exact BoxN.new _ _ _ _ _ _
        have HC3 : Hid (Calls Tryd.prog 39 #[.pointer (some ⟨w1.heap.size, 0, none⟩), .int .i64 (nodeAt l n).up] W3 fun e w' => e = .returned (.tuple #[]) ∧ ∃ vo' vt', Wr w' w1.heap.size (.slice (some ⟨nb, no, none⟩) l.length c) vo' vt' (stI (closeP l (upAt l n) (runN l n).1 (runN l n).2).1) (closeP l (upAt l n) (runN l n).1 (runN l n).2).2 ∧ Tch w1.heap.size vt vt' W3 w') := by
          show Calls _ _ _ _ _
          rw [HUP.out]
          exact iclose W3 w1.heap.size _ c l vo vt (runN l n).1 (runN l n).2 (upAt l n) h60 HO1.out (by omega) HZ.out HW3.out (fun W hW => N1.out.nw (Below.trans (show Below w1.heap.size w1 W3 from B2.out.trans K3.out) hW)) (by omega)
        clear hnc qa hw ho1
        rw [hW3] at HC3
        go_wp2_with fail
        refine Calls.mono HC3.out ?_
        rw [← hW3]
        rintro e w4 ⟨rfl, vo4, vt4, hw4, k4⟩
        have W4 : Hid (Wr w4 w1.heap.size (.slice (some ⟨nb, no, none⟩) l.length c) vo4 vt4 (stI (closeP l (upAt l n) (runN l n).1 (runN l n).2).1) (closeP l (upAt l n) (runN l n).1 (runN l n).2).2) := hw4
        have B4 : Hid (Nw w1 w4) := Below.trans (show Below w1.heap.size w1 W3 from B2.out.trans K3.out) k4.below
        have hbx : wr.heap.size ≠ w1.heap.size := by have := W2.out.lt; omega
        have hbv : vt.ownBlock ≠ some wr.heap.size := fun e => by have := W2.out.vt_lt _ e; omega
        have x4 := fun o => k4.cell HBX.out.lt hbx hbv o
        have d0 := (x4 0).trans HBX.out.c0
        have d1 := (x4 1).trans HBX.out.c1
        have d2 := (x4 2).trans HBX.out.c2
        have d3 := (x4 3).trans HBX.out.c3
        have HD3 : Hid (∀ W, Nw w4 W → W.cell? ⟨wr.heap.size, 3, none⟩ = some (.string (nodeAt l n).text)) := fun W hW => ((bcell hW).1 _ _ (Nat.lt_of_lt_of_le HBX.out.lt (Below.size k4.below))).trans d3
        clear hw4 k4 HC3 hW3 K3 HW3 HBX x4 q0 q1 q2 q3 hcm hbx hbv
        have HNM : Hid ((nodeAt l n).name = nmAt l n) := rfl
        go_wp2_with fail
        refine Calls.mono (iisElem _ _ _ _ _) ?_
        rintro e w5 ⟨rfl, k5⟩
        have W5 : Hid (Wr w5 w1.heap.size (.slice (some ⟨nb, no, none⟩) l.length c) vo4 vt4 (stI (closeP l (upAt l n) (runN l n).1 (runN l n).2).1) (closeP l (upAt l n) (runN l n).1 (runN l n).2).2) := W4.out.nw k5
        have B5 : Hid (Nw w1 w5) := B4.out.trans k5
        have e3 := HD3.out w5 k5
        clear k5 W4 B4 d0 d1 d2 d3
        by_cases h0 : (nmAt l n).size = 0
        · have hd : decide ((nodeAt l n).name.size = 0) = true := decide_eq_true h0
          rw [hd]
          have HX : Hid (runN l (n + 1) = ((closeP l (upAt l n) (runN l n).1 (runN l n).2).1, (closeP l (upAt l n) (runN l n).1 (runN l n).2).2 ++ told (nodeAt l n).text)) := by show _ = _; rw [HRN.out, HSTP.out, if_pos h0]
          have hsz5 : (closeP l (upAt l n) (runN l n).1 (runN l n).2).2.size + (told (nodeAt l n).text).size ≤ 9000000 := by
            have := HSZ.out (n + 1) (by omega)
            rw [HX.out, ByteArray.size_append] at this
            omega
          clear hsb hnx
          go_wp2_with fail
          refine Calls.mono (iescaped _ w1.heap.size _ vo4 vt4 _ _ _ W5.out hzt hsz5) ?_
          rintro e w6 ⟨rfl, v6, hw6, k6⟩
          have W6 : Hid (Wr w6 w1.heap.size (.slice (some ⟨nb, no, none⟩) l.length c) vo4 v6 (stI (runN l (n + 1)).1) (runN l (n + 1)).2) := by show Wr _ _ _ _ _ _ _; rw [HX.out]; exact hw6
          have B6 : Hid (Nw w1 w6) := Below.trans (show Below w1.heap.size w1 w5 from B5.out) k6.below
          clear hw6 k6
          go_wp2
          go_roundw
          case rel => exact ⟨n + 1, vo4, v6, by omega, by go_num, W6.out, B6.out⟩
          case measure => simp [intOf]; omega
        · have hd : decide ((nodeAt l n).name.size = 0) = false := decide_eq_false h0
          rw [hd]
          have HX : Hid (runN l (n + 1) = (begS l n (closeP l (upAt l n) (runN l n).1 (runN l n).2).1, begO l n (closeP l (upAt l n) (runN l n).1 (runN l n).2).2)) := by show _ = _; rw [HRN.out, HSTP.out, if_neg h0]
          have hsz5 : (closeP l (upAt l n) (runN l n).1 (runN l n).2).2.size + (headT l n).size ≤ 8999990 := by
            have := HSZ.out (n + 1) (by omega)
            rw [HX.out] at this
            unfold begO at this
            split at this
            · simp only [ByteArray.size_append] at this; omega
            · simp only [ByteArray.size_append] at this; omega
          have hrl5 : (closeP l (upAt l n) (runN l n).1 (runN l n).2).1.length ≤ 60 := by
            have := (closeP_mem l (upAt l n) (runN l n).1 (runN l n).2).2
            omega
          have HC6 : Hid (Calls Tryd.prog 41 #[.pointer (some ⟨w1.heap.size, 0, none⟩), .int .i64 n] w5 fun e w' => e = .returned (.tuple #[]) ∧ (∃ vo' vt', Wr w' w1.heap.size (.slice (some ⟨nb, no, none⟩) l.length c) vo' vt' (stI (runN l (n + 1)).1) (runN l (n + 1)).2) ∧ Below w1.heap.size w5 w') := by
            show Calls _ _ _ _ _
            rw [HX.out]
            exact ibegin w5 w1 w1.heap.size _ c l vo4 vt4 _ _ n h60 hlt hrl5 HZ.out W5.out N1.out B5.out (Nat.le_refl _) hsz5
          clear hsb hnx hsz5 hrl5
          go_wp2_with fail
          refine Calls.mono HC6.out ?_
          rintro e w6 ⟨rfl, ⟨vo6, v6, hw6⟩, k6⟩
          have W6 : Hid (Wr w6 w1.heap.size (.slice (some ⟨nb, no, none⟩) l.length c) vo6 v6 (stI (runN l (n + 1)).1) (runN l (n + 1)).2) := hw6
          have B6 : Hid (Nw w1 w6) := Below.trans (show Below w1.heap.size w1 w5 from B5.out) k6
          clear hw6 k6
          go_wp2
          go_roundw
          case rel => exact ⟨n + 1, vo6, v6, by omega, by go_num, W6.out, B6.out⟩
          case measure => simp [intOf]; omega
      · have e : n = l.length := by omega
        subst e
        have hltI : ¬ (l.length : Int) < l.length := by omega
        have hcs : (closeP l (-1) (runN l l.length).1 (runN l l.length).2).2.size ≤ 9000000 := by rw [HFIN.out]; omega
        obtain ⟨ho1, ho2⟩ := HOP.out l.length
        have HC3 : Hid (Calls Tryd.prog 39 #[.pointer (some ⟨w1.heap.size, 0, none⟩), .int .i64 (-1)] wr fun e w' => e = .returned (.tuple #[]) ∧ ∃ vo' vt', Wr w' w1.heap.size (.slice a l.length c) vo' vt' (stI (closeP l (-1) (runN l l.length).1 (runN l l.length).2).1) (closeP l (-1) (runN l l.length).1 (runN l l.length).2).2 ∧ Tch w1.heap.size vt vt' wr w') :=
          iclose wr w1.heap.size _ c l vo vt (runN l l.length).1 (runN l l.length).2 (-1) h60 ho1 (by omega) HZ.out W2.out (fun W hW => N1.out.nw (Below.trans (show Below w1.heap.size w1 wr from B2.out) hW)) hcs
        rw [HFIN.out] at HC3
        clear hw ho1 ho2 hcs
        go_wp2_with fail
        refine Calls.mono HC3.out ?_
        rintro e w4 ⟨rfl, vo4, vt4, hw4, k4⟩
        have B4 : Hid (Nw w w4) := K1.out.trans (Below.trans (show Below w1.heap.size w1 wr from B2.out) k4.below)
        have c2 := hw4.c2
        have hcv := run_buf hw4.out
        obtain ⟨xa, xc, rfl⟩ : ∃ xa xc, vt4 = .slice xa (tX l 0).size xc := by
          rcases hw4.out.2 with ⟨h1, h2⟩ | ⟨g9, c9, cu, h1, _⟩
          · exact ⟨none, 0, by rw [h1, h2]⟩
          · exact ⟨_, c9, h1⟩
        clear hw4 k4 HC3 W2 B2 HFIN HSZ
        have HYy : Hid ((tX l 0).size ≤ 3000 → mtV l = .tuple #[.string (tX l 0), .bool true]) := fun h => mtV_yes (by rw [HOK.out]; exact decide_eq_true h)
        have HYn : Hid (¬ (tX l 0).size ≤ 3000 → mtV l = .tuple #[.string ⟨#[]⟩, .bool false]) := fun h => mtV_no (by rw [HOK.out]; exact decide_eq_false h)
        clear HOK
        generalize tX l 0 = T at *
        by_cases h3 : T.size ≤ 3000
        · have HX := HYy.out h3
          have HXH : Hid (mtV l = .tuple #[.string T, .bool true]) := HX
          have hd3 : decide ((3000 : Int) < (T.size : Int)) = false := decide_eq_false (by omega)
          clear HX HYy HYn
          go_wp2
          go_ret2
          exact ⟨by rw [HXH.out]; rfl, B4.out⟩
        · have HX := HYn.out h3
          have HXH : Hid (mtV l = .tuple #[.string ⟨#[]⟩, .bool false]) := HX
          have hd3 : (3000 : Int) < (T.size : Int) := by omega
          clear HX HYy HYn h3
          go_wp2
          go_ret2
          exact ⟨by rw [HXH.out]; rfl, B4.out⟩
  · have hg' : goodB l = false := by simpa using hg
    have HO : Hid (mtV l = .tuple #[.string ⟨#[]⟩, .bool false]) := mtV_no (by unfold mtOk; rw [hg']; rfl)
    go_enter Tryd.func12, Tryd.ntmps12
    go_wp2_with (go_at_call 38; refine Calls.mono (igoodNodes _ _ _ l hl HT.out HZ.out HR.out) ?_; rw [hg']; rintro e w1 ⟨rfl, k1⟩)
    go_ret2
    exact ⟨by rw [HO.out]; rfl, k1⟩
end Go.Proofs.YtgjnemmkpbkfhaaDoor
