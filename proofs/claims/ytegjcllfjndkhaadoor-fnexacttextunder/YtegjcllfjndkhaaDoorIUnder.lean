/-
  The text under a node, the program's; each theorem names its conditions.
-/
import Derived.Test.YtegjcllfjndkhaaDoorUnder
import Derived.Test.YtegjcllfjndkhaaDoorBld
import Derived.Test.YtegjcllfjndkhaaDoorShelf
namespace Go.Proofs.YtegjcllfjndkhaaDoor
open Go.ChangeShapes Go.WideShapes Go.ChangeAt Go.RowKit
set_option linter.unusedVariables false

theorem bld_string (B b : Nat) (t : ByteArray) (w : World) (h : Bld B b t w) (hBw : B ≤ w.heap.size) :
    Calls Tryd.prog 43 #[.pointer (some ⟨b, 0, none⟩)] w fun e w' => e = .returned (.string t) ∧ Below B w w' := by
  have e1 : Lib.byteCells t.data.toList = Lib.strCells t := by simp [Lib.byteCells, Lib.strCells]
  refine (Tryd.Builder_String_any_k B b t.data.toList w (by rw [e1]; exact h) hBw).mono ?_
  rintro e w' ⟨rfl, _, h2, _⟩
  exact ⟨by simp, h2⟩
/-- The nodes behind k ahead of I have ups of k or more. -/
def UpsIn (l : List ND) (k I : Nat) : Prop := ∀ j, k < j → j < I → (k : Int) ≤ upAt l j
set_option maxHeartbeats 4000000 in
set_option maxRecDepth 100000 in
theorem itextUnder (w : World) (a : Option Addr) (c : Nat) (l : List ND) (k : Int) (hk : -9223372036854775808 ≤ k ∧ k ≤ 9223372036854775807) (hl : l.length ≤ 1048576) (ht : Tb w) (hz : Small l) (hr : Nodes w a l) :
    Calls Tryd.prog 14 #[.slice a l.length c, .int .i64 k] w fun e w' => e = .returned (underV l k) ∧ Nw w w' := by
  have HR : Hid (Nodes w a l) := hr
  have HZ : Hid (Small l) := hz
  have HT : Hid (Tb w) := ht
  clear hr hz ht
  by_cases hg : goodB l = true
  · by_cases hin : 0 ≤ k ∧ k < l.length
    · obtain ⟨K, rfl⟩ : ∃ K : Nat, k = K := ⟨k.toNat, by omega⟩
      have HO : Hid (underV l K = .tuple #[.string (unT l K (l.length - K - 1)), .bool true]) := underV_yes (by unfold underOk; rw [hg]; simp; omega)
      have HP : Hid (GoodP l) := (goodB_iff l).1 hg
      have HU : Hid (Ups l l.length) := ups_of l l.length (Nat.le_refl _) HP.out.2
      have hKl : (K : Int) < l.length := hin.2
      have h60 : l.length ≤ 60 := HP.out.1.2
      clear hin
      go_enter Tryd.func14, Tryd.ntmps14
      go_wp2_with fail
      refine Calls.mono (igoodNodes _ _ _ l hl HT.out HZ.out HR.out) ?_
      rw [hg]
      rintro e w1 ⟨rfl, k1⟩
      have K1 : Hid (Nw w w1) := k1
      rcases (HR.out.nw k1) with hnil | ⟨b, o, rfl, hb, hc⟩
      · rw [hnil] at hKl; simp at hKl; omega
      have q3 : w1.cell? ⟨b, o + K * 4 + 3, none⟩ = some (.string (textAt l K)) := (hc K (by omega)).2.2.2
      have HC : Hid (∀ i, i < l.length → w1.cell? ⟨b, o + i * 4 + 1, none⟩ = some (.int .i64 (upAt l i)) ∧ w1.cell? ⟨b, o + i * 4 + 3, none⟩ = some (.string (textAt l i))) := fun i hi => ⟨(hc i hi).2.1, (hc i hi).2.2.2⟩
      have F0 : Hid (Bld w1.heap.size w1.heap.size ⟨#[]⟩ (w1.alloc (.cells #[.pointer none, .slice none 0 0] 71))) := Bld.fresh w1
      have B0 : Hid (Below w1.heap.size w1 (w1.alloc (.cells #[.pointer none, .slice none 0 0] 71))) := (Below.refl _ _).alloc (Nat.le_refl _) _
      have z0 : (textAt l K).size ≤ 1048576 := (HZ.out K (by omega)).text
      clear hc k1 HR
      go_wp2_with fail
      refine Calls.mono (writeString w1.heap.size w1.heap.size _ (textAt l K) _ F0.out (by show 0 + _ ≤ _; omega) (Below.size B0.out)) ?_
      rintro e w2 ⟨rfl, f1, b1⟩
      have F1 : Hid (Bld w1.heap.size w1.heap.size (unT l K 0) w2) := by
        have e : (⟨#[]⟩ : ByteArray) ++ textAt l K = textAt l K := by apply ByteArray.ext; simp
        rw [e] at f1; exact f1
      have B1 : Hid (Below w1.heap.size w1 w2) := B0.out.trans b1
      clear f1 b1 q3
      go_wp2
      go_loopw [7] (fun i wr => ∃ n : Nat, K + n < l.length ∧ i = .int .i64 ((K + 1 + n : Nat) : Int) ∧ UpsIn l K (K + 1 + n) ∧ Bld w1.heap.size w1.heap.size (unT l K n) wr ∧ Below w1.heap.size w1 wr) (fun i _ => l.length - (intOf i).toNat)
      case atStart => exact ⟨0, by omega, by go_num, fun j h1 h2 => absurd h1 (by omega), F1.out, B1.out⟩
      case round =>
        obtain ⟨n, hn, rfl, hup, hbl, hbw⟩ := hrel
        have HI : Hid (UpsIn l K (K + 1 + n)) := hup
        have FB : Hid (Bld w1.heap.size w1.heap.size (unT l K n) wr) := hbl
        have BW : Hid (Below w1.heap.size w1 wr) := hbw
        clear hup hbl
        by_cases hlt : K + 1 + n < l.length
        · have p1 := ((bcell hbw).1 b _ hb).trans (HC.out (K + 1 + n) hlt).1
          have p3 := ((bcell hbw).1 b _ hb).trans (HC.out (K + 1 + n) hlt).2
          have hlt' : ((K + 1 + n : Nat) : Int) < l.length := by omega
          clear hbw
          by_cases hge : (K : Int) ≤ upAt l (K + 1 + n)
          · have HM : Hid (unT l K (n + 1) = unT l K n ++ textAt l (K + 1 + n)) := unT_yes (under_in l l.length HU.out (Nat.le_refl _) K (K + 1 + n + 1) (K + 1 + n) (by omega) (by omega) hlt fun j h1 h2 => by
              by_cases e : j = K + 1 + n
              · rw [e]; exact hge
              · exact HI.out j h1 (by omega))
            have HI2 : Hid (UpsIn l K (K + 1 + (n + 1))) := fun j h1 h2 => by
              by_cases e : j = K + 1 + n
              · rw [e]; exact hge
              · exact HI.out j h1 (by omega)
            have y1 := unT_size HZ.out K n hn
            have y2 : (textAt l (K + 1 + n)).size ≤ 1048576 := (HZ.out (K + 1 + n) hlt).text
            have y3 : (unT l K n).size + (textAt l (K + 1 + n)).size ≤ 100000000 := by omega
            clear y1 y2
            generalize hI : K + 1 + n = I at *
            generalize upAt l I = U at *
            go_wp2_with (go_at_call 42; refine Calls.mono (writeString w1.heap.size w1.heap.size _ (textAt l I) _ FB.out y3 (Below.size BW.out)) ?_; rintro e w3 ⟨rfl, f1, b1⟩)
            go_roundw
            case rel => exact ⟨n + 1, by omega, by go_num, HI2.out, by rw [HM.out]; exact f1, BW.out.trans b1⟩
            case measure => simp [intOf]; omega
          · have HM : Hid (unT l K (l.length - K - 1) = unT l K n) := by
              have h := unT_rest HP.out K n hlt (by omega) (l.length - K - 1 - n) (by omega)
              have e : n + (l.length - K - 1 - n) = l.length - K - 1 := by omega
              rw [e] at h; exact h
            generalize hI : K + 1 + n = I at *
            generalize upAt l I = U at *
            go_wp2_with (go_at_call 43; refine Calls.mono (bld_string w1.heap.size w1.heap.size _ _ FB.out (Below.size BW.out)) ?_; rintro e w3 ⟨rfl, b1⟩)
            go_ret2
            exact ⟨by rw [HO.out, HM.out]; rfl, K1.out.trans (BW.out.trans b1)⟩
        · have e : n = l.length - K - 1 := by omega
          have hlt' : ¬ ((K + 1 + n : Nat) : Int) < l.length := by omega
          clear hbw
          generalize hI : K + 1 + n = I at *
          subst e
          go_wp2_with (go_at_call 43; refine Calls.mono (bld_string w1.heap.size w1.heap.size _ _ FB.out (Below.size BW.out)) ?_; rintro e w3 ⟨rfl, b1⟩)
          go_ret2
          exact ⟨by rw [HO.out]; rfl, K1.out.trans (BW.out.trans b1)⟩
    · have HO : Hid (underV l k = .tuple #[.string ⟨#[]⟩, .bool false]) := underV_no (by unfold underOk; rw [hg, decide_eq_false hin]; rfl)
      by_cases h0 : k < 0
      · go_enter Tryd.func14, Tryd.ntmps14
        go_wp2_with (go_at_call 34; refine Calls.mono (igoodNodes _ _ _ l hl HT.out HZ.out HR.out) ?_; rw [hg]; rintro e w1 ⟨rfl, k1⟩)
        go_ret2
        exact ⟨by rw [HO.out]; rfl, k1⟩
      · have hge : (l.length : Int) ≤ k := by omega
        clear hin
        go_enter Tryd.func14, Tryd.ntmps14
        go_wp2_with (go_at_call 34; refine Calls.mono (igoodNodes _ _ _ l hl HT.out HZ.out HR.out) ?_; rw [hg]; rintro e w1 ⟨rfl, k1⟩)
        go_ret2
        exact ⟨by rw [HO.out]; rfl, k1⟩
  · have hg' : goodB l = false := by simpa using hg
    have HO : Hid (underV l k = .tuple #[.string ⟨#[]⟩, .bool false]) := underV_no (by unfold underOk; rw [hg']; rfl)
    go_enter Tryd.func14, Tryd.ntmps14
    go_wp2_with (go_at_call 34; refine Calls.mono (igoodNodes _ _ _ l hl HT.out HZ.out HR.out) ?_; rw [hg']; rintro e w1 ⟨rfl, k1⟩)
    go_ret2
    exact ⟨by rw [HO.out]; rfl, k1⟩
end Go.Proofs.YtegjcllfjndkhaaDoor
