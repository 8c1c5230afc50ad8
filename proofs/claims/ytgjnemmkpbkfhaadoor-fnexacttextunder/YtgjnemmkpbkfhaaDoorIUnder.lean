/-
  The text under a node, the program's; each theorem names its conditions.
-/
import Derived.Test.YtgjnemmkpbkfhaaDoorUnder
import Derived.Test.YtgjnemmkpbkfhaaDoorEndB
import Derived.Test.YtgjnemmkpbkfhaaDoorBld
import Derived.Test.YtgjnemmkpbkfhaaDoorShelf
namespace Go.Proofs.YtgjnemmkpbkfhaaDoor
open Go.ChangeShapes Go.WideShapes Go.ChangeAt Go.RowKit
set_option linter.unusedVariables false

theorem bld_string (B b : Nat) (t : ByteArray) (w : World) (h : Bld B b t w) (hBw : B ≤ w.heap.size) :
    Calls Tryd.prog 48 #[.pointer (some ⟨b, 0, none⟩)] w fun e w' => e = .returned (.string t) ∧ Below B w w' := by
  have e1 : Lib.byteCells t.data.toList = Lib.strCells t := by simp [Lib.byteCells, Lib.strCells]
  refine (Any.Builder_String_any_k Tryd.lays169 Tryd.Builder_Extra_169 B b t.data.toList w (by rw [e1]; exact h) hBw).mono ?_
  rintro e w' ⟨rfl, _, h2, _⟩
  exact ⟨by simp, h2⟩
theorem Bld.alloc {B b : Nat} {t : ByteArray} {w : World} (h : Bld B b t w) (o : Obj) : Bld B b t (w.alloc o) := h.elim (fun x => .inl (x.alloc o)) (fun x => .inr (x.alloc o))
/-- The text of the first d nodes from k on that are k or below it. -/
def uw (l : List ND) (k : Nat) : Nat → ByteArray
  | 0 => ByteArray.empty
  | d + 1 => unT l k d
theorem uw_size {l : List ND} (hz : Small l) (k d : Nat) (h : k + d ≤ l.length) : (uw l k d).size ≤ 1048576 * d + 1048576 := by
  cases d with
  | zero => show ByteArray.empty.size ≤ _; rw [ByteArray.size_empty]; omega
  | succ d => have := unT_size hz k d (by omega); show (unT l k d).size ≤ _; omega
theorem uw_step {l : List ND} (hg : GoodP l) {k n d : Nat} (hk : EndAt l k n) (hd : k + d < n) : uw l k (d + 1) = uw l k d ++ textAt l (k + d) := by
  cases d with
  | zero => show unT l k 0 = ByteArray.empty ++ textAt l (k + 0); rw [ByteArray.empty_append]; rfl
  | succ d =>
    have hu := ups_of l l.length (Nat.le_refl _) hg.2
    have hle := hk.le
    show unT l k (d + 1) = unT l k d ++ _
    rw [unT_yes]
    · rw [show k + 1 + d = k + (d + 1) by omega]
    · rw [show k + 1 + d = k + (d + 1) by omega]
      exact under_in l l.length hu (Nat.le_refl _) k (k + (d + 1) + 1) (k + (d + 1)) (by omega) (by omega) (by omega) fun j h1 h2 => hk.ins j h1 (by omega)
theorem uw_end {l : List ND} (hg : GoodP l) {k n : Nat} (hk : EndAt l k n) : uw l k (n - k) = unT l k (l.length - k - 1) := by
  have h1 := hk.lt
  have h2 := hk.le
  obtain ⟨d, hd⟩ : ∃ d, n - k = d + 1 := ⟨n - k - 1, by omega⟩
  rw [hd]
  show unT l k d = _
  by_cases c : n < l.length
  · have h3 := unT_rest hg k d (by omega) (by rw [show k + 1 + d = n by omega]; exact hk.out c) (l.length - n) (by omega)
    rw [← h3, show d + (l.length - n) = l.length - k - 1 by omega]
  · rw [show d = l.length - k - 1 by omega]
set_option maxHeartbeats 4000000 in
set_option maxRecDepth 100000 in
theorem itextUnder (w : World) (a : Option Addr) (c : Nat) (l : List ND) (k : Int) (hk : -9223372036854775808 ≤ k ∧ k ≤ 9223372036854775807) (hl : l.length ≤ 1048576) (hcap : l.length ≤ c) (ht : Tb w) (hz : Small l) (hr : Nodes w a l) :
    Calls Tryd.prog 15 #[.slice a l.length c, .int .i64 k] w fun e w' => e = .returned (underV l k) ∧ Nw w w' := by
  have HR : Hid (Nodes w a l) := hr
  have HZ : Hid (Small l) := hz
  have HT : Hid (Tb w) := ht
  clear hr hz ht
  by_cases hg : goodB l = true
  · by_cases hin : 0 ≤ k ∧ k < l.length
    · obtain ⟨K, rfl⟩ : ∃ K : Nat, k = K := ⟨k.toNat, by omega⟩
      have HO : Hid (underV l K = .tuple #[.string (unT l K (l.length - K - 1)), .bool true]) := underV_yes (by unfold underOk; rw [hg]; simp; omega)
      have HP : Hid (GoodP l) := (goodB_iff l).1 hg
      have hKl : (K : Int) < l.length := hin.2
      have hKn : K < l.length := by omega
      have h60 : l.length ≤ 60 := HP.out.1.2
      clear hin
      go_enter Tryd.func15, Tryd.ntmps15
      go_wp2_with fail
      refine Calls.mono (igoodNodes _ _ _ l hl HT.out HZ.out HR.out) ?_
      rw [hg]
      rintro e w1 ⟨rfl, k1⟩
      have K1 : Hid (Nw w w1) := k1
      have N1 : Hid (Nodes w1 a l) := HR.out.nw k1
      have F0 : Hid (Bld w1.heap.size w1.heap.size ByteArray.empty (w1.alloc (.cells #[.pointer none, .slice none 0 0] 76))) := Bld.fresh w1
      have B0 : Hid (Below w1.heap.size w1 (w1.alloc (.cells #[.pointer none, .slice none 0 0] 76))) := (Below.refl _ _).alloc (Nat.le_refl _) _
      clear k1 HR
      rcases N1.out with hnil | ⟨b, o, rfl, hb, hc⟩
      · rw [hnil] at hKn; simp at hKn
      clear hc hb
      go_wp2_with fail
      refine Calls.mono (iend _ _ c l K hKn h60 (N1.out.nw B0.out)) ?_
      rintro e w2 ⟨⟨n, hend, rfl⟩, hq⟩
      have hq2 := hq.symm; clear hq; subst hq2
      have HE : Hid (EndAt l K n) := hend
      have hn1 := hend.lt
      have hn2 := hend.le
      clear hend
      go_wp2
      go_loopw [29] (fun i wr => ∃ d : Nat, d ≤ n - K ∧ i = .int .i64 d ∧ Bld w1.heap.size w1.heap.size (uw l K d) wr ∧ Below w1.heap.size w1 wr) (fun i _ => l.length - (intOf i).toNat)
      case atStart => exact ⟨0, Nat.zero_le _, rfl, F0.out, B0.out⟩
      case round =>
        obtain ⟨d, hd, rfl, hbl, hbw⟩ := hrel
        have FB : Hid (Bld w1.heap.size w1.heap.size (uw l K d) wr) := hbl
        have BW : Hid (Below w1.heap.size w1 wr) := hbw
        clear hbl F0 B0
        by_cases hlt : d < n - K
        · rcases N1.out.nw hbw with hh | ⟨b', o', hbo, hb, hc⟩
          · rw [hh] at hKn; simp at hKn
          injection hbo with hbo
          injection hbo with e1 e2
          subst e1; subst e2
          have hkd : K + d < l.length := by omega
          obtain ⟨q0, q1, ⟨aa, cc, q2, qc, qa⟩, q3⟩ := hc (K + d) hkd
          have eo : o + (K + d) * 4 = o + K * 4 + d * 4 := by omega
          rw [eo] at q0 q1 q2 q3
          have hltI : (d : Int) < ((n - K : Nat) : Int) := by omega
          have HS : Hid (uw l K (d + 1) = uw l K d ++ textAt l (K + d)) := uw_step HP.out HE.out (by omega)
          have y1 := uw_size HZ.out K d (by omega)
          have y2 : (textAt l (K + d)).size ≤ 1048576 := (HZ.out (K + d) hkd).text
          have y3 : (uw l K d).size + (textAt l (K + d)).size ≤ 100000000 := by omega
          have HTA : (nodeAt l (K + d)).text = textAt l (K + d) := rfl
          rw [HTA] at q3
          clear hc hbw qa hb y1 y2 HTA
          generalize textAt l (K + d) = T at *
          generalize (nodeAt l (K + d)).name = nm at *
          generalize (nodeAt l (K + d)).up = up at *
          generalize (nodeAt l (K + d)).attrs = at' at *
          have HW3 : Hid (Calls Tryd.prog 47 #[.pointer (some ⟨w1.heap.size, 0, none⟩), .string T] (wr.alloc (.cells #[.string nm, .int .i64 up, .slice aa at'.length cc, .string T] 63)) fun e w' => ∃ v, e = .returned v ∧ Bld w1.heap.size w1.heap.size (uw l K d ++ T) w' ∧ Below w1.heap.size (wr.alloc (.cells #[.string nm, .int .i64 up, .slice aa at'.length cc, .string T] 63)) w') := by
            refine Calls.mono (writeString w1.heap.size w1.heap.size _ T _ (FB.out.alloc _) y3 (Nat.le_trans (Below.size BW.out) (by simp))) ?_
            rintro e w' ⟨rfl, h1, h2⟩
            exact ⟨_, rfl, h1, h2⟩
          have HA : Hid (Below w1.heap.size w1 (wr.alloc (.cells #[.string nm, .int .i64 up, .slice aa at'.length cc, .string T] 63))) := BW.out.alloc (Below.size BW.out) _
          go_wp2_with (go_at_call 47; refine Calls.mono HW3.out ?_; rintro e w3 ⟨v3, rfl, f1, b1⟩)
          go_roundw
          case rel => exact ⟨d + 1, by omega, by go_num, by rw [HS.out]; exact f1, Below.trans HA.out b1⟩
          case measure => simp [intOf]; omega
        · have e : d = n - K := by omega
          subst e
          have hltI : ¬ ((n - K : Nat) : Int) < ((n - K : Nat) : Int) := by omega
          have HM : Hid (uw l K (n - K) = unT l K (l.length - K - 1)) := uw_end HP.out HE.out
          clear hbw
          go_wp2_with (go_at_call 48; refine Calls.mono (bld_string w1.heap.size w1.heap.size _ _ FB.out (Below.size BW.out)) ?_; rintro e w3 ⟨rfl, b1⟩)
          go_ret2
          exact ⟨by rw [HO.out, ← HM.out]; rfl, K1.out.trans (Below.trans BW.out b1)⟩
    · have HO : Hid (underV l k = .tuple #[.string ⟨#[]⟩, .bool false]) := underV_no (by unfold underOk; rw [hg, decide_eq_false hin]; rfl)
      by_cases h0 : k < 0
      · go_enter Tryd.func15, Tryd.ntmps15
        go_wp2_with (go_at_call 38; refine Calls.mono (igoodNodes _ _ _ l hl HT.out HZ.out HR.out) ?_; rw [hg]; rintro e w1 ⟨rfl, k1⟩)
        go_ret2
        exact ⟨by rw [HO.out]; rfl, k1⟩
      · have hge : (l.length : Int) ≤ k := by omega
        clear hin
        go_enter Tryd.func15, Tryd.ntmps15
        go_wp2_with (go_at_call 38; refine Calls.mono (igoodNodes _ _ _ l hl HT.out HZ.out HR.out) ?_; rw [hg]; rintro e w1 ⟨rfl, k1⟩)
        go_ret2
        exact ⟨by rw [HO.out]; rfl, k1⟩
  · have hg' : goodB l = false := by simpa using hg
    have HO : Hid (underV l k = .tuple #[.string ⟨#[]⟩, .bool false]) := underV_no (by unfold underOk; rw [hg']; rfl)
    go_enter Tryd.func15, Tryd.ntmps15
    go_wp2_with (go_at_call 38; refine Calls.mono (igoodNodes _ _ _ l hl HT.out HZ.out HR.out) ?_; rw [hg']; rintro e w1 ⟨rfl, k1⟩)
    go_ret2
    exact ⟨by rw [HO.out]; rfl, k1⟩
end Go.Proofs.YtgjnemmkpbkfhaaDoor
