/-
  UsesOf, the program's and the specification's; each theorem names its conditions.
-/
import Derived.Test.YthnmebmjmjfflaaDoorUsS
import Derived.Test.YthnmebmjmjfflaaDoorElAt
import Derived.Test.YthnmebmjmjfflaaDoorMkSGood
import Derived.Lib.SmallJoins
namespace Go.Proofs.YthnmebmjmjfflaaDoor
open Go.ChangeShapes Go.WideShapes Go.ChangeAt Go.RowKit
set_option linter.unusedVariables false

def usOk (l : List ND) (k : Int) : Bool := goodB l && elB l k
/-- What UsesOf answers. -/
def usR (l : List ND) (k : Int) : List Int := if usOk l k = true then usL l k.toNat l.length else []
theorem usR_len (l : List ND) (k : Int) : (usR l k).length ≤ l.length := by
  unfold usR
  split
  · exact usL_len l _ _
  · simp
theorem elB_lt {l : List ND} {k : Int} (h : elB l k = true) : ∃ K : Nat, k = K ∧ K < l.length := by
  unfold elB at h
  rw [Bool.and_eq_true, decide_eq_true_eq] at h
  exact ⟨k.toNat, by omega, by omega⟩
/-- An answer of UsesOf: a list of the call's own. -/
def UsSays (f : FuncId) (W : World) (a : Option Addr) (c : Nat) (l : List ND) (k : Int) : Prop := Calls Tryd.prog f #[.slice a l.length c, .int .i64 k] W fun e w' => ∃ v, e = .returned (.tuple #[v, .bool (usOk l k)]) ∧ Ins w' W.heap.size v (usR l k) ∧ Nw W w'
set_option maxHeartbeats 2000000 in
theorem susesOf (w : World) (a : Option Addr) (c : Nat) (l : List ND) (k : Int) (hk : -9223372036854775808 ≤ k ∧ k ≤ 9223372036854775807) (hl : l.length ≤ 1048576) (hz : Small l) (hr : Nodes w a l) : UsSays 6 w a c l k := by
  unfold UsSays
  have HR : Hid (Nodes w a l) := hr
  have HZ : Hid (Small l) := hz
  clear hr hz
  have hm : usOk l k = (goodB l && elB l k) := rfl
  cases hg : goodB l
  · have HX : Hid (usOk l k = false) := by show _ = _; rw [hm, hg]; rfl
    have HY : Hid (usR l k = []) := by show _ = _; unfold usR; rw [HX.out]; rfl
    go_enter Tryd.func6, Tryd.ntmps6
    go_wp2_with (go_at_call 17; refine Calls.mono (sgoodNodes _ _ _ l hl HZ.out HR.out) ?_; rw [hg]; rintro e w1 ⟨rfl, k1⟩)
    go_ret2
    exact ⟨.slice none 0 0, by rw [HX.out]; rfl, by rw [HY.out]; exact Ins.nil _ _, k1⟩
  · cases he : elB l k
    · have HX : Hid (usOk l k = false) := by show _ = _; rw [hm, hg, he]; rfl
      have HY : Hid (usR l k = []) := by show _ = _; unfold usR; rw [HX.out]; rfl
      go_enter Tryd.func6, Tryd.ntmps6
      go_wp2_with (first | (go_at_call 17; refine Calls.mono (sgoodNodes _ _ _ l hl HZ.out HR.out) ?_; rw [hg]; rintro e w1 ⟨rfl, k1⟩) | (go_at_call 18; refine Calls.mono (selement _ _ _ l k hk hl (HR.out.nw k1)) ?_; rw [he]; rintro e w2 ⟨rfl, k2⟩))
      go_ret2
      exact ⟨.slice none 0 0, by rw [HX.out]; rfl, by rw [HY.out]; exact Ins.nil _ _, k1.trans k2⟩
    · have HX : Hid (usOk l k = true) := by show _ = _; rw [hm, hg, he]; rfl
      obtain ⟨K, rfl, hK⟩ := elB_lt he
      have HP : Hid (GoodP l) := (goodB_iff l).1 hg
      have HY : Hid (usR l K = usL l K l.length) := by show _ = _; unfold usR; rw [HX.out, if_pos rfl, Int.toNat_natCast]
      go_enter Tryd.func6, Tryd.ntmps6
      go_wp2_with fail
      refine Calls.mono (sgoodNodes _ _ _ l hl HZ.out HR.out) ?_
      rw [hg]
      rintro e w1 ⟨rfl, k1⟩
      have S1 : Hid (Nw w w1) := k1
      clear k1
      go_wp2_with fail
      refine Calls.mono (selement _ _ _ l K hk hl (HR.out.nw S1.out)) ?_
      rw [he]
      rintro e w2 ⟨rfl, k2⟩
      have S2 : Hid (Nw w w2) := S1.out.trans k2
      clear k2
      go_wp2_with fail
      refine Calls.mono (suses _ _ c l K hK HP.out HZ.out (HR.out.nw S2.out)) ?_
      rintro e w3 ⟨v, rfl, h1, h2, k3⟩
      have S3 : Hid (Nw w w3) := S2.out.trans k3
      have I3 : Hid (Ins w3 w.heap.size v (usL l K l.length)) := Joins.ownsRow_le h1 (Nat.le_succ_of_le (Below.size S2.out))
      clear h1 h2 k3
      go_wp2
      go_ret2
      exact ⟨v, by rw [HX.out]; rfl, by rw [HY.out]; exact I3.out, S3.out⟩
set_option maxHeartbeats 2000000 in
theorem iusesOf (w : World) (a : Option Addr) (c : Nat) (l : List ND) (k : Int) (hk : -9223372036854775808 ≤ k ∧ k ≤ 9223372036854775807) (hl : l.length ≤ 1048576) (hcap : l.length ≤ c) (ht : Tb w) (hz : Small l) (hr : Nodes w a l) : UsSays 8 w a c l k := by
  unfold UsSays
  have HR : Hid (Nodes w a l) := hr
  have HZ : Hid (Small l) := hz
  have HT : Hid (Tb w) := ht
  clear hr hz ht
  have hm : usOk l k = (goodB l && elB l k) := rfl
  cases hg : goodB l
  · have HX : Hid (usOk l k = false) := by show _ = _; rw [hm, hg]; rfl
    have HY : Hid (usR l k = []) := by show _ = _; unfold usR; rw [HX.out]; rfl
    go_enter Tryd.func8, Tryd.ntmps8
    go_wp2_with (go_at_call 21; refine Calls.mono (igoodNodes _ _ _ l hl HT.out HZ.out HR.out) ?_; rw [hg]; rintro e w1 ⟨rfl, k1⟩)
    go_ret2
    exact ⟨.slice none 0 0, by rw [HX.out]; rfl, by rw [HY.out]; exact Ins.nil _ _, k1⟩
  · cases he : elB l k
    · have HX : Hid (usOk l k = false) := by show _ = _; rw [hm, hg, he]; rfl
      have HY : Hid (usR l k = []) := by show _ = _; unfold usR; rw [HX.out]; rfl
      go_enter Tryd.func8, Tryd.ntmps8
      go_wp2_with (first | (go_at_call 21; refine Calls.mono (igoodNodes _ _ _ l hl HT.out HZ.out HR.out) ?_; rw [hg]; rintro e w1 ⟨rfl, k1⟩) | (go_at_call 22; refine Calls.mono (ielement _ _ _ l k hk hl (HR.out.nw k1)) ?_; rw [he]; rintro e w2 ⟨rfl, k2⟩))
      go_ret2
      exact ⟨.slice none 0 0, by rw [HX.out]; rfl, by rw [HY.out]; exact Ins.nil _ _, k1.trans k2⟩
    · have HX : Hid (usOk l k = true) := by show _ = _; rw [hm, hg, he]; rfl
      obtain ⟨K, rfl, hK⟩ := elB_lt he
      have HP : Hid (GoodP l) := (goodB_iff l).1 hg
      have h60 : l.length ≤ 60 := HP.out.1.2
      have HY : Hid (usR l K = usL l K l.length) := by show _ = _; unfold usR; rw [HX.out, if_pos rfl, Int.toNat_natCast]
      go_enter Tryd.func8, Tryd.ntmps8
      go_wp2_with fail
      refine Calls.mono (igoodNodes _ _ _ l hl HT.out HZ.out HR.out) ?_
      rw [hg]
      rintro e w1 ⟨rfl, k1⟩
      have S1 : Hid (Nw w w1) := k1
      clear k1
      go_wp2_with fail
      refine Calls.mono (ielement _ _ _ l K hk hl (HR.out.nw S1.out)) ?_
      rw [he]
      rintro e w2 ⟨rfl, k2⟩
      have S2 : Hid (Nw w w2) := S1.out.trans k2
      clear k2
      go_wp2_with fail
      refine Calls.mono (iused _ _ c l K hK hcap HP.out HZ.out (HR.out.nw S2.out)) ?_
      rintro e w3 ⟨rfl, k3⟩
      have S3 : Hid (Nw w w3) := S2.out.trans k3
      have HH : Hid (∀ (W : World) (i : Nat), i < 60 → Calls Tryd.prog 24 #[.int .u64 ((bitsF (uses l K) 60 : Nat) : Int), .int .i64 i] W fun e w' => e = .returned (.bool (uses l K i)) ∧ w' = W) := fun W i hi => by
        have := isetHas W (bitsF (uses l K) 60) i (Nat.lt_of_lt_of_le (bitsF_lt _ 60) (by decide)) (by omega)
        rw [bitsF_at, decide_eq_true hi, Bool.true_and] at this
        exact this
      clear k3
      generalize bitsF (uses l K) 60 = S at *
      go_wp2
      go_loopw [7, 23] (fun v i wr => ∃ (n : Nat) (va : Option Addr) (vc : Nat), n ≤ l.length ∧ i = .int .i64 n ∧ v = .slice va (usL l K n).length vc ∧ Ins wr w.heap.size (.slice va (usL l K n).length vc) (usL l K n) ∧ Below w.heap.size w wr) (fun _ i _ => l.length - (intOf i).toNat)
      case atStart => exact ⟨0, none, 0, Nat.zero_le _, rfl, rfl, Ins.nil _ _, S3.out⟩
      case round =>
        obtain ⟨n, va, vc, hn, rfl, rfl, hins, hbw⟩ := hrel
        have HI : Hid (Ins wr w.heap.size (.slice va (usL l K n).length vc) (usL l K n)) := hins
        have HB : Hid (Below w.heap.size w wr) := hbw
        have hll := usL_len l K n
        clear hins hbw
        by_cases hlt : n < l.length
        · have hltN : (n : Int) < l.length := by omega
          have hh := HH.out wr n (by omega)
          cases hu : uses l K n with
          | false =>
            have HL : Hid (usL l K (n + 1) = usL l K n) := usL_no hu
            rw [hu] at hh
            have HHn : Hid (Calls Tryd.prog 24 #[.int .u64 (S : Int), .int .i64 n] wr fun e w' => e = .returned (.bool false) ∧ w' = wr) := hh
            clear hh
            go_wp2_with (go_at_call 24; refine Calls.mono HHn.out ?_; rintro e w9 ⟨rfl, hq⟩; have hq2 := hq.symm; clear hq; subst hq2)
            go_roundw
            case rel => exact ⟨n + 1, va, vc, by omega, by go_num, by rw [HL.out], by rw [HL.out]; exact HI.out, HB.out⟩
            case measure => simp [intOf]; omega
          | true =>
            have HL : Hid (usL l K (n + 1) = usL l K n ++ [(n : Int)]) := usL_yes hu
            rw [hu] at hh
            have HHn : Hid (Calls Tryd.prog 24 #[.int .u64 (S : Int), .int .i64 n] wr fun e w' => e = .returned (.bool true) ∧ w' = wr) := hh
            clear hh
            have HB0 : ∀ o, Hid (Nw wr (wr.alloc o)) := fun o => (Below.refl _ _).alloc (Nat.le_refl _) o
            have hsz : w.heap.size ≤ wr.heap.size := Below.size HB.out
            have HSZ : Hid (w.heap.size ≤ wr.heap.size) := hsz
            have HA0 : ∀ o, Hid (Below w.heap.size w (wr.alloc o)) := fun o => Below.trans HB.out (Below.mono (HB0 o).out hsz)
            have hol : (usL l K n).length ≤ 10000000 := by omega
            generalize usL l K n = out at *
            clear hsz
            go_wp2_with (first | (go_at_call 24; refine Calls.mono HHn.out ?_; rintro e w9 ⟨rfl, hq⟩; have hq2 := hq.symm; clear hq; subst hq2) | (at_builtin; (refine wp_in _ rfl _ _ rfl w.heap.size _ out (n : Int) rfl (HI.out.nw (HB0 _).out) _ rfl ?c1 hol ?c3 ?_)))
            case c1 => simp
            case c3 => exact Nat.le_trans HSZ.out (Below.size (HB0 _).out)
            intro v' w' h1 h2
            have HN3 : Hid (Below w.heap.size w w') := Below.trans (HA0 _).out (Ins.below (HI.out.nw (HB0 _).out) h2 (Nat.le_trans HSZ.out (Below.size (HB0 _).out)))
            have H1 : Hid (Ins w' w.heap.size v' (out ++ [(n : Int)])) := h1
            have form : ∃ a c, v' = .slice a (out ++ [(n : Int)]).length c := by
              rcases h1.lay with ⟨rfl, h⟩ | ⟨g, c, rfl, _⟩
              · simp at h
              · exact ⟨_, c, rfl⟩
            obtain ⟨va', vc', rfl⟩ := form
            clear h1 h2 HB0 HA0
            go_wp2
            go_roundw
            case rel => exact ⟨n + 1, va', vc', by omega, by go_num, by rw [HL.out], by rw [HL.out]; exact H1.out, HN3.out⟩
            case measure => simp [intOf]; omega
        · have e : n = l.length := by omega
          have hltN : ¬ (n : Int) < l.length := by omega
          subst e
          go_wp2
          go_ret2
          exact ⟨.slice va (usL l K l.length).length vc, by first | (rw [HX.out]; rfl) | rfl, by rw [HY.out]; exact HI.out, HB.out⟩
end Go.Proofs.YthnmebmjmjfflaaDoor
