/-
  Whether one is reached from itself, the program's; each theorem names its conditions.
-/
import Derived.Test.YthnmebmjmjfflaaDoorUsI
import Derived.Test.YthnmebmjmjfflaaDoorSts
import Derived.Test.YthnmebmjmjfflaaDoorCyc
namespace Go.Proofs.YthnmebmjmjfflaaDoor
open Go.ChangeShapes Go.WideShapes Go.ChangeAt Go.RowKit
set_option linter.unusedVariables false

/-- What HasCycle answers. -/
def cycS (l : List ND) : Bool := goodB l && cycB (uses l) l.length
def rowN (l : List ND) (m k : Nat) : Nat := bitsF (wa (uses l) m k) 60
theorem rowN_lt (l : List ND) (m k : Nat) : rowN l m k < 2 ^ 64 := Nat.lt_of_lt_of_le (bitsF_lt _ 60) (by decide)
theorem rowN_has (l : List ND) (m k i : Nat) (h : i < 60) : (rowN l m k).testBit i = wa (uses l) m k i := by
  unfold rowN; rw [bitsF_at, decide_eq_true h, Bool.true_and]
/-- Part of the way through m: ahead of k the rows are done. -/
def midN (l : List ND) (m k i : Nat) : Nat := if i < k then rowN l (m + 1) i else rowN l m i
theorem midN_self (l : List ND) (m k : Nat) : midN l m k m = rowN l m m := by
  unfold midN
  split
  · unfold rowN; exact bitsF_congr 60 fun i _ => wa_self _ m i
  · rfl
theorem midN_here (l : List ND) (m k : Nat) : midN l m k k = rowN l m k := by unfold midN; rw [if_neg (Nat.lt_irrefl _)]
theorem rowN_no {l : List ND} {m k : Nat} (h : wa (uses l) m k m = false) : rowN l (m + 1) k = rowN l m k := by
  unfold rowN
  refine bitsF_congr 60 fun i _ => ?_
  rw [wa, h]; simp
theorem rowN_yes {l : List ND} {m k : Nat} (h : wa (uses l) m k m = true) : rowN l m k ||| rowN l m m = rowN l (m + 1) k := by
  unfold rowN
  rw [bitsF_or]
  refine bitsF_congr 60 fun i _ => ?_
  rw [wa, h]; simp
theorem midN_step {l : List ND} {m k i : Nat} (h : i ≠ k) : midN l m (k + 1) i = midN l m k i := by
  unfold midN
  by_cases c : i < k
  · rw [if_pos c, if_pos (by omega)]
  · rw [if_neg c, if_neg (by omega)]
theorem midN_done (l : List ND) (m k : Nat) : midN l m (k + 1) k = rowN l (m + 1) k := by unfold midN; rw [if_pos (Nat.lt_succ_self _)]

set_option maxHeartbeats 4000000 in
theorem ihasCycle (w : World) (a : Option Addr) (c : Nat) (l : List ND) (hl : l.length ≤ 1048576) (hcap : l.length ≤ c) (ht : Tb w) (hz : Small l) (hr : Nodes w a l) :
    Calls Tryd.prog 15 #[.slice a l.length c] w fun e w' => e = .returned (.tuple #[.bool (cycS l), .bool (goodB l)]) ∧ Nw w w' := by
  have HR : Hid (Nodes w a l) := hr
  have HZ : Hid (Small l) := hz
  have HT : Hid (Tb w) := ht
  clear hr hz ht
  by_cases hg : goodB l = true
  · have HP : Hid (GoodP l) := (goodB_iff l).1 hg
    have h60 : l.length ≤ 60 := HP.out.1.2
    have HO : Hid (cycS l = cycB (uses l) l.length) := by show _ = _; unfold cycS; rw [hg]; rfl
    have HGB : Hid (goodB l = true) := hg
    have hmk := run_mk 56 49 (.int .u64 0) 1 8 Tryd.underlying56 (by kernel_rfl) l.length (by omega) (by omega)
    have hcs : (Value.int .u64 0).cells = #[.int .u64 0] := rfl
    rw [hcs, Nat.mul_one] at hmk
    go_enter Tryd.func15, Tryd.ntmps15
    go_wp2_with fail
    refine Calls.mono (igoodNodes _ _ _ l hl HT.out HZ.out HR.out) ?_
    rw [hg]
    rintro e w1 ⟨rfl, k1⟩
    have K1 : Hid (Nw w w1) := k1
    have HR1 : Hid (Nodes w1 a l) := HR.out.nw k1
    clear k1 hg
    go_wp2
    go_loopw [17] (fun i wr => ∃ n : Nat, n ≤ l.length ∧ i = .int .i64 n ∧ Sts wr w1.heap.size l.length (fun i => if i < n then rowN l 0 i else 0) ∧ Nw w1 wr) (fun i _ => l.length - (intOf i).toNat)
    case atStart => exact ⟨0, Nat.zero_le _, rfl, (Sts.made w1 l.length _).congr (fun i _ => rfl), (Below.refl _ _).alloc (Nat.le_refl _) _⟩
    case round =>
      obtain ⟨n, hn, rfl, hst, hw⟩ := hrel
      have HW : Hid (Nw w1 wr) := hw
      have HS : Hid (Sts wr w1.heap.size l.length (fun i => if i < n then rowN l 0 i else 0)) := hst
      clear hst hmk hcs
      by_cases hlt : n < l.length
      · have hltI : (n : Int) < l.length := by omega
        have HRw : Hid (Nodes wr a l) := HR1.out.nw hw
        clear hw
        go_wp2_with fail
        refine Calls.mono (iused _ _ c l n hlt hcap HP.out HZ.out HRw.out) ?_
        rintro e w2 ⟨rfl, k2⟩
        have S2 : Hid (Sts w2 w1.heap.size l.length (fun i => if i < n then rowN l 0 i else 0)) := HS.out.nw k2
        have W2 : Hid (Nw w1 w2) := HW.out.trans k2
        have c1 := S2.out.2.1 n hlt
        have c2 := S2.out.2.2
        have HX : Hid (Sts (w2.setCell ⟨w1.heap.size, n, none⟩ (.int .u64 ((bitsF (uses l n) 60 : Nat) : Int))) w1.heap.size l.length (fun i => if i < n + 1 then rowN l 0 i else 0)) := S2.out.set n _ hlt (by simp [rowN, wa]) (fun i hi hne => by
          by_cases c : i < n
          · rw [if_pos c, if_pos (by omega)]
          · rw [if_neg c, if_neg (by omega)])
        have HV : Hid (Nw w1 (w2.setCell ⟨w1.heap.size, n, none⟩ (.int .u64 ((bitsF (uses l n) 60 : Nat) : Int)))) := Below.setCell W2.out (Nat.le_refl _) _
        generalize bitsF (uses l n) 60 = X at *
        clear k2
        go_wp2
        go_roundw
        case rel => exact ⟨n + 1, by omega, by go_num, HX.out, HV.out⟩
        case measure => simp [intOf]; omega
      · have e : n = l.length := by omega
        have hltI : ¬ (n : Int) < l.length := by omega
        have HS0 : Hid (Sts wr w1.heap.size l.length (fun i => rowN l 0 i)) := HS.out.congr (fun i hi => by rw [if_pos (by omega)])
        clear hw HS
        generalize hwr : wr = wa1 at *
        clear hwr
        go_wp2
        go_loopw [29] (fun i wr => ∃ m : Nat, m ≤ l.length ∧ i = .int .i64 m ∧ Sts wr w1.heap.size l.length (fun i => rowN l m i) ∧ Nw w1 wr) (fun i _ => l.length - (intOf i).toNat)
        case atStart => exact ⟨0, Nat.zero_le _, rfl, HS0.out, HW.out⟩
        case round =>
          obtain ⟨m, hm, rfl, hst, hw⟩ := hrel
          have HWm : Hid (Nw w1 wr) := hw
          have HSm : Hid (Sts wr w1.heap.size l.length (fun i => rowN l m i)) := hst
          clear hst hw
          generalize hwr : wr = wb at *
          clear hwr
          by_cases hltm : m < l.length
          · have hltmI : (m : Int) < l.length := by omega
            go_wp2
            go_loopw [34] (fun i wr => ∃ k : Nat, k ≤ l.length ∧ i = .int .i64 k ∧ Sts wr w1.heap.size l.length (fun i => midN l m k i) ∧ Nw w1 wr) (fun i _ => l.length - (intOf i).toNat)
            case atStart => exact ⟨0, Nat.zero_le _, rfl, HSm.out.congr (fun i _ => by simp [midN]), HWm.out⟩
            case round =>
              obtain ⟨k, hk, rfl, hst, hw⟩ := hrel
              have HWk : Hid (Nw w1 wr) := hw
              have HSk : Hid (Sts wr w1.heap.size l.length (fun i => midN l m k i)) := hst
              clear hst hw
              by_cases hltk : k < l.length
              · have hltkI : (k : Int) < l.length := by omega
                have c1 := HSk.out.2.1 k hltk
                have c2 := HSk.out.2.1 m hltm
                have c3 := HSk.out.2.2
                simp only [midN_here] at c1
                simp only [midN_self] at c2
                have HH : Hid (∀ W : World, Calls Tryd.prog 24 #[.int .u64 ((rowN l m k : Nat) : Int), .int .i64 m] W fun e w' => e = .returned (.bool (wa (uses l) m k m)) ∧ w' = W) := fun W => by
                  rw [← rowN_has l m k m (by omega)]
                  exact isetHas W _ m (rowN_lt l m k) (by omega)
                cases hb : wa (uses l) m k m with
                | false =>
                  have HX : Hid (Sts wr w1.heap.size l.length (fun i => midN l m (k + 1) i)) := HSk.out.congr (fun i _ => by
                    by_cases c : i = k
                    · subst c; simp only [midN_done, midN_here]; exact rowN_no hb
                    · exact midN_step c)
                  go_wp2_with (go_at_call 24; refine Calls.mono (HH.out _) ?_; rw [hb]; rintro e w9 ⟨rfl, hq⟩; have hq2 := hq.symm; clear hq; subst hq2)
                  go_roundw
                  case rel => exact ⟨k + 1, by omega, by go_num, HX.out, HWk.out⟩
                  case measure => simp [intOf]; omega
                | true =>
                  have hor := or64 (rowN l m k) (rowN l m m) (rowN_lt l m k) (rowN_lt l m m)
                  rw [rowN_yes hb] at hor
                  have HX : ∀ W : World, Hid (Sts W w1.heap.size l.length (fun i => midN l m k i) → Sts (W.setCell ⟨w1.heap.size, k, none⟩ (.int .u64 ((rowN l (m + 1) k : Nat) : Int))) w1.heap.size l.length (fun i => midN l m (k + 1) i)) := fun W h => h.set k _ hltk (midN_done l m k) (fun i _ hne => midN_step hne)
                  generalize rowN l m k = X at *
                  generalize rowN l m m = Y at *
                  generalize rowN l (m + 1) k = Z at *
                  go_wp2_with (go_at_call 24; refine Calls.mono (HH.out _) ?_; rw [hb]; rintro e w9 ⟨rfl, hq⟩; have hq2 := hq.symm; clear hq; subst hq2)
                  go_region
                  all_goals
                    go_wp2
                    go_roundw
                    case rel => exact ⟨k + 1, by omega, by go_num, ((HX _).out HSk.out).nw ((Below.refl _ _).drew), (Below.setCell (show Below w1.heap.size w1 wr from HWk.out) (show w1.heap.size ≤ (Addr.mk w1.heap.size k none).block from Nat.le_refl _) _).drew⟩
                    case measure => simp [intOf]; omega
              · have e : k = l.length := by omega
                have hltkI : ¬ (k : Int) < l.length := by omega
                have HX : Hid (Sts wr w1.heap.size l.length (fun i => rowN l (m + 1) i)) := HSk.out.congr (fun i hi => by simp only [midN]; rw [if_pos (by omega)])
                go_wp2
                go_roundw
                case rel => exact ⟨m + 1, by omega, by go_num, HX.out, HWk.out⟩
                case measure => simp [intOf]; omega
          · have em : m = l.length := by omega
            have hltmI : ¬ (m : Int) < l.length := by omega
            subst em
            go_wp2
            go_loop [57] (fun i => ∃ k : Nat, k ≤ l.length ∧ i = .int .i64 k ∧ ∀ j, j < k → wa (uses l) l.length j j = false) (fun i => l.length - (intOf i).toNat)
            case atStart => exact ⟨0, Nat.zero_le _, rfl, fun j hj => absurd hj (by omega)⟩
            case round =>
              obtain ⟨k, hk, rfl, hno⟩ := hrel
              have HN : Hid (∀ j, j < k → wa (uses l) l.length j j = false) := hno
              clear hno
              by_cases hltk : k < l.length
              · have hltkI : (k : Int) < l.length := by omega
                have c1 := HSm.out.2.1 k hltk
                simp only at c1
                have HH : Hid (∀ W : World, Calls Tryd.prog 24 #[.int .u64 ((rowN l l.length k : Nat) : Int), .int .i64 k] W fun e w' => e = .returned (.bool (wa (uses l) l.length k k)) ∧ w' = W) := fun W => by
                  rw [← rowN_has l l.length k k (by omega)]
                  exact isetHas W _ k (rowN_lt l l.length k) (by omega)
                cases hb : wa (uses l) l.length k k with
                | false =>
                  have HX : Hid (∀ j, j < k + 1 → wa (uses l) l.length j j = false) := fun j hj => by
                    by_cases c : j = k
                    · subst c; exact hb
                    · exact HN.out j (by omega)
                  generalize rowN l l.length k = X at *
                  go_wp2_with (go_at_call 24; refine Calls.mono (HH.out _) ?_; rw [hb]; rintro e w9 ⟨rfl, hq⟩; have hq2 := hq.symm; clear hq; subst hq2)
                  go_round
                  case rel => exact ⟨k + 1, by omega, by go_num, HX.out⟩
                  case measure => simp [intOf]; omega
                | true =>
                  have HX : Hid (cycS l = true) := by
                    show _ = _
                    rw [HO.out]
                    exact cycB_yes hltk ((wa_iff _ _ _ _).1 hb)
                  generalize rowN l l.length k = X at *
                  go_wp2_with (go_at_call 24; refine Calls.mono (HH.out _) ?_; rw [hb]; rintro e w9 ⟨rfl, hq⟩; have hq2 := hq.symm; clear hq; subst hq2)
                  go_ret2
                  exact ⟨by rw [HX.out, HGB.out]; rfl, K1.out.trans HWm.out⟩
              · have e : k = l.length := by omega
                have hltkI : ¬ (k : Int) < l.length := by omega
                have HX : Hid (cycS l = false) := by
                  show _ = _
                  rw [HO.out]
                  refine cycB_no fun j hj h => ?_
                  have := HN.out j (by omega)
                  rw [(wa_iff _ _ _ _).2 h] at this
                  cases this
                go_wp2
                go_ret2
                exact ⟨by rw [HX.out, HGB.out]; rfl, K1.out.trans HWm.out⟩
  · have hg' : goodB l = false := by simpa using hg
    have HO : Hid (cycS l = false) := by show _ = _; unfold cycS; rw [hg']; rfl
    have HGB : Hid (goodB l = false) := hg'
    go_enter Tryd.func15, Tryd.ntmps15
    go_wp2_with (go_at_call 21; refine Calls.mono (igoodNodes _ _ _ l hl HT.out HZ.out HR.out) ?_; rw [hg']; rintro e w1 ⟨rfl, k1⟩)
    go_ret2
    exact ⟨by rw [HO.out, HGB.out]; rfl, k1⟩
end Go.Proofs.YthnmebmjmjfflaaDoor
