/-
  What is used below a node, the specification's; each theorem names its conditions.
-/
import Derived.Test.YthnmebmjmjfflaaDoorBw
import Derived.Test.YthnmebmjmjfflaaDoorBls
import Derived.Test.YthnmebmjmjfflaaDoorNIdS
import Derived.Test.YthnmebmjmjfflaaDoorUsI
import Derived.Test.YthnmebmjmjfflaaDoorIns
import Derived.Test.YthnmebmjmjfflaaDoorMkGood
namespace Go.Proofs.YthnmebmjmjfflaaDoor
open Go.ChangeShapes Go.WideShapes Go.ChangeAt Go.RowKit
set_option linter.unusedVariables false

theorem textBare_of {l : List ND} (h : GoodP l) : TextBare l := by
  intro i hi h0
  have hok := h.2 i hi
  have elem : elemB (nodeAt l i) = true → False := by
    intro he
    unfold elemB at he
    rw [Bool.and_eq_true] at he
    have := he.1
    rw [empty_of h0] at this
    revert this
    decide
  cases i with
  | zero =>
    simp only [okB, Bool.and_eq_true] at hok
    exact absurd hok.1 elem
  | succ j =>
    simp only [okB, Bool.and_eq_true, Bool.or_eq_true] at hok
    rcases hok.1 with he | he
    · exact absurd he elem
    · unfold textB at he
      simp only [Bool.and_eq_true, decide_eq_true_eq] at he
      exact List.eq_nil_of_length_eq_zero he.2.1
set_option maxHeartbeats 4000000 in
theorem suses (w : World) (a : Option Addr) (c : Nat) (l : List ND) (k : Nat) (hk : k < l.length) (hg : GoodP l) (hz : Small l) (hr : Nodes w a l) :
    Calls Tryd.prog 19 #[.slice a l.length c, .int .i64 k] w fun e w' => ∃ v, e = .returned v ∧ Ins w' (w.heap.size + 1) v (usL l k l.length) ∧ w.heap.size + 1 ≤ w'.heap.size ∧ Nw w w' := by
  have h60 : l.length ≤ 60 := hg.1.2
  have HR : Hid (Nodes w a l) := hr
  have HG : Hid (GoodP l) := hg
  have HZ : Hid (Small l) := hz
  have HTB : Hid (TextBare l) := textBare_of hg
  have HU : Hid (Ups l l.length) := ups_of l l.length (Nat.le_refl _) hg.2
  have hmk := run_mk 55 4 (.bool false) 1 1 Tryd.underlying55 (by kernel_rfl) l.length (by omega) (by omega)
  have hcs : (Value.bool false).cells = #[.bool false] := rfl
  rw [hcs, Nat.mul_one] at hmk
  clear hr hz hg
  go_enter Tryd.func19, Tryd.ntmps19
  go_wp2
  go_loopw [6] (fun i wr => ∃ d : Nat, k + d ≤ l.length ∧ i = .int .i64 ((k + d : Nat) : Int) ∧ Bls wr w.heap.size l.length (usT l k d) ∧ Nw w wr) (fun i _ => l.length - (intOf i).toNat)
  case atStart => exact ⟨0, by omega, rfl, (Bls.made w l.length _).congr (fun i _ => usT_zero l k i), (Below.refl _ _).alloc (Nat.le_refl _) _⟩
  case round =>
    obtain ⟨d, hd, rfl, hbl, hw⟩ := hrel
    have HW : Hid (Nw w wr) := hw
    have HBL : Hid (Bls wr w.heap.size l.length (usT l k d)) := hbl
    have HRw : Hid (Nodes wr a l) := HR.out.nw hw
    clear hbl hmk hcs
    by_cases hlt : k + d < l.length
    · rcases HRw.out with h | ⟨b, o, rfl, hb, hc⟩
      · rw [h] at hk; simp at hk
      obtain ⟨q0, q1, ⟨aa, cc, q2, qc, qa⟩, q3⟩ := hc (k + d) hlt
      have HA : Hid (Attrs wr aa (nodeAt l (k + d)).attrs) := qa
      obtain ⟨z1, z2⟩ := smV_of HZ.out (k + d) hlt
      have HZ2 : Hid (∀ i, i < (nodeAt l (k + d)).attrs.length → (pairAt (nodeAt l (k + d)).attrs i).2.size ≤ 1048576) := z2
      have HT : Hid (tgt l (k + d) = nodeI l (refV (nodeAt l (k + d)).attrs)) := rfl
      have HS : Hid (isUse l (k + d) = decide ((nodeAt l (k + d)).name = useT)) := rfl
      have htb := nodeI_bd l (refV (nodeAt l (k + d)).attrs)
      have hltI : ((k + d : Nat) : Int) < l.length := by omega
      have HM : Hid (∀ w' : World, Nodes w' (some ⟨b, o, none⟩) l → Calls Tryd.prog 34 #[.slice (some ⟨b, o, none⟩) l.length c, .int .i64 ((k + d : Nat) : Int), .int .i64 k] w' fun e w'' => e = .returned (.bool (meetsN l k ((k + d : Nat) : Int))) ∧ w'' = w') := fun w' h => sbelow w' _ c l k (k + d) (by omega) hlt h60 HU.out h
      have HN0 : Hid (∀ i, meetsN l k ((k + d : Nat) : Int) = false → usT l k (d + 1) i = usT l k d i) := fun i h => usT_no (Or.inl h)
      have HN1 : Hid (∀ i, isUse l (k + d) = false → usT l k (d + 1) i = usT l k d i) := fun i h => usT_no (Or.inr (Or.inl h))
      have HN2 : Hid (∀ i, tgt l (k + d) = -1 → usT l k (d + 1) i = usT l k d i) := fun i h => usT_no (Or.inr (Or.inr h))
      have HY : Hid (∀ t : Nat, meetsN l k ((k + d : Nat) : Int) = true → isUse l (k + d) = true → tgt l (k + d) = (t : Int) → ∀ i, usT l k (d + 1) i = (usT l k d i || decide (i = t))) := fun t h1 h2 h3 i => usT_yes h1 h2 h3 i
      clear hc hw qa z2 hb
      generalize (nodeAt l (k + d)).name = nm at *
      generalize (nodeAt l (k + d)).up = up at *
      generalize (nodeAt l (k + d)).text = tx at *
      generalize (nodeAt l (k + d)).attrs = at' at *
      generalize meetsN l k ((k + d : Nat) : Int) = M at *
      generalize isUse l (k + d) = IU at *
      generalize tgt l (k + d) = TG at *
      generalize hKD : k + d = KD at *
      by_cases hnu : nm = useT
      · have hq := beq_lit_yes nm [117, 115, 101] hnu
        have HIU : Hid (IU = true) := by show _ = _; rw [HS.out]; exact decide_eq_true hnu
        clear hnu
        cases M with
        | false =>
          go_wp2_with (go_at_call 34; refine Calls.mono (HM.out _ HRw.out) ?_; rintro e w9 ⟨rfl, hq⟩; have hq2 := hq.symm; clear hq; subst hq2)
          go_roundw
          case rel => exact ⟨d + 1, by omega, by go_num, HBL.out.congr (fun i _ => HN0.out i (by first | exact rfl | trivial)), HW.out⟩
          case measure => simp [intOf]; omega
        | true =>
          go_wp2_with (first | (go_at_call 34; refine Calls.mono (HM.out _ HRw.out) ?_; rintro e w9 ⟨rfl, hq⟩; have hq2 := hq.symm; clear hq; subst hq2) | fail)
          refine Calls.mono (shref _ nm up at' tx aa cc z1 HZ2.out HA.out) ?_
          rintro e w1 ⟨rfl, k1⟩
          have S1 : Hid (Nw wr w1) := k1
          clear k1
          go_wp2_with fail
          refine Calls.mono (snodeId _ _ c l _ (by omega) (smV_of HZ.out) HTB.out (HRw.out.nw S1.out)) ?_
          rintro e w2 ⟨rfl, k2⟩
          have S2 : Hid (Nw wr w2) := S1.out.trans k2
          have BL2 : Hid (Bls w2 w.heap.size l.length (usT l k d)) := HBL.out.nw S2.out
          have W2 : Hid (Nw w w2) := HW.out.trans S2.out
          clear k2 q0 q1 q2 q3
          generalize nodeI l (refV at') = t at *
          by_cases ht : t = -1
          · have HX : Hid (Bls w2 w.heap.size l.length (usT l k (d + 1))) := BL2.out.congr (fun i _ => HN2.out i (HT.out.trans ht))
            subst ht
            go_wp2
            go_roundw
            case rel => exact ⟨d + 1, by omega, by go_num, HX.out, W2.out⟩
            case measure => simp [intOf]; omega
          · obtain ⟨T, rfl⟩ : ∃ T : Nat, t = (T : Int) := ⟨t.toNat, by omega⟩
            have hT : T < l.length := by omega
            have HX : Hid (Bls (w2.setCell ⟨w.heap.size, T, none⟩ (.bool true)) w.heap.size l.length (usT l k (d + 1))) := BL2.out.set T hT (fun i => HY.out T (by first | exact rfl | trivial) HIU.out HT.out i)
            have HV : Hid (Nw w (w2.setCell ⟨w.heap.size, T, none⟩ (.bool true))) := Below.setCell W2.out (Nat.le_refl _) _
            have c1 := BL2.out.2.1 T hT
            have c2 := BL2.out.2.2
            clear ht htb
            go_wp2
            go_roundw
            case rel => exact ⟨d + 1, by omega, by go_num, HX.out, HV.out⟩
            case measure => simp [intOf]; omega
      · have hq := beq_lit_no nm [117, 115, 101] hnu
        have HX : Hid (Bls wr w.heap.size l.length (usT l k (d + 1))) := HBL.out.congr (fun i _ => HN1.out i (by rw [HS.out]; exact decide_eq_false hnu))
        clear hnu
        go_wp2
        go_roundw
        case rel => exact ⟨d + 1, by omega, by go_num, HX.out, HW.out⟩
        case measure => simp [intOf]; omega
    · have e : d = l.length - k := by omega
      have hltI : ¬ ((k + d : Nat) : Int) < l.length := by omega
      have HX : Hid (Bls wr w.heap.size l.length (uses l k)) := by rw [e] at HBL; exact HBL.out
      have hws : w.heap.size + 1 ≤ wr.heap.size := HBL.out.1
      have HWS : Hid (w.heap.size + 1 ≤ wr.heap.size) := hws
      clear hw HBL
      generalize hKD : k + d = KD at *
      generalize hwr : wr = w1 at *
      clear hwr
      go_wp2
      go_loopw [8, 48] (fun v i wr => ∃ (n : Nat) (va : Option Addr) (vc : Nat), n ≤ l.length ∧ i = .int .i64 n ∧ v = .slice va (usL l k n).length vc ∧ Ins wr (w.heap.size + 1) (.slice va (usL l k n).length vc) (usL l k n) ∧ Below (w.heap.size + 1) w1 wr) (fun _ i _ => l.length - (intOf i).toNat)
      case atStart => exact ⟨0, none, 0, Nat.zero_le _, rfl, rfl, Ins.nil _ _, Below.refl _ _⟩
      case round =>
        obtain ⟨n, va, vc, hn, rfl, rfl, hins, hbw⟩ := hrel
        have HI : Hid (Ins wr (w.heap.size + 1) (.slice va (usL l k n).length vc) (usL l k n)) := hins
        have HB : Hid (Below (w.heap.size + 1) w1 wr) := hbw
        have hll := usL_len l k n
        by_cases hlt : n < l.length
        · have hltN : (n : Int) < l.length := by omega
          have cb := (HX.out.low hbw (Nat.lt_succ_self _)).2.1 n hlt
          clear hins hbw
          cases hu : uses l k n with
          | false =>
            have HL : Hid (usL l k (n + 1) = usL l k n) := usL_no hu
            rw [hu] at cb
            go_wp2
            go_roundw
            case rel => exact ⟨n + 1, va, vc, by omega, by go_num, by rw [HL.out], by rw [HL.out]; exact HI.out, HB.out⟩
            case measure => simp [intOf]; omega
          | true =>
            have HL : Hid (usL l k (n + 1) = usL l k n ++ [(n : Int)]) := usL_yes hu
            rw [hu] at cb
            have HB0 : ∀ o, Hid (Nw wr (wr.alloc o)) := fun o => (Below.refl _ _).alloc (Nat.le_refl _) o
            have hsz : w.heap.size + 1 ≤ wr.heap.size := Nat.le_trans HWS.out (Below.size HB.out)
            have HSZ : Hid (w.heap.size + 1 ≤ wr.heap.size) := hsz
            have HA0 : ∀ o, Hid (Below (w.heap.size + 1) w1 (wr.alloc o)) := fun o => Below.trans HB.out (Below.mono (HB0 o).out hsz)
            have hol : (usL l k n).length ≤ 10000000 := by omega
            generalize usL l k n = out at *
            clear hsz
            go_wp2_with (at_builtin; (refine wp_in _ rfl _ _ rfl (w.heap.size + 1) _ out (n : Int) rfl (HI.out.nw (HB0 _).out) _ rfl ?c1 hol ?c3 ?_))
            case c1 => simp
            case c3 => exact Nat.le_trans HSZ.out (Below.size (HB0 _).out)
            intro v' w' h1 h2
            have HN3 : Hid (Below (w.heap.size + 1) w1 w') := Below.trans (HA0 _).out (Ins.below (HI.out.nw (HB0 _).out) h2 (Nat.le_trans HSZ.out (Below.size (HB0 _).out)))
            have H1 : Hid (Ins w' (w.heap.size + 1) v' (out ++ [(n : Int)])) := h1
            have form : ∃ a c, v' = .slice a (out ++ [(n : Int)]).length c := by
              rcases h1.lay with ⟨rfl, h⟩ | ⟨g, c, rfl, _⟩
              · simp at h
              · exact ⟨_, c, rfl⟩
            obtain ⟨va', vc', rfl⟩ := form
            clear h1 h2 HB0 HA0
            go_wp2
            go_roundw
            case rel => exact ⟨n + 1, va', vc', by omega, by go_num, by rw [HL.out], by rw [HL.out]; exact H1.out, HN3.out⟩
            case measure => simp [intOf]; omega
        · have e : n = l.length := by omega
          have hltN : ¬ (n : Int) < l.length := by omega
          subst e
          clear hins hbw
          go_wp2
          go_ret
          exact ⟨_, rfl, HI.out, Nat.le_trans HWS.out (Below.size HB.out), Below.trans (show Below w.heap.size w w1 from HW.out) (Below.mono HB.out (Nat.le_succ _))⟩
end Go.Proofs.YthnmebmjmjfflaaDoor
