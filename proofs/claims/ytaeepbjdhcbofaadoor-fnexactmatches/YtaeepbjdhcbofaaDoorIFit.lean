/-
  A node held against a part of a selector, the program's; each theorem names its conditions.
-/
import Derived.Test.YtaeepbjdhcbofaaDoorFitB
import Derived.Test.YtaeepbjdhcbofaaDoorIHas
import Derived.Test.YtaeepbjdhcbofaaDoorIWds
namespace Go.Proofs.YtaeepbjdhcbofaaDoor
open Go.ChangeShapes Go.WideShapes Go.ChangeAt Go.RowKit
set_option linter.unusedVariables false

set_option maxHeartbeats 8000000 in
theorem ifits (w : World) (name : ByteArray) (up : Int) (l : List Pair) (text : ByteArray) (a : Option Addr) (c : Nat) (ty id : ByteArray) (cls : List ByteArray) (pa : Option Addr) (pc : Nat) (hl : l.length ≤ 1048576) (hv : ∀ i, i < l.length → (pairAt l i).2.size ≤ 1048576) (hr : Attrs w a l) (hcl : cls.length ≤ 1048576) (hrc : Strs w pa cls) :
    Calls Tryd.prog 42 #[.agg #[.string name, .int .i64 up, .slice a l.length c, .string text], .agg #[.string ty, .string id, .slice pa cls.length pc]] w fun e w' => e = .returned (.bool (fitB ⟨name, up, l, text⟩ ⟨ty, id, cls⟩)) ∧ Nw w w' := by
  have HA : Hid (Attrs w a l) := hr
  have HC : Hid (Strs w pa cls) := hrc
  have HV : Hid (∀ i, i < l.length → (pairAt l i).2.size ≤ 1048576) := hv
  have WL : Hid ((wordsOf (attrV l classT)).length ≤ 2000000) := by show _ ≤ _; have h1 := wordsOf_len (attrV l classT); have h2 := attrV_size (s := classT) hv; omega
  have S0 : Hid (Nw w ((w.alloc (.cells #[.string name, .int .i64 up, .slice a l.length c, .string text] 47)).alloc (.cells #[.string ty, .string id, .slice pa cls.length pc] 49))) := ((Below.refl _ _).alloc (Nat.le_refl _) _).alloc (by simp) _
  clear hr hrc hv
  have hF1 : fitB ⟨name, up, l, text⟩ ⟨ty, id, cls⟩ = (tyFits ty name && (idFits id (attrV l idT) && clsAll (wordsOf (attrV l classT)) cls)) := rfl
  obtain ⟨FB, hFB⟩ : ∃ FB, FB = fitB ⟨name, up, l, text⟩ ⟨ty, id, cls⟩ := ⟨_, rfl⟩
  have hF0 := hFB.trans hF1
  rw [← hFB]
  clear hF1 hFB
  have hty := tyFits_ways ty name
  have hid := idFits_ways id (attrV l idT)
  cases ht : tyFits ty name
  · rw [ht] at hF0 hty
    have HX : Hid (FB = false) := hF0
    clear hF0 hid ht
    rcases hty with ⟨_, h⟩ | ⟨_, h⟩ | ⟨t1, t2, t3, t4⟩
    · cases h
    · cases h
    go_enter Tryd.func42, Tryd.ntmps42
    go_wp2
    go_ret
    exact ⟨ret_bool HX.out.symm, S0.out⟩
  · rw [ht] at hF0 hty
    clear ht
    cases hi : idFits id (attrV l idT)
    · rw [hi] at hF0 hid
      have HX : Hid (FB = false) := hF0
      clear hF0 hi
      rcases hid with ⟨_, h⟩ | ⟨d1, d2, d3⟩
      · cases h
      have d4 := (beq_flip id (attrV l idT)).trans d3
      rcases hty with ⟨rfl, _⟩ | ⟨rfl, _⟩ | ⟨t1, t2, t3, t4⟩
      all_goals
        go_enter Tryd.func42, Tryd.ntmps42
        go_wp2_with fail
        refine Calls.mono (iattrV _ name up l text a c idT hl HV.out ((HA.out).nw S0.out)) ?_
        rintro e w1 ⟨rfl, k1⟩
        have S1 : Hid (Nw w w1) := S0.out.trans k1
        have X1 : Hid (Bx w1 w.heap.size name up (.slice a l.length c) text _ _ (.slice pa cls.length pc)) := (Bx.start w name up (.slice a l.length c) text _ _ (.slice pa cls.length pc) 47 49).nw k1
        have n0 := X1.out.n0; have n1 := X1.out.n1; have n2 := X1.out.n2; have n3 := X1.out.n3; have p0 := X1.out.p0; have p1 := X1.out.p1; have p2 := X1.out.p2
        clear k1
        generalize attrV l idT = vid at *
        cases attrO l idT
        all_goals
          go_wp2
          go_ret
          exact ⟨ret_bool HX.out.symm, S1.out⟩
    · rw [hi] at hF0 hid
      have HF : Hid (FB = clsAll (wordsOf (attrV l classT)) cls) := by show _ = _; rw [hF0]; simp
      clear hF0 hi
      rcases hid with ⟨rfl, _⟩ | ⟨d1, d2, d3⟩
      · rcases hty with ⟨rfl, _⟩ | ⟨rfl, _⟩ | ⟨t1, t2, t3, t4⟩
        all_goals
          go_enter Tryd.func42, Tryd.ntmps42
          go_wp2_with fail
          refine Calls.mono (iattrV _ name up l text a c idT hl HV.out ((HA.out).nw S0.out)) ?_
          rintro e w1 ⟨rfl, k1⟩
          have S1 : Hid (Nw w w1) := S0.out.trans k1
          have X1 : Hid (Bx w1 w.heap.size name up (.slice a l.length c) text _ _ (.slice pa cls.length pc)) := (Bx.start w name up (.slice a l.length c) text _ _ (.slice pa cls.length pc) 47 49).nw k1
          have n0 := X1.out.n0; have n1 := X1.out.n1; have n2 := X1.out.n2; have n3 := X1.out.n3; have p0 := X1.out.p0; have p1 := X1.out.p1; have p2 := X1.out.p2
          clear k1
          generalize hgv : attrV l idT = vid at *
          generalize attrO l idT = vb at *
          go_wp2_with fail
          clear n0 n1 n2 n3 p0 p1 p2
          refine Calls.mono (iattrV _ name up l text a c classT hl HV.out ((HA.out).nw S1.out)) ?_
          rintro e w2 ⟨rfl, k2⟩
          have S2 : Hid (Nw w w2) := S1.out.trans k2
          have X2 : Hid (Bx w2 w.heap.size name up (.slice a l.length c) text _ _ (.slice pa cls.length pc)) := X1.out.nw k2
          have n0 := X2.out.n0; have n1 := X2.out.n1; have n2 := X2.out.n2; have n3 := X2.out.n3; have p0 := X2.out.p0; have p1 := X2.out.p1; have p2 := X2.out.p2
          clear k2
          go_wp2_with fail
          refine Calls.mono (iwords _ _ (attrV_size HV.out)) ?_
          rintro e w3 ⟨v3, rfl, tx3, k3⟩
          have S3 : Hid (Nw w w3) := S2.out.trans k3
          have X3 : Hid (Bx w3 w.heap.size name up (.slice a l.length c) text _ _ (.slice pa cls.length pc)) := X2.out.nw k3
          clear n0 n1 n2 n3 p0 p1 p2
          have n0 := X3.out.n0; have n1 := X3.out.n1; have n2 := X3.out.n2; have n3 := X3.out.n3; have p0 := X3.out.p0; have p1 := X3.out.p1; have p2 := X3.out.p2
          have hwl := WL.out
          obtain ⟨wa, wc, rfl, hws⟩ := tx3.strs
          have HWS : Hid (Strs w3 wa (wordsOf (attrV l classT))) := hws
          have HCS : Hid (Strs w3 pa cls) := HC.out.nw S3.out
          clear k3 tx3 hws
          generalize wordsOf (attrV l classT) = ws at *
          go_wp2
          go_loop [51] (fun i => ∃ k : Nat, k ≤ cls.length ∧ i = .int .i64 k ∧ AllTo ws cls k) (fun i => cls.length - (intOf i).toNat)
          case atStart => exact ⟨0, Nat.zero_le _, rfl, fun i hi => absurd hi (by omega)⟩
          case round =>
            obtain ⟨k, hk, rfl, hto⟩ := hrel
            have HO : Hid (AllTo ws cls k) := hto
            clear hto
            by_cases hlt : k < cls.length
            · rcases HCS.out with h | ⟨b, o, rfl, hb, hc⟩
              · rw [h] at hlt; simp at hlt
              have q0 := hc k hlt
              clear hc hb
              cases hh : hasB ws (strAt cls k)
              · have HX : Hid (FB = false) := by show _ = _; rw [HF.out, clsAll_no hlt hh]
                go_wp2_with (go_at_call 64; refine Calls.mono (ihas _ wa wc ws _ hwl HWS.out) ?_; rw [hh]; rintro e w' ⟨rfl, hq⟩; have hq2 := hq.symm; clear hq; subst hq2)
                go_ret
                exact ⟨ret_bool HX.out.symm, S3.out⟩
              · have HK : Hid (hasB ws (strAt cls k) = true) := hh
                go_wp2_with (go_at_call 64; refine Calls.mono (ihas _ wa wc ws _ hwl HWS.out) ?_; rw [hh]; rintro e w' ⟨rfl, hq⟩; have hq2 := hq.symm; clear hq; subst hq2)
                go_round
                case rel => exact ⟨k + 1, by omega, by go_num, HO.out.step HK.out⟩
                case measure => simp [intOf]; omega
            · have HX : Hid (FB = true) := by show _ = _; rw [HF.out]; exact (clsAll_iff ws cls).2 fun i hi => HO.out i (by omega)
              clear HCS
              go_wp2
              go_ret
              exact ⟨ret_bool HX.out.symm, S3.out⟩
      · have d4 := (beq_flip id (attrV l idT)).trans d3
        have d5 : attrO l idT = true := by
          cases e : attrO l idT with
          | true => rfl
          | false => exact absurd (by rw [beq_of d3, attrO_no e]; simp [ByteArray.toList_eq]) d1
        rcases hty with ⟨rfl, _⟩ | ⟨rfl, _⟩ | ⟨t1, t2, t3, t4⟩
        all_goals
          go_enter Tryd.func42, Tryd.ntmps42
          go_wp2_with fail
          refine Calls.mono (iattrV _ name up l text a c idT hl HV.out ((HA.out).nw S0.out)) ?_
          rintro e w1 ⟨rfl, k1⟩
          have S1 : Hid (Nw w w1) := S0.out.trans k1
          have X1 : Hid (Bx w1 w.heap.size name up (.slice a l.length c) text _ _ (.slice pa cls.length pc)) := (Bx.start w name up (.slice a l.length c) text _ _ (.slice pa cls.length pc) 47 49).nw k1
          have n0 := X1.out.n0; have n1 := X1.out.n1; have n2 := X1.out.n2; have n3 := X1.out.n3; have p0 := X1.out.p0; have p1 := X1.out.p1; have p2 := X1.out.p2
          clear k1
          rw [d5]
          clear d5
          generalize attrV l idT = vid at *
          go_wp2_with fail
          clear n0 n1 n2 n3 p0 p1 p2
          refine Calls.mono (iattrV _ name up l text a c classT hl HV.out ((HA.out).nw S1.out)) ?_
          rintro e w2 ⟨rfl, k2⟩
          have S2 : Hid (Nw w w2) := S1.out.trans k2
          have X2 : Hid (Bx w2 w.heap.size name up (.slice a l.length c) text _ _ (.slice pa cls.length pc)) := X1.out.nw k2
          have n0 := X2.out.n0; have n1 := X2.out.n1; have n2 := X2.out.n2; have n3 := X2.out.n3; have p0 := X2.out.p0; have p1 := X2.out.p1; have p2 := X2.out.p2
          clear k2
          go_wp2_with fail
          refine Calls.mono (iwords _ _ (attrV_size HV.out)) ?_
          rintro e w3 ⟨v3, rfl, tx3, k3⟩
          have S3 : Hid (Nw w w3) := S2.out.trans k3
          have X3 : Hid (Bx w3 w.heap.size name up (.slice a l.length c) text _ _ (.slice pa cls.length pc)) := X2.out.nw k3
          clear n0 n1 n2 n3 p0 p1 p2
          have n0 := X3.out.n0; have n1 := X3.out.n1; have n2 := X3.out.n2; have n3 := X3.out.n3; have p0 := X3.out.p0; have p1 := X3.out.p1; have p2 := X3.out.p2
          have hwl := WL.out
          obtain ⟨wa, wc, rfl, hws⟩ := tx3.strs
          have HWS : Hid (Strs w3 wa (wordsOf (attrV l classT))) := hws
          have HCS : Hid (Strs w3 pa cls) := HC.out.nw S3.out
          clear k3 tx3 hws
          generalize wordsOf (attrV l classT) = ws at *
          go_wp2
          go_loop [51] (fun i => ∃ k : Nat, k ≤ cls.length ∧ i = .int .i64 k ∧ AllTo ws cls k) (fun i => cls.length - (intOf i).toNat)
          case atStart => exact ⟨0, Nat.zero_le _, rfl, fun i hi => absurd hi (by omega)⟩
          case round =>
            obtain ⟨k, hk, rfl, hto⟩ := hrel
            have HO : Hid (AllTo ws cls k) := hto
            clear hto
            by_cases hlt : k < cls.length
            · rcases HCS.out with h | ⟨b, o, rfl, hb, hc⟩
              · rw [h] at hlt; simp at hlt
              have q0 := hc k hlt
              clear hc hb
              cases hh : hasB ws (strAt cls k)
              · have HX : Hid (FB = false) := by show _ = _; rw [HF.out, clsAll_no hlt hh]
                go_wp2_with (go_at_call 64; refine Calls.mono (ihas _ wa wc ws _ hwl HWS.out) ?_; rw [hh]; rintro e w' ⟨rfl, hq⟩; have hq2 := hq.symm; clear hq; subst hq2)
                go_ret
                exact ⟨ret_bool HX.out.symm, S3.out⟩
              · have HK : Hid (hasB ws (strAt cls k) = true) := hh
                go_wp2_with (go_at_call 64; refine Calls.mono (ihas _ wa wc ws _ hwl HWS.out) ?_; rw [hh]; rintro e w' ⟨rfl, hq⟩; have hq2 := hq.symm; clear hq; subst hq2)
                go_round
                case rel => exact ⟨k + 1, by omega, by go_num, HO.out.step HK.out⟩
                case measure => simp [intOf]; omega
            · have HX : Hid (FB = true) := by show _ = _; rw [HF.out]; exact (clsAll_iff ws cls).2 fun i hi => HO.out i (by omega)
              clear HCS
              go_wp2
              go_ret
              exact ⟨ret_bool HX.out.symm, S3.out⟩
end Go.Proofs.YtaeepbjdhcbofaaDoor
