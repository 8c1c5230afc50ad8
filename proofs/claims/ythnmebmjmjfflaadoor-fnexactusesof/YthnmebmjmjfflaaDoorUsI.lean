/-
  What is used below a node, the program's; each theorem names its conditions.
-/
import Derived.Test.YthnmebmjmjfflaaDoorBw
import Derived.Test.YthnmebmjmjfflaaDoorNSet
import Derived.Test.YthnmebmjmjfflaaDoorNId
import Derived.Test.YthnmebmjmjfflaaDoorMkGood
namespace Go.Proofs.YthnmebmjmjfflaaDoor
open Go.ChangeShapes Go.WideShapes Go.ChangeAt Go.RowKit
set_option linter.unusedVariables false

theorem smV_of {l : List ND} (h : Small l) : SmV l := fun i hi => ⟨(h i hi).len, fun k hk => ((h i hi).attrs k hk).2⟩
def setV (f : Nat → Bool) : Value := .int .u64 ((bitsF f 60 : Nat) : Int)
theorem setV_no {l : List ND} {k n : Nat} (h : ∀ i, usT l k (n + 1) i = usT l k n i) : setV (usT l k (n + 1)) = setV (usT l k n) := by
  unfold setV; rw [bitsF_congr 60 (fun i _ => h i)]
theorem setV_yes {l : List ND} {k n t : Nat} (ht : t < 60) (h : ∀ i, usT l k (n + 1) i = (usT l k n i || decide (i = t))) : ((bitsF (usT l k n) 60 ||| 2 ^ t : Nat) : Int) = ((bitsF (usT l k (n + 1)) 60 : Nat) : Int) := by
  rw [bitsF_put _ _ _ ht, bitsF_congr 60 (fun i _ => (h i).symm)]
theorem beq_lit_no (u : ByteArray) (l : List UInt8) (h : u ≠ ⟨l.toArray⟩) : (u.toList == l) = false := by
  rw [beq_eq_false_iff_ne]
  intro e
  apply h
  apply ByteArray.ext
  apply Array.toList_inj.1
  rw [← e, ByteArray.toList_eq]
theorem beq_lit_yes (u : ByteArray) (l : List UInt8) (h : u = ⟨l.toArray⟩) : (u.toList == l) = true := by
  subst h; simp [ByteArray.toList_eq]
set_option maxHeartbeats 4000000 in
theorem iused (w : World) (a : Option Addr) (c : Nat) (l : List ND) (k : Nat) (hk : k < l.length) (hcap : l.length ≤ c) (hg : GoodP l) (hz : Small l) (hr : Nodes w a l) :
    Calls Tryd.prog 23 #[.slice a l.length c, .int .i64 k] w fun e w' => e = .returned (.int .u64 ((bitsF (uses l k) 60 : Nat) : Int)) ∧ Nw w w' := by
  have h60 : l.length ≤ 60 := hg.1.2
  have HR : Hid (Nodes w a l) := hr
  have HG : Hid (GoodP l) := hg
  have HZ : Hid (Small l) := hz
  have HU : Hid (Ups l l.length) := ups_of l l.length (Nat.le_refl _) hg.2
  rcases hr with h | ⟨b, o, rfl, hb, hc⟩
  · rw [h] at hk; simp at hk
  clear hc hz hg hb
  go_enter Tryd.func23, Tryd.ntmps23
  go_wp2_with fail
  refine Calls.mono (iend _ _ c l k hk h60 HR.out) ?_
  rintro e w1 ⟨⟨n, hend, rfl⟩, hq⟩
  have hq2 := hq.symm; clear hq; subst hq2
  have HE : Hid (EndAt l k n) := hend
  have hn1 := hend.lt
  have hn2 := hend.le
  clear hend
  have hln : (((n : Int) - (k : Int))).toNat = n - k := by omega
  go_wp2
  go_loopw [5, 16] (fun s i wr => ∃ d : Nat, d ≤ n - k ∧ i = .int .i64 d ∧ s = .int .u64 ((bitsF (usT l k d) 60 : Nat) : Int) ∧ Nw w wr) (fun _ i _ => l.length - (intOf i).toNat)
  case atStart => exact ⟨0, Nat.zero_le _, rfl, by rw [show bitsF (usT l k 0) 60 = 0 by rw [bitsF_congr 60 (g := fun _ => false) (fun i _ => usT_zero l k i)]; rfl]; rfl, Below.refl _ _⟩
  case round =>
    obtain ⟨d, hd, rfl, rfl, hw⟩ := hrel
    have HW : Hid (Nw w wr) := hw
    have hbl := Nat.lt_of_lt_of_le (bitsF_lt (usT l k d) 60) (show 2 ^ 60 ≤ 2 ^ 64 by decide)
    have HBL : Hid (bitsF (usT l k d) 60 < 2 ^ 64) := hbl
    clear hbl
    by_cases hlt : d < n - k
    · have HRw : Hid (Nodes wr (some ⟨b, o, none⟩) l) := HR.out.nw hw
      rcases HRw.out with h | ⟨b', o', hbo, hb, hc⟩
      · rw [h] at hk; simp at hk
      injection hbo with hbo
      injection hbo with e1 e2
      subst e1; subst e2
      have hkd : k + d < l.length := by omega
      obtain ⟨q0, q1, ⟨aa, cc, q2, qc, qa⟩, q3⟩ := hc (k + d) hkd
      have eo : o + (k + d) * 4 = o + k * 4 + d * 4 := by omega
      rw [eo] at q0 q1 q2 q3
      have HA : Hid (Attrs wr aa (nodeAt l (k + d)).attrs) := qa
      have HM : Hid (meetsN l k ((k + d : Nat) : Int) = true) := by
        by_cases e : d = 0
        · subst e; exact meetsN_same l k (by omega)
        · exact under_in l l.length HU.out (Nat.le_refl _) k (k + d + 1) (k + d) (by omega) (by omega) hkd fun j h1 h2 => HE.out.ins j h1 (by omega)
      obtain ⟨z1, z2⟩ := smV_of HZ.out (k + d) hkd
      have HZ2 : Hid (∀ i, i < (nodeAt l (k + d)).attrs.length → (pairAt (nodeAt l (k + d)).attrs i).2.size ≤ 1048576) := z2
      have HT : Hid (tgt l (k + d) = nodeI l (refV (nodeAt l (k + d)).attrs)) := rfl
      have HS : Hid (isUse l (k + d) = decide ((nodeAt l (k + d)).name = useT)) := rfl
      have htb := nodeI_bd l (refV (nodeAt l (k + d)).attrs)
      have hltI : (d : Int) < ((n - k : Nat) : Int) := by omega
      clear hc hw qa z2 hb
      generalize (nodeAt l (k + d)).name = nm at *
      generalize (nodeAt l (k + d)).up = up at *
      generalize (nodeAt l (k + d)).text = tx at *
      generalize (nodeAt l (k + d)).attrs = at' at *
      have S1 : Hid (Nw wr (wr.alloc (.cells #[.string nm, .int .i64 up, .slice aa at'.length cc, .string tx] 46))) := (Below.refl _ _).alloc (Nat.le_refl _) _
      have B0 := BoxN.new wr nm up (.slice aa at'.length cc) tx 46
      go_wp2_with fail
      refine Calls.mono (ihref _ nm up at' tx aa cc z1 HZ2.out (HA.out.nw S1.out)) ?_
      rintro e w1 ⟨rfl, k1⟩
      have S2 : Hid (Nw wr w1) := S1.out.trans k1
      have B1 := B0.nw k1
      clear k1 B0 q0 q1 q2 q3
      go_wp2_with fail
      refine Calls.mono (inodeId _ _ c l _ (by omega) (smV_of HZ.out) (HRw.out.nw S2.out)) ?_
      rintro e w2 ⟨rfl, k2⟩
      have S3 : Hid (Nw w w2) := (HW.out.trans S2.out).trans k2
      have B2 := B1.nw k2
      clear k2 B1
      obtain ⟨b0, d0, d1, d2, d3⟩ := B2
      clear d1 d2 d3
      generalize nodeI l (refV at') = t at *
      by_cases hnu : nm = useT
      · have hq := beq_lit_yes nm [117, 115, 101] hnu
        have hiu : isUse l (k + d) = true := by rw [HS.out]; exact decide_eq_true hnu
        have HIU : Hid (isUse l (k + d) = true) := hiu
        clear hnu hiu
        by_cases ht : t = -1
        · have HX : Hid (bitsF (usT l k (d + 1)) 60 = bitsF (usT l k d) 60) := bitsF_congr 60 fun i _ => usT_no (Or.inr (Or.inr (HT.out.trans ht)))
          subst ht
          go_wp2
          go_roundw
          case rel => exact ⟨d + 1, by omega, by go_num, by rw [HX.out], S3.out⟩
          case measure => simp [intOf]; omega
        · obtain ⟨T, rfl⟩ : ∃ T : Nat, t = (T : Int) := ⟨t.toNat, by omega⟩
          have hT : T < 60 := by omega
          have HX : Hid (((bitsF (usT l k d) 60 ||| 2 ^ T : Nat) : Int) = ((bitsF (usT l k (d + 1)) 60 : Nat) : Int)) := setV_yes hT fun i => usT_yes HM.out HIU.out HT.out i
          have htb1 : ((T : Int) == -1) = false := beq_eq_false_iff_ne.2 (by omega)
          clear ht htb
          go_wp2_with (go_at_call 45; refine Calls.mono (isetWith _ _ T HBL.out (by omega)) ?_; rw [HX.out]; rintro e w9 ⟨rfl, hq⟩; have hq2 := hq.symm; clear hq; subst hq2)
          go_roundw
          case rel => exact ⟨d + 1, by omega, by go_num, rfl, S3.out⟩
          case measure => simp [intOf]; omega
      · have hq := beq_lit_no nm [117, 115, 101] hnu
        have HX : Hid (bitsF (usT l k (d + 1)) 60 = bitsF (usT l k d) 60) := bitsF_congr 60 fun i _ => usT_no (Or.inr (Or.inl (by rw [HS.out]; exact decide_eq_false hnu)))
        clear hnu
        go_wp2
        go_roundw
        case rel => exact ⟨d + 1, by omega, by go_num, by rw [HX.out], S3.out⟩
        case measure => simp [intOf]; omega
    · have e : d = n - k := by omega
      subst e
      have hltI : ¬ ((n - k : Nat) : Int) < ((n - k : Nat) : Int) := by omega
      have HX : Hid (bitsF (usT l k (n - k)) 60 = bitsF (uses l k) 60) := by
        refine bitsF_congr 60 fun i _ => ?_
        unfold uses
        by_cases h : n < l.length
        · have h2 := usT_rest HG.out k (n - k) (by omega) (by omega) (by have := HE.out.out h; rwa [show k + (n - k) = n by omega]) i (l.length - n) (by omega)
          rw [show n - k + (l.length - n) = l.length - k by omega] at h2
          exact h2.symm
        · rw [show n = l.length by omega]
      clear hw
      go_wp2
      go_ret
      exact ⟨by rw [← HX.out]; rfl, HW.out⟩
end Go.Proofs.YthnmebmjmjfflaaDoor
