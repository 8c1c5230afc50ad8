/-
  Nodes held against a selector, the specification's; each theorem names its conditions.
-/
import Derived.Test.YtaeepbjdhcbofaaDoorSelsB
import Derived.Test.YtaeepbjdhcbofaaDoorSFit
import Derived.Test.YtaeepbjdhcbofaaDoorMkSGood
namespace Go.Proofs.YtaeepbjdhcbofaaDoor
open Go.ChangeShapes Go.WideShapes Go.ChangeAt Go.RowKit
set_option linter.unusedVariables false

set_option maxHeartbeats 8000000 in
theorem ssels (w : World) (a : Option Addr) (c : Nat) (l : List ND) (kk0 : Nat) (ps : Option Addr) (pc : Nat) (sel : List PD) (hl : l.length ≤ 60) (hk0 : kk0 < l.length) (hu : Ups l l.length) (hz : Small l) (hn : Nodes w a l) (hs1 : 1 ≤ sel.length) (hs5 : sel.length ≤ 5) (hsz : smallPs sel) (hp : Parts w ps sel) :
    Calls Tryd.prog 17 #[.slice a l.length c, .int .i64 (kk0 : Int), .slice ps sel.length pc] w fun e w' => e = .returned (.bool (matchB l kk0 sel)) ∧ Nw w w' := by
  have HU : Hid (Ups l l.length) := hu
  have HZ : Hid (Small l) := hz
  have HSZ : Hid (smallPs sel) := hsz
  obtain ⟨s1, hs⟩ : ∃ s1, sel.length = s1 + 1 := ⟨sel.length - 1, by omega⟩
  have HM : Hid (matchB l kk0 sel = (fitB (nodeAt l kk0) (partAt sel s1) && decide (climb l sel (l.length + 1) (upAt l kk0) s1 = 0))) := by show _ = _; unfold matchB; rw [hs, Nat.add_sub_cancel]
  rcases hn with h | ⟨b, off, rfl, hb, hc⟩
  · rw [h] at hk0; simp at hk0
  rcases hp with h | ⟨pb, poff, rfl, hpb, hpc⟩
  · rw [h] at hs; simp at hs
  have HN : Hid (Nodes w (some ⟨b, off, none⟩) l) := Or.inr ⟨b, off, rfl, hb, hc⟩
  have HP : Hid (Parts w (some ⟨pb, poff, none⟩) sel) := Or.inr ⟨pb, poff, rfl, hpb, hpc⟩
  clear hu hz hsz
  obtain ⟨q0, q1, ⟨qa, qc, q2, qcap, q4⟩, q3⟩ := hc kk0 hk0
  obtain ⟨r0, r1, ⟨ra, rc, r2, rcap, r4⟩⟩ := hpc s1 (by omega)
  have kk := kk0
  have Q4 : Hid (Attrs w.drew qa (nodeAt l kk0).attrs) := q4.nw ((Below.refl _ _).drew)
  have R4 : Hid (Strs w.drew ra (partAt sel s1).cls) := r4.nw ((Below.refl _ _).drew)
  have hz1 := (HZ.out kk0 hk0).len
  have HZ2 : Hid (∀ i, i < (nodeAt l kk0).attrs.length → (pairAt (nodeAt l kk0).attrs i).2.size ≤ 1048576) := fun i hi => ((HZ.out kk0 hk0).attrs i hi).2
  have hz3 := (HSZ.out s1 (by omega)).len
  have Q1 : Hid (w.drew.cell? ⟨b, off + kk0 * 4 + 1, none⟩ = some (.int .i64 (nodeAt l kk0).up)) := q1
  have hb1 : b < w.drew.heap.size := hb
  clear hc hpc q4 r4 qcap rcap kk
  cases hfb : fitB (nodeAt l kk0) (partAt sel s1)
  · have HX : Hid (matchB l kk0 sel = false) := by show _ = _; rw [HM.out, hfb]; rfl
    have hfb2 : fitB ⟨(nodeAt l kk0).name, (nodeAt l kk0).up, (nodeAt l kk0).attrs, (nodeAt l kk0).text⟩ ⟨(partAt sel s1).ty, (partAt sel s1).id, (partAt sel s1).cls⟩ = false := hfb
    clear hfb
    go_enter Tryd.func17, Tryd.ntmps17
    go_wp2
    go_region_with (go_at_call 34; refine Calls.mono (sfits _ _ _ _ _ qa qc _ _ _ ra rc hz1 HZ2.out Q4.out hz3 R4.out) ?_; rw [hfb2]; rintro e w1 ⟨rfl, k1⟩)
    all_goals
      go_wp2
      go_ret
      exact ⟨ret_bool HX.out.symm, k1.drw⟩
  · have HM2 : Hid (matchB l kk0 sel = decide (climb l sel (l.length + 1) (upAt l kk0) s1 = 0)) := by show _ = _; rw [HM.out, hfb]; rfl
    have hfb2 : fitB ⟨(nodeAt l kk0).name, (nodeAt l kk0).up, (nodeAt l kk0).attrs, (nodeAt l kk0).text⟩ ⟨(partAt sel s1).ty, (partAt sel s1).id, (partAt sel s1).cls⟩ = true := hfb
    clear hfb HM
    go_enter Tryd.func17, Tryd.ntmps17
    go_wp2
    go_region_with (go_at_call 34; refine Calls.mono (sfits _ _ _ _ _ qa qc _ _ _ ra rc hz1 HZ2.out Q4.out hz3 R4.out) ?_; rw [hfb2]; rintro e w1 ⟨rfl, k1⟩; have y1 := ((bcell k1).1 b (off + kk0 * 4 + 1) hb1).trans Q1.out)
    all_goals
      have HK1 : Hid (Nw w w1) := k1.drw
      clear k1 q0 q1 q2 q3 r0 r1 r2 Q4 R4 HZ2 Q1 hz1 hz3
      go_wp2
      clear y1
      go_loopw [1, 7] (fun x y wr => ∃ (k : Int) (n f : Nat), x = .int .i64 k ∧ y = .int .i64 (n : Int) ∧ -1 ≤ k ∧ k < l.length ∧ k < f ∧ n ≤ s1 ∧ climb l sel f k n = climb l sel (l.length + 1) (upAt l kk0) s1 ∧ Nw w wr) (fun x _ _ => (intOf x + 1).toNat)
      case atStart => exact ⟨upAt l kk0, s1, l.length + 1, rfl, rfl, (HU.out kk0 hk0).1, by have := (HU.out kk0 hk0).2; omega, by have := (HU.out kk0 hk0).2; omega, Nat.le_refl _, rfl, HK1.out⟩
      case round =>
        obtain ⟨k, n, f, rfl, rfl, h0, h1, h2, h3, hcl, hw⟩ := hrel
        have HCL : Hid (climb l sel f k n = climb l sel (l.length + 1) (upAt l kk0) s1) := hcl
        have HW : Hid (Nw w wr) := hw
        clear hcl hw hfb2
        by_cases hend : k < 0 ∨ n = 0
        · have HX : Hid (matchB l kk0 sel = ((n : Int) == 0)) := by show _ = _; rw [HM2.out, ← HCL.out, climb_end hend, Bool.eq_iff_iff]; simp
          by_cases hk : k < 0
          · have e : k = -1 := by omega
            subst e
            go_wp2
            go_ret
            exact ⟨ret_bool HX.out.symm, HW.out⟩
          · have e : n = 0 := by omega
            subst e
            have hkn : (k == -1) = false := beq_eq_false_iff_ne.2 (by omega)
            have hkn2 : ¬ k = -1 := by omega
            go_wp2
            go_ret
            exact ⟨ret_bool HX.out.symm, HW.out⟩
        · obtain ⟨kk, rfl⟩ : ∃ kk : Nat, k = (kk : Int) := ⟨k.toNat, by omega⟩
          obtain ⟨m, rfl⟩ : ∃ m, n = m + 1 := ⟨n - 1, by omega⟩
          obtain ⟨f', rfl⟩ : ∃ f', f = f' + 1 := ⟨f - 1, by omega⟩
          have hkl : kk < l.length := by omega
          have hkn : ((kk : Int) == -1) = false := beq_eq_false_iff_ne.2 (by omega)
          have hkn2 : ¬ (kk : Int) = -1 := by omega
          have hkn3 : (0 : Int) ≤ (kk : Int) := by omega
          have hm1 : m < sel.length := by omega
          have hm2 : m < s1 + 1 := by omega
          have hm3 : (m : Int) < (s1 : Int) + 1 := by omega
          have hm4 : m ≤ s1 := by omega
          have hm5 : (m : Int) ≤ (s1 : Int) := by omega
          have hwm3 : IntKind.i64.wrap (m : Int) = (m : Int) := IntWalk.i64_in _ (by omega)
          have hwm1 : IntKind.i64.wrap (((m + 1 : Nat) : Int) - 1) = (m : Int) := by rw [IntWalk.i64_in _ (by omega)]; omega
          have hwm2 : IntKind.i64.wrap ((m : Int) + 1 - 1) = (m : Int) := by rw [IntWalk.i64_in _ (by omega)]; omega
          have HUK : Hid (-1 ≤ upAt l kk ∧ upAt l kk < kk) := HU.out kk hkl
          rcases (HN.out.nw HW.out) with h | ⟨b', off', hae, hb, hc⟩
          · rw [h] at hkl; simp at hkl
          injection hae with hae
          injection hae with e1 e2
          subst e1 e2
          obtain ⟨q0, q1, ⟨qa, qc, q2, qcap, q4⟩, q3⟩ := hc kk hkl
          rcases (HP.out.nw HW.out) with h | ⟨pb', poff', hpe, hpb, hpc⟩
          · rw [h] at hs; simp at hs
          injection hpe with hpe
          injection hpe with e1 e2
          subst e1 e2
          obtain ⟨r0, r1, ⟨ra, rc, r2, rcap, r4⟩⟩ := hpc m (by omega)
          have Q4 : Hid (Attrs wr.drew qa (nodeAt l kk).attrs) := q4.nw ((Below.refl _ _).drew)
          have R4 : Hid (Strs wr.drew ra (partAt sel m).cls) := r4.nw ((Below.refl _ _).drew)
          have hz1 := (HZ.out kk hkl).len
          have HZ2 : Hid (∀ i, i < (nodeAt l kk).attrs.length → (pairAt (nodeAt l kk).attrs i).2.size ≤ 1048576) := fun i hi => ((HZ.out kk hkl).attrs i hi).2
          have hz3 := (HSZ.out m (by omega)).len
          have Q1 : Hid (wr.drew.cell? ⟨b, off + kk * 4 + 1, none⟩ = some (.int .i64 (nodeAt l kk).up)) := q1
          have hb1 : b < wr.drew.heap.size := hb
          clear hc hpc q4 r4 qcap rcap hend
          cases hfb : fitB (nodeAt l kk) (partAt sel m)
          · have HC2 : Hid (climb l sel f' (upAt l kk) (m + 1) = climb l sel (l.length + 1) (upAt l kk0) s1) := by show _ = _; rw [← climb_not hfb]; exact HCL.out
            have hfb2 : fitB ⟨(nodeAt l kk).name, (nodeAt l kk).up, (nodeAt l kk).attrs, (nodeAt l kk).text⟩ ⟨(partAt sel m).ty, (partAt sel m).id, (partAt sel m).cls⟩ = false := hfb
            clear hfb
            go_wp2
            go_region_with (go_at_call 34; refine Calls.mono (sfits _ _ _ _ _ qa qc _ _ _ ra rc hz1 HZ2.out Q4.out hz3 R4.out) ?_; rw [hfb2]; rintro e w2 ⟨rfl, k2⟩; have y1 := ((bcell k2).1 b (off + kk * 4 + 1) hb1).trans Q1.out)
            all_goals
              go_wp2
              go_roundw
              case rel => exact ⟨upAt l kk, m + 1, f', rfl, by go_num, HUK.out.1, by have := HUK.out.2; omega, by have := HUK.out.2; omega, h3, HC2.out, HW.out.trans k2.drw⟩
              case measure => simp [intOf]; have := HUK.out.2; unfold upAt at this; omega
          · have HC2 : Hid (climb l sel f' (upAt l kk) m = climb l sel (l.length + 1) (upAt l kk0) s1) := by show _ = _; rw [← climb_fit hfb]; exact HCL.out
            have hfb2 : fitB ⟨(nodeAt l kk).name, (nodeAt l kk).up, (nodeAt l kk).attrs, (nodeAt l kk).text⟩ ⟨(partAt sel m).ty, (partAt sel m).id, (partAt sel m).cls⟩ = true := hfb
            clear hfb
            go_wp2
            go_region_with (go_at_call 34; refine Calls.mono (sfits _ _ _ _ _ qa qc _ _ _ ra rc hz1 HZ2.out Q4.out hz3 R4.out) ?_; rw [hfb2]; rintro e w2 ⟨rfl, k2⟩; have y1 := ((bcell k2).1 b (off + kk * 4 + 1) hb1).trans Q1.out)
            all_goals
              go_wp2
              go_roundw
              case rel => exact ⟨upAt l kk, m, f', rfl, by go_num, HUK.out.1, by have := HUK.out.2; omega, by have := HUK.out.2; omega, by omega, HC2.out, HW.out.trans k2.drw⟩
              case measure => simp [intOf]; have := HUK.out.2; unfold upAt at this; omega
end Go.Proofs.YtaeepbjdhcbofaaDoor
