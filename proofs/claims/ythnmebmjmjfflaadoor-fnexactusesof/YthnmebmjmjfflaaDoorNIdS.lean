/-
  The node with an id, the specification's; each theorem names its conditions.
-/
import Derived.Test.YthnmebmjmjfflaaDoorNId
namespace Go.Proofs.YthnmebmjmjfflaaDoor
open Go.ChangeShapes Go.WideShapes Go.ChangeAt Go.RowKit
set_option linter.unusedVariables false

/-- Texts have no attributes. -/
def TextBare (l : List ND) : Prop := ∀ i, i < l.length → (nodeAt l i).name.size = 0 → (nodeAt l i).attrs = []
set_option maxHeartbeats 4000000 in
theorem snodeId (w : World) (a : Option Addr) (c : Nat) (l : List ND) (id : ByteArray) (hl : l.length ≤ 1048576) (hz : SmV l) (hb : TextBare l) (hr : Nodes w a l) :
    Calls Tryd.prog 35 #[.slice a l.length c, .string id] w fun e w' => e = .returned (.int .i64 (nodeI l id)) ∧ Nw w w' := by
  have HR : Hid (Nodes w a l) := hr
  have HZ : Hid (SmV l) := hz
  have HB : Hid (TextBare l) := hb
  clear hr hz hb
  go_enter Tryd.func35, Tryd.ntmps35
  go_wp2
  go_loopw [11] (fun i wr => ∃ k : Nat, k ≤ l.length ∧ i = .int .i64 k ∧ (id.size ≠ 0 → NoId l id k) ∧ Nw w wr) (fun i _ => l.length - (intOf i).toNat)
  case atStart => exact ⟨0, Nat.zero_le _, rfl, fun _ i hi => absurd hi (by omega), Below.refl _ _⟩
  case round =>
    obtain ⟨k, hk, rfl, hno, hw⟩ := hrel
    have HN : Hid (id.size ≠ 0 → NoId l id k) := hno
    have HW : Hid (Nw w wr) := hw
    clear hno
    by_cases hlt : k < l.length
    · rcases (HR.out.nw hw) with h | ⟨b, o, rfl, hb, hc⟩
      · rw [h] at hlt; simp at hlt
      obtain ⟨q0, q1, ⟨aa, cc, q2, qc, qa⟩, q3⟩ := hc k hlt
      have HA : Hid (Attrs wr aa (nodeAt l k).attrs) := qa
      obtain ⟨z1, z2⟩ := HZ.out k hlt
      have HE : Hid (idAt l k = attrV (nodeAt l k).attrs idA) := rfl
      have HB2 : Hid ((nodeAt l k).name.size = 0 → (nodeAt l k).attrs = []) := HB.out k hlt
      clear hc hw qa z2
      generalize (nodeAt l k).name = nm at *
      generalize (nodeAt l k).up = up at *
      generalize (nodeAt l k).text = tx at *
      generalize (nodeAt l k).attrs = at' at *
      have S1 : Hid (Nw wr (wr.alloc (.cells #[.string nm, .int .i64 up, .slice aa at'.length cc, .string tx] 46))) := (Below.refl _ _).alloc (Nat.le_refl _) _
      have B0 := BoxN.new wr nm up (.slice aa at'.length cc) tx 46
      go_wp2_with fail
      refine Calls.mono (sattrV _ nm up at' tx aa cc idA z1 (HA.out.nw S1.out)) ?_
      rintro e w1 ⟨rfl, k1⟩
      have S2 : Hid (Nw w w1) := (HW.out.trans S1.out).trans k1
      have B1 := B0.nw k1
      clear k1 B0 q0 q1 q2 q3
      obtain ⟨b0, d0, d1, d2, d3⟩ := B1
      clear d1 d2 d3
      by_cases hi : id.size = 0
      · have HN2 : Hid (id.size ≠ 0 → NoId l id (k + 1)) := fun h => absurd hi h
        obtain rfl := empty_of hi
        clear hi HE HB2
        by_cases hnz : nm.size = 0
        · rw [empty_of hnz] at d0
          clear hnz
          cases attrO at' idA
          all_goals
            go_wp2
            go_roundw
            case rel => exact ⟨k + 1, by omega, by go_num, HN2.out, S2.out⟩
            case measure => simp [intOf]; omega
        · have n1 := ne_nil (s := nm) (by omega)
          have n2 := ne_emp (s := nm) (by omega)
          clear hnz
          generalize attrV at' idA = v at *
          cases attrO at' idA
          · go_wp2
            go_roundw
            case rel => exact ⟨k + 1, by omega, by go_num, HN2.out, S2.out⟩
            case measure => simp [intOf]; omega
          · by_cases hv : v.size = 0
            · obtain rfl := empty_of hv
              clear hv
              go_wp2
              go_roundw
              case rel => exact ⟨k + 1, by omega, by go_num, HN2.out, S2.out⟩
              case measure => simp [intOf]; omega
            · have v1 := ne_nil (s := v) (by omega)
              have v2 := ne_emp (s := v) (by omega)
              clear hv
              go_wp2
              go_roundw
              case rel => exact ⟨k + 1, by omega, by go_num, HN2.out, S2.out⟩
              case measure => simp [intOf]; omega
      · have i1 := ne_nil (s := id) (by omega)
        have i2 := ne_emp (s := id) (by omega)
        have HI : Hid (id.size ≠ 0) := hi
        clear hi
        by_cases hnz : nm.size = 0
        · have HN2 : Hid (id.size ≠ 0 → NoId l id (k + 1)) := fun h => (HN.out h).step (by
            rw [HE.out, HB2.out hnz]
            intro e
            rw [← e] at h
            exact h rfl)
          rw [empty_of hnz] at d0
          clear hnz
          generalize attrV at' idA = v at *
          cases attrO at' idA
          all_goals
            go_wp2
            go_roundw
            case rel => exact ⟨k + 1, by omega, by go_num, HN2.out, S2.out⟩
            case measure => simp [intOf]; omega
        · have n1 := ne_nil (s := nm) (by omega)
          have n2 := ne_emp (s := nm) (by omega)
          clear hnz
          by_cases he : attrV at' idA = id
          · have HX : Hid (nodeI l id = k) := nodeI_some HI.out hlt (HN.out HI.out) (HE.out.trans he)
            have ho : attrO at' idA = true := by
              cases h : attrO at' idA with
              | true => rfl
              | false => have := attrO_no h; rw [he] at this; exact absurd (congrArg ByteArray.size this) HI.out
            rw [ho]
            have hq : ((attrV at' idA).toList == id.toList) = true := by rw [he]; simp
            generalize attrV at' idA = v at *
            clear he
            go_wp2
            go_ret
            exact ⟨by rw [HX.out]; rfl, S2.out⟩
          · have HN2 : Hid (id.size ≠ 0 → NoId l id (k + 1)) := fun h => (HN.out h).step (by rw [HE.out]; exact he)
            have hq : ((attrV at' idA).toList == id.toList) = false := (Lib.bytes_beq_false_iff _ _).2 he
            generalize attrV at' idA = v at *
            clear he
            cases attrO at' idA
            all_goals
              go_wp2
              go_roundw
              case rel => exact ⟨k + 1, by omega, by go_num, HN2.out, S2.out⟩
              case measure => simp [intOf]; omega
    · have e : k = l.length := by omega
      subst e
      have HX : Hid (nodeI l id = -1) := by
        by_cases h : id.size = 0
        · exact nodeI_empty l h
        · exact nodeI_none (HN.out h)
      clear hw
      go_wp2
      go_ret
      exact ⟨by rw [HX.out]; rfl, HW.out⟩
end Go.Proofs.YthnmebmjmjfflaaDoor
