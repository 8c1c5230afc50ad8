/-
  Marks looked for in rows of parts; each theorem names its conditions.
-/
import Derived.Test.YtnkmdmmlpidcmaaDoorRwM
namespace Go.Proofs.YtnkmdmmlpidcmaaDoor
open Go.ChangeShapes Go.WideShapes Go.ChangeAt Go.RowKit
set_option linter.unusedVariables false

set_option maxHeartbeats 8000000 in
theorem heldPt_any (w : World) (v : Value) (K : Nat) (l : List PD) (F : Nat → Prop) (hK : 1 ≤ K) (hK2 : K + cntPs l ≤ 1000000) (h : RowM 3 EPart w v (mkPs K l) F) :
    Calls Tryd.prog 16 #[v, .int .i64 (K : Int)] w fun e w' => e = .returned (.int .i64 ((K + cntPs l : Nat) : Int)) ∧ Nw w w' := by
  have hl := cntPs_len l
  obtain ⟨va, vc, hv, _⟩ := h.slice
  rw [mkPs_len] at hv
  subst hv
  have HR : Hid (RowM 3 EPart w (.slice va l.length vc) (mkPs K l) F) := h
  clear h
  go_enter Tryd.func16, Tryd.ntmps16
  go_wp2
  go_loopw [1, 5] (fun x i wr => ∃ (j : Nat), j ≤ l.length ∧ i = .int .i64 j ∧ x = .int .i64 ((K + cntPs (l.take j) : Nat) : Int) ∧ Nw w wr) (fun _ i _ => l.length - (intOf i).toNat)
  case atStart => exact ⟨0, Nat.zero_le _, rfl, rfl, Below.refl _ _⟩
  case round =>
    obtain ⟨j, hj, rfl, rfl, hw⟩ := hrel
    have HW : Hid (Nw w wr) := hw
    by_cases hlt : j < l.length
    · rcases HR.out.nw EPart.kept hw with ⟨_, h2⟩ | ⟨g, c, els, h1, h2, h3, h4⟩
      · have := mkPs_len l K; rw [h2] at this; simp at this; omega
      injection h1 with h1a h1b h1c
      subst h1a
      obtain ⟨e, hje, hex⟩ := el_at h3 j (by rw [mkPs_len]; exact hlt) noPD
      have hex2 : e.x = mkP (K + cntPs (l.take j)) (partAt l j) := by
        rw [hex, List.getD_eq_getElem?_getD, mkPs_at l K j hlt]; rfl
      obtain ⟨⟨u, hcs, hu⟩, hlen, hFe⟩ := h4.el e (List.mem_of_getElem? hje)
      have c0 := h4.cell j e hje 0 (.string e.x.ty) (by rw [hcs]; rfl)
      have c1 := h4.cell j e hje 1 (.string e.x.id) (by rw [hcs]; rfl)
      have c2 := h4.cell j e hje 2 u (by rw [hcs]; rfl)
      have hst := cntPs_step l j hlt
      have hle := cntPs_le l (j + 1)
      have hg := h4.lt
      rw [hex2] at hu c0 c1
      rw [Nat.add_zero] at c0
      have hu2 : RowM 1 EStr wr u (markL (K + cntPs (l.take j) + 2) (partAt l j).cls.length) e.F := hu
      have c0' : wr.cell? ⟨g, j * 3, none⟩ = some (.string (markT (K + cntPs (l.take j)))) := c0
      have c1' : wr.cell? ⟨g, j * 3 + 1, none⟩ = some (.string (markT (K + cntPs (l.take j) + 1))) := c1
      obtain ⟨ua, uc, hue, _⟩ := hu2.slice
      rw [markL_len] at hue
      subst hue
      have HU : Hid (RowM 1 EStr wr (.slice ua (partAt l j).cls.length uc) (markL (K + cntPs (l.take j) + 2) (partAt l j).cls.length) e.F) := hu2
      have hcn : cntP (partAt l j) = 2 + (partAt l j).cls.length := rfl
      rw [hcn] at hst
      rw [hst] at hle
      have HST : Hid (cntPs (l.take (j + 1)) = cntPs (l.take j) + (2 + (partAt l j).cls.length)) := hst
      clear hst hcn hu hu2 hje hFe hex hex2 hcs hlen hw c0 c1 h1b h1c h2 h3 h4
      generalize (partAt l j).cls.length = n at *
      generalize cntPs (l.take j) = C at *
      have hgd : g < wr.drew.heap.size := hg
      have C0 : wr.drew.cell? ⟨g, j * 3, none⟩ = some (.string (markT (K + C))) := c0'
      go_wp2
      go_region_with (go_at_call 30; refine Calls.mono (markText_any _ (K + C) (by omega) (by omega)) ?_; rintro e1 w1 ⟨rfl, k1⟩; have d0 := ((bcell k1).1 _ (j * 3) hgd).trans C0)
      all_goals
        have HK1 : Hid (Nw wr w1) := k1.drw
        have hg1 : g < w1.heap.size := Nat.lt_of_lt_of_le hg (Below.size HK1.out)
        have d1 := ((bcell HK1.out).1 _ (j * 3 + 1) hg).trans c1'
        have d2 := ((bcell HK1.out).1 _ (j * 3 + 2) hg).trans c2
        have hgd1 : g < w1.drew.heap.size := hg1
        have D1 : w1.drew.cell? ⟨g, j * 3 + 1, none⟩ = some (.string (markT (K + C + 1))) := d1
        clear C0 c0' c1' c2
        go_wp2
        go_region_with (go_at_call 30; refine Calls.mono (markText_any _ (K + C + 1) (by omega) (by omega)) ?_; rintro e2 w2 ⟨rfl, k2⟩; have f1 := ((bcell k2).1 _ (j * 3 + 1) hgd1).trans D1)
        all_goals
          have HK2 : Hid (Nw wr w2) := Nw.trans HK1.out k2.drw
          have hg2 : g < w2.heap.size := Nat.lt_of_lt_of_le hg (Below.size HK2.out)
          have f2 := ((bcell (Nw.drw k2)).1 _ (j * 3 + 2) hg1).trans d2
          have HU2 : Hid _ := HU.out.nw EStr.kept HK2.out
          clear D1 d1 d2
          go_wp2_with fail
          refine Calls.mono (heldSt_any _ (.slice ua n uc) (K + C + 2) n e.F (by omega) (by omega) (by omega) HU2.out) ?_
          rintro e3 w3 ⟨rfl, k3⟩
          have HN3 : Hid (Nw w w3) := Nw.trans HW.out (Nw.trans HK2.out k3)
          go_wp2
          go_roundw
          case rel => exact ⟨j + 1, by omega, by go_num, by rw [HST.out]; go_num, HN3.out⟩
          case measure => simp [intOf]; omega
    · have e : j = l.length := by omega
      subst e
      rw [List.take_length] at *
      clear hw
      go_wp2
      go_ret
      exact ⟨rfl, HW.out⟩
end Go.Proofs.YtnkmdmmlpidcmaaDoor
