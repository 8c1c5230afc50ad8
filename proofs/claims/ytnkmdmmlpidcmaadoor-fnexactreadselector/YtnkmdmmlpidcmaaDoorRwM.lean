/-
  Marks laid into rows of parts and looked for; each theorem names its conditions.
-/
import Derived.Test.YtnkmdmmlpidcmaaDoorRwP
namespace Go.Proofs.YtnkmdmmlpidcmaaDoor
open Go.ChangeShapes Go.WideShapes Go.ChangeAt Go.RowKit
set_option linter.unusedVariables false

theorem set_far {w : World} {g i j : Nat} {u : Value} (h : i ≠ j) : (w.setCell ⟨g, i, none⟩ u).cell? ⟨g, j, none⟩ = w.cell? ⟨g, j, none⟩ := World.cell?_setCell_other _ _ _ _ (fun e => by injection e; omega)
set_option maxHeartbeats 4000000 in
theorem markPt_any (w : World) (v : Value) (K : Nat) (l : List PD) (F : Nat → Prop) (hK : 1 ≤ K) (hK2 : K + cntPs l ≤ 1000000) (h : RowM 3 EPart w v l F) :
    Calls Tryd.prog 15 #[v, .int .i64 (K : Int)] w fun e w' => e = .returned (.int .i64 ((K + cntPs l : Nat) : Int)) ∧ Wr F w w' ∧ RowM 3 EPart w' v (mkPs K l) F := by
  rcases h with ⟨rfl, rfl⟩ | ⟨g, c, els, rfl, hc, hx, hA⟩
  · go_enter Tryd.func15, Tryd.ntmps15
    go_wp2
    go_loopw [1, 5] (fun x i wr => x = .int .i64 (K : Int) ∧ i = .int .i64 0 ∧ wr = w) (fun _ _ _ => 0)
    case atStart => exact ⟨rfl, rfl, rfl⟩
    case round =>
      obtain ⟨rfl, rfl, rfl⟩ := hrel
      go_wp2
      go_ret
      exact ⟨rfl, Wr.refl _ _, Or.inl ⟨rfl, rfl⟩⟩
  · have HA : Hid (RowA 3 EPart w g els F) := hA
    have HX : Hid (els.map El.x = l) := hx
    have hl := cntPs_len l
    clear hA hx
    have HC : Hid (l.length ≤ c) := hc
    go_enter Tryd.func15, Tryd.ntmps15
    go_wp2
    go_loopw [1, 5] (fun x i wr => ∃ (j : Nat) (es : List (El PD)), j ≤ l.length ∧ i = .int .i64 j ∧ x = .int .i64 ((K + cntPs (l.take j) : Nat) : Int) ∧ Wr F w wr ∧ es.map El.x = (mkPs K l).take j ++ l.drop j ∧ RowA 3 EPart wr g es F) (fun _ i _ => l.length - (intOf i).toNat)
    case atStart => exact ⟨0, els, Nat.zero_le _, rfl, rfl, Wr.refl _ _, HX.out, HA.out⟩
    case round =>
      obtain ⟨j, es, hj, rfl, rfl, hw, he, hA⟩ := hrel
      have HW : Hid (Wr F w wr) := hw
      have HE : Hid (es.map El.x = (mkPs K l).take j ++ l.drop j) := he
      by_cases hlt : j < l.length
      · obtain ⟨e, hje, hex⟩ := el_at he j (by rw [List.length_append, List.length_take, List.length_drop, mkPs_len]; omega) noPD
        have hex2 : e.x = partAt l j := by
          rw [hex]
          show ((mkPs K l).take j ++ l.drop j).getD j noPD = l.getD j noPD
          rw [List.getD_eq_getElem?_getD, marked_at _ _ _ (mkPs_len l K) hlt, ← List.getD_eq_getElem?_getD]
        obtain ⟨⟨u, hcs, hu⟩, hlen, hFe⟩ := hA.el e (List.mem_of_getElem? hje)
        have c0 := hA.cell j e hje 0 (.string e.x.ty) (by rw [hcs]; rfl)
        have c1 := hA.cell j e hje 1 (.string e.x.id) (by rw [hcs]; rfl)
        have c2 := hA.cell j e hje 2 u (by rw [hcs]; rfl)
        have hst := cntPs_step l j hlt
        have hle := cntPs_le l (j + 1)
        have HMK : Hid _ := mkPs_at l K j hlt
        have hg := hA.lt
        have hfz := hA.fz
        rw [hex2] at hu c0 c1
        rw [Nat.add_zero] at c0
        have HU : Hid (RowM 1 EStr wr u (partAt l j).cls e.F) := hu
        have HRA : Hid (RowA 3 EPart wr g es F) := hA
        have HJE : Hid (es[j]? = some e) := hje
        have HFE : Hid (∀ b, e.F b → F b ∧ b ≠ g) := hFe
        have HIF : Hid (F g) := hA.inF
        obtain ⟨ua, uc, hue, _⟩ := hu.slice
        subst hue
        have hcn : cntP (partAt l j) = 2 + (partAt l j).cls.length := rfl
        rw [hcn] at hst
        rw [hst] at hle
        have HST : Hid (cntPs (l.take (j + 1)) = cntPs (l.take j) + (2 + (partAt l j).cls.length)) := hst
        have HSM : Hid _ := fun x hx => set_marked (mkPs K l) l j x (mkPs_len l K) hlt hx
        clear hst hcn hu hA hje hFe hex hex2 hcs hlen he hw
        generalize partAt l j = p at *
        generalize cntPs (l.take j) = C at *
        go_wp2_with fail
        refine Calls.mono (markText_any _ (K + C) (by omega) (by omega)) ?_
        rintro e1 w1 ⟨rfl, k1⟩
        have hg1 : g < w1.heap.size := Nat.lt_of_lt_of_le hg (Below.size k1)
        have d0 := ((bcell k1).1 _ (j * 3) hg).trans c0
        have d1 := ((bcell k1).1 _ (j * 3 + 1) hg).trans c1
        have d2 := ((bcell k1).1 _ (j * 3 + 2) hg).trans c2
        have df : ∀ o, w1.frozen? ⟨g, o, none⟩ = false := fun o => ((bcell k1).2 _ o hg).trans (hfz o)
        have HK1 : Hid (Nw wr w1) := k1
        clear k1 c0 c1 c2
        go_wp2_with fail
        refine Calls.mono (markText_any _ (K + C + 1) (by omega) (by omega)) ?_
        rintro e2 w2 ⟨rfl, k2⟩
        have hgS : g < (w1.setCell ⟨g, j * 3, none⟩ (.string (markT (K + C)))).heap.size := by simpa [World.setCell] using hg1
        have hg2 : g < w2.heap.size := Nat.lt_of_lt_of_le hgS (Below.size k2)
        have f0 := ((bcell k2).1 _ (j * 3) hgS).trans (World.cell?_setCell_same w1 ⟨g, j * 3, none⟩ _ d0)
        have f1 := ((bcell k2).1 _ (j * 3 + 1) hgS).trans ((set_far (by omega)).trans d1)
        have f2 := ((bcell k2).1 _ (j * 3 + 2) hgS).trans ((set_far (by omega)).trans d2)
        have ff : ∀ o, w2.frozen? ⟨g, o, none⟩ = false := fun o => ((bcell k2).2 _ o hgS).trans (by rw [World.frozen?_setCell]; exact df o)
        have HK2 : Hid (Nw (w1.setCell ⟨g, j * 3, none⟩ (.string (markT (K + C)))) w2) := k2
        clear k2 d0 d1 d2 df
        go_wp2_with fail
        have HU1 : Hid (RowM 1 EStr (w2.setCell ⟨g, j * 3 + 1, none⟩ (.string (markT (K + C + 1)))) (.slice ua p.cls.length uc) p.cls e.F) := by
          have a1 := HU.out.nw EStr.kept HK1.out
          have a2 := a1.kept EStr.kept (Wr.set (F := fun b => b = g) (Wr.refl _ _) rfl (j * 3) (.string (markT (K + C)))) (fun b hb => (HFE.out b hb).2)
          have a3 := a2.nw EStr.kept HK2.out
          exact a3.kept EStr.kept (Wr.set (F := fun b => b = g) (Wr.refl _ _) rfl (j * 3 + 1) (.string (markT (K + C + 1)))) (fun b hb => (HFE.out b hb).2)
        refine Calls.mono (markSt_any _ (.slice ua p.cls.length uc) (K + C + 2) p.cls e.F (by omega) (by omega) (by omega) HU1.out) ?_
        rintro e3 w3 ⟨rfl, k3, m3⟩
        have HWR : Hid (Wr (fun b => b = g ∨ e.F b) wr w3) := by
          have b1 : Wr (fun b => b = g ∨ e.F b) wr w1 := Wr.nw HK1.out
          have b2 := b1.set (Or.inl rfl) (j * 3) (.string (markT (K + C)))
          have b3 := b2.trans (Wr.nw HK2.out)
          have b4 := b3.set (Or.inl rfl) (j * 3 + 1) (.string (markT (K + C + 1)))
          exact b4.trans (k3.mono (fun b hb => Or.inr hb))
        have hgS2 : g < (w2.setCell ⟨g, j * 3 + 1, none⟩ (.string (markT (K + C + 1)))).heap.size := by simpa [World.setCell] using hg2
        have hblk := k3.block g hgS2 (fun hb => (HFE.out g hb).2 rfl)
        have cc : ∀ o, w3.cell? ⟨g, o, none⟩ = (w2.setCell ⟨g, j * 3 + 1, none⟩ (.string (markT (K + C + 1)))).cell? ⟨g, o, none⟩ := fun o => World.cell?_of_block (w := (w2.setCell ⟨g, j * 3 + 1, none⟩ (.string (markT (K + C + 1))))) (a := ⟨g, o, none⟩) hblk
        have HNX : Hid (RowA 3 EPart w3 g (es.set j ⟨mkP (K + C) p, [.string (markT (K + C)), .string (markT (K + C + 1)), .slice ua p.cls.length uc], e.F⟩) F) := by
          refine HRA.out.step EPart.kept j e _ _ HJE.out rfl HWR.out (fun o => ?_) (fun i y hi => ?_) (fun i m him hm => ?_) ⟨_, rfl, ?_⟩
          · rw [World.frozen?_of_block (w := (w2.setCell ⟨g, j * 3 + 1, none⟩ (.string (markT (K + C + 1))))) (a := ⟨g, o, none⟩) hblk, World.frozen?_setCell]
            exact ff o
          · rw [cc]
            rcases (show i = 0 ∨ i = 1 ∨ i = 2 ∨ 3 ≤ i by omega) with rfl | rfl | rfl | h
            · simp at hi; subst hi; rw [set_far (by omega), Nat.add_zero]; exact f0
            · simp at hi; subst hi; exact World.cell?_setCell_same w2 ⟨g, j * 3 + 1, none⟩ _ f1
            · simp at hi; subst hi; rw [set_far (by omega)]; exact f2
            · rw [List.getElem?_eq_none (by simpa using h)] at hi; cases hi
          · rw [cc, set_far (by omega), (bcell HK2.out).1 _ _ hgS, set_far (by omega), (bcell HK1.out).1 _ _ hg]
          · exact m3
        have HW3 : Hid (Wr F w w3) := HW.out.trans (HWR.out.mono (fun b hb => by
          rcases hb with rfl | hb
          · exact HIF.out
          · exact (HFE.out b hb).1))
        clear m3 hblk cc k3 f0 f1 f2 ff
        go_wp2
        go_roundw
        case rel =>
          refine ⟨j + 1, _, by omega, by go_num, by rw [HST.out]; go_num, HW3.out, ?_, HNX.out⟩
          rw [List.map_set, HE.out, HSM.out _ HMK.out]
        case measure => simp [intOf]; omega
      · have e : j = l.length := by omega
        subst e
        rw [List.take_length] at *
        have HRA : Hid (RowA 3 EPart wr g es F) := hA
        have HE2 : Hid (es.map El.x = mkPs K l) := by
          show _ = _
          rw [he, ← mkPs_len l K, List.take_length]
          rw [mkPs_len, List.drop_length, List.append_nil]
        have HLN : Hid ((mkPs K l).length = l.length) := mkPs_len l K
        clear hA he hw
        go_wp2
        go_ret
        refine ⟨rfl, HW.out, Or.inr ⟨g, c, es, ?_, ?_, HE2.out, HRA.out⟩⟩
        · rw [HLN.out]
        · rw [HLN.out]; exact HC.out
end Go.Proofs.YtnkmdmmlpidcmaaDoor
