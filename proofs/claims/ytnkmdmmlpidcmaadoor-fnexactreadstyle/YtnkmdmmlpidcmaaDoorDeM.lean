/-
  Marks laid into rows of declarations and looked for; each theorem names its conditions.
-/
import Derived.Test.YtnkmdmmlpidcmaaDoorDeF
namespace Go.Proofs.YtnkmdmmlpidcmaaDoor
open Go.ChangeShapes Go.WideShapes Go.ChangeAt Go.RowKit
set_option linter.unusedVariables false

def mkD (K : Nat) : DD := ⟨markT K, markT (K + 1), decide ((K + 2) % 3 = 0)⟩
def mkDs (K n : Nat) : List DD := (List.range n).map fun i => mkD (K + 3 * i)
theorem mkDs_len (K n : Nat) : (mkDs K n).length = n := by simp [mkDs]
theorem mkDs_at (K n j : Nat) (h : j < n) : (mkDs K n)[j]? = some (mkD (K + 3 * j)) := by simp [mkDs, h]
theorem setd_far {w : World} {g i j : Nat} {u : Value} (h : i ≠ j) : (w.setCell ⟨g, i, none⟩ u).cell? ⟨g, j, none⟩ = w.cell? ⟨g, j, none⟩ := World.cell?_setCell_other _ _ _ _ (fun e => by injection e; omega)
theorem mod3 (X : Nat) : ((((X : Nat) : Int) + 1 + 1) % 3 == 0) = decide ((X + 2) % 3 = 0) := by
  rw [Bool.eq_iff_iff, beq_iff_eq, decide_eq_true_eq]
  omega
set_option maxHeartbeats 4000000 in
theorem markDl_any (w : World) (v : Value) (K : Nat) (l : List DD) (F : Nat → Prop) (hK : 1 ≤ K) (hK2 : K + 3 * l.length ≤ 1000000) (h : RowM 3 EDecl w v l F) :
    Calls Tryd.prog 10 #[v, .int .i64 (K : Int)] w fun e w' => e = .returned (.int .i64 ((K + 3 * l.length : Nat) : Int)) ∧ Wr F w w' ∧ RowM 3 EDecl w' v (mkDs K l.length) F := by
  rcases h with ⟨rfl, rfl⟩ | ⟨g, c, els, rfl, hc, hx, hA⟩
  · go_enter Tryd.func10, Tryd.ntmps10
    go_wp2
    go_loopw [1, 5] (fun x i wr => x = .int .i64 (K : Int) ∧ i = .int .i64 0 ∧ wr = w) (fun _ _ _ => 0)
    case atStart => exact ⟨rfl, rfl, rfl⟩
    case round =>
      obtain ⟨rfl, rfl, rfl⟩ := hrel
      go_wp2
      go_ret
      exact ⟨rfl, Wr.refl _ _, Or.inl ⟨rfl, rfl⟩⟩
  · have HA : Hid (RowA 3 EDecl w g els F) := hA
    have HX : Hid (els.map El.x = l) := hx
    clear hA hx
    have HC : Hid (l.length ≤ c) := hc
    go_enter Tryd.func10, Tryd.ntmps10
    go_wp2
    go_loopw [1, 5] (fun x i wr => ∃ (j : Nat) (es : List (El DD)), j ≤ l.length ∧ i = .int .i64 j ∧ x = .int .i64 ((K + 3 * j : Nat) : Int) ∧ Wr F w wr ∧ es.map El.x = (mkDs K l.length).take j ++ l.drop j ∧ RowA 3 EDecl wr g es F) (fun _ i _ => l.length - (intOf i).toNat)
    case atStart => exact ⟨0, els, Nat.zero_le _, rfl, rfl, Wr.refl _ _, HX.out, HA.out⟩
    case round =>
      obtain ⟨j, es, hj, rfl, rfl, hw, he, hA⟩ := hrel
      have HW : Hid (Wr F w wr) := hw
      have HE : Hid (es.map El.x = (mkDs K l.length).take j ++ l.drop j) := he
      by_cases hlt : j < l.length
      · obtain ⟨e, hje, hex⟩ := el_at he j (by rw [List.length_append, List.length_take, List.length_drop, mkDs_len]; omega) noDD
        obtain ⟨hcs, hlen, hFe⟩ := hA.el e (List.mem_of_getElem? hje)
        have c0 := hA.cell j e hje 0 (.string e.x.nm) (by rw [hcs]; rfl)
        have c1 := hA.cell j e hje 1 (.string e.x.vl) (by rw [hcs]; rfl)
        have c2 := hA.cell j e hje 2 (.bool e.x.im) (by rw [hcs]; rfl)
        have HMK : Hid ((mkDs K l.length)[j]? = some (mkD (K + 3 * j))) := mkDs_at K l.length j hlt
        have hg := hA.lt
        have hfz := hA.fz
        rw [Nat.add_zero] at c0
        have HRA : Hid (RowA 3 EDecl wr g es F) := hA
        have HJE : Hid (es[j]? = some e) := hje
        have HFE : Hid (∀ b, e.F b → F b ∧ b ≠ g) := hFe
        have HIF : Hid (F g) := hA.inF
        have HSM : Hid _ := fun x hx => set_marked (mkDs K l.length) l j x (mkDs_len K l.length) hlt hx
        have HX3 : Hid (K + 3 * (j + 1) = K + 3 * j + 3) := by show _ = _; omega
        have hXb : K + 3 * j + 3 ≤ 1000000 := by omega
        have hX1 : 1 ≤ K + 3 * j := by omega
        clear hA hje hFe hex hcs hlen he hw
        generalize K + 3 * j = X at *
        have hm3 := mod3 X
        generalize e.x.nm = en at *
        generalize e.x.vl = ev at *
        generalize e.x.im = ei at *
        go_wp2_with fail
        refine Calls.mono (markText_any _ X (by omega) (by omega)) ?_
        rintro e1 w1 ⟨rfl, k1⟩
        have hg1 : g < w1.heap.size := Nat.lt_of_lt_of_le hg (Below.size k1)
        have d0 := ((bcell k1).1 _ (j * 3) hg).trans c0
        have d1 := ((bcell k1).1 _ (j * 3 + 1) hg).trans c1
        have d2 := ((bcell k1).1 _ (j * 3 + 2) hg).trans c2
        have df : ∀ o, w1.frozen? ⟨g, o, none⟩ = false := fun o => ((bcell k1).2 _ o hg).trans (hfz o)
        have HK1 : Hid (Nw wr w1) := k1
        clear k1 c0 c1 c2
        go_wp2_with fail
        refine Calls.mono (markText_any _ (X + 1) (by omega) (by omega)) ?_
        rintro e2 w2 ⟨rfl, k2⟩
        have hgS : g < (w1.setCell ⟨g, j * 3, none⟩ (.string (markT X))).heap.size := by simpa [World.setCell] using hg1
        have hg2 : g < w2.heap.size := Nat.lt_of_lt_of_le hgS (Below.size k2)
        have f0 := ((bcell k2).1 _ (j * 3) hgS).trans (World.cell?_setCell_same w1 ⟨g, j * 3, none⟩ _ d0)
        have f1 := ((bcell k2).1 _ (j * 3 + 1) hgS).trans ((setd_far (by omega)).trans d1)
        have f2 := ((bcell k2).1 _ (j * 3 + 2) hgS).trans ((setd_far (by omega)).trans d2)
        have ff : ∀ o, w2.frozen? ⟨g, o, none⟩ = false := fun o => ((bcell k2).2 _ o hgS).trans (by rw [World.frozen?_setCell]; exact df o)
        have HK2 : Hid (Nw (w1.setCell ⟨g, j * 3, none⟩ (.string (markT X))) w2) := k2
        clear k2 d0 d1 d2 df
        have HWR : Hid (Wr (fun b => b = g ∨ e.F b) wr ((w2.setCell ⟨g, j * 3 + 1, none⟩ (.string (markT (X + 1)))).setCell ⟨g, j * 3 + 2, none⟩ (.bool (decide ((X + 2) % 3 = 0))))) := by
          have b1 : Wr (fun b => b = g ∨ e.F b) wr w1 := Wr.nw HK1.out
          have b2 := b1.set (Or.inl rfl) (j * 3) (.string (markT X))
          have b3 := b2.trans (Wr.nw HK2.out)
          have b4 := b3.set (Or.inl rfl) (j * 3 + 1) (.string (markT (X + 1)))
          exact b4.set (Or.inl rfl) (j * 3 + 2) _
        have HNX : Hid (RowA 3 EDecl ((w2.setCell ⟨g, j * 3 + 1, none⟩ (.string (markT (X + 1)))).setCell ⟨g, j * 3 + 2, none⟩ (.bool (decide ((X + 2) % 3 = 0)))) g (es.set j ⟨mkD X, [.string (markT X), .string (markT (X + 1)), .bool (decide ((X + 2) % 3 = 0))], e.F⟩) F) := by
          refine HRA.out.step EDecl.kept j e _ _ HJE.out rfl HWR.out (fun o => ?_) (fun i y hi => ?_) (fun i m him hm => ?_) rfl
          · rw [World.frozen?_setCell, World.frozen?_setCell]
            exact ff o
          · rcases (show i = 0 ∨ i = 1 ∨ i = 2 ∨ 3 ≤ i by omega) with rfl | rfl | rfl | h
            · simp at hi; subst hi; rw [setd_far (by omega), setd_far (by omega), Nat.add_zero]; exact f0
            · simp at hi; subst hi; rw [setd_far (by omega)]; exact World.cell?_setCell_same w2 ⟨g, j * 3 + 1, none⟩ _ f1
            · simp at hi; subst hi; exact World.cell?_setCell_same _ ⟨g, j * 3 + 2, none⟩ _ ((setd_far (by omega)).trans f2)
            · rw [List.getElem?_eq_none (by simpa using h)] at hi; cases hi
          · rw [setd_far (by omega), setd_far (by omega), (bcell HK2.out).1 _ _ hgS, setd_far (by omega), (bcell HK1.out).1 _ _ hg]
        have HW3 : Hid (Wr F w _) := HW.out.trans (HWR.out.mono (fun b hb => by
          rcases hb with rfl | hb
          · exact HIF.out
          · exact (HFE.out b hb).1))
        generalize decide ((X + 2) % 3 = 0) = bm at *
        go_wp2
        go_roundw
        case rel =>
          refine ⟨j + 1, _, by omega, by go_num, by rw [HX3.out]; go_num, HW3.out, ?_, HNX.out⟩
          rw [List.map_set, HE.out, HSM.out _ HMK.out]
        case measure => simp [intOf]; omega
      · have e : j = l.length := by omega
        subst e
        have HRA : Hid (RowA 3 EDecl wr g es F) := hA
        have HE2 : Hid (es.map El.x = mkDs K l.length) := by
          show _ = _
          rw [he, List.drop_length, List.append_nil, List.take_of_length_le (by rw [mkDs_len]; exact Nat.le_refl _)]
        have HLN : Hid ((mkDs K l.length).length = l.length) := mkDs_len K l.length
        clear hA he hw
        go_wp2
        go_ret
        refine ⟨rfl, HW.out, Or.inr ⟨g, c, es, ?_, ?_, HE2.out, HRA.out⟩⟩
        · rw [HLN.out]
        · rw [HLN.out]; exact HC.out
set_option maxRecDepth 100000 in
set_option maxHeartbeats 8000000 in
theorem heldDl_any (w : World) (v : Value) (K n : Nat) (F : Nat → Prop) (hK : 1 ≤ K) (hK2 : K + 3 * n ≤ 1000000) (h : RowM 3 EDecl w v (mkDs K n) F) :
    Calls Tryd.prog 11 #[v, .int .i64 (K : Int)] w fun e w' => e = .returned (.int .i64 ((K + 3 * n : Nat) : Int)) ∧ Nw w w' := by
  obtain ⟨va, vc, hv, _⟩ := h.slice
  rw [mkDs_len] at hv
  subst hv
  have HR : Hid (RowM 3 EDecl w (.slice va n vc) (mkDs K n) F) := h
  clear h
  go_enter Tryd.func11, Tryd.ntmps11
  go_wp2
  go_loopw [1, 5] (fun x i wr => ∃ (j : Nat), j ≤ n ∧ i = .int .i64 j ∧ x = .int .i64 ((K + 3 * j : Nat) : Int) ∧ Nw w wr) (fun _ i _ => n - (intOf i).toNat)
  case atStart => exact ⟨0, Nat.zero_le _, rfl, rfl, Below.refl _ _⟩
  case round =>
    obtain ⟨j, hj, rfl, rfl, hw⟩ := hrel
    have HW : Hid (Nw w wr) := hw
    by_cases hlt : j < n
    · obtain ⟨a, c, hs, _, hd⟩ := (HR.out.nw EDecl.kept hw).decls
      injection hs with hs1 hs2 hs3
      subst hs1
      clear hs2 hs3
      rcases hd with h2 | ⟨g, rfl, hg, hc⟩
      · have := mkDs_len K n; rw [h2] at this; simp at this; omega
      obtain ⟨c0, c1, c2⟩ := hc j (by rw [mkDs_len]; exact hlt)
      have hda : declAt (mkDs K n) j = mkD (K + 3 * j) := by unfold declAt; rw [List.getD_eq_getElem?_getD, mkDs_at K n j hlt]; rfl
      rw [hda] at c0 c1 c2
      have c0' : wr.cell? ⟨g, j * 3, none⟩ = some (.string (markT (K + 3 * j))) := c0
      have c1' : wr.cell? ⟨g, j * 3 + 1, none⟩ = some (.string (markT (K + 3 * j + 1))) := c1
      have c2' : wr.cell? ⟨g, j * 3 + 2, none⟩ = some (.bool (decide ((K + 3 * j + 2) % 3 = 0))) := c2
      have HX3 : Hid (K + 3 * (j + 1) = K + 3 * j + 3) := by show _ = _; omega
      have hXb : K + 3 * j + 3 ≤ 1000000 := by omega
      have hX1 : 1 ≤ K + 3 * j := by omega
      clear hc hw hda c0 c1 c2
      generalize K + 3 * j = X at *
      have HM3 : Hid _ := mod3 X
      generalize decide ((X + 2) % 3 = 0) = bm at *
      have hgd : g < wr.drew.heap.size := hg
      have C0 : wr.drew.cell? ⟨g, j * 3, none⟩ = some (.string (markT X)) := c0'
      go_wp2
      go_region_with (go_at_call 30; refine Calls.mono (markText_any _ X (by omega) (by omega)) ?_; rintro e1 w1 ⟨rfl, k1⟩; have d0 := ((bcell k1).1 _ (j * 3) hgd).trans C0)
      all_goals
        have HK1 : Hid (Nw wr w1) := k1.drw
        have hg1 : g < w1.heap.size := Nat.lt_of_lt_of_le hg (Below.size HK1.out)
        have d1 := ((bcell HK1.out).1 _ (j * 3 + 1) hg).trans c1'
        have d2 := ((bcell HK1.out).1 _ (j * 3 + 2) hg).trans c2'
        have hgd1 : g < w1.drew.heap.size := hg1
        have D1 : w1.drew.cell? ⟨g, j * 3 + 1, none⟩ = some (.string (markT (X + 1))) := d1
        clear C0 c0' c1' c2'
        go_wp2
        go_region_with (go_at_call 30; refine Calls.mono (markText_any _ (X + 1) (by omega) (by omega)) ?_; rintro e2 w2 ⟨rfl, k2⟩; have f1 := ((bcell k2).1 _ (j * 3 + 1) hgd1).trans D1)
        all_goals
          have HK2 : Hid (Nw wr w2) := Nw.trans HK1.out k2.drw
          have hg2 : g < w2.heap.size := Nat.lt_of_lt_of_le hg (Below.size HK2.out)
          have f2 := ((bcell (Nw.drw k2)).1 _ (j * 3 + 2) hg1).trans d2
          have HN2 : Hid (Nw w w2) := Nw.trans HW.out HK2.out
          clear D1 d1 d2
          have hm3 := HM3.out
          go_wp2
          go_roundw
          case rel => exact ⟨j + 1, by omega, by go_num, by rw [HX3.out]; go_num, HN2.out⟩
          case measure => simp [intOf]; omega
    · have e : j = n := by omega
      subst e
      clear hw
      go_wp2
      go_ret
      exact ⟨rfl, HW.out⟩
end Go.Proofs.YtnkmdmmlpidcmaaDoor
