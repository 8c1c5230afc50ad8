/-
  A part read from a word by the program; each theorem names its conditions.
-/
import Derived.Test.YtnkmdmmlpidcmaaDoorPtP
import Derived.Test.YtnkmdmmlpidcmaaDoorPtR
namespace Go.Proofs.YtnkmdmmlpidcmaaDoor
open Go.ChangeShapes Go.WideShapes Go.ChangeAt Go.RowKit
set_option linter.unusedVariables false

theorem split1 (s : ByteArray) (c : UInt8) (w : World) (hs : s.size ≤ 1048576) :
    Calls Tryd.prog 54 #[.string s, .string ⟨#[c]⟩] w fun e w' => e = .returned (.slice (some ⟨w.heap.size, 0, none⟩) (pcB c s).length (pcB c s).length) ∧ Nw w w' ∧ LayS w' w.heap.size (pcB c s) (pcB c s).length := by
  go_enter Tryd.func54, Tryd.ntmps54
  go_wp2_with (go_at_call 92; refine (gsplit1 s c _ hs).mono ?_; rintro e w' ⟨rfl, k1, k2⟩)
  go_ret
  exact ⟨rfl, k1, k2⟩
theorem done_cls {w w9 : World} {g vc : Nat} {va : Option Addr} {D : List ByteArray} {u0 u1 u2 : Value} (h : Txs w9 (g + 1) (.slice va D.length vc) D) (hn : Nw w w9) (hg : w.heap.size < g) :
    RowM 1 EStr (((w9.setCell ⟨w.heap.size, 0, none⟩ u0).setCell ⟨w.heap.size, 1, none⟩ u1).setCell ⟨w.heap.size, 2, none⟩ u2) (.slice va D.length vc) D (iv w (((w9.setCell ⟨w.heap.size, 0, none⟩ u0).setCell ⟨w.heap.size, 1, none⟩ u1).setCell ⟨w.heap.size, 2, none⟩ u2)) := by
  have hne : (Value.slice va D.length vc).ownBlock ≠ some w.heap.size := fun e => by have := (World.ownsRow.lt h _ e).1; omega
  exact RowM.ofTxs (((h.far _ _ _ hne).far _ _ _ hne).far _ _ _ hne) (fun b h1 h2 => ⟨by omega, h2⟩)
set_option maxHeartbeats 8000000 in
theorem ipartOf (w : World) (s : ByteArray) (hs : s.size ≤ 1048576) :
    Calls Tryd.prog 34 #[.string s] w fun e w' => PartSays s w w' e ∧ Nw w w' := by
  obtain ⟨d1, nm, id, b, D, hf⟩ := part_facts s hs
  have HF : Hid (PartF s d1 nm id b D) := hf
  obtain ⟨hpc, hcut, _, _, hs1, hs2, hs3, hs4, hs5⟩ := hf
  have HPC : Hid (pcB 46 s = d1 :: D) := hpc
  have HCT : Hid (cutV 35 d1 = .tuple #[.string nm, .string id, .bool b]) := hcut
  have HS4 : Hid (∀ i, i < D.length → (strAt D i).size ≤ 1048576) := hs4
  clear hpc hcut hs4
  go_enter Tryd.func34, Tryd.ntmps34
  go_wp2_with fail
  have HZ0 : Hid (CvP w.heap.size (w.alloc (.cells #[.string ⟨#[]⟩, .string ⟨#[]⟩, .slice none 0 0] 56)) ⟨#[]⟩ ⟨#[]⟩ (.slice none 0 0) []) := CvP.new _ _ _ _
  have HN0 : Hid (Nw w (w.alloc (.cells #[.string ⟨#[]⟩, .string ⟨#[]⟩, .slice none 0 0] 56))) := (Below.refl _ _).alloc (Nat.le_refl _) _
  refine Calls.mono (split1 s 46 _ hs) ?_
  rintro e w1 ⟨rfl, k1, l1⟩
  rw [World.size_alloc, HPC.out] at l1 ⊢
  have hlen : (d1 :: D).length = D.length + 1 := rfl
  rw [hlen] at l1 ⊢
  have HZ1 : Hid _ := HZ0.out.nw k1
  have HN1 : Hid (Nw w w1) := Nw.trans HN0.out k1
  have HL1 : Hid (LayS w1 (w.heap.size + 1) (d1 :: D) (D.length + 1)) := l1
  have p0 : w1.cell? ⟨w.heap.size + 1, 0, none⟩ = some (.string d1) := l1.2.1 0 (by omega)
  have hg1 : w.heap.size + 1 < w1.heap.size := l1.1
  clear k1 l1 HZ0 HN0
  go_wp2_with fail
  refine Calls.mono (cut1 d1 35 _ hs1) ?_
  rw [HCT.out]
  rintro e w2 ⟨rfl, k2⟩
  have HZ2 : Hid _ := HZ1.out.nw k2
  have HN2 : Hid (Nw w w2) := Nw.trans HN1.out k2
  have HL2 : Hid (LayS w2 (w.heap.size + 1) (d1 :: D) (D.length + 1)) := HL1.out.nw k2
  clear k2 HZ1 HN1 HL1 p0 HCT
  go_wp2_with fail
  refine Calls.mono (clone_any _ nm hs2) ?_
  rintro e w3 ⟨rfl, k3⟩
  have HZ3 : Hid _ := HZ2.out.nw k3
  have HN3 : Hid (Nw w w3) := Nw.trans HN2.out k3
  have HL3 : Hid (LayS w3 (w.heap.size + 1) (d1 :: D) (D.length + 1)) := HL2.out.nw k3
  clear k3 HZ2 HN2 HL2
  go_wp2_with fail
  refine Calls.mono (clone_any _ id hs3) ?_
  rintro e w4 ⟨rfl, k4⟩
  have HZ4 : Hid _ := HZ3.out.nw k4
  have HN4 : Hid (Nw w w4) := Nw.trans HN3.out k4
  have HL4 : Hid (LayS w4 (w.heap.size + 1) (d1 :: D) (D.length + 1)) := HL3.out.nw k4
  have hg4 : w.heap.size + 1 < w4.heap.size := HL4.out.1
  have HLT4 : Hid (w.heap.size < w4.heap.size) := by show _ < _; omega
  clear k4 HZ3 HN3 HL3 hg1
  by_cases hD : D.length = 0
  · have HD2 : Hid (D = []) := List.eq_nil_of_length_eq_zero hD
    go_wp2
    go_loopw [29] (fun i wr => i = .int .i64 0 ∧ Nw w4 wr ∧ w4.heap.size < wr.heap.size ∧ ∃ v, CvP w4.heap.size wr nm id v []) (fun _ _ => 0)
    case atStart => exact ⟨rfl, (Below.refl _ _).alloc (Nat.le_refl _) _, by simp, _, CvP.new _ _ _ _⟩
    case round =>
      obtain ⟨rfl, hw, hbx, v, hcb⟩ := hrel
      have HWR : Hid (Nw w4 wr) := hw
      have HCB : Hid (CvP w4.heap.size wr nm id v D) := by show CvP _ _ _ _ _ _; rw [HD2.out]; exact hcb
      clear hw hcb hD
      obtain ⟨b0, b1, b2, bf, bo⟩ := HCB.out
      obtain ⟨va, vc, rfl, hst⟩ := bo.strs
      have HST : Hid (Strs wr va D) := hst
      have HBO : Hid (Txs wr (w4.heap.size + 1) (.slice va D.length vc) D) := bo
      clear bo hst HCB
      go_wp2_with fail
      refine Calls.mono (igoodPart _ nm id D va vc ⟨hs2, hs3, hs5, HS4.out⟩ HST.out) ?_
      rintro e w9 ⟨rfl, k9⟩
      have HZ9 : Hid _ := HZ4.out.nw (Nw.trans HWR.out k9)
      have HN9 : Hid (Nw w w9) := Nw.trans HN4.out (Nw.trans HWR.out k9)
      have HB9 : Hid (Txs w9 (w4.heap.size + 1) (.slice va D.length vc) D) := HBO.out.nw k9
      have d0 := ((bcell k9).1 _ _ hbx).trans b0
      have d1' := ((bcell k9).1 _ _ hbx).trans b1
      have d2 := ((bcell k9).1 _ _ hbx).trans b2
      obtain ⟨z0, z1, z2, zf, _⟩ := HZ9.out
      cases hG : partB ⟨nm, id, D⟩
      · have HP : Hid (prP s = none) := HF.out.no (Or.inl hG)
        obtain ⟨y0, y1, y2⟩ := set3c w9 w.heap.size (.string ⟨#[]⟩) (.string ⟨#[]⟩) (.slice none 0 0) z0 z1 z2
        clear b0 b1 b2 bf hG
        go_wp2
        refine bodyPost_ret (v := .tuple #[.agg #[.string ⟨#[]⟩, .string ⟨#[]⟩, .slice none 0 0], .bool false]) (by simp [results, Tryd.results34, go_sem, y0, y1, y2]) rfl ⟨Or.inr ⟨HP.out, _, _, _, _, _, rfl⟩, ?_⟩
        exact ((HN9.out.setCell (Nat.le_refl _) _).setCell (Nat.le_refl _) _).setCell (Nat.le_refl _) _
      · cases b
        · have HP : Hid (prP s = some ⟨nm, id, D⟩) := HF.out.yes hG (fun h => by cases h.1)
          obtain ⟨y0, y1, y2⟩ := set3c w9 w.heap.size (.string nm) (.string id) (.slice va D.length vc) z0 z1 z2
          clear b0 b1 b2 bf hG
          go_wp2
          refine bodyPost_ret (v := .tuple #[.agg #[.string nm, .string id, .slice va D.length vc], .bool true]) (by simp [results, Tryd.results34, go_sem, y0, y1, y2]) rfl ⟨Or.inl ⟨⟨nm, id, D⟩, _, HP.out, rfl, ?_⟩, ?_⟩
          · exact done_cls HB9.out HN9.out HLT4.out
          · exact ((HN9.out.setCell (Nat.le_refl _) _).setCell (Nat.le_refl _) _).setCell (Nat.le_refl _) _
        · by_cases hi : id.size = 0
          · obtain rfl := empty_of hi
            have HP : Hid (prP s = none) := HF.out.no (Or.inr ⟨rfl, rfl⟩)
            obtain ⟨y0, y1, y2⟩ := set3c w9 w.heap.size (.string ⟨#[]⟩) (.string ⟨#[]⟩) (.slice none 0 0) z0 z1 z2
            clear b0 b1 b2 bf hG
            go_wp2
            refine bodyPost_ret (v := .tuple #[.agg #[.string ⟨#[]⟩, .string ⟨#[]⟩, .slice none 0 0], .bool false]) (by simp [results, Tryd.results34, go_sem, y0, y1, y2]) rfl ⟨Or.inr ⟨HP.out, _, _, _, _, _, rfl⟩, ?_⟩
            exact ((HN9.out.setCell (Nat.le_refl _) _).setCell (Nat.le_refl _) _).setCell (Nat.le_refl _) _
          · have n1 := ne_nil (s := id) (by omega)
            have n2 := ne_emp (s := id) (by omega)
            have HP : Hid (prP s = some ⟨nm, id, D⟩) := HF.out.yes hG (fun h => hi (by rw [h.2]; rfl))
            obtain ⟨y0, y1, y2⟩ := set3c w9 w.heap.size (.string nm) (.string id) (.slice va D.length vc) z0 z1 z2
            clear b0 b1 b2 bf hG
            go_wp2
            refine bodyPost_ret (v := .tuple #[.agg #[.string nm, .string id, .slice va D.length vc], .bool true]) (by simp [results, Tryd.results34, go_sem, y0, y1, y2]) rfl ⟨Or.inl ⟨⟨nm, id, D⟩, _, HP.out, rfl, ?_⟩, ?_⟩
            · exact done_cls HB9.out HN9.out HLT4.out
            · exact ((HN9.out.setCell (Nat.le_refl _) _).setCell (Nat.le_refl _) _).setCell (Nat.le_refl _) _
  · have hDp : 0 < D.length := by omega
    go_wp2
    go_loopw [29] (fun i wr => ∃ j : Nat, j ≤ D.length ∧ i = .int .i64 j ∧ Nw w4 wr ∧ w4.heap.size < wr.heap.size ∧ ∃ v, CvP w4.heap.size wr nm id v (D.take j)) (fun i _ => D.length - (intOf i).toNat)
    case atStart => exact ⟨0, Nat.zero_le _, rfl, (Below.refl _ _).alloc (Nat.le_refl _) _, by simp, _, CvP.new _ _ _ _⟩
    case round =>
      obtain ⟨j, hj, rfl, hw, hbx, v, hcb⟩ := hrel
      have HWR : Hid (Nw w4 wr) := hw
      by_cases hlt : j < D.length
      · obtain ⟨va, vc, rfl⟩ := hcb.own.slice
        have hq : wr.cell? ⟨w.heap.size + 1, 1 + j, none⟩ = some (.string (strAt D j)) := by
          have := (HL4.out.nw hw).2.1 (j + 1) (by omega)
          rw [Nat.add_comm 1 j, this]
          rfl
        have HCB : Hid (CvP w4.heap.size wr nm id (.slice va (D.take j).length vc) (D.take j)) := hcb
        have hx := HS4.out j hlt
        have HT : Hid (D.take (j + 1) = D.take j ++ [strAt D j]) := by
          show _ = _
          rw [List.take_succ_eq_append_getElem hlt]
          simp [strAt, hlt]
        have HLE : Hid ((D.take j).length ≤ 2000000) := by show _ ≤ _; rw [List.length_take]; omega
        clear hw hcb
        generalize strAt D j = x at *
        generalize D.take j = L at *
        go_wp2
        refine reg_change (ops' := opsOf 7 Tryd.f34) (by kernel_rfl) ?_
        refine IP7.run ⟨w4.heap.size, nm, id, va, vc, L, x, wr.drew, _⟩ ⟨CvP.nw HCB.out ((Below.refl _ _).drew), HLE.out, hx, rfl, rfl, rfl⟩ wr (Below.refl _ _) ?_
        rintro γ w9 ⟨w7, w8, k1, o1, y1, rfl⟩
        simp only at o1 y1 k1 ⊢
        have HPT : Hid _ := CvP.put ((CvP.nw HCB.out ((Below.refl _ _).drew)).nw k1) y1 o1
        have HK1 : Hid (Nw wr w7) := Nw.trans ((Below.refl _ _).drew) k1
        have HSZ : Hid (w7.heap.size ≤ w8.heap.size) := y1.size
        generalize γ 2 = v' at *
        generalize γ 1 = v1 at *
        generalize γ 0 = v0 at *
        obtain ⟨sa, sc, g1⟩ := o1.slice
        subst g1
        have hLx : (L ++ [x]).length = L.length + 1 := by simp
        rw [hLx] at HPT ⊢
        clear hLx
        clear o1 y1 k1 hx hq
        simp only [Act.put, List.setIfInBounds_toArray, List.set_cons_zero, List.set_cons_succ]
        go_wp2
        go_roundw
        case rel => exact ⟨j + 1, by omega, by go_num, Below.trans (Nw.trans HWR.out HK1.out) (Below.mono HPT.out.2 (Nat.le_refl _)), by have := Below.size HK1.out; have := HSZ.out; simp [World.setCell]; omega, _, by rw [HT.out]; exact HPT.out.1⟩
        case measure => simp [intOf]; omega
      · have hj2 : j = D.length := by omega
        subst hj2
        rw [List.take_length] at hcb
        have HCB : Hid (CvP w4.heap.size wr nm id v D) := hcb
        clear hcb hw
        obtain ⟨b0, b1, b2, bf, bo⟩ := HCB.out
        obtain ⟨va, vc, rfl, hst⟩ := bo.strs
        have HST : Hid (Strs wr va D) := hst
        have HBO : Hid (Txs wr (w4.heap.size + 1) (.slice va D.length vc) D) := bo
        clear bo hst HCB
        go_wp2_with fail
        refine Calls.mono (igoodPart _ nm id D va vc ⟨hs2, hs3, hs5, HS4.out⟩ HST.out) ?_
        rintro e w9 ⟨rfl, k9⟩
        have HZ9 : Hid _ := HZ4.out.nw (Nw.trans HWR.out k9)
        have HN9 : Hid (Nw w w9) := Nw.trans HN4.out (Nw.trans HWR.out k9)
        have HB9 : Hid (Txs w9 (w4.heap.size + 1) (.slice va D.length vc) D) := HBO.out.nw k9
        have d0 := ((bcell k9).1 _ _ hbx).trans b0
        have d1' := ((bcell k9).1 _ _ hbx).trans b1
        have d2 := ((bcell k9).1 _ _ hbx).trans b2
        obtain ⟨z0, z1, z2, zf, _⟩ := HZ9.out
        cases hG : partB ⟨nm, id, D⟩
        · have HP : Hid (prP s = none) := HF.out.no (Or.inl hG)
          obtain ⟨y0, y1, y2⟩ := set3c w9 w.heap.size (.string ⟨#[]⟩) (.string ⟨#[]⟩) (.slice none 0 0) z0 z1 z2
          clear b0 b1 b2 bf hG
          go_wp2
          refine bodyPost_ret (v := .tuple #[.agg #[.string ⟨#[]⟩, .string ⟨#[]⟩, .slice none 0 0], .bool false]) (by simp [results, Tryd.results34, go_sem, y0, y1, y2]) rfl ⟨Or.inr ⟨HP.out, _, _, _, _, _, rfl⟩, ?_⟩
          exact ((HN9.out.setCell (Nat.le_refl _) _).setCell (Nat.le_refl _) _).setCell (Nat.le_refl _) _
        · cases b
          · have HP : Hid (prP s = some ⟨nm, id, D⟩) := HF.out.yes hG (fun h => by cases h.1)
            obtain ⟨y0, y1, y2⟩ := set3c w9 w.heap.size (.string nm) (.string id) (.slice va D.length vc) z0 z1 z2
            clear b0 b1 b2 bf hG
            go_wp2
            refine bodyPost_ret (v := .tuple #[.agg #[.string nm, .string id, .slice va D.length vc], .bool true]) (by simp [results, Tryd.results34, go_sem, y0, y1, y2]) rfl ⟨Or.inl ⟨⟨nm, id, D⟩, _, HP.out, rfl, ?_⟩, ?_⟩
            · exact done_cls HB9.out HN9.out HLT4.out
            · exact ((HN9.out.setCell (Nat.le_refl _) _).setCell (Nat.le_refl _) _).setCell (Nat.le_refl _) _
          · by_cases hi : id.size = 0
            · obtain rfl := empty_of hi
              have HP : Hid (prP s = none) := HF.out.no (Or.inr ⟨rfl, rfl⟩)
              obtain ⟨y0, y1, y2⟩ := set3c w9 w.heap.size (.string ⟨#[]⟩) (.string ⟨#[]⟩) (.slice none 0 0) z0 z1 z2
              clear b0 b1 b2 bf hG
              go_wp2
              refine bodyPost_ret (v := .tuple #[.agg #[.string ⟨#[]⟩, .string ⟨#[]⟩, .slice none 0 0], .bool false]) (by simp [results, Tryd.results34, go_sem, y0, y1, y2]) rfl ⟨Or.inr ⟨HP.out, _, _, _, _, _, rfl⟩, ?_⟩
              exact ((HN9.out.setCell (Nat.le_refl _) _).setCell (Nat.le_refl _) _).setCell (Nat.le_refl _) _
            · have n1 := ne_nil (s := id) (by omega)
              have n2 := ne_emp (s := id) (by omega)
              have HP : Hid (prP s = some ⟨nm, id, D⟩) := HF.out.yes hG (fun h => hi (by rw [h.2]; rfl))
              obtain ⟨y0, y1, y2⟩ := set3c w9 w.heap.size (.string nm) (.string id) (.slice va D.length vc) z0 z1 z2
              clear b0 b1 b2 bf hG
              go_wp2
              refine bodyPost_ret (v := .tuple #[.agg #[.string nm, .string id, .slice va D.length vc], .bool true]) (by simp [results, Tryd.results34, go_sem, y0, y1, y2]) rfl ⟨Or.inl ⟨⟨nm, id, D⟩, _, HP.out, rfl, ?_⟩, ?_⟩
              · exact done_cls HB9.out HN9.out HLT4.out
              · exact ((HN9.out.setCell (Nat.le_refl _) _).setCell (Nat.le_refl _) _).setCell (Nat.le_refl _) _
end Go.Proofs.YtnkmdmmlpidcmaaDoor
