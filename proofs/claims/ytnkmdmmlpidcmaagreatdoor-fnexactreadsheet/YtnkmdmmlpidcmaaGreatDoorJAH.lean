/-
  Marks laid into rows of declarations and looked for; each theorem names its conditions.
  Rows of selectors and of rules, and what the laws' helpers that hold two against each other do; each theorem names its conditions.
  A part read from a word, as the program reads it: pure facts; each theorem names its conditions.
  Words of a text while they are told; each theorem names its conditions.
-/
import Derived.Test.YtnkmdmmlpidcmaaGreatDoorJAG
import Derived.Test.YtnkmdmmlpidcmaaGreatDoorJAD
import Derived.Test.YtnkmdmmlpidcmaaGreatDoorJAC
import Derived.Test.YtnkmdmmlpidcmaaGreatDoorJAF
namespace Go.Proofs.YtnkmdmmlpidcmaaGreatDoor
open Go.ChangeShapes Go.WideShapes Go.ChangeAt Go.RowKit
set_option linter.unusedVariables false

def mkD (K : Nat) : DD := ⟨markT K, markT (K + 1), decide ((K + 2) % 3 = 0)⟩
def mkDs (K n : Nat) : List DD := (List.range n).map fun i => mkD (K + 3 * i)
theorem mkDs_len (K n : Nat) : (mkDs K n).length = n := by simp [mkDs]
theorem mkDs_at (K n j : Nat) (h : j < n) : (mkDs K n)[j]? = some (mkD (K + 3 * j)) := by simp [mkDs, h]
theorem setd_far {w : World} {g i j : Nat} {u : Value} (h : i ≠ j) : (w.setCell ⟨g, i, none⟩ u).cell? ⟨g, j, none⟩ = w.cell? ⟨g, j, none⟩ := World.cell?_setCell_other _ _ _ _ (fun e => by injection e; omega)
theorem mod3 (X : Nat) : ((((X : Nat) : Int) + 1 + 1) % 3 == 0) = decide ((X + 2) % 3 = 0) := by
  rw [Bool.eq_iff_iff, beq_iff_eq, decide_eq_true_eq]
  omega
set_option maxHeartbeats 4000000 in
theorem markDl_any (w : World) (v : Value) (K : Nat) (l : List DD) (F : Nat → Prop) (hK : 1 ≤ K) (hK2 : K + 3 * l.length ≤ 1000000) (h : RowM 3 EDecl w v l F) :
    Calls Tryz.prog 45 #[v, .int .i64 (K : Int)] w fun e w' => e = .returned (.int .i64 ((K + 3 * l.length : Nat) : Int)) ∧ Wr F w w' ∧ RowM 3 EDecl w' v (mkDs K l.length) F := by
  rcases h with ⟨rfl, rfl⟩ | ⟨g, c, els, rfl, hc, hx, hA⟩
  · go_enter Tryz.func45, Tryz.ntmps45
    go_wp2
    go_loopw [1, 5] (fun x i wr => x = .int .i64 (K : Int) ∧ i = .int .i64 0 ∧ wr = w) (fun _ _ _ => 0)
    case atStart => exact ⟨rfl, rfl, rfl⟩
    case round =>
      obtain ⟨rfl, rfl, rfl⟩ := hrel
      go_wp2
      go_ret
      exact ⟨rfl, Wr.refl _ _, Or.inl ⟨rfl, rfl⟩⟩
  · have HA : Hid (RowA 3 EDecl w g els F) := hA
    have HX : Hid (els.map El.x = l) := hx
    clear hA hx
    have HC : Hid (l.length ≤ c) := hc
    go_enter Tryz.func45, Tryz.ntmps45
    go_wp2
    go_loopw [1, 5] (fun x i wr => ∃ (j : Nat) (es : List (El DD)), j ≤ l.length ∧ i = .int .i64 j ∧ x = .int .i64 ((K + 3 * j : Nat) : Int) ∧ Wr F w wr ∧ es.map El.x = (mkDs K l.length).take j ++ l.drop j ∧ RowA 3 EDecl wr g es F) (fun _ i _ => l.length - (intOf i).toNat)
    case atStart => exact ⟨0, els, Nat.zero_le _, rfl, rfl, Wr.refl _ _, HX.out, HA.out⟩
    case round =>
      obtain ⟨j, es, hj, rfl, rfl, hw, he, hA⟩ := hrel
      have HW : Hid (Wr F w wr) := hw
      have HE : Hid (es.map El.x = (mkDs K l.length).take j ++ l.drop j) := he
      by_cases hlt : j < l.length
      · obtain ⟨e, hje, hex⟩ := el_at he j (by rw [List.length_append, List.length_take, List.length_drop, mkDs_len]; omega) noDD
        obtain ⟨hcs, hlen, hFe⟩ := hA.el e (List.mem_of_getElem? hje)
        have c0 := hA.cell j e hje 0 (.string e.x.nm) (by rw [hcs]; rfl)
        have c1 := hA.cell j e hje 1 (.string e.x.vl) (by rw [hcs]; rfl)
        have c2 := hA.cell j e hje 2 (.bool e.x.im) (by rw [hcs]; rfl)
        have HMK : Hid ((mkDs K l.length)[j]? = some (mkD (K + 3 * j))) := mkDs_at K l.length j hlt
        have hg := hA.lt
        have hfz := hA.fz
        rw [Nat.add_zero] at c0
        have HRA : Hid (RowA 3 EDecl wr g es F) := hA
        have HJE : Hid (es[j]? = some e) := hje
        have HFE : Hid (∀ b, e.F b → F b ∧ b ≠ g) := hFe
        have HIF : Hid (F g) := hA.inF
        have HSM : Hid _ := fun x hx => set_marked (mkDs K l.length) l j x (mkDs_len K l.length) hlt hx
        have HX3 : Hid (K + 3 * (j + 1) = K + 3 * j + 3) := by show _ = _; omega
        have hXb : K + 3 * j + 3 ≤ 1000000 := by omega
        have hX1 : 1 ≤ K + 3 * j := by omega
        clear hA hje hFe hex hcs hlen he hw
        generalize K + 3 * j = X at *
        have hm3 := mod3 X
        generalize e.x.nm = en at *
        generalize e.x.vl = ev at *
        generalize e.x.im = ei at *
        go_wp2_with fail
        refine Calls.mono (markText_any _ X (by omega) (by omega)) ?_
        rintro e1 w1 ⟨rfl, k1⟩
        have hg1 : g < w1.heap.size := Nat.lt_of_lt_of_le hg (Below.size k1)
        have d0 := ((bcell k1).1 _ (j * 3) hg).trans c0
        have d1 := ((bcell k1).1 _ (j * 3 + 1) hg).trans c1
        have d2 := ((bcell k1).1 _ (j * 3 + 2) hg).trans c2
        have df : ∀ o, w1.frozen? ⟨g, o, none⟩ = false := fun o => ((bcell k1).2 _ o hg).trans (hfz o)
        have HK1 : Hid (Nw wr w1) := k1
        clear k1 c0 c1 c2
        go_wp2_with fail
        refine Calls.mono (markText_any _ (X + 1) (by omega) (by omega)) ?_
        rintro e2 w2 ⟨rfl, k2⟩
        have hgS : g < (w1.setCell ⟨g, j * 3, none⟩ (.string (markT X))).heap.size := by simpa [World.setCell] using hg1
        have hg2 : g < w2.heap.size := Nat.lt_of_lt_of_le hgS (Below.size k2)
        have f0 := ((bcell k2).1 _ (j * 3) hgS).trans (World.cell?_setCell_same w1 ⟨g, j * 3, none⟩ _ d0)
        have f1 := ((bcell k2).1 _ (j * 3 + 1) hgS).trans ((setd_far (by omega)).trans d1)
        have f2 := ((bcell k2).1 _ (j * 3 + 2) hgS).trans ((setd_far (by omega)).trans d2)
        have ff : ∀ o, w2.frozen? ⟨g, o, none⟩ = false := fun o => ((bcell k2).2 _ o hgS).trans (by rw [World.frozen?_setCell]; exact df o)
        have HK2 : Hid (Nw (w1.setCell ⟨g, j * 3, none⟩ (.string (markT X))) w2) := k2
        clear k2 d0 d1 d2 df
        have HWR : Hid (Wr (fun b => b = g ∨ e.F b) wr ((w2.setCell ⟨g, j * 3 + 1, none⟩ (.string (markT (X + 1)))).setCell ⟨g, j * 3 + 2, none⟩ (.bool (decide ((X + 2) % 3 = 0))))) := by
          have b1 : Wr (fun b => b = g ∨ e.F b) wr w1 := Wr.nw HK1.out
          have b2 := b1.set (Or.inl rfl) (j * 3) (.string (markT X))
          have b3 := b2.trans (Wr.nw HK2.out)
          have b4 := b3.set (Or.inl rfl) (j * 3 + 1) (.string (markT (X + 1)))
          exact b4.set (Or.inl rfl) (j * 3 + 2) _
        have HNX : Hid (RowA 3 EDecl ((w2.setCell ⟨g, j * 3 + 1, none⟩ (.string (markT (X + 1)))).setCell ⟨g, j * 3 + 2, none⟩ (.bool (decide ((X + 2) % 3 = 0)))) g (es.set j ⟨mkD X, [.string (markT X), .string (markT (X + 1)), .bool (decide ((X + 2) % 3 = 0))], e.F⟩) F) := by
          refine HRA.out.step EDecl.kept j e _ _ HJE.out rfl HWR.out (fun o => ?_) (fun i y hi => ?_) (fun i m him hm => ?_) rfl
          · rw [World.frozen?_setCell, World.frozen?_setCell]
            exact ff o
          · rcases (show i = 0 ∨ i = 1 ∨ i = 2 ∨ 3 ≤ i by omega) with rfl | rfl | rfl | h
            · simp at hi; subst hi; rw [setd_far (by omega), setd_far (by omega), Nat.add_zero]; exact f0
            · simp at hi; subst hi; rw [setd_far (by omega)]; exact World.cell?_setCell_same w2 ⟨g, j * 3 + 1, none⟩ _ f1
            · simp at hi; subst hi; exact World.cell?_setCell_same _ ⟨g, j * 3 + 2, none⟩ _ ((setd_far (by omega)).trans f2)
            · rw [List.getElem?_eq_none (by simpa using h)] at hi; cases hi
          · rw [setd_far (by omega), setd_far (by omega), (bcell HK2.out).1 _ _ hgS, setd_far (by omega), (bcell HK1.out).1 _ _ hg]
        have HW3 : Hid (Wr F w _) := HW.out.trans (HWR.out.mono (fun b hb => by
          rcases hb with rfl | hb
          · exact HIF.out
          · exact (HFE.out b hb).1))
        generalize decide ((X + 2) % 3 = 0) = bm at *
        go_wp2
        go_roundw
        case rel =>
          refine ⟨j + 1, _, by omega, by go_num, by rw [HX3.out]; go_num, HW3.out, ?_, HNX.out⟩
          rw [List.map_set, HE.out, HSM.out _ HMK.out]
        case measure => simp [intOf]; omega
      · have e : j = l.length := by omega
        subst e
        have HRA : Hid (RowA 3 EDecl wr g es F) := hA
        have HE2 : Hid (es.map El.x = mkDs K l.length) := by
          show _ = _
          rw [he, List.drop_length, List.append_nil, List.take_of_length_le (by rw [mkDs_len]; exact Nat.le_refl _)]
        have HLN : Hid ((mkDs K l.length).length = l.length) := mkDs_len K l.length
        clear hA he hw
        go_wp2
        go_ret
        refine ⟨rfl, HW.out, Or.inr ⟨g, c, es, ?_, ?_, HE2.out, HRA.out⟩⟩
        · rw [HLN.out]
        · rw [HLN.out]; exact HC.out
set_option maxRecDepth 100000 in
set_option maxHeartbeats 8000000 in
theorem heldDl_any (w : World) (v : Value) (K n : Nat) (F : Nat → Prop) (hK : 1 ≤ K) (hK2 : K + 3 * n ≤ 1000000) (h : RowM 3 EDecl w v (mkDs K n) F) :
    Calls Tryz.prog 47 #[v, .int .i64 (K : Int)] w fun e w' => e = .returned (.int .i64 ((K + 3 * n : Nat) : Int)) ∧ Nw w w' := by
  obtain ⟨va, vc, hv, _⟩ := h.slice
  rw [mkDs_len] at hv
  subst hv
  have HR : Hid (RowM 3 EDecl w (.slice va n vc) (mkDs K n) F) := h
  clear h
  go_enter Tryz.func47, Tryz.ntmps47
  go_wp2
  go_loopw [1, 5] (fun x i wr => ∃ (j : Nat), j ≤ n ∧ i = .int .i64 j ∧ x = .int .i64 ((K + 3 * j : Nat) : Int) ∧ Nw w wr) (fun _ i _ => n - (intOf i).toNat)
  case atStart => exact ⟨0, Nat.zero_le _, rfl, rfl, Below.refl _ _⟩
  case round =>
    obtain ⟨j, hj, rfl, rfl, hw⟩ := hrel
    have HW : Hid (Nw w wr) := hw
    by_cases hlt : j < n
    · obtain ⟨a, c, hs, _, hd⟩ := (HR.out.nw EDecl.kept hw).decls
      injection hs with hs1 hs2 hs3
      subst hs1
      clear hs2 hs3
      rcases hd with h2 | ⟨g, rfl, hg, hc⟩
      · have := mkDs_len K n; rw [h2] at this; simp at this; omega
      obtain ⟨c0, c1, c2⟩ := hc j (by rw [mkDs_len]; exact hlt)
      have hda : declAt (mkDs K n) j = mkD (K + 3 * j) := by unfold declAt; rw [List.getD_eq_getElem?_getD, mkDs_at K n j hlt]; rfl
      rw [hda] at c0 c1 c2
      have c0' : wr.cell? ⟨g, j * 3, none⟩ = some (.string (markT (K + 3 * j))) := c0
      have c1' : wr.cell? ⟨g, j * 3 + 1, none⟩ = some (.string (markT (K + 3 * j + 1))) := c1
      have c2' : wr.cell? ⟨g, j * 3 + 2, none⟩ = some (.bool (decide ((K + 3 * j + 2) % 3 = 0))) := c2
      have HX3 : Hid (K + 3 * (j + 1) = K + 3 * j + 3) := by show _ = _; omega
      have hXb : K + 3 * j + 3 ≤ 1000000 := by omega
      have hX1 : 1 ≤ K + 3 * j := by omega
      clear hc hw hda c0 c1 c2
      generalize K + 3 * j = X at *
      have HM3 : Hid _ := mod3 X
      generalize decide ((X + 2) % 3 = 0) = bm at *
      have hgd : g < wr.drew.heap.size := hg
      have C0 : wr.drew.cell? ⟨g, j * 3, none⟩ = some (.string (markT X)) := c0'
      go_wp2
      go_region_with (go_at_call 55; refine Calls.mono (markText_any _ X (by omega) (by omega)) ?_; rintro e1 w1 ⟨rfl, k1⟩; have d0 := ((bcell k1).1 _ (j * 3) hgd).trans C0)
      all_goals
        have HK1 : Hid (Nw wr w1) := k1.drw
        have hg1 : g < w1.heap.size := Nat.lt_of_lt_of_le hg (Below.size HK1.out)
        have d1 := ((bcell HK1.out).1 _ (j * 3 + 1) hg).trans c1'
        have d2 := ((bcell HK1.out).1 _ (j * 3 + 2) hg).trans c2'
        have hgd1 : g < w1.drew.heap.size := hg1
        have D1 : w1.drew.cell? ⟨g, j * 3 + 1, none⟩ = some (.string (markT (X + 1))) := d1
        clear C0 c0' c1' c2'
        go_wp2
        go_region_with (go_at_call 55; refine Calls.mono (markText_any _ (X + 1) (by omega) (by omega)) ?_; rintro e2 w2 ⟨rfl, k2⟩; have f1 := ((bcell k2).1 _ (j * 3 + 1) hgd1).trans D1)
        all_goals
          have HK2 : Hid (Nw wr w2) := Nw.trans HK1.out k2.drw
          have hg2 : g < w2.heap.size := Nat.lt_of_lt_of_le hg (Below.size HK2.out)
          have f2 := ((bcell (Nw.drw k2)).1 _ (j * 3 + 2) hg1).trans d2
          have HN2 : Hid (Nw w w2) := Nw.trans HW.out HK2.out
          clear D1 d1 d2
          have hm3 := HM3.out
          go_wp2
          go_roundw
          case rel => exact ⟨j + 1, by omega, by go_num, by rw [HX3.out]; go_num, HN2.out⟩
          case measure => simp [intOf]; omega
    · have e : j = n := by omega
      subst e
      clear hw
      go_wp2
      go_ret
      exact ⟨rfl, HW.out⟩
end Go.Proofs.YtnkmdmmlpidcmaaGreatDoor
namespace Go.Proofs.YtnkmdmmlpidcmaaGreatDoor
open Go.ChangeShapes Go.WideShapes Go.ChangeAt Go.RowKit
set_option linter.unusedVariables false

/-- A rule. -/
structure RD where
  sels : List (List PD)
  decls : List DD
def noRD : RD := ⟨[], []⟩
def ESel : Els (List PD) := fun w cs l F => ∃ v, cs = [v] ∧ RowM 3 EPart w v l F
theorem ESel.kept : KeptE ESel := fun w w' cs x F G ⟨u, h1, h2⟩ k d => ⟨u, h1, h2.kept EPart.kept k d⟩
def ERule : Els RD := fun w cs r F => ∃ v1 v2 F1 F2, cs = [v1, v2] ∧ RowM 1 ESel w v1 r.sels F1 ∧ RowM 3 EDecl w v2 r.decls F2 ∧ (∀ b, F1 b → F b) ∧ (∀ b, F2 b → F b) ∧ disj F1 F2
theorem ERule.kept : KeptE ERule := fun w w' cs x F G ⟨v1, v2, F1, F2, h1, h2, h3, h4, h5, h6⟩ k d => ⟨v1, v2, F1, F2, h1, h2.kept ESel.kept k (fun b hb => d b (h4 b hb)), h3.kept EDecl.kept k (fun b hb => d b (h5 b hb)), h4, h5, h6⟩
theorem info_sel : (Tryz.prog.info? 34).map (fun i => (i.zero, i.size, i.bytes)) = some (some (.slice none 0 0), 1, 24) := by kernel_rfl
theorem info_rule : (Tryz.prog.info? 32).map (fun i => (i.zero, i.size, i.bytes)) = some (some (.agg #[.slice none 0 0, .slice none 0 0]), 2, 48) := by kernel_rfl
/-- What lies in an element is written, its cells stay. -/
theorem RowA.inner {n : Nat} {α : Type} {E : Els α} (hE : KeptE E) {w w' : World} {g : Nat} {els : List (El α)} {F : Nat → Prop} (h : RowA n E w g els F) (k : Nat) (e : El α) (x' : α) (hk : els[k]? = some e)
    (hw : Wr e.F w w') (hx : E w' e.cs x' e.F) : RowA n E w' g (els.set k ⟨x', e.cs, e.F⟩) F := by
  have hm : e ∈ els := List.mem_of_getElem? hk
  have hb := hw.block g h.lt (fun hb => ((h.el e hm).2.2 g hb).2 rfl)
  have cc : ∀ o, w'.cell? ⟨g, o, none⟩ = w.cell? ⟨g, o, none⟩ := fun o => World.cell?_of_block (w := w) (a := ⟨g, o, none⟩) hb
  exact h.step hE k e x' e.cs hk (h.el e hm).2.1 (hw.mono (fun b hb => Or.inr hb)) (fun o => by rw [World.frozen?_of_block (w := w) (a := ⟨g, o, none⟩) hb]; exact h.fz o) (fun j u hj => by rw [cc]; exact h.cell k e hk j u hj) (fun i j _ _ => cc _) hx
/-! ### Held against each other -/
def selAt (l : List (List PD)) (i : Nat) : List PD := l.getD i []
def lenSS (l : List (List PD)) : Prop := ∀ i, i < l.length → (selAt l i).length ≤ 1048576 ∧ lenPs (selAt l i)
theorem RowM.selAt {w : World} {v : Value} {l : List (List PD)} {F : Nat → Prop} (h : RowM 1 ESel w v l F) {k : Nat} (hk : k < l.length) : ∃ g c a n, v = .slice (some ⟨g, 0, none⟩) l.length c ∧ g < w.heap.size ∧ w.cell? ⟨g, k, none⟩ = some (.slice a (selAt l k).length n) ∧ Parts w a (selAt l k) := by
  rcases h with ⟨_, h2⟩ | ⟨g, c, els, h1, h2, h3, h4⟩
  · rw [h2] at hk; simp at hk
  · obtain ⟨e, he, hx⟩ := el_at h3 k hk []
    obtain ⟨u, hcs, hu⟩ := (h4.el e (List.mem_of_getElem? he)).1
    obtain ⟨a, n, hv, _, hp⟩ := hu.parts
    have c0 := h4.cell k e he 0 u (by rw [hcs]; rfl)
    have ex : e.x = Go.Proofs.YtnkmdmmlpidcmaaGreatDoor.selAt l k := hx
    rw [hv, ex] at c0
    rw [ex] at hp
    exact ⟨g, c, a, n, h1, h4.lt, by simpa using c0, hp⟩
set_option maxHeartbeats 4000000 in
theorem eqSS_any (w : World) (v1 v2 : Value) (l : List (List PD)) (F1 F2 : Nat → Prop) (hl : l.length ≤ 1048576) (hla : lenSS l) (h1 : RowM 1 ESel w v1 l F1) (h2 : RowM 1 ESel w v2 l F2) :
    Calls Tryz.prog 83 #[v1, v2] w fun e w' => e = .returned (.bool true) ∧ Nw w w' := by
  obtain ⟨a1, c1, rfl, _⟩ := h1.slice
  obtain ⟨a2, c2, rfl, _⟩ := h2.slice
  have H1 : Hid (RowM 1 ESel w (.slice a1 l.length c1) l F1) := h1
  have H2 : Hid (RowM 1 ESel w (.slice a2 l.length c2) l F2) := h2
  have HLA : Hid (lenSS l) := hla
  clear h1 h2 hla
  go_enter Tryz.func83, Tryz.ntmps83
  go_wp2
  go_loopw [5] (fun i wr => ∃ k : Nat, k ≤ l.length ∧ i = .int .i64 k ∧ Nw w wr) (fun i _ => l.length - (intOf i).toNat)
  case atStart => exact ⟨0, Nat.zero_le _, rfl, Below.refl _ _⟩
  case round =>
    obtain ⟨k, hk, rfl, hw⟩ := hrel
    by_cases hlt : k < l.length
    · obtain ⟨g1, d1, p1, n1, e1, hb1, q1, r1⟩ := (H1.out.nw ESel.kept hw).selAt hlt
      obtain ⟨g2, d2, p2, n2, e2, hb2, q2, r2⟩ := (H2.out.nw ESel.kept hw).selAt hlt
      injection e1 with e1 e1b e1c
      injection e2 with e2 e2b e2c
      clear e1b e1c e2b e2c
      subst e1 e2
      obtain ⟨hs1, hs2⟩ := HLA.out k hlt
      have Q4 : Hid (Parts wr.drew p1 (selAt l k)) := r1.nw ((Below.refl _ _).drew)
      have R4 : Hid (Parts wr.drew p2 (selAt l k)) := r2.nw ((Below.refl _ _).drew)
      have HL2 : Hid (lenPs (selAt l k)) := hs2
      have HW : Hid (Nw w wr) := hw
      clear r1 r2 hs2 hw H1 H2
      go_wp2
      go_region_with (go_at_call 115; refine Calls.mono (eqPartS_any _ p1 p2 n1 n2 (selAt l k) hs1 HL2.out Q4.out R4.out) ?_; rintro e w' ⟨rfl, k1⟩)
      all_goals
        go_wp2
        go_roundw
        case rel => exact ⟨k + 1, by omega, by go_num, HW.out.trans k1.drw⟩
        case measure => simp [intOf]; omega
    · have HW : Hid (Nw w wr) := hw
      clear hw
      go_wp2
      go_ret
      exact ⟨rfl, HW.out⟩
def ruleAt (l : List RD) (i : Nat) : RD := l.getD i noRD
structure lenR (r : RD) : Prop where
  s1 : r.sels.length ≤ 1048576
  s2 : lenSS r.sels
  s3 : r.decls.length ≤ 1048576
def lenRs (l : List RD) : Prop := ∀ i, i < l.length → lenR (ruleAt l i)
theorem eqRule_any (w : World) (u1 v1 u2 v2 : Value) (r : RD) (F1 F2 G1 G2 : Nat → Prop) (hl : lenR r) (h1 : RowM 1 ESel w u1 r.sels F1) (h2 : RowM 1 ESel w u2 r.sels F2) (h3 : RowM 3 EDecl w v1 r.decls G1) (h4 : RowM 3 EDecl w v2 r.decls G2) :
    Calls Tryz.prog 43 #[.agg #[u1, v1], .agg #[u2, v2]] w fun e w' => e = .returned (.bool true) ∧ Nw w w' := by
  obtain ⟨s1, s2, s3⟩ := hl
  have HS2 : Hid (lenSS r.sels) := s2
  clear s2
  have HB : ∀ o1 o2, Hid (Nw w ((w.alloc o1).alloc o2)) := fun o1 o2 => ((Below.refl _ _).alloc (Nat.le_refl _) _).alloc (by simp) _
  have H1 : Hid (RowM 1 ESel w u1 r.sels F1) := h1
  have H2 : Hid (RowM 1 ESel w u2 r.sels F2) := h2
  have H3 : Hid (RowM 3 EDecl w v1 r.decls G1) := h3
  have H4 : Hid (RowM 3 EDecl w v2 r.decls G2) := h4
  obtain ⟨a1, c1, rfl, _⟩ := h1.slice
  obtain ⟨a2, c2, rfl, _⟩ := h2.slice
  obtain ⟨b1, d1, rfl, _⟩ := h3.slice
  obtain ⟨b2, d2, rfl, _⟩ := h4.slice
  clear h1 h2 h3 h4
  go_enter Tryz.func43, Tryz.ntmps43
  go_wp2_with fail
  refine Calls.mono (eqSS_any _ _ _ r.sels F1 F2 s1 HS2.out (H1.out.nw ESel.kept (HB _ _).out) (H2.out.nw ESel.kept (HB _ _).out)) ?_
  rintro e w1 ⟨rfl, k1⟩
  obtain ⟨hc, hf⟩ := bcell k1
  have HN1 : Hid (Nw w w1) := Nw.trans (HB _ _).out k1
  obtain ⟨e1, f1, g1, _, i1⟩ := (H3.out.nw EDecl.kept HN1.out).decls
  obtain ⟨e2, f2, g2, _, i2⟩ := (H4.out.nw EDecl.kept HN1.out).decls
  injection g1 with g1 g1b g1c
  injection g2 with g2 g2b g2c
  clear g1b g1c g2b g2c
  subst g1 g2
  have I1 : Hid (Decls w1 b1 r.decls) := i1
  have I2 : Hid (Decls w1 b2 r.decls) := i2
  clear i1 i2 k1
  go_wp2_with fail
  refine Calls.mono (eqDeclS_any _ b1 b2 d1 d2 r.decls s3 I1.out I2.out) ?_
  rintro e w2 ⟨rfl, k2⟩
  go_wp2
  go_ret
  exact ⟨rfl, Nw.trans HN1.out k2⟩
theorem RowM.ruleAt {w : World} {v : Value} {l : List RD} {F : Nat → Prop} (h : RowM 2 ERule w v l F) {k : Nat} (hk : k < l.length) : ∃ g c u1 u2 F1 F2, v = .slice (some ⟨g, 0, none⟩) l.length c ∧ g < w.heap.size ∧ w.cell? ⟨g, k * 2, none⟩ = some u1 ∧ w.cell? ⟨g, k * 2 + 1, none⟩ = some u2 ∧ RowM 1 ESel w u1 (ruleAt l k).sels F1 ∧ RowM 3 EDecl w u2 (ruleAt l k).decls F2 := by
  rcases h with ⟨_, h2⟩ | ⟨g, c, els, h1, h2, h3, h4⟩
  · rw [h2] at hk; simp at hk
  · obtain ⟨e, he, hx⟩ := el_at h3 k hk noRD
    obtain ⟨u1, u2, F1, F2, hcs, hu1, hu2, _, _, _⟩ := (h4.el e (List.mem_of_getElem? he)).1
    have c0 := h4.cell k e he 0 u1 (by rw [hcs]; rfl)
    have c1 := h4.cell k e he 1 u2 (by rw [hcs]; rfl)
    have ex : e.x = Go.Proofs.YtnkmdmmlpidcmaaGreatDoor.ruleAt l k := hx
    rw [ex] at hu1 hu2
    exact ⟨g, c, u1, u2, F1, F2, h1, h4.lt, by simpa using c0, c1, hu1, hu2⟩
set_option maxHeartbeats 4000000 in
theorem eqRuleS_any (w : World) (v1 v2 : Value) (l : List RD) (F1 F2 : Nat → Prop) (hl : l.length ≤ 1048576) (hla : lenRs l) (h1 : RowM 2 ERule w v1 l F1) (h2 : RowM 2 ERule w v2 l F2) :
    Calls Tryz.prog 16 #[v1, v2] w fun e w' => e = .returned (.bool true) ∧ Nw w w' := by
  obtain ⟨a1, c1, rfl, _⟩ := h1.slice
  obtain ⟨a2, c2, rfl, _⟩ := h2.slice
  have H1 : Hid (RowM 2 ERule w (.slice a1 l.length c1) l F1) := h1
  have H2 : Hid (RowM 2 ERule w (.slice a2 l.length c2) l F2) := h2
  have HLA : Hid (lenRs l) := hla
  clear h1 h2 hla
  go_enter Tryz.func16, Tryz.ntmps16
  go_wp2
  go_loopw [5] (fun i wr => ∃ k : Nat, k ≤ l.length ∧ i = .int .i64 k ∧ Nw w wr) (fun i _ => l.length - (intOf i).toNat)
  case atStart => exact ⟨0, Nat.zero_le _, rfl, Below.refl _ _⟩
  case round =>
    obtain ⟨k, hk, rfl, hw⟩ := hrel
    by_cases hlt : k < l.length
    · obtain ⟨g1, d1, p1, n1, X1, Y1, e1, hb1, q1, r1, s1, t1⟩ := (H1.out.nw ERule.kept hw).ruleAt hlt
      obtain ⟨g2, d2, p2, n2, X2, Y2, e2, hb2, q2, r2, s2, t2⟩ := (H2.out.nw ERule.kept hw).ruleAt hlt
      injection e1 with e1 e1b e1c
      injection e2 with e2 e2b e2c
      clear e1b e1c e2b e2c
      subst e1 e2
      have HL2 : Hid (lenR (ruleAt l k)) := HLA.out k hlt
      have D0 : Nw wr wr.drew := (Below.refl _ _).drew
      have S1 : Hid _ := s1.nw ESel.kept D0
      have S2 : Hid _ := s2.nw ESel.kept D0
      have T1 : Hid _ := t1.nw EDecl.kept D0
      have T2 : Hid _ := t2.nw EDecl.kept D0
      have HW : Hid (Nw w wr) := hw
      obtain ⟨pa, pc, hp1, _⟩ := s1.slice
      obtain ⟨pb, pd, hp2, _⟩ := s2.slice
      obtain ⟨na, nc, hn1, _⟩ := t1.slice
      obtain ⟨nb, nd, hn2, _⟩ := t2.slice
      subst hp1 hp2 hn1 hn2
      clear s1 s2 t1 t2 hw H1 H2 D0
      go_wp2
      go_region_with (go_at_call 43; refine Calls.mono (eqRule_any _ _ _ _ _ (ruleAt l k) X1 X2 Y1 Y2 HL2.out S1.out S2.out T1.out T2.out) ?_; rintro e w' ⟨rfl, k1⟩)
      all_goals
        go_wp2
        go_roundw
        case rel => exact ⟨k + 1, by omega, by go_num, HW.out.trans k1.drw⟩
        case measure => simp [intOf]; omega
    · have HW : Hid (Nw w wr) := hw
      clear hw
      go_wp2
      go_ret
      exact ⟨rfl, HW.out⟩
end Go.Proofs.YtnkmdmmlpidcmaaGreatDoor
namespace Go.Proofs.YtnkmdmmlpidcmaaGreatDoor
open Go.ChangeShapes Go.WideShapes Go.ChangeAt Go.RowKit
set_option linter.unusedVariables false

theorem pcs_size (c : UInt8) : ∀ (l x : List UInt8), x ∈ pcs c l → x.length ≤ l.length := by
  intro l
  induction l with
  | nil => intro x hx; simp [pcs] at hx; subst hx; exact Nat.le_refl _
  | cons b l ih =>
    intro x hx
    rw [pcs] at hx
    split at hx
    · rcases List.mem_cons.1 hx with e | h
      · subst e; exact Nat.zero_le _
      · have := ih x h; simp; omega
    · cases hp : pcs c l with
      | nil => exact absurd hp (pcs_ne c l)
      | cons y r =>
        rw [hp] at hx ih
        rcases List.mem_cons.1 hx with e | h
        · subst e
          have := ih y List.mem_cons_self
          simp; omega
        · have := ih x (List.mem_cons_of_mem _ h)
          simp; omega
theorem cutV_H (t : ByteArray) : cutV 35 t = .tuple #[.string (bA (cutH t.data.toList).1), .string (bA (cutH t.data.toList).2.1), .bool (cutH t.data.toList).2.2] := by
  unfold cutV
  rw [cutH_brk, data_len]
  by_cases h : brk 35 t.data.toList < t.size
  · rw [if_pos h, if_pos h, ext_head, ext_tail]
  · rw [if_neg h, if_neg h, bA_data]; rfl
theorem cutH_size (l : List UInt8) : (cutH l).1.length ≤ l.length ∧ (cutH l).2.1.length ≤ l.length := by
  rw [cutH_brk]
  split
  · simp; omega
  · simp
/-- What a reader of a part says. -/
def PartSays (s : ByteArray) (w w' : World) (e : Ending) : Prop :=
  (∃ p u, prP s = some p ∧ e = .returned (.tuple #[.agg #[.string p.ty, .string p.id, u], .bool true]) ∧ RowM 1 EStr w' u p.cls (iv w w')) ∨
  (prP s = none ∧ ∃ x y a n c, e = .returned (.tuple #[.agg #[.string x, .string y, .slice a n c], .bool false]))
structure PartF (s d1 nm id : ByteArray) (b : Bool) (D : List ByteArray) : Prop where
  pc : pcB 46 s = d1 :: D
  cut : cutV 35 d1 = .tuple #[.string nm, .string id, .bool b]
  yes : partB ⟨nm, id, D⟩ = true → ¬ (b = true ∧ id = ⟨#[]⟩) → prP s = some ⟨nm, id, D⟩
  no : partB ⟨nm, id, D⟩ = false ∨ (b = true ∧ id = ⟨#[]⟩) → prP s = none
  s1 : d1.size ≤ 1048576
  s2 : nm.size ≤ 1048576
  s3 : id.size ≤ 1048576
  s4 : ∀ i, i < D.length → (strAt D i).size ≤ 1048576
  s5 : D.length ≤ 1048576
theorem bA_nil (l : List UInt8) : bA l = ⟨#[]⟩ ↔ l = [] := by
  constructor
  · intro h
    have := congrArg (fun x : ByteArray => x.data.toList) h
    simpa [bA] using this
  · rintro rfl; rfl
theorem part_facts (s : ByteArray) (hs : s.size ≤ 1048576) : ∃ d1 nm id b D, PartF s d1 nm id b D := by
  have hp : pcB 46 s = bA (dots s.data.toList).1 :: (dots s.data.toList).2.map bA := by unfold pcB; rw [dots_pcs, List.map_cons]
  have hcut := cutV_H (bA (dots s.data.toList).1)
  rw [bA_list] at hcut
  have hsz : ∀ x, x ∈ pcs 46 s.data.toList → x.length ≤ 1048576 := fun x hx => by have := pcs_size 46 _ x hx; rw [data_len] at this; omega
  rw [dots_pcs] at hsz
  have h1 := hsz _ List.mem_cons_self
  have h2 := cutH_size (dots s.data.toList).1
  have hE : ofL (prI s.data.toList) = ⟨bA (cutH (dots s.data.toList).1).1, bA (cutH (dots s.data.toList).1).2.1, (dots s.data.toList).2.map bA⟩ := rfl
  have hL : ((dots s.data.toList).2.map bA).length ≤ 1048576 := by
    have := pcB_len 46 s
    rw [hp] at this
    have h3 := count_le_size 46 s
    simp only [List.length_cons] at this
    omega
  obtain ⟨ha, hb⟩ := prs_prI s.data.toList
  refine ⟨_, _, _, _, _, hp, hcut, fun hg hn => ?_, fun hg => ?_, ?_, ?_, ?_, fun i hi => ?_, hL⟩
  · rw [← hE] at hg ⊢
    have hok : prIok s.data.toList := by
      refine ⟨?_, fun hc => hn ⟨hc.1, (bA_nil _).2 hc.2⟩⟩
      have := (partB_L _).1 hg
      rw [toL_ofL] at this
      exact this
    unfold prP
    rw [ha hok]
    rfl
  · have hno : ¬ prIok s.data.toList := by
      rintro ⟨c1, c2⟩
      rcases hg with hg | hg
      · rw [← hE] at hg
        have : partB (ofL (prI s.data.toList)) = true := (partB_L _).2 (by rw [toL_ofL]; exact c1)
        rw [this] at hg
        cases hg
      · exact c2 ⟨hg.1, (bA_nil _).1 hg.2⟩
    unfold prP
    rw [hb hno]
    rfl
  · rw [bA_size]; exact h1
  · rw [bA_size]; omega
  · rw [bA_size]; omega
  · rw [List.length_map] at hi
    have e : strAt ((dots s.data.toList).2.map bA) i = bA ((dots s.data.toList).2[i]) := by simp [strAt, hi]
    rw [e, bA_size]
    exact hsz _ (List.mem_cons_of_mem _ (List.getElem_mem _))
end Go.Proofs.YtnkmdmmlpidcmaaGreatDoor
namespace Go.Proofs.YtnkmdmmlpidcmaaGreatDoor
open Go.ChangeShapes Go.WideShapes Go.ChangeAt Go.RowKit
set_option linter.unusedVariables false

theorem sblank (w : World) (x : Nat) (h : x ≤ 255) : Calls Tryz.prog 106 #[.int .u8 (x : Int)] w fun e w' => e = .returned (.bool (blankN x)) ∧ w' = w := by
  go_enter Tryz.func106, Tryz.ntmps106
  go_wp2
  all_goals
    go_ret
    exact ⟨ret_bool (by rw [Bool.eq_iff_iff]; simp [blankN]; omega), rfl⟩
/-- The word that is open. -/
def opnT (s : ByteArray) (st : Option Nat) (pos : Nat) : ByteArray := match st with | some a => s.extract a pos | none => ⟨#[]⟩
def cutT (s : ByteArray) (acc : List (Nat × Nat)) : List ByteArray := acc.map fun x => s.extract x.1 x.2
theorem cutT_snoc (s : ByteArray) (acc : List (Nat × Nat)) (a b : Nat) : cutT s (acc ++ [(a, b)]) = cutT s acc ++ [s.extract a b] := by simp [cutT]
theorem cutT_len (s : ByteArray) (acc : List (Nat × Nat)) : (cutT s acc).length = acc.length := by simp [cutT]
structure WdSt (s : ByteArray) (pos : Nat) (st : Option Nat) (acc : List (Nat × Nat)) : Prop where
  le : pos ≤ s.size
  open_ : ∀ a, st = some a → a < pos
  len : acc.length ≤ pos
  rest : spB s (s.size - pos) pos st acc = spB s s.size 0 none []
theorem WdSt.start (s : ByteArray) : WdSt s 0 none [] := ⟨Nat.zero_le _, (fun a h => by cases h), Nat.zero_le _, rfl⟩
theorem WdSt.word_none {s : ByteArray} {pos : Nat} {acc : List (Nat × Nat)} (h : WdSt s pos none acc) (hlt : pos < s.size) (hb : blankN (byN s pos) = false) : WdSt s (pos + 1) (some pos) acc := by
  refine ⟨hlt, fun a e => by injection e; omega, by have := h.len; omega, ?_⟩
  rw [← h.rest, show s.size - pos = (s.size - (pos + 1)) + 1 by omega, spB_word_none s _ _ _ hlt hb]
theorem WdSt.word_some {s : ByteArray} {pos a : Nat} {acc : List (Nat × Nat)} (h : WdSt s pos (some a) acc) (hlt : pos < s.size) (hb : blankN (byN s pos) = false) : WdSt s (pos + 1) (some a) acc := by
  refine ⟨hlt, fun b e => by have := h.open_ b e; omega, by have := h.len; omega, ?_⟩
  rw [← h.rest, show s.size - pos = (s.size - (pos + 1)) + 1 by omega, spB_word_some s _ _ _ _ hlt hb]
theorem WdSt.blank_none {s : ByteArray} {pos : Nat} {acc : List (Nat × Nat)} (h : WdSt s pos none acc) (hlt : pos < s.size) (hb : blankN (byN s pos) = true) : WdSt s (pos + 1) none acc := by
  refine ⟨hlt, (fun a e => by cases e), by have := h.len; omega, ?_⟩
  rw [← h.rest, show s.size - pos = (s.size - (pos + 1)) + 1 by omega, spB_blank_none s _ _ _ hlt hb]
theorem WdSt.blank_some {s : ByteArray} {pos a : Nat} {acc : List (Nat × Nat)} (h : WdSt s pos (some a) acc) (hlt : pos < s.size) (hb : blankN (byN s pos) = true) : WdSt s (pos + 1) none (acc ++ [(a, pos)]) := by
  refine ⟨hlt, (fun a e => by cases e), by have := h.len; simp; omega, ?_⟩
  rw [← h.rest, show s.size - pos = (s.size - (pos + 1)) + 1 by omega, spB_blank_some s _ _ _ _ hlt hb]
theorem WdSt.end_none {s : ByteArray} {pos : Nat} {acc : List (Nat × Nat)} (h : WdSt s pos none acc) (hlt : ¬ pos < s.size) : wordsOf s = cutT s acc := by
  unfold wordsOf cutT
  rw [← h.rest, spB_end _ _ _ _ _ hlt]; rfl
theorem WdSt.end_some {s : ByteArray} {pos a : Nat} {acc : List (Nat × Nat)} (h : WdSt s pos (some a) acc) (hlt : ¬ pos < s.size) : wordsOf s = cutT s acc ++ [s.extract a pos] := by
  have e : pos = s.size := by have := h.le; omega
  unfold wordsOf cutT
  rw [← h.rest, spB_end _ _ _ _ _ hlt, e]
  simp [Lib.closeSpans]
end Go.Proofs.YtnkmdmmlpidcmaaGreatDoor
