/-
  Rows of declarations, and what the laws' helpers do with them; each theorem names its conditions.
  Marks laid into rows of declarations and looked for; each theorem names its conditions.
  Rows of selectors and of rules, and what the laws' helpers that hold two against each other do; each theorem names its conditions.
  Rules in memory, read and newly laid; each theorem names its conditions.
-/
import Derived.Test.YtnkmdmmlpidcmaaDoorJAL
import Derived.Test.YtnkmdmmlpidcmaaDoorJAE
import Derived.Test.YtnkmdmmlpidcmaaDoorJAG
import Derived.Test.YtnkmdmmlpidcmaaDoorJAF
import Derived.Test.YtnkmdmmlpidcmaaDoorJAH
namespace Go.Proofs.YtnkmdmmlpidcmaaDoor
open Go.ChangeShapes Go.WideShapes Go.ChangeAt Go.RowKit
set_option linter.unusedVariables false

def EDecl : Els DD := fun _ cs d _ => cs = [.string d.nm, .string d.vl, .bool d.im]
theorem EDecl.kept : KeptE EDecl := fun w w' cs x F G h _ _ => h
theorem Tryd.info50 : (Tryd.prog.info? 50).map (fun i => (i.zero, i.size, i.bytes)) = some (some (.agg #[.string ⟨#[]⟩, .string ⟨#[]⟩, .bool false]), 3, 40) := by kernel_rfl
def declAt (l : List DD) (i : Nat) : DD := l.getD i noDD
/-- The declarations l lie at a. -/
def Decls (w : World) (a : Option Addr) (l : List DD) : Prop :=
  l = [] ∨ ∃ b, a = some ⟨b, 0, none⟩ ∧ b < w.heap.size ∧ ∀ i, i < l.length → w.cell? ⟨b, i * 3, none⟩ = some (.string (declAt l i).nm) ∧ w.cell? ⟨b, i * 3 + 1, none⟩ = some (.string (declAt l i).vl) ∧ w.cell? ⟨b, i * 3 + 2, none⟩ = some (.bool (declAt l i).im)
theorem Decls.nw {w w' : World} {a : Option Addr} {l : List DD} (h : Decls w a l) (k : Nw w w') : Decls w' a l := by
  rcases h with h | ⟨b, rfl, hb, hc⟩
  · exact Or.inl h
  · refine Or.inr ⟨b, rfl, Nat.lt_of_lt_of_le hb (Below.size k), fun i hi => ?_⟩
    obtain ⟨h0, h1, h2⟩ := hc i hi
    exact ⟨((bcell k).1 _ _ hb).trans h0, ((bcell k).1 _ _ hb).trans h1, ((bcell k).1 _ _ hb).trans h2⟩
theorem RowM.decls {w : World} {v : Value} {l : List DD} {F : Nat → Prop} (h : RowM 3 EDecl w v l F) : ∃ a c, v = .slice a l.length c ∧ l.length ≤ c ∧ Decls w a l := by
  rcases h with ⟨h1, h2⟩ | ⟨g, c, els, h1, h2, h3, h4⟩
  · exact ⟨none, 0, by rw [h2]; exact h1, by rw [h2]; exact Nat.le_refl _, Or.inl h2⟩
  · refine ⟨_, c, h1, h2, Or.inr ⟨g, rfl, h4.lt, fun i hi => ?_⟩⟩
    obtain ⟨e, he, hx⟩ := el_at h3 i hi noDD
    have hc := (h4.el e (List.mem_of_getElem? he)).1
    have c0 := h4.cell i e he 0 (.string e.x.nm) (by rw [hc]; rfl)
    have c1 := h4.cell i e he 1 (.string e.x.vl) (by rw [hc]; rfl)
    have c2 := h4.cell i e he 2 (.bool e.x.im) (by rw [hc]; rfl)
    have hp : declAt l i = e.x := hx.symm
    rw [hp]
    exact ⟨c0, c1, c2⟩
theorem eqDecl_any (w : World) (n : DD) : Calls Tryd.prog 29 #[.agg #[.string n.nm, .string n.vl, .bool n.im], .agg #[.string n.nm, .string n.vl, .bool n.im]] w fun e w' => e = .returned (.bool true) ∧ Nw w w' := by
  obtain ⟨nm, vl, im⟩ := n
  simp only
  go_enter Tryd.func29, Tryd.ntmps29
  go_wp2
  go_ret
  exact ⟨rfl, ((Below.refl _ _).alloc (Nat.le_refl _) _).alloc (by simp) _⟩
set_option maxHeartbeats 4000000 in
theorem eqDeclS_any (w : World) (a1 a2 : Option Addr) (c1 c2 : Nat) (l : List DD) (hl : l.length ≤ 1048576) (h1 : Decls w a1 l) (h2 : Decls w a2 l) :
    Calls Tryd.prog 9 #[.slice a1 l.length c1, .slice a2 l.length c2] w fun e w' => e = .returned (.bool true) ∧ Nw w w' := by
  have H1 : Hid (Decls w a1 l) := h1
  have H2 : Hid (Decls w a2 l) := h2
  clear h1 h2
  go_enter Tryd.func9, Tryd.ntmps9
  go_wp2
  go_loopw [5] (fun i wr => ∃ k : Nat, k ≤ l.length ∧ i = .int .i64 k ∧ Nw w wr) (fun i _ => l.length - (intOf i).toNat)
  case atStart => exact ⟨0, Nat.zero_le _, rfl, Below.refl _ _⟩
  case round =>
    obtain ⟨k, hk, rfl, hw⟩ := hrel
    by_cases hlt : k < l.length
    · rcases (H1.out.nw hw) with h | ⟨b1, rfl, hb1, hc1⟩
      · rw [h] at hlt; simp at hlt
      rcases (H2.out.nw hw) with h | ⟨b2, rfl, hb2, hc2⟩
      · rw [h] at hlt; simp at hlt
      obtain ⟨q0, q1, q2⟩ := hc1 k hlt
      obtain ⟨r0, r1, r2⟩ := hc2 k hlt
      clear hc1 hc2 H1 H2
      have HW : Hid (Nw w wr) := hw
      clear hw
      generalize declAt l k = d at *
      go_wp2
      go_region_with (go_at_call 29; refine Calls.mono (eqDecl_any _ d) ?_; rintro e w' ⟨rfl, k1⟩)
      all_goals
        go_wp2
        go_roundw
        case rel => exact ⟨k + 1, by omega, by go_num, HW.out.trans k1.drw⟩
        case measure => simp [intOf]; omega
    · have HW : Hid (Nw w wr) := hw
      clear hw
      go_wp2
      go_ret
      exact ⟨rfl, HW.out⟩
end Go.Proofs.YtnkmdmmlpidcmaaDoor
namespace Go.Proofs.YtnkmdmmlpidcmaaDoor
open Go.ChangeShapes Go.WideShapes Go.ChangeAt Go.RowKit
set_option linter.unusedVariables false

def mkD (K : Nat) : DD := ⟨markT K, markT (K + 1), decide ((K + 2) % 3 = 0)⟩
def mkDs (K n : Nat) : List DD := (List.range n).map fun i => mkD (K + 3 * i)
theorem mkDs_len (K n : Nat) : (mkDs K n).length = n := by simp [mkDs]
theorem mkDs_at (K n j : Nat) (h : j < n) : (mkDs K n)[j]? = some (mkD (K + 3 * j)) := by simp [mkDs, h]
theorem setd_far {w : World} {g i j : Nat} {u : Value} (h : i ≠ j) : (w.setCell ⟨g, i, none⟩ u).cell? ⟨g, j, none⟩ = w.cell? ⟨g, j, none⟩ := World.cell?_setCell_other _ _ _ _ (fun e => by injection e; omega)
theorem mod3 (X : Nat) : ((((X : Nat) : Int) + 1 + 1) % 3 == 0) = decide ((X + 2) % 3 = 0) := by
  rw [Bool.eq_iff_iff, beq_iff_eq, decide_eq_true_eq]
  omega
set_option maxHeartbeats 4000000 in
theorem markDl_any (w : World) (v : Value) (K : Nat) (l : List DD) (F : Nat → Prop) (hK : 1 ≤ K) (hK2 : K + 3 * l.length ≤ 1000000) (h : RowM 3 EDecl w v l F) :
    Calls Tryd.prog 10 #[v, .int .i64 (K : Int)] w fun e w' => e = .returned (.int .i64 ((K + 3 * l.length : Nat) : Int)) ∧ Wr F w w' ∧ RowM 3 EDecl w' v (mkDs K l.length) F := by
  rcases h with ⟨rfl, rfl⟩ | ⟨g, c, els, rfl, hc, hx, hA⟩
  · go_enter Tryd.func10, Tryd.ntmps10
    go_wp2
    go_loopw [1, 5] (fun x i wr => x = .int .i64 (K : Int) ∧ i = .int .i64 0 ∧ wr = w) (fun _ _ _ => 0)
    case atStart => exact ⟨rfl, rfl, rfl⟩
    case round =>
      obtain ⟨rfl, rfl, rfl⟩ := hrel
      go_wp2
      go_ret
      exact ⟨rfl, Wr.refl _ _, Or.inl ⟨rfl, rfl⟩⟩
  · have HA : Hid (RowA 3 EDecl w g els F) := hA
    have HX : Hid (els.map El.x = l) := hx
    clear hA hx
    have HC : Hid (l.length ≤ c) := hc
    go_enter Tryd.func10, Tryd.ntmps10
    go_wp2
    go_loopw [1, 5] (fun x i wr => ∃ (j : Nat) (es : List (El DD)), j ≤ l.length ∧ i = .int .i64 j ∧ x = .int .i64 ((K + 3 * j : Nat) : Int) ∧ Wr F w wr ∧ es.map El.x = (mkDs K l.length).take j ++ l.drop j ∧ RowA 3 EDecl wr g es F) (fun _ i _ => l.length - (intOf i).toNat)
    case atStart => exact ⟨0, els, Nat.zero_le _, rfl, rfl, Wr.refl _ _, HX.out, HA.out⟩
    case round =>
      obtain ⟨j, es, hj, rfl, rfl, hw, he, hA⟩ := hrel
      have HW : Hid (Wr F w wr) := hw
      have HE : Hid (es.map El.x = (mkDs K l.length).take j ++ l.drop j) := he
      by_cases hlt : j < l.length
      · obtain ⟨e, hje, hex⟩ := el_at he j (by rw [List.length_append, List.length_take, List.length_drop, mkDs_len]; omega) noDD
        obtain ⟨hcs, hlen, hFe⟩ := hA.el e (List.mem_of_getElem? hje)
        have c0 := hA.cell j e hje 0 (.string e.x.nm) (by rw [hcs]; rfl)
        have c1 := hA.cell j e hje 1 (.string e.x.vl) (by rw [hcs]; rfl)
        have c2 := hA.cell j e hje 2 (.bool e.x.im) (by rw [hcs]; rfl)
        have HMK : Hid ((mkDs K l.length)[j]? = some (mkD (K + 3 * j))) := mkDs_at K l.length j hlt
        have hg := hA.lt
        have hfz := hA.fz
        rw [Nat.add_zero] at c0
        have HRA : Hid (RowA 3 EDecl wr g es F) := hA
        have HJE : Hid (es[j]? = some e) := hje
        have HFE : Hid (∀ b, e.F b → F b ∧ b ≠ g) := hFe
        have HIF : Hid (F g) := hA.inF
        have HSM : Hid _ := fun x hx => set_marked (mkDs K l.length) l j x (mkDs_len K l.length) hlt hx
        have HX3 : Hid (K + 3 * (j + 1) = K + 3 * j + 3) := by show _ = _; omega
        have hXb : K + 3 * j + 3 ≤ 1000000 := by omega
        have hX1 : 1 ≤ K + 3 * j := by omega
        clear hA hje hFe hex hcs hlen he hw
        generalize K + 3 * j = X at *
        have hm3 := mod3 X
        generalize e.x.nm = en at *
        generalize e.x.vl = ev at *
        generalize e.x.im = ei at *
        go_wp2_with fail
        refine Calls.mono (markText_any _ X (by omega) (by omega)) ?_
        rintro e1 w1 ⟨rfl, k1⟩
        have hg1 : g < w1.heap.size := Nat.lt_of_lt_of_le hg (Below.size k1)
        have d0 := ((bcell k1).1 _ (j * 3) hg).trans c0
        have d1 := ((bcell k1).1 _ (j * 3 + 1) hg).trans c1
        have d2 := ((bcell k1).1 _ (j * 3 + 2) hg).trans c2
        have df : ∀ o, w1.frozen? ⟨g, o, none⟩ = false := fun o => ((bcell k1).2 _ o hg).trans (hfz o)
        have HK1 : Hid (Nw wr w1) := k1
        clear k1 c0 c1 c2
        go_wp2_with fail
        refine Calls.mono (markText_any _ (X + 1) (by omega) (by omega)) ?_
        rintro e2 w2 ⟨rfl, k2⟩
        have hgS : g < (w1.setCell ⟨g, j * 3, none⟩ (.string (markT X))).heap.size := by simpa [World.setCell] using hg1
        have hg2 : g < w2.heap.size := Nat.lt_of_lt_of_le hgS (Below.size k2)
        have f0 := ((bcell k2).1 _ (j * 3) hgS).trans (World.cell?_setCell_same w1 ⟨g, j * 3, none⟩ _ d0)
        have f1 := ((bcell k2).1 _ (j * 3 + 1) hgS).trans ((setd_far (by omega)).trans d1)
        have f2 := ((bcell k2).1 _ (j * 3 + 2) hgS).trans ((setd_far (by omega)).trans d2)
        have ff : ∀ o, w2.frozen? ⟨g, o, none⟩ = false := fun o => ((bcell k2).2 _ o hgS).trans (by rw [World.frozen?_setCell]; exact df o)
        have HK2 : Hid (Nw (w1.setCell ⟨g, j * 3, none⟩ (.string (markT X))) w2) := k2
        clear k2 d0 d1 d2 df
        have HWR : Hid (Wr (fun b => b = g ∨ e.F b) wr ((w2.setCell ⟨g, j * 3 + 1, none⟩ (.string (markT (X + 1)))).setCell ⟨g, j * 3 + 2, none⟩ (.bool (decide ((X + 2) % 3 = 0))))) := by
          have b1 : Wr (fun b => b = g ∨ e.F b) wr w1 := Wr.nw HK1.out
          have b2 := b1.set (Or.inl rfl) (j * 3) (.string (markT X))
          have b3 := b2.trans (Wr.nw HK2.out)
          have b4 := b3.set (Or.inl rfl) (j * 3 + 1) (.string (markT (X + 1)))
          exact b4.set (Or.inl rfl) (j * 3 + 2) _
        have HNX : Hid (RowA 3 EDecl ((w2.setCell ⟨g, j * 3 + 1, none⟩ (.string (markT (X + 1)))).setCell ⟨g, j * 3 + 2, none⟩ (.bool (decide ((X + 2) % 3 = 0)))) g (es.set j ⟨mkD X, [.string (markT X), .string (markT (X + 1)), .bool (decide ((X + 2) % 3 = 0))], e.F⟩) F) := by
          refine HRA.out.step EDecl.kept j e _ _ HJE.out rfl HWR.out (fun o => ?_) (fun i y hi => ?_) (fun i m him hm => ?_) rfl
          · rw [World.frozen?_setCell, World.frozen?_setCell]
            exact ff o
          · rcases (show i = 0 ∨ i = 1 ∨ i = 2 ∨ 3 ≤ i by omega) with rfl | rfl | rfl | h
            · simp at hi; subst hi; rw [setd_far (by omega), setd_far (by omega), Nat.add_zero]; exact f0
            · simp at hi; subst hi; rw [setd_far (by omega)]; exact World.cell?_setCell_same w2 ⟨g, j * 3 + 1, none⟩ _ f1
            · simp at hi; subst hi; exact World.cell?_setCell_same _ ⟨g, j * 3 + 2, none⟩ _ ((setd_far (by omega)).trans f2)
            · rw [List.getElem?_eq_none (by simpa using h)] at hi; cases hi
          · rw [setd_far (by omega), setd_far (by omega), (bcell HK2.out).1 _ _ hgS, setd_far (by omega), (bcell HK1.out).1 _ _ hg]
        have HW3 : Hid (Wr F w _) := HW.out.trans (HWR.out.mono (fun b hb => by
          rcases hb with rfl | hb
          · exact HIF.out
          · exact (HFE.out b hb).1))
        generalize decide ((X + 2) % 3 = 0) = bm at *
        go_wp2
        go_roundw
        case rel =>
          refine ⟨j + 1, _, by omega, by go_num, by rw [HX3.out]; go_num, HW3.out, ?_, HNX.out⟩
          rw [List.map_set, HE.out, HSM.out _ HMK.out]
        case measure => simp [intOf]; omega
      · have e : j = l.length := by omega
        subst e
        have HRA : Hid (RowA 3 EDecl wr g es F) := hA
        have HE2 : Hid (es.map El.x = mkDs K l.length) := by
          show _ = _
          rw [he, List.drop_length, List.append_nil, List.take_of_length_le (by rw [mkDs_len]; exact Nat.le_refl _)]
        have HLN : Hid ((mkDs K l.length).length = l.length) := mkDs_len K l.length
        clear hA he hw
        go_wp2
        go_ret
        refine ⟨rfl, HW.out, Or.inr ⟨g, c, es, ?_, ?_, HE2.out, HRA.out⟩⟩
        · rw [HLN.out]
        · rw [HLN.out]; exact HC.out
set_option maxRecDepth 100000 in
set_option maxHeartbeats 8000000 in
theorem heldDl_any (w : World) (v : Value) (K n : Nat) (F : Nat → Prop) (hK : 1 ≤ K) (hK2 : K + 3 * n ≤ 1000000) (h : RowM 3 EDecl w v (mkDs K n) F) :
    Calls Tryd.prog 11 #[v, .int .i64 (K : Int)] w fun e w' => e = .returned (.int .i64 ((K + 3 * n : Nat) : Int)) ∧ Nw w w' := by
  obtain ⟨va, vc, hv, _⟩ := h.slice
  rw [mkDs_len] at hv
  subst hv
  have HR : Hid (RowM 3 EDecl w (.slice va n vc) (mkDs K n) F) := h
  clear h
  go_enter Tryd.func11, Tryd.ntmps11
  go_wp2
  go_loopw [1, 5] (fun x i wr => ∃ (j : Nat), j ≤ n ∧ i = .int .i64 j ∧ x = .int .i64 ((K + 3 * j : Nat) : Int) ∧ Nw w wr) (fun _ i _ => n - (intOf i).toNat)
  case atStart => exact ⟨0, Nat.zero_le _, rfl, rfl, Below.refl _ _⟩
  case round =>
    obtain ⟨j, hj, rfl, rfl, hw⟩ := hrel
    have HW : Hid (Nw w wr) := hw
    by_cases hlt : j < n
    · obtain ⟨a, c, hs, _, hd⟩ := (HR.out.nw EDecl.kept hw).decls
      injection hs with hs1 hs2 hs3
      subst hs1
      clear hs2 hs3
      rcases hd with h2 | ⟨g, rfl, hg, hc⟩
      · have := mkDs_len K n; rw [h2] at this; simp at this; omega
      obtain ⟨c0, c1, c2⟩ := hc j (by rw [mkDs_len]; exact hlt)
      have hda : declAt (mkDs K n) j = mkD (K + 3 * j) := by unfold declAt; rw [List.getD_eq_getElem?_getD, mkDs_at K n j hlt]; rfl
      rw [hda] at c0 c1 c2
      have c0' : wr.cell? ⟨g, j * 3, none⟩ = some (.string (markT (K + 3 * j))) := c0
      have c1' : wr.cell? ⟨g, j * 3 + 1, none⟩ = some (.string (markT (K + 3 * j + 1))) := c1
      have c2' : wr.cell? ⟨g, j * 3 + 2, none⟩ = some (.bool (decide ((K + 3 * j + 2) % 3 = 0))) := c2
      have HX3 : Hid (K + 3 * (j + 1) = K + 3 * j + 3) := by show _ = _; omega
      have hXb : K + 3 * j + 3 ≤ 1000000 := by omega
      have hX1 : 1 ≤ K + 3 * j := by omega
      clear hc hw hda c0 c1 c2
      generalize K + 3 * j = X at *
      have HM3 : Hid _ := mod3 X
      generalize decide ((X + 2) % 3 = 0) = bm at *
      have hgd : g < wr.drew.heap.size := hg
      have C0 : wr.drew.cell? ⟨g, j * 3, none⟩ = some (.string (markT X)) := c0'
      go_wp2
      go_region_with (go_at_call 30; refine Calls.mono (markText_any _ X (by omega) (by omega)) ?_; rintro e1 w1 ⟨rfl, k1⟩; have d0 := ((bcell k1).1 _ (j * 3) hgd).trans C0)
      all_goals
        have HK1 : Hid (Nw wr w1) := k1.drw
        have hg1 : g < w1.heap.size := Nat.lt_of_lt_of_le hg (Below.size HK1.out)
        have d1 := ((bcell HK1.out).1 _ (j * 3 + 1) hg).trans c1'
        have d2 := ((bcell HK1.out).1 _ (j * 3 + 2) hg).trans c2'
        have hgd1 : g < w1.drew.heap.size := hg1
        have D1 : w1.drew.cell? ⟨g, j * 3 + 1, none⟩ = some (.string (markT (X + 1))) := d1
        clear C0 c0' c1' c2'
        go_wp2
        go_region_with (go_at_call 30; refine Calls.mono (markText_any _ (X + 1) (by omega) (by omega)) ?_; rintro e2 w2 ⟨rfl, k2⟩; have f1 := ((bcell k2).1 _ (j * 3 + 1) hgd1).trans D1)
        all_goals
          have HK2 : Hid (Nw wr w2) := Nw.trans HK1.out k2.drw
          have hg2 : g < w2.heap.size := Nat.lt_of_lt_of_le hg (Below.size HK2.out)
          have f2 := ((bcell (Nw.drw k2)).1 _ (j * 3 + 2) hg1).trans d2
          have HN2 : Hid (Nw w w2) := Nw.trans HW.out HK2.out
          clear D1 d1 d2
          have hm3 := HM3.out
          go_wp2
          go_roundw
          case rel => exact ⟨j + 1, by omega, by go_num, by rw [HX3.out]; go_num, HN2.out⟩
          case measure => simp [intOf]; omega
    · have e : j = n := by omega
      subst e
      clear hw
      go_wp2
      go_ret
      exact ⟨rfl, HW.out⟩
end Go.Proofs.YtnkmdmmlpidcmaaDoor
namespace Go.Proofs.YtnkmdmmlpidcmaaDoor
open Go.ChangeShapes Go.WideShapes Go.ChangeAt Go.RowKit
set_option linter.unusedVariables false

/-- A rule. -/
structure RD where
  sels : List (List PD)
  decls : List DD
def noRD : RD := ⟨[], []⟩
def ESel : Els (List PD) := fun w cs l F => ∃ v, cs = [v] ∧ RowM 3 EPart w v l F
theorem ESel.kept : KeptE ESel := fun w w' cs x F G ⟨u, h1, h2⟩ k d => ⟨u, h1, h2.kept EPart.kept k d⟩
def ERule : Els RD := fun w cs r F => ∃ v1 v2 F1 F2, cs = [v1, v2] ∧ RowM 1 ESel w v1 r.sels F1 ∧ RowM 3 EDecl w v2 r.decls F2 ∧ (∀ b, F1 b → F b) ∧ (∀ b, F2 b → F b) ∧ disj F1 F2
theorem ERule.kept : KeptE ERule := fun w w' cs x F G ⟨v1, v2, F1, F2, h1, h2, h3, h4, h5, h6⟩ k d => ⟨v1, v2, F1, F2, h1, h2.kept ESel.kept k (fun b hb => d b (h4 b hb)), h3.kept EDecl.kept k (fun b hb => d b (h5 b hb)), h4, h5, h6⟩
theorem info_sel : (Tryd.prog.info? 28).map (fun i => (i.zero, i.size, i.bytes)) = some (some (.slice none 0 0), 1, 24) := by kernel_rfl
theorem info_rule : (Tryd.prog.info? 68).map (fun i => (i.zero, i.size, i.bytes)) = some (some (.agg #[.slice none 0 0, .slice none 0 0]), 2, 48) := by kernel_rfl
/-- What lies in an element is written, its cells stay. -/
theorem RowA.inner {n : Nat} {α : Type} {E : Els α} (hE : KeptE E) {w w' : World} {g : Nat} {els : List (El α)} {F : Nat → Prop} (h : RowA n E w g els F) (k : Nat) (e : El α) (x' : α) (hk : els[k]? = some e)
    (hw : Wr e.F w w') (hx : E w' e.cs x' e.F) : RowA n E w' g (els.set k ⟨x', e.cs, e.F⟩) F := by
  have hm : e ∈ els := List.mem_of_getElem? hk
  have hb := hw.block g h.lt (fun hb => ((h.el e hm).2.2 g hb).2 rfl)
  have cc : ∀ o, w'.cell? ⟨g, o, none⟩ = w.cell? ⟨g, o, none⟩ := fun o => World.cell?_of_block (w := w) (a := ⟨g, o, none⟩) hb
  exact h.step hE k e x' e.cs hk (h.el e hm).2.1 (hw.mono (fun b hb => Or.inr hb)) (fun o => by rw [World.frozen?_of_block (w := w) (a := ⟨g, o, none⟩) hb]; exact h.fz o) (fun j u hj => by rw [cc]; exact h.cell k e hk j u hj) (fun i j _ _ => cc _) hx
/-! ### Held against each other -/
def selAt (l : List (List PD)) (i : Nat) : List PD := l.getD i []
def lenSS (l : List (List PD)) : Prop := ∀ i, i < l.length → (selAt l i).length ≤ 1048576 ∧ lenPs (selAt l i)
theorem RowM.selAt {w : World} {v : Value} {l : List (List PD)} {F : Nat → Prop} (h : RowM 1 ESel w v l F) {k : Nat} (hk : k < l.length) : ∃ g c a n, v = .slice (some ⟨g, 0, none⟩) l.length c ∧ g < w.heap.size ∧ w.cell? ⟨g, k, none⟩ = some (.slice a (selAt l k).length n) ∧ Parts w a (selAt l k) := by
  rcases h with ⟨_, h2⟩ | ⟨g, c, els, h1, h2, h3, h4⟩
  · rw [h2] at hk; simp at hk
  · obtain ⟨e, he, hx⟩ := el_at h3 k hk []
    obtain ⟨u, hcs, hu⟩ := (h4.el e (List.mem_of_getElem? he)).1
    obtain ⟨a, n, hv, _, hp⟩ := hu.parts
    have c0 := h4.cell k e he 0 u (by rw [hcs]; rfl)
    have ex : e.x = Go.Proofs.YtnkmdmmlpidcmaaDoor.selAt l k := hx
    rw [hv, ex] at c0
    rw [ex] at hp
    exact ⟨g, c, a, n, h1, h4.lt, by simpa using c0, hp⟩
set_option maxHeartbeats 4000000 in
theorem eqSS_any (w : World) (v1 v2 : Value) (l : List (List PD)) (F1 F2 : Nat → Prop) (hl : l.length ≤ 1048576) (hla : lenSS l) (h1 : RowM 1 ESel w v1 l F1) (h2 : RowM 1 ESel w v2 l F2) :
    Calls Tryd.prog 80 #[v1, v2] w fun e w' => e = .returned (.bool true) ∧ Nw w w' := by
  obtain ⟨a1, c1, rfl, _⟩ := h1.slice
  obtain ⟨a2, c2, rfl, _⟩ := h2.slice
  have H1 : Hid (RowM 1 ESel w (.slice a1 l.length c1) l F1) := h1
  have H2 : Hid (RowM 1 ESel w (.slice a2 l.length c2) l F2) := h2
  have HLA : Hid (lenSS l) := hla
  clear h1 h2 hla
  go_enter Tryd.func80, Tryd.ntmps80
  go_wp2
  go_loopw [5] (fun i wr => ∃ k : Nat, k ≤ l.length ∧ i = .int .i64 k ∧ Nw w wr) (fun i _ => l.length - (intOf i).toNat)
  case atStart => exact ⟨0, Nat.zero_le _, rfl, Below.refl _ _⟩
  case round =>
    obtain ⟨k, hk, rfl, hw⟩ := hrel
    by_cases hlt : k < l.length
    · obtain ⟨g1, d1, p1, n1, e1, hb1, q1, r1⟩ := (H1.out.nw ESel.kept hw).selAt hlt
      obtain ⟨g2, d2, p2, n2, e2, hb2, q2, r2⟩ := (H2.out.nw ESel.kept hw).selAt hlt
      injection e1 with e1 e1b e1c
      injection e2 with e2 e2b e2c
      clear e1b e1c e2b e2c
      subst e1 e2
      obtain ⟨hs1, hs2⟩ := HLA.out k hlt
      have Q4 : Hid (Parts wr.drew p1 (selAt l k)) := r1.nw ((Below.refl _ _).drew)
      have R4 : Hid (Parts wr.drew p2 (selAt l k)) := r2.nw ((Below.refl _ _).drew)
      have HL2 : Hid (lenPs (selAt l k)) := hs2
      have HW : Hid (Nw w wr) := hw
      clear r1 r2 hs2 hw H1 H2
      go_wp2
      go_region_with (go_at_call 14; refine Calls.mono (eqPartS_any _ p1 p2 n1 n2 (selAt l k) hs1 HL2.out Q4.out R4.out) ?_; rintro e w' ⟨rfl, k1⟩)
      all_goals
        go_wp2
        go_roundw
        case rel => exact ⟨k + 1, by omega, by go_num, HW.out.trans k1.drw⟩
        case measure => simp [intOf]; omega
    · have HW : Hid (Nw w wr) := hw
      clear hw
      go_wp2
      go_ret
      exact ⟨rfl, HW.out⟩
def ruleAt (l : List RD) (i : Nat) : RD := l.getD i noRD
structure lenR (r : RD) : Prop where
  s1 : r.sels.length ≤ 1048576
  s2 : lenSS r.sels
  s3 : r.decls.length ≤ 1048576
def lenRs (l : List RD) : Prop := ∀ i, i < l.length → lenR (ruleAt l i)
theorem eqRule_any (w : World) (u1 v1 u2 v2 : Value) (r : RD) (F1 F2 G1 G2 : Nat → Prop) (hl : lenR r) (h1 : RowM 1 ESel w u1 r.sels F1) (h2 : RowM 1 ESel w u2 r.sels F2) (h3 : RowM 3 EDecl w v1 r.decls G1) (h4 : RowM 3 EDecl w v2 r.decls G2) :
    Calls Tryd.prog 45 #[.agg #[u1, v1], .agg #[u2, v2]] w fun e w' => e = .returned (.bool true) ∧ Nw w w' := by
  obtain ⟨s1, s2, s3⟩ := hl
  have HS2 : Hid (lenSS r.sels) := s2
  clear s2
  have HB : ∀ o1 o2, Hid (Nw w ((w.alloc o1).alloc o2)) := fun o1 o2 => ((Below.refl _ _).alloc (Nat.le_refl _) _).alloc (by simp) _
  have H1 : Hid (RowM 1 ESel w u1 r.sels F1) := h1
  have H2 : Hid (RowM 1 ESel w u2 r.sels F2) := h2
  have H3 : Hid (RowM 3 EDecl w v1 r.decls G1) := h3
  have H4 : Hid (RowM 3 EDecl w v2 r.decls G2) := h4
  obtain ⟨a1, c1, rfl, _⟩ := h1.slice
  obtain ⟨a2, c2, rfl, _⟩ := h2.slice
  obtain ⟨b1, d1, rfl, _⟩ := h3.slice
  obtain ⟨b2, d2, rfl, _⟩ := h4.slice
  clear h1 h2 h3 h4
  go_enter Tryd.func45, Tryd.ntmps45
  go_wp2_with fail
  refine Calls.mono (eqSS_any _ _ _ r.sels F1 F2 s1 HS2.out (H1.out.nw ESel.kept (HB _ _).out) (H2.out.nw ESel.kept (HB _ _).out)) ?_
  rintro e w1 ⟨rfl, k1⟩
  obtain ⟨hc, hf⟩ := bcell k1
  have HN1 : Hid (Nw w w1) := Nw.trans (HB _ _).out k1
  obtain ⟨e1, f1, g1, _, i1⟩ := (H3.out.nw EDecl.kept HN1.out).decls
  obtain ⟨e2, f2, g2, _, i2⟩ := (H4.out.nw EDecl.kept HN1.out).decls
  injection g1 with g1 g1b g1c
  injection g2 with g2 g2b g2c
  clear g1b g1c g2b g2c
  subst g1 g2
  have I1 : Hid (Decls w1 b1 r.decls) := i1
  have I2 : Hid (Decls w1 b2 r.decls) := i2
  clear i1 i2 k1
  go_wp2_with fail
  refine Calls.mono (eqDeclS_any _ b1 b2 d1 d2 r.decls s3 I1.out I2.out) ?_
  rintro e w2 ⟨rfl, k2⟩
  go_wp2
  go_ret
  exact ⟨rfl, Nw.trans HN1.out k2⟩
theorem RowM.ruleAt {w : World} {v : Value} {l : List RD} {F : Nat → Prop} (h : RowM 2 ERule w v l F) {k : Nat} (hk : k < l.length) : ∃ g c u1 u2 F1 F2, v = .slice (some ⟨g, 0, none⟩) l.length c ∧ g < w.heap.size ∧ w.cell? ⟨g, k * 2, none⟩ = some u1 ∧ w.cell? ⟨g, k * 2 + 1, none⟩ = some u2 ∧ RowM 1 ESel w u1 (ruleAt l k).sels F1 ∧ RowM 3 EDecl w u2 (ruleAt l k).decls F2 := by
  rcases h with ⟨_, h2⟩ | ⟨g, c, els, h1, h2, h3, h4⟩
  · rw [h2] at hk; simp at hk
  · obtain ⟨e, he, hx⟩ := el_at h3 k hk noRD
    obtain ⟨u1, u2, F1, F2, hcs, hu1, hu2, _, _, _⟩ := (h4.el e (List.mem_of_getElem? he)).1
    have c0 := h4.cell k e he 0 u1 (by rw [hcs]; rfl)
    have c1 := h4.cell k e he 1 u2 (by rw [hcs]; rfl)
    have ex : e.x = Go.Proofs.YtnkmdmmlpidcmaaDoor.ruleAt l k := hx
    rw [ex] at hu1 hu2
    exact ⟨g, c, u1, u2, F1, F2, h1, h4.lt, by simpa using c0, c1, hu1, hu2⟩
set_option maxHeartbeats 4000000 in
theorem eqRuleS_any (w : World) (v1 v2 : Value) (l : List RD) (F1 F2 : Nat → Prop) (hl : l.length ≤ 1048576) (hla : lenRs l) (h1 : RowM 2 ERule w v1 l F1) (h2 : RowM 2 ERule w v2 l F2) :
    Calls Tryd.prog 21 #[v1, v2] w fun e w' => e = .returned (.bool true) ∧ Nw w w' := by
  obtain ⟨a1, c1, rfl, _⟩ := h1.slice
  obtain ⟨a2, c2, rfl, _⟩ := h2.slice
  have H1 : Hid (RowM 2 ERule w (.slice a1 l.length c1) l F1) := h1
  have H2 : Hid (RowM 2 ERule w (.slice a2 l.length c2) l F2) := h2
  have HLA : Hid (lenRs l) := hla
  clear h1 h2 hla
  go_enter Tryd.func21, Tryd.ntmps21
  go_wp2
  go_loopw [5] (fun i wr => ∃ k : Nat, k ≤ l.length ∧ i = .int .i64 k ∧ Nw w wr) (fun i _ => l.length - (intOf i).toNat)
  case atStart => exact ⟨0, Nat.zero_le _, rfl, Below.refl _ _⟩
  case round =>
    obtain ⟨k, hk, rfl, hw⟩ := hrel
    by_cases hlt : k < l.length
    · obtain ⟨g1, d1, p1, n1, X1, Y1, e1, hb1, q1, r1, s1, t1⟩ := (H1.out.nw ERule.kept hw).ruleAt hlt
      obtain ⟨g2, d2, p2, n2, X2, Y2, e2, hb2, q2, r2, s2, t2⟩ := (H2.out.nw ERule.kept hw).ruleAt hlt
      injection e1 with e1 e1b e1c
      injection e2 with e2 e2b e2c
      clear e1b e1c e2b e2c
      subst e1 e2
      have HL2 : Hid (lenR (ruleAt l k)) := HLA.out k hlt
      have D0 : Nw wr wr.drew := (Below.refl _ _).drew
      have S1 : Hid _ := s1.nw ESel.kept D0
      have S2 : Hid _ := s2.nw ESel.kept D0
      have T1 : Hid _ := t1.nw EDecl.kept D0
      have T2 : Hid _ := t2.nw EDecl.kept D0
      have HW : Hid (Nw w wr) := hw
      obtain ⟨pa, pc, hp1, _⟩ := s1.slice
      obtain ⟨pb, pd, hp2, _⟩ := s2.slice
      obtain ⟨na, nc, hn1, _⟩ := t1.slice
      obtain ⟨nb, nd, hn2, _⟩ := t2.slice
      subst hp1 hp2 hn1 hn2
      clear s1 s2 t1 t2 hw H1 H2 D0
      go_wp2
      go_region_with (go_at_call 45; refine Calls.mono (eqRule_any _ _ _ _ _ (ruleAt l k) X1 X2 Y1 Y2 HL2.out S1.out S2.out T1.out T2.out) ?_; rintro e w' ⟨rfl, k1⟩)
      all_goals
        go_wp2
        go_roundw
        case rel => exact ⟨k + 1, by omega, by go_num, HW.out.trans k1.drw⟩
        case measure => simp [intOf]; omega
    · have HW : Hid (Nw w wr) := hw
      clear hw
      go_wp2
      go_ret
      exact ⟨rfl, HW.out⟩
end Go.Proofs.YtnkmdmmlpidcmaaDoor
namespace Go.Proofs.YtnkmdmmlpidcmaaDoor
open Go.ChangeShapes Go.WideShapes Go.ChangeAt Go.RowKit
set_option linter.unusedVariables false

/-- The blocks from B on are kept. -/
def From (B : Nat) (w w' : World) : Prop := w.heap.size ≤ w'.heap.size ∧ ∀ b, B ≤ b → b < w.heap.size → w'.heap[b]? = w.heap[b]?
theorem From.nw {B : Nat} {w w' : World} (h : Nw w w') : From B w w' := ⟨Below.size h, fun b _ hb => Below.block h b hb⟩
theorem From.trans {B : Nat} {a b c : World} (h : From B a b) (k : From B b c) : From B a c := ⟨Nat.le_trans h.1 k.1, fun x hx hs => (k.2 x hx (Nat.lt_of_lt_of_le hs h.1)).trans (h.2 x hx hs)⟩
theorem From.set {B g : Nat} (w : World) (hg : g < B) (o : Nat) (v : Value) : From B w (w.setCell ⟨g, o, none⟩ v) :=
  ⟨by simp [World.setCell], fun b hb _ => Below.heap_setCell _ _ _ _ (by show b ≠ g; omega)⟩
theorem From.cell {B : Nat} {w w' : World} (h : From B w w') {g : Nat} (hg : B ≤ g) (hl : g < w.heap.size) (o : Nat) : w'.cell? ⟨g, o, none⟩ = w.cell? ⟨g, o, none⟩ :=
  World.cell?_of_block (w := w) (a := ⟨g, o, none⟩) (h.2 g hg hl)
theorem From.frozen {B : Nat} {w w' : World} (h : From B w w') {g : Nat} (hg : B ≤ g) (hl : g < w.heap.size) (o : Nat) : w'.frozen? ⟨g, o, none⟩ = w.frozen? ⟨g, o, none⟩ :=
  World.frozen?_of_block (w := w) (a := ⟨g, o, none⟩) (h.2 g hg hl)
theorem LayS.from {B : Nat} {w w' : World} {g k : Nat} {l : List ByteArray} (h : LayS w g l k) (q : From B w w') (hg : B ≤ g) : LayS w' g l k :=
  ⟨Nat.lt_of_lt_of_le h.1 q.1, fun i hi => (q.cell hg h.1 i).trans (h.2.1 i hi), fun i hi hj => (q.cell hg h.1 i).trans (h.2.2.1 i hi hj), fun o => (q.frozen hg h.1 o).trans (h.2.2.2 o)⟩
theorem LayPs.from {B : Nat} {w w' : World} {g k : Nat} {l : List PD} (h : LayPs w g l k) (q : From B w w') (hg : B ≤ g) : LayPs w' g l k := by
  have C := fun o => q.cell hg h.1 o
  refine ⟨Nat.lt_of_lt_of_le h.1 q.1, fun i hi => ?_, fun i hi hj => ?_, fun o => (q.frozen hg h.1 o).trans (h.2.2.2 o)⟩
  · obtain ⟨h0, h1, ⟨ga, hga, h2, h3⟩⟩ := h.2.1 i hi
    exact ⟨(C _).trans h0, (C _).trans h1, ⟨ga, hga, (C _).trans h2, h3.from q (by omega)⟩⟩
  · obtain ⟨h0, h1, h2⟩ := h.2.2.1 i hi hj
    exact ⟨(C _).trans h0, (C _).trans h1, (C _).trans h2⟩

/-- Declarations at any place. -/
def DeclsO (w : World) (a : Option Addr) (l : List DD) : Prop :=
  l = [] ∨ ∃ b o, a = some ⟨b, o, none⟩ ∧ b < w.heap.size ∧ ∀ i, i < l.length → w.cell? ⟨b, o + i * 3, none⟩ = some (.string (declAt l i).nm) ∧ w.cell? ⟨b, o + i * 3 + 1, none⟩ = some (.string (declAt l i).vl) ∧ w.cell? ⟨b, o + i * 3 + 2, none⟩ = some (.bool (declAt l i).im)
theorem DeclsO.nw {w w' : World} {a : Option Addr} {l : List DD} (h : DeclsO w a l) (k : Nw w w') : DeclsO w' a l := by
  rcases h with h | ⟨b, o, rfl, hb, hc⟩
  · exact Or.inl h
  · refine Or.inr ⟨b, o, rfl, Nat.lt_of_lt_of_le hb (Below.size k), fun i hi => ?_⟩
    obtain ⟨h0, h1, h2⟩ := hc i hi
    exact ⟨((bcell k).1 _ _ hb).trans h0, ((bcell k).1 _ _ hb).trans h1, ((bcell k).1 _ _ hb).trans h2⟩
/-- Selectors at any place. -/
def Selss (w : World) (a : Option Addr) (l : List (List PD)) : Prop :=
  l = [] ∨ ∃ b o, a = some ⟨b, o, none⟩ ∧ b < w.heap.size ∧ ∀ i, i < l.length → ∃ aa c, w.cell? ⟨b, o + i, none⟩ = some (.slice aa (selAt l i).length c) ∧ (selAt l i).length ≤ c ∧ Parts w aa (selAt l i)
theorem Selss.nw {w w' : World} {a : Option Addr} {l : List (List PD)} (h : Selss w a l) (k : Nw w w') : Selss w' a l := by
  rcases h with h | ⟨b, o, rfl, hb, hc⟩
  · exact Or.inl h
  · refine Or.inr ⟨b, o, rfl, Nat.lt_of_lt_of_le hb (Below.size k), fun i hi => ?_⟩
    obtain ⟨aa, c, h0, h1, h2⟩ := hc i hi
    exact ⟨aa, c, ((bcell k).1 _ _ hb).trans h0, h1, h2.nw k⟩
/-- Rules at any place. -/
def Rules (w : World) (a : Option Addr) (l : List RD) : Prop :=
  l = [] ∨ ∃ b o, a = some ⟨b, o, none⟩ ∧ b < w.heap.size ∧ ∀ i, i < l.length →
    (∃ aa c, w.cell? ⟨b, o + i * 2, none⟩ = some (.slice aa (ruleAt l i).sels.length c) ∧ (ruleAt l i).sels.length ≤ c ∧ Selss w aa (ruleAt l i).sels) ∧
    (∃ aa c, w.cell? ⟨b, o + i * 2 + 1, none⟩ = some (.slice aa (ruleAt l i).decls.length c) ∧ (ruleAt l i).decls.length ≤ c ∧ DeclsO w aa (ruleAt l i).decls)
theorem Rules.nw {w w' : World} {a : Option Addr} {l : List RD} (h : Rules w a l) (k : Nw w w') : Rules w' a l := by
  rcases h with h | ⟨b, o, rfl, hb, hc⟩
  · exact Or.inl h
  · refine Or.inr ⟨b, o, rfl, Nat.lt_of_lt_of_le hb (Below.size k), fun i hi => ?_⟩
    obtain ⟨⟨aa, c, h0, h1, h2⟩, ⟨ab, d, g0, g1, g2⟩⟩ := hc i hi
    exact ⟨⟨aa, c, ((bcell k).1 _ _ hb).trans h0, h1, h2.nw k⟩, ⟨ab, d, ((bcell k).1 _ _ hb).trans g0, g1, g2.nw k⟩⟩

/-- A new row of which the first k declarations have been laid. -/
def LayDs (w : World) (g : Nat) (l : List DD) (k : Nat) : Prop :=
  g < w.heap.size ∧ (∀ i, i < k → w.cell? ⟨g, i * 3, none⟩ = some (.string (declAt l i).nm) ∧ w.cell? ⟨g, i * 3 + 1, none⟩ = some (.string (declAt l i).vl) ∧ w.cell? ⟨g, i * 3 + 2, none⟩ = some (.bool (declAt l i).im)) ∧
    (∀ i, k ≤ i → i < l.length → w.cell? ⟨g, i * 3, none⟩ = some (.string ⟨#[]⟩) ∧ w.cell? ⟨g, i * 3 + 1, none⟩ = some (.string ⟨#[]⟩) ∧ w.cell? ⟨g, i * 3 + 2, none⟩ = some (.bool false)) ∧ ∀ o, w.frozen? ⟨g, o, none⟩ = false
theorem LayDs.from {B : Nat} {w w' : World} {g k : Nat} {l : List DD} (h : LayDs w g l k) (q : From B w w') (hg : B ≤ g) : LayDs w' g l k := by
  have C := fun o => q.cell hg h.1 o
  refine ⟨Nat.lt_of_lt_of_le h.1 q.1, fun i hi => ?_, fun i hi hj => ?_, fun o => (q.frozen hg h.1 o).trans (h.2.2.2 o)⟩
  · obtain ⟨h0, h1, h2⟩ := h.2.1 i hi
    exact ⟨(C _).trans h0, (C _).trans h1, (C _).trans h2⟩
  · obtain ⟨h0, h1, h2⟩ := h.2.2.1 i hi hj
    exact ⟨(C _).trans h0, (C _).trans h1, (C _).trans h2⟩
theorem LayDs.decls {w : World} {g : Nat} {l : List DD} (h : LayDs w g l l.length) : DeclsO w (some ⟨g, 0, none⟩) l :=
  Or.inr ⟨g, 0, rfl, h.1, fun i hi => by
    obtain ⟨h0, h1, h2⟩ := h.2.1 i hi
    exact ⟨by simpa using h0, by simpa using h1, by simpa using h2⟩⟩
theorem LayDs.step {w w' : World} {g k : Nat} {l : List DD} (h : LayDs w g l k) (q : Nw w w') (hk : k < l.length) :
    LayDs (((w'.setCell ⟨g, k * 3, none⟩ (.string (declAt l k).nm)).setCell ⟨g, k * 3 + 1, none⟩ (.string (declAt l k).vl)).setCell ⟨g, k * 3 + 2, none⟩ (.bool (declAt l k).im)) g l (k + 1) := by
  have h' := h.from (B := 0) (From.nw q) (Nat.zero_le _)
  obtain ⟨z0, z1, z2⟩ := h'.2.2.1 k (Nat.le_refl _) hk
  have far : ∀ o, o ≠ k * 3 → o ≠ k * 3 + 1 → o ≠ k * 3 + 2 → (((w'.setCell ⟨g, k * 3, none⟩ (.string (declAt l k).nm)).setCell ⟨g, k * 3 + 1, none⟩ (.string (declAt l k).vl)).setCell ⟨g, k * 3 + 2, none⟩ (.bool (declAt l k).im)).cell? ⟨g, o, none⟩ = w'.cell? ⟨g, o, none⟩ := by
    intro o a b c
    rw [World.cell?_setCell_other _ _ _ _ (fun h => by injection h; omega), World.cell?_setCell_other _ _ _ _ (fun h => by injection h; omega), World.cell?_setCell_other _ _ _ _ (fun h => by injection h; omega)]
  refine ⟨by simpa [World.setCell] using h'.1, fun m hm => ?_, fun m hm1 hm2 => ?_, fun o => ?_⟩
  · by_cases e : m = k
    · subst e
      refine ⟨?_, ?_, ?_⟩
      · rw [World.cell?_setCell_other _ _ _ _ (fun h => by injection h; omega), World.cell?_setCell_other _ _ _ _ (fun h => by injection h; omega)]
        exact World.cell?_setCell_same w' ⟨g, m * 3, none⟩ _ z0
      · rw [World.cell?_setCell_other _ _ _ _ (fun h => by injection h; omega)]
        exact World.cell?_setCell_same _ ⟨g, m * 3 + 1, none⟩ _ ((World.cell?_setCell_other _ _ _ _ (fun h => by injection h; omega)).trans z1)
      · exact World.cell?_setCell_same _ ⟨g, m * 3 + 2, none⟩ _ ((World.cell?_setCell_other _ _ _ _ (fun h => by injection h; omega)).trans ((World.cell?_setCell_other _ _ _ _ (fun h => by injection h; omega)).trans z2))
    · obtain ⟨h0, h1, h2⟩ := h'.2.1 m (by omega)
      exact ⟨by rw [far _ (by omega) (by omega) (by omega)]; exact h0, by rw [far _ (by omega) (by omega) (by omega)]; exact h1, by rw [far _ (by omega) (by omega) (by omega)]; exact h2⟩
  · rw [far _ (by omega) (by omega) (by omega), far _ (by omega) (by omega) (by omega), far _ (by omega) (by omega) (by omega)]
    exact h'.2.2.1 m (by omega) hm2
  · rw [World.frozen?_setCell, World.frozen?_setCell, World.frozen?_setCell]; exact h'.2.2.2 o
/-- A new row of which the first k selectors have been laid. -/
def LaySS (w : World) (g : Nat) (l : List (List PD)) (k : Nat) : Prop :=
  g < w.heap.size ∧ (∀ i, i < k → ∃ ga, g < ga ∧ w.cell? ⟨g, i, none⟩ = some (.slice (some ⟨ga, 0, none⟩) (selAt l i).length (selAt l i).length) ∧ LayPs w ga (selAt l i) (selAt l i).length) ∧
    (∀ i, k ≤ i → i < l.length → w.cell? ⟨g, i, none⟩ = some (.slice none 0 0)) ∧ ∀ o, w.frozen? ⟨g, o, none⟩ = false
theorem LaySS.from {B : Nat} {w w' : World} {g k : Nat} {l : List (List PD)} (h : LaySS w g l k) (q : From B w w') (hg : B ≤ g) : LaySS w' g l k := by
  have C := fun o => q.cell hg h.1 o
  refine ⟨Nat.lt_of_lt_of_le h.1 q.1, fun i hi => ?_, fun i hi hj => (C _).trans (h.2.2.1 i hi hj), fun o => (q.frozen hg h.1 o).trans (h.2.2.2 o)⟩
  obtain ⟨ga, hga, h1, h2⟩ := h.2.1 i hi
  exact ⟨ga, hga, (C _).trans h1, h2.from q (by omega)⟩
theorem LaySS.selss {w : World} {g : Nat} {l : List (List PD)} (h : LaySS w g l l.length) : Selss w (some ⟨g, 0, none⟩) l :=
  Or.inr ⟨g, 0, rfl, h.1, fun i hi => by
    obtain ⟨ga, hga, h1, h2⟩ := h.2.1 i hi
    exact ⟨_, _, by rw [Nat.zero_add]; exact h1, Nat.le_refl _, h2.parts⟩⟩
theorem LaySS.step {w w' : World} {g k ga : Nat} {l : List (List PD)} (h : LaySS w g l k) (q : Nw w w') (hk : k < l.length) (hg : w.heap.size ≤ ga) (hp : LayPs w' ga (selAt l k) (selAt l k).length) :
    LaySS (w'.setCell ⟨g, k, none⟩ (.slice (some ⟨ga, 0, none⟩) (selAt l k).length (selAt l k).length)) g l (k + 1) := by
  have hga : g < ga := Nat.lt_of_lt_of_le h.1 hg
  have h' := h.from (B := 0) (From.nw q) (Nat.zero_le _)
  have z0 := h'.2.2.1 k (Nat.le_refl _) hk
  have kf : ∀ B, g < B → From B w' (w'.setCell ⟨g, k, none⟩ (.slice (some ⟨ga, 0, none⟩) (selAt l k).length (selAt l k).length)) := fun B hB => From.set w' hB _ _
  refine ⟨by simpa [World.setCell] using h'.1, fun m hm => ?_, fun m hm1 hm2 => ?_, fun o => by rw [World.frozen?_setCell]; exact h'.2.2.2 o⟩
  · by_cases e : m = k
    · subst e
      exact ⟨ga, hga, World.cell?_setCell_same w' ⟨g, m, none⟩ _ z0, hp.from (kf ga hga) (Nat.le_refl _)⟩
    · obtain ⟨gb, hgb, h1, h2⟩ := h'.2.1 m (by omega)
      exact ⟨gb, hgb, (World.cell?_setCell_other _ _ _ _ (fun h => by injection h; omega)).trans h1, h2.from (kf gb hgb) (Nat.le_refl _)⟩
  · exact (World.cell?_setCell_other _ _ _ _ (fun h => by injection h; omega)).trans (h'.2.2.1 m (by omega) hm2)
/-- A new row of which the first k rules have been laid. -/
def LayRs (w : World) (g : Nat) (l : List RD) (k : Nat) : Prop :=
  g < w.heap.size ∧ (∀ i, i < k → ∃ ga gb, g < ga ∧ g < gb ∧ w.cell? ⟨g, i * 2, none⟩ = some (.slice (some ⟨ga, 0, none⟩) (ruleAt l i).sels.length (ruleAt l i).sels.length) ∧ LaySS w ga (ruleAt l i).sels (ruleAt l i).sels.length ∧
      w.cell? ⟨g, i * 2 + 1, none⟩ = some (.slice (some ⟨gb, 0, none⟩) (ruleAt l i).decls.length (ruleAt l i).decls.length) ∧ LayDs w gb (ruleAt l i).decls (ruleAt l i).decls.length) ∧
    (∀ i, k ≤ i → i < l.length → w.cell? ⟨g, i * 2, none⟩ = some (.slice none 0 0) ∧ w.cell? ⟨g, i * 2 + 1, none⟩ = some (.slice none 0 0)) ∧ ∀ o, w.frozen? ⟨g, o, none⟩ = false
theorem LayRs.from {B : Nat} {w w' : World} {g k : Nat} {l : List RD} (h : LayRs w g l k) (q : From B w w') (hg : B ≤ g) : LayRs w' g l k := by
  have C := fun o => q.cell hg h.1 o
  refine ⟨Nat.lt_of_lt_of_le h.1 q.1, fun i hi => ?_, fun i hi hj => ⟨(C _).trans (h.2.2.1 i hi hj).1, (C _).trans (h.2.2.1 i hi hj).2⟩, fun o => (q.frozen hg h.1 o).trans (h.2.2.2 o)⟩
  obtain ⟨ga, gb, a1, a2, h1, h2, h3, h4⟩ := h.2.1 i hi
  exact ⟨ga, gb, a1, a2, (C _).trans h1, h2.from q (by omega), (C _).trans h3, h4.from q (by omega)⟩
theorem LayRs.rules {w : World} {g : Nat} {l : List RD} (h : LayRs w g l l.length) : Rules w (some ⟨g, 0, none⟩) l :=
  Or.inr ⟨g, 0, rfl, h.1, fun i hi => by
    obtain ⟨ga, gb, a1, a2, h1, h2, h3, h4⟩ := h.2.1 i hi
    exact ⟨⟨_, _, by rw [Nat.zero_add]; exact h1, Nat.le_refl _, h2.selss⟩, ⟨_, _, by rw [Nat.zero_add]; exact h3, Nat.le_refl _, h4.decls⟩⟩⟩
theorem LayRs.step {w w' : World} {g k ga gb : Nat} {l : List RD} (h : LayRs w g l k) (q : Nw w w') (hk : k < l.length) (ha : w.heap.size ≤ ga) (hb : w.heap.size ≤ gb) (hs : LaySS w' ga (ruleAt l k).sels (ruleAt l k).sels.length) (hd : LayDs w' gb (ruleAt l k).decls (ruleAt l k).decls.length) :
    LayRs ((w'.setCell ⟨g, k * 2, none⟩ (.slice (some ⟨ga, 0, none⟩) (ruleAt l k).sels.length (ruleAt l k).sels.length)).setCell ⟨g, k * 2 + 1, none⟩ (.slice (some ⟨gb, 0, none⟩) (ruleAt l k).decls.length (ruleAt l k).decls.length)) g l (k + 1) := by
  have hga : g < ga := Nat.lt_of_lt_of_le h.1 ha
  have hgb : g < gb := Nat.lt_of_lt_of_le h.1 hb
  have h' := h.from (B := 0) (From.nw q) (Nat.zero_le _)
  obtain ⟨z0, z1⟩ := h'.2.2.1 k (Nat.le_refl _) hk
  have kf : ∀ B, g < B → From B w' ((w'.setCell ⟨g, k * 2, none⟩ (.slice (some ⟨ga, 0, none⟩) (ruleAt l k).sels.length (ruleAt l k).sels.length)).setCell ⟨g, k * 2 + 1, none⟩ (.slice (some ⟨gb, 0, none⟩) (ruleAt l k).decls.length (ruleAt l k).decls.length)) := fun B hB => (From.set w' hB _ _).trans (From.set _ hB _ _)
  have far : ∀ o, o ≠ k * 2 → o ≠ k * 2 + 1 → ((w'.setCell ⟨g, k * 2, none⟩ (.slice (some ⟨ga, 0, none⟩) (ruleAt l k).sels.length (ruleAt l k).sels.length)).setCell ⟨g, k * 2 + 1, none⟩ (.slice (some ⟨gb, 0, none⟩) (ruleAt l k).decls.length (ruleAt l k).decls.length)).cell? ⟨g, o, none⟩ = w'.cell? ⟨g, o, none⟩ := by
    intro o a b
    rw [World.cell?_setCell_other _ _ _ _ (fun h => by injection h; omega), World.cell?_setCell_other _ _ _ _ (fun h => by injection h; omega)]
  refine ⟨by simpa [World.setCell] using h'.1, fun m hm => ?_, fun m hm1 hm2 => ?_, fun o => by rw [World.frozen?_setCell, World.frozen?_setCell]; exact h'.2.2.2 o⟩
  · by_cases e : m = k
    · subst e
      refine ⟨ga, gb, hga, hgb, ?_, hs.from (kf ga hga) (Nat.le_refl _), ?_, hd.from (kf gb hgb) (Nat.le_refl _)⟩
      · rw [World.cell?_setCell_other _ _ _ _ (fun h => by injection h; omega)]
        exact World.cell?_setCell_same w' ⟨g, m * 2, none⟩ _ z0
      · exact World.cell?_setCell_same _ ⟨g, m * 2 + 1, none⟩ _ ((World.cell?_setCell_other _ _ _ _ (fun h => by injection h; omega)).trans z1)
    · obtain ⟨g1, g2, a1, a2, h1, h2, h3, h4⟩ := h'.2.1 m (by omega)
      exact ⟨g1, g2, a1, a2, by rw [far _ (by omega) (by omega)]; exact h1, h2.from (kf g1 a1) (Nat.le_refl _), by rw [far _ (by omega) (by omega)]; exact h3, h4.from (kf g2 a2) (Nat.le_refl _)⟩
  · rw [far _ (by omega) (by omega), far _ (by omega) (by omega)]
    exact h'.2.2.1 m (by omega) hm2
theorem LayDs.start (w : World) (l : List DD) (t : TypeId) : LayDs (w.alloc (.cells (madeCells #[.string ⟨#[]⟩, .string ⟨#[]⟩, .bool false] (l.length * 3)) t)) w.heap.size l 0 := by
  refine ⟨by simp, fun i hi => absurd hi (by omega), fun i _ hi => ⟨?_, ?_, ?_⟩, fun o => World.frozen?_alloc_at _ _ _ _ rfl⟩
  · have := madeCells_get #[.string ⟨#[]⟩, .string ⟨#[]⟩, .bool false] (l.length * 3) (i * 3) (by omega)
    simp at this
    simp [this]
  · have := madeCells_get #[.string ⟨#[]⟩, .string ⟨#[]⟩, .bool false] (l.length * 3) (i * 3 + 1) (by omega)
    have e : (i * 3 + 1) % 3 = 1 := by omega
    simp [e] at this
    simp [this]
  · have := madeCells_get #[.string ⟨#[]⟩, .string ⟨#[]⟩, .bool false] (l.length * 3) (i * 3 + 2) (by omega)
    have e : (i * 3 + 2) % 3 = 2 := by omega
    simp [e] at this
    simp [this]
theorem LaySS.start (w : World) (l : List (List PD)) (t : TypeId) : LaySS (w.alloc (.cells (madeCells #[.slice none 0 0] l.length) t)) w.heap.size l 0 := by
  refine ⟨by simp, fun i hi => absurd hi (by omega), fun i _ hi => ?_, fun o => World.frozen?_alloc_at _ _ _ _ rfl⟩
  have := madeCells_get #[.slice none 0 0] l.length i (by omega)
  have e : i % 1 = 0 := by omega
  simp [e] at this
  simp [this]
theorem LayRs.start (w : World) (l : List RD) (t : TypeId) : LayRs (w.alloc (.cells (madeCells #[.slice none 0 0, .slice none 0 0] (l.length * 2)) t)) w.heap.size l 0 := by
  refine ⟨by simp, fun i hi => absurd hi (by omega), fun i _ hi => ⟨?_, ?_⟩, fun o => World.frozen?_alloc_at _ _ _ _ rfl⟩
  · have := madeCells_get #[.slice none 0 0, .slice none 0 0] (l.length * 2) (i * 2) (by omega)
    simp at this
    simp [this]
  · have := madeCells_get #[.slice none 0 0, .slice none 0 0] (l.length * 2) (i * 2 + 1) (by omega)
    have e : (i * 2 + 1) % 2 = 1 := by omega
    simp [e] at this
    simp [this]
end Go.Proofs.YtnkmdmmlpidcmaaDoor
