/-
  Rows of declarations, and what the laws' helpers do with them; each theorem names its conditions.
  Marks laid into rows of declarations and looked for; each theorem names its conditions.
  Rows of selectors and of rules, and what the laws' helpers that hold two against each other do; each theorem names its conditions.
  Declarations read by the program; each theorem names its conditions.
-/
import Derived.Test.YtnkmdmmlpidcmaaGreatDoorJAK
import Derived.Test.YtnkmdmmlpidcmaaGreatDoorJAD
import Derived.Test.YtnkmdmmlpidcmaaGreatDoorJAF
import Derived.WalkMore
import Derived.ScopeJumps
namespace Go.Proofs.YtnkmdmmlpidcmaaGreatDoor
open Go.ChangeShapes Go.WideShapes Go.ChangeAt Go.RowKit
set_option linter.unusedVariables false

def EDecl : Els DD := fun _ cs d _ => cs = [.string d.nm, .string d.vl, .bool d.im]
theorem EDecl.kept : KeptE EDecl := fun w w' cs x F G h _ _ => h
theorem Tryz.info36 : (Tryz.prog.info? 36).map (fun i => (i.zero, i.size, i.bytes)) = some (some (.agg #[.string ⟨#[]⟩, .string ⟨#[]⟩, .bool false]), 3, 40) := by kernel_rfl
def declAt (l : List DD) (i : Nat) : DD := l.getD i noDD
/-- The declarations l lie at a. -/
def Decls (w : World) (a : Option Addr) (l : List DD) : Prop :=
  l = [] ∨ ∃ b, a = some ⟨b, 0, none⟩ ∧ b < w.heap.size ∧ ∀ i, i < l.length → w.cell? ⟨b, i * 3, none⟩ = some (.string (declAt l i).nm) ∧ w.cell? ⟨b, i * 3 + 1, none⟩ = some (.string (declAt l i).vl) ∧ w.cell? ⟨b, i * 3 + 2, none⟩ = some (.bool (declAt l i).im)
theorem Decls.nw {w w' : World} {a : Option Addr} {l : List DD} (h : Decls w a l) (k : Nw w w') : Decls w' a l := by
  rcases h with h | ⟨b, rfl, hb, hc⟩
  · exact Or.inl h
  · refine Or.inr ⟨b, rfl, Nat.lt_of_lt_of_le hb (Below.size k), fun i hi => ?_⟩
    obtain ⟨h0, h1, h2⟩ := hc i hi
    exact ⟨((bcell k).1 _ _ hb).trans h0, ((bcell k).1 _ _ hb).trans h1, ((bcell k).1 _ _ hb).trans h2⟩
theorem RowM.decls {w : World} {v : Value} {l : List DD} {F : Nat → Prop} (h : RowM 3 EDecl w v l F) : ∃ a c, v = .slice a l.length c ∧ l.length ≤ c ∧ Decls w a l := by
  rcases h with ⟨h1, h2⟩ | ⟨g, c, els, h1, h2, h3, h4⟩
  · exact ⟨none, 0, by rw [h2]; exact h1, by rw [h2]; exact Nat.le_refl _, Or.inl h2⟩
  · refine ⟨_, c, h1, h2, Or.inr ⟨g, rfl, h4.lt, fun i hi => ?_⟩⟩
    obtain ⟨e, he, hx⟩ := el_at h3 i hi noDD
    have hc := (h4.el e (List.mem_of_getElem? he)).1
    have c0 := h4.cell i e he 0 (.string e.x.nm) (by rw [hc]; rfl)
    have c1 := h4.cell i e he 1 (.string e.x.vl) (by rw [hc]; rfl)
    have c2 := h4.cell i e he 2 (.bool e.x.im) (by rw [hc]; rfl)
    have hp : declAt l i = e.x := hx.symm
    rw [hp]
    exact ⟨c0, c1, c2⟩
theorem eqDecl_any (w : World) (n : DD) : Calls Tryz.prog 116 #[.agg #[.string n.nm, .string n.vl, .bool n.im], .agg #[.string n.nm, .string n.vl, .bool n.im]] w fun e w' => e = .returned (.bool true) ∧ Nw w w' := by
  obtain ⟨nm, vl, im⟩ := n
  simp only
  go_enter Tryz.func116, Tryz.ntmps116
  go_wp2
  go_ret
  exact ⟨rfl, ((Below.refl _ _).alloc (Nat.le_refl _) _).alloc (by simp) _⟩
set_option maxHeartbeats 4000000 in
theorem eqDeclS_any (w : World) (a1 a2 : Option Addr) (c1 c2 : Nat) (l : List DD) (hl : l.length ≤ 1048576) (h1 : Decls w a1 l) (h2 : Decls w a2 l) :
    Calls Tryz.prog 84 #[.slice a1 l.length c1, .slice a2 l.length c2] w fun e w' => e = .returned (.bool true) ∧ Nw w w' := by
  have H1 : Hid (Decls w a1 l) := h1
  have H2 : Hid (Decls w a2 l) := h2
  clear h1 h2
  go_enter Tryz.func84, Tryz.ntmps84
  go_wp2
  go_loopw [5] (fun i wr => ∃ k : Nat, k ≤ l.length ∧ i = .int .i64 k ∧ Nw w wr) (fun i _ => l.length - (intOf i).toNat)
  case atStart => exact ⟨0, Nat.zero_le _, rfl, Below.refl _ _⟩
  case round =>
    obtain ⟨k, hk, rfl, hw⟩ := hrel
    by_cases hlt : k < l.length
    · rcases (H1.out.nw hw) with h | ⟨b1, rfl, hb1, hc1⟩
      · rw [h] at hlt; simp at hlt
      rcases (H2.out.nw hw) with h | ⟨b2, rfl, hb2, hc2⟩
      · rw [h] at hlt; simp at hlt
      obtain ⟨q0, q1, q2⟩ := hc1 k hlt
      obtain ⟨r0, r1, r2⟩ := hc2 k hlt
      clear hc1 hc2 H1 H2
      have HW : Hid (Nw w wr) := hw
      clear hw
      generalize declAt l k = d at *
      go_wp2
      go_region_with (go_at_call 116; refine Calls.mono (eqDecl_any _ d) ?_; rintro e w' ⟨rfl, k1⟩)
      all_goals
        go_wp2
        go_roundw
        case rel => exact ⟨k + 1, by omega, by go_num, HW.out.trans k1.drw⟩
        case measure => simp [intOf]; omega
    · have HW : Hid (Nw w wr) := hw
      clear hw
      go_wp2
      go_ret
      exact ⟨rfl, HW.out⟩
end Go.Proofs.YtnkmdmmlpidcmaaGreatDoor
namespace Go.Proofs.YtnkmdmmlpidcmaaGreatDoor
open Go.ChangeShapes Go.WideShapes Go.ChangeAt Go.RowKit
set_option linter.unusedVariables false

def mkD (K : Nat) : DD := ⟨markT K, markT (K + 1), decide ((K + 2) % 3 = 0)⟩
def mkDs (K n : Nat) : List DD := (List.range n).map fun i => mkD (K + 3 * i)
theorem mkDs_len (K n : Nat) : (mkDs K n).length = n := by simp [mkDs]
theorem mkDs_at (K n j : Nat) (h : j < n) : (mkDs K n)[j]? = some (mkD (K + 3 * j)) := by simp [mkDs, h]
theorem setd_far {w : World} {g i j : Nat} {u : Value} (h : i ≠ j) : (w.setCell ⟨g, i, none⟩ u).cell? ⟨g, j, none⟩ = w.cell? ⟨g, j, none⟩ := World.cell?_setCell_other _ _ _ _ (fun e => by injection e; omega)
theorem mod3 (X : Nat) : ((((X : Nat) : Int) + 1 + 1) % 3 == 0) = decide ((X + 2) % 3 = 0) := by
  rw [Bool.eq_iff_iff, beq_iff_eq, decide_eq_true_eq]
  omega
set_option maxHeartbeats 4000000 in
theorem markDl_any (w : World) (v : Value) (K : Nat) (l : List DD) (F : Nat → Prop) (hK : 1 ≤ K) (hK2 : K + 3 * l.length ≤ 1000000) (h : RowM 3 EDecl w v l F) :
    Calls Tryz.prog 45 #[v, .int .i64 (K : Int)] w fun e w' => e = .returned (.int .i64 ((K + 3 * l.length : Nat) : Int)) ∧ Wr F w w' ∧ RowM 3 EDecl w' v (mkDs K l.length) F := by
  rcases h with ⟨rfl, rfl⟩ | ⟨g, c, els, rfl, hc, hx, hA⟩
  · go_enter Tryz.func45, Tryz.ntmps45
    go_wp2
    go_loopw [1, 5] (fun x i wr => x = .int .i64 (K : Int) ∧ i = .int .i64 0 ∧ wr = w) (fun _ _ _ => 0)
    case atStart => exact ⟨rfl, rfl, rfl⟩
    case round =>
      obtain ⟨rfl, rfl, rfl⟩ := hrel
      go_wp2
      go_ret
      exact ⟨rfl, Wr.refl _ _, Or.inl ⟨rfl, rfl⟩⟩
  · have HA : Hid (RowA 3 EDecl w g els F) := hA
    have HX : Hid (els.map El.x = l) := hx
    clear hA hx
    have HC : Hid (l.length ≤ c) := hc
    go_enter Tryz.func45, Tryz.ntmps45
    go_wp2
    go_loopw [1, 5] (fun x i wr => ∃ (j : Nat) (es : List (El DD)), j ≤ l.length ∧ i = .int .i64 j ∧ x = .int .i64 ((K + 3 * j : Nat) : Int) ∧ Wr F w wr ∧ es.map El.x = (mkDs K l.length).take j ++ l.drop j ∧ RowA 3 EDecl wr g es F) (fun _ i _ => l.length - (intOf i).toNat)
    case atStart => exact ⟨0, els, Nat.zero_le _, rfl, rfl, Wr.refl _ _, HX.out, HA.out⟩
    case round =>
      obtain ⟨j, es, hj, rfl, rfl, hw, he, hA⟩ := hrel
      have HW : Hid (Wr F w wr) := hw
      have HE : Hid (es.map El.x = (mkDs K l.length).take j ++ l.drop j) := he
      by_cases hlt : j < l.length
      · obtain ⟨e, hje, hex⟩ := el_at he j (by rw [List.length_append, List.length_take, List.length_drop, mkDs_len]; omega) noDD
        obtain ⟨hcs, hlen, hFe⟩ := hA.el e (List.mem_of_getElem? hje)
        have c0 := hA.cell j e hje 0 (.string e.x.nm) (by rw [hcs]; rfl)
        have c1 := hA.cell j e hje 1 (.string e.x.vl) (by rw [hcs]; rfl)
        have c2 := hA.cell j e hje 2 (.bool e.x.im) (by rw [hcs]; rfl)
        have HMK : Hid ((mkDs K l.length)[j]? = some (mkD (K + 3 * j))) := mkDs_at K l.length j hlt
        have hg := hA.lt
        have hfz := hA.fz
        rw [Nat.add_zero] at c0
        have HRA : Hid (RowA 3 EDecl wr g es F) := hA
        have HJE : Hid (es[j]? = some e) := hje
        have HFE : Hid (∀ b, e.F b → F b ∧ b ≠ g) := hFe
        have HIF : Hid (F g) := hA.inF
        have HSM : Hid _ := fun x hx => set_marked (mkDs K l.length) l j x (mkDs_len K l.length) hlt hx
        have HX3 : Hid (K + 3 * (j + 1) = K + 3 * j + 3) := by show _ = _; omega
        have hXb : K + 3 * j + 3 ≤ 1000000 := by omega
        have hX1 : 1 ≤ K + 3 * j := by omega
        clear hA hje hFe hex hcs hlen he hw
        generalize K + 3 * j = X at *
        have hm3 := mod3 X
        generalize e.x.nm = en at *
        generalize e.x.vl = ev at *
        generalize e.x.im = ei at *
        go_wp2_with fail
        refine Calls.mono (markText_any _ X (by omega) (by omega)) ?_
        rintro e1 w1 ⟨rfl, k1⟩
        have hg1 : g < w1.heap.size := Nat.lt_of_lt_of_le hg (Below.size k1)
        have d0 := ((bcell k1).1 _ (j * 3) hg).trans c0
        have d1 := ((bcell k1).1 _ (j * 3 + 1) hg).trans c1
        have d2 := ((bcell k1).1 _ (j * 3 + 2) hg).trans c2
        have df : ∀ o, w1.frozen? ⟨g, o, none⟩ = false := fun o => ((bcell k1).2 _ o hg).trans (hfz o)
        have HK1 : Hid (Nw wr w1) := k1
        clear k1 c0 c1 c2
        go_wp2_with fail
        refine Calls.mono (markText_any _ (X + 1) (by omega) (by omega)) ?_
        rintro e2 w2 ⟨rfl, k2⟩
        have hgS : g < (w1.setCell ⟨g, j * 3, none⟩ (.string (markT X))).heap.size := by simpa [World.setCell] using hg1
        have hg2 : g < w2.heap.size := Nat.lt_of_lt_of_le hgS (Below.size k2)
        have f0 := ((bcell k2).1 _ (j * 3) hgS).trans (World.cell?_setCell_same w1 ⟨g, j * 3, none⟩ _ d0)
        have f1 := ((bcell k2).1 _ (j * 3 + 1) hgS).trans ((setd_far (by omega)).trans d1)
        have f2 := ((bcell k2).1 _ (j * 3 + 2) hgS).trans ((setd_far (by omega)).trans d2)
        have ff : ∀ o, w2.frozen? ⟨g, o, none⟩ = false := fun o => ((bcell k2).2 _ o hgS).trans (by rw [World.frozen?_setCell]; exact df o)
        have HK2 : Hid (Nw (w1.setCell ⟨g, j * 3, none⟩ (.string (markT X))) w2) := k2
        clear k2 d0 d1 d2 df
        have HWR : Hid (Wr (fun b => b = g ∨ e.F b) wr ((w2.setCell ⟨g, j * 3 + 1, none⟩ (.string (markT (X + 1)))).setCell ⟨g, j * 3 + 2, none⟩ (.bool (decide ((X + 2) % 3 = 0))))) := by
          have b1 : Wr (fun b => b = g ∨ e.F b) wr w1 := Wr.nw HK1.out
          have b2 := b1.set (Or.inl rfl) (j * 3) (.string (markT X))
          have b3 := b2.trans (Wr.nw HK2.out)
          have b4 := b3.set (Or.inl rfl) (j * 3 + 1) (.string (markT (X + 1)))
          exact b4.set (Or.inl rfl) (j * 3 + 2) _
        have HNX : Hid (RowA 3 EDecl ((w2.setCell ⟨g, j * 3 + 1, none⟩ (.string (markT (X + 1)))).setCell ⟨g, j * 3 + 2, none⟩ (.bool (decide ((X + 2) % 3 = 0)))) g (es.set j ⟨mkD X, [.string (markT X), .string (markT (X + 1)), .bool (decide ((X + 2) % 3 = 0))], e.F⟩) F) := by
          refine HRA.out.step EDecl.kept j e _ _ HJE.out rfl HWR.out (fun o => ?_) (fun i y hi => ?_) (fun i m him hm => ?_) rfl
          · rw [World.frozen?_setCell, World.frozen?_setCell]
            exact ff o
          · rcases (show i = 0 ∨ i = 1 ∨ i = 2 ∨ 3 ≤ i by omega) with rfl | rfl | rfl | h
            · simp at hi; subst hi; rw [setd_far (by omega), setd_far (by omega), Nat.add_zero]; exact f0
            · simp at hi; subst hi; rw [setd_far (by omega)]; exact World.cell?_setCell_same w2 ⟨g, j * 3 + 1, none⟩ _ f1
            · simp at hi; subst hi; exact World.cell?_setCell_same _ ⟨g, j * 3 + 2, none⟩ _ ((setd_far (by omega)).trans f2)
            · rw [List.getElem?_eq_none (by simpa using h)] at hi; cases hi
          · rw [setd_far (by omega), setd_far (by omega), (bcell HK2.out).1 _ _ hgS, setd_far (by omega), (bcell HK1.out).1 _ _ hg]
        have HW3 : Hid (Wr F w _) := HW.out.trans (HWR.out.mono (fun b hb => by
          rcases hb with rfl | hb
          · exact HIF.out
          · exact (HFE.out b hb).1))
        generalize decide ((X + 2) % 3 = 0) = bm at *
        go_wp2
        go_roundw
        case rel =>
          refine ⟨j + 1, _, by omega, by go_num, by rw [HX3.out]; go_num, HW3.out, ?_, HNX.out⟩
          rw [List.map_set, HE.out, HSM.out _ HMK.out]
        case measure => simp [intOf]; omega
      · have e : j = l.length := by omega
        subst e
        have HRA : Hid (RowA 3 EDecl wr g es F) := hA
        have HE2 : Hid (es.map El.x = mkDs K l.length) := by
          show _ = _
          rw [he, List.drop_length, List.append_nil, List.take_of_length_le (by rw [mkDs_len]; exact Nat.le_refl _)]
        have HLN : Hid ((mkDs K l.length).length = l.length) := mkDs_len K l.length
        clear hA he hw
        go_wp2
        go_ret
        refine ⟨rfl, HW.out, Or.inr ⟨g, c, es, ?_, ?_, HE2.out, HRA.out⟩⟩
        · rw [HLN.out]
        · rw [HLN.out]; exact HC.out
set_option maxRecDepth 100000 in
set_option maxHeartbeats 8000000 in
theorem heldDl_any (w : World) (v : Value) (K n : Nat) (F : Nat → Prop) (hK : 1 ≤ K) (hK2 : K + 3 * n ≤ 1000000) (h : RowM 3 EDecl w v (mkDs K n) F) :
    Calls Tryz.prog 47 #[v, .int .i64 (K : Int)] w fun e w' => e = .returned (.int .i64 ((K + 3 * n : Nat) : Int)) ∧ Nw w w' := by
  obtain ⟨va, vc, hv, _⟩ := h.slice
  rw [mkDs_len] at hv
  subst hv
  have HR : Hid (RowM 3 EDecl w (.slice va n vc) (mkDs K n) F) := h
  clear h
  go_enter Tryz.func47, Tryz.ntmps47
  go_wp2
  go_loopw [1, 5] (fun x i wr => ∃ (j : Nat), j ≤ n ∧ i = .int .i64 j ∧ x = .int .i64 ((K + 3 * j : Nat) : Int) ∧ Nw w wr) (fun _ i _ => n - (intOf i).toNat)
  case atStart => exact ⟨0, Nat.zero_le _, rfl, rfl, Below.refl _ _⟩
  case round =>
    obtain ⟨j, hj, rfl, rfl, hw⟩ := hrel
    have HW : Hid (Nw w wr) := hw
    by_cases hlt : j < n
    · obtain ⟨a, c, hs, _, hd⟩ := (HR.out.nw EDecl.kept hw).decls
      injection hs with hs1 hs2 hs3
      subst hs1
      clear hs2 hs3
      rcases hd with h2 | ⟨g, rfl, hg, hc⟩
      · have := mkDs_len K n; rw [h2] at this; simp at this; omega
      obtain ⟨c0, c1, c2⟩ := hc j (by rw [mkDs_len]; exact hlt)
      have hda : declAt (mkDs K n) j = mkD (K + 3 * j) := by unfold declAt; rw [List.getD_eq_getElem?_getD, mkDs_at K n j hlt]; rfl
      rw [hda] at c0 c1 c2
      have c0' : wr.cell? ⟨g, j * 3, none⟩ = some (.string (markT (K + 3 * j))) := c0
      have c1' : wr.cell? ⟨g, j * 3 + 1, none⟩ = some (.string (markT (K + 3 * j + 1))) := c1
      have c2' : wr.cell? ⟨g, j * 3 + 2, none⟩ = some (.bool (decide ((K + 3 * j + 2) % 3 = 0))) := c2
      have HX3 : Hid (K + 3 * (j + 1) = K + 3 * j + 3) := by show _ = _; omega
      have hXb : K + 3 * j + 3 ≤ 1000000 := by omega
      have hX1 : 1 ≤ K + 3 * j := by omega
      clear hc hw hda c0 c1 c2
      generalize K + 3 * j = X at *
      have HM3 : Hid _ := mod3 X
      generalize decide ((X + 2) % 3 = 0) = bm at *
      have hgd : g < wr.drew.heap.size := hg
      have C0 : wr.drew.cell? ⟨g, j * 3, none⟩ = some (.string (markT X)) := c0'
      go_wp2
      go_region_with (go_at_call 55; refine Calls.mono (markText_any _ X (by omega) (by omega)) ?_; rintro e1 w1 ⟨rfl, k1⟩; have d0 := ((bcell k1).1 _ (j * 3) hgd).trans C0)
      all_goals
        have HK1 : Hid (Nw wr w1) := k1.drw
        have hg1 : g < w1.heap.size := Nat.lt_of_lt_of_le hg (Below.size HK1.out)
        have d1 := ((bcell HK1.out).1 _ (j * 3 + 1) hg).trans c1'
        have d2 := ((bcell HK1.out).1 _ (j * 3 + 2) hg).trans c2'
        have hgd1 : g < w1.drew.heap.size := hg1
        have D1 : w1.drew.cell? ⟨g, j * 3 + 1, none⟩ = some (.string (markT (X + 1))) := d1
        clear C0 c0' c1' c2'
        go_wp2
        go_region_with (go_at_call 55; refine Calls.mono (markText_any _ (X + 1) (by omega) (by omega)) ?_; rintro e2 w2 ⟨rfl, k2⟩; have f1 := ((bcell k2).1 _ (j * 3 + 1) hgd1).trans D1)
        all_goals
          have HK2 : Hid (Nw wr w2) := Nw.trans HK1.out k2.drw
          have hg2 : g < w2.heap.size := Nat.lt_of_lt_of_le hg (Below.size HK2.out)
          have f2 := ((bcell (Nw.drw k2)).1 _ (j * 3 + 2) hg1).trans d2
          have HN2 : Hid (Nw w w2) := Nw.trans HW.out HK2.out
          clear D1 d1 d2
          have hm3 := HM3.out
          go_wp2
          go_roundw
          case rel => exact ⟨j + 1, by omega, by go_num, by rw [HX3.out]; go_num, HN2.out⟩
          case measure => simp [intOf]; omega
    · have e : j = n := by omega
      subst e
      clear hw
      go_wp2
      go_ret
      exact ⟨rfl, HW.out⟩
end Go.Proofs.YtnkmdmmlpidcmaaGreatDoor
namespace Go.Proofs.YtnkmdmmlpidcmaaGreatDoor
open Go.ChangeShapes Go.WideShapes Go.ChangeAt Go.RowKit
set_option linter.unusedVariables false

/-- A rule. -/
structure RD where
  sels : List (List PD)
  decls : List DD
def noRD : RD := ⟨[], []⟩
def ESel : Els (List PD) := fun w cs l F => ∃ v, cs = [v] ∧ RowM 3 EPart w v l F
theorem ESel.kept : KeptE ESel := fun w w' cs x F G ⟨u, h1, h2⟩ k d => ⟨u, h1, h2.kept EPart.kept k d⟩
def ERule : Els RD := fun w cs r F => ∃ v1 v2 F1 F2, cs = [v1, v2] ∧ RowM 1 ESel w v1 r.sels F1 ∧ RowM 3 EDecl w v2 r.decls F2 ∧ (∀ b, F1 b → F b) ∧ (∀ b, F2 b → F b) ∧ disj F1 F2
theorem ERule.kept : KeptE ERule := fun w w' cs x F G ⟨v1, v2, F1, F2, h1, h2, h3, h4, h5, h6⟩ k d => ⟨v1, v2, F1, F2, h1, h2.kept ESel.kept k (fun b hb => d b (h4 b hb)), h3.kept EDecl.kept k (fun b hb => d b (h5 b hb)), h4, h5, h6⟩
theorem info_sel : (Tryz.prog.info? 34).map (fun i => (i.zero, i.size, i.bytes)) = some (some (.slice none 0 0), 1, 24) := by kernel_rfl
theorem info_rule : (Tryz.prog.info? 32).map (fun i => (i.zero, i.size, i.bytes)) = some (some (.agg #[.slice none 0 0, .slice none 0 0]), 2, 48) := by kernel_rfl
/-- What lies in an element is written, its cells stay. -/
theorem RowA.inner {n : Nat} {α : Type} {E : Els α} (hE : KeptE E) {w w' : World} {g : Nat} {els : List (El α)} {F : Nat → Prop} (h : RowA n E w g els F) (k : Nat) (e : El α) (x' : α) (hk : els[k]? = some e)
    (hw : Wr e.F w w') (hx : E w' e.cs x' e.F) : RowA n E w' g (els.set k ⟨x', e.cs, e.F⟩) F := by
  have hm : e ∈ els := List.mem_of_getElem? hk
  have hb := hw.block g h.lt (fun hb => ((h.el e hm).2.2 g hb).2 rfl)
  have cc : ∀ o, w'.cell? ⟨g, o, none⟩ = w.cell? ⟨g, o, none⟩ := fun o => World.cell?_of_block (w := w) (a := ⟨g, o, none⟩) hb
  exact h.step hE k e x' e.cs hk (h.el e hm).2.1 (hw.mono (fun b hb => Or.inr hb)) (fun o => by rw [World.frozen?_of_block (w := w) (a := ⟨g, o, none⟩) hb]; exact h.fz o) (fun j u hj => by rw [cc]; exact h.cell k e hk j u hj) (fun i j _ _ => cc _) hx
/-! ### Held against each other -/
def selAt (l : List (List PD)) (i : Nat) : List PD := l.getD i []
def lenSS (l : List (List PD)) : Prop := ∀ i, i < l.length → (selAt l i).length ≤ 1048576 ∧ lenPs (selAt l i)
theorem RowM.selAt {w : World} {v : Value} {l : List (List PD)} {F : Nat → Prop} (h : RowM 1 ESel w v l F) {k : Nat} (hk : k < l.length) : ∃ g c a n, v = .slice (some ⟨g, 0, none⟩) l.length c ∧ g < w.heap.size ∧ w.cell? ⟨g, k, none⟩ = some (.slice a (selAt l k).length n) ∧ Parts w a (selAt l k) := by
  rcases h with ⟨_, h2⟩ | ⟨g, c, els, h1, h2, h3, h4⟩
  · rw [h2] at hk; simp at hk
  · obtain ⟨e, he, hx⟩ := el_at h3 k hk []
    obtain ⟨u, hcs, hu⟩ := (h4.el e (List.mem_of_getElem? he)).1
    obtain ⟨a, n, hv, _, hp⟩ := hu.parts
    have c0 := h4.cell k e he 0 u (by rw [hcs]; rfl)
    have ex : e.x = Go.Proofs.YtnkmdmmlpidcmaaGreatDoor.selAt l k := hx
    rw [hv, ex] at c0
    rw [ex] at hp
    exact ⟨g, c, a, n, h1, h4.lt, by simpa using c0, hp⟩
set_option maxHeartbeats 4000000 in
theorem eqSS_any (w : World) (v1 v2 : Value) (l : List (List PD)) (F1 F2 : Nat → Prop) (hl : l.length ≤ 1048576) (hla : lenSS l) (h1 : RowM 1 ESel w v1 l F1) (h2 : RowM 1 ESel w v2 l F2) :
    Calls Tryz.prog 83 #[v1, v2] w fun e w' => e = .returned (.bool true) ∧ Nw w w' := by
  obtain ⟨a1, c1, rfl, _⟩ := h1.slice
  obtain ⟨a2, c2, rfl, _⟩ := h2.slice
  have H1 : Hid (RowM 1 ESel w (.slice a1 l.length c1) l F1) := h1
  have H2 : Hid (RowM 1 ESel w (.slice a2 l.length c2) l F2) := h2
  have HLA : Hid (lenSS l) := hla
  clear h1 h2 hla
  go_enter Tryz.func83, Tryz.ntmps83
  go_wp2
  go_loopw [5] (fun i wr => ∃ k : Nat, k ≤ l.length ∧ i = .int .i64 k ∧ Nw w wr) (fun i _ => l.length - (intOf i).toNat)
  case atStart => exact ⟨0, Nat.zero_le _, rfl, Below.refl _ _⟩
  case round =>
    obtain ⟨k, hk, rfl, hw⟩ := hrel
    by_cases hlt : k < l.length
    · obtain ⟨g1, d1, p1, n1, e1, hb1, q1, r1⟩ := (H1.out.nw ESel.kept hw).selAt hlt
      obtain ⟨g2, d2, p2, n2, e2, hb2, q2, r2⟩ := (H2.out.nw ESel.kept hw).selAt hlt
      injection e1 with e1 e1b e1c
      injection e2 with e2 e2b e2c
      clear e1b e1c e2b e2c
      subst e1 e2
      obtain ⟨hs1, hs2⟩ := HLA.out k hlt
      have Q4 : Hid (Parts wr.drew p1 (selAt l k)) := r1.nw ((Below.refl _ _).drew)
      have R4 : Hid (Parts wr.drew p2 (selAt l k)) := r2.nw ((Below.refl _ _).drew)
      have HL2 : Hid (lenPs (selAt l k)) := hs2
      have HW : Hid (Nw w wr) := hw
      clear r1 r2 hs2 hw H1 H2
      go_wp2
      go_region_with (go_at_call 115; refine Calls.mono (eqPartS_any _ p1 p2 n1 n2 (selAt l k) hs1 HL2.out Q4.out R4.out) ?_; rintro e w' ⟨rfl, k1⟩)
      all_goals
        go_wp2
        go_roundw
        case rel => exact ⟨k + 1, by omega, by go_num, HW.out.trans k1.drw⟩
        case measure => simp [intOf]; omega
    · have HW : Hid (Nw w wr) := hw
      clear hw
      go_wp2
      go_ret
      exact ⟨rfl, HW.out⟩
def ruleAt (l : List RD) (i : Nat) : RD := l.getD i noRD
structure lenR (r : RD) : Prop where
  s1 : r.sels.length ≤ 1048576
  s2 : lenSS r.sels
  s3 : r.decls.length ≤ 1048576
def lenRs (l : List RD) : Prop := ∀ i, i < l.length → lenR (ruleAt l i)
theorem eqRule_any (w : World) (u1 v1 u2 v2 : Value) (r : RD) (F1 F2 G1 G2 : Nat → Prop) (hl : lenR r) (h1 : RowM 1 ESel w u1 r.sels F1) (h2 : RowM 1 ESel w u2 r.sels F2) (h3 : RowM 3 EDecl w v1 r.decls G1) (h4 : RowM 3 EDecl w v2 r.decls G2) :
    Calls Tryz.prog 43 #[.agg #[u1, v1], .agg #[u2, v2]] w fun e w' => e = .returned (.bool true) ∧ Nw w w' := by
  obtain ⟨s1, s2, s3⟩ := hl
  have HS2 : Hid (lenSS r.sels) := s2
  clear s2
  have HB : ∀ o1 o2, Hid (Nw w ((w.alloc o1).alloc o2)) := fun o1 o2 => ((Below.refl _ _).alloc (Nat.le_refl _) _).alloc (by simp) _
  have H1 : Hid (RowM 1 ESel w u1 r.sels F1) := h1
  have H2 : Hid (RowM 1 ESel w u2 r.sels F2) := h2
  have H3 : Hid (RowM 3 EDecl w v1 r.decls G1) := h3
  have H4 : Hid (RowM 3 EDecl w v2 r.decls G2) := h4
  obtain ⟨a1, c1, rfl, _⟩ := h1.slice
  obtain ⟨a2, c2, rfl, _⟩ := h2.slice
  obtain ⟨b1, d1, rfl, _⟩ := h3.slice
  obtain ⟨b2, d2, rfl, _⟩ := h4.slice
  clear h1 h2 h3 h4
  go_enter Tryz.func43, Tryz.ntmps43
  go_wp2_with fail
  refine Calls.mono (eqSS_any _ _ _ r.sels F1 F2 s1 HS2.out (H1.out.nw ESel.kept (HB _ _).out) (H2.out.nw ESel.kept (HB _ _).out)) ?_
  rintro e w1 ⟨rfl, k1⟩
  obtain ⟨hc, hf⟩ := bcell k1
  have HN1 : Hid (Nw w w1) := Nw.trans (HB _ _).out k1
  obtain ⟨e1, f1, g1, _, i1⟩ := (H3.out.nw EDecl.kept HN1.out).decls
  obtain ⟨e2, f2, g2, _, i2⟩ := (H4.out.nw EDecl.kept HN1.out).decls
  injection g1 with g1 g1b g1c
  injection g2 with g2 g2b g2c
  clear g1b g1c g2b g2c
  subst g1 g2
  have I1 : Hid (Decls w1 b1 r.decls) := i1
  have I2 : Hid (Decls w1 b2 r.decls) := i2
  clear i1 i2 k1
  go_wp2_with fail
  refine Calls.mono (eqDeclS_any _ b1 b2 d1 d2 r.decls s3 I1.out I2.out) ?_
  rintro e w2 ⟨rfl, k2⟩
  go_wp2
  go_ret
  exact ⟨rfl, Nw.trans HN1.out k2⟩
theorem RowM.ruleAt {w : World} {v : Value} {l : List RD} {F : Nat → Prop} (h : RowM 2 ERule w v l F) {k : Nat} (hk : k < l.length) : ∃ g c u1 u2 F1 F2, v = .slice (some ⟨g, 0, none⟩) l.length c ∧ g < w.heap.size ∧ w.cell? ⟨g, k * 2, none⟩ = some u1 ∧ w.cell? ⟨g, k * 2 + 1, none⟩ = some u2 ∧ RowM 1 ESel w u1 (ruleAt l k).sels F1 ∧ RowM 3 EDecl w u2 (ruleAt l k).decls F2 := by
  rcases h with ⟨_, h2⟩ | ⟨g, c, els, h1, h2, h3, h4⟩
  · rw [h2] at hk; simp at hk
  · obtain ⟨e, he, hx⟩ := el_at h3 k hk noRD
    obtain ⟨u1, u2, F1, F2, hcs, hu1, hu2, _, _, _⟩ := (h4.el e (List.mem_of_getElem? he)).1
    have c0 := h4.cell k e he 0 u1 (by rw [hcs]; rfl)
    have c1 := h4.cell k e he 1 u2 (by rw [hcs]; rfl)
    have ex : e.x = Go.Proofs.YtnkmdmmlpidcmaaGreatDoor.ruleAt l k := hx
    rw [ex] at hu1 hu2
    exact ⟨g, c, u1, u2, F1, F2, h1, h4.lt, by simpa using c0, c1, hu1, hu2⟩
set_option maxHeartbeats 4000000 in
theorem eqRuleS_any (w : World) (v1 v2 : Value) (l : List RD) (F1 F2 : Nat → Prop) (hl : l.length ≤ 1048576) (hla : lenRs l) (h1 : RowM 2 ERule w v1 l F1) (h2 : RowM 2 ERule w v2 l F2) :
    Calls Tryz.prog 16 #[v1, v2] w fun e w' => e = .returned (.bool true) ∧ Nw w w' := by
  obtain ⟨a1, c1, rfl, _⟩ := h1.slice
  obtain ⟨a2, c2, rfl, _⟩ := h2.slice
  have H1 : Hid (RowM 2 ERule w (.slice a1 l.length c1) l F1) := h1
  have H2 : Hid (RowM 2 ERule w (.slice a2 l.length c2) l F2) := h2
  have HLA : Hid (lenRs l) := hla
  clear h1 h2 hla
  go_enter Tryz.func16, Tryz.ntmps16
  go_wp2
  go_loopw [5] (fun i wr => ∃ k : Nat, k ≤ l.length ∧ i = .int .i64 k ∧ Nw w wr) (fun i _ => l.length - (intOf i).toNat)
  case atStart => exact ⟨0, Nat.zero_le _, rfl, Below.refl _ _⟩
  case round =>
    obtain ⟨k, hk, rfl, hw⟩ := hrel
    by_cases hlt : k < l.length
    · obtain ⟨g1, d1, p1, n1, X1, Y1, e1, hb1, q1, r1, s1, t1⟩ := (H1.out.nw ERule.kept hw).ruleAt hlt
      obtain ⟨g2, d2, p2, n2, X2, Y2, e2, hb2, q2, r2, s2, t2⟩ := (H2.out.nw ERule.kept hw).ruleAt hlt
      injection e1 with e1 e1b e1c
      injection e2 with e2 e2b e2c
      clear e1b e1c e2b e2c
      subst e1 e2
      have HL2 : Hid (lenR (ruleAt l k)) := HLA.out k hlt
      have D0 : Nw wr wr.drew := (Below.refl _ _).drew
      have S1 : Hid _ := s1.nw ESel.kept D0
      have S2 : Hid _ := s2.nw ESel.kept D0
      have T1 : Hid _ := t1.nw EDecl.kept D0
      have T2 : Hid _ := t2.nw EDecl.kept D0
      have HW : Hid (Nw w wr) := hw
      obtain ⟨pa, pc, hp1, _⟩ := s1.slice
      obtain ⟨pb, pd, hp2, _⟩ := s2.slice
      obtain ⟨na, nc, hn1, _⟩ := t1.slice
      obtain ⟨nb, nd, hn2, _⟩ := t2.slice
      subst hp1 hp2 hn1 hn2
      clear s1 s2 t1 t2 hw H1 H2 D0
      go_wp2
      go_region_with (go_at_call 43; refine Calls.mono (eqRule_any _ _ _ _ _ (ruleAt l k) X1 X2 Y1 Y2 HL2.out S1.out S2.out T1.out T2.out) ?_; rintro e w' ⟨rfl, k1⟩)
      all_goals
        go_wp2
        go_roundw
        case rel => exact ⟨k + 1, by omega, by go_num, HW.out.trans k1.drw⟩
        case measure => simp [intOf]; omega
    · have HW : Hid (Nw w wr) := hw
      clear hw
      go_wp2
      go_ret
      exact ⟨rfl, HW.out⟩
end Go.Proofs.YtnkmdmmlpidcmaaGreatDoor
namespace Go.Proofs.YtnkmdmmlpidcmaaGreatDoor
open Go.ChangeShapes Go.WideShapes Go.ChangeAt Go.RowKit
set_option linter.unusedVariables false

/-- A scope whose one label stands at its end. -/
theorem scope_fwd {c : Code} {Q : Exit → Act → World → Prop} {a : Act} {w : World} (l : Nat) (hf : findLabel c l = some Code.skip) (h : c.wp Tryz.prog (Exit.jump l (fun a w => Q .normal a w) Q) a w) : (Code.scope c).wp Tryz.prog Q a w :=
  wp_scope_jumps l (fun a w => Q .normal a w) (fun _ _ => 0) hf h (fun a w hJ => wp_skip hJ)
theorem jump_normal {l : Nat} {J : Act → World → Prop} {Q : Exit → Act → World → Prop} {a : Act} {w : World} : Exit.jump l J Q .normal a w = Q .normal a w := rfl
/-- The first twelve declarations. -/
def dcs (ps : List ByteArray) : List DD := (ps.filterMap declP).take 12
theorem dcs_none {l : List ByteArray} {x : ByteArray} (h : declP x = none) : dcs (l ++ [x]) = dcs l := by
  unfold dcs
  rw [List.filterMap_append]
  simp [h]
theorem dcs_full {l : List ByteArray} {x : ByteArray} (h : (dcs l).length = 12) : dcs (l ++ [x]) = dcs l := by
  unfold dcs at *
  rw [List.length_take] at h
  rw [List.filterMap_append, List.take_append_of_le_length (by omega)]
theorem dcs_more {l : List ByteArray} {x : ByteArray} {d : DD} (h : declP x = some d) (hl : (dcs l).length < 12) : dcs (l ++ [x]) = dcs l ++ [d] := by
  unfold dcs at *
  rw [List.length_take] at hl
  rw [List.filterMap_append]
  have e : List.filterMap declP [x] = [d] := by simp [h]
  rw [e, List.take_of_length_le (by simp; omega), List.take_of_length_le (by omega)]
theorem dcs_le (l : List ByteArray) : (dcs l).length ≤ 12 := by unfold dcs; rw [List.length_take]; omega
theorem take_at {l : List ByteArray} {k : Nat} (h : k < l.length) : l.take (k + 1) = l.take k ++ [strAt l k] := by
  rw [List.take_succ_eq_append_getElem h]
  simp [strAt, h]
def DeclsSays (s : ByteArray) (w w' : World) (e : Ending) : Prop := ∃ v, e = .returned v ∧ RowM 3 EDecl w' v (dcs (pcB 59 s)) (iv w w')
theorem pcsz (c : UInt8) : ∀ (l x : List UInt8), x ∈ pcs c l → x.length ≤ l.length := by
  intro l
  induction l with
  | nil => intro x hx; simp [pcs] at hx; subst hx; exact Nat.le_refl _
  | cons b l ih =>
    intro x hx
    rw [pcs] at hx
    split at hx
    · rcases List.mem_cons.1 hx with e | h
      · subst e; exact Nat.zero_le _
      · have := ih x h; simp; omega
    · cases hp : pcs c l with
      | nil => exact absurd hp (pcs_ne c l)
      | cons y r =>
        rw [hp] at hx ih
        rcases List.mem_cons.1 hx with e | h
        · subst e
          have := ih y List.mem_cons_self
          simp; omega
        · have := ih x (List.mem_cons_of_mem _ h)
          simp; omega
theorem pcB_size (c : UInt8) (s : ByteArray) (hs : s.size ≤ 1048576) (i : Nat) : (strAt (pcB c s) i).size ≤ 1048576 := by
  unfold strAt pcB
  by_cases h : i < (pcs c s.data.toList).length
  · have e : ((pcs c s.data.toList).map bA).getD i ⟨#[]⟩ = bA (pcs c s.data.toList)[i] := by simp [h]
    rw [e, bA_size]
    have := pcsz c s.data.toList _ (List.getElem_mem h)
    rw [data_len] at this
    omega
  · have e : ((pcs c s.data.toList).map bA).getD i ⟨#[]⟩ = ⟨#[]⟩ := by simp [h]
    rw [e]; exact Nat.zero_le _
theorem isplit (s : ByteArray) (c : UInt8) (w : World) (hs : s.size ≤ 1048576) :
    Calls Tryz.prog 76 #[.string s, .string ⟨#[c]⟩] w fun e w' => e = .returned (.slice (some ⟨w.heap.size, 0, none⟩) (pcB c s).length (pcB c s).length) ∧ Nw w w' ∧ LayS w' w.heap.size (pcB c s) (pcB c s).length := by
  go_enter Tryz.func76, Tryz.ntmps76
  go_wp2_with (go_at_call 111; refine (gsplit1 s c _ hs).mono ?_; rintro e w' ⟨rfl, k1, k2⟩)
  go_ret
  exact ⟨rfl, k1, k2⟩
set_option maxHeartbeats 8000000 in
theorem ideclsOf (s : ByteArray) (w : World) (hs : s.size ≤ 1048576) :
    Calls Tryz.prog 69 #[.string s] w fun e w' => DeclsSays s w w' e ∧ Nw w w' := by
  have HSZ : Hid (∀ i, (strAt (pcB 59 s) i).size ≤ 1048576) := fun i => pcB_size 59 s hs i
  have hpl : (pcB 59 s).length ≤ 1048577 := by rw [pcB_len]; have := count_le_size 59 s; omega
  have HI : Hid (Calls Tryz.prog 76 #[.string s, .string ⟨#[59]⟩] w fun e w' => e = .returned (.slice (some ⟨w.heap.size, 0, none⟩) (pcB 59 s).length (pcB 59 s).length) ∧ Nw w w' ∧ LayS w' w.heap.size (pcB 59 s) (pcB 59 s).length) := isplit s 59 w hs
  unfold DeclsSays
  generalize pcB 59 s = ps at *
  go_enter Tryz.func69, Tryz.ntmps69
  go_wp2_with fail
  refine Calls.mono HI.out ?_
  rintro e w1 ⟨rfl, k1, l1⟩
  have HN1 : Hid (Nw w w1) := k1
  have HL1 : Hid (LayS w1 w.heap.size ps ps.length) := l1
  clear HI k1 l1
  go_wp2
  go_loopw [3, 11] (fun v i wr => ∃ (k : Nat) (els : List (El DD)), k ≤ ps.length ∧ i = .int .i64 k ∧ RowO 36 3 EDecl wr w1.heap.size v els ∧ els.map El.x = dcs (ps.take k) ∧ Nw w1 wr) (fun _ i _ => ps.length - (intOf i).toNat)
  case atStart => exact ⟨0, [], Nat.zero_le _, rfl, RowO.nil _ _ _ _ _, rfl, Below.refl _ _⟩
  case round =>
    obtain ⟨k, els, hk, rfl, hro, hmx, hw⟩ := hrel
    have hel : els.length = (dcs (ps.take k)).length := by have := congrArg List.length hmx; simpa using this
    have h12 := dcs_le (ps.take k)
    obtain ⟨va, vc, hv⟩ := hro.slice
    subst hv
    have HR : Hid (RowO 36 3 EDecl wr w1.heap.size (.slice va els.length vc) els) := hro
    have HM : Hid (els.map El.x = dcs (ps.take k)) := hmx
    have HW : Hid (Nw w1 wr) := hw
    have HEL : Hid (els.length = (dcs (ps.take k)).length) := hel
    have hel12 : els.length ≤ 12 := by omega
    clear hro hmx hel h12
    by_cases hlt : k < ps.length
    · have q0 := (HL1.out.nw hw).2.1 k hlt
      have hgq := (HL1.out.nw hw).1
      have hz := HSZ.out k
      have HTK : Hid (ps.take (k + 1) = ps.take k ++ [strAt ps k]) := take_at hlt
      clear hw
      generalize strAt ps k = x at *
      have hkI : (k : Int) < (ps.length : Int) := by omega
      go_wp2_with fail
      refine scope_fwd 0 (by kernel_rfl) ?_
      go_wp2_with fail
      refine Calls.mono (ideclOf x _ hz) ?_
      rintro e w2 ⟨⟨d, hp, rfl⟩ | ⟨hp, tx, ty, tb, rfl⟩, k2⟩
      · by_cases h5 : els.length = 12
        · have HX : Hid (dcs (ps.take (k + 1)) = dcs (ps.take k)) := by show _ = _; rw [HTK.out]; exact dcs_full (by rw [← HEL.out]; exact h5)
          have HR2 : ∀ o, Hid (RowO 36 3 EDecl (w2.alloc o) w1.heap.size (.slice va els.length vc) els) := fun o => (HR.out.nw EDecl.kept k2).nw EDecl.kept ((Below.refl _ _).alloc (Nat.le_refl _) _)
          have HN2 : ∀ o, Hid (Nw w1 (w2.alloc o)) := fun o => Nw.trans (Nw.trans HW.out k2) ((Below.refl _ _).alloc (Nat.le_refl _) _)
          have g12 : ((els.length : Int) == 12) = true := by rw [h5]; rfl
          clear k2 q0 hp h5
          go_wp2
          apply wp_goto
          refine ⟨rfl, ?_⟩
          show Exit.inBlock 1 _ Exit.normal _ _
          go_wp2
          go_roundw
          case rel => exact ⟨k + 1, els, by omega, by go_num, (HR2 _).out, by rw [HX.out]; exact HM.out, (HN2 _).out⟩
          case measure => simp [intOf]; omega
        · have HX : Hid (dcs (ps.take (k + 1)) = dcs (ps.take k) ++ [d]) := by show _ = _; rw [HTK.out]; exact dcs_more hp (by rw [← HEL.out]; omega)
          have HK2 : Hid (Nw wr w2) := k2
          have g12 : ((els.length : Int) == 12) = false := by simp; omega
          have HL12 : Hid (els.length ≤ 10000000) := by show _ ≤ _; omega
          clear k2 q0 hp h5
          obtain ⟨dn, dv, di⟩ := d
          simp only
          have HNA : ∀ o1 o2, Hid (Nw wr ((w2.alloc o1).alloc o2)) := fun o1 o2 => Nw.trans HK2.out (((Below.refl _ _).alloc (Nat.le_refl _) _).alloc (by simp) _)
          have HEP : ∀ o1 o2, Hid (EDecl ((w2.alloc o1).alloc o2) [.string dn, .string dv, .bool di] ⟨dn, dv, di⟩ (iv wr ((w2.alloc o1).alloc o2))) := fun o1 o2 => rfl
          go_wp2_with (at_builtin; (refine wp_rw EDecl.kept Tryz.underlying30 Tryz.info36 rfl (by decide) (by decide) wr _ rfl _ _ rfl w1.heap.size _ els rfl HR.out (HNA _ _).out (Below.size HW.out) _ rfl ⟨dn, dv, di⟩ [.string dn, .string dv, .bool di] ?c1 rfl ?c2 (HEP _ _).out HL12.out ?_))
          case c1 =>
            intro j y hj
            rcases (show j = 0 ∨ j = 1 ∨ j = 2 ∨ 3 ≤ j by omega) with rfl | rfl | rfl | h
            · simp at hj; subst hj; simp
            · simp at hj; subst hj; simp
            · simp at hj; subst hj; simp
            · rw [List.getElem?_eq_none (by simpa using h)] at hj; cases hj
          case c2 =>
            intro y hy
            simp only [List.mem_cons, List.not_mem_nil, or_false] at hy
            rcases hy with rfl | rfl | rfl <;> rfl
          intro v' w' h1 h2
          have HN : Hid (Nw w1 w') := Below.trans (HW.out.trans (HNA _ _).out) (Ext.below h2 (fun g e => (HR.out.lt g e).1) (Nat.le_trans (Below.size HW.out) (Below.size (HNA _ _).out)))
          have H1 : Hid _ := h1
          clear h1 h2
          go_wp2
          apply wp_label
          show Exit.inBlock 1 _ Exit.normal _ _
          go_wp2
          go_roundw
          case rel => exact ⟨k + 1, _, by omega, by go_num, H1.out, by rw [HX.out, List.map_append, HM.out]; rfl, HN.out⟩
          case measure => simp [intOf]; omega
      · have HX : Hid (dcs (ps.take (k + 1)) = dcs (ps.take k)) := by show _ = _; rw [HTK.out]; exact dcs_none hp
        have HR2 : ∀ o, Hid (RowO 36 3 EDecl (w2.alloc o) w1.heap.size (.slice va els.length vc) els) := fun o => (HR.out.nw EDecl.kept k2).nw EDecl.kept ((Below.refl _ _).alloc (Nat.le_refl _) _)
        have HN2 : ∀ o, Hid (Nw w1 (w2.alloc o)) := fun o => Nw.trans (Nw.trans HW.out k2) ((Below.refl _ _).alloc (Nat.le_refl _) _)
        clear k2 q0 hp
        go_wp2
        apply wp_goto
        refine ⟨rfl, ?_⟩
        show Exit.inBlock 1 _ Exit.normal _ _
        go_wp2
        go_roundw
        case rel => exact ⟨k + 1, els, by omega, by go_num, (HR2 _).out, by rw [HX.out]; exact HM.out, (HN2 _).out⟩
        case measure => simp [intOf]; omega
    · have hk2 : k = ps.length := by omega
      have HE : Hid (els.map El.x = dcs ps) := by show _ = _; rw [HM.out, hk2, List.take_length]
      have hkn : ¬ ((k : Int) < (ps.length : Int)) := by omega
      clear hk2 hw
      go_wp2
      go_ret
      refine ⟨⟨_, rfl, ?_⟩, Nw.trans HN1.out HW.out⟩
      rw [← HE.out]
      exact RowO.row HR.out (fun b h1 h2 => ⟨Nat.le_trans (Below.size HN1.out) h1, h2⟩)
end Go.Proofs.YtnkmdmmlpidcmaaGreatDoor
