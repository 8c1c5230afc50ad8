/-
  The drawing's points appended to, and its bend, by the program; each theorem names its conditions.
-/
import Derived.Test.YtoajjdlgipphiaaLoBR
import Derived.Test.YtoajjdlgipphiaaICv
namespace Go.Proofs.Ytoajjdlgipphiaa
open Go.ChangeShapes Go.WideShapes Go.ChangeAt Go.RowKit
set_option linter.unusedVariables false

/-- Points are appended to those of a drawing. -/
theorem iaddD (w : World) (bx : Nat) (v u : Value) (it : Its) (p its : List Pnt) (g off m c : Nat) (hm : m = its.length) (h : DW bx w v it u p) (hits : LieP w g off its) (hn : 0 < its.length) (hlen : p.length + its.length ≤ 1000000) :
    Calls Try.prog 59 #[.pointer (some ⟨bx, 1, none⟩), .slice (some ⟨g, off, none⟩) m c] w fun e w' => e = .returned (.tuple #[]) ∧ ∃ u', DW bx w' v it u' (p ++ its) ∧ Below bx w w' ∧ ∀ b, b < w.heap.size → b ≠ bx → u.ownBlock ≠ some b → u'.ownBlock ≠ some b ∧ ∀ o, w'.cell? ⟨b, o, none⟩ = w.cell? ⟨b, o, none⟩ := by
  refine (iaddP w bx 1 (bx + 1) u p its g off m c hm h.c1 (h.free 1) h.d.pt hits hn hlen (by have := h.lt; omega) h.neu).mono ?_
  rintro e w' ⟨rfl, g', c', w1, k1, k2, rfl⟩
  obtain ⟨d1, d2⟩ := DW.pput h k2 k1
  refine ⟨rfl, _, d1, d2, fun b hb hne hu => ⟨Ext.apart k2 hb hu, fun o => ?_⟩⟩
  rw [World.cell?_setCell_other _ _ _ _ (fun e => by injection e; omega)]
  exact Ext.cell k2 hb hu o
def bndL (E : List Pnt) (j : Nat) : List Pnt := (List.range j).map fun (k : Nat) => curveP E ((k : Int) + 1)
theorem bndL_step (E : List Pnt) (j : Nat) : bndL E (j + 1) = bndL E j ++ [curveP E ((j : Int) + 1)] := by simp [bndL, List.range_succ]
theorem bndL_len (E : List Pnt) (j : Nat) : (bndL E j).length = j := by simp [bndL]
/-- A list of four points in a variable, apart from the points that are drawn. -/
structure EV (w : World) (be ge ce : Nat) (E : List Pnt) (u : Value) : Prop where
  c : w.cell? ⟨be, 0, none⟩ = some (.slice (some ⟨ge, 0, none⟩) 4 ce)
  p : Pts w (some ⟨ge, 0, none⟩) E
  lb : be < w.heap.size
  lg : ge < w.heap.size
  ub : u.ownBlock ≠ some be
  ug : u.ownBlock ≠ some ge
theorem EV.nw {w w' : World} {be ge ce : Nat} {E : List Pnt} {u : Value} (h : EV w be ge ce E u) (k : Nw w w') : EV w' be ge ce E u :=
  ⟨((bcell k).1 _ _ h.lb).trans h.c, h.p.nw k, Nat.lt_of_lt_of_le h.lb (Below.size k), Nat.lt_of_lt_of_le h.lg (Below.size k), h.ub, h.ug⟩
theorem EV.step {w w' : World} {be ge ce bx : Nat} {E : List Pnt} {u u' : Value} (h : EV w be ge ce E u) (hE : E.length = 4) (hb : be ≠ bx) (hg : ge ≠ bx) (hs : w.heap.size ≤ w'.heap.size) (k : ∀ b, b < w.heap.size → b ≠ bx → u.ownBlock ≠ some b → u'.ownBlock ≠ some b ∧ ∀ o, w'.cell? ⟨b, o, none⟩ = w.cell? ⟨b, o, none⟩) : EV w' be ge ce E u' := by
  obtain ⟨k1, k2⟩ := k be h.lb hb h.ub
  obtain ⟨k3, k4⟩ := k ge h.lg hg h.ug
  refine ⟨(k2 0).trans h.c, ?_, by have := h.lb; omega, by have := h.lg; omega, k1, k3⟩
  rcases h.p with hn | ⟨b, off, e, hb2, hc⟩
  · rw [hn] at hE; simp at hE
  · injection e with e; injection e with e1 e2
    subst e1 e2
    exact Or.inr ⟨_, 0, rfl, by omega, fun i hi => ⟨(k4 _).trans (hc i hi).1, (k4 _).trans (hc i hi).2⟩⟩
set_option maxRecDepth 100000 in
set_option maxHeartbeats 8000000 in
theorem ibend (w : World) (bx : Nat) (v u : Value) (it : Its) (p q : List Pnt) (g off c : Nat) (h : DW bx w v it u p) (hp : 0 < p.length) (hpl : p.length ≤ 100000) (hq : q.length = 3) (hlie : LieP w g off q) (hgood : ptsB (lastP p :: q) = true) :
    Calls Try.prog 73 #[.pointer (some ⟨bx, 0, none⟩), .slice (some ⟨g, off, none⟩) 3 c] w fun e w' => e = .returned (.tuple #[]) ∧ ∃ u', DW bx w' v it u' (p ++ bndL (lastP p :: q) 8) ∧ Below bx w w' := by
  have hbx := h.lt
  obtain ⟨gu, uc, rfl, hgb, hlay⟩ : ∃ g c, u = .slice (some ⟨g, 0, none⟩) p.length c ∧ bx + 1 ≤ g ∧ LayPt w g p p.length := by
    rcases OwnP.lay h.d.pt with ⟨_, e⟩ | ⟨g, c, e, h1, h2⟩
    · rw [e] at hp; simp at hp
    · exact ⟨g, c, e, h1, h2⟩
  have hpts := hlay.pts
  have hgl : gu < w.heap.size := hlay.1
  obtain ⟨px, py⟩ : w.cell? ⟨gu, (p.length - 1) * 2, none⟩ = some (.int .i64 (lastP p).1) ∧ w.cell? ⟨gu, (p.length - 1) * 2 + 1, none⟩ = some (.int .i64 (lastP p).2) := by
    rcases hpts with hn | ⟨b, o, e, _, hc⟩
    · rw [hn] at hp; simp at hp
    · injection e with e; injection e with e1 e2
      subst e1 e2
      have := hc (p.length - 1) (by omega)
      unfold lastP
      simpa using this
  have HD : Hid (DW bx w v it (.slice (some ⟨gu, 0, none⟩) p.length uc) p) := h
  have HLI : Hid (LieP w g off q) := hlie
  have HBX : Hid (bx < w.heap.size) := hbx
  have HGU : Hid (gu < w.heap.size) := hgl
  have HGG : Hid _ := hgood
  have HQ : Hid (q.length = 3) := hq
  have hwm : IntKind.i64.wrap ((p.length : Int) - 1) = ((p.length - 1 : Nat) : Int) := by rw [IntWalk.i64_in _ ⟨by omega, by omega⟩]; omega
  have hmn : p.length - 1 < p.length := by omega
  have n0 : Nw w w.drew := (Below.refl _ _).drew
  have c1 := (DW.nw h n0).c1
  have px' := ((bcell n0).1 _ _ hgl).trans px
  have py' := ((bcell n0).1 _ _ hgl).trans py
  have HPL : Hid (p.length ≤ 100000) := hpl
  generalize hE : lastP p = lp at *
  obtain ⟨lx, ly⟩ := lp
  simp only at px' py'
  generalize hnp : p.length = np at *
  clear h hp hpl hq hlie hgood hbx hgl hpts hlay hgb px py hE
  obtain ⟨E, hEE⟩ : ∃ E, (lx, ly) :: q = E := ⟨_, rfl⟩
  have HEE : Hid ((lx, ly) :: q = E) := hEE
  rw [hEE] at HGG ⊢
  clear hEE
  go_enter Try.func73, Try.ntmps73
  go_wp2
  refine reg_change (ops' := opsOf 0 Try.f73) (by kernel_rfl) ?_
  refine BEN.run ⟨bx, gu, np, np - 1, uc, lx, ly, w.drew, _⟩ ⟨c1, hwm, hmn, px', py', rfl, rfl⟩ w (Below.refl _ _) ?_
  rintro γ w1 be b1 b2 n1 o1 c2 f2 a2
  replace n1 : Nw w w1 := Nw.trans n0 n1
  replace b2 : w.heap.size ≤ be := b2
  replace o1 : OwnP w1 w.heap.size (γ 0) [(lx, ly)] := o1
  have N1 : Hid (Nw w w1) := n1
  have B2 : Hid (w.heap.size ≤ be ∧ be < w1.heap.size) := ⟨b2, World.block_lt_of_cell? w1 ⟨be, 0, none⟩ c2⟩
  have HAD : Hid _ := iaddP w1 be 0 w.heap.size (γ 0) [(lx, ly)] q g off 3 c HQ.out.symm c2 (f2 0) o1 (LieP.nw HLI.out n1) (by rw [HQ.out]; omega) (by rw [HQ.out]; simp) (Below.size n1) a2
  have A2 : Hid ((γ 0).ownBlock ≠ some be) := a2
  have C2 : Hid (w1.cell? ⟨be, 0, none⟩ = some (γ 0)) := c2
  have HO1 : Hid (∀ b, (γ 0).ownBlock = some b → w.heap.size ≤ b) := fun b e => (OwnQ.lt o1 b e).1
  simp only [b1, Act.put, List.setIfInBounds_toArray, List.set_cons_zero, List.set_cons_succ]
  clear n1 b2 o1 c2 f2 a2 c1 hwm hmn px' py' n0
  generalize γ 0 = v0 at *
  go_wp2_with fail
  refine Calls.mono HAD.out ?_
  rintro e w3 ⟨rfl, g', c', w2, k1, k2, hw3⟩
  have hl4 : ([(lx, ly)] ++ q).length = 4 := by rw [List.length_append, HQ.out]; rfl
  rw [hl4] at k1 k2 hw3
  have nw2 : Nw w w2 := Below.trans N1.out (k2.below HO1.out (Below.size N1.out))
  have N3 : Hid (Nw w w3) := by show Nw _ _; rw [hw3]; exact nw2.setCell B2.out.1 _
  have hg' : w.heap.size ≤ g' ∧ g' < w2.heap.size := OwnQ.lt k1 g' rfl
  have hbe2 : be < w2.heap.size := by have := k2.size; have := B2.out.2; omega
  have hne4 : (Value.slice (some ⟨g', 0, none⟩) 4 c').ownBlock ≠ some be := Ext.apart k2 B2.out.2 A2.out
  have k1' : OwnP (w2.setCell ⟨be, 0, none⟩ (.slice (some ⟨g', 0, none⟩) 4 c')) w.heap.size (.slice (some ⟨g', 0, none⟩) 4 c') ([(lx, ly)] ++ q) := OwnQ.far k1 be 0 _ hne4
  rw [← hw3] at k1'
  have HEV : Hid (EV w3 be g' c' ((lx, ly) :: q) (.slice (some ⟨gu, 0, none⟩) np uc)) := by
    have cc : w3.cell? ⟨be, 0, none⟩ = some (.slice (some ⟨g', 0, none⟩) 4 c') := by
      rw [hw3]
      exact World.cell?_setCell_same w2 ⟨be, 0, none⟩ _ ((Ext.cell k2 B2.out.2 A2.out 0).trans C2.out)
    obtain ⟨pa, pc, pe, pp⟩ := OwnP.pts k1'
    injection pe with pe1 pe2 pe3
    subst pe1
    refine ⟨cc, pp, World.block_lt_of_cell? w3 ⟨be, 0, none⟩ cc, (OwnQ.lt k1' g' rfl).2, fun e => ?_, fun e => ?_⟩
    · have : gu = be := by simpa [Value.ownBlock] using e
      have := HGU.out; have := B2.out; omega
    · have : gu = g' := by simpa [Value.ownBlock] using e
      have := HGU.out; omega
  have HNE : Hid (be ≠ bx ∧ g' ≠ bx) := ⟨by have := HBX.out; have := B2.out; omega, by have := HBX.out; omega⟩
  have HE4 : Hid (((lx, ly) :: q).length = 4) := by show _ = _; rw [List.length_cons, HQ.out]
  clear hw3 k1 k2 hl4 nw2 hg' hbe2 hne4 k1' HAD A2 C2 HO1
  rw [HEE.out] at HEV HE4
  have HD3 : Hid (DW bx w3 v it (.slice (some ⟨gu, 0, none⟩) np uc) p) := DW.nw HD.out N3.out
  go_wp2
  go_loopw [21] (fun i wr => ∃ j : Nat, j ≤ 8 ∧ i = .int .i64 (j : Int) ∧ ∃ u', DW bx wr v it u' (p ++ bndL E j) ∧ EV wr be g' c' E u' ∧ Below bx w wr) (fun i _ => 8 - (intOf i).toNat)
  case atStart => exact ⟨0, by omega, rfl, _, by simpa [bndL] using HD3.out, HEV.out, Below.mono N3.out (Nat.le_of_lt HBX.out)⟩
  case round =>
    obtain ⟨j, hj, rfl, u', hd', hev', hw'⟩ := hrel
    have HDJ : Hid (DW bx wr v it u' (p ++ bndL E j)) := hd'
    have HEJ : Hid (EV wr be g' c' E u') := hev'
    have HWJ : Hid (Below bx w wr) := hw'
    clear hd' hev' hw'
    by_cases hj8 : j < 8
    · have n0 : Nw wr wr.drew := (Below.refl _ _).drew
      have hwk : IntKind.i64.wrap ((j : Int) + 1) = (j : Int) + 1 := IntWalk.i64_in _ ⟨by omega, by omega⟩
      have ce := (EV.nw HEJ.out n0).c
      have HS : Hid _ := bndL_step E j
      have HLN : Hid ((p ++ bndL E j).length + 1 ≤ 1000000) := by show _ ≤ _; rw [List.length_append, bndL_len]; have := HPL.out; omega
      have HV : Hid (∀ w1, Kp wr.drew w1 → _) := fun w1 (k : Kp wr.drew w1) => icurve_any w1 (some ⟨g', 0, none⟩) c' E ((j : Int) + 1) HE4.out (EV.nw HEJ.out (Nw.trans n0 k.nw)).p HGG.out (by omega) (by omega)
      generalize curveP E ((j : Int) + 1) = cp at *
      obtain ⟨x, y⟩ := cp
      have HA : Hid (∀ w1, Kp wr.drew w1 → Calls Try.prog 59 #[.pointer (some ⟨bx, 1, none⟩), .slice (some ⟨w1.heap.size, 0, none⟩) 1 1] (w1.alloc (.cells #[.int .i64 x, .int .i64 y] 54)) fun e w' => e = .returned (.tuple #[]) ∧ ∃ u2, DW bx w' v it u2 ((p ++ bndL E j) ++ [(x, y)]) ∧ EV w' be g' c' E u2 ∧ Below bx w w') := fun w1 k => by
        have n1 : Nw wr (w1.alloc (.cells #[.int .i64 x, .int .i64 y] 54)) := Nw.trans n0 (Nw.trans k.nw ((Below.refl _ _).alloc (Nat.le_refl _) _))
        refine (iaddD _ bx v u' it (p ++ bndL E j) [(x, y)] w1.heap.size 0 1 1 rfl (DW.nw HDJ.out n1) (liep_one w1 x y _) (by simp) (by simpa using HLN.out)).mono ?_
        rintro e w' ⟨rfl, u2, d1, d2, d3⟩
        exact ⟨rfl, u2, d1, EV.step (EV.nw HEJ.out n1) HE4.out HNE.out.1 HNE.out.2 (Below.size d2) d3, Below.trans HWJ.out (Below.trans (Below.mono n1 (Nat.le_of_lt HDJ.out.lt)) d2)⟩
      go_wp2
      refine reg_change (ops' := opsOf 5 Try.f73) (by kernel_rfl) ?_
      refine BNR.run ⟨bx, be, some ⟨g', 0, none⟩, c', j, x, y, fun w' => ∃ u2, DW bx w' v it u2 ((p ++ bndL E j) ++ [(x, y)]) ∧ EV w' be g' c' E u2 ∧ Below bx w w', wr.drew, _⟩ ⟨ce, hwk, HV.out, HA.out, rfl, rfl, rfl, rfl⟩ wr (Kp.refl _) ?_
      rintro γ2 w5 ⟨u2, d1, d2, d3⟩
      have H1 : Hid (∃ u2, DW bx w5 v it u2 ((p ++ bndL E j) ++ [(x, y)]) ∧ EV w5 be g' c' E u2 ∧ Below bx w w5) := ⟨u2, d1, d2, d3⟩
      clear d1 d2 d3 ce hwk n0
      simp only [Act.put, List.setIfInBounds_toArray, List.set_cons_zero, List.set_cons_succ]
      generalize γ2 0 = z0 at *
      generalize γ2 1 = z1 at *
      go_wp2
      go_roundw
      case rel =>
        obtain ⟨u2, d1, d2, d3⟩ := H1.out
        exact ⟨j + 1, by omega, by go_num, u2, by rw [HS.out, ← List.append_assoc]; exact d1, d2, d3⟩
      case measure => simp [intOf]; omega
    · have hj9 : j = 8 := by omega
      subst hj9
      go_wp2
      go_end0
      exact ⟨rfl, u', HDJ.out, HWJ.out⟩
end Go.Proofs.Ytoajjdlgipphiaa
