/-
  The drawing's draw, by the program: one step is drawn; each theorem names its conditions.
-/
import Derived.Test.YtoajjdlgipphiaaLoB
namespace Go.Proofs.Ytoajjdlgipphiaa
open Go.ChangeShapes Go.WideShapes Go.ChangeAt Go.RowKit
set_option linter.unusedVariables false

/-- A drawing has been drawn on. -/
def DrOk (bx : Nat) (w w' : World) (o : List LD) (p : List Pnt) : Prop := ∃ v it u, DW bx w' v it u p ∧ it.map (·.2) = o ∧ Below bx w w'
theorem DrOk.of {bx : Nat} {w w' : World} {o : List LD} {p : List Pnt} {v u : Value} {it : Its} (h1 : DW bx w' v it u p) (h2 : it.map (·.2) = o) (h3 : Below bx w w') : DrOk bx w w' o p := ⟨v, it, u, h1, h2, h3⟩
theorem ownp_some {w : World} {B : Nat} {u : Value} {l : List Pnt} (h : OwnP w B u l) (hn : 0 < l.length) : ∃ g c, u = .slice (some ⟨g, 0, none⟩) l.length c ∧ LieP w g 0 l := by
  rcases OwnP.lay h with ⟨_, e⟩ | ⟨g, c, e, h1, h2⟩
  · rw [e] at hn; simp at hn
  · obtain ⟨g', off, e2, h3⟩ := Pts.lie h2.pts hn
    injection e2 with e2; injection e2 with e3 e4
    subst e3 e4
    exact ⟨_, c, e, h3⟩
set_option maxRecDepth 100000 in
set_option maxHeartbeats 8000000 in
theorem idraw1 (w0 w : World) (bx : Nat) (v u : Value) (it : Its) (p : List Pnt) (ns : List Int) (na : Option Addr) (nc : Nat) (h0 : Nw w0 w) (hb0 : w0.heap.size ≤ bx) (h : DW bx w v it u p) (hit : it.length ≤ 1000) (hpl : p.length ≤ 100000) (hr : Ints w0 na ns) (hn : ns.length = 2) :
    Calls Try.prog 48 #[.pointer (some ⟨bx, 0, none⟩), .agg #[.int .i64 1, .slice na ns.length nc]] w fun e w' => e = .returned (.tuple #[]) ∧ DrOk bx w w' (drS ⟨it.map (·.2), p⟩ ⟨1, ns⟩).o (drS ⟨it.map (·.2), p⟩ ⟨1, ns⟩).p := by
  have HD : Hid (DW bx w v it u p) := h
  have HBX : Hid (bx < w.heap.size) := h.lt
  have HI : Hid (∀ w', Below bx w w' → Ints w' na ns) := fun w' k => Ints.nw hr (Below.trans h0 (Below.mono k hb0))
  obtain ⟨W, hW⟩ : ∃ W, w.alloc (.cells #[.int .i64 1, .slice na ns.length nc] 76) = W := ⟨_, rfl⟩
  have NW : Hid (Nw w W) := by show Nw _ _; rw [← hW]; exact (Below.refl _ _).alloc (Nat.le_refl _) _
  have BW : Hid (Below bx w W) := Below.mono NW.out (Nat.le_of_lt HBX.out)
  have CS : Hid (W.cell? ⟨w.heap.size, 1, none⟩ = some (.slice na ns.length nc)) := by show _ = _; rw [← hW]; simp
  have LW : Hid (w.heap.size < W.heap.size) := by show _ < _; rw [← hW]; simp
  have VN : Hid (∀ b, v.ownBlock = some b → b < w.heap.size) := fun b e => (OwnQ.lt h.d.ln.own b e).2
  have HW : Hid (_ = W) := hW
  clear hW h hr h0
  have HNS : Hid (ns.length = 2) := hn
  clear hn
  have e1 : (drS ⟨it.map (·.2), p⟩ ⟨1, ns⟩).p = prs ns := rfl
  have e2 : (drS ⟨it.map (·.2), p⟩ ⟨1, ns⟩).o = endL (it.map (·.2)) p false := rfl
  rw [e1, e2]
  clear e1 e2
  go_enter Try.func48, Try.ntmps48
  go_wp2_with fail
  rw [HW.out]
  refine Calls.mono (iend W bx v u it p false (by omega) (by omega) (DW.nw HD.out NW.out)) ?_
  rintro e w1 ⟨rfl, v', it', d1, i1, b1, k1⟩
  have D1 : Hid (DW bx w1 v' it' (.slice none 0 0) []) := d1
  have I1 : Hid (it'.map (·.2) = endL (it.map (·.2)) p false) := i1
  have B1 : Hid (Below bx w w1) := Below.trans BW.out b1
  have K1 : Hid (w1.cell? ⟨w.heap.size, 1, none⟩ = some (.slice na ns.length nc)) := (k1 w.heap.size LW.out (by have := HBX.out; omega) (fun e => by have := VN.out _ e; omega) 1).trans CS.out
  clear d1 i1 b1 k1
  go_wp2
  have n0 : Nw w1 w1.drew := (Below.refl _ _).drew
  have HPN : Hid (0 < (prs ns).length ∧ (prs ns).length ≤ 10) := by show _ ∧ _; rw [prs_len, HNS.out]; omega
  have HPO : Hid _ := ipointsOf w1.drew na nc ns 1 HNS.out (by omega) (HI.out _ (Below.trans B1.out (Below.mono n0 (Nat.le_of_lt D1.out.lt))))
  refine reg_change (ops' := opsOf 4 Try.f48) (by kernel_rfl) ?_
  refine DRM.run ⟨bx, w.heap.size, na, ns.length, nc, fun w' x => OwnP w' w1.drew.heap.size x (prs ns) ∧ Nw w1.drew w', fun w' => ∃ u', DW bx w' v' it' u' ([] ++ prs ns) ∧ Below bx w w', w1.drew, _⟩ ⟨K1.out, HPO.out, fun w' x hx => ?_, rfl, rfl, rfl⟩ w1 rfl ?_
  · obtain ⟨g, c, rfl, hlie⟩ := ownp_some hx.1 HPN.out.1
    have n1 : Nw w1 w' := Nw.trans n0 hx.2
    refine (iaddD w' bx v' (.slice none 0 0) it' ([]) (prs ns) g 0 _ c rfl (DW.nw D1.out n1) hlie HPN.out.1 (by have := HPN.out.2; simp; omega)).mono ?_
    rintro e w2 ⟨rfl, u', d1, d2, _⟩
    exact ⟨rfl, u', d1, Below.trans B1.out (Below.trans (Below.mono n1 (Nat.le_of_lt D1.out.lt)) d2)⟩
  · rintro γ w5 ⟨u', d1, d2⟩
    have H1 : Hid (DW bx w5 v' it' u' ([] ++ prs ns)) := d1
    have H2 : Hid (Below bx w w5) := d2
    clear d1 d2
    simp only [Act.put, List.setIfInBounds_toArray, List.set_cons_zero, List.set_cons_succ]
    generalize γ 0 = z0 at *
    generalize γ 1 = z1 at *
    go_wp2
    go_end0
    exact ⟨rfl, DrOk.of H1.out I1.out H2.out⟩
set_option maxRecDepth 100000 in
set_option maxHeartbeats 8000000 in
theorem idraw2 (w0 w : World) (bx : Nat) (v u : Value) (it : Its) (p : List Pnt) (ns : List Int) (na : Option Addr) (nc : Nat) (h0 : Nw w0 w) (hb0 : w0.heap.size ≤ bx) (h : DW bx w v it u p) (hit : it.length ≤ 1000) (hpl : p.length ≤ 100000) (hr : Ints w0 na ns) (hn : ns.length = 2) :
    Calls Try.prog 48 #[.pointer (some ⟨bx, 0, none⟩), .agg #[.int .i64 2, .slice na ns.length nc]] w fun e w' => e = .returned (.tuple #[]) ∧ DrOk bx w w' (drS ⟨it.map (·.2), p⟩ ⟨2, ns⟩).o (drS ⟨it.map (·.2), p⟩ ⟨2, ns⟩).p := by
  have HD : Hid (DW bx w v it u p) := h
  have HBX : Hid (bx < w.heap.size) := h.lt
  have HI : Hid (∀ w', Below bx w w' → Ints w' na ns) := fun w' k => Ints.nw hr (Below.trans h0 (Below.mono k hb0))
  obtain ⟨W, hW⟩ : ∃ W, w.alloc (.cells #[.int .i64 2, .slice na ns.length nc] 76) = W := ⟨_, rfl⟩
  have NW : Hid (Nw w W) := by show Nw _ _; rw [← hW]; exact (Below.refl _ _).alloc (Nat.le_refl _) _
  have BW : Hid (Below bx w W) := Below.mono NW.out (Nat.le_of_lt HBX.out)
  have CS : Hid (W.cell? ⟨w.heap.size, 1, none⟩ = some (.slice na ns.length nc)) := by show _ = _; rw [← hW]; simp
  have LW : Hid (w.heap.size < W.heap.size) := by show _ < _; rw [← hW]; simp
  have VN : Hid (∀ b, v.ownBlock = some b → b < w.heap.size) := fun b e => (OwnQ.lt h.d.ln.own b e).2
  have HW : Hid (_ = W) := hW
  clear hW h hr h0
  have HNS : Hid (ns.length = 2) := hn
  clear hn
  have e1 : (drS ⟨it.map (·.2), p⟩ ⟨2, ns⟩).p = p ++ prs ns := rfl
  have e2 : (drS ⟨it.map (·.2), p⟩ ⟨2, ns⟩).o = it.map (·.2) := rfl
  rw [e1, e2]
  clear e1 e2
  go_enter Try.func48, Try.ntmps48
  go_wp2
  rw [HW.out]
  have DWW : Hid (DW bx W v it u p) := DW.nw HD.out NW.out
  have n0 : Nw W W.drew := (Below.refl _ _).drew
  have HPN : Hid (0 < (prs ns).length ∧ (prs ns).length ≤ 10) := by show _ ∧ _; rw [prs_len, HNS.out]; omega
  have HPO : Hid _ := ipointsOf W.drew na nc ns 1 HNS.out (by omega) (HI.out _ (Below.trans BW.out (Below.mono n0 (Nat.le_of_lt DWW.out.lt))))
  refine reg_change (ops' := opsOf 6 Try.f48) (by kernel_rfl) ?_
  refine DRL.run ⟨bx, w.heap.size, na, ns.length, nc, fun w' x => OwnP w' W.drew.heap.size x (prs ns) ∧ Nw W.drew w', fun w' => ∃ u', DW bx w' v it u' (p ++ prs ns) ∧ Below bx w w', W.drew, _⟩ ⟨CS.out, HPO.out, fun w' x hx => ?_, rfl, rfl, rfl⟩ W rfl ?_
  · obtain ⟨g, c, rfl, hlie⟩ := ownp_some hx.1 HPN.out.1
    have n1 : Nw W w' := Nw.trans n0 hx.2
    refine (iaddD w' bx v u it (p) (prs ns) g 0 _ c rfl (DW.nw DWW.out n1) hlie HPN.out.1 (by have := HPN.out.2; omega)).mono ?_
    rintro e w2 ⟨rfl, u', d1, d2, _⟩
    exact ⟨rfl, u', d1, Below.trans BW.out (Below.trans (Below.mono n1 (Nat.le_of_lt DWW.out.lt)) d2)⟩
  · rintro γ w5 ⟨u', d1, d2⟩
    have H1 : Hid (DW bx w5 v it u' (p ++ prs ns)) := d1
    have H2 : Hid (Below bx w w5) := d2
    clear d1 d2
    simp only [Act.put, List.setIfInBounds_toArray, List.set_cons_zero, List.set_cons_succ]
    generalize γ 0 = z0 at *
    generalize γ 1 = z1 at *
    go_wp2
    go_end0
    exact ⟨rfl, DrOk.of H1.out rfl H2.out⟩
set_option maxRecDepth 100000 in
set_option maxHeartbeats 8000000 in
theorem idraw3 (w0 w : World) (bx : Nat) (v u : Value) (it : Its) (p : List Pnt) (ns : List Int) (na : Option Addr) (nc : Nat) (h0 : Nw w0 w) (hb0 : w0.heap.size ≤ bx) (h : DW bx w v it u p) (hit : it.length ≤ 1000) (hpl : p.length ≤ 100000) (hr : Ints w0 na ns) (hn : ns.length = 6) (hp0 : 0 < p.length) (hg : ptsB (lastP p :: prs ns) = true) :
    Calls Try.prog 48 #[.pointer (some ⟨bx, 0, none⟩), .agg #[.int .i64 3, .slice na ns.length nc]] w fun e w' => e = .returned (.tuple #[]) ∧ DrOk bx w w' (drS ⟨it.map (·.2), p⟩ ⟨3, ns⟩).o (drS ⟨it.map (·.2), p⟩ ⟨3, ns⟩).p := by
  have HD : Hid (DW bx w v it u p) := h
  have HBX : Hid (bx < w.heap.size) := h.lt
  have HI : Hid (∀ w', Below bx w w' → Ints w' na ns) := fun w' k => Ints.nw hr (Below.trans h0 (Below.mono k hb0))
  obtain ⟨W, hW⟩ : ∃ W, w.alloc (.cells #[.int .i64 3, .slice na ns.length nc] 76) = W := ⟨_, rfl⟩
  have NW : Hid (Nw w W) := by show Nw _ _; rw [← hW]; exact (Below.refl _ _).alloc (Nat.le_refl _) _
  have BW : Hid (Below bx w W) := Below.mono NW.out (Nat.le_of_lt HBX.out)
  have CS : Hid (W.cell? ⟨w.heap.size, 1, none⟩ = some (.slice na ns.length nc)) := by show _ = _; rw [← hW]; simp
  have LW : Hid (w.heap.size < W.heap.size) := by show _ < _; rw [← hW]; simp
  have VN : Hid (∀ b, v.ownBlock = some b → b < w.heap.size) := fun b e => (OwnQ.lt h.d.ln.own b e).2
  have HW : Hid (_ = W) := hW
  clear hW h hr h0
  have HNS : Hid (ns.length = 6) := hn
  clear hn
  have e1 : (drS ⟨it.map (·.2), p⟩ ⟨3, ns⟩).p = p ++ bndL (lastP p :: prs ns) 8 := rfl
  have e2 : (drS ⟨it.map (·.2), p⟩ ⟨3, ns⟩).o = it.map (·.2) := rfl
  rw [e1, e2]
  clear e1 e2
  have HPO : Hid _ := ipointsOf W na nc ns 3 HNS.out (by omega) (HI.out _ BW.out)
  have HP3 : Hid ((prs ns).length = 3) := by show _ = _; rw [prs_len, HNS.out]
  have CS1 := CS.out
  go_enter Try.func48, Try.ntmps48
  go_wp2_with fail
  rw [HW.out]
  refine Calls.mono HPO.out ?_
  rintro e w1 ⟨x, rfl, ho, n1⟩
  obtain ⟨g, c, rfl, hlie⟩ := ownp_some ho (by rw [HP3.out]; omega)
  rw [HP3.out]
  have HB : Hid _ := ibend w1 bx v u it p (prs ns) g 0 c (DW.nw HD.out (Nw.trans NW.out n1)) hp0 hpl HP3.out hlie hg
  have B1 : Hid (Below bx w w1) := Below.mono (Nw.trans NW.out n1) (Nat.le_of_lt HBX.out)
  clear ho n1 hlie
  go_wp2_with fail
  refine Calls.mono HB.out ?_
  rintro e w2 ⟨rfl, u', d1, d2⟩
  have H1 : Hid _ := d1
  have H2 : Hid (Below bx w w2) := Below.trans B1.out d2
  clear d1 d2
  go_wp2
  go_end0
  exact ⟨rfl, DrOk.of H1.out rfl H2.out⟩
set_option maxRecDepth 100000 in
set_option maxHeartbeats 8000000 in
theorem idraw4 (w0 w : World) (bx : Nat) (v u : Value) (it : Its) (p : List Pnt) (ns : List Int) (na : Option Addr) (nc : Nat) (h0 : Nw w0 w) (hb0 : w0.heap.size ≤ bx) (h : DW bx w v it u p) (hit : it.length ≤ 1000) (hpl : p.length ≤ 100000) (hr : Ints w0 na ns) (hp0 : 0 < p.length) :
    Calls Try.prog 48 #[.pointer (some ⟨bx, 0, none⟩), .agg #[.int .i64 4, .slice na ns.length nc]] w fun e w' => e = .returned (.tuple #[]) ∧ DrOk bx w w' (drS ⟨it.map (·.2), p⟩ ⟨4, ns⟩).o (drS ⟨it.map (·.2), p⟩ ⟨4, ns⟩).p := by
  have HD : Hid (DW bx w v it u p) := h
  have HBX : Hid (bx < w.heap.size) := h.lt
  have HI : Hid (∀ w', Below bx w w' → Ints w' na ns) := fun w' k => Ints.nw hr (Below.trans h0 (Below.mono k hb0))
  obtain ⟨W, hW⟩ : ∃ W, w.alloc (.cells #[.int .i64 4, .slice na ns.length nc] 76) = W := ⟨_, rfl⟩
  have NW : Hid (Nw w W) := by show Nw _ _; rw [← hW]; exact (Below.refl _ _).alloc (Nat.le_refl _) _
  have BW : Hid (Below bx w W) := Below.mono NW.out (Nat.le_of_lt HBX.out)
  have CS : Hid (W.cell? ⟨w.heap.size, 1, none⟩ = some (.slice na ns.length nc)) := by show _ = _; rw [← hW]; simp
  have LW : Hid (w.heap.size < W.heap.size) := by show _ < _; rw [← hW]; simp
  have VN : Hid (∀ b, v.ownBlock = some b → b < w.heap.size) := fun b e => (OwnQ.lt h.d.ln.own b e).2
  have HW : Hid (_ = W) := hW
  clear hW h hr h0
  have e1 : (drS ⟨it.map (·.2), p⟩ ⟨4, ns⟩).p = [ptAt p 0] := rfl
  have e2 : (drS ⟨it.map (·.2), p⟩ ⟨4, ns⟩).o = endL (it.map (·.2)) p true := rfl
  rw [e1, e2]
  clear e1 e2
  obtain ⟨gu, uc, rfl, hlie⟩ := ownp_some HD.out.d.pt hp0
  have hl0 := hlie.2 0 hp0
  have HGU : Hid (gu < w.heap.size) := hlie.1
  simp only [Nat.zero_mul, Nat.add_zero, Nat.zero_add] at hl0
  have p0 := ((bcell NW.out).1 _ _ HGU.out).trans hl0.1
  have p1 := ((bcell NW.out).1 _ _ HGU.out).trans hl0.2
  have c1 := (DW.nw HD.out NW.out).c1
  clear hl0 hlie
  generalize ptAt p 0 = q0 at *
  obtain ⟨x, y⟩ := q0
  simp only at p0 p1
  obtain ⟨W2, hW2⟩ : ∃ W2, W.alloc (.cells #[.int .i64 x, .int .i64 y] 54) = W2 := ⟨_, rfl⟩
  have N2 : Hid (Nw w W2) := by show Nw _ _; rw [← hW2]; exact Nw.trans NW.out ((Below.refl _ _).alloc (Nat.le_refl _) _)
  have CX : Hid (W2.cell? ⟨W.heap.size, 0, none⟩ = some (.int .i64 x) ∧ W2.cell? ⟨W.heap.size, 1, none⟩ = some (.int .i64 y) ∧ W.heap.size < W2.heap.size) := by show _ ∧ _; rw [← hW2]; exact ⟨by simp, by simp, by simp⟩
  have hsz : W.heap.size = w.heap.size + 1 := by rw [← HW.out]; simp
  have HSZ : Hid (W.heap.size = w.heap.size + 1) := hsz
  have HW2 : Hid (_ = W2) := hW2
  rw [← HW.out] at p0 p1 c1
  generalize hnp : p.length = np at *
  clear hW2 hsz
  go_enter Try.func48, Try.ntmps48
  go_wp2_with fail
  rw [HW.out, HW2.out]
  rw [← HSZ.out]
  refine Calls.mono (iend W2 bx v (.slice (some ⟨gu, 0, none⟩) np uc) it p true (by omega) (by omega) (DW.nw HD.out N2.out)) ?_
  rintro e w1 ⟨rfl, v', it', d1, i1, b1, k1⟩
  have D1 : Hid (DW bx w1 v' it' (.slice none 0 0) []) := d1
  have I1 : Hid (it'.map (·.2) = endL (it.map (·.2)) p true) := i1
  have B1 : Hid (Below bx w w1) := Below.trans (Below.mono N2.out (Nat.le_of_lt HBX.out)) b1
  have kk := k1 W.heap.size CX.out.2.2 (by have := HBX.out; have := LW.out; omega) (fun e => by have := VN.out _ e; have := LW.out; omega)
  have K1 : Hid (w1.cell? ⟨W.heap.size, 0, none⟩ = some (.int .i64 x) ∧ w1.cell? ⟨W.heap.size, 1, none⟩ = some (.int .i64 y)) := ⟨(kk 0).trans CX.out.1, (kk 1).trans CX.out.2.1⟩
  clear d1 i1 b1 k1 kk p0 p1 c1
  go_wp2
  have n0 : Nw w1 w1.drew := (Below.refl _ _).drew
  refine reg_change (ops' := opsOf 12 Try.f48) (by kernel_rfl) ?_
  refine DRC.run ⟨bx, W.heap.size, x, y, fun w' => ∃ u', DW bx w' v' it' u' [(x, y)] ∧ Below bx w w', w1.drew, _⟩ ⟨K1.out.1, K1.out.2, ?_, rfl, rfl, rfl⟩ w1 rfl ?_
  · have n1 : Nw w1 (w1.drew.alloc (.cells #[.int .i64 x, .int .i64 y] 54)) := Nw.trans n0 ((Below.refl _ _).alloc (Nat.le_refl _) _)
    refine (iaddD _ bx v' (.slice none 0 0) it' [] [(x, y)] w1.drew.heap.size 0 1 1 rfl (DW.nw D1.out n1) (liep_one w1.drew x y _) (by simp) (by simp)).mono ?_
    rintro e w2 ⟨rfl, u', d1, d2, _⟩
    exact ⟨rfl, u', d1, Below.trans B1.out (Below.trans (Below.mono n1 (Nat.le_of_lt D1.out.lt)) d2)⟩
  · rintro γ w5 ⟨u', d1, d2⟩
    have H1 : Hid (DW bx w5 v' it' u' [(x, y)]) := d1
    have H2 : Hid (Below bx w w5) := d2
    clear d1 d2
    simp only [Act.put, List.setIfInBounds_toArray, List.set_cons_zero, List.set_cons_succ]
    generalize γ 0 = z0 at *
    generalize γ 1 = z1 at *
    go_wp2
    go_end0
    exact ⟨rfl, DrOk.of H1.out I1.out H2.out⟩
end Go.Proofs.Ytoajjdlgipphiaa
