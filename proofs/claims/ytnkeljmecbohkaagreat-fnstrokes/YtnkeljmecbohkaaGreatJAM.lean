/-
  A dashing's next, reach, lay and turn, by the program; each 
-/
import Derived.Test.YtnkeljmecbohkaaGreatJAL
import Derived.Test.YtnkeljmecbohkaaGreatJAK
import Derived.Test.YtnkeljmecbohkaaGreatJAB
import Derived.Test.YtnkeljmecbohkaaGreatJAH
import Derived.Test.YtnkeljmecbohkaaGreatJAF
import Derived.Test.YtnkeljmecbohkaaGreatJAG
import Derived.Test.YtnkeljmecbohkaaGreatJAA
namespace Go.Proofs.YtnkeljmecbohkaaGreat
open Go.ChangeShapes Go.WideShapes Go.ChangeAt Go.RowKit
set_option linter.unusedVariables false
theorem DhS.of {bx : Nat} {w0 w : World} {K : List (Nat × Int × Int)} {na : Option Addr} {nc : Nat} {ns : List Int} {d : Dg} {v u : Value} {it : Its} {a l b : Int} {p : List Pnt} (h : DH bx w (.slice na ns.length nc) a l b v it u p) (h2 : it.map (·.2) = d.o) (h3 : Nw w0 w) (ha : a = d.at') (hl : l = d.left) (hb : b = d.begun) (hp : p = d.p) (hk : Kb bx w v it u K) : DhS bx w0 w K na nc ns d := by
 subst ha hl hb hp
 exact ⟨v, it, u, h, h2, h3, hk⟩
set_option maxRecDepth 100000 in
set_option maxHeartbeats 4000000 in
theorem inext (w0 w : World) (bx : Nat) (K : List (Nat × Int × Int)) (na : Option Addr) (nc : Nat) (ns : List Int) (d : Dg) (hb0 : w0.heap.size ≤ bx) (hn : 0 < ns.length) (ha : d.at' ≤ 1000000) (hI : Ints w0 na ns) (h : DhS bx w0 w K na nc ns d) :
  Calls Tryz.prog 59 #[.pointer (some ⟨bx, 0, none⟩)] w fun e w' => e = .returned (.tuple #[]) ∧ DhS bx w0 w' K na nc ns (nextD ns d) := by
 obtain ⟨v, it, u, hd, ho, hw, hkb⟩ := h
 have HO : Hid (it.map (·.2) = d.o) := ho
 have HW : Hid (Nw w0 w) := hw
 obtain ⟨at', left, begun, p, o⟩ := d
 simp only at ha hd ho HO
 have c1 := hd.c1
 have fr := hd.free
 obtain ⟨s1, s2⟩ := hd.setA ((at' : Int) + 1)
 obtain ⟨W1, hW1⟩ : ∃ W1, w.setCell ⟨bx, 1, none⟩ (.int .i64 ((at' : Int) + 1)) = W1 := ⟨_, rfl⟩
 rw [hW1] at s1 s2
 have S1 : Hid _ := s1
 have N1 : Hid (Nw w0 W1) := Below.trans hw (Below.mono s2 hb0)
 have hm : (at' + 1) % ns.length < ns.length := Nat.mod_lt _ hn
 have hrm : (((at' + 1 : Nat) : Int)).tmod (ns.length : Int) = (((at' + 1) % ns.length : Nat) : Int) := by
  rw [Int.tmod_eq_emod_of_nonneg (by omega)]
  first | exact (Int.natCast_emod _ _).symm | rfl
 obtain ⟨nb, no, hna, hcx⟩ : ∃ nb no, na = some ⟨nb, no, none⟩ ∧ W1.cell? ⟨nb, no + (at' + 1) % ns.length, none⟩ = some (.int .i64 (intAt ns ((at' + 1) % ns.length))) := by
  rcases Ints.nw hI N1.out with hx | ⟨b, off, rfl, _, hc⟩
  ·rw [hx] at hn; simp at hn
  ·exact ⟨b, off, rfl, hc _ hm⟩
 subst hna
 have HNX : Hid (nextD ns ⟨at', left, begun, p, o⟩ = ⟨at' + 1, intAt ns ((at' + 1) % ns.length), begun, p, o⟩) := rfl
 have HM : Hid (DH bx (W1.drew.setCell ⟨bx, 2, none⟩ (.int .i64 (intAt ns ((at' + 1) % ns.length)))) _ _ _ _ _ _ _ _ ∧ _) := DH.setL (DH.nw s1 ((Below.refl _ _).drew)) _
 have n0 : Nw W1 W1.drew := (Below.refl _ _).drew
 have s1d := DH.nw s1 n0
 have hcx' : W1.drew.cell? ⟨nb, no + (at' + 1) % ns.length, none⟩ = _ := hcx
 have HW1 : Hid (_ = W1) := hW1
 have ND : Hid (Nw w0 W1.drew) := Nw.trans N1.out n0
 have HF : Hid _ := s1d
 have HKB : Hid (Kb bx (W1.drew.setCell ⟨bx, 2, none⟩ (.int .i64 (intAt ns ((at' + 1) % ns.length)))) v it u K) := by
  have := Kb.set hkb 1 (.int .i64 ((at' : Int) + 1))
  rw [hW1] at this
  exact Kb.set (Kb.nw this n0) 2 _
 have HX : Hid _ := hcx'
 clear hkb hcx hcx' s1 s2 s1d hd ho hI n0 hW1 hw
 generalize intAt ns ((at' + 1) % ns.length) = x at *
 generalize hmm : (at' + 1) % ns.length = m at *
 generalize hnn : ns.length = n at *
 go_enter Tryz.func59, Tryz.ntmps59
 go_wp2
 rw [HW1.out]
 refine reg_change (ops' := opsOf 1 Tryz.f59) (by kernel_rfl) ?_
 refine NXR.run ⟨bx, nb, no, n, nc, at' + 1, m, x, W1.drew, _⟩ ⟨HF.out.c0, by simpa using HF.out.c1, hrm, by show n ≠ 0; omega, hm, HX.out, ⟨_, HF.out.c2⟩, HF.out.free, rfl, rfl⟩ W1 rfl ?_
 rintro γ w9 hw9
 have hw9 : w9 = W1.drew.setCell ⟨bx, 2, none⟩ (.int .i64 x) := hw9
 have HM2 := HM.out
 rw [← hw9] at HM2
 have HM3 : Hid _ := HM2
 have HK2 := HKB.out
 rw [← hw9] at HK2
 have HK3 : Hid _ := HK2
 clear HM2 hw9 HK2 HKB
 simp only [Act.put, List.setIfInBounds_toArray, List.set_cons_zero, List.set_cons_succ]
 go_wp2
 go_end0
 refine ⟨rfl, ?_⟩
 rw [HNX.out]
 exact DhS.of (d := ⟨at' + 1, x, begun, p, o⟩) (by rw [hnn]; exact HM3.out.1) HO.out (Below.trans ND.out (Below.mono HM3.out.2 hb0)) (by simp) rfl rfl rfl HK3.out
theorem rD_skip {d : Dg} {q : Pnt} (h : skipB d q = true) : reachD d q = d := by unfold reachD; rw [if_pos h]
theorem rD_add {d : Dg} {q : Pnt} (h : skipB d q = false) : reachD d q = ⟨d.at', d.left, d.begun, d.p ++ [q], d.o⟩ := by unfold reachD; rw [h]; rfl
set_option maxRecDepth 100000 in
set_option maxHeartbeats 8000000 in
theorem ireach (w0 w : World) (bx : Nat) (K : List (Nat × Int × Int)) (na : Option Addr) (nc : Nat) (ns : List Int) (d : Dg) (x y : Int) (hb0 : w0.heap.size ≤ bx) (hpl : d.p.length ≤ 100000) (h : DhS bx w0 w K na nc ns d) :
  Calls Tryz.prog 32 #[.pointer (some ⟨bx, 0, none⟩), .agg #[.int .i64 x, .int .i64 y]] w fun e w' => e = .returned (.tuple #[]) ∧ DhS bx w0 w' K na nc ns (reachD d (x, y)) := by
 obtain ⟨v, it, u, hd, ho, hw, hkb⟩ := h
 have HO : Hid (it.map (·.2) = d.o) := ho
 obtain ⟨at', left, begun, p, o⟩ := d
 simp only at hd ho HO hpl
 have HPL : Hid (p.length ≤ 100000) := hpl
 obtain ⟨ua, uc, hu⟩ := D2.val hd.d
 subst hu
 obtain ⟨W1, hW1⟩ : ∃ W1, w.alloc (.cells #[.int .i64 x, .int .i64 y] 34) = W1 := ⟨_, rfl⟩
 have n1 : Nw w W1 := by rw [← hW1]; exact (Below.refl _ _).alloc (Nat.le_refl _) _
 have N1 : Hid (Nw w0 W1) := Nw.trans hw n1
 have hd1 := DH.nw hd n1
 obtain ⟨bq, hbq⟩ : ∃ bq, w.heap.size = bq := ⟨_, rfl⟩
 have HQ : Hid (W1.cell? ⟨bq, 0, none⟩ = some (.int .i64 x) ∧ W1.cell? ⟨bq, 1, none⟩ = some (.int .i64 y)) := by
  show _ ∧ _
  rw [← hW1, ← hbq]
  exact ⟨by simp, by simp⟩
 have LQ : Hid (bq < W1.heap.size) := World.block_lt_of_cell? W1 ⟨bq, 0, none⟩ HQ.out.1
 have HW1 : Hid (_ = W1) := hW1
 have HBQ : Hid (w.heap.size = bq) := hbq
 have n0 : Nw W1 W1.drew := (Below.refl _ _).drew
 have CD : Hid _ := DH.nw hd1 n0
 have QD : Hid (W1.drew.cell? ⟨bq, 0, none⟩ = some (.int .i64 x) ∧ W1.drew.cell? ⟨bq, 1, none⟩ = some (.int .i64 y)) := HQ.out
 have HLL : Hid (0 < p.length → ∃ g, ua = some ⟨g, 0, none⟩ ∧ W1.drew.cell? ⟨g, (p.length - 1) * 2, none⟩ = some (.int .i64 (lastP p).1) ∧ W1.drew.cell? ⟨g, (p.length - 1) * 2 + 1, none⟩ = some (.int .i64 (lastP p).2)) := fun h0 => by
  rcases OwnP.lay CD.out.d.pt with ⟨_, e⟩ | ⟨g, c, e, h1, h2⟩
  ·rw [e] at h0; simp at h0
  ·injection e with e1 e2 e3
   refine ⟨g, e1, ?_⟩
   rcases h2.pts with hx | ⟨b, off, e, _, hc⟩
   ·rw [hx] at h0; simp at h0
   ·injection e with e; injection e with e4 e5
    subst e4 e5
    have := hc (p.length - 1) (by omega)
    unfold lastP
    simpa using this
 have hwm : 0 < p.length → IntKind.i64.wrap ((p.length : Int) - 1) = ((p.length - 1 : Nat) : Int) := fun h0 => by rw [IntWalk.i64_in _ ⟨by omega, by omega⟩]; omega
 have htm : ((at' : Int)).tmod 2 = ((at' % 2 : Nat) : Int) := by
  rw [Int.tmod_eq_emod_of_nonneg (by omega)]
  first | exact (Int.natCast_emod _ _).symm | rfl
 have HSK : Hid (skipB ⟨at', left, begun, p, o⟩ (x, y) = (decide (at' % 2 = 1) || (decide (0 < p.length) && decide (lastP p = (x, y))))) := rfl
 generalize hrd : reachD ⟨at', left, begun, p, o⟩ (x, y) = R
 have HRD : Hid (reachD ⟨at', left, begun, p, o⟩ (x, y) = R) := hrd
 clear hrd
 have HKB1 : Hid (Kb bx W1 v it (.slice ua p.length uc) K) := Kb.nw hkb n1
 have HD1 : Hid (DH bx W1 (.slice na ns.length nc) at' left begun v it (.slice ua p.length uc) p) := hd1
 clear hkb hd hd1 ho hw n1 n0 hW1 hbq hpl
 generalize hnp : p.length = np at *
 have HNP : Hid (p.length = np) := hnp
 generalize hnn : ns.length = n at *
 have HN : Hid (ns.length = n) := hnn
 clear hnp hnn
 by_cases hg : at' % 2 = 1
 ·have hg1 : decide ((at' : Int).tmod 2 = 1) = true := by rw [htm]; simp; omega
  have HRE : Hid (R = ⟨at', left, begun, p, o⟩) := by
   show _ = _
   rw [← HRD.out]
   exact rD_skip (by rw [HSK.out, decide_eq_true hg]; rfl)
  clear htm hwm hg
  go_enter Tryz.func32, Tryz.ntmps32
  go_wp2
  rw [HW1.out, HBQ.out]
  refine reg_change (ops' := opsOf 1 Tryz.f32) (by kernel_rfl) ?_
  refine RCA.run ⟨bx, bq, x, y, at', W1.drew, _⟩ ⟨QD.out.1, QD.out.2, CD.out.c1, hg1, rfl, rfl, rfl⟩ W1 (Kp.refl _) ?_
  rintro γ w9 k9
  have K9 : Hid (Nw W1 w9) := Nw.trans ((Below.refl _ _).drew) k9.nw
  clear k9
  simp only [Act.put, List.setIfInBounds_toArray, List.set_cons_zero, List.set_cons_succ]
  generalize γ 0 = z0 at *
  generalize γ 1 = z1 at *
  go_wp2
  (try simp only [Exit.inBlock, Exit.then])
  refine bodyPost_ret (results_none rfl _ _ _) rfl ?_
  refine ⟨rfl, ?_⟩
  rw [HRE.out]
  exact DhS.of (d := ⟨at', left, begun, p, o⟩) (by rw [HN.out]; exact DH.nw HD1.out K9.out) HO.out (Nw.trans N1.out K9.out) rfl rfl rfl rfl (Kb.nw HKB1.out K9.out)
 ·have hg1 : decide ((at' : Int).tmod 2 = 1) = false := by rw [htm]; simp; omega
  have HG : Hid (¬ at' % 2 = 1) := hg
  by_cases h0 : 0 < np
  ·obtain ⟨g, hua, px, py⟩ := HLL.out h0
   subst hua
   by_cases he : lastP p = (x, y)
   ·have HRE : Hid (R = ⟨at', left, begun, p, o⟩) := by
     show _ = _
     rw [← HRD.out]
     exact rD_skip (by rw [HSK.out, decide_eq_true h0, decide_eq_true he]; simp)
    rw [he] at px py
    simp only at px py
    have hwm' := hwm h0
    have PP : Hid (W1.drew.cell? ⟨g, (np - 1) * 2, none⟩ = some (.int .i64 x) ∧ W1.drew.cell? ⟨g, (np - 1) * 2 + 1, none⟩ = some (.int .i64 y)) := ⟨px, py⟩
    clear htm hwm hg he px py
    go_enter Tryz.func32, Tryz.ntmps32
    go_wp2
    rw [HW1.out, HBQ.out]
    refine reg_change (ops' := opsOf 1 Tryz.f32) (by kernel_rfl) ?_
    refine RCC.run ⟨bx, bq, x, y, at', g, np, np - 1, uc, W1.drew, _⟩ ⟨QD.out.1, QD.out.2, CD.out.c4, CD.out.c1, hg1, h0, hwm', by show np - 1 < np; omega, PP.out.1, PP.out.2, rfl, rfl, rfl⟩ W1 (Kp.refl _) ?_
    rintro γ w9 k9
    have K9 : Hid (Nw W1 w9) := Nw.trans ((Below.refl _ _).drew) k9.nw
    clear k9
    simp only [Act.put, List.setIfInBounds_toArray, List.set_cons_zero, List.set_cons_succ]
    generalize γ 0 = z0 at *
    generalize γ 1 = z1 at *
    go_wp2
    (try simp only [Exit.inBlock, Exit.then])
    refine bodyPost_ret (results_none rfl _ _ _) rfl ?_
    refine ⟨rfl, ?_⟩
    rw [HRE.out]
    exact DhS.of (d := ⟨at', left, begun, p, o⟩) (by rw [HN.out]; exact DH.nw HD1.out K9.out) HO.out (Nw.trans N1.out K9.out) rfl rfl rfl rfl (Kb.nw HKB1.out K9.out)
   ·have HRE : Hid (R = ⟨at', left, begun, p ++ [(x, y)], o⟩) := by
     show _ = _
     rw [← HRD.out]
     exact rD_add (by rw [HSK.out, decide_eq_false HG.out, decide_eq_false he]; simp)
    have hwm' := hwm h0
    have hv : (lastP p).1 = x → ¬ (lastP p).2 = y := fun h1 h2 => he (by rw [← h1, ← h2])
    have PP : Hid (W1.drew.cell? ⟨g, (np - 1) * 2, none⟩ = some (.int .i64 (lastP p).1) ∧ W1.drew.cell? ⟨g, (np - 1) * 2 + 1, none⟩ = some (.int .i64 (lastP p).2)) := ⟨px, py⟩
    clear htm hwm hg he px py
    generalize (lastP p).1 = lx at *
    generalize (lastP p).2 = ly at *
    obtain ⟨ua, hua⟩ : ∃ ua, (some ⟨g, 0, none⟩ : Option Addr) = ua := ⟨_, rfl⟩
    go_enter Tryz.func32, Tryz.ntmps32
    go_wp2
    rw [HW1.out, HBQ.out]
    refine reg_change (ops' := opsOf 1 Tryz.f32) (by kernel_rfl) ?_
    refine RCD.run ⟨bx, bq, x, y, at', g, np, np - 1, uc, lx, ly, W1.drew, _⟩ ⟨QD.out.1, QD.out.2, CD.out.c4, CD.out.c1, hg1, h0, hwm', by show np - 1 < np; omega, PP.out.1, PP.out.2, hv, rfl, rfl, rfl⟩ W1 (Kp.refl _) ?_
    rw [hua] at HD1 CD HKB1
    rintro γ w9 k9
    have K9 : Hid (Nw W1 w9) := Nw.trans ((Below.refl _ _).drew) k9.nw
    have n9 : Nw w9 w9.drew := (Below.refl _ _).drew
    have D9 : Hid (DH bx w9.drew (.slice na n nc) at' left begun v it (.slice ua np uc) p) := DH.nw HD1.out (Nw.trans K9.out n9)
    have Q9 : Hid (w9.drew.cell? ⟨bq, 0, none⟩ = some (.int .i64 x) ∧ w9.drew.cell? ⟨bq, 1, none⟩ = some (.int .i64 y)) := ⟨((bcell (Nw.trans K9.out n9)).1 _ _ LQ.out).trans HQ.out.1, ((bcell (Nw.trans K9.out n9)).1 _ _ LQ.out).trans HQ.out.2⟩
    have KB9 : Hid (Kb bx w9.drew v it (.slice ua np uc) K) := Kb.nw HKB1.out (Nw.trans K9.out n9)
    have N9 : Hid (Nw w0 w9.drew) := Nw.trans N1.out (Nw.trans K9.out n9)
    have HA : Hid (Calls Tryz.prog 61 #[.pointer (some ⟨bx, 4, none⟩), .slice (some ⟨w9.drew.heap.size, 0, none⟩) 1 1] (w9.drew.alloc (.cells #[.int .i64 x, .int .i64 y] 34)) fun e w' => e = .returned (.tuple #[]) ∧ ∃ u', DH bx w' (.slice na n nc) at' left begun v it u' (p ++ [(x, y)]) ∧ Nw w0 w' ∧ Kb bx w' v it u' K) := by
     have n1 : Nw w9.drew (w9.drew.alloc (.cells #[.int .i64 x, .int .i64 y] 34)) := (Below.refl _ _).alloc (Nat.le_refl _) _
     have D1 := DH.nw D9.out n1
     refine (iaddP _ bx 4 (bx + 1) (.slice ua np uc) p [(x, y)] w9.drew.heap.size 0 1 1 rfl D1.c4 (D1.free 4) D1.d.pt (liep_one w9.drew x y _) (by simp) (by have := HPL.out; have := HNP.out; simp; omega) (by have := D1.lt; omega) D1.neu).mono ?_
     rintro e w' ⟨rfl, g', c', w2, k1, k2, rfl⟩
     obtain ⟨d1, d2⟩ := DH.pput D1 k2 k1
     exact ⟨rfl, _, d1, Below.trans (Nw.trans N9.out n1) (Below.mono d2 hb0), Kb.set (Kb.pput (Kb.nw KB9.out n1) k2) 4 _⟩
    clear k9 n9
    simp only [Act.put, List.setIfInBounds_toArray, List.set_cons_zero, List.set_cons_succ]
    generalize γ 0 = z0 at *
    generalize γ 1 = z1 at *
    go_wp2
    refine reg_change (ops' := opsOf 2 Tryz.f32) (by kernel_rfl) ?_
    refine RC2.run ⟨bx, bq, x, y, fun w' => ∃ u', DH bx w' (.slice na n nc) at' left begun v it u' (p ++ [(x, y)]) ∧ Nw w0 w' ∧ Kb bx w' v it u' K, w9.drew, _⟩ ⟨Q9.out.1, Q9.out.2, HA.out, rfl, rfl, rfl⟩ w9 rfl ?_
    rintro γ2 w10 h10
    have H10 : Hid (∃ u', DH bx w10 (.slice na n nc) at' left begun v it u' (p ++ [(x, y)]) ∧ Nw w0 w10 ∧ Kb bx w10 v it u' K) := h10
    clear h10
    simp only [Act.put, List.setIfInBounds_toArray, List.set_cons_zero, List.set_cons_succ]
    generalize γ2 0 = z2 at *
    generalize γ2 1 = z3 at *
    go_wp2
    go_end0
    refine ⟨rfl, ?_⟩
    rw [HRE.out]
    obtain ⟨u', d1, d2, d3⟩ := H10.out
    exact DhS.of (d := ⟨at', left, begun, p ++ [(x, y)], o⟩) (by rw [HN.out]; exact d1) HO.out d2 rfl rfl rfl rfl d3
  ·have HRE : Hid (R = ⟨at', left, begun, p ++ [(x, y)], o⟩) := by
    show _ = _
    rw [← HRD.out]
    exact rD_add (by rw [HSK.out, decide_eq_false HG.out, decide_eq_false h0]; rfl)
   have hnp0 : np = 0 := by omega
   subst hnp0
   clear htm hwm hg
   go_enter Tryz.func32, Tryz.ntmps32
   go_wp2
   rw [HW1.out, HBQ.out]
   refine reg_change (ops' := opsOf 1 Tryz.f32) (by kernel_rfl) ?_
   refine RCB.run ⟨bx, bq, x, y, at', ua, uc, W1.drew, _⟩ ⟨QD.out.1, QD.out.2, CD.out.c4, CD.out.c1, hg1, rfl, rfl, rfl⟩ W1 (Kp.refl _) ?_
   rintro γ w9 k9
   have K9 : Hid (Nw W1 w9) := Nw.trans ((Below.refl _ _).drew) k9.nw
   have n9 : Nw w9 w9.drew := (Below.refl _ _).drew
   have D9 : Hid (DH bx w9.drew (.slice na n nc) at' left begun v it (.slice ua 0 uc) p) := DH.nw HD1.out (Nw.trans K9.out n9)
   have Q9 : Hid (w9.drew.cell? ⟨bq, 0, none⟩ = some (.int .i64 x) ∧ w9.drew.cell? ⟨bq, 1, none⟩ = some (.int .i64 y)) := ⟨((bcell (Nw.trans K9.out n9)).1 _ _ LQ.out).trans HQ.out.1, ((bcell (Nw.trans K9.out n9)).1 _ _ LQ.out).trans HQ.out.2⟩
   have KB9 : Hid (Kb bx w9.drew v it (.slice ua 0 uc) K) := Kb.nw HKB1.out (Nw.trans K9.out n9)
   have N9 : Hid (Nw w0 w9.drew) := Nw.trans N1.out (Nw.trans K9.out n9)
   have HA : Hid (Calls Tryz.prog 61 #[.pointer (some ⟨bx, 4, none⟩), .slice (some ⟨w9.drew.heap.size, 0, none⟩) 1 1] (w9.drew.alloc (.cells #[.int .i64 x, .int .i64 y] 34)) fun e w' => e = .returned (.tuple #[]) ∧ ∃ u', DH bx w' (.slice na n nc) at' left begun v it u' (p ++ [(x, y)]) ∧ Nw w0 w' ∧ Kb bx w' v it u' K) := by
    have n1 : Nw w9.drew (w9.drew.alloc (.cells #[.int .i64 x, .int .i64 y] 34)) := (Below.refl _ _).alloc (Nat.le_refl _) _
    have D1 := DH.nw D9.out n1
    refine (iaddP _ bx 4 (bx + 1) (.slice ua 0 uc) p [(x, y)] w9.drew.heap.size 0 1 1 rfl D1.c4 (D1.free 4) D1.d.pt (liep_one w9.drew x y _) (by simp) (by have := HPL.out; have := HNP.out; simp; omega) (by have := D1.lt; omega) D1.neu).mono ?_
    rintro e w' ⟨rfl, g', c', w2, k1, k2, rfl⟩
    obtain ⟨d1, d2⟩ := DH.pput D1 k2 k1
    exact ⟨rfl, _, d1, Below.trans (Nw.trans N9.out n1) (Below.mono d2 hb0), Kb.set (Kb.pput (Kb.nw KB9.out n1) k2) 4 _⟩
   clear k9 n9
   simp only [Act.put, List.setIfInBounds_toArray, List.set_cons_zero, List.set_cons_succ]
   generalize γ 0 = z0 at *
   generalize γ 1 = z1 at *
   go_wp2
   refine reg_change (ops' := opsOf 2 Tryz.f32) (by kernel_rfl) ?_
   refine RC2.run ⟨bx, bq, x, y, fun w' => ∃ u', DH bx w' (.slice na n nc) at' left begun v it u' (p ++ [(x, y)]) ∧ Nw w0 w' ∧ Kb bx w' v it u' K, w9.drew, _⟩ ⟨Q9.out.1, Q9.out.2, HA.out, rfl, rfl, rfl⟩ w9 rfl ?_
   rintro γ2 w10 h10
   have H10 : Hid (∃ u', DH bx w10 (.slice na n nc) at' left begun v it u' (p ++ [(x, y)]) ∧ Nw w0 w10 ∧ Kb bx w10 v it u' K) := h10
   clear h10
   simp only [Act.put, List.setIfInBounds_toArray, List.set_cons_zero, List.set_cons_succ]
   generalize γ2 0 = z2 at *
   generalize γ2 1 = z3 at *
   go_wp2
   go_end0
   refine ⟨rfl, ?_⟩
   rw [HRE.out]
   obtain ⟨u', d1, d2, d3⟩ := H10.out
   exact DhS.of (d := ⟨at', left, begun, p ++ [(x, y)], o⟩) (by rw [HN.out]; exact d1) HO.out d2 rfl rfl rfl rfl d3
theorem under_llnsD : Tryz.prog.underlying 65 = some (.slice 25) := by kernel_rfl
theorem one_lineD {w : World} {B : Nat} {u : Value} {ld : LD} {l : List Pnt} (h : OwnP w B u l) : ∀ x ∈ flat2 (vLn [(u, ld)]), x.oneCell' = true := by
 obtain ⟨a, n, c, rfl⟩ := OwnQ.slice h
 intro x hx
 simp only [vLn, List.map_cons, List.map_nil, flat2, List.mem_cons, List.not_mem_nil, or_false] at hx
 rcases hx with rfl | rfl <;> rfl
set_option maxHeartbeats 1000000 in
theorem iaddLn (w : World) (b o B : Nat) (v : Value) (it : Its) (u : Value) (ld : LD) (g : Nat) (hbox : w.cell? ⟨b, o, none⟩ = some v) (hfr : w.frozen? ⟨b, o, none⟩ = false) (hown : OwnQ 25 w B v (vLn it)) (hu : OwnP w B u ld.pts)
  (h0 : w.cell? ⟨g, 0, none⟩ = some u) (h1 : w.cell? ⟨g, 1, none⟩ = some (.bool ld.closed)) (hlen : it.length + 1 ≤ 1000000) (hB : B ≤ w.heap.size) (hne : v.ownBlock ≠ some b) :
  Calls Tryz.prog 44 #[.pointer (some ⟨b, o, none⟩), .slice (some ⟨g, 0, none⟩) 1 1] w fun e w' => e = .returned (.tuple #[]) ∧ ∃ v' w1, OwnQ 25 w1 B v' (vLn (it ++ [(u, ld)])) ∧ Ext v v' w w1 ∧ w' = w1.setCell ⟨b, o, none⟩ v' := by
 have hb : b < w.heap.size := World.block_lt_of_cell? w ⟨b, o, none⟩ hbox
 obtain ⟨sa, sn, sc, rfl⟩ := OwnQ.slice hown
 have HO : Hid _ := hown
 have HI : Hid (∀ i, i < (vLn [(u, ld)]).length → w.cell? ⟨g, 0 + i * 2, none⟩ = some (vvAt (vLn [(u, ld)]) i).1 ∧ w.cell? ⟨g, 0 + i * 2 + 1, none⟩ = some (vvAt (vLn [(u, ld)]) i).2) := fun i hi => by
  have : i = 0 := by simp [vLn] at hi; omega
  subst this
  exact ⟨h0, h1⟩
 have H1 : Hid (∀ x ∈ flat2 (vLn [(u, ld)]), x.oneCell' = true) := one_lineD hu
 have HB : Hid (B ≤ w.heap.size) := hB
 have HL : Hid (it.length + 1 ≤ 1000000) := hlen
 have HE : Hid ((Value.slice sa sn sc).ownBlock ≠ some b) := hne
 clear hown hu hB hlen hne h0 h1
 go_enter Tryz.func44, Tryz.ntmps44
 go_wp2_with (at_builtin; (refine wpl_q 25 65 29 (.slice none 0 0) (.bool false) 32 under_llnsD under_lns info_line (by decide) rfl w (.tmp 7) (.tmp 8) rfl B (.slice sa sn sc) (vLn it) (vLn [(u, ld)]) rfl HO.out g 0 1 1 rfl rfl HI.out H1.out (by rw [vLn_len]; simp) ?cl HB.out rfl ?_))
 case cl => rw [vLn_len, vLn_len]; have := HL.out; simp; omega
 intro g' c' w1 h2 h3
 rw [← vLn_append] at h2
 rw [vLn_len] at h2 h3 ⊢
 have y0 : w1.cell? ⟨b, o, none⟩ = some (.slice sa sn sc) := (Ext.cell h3 hb HE.out o).trans hbox
 have y1 : w1.frozen? ⟨b, o, none⟩ = false := (World.frozen?_of_block (w := w) (a := ⟨b, o, none⟩) (h3.1.block b hb (fun e => HE.out e.symm))).trans hfr
 have H2 : Hid _ := h2
 have H3 : Hid _ := h3
 clear h2 h3 hbox hfr
 go_wp2
 go_end0
 exact ⟨rfl, _, w1, H2.out, H3.out, rfl⟩
set_option maxRecDepth 100000 in
set_option maxHeartbeats 4000000 in
theorem ilay (w0 w : World) (bx : Nat) (K : List (Nat × Int × Int)) (na : Option Addr) (nc : Nat) (ns : List Int) (d : Dg) (hb0 : w0.heap.size ≤ bx) (hol : d.o.length ≤ 100000) (h : DhS bx w0 w K na nc ns d) :
  Calls Tryz.prog 34 #[.pointer (some ⟨bx, 0, none⟩)] w fun e w' => e = .returned (.tuple #[]) ∧ DhS bx w0 w' K na nc ns (layD d) := by
 obtain ⟨v, it, u, hd, ho, hw, hkb⟩ := h
 obtain ⟨at', left, begun, p, o⟩ := d
 simp only at hd ho hol
 have HOL : Hid (it.length ≤ 100000) := by show _ ≤ _; rw [← ho, List.length_map] at hol; exact hol
 have HO : Hid (it.map (·.2) = o) := ho
 obtain ⟨ua, uc, hu⟩ := D2.val hd.d
 subst hu
 have HD : Hid (DH bx w (.slice na ns.length nc) at' left begun v it (.slice ua p.length uc) p) := hd
 have HW : Hid (Nw w0 w) := hw
 have HKB : Hid (Kb bx w v it (.slice ua p.length uc) K) := hkb
 have HLD : Hid (layD ⟨at', left, begun, p, o⟩ = ⟨at', left, begun, [], endL o p false⟩) := rfl
 have c4 := hd.c4
 have fr := hd.free
 clear hkb hd ho hw hol
 generalize hnp : p.length = np at *
 have HNP : Hid (p.length = np) := hnp
 generalize hnn : ns.length = n at *
 have HN : Hid (ns.length = n) := hnn
 clear hnp hnn
 by_cases h1 : 1 < np
 ·have d1 : decide ((1 : Int) < (np : Int)) = true := by simp; omega
  have HEL : Hid ((it ++ [(Value.slice ua np uc, (⟨p, false⟩ : LD))]).map (·.2) = endL o p false) := by
   show _ = _
   unfold endL
   rw [HNP.out, if_pos h1, ← HO.out]
   simp
  have n0 : Nw w w.drew := (Below.refl _ _).drew
  have n1 : Nw w.drew (w.drew.alloc (.cells #[.slice ua np uc, .bool false] 25)) := (Below.refl _ _).alloc (Nat.le_refl _) _
  have D1 : Hid _ := DH.nw HD.out (Nw.trans n0 n1)
  have KB1 : Hid (Kb bx (w.drew.alloc (.cells #[.slice ua np uc, .bool false] 25)) v it (.slice ua np uc) K) := Kb.nw HKB.out (Nw.trans n0 n1)
  have N1 : Hid (Nw w0 (w.drew.alloc (.cells #[.slice ua np uc, .bool false] 25))) := Nw.trans HW.out (Nw.trans n0 n1)
  have HA : Hid (Calls Tryz.prog 44 #[.pointer (some ⟨bx, 5, none⟩), .slice (some ⟨w.drew.heap.size, 0, none⟩) 1 1] (w.drew.alloc (.cells #[.slice ua np uc, .bool false] 25)) fun e w' => e = .returned (.tuple #[]) ∧ ∃ v' w2, OwnQ 25 w2 (bx + 1) v' (vLn (it ++ [(.slice ua np uc, ⟨p, false⟩)])) ∧ Ext v v' (w.drew.alloc (.cells #[.slice ua np uc, .bool false] 25)) w2 ∧ w' = w2.setCell ⟨bx, 5, none⟩ v') :=
   iaddLn _ bx 5 (bx + 1) v it (.slice ua np uc) ⟨p, false⟩ w.drew.heap.size D1.out.c5 (D1.out.free 5) D1.out.d.ln.own D1.out.d.pt (by rw [World.cell?_alloc_at _ _ _ _ rfl]; rfl) (by rw [World.cell?_alloc_at _ _ _ _ rfl]; rfl) (by have := HOL.out; omega) (by have := D1.out.lt; omega) D1.out.nev
  have C4 : Hid (w.drew.cell? ⟨bx, 4, none⟩ = some (.slice ua np uc)) := (DH.nw HD.out n0).c4
  clear n0 n1 h1
  go_enter Tryz.func34, Tryz.ntmps34
  go_wp2
  refine reg_change (ops' := opsOf 1 Tryz.f34) (by kernel_rfl) ?_
  refine LYR.run ⟨bx, ua, np, uc, fun w' => ∃ v' w2, OwnQ 25 w2 (bx + 1) v' (vLn (it ++ [(.slice ua np uc, ⟨p, false⟩)])) ∧ Ext v v' (w.drew.alloc (.cells #[.slice ua np uc, .bool false] 25)) w2 ∧ w' = w2.setCell ⟨bx, 5, none⟩ v', w.drew, _⟩ ⟨C4.out, HA.out, rfl, rfl⟩ w rfl ?_
  rintro γ w9 ⟨v', w2, o2, x2, hw9⟩
  obtain ⟨p1, p2⟩ := DH.lput D1.out x2 o2
  have s4 : w9.cell? ⟨bx, 4, none⟩ = some (.slice ua np uc) := by
   rw [hw9, World.cell?_setCell_other _ _ _ _ (fun e => by injection e; omega)]
   exact (Ext.cell x2 D1.out.lt D1.out.nev 4).trans D1.out.c4
  have sf : ∀ o, w9.frozen? ⟨bx, o, none⟩ = false := fun o => by
   rw [hw9, World.frozen?_setCell]
   exact (World.frozen?_of_block (a := ⟨bx, o, none⟩) (x2.1.block bx D1.out.lt (fun e => D1.out.nev e.symm))).trans (D1.out.free o)
  rw [← hw9] at p1 p2
  have P1 : Hid _ := p1
  have P2 : Hid (Nw w0 (w9.setCell ⟨bx, 4, none⟩ (.slice none 0 0))) := Below.trans N1.out (Below.mono p2 hb0)
  have P3 : Hid (Kb bx (w9.setCell ⟨bx, 4, none⟩ (.slice none 0 0)) v' (it ++ [(.slice ua np uc, ⟨p, false⟩)]) (.slice none 0 0) K) := by
   show Kb _ _ _ _ _ _
   rw [hw9]
   exact Kb.drop (Kb.set (Kb.set (Kb.lput KB1.out x2) 5 _) 4 _)
  clear p1 p2 o2 x2 hw9 c4 fr
  simp only [Act.put, List.setIfInBounds_toArray, List.set_cons_zero, List.set_cons_succ]
  generalize γ 0 = z0 at *
  generalize γ 1 = z1 at *
  go_wp2
  go_end0
  refine ⟨rfl, ?_⟩
  rw [HLD.out]
  exact DhS.of (d := ⟨at', left, begun, [], endL o p false⟩) (by rw [HN.out]; exact P1.out) HEL.out P2.out rfl rfl rfl rfl P3.out
 ·have d1 : decide ((1 : Int) < (np : Int)) = false := by simp; omega
  have HEL : Hid (it.map (·.2) = endL o p false) := by show _ = _; unfold endL; rw [HNP.out, if_neg h1]; exact HO.out
  have HP : Hid _ := DH.drop HD.out
  clear h1
  go_enter Tryz.func34, Tryz.ntmps34
  go_wp2
  go_end0
  refine ⟨rfl, ?_⟩
  rw [HLD.out]
  exact DhS.of (d := ⟨at', left, begun, [], endL o p false⟩) (by rw [HN.out]; exact HP.out.1) HEL.out (Below.trans HW.out (Below.mono HP.out.2 hb0)) rfl rfl rfl rfl (Kb.drop (Kb.set HKB.out 4 _))
theorem rD_bd (d : Dg) (q : Pnt) : (reachD d q).p.length ≤ d.p.length + 1 ∧ (reachD d q).o = d.o ∧ (reachD d q).at' = d.at' ∧ (reachD d q).begun = d.begun ∧ (reachD d q).left = d.left := by
 unfold reachD
 split
 ·exact ⟨by omega, rfl, rfl, rfl, rfl⟩
 ·exact ⟨by simp, rfl, rfl, rfl, rfl⟩
set_option maxRecDepth 100000 in
set_option maxHeartbeats 4000000 in
theorem iturn (w0 w : World) (bx : Nat) (K : List (Nat × Int × Int)) (na : Option Addr) (nc : Nat) (ns : List Int) (d : Dg) (x y : Int) (hb0 : w0.heap.size ≤ bx) (hn : 0 < ns.length) (ha : d.at' ≤ 100000) (hbe : d.begun ≤ 100000) (hp : d.p.length ≤ 50000) (hol : d.o.length ≤ 50000) (hI : Ints w0 na ns) (h : DhS bx w0 w K na nc ns d) :
  Calls Tryz.prog 63 #[.pointer (some ⟨bx, 0, none⟩), .agg #[.int .i64 x, .int .i64 y]] w fun e w' => e = .returned (.tuple #[]) ∧ DhS bx w0 w' K na nc ns (turnD ns d (x, y)) := by
 obtain ⟨b1, b2, b3, b4, b5⟩ := rD_bd d (x, y)
 have HT : Hid (turnD ns d (x, y) = reachD (moreD (nextD ns (layD (reachD d (x, y))))) (x, y)) := rfl
 obtain ⟨W1, hW1⟩ : ∃ W1, w.alloc (.cells #[.int .i64 x, .int .i64 y] 34) = W1 := ⟨_, rfl⟩
 have h1 := DhS.box h x y 34
 rw [hW1] at h1
 obtain ⟨bq, hbq⟩ : ∃ bq, w.heap.size = bq := ⟨_, rfl⟩
 rw [hbq] at h1
 have H1 : Hid (DhS bx w0 W1 ((bq, x, y) :: K) na nc ns d) := h1
 have HW1 : Hid (_ = W1) := hW1
 have HBQ : Hid (w.heap.size = bq) := hbq
 have HI : Hid (Ints w0 na ns) := hI
 have HB : Hid ((reachD d (x, y)).p.length ≤ d.p.length + 1 ∧ (reachD d (x, y)).o = d.o ∧ (reachD d (x, y)).at' = d.at' ∧ (reachD d (x, y)).begun = d.begun ∧ (reachD d (x, y)).left = d.left) := ⟨b1, b2, b3, b4, b5⟩
 clear b1 b2 b3 b4 b5 h h1 hW1 hbq hI
 go_enter Tryz.func63, Tryz.ntmps63
 go_wp2_with fail
 rw [HW1.out, HBQ.out]
 refine Calls.mono (ireach w0 W1 bx _ na nc ns d x y hb0 (by omega) H1.out) ?_
 rintro e w2 ⟨rfl, h2⟩
 have H2 : Hid (DhS bx w0 w2 ((bq, x, y) :: K) na nc ns (reachD d (x, y))) := h2
 clear h2
 go_wp2_with fail
 refine Calls.mono (ilay w0 w2 bx _ na nc ns (reachD d (x, y)) hb0 (by rw [HB.out.2.1]; omega) H2.out) ?_
 rintro e w3 ⟨rfl, h3⟩
 have H3 : Hid (DhS bx w0 w3 ((bq, x, y) :: K) na nc ns (layD (reachD d (x, y)))) := h3
 clear h3
 go_wp2_with fail
 refine Calls.mono (inext w0 w3 bx _ na nc ns (layD (reachD d (x, y))) hb0 hn (by show (reachD d (x, y)).at' ≤ 1000000; rw [HB.out.2.2.1]; omega) HI.out H3.out) ?_
 rintro e w4 ⟨rfl, v4, it4, u4, d4, o4, n4, k4⟩
 have c3 := d4.c3
 have fr := d4.free
 have hbg : (nextD ns (layD (reachD d (x, y)))).begun = d.begun := HB.out.2.2.2.1
 rw [hbg] at c3
 obtain ⟨s1, s2⟩ := DH.setB d4 ((d.begun : Int) + 1)
 have H5 : Hid (DhS bx w0 (w4.setCell ⟨bx, 3, none⟩ (.int .i64 ((d.begun : Int) + 1))) ((bq, x, y) :: K) na nc ns (moreD (nextD ns (layD (reachD d (x, y)))))) :=
  DhS.of s1 o4 (Below.trans n4 (Below.mono s2 hb0)) rfl rfl (by show _ = ((_ + 1 : Nat) : Int); rw [hbg]; simp) rfl (Kb.set k4 3 _)
 obtain ⟨q0, q1⟩ := DhS.at H5.out (b := bq) (x := x) (y := y) (List.mem_cons_self ..)
 clear d4 o4 n4 k4 s1 s2
 go_wp2_with fail
 refine Calls.mono (ireach w0 _ bx _ na nc ns (moreD (nextD ns (layD (reachD d (x, y))))) x y hb0 (by show ([] : List Pnt).length ≤ _; simp) H5.out) ?_
 rintro e w6 ⟨rfl, h6⟩
 have H6 : Hid _ := h6
 clear h6 c3 fr q0 q1
 go_wp2
 go_end0
 exact ⟨rfl, by rw [HT.out]; exact DhS.sub H6.out (fun k hk => List.mem_cons_of_mem _ hk)⟩
theorem wpl_ln {ops : Array Oper} {rest : List Oper} {o : Oper} {a : Act} {Q : PQ} (wS w : World) (hgd : o.guard = none) (s x : Operand)
  (ho : o.op = .call { callee := .builtin .append, args := #[s, x], argTypes := #[29, 29] }) (B : Nat) (v : Value) (it : Its) (u : Value) (ld : LD) (hs : a.eval s = v) (h : OwnLn wS B v it) (k : Nw wS w) (hB : B ≤ wS.heap.size) (hu : OwnP w wS.heap.size u ld.pts)
  (hx : a.eval x = .slice (some ⟨w.heap.size, 0, none⟩) 1 1) (hl : it.length + 1 ≤ 1000000)
  (hc : ∀ g' c' w', OwnLn w' B (.slice (some ⟨g', 0, none⟩) (it.length + 1) c') (it ++ [(u, ld)]) → Below B wS w' → wpList Tryz.prog ops Q rest (a.put o.dst (.slice (some ⟨g', 0, none⟩) (it.length + 1) c')) w') : wpList Tryz.prog ops Q (o :: rest) a (w.alloc (.cells #[u, .bool ld.closed] 25)) := by
 have n1 : Nw w (w.alloc (.cells #[u, .bool ld.closed] 25)) := (Below.refl _ _).alloc (Nat.le_refl _) _
 have hsz := Below.size k
 refine wpl_q 25 29 29 (.slice none 0 0) (.bool false) 32 under_lns under_lns info_line (by decide) rfl _ s x ho B v (vLn it) (vLn [(u, ld)]) hs (OwnQ.nw h.own (Nw.trans k n1)) w.heap.size 0 1 1 rfl hx (fun i hi => ?_) (one_lineD hu) (by rw [vLn_len]; simp) (by rw [vLn_len, vLn_len]; simp; omega) (by simp; omega) hgd ?_
 ·have : i = 0 := by simp [vLn] at hi; omega
  subst this
  exact ⟨by simp [vLn, vvAt], by simp [vLn, vvAt]⟩
 ·intro g' c' w' h2 h3
  rw [← vLn_append] at h2
  rw [vLn_len] at h2 h3 ⊢
  refine hc g' c' w' (OwnLn.put h (Nw.trans k n1) hB (OwnP.nw hu n1) h2 h3) ?_
  exact Below.trans (Below.mono (Nw.trans k n1) hB) (Ext.below h3 (fun g hg => (OwnQ.lt h.own g hg).1) (by simp; omega))
def bandL (x : Sg) : LD := ⟨[(x.f.1 + x.s.1, x.f.2 + x.s.2), (x.t.1 + x.s.1, x.t.2 + x.s.2), (x.t.1 - x.s.1, x.t.2 - x.s.2), (x.f.1 - x.s.1, x.f.2 - x.s.2)], true⟩
def wpt (p : Pnt) : Prop := wid p.1 ∧ wid p.2
def wsg (x : Sg) : Prop := wpt x.f ∧ wpt x.t ∧ wpt x.s
set_option maxRecDepth 100000 in
set_option maxHeartbeats 4000000 in
theorem ibands (w : World) (a : Option Addr) (c : Nat) (l : List Sg) (hl : l.length ≤ 900000) (hg : ∀ i, i < l.length → wsg (sgAt l i)) (hr : Sgs w a l) :
  Calls Tryz.prog 72 #[.slice a l.length c] w fun e w' => ∃ v, e = .returned v ∧ LsOk w' w.heap.size v (l.map bandL) ∧ Nw w w' := by
 have HS : Hid (∀ k, k < l.length → (l.take (k + 1)).map bandL = (l.take k).map bandL ++ [bandL (sgAt l k)]) := fun k hk => by
  rw [List.take_add_one, List.getElem?_eq_getElem hk, List.map_append]
  simp [sgAt, hk]
 have H0 : Hid ((l.take 0).map bandL = []) := by show _ = _; simp
 have HT : Hid ((l.take l.length).map bandL = l.map bandL) := by show _ = _; rw [List.take_length]
 have HL : Hid (∀ k, k ≤ l.length → ((l.take k).map bandL).length = k) := fun k hk => by simp; omega
 have HR : Hid (Sgs w a l) := hr
 have HG : Hid _ := hg
 clear hr hg
 obtain ⟨R, hR⟩ : ∃ R, l.map bandL = R := ⟨_, rfl⟩
 obtain ⟨G, hG⟩ : ∃ G : Nat → List LD, (fun k => (l.take k).map bandL) = G := ⟨_, rfl⟩
 have hG' : ∀ k, (l.take k).map bandL = G k := fun k => congrFun hG k
 simp only [hG', hR] at HS H0 HT HL
 rw [hR]
 clear hG hG' hR
 obtain ⟨n, hn⟩ : ∃ n, l.length = n := ⟨_, rfl⟩
 have HN : Hid (l.length = n) := hn
 rw [hn] at HS HT HL HG hl ⊢
 clear hn
 go_enter Tryz.func72, Tryz.ntmps72
 go_wp2
 go_loopw [8, 3] (fun i v wr => ∃ (k : Nat) (it : Its), k ≤ n ∧ i = .int .i64 (k : Int) ∧ OwnLn wr w.heap.size v it ∧ it.map (·.2) = G k ∧ Nw w wr) (fun i _ _ => n - (intOf i).toNat)
 case atStart => exact ⟨0, [], Nat.zero_le _, rfl, OwnLn.nil _ _, by rw [H0.out]; rfl, Below.refl _ _⟩
 case round =>
  obtain ⟨k, it, hk, rfl, ho, he, hw⟩ := hrel
  have HE : Hid (it.map (·.2) = G k) := he
  have HO : Hid (OwnLn wr w.heap.size _ it) := ho
  have HW : Hid (Nw w wr) := hw
  have hil : it.length = k := by have := HL.out k hk; rw [← he, List.length_map] at this; exact this
  obtain ⟨va, vn, vc, hv⟩ := OwnQ.slice ho.own
  subst hv
  clear ho hw he
  by_cases hlt : k < n
  ·have d1 : decide ((k : Int) < (n : Int)) = true := by simp; omega
   rcases (Sgs.nw HR.out HW.out) with h0 | ⟨b, rfl, hc⟩
   ·have := HN.out; rw [h0] at this; simp at this; omega
   have hck := hc k (by rw [HN.out]; exact hlt)
   have HX : Hid _ := HS.out k hlt
   have HGk : Hid (wsg (sgAt l k)) := HG.out k hlt
   clear hc
   generalize sgAt l k = X at *
   obtain ⟨⟨fx, fy⟩, ⟨tx, ty⟩, ⟨sx, sy⟩⟩ := X
   have q0 := hck 0 _ rfl
   have q1 := hck 1 _ rfl
   have q2 := hck 2 _ rfl
   have q3 := hck 3 _ rfl
   have q4 := hck 4 _ rfl
   have q5 := hck 5 _ rfl
   simp only [Nat.add_zero] at q0 q1 q2 q3 q4 q5
   clear hck
   have HB : Hid _ := iband fx fy tx ty sx sy HGk.out.1.1 HGk.out.1.2 HGk.out.2.1.1 HGk.out.2.1.2 HGk.out.2.2.1 HGk.out.2.2.2
   go_wp2_with fail
   refine Calls.mono (HB.out _) ?_
   rintro e w1 ⟨v1, rfl, o1, n1⟩
   have N1 : Hid (Nw wr w1) := Nw.trans (Kp.nw ((Kp.refl wr).alloc _ _)) n1
   have O1 : Hid (OwnP w1 wr.heap.size v1 _) := OwnQ.base o1 (by simp)
   obtain ⟨ua, uc, hu, _⟩ := o1.pts
   subst hu
   clear o1 n1 q0 q1 q2 q3 q4 q5
   go_wp2_with (at_builtin; (refine wpl_ln wr w1 rfl (.tmp 12) (.tmp 15) rfl w.heap.size (.slice va vn vc) it _ (bandL ⟨(fx, fy), (tx, ty), (sx, sy)⟩) rfl HO.out N1.out ?hB O1.out ?hx ?hl ?_))
   case hB => exact Below.size HW.out
   case hx => rfl
   case hl => omega
   intro g' c' w9 h2 h3
   have H2 : Hid _ := h2
   have N9 : Hid (Nw w w9) := Below.trans HW.out h3
   clear h2 h3
   go_wp2
   go_roundw
   case rel => exact ⟨k + 1, _, hlt, by go_num, H2.out, by rw [HX.out, List.map_append, HE.out]; rfl, N9.out⟩
   case measure => simp [intOf]; omega
  ·obtain rfl : k = n := by omega
   have d1 : decide ((k : Int) < (k : Int)) = false := by simp
   go_wp2
   go_ret
   exact ⟨_, rfl, LsOk.of HO.out (HE.out.trans HT.out), HW.out⟩
def cornsK (J : Sg → Sg → List Pnt) (l : List Sg) (cl : Bool) : Nat → List LD
 | 0 => []
 | k + 1 => cornsK J l cl k ++ (if k = 0 ∧ cl = false then [] else [⟨J (sgAt l ((k + l.length - 1) % l.length)) (sgAt l k), true⟩])
theorem cornsK_len (J : Sg → Sg → List Pnt) (l : List Sg) (cl : Bool) (k : Nat) : (cornsK J l cl k).length ≤ k := by
 induction k with
 | zero => simp [cornsK]
 | succ k ih =>
  unfold cornsK
  rw [List.length_append]
  split <;> simp <;> omega
set_option maxRecDepth 100000 in
set_option maxHeartbeats 8000000 in
theorem icornersR (w : World) (a : Option Addr) (c : Nat) (l : List Sg) (cl : Bool) (h : Int) (J : Sg → Sg → List Pnt) (hl : l.length ≤ 900000) (hr : Sgs w a l)
  (hJ : ∀ i j, i < l.length → j < l.length → RingSays 91 #[cnV (sgAt l i).f.1 (sgAt l i).f.2 (sgAt l i).t.1 (sgAt l i).t.2 (sgAt l i).s.1 (sgAt l i).s.2 (sgAt l j).f.1 (sgAt l j).f.2 (sgAt l j).t.1 (sgAt l j).t.2 (sgAt l j).s.1 (sgAt l j).s.2 h] (J (sgAt l i) (sgAt l j))) :
  Calls Tryz.prog 73 #[.slice a l.length c, .bool cl, .int .i64 h, .func (.func 91) #[] #[]] w fun e w' => ∃ v, e = .returned v ∧ LsOk w' w.heap.size v (cornsK J l cl l.length) ∧ Nw w w' := by
 have HS : Hid (∀ k, ¬ (k = 0 ∧ cl = false) → cornsK J l cl (k + 1) = cornsK J l cl k ++ [⟨J (sgAt l ((k + l.length - 1) % l.length)) (sgAt l k), true⟩]) := fun k hk => by
  rw [cornsK, if_neg hk]
 have HZ : Hid (cl = false → cornsK J l cl (0 + 1) = cornsK J l cl 0) := fun hk => by
  show cornsK J l cl 0 ++ (if 0 = 0 ∧ cl = false then [] else _) = _
  rw [if_pos ⟨rfl, hk⟩, List.append_nil]
 have H0 : Hid (cornsK J l cl 0 = []) := rfl
 have HL : Hid (∀ k, (cornsK J l cl k).length ≤ k) := cornsK_len J l cl
 have HR : Hid (Sgs w a l) := hr
 have HJJ : Hid _ := hJ
 clear hr hJ
 obtain ⟨G, hG⟩ : ∃ G, cornsK J l cl = G := ⟨_, rfl⟩
 rw [hG] at HS HZ H0 HL ⊢
 clear hG
 obtain ⟨n, hn⟩ : ∃ n, l.length = n := ⟨_, rfl⟩
 have HN : Hid (l.length = n) := hn
 rw [hn] at HS HJJ hl ⊢
 clear hn
 go_enter Tryz.func73, Tryz.ntmps73
 go_wp2
 go_loopw [15, 9] (fun i v wr => ∃ (k : Nat) (it : Its), k ≤ n ∧ i = .int .i64 (k : Int) ∧ OwnLn wr w.heap.size v it ∧ it.map (·.2) = G k ∧ Nw w wr) (fun i _ _ => n - (intOf i).toNat)
 case atStart => exact ⟨0, [], Nat.zero_le _, rfl, OwnLn.nil _ _, by rw [H0.out]; rfl, Below.refl _ _⟩
 case round =>
  obtain ⟨k, it, hk, rfl, ho, he, hw⟩ := hrel
  have HE : Hid (it.map (·.2) = G k) := he
  have HO : Hid (OwnLn wr w.heap.size _ it) := ho
  have HW : Hid (Nw w wr) := hw
  have hil : it.length ≤ k := by have := HL.out k; rw [← he, List.length_map] at this; exact this
  obtain ⟨va, vn, vc, hv⟩ := OwnQ.slice ho.own
  subst hv
  clear ho hw he
  by_cases hlt : k < n
  ·have d1 : decide ((k : Int) < (n : Int)) = true := by simp; omega
   obtain ⟨m, hm⟩ : ∃ m, (k + n - 1) % n = m := ⟨_, rfl⟩
   have hmn : m < n := by rw [← hm]; exact Nat.mod_lt _ (by omega)
   have hrm : ((k : Int) + (n : Int) - 1).tmod (n : Int) = (m : Int) := by
    rw [← hm, Int.tmod_eq_emod_of_nonneg (by omega), show (k : Int) + (n : Int) - 1 = ((k + n - 1 : Nat) : Int) by omega]
    first | exact (Int.natCast_emod (k + n - 1) n).symm | rfl
   rcases (Sgs.nw HR.out HW.out) with h0 | ⟨b, rfl, hc⟩
   ·have := HN.out; rw [h0] at this; simp at this; omega
   have hck := hc k (by rw [HN.out]; exact hlt)
   have hcm := hc m (by rw [HN.out]; exact hmn)
   have HJ : Hid _ := HJJ.out m k hmn hlt
   have HSk := HS.out k
   rw [hm] at HSk
   have hmz : k = 0 → (-1 : Int) % (n : Int) = (m : Int) := fun hz => by
    subst hz
    rw [Int.tmod_eq_emod_of_nonneg (by omega)] at hrm
    rw [← hrm]
    simp
   clear hc hm HS HJJ
   generalize sgAt l k = X at *
   generalize sgAt l m = Y at *
   obtain ⟨⟨bfx, bfy⟩, ⟨btx, bty⟩, ⟨bsx, bsy⟩⟩ := X
   obtain ⟨⟨afx, afy⟩, ⟨atx, aty⟩, ⟨asx, asy⟩⟩ := Y
   have q0 := hck 0 _ rfl
   have q1 := hck 1 _ rfl
   have q2 := hck 2 _ rfl
   have q3 := hck 3 _ rfl
   have q4 := hck 4 _ rfl
   have q5 := hck 5 _ rfl
   have p0 := hcm 0 _ rfl
   have p1 := hcm 1 _ rfl
   have p2 := hcm 2 _ rfl
   have p3 := hcm 3 _ rfl
   have p4 := hcm 4 _ rfl
   have p5 := hcm 5 _ rfl
   simp only [Nat.add_zero] at q0 q1 q2 q3 q4 q5 p0 p1 p2 p3 p4 p5
   simp only at HJ
   have hb : b < wr.heap.size := World.block_lt_of_cell? wr ⟨b, _, none⟩ q0
   clear hck hcm
   by_cases hz : k = 0 ∧ cl = false
   ·obtain ⟨rfl, rfl⟩ := hz
    go_wp2
    go_roundw
    case rel => exact ⟨0 + 1, it, hlt, by go_num, OwnLn.nw HO.out (Kp.nw ((Kp.refl wr).alloc _ _)), by rw [HZ.out rfl]; exact HE.out, Nw.trans HW.out (Kp.nw ((Kp.refl wr).alloc _ _))⟩
    case measure => simp [intOf]; omega
   ·have HX : Hid _ := HSk hz
    clear HSk
    by_cases hk0 : k = 0
    ·subst hk0
     have hcl : cl = true := by cases cl with | true => rfl | false => exact absurd ⟨rfl, rfl⟩ hz
     subst hcl
     have hmy := hmz rfl
     clear hz hmz hrm
     go_upto_region 6 with fail
     go_wp2_with fail
     refine Calls.mono (HJ.out _) ?_
     rintro e w1 ⟨v1, rfl, o1, n1⟩
     have N1 : Hid (Nw wr w1) := Nw.trans (Kp.nw (((Kp.refl wr).alloc _ _).alloc _ _)) n1
     have O1 : Hid (OwnP w1 wr.heap.size v1 _) := OwnQ.base o1 (by simp; omega)
     obtain ⟨ua, uc, hu, _⟩ := o1.pts
     subst hu
     clear o1 n1 q0 q1 q2 q3 q4 q5 p0 p1 p2 p3 p4 p5
     go_wp2_with (at_builtin; (refine wpl_ln wr w1 rfl (.tmp 37) (.tmp 44) rfl w.heap.size (.slice va vn vc) it _ ⟨J ⟨(afx, afy), (atx, aty), (asx, asy)⟩ ⟨(bfx, bfy), (btx, bty), (bsx, bsy)⟩, true⟩ rfl HO.out N1.out ?hB O1.out ?hx ?hl ?_))
     case hB => exact Below.size HW.out
     case hx => rfl
     case hl => omega
     intro g' c' w9 h2 h3
     have H2 : Hid _ := h2
     have N9 : Hid (Nw w w9) := Below.trans HW.out h3
     clear h2 h3
     go_wp2
     go_roundw
     case rel => exact ⟨0 + 1, _, hlt, by go_num, H2.out, by rw [HX.out, List.map_append, HE.out]; rfl, N9.out⟩
     case measure => simp [intOf]; omega
    ·have d2 : ((k : Int) == 0) = false := by simp; omega
     clear hz
     go_wp2_with fail
     refine Calls.mono (HJ.out _) ?_
     rintro e w1 ⟨v1, rfl, o1, n1⟩
     have N1 : Hid (Nw wr w1) := Nw.trans (Kp.nw (((Kp.refl wr).alloc _ _).alloc _ _)) n1
     have O1 : Hid (OwnP w1 wr.heap.size v1 _) := OwnQ.base o1 (by simp; omega)
     obtain ⟨ua, uc, hu, _⟩ := o1.pts
     subst hu
     clear o1 n1 q0 q1 q2 q3 q4 q5 p0 p1 p2 p3 p4 p5
     go_wp2_with (at_builtin; (refine wpl_ln wr w1 rfl (.tmp 37) (.tmp 44) rfl w.heap.size (.slice va vn vc) it _ ⟨J ⟨(afx, afy), (atx, aty), (asx, asy)⟩ ⟨(bfx, bfy), (btx, bty), (bsx, bsy)⟩, true⟩ rfl HO.out N1.out ?hB O1.out ?hx ?hl ?_))
     case hB => exact Below.size HW.out
     case hx => rfl
     case hl => omega
     intro g' c' w9 h2 h3
     have H2 : Hid _ := h2
     have N9 : Hid (Nw w w9) := Below.trans HW.out h3
     clear h2 h3
     go_wp2
     go_roundw
     case rel => exact ⟨k + 1, _, hlt, by go_num, H2.out, by rw [HX.out, List.map_append, HE.out]; rfl, N9.out⟩
     case measure => simp [intOf]; omega
  ·obtain rfl : k = n := by omega
   have d1 : decide ((k : Int) < (k : Int)) = false := by simp
   go_wp2
   go_ret
   exact ⟨_, rfl, LsOk.of HO.out HE.out, HW.out⟩
set_option maxRecDepth 100000 in
set_option maxHeartbeats 8000000 in
theorem icornersB (w : World) (a : Option Addr) (c : Nat) (l : List Sg) (cl : Bool) (h : Int) (J : Sg → Sg → List Pnt) (hl : l.length ≤ 900000) (hr : Sgs w a l)
  (hJ : ∀ i j, i < l.length → j < l.length → RingSays 92 #[cnV (sgAt l i).f.1 (sgAt l i).f.2 (sgAt l i).t.1 (sgAt l i).t.2 (sgAt l i).s.1 (sgAt l i).s.2 (sgAt l j).f.1 (sgAt l j).f.2 (sgAt l j).t.1 (sgAt l j).t.2 (sgAt l j).s.1 (sgAt l j).s.2 h] (J (sgAt l i) (sgAt l j))) :
  Calls Tryz.prog 73 #[.slice a l.length c, .bool cl, .int .i64 h, .func (.func 92) #[] #[]] w fun e w' => ∃ v, e = .returned v ∧ LsOk w' w.heap.size v (cornsK J l cl l.length) ∧ Nw w w' := by
 have HS : Hid (∀ k, ¬ (k = 0 ∧ cl = false) → cornsK J l cl (k + 1) = cornsK J l cl k ++ [⟨J (sgAt l ((k + l.length - 1) % l.length)) (sgAt l k), true⟩]) := fun k hk => by
  rw [cornsK, if_neg hk]
 have HZ : Hid (cl = false → cornsK J l cl (0 + 1) = cornsK J l cl 0) := fun hk => by
  show cornsK J l cl 0 ++ (if 0 = 0 ∧ cl = false then [] else _) = _
  rw [if_pos ⟨rfl, hk⟩, List.append_nil]
 have H0 : Hid (cornsK J l cl 0 = []) := rfl
 have HL : Hid (∀ k, (cornsK J l cl k).length ≤ k) := cornsK_len J l cl
 have HR : Hid (Sgs w a l) := hr
 have HJJ : Hid _ := hJ
 clear hr hJ
 obtain ⟨G, hG⟩ : ∃ G, cornsK J l cl = G := ⟨_, rfl⟩
 rw [hG] at HS HZ H0 HL ⊢
 clear hG
 obtain ⟨n, hn⟩ : ∃ n, l.length = n := ⟨_, rfl⟩
 have HN : Hid (l.length = n) := hn
 rw [hn] at HS HJJ hl ⊢
 clear hn
 go_enter Tryz.func73, Tryz.ntmps73
 go_wp2
 go_loopw [15, 9] (fun i v wr => ∃ (k : Nat) (it : Its), k ≤ n ∧ i = .int .i64 (k : Int) ∧ OwnLn wr w.heap.size v it ∧ it.map (·.2) = G k ∧ Nw w wr) (fun i _ _ => n - (intOf i).toNat)
 case atStart => exact ⟨0, [], Nat.zero_le _, rfl, OwnLn.nil _ _, by rw [H0.out]; rfl, Below.refl _ _⟩
 case round =>
  obtain ⟨k, it, hk, rfl, ho, he, hw⟩ := hrel
  have HE : Hid (it.map (·.2) = G k) := he
  have HO : Hid (OwnLn wr w.heap.size _ it) := ho
  have HW : Hid (Nw w wr) := hw
  have hil : it.length ≤ k := by have := HL.out k; rw [← he, List.length_map] at this; exact this
  obtain ⟨va, vn, vc, hv⟩ := OwnQ.slice ho.own
  subst hv
  clear ho hw he
  by_cases hlt : k < n
  ·have d1 : decide ((k : Int) < (n : Int)) = true := by simp; omega
   obtain ⟨m, hm⟩ : ∃ m, (k + n - 1) % n = m := ⟨_, rfl⟩
   have hmn : m < n := by rw [← hm]; exact Nat.mod_lt _ (by omega)
   have hrm : ((k : Int) + (n : Int) - 1).tmod (n : Int) = (m : Int) := by
    rw [← hm, Int.tmod_eq_emod_of_nonneg (by omega), show (k : Int) + (n : Int) - 1 = ((k + n - 1 : Nat) : Int) by omega]
    first | exact (Int.natCast_emod (k + n - 1) n).symm | rfl
   rcases (Sgs.nw HR.out HW.out) with h0 | ⟨b, rfl, hc⟩
   ·have := HN.out; rw [h0] at this; simp at this; omega
   have hck := hc k (by rw [HN.out]; exact hlt)
   have hcm := hc m (by rw [HN.out]; exact hmn)
   have HJ : Hid _ := HJJ.out m k hmn hlt
   have HSk := HS.out k
   rw [hm] at HSk
   have hmz : k = 0 → (-1 : Int) % (n : Int) = (m : Int) := fun hz => by
    subst hz
    rw [Int.tmod_eq_emod_of_nonneg (by omega)] at hrm
    rw [← hrm]
    simp
   clear hc hm HS HJJ
   generalize sgAt l k = X at *
   generalize sgAt l m = Y at *
   obtain ⟨⟨bfx, bfy⟩, ⟨btx, bty⟩, ⟨bsx, bsy⟩⟩ := X
   obtain ⟨⟨afx, afy⟩, ⟨atx, aty⟩, ⟨asx, asy⟩⟩ := Y
   have q0 := hck 0 _ rfl
   have q1 := hck 1 _ rfl
   have q2 := hck 2 _ rfl
   have q3 := hck 3 _ rfl
   have q4 := hck 4 _ rfl
   have q5 := hck 5 _ rfl
   have p0 := hcm 0 _ rfl
   have p1 := hcm 1 _ rfl
   have p2 := hcm 2 _ rfl
   have p3 := hcm 3 _ rfl
   have p4 := hcm 4 _ rfl
   have p5 := hcm 5 _ rfl
   simp only [Nat.add_zero] at q0 q1 q2 q3 q4 q5 p0 p1 p2 p3 p4 p5
   simp only at HJ
   have hb : b < wr.heap.size := World.block_lt_of_cell? wr ⟨b, _, none⟩ q0
   clear hck hcm
   by_cases hz : k = 0 ∧ cl = false
   ·obtain ⟨rfl, rfl⟩ := hz
    go_wp2
    go_roundw
    case rel => exact ⟨0 + 1, it, hlt, by go_num, OwnLn.nw HO.out (Kp.nw ((Kp.refl wr).alloc _ _)), by rw [HZ.out rfl]; exact HE.out, Nw.trans HW.out (Kp.nw ((Kp.refl wr).alloc _ _))⟩
    case measure => simp [intOf]; omega
   ·have HX : Hid _ := HSk hz
    clear HSk
    by_cases hk0 : k = 0
    ·subst hk0
     have hcl : cl = true := by cases cl with | true => rfl | false => exact absurd ⟨rfl, rfl⟩ hz
     subst hcl
     have hmy := hmz rfl
     clear hz hmz hrm
     go_upto_region 6 with fail
     go_wp2_with fail
     refine Calls.mono (HJ.out _) ?_
     rintro e w1 ⟨v1, rfl, o1, n1⟩
     have N1 : Hid (Nw wr w1) := Nw.trans (Kp.nw (((Kp.refl wr).alloc _ _).alloc _ _)) n1
     have O1 : Hid (OwnP w1 wr.heap.size v1 _) := OwnQ.base o1 (by simp; omega)
     obtain ⟨ua, uc, hu, _⟩ := o1.pts
     subst hu
     clear o1 n1 q0 q1 q2 q3 q4 q5 p0 p1 p2 p3 p4 p5
     go_wp2_with (at_builtin; (refine wpl_ln wr w1 rfl (.tmp 37) (.tmp 44) rfl w.heap.size (.slice va vn vc) it _ ⟨J ⟨(afx, afy), (atx, aty), (asx, asy)⟩ ⟨(bfx, bfy), (btx, bty), (bsx, bsy)⟩, true⟩ rfl HO.out N1.out ?hB O1.out ?hx ?hl ?_))
     case hB => exact Below.size HW.out
     case hx => rfl
     case hl => omega
     intro g' c' w9 h2 h3
     have H2 : Hid _ := h2
     have N9 : Hid (Nw w w9) := Below.trans HW.out h3
     clear h2 h3
     go_wp2
     go_roundw
     case rel => exact ⟨0 + 1, _, hlt, by go_num, H2.out, by rw [HX.out, List.map_append, HE.out]; rfl, N9.out⟩
     case measure => simp [intOf]; omega
    ·have d2 : ((k : Int) == 0) = false := by simp; omega
     clear hz
     go_wp2_with fail
     refine Calls.mono (HJ.out _) ?_
     rintro e w1 ⟨v1, rfl, o1, n1⟩
     have N1 : Hid (Nw wr w1) := Nw.trans (Kp.nw (((Kp.refl wr).alloc _ _).alloc _ _)) n1
     have O1 : Hid (OwnP w1 wr.heap.size v1 _) := OwnQ.base o1 (by simp; omega)
     obtain ⟨ua, uc, hu, _⟩ := o1.pts
     subst hu
     clear o1 n1 q0 q1 q2 q3 q4 q5 p0 p1 p2 p3 p4 p5
     go_wp2_with (at_builtin; (refine wpl_ln wr w1 rfl (.tmp 37) (.tmp 44) rfl w.heap.size (.slice va vn vc) it _ ⟨J ⟨(afx, afy), (atx, aty), (asx, asy)⟩ ⟨(bfx, bfy), (btx, bty), (bsx, bsy)⟩, true⟩ rfl HO.out N1.out ?hB O1.out ?hx ?hl ?_))
     case hB => exact Below.size HW.out
     case hx => rfl
     case hl => omega
     intro g' c' w9 h2 h3
     have H2 : Hid _ := h2
     have N9 : Hid (Nw w w9) := Below.trans HW.out h3
     clear h2 h3
     go_wp2
     go_roundw
     case rel => exact ⟨k + 1, _, hlt, by go_num, H2.out, by rw [HX.out, List.map_append, HE.out]; rfl, N9.out⟩
     case measure => simp [intOf]; omega
  ·obtain rfl : k = n := by omega
   have d1 : decide ((k : Int) < (k : Int)) = false := by simp
   go_wp2
   go_ret
   exact ⟨_, rfl, LsOk.of HO.out HE.out, HW.out⟩
set_option linter.unusedSimpArgs false
theorem iplus (w : World) (x1 y1 x2 y2 : Int) (h1 : sml x1) (h2 : sml y1) (h3 : sml x2) (h4 : sml y2) :
    Calls Tryz.prog 83 #[.agg #[.int .i64 x1, .int .i64 y1], .agg #[.int .i64 x2, .int .i64 y2]] w fun e w' => e = .returned (.agg #[.int .i64 (x1 + x2), .int .i64 (y1 + y2)]) ∧ Kp w w' := by
  unfold sml at *
  go_enter Tryz.func83, Tryz.ntmps83
  go_wp2
  refine bodyPost_ret (v := .agg #[.int .i64 (x1 + x2), .int .i64 (y1 + y2)]) (by simp [results, Tryz.results83, go_sem]) rfl ⟨rfl, ?_⟩
  exact (((Kp.refl w).alloc _ _).alloc _ _).alloc _ _
theorem ddk (a b : Int) (w : World) (hb : 0 < b) (hb' : b ≤ 4611686018427387904) (h1 : -4611686018427387904 ≤ a) (h2 : a ≤ 4611686018427387904) :
    Calls Tryz.prog 84 #[.int .i64 a, .int .i64 b] w fun e w' => e = .returned (.int .i64 (a / b)) ∧ Kp w w' := by
  refine Calls.mono (divDown_any a b w hb hb' h1 h2) ?_
  rintro e w' ⟨rfl, rfl⟩
  exact ⟨rfl, Kp.refl _⟩
structure PLR where
 ba : Nat
 bd : Nat
 br : Nat
 ax : Int
 ay : Int
 dx : Int
 dy : Int
 k : Int
 n : Int
 W : World
 a0 : Act
structure PLROk (X : PLR) : Prop where
 a0 : X.W.cell? ⟨X.ba, 0, none⟩ = some (.int .i64 X.ax)
 a1 : X.W.cell? ⟨X.ba, 1, none⟩ = some (.int .i64 X.ay)
 d0 : X.W.cell? ⟨X.bd, 0, none⟩ = some (.int .i64 X.dx)
 d1 : X.W.cell? ⟨X.bd, 1, none⟩ = some (.int .i64 X.dy)
 hn : 0 < X.n
 hn2 : X.n ≤ 4611686018427387904
 mx : -4611686018427387904 ≤ X.dx * X.k ∧ X.dx * X.k ≤ 4611686018427387904
 my : -4611686018427387904 ≤ X.dy * X.k ∧ X.dy * X.k ≤ 4611686018427387904
 w1 : IntKind.i64.wrap (X.dx * X.k) = X.dx * X.k
 w2 : IntKind.i64.wrap (X.dy * X.k) = X.dy * X.k
 s1 : sml X.ax
 s2 : sml X.ay
 s3 : sml (X.dx * X.k / X.n)
 s4 : sml (X.dy * X.k / X.n)
 z0 : ∃ u, X.W.cell? ⟨X.br, 0, none⟩ = some u
 z1 : ∃ u, X.W.cell? ⟨X.br, 1, none⟩ = some u
 zf : ∀ o, X.W.frozen? ⟨X.br, o, none⟩ = false
 e2 : X.a0.eval (.tmp 2) = .int .i64 X.k
 e3 : X.a0.eval (.tmp 3) = .int .i64 X.n
 e4 : X.a0.eval (.tmp 4) = .pointer (some ⟨X.ba, 0, none⟩)
 e8 : X.a0.eval (.tmp 8) = .pointer (some ⟨X.br, 0, none⟩)
 e9 : X.a0.eval (.tmp 9) = .pointer (some ⟨X.bd, 0, none⟩)
 sz : X.a0.tmps.size = 28
def PLR.val0 (X : PLR) : Nat → Value
 | 2 => .int .i64 X.k
 | 3 => .int .i64 X.n
 | 4 => .pointer (some ⟨X.ba, 0, none⟩)
 | 8 => .pointer (some ⟨X.br, 0, none⟩)
 | 9 => .pointer (some ⟨X.bd, 0, none⟩)
 | 13 => .agg #[.int .i64 X.ax, .int .i64 X.ay]
 | 14 => .pointer (some ⟨X.bd, 0, none⟩)
 | 15 => .int .i64 X.dx
 | 16 => .int .i64 X.k
 | 17 => .int .i64 (X.dx * X.k)
 | 18 => .int .i64 X.n
 | 19 => .int .i64 (X.dx * X.k / X.n)
 | 20 => .pointer (some ⟨X.bd, 1, none⟩)
 | 21 => .int .i64 X.dy
 | 22 => .int .i64 X.k
 | 23 => .int .i64 (X.dy * X.k)
 | 24 => .int .i64 X.n
 | 25 => .int .i64 (X.dy * X.k / X.n)
 | 26 => .agg #[.int .i64 (X.dx * X.k / X.n), .int .i64 (X.dy * X.k / X.n)]
 | 27 => .agg #[.int .i64 (X.ax + X.dx * X.k / X.n), .int .i64 (X.ay + X.dy * X.k / X.n)]
 | _ => undef
def PLR.av : Nat → Option Nat
 | _ => none
def PLR.acts : List Nat := [15]
def PLR.Wd (X : PLR) : Nat → (Nat → Value) → World → Prop
  | 0, _, w => Kp X.W w
  | _, _, w => ∃ w1, Kp X.W w1 ∧ w = ((w1.setCell ⟨X.br, 0, none⟩ (.int .i64 (X.ax + X.dx * X.k / X.n))).setCell ⟨X.br, 1, none⟩ (.int .i64 (X.ay + X.dy * X.k / X.n)))
theorem PLR.chain : chainG (opsOf 2 Tryz.f64) PLR.acts = true := by kernel_rfl
theorem PLR.nodup : PLR.acts.Nodup := by decide
def PLR.L : List (Option Nat × Op × Option (Nat × Bool)) := [
 (some 13, .load 34 (.tmp 4), none),
 (some 14, .fieldAddr 34 (.tmp 9) 0, none),
 (some 15, .load 3 (.tmp 14), none),
 (some 16, .move (.tmp 2), none),
 (some 17, .binOp .mul 3 (.tmp 15) (.tmp 16) 3, none),
 (some 18, .move (.tmp 3), none),
 (some 19, .call { callee := .value (.func 84), args := #[(.tmp 17), (.tmp 18)], argTypes := #[3, 3] }, none),
 (some 20, .fieldAddr 34 (.tmp 9) 1, none),
 (some 21, .load 3 (.tmp 20), none),
 (some 22, .move (.tmp 2), none),
 (some 23, .binOp .mul 3 (.tmp 21) (.tmp 22) 3, none),
 (some 24, .move (.tmp 3), none),
 (some 25, .call { callee := .value (.func 84), args := #[(.tmp 23), (.tmp 24)], argTypes := #[3, 3] }, none),
 (some 26, .build 34 #[(0, (.tmp 19)), (1, (.tmp 25))], none),
 (some 27, .call { callee := .value (.func 83), args := #[(.tmp 13), (.tmp 26)], argTypes := #[34, 34] }, none),
 (none, .store 34 (.tmp 8) (.tmp 27), none)]
theorem PLR.isL : (opsOf 2 Tryz.f64).toList.map tri = PLR.L := by kernel_rfl
theorem PLR.ini {X : PLR} (ok : PLROk X) : ∀ n ∈ [2, 3, 4, 8, 9], X.a0.eval (.tmp n) = X.val0 n := by
 simp only [List.forall_mem_cons]
 exact ⟨ok.e2, ok.e3, ok.e4, ok.e8, ok.e9, List.forall_mem_nil _⟩
abbrev PLR.St (X : PLR) (Q : PQ) (i : Nat) : Prop := StepG (opsOf 2 Tryz.f64) PLR.acts PLR.av X.val0 X.Wd X.a0 Q i
theorem PLR.plain (X : PLR) (ok : PLROk X) {Q : PQ} : ∀ i ∈ [1, 3, 4, 5, 7, 9, 10, 11, 13], PLR.St X Q i := by
 simp only [List.forall_mem_cons]
 refine ⟨?_, ?_, ?_, ?_, ?_, ?_, ?_, ?_, ?_, List.forall_mem_nil _⟩
 all_goals
  refine st_plain PLR.isL (PLR.ini ok) ok.sz rfl (by kernel_rfl) ?_
  intro γ w n o hW hop
  unfold execOp
  rw [hop]
  simp [envR, valG, PLR.av, PLR.val0, ok.w1, ok.w2, go_sem]
theorem PLR.early (X : PLR) (ok : PLROk X) {Q : PQ} : ∀ i ∈ [0, 2, 8], PLR.St X Q i := by
 simp only [List.forall_mem_cons]
 refine ⟨?_, ?_, ?_, List.forall_mem_nil _⟩
 all_goals
  refine st_plainM (m := 0) PLR.isL (PLR.ini ok) ok.sz rfl (by kernel_rfl) ?_
  intro γ w n o hn hW hop
  obtain rfl : n = 0 := by omega
  have hk : Kp X.W w := hW
  have hc_a0 := rq_at hk ok.a0
  have hc_a1 := rq_at hk ok.a1
  have hc_d0 := rq_at hk ok.d0
  have hc_d1 := rq_at hk ok.d1
  unfold execOp
  rw [hop]
  simp [envR, valG, PLR.av, PLR.val0, hc_a0, hc_a1, hc_d0, hc_d1, go_sem]
theorem PLR.s15 (X : PLR) (ok : PLROk X) {Q : PQ} : PLR.St X Q 15 := by
 intro γ listed a w o hF hC hW h1 ho h2
 obtain ⟨hd, hop, hg⟩ := fieldsL PLR.isL (i := 15) rfl ho
 have e8 : a.eval (.tmp 8) = .pointer (some ⟨X.br, 0, none⟩) := known hF ho h2 (PLR.ini ok) ok.sz (by kernel_rfl)
 have e27 : a.eval (.tmp 27) = .agg #[.int .i64 (X.ax + X.dx * X.k / X.n), .int .i64 (X.ay + X.dy * X.k / X.n)] := known hF ho h2 (PLR.ini ok) ok.sz (by kernel_rfl)
 have hu := unl (hF.lt ho) h1
 refine st_actG (k := 0) PLR.chain PLR.nodup rfl hF hC hW h1 ho h2 (Or.inl hd) (injG (by kernel_rfl) hu) hg ?_
 intro hW0 K hK
 obtain ⟨u0, z0⟩ := ok.z0
 replace z0 := rq_at hW0 z0
 obtain ⟨u1, z1⟩ := ok.z1
 replace z1 := rq_at hW0 z1
 have zf : ∀ o, w.frozen? ⟨X.br, o, none⟩ = false := fun o => (hW0.cells.2 _ _).trans (ok.zf o)
 have hr : (execOp a.eval o).run Tryz.prog w = .ok .skip ((w.setCell ⟨X.br, 0, none⟩ (.int .i64 (X.ax + X.dx * X.k / X.n))).setCell ⟨X.br, 1, none⟩ (.int .i64 (X.ay + X.dy * X.k / X.n))) := by
  generalize a.eval = ρ at e8 e27 ⊢
  unfold execOp
  rw [hop]
  simp [e8, e27, z0, z1, zf, go_sem]
 unfold Oper.wp
 rw [hr]
 exact hK _ _ ⟨w, hW0, rfl⟩
theorem PLR.size : (opsOf 2 Tryz.f64).size = 16 := by kernel_rfl
theorem PLR.rest (X : PLR) (ok : PLROk X) {Q : PQ} : ∀ i ∈ [6, 12, 14, 15], PLR.St X Q i := by
 simp only [List.forall_mem_cons]
 exact ⟨st_callZ PLR.isL (PLR.ini ok) ok.sz rfl (by kernel_rfl) (fun _ _ => by simp [go_sem]) (fun γ w hW => ddk _ _ w ok.hn ok.hn2 ok.mx.1 ok.mx.2) (fun _ _ _ hW hk => Kp.trans hW hk),
  st_callZ PLR.isL (PLR.ini ok) ok.sz rfl (by kernel_rfl) (fun _ _ => by simp [go_sem]) (fun γ w hW => ddk _ _ w ok.hn ok.hn2 ok.my.1 ok.my.2) (fun _ _ _ hW hk => Kp.trans hW hk),
  st_callZ PLR.isL (PLR.ini ok) ok.sz rfl (by kernel_rfl) (fun _ _ => by simp [go_sem]) (fun γ w hW => iplus w _ _ _ _ ok.s1 ok.s2 ok.s3 ok.s4) (fun _ _ _ hW hk => Kp.trans hW hk),
  PLR.s15 X ok, List.forall_mem_nil _⟩
theorem PLR.steps (X : PLR) (ok : PLROk X) {Q : PQ} (i : Nat) (hi : i < (opsOf 2 Tryz.f64).size) : PLR.St X Q i := by
 rw [PLR.size] at hi
 rcases (by decide : ∀ i, i < 16 → i ∈ [1, 3, 4, 5, 7, 9, 10, 11, 13] ∨ i ∈ [0, 2, 8] ∨ i ∈ [6, 12, 14, 15]) i hi with h | h | h
 · exact PLR.plain X ok i h
 · exact PLR.early X ok i h
 · exact PLR.rest X ok i h
theorem PLR.run (X : PLR) (ok : PLROk X) {Q : PQ} (w : World) (h0 : X.Wd 0 (fun _ => undef) w.drew) (hend : ∀ (γ : Nat → Value) w', X.Wd 1 γ w' → Q .normal (((((((((((((((X.a0.put (some 13) (.agg #[.int .i64 X.ax, .int .i64 X.ay])).put (some 14) (.pointer (some ⟨X.bd, 0, none⟩))).put (some 15) (.int .i64 X.dx)).put (some 16) (.int .i64 X.k)).put (some 17) (.int .i64 (X.dx * X.k))).put (some 18) (.int .i64 X.n)).put (some 19) (.int .i64 (X.dx * X.k / X.n))).put (some 20) (.pointer (some ⟨X.bd, 1, none⟩))).put (some 21) (.int .i64 X.dy)).put (some 22) (.int .i64 X.k)).put (some 23) (.int .i64 (X.dy * X.k))).put (some 24) (.int .i64 X.n)).put (some 25) (.int .i64 (X.dy * X.k / X.n))).put (some 26) (.agg #[.int .i64 (X.dx * X.k / X.n), .int .i64 (X.dy * X.k / X.n)])).put (some 27) (.agg #[.int .i64 (X.ax + X.dx * X.k / X.n), .int .i64 (X.ay + X.dy * X.k / X.n)])) w') : (Code.region 2 (opsOf 2 Tryz.f64) true).wp Tryz.prog Q X.a0 w := by
 refine reg_act (acts := PLR.acts) (av := PLR.av) (val0 := X.val0) (Wd := X.Wd) (by kernel_rfl) (by kernel_rfl) (by rw [PLR.size]; decide) (fun i hi => PLR.steps X ok i hi) _ h0 ?_
 intro γ w' h
 exact end_at (hend γ w' h) (by kernel_rfl)
def placeV (a b : Pnt) (k n : Int) : Pnt := (a.1 + (b.1 - a.1) * k / n, a.2 + (b.2 - a.2) * k / n)
theorem mul_in {d k : Int} (h1 : -134217728 ≤ d) (h2 : d ≤ 134217728) (h3 : 0 ≤ k) (h4 : k ≤ 268435456) : -36028797018963968 ≤ d * k ∧ d * k ≤ 36028797018963968 := by
  rcases Int.le_total 0 d with h | h
  · have := Int.mul_le_mul h2 h4 h3 (by decide)
    have := Int.mul_nonneg h h3
    omega
  · have := Int.mul_le_mul (show -d ≤ 134217728 by omega) h4 h3 (by decide)
    have := Int.mul_nonneg (show 0 ≤ -d by omega) h3
    rw [Int.neg_mul] at *
    omega
theorem quo_in {x k n : Int} (h0 : 0 ≤ k) (hk : k ≤ n) (hn : 0 < n) (h1 : -134217728 ≤ x) (h2 : x ≤ 134217728) : -134217728 ≤ x * k / n ∧ x * k / n ≤ 134217728 := by
  constructor
  · refine Int.le_ediv_of_mul_le hn ?_
    have e1 : -134217728 * n ≤ -134217728 * k := by omega
    have e2 : -134217728 * k ≤ x * k := Int.mul_le_mul_of_nonneg_right h1 h0
    omega
  · refine Int.ediv_le_of_le_mul hn ?_
    have e1 : 134217728 * k ≤ 134217728 * n := by omega
    have e2 : x * k ≤ 134217728 * k := Int.mul_le_mul_of_nonneg_right h2 h0
    omega
set_option maxRecDepth 100000 in
set_option maxHeartbeats 4000000 in
theorem iplace (w : World) (ax ay bx by' k n : Int) (h1 : nr ax) (h2 : nr ay) (h3 : nr bx) (h4 : nr by') (hk : 0 ≤ k) (hkn : k ≤ n) (hn : 0 < n) (hn2 : n ≤ 268435456) :
    Calls Tryz.prog 64 #[.agg #[.int .i64 ax, .int .i64 ay], .agg #[.int .i64 bx, .int .i64 by'], .int .i64 k, .int .i64 n] w fun e w' => e = .returned (.agg #[.int .i64 (placeV (ax, ay) (bx, by') k n).1, .int .i64 (placeV (ax, ay) (bx, by') k n).2]) ∧ Nw w w' := by
  have HM : Hid (∀ w, _) := fun w => iminus w bx by' ax ay (nr_sml h3) (nr_sml h4) (nr_sml h1) (nr_sml h2)
  have HS1 : Hid (sml ax ∧ sml ay) := ⟨nr_sml h1, nr_sml h2⟩
  unfold nr at h1 h2 h3 h4
  have m1 := mul_in (d := bx - ax) (k := k) (by omega) (by omega) hk (by omega)
  have m2 := mul_in (d := by' - ay) (k := k) (by omega) (by omega) hk (by omega)
  have q1 := quo_in (x := bx - ax) hk hkn hn (by omega) (by omega)
  have q2 := quo_in (x := by' - ay) hk hkn hn (by omega) (by omega)
  have HQ : Hid (sml ((bx - ax) * k / n) ∧ sml ((by' - ay) * k / n)) := by unfold sml; exact ⟨⟨by omega, by omega⟩, ⟨by omega, by omega⟩⟩
  have w1 : IntKind.i64.wrap ((bx - ax) * k) = (bx - ax) * k := IntWalk.i64_in _ ⟨by omega, by omega⟩
  have w2 : IntKind.i64.wrap ((by' - ay) * k) = (by' - ay) * k := IntWalk.i64_in _ ⟨by omega, by omega⟩
  have HF : Hid ((-4611686018427387904 ≤ (bx - ax) * k ∧ (bx - ax) * k ≤ 4611686018427387904) ∧ (-4611686018427387904 ≤ (by' - ay) * k ∧ (by' - ay) * k ≤ 4611686018427387904) ∧ IntKind.i64.wrap ((bx - ax) * k) = (bx - ax) * k ∧ IntKind.i64.wrap ((by' - ay) * k) = (by' - ay) * k ∧ 0 < n ∧ n ≤ 4611686018427387904) := ⟨⟨by omega, by omega⟩, ⟨by omega, by omega⟩, w1, w2, hn, by omega⟩
  obtain ⟨W, hW⟩ : ∃ W, ((w.alloc (.cells #[.int .i64 ax, .int .i64 ay] 34)).alloc (.cells #[.int .i64 bx, .int .i64 by'] 34)).alloc (.cells #[.int .i64 0, .int .i64 0] 34) = W := ⟨_, rfl⟩
  have NW : Hid (Nw w W) := by show Nw w W; rw [← hW]; exact Nw.trans (Nw.trans ((Below.refl _ _).alloc (Nat.le_refl _) _) ((Below.refl _ _).alloc (Nat.le_refl _) _)) ((Below.refl _ _).alloc (Nat.le_refl _) _)
  have A1 : Hid (W.cell? ⟨w.heap.size, 0, none⟩ = some (.int .i64 ax) ∧ W.cell? ⟨w.heap.size, 1, none⟩ = some (.int .i64 ay)) := by
    show _ ∧ _
    rw [← hW]
    have k2 : Nw (w.alloc (.cells #[.int .i64 ax, .int .i64 ay] 34)) (((w.alloc (.cells #[.int .i64 ax, .int .i64 ay] 34)).alloc (.cells #[.int .i64 bx, .int .i64 by'] 34)).alloc (.cells #[.int .i64 0, .int .i64 0] 34)) := Nw.trans ((Below.refl _ _).alloc (Nat.le_refl _) _) ((Below.refl _ _).alloc (Nat.le_refl _) _)
    exact ⟨((bcell k2).1 _ _ (by simp)).trans (World.cell?_alloc_at _ _ _ _ rfl), ((bcell k2).1 _ _ (by simp)).trans (World.cell?_alloc_at _ _ _ _ rfl)⟩
  have HW : Hid (_ = W) := hW
  have R1 : Hid ((∃ z, W.cell? ⟨w.heap.size + 2, 0, none⟩ = some z) ∧ (∃ z, W.cell? ⟨w.heap.size + 2, 1, none⟩ = some z) ∧ ∀ o, W.frozen? ⟨w.heap.size + 2, o, none⟩ = false) := by
    have e : w.heap.size + 2 = ((w.alloc (.cells #[.int .i64 ax, .int .i64 ay] 34)).alloc (.cells #[.int .i64 bx, .int .i64 by'] 34)).heap.size := by simp
    show _ ∧ _
    rw [← hW, e]
    exact ⟨⟨_, World.cell?_alloc_at _ _ _ _ rfl⟩, ⟨_, World.cell?_alloc_at _ _ _ _ rfl⟩, fun o => World.frozen?_alloc_at _ _ _ _ rfl⟩
  have SZ : Hid (W.heap.size = w.heap.size + 3) := by show _ = _; rw [← hW]; simp
  have HP : Hid (placeV (ax, ay) (bx, by') k n = (ax + (bx - ax) * k / n, ay + (by' - ay) * k / n)) := rfl
  rw [HP.out]
  clear hW h1 h2 h3 h4 m1 m2 q1 q2 w1 w2 hk hkn hn hn2
  go_enter Tryz.func64, Tryz.ntmps64
  go_wp2_with fail
  rw [HW.out]
  refine Calls.mono (HM.out _) ?_
  rintro e w3 ⟨rfl, k3⟩
  generalize hdx : bx - ax = dx at *
  generalize hdy : by' - ay = dy at *
  have HDX : Hid (bx - ax = dx ∧ by' - ay = dy) := ⟨hdx, hdy⟩
  clear hdx hdy
  obtain ⟨W4, hW4⟩ : ∃ W4, w3.alloc (.cells #[.int .i64 dx, .int .i64 dy] 34) = W4 := ⟨_, rfl⟩
  have n4 : Nw w3 W4 := by rw [← hW4]; exact (Below.refl _ _).alloc (Nat.le_refl _) _
  have n5 : Nw W W4.drew := Nw.trans k3.nw (Nw.trans n4 ((Below.refl _ _).drew))
  have e5 := fun b o hb => (bcell n5).1 b o hb
  have f5 := fun b o hb => (bcell n5).2 b o hb
  have hsz := SZ.out
  have A5 : Hid (W4.drew.cell? ⟨w.heap.size, 0, none⟩ = some (.int .i64 ax) ∧ W4.drew.cell? ⟨w.heap.size, 1, none⟩ = some (.int .i64 ay)) := ⟨(e5 _ _ (by omega)).trans A1.out.1, (e5 _ _ (by omega)).trans A1.out.2⟩
  have D5 : Hid (W4.drew.cell? ⟨w3.heap.size, 0, none⟩ = some (.int .i64 dx) ∧ W4.drew.cell? ⟨w3.heap.size, 1, none⟩ = some (.int .i64 dy)) := by
    show W4.cell? _ = _ ∧ W4.cell? _ = _
    rw [← hW4]
    exact ⟨World.cell?_alloc_at _ _ _ _ rfl, World.cell?_alloc_at _ _ _ _ rfl⟩
  have R5 : Hid ((∃ z, W4.drew.cell? ⟨w.heap.size + 2, 0, none⟩ = some z) ∧ (∃ z, W4.drew.cell? ⟨w.heap.size + 2, 1, none⟩ = some z) ∧ ∀ o, W4.drew.frozen? ⟨w.heap.size + 2, o, none⟩ = false) := by
    obtain ⟨⟨z0, y0⟩, ⟨z1, y1⟩, yf⟩ := R1.out
    exact ⟨⟨z0, (e5 _ _ (by omega)).trans y0⟩, ⟨z1, (e5 _ _ (by omega)).trans y1⟩, fun o => (f5 _ _ (by omega)).trans (yf o)⟩
  have N4 : Hid (Nw w W4.drew) := Nw.trans NW.out n5
  have HW4 : Hid (_ = W4) := hW4
  clear k3 n4 n5 e5 f5 hsz hW4
  go_wp2
  rw [HW4.out]
  refine reg_change (ops' := opsOf 2 Tryz.f64) (by kernel_rfl) ?_
  refine PLR.run ⟨w.heap.size, w3.heap.size, w.heap.size + 2, ax, ay, dx, dy, k, n, W4.drew, _⟩ ⟨A5.out.1, A5.out.2, D5.out.1, D5.out.2, HF.out.2.2.2.2.1, HF.out.2.2.2.2.2, HF.out.1, HF.out.2.1, HF.out.2.2.1, HF.out.2.2.2.1, HS1.out.1, HS1.out.2, HQ.out.1, HQ.out.2, R5.out.1, R5.out.2.1, R5.out.2.2, rfl, rfl, rfl, rfl, rfl, rfl⟩ W4 (Kp.refl _) ?_
  rintro γ w9 ⟨w1, k1, rfl⟩
  obtain ⟨⟨z0, y0⟩, ⟨z1, y1⟩, _⟩ := R5.out
  have x0 := rq_at k1 y0
  have x1 := rq_at k1 y1
  have N1 : Hid (Nw w w1) := Nw.trans N4.out k1.nw
  clear k1 y0 y1
  simp only [Act.put, List.setIfInBounds_toArray, List.set_cons_zero, List.set_cons_succ]
  have c1 : (w1.setCell ⟨w.heap.size + 2, 0, none⟩ (.int .i64 (ax + dx * k / n))).cell? ⟨w.heap.size + 2, 1, none⟩ = some z1 := by
    rw [World.cell?_setCell_other _ _ _ _ (fun e => by injection e; omega)]; exact x1
  have y1 := World.cell?_setCell_same _ ⟨w.heap.size + 2, 1, none⟩ (.int .i64 (ay + dy * k / n)) c1
  have y0 : ((w1.setCell ⟨w.heap.size + 2, 0, none⟩ (.int .i64 (ax + dx * k / n))).setCell ⟨w.heap.size + 2, 1, none⟩ (.int .i64 (ay + dy * k / n))).cell? ⟨w.heap.size + 2, 0, none⟩ = some (.int .i64 (ax + dx * k / n)) := by
    rw [World.cell?_setCell_other _ _ _ _ (fun e => by injection e; omega)]
    exact World.cell?_setCell_same _ ⟨w.heap.size + 2, 0, none⟩ _ x0
  go_wp2
  refine bodyPost_ret (v := .agg #[.int .i64 (ax + dx * k / n), .int .i64 (ay + dy * k / n)]) (by simp [results, Tryz.results64, go_sem, y0, y1]) rfl ⟨by rw [HDX.out.1, HDX.out.2], ?_⟩
  exact (N1.out.setCell (by simp) _).setCell (by simp) _
def walkD (ns : List Int) (a b : Pnt) (n : Int) : Nat → Dg → Int → Dg
 | 0, d, _ => d
 | f + 1, d, g => if d.left ≤ n - g then (if 2400 < (turnD ns d (placeV a b (g + d.left) n)).begun then turnD ns d (placeV a b (g + d.left) n) else walkD ns a b n f (turnD ns d (placeV a b (g + d.left) n)) (g + d.left)) else reachD ⟨d.at', d.left - (n - g), d.begun, d.p, d.o⟩ b
def alongD (ns : List Int) (d : Dg) (a b : Pnt) : Dg := if szV a b = 0 then d else walkD ns a b (szV a b) (2401 - d.begun + 1) d 0
structure DB (c : Nat) (d : Dg) : Prop where
 ha : d.at' ≤ d.begun + 16
 hp : d.p.length ≤ c
 ho : d.o.length ≤ d.begun
 h0 : 0 ≤ d.left
 h1 : d.left ≤ 67108864
 hb : d.begun ≤ 2401 + c
 hm : manyL d.o + d.p.length ≤ 2 * d.begun + c
def NB (ns : List Int) : Prop := 0 < ns.length ∧ ∀ i, i < ns.length → 0 ≤ intAt ns i ∧ intAt ns i ≤ 67108864
theorem turn_is (ns : List Int) (d : Dg) (q : Pnt) : (turnD ns d q).begun = d.begun + 1 ∧ (turnD ns d q).at' = d.at' + 1 ∧ (turnD ns d q).p.length ≤ 1 ∧ (turnD ns d q).o.length ≤ d.o.length + 1 ∧ (turnD ns d q).left = intAt ns ((d.at' + 1) % ns.length) ∧ manyL (turnD ns d q).o + (turnD ns d q).p.length ≤ manyL d.o + d.p.length + 2 := by
 obtain ⟨b1, b2, b3, b4, b5⟩ := rD_bd d q
 obtain ⟨c1, c2, c3, c4, c5⟩ := rD_bd (moreD (nextD ns (layD (reachD d q)))) q
 have e := endL_len (reachD d q).o (reachD d q).p false
 have em := endL_many (reachD d q).o (reachD d q).p false
 have ho : (turnD ns d q).o = endL (reachD d q).o (reachD d q).p false := c2
 have hp : (turnD ns d q).p.length ≤ 1 := Nat.le_trans c1 (Nat.le_refl _)
 refine ⟨c4.trans ?_, c3.trans ?_, hp, ?_, c5.trans ?_, by rw [ho]; rw [b2] at em ⊢; omega⟩
 ·show (reachD d q).begun + 1 = _; rw [b4]
 ·show (reachD d q).at' + 1 = _; rw [b3]
 ·show (reachD (moreD (nextD ns (layD (reachD d q)))) q).o.length ≤ _
  rw [c2]
  show (endL (reachD d q).o (reachD d q).p false).length ≤ _
  rw [b2] at e ⊢
  exact e
 ·show intAt ns (((reachD d q).at' + 1) % ns.length) = _; rw [b3]
theorem DB.turn {c : Nat} {d : Dg} {ns : List Int} (h : DB c d) (hc : 1 ≤ c) (hn : NB ns) (q : Pnt) (hb : d.begun + 1 ≤ 2401 + c) : DB c (turnD ns d q) := by
 obtain ⟨t1, t2, t3, t4, t5, t6⟩ := turn_is ns d q
 obtain ⟨n1, n2⟩ := hn.2 _ (Nat.mod_lt (d.at' + 1) hn.1)
 exact ⟨by rw [t1, t2]; have := h.ha; omega, by omega, by rw [t1]; have := h.ho; omega, by rw [t5]; exact n1, by rw [t5]; exact n2, by rw [t1]; exact hb, by rw [t1]; have := h.hm; omega⟩
theorem DB.more {c : Nat} {d : Dg} (h : DB c d) : DB (c + 1) d := ⟨h.ha, by have := h.hp; omega, h.ho, h.h0, h.h1, by have := h.hb; omega, by have := h.hm; omega⟩
set_option maxRecDepth 100000 in
set_option maxHeartbeats 8000000 in
theorem ialong (w0 w : World) (bx : Nat) (K : List (Nat × Int × Int)) (na : Option Addr) (nc : Nat) (ns : List Int) (d : Dg) (ax ay ex ey : Int) (c : Nat) (hb0 : w0.heap.size ≤ bx) (hna : nearB (ax, ay) = true) (hnb : nearB (ex, ey) = true) (hI : Ints w0 na ns) (hns : NB ns) (hc : 1 ≤ c) (hc2 : c ≤ 10000) (hdb : DB c d) (h : DhS bx w0 w K na nc ns d) :
  Calls Tryz.prog 33 #[.pointer (some ⟨bx, 0, none⟩), .agg #[.int .i64 ax, .int .i64 ay], .agg #[.int .i64 ex, .int .i64 ey]] w fun e w' => e = .returned (.tuple #[]) ∧ DhS bx w0 w' K na nc ns (alongD ns d (ax, ay) (ex, ey)) ∧ DB (c + 1) (alongD ns d (ax, ay) (ex, ey)) := by
 have HSZ : Hid (∀ w, _) := fun w => isizeOf w (ax, ay) (ex, ey)
 have e1 : soV (ax, ay) (ex, ey) = (szV (ax, ay) (ex, ey), true) := by unfold soV; rw [if_pos ⟨hna, hnb⟩]
 rw [e1] at HSZ
 simp only at HSZ
 have hn0 : 0 ≤ szV (ax, ay) (ex, ey) := (szV_is _ _).1
 have hn1 : szV (ax, ay) (ex, ey) ≤ 268435455 := szV_le hna hnb
 obtain ⟨R, hR⟩ : ∃ R, alongD ns d (ax, ay) (ex, ey) = R := ⟨_, rfl⟩
 rw [hR]
 obtain ⟨n, hn⟩ : ∃ n, szV (ax, ay) (ex, ey) = n := ⟨_, rfl⟩
 have hR2 : (if n = 0 then d else walkD ns (ax, ay) (ex, ey) n (2401 - d.begun + 1) d 0) = R := by rw [← hR, ← hn]; rfl
 rw [hn] at HSZ hn0 hn1
 obtain ⟨W2, hW2⟩ : ∃ W2, (w.alloc (.cells #[.int .i64 ax, .int .i64 ay] 34)).alloc (.cells #[.int .i64 ex, .int .i64 ey] 34) = W2 := ⟨_, rfl⟩
 have h2 := DhS.box (DhS.box h ax ay 34) ex ey 34
 rw [hW2, World.size_alloc] at h2
 obtain ⟨ba, hba⟩ : ∃ ba, w.heap.size = ba := ⟨_, rfl⟩
 rw [hba] at h2
 have H2 : Hid (DhS bx w0 W2 ((ba + 1, ex, ey) :: (ba, ax, ay) :: K) na nc ns d) := h2
 have HNA : Hid (nr ax ∧ nr ay ∧ nr ex ∧ nr ey) := ⟨(nearB_nr hna).1, (nearB_nr hna).2, (nearB_nr hnb).1, (nearB_nr hnb).2⟩
 have HW2 : Hid (_ = W2) := hW2
 have HBA : Hid (w.heap.size = ba) := hba
 have HI : Hid (Ints w0 na ns) := hI
 have HNB : Hid (NB ns) := hns
 have HDB : Hid (DB c d) := hdb
 obtain ⟨q0, q1⟩ := DhS.at H2.out (b := ba) (x := ax) (y := ay) (by simp)
 obtain ⟨q2, q3⟩ := DhS.at H2.out (b := ba + 1) (x := ex) (y := ey) (by simp)
 clear h h2 hW2 hba hI hns hdb hna hnb e1 hR
 by_cases hz : n = 0
 ·subst hz
  have HR : Hid (R = d) := by show _ = _; rw [← hR2, if_pos rfl]
  clear hR2 hn
  go_enter Tryz.func33, Tryz.ntmps33
  go_wp2_with fail
  rw [HW2.out]
  refine Calls.mono (HSZ.out _) ?_
  rintro e w3 ⟨rfl, k3⟩
  have H3 : Hid (DhS bx w0 w3 K na nc ns d) := DhS.sub (DhS.nw H2.out k3.nw) (fun k hk => by simp [hk])
  clear k3 q0 q1 q2 q3
  go_wp2
  (try simp only [Exit.inBlock, Exit.then])
  refine bodyPost_ret (results_none rfl _ _ _) rfl ?_
  exact ⟨rfl, by rw [HR.out]; exact ⟨H3.out, HDB.out.more⟩⟩
 ·have HR : Hid (walkD ns (ax, ay) (ex, ey) n (2401 - d.begun + 1) d 0 = R) := by show _ = _; rw [← hR2, if_neg hz]
  have hz1 : (n == 0) = false := by simp [hz]
  clear hR2 hn
  go_enter Tryz.func33, Tryz.ntmps33
  go_wp2_with fail
  rw [HW2.out, HBA.out]
  refine Calls.mono (HSZ.out _) ?_
  rintro e w3 ⟨rfl, k3⟩
  have H3 : Hid (DhS bx w0 w3 ((ba + 1, ex, ey) :: (ba, ax, ay) :: K) na nc ns d) := DhS.nw H2.out k3.nw
  clear k3 q0 q1 q2 q3 H2
  go_wp2
  clear hz1
  go_loopw [8] (fun g wr => ∃ gi : Int, g = .int .i64 gi ∧ 0 ≤ gi ∧ gi ≤ n ∧ ∃ d', DhS bx w0 wr ((ba + 1, ex, ey) :: (ba, ax, ay) :: K) na nc ns d' ∧ DB c d' ∧ walkD ns (ax, ay) (ex, ey) n (2401 - d'.begun + 1) d' gi = R) (fun _ wr => 30000 - (intOf ((wr.cell? ⟨bx, 3, none⟩).getD undef)).toNat)
  case atStart => exact ⟨0, rfl, by omega, by omega, d, H3.out, HDB.out, HR.out⟩
  case round =>
   obtain ⟨gi, rfl, hg0, hg1, d', hd', hdb', hr'⟩ := hrel
   have HD : Hid (DhS bx w0 wr ((ba + 1, ex, ey) :: (ba, ax, ay) :: K) na nc ns d') := hd'
   have HB' : Hid (DB c d') := hdb'
   have HR' : Hid (walkD ns (ax, ay) (ex, ey) n (2401 - d'.begun + 1) d' gi = R) := hr'
   have hl0 := hdb'.h0
   have hl1 := hdb'.h1
   have hbg := hdb'.hb
   obtain ⟨v, it, u, dh, _, _, _⟩ := hd'
   have c2 := dh.c2
   have c3 := dh.c3
   have fr := dh.free
   obtain ⟨q0, q1⟩ := DhS.at HD.out (b := ba) (x := ax) (y := ay) (by simp)
   obtain ⟨q2, q3⟩ := DhS.at HD.out (b := ba + 1) (x := ex) (y := ey) (by simp)
   clear hdb' hr' dh
   obtain ⟨lf, hlf⟩ : ∃ lf, d'.left = lf := ⟨_, rfl⟩
   have HLF : Hid (d'.left = lf) := hlf
   obtain ⟨bg, hbgn⟩ : ∃ bg, d'.begun = bg := ⟨_, rfl⟩
   have HBG : Hid (d'.begun = bg) := hbgn
   rw [hlf] at c2 hl0 hl1
   rw [hbgn] at c3 hbg
   by_cases hle : lf ≤ n - gi
   ·have dl : decide (lf ≤ n - gi) = true := decide_eq_true hle
    obtain ⟨q, hq⟩ : ∃ q, placeV (ax, ay) (ex, ey) (gi + lf) n = q := ⟨_, rfl⟩
    have HRT : Hid ((if 2400 < (turnD ns d' q).begun then turnD ns d' q else walkD ns (ax, ay) (ex, ey) n (2401 - bg) (turnD ns d' q) (gi + lf)) = R) := by
     have := HR'.out
     rw [HBG.out] at this
     rw [walkD, if_pos (by rw [HLF.out]; exact hle), HLF.out, hq] at this
     exact this
    have HPL : Hid (∀ w, _) := fun w => iplace w ax ay ex ey (gi + lf) n HNA.out.1 HNA.out.2.1 HNA.out.2.2.1 HNA.out.2.2.2 (by omega) (by omega) (by omega) (by omega)
    rw [hq] at HPL
    obtain ⟨t1, t2, t3, t4, t5, t6⟩ := turn_is ns d' q
    have HT1 : Hid ((turnD ns d' q).begun = bg + 1) := by show _ = _; rw [t1, HBG.out]
    obtain ⟨px, py⟩ := q
    simp only at HPL
    have HDT : Hid (∀ c2, 1 ≤ c2 → DB c2 d' → bg + 1 ≤ 2401 + c2 → DB c2 (turnD ns d' (px, py))) := fun c2 h1 h2 h3 => DB.turn h2 h1 HNB.out _ (by rw [HBG.out]; exact h3)
    have hwa : IntKind.i64.wrap (gi + lf) = gi + lf := IntWalk.i64_in _ ⟨by omega, by omega⟩
    clear hq t1 t2 t3 t4 t5 t6 hlf hbgn
    go_wp2_with fail
    refine Calls.mono (HPL.out _) ?_
    rintro e w4 ⟨rfl, n4⟩
    have H4 : Hid (DhS bx w0 w4 ((ba + 1, ex, ey) :: (ba, ax, ay) :: K) na nc ns d') := DhS.nw HD.out n4
    clear n4
    go_wp2_with fail
    refine Calls.mono (iturn w0 w4 bx _ na nc ns d' px py hb0 HNB.out.1 (by have := HB'.out.ha; have := HB'.out.hb; omega) (by have := HB'.out.hb; omega) (by have := HB'.out.hp; omega) (by have := HB'.out.ho; have := HB'.out.hb; omega) HI.out H4.out) ?_
    rintro e w5 ⟨rfl, h5⟩
    have H5 : Hid (DhS bx w0 w5 ((ba + 1, ex, ey) :: (ba, ax, ay) :: K) na nc ns (turnD ns d' (px, py))) := h5
    obtain ⟨v5, it5, u5, dh5, _, _, _⟩ := h5
    have c35 := dh5.c3
    rw [HT1.out] at c35
    simp only [Int.natCast_add, Int.cast_ofNat_Int] at c35
    clear dh5
    by_cases hgt : 2400 < bg + 1
    ·have dg : decide ((2400 : Int) < (bg : Int) + 1) = true := by simp; omega
     have HRT2 : Hid (R = turnD ns d' (px, py)) := by
      show _ = _
      have := HRT.out
      rw [HT1.out, if_pos hgt] at this
      exact this.symm
     clear c2 c3 fr q0 q1 q2 q3 dl hwa
     go_wp2
     (try simp only [Exit.inBlock, Exit.then])
     refine bodyPost_ret (results_none rfl _ _ _) rfl ?_
     refine ⟨rfl, ?_⟩
     rw [HRT2.out]
     exact ⟨DhS.sub H5.out (fun k hk => by simp [hk]), HDT.out (c + 1) (by omega) HB'.out.more (by have := HB'.out.hb; omega)⟩
    ·have dg : decide ((2400 : Int) < (bg : Int) + 1) = false := by simp; omega
     have HRT2 : Hid (walkD ns (ax, ay) (ex, ey) n (2401 - (turnD ns d' (px, py)).begun + 1) (turnD ns d' (px, py)) (gi + lf) = R) := by
      show _ = _
      have := HRT.out
      rw [HT1.out, if_neg hgt] at this
      rw [HT1.out, show 2401 - (bg + 1) + 1 = 2401 - bg by omega]
      exact this
     have c3' := c3
     clear c2 c3 fr q0 q1 q2 q3 dl hwa
     go_wp2
     go_roundw
     case rel => exact ⟨gi + lf, rfl, by omega, by omega, _, H5.out, HDT.out c hc HB'.out (by omega), HRT2.out⟩
     case measure => rw [c35, c3']; simp [intOf]; omega
   ·have dl : decide (lf ≤ n - gi) = false := decide_eq_false hle
    have HRT : Hid (R = reachD ⟨d'.at', lf - (n - gi), d'.begun, d'.p, d'.o⟩ (ex, ey)) := by
     show _ = _
     have := HR'.out
     rw [walkD, if_neg (by rw [HLF.out]; exact hle), HLF.out] at this
     exact this.symm
    have hw1 : IntKind.i64.wrap (n - gi) = n - gi := IntWalk.i64_in _ ⟨by omega, by omega⟩
    have hw2 : IntKind.i64.wrap (lf - (n - gi)) = lf - (n - gi) := IntWalk.i64_in _ ⟨by omega, by omega⟩
    have H5 : Hid (DhS bx w0 (wr.setCell ⟨bx, 2, none⟩ (.int .i64 (lf - (n - gi)))) ((ba + 1, ex, ey) :: (ba, ax, ay) :: K) na nc ns ⟨d'.at', lf - (n - gi), d'.begun, d'.p, d'.o⟩) := by
     obtain ⟨v, it, u, dh, o1, n1, k1⟩ := HD.out
     obtain ⟨s1, s2⟩ := DH.setL dh (lf - (n - gi))
     exact DhS.of s1 o1 (Below.trans n1 (Below.mono s2 hb0)) rfl rfl rfl rfl (Kb.set k1 2 _)
    obtain ⟨r2, r3⟩ := DhS.at H5.out (b := ba + 1) (x := ex) (y := ey) (by simp)
    have HDB2 : Hid (DB (c + 1) (reachD ⟨d'.at', lf - (n - gi), d'.begun, d'.p, d'.o⟩ (ex, ey))) := by
     obtain ⟨b1, b2, b3, b4, b5⟩ := rD_bd ⟨d'.at', lf - (n - gi), d'.begun, d'.p, d'.o⟩ (ex, ey)
     simp only at b1 b2 b3 b4 b5
     have g1 := HB'.out.ha
     have g2 := HB'.out.hp
     have g3 := HB'.out.ho
     have g4 := HB'.out.hb
     have g5 := HB'.out.hm
     exact ⟨by rw [b3, b4]; exact g1, by omega, by rw [b2, b4]; exact g3, by rw [b5]; omega, by rw [b5]; omega, by rw [b4]; omega, by rw [b2, b4]; omega⟩
    clear hlf hbgn c3 q0 q1 q2 q3
    go_wp2_with fail
    refine Calls.mono (ireach w0 _ bx _ na nc ns ⟨d'.at', lf - (n - gi), d'.begun, d'.p, d'.o⟩ ex ey hb0 (by have := HB'.out.hp; show d'.p.length ≤ _; omega) H5.out) ?_
    rintro e w6 ⟨rfl, h6⟩
    have H6 : Hid _ := h6
    clear h6 c2 fr r2 r3 dl hw1 hw2
    go_wp2
    go_end0
    refine ⟨rfl, ?_⟩
    rw [HRT.out]
    exact ⟨DhS.sub H6.out (fun k hk => by simp [hk]), HDB2.out⟩
end Go.Proofs.YtnkeljmecbohkaaGreat
