/-
  The walk of the law on StrokeLines; its arguments' lengths a
-/
import Derived.Test.YtfdjjbgcaojcnaaGreatJAU
import Derived.Test.YtfdjjbgcaojcnaaGreatJAA
import Derived.Deep.SlicePairs
import Derived.Lib.SmallJoins
import Derived.ShutString
import Derived.ChangeOld
import Derived.Test.YtfdjjbgcaojcnaaGreatJAC
import Derived.Test.YtfdjjbgcaojcnaaGreatJAL
namespace Go.Proofs.YtfdjjbgcaojcnaaGreat
open Go.ChangeShapes Go.WideShapes Go.ChangeAt Go.RowKit
set_option linter.unusedVariables false
def CpS (l : List LD) (p : PD) (ns : List Int) (i : Nat) (w : World) (u : Value) : Prop :=
 (i = 0 → ∃ g it, u = .slice (some ⟨g, 0, none⟩) l.length l.length ∧ it.map (·.2) = l ∧ LayLn w g it l.length) ∧ (i = 1 → ∃ g, u = penV p (.slice (some ⟨g, 0, none⟩) ns.length ns.length) ∧ LayI w g ns)
theorem CpS.nw {l : List LD} {p : PD} {ns : List Int} {i : Nat} {w w' : World} {u : Value} (h : CpS l p ns i w u) (k : Nw w w') : CpS l p ns i w' u := by
 refine ⟨fun e => ?_, fun e => ?_⟩
 ·obtain ⟨g, it, h1, h2, h3⟩ := h.1 e
  exact ⟨g, it, h1, h2, h3.nw k⟩
 ·obtain ⟨g, h1, h2⟩ := h.2 e
  exact ⟨g, h1, LayI.nw h2 k⟩
def AnS (M : List LD) (ok : Bool) (w : World) (r b : Value) : Prop := b = .bool ok ∧ (∃ sa sn sc, r = .slice sa sn sc) ∧ RowL w r M
set_option maxRecDepth 100000 in
set_option maxHeartbeats 16000000 in
theorem walk_strk (w : World) (a : Option Addr) (l : List LD) (c : Nat) (pw pj pc : Int) (na : Option Addr) (ns : List Int) (nc : Nat) (pf : Int) (hr : Lines w a l) (ho : ∀ i, i < l.length → (lnAt l i).pts.length ≤ maxLen) (hl : l.length ≤ maxLen) (hI : Ints w na ns) (hnl : ns.length ≤ maxLen) :
  Calls Tryz.prog 4 #[.slice a l.length c, .agg #[.int .i64 pw, .int .i64 pj, .int .i64 pc, .slice na ns.length nc, .int .i64 pf]] w fun e w' => e = .returned (.bool true) ∧ Below w.heap.size w w' := by
 have HZ : Hid (∀ w : World, Lines w a l → _) := fun w h => szLineS_any w a c l 1048576 (by omega) (by omega) hl ho h
 obtain ⟨p, hp⟩ : ∃ p : PD, p = ⟨pw, pj, pc, pf⟩ := ⟨_, rfl⟩
 have HP : Hid (p = ⟨pw, pj, pc, pf⟩) := hp
 have HZP : Hid (∀ (w : World) (left : Int), 0 ≤ left → left ≤ 1048576 → _) := fun w left h0 h1 => szPen_any w ⟨pw, pj, pc, pf⟩ na ns.length nc left h0 h1 hnl
 unfold penV at HZP
 simp only at HZP
 have HR : Hid (Lines w a l) := hr
 have HI : Hid (Ints w na ns) := hI
 clear ho hr hI hnl hp
 obtain ⟨W0, hW0⟩ : ∃ W0, w.alloc (.cells #[.int .i64 pw, .int .i64 pj, .int .i64 pc, .slice na ns.length nc, .int .i64 pf] 42) = W0 := ⟨_, rfl⟩
 have N0 : Hid (Nw w W0) := by show Nw _ _; rw [← hW0]; exact (Below.refl _ _).alloc (Nat.le_refl _) _
 have PB0 : Hid (PB W0 w.heap.size ⟨pw, pj, pc, pf⟩ (.slice na ns.length nc)) := by show PB _ _ _ _; rw [← hW0]; exact PB.new w ⟨pw, pj, pc, pf⟩ _ _
 have HW0 : Hid (_ = W0) := hW0
 clear hW0
 by_cases h : ((l.length + manyL l : Nat) : Int) ≤ 1048576
 ·have e1 : szLn l 1048576 = 1048576 - ((l.length + manyL l : Nat) : Int) := by unfold szLn; rw [if_pos h]
  rw [e1] at HZ
  obtain ⟨left, hleft⟩ : ∃ left : Int, 1048576 - ((l.length + manyL l : Nat) : Int) = left := ⟨_, rfl⟩
  rw [hleft] at HZ
  have hl0 : 0 ≤ left := by omega
  have hl1 : left ≤ 1048576 := by omega
  have hd1 : decide (left < 0) = false := decide_eq_false (by omega)
  have hll : l.length ≤ 1048576 := by omega
  have hmm : manyL l ≤ 1048576 := by omega
  have HZP1 : Hid (∀ w : World, _) := fun w => HZP.out w left hl0 hl1
  clear hleft e1 h HZP
  by_cases h2 : (ns.length : Int) ≤ left
  ·rw [if_pos h2] at HZP1
   have hd2 : decide (left - (ns.length : Int) < 0) = false := decide_eq_false (by omega)
   have hnn : ns.length ≤ 1048576 := by omega
   have HT : Hid (∀ w : World, Lines w a l → _) := fun w h => toLineS_any w a c l hll (lenS_of hmm) h
   have HTP : Hid (∀ w : World, Ints w na ns → _) := fun w h => toPen_any w ⟨pw, pj, pc, pf⟩ na nc ns hnn h
   have HS : Hid (∀ (w : World) (u0 u1 : Value), CpS l ⟨pw, pj, pc, pf⟩ ns 0 w u0 → CpS l ⟨pw, pj, pc, pf⟩ ns 1 w u1 → Calls Tryz.prog 11 #[u0, u1] w fun e w' => ∃ r b, e = .returned (.tuple #[r, b]) ∧ AnS (stkV l ⟨pw, pj, pc, pf⟩ ns).1 (stkV l ⟨pw, pj, pc, pf⟩ ns).2 w' r b ∧ Nw w w') := fun w u0 u1 h0 h1 => by
    obtain ⟨g, it, rfl, e2, lay⟩ := h0.1 rfl
    obtain ⟨g1, rfl, lay1⟩ := h1.2 rfl
    have hL := lay.lines
    rw [e2] at hL
    refine Calls.mono (sstrokeLines w (some ⟨g, 0, none⟩) l.length l ⟨pw, pj, pc, pf⟩ (some ⟨g1, 0, none⟩) ns.length ns hll hmm hnn hL lay1.ints) ?_
    rintro e w' ⟨v, rfl, ⟨it', o, e3⟩, n⟩
    have hrow := o.row
    rw [e3] at hrow
    exact ⟨v, _, rfl, ⟨rfl, OwnQ.slice o.own, hrow⟩, n⟩
   have HGI : Hid (∀ (w : World) (g g1 : Nat) (it : Its), it.map (·.2) = l → LayLn w g it l.length → LayI w g1 ns → _) := fun w g g1 it e lay lay1 => istrokeLines w (some ⟨g, 0, none⟩) l.length l ⟨pw, pj, pc, pf⟩ (some ⟨g1, 0, none⟩) ns.length ns hll hmm hnn (by have := lay.linesC; rw [e] at this; exact this) lay1.ints
   have HG2 : Hid (∀ (w : World) (u0 u1 : Value), CpS l ⟨pw, pj, pc, pf⟩ ns 0 w u0 → CpS l ⟨pw, pj, pc, pf⟩ ns 1 w u1 → Calls Tryz.prog 10 #[u0, u1] w fun e w' => ∃ r b, e = .returned (.tuple #[r, b]) ∧ AnS (stkV l ⟨pw, pj, pc, pf⟩ ns).1 (stkV l ⟨pw, pj, pc, pf⟩ ns).2 w' r b ∧ Nw w w') := fun w u0 u1 h0 h1 => by
    obtain ⟨g, it, rfl, e2, lay⟩ := h0.1 rfl
    obtain ⟨g1, rfl, lay1⟩ := h1.2 rfl
    refine Calls.mono (HGI.out w g g1 it e2 lay lay1) ?_
    rintro e w' ⟨v, rfl, ⟨it', o, e3⟩, n⟩
    have hrow := o.row
    rw [e3] at hrow
    exact ⟨v, _, rfl, ⟨rfl, OwnQ.slice o.own, hrow⟩, n⟩
   have HCC0 : Hid (∀ w' : World, Nw w w' → Calls Tryz.prog 14 #[.slice a l.length c] w' fun e w'' => ∃ u, e = .returned u ∧ CpS l ⟨pw, pj, pc, pf⟩ ns 0 w'' u ∧ Nw w' w'') := fun w' k => by
    refine Calls.mono (HT.out w' (Lines.nw HR.out k)) ?_
    rintro e w'' ⟨rfl, n, it, e2, lay⟩
    exact ⟨_, rfl, ⟨fun _ => ⟨_, it, rfl, e2, lay⟩, (fun e => by cases e)⟩, n⟩
   have HCC1 : Hid (∀ w' : World, Nw w w' → Calls Tryz.prog 15 #[.agg #[.int .i64 pw, .int .i64 pj, .int .i64 pc, .slice na ns.length nc, .int .i64 pf]] w' fun e w'' => ∃ u, e = .returned u ∧ CpS l ⟨pw, pj, pc, pf⟩ ns 1 w'' u ∧ Nw w' w'') := fun w' k => by
    refine Calls.mono (HTP.out w' (Ints.nw HI.out k)) ?_
    rintro e w'' ⟨g, rfl, n, _, lay⟩
    exact ⟨_, rfl, ⟨(fun e => by cases e), fun _ => ⟨g, rfl, lay⟩⟩, n⟩
   obtain ⟨hML, hMM⟩ := stkV_bd l ⟨pw, pj, pc, pf⟩ ns
   unfold penV at HTP HGI
   simp only at HTP HGI
   unfold StS at HGI
   obtain ⟨RR, hRR⟩ : ∃ RR, stkV l ⟨pw, pj, pc, pf⟩ ns = RR := ⟨_, rfl⟩
   rw [hRR] at hML hMM HS HGI HG2
   clear hRR
   obtain ⟨M, ok⟩ := RR
   simp only at hML hMM HS HGI HG2
   have HE : Hid (∀ (w : World) (v1 v2 : Value), RowL w v1 M → RowL w v2 M → _) := fun w v1 v2 h1 h2 => eqLineS_any w v1 v2 M hML (lenS_of hMM) h1 h2
   have HX : Hid (∀ (w : World) (v1 v2 : Value), RowL w v1 l → RowL w v2 l → _) := fun w v1 v2 h1 h2 => eqLineS_any w v1 v2 l hll (lenS_of hmm) h1 h2
   have HMB : Hid (M.length ≤ 1048576 ∧ manyL M ≤ 1048576) := ⟨hML, hMM⟩
   have HLB : Hid (l.length ≤ 1048576 ∧ manyL l ≤ 1048576 ∧ ns.length ≤ 1048576) := ⟨hll, hmm, hnn⟩
   have hbb : (ok != ok) = false := by cases ok <;> rfl
   obtain ⟨nn, hnn'⟩ : ∃ nn, ns.length = nn := ⟨_, rfl⟩
   have HNN : Hid (ns.length = nn) := hnn'
   rw [hnn'] at HZP1 HTP HGI HCC1 HW0 PB0 hd2 ⊢
   obtain ⟨n, hn'⟩ : ∃ n, l.length = n := ⟨_, rfl⟩
   have HN : Hid (l.length = n) := hn'
   rw [hn'] at HZ HT HGI HCC0 ⊢
   clear hn' hnn' hll hmm hnn hML hMM h2 hl
   go_enter Tryz.func4, Tryz.ntmps4
   go_wp2_with fail
   rw [HW0.out]
   refine Calls.mono (HZ.out _ (Lines.nw HR.out N0.out)) ?_
   rintro e w1 ⟨rfl, n1⟩
   have N1 : Hid (Nw W0 w1) := n1
   obtain ⟨q0, q1, q2, q3, q4⟩ := PB.nw PB0.out n1
   simp only at q0 q1 q2 q3 q4
   clear n1
   go_wp2_with fail
   refine Calls.mono (HZP1.out _) ?_
   rintro e w2 ⟨rfl, n2⟩
   have N2 : Hid (Nw W0 w2) := Nw.trans N1.out n2
   have D2 : Hid (Nw w2 w2.drew) := (Below.refl _ _).drew
   have P2 : Hid (PB w2.drew w.heap.size ⟨pw, pj, pc, pf⟩ (.slice na nn nc)) := PB.nw PB0.out (Nw.trans N2.out D2.out)
   have NW2 : Hid (Nw w w2.drew) := Nw.trans N0.out (Nw.trans N2.out D2.out)
   clear n2 q0 q1 q2 q3 q4
   go_wp2
   refine reg_change (ops' := opsOf 8 Tryz.f4) (by kernel_rfl) ?_
   refine SL8.run ⟨w.heap.size, a, n, c, ⟨pw, pj, pc, pf⟩, na, nn, nc, CpS l ⟨pw, pj, pc, pf⟩ ns, AnS M ok, w2.drew, _⟩ ⟨P2.out.c0, P2.out.c1, P2.out.c2, P2.out.c3, P2.out.c4, fun i w w' u h k => CpS.nw h k, fun w' k => HCC0.out w' (Nw.trans NW2.out k), fun w' k => HCC1.out w' (Nw.trans NW2.out k), fun w' u0 u1 k h0 h1 => HS.out w' u0 u1 h0 h1, rfl, rfl, rfl⟩ w2 (Below.refl _ _) ?_
   rintro γ w4 r4 b4 n4 ⟨hb4, ⟨sa, sn, sc, hr4⟩, row4⟩
   replace hr4 : r4 = .slice sa sn sc := hr4
   replace hb4 : b4 = .bool ok := hb4
   replace row4 : RowL w4 r4 M := row4
   replace n4 : Nw w2.drew w4 := n4
   subst hr4 hb4
   have R4 : Hid (RowL w4 (.slice sa sn sc) M) := row4
   have N4 : Hid (Nw w w4) := Nw.trans NW2.out n4
   have NQ4 : Hid (Nw W0 w4) := Nw.trans N2.out (Nw.trans D2.out n4)
   simp only [Act.put, List.setIfInBounds_toArray, List.set_cons_zero, List.set_cons_succ]
   generalize γ 0 = y0 at *
   generalize γ 1 = y1 at *
   clear row4 n4 P2
   go_wp2_with fail
   refine Calls.mono (HT.out _ (Lines.nw HR.out N4.out)) ?_
   rintro e w5 ⟨rfl, n5, it5, hit5, l5⟩
   have hi5 : it5.length = n := by rw [← HN.out, ← hit5]; simp
   have L5 : Hid (LayLn w5 w4.heap.size it5 n) := l5
   have HI5 : Hid (it5.map (·.2) = l ∧ it5.length = n) := ⟨hit5, hi5⟩
   have M5 : Hid (Nw w4 w5) := n5
   have S5 : Hid (w4.heap.size < w5.heap.size) := l5.lt
   obtain ⟨q0, q1, q2, q3, q4⟩ := PB.nw PB0.out (Nw.trans NQ4.out n5)
   simp only at q0 q1 q2 q3 q4
   clear n5 l5 hit5 hi5
   go_wp2_with fail
   refine Calls.mono (HTP.out _ (Ints.nw HI.out (Nw.trans N4.out M5.out))) ?_
   rintro e w6 ⟨g6, rfl, n6, hg6, l6⟩
   have M6 : Hid (Nw w4 w6) := Nw.trans M5.out n6
   have K6 : Hid (Nw w5 w6) := n6
   have L6 : Hid (LayI w6 g6 ns) := l6
   have G6 : Hid (w5.heap.size ≤ g6 ∧ g6 < w6.heap.size) := ⟨hg6, l6.1⟩
   clear n6 l6 hg6 q0 q1 q2 q3 q4
   obtain ⟨W7, hW7⟩ : ∃ W7, w6.alloc (.cells #[.int .i64 pw, .int .i64 pj, .int .i64 pc, .slice (some ⟨g6, 0, none⟩) nn nn, .int .i64 pf] 36) = W7 := ⟨_, rfl⟩
   have n7 : Nw w6 W7 := by rw [← hW7]; exact (Below.refl _ _).alloc (Nat.le_refl _) _
   have P7 : Hid (PB W7 w6.heap.size ⟨pw, pj, pc, pf⟩ (.slice (some ⟨g6, 0, none⟩) nn nn)) := by show PB _ _ _ _; rw [← hW7]; exact PB.new w6 ⟨pw, pj, pc, pf⟩ _ _
   have S7 : Hid (W7.heap.size = w6.heap.size + 1) := by show _ = _; rw [← hW7]; simp
   have K7 : Hid (Nw w5 W7) := Nw.trans K6.out n7
   have M7 : Hid (Nw w4 W7) := Nw.trans M6.out n7
   have L7 : Hid (LayI W7 g6 ns) := LayI.nw L6.out n7
   have HG7 : Hid _ := HGI.out W7 w4.heap.size g6 it5 HI5.out.1 (LayLn.nw L5.out K7.out) L7.out
   obtain ⟨q0, q1, q2, q3, q4⟩ := P7.out
   simp only at q0 q1 q2 q3 q4
   have HW7 : Hid (_ = W7) := hW7
   clear hW7 n7
   go_upto_region 11 with fail
   rw [HW7.out]
   go_wp2_with fail
   refine Calls.mono HG7.out ?_
   rintro e w8 ⟨v8, rfl, ⟨it8, o8, hit8⟩, n8⟩
   obtain ⟨ga, gn, gc, hv8⟩ := OwnQ.slice o8.own
   subst hv8
   have O8 : Hid (OwnLn w8 W7.heap.size (.slice ga gn gc) it8) := o8
   have HI8 : Hid (it8.map (·.2) = M) := hit8
   have R8 : Hid (RowL w8 (.slice ga gn gc) M) := by show RowL _ _ _; have := o8.row; rw [hit8] at this; exact this
   have M8 : Hid (Nw w4 w8) := Nw.trans M7.out n8
   have A8 : Hid (Nw W7 w8) := n8
   have Z8 : Hid (it8.length ≤ 1048576 ∧ manyL (it8.map (·.2)) ≤ 1048576) := by
    refine ⟨?_, by rw [hit8]; exact HMB.out.2⟩
    have := congrArg List.length hit8
    simp at this
    have := HMB.out.1
    omega
   clear n8 o8 hit8 q0 q1 q2 q3 q4 HG7
   go_wp2_with fail
   refine Calls.mono (HE.out _ _ _ R8.out (RowL.nw R4.out M8.out)) ?_
   rintro e w9 ⟨rfl, n9⟩
   have M9 : Hid (Nw w4 w9) := Nw.trans M8.out n9
   have A9 : Hid (Nw W7 w9) := Nw.trans A8.out n9
   have O9 : Hid (OwnLn w9 W7.heap.size (.slice ga gn gc) it8) := OwnLn.nw O8.out n9
   clear n9 R8 O8
   go_wp2_with fail
   refine Calls.mono (HT.out _ (Lines.nw HR.out (Nw.trans N4.out M9.out))) ?_
   rintro e w10 ⟨rfl, n10, it10, hit10, l10⟩
   have M10 : Hid (Nw w4 w10) := Nw.trans M9.out n10
   have A10 : Hid (Nw W7 w10) := Nw.trans A9.out n10
   have O10 : Hid (OwnLn w10 W7.heap.size (.slice ga gn gc) it8) := OwnLn.nw O9.out n10
   have P10 : Hid (RowL w10 (.slice (some ⟨w9.heap.size, 0, none⟩) n n) l) := by
    show RowL _ _ _
    have := l10.lines; rw [hit10] at this; exact ⟨_, _, by rw [HN.out], this⟩
   have X10 : Hid (RowL w10 (.slice (some ⟨w4.heap.size, 0, none⟩) n n) l) := by
    show RowL _ _ _
    have := (LayLn.nw L5.out (Nw.trans K7.out A10.out)).lines
    rw [HI5.out.1] at this
    exact ⟨_, _, by rw [HN.out], this⟩
   clear n10 l10 hit10 O9
   go_wp2_with fail
   refine Calls.mono (HX.out _ _ _ X10.out P10.out) ?_
   rintro e w11 ⟨rfl, n11⟩
   have M11 : Hid (Nw w4 w11) := Nw.trans M10.out n11
   have A11 : Hid (Nw W7 w11) := Nw.trans A10.out n11
   have O11 : Hid (OwnLn w11 W7.heap.size (.slice ga gn gc) it8) := OwnLn.nw O10.out n11
   have D11 : Hid (Nw w11 w11.drew) := (Below.refl _ _).drew
   have PX : Hid (PB w11.drew w6.heap.size ⟨pw, pj, pc, pf⟩ (.slice (some ⟨g6, 0, none⟩) ns.length ns.length)) := by show PB _ _ _ _; rw [HNN.out]; exact PB.nw P7.out (Nw.trans A11.out D11.out)
   have PA : Hid (PB w11.drew w.heap.size ⟨pw, pj, pc, pf⟩ (.slice na ns.length nc)) := by show PB _ _ _ _; rw [HNN.out]; exact PB.nw PB0.out (Nw.trans NQ4.out (Nw.trans M11.out D11.out))
   have II : Hid (Ints w11.drew na ns) := Ints.nw HI.out (Nw.trans N4.out (Nw.trans M11.out D11.out))
   have LI : Hid (LayI w11.drew g6 ns) := LayI.nw L7.out (Nw.trans A11.out D11.out)
   clear n11 X10 P10 O10
   go_wp2
   refine reg_change (ops' := opsOf 16 Tryz.f4) (by kernel_rfl) ?_
   refine SL16.run ⟨w6.heap.size, w.heap.size, ⟨pw, pj, pc, pf⟩, .slice (some ⟨g6, 0, none⟩) ns.length ns.length, na, nc, ns, w11.drew, _⟩ ⟨PX.out, PA.out, II.out, LayI.row LI.out, HLB.out.2.2, rfl, rfl, rfl⟩ w11 (Below.refl _ _) ?_
   rintro γ2 w12 ⟨g2', n12⟩
   replace n12 : Nw w11.drew w12 := n12
   have M12 : Hid (Nw w4 w12) := Nw.trans M11.out (Nw.trans D11.out n12)
   have A12 : Hid (Nw W7 w12) := Nw.trans A11.out (Nw.trans D11.out n12)
   have O12 : Hid (OwnLn w12 W7.heap.size (.slice ga gn gc) it8) := OwnLn.nw O11.out (Nw.trans D11.out n12)
   simp only [g2', Act.put, List.setIfInBounds_toArray, List.set_cons_zero, List.set_cons_succ]
   generalize γ2 0 = y2 at *
   generalize γ2 1 = y3 at *
   have hmk := markL_lay w5 w12 w4.heap.size n n it5 (by rw [HI5.out.2]; exact L5.out) (Nw.trans K7.out A12.out) (by rw [HI5.out.2, ← HN.out]; exact HLB.out.1) (by rw [HI5.out.1]; exact HLB.out.2.1)
   rw [HI5.out.2] at hmk
   have hkb : kAt (nsOf it5) 1 n ≤ 50000000 := by
    have h1 := kAt_sum it5 1 it5.length (Nat.le_refl _)
    rw [HI5.out.2] at h1
    have h2 := manyL_le (it5.map (·.2)) n
    rw [HI5.out.1] at h1 h2
    have h3 := HLB.out.2.1
    have h4 := HLB.out.1
    rw [HN.out] at h4
    omega
   generalize hkk : kAt (nsOf it5) 1 n = kk at hmk hkb
   have HMK : Hid _ := hmk
   have HKB : Hid (kk ≤ 50000000) := hkb
   clear n12 g2' O11 hmk hkk hkb PX PA II LI
   go_wp2_with fail
   refine Calls.mono HMK.out ?_
   rintro e w13 ⟨rfl, m13⟩
   have hsz : w4.heap.size ≤ w12.heap.size := Below.size M12.out
   have h57 : w5.heap.size ≤ W7.heap.size := Below.size K7.out
   have M13 : Hid (Nw w4 w13) := nw_midD M12.out m13 (Nat.le_refl _) hsz
   have O13 : Hid (OwnLn w13 W7.heap.size (.slice ga gn gc) it8) := OwnLn.mid O12.out m13 h57
   have L13 : Hid (LayI w13 g6 ns) := LayI.mid (LayI.nw L7.out A12.out) m13 G6.out.1
   have P13 : Hid (PB w13 w6.heap.size ⟨pw, pj, pc, pf⟩ (.slice (some ⟨g6, 0, none⟩) nn nn)) := PB.mid (PB.nw P7.out A12.out) m13 (Below.size K6.out)
   have S13 : Hid (W7.heap.size ≤ w13.heap.size) := Nat.le_trans (Below.size A12.out) m13.size
   have hmp := markPen_lay w13 ⟨pw, pj, pc, pf⟩ g6 kk ns HLB.out.2.2 HKB.out L13.out
   rw [HNN.out] at hmp
   unfold penV at hmp
   simp only at hmp
   have HMP : Hid _ := hmp
   obtain ⟨q0, q1, q2, q3, q4⟩ := P13.out
   simp only at q0 q1 q2 q3 q4
   clear m13 hsz h57 hmp O12 HMK
   go_wp2_with fail
   refine Calls.mono HMP.out ?_
   rintro e w14 ⟨rfl, g14⟩
   have s67 := S7.out
   have g6b := G6.out
   have s56 : w4.heap.size ≤ g6 := by have := S5.out; omega
   have m14 := mid_gr (lo := w4.heap.size) (hi := W7.heap.size) g14 s56 (by omega)
   have s13 := S13.out
   have s47 : w4.heap.size ≤ W7.heap.size := Below.size M7.out
   have M14 : Hid (Nw w4 w14) := nw_midD M13.out m14 (Nat.le_refl _) (by omega)
   have O14 : Hid (OwnLn w14 W7.heap.size (.slice ga gn gc) it8) := OwnLn.mid O13.out m14 (Nat.le_refl _)
   have S14 : Hid (W7.heap.size ≤ w14.heap.size) := Nat.le_trans S13.out g14.size
   have R14 : Hid (RowL w14 (.slice ga gn gc) M) := by show RowL _ _ _; have := O14.out.row; rw [HI8.out] at this; exact this
   have hk0 : decide (((kk + nn : Nat) : Int) < 0) = false := by simp; omega
   generalize ((kk + nn : Nat) : Int) = kz at *
   clear g14 m14 s13 s47 s56 s67 g6b q0 q1 q2 q3 q4 O13 HMP
   go_wp2_with fail
   refine Calls.mono (HE.out _ _ _ R14.out (RowL.nw R4.out M14.out)) ?_
   rintro e w15 ⟨rfl, n15⟩
   have M15 : Hid (Nw w4 w15) := Nw.trans M14.out n15
   have O15 : Hid (OwnLn w15 W7.heap.size (.slice ga gn gc) it8) := OwnLn.nw O14.out n15
   have S15 : Hid (W7.heap.size ≤ w15.heap.size) := Nat.le_trans S14.out (Below.size n15)
   have hmk := markL_own w15 W7.heap.size (.slice ga gn gc) it8 O15.out Z8.out.1 Z8.out.2
   have hhd : Hid (∀ w, MkdL w (.slice ga gn gc) it8 1 → _) := fun w h => heldL_own w (.slice ga gn gc) it8 h Z8.out.1 Z8.out.2
   generalize kAt (nsOf it8) 1 it8.length = mm at hmk hhd
   have HMK : Hid _ := hmk
   have hm0 : decide ((mm : Int) < 0) = false := decide_eq_false (by omega)
   have hmm : ((mm : Int) != (mm : Int)) = false := by simp
   clear n15 R14 O14 hmk
   go_wp2_with fail
   refine Calls.mono HMK.out ?_
   rintro e w16 ⟨rfl, m16, h16⟩
   have M16 : Hid (Nw w4 w16) := nw_midD M15.out m16 (Below.size M7.out) S15.out
   have H16 : Hid (MkdL w16 (.slice ga gn gc) it8 1) := h16
   clear m16 h16 HMK O15
   go_wp2_with fail
   refine Calls.mono (hhd.out _ H16.out) ?_
   rintro e w17 ⟨rfl, rfl⟩
   have D17 : Hid (Nw w17 w17.drew) := (Below.refl _ _).drew
   have NW17 : Hid (Nw w w17.drew) := Nw.trans N4.out (Nw.trans M16.out D17.out)
   have P17 : Hid (PB w17.drew w.heap.size ⟨pw, pj, pc, pf⟩ (.slice na nn nc)) := PB.nw PB0.out (Nw.trans NQ4.out (Nw.trans M16.out D17.out))
   go_wp2
   refine reg_change (ops' := opsOf 31 Tryz.f4) (by kernel_rfl) ?_
   refine SL31.run ⟨w.heap.size, a, n, c, ⟨pw, pj, pc, pf⟩, na, nn, nc, CpS l ⟨pw, pj, pc, pf⟩ ns, AnS M ok, w17.drew, _⟩ ⟨P17.out.c0, P17.out.c1, P17.out.c2, P17.out.c3, P17.out.c4, fun i w w' u h k => CpS.nw h k, fun w' k => HCC0.out w' (Nw.trans NW17.out k), fun w' k => HCC1.out w' (Nw.trans NW17.out k), fun w' u0 u1 k h0 h1 => HG2.out w' u0 u1 h0 h1, rfl, rfl, rfl⟩ w17 (Below.refl _ _) ?_
   rintro γ3 w20 r20 b20 n20 ⟨hb20, ⟨ka, kn, kc, hr20⟩, row20⟩
   replace hr20 : r20 = .slice ka kn kc := hr20
   replace hb20 : b20 = .bool ok := hb20
   replace row20 : RowL w20 r20 M := row20
   replace n20 : Nw w17.drew w20 := n20
   subst hr20 hb20
   have R20 : Hid (RowL w20 (.slice ka kn kc) M) := row20
   have M20 : Hid (Nw w4 w20) := Nw.trans M16.out (Nw.trans D17.out n20)
   have H20 : Hid (MkdL w20 (.slice ga gn gc) it8 1) := MkdL.nw H16.out (Nw.trans D17.out n20)
   simp only [Act.put, List.setIfInBounds_toArray, List.set_cons_zero, List.set_cons_succ]
   generalize γ3 0 = y4 at *
   generalize γ3 1 = y5 at *
   clear row20 n20 P17
   go_wp2_with fail
   refine Calls.mono (HE.out _ _ _ R20.out (RowL.nw R4.out M20.out)) ?_
   rintro e w21 ⟨rfl, n21⟩
   have M21 : Hid (Nw w w21) := Nw.trans N4.out (Nw.trans M20.out n21)
   have H21 : Hid (MkdL w21 (.slice ga gn gc) it8 1) := MkdL.nw H20.out n21
   clear n21
   go_wp2_with fail
   refine Calls.mono (hhd.out _ H21.out) ?_
   rintro e w22 ⟨rfl, rfl⟩
   go_wp2
   go_ret
   exact ⟨rfl, M21.out⟩
  ·rw [if_neg h2] at HZP1
   clear h2
   generalize l.length = n at *
   generalize ns.length = nn at *
   go_enter Tryz.func4, Tryz.ntmps4
   go_wp2_with fail
   rw [HW0.out]
   refine Calls.mono (HZ.out _ (Lines.nw HR.out N0.out)) ?_
   rintro e w1 ⟨rfl, n1⟩
   have N1 : Hid (Nw W0 w1) := n1
   obtain ⟨q0, q1, q2, q3, q4⟩ := PB.nw PB0.out n1
   simp only at q0 q1 q2 q3 q4
   clear n1
   go_wp2_with fail
   refine Calls.mono (HZP1.out _) ?_
   rintro e w2 ⟨rfl, n2⟩
   have N2 : Hid (Nw w w2) := Nw.trans N0.out (Nw.trans N1.out n2)
   clear n2 q0 q1 q2 q3 q4
   go_wp2
   go_ret
   exact ⟨rfl, N2.out⟩
 ·have e1 : szLn l 1048576 = -1 := by unfold szLn; rw [if_neg h]
  rw [e1] at HZ
  clear e1 h
  generalize l.length = n at *
  generalize ns.length = nn at *
  go_enter Tryz.func4, Tryz.ntmps4
  go_wp2_with fail
  rw [HW0.out]
  refine Calls.mono (HZ.out _ (Lines.nw HR.out N0.out)) ?_
  rintro e w1 ⟨rfl, n1⟩
  have N1 : Hid (Nw w w1) := Nw.trans N0.out n1
  clear n1
  go_wp2
  go_ret
  exact ⟨rfl, N1.out⟩
end Go.Proofs.YtfdjjbgcaojcnaaGreat
namespace Go.Proofs.YtfdjjbgcaojcnaaGreat
open Go.ChangeShapes Go.WideShapes Go.ChangeAt Go.RowKit Go.Deep
set_option linter.unusedVariables false
def iv : Value → Int
 | .int _ x => x
 | _ => 0
section
variable {H : Type} {enc : TypeId × Value → H} {W : World} {base : Nat} {held : Bool}
theorem open_pts {fuel : Nat} {v : Value} {x : DataW H × List MemPlace} (h : DataW.trod enc Tryz.prog W base (fun _ => true) held fuel 79 [v] = some x) :
  ∃ a l c, v = .slice a l.length c ∧ Pts W a l ∧ l.length ≤ maxLen := by
 rcases open_slice_pairs Tryz.underlying79 Tryz.underlying136 (by kernel_rfl) rfl rfl (by kernel_rfl) (by kernel_rfl) h with ⟨hcs, _⟩ | ⟨a, len, cap, m, n, V0, V1, D0, D1, P0, P1, hcs, _, hl, hm, hmm, _, hx⟩
 ·simp at hcs
  exact ⟨none, [], 0, hcs, Or.inl rfl, by simp⟩
 ·simp at hcs hmm
  subst hmm
  have key : ∀ i, i < m → ∃ s t : Int, V0 i = .int .i64 s ∧ V1 i = .int .i64 t := by
   intro i hi
   obtain ⟨_, _, g0, g1⟩ := hx i hi
   obtain ⟨s, e0, _, hs⟩ := DataW.trod_int Tryz.underlying3 g0
   obtain ⟨t, e1, _, ht⟩ := DataW.trod_int Tryz.underlying3 g1
   simp at e0 e1
   exact ⟨s, t, e0, e1⟩
  refine ⟨some a, (List.range len).map fun i => (iv (V0 i), iv (V1 i)), m, by simpa using hcs, ?_, by simp; omega⟩
  by_cases h0 : len = 0
  ·subst h0; exact Or.inl rfl
  ·have ea := addr_spot (show W.cell? (a.add 0) = some (V0 0) by simpa using (hx 0 (by omega)).1)
   refine Or.inr ⟨a.block, a.off, by rw [← ea], ?_, fun i hi => ?_⟩
   ·have := (hx 0 (by omega)).1
    rw [ea, add_at] at this
    exact World.block_lt_of_cell? W ⟨a.block, a.off + 0 * 2, none⟩ this
   ·have hi' : i < len := by simpa using hi
    obtain ⟨s, t, e0, e1⟩ := key i (by omega)
    obtain ⟨g0, g1, _, _⟩ := hx i (by omega)
    rw [ea, add_at] at g0 g1
    have ep : ptAt ((List.range len).map fun i => (iv (V0 i), iv (V1 i))) i = (s, t) := by simp [ptAt, hi', e0, e1, iv]
    rw [ep, g0, e0, Nat.add_assoc, g1, e1]
    exact ⟨rfl, rfl⟩
end
section
variable {H : Type} {enc : TypeId × Value → H} {W : World} {base : Nat} {held : Bool}
set_option maxRecDepth 100000 in
theorem open_lines {r : Reach} {b0 : Nat} {v : Value} {d : DataW H} {p : List MemPlace} (hv : Value.okWide Tryz.prog W r b0 41 v) (h : DataW.Trod enc Tryz.prog W base (fun _ => true) held 41 v d p) :
  ∃ a l c, v = .slice a l.length c ∧ Lines W a l ∧ (∀ i, i < l.length → (lnAt l i).pts.length ≤ maxLen) ∧ l.length ≤ maxLen := by
 obtain ⟨a0, len0, cap0, rfl⟩ := okWide_slice Tryz.underlying41 hv
 obtain ⟨fuel, hf⟩ := h
 rcases open_slice_pairs Tryz.underlying41 Tryz.underlying81 (by kernel_rfl) rfl rfl (by kernel_rfl) (by kernel_rfl) (show DataW.trod enc Tryz.prog W base (fun _ => true) held fuel 41 [.slice a0 len0 cap0] = _ by simpa [Value.cells] using hf) with ⟨hcs, _⟩ | ⟨a, len, cap, m, n, V0, V1, D0, D1, P0, P1, hcs, _, hl, hm, hmm, _, hx⟩
 ·simp at hcs
  obtain ⟨rfl, rfl, rfl⟩ := hcs
  exact ⟨none, [], 0, rfl, Or.inl rfl, fun i hi => absurd hi (by simp), by simp⟩
 ·simp at hcs hmm
  subst hmm
  have key : ∀ i, i < m → ∃ x : LD, (∃ pa pc, V0 i = .slice pa x.pts.length pc ∧ Pts W pa x.pts) ∧ x.pts.length ≤ maxLen ∧ V1 i = .bool x.closed := by
   intro i hi
   obtain ⟨_, _, g0, g1⟩ := hx i hi
   obtain ⟨pa, ps, pc, e0, hp, hpl⟩ := open_pts g0
   obtain ⟨t, e1, _⟩ := DataW.trod_bool Tryz.underlying4 g1
   simp at e1
   exact ⟨⟨ps, t⟩, ⟨pa, pc, e0, hp⟩, hpl, e1⟩
  haveI : Inhabited LD := ⟨noLD⟩
  obtain ⟨N, hN⟩ := choose_lt key
  have en : ∀ i, i < len → lnAt ((List.range len).map N) i = N i := fun i hi => by simp [lnAt, hi]
  refine ⟨some a, (List.range len).map N, m, by simpa using hcs, ?_, fun i hi => ?_, by simp; omega⟩
  ·by_cases h0 : len = 0
   ·subst h0; exact Or.inl rfl
   ·have ea := addr_spot (show W.cell? (a.add 0) = some (V0 0) by simpa using (hx 0 (by omega)).1)
    refine Or.inr ⟨a.block, a.off, by rw [← ea], ?_, fun i hi => ?_⟩
    ·have := (hx 0 (by omega)).1
     rw [ea, add_at] at this
     exact World.block_lt_of_cell? W ⟨a.block, a.off + 0 * 2, none⟩ this
    ·have hi' : i < len := by simpa using hi
     obtain ⟨⟨pa, pc, e0, hp⟩, _, e1⟩ := hN i (by omega)
     obtain ⟨g0, g1, _, _⟩ := hx i (by omega)
     rw [ea, add_at] at g0 g1
     rw [en i hi']
     exact ⟨⟨pa, pc, by rw [g0, e0], hp⟩, by rw [Nat.add_assoc, g1, e1]⟩
  ·have hi' : i < len := by simpa using hi
   rw [en i hi']
   exact (hN i (by omega)).2.1
end
section
variable {H : Type} {enc : TypeId × Value → H} {W : World} {base : Nat} {held : Bool}
set_option maxRecDepth 100000 in
theorem open_ints {fuel : Nat} {v : Value} {x : DataW H × List MemPlace} (h : DataW.trod enc Tryz.prog W base (fun _ => true) held fuel 26 [v] = some x) :
  ∃ a l c, v = .slice a l.length c ∧ Ints W a l ∧ l.length ≤ maxLen := by
 rcases open_slice Tryz.underlying26 h with ⟨hcs, _⟩ | ⟨a, len, cap, m, n, D, Pl, hcs, _, hl, hm, hmm, _, hx⟩
 ·simp at hcs
  exact ⟨none, [], 0, hcs, Or.inl rfl, by simp⟩
 ·simp at hcs hmm
  subst hmm
  have ce : Tryz.prog.cellsOf 3 = 1 := by kernel_rfl
  rw [ce] at hx
  have key : ∀ i, i < m → ∃ n : Int, W.cell? (a.add (i * 1)) = some (.int .i64 n) := by
   intro i hi
   obtain ⟨cs', h1, h2⟩ := hx i hi
   obtain ⟨_, hlen, hcell⟩ := World.cells?_some h1
   obtain ⟨t, e1, _, _⟩ := DataW.trod_int Tryz.underlying3 h2
   subst e1
   have c0 := hcell 0 (by omega)
   have ez : ∀ b : Addr, b.add 0 = b := fun b => rfl
   rw [ez] at c0
   exact ⟨t, by simpa using c0⟩
  obtain ⟨N, hN⟩ := choose_lt key
  have en : ∀ i, i < len → intAt ((List.range len).map N) i = N i := fun i hi => by simp [intAt, hi]
  refine ⟨some a, (List.range len).map N, m, by simpa using hcs, ?_, by simp; omega⟩
  by_cases h0 : len = 0
  ·subst h0; exact Or.inl rfl
  ·have hc := hN 0 (by omega)
   have ea := addr_spot (show W.cell? (a.add 0) = some _ by simpa using hc)
   refine Or.inr ⟨a.block, a.off, by rw [← ea], ?_, fun i hi => ?_⟩
   ·rw [ea, add_at] at hc
    exact World.block_lt_of_cell? W ⟨a.block, a.off + 0 * 1, none⟩ hc
   ·have hi' : i < len := by simpa using hi
    have g0 := hN i (by omega)
    rw [ea, add_at, Nat.mul_one] at g0
    rw [en i hi']
    exact g0
end
theorem array5 {α : Type} {cs : Array α} (h : cs.size = 5) : ∃ c0 c1 c2 c3 c4, cs = #[c0, c1, c2, c3, c4] := by
 obtain ⟨l⟩ := cs
 match l, h with
 | [c0, c1, c2, c3, c4], _ => exact ⟨c0, c1, c2, c3, c4, rfl⟩
section
variable {H : Type} {enc : TypeId × Value → H} {W : World} {base : Nat} {held : Bool}
theorem int5_of {n : Nat} {c : Value} {o : Option (DataW H × List MemPlace)} (h : DataW.trod enc Tryz.prog W base (fun _ => true) held n 3 [c] = o) (ho : o.isSome = true) : ∃ a : Int, c = .int .i64 a := by
 obtain ⟨y, rfl⟩ := Option.isSome_iff_exists.1 ho
 obtain ⟨x, e, _, hx⟩ := DataW.trod_int Tryz.underlying3 h
 simp at e
 exact ⟨x, e⟩
set_option maxRecDepth 100000 in
theorem open_pen {r : Reach} {b0 : Nat} {v : Value} {d : DataW H} {p : List MemPlace} (hv : Value.okWide Tryz.prog W r b0 42 v) (h : DataW.Trod enc Tryz.prog W base (fun _ => true) held 42 v d p) :
  ∃ (pw pj pc : Int) (a : Option Addr) (l : List Int) (c : Nat) (pf : Int), v = .agg #[.int .i64 pw, .int .i64 pj, .int .i64 pc, .slice a l.length c, .int .i64 pf] ∧ Ints W a l ∧ l.length ≤ maxLen := by
 obtain ⟨cs, rfl, hsz⟩ := okWide_struct Tryz.underlying42 hv
 have hC : Tryz.prog.cellsOf 42 = 5 := by kernel_rfl
 obtain ⟨c0, c1, c2, c3, c4, rfl⟩ := array5 (hsz.trans hC)
 obtain ⟨fuel, hf⟩ := h
 obtain ⟨xs, n, _, _, _, hlen, hx⟩ := DataW.trod_struct Tryz.underlying42 hf
 have h0 := hx 0 _ rfl
 have h1 := hx 1 _ rfl
 have h2 := hx 2 _ rfl
 have h3 := hx 3 _ rfl
 have h4 := hx 4 _ rfl
 have hl5 : xs.length = 5 := hlen
 have some_ : ∀ i, i < 5 → (xs[i]?).isSome = true := fun i hi => by rw [List.getElem?_eq_getElem (by omega)]; rfl
 simp only [Value.cells] at h0 h1 h2 h3 h4
 obtain ⟨pw, rfl⟩ := int5_of h0 (some_ 0 (by omega))
 obtain ⟨pj, rfl⟩ := int5_of h1 (some_ 1 (by omega))
 obtain ⟨pc, rfl⟩ := int5_of h2 (some_ 2 (by omega))
 obtain ⟨pf, rfl⟩ := int5_of h4 (some_ 4 (by omega))
 obtain ⟨y, hy⟩ := Option.isSome_iff_exists.1 (some_ 3 (by omega))
 rw [hy] at h3
 obtain ⟨a, l, c, rfl, hi, hl⟩ := open_ints h3
 exact ⟨pw, pj, pc, a, l, c, pf, rfl, hi, hl⟩
end
end Go.Proofs.YtfdjjbgcaojcnaaGreat
