/-
  A line that comes in: what the laws' helpers do that measure
-/
import Derived.Test.YtfdjjbgcaojcnaaGreatJAD
import Derived.Test.YtfdjjbgcaojcnaaGreatJAT
import Derived.Test.YtfdjjbgcaojcnaaGreatJAP
import Derived.Test.YtfdjjbgcaojcnaaGreatJAL
import Derived.Test.YtfdjjbgcaojcnaaGreatJAF
import Derived.Test.YtfdjjbgcaojcnaaGreatJAA
namespace Go.Proofs.YtfdjjbgcaojcnaaGreat
open Go.ChangeShapes Go.WideShapes Go.ChangeAt Go.RowKit
set_option linter.unusedVariables false
theorem retL {x y : Int} (h : x = y) : Ending.returned (.int .i64 x) = Ending.returned (.int .i64 y) := by rw [h]
def okL (l : List LD) : Prop := ∀ i, i < l.length → (lnAt l i).pts.length ≤ maxLen
set_option maxHeartbeats 1000000 in
theorem szLine_any (w : World) (a : Option Addr) (n c : Nat) (cl : Bool) (left : Int) (h0 : 0 ≤ left) (h1 : left ≤ 1048576) (hm : n ≤ maxLen) :
  Calls Tryz.prog 48 #[.agg #[.slice a n c, .bool cl], .int .i64 left] w fun e w' => e = .returned (.int .i64 (if (n : Int) ≤ left then left - (n : Int) else -1)) ∧ Nw w w' := by
 have HZ : Hid _ := fun w => szPointS_any w a n c left h0 h1 hm
 clear hm
 by_cases c1 : (n : Int) ≤ left
 ·rw [if_pos c1] at HZ ⊢
  go_enter Tryz.func48, Tryz.ntmps48
  go_wp2_with fail
  refine Calls.mono (HZ.out _) ?_
  rintro e w1 ⟨rfl, rfl⟩
  go_wp2
  go_ret
  exact ⟨rfl, (Below.refl _ _).alloc (Nat.le_refl _) _⟩
 ·rw [if_neg c1] at HZ ⊢
  go_enter Tryz.func48, Tryz.ntmps48
  go_wp2_with fail
  refine Calls.mono (HZ.out _) ?_
  rintro e w1 ⟨rfl, rfl⟩
  go_wp2
  go_ret
  exact ⟨rfl, (Below.refl _ _).alloc (Nat.le_refl _) _⟩
set_option maxHeartbeats 2000000 in
theorem toLine_any (w : World) (a : Option Addr) (c : Nat) (ps : List Pnt) (cl : Bool) (hl : ps.length ≤ 1048576) (hr : Pts w a ps) :
  Calls Tryz.prog 50 #[.agg #[.slice a ps.length c, .bool cl]] w fun e w' => ∃ g, e = .returned (.agg #[.slice (some ⟨g, 0, none⟩) ps.length ps.length, .bool cl]) ∧ Nw w w' ∧ w.heap.size ≤ g ∧ LayPt w' g ps ps.length := by
 have HR : ∀ o1 o2 o3, Hid (Pts (((w.alloc o1).alloc o2).alloc o3) a ps) := fun o1 o2 o3 => hr.nw ((((Below.refl _ _).alloc (Nat.le_refl _) _).alloc (by simp) _).alloc (by simp; omega) _)
 clear hr
 go_enter Tryz.func50, Tryz.ntmps50
 go_wp2_with (go_at_call 80; refine (toPointS_any _ a c ps hl (HR _ _ _).out).mono ?_; rintro e w' ⟨rfl, k1, k2⟩; obtain ⟨hc, hf⟩ := bcell k1)
 have K0 : Below w.heap.size w w' := Below.trans ((((Below.refl _ _).alloc (Nat.le_refl _) _).alloc (by simp) _).alloc (by simp; omega) _) (Below.mono k1 (by simp; omega))
 have hz : w.heap.size + 1 + 1 + 1 < w'.heap.size := by have := k2.1; simpa using this
 have K2 : LayPt w' (w.heap.size + 1 + 1 + 1) ps ps.length := by simpa using k2
 clear k1 k2
 refine bodyPost_ret (v := .agg #[.slice (some ⟨w.heap.size + 1 + 1 + 1, 0, none⟩) ps.length ps.length, .bool cl]) (by simp [results, Tryz.results50, go_sem, hc]) rfl ⟨w.heap.size + 1 + 1 + 1, rfl, ?_, by omega, ?_⟩
 ·exact (((K0.setCell (by simp; omega) _).setCell (by simp; omega) _).setCell (by simp) _).setCell (by simp) _
 ·exact (((K2.off _ _ _ (by omega)).off _ _ _ (by omega)).off _ _ _ (by omega)).off _ _ _ (by omega)
def szLn (l : List LD) (left : Int) : Int := if ((l.length + manyL l : Nat) : Int) ≤ left then left - ((l.length + manyL l : Nat) : Int) else -1
set_option maxHeartbeats 2000000 in
theorem szLineS_any (w : World) (a : Option Addr) (c : Nat) (l : List LD) (left : Int) (h0 : 0 ≤ left) (h1 : left ≤ 1048576) (hm : l.length ≤ maxLen) (hs : okL l) (hr : Lines w a l) :
  Calls Tryz.prog 12 #[.slice a l.length c, .int .i64 left] w fun e w' => e = .returned (.int .i64 (szLn l left)) ∧ Nw w w' := by
 unfold maxLen at hm
 by_cases c1 : (l.length : Int) ≤ left
 ·have HS : Hid (okL l) := hs
  have HR : Hid (Lines w a l) := hr
  clear hs hr
  go_enter Tryz.func12, Tryz.ntmps12
  go_wp2
  go_loopw [1, 5] (fun x i wr => ∃ k : Nat, k ≤ l.length ∧ i = .int .i64 k ∧ x = .int .i64 (left - l.length - (manyL (l.take k) : Nat)) ∧ (manyL (l.take k) : Int) ≤ left - l.length ∧ Nw w wr) (fun _ i _ => l.length - (intOf i).toNat)
  case atStart => exact ⟨0, Nat.zero_le _, rfl, by simp [manyL], by simp [manyL]; omega, Below.refl _ _⟩
  case round =>
   obtain ⟨k, hk, rfl, rfl, hb, hw⟩ := hrel
   by_cases hlt : k < l.length
   ·have hs2 := manyL_step l k hlt
    have hle := manyL_le l (k + 1)
    have hz := HS.out k hlt
    rcases (HR.out.nw hw) with h | ⟨b, off, rfl, hbk, hc⟩
    ·rw [h] at hlt; simp at hlt
    obtain ⟨⟨qa, qc, q0, _⟩, q1⟩ := hc k hlt
    have HZ : Hid ((lnAt l k).pts.length ≤ maxLen) := hz
    have HW : Hid (Nw w wr) := hw
    clear hc hw hz
    generalize manyL (l.take k) = b1 at *
    have HE : Hid (manyL (l.take (k + 1)) = b1 + (lnAt l k).pts.length) := hs2
    rw [hs2] at hle
    clear hs2
    generalize (lnAt l k).pts.length = n at *
    generalize (lnAt l k).closed = cl at *
    by_cases c2 : (n : Int) ≤ left - l.length - b1
    ·go_wp2_with (go_at_call 48; refine Calls.mono (szLine_any _ qa n qc cl _ (by omega) (by omega) HZ.out) ?_; rw [if_pos c2]; rintro e w' ⟨rfl, k1⟩)
     go_roundw
     case rel => exact ⟨k + 1, by omega, by go_num, by rw [HE.out]; go_num, by rw [HE.out]; omega, HW.out.trans k1⟩
     case measure => simp [intOf]; omega
    ·have HX : Hid (szLn l left = -1) := by show szLn l left = -1; unfold szLn; rw [if_neg (by omega)]
     go_wp2_with (go_at_call 48; refine Calls.mono (szLine_any _ qa n qc cl _ (by omega) (by omega) HZ.out) ?_; rw [if_neg c2]; rintro e w' ⟨rfl, k1⟩)
     go_ret
     exact ⟨retL HX.out.symm, HW.out.trans k1⟩
   ·have e : k = l.length := by omega
    subst e
    rw [List.take_length] at *
    have HX : Hid (szLn l left = left - l.length - manyL l) := by show szLn l left = _; unfold szLn; rw [if_pos (by omega)]; omega
    have HW : Hid (Nw w wr) := hw
    clear hw
    generalize manyL l = m at *
    go_wp2
    go_ret
    exact ⟨retL HX.out.symm, HW.out⟩
 ·have HX : Hid (szLn l left = -1) := by show szLn l left = -1; unfold szLn; rw [if_neg (by omega)]
  clear hs hr
  go_enter Tryz.func12, Tryz.ntmps12
  go_wp2
  go_ret
  exact ⟨retL HX.out.symm, Below.refl _ _⟩
structure LayLn (w : World) (g : Nat) (it : Its) (n : Nat) : Prop where
 lt : g < w.heap.size
 c1 : ∀ i, i < it.length → w.cell? ⟨g, i * 2, none⟩ = some (itAt it i).1 ∧ w.cell? ⟨g, i * 2 + 1, none⟩ = some (.bool (itAt it i).2.closed)
 c2 : ∀ i, it.length ≤ i → i < n → w.cell? ⟨g, i * 2, none⟩ = some (.slice none 0 0) ∧ w.cell? ⟨g, i * 2 + 1, none⟩ = some (.bool false)
 free : ∀ o, w.frozen? ⟨g, o, none⟩ = false
 pts : ∀ i, i < it.length → ∃ p, (itAt it i).1 = .slice (some ⟨p, 0, none⟩) (itAt it i).2.pts.length (itAt it i).2.pts.length ∧ g < p ∧ LayPt w p (itAt it i).2.pts (itAt it i).2.pts.length
 apart : ∀ i j, i ≠ j → i < it.length → j < it.length → ∀ b, (itAt it i).1.ownBlock = some b → (itAt it j).1.ownBlock ≠ some b
theorem LayLn.nw {w w' : World} {g n : Nat} {it : Its} (h : LayLn w g it n) (k : Nw w w') : LayLn w' g it n :=
 ⟨Nat.lt_of_lt_of_le h.lt (Below.size k), fun i hi => ⟨((bcell k).1 _ _ h.lt).trans (h.c1 i hi).1, ((bcell k).1 _ _ h.lt).trans (h.c1 i hi).2⟩, fun i a b => ⟨((bcell k).1 _ _ h.lt).trans (h.c2 i a b).1, ((bcell k).1 _ _ h.lt).trans (h.c2 i a b).2⟩,
  fun o => ((bcell k).2 _ _ h.lt).trans (h.free o), fun i hi => by obtain ⟨p, a, b, c⟩ := h.pts i hi; exact ⟨p, a, b, c.nw k⟩, h.apart⟩
theorem LayLn.start (w : World) (n : Nat) (t : TypeId) : LayLn (w.alloc (.cells (madeCells #[.slice none 0 0, .bool false] (n * 2)) t)) w.heap.size [] n := by
 refine ⟨by simp, fun i hi => absurd hi (by simp), fun i _ hi => ⟨?_, ?_⟩, fun o => World.frozen?_alloc_at _ _ _ _ rfl, fun i hi => absurd hi (by simp), fun i j _ hi => absurd hi (by simp)⟩
 ·have := madeCells_get #[.slice none 0 0, .bool false] (n * 2) (i * 2) (by omega)
  simp at this
  simp [this]
 ·have := madeCells_get #[.slice none 0 0, .bool false] (n * 2) (i * 2 + 1) (by omega)
  have e : (i * 2 + 1) % 2 = 1 := by omega
  simp [e] at this
  simp [this]
theorem LayLn.step {w w' : World} {g n p : Nat} {it : Its} {x : LD} (h : LayLn w g it n) (k : Nw w w') (hn : it.length < n) (hp : w.heap.size ≤ p) (hl : LayPt w' p x.pts x.pts.length) :
  LayLn ((w'.setCell ⟨g, it.length * 2, none⟩ (.slice (some ⟨p, 0, none⟩) x.pts.length x.pts.length)).setCell ⟨g, it.length * 2 + 1, none⟩ (.bool x.closed)) g (it ++ [(.slice (some ⟨p, 0, none⟩) x.pts.length x.pts.length, x)]) n := by
 have h' := h.nw k
 obtain ⟨z0, z1⟩ := h'.c2 it.length (Nat.le_refl _) hn
 have hgp : g < p := Nat.lt_of_lt_of_le h.lt hp
 have hlt : ∀ i, i < it.length → ∀ b, (itAt it i).1.ownBlock = some b → b < p := fun i hi b hb => by
  obtain ⟨q, e, _, hq⟩ := h.pts i hi
  rw [e] at hb
  have : q = b := by simpa [Value.ownBlock] using hb
  have := hq.1
  omega
 generalize hu : (Value.slice (some ⟨p, 0, none⟩) x.pts.length x.pts.length) = u
 have far : ∀ o, o ≠ it.length * 2 → o ≠ it.length * 2 + 1 → ((w'.setCell ⟨g, it.length * 2, none⟩ u).setCell ⟨g, it.length * 2 + 1, none⟩ (.bool x.closed)).cell? ⟨g, o, none⟩ = w'.cell? ⟨g, o, none⟩ := by
  intro o a b
  rw [World.cell?_setCell_other _ _ _ _ (fun h => by injection h; omega), World.cell?_setCell_other _ _ _ _ (fun h => by injection h; omega)]
 refine ⟨by simpa [World.setCell] using h'.lt, fun i hi => ?_, fun i hi hi2 => ?_, fun o => by rw [World.frozen?_setCell, World.frozen?_setCell]; exact h'.free o, fun i hi => ?_, fun i j hij hi hj b hb => ?_⟩
 ·rw [List.length_append, List.length_singleton] at hi
  by_cases e : i = it.length
  ·subst e
   rw [itAt_new]
   refine ⟨?_, World.cell?_setCell_same _ ⟨g, it.length * 2 + 1, none⟩ _ ((World.cell?_setCell_other _ _ _ _ (fun h => by injection h; omega)).trans z1)⟩
   rw [World.cell?_setCell_other _ _ _ _ (fun h => by injection h; omega)]
   exact World.cell?_setCell_same w' ⟨g, it.length * 2, none⟩ _ z0
  ·have hi' : i < it.length := by omega
   rw [itAt_old it _ i hi', far _ (by omega) (by omega), far _ (by omega) (by omega)]
   exact h'.c1 i hi'
 ·rw [List.length_append, List.length_singleton] at hi
  rw [far _ (by omega) (by omega), far _ (by omega) (by omega)]
  exact h'.c2 i (by omega) hi2
 ·rw [List.length_append, List.length_singleton] at hi
  by_cases e : i = it.length
  ·subst e
   rw [itAt_new]
   exact ⟨p, hu.symm, hgp, (hl.off _ _ _ (by omega)).off _ _ _ (by omega)⟩
  ·have hi' : i < it.length := by omega
   rw [itAt_old it _ i hi']
   obtain ⟨q, e1, e2, e3⟩ := h'.pts i hi'
   exact ⟨q, e1, e2, (e3.off _ _ _ (by omega)).off _ _ _ (by omega)⟩
 ·rw [List.length_append, List.length_singleton] at hi hj
  have hub : ∀ b, u.ownBlock = some b → b = p := fun b hb => by rw [← hu] at hb; exact (by simpa [Value.ownBlock] using hb : p = b).symm
  by_cases e : i = it.length
  ·subst e
   rw [itAt_new] at hb
   have hj' : j < it.length := by omega
   rw [itAt_old it _ j hj']
   intro e2
   have h1 := hub b hb
   have h2 := hlt j hj' b e2
   omega
  ·have hi' : i < it.length := by omega
   rw [itAt_old it _ i hi'] at hb
   by_cases e2 : j = it.length
   ·subst e2
    rw [itAt_new]
    intro e3
    have h1 := hub b e3
    have h2 := hlt i hi' b hb
    omega
   ·have hj' : j < it.length := by omega
    rw [itAt_old it _ j hj']
    exact h.apart i j hij hi' hj' b hb
theorem LayLn.lines {w : World} {g n : Nat} {it : Its} (h : LayLn w g it n) : Lines w (some ⟨g, 0, none⟩) (it.map (·.2)) := by
 refine Or.inr ⟨g, 0, rfl, h.lt, fun i hi => ?_⟩
 have hi' : i < it.length := by simpa using hi
 obtain ⟨q0, q1⟩ := h.c1 i hi'
 obtain ⟨p, e, _, hp⟩ := h.pts i hi'
 rw [ld_at it i hi', Nat.zero_add]
 rw [e] at q0
 exact ⟨⟨_, _, q0, hp.pts⟩, q1⟩
theorem LayLn.sf {w : World} {g n : Nat} {it : Its} (h : LayLn w g it n) : SF g w.heap.size g (vsOf it) := by
 have hl : (vsOf it).length = it.length := by simp [vsOf]
 refine ⟨⟨Nat.le_refl _, h.lt⟩, fun i hi b hb => ?_, fun i j hij hi hj b hb => ?_⟩
 ·rw [hl] at hi
  rw [vsOf_at it i hi] at hb
  obtain ⟨p, e, e2, hp⟩ := h.pts i hi
  rw [e] at hb
  have : p = b := by simpa [Value.ownBlock] using hb
  have := hp.1
  exact ⟨by omega, by omega, by omega⟩
 ·rw [hl] at hi hj
  rw [vsOf_at it i hi] at hb
  rw [vsOf_at it j hj]
  exact h.apart i j hij hi hj b hb
theorem LayLn.marks {w : World} {g n : Nat} {it : Its} (h : LayLn w g it n) (K : Nat) : MkLn w g (vsOf it) (nsOf it) K 0 := by
 have hl : (vsOf it).length = it.length := by simp [vsOf]
 refine ⟨h.lt, h.free, fun i hi => ?_, fun i hi => absurd hi (by omega), fun i _ hi => ?_, fun i hi => absurd hi (by omega), fun i _ hi => ?_⟩
 ·rw [hl] at hi
  rw [vsOf_at it i hi]
  exact (h.c1 i hi).1
 ·rw [hl] at hi
  exact ⟨_, (h.c1 i hi).2⟩
 ·rw [hl] at hi
  rw [vsOf_at it i hi, nsOf_at it i hi]
  obtain ⟨p, e, _, hp⟩ := h.pts i hi
  exact Or.inr ⟨p, _, e, LayPt.any hp⟩
set_option maxRecDepth 100000 in
set_option maxHeartbeats 4000000 in
theorem toLineS_any (w : World) (a : Option Addr) (c : Nat) (l : List LD) (hm : l.length ≤ 1048576) (hla : lenL l) (hr : Lines w a l) :
  Calls Tryz.prog 14 #[.slice a l.length c] w fun e w' => e = .returned (.slice (some ⟨w.heap.size, 0, none⟩) l.length l.length) ∧ Nw w w' ∧ ∃ it : Its, it.map (·.2) = l ∧ LayLn w' w.heap.size it l.length := by
 have HR : Hid (Lines w a l) := hr
 have HLA : Hid (lenL l) := hla
 clear hr hla
 have hmk := run_mk 29 25 _ 2 32 Tryz.underlying29 info_line l.length (by omega) (by omega)
 have hcs : (Value.agg #[.slice none 0 0, .bool false]).cells = #[.slice none 0 0, .bool false] := rfl
 rw [hcs] at hmk
 go_enter Tryz.func14, Tryz.ntmps14
 go_wp2
 go_loopw [4] (fun i wr => ∃ k : Nat, k ≤ l.length ∧ i = .int .i64 k ∧ Nw w wr ∧ ∃ it : Its, it.map (·.2) = l.take k ∧ LayLn wr w.heap.size it l.length) (fun i _ => l.length - (intOf i).toNat)
 case atStart => exact ⟨0, Nat.zero_le _, rfl, (Below.refl _ _).alloc (Nat.le_refl _) _, [], rfl, LayLn.start w l.length _⟩
 case round =>
  obtain ⟨k, hk, rfl, hw, it, hit, hlay⟩ := hrel
  clear hmk hcs
  have hil : it.length = k := by
   have := congrArg List.length hit
   simp at this
   omega
  have HIT : Hid (it.map (·.2) = l.take k) := hit
  clear hit
  by_cases hlt : k < l.length
  ·rcases (HR.out.nw hw) with h | ⟨b, off, rfl, hbk, hc⟩
   ·rw [h] at hlt; simp at hlt
   obtain ⟨⟨qa, qc, q0, q4⟩, q1⟩ := hc k hlt
   have Q4 : Hid (Pts wr qa (lnAt l k).pts) := q4
   have hlk : (lnAt l k).pts.length ≤ 1048576 := HLA.out k hlt
   have HE : Hid (l.take (k + 1) = l.take k ++ [lnAt l k]) := by
    show _ = _
    have e : lnAt l k = l[k] := by simp [lnAt, hlt]
    rw [List.take_succ_eq_append_getElem hlt, e]
   clear hc q4
   have HW : Hid (Nw w wr) := hw
   obtain ⟨z0, z1⟩ := hlay.c2 k (by omega) hlt
   have zf := hlay.free
   have HL : Hid (LayLn wr w.heap.size it l.length) := hlay
   have hg : w.heap.size < wr.heap.size := hlay.lt
   clear hw hlay
   generalize lnAt l k = x at *
   obtain ⟨ps, cl⟩ := x
   simp only at q0 q1 Q4 hlk
   go_wp2_with (go_at_call 50; refine Calls.mono (toLine_any _ qa qc ps cl hlk Q4.out) ?_; rintro e w' ⟨ga, rfl, k1, hga, hlp⟩; have y0 := ((bcell k1).1 _ (k * 2) hg).trans z0; have y1 := ((bcell k1).1 _ (k * 2 + 1) hg).trans z1; have yf : ∀ o, w'.frozen? ⟨w.heap.size, o, none⟩ = false := fun o => ((bcell k1).2 _ o hg).trans (zf o); have HLP : Hid (LayPt w' ga ps ps.length) := hlp; clear z0 z1 zf hlp)
   go_roundw
   case rel =>
    refine ⟨k + 1, by omega, by go_num, ?_, it ++ [(.slice (some ⟨ga, 0, none⟩) ps.length ps.length, ⟨ps, cl⟩)], ?_, ?_⟩
    ·have kb : Below w.heap.size w w' := HW.out.trans k1
     exact (kb.setCell (Nat.le_refl _) _).setCell (Nat.le_refl _) _
    ·rw [HE.out, List.map_append, HIT.out]; rfl
    ·have := LayLn.step (x := ⟨ps, cl⟩) HL.out k1 (by omega) hga HLP.out
     rw [hil] at this
     exact this
   case measure => simp [intOf]; omega
  ·have e : k = l.length := by omega
   subst e
   rw [List.take_length] at HIT
   have HN : Hid (Nw w wr ∧ LayLn wr w.heap.size it l.length) := ⟨hw, hlay⟩
   clear hw hlay
   go_wp2
   go_ret
   exact ⟨rfl, HN.out.1, it, HIT.out, HN.out.2⟩
theorem markL_lay (w0 w : World) (g n c : Nat) (it : Its) (h : LayLn w0 g it it.length) (k : Nw w0 w) (hn : it.length ≤ 1048576) (hm : manyL (it.map (·.2)) ≤ 1048576) :
  Calls Tryz.prog 18 #[.slice (some ⟨g, 0, none⟩) it.length c, .int .i64 1] w fun e w' => e = .returned (.int .i64 (kAt (nsOf it) 1 it.length : Int)) ∧ Mid g w0.heap.size w w' := by
 have hl : (vsOf it).length = it.length := by simp [vsOf]
 have := markLineS_any w g w0.heap.size g c (vsOf it) (nsOf it) 1 h.sf (by rw [hl]; exact hn) (fun i hi => Nat.le_trans (nsOf_le it i (by rw [← hl]; exact hi)) hm) (by rw [hl, kAt_all]; omega) ((h.nw k).marks 1)
 rw [hl] at this
 refine this.mono ?_
 rintro e w' ⟨rfl, h1, _⟩
 exact ⟨rfl, h1⟩
theorem LayLn.linesC {w : World} {g n : Nat} {it : Its} (h : LayLn w g it n) : LinesC w (some ⟨g, 0, none⟩) (it.map (·.2)) := by
 refine Or.inr ⟨g, 0, rfl, h.lt, fun i hi => ?_⟩
 have hi' : i < it.length := by simpa using hi
 obtain ⟨q0, q1⟩ := h.c1 i hi'
 obtain ⟨p, e, _, hp⟩ := h.pts i hi'
 rw [ld_at it i hi', Nat.zero_add]
 rw [e] at q0
 exact ⟨⟨_, _, q0, Nat.le_refl _, hp.pts⟩, q1⟩
theorem markPen_lay (w : World) (p : PD) (g K : Nat) (l : List Int) (hl : l.length ≤ 1048576) (hK : K ≤ 50000000) (h : LayI w g l) :
  Calls Tryz.prog 19 #[penV p (.slice (some ⟨g, 0, none⟩) l.length l.length), .int .i64 (K : Int)] w fun e w' => e = .returned (.int .i64 ((K + l.length : Nat) : Int)) ∧ w.grownBy w' (some g) := by
 have HA : Hid (∀ o, LayI (w.alloc o) g l) := fun o => LayI.nw h ((Below.refl _ _).alloc (Nat.le_refl _) _)
 obtain ⟨pw, pj, pc, pf⟩ := p
 unfold penV
 simp only
 clear h
 go_enter Tryz.func19, Tryz.ntmps19
 go_wp2_with fail
 refine Calls.mono (markI_any _ g l.length K l hl hK (HA.out _)) ?_
 rintro e w1 ⟨rfl, g1, _⟩
 have G1 : Hid (w.grownBy w1 (some g)) := World.grownBy.trans (gr_alloc _) g1
 clear g1 HA
 go_wp2
 go_ret
 exact ⟨rfl, G1.out⟩
theorem stkV_bd (ls : List LD) (p : PD) (ns : List Int) : (stkV ls p ns).1.length ≤ 1048576 ∧ manyL (stkV ls p ns).1 ≤ 1048576 := by
 unfold stkV
 split
 ·rename_i hc
  split
  ·exact ⟨by simp, by simp [manyL]⟩
  ·cases hs : stK ls p ns ls.length with
   | none => exact ⟨by simp, by simp [manyL]⟩
   | some o =>
    simp only
    split
    ·rename_i h4
     have b1 := (stK_bd ls p ns ls.length o (Nat.le_refl _) hs).1
     rw [List.take_length] at b1
     have := hc.2.1
     exact ⟨by show o.length ≤ _; omega, by show manyL o ≤ _; omega⟩
    ·exact ⟨by simp, by simp [manyL]⟩
 ·exact ⟨by simp, by simp [manyL]⟩
theorem lenS_of {l : List LD} (h : manyL l ≤ 1048576) : lenL l := fun i hi => Nat.le_trans (manyL_at l i hi) h
theorem LayI.mid {w w' : World} {g lo hi : Nat} {l : List Int} (h : LayI w g l) (k : Mid lo hi w w') (hg : hi ≤ g) : LayI w' g l := by
 have e := k.block g h.1 (by omega)
 exact ⟨Nat.lt_of_lt_of_le h.1 k.size, fun i hi => (World.cell?_of_block (w := w) (w' := w') (a := ⟨g, i, none⟩) e).trans (h.2.1 i hi), fun o => (World.frozen?_of_block (w := w) (w' := w') (a := ⟨g, o, none⟩) e).trans (h.2.2 o)⟩
theorem PB.mid {w w' : World} {b lo hi : Nat} {p : PD} {v : Value} (h : PB w b p v) (k : Mid lo hi w w') (hb : hi ≤ b) : PB w' b p v := by
 have hlt := World.block_lt_of_cell? w ⟨b, 0, none⟩ h.c0
 have e : ∀ o, w'.cell? ⟨b, o, none⟩ = w.cell? ⟨b, o, none⟩ := fun o => World.cell?_of_block (w := w) (w' := w') (a := ⟨b, o, none⟩) (k.block b hlt (by omega))
 exact ⟨(e _).trans h.c0, (e _).trans h.c1, (e _).trans h.c2, (e _).trans h.c3, (e _).trans h.c4⟩
structure LwX where
 nc : Nat
 W : World
 C : Nat → World → Value → Prop
 R : World → Value → Value → Prop
structure LwX.Wd (X : LwX) (S : Nat → Bool) (γ : Nat → Value) (w : World) : Prop where
 nw : Nw X.W w
 cp : ∀ i, i < X.nc → S i = true → S X.nc = false → X.C i w (γ i)
 ans : S X.nc = true → ∃ r b, γ X.nc = .tuple #[r, b] ∧ X.R w r b
theorem LwX.Wd.start (X : LwX) (γ : Nat → Value) (w : World) (h : Nw X.W w) : X.Wd (fun _ => false) γ w :=
 ⟨h, fun _ _ h _ => (by cases h), fun h => (by cases h)⟩
theorem LwX.Wd.copy {X : LwX} (cnw : ∀ i w w' u, X.C i w u → Nw w w' → X.C i w' u) {S : Nat → Bool} {γ : Nat → Value} {w w' : World} (h : X.Wd S γ w) (k : Nw w w') (hno : S X.nc = false) {i : Nat} (hi : i < X.nc) {u : Value} (hc : X.C i w' u) : X.Wd (upS S i) (updG γ i u) w' := by
 refine ⟨Nw.trans h.nw k, fun j hj hs hm => ?_, fun hs => ?_⟩
 ·rw [upS_ne (by omega)] at hm
  by_cases e : j = i
  ·subst e; rw [updG_at]; exact hc
  ·rw [upS_ne e] at hs; rw [updG_ne e]; exact cnw j _ _ _ (h.cp j hj hs hm) k
 ·rw [upS_ne (by omega), hno] at hs; cases hs
theorem LwX.Wd.main {X : LwX} {S : Nat → Bool} {γ : Nat → Value} {w w' : World} (h : X.Wd S γ w) (k : Nw w w') {r b : Value} (hr : X.R w' r b) : X.Wd (upS S X.nc) (updG γ X.nc (.tuple #[r, b])) w' :=
 ⟨Nw.trans h.nw k, fun i hi hs hm => (by rw [upS_at] at hm; cases hm), fun _ => ⟨r, b, by rw [updG_at], hr⟩⟩
set_option linter.unusedSimpArgs false
structure SL8 where
  b3 : Nat
  la : Option Addr
  ln : Nat
  lc : Nat
  p : PD
  da : Option Addr
  dn : Nat
  dc : Nat
  C : Nat → World → Value → Prop
  R : World → Value → Value → Prop
  W : World
  a0 : Act
def SL8.rc (X : SL8) : LwX := ⟨2, X.W, X.C, X.R⟩
structure SL8Ok (X : SL8) : Prop where
  p0 : X.W.cell? ⟨X.b3, 0, none⟩ = some (.int .i64 X.p.w)
  p1 : X.W.cell? ⟨X.b3, 1, none⟩ = some (.int .i64 X.p.j)
  p2 : X.W.cell? ⟨X.b3, 2, none⟩ = some (.int .i64 X.p.c)
  p3 : X.W.cell? ⟨X.b3, 3, none⟩ = some (.slice X.da X.dn X.dc)
  p4 : X.W.cell? ⟨X.b3, 4, none⟩ = some (.int .i64 X.p.f)
  cnw : ∀ i w w' u, X.C i w u → Nw w w' → X.C i w' u
  cc0 : ∀ w, Nw X.W w → Calls Tryz.prog 14 #[.slice X.la X.ln X.lc] w fun e w' => ∃ u, e = .returned u ∧ X.C 0 w' u ∧ Nw w w'
  cc1 : ∀ w, Nw X.W w → Calls Tryz.prog 15 #[.agg #[.int .i64 X.p.w, .int .i64 X.p.j, .int .i64 X.p.c, .slice X.da X.dn X.dc, .int .i64 X.p.f]] w fun e w' => ∃ u, e = .returned u ∧ X.C 1 w' u ∧ Nw w w'
  mm : ∀ w u0 u1, Nw X.W w → X.C 0 w u0 → X.C 1 w u1 → Calls Tryz.prog 11 #[u0, u1] w fun e w' => ∃ r b, e = .returned (.tuple #[r, b]) ∧ X.R w' r b ∧ Nw w w'
  e0 : X.a0.eval (.tmp 0) = .slice X.la X.ln X.lc
  e3 : X.a0.eval (.tmp 3) = .pointer (some ⟨X.b3, 0, none⟩)
  sz : X.a0.tmps.size = 119
def SL8.val0 (X : SL8) : Nat → Value
  | 28 => .slice X.la X.ln X.lc
  | 30 => .agg #[.int .i64 X.p.w, .int .i64 X.p.j, .int .i64 X.p.c, .slice X.da X.dn X.dc, .int .i64 X.p.f]
  | _ => undef
def SL8.av : Nat → Option Nat
  | 6 => some 2
  | 7 => some 2
  | 27 => some 2
  | 29 => some 0
  | 31 => some 1
  | 32 => some 2
  | 33 => some 2
  | 34 => some 2
  | _ => none
def SL8.ext : Nat → Value → Value
  | 6 => fun u => tupAt u 0
  | 7 => fun u => tupAt u 1
  | 33 => fun u => tupAt u 0
  | 34 => fun u => tupAt u 1
  | _ => fun u => u
def SL8.acts : List Nat := [1, 3, 4]
theorem SL8.nodup : SL8.acts.Nodup := by decide
theorem SL8.s0 (X : SL8) (ok : SL8Ok X) {Q : PQ} : StepH (opsOf 8 Tryz.f4) SL8.acts SL8.av SL8.ext X.val0 X.rc.Wd X.a0 Q 0 := by
  intro γ listed a w o hF hC hW h1 ho h2
  obtain ⟨hd, hop, hg⟩ := fields2 (x := some 28) (y := Op.move (.tmp 0)) (z := none) (by kernel_rfl) ho
  have e0 : a.eval (.tmp 0) = .slice X.la X.ln X.lc := (hF.eval0 (by kernel_rfl)).trans ok.e0
  refine st_pureH hF hC hW ho h2 (by decide) hd hg ?_
  show _ = Result.ok (Next.value (.slice X.la X.ln X.lc)) w
  generalize a.eval = ρ at e0 ⊢
  unfold execOp
  rw [hop]
  simp [e0, go_sem]
theorem SL8.s1 (X : SL8) (ok : SL8Ok X) {Q : PQ} : StepH (opsOf 8 Tryz.f4) SL8.acts SL8.av SL8.ext X.val0 X.rc.Wd X.a0 Q 1 := by
  intro γ listed a w o hF hC hW h1 ho h2
  obtain ⟨hd, hop, hg⟩ := fields2 (x := some 29) (y := Op.call { callee := .value (.func 14), args := #[(.tmp 28)], argTypes := #[41] }) (z := none) (by kernel_rfl) ho
  have e28 : a.eval (.tmp 28) = .slice X.la X.ln X.lc := slotH hF ho h2 (j := 0) (d := 28) (by kernel_rfl) (by kernel_rfl) (by rw [ok.sz]; decide)
  have ef : a.eval (.func 14) = .func (.func 14) #[] #[] := rfl
  have hu := unl (hF.lt ho) h1
  have hno : upOf listed SL8.acts 2 = false := up_no hC hu rfl [1] (by kernel_rfl) (by decide)
  refine st_actH (k := 0) (ps := []) SL8.nodup rfl (by kernel_rfl) hF hC h1 ho h2 (Or.inr ⟨29, hd, rfl, fun _ => rfl⟩) hg ?_
  intro K hK
  have hr : (execOp a.eval o).run Tryz.prog w = .ok (.enter 14 #[.slice X.la X.ln X.lc]) w := by
    generalize a.eval = ρ at e28 ef ⊢
    unfold execOp
    rw [hop]
    simp [e28, ef, go_sem]
  unfold Oper.wp
  rw [hr]
  refine Calls.mono (ok.cc0 w hW.nw) ?_
  rintro e w' ⟨u, rfl, hc, k1⟩
  exact hK _ _ (LwX.Wd.copy ok.cnw hW k1 hno (by show 0 < 2; decide) hc)
theorem SL8.s2 (X : SL8) (ok : SL8Ok X) {Q : PQ} : StepH (opsOf 8 Tryz.f4) SL8.acts SL8.av SL8.ext X.val0 X.rc.Wd X.a0 Q 2 := by
  intro γ listed a w o hF hC hW h1 ho h2
  obtain ⟨hd, hop, hg⟩ := fields2 (x := some 30) (y := Op.load 42 (.tmp 3)) (z := none) (by kernel_rfl) ho
  have e3 : a.eval (.tmp 3) = .pointer (some ⟨X.b3, 0, none⟩) := (hF.eval0 (by kernel_rfl)).trans ok.e3
  have hc0 := ((bcell hW.nw).1 _ _ (World.block_lt_of_cell? X.W ⟨_, _, none⟩ ok.p0)).trans ok.p0
  have hc1 := ((bcell hW.nw).1 _ _ (World.block_lt_of_cell? X.W ⟨_, _, none⟩ ok.p1)).trans ok.p1
  have hc2 := ((bcell hW.nw).1 _ _ (World.block_lt_of_cell? X.W ⟨_, _, none⟩ ok.p2)).trans ok.p2
  have hc3 := ((bcell hW.nw).1 _ _ (World.block_lt_of_cell? X.W ⟨_, _, none⟩ ok.p3)).trans ok.p3
  have hc4 := ((bcell hW.nw).1 _ _ (World.block_lt_of_cell? X.W ⟨_, _, none⟩ ok.p4)).trans ok.p4
  refine st_pureH hF hC hW ho h2 (by decide) hd hg ?_
  show _ = Result.ok (Next.value (.agg #[.int .i64 X.p.w, .int .i64 X.p.j, .int .i64 X.p.c, .slice X.da X.dn X.dc, .int .i64 X.p.f])) w
  generalize a.eval = ρ at e3 ⊢
  unfold execOp
  rw [hop]
  simp [e3, hc0, hc1, hc2, hc3, hc4, go_sem]
theorem SL8.s3 (X : SL8) (ok : SL8Ok X) {Q : PQ} : StepH (opsOf 8 Tryz.f4) SL8.acts SL8.av SL8.ext X.val0 X.rc.Wd X.a0 Q 3 := by
  intro γ listed a w o hF hC hW h1 ho h2
  obtain ⟨hd, hop, hg⟩ := fields2 (x := some 31) (y := Op.call { callee := .value (.func 15), args := #[(.tmp 30)], argTypes := #[42] }) (z := none) (by kernel_rfl) ho
  have e30 : a.eval (.tmp 30) = .agg #[.int .i64 X.p.w, .int .i64 X.p.j, .int .i64 X.p.c, .slice X.da X.dn X.dc, .int .i64 X.p.f] := slotH hF ho h2 (j := 2) (d := 30) (by kernel_rfl) (by kernel_rfl) (by rw [ok.sz]; decide)
  have ef : a.eval (.func 15) = .func (.func 15) #[] #[] := rfl
  have hu := unl (hF.lt ho) h1
  have hno : upOf listed SL8.acts 2 = false := up_no hC hu rfl [3] (by kernel_rfl) (by decide)
  refine st_actH (k := 1) (ps := []) SL8.nodup rfl (by kernel_rfl) hF hC h1 ho h2 (Or.inr ⟨31, hd, rfl, fun _ => rfl⟩) hg ?_
  intro K hK
  have hr : (execOp a.eval o).run Tryz.prog w = .ok (.enter 15 #[.agg #[.int .i64 X.p.w, .int .i64 X.p.j, .int .i64 X.p.c, .slice X.da X.dn X.dc, .int .i64 X.p.f]]) w := by
    generalize a.eval = ρ at e30 ef ⊢
    unfold execOp
    rw [hop]
    simp [e30, ef, go_sem]
  unfold Oper.wp
  rw [hr]
  refine Calls.mono (ok.cc1 w hW.nw) ?_
  rintro e w' ⟨u, rfl, hc, k1⟩
  exact hK _ _ (LwX.Wd.copy ok.cnw hW k1 hno (by show 1 < 2; decide) hc)
theorem SL8.s4 (X : SL8) (ok : SL8Ok X) {Q : PQ} : StepH (opsOf 8 Tryz.f4) SL8.acts SL8.av SL8.ext X.val0 X.rc.Wd X.a0 Q 4 := by
  intro γ listed a w o hF hC hW h1 ho h2
  obtain ⟨hd, hop, hg⟩ := fields2 (x := some 32) (y := Op.call { callee := .value (.func 11), args := #[(.tmp 29), (.tmp 31)], argTypes := #[29, 36] }) (z := none) (by kernel_rfl) ho
  have e29 : a.eval (.tmp 29) = γ 0 := slotH hF ho h2 (j := 1) (d := 29) (by kernel_rfl) (by kernel_rfl) (by rw [ok.sz]; decide)
  have e31 : a.eval (.tmp 31) = γ 1 := slotH hF ho h2 (j := 3) (d := 31) (by kernel_rfl) (by kernel_rfl) (by rw [ok.sz]; decide)
  have ef : a.eval (.func 11) = .func (.func 11) #[] #[] := rfl
  have hu := unl (hF.lt ho) h1
  have hy0 : upOf listed SL8.acts 0 = true := up_yes hC ho h2 (j := 1) rfl [1] (by kernel_rfl) (by decide)
  have hy1 : upOf listed SL8.acts 1 = true := up_yes hC ho h2 (j := 3) rfl [3] (by kernel_rfl) (by decide)
  have hself : upOf listed SL8.acts 2 = false := up_self rfl hu
  refine st_actH (k := 2) (ps := [[5, 4], [6, 5, 4], [7, 5, 4], [8, 6, 5, 4], [9, 7, 5, 4]]) SL8.nodup rfl (by kernel_rfl) hF hC h1 ho h2 (Or.inr ⟨32, hd, rfl, fun _ => rfl⟩) hg ?_
  intro K hK
  have hr : (execOp a.eval o).run Tryz.prog w = .ok (.enter 11 #[γ 0, γ 1]) w := by
    generalize a.eval = ρ at e29 e31 ef ⊢
    unfold execOp
    rw [hop]
    simp [e29, e31, ef, go_sem]
  unfold Oper.wp
  rw [hr]
  refine Calls.mono (ok.mm w (γ 0) (γ 1) hW.nw (hW.cp 0 (by show 0 < 2; decide) hy0 hself) (hW.cp 1 (by show 1 < 2; decide) hy1 hself)) ?_
  rintro e w' ⟨r, b, rfl, hR, k1⟩
  exact hK _ _ (LwX.Wd.main hW k1 hR)
theorem SL8.s5 (X : SL8) (ok : SL8Ok X) {Q : PQ} : StepH (opsOf 8 Tryz.f4) SL8.acts SL8.av SL8.ext X.val0 X.rc.Wd X.a0 Q 5 := by
  intro γ listed a w o hF hC hW h1 ho h2
  obtain ⟨hd, hop, hg⟩ := fields2 (x := some 27) (y := Op.move (.tmp 32)) (z := none) (by kernel_rfl) ho
  have e32 : a.eval (.tmp 32) = γ 2 := slotH hF ho h2 (j := 4) (d := 32) (by kernel_rfl) (by kernel_rfl) (by rw [ok.sz]; decide)
  refine st_pureH hF hC hW ho h2 (by decide) hd hg ?_
  show _ = Result.ok (Next.value (γ 2)) w
  generalize a.eval = ρ at e32 ⊢
  unfold execOp
  rw [hop]
  simp [e32, go_sem]
theorem SL8.s6 (X : SL8) (ok : SL8Ok X) {Q : PQ} : StepH (opsOf 8 Tryz.f4) SL8.acts SL8.av SL8.ext X.val0 X.rc.Wd X.a0 Q 6 := by
  intro γ listed a w o hF hC hW h1 ho h2
  obtain ⟨hd, hop, hg⟩ := fields2 (x := some 33) (y := Op.extract (.tmp 27) 0) (z := none) (by kernel_rfl) ho
  have e27 : a.eval (.tmp 27) = γ 2 := slotH hF ho h2 (j := 5) (d := 27) (by kernel_rfl) (by kernel_rfl) (by rw [ok.sz]; decide)
  have hy : upOf listed SL8.acts 2 = true := up_yes hC ho h2 (j := 4) rfl [5, 4] (by kernel_rfl) (by decide)
  obtain ⟨r, b, g1, _⟩ := hW.ans hy
  replace g1 : γ 2 = .tuple #[r, b] := g1
  rw [g1] at e27
  refine st_pureH hF hC hW ho h2 (by decide) hd hg ?_
  show _ = Result.ok (Next.value (tupAt (γ 2) 0)) w
  rw [g1]
  generalize a.eval = ρ at e27 ⊢
  unfold execOp
  rw [hop]
  simp [e27, tupAt, go_sem]
theorem SL8.s7 (X : SL8) (ok : SL8Ok X) {Q : PQ} : StepH (opsOf 8 Tryz.f4) SL8.acts SL8.av SL8.ext X.val0 X.rc.Wd X.a0 Q 7 := by
  intro γ listed a w o hF hC hW h1 ho h2
  obtain ⟨hd, hop, hg⟩ := fields2 (x := some 34) (y := Op.extract (.tmp 27) 1) (z := none) (by kernel_rfl) ho
  have e27 : a.eval (.tmp 27) = γ 2 := slotH hF ho h2 (j := 5) (d := 27) (by kernel_rfl) (by kernel_rfl) (by rw [ok.sz]; decide)
  have hy : upOf listed SL8.acts 2 = true := up_yes hC ho h2 (j := 4) rfl [5, 4] (by kernel_rfl) (by decide)
  obtain ⟨r, b, g1, _⟩ := hW.ans hy
  replace g1 : γ 2 = .tuple #[r, b] := g1
  rw [g1] at e27
  refine st_pureH hF hC hW ho h2 (by decide) hd hg ?_
  show _ = Result.ok (Next.value (tupAt (γ 2) 1)) w
  rw [g1]
  generalize a.eval = ρ at e27 ⊢
  unfold execOp
  rw [hop]
  simp [e27, tupAt, go_sem]
theorem SL8.s8 (X : SL8) (ok : SL8Ok X) {Q : PQ} : StepH (opsOf 8 Tryz.f4) SL8.acts SL8.av SL8.ext X.val0 X.rc.Wd X.a0 Q 8 := by
  intro γ listed a w o hF hC hW h1 ho h2
  obtain ⟨hd, hop, hg⟩ := fields2 (x := some 6) (y := Op.assign (.tmp 33)) (z := none) (by kernel_rfl) ho
  have e33 : a.eval (.tmp 33) = tupAt (γ 2) 0 := slotH hF ho h2 (j := 6) (d := 33) (by kernel_rfl) (by kernel_rfl) (by rw [ok.sz]; decide)
  refine st_pureH hF hC hW ho h2 (by decide) hd hg ?_
  show _ = Result.ok (Next.value (tupAt (γ 2) 0)) w
  generalize a.eval = ρ at e33 ⊢
  unfold execOp
  rw [hop]
  simp [e33, go_sem]
theorem SL8.s9 (X : SL8) (ok : SL8Ok X) {Q : PQ} : StepH (opsOf 8 Tryz.f4) SL8.acts SL8.av SL8.ext X.val0 X.rc.Wd X.a0 Q 9 := by
  intro γ listed a w o hF hC hW h1 ho h2
  obtain ⟨hd, hop, hg⟩ := fields2 (x := some 7) (y := Op.assign (.tmp 34)) (z := none) (by kernel_rfl) ho
  have e34 : a.eval (.tmp 34) = tupAt (γ 2) 1 := slotH hF ho h2 (j := 7) (d := 34) (by kernel_rfl) (by kernel_rfl) (by rw [ok.sz]; decide)
  refine st_pureH hF hC hW ho h2 (by decide) hd hg ?_
  show _ = Result.ok (Next.value (tupAt (γ 2) 1)) w
  generalize a.eval = ρ at e34 ⊢
  unfold execOp
  rw [hop]
  simp [e34, go_sem]
theorem SL8.size : (opsOf 8 Tryz.f4).size = 10 := by kernel_rfl
theorem SL8.steps (X : SL8) (ok : SL8Ok X) {Q : PQ} (i : Nat) (hi : i < (opsOf 8 Tryz.f4).size) : StepH (opsOf 8 Tryz.f4) SL8.acts SL8.av SL8.ext X.val0 X.rc.Wd X.a0 Q i := by
  rw [SL8.size] at hi
  have hc : i = 0 ∨ i = 1 ∨ i = 2 ∨ i = 3 ∨ i = 4 ∨ i = 5 ∨ i = 6 ∨ i = 7 ∨ i = 8 ∨ i = 9 := by omega
  rcases hc with rfl | rfl | rfl | rfl | rfl | rfl | rfl | rfl | rfl | rfl
  · exact SL8.s0 X ok
  · exact SL8.s1 X ok
  · exact SL8.s2 X ok
  · exact SL8.s3 X ok
  · exact SL8.s4 X ok
  · exact SL8.s5 X ok
  · exact SL8.s6 X ok
  · exact SL8.s7 X ok
  · exact SL8.s8 X ok
  · exact SL8.s9 X ok
theorem SL8.puts (X : SL8) (γ : Nat → Value) (a0 : Act) : putsL (valH SL8.av SL8.ext X.val0 γ) (opsOf 8 Tryz.f4).toList a0 = ((((((((((a0.put (some 28) (.slice X.la X.ln X.lc)).put (some 29) (γ 0)).put (some 30) (.agg #[.int .i64 X.p.w, .int .i64 X.p.j, .int .i64 X.p.c, .slice X.da X.dn X.dc, .int .i64 X.p.f])).put (some 31) (γ 1)).put (some 32) (γ 2)).put (some 27) (γ 2)).put (some 33) (tupAt (γ 2) 0)).put (some 34) (tupAt (γ 2) 1)).put (some 6) (tupAt (γ 2) 0)).put (some 7) (tupAt (γ 2) 1)) := by kernel_rfl
theorem SL8.run (X : SL8) (ok : SL8Ok X) {Q : PQ} (w : World) (h0 : Nw X.W w.drew)
    (hend : ∀ (γ : Nat → Value) w' r b, Nw X.W w' → X.R w' r b → Q .normal ((((((((((X.a0.put (some 28) (.slice X.la X.ln X.lc)).put (some 29) (γ 0)).put (some 30) (.agg #[.int .i64 X.p.w, .int .i64 X.p.j, .int .i64 X.p.c, .slice X.da X.dn X.dc, .int .i64 X.p.f])).put (some 31) (γ 1)).put (some 32) (.tuple #[r, b])).put (some 27) (.tuple #[r, b])).put (some 33) (r)).put (some 34) (b)).put (some 6) (r)).put (some 7) (b)) w') : (Code.region 8 (opsOf 8 Tryz.f4) true).wp Tryz.prog Q X.a0 w := by
  refine reg_actH (acts := SL8.acts) (av := SL8.av) (ext := SL8.ext) (val0 := X.val0) (Wd := X.rc.Wd) (by kernel_rfl) (by kernel_rfl) (by rw [SL8.size]; decide) (fun i hi => SL8.steps X ok i hi) (fun _ => undef) (LwX.Wd.start X.rc _ _ h0) ?_
  intro S γ w' hS h
  rw [SL8.puts]
  obtain ⟨r, b, g1, hr⟩ := h.ans (hS 2 (by decide))
  replace g1 : γ 2 = .tuple #[r, b] := g1
  have g2 : tupAt (γ 2) 0 = r := by rw [g1]; rfl
  have g3 : tupAt (γ 2) 1 = b := by rw [g1]; rfl
  rw [g2, g3, g1]
  exact hend γ w' r b h.nw hr
structure SL31 where
  b3 : Nat
  la : Option Addr
  ln : Nat
  lc : Nat
  p : PD
  da : Option Addr
  dn : Nat
  dc : Nat
  C : Nat → World → Value → Prop
  R : World → Value → Value → Prop
  W : World
  a0 : Act
def SL31.rc (X : SL31) : LwX := ⟨2, X.W, X.C, X.R⟩
structure SL31Ok (X : SL31) : Prop where
  p0 : X.W.cell? ⟨X.b3, 0, none⟩ = some (.int .i64 X.p.w)
  p1 : X.W.cell? ⟨X.b3, 1, none⟩ = some (.int .i64 X.p.j)
  p2 : X.W.cell? ⟨X.b3, 2, none⟩ = some (.int .i64 X.p.c)
  p3 : X.W.cell? ⟨X.b3, 3, none⟩ = some (.slice X.da X.dn X.dc)
  p4 : X.W.cell? ⟨X.b3, 4, none⟩ = some (.int .i64 X.p.f)
  cnw : ∀ i w w' u, X.C i w u → Nw w w' → X.C i w' u
  cc0 : ∀ w, Nw X.W w → Calls Tryz.prog 14 #[.slice X.la X.ln X.lc] w fun e w' => ∃ u, e = .returned u ∧ X.C 0 w' u ∧ Nw w w'
  cc1 : ∀ w, Nw X.W w → Calls Tryz.prog 15 #[.agg #[.int .i64 X.p.w, .int .i64 X.p.j, .int .i64 X.p.c, .slice X.da X.dn X.dc, .int .i64 X.p.f]] w fun e w' => ∃ u, e = .returned u ∧ X.C 1 w' u ∧ Nw w w'
  mm : ∀ w u0 u1, Nw X.W w → X.C 0 w u0 → X.C 1 w u1 → Calls Tryz.prog 10 #[u0, u1] w fun e w' => ∃ r b, e = .returned (.tuple #[r, b]) ∧ X.R w' r b ∧ Nw w w'
  e0 : X.a0.eval (.tmp 0) = .slice X.la X.ln X.lc
  e3 : X.a0.eval (.tmp 3) = .pointer (some ⟨X.b3, 0, none⟩)
  sz : X.a0.tmps.size = 119
def SL31.val0 (X : SL31) : Nat → Value
  | 95 => .slice X.la X.ln X.lc
  | 97 => .agg #[.int .i64 X.p.w, .int .i64 X.p.j, .int .i64 X.p.c, .slice X.da X.dn X.dc, .int .i64 X.p.f]
  | _ => undef
def SL31.av : Nat → Option Nat
  | 15 => some 2
  | 16 => some 2
  | 94 => some 2
  | 96 => some 0
  | 98 => some 1
  | 99 => some 2
  | 100 => some 2
  | 101 => some 2
  | _ => none
def SL31.ext : Nat → Value → Value
  | 15 => fun u => tupAt u 0
  | 16 => fun u => tupAt u 1
  | 100 => fun u => tupAt u 0
  | 101 => fun u => tupAt u 1
  | _ => fun u => u
def SL31.acts : List Nat := [1, 3, 4]
theorem SL31.nodup : SL31.acts.Nodup := by decide
theorem SL31.s0 (X : SL31) (ok : SL31Ok X) {Q : PQ} : StepH (opsOf 31 Tryz.f4) SL31.acts SL31.av SL31.ext X.val0 X.rc.Wd X.a0 Q 0 := by
  intro γ listed a w o hF hC hW h1 ho h2
  obtain ⟨hd, hop, hg⟩ := fields2 (x := some 95) (y := Op.move (.tmp 0)) (z := none) (by kernel_rfl) ho
  have e0 : a.eval (.tmp 0) = .slice X.la X.ln X.lc := (hF.eval0 (by kernel_rfl)).trans ok.e0
  refine st_pureH hF hC hW ho h2 (by decide) hd hg ?_
  show _ = Result.ok (Next.value (.slice X.la X.ln X.lc)) w
  generalize a.eval = ρ at e0 ⊢
  unfold execOp
  rw [hop]
  simp [e0, go_sem]
theorem SL31.s1 (X : SL31) (ok : SL31Ok X) {Q : PQ} : StepH (opsOf 31 Tryz.f4) SL31.acts SL31.av SL31.ext X.val0 X.rc.Wd X.a0 Q 1 := by
  intro γ listed a w o hF hC hW h1 ho h2
  obtain ⟨hd, hop, hg⟩ := fields2 (x := some 96) (y := Op.call { callee := .value (.func 14), args := #[(.tmp 95)], argTypes := #[41] }) (z := none) (by kernel_rfl) ho
  have e95 : a.eval (.tmp 95) = .slice X.la X.ln X.lc := slotH hF ho h2 (j := 0) (d := 95) (by kernel_rfl) (by kernel_rfl) (by rw [ok.sz]; decide)
  have ef : a.eval (.func 14) = .func (.func 14) #[] #[] := rfl
  have hu := unl (hF.lt ho) h1
  have hno : upOf listed SL31.acts 2 = false := up_no hC hu rfl [1] (by kernel_rfl) (by decide)
  refine st_actH (k := 0) (ps := []) SL31.nodup rfl (by kernel_rfl) hF hC h1 ho h2 (Or.inr ⟨96, hd, rfl, fun _ => rfl⟩) hg ?_
  intro K hK
  have hr : (execOp a.eval o).run Tryz.prog w = .ok (.enter 14 #[.slice X.la X.ln X.lc]) w := by
    generalize a.eval = ρ at e95 ef ⊢
    unfold execOp
    rw [hop]
    simp [e95, ef, go_sem]
  unfold Oper.wp
  rw [hr]
  refine Calls.mono (ok.cc0 w hW.nw) ?_
  rintro e w' ⟨u, rfl, hc, k1⟩
  exact hK _ _ (LwX.Wd.copy ok.cnw hW k1 hno (by show 0 < 2; decide) hc)
theorem SL31.s2 (X : SL31) (ok : SL31Ok X) {Q : PQ} : StepH (opsOf 31 Tryz.f4) SL31.acts SL31.av SL31.ext X.val0 X.rc.Wd X.a0 Q 2 := by
  intro γ listed a w o hF hC hW h1 ho h2
  obtain ⟨hd, hop, hg⟩ := fields2 (x := some 97) (y := Op.load 42 (.tmp 3)) (z := none) (by kernel_rfl) ho
  have e3 : a.eval (.tmp 3) = .pointer (some ⟨X.b3, 0, none⟩) := (hF.eval0 (by kernel_rfl)).trans ok.e3
  have hc0 := ((bcell hW.nw).1 _ _ (World.block_lt_of_cell? X.W ⟨_, _, none⟩ ok.p0)).trans ok.p0
  have hc1 := ((bcell hW.nw).1 _ _ (World.block_lt_of_cell? X.W ⟨_, _, none⟩ ok.p1)).trans ok.p1
  have hc2 := ((bcell hW.nw).1 _ _ (World.block_lt_of_cell? X.W ⟨_, _, none⟩ ok.p2)).trans ok.p2
  have hc3 := ((bcell hW.nw).1 _ _ (World.block_lt_of_cell? X.W ⟨_, _, none⟩ ok.p3)).trans ok.p3
  have hc4 := ((bcell hW.nw).1 _ _ (World.block_lt_of_cell? X.W ⟨_, _, none⟩ ok.p4)).trans ok.p4
  refine st_pureH hF hC hW ho h2 (by decide) hd hg ?_
  show _ = Result.ok (Next.value (.agg #[.int .i64 X.p.w, .int .i64 X.p.j, .int .i64 X.p.c, .slice X.da X.dn X.dc, .int .i64 X.p.f])) w
  generalize a.eval = ρ at e3 ⊢
  unfold execOp
  rw [hop]
  simp [e3, hc0, hc1, hc2, hc3, hc4, go_sem]
theorem SL31.s3 (X : SL31) (ok : SL31Ok X) {Q : PQ} : StepH (opsOf 31 Tryz.f4) SL31.acts SL31.av SL31.ext X.val0 X.rc.Wd X.a0 Q 3 := by
  intro γ listed a w o hF hC hW h1 ho h2
  obtain ⟨hd, hop, hg⟩ := fields2 (x := some 98) (y := Op.call { callee := .value (.func 15), args := #[(.tmp 97)], argTypes := #[42] }) (z := none) (by kernel_rfl) ho
  have e97 : a.eval (.tmp 97) = .agg #[.int .i64 X.p.w, .int .i64 X.p.j, .int .i64 X.p.c, .slice X.da X.dn X.dc, .int .i64 X.p.f] := slotH hF ho h2 (j := 2) (d := 97) (by kernel_rfl) (by kernel_rfl) (by rw [ok.sz]; decide)
  have ef : a.eval (.func 15) = .func (.func 15) #[] #[] := rfl
  have hu := unl (hF.lt ho) h1
  have hno : upOf listed SL31.acts 2 = false := up_no hC hu rfl [3] (by kernel_rfl) (by decide)
  refine st_actH (k := 1) (ps := []) SL31.nodup rfl (by kernel_rfl) hF hC h1 ho h2 (Or.inr ⟨98, hd, rfl, fun _ => rfl⟩) hg ?_
  intro K hK
  have hr : (execOp a.eval o).run Tryz.prog w = .ok (.enter 15 #[.agg #[.int .i64 X.p.w, .int .i64 X.p.j, .int .i64 X.p.c, .slice X.da X.dn X.dc, .int .i64 X.p.f]]) w := by
    generalize a.eval = ρ at e97 ef ⊢
    unfold execOp
    rw [hop]
    simp [e97, ef, go_sem]
  unfold Oper.wp
  rw [hr]
  refine Calls.mono (ok.cc1 w hW.nw) ?_
  rintro e w' ⟨u, rfl, hc, k1⟩
  exact hK _ _ (LwX.Wd.copy ok.cnw hW k1 hno (by show 1 < 2; decide) hc)
theorem SL31.s4 (X : SL31) (ok : SL31Ok X) {Q : PQ} : StepH (opsOf 31 Tryz.f4) SL31.acts SL31.av SL31.ext X.val0 X.rc.Wd X.a0 Q 4 := by
  intro γ listed a w o hF hC hW h1 ho h2
  obtain ⟨hd, hop, hg⟩ := fields2 (x := some 99) (y := Op.call { callee := .value (.func 10), args := #[(.tmp 96), (.tmp 98)], argTypes := #[29, 36] }) (z := none) (by kernel_rfl) ho
  have e96 : a.eval (.tmp 96) = γ 0 := slotH hF ho h2 (j := 1) (d := 96) (by kernel_rfl) (by kernel_rfl) (by rw [ok.sz]; decide)
  have e98 : a.eval (.tmp 98) = γ 1 := slotH hF ho h2 (j := 3) (d := 98) (by kernel_rfl) (by kernel_rfl) (by rw [ok.sz]; decide)
  have ef : a.eval (.func 10) = .func (.func 10) #[] #[] := rfl
  have hu := unl (hF.lt ho) h1
  have hy0 : upOf listed SL31.acts 0 = true := up_yes hC ho h2 (j := 1) rfl [1] (by kernel_rfl) (by decide)
  have hy1 : upOf listed SL31.acts 1 = true := up_yes hC ho h2 (j := 3) rfl [3] (by kernel_rfl) (by decide)
  have hself : upOf listed SL31.acts 2 = false := up_self rfl hu
  refine st_actH (k := 2) (ps := [[5, 4], [6, 5, 4], [7, 5, 4], [8, 6, 5, 4], [9, 7, 5, 4]]) SL31.nodup rfl (by kernel_rfl) hF hC h1 ho h2 (Or.inr ⟨99, hd, rfl, fun _ => rfl⟩) hg ?_
  intro K hK
  have hr : (execOp a.eval o).run Tryz.prog w = .ok (.enter 10 #[γ 0, γ 1]) w := by
    generalize a.eval = ρ at e96 e98 ef ⊢
    unfold execOp
    rw [hop]
    simp [e96, e98, ef, go_sem]
  unfold Oper.wp
  rw [hr]
  refine Calls.mono (ok.mm w (γ 0) (γ 1) hW.nw (hW.cp 0 (by show 0 < 2; decide) hy0 hself) (hW.cp 1 (by show 1 < 2; decide) hy1 hself)) ?_
  rintro e w' ⟨r, b, rfl, hR, k1⟩
  exact hK _ _ (LwX.Wd.main hW k1 hR)
theorem SL31.s5 (X : SL31) (ok : SL31Ok X) {Q : PQ} : StepH (opsOf 31 Tryz.f4) SL31.acts SL31.av SL31.ext X.val0 X.rc.Wd X.a0 Q 5 := by
  intro γ listed a w o hF hC hW h1 ho h2
  obtain ⟨hd, hop, hg⟩ := fields2 (x := some 94) (y := Op.move (.tmp 99)) (z := none) (by kernel_rfl) ho
  have e99 : a.eval (.tmp 99) = γ 2 := slotH hF ho h2 (j := 4) (d := 99) (by kernel_rfl) (by kernel_rfl) (by rw [ok.sz]; decide)
  refine st_pureH hF hC hW ho h2 (by decide) hd hg ?_
  show _ = Result.ok (Next.value (γ 2)) w
  generalize a.eval = ρ at e99 ⊢
  unfold execOp
  rw [hop]
  simp [e99, go_sem]
theorem SL31.s6 (X : SL31) (ok : SL31Ok X) {Q : PQ} : StepH (opsOf 31 Tryz.f4) SL31.acts SL31.av SL31.ext X.val0 X.rc.Wd X.a0 Q 6 := by
  intro γ listed a w o hF hC hW h1 ho h2
  obtain ⟨hd, hop, hg⟩ := fields2 (x := some 100) (y := Op.extract (.tmp 94) 0) (z := none) (by kernel_rfl) ho
  have e94 : a.eval (.tmp 94) = γ 2 := slotH hF ho h2 (j := 5) (d := 94) (by kernel_rfl) (by kernel_rfl) (by rw [ok.sz]; decide)
  have hy : upOf listed SL31.acts 2 = true := up_yes hC ho h2 (j := 4) rfl [5, 4] (by kernel_rfl) (by decide)
  obtain ⟨r, b, g1, _⟩ := hW.ans hy
  replace g1 : γ 2 = .tuple #[r, b] := g1
  rw [g1] at e94
  refine st_pureH hF hC hW ho h2 (by decide) hd hg ?_
  show _ = Result.ok (Next.value (tupAt (γ 2) 0)) w
  rw [g1]
  generalize a.eval = ρ at e94 ⊢
  unfold execOp
  rw [hop]
  simp [e94, tupAt, go_sem]
theorem SL31.s7 (X : SL31) (ok : SL31Ok X) {Q : PQ} : StepH (opsOf 31 Tryz.f4) SL31.acts SL31.av SL31.ext X.val0 X.rc.Wd X.a0 Q 7 := by
  intro γ listed a w o hF hC hW h1 ho h2
  obtain ⟨hd, hop, hg⟩ := fields2 (x := some 101) (y := Op.extract (.tmp 94) 1) (z := none) (by kernel_rfl) ho
  have e94 : a.eval (.tmp 94) = γ 2 := slotH hF ho h2 (j := 5) (d := 94) (by kernel_rfl) (by kernel_rfl) (by rw [ok.sz]; decide)
  have hy : upOf listed SL31.acts 2 = true := up_yes hC ho h2 (j := 4) rfl [5, 4] (by kernel_rfl) (by decide)
  obtain ⟨r, b, g1, _⟩ := hW.ans hy
  replace g1 : γ 2 = .tuple #[r, b] := g1
  rw [g1] at e94
  refine st_pureH hF hC hW ho h2 (by decide) hd hg ?_
  show _ = Result.ok (Next.value (tupAt (γ 2) 1)) w
  rw [g1]
  generalize a.eval = ρ at e94 ⊢
  unfold execOp
  rw [hop]
  simp [e94, tupAt, go_sem]
theorem SL31.s8 (X : SL31) (ok : SL31Ok X) {Q : PQ} : StepH (opsOf 31 Tryz.f4) SL31.acts SL31.av SL31.ext X.val0 X.rc.Wd X.a0 Q 8 := by
  intro γ listed a w o hF hC hW h1 ho h2
  obtain ⟨hd, hop, hg⟩ := fields2 (x := some 15) (y := Op.assign (.tmp 100)) (z := none) (by kernel_rfl) ho
  have e100 : a.eval (.tmp 100) = tupAt (γ 2) 0 := slotH hF ho h2 (j := 6) (d := 100) (by kernel_rfl) (by kernel_rfl) (by rw [ok.sz]; decide)
  refine st_pureH hF hC hW ho h2 (by decide) hd hg ?_
  show _ = Result.ok (Next.value (tupAt (γ 2) 0)) w
  generalize a.eval = ρ at e100 ⊢
  unfold execOp
  rw [hop]
  simp [e100, go_sem]
theorem SL31.s9 (X : SL31) (ok : SL31Ok X) {Q : PQ} : StepH (opsOf 31 Tryz.f4) SL31.acts SL31.av SL31.ext X.val0 X.rc.Wd X.a0 Q 9 := by
  intro γ listed a w o hF hC hW h1 ho h2
  obtain ⟨hd, hop, hg⟩ := fields2 (x := some 16) (y := Op.assign (.tmp 101)) (z := none) (by kernel_rfl) ho
  have e101 : a.eval (.tmp 101) = tupAt (γ 2) 1 := slotH hF ho h2 (j := 7) (d := 101) (by kernel_rfl) (by kernel_rfl) (by rw [ok.sz]; decide)
  refine st_pureH hF hC hW ho h2 (by decide) hd hg ?_
  show _ = Result.ok (Next.value (tupAt (γ 2) 1)) w
  generalize a.eval = ρ at e101 ⊢
  unfold execOp
  rw [hop]
  simp [e101, go_sem]
theorem SL31.size : (opsOf 31 Tryz.f4).size = 10 := by kernel_rfl
theorem SL31.steps (X : SL31) (ok : SL31Ok X) {Q : PQ} (i : Nat) (hi : i < (opsOf 31 Tryz.f4).size) : StepH (opsOf 31 Tryz.f4) SL31.acts SL31.av SL31.ext X.val0 X.rc.Wd X.a0 Q i := by
  rw [SL31.size] at hi
  have hc : i = 0 ∨ i = 1 ∨ i = 2 ∨ i = 3 ∨ i = 4 ∨ i = 5 ∨ i = 6 ∨ i = 7 ∨ i = 8 ∨ i = 9 := by omega
  rcases hc with rfl | rfl | rfl | rfl | rfl | rfl | rfl | rfl | rfl | rfl
  · exact SL31.s0 X ok
  · exact SL31.s1 X ok
  · exact SL31.s2 X ok
  · exact SL31.s3 X ok
  · exact SL31.s4 X ok
  · exact SL31.s5 X ok
  · exact SL31.s6 X ok
  · exact SL31.s7 X ok
  · exact SL31.s8 X ok
  · exact SL31.s9 X ok
theorem SL31.puts (X : SL31) (γ : Nat → Value) (a0 : Act) : putsL (valH SL31.av SL31.ext X.val0 γ) (opsOf 31 Tryz.f4).toList a0 = ((((((((((a0.put (some 95) (.slice X.la X.ln X.lc)).put (some 96) (γ 0)).put (some 97) (.agg #[.int .i64 X.p.w, .int .i64 X.p.j, .int .i64 X.p.c, .slice X.da X.dn X.dc, .int .i64 X.p.f])).put (some 98) (γ 1)).put (some 99) (γ 2)).put (some 94) (γ 2)).put (some 100) (tupAt (γ 2) 0)).put (some 101) (tupAt (γ 2) 1)).put (some 15) (tupAt (γ 2) 0)).put (some 16) (tupAt (γ 2) 1)) := by kernel_rfl
theorem SL31.run (X : SL31) (ok : SL31Ok X) {Q : PQ} (w : World) (h0 : Nw X.W w.drew)
    (hend : ∀ (γ : Nat → Value) w' r b, Nw X.W w' → X.R w' r b → Q .normal ((((((((((X.a0.put (some 95) (.slice X.la X.ln X.lc)).put (some 96) (γ 0)).put (some 97) (.agg #[.int .i64 X.p.w, .int .i64 X.p.j, .int .i64 X.p.c, .slice X.da X.dn X.dc, .int .i64 X.p.f])).put (some 98) (γ 1)).put (some 99) (.tuple #[r, b])).put (some 94) (.tuple #[r, b])).put (some 100) (r)).put (some 101) (b)).put (some 15) (r)).put (some 16) (b)) w') : (Code.region 31 (opsOf 31 Tryz.f4) true).wp Tryz.prog Q X.a0 w := by
  refine reg_actH (acts := SL31.acts) (av := SL31.av) (ext := SL31.ext) (val0 := X.val0) (Wd := X.rc.Wd) (by kernel_rfl) (by kernel_rfl) (by rw [SL31.size]; decide) (fun i hi => SL31.steps X ok i hi) (fun _ => undef) (LwX.Wd.start X.rc _ _ h0) ?_
  intro S γ w' hS h
  rw [SL31.puts]
  obtain ⟨r, b, g1, hr⟩ := h.ans (hS 2 (by decide))
  replace g1 : γ 2 = .tuple #[r, b] := g1
  have g2 : tupAt (γ 2) 0 = r := by rw [g1]; rfl
  have g3 : tupAt (γ 2) 1 = b := by rw [g1]; rfl
  rw [g2, g3, g1]
  exact hend γ w' r b h.nw hr
structure SL16 where
 bx : Nat
 ba : Nat
 p : PD
 sv : Value
 aa : Option Addr
 ac : Nat
 l : List Int
 W : World
 a0 : Act
structure SL16Ok (X : SL16) : Prop where
 cx : PB X.W X.bx X.p X.sv
 ca : PB X.W X.ba X.p (.slice X.aa X.l.length X.ac)
 hi : Ints X.W X.aa X.l
 hs : RowI X.W X.sv X.l
 hl : X.l.length ≤ 1048576
 e3 : X.a0.eval (.tmp 3) = .pointer (some ⟨X.ba, 0, none⟩)
 e9 : X.a0.eval (.tmp 9) = .pointer (some ⟨X.bx, 0, none⟩)
 sz : X.a0.tmps.size = 119
def SL16.val0 (X : SL16) : Nat → Value
 | 3 => .pointer (some ⟨X.ba, 0, none⟩)
 | 9 => .pointer (some ⟨X.bx, 0, none⟩)
 | 59 => penV X.p (X.sv)
 | 60 => penV X.p (.slice X.aa X.l.length X.ac)
 | _ => undef
def SL16.av : Nat → Option Nat
 | 61 => some 0
 | 62 => some 1
 | 63 => some 2
 | _ => none
def SL16.acts : List Nat := [2, 3, 4]
def SL16.Wd (X : SL16) : Nat → (Nat → Value) → World → Prop
  | 0, _, w => Nw X.W w
  | 1, γ, w => ∃ g, γ 0 = penV X.p (.slice (some ⟨g, 0, none⟩) X.l.length X.l.length) ∧ LayI w g X.l ∧ Nw X.W w
  | 2, γ, w => γ 1 = .bool true ∧ Nw X.W w
  | _, γ, w => γ 2 = .bool false ∧ Nw X.W w
theorem SL16.nw {X : SL16} : ∀ {n : Nat} {γ : Nat → Value} {w : World}, X.Wd n γ w → Nw X.W w
  | 0, _, _, h => h
  | 1, _, _, ⟨_, _, _, h⟩ => h
  | 2, _, _, ⟨_, h⟩ => h
  | _ + 3, _, _, ⟨_, h⟩ => h
theorem SL16.chain : chainG (opsOf 16 Tryz.f4) SL16.acts = true := by kernel_rfl
theorem SL16.nodup : SL16.acts.Nodup := by decide
def SL16.L : List (Option Nat × Op × Option (Nat × Bool)) := [
 (some 59, .load 36 (.tmp 9), none),
 (some 60, .load 42 (.tmp 3), none),
 (some 61, .call { callee := .value (.func 15), args := #[(.tmp 60)], argTypes := #[42] }, none),
 (some 62, .call { callee := .value (.func 17), args := #[(.tmp 59), (.tmp 61)], argTypes := #[36, 36] }, none),
 (some 63, .unOp .not 4 (.tmp 62), none)]
theorem SL16.isL : (opsOf 16 Tryz.f4).toList.map tri = SL16.L := by kernel_rfl
theorem SL16.ini {X : SL16} (ok : SL16Ok X) : ∀ n ∈ [3, 9], X.a0.eval (.tmp n) = X.val0 n := by
 simp only [List.forall_mem_cons]
 exact ⟨ok.e3, ok.e9, List.forall_mem_nil _⟩
abbrev SL16.St (X : SL16) (Q : PQ) (i : Nat) : Prop := StepG (opsOf 16 Tryz.f4) SL16.acts SL16.av X.val0 X.Wd X.a0 Q i
theorem SL16.s0 (X : SL16) (ok : SL16Ok X) {Q : PQ} : SL16.St X Q 0 := by
 intro γ listed a w o hF hC hW h1 ho h2
 obtain ⟨hd, hop, hg⟩ := fieldsL SL16.isL (i := 0) rfl ho
 have e9 : a.eval (.tmp 9) = .pointer (some ⟨X.bx, 0, none⟩) := known hF ho h2 (SL16.ini ok) ok.sz (by kernel_rfl)
 obtain ⟨c0, c1, c2, c3, c4⟩ := PB.nw ok.cx (SL16.nw hW)
 refine st_pureG hF hC hW ho h2 (by decide) hd hg rfl ?_
 show _ = Result.ok (Next.value (penV X.p (X.sv))) w
 generalize a.eval = ρ at e9 ⊢
 unfold execOp
 rw [hop]
 simp [e9, c0, c1, c2, c3, c4, go_sem]
theorem SL16.s1 (X : SL16) (ok : SL16Ok X) {Q : PQ} : SL16.St X Q 1 := by
 intro γ listed a w o hF hC hW h1 ho h2
 obtain ⟨hd, hop, hg⟩ := fieldsL SL16.isL (i := 1) rfl ho
 have e3 : a.eval (.tmp 3) = .pointer (some ⟨X.ba, 0, none⟩) := known hF ho h2 (SL16.ini ok) ok.sz (by kernel_rfl)
 obtain ⟨c0, c1, c2, c3, c4⟩ := PB.nw ok.ca (SL16.nw hW)
 refine st_pureG hF hC hW ho h2 (by decide) hd hg rfl ?_
 show _ = Result.ok (Next.value (penV X.p (.slice X.aa X.l.length X.ac))) w
 generalize a.eval = ρ at e3 ⊢
 unfold execOp
 rw [hop]
 simp [e3, c0, c1, c2, c3, c4, go_sem]
theorem SL16.s2 (X : SL16) (ok : SL16Ok X) {Q : PQ} : SL16.St X Q 2 := by
 intro γ listed a w o hF hC hW h1 ho h2
 obtain ⟨hd, hop, hg⟩ := fieldsL SL16.isL (i := 2) rfl ho
 have e60 : a.eval (.tmp 60) = penV X.p (.slice X.aa X.l.length X.ac) := known hF ho h2 (SL16.ini ok) ok.sz (by kernel_rfl)
 have ef : a.eval (.func 15) = .func (.func 15) #[] #[] := rfl
 have hu := unl (hF.lt ho) h1
 refine st_actG (k := 0) SL16.chain SL16.nodup rfl hF hC hW h1 ho h2 (Or.inr ⟨61, hd, rfl⟩) (injG (by kernel_rfl) hu) hg ?_
 intro hW0 K hK
 have hr : (execOp a.eval o).run Tryz.prog w = .ok (.enter 15 #[penV X.p (.slice X.aa X.l.length X.ac)]) w := by
  generalize a.eval = ρ at e60 ef ⊢
  unfold execOp
  rw [hop]
  simp [e60, ef, go_sem]
 unfold Oper.wp
 rw [hr]
 refine Calls.mono (toPen_any w X.p X.aa X.ac X.l ok.hl (ok.hi.nw hW0)) ?_
 rintro e w' ⟨g, rfl, n1, _, l1⟩
 exact hK _ _ ⟨g, rfl, l1, Nw.trans hW0 n1⟩
theorem SL16.s3 (X : SL16) (ok : SL16Ok X) {Q : PQ} : SL16.St X Q 3 := by
 intro γ listed a w o hF hC hW h1 ho h2
 obtain ⟨hd, hop, hg⟩ := fieldsL SL16.isL (i := 3) rfl ho
 have e59 : a.eval (.tmp 59) = penV X.p (X.sv) := known hF ho h2 (SL16.ini ok) ok.sz (by kernel_rfl)
 have e61 : a.eval (.tmp 61) = γ 0 := known hF ho h2 (SL16.ini ok) ok.sz (by kernel_rfl)
 have ef : a.eval (.func 17) = .func (.func 17) #[] #[] := rfl
 have hu := unl (hF.lt ho) h1
 refine st_actG (k := 1) SL16.chain SL16.nodup rfl hF hC hW h1 ho h2 (Or.inr ⟨62, hd, rfl⟩) (injG (by kernel_rfl) hu) hg ?_
 intro hW0 K hK
 obtain ⟨g, g0, l1, n1⟩ := hW0
 rw [g0] at e61
 have hr : (execOp a.eval o).run Tryz.prog w = .ok (.enter 17 #[penV X.p (X.sv), penV X.p (.slice (some ⟨g, 0, none⟩) X.l.length X.l.length)]) w := by
  generalize a.eval = ρ at e59 e61 ef ⊢
  unfold execOp
  rw [hop]
  simp [e59, e61, ef, go_sem]
 unfold Oper.wp
 rw [hr]
 refine Calls.mono (eqPen_any w X.p _ _ X.l ok.hl (ok.hs.nw n1) (l1.row)) ?_
 rintro e w' ⟨rfl, n2⟩
 exact hK _ _ ⟨rfl, Nw.trans n1 n2⟩
theorem SL16.s4 (X : SL16) (ok : SL16Ok X) {Q : PQ} : SL16.St X Q 4 := by
 intro γ listed a w o hF hC hW h1 ho h2
 obtain ⟨hd, hop, hg⟩ := fieldsL SL16.isL (i := 4) rfl ho
 have e62 : a.eval (.tmp 62) = γ 1 := known hF ho h2 (SL16.ini ok) ok.sz (by kernel_rfl)
 have hu := unl (hF.lt ho) h1
 refine st_actG (k := 2) SL16.chain SL16.nodup rfl hF hC hW h1 ho h2 (Or.inr ⟨63, hd, rfl⟩) (injG (by kernel_rfl) hu) hg ?_
 intro hW0 K hK
 obtain ⟨g0, n1⟩ := hW0
 rw [g0] at e62
 have hr : (execOp a.eval o).run Tryz.prog w = .ok (.value (.bool false)) w := by
  generalize a.eval = ρ at e62 ⊢
  unfold execOp
  rw [hop]
  simp [e62, go_sem]
 unfold Oper.wp
 rw [hr]
 exact hK _ _ ⟨rfl, n1⟩
theorem SL16.size : (opsOf 16 Tryz.f4).size = 5 := by kernel_rfl
theorem SL16.rest (X : SL16) (ok : SL16Ok X) {Q : PQ} : ∀ i ∈ [0, 1, 2, 3, 4], SL16.St X Q i := by
 simp only [List.forall_mem_cons]
 exact ⟨SL16.s0 X ok,
  SL16.s1 X ok,
  SL16.s2 X ok,
  SL16.s3 X ok,
  SL16.s4 X ok, List.forall_mem_nil _⟩
theorem SL16.steps (X : SL16) (ok : SL16Ok X) {Q : PQ} (i : Nat) (hi : i < (opsOf 16 Tryz.f4).size) : SL16.St X Q i := by
 rw [SL16.size] at hi
 rcases (by decide : ∀ i, i < 5 → i ∈ [0, 1, 2, 3, 4]) i hi with h
 · exact SL16.rest X ok i h
theorem SL16.run (X : SL16) (ok : SL16Ok X) {Q : PQ} (w : World) (h0 : X.Wd 0 (fun _ => undef) w.drew) (hend : ∀ (γ : Nat → Value) w', X.Wd 3 γ w' → Q .normal (((((X.a0.put (some 59) (penV X.p (X.sv))).put (some 60) (penV X.p (.slice X.aa X.l.length X.ac))).put (some 61) (γ 0)).put (some 62) (γ 1)).put (some 63) (γ 2)) w') : (Code.region 16 (opsOf 16 Tryz.f4) true).wp Tryz.prog Q X.a0 w := by
 refine reg_act (acts := SL16.acts) (av := SL16.av) (val0 := X.val0) (Wd := X.Wd) (by kernel_rfl) (by kernel_rfl) (by rw [SL16.size]; decide) (fun i hi => SL16.steps X ok i hi) _ h0 ?_
 intro γ w' h
 exact end_at (hend γ w' h) (by kernel_rfl)
end Go.Proofs.YtfdjjbgcaojcnaaGreat
