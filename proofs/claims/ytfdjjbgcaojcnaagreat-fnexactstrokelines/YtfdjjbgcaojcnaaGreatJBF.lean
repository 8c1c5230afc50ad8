/-
  A line that comes in: what the laws' helpers do that measure it and copy it; each theorem names its conditions.
  Rows of lines: what the laws' helpers do that measure one and copy it; each theorem names its conditions.
  Rows of lines: marks in an argument's copy; each theorem names its conditions.
  What the law on StrokeLines wants besides: marks in a pen, lines with their room, how many lines are answered; each theorem names its conditions.
-/
import Derived.Test.YtfdjjbgcaojcnaaGreatJAF
import Derived.Test.YtfdjjbgcaojcnaaGreatJBE
import Derived.Test.YtfdjjbgcaojcnaaGreatJAW
import Derived.Test.YtfdjjbgcaojcnaaGreatJAQ
namespace Go.Proofs.YtfdjjbgcaojcnaaGreat
open Go.ChangeShapes Go.WideShapes Go.ChangeAt Go.RowKit
set_option linter.unusedVariables false

theorem retL {x y : Int} (h : x = y) : Ending.returned (.int .i64 x) = Ending.returned (.int .i64 y) := by rw [h]
def okL (l : List LD) : Prop := ∀ i, i < l.length → (lnAt l i).pts.length ≤ maxLen
set_option maxHeartbeats 1000000 in
theorem szLine_any (w : World) (a : Option Addr) (n c : Nat) (cl : Bool) (left : Int) (h0 : 0 ≤ left) (h1 : left ≤ 1048576) (hm : n ≤ maxLen) :
    Calls Tryz.prog 48 #[.agg #[.slice a n c, .bool cl], .int .i64 left] w fun e w' => e = .returned (.int .i64 (if (n : Int) ≤ left then left - (n : Int) else -1)) ∧ Nw w w' := by
  have HZ : Hid _ := fun w => szPointS_any w a n c left h0 h1 hm
  clear hm
  by_cases c1 : (n : Int) ≤ left
  · rw [if_pos c1] at HZ ⊢
    go_enter Tryz.func48, Tryz.ntmps48
    go_wp2_with fail
    refine Calls.mono (HZ.out _) ?_
    rintro e w1 ⟨rfl, rfl⟩
    go_wp2
    go_ret
    exact ⟨rfl, (Below.refl _ _).alloc (Nat.le_refl _) _⟩
  · rw [if_neg c1] at HZ ⊢
    go_enter Tryz.func48, Tryz.ntmps48
    go_wp2_with fail
    refine Calls.mono (HZ.out _) ?_
    rintro e w1 ⟨rfl, rfl⟩
    go_wp2
    go_ret
    exact ⟨rfl, (Below.refl _ _).alloc (Nat.le_refl _) _⟩
set_option maxHeartbeats 2000000 in
theorem toLine_any (w : World) (a : Option Addr) (c : Nat) (ps : List Pnt) (cl : Bool) (hl : ps.length ≤ 1048576) (hr : Pts w a ps) :
    Calls Tryz.prog 50 #[.agg #[.slice a ps.length c, .bool cl]] w fun e w' => ∃ g, e = .returned (.agg #[.slice (some ⟨g, 0, none⟩) ps.length ps.length, .bool cl]) ∧ Nw w w' ∧ w.heap.size ≤ g ∧ LayPt w' g ps ps.length := by
  have HR : ∀ o1 o2 o3, Hid (Pts (((w.alloc o1).alloc o2).alloc o3) a ps) := fun o1 o2 o3 => hr.nw ((((Below.refl _ _).alloc (Nat.le_refl _) _).alloc (by simp) _).alloc (by simp; omega) _)
  clear hr
  go_enter Tryz.func50, Tryz.ntmps50
  go_wp2_with (go_at_call 80; refine (toPointS_any _ a c ps hl (HR _ _ _).out).mono ?_; rintro e w' ⟨rfl, k1, k2⟩; obtain ⟨hc, hf⟩ := bcell k1)
  have K0 : Below w.heap.size w w' := Below.trans ((((Below.refl _ _).alloc (Nat.le_refl _) _).alloc (by simp) _).alloc (by simp; omega) _) (Below.mono k1 (by simp; omega))
  have hz : w.heap.size + 1 + 1 + 1 < w'.heap.size := by have := k2.1; simpa using this
  have K2 : LayPt w' (w.heap.size + 1 + 1 + 1) ps ps.length := by simpa using k2
  clear k1 k2
  refine bodyPost_ret (v := .agg #[.slice (some ⟨w.heap.size + 1 + 1 + 1, 0, none⟩) ps.length ps.length, .bool cl]) (by simp [results, Tryz.results50, go_sem, hc]) rfl ⟨w.heap.size + 1 + 1 + 1, rfl, ?_, by omega, ?_⟩
  · exact (((K0.setCell (by simp; omega) _).setCell (by simp; omega) _).setCell (by simp) _).setCell (by simp) _
  · exact (((K2.off _ _ _ (by omega)).off _ _ _ (by omega)).off _ _ _ (by omega)).off _ _ _ (by omega)
end Go.Proofs.YtfdjjbgcaojcnaaGreat
namespace Go.Proofs.YtfdjjbgcaojcnaaGreat
open Go.ChangeShapes Go.WideShapes Go.ChangeAt Go.RowKit
set_option linter.unusedVariables false

def szLn (l : List LD) (left : Int) : Int := if ((l.length + manyL l : Nat) : Int) ≤ left then left - ((l.length + manyL l : Nat) : Int) else -1
set_option maxHeartbeats 2000000 in
theorem szLineS_any (w : World) (a : Option Addr) (c : Nat) (l : List LD) (left : Int) (h0 : 0 ≤ left) (h1 : left ≤ 1048576) (hm : l.length ≤ maxLen) (hs : okL l) (hr : Lines w a l) :
    Calls Tryz.prog 12 #[.slice a l.length c, .int .i64 left] w fun e w' => e = .returned (.int .i64 (szLn l left)) ∧ Nw w w' := by
  unfold maxLen at hm
  by_cases c1 : (l.length : Int) ≤ left
  · have HS : Hid (okL l) := hs
    have HR : Hid (Lines w a l) := hr
    clear hs hr
    go_enter Tryz.func12, Tryz.ntmps12
    go_wp2
    go_loopw [1, 5] (fun x i wr => ∃ k : Nat, k ≤ l.length ∧ i = .int .i64 k ∧ x = .int .i64 (left - l.length - (manyL (l.take k) : Nat)) ∧ (manyL (l.take k) : Int) ≤ left - l.length ∧ Nw w wr) (fun _ i _ => l.length - (intOf i).toNat)
    case atStart => exact ⟨0, Nat.zero_le _, rfl, by simp [manyL], by simp [manyL]; omega, Below.refl _ _⟩
    case round =>
      obtain ⟨k, hk, rfl, rfl, hb, hw⟩ := hrel
      by_cases hlt : k < l.length
      · have hs2 := manyL_step l k hlt
        have hle := manyL_le l (k + 1)
        have hz := HS.out k hlt
        rcases (HR.out.nw hw) with h | ⟨b, off, rfl, hbk, hc⟩
        · rw [h] at hlt; simp at hlt
        obtain ⟨⟨qa, qc, q0, _⟩, q1⟩ := hc k hlt
        have HZ : Hid ((lnAt l k).pts.length ≤ maxLen) := hz
        have HW : Hid (Nw w wr) := hw
        clear hc hw hz
        generalize manyL (l.take k) = b1 at *
        have HE : Hid (manyL (l.take (k + 1)) = b1 + (lnAt l k).pts.length) := hs2
        rw [hs2] at hle
        clear hs2
        generalize (lnAt l k).pts.length = n at *
        generalize (lnAt l k).closed = cl at *
        by_cases c2 : (n : Int) ≤ left - l.length - b1
        · go_wp2_with (go_at_call 48; refine Calls.mono (szLine_any _ qa n qc cl _ (by omega) (by omega) HZ.out) ?_; rw [if_pos c2]; rintro e w' ⟨rfl, k1⟩)
          go_roundw
          case rel => exact ⟨k + 1, by omega, by go_num, by rw [HE.out]; go_num, by rw [HE.out]; omega, HW.out.trans k1⟩
          case measure => simp [intOf]; omega
        · have HX : Hid (szLn l left = -1) := by show szLn l left = -1; unfold szLn; rw [if_neg (by omega)]
          go_wp2_with (go_at_call 48; refine Calls.mono (szLine_any _ qa n qc cl _ (by omega) (by omega) HZ.out) ?_; rw [if_neg c2]; rintro e w' ⟨rfl, k1⟩)
          go_ret
          exact ⟨retL HX.out.symm, HW.out.trans k1⟩
      · have e : k = l.length := by omega
        subst e
        rw [List.take_length] at *
        have HX : Hid (szLn l left = left - l.length - manyL l) := by show szLn l left = _; unfold szLn; rw [if_pos (by omega)]; omega
        have HW : Hid (Nw w wr) := hw
        clear hw
        generalize manyL l = m at *
        go_wp2
        go_ret
        exact ⟨retL HX.out.symm, HW.out⟩
  · have HX : Hid (szLn l left = -1) := by show szLn l left = -1; unfold szLn; rw [if_neg (by omega)]
    clear hs hr
    go_enter Tryz.func12, Tryz.ntmps12
    go_wp2
    go_ret
    exact ⟨retL HX.out.symm, Below.refl _ _⟩
/-- A new list of which the first lines have been laid: it; n in all. -/
structure LayLn (w : World) (g : Nat) (it : Its) (n : Nat) : Prop where
  lt : g < w.heap.size
  c1 : ∀ i, i < it.length → w.cell? ⟨g, i * 2, none⟩ = some (itAt it i).1 ∧ w.cell? ⟨g, i * 2 + 1, none⟩ = some (.bool (itAt it i).2.closed)
  c2 : ∀ i, it.length ≤ i → i < n → w.cell? ⟨g, i * 2, none⟩ = some (.slice none 0 0) ∧ w.cell? ⟨g, i * 2 + 1, none⟩ = some (.bool false)
  free : ∀ o, w.frozen? ⟨g, o, none⟩ = false
  pts : ∀ i, i < it.length → ∃ p, (itAt it i).1 = .slice (some ⟨p, 0, none⟩) (itAt it i).2.pts.length (itAt it i).2.pts.length ∧ g < p ∧ LayPt w p (itAt it i).2.pts (itAt it i).2.pts.length
  apart : ∀ i j, i ≠ j → i < it.length → j < it.length → ∀ b, (itAt it i).1.ownBlock = some b → (itAt it j).1.ownBlock ≠ some b
theorem LayLn.nw {w w' : World} {g n : Nat} {it : Its} (h : LayLn w g it n) (k : Nw w w') : LayLn w' g it n :=
  ⟨Nat.lt_of_lt_of_le h.lt (Below.size k), fun i hi => ⟨((bcell k).1 _ _ h.lt).trans (h.c1 i hi).1, ((bcell k).1 _ _ h.lt).trans (h.c1 i hi).2⟩, fun i a b => ⟨((bcell k).1 _ _ h.lt).trans (h.c2 i a b).1, ((bcell k).1 _ _ h.lt).trans (h.c2 i a b).2⟩,
    fun o => ((bcell k).2 _ _ h.lt).trans (h.free o), fun i hi => by obtain ⟨p, a, b, c⟩ := h.pts i hi; exact ⟨p, a, b, c.nw k⟩, h.apart⟩
theorem LayLn.start (w : World) (n : Nat) (t : TypeId) : LayLn (w.alloc (.cells (madeCells #[.slice none 0 0, .bool false] (n * 2)) t)) w.heap.size [] n := by
  refine ⟨by simp, fun i hi => absurd hi (by simp), fun i _ hi => ⟨?_, ?_⟩, fun o => World.frozen?_alloc_at _ _ _ _ rfl, fun i hi => absurd hi (by simp), fun i j _ hi => absurd hi (by simp)⟩
  · have := madeCells_get #[.slice none 0 0, .bool false] (n * 2) (i * 2) (by omega)
    simp at this
    simp [this]
  · have := madeCells_get #[.slice none 0 0, .bool false] (n * 2) (i * 2 + 1) (by omega)
    have e : (i * 2 + 1) % 2 = 1 := by omega
    simp [e] at this
    simp [this]
theorem LayLn.step {w w' : World} {g n p : Nat} {it : Its} {x : LD} (h : LayLn w g it n) (k : Nw w w') (hn : it.length < n) (hp : w.heap.size ≤ p) (hl : LayPt w' p x.pts x.pts.length) :
    LayLn ((w'.setCell ⟨g, it.length * 2, none⟩ (.slice (some ⟨p, 0, none⟩) x.pts.length x.pts.length)).setCell ⟨g, it.length * 2 + 1, none⟩ (.bool x.closed)) g (it ++ [(.slice (some ⟨p, 0, none⟩) x.pts.length x.pts.length, x)]) n := by
  have h' := h.nw k
  obtain ⟨z0, z1⟩ := h'.c2 it.length (Nat.le_refl _) hn
  have hgp : g < p := Nat.lt_of_lt_of_le h.lt hp
  have hlt : ∀ i, i < it.length → ∀ b, (itAt it i).1.ownBlock = some b → b < p := fun i hi b hb => by
    obtain ⟨q, e, _, hq⟩ := h.pts i hi
    rw [e] at hb
    have : q = b := by simpa [Value.ownBlock] using hb
    have := hq.1
    omega
  generalize hu : (Value.slice (some ⟨p, 0, none⟩) x.pts.length x.pts.length) = u
  have far : ∀ o, o ≠ it.length * 2 → o ≠ it.length * 2 + 1 → ((w'.setCell ⟨g, it.length * 2, none⟩ u).setCell ⟨g, it.length * 2 + 1, none⟩ (.bool x.closed)).cell? ⟨g, o, none⟩ = w'.cell? ⟨g, o, none⟩ := by
    intro o a b
    rw [World.cell?_setCell_other _ _ _ _ (fun h => by injection h; omega), World.cell?_setCell_other _ _ _ _ (fun h => by injection h; omega)]
  refine ⟨by simpa [World.setCell] using h'.lt, fun i hi => ?_, fun i hi hi2 => ?_, fun o => by rw [World.frozen?_setCell, World.frozen?_setCell]; exact h'.free o, fun i hi => ?_, fun i j hij hi hj b hb => ?_⟩
  · rw [List.length_append, List.length_singleton] at hi
    by_cases e : i = it.length
    · subst e
      rw [itAt_new]
      refine ⟨?_, World.cell?_setCell_same _ ⟨g, it.length * 2 + 1, none⟩ _ ((World.cell?_setCell_other _ _ _ _ (fun h => by injection h; omega)).trans z1)⟩
      rw [World.cell?_setCell_other _ _ _ _ (fun h => by injection h; omega)]
      exact World.cell?_setCell_same w' ⟨g, it.length * 2, none⟩ _ z0
    · have hi' : i < it.length := by omega
      rw [itAt_old it _ i hi', far _ (by omega) (by omega), far _ (by omega) (by omega)]
      exact h'.c1 i hi'
  · rw [List.length_append, List.length_singleton] at hi
    rw [far _ (by omega) (by omega), far _ (by omega) (by omega)]
    exact h'.c2 i (by omega) hi2
  · rw [List.length_append, List.length_singleton] at hi
    by_cases e : i = it.length
    · subst e
      rw [itAt_new]
      exact ⟨p, hu.symm, hgp, (hl.off _ _ _ (by omega)).off _ _ _ (by omega)⟩
    · have hi' : i < it.length := by omega
      rw [itAt_old it _ i hi']
      obtain ⟨q, e1, e2, e3⟩ := h'.pts i hi'
      exact ⟨q, e1, e2, (e3.off _ _ _ (by omega)).off _ _ _ (by omega)⟩
  · rw [List.length_append, List.length_singleton] at hi hj
    have hub : ∀ b, u.ownBlock = some b → b = p := fun b hb => by rw [← hu] at hb; exact (by simpa [Value.ownBlock] using hb : p = b).symm
    by_cases e : i = it.length
    · subst e
      rw [itAt_new] at hb
      have hj' : j < it.length := by omega
      rw [itAt_old it _ j hj']
      intro e2
      have h1 := hub b hb
      have h2 := hlt j hj' b e2
      omega
    · have hi' : i < it.length := by omega
      rw [itAt_old it _ i hi'] at hb
      by_cases e2 : j = it.length
      · subst e2
        rw [itAt_new]
        intro e3
        have h1 := hub b e3
        have h2 := hlt i hi' b hb
        omega
      · have hj' : j < it.length := by omega
        rw [itAt_old it _ j hj']
        exact h.apart i j hij hi' hj' b hb
theorem LayLn.lines {w : World} {g n : Nat} {it : Its} (h : LayLn w g it n) : Lines w (some ⟨g, 0, none⟩) (it.map (·.2)) := by
  refine Or.inr ⟨g, 0, rfl, h.lt, fun i hi => ?_⟩
  have hi' : i < it.length := by simpa using hi
  obtain ⟨q0, q1⟩ := h.c1 i hi'
  obtain ⟨p, e, _, hp⟩ := h.pts i hi'
  rw [ld_at it i hi', Nat.zero_add]
  rw [e] at q0
  exact ⟨⟨_, _, q0, hp.pts⟩, q1⟩
theorem LayLn.sf {w : World} {g n : Nat} {it : Its} (h : LayLn w g it n) : SF g w.heap.size g (vsOf it) := by
  have hl : (vsOf it).length = it.length := by simp [vsOf]
  refine ⟨⟨Nat.le_refl _, h.lt⟩, fun i hi b hb => ?_, fun i j hij hi hj b hb => ?_⟩
  · rw [hl] at hi
    rw [vsOf_at it i hi] at hb
    obtain ⟨p, e, e2, hp⟩ := h.pts i hi
    rw [e] at hb
    have : p = b := by simpa [Value.ownBlock] using hb
    have := hp.1
    exact ⟨by omega, by omega, by omega⟩
  · rw [hl] at hi hj
    rw [vsOf_at it i hi] at hb
    rw [vsOf_at it j hj]
    exact h.apart i j hij hi hj b hb
theorem LayLn.marks {w : World} {g n : Nat} {it : Its} (h : LayLn w g it n) (K : Nat) : MkLn w g (vsOf it) (nsOf it) K 0 := by
  have hl : (vsOf it).length = it.length := by simp [vsOf]
  refine ⟨h.lt, h.free, fun i hi => ?_, fun i hi => absurd hi (by omega), fun i _ hi => ?_, fun i hi => absurd hi (by omega), fun i _ hi => ?_⟩
  · rw [hl] at hi
    rw [vsOf_at it i hi]
    exact (h.c1 i hi).1
  · rw [hl] at hi
    exact ⟨_, (h.c1 i hi).2⟩
  · rw [hl] at hi
    rw [vsOf_at it i hi, nsOf_at it i hi]
    obtain ⟨p, e, _, hp⟩ := h.pts i hi
    exact Or.inr ⟨p, _, e, LayPt.any hp⟩
set_option maxRecDepth 100000 in
set_option maxHeartbeats 4000000 in
theorem toLineS_any (w : World) (a : Option Addr) (c : Nat) (l : List LD) (hm : l.length ≤ 1048576) (hla : lenL l) (hr : Lines w a l) :
    Calls Tryz.prog 14 #[.slice a l.length c] w fun e w' => e = .returned (.slice (some ⟨w.heap.size, 0, none⟩) l.length l.length) ∧ Nw w w' ∧ ∃ it : Its, it.map (·.2) = l ∧ LayLn w' w.heap.size it l.length := by
  have HR : Hid (Lines w a l) := hr
  have HLA : Hid (lenL l) := hla
  clear hr hla
  have hmk := run_mk 29 25 _ 2 32 Tryz.underlying29 info_line l.length (by omega) (by omega)
  have hcs : (Value.agg #[.slice none 0 0, .bool false]).cells = #[.slice none 0 0, .bool false] := rfl
  rw [hcs] at hmk
  go_enter Tryz.func14, Tryz.ntmps14
  go_wp2
  go_loopw [4] (fun i wr => ∃ k : Nat, k ≤ l.length ∧ i = .int .i64 k ∧ Nw w wr ∧ ∃ it : Its, it.map (·.2) = l.take k ∧ LayLn wr w.heap.size it l.length) (fun i _ => l.length - (intOf i).toNat)
  case atStart => exact ⟨0, Nat.zero_le _, rfl, (Below.refl _ _).alloc (Nat.le_refl _) _, [], rfl, LayLn.start w l.length _⟩
  case round =>
    obtain ⟨k, hk, rfl, hw, it, hit, hlay⟩ := hrel
    clear hmk hcs
    have hil : it.length = k := by
      have := congrArg List.length hit
      simp at this
      omega
    have HIT : Hid (it.map (·.2) = l.take k) := hit
    clear hit
    by_cases hlt : k < l.length
    · rcases (HR.out.nw hw) with h | ⟨b, off, rfl, hbk, hc⟩
      · rw [h] at hlt; simp at hlt
      obtain ⟨⟨qa, qc, q0, q4⟩, q1⟩ := hc k hlt
      have Q4 : Hid (Pts wr qa (lnAt l k).pts) := q4
      have hlk : (lnAt l k).pts.length ≤ 1048576 := HLA.out k hlt
      have HE : Hid (l.take (k + 1) = l.take k ++ [lnAt l k]) := by
        show _ = _
        have e : lnAt l k = l[k] := by simp [lnAt, hlt]
        rw [List.take_succ_eq_append_getElem hlt, e]
      clear hc q4
      have HW : Hid (Nw w wr) := hw
      obtain ⟨z0, z1⟩ := hlay.c2 k (by omega) hlt
      have zf := hlay.free
      have HL : Hid (LayLn wr w.heap.size it l.length) := hlay
      have hg : w.heap.size < wr.heap.size := hlay.lt
      clear hw hlay
      generalize lnAt l k = x at *
      obtain ⟨ps, cl⟩ := x
      simp only at q0 q1 Q4 hlk
      go_wp2_with (go_at_call 50; refine Calls.mono (toLine_any _ qa qc ps cl hlk Q4.out) ?_; rintro e w' ⟨ga, rfl, k1, hga, hlp⟩; have y0 := ((bcell k1).1 _ (k * 2) hg).trans z0; have y1 := ((bcell k1).1 _ (k * 2 + 1) hg).trans z1; have yf : ∀ o, w'.frozen? ⟨w.heap.size, o, none⟩ = false := fun o => ((bcell k1).2 _ o hg).trans (zf o); have HLP : Hid (LayPt w' ga ps ps.length) := hlp; clear z0 z1 zf hlp)
      go_roundw
      case rel =>
        refine ⟨k + 1, by omega, by go_num, ?_, it ++ [(.slice (some ⟨ga, 0, none⟩) ps.length ps.length, ⟨ps, cl⟩)], ?_, ?_⟩
        · have kb : Below w.heap.size w w' := HW.out.trans k1
          exact (kb.setCell (Nat.le_refl _) _).setCell (Nat.le_refl _) _
        · rw [HE.out, List.map_append, HIT.out]; rfl
        · have := LayLn.step (x := ⟨ps, cl⟩) HL.out k1 (by omega) hga HLP.out
          rw [hil] at this
          exact this
      case measure => simp [intOf]; omega
    · have e : k = l.length := by omega
      subst e
      rw [List.take_length] at HIT
      have HN : Hid (Nw w wr ∧ LayLn wr w.heap.size it l.length) := ⟨hw, hlay⟩
      clear hw hlay
      go_wp2
      go_ret
      exact ⟨rfl, HN.out.1, it, HIT.out, HN.out.2⟩
end Go.Proofs.YtfdjjbgcaojcnaaGreat
namespace Go.Proofs.YtfdjjbgcaojcnaaGreat
open Go.ChangeShapes Go.WideShapes Go.ChangeAt Go.RowKit
set_option linter.unusedVariables false

theorem markL_lay (w0 w : World) (g n c : Nat) (it : Its) (h : LayLn w0 g it it.length) (k : Nw w0 w) (hn : it.length ≤ 1048576) (hm : manyL (it.map (·.2)) ≤ 1048576) :
    Calls Tryz.prog 18 #[.slice (some ⟨g, 0, none⟩) it.length c, .int .i64 1] w fun e w' => e = .returned (.int .i64 (kAt (nsOf it) 1 it.length : Int)) ∧ Mid g w0.heap.size w w' := by
  have hl : (vsOf it).length = it.length := by simp [vsOf]
  have := markLineS_any w g w0.heap.size g c (vsOf it) (nsOf it) 1 h.sf (by rw [hl]; exact hn) (fun i hi => Nat.le_trans (nsOf_le it i (by rw [← hl]; exact hi)) hm) (by rw [hl, kAt_all]; omega) ((h.nw k).marks 1)
  rw [hl] at this
  refine this.mono ?_
  rintro e w' ⟨rfl, h1, _⟩
  exact ⟨rfl, h1⟩
end Go.Proofs.YtfdjjbgcaojcnaaGreat
namespace Go.Proofs.YtfdjjbgcaojcnaaGreat
open Go.ChangeShapes Go.WideShapes Go.ChangeAt Go.RowKit
set_option linter.unusedVariables false

theorem LayLn.linesC {w : World} {g n : Nat} {it : Its} (h : LayLn w g it n) : LinesC w (some ⟨g, 0, none⟩) (it.map (·.2)) := by
  refine Or.inr ⟨g, 0, rfl, h.lt, fun i hi => ?_⟩
  have hi' : i < it.length := by simpa using hi
  obtain ⟨q0, q1⟩ := h.c1 i hi'
  obtain ⟨p, e, _, hp⟩ := h.pts i hi'
  rw [ld_at it i hi', Nat.zero_add]
  rw [e] at q0
  exact ⟨⟨_, _, q0, Nat.le_refl _, hp.pts⟩, q1⟩
theorem markPen_lay (w : World) (p : PD) (g K : Nat) (l : List Int) (hl : l.length ≤ 1048576) (hK : K ≤ 50000000) (h : LayI w g l) :
    Calls Tryz.prog 19 #[penV p (.slice (some ⟨g, 0, none⟩) l.length l.length), .int .i64 (K : Int)] w fun e w' => e = .returned (.int .i64 ((K + l.length : Nat) : Int)) ∧ w.grownBy w' (some g) := by
  have HA : Hid (∀ o, LayI (w.alloc o) g l) := fun o => LayI.nw h ((Below.refl _ _).alloc (Nat.le_refl _) _)
  obtain ⟨pw, pj, pc, pf⟩ := p
  unfold penV
  simp only
  clear h
  go_enter Tryz.func19, Tryz.ntmps19
  go_wp2_with fail
  refine Calls.mono (markI_any _ g l.length K l hl hK (HA.out _)) ?_
  rintro e w1 ⟨rfl, g1, _⟩
  have G1 : Hid (w.grownBy w1 (some g)) := World.grownBy.trans (gr_alloc _) g1
  clear g1 HA
  go_wp2
  go_ret
  exact ⟨rfl, G1.out⟩
theorem stkV_bd (ls : List LD) (p : PD) (ns : List Int) : (stkV ls p ns).1.length ≤ 1048576 ∧ manyL (stkV ls p ns).1 ≤ 1048576 := by
  unfold stkV
  split
  · rename_i hc
    split
    · exact ⟨by simp, by simp [manyL]⟩
    · cases hs : stK ls p ns ls.length with
      | none => exact ⟨by simp, by simp [manyL]⟩
      | some o =>
        simp only
        split
        · rename_i h4
          have b1 := (stK_bd ls p ns ls.length o (Nat.le_refl _) hs).1
          rw [List.take_length] at b1
          have := hc.2.1
          exact ⟨by show o.length ≤ _; omega, by show manyL o ≤ _; omega⟩
        · exact ⟨by simp, by simp [manyL]⟩
  · exact ⟨by simp, by simp [manyL]⟩
theorem lenS_of {l : List LD} (h : manyL l ≤ 1048576) : lenL l := fun i hi => Nat.le_trans (manyL_at l i hi) h
theorem LayI.mid {w w' : World} {g lo hi : Nat} {l : List Int} (h : LayI w g l) (k : Mid lo hi w w') (hg : hi ≤ g) : LayI w' g l := by
  have e := k.block g h.1 (by omega)
  exact ⟨Nat.lt_of_lt_of_le h.1 k.size, fun i hi => (World.cell?_of_block (w := w) (w' := w') (a := ⟨g, i, none⟩) e).trans (h.2.1 i hi), fun o => (World.frozen?_of_block (w := w) (w' := w') (a := ⟨g, o, none⟩) e).trans (h.2.2 o)⟩
theorem PB.mid {w w' : World} {b lo hi : Nat} {p : PD} {v : Value} (h : PB w b p v) (k : Mid lo hi w w') (hb : hi ≤ b) : PB w' b p v := by
  have hlt := World.block_lt_of_cell? w ⟨b, 0, none⟩ h.c0
  have e : ∀ o, w'.cell? ⟨b, o, none⟩ = w.cell? ⟨b, o, none⟩ := fun o => World.cell?_of_block (w := w) (w' := w') (a := ⟨b, o, none⟩) (k.block b hlt (by omega))
  exact ⟨(e _).trans h.c0, (e _).trans h.c1, (e _).trans h.c2, (e _).trans h.c3, (e _).trans h.c4⟩
end Go.Proofs.YtfdjjbgcaojcnaaGreat
