/-
  The walk of the law on PaintMask; its arguments' lengths are at most what memory holds; each theorem names its conditions.
-/
import Derived.Test.YthlohbiocfeapaaPmWR
import Derived.Test.YthlohbiocfeapaaPmWQ
import Derived.Test.YthlohbiocfeapaaMskM
import Derived.Test.YthlohbiocfeapaaLyI
import Derived.Test.YthlohbiocfeapaaLy
namespace Go.Proofs.Ythlohbiocfeapaa
open Go.ChangeShapes Go.WideShapes Go.ChangeAt Go.RowKit
set_option linter.unusedVariables false

/-- What the copies are. -/
def pmC (p q : MD) (l1 : List Edg) (l2 : List Int) (pt : Edg) : Nat → World → Value → Prop
  | 0, w, u => ∃ g, u = mskV p (.slice (some ⟨g, 0, none⟩) l1.length l1.length) ∧ LayS w g l1
  | 1, w, u => ∃ g, u = mskV q (.slice (some ⟨g, 0, none⟩) l2.length l2.length) ∧ LayI w g l2
  | _, _, u => u = edV pt
/-- What the answer is. -/
def pmRR (p q : MD) (l1 : List Edg) (l2 : List Int) (pt : Edg) (B : Nat) (w : World) (r b : Value) : Prop := ∃ v, r = mskV (pmD p q l1 l2 pt) v ∧ b = .bool (pmB p q l1 l2 pt) ∧ FrQ w B v (pmR p q l1 l2 pt)
theorem pmRok (NC : Nat) (p q : MD) (l1 : List Edg) (l2 : List Int) (pt : Edg) (W : World) : RcX.Ok ⟨NC, 3, W, pmC p q l1 l2 pt, pmRR p q l1 l2 pt⟩ := by
  refine ⟨fun i w w' u h k => ?_, fun B w w' r b h k => ?_, fun B w r b bx o u h hb => ?_, fun B w r b h => ?_⟩
  · match i, h with
    | 0, ⟨g, h1, h2⟩ => exact ⟨g, h1, h2.nw k⟩
    | 1, ⟨g, h1, h2⟩ => exact ⟨g, h1, h2.nw k⟩
    | _ + 2, h => exact h
  · obtain ⟨v, h1, h2, h3⟩ := h
    exact ⟨v, h1, h2, h3.nw k⟩
  · obtain ⟨v, h1, h2, h3⟩ := h
    exact ⟨v, h1, h2, h3.far _ _ _ hb⟩
  · obtain ⟨v, rfl, _, h3⟩ := h
    obtain ⟨a, n, c, rfl⟩ := h3.slice
    rfl
theorem pmForm (p q : MD) (l1 : List Edg) (l2 : List Int) (pt : Edg) : ∀ B w r b, pmRR p q l1 l2 pt B w r b → ∃ x y sa sn sc, r = .agg #[.int .i64 x, .int .i64 y, .slice sa sn sc] := by
  rintro B w r b ⟨v, rfl, _, h3⟩
  obtain ⟨a, n, c, rfl⟩ := h3.slice
  exact ⟨_, _, a, n, c, rfl⟩
theorem pmcc0 (p q : MD) (l1 : List Edg) (l2 : List Int) (pt : Edg) (a : Option Addr) (c : Nat) (hl : l1.length ≤ 1048576) (w : World) (h : Edgs w a l1) :
    Calls Try.prog 42 #[mskV p (.slice a l1.length c)] w fun e w' => ∃ u, e = .returned u ∧ pmC p q l1 l2 pt 0 w' u ∧ Nw w w' := by
  refine Calls.mono (toSheet_any w p a c l1 hl h) ?_
  rintro e w' ⟨g, rfl, n1, _, h1⟩
  exact ⟨_, rfl, ⟨g, rfl, h1⟩, n1⟩
theorem pmcc1 (p q : MD) (l1 : List Edg) (l2 : List Int) (pt : Edg) (a : Option Addr) (c : Nat) (hl : l2.length ≤ 1048576) (w : World) (h : Ints w a l2) :
    Calls Try.prog 46 #[mskV q (.slice a l2.length c)] w fun e w' => ∃ u, e = .returned u ∧ pmC p q l1 l2 pt 1 w' u ∧ Nw w w' := by
  refine Calls.mono (toMask_any w q a c l2 hl h) ?_
  rintro e w' ⟨g, rfl, n1, _, h1⟩
  exact ⟨_, rfl, ⟨g, rfl, h1⟩, n1⟩
theorem pmcc2 (p q : MD) (l1 : List Edg) (l2 : List Int) (pt : Edg) (w : World) :
    Calls Try.prog 23 #[edV pt] w fun e w' => ∃ u, e = .returned u ∧ pmC p q l1 l2 pt 2 w' u ∧ Nw w w' := by
  refine Calls.mono (toTint_any w pt) ?_
  rintro e w' ⟨rfl, k1⟩
  exact ⟨_, rfl, rfl, k1.nw⟩
theorem pmsm (p q : MD) (l1 : List Edg) (l2 : List Int) (pt : Edg) (hl1 : l1.length ≤ 1048576) (hl2 : l2.length ≤ 1048576) (w : World) (u0 u1 u2 : Value) (h0 : pmC p q l1 l2 pt 0 w u0) (h1 : pmC p q l1 l2 pt 1 w u1) (h2 : pmC p q l1 l2 pt 2 w u2) :
    Calls Try.prog 45 #[u0, u1, u2] w fun e w' => ∃ r b, e = .returned (.tuple #[r, b]) ∧ pmRR p q l1 l2 pt w.heap.size w' r b ∧ Nw w w' := by
  obtain ⟨g0, rfl, h0⟩ := h0
  obtain ⟨g1, rfl, h1⟩ := h1
  obtain rfl : u2 = edV pt := h2
  refine Calls.mono (spaint w p q _ _ _ _ l1 l2 pt hl1 hl2 h0.edgs h1.ints) ?_
  rintro e w' ⟨v, rfl, h2, n1⟩
  exact ⟨_, _, rfl, ⟨v, rfl, rfl, h2⟩, n1⟩
theorem pmim (p q : MD) (l1 : List Edg) (l2 : List Int) (pt : Edg) (hl1 : l1.length ≤ 1048576) (hl2 : l2.length ≤ 1048576) (w : World) (u0 u1 u2 : Value) (h0 : pmC p q l1 l2 pt 0 w u0) (h1 : pmC p q l1 l2 pt 1 w u1) (h2 : pmC p q l1 l2 pt 2 w u2) :
    Calls Try.prog 47 #[u0, u1, u2] w fun e w' => ∃ r b, e = .returned (.tuple #[r, b]) ∧ pmRR p q l1 l2 pt w.heap.size w' r b ∧ Nw w w' := by
  obtain ⟨g0, rfl, h0⟩ := h0
  obtain ⟨g1, rfl, h1⟩ := h1
  obtain rfl : u2 = edV pt := h2
  refine Calls.mono (ipaint w p q _ _ _ _ l1 l2 pt hl1 hl2 h0.edgs h1.ints) ?_
  rintro e w' ⟨v, rfl, h2, n1⟩
  exact ⟨_, _, rfl, ⟨v, rfl, rfl, h2⟩, n1⟩
theorem pmR_len (p q : MD) (l1 : List Edg) (l2 : List Int) (pt : Edg) (hl1 : l1.length ≤ 1048576) : (pmR p q l1 l2 pt).length ≤ 1048576 := by
  unfold pmR
  split
  · rw [pmL_len]; exact hl1
  · simp
set_option maxRecDepth 100000 in
set_option maxHeartbeats 8000000 in
/-- The walk of the law on PaintMask. -/
theorem walk_paint (w : World) (pw ph : Int) (a1 : Option Addr) (l1 : List Edg) (c1 : Nat) (qw qh : Int) (a2 : Option Addr) (l2 : List Int) (c2 : Nat) (tr tg tb ta : Int) (hr1 : Edgs w a1 l1) (hm1 : l1.length ≤ maxLen) (hr2 : Ints w a2 l2) (hm2 : l2.length ≤ maxLen) (hpt : (-9223372036854775808 ≤ tr ∧ tr ≤ 9223372036854775807) ∧ (-9223372036854775808 ≤ tg ∧ tg ≤ 9223372036854775807) ∧ (-9223372036854775808 ≤ tb ∧ tb ≤ 9223372036854775807) ∧ (-9223372036854775808 ≤ ta ∧ ta ≤ 9223372036854775807)) :
    Calls Try.prog 12 #[.agg #[.int .i64 pw, .int .i64 ph, .slice a1 l1.length c1], .agg #[.int .i64 qw, .int .i64 qh, .slice a2 l2.length c2], .agg #[.int .i64 tr, .int .i64 tg, .int .i64 tb, .int .i64 ta]] w fun e w' => e = .returned (.bool true) ∧ Below w.heap.size w w' := by
  have HZ1 : Hid _ := fun w => szSheet_any w ⟨pw, ph⟩ a1 l1.length c1 1048576 (by omega) (by omega) hm1
  have HZ2 : Hid (∀ (w : World) (left : Int), 0 ≤ left → left ≤ 1048576 → _) := fun w left h0 h1 => szMask_any w ⟨qw, qh⟩ a2 l2.length c2 left h0 h1 hm2
  unfold mskV at HZ1 HZ2
  simp only at HZ1 HZ2
  obtain ⟨W, hW⟩ : ∃ W, ((w.alloc (.cells #[.int .i64 pw, .int .i64 ph, .slice a1 l1.length c1] 65)).alloc (.cells #[.int .i64 qw, .int .i64 qh, .slice a2 l2.length c2] 72)).alloc (.cells #[.int .i64 tr, .int .i64 tg, .int .i64 tb, .int .i64 ta] 35) = W := ⟨_, rfl⟩
  have HP : Hid (MB W w.heap.size ⟨pw, ph⟩ (.slice a1 l1.length c1)) := by show MB _ _ _ _; rw [← hW]; exact ((MB.new w ⟨pw, ph⟩ _ _).nw (QBnw _ _)).nw (QBnw _ _)
  have HQ : Hid (MB W (w.heap.size + 1) ⟨qw, qh⟩ (.slice a2 l2.length c2)) := by
    show MB _ _ _ _
    rw [← hW]
    have := MB.new (w.alloc (.cells #[.int .i64 pw, .int .i64 ph, .slice a1 l1.length c1] 65)) ⟨qw, qh⟩ (.slice a2 l2.length c2) 72
    rw [World.size_alloc] at this
    exact this.nw (QBnw _ _)
  have HTN : Hid (QB W (w.heap.size + 1 + 1) ⟨tr, tg, tb, ta⟩) := by
    show QB _ _ _
    rw [← hW]
    have := QB.new ((w.alloc (.cells #[.int .i64 pw, .int .i64 ph, .slice a1 l1.length c1] 65)).alloc (.cells #[.int .i64 qw, .int .i64 qh, .slice a2 l2.length c2] 72)) ⟨tr, tg, tb, ta⟩ 35
    simp only [World.size_alloc] at this
    exact this
  have NW : Hid (Nw w W) := by show Nw w W; rw [← hW]; exact Nw.trans (Nw.trans (QBnw _ _) (QBnw _ _)) (QBnw _ _)
  have HI1 : Hid (Edgs W a1 l1) := hr1.nw NW.out
  have HI2 : Hid (Ints W a2 l2) := hr2.nw NW.out
  have HW : Hid (_ = W) := hW
  clear hW hr1 hr2
  by_cases h1 : (l1.length : Int) ≤ 1048576
  · rw [if_pos h1] at HZ1
    by_cases h2 : (l2.length : Int) ≤ 1048576 - l1.length
    · have hl1 : l1.length ≤ 1048576 := by omega
      have hl2 : l2.length ≤ 1048576 := by omega
      replace HZ2 : Hid _ := fun w => HZ2.out w (1048576 - l1.length) (by omega) (by omega)
      rw [if_pos h2] at HZ2
      have HT1 : Hid (∀ w : World, Edgs w a1 l1 → _) := fun w h => toSheet_any w ⟨pw, ph⟩ a1 c1 l1 hl1 h
      have HT2 : Hid (∀ w : World, Ints w a2 l2 → _) := fun w h => toMask_any w ⟨qw, qh⟩ a2 c2 l2 hl2 h
      have HG : Hid (∀ (w : World) (g8 g9 : Nat) (u : Value), LayS w g8 l1 → LayI w g9 l2 → u = edV ⟨tr, tg, tb, ta⟩ → _) := fun w g8 g9 u h8 h9 hu => pmim ⟨pw, ph⟩ ⟨qw, qh⟩ l1 l2 ⟨tr, tg, tb, ta⟩ hl1 hl2 w (mskV ⟨pw, ph⟩ (.slice (some ⟨g8, 0, none⟩) l1.length l1.length)) (mskV ⟨qw, qh⟩ (.slice (some ⟨g9, 0, none⟩) l2.length l2.length)) u ⟨g8, rfl, h8⟩ ⟨g9, rfl, h9⟩ hu
      have HM1 : Hid (∀ (w : World) (v : Value), NumQ w v l1 → _) := fun w v h => markSh_any w ⟨pw, ph⟩ v l1 1 hl1 (by omega) h
      have HM2 : Hid (∀ (w : World) (v : Value), NumV w v l2 → _) := fun w v h => markM_any w ⟨qw, qh⟩ v l2 (1 + 4 * l1.length) hl2 (by omega) h
      have HMA : Hid _ := fun w h => pmcc0 ⟨pw, ph⟩ ⟨qw, qh⟩ l1 l2 ⟨tr, tg, tb, ta⟩ a1 c1 hl1 w h
      have HMB : Hid _ := fun w h => pmcc1 ⟨pw, ph⟩ ⟨qw, qh⟩ l1 l2 ⟨tr, tg, tb, ta⟩ a2 c2 hl2 w h
      have HMC : Hid _ := fun w => pmcc2 ⟨pw, ph⟩ ⟨qw, qh⟩ l1 l2 ⟨tr, tg, tb, ta⟩ w
      have HSM : Hid _ := fun w u0 u1 u2 h0 h1 h2 => pmsm ⟨pw, ph⟩ ⟨qw, qh⟩ l1 l2 ⟨tr, tg, tb, ta⟩ hl1 hl2 w u0 u1 u2 h0 h1 h2
      have HIM : Hid _ := fun w u0 u1 u2 h0 h1 h2 => pmim ⟨pw, ph⟩ ⟨qw, qh⟩ l1 l2 ⟨tr, tg, tb, ta⟩ hl1 hl2 w u0 u1 u2 h0 h1 h2
      have HOK : Hid _ := fun NC W => pmRok NC ⟨pw, ph⟩ ⟨qw, qh⟩ l1 l2 ⟨tr, tg, tb, ta⟩ W
      have HFO : Hid _ := pmForm ⟨pw, ph⟩ ⟨qw, qh⟩ l1 l2 ⟨tr, tg, tb, ta⟩
      have hRl := pmR_len ⟨pw, ph⟩ ⟨qw, qh⟩ l1 l2 ⟨tr, tg, tb, ta⟩ hl1
      have HRB : Hid (∀ B w r b, pmRR ⟨pw, ph⟩ ⟨qw, qh⟩ l1 l2 ⟨tr, tg, tb, ta⟩ B w r b → ∃ v, r = mskV (pmD ⟨pw, ph⟩ ⟨qw, qh⟩ l1 l2 ⟨tr, tg, tb, ta⟩) v ∧ b = .bool (pmB ⟨pw, ph⟩ ⟨qw, qh⟩ l1 l2 ⟨tr, tg, tb, ta⟩) ∧ FrQ w B v (pmR ⟨pw, ph⟩ ⟨qw, qh⟩ l1 l2 ⟨tr, tg, tb, ta⟩)) := fun B w r b h => h
      have HCB : Hid (∀ w u, pmC ⟨pw, ph⟩ ⟨qw, qh⟩ l1 l2 ⟨tr, tg, tb, ta⟩ 2 w u → u = edV ⟨tr, tg, tb, ta⟩) := fun w u h => h
      obtain ⟨C, hC⟩ : ∃ C, pmC ⟨pw, ph⟩ ⟨qw, qh⟩ l1 l2 ⟨tr, tg, tb, ta⟩ = C := ⟨_, rfl⟩
      obtain ⟨R, hR⟩ : ∃ R, pmRR ⟨pw, ph⟩ ⟨qw, qh⟩ l1 l2 ⟨tr, tg, tb, ta⟩ = R := ⟨_, rfl⟩
      rw [hC] at HMA HMB HMC HSM HIM HOK HCB
      rw [hR] at HSM HIM HOK HFO HRB HG
      clear hC hR
      obtain ⟨V, hV⟩ : ∃ V, pmB ⟨pw, ph⟩ ⟨qw, qh⟩ l1 l2 ⟨tr, tg, tb, ta⟩ = V := ⟨_, rfl⟩
      obtain ⟨D, hD⟩ : ∃ D, pmD ⟨pw, ph⟩ ⟨qw, qh⟩ l1 l2 ⟨tr, tg, tb, ta⟩ = D := ⟨_, rfl⟩
      obtain ⟨L, hL⟩ : ∃ L, pmR ⟨pw, ph⟩ ⟨qw, qh⟩ l1 l2 ⟨tr, tg, tb, ta⟩ = L := ⟨_, rfl⟩
      rw [hV, hD, hL] at HRB
      rw [hL] at hRl
      clear hV hD hL
      obtain ⟨dw, dh⟩ := D
      have HE : Hid (∀ (w : World) (v1 v2 : Value), RowQ w v1 L → RowQ w v2 L → _) := fun w v1 v2 h1 h2 => eqSheet_any w ⟨dw, dh⟩ v1 v2 L hRl h1 h2
      have HMG : Hid (∀ (w : World) (v : Value), NumQ w v L → _) := fun w v h => markSh_any w ⟨dw, dh⟩ v L 1 hRl (by omega) h
      have HHG : Hid (∀ (w : World) (v : Value), NumQ w v (mkQ 1 L.length) → _) := fun w v h => heldSh_any w ⟨dw, dh⟩ v L.length 1 hRl (by omega) h
      unfold mskV at HT1 HT2 HG HM1 HM2 HE HMG HHG HMA HMB HRB
      unfold edV at HMC
      simp only at HT1 HT2 HG HM1 HM2 HE HMG HHG HMA HMB HRB HMC
      have hbb : (V != V) = false := by cases V <;> rfl
      have hd1 : decide (1048576 - (l1.length : Int) < 0) = false := decide_eq_false (by omega)
      have hd2 : decide (1048576 - (l1.length : Int) - (l2.length : Int) < 0) = false := decide_eq_false (by omega)
      have HL1 : Hid (l1.length ≤ 1048576) := hl1
      have HL2 : Hid (l2.length ≤ 1048576) := hl2
      obtain ⟨Z, hZ⟩ : ∃ Z : Int, ((1 + 4 * L.length : Nat) : Int) = Z := ⟨_, rfl⟩
      rw [hZ] at HMG HHG
      have hz0 : decide (Z < 0) = false := decide_eq_false (by omega)
      have hzz : (Z != Z) = false := by simp
      obtain ⟨Y, hY⟩ : ∃ Y : Int, ((1 + 4 * l1.length + l2.length : Nat) : Int) = Y := ⟨_, rfl⟩
      rw [hY] at HM2
      have hy0 : decide (Y < 0) = false := decide_eq_false (by omega)
      obtain ⟨Y1, hY1⟩ : ∃ Y : Int, ((1 + 4 * l1.length : Nat) : Int) = Y := ⟨_, rfl⟩
      rw [hY1] at HM1 HM2
      clear hl1 hl2 hZ hY hY1 h1 h2 hm1 hm2 hRl
      generalize hn1 : l1.length = n1 at *
      generalize hn2 : l2.length = n2 at *
      have HN1 : Hid (l1.length = n1) := hn1
      have HN2 : Hid (l2.length = n2) := hn2
      clear hn1 hn2
      go_enter Try.func12, Try.ntmps12
      go_wp2_with fail
      rw [HW.out]
      refine Calls.mono (HZ1.out _) ?_
      rintro e w1 ⟨rfl, k1⟩
      have N1 : Hid (Nw W w1) := k1
      clear k1
      obtain ⟨r0, r1, r2⟩ := MB.nw HQ.out N1.out
      simp only at r0 r1 r2
      go_wp2_with fail
      refine Calls.mono (HZ2.out _) ?_
      rintro e w2 ⟨rfl, k2⟩
      have N2 : Hid (Nw W w2) := Nw.trans N1.out k2
      clear k2 r0 r1 r2
      have N2d : Hid (Nw W w2.drew) := Below.drew N2.out
      obtain ⟨q0, q1, q2⟩ := MB.nw HP.out N2d.out
      obtain ⟨r0, r1, r2⟩ := MB.nw HQ.out N2d.out
      obtain ⟨k0, k1, k2, k3, _⟩ := QB.nw HTN.out N2d.out
      go_wp2
      refine reg_change (ops' := opsOf 8 Try.f12) (by kernel_rfl) ?_
      refine PMA.run ⟨w.heap.size, w.heap.size + 1, w.heap.size + 1 + 1, ⟨pw, ph⟩, ⟨qw, qh⟩, .slice a1 n1 c1, .slice a2 n2 c2, tr, tg, tb, ta, C, R, w2.drew, _⟩ ⟨q0, q1, q2, r0, r1, r2, k0, k1, k2, k3, HOK.out 3 _, fun w h => HMA.out w (Edgs.nw HI1.out (Nw.trans N2d.out h)), fun w h => HMB.out w (Ints.nw HI2.out (Nw.trans N2d.out h)), fun w _ => HMC.out w, fun w u0 u1 u2 _ h0 h1 h2 => HSM.out w u0 u1 u2 h0 h1 h2, HFO.out, rfl, rfl, rfl, rfl⟩ w2 (Below.refl _ _) ?_
      intro γ w3 bx0 r b B0 w0 g1 g2 n3 hb0 hlt0 hf0 hcell hB hR hN hfar
      simp only at g1 g2 n3 hb0 hlt0 hf0 hcell hB hR hN hfar
      obtain ⟨v0, rfl, rfl, hI⟩ := HRB.out _ _ _ _ hR
      obtain ⟨s0, m0, d0, rfl⟩ := hI.slice
      have N3 : Hid (Nw W w3) := Nw.trans N2d.out n3
      have P3 : Hid (MB w3 bx0 ⟨dw, dh⟩ (.slice s0 m0 d0)) := MB.of hcell
      have V3 : Hid (NumQ w3 (.slice s0 m0 d0) L) := (hI.nw hN).1
      have Z3 : Hid (bx0 < w3.heap.size) := hlt0
      clear n3 hb0 hlt0 hf0 hcell hB hR hN hfar hI q0 q1 q2 r0 r1 r2 k0 k1 k2 k3
      simp only [g1, g2, tupAt_0, tupAt_1, Act.put, List.setIfInBounds_toArray, List.set_cons_zero, List.set_cons_succ]
      clear g1 g2
      generalize γ 0 = x0
      generalize γ 1 = x1
      generalize γ 2 = x1'
      clear γ
      obtain ⟨q0, q1, q2⟩ := MB.nw HP.out N3.out
      simp only at q0 q1 q2
      go_wp2_with fail
      refine Calls.mono (HT1.out _ (Edgs.nw HI1.out N3.out)) ?_
      rintro e w4 ⟨g8, rfl, n4, hg8, l4⟩
      have N4 : Hid (Nw w3 w4) := n4
      have L4 : Hid (LayS w4 g8 l1) := l4
      have G8 : Hid (w3.heap.size ≤ g8 ∧ g8 < w4.heap.size) := ⟨hg8, l4.1⟩
      clear n4 l4 hg8 q0 q1 q2
      obtain ⟨W4, hW4⟩ : ∃ W4, w4.alloc (.cells #[.int .i64 pw, .int .i64 ph, .slice (some ⟨g8, 0, none⟩) n1 n1] 57) = W4 := ⟨_, rfl⟩
      have N4a : Hid (Nw w4 W4) := by show Nw w4 W4; rw [← hW4]; exact (Below.refl _ _).alloc (Nat.le_refl _) _
      have P4 : Hid (MB W4 w4.heap.size ⟨pw, ph⟩ (.slice (some ⟨g8, 0, none⟩) n1 n1)) := by show MB _ _ _ _; rw [← hW4]; exact MB.new w4 ⟨pw, ph⟩ _ _
      have S4 : Hid (W4.heap.size = w4.heap.size + 1) := by show _ = _; rw [← hW4]; simp
      have H4 : Hid (_ = W4) := hW4
      clear hW4
      obtain ⟨r0, r1, r2⟩ := MB.nw HQ.out (Nw.trans N3.out (Nw.trans N4.out N4a.out))
      simp only at r0 r1 r2
      rw [← H4.out] at r0 r1 r2
      go_wp2_with fail
      rw [H4.out]
      refine Calls.mono (HT2.out _ (Ints.nw HI2.out (Nw.trans N3.out (Nw.trans N4.out N4a.out)))) ?_
      rintro e w5 ⟨g9, rfl, n5, hg9, l5⟩
      have N5 : Hid (Nw W4 w5) := n5
      have L5 : Hid (LayI w5 g9 l2) := l5
      have G9 : Hid (W4.heap.size ≤ g9 ∧ g9 < w5.heap.size) := ⟨hg9, l5.1⟩
      clear n5 l5 hg9 r0 r1 r2
      obtain ⟨W5, hW5⟩ : ∃ W5, w5.alloc (.cells #[.int .i64 qw, .int .i64 qh, .slice (some ⟨g9, 0, none⟩) n2 n2] 75) = W5 := ⟨_, rfl⟩
      have N5a : Hid (Nw w5 W5) := by show Nw w5 W5; rw [← hW5]; exact (Below.refl _ _).alloc (Nat.le_refl _) _
      have P5 : Hid (MB W5 w5.heap.size ⟨qw, qh⟩ (.slice (some ⟨g9, 0, none⟩) n2 n2)) := by show MB _ _ _ _; rw [← hW5]; exact MB.new w5 ⟨qw, qh⟩ _ _
      have S5 : Hid (W5.heap.size = w5.heap.size + 1) := by show _ = _; rw [← hW5]; simp
      have H5 : Hid (_ = W5) := hW5
      have NX : Hid (Nw W4 W5) := Nw.trans N5.out N5a.out
      clear hW5
      go_wp2
      rw [H5.out]
      have N5d : Hid (Nw W5 W5.drew) := (Below.refl _ _).drew
      have NW5 : Hid (Nw W W5.drew) := Nw.trans N3.out (Nw.trans N4.out (Nw.trans N4a.out (Nw.trans NX.out N5d.out)))
      obtain ⟨q0, q1, q2⟩ := MB.nw P4.out (Nw.trans NX.out N5d.out)
      obtain ⟨r0, r1, r2⟩ := MB.nw P5.out N5d.out
      obtain ⟨k0, k1, k2, k3, _⟩ := QB.nw HTN.out NW5.out
      refine reg_change (ops' := opsOf 11 Try.f12) (by kernel_rfl) ?_
      refine PMG.run ⟨w4.heap.size, w5.heap.size, w.heap.size + 1 + 1, ⟨pw, ph⟩, ⟨qw, qh⟩, .slice (some ⟨g8, 0, none⟩) n1 n1, .slice (some ⟨g9, 0, none⟩) n2 n2, tr, tg, tb, ta, fun _ => C 2, R, W5.drew, _⟩ ⟨q0, q1, q2, r0, r1, r2, k0, k1, k2, k3, ⟨fun _ w w' u h k => (HOK.out 3 W5.drew).cnw 2 w w' u h k, (HOK.out 3 W5.drew).rnw, (HOK.out 3 W5.drew).far, (HOK.out 3 W5.drew).cells⟩, fun w _ => HMC.out w, fun w u0 hn h0 => HG.out w g8 g9 u0 (LayS.nw (LayS.nw L4.out N4a.out) (Nw.trans NX.out (Nw.trans N5d.out hn))) (LayI.nw (LayI.nw L5.out N5a.out) (Nw.trans N5d.out hn)) (HCB.out w u0 h0), HFO.out, rfl, rfl, rfl, rfl⟩ W5 (Below.refl _ _) ?_
      intro γ W6 bx6 r b B6 w60 g1 g2 n6 hb6 hlt6 hf6 hcell hB hR hN hfar
      simp only at g1 g2 n6 hb6 hlt6 hf6 hcell hB hR hN hfar
      obtain ⟨v1, rfl, rfl, hI⟩ := HRB.out _ _ _ _ hR
      obtain ⟨s1, m1, d1, rfl⟩ := hI.slice
      have N56 : Hid (Nw W5 W6) := Nw.trans N5d.out n6
      have P6 : Hid (MB W6 bx6 ⟨dw, dh⟩ (.slice s1 m1 d1)) := MB.of hcell
      have V6 : Hid (NumQ W6 (.slice s1 m1 d1) L) := (hI.nw hN).1
      have O6 : Hid (∀ b, (Value.slice s1 m1 d1).ownBlock = some b → W5.heap.size ≤ b ∧ b ≠ bx6) := fun b e => by
        have h1 := hI.2 b e
        have h2 := NumQ.own hI.1 e
        have h3 : W5.heap.size ≤ B6 := hB
        refine ⟨by omega, ?_⟩
        rcases hfar with h | h
        · omega
        · omega
      have O6x : Hid (W5.heap.size ≤ bx6) := hb6
      clear n6 hb6 hlt6 hf6 hcell hB hR hN hfar hI q0 q1 q2 r0 r1 r2 k0 k1 k2 k3
      simp only [g1, g2, tupAt_0, tupAt_1, Act.put, List.setIfInBounds_toArray, List.set_cons_zero, List.set_cons_succ]
      clear g1 g2
      generalize γ 0 = x6
      clear γ
      have N36 : Hid (Nw w3 W6) := Nw.trans N4.out (Nw.trans N4a.out (Nw.trans NX.out N56.out))
      have N46 : Hid (Nw W4 W6) := Nw.trans NX.out N56.out
      obtain ⟨q0, q1, q2⟩ := P6.out
      obtain ⟨z0, z1, z2⟩ := MB.nw P3.out N36.out
      simp only at q0 q1 q2 z0 z1 z2
      go_wp2_with fail
      refine Calls.mono (HE.out _ _ _ (NumQ.row V6.out) (NumQ.row (NumQ.nw V3.out N36.out))) ?_
      rintro e w7 ⟨rfl, n7⟩
      have N7 : Hid (Nw W6 w7) := n7
      clear n7 q0 q1 q2 z0 z1 z2
      go_wp2
      -- the first argument's copy
      have N7d : Hid (Nw W6 w7.drew) := Below.drew N7.out
      refine reg_change (ops' := opsOf 14 Try.f12) (by kernel_rfl) ?_
      refine PME.run ⟨w4.heap.size, w.heap.size, ⟨pw, ph⟩, .slice (some ⟨g8, 0, none⟩) n1 n1, a1, c1, l1, w7.drew, _⟩ ⟨MB.nw P4.out (Nw.trans N46.out N7d.out), by rw [HN1.out]; exact MB.nw HP.out (Nw.trans N3.out (Nw.trans N36.out N7d.out)), Edgs.nw HI1.out (Nw.trans N3.out (Nw.trans N36.out N7d.out)), by have := LayS.row (c := n1) (LayS.nw (LayS.nw L4.out N4a.out) (Nw.trans N46.out N7d.out)); rw [HN1.out] at this; exact this, by rw [HN1.out]; exact HL1.out, rfl, rfl, rfl⟩ w7 (Below.refl _ _) ?_
      rintro γ w8 ⟨hg2, n8⟩
      have N8 : Hid (Nw W6 w8) := Nw.trans N7.out n8.drw
      clear n8
      simp only [hg2, Act.put, List.setIfInBounds_toArray, List.set_cons_zero, List.set_cons_succ]
      generalize γ 0 = y0
      generalize γ 1 = y1
      clear hg2 γ
      go_wp2
      -- the second one's
      have N8d : Hid (Nw W6 w8.drew) := Below.drew N8.out
      refine reg_change (ops' := opsOf 16 Try.f12) (by kernel_rfl) ?_
      refine PMF.run ⟨w5.heap.size, w.heap.size + 1, ⟨qw, qh⟩, .slice (some ⟨g9, 0, none⟩) n2 n2, a2, c2, l2, w8.drew, _⟩ ⟨MB.nw P5.out (Nw.trans N56.out N8d.out), by rw [HN2.out]; exact MB.nw HQ.out (Nw.trans N3.out (Nw.trans N36.out N8d.out)), Ints.nw HI2.out (Nw.trans N3.out (Nw.trans N36.out N8d.out)), by have := LayI.row (c := n2) (LayI.nw (LayI.nw L5.out N5a.out) (Nw.trans N56.out N8d.out)); rw [HN2.out] at this; exact this, by rw [HN2.out]; exact HL2.out, rfl, rfl, rfl⟩ w8 (Below.refl _ _) ?_
      rintro γ w9 ⟨hg2, n9⟩
      have N9 : Hid (Nw W6 w9) := Nw.trans N8.out n9.drw
      clear n9
      simp only [hg2, Act.put, List.setIfInBounds_toArray, List.set_cons_zero, List.set_cons_succ]
      generalize γ 0 = y2
      generalize γ 1 = y3
      clear hg2 γ
      have N39 : Hid (Nw w3 w9) := Nw.trans N36.out N9.out
      have P49 : Hid (MB w9 w4.heap.size ⟨pw, ph⟩ (.slice (some ⟨g8, 0, none⟩) n1 n1)) := MB.nw P4.out (Nw.trans N46.out N9.out)
      have P59 : Hid (MB w9 w5.heap.size ⟨qw, qh⟩ (.slice (some ⟨g9, 0, none⟩) n2 n2)) := MB.nw P5.out (Nw.trans N56.out N9.out)
      have P69 : Hid (MB w9 bx6 ⟨dw, dh⟩ (.slice s1 m1 d1)) := MB.nw P6.out N9.out
      have V69 : Hid (NumQ w9 (.slice s1 m1 d1) L) := NumQ.nw V6.out N9.out
      have L49 : Hid (LayS w9 g8 l1) := LayS.nw (LayS.nw L4.out N4a.out) (Nw.trans N46.out N9.out)
      have L59 : Hid (LayI w9 g9 l2) := LayI.nw (LayI.nw L5.out N5a.out) (Nw.trans N56.out N9.out)
      have s45 : Hid (g8 < w4.heap.size ∧ w4.heap.size < g9 ∧ g9 < w5.heap.size ∧ w5.heap.size < W5.heap.size ∧ W5.heap.size ≤ bx6 ∧ w3.heap.size ≤ g8) := by
        have h1 := G8.out
        have h2 := G9.out
        have h3 := S4.out
        have h4 := S5.out
        exact ⟨h1.2, by omega, h2.2, by omega, O6x.out, h1.1⟩
      obtain ⟨q0, q1, q2⟩ := P49.out
      simp only at q0 q1 q2
      have nv1 : NumQ w9 (.slice (some ⟨g8, 0, none⟩) n1 n1) l1 := by have := LayS.num L49.out; rw [HN1.out] at this; exact this
      have NV1 : Hid _ := nv1
      clear nv1
      go_wp2_with fail
      refine Calls.mono (HM1.out _ _ NV1.out) ?_
      rintro e w10 ⟨rfl, k10, _⟩
      have K10 : Hid (w9.grownBy w10 (some g8)) := k10
      clear k10 q0 q1 q2
      have P5a : Hid (MB w10 w5.heap.size ⟨qw, qh⟩ (.slice (some ⟨g9, 0, none⟩) n2 n2)) := MB.grown P59.out K10.out (fun e => by have := s45.out; injection e; omega)
      have L5a : Hid (LayI w10 g9 l2) := LayI.grown L59.out K10.out (fun e => by have := s45.out; injection e; omega)
      obtain ⟨q0, q1, q2⟩ := P5a.out
      simp only at q0 q1 q2
      have nv2 : NumV w10 (.slice (some ⟨g9, 0, none⟩) n2 n2) l2 := by have := LayI.num L5a.out; rw [HN2.out] at this; exact this
      have NV2 : Hid _ := nv2
      clear nv2
      go_wp2_with fail
      refine Calls.mono (HM2.out _ _ NV2.out) ?_
      rintro e w11 ⟨rfl, k11, _⟩
      have K11 : Hid (w10.grownBy w11 (some g9)) := k11
      clear k11 q0 q1 q2
      have N311 : Hid (Nw w3 w11) := by
        have h := s45.out
        have h0 := Below.size N39.out
        refine gr_below (gr_below N39.out K10.out (fun g e => ?_) h0) K11.out (fun g e => ?_) (Nat.le_trans h0 K10.out.size)
        · injection e; omega
        · injection e; omega
      have O6b : Hid (∀ b, (Value.slice s1 m1 d1).ownBlock = some b → b ≠ g8 ∧ b ≠ g9 ∧ b ≠ bx6 ∧ w3.heap.size ≤ b) := fun b e => by
        have h1 := O6.out b e
        have := s45.out
        exact ⟨by omega, by omega, h1.2, by omega⟩
      have P6b : Hid (MB w11 bx6 ⟨dw, dh⟩ (.slice s1 m1 d1)) := MB.grown (MB.grown P69.out K10.out (fun e => by have := s45.out; injection e; omega)) K11.out (fun e => by have := s45.out; injection e; omega)
      have V6b : Hid (NumQ w11 (.slice s1 m1 d1) L) := NumQ.grown (NumQ.grown V69.out K10.out (fun b e e2 => by have := O6b.out b e; injection e2; omega)) K11.out (fun b e e2 => by have := O6b.out b e; injection e2; omega)
      obtain ⟨q0, q1, q2⟩ := P6b.out
      obtain ⟨z0, z1, z2⟩ := MB.nw P3.out N311.out
      simp only at q0 q1 q2 z0 z1 z2
      go_wp2_with fail
      refine Calls.mono (HE.out _ _ _ (NumQ.row V6b.out) (NumQ.row (NumQ.nw V3.out N311.out))) ?_
      rintro e w12 ⟨rfl, n12⟩
      have N12 : Hid (Nw w11 w12) := n12
      clear n12 q0 q1 q2 z0 z1 z2
      obtain ⟨q0, q1, q2⟩ := MB.nw P6b.out N12.out
      simp only at q0 q1 q2
      go_wp2_with fail
      refine Calls.mono (HMG.out _ _ (NumQ.nw V6b.out N12.out)) ?_
      rintro e w13 ⟨rfl, k13, v13⟩
      have K13 : Hid (w12.grownBy w13 (Value.slice s1 m1 d1).ownBlock) := k13
      have V13 : Hid (NumQ w13 (.slice s1 m1 d1) (mkQ 1 L.length)) := v13
      clear k13 v13 q0 q1 q2
      have P13 : Hid (MB w13 bx6 ⟨dw, dh⟩ (.slice s1 m1 d1)) := MB.grown (MB.nw P6b.out N12.out) K13.out (fun e => by have := (O6b.out _ e.symm).2.2.1; omega)
      have N313 : Hid (Nw w3 w13) := gr_below (Nw.trans N311.out N12.out) K13.out (fun g e => (O6b.out g e).2.2.2) (Nat.le_trans (Below.size N311.out) (Below.size N12.out))
      obtain ⟨q0, q1, q2⟩ := P13.out
      simp only at q0 q1 q2
      go_wp2_with fail
      refine Calls.mono (HHG.out _ _ V13.out) ?_
      rintro e w14 ⟨rfl, n14⟩
      have N14 : Hid (Nw w13 w14) := n14
      clear n14 q0 q1 q2
      go_wp2
      -- once more
      have N14d : Hid (Nw w13 w14.drew) := Below.drew N14.out
      have NWd : Hid (Nw W w14.drew) := Nw.trans N3.out (Nw.trans N313.out N14d.out)
      obtain ⟨q0, q1, q2⟩ := MB.nw HP.out NWd.out
      obtain ⟨r0, r1, r2⟩ := MB.nw HQ.out NWd.out
      obtain ⟨k0, k1, k2, k3, _⟩ := QB.nw HTN.out NWd.out
      refine reg_change (ops' := opsOf 31 Try.f12) (by kernel_rfl) ?_
      refine PMZ.run ⟨w.heap.size, w.heap.size + 1, w.heap.size + 1 + 1, ⟨pw, ph⟩, ⟨qw, qh⟩, .slice a1 n1 c1, .slice a2 n2 c2, tr, tg, tb, ta, C, R, w14.drew, _⟩ ⟨q0, q1, q2, r0, r1, r2, k0, k1, k2, k3, HOK.out 3 _, fun w h => HMA.out w (Edgs.nw HI1.out (Nw.trans NWd.out h)), fun w h => HMB.out w (Ints.nw HI2.out (Nw.trans NWd.out h)), fun w _ => HMC.out w, fun w u0 u1 u2 _ h0 h1 h2 => HIM.out w u0 u1 u2 h0 h1 h2, HFO.out, rfl, rfl, rfl, rfl⟩ w14 (Below.refl _ _) ?_
      intro γ w15 bx3 r b B3 w0' g1 g2 n15 hb0 hlt0 hf0 hcell hB hR hN hfar
      simp only at g1 g2 n15 hb0 hlt0 hf0 hcell hB hR hN hfar
      obtain ⟨v3, rfl, rfl, hI⟩ := HRB.out _ _ _ _ hR
      obtain ⟨s3, m3, d3, rfl⟩ := hI.slice
      have N15 : Hid (Nw w13 w15) := Nw.trans N14d.out n15
      have P15 : Hid (MB w15 bx3 ⟨dw, dh⟩ (.slice s3 m3 d3)) := MB.of hcell
      have V15 : Hid (NumQ w15 (.slice s3 m3 d3) L) := (hI.nw hN).1
      clear n15 hb0 hlt0 hf0 hcell hB hR hN hfar hI q0 q1 q2 r0 r1 r2 k0 k1 k2 k3
      simp only [g1, g2, tupAt_0, tupAt_1, Act.put, List.setIfInBounds_toArray, List.set_cons_zero, List.set_cons_succ]
      clear g1 g2
      generalize γ 0 = x2
      generalize γ 1 = x3
      generalize γ 2 = x3'
      clear γ
      obtain ⟨q0, q1, q2⟩ := P15.out
      obtain ⟨z0, z1, z2⟩ := MB.nw P3.out (Nw.trans N313.out N15.out)
      simp only at q0 q1 q2 z0 z1 z2
      go_wp2_with fail
      refine Calls.mono (HE.out _ _ _ (NumQ.row V15.out) (NumQ.row (NumQ.nw V3.out (Nw.trans N313.out N15.out)))) ?_
      rintro e w16 ⟨rfl, n16⟩
      have N16 : Hid (Nw w13 w16) := Nw.trans N15.out n16
      clear n16 q0 q1 q2 z0 z1 z2
      obtain ⟨q0, q1, q2⟩ := MB.nw P13.out N16.out
      simp only at q0 q1 q2
      go_wp2_with fail
      refine Calls.mono (HHG.out _ _ (NumQ.nw V13.out N16.out)) ?_
      rintro e w17 ⟨rfl, n17⟩
      have N17 : Hid (Nw w w17) := Nw.trans NW.out (Nw.trans N3.out (Nw.trans N313.out (Nw.trans N16.out n17)))
      clear n17 q0 q1 q2
      go_wp2
      go_ret
      exact ⟨rfl, N17.out⟩
    · have hl1 : (0 : Int) ≤ 1048576 - l1.length := by omega
      replace HZ2 : Hid _ := fun w => HZ2.out w (1048576 - l1.length) (by omega) (by omega)
      rw [if_neg h2] at HZ2
      have hd1 : decide (1048576 - (l1.length : Int) < 0) = false := decide_eq_false (by omega)
      clear h1 h2 hm1 hm2 hl1
      generalize l1.length = n1 at *
      generalize l2.length = n2 at *
      go_enter Try.func12, Try.ntmps12
      go_wp2_with fail
      rw [HW.out]
      refine Calls.mono (HZ1.out _) ?_
      rintro e w1 ⟨rfl, k1⟩
      have N1 : Hid (Nw W w1) := k1
      clear k1
      obtain ⟨r0, r1, r2⟩ := MB.nw HQ.out N1.out
      simp only at r0 r1 r2
      go_wp2_with fail
      refine Calls.mono (HZ2.out _) ?_
      rintro e w2 ⟨rfl, k2⟩
      have N2 : Hid (Nw w w2) := Nw.trans NW.out (Nw.trans N1.out k2)
      clear k2 r0 r1 r2
      go_wp2
      go_ret
      exact ⟨rfl, N2.out⟩
  · rw [if_neg h1] at HZ1
    clear h1 hm1 hm2 HZ2
    generalize l1.length = n1 at *
    generalize l2.length = n2 at *
    go_enter Try.func12, Try.ntmps12
    go_wp2_with fail
    rw [HW.out]
    refine Calls.mono (HZ1.out _) ?_
    rintro e w1 ⟨rfl, k1⟩
    have N1 : Hid (Nw w w1) := Nw.trans NW.out k1
    clear k1
    go_wp2
    go_ret
    exact ⟨rfl, N1.out⟩
end Go.Proofs.Ythlohbiocfeapaa
