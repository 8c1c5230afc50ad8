/-
  Dashes: each has more than one point, and how many there are
-/
import Derived.Test.YtnkeljmecbohkaaGreatJAN
import Derived.Test.YtnkeljmecbohkaaGreatJAD
import Derived.Test.YtnkeljmecbohkaaGreatJAC
import Derived.Test.YtnkeljmecbohkaaGreatJAL
import Derived.Test.YtnkeljmecbohkaaGreatJAA
import Derived.Test.YtnkeljmecbohkaaGreatJAB
import Derived.Test.YtnkeljmecbohkaaGreatJAM
namespace Go.Proofs.YtnkeljmecbohkaaGreat
open Go.ChangeShapes Go.WideShapes Go.ChangeAt Go.RowKit
set_option linter.unusedVariables false
def thick (o : List LD) : Prop := ∀ x, x ∈ o → 1 < x.pts.length
theorem thick_len : ∀ {o : List LD}, thick o → o.length ≤ manyL o
 | [], _ => Nat.le_refl _
 | x :: o, h => by
  have h1 := h x (List.mem_cons_self ..)
  have h2 := thick_len (o := o) (fun y hy => h y (List.mem_cons_of_mem _ hy))
  have e : manyL (x :: o) = x.pts.length + manyL o := by simp [manyL]
  rw [e, List.length_cons]
  omega
theorem thick_end {o : List LD} (h : thick o) (p : List Pnt) (c : Bool) : thick (endL o p c) := by
 unfold endL
 split
 ·rename_i hp
  intro x hx
  rcases List.mem_append.1 hx with h1 | h1
  ·exact h x h1
  ·rw [List.mem_singleton.1 h1]; exact hp
 ·exact h
theorem thick_turn {ns : List Int} {d : Dg} (q : Pnt) (h : thick d.o) : thick (turnD ns d q).o := by
 rw [turn_eq]; exact thick_end h _ _
theorem thick_walk (ns : List Int) (a b : Pnt) (n : Int) : ∀ (f : Nat) (d : Dg) (g : Int), thick d.o → thick (walkD ns a b n f d g).o
 | 0, d, g, h => h
 | f + 1, d, g, h => by
  rw [walkD]
  split
  ·split
   ·exact thick_turn _ h
   ·exact thick_walk ns a b n f _ _ (thick_turn _ h)
  ·rw [(rD_bd _ _).2.1]; exact h
theorem thick_along {ns : List Int} {d : Dg} (a b : Pnt) (h : thick d.o) : thick (alongD ns d a b).o := by
 unfold alongD
 split
 ·exact h
 ·exact thick_walk ns a b _ _ _ _ h
theorem thick_segs {ns : List Int} {d : Dg} (p : List Pnt) (h : thick d.o) : ∀ k, thick (segsD ns d p k).o
 | 0 => h
 | k + 1 => thick_along _ _ (thick_segs p h k)
theorem thick_dash (ns : List Int) (f : Int) (p : List Pnt) (cl : Bool) : thick (dash1 ns f p cl).o := by
 have h0 : thick (dash0 ns f p).o := thick_segs p (by rw [(rD_bd _ _).2.1]; intro x hx; cases hx) _
 unfold dash1
 refine thick_end ?_ _ _
 split
 ·exact thick_along _ _ h0
 ·exact h0
theorem dsV_bd (ns : List Int) (f : Int) (p : List Pnt) (cl : Bool) : (dsV ns f p cl).1.length ≤ 1048576 ∧ manyL (dsV ns f p cl).1 ≤ 600 := by
 unfold dsV
 by_cases hin : dsIn ns f p = true
 ·rw [if_pos hin]
  by_cases hs : sumN ns ns.length = 0
  ·rw [if_pos hs]
   unfold dsIn at hin
   simp only [Bool.and_eq_true, decide_eq_true_eq] at hin
   exact ⟨by simp, by simp [manyL]; omega⟩
  ·rw [if_neg hs]
   by_cases hb : 2400 < (dash1 ns f p cl).begun ∨ 600 < manyL (dash1 ns f p cl).o
   ·rw [if_pos hb]; exact ⟨by simp, by simp [manyL]⟩
   ·rw [if_neg hb]
    simp only [not_or, Nat.not_lt] at hb
    have := thick_len (thick_dash ns f p cl)
    exact ⟨by show (dash1 ns f p cl).o.length ≤ _; omega, hb.2⟩
 ·rw [if_neg hin]; exact ⟨by simp, by simp [manyL]⟩
theorem lenD_some {l : List LD} (h : manyL l ≤ 600) : lenL l := fun i hi => Nat.le_trans (manyL_at l i hi) (by omega)
def bxP (x0 x1 y0 y1 : Int) (q : Pnt) : Prop := (x0 ≤ q.1 ∧ q.1 ≤ x1) ∧ (y0 ≤ q.2 ∧ q.2 ≤ y1)
theorem place1 {a b k n l h : Int} (hn : 0 < n) (h0 : 0 ≤ k) (h1 : k ≤ n) (a0 : l ≤ a) (a1 : a ≤ h) (b0 : l ≤ b) (b1 : b ≤ h) : l ≤ a + (b - a) * k / n ∧ a + (b - a) * k / n ≤ h := by
 rcases Int.le_total 0 (b - a) with hd | hd
 ·have e1 : 0 ≤ (b - a) * k := Int.mul_nonneg hd h0
  have e2 : (b - a) * k ≤ (b - a) * n := Int.mul_le_mul_of_nonneg_left h1 hd
  have q1 : 0 ≤ (b - a) * k / n := Int.ediv_nonneg e1 (by omega)
  have q2 : (b - a) * k / n ≤ (b - a) * n / n := Int.ediv_le_ediv hn e2
  rw [Int.mul_ediv_cancel _ (by omega)] at q2
  omega
 ·have e1 : (b - a) * k ≤ 0 := Int.mul_nonpos_of_nonpos_of_nonneg hd h0
  have e2 : (b - a) * n ≤ (b - a) * k := by
   have := Int.mul_le_mul_of_nonneg_left h1 (show 0 ≤ a - b by omega)
   have e3 : (a - b) * k = -((b - a) * k) := by rw [← Int.neg_mul]; congr 1; omega
   have e4 : (a - b) * n = -((b - a) * n) := by rw [← Int.neg_mul]; congr 1; omega
   omega
  have q1 : (b - a) * k / n ≤ 0 / n := Int.ediv_le_ediv hn e1
  rw [Int.zero_ediv] at q1
  have q2 : (b - a) * n / n ≤ (b - a) * k / n := Int.ediv_le_ediv hn e2
  rw [Int.mul_ediv_cancel _ (by omega)] at q2
  omega
theorem place_bx {x0 x1 y0 y1 : Int} {a b : Pnt} {k n : Int} (hn : 0 < n) (h0 : 0 ≤ k) (h1 : k ≤ n) (ha : bxP x0 x1 y0 y1 a) (hb : bxP x0 x1 y0 y1 b) : bxP x0 x1 y0 y1 (placeV a b k n) :=
 ⟨place1 hn h0 h1 ha.1.1 ha.1.2 hb.1.1 hb.1.2, place1 hn h0 h1 ha.2.1 ha.2.2 hb.2.1 hb.2.2⟩
structure AllD (P : Pnt → Prop) (d : Dg) : Prop where
 p : ∀ x, x ∈ d.p → P x
 o : ∀ l, l ∈ d.o → ∀ x, x ∈ l.pts → P x
 left : 0 ≤ d.left
theorem AllD.reach {P : Pnt → Prop} {d : Dg} (h : AllD P d) {q : Pnt} (hq : P q) : AllD P (reachD d q) := by
 unfold reachD
 split
 ·exact h
 ·refine ⟨fun x hx => ?_, h.o, h.left⟩
  rcases List.mem_append.1 hx with h1 | h1
  ·exact h.p x h1
  ·rw [List.mem_singleton.1 h1]; exact hq
theorem AllD.lay {P : Pnt → Prop} {d : Dg} (h : AllD P d) : AllD P (layD d) := by
 refine ⟨fun x hx => (by cases hx), fun l hl x hx => ?_, h.left⟩
 have hl' : l ∈ endL d.o d.p false := hl
 unfold endL at hl'
 split at hl'
 ·rcases List.mem_append.1 hl' with h1 | h1
  ·exact h.o l h1 x hx
  ·rw [List.mem_singleton.1 h1] at hx; exact h.p x hx
 ·exact h.o l hl' x hx
theorem AllD.turn {P : Pnt → Prop} {ns : List Int} {d : Dg} (h : AllD P d) (hN : ∀ j, 0 ≤ intAt ns (j % ns.length)) {q : Pnt} (hq : P q) : AllD P (turnD ns d q) := by
 have h1 := (h.reach hq).lay
 unfold turnD
 refine AllD.reach (d := moreD (nextD ns (layD (reachD d q)))) ⟨h1.p, h1.o, ?_⟩ hq
 exact hN _
theorem AllD.walk {x0 x1 y0 y1 : Int} {ns : List Int} (hN : ∀ j, 0 ≤ intAt ns (j % ns.length)) {a b : Pnt} {n : Int} (hn : 0 < n) (ha : bxP x0 x1 y0 y1 a) (hb : bxP x0 x1 y0 y1 b) :
  ∀ (f : Nat) (d : Dg) (g : Int), AllD (bxP x0 x1 y0 y1) d → 0 ≤ g → g ≤ n → AllD (bxP x0 x1 y0 y1) (walkD ns a b n f d g)
 | 0, d, g, h, _, _ => h
 | f + 1, d, g, h, h0, h1 => by
  have hl := h.left
  rw [walkD]
  split
  ·rename_i hc
   have hq := place_bx (k := g + d.left) hn (by omega) (by omega) ha hb
   split
   ·exact h.turn hN hq
   ·exact AllD.walk hN hn ha hb f _ _ (h.turn hN hq) (by omega) (by omega)
  ·rename_i hc
   exact AllD.reach (d := ⟨d.at', d.left - (n - g), d.begun, d.p, d.o⟩) ⟨h.p, h.o, by show 0 ≤ d.left - (n - g); omega⟩ hb
theorem AllD.along {x0 x1 y0 y1 : Int} {ns : List Int} (hN : ∀ j, 0 ≤ intAt ns (j % ns.length)) {a b : Pnt} (hz : 0 ≤ szV a b) (ha : bxP x0 x1 y0 y1 a) (hb : bxP x0 x1 y0 y1 b) {d : Dg} (h : AllD (bxP x0 x1 y0 y1) d) : AllD (bxP x0 x1 y0 y1) (alongD ns d a b) := by
 unfold alongD
 split
 ·exact h
 ·exact AllD.walk hN (by omega) ha hb _ _ _ h (Int.le_refl _) hz
theorem AllD.segs {x0 x1 y0 y1 : Int} {ns : List Int} (hN : ∀ j, 0 ≤ intAt ns (j % ns.length)) (hz : ∀ a b, 0 ≤ szV a b) {p : List Pnt} (hp : ∀ i, i < p.length → bxP x0 x1 y0 y1 (ptAt p i)) {d : Dg} (h : AllD (bxP x0 x1 y0 y1) d) : ∀ k, k < p.length → AllD (bxP x0 x1 y0 y1) (segsD ns d p k)
 | 0, _ => h
 | k + 1, hk => AllD.along hN (hz _ _) (hp k (by omega)) (hp (k + 1) hk) (AllD.segs hN hz hp h k (by omega))
theorem dsV_bx {x0 x1 y0 y1 : Int} (hz : ∀ a b, 0 ≤ szV a b) (ns : List Int) (f : Int) (p : List Pnt) (cl : Bool) (hp : ∀ i, i < p.length → bxP x0 x1 y0 y1 (ptAt p i)) : ∀ l, l ∈ (dsV ns f p cl).1 → ∀ x, x ∈ l.pts → bxP x0 x1 y0 y1 x := by
 unfold dsV
 by_cases hin : dsIn ns f p = true
 ·rw [if_pos hin]
  by_cases hs : sumN ns ns.length = 0
  ·rw [if_pos hs]
   intro l hl x hx
   rw [List.mem_singleton.1 hl] at hx
   obtain ⟨i, hi, rfl⟩ := List.getElem_of_mem hx
   have := hp i hi
   unfold ptAt at this
   rw [show p.getD i (0, 0) = p[i]'hi by simp [hi]] at this
   exact this
  ·rw [if_neg hs]
   have hin' := hin
   unfold dsIn at hin'
   simp only [Bool.and_eq_true, decide_eq_true_eq] at hin'
   obtain ⟨⟨l1, l2⟩, _, hd⟩ := hin'
   obtain ⟨z1, z2, z3⟩ := dsh_NB hd
   have hn0 : 0 < ns.length := sum_some hs
   have hNB : NB ns := ⟨hn0, z3⟩
   have hN : ∀ j, 0 ≤ intAt ns (j % ns.length) := fun j => (z3 _ (Nat.mod_lt _ hn0)).1
   have hrp : 0 < rndN ns := by
    have := (sumN_bd z3 ns.length (Nat.le_refl _)).1
    unfold rndN
    split <;> omega
   have f0 := Int.emod_nonneg f (show rndN ns ≠ 0 by omega)
   have f1 := Int.emod_lt_of_pos f hrp
   have hs0 : AllD (bxP x0 x1 y0 y1) (startD ns (f % rndN ns)) := by
    refine ⟨fun x hx => (by cases hx), fun l hl => (by cases hl), ?_⟩
    have hrl : rndL ns ≤ 16 := by unfold rndL; split <;> omega
    have h17 : f % rndN ns < sumR ns (0 + 17) := by
     have := sumR_mono hNB (rndL ns) (17 - rndL ns)
     rw [show rndL ns + (17 - rndL ns) = 0 + 17 by omega, rnd_is] at this
     omega
    have := (skK_is hNB (f % rndN ns) 17 0 (by simpa [sumR] using f0) h17).2
    show 0 ≤ sumR ns (skK ns (f % rndN ns) 17 0 + 1) - f % rndN ns
    omega
   have h0 : AllD (bxP x0 x1 y0 y1) (dash0 ns f p) := AllD.segs hN hz hp (hs0.reach (hp 0 (by omega))) _ (by omega)
   have h1 : AllD (bxP x0 x1 y0 y1) (dash1 ns f p cl) := by
    unfold dash1
    refine AllD.lay ?_
    split
    ·exact AllD.along hN (hz _ _) (hp _ (by omega)) (hp 0 (by omega)) h0
    ·exact h0
   by_cases hb : 2400 < (dash1 ns f p cl).begun ∨ 600 < manyL (dash1 ns f p cl).o
   ·rw [if_pos hb]
    intro l hl; cases hl
   ·rw [if_neg hb]
    exact h1.o
 ·rw [if_neg hin]
  intro l hl; cases hl
structure PD where
 w : Int
 j : Int
 c : Int
 f : Int
abbrev penV (p : PD) (v : Value) : Value := .agg #[.int .i64 p.w, .int .i64 p.j, .int .i64 p.c, v, .int .i64 p.f]
def penB (p : PD) (l : List Int) : Bool := decide (0 ≤ p.w ∧ p.w ≤ 4194304) && (decide (1 ≤ p.j ∧ p.j ≤ 3) && (decide (1 ≤ p.c ∧ p.c ≤ 3) && dshB l p.f))
set_option maxRecDepth 100000 in
set_option maxHeartbeats 4000000 in
theorem sgoodPen (w : World) (p : PD) (a : Option Addr) (c : Nat) (l : List Int) (hl : l.length ≤ 1048576) (hr : Ints w a l) :
  Calls Tryz.prog 45 #[penV p (.slice a l.length c)] w fun e w' => e = .returned (.bool (penB p l)) ∧ Kp w w' := by
 obtain ⟨pw, pj, pc, pf⟩ := p
 unfold penV penB dshB
 simp only
 have k1 : ∀ o t, Kp w (w.alloc (.cells o t)) := fun o t => (Kp.refl w).alloc _ _
 have HR : Hid (∀ o t, Ints (w.alloc (.cells o t)) a l) := fun o t => hr.nw (k1 o t).nw
 have H1 : Hid _ := fun w => in_any w pw 0 4194304
 have H2 : Hid _ := fun w => in_any w pj 1 3
 have H3 : Hid _ := fun w => in_any w pc 1 3
 have H4 : Hid (∀ w, Calls Tryz.prog 36 #[.int .i64 pf, .int .i64 0, .int .i64 67108864] w fun e w' => e = .returned (.bool (dnB pf)) ∧ w' = w) := fun w => in_any w pf 0 67108864
 clear hr
 generalize decide (0 ≤ pw ∧ pw ≤ 4194304) = b1 at *
 generalize decide (1 ≤ pj ∧ pj ≤ 3) = b2 at *
 generalize decide (1 ≤ pc ∧ pc ≤ 3) = b3 at *
 generalize dnB pf = b4 at *
 cases b1 with
 | false =>
  go_enter Tryz.func45, Tryz.ntmps45
  go_wp2_with fail
  refine Calls.mono (H1.out _) ?_
  rintro e w9 ⟨rfl, rfl⟩
  go_wp2
  go_ret
  exact ⟨rfl, k1 _ _⟩
 | true =>
  rw [Bool.true_and]
  cases b2 with
  | false =>
   go_enter Tryz.func45, Tryz.ntmps45
   go_wp2_with fail
   refine Calls.mono (H1.out _) ?_
   rintro e w9 ⟨rfl, rfl⟩
   go_wp2_with fail
   refine Calls.mono (H2.out _) ?_
   rintro e w9 ⟨rfl, rfl⟩
   go_wp2
   go_ret
   exact ⟨rfl, k1 _ _⟩
  | true =>
   rw [Bool.true_and]
   cases b3 with
   | false =>
    go_enter Tryz.func45, Tryz.ntmps45
    go_wp2_with fail
    refine Calls.mono (H1.out _) ?_
    rintro e w9 ⟨rfl, rfl⟩
    go_wp2_with fail
    refine Calls.mono (H2.out _) ?_
    rintro e w9 ⟨rfl, rfl⟩
    go_wp2_with fail
    refine Calls.mono (H3.out _) ?_
    rintro e w9 ⟨rfl, rfl⟩
    go_wp2
    go_ret
    exact ⟨rfl, k1 _ _⟩
   | true =>
    rw [Bool.true_and]
    by_cases h8 : l.length ≤ 8
    ·have hd : decide ((8 : Int) < l.length) = false := decide_eq_false (by omega)
     rw [decide_eq_true h8, Bool.true_and]
     cases b4 with
     | false =>
      go_enter Tryz.func45, Tryz.ntmps45
      go_wp2_with fail
      refine Calls.mono (H1.out _) ?_
      rintro e w9 ⟨rfl, rfl⟩
      go_wp2_with fail
      refine Calls.mono (H2.out _) ?_
      rintro e w9 ⟨rfl, rfl⟩
      go_wp2_with fail
      refine Calls.mono (H3.out _) ?_
      rintro e w9 ⟨rfl, rfl⟩
      go_wp2_with fail
      refine Calls.mono (H4.out _) ?_
      rintro e w9 ⟨rfl, rfl⟩
      go_wp2
      go_ret
      exact ⟨rfl, k1 _ _⟩
     | true =>
      rw [Bool.true_and]
      obtain ⟨V, hV⟩ : ∃ V, l.all dnB = V := ⟨_, rfl⟩
      rw [hV]
      have HX : Hid (l.all dnB = V) := hV
      clear hV
      go_enter Tryz.func45, Tryz.ntmps45
      go_wp2_with fail
      refine Calls.mono (H1.out _) ?_
      rintro e w9 ⟨rfl, rfl⟩
      go_wp2_with fail
      refine Calls.mono (H2.out _) ?_
      rintro e w9 ⟨rfl, rfl⟩
      go_wp2_with fail
      refine Calls.mono (H3.out _) ?_
      rintro e w9 ⟨rfl, rfl⟩
      go_wp2_with fail
      refine Calls.mono (H4.out _) ?_
      rintro e w9 ⟨rfl, rfl⟩
      go_wp2
      go_loop [36] (fun i => ∃ k : Nat, k ≤ l.length ∧ i = .int .i64 k ∧ ∀ j, j < k → dnB (intAt l j) = true) (fun i => l.length - (intOf i).toNat)
      case atStart => exact ⟨0, Nat.zero_le _, rfl, fun j hj => absurd hj (by omega)⟩
      case round =>
       obtain ⟨k, hk, rfl, ha⟩ := hrel
       have HA : Hid _ := ha
       clear ha
       by_cases hlt : k < l.length
       ·obtain ⟨b, off, rfl, q⟩ := Ints.at (HR.out #[.int .i64 pw, .int .i64 pj, .int .i64 pc, .slice a l.length c, .int .i64 pf] 36) hlt
        obtain ⟨x, hx⟩ : ∃ x, intAt l k = x := ⟨_, rfl⟩
        have HXX : Hid (intAt l k = x) := hx
        rw [hx] at q
        clear hx
        have HC : Hid (∀ w, Calls Tryz.prog 36 #[.int .i64 x, .int .i64 0, .int .i64 67108864] w fun e w' => e = .returned (.bool (dnB x)) ∧ w' = w) := fun w => in_any w x 0 67108864
        cases hdn : dnB x with
        | false =>
         have HY : Hid (V = false) := HX.out.symm.trans (all_false dnB 0 l k hlt (show dnB (intAt l k) = false by rw [HXX.out]; exact hdn))
         rw [hdn] at HC
         clear hdn
         go_wp2_with fail
         refine (HC.out _).mono ?_
         rintro e w2 ⟨rfl, rfl⟩
         go_wp2
         go_ret
         exact ⟨ret_bool HY.out.symm, k1 _ _⟩
        | true =>
         have HY : Hid (dnB (intAt l k) = true) := by show _ = _; rw [HXX.out]; exact hdn
         rw [hdn] at HC
         clear hdn
         go_wp2_with fail
         refine (HC.out _).mono ?_
         rintro e w2 ⟨rfl, rfl⟩
         go_wp2
         go_round
         case rel =>
          refine ⟨k + 1, by omega, by go_num, fun j hj => ?_⟩
          rcases Nat.lt_succ_iff_lt_or_eq.1 hj with h | h
          ·exact HA.out j h
          ·rw [h]; exact HY.out
         case measure => simp [intOf]; omega
       ·have HY : Hid (V = true) := HX.out.symm.trans (all_true dnB 0 l (fun j hj => HA.out j (by omega)))
        clear HA
        go_wp2
        go_ret
        exact ⟨ret_bool HY.out.symm, k1 _ _⟩
    ·have hd : decide ((8 : Int) < l.length) = true := decide_eq_true (by omega)
     rw [decide_eq_false h8, Bool.false_and]
     go_enter Tryz.func45, Tryz.ntmps45
     go_wp2_with fail
     refine Calls.mono (H1.out _) ?_
     rintro e w9 ⟨rfl, rfl⟩
     go_wp2_with fail
     refine Calls.mono (H2.out _) ?_
     rintro e w9 ⟨rfl, rfl⟩
     go_wp2_with fail
     refine Calls.mono (H3.out _) ?_
     rintro e w9 ⟨rfl, rfl⟩
     go_wp2
     go_ret
     exact ⟨rfl, k1 _ _⟩
def nearL (l : List LD) : Bool := l.all fun x => nearsB x.pts
theorem nearL_false {l : List LD} {k : Nat} (hk : k < l.length) (h : nearsB (lnAt l k).pts = false) : nearL l = false := all_false _ noLD l k hk h
theorem nearL_true {l : List LD} (h : ∀ k, k < l.length → nearsB (lnAt l k).pts = true) : nearL l = true := all_true _ noLD l h
theorem nearL_at {l : List LD} (h : nearL l = true) (k : Nat) (hk : k < l.length) : nearsB (lnAt l k).pts = true := by
 unfold nearL at h
 rw [List.all_eq_true] at h
 unfold lnAt
 rw [show l.getD k noLD = l[k] by simp [hk]]
 exact h _ (List.getElem_mem hk)
set_option maxHeartbeats 1000000 in
theorem inearL (w : World) (a : Option Addr) (c : Nat) (l : List LD) (hl : l.length ≤ 1048576) (hm : manyL l ≤ 1048576) (hr : Lines w a l) :
  Calls Tryz.prog 42 #[.slice a l.length c] w fun e w' => e = .returned (.bool (nearL l)) ∧ Kp w w' := by
 obtain ⟨V, hV⟩ : ∃ V, nearL l = V := ⟨_, rfl⟩
 have HV : Hid (nearL l = V) := hV
 rw [hV]
 have HR : Hid (Lines w a l) := hr
 clear hr hV
 go_enter Tryz.func42, Tryz.ntmps42
 go_wp2
 go_loopw [7] (fun i wr => ∃ k : Nat, k ≤ l.length ∧ i = .int .i64 k ∧ (∀ m, m < k → nearsB (lnAt l m).pts = true) ∧ Kp w wr) (fun i _ => l.length - (intOf i).toNat)
 case atStart => exact ⟨0, Nat.zero_le _, rfl, fun m hm => absurd hm (by omega), Kp.refl _⟩
 case round =>
  obtain ⟨k, hk, rfl, ha, hw⟩ := hrel
  have HW : Hid (Kp w wr) := hw
  have HA : Hid _ := ha
  clear hw ha
  by_cases hlt : k < l.length
  ·rcases (HR.out.nw HW.out.nw) with h | ⟨b, off, rfl, hb, hc⟩
   ·rw [h] at hlt; simp at hlt
   obtain ⟨⟨pa, pc, q0, qp⟩, q1⟩ := hc k hlt
   clear hc
   have hn := manyL_at l k hlt
   have HC : Hid (∀ o, _) := fun o => inear (wr.alloc o) pa pc (lnAt l k).pts (by omega) (qp.nw ((Below.refl _ _).alloc (Nat.le_refl _) _))
   cases hf : nearsB (lnAt l k).pts with
   | false =>
    have HF : Hid (V = false) := HV.out.symm.trans (nearL_false hlt hf)
    rw [hf] at HC
    clear hf qp
    generalize (lnAt l k).closed = cl at *
    generalize (lnAt l k).pts.length = n at *
    go_wp2_with fail
    refine Calls.mono (HC.out _) ?_
    rintro e w1 ⟨rfl, k1⟩
    have K1 : Hid (Kp w w1) := Kp.trans (Kp.alloc HW.out _ _) k1
    clear k1
    go_wp2
    go_ret
    exact ⟨ret_bool HF.out.symm, K1.out⟩
   | true =>
    have HF : Hid (nearsB (lnAt l k).pts = true) := hf
    rw [hf] at HC
    clear hf qp
    generalize (lnAt l k).closed = cl at *
    generalize hnn : (lnAt l k).pts.length = n at *
    clear hnn
    go_wp2_with fail
    refine Calls.mono (HC.out _) ?_
    rintro e w1 ⟨rfl, k1⟩
    have K1 : Hid (Kp w w1) := Kp.trans (Kp.alloc HW.out _ _) k1
    clear k1
    go_wp2
    go_roundw
    case rel =>
     refine ⟨k + 1, by omega, by go_num, fun m hm => ?_, K1.out⟩
     rcases Nat.lt_succ_iff_lt_or_eq.1 hm with h | h
     ·exact HA.out m h
     ·rw [h]; exact HF.out
    case measure => simp [intOf]; omega
  ·have HX : Hid (V = true) := HV.out.symm.trans (nearL_true (fun m hm => HA.out m (by omega)))
   clear HA
   go_wp2
   go_ret
   exact ⟨ret_bool HX.out.symm, HW.out⟩
def ddK (l : List Pnt) : Nat → List Pnt
 | 0 => []
 | k + 1 => if k = 0 ∨ ptAt l k ≠ ptAt l (k - 1) then ddK l k ++ [ptAt l k] else ddK l k
theorem ptAt_app (l : List Pnt) (q : Pnt) (i : Nat) (h : i < l.length) : ptAt (l ++ [q]) i = ptAt l i := by simp [ptAt, List.getElem?_append, h]
theorem ptAt_new (l : List Pnt) (q : Pnt) : ptAt (l ++ [q]) l.length = q := by simp [ptAt]
theorem ptAt_mem {l : List Pnt} {i : Nat} (h : i < l.length) : ptAt l i ∈ l := by
 unfold ptAt
 rw [show l.getD i (0, 0) = l[i]'h by simp [h]]
 exact List.getElem_mem h
theorem ddK_len (l : List Pnt) : ∀ k, (ddK l k).length ≤ k
 | 0 => by simp [ddK]
 | k + 1 => by
  have := ddK_len l k
  rw [ddK]
  split <;> simp <;> omega
theorem ddK_pos (l : List Pnt) : ∀ k, 0 < k → 0 < (ddK l k).length
 | 0, h => absurd h (by omega)
 | k + 1, _ => by
  rw [ddK]
  split
  ·simp
  ·rename_i h
   exact ddK_pos l k (by omega)
theorem ddK_last (l : List Pnt) : ∀ k, 0 < k → ptAt (ddK l k) ((ddK l k).length - 1) = ptAt l (k - 1)
 | 0, h => absurd h (by omega)
 | k + 1, _ => by
  rw [ddK]
  split
  ·rw [List.length_append, List.length_singleton, Nat.add_sub_cancel, ptAt_new, Nat.add_sub_cancel]
  ·rename_i h
   rw [ddK_last l k (by omega), Nat.add_sub_cancel]
   exact (Decidable.not_not.1 (fun e => h (Or.inr e))).symm
theorem ddK_in (l : List Pnt) : ∀ k, k ≤ l.length → ∀ x, x ∈ ddK l k → x ∈ l
 | 0, _, x, hx => by cases hx
 | k + 1, hk, x, hx => by
  rw [ddK] at hx
  split at hx
  ·rcases List.mem_append.1 hx with h | h
   ·exact ddK_in l k (by omega) x h
   ·rw [List.mem_singleton.1 h]; exact ptAt_mem (by omega)
  ·exact ddK_in l k (by omega) x hx
def unlQ (q : List Pnt) : Prop := ∀ i, i + 1 < q.length → ptAt q i ≠ ptAt q (i + 1)
theorem ddK_unl (l : List Pnt) : ∀ k, unlQ (ddK l k)
 | 0 => fun i hi => absurd hi (by simp [ddK])
 | k + 1 => by
  have ih := ddK_unl l k
  rw [ddK]
  split
  ·rename_i h
   intro i hi
   rw [List.length_append, List.length_singleton] at hi
   by_cases e : i + 1 = (ddK l k).length
   ·rw [ptAt_app _ _ i (by omega), e, ptAt_new]
    have hk : 0 < k := by
     rcases Nat.eq_zero_or_pos k with h0 | h0
     ·rw [h0] at e; simp [ddK] at e
     ·exact h0
    have hl := ddK_last l k hk
    rw [show (ddK l k).length - 1 = i by omega] at hl
    rw [hl]
    rcases h with h | h
    ·omega
    ·exact fun e => h e.symm
   ·rw [ptAt_app _ _ i (by omega), ptAt_app _ _ (i + 1) (by omega)]
    exact ih i (by omega)
  ·exact ih
def trimQ (cl : Bool) (q : List Pnt) : List Pnt := if cl = true ∧ ptAt q (q.length - 1) = ptAt q 0 then q.take (q.length - 1) else q
def ddP (l : List Pnt) (cl : Bool) : List Pnt := trimQ cl (ddK l l.length)
theorem ptAt_take (l : List Pnt) (n i : Nat) (h : i < n) : ptAt (l.take n) i = ptAt l i := by simp [ptAt, h]
theorem trimQ_len (cl : Bool) (q : List Pnt) : (trimQ cl q).length ≤ q.length := by
 unfold trimQ; split
 ·simp
 ·exact Nat.le_refl _
theorem ddP_len (l : List Pnt) (cl : Bool) : (ddP l cl).length ≤ l.length := Nat.le_trans (trimQ_len _ _) (ddK_len l l.length)
theorem ddP_in (l : List Pnt) (cl : Bool) : ∀ x, x ∈ ddP l cl → x ∈ l := by
 intro x hx
 unfold ddP trimQ at hx
 split at hx
 ·exact ddK_in l l.length (Nat.le_refl _) x (List.mem_of_mem_take hx)
 ·exact ddK_in l l.length (Nat.le_refl _) x hx
def apartQ (cl : Bool) (q : List Pnt) : Prop := ∀ i, i < segN cl q.length → ptAt q i ≠ nxtP q i
theorem ddP_apart (l : List Pnt) (cl : Bool) (h2 : 2 ≤ (ddP l cl).length) : apartQ cl (ddP l cl) := by
 have hu := ddK_unl l l.length
 unfold ddP at h2 ⊢
 generalize ddK l l.length = q at *
 intro i hi
 unfold nxtP
 unfold trimQ at *
 by_cases hc : cl = true ∧ ptAt q (q.length - 1) = ptAt q 0
 ·rw [if_pos hc] at h2 hi ⊢
  obtain ⟨rfl, e⟩ := hc
  have hl : (q.take (q.length - 1)).length = q.length - 1 := by simp
  rw [hl] at h2 hi ⊢
  have hi' : i < q.length - 1 := hi
  by_cases el : i + 1 = q.length - 1
  ·rw [el, Nat.mod_self, ptAt_take _ _ _ hi', ptAt_take _ _ _ (by omega), ← e]
   have := hu i (by omega)
   rw [el] at this
   exact this
  ·rw [Nat.mod_eq_of_lt (by omega), ptAt_take _ _ _ hi', ptAt_take _ _ _ (by omega)]
   exact hu i (by omega)
 ·rw [if_neg hc] at h2 hi ⊢
  cases cl with
  | false =>
   have hi' : i < q.length - 1 := hi
   rw [Nat.mod_eq_of_lt (by omega)]
   exact hu i (by omega)
  | true =>
   have hi' : i < q.length := hi
   by_cases el : i + 1 = q.length
   ·rw [el, Nat.mod_self]
    have := fun e => hc ⟨rfl, e⟩
    rw [show q.length - 1 = i by omega] at this
    exact this
   ·rw [Nat.mod_eq_of_lt (by omega)]
    exact hu i (by omega)
def joinJ (j h : Int) (x y : Sg) : List Pnt := if j = 2 then roundsP y.f.1 y.f.2 h h 0 32 else bevelL x.f.1 x.f.2 x.t.1 x.t.2 x.s.1 x.s.2 y.f.1 y.f.2 y.t.1 y.t.2 y.s.1 y.s.2
def capL (c : Int) (a s o : Pnt) (h : Int) : List LD := if c = 2 then [⟨roundsP a.1 a.2 h h 0 32, true⟩] else if c = 3 then [⟨squareL a.1 a.2 s.1 s.2 o.1 o.2, true⟩] else []
def capsL (c h : Int) (sg : List Sg) : List LD := capL c (sgAt sg 0).f (sgAt sg 0).s (-(sgAt sg 0).s.2, (sgAt sg 0).s.1) h ++ capL c (sgAt sg (sg.length - 1)).t (sgAt sg (sg.length - 1)).s ((sgAt sg (sg.length - 1)).s.2, -(sgAt sg (sg.length - 1)).s.1) h
def strkQ (q : List Pnt) (cl : Bool) (h j c : Int) : List LD := (segsK q h (segN cl q.length)).map bandL ++ cornsK (joinJ j h) (segsK q h (segN cl q.length)) cl (segN cl q.length) ++ (if cl then [] else capsL c h (segsK q h (segN cl q.length)))
def strkL (l : LD) (h j c : Int) : List LD := if (ddP l.pts l.closed).length < 2 then [] else strkQ (ddP l.pts l.closed) l.closed h j c
theorem segsK_at (q : List Pnt) (h : Int) (n i : Nat) (hi : i < n) : sgAt (segsK q h n) i = segP q h i := by simp [sgAt, segsK, hi]
theorem capL_len (c : Int) (a s o : Pnt) (h : Int) : (capL c a s o h).length ≤ 1 := by unfold capL; split <;> (try split) <;> simp
theorem strkL_len (l : LD) (h j c : Int) : (strkL l h j c).length ≤ 2 * l.pts.length := by
 have h0 := ddP_len l.pts l.closed
 unfold strkL
 split
 ·simp
 ·rename_i h2
  unfold strkQ
  generalize ddP l.pts l.closed = q at *
  have h1 := cornsK_len (joinJ j h) (segsK q h (segN l.closed q.length)) l.closed (segN l.closed q.length)
  have hs := segsK_len q h (segN l.closed q.length)
  rw [List.length_append, List.length_append, List.length_map, hs]
  cases hc : l.closed with
  | true =>
   rw [hc] at h1
   simp only [if_true, List.length_nil]
   simp only [segN, cond_true] at h1 ⊢
   omega
  | false =>
   rw [hc] at h1
   simp only [Bool.false_eq_true, if_false]
   have h3 : (capsL c h (segsK q h (segN false q.length))).length ≤ 2 := by
    unfold capsL
    rw [List.length_append]
    have a1 := capL_len c (sgAt (segsK q h (segN false q.length)) 0).f (sgAt (segsK q h (segN false q.length)) 0).s (-(sgAt (segsK q h (segN false q.length)) 0).s.2, (sgAt (segsK q h (segN false q.length)) 0).s.1) h
    have a2 := capL_len c (sgAt (segsK q h (segN false q.length)) ((segsK q h (segN false q.length)).length - 1)).t (sgAt (segsK q h (segN false q.length)) ((segsK q h (segN false q.length)).length - 1)).s ((sgAt (segsK q h (segN false q.length)) ((segsK q h (segN false q.length)).length - 1)).s.2, -(sgAt (segsK q h (segN false q.length)) ((segsK q h (segN false q.length)).length - 1)).s.1) h
    omega
   simp only [segN, cond_false] at h1 h3 ⊢
   omega
theorem squareL_len (a b c d e f : Int) : (squareL a b c d e f).length = 4 := rfl
theorem bevelL_len (a b c d e f g h i j k l : Int) : (bevelL a b c d e f g h i j k l).length = 3 := by unfold bevelL; split <;> rfl
def slim (o : List LD) : Prop := ∀ x, x ∈ o → x.pts.length ≤ 32
theorem slim.many : ∀ {o : List LD}, slim o → manyL o ≤ 32 * o.length
 | [], _ => Nat.le_refl _
 | x :: o, h => by
  have h1 := h x (List.mem_cons_self ..)
  have h2 := slim.many (o := o) (fun y hy => h y (List.mem_cons_of_mem _ hy))
  have e : manyL (x :: o) = x.pts.length + manyL o := by simp [manyL]
  rw [e, List.length_cons]
  omega
theorem slim.app {a b : List LD} (h : slim a) (k : slim b) : slim (a ++ b) := fun x hx => by
 rcases List.mem_append.1 hx with h1 | h1
 ·exact h x h1
 ·exact k x h1
theorem slim.nil : slim [] := fun x hx => by cases hx
theorem slim.one {p : List Pnt} {c : Bool} (h : p.length ≤ 32) : slim [⟨p, c⟩] := fun x hx => by rw [List.mem_singleton.1 hx]; exact h
theorem slim_cap (c : Int) (a s o : Pnt) (h : Int) : slim (capL c a s o h) := by
 unfold capL
 split
 ·exact slim.one (by rw [roundsP_len]; omega)
 ·split
  ·exact slim.one (by rw [squareL_len]; omega)
  ·exact slim.nil
theorem slim_join (j h : Int) (x y : Sg) : (joinJ j h x y).length ≤ 32 := by
 unfold joinJ
 split
 ·rw [roundsP_len]; omega
 ·rw [bevelL_len]; omega
theorem slim_corns (j h : Int) (sg : List Sg) (cl : Bool) : ∀ k, slim (cornsK (joinJ j h) sg cl k)
 | 0 => slim.nil
 | k + 1 => by
  rw [cornsK]
  refine slim.app (slim_corns j h sg cl k) ?_
  split
  ·exact slim.nil
  ·exact slim.one (slim_join ..)
theorem slim_strk (l : LD) (h j c : Int) : slim (strkL l h j c) := by
 unfold strkL
 split
 ·exact slim.nil
 ·unfold strkQ
  refine slim.app (slim.app (fun x hx => ?_) (slim_corns _ _ _ _ _)) ?_
  ·obtain ⟨y, _, rfl⟩ := List.mem_map.1 hx
   show 4 ≤ 32
   omega
  ·split
   ·exact slim.nil
   ·exact slim.app (slim_cap _ _ _ _ _) (slim_cap _ _ _ _ _)
def strkS (ds : List LD) (h j c : Int) : List LD := ds.flatMap fun l => strkL l h j c
theorem strkS_succ (ds : List LD) (h j c : Int) (k : Nat) (hk : k < ds.length) : strkS (ds.take (k + 1)) h j c = strkS (ds.take k) h j c ++ strkL (lnAt ds k) h j c := by
 unfold strkS
 rw [List.take_add_one, List.getElem?_eq_getElem hk, List.flatMap_append]
 simp [lnAt, hk]
theorem strkS_len : ∀ (ds : List LD) (h j c : Int), (strkS ds h j c).length ≤ 2 * manyL ds
 | [], _, _, _ => by simp [strkS]
 | x :: ds, h, j, c => by
  have h1 := strkL_len x h j c
  have h2 := strkS_len ds h j c
  have e : manyL (x :: ds) = x.pts.length + manyL ds := by simp [manyL]
  unfold strkS at h2 ⊢
  rw [List.flatMap_cons, List.length_append, e]
  omega
theorem slim_strkS : ∀ (ds : List LD) (h j c : Int), slim (strkS ds h j c)
 | [], _, _, _ => slim.nil
 | x :: ds, h, j, c => by
  unfold strkS
  rw [List.flatMap_cons]
  exact slim.app (slim_strk x h j c) (slim_strkS ds h j c)
def stK (ls : List LD) (p : PD) (ns : List Int) : Nat → Option (List LD)
 | 0 => some []
 | k + 1 => match stK ls p ns k with
  | none => none
  | some o => if (lnAt ls k).pts.length = 0 then some o else if (dsV ns p.f (lnAt ls k).pts (lnAt ls k).closed).2 = true then some (o ++ strkS (dsV ns p.f (lnAt ls k).pts (lnAt ls k).closed).1 (p.w / 2) p.j p.c) else none
theorem stK_none (ls : List LD) (p : PD) (ns : List Int) {k : Nat} (h : stK ls p ns k = none) : ∀ j, stK ls p ns (k + j) = none
 | 0 => h
 | j + 1 => by rw [← Nat.add_assoc, stK, stK_none ls p ns h j]
theorem manyL_app' (a b : List LD) : manyL (a ++ b) = manyL a + manyL b := by simp [manyL]
theorem stK_more (ls : List LD) (p : PD) (ns : List Int) {k m : Nat} (h : ∀ o, stK ls p ns k = some o → m ≤ manyL o) : ∀ j o, stK ls p ns (k + j) = some o → m ≤ manyL o
 | 0, o, ho => h o ho
 | j + 1, o, ho => by
  rw [← Nat.add_assoc, stK] at ho
  cases hc : stK ls p ns (k + j) with
  | none => rw [hc] at ho; cases ho
  | some o' =>
   rw [hc] at ho
   have h1 := stK_more ls p ns h j o' hc
   simp only at ho
   split at ho
   ·injection ho with e; rw [← e]; exact h1
   ·split at ho
    ·injection ho with e; rw [← e, manyL_app']; omega
    ·cases ho
theorem stK_bd (ls : List LD) (p : PD) (ns : List Int) : ∀ k o, k ≤ ls.length → stK ls p ns k = some o → o.length ≤ 1200 * manyL (ls.take k) ∧ slim o
 | 0, o, _, h => by
  simp only [stK] at h
  injection h with e
  rw [← e]
  exact ⟨by simp, slim.nil⟩
 | k + 1, o, hk, h => by
  rw [stK] at h
  rw [manyL_step ls k (by omega)]
  cases hc : stK ls p ns k with
  | none => rw [hc] at h; cases h
  | some o' =>
   rw [hc] at h
   obtain ⟨i1, i2⟩ := stK_bd ls p ns k o' (by omega) hc
   simp only at h
   split at h
   ·injection h with e; rw [← e]; exact ⟨by omega, i2⟩
   ·rename_i hz
    split at h
    ·injection h with e
     rw [← e, List.length_append]
     have b1 := (dsV_bd ns p.f (lnAt ls k).pts (lnAt ls k).closed).2
     have b2 := strkS_len (dsV ns p.f (lnAt ls k).pts (lnAt ls k).closed).1 (p.w / 2) p.j p.c
     exact ⟨by omega, slim.app i2 (slim_strkS _ _ _ _)⟩
    ·cases h
def stkV (ls : List LD) (p : PD) (ns : List Int) : List LD × Bool :=
 if penB p ns = true ∧ manyL ls ≤ 600 ∧ nearL ls = true then (if p.w = 0 then ([], true) else match stK ls p ns ls.length with
  | none => ([], false)
  | some o => if manyL o ≤ 4800 then (o, true) else ([], false)) else ([], false)
end Go.Proofs.YtnkeljmecbohkaaGreat
