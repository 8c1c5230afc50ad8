/-
  Dashes lie in their line's box; no condition beside those that each theorem names.
  A pen's numbers; no condition.
  Good pens, by the reference: GoodPen; each theorem names its conditions.
  Lines that are near, by the program; each theorem names its conditions.
-/
import Derived.Test.YtfdjjbgcaojcnaaGreatJAT
import Derived.Test.YtfdjjbgcaojcnaaGreatJAQ
import Derived.Test.YtfdjjbgcaojcnaaGreatJAB
import Derived.Test.YtfdjjbgcaojcnaaGreatJAC
import Derived.Test.YtfdjjbgcaojcnaaGreatJAD
namespace Go.Proofs.YtfdjjbgcaojcnaaGreat
open Go.ChangeShapes Go.WideShapes Go.ChangeAt Go.RowKit
set_option linter.unusedVariables false

/-- A point lies in a box. -/
def bxP (x0 x1 y0 y1 : Int) (q : Pnt) : Prop := (x0 ≤ q.1 ∧ q.1 ≤ x1) ∧ (y0 ≤ q.2 ∧ q.2 ≤ y1)
theorem place1 {a b k n l h : Int} (hn : 0 < n) (h0 : 0 ≤ k) (h1 : k ≤ n) (a0 : l ≤ a) (a1 : a ≤ h) (b0 : l ≤ b) (b1 : b ≤ h) : l ≤ a + (b - a) * k / n ∧ a + (b - a) * k / n ≤ h := by
  rcases Int.le_total 0 (b - a) with hd | hd
  · have e1 : 0 ≤ (b - a) * k := Int.mul_nonneg hd h0
    have e2 : (b - a) * k ≤ (b - a) * n := Int.mul_le_mul_of_nonneg_left h1 hd
    have q1 : 0 ≤ (b - a) * k / n := Int.ediv_nonneg e1 (by omega)
    have q2 : (b - a) * k / n ≤ (b - a) * n / n := Int.ediv_le_ediv hn e2
    rw [Int.mul_ediv_cancel _ (by omega)] at q2
    omega
  · have e1 : (b - a) * k ≤ 0 := Int.mul_nonpos_of_nonpos_of_nonneg hd h0
    have e2 : (b - a) * n ≤ (b - a) * k := by
      have := Int.mul_le_mul_of_nonneg_left h1 (show 0 ≤ a - b by omega)
      have e3 : (a - b) * k = -((b - a) * k) := by rw [← Int.neg_mul]; congr 1; omega
      have e4 : (a - b) * n = -((b - a) * n) := by rw [← Int.neg_mul]; congr 1; omega
      omega
    have q1 : (b - a) * k / n ≤ 0 / n := Int.ediv_le_ediv hn e1
    rw [Int.zero_ediv] at q1
    have q2 : (b - a) * n / n ≤ (b - a) * k / n := Int.ediv_le_ediv hn e2
    rw [Int.mul_ediv_cancel _ (by omega)] at q2
    omega
theorem place_bx {x0 x1 y0 y1 : Int} {a b : Pnt} {k n : Int} (hn : 0 < n) (h0 : 0 ≤ k) (h1 : k ≤ n) (ha : bxP x0 x1 y0 y1 a) (hb : bxP x0 x1 y0 y1 b) : bxP x0 x1 y0 y1 (placeV a b k n) :=
  ⟨place1 hn h0 h1 ha.1.1 ha.1.2 hb.1.1 hb.1.2, place1 hn h0 h1 ha.2.1 ha.2.2 hb.2.1 hb.2.2⟩
/-- All that a dashing holds lies where P says. -/
structure AllD (P : Pnt → Prop) (d : Dg) : Prop where
  p : ∀ x, x ∈ d.p → P x
  o : ∀ l, l ∈ d.o → ∀ x, x ∈ l.pts → P x
  left : 0 ≤ d.left
theorem AllD.reach {P : Pnt → Prop} {d : Dg} (h : AllD P d) {q : Pnt} (hq : P q) : AllD P (reachD d q) := by
  unfold reachD
  split
  · exact h
  · refine ⟨fun x hx => ?_, h.o, h.left⟩
    rcases List.mem_append.1 hx with h1 | h1
    · exact h.p x h1
    · rw [List.mem_singleton.1 h1]; exact hq
theorem AllD.lay {P : Pnt → Prop} {d : Dg} (h : AllD P d) : AllD P (layD d) := by
  refine ⟨fun x hx => (by cases hx), fun l hl x hx => ?_, h.left⟩
  have hl' : l ∈ endL d.o d.p false := hl
  unfold endL at hl'
  split at hl'
  · rcases List.mem_append.1 hl' with h1 | h1
    · exact h.o l h1 x hx
    · rw [List.mem_singleton.1 h1] at hx; exact h.p x hx
  · exact h.o l hl' x hx
theorem AllD.turn {P : Pnt → Prop} {ns : List Int} {d : Dg} (h : AllD P d) (hN : ∀ j, 0 ≤ intAt ns (j % ns.length)) {q : Pnt} (hq : P q) : AllD P (turnD ns d q) := by
  have h1 := (h.reach hq).lay
  unfold turnD
  refine AllD.reach (d := moreD (nextD ns (layD (reachD d q)))) ⟨h1.p, h1.o, ?_⟩ hq
  exact hN _
theorem AllD.walk {x0 x1 y0 y1 : Int} {ns : List Int} (hN : ∀ j, 0 ≤ intAt ns (j % ns.length)) {a b : Pnt} {n : Int} (hn : 0 < n) (ha : bxP x0 x1 y0 y1 a) (hb : bxP x0 x1 y0 y1 b) :
    ∀ (f : Nat) (d : Dg) (g : Int), AllD (bxP x0 x1 y0 y1) d → 0 ≤ g → g ≤ n → AllD (bxP x0 x1 y0 y1) (walkD ns a b n f d g)
  | 0, d, g, h, _, _ => h
  | f + 1, d, g, h, h0, h1 => by
    have hl := h.left
    rw [walkD]
    split
    · rename_i hc
      have hq := place_bx (k := g + d.left) hn (by omega) (by omega) ha hb
      split
      · exact h.turn hN hq
      · exact AllD.walk hN hn ha hb f _ _ (h.turn hN hq) (by omega) (by omega)
    · rename_i hc
      exact AllD.reach (d := ⟨d.at', d.left - (n - g), d.begun, d.p, d.o⟩) ⟨h.p, h.o, by show 0 ≤ d.left - (n - g); omega⟩ hb
theorem AllD.along {x0 x1 y0 y1 : Int} {ns : List Int} (hN : ∀ j, 0 ≤ intAt ns (j % ns.length)) {a b : Pnt} (hz : 0 ≤ szV a b) (ha : bxP x0 x1 y0 y1 a) (hb : bxP x0 x1 y0 y1 b) {d : Dg} (h : AllD (bxP x0 x1 y0 y1) d) : AllD (bxP x0 x1 y0 y1) (alongD ns d a b) := by
  unfold alongD
  split
  · exact h
  · exact AllD.walk hN (by omega) ha hb _ _ _ h (Int.le_refl _) hz
theorem AllD.segs {x0 x1 y0 y1 : Int} {ns : List Int} (hN : ∀ j, 0 ≤ intAt ns (j % ns.length)) (hz : ∀ a b, 0 ≤ szV a b) {p : List Pnt} (hp : ∀ i, i < p.length → bxP x0 x1 y0 y1 (ptAt p i)) {d : Dg} (h : AllD (bxP x0 x1 y0 y1) d) : ∀ k, k < p.length → AllD (bxP x0 x1 y0 y1) (segsD ns d p k)
  | 0, _ => h
  | k + 1, hk => AllD.along hN (hz _ _) (hp k (by omega)) (hp (k + 1) hk) (AllD.segs hN hz hp h k (by omega))
/-- The points of dashes lie where the line's box is. -/
theorem dsV_bx {x0 x1 y0 y1 : Int} (hz : ∀ a b, 0 ≤ szV a b) (ns : List Int) (f : Int) (p : List Pnt) (cl : Bool) (hp : ∀ i, i < p.length → bxP x0 x1 y0 y1 (ptAt p i)) : ∀ l, l ∈ (dsV ns f p cl).1 → ∀ x, x ∈ l.pts → bxP x0 x1 y0 y1 x := by
  unfold dsV
  by_cases hin : dsIn ns f p = true
  · rw [if_pos hin]
    by_cases hs : sumN ns ns.length = 0
    · rw [if_pos hs]
      intro l hl x hx
      rw [List.mem_singleton.1 hl] at hx
      obtain ⟨i, hi, rfl⟩ := List.getElem_of_mem hx
      have := hp i hi
      unfold ptAt at this
      rw [show p.getD i (0, 0) = p[i]'hi by simp [hi]] at this
      exact this
    · rw [if_neg hs]
      have hin' := hin
      unfold dsIn at hin'
      simp only [Bool.and_eq_true, decide_eq_true_eq] at hin'
      obtain ⟨⟨l1, l2⟩, _, hd⟩ := hin'
      obtain ⟨z1, z2, z3⟩ := dsh_NB hd
      have hn0 : 0 < ns.length := sum_some hs
      have hNB : NB ns := ⟨hn0, z3⟩
      have hN : ∀ j, 0 ≤ intAt ns (j % ns.length) := fun j => (z3 _ (Nat.mod_lt _ hn0)).1
      have hrp : 0 < rndN ns := by
        have := (sumN_bd z3 ns.length (Nat.le_refl _)).1
        unfold rndN
        split <;> omega
      have f0 := Int.emod_nonneg f (show rndN ns ≠ 0 by omega)
      have f1 := Int.emod_lt_of_pos f hrp
      have hs0 : AllD (bxP x0 x1 y0 y1) (startD ns (f % rndN ns)) := by
        refine ⟨fun x hx => (by cases hx), fun l hl => (by cases hl), ?_⟩
        have hrl : rndL ns ≤ 16 := by unfold rndL; split <;> omega
        have h17 : f % rndN ns < sumR ns (0 + 17) := by
          have := sumR_mono hNB (rndL ns) (17 - rndL ns)
          rw [show rndL ns + (17 - rndL ns) = 0 + 17 by omega, rnd_is] at this
          omega
        have := (skK_is hNB (f % rndN ns) 17 0 (by simpa [sumR] using f0) h17).2
        show 0 ≤ sumR ns (skK ns (f % rndN ns) 17 0 + 1) - f % rndN ns
        omega
      have h0 : AllD (bxP x0 x1 y0 y1) (dash0 ns f p) := AllD.segs hN hz hp (hs0.reach (hp 0 (by omega))) _ (by omega)
      have h1 : AllD (bxP x0 x1 y0 y1) (dash1 ns f p cl) := by
        unfold dash1
        refine AllD.lay ?_
        split
        · exact AllD.along hN (hz _ _) (hp _ (by omega)) (hp 0 (by omega)) h0
        · exact h0
      by_cases hb : 2400 < (dash1 ns f p cl).begun ∨ 600 < manyL (dash1 ns f p cl).o
      · rw [if_pos hb]
        intro l hl; cases hl
      · rw [if_neg hb]
        exact h1.o
  · rw [if_neg hin]
    intro l hl; cases hl
end Go.Proofs.YtfdjjbgcaojcnaaGreat
namespace Go.Proofs.YtfdjjbgcaojcnaaGreat
open Go.ChangeShapes Go.WideShapes Go.ChangeAt Go.RowKit
set_option linter.unusedVariables false

/-- A pen's numbers beside its dash. -/
structure PD where
  w : Int
  j : Int
  c : Int
  f : Int
abbrev penV (p : PD) (v : Value) : Value := .agg #[.int .i64 p.w, .int .i64 p.j, .int .i64 p.c, v, .int .i64 p.f]
end Go.Proofs.YtfdjjbgcaojcnaaGreat
namespace Go.Proofs.YtfdjjbgcaojcnaaGreat
open Go.ChangeShapes Go.WideShapes Go.ChangeAt Go.RowKit
set_option linter.unusedVariables false

def penB (p : PD) (l : List Int) : Bool := decide (0 ≤ p.w ∧ p.w ≤ 4194304) && (decide (1 ≤ p.j ∧ p.j ≤ 3) && (decide (1 ≤ p.c ∧ p.c ≤ 3) && dshB l p.f))
set_option maxRecDepth 100000 in
set_option maxHeartbeats 4000000 in
theorem sgoodPen (w : World) (p : PD) (a : Option Addr) (c : Nat) (l : List Int) (hl : l.length ≤ 1048576) (hr : Ints w a l) :
    Calls Tryz.prog 45 #[penV p (.slice a l.length c)] w fun e w' => e = .returned (.bool (penB p l)) ∧ Kp w w' := by
  obtain ⟨pw, pj, pc, pf⟩ := p
  unfold penV penB dshB
  simp only
  have k1 : ∀ o t, Kp w (w.alloc (.cells o t)) := fun o t => (Kp.refl w).alloc _ _
  have HR : Hid (∀ o t, Ints (w.alloc (.cells o t)) a l) := fun o t => hr.nw (k1 o t).nw
  have H1 : Hid _ := fun w => in_any w pw 0 4194304
  have H2 : Hid _ := fun w => in_any w pj 1 3
  have H3 : Hid _ := fun w => in_any w pc 1 3
  have H4 : Hid (∀ w, Calls Tryz.prog 36 #[.int .i64 pf, .int .i64 0, .int .i64 67108864] w fun e w' => e = .returned (.bool (dnB pf)) ∧ w' = w) := fun w => in_any w pf 0 67108864
  clear hr
  generalize decide (0 ≤ pw ∧ pw ≤ 4194304) = b1 at *
  generalize decide (1 ≤ pj ∧ pj ≤ 3) = b2 at *
  generalize decide (1 ≤ pc ∧ pc ≤ 3) = b3 at *
  generalize dnB pf = b4 at *
  cases b1 with
  | false =>
    go_enter Tryz.func45, Tryz.ntmps45
    go_wp2_with fail
    refine Calls.mono (H1.out _) ?_
    rintro e w9 ⟨rfl, rfl⟩
    go_wp2
    go_ret
    exact ⟨rfl, k1 _ _⟩
  | true =>
    rw [Bool.true_and]
    cases b2 with
    | false =>
      go_enter Tryz.func45, Tryz.ntmps45
      go_wp2_with fail
      refine Calls.mono (H1.out _) ?_
      rintro e w9 ⟨rfl, rfl⟩
      go_wp2_with fail
      refine Calls.mono (H2.out _) ?_
      rintro e w9 ⟨rfl, rfl⟩
      go_wp2
      go_ret
      exact ⟨rfl, k1 _ _⟩
    | true =>
      rw [Bool.true_and]
      cases b3 with
      | false =>
        go_enter Tryz.func45, Tryz.ntmps45
        go_wp2_with fail
        refine Calls.mono (H1.out _) ?_
        rintro e w9 ⟨rfl, rfl⟩
        go_wp2_with fail
        refine Calls.mono (H2.out _) ?_
        rintro e w9 ⟨rfl, rfl⟩
        go_wp2_with fail
        refine Calls.mono (H3.out _) ?_
        rintro e w9 ⟨rfl, rfl⟩
        go_wp2
        go_ret
        exact ⟨rfl, k1 _ _⟩
      | true =>
        rw [Bool.true_and]
        by_cases h8 : l.length ≤ 8
        · have hd : decide ((8 : Int) < l.length) = false := decide_eq_false (by omega)
          rw [decide_eq_true h8, Bool.true_and]
          cases b4 with
          | false =>
            go_enter Tryz.func45, Tryz.ntmps45
            go_wp2_with fail
            refine Calls.mono (H1.out _) ?_
            rintro e w9 ⟨rfl, rfl⟩
            go_wp2_with fail
            refine Calls.mono (H2.out _) ?_
            rintro e w9 ⟨rfl, rfl⟩
            go_wp2_with fail
            refine Calls.mono (H3.out _) ?_
            rintro e w9 ⟨rfl, rfl⟩
            go_wp2_with fail
            refine Calls.mono (H4.out _) ?_
            rintro e w9 ⟨rfl, rfl⟩
            go_wp2
            go_ret
            exact ⟨rfl, k1 _ _⟩
          | true =>
            rw [Bool.true_and]
            obtain ⟨V, hV⟩ : ∃ V, l.all dnB = V := ⟨_, rfl⟩
            rw [hV]
            have HX : Hid (l.all dnB = V) := hV
            clear hV
            go_enter Tryz.func45, Tryz.ntmps45
            go_wp2_with fail
            refine Calls.mono (H1.out _) ?_
            rintro e w9 ⟨rfl, rfl⟩
            go_wp2_with fail
            refine Calls.mono (H2.out _) ?_
            rintro e w9 ⟨rfl, rfl⟩
            go_wp2_with fail
            refine Calls.mono (H3.out _) ?_
            rintro e w9 ⟨rfl, rfl⟩
            go_wp2_with fail
            refine Calls.mono (H4.out _) ?_
            rintro e w9 ⟨rfl, rfl⟩
            go_wp2
            go_loop [36] (fun i => ∃ k : Nat, k ≤ l.length ∧ i = .int .i64 k ∧ ∀ j, j < k → dnB (intAt l j) = true) (fun i => l.length - (intOf i).toNat)
            case atStart => exact ⟨0, Nat.zero_le _, rfl, fun j hj => absurd hj (by omega)⟩
            case round =>
              obtain ⟨k, hk, rfl, ha⟩ := hrel
              have HA : Hid _ := ha
              clear ha
              by_cases hlt : k < l.length
              · obtain ⟨b, off, rfl, q⟩ := Ints.at (HR.out #[.int .i64 pw, .int .i64 pj, .int .i64 pc, .slice a l.length c, .int .i64 pf] 36) hlt
                obtain ⟨x, hx⟩ : ∃ x, intAt l k = x := ⟨_, rfl⟩
                have HXX : Hid (intAt l k = x) := hx
                rw [hx] at q
                clear hx
                have HC : Hid (∀ w, Calls Tryz.prog 36 #[.int .i64 x, .int .i64 0, .int .i64 67108864] w fun e w' => e = .returned (.bool (dnB x)) ∧ w' = w) := fun w => in_any w x 0 67108864
                cases hdn : dnB x with
                | false =>
                  have HY : Hid (V = false) := HX.out.symm.trans (all_false dnB 0 l k hlt (show dnB (intAt l k) = false by rw [HXX.out]; exact hdn))
                  rw [hdn] at HC
                  clear hdn
                  go_wp2_with fail
                  refine (HC.out _).mono ?_
                  rintro e w2 ⟨rfl, rfl⟩
                  go_wp2
                  go_ret
                  exact ⟨ret_bool HY.out.symm, k1 _ _⟩
                | true =>
                  have HY : Hid (dnB (intAt l k) = true) := by show _ = _; rw [HXX.out]; exact hdn
                  rw [hdn] at HC
                  clear hdn
                  go_wp2_with fail
                  refine (HC.out _).mono ?_
                  rintro e w2 ⟨rfl, rfl⟩
                  go_wp2
                  go_round
                  case rel =>
                    refine ⟨k + 1, by omega, by go_num, fun j hj => ?_⟩
                    rcases Nat.lt_succ_iff_lt_or_eq.1 hj with h | h
                    · exact HA.out j h
                    · rw [h]; exact HY.out
                  case measure => simp [intOf]; omega
              · have HY : Hid (V = true) := HX.out.symm.trans (all_true dnB 0 l (fun j hj => HA.out j (by omega)))
                clear HA
                go_wp2
                go_ret
                exact ⟨ret_bool HY.out.symm, k1 _ _⟩
        · have hd : decide ((8 : Int) < l.length) = true := decide_eq_true (by omega)
          rw [decide_eq_false h8, Bool.false_and]
          go_enter Tryz.func45, Tryz.ntmps45
          go_wp2_with fail
          refine Calls.mono (H1.out _) ?_
          rintro e w9 ⟨rfl, rfl⟩
          go_wp2_with fail
          refine Calls.mono (H2.out _) ?_
          rintro e w9 ⟨rfl, rfl⟩
          go_wp2_with fail
          refine Calls.mono (H3.out _) ?_
          rintro e w9 ⟨rfl, rfl⟩
          go_wp2
          go_ret
          exact ⟨rfl, k1 _ _⟩
end Go.Proofs.YtfdjjbgcaojcnaaGreat
namespace Go.Proofs.YtfdjjbgcaojcnaaGreat
open Go.ChangeShapes Go.WideShapes Go.ChangeAt Go.RowKit
set_option linter.unusedVariables false

def nearL (l : List LD) : Bool := l.all fun x => nearsB x.pts
theorem nearL_false {l : List LD} {k : Nat} (hk : k < l.length) (h : nearsB (lnAt l k).pts = false) : nearL l = false := all_false _ noLD l k hk h
theorem nearL_true {l : List LD} (h : ∀ k, k < l.length → nearsB (lnAt l k).pts = true) : nearL l = true := all_true _ noLD l h
theorem nearL_at {l : List LD} (h : nearL l = true) (k : Nat) (hk : k < l.length) : nearsB (lnAt l k).pts = true := by
  unfold nearL at h
  rw [List.all_eq_true] at h
  unfold lnAt
  rw [show l.getD k noLD = l[k] by simp [hk]]
  exact h _ (List.getElem_mem hk)
set_option maxHeartbeats 1000000 in
theorem inearL (w : World) (a : Option Addr) (c : Nat) (l : List LD) (hl : l.length ≤ 1048576) (hm : manyL l ≤ 1048576) (hr : Lines w a l) :
    Calls Tryz.prog 42 #[.slice a l.length c] w fun e w' => e = .returned (.bool (nearL l)) ∧ Kp w w' := by
  obtain ⟨V, hV⟩ : ∃ V, nearL l = V := ⟨_, rfl⟩
  have HV : Hid (nearL l = V) := hV
  rw [hV]
  have HR : Hid (Lines w a l) := hr
  clear hr hV
  go_enter Tryz.func42, Tryz.ntmps42
  go_wp2
  go_loopw [7] (fun i wr => ∃ k : Nat, k ≤ l.length ∧ i = .int .i64 k ∧ (∀ m, m < k → nearsB (lnAt l m).pts = true) ∧ Kp w wr) (fun i _ => l.length - (intOf i).toNat)
  case atStart => exact ⟨0, Nat.zero_le _, rfl, fun m hm => absurd hm (by omega), Kp.refl _⟩
  case round =>
    obtain ⟨k, hk, rfl, ha, hw⟩ := hrel
    have HW : Hid (Kp w wr) := hw
    have HA : Hid _ := ha
    clear hw ha
    by_cases hlt : k < l.length
    · rcases (HR.out.nw HW.out.nw) with h | ⟨b, off, rfl, hb, hc⟩
      · rw [h] at hlt; simp at hlt
      obtain ⟨⟨pa, pc, q0, qp⟩, q1⟩ := hc k hlt
      clear hc
      have hn := manyL_at l k hlt
      have HC : Hid (∀ o, _) := fun o => inear (wr.alloc o) pa pc (lnAt l k).pts (by omega) (qp.nw ((Below.refl _ _).alloc (Nat.le_refl _) _))
      cases hf : nearsB (lnAt l k).pts with
      | false =>
        have HF : Hid (V = false) := HV.out.symm.trans (nearL_false hlt hf)
        rw [hf] at HC
        clear hf qp
        generalize (lnAt l k).closed = cl at *
        generalize (lnAt l k).pts.length = n at *
        go_wp2_with fail
        refine Calls.mono (HC.out _) ?_
        rintro e w1 ⟨rfl, k1⟩
        have K1 : Hid (Kp w w1) := Kp.trans (Kp.alloc HW.out _ _) k1
        clear k1
        go_wp2
        go_ret
        exact ⟨ret_bool HF.out.symm, K1.out⟩
      | true =>
        have HF : Hid (nearsB (lnAt l k).pts = true) := hf
        rw [hf] at HC
        clear hf qp
        generalize (lnAt l k).closed = cl at *
        generalize hnn : (lnAt l k).pts.length = n at *
        clear hnn
        go_wp2_with fail
        refine Calls.mono (HC.out _) ?_
        rintro e w1 ⟨rfl, k1⟩
        have K1 : Hid (Kp w w1) := Kp.trans (Kp.alloc HW.out _ _) k1
        clear k1
        go_wp2
        go_roundw
        case rel =>
          refine ⟨k + 1, by omega, by go_num, fun m hm => ?_, K1.out⟩
          rcases Nat.lt_succ_iff_lt_or_eq.1 hm with h | h
          · exact HA.out m h
          · rw [h]; exact HF.out
        case measure => simp [intOf]; omega
    · have HX : Hid (V = true) := HV.out.symm.trans (nearL_true (fun m hm => HA.out m (by omega)))
      clear HA
      go_wp2
      go_ret
      exact ⟨ret_bool HX.out.symm, HW.out⟩
end Go.Proofs.YtfdjjbgcaojcnaaGreat
