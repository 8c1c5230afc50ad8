/-
  Lines being ended, as pure functions; no condition.
-/
import Derived.Test.YtdjemnbdaddegaaJAH
import Derived.Test.YtdjemnbdaddegaaJAA
import Derived.Test.YtdjemnbdaddegaaJAI
import Derived.Deep.RegionHeld3
import Derived.Test.YtdjemnbdaddegaaJAM
namespace Go.Proofs.Ytdjemnbdaddegaa
open Go.ChangeShapes Go.WideShapes Go.ChangeAt Go.RowKit
set_option linter.unusedVariables false
def endL (o : List LD) (p : List Pnt) (c : Bool) : List LD := if 1 < p.length then o ++ [⟨p, c⟩] else o
def lastP (p : List Pnt) : Pnt := ptAt p (p.length - 1)
theorem manyL_app (a b : List LD) : manyL (a ++ b) = manyL a + manyL b := by simp [manyL]
theorem endL_many (o : List LD) (p : List Pnt) (c : Bool) : manyL (endL o p c) ≤ manyL o + p.length := by
 unfold endL
 split
 ·rw [manyL_app]; simp [manyL]
 ·omega
theorem endL_len (o : List LD) (p : List Pnt) (c : Bool) : (endL o p c).length ≤ o.length + 1 := by
 unfold endL
 split <;> simp
set_option maxHeartbeats 400000 in
theorem divDown_any (a b : Int) (w : World) (hb : 0 < b) (hb' : b ≤ 4611686018427387904) (h1 : -4611686018427387904 ≤ a) (h2 : a ≤ 4611686018427387904) :
  Calls Try.prog 80 #[.int .i64 a, .int .i64 b] w fun e w' => e = .returned (.int .i64 (a / b)) ∧ w' = w := by
 by_cases ha : 0 ≤ a
 ·have hd := ediv_bd a b ha hb
  have hm := Int.emod_nonneg a (b := b) (by omega)
  have hm' := Int.emod_lt_of_pos a hb
  go_enter Try.func80, Try.ntmps80
  go_wp2
  all_goals go_ret
  all_goals exact ⟨rfl, rfl⟩
 ·have e1 := tdiv_neg_of a b (by omega)
  have e2 := tmod_neg_of a b (by omega)
  have e3 := ediv_neg_of a b hb
  have hd := ediv_bd (-a) b (by omega) hb
  have hm := Int.emod_nonneg (-a) (b := b) (by omega)
  have hm' := Int.emod_lt_of_pos (-a) hb
  by_cases hz : (-a) % b = 0
  ·rw [if_pos hz] at e3
   rw [e3]
   clear e3
   generalize (-a) / b = q at *
   generalize (-a) % b = r at *
   go_enter Try.func80, Try.ntmps80
   go_wp2
   all_goals go_ret
   all_goals exact ⟨rfl, rfl⟩
  ·rw [if_neg hz] at e3
   rw [e3]
   clear e3
   generalize (-a) / b = q at *
   generalize (-a) % b = r at *
   go_enter Try.func80, Try.ntmps80
   go_wp2
   all_goals go_ret
   all_goals exact ⟨rfl, rfl⟩
set_option maxHeartbeats 400000 in
theorem sdown_any (a b : Int) (w : World) (hb : 0 < b) (hb' : b ≤ 4611686018427387904) (h1 : -4611686018427387904 ≤ a) (h2 : a ≤ 4611686018427387904) :
  Calls Try.prog 104 #[.int .i64 a, .int .i64 b] w fun e w' => e = .returned (.int .i64 (a / b)) ∧ w' = w := by
 have hdb : decide (b < 0) = false := by simp; omega
 by_cases ha : 0 ≤ a
 ·have hd := ediv_bd a b ha hb
  have hm := Int.emod_nonneg a (b := b) (by omega)
  have hm' := Int.emod_lt_of_pos a hb
  have hda : decide (a < 0) = false := by simp; omega
  by_cases hz : a % b = 0
  ·have hq : (a % b != 0) = false := by simp [hz]
   clear hz
   go_enter Try.func104, Try.ntmps104
   go_wp2
   go_ret
   exact ⟨rfl, rfl⟩
  ·have hq : (a % b != 0) = true := by simp [hz]
   clear hz
   go_enter Try.func104, Try.ntmps104
   go_wp2
   go_ret
   exact ⟨rfl, rfl⟩
 ·have e1 := tdiv_neg_of a b (by omega)
  have e2 := tmod_neg_of a b (by omega)
  have e3 := ediv_neg_of a b hb
  have hd := ediv_bd (-a) b (by omega) hb
  have hm := Int.emod_nonneg (-a) (b := b) (by omega)
  have hm' := Int.emod_lt_of_pos (-a) hb
  have hda : decide (a < 0) = true := by simp; omega
  by_cases hz : (-a) % b = 0
  ·rw [if_pos hz] at e3
   rw [e3]
   clear e3
   generalize (-a) / b = q at *
   rw [hz] at e2 hm hm'
   clear hz hm hm'
   go_enter Try.func104, Try.ntmps104
   go_wp2
   go_ret
   exact ⟨rfl, rfl⟩
  ·rw [if_neg hz] at e3
   rw [e3]
   clear e3
   generalize (-a) / b = q at *
   generalize (-a) % b = r at *
   have hq : (-r != 0) = true := by simp; omega
   clear hz
   go_enter Try.func104, Try.ntmps104
   go_wp2
   go_ret
   exact ⟨rfl, rfl⟩

def bez (a b c d k : Int) : Int := (a * (8 - k) * (8 - k) * (8 - k) + 3 * b * (8 - k) * (8 - k) * k + 3 * c * (8 - k) * k * k + d * k * k * k + 256) / 512
def fx (x : Int) : Prop := -1099511627776 ≤ x ∧ x ≤ 1099511627776
theorem nine {k : Int} (h0 : 0 ≤ k) (h1 : k ≤ 8) : k = 0 ∨ k = 1 ∨ k = 2 ∨ k = 3 ∨ k = 4 ∨ k = 5 ∨ k = 6 ∨ k = 7 ∨ k = 8 := by omega
theorem bez_bd {a b c d k : Int} (ha : fx a) (hb : fx b) (hc : fx c) (hd : fx d) (h0 : 0 ≤ k) (h1 : k ≤ 8) : fx (bez a b c d k) := by
 unfold fx bez at *
 rcases nine h0 h1 with rfl | rfl | rfl | rfl | rfl | rfl | rfl | rfl | rfl <;> omega
set_option maxHeartbeats 4000000 in
theorem sbez (w : World) (a b c d k : Int) (ha : fx a) (hb : fx b) (hc : fx c) (hd : fx d) (h0 : 0 ≤ k) (h1 : k ≤ 8) :
  Calls Try.prog 81 #[.int .i64 a, .int .i64 b, .int .i64 c, .int .i64 d, .int .i64 k] w fun e w' => e = .returned (.int .i64 (bez a b c d k)) ∧ w' = w := by
 unfold fx at *
 rcases nine h0 h1 with rfl | rfl | rfl | rfl | rfl | rfl | rfl | rfl | rfl
 all_goals
  go_enter Try.func81, Try.ntmps81
  go_wp2_with (go_at_call 104; refine (sdown_any _ _ _ (by omega) (by omega) (by omega) (by omega)).mono ?_; rintro e w' ⟨rfl, rfl⟩)
  go_ret
  exact ⟨ret_int (by unfold bez; omega), rfl⟩
def Four (w : World) (b off : Nat) (x0 y0 x1 y1 x2 y2 x3 y3 : Int) : Prop :=
 w.cell? ⟨b, off, none⟩ = some (.int .i64 x0) ∧ w.cell? ⟨b, off + 1, none⟩ = some (.int .i64 y0) ∧ w.cell? ⟨b, off + 2, none⟩ = some (.int .i64 x1) ∧ w.cell? ⟨b, off + 2 + 1, none⟩ = some (.int .i64 y1) ∧
 w.cell? ⟨b, off + 4, none⟩ = some (.int .i64 x2) ∧ w.cell? ⟨b, off + 4 + 1, none⟩ = some (.int .i64 y2) ∧ w.cell? ⟨b, off + 6, none⟩ = some (.int .i64 x3) ∧ w.cell? ⟨b, off + 6 + 1, none⟩ = some (.int .i64 y3)
set_option maxRecDepth 100000 in
set_option maxHeartbeats 8000000 in
theorem scurve (w : World) (b off c : Nat) (x0 y0 x1 y1 x2 y2 x3 y3 k : Int) (hb : b < w.heap.size) (h : Four w b off x0 y0 x1 y1 x2 y2 x3 y3) (f0 : fx x0) (f1 : fx y0) (f2 : fx x1) (f3 : fx y1) (f4 : fx x2) (f5 : fx y2) (f6 : fx x3) (f7 : fx y3) (h0 : 0 ≤ k) (h1 : k ≤ 8) :
  Calls Try.prog 47 #[.slice (some ⟨b, off, none⟩) 4 c, .int .i64 k] w fun e w' => e = .returned (.agg #[.int .i64 (bez x0 x1 x2 x3 k), .int .i64 (bez y0 y1 y2 y3 k)]) ∧ Kp w w' := by
 have HX : Hid _ := fun w => sbez w x0 x1 x2 x3 k f0 f2 f4 f6 h0 h1
 have HY : Hid _ := fun w => sbez w y0 y1 y2 y3 k f1 f3 f5 f7 h0 h1
 clear f0 f1 f2 f3 f4 f5 f6 f7
 generalize bez x0 x1 x2 x3 k = vx at *
 generalize bez y0 y1 y2 y3 k = vy at *
 have keep : ∀ o, ((w.alloc o).drew.cell? ⟨b, off, none⟩ = some (.int .i64 x0) ∧ (w.alloc o).drew.cell? ⟨b, off + 1, none⟩ = some (.int .i64 y0) ∧ (w.alloc o).drew.cell? ⟨b, off + 2, none⟩ = some (.int .i64 x1) ∧ (w.alloc o).drew.cell? ⟨b, off + 2 + 1, none⟩ = some (.int .i64 y1) ∧
 (w.alloc o).drew.cell? ⟨b, off + 4, none⟩ = some (.int .i64 x2) ∧ (w.alloc o).drew.cell? ⟨b, off + 4 + 1, none⟩ = some (.int .i64 y2) ∧ (w.alloc o).drew.cell? ⟨b, off + 6, none⟩ = some (.int .i64 x3) ∧ (w.alloc o).drew.cell? ⟨b, off + 6 + 1, none⟩ = some (.int .i64 y3)) := by
  intro o
  have kc : ∀ x, (w.alloc o).drew.cell? ⟨b, x, none⟩ = w.cell? ⟨b, x, none⟩ := fun x => (Below.cell ((Below.refl w.heap.size w).alloc (Nat.le_refl _) o) (p := ⟨b, x, none⟩) hb)
  obtain ⟨q0, q1, q2, q3, q4, q5, q6, q7⟩ := h
  exact ⟨(kc _).trans q0, (kc _).trans q1, (kc _).trans q2, (kc _).trans q3, (kc _).trans q4, (kc _).trans q5, (kc _).trans q6, (kc _).trans q7⟩
 clear h
 go_enter Try.func47, Try.ntmps47
 go_wp2
 go_region_held3 (fun w' => w'.cell? ⟨b, off, none⟩ = some (.int .i64 x0) ∧ w'.cell? ⟨b, off + 1, none⟩ = some (.int .i64 y0) ∧ w'.cell? ⟨b, off + 2, none⟩ = some (.int .i64 x1) ∧ w'.cell? ⟨b, off + 2 + 1, none⟩ = some (.int .i64 y1) ∧ w'.cell? ⟨b, off + 4, none⟩ = some (.int .i64 x2) ∧ w'.cell? ⟨b, off + 4 + 1, none⟩ = some (.int .i64 y2) ∧ w'.cell? ⟨b, off + 6, none⟩ = some (.int .i64 x3) ∧ w'.cell? ⟨b, off + 6 + 1, none⟩ = some (.int .i64 y3))
  (with_reducible exact keep _)
  (first | (go_at_call_of 81 (Value.int .i64 x0); refine Calls.mono (HX.out _) ?_; rintro e w' ⟨rfl, rfl⟩) | (go_at_call_of 81 (Value.int .i64 y0); refine Calls.mono (HY.out _) ?_; rintro e w' ⟨rfl, rfl⟩))
 all_goals
  go_wp2
  exact bodyPost_ret (v := .agg #[.int .i64 vx, .int .i64 vy]) (by simp [results, Try.results47, go_sem]) rfl ⟨rfl, ((Kp.refl w).alloc _ _).drew⟩
def curveP (l : List Pnt) (k : Int) : Pnt := (bez (ptAt l 0).1 (ptAt l 1).1 (ptAt l 2).1 (ptAt l 3).1 k, bez (ptAt l 0).2 (ptAt l 1).2 (ptAt l 2).2 (ptAt l 3).2 k)
theorem ptB_fx {p : Pnt} (h : ptB p = true) : fx p.1 ∧ fx p.2 := by
 unfold ptB at h
 rw [Bool.and_eq_true] at h
 exact ⟨fixB_iff.1 h.1, fixB_iff.1 h.2⟩
theorem ptsB_at {l : List Pnt} (h : ptsB l = true) (i : Nat) (hi : i < l.length) : ptB (ptAt l i) = true := by
 unfold ptsB at h
 rw [List.all_eq_true] at h
 unfold ptAt
 rw [show l.getD i (0, 0) = l[i] by simp [hi]]
 exact h _ (List.getElem_mem hi)
theorem curve_good {l : List Pnt} (hl : l.length = 4) (h : ptsB l = true) {k : Int} (h0 : 0 ≤ k) (h1 : k ≤ 8) : ptB (curveP l k) = true := by
 have f0 := ptB_fx (ptsB_at h 0 (by omega))
 have f1 := ptB_fx (ptsB_at h 1 (by omega))
 have f2 := ptB_fx (ptsB_at h 2 (by omega))
 have f3 := ptB_fx (ptsB_at h 3 (by omega))
 unfold ptB curveP
 rw [Bool.and_eq_true]
 exact ⟨fixB_iff.2 (bez_bd f0.1 f1.1 f2.1 f3.1 h0 h1), fixB_iff.2 (bez_bd f0.2 f1.2 f2.2 f3.2 h0 h1)⟩
theorem four_of {w : World} {a : Option Addr} {l : List Pnt} (hl : l.length = 4) (h : Pts w a l) : ∃ b off, a = some ⟨b, off, none⟩ ∧ b < w.heap.size ∧ Four w b off (ptAt l 0).1 (ptAt l 0).2 (ptAt l 1).1 (ptAt l 1).2 (ptAt l 2).1 (ptAt l 2).2 (ptAt l 3).1 (ptAt l 3).2 := by
 rcases h with h | ⟨b, off, rfl, hb, hc⟩
 ·rw [h] at hl; simp at hl
 ·refine ⟨b, off, rfl, hb, ?_⟩
  have c0 := hc 0 (by omega)
  have c1 := hc 1 (by omega)
  have c2 := hc 2 (by omega)
  have c3 := hc 3 (by omega)
  exact ⟨c0.1, c0.2, c1.1, c1.2, c2.1, c2.2, c3.1, c3.2⟩
theorem scurve_any (w : World) (a : Option Addr) (c : Nat) (l : List Pnt) (k : Int) (hl : l.length = 4) (hr : Pts w a l) (hg : ptsB l = true) (h0 : 0 ≤ k) (h1 : k ≤ 8) :
  Calls Try.prog 47 #[.slice a 4 c, .int .i64 k] w fun e w' => e = .returned (ptV (curveP l k)) ∧ Kp w w' := by
 obtain ⟨b, off, rfl, hb, h4⟩ := four_of hl hr
 have f0 := ptB_fx (ptsB_at hg 0 (by omega))
 have f1 := ptB_fx (ptsB_at hg 1 (by omega))
 have f2 := ptB_fx (ptsB_at hg 2 (by omega))
 have f3 := ptB_fx (ptsB_at hg 3 (by omega))
 exact scurve w b off c _ _ _ _ _ _ _ _ k hb h4 f0.1 f0.2 f1.1 f1.2 f2.1 f2.2 f3.1 f3.2 h0 h1
def prs : List Int → List Pnt
 | x :: y :: l => (x, y) :: prs l
 | _ => []
def crv (p : List Pnt) (ns : List Int) : List Pnt := (List.range 8).map fun (k : Nat) => curveP (lastP p :: prs ns) ((k : Int) + 1)
structure DS where
 o : List LD
 p : List Pnt
def drS (d : DS) (s : SD) : DS :=
 if s.kind = 1 then ⟨endL d.o d.p false, prs s.ns⟩
 else if s.kind = 2 then ⟨d.o, d.p ++ prs s.ns⟩
 else if s.kind = 3 then ⟨d.o, d.p ++ crv d.p s.ns⟩
 else ⟨endL d.o d.p true, [ptAt d.p 0]⟩
def stS (l : List SD) : Nat → DS
 | 0 => ⟨[], []⟩
 | k + 1 => drS (stS l k) (stAt l k)
def lnsP (l : List SD) : List LD := endL (stS l l.length).o (stS l l.length).p false
theorem stOk_some {l : List SD} {i : Nat} (h : stOk l i = true) : kdB (stAt l i).kind = true ∧ ((stAt l i).ns.length : Int) = kdN (stAt l i).kind ∧ (stAt l i).ns.all fixB = true ∧ (i ≠ 0 ∨ (stAt l i).kind = 1) := by
 unfold stOk at h
 simp only [Bool.and_eq_true, Bool.or_eq_true, decide_eq_true_eq] at h
 exact h
theorem kd_cases {k : Int} (h : kdB k = true) : k = 1 ∨ k = 2 ∨ k = 3 ∨ k = 4 := by
 unfold kdB at h
 simp only [Bool.or_eq_true, decide_eq_true_eq] at h
 exact h
theorem ns_two {ns : List Int} (h : ns.length = 2) : ∃ x y, ns = [x, y] := by
 match ns, h with
 | [x, y], _ => exact ⟨x, y, rfl⟩
theorem ns_six {ns : List Int} (h : ns.length = 6) : ∃ a b c d e f, ns = [a, b, c, d, e, f] := by
 match ns, h with
 | [a, b, c, d, e, f], _ => exact ⟨a, b, c, d, e, f, rfl⟩
theorem crv_len (p : List Pnt) (ns : List Int) : (crv p ns).length = 8 := by simp [crv]
theorem stS_bd {l : List SD} (h : ∀ i, i < l.length → stOk l i = true) : ∀ k, k ≤ l.length → manyL (stS l k).o + (stS l k).p.length ≤ 9 * k ∧ (stS l k).p.length ≤ 9 * k ∧ (stS l k).o.length ≤ k ∧ (0 < k → 0 < (stS l k).p.length)
 | 0, _ => ⟨by simp [stS, manyL], by simp [stS], by simp [stS], fun h => absurd h (by omega)⟩
 | k + 1, hk => by
  obtain ⟨h1, h2, h3, h4⟩ := stS_bd h k (by omega)
  obtain ⟨k1, k2, k3, k4⟩ := stOk_some (h k (by omega))
  have e1 := endL_many (stS l k).o (stS l k).p false
  have e2 := endL_many (stS l k).o (stS l k).p true
  have f1 := endL_len (stS l k).o (stS l k).p false
  have f2 := endL_len (stS l k).o (stS l k).p true
  show manyL (drS (stS l k) (stAt l k)).o + (drS (stS l k) (stAt l k)).p.length ≤ 9 * (k + 1) ∧ (drS (stS l k) (stAt l k)).p.length ≤ 9 * (k + 1) ∧ (drS (stS l k) (stAt l k)).o.length ≤ k + 1 ∧ (0 < k + 1 → 0 < (drS (stS l k) (stAt l k)).p.length)
  unfold drS
  rcases kd_cases k1 with e | e | e | e
  ·have : (stAt l k).ns.length = 2 := by unfold kdN at k2; rw [if_pos e] at k2; omega
   obtain ⟨x, y, hn⟩ := ns_two this
   simp only [e, if_true, hn, prs, List.length_cons, List.length_nil]
   omega
  ·have : (stAt l k).ns.length = 2 := by unfold kdN at k2; rw [if_neg (by omega), if_pos e] at k2; omega
   obtain ⟨x, y, hn⟩ := ns_two this
   simp only [e, show ¬ ((2 : Int) = 1) by omega, if_false, if_true, hn, prs, List.length_append, List.length_cons, List.length_nil]
   omega
  ·simp only [e, show ¬ ((3 : Int) = 1) by omega, show ¬ ((3 : Int) = 2) by omega, if_false, if_true, List.length_append, crv_len]
   omega
  ·simp only [e, show ¬ ((4 : Int) = 1) by omega, show ¬ ((4 : Int) = 2) by omega, show ¬ ((4 : Int) = 3) by omega, if_false, List.length_cons, List.length_nil]
   have hk0 : k ≠ 0 := by
    rcases k4 with h | h
    ·exact h
    ·omega
   have := h4 (by omega)
   omega
theorem lns_many {l : List SD} (h : ∀ i, i < l.length → stOk l i = true) (hl : l.length ≤ 60) : manyL (lnsP l) ≤ 600 := by
 have := (stS_bd h l.length (Nat.le_refl _)).1
 have e := endL_many (stS l l.length).o (stS l l.length).p false
 unfold lnsP
 omega
theorem prs_good : ∀ ns : List Int, ns.all fixB = true → ptsB (prs ns) = true
 | [], _ => rfl
 | [x], _ => rfl
 | x :: y :: l, h => by
  simp only [List.all_cons, Bool.and_eq_true] at h
  have := prs_good l h.2.2
  unfold ptsB at this ⊢
  simp only [prs, List.all_cons, Bool.and_eq_true]
  exact ⟨by unfold ptB; rw [h.1, h.2.1]; rfl, this⟩
theorem endL_good {o : List LD} {p : List Pnt} (c : Bool) (ho : fixL o = true) (hp : ptsB p = true) : fixL (endL o p c) = true := by
 unfold endL
 split
 ·unfold fixL at ho ⊢
  rw [List.all_append, ho]
  simp [hp]
 ·exact ho
theorem crv_good {p : List Pnt} {ns : List Int} (hp : ptsB p = true) (h0 : 0 < p.length) (hn : ns.length = 6) (hg : ns.all fixB = true) : ptsB (crv p ns) = true := by
 unfold ptsB
 rw [List.all_eq_true]
 intro q hq
 unfold crv at hq
 obtain ⟨k, hk, rfl⟩ := List.mem_map.1 hq
 have hk := List.mem_range.1 hk
 refine curve_good ?_ ?_ (by omega) (by omega)
 ·obtain ⟨a, b, c, d, e, f, rfl⟩ := ns_six hn
  rfl
 ·have h1 := ptsB_at hp (p.length - 1) (by omega)
  have h2 := prs_good ns hg
  unfold ptsB at h2 ⊢
  simp only [List.all_cons, Bool.and_eq_true]
  exact ⟨h1, h2⟩
theorem stS_good {l : List SD} (h : ∀ i, i < l.length → stOk l i = true) : ∀ k, k ≤ l.length → fixL (stS l k).o = true ∧ ptsB (stS l k).p = true
 | 0, _ => ⟨rfl, rfl⟩
 | k + 1, hk => by
  obtain ⟨h1, h2⟩ := stS_good h k (by omega)
  obtain ⟨k1, k2, k3, k4⟩ := stOk_some (h k (by omega))
  obtain ⟨_, _, _, hp⟩ := stS_bd h k (by omega)
  show fixL (drS (stS l k) (stAt l k)).o = true ∧ ptsB (drS (stS l k) (stAt l k)).p = true
  unfold drS
  have happ : ∀ a b : List Pnt, ptsB a = true → ptsB b = true → ptsB (a ++ b) = true := fun a b ha hb => by unfold ptsB at *; rw [List.all_append, ha, hb]; rfl
  rcases kd_cases k1 with e | e | e | e
  ·simp only [e, if_true]
   exact ⟨endL_good _ h1 h2, prs_good _ k3⟩
  ·simp only [e, show ¬ ((2 : Int) = 1) by omega, if_false, if_true]
   exact ⟨h1, happ _ _ h2 (prs_good _ k3)⟩
  ·simp only [e, show ¬ ((3 : Int) = 1) by omega, show ¬ ((3 : Int) = 2) by omega, if_false, if_true]
   have hn : (stAt l k).ns.length = 6 := by unfold kdN at k2; rw [if_neg (by omega), if_neg (by omega), if_pos e] at k2; omega
   have hk0 : k ≠ 0 := by
    rcases k4 with h | h
    ·exact h
    ·omega
   exact ⟨h1, happ _ _ h2 (crv_good h2 (hp (by omega)) hn k3)⟩
  ·simp only [e, show ¬ ((4 : Int) = 1) by omega, show ¬ ((4 : Int) = 2) by omega, show ¬ ((4 : Int) = 3) by omega, if_false]
   have hk0 : k ≠ 0 := by
    rcases k4 with h | h
    ·exact h
    ·omega
   refine ⟨endL_good _ h1 h2, ?_⟩
   have := ptsB_at h2 0 (hp (by omega))
   unfold ptsB
   simp [this]
theorem lns_good {l : List SD} (h : ∀ i, i < l.length → stOk l i = true) (hl : l.length ≤ 60) : goodL (lnsP l) = true := by
 obtain ⟨h1, h2⟩ := stS_good h l.length (Nat.le_refl _)
 unfold goodL
 rw [Bool.and_eq_true]
 exact ⟨endL_good _ h1 h2, decide_eq_true (lns_many h hl)⟩
end Go.Proofs.Ytdjemnbdaddegaa
