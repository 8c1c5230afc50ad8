/-
  Points of curves, of both; each theorem names its conditions.
-/
import Derived.Test.YtoajjdlgipphiaaPtG0
import Derived.Test.YtoajjdlgipphiaaRfDown
import Derived.Deep.RegionHeld3
namespace Go.Proofs.Ytoajjdlgipphiaa
open Go.ChangeShapes Go.WideShapes Go.ChangeAt Go.RowKit
set_option linter.unusedVariables false

/-- A part of a curve's point k. -/
def bez (a b c d k : Int) : Int := (a * (8 - k) * (8 - k) * (8 - k) + 3 * b * (8 - k) * (8 - k) * k + 3 * c * (8 - k) * k * k + d * k * k * k + 256) / 512
def fx (x : Int) : Prop := -1099511627776 ≤ x ∧ x ≤ 1099511627776
theorem nine {k : Int} (h0 : 0 ≤ k) (h1 : k ≤ 8) : k = 0 ∨ k = 1 ∨ k = 2 ∨ k = 3 ∨ k = 4 ∨ k = 5 ∨ k = 6 ∨ k = 7 ∨ k = 8 := by omega
theorem bez_bd {a b c d k : Int} (ha : fx a) (hb : fx b) (hc : fx c) (hd : fx d) (h0 : 0 ≤ k) (h1 : k ≤ 8) : fx (bez a b c d k) := by
  unfold fx bez at *
  rcases nine h0 h1 with rfl | rfl | rfl | rfl | rfl | rfl | rfl | rfl | rfl <;> omega
set_option maxHeartbeats 4000000 in
theorem sbez (w : World) (a b c d k : Int) (ha : fx a) (hb : fx b) (hc : fx c) (hd : fx d) (h0 : 0 ≤ k) (h1 : k ≤ 8) :
    Calls Try.prog 82 #[.int .i64 a, .int .i64 b, .int .i64 c, .int .i64 d, .int .i64 k] w fun e w' => e = .returned (.int .i64 (bez a b c d k)) ∧ w' = w := by
  unfold fx at *
  rcases nine h0 h1 with rfl | rfl | rfl | rfl | rfl | rfl | rfl | rfl | rfl
  all_goals
    go_enter Try.func82, Try.ntmps82
    go_wp2_with (go_at_call 75; refine (sdown_any _ _ _ (by omega) (by omega) (by omega) (by omega)).mono ?_; rintro e w' ⟨rfl, rfl⟩)
    go_ret
    exact ⟨ret_int (by unfold bez; omega), rfl⟩

/-- The cells of four points. -/
def Four (w : World) (b off : Nat) (x0 y0 x1 y1 x2 y2 x3 y3 : Int) : Prop :=
  w.cell? ⟨b, off, none⟩ = some (.int .i64 x0) ∧ w.cell? ⟨b, off + 1, none⟩ = some (.int .i64 y0) ∧ w.cell? ⟨b, off + 2, none⟩ = some (.int .i64 x1) ∧ w.cell? ⟨b, off + 2 + 1, none⟩ = some (.int .i64 y1) ∧
  w.cell? ⟨b, off + 4, none⟩ = some (.int .i64 x2) ∧ w.cell? ⟨b, off + 4 + 1, none⟩ = some (.int .i64 y2) ∧ w.cell? ⟨b, off + 6, none⟩ = some (.int .i64 x3) ∧ w.cell? ⟨b, off + 6 + 1, none⟩ = some (.int .i64 y3)
set_option maxRecDepth 100000 in
set_option maxHeartbeats 8000000 in
theorem scurve (w : World) (b off c : Nat) (x0 y0 x1 y1 x2 y2 x3 y3 k : Int) (hb : b < w.heap.size) (h : Four w b off x0 y0 x1 y1 x2 y2 x3 y3) (f0 : fx x0) (f1 : fx y0) (f2 : fx x1) (f3 : fx y1) (f4 : fx x2) (f5 : fx y2) (f6 : fx x3) (f7 : fx y3) (h0 : 0 ≤ k) (h1 : k ≤ 8) :
    Calls Try.prog 67 #[.slice (some ⟨b, off, none⟩) 4 c, .int .i64 k] w fun e w' => e = .returned (.agg #[.int .i64 (bez x0 x1 x2 x3 k), .int .i64 (bez y0 y1 y2 y3 k)]) ∧ Kp w w' := by
  have HX : Hid _ := fun w => sbez w x0 x1 x2 x3 k f0 f2 f4 f6 h0 h1
  have HY : Hid _ := fun w => sbez w y0 y1 y2 y3 k f1 f3 f5 f7 h0 h1
  clear f0 f1 f2 f3 f4 f5 f6 f7
  generalize bez x0 x1 x2 x3 k = vx at *
  generalize bez y0 y1 y2 y3 k = vy at *
  have keep : ∀ o, ((w.alloc o).drew.cell? ⟨b, off, none⟩ = some (.int .i64 x0) ∧ (w.alloc o).drew.cell? ⟨b, off + 1, none⟩ = some (.int .i64 y0) ∧ (w.alloc o).drew.cell? ⟨b, off + 2, none⟩ = some (.int .i64 x1) ∧ (w.alloc o).drew.cell? ⟨b, off + 2 + 1, none⟩ = some (.int .i64 y1) ∧
  (w.alloc o).drew.cell? ⟨b, off + 4, none⟩ = some (.int .i64 x2) ∧ (w.alloc o).drew.cell? ⟨b, off + 4 + 1, none⟩ = some (.int .i64 y2) ∧ (w.alloc o).drew.cell? ⟨b, off + 6, none⟩ = some (.int .i64 x3) ∧ (w.alloc o).drew.cell? ⟨b, off + 6 + 1, none⟩ = some (.int .i64 y3)) := by
    intro o
    have kc : ∀ x, (w.alloc o).drew.cell? ⟨b, x, none⟩ = w.cell? ⟨b, x, none⟩ := fun x => (Below.cell ((Below.refl w.heap.size w).alloc (Nat.le_refl _) o) (p := ⟨b, x, none⟩) hb)
    obtain ⟨q0, q1, q2, q3, q4, q5, q6, q7⟩ := h
    exact ⟨(kc _).trans q0, (kc _).trans q1, (kc _).trans q2, (kc _).trans q3, (kc _).trans q4, (kc _).trans q5, (kc _).trans q6, (kc _).trans q7⟩
  clear h
  go_enter Try.func67, Try.ntmps67
  go_wp2
  go_region_held3 (fun w' => w'.cell? ⟨b, off, none⟩ = some (.int .i64 x0) ∧ w'.cell? ⟨b, off + 1, none⟩ = some (.int .i64 y0) ∧ w'.cell? ⟨b, off + 2, none⟩ = some (.int .i64 x1) ∧ w'.cell? ⟨b, off + 2 + 1, none⟩ = some (.int .i64 y1) ∧ w'.cell? ⟨b, off + 4, none⟩ = some (.int .i64 x2) ∧ w'.cell? ⟨b, off + 4 + 1, none⟩ = some (.int .i64 y2) ∧ w'.cell? ⟨b, off + 6, none⟩ = some (.int .i64 x3) ∧ w'.cell? ⟨b, off + 6 + 1, none⟩ = some (.int .i64 y3))
    (with_reducible exact keep _)
    (first | (go_at_call_of 82 (Value.int .i64 x0); refine Calls.mono (HX.out _) ?_; rintro e w' ⟨rfl, rfl⟩) | (go_at_call_of 82 (Value.int .i64 y0); refine Calls.mono (HY.out _) ?_; rintro e w' ⟨rfl, rfl⟩))
  all_goals
    go_wp2
    exact bodyPost_ret (v := .agg #[.int .i64 vx, .int .i64 vy]) (by simp [results, Try.results67, go_sem]) rfl ⟨rfl, ((Kp.refl w).alloc _ _).drew⟩
/-- A whole point. -/
def curveP (l : List Pnt) (k : Int) : Pnt := (bez (ptAt l 0).1 (ptAt l 1).1 (ptAt l 2).1 (ptAt l 3).1 k, bez (ptAt l 0).2 (ptAt l 1).2 (ptAt l 2).2 (ptAt l 3).2 k)
theorem ptB_fx {p : Pnt} (h : ptB p = true) : fx p.1 ∧ fx p.2 := by
  unfold ptB at h
  rw [Bool.and_eq_true] at h
  exact ⟨fixB_iff.1 h.1, fixB_iff.1 h.2⟩
theorem ptsB_at {l : List Pnt} (h : ptsB l = true) (i : Nat) (hi : i < l.length) : ptB (ptAt l i) = true := by
  unfold ptsB at h
  rw [List.all_eq_true] at h
  unfold ptAt
  rw [show l.getD i (0, 0) = l[i] by simp [hi]]
  exact h _ (List.getElem_mem hi)
theorem curve_good {l : List Pnt} (hl : l.length = 4) (h : ptsB l = true) {k : Int} (h0 : 0 ≤ k) (h1 : k ≤ 8) : ptB (curveP l k) = true := by
  have f0 := ptB_fx (ptsB_at h 0 (by omega))
  have f1 := ptB_fx (ptsB_at h 1 (by omega))
  have f2 := ptB_fx (ptsB_at h 2 (by omega))
  have f3 := ptB_fx (ptsB_at h 3 (by omega))
  unfold ptB curveP
  rw [Bool.and_eq_true]
  exact ⟨fixB_iff.2 (bez_bd f0.1 f1.1 f2.1 f3.1 h0 h1), fixB_iff.2 (bez_bd f0.2 f1.2 f2.2 f3.2 h0 h1)⟩
theorem four_of {w : World} {a : Option Addr} {l : List Pnt} (hl : l.length = 4) (h : Pts w a l) : ∃ b off, a = some ⟨b, off, none⟩ ∧ b < w.heap.size ∧ Four w b off (ptAt l 0).1 (ptAt l 0).2 (ptAt l 1).1 (ptAt l 1).2 (ptAt l 2).1 (ptAt l 2).2 (ptAt l 3).1 (ptAt l 3).2 := by
  rcases h with h | ⟨b, off, rfl, hb, hc⟩
  · rw [h] at hl; simp at hl
  · refine ⟨b, off, rfl, hb, ?_⟩
    have c0 := hc 0 (by omega)
    have c1 := hc 1 (by omega)
    have c2 := hc 2 (by omega)
    have c3 := hc 3 (by omega)
    exact ⟨c0.1, c0.2, c1.1, c1.2, c2.1, c2.2, c3.1, c3.2⟩
theorem scurve_any (w : World) (a : Option Addr) (c : Nat) (l : List Pnt) (k : Int) (hl : l.length = 4) (hr : Pts w a l) (hg : ptsB l = true) (h0 : 0 ≤ k) (h1 : k ≤ 8) :
    Calls Try.prog 67 #[.slice a 4 c, .int .i64 k] w fun e w' => e = .returned (ptV (curveP l k)) ∧ Kp w w' := by
  obtain ⟨b, off, rfl, hb, h4⟩ := four_of hl hr
  have f0 := ptB_fx (ptsB_at hg 0 (by omega))
  have f1 := ptB_fx (ptsB_at hg 1 (by omega))
  have f2 := ptB_fx (ptsB_at hg 2 (by omega))
  have f3 := ptB_fx (ptsB_at hg 3 (by omega))
  exact scurve w b off c _ _ _ _ _ _ _ _ k hb h4 f0.1 f0.2 f1.1 f1.2 f2.1 f2.2 f3.1 f3.2 h0 h1
end Go.Proofs.Ytoajjdlgipphiaa
