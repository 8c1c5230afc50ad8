/-
  Points that are near: whether numbers lie between two others, by the program; points within the strokes' bounds, of both; each theorem names its conditions.
  Points that are near: whether numbers lie between two others, by the program; points within the strokes' bounds, of both; sums and differences of points; each theorem names its conditions.
  What the program's quotient rounded down is, for the numbers within the bounds named in its theorem.
  A place on a side, by the program: placeOn; each theorem names its conditions.
-/
import Derived.Test.YtjjndpbplclidaaJAB
import Derived.Test.YtjjndpbplclidaaJAI
import Derived.Test.YtjjndpbplclidaaJAD
import Derived.Test.YtjjndpbplclidaaJAA
import Derived.Test.YtjjndpbplclidaaJAG
namespace Go.Proofs.Ytjjndpbplclidaa
open Go.ChangeShapes Go.WideShapes Go.ChangeAt Go.RowKit
set_option linter.unusedVariables false

/-- A number within the strokes' bounds. -/
def nrB (x : Int) : Bool := decide (-67108864 ≤ x ∧ x ≤ 67108864)
def nearB (p : Pnt) : Bool := nrB p.1 && nrB p.2
def nearsB (l : List Pnt) : Bool := l.all nearB
def nr (x : Int) : Prop := -67108864 ≤ x ∧ x ≤ 67108864
theorem nrB_iff {x : Int} : nrB x = true ↔ nr x := by unfold nrB nr; simp
theorem nearB_nr {p : Pnt} (h : nearB p = true) : nr p.1 ∧ nr p.2 := by
  unfold nearB at h
  rw [Bool.and_eq_true] at h
  exact ⟨nrB_iff.1 h.1, nrB_iff.1 h.2⟩
theorem nearsB_at {l : List Pnt} (h : nearsB l = true) (i : Nat) (hi : i < l.length) : nearB (ptAt l i) = true := by
  unfold nearsB at h
  rw [List.all_eq_true] at h
  unfold ptAt
  rw [show l.getD i (0, 0) = l[i] by simp [hi]]
  exact h _ (List.getElem_mem hi)
theorem snear (w : World) (x y : Int) : Calls Try.prog 26 #[.agg #[.int .i64 x, .int .i64 y]] w fun e w' => e = .returned (.bool (nearB (x, y))) ∧ Kp w w' := by
  have HX : Hid (∀ w, Calls Try.prog 24 #[.int .i64 x, .int .i64 (-67108864), .int .i64 67108864] w fun e w' => e = .returned (.bool (nrB x)) ∧ w' = w) := fun w => in_any w x _ _
  have HY : Hid (∀ w, Calls Try.prog 24 #[.int .i64 y, .int .i64 (-67108864), .int .i64 67108864] w fun e w' => e = .returned (.bool (nrB y)) ∧ w' = w) := fun w => in_any w y _ _
  have hv : nearB (x, y) = (nrB x && nrB y) := rfl
  rw [hv]
  clear hv
  generalize nrB x = bx at *
  generalize nrB y = by' at *
  cases bx with
  | false =>
    go_enter Try.func26, Try.ntmps26
    go_wp2_with fail
    refine (HX.out _).mono ?_
    rintro e w1 ⟨rfl, rfl⟩
    go_wp2
    go_ret
    exact ⟨rfl, (Kp.refl w).alloc _ _⟩
  | true =>
    rw [Bool.true_and]
    go_enter Try.func26, Try.ntmps26
    go_wp2_with fail
    refine (HX.out _).mono ?_
    rintro e w1 ⟨rfl, rfl⟩
    go_wp2_with fail
    refine (HY.out _).mono ?_
    rintro e w1 ⟨rfl, rfl⟩
    go_wp2
    go_ret
    exact ⟨rfl, (Kp.refl w).alloc _ _⟩
set_option maxHeartbeats 1000000 in
theorem inear (w : World) (a : Option Addr) (c : Nat) (l : List Pnt) (hl : l.length ≤ 1048576) (hr : Pts w a l) :
    Calls Try.prog 30 #[.slice a l.length c] w fun e w' => e = .returned (.bool (nearsB l)) ∧ Kp w w' := by
  obtain ⟨V, hV⟩ : ∃ V, nearsB l = V := ⟨_, rfl⟩
  rw [hV]
  have HV : Hid _ := hV
  have HR : Hid (Pts w a l) := hr
  clear hr hV
  go_enter Try.func30, Try.ntmps30
  go_wp2
  go_loopw [7] (fun i wr => ∃ k : Nat, k ≤ l.length ∧ i = .int .i64 k ∧ (∀ j, j < k → nearB (ptAt l j) = true) ∧ Kp w wr) (fun i _ => l.length - (intOf i).toNat)
  case atStart => exact ⟨0, Nat.zero_le _, rfl, fun j hj => absurd hj (by omega), Kp.refl _⟩
  case round =>
    obtain ⟨k, hk, rfl, ha, hw⟩ := hrel
    have HA : Hid _ := ha
    have HW : Hid (Kp w wr) := hw
    clear ha hw
    by_cases hlt : k < l.length
    · rcases (HR.out.nw HW.out.nw) with h | ⟨b, off, rfl, hb, hc⟩
      · rw [h] at hlt; simp at hlt
      obtain ⟨q0, q1⟩ := hc k hlt
      clear hc
      obtain ⟨p, hp⟩ : ∃ p, ptAt l k = p := ⟨_, rfl⟩
      have HP : Hid (ptAt l k = p) := hp
      rw [hp] at q0 q1
      clear hp
      obtain ⟨x, y⟩ := p
      have HX : Hid (∀ w, Calls Try.prog 29 #[.int .i64 x, .int .i64 (-67108864), .int .i64 67108864] w fun e w' => e = .returned (.bool (nrB x)) ∧ w' = w) := fun w => iin_any w x _ _
      have HY : Hid (∀ w, Calls Try.prog 29 #[.int .i64 y, .int .i64 (-67108864), .int .i64 67108864] w fun e w' => e = .returned (.bool (nrB y)) ∧ w' = w) := fun w => iin_any w y _ _
      have HB : Hid (nearB (ptAt l k) = (nrB x && nrB y)) := by show _ = _; rw [HP.out]; rfl
      generalize nrB x = bx at *
      generalize nrB y = by' at *
      cases bx with
      | false =>
        have HF : Hid (V = false) := HV.out.symm.trans (all_false _ (0, 0) l k hlt HB.out)
        go_wp2_with fail
        refine (HX.out _).mono ?_
        rintro e w1 ⟨rfl, rfl⟩
        go_wp2
        go_ret
        exact ⟨ret_bool HF.out.symm, HW.out.alloc _ _⟩
      | true =>
        rw [Bool.true_and] at HB
        cases by' with
        | false =>
          have HF : Hid (V = false) := HV.out.symm.trans (all_false _ (0, 0) l k hlt HB.out)
          go_wp2_with fail
          refine (HX.out _).mono ?_
          rintro e w1 ⟨rfl, rfl⟩
          go_wp2_with fail
          refine (HY.out _).mono ?_
          rintro e w1 ⟨rfl, rfl⟩
          go_wp2
          go_ret
          exact ⟨ret_bool HF.out.symm, HW.out.alloc _ _⟩
        | true =>
          go_wp2_with fail
          refine (HX.out _).mono ?_
          rintro e w1 ⟨rfl, rfl⟩
          go_wp2_with fail
          refine (HY.out _).mono ?_
          rintro e w1 ⟨rfl, rfl⟩
          go_wp2
          go_roundw
          case rel =>
            refine ⟨k + 1, by omega, by go_num, fun j hj => ?_, HW.out.alloc _ _⟩
            rcases Nat.lt_succ_iff_lt_or_eq.1 hj with h | h
            · exact HA.out j h
            · rw [h]; exact HB.out
          case measure => simp [intOf]; omega
    · have HX : Hid (V = true) := HV.out.symm.trans (all_true _ (0, 0) _ (fun j hj => HA.out j (by omega)))
      clear HA
      go_wp2
      go_ret
      exact ⟨ret_bool HX.out.symm, HW.out⟩
/-- Two points in a new list. -/
theorem pts2_new (W : World) (ax ay bx by' : Int) (t : TypeId) : Pts (W.alloc (.cells #[.int .i64 ax, .int .i64 ay, .int .i64 bx, .int .i64 by'] t)) (some ⟨W.heap.size, 0, none⟩) [(ax, ay), (bx, by')] := by
  refine Or.inr ⟨_, 0, rfl, by simp, fun i hi => ?_⟩
  have : i = 0 ∨ i = 1 := by simp at hi; omega
  rcases this with rfl | rfl
  · simp [ptAt]
  · simp [ptAt]
/-- Two points in boxes, later on. -/
theorem boxes2 {w w1 : World} {ax ay bx by' : Int} {t1 t2 : TypeId} (h : Kp ((w.alloc (.cells #[.int .i64 ax, .int .i64 ay] t1)).alloc (.cells #[.int .i64 bx, .int .i64 by'] t2)) w1) :
    (w1.cell? ⟨w.heap.size, 0, none⟩ = some (.int .i64 ax) ∧ w1.cell? ⟨w.heap.size, 1, none⟩ = some (.int .i64 ay)) ∧ (w1.cell? ⟨w.heap.size + 1, 0, none⟩ = some (.int .i64 bx) ∧ w1.cell? ⟨w.heap.size + 1, 1, none⟩ = some (.int .i64 by')) ∧ w.heap.size + 1 < w1.heap.size := by
  have hs0 : w.heap.size < ((w.alloc (.cells #[.int .i64 ax, .int .i64 ay] t1)).alloc (.cells #[.int .i64 bx, .int .i64 by'] t2)).heap.size := by simp; omega
  have hs : w.heap.size + 1 < ((w.alloc (.cells #[.int .i64 ax, .int .i64 ay] t1)).alloc (.cells #[.int .i64 bx, .int .i64 by'] t2)).heap.size := by simp
  exact ⟨⟨(h.cells.1 w.heap.size 0 hs0).trans (by simp [World.cell?_alloc_past]), (h.cells.1 w.heap.size 1 hs0).trans (by simp [World.cell?_alloc_past])⟩, ⟨(h.cells.1 (w.heap.size + 1) 0 hs).trans (by simp), (h.cells.1 (w.heap.size + 1) 1 hs).trans (by simp)⟩, Nat.lt_of_lt_of_le hs h.size⟩
/-- Numbers small enough for a sum. -/
def sml (x : Int) : Prop := -1099511627776 ≤ x ∧ x ≤ 1099511627776
theorem nr_sml {x : Int} (h : nr x) : sml x := by unfold nr at h; unfold sml; omega
end Go.Proofs.Ytjjndpbplclidaa
namespace Go.Proofs.Ytjjndpbplclidaa
open Go.ChangeShapes Go.WideShapes Go.ChangeAt Go.RowKit
set_option linter.unusedVariables false

theorem iminus (w : World) (x1 y1 x2 y2 : Int) (h1 : sml x1) (h2 : sml y1) (h3 : sml x2) (h4 : sml y2) :
    Calls Try.prog 78 #[.agg #[.int .i64 x1, .int .i64 y1], .agg #[.int .i64 x2, .int .i64 y2]] w fun e w' => e = .returned (.agg #[.int .i64 (x1 - x2), .int .i64 (y1 - y2)]) ∧ Kp w w' := by
  unfold sml at *
  go_enter Try.func78, Try.ntmps78
  go_wp2
  refine bodyPost_ret (v := .agg #[.int .i64 (x1 - x2), .int .i64 (y1 - y2)]) (by simp [results, Try.results78, go_sem]) rfl ⟨rfl, ?_⟩
  exact (((Kp.refl w).alloc _ _).alloc _ _).alloc _ _
end Go.Proofs.Ytjjndpbplclidaa
namespace Go.Proofs.Ytjjndpbplclidaa
open Go.ChangeShapes Go.WideShapes Go.ChangeAt Go.RowKit

set_option maxHeartbeats 400000 in
theorem divDown_any (a b : Int) (w : World) (hb : 0 < b) (hb' : b ≤ 4611686018427387904) (h1 : -4611686018427387904 ≤ a) (h2 : a ≤ 4611686018427387904) :
    Calls Try.prog 81 #[.int .i64 a, .int .i64 b] w fun e w' => e = .returned (.int .i64 (a / b)) ∧ w' = w := by
  by_cases ha : 0 ≤ a
  · have hd := ediv_bd a b ha hb
    have hm := Int.emod_nonneg a (b := b) (by omega)
    have hm' := Int.emod_lt_of_pos a hb
    go_enter Try.func81, Try.ntmps81
    go_wp2
    all_goals go_ret
    all_goals exact ⟨rfl, rfl⟩
  · have e1 := tdiv_neg_of a b (by omega)
    have e2 := tmod_neg_of a b (by omega)
    have e3 := ediv_neg_of a b hb
    have hd := ediv_bd (-a) b (by omega) hb
    have hm := Int.emod_nonneg (-a) (b := b) (by omega)
    have hm' := Int.emod_lt_of_pos (-a) hb
    by_cases hz : (-a) % b = 0
    · rw [if_pos hz] at e3
      rw [e3]
      clear e3
      generalize (-a) / b = q at *
      generalize (-a) % b = r at *
      go_enter Try.func81, Try.ntmps81
      go_wp2
      all_goals go_ret
      all_goals exact ⟨rfl, rfl⟩
    · rw [if_neg hz] at e3
      rw [e3]
      clear e3
      generalize (-a) / b = q at *
      generalize (-a) % b = r at *
      go_enter Try.func81, Try.ntmps81
      go_wp2
      all_goals go_ret
      all_goals exact ⟨rfl, rfl⟩
end Go.Proofs.Ytjjndpbplclidaa
namespace Go.Proofs.Ytjjndpbplclidaa
open Go.ChangeShapes Go.WideShapes Go.ChangeAt Go.RowKit
set_option linter.unusedVariables false

theorem iplus (w : World) (x1 y1 x2 y2 : Int) (h1 : sml x1) (h2 : sml y1) (h3 : sml x2) (h4 : sml y2) :
    Calls Try.prog 80 #[.agg #[.int .i64 x1, .int .i64 y1], .agg #[.int .i64 x2, .int .i64 y2]] w fun e w' => e = .returned (.agg #[.int .i64 (x1 + x2), .int .i64 (y1 + y2)]) ∧ Kp w w' := by
  unfold sml at *
  go_enter Try.func80, Try.ntmps80
  go_wp2
  refine bodyPost_ret (v := .agg #[.int .i64 (x1 + x2), .int .i64 (y1 + y2)]) (by simp [results, Try.results80, go_sem]) rfl ⟨rfl, ?_⟩
  exact (((Kp.refl w).alloc _ _).alloc _ _).alloc _ _
theorem ddk (a b : Int) (w : World) (hb : 0 < b) (hb' : b ≤ 4611686018427387904) (h1 : -4611686018427387904 ≤ a) (h2 : a ≤ 4611686018427387904) :
    Calls Try.prog 81 #[.int .i64 a, .int .i64 b] w fun e w' => e = .returned (.int .i64 (a / b)) ∧ Kp w w' := by
  refine Calls.mono (divDown_any a b w hb hb' h1 h2) ?_
  rintro e w' ⟨rfl, rfl⟩
  exact ⟨rfl, Kp.refl _⟩
structure PLR where
  ba : Nat
  bd : Nat
  br : Nat
  ax : Int
  ay : Int
  dx : Int
  dy : Int
  k : Int
  n : Int
  W : World
  a0 : Act
structure PLROk (X : PLR) : Prop where
  a0 : X.W.cell? ⟨X.ba, 0, none⟩ = some (.int .i64 X.ax)
  a1 : X.W.cell? ⟨X.ba, 1, none⟩ = some (.int .i64 X.ay)
  d0 : X.W.cell? ⟨X.bd, 0, none⟩ = some (.int .i64 X.dx)
  d1 : X.W.cell? ⟨X.bd, 1, none⟩ = some (.int .i64 X.dy)
  hn : 0 < X.n
  hn2 : X.n ≤ 4611686018427387904
  mx : -4611686018427387904 ≤ X.dx * X.k ∧ X.dx * X.k ≤ 4611686018427387904
  my : -4611686018427387904 ≤ X.dy * X.k ∧ X.dy * X.k ≤ 4611686018427387904
  w1 : IntKind.i64.wrap (X.dx * X.k) = X.dx * X.k
  w2 : IntKind.i64.wrap (X.dy * X.k) = X.dy * X.k
  s1 : sml X.ax
  s2 : sml X.ay
  s3 : sml (X.dx * X.k / X.n)
  s4 : sml (X.dy * X.k / X.n)
  z0 : ∃ u, X.W.cell? ⟨X.br, 0, none⟩ = some u
  z1 : ∃ u, X.W.cell? ⟨X.br, 1, none⟩ = some u
  zf : ∀ o, X.W.frozen? ⟨X.br, o, none⟩ = false
  e2 : X.a0.eval (.tmp 2) = .int .i64 X.k
  e3 : X.a0.eval (.tmp 3) = .int .i64 X.n
  e4 : X.a0.eval (.tmp 4) = .pointer (some ⟨X.ba, 0, none⟩)
  e8 : X.a0.eval (.tmp 8) = .pointer (some ⟨X.br, 0, none⟩)
  e9 : X.a0.eval (.tmp 9) = .pointer (some ⟨X.bd, 0, none⟩)
  sz : X.a0.tmps.size = 28
def PLR.val0 (X : PLR) : Nat → Value
  | 13 => .agg #[.int .i64 X.ax, .int .i64 X.ay]
  | 14 => .pointer (some ⟨X.bd, 0, none⟩)
  | 15 => .int .i64 X.dx
  | 16 => .int .i64 X.k
  | 17 => .int .i64 (X.dx * X.k)
  | 18 => .int .i64 X.n
  | 19 => .int .i64 (X.dx * X.k / X.n)
  | 20 => .pointer (some ⟨X.bd, 1, none⟩)
  | 21 => .int .i64 X.dy
  | 22 => .int .i64 X.k
  | 23 => .int .i64 (X.dy * X.k)
  | 24 => .int .i64 X.n
  | 25 => .int .i64 (X.dy * X.k / X.n)
  | 26 => .agg #[.int .i64 (X.dx * X.k / X.n), .int .i64 (X.dy * X.k / X.n)]
  | 27 => .agg #[.int .i64 (X.ax + X.dx * X.k / X.n), .int .i64 (X.ay + X.dy * X.k / X.n)]
  | _ => undef
def PLR.av : Nat → Option Nat
  | _ => none
def PLR.acts : List Nat := [15]
/-- The world, by how many of the acting ones have come up. -/
def PLR.Wd (X : PLR) : Nat → (Nat → Value) → World → Prop
  | 0, _, w => Kp X.W w
  | _, _, w => ∃ w1, Kp X.W w1 ∧ w = ((w1.setCell ⟨X.br, 0, none⟩ (.int .i64 (X.ax + X.dx * X.k / X.n))).setCell ⟨X.br, 1, none⟩ (.int .i64 (X.ay + X.dy * X.k / X.n)))
theorem PLR.chain : chainG (opsOf 2 Try.f62) PLR.acts = true := by kernel_rfl
theorem PLR.nodup : PLR.acts.Nodup := by decide
theorem PLR.inj {listed : Array Bool} {i k : Nat} (h : (List.range (opsOf 2 Try.f62).size).all (fun j => decide (j = i) || !(match dstOf (opsOf 2 Try.f62) j with | some d => decide (PLR.av d = some k) | none => false)) = true) (hu : listed.getD i false = false) : ∀ d, got (opsOf 2 Try.f62) listed d → PLR.av d ≠ some k := by
  rintro d ⟨j, h1, h2⟩ h3
  have hlt : j < (opsOf 2 Try.f62).size := by
    rcases Nat.lt_or_ge j (opsOf 2 Try.f62).size with h4 | h4
    · exact h4
    · unfold dstOf at h2; rw [Array.getElem?_eq_none h4] at h2; cases h2
  have h5 := List.all_eq_true.1 h j (List.mem_range.2 hlt)
  rw [h2] at h5
  simp only [h3, decide_true, Bool.not_true, Bool.or_false, decide_eq_true_eq] at h5
  subst h5
  rw [hu] at h1
  cases h1
theorem PLR.s0 (X : PLR) (ok : PLROk X) {Q : Exit → Act → World → Prop} : StepG (opsOf 2 Try.f62) PLR.acts PLR.av X.val0 X.Wd X.a0 Q 0 := by
  intro γ listed a w o hF hC hW h1 ho h2
  obtain ⟨hd, hop, hg⟩ := fields2 (x := some 13) (y := Op.load 54 (.tmp 4)) (z := none) (by kernel_rfl) ho
  have e4 : a.eval (.tmp 4) = .pointer (some ⟨X.ba, 0, none⟩) := (hF.eval0 (by kernel_rfl)).trans ok.e4
  have hph := phase_leG (acts := PLR.acts) (m := 0) (x := 15) hC (unl (hF.lt ho) h1) rfl [14, 0] (by kernel_rfl) (by decide)
  have hWW := hW
  generalize phase listed PLR.acts = n at hph hWW
  have hk : Kp X.W w := by
    obtain rfl : n = 0 := by omega
    exact hWW
  have hc0 := rq_at hk ok.a0
  have hc1 := rq_at hk ok.a1
  refine st_pureG hF hC hW ho h2 (by decide) hd hg rfl ?_
  show _ = Result.ok (Next.value (.agg #[.int .i64 X.ax, .int .i64 X.ay])) w
  generalize a.eval = ρ at e4 ⊢
  unfold execOp
  rw [hop]
  simp [e4, hc0, hc1, go_sem]
theorem PLR.s1 (X : PLR) (ok : PLROk X) {Q : Exit → Act → World → Prop} : StepG (opsOf 2 Try.f62) PLR.acts PLR.av X.val0 X.Wd X.a0 Q 1 := by
  intro γ listed a w o hF hC hW h1 ho h2
  obtain ⟨hd, hop, hg⟩ := fields2 (x := some 14) (y := Op.fieldAddr 54 (.tmp 9) 0) (z := none) (by kernel_rfl) ho
  have e9 : a.eval (.tmp 9) = .pointer (some ⟨X.bd, 0, none⟩) := (hF.eval0 (by kernel_rfl)).trans ok.e9
  refine st_pureG hF hC hW ho h2 (by decide) hd hg rfl ?_
  show _ = Result.ok (Next.value (.pointer (some ⟨X.bd, 0, none⟩))) w
  generalize a.eval = ρ at e9 ⊢
  unfold execOp
  rw [hop]
  simp [e9, go_sem]
theorem PLR.s2 (X : PLR) (ok : PLROk X) {Q : Exit → Act → World → Prop} : StepG (opsOf 2 Try.f62) PLR.acts PLR.av X.val0 X.Wd X.a0 Q 2 := by
  intro γ listed a w o hF hC hW h1 ho h2
  obtain ⟨hd, hop, hg⟩ := fields2 (x := some 15) (y := Op.load 3 (.tmp 14)) (z := none) (by kernel_rfl) ho
  have e14 : a.eval (.tmp 14) = .pointer (some ⟨X.bd, 0, none⟩) := slotG hF ho h2 (j := 1) (d := 14) (by kernel_rfl) (by kernel_rfl) (by rw [ok.sz]; decide)
  have hph := phase_leG (acts := PLR.acts) (m := 0) (x := 15) hC (unl (hF.lt ho) h1) rfl [14, 13, 6, 4, 2] (by kernel_rfl) (by decide)
  have hWW := hW
  generalize phase listed PLR.acts = n at hph hWW
  have hk : Kp X.W w := by
    obtain rfl : n = 0 := by omega
    exact hWW
  have hc0 := rq_at hk ok.d0
  refine st_pureG hF hC hW ho h2 (by decide) hd hg rfl ?_
  show _ = Result.ok (Next.value (.int .i64 X.dx)) w
  generalize a.eval = ρ at e14 ⊢
  unfold execOp
  rw [hop]
  simp [e14, hc0, go_sem]
theorem PLR.s3 (X : PLR) (ok : PLROk X) {Q : Exit → Act → World → Prop} : StepG (opsOf 2 Try.f62) PLR.acts PLR.av X.val0 X.Wd X.a0 Q 3 := by
  intro γ listed a w o hF hC hW h1 ho h2
  obtain ⟨hd, hop, hg⟩ := fields2 (x := some 16) (y := Op.move (.tmp 2)) (z := none) (by kernel_rfl) ho
  have e2 : a.eval (.tmp 2) = .int .i64 X.k := (hF.eval0 (by kernel_rfl)).trans ok.e2
  refine st_pureG hF hC hW ho h2 (by decide) hd hg rfl ?_
  show _ = Result.ok (Next.value (.int .i64 X.k)) w
  generalize a.eval = ρ at e2 ⊢
  unfold execOp
  rw [hop]
  simp [e2, go_sem]
theorem PLR.s4 (X : PLR) (ok : PLROk X) {Q : Exit → Act → World → Prop} : StepG (opsOf 2 Try.f62) PLR.acts PLR.av X.val0 X.Wd X.a0 Q 4 := by
  intro γ listed a w o hF hC hW h1 ho h2
  obtain ⟨hd, hop, hg⟩ := fields2 (x := some 17) (y := Op.binOp .mul 3 (.tmp 15) (.tmp 16) 3) (z := none) (by kernel_rfl) ho
  have e15 : a.eval (.tmp 15) = .int .i64 X.dx := slotG hF ho h2 (j := 2) (d := 15) (by kernel_rfl) (by kernel_rfl) (by rw [ok.sz]; decide)
  have e16 : a.eval (.tmp 16) = .int .i64 X.k := slotG hF ho h2 (j := 3) (d := 16) (by kernel_rfl) (by kernel_rfl) (by rw [ok.sz]; decide)
  refine st_pureG hF hC hW ho h2 (by decide) hd hg rfl ?_
  show _ = Result.ok (Next.value (.int .i64 (X.dx * X.k))) w
  generalize a.eval = ρ at e15 e16 ⊢
  unfold execOp
  rw [hop]
  simp [e15, e16, ok.w1, go_sem]
theorem PLR.s5 (X : PLR) (ok : PLROk X) {Q : Exit → Act → World → Prop} : StepG (opsOf 2 Try.f62) PLR.acts PLR.av X.val0 X.Wd X.a0 Q 5 := by
  intro γ listed a w o hF hC hW h1 ho h2
  obtain ⟨hd, hop, hg⟩ := fields2 (x := some 18) (y := Op.move (.tmp 3)) (z := none) (by kernel_rfl) ho
  have e3 : a.eval (.tmp 3) = .int .i64 X.n := (hF.eval0 (by kernel_rfl)).trans ok.e3
  refine st_pureG hF hC hW ho h2 (by decide) hd hg rfl ?_
  show _ = Result.ok (Next.value (.int .i64 X.n)) w
  generalize a.eval = ρ at e3 ⊢
  unfold execOp
  rw [hop]
  simp [e3, go_sem]
theorem PLR.s6 (X : PLR) (ok : PLROk X) {Q : Exit → Act → World → Prop} : StepG (opsOf 2 Try.f62) PLR.acts PLR.av X.val0 X.Wd X.a0 Q 6 := by
  intro γ listed a w o hF hC hW h1 ho h2
  obtain ⟨hd, hop, hg⟩ := fields2 (x := some 19) (y := Op.call { callee := .value (.func 81), args := #[(.tmp 17), (.tmp 18)], argTypes := #[3, 3] }) (z := none) (by kernel_rfl) ho
  have e17 : a.eval (.tmp 17) = .int .i64 (X.dx * X.k) := slotG hF ho h2 (j := 4) (d := 17) (by kernel_rfl) (by kernel_rfl) (by rw [ok.sz]; decide)
  have e18 : a.eval (.tmp 18) = .int .i64 X.n := slotG hF ho h2 (j := 5) (d := 18) (by kernel_rfl) (by kernel_rfl) (by rw [ok.sz]; decide)
  have ef : a.eval (.func 81) = .func (.func 81) #[] #[] := rfl
  have hph := phase_leG (acts := PLR.acts) (m := 0) (x := 15) hC (unl (hF.lt ho) h1) rfl [14, 13, 6] (by kernel_rfl) (by decide)
  have hWW := hW
  generalize phase listed PLR.acts = n at hph hWW
  refine st_callG hF hC hW ho h2 (by decide) hd hg rfl (f := 81) (args := #[.int .i64 (X.dx * X.k), .int .i64 X.n]) ?_ ?_ ?_
  · generalize a.eval = ρ at e17 e18 ef ⊢
    unfold execOp
    rw [hop]
    simp [e17, e18, ef, go_sem]
  · exact ddk _ _ w ok.hn ok.hn2 ok.mx.1 ok.mx.2
  · intro w' hk
    have hz : phase listed PLR.acts = 0 := by
      have := phase_leG (acts := PLR.acts) (m := 0) (x := 15) hC (unl (hF.lt ho) h1) rfl [14, 13, 6] (by kernel_rfl) (by decide)
      omega
    rw [hz] at hW ⊢
    exact Kp.trans hW hk
theorem PLR.s7 (X : PLR) (ok : PLROk X) {Q : Exit → Act → World → Prop} : StepG (opsOf 2 Try.f62) PLR.acts PLR.av X.val0 X.Wd X.a0 Q 7 := by
  intro γ listed a w o hF hC hW h1 ho h2
  obtain ⟨hd, hop, hg⟩ := fields2 (x := some 20) (y := Op.fieldAddr 54 (.tmp 9) 1) (z := none) (by kernel_rfl) ho
  have e9 : a.eval (.tmp 9) = .pointer (some ⟨X.bd, 0, none⟩) := (hF.eval0 (by kernel_rfl)).trans ok.e9
  refine st_pureG hF hC hW ho h2 (by decide) hd hg rfl ?_
  show _ = Result.ok (Next.value (.pointer (some ⟨X.bd, 1, none⟩))) w
  generalize a.eval = ρ at e9 ⊢
  unfold execOp
  rw [hop]
  simp [e9, go_sem]
theorem PLR.s8 (X : PLR) (ok : PLROk X) {Q : Exit → Act → World → Prop} : StepG (opsOf 2 Try.f62) PLR.acts PLR.av X.val0 X.Wd X.a0 Q 8 := by
  intro γ listed a w o hF hC hW h1 ho h2
  obtain ⟨hd, hop, hg⟩ := fields2 (x := some 21) (y := Op.load 3 (.tmp 20)) (z := none) (by kernel_rfl) ho
  have e20 : a.eval (.tmp 20) = .pointer (some ⟨X.bd, 1, none⟩) := slotG hF ho h2 (j := 7) (d := 20) (by kernel_rfl) (by kernel_rfl) (by rw [ok.sz]; decide)
  have hph := phase_leG (acts := PLR.acts) (m := 0) (x := 15) hC (unl (hF.lt ho) h1) rfl [14, 13, 12, 10, 8] (by kernel_rfl) (by decide)
  have hWW := hW
  generalize phase listed PLR.acts = n at hph hWW
  have hk : Kp X.W w := by
    obtain rfl : n = 0 := by omega
    exact hWW
  have hc0 := rq_at hk ok.d1
  refine st_pureG hF hC hW ho h2 (by decide) hd hg rfl ?_
  show _ = Result.ok (Next.value (.int .i64 X.dy)) w
  generalize a.eval = ρ at e20 ⊢
  unfold execOp
  rw [hop]
  simp [e20, hc0, go_sem]
theorem PLR.s9 (X : PLR) (ok : PLROk X) {Q : Exit → Act → World → Prop} : StepG (opsOf 2 Try.f62) PLR.acts PLR.av X.val0 X.Wd X.a0 Q 9 := by
  intro γ listed a w o hF hC hW h1 ho h2
  obtain ⟨hd, hop, hg⟩ := fields2 (x := some 22) (y := Op.move (.tmp 2)) (z := none) (by kernel_rfl) ho
  have e2 : a.eval (.tmp 2) = .int .i64 X.k := (hF.eval0 (by kernel_rfl)).trans ok.e2
  refine st_pureG hF hC hW ho h2 (by decide) hd hg rfl ?_
  show _ = Result.ok (Next.value (.int .i64 X.k)) w
  generalize a.eval = ρ at e2 ⊢
  unfold execOp
  rw [hop]
  simp [e2, go_sem]
theorem PLR.s10 (X : PLR) (ok : PLROk X) {Q : Exit → Act → World → Prop} : StepG (opsOf 2 Try.f62) PLR.acts PLR.av X.val0 X.Wd X.a0 Q 10 := by
  intro γ listed a w o hF hC hW h1 ho h2
  obtain ⟨hd, hop, hg⟩ := fields2 (x := some 23) (y := Op.binOp .mul 3 (.tmp 21) (.tmp 22) 3) (z := none) (by kernel_rfl) ho
  have e21 : a.eval (.tmp 21) = .int .i64 X.dy := slotG hF ho h2 (j := 8) (d := 21) (by kernel_rfl) (by kernel_rfl) (by rw [ok.sz]; decide)
  have e22 : a.eval (.tmp 22) = .int .i64 X.k := slotG hF ho h2 (j := 9) (d := 22) (by kernel_rfl) (by kernel_rfl) (by rw [ok.sz]; decide)
  refine st_pureG hF hC hW ho h2 (by decide) hd hg rfl ?_
  show _ = Result.ok (Next.value (.int .i64 (X.dy * X.k))) w
  generalize a.eval = ρ at e21 e22 ⊢
  unfold execOp
  rw [hop]
  simp [e21, e22, ok.w2, go_sem]
theorem PLR.s11 (X : PLR) (ok : PLROk X) {Q : Exit → Act → World → Prop} : StepG (opsOf 2 Try.f62) PLR.acts PLR.av X.val0 X.Wd X.a0 Q 11 := by
  intro γ listed a w o hF hC hW h1 ho h2
  obtain ⟨hd, hop, hg⟩ := fields2 (x := some 24) (y := Op.move (.tmp 3)) (z := none) (by kernel_rfl) ho
  have e3 : a.eval (.tmp 3) = .int .i64 X.n := (hF.eval0 (by kernel_rfl)).trans ok.e3
  refine st_pureG hF hC hW ho h2 (by decide) hd hg rfl ?_
  show _ = Result.ok (Next.value (.int .i64 X.n)) w
  generalize a.eval = ρ at e3 ⊢
  unfold execOp
  rw [hop]
  simp [e3, go_sem]
theorem PLR.s12 (X : PLR) (ok : PLROk X) {Q : Exit → Act → World → Prop} : StepG (opsOf 2 Try.f62) PLR.acts PLR.av X.val0 X.Wd X.a0 Q 12 := by
  intro γ listed a w o hF hC hW h1 ho h2
  obtain ⟨hd, hop, hg⟩ := fields2 (x := some 25) (y := Op.call { callee := .value (.func 81), args := #[(.tmp 23), (.tmp 24)], argTypes := #[3, 3] }) (z := none) (by kernel_rfl) ho
  have e23 : a.eval (.tmp 23) = .int .i64 (X.dy * X.k) := slotG hF ho h2 (j := 10) (d := 23) (by kernel_rfl) (by kernel_rfl) (by rw [ok.sz]; decide)
  have e24 : a.eval (.tmp 24) = .int .i64 X.n := slotG hF ho h2 (j := 11) (d := 24) (by kernel_rfl) (by kernel_rfl) (by rw [ok.sz]; decide)
  have ef : a.eval (.func 81) = .func (.func 81) #[] #[] := rfl
  have hph := phase_leG (acts := PLR.acts) (m := 0) (x := 15) hC (unl (hF.lt ho) h1) rfl [14, 13, 12] (by kernel_rfl) (by decide)
  have hWW := hW
  generalize phase listed PLR.acts = n at hph hWW
  refine st_callG hF hC hW ho h2 (by decide) hd hg rfl (f := 81) (args := #[.int .i64 (X.dy * X.k), .int .i64 X.n]) ?_ ?_ ?_
  · generalize a.eval = ρ at e23 e24 ef ⊢
    unfold execOp
    rw [hop]
    simp [e23, e24, ef, go_sem]
  · exact ddk _ _ w ok.hn ok.hn2 ok.my.1 ok.my.2
  · intro w' hk
    have hz : phase listed PLR.acts = 0 := by
      have := phase_leG (acts := PLR.acts) (m := 0) (x := 15) hC (unl (hF.lt ho) h1) rfl [14, 13, 12] (by kernel_rfl) (by decide)
      omega
    rw [hz] at hW ⊢
    exact Kp.trans hW hk
theorem PLR.s13 (X : PLR) (ok : PLROk X) {Q : Exit → Act → World → Prop} : StepG (opsOf 2 Try.f62) PLR.acts PLR.av X.val0 X.Wd X.a0 Q 13 := by
  intro γ listed a w o hF hC hW h1 ho h2
  obtain ⟨hd, hop, hg⟩ := fields2 (x := some 26) (y := Op.build 54 #[(0, (.tmp 19)), (1, (.tmp 25))]) (z := none) (by kernel_rfl) ho
  have e19 : a.eval (.tmp 19) = .int .i64 (X.dx * X.k / X.n) := slotG hF ho h2 (j := 6) (d := 19) (by kernel_rfl) (by kernel_rfl) (by rw [ok.sz]; decide)
  have e25 : a.eval (.tmp 25) = .int .i64 (X.dy * X.k / X.n) := slotG hF ho h2 (j := 12) (d := 25) (by kernel_rfl) (by kernel_rfl) (by rw [ok.sz]; decide)
  refine st_pureG hF hC hW ho h2 (by decide) hd hg rfl ?_
  show _ = Result.ok (Next.value (.agg #[.int .i64 (X.dx * X.k / X.n), .int .i64 (X.dy * X.k / X.n)])) w
  generalize a.eval = ρ at e19 e25 ⊢
  unfold execOp
  rw [hop]
  simp [e19, e25, go_sem]
theorem PLR.s14 (X : PLR) (ok : PLROk X) {Q : Exit → Act → World → Prop} : StepG (opsOf 2 Try.f62) PLR.acts PLR.av X.val0 X.Wd X.a0 Q 14 := by
  intro γ listed a w o hF hC hW h1 ho h2
  obtain ⟨hd, hop, hg⟩ := fields2 (x := some 27) (y := Op.call { callee := .value (.func 80), args := #[(.tmp 13), (.tmp 26)], argTypes := #[54, 54] }) (z := none) (by kernel_rfl) ho
  have e13 : a.eval (.tmp 13) = .agg #[.int .i64 X.ax, .int .i64 X.ay] := slotG hF ho h2 (j := 0) (d := 13) (by kernel_rfl) (by kernel_rfl) (by rw [ok.sz]; decide)
  have e26 : a.eval (.tmp 26) = .agg #[.int .i64 (X.dx * X.k / X.n), .int .i64 (X.dy * X.k / X.n)] := slotG hF ho h2 (j := 13) (d := 26) (by kernel_rfl) (by kernel_rfl) (by rw [ok.sz]; decide)
  have ef : a.eval (.func 80) = .func (.func 80) #[] #[] := rfl
  have hph := phase_leG (acts := PLR.acts) (m := 0) (x := 15) hC (unl (hF.lt ho) h1) rfl [14] (by kernel_rfl) (by decide)
  have hWW := hW
  generalize phase listed PLR.acts = n at hph hWW
  refine st_callG hF hC hW ho h2 (by decide) hd hg rfl (f := 80) (args := #[.agg #[.int .i64 X.ax, .int .i64 X.ay], .agg #[.int .i64 (X.dx * X.k / X.n), .int .i64 (X.dy * X.k / X.n)]]) ?_ ?_ ?_
  · generalize a.eval = ρ at e13 e26 ef ⊢
    unfold execOp
    rw [hop]
    simp [e13, e26, ef, go_sem]
  · exact iplus w _ _ _ _ ok.s1 ok.s2 ok.s3 ok.s4
  · intro w' hk
    have hz : phase listed PLR.acts = 0 := by
      have := phase_leG (acts := PLR.acts) (m := 0) (x := 15) hC (unl (hF.lt ho) h1) rfl [14] (by kernel_rfl) (by decide)
      omega
    rw [hz] at hW ⊢
    exact Kp.trans hW hk
theorem PLR.s15 (X : PLR) (ok : PLROk X) {Q : Exit → Act → World → Prop} : StepG (opsOf 2 Try.f62) PLR.acts PLR.av X.val0 X.Wd X.a0 Q 15 := by
  intro γ listed a w o hF hC hW h1 ho h2
  obtain ⟨hd, hop, hg⟩ := fields2 (x := none) (y := Op.store 54 (.tmp 8) (.tmp 27)) (z := none) (by kernel_rfl) ho
  have e8 : a.eval (.tmp 8) = .pointer (some ⟨X.br, 0, none⟩) := (hF.eval0 (by kernel_rfl)).trans ok.e8
  have e27 : a.eval (.tmp 27) = .agg #[.int .i64 (X.ax + X.dx * X.k / X.n), .int .i64 (X.ay + X.dy * X.k / X.n)] := slotG hF ho h2 (j := 14) (d := 27) (by kernel_rfl) (by kernel_rfl) (by rw [ok.sz]; decide)
  have hu := unl (hF.lt ho) h1
  refine st_actG (k := 0) PLR.chain PLR.nodup rfl hF hC hW h1 ho h2 (Or.inl hd) (PLR.inj (by kernel_rfl) hu) hg ?_
  intro hW0 K hK
  obtain ⟨u0, z0⟩ := ok.z0
  replace z0 := rq_at hW0 z0
  obtain ⟨u1, z1⟩ := ok.z1
  replace z1 := rq_at hW0 z1
  have zf : ∀ o, w.frozen? ⟨X.br, o, none⟩ = false := fun o => (hW0.cells.2 _ _).trans (ok.zf o)
  have hr : (execOp a.eval o).run Try.prog w = .ok .skip ((w.setCell ⟨X.br, 0, none⟩ (.int .i64 (X.ax + X.dx * X.k / X.n))).setCell ⟨X.br, 1, none⟩ (.int .i64 (X.ay + X.dy * X.k / X.n))) := by
    generalize a.eval = ρ at e8 e27 ⊢
    unfold execOp
    rw [hop]
    simp [e8, e27, z0, z1, zf, go_sem]
  unfold Oper.wp
  rw [hr]
  exact hK _ _ ⟨w, hW0, rfl⟩
theorem PLR.size : (opsOf 2 Try.f62).size = 16 := by kernel_rfl
theorem PLR.steps (X : PLR) (ok : PLROk X) {Q : Exit → Act → World → Prop} (i : Nat) (hi : i < (opsOf 2 Try.f62).size) : StepG (opsOf 2 Try.f62) PLR.acts PLR.av X.val0 X.Wd X.a0 Q i := by
  rw [PLR.size] at hi
  have hc : i = 0 ∨ i = 1 ∨ i = 2 ∨ i = 3 ∨ i = 4 ∨ i = 5 ∨ i = 6 ∨ i = 7 ∨ i = 8 ∨ i = 9 ∨ i = 10 ∨ i = 11 ∨ i = 12 ∨ i = 13 ∨ i = 14 ∨ i = 15 := by omega
  rcases hc with rfl | rfl | rfl | rfl | rfl | rfl | rfl | rfl | rfl | rfl | rfl | rfl | rfl | rfl | rfl | rfl
  · exact PLR.s0 X ok
  · exact PLR.s1 X ok
  · exact PLR.s2 X ok
  · exact PLR.s3 X ok
  · exact PLR.s4 X ok
  · exact PLR.s5 X ok
  · exact PLR.s6 X ok
  · exact PLR.s7 X ok
  · exact PLR.s8 X ok
  · exact PLR.s9 X ok
  · exact PLR.s10 X ok
  · exact PLR.s11 X ok
  · exact PLR.s12 X ok
  · exact PLR.s13 X ok
  · exact PLR.s14 X ok
  · exact PLR.s15 X ok
theorem PLR.puts (X : PLR) (γ : Nat → Value) (a0 : Act) : putsL (valG PLR.av X.val0 γ) (opsOf 2 Try.f62).toList a0 = (((((((((((((((a0.put (some 13) (.agg #[.int .i64 X.ax, .int .i64 X.ay])).put (some 14) (.pointer (some ⟨X.bd, 0, none⟩))).put (some 15) (.int .i64 X.dx)).put (some 16) (.int .i64 X.k)).put (some 17) (.int .i64 (X.dx * X.k))).put (some 18) (.int .i64 X.n)).put (some 19) (.int .i64 (X.dx * X.k / X.n))).put (some 20) (.pointer (some ⟨X.bd, 1, none⟩))).put (some 21) (.int .i64 X.dy)).put (some 22) (.int .i64 X.k)).put (some 23) (.int .i64 (X.dy * X.k))).put (some 24) (.int .i64 X.n)).put (some 25) (.int .i64 (X.dy * X.k / X.n))).put (some 26) (.agg #[.int .i64 (X.dx * X.k / X.n), .int .i64 (X.dy * X.k / X.n)])).put (some 27) (.agg #[.int .i64 (X.ax + X.dx * X.k / X.n), .int .i64 (X.ay + X.dy * X.k / X.n)])) := by kernel_rfl
/-- The region, whatever order comes up. -/
theorem PLR.run (X : PLR) (ok : PLROk X) {Q : Exit → Act → World → Prop} (w : World) (h0 : X.Wd 0 (fun _ => undef) w.drew) (hend : ∀ (γ : Nat → Value) w', X.Wd 1 γ w' → Q .normal (((((((((((((((X.a0.put (some 13) (.agg #[.int .i64 X.ax, .int .i64 X.ay])).put (some 14) (.pointer (some ⟨X.bd, 0, none⟩))).put (some 15) (.int .i64 X.dx)).put (some 16) (.int .i64 X.k)).put (some 17) (.int .i64 (X.dx * X.k))).put (some 18) (.int .i64 X.n)).put (some 19) (.int .i64 (X.dx * X.k / X.n))).put (some 20) (.pointer (some ⟨X.bd, 1, none⟩))).put (some 21) (.int .i64 X.dy)).put (some 22) (.int .i64 X.k)).put (some 23) (.int .i64 (X.dy * X.k))).put (some 24) (.int .i64 X.n)).put (some 25) (.int .i64 (X.dy * X.k / X.n))).put (some 26) (.agg #[.int .i64 (X.dx * X.k / X.n), .int .i64 (X.dy * X.k / X.n)])).put (some 27) (.agg #[.int .i64 (X.ax + X.dx * X.k / X.n), .int .i64 (X.ay + X.dy * X.k / X.n)])) w') : (Code.region 2 (opsOf 2 Try.f62) true).wp Try.prog Q X.a0 w := by
  refine reg_act (acts := PLR.acts) (av := PLR.av) (val0 := X.val0) (Wd := X.Wd) (by kernel_rfl) (by kernel_rfl) (by rw [PLR.size]; decide) (fun i hi => PLR.steps X ok i hi) _ h0 ?_
  intro γ w' h
  rw [PLR.puts]
  exact hend γ w' h
def placeV (a b : Pnt) (k n : Int) : Pnt := (a.1 + (b.1 - a.1) * k / n, a.2 + (b.2 - a.2) * k / n)
theorem mul_in {d k : Int} (h1 : -134217728 ≤ d) (h2 : d ≤ 134217728) (h3 : 0 ≤ k) (h4 : k ≤ 268435456) : -36028797018963968 ≤ d * k ∧ d * k ≤ 36028797018963968 := by
  rcases Int.le_total 0 d with h | h
  · have := Int.mul_le_mul h2 h4 h3 (by decide)
    have := Int.mul_nonneg h h3
    omega
  · have := Int.mul_le_mul (show -d ≤ 134217728 by omega) h4 h3 (by decide)
    have := Int.mul_nonneg (show 0 ≤ -d by omega) h3
    rw [Int.neg_mul] at *
    omega
theorem quo_in {x k n : Int} (h0 : 0 ≤ k) (hk : k ≤ n) (hn : 0 < n) (h1 : -134217728 ≤ x) (h2 : x ≤ 134217728) : -134217728 ≤ x * k / n ∧ x * k / n ≤ 134217728 := by
  constructor
  · refine Int.le_ediv_of_mul_le hn ?_
    have e1 : -134217728 * n ≤ -134217728 * k := by omega
    have e2 : -134217728 * k ≤ x * k := Int.mul_le_mul_of_nonneg_right h1 h0
    omega
  · refine Int.ediv_le_of_le_mul hn ?_
    have e1 : 134217728 * k ≤ 134217728 * n := by omega
    have e2 : x * k ≤ 134217728 * k := Int.mul_le_mul_of_nonneg_right h2 h0
    omega
set_option maxRecDepth 100000 in
set_option maxHeartbeats 4000000 in
/-- A place on a side. -/
theorem iplace (w : World) (ax ay bx by' k n : Int) (h1 : nr ax) (h2 : nr ay) (h3 : nr bx) (h4 : nr by') (hk : 0 ≤ k) (hkn : k ≤ n) (hn : 0 < n) (hn2 : n ≤ 268435456) :
    Calls Try.prog 62 #[.agg #[.int .i64 ax, .int .i64 ay], .agg #[.int .i64 bx, .int .i64 by'], .int .i64 k, .int .i64 n] w fun e w' => e = .returned (.agg #[.int .i64 (placeV (ax, ay) (bx, by') k n).1, .int .i64 (placeV (ax, ay) (bx, by') k n).2]) ∧ Nw w w' := by
  have HM : Hid (∀ w, _) := fun w => iminus w bx by' ax ay (nr_sml h3) (nr_sml h4) (nr_sml h1) (nr_sml h2)
  have HS1 : Hid (sml ax ∧ sml ay) := ⟨nr_sml h1, nr_sml h2⟩
  unfold nr at h1 h2 h3 h4
  have m1 := mul_in (d := bx - ax) (k := k) (by omega) (by omega) hk (by omega)
  have m2 := mul_in (d := by' - ay) (k := k) (by omega) (by omega) hk (by omega)
  have q1 := quo_in (x := bx - ax) hk hkn hn (by omega) (by omega)
  have q2 := quo_in (x := by' - ay) hk hkn hn (by omega) (by omega)
  have HQ : Hid (sml ((bx - ax) * k / n) ∧ sml ((by' - ay) * k / n)) := by unfold sml; exact ⟨⟨by omega, by omega⟩, ⟨by omega, by omega⟩⟩
  have w1 : IntKind.i64.wrap ((bx - ax) * k) = (bx - ax) * k := IntWalk.i64_in _ ⟨by omega, by omega⟩
  have w2 : IntKind.i64.wrap ((by' - ay) * k) = (by' - ay) * k := IntWalk.i64_in _ ⟨by omega, by omega⟩
  have HF : Hid ((-4611686018427387904 ≤ (bx - ax) * k ∧ (bx - ax) * k ≤ 4611686018427387904) ∧ (-4611686018427387904 ≤ (by' - ay) * k ∧ (by' - ay) * k ≤ 4611686018427387904) ∧ IntKind.i64.wrap ((bx - ax) * k) = (bx - ax) * k ∧ IntKind.i64.wrap ((by' - ay) * k) = (by' - ay) * k ∧ 0 < n ∧ n ≤ 4611686018427387904) := ⟨⟨by omega, by omega⟩, ⟨by omega, by omega⟩, w1, w2, hn, by omega⟩
  obtain ⟨W, hW⟩ : ∃ W, ((w.alloc (.cells #[.int .i64 ax, .int .i64 ay] 54)).alloc (.cells #[.int .i64 bx, .int .i64 by'] 54)).alloc (.cells #[.int .i64 0, .int .i64 0] 54) = W := ⟨_, rfl⟩
  have NW : Hid (Nw w W) := by show Nw w W; rw [← hW]; exact Nw.trans (Nw.trans ((Below.refl _ _).alloc (Nat.le_refl _) _) ((Below.refl _ _).alloc (Nat.le_refl _) _)) ((Below.refl _ _).alloc (Nat.le_refl _) _)
  have A1 : Hid (W.cell? ⟨w.heap.size, 0, none⟩ = some (.int .i64 ax) ∧ W.cell? ⟨w.heap.size, 1, none⟩ = some (.int .i64 ay)) := by
    show _ ∧ _
    rw [← hW]
    have k2 : Nw (w.alloc (.cells #[.int .i64 ax, .int .i64 ay] 54)) (((w.alloc (.cells #[.int .i64 ax, .int .i64 ay] 54)).alloc (.cells #[.int .i64 bx, .int .i64 by'] 54)).alloc (.cells #[.int .i64 0, .int .i64 0] 54)) := Nw.trans ((Below.refl _ _).alloc (Nat.le_refl _) _) ((Below.refl _ _).alloc (Nat.le_refl _) _)
    exact ⟨((bcell k2).1 _ _ (by simp)).trans (World.cell?_alloc_at _ _ _ _ rfl), ((bcell k2).1 _ _ (by simp)).trans (World.cell?_alloc_at _ _ _ _ rfl)⟩
  have HW : Hid (_ = W) := hW
  have R1 : Hid ((∃ z, W.cell? ⟨w.heap.size + 2, 0, none⟩ = some z) ∧ (∃ z, W.cell? ⟨w.heap.size + 2, 1, none⟩ = some z) ∧ ∀ o, W.frozen? ⟨w.heap.size + 2, o, none⟩ = false) := by
    have e : w.heap.size + 2 = ((w.alloc (.cells #[.int .i64 ax, .int .i64 ay] 54)).alloc (.cells #[.int .i64 bx, .int .i64 by'] 54)).heap.size := by simp
    show _ ∧ _
    rw [← hW, e]
    exact ⟨⟨_, World.cell?_alloc_at _ _ _ _ rfl⟩, ⟨_, World.cell?_alloc_at _ _ _ _ rfl⟩, fun o => World.frozen?_alloc_at _ _ _ _ rfl⟩
  have SZ : Hid (W.heap.size = w.heap.size + 3) := by show _ = _; rw [← hW]; simp
  have HP : Hid (placeV (ax, ay) (bx, by') k n = (ax + (bx - ax) * k / n, ay + (by' - ay) * k / n)) := rfl
  rw [HP.out]
  clear hW h1 h2 h3 h4 m1 m2 q1 q2 w1 w2 hk hkn hn hn2
  go_enter Try.func62, Try.ntmps62
  go_wp2_with fail
  rw [HW.out]
  refine Calls.mono (HM.out _) ?_
  rintro e w3 ⟨rfl, k3⟩
  generalize hdx : bx - ax = dx at *
  generalize hdy : by' - ay = dy at *
  have HDX : Hid (bx - ax = dx ∧ by' - ay = dy) := ⟨hdx, hdy⟩
  clear hdx hdy
  obtain ⟨W4, hW4⟩ : ∃ W4, w3.alloc (.cells #[.int .i64 dx, .int .i64 dy] 54) = W4 := ⟨_, rfl⟩
  have n4 : Nw w3 W4 := by rw [← hW4]; exact (Below.refl _ _).alloc (Nat.le_refl _) _
  have n5 : Nw W W4.drew := Nw.trans k3.nw (Nw.trans n4 ((Below.refl _ _).drew))
  have e5 := fun b o hb => (bcell n5).1 b o hb
  have f5 := fun b o hb => (bcell n5).2 b o hb
  have hsz := SZ.out
  have A5 : Hid (W4.drew.cell? ⟨w.heap.size, 0, none⟩ = some (.int .i64 ax) ∧ W4.drew.cell? ⟨w.heap.size, 1, none⟩ = some (.int .i64 ay)) := ⟨(e5 _ _ (by omega)).trans A1.out.1, (e5 _ _ (by omega)).trans A1.out.2⟩
  have D5 : Hid (W4.drew.cell? ⟨w3.heap.size, 0, none⟩ = some (.int .i64 dx) ∧ W4.drew.cell? ⟨w3.heap.size, 1, none⟩ = some (.int .i64 dy)) := by
    show W4.cell? _ = _ ∧ W4.cell? _ = _
    rw [← hW4]
    exact ⟨World.cell?_alloc_at _ _ _ _ rfl, World.cell?_alloc_at _ _ _ _ rfl⟩
  have R5 : Hid ((∃ z, W4.drew.cell? ⟨w.heap.size + 2, 0, none⟩ = some z) ∧ (∃ z, W4.drew.cell? ⟨w.heap.size + 2, 1, none⟩ = some z) ∧ ∀ o, W4.drew.frozen? ⟨w.heap.size + 2, o, none⟩ = false) := by
    obtain ⟨⟨z0, y0⟩, ⟨z1, y1⟩, yf⟩ := R1.out
    exact ⟨⟨z0, (e5 _ _ (by omega)).trans y0⟩, ⟨z1, (e5 _ _ (by omega)).trans y1⟩, fun o => (f5 _ _ (by omega)).trans (yf o)⟩
  have N4 : Hid (Nw w W4.drew) := Nw.trans NW.out n5
  have HW4 : Hid (_ = W4) := hW4
  clear k3 n4 n5 e5 f5 hsz hW4
  go_wp2
  rw [HW4.out]
  refine reg_change (ops' := opsOf 2 Try.f62) (by kernel_rfl) ?_
  refine PLR.run ⟨w.heap.size, w3.heap.size, w.heap.size + 2, ax, ay, dx, dy, k, n, W4.drew, _⟩ ⟨A5.out.1, A5.out.2, D5.out.1, D5.out.2, HF.out.2.2.2.2.1, HF.out.2.2.2.2.2, HF.out.1, HF.out.2.1, HF.out.2.2.1, HF.out.2.2.2.1, HS1.out.1, HS1.out.2, HQ.out.1, HQ.out.2, R5.out.1, R5.out.2.1, R5.out.2.2, rfl, rfl, rfl, rfl, rfl, rfl⟩ W4 (Kp.refl _) ?_
  rintro γ w9 ⟨w1, k1, rfl⟩
  obtain ⟨⟨z0, y0⟩, ⟨z1, y1⟩, _⟩ := R5.out
  have x0 := rq_at k1 y0
  have x1 := rq_at k1 y1
  have N1 : Hid (Nw w w1) := Nw.trans N4.out k1.nw
  clear k1 y0 y1
  simp only [Act.put, List.setIfInBounds_toArray, List.set_cons_zero, List.set_cons_succ]
  have c1 : (w1.setCell ⟨w.heap.size + 2, 0, none⟩ (.int .i64 (ax + dx * k / n))).cell? ⟨w.heap.size + 2, 1, none⟩ = some z1 := by
    rw [World.cell?_setCell_other _ _ _ _ (fun e => by injection e; omega)]; exact x1
  have y1 := World.cell?_setCell_same _ ⟨w.heap.size + 2, 1, none⟩ (.int .i64 (ay + dy * k / n)) c1
  have y0 : ((w1.setCell ⟨w.heap.size + 2, 0, none⟩ (.int .i64 (ax + dx * k / n))).setCell ⟨w.heap.size + 2, 1, none⟩ (.int .i64 (ay + dy * k / n))).cell? ⟨w.heap.size + 2, 0, none⟩ = some (.int .i64 (ax + dx * k / n)) := by
    rw [World.cell?_setCell_other _ _ _ _ (fun e => by injection e; omega)]
    exact World.cell?_setCell_same _ ⟨w.heap.size + 2, 0, none⟩ _ x0
  go_wp2
  refine bodyPost_ret (v := .agg #[.int .i64 (ax + dx * k / n), .int .i64 (ay + dy * k / n)]) (by simp [results, Try.results62, go_sem, y0, y1]) rfl ⟨by rw [HDX.out.1, HDX.out.2], ?_⟩
  exact (N1.out.setCell (by simp) _).setCell (by simp) _
end Go.Proofs.Ytjjndpbplclidaa
