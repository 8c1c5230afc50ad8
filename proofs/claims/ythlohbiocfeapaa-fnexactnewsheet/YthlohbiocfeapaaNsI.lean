/-
  New sheets, by the program: NewSheet; each theorem names its conditions.
-/
import Derived.Test.YthlohbiocfeapaaNs
import Derived.Test.YthlohbiocfeapaaShI
namespace Go.Proofs.Ythlohbiocfeapaa
open Go.ChangeShapes Go.WideShapes Go.ChangeAt Go.RowKit
set_option linter.unusedVariables false

set_option maxRecDepth 100000 in
set_option maxHeartbeats 4000000 in
theorem inew (w : World) (x y : Int) :
    Calls Try.prog 36 #[.int .i64 x, .int .i64 y] w fun e w' => ∃ v, e = .returned (.tuple #[mskV (nsD x y) v, .bool (nsB x y)]) ∧ FrQ w' w.heap.size v (nsR x y) ∧ Nw w w' := by
  have H1 : Hid (∀ w, _) := fun w => isides w x y
  have HS : Hid (∀ (w : World) (a : Option Addr) (n c : Nat), _) := fun w a n c => ilsheet w ⟨x, y⟩ a n c
  unfold mskV at HS
  simp only at HS
  obtain ⟨W, hW⟩ : ∃ W, (w.alloc (.cells #[.int .i64 0, .int .i64 0, .slice none 0 0] 57)).alloc (.cells #[.int .i64 x, .int .i64 y, .slice none 0 0] 114) = W := ⟨_, rfl⟩
  have NW : Hid (Nw w W) := by show Nw w W; rw [← hW]; exact Nw.trans (QBnw _ _) (QBnw _ _)
  have HWs : Hid (W.heap.size = w.heap.size + 1 + 1) := by show _ = _; rw [← hW]; simp
  have B0 : Hid (CvQ w.heap.size W ⟨0, 0⟩ (.slice none 0 0) []) := by
    show CvQ _ _ _ _ _
    rw [← hW]
    exact (CvQ.new w 57 ⟨0, 0⟩).nw (QBnw _ _)
  have B1 : Hid (CvQ (w.heap.size + 1) W ⟨x, y⟩ (.slice none 0 0) []) := by
    show CvQ _ _ _ _ _
    rw [← hW]
    have := CvQ.new (w.alloc (.cells #[.int .i64 0, .int .i64 0, .slice none 0 0] 57)) 114 ⟨x, y⟩
    simp only [World.size_alloc] at this
    exact this
  have HW : Hid (_ = W) := hW
  clear hW
  unfold nsD nsR nsB mskV
  cases b1 : (sdB x && sdB y) with
  | false =>
    rw [b1] at H1
    simp only [Bool.false_eq_true, if_false]
    clear b1
    go_enter Try.func36, Try.ntmps36
    go_wp2_with fail
    rw [HW.out]
    refine Calls.mono (H1.out _) ?_
    rintro e w1 ⟨rfl, k1⟩
    have K1 : Hid (Nw W w1) := k1.nw
    clear k1
    obtain ⟨z0, z1, z2, zf, _⟩ := CvQ.nw B0.out K1.out
    simp only at z0 z1 z2
    obtain ⟨y0, y1, y2⟩ := set3 w1 w.heap.size (.int .i64 0) (.int .i64 0) (.slice none 0 0) z0 z1 z2
    go_wp2
    refine bodyPost_ret (v := .tuple #[.agg #[.int .i64 0, .int .i64 0, .slice none 0 0], .bool false]) (by simp [results, Try.results36, go_sem, y0, y1, y2]) rfl ⟨_, rfl, FrQ.nil _ _, ?_⟩
    exact (((Nw.trans NW.out K1.out).setCell (by first | (simp; done) | (simp; omega)) _).setCell (by first | (simp; done) | (simp; omega)) _).setCell (by first | (simp; done) | (simp; omega)) _
  | true =>
    rw [b1] at H1
    simp only [if_true]
    rw [Bool.and_eq_true] at b1
    have hm := sd_mul b1.1 b1.2
    have H2 : Hid (∀ w, _) := fun w => icount w x y hm
    obtain ⟨m1, m2⟩ := hm
    obtain ⟨n, hn⟩ : ∃ n : Nat, x * y = (n : Int) := ⟨(x * y).toNat, by omega⟩
    have hnn : (x * y).toNat = n := by omega
    have hmk := run_mk 55 24 _ 4 32 Try.underlying55 info_tint n (by omega) (by omega)
    have hcs : (Value.agg #[.int .i64 0, .int .i64 0, .int .i64 0, .int .i64 0]).cells = #[.int .i64 0, .int .i64 0, .int .i64 0, .int .i64 0] := rfl
    rw [hcs] at hmk
    rw [hnn]
    rw [hn] at H2 m1 m2
    clear b1 hcs hnn hn
    go_enter Try.func36, Try.ntmps36
    go_wp2_with fail
    rw [HW.out]
    refine Calls.mono (H1.out _) ?_
    rintro e w1 ⟨rfl, k1⟩
    have K1 : Hid (Nw W w1) := k1.nw
    clear k1
    obtain ⟨l0, l1, l2, lf, _⟩ := CvQ.nw B1.out K1.out
    simp only at l0 l1 l2
    go_wp2_with fail
    refine Calls.mono (H2.out _) ?_
    rintro e w2 ⟨rfl, k2⟩
    have K2 : Hid (Nw W w2) := Nw.trans K1.out k2.nw
    clear k2 l0 l1 l2 lf
    obtain ⟨W3, hW3⟩ : ∃ W3, w2.alloc (.cells (madeCells #[.int .i64 0, .int .i64 0, .int .i64 0, .int .i64 0] (n * 4)) 24) = W3 := ⟨_, rfl⟩
    have K3 : Hid (Nw w2 W3) := by show Nw _ _; rw [← hW3]; exact QBnw _ _
    have LQ : Hid (LayS W3 w2.heap.size (List.replicate n noE)) := by show LayS _ _ _; rw [← hW3]; exact zeros_lay w2 n _
    have K23 : Hid (Nw W W3) := Nw.trans K2.out K3.out
    have hlt : w.heap.size + 1 + 1 ≤ w2.heap.size := by have := Below.size K2.out; rw [HWs.out] at this; exact this
    have HLT : Hid (w.heap.size + 1 + 1 ≤ w2.heap.size) := hlt
    clear hlt
    obtain ⟨l0, l1, l2, lf, _⟩ := CvQ.nw B1.out K23.out
    simp only at l0 l1 l2
    rw [← hW3] at l0 l1 l2 lf
    have HW3 : Hid (_ = W3) := hW3
    clear hW3
    have f0 := World.cell?_setCell_other (w2.alloc (.cells (madeCells #[.int .i64 0, .int .i64 0, .int .i64 0, .int .i64 0] (n * 4)) 24)) ⟨w.heap.size + 1, 2, none⟩ ⟨w.heap.size + 1, 0, none⟩ (.slice (some ⟨w2.heap.size, 0, none⟩) n n) (fun e => by injection e; omega)
    have f1 := World.cell?_setCell_other (w2.alloc (.cells (madeCells #[.int .i64 0, .int .i64 0, .int .i64 0, .int .i64 0] (n * 4)) 24)) ⟨w.heap.size + 1, 2, none⟩ ⟨w.heap.size + 1, 1, none⟩ (.slice (some ⟨w2.heap.size, 0, none⟩) n n) (fun e => by injection e; omega)
    rw [l0] at f0
    rw [l1] at f1
    have f2 := World.cell?_setCell_same (w2.alloc (.cells (madeCells #[.int .i64 0, .int .i64 0, .int .i64 0, .int .i64 0] (n * 4)) 24)) ⟨w.heap.size + 1, 2, none⟩ (.slice (some ⟨w2.heap.size, 0, none⟩) n n) l2
    go_wp2_with fail
    rw [HW3.out]
    refine Calls.mono (HS.out _ _ n n) ?_
    rintro e w4 ⟨rfl, k4⟩
    have N4 : Hid (Nw (W3.setCell ⟨w.heap.size + 1, 2, none⟩ (.slice (some ⟨w2.heap.size, 0, none⟩) n n)) w4) := k4.nw
    clear k4 f0 f1 f2 l0 l1 l2 lf
    have Z3 : Hid (CvQ w.heap.size (W3.setCell ⟨w.heap.size + 1, 2, none⟩ (.slice (some ⟨w2.heap.size, 0, none⟩) n n)) ⟨0, 0⟩ (.slice none 0 0) []) := by
      obtain ⟨z0, z1, z2, zf, zo⟩ := CvQ.nw B0.out K23.out
      have far : ∀ o', (W3.setCell ⟨w.heap.size + 1, 2, none⟩ (.slice (some ⟨w2.heap.size, 0, none⟩) n n)).cell? ⟨w.heap.size, o', none⟩ = W3.cell? ⟨w.heap.size, o', none⟩ := fun o' => World.cell?_setCell_other _ _ _ _ (fun e => by injection e; omega)
      exact ⟨(far _).trans z0, (far _).trans z1, (far _).trans z2, fun o => by rw [World.frozen?_setCell]; exact zf o, OwnE.nil _ _ _⟩
    obtain ⟨z0, z1, z2, zf, _⟩ := CvQ.nw Z3.out N4.out
    simp only at z0 z1 z2
    obtain ⟨y0, y1, y2⟩ := set3 w4 w.heap.size (.int .i64 x) (.int .i64 y) (.slice (some ⟨w2.heap.size, 0, none⟩) n n) z0 z1 z2
    go_wp2
    refine bodyPost_ret (v := .tuple #[.agg #[.int .i64 x, .int .i64 y, .slice (some ⟨w2.heap.size, 0, none⟩) n n], .bool true]) (by simp [results, Try.results36, go_sem, y0, y1, y2]) rfl ⟨_, rfl, ?_, ?_⟩
    · have h3 : FrQ W3 (w.heap.size + 1 + 1) (.slice (some ⟨w2.heap.size, 0, none⟩) n n) (List.replicate n noE) := ⟨Or.inr ⟨w2.heap.size, n, by rw [List.length_replicate], LQ.out⟩, fun b e => by
        have : w2.heap.size = b := by simpa [Value.ownBlock] using e
        have := HLT.out
        omega⟩
      have h4 := FrQ.nw (h3.far (w.heap.size + 1) 2 (.slice (some ⟨w2.heap.size, 0, none⟩) n n) (by omega)) N4.out
      have h5 := ((h4.far w.heap.size 0 (.int .i64 x) (by omega)).far w.heap.size 1 (.int .i64 y) (by omega)).far w.heap.size 2 (.slice (some ⟨w2.heap.size, 0, none⟩) n n) (by omega)
      exact ⟨h5.1, fun b hb => by have := h5.2 b hb; omega⟩
    · have h3 : Nw w (W3.setCell ⟨w.heap.size + 1, 2, none⟩ (.slice (some ⟨w2.heap.size, 0, none⟩) n n)) := (Nw.trans NW.out K23.out).setCell (by simp) _
      exact (((Nw.trans h3 N4.out).setCell (by first | (simp; done) | (simp; omega)) _).setCell (by first | (simp; done) | (simp; omega)) _).setCell (by first | (simp; done) | (simp; omega)) _
end Go.Proofs.Ythlohbiocfeapaa
