/-
  The specification's product of two transforms; no condition.
-/
import Derived.Test.YtfodmjdhpolnkaaAf
import Derived.Test.YtfodmjdhpolnkaaFxFixMul
import Derived.Deep.RegionHeld3
namespace Go.Proofs.Ytfodmjdhpolnkaa
open Go.ChangeShapes Go.WideShapes Go.ChangeAt Go.RowKit
set_option linter.unusedVariables false

theorem keep6 {w w1 : World} (B : Nat) (a b c d e f a' b' c' d' e' f' : Int) (hB : B + 1 < w.heap.size) (k : Kp w w1)
    (h : w.cell? ⟨B, 0, none⟩ = some (.int .i64 a) ∧ w.cell? ⟨B, 1, none⟩ = some (.int .i64 b) ∧ w.cell? ⟨B, 2, none⟩ = some (.int .i64 c) ∧ w.cell? ⟨B, 3, none⟩ = some (.int .i64 d) ∧ w.cell? ⟨B, 4, none⟩ = some (.int .i64 e) ∧ w.cell? ⟨B, 5, none⟩ = some (.int .i64 f) ∧ w.cell? ⟨B + 1, 0, none⟩ = some (.int .i64 a') ∧ w.cell? ⟨B + 1, 1, none⟩ = some (.int .i64 b') ∧ w.cell? ⟨B + 1, 2, none⟩ = some (.int .i64 c') ∧ w.cell? ⟨B + 1, 3, none⟩ = some (.int .i64 d') ∧ w.cell? ⟨B + 1, 4, none⟩ = some (.int .i64 e') ∧ w.cell? ⟨B + 1, 5, none⟩ = some (.int .i64 f')) :
    w1.cell? ⟨B, 0, none⟩ = some (.int .i64 a) ∧ w1.cell? ⟨B, 1, none⟩ = some (.int .i64 b) ∧ w1.cell? ⟨B, 2, none⟩ = some (.int .i64 c) ∧ w1.cell? ⟨B, 3, none⟩ = some (.int .i64 d) ∧ w1.cell? ⟨B, 4, none⟩ = some (.int .i64 e) ∧ w1.cell? ⟨B, 5, none⟩ = some (.int .i64 f) ∧ w1.cell? ⟨B + 1, 0, none⟩ = some (.int .i64 a') ∧ w1.cell? ⟨B + 1, 1, none⟩ = some (.int .i64 b') ∧ w1.cell? ⟨B + 1, 2, none⟩ = some (.int .i64 c') ∧ w1.cell? ⟨B + 1, 3, none⟩ = some (.int .i64 d') ∧ w1.cell? ⟨B + 1, 4, none⟩ = some (.int .i64 e') ∧ w1.cell? ⟨B + 1, 5, none⟩ = some (.int .i64 f') := by
  have kc := (Kp.cells k).1
  obtain ⟨h0, h1, h2, h3, h4, h5, g0, g1, g2, g3, g4, g5⟩ := h
  refine ⟨?_, ?_, ?_, ?_, ?_, ?_, ?_, ?_, ?_, ?_, ?_, ?_⟩
  all_goals (rw [kc _ _ (by omega)]; assumption)
theorem keepS {w : World} (B : Nat) (a b c d e f a' b' c' d' e' f' : Int) (v0 v1 v2 v3 v4 v5 : Value)
    (h : w.cell? ⟨B, 0, none⟩ = some (.int .i64 a) ∧ w.cell? ⟨B, 1, none⟩ = some (.int .i64 b) ∧ w.cell? ⟨B, 2, none⟩ = some (.int .i64 c) ∧ w.cell? ⟨B, 3, none⟩ = some (.int .i64 d) ∧ w.cell? ⟨B, 4, none⟩ = some (.int .i64 e) ∧ w.cell? ⟨B, 5, none⟩ = some (.int .i64 f) ∧ w.cell? ⟨B + 1, 0, none⟩ = some (.int .i64 a') ∧ w.cell? ⟨B + 1, 1, none⟩ = some (.int .i64 b') ∧ w.cell? ⟨B + 1, 2, none⟩ = some (.int .i64 c') ∧ w.cell? ⟨B + 1, 3, none⟩ = some (.int .i64 d') ∧ w.cell? ⟨B + 1, 4, none⟩ = some (.int .i64 e') ∧ w.cell? ⟨B + 1, 5, none⟩ = some (.int .i64 f')) :
    ((((((w.setCell ⟨B + 1 + 1, 0, none⟩ v0).setCell ⟨B + 1 + 1, 1, none⟩ v1).setCell ⟨B + 1 + 1, 2, none⟩ v2).setCell ⟨B + 1 + 1, 3, none⟩ v3).setCell ⟨B + 1 + 1, 4, none⟩ v4).setCell ⟨B + 1 + 1, 5, none⟩ v5).cell? ⟨B, 0, none⟩ = some (.int .i64 a) ∧ ((((((w.setCell ⟨B + 1 + 1, 0, none⟩ v0).setCell ⟨B + 1 + 1, 1, none⟩ v1).setCell ⟨B + 1 + 1, 2, none⟩ v2).setCell ⟨B + 1 + 1, 3, none⟩ v3).setCell ⟨B + 1 + 1, 4, none⟩ v4).setCell ⟨B + 1 + 1, 5, none⟩ v5).cell? ⟨B, 1, none⟩ = some (.int .i64 b) ∧ ((((((w.setCell ⟨B + 1 + 1, 0, none⟩ v0).setCell ⟨B + 1 + 1, 1, none⟩ v1).setCell ⟨B + 1 + 1, 2, none⟩ v2).setCell ⟨B + 1 + 1, 3, none⟩ v3).setCell ⟨B + 1 + 1, 4, none⟩ v4).setCell ⟨B + 1 + 1, 5, none⟩ v5).cell? ⟨B, 2, none⟩ = some (.int .i64 c) ∧ ((((((w.setCell ⟨B + 1 + 1, 0, none⟩ v0).setCell ⟨B + 1 + 1, 1, none⟩ v1).setCell ⟨B + 1 + 1, 2, none⟩ v2).setCell ⟨B + 1 + 1, 3, none⟩ v3).setCell ⟨B + 1 + 1, 4, none⟩ v4).setCell ⟨B + 1 + 1, 5, none⟩ v5).cell? ⟨B, 3, none⟩ = some (.int .i64 d) ∧ ((((((w.setCell ⟨B + 1 + 1, 0, none⟩ v0).setCell ⟨B + 1 + 1, 1, none⟩ v1).setCell ⟨B + 1 + 1, 2, none⟩ v2).setCell ⟨B + 1 + 1, 3, none⟩ v3).setCell ⟨B + 1 + 1, 4, none⟩ v4).setCell ⟨B + 1 + 1, 5, none⟩ v5).cell? ⟨B, 4, none⟩ = some (.int .i64 e) ∧ ((((((w.setCell ⟨B + 1 + 1, 0, none⟩ v0).setCell ⟨B + 1 + 1, 1, none⟩ v1).setCell ⟨B + 1 + 1, 2, none⟩ v2).setCell ⟨B + 1 + 1, 3, none⟩ v3).setCell ⟨B + 1 + 1, 4, none⟩ v4).setCell ⟨B + 1 + 1, 5, none⟩ v5).cell? ⟨B, 5, none⟩ = some (.int .i64 f) ∧ ((((((w.setCell ⟨B + 1 + 1, 0, none⟩ v0).setCell ⟨B + 1 + 1, 1, none⟩ v1).setCell ⟨B + 1 + 1, 2, none⟩ v2).setCell ⟨B + 1 + 1, 3, none⟩ v3).setCell ⟨B + 1 + 1, 4, none⟩ v4).setCell ⟨B + 1 + 1, 5, none⟩ v5).cell? ⟨B + 1, 0, none⟩ = some (.int .i64 a') ∧ ((((((w.setCell ⟨B + 1 + 1, 0, none⟩ v0).setCell ⟨B + 1 + 1, 1, none⟩ v1).setCell ⟨B + 1 + 1, 2, none⟩ v2).setCell ⟨B + 1 + 1, 3, none⟩ v3).setCell ⟨B + 1 + 1, 4, none⟩ v4).setCell ⟨B + 1 + 1, 5, none⟩ v5).cell? ⟨B + 1, 1, none⟩ = some (.int .i64 b') ∧ ((((((w.setCell ⟨B + 1 + 1, 0, none⟩ v0).setCell ⟨B + 1 + 1, 1, none⟩ v1).setCell ⟨B + 1 + 1, 2, none⟩ v2).setCell ⟨B + 1 + 1, 3, none⟩ v3).setCell ⟨B + 1 + 1, 4, none⟩ v4).setCell ⟨B + 1 + 1, 5, none⟩ v5).cell? ⟨B + 1, 2, none⟩ = some (.int .i64 c') ∧ ((((((w.setCell ⟨B + 1 + 1, 0, none⟩ v0).setCell ⟨B + 1 + 1, 1, none⟩ v1).setCell ⟨B + 1 + 1, 2, none⟩ v2).setCell ⟨B + 1 + 1, 3, none⟩ v3).setCell ⟨B + 1 + 1, 4, none⟩ v4).setCell ⟨B + 1 + 1, 5, none⟩ v5).cell? ⟨B + 1, 3, none⟩ = some (.int .i64 d') ∧ ((((((w.setCell ⟨B + 1 + 1, 0, none⟩ v0).setCell ⟨B + 1 + 1, 1, none⟩ v1).setCell ⟨B + 1 + 1, 2, none⟩ v2).setCell ⟨B + 1 + 1, 3, none⟩ v3).setCell ⟨B + 1 + 1, 4, none⟩ v4).setCell ⟨B + 1 + 1, 5, none⟩ v5).cell? ⟨B + 1, 4, none⟩ = some (.int .i64 e') ∧ ((((((w.setCell ⟨B + 1 + 1, 0, none⟩ v0).setCell ⟨B + 1 + 1, 1, none⟩ v1).setCell ⟨B + 1 + 1, 2, none⟩ v2).setCell ⟨B + 1 + 1, 3, none⟩ v3).setCell ⟨B + 1 + 1, 4, none⟩ v4).setCell ⟨B + 1 + 1, 5, none⟩ v5).cell? ⟨B + 1, 5, none⟩ = some (.int .i64 f') := by
  obtain ⟨h0, h1, h2, h3, h4, h5, g0, g1, g2, g3, g4, g5⟩ := h
  refine ⟨?_, ?_, ?_, ?_, ?_, ?_, ?_, ?_, ?_, ?_, ?_, ?_⟩
  all_goals
    iterate 6 rw [World.cell?_setCell_other _ _ _ _ (fun h => by injection h; omega)]
    assumption
theorem keepZ {w w1 : World} (B : Nat) (hB : B < w.heap.size) (k : Kp w w1) (h : ∀ j, j < 6 → w.cell? ⟨B, j, none⟩ = some (.int .i64 0)) (hf : ∀ j, w.frozen? ⟨B, j, none⟩ = false) :
    (∀ j, j < 6 → w1.cell? ⟨B, j, none⟩ = some (.int .i64 0)) ∧ ∀ j, w1.frozen? ⟨B, j, none⟩ = false :=
  ⟨fun j hj => by rw [(Kp.cells k).1 _ _ hB]; exact h j hj, fun j => by rw [(Kp.cells k).2]; exact hf j⟩
theorem cells3a (w : World) (C1 C2 C3 : Array Value) (t : TypeId) (o : Nat) : (((w.alloc (.cells C1 t)).alloc (.cells C2 t)).alloc (.cells C3 t)).cell? ⟨w.heap.size, o, none⟩ = C1[o]? := by
  rw [World.cell?_alloc_past _ _ _ (by simp; omega), World.cell?_alloc_past _ _ _ (by simp), World.cell?_alloc_at _ _ _ _ rfl]
theorem cells3b (w : World) (C1 C2 C3 : Array Value) (t : TypeId) (o : Nat) : (((w.alloc (.cells C1 t)).alloc (.cells C2 t)).alloc (.cells C3 t)).cell? ⟨w.heap.size + 1, o, none⟩ = C2[o]? := by
  rw [World.cell?_alloc_past _ _ _ (by simp), World.cell?_alloc_at _ _ _ _ (by simp)]
theorem cells3c (w : World) (C1 C2 C3 : Array Value) (t : TypeId) (o : Nat) : (((w.alloc (.cells C1 t)).alloc (.cells C2 t)).alloc (.cells C3 t)).cell? ⟨w.heap.size + 1 + 1, o, none⟩ = C3[o]? := by
  rw [World.cell?_alloc_at _ _ _ _ (by simp)]
theorem cells3f (w : World) (C1 C2 C3 : Array Value) (t : TypeId) (o : Nat) : (((w.alloc (.cells C1 t)).alloc (.cells C2 t)).alloc (.cells C3 t)).frozen? ⟨w.heap.size + 1 + 1, o, none⟩ = false := by
  exact World.frozen?_alloc_at _ _ _ _ (by simp)
theorem kp3 (w : World) (C1 C2 C3 : Array Value) (t : TypeId) : Kp w (((w.alloc (.cells C1 t)).alloc (.cells C2 t)).alloc (.cells C3 t)) := (((Kp.refl w).alloc _ _).alloc _ _).alloc _ _
theorem six_set (w : World) (B : Nat) (v0 v1 v2 v3 v4 v5 : Value) (h : ∀ j, j < 6 → w.cell? ⟨B, j, none⟩ = some (.int .i64 0)) :
    ((((((w.setCell ⟨B, 0, none⟩ v0).setCell ⟨B, 1, none⟩ v1).setCell ⟨B, 2, none⟩ v2).setCell ⟨B, 3, none⟩ v3).setCell ⟨B, 4, none⟩ v4).setCell ⟨B, 5, none⟩ v5).cell? ⟨B, 0, none⟩ = some v0 ∧ ((((((w.setCell ⟨B, 0, none⟩ v0).setCell ⟨B, 1, none⟩ v1).setCell ⟨B, 2, none⟩ v2).setCell ⟨B, 3, none⟩ v3).setCell ⟨B, 4, none⟩ v4).setCell ⟨B, 5, none⟩ v5).cell? ⟨B, 1, none⟩ = some v1 ∧ ((((((w.setCell ⟨B, 0, none⟩ v0).setCell ⟨B, 1, none⟩ v1).setCell ⟨B, 2, none⟩ v2).setCell ⟨B, 3, none⟩ v3).setCell ⟨B, 4, none⟩ v4).setCell ⟨B, 5, none⟩ v5).cell? ⟨B, 2, none⟩ = some v2 ∧ ((((((w.setCell ⟨B, 0, none⟩ v0).setCell ⟨B, 1, none⟩ v1).setCell ⟨B, 2, none⟩ v2).setCell ⟨B, 3, none⟩ v3).setCell ⟨B, 4, none⟩ v4).setCell ⟨B, 5, none⟩ v5).cell? ⟨B, 3, none⟩ = some v3 ∧ ((((((w.setCell ⟨B, 0, none⟩ v0).setCell ⟨B, 1, none⟩ v1).setCell ⟨B, 2, none⟩ v2).setCell ⟨B, 3, none⟩ v3).setCell ⟨B, 4, none⟩ v4).setCell ⟨B, 5, none⟩ v5).cell? ⟨B, 4, none⟩ = some v4 ∧ ((((((w.setCell ⟨B, 0, none⟩ v0).setCell ⟨B, 1, none⟩ v1).setCell ⟨B, 2, none⟩ v2).setCell ⟨B, 3, none⟩ v3).setCell ⟨B, 4, none⟩ v4).setCell ⟨B, 5, none⟩ v5).cell? ⟨B, 5, none⟩ = some v5 := by
  refine ⟨?_, ?_, ?_, ?_, ?_, ?_⟩
  · iterate 5 rw [World.cell?_setCell_other _ _ _ _ (fun h => by injection h; omega)]
    exact World.cell?_setCell_same _ ⟨B, 0, none⟩ _ (by exact h 0 (by omega))
  · iterate 4 rw [World.cell?_setCell_other _ _ _ _ (fun h => by injection h; omega)]
    exact World.cell?_setCell_same _ ⟨B, 1, none⟩ _ (by (iterate 1 (rw [World.cell?_setCell_other _ _ _ _ (fun h => by injection h; omega)])); exact h 1 (by omega))
  · iterate 3 rw [World.cell?_setCell_other _ _ _ _ (fun h => by injection h; omega)]
    exact World.cell?_setCell_same _ ⟨B, 2, none⟩ _ (by (iterate 2 (rw [World.cell?_setCell_other _ _ _ _ (fun h => by injection h; omega)])); exact h 2 (by omega))
  · iterate 2 rw [World.cell?_setCell_other _ _ _ _ (fun h => by injection h; omega)]
    exact World.cell?_setCell_same _ ⟨B, 3, none⟩ _ (by (iterate 3 (rw [World.cell?_setCell_other _ _ _ _ (fun h => by injection h; omega)])); exact h 3 (by omega))
  · iterate 1 rw [World.cell?_setCell_other _ _ _ _ (fun h => by injection h; omega)]
    exact World.cell?_setCell_same _ ⟨B, 4, none⟩ _ (by (iterate 4 (rw [World.cell?_setCell_other _ _ _ _ (fun h => by injection h; omega)])); exact h 4 (by omega))
  · exact World.cell?_setCell_same _ ⟨B, 5, none⟩ _ (by (iterate 5 (rw [World.cell?_setCell_other _ _ _ _ (fun h => by injection h; omega)])); exact h 5 (by omega))
/-- The product of two transforms by a product of numbers. -/
abbrev mulV (m : Int → Int → Int) (a b c d e f a' b' c' d' e' f' : Int) : Value :=
  affV (IntKind.i64.wrap (m a a' + m c b')) (IntKind.i64.wrap (m b a' + m d b')) (IntKind.i64.wrap (m a c' + m c d')) (IntKind.i64.wrap (m b c' + m d d')) (IntKind.i64.wrap (IntKind.i64.wrap (m a e' + m c f') + e)) (IntKind.i64.wrap (IntKind.i64.wrap (m b e' + m d f') + f))

set_option maxHeartbeats 4000000 in
theorem sl7mul (w : World) (a b c d e f a' b' c' d' e' f' : Int) (m : Int → Int → Int) (hS : ∀ x y w, Calls Try.prog 14 #[.int .i64 x, .int .i64 y] w fun e w' => e = .returned (.int .i64 (m x y)) ∧ Kp w w') :
    Calls Try.prog 11 #[affV a b c d e f, affV a' b' c' d' e' f'] w fun x w' => x = .returned (mulV m a b c d e f a' b' c' d' e' f') ∧ Kp w w' := by
  have HS : Hid _ := hS
  clear hS
  unfold mulV affV
  go_enter Try.func11, Try.ntmps11
  go_wp2_with fail
  generalize hW : ((w.alloc (.cells #[.int .i64 a, .int .i64 b, .int .i64 c, .int .i64 d, .int .i64 e, .int .i64 f] 24)).alloc (.cells #[.int .i64 a', .int .i64 b', .int .i64 c', .int .i64 d', .int .i64 e', .int .i64 f'] 24)).alloc (.cells #[.int .i64 0, .int .i64 0, .int .i64 0, .int .i64 0, .int .i64 0, .int .i64 0] 24) = W
  have hsz : W.heap.size = w.heap.size + 3 := by rw [← hW]; simp
  have hall : W.cell? ⟨w.heap.size, 0, none⟩ = some (.int .i64 a) ∧ W.cell? ⟨w.heap.size, 1, none⟩ = some (.int .i64 b) ∧ W.cell? ⟨w.heap.size, 2, none⟩ = some (.int .i64 c) ∧ W.cell? ⟨w.heap.size, 3, none⟩ = some (.int .i64 d) ∧ W.cell? ⟨w.heap.size, 4, none⟩ = some (.int .i64 e) ∧ W.cell? ⟨w.heap.size, 5, none⟩ = some (.int .i64 f) ∧ W.cell? ⟨w.heap.size + 1, 0, none⟩ = some (.int .i64 a') ∧ W.cell? ⟨w.heap.size + 1, 1, none⟩ = some (.int .i64 b') ∧ W.cell? ⟨w.heap.size + 1, 2, none⟩ = some (.int .i64 c') ∧ W.cell? ⟨w.heap.size + 1, 3, none⟩ = some (.int .i64 d') ∧ W.cell? ⟨w.heap.size + 1, 4, none⟩ = some (.int .i64 e') ∧ W.cell? ⟨w.heap.size + 1, 5, none⟩ = some (.int .i64 f') := by
    refine ⟨?_, ?_, ?_, ?_, ?_, ?_, ?_, ?_, ?_, ?_, ?_, ?_⟩
    all_goals (rw [← hW]; first | (rw [cells3a]; rfl) | (rw [cells3b]; rfl))
  have hz : ∀ j, j < 6 → W.cell? ⟨w.heap.size + 1 + 1, j, none⟩ = some (.int .i64 0) := fun j hj => by
    rw [← hW, cells3c]
    rcases (show j = 0 ∨ j = 1 ∨ j = 2 ∨ j = 3 ∨ j = 4 ∨ j = 5 by omega) with rfl | rfl | rfl | rfl | rfl | rfl <;> rfl
  have hf : ∀ j, W.frozen? ⟨w.heap.size + 1 + 1, j, none⟩ = false := fun j => by rw [← hW, cells3f]
  have HW : Hid (Kp w W) := by rw [← hW]; exact kp3 w _ _ _ _
  clear hW
  obtain ⟨B, hB⟩ : ∃ B, w.heap.size = B := ⟨_, rfl⟩
  have hB2 : Hid (w.heap.size ≤ B + 1 + 1) := (show _ ≤ _ by omega)
  rw [hB] at hsz hall hz hf ⊢
  have HZ : Hid _ := And.intro hz hf
  obtain ⟨h0, h1, h2, h3, h4, h5, g0, g1, g2, g3, g4, g5⟩ := hall
  have HK : Hid (Kp W W.drew) := (Kp.refl W).drew
  have HB : Hid (B + 1 < W.heap.size) := (show _ < _ by omega)
  have HB3 : Hid (B + 1 + 1 < W.heap.size) := (show _ < _ by omega)
  clear hsz
  simp only [List.append_eq, List.cons_append, List.nil_append]
  go_region_held3 (fun w' => w'.cell? ⟨B, 0, none⟩ = some (.int .i64 a) ∧ w'.cell? ⟨B, 1, none⟩ = some (.int .i64 b) ∧ w'.cell? ⟨B, 2, none⟩ = some (.int .i64 c) ∧ w'.cell? ⟨B, 3, none⟩ = some (.int .i64 d) ∧ w'.cell? ⟨B, 4, none⟩ = some (.int .i64 e) ∧ w'.cell? ⟨B, 5, none⟩ = some (.int .i64 f) ∧ w'.cell? ⟨B + 1, 0, none⟩ = some (.int .i64 a') ∧ w'.cell? ⟨B + 1, 1, none⟩ = some (.int .i64 b') ∧ w'.cell? ⟨B + 1, 2, none⟩ = some (.int .i64 c') ∧ w'.cell? ⟨B + 1, 3, none⟩ = some (.int .i64 d') ∧ w'.cell? ⟨B + 1, 4, none⟩ = some (.int .i64 e') ∧ w'.cell? ⟨B + 1, 5, none⟩ = some (.int .i64 f'))
    (first | with_reducible exact keep6 B a b c d e f a' b' c' d' e' f' HB.out HK.out ⟨h0, h1, h2, h3, h4, h5, g0, g1, g2, g3, g4, g5⟩ | with_reducible exact keepS B a b c d e f a' b' c' d' e' f' _ _ _ _ _ _ (keep6 B a b c d e f a' b' c' d' e' f' HB.out HK.out ⟨h0, h1, h2, h3, h4, h5, g0, g1, g2, g3, g4, g5⟩))
    (first | (go_at_call 14; refine (HS.out _ _ _).mono ?_; rintro e w' ⟨rfl, hk⟩; replace HK := (show Hid (Kp W w') from Kp.trans HK.out hk); clear hk hz hf; obtain ⟨hz, hf⟩ := keepZ (B + 1 + 1) HB3.out HK.out HZ.out.1 HZ.out.2))
  go_wp2
  obtain ⟨y0, y1, y2, y3, y4, y5⟩ := six_set w' (B + 1 + 1) (.int .i64 (IntKind.i64.wrap (m a a' + m c b'))) (.int .i64 (IntKind.i64.wrap (m b a' + m d b'))) (.int .i64 (IntKind.i64.wrap (m a c' + m c d'))) (.int .i64 (IntKind.i64.wrap (m b c' + m d d'))) (.int .i64 (IntKind.i64.wrap (IntKind.i64.wrap (m a e' + m c f') + e))) (.int .i64 (IntKind.i64.wrap (IntKind.i64.wrap (m b e' + m d f') + f))) hz
  refine bodyPost_ret (v := mulV m a b c d e f a' b' c' d' e' f') (by simp [results, Try.results11, go_sem, y0, y1, y2, y3, y4, y5]) rfl ⟨rfl, ?_⟩
  exact ((((((Kp.trans HW.out HK.out).setCell hB2.out _).setCell hB2.out _).setCell hB2.out _).setCell hB2.out _).setCell hB2.out _).setCell hB2.out _
end Go.Proofs.Ytfodmjdhpolnkaa
