/-
  What propertyOf answers; each theorem names its conditions.
-/
import Derived.Test.YtaeepbjdhcbofaaProps
namespace Go.Proofs.Ytaeepbjdhcbofaa
open Go.ChangeShapes Go.WideShapes Go.ChangeAt Go.RowKit
set_option linter.unusedVariables false

/-- What propertyOf answers. -/
def pfV (name : ByteArray) : Value := match pf name with | some p => .tuple #[prV p, .bool true] | none => .tuple #[prV noPR, .bool false]
theorem pfV_yes {k : Nat} (h : k < 16) : pfV (prAt k).n = .tuple #[prV (prAt k), .bool true] := by unfold pfV; rw [pf_own k h]
theorem pfV_no {name : ByteArray} (h : ∀ j, j < 16 → (prAt j).n ≠ name) : pfV name = .tuple #[prV noPR, .bool false] := by unfold pfV; rw [pf_none h]
set_option maxHeartbeats 4000000 in
theorem propertyOf_any (w : World) (name : ByteArray) : Calls Try.prog 29 #[.string name] w fun e w' => e = .returned (pfV name) ∧ Nw w w' := by
  go_enter Try.func29, Try.ntmps29
  go_wp2_with (go_at_call 27; refine (allProps _).mono ?_; rintro e w1 ⟨rfl, k1⟩)
  have hz1 : w.heap.size < w1.heap.size := by have := Below.size k1; simp at this; omega
  have HW1 : Hid (Nw w w1) := Nw.trans ((Below.refl _ _).alloc (Nat.le_refl _) _) k1
  have c0 : ∀ o, w1.cell? ⟨w.heap.size, o, none⟩ = _ := fun o => (bcell k1).1 w.heap.size o (by simp)
  have cf : ∀ o, w1.frozen? ⟨w.heap.size, o, none⟩ = _ := fun o => (bcell k1).2 w.heap.size o (by simp)
  have d0 : w1.cell? ⟨w.heap.size, 0, none⟩ = some (.string ⟨#[]⟩) := by rw [c0]; simp
  have d1 : w1.cell? ⟨w.heap.size, 1, none⟩ = some (.string ⟨#[]⟩) := by rw [c0]; simp
  have d2 : w1.cell? ⟨w.heap.size, 2, none⟩ = some (.bool false) := by rw [c0]; simp
  have df : ∀ o, w1.frozen? ⟨w.heap.size, o, none⟩ = false := fun o => by rw [cf]; exact World.frozen?_alloc_at _ _ _ _ rfl
  clear c0 cf k1
  have HX : ∀ k, Hid (k < 16 → (Instr.index 48 (.agg prT) (.int .i64 (k : Nat))).run Try.prog = fun W => .ok (prV (prAt k)) W) := fun k h => funext fun W => ix_pr k h W
  generalize prT = T at *
  go_loopw [7] (fun i wr => ∃ k : Nat, k ≤ 16 ∧ i = .int .i64 k ∧ (∀ j, j < k → (prAt j).n ≠ name) ∧ Nw w wr ∧ w.heap.size < wr.heap.size ∧ wr.cell? ⟨w.heap.size, 0, none⟩ = some (.string ⟨#[]⟩) ∧ wr.cell? ⟨w.heap.size, 1, none⟩ = some (.string ⟨#[]⟩) ∧ wr.cell? ⟨w.heap.size, 2, none⟩ = some (.bool false) ∧ ∀ o, wr.frozen? ⟨w.heap.size, o, none⟩ = false) (fun i _ => 16 - (intOf i).toNat)
  case atStart => exact ⟨0, Nat.zero_le _, rfl, fun j hj => absurd hj (by omega), HW1.out, hz1, d0, d1, d2, df⟩
  case round =>
    clear d0 d1 d2 df hz1
    obtain ⟨k, hk, rfl, hno, hw, hb, d0, d1, d2, df⟩ := hrel
    have HN : Hid (∀ j, j < k → (prAt j).n ≠ name) := hno
    have HW : Hid (Nw w wr) := hw
    clear hno hw
    by_cases hlt : k < 16
    · have hix : ∀ W, (Instr.index 48 (.agg T) (.int .i64 (k : Int))).run Try.prog W = .ok (prV (prAt k)) W := fun W => by rw [(HX k).out hlt]
      have hltI : (k : Int) < 16 := by omega
      by_cases he : (prAt k).n = name
      · have HE : Hid (pfV name = .tuple #[prV (prAt k), .bool true]) := by show pfV name = _; rw [← he]; exact pfV_yes hlt
        obtain ⟨n, f, b, hp⟩ : ∃ n f b, prAt k = ⟨n, f, b⟩ := ⟨_, _, _, rfl⟩
        unfold prV at hix HE
        rw [hp] at hix HE he
        simp only at hix HE he
        have hqq : (n.toList == name.toList) = true := by rw [he]; simp
        have e0 : ∀ ob, (wr.alloc ob).cell? ⟨w.heap.size, 0, none⟩ = some (.string ⟨#[]⟩) := fun ob => by rw [World.cell?_alloc_past _ _ _ hb]; exact d0
        have e1 : ∀ ob, (wr.alloc ob).cell? ⟨w.heap.size, 1, none⟩ = some (.string ⟨#[]⟩) := fun ob => by rw [World.cell?_alloc_past _ _ _ hb]; exact d1
        have e2 : ∀ ob, (wr.alloc ob).cell? ⟨w.heap.size, 2, none⟩ = some (.bool false) := fun ob => by rw [World.cell?_alloc_past _ _ _ hb]; exact d2
        clear hp he
        go_wp2
        obtain ⟨W3, hW3⟩ : ∃ W3, W3 = ((wr.setCell ⟨w.heap.size, 0, none⟩ (.string n)).setCell ⟨w.heap.size, 1, none⟩ (.string f)).setCell ⟨w.heap.size, 2, none⟩ (.bool b) := ⟨_, rfl⟩
        have g0 : W3.cell? ⟨w.heap.size, 0, none⟩ = some (.string n) := by
          rw [hW3, World.cell?_setCell_other _ _ _ _ (fun h => by injection h; omega), World.cell?_setCell_other _ _ _ _ (fun h => by injection h; omega)]
          exact World.cell?_setCell_same wr ⟨w.heap.size, 0, none⟩ _ d0
        have g1 : W3.cell? ⟨w.heap.size, 1, none⟩ = some (.string f) := by
          rw [hW3, World.cell?_setCell_other _ _ _ _ (fun h => by injection h; omega)]
          exact World.cell?_setCell_same _ ⟨w.heap.size, 1, none⟩ _ ((World.cell?_setCell_other _ _ _ _ (fun h => by injection h; omega)).trans d1)
        have g2 : W3.cell? ⟨w.heap.size, 2, none⟩ = some (.bool b) := by
          rw [hW3]
          exact World.cell?_setCell_same _ ⟨w.heap.size, 2, none⟩ _ ((World.cell?_setCell_other _ _ _ _ (fun h => by injection h; omega)).trans ((World.cell?_setCell_other _ _ _ _ (fun h => by injection h; omega)).trans d2))
        have hb3 : w.heap.size < W3.heap.size := by rw [hW3]; simpa [World.setCell] using hb
        have kb : Below w.heap.size w W3 := by
          have kb0 : Below w.heap.size w wr := HW.out
          rw [hW3]
          exact ((kb0.setCell (Nat.le_refl _) _).setCell (Nat.le_refl _) _).setCell (Nat.le_refl _) _
        have y0 := fun ob => (World.cell?_alloc_past (w := W3) ob w.heap.size 0 hb3).trans g0
        have y1 := fun ob => (World.cell?_alloc_past (w := W3) ob w.heap.size 1 hb3).trans g1
        have y2 := fun ob => (World.cell?_alloc_past (w := W3) ob w.heap.size 2 hb3).trans g2
        rw [← hW3]
        refine bodyPost_ret (v := .tuple #[.agg #[.string n, .string f, .bool b], .bool true]) (by simp [results, Try.results29, go_sem, y0, y1, y2]) rfl ⟨by rw [HE.out], ?_⟩
        exact kb.alloc kb.size _
      · have hq := beq_no he
        have HO : Hid (∀ j, j < k + 1 → (prAt j).n ≠ name) := fun j hj => by
          by_cases e : j = k
          · subst e; exact he
          · exact HN.out j (by omega)
        clear he
        obtain ⟨n, f, b, hp⟩ : ∃ n f b, prAt k = ⟨n, f, b⟩ := ⟨_, _, _, rfl⟩
        unfold prV at hix
        rw [hp] at hix hq
        simp only at hix hq
        clear hp
        go_wp2
        go_roundw
        case rel =>
          have kb : Below w.heap.size w wr := HW.out
          refine ⟨k + 1, by omega, by go_num, HO.out, kb.alloc kb.size _, by simp; omega, ?_, ?_, ?_, fun o => ?_⟩
          · rw [World.cell?_alloc_past _ _ _ hb]; exact d0
          · rw [World.cell?_alloc_past _ _ _ hb]; exact d1
          · rw [World.cell?_alloc_past _ _ _ hb]; exact d2
          · rw [frozen?_alloc_cells]; exact df o
        case measure => simp [intOf]; omega
    · have e : k = 16 := by omega
      subst e
      have HE : Hid (pfV name = .tuple #[.agg #[.string ⟨#[]⟩, .string ⟨#[]⟩, .bool false], .bool false]) := pfV_no HN.out
      clear HX
      go_wp2
      refine bodyPost_ret (v := .tuple #[.agg #[.string ⟨#[]⟩, .string ⟨#[]⟩, .bool false], .bool false]) (by simp [results, Try.results29, go_sem, d0, d1, d2]) rfl ⟨by rw [HE.out], ?_⟩
      have kb : Below w.heap.size w wr := HW.out
      exact ((kb.setCell (Nat.le_refl _) _).setCell (Nat.le_refl _) _).setCell (Nat.le_refl _) _
end Go.Proofs.Ytaeepbjdhcbofaa
