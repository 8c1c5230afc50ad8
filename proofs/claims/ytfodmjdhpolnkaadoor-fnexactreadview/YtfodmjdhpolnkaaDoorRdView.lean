/-
  ReadView of both, and the walk of its law; for texts of at most 1048576 bytes (the law asks for no longer ones).
-/
import Derived.Test.YtfodmjdhpolnkaaDoorNuLaw
namespace Go.Proofs.YtfodmjdhpolnkaaDoor
open Go.ChangeShapes Go.WideShapes Go.ChangeAt Go.RowKit
set_option linter.unusedVariables false

/-- Four numbers and whether they are told. -/
structure VW where
  a : Int
  b : Int
  c : Int
  d : Int
  ok : Bool
def noVW : VW := ⟨0, 0, 0, 0, false⟩
def vwV (r : List Int × Bool) : VW := match r with
  | ([x0, x1, x2, x3], true) => if 0 < x2 ∧ 0 < x3 then ⟨x0, x1, x2, x3, true⟩ else noVW
  | _ => noVW
theorem vw_false (l : List Int) : vwV (l, false) = noVW := by
  unfold vwV
  split
  · rename_i h; cases h
  · rfl
theorem vw_len (l : List Int) (h : l.length ≠ 4) : vwV (l, true) = noVW := by
  unfold vwV
  split
  · rename_i e; injection e with e _; rw [e] at h; simp at h
  · rfl
theorem four (l : List Int) (h : l.length = 4) : ∃ x0 x1 x2 x3, l = [x0, x1, x2, x3] := by
  match l, h with
  | [x0, x1, x2, x3], _ => exact ⟨x0, x1, x2, x3, rfl⟩
abbrev vwR (v : VW) : Value := .tuple #[.int .i64 v.a, .int .i64 v.b, .int .i64 v.c, .int .i64 v.d, .bool v.ok]
/-- What ReadView answers. -/
def ViewSays (f : FuncId) (s : ByteArray) : Prop := ∀ w, Calls Tryd.prog f #[.string s] w fun e w' => e = .returned (vwR (vwV (nV s))) ∧ Below w.heap.size w w'
theorem Below.drewN_ {B : Nat} {w w1 : World} (h : Below B w w1) (n : Nat) : Below B w (w1.drewN n) := ⟨h.os, h.tape, h.output, h.size, h.block⟩
set_option maxHeartbeats 2000000 in
theorem sview_body (s : ByteArray) (w : World) (l : List Int) (ok : Bool) (R : VW) (HR : Hid (vwV (l, ok) = R)) (hs : s.size ≤ 600) (hd : decide (600 < (s.size : Int)) = false)
    (HT : Hid (∀ w, Calls Tryd.prog 37 #[.string s] w fun e w' => ∃ v, e = .returned (.tuple #[v, .bool ok]) ∧ Ins w' w.heap.size v l ∧ Below w.heap.size w w')) :
    Calls Tryd.prog 26 #[.string s] w fun e w' => e = .returned (vwR R) ∧ Below w.heap.size w w' := by
  cases ok with
  | false =>
    have HE : Hid (R = noVW) := HR.out.symm.trans (vw_false l)
    go_enter Tryd.func26, Tryd.ntmps26
    go_wp2_with fail
    refine Calls.mono (HT.out _) ?_
    rintro e w1 ⟨v, rfl, i1, b1⟩
    have B1 : Hid (Below w.heap.size w w1) := b1
    have HL : Hid _ := Ins.lay i1
    clear i1 b1
    obtain ⟨va, vc, rfl⟩ : ∃ a c, v = .slice a l.length c := by
      rcases HL.out with ⟨rfl, rfl⟩ | ⟨g, c, rfl, _⟩
      · exact ⟨none, 0, rfl⟩
      · exact ⟨_, c, rfl⟩
    clear HL
    go_wp2
    exact bodyPost_ret (v := vwR noVW) (by simp [results, Tryd.results26, go_sem, noVW]) rfl ⟨by rw [HE.out], B1.out⟩
  | true =>
    by_cases h4 : l.length = 4
    · obtain ⟨x0, x1, x2, x3, rfl⟩ := four l h4
      clear h4
      by_cases h2 : 0 < x2
      · by_cases h3 : 0 < x3
        · have HE : Hid (R = ⟨x0, x1, x2, x3, true⟩) := HR.out.symm.trans (if_pos ⟨h2, h3⟩)
          have d2 : decide (x2 ≤ 0) = false := by simp; omega
          have d3 : decide (x3 ≤ 0) = false := by simp; omega
          go_enter Tryd.func26, Tryd.ntmps26
          go_wp2_with fail
          refine Calls.mono (HT.out _) ?_
          rintro e w1 ⟨v, rfl, i1, b1⟩
          have B1 : Hid (Below w.heap.size w w1) := b1
          have HL : Hid _ := Ins.lay i1
          clear i1 b1
          obtain ⟨g, c, rfl, hlay⟩ : ∃ g c, v = .slice (some ⟨g, 0, none⟩) 4 c ∧ LayI w1 g [x0, x1, x2, x3] := by
            rcases HL.out with ⟨_, h⟩ | ⟨g, c, h1, _, h3⟩
            · cases h
            · exact ⟨g, c, h1, h3⟩
          clear HL
          have c0 : w1.cell? ⟨g, 0, none⟩ = some (.int .i64 x0) := hlay.2.1 0 (by simp)
          have c1 : w1.cell? ⟨g, 1, none⟩ = some (.int .i64 x1) := hlay.2.1 1 (by simp)
          have c2 : w1.cell? ⟨g, 2, none⟩ = some (.int .i64 x2) := hlay.2.1 2 (by simp)
          have c3 : w1.cell? ⟨g, 3, none⟩ = some (.int .i64 x3) := hlay.2.1 3 (by simp)
          clear hlay
          go_wp2_with fail
          go_quiet (fail)
          go_wp2
          exact bodyPost_ret (v := vwR ⟨x0, x1, x2, x3, true⟩) (by simp [results, Tryd.results26, go_sem]) rfl ⟨by rw [HE.out], Below.drewN_ B1.out _⟩
        · have HE : Hid (R = noVW) := HR.out.symm.trans (if_neg (fun h => h3 h.2))
          have d2 : decide (x2 ≤ 0) = false := by simp; omega
          have d3 : decide (x3 ≤ 0) = true := by simp; omega
          go_enter Tryd.func26, Tryd.ntmps26
          go_wp2_with fail
          refine Calls.mono (HT.out _) ?_
          rintro e w1 ⟨v, rfl, i1, b1⟩
          have B1 : Hid (Below w.heap.size w w1) := b1
          have HL : Hid _ := Ins.lay i1
          clear i1 b1
          obtain ⟨g, c, rfl, hlay⟩ : ∃ g c, v = .slice (some ⟨g, 0, none⟩) 4 c ∧ LayI w1 g [x0, x1, x2, x3] := by
            rcases HL.out with ⟨_, h⟩ | ⟨g, c, h1, _, h3⟩
            · cases h
            · exact ⟨g, c, h1, h3⟩
          clear HL
          have c0 : w1.cell? ⟨g, 0, none⟩ = some (.int .i64 x0) := hlay.2.1 0 (by simp)
          have c1 : w1.cell? ⟨g, 1, none⟩ = some (.int .i64 x1) := hlay.2.1 1 (by simp)
          have c2 : w1.cell? ⟨g, 2, none⟩ = some (.int .i64 x2) := hlay.2.1 2 (by simp)
          have c3 : w1.cell? ⟨g, 3, none⟩ = some (.int .i64 x3) := hlay.2.1 3 (by simp)
          clear hlay
          go_wp2
          exact bodyPost_ret (v := vwR noVW) (by simp [results, Tryd.results26, go_sem, noVW]) rfl ⟨by rw [HE.out], B1.out⟩
      · have HE : Hid (R = noVW) := HR.out.symm.trans (if_neg (fun h => h2 h.1))
        have d2 : decide (x2 ≤ 0) = true := by simp; omega
        go_enter Tryd.func26, Tryd.ntmps26
        go_wp2_with fail
        refine Calls.mono (HT.out _) ?_
        rintro e w1 ⟨v, rfl, i1, b1⟩
        have B1 : Hid (Below w.heap.size w w1) := b1
        have HL : Hid _ := Ins.lay i1
        clear i1 b1
        obtain ⟨g, c, rfl, hlay⟩ : ∃ g c, v = .slice (some ⟨g, 0, none⟩) 4 c ∧ LayI w1 g [x0, x1, x2, x3] := by
          rcases HL.out with ⟨_, h⟩ | ⟨g, c, h1, _, h3⟩
          · cases h
          · exact ⟨g, c, h1, h3⟩
        clear HL
        have c0 : w1.cell? ⟨g, 0, none⟩ = some (.int .i64 x0) := hlay.2.1 0 (by simp)
        have c1 : w1.cell? ⟨g, 1, none⟩ = some (.int .i64 x1) := hlay.2.1 1 (by simp)
        have c2 : w1.cell? ⟨g, 2, none⟩ = some (.int .i64 x2) := hlay.2.1 2 (by simp)
        have c3 : w1.cell? ⟨g, 3, none⟩ = some (.int .i64 x3) := hlay.2.1 3 (by simp)
        clear hlay
        go_wp2
        exact bodyPost_ret (v := vwR noVW) (by simp [results, Tryd.results26, go_sem, noVW]) rfl ⟨by rw [HE.out], B1.out⟩
    · have HE : Hid (R = noVW) := HR.out.symm.trans (vw_len l h4)
      have hq : ((l.length : Int) != 4) = true := by rw [bne_iff_ne]; omega
      go_enter Tryd.func26, Tryd.ntmps26
      go_wp2_with fail
      refine Calls.mono (HT.out _) ?_
      rintro e w1 ⟨v, rfl, i1, b1⟩
      have B1 : Hid (Below w.heap.size w w1) := b1
      have HL : Hid _ := Ins.lay i1
      clear i1 b1
      obtain ⟨va, vc, rfl⟩ : ∃ a c, v = .slice a l.length c := by
        rcases HL.out with ⟨rfl, rfl⟩ | ⟨g, c, rfl, _⟩
        · exact ⟨none, 0, rfl⟩
        · exact ⟨_, c, rfl⟩
      clear HL
      go_wp2
      exact bodyPost_ret (v := vwR noVW) (by simp [results, Tryd.results26, go_sem, noVW]) rfl ⟨by rw [HE.out], B1.out⟩
set_option maxHeartbeats 2000000 in
theorem iview_body (s : ByteArray) (w : World) (l : List Int) (ok : Bool) (R : VW) (HR : Hid (vwV (l, ok) = R))
    (HT : Hid (∀ w, Calls Tryd.prog 12 #[.string s] w fun e w' => ∃ v, e = .returned (.tuple #[v, .bool ok]) ∧ Ins w' w.heap.size v l ∧ Below w.heap.size w w')) :
    Calls Tryd.prog 27 #[.string s] w fun e w' => e = .returned (vwR R) ∧ Below w.heap.size w w' := by
  cases ok with
  | false =>
    have HE : Hid (R = noVW) := HR.out.symm.trans (vw_false l)
    go_enter Tryd.func27, Tryd.ntmps27
    go_wp2_with fail
    refine Calls.mono (HT.out _) ?_
    rintro e w1 ⟨v, rfl, i1, b1⟩
    have B1 : Hid (Below w.heap.size w w1) := b1
    have HL : Hid _ := Ins.lay i1
    clear i1 b1
    obtain ⟨va, vc, rfl⟩ : ∃ a c, v = .slice a l.length c := by
      rcases HL.out with ⟨rfl, rfl⟩ | ⟨g, c, rfl, _⟩
      · exact ⟨none, 0, rfl⟩
      · exact ⟨_, c, rfl⟩
    clear HL
    go_wp2
    exact bodyPost_ret (v := vwR noVW) (by simp [results, Tryd.results27, go_sem, noVW]) rfl ⟨by rw [HE.out], B1.out⟩
  | true =>
    by_cases h4 : l.length = 4
    · obtain ⟨x0, x1, x2, x3, rfl⟩ := four l h4
      clear h4
      by_cases h2 : 0 < x2
      · by_cases h3 : 0 < x3
        · have HE : Hid (R = ⟨x0, x1, x2, x3, true⟩) := HR.out.symm.trans (if_pos ⟨h2, h3⟩)
          have d2 : decide (x2 ≤ 0) = false := by simp; omega
          have d3 : decide (x3 ≤ 0) = false := by simp; omega
          go_enter Tryd.func27, Tryd.ntmps27
          go_wp2_with fail
          refine Calls.mono (HT.out _) ?_
          rintro e w1 ⟨v, rfl, i1, b1⟩
          have B1 : Hid (Below w.heap.size w w1) := b1
          have HL : Hid _ := Ins.lay i1
          clear i1 b1
          obtain ⟨g, c, rfl, hlay⟩ : ∃ g c, v = .slice (some ⟨g, 0, none⟩) 4 c ∧ LayI w1 g [x0, x1, x2, x3] := by
            rcases HL.out with ⟨_, h⟩ | ⟨g, c, h1, _, h3⟩
            · cases h
            · exact ⟨g, c, h1, h3⟩
          clear HL
          have c0 : w1.cell? ⟨g, 0, none⟩ = some (.int .i64 x0) := hlay.2.1 0 (by simp)
          have c1 : w1.cell? ⟨g, 1, none⟩ = some (.int .i64 x1) := hlay.2.1 1 (by simp)
          have c2 : w1.cell? ⟨g, 2, none⟩ = some (.int .i64 x2) := hlay.2.1 2 (by simp)
          have c3 : w1.cell? ⟨g, 3, none⟩ = some (.int .i64 x3) := hlay.2.1 3 (by simp)
          clear hlay
          go_wp2_with fail
          go_quiet (fail)
          go_wp2
          exact bodyPost_ret (v := vwR ⟨x0, x1, x2, x3, true⟩) (by simp [results, Tryd.results27, go_sem]) rfl ⟨by rw [HE.out], Below.drewN_ B1.out _⟩
        · have HE : Hid (R = noVW) := HR.out.symm.trans (if_neg (fun h => h3 h.2))
          have d2 : decide (x2 ≤ 0) = false := by simp; omega
          have d3 : decide (x3 ≤ 0) = true := by simp; omega
          go_enter Tryd.func27, Tryd.ntmps27
          go_wp2_with fail
          refine Calls.mono (HT.out _) ?_
          rintro e w1 ⟨v, rfl, i1, b1⟩
          have B1 : Hid (Below w.heap.size w w1) := b1
          have HL : Hid _ := Ins.lay i1
          clear i1 b1
          obtain ⟨g, c, rfl, hlay⟩ : ∃ g c, v = .slice (some ⟨g, 0, none⟩) 4 c ∧ LayI w1 g [x0, x1, x2, x3] := by
            rcases HL.out with ⟨_, h⟩ | ⟨g, c, h1, _, h3⟩
            · cases h
            · exact ⟨g, c, h1, h3⟩
          clear HL
          have c0 : w1.cell? ⟨g, 0, none⟩ = some (.int .i64 x0) := hlay.2.1 0 (by simp)
          have c1 : w1.cell? ⟨g, 1, none⟩ = some (.int .i64 x1) := hlay.2.1 1 (by simp)
          have c2 : w1.cell? ⟨g, 2, none⟩ = some (.int .i64 x2) := hlay.2.1 2 (by simp)
          have c3 : w1.cell? ⟨g, 3, none⟩ = some (.int .i64 x3) := hlay.2.1 3 (by simp)
          clear hlay
          go_wp2
          exact bodyPost_ret (v := vwR noVW) (by simp [results, Tryd.results27, go_sem, noVW]) rfl ⟨by rw [HE.out], B1.out⟩
      · have HE : Hid (R = noVW) := HR.out.symm.trans (if_neg (fun h => h2 h.1))
        have d2 : decide (x2 ≤ 0) = true := by simp; omega
        go_enter Tryd.func27, Tryd.ntmps27
        go_wp2_with fail
        refine Calls.mono (HT.out _) ?_
        rintro e w1 ⟨v, rfl, i1, b1⟩
        have B1 : Hid (Below w.heap.size w w1) := b1
        have HL : Hid _ := Ins.lay i1
        clear i1 b1
        obtain ⟨g, c, rfl, hlay⟩ : ∃ g c, v = .slice (some ⟨g, 0, none⟩) 4 c ∧ LayI w1 g [x0, x1, x2, x3] := by
          rcases HL.out with ⟨_, h⟩ | ⟨g, c, h1, _, h3⟩
          · cases h
          · exact ⟨g, c, h1, h3⟩
        clear HL
        have c0 : w1.cell? ⟨g, 0, none⟩ = some (.int .i64 x0) := hlay.2.1 0 (by simp)
        have c1 : w1.cell? ⟨g, 1, none⟩ = some (.int .i64 x1) := hlay.2.1 1 (by simp)
        have c2 : w1.cell? ⟨g, 2, none⟩ = some (.int .i64 x2) := hlay.2.1 2 (by simp)
        have c3 : w1.cell? ⟨g, 3, none⟩ = some (.int .i64 x3) := hlay.2.1 3 (by simp)
        clear hlay
        go_wp2
        exact bodyPost_ret (v := vwR noVW) (by simp [results, Tryd.results27, go_sem, noVW]) rfl ⟨by rw [HE.out], B1.out⟩
    · have HE : Hid (R = noVW) := HR.out.symm.trans (vw_len l h4)
      have hq : ((l.length : Int) != 4) = true := by rw [bne_iff_ne]; omega
      go_enter Tryd.func27, Tryd.ntmps27
      go_wp2_with fail
      refine Calls.mono (HT.out _) ?_
      rintro e w1 ⟨v, rfl, i1, b1⟩
      have B1 : Hid (Below w.heap.size w w1) := b1
      have HL : Hid _ := Ins.lay i1
      clear i1 b1
      obtain ⟨va, vc, rfl⟩ : ∃ a c, v = .slice a l.length c := by
        rcases HL.out with ⟨rfl, rfl⟩ | ⟨g, c, rfl, _⟩
        · exact ⟨none, 0, rfl⟩
        · exact ⟨_, c, rfl⟩
      clear HL
      go_wp2
      exact bodyPost_ret (v := vwR noVW) (by simp [results, Tryd.results27, go_sem, noVW]) rfl ⟨by rw [HE.out], B1.out⟩
theorem sview (s : ByteArray) (hs : s.size ≤ 1048576) : ViewSays 26 s := by
  intro w
  by_cases h : 600 < s.size
  · have HE : Hid (vwV (nV s) = noVW) := by
      show _ = _
      have e : nV s = ([], false) := by unfold nV; rw [if_pos h]
      rw [e]; exact vw_false []
    go_enter Tryd.func26, Tryd.ntmps26
    go_wp2
    exact bodyPost_ret (v := vwR noVW) (by simp [results, Tryd.results26, go_sem, noVW]) rfl ⟨by rw [HE.out], Below.refl _ _⟩
  · have e : nV s = numL (TB s).data.toList := by unfold nV; rw [if_neg h]
    rw [e]
    exact sview_body s w _ _ _ (show Hid _ from rfl) (by omega) (by simp; omega) (show Hid _ from fun w => snums s w (by omega))
theorem iview (s : ByteArray) (hs : s.size ≤ 1048576) : ViewSays 27 s := by
  intro w
  exact iview_body s w _ _ _ (show Hid _ from rfl) (show Hid _ from ireadN s hs)
/-- The walk of the law on ReadView. -/
theorem walk_view (w : World) (s : ByteArray) (hs : s.size ≤ maxLen) : Calls Tryd.prog 8 #[.string s] w fun e w' => e = .returned (.bool true) ∧ Below w.heap.size w w' := by
  unfold maxLen at hs
  by_cases h : 1048576 < s.size
  · go_enter Tryd.func8, Tryd.ntmps8
    go_wp2
    go_ret
    exact ⟨rfl, Below.refl _ _⟩
  · have HS : Hid _ := sview s (by omega)
    have HI : Hid _ := iview s (by omega)
    have hd : decide (1048576 < (s.size : Int)) = false := by simp; omega
    unfold ViewSays at HS HI
    generalize vwV (nV s) = r at *
    obtain ⟨a, b, c, d, ok⟩ := r
    go_enter Tryd.func8, Tryd.ntmps8
    go_wp2_with fail
    refine Calls.mono (HS.out _) ?_; rintro e w1 ⟨rfl, b1⟩
    have B1 : Hid _ := b1
    clear b1
    go_wp2_with fail
    refine Calls.mono (HI.out _) ?_; rintro e w2 ⟨rfl, b2⟩
    have B2 : Hid _ := b2
    clear b2
    go_wp2
    go_ret
    exact ⟨rfl, Below.trans B1.out (Below.mono B2.out (Below.size B1.out))⟩
end Go.Proofs.YtfodmjdhpolnkaaDoor
