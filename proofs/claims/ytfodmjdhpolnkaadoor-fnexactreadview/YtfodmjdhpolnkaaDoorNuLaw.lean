/-
  ReadNumbers of both, and the walk of its law; for texts of at most 1048576 bytes (the law asks for no longer ones).
-/
import Derived.Test.YtfodmjdhpolnkaaDoorNuSpec
import Derived.Lib.SmallJoins
namespace Go.Proofs.YtfodmjdhpolnkaaDoor
open Go.ChangeShapes Go.WideShapes Go.ChangeAt Go.RowKit
set_option linter.unusedVariables false

/-- What ReadNumbers answers. -/
def nV (s : ByteArray) : List Int × Bool := if 600 < s.size then ([], false) else numL (TB s).data.toList
/-- An answer of ReadNumbers: a list of the call's own. -/
def NumSays (f : FuncId) (s : ByteArray) : Prop := ∀ w, Calls Tryd.prog f #[.string s] w fun e w' => ∃ v, e = .returned (.tuple #[v, .bool (nV s).2]) ∧ Ins w' w.heap.size v (nV s).1 ∧ Below w.heap.size w w'
theorem numL_len (l : List UInt8) : (numL l).1.length ≤ 60 := by
  unfold numL
  match nums l with
  | none => simp
  | some xs =>
    show (if xs.length ≤ 60 then (xs, true) else ([], false)).1.length ≤ 60
    split
    · assumption
    · simp
theorem nV_len (s : ByteArray) : (nV s).1.length ≤ 60 := by
  unfold nV
  split
  · simp
  · exact numL_len _
theorem sreadN (s : ByteArray) (hs : s.size ≤ 1048576) : NumSays 11 s := by
  intro w
  by_cases h : 600 < s.size
  · have HE : Hid (nV s = ([], false)) := by show _ = _; unfold nV; rw [if_pos h]
    go_enter Tryd.func11, Tryd.ntmps11
    go_wp2
    go_ret2
    refine ⟨.slice none 0 0, ?_, ?_, Below.refl _ _⟩
    · rw [HE.out]; rfl
    · rw [HE.out]; exact Ins.nil _ _
  · have HE : Hid (nV s = numL (TB s).data.toList) := by show _ = _; unfold nV; rw [if_neg h]
    have HT : Hid _ := fun w => snums s w (by omega)
    rw [← HE.out] at HT
    have hd : decide (600 < (s.size : Int)) = false := by simp; omega
    clear HE
    generalize nV s = r at *
    obtain ⟨l, ok⟩ := r
    go_enter Tryd.func11, Tryd.ntmps11
    go_wp2_with fail
    refine (HT.out _).mono ?_; rintro e w1 ⟨v, rfl, h1, h2⟩
    have H1 : Hid _ := h1
    have H2 : Hid _ := h2
    clear h1 h2
    go_wp2
    go_ret2
    exact ⟨v, rfl, H1.out, H2.out⟩
set_option maxHeartbeats 1000000 in
theorem ireadN (s : ByteArray) (hs : s.size ≤ 1048576) : NumSays 12 s := by
  intro w
  have HV : Hid _ := fun w => ivalue s w hs
  by_cases h : 600 < s.size
  · have HE : Hid (nV s = ([], false)) := by show _ = _; unfold nV; rw [if_pos h]
    rw [if_pos h, decide_eq_true h] at HV
    go_enter Tryd.func12, Tryd.ntmps12
    go_wp2_with fail
    refine (HV.out _).mono ?_; rintro e w1 ⟨rfl, h2⟩
    have H2 : Hid _ := h2
    clear h2
    go_wp2
    go_ret2
    refine ⟨.slice none 0 0, ?_, ?_, H2.out⟩
    · rw [HE.out]; rfl
    · rw [HE.out]; exact Ins.nil _ _
  · rw [if_neg h, decide_eq_false h] at HV
    have HE : Hid (nV s = if (numV (TB s).data.toList).2 = true ∧ (numV (TB s).data.toList).1.length ≤ 60 then ((numV (TB s).data.toList).1, true) else ([], false)) := by
      show _ = _; unfold nV; rw [if_neg h, numL_numV]
    have hle := TB_le s
    have HT : Hid _ := fun w => irow (TB s) w (by omega)
    generalize numV (TB s).data.toList = r at *
    generalize TB s = t at *
    obtain ⟨l, ok⟩ := r
    cases ok with
    | false =>
      have HE2 : Hid (nV s = ([], false)) := HE.out.trans (if_neg (fun h => by cases h.1))
      clear HE
      go_enter Tryd.func12, Tryd.ntmps12
      go_wp2_with fail
      refine (HV.out _).mono ?_; rintro e w1 ⟨rfl, h2⟩
      have H2 : Hid _ := h2
      clear h2
      go_wp2_with fail
      refine (HT.out _).mono ?_; rintro e w2 ⟨v, rfl, h3, h4⟩
      have H4 : Hid _ := h4
      clear h3 h4
      go_wp2
      go_ret2
      refine ⟨.slice none 0 0, ?_, ?_, Below.trans H2.out (Below.mono H4.out (Below.size H2.out))⟩
      · rw [HE2.out]; rfl
      · rw [HE2.out]; exact Ins.nil _ _
    | true =>
      by_cases h60 : l.length ≤ 60
      · have HE2 : Hid (nV s = (l, true)) := HE.out.trans (if_pos ⟨rfl, h60⟩)
        have hd : decide (60 < (l.length : Int)) = false := by simp; omega
        clear HE
        go_enter Tryd.func12, Tryd.ntmps12
        go_wp2_with fail
        refine (HV.out _).mono ?_; rintro e w1 ⟨rfl, h2⟩
        have H2 : Hid _ := h2
        clear h2
        go_wp2_with fail
        refine (HT.out _).mono ?_; rintro e w2 ⟨v, rfl, h3, h4⟩
        have H4 : Hid _ := h4
        have H3 : Hid (Ins w2 w1.heap.size v l) := h3
        have form : ∃ a c, v = .slice a l.length c := by
          rcases Ins.lay H3.out with ⟨rfl, rfl⟩ | ⟨g, c, rfl, _⟩
          · exact ⟨none, 0, rfl⟩
          · exact ⟨_, c, rfl⟩
        obtain ⟨va, vc, rfl⟩ := form
        clear h3 h4
        go_wp2
        go_ret2
        refine ⟨.slice va l.length vc, ?_, ?_, Below.trans H2.out (Below.mono H4.out (Below.size H2.out))⟩
        · rw [HE2.out]; rfl
        · rw [HE2.out]; exact Joins.ownsRow_le H3.out (Below.size H2.out)
      · have HE2 : Hid (nV s = ([], false)) := HE.out.trans (if_neg (fun h => h60 h.2))
        have hd : (60 : Int) < (l.length : Int) := by omega
        clear HE
        go_enter Tryd.func12, Tryd.ntmps12
        go_wp2_with fail
        refine (HV.out _).mono ?_; rintro e w1 ⟨rfl, h2⟩
        have H2 : Hid _ := h2
        clear h2
        go_wp2_with fail
        refine (HT.out _).mono ?_; rintro e w2 ⟨v, rfl, h3, h4⟩
        have H4 : Hid _ := h4
        have H3 : Hid (Ins w2 w1.heap.size v l) := h3
        have form : ∃ a c, v = .slice a l.length c := by
          rcases Ins.lay H3.out with ⟨rfl, rfl⟩ | ⟨g, c, rfl, _⟩
          · exact ⟨none, 0, rfl⟩
          · exact ⟨_, c, rfl⟩
        obtain ⟨va, vc, rfl⟩ := form
        clear h3 h4
        go_wp2
        go_ret2
        refine ⟨.slice none 0 0, ?_, ?_, Below.trans H2.out (Below.mono H4.out (Below.size H2.out))⟩
        · rw [HE2.out]; rfl
        · rw [HE2.out]; exact Ins.nil _ _
theorem markI_nil (w : World) (K : Nat) (hK : K ≤ 50000000) : Calls Tryd.prog 14 #[.slice none 0 0, .int .i64 (K : Int)] w fun e w' => e = .returned (.int .i64 (K : Int)) ∧ w' = w := by
  go_enter Tryd.func14, Tryd.ntmps14
  go_wp2
  go_loop [1, 5] (fun x i => x = .int .i64 (K : Int) ∧ i = .int .i64 0) (fun _ _ => 0)
  case atStart => exact ⟨rfl, rfl⟩
  case round =>
    obtain ⟨rfl, rfl⟩ := hrel
    go_wp2
    go_ret
    exact ⟨rfl, rfl⟩
theorem heldI_nil (w : World) (K : Nat) (hK : K ≤ 50000000) : Calls Tryd.prog 15 #[.slice none 0 0, .int .i64 (K : Int)] w fun e w' => e = .returned (.int .i64 (K : Int)) ∧ w' = w := by
  go_enter Tryd.func15, Tryd.ntmps15
  go_wp2
  go_loop [1, 5] (fun x i => x = .int .i64 (K : Int) ∧ i = .int .i64 0) (fun _ _ => 0)
  case atStart => exact ⟨rfl, rfl⟩
  case round =>
    obtain ⟨rfl, rfl⟩ := hrel
    go_wp2
    go_ret
    exact ⟨rfl, rfl⟩
set_option maxHeartbeats 2000000 in
/-- The walk of the law on ReadNumbers. -/
theorem walk_nums (w : World) (s : ByteArray) (hs : s.size ≤ maxLen) : Calls Tryd.prog 4 #[.string s] w fun e w' => e = .returned (.bool true) ∧ Below w.heap.size w w' := by
  unfold maxLen at hs
  by_cases h : 1048576 < s.size
  · go_enter Tryd.func4, Tryd.ntmps4
    go_wp2
    go_ret
    exact ⟨rfl, Below.refl _ _⟩
  · have HS : Hid (NumSays 11 s) := sreadN s (by omega)
    have HI : Hid (NumSays 12 s) := ireadN s (by omega)
    have hd : decide (1048576 < (s.size : Int)) = false := by simp; omega
    have hl := nV_len s
    go_enter Tryd.func4, Tryd.ntmps4
    go_wp2_with fail
    refine Calls.mono (HS.out _) ?_
    rintro e w1 ⟨v1, rfl, i1, b1⟩
    have R1 : Hid (RowI w1 v1 (nV s).1) := Ins.row i1
    have B1 : Hid (Below w.heap.size w w1) := b1
    clear i1 b1
    go_wp2_with fail
    refine Calls.mono (HI.out _) ?_
    rintro e w2 ⟨v2, rfl, i2, b2⟩
    have B2 : Hid (Below w.heap.size w w2) := Below.trans B1.out (Below.mono b2 (Below.size B1.out))
    have R2 : Hid (RowI w2 v1 (nV s).1) := R1.out.nw b2
    have L2 : Hid _ := i2.lay
    have HF : Hid (∀ g, w1.heap.size ≤ g → v1.ownBlock ≠ some g) := fun g hg => by
      rcases R1.out with ⟨rfl, _⟩ | ⟨g1, c1, rfl, hlt, _⟩
      · intro e; cases e
      · intro e
        have e2 : g1 = g := Option.some.inj e
        omega
    clear i2 b2 R1
    rcases L2.out with ⟨rfl, hl0⟩ | ⟨g, c, rfl, hg, hlay⟩
    · rw [hl0] at R2
      have HI0 : Hid (RowI w2 (.slice none 0 0) []) := Or.inl ⟨rfl, rfl⟩
      have H0 : Hid ((nV s).1 = []) := hl0
      clear hl0 L2
      go_wp2_with fail
      refine Calls.mono (eqI_any _ _ _ [] (by simp) HI0.out R2.out) ?_
      rintro e w3 ⟨rfl, b3⟩
      have B3 : Hid (Below w.heap.size w w3) := Below.trans B2.out (Below.mono b3 (Below.size B2.out))
      have R3 : Hid (RowI w3 v1 []) := R2.out.nw b3
      clear b3 R2 HI0
      go_wp2_with fail
      refine Calls.mono (markI_nil _ 1 (by omega)) ?_
      rintro e w4 ⟨rfl, rfl⟩
      go_wp2_with fail
      refine Calls.mono (heldI_nil _ 1 (by omega)) ?_
      rintro e w4 ⟨rfl, rfl⟩
      go_wp2_with fail
      refine Calls.mono (HI.out _) ?_
      rintro e w5 ⟨v3, rfl, i5, b5⟩
      rw [H0.out] at i5
      have B5 : Hid (Below w.heap.size w w5) := Below.trans B3.out (Below.mono b5 (Below.size B3.out))
      have R5 : Hid (RowI w5 v1 []) := R3.out.nw b5
      have I5 : Hid (RowI w5 v3 []) := Ins.row i5
      clear b5 i5 R3
      go_wp2_with fail
      refine Calls.mono (eqI_any _ _ _ [] (by simp) I5.out R5.out) ?_
      rintro e w6 ⟨rfl, b6⟩
      have B6 : Hid (Below w.heap.size w w6) := Below.trans B5.out (Below.mono b6 (Below.size B5.out))
      clear b6
      go_wp2_with fail
      refine Calls.mono (heldI_nil _ 1 (by omega)) ?_
      rintro e w7 ⟨rfl, rfl⟩
      go_wp2
      go_ret
      exact ⟨rfl, B6.out⟩
    · have HG : Hid (w1.heap.size ≤ g) := hg
      have HL : Hid (LayI w2 g (nV s).1) := hlay
      have HIR : Hid (RowI w2 (.slice (some ⟨g, 0, none⟩) (nV s).1.length c) (nV s).1) := hlay.row
      clear hg hlay L2
      go_wp2_with fail
      refine Calls.mono (eqI_any _ _ _ (nV s).1 (by omega) HIR.out R2.out) ?_
      rintro e w3 ⟨rfl, b3⟩
      have B3 : Hid (Below w.heap.size w w3) := Below.trans B2.out (Below.mono b3 (Below.size B2.out))
      have R3 : Hid (RowI w3 v1 (nV s).1) := R2.out.nw b3
      have L3 : Hid (LayI w3 g (nV s).1) := LayI.nw HL.out b3
      clear b3 R2 HIR HL
      go_wp2_with fail
      refine Calls.mono (markI_any _ g c 1 (nV s).1 (by omega) (by omega) L3.out) ?_
      rintro e w4 ⟨rfl, g4, l4⟩
      have B4 : Hid (Below w.heap.size w w4) := Below.trans B3.out (grI_below g4 (Nat.le_trans (Below.size B1.out) HG.out) (Below.size B3.out))
      have R4 : Hid (RowI w4 v1 (nV s).1) := RowI.grown R3.out g4 (HF.out g HG.out)
      have L4 : Hid (LayI w4 g (mkL 1 (nV s).1.length)) := l4
      clear g4 l4 R3 L3
      go_wp2_with fail
      refine Calls.mono (heldI_any _ g c 1 (nV s).1.length (by omega) (by omega) L4.out) ?_
      rintro e w5 ⟨rfl, rfl⟩
      go_wp2_with fail
      refine Calls.mono (HI.out _) ?_
      rintro e w6 ⟨v3, rfl, i6, b6⟩
      have B6 : Hid (Below w.heap.size w w6) := Below.trans B4.out (Below.mono b6 (Below.size B4.out))
      have R6 : Hid (RowI w6 v1 (nV s).1) := R4.out.nw b6
      have I6 : Hid (RowI w6 v3 (nV s).1) := Ins.row i6
      have L6 : Hid (LayI w6 g (mkL 1 (nV s).1.length)) := LayI.nw L4.out b6
      clear b6 i6 R4 L4
      go_wp2_with fail
      refine Calls.mono (eqI_any _ _ _ (nV s).1 (by omega) I6.out R6.out) ?_
      rintro e w7 ⟨rfl, b7⟩
      have B7 : Hid (Below w.heap.size w w7) := Below.trans B6.out (Below.mono b7 (Below.size B6.out))
      have L7 : Hid (LayI w7 g (mkL 1 (nV s).1.length)) := LayI.nw L6.out b7
      clear b7 L6
      go_wp2_with fail
      refine Calls.mono (heldI_any _ g c 1 (nV s).1.length (by omega) (by omega) L7.out) ?_
      rintro e w8 ⟨rfl, rfl⟩
      go_wp2
      go_ret
      exact ⟨rfl, B7.out⟩
end Go.Proofs.YtfodmjdhpolnkaaDoor
