/-
  ReadLength of both, and the walk of its law; for texts of at most 1048576 bytes (the law asks for no longer ones).
-/
import Derived.Test.YtfodmjdhpolnkaaDoorRdLenP
import Derived.Deep.WholeRow
namespace Go.Proofs.YtfodmjdhpolnkaaDoor
open Go.ChangeShapes Go.WideShapes Go.ChangeAt Go.RowKit
set_option linter.unusedVariables false

/-- What splitUnit answers: the number's text and the unit's two numbers. -/
def SpU (t : ByteArray) (num : ByteArray) (mul div : Int) : Prop :=
  (∃ k, k < 6 ∧ Lib.hasSuffix t.data.toList (unAt k).1.data.toList = true ∧ num = ⟨(Lib.trimSuffix t.data.toList (unAt k).1.data.toList).toArray⟩ ∧ mul = (unAt k).2.1 ∧ div = (unAt k).2.2)
  ∨ ((∀ k, k < 6 → Lib.hasSuffix t.data.toList (unAt k).1.data.toList = false) ∧ num = t ∧ mul = 1 ∧ div = 1)
theorem row18 (C : Array Value) (hCs : C.size = 18) : #[C[0]'(by omega), C[1]'(by omega), C[2]'(by omega), C[3]'(by omega), C[4]'(by omega), C[5]'(by omega), C[6]'(by omega), C[7]'(by omega), C[8]'(by omega), C[9]'(by omega), C[10]'(by omega), C[11]'(by omega), C[12]'(by omega), C[13]'(by omega), C[14]'(by omega), C[15]'(by omega), C[16]'(by omega), C[17]'(by omega)] = C := by
  obtain ⟨l⟩ := C
  match l, hCs with
  | [_, _, _, _, _, _, _, _, _, _, _, _, _, _, _, _, _, _], _ => rfl
set_option maxHeartbeats 4000000 in
set_option maxRecDepth 100000 in
theorem isplit (t : ByteArray) (w : World) (ht : t.size ≤ 1048576) : Calls Tryd.prog 33 #[.string t] w fun e w' => ∃ (num nm : ByteArray) (mul div : Int), e = .returned (.tuple #[.string num, .agg #[.string nm, .int .i64 mul, .int .i64 div]]) ∧ SpU t num mul div ∧ Below w.heap.size w w' := by
  have HC : Hid _ := fun p w => Tryd.strings_CutSuffix t p w (by omega)
  go_enter Tryd.func33, Tryd.ntmps33
  generalize hs0 : (⟨#[112, 120]⟩ : ByteArray) = s0
  generalize hs1 : (⟨#[112, 116]⟩ : ByteArray) = s1
  generalize hs2 : (⟨#[112, 99]⟩ : ByteArray) = s2
  generalize hs3 : (⟨#[105, 110]⟩ : ByteArray) = s3
  generalize hs4 : (⟨#[99, 109]⟩ : ByteArray) = s4
  generalize hs5 : (⟨#[109, 109]⟩ : ByteArray) = s5
  obtain ⟨TT, hT⟩ : ∃ T : TypeId, T = 67 := ⟨_, rfl⟩
  rw [show ∀ ps, Op.build 67 ps = Op.build TT ps from fun ps => by rw [hT]]
  have HT : Hid (TT = 67) := hT
  clear hT
  go_wp2
  have hT := HT.out
  subst hT
  generalize hW : w.alloc (.cells #[Value.string ⟨#[]⟩, Value.int .i64 0, Value.int .i64 0] 50) = W
  simp [go_sem]
  rename_i hk
  refine hk _ _ ?_
  clear hk
  generalize hC : (List.toArray (Value.string s0 :: Value.int .i64 1 :: Value.int .i64 1 :: Value.string s1 :: Value.int .i64 400 :: Value.int .i64 300 :: Value.string s2 :: Value.int .i64 1600 :: Value.int .i64 100 :: Value.string s3 :: Value.int .i64 9600 :: Value.int .i64 100 :: Value.string s4 :: Value.int .i64 9600 :: Value.int .i64 254 :: Value.string s5 :: Value.int .i64 9600 :: Value.int .i64 2540 :: [])) = C
  have hCs : C.size = 18 := by rw [← hC]; rfl
  have hC1 : C.all (·.oneCell') = true := by rw [← hC]; simp [Value.oneCell']
  have HCU : Hid (C = unTab) := by
    show _ = _
    rw [← hC]
    clear hC hC1 hCs
    subst hs0 hs1 hs2 hs3 hs4 hs5
    rfl
  have hWs : W.heap.size = w.heap.size + 1 := by rw [← hW]; simp
  have hsc := run_storeCells_new (P := Tryd.prog) W 67 (List.toArray (Value.string ⟨#[]⟩ :: Value.int .i64 0 :: Value.int .i64 0 :: Value.string ⟨#[]⟩ :: Value.int .i64 0 :: Value.int .i64 0 :: Value.string ⟨#[]⟩ :: Value.int .i64 0 :: Value.int .i64 0 :: Value.string ⟨#[]⟩ :: Value.int .i64 0 :: Value.int .i64 0 :: Value.string ⟨#[]⟩ :: Value.int .i64 0 :: Value.int .i64 0 :: Value.string ⟨#[]⟩ :: Value.int .i64 0 :: Value.int .i64 0 :: [])) C (by rw [hCs]; kernel_rfl) (by rw [hCs]; rfl) hC1
  have hl : (loadVar 67 ⟨W.heap.size, 0, none⟩).run Tryd.prog (W.alloc (.cells C 67)) = .ok (.agg C) (W.alloc (.cells C 67)) := run_loadVar_new W 67 C 6 50 Tryd.underlying67 (by rw [hCs]; kernel_rfl)
  have d0 : (W.alloc (.cells C 67)).cell? ⟨w.heap.size, 0, none⟩ = some (.string ⟨#[]⟩) := by rw [World.cell?_alloc_past _ _ _ (by omega), ← hW, World.cell?_alloc_at _ _ _ _ rfl]; rfl
  have d1 : (W.alloc (.cells C 67)).cell? ⟨w.heap.size, 1, none⟩ = some (.int .i64 0) := by rw [World.cell?_alloc_past _ _ _ (by omega), ← hW, World.cell?_alloc_at _ _ _ _ rfl]; rfl
  have d2 : (W.alloc (.cells C 67)).cell? ⟨w.heap.size, 2, none⟩ = some (.int .i64 0) := by rw [World.cell?_alloc_past _ _ _ (by omega), ← hW, World.cell?_alloc_at _ _ _ _ rfl]; rfl
  have df : ∀ o, (W.alloc (.cells C 67)).frozen? ⟨w.heap.size, o, none⟩ = false := fun o => by
    rw [frozen?_alloc_cells, ← hW]; exact World.frozen?_alloc_at _ _ _ _ rfl
  have HW1 : Hid (Below w.heap.size w (W.alloc (.cells C 67))) := by
    have : Below w.heap.size w W := by rw [← hW]; exact (Below.refl _ _).alloc (Nat.le_refl _) _
    exact this.alloc (by omega) _
  clear hC hC1 hW hs0 hs1 hs2 hs3 hs4 hs5
  rw [hWs] at hsc hl
  go_wp2
  clear hsc hl
  rw [row18 C hCs]
  go_loopw [17] (fun i wr => ∃ k : Nat, k ≤ 6 ∧ i = .int .i64 k ∧ (∀ j, j < k → Lib.hasSuffix t.data.toList (unAt j).1.data.toList = false) ∧ Below w.heap.size w wr ∧ w.heap.size < wr.heap.size ∧ wr.cell? ⟨w.heap.size, 0, none⟩ = some (.string ⟨#[]⟩) ∧ wr.cell? ⟨w.heap.size, 1, none⟩ = some (.int .i64 0) ∧ wr.cell? ⟨w.heap.size, 2, none⟩ = some (.int .i64 0) ∧ ∀ o, wr.frozen? ⟨w.heap.size, o, none⟩ = false) (fun i _ => 6 - (intOf i).toNat)
  case atStart => exact ⟨0, Nat.zero_le _, rfl, fun j hj => absurd hj (by omega), HW1.out, by simp; omega, d0, d1, d2, df⟩
  case round =>
    clear d0 d1 d2 df HW1
    obtain ⟨k, hk, rfl, hno, hw, hb, d0, d1, d2, df⟩ := hrel
    have HN : Hid _ := hno
    have HW : Hid (Below w.heap.size w wr) := hw
    clear hno hw
    by_cases hlt : k < 6
    · have hix : ∀ W, (Instr.index 67 (.agg C) (.int .i64 (k : Int))).run Tryd.prog W = .ok (.agg #[.string (unAt k).1, .int .i64 (unAt k).2.1, .int .i64 (unAt k).2.2]) W := fun W => by rw [HCU.out]; exact ix_un k hlt W
      have HP : Hid _ := fun w => HC.out (unAt k).1 w
      have HQ : Hid (Lib.hasSuffix t.data.toList (unAt k).1.data.toList = true → SpU t ⟨(Lib.trimSuffix t.data.toList (unAt k).1.data.toList).toArray⟩ (unAt k).2.1 (unAt k).2.2) := fun h => Or.inl ⟨k, hlt, h, rfl, rfl, rfl⟩
      have HO : Hid (Lib.hasSuffix t.data.toList (unAt k).1.data.toList = false → ∀ j, j < k + 1 → Lib.hasSuffix t.data.toList (unAt j).1.data.toList = false) := fun h j hj => by
        rcases Nat.lt_succ_iff_lt_or_eq.1 hj with h2 | rfl
        · exact HN.out j h2
        · exact h
      clear HN HCU
      generalize Lib.hasSuffix t.data.toList (unAt k).1.data.toList = has at *
      generalize (⟨(Lib.trimSuffix t.data.toList (unAt k).1.data.toList).toArray⟩ : ByteArray) = num at *
      generalize (unAt k).2.1 = mul at *
      generalize (unAt k).2.2 = div at *
      generalize (unAt k).1 = nm at *
      have e0 : ∀ ob, (wr.alloc ob).cell? ⟨w.heap.size, 0, none⟩ = some (.string ⟨#[]⟩) := fun ob => by rw [World.cell?_alloc_past _ _ _ hb]; exact d0
      have e1 : ∀ ob, (wr.alloc ob).cell? ⟨w.heap.size, 1, none⟩ = some (.int .i64 0) := fun ob => by rw [World.cell?_alloc_past _ _ _ hb]; exact d1
      have e2 : ∀ ob, (wr.alloc ob).cell? ⟨w.heap.size, 2, none⟩ = some (.int .i64 0) := fun ob => by rw [World.cell?_alloc_past _ _ _ hb]; exact d2
      have ef : ∀ c tt o, (wr.alloc (.cells c tt)).frozen? ⟨w.heap.size, o, none⟩ = false := fun c tt o => by rw [frozen?_alloc_cells]; exact df o
      cases has with
      | true =>
        have HQ2 : Hid _ := HQ.out rfl
        clear HQ HO
        go_wp2_with fail
        refine (HP.out _).mono ?_
        rintro e w' ⟨rfl, rfl⟩
        go_wp2
        go_region
        obtain ⟨W3, hW3⟩ : ∃ W3, W3 = ((wr.setCell ⟨w.heap.size, 0, none⟩ (.string nm)).setCell ⟨w.heap.size, 1, none⟩ (.int .i64 mul)).setCell ⟨w.heap.size, 2, none⟩ (.int .i64 div) := ⟨_, rfl⟩
        have g0 : W3.cell? ⟨w.heap.size, 0, none⟩ = some (.string nm) := by
          rw [hW3, World.cell?_setCell_other _ _ _ _ (fun h => by injection h; omega), World.cell?_setCell_other _ _ _ _ (fun h => by injection h; omega)]
          exact World.cell?_setCell_same wr ⟨w.heap.size, 0, none⟩ _ d0
        have g1 : W3.cell? ⟨w.heap.size, 1, none⟩ = some (.int .i64 mul) := by
          rw [hW3, World.cell?_setCell_other _ _ _ _ (fun h => by injection h; omega)]
          exact World.cell?_setCell_same _ ⟨w.heap.size, 1, none⟩ _ ((World.cell?_setCell_other _ _ _ _ (fun h => by injection h; omega)).trans d1)
        have g2 : W3.cell? ⟨w.heap.size, 2, none⟩ = some (.int .i64 div) := by
          rw [hW3]
          exact World.cell?_setCell_same _ ⟨w.heap.size, 2, none⟩ _ ((World.cell?_setCell_other _ _ _ _ (fun h => by injection h; omega)).trans ((World.cell?_setCell_other _ _ _ _ (fun h => by injection h; omega)).trans d2))
        have hb3 : w.heap.size < W3.heap.size := by rw [hW3]; simpa [World.setCell] using hb
        have kb : Below w.heap.size w W3 := by
          have kb0 : Below w.heap.size w wr := HW.out
          rw [hW3]
          exact ((kb0.setCell (Nat.le_refl _) _).setCell (Nat.le_refl _) _).setCell (Nat.le_refl _) _
        have y0 := fun ob => (World.cell?_alloc_past (w := W3) ob w.heap.size 0 hb3).trans g0
        have y1 := fun ob => (World.cell?_alloc_past (w := W3) ob w.heap.size 1 hb3).trans g1
        have y2 := fun ob => (World.cell?_alloc_past (w := W3) ob w.heap.size 2 hb3).trans g2
        go_wp2
        rw [← hW3]
        refine bodyPost_ret (v := .tuple #[.string num, .agg #[.string nm, .int .i64 mul, .int .i64 div]]) (by simp [results, Tryd.results33, go_sem, y0, y1, y2]) rfl ⟨num, nm, mul, div, rfl, HQ2.out, ?_⟩
        exact (kb.alloc kb.size _).drew
      | false =>
        have HO2 : Hid _ := HO.out rfl
        clear HQ HO
        go_wp2_with fail
        refine (HP.out _).mono ?_
        rintro e w' ⟨rfl, rfl⟩
        go_wp2
        go_roundw
        case rel =>
          have kb : Below w.heap.size w wr := HW.out
          exact ⟨k + 1, by omega, by go_num, HO2.out, kb.alloc kb.size _, by simp; omega, e0 _, e1 _, e2 _, fun o => ef _ _ o⟩
        case measure => simp [intOf]; omega
    · have e : k = 6 := by omega
      subst e
      have HE : Hid (SpU t t 1 1) := Or.inr ⟨HN.out, rfl, rfl, rfl⟩
      clear HCU
      go_wp2
      obtain ⟨W3, hW3⟩ : ∃ W3, W3 = ((wr.setCell ⟨w.heap.size, 0, none⟩ (.string ⟨#[]⟩)).setCell ⟨w.heap.size, 1, none⟩ (.int .i64 1)).setCell ⟨w.heap.size, 2, none⟩ (.int .i64 1) := ⟨_, rfl⟩
      have g0 : W3.cell? ⟨w.heap.size, 0, none⟩ = some (.string ⟨#[]⟩) := by
        rw [hW3, World.cell?_setCell_other _ _ _ _ (fun h => by injection h; omega), World.cell?_setCell_other _ _ _ _ (fun h => by injection h; omega)]
        exact World.cell?_setCell_same wr ⟨w.heap.size, 0, none⟩ _ d0
      have g1 : W3.cell? ⟨w.heap.size, 1, none⟩ = some (.int .i64 1) := by
        rw [hW3, World.cell?_setCell_other _ _ _ _ (fun h => by injection h; omega)]
        exact World.cell?_setCell_same _ ⟨w.heap.size, 1, none⟩ _ ((World.cell?_setCell_other _ _ _ _ (fun h => by injection h; omega)).trans d1)
      have g2 : W3.cell? ⟨w.heap.size, 2, none⟩ = some (.int .i64 1) := by
        rw [hW3]
        exact World.cell?_setCell_same _ ⟨w.heap.size, 2, none⟩ _ ((World.cell?_setCell_other _ _ _ _ (fun h => by injection h; omega)).trans ((World.cell?_setCell_other _ _ _ _ (fun h => by injection h; omega)).trans d2))
      have hb3 : w.heap.size < W3.heap.size := by rw [hW3]; simpa [World.setCell] using hb
      have kb : Below w.heap.size w W3 := by
        have kb0 : Below w.heap.size w wr := HW.out
        rw [hW3]
        exact ((kb0.setCell (Nat.le_refl _) _).setCell (Nat.le_refl _) _).setCell (Nat.le_refl _) _
      rw [← hW3]
      refine bodyPost_ret (v := .tuple #[.string t, .agg #[.string ⟨#[]⟩, .int .i64 1, .int .i64 1]]) (by simp [results, Tryd.results33, go_sem, g0, g1, g2]) rfl ⟨t, ⟨#[]⟩, 1, 1, rfl, HE.out, ?_⟩
      exact kb
end Go.Proofs.YtfodmjdhpolnkaaDoor
