/-
  What a call has answered that made a list of bytes by appending; each theorem names its conditions.
  What PackFixedOf answers: the bytes of the block; its conditions stand in the theorem.
  What PackStoredOf answers, of the program and of the specification; each theorem names its conditions.
  What the specification's l2Stored and PackStoredOf answer, and both functions where there is too much data; each theorem names its conditions.
-/
import Derived.Test.YtaeicgfebeliiaaGreatDoorJAA
import Derived.Test.YtaeicgfebeliiaaGreatDoorJAF
import Derived.Test.YtaeicgfebeliiaaGreatDoorJAN
namespace Go.Proofs.YtaeicgfebeliiaaGreatDoor
open Go.ChangeShapes Go.WideShapes Go.ChangeAt Go.RowKit
set_option linter.unusedVariables false

/-- A list of the call's own with these bytes has been answered, and nothing that was there is written. -/
def Gave (W w' : World) (g : Nat) (bs : List Nat) (cap : Nat) : Prop :=
  Below W.heap.size W w' ∧ W.heap.size ≤ g ∧ w'.ownsRow W.heap.size 5 1 (.slice (some ⟨g, 0, none⟩) bs.length cap) bs.length (bc bs)
theorem At.gave {W w' : World} {g cap : Nat} {bs : List Nat} (h : Gave W w' g bs cap) : At w' g (ints bs) := by
  obtain ⟨h1, h2, h3⟩ := h
  refine ⟨(h3.lt g rfl).2, fun i hi => ?_, fun o => h3.frozenAt o⟩
  rw [ints_len] at hi
  rw [Nat.zero_add, h3.cellAt i (by omega), ints_get]
  simp [bc, hi]

end Go.Proofs.YtaeicgfebeliiaaGreatDoor
namespace Go.Proofs.YtaeicgfebeliiaaGreatDoor
open Go.ChangeShapes Go.WideShapes Go.ChangeAt Go.RowKit
set_option linter.unusedVariables false

theorem stp_ge (s : List Nat × Nat) (x : Nat) : s.1.length ≤ (stp s x).1.length := by unfold stp; split <;> simp
theorem puts_ge (s : List Nat × Nat) (xs : List Nat) : s.1.length ≤ (puts s xs).1.length := by
  induction xs generalizing s with
  | nil => exact Nat.le_refl _
  | cons x xs ih => exact Nat.le_trans (stp_ge s x) (ih (stp s x))
theorem outB_pos (zs : List Int) (j : Nat) : 0 < (outB zs j).length := by
  unfold outB
  have hne : acc zs j ++ codeOf 0 7 = [] → False := by
    intro h
    have := congrArg List.length h
    rw [List.length_append, codeOf_len] at this
    simp at this
  cases hx : acc zs j ++ codeOf 0 7 with
  | nil => exact absurd hx hne
  | cons x xs =>
    have h := puts_ge (stp ([], 0) x) xs
    have e : (stp ([], 0) x).1.length = 1 := rfl
    show 0 < (puts (stp ([], 0) x) xs).1.length
    omega
theorem below_dn (B : Nat) (w : World) (n : Nat) : Below B w (w.drewN n) := ⟨rfl, rfl, rfl, Nat.le_refl _, fun _ _ => rfl⟩
theorem sink_new (W : World) : Sink (W.alloc (.cells #[.slice none 0 0, .int .i64 0] 93)) W.heap.size [] 0 := by
  refine ⟨.slice none 0 0, by simp, by simp, fun o => World.frozen?_alloc_at _ _ _ _ rfl, by simp, World.ownsRow_nil _ _ _ _⟩
theorem row_cells3 (w : World) (zs : List Int) (t : TypeId) : ∀ i, i < zs.length → (w.alloc (.cells (cellsOf .i64 zs) t)).cell? ⟨w.heap.size, 0 + i, none⟩ = some (.int .i64 (zs.getD i 0)) := by
  intro i hi
  have := cellsOf_get .i64 zs i hi
  simp [this]
theorem codesL_get (xs : List Int) (k : Nat) (h : k < xs.length) : (codesL xs).getD k 0 = cd xs k := by simp [codesL, h]
theorem ifixed_codes (w : World) : Calls Tryz.prog 80 #[.slice (some ⟨w.heap.size, 0, none⟩) 288 288] (w.alloc (.cells (cellsOf .i64 fixedL) 3)) fun e w' => ∃ B, e = .returned (.tuple #[.slice (some ⟨B, 0, none⟩) 288 288, .bool true]) ∧ New (w.alloc (.cells (cellsOf .i64 fixedL) 3)) w' B (codesL fixedL) := by
  have h := icodesOf_yes (w.alloc (.cells (cellsOf .i64 fixedL) 3)) w.heap.size 0 288 fixedL (by rw [fixedL_len]; omega) (by simp) (row_cells3 w fixedL 3) fixed_fit fixed_full
  rw [fixedL_len] at h
  exact h

set_option maxRecDepth 100000 in
set_option maxHeartbeats 8000000 in
theorem ifixA (W : World) (a : Option Addr) (b cap : Nat) (zs : List Int) (J : Nat) (hJ : Ends zs J) (ht : Tabs W) (hl : zs.length ≤ 6000) (h8 : ∀ i, i < zs.length → 0 ≤ zs.getD i 0 ∧ zs.getD i 0 ≤ 255) (hb : b < W.heap.size) (hc : ∀ i, i < zs.length → W.cell? ⟨b, 0 + i, none⟩ = some (.int .u8 (zs.getD i 0))) (hnil : zs = [] ∨ a = some ⟨b, 0, none⟩) :
    Calls Tryz.prog 63 #[.slice a zs.length cap] W fun e w' => ∃ g c, e = .returned (.tuple #[.slice (some ⟨g, 0, none⟩) (outB zs J).length c, .bool true]) ∧ Gave W w' g (outB zs J) c := by
  have hd1 : decide ((6000 : Int) < (zs.length : Int)) = false := by simp; omega
  have HC : Hid _ := hc
  have HT : Hid (Tabs W) := ht
  have H8 : Hid _ := h8
  have HJ : Hid (Ends zs J) := hJ
  have hT4 : 4 ≤ W.heap.size := ht.2.2.2.2
  have HNil : Hid (zs = [] ∨ a = some ⟨b, 0, none⟩) := hnil
  clear hc ht h8 hJ hnil
  go_enter Tryz.func63, Tryz.ntmps63
  go_wp2_with fail
  refine Calls.mono (fixedLengths_any W) ?_
  rintro e w1 ⟨rfl, rfl⟩
  go_wp2_with fail
  refine Calls.mono (ifixed_codes W) ?_
  rintro e w2 ⟨B, rfl, hnew⟩
  obtain ⟨k2, zB, hB2, cB⟩ := hnew
  have KB : Hid (Kp W w2) := ((Kp.refl W).alloc _ _).trans k2
  have CL : Hid (∀ i, i < 288 → w2.cell? ⟨W.heap.size, i, none⟩ = some (.int .i64 (fn i : Int))) := by
    intro i hi
    have h := (k2.cells.1 W.heap.size (0 + i) (by simp)).trans (row_cells3 W fixedL 3 i (by rw [fixedL_len]; exact hi))
    rw [fixedL_get i hi, (fn_bd i).2.2, Nat.zero_add] at h
    exact h
  have CC : Hid (∀ i, i < 288 → w2.cell? ⟨B, i, none⟩ = some (.int .i64 (fc i : Int))) := by
    intro i hi
    have h := cB i (by rw [codesL_len, fixedL_len]; exact hi)
    rw [codesL_get fixedL i (by rw [fixedL_len]; exact hi), (fc_bd i hi).2, Nat.zero_add] at h
    exact h
  have CD : Hid (∀ i, i < zs.length → w2.cell? ⟨b, 0 + i, none⟩ = some (.int .u8 (zs.getD i 0))) := fun i hi => (KB.out.cells.1 _ _ hb).trans (HC.out i hi)
  have CT : Hid (Tabs w2) := HT.out.below KB.out.1 hT4
  have hsz : W.heap.size < w2.heap.size := by have := k2.size; simp at this; omega
  have HBel : Hid (Below W.heap.size W w2) := KB.out.1
  clear k2 cB zB KB HC HT
  go_wp2_with fail
  refine Calls.mono (putHead1 _ _ (sink_new w2)) ?_
  rintro e w3 ⟨rfl, h1, h2⟩
  have HS3 : Hid (Sink w3 w2.heap.size (puts ([], 0) (acc zs 0)).1 (puts ([], 0) (acc zs 0)).2) := h1
  have HB3 : Hid (Below w2.heap.size w2 w3) := ((Below.refl w2.heap.size w2).alloc (Nat.le_refl _) _).trans h2
  clear h1 h2
  go_wp2
  go_loopw [8] (fun i wr => ∃ j : Nat, j ≤ J ∧ i = .int .i64 (pos zs j : Int) ∧ Sink wr w2.heap.size (puts ([], 0) (acc zs j)).1 (puts ([], 0) (acc zs j)).2 ∧ Below w2.heap.size w2 wr) (fun i _ => zs.length - (intOf i).toNat)
  case atStart => exact ⟨0, Nat.zero_le _, rfl, HS3.out, HB3.out⟩
  case round =>
    clear HS3 HB3
    obtain ⟨j, hj, rfl, h1, h2⟩ := hrel
    have HS : Hid (Sink wr w2.heap.size (puts ([], 0) (acc zs j)).1 (puts ([], 0) (acc zs j)).2) := h1
    have HB : Hid (Below w2.heap.size w2 wr) := h2
    clear h1 h2
    have hab := acc_bd zs J HJ.out j hj
    have hpl := puts_len ([], 0) (acc zs j)
    have HFi : Hid _ := acc_fine zs j
    by_cases hlt : j < J
    · have hp := HJ.out.2 j hlt
      obtain rfl : a = some ⟨b, 0, none⟩ := HNil.out.resolve_left (fun e => by rw [e] at hp; exact absurd hp (Nat.not_lt_zero _))
      have hd : decide ((pos zs j : Int) < (zs.length : Int)) = true := by simp; omega
      have HM : Hid (Calls Tryz.prog 81 #[.slice (some ⟨b, 0, none⟩) zs.length cap, .int .i64 (pos zs j : Int)] wr fun e w' => e = .returned (.tuple #[.int .i64 (mtA zs (pos zs j)), .int .i64 (mtB zs (pos zs j))]) ∧ ∃ q, w' = wr.drewN q) :=
        imatch_in wr b 0 cap zs (pos zs j) (fun i hi => (HB.out.cell (p := ⟨b, 0 + i, none⟩) (by show b < _; omega)).trans (CD.out i hi)) hl (by omega)
      have hsb := step_bd zs (pos zs j) hp
      have HN : Hid (pos zs (j + 1) = pos zs j + stepN zs (pos zs j)) := rfl
      have HA : Hid (puts ([], 0) (acc zs (j + 1)) = puts (puts ([], 0) (acc zs j)) (stepB zs (pos zs j))) := puts_append _ _ _
      by_cases hm : mtA zs (pos zs j) = 0
      · have HSB : Hid (stepB zs (pos zs j) = codeOf (fc (zs.getD (pos zs j) 0).toNat) (fn (zs.getD (pos zs j) 0).toNat)) := by show _ = _; unfold stepB; rw [if_pos hm]
        have HSN : Hid (stepN zs (pos zs j) = 1) := by show _ = _; unfold stepN; rw [if_pos hm]
        have h8 := H8.out (pos zs j) hp
        obtain ⟨d, hdd⟩ := Int.eq_ofNat_of_zero_le h8.1
        have c1 : ∀ W', Below w2.heap.size w2 W' → W'.cell? ⟨b, pos zs j, none⟩ = some (.int .u8 (d : Int)) := fun W' hW => by
          have h := (hW.cell (p := ⟨b, 0 + pos zs j, none⟩) (by show b < _; omega)).trans (CD.out (pos zs j) hp)
          rw [Nat.zero_add, hdd] at h; exact h
        rw [hdd] at HSB h8
        have hd256 : d < 256 := by omega
        rw [Int.toNat_natCast] at HSB
        have HP : Hid (∀ W', Sink W' w2.heap.size (puts ([], 0) (acc zs j)).1 (puts ([], 0) (acc zs j)).2 → Calls Tryz.prog 82 #[.iface 91 (.pointer (some ⟨w2.heap.size, 0, none⟩)), .int .i64 (fc d : Int), .int .i64 (fn d : Int)] W' fun e w' => e = .returned (.tuple #[]) ∧ Sink w' w2.heap.size (puts ([], 0) (acc zs (j + 1))).1 (puts ([], 0) (acc zs (j + 1))).2 ∧ Below w2.heap.size W' w') := by
          intro W' h
          rw [HA.out, HSB.out]
          exact putCode_any W' _ _ (fc d) (fn d) (by have := (fc_bd d (by omega)).1; omega) (by have := fn_bd d; omega) (by simp at hpl; omega) HFi.out h
        have HN2 : Hid (pos zs (j + 1) = pos zs j + 1) := by show _ = _; rw [HN.out, HSN.out]
        have e1 : wr.cell? ⟨b, pos zs j, none⟩ = some (.int .u8 (d : Int)) := c1 wr HB.out
        have e2 : wr.cell? ⟨B, d, none⟩ = some (.int .i64 (fc d : Int)) := (HB.out.cell (p := ⟨B, d, none⟩) hB2).trans (CC.out d (by omega))
        have e3 : wr.cell? ⟨W.heap.size, d, none⟩ = some (.int .i64 (fn d : Int)) := (HB.out.cell (p := ⟨W.heap.size, d, none⟩) hsz).trans (CL.out d (by omega))
        have d288 : (d : Int) < 288 := by omega
        clear c1 HSB HSN HA HN h8 hdd
        generalize fc d = fcd at *
        generalize fn d = fnd at *
        rw [hm] at HM
        generalize mtB zs (pos zs j) = mb at *
        generalize hP : pos zs j = P at *
        have HPp : Hid _ := hP
        clear hP
        go_wp2_with fail
        refine Calls.mono HM.out ?_
        rintro e w4 ⟨rfl, q, rfl⟩
        go_wp2
        go_region_held3 (fun w' => w'.cell? ⟨b, P, none⟩ = some (.int .u8 (d : Int)) ∧ w'.cell? ⟨B, d, none⟩ = some (.int .i64 (fcd : Int)) ∧ w'.cell? ⟨W.heap.size, d, none⟩ = some (.int .i64 (fnd : Int)))
          (first | exact ⟨e1, e2, e3⟩ | exact ⟨(HB5.out.cell (p := ⟨b, P, none⟩) (by show b < _; omega)).trans e1, (HB5.out.cell (p := ⟨B, d, none⟩) hB2).trans e2, (HB5.out.cell (p := ⟨W.heap.size, d, none⟩) hsz).trans e3⟩)
          (first
            | (go_at_call 82; refine Calls.mono (HP.out _ ?_) ?_; exact HS.out; rintro e w5 ⟨rfl, hs5, hb5⟩; have HS5 : Hid (Sink w5 w2.heap.size (puts ([], 0) (acc zs (j + 1))).1 (puts ([], 0) (acc zs (j + 1))).2) := hs5; have HB5 : Hid (Below w2.heap.size wr w5) := (below_dn _ wr _).trans hb5; clear hs5 hb5))
        go_wp2
        go_roundw
        case rel => exact ⟨j + 1, by omega, by rw [HN2.out]; go_num, HS5.out, HB.out.trans HB5.out⟩
        case measure => simp [intOf]; omega
      · have hmt := (mt_bd zs (pos zs j) (by omega)).resolve_left hm
        have HSB : Hid (stepB zs (pos zs j) = codeOf (fc (257 + lp (mtA zs (pos zs j)))) (fn (257 + lp (mtA zs (pos zs j)))) ++ bitsOf (mtA zs (pos zs j) - LB (lp (mtA zs (pos zs j)))) (LE (lp (mtA zs (pos zs j)))) ++ codeOf (dp (mtB zs (pos zs j))) 5 ++ bitsOf (mtB zs (pos zs j) - DB (dp (mtB zs (pos zs j)))) (DE (dp (mtB zs (pos zs j))))) := by show _ = _; unfold stepB; rw [if_neg hm]
        have HSN : Hid (stepN zs (pos zs j) = mtA zs (pos zs j)) := by show _ = _; unfold stepN; rw [if_neg hm]
        have HN2 : Hid (pos zs (j + 1) = pos zs j + mtA zs (pos zs j)) := by show _ = _; rw [HN.out, HSN.out]
        have HA2 : Hid (puts ([], 0) (acc zs (j + 1)) = puts (puts (puts (puts (puts ([], 0) (acc zs j)) (codeOf (fc (257 + lp (mtA zs (pos zs j)))) (fn (257 + lp (mtA zs (pos zs j)))))) (bitsOf (mtA zs (pos zs j) - LB (lp (mtA zs (pos zs j)))) (LE (lp (mtA zs (pos zs j)))))) (codeOf (dp (mtB zs (pos zs j))) 5)) (bitsOf (mtB zs (pos zs j) - DB (dp (mtB zs (pos zs j)))) (DE (dp (mtB zs (pos zs j)))))) := by
          show _ = _; rw [HA.out, HSB.out, puts_append, puts_append, puts_append]
        clear HSB HSN HA HN hsb
        generalize mtA zs (pos zs j) = n at *
        generalize mtB zs (pos zs j) = far at *
        generalize pos zs j = P at *
        have hz : ((n : Int) == 0) = false := by rw [beq_eq_false_iff_ne]; omega
        have hlp : lp n < 29 := by have := dn_le LB n 28; unfold lp; omega
        have hlf : LB (lp n) ≤ n := dn_fit LB n 28 (by show 3 ≤ n; omega)
        have hlb := LB_bd (lp n) hlp
        have hfc := fc_bd (257 + lp n) (by omega)
        have hfn := fn_bd (257 + lp n)
        have HT1 : Hid (∀ W', Below w2.heap.size w2 W' → Tabs W') := fun W' h => CT.out.below h (by omega)
        have HLP : Hid (∀ W', Below w2.heap.size w2 W' → Calls Tryz.prog 83 #[.int .i64 (n : Int)] W' fun e w' => e = .returned (.int .i64 (lp n : Int)) ∧ w' = W') := fun W' h => lengthPlace_any n W' (HT1.out W' h) (by show 3 ≤ n; omega) (by omega)
        have HP1 : Hid (∀ W', Sink W' w2.heap.size (puts ([], 0) (acc zs j)).1 (puts ([], 0) (acc zs j)).2 → Calls Tryz.prog 82 #[.iface 91 (.pointer (some ⟨w2.heap.size, 0, none⟩)), .int .i64 (fc (257 + lp n) : Int), .int .i64 (fn (257 + lp n) : Int)] W' fun e w' => e = .returned (.tuple #[]) ∧ Sink w' w2.heap.size (puts (puts ([], 0) (acc zs j)) (codeOf (fc (257 + lp n)) (fn (257 + lp n)))).1 (puts (puts ([], 0) (acc zs j)) (codeOf (fc (257 + lp n)) (fn (257 + lp n)))).2 ∧ Below w2.heap.size W' w') :=
          fun W' h => putCode_any W' _ _ _ _ (by omega) (by omega) (by simp at hpl; omega) HFi.out h
        have hf1 := fine_puts _ (codeOf (fc (257 + lp n)) (fn (257 + lp n))) HFi.out (codeOf_bits' _ _)
        have hp1 := puts_len (puts ([], 0) (acc zs j)) (codeOf (fc (257 + lp n)) (fn (257 + lp n)))
        rw [codeOf_len] at hp1
        have hf2 := fine_puts _ (bitsOf (n - LB (lp n)) (LE (lp n))) hf1 (bitsOf_bits _ _)
        have hp2 := puts_len (puts (puts ([], 0) (acc zs j)) (codeOf (fc (257 + lp n)) (fn (257 + lp n)))) (bitsOf (n - LB (lp n)) (LE (lp n)))
        rw [bitsOf_len] at hp2
        simp at hpl
        have HP2 : Hid (∀ W', Sink W' w2.heap.size (puts (puts ([], 0) (acc zs j)) (codeOf (fc (257 + lp n)) (fn (257 + lp n)))).1 (puts (puts ([], 0) (acc zs j)) (codeOf (fc (257 + lp n)) (fn (257 + lp n)))).2 → Calls Tryz.prog 78 #[.iface 91 (.pointer (some ⟨w2.heap.size, 0, none⟩)), .int .i64 ((n : Int) - (LB (lp n) : Int)), .int .i64 (LE (lp n) : Int)] W' fun e w' => e = .returned (.tuple #[]) ∧ Sink w' w2.heap.size (puts (puts (puts ([], 0) (acc zs j)) (codeOf (fc (257 + lp n)) (fn (257 + lp n)))) (bitsOf (n - LB (lp n)) (LE (lp n)))).1 (puts (puts (puts ([], 0) (acc zs j)) (codeOf (fc (257 + lp n)) (fn (257 + lp n)))) (bitsOf (n - LB (lp n)) (LE (lp n)))).2 ∧ Below w2.heap.size W' w') := by
          intro W' h
          rw [show ((n : Int) - (LB (lp n) : Int)) = ((n - LB (lp n) : Nat) : Int) by omega]
          exact putNumber_any W' _ _ _ _ (by omega) (by omega) (by omega) hf1 h
        have HP3 : Hid (∀ W', Below w2.heap.size w2 W' → Sink W' w2.heap.size (puts (puts (puts ([], 0) (acc zs j)) (codeOf (fc (257 + lp n)) (fn (257 + lp n)))) (bitsOf (n - LB (lp n)) (LE (lp n)))).1 (puts (puts (puts ([], 0) (acc zs j)) (codeOf (fc (257 + lp n)) (fn (257 + lp n)))) (bitsOf (n - LB (lp n)) (LE (lp n)))).2 → Calls Tryz.prog 84 #[.iface 91 (.pointer (some ⟨w2.heap.size, 0, none⟩)), .int .i64 (far : Int)] W' fun e w' => e = .returned (.tuple #[]) ∧ Sink w' w2.heap.size (puts ([], 0) (acc zs (j + 1))).1 (puts ([], 0) (acc zs (j + 1))).2 ∧ Below w2.heap.size W' w') := by
          intro W' hb h
          rw [HA2.out]
          exact putDistance_any W' _ _ far (HT1.out W' hb) (by omega) (by omega) (by omega) (by omega) hf2 h
        clear hf1 hf2 hp1 hp2 HA2
        generalize puts (puts (puts ([], 0) (acc zs j)) (codeOf (fc (257 + lp n)) (fn (257 + lp n)))) (bitsOf (n - LB (lp n)) (LE (lp n))) = s2 at *
        generalize puts (puts ([], 0) (acc zs j)) (codeOf (fc (257 + lp n)) (fn (257 + lp n))) = s1 at *
        have HCC : Hid (∀ W', Below w2.heap.size w2 W' → W'.cell? ⟨B, 257 + lp n, none⟩ = some (.int .i64 (fc (257 + lp n) : Int)) ∧ W'.cell? ⟨W.heap.size, 257 + lp n, none⟩ = some (.int .i64 (fn (257 + lp n) : Int))) := fun W' h => ⟨(h.cell (p := ⟨B, 257 + lp n, none⟩) hB2).trans (CC.out _ (by omega)), (h.cell (p := ⟨W.heap.size, 257 + lp n, none⟩) hsz).trans (CL.out _ (by omega))⟩
        have HTC : Hid (∀ W', Below w2.heap.size w2 W' → W'.cell? ⟨0, lp n, none⟩ = some (.int .i64 (LB (lp n) : Int)) ∧ W'.cell? ⟨1, lp n, none⟩ = some (.int .i64 (LE (lp n) : Int))) := fun W' h => ⟨(HT1.out W' h).1 _ hlp, (HT1.out W' h).2.1 _ hlp⟩
        clear hfc hfn
        generalize fc (257 + lp n) = fcd at *
        generalize fn (257 + lp n) = fnd at *
        generalize LB (lp n) = LBk at *
        generalize LE (lp n) = LEk at *
        generalize lp n = k at *
        have hw1 := IntWalk.i64_in ((257 : Int) + (k : Int)) (by omega)
        have hi1 : (257 : Int) + (k : Int) = ((257 + k : Nat) : Int) := by omega
        have hi2 : 257 + k < 288 := by omega
        have hw2 := IntWalk.i64_in ((n : Int) - (LBk : Int)) (by omega)
        have k29 : (k : Int) < 29 := by omega
        generalize 257 + k = K2 at *
        obtain ⟨e2, e3⟩ := HCC.out wr HB.out
        have hw3 := IntWalk.i64_in (K2 : Int) (by omega)
        have hi3 : (K2 : Int) < 288 := by omega
        go_wp2_with fail
        refine Calls.mono HM.out ?_
        rintro e w4 ⟨rfl, q, rfl⟩
        have HB4 : Hid (Below w2.heap.size w2 (wr.drewN q)) := HB.out.trans (below_dn _ wr q)
        go_wp2_with fail
        refine Calls.mono (HLP.out _ HB4.out) ?_
        rintro e w4 ⟨rfl, rfl⟩
        go_wp2
        go_region_held3 (fun w' => w'.cell? ⟨B, K2, none⟩ = some (.int .i64 (fcd : Int)) ∧ w'.cell? ⟨W.heap.size, K2, none⟩ = some (.int .i64 (fnd : Int)))
          (first | exact ⟨e2, e3⟩ | exact HCC.out _ HB5.out)
          (first
            | (go_at_call 82; refine Calls.mono (HP1.out _ ?_) ?_; exact HS.out; rintro e w5 ⟨rfl, hs5, hb5⟩; have HS5 : Hid (Sink w5 w2.heap.size s1.1 s1.2) := hs5; have HB5 : Hid (Below w2.heap.size w2 w5) := (HB.out.trans (below_dn _ wr _)).trans hb5; clear hs5 hb5))
        go_wp2
        go_region_held3 (fun w' => w'.cell? ⟨0, k, none⟩ = some (.int .i64 (LBk : Int)) ∧ w'.cell? ⟨1, k, none⟩ = some (.int .i64 (LEk : Int)))
          (first | exact HTC.out _ HB5.out | exact HTC.out _ HB5.out.drew | exact HTC.out _ HB6.out)
          (first
            | (go_at_call 78; refine Calls.mono (HP2.out _ ?_) ?_; exact HS5.out; rintro e w6 ⟨rfl, hs6, hb6⟩; have HS6 : Hid (Sink w6 w2.heap.size s2.1 s2.2) := hs6; have HB6 : Hid (Below w2.heap.size w2 w6) := HB5.out.drew.trans hb6; clear hs6 hb6))
        go_wp2_with fail
        refine Calls.mono (HP3.out _ HB6.out HS6.out) ?_
        rintro e w7 ⟨rfl, hs7, hb7⟩
        have HS7 : Hid (Sink w7 w2.heap.size (puts ([], 0) (acc zs (j + 1))).1 (puts ([], 0) (acc zs (j + 1))).2) := hs7
        have HB7 : Hid (Below w2.heap.size w2 w7) := HB6.out.trans hb7
        clear hs7 hb7
        go_wp2
        go_roundw
        case rel => exact ⟨j + 1, by omega, by rw [HN2.out]; go_num, HS7.out, HB7.out⟩
        case measure => simp [intOf]; omega
    · have e : j = J := by omega
      subst e
      have hend := HJ.out.1
      have hd : decide ((pos zs j : Int) < (zs.length : Int)) = false := by simp; omega
      have hd' : decide (pos zs j < zs.length) = false := by simp; omega
      have HP : Hid (∀ W' f256 n256, f256 = (fc 256 : Int) → n256 = (fn 256 : Int) → Sink W' w2.heap.size (puts ([], 0) (acc zs j)).1 (puts ([], 0) (acc zs j)).2 → Calls Tryz.prog 82 #[.iface 91 (.pointer (some ⟨w2.heap.size, 0, none⟩)), .int .i64 f256, .int .i64 n256] W' fun e w' => e = .returned (.tuple #[]) ∧ Sink w' w2.heap.size (outB zs j) (puts ([], 0) (acc zs j ++ codeOf 0 7)).2 ∧ Below w2.heap.size W' w') := by
        intro W' f256 n256 hf hn h
        subst hf; subst hn
        have k := putCode_any W' _ _ (fc 256) (fn 256) (by rw [fc_end]; omega) (by have := fn_bd 256; omega) (by simp at hpl; omega) HFi.out h
        rw [fc_end, show fn 256 = 7 from rfl, ← puts_append] at k
        rw [fc_end, show fn 256 = 7 from rfl]
        exact k
      have e2 : wr.cell? ⟨B, 256, none⟩ = some (.int .i64 (fc 256 : Int)) := (HB.out.cell (p := ⟨B, 256, none⟩) hB2).trans (CC.out 256 (by omega))
      have e3 : wr.cell? ⟨W.heap.size, 256, none⟩ = some (.int .i64 (fn 256 : Int)) := (HB.out.cell (p := ⟨W.heap.size, 256, none⟩) hsz).trans (CL.out 256 (by omega))
      have HLn : Hid (0 < (outB zs j).length) := outB_pos zs j
      generalize (fc 256 : Int) = f256 at *
      generalize (fn 256 : Int) = n256 at *
      generalize (puts ([], 0) (acc zs j ++ codeOf 0 7)).2 = u at *
      clear hend
      go_wp2
      go_region_held3 (fun w' => w'.cell? ⟨B, 256, none⟩ = some (.int .i64 f256) ∧ w'.cell? ⟨W.heap.size, 256, none⟩ = some (.int .i64 n256))
        (first | exact ⟨e2, e3⟩ | exact ⟨(HB5.out.cell (p := ⟨B, 256, none⟩) hB2).trans e2, (HB5.out.cell (p := ⟨W.heap.size, 256, none⟩) hsz).trans e3⟩)
        (first
          | (go_at_call 82; refine Calls.mono (HP.out _ _ _ rfl rfl ?_) ?_; exact HS.out; rintro e w5 ⟨rfl, hs5, hb5⟩; have HS5 : Hid (Sink w5 w2.heap.size (outB zs j) u) := hs5; have HB5 : Hid (Below w2.heap.size wr w5) := (below_dn _ wr 1).trans hb5; clear hs5 hb5))
      obtain ⟨v, q0, q1, qf, qs, qown⟩ := HS5.out
      rcases qown.2 with ⟨_, h⟩ | ⟨g, cap', cur, rfl, hg1, hg2, hg3, hg4, hg5, hg6⟩
      · exact absurd HLn.out (by omega)
      have HG : Hid (Gave W w5 g (outB zs j) cap') := ⟨HBel.out.trans ((HB.out.trans HB5.out).mono (by omega)), by omega, qown.1, Or.inr ⟨g, cap', cur, rfl, by omega, hg2, hg3, hg4, hg5, hg6⟩⟩
      clear qown hg2 hg5 hg6 q1 qf
      go_wp2
      go_ret2
      exact ⟨_, _, rfl, HG.out⟩
theorem ifix (W : World) (b cap : Nat) (zs : List Int) (J : Nat) (hJ : Ends zs J) (ht : Tabs W) (hl : zs.length ≤ 6000) (h8 : ∀ i, i < zs.length → 0 ≤ zs.getD i 0 ∧ zs.getD i 0 ≤ 255) (hb : b < W.heap.size) (hc : ∀ i, i < zs.length → W.cell? ⟨b, 0 + i, none⟩ = some (.int .u8 (zs.getD i 0))) :
    Calls Tryz.prog 63 #[.slice (some ⟨b, 0, none⟩) zs.length cap] W fun e w' => ∃ g c, e = .returned (.tuple #[.slice (some ⟨g, 0, none⟩) (outB zs J).length c, .bool true]) ∧ Gave W w' g (outB zs J) c :=
  ifixA W (some ⟨b, 0, none⟩) b cap zs J hJ ht hl h8 hb hc (Or.inr rfl)
end Go.Proofs.YtaeicgfebeliiaaGreatDoor
namespace Go.Proofs.YtaeicgfebeliiaaGreatDoor
open Go.ChangeShapes Go.WideShapes Go.ChangeAt Go.RowKit
set_option linter.unusedVariables false

/-- The bytes that a stored block has. -/
def stored (ds : List Nat) : List Nat := [1] ++ [ds.length % 256] ++ [ds.length / 256] ++ [(65535 - ds.length) % 256] ++ [(65535 - ds.length) / 256] ++ ds
theorem xor_nat (n : Nat) (h : n < 65536) : n ^^^ 65535 = 65535 - n := by
  have e : (BitVec.ofNat 16 n ^^^ BitVec.allOnes 16).toNat = (~~~ (BitVec.ofNat 16 n)).toNat := by rw [BitVec.xor_allOnes]
  rw [BitVec.toNat_xor, BitVec.toNat_not, BitVec.toNat_ofNat, BitVec.toNat_allOnes] at e
  have e2 : n % 2 ^ 16 = n := Nat.mod_eq_of_lt (by omega)
  rw [e2] at e
  exact e
theorem xor_all (n : Nat) (h : n < 65536) : bits .xor .i64 (n : Int) 65535 = ((65535 - n : Nat) : Int) := by
  have e1 : (65535 : Int) = ((65535 : Nat) : Int) := rfl
  rw [e1]
  have ha : n % 2 ^ IntKind.i64.bits = n := Nat.mod_eq_of_lt (by show n < 2 ^ 64; omega)
  have hb : 65535 % 2 ^ IntKind.i64.bits = 65535 := rfl
  simp only [bits, BitVec.ofInt_natCast, BitVec.toNat_xor, BitVec.toNat_ofNat, ha, hb]
  rw [xor_nat n h, IntKind.wrap_i64]; omega
set_option maxHeartbeats 4000000 in
theorem istoredA (W : World) (a : Option Addr) (b cap : Nat) (ds : List Nat) (hl : ds.length ≤ 6000) (h8 : ∀ d ∈ ds, d < 256) (hb : b < W.heap.size) (hc : ∀ i, i < ds.length → W.cell? ⟨b, 0 + i, none⟩ = some (.int .u8 ((ds.getD i 0 : Nat) : Int))) (hnil : ds = [] ∨ a = some ⟨b, 0, none⟩) :
    Calls Tryz.prog 62 #[.slice a ds.length cap] W fun e w' => ∃ g c, e = .returned (.tuple #[.slice (some ⟨g, 0, none⟩) (stored ds).length c, .bool true]) ∧ Gave W w' g (stored ds) c := by
  have hd1 : decide ((6000 : Int) < (ds.length : Int)) = false := by simp; omega
  have hx := xor_all ds.length (by omega)
  have HN : Hid (∀ (W' : World) (S : Nat) (bs : List Nat) (n k : Nat), n < 65536 → k ≤ 16 → bs.length ≤ 900000 → (∀ x ∈ bs, x < 256) → Sink W' S bs 0 → Calls Tryz.prog 78 #[.iface 91 (.pointer (some ⟨S, 0, none⟩)), .int .i64 (n : Int), .int .i64 (k : Int)] W' fun e w' => e = .returned (.tuple #[]) ∧ Sink w' S (puts (bs, 0) (bitsOf n k)).1 (puts (bs, 0) (bitsOf n k)).2 ∧ Below S W' w') :=
    fun W' S bs n k h1 h2 h3 h4 h5 => putNumber_any W' S (bs, 0) n k h1 h2 h3 ⟨by show 0 < 8; omega, h4, fun h => absurd rfl h⟩ h5
  have HT : Hid (∀ i, i < ds.length → ds.getD i 0 < 256) := fun i hi => by
    have e : ds.getD i 0 = ds[i] := by simp [hi]
    rw [e]; exact h8 _ (List.getElem_mem _)
  have HM : Hid (∀ i, ∀ x ∈ [1] ++ [ds.length % 256] ++ [ds.length / 256] ++ [(65535 - ds.length) % 256] ++ [(65535 - ds.length) / 256] ++ ds.take i, x < 256) := by
    intro i x hx
    simp at hx
    rcases hx with rfl | rfl | rfl | rfl | rfl | hx
    · omega
    · omega
    · omega
    · omega
    · omega
    · exact h8 x (List.mem_of_mem_take hx)
  have HC : Hid _ := hc
  have HNil : Hid (ds = [] ∨ a = some ⟨b, 0, none⟩) := hnil
  clear hc h8 hnil
  go_enter Tryz.func62, Tryz.ntmps62
  go_wp2_with fail
  refine Calls.mono (putHead_any _ _ (sink_new W)) ?_
  rintro e w1 ⟨rfl, h1, h2⟩
  have HS1 : Hid (Sink w1 W.heap.size (puts (puts ([], 0) (bitsOf 1 1)) (bitsOf 0 2)).1 (puts (puts ([], 0) (bitsOf 1 1)) (bitsOf 0 2)).2) := h1
  have HB1 : Hid (Below W.heap.size W w1) := ((Below.refl W.heap.size W).alloc (Nat.le_refl _) _).trans h2
  clear h1 h2
  go_wp2_with fail
  refine Calls.mono (putNumber_any w1 W.heap.size _ 0 5 (by omega) (by omega) (by decide) (puts_fine _ _ _ (puts_fine _ _ _ ⟨by decide, by simp, fun h => absurd rfl h⟩)) HS1.out) ?_
  rw [puts_head]
  rintro e w2 ⟨rfl, h1, h2⟩
  have HS2 : Hid (Sink w2 W.heap.size [1] 0) := h1
  have HB2 : Hid (Below W.heap.size W w2) := HB1.out.trans h2
  clear h1 h2 HS1 HB1
  go_wp2_with fail
  refine Calls.mono (HN.out w2 W.heap.size [1] ds.length 16 (by omega) (by omega) (by simp) (by simp) HS2.out) ?_
  rw [puts16 _ _ (by omega)]
  rintro e w3 ⟨rfl, h1, h2⟩
  have HS3 : Hid (Sink w3 W.heap.size ([1] ++ [ds.length % 256] ++ [ds.length / 256]) 0) := h1
  have HB3 : Hid (Below W.heap.size W w3) := HB2.out.trans h2
  clear h1 h2 HS2 HB2
  go_wp2_with fail
  refine Calls.mono (HN.out w3 W.heap.size ([1] ++ [ds.length % 256] ++ [ds.length / 256]) (65535 - ds.length) 16 (by omega) (by omega) (by simp) (by intro x hx; simp at hx; omega) HS3.out) ?_
  rw [puts16 _ _ (by omega)]
  rintro e w4 ⟨rfl, h1, h2⟩
  have HS4 : Hid (Sink w4 W.heap.size ([1] ++ [ds.length % 256] ++ [ds.length / 256] ++ [(65535 - ds.length) % 256] ++ [(65535 - ds.length) / 256]) 0) := h1
  have HB4 : Hid (Below W.heap.size W w4) := HB3.out.trans h2
  clear h1 h2 HS3 HB3 hx
  go_wp2
  go_loopw [31] (fun i wr => ∃ k : Nat, k ≤ ds.length ∧ i = .int .i64 k ∧ Sink wr W.heap.size ([1] ++ [ds.length % 256] ++ [ds.length / 256] ++ [(65535 - ds.length) % 256] ++ [(65535 - ds.length) / 256] ++ ds.take k) 0 ∧ Below W.heap.size W wr) (fun i _ => ds.length - (intOf i).toNat)
  case atStart => exact ⟨0, Nat.zero_le _, rfl, by simpa using HS4.out, HB4.out⟩
  case round =>
    clear HS4 HB4
    obtain ⟨k, hk, rfl, h1, h2⟩ := hrel
    have HS : Hid (Sink wr W.heap.size ([1] ++ [ds.length % 256] ++ [ds.length / 256] ++ [(65535 - ds.length) % 256] ++ [(65535 - ds.length) / 256] ++ ds.take k) 0) := h1
    have HB : Hid (Below W.heap.size W wr) := h2
    clear h1 h2
    by_cases hlt : k < ds.length
    · obtain rfl : a = some ⟨b, 0, none⟩ := HNil.out.resolve_left (fun e => by rw [e] at hlt; exact absurd hlt (Nat.not_lt_zero _))
      have c0 : wr.cell? ⟨b, k, none⟩ = some (.int .u8 ((ds.getD k 0 : Nat) : Int)) := by
        have h := (HB.out.cell (p := ⟨b, 0 + k, none⟩) hb).trans (HC.out k hlt)
        rwa [Nat.zero_add] at h
      have hd := HT.out k hlt
      have HP := HN.out wr W.heap.size _ (ds.getD k 0) 8 (by omega) (by omega) (by simp; omega) (HM.out k) HS.out
      rw [puts8 _ _ hd] at HP
      have HE : Hid ([1] ++ [ds.length % 256] ++ [ds.length / 256] ++ [(65535 - ds.length) % 256] ++ [(65535 - ds.length) / 256] ++ ds.take k ++ [ds.getD k 0] = [1] ++ [ds.length % 256] ++ [ds.length / 256] ++ [(65535 - ds.length) % 256] ++ [(65535 - ds.length) / 256] ++ ds.take (k + 1)) := by
        show _ = _
        rw [List.take_succ_eq_append_getElem hlt]; simp [hlt]
      rw [HE.out] at HP
      have HP' : Hid _ := HP
      clear HP HE
      generalize ds.getD k 0 = d at *
      go_wp2_with fail
      refine Calls.mono HP'.out ?_
      rintro e w5 ⟨rfl, h1, h2⟩
      have HS5 : Hid _ := h1
      have HB5 : Hid (Below W.heap.size W w5) := HB.out.trans h2
      clear h1 h2
      go_wp2
      go_roundw
      case rel => exact ⟨k + 1, by omega, by go_num, HS5.out, HB5.out⟩
      case measure => simp [intOf]; omega
    · have e : k = ds.length := by omega
      subst e
      have hS := HS.out
      rw [List.take_length] at hS
      change Sink wr W.heap.size (stored ds) 0 at hS
      obtain ⟨v, h0, h1, hf, hSz, hown⟩ := hS
      have hlen : (stored ds).length = ds.length + 5 := by simp [stored]
      rcases hown.2 with ⟨_, h⟩ | ⟨g, cap', cur, rfl, hg1, hg2, hg3, hg4, hg5, hg6⟩
      · omega
      have HG : Hid (Gave W wr g (stored ds) cap') := ⟨HB.out, by omega, hown.1, Or.inr ⟨g, cap', cur, rfl, by omega, hg2, hg3, hg4, hg5, hg6⟩⟩
      clear hown hg2 hg5 hg6 h1 hf HS HC HT HM HN
      go_wp2
      go_ret2
      exact ⟨_, _, rfl, HG.out⟩
theorem istored (W : World) (b cap : Nat) (ds : List Nat) (hl : ds.length ≤ 6000) (h8 : ∀ d ∈ ds, d < 256) (hb : b < W.heap.size) (hc : ∀ i, i < ds.length → W.cell? ⟨b, 0 + i, none⟩ = some (.int .u8 ((ds.getD i 0 : Nat) : Int))) :
    Calls Tryz.prog 62 #[.slice (some ⟨b, 0, none⟩) ds.length cap] W fun e w' => ∃ g c, e = .returned (.tuple #[.slice (some ⟨g, 0, none⟩) (stored ds).length c, .bool true]) ∧ Gave W w' g (stored ds) c :=
  istoredA W (some ⟨b, 0, none⟩) b cap ds hl h8 hb hc (Or.inr rfl)
end Go.Proofs.YtaeicgfebeliiaaGreatDoor
namespace Go.Proofs.YtaeicgfebeliiaaGreatDoor
open Go.ChangeShapes Go.WideShapes Go.ChangeAt Go.RowKit
set_option linter.unusedVariables false

theorem not_i64 (n : Nat) (h : n < 65536) : bits .xor .i64 (-1) (n : Int) = -(n : Int) - 1 := by
  have ha : n % 2 ^ IntKind.i64.bits = n := Nat.mod_eq_of_lt (by show n < 2 ^ 64; omega)
  have hm : BitVec.ofInt IntKind.i64.bits (-1) = BitVec.allOnes IntKind.i64.bits := rfl
  simp only [bits, BitVec.ofInt_natCast, hm]
  have e : (BitVec.allOnes IntKind.i64.bits ^^^ BitVec.ofNat IntKind.i64.bits n).toNat = 18446744073709551615 - n := by
    rw [BitVec.allOnes_xor, BitVec.toNat_not, BitVec.toNat_ofNat, ha]; rfl
  rw [e, IntKind.wrap_i64]; omega
theorem bc_add (W : World) (b : Nat) (ds : List Nat) (hc : ∀ i, i < ds.length → W.cell? ⟨b, 0 + i, none⟩ = some (.int .u8 ((ds.getD i 0 : Nat) : Int))) : ∀ j u, (bc ds)[j]? = some u → W.cell? ((⟨b, 0, none⟩ : Addr).add j) = some u := by
  intro j u hj
  by_cases h : j < ds.length
  · have h2 := hc j h
    have e : u = .int .u8 ((ds.getD j 0 : Nat) : Int) := by
      simp [bc, h] at hj; simp [h]; exact hj.symm
    rw [e, ← h2]
    congr 1
    by_cases h0 : j = 0
    · subst h0; simp [Addr.add]
    · simp [Addr.add, h0]
  · simp [bc] at hj
    obtain ⟨x, hx, _⟩ := hj
    rw [List.getElem?_eq_none (by omega)] at hx
    cases hx

set_option maxHeartbeats 4000000 in
theorem sl2stored (W : World) (b cap : Nat) (ds : List Nat) (hl : ds.length ≤ 6000) (hb : b < W.heap.size) (hc : ∀ i, i < ds.length → W.cell? ⟨b, 0 + i, none⟩ = some (.int .u8 ((ds.getD i 0 : Nat) : Int))) :
    Calls Tryz.prog 86 #[.slice (some ⟨b, 0, none⟩) ds.length cap] W fun e w' => ∃ g c, e = .returned (.slice (some ⟨g, 0, none⟩) (stored ds).length c) ∧ Gave W w' g (stored ds) c := by
  obtain ⟨i0, hi, hz0, hz1, hz2⟩ := info_parts Tryz.info5
  have HC : Hid _ := hc
  clear hc
  have hxn : bits .xor .i64 (if IntKind.i64.signed = true then -1 else 9223372036854775807) (ds.length : Int) = -(ds.length : Int) - 1 := not_i64 ds.length (by omega)
  have HW : Hid (∀ j u, (bc ds)[j]? = some u → (W.alloc (.cells #[.int .u8 1, .int .u8 ((ds.length : Int) % 256), .int .u8 ((ds.length : Int) / 256), .int .u8 ((-(ds.length : Int) - 1) % 256), .int .u8 ((-(ds.length : Int) - 1) / 256 % 256)] 5)).cell? ((⟨b, 0, none⟩ : Addr).add j) = some u) := by
    apply bc_add
    intro i hi
    rw [World.cell?_alloc_past _ _ _ hb]
    exact HC.out i hi
  have HO : Hid ((W.alloc (.cells #[.int .u8 1, .int .u8 ((ds.length : Int) % 256), .int .u8 ((ds.length : Int) / 256), .int .u8 ((-(ds.length : Int) - 1) % 256), .int .u8 ((-(ds.length : Int) - 1) / 256 % 256)] 5)).ownsRow W.heap.size 5 1 (.slice (some ⟨W.heap.size, 0, none⟩) 5 5) 5 [.int .u8 1, .int .u8 ((ds.length : Int) % 256), .int .u8 ((ds.length : Int) / 256), .int .u8 ((-(ds.length : Int) - 1) % 256), .int .u8 ((-(ds.length : Int) - 1) / 256 % 256)]) :=
    World.ownsRow_lit W _ 5 (Nat.le_refl _) (by decide) rfl
  have HE : Hid ([.int .u8 1, .int .u8 ((ds.length : Int) % 256), .int .u8 ((ds.length : Int) / 256), .int .u8 ((-(ds.length : Int) - 1) % 256), .int .u8 ((-(ds.length : Int) - 1) / 256 % 256)] ++ bc ds = bc (stored ds)) := by
    have v1 : ((ds.length : Int) % 256) = ((ds.length % 256 : Nat) : Int) := by omega
    have v2 : ((ds.length : Int) / 256) = ((ds.length / 256 : Nat) : Int) := by omega
    have v3 : ((-(ds.length : Int) - 1) % 256) = (((65535 - ds.length) % 256 : Nat) : Int) := by omega
    have v4 : ((-(ds.length : Int) - 1) / 256 % 256) = (((65535 - ds.length) / 256 : Nat) : Int) := by omega
    show _ = _
    rw [v1, v2, v3, v4]
    rfl
  have HLs : Hid (5 + ds.length = (stored ds).length) := by show _ = _; simp [stored]; omega
  have hbcl : (bc ds).length = ds.length * 1 := by simp [bc]
  have hone : ∀ u ∈ bc ds, u.oneCell' = true := by
    intro u hu
    simp [bc] at hu
    obtain ⟨x, _, rfl⟩ := hu
    rfl
  have H1 : Hid _ := hbcl
  have H2 : Hid _ := hone
  clear hbcl hone
  go_enter Tryz.func86, Tryz.ntmps86
  go_wp2_with (first
    | (at_builtin; (refine wpList_append_own _ rfl _ _ 22 rfl W.heap.size 5 i0 (.int .u8 0) 1 1 Tryz.underlying22 hi hz0 hz1 hz2 rfl (by decide) _ _ _ rfl HO.out ⟨b, 0, none⟩ ds.length cap (bc ds) rfl H1.out HW.out H2.out ?c3 ?c4 ?c5 ?_))
    | go_in)
  case c3 => unfold maxLen; omega
  case c4 => omega
  case c5 => simp
  intro v' w1 hown' hgrow hnn
  have hown2 : w1.ownsRow W.heap.size 5 1 v' (stored ds).length (bc (stored ds)) := by
    rw [← HLs.out, ← HE.out]; exact hown'
  rcases hown2.2 with ⟨h, _⟩ | ⟨g, cap', cur, rfl, hg1, hg2, hg3, hg4, hg5, hg6⟩
  · exact absurd h hnn
  have HG : Hid (Gave W w1 g (stored ds) cap') := by
    refine ⟨?_, hg1, hown2⟩
    refine ((Below.refl W.heap.size W).alloc (Nat.le_refl _) (.cells #[.int .u8 1, .int .u8 ((ds.length : Int) % 256), .int .u8 ((ds.length : Int) / 256), .int .u8 ((-(ds.length : Int) - 1) % 256), .int .u8 ((-(ds.length : Int) - 1) / 256 % 256)] 5)).trans ⟨hgrow.os, hgrow.tape, hgrow.output, hgrow.size, fun k hk => hgrow.block k (by simp; omega) (fun e => ?_)⟩
    simp [Value.ownBlock] at e
    omega
  clear hown2 hown' hgrow hg2 hg5 hg6 HW HO HE
  go_wp2
  go_ret
  exact ⟨_, _, rfl, HG.out⟩

end Go.Proofs.YtaeicgfebeliiaaGreatDoor
