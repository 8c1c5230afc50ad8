/-
  What PackFixedOf answers: the bytes of the block; its conditions stand in the theorem.
  What PackStoredOf answers, of the program and of the specification; each theorem names its conditions.
  A stored block is read by the program; each theorem names its conditions.
  The program's fixed lengths of distances; each theorem names its conditions.
-/
import Derived.Test.YtaeicgfebeliiaaDoorJAK
import Derived.Test.YtaeicgfebeliiaaDoorJAJ
namespace Go.Proofs.YtaeicgfebeliiaaDoor
open Go.ChangeShapes Go.WideShapes Go.ChangeAt Go.RowKit
set_option linter.unusedVariables false

theorem stp_ge (s : List Nat × Nat) (x : Nat) : s.1.length ≤ (stp s x).1.length := by unfold stp; split <;> simp
theorem puts_ge (s : List Nat × Nat) (xs : List Nat) : s.1.length ≤ (puts s xs).1.length := by
  induction xs generalizing s with
  | nil => exact Nat.le_refl _
  | cons x xs ih => exact Nat.le_trans (stp_ge s x) (ih (stp s x))
theorem outB_pos (zs : List Int) (j : Nat) : 0 < (outB zs j).length := by
  unfold outB
  have hne : acc zs j ++ codeOf 0 7 = [] → False := by
    intro h
    have := congrArg List.length h
    rw [List.length_append, codeOf_len] at this
    simp at this
  cases hx : acc zs j ++ codeOf 0 7 with
  | nil => exact absurd hx hne
  | cons x xs =>
    have h := puts_ge (stp ([], 0) x) xs
    have e : (stp ([], 0) x).1.length = 1 := rfl
    show 0 < (puts (stp ([], 0) x) xs).1.length
    omega
theorem below_dn (B : Nat) (w : World) (n : Nat) : Below B w (w.drewN n) := ⟨rfl, rfl, rfl, Nat.le_refl _, fun _ _ => rfl⟩
theorem sink_new (W : World) : Sink (W.alloc (.cells #[.slice none 0 0, .int .i64 0] 36)) W.heap.size [] 0 := by
  refine ⟨.slice none 0 0, by simp, by simp, fun o => World.frozen?_alloc_at _ _ _ _ rfl, by simp, World.ownsRow_nil _ _ _ _⟩
theorem row_cells3 (w : World) (zs : List Int) (t : TypeId) : ∀ i, i < zs.length → (w.alloc (.cells (cellsOf .i64 zs) t)).cell? ⟨w.heap.size, 0 + i, none⟩ = some (.int .i64 (zs.getD i 0)) := by
  intro i hi
  have := cellsOf_get .i64 zs i hi
  simp [this]
theorem codesL_get (xs : List Int) (k : Nat) (h : k < xs.length) : (codesL xs).getD k 0 = cd xs k := by simp [codesL, h]
theorem ifixed_codes (w : World) : Calls Tryd.prog 22 #[.slice (some ⟨w.heap.size, 0, none⟩) 288 288] (w.alloc (.cells (cellsOf .i64 fixedL) 3)) fun e w' => ∃ B, e = .returned (.tuple #[.slice (some ⟨B, 0, none⟩) 288 288, .bool true]) ∧ New (w.alloc (.cells (cellsOf .i64 fixedL) 3)) w' B (codesL fixedL) := by
  have h := icodesOf_yes (w.alloc (.cells (cellsOf .i64 fixedL) 3)) w.heap.size 0 288 fixedL (by rw [fixedL_len]; omega) (by simp) (row_cells3 w fixedL 3) fixed_fit fixed_full
  rw [fixedL_len] at h
  exact h

set_option maxRecDepth 100000 in
set_option maxHeartbeats 8000000 in
theorem ifixA (W : World) (a : Option Addr) (b cap : Nat) (zs : List Int) (J : Nat) (hJ : Ends zs J) (ht : Tabs W) (hl : zs.length ≤ 6000) (h8 : ∀ i, i < zs.length → 0 ≤ zs.getD i 0 ∧ zs.getD i 0 ≤ 255) (hb : b < W.heap.size) (hc : ∀ i, i < zs.length → W.cell? ⟨b, 0 + i, none⟩ = some (.int .u8 (zs.getD i 0))) (hnil : zs = [] ∨ a = some ⟨b, 0, none⟩) :
    Calls Tryd.prog 9 #[.slice a zs.length cap] W fun e w' => ∃ g c, e = .returned (.tuple #[.slice (some ⟨g, 0, none⟩) (outB zs J).length c, .bool true]) ∧ Gave W w' g (outB zs J) c := by
  have hd1 : decide ((6000 : Int) < (zs.length : Int)) = false := by simp; omega
  have HC : Hid _ := hc
  have HT : Hid (Tabs W) := ht
  have H8 : Hid _ := h8
  have HJ : Hid (Ends zs J) := hJ
  have hT4 : 4 ≤ W.heap.size := ht.2.2.2.2
  have HNil : Hid (zs = [] ∨ a = some ⟨b, 0, none⟩) := hnil
  clear hc ht h8 hJ hnil
  go_enter Tryd.func9, Tryd.ntmps9
  go_wp2_with fail
  refine Calls.mono (fixedLengths_any W) ?_
  rintro e w1 ⟨rfl, rfl⟩
  go_wp2_with fail
  refine Calls.mono (ifixed_codes W) ?_
  rintro e w2 ⟨B, rfl, hnew⟩
  obtain ⟨k2, zB, hB2, cB⟩ := hnew
  have KB : Hid (Kp W w2) := ((Kp.refl W).alloc _ _).trans k2
  have CL : Hid (∀ i, i < 288 → w2.cell? ⟨W.heap.size, i, none⟩ = some (.int .i64 (fn i : Int))) := by
    intro i hi
    have h := (k2.cells.1 W.heap.size (0 + i) (by simp)).trans (row_cells3 W fixedL 3 i (by rw [fixedL_len]; exact hi))
    rw [fixedL_get i hi, (fn_bd i).2.2, Nat.zero_add] at h
    exact h
  have CC : Hid (∀ i, i < 288 → w2.cell? ⟨B, i, none⟩ = some (.int .i64 (fc i : Int))) := by
    intro i hi
    have h := cB i (by rw [codesL_len, fixedL_len]; exact hi)
    rw [codesL_get fixedL i (by rw [fixedL_len]; exact hi), (fc_bd i hi).2, Nat.zero_add] at h
    exact h
  have CD : Hid (∀ i, i < zs.length → w2.cell? ⟨b, 0 + i, none⟩ = some (.int .u8 (zs.getD i 0))) := fun i hi => (KB.out.cells.1 _ _ hb).trans (HC.out i hi)
  have CT : Hid (Tabs w2) := HT.out.below KB.out.1 hT4
  have hsz : W.heap.size < w2.heap.size := by have := k2.size; simp at this; omega
  have HBel : Hid (Below W.heap.size W w2) := KB.out.1
  clear k2 cB zB KB HC HT
  go_wp2_with fail
  refine Calls.mono (putHead1 _ _ (sink_new w2)) ?_
  rintro e w3 ⟨rfl, h1, h2⟩
  have HS3 : Hid (Sink w3 w2.heap.size (puts ([], 0) (acc zs 0)).1 (puts ([], 0) (acc zs 0)).2) := h1
  have HB3 : Hid (Below w2.heap.size w2 w3) := ((Below.refl w2.heap.size w2).alloc (Nat.le_refl _) _).trans h2
  clear h1 h2
  go_wp2
  go_loopw [8] (fun i wr => ∃ j : Nat, j ≤ J ∧ i = .int .i64 (pos zs j : Int) ∧ Sink wr w2.heap.size (puts ([], 0) (acc zs j)).1 (puts ([], 0) (acc zs j)).2 ∧ Below w2.heap.size w2 wr) (fun i _ => zs.length - (intOf i).toNat)
  case atStart => exact ⟨0, Nat.zero_le _, rfl, HS3.out, HB3.out⟩
  case round =>
    clear HS3 HB3
    obtain ⟨j, hj, rfl, h1, h2⟩ := hrel
    have HS : Hid (Sink wr w2.heap.size (puts ([], 0) (acc zs j)).1 (puts ([], 0) (acc zs j)).2) := h1
    have HB : Hid (Below w2.heap.size w2 wr) := h2
    clear h1 h2
    have hab := acc_bd zs J HJ.out j hj
    have hpl := puts_len ([], 0) (acc zs j)
    have HFi : Hid _ := acc_fine zs j
    by_cases hlt : j < J
    · have hp := HJ.out.2 j hlt
      obtain rfl : a = some ⟨b, 0, none⟩ := HNil.out.resolve_left (fun e => by rw [e] at hp; exact absurd hp (Nat.not_lt_zero _))
      have hd : decide ((pos zs j : Int) < (zs.length : Int)) = true := by simp; omega
      have HM : Hid (Calls Tryd.prog 23 #[.slice (some ⟨b, 0, none⟩) zs.length cap, .int .i64 (pos zs j : Int)] wr fun e w' => e = .returned (.tuple #[.int .i64 (mtA zs (pos zs j)), .int .i64 (mtB zs (pos zs j))]) ∧ ∃ q, w' = wr.drewN q) :=
        imatch_in wr b 0 cap zs (pos zs j) (fun i hi => (HB.out.cell (p := ⟨b, 0 + i, none⟩) (by show b < _; omega)).trans (CD.out i hi)) hl (by omega)
      have hsb := step_bd zs (pos zs j) hp
      have HN : Hid (pos zs (j + 1) = pos zs j + stepN zs (pos zs j)) := rfl
      have HA : Hid (puts ([], 0) (acc zs (j + 1)) = puts (puts ([], 0) (acc zs j)) (stepB zs (pos zs j))) := puts_append _ _ _
      by_cases hm : mtA zs (pos zs j) = 0
      · have HSB : Hid (stepB zs (pos zs j) = codeOf (fc (zs.getD (pos zs j) 0).toNat) (fn (zs.getD (pos zs j) 0).toNat)) := by show _ = _; unfold stepB; rw [if_pos hm]
        have HSN : Hid (stepN zs (pos zs j) = 1) := by show _ = _; unfold stepN; rw [if_pos hm]
        have h8 := H8.out (pos zs j) hp
        obtain ⟨d, hdd⟩ := Int.eq_ofNat_of_zero_le h8.1
        have c1 : ∀ W', Below w2.heap.size w2 W' → W'.cell? ⟨b, pos zs j, none⟩ = some (.int .u8 (d : Int)) := fun W' hW => by
          have h := (hW.cell (p := ⟨b, 0 + pos zs j, none⟩) (by show b < _; omega)).trans (CD.out (pos zs j) hp)
          rw [Nat.zero_add, hdd] at h; exact h
        rw [hdd] at HSB h8
        have hd256 : d < 256 := by omega
        rw [Int.toNat_natCast] at HSB
        have HP : Hid (∀ W', Sink W' w2.heap.size (puts ([], 0) (acc zs j)).1 (puts ([], 0) (acc zs j)).2 → Calls Tryd.prog 24 #[.iface 34 (.pointer (some ⟨w2.heap.size, 0, none⟩)), .int .i64 (fc d : Int), .int .i64 (fn d : Int)] W' fun e w' => e = .returned (.tuple #[]) ∧ Sink w' w2.heap.size (puts ([], 0) (acc zs (j + 1))).1 (puts ([], 0) (acc zs (j + 1))).2 ∧ Below w2.heap.size W' w') := by
          intro W' h
          rw [HA.out, HSB.out]
          exact putCode_any W' _ _ (fc d) (fn d) (by have := (fc_bd d (by omega)).1; omega) (by have := fn_bd d; omega) (by simp at hpl; omega) HFi.out h
        have HN2 : Hid (pos zs (j + 1) = pos zs j + 1) := by show _ = _; rw [HN.out, HSN.out]
        have e1 : wr.cell? ⟨b, pos zs j, none⟩ = some (.int .u8 (d : Int)) := c1 wr HB.out
        have e2 : wr.cell? ⟨B, d, none⟩ = some (.int .i64 (fc d : Int)) := (HB.out.cell (p := ⟨B, d, none⟩) hB2).trans (CC.out d (by omega))
        have e3 : wr.cell? ⟨W.heap.size, d, none⟩ = some (.int .i64 (fn d : Int)) := (HB.out.cell (p := ⟨W.heap.size, d, none⟩) hsz).trans (CL.out d (by omega))
        have d288 : (d : Int) < 288 := by omega
        clear c1 HSB HSN HA HN h8 hdd
        generalize fc d = fcd at *
        generalize fn d = fnd at *
        rw [hm] at HM
        generalize mtB zs (pos zs j) = mb at *
        generalize hP : pos zs j = P at *
        have HPp : Hid _ := hP
        clear hP
        go_wp2_with fail
        refine Calls.mono HM.out ?_
        rintro e w4 ⟨rfl, q, rfl⟩
        go_wp2
        go_region_held3 (fun w' => w'.cell? ⟨b, P, none⟩ = some (.int .u8 (d : Int)) ∧ w'.cell? ⟨B, d, none⟩ = some (.int .i64 (fcd : Int)) ∧ w'.cell? ⟨W.heap.size, d, none⟩ = some (.int .i64 (fnd : Int)))
          (first | exact ⟨e1, e2, e3⟩ | exact ⟨(HB5.out.cell (p := ⟨b, P, none⟩) (by show b < _; omega)).trans e1, (HB5.out.cell (p := ⟨B, d, none⟩) hB2).trans e2, (HB5.out.cell (p := ⟨W.heap.size, d, none⟩) hsz).trans e3⟩)
          (first
            | (go_at_call 24; refine Calls.mono (HP.out _ ?_) ?_; exact HS.out; rintro e w5 ⟨rfl, hs5, hb5⟩; have HS5 : Hid (Sink w5 w2.heap.size (puts ([], 0) (acc zs (j + 1))).1 (puts ([], 0) (acc zs (j + 1))).2) := hs5; have HB5 : Hid (Below w2.heap.size wr w5) := (below_dn _ wr _).trans hb5; clear hs5 hb5))
        go_wp2
        go_roundw
        case rel => exact ⟨j + 1, by omega, by rw [HN2.out]; go_num, HS5.out, HB.out.trans HB5.out⟩
        case measure => simp [intOf]; omega
      · have hmt := (mt_bd zs (pos zs j) (by omega)).resolve_left hm
        have HSB : Hid (stepB zs (pos zs j) = codeOf (fc (257 + lp (mtA zs (pos zs j)))) (fn (257 + lp (mtA zs (pos zs j)))) ++ bitsOf (mtA zs (pos zs j) - LB (lp (mtA zs (pos zs j)))) (LE (lp (mtA zs (pos zs j)))) ++ codeOf (dp (mtB zs (pos zs j))) 5 ++ bitsOf (mtB zs (pos zs j) - DB (dp (mtB zs (pos zs j)))) (DE (dp (mtB zs (pos zs j))))) := by show _ = _; unfold stepB; rw [if_neg hm]
        have HSN : Hid (stepN zs (pos zs j) = mtA zs (pos zs j)) := by show _ = _; unfold stepN; rw [if_neg hm]
        have HN2 : Hid (pos zs (j + 1) = pos zs j + mtA zs (pos zs j)) := by show _ = _; rw [HN.out, HSN.out]
        have HA2 : Hid (puts ([], 0) (acc zs (j + 1)) = puts (puts (puts (puts (puts ([], 0) (acc zs j)) (codeOf (fc (257 + lp (mtA zs (pos zs j)))) (fn (257 + lp (mtA zs (pos zs j)))))) (bitsOf (mtA zs (pos zs j) - LB (lp (mtA zs (pos zs j)))) (LE (lp (mtA zs (pos zs j)))))) (codeOf (dp (mtB zs (pos zs j))) 5)) (bitsOf (mtB zs (pos zs j) - DB (dp (mtB zs (pos zs j)))) (DE (dp (mtB zs (pos zs j)))))) := by
          show _ = _; rw [HA.out, HSB.out, puts_append, puts_append, puts_append]
        clear HSB HSN HA HN hsb
        generalize mtA zs (pos zs j) = n at *
        generalize mtB zs (pos zs j) = far at *
        generalize pos zs j = P at *
        have hz : ((n : Int) == 0) = false := by rw [beq_eq_false_iff_ne]; omega
        have hlp : lp n < 29 := by have := dn_le LB n 28; unfold lp; omega
        have hlf : LB (lp n) ≤ n := dn_fit LB n 28 (by show 3 ≤ n; omega)
        have hlb := LB_bd (lp n) hlp
        have hfc := fc_bd (257 + lp n) (by omega)
        have hfn := fn_bd (257 + lp n)
        have HT1 : Hid (∀ W', Below w2.heap.size w2 W' → Tabs W') := fun W' h => CT.out.below h (by omega)
        have HLP : Hid (∀ W', Below w2.heap.size w2 W' → Calls Tryd.prog 25 #[.int .i64 (n : Int)] W' fun e w' => e = .returned (.int .i64 (lp n : Int)) ∧ w' = W') := fun W' h => lengthPlace_any n W' (HT1.out W' h) (by show 3 ≤ n; omega) (by omega)
        have HP1 : Hid (∀ W', Sink W' w2.heap.size (puts ([], 0) (acc zs j)).1 (puts ([], 0) (acc zs j)).2 → Calls Tryd.prog 24 #[.iface 34 (.pointer (some ⟨w2.heap.size, 0, none⟩)), .int .i64 (fc (257 + lp n) : Int), .int .i64 (fn (257 + lp n) : Int)] W' fun e w' => e = .returned (.tuple #[]) ∧ Sink w' w2.heap.size (puts (puts ([], 0) (acc zs j)) (codeOf (fc (257 + lp n)) (fn (257 + lp n)))).1 (puts (puts ([], 0) (acc zs j)) (codeOf (fc (257 + lp n)) (fn (257 + lp n)))).2 ∧ Below w2.heap.size W' w') :=
          fun W' h => putCode_any W' _ _ _ _ (by omega) (by omega) (by simp at hpl; omega) HFi.out h
        have hf1 := fine_puts _ (codeOf (fc (257 + lp n)) (fn (257 + lp n))) HFi.out (codeOf_bits' _ _)
        have hp1 := puts_len (puts ([], 0) (acc zs j)) (codeOf (fc (257 + lp n)) (fn (257 + lp n)))
        rw [codeOf_len] at hp1
        have hf2 := fine_puts _ (bitsOf (n - LB (lp n)) (LE (lp n))) hf1 (bitsOf_bits _ _)
        have hp2 := puts_len (puts (puts ([], 0) (acc zs j)) (codeOf (fc (257 + lp n)) (fn (257 + lp n)))) (bitsOf (n - LB (lp n)) (LE (lp n)))
        rw [bitsOf_len] at hp2
        simp at hpl
        have HP2 : Hid (∀ W', Sink W' w2.heap.size (puts (puts ([], 0) (acc zs j)) (codeOf (fc (257 + lp n)) (fn (257 + lp n)))).1 (puts (puts ([], 0) (acc zs j)) (codeOf (fc (257 + lp n)) (fn (257 + lp n)))).2 → Calls Tryd.prog 20 #[.iface 34 (.pointer (some ⟨w2.heap.size, 0, none⟩)), .int .i64 ((n : Int) - (LB (lp n) : Int)), .int .i64 (LE (lp n) : Int)] W' fun e w' => e = .returned (.tuple #[]) ∧ Sink w' w2.heap.size (puts (puts (puts ([], 0) (acc zs j)) (codeOf (fc (257 + lp n)) (fn (257 + lp n)))) (bitsOf (n - LB (lp n)) (LE (lp n)))).1 (puts (puts (puts ([], 0) (acc zs j)) (codeOf (fc (257 + lp n)) (fn (257 + lp n)))) (bitsOf (n - LB (lp n)) (LE (lp n)))).2 ∧ Below w2.heap.size W' w') := by
          intro W' h
          rw [show ((n : Int) - (LB (lp n) : Int)) = ((n - LB (lp n) : Nat) : Int) by omega]
          exact putNumber_any W' _ _ _ _ (by omega) (by omega) (by omega) hf1 h
        have HP3 : Hid (∀ W', Below w2.heap.size w2 W' → Sink W' w2.heap.size (puts (puts (puts ([], 0) (acc zs j)) (codeOf (fc (257 + lp n)) (fn (257 + lp n)))) (bitsOf (n - LB (lp n)) (LE (lp n)))).1 (puts (puts (puts ([], 0) (acc zs j)) (codeOf (fc (257 + lp n)) (fn (257 + lp n)))) (bitsOf (n - LB (lp n)) (LE (lp n)))).2 → Calls Tryd.prog 26 #[.iface 34 (.pointer (some ⟨w2.heap.size, 0, none⟩)), .int .i64 (far : Int)] W' fun e w' => e = .returned (.tuple #[]) ∧ Sink w' w2.heap.size (puts ([], 0) (acc zs (j + 1))).1 (puts ([], 0) (acc zs (j + 1))).2 ∧ Below w2.heap.size W' w') := by
          intro W' hb h
          rw [HA2.out]
          exact putDistance_any W' _ _ far (HT1.out W' hb) (by omega) (by omega) (by omega) (by omega) hf2 h
        clear hf1 hf2 hp1 hp2 HA2
        generalize puts (puts (puts ([], 0) (acc zs j)) (codeOf (fc (257 + lp n)) (fn (257 + lp n)))) (bitsOf (n - LB (lp n)) (LE (lp n))) = s2 at *
        generalize puts (puts ([], 0) (acc zs j)) (codeOf (fc (257 + lp n)) (fn (257 + lp n))) = s1 at *
        have HCC : Hid (∀ W', Below w2.heap.size w2 W' → W'.cell? ⟨B, 257 + lp n, none⟩ = some (.int .i64 (fc (257 + lp n) : Int)) ∧ W'.cell? ⟨W.heap.size, 257 + lp n, none⟩ = some (.int .i64 (fn (257 + lp n) : Int))) := fun W' h => ⟨(h.cell (p := ⟨B, 257 + lp n, none⟩) hB2).trans (CC.out _ (by omega)), (h.cell (p := ⟨W.heap.size, 257 + lp n, none⟩) hsz).trans (CL.out _ (by omega))⟩
        have HTC : Hid (∀ W', Below w2.heap.size w2 W' → W'.cell? ⟨0, lp n, none⟩ = some (.int .i64 (LB (lp n) : Int)) ∧ W'.cell? ⟨1, lp n, none⟩ = some (.int .i64 (LE (lp n) : Int))) := fun W' h => ⟨(HT1.out W' h).1 _ hlp, (HT1.out W' h).2.1 _ hlp⟩
        clear hfc hfn
        generalize fc (257 + lp n) = fcd at *
        generalize fn (257 + lp n) = fnd at *
        generalize LB (lp n) = LBk at *
        generalize LE (lp n) = LEk at *
        generalize lp n = k at *
        have hw1 := IntWalk.i64_in ((257 : Int) + (k : Int)) (by omega)
        have hi1 : (257 : Int) + (k : Int) = ((257 + k : Nat) : Int) := by omega
        have hi2 : 257 + k < 288 := by omega
        have hw2 := IntWalk.i64_in ((n : Int) - (LBk : Int)) (by omega)
        have k29 : (k : Int) < 29 := by omega
        generalize 257 + k = K2 at *
        obtain ⟨e2, e3⟩ := HCC.out wr HB.out
        have hw3 := IntWalk.i64_in (K2 : Int) (by omega)
        have hi3 : (K2 : Int) < 288 := by omega
        go_wp2_with fail
        refine Calls.mono HM.out ?_
        rintro e w4 ⟨rfl, q, rfl⟩
        have HB4 : Hid (Below w2.heap.size w2 (wr.drewN q)) := HB.out.trans (below_dn _ wr q)
        go_wp2_with fail
        refine Calls.mono (HLP.out _ HB4.out) ?_
        rintro e w4 ⟨rfl, rfl⟩
        go_wp2
        go_region_held3 (fun w' => w'.cell? ⟨B, K2, none⟩ = some (.int .i64 (fcd : Int)) ∧ w'.cell? ⟨W.heap.size, K2, none⟩ = some (.int .i64 (fnd : Int)))
          (first | exact ⟨e2, e3⟩ | exact HCC.out _ HB5.out)
          (first
            | (go_at_call 24; refine Calls.mono (HP1.out _ ?_) ?_; exact HS.out; rintro e w5 ⟨rfl, hs5, hb5⟩; have HS5 : Hid (Sink w5 w2.heap.size s1.1 s1.2) := hs5; have HB5 : Hid (Below w2.heap.size w2 w5) := (HB.out.trans (below_dn _ wr _)).trans hb5; clear hs5 hb5))
        go_wp2
        go_region_held3 (fun w' => w'.cell? ⟨0, k, none⟩ = some (.int .i64 (LBk : Int)) ∧ w'.cell? ⟨1, k, none⟩ = some (.int .i64 (LEk : Int)))
          (first | exact HTC.out _ HB5.out | exact HTC.out _ HB5.out.drew | exact HTC.out _ HB6.out)
          (first
            | (go_at_call 20; refine Calls.mono (HP2.out _ ?_) ?_; exact HS5.out; rintro e w6 ⟨rfl, hs6, hb6⟩; have HS6 : Hid (Sink w6 w2.heap.size s2.1 s2.2) := hs6; have HB6 : Hid (Below w2.heap.size w2 w6) := HB5.out.drew.trans hb6; clear hs6 hb6))
        go_wp2_with fail
        refine Calls.mono (HP3.out _ HB6.out HS6.out) ?_
        rintro e w7 ⟨rfl, hs7, hb7⟩
        have HS7 : Hid (Sink w7 w2.heap.size (puts ([], 0) (acc zs (j + 1))).1 (puts ([], 0) (acc zs (j + 1))).2) := hs7
        have HB7 : Hid (Below w2.heap.size w2 w7) := HB6.out.trans hb7
        clear hs7 hb7
        go_wp2
        go_roundw
        case rel => exact ⟨j + 1, by omega, by rw [HN2.out]; go_num, HS7.out, HB7.out⟩
        case measure => simp [intOf]; omega
    · have e : j = J := by omega
      subst e
      have hend := HJ.out.1
      have hd : decide ((pos zs j : Int) < (zs.length : Int)) = false := by simp; omega
      have hd' : decide (pos zs j < zs.length) = false := by simp; omega
      have HP : Hid (∀ W' f256 n256, f256 = (fc 256 : Int) → n256 = (fn 256 : Int) → Sink W' w2.heap.size (puts ([], 0) (acc zs j)).1 (puts ([], 0) (acc zs j)).2 → Calls Tryd.prog 24 #[.iface 34 (.pointer (some ⟨w2.heap.size, 0, none⟩)), .int .i64 f256, .int .i64 n256] W' fun e w' => e = .returned (.tuple #[]) ∧ Sink w' w2.heap.size (outB zs j) (puts ([], 0) (acc zs j ++ codeOf 0 7)).2 ∧ Below w2.heap.size W' w') := by
        intro W' f256 n256 hf hn h
        subst hf; subst hn
        have k := putCode_any W' _ _ (fc 256) (fn 256) (by rw [fc_end]; omega) (by have := fn_bd 256; omega) (by simp at hpl; omega) HFi.out h
        rw [fc_end, show fn 256 = 7 from rfl, ← puts_append] at k
        rw [fc_end, show fn 256 = 7 from rfl]
        exact k
      have e2 : wr.cell? ⟨B, 256, none⟩ = some (.int .i64 (fc 256 : Int)) := (HB.out.cell (p := ⟨B, 256, none⟩) hB2).trans (CC.out 256 (by omega))
      have e3 : wr.cell? ⟨W.heap.size, 256, none⟩ = some (.int .i64 (fn 256 : Int)) := (HB.out.cell (p := ⟨W.heap.size, 256, none⟩) hsz).trans (CL.out 256 (by omega))
      have HLn : Hid (0 < (outB zs j).length) := outB_pos zs j
      generalize (fc 256 : Int) = f256 at *
      generalize (fn 256 : Int) = n256 at *
      generalize (puts ([], 0) (acc zs j ++ codeOf 0 7)).2 = u at *
      clear hend
      go_wp2
      go_region_held3 (fun w' => w'.cell? ⟨B, 256, none⟩ = some (.int .i64 f256) ∧ w'.cell? ⟨W.heap.size, 256, none⟩ = some (.int .i64 n256))
        (first | exact ⟨e2, e3⟩ | exact ⟨(HB5.out.cell (p := ⟨B, 256, none⟩) hB2).trans e2, (HB5.out.cell (p := ⟨W.heap.size, 256, none⟩) hsz).trans e3⟩)
        (first
          | (go_at_call 24; refine Calls.mono (HP.out _ _ _ rfl rfl ?_) ?_; exact HS.out; rintro e w5 ⟨rfl, hs5, hb5⟩; have HS5 : Hid (Sink w5 w2.heap.size (outB zs j) u) := hs5; have HB5 : Hid (Below w2.heap.size wr w5) := (below_dn _ wr 1).trans hb5; clear hs5 hb5))
      obtain ⟨v, q0, q1, qf, qs, qown⟩ := HS5.out
      rcases qown.2 with ⟨_, h⟩ | ⟨g, cap', cur, rfl, hg1, hg2, hg3, hg4, hg5, hg6⟩
      · exact absurd HLn.out (by omega)
      have HG : Hid (Gave W w5 g (outB zs j) cap') := ⟨HBel.out.trans ((HB.out.trans HB5.out).mono (by omega)), by omega, qown.1, Or.inr ⟨g, cap', cur, rfl, by omega, hg2, hg3, hg4, hg5, hg6⟩⟩
      clear qown hg2 hg5 hg6 q1 qf
      go_wp2
      go_ret2
      exact ⟨_, _, rfl, HG.out⟩
theorem ifix (W : World) (b cap : Nat) (zs : List Int) (J : Nat) (hJ : Ends zs J) (ht : Tabs W) (hl : zs.length ≤ 6000) (h8 : ∀ i, i < zs.length → 0 ≤ zs.getD i 0 ∧ zs.getD i 0 ≤ 255) (hb : b < W.heap.size) (hc : ∀ i, i < zs.length → W.cell? ⟨b, 0 + i, none⟩ = some (.int .u8 (zs.getD i 0))) :
    Calls Tryd.prog 9 #[.slice (some ⟨b, 0, none⟩) zs.length cap] W fun e w' => ∃ g c, e = .returned (.tuple #[.slice (some ⟨g, 0, none⟩) (outB zs J).length c, .bool true]) ∧ Gave W w' g (outB zs J) c :=
  ifixA W (some ⟨b, 0, none⟩) b cap zs J hJ ht hl h8 hb hc (Or.inr rfl)
end Go.Proofs.YtaeicgfebeliiaaDoor
namespace Go.Proofs.YtaeicgfebeliiaaDoor
open Go.ChangeShapes Go.WideShapes Go.ChangeAt Go.RowKit
set_option linter.unusedVariables false

/-- The bytes that a stored block has. -/
def stored (ds : List Nat) : List Nat := [1] ++ [ds.length % 256] ++ [ds.length / 256] ++ [(65535 - ds.length) % 256] ++ [(65535 - ds.length) / 256] ++ ds
theorem xor_nat (n : Nat) (h : n < 65536) : n ^^^ 65535 = 65535 - n := by
  have e : (BitVec.ofNat 16 n ^^^ BitVec.allOnes 16).toNat = (~~~ (BitVec.ofNat 16 n)).toNat := by rw [BitVec.xor_allOnes]
  rw [BitVec.toNat_xor, BitVec.toNat_not, BitVec.toNat_ofNat, BitVec.toNat_allOnes] at e
  have e2 : n % 2 ^ 16 = n := Nat.mod_eq_of_lt (by omega)
  rw [e2] at e
  exact e
theorem xor_all (n : Nat) (h : n < 65536) : bits .xor .i64 (n : Int) 65535 = ((65535 - n : Nat) : Int) := by
  have e1 : (65535 : Int) = ((65535 : Nat) : Int) := rfl
  rw [e1]
  have ha : n % 2 ^ IntKind.i64.bits = n := Nat.mod_eq_of_lt (by show n < 2 ^ 64; omega)
  have hb : 65535 % 2 ^ IntKind.i64.bits = 65535 := rfl
  simp only [bits, BitVec.ofInt_natCast, BitVec.toNat_xor, BitVec.toNat_ofNat, ha, hb]
  rw [xor_nat n h, IntKind.wrap_i64]; omega
set_option maxHeartbeats 4000000 in
theorem istoredA (W : World) (a : Option Addr) (b cap : Nat) (ds : List Nat) (hl : ds.length ≤ 6000) (h8 : ∀ d ∈ ds, d < 256) (hb : b < W.heap.size) (hc : ∀ i, i < ds.length → W.cell? ⟨b, 0 + i, none⟩ = some (.int .u8 ((ds.getD i 0 : Nat) : Int))) (hnil : ds = [] ∨ a = some ⟨b, 0, none⟩) :
    Calls Tryd.prog 8 #[.slice a ds.length cap] W fun e w' => ∃ g c, e = .returned (.tuple #[.slice (some ⟨g, 0, none⟩) (stored ds).length c, .bool true]) ∧ Gave W w' g (stored ds) c := by
  have hd1 : decide ((6000 : Int) < (ds.length : Int)) = false := by simp; omega
  have hx := xor_all ds.length (by omega)
  have HN : Hid (∀ (W' : World) (S : Nat) (bs : List Nat) (n k : Nat), n < 65536 → k ≤ 16 → bs.length ≤ 900000 → (∀ x ∈ bs, x < 256) → Sink W' S bs 0 → Calls Tryd.prog 20 #[.iface 34 (.pointer (some ⟨S, 0, none⟩)), .int .i64 (n : Int), .int .i64 (k : Int)] W' fun e w' => e = .returned (.tuple #[]) ∧ Sink w' S (puts (bs, 0) (bitsOf n k)).1 (puts (bs, 0) (bitsOf n k)).2 ∧ Below S W' w') :=
    fun W' S bs n k h1 h2 h3 h4 h5 => putNumber_any W' S (bs, 0) n k h1 h2 h3 ⟨by show 0 < 8; omega, h4, fun h => absurd rfl h⟩ h5
  have HT : Hid (∀ i, i < ds.length → ds.getD i 0 < 256) := fun i hi => by
    have e : ds.getD i 0 = ds[i] := by simp [hi]
    rw [e]; exact h8 _ (List.getElem_mem _)
  have HM : Hid (∀ i, ∀ x ∈ [1] ++ [ds.length % 256] ++ [ds.length / 256] ++ [(65535 - ds.length) % 256] ++ [(65535 - ds.length) / 256] ++ ds.take i, x < 256) := by
    intro i x hx
    simp at hx
    rcases hx with rfl | rfl | rfl | rfl | rfl | hx
    · omega
    · omega
    · omega
    · omega
    · omega
    · exact h8 x (List.mem_of_mem_take hx)
  have HC : Hid _ := hc
  have HNil : Hid (ds = [] ∨ a = some ⟨b, 0, none⟩) := hnil
  clear hc h8 hnil
  go_enter Tryd.func8, Tryd.ntmps8
  go_wp2_with fail
  refine Calls.mono (putHead_any _ _ (sink_new W)) ?_
  rintro e w1 ⟨rfl, h1, h2⟩
  have HS1 : Hid (Sink w1 W.heap.size (puts (puts ([], 0) (bitsOf 1 1)) (bitsOf 0 2)).1 (puts (puts ([], 0) (bitsOf 1 1)) (bitsOf 0 2)).2) := h1
  have HB1 : Hid (Below W.heap.size W w1) := ((Below.refl W.heap.size W).alloc (Nat.le_refl _) _).trans h2
  clear h1 h2
  go_wp2_with fail
  refine Calls.mono (putNumber_any w1 W.heap.size _ 0 5 (by omega) (by omega) (by decide) (puts_fine _ _ _ (puts_fine _ _ _ ⟨by decide, by simp, fun h => absurd rfl h⟩)) HS1.out) ?_
  rw [puts_head]
  rintro e w2 ⟨rfl, h1, h2⟩
  have HS2 : Hid (Sink w2 W.heap.size [1] 0) := h1
  have HB2 : Hid (Below W.heap.size W w2) := HB1.out.trans h2
  clear h1 h2 HS1 HB1
  go_wp2_with fail
  refine Calls.mono (HN.out w2 W.heap.size [1] ds.length 16 (by omega) (by omega) (by simp) (by simp) HS2.out) ?_
  rw [puts16 _ _ (by omega)]
  rintro e w3 ⟨rfl, h1, h2⟩
  have HS3 : Hid (Sink w3 W.heap.size ([1] ++ [ds.length % 256] ++ [ds.length / 256]) 0) := h1
  have HB3 : Hid (Below W.heap.size W w3) := HB2.out.trans h2
  clear h1 h2 HS2 HB2
  go_wp2_with fail
  refine Calls.mono (HN.out w3 W.heap.size ([1] ++ [ds.length % 256] ++ [ds.length / 256]) (65535 - ds.length) 16 (by omega) (by omega) (by simp) (by intro x hx; simp at hx; omega) HS3.out) ?_
  rw [puts16 _ _ (by omega)]
  rintro e w4 ⟨rfl, h1, h2⟩
  have HS4 : Hid (Sink w4 W.heap.size ([1] ++ [ds.length % 256] ++ [ds.length / 256] ++ [(65535 - ds.length) % 256] ++ [(65535 - ds.length) / 256]) 0) := h1
  have HB4 : Hid (Below W.heap.size W w4) := HB3.out.trans h2
  clear h1 h2 HS3 HB3 hx
  go_wp2
  go_loopw [31] (fun i wr => ∃ k : Nat, k ≤ ds.length ∧ i = .int .i64 k ∧ Sink wr W.heap.size ([1] ++ [ds.length % 256] ++ [ds.length / 256] ++ [(65535 - ds.length) % 256] ++ [(65535 - ds.length) / 256] ++ ds.take k) 0 ∧ Below W.heap.size W wr) (fun i _ => ds.length - (intOf i).toNat)
  case atStart => exact ⟨0, Nat.zero_le _, rfl, by simpa using HS4.out, HB4.out⟩
  case round =>
    clear HS4 HB4
    obtain ⟨k, hk, rfl, h1, h2⟩ := hrel
    have HS : Hid (Sink wr W.heap.size ([1] ++ [ds.length % 256] ++ [ds.length / 256] ++ [(65535 - ds.length) % 256] ++ [(65535 - ds.length) / 256] ++ ds.take k) 0) := h1
    have HB : Hid (Below W.heap.size W wr) := h2
    clear h1 h2
    by_cases hlt : k < ds.length
    · obtain rfl : a = some ⟨b, 0, none⟩ := HNil.out.resolve_left (fun e => by rw [e] at hlt; exact absurd hlt (Nat.not_lt_zero _))
      have c0 : wr.cell? ⟨b, k, none⟩ = some (.int .u8 ((ds.getD k 0 : Nat) : Int)) := by
        have h := (HB.out.cell (p := ⟨b, 0 + k, none⟩) hb).trans (HC.out k hlt)
        rwa [Nat.zero_add] at h
      have hd := HT.out k hlt
      have HP := HN.out wr W.heap.size _ (ds.getD k 0) 8 (by omega) (by omega) (by simp; omega) (HM.out k) HS.out
      rw [puts8 _ _ hd] at HP
      have HE : Hid ([1] ++ [ds.length % 256] ++ [ds.length / 256] ++ [(65535 - ds.length) % 256] ++ [(65535 - ds.length) / 256] ++ ds.take k ++ [ds.getD k 0] = [1] ++ [ds.length % 256] ++ [ds.length / 256] ++ [(65535 - ds.length) % 256] ++ [(65535 - ds.length) / 256] ++ ds.take (k + 1)) := by
        show _ = _
        rw [List.take_succ_eq_append_getElem hlt]; simp [hlt]
      rw [HE.out] at HP
      have HP' : Hid _ := HP
      clear HP HE
      generalize ds.getD k 0 = d at *
      go_wp2_with fail
      refine Calls.mono HP'.out ?_
      rintro e w5 ⟨rfl, h1, h2⟩
      have HS5 : Hid _ := h1
      have HB5 : Hid (Below W.heap.size W w5) := HB.out.trans h2
      clear h1 h2
      go_wp2
      go_roundw
      case rel => exact ⟨k + 1, by omega, by go_num, HS5.out, HB5.out⟩
      case measure => simp [intOf]; omega
    · have e : k = ds.length := by omega
      subst e
      have hS := HS.out
      rw [List.take_length] at hS
      change Sink wr W.heap.size (stored ds) 0 at hS
      obtain ⟨v, h0, h1, hf, hSz, hown⟩ := hS
      have hlen : (stored ds).length = ds.length + 5 := by simp [stored]
      rcases hown.2 with ⟨_, h⟩ | ⟨g, cap', cur, rfl, hg1, hg2, hg3, hg4, hg5, hg6⟩
      · omega
      have HG : Hid (Gave W wr g (stored ds) cap') := ⟨HB.out, by omega, hown.1, Or.inr ⟨g, cap', cur, rfl, by omega, hg2, hg3, hg4, hg5, hg6⟩⟩
      clear hown hg2 hg5 hg6 h1 hf HS HC HT HM HN
      go_wp2
      go_ret2
      exact ⟨_, _, rfl, HG.out⟩
theorem istored (W : World) (b cap : Nat) (ds : List Nat) (hl : ds.length ≤ 6000) (h8 : ∀ d ∈ ds, d < 256) (hb : b < W.heap.size) (hc : ∀ i, i < ds.length → W.cell? ⟨b, 0 + i, none⟩ = some (.int .u8 ((ds.getD i 0 : Nat) : Int))) :
    Calls Tryd.prog 8 #[.slice (some ⟨b, 0, none⟩) ds.length cap] W fun e w' => ∃ g c, e = .returned (.tuple #[.slice (some ⟨g, 0, none⟩) (stored ds).length c, .bool true]) ∧ Gave W w' g (stored ds) c :=
  istoredA W (some ⟨b, 0, none⟩) b cap ds hl h8 hb hc (Or.inr rfl)
end Go.Proofs.YtaeicgfebeliiaaDoor
namespace Go.Proofs.YtaeicgfebeliiaaDoor
open Go.ChangeShapes Go.WideShapes Go.ChangeAt Go.RowKit
set_option linter.unusedVariables false

theorem nil_whole (a : Addr) (W : World) : (nilAhead 257 47 (.pointer (some a)) "loop.example/g00137/impl.toWholeByte").run Tryd.prog W = .ok (some false) W := by kernel_rfl
set_option maxHeartbeats 2000000 in
theorem toWhole_any (w : World) (S b cap : Nat) (ds : List Nat) (t : Nat) (hl : ds.length ≤ 100000) (hs : Src w S b cap ds t) (ht : t ≤ 8 * ds.length) :
    Calls Tryd.prog 137 #[.pointer (some ⟨S, 0, none⟩)] w fun e w' => e = .returned (.tuple #[]) ∧ Src w' S b cap ds (8 * ((t + 7) / 8)) ∧ Gr S w w' := by
  have HC : Hid _ := whole_any w S b cap ds t hl hs ht
  have HS : Hid _ := hs
  have hq : (8 : Int) * (((t + 7) / 8 : Nat) : Int) = ((8 * ((t + 7) / 8) : Nat) : Int) := by omega
  have hb : (t + 7) / 8 ≤ 100001 := by omega
  generalize (t + 7) / 8 = q at *
  have HQ : Hid _ := hq
  clear hs hq
  go_enter Tryd.func137, Tryd.ntmps137
  go_wp2_with fail
  refine Calls.mono HC.out ?_
  rintro e w1 ⟨rfl, n, hw⟩
  have s1 : Src w1 S b cap ds t := by rw [hw]; exact HS.out.drew n
  have G1 : Hid (Gr S w w1) := by show Gr _ _ _; rw [hw]; exact gr_dn _ _ _
  have S1 : Hid _ := s1
  have e1 := s1.c1
  have ef := s1.fr 1
  clear s1 hw
  go_wp2
  go_returns
  have h := S1.out.set (8 * q)
  rw [HQ.out]
  exact ⟨rfl, h, G1.out.trans (gr_own _ _ _ _)⟩
/-- What a stored block's bytes tell. -/
theorem stored_reads (xs : List Nat) (hl : xs.length ≤ 6000) (h8 : ∀ d ∈ xs, d < 256) :
    rdN (stored xs) 0 1 = 1 ∧ rdN (stored xs) 1 2 = 0 ∧ rdN (stored xs) 8 16 = xs.length ∧ rdN (stored xs) 24 16 = 65535 - xs.length ∧ (∀ k, k < xs.length → rdN (stored xs) (40 + 8 * k) 8 = xs.getD k 0) ∧ (∀ d ∈ stored xs, d < 256) := by
  have e : stored xs = 1 :: xs.length % 256 :: xs.length / 256 :: (65535 - xs.length) % 256 :: (65535 - xs.length) / 256 :: xs := by simp [stored]
  rw [e]
  refine ⟨by simp [rdN, btA], by simp [rdN, btA], ?_, ?_, fun k hk => ?_, ?_⟩
  · have h := rdN_two (1 :: xs.length % 256 :: xs.length / 256 :: (65535 - xs.length) % 256 :: (65535 - xs.length) / 256 :: xs) 1 (by show xs.length % 256 < 256; omega) (by show xs.length / 256 < 256; omega)
    have e2 : (1 :: xs.length % 256 :: xs.length / 256 :: (65535 - xs.length) % 256 :: (65535 - xs.length) / 256 :: xs).getD 1 0 + 256 * (1 :: xs.length % 256 :: xs.length / 256 :: (65535 - xs.length) % 256 :: (65535 - xs.length) / 256 :: xs).getD (1 + 1) 0 = xs.length := by show xs.length % 256 + 256 * (xs.length / 256) = _; omega
    rw [e2] at h
    exact h
  · have h := rdN_two (1 :: xs.length % 256 :: xs.length / 256 :: (65535 - xs.length) % 256 :: (65535 - xs.length) / 256 :: xs) 3 (by show (65535 - xs.length) % 256 < 256; omega) (by show (65535 - xs.length) / 256 < 256; omega)
    have e2 : (1 :: xs.length % 256 :: xs.length / 256 :: (65535 - xs.length) % 256 :: (65535 - xs.length) / 256 :: xs).getD 3 0 + 256 * (1 :: xs.length % 256 :: xs.length / 256 :: (65535 - xs.length) % 256 :: (65535 - xs.length) / 256 :: xs).getD (3 + 1) 0 = 65535 - xs.length := by show (65535 - xs.length) % 256 + 256 * ((65535 - xs.length) / 256) = _; omega
    rw [e2] at h
    exact h
  · have e2 : (1 :: xs.length % 256 :: xs.length / 256 :: (65535 - xs.length) % 256 :: (65535 - xs.length) / 256 :: xs).getD (5 + k) 0 = xs.getD k 0 := by
      rw [show 5 + k = k + 1 + 1 + 1 + 1 + 1 by omega]; rfl
    have h := rdN_byte (1 :: xs.length % 256 :: xs.length / 256 :: (65535 - xs.length) % 256 :: (65535 - xs.length) / 256 :: xs) (5 + k) (by
      rw [e2, show xs.getD k 0 = xs[k] by simp [hk]]; exact h8 _ (List.getElem_mem _))
    rw [e2, show 8 * (5 + k) = 40 + 8 * k by omega] at h
    exact h
  · intro d hd
    simp only [List.mem_cons] at hd
    rcases hd with rfl | rfl | rfl | rfl | rfl | hd
    · omega
    · omega
    · omega
    · omega
    · omega
    · exact h8 d hd
theorem ints_take (xs : List Nat) (k : Nat) (h : k < xs.length) : ints (xs.take (k + 1)) = ints (xs.take k) ++ [((xs.getD k 0 : Nat) : Int)] := by
  rw [List.take_succ_eq_append_getElem h, ints_app, show xs.getD k 0 = xs[k] by simp [h]]; rfl
set_option maxHeartbeats 4000000 in
theorem unpackStored_any (w : World) (S b cap : Nat) (xs : List Nat) (hl : xs.length ≤ 6000) (h8 : ∀ d ∈ xs, d < 256) (hs : Src w S b cap (stored xs) 3) (hb : b < w.heap.size) :
    Calls Tryd.prog 49 #[.iface 47 (.pointer (some ⟨S, 0, none⟩)), .slice none 0 0] w fun e w' => ∃ v, e = .returned (.tuple #[v, .int .i64 0]) ∧ Own w' w.heap.size v (ints xs) ∧ Src w' S b cap (stored xs) (8 * (stored xs).length) ∧ Gr S w w' := by
  obtain ⟨_, _, q1, q2, q3, q4⟩ := stored_reads xs hl h8
  have hsl : (stored xs).length = xs.length + 5 := by simp [stored]
  have hS := hs.lt
  have hx8 : ∀ k, k < xs.length → xs.getD k 0 < 256 := fun k hk => by rw [show xs.getD k 0 = xs[k] by simp [hk]]; exact h8 _ (List.getElem_mem _)
  obtain ⟨B, hB⟩ : ∃ B, w.heap.size = B := ⟨_, rfl⟩
  have HB : Hid (w.heap.size = B) := hB
  rw [hB] at hS hb ⊢
  obtain ⟨ds, hds⟩ : ∃ ds, stored xs = ds := ⟨_, rfl⟩
  rw [hds] at hs q1 q2 q3 q4 hsl ⊢
  obtain ⟨n, hn⟩ : ∃ n, xs.length = n := ⟨_, rfl⟩
  rw [hn] at hsl q1 q2 q3 hl hx8
  have HS : Hid (Src w S b cap ds 3) := hs
  have HQ3 : Hid _ := q3
  have H8 : Hid _ := q4
  have HX8 : Hid _ := hx8
  have HN : Hid (xs.length = n) := hn
  have hx := xor_all n (by omega)
  have hnil := nil_whole ⟨S, 0, none⟩
  have hld : ds.length ≤ 100000 := by omega
  have hO0 : Hid (Own w B (.slice none 0 0) (ints (xs.take 0))) := Own.nil _ _
  clear hs h8 q3 q4 hx8 hB hds hn
  go_enter Tryd.func49, Tryd.ntmps49
  go_wp2_with fail
  refine (toWhole_any w S b cap ds 3 hld HS.out (by omega)).mono ?_
  rintro e w1 ⟨rfl, s1, g1⟩
  have S1 : Hid (Src w1 S b cap ds 8) := s1
  have G1 : Hid (Gr S w w1) := g1
  clear s1 g1
  go_wp2_with fail
  have h16 := takeNumber_any w1 S b cap ds 8 16 hld H8.out (by omega) S1.out (by omega)
  rw [q1] at h16
  refine Calls.mono h16 ?_
  clear h16
  rintro e w2 ⟨rfl, s1, g1⟩
  have S2 : Hid (Src w2 S b cap ds 24) := s1
  have G2 : Hid (Gr S w w2) := G1.out.trans g1
  clear s1 g1
  go_wp2_with fail
  have h16 := takeNumber_any w2 S b cap ds 24 16 hld H8.out (by omega) S2.out (by omega)
  rw [q2] at h16
  refine Calls.mono h16 ?_
  clear h16
  rintro e w3 ⟨rfl, s1, g1⟩
  have S3 : Hid (Src w3 S b cap ds 40) := s1
  have G3 : Hid (Gr S w w3) := G2.out.trans g1
  have O3 : Hid (Own w3 B (.slice none 0 0) (ints (xs.take 0))) := Own.gr (hO0.out) G3.out hS
  clear s1 g1 S1 S2 G1 G2 HS hO0
  go_wp2
  go_loopw [1, 36] (fun v i wr => ∃ k : Nat, k ≤ n ∧ i = .int .i64 (k : Int) ∧ Own wr B v (ints (xs.take k)) ∧ Src wr S b cap ds (40 + 8 * k) ∧ Gr S w wr) (fun _ i _ => n - (intOf i).toNat)
  case atStart => exact ⟨0, Nat.zero_le _, rfl, O3.out, S3.out, G3.out⟩
  case round =>
    obtain ⟨k, hk, rfl, ho, hs, hg⟩ := hrel
    obtain ⟨sa, sc, rfl⟩ := ho.shape
    have HG : Hid (Gr S w wr) := hg
    by_cases hlt : k < n
    · have h16 := takeNumber_any wr S b cap ds (40 + 8 * k) 8 hld H8.out (by omega) hs (by omega)
      rw [HQ3.out k hlt] at h16
      have hd := HX8.out k hlt
      have HT : Hid (ints (xs.take (k + 1)) = ints (xs.take k) ++ [((xs.getD k 0 : Nat) : Int)]) := ints_take xs k (by rw [HN.out]; exact hlt)
      generalize xs.getD k 0 = d at *
      have HC : Hid _ := h16
      have x3 : IntKind.u8.wrap (d : Int) = (d : Int) := by rw [IntKind.wrap_u8]; omega
      have hLl : (ints (xs.take k)).length = k := by rw [ints_len, List.length_take, HN.out]; omega
      have HLl : Hid ((ints (xs.take k)).length = k) := hLl
      have HO : Hid (Own wr B (.slice sa (ints (xs.take k)).length sc) (ints (xs.take k))) := ho
      rw [hLl] at HO ⊢
      clear h16 ho hs hg hLl
      go_wp2_with fail
      refine Calls.mono HC.out ?_
      rintro e w5 ⟨rfl, s5, g5⟩
      have O5 : Hid (Own w5 B (.slice sa k sc) (ints (xs.take k))) := Own.gr HO.out g5 hS
      have S5 : Hid (Src w5 S b cap ds (40 + 8 * (k + 1))) := s5
      have G5 : Hid (Gr S w w5) := HG.out.trans g5
      have hsz : B ≤ w5.heap.size := by have := G5.out.size; rw [HB.out] at this; exact this
      have HNw : ∀ o, Hid (Nw w5 (w5.alloc o)) := fun o => (Below.refl _ _).alloc (Nat.le_refl _) o
      have hol : (ints (xs.take k)).length ≤ 1000000 := by rw [HLl.out]; omega
      clear s5 g5 HC HO HG
      generalize ints (xs.take k) = L at *
      go_wp2_with (at_builtin; (refine wp_b _ rfl _ _ rfl B _ L (d : Int) rfl (Own.nw O5.out (HNw _).out) _ rfl ?c1 hol ?c3 ?_))
      case c1 => simp
      case c3 => exact Nat.le_trans hsz (Below.size (HNw _).out)
      intro v' w' h1 h2
      obtain ⟨s6, g6⟩ := lay_step HB.out hS hb S5.out G5.out O5.out (HNw _).out h2
      have O6 : Hid (Own w' B v' (ints (xs.take (k + 1)))) := by show Own _ _ _ _; rw [HT.out]; exact h1
      have S6 : Hid (Src w' S b cap ds (40 + 8 * (k + 1))) := s6
      have G6 : Hid (Gr S w w') := g6
      have hLL : (L ++ [(d : Int)]).length = k + 1 := by rw [List.length_append, HLl.out]; rfl
      obtain ⟨sa', sc', ev⟩ := Own.shape h1
      rw [hLL] at ev
      subst ev
      clear s6 g6 h1 h2
      go_wp2
      go_roundw
      case rel => exact ⟨k + 1, hlt, by go_num, O6.out, S6.out, G6.out⟩
      case measure => simp [intOf]; omega
    · have e : k = n := by omega
      subst e
      have HTk : Hid (xs.take k = xs) := by show _ = _; rw [← HN.out, List.take_length]
      have s2 := hs
      rw [show 40 + 8 * k = 8 * ds.length by omega] at s2
      have O1 : Hid (Own wr B (.slice sa (ints (xs.take k)).length sc) (ints (xs.take k))) := ho
      rw [HTk.out] at O1
      have hLl : (ints xs).length = k := by rw [ints_len, HN.out]
      have O2 : Hid (Own wr B (.slice sa k sc) (ints xs)) := by
        have h := O1
        rw [hLl] at h
        exact h
      have S2 : Hid _ := s2
      rw [HTk.out, hLl]
      clear s2 ho hs hg O1 hLl
      go_wp2
      go_ret2
      exact ⟨_, rfl, O2.out, S2.out, HG.out⟩
end Go.Proofs.YtaeicgfebeliiaaDoor
namespace Go.Proofs.YtaeicgfebeliiaaDoor
open Go.ChangeShapes Go.WideShapes Go.ChangeAt Go.RowKit
set_option linter.unusedVariables false

def fvp (i j : Nat) : Int := if j < i then 5 else 0
theorem fvp_set (i : Nat) (h : i < 32) : (tab 32 (fvp i)).setIfInBounds i (.int .i64 5) = tab 32 (fvp (i + 1)) := by
  apply tab_set _ _ _ i _ h
  · intro j hj hne
    unfold fvp
    by_cases h2 : j < i
    · rw [if_pos h2, if_pos (by omega)]
    · rw [if_neg h2, if_neg (by omega)]
  · unfold fvp; rw [if_pos (by omega)]
theorem fvp_all : tab 32 (fvp 32) = cellsOf .i64 fiveL := by
  rw [cellsOf_tab]
  apply tab_congr
  intro j hj
  have h32 : j < 32 := hj
  unfold fvp fiveL
  rw [if_pos h32]
  rw [List.getD_eq_getElem?_getD, List.getElem?_replicate, if_pos h32]; rfl
theorem fvp_zero : tab 32 (fvp 0) = tab 32 (fun _ => 0) := by
  apply tab_congr; intro j hj; unfold fvp; rw [if_neg (by omega)]
set_option maxHeartbeats 2000000 in
theorem fixedDistances_any (w : World) : Calls Tryd.prog 52 #[] w fun e w' => e = .returned (.slice (some ⟨w.heap.size, 0, none⟩) 32 32) ∧ w' = w.alloc (.cells (cellsOf .i64 fiveL) 3) := by
  have hmk := run_make_row' (P := Tryd.prog) 39 3 (.int .i64 0) 8 Tryd.underlying39 Tryd.info3 rfl .i64 .i64 32 (by omega) (by omega)
  rw [tab_zero, ← fvp_zero] at hmk
  have hmk2 : ∀ (W : World), (Instr.makeSlice 39 (Value.int IntKind.i64 32) (Value.int IntKind.i64 32)).run Tryd.prog W = .ok (.slice (some ⟨W.heap.size, 0, none⟩) 32 32) (W.alloc (.cells (tab 32 (fvp 0)) 3)) := hmk
  clear hmk
  have HZ : Hid _ := fvp_all
  go_enter Tryd.func52, Tryd.ntmps52
  go_wp2
  go_loopw [6] (fun i wr => ∃ k : Nat, k ≤ 32 ∧ i = .int .i64 k ∧ wr = w.alloc (.cells (tab 32 (fvp k)) 3)) (fun i _ => 32 - (intOf i).toNat)
  case atStart => exact ⟨0, Nat.zero_le _, rfl, rfl⟩
  case round =>
    obtain ⟨k, hk, rfl, rfl⟩ := hrel
    clear hmk2
    by_cases hlt : k < 32
    · have hg := tab_get 32 (fvp k) k hlt
      have x1 : (k : Int) < 32 := by omega
      have d0 : decide ((k : Int) < 32) = true := by simp; omega
      have HV : Hid _ := fvp_set k hlt
      generalize fvp k k = y at *
      generalize tab 32 (fvp k) = T at *
      go_wp2
      go_roundw
      case rel => exact ⟨k + 1, by omega, by go_num, by rw [← HV.out]⟩
      case measure => simp [intOf]; omega
    · have e : k = 32 := by omega
      subst e
      rw [HZ.out]
      go_wp2
      go_ret
      exact ⟨rfl, rfl⟩
end Go.Proofs.YtaeicgfebeliiaaDoor
