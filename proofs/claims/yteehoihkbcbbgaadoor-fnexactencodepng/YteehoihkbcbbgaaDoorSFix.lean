/-
  What the specification's l2PackFixed answers: the bytes of the block; its conditions stand in the theorem.
-/
import Derived.Test.YteehoihkbcbbgaaDoorIFix
namespace Go.Proofs.YteehoihkbcbbgaaDoor
open Go.ChangeShapes Go.WideShapes Go.ChangeAt Go.RowKit
set_option linter.unusedVariables false

/-- The bits xs have been laid down. -/
def SX (w : World) (S : Nat) (xs : List Nat) : Prop := SB w S (puts ([], 0) xs).1 xs.length
theorem sx_eq (xs : List Nat) : puts ([], 0) xs = ((puts ([], 0) xs).1, xs.length % 8) := by
  have h := puts_u [] 0 xs
  rw [Nat.zero_add] at h
  rw [← h]
theorem sx_code (W : World) (S : Nat) (xs : List Nat) (n k : Nat) (hn : n < 65536) (hk : k ≤ 16) (hl : xs.length ≤ 800000) (hx : ∀ x ∈ xs, x ≤ 1) (hs : SX W S xs) :
    Calls Tryd.prog 91 #[.pointer (some ⟨S, 0, none⟩), .int .i64 n, .int .i64 k] W fun e w' => e = .returned (.tuple #[]) ∧ SX w' S (xs ++ codeOf n k) ∧ Below S W w' := by
  have hp := puts_len ([], 0) xs
  have h := code_any W S (puts ([], 0) xs).1 xs.length n k hn hk (by omega) (by simp at hp; omega) (by rw [← sx_eq]; exact fine_puts _ _ fine0 hx) hs
  rw [← sx_eq, ← puts_append] at h
  unfold SX
  rw [List.length_append, codeOf_len]
  exact h
theorem sx_num (W : World) (S : Nat) (xs : List Nat) (n k : Nat) (hn : n < 65536) (hk : k ≤ 16) (hl : xs.length ≤ 800000) (hx : ∀ x ∈ xs, x ≤ 1) (hs : SX W S xs) :
    Calls Tryd.prog 89 #[.pointer (some ⟨S, 0, none⟩), .int .i64 n, .int .i64 k] W fun e w' => e = .returned (.tuple #[]) ∧ SX w' S (xs ++ bitsOf n k) ∧ Below S W w' := by
  have hp := puts_len ([], 0) xs
  have h := number_any W S (puts ([], 0) xs).1 xs.length n k hn hk (by omega) (by simp at hp; omega) (by rw [← sx_eq]; exact fine_puts _ _ fine0 hx) hs
  rw [← sx_eq, ← puts_append] at h
  unfold SX
  rw [List.length_append, bitsOf_len]
  exact h
theorem sb_new (W : World) : SX (W.alloc (.cells #[.slice none 0 0, .int .i64 0] 114)) W.heap.size [] := by
  refine ⟨.slice none 0 0, by simp, by simp, fun o => World.frozen?_alloc_at _ _ _ _ rfl, by simp, World.ownsRow_nil _ _ _ _⟩
theorem dn_hit (f : Nat → Nat) (n K : Nat) (h : f K ≤ n) : dn f n K = K := by
  cases K with
  | zero => rfl
  | succ K => unfold dn; rw [if_pos h]
theorem dn_miss (f : Nat → Nat) (n K : Nat) (h : ¬ f (K + 1) ≤ n) : dn f n (K + 1) = dn f n K := by
  show (if f (K + 1) ≤ n then K + 1 else dn f n K) = _; rw [if_neg h]
theorem sfixed_codes (W : World) (b cap : Nat) (hb : b < W.heap.size) (hc : ∀ i, i < 288 → W.cell? ⟨b, 0 + i, none⟩ = some (.int .i64 (fl i))) : Calls Tryd.prog 88 #[.slice (some ⟨b, 0, none⟩) 288 cap] W fun e w' => e = .returned (.slice (some ⟨W.heap.size, 0, none⟩) 288 288) ∧ w' = W.alloc (.cells (cellsOf .i64 (codesL fixedL)) 3) := by
  have h := scodes_any W b 0 cap fixedL fixed_fit hb (fun i hi => by rw [fixedL_len] at hi; rw [fixedL_get i hi]; exact hc i hi)
  rw [fixedL_len] at h
  exact h

set_option maxRecDepth 100000 in
set_option maxHeartbeats 8000000 in
theorem sfix (W : World) (b cap : Nat) (zs : List Int) (J : Nat) (hJ : Ends zs J) (hl : zs.length ≤ 6000) (h8 : ∀ i, i < zs.length → 0 ≤ zs.getD i 0 ∧ zs.getD i 0 ≤ 255) (hb : b < W.heap.size) (hc : ∀ i, i < zs.length → W.cell? ⟨b, 0 + i, none⟩ = some (.int .u8 (zs.getD i 0))) :
    Calls Tryd.prog 52 #[.slice (some ⟨b, 0, none⟩) zs.length cap] W fun e w' => ∃ g c, e = .returned (.slice (some ⟨g, 0, none⟩) (outB zs J).length c) ∧ Gave W w' g (outB zs J) c := by
  have HC : Hid _ := hc
  have H8 : Hid _ := h8
  have HJ : Hid (Ends zs J) := hJ
  clear hc h8 hJ
  go_enter Tryd.func52, Tryd.ntmps52
  go_wp2_with fail
  refine Calls.mono (l2Fixed_any W) ?_
  rintro e w1 ⟨gl, cl, rfl, hgl⟩
  obtain ⟨b1, zl, o1⟩ := hgl
  rw [fixedL_len] at o1
  have hgl1 := (o1.lt gl rfl).2
  have CL1 : ∀ i, i < 288 → w1.cell? ⟨gl, 0 + i, none⟩ = some (.int .i64 (fl i)) := fun i hi => by
    rw [Nat.zero_add, o1.cellAt i (by omega)]
    have : i < fixedL.length := by rw [fixedL_len]; exact hi
    have e := fixedL_get i hi
    simp [ic, this] at e ⊢
    exact e
  have HCS : Hid _ := sfixed_codes w1 gl cl hgl1 CL1
  have HCL1 : Hid _ := CL1
  have HB1 : Hid (Below W.heap.size W w1) := b1
  clear o1 CL1 b1
  go_wp2_with fail
  refine Calls.mono HCS.out ?_
  rintro e w2' ⟨rfl, rfl⟩
  have hs1 : w1.heap.size < (w1.alloc (.cells (cellsOf .i64 (codesL fixedL)) 3)).heap.size := by simp
  have KB : Hid (Kp w1 (w1.alloc (.cells (cellsOf .i64 (codesL fixedL)) 3))) := (Kp.refl w1).alloc _ _
  have HBel : Hid (Below W.heap.size W (w1.alloc (.cells (cellsOf .i64 (codesL fixedL)) 3))) := HB1.out.trans (KB.out.1.mono HB1.out.size)
  have CC : Hid (∀ i, i < 288 → (w1.alloc (.cells (cellsOf .i64 (codesL fixedL)) 3)).cell? ⟨w1.heap.size, i, none⟩ = some (.int .i64 (fc i : Int))) := by
    intro i hi
    have h := row_cells3 w1 (codesL fixedL) 3 i (by rw [codesL_len, fixedL_len]; exact hi)
    rw [codesL_get fixedL i (by rw [fixedL_len]; exact hi), (fc_bd i hi).2, Nat.zero_add] at h
    exact h
  have CL : Hid (∀ i, i < 288 → (w1.alloc (.cells (cellsOf .i64 (codesL fixedL)) 3)).cell? ⟨gl, i, none⟩ = some (.int .i64 (fn i : Int))) := by
    intro i hi
    have h := (KB.out.cells.1 gl (0 + i) hgl1).trans (HCL1.out i hi)
    rw [(fn_bd i).2.2, Nat.zero_add] at h
    exact h
  have CD : Hid (∀ i, i < zs.length → (w1.alloc (.cells (cellsOf .i64 (codesL fixedL)) 3)).cell? ⟨b, 0 + i, none⟩ = some (.int .u8 (zs.getD i 0))) := fun i hi => (HBel.out.cell (p := ⟨b, 0 + i, none⟩) hb).trans (HC.out i hi)
  have hsW : W.heap.size ≤ w1.heap.size := HB1.out.size
  clear HC HCS HCL1 HB1 KB
  generalize w1.heap.size = B at *
  generalize w1.alloc (.cells (cellsOf .i64 (codesL fixedL)) 3) = w2 at *
  have HN3 : Hid (∀ a3 : Nat, a3 = 3 → Calls Tryd.prog 89 #[.pointer (some ⟨w2.heap.size, 0, none⟩), .int .i64 (a3 : Int), .int .i64 (a3 : Int)] (w2.alloc (.cells #[.slice none 0 0, .int .i64 0] 114)) fun e w' => e = .returned (.tuple #[]) ∧ SX w' w2.heap.size (acc zs 0) ∧ Below w2.heap.size (w2.alloc (.cells #[.slice none 0 0, .int .i64 0] 114)) w') := by
    intro a3 ha; subst ha; exact sx_num _ _ [] 3 3 (by omega) (by omega) (by simp) (by simp) (sb_new w2)
  go_wp2_with fail
  refine Calls.mono (HN3.out 3 rfl) ?_
  rintro e w3 ⟨rfl, h1, h2⟩
  have HS3 : Hid (SX w3 w2.heap.size (acc zs 0)) := h1
  have HB3 : Hid (Below w2.heap.size w2 w3) := ((Below.refl w2.heap.size w2).alloc (Nat.le_refl _) _).trans h2
  clear h1 h2 HN3
  go_wp2
  go_loopw [6] (fun i wr => ∃ j : Nat, j ≤ J ∧ i = .int .i64 (pos zs j : Int) ∧ SX wr w2.heap.size (acc zs j) ∧ Below w2.heap.size w2 wr) (fun i _ => zs.length - (intOf i).toNat)
  case atStart => exact ⟨0, Nat.zero_le _, rfl, HS3.out, HB3.out⟩
  case round =>
    clear HS3 HB3
    obtain ⟨j, hj, rfl, h1, h2⟩ := hrel
    have HS : Hid (SX wr w2.heap.size (acc zs j)) := h1
    have HB : Hid (Below w2.heap.size w2 wr) := h2
    clear h1 h2
    have hab := acc_bd zs J HJ.out j hj
    have HBi : Hid _ := acc_bits zs j
    by_cases hlt : j < J
    · have hp := HJ.out.2 j hlt
      have hd : decide ((pos zs j : Int) < (zs.length : Int)) = true := by simp; omega
      have HM : Hid (Calls Tryd.prog 90 #[.slice (some ⟨b, 0, none⟩) zs.length cap, .int .i64 (pos zs j : Int)] wr fun e w' => e = .returned (.tuple #[.int .i64 (mtA zs (pos zs j)), .int .i64 (mtB zs (pos zs j))]) ∧ ∃ q, w' = wr.drewN q) :=
        smatch_in wr b 0 cap zs (pos zs j) (fun i hi => (HB.out.cell (p := ⟨b, 0 + i, none⟩) (by show b < _; omega)).trans (CD.out i hi)) hl (by omega)
      have hsb := step_bd zs (pos zs j) hp
      have HN : Hid (pos zs (j + 1) = pos zs j + stepN zs (pos zs j)) := rfl
      have HA : Hid (acc zs (j + 1) = acc zs j ++ stepB zs (pos zs j)) := rfl
      by_cases hm : mtA zs (pos zs j) = 0
      · have HSB : Hid (stepB zs (pos zs j) = codeOf (fc (zs.getD (pos zs j) 0).toNat) (fn (zs.getD (pos zs j) 0).toNat)) := by show _ = _; unfold stepB; rw [if_pos hm]
        have HSN : Hid (stepN zs (pos zs j) = 1) := by show _ = _; unfold stepN; rw [if_pos hm]
        have h8 := H8.out (pos zs j) hp
        obtain ⟨d, hdd⟩ := Int.eq_ofNat_of_zero_le h8.1
        have c1 : ∀ W', Below w2.heap.size w2 W' → W'.cell? ⟨b, pos zs j, none⟩ = some (.int .u8 (d : Int)) := fun W' hW => by
          have h := (hW.cell (p := ⟨b, 0 + pos zs j, none⟩) (by show b < _; omega)).trans (CD.out (pos zs j) hp)
          rw [Nat.zero_add, hdd] at h; exact h
        rw [hdd] at HSB h8
        have hd256 : d < 256 := by omega
        rw [Int.toNat_natCast] at HSB
        have HP : Hid (∀ W', SX W' w2.heap.size (acc zs j) → Calls Tryd.prog 91 #[.pointer (some ⟨w2.heap.size, 0, none⟩), .int .i64 (fc d : Int), .int .i64 (fn d : Int)] W' fun e w' => e = .returned (.tuple #[]) ∧ SX w' w2.heap.size (acc zs (j + 1)) ∧ Below w2.heap.size W' w') := by
          intro W' h
          rw [HA.out, HSB.out]
          exact sx_code W' _ _ (fc d) (fn d) (by have := (fc_bd d (by omega)).1; omega) (by have := fn_bd d; omega) (by omega) HBi.out h
        have HN2 : Hid (pos zs (j + 1) = pos zs j + 1) := by show _ = _; rw [HN.out, HSN.out]
        have e1 : wr.cell? ⟨b, pos zs j, none⟩ = some (.int .u8 (d : Int)) := c1 wr HB.out
        have e2 : wr.cell? ⟨B, d, none⟩ = some (.int .i64 (fc d : Int)) := (HB.out.cell (p := ⟨B, d, none⟩) hs1).trans (CC.out d (by omega))
        have e3 : wr.cell? ⟨gl, d, none⟩ = some (.int .i64 (fn d : Int)) := (HB.out.cell (p := ⟨gl, d, none⟩) (by show gl < _; omega)).trans (CL.out d (by omega))
        have d288 : (d : Int) < 288 := by omega
        clear c1 HSB HSN HA HN h8 hdd
        generalize fc d = fcd at *
        generalize fn d = fnd at *
        rw [hm] at HM
        generalize mtB zs (pos zs j) = mb at *
        generalize hP : pos zs j = P at *
        have HPp : Hid _ := hP
        clear hP
        go_wp2_with fail
        refine Calls.mono HM.out ?_
        rintro e w4 ⟨rfl, q, rfl⟩
        go_wp2
        go_region_held3 (fun w' => w'.cell? ⟨b, P, none⟩ = some (.int .u8 (d : Int)) ∧ w'.cell? ⟨B, d, none⟩ = some (.int .i64 (fcd : Int)) ∧ w'.cell? ⟨gl, d, none⟩ = some (.int .i64 (fnd : Int)))
          (first | exact ⟨e1, e2, e3⟩ | exact ⟨(HB5.out.cell (p := ⟨b, P, none⟩) (by show b < _; omega)).trans e1, (HB5.out.cell (p := ⟨B, d, none⟩) hs1).trans e2, (HB5.out.cell (p := ⟨gl, d, none⟩) (by show gl < _; omega)).trans e3⟩)
          (first
            | (go_at_call 91; refine Calls.mono (HP.out _ ?_) ?_; exact HS.out; rintro e w5 ⟨rfl, hs5, hb5⟩; have HS5 : Hid (SX w5 w2.heap.size (acc zs (j + 1))) := hs5; have HB5 : Hid (Below w2.heap.size wr w5) := (below_dn _ wr _).trans hb5; clear hs5 hb5))
        go_wp2
        go_roundw
        case rel => exact ⟨j + 1, by omega, by rw [HN2.out]; go_num, HS5.out, HB.out.trans HB5.out⟩
        case measure => simp [intOf]; omega
      · have hmt := (mt_bd zs (pos zs j) (by omega)).resolve_left hm
        have HSB : Hid (acc zs (j + 1) = acc zs j ++ codeOf (fc (257 + lp (mtA zs (pos zs j)))) (fn (257 + lp (mtA zs (pos zs j)))) ++ bitsOf (mtA zs (pos zs j) - LB (lp (mtA zs (pos zs j)))) (LE (lp (mtA zs (pos zs j)))) ++ codeOf (dp (mtB zs (pos zs j))) 5 ++ bitsOf (mtB zs (pos zs j) - DB (dp (mtB zs (pos zs j)))) (DE (dp (mtB zs (pos zs j))))) := by show _ = _; rw [HA.out]; unfold stepB; rw [if_neg hm]; simp only [List.append_assoc]
        have HSN : Hid (stepN zs (pos zs j) = mtA zs (pos zs j)) := by show _ = _; unfold stepN; rw [if_neg hm]
        have HN2 : Hid (pos zs (j + 1) = pos zs j + mtA zs (pos zs j)) := by show _ = _; rw [HN.out, HSN.out]
        clear HSN HA HN hsb
        generalize mtA zs (pos zs j) = n at *
        generalize mtB zs (pos zs j) = far at *
        generalize pos zs j = P at *
        have hz : ((n : Int) == 0) = false := by rw [beq_eq_false_iff_ne]; omega
        have hlp : lp n < 29 := by have := dn_le LB n 28; unfold lp; omega
        have hlf : LB (lp n) ≤ n := dn_fit LB n 28 (by show 3 ≤ n; omega)
        have hlb := LB_bd (lp n) hlp
        have hdp : dp far < 30 := by have := dn_le DB far 29; unfold dp; omega
        have hdf : DB (dp far) ≤ far := dn_fit DB far 29 (by show 1 ≤ far; omega)
        have hdb := DB_bd (dp far) hdp
        have hfc := fc_bd (257 + lp n) (by omega)
        have hfn := fn_bd (257 + lp n)
        have i1 : ∀ x ∈ acc zs j ++ codeOf (fc (257 + lp n)) (fn (257 + lp n)), x ≤ 1 := by
          intro x hx; rcases List.mem_append.1 hx with h | h
          · exact HBi.out x h
          · exact codeOf_bits' _ _ x h
        have i2 : ∀ x ∈ acc zs j ++ codeOf (fc (257 + lp n)) (fn (257 + lp n)) ++ bitsOf (n - LB (lp n)) (LE (lp n)), x ≤ 1 := by
          intro x hx; rcases List.mem_append.1 hx with h | h
          · exact i1 x h
          · exact bitsOf_bits _ _ x h
        have i3 : ∀ x ∈ acc zs j ++ codeOf (fc (257 + lp n)) (fn (257 + lp n)) ++ bitsOf (n - LB (lp n)) (LE (lp n)) ++ codeOf (dp far) 5, x ≤ 1 := by
          intro x hx; rcases List.mem_append.1 hx with h | h
          · exact i2 x h
          · exact codeOf_bits' _ _ x h
        have l1 : (acc zs j ++ codeOf (fc (257 + lp n)) (fn (257 + lp n))).length ≤ 700000 := by rw [List.length_append, codeOf_len]; omega
        have l2 : (acc zs j ++ codeOf (fc (257 + lp n)) (fn (257 + lp n)) ++ bitsOf (n - LB (lp n)) (LE (lp n))).length ≤ 700010 := by rw [List.length_append, bitsOf_len]; omega
        have l3 : (acc zs j ++ codeOf (fc (257 + lp n)) (fn (257 + lp n)) ++ bitsOf (n - LB (lp n)) (LE (lp n)) ++ codeOf (dp far) 5).length ≤ 700020 := by rw [List.length_append, codeOf_len]; omega
        have HP1 : Hid (∀ W', SX W' w2.heap.size (acc zs j) → Calls Tryd.prog 91 #[.pointer (some ⟨w2.heap.size, 0, none⟩), .int .i64 (fc (257 + lp n) : Int), .int .i64 (fn (257 + lp n) : Int)] W' fun e w' => e = .returned (.tuple #[]) ∧ SX w' w2.heap.size (acc zs j ++ codeOf (fc (257 + lp n)) (fn (257 + lp n))) ∧ Below w2.heap.size W' w') :=
          fun W' h => sx_code W' _ _ _ _ (by omega) (by omega) (by omega) HBi.out h
        have HP2 : Hid (∀ W', SX W' w2.heap.size (acc zs j ++ codeOf (fc (257 + lp n)) (fn (257 + lp n))) → Calls Tryd.prog 89 #[.pointer (some ⟨w2.heap.size, 0, none⟩), .int .i64 ((n : Int) - (LB (lp n) : Int)), .int .i64 (LE (lp n) : Int)] W' fun e w' => e = .returned (.tuple #[]) ∧ SX w' w2.heap.size (acc zs j ++ codeOf (fc (257 + lp n)) (fn (257 + lp n)) ++ bitsOf (n - LB (lp n)) (LE (lp n))) ∧ Below w2.heap.size W' w') := by
          intro W' h
          rw [show ((n : Int) - (LB (lp n) : Int)) = ((n - LB (lp n) : Nat) : Int) by omega]
          exact sx_num W' _ _ _ _ (by omega) (by omega) (by omega) i1 h
        have HP3 : Hid (∀ (W' : World) (k5 : Nat), k5 = 5 → SX W' w2.heap.size (acc zs j ++ codeOf (fc (257 + lp n)) (fn (257 + lp n)) ++ bitsOf (n - LB (lp n)) (LE (lp n))) → Calls Tryd.prog 91 #[.pointer (some ⟨w2.heap.size, 0, none⟩), .int .i64 (dp far : Int), .int .i64 (k5 : Int)] W' fun e w' => e = .returned (.tuple #[]) ∧ SX w' w2.heap.size (acc zs j ++ codeOf (fc (257 + lp n)) (fn (257 + lp n)) ++ bitsOf (n - LB (lp n)) (LE (lp n)) ++ codeOf (dp far) 5) ∧ Below w2.heap.size W' w') :=
          fun W' k5 hk h => by subst hk; exact sx_code W' _ _ _ 5 (by omega) (by omega) (by omega) i2 h
        have HP4 : Hid (∀ W', SX W' w2.heap.size (acc zs j ++ codeOf (fc (257 + lp n)) (fn (257 + lp n)) ++ bitsOf (n - LB (lp n)) (LE (lp n)) ++ codeOf (dp far) 5) → Calls Tryd.prog 89 #[.pointer (some ⟨w2.heap.size, 0, none⟩), .int .i64 ((far : Int) - (DB (dp far) : Int)), .int .i64 (DE (dp far) : Int)] W' fun e w' => e = .returned (.tuple #[]) ∧ SX w' w2.heap.size (acc zs (j + 1)) ∧ Below w2.heap.size W' w') := by
          intro W' h
          rw [HSB.out, show ((far : Int) - (DB (dp far) : Int)) = ((far - DB (dp far) : Nat) : Int) by omega]
          exact sx_num W' _ _ _ _ (by omega) (by omega) (by omega) i3 h
        clear i1 i2 i3 l1 l2 l3 HSB
        generalize acc zs j ++ codeOf (fc (257 + lp n)) (fn (257 + lp n)) ++ bitsOf (n - LB (lp n)) (LE (lp n)) ++ codeOf (dp far) 5 = x3 at *
        generalize acc zs j ++ codeOf (fc (257 + lp n)) (fn (257 + lp n)) ++ bitsOf (n - LB (lp n)) (LE (lp n)) = x2 at *
        generalize acc zs j ++ codeOf (fc (257 + lp n)) (fn (257 + lp n)) = x1 at *
        have HCC : Hid (∀ W', Below w2.heap.size w2 W' → W'.cell? ⟨B, 257 + lp n, none⟩ = some (.int .i64 (fc (257 + lp n) : Int)) ∧ W'.cell? ⟨gl, 257 + lp n, none⟩ = some (.int .i64 (fn (257 + lp n) : Int))) := fun W' h => ⟨(h.cell (p := ⟨B, 257 + lp n, none⟩) hs1).trans (CC.out _ (by omega)), (h.cell (p := ⟨gl, 257 + lp n, none⟩) (by show gl < _; omega)).trans (CL.out _ (by omega))⟩
        have HBA : Hid (∀ (K : Nat) (W' : World), K ≤ 28 → Calls Tryd.prog 92 #[.int .i64 (K : Int)] W' fun e w' => e = .returned (.tuple #[.int .i64 (LB K : Int), .int .i64 (LE K : Int)]) ∧ w' = W') := fun K W' h => base_any K W' h
        have HBK : Hid (∀ (K : Nat) (W' : World), K ≤ 29 → Calls Tryd.prog 93 #[.int .i64 (K : Int)] W' fun e w' => e = .returned (.tuple #[.int .i64 (DB K : Int), .int .i64 (DE K : Int)]) ∧ w' = W') := fun K W' h => back_any K W' h
        go_wp2_with fail
        refine Calls.mono HM.out ?_
        rintro e w4 ⟨rfl, q, rfl⟩
        go_wp2_with fail
        refine Calls.mono (HBA.out 28 _ (by omega)) ?_
        rintro e w4 ⟨rfl, rfl⟩
        go_wp2
        go_loopw [9, 10] (fun k bs wx => ∃ K : Nat, K ≤ 28 ∧ k = .int .i64 (K : Int) ∧ bs = .int .i64 (LB K : Int) ∧ dn LB n K = lp n ∧ wx = wr.drewN q) (fun k _ _ => (intOf k).toNat)
        case atStart => exact ⟨28, Nat.le_refl _, rfl, rfl, rfl, rfl⟩
        case round =>
          obtain ⟨K, hK, rfl, rfl, hdn, rfl⟩ := hrel
          have HDN : Hid (dn LB n K = lp n) := hdn
          clear hdn
          have hKb := LB_bd K (by omega)
          by_cases hbig : LB K ≤ n
          · have hKl : lp n = K := by rw [← HDN.out, dn_hit LB n K hbig]
            subst hKl
            have hd2 : decide ((n : Int) < (LB (lp n) : Int)) = false := by simp; omega
            have hd3 : decide (n < LB (lp n)) = false := by simp; omega
            have HBl : Hid _ := HBA.out (lp n) (wr.drewN q) (by omega)
            have HBC : Hid _ := HBA
            clear HDN hKb hfc hfn HBA
            generalize fc (257 + lp n) = fcd at *
            generalize fn (257 + lp n) = fnd at *
            generalize LB (lp n) = LBk at *
            generalize LE (lp n) = LEk at *
            generalize lp n = k at *
            have hw1 := IntWalk.i64_in ((257 : Int) + (k : Int)) (by omega)
            have hi1 : (257 : Int) + (k : Int) = ((257 + k : Nat) : Int) := by omega
            have hi2 : 257 + k < 288 := by omega
            have hw2 := IntWalk.i64_in ((n : Int) - (LBk : Int)) (by omega)
            have hw4 := IntWalk.i64_in ((far : Int) - (DB (dp far) : Int)) (by omega)
            generalize 257 + k = K2 at *
            obtain ⟨e2, e3⟩ := HCC.out wr HB.out
            have hw3 := IntWalk.i64_in (K2 : Int) (by omega)
            have hi3 : (K2 : Int) < 288 := by omega
            go_wp2_with fail
            refine Calls.mono HBl.out ?_
            rintro e w4 ⟨rfl, rfl⟩
            go_wp2
            go_region_held3 (fun w' => w'.cell? ⟨B, K2, none⟩ = some (.int .i64 (fcd : Int)) ∧ w'.cell? ⟨gl, K2, none⟩ = some (.int .i64 (fnd : Int)))
              (first | exact ⟨e2, e3⟩ | exact HCC.out _ HB5.out)
              (first
                | (go_at_call 91; refine Calls.mono (HP1.out _ ?_) ?_; exact HS.out; rintro e w5 ⟨rfl, hs5, hb5⟩; have HS5 : Hid (SX w5 w2.heap.size x1) := hs5; have HB5 : Hid (Below w2.heap.size w2 w5) := (HB.out.trans (below_dn _ wr _)).trans hb5; clear hs5 hb5))
            go_wp2_with fail
            refine Calls.mono (HP2.out _ HS5.out) ?_
            rintro e w6 ⟨rfl, hs6, hb6⟩
            have HS6 : Hid (SX w6 w2.heap.size x2) := hs6
            have HB6 : Hid (Below w2.heap.size w2 w6) := HB5.out.trans hb6
            clear hs6 hb6 HS5 HB5
            go_wp2_with fail
            refine Calls.mono (HBK.out 29 _ (by omega)) ?_
            rintro e w6 ⟨rfl, rfl⟩
            go_wp2
            go_loopw [9, 14] (fun k bs wx => ∃ K : Nat, K ≤ 29 ∧ k = .int .i64 (K : Int) ∧ bs = .int .i64 (DB K : Int) ∧ dn DB far K = dp far ∧ wx = w6) (fun k _ _ => (intOf k).toNat)
            case atStart => exact ⟨29, Nat.le_refl _, rfl, rfl, rfl, rfl⟩
            case round =>
              obtain ⟨K, hK, rfl, rfl, hdn, rfl⟩ := hrel
              have HDN : Hid (dn DB far K = dp far) := hdn
              clear hdn
              have hKb := DB_bd K (by omega)
              by_cases hbig : DB K ≤ far
              · have hKl : dp far = K := by rw [← HDN.out, dn_hit DB far K hbig]
                subst hKl
                have hd4 : decide ((far : Int) < (DB (dp far) : Int)) = false := by simp; omega
                have hd5 : decide (far < DB (dp far)) = false := by simp; omega
                have HBl2 : Hid (∀ W' : World, Calls Tryd.prog 93 #[.int .i64 (dp far : Int)] W' fun e w' => e = .returned (.tuple #[.int .i64 (DB (dp far) : Int), .int .i64 (DE (dp far) : Int)]) ∧ w' = W') := fun W' => HBK.out (dp far) W' (by omega)
                clear HDN hKb HBK
                generalize DB (dp far) = DBk at *
                generalize DE (dp far) = DEk at *
                generalize dp far = k3 at *
                go_wp2_with fail
                refine Calls.mono (HBl2.out _) ?_
                rintro e w6 ⟨rfl, rfl⟩
                go_wp2_with fail
                refine Calls.mono (HP3.out _ 5 rfl HS6.out) ?_
                rintro e w7 ⟨rfl, hs7, hb7⟩
                have HS7 : Hid (SX w7 w2.heap.size x3) := hs7
                have HB7 : Hid (Below w2.heap.size w2 w7) := HB6.out.trans hb7
                clear hs7 hb7
                go_wp2_with fail
                refine Calls.mono (HP4.out _ HS7.out) ?_
                rintro e w8 ⟨rfl, hs8, hb8⟩
                have HS8 : Hid (SX w8 w2.heap.size (acc zs (j + 1))) := hs8
                have HB8 : Hid (Below w2.heap.size w2 w8) := HB7.out.trans hb8
                clear hs8 hb8
                go_wp2
                go_roundw
                case rel => exact ⟨j + 1, by omega, by rw [HN2.out]; go_num, HS8.out, HB8.out⟩
                case measure => simp [intOf]; omega
              · have hd2 : decide ((far : Int) < (DB K : Int)) = true := by simp; omega
                have hd3 : decide (far < DB K) = true := by simp; omega
                have hK0 : K ≠ 0 := by
                  intro e; subst e
                  exact hbig (by show 1 ≤ far; omega)
                obtain ⟨K', rfl⟩ : ∃ K', K = K' + 1 := ⟨K - 1, by omega⟩
                have HD2 : Hid (dn DB far K' = dp far) := by show _ = _; rw [← HDN.out, dn_miss DB far K' hbig]
                have hsub : ((K' + 1 : Nat) : Int) - 1 = (K' : Int) := by omega
                generalize DB (K' + 1) = v at *
                go_wp2_with fail
                refine Calls.mono (HBK.out K' _ (by omega)) ?_
                rintro e w6 ⟨rfl, rfl⟩
                go_wp2
                go_roundw
                case rel => exact ⟨K', by omega, rfl, rfl, HD2.out, by first | rfl | trivial⟩
                case measure => simp [intOf]
          · have hd2 : decide ((n : Int) < (LB K : Int)) = true := by simp; omega
            have hd3 : decide (n < LB K) = true := by simp; omega
            have hK0 : K ≠ 0 := by
              intro e; subst e
              exact hbig (by show 3 ≤ n; omega)
            obtain ⟨K', rfl⟩ : ∃ K', K = K' + 1 := ⟨K - 1, by omega⟩
            have HD2 : Hid (dn LB n K' = lp n) := by show _ = _; rw [← HDN.out, dn_miss LB n K' hbig]
            have hsub : ((K' + 1 : Nat) : Int) - 1 = (K' : Int) := by omega
            generalize LB (K' + 1) = v at *
            go_wp2_with fail
            refine Calls.mono (HBA.out K' _ (by omega)) ?_
            rintro e w4 ⟨rfl, rfl⟩
            go_wp2
            go_roundw
            case rel => exact ⟨K', by omega, rfl, rfl, HD2.out, by first | rfl | trivial⟩
            case measure => simp [intOf]
    · have e : j = J := by omega
      subst e
      have hend := HJ.out.1
      have hd : decide ((pos zs j : Int) < (zs.length : Int)) = false := by simp; omega
      have hd' : decide (pos zs j < zs.length) = false := by simp; omega
      have HP : Hid (∀ (k0 k7 : Nat), k0 = 0 → k7 = 7 → Calls Tryd.prog 91 #[.pointer (some ⟨w2.heap.size, 0, none⟩), .int .i64 (k0 : Int), .int .i64 (k7 : Int)] wr fun e w' => e = .returned (.tuple #[]) ∧ SB w' w2.heap.size (outB zs j) (acc zs j ++ codeOf 0 7).length ∧ Below w2.heap.size wr w') := by
        intro k0 k7 h0 h7; subst h0; subst h7
        exact sx_code wr _ _ 0 7 (by omega) (by omega) (by omega) HBi.out HS.out
      have HLn : Hid (0 < (outB zs j).length) := outB_pos zs j
      clear hend
      generalize (acc zs j ++ codeOf 0 7).length = u at *
      go_wp2_with fail
      refine Calls.mono (HP.out 0 7 rfl rfl) ?_
      rintro e w5 ⟨rfl, hs5, hb5⟩
      have HB5 : Hid (Below w2.heap.size wr w5) := hb5
      obtain ⟨v, q0, q1, qf, qs, qown⟩ := hs5
      rcases qown.2 with ⟨_, h⟩ | ⟨g, cap', cur, rfl, hg1, hg2, hg3, hg4, hg5, hg6⟩
      · exact absurd HLn.out (by omega)
      have HG : Hid (Gave W w5 g (outB zs j) cap') := ⟨HBel.out.trans ((HB.out.trans HB5.out).mono (by omega)), by omega, qown.1, Or.inr ⟨g, cap', cur, rfl, by omega, hg2, hg3, hg4, hg5, hg6⟩⟩
      clear qown hg2 hg5 hg6 q1 qf hb5
      go_wp2
      go_ret
      exact ⟨_, _, rfl, HG.out⟩
end Go.Proofs.YteehoihkbcbbgaaDoor
