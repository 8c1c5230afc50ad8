/-
  What the specification's l2PackFixed answers: the bytes of the block; its conditions stand in the theorem.
  What PackBest answers, of the program and of the specification; each theorem names its conditions.
  What the program's packRows and EncodePng answer; each theorem names its conditions.
  The first chunk of a file, read by the program; each theorem names its conditions.
-/
import Derived.Test.YtaeicgfebeliiaaGreatDoorJAO
import Derived.Test.YtaeicgfebeliiaaGreatDoorJAN
import Derived.Test.YtaeicgfebeliiaaGreatDoorJAL
import Derived.Lib.SlBytesRow
import Derived.BigQuiet
namespace Go.Proofs.YtaeicgfebeliiaaGreatDoor
open Go.ChangeShapes Go.WideShapes Go.ChangeAt Go.RowKit
set_option linter.unusedVariables false

/-- The bits xs have been laid down. -/
def SX (w : World) (S : Nat) (xs : List Nat) : Prop := SB w S (puts ([], 0) xs).1 xs.length
theorem sx_eq (xs : List Nat) : puts ([], 0) xs = ((puts ([], 0) xs).1, xs.length % 8) := by
  have h := puts_u [] 0 xs
  rw [Nat.zero_add] at h
  rw [← h]
theorem sx_code (W : World) (S : Nat) (xs : List Nat) (n k : Nat) (hn : n < 65536) (hk : k ≤ 16) (hl : xs.length ≤ 800000) (hx : ∀ x ∈ xs, x ≤ 1) (hs : SX W S xs) :
    Calls Tryz.prog 103 #[.pointer (some ⟨S, 0, none⟩), .int .i64 n, .int .i64 k] W fun e w' => e = .returned (.tuple #[]) ∧ SX w' S (xs ++ codeOf n k) ∧ Below S W w' := by
  have hp := puts_len ([], 0) xs
  have h := code_any W S (puts ([], 0) xs).1 xs.length n k hn hk (by omega) (by simp at hp; omega) (by rw [← sx_eq]; exact fine_puts _ _ fine0 hx) hs
  rw [← sx_eq, ← puts_append] at h
  unfold SX
  rw [List.length_append, codeOf_len]
  exact h
theorem sx_num (W : World) (S : Nat) (xs : List Nat) (n k : Nat) (hn : n < 65536) (hk : k ≤ 16) (hl : xs.length ≤ 800000) (hx : ∀ x ∈ xs, x ≤ 1) (hs : SX W S xs) :
    Calls Tryz.prog 101 #[.pointer (some ⟨S, 0, none⟩), .int .i64 n, .int .i64 k] W fun e w' => e = .returned (.tuple #[]) ∧ SX w' S (xs ++ bitsOf n k) ∧ Below S W w' := by
  have hp := puts_len ([], 0) xs
  have h := number_any W S (puts ([], 0) xs).1 xs.length n k hn hk (by omega) (by simp at hp; omega) (by rw [← sx_eq]; exact fine_puts _ _ fine0 hx) hs
  rw [← sx_eq, ← puts_append] at h
  unfold SX
  rw [List.length_append, bitsOf_len]
  exact h
theorem sb_new (W : World) : SX (W.alloc (.cells #[.slice none 0 0, .int .i64 0] 123)) W.heap.size [] := by
  refine ⟨.slice none 0 0, by simp, by simp, fun o => World.frozen?_alloc_at _ _ _ _ rfl, by simp, World.ownsRow_nil _ _ _ _⟩
theorem dn_hit (f : Nat → Nat) (n K : Nat) (h : f K ≤ n) : dn f n K = K := by
  cases K with
  | zero => rfl
  | succ K => unfold dn; rw [if_pos h]
theorem dn_miss (f : Nat → Nat) (n K : Nat) (h : ¬ f (K + 1) ≤ n) : dn f n (K + 1) = dn f n K := by
  show (if f (K + 1) ≤ n then K + 1 else dn f n K) = _; rw [if_neg h]
theorem sfixed_codes (W : World) (b cap : Nat) (hb : b < W.heap.size) (hc : ∀ i, i < 288 → W.cell? ⟨b, 0 + i, none⟩ = some (.int .i64 (fl i))) : Calls Tryz.prog 100 #[.slice (some ⟨b, 0, none⟩) 288 cap] W fun e w' => e = .returned (.slice (some ⟨W.heap.size, 0, none⟩) 288 288) ∧ w' = W.alloc (.cells (cellsOf .i64 (codesL fixedL)) 3) := by
  have h := scodes_any W b 0 cap fixedL fixed_fit hb (fun i hi => by rw [fixedL_len] at hi; rw [fixedL_get i hi]; exact hc i hi)
  rw [fixedL_len] at h
  exact h

set_option maxRecDepth 100000 in
set_option maxHeartbeats 8000000 in
theorem sfixA (W : World) (a : Option Addr) (b cap : Nat) (zs : List Int) (J : Nat) (hJ : Ends zs J) (hl : zs.length ≤ 6000) (h8 : ∀ i, i < zs.length → 0 ≤ zs.getD i 0 ∧ zs.getD i 0 ≤ 255) (hb : b < W.heap.size) (hc : ∀ i, i < zs.length → W.cell? ⟨b, 0 + i, none⟩ = some (.int .u8 (zs.getD i 0))) (hnil : zs = [] ∨ a = some ⟨b, 0, none⟩) :
    Calls Tryz.prog 85 #[.slice a zs.length cap] W fun e w' => ∃ g c, e = .returned (.slice (some ⟨g, 0, none⟩) (outB zs J).length c) ∧ Gave W w' g (outB zs J) c := by
  have HC : Hid _ := hc
  have H8 : Hid _ := h8
  have HJ : Hid (Ends zs J) := hJ
  have HNil : Hid (zs = [] ∨ a = some ⟨b, 0, none⟩) := hnil
  clear hc h8 hJ hnil
  go_enter Tryz.func85, Tryz.ntmps85
  go_wp2_with fail
  refine Calls.mono (l2Fixed_any W) ?_
  rintro e w1 ⟨gl, cl, rfl, hgl⟩
  obtain ⟨b1, zl, o1⟩ := hgl
  rw [fixedL_len] at o1
  have hgl1 := (o1.lt gl rfl).2
  have CL1 : ∀ i, i < 288 → w1.cell? ⟨gl, 0 + i, none⟩ = some (.int .i64 (fl i)) := fun i hi => by
    rw [Nat.zero_add, o1.cellAt i (by omega)]
    have : i < fixedL.length := by rw [fixedL_len]; exact hi
    have e := fixedL_get i hi
    simp [ic, this] at e ⊢
    exact e
  have HCS : Hid _ := sfixed_codes w1 gl cl hgl1 CL1
  have HCL1 : Hid _ := CL1
  have HB1 : Hid (Below W.heap.size W w1) := b1
  clear o1 CL1 b1
  go_wp2_with fail
  refine Calls.mono HCS.out ?_
  rintro e w2' ⟨rfl, rfl⟩
  have hs1 : w1.heap.size < (w1.alloc (.cells (cellsOf .i64 (codesL fixedL)) 3)).heap.size := by simp
  have KB : Hid (Kp w1 (w1.alloc (.cells (cellsOf .i64 (codesL fixedL)) 3))) := (Kp.refl w1).alloc _ _
  have HBel : Hid (Below W.heap.size W (w1.alloc (.cells (cellsOf .i64 (codesL fixedL)) 3))) := HB1.out.trans (KB.out.1.mono HB1.out.size)
  have CC : Hid (∀ i, i < 288 → (w1.alloc (.cells (cellsOf .i64 (codesL fixedL)) 3)).cell? ⟨w1.heap.size, i, none⟩ = some (.int .i64 (fc i : Int))) := by
    intro i hi
    have h := row_cells3 w1 (codesL fixedL) 3 i (by rw [codesL_len, fixedL_len]; exact hi)
    rw [codesL_get fixedL i (by rw [fixedL_len]; exact hi), (fc_bd i hi).2, Nat.zero_add] at h
    exact h
  have CL : Hid (∀ i, i < 288 → (w1.alloc (.cells (cellsOf .i64 (codesL fixedL)) 3)).cell? ⟨gl, i, none⟩ = some (.int .i64 (fn i : Int))) := by
    intro i hi
    have h := (KB.out.cells.1 gl (0 + i) hgl1).trans (HCL1.out i hi)
    rw [(fn_bd i).2.2, Nat.zero_add] at h
    exact h
  have CD : Hid (∀ i, i < zs.length → (w1.alloc (.cells (cellsOf .i64 (codesL fixedL)) 3)).cell? ⟨b, 0 + i, none⟩ = some (.int .u8 (zs.getD i 0))) := fun i hi => (HBel.out.cell (p := ⟨b, 0 + i, none⟩) hb).trans (HC.out i hi)
  have hsW : W.heap.size ≤ w1.heap.size := HB1.out.size
  clear HC HCS HCL1 HB1 KB
  generalize w1.heap.size = B at *
  generalize w1.alloc (.cells (cellsOf .i64 (codesL fixedL)) 3) = w2 at *
  have HN3 : Hid (∀ a3 : Nat, a3 = 3 → Calls Tryz.prog 101 #[.pointer (some ⟨w2.heap.size, 0, none⟩), .int .i64 (a3 : Int), .int .i64 (a3 : Int)] (w2.alloc (.cells #[.slice none 0 0, .int .i64 0] 123)) fun e w' => e = .returned (.tuple #[]) ∧ SX w' w2.heap.size (acc zs 0) ∧ Below w2.heap.size (w2.alloc (.cells #[.slice none 0 0, .int .i64 0] 123)) w') := by
    intro a3 ha; subst ha; exact sx_num _ _ [] 3 3 (by omega) (by omega) (by simp) (by simp) (sb_new w2)
  go_wp2_with fail
  refine Calls.mono (HN3.out 3 rfl) ?_
  rintro e w3 ⟨rfl, h1, h2⟩
  have HS3 : Hid (SX w3 w2.heap.size (acc zs 0)) := h1
  have HB3 : Hid (Below w2.heap.size w2 w3) := ((Below.refl w2.heap.size w2).alloc (Nat.le_refl _) _).trans h2
  clear h1 h2 HN3
  go_wp2
  go_loopw [6] (fun i wr => ∃ j : Nat, j ≤ J ∧ i = .int .i64 (pos zs j : Int) ∧ SX wr w2.heap.size (acc zs j) ∧ Below w2.heap.size w2 wr) (fun i _ => zs.length - (intOf i).toNat)
  case atStart => exact ⟨0, Nat.zero_le _, rfl, HS3.out, HB3.out⟩
  case round =>
    clear HS3 HB3
    obtain ⟨j, hj, rfl, h1, h2⟩ := hrel
    have HS : Hid (SX wr w2.heap.size (acc zs j)) := h1
    have HB : Hid (Below w2.heap.size w2 wr) := h2
    clear h1 h2
    have hab := acc_bd zs J HJ.out j hj
    have HBi : Hid _ := acc_bits zs j
    by_cases hlt : j < J
    · have hp := HJ.out.2 j hlt
      obtain rfl : a = some ⟨b, 0, none⟩ := HNil.out.resolve_left (fun e => by rw [e] at hp; exact absurd hp (Nat.not_lt_zero _))
      have hd : decide ((pos zs j : Int) < (zs.length : Int)) = true := by simp; omega
      have HM : Hid (Calls Tryz.prog 102 #[.slice (some ⟨b, 0, none⟩) zs.length cap, .int .i64 (pos zs j : Int)] wr fun e w' => e = .returned (.tuple #[.int .i64 (mtA zs (pos zs j)), .int .i64 (mtB zs (pos zs j))]) ∧ ∃ q, w' = wr.drewN q) :=
        smatch_in wr b 0 cap zs (pos zs j) (fun i hi => (HB.out.cell (p := ⟨b, 0 + i, none⟩) (by show b < _; omega)).trans (CD.out i hi)) hl (by omega)
      have hsb := step_bd zs (pos zs j) hp
      have HN : Hid (pos zs (j + 1) = pos zs j + stepN zs (pos zs j)) := rfl
      have HA : Hid (acc zs (j + 1) = acc zs j ++ stepB zs (pos zs j)) := rfl
      by_cases hm : mtA zs (pos zs j) = 0
      · have HSB : Hid (stepB zs (pos zs j) = codeOf (fc (zs.getD (pos zs j) 0).toNat) (fn (zs.getD (pos zs j) 0).toNat)) := by show _ = _; unfold stepB; rw [if_pos hm]
        have HSN : Hid (stepN zs (pos zs j) = 1) := by show _ = _; unfold stepN; rw [if_pos hm]
        have h8 := H8.out (pos zs j) hp
        obtain ⟨d, hdd⟩ := Int.eq_ofNat_of_zero_le h8.1
        have c1 : ∀ W', Below w2.heap.size w2 W' → W'.cell? ⟨b, pos zs j, none⟩ = some (.int .u8 (d : Int)) := fun W' hW => by
          have h := (hW.cell (p := ⟨b, 0 + pos zs j, none⟩) (by show b < _; omega)).trans (CD.out (pos zs j) hp)
          rw [Nat.zero_add, hdd] at h; exact h
        rw [hdd] at HSB h8
        have hd256 : d < 256 := by omega
        rw [Int.toNat_natCast] at HSB
        have HP : Hid (∀ W', SX W' w2.heap.size (acc zs j) → Calls Tryz.prog 103 #[.pointer (some ⟨w2.heap.size, 0, none⟩), .int .i64 (fc d : Int), .int .i64 (fn d : Int)] W' fun e w' => e = .returned (.tuple #[]) ∧ SX w' w2.heap.size (acc zs (j + 1)) ∧ Below w2.heap.size W' w') := by
          intro W' h
          rw [HA.out, HSB.out]
          exact sx_code W' _ _ (fc d) (fn d) (by have := (fc_bd d (by omega)).1; omega) (by have := fn_bd d; omega) (by omega) HBi.out h
        have HN2 : Hid (pos zs (j + 1) = pos zs j + 1) := by show _ = _; rw [HN.out, HSN.out]
        have e1 : wr.cell? ⟨b, pos zs j, none⟩ = some (.int .u8 (d : Int)) := c1 wr HB.out
        have e2 : wr.cell? ⟨B, d, none⟩ = some (.int .i64 (fc d : Int)) := (HB.out.cell (p := ⟨B, d, none⟩) hs1).trans (CC.out d (by omega))
        have e3 : wr.cell? ⟨gl, d, none⟩ = some (.int .i64 (fn d : Int)) := (HB.out.cell (p := ⟨gl, d, none⟩) (by show gl < _; omega)).trans (CL.out d (by omega))
        have d288 : (d : Int) < 288 := by omega
        clear c1 HSB HSN HA HN h8 hdd
        generalize fc d = fcd at *
        generalize fn d = fnd at *
        rw [hm] at HM
        generalize mtB zs (pos zs j) = mb at *
        generalize hP : pos zs j = P at *
        have HPp : Hid _ := hP
        clear hP
        go_wp2_with fail
        refine Calls.mono HM.out ?_
        rintro e w4 ⟨rfl, q, rfl⟩
        go_wp2
        go_region_held3 (fun w' => w'.cell? ⟨b, P, none⟩ = some (.int .u8 (d : Int)) ∧ w'.cell? ⟨B, d, none⟩ = some (.int .i64 (fcd : Int)) ∧ w'.cell? ⟨gl, d, none⟩ = some (.int .i64 (fnd : Int)))
          (first | exact ⟨e1, e2, e3⟩ | exact ⟨(HB5.out.cell (p := ⟨b, P, none⟩) (by show b < _; omega)).trans e1, (HB5.out.cell (p := ⟨B, d, none⟩) hs1).trans e2, (HB5.out.cell (p := ⟨gl, d, none⟩) (by show gl < _; omega)).trans e3⟩)
          (first
            | (go_at_call 103; refine Calls.mono (HP.out _ ?_) ?_; exact HS.out; rintro e w5 ⟨rfl, hs5, hb5⟩; have HS5 : Hid (SX w5 w2.heap.size (acc zs (j + 1))) := hs5; have HB5 : Hid (Below w2.heap.size wr w5) := (below_dn _ wr _).trans hb5; clear hs5 hb5))
        go_wp2
        go_roundw
        case rel => exact ⟨j + 1, by omega, by rw [HN2.out]; go_num, HS5.out, HB.out.trans HB5.out⟩
        case measure => simp [intOf]; omega
      · have hmt := (mt_bd zs (pos zs j) (by omega)).resolve_left hm
        have HSB : Hid (acc zs (j + 1) = acc zs j ++ codeOf (fc (257 + lp (mtA zs (pos zs j)))) (fn (257 + lp (mtA zs (pos zs j)))) ++ bitsOf (mtA zs (pos zs j) - LB (lp (mtA zs (pos zs j)))) (LE (lp (mtA zs (pos zs j)))) ++ codeOf (dp (mtB zs (pos zs j))) 5 ++ bitsOf (mtB zs (pos zs j) - DB (dp (mtB zs (pos zs j)))) (DE (dp (mtB zs (pos zs j))))) := by show _ = _; rw [HA.out]; unfold stepB; rw [if_neg hm]; simp only [List.append_assoc]
        have HSN : Hid (stepN zs (pos zs j) = mtA zs (pos zs j)) := by show _ = _; unfold stepN; rw [if_neg hm]
        have HN2 : Hid (pos zs (j + 1) = pos zs j + mtA zs (pos zs j)) := by show _ = _; rw [HN.out, HSN.out]
        clear HSN HA HN hsb
        generalize mtA zs (pos zs j) = n at *
        generalize mtB zs (pos zs j) = far at *
        generalize pos zs j = P at *
        have hz : ((n : Int) == 0) = false := by rw [beq_eq_false_iff_ne]; omega
        have hlp : lp n < 29 := by have := dn_le LB n 28; unfold lp; omega
        have hlf : LB (lp n) ≤ n := dn_fit LB n 28 (by show 3 ≤ n; omega)
        have hlb := LB_bd (lp n) hlp
        have hdp : dp far < 30 := by have := dn_le DB far 29; unfold dp; omega
        have hdf : DB (dp far) ≤ far := dn_fit DB far 29 (by show 1 ≤ far; omega)
        have hdb := DB_bd (dp far) hdp
        have hfc := fc_bd (257 + lp n) (by omega)
        have hfn := fn_bd (257 + lp n)
        have i1 : ∀ x ∈ acc zs j ++ codeOf (fc (257 + lp n)) (fn (257 + lp n)), x ≤ 1 := by
          intro x hx; rcases List.mem_append.1 hx with h | h
          · exact HBi.out x h
          · exact codeOf_bits' _ _ x h
        have i2 : ∀ x ∈ acc zs j ++ codeOf (fc (257 + lp n)) (fn (257 + lp n)) ++ bitsOf (n - LB (lp n)) (LE (lp n)), x ≤ 1 := by
          intro x hx; rcases List.mem_append.1 hx with h | h
          · exact i1 x h
          · exact bitsOf_bits _ _ x h
        have i3 : ∀ x ∈ acc zs j ++ codeOf (fc (257 + lp n)) (fn (257 + lp n)) ++ bitsOf (n - LB (lp n)) (LE (lp n)) ++ codeOf (dp far) 5, x ≤ 1 := by
          intro x hx; rcases List.mem_append.1 hx with h | h
          · exact i2 x h
          · exact codeOf_bits' _ _ x h
        have l1 : (acc zs j ++ codeOf (fc (257 + lp n)) (fn (257 + lp n))).length ≤ 700000 := by rw [List.length_append, codeOf_len]; omega
        have l2 : (acc zs j ++ codeOf (fc (257 + lp n)) (fn (257 + lp n)) ++ bitsOf (n - LB (lp n)) (LE (lp n))).length ≤ 700010 := by rw [List.length_append, bitsOf_len]; omega
        have l3 : (acc zs j ++ codeOf (fc (257 + lp n)) (fn (257 + lp n)) ++ bitsOf (n - LB (lp n)) (LE (lp n)) ++ codeOf (dp far) 5).length ≤ 700020 := by rw [List.length_append, codeOf_len]; omega
        have HP1 : Hid (∀ W', SX W' w2.heap.size (acc zs j) → Calls Tryz.prog 103 #[.pointer (some ⟨w2.heap.size, 0, none⟩), .int .i64 (fc (257 + lp n) : Int), .int .i64 (fn (257 + lp n) : Int)] W' fun e w' => e = .returned (.tuple #[]) ∧ SX w' w2.heap.size (acc zs j ++ codeOf (fc (257 + lp n)) (fn (257 + lp n))) ∧ Below w2.heap.size W' w') :=
          fun W' h => sx_code W' _ _ _ _ (by omega) (by omega) (by omega) HBi.out h
        have HP2 : Hid (∀ W', SX W' w2.heap.size (acc zs j ++ codeOf (fc (257 + lp n)) (fn (257 + lp n))) → Calls Tryz.prog 101 #[.pointer (some ⟨w2.heap.size, 0, none⟩), .int .i64 ((n : Int) - (LB (lp n) : Int)), .int .i64 (LE (lp n) : Int)] W' fun e w' => e = .returned (.tuple #[]) ∧ SX w' w2.heap.size (acc zs j ++ codeOf (fc (257 + lp n)) (fn (257 + lp n)) ++ bitsOf (n - LB (lp n)) (LE (lp n))) ∧ Below w2.heap.size W' w') := by
          intro W' h
          rw [show ((n : Int) - (LB (lp n) : Int)) = ((n - LB (lp n) : Nat) : Int) by omega]
          exact sx_num W' _ _ _ _ (by omega) (by omega) (by omega) i1 h
        have HP3 : Hid (∀ (W' : World) (k5 : Nat), k5 = 5 → SX W' w2.heap.size (acc zs j ++ codeOf (fc (257 + lp n)) (fn (257 + lp n)) ++ bitsOf (n - LB (lp n)) (LE (lp n))) → Calls Tryz.prog 103 #[.pointer (some ⟨w2.heap.size, 0, none⟩), .int .i64 (dp far : Int), .int .i64 (k5 : Int)] W' fun e w' => e = .returned (.tuple #[]) ∧ SX w' w2.heap.size (acc zs j ++ codeOf (fc (257 + lp n)) (fn (257 + lp n)) ++ bitsOf (n - LB (lp n)) (LE (lp n)) ++ codeOf (dp far) 5) ∧ Below w2.heap.size W' w') :=
          fun W' k5 hk h => by subst hk; exact sx_code W' _ _ _ 5 (by omega) (by omega) (by omega) i2 h
        have HP4 : Hid (∀ W', SX W' w2.heap.size (acc zs j ++ codeOf (fc (257 + lp n)) (fn (257 + lp n)) ++ bitsOf (n - LB (lp n)) (LE (lp n)) ++ codeOf (dp far) 5) → Calls Tryz.prog 101 #[.pointer (some ⟨w2.heap.size, 0, none⟩), .int .i64 ((far : Int) - (DB (dp far) : Int)), .int .i64 (DE (dp far) : Int)] W' fun e w' => e = .returned (.tuple #[]) ∧ SX w' w2.heap.size (acc zs (j + 1)) ∧ Below w2.heap.size W' w') := by
          intro W' h
          rw [HSB.out, show ((far : Int) - (DB (dp far) : Int)) = ((far - DB (dp far) : Nat) : Int) by omega]
          exact sx_num W' _ _ _ _ (by omega) (by omega) (by omega) i3 h
        clear i1 i2 i3 l1 l2 l3 HSB
        generalize acc zs j ++ codeOf (fc (257 + lp n)) (fn (257 + lp n)) ++ bitsOf (n - LB (lp n)) (LE (lp n)) ++ codeOf (dp far) 5 = x3 at *
        generalize acc zs j ++ codeOf (fc (257 + lp n)) (fn (257 + lp n)) ++ bitsOf (n - LB (lp n)) (LE (lp n)) = x2 at *
        generalize acc zs j ++ codeOf (fc (257 + lp n)) (fn (257 + lp n)) = x1 at *
        have HCC : Hid (∀ W', Below w2.heap.size w2 W' → W'.cell? ⟨B, 257 + lp n, none⟩ = some (.int .i64 (fc (257 + lp n) : Int)) ∧ W'.cell? ⟨gl, 257 + lp n, none⟩ = some (.int .i64 (fn (257 + lp n) : Int))) := fun W' h => ⟨(h.cell (p := ⟨B, 257 + lp n, none⟩) hs1).trans (CC.out _ (by omega)), (h.cell (p := ⟨gl, 257 + lp n, none⟩) (by show gl < _; omega)).trans (CL.out _ (by omega))⟩
        have HBA : Hid (∀ (K : Nat) (W' : World), K ≤ 28 → Calls Tryz.prog 104 #[.int .i64 (K : Int)] W' fun e w' => e = .returned (.tuple #[.int .i64 (LB K : Int), .int .i64 (LE K : Int)]) ∧ w' = W') := fun K W' h => base_any K W' h
        have HBK : Hid (∀ (K : Nat) (W' : World), K ≤ 29 → Calls Tryz.prog 105 #[.int .i64 (K : Int)] W' fun e w' => e = .returned (.tuple #[.int .i64 (DB K : Int), .int .i64 (DE K : Int)]) ∧ w' = W') := fun K W' h => back_any K W' h
        go_wp2_with fail
        refine Calls.mono HM.out ?_
        rintro e w4 ⟨rfl, q, rfl⟩
        go_wp2_with fail
        refine Calls.mono (HBA.out 28 _ (by omega)) ?_
        rintro e w4 ⟨rfl, rfl⟩
        go_wp2
        go_loopw [9, 10] (fun k bs wx => ∃ K : Nat, K ≤ 28 ∧ k = .int .i64 (K : Int) ∧ bs = .int .i64 (LB K : Int) ∧ dn LB n K = lp n ∧ wx = wr.drewN q) (fun k _ _ => (intOf k).toNat)
        case atStart => exact ⟨28, Nat.le_refl _, rfl, rfl, rfl, rfl⟩
        case round =>
          obtain ⟨K, hK, rfl, rfl, hdn, rfl⟩ := hrel
          have HDN : Hid (dn LB n K = lp n) := hdn
          clear hdn
          have hKb := LB_bd K (by omega)
          by_cases hbig : LB K ≤ n
          · have hKl : lp n = K := by rw [← HDN.out, dn_hit LB n K hbig]
            subst hKl
            have hd2 : decide ((n : Int) < (LB (lp n) : Int)) = false := by simp; omega
            have hd3 : decide (n < LB (lp n)) = false := by simp; omega
            have HBl : Hid _ := HBA.out (lp n) (wr.drewN q) (by omega)
            have HBC : Hid _ := HBA
            clear HDN hKb hfc hfn HBA
            generalize fc (257 + lp n) = fcd at *
            generalize fn (257 + lp n) = fnd at *
            generalize LB (lp n) = LBk at *
            generalize LE (lp n) = LEk at *
            generalize lp n = k at *
            have hw1 := IntWalk.i64_in ((257 : Int) + (k : Int)) (by omega)
            have hi1 : (257 : Int) + (k : Int) = ((257 + k : Nat) : Int) := by omega
            have hi2 : 257 + k < 288 := by omega
            have hw2 := IntWalk.i64_in ((n : Int) - (LBk : Int)) (by omega)
            have hw4 := IntWalk.i64_in ((far : Int) - (DB (dp far) : Int)) (by omega)
            generalize 257 + k = K2 at *
            obtain ⟨e2, e3⟩ := HCC.out wr HB.out
            have hw3 := IntWalk.i64_in (K2 : Int) (by omega)
            have hi3 : (K2 : Int) < 288 := by omega
            go_wp2_with fail
            refine Calls.mono HBl.out ?_
            rintro e w4 ⟨rfl, rfl⟩
            go_wp2
            go_region_held3 (fun w' => w'.cell? ⟨B, K2, none⟩ = some (.int .i64 (fcd : Int)) ∧ w'.cell? ⟨gl, K2, none⟩ = some (.int .i64 (fnd : Int)))
              (first | exact ⟨e2, e3⟩ | exact HCC.out _ HB5.out)
              (first
                | (go_at_call 103; refine Calls.mono (HP1.out _ ?_) ?_; exact HS.out; rintro e w5 ⟨rfl, hs5, hb5⟩; have HS5 : Hid (SX w5 w2.heap.size x1) := hs5; have HB5 : Hid (Below w2.heap.size w2 w5) := (HB.out.trans (below_dn _ wr _)).trans hb5; clear hs5 hb5))
            go_wp2_with fail
            refine Calls.mono (HP2.out _ HS5.out) ?_
            rintro e w6 ⟨rfl, hs6, hb6⟩
            have HS6 : Hid (SX w6 w2.heap.size x2) := hs6
            have HB6 : Hid (Below w2.heap.size w2 w6) := HB5.out.trans hb6
            clear hs6 hb6 HS5 HB5
            go_wp2_with fail
            refine Calls.mono (HBK.out 29 _ (by omega)) ?_
            rintro e w6 ⟨rfl, rfl⟩
            go_wp2
            go_loopw [9, 14] (fun k bs wx => ∃ K : Nat, K ≤ 29 ∧ k = .int .i64 (K : Int) ∧ bs = .int .i64 (DB K : Int) ∧ dn DB far K = dp far ∧ wx = w6) (fun k _ _ => (intOf k).toNat)
            case atStart => exact ⟨29, Nat.le_refl _, rfl, rfl, rfl, rfl⟩
            case round =>
              obtain ⟨K, hK, rfl, rfl, hdn, rfl⟩ := hrel
              have HDN : Hid (dn DB far K = dp far) := hdn
              clear hdn
              have hKb := DB_bd K (by omega)
              by_cases hbig : DB K ≤ far
              · have hKl : dp far = K := by rw [← HDN.out, dn_hit DB far K hbig]
                subst hKl
                have hd4 : decide ((far : Int) < (DB (dp far) : Int)) = false := by simp; omega
                have hd5 : decide (far < DB (dp far)) = false := by simp; omega
                have HBl2 : Hid (∀ W' : World, Calls Tryz.prog 105 #[.int .i64 (dp far : Int)] W' fun e w' => e = .returned (.tuple #[.int .i64 (DB (dp far) : Int), .int .i64 (DE (dp far) : Int)]) ∧ w' = W') := fun W' => HBK.out (dp far) W' (by omega)
                clear HDN hKb HBK
                generalize DB (dp far) = DBk at *
                generalize DE (dp far) = DEk at *
                generalize dp far = k3 at *
                go_wp2_with fail
                refine Calls.mono (HBl2.out _) ?_
                rintro e w6 ⟨rfl, rfl⟩
                go_wp2_with fail
                refine Calls.mono (HP3.out _ 5 rfl HS6.out) ?_
                rintro e w7 ⟨rfl, hs7, hb7⟩
                have HS7 : Hid (SX w7 w2.heap.size x3) := hs7
                have HB7 : Hid (Below w2.heap.size w2 w7) := HB6.out.trans hb7
                clear hs7 hb7
                go_wp2_with fail
                refine Calls.mono (HP4.out _ HS7.out) ?_
                rintro e w8 ⟨rfl, hs8, hb8⟩
                have HS8 : Hid (SX w8 w2.heap.size (acc zs (j + 1))) := hs8
                have HB8 : Hid (Below w2.heap.size w2 w8) := HB7.out.trans hb8
                clear hs8 hb8
                go_wp2
                go_roundw
                case rel => exact ⟨j + 1, by omega, by rw [HN2.out]; go_num, HS8.out, HB8.out⟩
                case measure => simp [intOf]; omega
              · have hd2 : decide ((far : Int) < (DB K : Int)) = true := by simp; omega
                have hd3 : decide (far < DB K) = true := by simp; omega
                have hK0 : K ≠ 0 := by
                  intro e; subst e
                  exact hbig (by show 1 ≤ far; omega)
                obtain ⟨K', rfl⟩ : ∃ K', K = K' + 1 := ⟨K - 1, by omega⟩
                have HD2 : Hid (dn DB far K' = dp far) := by show _ = _; rw [← HDN.out, dn_miss DB far K' hbig]
                have hsub : ((K' + 1 : Nat) : Int) - 1 = (K' : Int) := by omega
                generalize DB (K' + 1) = v at *
                go_wp2_with fail
                refine Calls.mono (HBK.out K' _ (by omega)) ?_
                rintro e w6 ⟨rfl, rfl⟩
                go_wp2
                go_roundw
                case rel => exact ⟨K', by omega, rfl, rfl, HD2.out, by first | rfl | trivial⟩
                case measure => simp [intOf]
          · have hd2 : decide ((n : Int) < (LB K : Int)) = true := by simp; omega
            have hd3 : decide (n < LB K) = true := by simp; omega
            have hK0 : K ≠ 0 := by
              intro e; subst e
              exact hbig (by show 3 ≤ n; omega)
            obtain ⟨K', rfl⟩ : ∃ K', K = K' + 1 := ⟨K - 1, by omega⟩
            have HD2 : Hid (dn LB n K' = lp n) := by show _ = _; rw [← HDN.out, dn_miss LB n K' hbig]
            have hsub : ((K' + 1 : Nat) : Int) - 1 = (K' : Int) := by omega
            generalize LB (K' + 1) = v at *
            go_wp2_with fail
            refine Calls.mono (HBA.out K' _ (by omega)) ?_
            rintro e w4 ⟨rfl, rfl⟩
            go_wp2
            go_roundw
            case rel => exact ⟨K', by omega, rfl, rfl, HD2.out, by first | rfl | trivial⟩
            case measure => simp [intOf]
    · have e : j = J := by omega
      subst e
      have hend := HJ.out.1
      have hd : decide ((pos zs j : Int) < (zs.length : Int)) = false := by simp; omega
      have hd' : decide (pos zs j < zs.length) = false := by simp; omega
      have HP : Hid (∀ (k0 k7 : Nat), k0 = 0 → k7 = 7 → Calls Tryz.prog 103 #[.pointer (some ⟨w2.heap.size, 0, none⟩), .int .i64 (k0 : Int), .int .i64 (k7 : Int)] wr fun e w' => e = .returned (.tuple #[]) ∧ SB w' w2.heap.size (outB zs j) (acc zs j ++ codeOf 0 7).length ∧ Below w2.heap.size wr w') := by
        intro k0 k7 h0 h7; subst h0; subst h7
        exact sx_code wr _ _ 0 7 (by omega) (by omega) (by omega) HBi.out HS.out
      have HLn : Hid (0 < (outB zs j).length) := outB_pos zs j
      clear hend
      generalize (acc zs j ++ codeOf 0 7).length = u at *
      go_wp2_with fail
      refine Calls.mono (HP.out 0 7 rfl rfl) ?_
      rintro e w5 ⟨rfl, hs5, hb5⟩
      have HB5 : Hid (Below w2.heap.size wr w5) := hb5
      obtain ⟨v, q0, q1, qf, qs, qown⟩ := hs5
      rcases qown.2 with ⟨_, h⟩ | ⟨g, cap', cur, rfl, hg1, hg2, hg3, hg4, hg5, hg6⟩
      · exact absurd HLn.out (by omega)
      have HG : Hid (Gave W w5 g (outB zs j) cap') := ⟨HBel.out.trans ((HB.out.trans HB5.out).mono (by omega)), by omega, qown.1, Or.inr ⟨g, cap', cur, rfl, by omega, hg2, hg3, hg4, hg5, hg6⟩⟩
      clear qown hg2 hg5 hg6 q1 qf hb5
      go_wp2
      go_ret
      exact ⟨_, _, rfl, HG.out⟩
theorem sfix (W : World) (b cap : Nat) (zs : List Int) (J : Nat) (hJ : Ends zs J) (hl : zs.length ≤ 6000) (h8 : ∀ i, i < zs.length → 0 ≤ zs.getD i 0 ∧ zs.getD i 0 ≤ 255) (hb : b < W.heap.size) (hc : ∀ i, i < zs.length → W.cell? ⟨b, 0 + i, none⟩ = some (.int .u8 (zs.getD i 0))) :
    Calls Tryz.prog 85 #[.slice (some ⟨b, 0, none⟩) zs.length cap] W fun e w' => ∃ g c, e = .returned (.slice (some ⟨g, 0, none⟩) (outB zs J).length c) ∧ Gave W w' g (outB zs J) c :=
  sfixA W (some ⟨b, 0, none⟩) b cap zs J hJ hl h8 hb hc (Or.inr rfl)
end Go.Proofs.YtaeicgfebeliiaaGreatDoor
namespace Go.Proofs.YtaeicgfebeliiaaGreatDoor
open Go.ChangeShapes Go.WideShapes Go.ChangeAt Go.RowKit
set_option linter.unusedVariables false
/-- What a call that answers a list of bytes and true leaves. -/
def Made (W w' : World) (g : Nat) (cs : List Int) : Prop := Nw W w' ∧ W.heap.size ≤ g ∧ At w' g cs

theorem nats_of (zs : List Int) (h : ∀ z ∈ zs, 0 ≤ z ∧ z ≤ 255) : ∃ ds : List Nat, zs = ints ds ∧ ∀ d ∈ ds, d < 256 := by
  refine ⟨zs.map Int.toNat, ?_, ?_⟩
  · unfold ints
    rw [List.map_map]
    conv => lhs; rw [← List.map_id zs]
    apply List.map_congr_left
    intro z hz
    have := h z hz
    simp; omega
  · intro d hd
    obtain ⟨z, hz, rfl⟩ := List.mem_map.1 hd
    have := h z hz
    omega
theorem stored_len (ds : List Nat) : (stored ds).length = ds.length + 5 := by simp [stored]
theorem cells_nat {W : World} {b : Nat} {ds : List Nat} (h : At W b (ints ds)) : ∀ i, i < ds.length → W.cell? ⟨b, 0 + i, none⟩ = some (.int .u8 ((ds.getD i 0 : Nat) : Int)) := by
  intro i hi
  have := h.2.1 i (by rw [ints_len]; exact hi)
  rwa [ints_get] at this
theorem ints_bd (ds : List Nat) (h8 : ∀ d ∈ ds, d < 256) : ∀ i, i < (ints ds).length → 0 ≤ (ints ds).getD i 0 ∧ (ints ds).getD i 0 ≤ 255 := by
  intro i hi
  rw [ints_len] at hi
  rw [ints_get]
  have e : ds.getD i 0 = ds[i] := by simp [hi]
  have := h8 ds[i] (List.getElem_mem _)
  rw [e]; omega
/-- The shorter one, the stored one where both are as long. -/
def bestL (ds : List Nat) (J : Nat) : List Nat := if (outB (ints ds) J).length < ds.length + 5 then outB (ints ds) J else stored ds

set_option maxHeartbeats 2000000 in
theorem ibest (W : World) (b cap : Nat) (ds : List Nat) (J : Nat) (hJ : Ends (ints ds) J) (ht : Tabs W) (hl : ds.length ≤ 6000) (h8 : ∀ d ∈ ds, d < 256) (ha : At W b (ints ds)) :
    Calls Tryz.prog 39 #[.slice (some ⟨b, 0, none⟩) ds.length cap] W fun e w' => ∃ g c, e = .returned (.tuple #[.slice (some ⟨g, 0, none⟩) (bestL ds J).length c, .bool true]) ∧ Made W w' g (ints (bestL ds J)) := by
  have H1 : Hid _ := istored W b cap ds hl h8 ha.1 (cells_nat ha)
  have h4 : 4 ≤ W.heap.size := ht.2.2.2.2
  have H2 : Hid (∀ w1, Below W.heap.size W w1 → Calls Tryz.prog 63 #[.slice (some ⟨b, 0, none⟩) ds.length cap] w1 fun e w' => ∃ g c, e = .returned (.tuple #[.slice (some ⟨g, 0, none⟩) (outB (ints ds) J).length c, .bool true]) ∧ Gave w1 w' g (outB (ints ds) J) c) := by
    intro w1 hb
    have hA := At.nw ha hb
    have h := ifix w1 b cap (ints ds) J hJ (ht.below hb h4) (by rw [ints_len]; exact hl) (ints_bd ds h8) hA.1 hA.2.1
    rw [ints_len] at h
    exact h
  have hsl := stored_len ds
  have hpos := outB_pos (ints ds) J
  unfold bestL
  clear hJ ht h8 ha
  by_cases hlt : (outB (ints ds) J).length < ds.length + 5
  · rw [if_pos hlt]
    have d1 : decide (((outB (ints ds) J).length : Int) < ((stored ds).length : Int)) = true := by simp; omega
    have d2 : decide ((outB (ints ds) J).length < (stored ds).length) = true := by simp; omega
    generalize outB (ints ds) J = O at *
    generalize stored ds = T at *
    clear hlt hsl
    go_enter Tryz.func39, Tryz.ntmps39
    go_wp2_with fail
    refine Calls.mono H1.out ?_
    rintro e w1 ⟨g1, c1, rfl, hg⟩
    have HB : Hid (Below W.heap.size W w1) := hg.1
    clear hg
    go_wp2_with fail
    refine Calls.mono (H2.out w1 HB.out) ?_
    rintro e w2 ⟨g2, c2, rfl, hg⟩
    have HM : Hid (Made W w2 g2 (ints O)) := ⟨Nw.trans HB.out hg.1, Nat.le_trans (Below.size HB.out) hg.2.1, At.gave hg⟩
    clear hg
    go_wp2
    go_ret2
    exact ⟨_, _, rfl, HM.out⟩
  · rw [if_neg hlt]
    have d1 : decide (((outB (ints ds) J).length : Int) < ((stored ds).length : Int)) = false := by simp; omega
    have d2 : decide ((outB (ints ds) J).length < (stored ds).length) = false := by simp; omega
    generalize outB (ints ds) J = O at *
    generalize stored ds = T at *
    clear hlt hsl
    go_enter Tryz.func39, Tryz.ntmps39
    go_wp2_with fail
    refine Calls.mono H1.out ?_
    rintro e w1 ⟨g1, c1, rfl, hg⟩
    have HB : Hid (Below W.heap.size W w1) := hg.1
    have HA : Hid (At w1 g1 (ints T)) := At.gave hg
    have HZ : Hid (W.heap.size ≤ g1) := hg.2.1
    clear hg
    go_wp2_with fail
    refine Calls.mono (H2.out w1 HB.out) ?_
    rintro e w2 ⟨g2, c2, rfl, hg⟩
    have HM : Hid (Made W w2 g1 (ints T)) := ⟨Nw.trans HB.out hg.1, HZ.out, At.nw HA.out hg.1⟩
    clear hg
    go_wp2
    go_ret2
    exact ⟨_, _, rfl, HM.out⟩

set_option maxHeartbeats 2000000 in
theorem sl2best (W : World) (b cap : Nat) (ds : List Nat) (J : Nat) (hJ : Ends (ints ds) J) (hl : ds.length ≤ 6000) (h8 : ∀ d ∈ ds, d < 256) (ha : At W b (ints ds)) :
    Calls Tryz.prog 67 #[.slice (some ⟨b, 0, none⟩) ds.length cap] W fun e w' => ∃ g c, e = .returned (.slice (some ⟨g, 0, none⟩) (bestL ds J).length c) ∧ Made W w' g (ints (bestL ds J)) := by
  have H1 : Hid (Calls Tryz.prog 85 #[.slice (some ⟨b, 0, none⟩) ds.length cap] W fun e w' => ∃ g c, e = .returned (.slice (some ⟨g, 0, none⟩) (outB (ints ds) J).length c) ∧ Gave W w' g (outB (ints ds) J) c) := by
    have h := sfix W b cap (ints ds) J hJ (by rw [ints_len]; exact hl) (ints_bd ds h8) ha.1 ha.2.1
    rw [ints_len] at h
    exact h
  have H2 : Hid (∀ w1, Below W.heap.size W w1 → Calls Tryz.prog 86 #[.slice (some ⟨b, 0, none⟩) ds.length cap] w1 fun e w' => ∃ g c, e = .returned (.slice (some ⟨g, 0, none⟩) (stored ds).length c) ∧ Gave w1 w' g (stored ds) c) := by
    intro w1 hb
    have hA := At.nw ha hb
    exact sl2stored w1 b cap ds hl hA.1 (cells_nat hA)
  have hol := hJ.1
  unfold bestL
  have hw := IntWalk.i64_in ((ds.length : Int) + 5) (by omega)
  clear hJ h8 ha hol
  by_cases hlt : (outB (ints ds) J).length < ds.length + 5
  · rw [if_pos hlt]
    have d1 : decide (((outB (ints ds) J).length : Int) < (ds.length : Int) + 5) = true := by simp; omega
    generalize outB (ints ds) J = O at *
    clear hlt H2
    go_enter Tryz.func67, Tryz.ntmps67
    go_wp2_with fail
    refine Calls.mono H1.out ?_
    rintro e w1 ⟨g1, c1, rfl, hg⟩
    have HM : Hid (Made W w1 g1 (ints O)) := ⟨hg.1, hg.2.1, At.gave hg⟩
    clear hg
    go_wp2
    go_ret
    exact ⟨_, _, rfl, HM.out⟩
  · rw [if_neg hlt]
    have d1 : decide (((outB (ints ds) J).length : Int) < (ds.length : Int) + 5) = false := by simp; omega
    generalize outB (ints ds) J = O at *
    generalize stored ds = T at *
    clear hlt
    go_enter Tryz.func67, Tryz.ntmps67
    go_wp2_with fail
    refine Calls.mono H1.out ?_
    rintro e w1 ⟨g1, c1, rfl, hg⟩
    have HB : Hid (Below W.heap.size W w1) := hg.1
    clear hg
    go_wp2_with fail
    refine Calls.mono (H2.out w1 HB.out) ?_
    rintro e w2 ⟨g2, c2, rfl, hg⟩
    have HM : Hid (Made W w2 g2 (ints T)) := ⟨Nw.trans HB.out hg.1, Nat.le_trans (Below.size HB.out) hg.2.1, At.gave hg⟩
    clear hg
    go_wp2
    go_ret
    exact ⟨_, _, rfl, HM.out⟩

theorem istored_no (W : World) (a : Option Addr) (n cap : Nat) (hl : 6000 < n) (hl2 : n ≤ 1048576) :
    Calls Tryz.prog 62 #[.slice a n cap] W fun e w' => e = .returned (.tuple #[.slice none 0 0, .bool false]) ∧ w' = W := by
  have hd1 : decide ((6000 : Int) < (n : Int)) = true := by simp; omega
  go_enter Tryz.func62, Tryz.ntmps62
  go_wp2
  go_ret2
  exact ⟨rfl, rfl⟩
theorem ibest_no (W : World) (a : Option Addr) (n cap : Nat) (hl : 6000 < n) (hl2 : n ≤ 1048576) :
    Calls Tryz.prog 39 #[.slice a n cap] W fun e w' => e = .returned (.tuple #[.slice none 0 0, .bool false]) ∧ w' = W := by
  have HC : Hid _ := istored_no W a n cap hl hl2
  go_enter Tryz.func39, Tryz.ntmps39
  go_wp2_with fail
  refine Calls.mono HC.out ?_
  rintro e w1 ⟨rfl, rfl⟩
  go_wp2
  go_ret2
  exact ⟨rfl, rfl⟩
theorem outB_len (zs : List Int) (J : Nat) (hJ : Ends zs J) (hl : zs.length ≤ 6000) : (outB zs J).length ≤ 100000 := by
  have a := acc_bd zs J hJ J (Nat.le_refl _)
  have b := puts_len ([], 0) (acc zs J ++ codeOf 0 7)
  rw [List.length_append, codeOf_len] at b
  unfold outB
  simp at b
  omega
end Go.Proofs.YtaeicgfebeliiaaGreatDoor
namespace Go.Proofs.YtaeicgfebeliiaaGreatDoor
open Go.ChangeShapes Go.WideShapes Go.ChangeAt Go.RowKit
set_option linter.unusedVariables false

/-- The data of a picture's rows: two bytes, what is packed, the sum. -/
def pdata (ds : List Nat) (J : Nat) : List Int := [120, 1] ++ ints (bestL ds J) ++ four (adler (ints ds))
theorem bestL_len (ds : List Nat) (J : Nat) (hJ : Ends (ints ds) J) (hl : ds.length ≤ 6000) : (bestL ds J).length ≤ 100000 ∧ 0 < (bestL ds J).length := by
  have a := outB_len (ints ds) J hJ (by rw [ints_len]; exact hl)
  have b := stored_len ds
  have c := outB_pos (ints ds) J
  unfold bestL; split <;> omega
theorem ints_u8 (ds : List Nat) (h : ∀ d ∈ ds, d < 256) : ∀ z ∈ ints ds, 0 ≤ z ∧ z ≤ 255 := by
  intro z hz
  simp [ints] at hz
  obtain ⟨d, hd, rfl⟩ := hz
  have := h d hd
  omega
set_option maxHeartbeats 4000000 in
theorem ipackRows (W : World) (b c : Nat) (ds : List Nat) (J : Nat) (hJ : Ends (ints ds) J) (ht : Tabs W) (hl : ds.length ≤ 6000) (h8 : ∀ d ∈ ds, d < 256) (ha : At W b (ints ds)) :
    Calls Tryz.prog 18 #[.slice (some ⟨b, 0, none⟩) ds.length c] W fun e w' => ∃ v, e = .returned v ∧ Nw W w' ∧ Own w' W.heap.size v (pdata ds J) := by
  have HP : Hid _ := ibest W b c ds J hJ ht hl h8 ha
  have HA : Hid (∀ w', At w' b (ints ds) → Calls Tryz.prog 40 #[.slice (some ⟨b, 0, none⟩) ds.length c] w' fun e w2 => e = .returned (.int .u32 (adler (ints ds))) ∧ w2 = w') := by
    intro w' h
    have := iadler w' (some ⟨b, 0, none⟩) c (ints ds) h.row (by rw [ints_len]; omega) (ints_u8 ds h8)
    rwa [ints_len] at this
  have hbl := bestL_len ds J hJ hl
  have hab := adler_bd (ints ds)
  have HD : Hid (pdata ds J = [120, 1] ++ ints (bestL ds J) ++ four (adler (ints ds))) := rfl
  have HB : Hid (At W b (ints ds)) := ha
  have HLn : Hid ((ints (bestL ds J)).length = (bestL ds J).length) := ints_len _
  clear hJ ht h8 ha
  generalize adler (ints ds) = ad at *
  generalize bestL ds J = P at *
  go_enter Tryz.func18, Tryz.ntmps18
  go_wp2_with fail
  refine Calls.mono HP.out ?_
  rintro e w1 ⟨g, c1, rfl, h1, h2, h3⟩
  have N1 : Hid (Nw W w1) := h1
  have L1 : Hid (Lie (w1.alloc (.cells #[.int .u8 120, .int .u8 1] 5)) g 0 (ints P)) := Lie.nw (At.lie h3) (nw_alloc _ _)
  have A1 : Hid (At (w1.alloc (.cells #[.int .u8 120, .int .u8 1] 5)) b (ints ds)) := At.nw (At.nw HB.out h1) (nw_alloc _ _)
  have O1 : Hid (Own (w1.alloc (.cells #[.int .u8 120, .int .u8 1] 5)) w1.heap.size (.slice (some ⟨w1.heap.size, 0, none⟩) 2 2) [120, 1]) := Own.lit w1 _ _ 2 _ rfl rfl (Nat.le_refl _) (by omega)
  have hs1 : W.heap.size ≤ w1.heap.size := Below.size h1
  have hbW : b < W.heap.size := HB.out.1
  have hg1 : g < w1.heap.size := h3.1
  clear h1 h2 h3 HP HB
  go_wp2_with (first
    | (at_builtin; (refine wp_app _ rfl _ _ rfl w1.heap.size _ [120, 1] (ints P) rfl O1.out g 0 P.length c1 rfl HLn.out L1.out ?c1 ?c2 ?_))
    | go_in)
  case c1 => simp; omega
  case c2 => simp
  intro v2 w2 h1 h2
  have O2 : Hid (Own w2 w1.heap.size v2 ([120, 1] ++ ints P)) := h1
  have B2 : Hid (Below w1.heap.size (w1.alloc (.cells #[.int .u8 120, .int .u8 1] 5)) w2) := Ext.below h2 (fun q hq => (Own.lt O1.out q hq).1) (by simp)
  have N2 : Hid (Nw W w2) := Nw.trans N1.out (Below.trans ((Below.refl _ _).alloc (Nat.le_refl _) _) B2.out)
  have A2 : Hid (At w2 b (ints ds)) := by
    have hA := A1.out
    exact ⟨Nat.lt_of_lt_of_le hA.1 (Below.size B2.out), fun i hi => (B2.out.cell (p := ⟨b, 0 + i, none⟩) (by show b < _; omega)).trans (hA.2.1 i hi), fun o => (B2.out.frozen (p := ⟨b, o, none⟩) (by show b < _; omega)).trans (hA.2.2 o)⟩
  have hs2 : w1.heap.size ≤ w2.heap.size := by have := Below.size B2.out; simp at this; omega
  have HL2 : Hid (([120, 1] ++ ints P).length ≤ 200000) := by show _ ≤ _; simp [HLn.out]; omega
  clear h1 h2 O1 L1 A1 N1 B2
  generalize hz2 : [120, 1] ++ ints P = z2 at *
  have HZ2 : Hid _ := hz2
  clear hz2
  have HN : Hid _ := iappNum w2 w1.heap.size v2 z2 ad hab (by have := HL2.out; omega) hs2 O2.out
  go_wp2_with fail
  refine Calls.mono (HA.out _ A2.out) ?_
  rintro e w2 ⟨rfl, rfl⟩
  go_wp2_with fail
  refine Calls.mono HN.out ?_
  rintro e w3 ⟨v3, rfl, h1, h2⟩
  have HR : Hid (Nw W w3 ∧ Own w3 W.heap.size v3 (pdata ds J)) := by
    refine ⟨Below.trans N2.out (Ext.below h2 (fun q hq => Nat.le_trans hs1 (Own.lt O2.out q hq).1) (by omega)), ?_⟩
    rw [HD.out]
    exact Own.base h1 hs1
  clear h1 h2
  go_wp2
  go_ret
  exact ⟨_, rfl, HR.out⟩

def sIHDR : ByteArray := { data := #[73, 72, 68, 82] }
def sIDAT : ByteArray := { data := #[73, 68, 65, 84] }
def sIEND : ByteArray := { data := #[73, 69, 78, 68] }
def mark8 : List Int := [137, 80, 78, 71, 13, 10, 26, 10]
def head13 (wide high : Nat) : List Int := four (wide : Int) ++ four (high : Int) ++ [8, 6, 0, 0, 0]
def png (wide high : Nat) (pd : List Int) : List Int := mark8 ++ chunk (strInts sIHDR) (head13 wide high) ++ chunk (strInts sIDAT) pd ++ chunk (strInts sIEND) []
theorem pdata_u8 (ds : List Nat) (J : Nat) (h : ∀ d ∈ bestL ds J, d < 256) : ∀ z ∈ pdata ds J, 0 ≤ z ∧ z ≤ 255 := by
  intro z hz
  simp only [pdata, List.mem_append] at hz
  rcases hz with (hz | hz) | hz
  · simp at hz; omega
  · exact ints_u8 _ h z hz
  · exact four_u8 _ (adler_bd _) z hz
theorem head_u8 (wide high : Nat) (hw : wide ≤ 36) (hh : high ≤ 36) : ∀ z ∈ head13 wide high, 0 ≤ z ∧ z ≤ 255 := by
  intro z hz
  simp only [head13, List.mem_append] at hz
  rcases hz with (hz | hz) | hz
  · exact four_u8 _ (by omega) z hz
  · exact four_u8 _ (by omega) z hz
  · simp at hz; omega
theorem head_len (wide high : Nat) : (head13 wide high).length = 13 := rfl
end Go.Proofs.YtaeicgfebeliiaaGreatDoor
namespace Go.Proofs.YtaeicgfebeliiaaGreatDoor
open Go.ChangeShapes Go.WideShapes Go.ChangeAt Go.RowKit
set_option linter.unusedVariables false

/-- The numbers zs lie from the place o on in the block g. -/
def Lz (w : World) (g o : Nat) (zs : List Int) : Prop := g < w.heap.size ∧ ∀ i, i < zs.length → w.cell? ⟨g, o + i, none⟩ = some (.int .u8 (zs.getD i 0))
theorem Lz.nw {w w' : World} {g o : Nat} {zs : List Int} (h : Lz w g o zs) (k : Nw w w') : Lz w' g o zs :=
  ⟨Nat.lt_of_lt_of_le h.1 (Below.size k), fun i hi => ((bcell k).1 _ _ h.1).trans (h.2 i hi)⟩
theorem getR (l r : List Int) (i : Nat) : (l ++ r).getD (l.length + i) 0 = r.getD i 0 := by
  rw [List.getD_eq_getElem?_getD, List.getD_eq_getElem?_getD, List.getElem?_append_right (by omega), Nat.add_sub_cancel_left]
theorem getL {l r : List Int} {i : Nat} (h : i < l.length) : (l ++ r).getD i 0 = l.getD i 0 := by simp [List.getD_eq_getElem?_getD, List.getElem?_append_left h]
theorem Lz.left {w : World} {g o : Nat} {a b : List Int} (h : Lz w g o (a ++ b)) : Lz w g o a :=
  ⟨h.1, fun i hi => by rw [h.2 i (by rw [List.length_append]; omega), getL hi]⟩
theorem Lz.right {w : World} {g o : Nat} {a b : List Int} (h : Lz w g o (a ++ b)) : Lz w g (o + a.length) b :=
  ⟨h.1, fun i hi => by rw [Nat.add_assoc, h.2 _ (by rw [List.length_append]; omega), getR]⟩
theorem Lz.row {w : World} {g o : Nat} {zs : List Int} (h : Lz w g o zs) : Row .u8 w (some ⟨g, o, none⟩) zs := Or.inr ⟨g, o, rfl, h.1, h.2⟩
theorem Lz.drewN {w : World} {g o : Nat} {zs : List Int} (h : Lz w g o zs) (n : Nat) : Lz (w.drewN n) g o zs := h
theorem str_get (s : ByteArray) (i : Nat) (h : i < s.size) : (strInts s).getD i 0 = (s[i].toNat : Int) := by
  unfold strInts
  simp [h]; rfl
theorem conv_str (w : World) (g o c : Nat) (s : ByteArray) (h : Lz w g o (strInts s)) : (convert 22 9 (.slice (some ⟨g, o, none⟩) s.size c)).run Tryz.prog w = .ok (.string s) w := by
  have hu : Tryz.prog.underlying 9 = some .string := Tryz.underlying9
  have hb : Tryz.prog.underlying 5 = some (.int .u8) := Tryz.underlying5
  exact Lib.run_convert_whole (P := Tryz.prog) w _ _ _ Tryz.underlying22 hb hu g o s (fun i hi => by
    rw [h.2 i (by rw [strInts_len]; exact hi), str_get s i hi]) c
theorem two_cells (V : World) (R : Nat) (a b u v : Value) (c0 : V.cell? ⟨R, 0, none⟩ = some u) (c1 : V.cell? ⟨R, 1, none⟩ = some v) :
    ((V.setCell ⟨R, 0, none⟩ a).setCell ⟨R, 1, none⟩ b).cell? ⟨R, 0, none⟩ = some a ∧ ((V.setCell ⟨R, 0, none⟩ a).setCell ⟨R, 1, none⟩ b).cell? ⟨R, 1, none⟩ = some b := by
  refine ⟨?_, ?_⟩
  · rw [World.cell?_setCell_other _ _ _ _ (fun e => by injection e; omega)]
    exact World.cell?_setCell_same V ⟨R, 0, none⟩ _ c0
  · refine World.cell?_setCell_same _ ⟨R, 1, none⟩ _ (u := v) ?_
    rw [World.cell?_setCell_other _ _ _ _ (fun e => by injection e; omega)]; exact c1
theorem two_nw {w W V : World} (h : Nw w W) (hV : Nw W V) (a b : Value) (hR : w.heap.size < W.heap.size) : Nw w ((V.setCell ⟨w.heap.size, 0, none⟩ a).setCell ⟨w.heap.size, 1, none⟩ b) :=
  ((Nw.trans h hV).setCell (Nat.le_refl _) _).setCell (Nat.le_refl _) _
set_option maxHeartbeats 4000000 in
theorem firstChunk_any (w : World) (g o n c : Nat) (s : ByteArray) (data : List Int) (hs : s.size = 4) (hd8 : ∀ z ∈ data, 0 ≤ z ∧ z ≤ 255) (hn : n ≤ 12000) (hc : n ≤ c) (hcm : c ≤ 9223372036854775807) (hl : data.length + 12 ≤ n) (hd : Lz w g o (chunk (strInts s) data)) :
    Calls Tryz.prog 48 #[.slice (some ⟨g, o, none⟩) n c] w fun e w' => ∃ q, (q = o + 8 ∨ data.length = 0) ∧ e = .returned (.tuple #[.agg #[.string s, .slice (some ⟨g, q, none⟩) data.length data.length], .int .i64 0]) ∧ Nw w w' := by
  obtain ⟨W, hW⟩ : ∃ W, w.alloc (.cells #[.string ⟨#[]⟩, .slice none 0 0] 71) = W := ⟨_, rfl⟩
  have NW : Nw w W := by rw [← hW]; exact (Below.refl _ _).alloc (Nat.le_refl _) _
  have z0 : W.cell? ⟨w.heap.size, 0, none⟩ = some (.string ⟨#[]⟩) := by rw [← hW]; simp
  have z1 : W.cell? ⟨w.heap.size, 1, none⟩ = some (.slice none 0 0) := by rw [← hW]; simp
  have zf : ∀ o, W.frozen? ⟨w.heap.size, o, none⟩ = false := fun o => by rw [← hW]; exact World.frozen?_alloc_at _ _ _ _ rfl
  have hsl : (strInts s).length = 4 := by rw [strInts_len]; exact hs
  have hD := hd.nw NW
  unfold chunk at hD
  have p1 := hD.left.left.left
  have p4 := hD.right
  have p2 : Lz W g (o + 4) (strInts s ++ data) := by
    have h := hD.left
    rw [List.append_assoc] at h
    exact h.right
  have hcb := crc_bd (strInts s ++ data)
  obtain ⟨L, hL⟩ : ∃ L, data.length = L := ⟨_, rfl⟩
  have hlen : (four (data.length : Int) ++ strInts s ++ data).length = 8 + L := by rw [List.length_append, List.length_append, hsl, four_len, hL]
  rw [hlen] at p4
  have hr8 : ∀ z ∈ strInts s ++ data, 0 ≤ z ∧ z ≤ 255 := fun z hz => (List.mem_append.1 hz).elim (fun h => by
    unfold strInts at h
    obtain ⟨b, _, rfl⟩ := List.mem_map.1 h
    have := b.toNat_lt
    omega) (hd8 z)
  have hrl : (strInts s ++ data).length = 4 + L := by rw [List.length_append, hsl, hL]
  obtain ⟨K, hK⟩ : ∃ K, crc (strInts s ++ data) = K := ⟨_, rfl⟩
  rw [hK] at hcb p4
  have N0 : Hid _ := numberAt_any W g o n c 0 (data.length : Int) (by omega) (by omega) hc hcm (by omega) (fun i hi => by rw [Nat.add_zero]; exact p1.2 i (by rw [four_len]; exact hi))
  obtain ⟨E, hE⟩ : ∃ E, 8 + L = E := ⟨_, rfl⟩
  have N1 : Hid (∀ m, Calls Tryz.prog 52 #[.slice (some ⟨g, o, none⟩) n c, .int .i64 (E : Int)] (W.drewN m) fun e w' => e = .returned (.int .i64 K) ∧ ∃ m, w' = W.drewN m) := fun m =>
    (numberAt_any (W.drewN m) g o n c E K hcb (by omega) hc hcm (by omega) (fun i hi => by rw [← hE]; exact p4.2 i (by rw [four_len]; exact hi))).mono (fun e w' h => ⟨h.1, m, h.2⟩)
  have N2 : Hid (∀ m, Calls Tryz.prog 38 #[.slice (some ⟨g, o + 4, none⟩) (E - 4) (c - 4)] (W.drewN m) fun e w' => e = .returned (.int .u32 K) ∧ ∃ m, w' = W.drewN m) := fun m => by
    have h := icrc (W.drewN m) (some ⟨g, o + 4, none⟩) (c - 4) (strInts s ++ data) (p2.drewN m).row (by omega) hr8
    rw [hrl, hK, show 4 + L = E - 4 by omega] at h
    exact h.mono (fun e w' h => ⟨h.1, m, h.2⟩)
  have V1 : Hid (∀ W', Nw W W' → (convert 22 9 (.slice (some ⟨g, o + 4, none⟩) 4 (c - 4))).run Tryz.prog W' = .ok (.string s) W') := fun W' h => by
    have k := conv_str W' g (o + 4) (c - 4) s (p2.left.nw h)
    rwa [hs] at k
  have HW : Hid (_ = W) := hW
  have HNW : Hid (Nw w W) := NW
  have hEE : (8 : Int) + (L : Int) = (E : Int) := by omega
  have HEE : Hid _ := hEE
  have hwE : IntKind.i64.wrap ((8 : Int) + (L : Int)) = (E : Int) := by rw [IntKind.wrap_i64]; omega
  rw [hL] at N0 hl ⊢
  have hE4 : 4 ≤ E := by omega
  have hE8 : 8 ≤ E := by omega
  have hEn : E + 4 ≤ n := by omega
  have hE8L : Hid (E - 8 = L) := by show _ = _; omega
  have hz : decide ((n : Int) - 12 < (L : Int)) = false := by simp; omega
  have hz2 : decide ((n : Int) < 12) = false := by simp; omega
  have hKu : IntKind.i64.wrap K = K := by rw [IntKind.wrap_i64]; omega
  have hKK : (K != K) = false := by simp
  clear hd hD p1 p2 p4 hW NW hsl hlen hr8 hrl hK hL hd8 hEE hE
  go_enter Tryz.func48, Tryz.ntmps48
  go_wp2_with fail
  rw [HW.out]
  refine Calls.mono N0.out ?_
  rintro e w1 ⟨rfl, rfl⟩
  go_wp2_with fail
  go_quiet (first | (go_at_call 52; exact N1.out _) | (go_at_call 38; exact N2.out _))
  go_wp2
  have v1 := fun m => V1.out (w1.drewN m) ⟨rfl, rfl, rfl, Nat.le_refl _, fun _ _ => rfl⟩
  have v2 := fun m k => V1.out ((w1.drewN m).drewN k) ⟨rfl, rfl, rfl, Nat.le_refl _, fun _ _ => rfl⟩
  have hRW : w.heap.size < w1.heap.size := World.block_lt_of_cell? w1 ⟨w.heap.size, 0, none⟩ z0
  have HNW2 : Hid (∀ n, Nw w1 (w1.drewN n)) := fun n => ⟨rfl, rfl, rfl, Nat.le_refl _, fun _ _ => rfl⟩
  by_cases he : E = 8
  · have hL0 : L = 0 := by have := hE8L.out; omega
    have HL0 : Hid (L = 0) := hL0
    subst he
    clear hL0
    go_region
    have kk := two_cells (w1.drewN (nq + 1)) w.heap.size (.string s) (.slice (some ⟨g, o, none⟩) 0 0) _ _ z0 z1
    have kn := two_nw HNW.out (HNW2.out (nq + 1)) (.string s) (.slice (some ⟨g, o, none⟩) 0 0) hRW
    generalize ((w1.drewN (nq + 1)).setCell ⟨w.heap.size, 0, none⟩ (.string s)).setCell ⟨w.heap.size, 1, none⟩ (.slice (some ⟨g, o, none⟩) 0 0) = X at *
    obtain ⟨k0, k1⟩ := kk
    have HX : Hid (Nw w X) := kn
    clear kn
    go_wp2
    refine bodyPost_ret (v := .tuple #[.agg #[.string s, .slice (some ⟨g, o, none⟩) 0 0], .int .i64 0]) (by simp [results, Tryz.results48, go_sem, k0, k1]) rfl ⟨o, Or.inr HL0.out, by rw [HL0.out], HX.out⟩
  · have he8 : 8 < E := by omega
    go_region
    have kk := two_cells (w1.drewN (nq + 1)) w.heap.size (.string s) (.slice (some ⟨g, o + 8, none⟩) (E - 8) (E - 8)) _ _ z0 z1
    have kn := two_nw HNW.out (HNW2.out (nq + 1)) (.string s) (.slice (some ⟨g, o + 8, none⟩) (E - 8) (E - 8)) hRW
    generalize ((w1.drewN (nq + 1)).setCell ⟨w.heap.size, 0, none⟩ (.string s)).setCell ⟨w.heap.size, 1, none⟩ (.slice (some ⟨g, o + 8, none⟩) (E - 8) (E - 8)) = X at *
    obtain ⟨k0, k1⟩ := kk
    have HX : Hid (Nw w X) := kn
    clear kn
    go_wp2
    refine bodyPost_ret (v := .tuple #[.agg #[.string s, .slice (some ⟨g, o + 8, none⟩) (E - 8) (E - 8)], .int .i64 0]) (by simp [results, Tryz.results48, go_sem, k0, k1]) rfl ⟨o + 8, Or.inl rfl, by rw [show E - 8 = L from by have := HEE.out; omega], HX.out⟩
end Go.Proofs.YtaeicgfebeliiaaGreatDoor
