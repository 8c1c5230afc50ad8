/-
  What the specification's l3Pack answers; each theorem names its conditions.
-/
import Derived.Test.YteehoihkbcbbgaaDoorSEnc
import Derived.Test.YteehoihkbcbbgaaDoorEncE
namespace Go.Proofs.YteehoihkbcbbgaaDoor
open Go.ChangeShapes Go.WideShapes Go.ChangeAt Go.RowKit
set_option linter.unusedVariables false

set_option maxHeartbeats 8000000 in
theorem spack (W : World) (b off c wide high : Nat) (zp : List Int) (hw : 1 ≤ wide ∧ wide ≤ 36) (hh : 1 ≤ high ∧ high ≤ 36) (hz : zp.length = high * (4 * wide)) (hc : zp.length ≤ c) (hcm : c ≤ 9223372036854775807) (h8 : ∀ z ∈ zp, 0 ≤ z ∧ z ≤ 255) (hl : Lie W b off zp) (ds : List Nat) (J : Nat) (hds : rowsN zp (4 * wide) high = ints ds) (hd8 : ∀ d ∈ ds, d < 256) (hdl : ds.length ≤ 6000) (hd0 : 0 < ds.length) (hJ : Ends (ints ds) J) :
    Calls Tryd.prog 67 #[.int .i64 (wide : Int), .int .i64 (high : Int), .slice (some ⟨b, off, none⟩) zp.length c] W fun e w' => ∃ v, e = .returned v ∧ Nw W w' ∧ Own w' W.heap.size v (pdata ds J) := by
  have PB : Hid (∀ w' g c2, At w' g (ints ds) → Calls Tryd.prog 21 #[.slice (some ⟨g, 0, none⟩) (ints ds).length c2] w' fun e w2 => ∃ g2 c3, e = .returned (.slice (some ⟨g2, 0, none⟩) (bestL ds J).length c3) ∧ Made w' w2 g2 (ints (bestL ds J))) := by
    intro w' g c2 hA
    rw [ints_len]
    exact sl2best w' g c2 ds J hJ hdl hd8 hA
  have HAD : Hid (∀ w' g c2, At w' g (ints ds) → Calls Tryd.prog 74 #[.slice (some ⟨g, 0, none⟩) (ints ds).length c2] w' fun e w2 => e = .returned (.int .u32 (adler (ints ds))) ∧ w2 = w') :=
    fun w' g c2 h => sl3adler w' (some ⟨g, 0, none⟩) c2 (ints ds) h.row (by rw [ints_len]; omega) (ints_u8 ds hd8)
  have hbL := bestL_len ds J hJ hdl
  have hab := adler_bd (ints ds)
  have HDD : Hid (pdata ds J = [120, 1] ++ ints (bestL ds J) ++ four (adler (ints ds))) := rfl
  have HLn : Hid ((ints (bestL ds J)).length = (bestL ds J).length) := ints_len _
  have HIL : Hid ((ints ds).length = ds.length) := ints_len ds
  have HDS : Hid _ := hds
  clear hJ hd8 hds
  have hsz : 4 * (wide : Int) = ((4 * wide : Nat) : Int) := by simp
  have hsb : 4 ≤ 4 * wide ∧ 4 * wide ≤ 144 := by omega
  have hok : RowOk (4 * wide) (4 * wide) := ⟨by omega, by omega, by omega, rfl⟩
  have hzl : zp.length ≤ 5184 := by rw [hz]; calc high * (4 * wide) ≤ 36 * 144 := Nat.mul_le_mul hh.2 (by omega)
       _ = 5184 := rfl
  generalize hsize : 4 * wide = size at *
  have HDS2 : Hid (rowsN zp size high = ints ds) := HDS.out
  clear HDS
  have HZ : Hid _ := hz
  clear hz hsize
  have hmk := run_make_row' (P := Tryd.prog) 22 5 (.int .u8 0) 1 Tryd.underlying22 Tryd.info5 rfl .i64 .i64 size (by omega) (by omega)
  have hbW := hl.1
  have HL1 : Hid (Lie (W.alloc (.cells (madeCells #[Value.int .u8 0] size) 5)) b off zp) := Lie.nw hl (nw_alloc _ _)
  have HZ1 : Hid (Lie (W.alloc (.cells (madeCells #[Value.int .u8 0] size) 5)) W.heap.size 0 (List.replicate size 0)) := zeros_lie W size 5
  have HN1 : Hid (Nw W (W.alloc (.cells (madeCells #[Value.int .u8 0] size) 5))) := nw_alloc _ _
  have HS1 : Hid ((W.alloc (.cells (madeCells #[Value.int .u8 0] size) 5)).heap.size = W.heap.size + 1) := by show _ = _; simp
  have H8 : Hid _ := h8
  clear hl h8
  go_enter Tryd.func67, Tryd.ntmps67
  go_wp2
  clear hmk
  generalize W.alloc (.cells (madeCells #[Value.int .u8 0] size) 5) = W1 at *
  go_loopw [7, 8, 9] (fun v av i wr => ∃ k : Nat, k ≤ high ∧ i = .int .i64 k ∧ Own wr (W.heap.size + 1) v (rowsN zp size k) ∧ Below (W.heap.size + 1) W1 wr ∧ ∃ ba oa ca, av = .slice (some ⟨ba, oa, none⟩) size ca ∧ ba < W.heap.size + 1 ∧ Lie W1 ba oa (abv zp size k)) (fun _ _ i _ => high - (intOf i).toNat)
  case atStart => exact ⟨0, Nat.zero_le _, rfl, Own.nil _ _, Below.refl _ _, W.heap.size, 0, size, rfl, by omega, by simpa [abv] using HZ1.out⟩
  case round =>
    obtain ⟨k, hk, rfl, ho, hbl, ba, oa, ca, rfl, hba, hla⟩ := hrel
    have HO : Hid _ := ho
    have HB : Hid _ := hbl
    have HA : Hid _ := hla
    have hsw : W.heap.size + 1 ≤ wr.heap.size := by have := hbl.size; rw [HS1.out] at this; exact this
    clear ho hbl hla
    by_cases hlt : k < high
    · have hk1 : (k + 1) * size ≤ zp.length := by rw [HZ.out]; exact Nat.mul_le_mul_right _ hlt
      have hk0 : k * size ≤ zp.length := Nat.le_trans (Nat.mul_le_mul_right _ (Nat.le_succ k)) hk1
      have q1 : (size : Int) * (k : Int) = ((k * size : Nat) : Int) := by rw [Int.mul_comm]; simp
      have q2 : (size : Int) * ((k : Int) + 1) = ((k * size + size : Nat) : Int) := by rw [Int.mul_comm, Int.add_mul]; simp
      have q3 : k * size + size ≤ zp.length := by have e : (k + 1) * size = k * size + size := by rw [Nat.add_mul, Nat.one_mul]
                                                  omega
      have q4 : k * size < c := by omega
      have q5 : k * size + size ≤ c := by omega
      have q6 : k * size + size - k * size = size := by omega
      have hrl := rowK_len zp size k hk1
      have hal := abv_len zp size k hk0
      have hnl := rowsN_len zp size k hk0
      have hnl2 : (rowsN zp size k).length ≤ 6000 := by
        rw [hnl]; calc k * (size + 1) ≤ 36 * 145 := Nat.mul_le_mul (by omega) (by omega)
           _ ≤ 6000 := by omega
      have lr : Lie W1 b (off + k * size) (rowK zp size k) := lie_sub HL1.out size k hk1
      have r8 := rowK_u8 zp size k H8.out
      have a8 := abv_u8 zp size k H8.out
      have HF : Hid (∀ w', Below (W.heap.size + 1) W1 w' → Calls Tryd.prog 100 #[.slice (some ⟨b, off + k * size, none⟩) size (c - k * size), .slice (some ⟨ba, oa, none⟩) size ca] w' fun e w2 => e = .returned (.int .i64 (best (rowK zp size k) (abv zp size k) : Int)) ∧ Nw w' w2) :=
        fun w' h => sl3best w' b (off + k * size) (c - k * size) ba oa ca size _ _ (by omega) hrl hal (Lie.below lr h (by omega)) (Lie.below HA.out h hba) r8 a8
      have hbest := best_le (rowK zp size k) (abv zp size k)
      have HG : Hid (∀ w', Below (W.heap.size + 1) W1 w' → Calls Tryd.prog 101 #[.int .i64 (best (rowK zp size k) (abv zp size k) : Int), .slice (some ⟨b, off + k * size, none⟩) size (c - k * size), .slice (some ⟨ba, oa, none⟩) size ca] w' fun e w2 => ∃ g, e = .returned (.slice (some ⟨g, 0, none⟩) size size) ∧ Nw w' w2 ∧ w'.heap.size ≤ g ∧ At w2 g (filt (best (rowK zp size k) (abv zp size k)) (rowK zp size k) (abv zp size k))) :=
        fun w' h => (sl3filter w' _ hbest b (off + k * size) (c - k * size) ba oa ca size _ _ _ (by omega) hrl hal (Lie.below lr h (by omega)) (Lie.below HA.out h hba) r8 a8 (filt_is _ _ _)).mono fun e w2 ⟨h1, h2, h3⟩ => ⟨_, h1, h2, Nat.le_refl _, h3⟩
      have hfl : (filt (best (rowK zp size k) (abv zp size k)) (rowK zp size k) (abv zp size k)).length = size := by rw [filt_len, hrl]
      have HN : Hid (rowsN zp size (k + 1) = rowsN zp size k ++ [(best (rowK zp size k) (abv zp size k) : Int)] ++ filt (best (rowK zp size k) (abv zp size k)) (rowK zp size k) (abv zp size k)) := rfl
      have HAB : Hid (abv zp size (k + 1) = rowK zp size k) := by show _ = _; simp [abv]
      have HLR : Hid _ := lr
      have HFL : Hid _ := hfl
      clear lr r8 a8 hrl hal hnl hk0 hk1 hfl
      generalize filt (best (rowK zp size k) (abv zp size k)) (rowK zp size k) (abv zp size k) = fs at *
      generalize best (rowK zp size k) (abv zp size k) = bk at *
      generalize rowsN zp size k = rs at *
      go_wp2_with fail
      refine Calls.mono (HF.out _ HB.out) ?_
      rintro e w3 ⟨rfl, h1⟩
      have B3 : Hid (Below (W.heap.size + 1) W1 w3) := HB.out.trans (Below.mono h1 hsw)
      have hs3 : W.heap.size + 1 ≤ w3.heap.size := Nat.le_trans hsw (Below.size h1)
      have O3 : Hid _ := Own.nw HO.out h1
      clear h1 HO HB HF
      have L4 : Hid (Lie (w3.alloc (.cells #[.int .u8 (bk : Int)] 5)) w3.heap.size 0 [(bk : Int)]) := lit_lie _ _ _ _ rfl
      have O5 : Hid (Own (w3.alloc (.cells #[.int .u8 (bk : Int)] 5)) (W.heap.size + 1) u7 rs) := Own.nw O3.out (nw_alloc _ _)
      go_wp2_with (first
        | (at_builtin; (refine wp_app _ rfl _ _ rfl (W.heap.size + 1) u7 rs [(bk : Int)] rfl O5.out w3.heap.size 0 1 1 rfl rfl L4.out ?c1 ?c2 ?_))
        | go_in)
      case c1 => omega
      case c2 => simp; omega
      intro v5 w5 h1 h2
      have O6 : Hid (Own w5 (W.heap.size + 1) v5 (rs ++ [(bk : Int)])) := h1
      have E6 : Hid (Ext u7 v5 w3 w5) := Nw.ext (nw_alloc _ _) h2
      have hs5 : W.heap.size + 1 ≤ w5.heap.size := Nat.le_trans hs3 (Ext.size E6.out)
      have B6 : Hid (Below (W.heap.size + 1) W1 w5) := B3.out.trans (Ext.below E6.out (fun q hq => (Own.lt O3.out q hq).1) hs3)
      clear h1 h2 L4 O5 O3 B3
      go_wp2_with fail
      refine Calls.mono (HG.out _ B6.out) ?_
      rintro e w4 ⟨g, rfl, h1, h2, h3⟩
      have B4 : Hid (Below (W.heap.size + 1) W1 w4) := B6.out.trans (Below.mono h1 hs5)
      have hs4 : W.heap.size + 1 ≤ w4.heap.size := Nat.le_trans hs5 (Below.size h1)
      have O4 : Hid (Own w4 (W.heap.size + 1) v5 (rs ++ [(bk : Int)])) := Own.nw O6.out h1
      have L6 : Hid (Lie w4 g 0 fs) := At.lie h3
      clear h1 h2 h3 O6 B6 HG E6
      go_wp2_with (first
        | (at_builtin; (refine wp_app _ rfl _ _ rfl (W.heap.size + 1) v5 (rs ++ [(bk : Int)]) fs rfl O4.out g 0 size size rfl HFL.out L6.out ?c1 hs4 ?_))
        | go_in)
      case c1 => simp; omega
      intro v6 w6 h1 h2
      have O7 : Hid (Own w6 (W.heap.size + 1) v6 (rowsN zp size (k + 1))) := by
        show Own w6 (W.heap.size + 1) v6 (rowsN zp size (k + 1))
        rw [HN.out]; simpa using h1
      have B7 : Hid (Below (W.heap.size + 1) W1 w6) := B4.out.trans (Ext.below h2 (fun q hq => (Own.lt O4.out q hq).1) hs4)
      clear h1 h2 L6 O4 B4
      go_wp2
      go_roundw
      case rel => exact ⟨k + 1, by omega, by go_num, O7.out, B7.out, b, off + k * size, _, rfl, by omega, by rw [HAB.out]; exact HLR.out⟩
      case measure => simp [intOf]; omega
    · have e : k = high := by omega
      subst e
      have N0 : Hid (Nw W wr) := Nw.trans HN1.out (Below.mono HB.out (by rw [HS1.out]; exact Nat.le_refl _))
      have O0 : Hid (Own wr W.heap.size u7 (ints ds)) := by
        have h := HO.out
        rw [HDS2.out] at h
        exact Own.base h (by omega)
      clear HO HB HA
      obtain ⟨g, c1, e1, r1, r2, r3, r4, r5⟩ := Own.some O0.out (by rw [HIL.out]; exact hd0)
      subst e1
      unfold maxLen at r4
      have A0 : Hid (At wr g (ints ds)) := r5
      clear r5 O0
      have A1 : Hid (At (wr.alloc (.cells #[.int .u8 120, .int .u8 1] 5)) g (ints ds)) := At.nw A0.out (nw_alloc _ _)
      have O1 : Hid (Own (wr.alloc (.cells #[.int .u8 120, .int .u8 1] 5)) wr.heap.size (.slice (some ⟨wr.heap.size, 0, none⟩) 2 2) [120, 1]) := Own.lit wr _ _ 2 _ rfl rfl (Nat.le_refl _) (by omega)
      have N1 : Hid (Nw W (wr.alloc (.cells #[.int .u8 120, .int .u8 1] 5))) := Nw.trans N0.out (nw_alloc _ _)
      have y0 : W.heap.size ≤ wr.heap.size := Below.size N0.out
      have y1 : Hid ((wr.alloc (.cells #[.int .u8 120, .int .u8 1] 5)).heap.size = wr.heap.size + 1) := by show _ = _; simp
      generalize bestL ds J = P at *
      have P1 : Hid _ := PB.out _ g c1 A1.out
      go_wp2_with fail
      refine Calls.mono P1.out ?_
      rintro e w2 ⟨g2, c3, rfl, h1, h2, h3⟩
      have O2 : Hid (Own w2 wr.heap.size (.slice (some ⟨wr.heap.size, 0, none⟩) 2 2) [120, 1]) := Own.nw O1.out h1
      have A2 : Hid (At w2 g (ints ds)) := At.nw A1.out h1
      have N2 : Hid (Nw W w2) := Nw.trans N1.out h1
      have L2 : Hid (Lie w2 g2 0 (ints P)) := At.lie h3
      have y2 : wr.heap.size ≤ w2.heap.size := by have := Below.size h1; rw [y1.out] at this; omega
      clear h1 h2 h3 O1 A1 A0 N0 N1 P1 PB y1
      go_wp2_with (first
        | (at_builtin; (refine wp_app _ rfl _ _ rfl wr.heap.size _ [120, 1] (ints P) rfl O2.out g2 0 P.length c3 rfl HLn.out L2.out ?c1 y2 ?_))
        | go_in)
      case c1 => simp; omega
      intro v3 w3 h1 h2
      have O3 : Hid (Own w3 wr.heap.size v3 ([120, 1] ++ ints P)) := h1
      have hb3 : Below wr.heap.size w2 w3 := Ext.below h2 (fun q hq => (Own.lt O2.out q hq).1) y2
      have N3 : Hid (Nw W w3) := Below.trans N2.out (Below.mono hb3 y0)
      have A3 : Hid (At w3 g (ints ds)) := At.below A2.out hb3 (by omega)
      have y3 : w2.heap.size ≤ w3.heap.size := Ext.size h2
      have hl3 : ([120, 1] ++ ints P).length ≤ 200000 := by rw [List.length_append, HLn.out]; simp; omega
      clear h1 h2 hb3 O2 A2 N2 L2
      generalize hz3 : [120, 1] ++ ints P = z3 at *
      have HZ3 : Hid _ := hz3
      clear hz3
      go_wp2_with fail
      refine Calls.mono (HAD.out _ _ _ A3.out) ?_
      rintro e w3 ⟨rfl, rfl⟩
      generalize adler (ints ds) = q at *
      go_wp2_with fail
      refine Calls.mono (sfour w3 q hab) ?_
      rintro e w4 ⟨rfl, h1, h2⟩
      have L4 : Hid (Lie w4 w3.heap.size 0 (four q)) := At.lie (own_at0 h2)
      have O4 : Hid (Own w4 wr.heap.size v3 z3) := Own.nw O3.out h1
      have N4 : Hid (Nw W w4) := Nw.trans N3.out h1
      have y4 : w3.heap.size ≤ w4.heap.size := Below.size h1
      clear h1 h2 O3 N3 A3 HAD
      go_wp2_with (first
        | (at_builtin; (refine wp_app _ rfl _ _ rfl wr.heap.size v3 z3 (four q) rfl O4.out w3.heap.size 0 4 4 rfl rfl L4.out ?c1 ?c2 ?_))
        | go_in)
      case c1 => omega
      case c2 => omega
      intro v5 w5 h1 h2
      have HR : Hid (Nw W w5 ∧ Own w5 W.heap.size v5 (pdata ds J)) := by
        refine ⟨Below.trans N4.out (Ext.below h2 (fun q hq => Nat.le_trans y0 (Own.lt O4.out q hq).1) (by omega)), ?_⟩
        rw [HDD.out]
        exact Own.base h1 y0
      clear h1 h2
      go_wp2
      go_ret
      exact ⟨_, rfl, HR.out⟩
end Go.Proofs.YteehoihkbcbbgaaDoor
