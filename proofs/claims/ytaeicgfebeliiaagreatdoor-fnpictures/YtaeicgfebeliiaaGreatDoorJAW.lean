/-
  What the specification's l3Pack answers; each theorem names its conditions.
  What the specification's EncodePng answers, and both where there is no picture; each theorem names its conditions.
  What FilterRow and UnfilterRow answer, of the specification, and where nothing may be filtered; each theorem names its conditions.
  The walk of the law FnPictures; each theorem names its conditions.
-/
import Derived.Test.YtaeicgfebeliiaaGreatDoorJAV
import Derived.Test.YtaeicgfebeliiaaGreatDoorJAN
import Derived.Test.YtaeicgfebeliiaaGreatDoorJAJ
namespace Go.Proofs.YtaeicgfebeliiaaGreatDoor
open Go.ChangeShapes Go.WideShapes Go.ChangeAt Go.RowKit
set_option linter.unusedVariables false

set_option maxHeartbeats 8000000 in
theorem spack (W : World) (b off c wide high : Nat) (zp : List Int) (hw : 1 ≤ wide ∧ wide ≤ 36) (hh : 1 ≤ high ∧ high ≤ 36) (hz : zp.length = high * (4 * wide)) (hc : zp.length ≤ c) (hcm : c ≤ 9223372036854775807) (h8 : ∀ z ∈ zp, 0 ≤ z ∧ z ≤ 255) (hl : Lie W b off zp) (ds : List Nat) (J : Nat) (hds : rowsN zp (4 * wide) high = ints ds) (hd8 : ∀ d ∈ ds, d < 256) (hdl : ds.length ≤ 6000) (hd0 : 0 < ds.length) (hJ : Ends (ints ds) J) :
    Calls Tryz.prog 46 #[.int .i64 (wide : Int), .int .i64 (high : Int), .slice (some ⟨b, off, none⟩) zp.length c] W fun e w' => ∃ v, e = .returned v ∧ Nw W w' ∧ Own w' W.heap.size v (pdata ds J) := by
  have PB : Hid (∀ w' g c2, At w' g (ints ds) → Calls Tryz.prog 67 #[.slice (some ⟨g, 0, none⟩) (ints ds).length c2] w' fun e w2 => ∃ g2 c3, e = .returned (.slice (some ⟨g2, 0, none⟩) (bestL ds J).length c3) ∧ Made w' w2 g2 (ints (bestL ds J))) := by
    intro w' g c2 hA
    rw [ints_len]
    exact sl2best w' g c2 ds J hJ hdl hd8 hA
  have HAD : Hid (∀ w' g c2, At w' g (ints ds) → Calls Tryz.prog 68 #[.slice (some ⟨g, 0, none⟩) (ints ds).length c2] w' fun e w2 => e = .returned (.int .u32 (adler (ints ds))) ∧ w2 = w') :=
    fun w' g c2 h => sl3adler w' (some ⟨g, 0, none⟩) c2 (ints ds) h.row (by rw [ints_len]; omega) (ints_u8 ds hd8)
  have hbL := bestL_len ds J hJ hdl
  have hab := adler_bd (ints ds)
  have HDD : Hid (pdata ds J = [120, 1] ++ ints (bestL ds J) ++ four (adler (ints ds))) := rfl
  have HLn : Hid ((ints (bestL ds J)).length = (bestL ds J).length) := ints_len _
  have HIL : Hid ((ints ds).length = ds.length) := ints_len ds
  have HDS : Hid _ := hds
  clear hJ hd8 hds
  have hsz : 4 * (wide : Int) = ((4 * wide : Nat) : Int) := by simp
  have hsb : 4 ≤ 4 * wide ∧ 4 * wide ≤ 144 := by omega
  have hok : RowOk (4 * wide) (4 * wide) := ⟨by omega, by omega, by omega, rfl⟩
  have hzl : zp.length ≤ 5184 := by rw [hz]; calc high * (4 * wide) ≤ 36 * 144 := Nat.mul_le_mul hh.2 (by omega)
       _ = 5184 := rfl
  generalize hsize : 4 * wide = size at *
  have HDS2 : Hid (rowsN zp size high = ints ds) := HDS.out
  clear HDS
  have HZ : Hid _ := hz
  clear hz hsize
  have hmk := run_make_row' (P := Tryz.prog) 22 5 (.int .u8 0) 1 Tryz.underlying22 Tryz.info5 rfl .i64 .i64 size (by omega) (by omega)
  have hbW := hl.1
  have HL1 : Hid (Lie (W.alloc (.cells (madeCells #[Value.int .u8 0] size) 5)) b off zp) := Lie.nw hl (nw_alloc _ _)
  have HZ1 : Hid (Lie (W.alloc (.cells (madeCells #[Value.int .u8 0] size) 5)) W.heap.size 0 (List.replicate size 0)) := zeros_lie W size 5
  have HN1 : Hid (Nw W (W.alloc (.cells (madeCells #[Value.int .u8 0] size) 5))) := nw_alloc _ _
  have HS1 : Hid ((W.alloc (.cells (madeCells #[Value.int .u8 0] size) 5)).heap.size = W.heap.size + 1) := by show _ = _; simp
  have H8 : Hid _ := h8
  clear hl h8
  go_enter Tryz.func46, Tryz.ntmps46
  go_wp2
  clear hmk
  generalize W.alloc (.cells (madeCells #[Value.int .u8 0] size) 5) = W1 at *
  go_loopw [7, 8, 9] (fun v av i wr => ∃ k : Nat, k ≤ high ∧ i = .int .i64 k ∧ Own wr (W.heap.size + 1) v (rowsN zp size k) ∧ Below (W.heap.size + 1) W1 wr ∧ ∃ ba oa ca, av = .slice (some ⟨ba, oa, none⟩) size ca ∧ ba < W.heap.size + 1 ∧ Lie W1 ba oa (abv zp size k)) (fun _ _ i _ => high - (intOf i).toNat)
  case atStart => exact ⟨0, Nat.zero_le _, rfl, Own.nil _ _, Below.refl _ _, W.heap.size, 0, size, rfl, by omega, by simpa [abv] using HZ1.out⟩
  case round =>
    obtain ⟨k, hk, rfl, ho, hbl, ba, oa, ca, rfl, hba, hla⟩ := hrel
    have HO : Hid _ := ho
    have HB : Hid _ := hbl
    have HA : Hid _ := hla
    have hsw : W.heap.size + 1 ≤ wr.heap.size := by have := hbl.size; rw [HS1.out] at this; exact this
    clear ho hbl hla
    by_cases hlt : k < high
    · have hk1 : (k + 1) * size ≤ zp.length := by rw [HZ.out]; exact Nat.mul_le_mul_right _ hlt
      have hk0 : k * size ≤ zp.length := Nat.le_trans (Nat.mul_le_mul_right _ (Nat.le_succ k)) hk1
      have q1 : (size : Int) * (k : Int) = ((k * size : Nat) : Int) := by rw [Int.mul_comm]; simp
      have q2 : (size : Int) * ((k : Int) + 1) = ((k * size + size : Nat) : Int) := by rw [Int.mul_comm, Int.add_mul]; simp
      have q3 : k * size + size ≤ zp.length := by have e : (k + 1) * size = k * size + size := by rw [Nat.add_mul, Nat.one_mul]
                                                  omega
      have q4 : k * size < c := by omega
      have q5 : k * size + size ≤ c := by omega
      have q6 : k * size + size - k * size = size := by omega
      have hrl := rowK_len zp size k hk1
      have hal := abv_len zp size k hk0
      have hnl := rowsN_len zp size k hk0
      have hnl2 : (rowsN zp size k).length ≤ 6000 := by
        rw [hnl]; calc k * (size + 1) ≤ 36 * 145 := Nat.mul_le_mul (by omega) (by omega)
           _ ≤ 6000 := by omega
      have lr : Lie W1 b (off + k * size) (rowK zp size k) := lie_sub HL1.out size k hk1
      have r8 := rowK_u8 zp size k H8.out
      have a8 := abv_u8 zp size k H8.out
      have HF : Hid (∀ w', Below (W.heap.size + 1) W1 w' → Calls Tryz.prog 66 #[.slice (some ⟨b, off + k * size, none⟩) size (c - k * size), .slice (some ⟨ba, oa, none⟩) size ca] w' fun e w2 => e = .returned (.int .i64 (best (rowK zp size k) (abv zp size k) : Int)) ∧ Nw w' w2) :=
        fun w' h => sl3best w' b (off + k * size) (c - k * size) ba oa ca size _ _ (by omega) hrl hal (Lie.below lr h (by omega)) (Lie.below HA.out h hba) r8 a8
      have hbest := best_le (rowK zp size k) (abv zp size k)
      have HG : Hid (∀ w', Below (W.heap.size + 1) W1 w' → Calls Tryz.prog 36 #[.int .i64 (best (rowK zp size k) (abv zp size k) : Int), .slice (some ⟨b, off + k * size, none⟩) size (c - k * size), .slice (some ⟨ba, oa, none⟩) size ca] w' fun e w2 => ∃ g, e = .returned (.slice (some ⟨g, 0, none⟩) size size) ∧ Nw w' w2 ∧ w'.heap.size ≤ g ∧ At w2 g (filt (best (rowK zp size k) (abv zp size k)) (rowK zp size k) (abv zp size k))) :=
        fun w' h => (sl3filter w' _ hbest b (off + k * size) (c - k * size) ba oa ca size _ _ _ (by omega) hrl hal (Lie.below lr h (by omega)) (Lie.below HA.out h hba) r8 a8 (filt_is _ _ _)).mono fun e w2 ⟨h1, h2, h3⟩ => ⟨_, h1, h2, Nat.le_refl _, h3⟩
      have hfl : (filt (best (rowK zp size k) (abv zp size k)) (rowK zp size k) (abv zp size k)).length = size := by rw [filt_len, hrl]
      have HN : Hid (rowsN zp size (k + 1) = rowsN zp size k ++ [(best (rowK zp size k) (abv zp size k) : Int)] ++ filt (best (rowK zp size k) (abv zp size k)) (rowK zp size k) (abv zp size k)) := rfl
      have HAB : Hid (abv zp size (k + 1) = rowK zp size k) := by show _ = _; simp [abv]
      have HLR : Hid _ := lr
      have HFL : Hid _ := hfl
      clear lr r8 a8 hrl hal hnl hk0 hk1 hfl
      generalize filt (best (rowK zp size k) (abv zp size k)) (rowK zp size k) (abv zp size k) = fs at *
      generalize best (rowK zp size k) (abv zp size k) = bk at *
      generalize rowsN zp size k = rs at *
      go_wp2_with fail
      refine Calls.mono (HF.out _ HB.out) ?_
      rintro e w3 ⟨rfl, h1⟩
      have B3 : Hid (Below (W.heap.size + 1) W1 w3) := HB.out.trans (Below.mono h1 hsw)
      have hs3 : W.heap.size + 1 ≤ w3.heap.size := Nat.le_trans hsw (Below.size h1)
      have O3 : Hid _ := Own.nw HO.out h1
      clear h1 HO HB HF
      have L4 : Hid (Lie (w3.alloc (.cells #[.int .u8 (bk : Int)] 5)) w3.heap.size 0 [(bk : Int)]) := lit_lie _ _ _ _ rfl
      have O5 : Hid (Own (w3.alloc (.cells #[.int .u8 (bk : Int)] 5)) (W.heap.size + 1) u7 rs) := Own.nw O3.out (nw_alloc _ _)
      go_wp2_with (first
        | (at_builtin; (refine wp_app _ rfl _ _ rfl (W.heap.size + 1) u7 rs [(bk : Int)] rfl O5.out w3.heap.size 0 1 1 rfl rfl L4.out ?c1 ?c2 ?_))
        | go_in)
      case c1 => omega
      case c2 => simp; omega
      intro v5 w5 h1 h2
      have O6 : Hid (Own w5 (W.heap.size + 1) v5 (rs ++ [(bk : Int)])) := h1
      have E6 : Hid (Ext u7 v5 w3 w5) := Nw.ext (nw_alloc _ _) h2
      have hs5 : W.heap.size + 1 ≤ w5.heap.size := Nat.le_trans hs3 (Ext.size E6.out)
      have B6 : Hid (Below (W.heap.size + 1) W1 w5) := B3.out.trans (Ext.below E6.out (fun q hq => (Own.lt O3.out q hq).1) hs3)
      clear h1 h2 L4 O5 O3 B3
      go_wp2_with fail
      refine Calls.mono (HG.out _ B6.out) ?_
      rintro e w4 ⟨g, rfl, h1, h2, h3⟩
      have B4 : Hid (Below (W.heap.size + 1) W1 w4) := B6.out.trans (Below.mono h1 hs5)
      have hs4 : W.heap.size + 1 ≤ w4.heap.size := Nat.le_trans hs5 (Below.size h1)
      have O4 : Hid (Own w4 (W.heap.size + 1) v5 (rs ++ [(bk : Int)])) := Own.nw O6.out h1
      have L6 : Hid (Lie w4 g 0 fs) := At.lie h3
      clear h1 h2 h3 O6 B6 HG E6
      go_wp2_with (first
        | (at_builtin; (refine wp_app _ rfl _ _ rfl (W.heap.size + 1) v5 (rs ++ [(bk : Int)]) fs rfl O4.out g 0 size size rfl HFL.out L6.out ?c1 hs4 ?_))
        | go_in)
      case c1 => simp; omega
      intro v6 w6 h1 h2
      have O7 : Hid (Own w6 (W.heap.size + 1) v6 (rowsN zp size (k + 1))) := by
        show Own w6 (W.heap.size + 1) v6 (rowsN zp size (k + 1))
        rw [HN.out]; simpa using h1
      have B7 : Hid (Below (W.heap.size + 1) W1 w6) := B4.out.trans (Ext.below h2 (fun q hq => (Own.lt O4.out q hq).1) hs4)
      clear h1 h2 L6 O4 B4
      go_wp2
      go_roundw
      case rel => exact ⟨k + 1, by omega, by go_num, O7.out, B7.out, b, off + k * size, _, rfl, by omega, by rw [HAB.out]; exact HLR.out⟩
      case measure => simp [intOf]; omega
    · have e : k = high := by omega
      subst e
      have N0 : Hid (Nw W wr) := Nw.trans HN1.out (Below.mono HB.out (by rw [HS1.out]; exact Nat.le_refl _))
      have O0 : Hid (Own wr W.heap.size u7 (ints ds)) := by
        have h := HO.out
        rw [HDS2.out] at h
        exact Own.base h (by omega)
      clear HO HB HA
      obtain ⟨g, c1, e1, r1, r2, r3, r4, r5⟩ := Own.some O0.out (by rw [HIL.out]; exact hd0)
      subst e1
      unfold maxLen at r4
      have A0 : Hid (At wr g (ints ds)) := r5
      clear r5 O0
      have A1 : Hid (At (wr.alloc (.cells #[.int .u8 120, .int .u8 1] 5)) g (ints ds)) := At.nw A0.out (nw_alloc _ _)
      have O1 : Hid (Own (wr.alloc (.cells #[.int .u8 120, .int .u8 1] 5)) wr.heap.size (.slice (some ⟨wr.heap.size, 0, none⟩) 2 2) [120, 1]) := Own.lit wr _ _ 2 _ rfl rfl (Nat.le_refl _) (by omega)
      have N1 : Hid (Nw W (wr.alloc (.cells #[.int .u8 120, .int .u8 1] 5))) := Nw.trans N0.out (nw_alloc _ _)
      have y0 : W.heap.size ≤ wr.heap.size := Below.size N0.out
      have y1 : Hid ((wr.alloc (.cells #[.int .u8 120, .int .u8 1] 5)).heap.size = wr.heap.size + 1) := by show _ = _; simp
      generalize bestL ds J = P at *
      have P1 : Hid _ := PB.out _ g c1 A1.out
      go_wp2_with fail
      refine Calls.mono P1.out ?_
      rintro e w2 ⟨g2, c3, rfl, h1, h2, h3⟩
      have O2 : Hid (Own w2 wr.heap.size (.slice (some ⟨wr.heap.size, 0, none⟩) 2 2) [120, 1]) := Own.nw O1.out h1
      have A2 : Hid (At w2 g (ints ds)) := At.nw A1.out h1
      have N2 : Hid (Nw W w2) := Nw.trans N1.out h1
      have L2 : Hid (Lie w2 g2 0 (ints P)) := At.lie h3
      have y2 : wr.heap.size ≤ w2.heap.size := by have := Below.size h1; rw [y1.out] at this; omega
      clear h1 h2 h3 O1 A1 A0 N0 N1 P1 PB y1
      go_wp2_with (first
        | (at_builtin; (refine wp_app _ rfl _ _ rfl wr.heap.size _ [120, 1] (ints P) rfl O2.out g2 0 P.length c3 rfl HLn.out L2.out ?c1 y2 ?_))
        | go_in)
      case c1 => simp; omega
      intro v3 w3 h1 h2
      have O3 : Hid (Own w3 wr.heap.size v3 ([120, 1] ++ ints P)) := h1
      have hb3 : Below wr.heap.size w2 w3 := Ext.below h2 (fun q hq => (Own.lt O2.out q hq).1) y2
      have N3 : Hid (Nw W w3) := Below.trans N2.out (Below.mono hb3 y0)
      have A3 : Hid (At w3 g (ints ds)) := At.below A2.out hb3 (by omega)
      have y3 : w2.heap.size ≤ w3.heap.size := Ext.size h2
      have hl3 : ([120, 1] ++ ints P).length ≤ 200000 := by rw [List.length_append, HLn.out]; simp; omega
      clear h1 h2 hb3 O2 A2 N2 L2
      generalize hz3 : [120, 1] ++ ints P = z3 at *
      have HZ3 : Hid _ := hz3
      clear hz3
      go_wp2_with fail
      refine Calls.mono (HAD.out _ _ _ A3.out) ?_
      rintro e w3 ⟨rfl, rfl⟩
      generalize adler (ints ds) = q at *
      go_wp2_with fail
      refine Calls.mono (sfour w3 q hab) ?_
      rintro e w4 ⟨rfl, h1, h2⟩
      have L4 : Hid (Lie w4 w3.heap.size 0 (four q)) := At.lie (own_at0 h2)
      have O4 : Hid (Own w4 wr.heap.size v3 z3) := Own.nw O3.out h1
      have N4 : Hid (Nw W w4) := Nw.trans N3.out h1
      have y4 : w3.heap.size ≤ w4.heap.size := Below.size h1
      clear h1 h2 O3 N3 A3 HAD
      go_wp2_with (first
        | (at_builtin; (refine wp_app _ rfl _ _ rfl wr.heap.size v3 z3 (four q) rfl O4.out w3.heap.size 0 4 4 rfl rfl L4.out ?c1 ?c2 ?_))
        | go_in)
      case c1 => omega
      case c2 => omega
      intro v5 w5 h1 h2
      have HR : Hid (Nw W w5 ∧ Own w5 W.heap.size v5 (pdata ds J)) := by
        refine ⟨Below.trans N4.out (Ext.below h2 (fun q hq => Nat.le_trans y0 (Own.lt O4.out q hq).1) (by omega)), ?_⟩
        rw [HDD.out]
        exact Own.base h1 y0
      clear h1 h2
      go_wp2
      go_ret
      exact ⟨_, rfl, HR.out⟩
end Go.Proofs.YtaeicgfebeliiaaGreatDoor
namespace Go.Proofs.YtaeicgfebeliiaaGreatDoor
open Go.ChangeShapes Go.WideShapes Go.ChangeAt Go.RowKit
set_option linter.unusedVariables false

set_option maxHeartbeats 8000000 in
theorem sl3encode (W : World) (wide high b c : Nat) (zp : List Int) (ds : List Nat) (J : Nat) (hw : 1 ≤ wide ∧ wide ≤ 36) (hh : 1 ≤ high ∧ high ≤ 36) (hz : zp.length = high * (4 * wide)) (hc : zp.length ≤ c) (hcm : c ≤ 9223372036854775807) (h8 : ∀ z ∈ zp, 0 ≤ z ∧ z ≤ 255) (ha : At W b zp)
    (hds : rowsN zp (4 * wide) high = ints ds) (hd8 : ∀ d ∈ ds, d < 256) (hdl : ds.length ≤ 6000) (hd0 : 0 < ds.length) (hJ : Ends (ints ds) J) (hp8 : ∀ d ∈ bestL ds J, d < 256) :
    Calls Tryz.prog 21 #[.int .i64 (wide : Int), .int .i64 (high : Int), .slice (some ⟨b, 0, none⟩) zp.length c] W fun e w' => ∃ v, e = .returned v ∧ Nw W w' ∧ Own w' W.heap.size v (png wide high (pdata ds J)) := by
  have hzl : zp.length ≤ 5184 := by rw [hz]; calc high * (4 * wide) ≤ 36 * 144 := Nat.mul_le_mul hh.2 (by omega)
       _ = 5184 := rfl
  have hbW := ha.1
  have HL : Hid (Lie W b 0 zp) := At.lie ha
  have FP : Hid (∀ w', Below W.heap.size W w' → Calls Tryz.prog 46 #[.int .i64 (wide : Int), .int .i64 (high : Int), .slice (some ⟨b, 0, none⟩) zp.length c] w' fun e w2 => ∃ v, e = .returned v ∧ Nw w' w2 ∧ Own w2 w'.heap.size v (pdata ds J)) :=
    fun w' h => spack w' b 0 c wide high zp hw hh hz hc hcm h8 (Lie.below HL.out h hbW) ds J hds hd8 hdl hd0 hJ
  have hpl : (pdata ds J).length ≤ 200000 ∧ 6 ≤ (pdata ds J).length := by
    have h1 := bestL_len ds J hJ hdl
    have h2 : (pdata ds J).length = (bestL ds J).length + 6 := by simp [pdata, ints_len, four]
    omega
  have P8 : Hid _ := pdata_u8 ds J hp8
  have D8 : Hid _ := head_u8 wide high hw.2 hh.2
  clear hz h8 ha hds hd8 hJ hp8
  generalize pdata ds J = pd at *
  go_enter Tryz.func21, Tryz.ntmps21
  go_wp2_with fail
  refine Calls.mono (sfour W (wide : Int) (by omega)) ?_
  rintro e w1 ⟨rfl, h1, h2⟩
  have O1 : Hid (Own w1 W.heap.size (.slice (some ⟨W.heap.size, 0, none⟩) 4 4) (four (wide : Int))) := h2
  have B1 : Hid (Below W.heap.size W w1) := h1
  have z1 : W.heap.size ≤ w1.heap.size := Below.size h1
  clear h1 h2
  go_wp2_with fail
  refine Calls.mono (sfour w1 (high : Int) (by omega)) ?_
  rintro e w2 ⟨rfl, h1, h2⟩
  have O2 : Hid (Own w2 W.heap.size (.slice (some ⟨W.heap.size, 0, none⟩) 4 4) (four (wide : Int))) := Own.nw O1.out h1
  have L2 : Hid (Lie w2 w1.heap.size 0 (four (high : Int))) := At.lie (own_at0 h2)
  have B2 : Hid (Below W.heap.size W w2) := Below.trans B1.out (Below.mono h1 z1)
  have z2 : W.heap.size ≤ w2.heap.size := Below.size B2.out
  clear h1 h2 O1 B1
  go_wp2_with (first
    | (at_builtin; (refine wp_app _ rfl _ _ rfl W.heap.size _ (four (wide : Int)) (four (high : Int)) rfl O2.out w1.heap.size 0 4 4 rfl rfl L2.out ?c1 z2 ?_))
    | go_in)
  case c1 => simp [four]
  intro v2 w3 h1 h2
  have O3 : Hid (Own (w3.alloc (.cells #[.int .u8 8, .int .u8 6, .int .u8 0, .int .u8 0, .int .u8 0] 5)) W.heap.size v2 (four (wide : Int) ++ four (high : Int))) := Own.nw h1 (nw_alloc _ _)
  have b3 : Below W.heap.size W w3 := Below.trans B2.out (Ext.below h2 (fun q hq => (Own.lt O2.out q hq).1) z2)
  have y3 : W.heap.size ≤ w3.heap.size := Below.size b3
  have B3 : Hid (Below W.heap.size W (w3.alloc (.cells #[.int .u8 8, .int .u8 6, .int .u8 0, .int .u8 0, .int .u8 0] 5))) := b3.alloc y3 _
  have z3 : W.heap.size ≤ (w3.alloc (.cells #[.int .u8 8, .int .u8 6, .int .u8 0, .int .u8 0, .int .u8 0] 5)).heap.size := Below.size B3.out
  have L3 : Hid (Lie (w3.alloc (.cells #[.int .u8 8, .int .u8 6, .int .u8 0, .int .u8 0, .int .u8 0] 5)) w3.heap.size 0 [8, 6, 0, 0, 0]) := lit_lie _ _ _ _ rfl
  clear h1 h2 b3 O2 B2 L2
  go_wp2_with (first
    | (at_builtin; (refine wp_app _ rfl _ _ rfl W.heap.size v2 (four (wide : Int) ++ four (high : Int)) [8, 6, 0, 0, 0] rfl O3.out w3.heap.size 0 5 5 rfl rfl L3.out ?c1 z3 ?_))
    | go_in)
  case c1 => simp [four]
  intro v4 w4 h1 h2
  have O4 : Hid (Own w4 W.heap.size v4 (head13 wide high)) := h1
  have B4 : Hid (Below W.heap.size W w4) := Below.trans B3.out (Ext.below h2 (fun q hq => (Own.lt O3.out q hq).1) z3)
  have z4 : W.heap.size ≤ w4.heap.size := Below.size B4.out
  clear h1 h2 O3 B3 L3
  obtain ⟨g4, c4, rfl, q1, q2, q3, q4, q5⟩ := Own.some O4.out (by rw [head_len]; omega)
  have A4 : Hid (At w4 g4 (head13 wide high)) := q5
  clear q5 O4
  unfold maxLen at q4
  go_wp2_with fail
  refine Calls.mono (smark w4) ?_
  rintro e w5 ⟨rfl, h1, h2⟩
  have O5 : Hid (Own w5 w4.heap.size (.slice (some ⟨w4.heap.size, 0, none⟩) 8 8) mark8) := h2
  have A5 : Hid (At w5 g4 (head13 wide high)) := At.nw A4.out h1
  have B5 : Hid (Below W.heap.size W w5) := Below.trans B4.out (Below.mono h1 z4)
  have z5 : w4.heap.size ≤ w5.heap.size := Below.size h1
  clear h1 h2 A4 B4
  have C1 : Hid _ := schunk w5 w4.heap.size (.slice (some ⟨w4.heap.size, 0, none⟩) 8 8) mark8 sIHDR (some ⟨g4, 0, none⟩) c4 (head13 wide high) (by decide) (by decide) (by simp [mark8]) D8.out (by rw [head_len]; omega) (by simp) z5 O5.out (Or.inr ⟨g4, 0, rfl, At.lie A5.out, by simp [Value.ownBlock]; omega⟩)
  go_wp2_with fail
  refine Calls.mono C1.out ?_
  rintro e w6 ⟨v6, rfl, h1, h2⟩
  have hcl := chunk_len (strInts sIHDR) (head13 wide high)
  have hzA : (mark8 ++ chunk (strInts sIHDR) (head13 wide high)).length ≤ 100 := by rw [List.length_append, hcl, head_len]; decide
  clear hcl
  have HPN : Hid (png wide high pd = mark8 ++ chunk (strInts sIHDR) (head13 wide high) ++ chunk (strInts sIDAT) pd ++ chunk (strInts sIEND) []) := rfl
  have O6 : Hid (Own w6 w4.heap.size v6 (mark8 ++ chunk (strInts sIHDR) (head13 wide high))) := h1
  have B6 : Hid (Below W.heap.size W w6) := Below.trans B5.out (Ext.below h2 (fun q hq => Nat.le_trans z4 (Own.lt O5.out q hq).1) (by omega))
  have z6 : w5.heap.size ≤ w6.heap.size := Ext.size h2
  clear h1 h2 O5 A5 B5 C1 D8
  generalize mark8 ++ chunk (strInts sIHDR) (head13 wide high) = zA at *
  go_wp2_with fail
  refine Calls.mono (FP.out _ B6.out) ?_
  rintro e w8 ⟨v8, rfl, h1, h2⟩
  obtain ⟨g8, c8, rfl, s1, s2, s3, s4, s5⟩ := Own.some h2 (by omega)
  have A8 : Hid (At w8 g8 pd) := s5
  have O8 : Hid (Own w8 w4.heap.size v6 zA) := Own.nw O6.out h1
  have B8 : Hid (Below W.heap.size W w8) := Below.trans B6.out (Below.mono h1 (by omega))
  have z8 : w6.heap.size ≤ w8.heap.size := Below.size h1
  have hne : v6.ownBlock ≠ some g8 := by
    intro e
    have := (Own.lt O6.out g8 e).2
    omega
  clear h1 h2 s5 FP B6 O6
  unfold maxLen at s4
  have C2 : Hid _ := schunk w8 w4.heap.size v6 zA sIDAT (some ⟨g8, 0, none⟩) c8 pd (by decide) (by decide) (by omega) P8.out (by omega) (by simp) (by omega) O8.out (Or.inr ⟨g8, 0, rfl, At.lie A8.out, hne⟩)
  go_wp2_with fail
  refine Calls.mono C2.out ?_
  rintro e w9 ⟨v9, rfl, h1, h2⟩
  have O9 : Hid (Own w9 w4.heap.size v9 (zA ++ chunk (strInts sIDAT) pd)) := h1
  have B9 : Hid (Below W.heap.size W w9) := Below.trans B8.out (Ext.below h2 (fun q hq => Nat.le_trans z4 (Own.lt O8.out q hq).1) (by omega))
  have z9 : w8.heap.size ≤ w9.heap.size := Ext.size h2
  have hl9 : (zA ++ chunk (strInts sIDAT) pd).length ≤ 300000 := by
    have e0 := chunk_len (strInts sIDAT) pd
    have e1 : (strInts sIDAT).length = 4 := rfl
    rw [List.length_append]
    omega
  clear h1 h2 B8 O8 C2 P8 A8 hne
  generalize zA ++ chunk (strInts sIDAT) pd = zB at *
  have C3 : Hid (Calls Tryz.prog 44 #[v9, .string sIEND, .slice none 0 0] w9 fun e w' => ∃ v', e = .returned v' ∧ Own w' w4.heap.size v' (zB ++ chunk (strInts sIEND) []) ∧ Ext v9 v' w9 w') := schunk w9 w4.heap.size v9 zB sIEND none 0 [] (by decide) (by decide) (by omega) (by simp) (by simp) (by simp) (by omega) O9.out (Or.inl ⟨rfl, rfl⟩)
  go_wp2_with fail
  refine Calls.mono C3.out ?_
  rintro e w10 ⟨v10, rfl, h1, h2⟩
  have HR : Hid (Nw W w10 ∧ Own w10 W.heap.size v10 (png wide high pd)) := by
    refine ⟨Below.trans B9.out (Ext.below h2 (fun q hq => Nat.le_trans z4 (Own.lt O9.out q hq).1) (by omega)), ?_⟩
    rw [HPN.out]
    exact Own.base h1 z4
  clear h1 h2
  go_wp2
  go_ret
  exact ⟨_, rfl, HR.out⟩

theorem sl3side (w : World) (k : Int) : Calls Tryz.prog 20 #[.int .i64 k] w fun e w' => e = .returned (.bool (decide (1 ≤ k ∧ k ≤ 36))) ∧ w' = w := by
  have H : Hid _ := sl1In w k 1 36
  generalize decide (1 ≤ k ∧ k ≤ 36) = q at *
  go_enter Tryz.func20, Tryz.ntmps20
  go_wp2_with fail
  refine Calls.mono H.out ?_
  rintro e w1 ⟨rfl, rfl⟩
  go_wp2
  go_ret
  exact ⟨rfl, rfl⟩
set_option maxHeartbeats 1000000 in
theorem sencode (W : World) (wide high b c : Nat) (zp : List Int) (ds : List Nat) (J : Nat) (hw : 1 ≤ wide ∧ wide ≤ 36) (hh : 1 ≤ high ∧ high ≤ 36) (hz : zp.length = high * (4 * wide)) (hc : zp.length ≤ c) (hcm : c ≤ 9223372036854775807) (h8 : ∀ z ∈ zp, 0 ≤ z ∧ z ≤ 255) (ha : At W b zp)
    (hds : rowsN zp (4 * wide) high = ints ds) (hd8 : ∀ d ∈ ds, d < 256) (hdl : ds.length ≤ 6000) (hd0 : 0 < ds.length) (hJ : Ends (ints ds) J) (hp8 : ∀ d ∈ bestL ds J, d < 256) :
    Calls Tryz.prog 6 #[.int .i64 (wide : Int), .int .i64 (high : Int), .slice (some ⟨b, 0, none⟩) zp.length c] W fun e w' => ∃ v, e = .returned (.tuple #[v, .bool true]) ∧ Nw W w' ∧ Own w' W.heap.size v (png wide high (pdata ds J)) := by
  have S1 : Hid _ := sl3side W (wide : Int)
  have e1 : decide (1 ≤ (wide : Int) ∧ (wide : Int) ≤ 36) = true := by simp; omega
  rw [e1] at S1
  have S2 : Hid _ := sl3side W (high : Int)
  have e2 : decide (1 ≤ (high : Int) ∧ (high : Int) ≤ 36) = true := by simp; omega
  rw [e2] at S2
  have HE : Hid _ := sl3encode W wide high b c zp ds J hw hh hz hc hcm h8 ha hds hd8 hdl hd0 hJ hp8
  have e3 : 4 * (wide : Int) * (high : Int) = (zp.length : Int) := by rw [hz, Nat.mul_comm]; simp
  have hzl : zp.length ≤ 5184 := by rw [hz]; calc high * (4 * wide) ≤ 36 * 144 := Nat.mul_le_mul hh.2 (by omega)
       _ = 5184 := rfl
  have e4 : ((zp.length : Int) != (zp.length : Int)) = false := by simp
  clear hz h8 ha hds hd8 hJ hp8 e1 e2
  generalize png wide high (pdata ds J) = o at *
  go_enter Tryz.func6, Tryz.ntmps6
  go_wp2_with fail
  refine Calls.mono S1.out ?_
  rintro e W ⟨rfl, rfl⟩
  go_wp2_with fail
  refine Calls.mono S2.out ?_
  rintro e W ⟨rfl, rfl⟩
  clear S1 S2
  go_wp2_with fail
  refine Calls.mono HE.out ?_
  rintro e w1 ⟨v, rfl, h1, h2⟩
  have HR : Hid _ := And.intro h1 h2
  clear h1 h2 HE
  go_wp2
  go_ret2
  exact ⟨_, rfl, HR.out⟩
set_option maxHeartbeats 1000000 in
theorem iencode_no (W : World) (wide high : Int) (a : Option Addr) (n c : Nat) (hn : n ≤ 1048576) (h : ¬ ((1 ≤ wide ∧ wide ≤ 36) ∧ (1 ≤ high ∧ high ≤ 36) ∧ (n : Int) = 4 * wide * high)) :
    Calls Tryz.prog 5 #[.int .i64 wide, .int .i64 high, .slice a n c] W fun e w' => e = .returned (.tuple #[.slice none 0 0, .bool false]) ∧ w' = W := by
  have S1 : Hid _ := igoodSide W wide
  have S2 : Hid _ := igoodSide W high
  by_cases h1 : 1 ≤ wide ∧ wide ≤ 36
  · have e1 : decide (1 ≤ wide ∧ wide ≤ 36) = true := by simp; omega
    rw [e1] at S1
    by_cases h2 : 1 ≤ high ∧ high ≤ 36
    · have e2 : decide (1 ≤ high ∧ high ≤ 36) = true := by simp; omega
      rw [e2] at S2
      have h3 : (n : Int) ≠ 4 * wide * high := fun e => h ⟨h1, h2, e⟩
      have hb : 0 ≤ 4 * wide * high ∧ 4 * wide * high ≤ 5184 := by
        have p : 4 * wide * high ≤ 144 * 36 := Int.mul_le_mul (show 4 * wide ≤ 144 by omega) h2.2 (by omega) (by omega)
        have q := Int.mul_nonneg (a := 4 * wide) (b := high) (by omega) (by omega)
        omega
      have e3 : ((n : Int) != 4 * wide * high) = true := by simp [h3]
      generalize hP : 4 * wide * high = P at *
      clear h e1 e2 h3
      go_enter Tryz.func5, Tryz.ntmps5
      go_wp2_with fail
      refine Calls.mono S1.out ?_
      rintro e W ⟨rfl, rfl⟩
      go_wp2_with fail
      refine Calls.mono S2.out ?_
      rintro e W ⟨rfl, rfl⟩
      go_wp2
      go_ret2
      exact ⟨rfl, rfl⟩
    · have e2 : decide (1 ≤ high ∧ high ≤ 36) = false := by simp; omega
      rw [e2] at S2
      clear h e1 e2 h2
      go_enter Tryz.func5, Tryz.ntmps5
      go_wp2_with fail
      refine Calls.mono S1.out ?_
      rintro e W ⟨rfl, rfl⟩
      go_wp2_with fail
      refine Calls.mono S2.out ?_
      rintro e W ⟨rfl, rfl⟩
      go_wp2
      go_ret2
      exact ⟨rfl, rfl⟩
  · have e1 : decide (1 ≤ wide ∧ wide ≤ 36) = false := by simp; omega
    rw [e1] at S1
    clear h e1 h1 S2
    go_enter Tryz.func5, Tryz.ntmps5
    go_wp2_with fail
    refine Calls.mono S1.out ?_
    rintro e W ⟨rfl, rfl⟩
    go_wp2
    go_ret2
    exact ⟨rfl, rfl⟩
set_option maxHeartbeats 1000000 in
theorem sencode_no (W : World) (wide high : Int) (a : Option Addr) (n c : Nat) (hn : n ≤ 1048576) (h : ¬ ((1 ≤ wide ∧ wide ≤ 36) ∧ (1 ≤ high ∧ high ≤ 36) ∧ (n : Int) = 4 * wide * high)) :
    Calls Tryz.prog 6 #[.int .i64 wide, .int .i64 high, .slice a n c] W fun e w' => e = .returned (.tuple #[.slice none 0 0, .bool false]) ∧ w' = W := by
  have S1 : Hid _ := sl3side W wide
  have S2 : Hid _ := sl3side W high
  by_cases h1 : 1 ≤ wide ∧ wide ≤ 36
  · have e1 : decide (1 ≤ wide ∧ wide ≤ 36) = true := by simp; omega
    rw [e1] at S1
    by_cases h2 : 1 ≤ high ∧ high ≤ 36
    · have e2 : decide (1 ≤ high ∧ high ≤ 36) = true := by simp; omega
      rw [e2] at S2
      have h3 : (n : Int) ≠ 4 * wide * high := fun e => h ⟨h1, h2, e⟩
      have hb : 0 ≤ 4 * wide * high ∧ 4 * wide * high ≤ 5184 := by
        have p : 4 * wide * high ≤ 144 * 36 := Int.mul_le_mul (show 4 * wide ≤ 144 by omega) h2.2 (by omega) (by omega)
        have q := Int.mul_nonneg (a := 4 * wide) (b := high) (by omega) (by omega)
        omega
      have e3 : ((n : Int) != 4 * wide * high) = true := by simp [h3]
      generalize hP : 4 * wide * high = P at *
      clear h e1 e2 h3
      go_enter Tryz.func6, Tryz.ntmps6
      go_wp2_with fail
      refine Calls.mono S1.out ?_
      rintro e W ⟨rfl, rfl⟩
      go_wp2_with fail
      refine Calls.mono S2.out ?_
      rintro e W ⟨rfl, rfl⟩
      go_wp2
      go_ret2
      exact ⟨rfl, rfl⟩
    · have e2 : decide (1 ≤ high ∧ high ≤ 36) = false := by simp; omega
      rw [e2] at S2
      clear h e1 e2 h2
      go_enter Tryz.func6, Tryz.ntmps6
      go_wp2_with fail
      refine Calls.mono S1.out ?_
      rintro e W ⟨rfl, rfl⟩
      go_wp2_with fail
      refine Calls.mono S2.out ?_
      rintro e W ⟨rfl, rfl⟩
      go_wp2
      go_ret2
      exact ⟨rfl, rfl⟩
  · have e1 : decide (1 ≤ wide ∧ wide ≤ 36) = false := by simp; omega
    rw [e1] at S1
    clear h e1 h1 S2
    go_enter Tryz.func6, Tryz.ntmps6
    go_wp2_with fail
    refine Calls.mono S1.out ?_
    rintro e W ⟨rfl, rfl⟩
    go_wp2
    go_ret2
    exact ⟨rfl, rfl⟩
end Go.Proofs.YtaeicgfebeliiaaGreatDoor
namespace Go.Proofs.YtaeicgfebeliiaaGreatDoor
open Go.ChangeShapes Go.WideShapes Go.ChangeAt Go.RowKit
set_option linter.unusedVariables false

theorem sl3row_yes (w : World) (a1 a2 : Option Addr) (n c1 c2 : Nat) (h : RowOk n n) : Calls Tryz.prog 35 #[.slice a1 n c1, .slice a2 n c2] w fun e w' => e = .returned (.bool true) ∧ w' = w := by
  obtain ⟨h1, h2, h3, _⟩ := h
  have h0 : decide ((0 : Int) < (n : Int)) = true := by simp; omega
  have h4 : ((n : Int) % 4 == 0) = true := by simp; omega
  have h5 : ((n : Int) == (n : Int)) = true := by simp
  clear h2
  go_enter Tryz.func35, Tryz.ntmps35
  go_wp2
  go_ret
  exact ⟨rfl, rfl⟩
theorem sl3row_no (w : World) (a1 a2 : Option Addr) (n m c1 c2 : Nat) (hn : n ≤ 1048576) (hm : m ≤ 1048576) (h : ¬ RowOk n m) : Calls Tryz.prog 35 #[.slice a1 n c1, .slice a2 m c2] w fun e w' => e = .returned (.bool false) ∧ w' = w := by
  by_cases h1 : 0 < n
  · have h0 : decide ((0 : Int) < (n : Int)) = true := by simp; omega
    by_cases h2 : n % 4 = 0
    · have h4 : ((n : Int) % 4 == 0) = true := by simp; omega
      by_cases h3 : n ≤ 144
      · have h5 : m ≠ n := fun e => h ⟨h1, h2, h3, e⟩
        have h6 : ((m : Int) == (n : Int)) = false := by rw [beq_eq_false_iff_ne]; omega
        clear h h2 h5
        go_enter Tryz.func35, Tryz.ntmps35
        go_wp2
        go_ret
        exact ⟨rfl, rfl⟩
      · have h5 : decide ((n : Int) ≤ 144) = false := by simp; omega
        clear h h2 h3
        go_enter Tryz.func35, Tryz.ntmps35
        go_wp2
        go_ret
        exact ⟨rfl, rfl⟩
    · have h4 : ((n : Int) % 4 == 0) = false := by rw [beq_eq_false_iff_ne]; omega
      clear h h2
      go_enter Tryz.func35, Tryz.ntmps35
      go_wp2
      go_ret
      exact ⟨rfl, rfl⟩
  · obtain rfl : n = 0 := by omega
    have h0 : decide ((0 : Int) < ((0 : Nat) : Int)) = false := by simp
    clear h h1
    go_enter Tryz.func35, Tryz.ntmps35
    go_wp2
    go_ret
    exact ⟨rfl, rfl⟩

theorem sfilter (W : World) (kind : Nat) (hk : kind ≤ 4) (br or cr ba oa ca n : Nat) (zr za : List Int) (hn : RowOk n n) (hzr : zr.length = n) (hza : za.length = n) (hr : Lie W br or zr) (ha : Lie W ba oa za) (h8r : ∀ z ∈ zr, 0 ≤ z ∧ z ≤ 255) (h8a : ∀ z ∈ za, 0 ≤ z ∧ z ≤ 255) :
    Calls Tryz.prog 10 #[.int .i64 (kind : Int), .slice (some ⟨br, or, none⟩) n cr, .slice (some ⟨ba, oa, none⟩) n ca] W fun e w' => ∃ g, e = .returned (.tuple #[.slice (some ⟨g, 0, none⟩) n n, .bool true]) ∧ Nw W w' ∧ W.heap.size ≤ g ∧ At w' g (filt kind zr za) := by
  have HK : Hid _ := sl1In W (kind : Int) 0 4
  have e : decide (0 ≤ (kind : Int) ∧ (kind : Int) ≤ 4) = true := by simp; omega
  rw [e] at HK
  have HG : Hid _ := sl3row_yes W (some ⟨br, or, none⟩) (some ⟨ba, oa, none⟩) n cr ca hn
  have HF : Hid _ := sl3filter W kind hk br or cr ba oa ca n zr za _ (by have := hn.2.2.1; omega) hzr hza hr ha h8r h8a (filt_is kind zr za)
  clear hr ha h8r h8a hn hzr hza e
  go_enter Tryz.func10, Tryz.ntmps10
  go_wp2_with fail
  refine Calls.mono HK.out ?_
  rintro e w1 ⟨rfl, rfl⟩
  go_wp2_with fail
  refine Calls.mono HG.out ?_
  rintro e w1 ⟨rfl, rfl⟩
  go_wp2_with fail
  refine Calls.mono HF.out ?_
  rintro e w2 ⟨rfl, h1, h2⟩
  have H : Hid (Nw w1 w2 ∧ w1.heap.size ≤ w1.heap.size ∧ At w2 w1.heap.size (filt kind zr za)) := ⟨h1, Nat.le_refl _, h2⟩
  clear h1 h2 HK HG HF
  go_wp2
  go_ret2
  exact ⟨_, rfl, H.out⟩
theorem ifilter_no (W : World) (k : Int) (a1 a2 : Option Addr) (n m c1 c2 : Nat) (hn : n ≤ 1048576) (hm : m ≤ 1048576) (h : ¬ ((0 ≤ k ∧ k ≤ 4) ∧ RowOk n m)) :
    Calls Tryz.prog 9 #[.int .i64 k, .slice a1 n c1, .slice a2 m c2] W fun e w' => e = .returned (.tuple #[.slice none 0 0, .bool false]) ∧ w' = W := by
  have HK : Hid _ := igoodKind W k
  by_cases hk : 0 ≤ k ∧ k ≤ 4
  · have e : decide (0 ≤ k ∧ k ≤ 4) = true := by simp; omega
    rw [e] at HK
    have HG : Hid _ := igoodRows_no W a1 a2 n m c1 c2 hn hm (fun e => h ⟨hk, e⟩)
    clear h e hk
    go_enter Tryz.func9, Tryz.ntmps9
    go_wp2_with fail
    refine Calls.mono HK.out ?_
    rintro e w1 ⟨rfl, rfl⟩
    go_wp2_with fail
    refine Calls.mono HG.out ?_
    rintro e w1 ⟨rfl, rfl⟩
    go_wp2
    go_ret2
    exact ⟨rfl, rfl⟩
  · have e : decide (0 ≤ k ∧ k ≤ 4) = false := by simp; omega
    rw [e] at HK
    clear h e hk
    go_enter Tryz.func9, Tryz.ntmps9
    go_wp2_with fail
    refine Calls.mono HK.out ?_
    rintro e w1 ⟨rfl, rfl⟩
    go_wp2
    go_ret2
    exact ⟨rfl, rfl⟩
theorem sfilter_no (W : World) (k : Int) (a1 a2 : Option Addr) (n m c1 c2 : Nat) (hn : n ≤ 1048576) (hm : m ≤ 1048576) (h : ¬ ((0 ≤ k ∧ k ≤ 4) ∧ RowOk n m)) :
    Calls Tryz.prog 10 #[.int .i64 k, .slice a1 n c1, .slice a2 m c2] W fun e w' => e = .returned (.tuple #[.slice none 0 0, .bool false]) ∧ w' = W := by
  have HK : Hid _ := sl1In W k 0 4
  by_cases hk : 0 ≤ k ∧ k ≤ 4
  · have e : decide (0 ≤ k ∧ k ≤ 4) = true := by simp; omega
    rw [e] at HK
    have HG : Hid _ := sl3row_no W a1 a2 n m c1 c2 hn hm (fun e => h ⟨hk, e⟩)
    clear h e hk
    go_enter Tryz.func10, Tryz.ntmps10
    go_wp2_with fail
    refine Calls.mono HK.out ?_
    rintro e w1 ⟨rfl, rfl⟩
    go_wp2_with fail
    refine Calls.mono HG.out ?_
    rintro e w1 ⟨rfl, rfl⟩
    go_wp2
    go_ret2
    exact ⟨rfl, rfl⟩
  · have e : decide (0 ≤ k ∧ k ≤ 4) = false := by simp; omega
    rw [e] at HK
    clear h e hk
    go_enter Tryz.func10, Tryz.ntmps10
    go_wp2_with fail
    refine Calls.mono HK.out ?_
    rintro e w1 ⟨rfl, rfl⟩
    go_wp2
    go_ret2
    exact ⟨rfl, rfl⟩
end Go.Proofs.YtaeicgfebeliiaaGreatDoor
namespace Go.Proofs.YtaeicgfebeliiaaGreatDoor
open Go.ChangeShapes Go.WideShapes Go.ChangeAt Go.RowKit
set_option linter.unusedVariables false

theorem Code.laterP {w w1 : World} {B B' : Nat} {ca : Option Addr} {len : Nat} (h : Code w B ca len) (hb : Below B w w1) (hB : B ≤ B') : Code w1 B' ca len := by
  rcases h with h | ⟨b, off, h1, h2, h3⟩
  · exact Or.inl h
  · refine Or.inr ⟨b, off, h1, by omega, fun i hi => ?_⟩
    obtain ⟨v, v0, v1, hv⟩ := h3 i hi
    exact ⟨v, v0, v1, by rw [hb.cell (p := ⟨b, off + i, none⟩) h2]; exact hv⟩
theorem best_8P (ds : List Nat) (J : Nat) (h8 : ∀ d ∈ ds, d < 256) (hl : ds.length ≤ 6000) : ∀ d ∈ bestL ds J, d < 256 := by
  unfold bestL
  split
  · exact (bks_out (ints ds) J).h8
  · have h := (stored_reads ds [] hl h8 (fun d hd => by cases hd)).2.2.2.2.2
    rwa [List.append_nil] at h
theorem str_u8 (s : ByteArray) : ∀ z ∈ strInts s, 0 ≤ z ∧ z ≤ 255 := Byts.str s
theorem chunk_u8 (s : ByteArray) (ds : List Int) (hl : ds.length ≤ 100000) (h : ∀ z ∈ ds, 0 ≤ z ∧ z ≤ 255) : ∀ z ∈ chunk (strInts s) ds, 0 ≤ z ∧ z ≤ 255 := by
  intro z hz
  unfold chunk at hz
  simp only [List.mem_append] at hz
  rcases hz with ((hz | hz) | hz) | hz
  · exact four_u8 _ (by omega) z hz
  · exact str_u8 s z hz
  · exact h z hz
  · exact four_u8 _ (crc_bd _) z hz
theorem png_u8 (wide high : Nat) (pd : List Int) (hw : wide ≤ 36) (hh : high ≤ 36) (hl : pd.length ≤ 100000) (h : ∀ z ∈ pd, 0 ≤ z ∧ z ≤ 255) : ∀ z ∈ png wide high pd, 0 ≤ z ∧ z ≤ 255 := by
  intro z hz
  unfold png at hz
  simp only [List.mem_append] at hz
  rcases hz with ((hz | hz) | hz) | hz
  · rw [← s8_is] at hz; exact str_u8 s8 z hz
  · exact chunk_u8 sIHDR _ (by rw [head_len]; omega) (head_u8 wide high hw hh) z hz
  · exact chunk_u8 sIDAT _ hl h z hz
  · exact chunk_u8 sIEND _ (by simp) (fun z hz => by cases hz) z hz
theorem conv_lz (w : World) (g c : Nat) (ds : List Nat) (h8 : ∀ d ∈ ds, d < 256) (hA : Lz w g 0 (ints ds)) : (convert 22 9 (.slice (some ⟨g, 0, none⟩) ds.length c)).run Tryz.prog w = .ok (.string (strOf ds)) w := by
  have e : strInts (strOf ds) = ints ds := by
    unfold strInts strOf ints
    apply List.ext_getElem
    · simp
    · intro i h1 h2
      have hi : i < ds.length := by simpa using h2
      have hd : ds[i] < 256 := h8 _ (List.getElem_mem _)
      simp; omega
  have h := conv_str w g 0 c (strOf ds) (by rw [e]; exact hA)
  rwa [strOf_size] at h
theorem own_cap {w : World} {B g n c : Nat} {zs : List Int} (h : Own w B (.slice (some ⟨g, 0, none⟩) n c) zs) : zs.length ≤ c ∧ c ≤ 9223372036854775807 := by
  rcases h.2 with ⟨hn, _⟩ | ⟨g', cap, cur, e1, _, _, e2, e3, _⟩
  · cases hn
  · injection e1 with _ _ e; subst e
    unfold maxLen at e3
    exact ⟨e2, e3⟩
set_option maxRecDepth 100000 in
set_option maxHeartbeats 16000000 in
theorem walk_pictures (w : World) (a0 : Option Addr) (len0 cap0 : Nat) (a1 : Option Addr) (len1 cap1 : Nat) (ml0 : len0 ≤ 9223372036854775807) (ml1 : len1 ≤ 9223372036854775807) (hT : Tabs w) (hd0 : Code w w.heap.size a0 len0) (hd1 : Code w w.heap.size a1 len1) :
    Calls Tryz.prog 3 #[.slice a0 len0 cap0, .slice a1 len1 cap1] w fun e w' => e = .returned (.bool true) ∧ Below w.heap.size w w' := by
  have h4 : 4 ≤ w.heap.size := hT.2.2.2.2
  have HT : Hid (∀ W, Nw w W → Tabs W) := fun W k => hT.below k h4
  have HC0 : Hid _ := hd0
  have HC1 : Hid (Code w w.heap.size a1 len1) := hd1
  have HNil : Hid _ := fun w1 => Lib.run_convert_nil_bytes (P := Tryz.prog) w1 22 9 5 0 Tryz.underlying22 Tryz.underlying5 Tryz.underlying9
  clear hd0 hd1 hT
  by_cases hbig : 1048576 < wrap64 ((len0 : Int) + (len1 : Int))
  · go_enter Tryz.func3, Tryz.ntmps3
    go_wp2
    go_ret
    exact ⟨rfl, Below.refl _ _⟩
  · go_enter Tryz.func3, Tryz.ntmps3
    go_wp2_with fail
    refine (drawEnc_any w a0 len0 cap0 ml0 HC0.out).mono ?_
    rintro e w1 ⟨a, b, v, zs, rfl, o1, hzl, hby, n1⟩
    obtain ⟨zd, rfl, hz8⟩ := nats_of zs hby
    rw [ints_len] at hzl
    have N1 : Hid (Nw w w1) := n1
    have HBy : Hid _ := hby
    have HZ8 : Hid _ := hz8
    clear n1 hby hz8 HC0
    by_cases hg : (1 ≤ (a : Int) ∧ (a : Int) ≤ 36) ∧ (1 ≤ (b : Int) ∧ (b : Int) ≤ 36) ∧ (zd.length : Int) = 4 * (a : Int) * (b : Int)
    · obtain ⟨hw0, hh0, hl0⟩ := hg
      have hw : 1 ≤ a ∧ a ≤ 36 := by omega
      have hh : 1 ≤ b ∧ b ≤ 36 := by omega
      have hz : (ints zd).length = b * (4 * a) := by
        rw [ints_len]
        have e : ((b * (4 * a) : Nat) : Int) = 4 * (a : Int) * (b : Int) := by rw [Nat.mul_comm]; simp
        omega
      have hzpos : 0 < (ints zd).length := by rw [hz]; exact Nat.mul_pos (by omega) (by omega)
      obtain ⟨g, c, rfl, hgW, hgw, hlc, hcm, hA⟩ := o1.some hzpos
      unfold maxLen at hcm
      obtain ⟨ds, hds, hd8⟩ := nats_of (rowsN (ints zd) (4 * a) b) (rowsN_u8 _ _ _)
      have hdl : ds.length = b * (4 * a + 1) := by
        have h := congrArg List.length hds
        rw [rowsN_len (ints zd) (4 * a) b (by rw [hz]; exact Nat.le_refl _), ints_len] at h
        exact h.symm
      have hdl6 : ds.length ≤ 5300 := by rw [hdl]; exact Nat.le_trans (Nat.mul_le_mul hh.2 (show 4 * a + 1 ≤ 145 by omega)) (by omega)
      have hd0 : 0 < ds.length := by rw [hdl]; exact Nat.mul_pos (by omega) (by omega)
      obtain ⟨J, hJ⟩ := ends (ints ds)
      have hp8 := best_8P ds J hd8 (by omega)
      have hpl : (pdata ds J).length ≤ 100000 := by
        have := best_lens ds J
        unfold pdata
        rw [List.length_append, List.length_append, ints_len, four_len]; simp; omega
      obtain ⟨pn, hpn, hpn8⟩ := nats_of (png a b (pdata ds J)) (png_u8 a b _ hw.2 hh.2 hpl (pdata_u8 ds J hp8))
      have hpnl : (png a b (pdata ds J)).length = pn.length := by rw [hpn, ints_len]
      have hpn0 : 0 < pn.length := by
        rw [← hpnl]; unfold png
        simp only [List.length_append, chunk_len]
        show 0 < 8 + _ + _ + _
        omega
      have A1 : Hid (At w1 g (ints zd)) := hA
      have IE : Hid _ := iencode w1 a b g c (ints zd) ds J hw hh hz hlc hcm HBy.out hA (HT.out w1 N1.out) hds hd8 (by omega) hd0 hJ hp8
      have SE : Hid (∀ W, Nw w1 W → _) := fun W k => sencode W a b g c (ints zd) ds J hw hh hz hlc hcm HBy.out (At.nw hA k) hds hd8 (by omega) hd0 hJ hp8
      have DE : Hid (∀ W ge ce, Nw w W → pn.length ≤ ce → ce ≤ 9223372036854775807 → At W ge (png a b (pdata ds J)) → _) := fun W ge ce k k1 k2 h => decode_any W ge ce pn.length a b (ints zd) ds J hw hh hz HBy.out hds hd8 hJ hp8 (HT.out W k) hpnl k1 k2 h
      have V1 : Hid (∀ W B v, Own W B v (ints pn) → _) := fun W B v h => conv_own W B v pn hpn8 h
      rw [ints_len] at IE SE DE hlc ⊢
      rw [hpn] at IE SE DE
      obtain ⟨sp, hsp⟩ : ∃ s, strOf pn = s := ⟨_, rfl⟩
      rw [hsp] at V1
      have hna : ((a : Int) != (a : Int)) = false := by simp
      have hnb : ((b : Int) != (b : Int)) = false := by simp
      have V2 : Hid (∀ W P c, Lz W P 0 (ints zd) → _) := fun W P c h => conv_lz W P c zd HZ8.out h
      obtain ⟨sz, hsz⟩ : ∃ s, strOf zd = s := ⟨_, rfl⟩
      rw [hsz] at V2
      clear o1 hA hw0 hh0 hl0 hz hzpos hds hd8 hdl hdl6 hd0 hJ hp8 hpl hpn8 hpnl hsp hsz hpn hlc hcm hgW hgw
      go_wp2_with fail
      refine Calls.mono IE.out ?_
      rintro e w2 ⟨v2, rfl, n2, o2⟩
      rcases own_ways o2 with ⟨_, e⟩ | ⟨ge, ce, rfl, hA2⟩
      · rw [e] at hpn0; exact absurd hpn0 (Nat.lt_irrefl _)
      obtain ⟨k1, k2⟩ := own_cap o2
      rw [ints_len] at k1
      have N2 : Hid (Nw w w2) := Nw.trans N1.out n2
      have N12 : Hid (Nw w1 w2) := n2
      have O2 : Hid (Own w2 w1.heap.size (.slice (some ⟨ge, 0, none⟩) pn.length ce) (ints pn)) := o2
      have A2 : Hid (At w2 ge (ints pn)) := hA2
      clear n2 o2 hA2
      go_wp2_with fail
      refine Calls.mono (SE.out w2 N12.out) ?_
      rintro e w3 ⟨v3, rfl, n3, o3⟩
      have N3 : Hid (Nw w w3) := Nw.trans N2.out n3
      have N13 : Hid (Nw w1 w3) := Nw.trans N12.out n3
      have A3 : Hid (At w3 ge (ints pn)) := At.nw A2.out n3
      have c1 := V1.out w3 _ _ (Own.nw O2.out n3)
      have c2 := V1.out w3 _ v3 o3
      obtain ⟨sa3, sc3, rfl⟩ := o3.shape
      rw [ints_len] at c2
      rw [ints_len]
      clear n3 o3 SE IE
      go_wp2_with fail
      refine Calls.mono (DE.out w3 ge ce N3.out k1 k2 A3.out) ?_
      rintro e w4 ⟨P, rfl, l4, n4⟩
      have N4 : Hid (Nw w w4) := Nw.trans N3.out n4
      have c3 := V2.out w4 P zd.length l4
      have c4 := V2.out w4 g c ⟨(At.nw (At.nw A1.out N13.out) n4).1, (At.nw (At.nw A1.out N13.out) n4).2.1⟩
      have N4 : Hid (Nw w w4) := Nw.trans N3.out n4
      clear n4 l4 c1 c2 DE k1 k2
      go_wp2_with fail
      refine (drawFil_any w4 a1 len1 cap1 ml1 (Code.laterP HC1.out N4.out (Below.size N4.out))).mono ?_
      rintro e w5 ⟨k, v1, v2, z1, z2, rfl, p1, p2, hl1, hl2, y1, y2, n5⟩
      have N5 : Hid (Nw w w5) := Nw.trans N4.out n5
      obtain ⟨d1, rfl, e1⟩ := nats_of z1 y1
      obtain ⟨d2, rfl, e2⟩ := nats_of z2 y2
      rw [ints_len] at hl1 hl2
      have Y1 : Hid _ := y1
      have Y2 : Hid _ := y2
      clear n5 y1 y2 c3 c4
      by_cases hgood : (0 ≤ k ∧ k ≤ 4) ∧ RowOk d1.length d2.length
      · obtain ⟨⟨k0, k4⟩, hok⟩ := hgood
        obtain ⟨K, rfl⟩ := Int.eq_ofNat_of_zero_le k0
        have hm : d2.length = d1.length := hok.2.2.2
        have hn0 : 0 < d1.length := hok.1
        have hok2 : RowOk d1.length d1.length := ⟨hok.1, hok.2.1, hok.2.2.1, rfl⟩
        rcases own_ways p1 with ⟨_, e⟩ | ⟨g1, c1, rfl, hA1⟩
        · rw [e] at hn0; exact absurd hn0 (Nat.lt_irrefl _)
        rcases own_ways p2 with ⟨_, e⟩ | ⟨g2, c2, rfl, hA2⟩
        · rw [e] at hm; rw [← hm] at hn0; exact absurd hn0 (Nat.lt_irrefl _)
        rw [hm]
        have hK : K ≤ 4 := by omega
        have A1 : Hid (At w5 g1 (ints d1)) := hA1
        have IF : Hid (∀ W, Nw w5 W → _) := fun W kk => ifilter W K hK g1 0 c1 g2 0 c2 d1.length (ints d1) (ints d2) hok2 (ints_len d1) (by rw [ints_len]; exact hm) (At.lie (At.nw hA1 kk)) (At.lie (At.nw hA2 kk)) Y1.out Y2.out
        have SF : Hid (∀ W, Nw w5 W → _) := fun W kk => sfilter W K hK g1 0 c1 g2 0 c2 d1.length (ints d1) (ints d2) hok2 (ints_len d1) (by rw [ints_len]; exact hm) (At.lie (At.nw hA1 kk)) (At.lie (At.nw hA2 kk)) Y1.out Y2.out
        have UF : Hid (∀ W gf, Nw w5 W → At W gf (filt K (ints d1) (ints d2)) → Calls Tryz.prog 11 #[.int .i64 (K : Int), .slice (some ⟨gf, 0, none⟩) d1.length d1.length, .slice (some ⟨g2, 0, none⟩) d1.length c2] W fun e w' => ∃ g, e = .returned (.tuple #[.slice (some ⟨g, 0, none⟩) d1.length d1.length, .bool true]) ∧ Nw W w' ∧ At w' g (ints d1)) := fun W gf kk hf => by
          have h := iunfilter W K hK gf 0 d1.length g2 0 c2 d1.length (filt K (ints d1) (ints d2)) (ints d2) hok2 (by rw [filt_len, ints_len]) (by rw [ints_len]; exact hm) (At.lie hf) (At.lie (At.nw hA2 kk)) (filt_u8 _ _ _) Y2.out
          rw [unf_filt K (ints d1) (ints d2) Y1.out] at h
          exact h.mono (fun e w' ⟨g, q1, q2, _, q3⟩ => ⟨g, q1, q2, q3⟩)
        have VV : Hid (∀ W g c, At W g (ints d1) → _) := fun W g c h => conv_at W g c d1 e1 h
        obtain ⟨s1, hs1⟩ : ∃ s, strOf d1 = s := ⟨_, rfl⟩
        rw [hs1] at VV
        clear p1 p2 hA1 hA2 hok hok2 hm e1 e2 hs1 k0 k4
        have N55 : Hid (Nw w5 w5) := Below.refl _ _
        go_wp2_with fail
        refine Calls.mono (IF.out w5 N55.out) ?_
        rintro e w6 ⟨gf, rfl, n6, _, hf⟩
        have N6 : Hid (Nw w5 w6) := n6
        have F6 : Hid (At w6 gf (filt K (ints d1) (ints d2))) := hf
        clear n6 hf
        go_wp2_with fail
        refine Calls.mono (SF.out w6 N6.out) ?_
        rintro e w7 ⟨gs, rfl, n7, _, _⟩
        have N7 : Hid (Nw w5 w7) := Nw.trans N6.out n7
        have F7 : Hid (At w7 gf (filt K (ints d1) (ints d2))) := At.nw F6.out n7
        clear n7
        go_wp2_with fail
        refine Calls.mono (UF.out w7 gf N7.out F7.out) ?_
        rintro e w8 ⟨gr, rfl, n8, hr⟩
        have N8 : Hid (Nw w5 w8) := Nw.trans N7.out n8
        have u1 := VV.out w8 gr d1.length hr
        have u2 := VV.out w8 g1 c1 (At.nw A1.out N8.out)
        clear n8 hr IF SF UF
        go_wp2
        go_ret
        exact ⟨rfl, Below.trans N5.out (Below.mono N8.out (Below.size N5.out))⟩
      · have IF : Hid (∀ s1 s2 c1 c2, _) := fun s1 s2 c1 c2 => ifilter_no w5 k s1 s2 d1.length d2.length c1 c2 (by omega) (by omega) hgood
        have SF : Hid (∀ W s1 s2 c1 c2, _) := fun W s1 s2 c1 c2 => sfilter_no W k s1 s2 d1.length d2.length c1 c2 (by omega) (by omega) hgood
        obtain ⟨s1, q1, rfl⟩ := p1.shape
        obtain ⟨s2, q2, rfl⟩ := p2.shape
        rw [ints_len, ints_len]
        clear p1 p2 hgood e1 e2
        go_wp2_with fail
        refine Calls.mono (IF.out s1 s2 q1 q2) ?_
        rintro e w6 ⟨rfl, rfl⟩
        go_wp2_with fail
        refine Calls.mono (SF.out _ s1 s2 q1 q2) ?_
        rintro e w7 ⟨rfl, rfl⟩
        go_wp2
        go_ret
        exact ⟨rfl, N5.out⟩
    · have IE : Hid (∀ sa c, _) := fun sa c => iencode_no w1 (a : Int) (b : Int) sa zd.length c (by omega) hg
      have SE : Hid (∀ W sa c, _) := fun W sa c => sencode_no W (a : Int) (b : Int) sa zd.length c (by omega) hg
      obtain ⟨sa, sc, rfl⟩ := o1.shape
      rw [ints_len]
      have c1 := HNil.out w1
      clear o1 hg
      go_wp2_with fail
      refine Calls.mono (IE.out sa sc) ?_
      rintro e w2 ⟨rfl, rfl⟩
      go_wp2_with fail
      refine Calls.mono (SE.out _ sa sc) ?_
      rintro e w4 ⟨rfl, rfl⟩
      have N4 : Hid (Nw w w4) := N1.out
      go_wp2_with fail
      refine (drawFil_any w4 a1 len1 cap1 ml1 (Code.laterP HC1.out N4.out (Below.size N4.out))).mono ?_
      rintro e w5 ⟨k, v1, v2, z1, z2, rfl, p1, p2, hl1, hl2, y1, y2, n5⟩
      have N5 : Hid (Nw w w5) := Nw.trans N4.out n5
      obtain ⟨d1, rfl, e1⟩ := nats_of z1 y1
      obtain ⟨d2, rfl, e2⟩ := nats_of z2 y2
      rw [ints_len] at hl1 hl2
      have Y1 : Hid _ := y1
      have Y2 : Hid _ := y2
      clear n5 y1 y2 c1
      by_cases hgood : (0 ≤ k ∧ k ≤ 4) ∧ RowOk d1.length d2.length
      · obtain ⟨⟨k0, k4⟩, hok⟩ := hgood
        obtain ⟨K, rfl⟩ := Int.eq_ofNat_of_zero_le k0
        have hm : d2.length = d1.length := hok.2.2.2
        have hn0 : 0 < d1.length := hok.1
        have hok2 : RowOk d1.length d1.length := ⟨hok.1, hok.2.1, hok.2.2.1, rfl⟩
        rcases own_ways p1 with ⟨_, e⟩ | ⟨g1, c1, rfl, hA1⟩
        · rw [e] at hn0; exact absurd hn0 (Nat.lt_irrefl _)
        rcases own_ways p2 with ⟨_, e⟩ | ⟨g2, c2, rfl, hA2⟩
        · rw [e] at hm; rw [← hm] at hn0; exact absurd hn0 (Nat.lt_irrefl _)
        rw [hm]
        have hK : K ≤ 4 := by omega
        have A1 : Hid (At w5 g1 (ints d1)) := hA1
        have IF : Hid (∀ W, Nw w5 W → _) := fun W kk => ifilter W K hK g1 0 c1 g2 0 c2 d1.length (ints d1) (ints d2) hok2 (ints_len d1) (by rw [ints_len]; exact hm) (At.lie (At.nw hA1 kk)) (At.lie (At.nw hA2 kk)) Y1.out Y2.out
        have SF : Hid (∀ W, Nw w5 W → _) := fun W kk => sfilter W K hK g1 0 c1 g2 0 c2 d1.length (ints d1) (ints d2) hok2 (ints_len d1) (by rw [ints_len]; exact hm) (At.lie (At.nw hA1 kk)) (At.lie (At.nw hA2 kk)) Y1.out Y2.out
        have UF : Hid (∀ W gf, Nw w5 W → At W gf (filt K (ints d1) (ints d2)) → Calls Tryz.prog 11 #[.int .i64 (K : Int), .slice (some ⟨gf, 0, none⟩) d1.length d1.length, .slice (some ⟨g2, 0, none⟩) d1.length c2] W fun e w' => ∃ g, e = .returned (.tuple #[.slice (some ⟨g, 0, none⟩) d1.length d1.length, .bool true]) ∧ Nw W w' ∧ At w' g (ints d1)) := fun W gf kk hf => by
          have h := iunfilter W K hK gf 0 d1.length g2 0 c2 d1.length (filt K (ints d1) (ints d2)) (ints d2) hok2 (by rw [filt_len, ints_len]) (by rw [ints_len]; exact hm) (At.lie hf) (At.lie (At.nw hA2 kk)) (filt_u8 _ _ _) Y2.out
          rw [unf_filt K (ints d1) (ints d2) Y1.out] at h
          exact h.mono (fun e w' ⟨g, q1, q2, _, q3⟩ => ⟨g, q1, q2, q3⟩)
        have VV : Hid (∀ W g c, At W g (ints d1) → _) := fun W g c h => conv_at W g c d1 e1 h
        obtain ⟨s1, hs1⟩ : ∃ s, strOf d1 = s := ⟨_, rfl⟩
        rw [hs1] at VV
        clear p1 p2 hA1 hA2 hok hok2 hm e1 e2 hs1 k0 k4
        have N55 : Hid (Nw w5 w5) := Below.refl _ _
        go_wp2_with fail
        refine Calls.mono (IF.out w5 N55.out) ?_
        rintro e w6 ⟨gf, rfl, n6, _, hf⟩
        have N6 : Hid (Nw w5 w6) := n6
        have F6 : Hid (At w6 gf (filt K (ints d1) (ints d2))) := hf
        clear n6 hf
        go_wp2_with fail
        refine Calls.mono (SF.out w6 N6.out) ?_
        rintro e w7 ⟨gs, rfl, n7, _, _⟩
        have N7 : Hid (Nw w5 w7) := Nw.trans N6.out n7
        have F7 : Hid (At w7 gf (filt K (ints d1) (ints d2))) := At.nw F6.out n7
        clear n7
        go_wp2_with fail
        refine Calls.mono (UF.out w7 gf N7.out F7.out) ?_
        rintro e w8 ⟨gr, rfl, n8, hr⟩
        have N8 : Hid (Nw w5 w8) := Nw.trans N7.out n8
        have u1 := VV.out w8 gr d1.length hr
        have u2 := VV.out w8 g1 c1 (At.nw A1.out N8.out)
        clear n8 hr IF SF UF
        go_wp2
        go_ret
        exact ⟨rfl, Below.trans N5.out (Below.mono N8.out (Below.size N5.out))⟩
      · have IF : Hid (∀ s1 s2 c1 c2, _) := fun s1 s2 c1 c2 => ifilter_no w5 k s1 s2 d1.length d2.length c1 c2 (by omega) (by omega) hgood
        have SF : Hid (∀ W s1 s2 c1 c2, _) := fun W s1 s2 c1 c2 => sfilter_no W k s1 s2 d1.length d2.length c1 c2 (by omega) (by omega) hgood
        obtain ⟨s1, q1, rfl⟩ := p1.shape
        obtain ⟨s2, q2, rfl⟩ := p2.shape
        rw [ints_len, ints_len]
        clear p1 p2 hgood e1 e2
        go_wp2_with fail
        refine Calls.mono (IF.out s1 s2 q1 q2) ?_
        rintro e w6 ⟨rfl, rfl⟩
        go_wp2_with fail
        refine Calls.mono (SF.out _ s1 s2 q1 q2) ?_
        rintro e w7 ⟨rfl, rfl⟩
        go_wp2
        go_ret
        exact ⟨rfl, N5.out⟩
end Go.Proofs.YtaeicgfebeliiaaGreatDoor
