/-
  The law on UnfilterRow returns true at every argument, and its arguments read afterwards as they read before; there is no further condition.
-/
import Derived.Test.YteehoihkbcbbgaaFrame
import Derived.Test.YteehoihkbcbbgaaRowf
import Derived.ShutString
import Derived.ChangeOld
namespace Go.Proofs.Yteehoihkbcbbgaa
open Go.ChangeShapes Go.WideShapes Go.ChangeAt Go.RowKit
set_option linter.unusedVariables false

set_option maxHeartbeats 8000000 in
theorem walkUnfilterRow (w : World) (k : Int) (hik : -9223372036854775808 ≤ k ∧ k ≤ 9223372036854775807) (ar : Option Addr) (capr : Nat) (zr : List Int) (hrr : Row .u8 w ar zr) (hlr : zr.length ≤ 1048576) (aa : Option Addr) (capa : Nat) (za : List Int) (hra : Row .u8 w aa za) (hla : za.length ≤ 1048576) (cs0 : List Int) (hc0 : cs0.length ≤ 1048576) (r1 : Bool)
    (hS : ∀ W br cr ba ca, At W br zr → At W ba za → Calls Try.prog 18 #[.int .i64 k, .slice (some ⟨br, 0, none⟩) zr.length cr, .slice (some ⟨ba, 0, none⟩) za.length ca] W fun e w' => ∃ v0, e = .returned (.tuple #[v0, .bool r1]) ∧ Nw W w' ∧ Lies W.heap.size w'.heap.size w' v0 cs0)
    (hI : ∀ W br cr ba ca, At W br zr → At W ba za → Calls Try.prog 19 #[.int .i64 k, .slice (some ⟨br, 0, none⟩) zr.length cr, .slice (some ⟨ba, 0, none⟩) za.length ca] W fun e w' => ∃ v0, e = .returned (.tuple #[v0, .bool r1]) ∧ Nw W w' ∧ Lies W.heap.size w'.heap.size w' v0 cs0) :
    Calls Try.prog 6 #[.int .i64 k, .slice ar zr.length capr, .slice aa za.length capa] w fun e w' => e = .returned (.bool true) ∧ Below w.heap.size w w' := by
  have hbdr : decide ((1048576 : Int) < (zr.length : Int)) = false := by simp; omega
  have hbda : decide ((1048576 : Int) < (za.length : Int)) = false := by simp; omega
  have HRr : Hid (Row .u8 w ar zr) := hrr
  have HRa : Hid (Row .u8 w aa za) := hra
  have HS : Hid _ := hS
  have HI : Hid _ := hI
  clear hrr hra hS hI
  have hq1 : (r1 != r1) = false := by simp
  go_enter Try.func6, Try.ntmps6
  go_wp2_with fail
  refine Calls.mono (toByte_at w ar capr zr HRr.out hlr) ?_
  rintro e w1 ⟨rfl, k1, t1⟩
  have x1 : w.heap.size < w1.heap.size := t1.1
  have Opr_1 : Hid (At w1 w.heap.size zr) := t1
  clear t1
  have S1 : Hid (Below w.heap.size w w1) := Below.trans (Below.refl w.heap.size w) (Below.mono k1 (Below.size (Below.refl w.heap.size w)))
  have y1 : w.heap.size ≤ w1.heap.size := Below.size k1
  clear k1 
  go_wp2_with fail
  refine Calls.mono (toByte_at w1 aa capa za (Row.below HRa.out S1.out) hla) ?_
  rintro e w2 ⟨rfl, k1, t1⟩
  have x2 : w1.heap.size < w2.heap.size := t1.1
  have Opa_2 : Hid (At w2 w1.heap.size za) := t1
  clear t1
  have S2 : Hid (Below w.heap.size w w2) := Below.trans S1.out (Below.mono k1 (Below.size S1.out))
  have y2 : w1.heap.size ≤ w2.heap.size := Below.size k1
  have Opr_2 : Hid (At w2 w.heap.size zr) := At.nw Opr_1.out k1
  clear k1 Opr_1 S1
  go_wp2_with fail
  refine Calls.mono (HS.out w2 _ _ _ _ Opr_2.out Opa_2.out) ?_
  rintro e w3 ⟨w_0, rfl, k1, t0⟩
  have Ow_0_3 : Hid (Lies w2.heap.size w3.heap.size w3 w_0 cs0) := t0
  clear t0
  have S3 : Hid (Below w.heap.size w w3) := Below.trans S2.out (Below.mono k1 (Below.size S2.out))
  have y3 : w2.heap.size ≤ w3.heap.size := Below.size k1
  have Opr_3 : Hid (At w3 w.heap.size zr) := At.nw Opr_2.out k1
  have Opa_3 : Hid (At w3 w1.heap.size za) := At.nw Opa_2.out k1
  clear k1 Opr_2 Opa_2 S2
  clear Opr_3 Opa_3
  go_wp2_with fail
  refine Calls.mono (toByte_at w3 ar capr zr (Row.below HRr.out S3.out) hlr) ?_
  rintro e w4 ⟨rfl, k1, t1⟩
  have x4 : w3.heap.size < w4.heap.size := t1.1
  have Oxr_4 : Hid (At w4 w3.heap.size zr) := t1
  clear t1
  have S4 : Hid (Below w.heap.size w w4) := Below.trans S3.out (Below.mono k1 (Below.size S3.out))
  have y4 : w3.heap.size ≤ w4.heap.size := Below.size k1
  have Ow_0_4 : Hid (Lies w2.heap.size w3.heap.size w4 w_0 cs0) := Lies.nw Ow_0_3.out k1
  clear k1 Ow_0_3 S3
  go_wp2_with fail
  refine Calls.mono (toByte_at w4 aa capa za (Row.below HRa.out S4.out) hla) ?_
  rintro e w5 ⟨rfl, k1, t1⟩
  have x5 : w4.heap.size < w5.heap.size := t1.1
  have Oxa_5 : Hid (At w5 w4.heap.size za) := t1
  clear t1
  have S5 : Hid (Below w.heap.size w w5) := Below.trans S4.out (Below.mono k1 (Below.size S4.out))
  have y5 : w4.heap.size ≤ w5.heap.size := Below.size k1
  have Ow_0_5 : Hid (Lies w2.heap.size w3.heap.size w5 w_0 cs0) := Lies.nw Ow_0_4.out k1
  have Oxr_5 : Hid (At w5 w3.heap.size zr) := At.nw Oxr_4.out k1
  clear k1 Ow_0_4 Oxr_4 S4
  go_wp2_with fail
  refine Calls.mono (HI.out w5 _ _ _ _ Oxr_5.out Oxa_5.out) ?_
  rintro e w6 ⟨g0, rfl, k1, t0⟩
  have Og0_6 : Hid (Lies w5.heap.size w6.heap.size w6 g0 cs0) := t0
  clear t0
  have S6 : Hid (Below w.heap.size w w6) := Below.trans S5.out (Below.mono k1 (Below.size S5.out))
  have y6 : w5.heap.size ≤ w6.heap.size := Below.size k1
  have Ow_0_6 : Hid (Lies w2.heap.size w3.heap.size w6 w_0 cs0) := Lies.nw Ow_0_5.out k1
  have Oxr_6 : Hid (At w6 w3.heap.size zr) := At.nw Oxr_5.out k1
  have Oxa_6 : Hid (At w6 w4.heap.size za) := At.nw Oxa_5.out k1
  clear k1 Ow_0_5 Oxr_5 Oxa_5 S5
  go_wp2_with fail
  refine Calls.mono (eqByte_lies w6 _ _ _ _ _ _ cs0 hc0 Og0_6.out Ow_0_6.out) ?_
  rintro e w7 ⟨rfl, k1⟩
  have S7 : Hid (Below w.heap.size w w7) := Below.trans S6.out (Below.mono k1 (Below.size S6.out))
  have y7 : w6.heap.size ≤ w7.heap.size := Below.size k1
  have Ow_0_7 : Hid (Lies w2.heap.size w3.heap.size w7 w_0 cs0) := Lies.nw Ow_0_6.out k1
  have Oxr_7 : Hid (At w7 w3.heap.size zr) := At.nw Oxr_6.out k1
  have Oxa_7 : Hid (At w7 w4.heap.size za) := At.nw Oxa_6.out k1
  have Og0_7 : Hid (Lies w5.heap.size w6.heap.size w7 g0 cs0) := Lies.nw Og0_6.out k1
  clear k1 Ow_0_6 Oxr_6 Oxa_6 Og0_6 S6
  go_wp2_with fail
  refine Calls.mono (toByte_at w7 ar capr zr (Row.below HRr.out S7.out) hlr) ?_
  rintro e w8 ⟨rfl, k1, t1⟩
  have x8 : w7.heap.size < w8.heap.size := t1.1
  have Oyr_8 : Hid (At w8 w7.heap.size zr) := t1
  clear t1
  have S8 : Hid (Below w.heap.size w w8) := Below.trans S7.out (Below.mono k1 (Below.size S7.out))
  have y8 : w7.heap.size ≤ w8.heap.size := Below.size k1
  have Ow_0_8 : Hid (Lies w2.heap.size w3.heap.size w8 w_0 cs0) := Lies.nw Ow_0_7.out k1
  have Oxr_8 : Hid (At w8 w3.heap.size zr) := At.nw Oxr_7.out k1
  have Oxa_8 : Hid (At w8 w4.heap.size za) := At.nw Oxa_7.out k1
  have Og0_8 : Hid (Lies w5.heap.size w6.heap.size w8 g0 cs0) := Lies.nw Og0_7.out k1
  clear k1 Ow_0_7 Oxr_7 Oxa_7 Og0_7 S7
  go_wp2_with fail
  refine Calls.mono (eqByte_at w8 _ _ _ _ _ zr rfl hlr Oxr_8.out Oyr_8.out) ?_
  rintro e w9 ⟨rfl, k1⟩
  have S9 : Hid (Below w.heap.size w w9) := Below.trans S8.out (Below.mono k1 (Below.size S8.out))
  have y9 : w8.heap.size ≤ w9.heap.size := Below.size k1
  have Ow_0_9 : Hid (Lies w2.heap.size w3.heap.size w9 w_0 cs0) := Lies.nw Ow_0_8.out k1
  have Oxr_9 : Hid (At w9 w3.heap.size zr) := At.nw Oxr_8.out k1
  have Oxa_9 : Hid (At w9 w4.heap.size za) := At.nw Oxa_8.out k1
  have Og0_9 : Hid (Lies w5.heap.size w6.heap.size w9 g0 cs0) := Lies.nw Og0_8.out k1
  have Oyr_9 : Hid (At w9 w7.heap.size zr) := At.nw Oyr_8.out k1
  clear k1 Ow_0_8 Oxr_8 Oxa_8 Og0_8 Oyr_8 S8
  clear Oyr_9
  go_wp2_with fail
  refine Calls.mono (toByte_at w9 aa capa za (Row.below HRa.out S9.out) hla) ?_
  rintro e w10 ⟨rfl, k1, t1⟩
  have x10 : w9.heap.size < w10.heap.size := t1.1
  have Oya_10 : Hid (At w10 w9.heap.size za) := t1
  clear t1
  have S10 : Hid (Below w.heap.size w w10) := Below.trans S9.out (Below.mono k1 (Below.size S9.out))
  have y10 : w9.heap.size ≤ w10.heap.size := Below.size k1
  have Ow_0_10 : Hid (Lies w2.heap.size w3.heap.size w10 w_0 cs0) := Lies.nw Ow_0_9.out k1
  have Oxr_10 : Hid (At w10 w3.heap.size zr) := At.nw Oxr_9.out k1
  have Oxa_10 : Hid (At w10 w4.heap.size za) := At.nw Oxa_9.out k1
  have Og0_10 : Hid (Lies w5.heap.size w6.heap.size w10 g0 cs0) := Lies.nw Og0_9.out k1
  clear k1 Ow_0_9 Oxr_9 Oxa_9 Og0_9 S9
  go_wp2_with fail
  refine Calls.mono (eqByte_at w10 _ _ _ _ _ za rfl hla Oxa_10.out Oya_10.out) ?_
  rintro e w11 ⟨rfl, k1⟩
  have S11 : Hid (Below w.heap.size w w11) := Below.trans S10.out (Below.mono k1 (Below.size S10.out))
  have y11 : w10.heap.size ≤ w11.heap.size := Below.size k1
  have Ow_0_11 : Hid (Lies w2.heap.size w3.heap.size w11 w_0 cs0) := Lies.nw Ow_0_10.out k1
  have Oxr_11 : Hid (At w11 w3.heap.size zr) := At.nw Oxr_10.out k1
  have Oxa_11 : Hid (At w11 w4.heap.size za) := At.nw Oxa_10.out k1
  have Og0_11 : Hid (Lies w5.heap.size w6.heap.size w11 g0 cs0) := Lies.nw Og0_10.out k1
  have Oya_11 : Hid (At w11 w9.heap.size za) := At.nw Oya_10.out k1
  clear k1 Ow_0_10 Oxr_10 Oxa_10 Og0_10 Oya_10 S10
  clear Oya_11
  go_wp2_with fail
  refine Calls.mono (markFrom_at w11 _ _ 1 zr (by omega) (by omega) hlr Oxr_11.out) ?_
  rintro e w12 ⟨rfl, k0, t1⟩
  have k1 : Mid w3.heap.size w4.heap.size w11 w12 := Sel.mid k0 (Nat.le_refl _) x4
  clear k0 t1
  have S12 : Hid (Below w.heap.size w w12) := Below.trans S11.out (Mid.below k1 (by omega))
  have y12 : w11.heap.size ≤ w12.heap.size := Nat.le_of_eq (Mid.size k1).symm
  have Ow_0_12 : Hid (Lies w2.heap.size w3.heap.size w12 w_0 cs0) := Lies.mid Ow_0_11.out k1 (by omega)
  have Oxa_12 : Hid (At w12 w4.heap.size za) := At.mid Oxa_11.out k1 (by omega)
  have Og0_12 : Hid (Lies w5.heap.size w6.heap.size w12 g0 cs0) := Lies.mid Og0_11.out k1 (by omega)
  clear k1 Ow_0_11 Oxr_11 Oxa_11 Og0_11 S11
  go_wp2_with fail
  refine Calls.mono (markFrom_at w12 _ _ (1 + (zr.length : Int)) za (by omega) (by omega) hla Oxa_12.out) ?_
  rintro e w13 ⟨rfl, k0, t1⟩
  have k1 : Mid w4.heap.size w5.heap.size w12 w13 := Sel.mid k0 (Nat.le_refl _) x5
  clear k0 t1
  have S13 : Hid (Below w.heap.size w w13) := Below.trans S12.out (Mid.below k1 (by omega))
  have y13 : w12.heap.size ≤ w13.heap.size := Nat.le_of_eq (Mid.size k1).symm
  have Ow_0_13 : Hid (Lies w2.heap.size w3.heap.size w13 w_0 cs0) := Lies.mid Ow_0_12.out k1 (by omega)
  have Og0_13 : Hid (Lies w5.heap.size w6.heap.size w13 g0 cs0) := Lies.mid Og0_12.out k1 (by omega)
  clear k1 Ow_0_12 Oxa_12 Og0_12 S12
  have hneg1 : decide ((1 : Int) + (zr.length : Int) + (za.length : Int) < 0) = false := by simp; omega
  go_wp2_with fail
  refine Calls.mono (eqByte_lies w13 _ _ _ _ _ _ cs0 hc0 Og0_13.out Ow_0_13.out) ?_
  rintro e w14 ⟨rfl, k1⟩
  have S14 : Hid (Below w.heap.size w w14) := Below.trans S13.out (Below.mono k1 (Below.size S13.out))
  have y14 : w13.heap.size ≤ w14.heap.size := Below.size k1
  have Ow_0_14 : Hid (Lies w2.heap.size w3.heap.size w14 w_0 cs0) := Lies.nw Ow_0_13.out k1
  have Og0_14 : Hid (Lies w5.heap.size w6.heap.size w14 g0 cs0) := Lies.nw Og0_13.out k1
  clear k1 Ow_0_13 Og0_13 S13
  go_wp2_with fail
  refine Calls.mono (mark_lies w14 _ _ _ 1 cs0 (by omega) (by omega) hc0 Og0_14.out) ?_
  rintro e w15 ⟨rfl, k1, t1⟩
  have OMg0_15 : Hid (Lies w5.heap.size w6.heap.size w15 g0 (markd 1 cs0.length)) := t1
  clear t1
  have S15 : Hid (Below w.heap.size w w15) := Below.trans S14.out (Mid.below k1 (by omega))
  have y15 : w14.heap.size ≤ w15.heap.size := Nat.le_of_eq (Mid.size k1).symm
  have Ow_0_15 : Hid (Lies w2.heap.size w3.heap.size w15 w_0 cs0) := Lies.mid Ow_0_14.out k1 (by omega)
  clear k1 Ow_0_14 Og0_14 S14
  have hneg2 : decide ((1 : Int) + (cs0.length : Int) < 0) = false := by simp; omega
  have hqq : ((1 : Int) + (cs0.length : Int) != (1 : Int) + (cs0.length : Int)) = false := by simp
  go_wp2_with fail
  refine Calls.mono (held_lies w15 _ _ _ 1 cs0.length (by omega) (by omega) hc0 OMg0_15.out) ?_
  rintro e w15 ⟨rfl, rfl⟩
  go_wp2_with fail
  refine Calls.mono (toByte_at w15 ar capr zr (Row.below HRr.out S15.out) hlr) ?_
  rintro e w16 ⟨rfl, k1, t1⟩
  have x16 : w15.heap.size < w16.heap.size := t1.1
  have Our_16 : Hid (At w16 w15.heap.size zr) := t1
  clear t1
  have S16 : Hid (Below w.heap.size w w16) := Below.trans S15.out (Below.mono k1 (Below.size S15.out))
  have y16 : w15.heap.size ≤ w16.heap.size := Below.size k1
  have Ow_0_16 : Hid (Lies w2.heap.size w3.heap.size w16 w_0 cs0) := Lies.nw Ow_0_15.out k1
  have OMg0_16 : Hid (Lies w5.heap.size w6.heap.size w16 g0 (markd 1 cs0.length)) := Lies.nw OMg0_15.out k1
  clear k1 Ow_0_15 OMg0_15 S15
  go_wp2_with fail
  refine Calls.mono (toByte_at w16 aa capa za (Row.below HRa.out S16.out) hla) ?_
  rintro e w17 ⟨rfl, k1, t1⟩
  have x17 : w16.heap.size < w17.heap.size := t1.1
  have Oua_17 : Hid (At w17 w16.heap.size za) := t1
  clear t1
  have S17 : Hid (Below w.heap.size w w17) := Below.trans S16.out (Below.mono k1 (Below.size S16.out))
  have y17 : w16.heap.size ≤ w17.heap.size := Below.size k1
  have Ow_0_17 : Hid (Lies w2.heap.size w3.heap.size w17 w_0 cs0) := Lies.nw Ow_0_16.out k1
  have OMg0_17 : Hid (Lies w5.heap.size w6.heap.size w17 g0 (markd 1 cs0.length)) := Lies.nw OMg0_16.out k1
  have Our_17 : Hid (At w17 w15.heap.size zr) := At.nw Our_16.out k1
  clear k1 Ow_0_16 OMg0_16 Our_16 S16
  go_wp2_with fail
  refine Calls.mono (HI.out w17 _ _ _ _ Our_17.out Oua_17.out) ?_
  rintro e w18 ⟨h0, rfl, k1, t0⟩
  have Oh0_18 : Hid (Lies w17.heap.size w18.heap.size w18 h0 cs0) := t0
  clear t0
  have S18 : Hid (Below w.heap.size w w18) := Below.trans S17.out (Below.mono k1 (Below.size S17.out))
  have y18 : w17.heap.size ≤ w18.heap.size := Below.size k1
  have Ow_0_18 : Hid (Lies w2.heap.size w3.heap.size w18 w_0 cs0) := Lies.nw Ow_0_17.out k1
  have OMg0_18 : Hid (Lies w5.heap.size w6.heap.size w18 g0 (markd 1 cs0.length)) := Lies.nw OMg0_17.out k1
  have Our_18 : Hid (At w18 w15.heap.size zr) := At.nw Our_17.out k1
  have Oua_18 : Hid (At w18 w16.heap.size za) := At.nw Oua_17.out k1
  clear k1 Ow_0_17 OMg0_17 Our_17 Oua_17 S17
  clear Our_18 Oua_18
  go_wp2_with fail
  refine Calls.mono (eqByte_lies w18 _ _ _ _ _ _ cs0 hc0 Oh0_18.out Ow_0_18.out) ?_
  rintro e w19 ⟨rfl, k1⟩
  have S19 : Hid (Below w.heap.size w w19) := Below.trans S18.out (Below.mono k1 (Below.size S18.out))
  have y19 : w18.heap.size ≤ w19.heap.size := Below.size k1
  have Ow_0_19 : Hid (Lies w2.heap.size w3.heap.size w19 w_0 cs0) := Lies.nw Ow_0_18.out k1
  have OMg0_19 : Hid (Lies w5.heap.size w6.heap.size w19 g0 (markd 1 cs0.length)) := Lies.nw OMg0_18.out k1
  have Oh0_19 : Hid (Lies w17.heap.size w18.heap.size w19 h0 cs0) := Lies.nw Oh0_18.out k1
  clear k1 Ow_0_18 OMg0_18 Oh0_18 S18
  go_wp2_with fail
  refine Calls.mono (held_lies w19 _ _ _ 1 cs0.length (by omega) (by omega) hc0 OMg0_19.out) ?_
  rintro e w19 ⟨rfl, rfl⟩
  go_wp2
  go_ret
  exact ⟨rfl, S19.out⟩

theorem allUnfilterRow (w : World) (k : Int) (hk : -9223372036854775808 ≤ k ∧ k ≤ 9223372036854775807) (ar : Option Addr) (cr : Nat) (zr : List Int) (hr : Row .u8 w ar zr) (hlr : zr.length ≤ 1048576) (h8r : ∀ z ∈ zr, 0 ≤ z ∧ z ≤ 255) (aa : Option Addr) (ca : Nat) (za : List Int) (ha : Row .u8 w aa za) (hla : za.length ≤ 1048576) (h8a : ∀ z ∈ za, 0 ≤ z ∧ z ≤ 255) :
    Calls Try.prog 6 #[.int .i64 k, .slice ar zr.length cr, .slice aa za.length ca] w fun e w' => e = .returned (.bool true) ∧ Below w.heap.size w w' := by
  by_cases h : (0 ≤ k ∧ k ≤ 4) ∧ RowOk zr.length za.length
  · obtain ⟨⟨h0, h4⟩, hok⟩ := h
    obtain ⟨j, rfl⟩ := Int.eq_ofNat_of_zero_le h0
    have e : za.length = zr.length := hok.2.2.2
    have hok2 : RowOk zr.length zr.length := ⟨hok.1, hok.2.1, hok.2.2.1, rfl⟩
    have hfl := unf_len j zr za
    refine walkUnfilterRow w _ hk ar cr zr hr hlr aa ca za ha hla (unf j zr za) (by omega) true ?_ ?_
    · intro W b1 c1 b2 c2 h1 h2
      have k1 := sunfilter W j (by omega) b1 0 c1 b2 0 c2 zr.length zr za hok2 rfl e ⟨h1.1, h1.2.1⟩ ⟨h2.1, h2.2.1⟩ h8r h8a
      rw [e]
      refine k1.mono ?_
      rintro e w' ⟨g, he, hn, hg, hat⟩
      exact ⟨_, he, hn, Or.inr ⟨g, zr.length, by rw [hfl], hg, hat.1, hat⟩⟩
    · intro W b1 c1 b2 c2 h1 h2
      have k1 := iunfilter W j (by omega) b1 0 c1 b2 0 c2 zr.length zr za hok2 rfl e ⟨h1.1, h1.2.1⟩ ⟨h2.1, h2.2.1⟩ h8r h8a
      rw [e]
      refine k1.mono ?_
      rintro e w' ⟨g, he, hn, hg, hat⟩
      exact ⟨_, he, hn, Or.inr ⟨g, zr.length, by rw [hfl], hg, hat.1, hat⟩⟩
  · refine walkUnfilterRow w _ hk ar cr zr hr hlr aa ca za ha hla [] (by simp) false ?_ ?_
    · intro W b1 c1 b2 c2 h1 h2
      refine (sunfilter_no W k _ _ _ _ c1 c2 hlr hla h).mono ?_
      rintro e w' ⟨he, rfl⟩
      exact ⟨_, he, Below.refl _ _, Lies.nil _ _ _⟩
    · intro W b1 c1 b2 c2 h1 h2
      refine (iunfilter_no W k _ _ _ _ c1 c2 hlr hla h).mono ?_
      rintro e w' ⟨he, rfl⟩
      exact ⟨_, he, Below.refl _ _, Lies.nil _ _ _⟩

end Go.Proofs.Yteehoihkbcbbgaa

namespace Go.Proofs.Yteehoihkbcbbgaa.fnExactUnfilterRow
open Go.ChangeShapes Go.WideShapes Go.ChangeAt Go.RowKit
open Go.ChangeMaps (open_string shut_string)
set_option linter.unusedVariables false

theorem own : ownKnob Try.prog.godebug = none := by kernel_rfl
theorem laidOut : laidOutB Try.prog = true := by kernel_rfl

/-- WHAT THE WALK IS TOLD OF A SLICE OF INTEGERS THAT CAME IN: it is nil; or it leads to a row of 'cap' cells, the numbers 'zs' (the first 'len' are its elements, the rest its spare room), each fitting its kind. -/
def IsRow (k : IntKind) (w : World) (a : Option Addr) (len cap : Nat) (zs : List Int) : Prop :=
  (a = none ∧ len = 0 ∧ cap = 0 ∧ zs = []) ∨
  ∃ x, a = some x ∧ len ≤ cap ∧ cap ≤ maxLen ∧ zs.length = cap ∧ (∀ i, i < zs.length → w.cell? (x.add i) = some (.int k (zs.getD i 0))) ∧ ∀ n ∈ zs, (Lit.int k n).wf = true

theorem row_of {k : IntKind} {w : World} {a : Option Addr} {len cap : Nat} {z : List Int} (h : IsRow k w a len cap z) : Row k w a (z.take len) ∧ (z.take len).length = len := by
  rcases h with ⟨_, h, _, h2⟩ | ⟨x, rfl, hl, hm, hz, hcell, hwz⟩
  · subst h; exact ⟨Or.inl rfl, rfl⟩
  · by_cases h0 : len = 0
    · subst h0; exact ⟨Or.inl rfl, rfl⟩
    · obtain ⟨b, off, spot⟩ := x
      have hc := hcell 0 (by omega)
      have hspot : spot = none := by simpa [Addr.add] using World.cell?_spot hc
      subst hspot
      refine ⟨Or.inr ⟨b, off, rfl, World.block_lt_of_cell? w _ hc, fun i hi => ?_⟩, by simp; omega⟩
      have hi' : i < len := by simp at hi; omega
      have hci := hcell i (by omega)
      have e1 : (z.take len).getD i 0 = z.getD i 0 := by simp [hi']
      rw [e1, ← hci]
      congr 1
      by_cases h00 : i = 0
      · subst h00; simp [Addr.add]
      · simp [Addr.add, h00]
theorem row_u8 {w : World} {a : Option Addr} {len cap : Nat} {z : List Int} (h : IsRow .u8 w a len cap z) : ∀ x ∈ z.take len, 0 ≤ x ∧ x ≤ 255 := by
  intro x hx
  rcases h with ⟨_, _, _, rfl⟩ | ⟨y, _, hl, hm, _, _, hwz⟩
  · simp at hx
  · have := hwz x (List.mem_of_mem_take hx)
    simp [Lit.wf, IntKind.min, IntKind.max, IntKind.signed, IntKind.bits] at this; omega
theorem row_max {k : IntKind} {w : World} {a : Option Addr} {len cap : Nat} {z : List Int} (h : IsRow k w a len cap z) : len ≤ 9223372036854775807 := by
  rcases h with ⟨_, h, _, _⟩ | ⟨x, _, hl, hm, _, _, _⟩
  · omega
  · unfold maxLen at hm; omega

/-! ### STEP 1: THE WALK: the Go text returns true, AND WRITES NOTHING THAT WAS THERE: 'Below w.heap.size w w'' (Derived/Below.lean: '.refl', '.alloc', '.drew', '.setCell' at a new block, '.trans'). Open each 'IsRow' by 'rcases' AHEAD of 'go_enter'; part every test ahead of the walk. -/
theorem walk (a0 : Int) (a1 : Option Addr) (len1 cap1 : Nat) (z1 : List Int) (a2 : Option Addr) (len2 cap2 : Nat) (z2 : List Int) (w : World) (w0 : (Lit.int .i64 a0).wf = true) (w1 : IsRow .u8 w a1 len1 cap1 z1) (w2 : IsRow .u8 w a2 len2 cap2 z2) :
    Calls Try.prog 6 #[.int .i64 a0, .slice a1 len1 cap1, .slice a2 len2 cap2] w fun e w' => e = .returned (.bool true) ∧ Below w.heap.size w w' := by
  have hb0 := i64_bd w0
  obtain ⟨hrow1, hlen1⟩ := row_of w1
  have h81 := row_u8 w1
  have hm1 := row_max w1
  clear w1
  generalize z1.take len1 = zs1 at *
  subst hlen1
  obtain ⟨hrow2, hlen2⟩ := row_of w2
  have h82 := row_u8 w2
  have hm2 := row_max w2
  clear w2
  generalize z2.take len2 = zs2 at *
  subst hlen2
  by_cases hbig1 : 1048576 < (zs1.length : Int)
  · clear h81 hrow1 h82 hrow2
    go_enter Try.func6, Try.ntmps6
    go_wp2
    go_ret
    exact ⟨rfl, Below.refl _ _⟩
  by_cases hbig2 : 1048576 < (zs2.length : Int)
  · clear h81 hrow1 h82 hrow2
    go_enter Try.func6, Try.ntmps6
    go_wp2
    go_ret
    exact ⟨rfl, Below.refl _ _⟩
  exact allUnfilterRow w a0 hb0 a1 cap1 zs1 hrow1 (by omega) h81 a2 cap2 zs2 hrow2 (by omega) h82

/-! ### THE ROW's STEP: WRITTEN OUT: LEAVE IT -/
set_option maxRecDepth 100000 in
theorem lifted (os : Os) (started : os.Started) (H : Type) (enc : TypeId × Value → H) :
    ReturnsInHanded {} Try.checked os 6 .any (Rows.fnExactUnfilterRowSpec.pre6 enc Try.prog Try.f6 Rows.fnExactUnfilterRowRow.domain false) (Rows.fnExactUnfilterRowSpec.post enc Try.prog Try.f6 false true false false) := by
  refine returnsInHanded_of_change (C := Try.checked) own started (by kernel_rfl) Try.func6
    (ChangeSpec.witness6 (enc := enc) (C := Try.checked) false ⟨#[], #[.int .i64 0, .slice none 0 0, .slice none 0 0], []⟩ 8 (by kernel_rfl) (by kernel_rfl) (by kernel_rfl) (by kernel_rfl)) ?_
  intro W base args ds gs before hval0 hW hcnd _
  have hval : ∀ (j : Nat) t v, Try.f6.params[j]? = some t → args[j]? = some v → Value.okWide Try.prog W .any base t v := hval0
  have hW' := hW
  obtain ⟨p, q, hA0, hV, rfl, hfz, hnd⟩ := hW
  have hA : DataW.TrodAll enc Try.prog W 0 (fun _ => true) true Try.f6.params.toList args.toList ds p := hA0
  rw [Try.params6] at hA hval
  obtain ⟨v0, vs0, d0, ds0, p0, q0, hargs, rfl, rfl, h0, r0⟩ := trodAll_cons hA
  obtain ⟨v1, vs1, d1, ds1, p1, q1, rfl, rfl, rfl, h1, r1⟩ := trodAll_cons r0
  obtain ⟨v2, vs2, d2, ds2, p2, q2, rfl, rfl, rfl, h2, r2⟩ := trodAll_cons r1
  obtain ⟨rfl, rfl, rfl⟩ := trodAll_nil r2
  obtain rfl : args = #[v0, v1, v2] := by cases args; simp_all
  obtain ⟨rfl, rfl⟩ := trodVars_none hV
  obtain ⟨a0, rfl, rfl, rfl, w0⟩ := open_int Try.underlying3 (hval 0 3 v0 rfl rfl) h0
  obtain ⟨a1, len1, cap1, rfl⟩ := okWide_slice Try.underlying22 (hval 1 22 v1 rfl rfl)
  have k1 := h1
  have lt1 : ∀ x ∈ p1, x.block < W.heap.size := by obtain ⟨m, hm⟩ := k1; exact DataW.trod_lt m _ _ _ hm
  obtain ⟨z1, w1⟩ : ∃ zs, IsRow .u8 W a1 len1 cap1 zs := by
    obtain ⟨fuel, hf⟩ := h1
    rcases open_ints Try.underlying22 Try.underlying5 (by kernel_rfl) hf with ⟨hcs, _⟩ | ⟨x, l, c, zs, hcs, _, hl, hm, hz, _, hcell, hwz⟩
    · simp [Value.cells] at hcs
      obtain ⟨rfl, rfl, rfl⟩ := hcs
      exact ⟨[], .inl ⟨rfl, rfl, rfl, rfl⟩⟩
    · simp [Value.cells] at hcs
      obtain ⟨rfl, rfl, rfl⟩ := hcs
      exact ⟨zs, .inr ⟨_, rfl, hl, hm, by simpa using hz, hcell, hwz⟩⟩
  obtain ⟨a2, len2, cap2, rfl⟩ := okWide_slice Try.underlying22 (hval 2 22 v2 rfl rfl)
  have k2 := h2
  have lt2 : ∀ x ∈ p2, x.block < W.heap.size := by obtain ⟨m, hm⟩ := k2; exact DataW.trod_lt m _ _ _ hm
  obtain ⟨z2, w2⟩ : ∃ zs, IsRow .u8 W a2 len2 cap2 zs := by
    obtain ⟨fuel, hf⟩ := h2
    rcases open_ints Try.underlying22 Try.underlying5 (by kernel_rfl) hf with ⟨hcs, _⟩ | ⟨x, l, c, zs, hcs, _, hl, hm, hz, _, hcell, hwz⟩
    · simp [Value.cells] at hcs
      obtain ⟨rfl, rfl, rfl⟩ := hcs
      exact ⟨[], .inl ⟨rfl, rfl, rfl, rfl⟩⟩
    · simp [Value.cells] at hcs
      obtain ⟨rfl, rfl, rfl⟩ := hcs
      exact ⟨zs, .inr ⟨_, rfl, hl, hm, by simpa using hz, hcell, hwz⟩⟩
  clear hA0 hval0
  refine (walk a0 a1 len1 cap1 z1 a2 len2 cap2 z2 W w0 w1 w2).mono fun e W' ⟨he, bel⟩ => ?_
  subst he
  exact ⟨_, rfl, _, _, _, [], _, [], hW', trodAll_mk1 (shut_bool Try.underlying4 _), (trodAll_cons_mk (shut_int Try.underlying3 w0) (trodAll_cons_mk (Below.trod laidOut (by kernel_rfl) (of_decide_eq_true (by kernel_rfl)) k1 bel lt1) (trodAll_cons_mk (Below.trod laidOut (by kernel_rfl) (of_decide_eq_true (by kernel_rfl)) k2 bel lt2) trodAll_mk0))), rfl, bel.frame _, fun h => by cases h⟩

theorem over : Rows.fnExactUnfilterRowRow.holds Try.pinned (OpenSpec.ofChange Rows.fnExactUnfilterRowSpec) :=
  OpenClaim.holds_of_wide 6 Try.f6 rfl rfl rfl rfl rfl rfl rfl ⟨rfl, rfl, rfl, rfl, rfl⟩ rfl rfl rfl rfl rfl (by kernel_rfl) Try.func6 (by kernel_rfl)
    (of_decide_eq_true (by kernel_rfl)) (by unfold Func.isWrapper; first | (rw [if_pos (by decide +kernel)]; kernel_rfl) | (rw [if_neg (by decide +kernel)]; exact ⟨rfl, rfl⟩))
    (fun os started H enc _ => lifted os started H enc)

/-- ████ THE STATEMENT ████ -/
theorem proved : Rows.FnExactUnfilterRowSaid := over
#print axioms proved
end Go.Proofs.Yteehoihkbcbbgaa.fnExactUnfilterRow
