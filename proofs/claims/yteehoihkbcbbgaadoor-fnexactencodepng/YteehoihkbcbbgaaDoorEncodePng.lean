/-
  The law on EncodePng returns true at every argument where the four tables read as the program's text lays them, and its arguments and the tables read afterwards as they read before; the tables are the one condition (the card ties them).
-/
import Derived.Test.YteehoihkbcbbgaaDoorSEncE
import Derived.Test.YteehoihkbcbbgaaDoorFrame
import Derived.Test.YteehoihkbcbbgaaDoorCards
import Derived.Test.YteehoihkbcbbgaaDoorTie
import Derived.ProofKit
import Derived.LaidMore
import Derived.OpenShut
import Derived.OpenVars
import Derived.ShutString
import Derived.ChangeOld
import Derived.Lib.LaidU8
import Derived.Stop.Joined
import Derived.SevenTiedAt
namespace Go.Proofs.YteehoihkbcbbgaaDoor
open Go.ChangeShapes Go.WideShapes Go.ChangeAt Go.RowKit
set_option linter.unusedVariables false

set_option maxHeartbeats 8000000 in
theorem walkEncodePng (w : World) (x y : Int) (hix : -9223372036854775808 ≤ x ∧ x ≤ 9223372036854775807) (hiy : -9223372036854775808 ≤ y ∧ y ≤ 9223372036854775807) (ap : Option Addr) (capp : Nat) (zp : List Int) (hrp : Row .u8 w ap zp) (hlp : zp.length ≤ 1048576) (cs0 : List Int) (hc0 : cs0.length ≤ 1048576) (r1 : Bool)
    (hS : ∀ W bp, Tabs W → At W bp zp → Calls Tryd.prog 12 #[.int .i64 x, .int .i64 y, .slice (some ⟨bp, 0, none⟩) zp.length zp.length] W fun e w' => ∃ v0, e = .returned (.tuple #[v0, .bool r1]) ∧ Nw W w' ∧ Lies W.heap.size w'.heap.size w' v0 cs0)
    (hI : ∀ W bp, Tabs W → At W bp zp → Calls Tryd.prog 14 #[.int .i64 x, .int .i64 y, .slice (some ⟨bp, 0, none⟩) zp.length zp.length] W fun e w' => ∃ v0, e = .returned (.tuple #[v0, .bool r1]) ∧ Nw W w' ∧ Lies W.heap.size w'.heap.size w' v0 cs0) (ht : Tabs w) :
    Calls Tryd.prog 4 #[.int .i64 x, .int .i64 y, .slice ap zp.length capp] w fun e w' => e = .returned (.bool true) ∧ Below w.heap.size w w' := by
  have hbdp : decide ((1048576 : Int) < (zp.length : Int)) = false := by simp; omega
  have HRp : Hid (Row .u8 w ap zp) := hrp
  have HS : Hid _ := hS
  have HI : Hid _ := hI
  have h4 : 4 ≤ w.heap.size := ht.2.2.2.2
  have HT : Hid (∀ W, Below w.heap.size w W → Tabs W) := fun W h => ht.below h h4
  clear hrp hS hI ht
  have hq1 : (r1 != r1) = false := by simp
  go_enter Tryd.func4, Tryd.ntmps4
  go_wp2_with fail
  refine Calls.mono (toByte_at w ap capp zp HRp.out hlp) ?_
  rintro e w1 ⟨rfl, k1, t1⟩
  have x1 : w.heap.size < w1.heap.size := t1.1
  have Opp_1 : Hid (At w1 w.heap.size zp) := t1
  clear t1
  have S1 : Hid (Below w.heap.size w w1) := Below.trans (Below.refl w.heap.size w) (Below.mono k1 (Below.size (Below.refl w.heap.size w)))
  have y1 : w.heap.size ≤ w1.heap.size := Below.size k1
  clear k1 
  go_wp2_with fail
  refine Calls.mono (HS.out w1 _ (HT.out _ S1.out) Opp_1.out) ?_
  rintro e w2 ⟨w_0, rfl, k1, t0⟩
  have Ow_0_2 : Hid (Lies w1.heap.size w2.heap.size w2 w_0 cs0) := t0
  clear t0
  have S2 : Hid (Below w.heap.size w w2) := Below.trans S1.out (Below.mono k1 (Below.size S1.out))
  have y2 : w1.heap.size ≤ w2.heap.size := Below.size k1
  have Opp_2 : Hid (At w2 w.heap.size zp) := At.nw Opp_1.out k1
  clear k1 Opp_1 S1
  clear Opp_2
  go_wp2_with fail
  refine Calls.mono (toByte_at w2 ap capp zp (Row.below HRp.out S2.out) hlp) ?_
  rintro e w3 ⟨rfl, k1, t1⟩
  have x3 : w2.heap.size < w3.heap.size := t1.1
  have Oxp_3 : Hid (At w3 w2.heap.size zp) := t1
  clear t1
  have S3 : Hid (Below w.heap.size w w3) := Below.trans S2.out (Below.mono k1 (Below.size S2.out))
  have y3 : w2.heap.size ≤ w3.heap.size := Below.size k1
  have Ow_0_3 : Hid (Lies w1.heap.size w2.heap.size w3 w_0 cs0) := Lies.nw Ow_0_2.out k1
  clear k1 Ow_0_2 S2
  go_wp2_with fail
  refine Calls.mono (HI.out w3 _ (HT.out _ S3.out) Oxp_3.out) ?_
  rintro e w4 ⟨g0, rfl, k1, t0⟩
  have Og0_4 : Hid (Lies w3.heap.size w4.heap.size w4 g0 cs0) := t0
  clear t0
  have S4 : Hid (Below w.heap.size w w4) := Below.trans S3.out (Below.mono k1 (Below.size S3.out))
  have y4 : w3.heap.size ≤ w4.heap.size := Below.size k1
  have Ow_0_4 : Hid (Lies w1.heap.size w2.heap.size w4 w_0 cs0) := Lies.nw Ow_0_3.out k1
  have Oxp_4 : Hid (At w4 w2.heap.size zp) := At.nw Oxp_3.out k1
  clear k1 Ow_0_3 Oxp_3 S3
  go_wp2_with fail
  refine Calls.mono (eqByte_lies w4 _ _ _ _ _ _ cs0 hc0 Og0_4.out Ow_0_4.out) ?_
  rintro e w5 ⟨rfl, k1⟩
  have S5 : Hid (Below w.heap.size w w5) := Below.trans S4.out (Below.mono k1 (Below.size S4.out))
  have y5 : w4.heap.size ≤ w5.heap.size := Below.size k1
  have Ow_0_5 : Hid (Lies w1.heap.size w2.heap.size w5 w_0 cs0) := Lies.nw Ow_0_4.out k1
  have Oxp_5 : Hid (At w5 w2.heap.size zp) := At.nw Oxp_4.out k1
  have Og0_5 : Hid (Lies w3.heap.size w4.heap.size w5 g0 cs0) := Lies.nw Og0_4.out k1
  clear k1 Ow_0_4 Oxp_4 Og0_4 S4
  go_wp2_with fail
  refine Calls.mono (toByte_at w5 ap capp zp (Row.below HRp.out S5.out) hlp) ?_
  rintro e w6 ⟨rfl, k1, t1⟩
  have x6 : w5.heap.size < w6.heap.size := t1.1
  have Oyp_6 : Hid (At w6 w5.heap.size zp) := t1
  clear t1
  have S6 : Hid (Below w.heap.size w w6) := Below.trans S5.out (Below.mono k1 (Below.size S5.out))
  have y6 : w5.heap.size ≤ w6.heap.size := Below.size k1
  have Ow_0_6 : Hid (Lies w1.heap.size w2.heap.size w6 w_0 cs0) := Lies.nw Ow_0_5.out k1
  have Oxp_6 : Hid (At w6 w2.heap.size zp) := At.nw Oxp_5.out k1
  have Og0_6 : Hid (Lies w3.heap.size w4.heap.size w6 g0 cs0) := Lies.nw Og0_5.out k1
  clear k1 Ow_0_5 Oxp_5 Og0_5 S5
  go_wp2_with fail
  refine Calls.mono (eqByte_at w6 _ _ _ _ _ zp rfl hlp Oxp_6.out Oyp_6.out) ?_
  rintro e w7 ⟨rfl, k1⟩
  have S7 : Hid (Below w.heap.size w w7) := Below.trans S6.out (Below.mono k1 (Below.size S6.out))
  have y7 : w6.heap.size ≤ w7.heap.size := Below.size k1
  have Ow_0_7 : Hid (Lies w1.heap.size w2.heap.size w7 w_0 cs0) := Lies.nw Ow_0_6.out k1
  have Oxp_7 : Hid (At w7 w2.heap.size zp) := At.nw Oxp_6.out k1
  have Og0_7 : Hid (Lies w3.heap.size w4.heap.size w7 g0 cs0) := Lies.nw Og0_6.out k1
  have Oyp_7 : Hid (At w7 w5.heap.size zp) := At.nw Oyp_6.out k1
  clear k1 Ow_0_6 Oxp_6 Og0_6 Oyp_6 S6
  clear Oyp_7
  go_wp2_with fail
  refine Calls.mono (markFrom_at w7 _ _ 1 zp (by omega) (by omega) hlp Oxp_7.out) ?_
  rintro e w8 ⟨rfl, k0, t1⟩
  have k1 : Mid w2.heap.size w3.heap.size w7 w8 := Sel.mid k0 (Nat.le_refl _) x3
  clear k0 t1
  have S8 : Hid (Below w.heap.size w w8) := Below.trans S7.out (Mid.below k1 (by omega))
  have y8 : w7.heap.size ≤ w8.heap.size := Nat.le_of_eq (Mid.size k1).symm
  have Ow_0_8 : Hid (Lies w1.heap.size w2.heap.size w8 w_0 cs0) := Lies.mid Ow_0_7.out k1 (by omega)
  have Og0_8 : Hid (Lies w3.heap.size w4.heap.size w8 g0 cs0) := Lies.mid Og0_7.out k1 (by omega)
  clear k1 Ow_0_7 Oxp_7 Og0_7 S7
  have hneg1 : decide ((1 : Int) + (zp.length : Int) < 0) = false := by simp; omega
  go_wp2_with fail
  refine Calls.mono (eqByte_lies w8 _ _ _ _ _ _ cs0 hc0 Og0_8.out Ow_0_8.out) ?_
  rintro e w9 ⟨rfl, k1⟩
  have S9 : Hid (Below w.heap.size w w9) := Below.trans S8.out (Below.mono k1 (Below.size S8.out))
  have y9 : w8.heap.size ≤ w9.heap.size := Below.size k1
  have Ow_0_9 : Hid (Lies w1.heap.size w2.heap.size w9 w_0 cs0) := Lies.nw Ow_0_8.out k1
  have Og0_9 : Hid (Lies w3.heap.size w4.heap.size w9 g0 cs0) := Lies.nw Og0_8.out k1
  clear k1 Ow_0_8 Og0_8 S8
  go_wp2_with fail
  refine Calls.mono (mark_lies w9 _ _ _ 1 cs0 (by omega) (by omega) hc0 Og0_9.out) ?_
  rintro e w10 ⟨rfl, k1, t1⟩
  have OMg0_10 : Hid (Lies w3.heap.size w4.heap.size w10 g0 (markd 1 cs0.length)) := t1
  clear t1
  have S10 : Hid (Below w.heap.size w w10) := Below.trans S9.out (Mid.below k1 (by omega))
  have y10 : w9.heap.size ≤ w10.heap.size := Nat.le_of_eq (Mid.size k1).symm
  have Ow_0_10 : Hid (Lies w1.heap.size w2.heap.size w10 w_0 cs0) := Lies.mid Ow_0_9.out k1 (by omega)
  clear k1 Ow_0_9 Og0_9 S9
  have hneg2 : decide ((1 : Int) + (cs0.length : Int) < 0) = false := by simp; omega
  have hqq : ((1 : Int) + (cs0.length : Int) != (1 : Int) + (cs0.length : Int)) = false := by simp
  go_wp2_with fail
  refine Calls.mono (held_lies w10 _ _ _ 1 cs0.length (by omega) (by omega) hc0 OMg0_10.out) ?_
  rintro e w10 ⟨rfl, rfl⟩
  go_wp2_with fail
  refine Calls.mono (toByte_at w10 ap capp zp (Row.below HRp.out S10.out) hlp) ?_
  rintro e w11 ⟨rfl, k1, t1⟩
  have x11 : w10.heap.size < w11.heap.size := t1.1
  have Oup_11 : Hid (At w11 w10.heap.size zp) := t1
  clear t1
  have S11 : Hid (Below w.heap.size w w11) := Below.trans S10.out (Below.mono k1 (Below.size S10.out))
  have y11 : w10.heap.size ≤ w11.heap.size := Below.size k1
  have Ow_0_11 : Hid (Lies w1.heap.size w2.heap.size w11 w_0 cs0) := Lies.nw Ow_0_10.out k1
  have OMg0_11 : Hid (Lies w3.heap.size w4.heap.size w11 g0 (markd 1 cs0.length)) := Lies.nw OMg0_10.out k1
  clear k1 Ow_0_10 OMg0_10 S10
  go_wp2_with fail
  refine Calls.mono (HI.out w11 _ (HT.out _ S11.out) Oup_11.out) ?_
  rintro e w12 ⟨h0, rfl, k1, t0⟩
  have Oh0_12 : Hid (Lies w11.heap.size w12.heap.size w12 h0 cs0) := t0
  clear t0
  have S12 : Hid (Below w.heap.size w w12) := Below.trans S11.out (Below.mono k1 (Below.size S11.out))
  have y12 : w11.heap.size ≤ w12.heap.size := Below.size k1
  have Ow_0_12 : Hid (Lies w1.heap.size w2.heap.size w12 w_0 cs0) := Lies.nw Ow_0_11.out k1
  have OMg0_12 : Hid (Lies w3.heap.size w4.heap.size w12 g0 (markd 1 cs0.length)) := Lies.nw OMg0_11.out k1
  have Oup_12 : Hid (At w12 w10.heap.size zp) := At.nw Oup_11.out k1
  clear k1 Ow_0_11 OMg0_11 Oup_11 S11
  clear Oup_12
  go_wp2_with fail
  refine Calls.mono (eqByte_lies w12 _ _ _ _ _ _ cs0 hc0 Oh0_12.out Ow_0_12.out) ?_
  rintro e w13 ⟨rfl, k1⟩
  have S13 : Hid (Below w.heap.size w w13) := Below.trans S12.out (Below.mono k1 (Below.size S12.out))
  have y13 : w12.heap.size ≤ w13.heap.size := Below.size k1
  have Ow_0_13 : Hid (Lies w1.heap.size w2.heap.size w13 w_0 cs0) := Lies.nw Ow_0_12.out k1
  have OMg0_13 : Hid (Lies w3.heap.size w4.heap.size w13 g0 (markd 1 cs0.length)) := Lies.nw OMg0_12.out k1
  have Oh0_13 : Hid (Lies w11.heap.size w12.heap.size w13 h0 cs0) := Lies.nw Oh0_12.out k1
  clear k1 Ow_0_12 OMg0_12 Oh0_12 S12
  go_wp2_with fail
  refine Calls.mono (held_lies w13 _ _ _ 1 cs0.length (by omega) (by omega) hc0 OMg0_13.out) ?_
  rintro e w13 ⟨rfl, rfl⟩
  go_wp2
  go_ret
  exact ⟨rfl, S13.out⟩

theorem bestL_u8 (ds : List Nat) (J : Nat) (h8 : ∀ d ∈ ds, d < 256) (hl : ds.length ≤ 6000) : ∀ d ∈ bestL ds J, d < 256 := by
  intro d hd
  unfold bestL at hd
  split at hd
  · have hf : Fine (puts ([], 0) (acc (ints ds) J ++ codeOf 0 7)) := fine_puts _ _ fine0 (fun x hx => by
      rcases List.mem_append.1 hx with hx | hx
      · exact acc_bits _ _ x hx
      · exact codeOf_bits' _ _ x hx)
    exact hf.2.1 d hd
  · simp [stored] at hd
    rcases hd with rfl | rfl | rfl | rfl | rfl | hd
    · omega
    · omega
    · omega
    · omega
    · omega
    · exact h8 d hd
theorem png_len (wide high : Nat) (ds : List Nat) (J : Nat) (hJ : Ends (ints ds) J) (hl : ds.length ≤ 6000) : (png wide high (pdata ds J)).length ≤ 300000 := by
  have h1 := bestL_len ds J hJ hl
  have h2 : (pdata ds J).length = (bestL ds J).length + 6 := by simp [pdata, ints_len, four]
  have e1 : (strInts sIHDR).length = 4 := rfl
  have e2 : (strInts sIDAT).length = 4 := rfl
  have e3 : (strInts sIEND).length = 4 := rfl
  have e4 : mark8.length = 8 := rfl
  simp only [png, List.length_append, chunk_len, e1, e2, e3, e4, head_len, h2, List.length_nil]
  omega
theorem allEncodePng (w : World) (ht : Tabs w) (x : Int) (hx : -9223372036854775808 ≤ x ∧ x ≤ 9223372036854775807) (y : Int) (hy : -9223372036854775808 ≤ y ∧ y ≤ 9223372036854775807) (a : Option Addr) (c : Nat) (zp : List Int) (hr : Row .u8 w a zp) (hl : zp.length ≤ 1048576) (h8 : ∀ z ∈ zp, 0 ≤ z ∧ z ≤ 255) :
    Calls Tryd.prog 4 #[.int .i64 x, .int .i64 y, .slice a zp.length c] w fun e w' => e = .returned (.bool true) ∧ Below w.heap.size w w' := by
  by_cases h : (1 ≤ x ∧ x ≤ 36) ∧ (1 ≤ y ∧ y ≤ 36) ∧ (zp.length : Int) = 4 * x * y
  · obtain ⟨h1, h2, h3⟩ := h
    obtain ⟨wide, rfl⟩ := Int.eq_ofNat_of_zero_le (show 0 ≤ x by omega)
    obtain ⟨high, rfl⟩ := Int.eq_ofNat_of_zero_le (show 0 ≤ y by omega)
    have hw : 1 ≤ wide ∧ wide ≤ 36 := by omega
    have hh : 1 ≤ high ∧ high ≤ 36 := by omega
    have hz : zp.length = high * (4 * wide) := by
      have e : ((high * (4 * wide) : Nat) : Int) = 4 * (wide : Int) * (high : Int) := by rw [Nat.mul_comm]; simp
      omega
    obtain ⟨ds, hds, hd8⟩ := nats_of (rowsN zp (4 * wide) high) (rowsN_u8 zp (4 * wide) high)
    have hrl := rowsN_len zp (4 * wide) high (by omega)
    have hdl0 : ds.length = high * (4 * wide + 1) := by rw [← hrl, hds, ints_len]
    have hdl : ds.length ≤ 6000 := by
      rw [hdl0]
      calc high * (4 * wide + 1) ≤ 36 * 145 := Nat.mul_le_mul hh.2 (by omega)
        _ ≤ 6000 := by omega
    have hd0 : 0 < ds.length := by rw [hdl0]; exact Nat.mul_pos (by omega) (by omega)
    obtain ⟨J, hJ⟩ := ends (ints ds)
    have hp8 := bestL_u8 ds J hd8 hdl
    have hpl := png_len wide high ds J hJ hdl
    refine walkEncodePng w _ _ hx hy a c zp hr hl (png wide high (pdata ds J)) (by omega) true ?_ ?_ ht
    · intro W b htW ha
      refine (sencode W wide high b zp.length zp ds J hw hh hz (Nat.le_refl _) (by omega) h8 ha hds hd8 hdl hd0 hJ hp8).mono ?_
      rintro e w' ⟨v, he, hn, ho⟩
      exact ⟨v, he, hn, ho.lies⟩
    · intro W b htW ha
      refine (iencode W wide high b zp.length zp ds J hw hh hz (Nat.le_refl _) (by omega) h8 ha htW hds hd8 hdl hd0 hJ hp8).mono ?_
      rintro e w' ⟨v, he, hn, ho⟩
      exact ⟨v, he, hn, ho.lies⟩
  · refine walkEncodePng w _ _ hx hy a c zp hr hl [] (by simp) false ?_ ?_ ht
    · intro W b htW ha
      refine (sencode_no W x y _ _ _ hl h).mono ?_
      rintro e w' ⟨he, rfl⟩
      exact ⟨_, he, Below.refl _ _, Lies.nil _ _ _⟩
    · intro W b htW ha
      refine (iencode_no W x y _ _ _ hl h).mono ?_
      rintro e w' ⟨he, rfl⟩
      exact ⟨_, he, Below.refl _ _, Lies.nil _ _ _⟩

end Go.Proofs.YteehoihkbcbbgaaDoor

namespace Go.Proofs.YteehoihkbcbbgaaDoor.fnExactEncodePng
open Go.ChangeShapes Go.WideShapes Go.ChangeAt Go.RowKit
open Go.ChangeMaps (open_string shut_string)
set_option linter.unusedVariables false

theorem own : ownKnob Tryd.prog.godebug = none := by kernel_rfl
theorem laidOut : laidOutB Tryd.prog = true := by kernel_rfl

/-- WHAT THE WALK IS TOLD OF A SLICE OF INTEGERS THAT CAME IN: it is nil; or it leads to a row of 'cap' cells, the numbers 'zs' (the first 'len' are its elements, the rest its spare room), each fitting its kind. -/
def IsRow (k : IntKind) (w : World) (a : Option Addr) (len cap : Nat) (zs : List Int) : Prop :=
  (a = none ∧ len = 0 ∧ cap = 0 ∧ zs = []) ∨
  ∃ x, a = some x ∧ len ≤ cap ∧ cap ≤ maxLen ∧ zs.length = cap ∧ (∀ i, i < zs.length → w.cell? (x.add i) = some (.int k (zs.getD i 0))) ∧ ∀ n ∈ zs, (Lit.int k n).wf = true

theorem row_of {k : IntKind} {w : World} {a : Option Addr} {len cap : Nat} {z : List Int} (h : IsRow k w a len cap z) : Row k w a (z.take len) ∧ (z.take len).length = len := by
  rcases h with ⟨_, h, _, h2⟩ | ⟨x, rfl, hl, hm, hz, hcell, hwz⟩
  · subst h; exact ⟨Or.inl rfl, rfl⟩
  · by_cases h0 : len = 0
    · subst h0; exact ⟨Or.inl rfl, rfl⟩
    · obtain ⟨b, off, spot⟩ := x
      have hc := hcell 0 (by omega)
      have hspot : spot = none := by simpa [Addr.add] using World.cell?_spot hc
      subst hspot
      refine ⟨Or.inr ⟨b, off, rfl, World.block_lt_of_cell? w _ hc, fun i hi => ?_⟩, by simp; omega⟩
      have hi' : i < len := by simp at hi; omega
      have hci := hcell i (by omega)
      have e1 : (z.take len).getD i 0 = z.getD i 0 := by simp [hi']
      rw [e1, ← hci]
      congr 1
      by_cases h00 : i = 0
      · subst h00; simp [Addr.add]
      · simp [Addr.add, h00]
theorem row_u8 {w : World} {a : Option Addr} {len cap : Nat} {z : List Int} (h : IsRow .u8 w a len cap z) : ∀ x ∈ z.take len, 0 ≤ x ∧ x ≤ 255 := by
  intro x hx
  rcases h with ⟨_, _, _, rfl⟩ | ⟨y, _, hl, hm, _, _, hwz⟩
  · simp at hx
  · have := hwz x (List.mem_of_mem_take hx)
    simp [Lit.wf, IntKind.min, IntKind.max, IntKind.signed, IntKind.bits] at this; omega
theorem row_max {k : IntKind} {w : World} {a : Option Addr} {len cap : Nat} {z : List Int} (h : IsRow k w a len cap z) : len ≤ 9223372036854775807 := by
  rcases h with ⟨_, h, _, _⟩ | ⟨x, _, hl, hm, _, _, _⟩
  · omega
  · unfold maxLen at hm; omega

theorem walk (a0 : Int) (a1 : Int) (a2 : Option Addr) (len2 cap2 : Nat) (z2 : List Int) (w : World) (ht : Tabs w) (w0 : (Lit.int .i64 a0).wf = true) (w1 : (Lit.int .i64 a1).wf = true) (w2 : IsRow .u8 w a2 len2 cap2 z2) :
    Calls Tryd.prog 4 #[.int .i64 a0, .int .i64 a1, .slice a2 len2 cap2] w fun e w' => e = .returned (.bool true) ∧ Below w.heap.size w w' := by
  have hb0 := i64_bd w0
  have hb1 := i64_bd w1
  obtain ⟨hrow2, hlen2⟩ := row_of w2
  have h82 := row_u8 w2
  have hm2 := row_max w2
  clear w2
  generalize z2.take len2 = zs2 at *
  subst hlen2
  by_cases hbig2 : 1048576 < (zs2.length : Int)
  · clear ht h82 hrow2
    go_enter Tryd.func4, Tryd.ntmps4
    go_wp2
    go_ret
    exact ⟨rfl, Below.refl _ _⟩
  exact allEncodePng w ht a0 hb0 a1 hb1 a2 cap2 zs2 hrow2 (by omega) h82

def laid4 : List (String × DataW Unit) := Rows.fnExactEncodePngRow.laid
theorem door_met (os : Os) (args : Array Value) : laidMetH Tryd.prog laid4 ((World.doorLaid Tryd.prog 400 os).forCall (fun _ _ => 0) ⟨#[], args, []⟩).memory :=
  laidMetH_of_parts3 (fuel := 8) (laidMet_of_run' 8 (by kernel_rfl) (by kernel_rfl)) (by kernel_rfl) (by kernel_rfl)
theorem lits_get (l : List Nat) (ds : List (DataW Unit)) (h : ds = l.map (fun z => .lit (.int .i64 (z : Int)))) (i : Nat) (hi : i < l.length) : ds[i]? = some (.lit (.int .i64 ((l.getD i 0 : Nat) : Int))) := by
  rw [h, List.getElem?_map, List.getElem?_eq_getElem hi]
  simp [hi]
theorem arr_cell {W : World} {n : String} {g t N f : Nat} {cs : Array Value} {p : List MemPlace} {ds : List (DataW Unit)} (hg : Tryd.prog.globalNamed n = some g) (hv : W.var? Tryd.prog n = some cs) (ht : Tryd.prog.underlying t = some (.array N 3))
    (hd : DataW.trod (fun _ => ()) Tryd.prog W 0 (fun _ => true) false f t cs.toList = some (.agg ds, p)) (i : Nat) (hi : i < N) (z : Int) (hz : ds[i]? = some (.lit (.int .i64 z))) : W.cell? ⟨g, i, none⟩ = some (.int .i64 z) := by
  obtain ⟨f', d, q, h1, h2⟩ := Lib.array_elem ht hd i hi
  rw [hz] at h1
  cases h1
  obtain ⟨k, e1, e2, _⟩ := DataW.trod_int Tryd.underlying3 h2
  have c3 : Tryd.prog.cellsOf 3 = 1 := by kernel_rfl
  rw [c3, Nat.mul_one] at e1
  have hk : z = k := (show z = k ∧ q = [] by simpa using e2).1
  subst hk
  have hc := World.var?_cell hg hv i
  rw [hc]
  have e3 : cs.toList[i]? = some (.int .i64 z) := by
    have := congrArg (fun l : List Value => l[0]?) e1
    simpa using this
  simpa using e3
theorem of_laid {W : World} (h : laidMetH Tryd.prog laid4 W) : Tabs W := by
  rw [MakeChecks.laidMetH_plain _ _ _ (by kernel_rfl)] at h
  obtain ⟨ps, ⟨g0, t0, cs0, f0, p0, q0, hg0, ht0, hv0, hd0, ⟨g1, t1, cs1, f1, p1, q1, hg1, ht1, hv1, hd1, ⟨g2, t2, cs2, f2, p2, q2, hg2, ht2, hv2, hd2, ⟨g3, t3, cs3, f3, p3, q3, hg3, ht3, hv3, hd3, _, _⟩, _⟩, _⟩, _⟩, _, _⟩ := h
  obtain rfl := Option.some.inj ((show Tryd.prog.globalNamed "loop.example/g00137/impl.lengthBases" = some 0 by kernel_rfl).symm.trans hg0)
  obtain rfl := Option.some.inj ((show Tryd.prog.globalNamed "loop.example/g00137/impl.lengthExtras" = some 1 by kernel_rfl).symm.trans hg1)
  obtain rfl := Option.some.inj ((show Tryd.prog.globalNamed "loop.example/g00137/impl.distanceBases" = some 2 by kernel_rfl).symm.trans hg2)
  obtain rfl := Option.some.inj ((show Tryd.prog.globalNamed "loop.example/g00137/impl.distanceExtras" = some 3 by kernel_rfl).symm.trans hg3)
  obtain rfl := Option.some.inj ((show (Tryd.prog.globals[0]?).map (·.type) = some 48 by kernel_rfl).symm.trans ht0)
  obtain rfl := Option.some.inj ((show (Tryd.prog.globals[1]?).map (·.type) = some 48 by kernel_rfl).symm.trans ht1)
  obtain rfl := Option.some.inj ((show (Tryd.prog.globals[2]?).map (·.type) = some 86 by kernel_rfl).symm.trans ht2)
  obtain rfl := Option.some.inj ((show (Tryd.prog.globals[3]?).map (·.type) = some 86 by kernel_rfl).symm.trans ht3)
  have hsz : 3 < W.heap.size := World.block_lt_of_cell? W ⟨3, 0, none⟩ (arr_cell hg3 hv3 Tryd.underlying86 hd3 0 (by decide) 0 rfl)
  refine ⟨fun i hi => arr_cell hg0 hv0 Tryd.underlying48 hd0 i hi _ ?_, fun i hi => arr_cell hg1 hv1 Tryd.underlying48 hd1 i hi _ ?_, fun i hi => arr_cell hg2 hv2 Tryd.underlying86 hd2 i hi _ ?_, fun i hi => arr_cell hg3 hv3 Tryd.underlying86 hd3 i hi _ ?_, by omega⟩
  · exact lits_get LBl _ rfl i hi
  · exact lits_get LEl _ rfl i hi
  · exact lits_get DBl _ rfl i hi
  · exact lits_get DEl _ rfl i hi

set_option maxRecDepth 100000 in
theorem lifted (os : Os) (started : os.Started) (H : Type) (enc : TypeId × Value → H) :
    ReturnsInHanded {} Tryd.checked os 4 .any (fun w args => (Rows.fnExactEncodePngSpec.pre enc Tryd.prog Tryd.f4 [] false w args ∧ laidMetH Tryd.prog laid4 w) ∧ sizedMet enc Tryd.prog Tryd.f4 (OpenSpec.ofChange Rows.fnExactEncodePngSpec) false w args)
      (Rows.fnExactEncodePngSpec.post enc Tryd.prog Tryd.f4 false true false false) := by
  refine returnsInHanded_of_change_and (C := Tryd.checked) (X := fun w _ => laidMetH Tryd.prog laid4 w) (fun _ _ _ hh h => h.of_heap hh) own started (by kernel_rfl) Tryd.func4
    (ChangeSpec.witness_shaped (enc := enc) (C := Tryd.checked) (os := os) (X := fun w _ => laidMetH Tryd.prog laid4 w) false (World.doorLaid Tryd.prog 400 os) #[.int .i64 0, .int .i64 0, .slice none 0 0] 8 rfl (World.shaped_of_RefB (by kernel_rfl) (by kernel_rfl)) (by kernel_rfl) (by kernel_rfl) (by kernel_rfl) (door_met os _)) ?_
  intro W base args ds gs before hval0 hW _ _ hL _
  have hval : ∀ (j : Nat) t v, Tryd.f4.params[j]? = some t → args[j]? = some v → Value.okWide Tryd.prog W .any base t v := hval0
  have hW' := hW
  obtain ⟨p, q, hA0, hV, rfl, hfz, hnd⟩ := hW
  have hA : DataW.TrodAll enc Tryd.prog W 0 (fun _ => true) true Tryd.f4.params.toList args.toList ds p := hA0
  rw [Tryd.params4] at hA hval
  obtain ⟨v0, vs0, d0, ds0, p0, q0, hargs, rfl, rfl, h0, r0⟩ := trodAll_cons hA
  obtain ⟨v1, vs1, d1, ds1, p1, q1, rfl, rfl, rfl, h1, r1⟩ := trodAll_cons r0
  obtain ⟨v2, vs2, d2, ds2, p2, q2, rfl, rfl, rfl, h2, r2⟩ := trodAll_cons r1
  obtain ⟨rfl, rfl, rfl⟩ := trodAll_nil r2
  obtain rfl : args = #[v0, v1, v2] := by cases args; simp_all
  obtain ⟨a0, rfl, rfl, rfl, w0⟩ := open_int Tryd.underlying3 (hval 0 3 v0 rfl rfl) h0
  obtain ⟨a1, rfl, rfl, rfl, w1⟩ := open_int Tryd.underlying3 (hval 1 3 v1 rfl rfl) h1
  obtain ⟨a2, len2, cap2, rfl⟩ := okWide_slice Tryd.underlying22 (hval 2 22 v2 rfl rfl)
  have k2 := h2
  have lt2 : ∀ x ∈ p2, x.block < W.heap.size := by obtain ⟨m, hm⟩ := k2; exact DataW.trod_lt m _ _ _ hm
  obtain ⟨z2, w2⟩ : ∃ zs, IsRow .u8 W a2 len2 cap2 zs := by
    obtain ⟨fuel, hf⟩ := h2
    rcases open_ints Tryd.underlying22 Tryd.underlying5 (by kernel_rfl) hf with ⟨hcs, _⟩ | ⟨x, l, c, zs, hcs, _, hl, hm, hz, _, hcell, hwz⟩
    · simp [Value.cells] at hcs
      obtain ⟨rfl, rfl, rfl⟩ := hcs
      exact ⟨[], .inl ⟨rfl, rfl, rfl, rfl⟩⟩
    · simp [Value.cells] at hcs
      obtain ⟨rfl, rfl, rfl⟩ := hcs
      exact ⟨zs, .inr ⟨_, rfl, hl, hm, by simpa using hz, hcell, hwz⟩⟩
  clear hA0 hval0
  refine (walk a0 a1 a2 len2 cap2 z2 W (of_laid hL) w0 w1 w2).mono fun e W' ⟨he, bel⟩ => ?_
  subst he
  have hVars := Below.trodVars laidOut bel (by kernel_rfl) hV
  have hVn : DataW.TrodVars enc Tryd.prog W' (fun b => decide (b < W.heap.size)) ["loop.example/g00137/impl.lengthBases", "loop.example/g00137/impl.lengthExtras", "loop.example/g00137/impl.distanceBases", "loop.example/g00137/impl.distanceExtras"] gs q := hVars
  rcases gs with _ | ⟨g1, _ | ⟨g2, _ | ⟨g3, _ | ⟨g4, _ | ⟨g5, gs⟩⟩⟩⟩⟩
  · exact hVn.elim
  · obtain ⟨_, _, _, _, _, _, _, _, _, _, h, _⟩ := hVn; exact h.elim
  · obtain ⟨_, _, _, _, _, _, _, _, _, _, ⟨_, _, _, _, _, _, _, _, _, _, h, _⟩, _⟩ := hVn; exact h.elim
  · obtain ⟨_, _, _, _, _, _, _, _, _, _, ⟨_, _, _, _, _, _, _, _, _, _, ⟨_, _, _, _, _, _, _, _, _, _, h, _⟩, _⟩, _⟩ := hVn; exact h.elim
  · exact ⟨_, rfl, _, _, _, [], _, _, hW', trodAll_mk1 (shut_bool Tryd.underlying4 _), (trodAll_cons_mk (shut_int Tryd.underlying3 w0) (trodAll_cons_mk (shut_int Tryd.underlying3 w1) (trodAll_cons_mk (Below.trod laidOut (by kernel_rfl) (of_decide_eq_true (by kernel_rfl)) k2 bel lt2) trodAll_mk0))), hVars, bel.frame _, fun h => by cases h⟩
  · obtain ⟨_, _, _, _, _, _, _, _, _, _, ⟨_, _, _, _, _, _, _, _, _, _, ⟨_, _, _, _, _, _, _, _, _, _, ⟨_, _, _, _, _, _, _, _, _, _, h, _⟩, _⟩, _⟩, _⟩ := hVn; exact h.elim

theorem over : Rows.FnExactEncodePngSaid :=
  OpenClaim.holds_of_wide 4 Tryd.f4 rfl rfl rfl rfl rfl rfl rfl ⟨rfl, rfl, rfl, rfl, rfl⟩ rfl rfl rfl rfl rfl (by kernel_rfl) Tryd.func4 (by kernel_rfl)
    (of_decide_eq_true (by kernel_rfl)) (by unfold Func.isWrapper; first | (rw [if_pos (by decide +kernel)]; kernel_rfl) | (rw [if_neg (by decide +kernel)]; exact ⟨rfl, rfl⟩))
    (fun os started H enc _ => lifted os started H enc)

theorem proved : Rows.FnExactEncodePngCardSaid :=
  Claim7.holds_tied_plain_at .later [] [.data, .data, .data, .data] true (true, "ff8880868677299c63dd32e13cd0ee4ca11890e48258f067ca91f9a1d034d4d1") false
    over (fun _ h => by cases h) (by kernel_rfl) (fun _ h => by cases h) fnExactEncodePng_row_tie rfl ⟨rfl, rfl⟩ (by kernel_rfl) rfl
    (fun f fn hf hfn => by
      obtain rfl : f = 4 := Option.some.inj ((show Tryd.prog.funcNamed "loop.example/g00137/laws.FnExactEncodePng" = some 4 by kernel_rfl).symm.trans hf) |>.symm
      obtain rfl : fn = Tryd.f4 := (Option.some.inj (Tryd.func4.symm.trans hfn)).symm
      exact ⟨by kernel_rfl, fun j t ht => by
        rw [Tryd.params4] at ht
        have hm : t ∈ [3, 3, 22] := by simpa using Array.mem_of_getElem? ht
        have hall : ([3, 3, 22].all fun u => !Tryd.prog.wantsStandIn u) = true := by kernel_rfl
        exact (show Tryd.prog.wantsStandIn t = false by simpa using List.all_eq_true.1 hall t hm)⟩)
    (by kernel_rfl)
#print axioms proved
end Go.Proofs.YteehoihkbcbbgaaDoor.fnExactEncodePng
