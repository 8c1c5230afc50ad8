/-
  The walk of the law on PackBest: it returns true at every list of bytes where the four tables lie in their blocks; each theorem names its conditions.
-/
import Derived.Test.YtakdmgnkcpahbabDoorSStored
namespace Go.Proofs.YtakdmgnkcpahbabDoor
open Go.ChangeShapes Go.WideShapes Go.ChangeAt Go.RowKit
set_option linter.unusedVariables false
/-- What a call that answers a list of bytes and true leaves. -/
def Made (W w' : World) (g : Nat) (cs : List Int) : Prop := Nw W w' ∧ W.heap.size ≤ g ∧ At w' g cs

set_option maxHeartbeats 4000000 in
theorem law_yes (w : World) (a0 : Option Addr) (cap0 : Nat) (zs cs : List Int) (hr : Row .u8 w a0 zs) (hl : zs.length ≤ 1048576) (hl2 : cs.length ≤ 1048576)
    (ht : Tabs w) (hS : ∀ W b c, Tabs W → At W b zs → Calls Tryd.prog 11 #[.slice (some ⟨b, 0, none⟩) zs.length c] W fun e w' => ∃ g c2, e = .returned (.tuple #[.slice (some ⟨g, 0, none⟩) cs.length c2, .bool true]) ∧ Made W w' g cs)
    (hI : ∀ W b c, Tabs W → At W b zs → Calls Tryd.prog 12 #[.slice (some ⟨b, 0, none⟩) zs.length c] W fun e w' => ∃ g c2, e = .returned (.tuple #[.slice (some ⟨g, 0, none⟩) cs.length c2, .bool true]) ∧ Made W w' g cs) :
    Calls Tryd.prog 4 #[.slice a0 zs.length cap0] w fun e w' => e = .returned (.bool true) ∧ Below w.heap.size w w' := by
  have hbd : decide ((1048576 : Int) < (zs.length : Int)) = false := by simp; omega
  have HR : Hid (Row .u8 w a0 zs) := hr
  have HS : Hid _ := hS
  have HI : Hid _ := hI
  have h4 : 4 ≤ w.heap.size := ht.2.2.2.2
  have HT : Hid (∀ W, Below w.heap.size w W → Tabs W) := fun W h => ht.below h h4
  clear hr hS hI ht
  go_enter Tryd.func4, Tryd.ntmps4
  go_wp2_with fail
  refine Calls.mono (toByte_at w a0 cap0 zs HR.out hl) ?_
  rintro e w1 ⟨rfl, k1, t1⟩
  have S1 : Hid (Nw w w1) := k1
  have T1 : Hid (At w1 w.heap.size zs) := t1
  clear k1 t1
  go_wp2_with fail
  refine Calls.mono (HS.out w1 _ _ (HT.out _ S1.out) T1.out) ?_
  rintro e w2 ⟨g0, c0, rfl, k1, z1, t1⟩
  have S2 : Hid (Nw w w2) := Nw.trans S1.out k1
  have C2 : Hid (At w2 g0 cs) := t1
  have z0 : w.heap.size ≤ g0 := Nat.le_trans (Below.size S1.out) z1
  clear k1 t1 S1 T1 z1
  go_wp2_with fail
  refine Calls.mono (toByte_at w2 a0 cap0 zs (Row.below HR.out S2.out) hl) ?_
  rintro e w3 ⟨rfl, k1, t1⟩
  have S3 : Hid (Nw w w3) := Nw.trans S2.out k1
  have C3 : Hid (At w3 g0 cs) := At.nw C2.out k1
  have X3 : Hid (At w3 w2.heap.size zs) := t1
  have z2 : g0 < w2.heap.size := C2.out.1
  clear k1 t1 C2 S2
  go_wp2_with fail
  refine Calls.mono (HI.out w3 _ _ (HT.out _ S3.out) X3.out) ?_
  rintro e w4 ⟨B, c1, rfl, k1, z3, t1⟩
  have S4 : Hid (Nw w w4) := Nw.trans S3.out k1
  have C4 : Hid (At w4 g0 cs) := At.nw C3.out k1
  have G4 : Hid (At w4 B cs) := t1
  have X4 : Hid (At w4 w2.heap.size zs) := At.nw X3.out k1
  have z4 : w2.heap.size < B := Nat.lt_of_lt_of_le X3.out.1 z3
  clear k1 t1 C3 S3 X3 z3
  go_wp2_with fail
  refine Calls.mono (eqByte_at w4 _ _ _ _ _ cs rfl hl2 G4.out C4.out) ?_
  rintro e w5 ⟨rfl, k1⟩
  have S5 : Hid (Nw w w5) := Nw.trans S4.out k1
  have C5 : Hid (At w5 g0 cs) := At.nw C4.out k1
  have G5 : Hid (At w5 B cs) := At.nw G4.out k1
  have X5 : Hid (At w5 w2.heap.size zs) := At.nw X4.out k1
  clear k1 C4 S4 X4 G4
  go_wp2_with fail
  refine Calls.mono (toByte_at w5 a0 cap0 zs (Row.below HR.out S5.out) hl) ?_
  rintro e w6 ⟨rfl, k1, t1⟩
  have S6 : Hid (Nw w w6) := Nw.trans S5.out k1
  have C6 : Hid (At w6 g0 cs) := At.nw C5.out k1
  have G6 : Hid (At w6 B cs) := At.nw G5.out k1
  have X6 : Hid (At w6 w2.heap.size zs) := At.nw X5.out k1
  have A6 : Hid (At w6 w5.heap.size zs) := t1
  clear k1 t1 C5 S5 X5 G5
  go_wp2_with fail
  refine Calls.mono (eqByte_at w6 _ _ _ _ _ zs rfl hl X6.out A6.out) ?_
  rintro e w7 ⟨rfl, k1⟩
  have S7 : Hid (Nw w w7) := Nw.trans S6.out k1
  have C7 : Hid (At w7 g0 cs) := At.nw C6.out k1
  have G7 : Hid (At w7 B cs) := At.nw G6.out k1
  have X7 : Hid (At w7 w2.heap.size zs) := At.nw X6.out k1
  clear k1 C6 S6 X6 G6 A6
  go_wp2_with fail
  refine Calls.mono (mark_at w7 _ _ zs hl X7.out) ?_
  rintro e w8 ⟨rfl, k1, t1⟩
  have S8 : Hid (Below w.heap.size w w8) := Below.trans S7.out (k1.below.mono (by omega))
  have C8 : Hid (At w8 g0 cs) := At.sel C7.out k1 (by omega)
  have G8 : Hid (At w8 B cs) := At.sel G7.out k1 (by omega)
  clear k1 t1 C7 S7 X7 G7
  have hneg : decide ((1 : Int) + (zs.length : Int) < 0) = false := by simp; omega
  go_wp2_with fail
  refine Calls.mono (eqByte_at w8 _ _ _ _ _ cs rfl hl2 G8.out C8.out) ?_
  rintro e w9 ⟨rfl, k1⟩
  have S9 : Hid (Below w.heap.size w w9) := Below.trans S8.out (Below.mono k1 (Below.size S8.out))
  have C9 : Hid (At w9 g0 cs) := At.nw C8.out k1
  have G9 : Hid (At w9 B cs) := At.nw G8.out k1
  clear k1 C8 S8 G8
  go_wp2_with fail
  refine Calls.mono (mark_at w9 _ _ cs hl2 G9.out) ?_
  rintro e wA ⟨rfl, k1, t1⟩
  have SA : Hid (Below w.heap.size w wA) := Below.trans S9.out (k1.below.mono (by omega))
  have CA : Hid (At wA g0 cs) := At.sel C9.out k1 (by omega)
  have GA : Hid (At wA B (marked cs.length)) := t1
  clear k1 t1 C9 S9 G9
  have hq1 : ((1 : Int) + (cs.length : Int) != 1 + (cs.length : Int)) = false := by simp
  have hneg2 : decide ((1 : Int) + (cs.length : Int) < 0) = false := by simp; omega
  go_wp2_with fail
  refine Calls.mono (held_at wA _ _ cs.length hl2 GA.out) ?_
  rintro e wA ⟨rfl, rfl⟩
  go_wp2_with fail
  refine Calls.mono (toByte_at wA a0 cap0 zs (Row.below HR.out SA.out) hl) ?_
  rintro e wB ⟨rfl, k1, t1⟩
  have SB : Hid (Below w.heap.size w wB) := Below.trans SA.out (Below.mono k1 (Below.size SA.out))
  have CB : Hid (At wB g0 cs) := At.nw CA.out k1
  have GB : Hid (At wB B (marked cs.length)) := At.nw GA.out k1
  have XB : Hid (At wB wA.heap.size zs) := t1
  clear k1 t1 CA SA GA
  go_wp2_with fail
  refine Calls.mono (HI.out wB _ _ (HT.out _ SB.out) XB.out) ?_
  rintro e wC ⟨B2, c2, rfl, k1, z5, t1⟩
  have SC : Hid (Below w.heap.size w wC) := Below.trans SB.out (Below.mono k1 (Below.size SB.out))
  have CC : Hid (At wC g0 cs) := At.nw CB.out k1
  have GC : Hid (At wC B (marked cs.length)) := At.nw GB.out k1
  have HC : Hid (At wC B2 cs) := t1
  clear k1 t1 CB SB GB XB z5
  go_wp2_with fail
  refine Calls.mono (eqByte_at wC _ _ _ _ _ cs rfl hl2 HC.out CC.out) ?_
  rintro e wD ⟨rfl, k1⟩
  have SD : Hid (Below w.heap.size w wD) := Below.trans SC.out (Below.mono k1 (Below.size SC.out))
  have GD : Hid (At wD B (marked cs.length)) := At.nw GC.out k1
  clear k1 CC SC GC HC
  go_wp2_with fail
  refine Calls.mono (held_at wD _ _ cs.length hl2 GD.out) ?_
  rintro e wD ⟨rfl, rfl⟩
  go_wp2
  go_ret
  exact ⟨rfl, SD.out⟩

theorem eqByte_nil (W : World) : Calls Tryd.prog 8 #[.slice none 0 0, .slice none 0 0] W fun e w' => e = .returned (.bool true) ∧ Nw W w' := by
  refine (eqByte_any W none none 0 0 [] (by simp) (Or.inl rfl) (Or.inl rfl)).mono ?_
  rintro e w' ⟨he, q, rfl⟩
  exact ⟨he, ((Kp.refl W).drewN q).nw⟩
theorem mark_nil (W : World) : Calls Tryd.prog 9 #[.slice none 0 0, .int .i64 1] W fun e w' => e = .returned (.int .i64 1) ∧ w' = W := by
  go_enter Tryd.func9, Tryd.ntmps9
  go_wp2
  go_loop [1, 5] (fun k i => k = .int .i64 1 ∧ i = .int .i64 0) (fun _ _ => 0)
  case atStart => exact ⟨rfl, rfl⟩
  case round =>
    obtain ⟨rfl, rfl⟩ := hrel
    go_wp2
    go_ret
    exact ⟨rfl, rfl⟩
theorem held_nil (W : World) : Calls Tryd.prog 10 #[.slice none 0 0, .int .i64 1] W fun e w' => e = .returned (.int .i64 1) ∧ w' = W := by
  go_enter Tryd.func10, Tryd.ntmps10
  go_wp2
  go_loop [1, 5] (fun k i => k = .int .i64 1 ∧ i = .int .i64 0) (fun _ _ => 0)
  case atStart => exact ⟨rfl, rfl⟩
  case round =>
    obtain ⟨rfl, rfl⟩ := hrel
    go_wp2
    go_ret
    exact ⟨rfl, rfl⟩

set_option maxHeartbeats 4000000 in
theorem law_no (w : World) (a0 : Option Addr) (cap0 : Nat) (zs : List Int) (hr : Row .u8 w a0 zs) (hl : zs.length ≤ 1048576)
    (ht : Tabs w) (hS : ∀ W b c, Tabs W → At W b zs → Calls Tryd.prog 11 #[.slice (some ⟨b, 0, none⟩) zs.length c] W fun e w' => e = .returned (.tuple #[.slice none 0 0, .bool false]) ∧ w' = W)
    (hI : ∀ W b c, Tabs W → At W b zs → Calls Tryd.prog 12 #[.slice (some ⟨b, 0, none⟩) zs.length c] W fun e w' => e = .returned (.tuple #[.slice none 0 0, .bool false]) ∧ w' = W) :
    Calls Tryd.prog 4 #[.slice a0 zs.length cap0] w fun e w' => e = .returned (.bool true) ∧ Below w.heap.size w w' := by
  have hbd : decide ((1048576 : Int) < (zs.length : Int)) = false := by simp; omega
  have HS : Hid _ := hS
  have HI : Hid _ := hI
  have HR : Hid (Row .u8 w a0 zs) := hr
  have h4 : 4 ≤ w.heap.size := ht.2.2.2.2
  have HT : Hid (∀ W, Below w.heap.size w W → Tabs W) := fun W h => ht.below h h4
  clear hr hS hI ht
  go_enter Tryd.func4, Tryd.ntmps4
  go_wp2_with fail
  refine Calls.mono (toByte_at w a0 cap0 zs HR.out hl) ?_
  rintro e w1 ⟨rfl, k1, t1⟩
  have S1 : Hid (Nw w w1) := k1
  have T1 : Hid (At w1 w.heap.size zs) := t1
  clear k1 t1
  go_wp2_with fail
  refine Calls.mono (HS.out w1 _ _ (HT.out _ S1.out) T1.out) ?_
  rintro e w2 ⟨rfl, rfl⟩
  clear T1
  go_wp2_with fail
  refine Calls.mono (toByte_at w2 a0 cap0 zs (Row.below HR.out S1.out) hl) ?_
  rintro e w3 ⟨rfl, k1, t1⟩
  have S3 : Hid (Nw w w3) := Nw.trans S1.out k1
  have z2 : w.heap.size ≤ w2.heap.size := Below.size S1.out
  have X3 : Hid (At w3 w2.heap.size zs) := t1
  clear k1 t1 S1
  go_wp2_with fail
  refine Calls.mono (HI.out w3 _ _ (HT.out _ S3.out) X3.out) ?_
  rintro e w4 ⟨rfl, rfl⟩
  go_wp2_with fail
  refine Calls.mono (eqByte_nil w4) ?_
  rintro e w5 ⟨rfl, k1⟩
  have S5 : Hid (Nw w w5) := Nw.trans S3.out k1
  have X5 : Hid (At w5 w2.heap.size zs) := At.nw X3.out k1
  clear k1 S3 X3
  go_wp2_with fail
  refine Calls.mono (toByte_at w5 a0 cap0 zs (Row.below HR.out S5.out) hl) ?_
  rintro e w6 ⟨rfl, k1, t1⟩
  have S6 : Hid (Nw w w6) := Nw.trans S5.out k1
  have X6 : Hid (At w6 w2.heap.size zs) := At.nw X5.out k1
  have A6 : Hid (At w6 w5.heap.size zs) := t1
  clear k1 t1 S5 X5
  go_wp2_with fail
  refine Calls.mono (eqByte_at w6 _ _ _ _ _ zs rfl hl X6.out A6.out) ?_
  rintro e w7 ⟨rfl, k1⟩
  have S7 : Hid (Nw w w7) := Nw.trans S6.out k1
  have X7 : Hid (At w7 w2.heap.size zs) := At.nw X6.out k1
  clear k1 S6 X6 A6
  go_wp2_with fail
  refine Calls.mono (mark_at w7 _ _ zs hl X7.out) ?_
  rintro e w8 ⟨rfl, k1, t1⟩
  have S8 : Hid (Below w.heap.size w w8) := Below.trans S7.out (k1.below.mono (by omega))
  clear k1 t1 S7 X7
  have hneg : decide ((1 : Int) + (zs.length : Int) < 0) = false := by simp; omega
  go_wp2_with fail
  refine Calls.mono (eqByte_nil w8) ?_
  rintro e w9 ⟨rfl, k1⟩
  have S9 : Hid (Below w.heap.size w w9) := Below.trans S8.out (Below.mono k1 (Below.size S8.out))
  clear k1 S8
  go_wp2_with fail
  refine Calls.mono (mark_nil w9) ?_
  rintro e w9 ⟨rfl, rfl⟩
  go_wp2_with fail
  refine Calls.mono (held_nil w9) ?_
  rintro e w9 ⟨rfl, rfl⟩
  go_wp2_with fail
  refine Calls.mono (toByte_at w9 a0 cap0 zs (Row.below HR.out S9.out) hl) ?_
  rintro e wB ⟨rfl, k1, t1⟩
  have SB : Hid (Below w.heap.size w wB) := Below.trans S9.out (Below.mono k1 (Below.size S9.out))
  have XB : Hid (At wB w9.heap.size zs) := t1
  clear k1 t1 S9
  go_wp2_with fail
  refine Calls.mono (HI.out wB _ _ (HT.out _ SB.out) XB.out) ?_
  rintro e wC ⟨rfl, rfl⟩
  clear XB
  go_wp2_with fail
  refine Calls.mono (eqByte_nil wC) ?_
  rintro e wD ⟨rfl, k1⟩
  have SD : Hid (Below w.heap.size w wD) := Below.trans SB.out (Below.mono k1 (Below.size SB.out))
  clear k1 SB
  go_wp2_with fail
  refine Calls.mono (held_nil wD) ?_
  rintro e wD ⟨rfl, rfl⟩
  go_wp2
  go_ret
  exact ⟨rfl, SD.out⟩



theorem nats_of (zs : List Int) (h : ∀ z ∈ zs, 0 ≤ z ∧ z ≤ 255) : ∃ ds : List Nat, zs = ints ds ∧ ∀ d ∈ ds, d < 256 := by
  refine ⟨zs.map Int.toNat, ?_, ?_⟩
  · unfold ints
    rw [List.map_map]
    conv => lhs; rw [← List.map_id zs]
    apply List.map_congr_left
    intro z hz
    have := h z hz
    simp; omega
  · intro d hd
    obtain ⟨z, hz, rfl⟩ := List.mem_map.1 hd
    have := h z hz
    omega
theorem stored_len (ds : List Nat) : (stored ds).length = ds.length + 5 := by simp [stored]
theorem cells_nat {W : World} {b : Nat} {ds : List Nat} (h : At W b (ints ds)) : ∀ i, i < ds.length → W.cell? ⟨b, 0 + i, none⟩ = some (.int .u8 ((ds.getD i 0 : Nat) : Int)) := by
  intro i hi
  have := h.2.1 i (by rw [ints_len]; exact hi)
  rwa [ints_get] at this
theorem ints_bd (ds : List Nat) (h8 : ∀ d ∈ ds, d < 256) : ∀ i, i < (ints ds).length → 0 ≤ (ints ds).getD i 0 ∧ (ints ds).getD i 0 ≤ 255 := by
  intro i hi
  rw [ints_len] at hi
  rw [ints_get]
  have e : ds.getD i 0 = ds[i] := by simp [hi]
  have := h8 ds[i] (List.getElem_mem _)
  rw [e]; omega
/-- The shorter one, the stored one where both are as long. -/
def bestL (ds : List Nat) (J : Nat) : List Nat := if (outB (ints ds) J).length < ds.length + 5 then outB (ints ds) J else stored ds

set_option maxHeartbeats 2000000 in
theorem ibest (W : World) (b cap : Nat) (ds : List Nat) (J : Nat) (hJ : Ends (ints ds) J) (ht : Tabs W) (hl : ds.length ≤ 6000) (h8 : ∀ d ∈ ds, d < 256) (ha : At W b (ints ds)) :
    Calls Tryd.prog 12 #[.slice (some ⟨b, 0, none⟩) ds.length cap] W fun e w' => ∃ g c, e = .returned (.tuple #[.slice (some ⟨g, 0, none⟩) (bestL ds J).length c, .bool true]) ∧ Made W w' g (ints (bestL ds J)) := by
  have H1 : Hid _ := istored W b cap ds hl h8 ha.1 (cells_nat ha)
  have h4 : 4 ≤ W.heap.size := ht.2.2.2.2
  have H2 : Hid (∀ w1, Below W.heap.size W w1 → Calls Tryd.prog 7 #[.slice (some ⟨b, 0, none⟩) ds.length cap] w1 fun e w' => ∃ g c, e = .returned (.tuple #[.slice (some ⟨g, 0, none⟩) (outB (ints ds) J).length c, .bool true]) ∧ Gave w1 w' g (outB (ints ds) J) c) := by
    intro w1 hb
    have hA := At.nw ha hb
    have h := ifix w1 b cap (ints ds) J hJ (ht.below hb h4) (by rw [ints_len]; exact hl) (ints_bd ds h8) hA.1 hA.2.1
    rw [ints_len] at h
    exact h
  have hsl := stored_len ds
  have hpos := outB_pos (ints ds) J
  unfold bestL
  clear hJ ht h8 ha
  by_cases hlt : (outB (ints ds) J).length < ds.length + 5
  · rw [if_pos hlt]
    have d1 : decide (((outB (ints ds) J).length : Int) < ((stored ds).length : Int)) = true := by simp; omega
    have d2 : decide ((outB (ints ds) J).length < (stored ds).length) = true := by simp; omega
    generalize outB (ints ds) J = O at *
    generalize stored ds = T at *
    clear hlt hsl
    go_enter Tryd.func12, Tryd.ntmps12
    go_wp2_with fail
    refine Calls.mono H1.out ?_
    rintro e w1 ⟨g1, c1, rfl, hg⟩
    have HB : Hid (Below W.heap.size W w1) := hg.1
    clear hg
    go_wp2_with fail
    refine Calls.mono (H2.out w1 HB.out) ?_
    rintro e w2 ⟨g2, c2, rfl, hg⟩
    have HM : Hid (Made W w2 g2 (ints O)) := ⟨Nw.trans HB.out hg.1, Nat.le_trans (Below.size HB.out) hg.2.1, At.gave hg⟩
    clear hg
    go_wp2
    go_ret2
    exact ⟨_, _, rfl, HM.out⟩
  · rw [if_neg hlt]
    have d1 : decide (((outB (ints ds) J).length : Int) < ((stored ds).length : Int)) = false := by simp; omega
    have d2 : decide ((outB (ints ds) J).length < (stored ds).length) = false := by simp; omega
    generalize outB (ints ds) J = O at *
    generalize stored ds = T at *
    clear hlt hsl
    go_enter Tryd.func12, Tryd.ntmps12
    go_wp2_with fail
    refine Calls.mono H1.out ?_
    rintro e w1 ⟨g1, c1, rfl, hg⟩
    have HB : Hid (Below W.heap.size W w1) := hg.1
    have HA : Hid (At w1 g1 (ints T)) := At.gave hg
    have HZ : Hid (W.heap.size ≤ g1) := hg.2.1
    clear hg
    go_wp2_with fail
    refine Calls.mono (H2.out w1 HB.out) ?_
    rintro e w2 ⟨g2, c2, rfl, hg⟩
    have HM : Hid (Made W w2 g1 (ints T)) := ⟨Nw.trans HB.out hg.1, HZ.out, At.nw HA.out hg.1⟩
    clear hg
    go_wp2
    go_ret2
    exact ⟨_, _, rfl, HM.out⟩

set_option maxHeartbeats 2000000 in
theorem sl2best (W : World) (b cap : Nat) (ds : List Nat) (J : Nat) (hJ : Ends (ints ds) J) (hl : ds.length ≤ 6000) (h8 : ∀ d ∈ ds, d < 256) (ha : At W b (ints ds)) :
    Calls Tryd.prog 22 #[.slice (some ⟨b, 0, none⟩) ds.length cap] W fun e w' => ∃ g c, e = .returned (.slice (some ⟨g, 0, none⟩) (bestL ds J).length c) ∧ Made W w' g (ints (bestL ds J)) := by
  have H1 : Hid (Calls Tryd.prog 13 #[.slice (some ⟨b, 0, none⟩) ds.length cap] W fun e w' => ∃ g c, e = .returned (.slice (some ⟨g, 0, none⟩) (outB (ints ds) J).length c) ∧ Gave W w' g (outB (ints ds) J) c) := by
    have h := sfix W b cap (ints ds) J hJ (by rw [ints_len]; exact hl) (ints_bd ds h8) ha.1 ha.2.1
    rw [ints_len] at h
    exact h
  have H2 : Hid (∀ w1, Below W.heap.size W w1 → Calls Tryd.prog 36 #[.slice (some ⟨b, 0, none⟩) ds.length cap] w1 fun e w' => ∃ g c, e = .returned (.slice (some ⟨g, 0, none⟩) (stored ds).length c) ∧ Gave w1 w' g (stored ds) c) := by
    intro w1 hb
    have hA := At.nw ha hb
    exact sl2stored w1 b cap ds hl hA.1 (cells_nat hA)
  have hol := hJ.1
  unfold bestL
  have hw := IntWalk.i64_in ((ds.length : Int) + 5) (by omega)
  clear hJ h8 ha hol
  by_cases hlt : (outB (ints ds) J).length < ds.length + 5
  · rw [if_pos hlt]
    have d1 : decide (((outB (ints ds) J).length : Int) < (ds.length : Int) + 5) = true := by simp; omega
    generalize outB (ints ds) J = O at *
    clear hlt H2
    go_enter Tryd.func22, Tryd.ntmps22
    go_wp2_with fail
    refine Calls.mono H1.out ?_
    rintro e w1 ⟨g1, c1, rfl, hg⟩
    have HM : Hid (Made W w1 g1 (ints O)) := ⟨hg.1, hg.2.1, At.gave hg⟩
    clear hg
    go_wp2
    go_ret
    exact ⟨_, _, rfl, HM.out⟩
  · rw [if_neg hlt]
    have d1 : decide (((outB (ints ds) J).length : Int) < (ds.length : Int) + 5) = false := by simp; omega
    generalize outB (ints ds) J = O at *
    generalize stored ds = T at *
    clear hlt
    go_enter Tryd.func22, Tryd.ntmps22
    go_wp2_with fail
    refine Calls.mono H1.out ?_
    rintro e w1 ⟨g1, c1, rfl, hg⟩
    have HB : Hid (Below W.heap.size W w1) := hg.1
    clear hg
    go_wp2_with fail
    refine Calls.mono (H2.out w1 HB.out) ?_
    rintro e w2 ⟨g2, c2, rfl, hg⟩
    have HM : Hid (Made W w2 g2 (ints T)) := ⟨Nw.trans HB.out hg.1, Nat.le_trans (Below.size HB.out) hg.2.1, At.gave hg⟩
    clear hg
    go_wp2
    go_ret
    exact ⟨_, _, rfl, HM.out⟩

set_option maxHeartbeats 1000000 in
theorem sbest (W : World) (b cap : Nat) (ds : List Nat) (J : Nat) (hJ : Ends (ints ds) J) (hl : ds.length ≤ 6000) (h8 : ∀ d ∈ ds, d < 256) (ha : At W b (ints ds)) :
    Calls Tryd.prog 11 #[.slice (some ⟨b, 0, none⟩) ds.length cap] W fun e w' => ∃ g c, e = .returned (.tuple #[.slice (some ⟨g, 0, none⟩) (bestL ds J).length c, .bool true]) ∧ Made W w' g (ints (bestL ds J)) := by
  have hd1 : decide ((6000 : Int) < (ds.length : Int)) = false := by simp; omega
  have HC : Hid _ := sl2best W b cap ds J hJ hl h8 ha
  clear hJ h8 ha
  go_enter Tryd.func11, Tryd.ntmps11
  go_wp2_with fail
  refine Calls.mono HC.out ?_
  rintro e w1 ⟨g, c, rfl, hg⟩
  have HG : Hid (Made W w1 g (ints (bestL ds J))) := hg
  clear hg
  go_wp2
  go_ret2
  exact ⟨_, _, rfl, HG.out⟩
theorem sbest_no (W : World) (a : Option Addr) (n cap : Nat) (hl : 6000 < n) (hl2 : n ≤ 1048576) :
    Calls Tryd.prog 11 #[.slice a n cap] W fun e w' => e = .returned (.tuple #[.slice none 0 0, .bool false]) ∧ w' = W := by
  have hd1 : decide ((6000 : Int) < (n : Int)) = true := by simp; omega
  go_enter Tryd.func11, Tryd.ntmps11
  go_wp2
  go_ret2
  exact ⟨rfl, rfl⟩
theorem istored_no (W : World) (a : Option Addr) (n cap : Nat) (hl : 6000 < n) (hl2 : n ≤ 1048576) :
    Calls Tryd.prog 23 #[.slice a n cap] W fun e w' => e = .returned (.tuple #[.slice none 0 0, .bool false]) ∧ w' = W := by
  have hd1 : decide ((6000 : Int) < (n : Int)) = true := by simp; omega
  go_enter Tryd.func23, Tryd.ntmps23
  go_wp2
  go_ret2
  exact ⟨rfl, rfl⟩
theorem ibest_no (W : World) (a : Option Addr) (n cap : Nat) (hl : 6000 < n) (hl2 : n ≤ 1048576) :
    Calls Tryd.prog 12 #[.slice a n cap] W fun e w' => e = .returned (.tuple #[.slice none 0 0, .bool false]) ∧ w' = W := by
  have HC : Hid _ := istored_no W a n cap hl hl2
  go_enter Tryd.func12, Tryd.ntmps12
  go_wp2_with fail
  refine Calls.mono HC.out ?_
  rintro e w1 ⟨rfl, rfl⟩
  go_wp2
  go_ret2
  exact ⟨rfl, rfl⟩
theorem outB_len (zs : List Int) (J : Nat) (hJ : Ends zs J) (hl : zs.length ≤ 6000) : (outB zs J).length ≤ 100000 := by
  have a := acc_bd zs J hJ J (Nat.le_refl _)
  have b := puts_len ([], 0) (acc zs J ++ codeOf 0 7)
  rw [List.length_append, codeOf_len] at b
  unfold outB
  simp at b
  omega
theorem law_best (w : World) (a0 : Option Addr) (cap0 : Nat) (zs : List Int) (ht : Tabs w) (hr : Row .u8 w a0 zs) (hl : zs.length ≤ 1048576) (h8 : ∀ z ∈ zs, 0 ≤ z ∧ z ≤ 255) :
    Calls Tryd.prog 4 #[.slice a0 zs.length cap0] w fun e w' => e = .returned (.bool true) ∧ Below w.heap.size w w' := by
  obtain ⟨ds, rfl, hd⟩ := nats_of zs h8
  by_cases h : ds.length ≤ 6000
  · obtain ⟨J, hJ⟩ := ends (ints ds)
    have hbl : (bestL ds J).length ≤ 100000 := by
      have a := outB_len (ints ds) J hJ (by rw [ints_len]; exact h)
      have b := stored_len ds
      unfold bestL; split <;> omega
    refine law_yes w a0 cap0 (ints ds) (ints (bestL ds J)) hr hl (by rw [ints_len]; omega) ht ?_ ?_
    · intro W b c htW ha
      rw [ints_len, ints_len]
      exact sbest W b c ds J hJ h hd ha
    · intro W b c htW ha
      rw [ints_len, ints_len]
      exact ibest W b c ds J hJ htW h hd ha
  · refine law_no w a0 cap0 (ints ds) hr hl ht ?_ ?_
    · intro W b c htW ha
      exact sbest_no W _ _ c (by rw [ints_len]; omega) hl
    · intro W b c htW ha
      exact ibest_no W _ _ c (by rw [ints_len]; omega) hl
end Go.Proofs.YtakdmgnkcpahbabDoor
