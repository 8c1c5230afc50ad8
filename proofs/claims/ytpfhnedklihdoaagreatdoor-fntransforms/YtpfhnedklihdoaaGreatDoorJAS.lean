/-
  What the specification's reader of choices answers of a list of texts: one of them; each theorem names its conditions.
  A byte as a text; each theorem names its conditions.
  What the specification's reader of choices answers of a list of numbers: one of them; each theorem names its conditions.
  What the specification's draws of wide and of fixed numbers answer: some ints; each theorem names its conditions.
-/
import Derived.Test.YtpfhnedklihdoaaGreatDoorJAR
import Derived.Test.YtpfhnedklihdoaaGreatDoorJAA
import Derived.Lib.SlBytesRow
import Derived.Deep.RegionWith
namespace Go.Proofs.YtpfhnedklihdoaaGreatDoor
open Go.ChangeShapes Go.WideShapes Go.ChangeAt Go.RowKit
set_option linter.unusedVariables false

/-- A list of texts that is only read, in the block L. -/
def Txts (w : World) (L : Nat) (l : List ByteArray) : Prop := ∀ i (h : i < l.length), w.cell? ⟨L, i, none⟩ = some (.string l[i])
theorem txts_alloc (l : List ByteArray) (w : World) (t : TypeId) : Txts (w.alloc (.cells (l.map Value.string).toArray t)) w.heap.size l := by
  intro i h
  rw [World.cell?_alloc_new]
  simp [h]
set_option maxHeartbeats 1000000 in
theorem of_any (w : World) (B L ln : Nat) (l : List ByteArray) (hln : l.length = ln) (ca : Option Addr) (len cap n : Nat) (hl : len ≤ 9223372036854775807) (hn : n ≤ 1000000000) (l1 : 2 ≤ ln) (l2 : ln ≤ 1000) (hLB : L ≠ B) (hN : Txts w L l) (hc : Cur w B ca len cap n) (hd : Code w B ca len) :
    Calls Tryz.prog 33 #[.pointer (some ⟨B, 0, none⟩), .slice (some ⟨L, 0, none⟩) ln ln] w fun e w' => ∃ v : ByteArray, e = .returned (.string v) ∧ v ∈ l ∧ Cur w' B ca len cap (n + 2) ∧ Sel B w w' := by
  have HC : Hid _ := hc
  have HD : Hid _ := hd
  have HN : Hid _ := hN
  have HL : Hid _ := hln
  clear hc hd hN hln
  go_enter Tryz.func33, Tryz.ntmps33
  go_wp2_with fail
  refine (pick_any w B ca len cap n ln hl hn (by omega) (by omega) HC.out HD.out).mono ?_
  rintro e w1 ⟨i, rfl, i0, i1, hc1, hb1⟩
  obtain ⟨k, rfl⟩ := Int.eq_ofNat_of_zero_le i0
  have hkl : k < l.length := by rw [HL.out]; omega
  have HM : Hid (l[k] ∈ l) := List.getElem_mem _
  have hv := HN.out k hkl
  generalize l[k] = v at *
  have hv1 : w1.cell? ⟨L, k, none⟩ = some (.string v) := by rw [hb1.cell (p := ⟨L, k, none⟩) hLB]; exact hv
  have HC1 : Hid _ := hc1
  have HB1 : Hid _ := hb1
  clear hc1 hb1 hv hkl
  go_wp2
  go_ret
  exact ⟨v, rfl, HM.out, HC1.out, HB1.out⟩
/-- One of a list of texts that has just been laid. -/
theorem of_lit (w : World) (B m : Nat) (l : List ByteArray) (hm : ∀ x, x ∈ l → x.size ≤ m) (t : TypeId) (ca : Option Addr) (len cap n : Nat) (hl : len ≤ 9223372036854775807) (hn : n ≤ 1000000000) (l1 : 2 ≤ l.length) (l2 : l.length ≤ 1000) (hc : Cur w B ca len cap n) (hd : Code w B ca len) :
    Calls Tryz.prog 33 #[.pointer (some ⟨B, 0, none⟩), .slice (some ⟨w.heap.size, 0, none⟩) l.length l.length] (w.alloc (.cells (l.map Value.string).toArray t)) fun e w' => ∃ v : ByteArray, e = .returned (.string v) ∧ v.size ≤ m ∧ Cur w' B ca len cap (n + 2) ∧ Gr B w w' := by
  have hB := hc.lt
  refine (of_any _ B w.heap.size l.length l rfl ca len cap n hl hn l1 l2 (by omega) (txts_alloc l w t) (hc.alloc _ _) (Code.alloc hd (by omega) _)).mono ?_
  rintro e w' ⟨v, rfl, hv, hc1, hs⟩
  exact ⟨v, rfl, hm v hv, hc1, Gr.trans ((Gr.refl B w).alloc _) (Gr.of_sel hs)⟩
theorem of_litL (w : World) (B m L : Nat) (hL : w.heap.size = L) (l : List ByteArray) (hm : ∀ x, x ∈ l → x.size ≤ m) (t : TypeId) (ca : Option Addr) (len cap n : Nat) (hl : len ≤ 9223372036854775807) (hn : n ≤ 1000000000) (l1 : 2 ≤ l.length) (l2 : l.length ≤ 1000) (hc : Cur w B ca len cap n) (hd : Code w B ca len) :
    Calls Tryz.prog 33 #[.pointer (some ⟨B, 0, none⟩), .slice (some ⟨L, 0, none⟩) l.length l.length] (w.alloc (.cells (l.map Value.string).toArray t)) fun e w' => ∃ v : ByteArray, e = .returned (.string v) ∧ v.size ≤ m ∧ Cur w' B ca len cap (n + 2) ∧ Gr B w w' := by
  subst hL
  exact of_lit w B m l hm t ca len cap n hl hn l1 l2 hc hd
end Go.Proofs.YtpfhnedklihdoaaGreatDoor
namespace Go.Proofs.YtpfhnedklihdoaaGreatDoor
open Go.ChangeShapes Go.WideShapes Go.ChangeAt Go.RowKit
set_option linter.unusedVariables false

theorem conv_at (c : UInt8) (W : World) (g : Nat) (h : W.cell? ⟨g, 0, none⟩ = some (.int .u8 (c.toNat : Int))) : (convert 22 9 (.slice (some ⟨g, 0, none⟩) 1 1)).run Tryz.prog W = .ok (.string ⟨#[c]⟩) W := by
  have hu : Tryz.prog.underlying 9 = some .string := Tryz.underlying9
  have h8 : Tryz.prog.underlying 5 = some (.int .u8) := Tryz.underlying5
  refine Lib.run_convert_whole _ _ _ _ Tryz.underlying22 h8 hu g 0 ⟨#[c]⟩ ?_ 1
  intro i hi
  have e : i = 0 := by have : (⟨#[c]⟩ : ByteArray).size = 1 := rfl; omega
  subst e
  simp
  exact h
end Go.Proofs.YtpfhnedklihdoaaGreatDoor
namespace Go.Proofs.YtpfhnedklihdoaaGreatDoor
open Go.ChangeShapes Go.WideShapes Go.ChangeAt Go.RowKit
set_option linter.unusedVariables false

/-- A list of numbers that is only read, in the block L. -/
def Nums (w : World) (L : Nat) (l : List Int) : Prop := ∀ i (h : i < l.length), w.cell? ⟨L, i, none⟩ = some (.int .i64 l[i])

set_option maxHeartbeats 1000000 in
theorem among_any (w : World) (B L ln : Nat) (l : List Int) (hln : l.length = ln) (ca : Option Addr) (len cap n : Nat) (hl : len ≤ 9223372036854775807) (hn : n ≤ 1000000000) (l1 : 2 ≤ ln) (l2 : ln ≤ 1000) (hLB : L ≠ B) (hN : Nums w L l) (hc : Cur w B ca len cap n) (hd : Code w B ca len) :
    Calls Tryz.prog 43 #[.pointer (some ⟨B, 0, none⟩), .slice (some ⟨L, 0, none⟩) ln ln] w fun e w' => ∃ v : Int, e = .returned (.int .i64 v) ∧ v ∈ l ∧ Cur w' B ca len cap (n + 2) ∧ Sel B w w' := by
  have HC : Hid _ := hc
  have HD : Hid _ := hd
  have HN : Hid _ := hN
  have HL : Hid _ := hln
  clear hc hd hN hln
  go_enter Tryz.func43, Tryz.ntmps43
  go_wp2_with fail
  refine (pick_any w B ca len cap n ln hl hn (by omega) (by omega) HC.out HD.out).mono ?_
  rintro e w1 ⟨i, rfl, i0, i1, hc1, hb1⟩
  obtain ⟨k, rfl⟩ := Int.eq_ofNat_of_zero_le i0
  have hkl : k < l.length := by rw [HL.out]; omega
  have HM : Hid (l[k] ∈ l) := List.getElem_mem _
  have hv := HN.out k hkl
  generalize l[k] = v at *
  have hv1 : w1.cell? ⟨L, k, none⟩ = some (.int .i64 v) := by rw [hb1.cell (p := ⟨L, k, none⟩) hLB]; exact hv
  have HC1 : Hid _ := hc1
  have HB1 : Hid _ := hb1
  clear hc1 hb1 hv hkl
  go_wp2
  go_ret
  exact ⟨v, rfl, HM.out, HC1.out, HB1.out⟩

end Go.Proofs.YtpfhnedklihdoaaGreatDoor
namespace Go.Proofs.YtpfhnedklihdoaaGreatDoor
open Go.ChangeShapes Go.WideShapes Go.ChangeAt Go.RowKit
set_option linter.unusedVariables false

set_option maxHeartbeats 1000000 in
theorem wide_any (w : World) (B : Nat) (ca : Option Addr) (len cap n : Nat) (hl : len ≤ 9223372036854775807) (hn : n ≤ 1000000000) (hc : Cur w B ca len cap n) (hd : Code w B ca len) :
    Calls Tryz.prog 44 #[.pointer (some ⟨B, 0, none⟩)] w fun e w' => ∃ v : Int, e = .returned (.int .i64 v) ∧ (Lit.int .i64 v).wf = true ∧ Cur w' B ca len cap (n + 8) ∧ Sel B w w' := by
  have HD : Hid _ := hd
  clear hd
  go_enter Tryz.func44, Tryz.ntmps44
  go_wp2
  go_loopw [3, 4] (fun x i W => ∃ (q : Nat) (v : Int), q ≤ 8 ∧ i = .int .i64 (q : Int) ∧ x = .int .i64 v ∧ (Lit.int .i64 v).wf = true ∧ Cur W B ca len cap (n + q) ∧ Sel B w W) (fun _ i _ => 8 - (intOf i).toNat)
  case atStart => exact ⟨0, 0, by omega, rfl, rfl, by decide, hc, Sel.refl _ _⟩
  case round =>
    obtain ⟨q, v, hq, rfl, rfl, vw, hc1, hb1⟩ := hrel
    have HC1 : Hid _ := hc1
    have HB1 : Hid _ := hb1
    have VW : Hid _ := vw
    clear hc1 hb1 vw hc
    by_cases hlt : q < 8
    · go_wp2_with fail
      refine (next_any wr B ca len cap (n + q) hl (by omega) HC1.out (Code.below HD.out (Sel.below HB1.out))).mono ?_
      rintro e w2 ⟨u, rfl, u0, u1, hc2, hb2⟩
      have HC2 : Hid _ := hc2
      have HB2 : Hid _ := hb2
      clear hc2 hb2
      go_wp2
      go_roundw
      case rel => exact ⟨q + 1, _, by omega, by go_num, rfl, wf_bits _ _ _ _, Cur.mono HC2.out (by omega), Sel.trans HB1.out HB2.out⟩
      case measure => simp [intOf]; omega
    · obtain rfl : q = 8 := by omega
      go_wp2
      go_ret
      exact ⟨v, rfl, VW.out, HC1.out, HB1.out⟩
theorem nums_alloc (l : List Int) (w : World) (t : TypeId) : Nums (w.alloc (.cells (l.map (Value.int .i64)).toArray t)) w.heap.size l := by
  intro i h
  rw [World.cell?_alloc_new]
  simp [h]
theorem Nums.sel {w w1 : World} {B L : Nat} {l : List Int} (h : Nums w L l) (hs : Sel B w w1) (hLB : L ≠ B) : Nums w1 L l := by
  intro i hi; rw [hs.cell (p := ⟨L, i, none⟩) hLB]; exact h i hi
def isWf (l : List Int) : Bool := l.all fun x => (Lit.int .i64 x).wf
theorem wf_mem (l : List Int) (h : isWf l = true) (v : Int) (hv : v ∈ l) : (Lit.int .i64 v).wf = true := List.all_eq_true.1 h v hv

theorem tmod_bd (u : Int) : -1099511627776 ≤ u.tmod 1099511627777 ∧ u.tmod 1099511627777 ≤ 1099511627776 := by
  by_cases h : u < 0
  · rw [tmod_neg_of u _ h]; omega
  · rw [Int.tmod_eq_emod_of_nonneg (by omega)]; omega
theorem small_of (d : Int) (h : d ∈ [1, 2, 3, 4, 7]) : 1 ≤ d ∧ d ≤ 7 := by
  simp only [List.mem_cons, List.mem_nil_iff, or_false] at h
  omega

set_option maxHeartbeats 2000000 in
theorem fixed_any (w : World) (B : Nat) (ca : Option Addr) (len cap n : Nat) (hl : len ≤ 9223372036854775807) (hn : n ≤ 100000000) (hc : Cur w B ca len cap n) (hd : Code w B ca len) :
    Calls Tryz.prog 26 #[.pointer (some ⟨B, 0, none⟩)] w fun e w' => ∃ v : Int, e = .returned (.int .i64 v) ∧ (Lit.int .i64 v).wf = true ∧ Cur w' B ca len cap (n + 20) ∧ Below B w w' := by
  have HC : Hid (Cur w B ca len cap n) := hc
  have HD : Hid (Code w B ca len) := hd
  clear hc hd
  go_enter Tryz.func26, Tryz.ntmps26
  go_wp2_with fail
  refine (pick_any w B ca len cap n 7 hl (by omega) (by omega) (by omega) HC.out HD.out).mono ?_
  rintro e w1 ⟨v, rfl, v0, v1, hc1, hb1⟩
  have hB1 := hc1.lt
  have hd1 := Code.below HD.out hb1.below
  have HC1 : Hid (Cur w1 B ca len cap (n + 2)) := hc1
  have HB1 : Hid (Sel B w w1) := hb1
  have HD1 : Hid (Code w1 B ca len) := hd1
  clear hc1 hb1 hd1
  by_cases e0 : v = 0
  · subst e0
    go_wp2_with fail
    refine (among_any _ B w1.heap.size 7 [0, 65536, -65536, 1099511627776, -1099511627776, 1, -1] rfl ca len cap (n + 2) hl (by omega) (by omega) (by omega) (by omega) (nums_alloc [0, 65536, -65536, 1099511627776, -1099511627776, 1, -1] w1 3) (HC1.out.alloc _ _) (HD1.out.alloc (by omega) _)).mono ?_
    rintro e w2 ⟨u, rfl, hu, hc2, hb2⟩
    have HW : Hid _ := wf_mem _ (by decide) u hu
    have HC2 : Hid (Cur w2 B ca len cap (n + 2 + 2)) := hc2
    have HB2 : Hid _ := hb2.below
    clear hc2 hb2 hu
    go_wp2
    go_ret
    exact ⟨u, rfl, HW.out, Cur.mono HC2.out (by omega), (HB1.out.below.alloc (by omega) _).trans HB2.out⟩
  have z0 : (v == 0) = false := by rw [beq_eq_false_iff_ne]; exact e0
  by_cases e1 : v = 1
  · subst e1
    go_wp2_with fail
    refine (wide_any w1 B ca len cap (n + 2) hl (by omega) HC1.out HD1.out).mono ?_
    rintro e w2 ⟨u, rfl, hu, hc2, hb2⟩
    have ub := tmod_bd u
    have HC2 : Hid (Cur w2 B ca len cap (n + 2 + 8)) := hc2
    have HB2 : Hid _ := hb2.below
    clear hc2 hb2 hu
    obtain ⟨ub1, ub2⟩ := ub
    go_wp2
    go_ret
    exact ⟨u.tmod 1099511627777, rfl, WalkArith.wf_i64 (by omega), Cur.mono HC2.out (by omega), HB1.out.below.trans HB2.out⟩
  have z1 : (v == 1) = false := by rw [beq_eq_false_iff_ne]; exact e1
  by_cases e2 : v = 2
  · subst e2
    go_wp2_with fail
    refine (pick_any w1 B ca len cap (n + 2) 65536 hl (by omega) (by omega) (by omega) HC1.out HD1.out).mono ?_
    rintro e w2 ⟨u, rfl, u0, u1, hc2, hb2⟩
    have HC2 : Hid (Cur w2 B ca len cap (n + 2 + 2)) := hc2
    have HB2 : Hid _ := hb2.below
    clear hc2 hb2
    go_wp2
    go_ret
    exact ⟨u - 32768, rfl, WalkArith.wf_i64 (by omega), Cur.mono HC2.out (by omega), HB1.out.below.trans HB2.out⟩
  have z2 : (v == 2) = false := by rw [beq_eq_false_iff_ne]; exact e2
  clear e0 e1 e2
  go_wp2_with fail
  go_region_with (first
    | (go_at_call_of 17 (Value.int .i64 41)
       refine (pick_any _ B ca len cap (n + 2) 41 hl (by omega) (by omega) (by omega) ?_ ?_).mono ?_
       · first | exact HC1.out | exact HC1.out.alloc _ _
       · first | exact HD1.out | exact HD1.out.alloc (by omega) _
       rintro e w2 ⟨p, rfl, p0, p1, hc2, hb2⟩
       have hB2 := hc2.lt
       have HC2 : Hid (Cur w2 B ca len cap (n + 2 + 2)) := hc2
       have HE2 : Hid (Below B w w2) := by first | exact HB1.out.below.drew.trans (Sel.below hb2) | exact (HB1.out.below.alloc (by omega) _).drew.trans (Sel.below hb2)
       have HD2 : Hid (Code w2 B ca len) := Code.below HD.out HE2.out
       first | (have HN2 : Hid (Nums w2 w1.heap.size [1, 2, 3, 4, 7]) := Nums.sel (by exact nums_alloc [1, 2, 3, 4, 7] w1 3) hb2 (by omega)) | skip
       clear hc2 hb2)
    | (go_at_call_of 43 (w1.heap.size)
       refine (among_any _ B w1.heap.size 5 [1, 2, 3, 4, 7] rfl ca len cap (n + 4) hl (by omega) (by omega) (by omega) (by omega) HN2.out HC2.out HD2.out).mono ?_
       rintro e w3 ⟨d, rfl, hdm, hc3, hb3⟩
       obtain ⟨d1, d2⟩ := small_of d hdm
       have HC3 : Hid (Cur w3 B ca len cap (n + 4 + 2)) := hc3
       have HE3 : Hid (Below B w w3) := HE2.out.trans (Sel.below hb3)
       clear hc3 hb3 hdm)
    | (go_at_call 43
       refine (among_any _ B w2.heap.size 5 [1, 2, 3, 4, 7] rfl ca len cap (n + 4) hl (by omega) (by omega) (by omega) (by omega) (nums_alloc [1, 2, 3, 4, 7] w2 3) (HC2.out.alloc _ _) (HD2.out.alloc (by omega) _)).mono ?_
       rintro e w3 ⟨d, rfl, hdm, hc3, hb3⟩
       obtain ⟨d1, d2⟩ := small_of d hdm
       have HC3 : Hid (Cur w3 B ca len cap (n + 4 + 2)) := hc3
       have HE3 : Hid (Below B w w3) := (HE2.out.alloc (by omega) _).trans (Sel.below hb3)
       clear hc3 hb3 hdm)
    | (go_at_call_of 17 (Value.int .i64 3)
       refine (pick_any _ B ca len cap (n + 6) 3 hl (by omega) (by omega) (by omega) HC3.out (Code.below HD.out HE3.out)).mono ?_
       rintro e w4 ⟨q, rfl, q0, q1, hc4, hb4⟩
       have HC4 : Hid (Cur w4 B ca len cap (n + 6 + 2)) := hc4
       have HE4 : Hid (Below B w w4) := HE3.out.trans (Sel.below hb4)
       clear hc4 hb4))
  all_goals
    go_wp2_with fail
    refine (one_any w4 B ca len cap (n + 8) 60 hl (by omega) (by omega) (by omega) HC4.out (Code.below HD.out HE4.out)).mono ?_
    rintro e w5 ⟨bb, rfl, hc5, hb5⟩
    have hB5 := hc5.lt
    have HC5 : Hid (Cur w5 B ca len cap (n + 8 + 2)) := hc5
    have HE5 : Hid (Below B w w5) := HE4.out.trans (Sel.below hb5)
    clear hc5 hb5
    cases bb
    · go_wp2
      go_ret
      exact ⟨_, rfl, by go_wf, Cur.mono HC5.out (by omega), HE5.out⟩
    · go_wp2_with fail
      refine (among_any _ B w5.heap.size 4 [1099511627777, -1099511627777, 9223372036854775807, -9223372036854775808] rfl ca len cap (n + 10) hl (by omega) (by omega) (by omega) (by omega) (nums_alloc [1099511627777, -1099511627777, 9223372036854775807, -9223372036854775808] w5 3) (HC5.out.alloc _ _) (Code.alloc (Code.below HD.out HE5.out) (by omega) _)).mono ?_
      rintro e w6 ⟨u, rfl, hu, hc6, hb6⟩
      have HW : Hid _ := wf_mem _ (by decide) u hu
      have HC6 : Hid (Cur w6 B ca len cap (n + 10 + 2)) := hc6
      have HE6 : Hid (Below B w w6) := (HE5.out.alloc (by omega) _).trans (Sel.below hb6)
      clear hc6 hb6 hu
      go_wp2
      go_ret
      exact ⟨u, rfl, HW.out, Cur.mono HC6.out (by omega), HE6.out⟩
end Go.Proofs.YtpfhnedklihdoaaGreatDoor
