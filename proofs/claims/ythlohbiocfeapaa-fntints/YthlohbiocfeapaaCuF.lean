/-
  What the specification's draws of wide and of fixed numbers answer: some ints; each theorem names its conditions.
-/
import Derived.Test.YthlohbiocfeapaaCu
import Derived.Deep.RegionWith
namespace Go.Proofs.Ythlohbiocfeapaa
open Go.ChangeShapes Go.WideShapes Go.ChangeAt Go.RowKit
set_option linter.unusedVariables false

set_option maxHeartbeats 1000000 in
theorem wide_any (w : World) (B : Nat) (ca : Option Addr) (len cap n : Nat) (hl : len ≤ 9223372036854775807) (hn : n ≤ 1000000000) (hc : Cur w B ca len cap n) (hd : Code w B ca len) :
    Calls Try.prog 109 #[.pointer (some ⟨B, 0, none⟩)] w fun e w' => ∃ v : Int, e = .returned (.int .i64 v) ∧ (Lit.int .i64 v).wf = true ∧ Cur w' B ca len cap (n + 8) ∧ Sel B w w' := by
  have HD : Hid _ := hd
  clear hd
  go_enter Try.func109, Try.ntmps109
  go_wp2
  go_loopw [3, 4] (fun x i W => ∃ (q : Nat) (v : Int), q ≤ 8 ∧ i = .int .i64 (q : Int) ∧ x = .int .i64 v ∧ (Lit.int .i64 v).wf = true ∧ Cur W B ca len cap (n + q) ∧ Sel B w W) (fun _ i _ => 8 - (intOf i).toNat)
  case atStart => exact ⟨0, 0, by omega, rfl, rfl, by decide, hc, Sel.refl _ _⟩
  case round =>
    obtain ⟨q, v, hq, rfl, rfl, vw, hc1, hb1⟩ := hrel
    have HC1 : Hid _ := hc1
    have HB1 : Hid _ := hb1
    have VW : Hid _ := vw
    clear hc1 hb1 vw hc
    by_cases hlt : q < 8
    · go_wp2_with fail
      refine (next_any wr B ca len cap (n + q) hl (by omega) HC1.out (Code.below HD.out (Sel.below HB1.out))).mono ?_
      rintro e w2 ⟨u, rfl, u0, u1, hc2, hb2⟩
      have HC2 : Hid _ := hc2
      have HB2 : Hid _ := hb2
      clear hc2 hb2
      go_wp2
      go_roundw
      case rel => exact ⟨q + 1, _, by omega, by go_num, rfl, wf_bits _ _ _ _, Cur.mono HC2.out (by omega), Sel.trans HB1.out HB2.out⟩
      case measure => simp [intOf]; omega
    · obtain rfl : q = 8 := by omega
      go_wp2
      go_ret
      exact ⟨v, rfl, VW.out, HC1.out, HB1.out⟩
theorem Cur.alloc {w : World} {B : Nat} {ca : Option Addr} {len cap n : Nat} (h : Cur w B ca len cap n) (c : Array Value) (t : TypeId) : Cur (w.alloc (.cells c t)) B ca len cap n := by
  obtain ⟨k, sd, h1, h2, h3, h4, h5, h6, h7, h8⟩ := h
  refine ⟨k, sd, h1, h2, h3, ?_, ?_, ?_, ?_, by simp; omega⟩
  · rw [World.cell?_alloc_past _ _ _ h8]; exact h4
  · rw [World.cell?_alloc_past _ _ _ h8]; exact h5
  · rw [World.cell?_alloc_past _ _ _ h8]; exact h6
  · intro o; rw [frozen?_alloc_cells]; exact h7 o
theorem Code.alloc {w : World} {B : Nat} {ca : Option Addr} {len : Nat} (h : Code w B ca len) (hB : B ≤ w.heap.size) (o : Obj) : Code (w.alloc o) B ca len :=
  Code.below h ((Below.refl B w).alloc hB o)

theorem nums_alloc (l : List Int) (w : World) (t : TypeId) : Nums (w.alloc (.cells (l.map (Value.int .i64)).toArray t)) w.heap.size l := by
  intro i h
  rw [World.cell?_alloc_new]
  simp [h]
theorem Nums.sel {w w1 : World} {B L : Nat} {l : List Int} (h : Nums w L l) (hs : Sel B w w1) (hLB : L ≠ B) : Nums w1 L l := by
  intro i hi; rw [hs.cell (p := ⟨L, i, none⟩) hLB]; exact h i hi
theorem Cur.lt {w : World} {B : Nat} {ca : Option Addr} {len cap n : Nat} (h : Cur w B ca len cap n) : B < w.heap.size := by
  obtain ⟨_, _, _, _, _, _, _, _, _, h⟩ := h; exact h
def isWf (l : List Int) : Bool := l.all fun x => (Lit.int .i64 x).wf
theorem wf_mem (l : List Int) (h : isWf l = true) (v : Int) (hv : v ∈ l) : (Lit.int .i64 v).wf = true := List.all_eq_true.1 h v hv

theorem tmod_bd (u : Int) : -1099511627776 ≤ u.tmod 1099511627777 ∧ u.tmod 1099511627777 ≤ 1099511627776 := by
  by_cases h : u < 0
  · rw [tmod_neg_of u _ h]; omega
  · rw [Int.tmod_eq_emod_of_nonneg (by omega)]; omega
theorem small_of (d : Int) (h : d ∈ [1, 2, 3, 4, 7]) : 1 ≤ d ∧ d ≤ 7 := by
  simp only [List.mem_cons, List.mem_nil_iff, or_false] at h
  omega

set_option maxHeartbeats 2000000 in
theorem fixed_any (w : World) (B : Nat) (ca : Option Addr) (len cap n : Nat) (hl : len ≤ 9223372036854775807) (hn : n ≤ 100000000) (hc : Cur w B ca len cap n) (hd : Code w B ca len) :
    Calls Try.prog 63 #[.pointer (some ⟨B, 0, none⟩)] w fun e w' => ∃ v : Int, e = .returned (.int .i64 v) ∧ (Lit.int .i64 v).wf = true ∧ Cur w' B ca len cap (n + 20) ∧ Below B w w' := by
  have HC : Hid (Cur w B ca len cap n) := hc
  have HD : Hid (Code w B ca len) := hd
  clear hc hd
  go_enter Try.func63, Try.ntmps63
  go_wp2_with fail
  refine (pick_any w B ca len cap n 7 hl (by omega) (by omega) (by omega) HC.out HD.out).mono ?_
  rintro e w1 ⟨v, rfl, v0, v1, hc1, hb1⟩
  have hB1 := hc1.lt
  have hd1 := Code.below HD.out hb1.below
  have HC1 : Hid (Cur w1 B ca len cap (n + 2)) := hc1
  have HB1 : Hid (Sel B w w1) := hb1
  have HD1 : Hid (Code w1 B ca len) := hd1
  clear hc1 hb1 hd1
  by_cases e0 : v = 0
  · subst e0
    go_wp2_with fail
    refine (among_any _ B w1.heap.size 7 [0, 65536, -65536, 1099511627776, -1099511627776, 1, -1] rfl ca len cap (n + 2) hl (by omega) (by omega) (by omega) (by omega) (nums_alloc [0, 65536, -65536, 1099511627776, -1099511627776, 1, -1] w1 3) (HC1.out.alloc _ _) (HD1.out.alloc (by omega) _)).mono ?_
    rintro e w2 ⟨u, rfl, hu, hc2, hb2⟩
    have HW : Hid _ := wf_mem _ (by decide) u hu
    have HC2 : Hid (Cur w2 B ca len cap (n + 2 + 2)) := hc2
    have HB2 : Hid _ := hb2.below
    clear hc2 hb2 hu
    go_wp2
    go_ret
    exact ⟨u, rfl, HW.out, Cur.mono HC2.out (by omega), (HB1.out.below.alloc (by omega) _).trans HB2.out⟩
  have z0 : (v == 0) = false := by rw [beq_eq_false_iff_ne]; exact e0
  by_cases e1 : v = 1
  · subst e1
    go_wp2_with fail
    refine (wide_any w1 B ca len cap (n + 2) hl (by omega) HC1.out HD1.out).mono ?_
    rintro e w2 ⟨u, rfl, hu, hc2, hb2⟩
    have ub := tmod_bd u
    have HC2 : Hid (Cur w2 B ca len cap (n + 2 + 8)) := hc2
    have HB2 : Hid _ := hb2.below
    clear hc2 hb2 hu
    obtain ⟨ub1, ub2⟩ := ub
    go_wp2
    go_ret
    exact ⟨u.tmod 1099511627777, rfl, WalkArith.wf_i64 (by omega), Cur.mono HC2.out (by omega), HB1.out.below.trans HB2.out⟩
  have z1 : (v == 1) = false := by rw [beq_eq_false_iff_ne]; exact e1
  by_cases e2 : v = 2
  · subst e2
    go_wp2_with fail
    refine (pick_any w1 B ca len cap (n + 2) 65536 hl (by omega) (by omega) (by omega) HC1.out HD1.out).mono ?_
    rintro e w2 ⟨u, rfl, u0, u1, hc2, hb2⟩
    have HC2 : Hid (Cur w2 B ca len cap (n + 2 + 2)) := hc2
    have HB2 : Hid _ := hb2.below
    clear hc2 hb2
    go_wp2
    go_ret
    exact ⟨u - 32768, rfl, WalkArith.wf_i64 (by omega), Cur.mono HC2.out (by omega), HB1.out.below.trans HB2.out⟩
  have z2 : (v == 2) = false := by rw [beq_eq_false_iff_ne]; exact e2
  clear e0 e1 e2
  go_wp2_with fail
  go_region_with (first
    | (go_at_call_of 61 (Value.int .i64 41)
       refine (pick_any _ B ca len cap (n + 2) 41 hl (by omega) (by omega) (by omega) ?_ ?_).mono ?_
       · first | exact HC1.out | exact HC1.out.alloc _ _
       · first | exact HD1.out | exact HD1.out.alloc (by omega) _
       rintro e w2 ⟨p, rfl, p0, p1, hc2, hb2⟩
       have hB2 := hc2.lt
       have HC2 : Hid (Cur w2 B ca len cap (n + 2 + 2)) := hc2
       have HE2 : Hid (Below B w w2) := by first | exact HB1.out.below.drew.trans (Sel.below hb2) | exact (HB1.out.below.alloc (by omega) _).drew.trans (Sel.below hb2)
       have HD2 : Hid (Code w2 B ca len) := Code.below HD.out HE2.out
       first | (have HN2 : Hid (Nums w2 w1.heap.size [1, 2, 3, 4, 7]) := Nums.sel (by exact nums_alloc [1, 2, 3, 4, 7] w1 3) hb2 (by omega)) | skip
       clear hc2 hb2)
    | (go_at_call_of 64 (w1.heap.size)
       refine (among_any _ B w1.heap.size 5 [1, 2, 3, 4, 7] rfl ca len cap (n + 4) hl (by omega) (by omega) (by omega) (by omega) HN2.out HC2.out HD2.out).mono ?_
       rintro e w3 ⟨d, rfl, hdm, hc3, hb3⟩
       obtain ⟨d1, d2⟩ := small_of d hdm
       have HC3 : Hid (Cur w3 B ca len cap (n + 4 + 2)) := hc3
       have HE3 : Hid (Below B w w3) := HE2.out.trans (Sel.below hb3)
       clear hc3 hb3 hdm)
    | (go_at_call 64
       refine (among_any _ B w2.heap.size 5 [1, 2, 3, 4, 7] rfl ca len cap (n + 4) hl (by omega) (by omega) (by omega) (by omega) (nums_alloc [1, 2, 3, 4, 7] w2 3) (HC2.out.alloc _ _) (HD2.out.alloc (by omega) _)).mono ?_
       rintro e w3 ⟨d, rfl, hdm, hc3, hb3⟩
       obtain ⟨d1, d2⟩ := small_of d hdm
       have HC3 : Hid (Cur w3 B ca len cap (n + 4 + 2)) := hc3
       have HE3 : Hid (Below B w w3) := (HE2.out.alloc (by omega) _).trans (Sel.below hb3)
       clear hc3 hb3 hdm)
    | (go_at_call_of 61 (Value.int .i64 3)
       refine (pick_any _ B ca len cap (n + 6) 3 hl (by omega) (by omega) (by omega) HC3.out (Code.below HD.out HE3.out)).mono ?_
       rintro e w4 ⟨q, rfl, q0, q1, hc4, hb4⟩
       have HC4 : Hid (Cur w4 B ca len cap (n + 6 + 2)) := hc4
       have HE4 : Hid (Below B w w4) := HE3.out.trans (Sel.below hb4)
       clear hc4 hb4))
  all_goals
    go_wp2_with fail
    refine (one_any w4 B ca len cap (n + 8) 60 hl (by omega) (by omega) (by omega) HC4.out (Code.below HD.out HE4.out)).mono ?_
    rintro e w5 ⟨bb, rfl, hc5, hb5⟩
    have hB5 := hc5.lt
    have HC5 : Hid (Cur w5 B ca len cap (n + 8 + 2)) := hc5
    have HE5 : Hid (Below B w w5) := HE4.out.trans (Sel.below hb5)
    clear hc5 hb5
    cases bb
    · go_wp2
      go_ret
      exact ⟨_, rfl, by go_wf, Cur.mono HC5.out (by omega), HE5.out⟩
    · go_wp2_with fail
      refine (among_any _ B w5.heap.size 4 [1099511627777, -1099511627777, 9223372036854775807, -9223372036854775808] rfl ca len cap (n + 10) hl (by omega) (by omega) (by omega) (by omega) (nums_alloc [1099511627777, -1099511627777, 9223372036854775807, -9223372036854775808] w5 3) (HC5.out.alloc _ _) (Code.alloc (Code.below HD.out HE5.out) (by omega) _)).mono ?_
      rintro e w6 ⟨u, rfl, hu, hc6, hb6⟩
      have HW : Hid _ := wf_mem _ (by decide) u hu
      have HC6 : Hid (Cur w6 B ca len cap (n + 10 + 2)) := hc6
      have HE6 : Hid (Below B w w6) := (HE5.out.alloc (by omega) _).trans (Sel.below hb6)
      clear hc6 hb6 hu
      go_wp2
      go_ret
      exact ⟨u, rfl, HW.out, Cur.mono HC6.out (by omega), HE6.out⟩
end Go.Proofs.Ythlohbiocfeapaa
