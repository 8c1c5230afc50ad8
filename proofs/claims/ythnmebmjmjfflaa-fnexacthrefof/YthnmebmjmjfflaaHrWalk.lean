/-
  The law on HrefOf: the walk of its text; each theorem names its conditions.
-/
import Derived.Test.YthnmebmjmjfflaaHr
namespace Go.Proofs.Ythnmebmjmjfflaa
open Go.ChangeShapes Go.WideShapes Go.ChangeAt Go.RowKit
set_option linter.unusedVariables false

set_option maxHeartbeats 8000000 in
theorem walk_href_in (w : World) (name : ByteArray) (up : Int) (l : List Pair) (text : ByteArray) (a : Option Addr) (c : Nat) (ho : okND ⟨name, up, l, text⟩) (hr : Attrs w a l) (hbk : (bulkN ⟨name, up, l, text⟩ : Int) ≤ 1048576) (v : ByteArray)
    (hS : ∀ W a c, Attrs W a l → Calls Try.prog 5 #[.agg #[.string name, .int .i64 up, .slice a l.length c, .string text]] W fun e w' => e = .returned (.string v) ∧ Nw W w')
    (hI : ∀ W a c, Attrs W a l → Calls Try.prog 7 #[.agg #[.string name, .int .i64 up, .slice a l.length c, .string text]] W fun e w' => e = .returned (.string v) ∧ Nw W w') :
    Calls Try.prog 3 #[.agg #[.string name, .int .i64 up, .slice a l.length c, .string text]] w fun e w' => e = .returned (.bool true) ∧ Below w.heap.size w w' := by
  have hln : l.length ≤ 1048576 := by unfold bulkN at hbk; simp only at hbk; omega
  have hneg : decide ((1048576 : Int) - (bulkN ⟨name, up, l, text⟩ : Int) < 0) = false := by simp; omega
  have hq1 : (v.toList != v.toList) = false := by simp
  have HO : Hid (okND ⟨name, up, l, text⟩) := ho
  have HR : Hid (Attrs w a l) := hr
  have HS : Hid _ := hS
  have HI : Hid _ := hI
  have HB : Hid ((bulkN ⟨name, up, l, text⟩ : Int) ≤ 1048576) := hbk
  clear ho hr hS hI hbk
  go_enter Try.func3, Try.ntmps3
  go_wp2_with fail
  refine Calls.mono (szNode_any _ ⟨name, up, l, text⟩ a c _ (by omega) (by omega) HO.out (HR.out.nw ((Below.refl _ _).alloc (Nat.le_refl _) _))) ?_
  rw [if_pos HB.out]
  generalize bulkN ⟨name, up, l, text⟩ = B at *
  rintro e w1 ⟨rfl, k1⟩
  have S1 : Hid (Nw w w1) := Below.trans ((Below.refl _ _).alloc (Nat.le_refl _) _) (Below.mono k1 (by simp))
  have B1 := (BoxN.new w name up (.slice a l.length c) text 24).nw k1
  clear k1
  obtain ⟨b0, d0, d1, d2, d3⟩ := B1
  go_wp2_with fail
  refine Calls.mono (toNode_any _ ⟨name, up, l, text⟩ a c hln (HR.out.nw S1.out)) ?_
  rintro e w2 ⟨g1, rfl, k1, hg1, L1⟩
  simp only [nodeV] at L1 ⊢
  have S2 : Hid (Nw w w2) := S1.out.trans k1
  have B2 := (BoxN.mk b0 d0 d1 d2 d3).nw k1
  clear k1 b0 d0 d1 d2 d3 S1
  obtain ⟨b0, d0, d1, d2, d3⟩ := B2
  have A2 : Hid (Attrs w2 (some ⟨g1, 0, none⟩) l) := L1.attrs
  clear L1
  go_wp2_with fail
  refine Calls.mono (HS.out _ _ _ A2.out) ?_
  rintro e w3 ⟨rfl, k1⟩
  have S3 : Hid (Nw w w3) := S2.out.trans k1
  have B3 := (BoxN.mk b0 d0 d1 d2 d3).nw k1
  clear k1 b0 d0 d1 d2 d3 S2 A2
  obtain ⟨b0, d0, d1, d2, d3⟩ := B3
  go_wp2_with fail
  refine Calls.mono (toNode_any _ ⟨name, up, l, text⟩ a c hln (HR.out.nw S3.out)) ?_
  rintro e w4 ⟨g2, rfl, k1, hg2, L1⟩
  simp only [nodeV] at L1 ⊢
  have S4 : Hid (Nw w w4) := S3.out.trans k1
  have B4 := (BoxN.mk b0 d0 d1 d2 d3).nw k1
  clear k1 b0 d0 d1 d2 d3 S3
  obtain ⟨b0, d0, d1, d2, d3⟩ := B4
  have A4 : ∀ o, Hid (Attrs (w4.alloc o) (some ⟨g2, 0, none⟩) l) := fun o => L1.attrs.nw ((Below.refl _ _).alloc (Nat.le_refl _) _)
  clear L1
  go_wp2_with fail
  refine Calls.mono (HI.out _ _ _ (A4 _).out) ?_
  rintro e w5 ⟨rfl, k1⟩
  have S5 : Hid (Nw w w5) := S4.out.trans (Below.trans ((Below.refl _ _).alloc (Nat.le_refl _) _) (Below.mono k1 (by simp)))
  have B5 := ((BoxN.mk b0 d0 d1 d2 d3).nw (show Nw w4 (w4.alloc _) from (Below.refl _ _).alloc (Nat.le_refl _) _)).nw k1
  have X5 := (BoxN.new w4 name up (.slice (some ⟨g2, 0, none⟩) l.length l.length) text 29).nw k1
  have A5 : Hid (Attrs w5 (some ⟨g2, 0, none⟩) l) := (A4 _).out.nw k1
  clear k1 b0 d0 d1 d2 d3 S4 A4
  obtain ⟨b0, d0, d1, d2, d3⟩ := B5
  obtain ⟨x0, y0, y1, y2, y3⟩ := X5
  go_wp2_with fail
  have HR5 : Hid (Attrs w5 a l) := HR.out.nw S5.out
  have D5 : Hid (Nw w5 w5.drew) := (Below.refl _ _).drew
  go_region_with (first
    | (go_at_call 6; refine (toNode_any _ ⟨name, up, l, text⟩ a c hln (HR5.out.nw D5.out)).mono ?_; rintro e w6 ⟨g3, rfl, k6, hg3, L6⟩; have K6 : Nw w5 w6 := k6.drw; have X6 := (BoxN.mk x0 y0 y1 y2 y3).nw K6; clear x0 y0 y1 y2 y3 b0 d0 d1 d2 d3; obtain ⟨x0, y0, y1, y2, y3⟩ := X6; have A6 : Hid (Attrs w6 (some ⟨g2, 0, none⟩) l) := A5.out.nw K6; have E6 : Hid (Attrs w6 (some ⟨g3, 0, none⟩) l) := L6.attrs; clear L6; simp only [nodeV])
    | (go_at_call 8; refine (eqNode_any _ ⟨name, up, l, text⟩ (some ⟨g2, 0, none⟩) (some ⟨g3, 0, none⟩) l.length l.length hln ?_ ?_).mono ?_ <;> first | exact A6.out | exact E6.out | (rintro e w7 ⟨rfl, k7⟩)))
  all_goals
    go_wp2
    go_ret
    exact ⟨rfl, (S5.out.trans K6).trans k7⟩

/-- Where a node is too great, the law says nothing. -/
theorem walk_href_big (w : World) (name : ByteArray) (up : Int) (l : List Pair) (text : ByteArray) (a : Option Addr) (c : Nat) (ho : okND ⟨name, up, l, text⟩) (hr : Attrs w a l) (hbk : ¬ (bulkN ⟨name, up, l, text⟩ : Int) ≤ 1048576) :
    Calls Try.prog 3 #[.agg #[.string name, .int .i64 up, .slice a l.length c, .string text]] w fun e w' => e = .returned (.bool true) ∧ Below w.heap.size w w' := by
  have HO : Hid (okND ⟨name, up, l, text⟩) := ho
  have HR : Hid (Attrs w a l) := hr
  have HB : Hid (¬ (bulkN ⟨name, up, l, text⟩ : Int) ≤ 1048576) := hbk
  clear ho hr hbk
  go_enter Try.func3, Try.ntmps3
  go_wp2_with fail
  refine Calls.mono (szNode_any _ ⟨name, up, l, text⟩ a c _ (by omega) (by omega) HO.out (HR.out.nw ((Below.refl _ _).alloc (Nat.le_refl _) _))) ?_
  rw [if_neg (by have := HB.out; omega)]
  rintro e w1 ⟨rfl, k1⟩
  have S1 : Hid (Nw w w1) := Below.trans ((Below.refl _ _).alloc (Nat.le_refl _) _) (Below.mono k1 (by simp))
  go_wp2
  go_ret
  exact ⟨rfl, S1.out⟩
theorem walk_href (w : World) (name : ByteArray) (up : Int) (l : List Pair) (text : ByteArray) (a : Option Addr) (c : Nat) (ho : okND ⟨name, up, l, text⟩) (hr : Attrs w a l) :
    Calls Try.prog 3 #[.agg #[.string name, .int .i64 up, .slice a l.length c, .string text]] w fun e w' => e = .returned (.bool true) ∧ Below w.heap.size w w' := by
  by_cases hbk : (bulkN ⟨name, up, l, text⟩ : Int) ≤ 1048576
  · have hln : l.length ≤ 1048576 := by unfold bulkN at hbk; simp only at hbk; omega
    have hv : ∀ i, i < l.length → (pairAt l i).2.size ≤ 1048576 := fun i hi => by
      have hz := bulk2_at l i hi
      unfold bulkN at hbk; simp only at hbk; omega
    exact walk_href_in w name up l text a c ho hr hbk (refV l) (fun W a c ha => shref W name up l text a c hln hv ha) (fun W a c ha => ihref W name up l text a c hln hv ha)
  · exact walk_href_big w name up l text a c ho hr hbk
end Go.Proofs.Ythnmebmjmjfflaa
