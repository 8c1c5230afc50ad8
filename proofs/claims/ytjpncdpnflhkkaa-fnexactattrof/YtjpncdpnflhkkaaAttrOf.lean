/-
  The law on AttrOf: the walk of its text; each theorem names its conditions.
-/
import Derived.Test.YtjpncdpnflhkkaaMkA
namespace Go.Proofs.Ytjpncdpnflhkkaa
open Go.ChangeShapes Go.WideShapes Go.ChangeAt Go.RowKit
set_option linter.unusedVariables false

/-- A node lies in the block b. -/
structure BoxN (w : World) (b : Nat) (name : ByteArray) (up : Int) (v : Value) (text : ByteArray) : Prop where
  lt : b < w.heap.size
  c0 : w.cell? ⟨b, 0, none⟩ = some (.string name)
  c1 : w.cell? ⟨b, 1, none⟩ = some (.int .i64 up)
  c2 : w.cell? ⟨b, 2, none⟩ = some v
  c3 : w.cell? ⟨b, 3, none⟩ = some (.string text)
theorem BoxN.nw {w w' : World} {b : Nat} {name : ByteArray} {up : Int} {v : Value} {text : ByteArray} (h : BoxN w b name up v text) (k : Nw w w') : BoxN w' b name up v text :=
  ⟨Nat.lt_of_lt_of_le h.lt (Below.size k), ((bcell k).1 _ _ h.lt).trans h.c0, ((bcell k).1 _ _ h.lt).trans h.c1, ((bcell k).1 _ _ h.lt).trans h.c2, ((bcell k).1 _ _ h.lt).trans h.c3⟩
theorem BoxN.new (w : World) (name : ByteArray) (up : Int) (v : Value) (text : ByteArray) (t : TypeId) : BoxN (w.alloc (.cells #[.string name, .int .i64 up, v, .string text] t)) w.heap.size name up v text :=
  ⟨by simp, by simp, by simp, by simp, by simp⟩
theorem bulk2_at (l : List Pair) (k : Nat) (h : k < l.length) : (pairAt l k).1.size + (pairAt l k).2.size ≤ bulk2 l := by
  have h1 := bulk2_step l k h
  have h2 := bulk2_le l (k + 1)
  omega

set_option maxHeartbeats 8000000 in
theorem walk_in (w : World) (name : ByteArray) (up : Int) (l : List Pair) (text : ByteArray) (a : Option Addr) (c : Nat) (s : ByteArray) (ho : okND ⟨name, up, l, text⟩) (hs : s.size ≤ 1048576) (hr : Attrs w a l) (hbk : (bulkN ⟨name, up, l, text⟩ : Int) ≤ 1048576) (v : ByteArray) (r : Bool)
    (hS : ∀ W a c, Attrs W a l → Calls Try.prog 5 #[.agg #[.string name, .int .i64 up, .slice a l.length c, .string text], .string s] W fun e w' => e = .returned (.tuple #[.string v, .bool r]) ∧ Nw W w')
    (hI : ∀ W a c, Attrs W a l → Calls Try.prog 7 #[.agg #[.string name, .int .i64 up, .slice a l.length c, .string text], .string s] W fun e w' => e = .returned (.tuple #[.string v, .bool r]) ∧ Nw W w') :
    Calls Try.prog 3 #[.agg #[.string name, .int .i64 up, .slice a l.length c, .string text], .string s] w fun e w' => e = .returned (.bool true) ∧ Below w.heap.size w w' := by
  have hln : l.length ≤ 1048576 := by unfold bulkN at hbk; simp only at hbk; omega
  have hneg : decide ((1048576 : Int) - (bulkN ⟨name, up, l, text⟩ : Int) < 0) = false := by simp; omega
  have hs1 : decide ((1048576 : Int) < (s.size : Int)) = false := by simp; omega
  have hq1 : (v.toList != v.toList) = false := by simp
  have hq2 : (r != r) = false := by simp
  have HO : Hid (okND ⟨name, up, l, text⟩) := ho
  have HR : Hid (Attrs w a l) := hr
  have HS : Hid _ := hS
  have HI : Hid _ := hI
  have HB : Hid ((bulkN ⟨name, up, l, text⟩ : Int) ≤ 1048576) := hbk
  clear ho hr hS hI hbk
  go_enter Try.func3, Try.ntmps3
  go_wp2_with fail
  refine Calls.mono (szNode_any _ ⟨name, up, l, text⟩ a c _ (by omega) (by omega) HO.out (HR.out.nw ((Below.refl _ _).alloc (Nat.le_refl _) _))) ?_
  rw [if_pos HB.out]
  generalize bulkN ⟨name, up, l, text⟩ = B at *
  rintro e w1 ⟨rfl, k1⟩
  have S1 : Hid (Nw w w1) := Below.trans ((Below.refl _ _).alloc (Nat.le_refl _) _) (Below.mono k1 (by simp))
  have B1 := (BoxN.new w name up (.slice a l.length c) text 24).nw k1
  clear k1
  obtain ⟨b0, d0, d1, d2, d3⟩ := B1
  go_wp2_with fail
  refine Calls.mono (toNode_any _ ⟨name, up, l, text⟩ a c hln (HR.out.nw S1.out)) ?_
  rintro e w2 ⟨g1, rfl, k1, hg1, L1⟩
  simp only [nodeV] at L1 ⊢
  have S2 : Hid (Nw w w2) := S1.out.trans k1
  have B2 := (BoxN.mk b0 d0 d1 d2 d3).nw k1
  clear k1 b0 d0 d1 d2 d3 S1
  obtain ⟨b0, d0, d1, d2, d3⟩ := B2
  have A2 : Hid (Attrs w2 (some ⟨g1, 0, none⟩) l) := L1.attrs
  clear L1
  go_wp2_with fail
  refine Calls.mono (HS.out _ _ _ A2.out) ?_
  rintro e w3 ⟨rfl, k1⟩
  have S3 : Hid (Nw w w3) := S2.out.trans k1
  have B3 := (BoxN.mk b0 d0 d1 d2 d3).nw k1
  clear k1 b0 d0 d1 d2 d3 S2 A2
  obtain ⟨b0, d0, d1, d2, d3⟩ := B3
  go_wp2_with fail
  refine Calls.mono (toNode_any _ ⟨name, up, l, text⟩ a c hln (HR.out.nw S3.out)) ?_
  rintro e w4 ⟨g2, rfl, k1, hg2, L1⟩
  simp only [nodeV] at L1 ⊢
  have S4 : Hid (Nw w w4) := S3.out.trans k1
  have B4 := (BoxN.mk b0 d0 d1 d2 d3).nw k1
  clear k1 b0 d0 d1 d2 d3 S3
  obtain ⟨b0, d0, d1, d2, d3⟩ := B4
  have A4 : ∀ o, Hid (Attrs (w4.alloc o) (some ⟨g2, 0, none⟩) l) := fun o => L1.attrs.nw ((Below.refl _ _).alloc (Nat.le_refl _) _)
  clear L1
  go_wp2_with fail
  refine Calls.mono (HI.out _ _ _ (A4 _).out) ?_
  rintro e w5 ⟨rfl, k1⟩
  have S5 : Hid (Nw w w5) := S4.out.trans (Below.trans ((Below.refl _ _).alloc (Nat.le_refl _) _) (Below.mono k1 (by simp)))
  have B5 := ((BoxN.mk b0 d0 d1 d2 d3).nw (show Nw w4 (w4.alloc _) from (Below.refl _ _).alloc (Nat.le_refl _) _)).nw k1
  have X5 := (BoxN.new w4 name up (.slice (some ⟨g2, 0, none⟩) l.length l.length) text 30).nw k1
  have A5 : Hid (Attrs w5 (some ⟨g2, 0, none⟩) l) := (A4 _).out.nw k1
  clear k1 b0 d0 d1 d2 d3 S4 A4
  obtain ⟨b0, d0, d1, d2, d3⟩ := B5
  obtain ⟨x0, y0, y1, y2, y3⟩ := X5
  go_wp2_with fail
  have HR5 : Hid (Attrs w5 a l) := HR.out.nw S5.out
  have D5 : Hid (Nw w5 w5.drew) := (Below.refl _ _).drew
  go_region_with (first
    | (go_at_call 6; refine (toNode_any _ ⟨name, up, l, text⟩ a c hln (HR5.out.nw D5.out)).mono ?_; rintro e w6 ⟨g3, rfl, k6, hg3, L6⟩; have K6 : Nw w5 w6 := k6.drw; have X6 := (BoxN.mk x0 y0 y1 y2 y3).nw K6; clear x0 y0 y1 y2 y3 b0 d0 d1 d2 d3; obtain ⟨x0, y0, y1, y2, y3⟩ := X6; have A6 : Hid (Attrs w6 (some ⟨g2, 0, none⟩) l) := A5.out.nw K6; have E6 : Hid (Attrs w6 (some ⟨g3, 0, none⟩) l) := L6.attrs; clear L6; simp only [nodeV])
    | (go_at_call 8; refine (eqNode_any _ ⟨name, up, l, text⟩ (some ⟨g2, 0, none⟩) (some ⟨g3, 0, none⟩) l.length l.length hln ?_ ?_).mono ?_ <;> first | exact A6.out | exact E6.out | (rintro e w7 ⟨rfl, k7⟩)))
  all_goals
    go_wp2
    go_ret
    exact ⟨rfl, (S5.out.trans K6).trans k7⟩

/-- Where a node is too great, the law says nothing. -/
theorem walk_big (w : World) (name : ByteArray) (up : Int) (l : List Pair) (text : ByteArray) (a : Option Addr) (c : Nat) (s : ByteArray) (ho : okND ⟨name, up, l, text⟩) (hs : s.size ≤ 1048576) (hr : Attrs w a l) (hbk : ¬ (bulkN ⟨name, up, l, text⟩ : Int) ≤ 1048576) :
    Calls Try.prog 3 #[.agg #[.string name, .int .i64 up, .slice a l.length c, .string text], .string s] w fun e w' => e = .returned (.bool true) ∧ Below w.heap.size w w' := by
  have hs1 : decide ((1048576 : Int) < (s.size : Int)) = false := by simp; omega
  have HO : Hid (okND ⟨name, up, l, text⟩) := ho
  have HR : Hid (Attrs w a l) := hr
  have HB : Hid (¬ (bulkN ⟨name, up, l, text⟩ : Int) ≤ 1048576) := hbk
  clear ho hr hbk
  go_enter Try.func3, Try.ntmps3
  go_wp2_with fail
  refine Calls.mono (szNode_any _ ⟨name, up, l, text⟩ a c _ (by omega) (by omega) HO.out (HR.out.nw ((Below.refl _ _).alloc (Nat.le_refl _) _))) ?_
  rw [if_neg (by have := HB.out; omega)]
  rintro e w1 ⟨rfl, k1⟩
  have S1 : Hid (Nw w w1) := Below.trans ((Below.refl _ _).alloc (Nat.le_refl _) _) (Below.mono k1 (by simp))
  go_wp2
  go_ret
  exact ⟨rfl, S1.out⟩
theorem walk_all (w : World) (name : ByteArray) (up : Int) (l : List Pair) (text : ByteArray) (a : Option Addr) (c : Nat) (s : ByteArray) (ho : okND ⟨name, up, l, text⟩) (hr : Attrs w a l) (hs : s.size ≤ maxLen) :
    Calls Try.prog 3 #[.agg #[.string name, .int .i64 up, .slice a l.length c, .string text], .string s] w fun e w' => e = .returned (.bool true) ∧ Below w.heap.size w w' := by
  by_cases hbig : 1048576 < (s.size : Int)
  · unfold maxLen at hs
    clear ho hr
    go_enter Try.func3, Try.ntmps3
    go_wp2
    go_ret
    exact ⟨rfl, (Below.refl _ _).alloc (Nat.le_refl _) _⟩
  by_cases hbk : (bulkN ⟨name, up, l, text⟩ : Int) ≤ 1048576
  · have hln : l.length ≤ 1048576 := by unfold bulkN at hbk; simp only at hbk; omega
    rcases firstAt_or l s with h | ⟨K, h⟩
    · exact walk_in w name up l text a c s ho (by omega) hr hbk ⟨#[]⟩ false (fun W a c ha => sattrOf_no W ⟨name, up, l, text⟩ a c s hln ha h) (fun W a c ha => iattrOf_no W ⟨name, up, l, text⟩ a c s hln ha h)
    · have hz := bulk2_at l K h.1
      have hz2 : (pairAt l K).2.size ≤ 1048576 := by unfold bulkN at hbk; simp only at hbk; omega
      exact walk_in w name up l text a c s ho (by omega) hr hbk (pairAt l K).2 true (fun W a c ha => sattrOf_yes W ⟨name, up, l, text⟩ a c s K hln ha h) (fun W a c ha => iattrOf_yes W ⟨name, up, l, text⟩ a c s K hln hz2 ha h)
  · exact walk_big w name up l text a c s ho (by omega) hr hbk
end Go.Proofs.Ytjpncdpnflhkkaa
