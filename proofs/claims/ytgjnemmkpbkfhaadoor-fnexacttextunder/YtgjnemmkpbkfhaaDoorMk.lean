/-
  Nodes and their attributes in memory, and what the laws' helpers that measure them, copy them and hold two against each other do; each theorem names its conditions.
-/
import Derived.Test.YtgjnemmkpbkfhaaDoorMkl
namespace Go.Proofs.YtgjnemmkpbkfhaaDoor
open Go.ChangeShapes Go.WideShapes Go.ChangeAt Go.RowKit
set_option linter.unusedVariables false

abbrev Pair := ByteArray × ByteArray
def pairAt (l : List Pair) (i : Nat) : Pair := l.getD i (⟨#[]⟩, ⟨#[]⟩)
/-- The attributes l lie at a. -/
def Attrs (w : World) (a : Option Addr) (l : List Pair) : Prop :=
  l = [] ∨ ∃ b off, a = some ⟨b, off, none⟩ ∧ b < w.heap.size ∧ ∀ i, i < l.length → w.cell? ⟨b, off + i * 2, none⟩ = some (.string (pairAt l i).1) ∧ w.cell? ⟨b, off + i * 2 + 1, none⟩ = some (.string (pairAt l i).2)
theorem Attrs.nw {w w' : World} {a : Option Addr} {l : List Pair} (h : Attrs w a l) (k : Nw w w') : Attrs w' a l := by
  rcases h with h | ⟨b, off, rfl, hb, hc⟩
  · exact Or.inl h
  · exact Or.inr ⟨b, off, rfl, Nat.lt_of_lt_of_le hb (Below.size k), fun i hi => ⟨(Below.cell k (p := ⟨b, off + i * 2, none⟩) hb).trans (hc i hi).1, (Below.cell k (p := ⟨b, off + i * 2 + 1, none⟩) hb).trans (hc i hi).2⟩⟩

def bulk2 (l : List Pair) : Nat := (l.map fun p => p.1.size + p.2.size).sum
theorem bulk2_step (l : List Pair) (k : Nat) (h : k < l.length) : bulk2 (l.take (k + 1)) = bulk2 (l.take k) + ((pairAt l k).1.size + (pairAt l k).2.size) := by
  unfold bulk2 pairAt
  have e : l.getD k (⟨#[]⟩, ⟨#[]⟩) = l[k] := by simp [h]
  rw [List.take_succ_eq_append_getElem h, List.map_append, List.sum_append, e]
  simp only [List.map_cons, List.map_nil, List.sum_cons, List.sum_nil]
  omega
theorem bulk2_le (l : List Pair) (k : Nat) : bulk2 (l.take k) ≤ bulk2 l := by
  unfold bulk2
  conv => rhs; rw [← List.take_append_drop k l]
  rw [List.map_append, List.sum_append]
  omega

theorem szAttr_any (w : World) (s t : ByteArray) (left : Int) (h0 : 0 ≤ left) (h1 : left ≤ 1048576) (hs : s.size ≤ maxLen) (ht : t.size ≤ maxLen) :
    Calls Tryd.prog 126 #[.agg #[.string s, .string t], .int .i64 left] w fun e w' => e = .returned (.int .i64 (if ((s.size + t.size : Nat) : Int) ≤ left then left - ((s.size + t.size : Nat) : Int) else -1)) ∧ Nw w w' := by
  unfold maxLen at hs ht
  by_cases c1 : (s.size : Int) ≤ left
  · by_cases c2 : (t.size : Int) ≤ left - s.size
    · rw [if_pos (by omega)]
      go_enter Tryd.func126, Tryd.ntmps126
      go_wp2
      go_ret
      exact ⟨ret_int (by omega), (Below.refl _ _).alloc (Nat.le_refl _) _⟩
    · rw [if_neg (by omega)]
      go_enter Tryd.func126, Tryd.ntmps126
      go_wp2
      go_ret
      exact ⟨rfl, (Below.refl _ _).alloc (Nat.le_refl _) _⟩
  · rw [if_neg (by omega)]
    go_enter Tryd.func126, Tryd.ntmps126
    go_wp2
    go_ret
    exact ⟨rfl, (Below.refl _ _).alloc (Nat.le_refl _) _⟩

theorem toAttr_any (w : World) (s t : ByteArray) :
    Calls Tryd.prog 132 #[.agg #[.string s, .string t]] w fun e w' => e = .returned (.agg #[.string s, .string t]) ∧ Kp w w' := by
  go_enter Tryd.func132, Tryd.ntmps132
  go_wp2
  exact bodyPost_ret (v := .agg #[.string s, .string t]) (by simp [results, Tryd.results132, go_sem]) rfl ⟨rfl, (((Kp.refl w).alloc _ _).alloc _ _).alloc _ _⟩

theorem eqAttr_any (w : World) (s t : ByteArray) :
    Calls Tryd.prog 138 #[.agg #[.string s, .string t], .agg #[.string s, .string t]] w fun e w' => e = .returned (.bool true) ∧ Nw w w' := by
  go_enter Tryd.func138, Tryd.ntmps138
  go_wp2
  go_ret
  exact ⟨rfl, ((Below.refl _ _).alloc (Nat.le_refl _) _).alloc (by simp) _⟩

def szA (l : List Pair) (left : Int) : Int := if ((l.length + bulk2 l : Nat) : Int) ≤ left then left - ((l.length + bulk2 l : Nat) : Int) else -1
def okSizes (l : List Pair) : Prop := ∀ i, i < l.length → (pairAt l i).1.size ≤ maxLen ∧ (pairAt l i).2.size ≤ maxLen
set_option maxHeartbeats 1000000 in
theorem szAttrS_any (w : World) (a : Option Addr) (c : Nat) (l : List Pair) (left : Int) (h0 : 0 ≤ left) (h1 : left ≤ 1048576) (hm : l.length ≤ maxLen) (hr : Attrs w a l) (hs : okSizes l) :
    Calls Tryd.prog 76 #[.slice a l.length c, .int .i64 left] w fun e w' => e = .returned (.int .i64 (szA l left)) ∧ Nw w w' := by
  unfold maxLen at hm
  unfold szA
  by_cases c1 : (l.length : Int) ≤ left
  · have HS : Hid (okSizes l) := hs
    have HR : Hid (Attrs w a l) := hr
    clear hs hr
    go_enter Tryd.func76, Tryd.ntmps76
    go_wp2
    go_loopw [1, 5] (fun x i wr => ∃ k : Nat, k ≤ l.length ∧ i = .int .i64 k ∧ x = .int .i64 (left - l.length - (bulk2 (l.take k) : Nat)) ∧ (bulk2 (l.take k) : Int) ≤ left - l.length ∧ Nw w wr) (fun _ i _ => l.length - (intOf i).toNat)
    case atStart => exact ⟨0, Nat.zero_le _, rfl, by simp [bulk2], by simp [bulk2]; omega, Below.refl _ _⟩
    case round =>
      obtain ⟨k, hk, rfl, rfl, hb, hw⟩ := hrel
      by_cases hlt : k < l.length
      · have hs2 := bulk2_step l k hlt
        have hle := bulk2_le l (k + 1)
        have hz := HS.out k hlt
        rcases (HR.out.nw hw) with h | ⟨b, off, rfl, hbk, hc⟩
        · rw [h] at hlt; simp at hlt
        obtain ⟨q0, q1⟩ := hc k hlt
        clear hc
        have HW : Hid (Nw w wr) := hw
        clear hw
        generalize (pairAt l k).1 = s at *
        generalize (pairAt l k).2 = t at *
        generalize bulk2 (l.take k) = b1 at *
        have HE : Hid (bulk2 (l.take (k + 1)) = b1 + (s.size + t.size)) := hs2
        rw [hs2] at hle
        clear hs2
        by_cases c2 : ((s.size + t.size : Nat) : Int) ≤ left - l.length - b1
        · go_wp2_with (go_at_call 126; refine (szAttr_any _ s t _ (by omega) (by omega) hz.1 hz.2).mono ?_; rw [if_pos c2]; rintro e w' ⟨rfl, k1⟩)
          go_roundw
          case rel => exact ⟨k + 1, by omega, by go_num, by rw [HE.out]; go_num, by rw [HE.out]; omega, HW.out.trans k1⟩
          case measure => simp [intOf]; omega
        · have HX : Hid (left < ((l.length + bulk2 l : Nat) : Int)) := by show left < _; omega
          go_wp2_with (go_at_call 126; refine (szAttr_any _ s t _ (by omega) (by omega) hz.1 hz.2).mono ?_; rw [if_neg c2]; rintro e w' ⟨rfl, k1⟩)
          go_ret
          exact ⟨ret_int (by first | rfl | rw [if_neg (by have := HX.out; omega)]), HW.out.trans k1⟩
      · have e : k = l.length := by omega
        subst e
        rw [List.take_length] at *
        have HW : Hid (Nw w wr) := hw
        clear hw
        go_wp2
        go_ret
        exact ⟨ret_int (by first | omega | (rw [if_pos (by omega)]; omega)), HW.out⟩
  · rw [if_neg (by omega)]
    go_enter Tryd.func76, Tryd.ntmps76
    go_wp2
    go_ret
    exact ⟨rfl, Below.refl _ _⟩

/-- A new list of which the first k attributes have been laid. -/
def LayP (w : World) (g : Nat) (l : List Pair) (k : Nat) : Prop :=
  g < w.heap.size ∧ (∀ i, i < k → w.cell? ⟨g, i * 2, none⟩ = some (.string (pairAt l i).1) ∧ w.cell? ⟨g, i * 2 + 1, none⟩ = some (.string (pairAt l i).2)) ∧ (∀ i, k ≤ i → i < l.length → w.cell? ⟨g, i * 2, none⟩ = some (.string ⟨#[]⟩) ∧ w.cell? ⟨g, i * 2 + 1, none⟩ = some (.string ⟨#[]⟩)) ∧ ∀ o, w.frozen? ⟨g, o, none⟩ = false
theorem LayP.nw {w w' : World} {g k : Nat} {l : List Pair} (h : LayP w g l k) (q : Nw w w') : LayP w' g l k :=
  ⟨Nat.lt_of_lt_of_le h.1 (Below.size q), fun i hi => ⟨(Below.cell q (p := ⟨g, i * 2, none⟩) h.1).trans (h.2.1 i hi).1, (Below.cell q (p := ⟨g, i * 2 + 1, none⟩) h.1).trans (h.2.1 i hi).2⟩,
    fun i hi hj => ⟨(Below.cell q (p := ⟨g, i * 2, none⟩) h.1).trans (h.2.2.1 i hi hj).1, (Below.cell q (p := ⟨g, i * 2 + 1, none⟩) h.1).trans (h.2.2.1 i hi hj).2⟩, fun o => (Below.frozen q (p := ⟨g, o, none⟩) h.1).trans (h.2.2.2 o)⟩
theorem LayP.step {w : World} {g k : Nat} {l : List Pair} (h : LayP w g l k) (hk : k < l.length) : LayP ((w.setCell ⟨g, k * 2, none⟩ (.string (pairAt l k).1)).setCell ⟨g, k * 2 + 1, none⟩ (.string (pairAt l k).2)) g l (k + 1) := by
  obtain ⟨h2, h3, h4, h5⟩ := h
  obtain ⟨c0, c1⟩ := h4 k (Nat.le_refl _) hk
  have far : ∀ o, o ≠ k * 2 → o ≠ k * 2 + 1 → ((w.setCell ⟨g, k * 2, none⟩ (.string (pairAt l k).1)).setCell ⟨g, k * 2 + 1, none⟩ (.string (pairAt l k).2)).cell? ⟨g, o, none⟩ = w.cell? ⟨g, o, none⟩ := by
    intro o a b
    rw [World.cell?_setCell_other _ _ _ _ (fun h => by injection h; omega), World.cell?_setCell_other _ _ _ _ (fun h => by injection h; omega)]
  refine ⟨by simpa [World.setCell] using h2, fun m hm => ?_, fun m hm1 hm2 => ?_, fun o => ?_⟩
  · by_cases e : m = k
    · subst e
      refine ⟨?_, World.cell?_setCell_same (w.setCell ⟨g, m * 2, none⟩ _) ⟨g, m * 2 + 1, none⟩ _ ((World.cell?_setCell_other _ _ _ _ (fun h => by injection h; omega)).trans c1)⟩
      rw [World.cell?_setCell_other _ _ _ _ (fun h => by injection h; omega)]
      exact World.cell?_setCell_same w ⟨g, m * 2, none⟩ _ c0
    · rw [far _ (by omega) (by omega), far _ (by omega) (by omega)]; exact h3 m (by omega)
  · rw [far _ (by omega) (by omega), far _ (by omega) (by omega)]; exact h4 m (by omega) hm2
  · rw [World.frozen?_setCell, World.frozen?_setCell]; exact h5 o
theorem LayP.off {w : World} {g k : Nat} {l : List Pair} (h : LayP w g l k) (b o : Nat) (v : Value) (hne : b ≠ g) : LayP (w.setCell ⟨b, o, none⟩ v) g l k := by
  have far : ∀ x, (w.setCell ⟨b, o, none⟩ v).cell? ⟨g, x, none⟩ = w.cell? ⟨g, x, none⟩ := fun x => World.cell?_setCell_other _ _ _ _ (fun h => by injection h; omega)
  refine ⟨by simpa [World.setCell] using h.1, fun m hm => ?_, fun m hm1 hm2 => ?_, fun x => ?_⟩
  · rw [far, far]; exact h.2.1 m hm
  · rw [far, far]; exact h.2.2.1 m hm1 hm2
  · rw [World.frozen?_setCell]; exact h.2.2.2 x
theorem LayP.attrs {w : World} {g : Nat} {l : List Pair} (h : LayP w g l l.length) : Attrs w (some ⟨g, 0, none⟩) l :=
  Or.inr ⟨g, 0, rfl, h.1, fun i hi => by simpa using h.2.1 i hi⟩
theorem Tryd.info119 : (Tryd.prog.info? 119).map (fun i => (i.zero, i.size, i.bytes)) = some (some (.agg #[.string ⟨#[]⟩, .string ⟨#[]⟩]), 2, 32) := by kernel_rfl
theorem LayP.start (w : World) (l : List Pair) (t : TypeId) : LayP (w.alloc (.cells (madeCells #[.string ⟨#[]⟩, .string ⟨#[]⟩] (l.length * 2)) t)) w.heap.size l 0 := by
  refine ⟨by simp, fun i hi => absurd hi (by omega), fun i _ hi => ⟨?_, ?_⟩, fun o => World.frozen?_alloc_at _ _ _ _ rfl⟩
  · have := madeCells_get #[.string ⟨#[]⟩, .string ⟨#[]⟩] (l.length * 2) (i * 2) (by omega)
    simp at this
    simp [this]
  · have := madeCells_get #[.string ⟨#[]⟩, .string ⟨#[]⟩] (l.length * 2) (i * 2 + 1) (by omega)
    have e : (i * 2 + 1) % 2 = 1 := by omega
    simp [e] at this
    simp [this]
theorem toAttrS_any (w : World) (a : Option Addr) (c : Nat) (l : List Pair) (hm : l.length ≤ 1048576) (hr : Attrs w a l) :
    Calls Tryd.prog 82 #[.slice a l.length c] w fun e w' => e = .returned (.slice (some ⟨w.heap.size, 0, none⟩) l.length l.length) ∧ Nw w w' ∧ LayP w' w.heap.size l l.length := by
  have HR : Hid (Attrs w a l) := hr
  clear hr
  have hmk := run_mk 61 119 _ 2 32 Tryd.underlying61 Tryd.info119 l.length (by omega) (by omega)
  have hcs : (Value.agg #[.string ⟨#[]⟩, .string ⟨#[]⟩]).cells = #[.string ⟨#[]⟩, .string ⟨#[]⟩] := rfl
  rw [hcs] at hmk
  go_enter Tryd.func82, Tryd.ntmps82
  go_wp2
  go_loopw [4] (fun i wr => ∃ k : Nat, k ≤ l.length ∧ i = .int .i64 k ∧ Nw w wr ∧ LayP wr w.heap.size l k) (fun i _ => l.length - (intOf i).toNat)
  case atStart => exact ⟨0, Nat.zero_le _, rfl, (Below.refl _ _).alloc (Nat.le_refl _) _, LayP.start w l _⟩
  case round =>
    obtain ⟨k, hk, rfl, hw, hlay⟩ := hrel
    clear hmk hcs
    by_cases hlt : k < l.length
    · rcases (HR.out.nw hw) with h | ⟨b, off, rfl, hbk, hc⟩
      · rw [h] at hlt; simp at hlt
      obtain ⟨q0, q1⟩ := hc k hlt
      clear hc
      have HW : Hid (Nw w wr) := hw
      obtain ⟨z0, z1⟩ := hlay.2.2.1 k (Nat.le_refl _) hlt
      have zf := hlay.2.2.2
      have HL : Hid _ := hlay
      clear hw hlay
      have hg : w.heap.size < wr.heap.size := HL.out.1
      go_wp2_with (go_at_call 132; refine (toAttr_any _ _ _).mono ?_; rintro e w' ⟨rfl, k1⟩; have y0 := ((Kp.cells k1).1 _ (k * 2) hg).trans z0; have y1 := ((Kp.cells k1).1 _ (k * 2 + 1) hg).trans z1; have yf : ∀ o, w'.frozen? ⟨w.heap.size, o, none⟩ = false := fun o => ((Kp.cells k1).2 _ o).trans (zf o); clear z0 z1 zf)
      go_roundw
      case rel =>
        refine ⟨k + 1, by omega, by go_num, ?_, LayP.step (LayP.nw HL.out k1.nw) hlt⟩
        have kb : Below w.heap.size w w' := HW.out.trans k1.nw
        exact (kb.setCell (Nat.le_refl _) _).setCell (Nat.le_refl _) _
      case measure => simp [intOf]; omega
    · have e : k = l.length := by omega
      subst e
      have HN : Hid (Nw w wr ∧ LayP wr w.heap.size l l.length) := ⟨hw, hlay⟩
      clear hw hlay
      go_wp2
      go_ret
      exact ⟨rfl, HN.out⟩

theorem eqAttrS_any (w : World) (a1 a2 : Option Addr) (c1 c2 : Nat) (l : List Pair) (hl : l.length ≤ 1048576) (h1 : Attrs w a1 l) (h2 : Attrs w a2 l) :
    Calls Tryd.prog 88 #[.slice a1 l.length c1, .slice a2 l.length c2] w fun e w' => e = .returned (.bool true) ∧ Nw w w' := by
  have H1 : Hid (Attrs w a1 l) := h1
  have H2 : Hid (Attrs w a2 l) := h2
  clear h1 h2
  go_enter Tryd.func88, Tryd.ntmps88
  go_wp2
  go_loopw [5] (fun i wr => ∃ k : Nat, k ≤ l.length ∧ i = .int .i64 k ∧ Nw w wr) (fun i _ => l.length - (intOf i).toNat)
  case atStart => exact ⟨0, Nat.zero_le _, rfl, Below.refl _ _⟩
  case round =>
    obtain ⟨k, hk, rfl, hw⟩ := hrel
    by_cases hlt : k < l.length
    · rcases (H1.out.nw hw) with h | ⟨b1, o1, rfl, hb1, hc1⟩
      · rw [h] at hlt; simp at hlt
      rcases (H2.out.nw hw) with h | ⟨b2, o2, rfl, hb2, hc2⟩
      · rw [h] at hlt; simp at hlt
      obtain ⟨q0, q1⟩ := hc1 k hlt
      obtain ⟨r0, r1⟩ := hc2 k hlt
      clear hc1 hc2 H1 H2
      have HW : Hid (Nw w wr) := hw
      clear hw
      generalize (pairAt l k).1 = s at *
      generalize (pairAt l k).2 = t at *
      go_wp2
      go_region_with (go_at_call 138; refine (eqAttr_any _ _ _).mono ?_; rintro e w' ⟨rfl, k1⟩)
      all_goals
        go_wp2
        go_roundw
        case rel => exact ⟨k + 1, by omega, by go_num, HW.out.trans k1.drw⟩
        case measure => simp [intOf]; omega
    · have HW : Hid (Nw w wr) := hw
      clear hw
      go_wp2
      go_ret
      exact ⟨rfl, HW.out⟩

/-- A node: its name, the number of what is around it, its attributes, its text. -/
structure ND where
  name : ByteArray
  up : Int
  attrs : List Pair
  text : ByteArray
def nodeV (n : ND) (a : Option Addr) (c : Nat) : Value := .agg #[.string n.name, .int .i64 n.up, .slice a n.attrs.length c, .string n.text]
def bulkN (n : ND) : Nat := n.name.size + (n.attrs.length + bulk2 n.attrs) + n.text.size
structure okND (n : ND) : Prop where
  name : n.name.size ≤ maxLen
  text : n.text.size ≤ maxLen
  up : -9223372036854775808 ≤ n.up ∧ n.up ≤ 9223372036854775807
  len : n.attrs.length ≤ maxLen
  attrs : okSizes n.attrs

set_option maxHeartbeats 1000000 in
theorem szNode_any (w : World) (n : ND) (a : Option Addr) (c : Nat) (left : Int) (h0 : 0 ≤ left) (h1 : left ≤ 1048576) (ho : okND n) (hr : Attrs w a n.attrs) :
    Calls Tryd.prog 34 #[nodeV n a c, .int .i64 left] w fun e w' => e = .returned (.int .i64 (if (bulkN n : Int) ≤ left then left - (bulkN n : Int) else -1)) ∧ Nw w w' := by
  obtain ⟨name, up, attrs, text⟩ := n
  obtain ⟨o1, o2, o3, o4, o5⟩ := ho
  unfold nodeV bulkN
  simp only at *
  have M : name.size ≤ 9223372036854775807 ∧ text.size ≤ 9223372036854775807 := by unfold maxLen at o1 o2; omega
  obtain ⟨m1, m2⟩ := M
  clear o1 o2 o3
  have HR : ∀ o, Hid (Attrs (w.alloc o) a attrs) := fun o => hr.nw ((Below.refl _ _).alloc (Nat.le_refl _) _)
  clear hr
  have H5 : Hid (okSizes attrs) := o5
  have H4 : Hid (attrs.length ≤ maxLen) := o4
  clear o4 o5
  by_cases c1 : (name.size : Int) ≤ left
  · by_cases c2 : ((attrs.length + bulk2 attrs : Nat) : Int) ≤ left - name.size
    · by_cases c3 : (text.size : Int) ≤ left - name.size - ((attrs.length + bulk2 attrs : Nat) : Int)
      · rw [if_pos (by omega)]
        generalize hB : attrs.length + bulk2 attrs = B at *
        go_enter Tryd.func34, Tryd.ntmps34
        go_wp2_with (go_at_call 76; refine (szAttrS_any _ a c attrs _ (by omega) (by omega) H4.out (HR _).out H5.out).mono ?_; rw [szA, hB, if_pos c2]; clear hB; rintro e w' ⟨rfl, k1⟩; obtain ⟨hc, hf⟩ := bcell k1)
        go_ret
        exact ⟨ret_int (by omega), Below.trans ((Below.refl _ _).alloc (Nat.le_refl _) _) (Below.mono k1 (by simp))⟩
      · rw [if_neg (by omega)]
        generalize hB : attrs.length + bulk2 attrs = B at *
        go_enter Tryd.func34, Tryd.ntmps34
        go_wp2_with (go_at_call 76; refine (szAttrS_any _ a c attrs _ (by omega) (by omega) H4.out (HR _).out H5.out).mono ?_; rw [szA, hB, if_pos c2]; clear hB; rintro e w' ⟨rfl, k1⟩; obtain ⟨hc, hf⟩ := bcell k1)
        go_ret
        exact ⟨rfl, Below.trans ((Below.refl _ _).alloc (Nat.le_refl _) _) (Below.mono k1 (by simp))⟩
    · rw [if_neg (by omega)]
      generalize hB : attrs.length + bulk2 attrs = B at *
      go_enter Tryd.func34, Tryd.ntmps34
      go_wp2_with (go_at_call 76; refine (szAttrS_any _ a c attrs _ (by omega) (by omega) H4.out (HR _).out H5.out).mono ?_; rw [szA, hB, if_neg c2]; clear hB; rintro e w' ⟨rfl, k1⟩; obtain ⟨hc, hf⟩ := bcell k1)
      go_ret
      exact ⟨rfl, Below.trans ((Below.refl _ _).alloc (Nat.le_refl _) _) (Below.mono k1 (by simp))⟩
  · rw [if_neg (by omega)]
    go_enter Tryd.func34, Tryd.ntmps34
    go_wp2
    go_ret
    exact ⟨rfl, (Below.refl _ _).alloc (Nat.le_refl _) _⟩

theorem toNode_any (w : World) (n : ND) (a : Option Addr) (c : Nat) (hl : n.attrs.length ≤ 1048576) (hr : Attrs w a n.attrs) :
    Calls Tryd.prog 37 #[nodeV n a c] w fun e w' => ∃ g, e = .returned (nodeV n (some ⟨g, 0, none⟩) n.attrs.length) ∧ Nw w w' ∧ w.heap.size ≤ g ∧ LayP w' g n.attrs n.attrs.length := by
  obtain ⟨name, up, attrs, text⟩ := n
  unfold nodeV
  simp only at *
  have HR : ∀ o1 o2 o3, Hid (Attrs (((w.alloc o1).alloc o2).alloc o3) a attrs) := fun o1 o2 o3 => hr.nw ((((Below.refl _ _).alloc (Nat.le_refl _) _).alloc (by simp) _).alloc (by simp; omega) _)
  clear hr
  go_enter Tryd.func37, Tryd.ntmps37
  go_wp2_with (go_at_call 82; refine (toAttrS_any _ a c attrs hl (HR _ _ _).out).mono ?_; rintro e w' ⟨rfl, k1, k2⟩; obtain ⟨hc, hf⟩ := bcell k1)
  have K0 : Below w.heap.size w w' := Below.trans ((((Below.refl _ _).alloc (Nat.le_refl _) _).alloc (by simp) _).alloc (by simp; omega) _) (Below.mono k1 (by simp; omega))
  have hz : w.heap.size + 1 + 1 + 1 < w'.heap.size := by have := k2.1; simpa using this
  have K2 : LayP w' (w.heap.size + 1 + 1 + 1) attrs attrs.length := by simpa using k2
  clear k1 k2
  refine bodyPost_ret (v := .agg #[.string name, .int .i64 up, .slice (some ⟨w.heap.size + 1 + 1 + 1, 0, none⟩) attrs.length attrs.length, .string text]) (by simp [results, Tryd.results37, go_sem, hc]) rfl ⟨w.heap.size + 1 + 1 + 1, rfl, ?_, by omega, ?_⟩
  · exact (((((K0.setCell (by simp; omega) _).setCell (by simp; omega) _).setCell (by simp) _).setCell (by simp) _).setCell (by simp) _).setCell (by simp) _
  · exact (((((K2.off _ _ _ (by omega)).off _ _ _ (by omega)).off _ _ _ (by omega)).off _ _ _ (by omega)).off _ _ _ (by omega)).off _ _ _ (by omega)

theorem eqNode_any (w : World) (n : ND) (a1 a2 : Option Addr) (c1 c2 : Nat) (hl : n.attrs.length ≤ 1048576) (h1 : Attrs w a1 n.attrs) (h2 : Attrs w a2 n.attrs) :
    Calls Tryd.prog 43 #[nodeV n a1 c1, nodeV n a2 c2] w fun e w' => e = .returned (.bool true) ∧ Nw w w' := by
  obtain ⟨name, up, attrs, text⟩ := n
  unfold nodeV
  simp only at *
  have H1 : ∀ o1 o2, Hid (Attrs ((w.alloc o1).alloc o2) a1 attrs) := fun o1 o2 => h1.nw (((Below.refl _ _).alloc (Nat.le_refl _) _).alloc (by simp) _)
  have H2 : ∀ o1 o2, Hid (Attrs ((w.alloc o1).alloc o2) a2 attrs) := fun o1 o2 => h2.nw (((Below.refl _ _).alloc (Nat.le_refl _) _).alloc (by simp) _)
  clear h1 h2
  go_enter Tryd.func43, Tryd.ntmps43
  go_wp2_with (go_at_call 88; refine (eqAttrS_any _ a1 a2 c1 c2 attrs hl (H1 _ _).out (H2 _ _).out).mono ?_; rintro e w' ⟨rfl, k1⟩; obtain ⟨hc, hf⟩ := bcell k1)
  go_ret
  exact ⟨rfl, Below.trans (((Below.refl _ _).alloc (Nat.le_refl _) _).alloc (by simp) _) (Below.mono k1 (by simp; omega))⟩
end Go.Proofs.YtgjnemmkpbkfhaaDoor
