/-
  Nodes and their attributes in memory, and what the laws' helpers that measure them, copy them and hold two against each other do; each theorem names its conditions.
  Where the first attribute of a name stands; each theorem names its conditions.
  A row of nodes in memory, and the way up from one; each theorem names its conditions.
  Marks' names: the looks at a byte and at a text, the program's and the specification's; each theorem names its conditions.
-/
import Derived.Test.YtnkmdmmlpidcmaaGreatDoorJAA
import Derived.Lib.SlicesS
import Derived.Test.YtnkmdmmlpidcmaaGreatDoorJAC
namespace Go.Proofs.YtnkmdmmlpidcmaaGreatDoor
open Go.ChangeShapes Go.WideShapes Go.ChangeAt Go.RowKit
set_option linter.unusedVariables false

abbrev Pair := ByteArray × ByteArray
def pairAt (l : List Pair) (i : Nat) : Pair := l.getD i (⟨#[]⟩, ⟨#[]⟩)
/-- The attributes l lie at a. -/
def Attrs (w : World) (a : Option Addr) (l : List Pair) : Prop :=
  l = [] ∨ ∃ b off, a = some ⟨b, off, none⟩ ∧ b < w.heap.size ∧ ∀ i, i < l.length → w.cell? ⟨b, off + i * 2, none⟩ = some (.string (pairAt l i).1) ∧ w.cell? ⟨b, off + i * 2 + 1, none⟩ = some (.string (pairAt l i).2)
theorem Attrs.nw {w w' : World} {a : Option Addr} {l : List Pair} (h : Attrs w a l) (k : Nw w w') : Attrs w' a l := by
  rcases h with h | ⟨b, off, rfl, hb, hc⟩
  · exact Or.inl h
  · exact Or.inr ⟨b, off, rfl, Nat.lt_of_lt_of_le hb (Below.size k), fun i hi => ⟨(Below.cell k (p := ⟨b, off + i * 2, none⟩) hb).trans (hc i hi).1, (Below.cell k (p := ⟨b, off + i * 2 + 1, none⟩) hb).trans (hc i hi).2⟩⟩

def bulk2 (l : List Pair) : Nat := (l.map fun p => p.1.size + p.2.size).sum
theorem bulk2_step (l : List Pair) (k : Nat) (h : k < l.length) : bulk2 (l.take (k + 1)) = bulk2 (l.take k) + ((pairAt l k).1.size + (pairAt l k).2.size) := by
  unfold bulk2 pairAt
  have e : l.getD k (⟨#[]⟩, ⟨#[]⟩) = l[k] := by simp [h]
  rw [List.take_succ_eq_append_getElem h, List.map_append, List.sum_append, e]
  simp only [List.map_cons, List.map_nil, List.sum_cons, List.sum_nil]
  omega
theorem bulk2_le (l : List Pair) (k : Nat) : bulk2 (l.take k) ≤ bulk2 l := by
  unfold bulk2
  conv => rhs; rw [← List.take_append_drop k l]
  rw [List.map_append, List.sum_append]
  omega

theorem szAttr_any (w : World) (s t : ByteArray) (left : Int) (h0 : 0 ≤ left) (h1 : left ≤ 1048576) (hs : s.size ≤ maxLen) (ht : t.size ≤ maxLen) :
    Calls Tryz.prog 119 #[.agg #[.string s, .string t], .int .i64 left] w fun e w' => e = .returned (.int .i64 (if ((s.size + t.size : Nat) : Int) ≤ left then left - ((s.size + t.size : Nat) : Int) else -1)) ∧ Nw w w' := by
  unfold maxLen at hs ht
  by_cases c1 : (s.size : Int) ≤ left
  · by_cases c2 : (t.size : Int) ≤ left - s.size
    · rw [if_pos (by omega)]
      go_enter Tryz.func119, Tryz.ntmps119
      go_wp2
      go_ret
      exact ⟨ret_int (by omega), (Below.refl _ _).alloc (Nat.le_refl _) _⟩
    · rw [if_neg (by omega)]
      go_enter Tryz.func119, Tryz.ntmps119
      go_wp2
      go_ret
      exact ⟨rfl, (Below.refl _ _).alloc (Nat.le_refl _) _⟩
  · rw [if_neg (by omega)]
    go_enter Tryz.func119, Tryz.ntmps119
    go_wp2
    go_ret
    exact ⟨rfl, (Below.refl _ _).alloc (Nat.le_refl _) _⟩

theorem toAttr_any (w : World) (s t : ByteArray) :
    Calls Tryz.prog 124 #[.agg #[.string s, .string t]] w fun e w' => e = .returned (.agg #[.string s, .string t]) ∧ Kp w w' := by
  go_enter Tryz.func124, Tryz.ntmps124
  go_wp2
  exact bodyPost_ret (v := .agg #[.string s, .string t]) (by simp [results, Tryz.results124, go_sem]) rfl ⟨rfl, (((Kp.refl w).alloc _ _).alloc _ _).alloc _ _⟩

theorem eqAttr_any (w : World) (s t : ByteArray) :
    Calls Tryz.prog 131 #[.agg #[.string s, .string t], .agg #[.string s, .string t]] w fun e w' => e = .returned (.bool true) ∧ Nw w w' := by
  go_enter Tryz.func131, Tryz.ntmps131
  go_wp2
  go_ret
  exact ⟨rfl, ((Below.refl _ _).alloc (Nat.le_refl _) _).alloc (by simp) _⟩

def szA (l : List Pair) (left : Int) : Int := if ((l.length + bulk2 l : Nat) : Int) ≤ left then left - ((l.length + bulk2 l : Nat) : Int) else -1
def okSizes (l : List Pair) : Prop := ∀ i, i < l.length → (pairAt l i).1.size ≤ maxLen ∧ (pairAt l i).2.size ≤ maxLen
set_option maxHeartbeats 1000000 in
theorem szAttrS_any (w : World) (a : Option Addr) (c : Nat) (l : List Pair) (left : Int) (h0 : 0 ≤ left) (h1 : left ≤ 1048576) (hm : l.length ≤ maxLen) (hr : Attrs w a l) (hs : okSizes l) :
    Calls Tryz.prog 87 #[.slice a l.length c, .int .i64 left] w fun e w' => e = .returned (.int .i64 (szA l left)) ∧ Nw w w' := by
  unfold maxLen at hm
  unfold szA
  by_cases c1 : (l.length : Int) ≤ left
  · have HS : Hid (okSizes l) := hs
    have HR : Hid (Attrs w a l) := hr
    clear hs hr
    go_enter Tryz.func87, Tryz.ntmps87
    go_wp2
    go_loopw [1, 5] (fun x i wr => ∃ k : Nat, k ≤ l.length ∧ i = .int .i64 k ∧ x = .int .i64 (left - l.length - (bulk2 (l.take k) : Nat)) ∧ (bulk2 (l.take k) : Int) ≤ left - l.length ∧ Nw w wr) (fun _ i _ => l.length - (intOf i).toNat)
    case atStart => exact ⟨0, Nat.zero_le _, rfl, by simp [bulk2], by simp [bulk2]; omega, Below.refl _ _⟩
    case round =>
      obtain ⟨k, hk, rfl, rfl, hb, hw⟩ := hrel
      by_cases hlt : k < l.length
      · have hs2 := bulk2_step l k hlt
        have hle := bulk2_le l (k + 1)
        have hz := HS.out k hlt
        rcases (HR.out.nw hw) with h | ⟨b, off, rfl, hbk, hc⟩
        · rw [h] at hlt; simp at hlt
        obtain ⟨q0, q1⟩ := hc k hlt
        clear hc
        have HW : Hid (Nw w wr) := hw
        clear hw
        generalize (pairAt l k).1 = s at *
        generalize (pairAt l k).2 = t at *
        generalize bulk2 (l.take k) = b1 at *
        have HE : Hid (bulk2 (l.take (k + 1)) = b1 + (s.size + t.size)) := hs2
        rw [hs2] at hle
        clear hs2
        by_cases c2 : ((s.size + t.size : Nat) : Int) ≤ left - l.length - b1
        · go_wp2_with (go_at_call 119; refine (szAttr_any _ s t _ (by omega) (by omega) hz.1 hz.2).mono ?_; rw [if_pos c2]; rintro e w' ⟨rfl, k1⟩)
          go_roundw
          case rel => exact ⟨k + 1, by omega, by go_num, by rw [HE.out]; go_num, by rw [HE.out]; omega, HW.out.trans k1⟩
          case measure => simp [intOf]; omega
        · have HX : Hid (left < ((l.length + bulk2 l : Nat) : Int)) := by show left < _; omega
          go_wp2_with (go_at_call 119; refine (szAttr_any _ s t _ (by omega) (by omega) hz.1 hz.2).mono ?_; rw [if_neg c2]; rintro e w' ⟨rfl, k1⟩)
          go_ret
          exact ⟨ret_int (by first | rfl | rw [if_neg (by have := HX.out; omega)]), HW.out.trans k1⟩
      · have e : k = l.length := by omega
        subst e
        rw [List.take_length] at *
        have HW : Hid (Nw w wr) := hw
        clear hw
        go_wp2
        go_ret
        exact ⟨ret_int (by first | omega | (rw [if_pos (by omega)]; omega)), HW.out⟩
  · rw [if_neg (by omega)]
    go_enter Tryz.func87, Tryz.ntmps87
    go_wp2
    go_ret
    exact ⟨rfl, Below.refl _ _⟩

/-- A new list of which the first k attributes have been laid. -/
def LayP (w : World) (g : Nat) (l : List Pair) (k : Nat) : Prop :=
  g < w.heap.size ∧ (∀ i, i < k → w.cell? ⟨g, i * 2, none⟩ = some (.string (pairAt l i).1) ∧ w.cell? ⟨g, i * 2 + 1, none⟩ = some (.string (pairAt l i).2)) ∧ (∀ i, k ≤ i → i < l.length → w.cell? ⟨g, i * 2, none⟩ = some (.string ⟨#[]⟩) ∧ w.cell? ⟨g, i * 2 + 1, none⟩ = some (.string ⟨#[]⟩)) ∧ ∀ o, w.frozen? ⟨g, o, none⟩ = false
theorem LayP.nw {w w' : World} {g k : Nat} {l : List Pair} (h : LayP w g l k) (q : Nw w w') : LayP w' g l k :=
  ⟨Nat.lt_of_lt_of_le h.1 (Below.size q), fun i hi => ⟨(Below.cell q (p := ⟨g, i * 2, none⟩) h.1).trans (h.2.1 i hi).1, (Below.cell q (p := ⟨g, i * 2 + 1, none⟩) h.1).trans (h.2.1 i hi).2⟩,
    fun i hi hj => ⟨(Below.cell q (p := ⟨g, i * 2, none⟩) h.1).trans (h.2.2.1 i hi hj).1, (Below.cell q (p := ⟨g, i * 2 + 1, none⟩) h.1).trans (h.2.2.1 i hi hj).2⟩, fun o => (Below.frozen q (p := ⟨g, o, none⟩) h.1).trans (h.2.2.2 o)⟩
theorem LayP.step {w : World} {g k : Nat} {l : List Pair} (h : LayP w g l k) (hk : k < l.length) : LayP ((w.setCell ⟨g, k * 2, none⟩ (.string (pairAt l k).1)).setCell ⟨g, k * 2 + 1, none⟩ (.string (pairAt l k).2)) g l (k + 1) := by
  obtain ⟨h2, h3, h4, h5⟩ := h
  obtain ⟨c0, c1⟩ := h4 k (Nat.le_refl _) hk
  have far : ∀ o, o ≠ k * 2 → o ≠ k * 2 + 1 → ((w.setCell ⟨g, k * 2, none⟩ (.string (pairAt l k).1)).setCell ⟨g, k * 2 + 1, none⟩ (.string (pairAt l k).2)).cell? ⟨g, o, none⟩ = w.cell? ⟨g, o, none⟩ := by
    intro o a b
    rw [World.cell?_setCell_other _ _ _ _ (fun h => by injection h; omega), World.cell?_setCell_other _ _ _ _ (fun h => by injection h; omega)]
  refine ⟨by simpa [World.setCell] using h2, fun m hm => ?_, fun m hm1 hm2 => ?_, fun o => ?_⟩
  · by_cases e : m = k
    · subst e
      refine ⟨?_, World.cell?_setCell_same (w.setCell ⟨g, m * 2, none⟩ _) ⟨g, m * 2 + 1, none⟩ _ ((World.cell?_setCell_other _ _ _ _ (fun h => by injection h; omega)).trans c1)⟩
      rw [World.cell?_setCell_other _ _ _ _ (fun h => by injection h; omega)]
      exact World.cell?_setCell_same w ⟨g, m * 2, none⟩ _ c0
    · rw [far _ (by omega) (by omega), far _ (by omega) (by omega)]; exact h3 m (by omega)
  · rw [far _ (by omega) (by omega), far _ (by omega) (by omega)]; exact h4 m (by omega) hm2
  · rw [World.frozen?_setCell, World.frozen?_setCell]; exact h5 o
theorem LayP.off {w : World} {g k : Nat} {l : List Pair} (h : LayP w g l k) (b o : Nat) (v : Value) (hne : b ≠ g) : LayP (w.setCell ⟨b, o, none⟩ v) g l k := by
  have far : ∀ x, (w.setCell ⟨b, o, none⟩ v).cell? ⟨g, x, none⟩ = w.cell? ⟨g, x, none⟩ := fun x => World.cell?_setCell_other _ _ _ _ (fun h => by injection h; omega)
  refine ⟨by simpa [World.setCell] using h.1, fun m hm => ?_, fun m hm1 hm2 => ?_, fun x => ?_⟩
  · rw [far, far]; exact h.2.1 m hm
  · rw [far, far]; exact h.2.2.1 m hm1 hm2
  · rw [World.frozen?_setCell]; exact h.2.2.2 x
theorem LayP.attrs {w : World} {g : Nat} {l : List Pair} (h : LayP w g l l.length) : Attrs w (some ⟨g, 0, none⟩) l :=
  Or.inr ⟨g, 0, rfl, h.1, fun i hi => by simpa using h.2.1 i hi⟩
theorem Tryz.info133 : (Tryz.prog.info? 133).map (fun i => (i.zero, i.size, i.bytes)) = some (some (.agg #[.string ⟨#[]⟩, .string ⟨#[]⟩]), 2, 32) := by kernel_rfl
theorem LayP.start (w : World) (l : List Pair) (t : TypeId) : LayP (w.alloc (.cells (madeCells #[.string ⟨#[]⟩, .string ⟨#[]⟩] (l.length * 2)) t)) w.heap.size l 0 := by
  refine ⟨by simp, fun i hi => absurd hi (by omega), fun i _ hi => ⟨?_, ?_⟩, fun o => World.frozen?_alloc_at _ _ _ _ rfl⟩
  · have := madeCells_get #[.string ⟨#[]⟩, .string ⟨#[]⟩] (l.length * 2) (i * 2) (by omega)
    simp at this
    simp [this]
  · have := madeCells_get #[.string ⟨#[]⟩, .string ⟨#[]⟩] (l.length * 2) (i * 2 + 1) (by omega)
    have e : (i * 2 + 1) % 2 = 1 := by omega
    simp [e] at this
    simp [this]
theorem toAttrS_any (w : World) (a : Option Addr) (c : Nat) (l : List Pair) (hm : l.length ≤ 1048576) (hr : Attrs w a l) :
    Calls Tryz.prog 93 #[.slice a l.length c] w fun e w' => e = .returned (.slice (some ⟨w.heap.size, 0, none⟩) l.length l.length) ∧ Nw w w' ∧ LayP w' w.heap.size l l.length := by
  have HR : Hid (Attrs w a l) := hr
  clear hr
  have hmk := run_mk 85 133 _ 2 32 Tryz.underlying85 Tryz.info133 l.length (by omega) (by omega)
  have hcs : (Value.agg #[.string ⟨#[]⟩, .string ⟨#[]⟩]).cells = #[.string ⟨#[]⟩, .string ⟨#[]⟩] := rfl
  rw [hcs] at hmk
  go_enter Tryz.func93, Tryz.ntmps93
  go_wp2
  go_loopw [4] (fun i wr => ∃ k : Nat, k ≤ l.length ∧ i = .int .i64 k ∧ Nw w wr ∧ LayP wr w.heap.size l k) (fun i _ => l.length - (intOf i).toNat)
  case atStart => exact ⟨0, Nat.zero_le _, rfl, (Below.refl _ _).alloc (Nat.le_refl _) _, LayP.start w l _⟩
  case round =>
    obtain ⟨k, hk, rfl, hw, hlay⟩ := hrel
    clear hmk hcs
    by_cases hlt : k < l.length
    · rcases (HR.out.nw hw) with h | ⟨b, off, rfl, hbk, hc⟩
      · rw [h] at hlt; simp at hlt
      obtain ⟨q0, q1⟩ := hc k hlt
      clear hc
      have HW : Hid (Nw w wr) := hw
      obtain ⟨z0, z1⟩ := hlay.2.2.1 k (Nat.le_refl _) hlt
      have zf := hlay.2.2.2
      have HL : Hid _ := hlay
      clear hw hlay
      have hg : w.heap.size < wr.heap.size := HL.out.1
      go_wp2_with (go_at_call 124; refine (toAttr_any _ _ _).mono ?_; rintro e w' ⟨rfl, k1⟩; have y0 := ((Kp.cells k1).1 _ (k * 2) hg).trans z0; have y1 := ((Kp.cells k1).1 _ (k * 2 + 1) hg).trans z1; have yf : ∀ o, w'.frozen? ⟨w.heap.size, o, none⟩ = false := fun o => ((Kp.cells k1).2 _ o).trans (zf o); clear z0 z1 zf)
      go_roundw
      case rel =>
        refine ⟨k + 1, by omega, by go_num, ?_, LayP.step (LayP.nw HL.out k1.nw) hlt⟩
        have kb : Below w.heap.size w w' := HW.out.trans k1.nw
        exact (kb.setCell (Nat.le_refl _) _).setCell (Nat.le_refl _) _
      case measure => simp [intOf]; omega
    · have e : k = l.length := by omega
      subst e
      have HN : Hid (Nw w wr ∧ LayP wr w.heap.size l l.length) := ⟨hw, hlay⟩
      clear hw hlay
      go_wp2
      go_ret
      exact ⟨rfl, HN.out⟩

theorem eqAttrS_any (w : World) (a1 a2 : Option Addr) (c1 c2 : Nat) (l : List Pair) (hl : l.length ≤ 1048576) (h1 : Attrs w a1 l) (h2 : Attrs w a2 l) :
    Calls Tryz.prog 98 #[.slice a1 l.length c1, .slice a2 l.length c2] w fun e w' => e = .returned (.bool true) ∧ Nw w w' := by
  have H1 : Hid (Attrs w a1 l) := h1
  have H2 : Hid (Attrs w a2 l) := h2
  clear h1 h2
  go_enter Tryz.func98, Tryz.ntmps98
  go_wp2
  go_loopw [5] (fun i wr => ∃ k : Nat, k ≤ l.length ∧ i = .int .i64 k ∧ Nw w wr) (fun i _ => l.length - (intOf i).toNat)
  case atStart => exact ⟨0, Nat.zero_le _, rfl, Below.refl _ _⟩
  case round =>
    obtain ⟨k, hk, rfl, hw⟩ := hrel
    by_cases hlt : k < l.length
    · rcases (H1.out.nw hw) with h | ⟨b1, o1, rfl, hb1, hc1⟩
      · rw [h] at hlt; simp at hlt
      rcases (H2.out.nw hw) with h | ⟨b2, o2, rfl, hb2, hc2⟩
      · rw [h] at hlt; simp at hlt
      obtain ⟨q0, q1⟩ := hc1 k hlt
      obtain ⟨r0, r1⟩ := hc2 k hlt
      clear hc1 hc2 H1 H2
      have HW : Hid (Nw w wr) := hw
      clear hw
      generalize (pairAt l k).1 = s at *
      generalize (pairAt l k).2 = t at *
      go_wp2
      go_region_with (go_at_call 131; refine (eqAttr_any _ _ _).mono ?_; rintro e w' ⟨rfl, k1⟩)
      all_goals
        go_wp2
        go_roundw
        case rel => exact ⟨k + 1, by omega, by go_num, HW.out.trans k1.drw⟩
        case measure => simp [intOf]; omega
    · have HW : Hid (Nw w wr) := hw
      clear hw
      go_wp2
      go_ret
      exact ⟨rfl, HW.out⟩

/-- A node: its name, the number of what is around it, its attributes, its text. -/
structure ND where
  name : ByteArray
  up : Int
  attrs : List Pair
  text : ByteArray
def nodeV (n : ND) (a : Option Addr) (c : Nat) : Value := .agg #[.string n.name, .int .i64 n.up, .slice a n.attrs.length c, .string n.text]
def bulkN (n : ND) : Nat := n.name.size + (n.attrs.length + bulk2 n.attrs) + n.text.size
structure okND (n : ND) : Prop where
  name : n.name.size ≤ maxLen
  text : n.text.size ≤ maxLen
  up : -9223372036854775808 ≤ n.up ∧ n.up ≤ 9223372036854775807
  len : n.attrs.length ≤ maxLen
  attrs : okSizes n.attrs

set_option maxHeartbeats 1000000 in
theorem szNode_any (w : World) (n : ND) (a : Option Addr) (c : Nat) (left : Int) (h0 : 0 ≤ left) (h1 : left ≤ 1048576) (ho : okND n) (hr : Attrs w a n.attrs) :
    Calls Tryz.prog 48 #[nodeV n a c, .int .i64 left] w fun e w' => e = .returned (.int .i64 (if (bulkN n : Int) ≤ left then left - (bulkN n : Int) else -1)) ∧ Nw w w' := by
  obtain ⟨name, up, attrs, text⟩ := n
  obtain ⟨o1, o2, o3, o4, o5⟩ := ho
  unfold nodeV bulkN
  simp only at *
  have M : name.size ≤ 9223372036854775807 ∧ text.size ≤ 9223372036854775807 := by unfold maxLen at o1 o2; omega
  obtain ⟨m1, m2⟩ := M
  clear o1 o2 o3
  have HR : ∀ o, Hid (Attrs (w.alloc o) a attrs) := fun o => hr.nw ((Below.refl _ _).alloc (Nat.le_refl _) _)
  clear hr
  have H5 : Hid (okSizes attrs) := o5
  have H4 : Hid (attrs.length ≤ maxLen) := o4
  clear o4 o5
  by_cases c1 : (name.size : Int) ≤ left
  · by_cases c2 : ((attrs.length + bulk2 attrs : Nat) : Int) ≤ left - name.size
    · by_cases c3 : (text.size : Int) ≤ left - name.size - ((attrs.length + bulk2 attrs : Nat) : Int)
      · rw [if_pos (by omega)]
        generalize hB : attrs.length + bulk2 attrs = B at *
        go_enter Tryz.func48, Tryz.ntmps48
        go_wp2_with (go_at_call 87; refine (szAttrS_any _ a c attrs _ (by omega) (by omega) H4.out (HR _).out H5.out).mono ?_; rw [szA, hB, if_pos c2]; clear hB; rintro e w' ⟨rfl, k1⟩; obtain ⟨hc, hf⟩ := bcell k1)
        go_ret
        exact ⟨ret_int (by omega), Below.trans ((Below.refl _ _).alloc (Nat.le_refl _) _) (Below.mono k1 (by simp))⟩
      · rw [if_neg (by omega)]
        generalize hB : attrs.length + bulk2 attrs = B at *
        go_enter Tryz.func48, Tryz.ntmps48
        go_wp2_with (go_at_call 87; refine (szAttrS_any _ a c attrs _ (by omega) (by omega) H4.out (HR _).out H5.out).mono ?_; rw [szA, hB, if_pos c2]; clear hB; rintro e w' ⟨rfl, k1⟩; obtain ⟨hc, hf⟩ := bcell k1)
        go_ret
        exact ⟨rfl, Below.trans ((Below.refl _ _).alloc (Nat.le_refl _) _) (Below.mono k1 (by simp))⟩
    · rw [if_neg (by omega)]
      generalize hB : attrs.length + bulk2 attrs = B at *
      go_enter Tryz.func48, Tryz.ntmps48
      go_wp2_with (go_at_call 87; refine (szAttrS_any _ a c attrs _ (by omega) (by omega) H4.out (HR _).out H5.out).mono ?_; rw [szA, hB, if_neg c2]; clear hB; rintro e w' ⟨rfl, k1⟩; obtain ⟨hc, hf⟩ := bcell k1)
      go_ret
      exact ⟨rfl, Below.trans ((Below.refl _ _).alloc (Nat.le_refl _) _) (Below.mono k1 (by simp))⟩
  · rw [if_neg (by omega)]
    go_enter Tryz.func48, Tryz.ntmps48
    go_wp2
    go_ret
    exact ⟨rfl, (Below.refl _ _).alloc (Nat.le_refl _) _⟩

theorem toNode_any (w : World) (n : ND) (a : Option Addr) (c : Nat) (hl : n.attrs.length ≤ 1048576) (hr : Attrs w a n.attrs) :
    Calls Tryz.prog 51 #[nodeV n a c] w fun e w' => ∃ g, e = .returned (nodeV n (some ⟨g, 0, none⟩) n.attrs.length) ∧ Nw w w' ∧ w.heap.size ≤ g ∧ LayP w' g n.attrs n.attrs.length := by
  obtain ⟨name, up, attrs, text⟩ := n
  unfold nodeV
  simp only at *
  have HR : ∀ o1 o2 o3, Hid (Attrs (((w.alloc o1).alloc o2).alloc o3) a attrs) := fun o1 o2 o3 => hr.nw ((((Below.refl _ _).alloc (Nat.le_refl _) _).alloc (by simp) _).alloc (by simp; omega) _)
  clear hr
  go_enter Tryz.func51, Tryz.ntmps51
  go_wp2_with (go_at_call 93; refine (toAttrS_any _ a c attrs hl (HR _ _ _).out).mono ?_; rintro e w' ⟨rfl, k1, k2⟩; obtain ⟨hc, hf⟩ := bcell k1)
  have K0 : Below w.heap.size w w' := Below.trans ((((Below.refl _ _).alloc (Nat.le_refl _) _).alloc (by simp) _).alloc (by simp; omega) _) (Below.mono k1 (by simp; omega))
  have hz : w.heap.size + 1 + 1 + 1 < w'.heap.size := by have := k2.1; simpa using this
  have K2 : LayP w' (w.heap.size + 1 + 1 + 1) attrs attrs.length := by simpa using k2
  clear k1 k2
  refine bodyPost_ret (v := .agg #[.string name, .int .i64 up, .slice (some ⟨w.heap.size + 1 + 1 + 1, 0, none⟩) attrs.length attrs.length, .string text]) (by simp [results, Tryz.results51, go_sem, hc]) rfl ⟨w.heap.size + 1 + 1 + 1, rfl, ?_, by omega, ?_⟩
  · exact (((((K0.setCell (by simp; omega) _).setCell (by simp; omega) _).setCell (by simp) _).setCell (by simp) _).setCell (by simp) _).setCell (by simp) _
  · exact (((((K2.off _ _ _ (by omega)).off _ _ _ (by omega)).off _ _ _ (by omega)).off _ _ _ (by omega)).off _ _ _ (by omega)).off _ _ _ (by omega)

theorem eqNode_any (w : World) (n : ND) (a1 a2 : Option Addr) (c1 c2 : Nat) (hl : n.attrs.length ≤ 1048576) (h1 : Attrs w a1 n.attrs) (h2 : Attrs w a2 n.attrs) :
    Calls Tryz.prog 54 #[nodeV n a1 c1, nodeV n a2 c2] w fun e w' => e = .returned (.bool true) ∧ Nw w w' := by
  obtain ⟨name, up, attrs, text⟩ := n
  unfold nodeV
  simp only at *
  have H1 : ∀ o1 o2, Hid (Attrs ((w.alloc o1).alloc o2) a1 attrs) := fun o1 o2 => h1.nw (((Below.refl _ _).alloc (Nat.le_refl _) _).alloc (by simp) _)
  have H2 : ∀ o1 o2, Hid (Attrs ((w.alloc o1).alloc o2) a2 attrs) := fun o1 o2 => h2.nw (((Below.refl _ _).alloc (Nat.le_refl _) _).alloc (by simp) _)
  clear h1 h2
  go_enter Tryz.func54, Tryz.ntmps54
  go_wp2_with (go_at_call 98; refine (eqAttrS_any _ a1 a2 c1 c2 attrs hl (H1 _ _).out (H2 _ _).out).mono ?_; rintro e w' ⟨rfl, k1⟩; obtain ⟨hc, hf⟩ := bcell k1)
  go_ret
  exact ⟨rfl, Below.trans (((Below.refl _ _).alloc (Nat.le_refl _) _).alloc (by simp) _) (Below.mono k1 (by simp; omega))⟩
end Go.Proofs.YtnkmdmmlpidcmaaGreatDoor
namespace Go.Proofs.YtnkmdmmlpidcmaaGreatDoor
open Go.ChangeShapes Go.WideShapes Go.ChangeAt Go.RowKit
set_option linter.unusedVariables false

/-- No attribute ahead of k has the name. -/
def NoneTo (l : List Pair) (s : ByteArray) (k : Nat) : Prop := ∀ i, i < k → (pairAt l i).1 ≠ s
theorem NoneTo.step {l : List Pair} {s : ByteArray} {k : Nat} (h : NoneTo l s k) (e : (pairAt l k).1 ≠ s) : NoneTo l s (k + 1) := by
  intro i hi
  by_cases c : i = k
  · subst c; exact e
  · exact h i (by omega)
/-- The place of the first attribute of the name, where there is one. -/
def FirstAt (l : List Pair) (s : ByteArray) (k : Nat) : Prop := k < l.length ∧ NoneTo l s k ∧ (pairAt l k).1 = s
theorem firstAt_or (l : List Pair) (s : ByteArray) : NoneTo l s l.length ∨ ∃ k, FirstAt l s k := by
  have h : ∀ n, n ≤ l.length → NoneTo l s n ∨ ∃ k, FirstAt l s k := by
    intro n
    induction n with
    | zero => intro _; exact Or.inl fun i hi => absurd hi (by omega)
    | succ n ih =>
      intro hn
      rcases ih (by omega) with h | h
      · by_cases e : (pairAt l n).1 = s
        · exact Or.inr ⟨n, by omega, h, e⟩
        · exact Or.inl (h.step e)
      · exact Or.inr h
  exact h _ (Nat.le_refl _)

theorem attrPlace_yes (w : World) (a : Option Addr) (c : Nat) (l : List Pair) (s : ByteArray) (K : Nat) (hl : l.length ≤ 1048576) (hr : Attrs w a l) (hf : FirstAt l s K) :
    Calls Tryz.prog 127 #[.slice a l.length c, .string s] w fun e w' => e = .returned (.int .i64 K) ∧ Nw w w' := by
  obtain ⟨hK, hn, he⟩ := hf
  have HR : Hid (Attrs w a l) := hr
  have HN : Hid (NoneTo l s K) := hn
  have HE : Hid ((pairAt l K).1 = s) := he
  clear hr hn he
  go_enter Tryz.func127, Tryz.ntmps127
  go_wp2
  go_loopw [9] (fun i wr => ∃ k : Nat, k ≤ K ∧ i = .int .i64 k ∧ Nw w wr) (fun i _ => l.length - (intOf i).toNat)
  case atStart => exact ⟨0, Nat.zero_le _, rfl, Below.refl _ _⟩
  case round =>
    obtain ⟨k, hk, rfl, hw⟩ := hrel
    have hlt : k < l.length := by omega
    rcases (HR.out.nw hw) with h | ⟨b, o, rfl, hb, hc⟩
    · rw [h] at hlt; simp at hlt
    obtain ⟨q0, q1⟩ := hc k hlt
    have HW : Hid (Nw w wr) := hw
    clear hc HR hw
    by_cases e : k = K
    · subst e
      rw [HE.out] at q0
      clear HE HN
      go_wp2
      go_ret
      exact ⟨rfl, HW.out.trans (((Below.refl _ _).alloc (Nat.le_refl _) _))⟩
    · have hne := HN.out k (by omega)
      have hq : ((pairAt l k).1.toList == s.toList) = false := (Lib.bytes_beq_false_iff _ _).2 hne
      generalize (pairAt l k).1 = x at *
      generalize (pairAt l k).2 = y at *
      clear hne
      go_wp2
      go_roundw
      case rel => exact ⟨k + 1, by omega, by go_num, HW.out.trans (((Below.refl _ _).alloc (Nat.le_refl _) _))⟩
      case measure => simp [intOf]; omega

theorem attrPlace_no (w : World) (a : Option Addr) (c : Nat) (l : List Pair) (s : ByteArray) (hl : l.length ≤ 1048576) (hr : Attrs w a l) (hf : NoneTo l s l.length) :
    Calls Tryz.prog 127 #[.slice a l.length c, .string s] w fun e w' => e = .returned (.int .i64 (-1)) ∧ Nw w w' := by
  have HR : Hid (Attrs w a l) := hr
  have HN : Hid (NoneTo l s l.length) := hf
  clear hr hf
  go_enter Tryz.func127, Tryz.ntmps127
  go_wp2
  go_loopw [9] (fun i wr => ∃ k : Nat, k ≤ l.length ∧ i = .int .i64 k ∧ Nw w wr) (fun i _ => l.length - (intOf i).toNat)
  case atStart => exact ⟨0, Nat.zero_le _, rfl, Below.refl _ _⟩
  case round =>
    obtain ⟨k, hk, rfl, hw⟩ := hrel
    by_cases hlt : k < l.length
    · rcases (HR.out.nw hw) with h | ⟨b, o, rfl, hb, hc⟩
      · rw [h] at hlt; simp at hlt
      obtain ⟨q0, q1⟩ := hc k hlt
      have HW : Hid (Nw w wr) := hw
      clear hc HR hw
      have hq : ((pairAt l k).1.toList == s.toList) = false := (Lib.bytes_beq_false_iff _ _).2 (HN.out k hlt)
      generalize (pairAt l k).1 = x at *
      generalize (pairAt l k).2 = y at *
      go_wp2
      go_roundw
      case rel => exact ⟨k + 1, by omega, by go_num, HW.out.trans (((Below.refl _ _).alloc (Nat.le_refl _) _))⟩
      case measure => simp [intOf]; omega
    · have HW : Hid (Nw w wr) := hw
      clear hw
      go_wp2
      go_ret
      exact ⟨rfl, HW.out⟩

end Go.Proofs.YtnkmdmmlpidcmaaGreatDoor
namespace Go.Proofs.YtnkmdmmlpidcmaaGreatDoor
open Go.ChangeShapes Go.WideShapes Go.ChangeAt Go.RowKit
set_option linter.unusedVariables false

def noND : ND := ⟨⟨#[]⟩, 0, [], ⟨#[]⟩⟩
def nodeAt (l : List ND) (i : Nat) : ND := l.getD i noND
/-- The nodes l lie at a. -/
def Nodes (w : World) (a : Option Addr) (l : List ND) : Prop :=
  l = [] ∨ ∃ b off, a = some ⟨b, off, none⟩ ∧ b < w.heap.size ∧ ∀ i, i < l.length → w.cell? ⟨b, off + i * 4, none⟩ = some (.string (nodeAt l i).name) ∧ w.cell? ⟨b, off + i * 4 + 1, none⟩ = some (.int .i64 (nodeAt l i).up) ∧
    (∃ aa c, w.cell? ⟨b, off + i * 4 + 2, none⟩ = some (.slice aa (nodeAt l i).attrs.length c) ∧ (nodeAt l i).attrs.length ≤ c ∧ Attrs w aa (nodeAt l i).attrs) ∧ w.cell? ⟨b, off + i * 4 + 3, none⟩ = some (.string (nodeAt l i).text)
theorem Nodes.nw {w w' : World} {a : Option Addr} {l : List ND} (h : Nodes w a l) (k : Nw w w') : Nodes w' a l := by
  rcases h with h | ⟨b, off, rfl, hb, hc⟩
  · exact Or.inl h
  · refine Or.inr ⟨b, off, rfl, Nat.lt_of_lt_of_le hb (Below.size k), fun i hi => ?_⟩
    obtain ⟨h0, h1, ⟨aa, c, h2, hcap, h3⟩, h4⟩ := hc i hi
    exact ⟨((bcell k).1 _ _ hb).trans h0, ((bcell k).1 _ _ hb).trans h1, ⟨aa, c, ((bcell k).1 _ _ hb).trans h2, hcap, h3.nw k⟩, ((bcell k).1 _ _ hb).trans h4⟩

def upAt (l : List ND) (i : Nat) : Int := (nodeAt l i).up
/-- The ups of the nodes ahead of k lead upward. -/
def Ups (l : List ND) (k : Nat) : Prop := ∀ i, i < k → -1 ≤ upAt l i ∧ upAt l i < i
/-- From k the way up meets x (k itself, or a node around it). -/
def meets (l : List ND) (x : Int) : Nat → Int → Bool
  | 0, k => decide (0 ≤ k) && decide (k = x)
  | f + 1, k => if k < 0 then false else if k = x then true else meets l x f (upAt l k.toNat)
/-- How many nodes are on the way up from k, with it. -/
def deep (l : List ND) : Nat → Int → Nat
  | 0, _ => 0
  | f + 1, k => if k < 0 then 0 else deep l f (upAt l k.toNat) + 1
theorem meets_more (l : List ND) (x : Int) (n : Nat) (hu : Ups l n) : ∀ (f g : Nat) (k : Int), k < n → k < f → k < g → meets l x f k = meets l x g k := by
  intro f
  induction f with
  | zero =>
    intro g k hk h1 h2
    cases g with
    | zero => rfl
    | succ g => rw [meets, meets, if_pos (by omega)]; simp; omega
  | succ f ih =>
    intro g k hk h1 h2
    cases g with
    | zero => rw [meets, meets, if_pos (by omega)]; simp; omega
    | succ g =>
      rw [meets, meets]
      by_cases c : k < 0
      · rw [if_pos c, if_pos c]
      · rw [if_neg c, if_neg c]
        split
        · rfl
        · have h := hu k.toNat (by omega)
          exact ih g _ (by omega) (by omega) (by omega)
theorem deep_more (l : List ND) (n : Nat) (hu : Ups l n) : ∀ (f g : Nat) (k : Int), k < n → k < f → k < g → deep l f k = deep l g k := by
  intro f
  induction f with
  | zero =>
    intro g k hk h1 h2
    cases g with
    | zero => rfl
    | succ g => rw [deep, deep, if_pos (by omega)]
  | succ f ih =>
    intro g k hk h1 h2
    cases g with
    | zero => rw [deep, deep, if_pos (by omega)]
    | succ g =>
      rw [deep, deep]
      by_cases c : k < 0
      · rw [if_pos c, if_pos c]
      · rw [if_neg c, if_neg c]
        have h := hu k.toNat (by omega)
        rw [ih g _ (by omega) (by omega) (by omega)]
/-- By as much fuel as there are nodes. -/
def meetsN (l : List ND) (x k : Int) : Bool := meets l x (l.length + 1) k
def deepN (l : List ND) (k : Int) : Nat := deep l (l.length + 1) k
theorem meetsN_neg (l : List ND) (x k : Int) (h : k < 0) : meetsN l x k = false := by
  unfold meetsN; rw [meets, if_pos h]
theorem meetsN_same (l : List ND) (x : Int) (h : 0 ≤ x) : meetsN l x x = true := by
  unfold meetsN; rw [meets, if_neg (by omega), if_pos rfl]
theorem meetsN_up (l : List ND) (x k : Int) (n : Nat) (hu : Ups l n) (hn : n ≤ l.length) (h0 : 0 ≤ k) (h1 : k < n) (h2 : k ≠ x) : meetsN l x k = meetsN l x (upAt l k.toNat) := by
  have h := hu k.toNat (by omega)
  unfold meetsN
  rw [meets, if_neg (by omega), if_neg h2]
  exact meets_more l x n hu _ _ _ (by omega) (by omega) (by omega)
theorem deepN_neg (l : List ND) (k : Int) (h : k < 0) : deepN l k = 0 := by
  unfold deepN; rw [deep, if_pos h]
theorem deepN_up (l : List ND) (k : Int) (n : Nat) (hu : Ups l n) (hn : n ≤ l.length) (h0 : 0 ≤ k) (h1 : k < n) : deepN l k = deepN l (upAt l k.toNat) + 1 := by
  have h := hu k.toNat (by omega)
  unfold deepN
  rw [deep, if_neg (by omega), deep_more l n hu l.length (l.length + 1) _ (by omega) (by omega) (by omega)]
theorem meetsN_le (l : List ND) (x : Int) (n : Nat) (hu : Ups l n) (hn : n ≤ l.length) : ∀ (f : Nat) (k : Int), k < f → k < n → meetsN l x k = true → 0 ≤ x ∧ x ≤ k := by
  intro f
  induction f with
  | zero => intro k h _ hm; rw [meetsN_neg l x k (by omega)] at hm; simp at hm
  | succ f ih =>
    intro k h hk hm
    by_cases c : k < 0
    · rw [meetsN_neg l x k c] at hm; simp at hm
    · by_cases e : k = x
      · omega
      · have hh := hu k.toNat (by omega)
        rw [meetsN_up l x k n hu hn (by omega) hk e] at hm
        have := ih _ (by omega) (by omega) hm
        omega
theorem deepN_le (l : List ND) (n : Nat) (hu : Ups l n) (hn : n ≤ l.length) : ∀ (f : Nat) (k : Int), k < f → k < n → -1 ≤ k → (deepN l k : Int) ≤ k + 1 := by
  intro f
  induction f with
  | zero => intro k h _ _; rw [deepN_neg l k (by omega)]; omega
  | succ f ih =>
    intro k h hk hm
    by_cases c : k < 0
    · rw [deepN_neg l k c]; omega
    · have hh := hu k.toNat (by omega)
      rw [deepN_up l k n hu hn (by omega) hk]
      have := ih (upAt l k.toNat) (by omega) (by omega) (by omega)
      omega
end Go.Proofs.YtnkmdmmlpidcmaaGreatDoor
namespace Go.Proofs.YtnkmdmmlpidcmaaGreatDoor
open Go.ChangeShapes Go.WideShapes Go.ChangeAt Go.RowKit
set_option linter.unusedVariables false

def innerB (c : Int) : Bool := decide ((97 ≤ c ∧ c ≤ 122) ∨ (65 ≤ c ∧ c ≤ 90) ∨ c = 95 ∨ (48 ≤ c ∧ c ≤ 57) ∨ c = 45 ∨ c = 58 ∨ c = 46)
theorem sinner (w : World) (c : Int) (h0 : 0 ≤ c) (h1 : c ≤ 255) : Calls Tryz.prog 121 #[.int .u8 c] w fun e w' => e = .returned (.bool (innerB c)) ∧ w' = w := by
  by_cases hf : firstB c = true
  · go_enter Tryz.func121, Tryz.ntmps121
    go_wp2_with (first | (go_at_call 120; refine (sletter _ c h0 h1).mono ?_; rw [hf]; rintro e w' ⟨rfl, rfl⟩) | (go_at_call 146; refine (sdigit _ c h0 h1).mono ?_; rintro e w' ⟨rfl, rfl⟩))
    go_ret
    exact ⟨ret_bool (by simp [firstB] at hf; rw [Bool.eq_iff_iff]; simp [innerB]; omega), rfl⟩
  · have hf' : firstB c = false := by simpa using hf
    clear hf
    by_cases hd : digB c = true
    · go_enter Tryz.func121, Tryz.ntmps121
      go_wp2_with (first | (go_at_call 120; refine (sletter _ c h0 h1).mono ?_; rw [hf']; rintro e w' ⟨rfl, rfl⟩) | (go_at_call 146; refine (sdigit _ c h0 h1).mono ?_; rw [hd]; rintro e w' ⟨rfl, rfl⟩))
      go_ret
      exact ⟨ret_bool (by simp [digB] at hd; rw [Bool.eq_iff_iff]; simp [innerB]; omega), rfl⟩
    · have hd' : digB c = false := by simpa using hd
      clear hd
      go_enter Tryz.func121, Tryz.ntmps121
      go_wp2_with (first | (go_at_call 120; refine (sletter _ c h0 h1).mono ?_; rw [hf']; rintro e w' ⟨rfl, rfl⟩) | (go_at_call 146; refine (sdigit _ c h0 h1).mono ?_; rw [hd']; rintro e w' ⟨rfl, rfl⟩))
      all_goals
        go_ret
        exact ⟨ret_bool (by simp [digB] at hd'; simp [firstB] at hf'; rw [Bool.eq_iff_iff]; simp [innerB]; omega), rfl⟩
theorem iinner (w : World) (c : Int) (h0 : 0 ≤ c) (h1 : c ≤ 255) : Calls Tryz.prog 178 #[.int .u8 c] w fun e w' => e = .returned (.bool (innerB c)) ∧ w' = w := by
  by_cases hf : letB c = true
  · go_enter Tryz.func178, Tryz.ntmps178
    go_wp2_with (first | (go_at_call 161; refine (iletter _ c h0 h1).mono ?_; rw [hf]; rintro e w' ⟨rfl, rfl⟩) | (go_at_call 132; refine (idigit _ c h0 h1).mono ?_; rintro e w' ⟨rfl, rfl⟩))
    go_ret
    exact ⟨ret_bool (by simp [letB] at hf; rw [Bool.eq_iff_iff]; simp [innerB]; omega), rfl⟩
  · have hf' : letB c = false := by simpa using hf
    clear hf
    by_cases hd : digB c = true
    · go_enter Tryz.func178, Tryz.ntmps178
      go_wp2_with (first | (go_at_call 161; refine (iletter _ c h0 h1).mono ?_; rw [hf']; rintro e w' ⟨rfl, rfl⟩) | (go_at_call 132; refine (idigit _ c h0 h1).mono ?_; rw [hd]; rintro e w' ⟨rfl, rfl⟩))
      go_ret
      exact ⟨ret_bool (by simp [digB] at hd; rw [Bool.eq_iff_iff]; simp [innerB]; omega), rfl⟩
    · have hd' : digB c = false := by simpa using hd
      clear hd
      go_enter Tryz.func178, Tryz.ntmps178
      go_wp2_with (first | (go_at_call 161; refine (iletter _ c h0 h1).mono ?_; rw [hf']; rintro e w' ⟨rfl, rfl⟩) | (go_at_call 132; refine (idigit _ c h0 h1).mono ?_; rw [hd']; rintro e w' ⟨rfl, rfl⟩))
      all_goals
        go_ret
        exact ⟨ret_bool (by simp [digB] at hd'; simp [letB] at hf'; rw [Bool.eq_iff_iff]; simp [innerB]; omega), rfl⟩

def NameOk (s : ByteArray) : Prop := (1 ≤ s.size ∧ s.size ≤ 30) ∧ firstB (bt s 0) = true ∧ ∀ i, i < s.size → innerB (bt s i) = true
def nameB (s : ByteArray) : Bool := decide (1 ≤ s.size ∧ s.size ≤ 30) && (firstB (bt s 0) && (List.range s.size).all fun i => innerB (bt s i))
theorem nameB_iff (s : ByteArray) : nameB s = true ↔ NameOk s := by
  unfold nameB NameOk
  rw [Bool.and_eq_true, Bool.and_eq_true, decide_eq_true_eq, List.all_eq_true]
  simp only [List.mem_range]
theorem nameB_yes {s : ByteArray} (h : NameOk s) : nameB s = true := (nameB_iff s).2 h
theorem nameB_no {s : ByteArray} (h : ¬ NameOk s) : nameB s = false := by
  cases e : nameB s with
  | false => rfl
  | true => exact absurd ((nameB_iff s).1 e) h
theorem sname (w : World) (s : ByteArray) (hs : s.size ≤ 1048576) : Calls Tryz.prog 89 #[.string s] w fun e w' => e = .returned (.bool (nameB s)) ∧ w' = w := by
  by_cases hz : 1 ≤ s.size ∧ s.size ≤ 30
  · have hd : decide ((1 : Int) ≤ (s.size : Int) ∧ (s.size : Int) ≤ 30) = true := by simp; omega
    have h0 : 0 < s.size := by omega
    have hb := bt_of s 0 h0
    have hbd := bt_bd s 0
    rw [hb] at hbd
    by_cases hf : firstB (bt s 0) = true
    · have hf' : firstB (s[0].toNat : Int) = true := by rw [← hb]; exact hf
      have HP : Hid _ := hz
      clear hb
      go_enter Tryz.func89, Tryz.ntmps89
      go_wp2_with (first | (go_at_call 61; refine (in_any _ _ _ _).mono ?_; rw [hd]; rintro e w' ⟨rfl, rfl⟩) | (go_at_call 120; refine (sletter _ _ hbd.1 hbd.2).mono ?_; rw [hf']; rintro e w' ⟨rfl, rfl⟩))
      go_loop [3] (fun i => ∃ k : Nat, k ≤ s.size ∧ i = .int .i64 k ∧ ∀ j, j < k → innerB (bt s j) = true) (fun i => s.size - (intOf i).toNat)
      case atStart => exact ⟨0, Nat.zero_le _, rfl, fun j hj => absurd hj (by omega)⟩
      case round =>
        obtain ⟨k, hk, rfl, hin⟩ := hrel
        have HI : Hid (∀ j, j < k → innerB (bt s j) = true) := hin
        clear hin
        by_cases hlt : k < s.size
        · have hbk := bt_of s k hlt
          have hbdk := bt_bd s k
          rw [hbk] at hbdk
          by_cases hi : innerB (bt s k) = true
          · have hi' : innerB (s[k].toNat : Int) = true := by rw [← hbk]; exact hi
            have HJ : Hid (innerB (bt s k) = true) := hi
            clear hbk hi
            go_wp2_with (go_at_call 121; refine (sinner _ _ hbdk.1 hbdk.2).mono ?_; rw [hi']; rintro e w' ⟨rfl, rfl⟩)
            go_round
            case rel =>
              refine ⟨k + 1, by omega, by go_num, fun j hj => ?_⟩
              by_cases e : j = k
              · rw [e]; exact HJ.out
              · exact HI.out j (by omega)
            case measure => simp [intOf]; omega
          · have hi' : innerB (s[k].toNat : Int) = false := by rw [← hbk]; simpa using hi
            have HJ : Hid (¬ innerB (bt s k) = true) := hi
            clear hbk hi
            go_wp2_with (go_at_call 121; refine (sinner _ _ hbdk.1 hbdk.2).mono ?_; rw [hi']; rintro e w' ⟨rfl, rfl⟩)
            go_ret
            exact ⟨ret_bool (nameB_no fun h => HJ.out (h.2.2 k hlt)).symm, rfl⟩
        · have e : k = s.size := by omega
          subst e
          go_wp2
          go_ret
          exact ⟨ret_bool (nameB_yes ⟨HP.out, hf, HI.out⟩).symm, rfl⟩
    · have hf' : firstB (s[0].toNat : Int) = false := by rw [← hb]; simpa using hf
      have HN : Hid (nameB s = false) := nameB_no fun h => hf h.2.1
      clear hb hf
      go_enter Tryz.func89, Tryz.ntmps89
      go_wp2_with (first | (go_at_call 61; refine (in_any _ _ _ _).mono ?_; rw [hd]; rintro e w' ⟨rfl, rfl⟩) | (go_at_call 120; refine (sletter _ _ hbd.1 hbd.2).mono ?_; rw [hf']; rintro e w' ⟨rfl, rfl⟩))
      go_ret
      exact ⟨ret_bool HN.out.symm, rfl⟩
  · have hd : decide ((1 : Int) ≤ (s.size : Int) ∧ (s.size : Int) ≤ 30) = false := by simp; omega
    have HN : Hid (nameB s = false) := nameB_no fun h => hz h.1
    clear hz
    go_enter Tryz.func89, Tryz.ntmps89
    go_wp2_with (go_at_call 61; refine (in_any _ _ _ _).mono ?_; rw [hd]; rintro e w' ⟨rfl, rfl⟩)
    go_ret
    exact ⟨ret_bool HN.out.symm, rfl⟩
end Go.Proofs.YtnkmdmmlpidcmaaGreatDoor
