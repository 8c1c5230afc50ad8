/-
  Rows of nodes: what the laws' helpers that measure them, copy them and hold two against each other do; each theorem names its conditions.
  Worlds in which only some blocks have been written; each theorem names its conditions.
  Marks laid into nodes: what the laws' helpers do; each theorem names its conditions.
  Nodes that came in, opened: what their reading says of the memory; each theorem names its conditions.
-/
import Derived.Test.YtnkmdmmlpidcmaaGreatDoorJAS
import Derived.Test.YtnkmdmmlpidcmaaGreatDoorJAA
import Derived.Test.YtnkmdmmlpidcmaaGreatDoorJAB
import Derived.Deep.SlicePairs
import Derived.Lib.SmallJoins
import Derived.ShutString
import Derived.ChangeOld
namespace Go.Proofs.YtnkmdmmlpidcmaaGreatDoor
open Go.ChangeShapes Go.WideShapes Go.ChangeAt Go.RowKit
set_option linter.unusedVariables false

def bulkL (l : List ND) : Nat := (l.map bulkN).sum
theorem bulkL_step (l : List ND) (k : Nat) (h : k < l.length) : bulkL (l.take (k + 1)) = bulkL (l.take k) + bulkN (nodeAt l k) := by
  unfold bulkL nodeAt
  have e : l.getD k noND = l[k] := by simp [h]
  rw [List.take_succ_eq_append_getElem h, List.map_append, List.sum_append, e]
  simp only [List.map_cons, List.map_nil, List.sum_cons, List.sum_nil]
  omega
theorem bulkL_le (l : List ND) (k : Nat) : bulkL (l.take k) ≤ bulkL l := by
  unfold bulkL
  conv => rhs; rw [← List.take_append_drop k l]
  rw [List.map_append, List.sum_append]
  omega
def szL (l : List ND) (left : Int) : Int := if ((l.length + bulkL l : Nat) : Int) ≤ left then left - ((l.length + bulkL l : Nat) : Int) else -1
def okAll (l : List ND) : Prop := ∀ i, i < l.length → okND (nodeAt l i)
set_option maxHeartbeats 1000000 in
theorem szNodeS_any (w : World) (a : Option Addr) (c : Nat) (l : List ND) (left : Int) (h0 : 0 ≤ left) (h1 : left ≤ 1048576) (hm : l.length ≤ maxLen) (hr : Nodes w a l) (hs : okAll l) :
    Calls Tryz.prog 19 #[.slice a l.length c, .int .i64 left] w fun e w' => e = .returned (.int .i64 (szL l left)) ∧ Nw w w' := by
  unfold maxLen at hm
  by_cases c1 : (l.length : Int) ≤ left
  · have HS : Hid (okAll l) := hs
    have HR : Hid (Nodes w a l) := hr
    clear hs hr
    go_enter Tryz.func19, Tryz.ntmps19
    go_wp2
    go_loopw [1, 5] (fun x i wr => ∃ k : Nat, k ≤ l.length ∧ i = .int .i64 k ∧ x = .int .i64 (left - l.length - (bulkL (l.take k) : Nat)) ∧ (bulkL (l.take k) : Int) ≤ left - l.length ∧ Nw w wr) (fun _ i _ => l.length - (intOf i).toNat)
    case atStart => exact ⟨0, Nat.zero_le _, rfl, by simp [bulkL], by simp [bulkL]; omega, Below.refl _ _⟩
    case round =>
      obtain ⟨k, hk, rfl, rfl, hb, hw⟩ := hrel
      by_cases hlt : k < l.length
      · have hs2 := bulkL_step l k hlt
        have hle := bulkL_le l (k + 1)
        have hz := HS.out k hlt
        rcases (HR.out.nw hw) with h | ⟨b, off, rfl, hbk, hc⟩
        · rw [h] at hlt; simp at hlt
        obtain ⟨q0, q1, ⟨qa, qc, q2, qcap, q4⟩, q3⟩ := hc k hlt
        have Q4 : Hid (Attrs wr qa (nodeAt l k).attrs) := q4
        have HZ : Hid (okND (nodeAt l k)) := hz
        have HW : Hid (Nw w wr) := hw
        clear hc hw q4 hz
        generalize bulkL (l.take k) = b1 at *
        have HE : Hid (bulkL (l.take (k + 1)) = b1 + bulkN (nodeAt l k)) := hs2
        rw [hs2] at hle
        clear hs2
        by_cases c2 : (bulkN (nodeAt l k) : Int) ≤ left - l.length - b1
        · go_wp2_with (go_at_call 48; refine Calls.mono (szNode_any _ (nodeAt l k) qa qc _ (by omega) (by omega) HZ.out Q4.out) ?_; rw [if_pos c2]; rintro e w' ⟨rfl, k1⟩)
          go_roundw
          case rel => exact ⟨k + 1, by omega, by go_num, by rw [HE.out]; go_num, by rw [HE.out]; omega, HW.out.trans k1⟩
          case measure => simp [intOf]; omega
        · have HX : Hid (szL l left = -1) := by show szL l left = -1; unfold szL; rw [if_neg (by omega)]
          go_wp2_with (go_at_call 48; refine Calls.mono (szNode_any _ (nodeAt l k) qa qc _ (by omega) (by omega) HZ.out Q4.out) ?_; rw [if_neg c2]; rintro e w' ⟨rfl, k1⟩)
          go_ret
          exact ⟨ret_int HX.out.symm, HW.out.trans k1⟩
      · have e : k = l.length := by omega
        subst e
        rw [List.take_length] at *
        have HX : Hid (szL l left = left - l.length - bulkL l) := by show szL l left = _; unfold szL; rw [if_pos (by omega)]; omega
        have HW : Hid (Nw w wr) := hw
        clear hw
        go_wp2
        go_ret
        exact ⟨ret_int HX.out.symm, HW.out⟩
  · have HX : Hid (szL l left = -1) := by show szL l left = -1; unfold szL; rw [if_neg (by omega)]
    clear hr hs
    go_enter Tryz.func19, Tryz.ntmps19
    go_wp2
    go_ret
    exact ⟨ret_int HX.out.symm, Below.refl _ _⟩

/-- A new row of which the first k nodes have been laid. -/
def LayN (w : World) (g : Nat) (l : List ND) (k : Nat) : Prop :=
  g < w.heap.size ∧ (∀ i, i < k → w.cell? ⟨g, i * 4, none⟩ = some (.string (nodeAt l i).name) ∧ w.cell? ⟨g, i * 4 + 1, none⟩ = some (.int .i64 (nodeAt l i).up) ∧
      (∃ ga, g < ga ∧ w.cell? ⟨g, i * 4 + 2, none⟩ = some (.slice (some ⟨ga, 0, none⟩) (nodeAt l i).attrs.length (nodeAt l i).attrs.length) ∧ LayP w ga (nodeAt l i).attrs (nodeAt l i).attrs.length) ∧ w.cell? ⟨g, i * 4 + 3, none⟩ = some (.string (nodeAt l i).text)) ∧
    (∀ i, k ≤ i → i < l.length → w.cell? ⟨g, i * 4, none⟩ = some (.string ⟨#[]⟩) ∧ w.cell? ⟨g, i * 4 + 1, none⟩ = some (.int .i64 0) ∧ w.cell? ⟨g, i * 4 + 2, none⟩ = some (.slice none 0 0) ∧ w.cell? ⟨g, i * 4 + 3, none⟩ = some (.string ⟨#[]⟩)) ∧ ∀ o, w.frozen? ⟨g, o, none⟩ = false
theorem LayN.nw {w w' : World} {g k : Nat} {l : List ND} (h : LayN w g l k) (q : Nw w w') : LayN w' g l k := by
  have C := fun o => (bcell q).1 g o h.1
  refine ⟨Nat.lt_of_lt_of_le h.1 (Below.size q), fun i hi => ?_, fun i hi hj => ?_, fun o => ((bcell q).2 g o h.1).trans (h.2.2.2 o)⟩
  · obtain ⟨h0, h1, ⟨ga, hg, h2, h3⟩, h4⟩ := h.2.1 i hi
    exact ⟨(C _).trans h0, (C _).trans h1, ⟨ga, hg, (C _).trans h2, h3.nw q⟩, (C _).trans h4⟩
  · obtain ⟨h0, h1, h2, h3⟩ := h.2.2.1 i hi hj
    exact ⟨(C _).trans h0, (C _).trans h1, (C _).trans h2, (C _).trans h3⟩
theorem LayN.nodes {w : World} {g : Nat} {l : List ND} (h : LayN w g l l.length) : Nodes w (some ⟨g, 0, none⟩) l := by
  refine Or.inr ⟨g, 0, rfl, h.1, fun i hi => ?_⟩
  obtain ⟨h0, h1, ⟨ga, hg, h2, h3⟩, h4⟩ := h.2.1 i hi
  refine ⟨by simpa using h0, by simpa using h1, ⟨some ⟨ga, 0, none⟩, (nodeAt l i).attrs.length, by simpa using h2, Nat.le_refl _, h3.attrs⟩, by simpa using h4⟩
theorem LayN.step {w w' : World} {g k ga : Nat} {l : List ND} (h : LayN w g l k) (q : Nw w w') (hk : k < l.length) (hg : w.heap.size ≤ ga) (hp : LayP w' ga (nodeAt l k).attrs (nodeAt l k).attrs.length) :
    LayN ((((w'.setCell ⟨g, k * 4, none⟩ (.string (nodeAt l k).name)).setCell ⟨g, k * 4 + 1, none⟩ (.int .i64 (nodeAt l k).up)).setCell ⟨g, k * 4 + 2, none⟩ (.slice (some ⟨ga, 0, none⟩) (nodeAt l k).attrs.length (nodeAt l k).attrs.length)).setCell ⟨g, k * 4 + 3, none⟩ (.string (nodeAt l k).text)) g l (k + 1) := by
  have hga : g < ga := Nat.lt_of_lt_of_le h.1 hg
  have h' := h.nw q
  obtain ⟨z0, z1, z2, z3⟩ := h'.2.2.1 k (Nat.le_refl _) hk
  have far : ∀ o, o ≠ k * 4 → o ≠ k * 4 + 1 → o ≠ k * 4 + 2 → o ≠ k * 4 + 3 → ((((w'.setCell ⟨g, k * 4, none⟩ (.string (nodeAt l k).name)).setCell ⟨g, k * 4 + 1, none⟩ (.int .i64 (nodeAt l k).up)).setCell ⟨g, k * 4 + 2, none⟩ (.slice (some ⟨ga, 0, none⟩) (nodeAt l k).attrs.length (nodeAt l k).attrs.length)).setCell ⟨g, k * 4 + 3, none⟩ (.string (nodeAt l k).text)).cell? ⟨g, o, none⟩ = w'.cell? ⟨g, o, none⟩ := by
    intro o a b c d
    rw [World.cell?_setCell_other _ _ _ _ (fun h => by injection h; omega), World.cell?_setCell_other _ _ _ _ (fun h => by injection h; omega), World.cell?_setCell_other _ _ _ _ (fun h => by injection h; omega), World.cell?_setCell_other _ _ _ _ (fun h => by injection h; omega)]
  refine ⟨by simpa [World.setCell] using h'.1, fun m hm => ?_, fun m hm1 hm2 => ?_, fun o => ?_⟩
  · by_cases e : m = k
    · subst e
      refine ⟨?_, ?_, ⟨ga, hga, ?_, (((hp.off _ _ _ (by omega)).off _ _ _ (by omega)).off _ _ _ (by omega)).off _ _ _ (by omega)⟩, ?_⟩
      · rw [World.cell?_setCell_other _ _ _ _ (fun h => by injection h; omega), World.cell?_setCell_other _ _ _ _ (fun h => by injection h; omega), World.cell?_setCell_other _ _ _ _ (fun h => by injection h; omega)]
        exact World.cell?_setCell_same w' ⟨g, m * 4, none⟩ _ z0
      · rw [World.cell?_setCell_other _ _ _ _ (fun h => by injection h; omega), World.cell?_setCell_other _ _ _ _ (fun h => by injection h; omega)]
        exact World.cell?_setCell_same _ ⟨g, m * 4 + 1, none⟩ _ ((World.cell?_setCell_other _ _ _ _ (fun h => by injection h; omega)).trans z1)
      · rw [World.cell?_setCell_other _ _ _ _ (fun h => by injection h; omega)]
        exact World.cell?_setCell_same _ ⟨g, m * 4 + 2, none⟩ _ ((World.cell?_setCell_other _ _ _ _ (fun h => by injection h; omega)).trans ((World.cell?_setCell_other _ _ _ _ (fun h => by injection h; omega)).trans z2))
      · exact World.cell?_setCell_same _ ⟨g, m * 4 + 3, none⟩ _ ((World.cell?_setCell_other _ _ _ _ (fun h => by injection h; omega)).trans ((World.cell?_setCell_other _ _ _ _ (fun h => by injection h; omega)).trans ((World.cell?_setCell_other _ _ _ _ (fun h => by injection h; omega)).trans z3)))
    · obtain ⟨h0, h1, ⟨gb, hgb, h2, h3⟩, h4⟩ := h'.2.1 m (by omega)
      rw [far _ (by omega) (by omega) (by omega) (by omega), far _ (by omega) (by omega) (by omega) (by omega), far _ (by omega) (by omega) (by omega) (by omega), far _ (by omega) (by omega) (by omega) (by omega)]
      exact ⟨h0, h1, ⟨gb, hgb, h2, (((h3.off _ _ _ (by omega)).off _ _ _ (by omega)).off _ _ _ (by omega)).off _ _ _ (by omega)⟩, h4⟩
  · rw [far _ (by omega) (by omega) (by omega) (by omega), far _ (by omega) (by omega) (by omega) (by omega), far _ (by omega) (by omega) (by omega) (by omega), far _ (by omega) (by omega) (by omega) (by omega)]
    exact h'.2.2.1 m (by omega) hm2
  · rw [World.frozen?_setCell, World.frozen?_setCell, World.frozen?_setCell, World.frozen?_setCell]; exact h'.2.2.2 o
theorem Tryz.info87 : (Tryz.prog.info? 87).map (fun i => (i.zero, i.size, i.bytes)) = some (some (.agg #[.string ⟨#[]⟩, .int .i64 0, .slice none 0 0, .string ⟨#[]⟩]), 4, 64) := by kernel_rfl
theorem LayN.start (w : World) (l : List ND) (t : TypeId) : LayN (w.alloc (.cells (madeCells #[.string ⟨#[]⟩, .int .i64 0, .slice none 0 0, .string ⟨#[]⟩] (l.length * 4)) t)) w.heap.size l 0 := by
  refine ⟨by simp, fun i hi => absurd hi (by omega), fun i _ hi => ⟨?_, ?_, ?_, ?_⟩, fun o => World.frozen?_alloc_at _ _ _ _ rfl⟩
  · have := madeCells_get #[.string ⟨#[]⟩, .int .i64 0, .slice none 0 0, .string ⟨#[]⟩] (l.length * 4) (i * 4) (by omega)
    simp at this
    simp [this]
  · have := madeCells_get #[.string ⟨#[]⟩, .int .i64 0, .slice none 0 0, .string ⟨#[]⟩] (l.length * 4) (i * 4 + 1) (by omega)
    have e : (i * 4 + 1) % 4 = 1 := by omega
    simp [e] at this
    simp [this]
  · have := madeCells_get #[.string ⟨#[]⟩, .int .i64 0, .slice none 0 0, .string ⟨#[]⟩] (l.length * 4) (i * 4 + 2) (by omega)
    have e : (i * 4 + 2) % 4 = 2 := by omega
    simp [e] at this
    simp [this]
  · have := madeCells_get #[.string ⟨#[]⟩, .int .i64 0, .slice none 0 0, .string ⟨#[]⟩] (l.length * 4) (i * 4 + 3) (by omega)
    have e : (i * 4 + 3) % 4 = 3 := by omega
    simp [e] at this
    simp [this]
def lenOk (l : List ND) : Prop := ∀ i, i < l.length → (nodeAt l i).attrs.length ≤ 1048576
set_option maxHeartbeats 2000000 in
theorem toNodeS_any (w : World) (a : Option Addr) (c : Nat) (l : List ND) (hm : l.length ≤ 1048576) (hla : lenOk l) (hr : Nodes w a l) :
    Calls Tryz.prog 21 #[.slice a l.length c] w fun e w' => e = .returned (.slice (some ⟨w.heap.size, 0, none⟩) l.length l.length) ∧ Nw w w' ∧ LayN w' w.heap.size l l.length := by
  have HR : Hid (Nodes w a l) := hr
  have HLA : Hid (lenOk l) := hla
  clear hr hla
  have hmk := run_mk 48 87 _ 4 64 Tryz.underlying48 Tryz.info87 l.length (by omega) (by omega)
  have hcs : (Value.agg #[.string ⟨#[]⟩, .int .i64 0, .slice none 0 0, .string ⟨#[]⟩]).cells = #[.string ⟨#[]⟩, .int .i64 0, .slice none 0 0, .string ⟨#[]⟩] := rfl
  rw [hcs] at hmk
  go_enter Tryz.func21, Tryz.ntmps21
  go_wp2
  go_loopw [4] (fun i wr => ∃ k : Nat, k ≤ l.length ∧ i = .int .i64 k ∧ Nw w wr ∧ LayN wr w.heap.size l k) (fun i _ => l.length - (intOf i).toNat)
  case atStart => exact ⟨0, Nat.zero_le _, rfl, (Below.refl _ _).alloc (Nat.le_refl _) _, LayN.start w l _⟩
  case round =>
    obtain ⟨k, hk, rfl, hw, hlay⟩ := hrel
    clear hmk hcs
    by_cases hlt : k < l.length
    · rcases (HR.out.nw hw) with h | ⟨b, off, rfl, hbk, hc⟩
      · rw [h] at hlt; simp at hlt
      obtain ⟨q0, q1, ⟨qa, qc, q2, qcap, q4⟩, q3⟩ := hc k hlt
      have Q4 : Hid (Attrs wr qa (nodeAt l k).attrs) := q4
      have hlk : (nodeAt l k).attrs.length ≤ 1048576 := HLA.out k hlt
      clear hc q4
      have HW : Hid (Nw w wr) := hw
      obtain ⟨z0, z1, z2, z3⟩ := hlay.2.2.1 k (Nat.le_refl _) hlt
      have zf := hlay.2.2.2
      have HL : Hid (LayN wr w.heap.size l k) := hlay
      have hg : w.heap.size < wr.heap.size := hlay.1
      clear hw hlay
      go_wp2_with (go_at_call 51; refine Calls.mono (toNode_any _ (nodeAt l k) qa qc hlk Q4.out) ?_; rintro e w' ⟨ga, rfl, k1, hga, hlp⟩; have y0 := ((bcell k1).1 _ (k * 4) hg).trans z0; have y1 := ((bcell k1).1 _ (k * 4 + 1) hg).trans z1; have y2 := ((bcell k1).1 _ (k * 4 + 2) hg).trans z2; have y3 := ((bcell k1).1 _ (k * 4 + 3) hg).trans z3; have yf : ∀ o, w'.frozen? ⟨w.heap.size, o, none⟩ = false := fun o => ((bcell k1).2 _ o hg).trans (zf o); have HLP : Hid (LayP w' ga (nodeAt l k).attrs (nodeAt l k).attrs.length) := hlp; clear z0 z1 z2 z3 zf hlp; simp only [nodeV])
      go_roundw
      case rel =>
        refine ⟨k + 1, by omega, by go_num, ?_, LayN.step HL.out k1 hlt hga HLP.out⟩
        have kb : Below w.heap.size w w' := HW.out.trans k1
        exact (((kb.setCell (Nat.le_refl _) _).setCell (Nat.le_refl _) _).setCell (Nat.le_refl _) _).setCell (Nat.le_refl _) _
      case measure => simp [intOf]; omega
    · have e : k = l.length := by omega
      subst e
      have HN : Hid (Nw w wr ∧ LayN wr w.heap.size l l.length) := ⟨hw, hlay⟩
      clear hw hlay
      go_wp2
      go_ret
      exact ⟨rfl, HN.out⟩
end Go.Proofs.YtnkmdmmlpidcmaaGreatDoor
namespace Go.Proofs.YtnkmdmmlpidcmaaGreatDoor
open Go.ChangeShapes Go.WideShapes Go.ChangeAt Go.RowKit
set_option linter.unusedVariables false

/-- Nothing that was there is written but in the blocks from lo on and below hi. -/
structure Mid (lo hi : Nat) (w w' : World) : Prop where
  os : w'.os = w.os
  tape : w'.tape = w.tape
  output : w'.output = w.output
  size : w.heap.size ≤ w'.heap.size
  block : ∀ k, k < w.heap.size → (k < lo ∨ hi ≤ k) → w'.heap[k]? = w.heap[k]?
theorem Mid.refl (lo hi : Nat) (w : World) : Mid lo hi w w := ⟨rfl, rfl, rfl, Nat.le_refl _, fun _ _ _ => rfl⟩
theorem Mid.nw {lo hi : Nat} {a b c : World} (h : Mid lo hi a b) (k : Nw b c) : Mid lo hi a c :=
  ⟨(Below.os k).trans h.os, (Below.tape k).trans h.tape, (Below.output k).trans h.output, Nat.le_trans h.size (Below.size k), fun i hi hb => (Below.block k i (Nat.lt_of_lt_of_le hi h.size)).trans (h.block i hi hb)⟩
theorem Mid.trans {lo hi : Nat} {a b c : World} (h : Mid lo hi a b) (k : Mid lo hi b c) : Mid lo hi a c :=
  ⟨k.os.trans h.os, k.tape.trans h.tape, k.output.trans h.output, Nat.le_trans h.size k.size, fun i hi hb => (k.block i (Nat.lt_of_lt_of_le hi h.size) hb).trans (h.block i hi hb)⟩
theorem Mid.set {lo hi : Nat} {a b : World} (h : Mid lo hi a b) {g : Nat} (h1 : lo ≤ g) (h2 : g < hi) (o : Nat) (v : Value) : Mid lo hi a (b.setCell ⟨g, o, none⟩ v) :=
  ⟨h.os, h.tape, h.output, by simpa [World.setCell] using h.size, fun i hi hb => by
    rw [Below.heap_setCell _ _ _ _ (by show i ≠ g; omega)]
    exact h.block i hi hb⟩
theorem Mid.below {lo hi : Nat} {a b : World} (h : Mid lo hi a b) (hl : lo ≤ a.heap.size) : Below lo a b :=
  ⟨h.os, h.tape, h.output, h.size, fun i hi => h.block i (by omega) (Or.inl hi)⟩
theorem Mid.cell {lo hi : Nat} {a b : World} (h : Mid lo hi a b) {g : Nat} (hg : g < a.heap.size) (hb : g < lo ∨ hi ≤ g) (o : Nat) : b.cell? ⟨g, o, none⟩ = a.cell? ⟨g, o, none⟩ :=
  World.cell?_of_block (w := a) (a := ⟨g, o, none⟩) (h.block g hg hb)
theorem Mid.frozen {lo hi : Nat} {a b : World} (h : Mid lo hi a b) {g : Nat} (hg : g < a.heap.size) (hb : g < lo ∨ hi ≤ g) (o : Nat) : b.frozen? ⟨g, o, none⟩ = a.frozen? ⟨g, o, none⟩ :=
  World.frozen?_of_block (w := a) (a := ⟨g, o, none⟩) (h.block g hg hb)
end Go.Proofs.YtnkmdmmlpidcmaaGreatDoor
namespace Go.Proofs.YtnkmdmmlpidcmaaGreatDoor
open Go.ChangeShapes Go.WideShapes Go.ChangeAt Go.RowKit
set_option linter.unusedVariables false

/-- A text lies in a cell. -/
def Tx (w : World) (g o : Nat) : Prop := ∃ s, w.cell? ⟨g, o, none⟩ = some (.string s)
theorem Tx.nw {w w' : World} {g o : Nat} (h : Tx w g o) (k : Nw w w') (hg : g < w.heap.size) : Tx w' g o := by
  obtain ⟨s, e⟩ := h
  exact ⟨s, ((bcell k).1 _ _ hg).trans e⟩
theorem Tx.set {w : World} {g o : Nat} (h : Tx w g o) (p : Addr) (t : ByteArray) : Tx (w.setCell p (.string t)) g o := by
  obtain ⟨s, e⟩ := h
  by_cases c : p = ⟨g, o, none⟩
  · subst c; exact ⟨t, World.cell?_setCell_same w _ _ e⟩
  · exact ⟨s, by rw [World.cell?_setCell_other _ _ _ _ c]; exact e⟩
/-- Pairs of texts that may be written. -/
def PairsW (w : World) (g n : Nat) : Prop := g < w.heap.size ∧ (∀ i, i < n → Tx w g (i * 2) ∧ Tx w g (i * 2 + 1)) ∧ ∀ o, w.frozen? ⟨g, o, none⟩ = false
theorem PairsW.nw {w w' : World} {g n : Nat} (h : PairsW w g n) (k : Nw w w') : PairsW w' g n :=
  ⟨Nat.lt_of_lt_of_le h.1 (Below.size k), fun i hi => ⟨(h.2.1 i hi).1.nw k h.1, (h.2.1 i hi).2.nw k h.1⟩, fun o => ((bcell k).2 _ _ h.1).trans (h.2.2 o)⟩
theorem PairsW.set {w : World} {g n : Nat} (h : PairsW w g n) (p : Addr) (t : ByteArray) : PairsW (w.setCell p (.string t)) g n :=
  ⟨by simpa [World.setCell] using h.1, fun i hi => ⟨(h.2.1 i hi).1.set p t, (h.2.1 i hi).2.set p t⟩, fun o => by rw [World.frozen?_setCell]; exact h.2.2 o⟩
theorem PairsW.far {w : World} {g n : Nat} (h : PairsW w g n) (b o : Nat) (hb : g ≠ b) (v : Value) : PairsW (w.setCell ⟨b, o, none⟩ v) g n := by
  have ne : ∀ x, (⟨b, o, none⟩ : Addr) ≠ ⟨g, x, none⟩ := fun x e => by injection e with e1 _; exact hb e1.symm
  refine ⟨by simpa [World.setCell] using h.1, fun i hi => ?_, fun o => by rw [World.frozen?_setCell]; exact h.2.2 o⟩
  obtain ⟨⟨s, e⟩, t, e2⟩ := h.2.1 i hi
  exact ⟨⟨s, by rw [World.cell?_setCell_other _ _ _ _ (ne _)]; exact e⟩, t, by rw [World.cell?_setCell_other _ _ _ _ (ne _)]; exact e2⟩
theorem LayP.pairsW {w : World} {g : Nat} {l : List Pair} (h : LayP w g l l.length) : PairsW w g l.length :=
  ⟨h.1, fun i hi => ⟨⟨_, (h.2.1 i hi).1⟩, _, (h.2.1 i hi).2⟩, h.2.2.2⟩
set_option maxHeartbeats 1000000 in
/-- Marks in pairs: only texts are written, into the block g. -/
theorem markA_any (w : World) (g n c K : Nat) (hn : n ≤ 1048576) (hK1 : 1 ≤ K) (hK : K ≤ 50000000) (h : PairsW w g n) (J : World → Prop) (hJ : J w) (hJn : ∀ a b, J a → Nw a b → J b) (hJs : ∀ a o t, J a → J (a.setCell ⟨g, o, none⟩ (.string t))) :
    Calls Tryz.prog 56 #[.slice (some ⟨g, 0, none⟩) n c, .int .i64 (K : Int)] w fun e w' => e = .returned (.int .i64 ((K + 2 * n : Nat) : Int)) ∧ J w' := by
  have HP : Hid (PairsW w g n) := h
  have H1 : Hid (J w) := hJ
  have H2 : Hid (∀ a b, J a → Nw a b → J b) := hJn
  have H3 : Hid (∀ a o t, J a → J (a.setCell ⟨g, o, none⟩ (.string t))) := hJs
  clear h hJ hJn hJs
  go_enter Tryz.func56, Tryz.ntmps56
  go_wp2
  go_loopw [1, 5] (fun x i wr => ∃ j : Nat, j ≤ n ∧ i = .int .i64 j ∧ x = .int .i64 ((K + 2 * j : Nat) : Int) ∧ PairsW wr g n ∧ J wr) (fun _ i _ => n - (intOf i).toNat)
  case atStart => exact ⟨0, Nat.zero_le _, rfl, rfl, HP.out, H1.out⟩
  case round =>
    obtain ⟨j, hj, rfl, rfl, hp, hjj⟩ := hrel
    have HQ : Hid (PairsW wr g n) := hp
    have HJ : Hid (J wr) := hjj
    clear hp hjj
    by_cases hlt : j < n
    · have hltI : (j : Int) < n := by omega
      go_wp2_with fail
      refine Calls.mono (markText_any _ (K + 2 * j) (by omega) (by omega)) ?_
      rintro e w1 ⟨rfl, k1⟩
      have Q1 : Hid (PairsW w1 g n) := HQ.out.nw k1
      have J1 : Hid (J w1) := H2.out _ _ HJ.out k1
      obtain ⟨s1, d1⟩ := (Q1.out.2.1 j hlt).1
      have f1 := Q1.out.2.2
      have Q2 : ∀ t, Hid (PairsW (w1.setCell ⟨g, j * 2, none⟩ (.string t)) g n) := fun t => Q1.out.set _ _
      have J2 : ∀ t, Hid (J (w1.setCell ⟨g, j * 2, none⟩ (.string t))) := fun t => H3.out _ _ _ J1.out
      clear k1
      generalize markT (K + 2 * j) = t1 at *
      have E2 : Hid (((K + 2 * j : Nat) : Int) + 1 = ((K + 2 * j + 1 : Nat) : Int)) := by show _ = _; omega
      go_wp2_with fail
      clear d1 f1
      have Q2' := Q2 t1
      have J2' := J2 t1
      clear Q2 J2
      generalize w1.setCell ⟨g, j * 2, none⟩ (.string t1) = w2 at *
      have hm := markText_any w2 (K + 2 * j + 1) (by omega) (by omega)
      rw [← E2.out] at hm
      refine Calls.mono hm ?_
      rintro e w3 ⟨rfl, k3⟩
      have Q3 : Hid (PairsW w3 g n) := Q2'.out.nw k3
      have J3 : Hid (J w3) := H2.out _ _ J2'.out k3
      obtain ⟨s3, d3⟩ := (Q3.out.2.1 j hlt).2
      have f3 := Q3.out.2.2
      have Q4 : ∀ t, Hid (PairsW (w3.setCell ⟨g, j * 2 + 1, none⟩ (.string t)) g n) := fun t => Q3.out.set _ _
      have J4 : ∀ t, Hid (J (w3.setCell ⟨g, j * 2 + 1, none⟩ (.string t))) := fun t => H3.out _ _ _ J3.out
      clear k3 hm
      generalize markT (K + 2 * j + 1) = t3 at *
      go_wp2
      go_roundw
      case rel => exact ⟨j + 1, by omega, by go_num, congrArg (Value.int .i64) (by omega), (Q4 _).out, (J4 _).out⟩
      case measure => simp [intOf]; omega
    · have e : j = n := by omega
      have hltI : ¬ (j : Int) < n := by omega
      subst e
      go_wp2
      go_ret
      exact ⟨rfl, HJ.out⟩
/-- Nodes that may be written, in the blocks from lo on and below hi. -/
structure NodesW (lo hi : Nat) (w : World) (g : Nat) (l : List ND) : Prop where
  lo1 : lo ≤ g
  hi1 : g < hi
  lt : g < w.heap.size
  free : ∀ o, w.frozen? ⟨g, o, none⟩ = false
  name : ∀ i, i < l.length → Tx w g (i * 4)
  up : ∀ i, i < l.length → ∃ x, w.cell? ⟨g, i * 4 + 1, none⟩ = some (.int .i64 x)
  attrs : ∀ i, i < l.length → ∃ ga, lo ≤ ga ∧ ga < hi ∧ ga ≠ g ∧ w.cell? ⟨g, i * 4 + 2, none⟩ = some (.slice (some ⟨ga, 0, none⟩) (nodeAt l i).attrs.length (nodeAt l i).attrs.length) ∧ PairsW w ga (nodeAt l i).attrs.length
  text : ∀ i, i < l.length → Tx w g (i * 4 + 3)
theorem NodesW.nw {lo hi : Nat} {w w' : World} {g : Nat} {l : List ND} (h : NodesW lo hi w g l) (k : Nw w w') : NodesW lo hi w' g l := by
  have C := fun o => (bcell k).1 g o h.lt
  refine ⟨h.lo1, h.hi1, Nat.lt_of_lt_of_le h.lt (Below.size k), fun o => ((bcell k).2 g o h.lt).trans (h.free o), fun i hi => (h.name i hi).nw k h.lt, fun i hi => ?_, fun i hi => ?_, fun i hi => (h.text i hi).nw k h.lt⟩
  · obtain ⟨x, e⟩ := h.up i hi
    exact ⟨x, (C _).trans e⟩
  · obtain ⟨ga, a1, a2, a3, a4, a5⟩ := h.attrs i hi
    exact ⟨ga, a1, a2, a3, (C _).trans a4, a5.nw k⟩
/-- A text is written into a cell that is neither an up nor attributes. -/
theorem NodesW.setT {lo hi : Nat} {w : World} {g : Nat} {l : List ND} (h : NodesW lo hi w g l) (o : Nat) (t : ByteArray) (ho : ∀ i, o ≠ i * 4 + 1 ∧ o ≠ i * 4 + 2) : NodesW lo hi (w.setCell ⟨g, o, none⟩ (.string t)) g l := by
  refine ⟨h.lo1, h.hi1, by simpa [World.setCell] using h.lt, fun o => by rw [World.frozen?_setCell]; exact h.free o, fun i hi => (h.name i hi).set _ _, fun i hi => ?_, fun i hi => ?_, fun i hi => (h.text i hi).set _ _⟩
  · obtain ⟨x, e⟩ := h.up i hi
    exact ⟨x, by rw [World.cell?_setCell_other _ _ _ _ (fun e => by injection e with _ e2; exact (ho i).1 e2)]; exact e⟩
  · obtain ⟨ga, a1, a2, a3, a4, a5⟩ := h.attrs i hi
    exact ⟨ga, a1, a2, a3, by rw [World.cell?_setCell_other _ _ _ _ (fun e => by injection e with _ e2; exact (ho i).2 e2)]; exact a4, a5.far g o a3 _⟩
/-- A number is written as an up. -/
theorem NodesW.setU {lo hi : Nat} {w : World} {g : Nat} {l : List ND} (h : NodesW lo hi w g l) (k : Nat) (x : Int) : NodesW lo hi (w.setCell ⟨g, k * 4 + 1, none⟩ (.int .i64 x)) g l := by
  have ne : ∀ o, o ≠ k * 4 + 1 → (w.setCell ⟨g, k * 4 + 1, none⟩ (.int .i64 x)).cell? ⟨g, o, none⟩ = w.cell? ⟨g, o, none⟩ := fun o ho => World.cell?_setCell_other _ _ _ _ (fun e => by injection e with _ e2; exact ho e2.symm)
  refine ⟨h.lo1, h.hi1, by simpa [World.setCell] using h.lt, fun o => by rw [World.frozen?_setCell]; exact h.free o, fun i hi => ?_, fun i hi => ?_, fun i hi => ?_, fun i hi => ?_⟩
  · obtain ⟨s, e⟩ := h.name i hi
    exact ⟨s, (ne _ (by omega)).trans e⟩
  · obtain ⟨y, e⟩ := h.up i hi
    by_cases c : i = k
    · subst c; exact ⟨x, World.cell?_setCell_same w _ _ e⟩
    · exact ⟨y, (ne _ (by omega)).trans e⟩
  · obtain ⟨ga, a1, a2, a3, a4, a5⟩ := h.attrs i hi
    exact ⟨ga, a1, a2, a3, (ne _ (by omega)).trans a4, a5.far g _ a3 _⟩
  · obtain ⟨s, e⟩ := h.text i hi
    exact ⟨s, (ne _ (by omega)).trans e⟩
/-- A text is written into another block. -/
theorem NodesW.setA {lo hi : Nat} {w : World} {g : Nat} {l : List ND} (h : NodesW lo hi w g l) (ga o : Nat) (hne : ga ≠ g) (t : ByteArray) : NodesW lo hi (w.setCell ⟨ga, o, none⟩ (.string t)) g l := by
  have ne : ∀ x, (w.setCell ⟨ga, o, none⟩ (.string t)).cell? ⟨g, x, none⟩ = w.cell? ⟨g, x, none⟩ := fun x => World.cell?_setCell_other _ _ _ _ (fun e => by injection e with e1 _; exact hne e1)
  refine ⟨h.lo1, h.hi1, by simpa [World.setCell] using h.lt, fun o => by rw [World.frozen?_setCell]; exact h.free o, fun i hi => (h.name i hi).set _ _, fun i hi => ?_, fun i hi => ?_, fun i hi => (h.text i hi).set _ _⟩
  · obtain ⟨x, e⟩ := h.up i hi
    exact ⟨x, (ne _).trans e⟩
  · obtain ⟨gb, a1, a2, a3, a4, a5⟩ := h.attrs i hi
    exact ⟨gb, a1, a2, a3, (ne _).trans a4, a5.set _ _⟩
theorem LayN.nodesW {w : World} {g hi : Nat} {l : List ND} (h : LayN w g l l.length) (hh : hi = w.heap.size) : NodesW g hi w g l := by
  subst hh
  refine ⟨Nat.le_refl _, h.1, h.1, h.2.2.2, fun i hi => ⟨_, (h.2.1 i hi).1⟩, fun i hi => ⟨_, (h.2.1 i hi).2.1⟩, fun i hi => ?_, fun i hi => ⟨_, (h.2.1 i hi).2.2.2⟩⟩
  obtain ⟨ga, a1, a2, a3⟩ := (h.2.1 i hi).2.2.1
  exact ⟨ga, Nat.le_of_lt a1, a3.1, by omega, a2, a3.pairsW⟩
/-- What holds while nodes are marked. -/
def MarkJ (lo hi : Nat) (w : World) (g : Nat) (l : List ND) (a : World) : Prop := NodesW lo hi a g l ∧ Mid lo hi w a
set_option maxHeartbeats 2000000 in
theorem markN_any (w : World) (lo hi g c : Nat) (l : List ND) (hl : l.length ≤ 1048576) (hb : bulkL l ≤ 1048576) (h : NodesW lo hi w g l) :
    Calls Tryz.prog 24 #[.slice (some ⟨g, 0, none⟩) l.length c, .int .i64 1] w fun e w' => (∃ X : Nat, X ≤ 10000000 ∧ e = .returned (.int .i64 (X : Int))) ∧ Mid lo hi w w' := by
  have H0 : Hid (MarkJ lo hi w g l w) := ⟨h, Mid.refl _ _ _⟩
  have HB : Hid (bulkL l ≤ 1048576) := hb
  clear h hb
  go_enter Tryz.func24, Tryz.ntmps24
  go_wp2
  go_loopw [1, 5] (fun x i wr => ∃ j X : Nat, j ≤ l.length ∧ i = .int .i64 j ∧ x = .int .i64 (X : Int) ∧ 1 ≤ X ∧ X ≤ 1 + 3 * j + 2 * bulkL (l.take j) ∧ MarkJ lo hi w g l wr) (fun _ i _ => l.length - (intOf i).toNat)
  case atStart => exact ⟨0, 1, Nat.zero_le _, rfl, rfl, Nat.le_refl _, by omega, H0.out⟩
  case round =>
    obtain ⟨j, X, hj, rfl, rfl, hx1, hx2, hm⟩ := hrel
    have HJ : Hid (MarkJ lo hi w g l wr) := hm
    clear hm
    have hb2 := Nat.le_trans (bulkL_le l j) HB.out
    by_cases hlt : j < l.length
    · have hltI : (j : Int) < l.length := by omega
      have hst := bulkL_step l j hlt
      have hb3 := Nat.le_trans (bulkL_le l (j + 1)) HB.out
      have hal : (nodeAt l j).attrs.length ≤ bulkN (nodeAt l j) := by unfold bulkN; omega
      have hx3 : X ≤ 9000000 := by omega
      have HX : Hid (X + 2 + 2 * (nodeAt l j).attrs.length + 1 ≤ 1 + 3 * (j + 1) + 2 * bulkL (l.take (j + 1))) := by show _ ≤ _; omega
      have hal2 : (nodeAt l j).attrs.length ≤ 1048576 := by omega
      clear hst hb3 hal hb2 hx2
      go_wp2_with fail
      refine Calls.mono (markText_any _ X hx1 (by omega)) ?_
      rintro e w1 ⟨rfl, k1⟩
      have J1 : Hid (MarkJ lo hi w g l w1) := ⟨HJ.out.1.nw k1, HJ.out.2.nw k1⟩
      clear k1
      obtain ⟨s1, d1⟩ := J1.out.1.name j hlt
      have f1 := J1.out.1.free
      generalize markT X = t1 at *
      have J2 : Hid (MarkJ lo hi w g l (w1.setCell ⟨g, j * 4, none⟩ (.string t1))) := ⟨J1.out.1.setT _ _ (fun i => by omega), J1.out.2.set J1.out.1.lo1 J1.out.1.hi1 _ _⟩
      obtain ⟨u2, d2⟩ := J2.out.1.up j hlt
      have f2 := J2.out.1.free
      have J3 : Hid (MarkJ lo hi w g l ((w1.setCell ⟨g, j * 4, none⟩ (.string t1)).setCell ⟨g, j * 4 + 1, none⟩ (.int .i64 ((X : Int) + 1)))) := ⟨J2.out.1.setU _ _, J2.out.2.set J2.out.1.lo1 J2.out.1.hi1 _ _⟩
      obtain ⟨ga, a1, a2, a3, d3, a5⟩ := J3.out.1.attrs j hlt
      have HP : Hid (PairsW ((w1.setCell ⟨g, j * 4, none⟩ (.string t1)).setCell ⟨g, j * 4 + 1, none⟩ (.int .i64 ((X : Int) + 1))) ga (nodeAt l j).attrs.length) := a5
      clear a5
      go_wp2_with fail
      clear d1 d2 d3 f1 f2
      generalize (w1.setCell ⟨g, j * 4, none⟩ (.string t1)).setCell ⟨g, j * 4 + 1, none⟩ (.int .i64 ((X : Int) + 1)) = w3 at *
      have hma := markA_any w3 ga (nodeAt l j).attrs.length (nodeAt l j).attrs.length (X + 2) hal2 (by omega) (by omega) HP.out (MarkJ lo hi w g l) J3.out (fun a b h k => ⟨h.1.nw k, h.2.nw k⟩) (fun a o t h => ⟨h.1.setA _ _ a3 _, h.2.set a1 a2 _ _⟩)
      rw [show ((X + 2 : Nat) : Int) = (X : Int) + 1 + 1 by omega] at hma
      obtain ⟨Y, hY⟩ : ∃ Y, Y = X + 2 + 2 * (nodeAt l j).attrs.length := ⟨_, rfl⟩
      have hY1 : 1 ≤ Y := by omega
      have hY2 : Y ≤ 12000000 := by omega
      rw [← hY] at hma HX
      refine Calls.mono hma ?_
      rintro e w4 ⟨rfl, j4⟩
      have J4 : Hid (MarkJ lo hi w g l w4) := j4
      clear hma j4 HP J3 J2 J1 hY
      go_wp2_with fail
      refine Calls.mono (markText_any _ Y hY1 (by omega)) ?_
      rintro e w5 ⟨rfl, k5⟩
      have J5 : Hid (MarkJ lo hi w g l w5) := ⟨J4.out.1.nw k5, J4.out.2.nw k5⟩
      clear k5
      obtain ⟨s5, d5⟩ := J5.out.1.text j hlt
      have f5 := J5.out.1.free
      generalize markT Y = t5 at *
      have J6 : Hid (MarkJ lo hi w g l (w5.setCell ⟨g, j * 4 + 3, none⟩ (.string t5))) := ⟨J5.out.1.setT _ _ (fun i => by omega), J5.out.2.set J5.out.1.lo1 J5.out.1.hi1 _ _⟩
      go_wp2
      go_roundw
      case rel => exact ⟨j + 1, Y + 1, by omega, by go_num, by go_num, by omega, HX.out, J6.out⟩
      case measure => simp [intOf]; omega
    · have e : j = l.length := by omega
      have hltI : ¬ (j : Int) < l.length := by omega
      subst e
      go_wp2
      go_ret
      exact ⟨⟨X, by omega, rfl⟩, HJ.out.2⟩
end Go.Proofs.YtnkmdmmlpidcmaaGreatDoor
namespace Go.Proofs.YtnkmdmmlpidcmaaGreatDoor
open Go.ChangeShapes Go.WideShapes Go.ChangeAt Go.RowKit Go.Deep
set_option linter.unusedVariables false

def sv : Value → ByteArray
  | .string s => s
  | _ => ⟨#[]⟩
section
variable {H : Type} {enc : TypeId × Value → H} {W : World} {base : Nat} {held : Bool}
theorem open_attrs {fuel : Nat} {v : Value} {x : DataW H × List MemPlace} (h : DataW.trod enc Tryz.prog W base (fun _ => true) held fuel 81 [v] = some x) :
    ∃ a l c, v = .slice a l.length c ∧ Attrs W a l ∧ okSizes l ∧ l.length ≤ maxLen := by
  rcases open_slice_pairs Tryz.underlying81 Tryz.underlying146 (by kernel_rfl) rfl rfl (by kernel_rfl) (by kernel_rfl) h with ⟨hcs, _⟩ | ⟨a, len, cap, m, n, V0, V1, D0, D1, P0, P1, hcs, _, hl, hm, hmm, _, hx⟩
  · simp at hcs
    exact ⟨none, [], 0, hcs, Or.inl rfl, fun i hi => absurd hi (by simp), by simp⟩
  · simp at hcs hmm
    subst hmm
    have key : ∀ i, i < m → ∃ s t, V0 i = .string s ∧ V1 i = .string t ∧ s.size ≤ maxLen ∧ t.size ≤ maxLen := by
      intro i hi
      obtain ⟨_, _, g0, g1⟩ := hx i hi
      obtain ⟨s, e0, _, hs⟩ := DataW.trod_string Tryz.underlying9 g0
      obtain ⟨t, e1, _, ht⟩ := DataW.trod_string Tryz.underlying9 g1
      simp at e0 e1
      exact ⟨s, t, e0, e1, hs, ht⟩
    refine ⟨some a, (List.range len).map fun i => (sv (V0 i), sv (V1 i)), m, by simpa using hcs, ?_, ?_, by simp; omega⟩
    · by_cases h0 : len = 0
      · subst h0; exact Or.inl rfl
      · have ea := addr_spot (show W.cell? (a.add 0) = some (V0 0) by simpa using (hx 0 (by omega)).1)
        refine Or.inr ⟨a.block, a.off, by rw [← ea], ?_, fun i hi => ?_⟩
        · have := (hx 0 (by omega)).1
          rw [ea, add_at] at this
          exact World.block_lt_of_cell? W ⟨a.block, a.off + 0 * 2, none⟩ this
        · have hi' : i < len := by simpa using hi
          obtain ⟨s, t, e0, e1, _, _⟩ := key i (by omega)
          obtain ⟨g0, g1, _, _⟩ := hx i (by omega)
          rw [ea, add_at] at g0 g1
          have ep : pairAt ((List.range len).map fun i => (sv (V0 i), sv (V1 i))) i = (s, t) := by simp [pairAt, hi', e0, e1, sv]
          rw [ep, g0, e0, Nat.add_assoc, g1, e1]
          exact ⟨rfl, rfl⟩
    · intro i hi
      have hi' : i < len := by simpa using hi
      obtain ⟨s, t, e0, e1, hs, ht⟩ := key i (by omega)
      have ep : pairAt ((List.range len).map fun i => (sv (V0 i), sv (V1 i))) i = (s, t) := by simp [pairAt, hi', e0, e1, sv]
      rw [ep]
      exact ⟨hs, ht⟩
theorem node_of {fuel : Nat} {v0 v1 v2 v3 : Value} {y0 y1 y2 y3 : DataW H × List MemPlace}
    (h0 : DataW.trod enc Tryz.prog W base (fun _ => true) held fuel 9 [v0] = some y0) (h1 : DataW.trod enc Tryz.prog W base (fun _ => true) held fuel 3 [v1] = some y1)
    (h2 : DataW.trod enc Tryz.prog W base (fun _ => true) held fuel 81 [v2] = some y2) (h3 : DataW.trod enc Tryz.prog W base (fun _ => true) held fuel 9 [v3] = some y3) :
    ∃ name up l text a c, v0 = .string name ∧ v1 = .int .i64 up ∧ v2 = .slice a l.length c ∧ v3 = .string text ∧ okND ⟨name, up, l, text⟩ ∧ Attrs W a l := by
  obtain ⟨s, e0, _, hs⟩ := DataW.trod_string Tryz.underlying9 h0
  obtain ⟨t, e3, _, ht⟩ := DataW.trod_string Tryz.underlying9 h3
  obtain ⟨n, e1, _, hn⟩ := DataW.trod_int Tryz.underlying3 h1
  obtain ⟨a, l, c, rfl, hat, hok, hlen⟩ := open_attrs h2
  simp at e0 e1 e3
  subst e0 e1 e3
  exact ⟨s, n, l, t, a, c, rfl, rfl, rfl, rfl, ⟨hs, ht, i64_bd hn, hlen, hok⟩, hat⟩
set_option maxRecDepth 100000 in
theorem open_node {r : Reach} {b0 : Nat} {v : Value} {d : DataW H} {p : List MemPlace} (hv : Value.okWide Tryz.prog W r b0 83 v) (h : DataW.Trod enc Tryz.prog W base (fun _ => true) held 83 v d p) :
    ∃ name up l text a c, v = .agg #[.string name, .int .i64 up, .slice a l.length c, .string text] ∧ okND ⟨name, up, l, text⟩ ∧ Attrs W a l := by
  obtain ⟨v0, v1, v2, v3, y0, y1, y2, y3, n, rfl, _, _, h0, h1, h2, h3⟩ := Joins.open_agg4 Tryz.underlying83 (by kernel_rfl) (by kernel_rfl) hv h
  obtain ⟨name, up, l, text, a, c, rfl, rfl, rfl, rfl, hok, hat⟩ := node_of h0 h1 h2 h3
  exact ⟨name, up, l, text, a, c, rfl, hok, hat⟩
end
end Go.Proofs.YtnkmdmmlpidcmaaGreatDoor
