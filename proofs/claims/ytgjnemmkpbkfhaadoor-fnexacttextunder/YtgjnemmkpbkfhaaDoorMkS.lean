/-
  Rows of nodes: what the laws' helpers that measure them, copy them and hold two against each other do; each theorem names its conditions.
-/
import Derived.Test.YtgjnemmkpbkfhaaDoorMkNs
namespace Go.Proofs.YtgjnemmkpbkfhaaDoor
open Go.ChangeShapes Go.WideShapes Go.ChangeAt Go.RowKit
set_option linter.unusedVariables false

def bulkL (l : List ND) : Nat := (l.map bulkN).sum
theorem bulkL_step (l : List ND) (k : Nat) (h : k < l.length) : bulkL (l.take (k + 1)) = bulkL (l.take k) + bulkN (nodeAt l k) := by
  unfold bulkL nodeAt
  have e : l.getD k noND = l[k] := by simp [h]
  rw [List.take_succ_eq_append_getElem h, List.map_append, List.sum_append, e]
  simp only [List.map_cons, List.map_nil, List.sum_cons, List.sum_nil]
  omega
theorem bulkL_le (l : List ND) (k : Nat) : bulkL (l.take k) ≤ bulkL l := by
  unfold bulkL
  conv => rhs; rw [← List.take_append_drop k l]
  rw [List.map_append, List.sum_append]
  omega
def szL (l : List ND) (left : Int) : Int := if ((l.length + bulkL l : Nat) : Int) ≤ left then left - ((l.length + bulkL l : Nat) : Int) else -1
def okAll (l : List ND) : Prop := ∀ i, i < l.length → okND (nodeAt l i)
set_option maxHeartbeats 1000000 in
theorem szNodeS_any (w : World) (a : Option Addr) (c : Nat) (l : List ND) (left : Int) (h0 : 0 ≤ left) (h1 : left ≤ 1048576) (hm : l.length ≤ maxLen) (hr : Nodes w a l) (hs : okAll l) :
    Calls Tryd.prog 9 #[.slice a l.length c, .int .i64 left] w fun e w' => e = .returned (.int .i64 (szL l left)) ∧ Nw w w' := by
  unfold maxLen at hm
  by_cases c1 : (l.length : Int) ≤ left
  · have HS : Hid (okAll l) := hs
    have HR : Hid (Nodes w a l) := hr
    clear hs hr
    go_enter Tryd.func9, Tryd.ntmps9
    go_wp2
    go_loopw [1, 5] (fun x i wr => ∃ k : Nat, k ≤ l.length ∧ i = .int .i64 k ∧ x = .int .i64 (left - l.length - (bulkL (l.take k) : Nat)) ∧ (bulkL (l.take k) : Int) ≤ left - l.length ∧ Nw w wr) (fun _ i _ => l.length - (intOf i).toNat)
    case atStart => exact ⟨0, Nat.zero_le _, rfl, by simp [bulkL], by simp [bulkL]; omega, Below.refl _ _⟩
    case round =>
      obtain ⟨k, hk, rfl, rfl, hb, hw⟩ := hrel
      by_cases hlt : k < l.length
      · have hs2 := bulkL_step l k hlt
        have hle := bulkL_le l (k + 1)
        have hz := HS.out k hlt
        rcases (HR.out.nw hw) with h | ⟨b, off, rfl, hbk, hc⟩
        · rw [h] at hlt; simp at hlt
        obtain ⟨q0, q1, ⟨qa, qc, q2, qcap, q4⟩, q3⟩ := hc k hlt
        have Q4 : Hid (Attrs wr qa (nodeAt l k).attrs) := q4
        have HZ : Hid (okND (nodeAt l k)) := hz
        have HW : Hid (Nw w wr) := hw
        clear hc hw q4 hz
        generalize bulkL (l.take k) = b1 at *
        have HE : Hid (bulkL (l.take (k + 1)) = b1 + bulkN (nodeAt l k)) := hs2
        rw [hs2] at hle
        clear hs2
        by_cases c2 : (bulkN (nodeAt l k) : Int) ≤ left - l.length - b1
        · go_wp2_with (go_at_call 34; refine Calls.mono (szNode_any _ (nodeAt l k) qa qc _ (by omega) (by omega) HZ.out Q4.out) ?_; rw [if_pos c2]; rintro e w' ⟨rfl, k1⟩)
          go_roundw
          case rel => exact ⟨k + 1, by omega, by go_num, by rw [HE.out]; go_num, by rw [HE.out]; omega, HW.out.trans k1⟩
          case measure => simp [intOf]; omega
        · have HX : Hid (szL l left = -1) := by show szL l left = -1; unfold szL; rw [if_neg (by omega)]
          go_wp2_with (go_at_call 34; refine Calls.mono (szNode_any _ (nodeAt l k) qa qc _ (by omega) (by omega) HZ.out Q4.out) ?_; rw [if_neg c2]; rintro e w' ⟨rfl, k1⟩)
          go_ret
          exact ⟨ret_int HX.out.symm, HW.out.trans k1⟩
      · have e : k = l.length := by omega
        subst e
        rw [List.take_length] at *
        have HX : Hid (szL l left = left - l.length - bulkL l) := by show szL l left = _; unfold szL; rw [if_pos (by omega)]; omega
        have HW : Hid (Nw w wr) := hw
        clear hw
        go_wp2
        go_ret
        exact ⟨ret_int HX.out.symm, HW.out⟩
  · have HX : Hid (szL l left = -1) := by show szL l left = -1; unfold szL; rw [if_neg (by omega)]
    clear hr hs
    go_enter Tryd.func9, Tryd.ntmps9
    go_wp2
    go_ret
    exact ⟨ret_int HX.out.symm, Below.refl _ _⟩

/-- A new row of which the first k nodes have been laid. -/
def LayN (w : World) (g : Nat) (l : List ND) (k : Nat) : Prop :=
  g < w.heap.size ∧ (∀ i, i < k → w.cell? ⟨g, i * 4, none⟩ = some (.string (nodeAt l i).name) ∧ w.cell? ⟨g, i * 4 + 1, none⟩ = some (.int .i64 (nodeAt l i).up) ∧
      (∃ ga, g < ga ∧ w.cell? ⟨g, i * 4 + 2, none⟩ = some (.slice (some ⟨ga, 0, none⟩) (nodeAt l i).attrs.length (nodeAt l i).attrs.length) ∧ LayP w ga (nodeAt l i).attrs (nodeAt l i).attrs.length) ∧ w.cell? ⟨g, i * 4 + 3, none⟩ = some (.string (nodeAt l i).text)) ∧
    (∀ i, k ≤ i → i < l.length → w.cell? ⟨g, i * 4, none⟩ = some (.string ⟨#[]⟩) ∧ w.cell? ⟨g, i * 4 + 1, none⟩ = some (.int .i64 0) ∧ w.cell? ⟨g, i * 4 + 2, none⟩ = some (.slice none 0 0) ∧ w.cell? ⟨g, i * 4 + 3, none⟩ = some (.string ⟨#[]⟩)) ∧ ∀ o, w.frozen? ⟨g, o, none⟩ = false
theorem LayN.nw {w w' : World} {g k : Nat} {l : List ND} (h : LayN w g l k) (q : Nw w w') : LayN w' g l k := by
  have C := fun o => (bcell q).1 g o h.1
  refine ⟨Nat.lt_of_lt_of_le h.1 (Below.size q), fun i hi => ?_, fun i hi hj => ?_, fun o => ((bcell q).2 g o h.1).trans (h.2.2.2 o)⟩
  · obtain ⟨h0, h1, ⟨ga, hg, h2, h3⟩, h4⟩ := h.2.1 i hi
    exact ⟨(C _).trans h0, (C _).trans h1, ⟨ga, hg, (C _).trans h2, h3.nw q⟩, (C _).trans h4⟩
  · obtain ⟨h0, h1, h2, h3⟩ := h.2.2.1 i hi hj
    exact ⟨(C _).trans h0, (C _).trans h1, (C _).trans h2, (C _).trans h3⟩
theorem LayN.nodes {w : World} {g : Nat} {l : List ND} (h : LayN w g l l.length) : Nodes w (some ⟨g, 0, none⟩) l := by
  refine Or.inr ⟨g, 0, rfl, h.1, fun i hi => ?_⟩
  obtain ⟨h0, h1, ⟨ga, hg, h2, h3⟩, h4⟩ := h.2.1 i hi
  refine ⟨by simpa using h0, by simpa using h1, ⟨some ⟨ga, 0, none⟩, (nodeAt l i).attrs.length, by simpa using h2, Nat.le_refl _, h3.attrs⟩, by simpa using h4⟩
theorem LayN.step {w w' : World} {g k ga : Nat} {l : List ND} (h : LayN w g l k) (q : Nw w w') (hk : k < l.length) (hg : w.heap.size ≤ ga) (hp : LayP w' ga (nodeAt l k).attrs (nodeAt l k).attrs.length) :
    LayN ((((w'.setCell ⟨g, k * 4, none⟩ (.string (nodeAt l k).name)).setCell ⟨g, k * 4 + 1, none⟩ (.int .i64 (nodeAt l k).up)).setCell ⟨g, k * 4 + 2, none⟩ (.slice (some ⟨ga, 0, none⟩) (nodeAt l k).attrs.length (nodeAt l k).attrs.length)).setCell ⟨g, k * 4 + 3, none⟩ (.string (nodeAt l k).text)) g l (k + 1) := by
  have hga : g < ga := Nat.lt_of_lt_of_le h.1 hg
  have h' := h.nw q
  obtain ⟨z0, z1, z2, z3⟩ := h'.2.2.1 k (Nat.le_refl _) hk
  have far : ∀ o, o ≠ k * 4 → o ≠ k * 4 + 1 → o ≠ k * 4 + 2 → o ≠ k * 4 + 3 → ((((w'.setCell ⟨g, k * 4, none⟩ (.string (nodeAt l k).name)).setCell ⟨g, k * 4 + 1, none⟩ (.int .i64 (nodeAt l k).up)).setCell ⟨g, k * 4 + 2, none⟩ (.slice (some ⟨ga, 0, none⟩) (nodeAt l k).attrs.length (nodeAt l k).attrs.length)).setCell ⟨g, k * 4 + 3, none⟩ (.string (nodeAt l k).text)).cell? ⟨g, o, none⟩ = w'.cell? ⟨g, o, none⟩ := by
    intro o a b c d
    rw [World.cell?_setCell_other _ _ _ _ (fun h => by injection h; omega), World.cell?_setCell_other _ _ _ _ (fun h => by injection h; omega), World.cell?_setCell_other _ _ _ _ (fun h => by injection h; omega), World.cell?_setCell_other _ _ _ _ (fun h => by injection h; omega)]
  refine ⟨by simpa [World.setCell] using h'.1, fun m hm => ?_, fun m hm1 hm2 => ?_, fun o => ?_⟩
  · by_cases e : m = k
    · subst e
      refine ⟨?_, ?_, ⟨ga, hga, ?_, (((hp.off _ _ _ (by omega)).off _ _ _ (by omega)).off _ _ _ (by omega)).off _ _ _ (by omega)⟩, ?_⟩
      · rw [World.cell?_setCell_other _ _ _ _ (fun h => by injection h; omega), World.cell?_setCell_other _ _ _ _ (fun h => by injection h; omega), World.cell?_setCell_other _ _ _ _ (fun h => by injection h; omega)]
        exact World.cell?_setCell_same w' ⟨g, m * 4, none⟩ _ z0
      · rw [World.cell?_setCell_other _ _ _ _ (fun h => by injection h; omega), World.cell?_setCell_other _ _ _ _ (fun h => by injection h; omega)]
        exact World.cell?_setCell_same _ ⟨g, m * 4 + 1, none⟩ _ ((World.cell?_setCell_other _ _ _ _ (fun h => by injection h; omega)).trans z1)
      · rw [World.cell?_setCell_other _ _ _ _ (fun h => by injection h; omega)]
        exact World.cell?_setCell_same _ ⟨g, m * 4 + 2, none⟩ _ ((World.cell?_setCell_other _ _ _ _ (fun h => by injection h; omega)).trans ((World.cell?_setCell_other _ _ _ _ (fun h => by injection h; omega)).trans z2))
      · exact World.cell?_setCell_same _ ⟨g, m * 4 + 3, none⟩ _ ((World.cell?_setCell_other _ _ _ _ (fun h => by injection h; omega)).trans ((World.cell?_setCell_other _ _ _ _ (fun h => by injection h; omega)).trans ((World.cell?_setCell_other _ _ _ _ (fun h => by injection h; omega)).trans z3)))
    · obtain ⟨h0, h1, ⟨gb, hgb, h2, h3⟩, h4⟩ := h'.2.1 m (by omega)
      rw [far _ (by omega) (by omega) (by omega) (by omega), far _ (by omega) (by omega) (by omega) (by omega), far _ (by omega) (by omega) (by omega) (by omega), far _ (by omega) (by omega) (by omega) (by omega)]
      exact ⟨h0, h1, ⟨gb, hgb, h2, (((h3.off _ _ _ (by omega)).off _ _ _ (by omega)).off _ _ _ (by omega)).off _ _ _ (by omega)⟩, h4⟩
  · rw [far _ (by omega) (by omega) (by omega) (by omega), far _ (by omega) (by omega) (by omega) (by omega), far _ (by omega) (by omega) (by omega) (by omega), far _ (by omega) (by omega) (by omega) (by omega)]
    exact h'.2.2.1 m (by omega) hm2
  · rw [World.frozen?_setCell, World.frozen?_setCell, World.frozen?_setCell, World.frozen?_setCell]; exact h'.2.2.2 o
theorem Tryd.info63 : (Tryd.prog.info? 63).map (fun i => (i.zero, i.size, i.bytes)) = some (some (.agg #[.string ⟨#[]⟩, .int .i64 0, .slice none 0 0, .string ⟨#[]⟩]), 4, 64) := by kernel_rfl
theorem LayN.start (w : World) (l : List ND) (t : TypeId) : LayN (w.alloc (.cells (madeCells #[.string ⟨#[]⟩, .int .i64 0, .slice none 0 0, .string ⟨#[]⟩] (l.length * 4)) t)) w.heap.size l 0 := by
  refine ⟨by simp, fun i hi => absurd hi (by omega), fun i _ hi => ⟨?_, ?_, ?_, ?_⟩, fun o => World.frozen?_alloc_at _ _ _ _ rfl⟩
  · have := madeCells_get #[.string ⟨#[]⟩, .int .i64 0, .slice none 0 0, .string ⟨#[]⟩] (l.length * 4) (i * 4) (by omega)
    simp at this
    simp [this]
  · have := madeCells_get #[.string ⟨#[]⟩, .int .i64 0, .slice none 0 0, .string ⟨#[]⟩] (l.length * 4) (i * 4 + 1) (by omega)
    have e : (i * 4 + 1) % 4 = 1 := by omega
    simp [e] at this
    simp [this]
  · have := madeCells_get #[.string ⟨#[]⟩, .int .i64 0, .slice none 0 0, .string ⟨#[]⟩] (l.length * 4) (i * 4 + 2) (by omega)
    have e : (i * 4 + 2) % 4 = 2 := by omega
    simp [e] at this
    simp [this]
  · have := madeCells_get #[.string ⟨#[]⟩, .int .i64 0, .slice none 0 0, .string ⟨#[]⟩] (l.length * 4) (i * 4 + 3) (by omega)
    have e : (i * 4 + 3) % 4 = 3 := by omega
    simp [e] at this
    simp [this]
def lenOk (l : List ND) : Prop := ∀ i, i < l.length → (nodeAt l i).attrs.length ≤ 1048576
set_option maxHeartbeats 2000000 in
theorem toNodeS_any (w : World) (a : Option Addr) (c : Nat) (l : List ND) (hm : l.length ≤ 1048576) (hla : lenOk l) (hr : Nodes w a l) :
    Calls Tryd.prog 11 #[.slice a l.length c] w fun e w' => e = .returned (.slice (some ⟨w.heap.size, 0, none⟩) l.length l.length) ∧ Nw w w' ∧ LayN w' w.heap.size l l.length := by
  have HR : Hid (Nodes w a l) := hr
  have HLA : Hid (lenOk l) := hla
  clear hr hla
  have hmk := run_mk 26 63 _ 4 64 Tryd.underlying26 Tryd.info63 l.length (by omega) (by omega)
  have hcs : (Value.agg #[.string ⟨#[]⟩, .int .i64 0, .slice none 0 0, .string ⟨#[]⟩]).cells = #[.string ⟨#[]⟩, .int .i64 0, .slice none 0 0, .string ⟨#[]⟩] := rfl
  rw [hcs] at hmk
  go_enter Tryd.func11, Tryd.ntmps11
  go_wp2
  go_loopw [4] (fun i wr => ∃ k : Nat, k ≤ l.length ∧ i = .int .i64 k ∧ Nw w wr ∧ LayN wr w.heap.size l k) (fun i _ => l.length - (intOf i).toNat)
  case atStart => exact ⟨0, Nat.zero_le _, rfl, (Below.refl _ _).alloc (Nat.le_refl _) _, LayN.start w l _⟩
  case round =>
    obtain ⟨k, hk, rfl, hw, hlay⟩ := hrel
    clear hmk hcs
    by_cases hlt : k < l.length
    · rcases (HR.out.nw hw) with h | ⟨b, off, rfl, hbk, hc⟩
      · rw [h] at hlt; simp at hlt
      obtain ⟨q0, q1, ⟨qa, qc, q2, qcap, q4⟩, q3⟩ := hc k hlt
      have Q4 : Hid (Attrs wr qa (nodeAt l k).attrs) := q4
      have hlk : (nodeAt l k).attrs.length ≤ 1048576 := HLA.out k hlt
      clear hc q4
      have HW : Hid (Nw w wr) := hw
      obtain ⟨z0, z1, z2, z3⟩ := hlay.2.2.1 k (Nat.le_refl _) hlt
      have zf := hlay.2.2.2
      have HL : Hid (LayN wr w.heap.size l k) := hlay
      have hg : w.heap.size < wr.heap.size := hlay.1
      clear hw hlay
      go_wp2_with (go_at_call 37; refine Calls.mono (toNode_any _ (nodeAt l k) qa qc hlk Q4.out) ?_; rintro e w' ⟨ga, rfl, k1, hga, hlp⟩; have y0 := ((bcell k1).1 _ (k * 4) hg).trans z0; have y1 := ((bcell k1).1 _ (k * 4 + 1) hg).trans z1; have y2 := ((bcell k1).1 _ (k * 4 + 2) hg).trans z2; have y3 := ((bcell k1).1 _ (k * 4 + 3) hg).trans z3; have yf : ∀ o, w'.frozen? ⟨w.heap.size, o, none⟩ = false := fun o => ((bcell k1).2 _ o hg).trans (zf o); have HLP : Hid (LayP w' ga (nodeAt l k).attrs (nodeAt l k).attrs.length) := hlp; clear z0 z1 z2 z3 zf hlp; simp only [nodeV])
      go_roundw
      case rel =>
        refine ⟨k + 1, by omega, by go_num, ?_, LayN.step HL.out k1 hlt hga HLP.out⟩
        have kb : Below w.heap.size w w' := HW.out.trans k1
        exact (((kb.setCell (Nat.le_refl _) _).setCell (Nat.le_refl _) _).setCell (Nat.le_refl _) _).setCell (Nat.le_refl _) _
      case measure => simp [intOf]; omega
    · have e : k = l.length := by omega
      subst e
      have HN : Hid (Nw w wr ∧ LayN wr w.heap.size l l.length) := ⟨hw, hlay⟩
      clear hw hlay
      go_wp2
      go_ret
      exact ⟨rfl, HN.out⟩
end Go.Proofs.YtgjnemmkpbkfhaaDoor
