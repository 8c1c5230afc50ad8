/-
  Parts of selectors and their classes in memory, and what the laws' helpers that measure them, copy them and hold two against each other do; each theorem names its conditions.
-/
import Derived.Test.YtnkmdmmlpidcmaaDoorMkl
namespace Go.Proofs.YtnkmdmmlpidcmaaDoor
open Go.ChangeShapes Go.WideShapes Go.ChangeAt Go.RowKit
set_option linter.unusedVariables false

def strAt (l : List ByteArray) (i : Nat) : ByteArray := l.getD i ⟨#[]⟩
/-- The texts l lie at a. -/
def Strs (w : World) (a : Option Addr) (l : List ByteArray) : Prop :=
  l = [] ∨ ∃ b off, a = some ⟨b, off, none⟩ ∧ b < w.heap.size ∧ ∀ i, i < l.length → w.cell? ⟨b, off + i, none⟩ = some (.string (strAt l i))
theorem Strs.nw {w w' : World} {a : Option Addr} {l : List ByteArray} (h : Strs w a l) (k : Nw w w') : Strs w' a l := by
  rcases h with h | ⟨b, off, rfl, hb, hc⟩
  · exact Or.inl h
  · exact Or.inr ⟨b, off, rfl, Nat.lt_of_lt_of_le hb (Below.size k), fun i hi => (Below.cell k (p := ⟨b, off + i, none⟩) hb).trans (hc i hi)⟩
def bulk1 (l : List ByteArray) : Nat := (l.map fun p => p.size).sum
theorem bulk1_step (l : List ByteArray) (k : Nat) (h : k < l.length) : bulk1 (l.take (k + 1)) = bulk1 (l.take k) + (strAt l k).size := by
  unfold bulk1 strAt
  have e : l.getD k ⟨#[]⟩ = l[k] := by simp [h]
  rw [List.take_succ_eq_append_getElem h, List.map_append, List.sum_append, e]
  simp only [List.map_cons, List.map_nil, List.sum_cons, List.sum_nil]
  omega
theorem bulk1_le (l : List ByteArray) (k : Nat) : bulk1 (l.take k) ≤ bulk1 l := by
  unfold bulk1
  conv => rhs; rw [← List.take_append_drop k l]
  rw [List.map_append, List.sum_append]
  omega
def szS (l : List ByteArray) (left : Int) : Int := if ((l.length + bulk1 l : Nat) : Int) ≤ left then left - ((l.length + bulk1 l : Nat) : Int) else -1
def okStrs (l : List ByteArray) : Prop := ∀ i, i < l.length → (strAt l i).size ≤ maxLen
set_option maxHeartbeats 1000000 in
theorem szStringS_any (w : World) (a : Option Addr) (c : Nat) (l : List ByteArray) (left : Int) (h0 : 0 ≤ left) (h1 : left ≤ 1048576) (hm : l.length ≤ maxLen) (hr : Strs w a l) (hs : okStrs l) :
    Calls Tryd.prog 157 #[.slice a l.length c, .int .i64 left] w fun e w' => e = .returned (.int .i64 (szS l left)) ∧ Nw w w' := by
  unfold maxLen at hm
  by_cases c1 : (l.length : Int) ≤ left
  · have HS : Hid (okStrs l) := hs
    have HR : Hid (Strs w a l) := hr
    clear hs hr
    go_enter Tryd.func157, Tryd.ntmps157
    go_wp2
    go_loopw [1, 5] (fun x i wr => ∃ k : Nat, k ≤ l.length ∧ i = .int .i64 k ∧ x = .int .i64 (left - l.length - (bulk1 (l.take k) : Nat)) ∧ (bulk1 (l.take k) : Int) ≤ left - l.length ∧ Nw w wr) (fun _ i _ => l.length - (intOf i).toNat)
    case atStart => exact ⟨0, Nat.zero_le _, rfl, by simp [bulk1], by simp [bulk1]; omega, Below.refl _ _⟩
    case round =>
      obtain ⟨k, hk, rfl, rfl, hb, hw⟩ := hrel
      by_cases hlt : k < l.length
      · have hs2 := bulk1_step l k hlt
        have hle := bulk1_le l (k + 1)
        have hz := HS.out k hlt
        unfold maxLen at hz
        rcases (HR.out.nw hw) with h | ⟨b, off, rfl, hbk, hc⟩
        · rw [h] at hlt; simp at hlt
        have q0 := hc k hlt
        clear hc
        have HW : Hid (Nw w wr) := hw
        clear hw
        generalize strAt l k = s at *
        generalize bulk1 (l.take k) = b1 at *
        have HE : Hid (bulk1 (l.take (k + 1)) = b1 + s.size) := hs2
        rw [hs2] at hle
        clear hs2
        by_cases c2 : (s.size : Int) ≤ left - l.length - b1
        · go_wp2
          go_roundw
          case rel => exact ⟨k + 1, by omega, by go_num, by rw [HE.out]; go_num, by rw [HE.out]; omega, HW.out⟩
          case measure => simp [intOf]; omega
        · have HX : Hid (szS l left = -1) := by show szS l left = -1; unfold szS; rw [if_neg (by omega)]
          go_wp2
          go_ret
          exact ⟨ret_int HX.out.symm, HW.out⟩
      · have e : k = l.length := by omega
        subst e
        rw [List.take_length] at *
        have HX : Hid (szS l left = left - l.length - bulk1 l) := by show szS l left = _; unfold szS; rw [if_pos (by omega)]; omega
        have HW : Hid (Nw w wr) := hw
        clear hw
        go_wp2
        go_ret
        exact ⟨ret_int HX.out.symm, HW.out⟩
  · have HX : Hid (szS l left = -1) := by show szS l left = -1; unfold szS; rw [if_neg (by omega)]
    clear hr hs
    go_enter Tryd.func157, Tryd.ntmps157
    go_wp2
    go_ret
    exact ⟨ret_int HX.out.symm, Below.refl _ _⟩

/-- A new list of which the first k texts have been laid. -/
def LayS (w : World) (g : Nat) (l : List ByteArray) (k : Nat) : Prop :=
  g < w.heap.size ∧ (∀ i, i < k → w.cell? ⟨g, i, none⟩ = some (.string (strAt l i))) ∧ (∀ i, k ≤ i → i < l.length → w.cell? ⟨g, i, none⟩ = some (.string ⟨#[]⟩)) ∧ ∀ o, w.frozen? ⟨g, o, none⟩ = false
theorem LayS.nw {w w' : World} {g k : Nat} {l : List ByteArray} (h : LayS w g l k) (q : Nw w w') : LayS w' g l k :=
  ⟨Nat.lt_of_lt_of_le h.1 (Below.size q), fun i hi => (Below.cell q (p := ⟨g, i, none⟩) h.1).trans (h.2.1 i hi), fun i hi hj => (Below.cell q (p := ⟨g, i, none⟩) h.1).trans (h.2.2.1 i hi hj), fun o => (Below.frozen q (p := ⟨g, o, none⟩) h.1).trans (h.2.2.2 o)⟩
theorem LayS.step {w : World} {g k : Nat} {l : List ByteArray} (h : LayS w g l k) (hk : k < l.length) : LayS (w.setCell ⟨g, k, none⟩ (.string (strAt l k))) g l (k + 1) := by
  obtain ⟨h2, h3, h4, h5⟩ := h
  have c0 := h4 k (Nat.le_refl _) hk
  have far : ∀ o, o ≠ k → (w.setCell ⟨g, k, none⟩ (.string (strAt l k))).cell? ⟨g, o, none⟩ = w.cell? ⟨g, o, none⟩ := by
    intro o a
    rw [World.cell?_setCell_other _ _ _ _ (fun h => by injection h; omega)]
  refine ⟨by simpa [World.setCell] using h2, fun m hm => ?_, fun m hm1 hm2 => ?_, fun o => ?_⟩
  · by_cases e : m = k
    · subst e
      exact World.cell?_setCell_same w ⟨g, m, none⟩ _ c0
    · rw [far _ (by omega)]; exact h3 m (by omega)
  · rw [far _ (by omega)]; exact h4 m (by omega) hm2
  · rw [World.frozen?_setCell]; exact h5 o
theorem LayS.off {w : World} {g k : Nat} {l : List ByteArray} (h : LayS w g l k) (b o : Nat) (v : Value) (hne : b ≠ g) : LayS (w.setCell ⟨b, o, none⟩ v) g l k := by
  have far : ∀ x, (w.setCell ⟨b, o, none⟩ v).cell? ⟨g, x, none⟩ = w.cell? ⟨g, x, none⟩ := fun x => World.cell?_setCell_other _ _ _ _ (fun h => by injection h; omega)
  refine ⟨by simpa [World.setCell] using h.1, fun m hm => ?_, fun m hm1 hm2 => ?_, fun x => ?_⟩
  · rw [far]; exact h.2.1 m hm
  · rw [far]; exact h.2.2.1 m hm1 hm2
  · rw [World.frozen?_setCell]; exact h.2.2.2 x
theorem LayS.strs {w : World} {g : Nat} {l : List ByteArray} (h : LayS w g l l.length) : Strs w (some ⟨g, 0, none⟩) l :=
  Or.inr ⟨g, 0, rfl, h.1, fun i hi => by simpa using h.2.1 i hi⟩
theorem Tryd.info9 : (Tryd.prog.info? 9).map (fun i => (i.zero, i.size, i.bytes)) = some (some (.string ⟨#[]⟩), 1, 16) := by kernel_rfl
theorem LayS.start (w : World) (l : List ByteArray) (t : TypeId) : LayS (w.alloc (.cells (madeCells #[.string ⟨#[]⟩] l.length) t)) w.heap.size l 0 := by
  refine ⟨by simp, fun i hi => absurd hi (by omega), fun i _ hi => ?_, fun o => World.frozen?_alloc_at _ _ _ _ rfl⟩
  have := madeCells_get #[.string ⟨#[]⟩] l.length i (by omega)
  have e : i % 1 = 0 := by omega
  simp [e] at this
  simp [this]
theorem toStringS_any (w : World) (a : Option Addr) (c : Nat) (l : List ByteArray) (hm : l.length ≤ 1048576) (hr : Strs w a l) :
    Calls Tryd.prog 158 #[.slice a l.length c] w fun e w' => e = .returned (.slice (some ⟨w.heap.size, 0, none⟩) l.length l.length) ∧ Nw w w' ∧ LayS w' w.heap.size l l.length := by
  have HR : Hid (Strs w a l) := hr
  clear hr
  have hmk := run_mk 52 9 _ 1 16 Tryd.underlying52 Tryd.info9 l.length (by omega) (by omega)
  have hcs : (Value.string ⟨#[]⟩).cells = #[.string ⟨#[]⟩] := rfl
  rw [hcs] at hmk
  go_enter Tryd.func158, Tryd.ntmps158
  go_wp2
  go_loopw [4] (fun i wr => ∃ k : Nat, k ≤ l.length ∧ i = .int .i64 k ∧ Nw w wr ∧ LayS wr w.heap.size l k) (fun i _ => l.length - (intOf i).toNat)
  case atStart => exact ⟨0, Nat.zero_le _, rfl, (Below.refl _ _).alloc (Nat.le_refl _) _, LayS.start w l _⟩
  case round =>
    obtain ⟨k, hk, rfl, hw, hlay⟩ := hrel
    clear hmk hcs
    by_cases hlt : k < l.length
    · rcases (HR.out.nw hw) with h | ⟨b, off, rfl, hbk, hc⟩
      · rw [h] at hlt; simp at hlt
      have q0 := hc k hlt
      clear hc
      have HW : Hid (Nw w wr) := hw
      have z0 := hlay.2.2.1 k (Nat.le_refl _) hlt
      have zf := hlay.2.2.2
      have HL : Hid _ := hlay
      clear hw hlay
      have hg : w.heap.size < wr.heap.size := HL.out.1
      go_wp2
      go_roundw
      case rel =>
        refine ⟨k + 1, by omega, by go_num, ?_, LayS.step HL.out hlt⟩
        have kb : Below w.heap.size w wr := HW.out
        exact kb.setCell (Nat.le_refl _) _
      case measure => simp [intOf]; omega
    · have e : k = l.length := by omega
      subst e
      have HN : Hid (Nw w wr ∧ LayS wr w.heap.size l l.length) := ⟨hw, hlay⟩
      clear hw hlay
      go_wp2
      go_ret
      exact ⟨rfl, HN.out⟩

theorem eqStringS_any (w : World) (a1 a2 : Option Addr) (c1 c2 : Nat) (l : List ByteArray) (hl : l.length ≤ 1048576) (h1 : Strs w a1 l) (h2 : Strs w a2 l) :
    Calls Tryd.prog 65 #[.slice a1 l.length c1, .slice a2 l.length c2] w fun e w' => e = .returned (.bool true) ∧ Nw w w' := by
  have H1 : Hid (Strs w a1 l) := h1
  have H2 : Hid (Strs w a2 l) := h2
  clear h1 h2
  go_enter Tryd.func65, Tryd.ntmps65
  go_wp2
  go_loopw [5] (fun i wr => ∃ k : Nat, k ≤ l.length ∧ i = .int .i64 k ∧ Nw w wr) (fun i _ => l.length - (intOf i).toNat)
  case atStart => exact ⟨0, Nat.zero_le _, rfl, Below.refl _ _⟩
  case round =>
    obtain ⟨k, hk, rfl, hw⟩ := hrel
    by_cases hlt : k < l.length
    · rcases (H1.out.nw hw) with h | ⟨b1, o1, rfl, hb1, hc1⟩
      · rw [h] at hlt; simp at hlt
      rcases (H2.out.nw hw) with h | ⟨b2, o2, rfl, hb2, hc2⟩
      · rw [h] at hlt; simp at hlt
      have q0 := hc1 k hlt
      have r0 := hc2 k hlt
      clear hc1 hc2 H1 H2
      have HW : Hid (Nw w wr) := hw
      clear hw
      generalize strAt l k = s at *
      go_wp2
      first
        | (go_region_with fail
           all_goals
             go_wp2
             go_roundw
             case rel => exact ⟨k + 1, by omega, by go_num, HW.out.trans ((Below.refl _ _).drew)⟩
             case measure => simp [intOf]; omega)
        | (go_roundw
           case rel => exact ⟨k + 1, by omega, by go_num, HW.out⟩
           case measure => simp [intOf]; omega)
    · have HW : Hid (Nw w wr) := hw
      clear hw
      go_wp2
      go_ret
      exact ⟨rfl, HW.out⟩

/-- A part: its type, its id, its classes. -/
structure PD where
  ty : ByteArray
  id : ByteArray
  cls : List ByteArray
def partV (p : PD) (a : Option Addr) (c : Nat) : Value := .agg #[.string p.ty, .string p.id, .slice a p.cls.length c]
def bulkP (p : PD) : Nat := p.ty.size + p.id.size + (p.cls.length + bulk1 p.cls)
structure okPD (p : PD) : Prop where
  ty : p.ty.size ≤ maxLen
  id : p.id.size ≤ maxLen
  len : p.cls.length ≤ maxLen
  cls : okStrs p.cls

set_option maxHeartbeats 1000000 in
theorem szPart_any (w : World) (n : PD) (a : Option Addr) (c : Nat) (left : Int) (h0 : 0 ≤ left) (h1 : left ≤ 1048576) (ho : okPD n) (hr : Strs w a n.cls) :
    Calls Tryd.prog 133 #[partV n a c, .int .i64 left] w fun e w' => e = .returned (.int .i64 (if (bulkP n : Int) ≤ left then left - (bulkP n : Int) else -1)) ∧ Nw w w' := by
  obtain ⟨ty, id, cls⟩ := n
  obtain ⟨o1, o2, o4, o5⟩ := ho
  unfold partV bulkP
  simp only at *
  have M : ty.size ≤ 9223372036854775807 ∧ id.size ≤ 9223372036854775807 := by unfold maxLen at o1 o2; omega
  obtain ⟨m1, m2⟩ := M
  clear o1 o2
  have HR : ∀ o, Hid (Strs (w.alloc o) a cls) := fun o => hr.nw ((Below.refl _ _).alloc (Nat.le_refl _) _)
  clear hr
  have H5 : Hid (okStrs cls) := o5
  have H4 : Hid (cls.length ≤ maxLen) := o4
  clear o4 o5
  by_cases c1 : (ty.size : Int) ≤ left
  · by_cases c3 : (id.size : Int) ≤ left - ty.size
    · by_cases c2 : ((cls.length + bulk1 cls : Nat) : Int) ≤ left - ty.size - id.size
      · rw [if_pos (by omega)]
        generalize hB : cls.length + bulk1 cls = B at *
        go_enter Tryd.func133, Tryd.ntmps133
        go_wp2_with (go_at_call 157; refine (szStringS_any _ a c cls _ (by omega) (by omega) H4.out (HR _).out H5.out).mono ?_; rw [szS, hB, if_pos c2]; clear hB; rintro e w' ⟨rfl, k1⟩; obtain ⟨hc, hf⟩ := bcell k1)
        go_ret
        exact ⟨ret_int (by omega), Below.trans ((Below.refl _ _).alloc (Nat.le_refl _) _) (Below.mono k1 (by simp))⟩
      · rw [if_neg (by omega)]
        generalize hB : cls.length + bulk1 cls = B at *
        go_enter Tryd.func133, Tryd.ntmps133
        go_wp2_with (go_at_call 157; refine (szStringS_any _ a c cls _ (by omega) (by omega) H4.out (HR _).out H5.out).mono ?_; rw [szS, hB, if_neg c2]; clear hB; rintro e w' ⟨rfl, k1⟩; obtain ⟨hc, hf⟩ := bcell k1)
        go_ret
        exact ⟨rfl, Below.trans ((Below.refl _ _).alloc (Nat.le_refl _) _) (Below.mono k1 (by simp))⟩
    · rw [if_neg (by omega)]
      go_enter Tryd.func133, Tryd.ntmps133
      go_wp2
      go_ret
      exact ⟨rfl, (Below.refl _ _).alloc (Nat.le_refl _) _⟩
  · rw [if_neg (by omega)]
    go_enter Tryd.func133, Tryd.ntmps133
    go_wp2
    go_ret
    exact ⟨rfl, (Below.refl _ _).alloc (Nat.le_refl _) _⟩

theorem toPart_any (w : World) (n : PD) (a : Option Addr) (c : Nat) (hl : n.cls.length ≤ 1048576) (hr : Strs w a n.cls) :
    Calls Tryd.prog 134 #[partV n a c] w fun e w' => ∃ g, e = .returned (partV n (some ⟨g, 0, none⟩) n.cls.length) ∧ Nw w w' ∧ w.heap.size ≤ g ∧ LayS w' g n.cls n.cls.length := by
  obtain ⟨ty, id, cls⟩ := n
  unfold partV
  simp only at *
  have HR : ∀ o1 o2 o3, Hid (Strs (((w.alloc o1).alloc o2).alloc o3) a cls) := fun o1 o2 o3 => hr.nw ((((Below.refl _ _).alloc (Nat.le_refl _) _).alloc (by simp) _).alloc (by simp; omega) _)
  clear hr
  go_enter Tryd.func134, Tryd.ntmps134
  go_wp2_with (go_at_call 158; refine (toStringS_any _ a c cls hl (HR _ _ _).out).mono ?_; rintro e w' ⟨rfl, k1, k2⟩; obtain ⟨hc, hf⟩ := bcell k1)
  have K0 : Below w.heap.size w w' := Below.trans ((((Below.refl _ _).alloc (Nat.le_refl _) _).alloc (by simp) _).alloc (by simp; omega) _) (Below.mono k1 (by simp; omega))
  have hz : w.heap.size + 1 + 1 + 1 < w'.heap.size := by have := k2.1; simpa using this
  have K2 : LayS w' (w.heap.size + 1 + 1 + 1) cls cls.length := by simpa using k2
  clear k1 k2
  refine bodyPost_ret (v := .agg #[.string ty, .string id, .slice (some ⟨w.heap.size + 1 + 1 + 1, 0, none⟩) cls.length cls.length]) (by simp [results, Tryd.results134, go_sem, hc]) rfl ⟨w.heap.size + 1 + 1 + 1, rfl, ?_, by omega, ?_⟩
  · exact ((((K0.setCell (by simp <;> omega) _).setCell (by simp <;> omega) _).setCell (by simp <;> omega) _).setCell (by simp <;> omega) _)
  · exact ((((K2.off _ _ _ (by omega)).off _ _ _ (by omega)).off _ _ _ (by omega)).off _ _ _ (by omega))

theorem eqPart_any (w : World) (n : PD) (a1 a2 : Option Addr) (c1 c2 : Nat) (hl : n.cls.length ≤ 1048576) (h1 : Strs w a1 n.cls) (h2 : Strs w a2 n.cls) :
    Calls Tryd.prog 35 #[partV n a1 c1, partV n a2 c2] w fun e w' => e = .returned (.bool true) ∧ Nw w w' := by
  obtain ⟨ty, id, cls⟩ := n
  unfold partV
  simp only at *
  have H1 : ∀ o1 o2, Hid (Strs ((w.alloc o1).alloc o2) a1 cls) := fun o1 o2 => h1.nw (((Below.refl _ _).alloc (Nat.le_refl _) _).alloc (by simp) _)
  have H2 : ∀ o1 o2, Hid (Strs ((w.alloc o1).alloc o2) a2 cls) := fun o1 o2 => h2.nw (((Below.refl _ _).alloc (Nat.le_refl _) _).alloc (by simp) _)
  clear h1 h2
  go_enter Tryd.func35, Tryd.ntmps35
  go_wp2_with (go_at_call 65; refine (eqStringS_any _ a1 a2 c1 c2 cls hl (H1 _ _).out (H2 _ _).out).mono ?_; rintro e w' ⟨rfl, k1⟩; obtain ⟨hc, hf⟩ := bcell k1)
  go_ret
  exact ⟨rfl, Below.trans (((Below.refl _ _).alloc (Nat.le_refl _) _).alloc (by simp) _) (Below.mono k1 (by simp; omega))⟩
end Go.Proofs.YtnkmdmmlpidcmaaDoor
