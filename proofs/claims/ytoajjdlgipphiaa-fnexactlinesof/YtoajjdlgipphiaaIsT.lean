/-
  Numbers that come in: what the laws' helpers do that measure a list of them and copy it; each theorem names its conditions.
-/
import Derived.Test.YtoajjdlgipphiaaHoldE
namespace Go.Proofs.Ytoajjdlgipphiaa
open Go.ChangeShapes Go.WideShapes Go.ChangeAt Go.RowKit
set_option linter.unusedVariables false

/-- The numbers l lie at a. -/
def Ints (w : World) (a : Option Addr) (l : List Int) : Prop :=
  l = [] ∨ ∃ b off, a = some ⟨b, off, none⟩ ∧ b < w.heap.size ∧ ∀ i, i < l.length → w.cell? ⟨b, off + i, none⟩ = some (.int .i64 (intAt l i))
theorem Ints.nw {w w' : World} {a : Option Addr} {l : List Int} (h : Ints w a l) (k : Nw w w') : Ints w' a l := by
  rcases h with h | ⟨b, off, rfl, hb, hc⟩
  · exact Or.inl h
  · exact Or.inr ⟨b, off, rfl, Nat.lt_of_lt_of_le hb (Below.size k), fun i hi => ((bcell k).1 _ _ hb).trans (hc i hi)⟩
theorem LayI.ints {w : World} {g : Nat} {l : List Int} (h : LayI w g l) : Ints w (some ⟨g, 0, none⟩) l := Or.inr ⟨g, 0, rfl, h.1, fun i hi => by rw [Nat.zero_add]; exact h.2.1 i hi⟩
theorem szIntS_any (w : World) (a : Option Addr) (n c : Nat) (left : Int) (h0 : 0 ≤ left) (h1 : left ≤ 1048576) (hm : n ≤ maxLen) :
    Calls Try.prog 65 #[.slice a n c, .int .i64 left] w fun e w' => e = .returned (.int .i64 (if (n : Int) ≤ left then left - (n : Int) else -1)) ∧ w' = w := by
  unfold maxLen at hm
  by_cases c1 : (n : Int) ≤ left
  · rw [if_pos c1]
    go_enter Try.func65, Try.ntmps65
    go_wp2
    go_ret
    exact ⟨rfl, rfl⟩
  · rw [if_neg c1]
    go_enter Try.func65, Try.ntmps65
    go_wp2
    go_ret
    exact ⟨rfl, rfl⟩
/-- A new list of which the first k numbers have been laid. -/
def LayIk (w : World) (g : Nat) (l : List Int) (k : Nat) : Prop :=
  g < w.heap.size ∧ (∀ i, i < k → w.cell? ⟨g, i, none⟩ = some (.int .i64 (intAt l i))) ∧ (∀ i, k ≤ i → i < l.length → w.cell? ⟨g, i, none⟩ = some (.int .i64 0)) ∧ ∀ o, w.frozen? ⟨g, o, none⟩ = false
theorem LayIk.step {w : World} {g k : Nat} {l : List Int} (h : LayIk w g l k) (hk : k < l.length) : LayIk (w.setCell ⟨g, k, none⟩ (.int .i64 (intAt l k))) g l (k + 1) := by
  obtain ⟨h2, h3, h4, h5⟩ := h
  have c0 := h4 k (Nat.le_refl _) hk
  have far : ∀ o, o ≠ k → (w.setCell ⟨g, k, none⟩ (.int .i64 (intAt l k))).cell? ⟨g, o, none⟩ = w.cell? ⟨g, o, none⟩ := fun o a => World.cell?_setCell_other _ _ _ _ (fun h => by injection h; omega)
  refine ⟨by simpa [World.setCell] using h2, fun m hm => ?_, fun m hm1 hm2 => ?_, fun o => by rw [World.frozen?_setCell]; exact h5 o⟩
  · by_cases e : m = k
    · subst e; exact World.cell?_setCell_same w ⟨g, m, none⟩ _ c0
    · rw [far _ e]; exact h3 m (by omega)
  · rw [far _ (by omega)]; exact h4 m (by omega) hm2
theorem info_int : (Try.prog.info? 3).map (fun i => (i.zero, i.size, i.bytes)) = some (some (.int .i64 0), 1, 8) := by kernel_rfl
theorem LayIk.start (w : World) (l : List Int) (t : TypeId) : LayIk (w.alloc (.cells (madeCells #[.int .i64 0] l.length) t)) w.heap.size l 0 := by
  refine ⟨by simp, fun i hi => absurd hi (by omega), fun i _ hi => ?_, fun o => World.frozen?_alloc_at _ _ _ _ rfl⟩
  have := madeCells_get #[.int .i64 0] l.length i (by omega)
  have e : i % 1 = 0 := Nat.mod_one i
  simp [e] at this
  simp [this]
set_option maxHeartbeats 1000000 in
theorem toIntS_any (w : World) (a : Option Addr) (c : Nat) (l : List Int) (hm : l.length ≤ 1048576) (hr : Ints w a l) :
    Calls Try.prog 8 #[.slice a l.length c] w fun e w' => e = .returned (.slice (some ⟨w.heap.size, 0, none⟩) l.length l.length) ∧ Nw w w' ∧ LayI w' w.heap.size l := by
  have HR : Hid (Ints w a l) := hr
  clear hr
  have hmk := run_mk 25 3 _ 1 8 Try.underlying25 info_int l.length (by omega) (by omega)
  have hcs : (Value.int .i64 0).cells = #[.int .i64 0] := rfl
  rw [hcs] at hmk
  go_enter Try.func8, Try.ntmps8
  go_wp2
  go_loopw [4] (fun i wr => ∃ k : Nat, k ≤ l.length ∧ i = .int .i64 k ∧ Nw w wr ∧ LayIk wr w.heap.size l k) (fun i _ => l.length - (intOf i).toNat)
  case atStart => exact ⟨0, Nat.zero_le _, rfl, (Below.refl _ _).alloc (Nat.le_refl _) _, LayIk.start w l _⟩
  case round =>
    obtain ⟨k, hk, rfl, hw, hlay⟩ := hrel
    clear hmk hcs
    by_cases hlt : k < l.length
    · rcases (HR.out.nw hw) with h | ⟨b, off, rfl, hbk, hc⟩
      · rw [h] at hlt; simp at hlt
      have q0 := hc k hlt
      clear hc
      have HW : Hid (Nw w wr) := hw
      have z0 := hlay.2.2.1 k (Nat.le_refl _) hlt
      have zf := hlay.2.2.2
      have HL : Hid (LayIk wr w.heap.size l k) := hlay
      clear hw hlay
      go_wp2
      go_roundw
      case rel =>
        exact ⟨k + 1, by omega, by go_num, Below.setCell HW.out (Nat.le_refl _) _, LayIk.step HL.out hlt⟩
      case measure => simp [intOf]; omega
    · have e : k = l.length := by omega
      subst e
      have HN : Hid (Nw w wr ∧ LayIk wr w.heap.size l l.length) := ⟨hw, hlay⟩
      clear hw hlay
      go_wp2
      go_ret
      exact ⟨rfl, HN.out.1, HN.out.2.1, HN.out.2.2.1, HN.out.2.2.2.2⟩
end Go.Proofs.Ytoajjdlgipphiaa
