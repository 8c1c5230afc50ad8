/-
  Masks: what the laws' helpers do that mark one; each theorem names its conditions.
-/
import Derived.Test.YthlohbiocfeapaaMskT
namespace Go.Proofs.Ythlohbiocfeapaa
open Go.ChangeShapes Go.WideShapes Go.ChangeAt Go.RowKit
set_option linter.unusedVariables false

theorem markI_nil (w : World) (K : Nat) (hK2 : K ≤ 50000000) :
    Calls Try.prog 102 #[.slice none 0 0, .int .i64 (K : Int)] w fun e w' => e = .returned (.int .i64 (K : Int)) ∧ w' = w := by
  go_enter Try.func102, Try.ntmps102
  go_wp2
  go_loop [1, 5] (fun x i => x = .int .i64 (K : Int) ∧ i = .int .i64 0) (fun _ _ => 0)
  case atStart => exact ⟨rfl, rfl⟩
  case round =>
    obtain ⟨rfl, rfl⟩ := hrel
    go_wp2
    go_ret
    exact ⟨rfl, rfl⟩
/-- Numbers that may be written: nil, or in a block of their own. -/
def NumV (w : World) (v : Value) (l : List Int) : Prop := (v = .slice none 0 0 ∧ l = []) ∨ ∃ g c, v = .slice (some ⟨g, 0, none⟩) l.length c ∧ LayI w g l
theorem NumV.nw {w w' : World} {v : Value} {l : List Int} (h : NumV w v l) (k : Nw w w') : NumV w' v l := by
  rcases h with h | ⟨g, c, h1, h2⟩
  · exact Or.inl h
  · exact Or.inr ⟨g, c, h1, h2.nw k⟩
theorem NumV.row {w : World} {v : Value} {l : List Int} (h : NumV w v l) : RowI w v l := by
  rcases h with h | ⟨g, c, h1, h2⟩
  · exact Or.inl h
  · rw [h1]; exact h2.row
theorem NumV.own {w : World} {v : Value} {l : List Int} (h : NumV w v l) {b : Nat} (hb : v.ownBlock = some b) : b < w.heap.size := by
  rcases h with ⟨rfl, _⟩ | ⟨g, c, rfl, h2⟩
  · cases hb
  · have : g = b := by simpa [Value.ownBlock] using hb
    rw [← this]; exact h2.1
theorem Ins.num {w : World} {B : Nat} {v : Value} {l : List Int} (h : Ins w B v l) : NumV w v l := by
  rcases h.lay with h | ⟨g, c, h1, _, h3⟩
  · exact Or.inl h
  · exact Or.inr ⟨g, c, h1, h3⟩
theorem LayI.num {w : World} {g : Nat} {l : List Int} (h : LayI w g l) : NumV w (.slice (some ⟨g, 0, none⟩) l.length l.length) l := Or.inr ⟨g, _, rfl, h⟩
theorem LayI.grown {w w' : World} {g : Nat} {l : List Int} {r : Option Nat} (h : LayI w g l) (k : w.grownBy w' r) (hne : some g ≠ r) : LayI w' g l :=
  ⟨Nat.lt_of_lt_of_le h.1 k.size, fun i hi => (World.cell?_of_block (w := w) (a := ⟨g, i, none⟩) (k.block g h.1 hne)).trans (h.2.1 i hi), fun o => (World.frozen?_of_block (w := w) (a := ⟨g, o, none⟩) (k.block g h.1 hne)).trans (h.2.2 o)⟩
theorem NumV.grown {w w' : World} {v : Value} {l : List Int} {r : Option Nat} (h : NumV w v l) (k : w.grownBy w' r) (hne : ∀ b, v.ownBlock = some b → some b ≠ r) : NumV w' v l := by
  rcases h with h | ⟨g, c, h1, h2⟩
  · exact Or.inl h
  · exact Or.inr ⟨g, c, h1, h2.grown k (hne g (by rw [h1]; rfl))⟩
set_option maxHeartbeats 1000000 in
theorem markM_any (w : World) (p : MD) (v : Value) (l : List Int) (K : Nat) (hl : l.length ≤ 1048576) (hK : K ≤ 50000000) (h : NumV w v l) :
    Calls Try.prog 49 #[mskV p v, .int .i64 (K : Int)] w fun e w' => e = .returned (.int .i64 ((K + l.length : Nat) : Int)) ∧ w.grownBy w' v.ownBlock ∧ NumV w' v (mkL K l.length) := by
  obtain ⟨pw, ph⟩ := p
  unfold mskV
  simp only
  rcases h with ⟨rfl, rfl⟩ | ⟨g, c, rfl, h⟩
  · have HM : Hid _ := fun w => markI_nil w K hK
    go_enter Try.func49, Try.ntmps49
    go_wp2_with fail
    refine Calls.mono (HM.out _) ?_
    rintro e w1 ⟨rfl, rfl⟩
    go_wp2
    go_ret
    exact ⟨rfl, gr_alloc1 _, Or.inl ⟨rfl, rfl⟩⟩
  · have HM : Hid (∀ o, _) := fun o => markI_any (w.alloc o) g c K l hl hK (h.nw ((Below.refl _ _).alloc (Nat.le_refl _) _))
    have HG : Hid (g < w.heap.size) := h.1
    clear h
    generalize l.length = n at *
    generalize ((K + n : Nat) : Int) = Z at *
    go_enter Try.func49, Try.ntmps49
    go_wp2_with fail
    refine Calls.mono (HM.out _) ?_
    rintro e w1 ⟨rfl, k1, l1⟩
    have HK : Hid _ := k1
    have HL : Hid _ := l1
    clear k1 l1
    go_wp2
    go_ret
    exact ⟨rfl, gr_trans (gr_alloc1 _) HK.out, Or.inr ⟨g, c, by rw [mkL_len], HL.out⟩⟩
end Go.Proofs.Ythlohbiocfeapaa
