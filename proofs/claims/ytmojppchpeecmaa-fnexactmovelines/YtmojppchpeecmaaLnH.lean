/-
  What the laws' helpers do that hold two lines against each other, mark one and look for the marks; each theorem names its conditions.
-/
import Derived.Test.YtmojppchpeecmaaQs
import Derived.Test.YtmojppchpeecmaaIn
namespace Go.Proofs.Ytmojppchpeecmaa
open Go.ChangeShapes Go.WideShapes Go.ChangeAt Go.RowKit
set_option linter.unusedVariables false

/-- The points l are what v holds. -/
def RowP (w : World) (v : Value) (l : List Pnt) : Prop := ∃ a c, v = .slice a l.length c ∧ Pts w a l
theorem RowP.nw {w w' : World} {v : Value} {l : List Pnt} (h : RowP w v l) (k : Nw w w') : RowP w' v l := by
  obtain ⟨a, c, rfl, h2⟩ := h
  exact ⟨a, c, rfl, h2.nw k⟩
theorem OwnP.row {w : World} {B : Nat} {v : Value} {l : List Pnt} (h : OwnP w B v l) : RowP w v l := h.pts
/-- Behind marks in another block. -/
theorem RowP.grown {w w' : World} {v : Value} {l : List Pnt} {r : Option Nat} (h : RowP w v l) (k : w.grownBy w' r) (hne : v.ownBlock = none ∨ v.ownBlock ≠ r) : RowP w' v l := by
  obtain ⟨a, c, rfl, h2⟩ := h
  refine ⟨a, c, rfl, ?_⟩
  rcases h2 with h | ⟨b, off, rfl, hb, hc⟩
  · exact Or.inl h
  · have hne2 : some b ≠ r := by
      rcases hne with h | h
      · cases h
      · exact h
    refine Or.inr ⟨b, off, rfl, Nat.lt_of_lt_of_le hb k.size, fun i hi => ?_⟩
    have e := fun o => World.cell?_of_block (w := w) (w' := w') (a := ⟨b, o, none⟩) (k.block b hb hne2)
    exact ⟨(e _).trans (hc i hi).1, (e _).trans (hc i hi).2⟩
set_option maxHeartbeats 1000000 in
theorem eqLine_any (w : World) (v1 v2 : Value) (l : List Pnt) (cl : Bool) (hl : l.length ≤ 1048576) (h1 : RowP w v1 l) (h2 : RowP w v2 l) :
    Calls Try.prog 31 #[.agg #[v1, .bool cl], .agg #[v2, .bool cl]] w fun e w' => e = .returned (.bool true) ∧ Nw w w' := by
  obtain ⟨a1, c1, rfl, p1⟩ := h1
  obtain ⟨a2, c2, rfl, p2⟩ := h2
  have n1 : ∀ o1 o2, Nw w ((w.alloc o1).alloc o2) := fun o1 o2 => ((Below.refl _ _).alloc (Nat.le_refl _) _).alloc (by simp) _
  have P1 : Hid (∀ o1 o2, Pts ((w.alloc o1).alloc o2) a1 l) := fun o1 o2 => p1.nw (n1 o1 o2)
  have P2 : Hid (∀ o1 o2, Pts ((w.alloc o1).alloc o2) a2 l) := fun o1 o2 => p2.nw (n1 o1 o2)
  have hbb : (cl != cl) = false := by cases cl <;> rfl
  clear p1 p2
  go_enter Try.func31, Try.ntmps31
  go_wp2_with fail
  refine Calls.mono (eqPointS_any _ a1 a2 c1 c2 l hl (P1.out _ _) (P2.out _ _)) ?_
  rintro e w1 ⟨rfl, k1⟩
  have K1 : Hid (Nw w w1) := Nw.trans (n1 _ _) k1
  have hs : w.heap.size < ((w.alloc (.cells #[.slice a1 l.length c1, .bool cl] 55)).alloc (.cells #[.slice a2 l.length c2, .bool cl] 55)).heap.size := by simp; omega
  have hs2 : w.heap.size + 1 < ((w.alloc (.cells #[.slice a1 l.length c1, .bool cl] 55)).alloc (.cells #[.slice a2 l.length c2, .bool cl] 55)).heap.size := by simp
  have q1 := ((bcell k1).1 w.heap.size 1 hs).trans (by simp [World.cell?_alloc_past] : _ = some (.bool cl))
  have q2 := ((bcell k1).1 (w.heap.size + 1) 1 hs2).trans (by simp : _ = some (.bool cl))
  clear k1 hs hs2 n1
  go_wp2
  go_ret
  exact ⟨rfl, K1.out⟩
/-- A list that bears marks. -/
def Mkd (w : World) (v : Value) (n K : Nat) : Prop := (v = .slice none 0 0 ∧ n = 0) ∨ ∃ g c, v = .slice (some ⟨g, 0, none⟩) n c ∧ LayPt w g (mkP K n) n
theorem Mkd.nw {w w' : World} {v : Value} {n K : Nat} (h : Mkd w v n K) (k : Nw w w') : Mkd w' v n K := by
  rcases h with h | ⟨g, c, h1, h2⟩
  · exact Or.inl h
  · exact Or.inr ⟨g, c, h1, h2.nw k⟩
theorem gr_alloc {w : World} {r : Option Nat} (o : Obj) : w.grownBy (w.alloc o) r := ⟨rfl, rfl, rfl, by simp, fun i hi _ => Below.block ((Below.refl w.heap.size w).alloc (Nat.le_refl _) o) i hi⟩
set_option maxHeartbeats 1000000 in
theorem markLine_any (w : World) (B : Nat) (v : Value) (l : List Pnt) (cl : Bool) (K : Nat) (hl : l.length ≤ 1048576) (hK2 : K ≤ 40000000) (h : OwnP w B v l) :
    Calls Try.prog 32 #[.agg #[v, .bool cl], .int .i64 (K : Int)] w fun e w' => e = .returned (.int .i64 ((K + 2 * l.length : Nat) : Int)) ∧ w.grownBy w' v.ownBlock ∧ Mkd w' v l.length K := by
  have n1 : ∀ o1, Nw w (w.alloc o1) := fun o1 => (Below.refl _ _).alloc (Nat.le_refl _) _
  rcases h.lay with ⟨rfl, rfl⟩ | ⟨g, c, rfl, hg, hlay⟩
  · go_enter Try.func32, Try.ntmps32
    go_wp2_with fail
    refine Calls.mono (markPt_nil _ K (by omega)) ?_
    rintro e w1 ⟨rfl, rfl⟩
    go_wp2
    go_ret
    exact ⟨rfl, gr_alloc _, Or.inl ⟨rfl, rfl⟩⟩
  · have HA : Hid (∀ o, AnyPt (w.alloc o) g l.length) := fun o => (hlay.nw (n1 o)).any
    have HK : Hid (K + 2 * l.length ≤ 60000000) := by show _ ≤ _; omega
    clear hlay h
    go_enter Try.func32, Try.ntmps32
    go_wp2_with fail
    refine Calls.mono (markPt_any _ g c K l.length hl (by omega) (HA.out _)) ?_
    rintro e w1 ⟨rfl, g1, l1⟩
    have G1 : Hid (w.grownBy w1 (some g)) := World.grownBy.trans (gr_alloc _) g1
    have L1 : Hid _ := l1
    clear g1 l1 HA
    go_wp2
    go_ret
    exact ⟨rfl, G1.out, Or.inr ⟨g, c, rfl, L1.out⟩⟩
set_option maxHeartbeats 1000000 in
theorem heldLine_any (w : World) (v : Value) (n : Nat) (cl : Bool) (K : Nat) (hl : n ≤ 1048576) (hK2 : K ≤ 40000000) (h : Mkd w v n K) :
    Calls Try.prog 33 #[.agg #[v, .bool cl], .int .i64 (K : Int)] w fun e w' => e = .returned (.int .i64 ((K + 2 * n : Nat) : Int)) ∧ Nw w w' := by
  have n1 : ∀ o1, Nw w (w.alloc o1) := fun o1 => (Below.refl _ _).alloc (Nat.le_refl _) _
  rcases h with ⟨rfl, rfl⟩ | ⟨g, c, rfl, hlay⟩
  · go_enter Try.func33, Try.ntmps33
    go_wp2_with fail
    refine Calls.mono (heldPt_nil _ K (by omega)) ?_
    rintro e w1 ⟨rfl, rfl⟩
    go_wp2
    go_ret
    exact ⟨rfl, n1 _⟩
  · have HA : Hid (∀ o, LayPt (w.alloc o) g (mkP K n) n) := fun o => hlay.nw (n1 o)
    have HK : Hid (K + 2 * n ≤ 60000000) := by show _ ≤ _; omega
    clear hlay
    go_enter Try.func33, Try.ntmps33
    go_wp2_with fail
    refine Calls.mono (heldPt_any _ g c K n hl (by omega) (HA.out _)) ?_
    rintro e w1 ⟨rfl, rfl⟩
    clear HA
    go_wp2
    go_ret
    exact ⟨rfl, n1 _⟩
end Go.Proofs.Ytmojppchpeecmaa
