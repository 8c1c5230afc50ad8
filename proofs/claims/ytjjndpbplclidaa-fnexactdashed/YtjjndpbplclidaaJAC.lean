/-
  Lines in memory; how many points they have, of both; each theorem names its conditions.
  What the laws' helpers do that hold two lines, and two rows of lines, against each other; each theorem names its conditions.
  What the laws' helpers do that hold two lines against each other, mark one and look for the marks; each theorem names its conditions.
  Fixed numbers: GoodFixed of both, for all ints; no condition.
-/
import Derived.Test.YtjjndpbplclidaaJAB
import Derived.Deep.RegionWith
namespace Go.Proofs.Ytjjndpbplclidaa
open Go.ChangeShapes Go.WideShapes Go.ChangeAt Go.RowKit
set_option linter.unusedVariables false

/-- A line: its points, and whether it is closed. -/
structure LD where
  pts : List Pnt
  closed : Bool
def noLD : LD := ⟨[], false⟩
def lnAt (l : List LD) (i : Nat) : LD := l.getD i noLD
/-- The lines l lie at a. -/
def Lines (w : World) (a : Option Addr) (l : List LD) : Prop :=
  l = [] ∨ ∃ b off, a = some ⟨b, off, none⟩ ∧ b < w.heap.size ∧ ∀ i, i < l.length → (∃ pa pc, w.cell? ⟨b, off + i * 2, none⟩ = some (.slice pa (lnAt l i).pts.length pc) ∧ Pts w pa (lnAt l i).pts) ∧ w.cell? ⟨b, off + i * 2 + 1, none⟩ = some (.bool (lnAt l i).closed)
theorem Lines.nw {w w' : World} {a : Option Addr} {l : List LD} (h : Lines w a l) (k : Nw w w') : Lines w' a l := by
  rcases h with h | ⟨b, off, rfl, hb, hc⟩
  · exact Or.inl h
  · refine Or.inr ⟨b, off, rfl, Nat.lt_of_lt_of_le hb (Below.size k), fun i hi => ?_⟩
    obtain ⟨⟨pa, pc, h1, h2⟩, h3⟩ := hc i hi
    exact ⟨⟨pa, pc, ((bcell k).1 _ _ hb).trans h1, h2.nw k⟩, ((bcell k).1 _ _ hb).trans h3⟩
def manyL (l : List LD) : Nat := (l.map fun x => x.pts.length).sum
theorem manyL_step (l : List LD) (k : Nat) (h : k < l.length) : manyL (l.take (k + 1)) = manyL (l.take k) + (lnAt l k).pts.length := by
  unfold manyL lnAt
  have e : l.getD k noLD = l[k] := by simp [h]
  rw [List.take_succ_eq_append_getElem h, List.map_append, List.sum_append, e]
  simp only [List.map_cons, List.map_nil, List.sum_cons, List.sum_nil]
  omega
theorem manyL_le (l : List LD) (k : Nat) : manyL (l.take k) ≤ manyL l := by
  unfold manyL
  conv => rhs; rw [← List.take_append_drop k l]
  rw [List.map_append, List.sum_append]
  omega
theorem manyL_at (l : List LD) (k : Nat) (h : k < l.length) : (lnAt l k).pts.length ≤ manyL l := by
  have h1 := manyL_step l k h
  have h2 := manyL_le l (k + 1)
  omega
set_option maxHeartbeats 1000000 in
theorem smany (w : World) (a : Option Addr) (c : Nat) (l : List LD) (hl : l.length ≤ 1048576) (hm : manyL l ≤ 1048576) (hr : Lines w a l) :
    Calls Try.prog 69 #[.slice a l.length c] w fun e w' => e = .returned (.int .i64 (manyL l : Int)) ∧ Kp w w' := by
  have HR : Hid (Lines w a l) := hr
  clear hr
  go_enter Try.func69, Try.ntmps69
  go_wp2
  go_loopw [3, 8] (fun x i wr => ∃ k : Nat, k ≤ l.length ∧ i = .int .i64 k ∧ x = .int .i64 (manyL (l.take k) : Int) ∧ Kp w wr) (fun _ i _ => l.length - (intOf i).toNat)
  case atStart => exact ⟨0, Nat.zero_le _, rfl, rfl, Kp.refl _⟩
  case round =>
    obtain ⟨k, hk, rfl, rfl, hw⟩ := hrel
    have HW : Hid (Kp w wr) := hw
    clear hw
    by_cases hlt : k < l.length
    · rcases (HR.out.nw HW.out.nw) with h | ⟨b, off, rfl, hb, hc⟩
      · rw [h] at hlt; simp at hlt
      obtain ⟨⟨pa, pc, q0, _⟩, q1⟩ := hc k hlt
      clear hc
      have hs := manyL_step l k hlt
      have hle := manyL_le l (k + 1)
      have HE : Hid (manyL (l.take (k + 1)) = manyL (l.take k) + (lnAt l k).pts.length) := hs
      rw [hs] at hle
      clear hs
      generalize manyL (l.take k) = m at *
      generalize (lnAt l k).pts.length = n at *
      generalize (lnAt l k).closed = cl at *
      go_wp2
      go_roundw
      case rel => exact ⟨k + 1, by omega, by go_num, by rw [HE.out]; go_num, HW.out.alloc _ _⟩
      case measure => simp [intOf]; omega
    · have e : k = l.length := by omega
      subst e
      rw [List.take_length]
      go_wp2
      go_ret
      exact ⟨rfl, HW.out⟩
set_option maxHeartbeats 1000000 in
theorem imany (w : World) (a : Option Addr) (c : Nat) (l : List LD) (hl : l.length ≤ 1048576) (hm : manyL l ≤ 1048576) (hr : Lines w a l) :
    Calls Try.prog 38 #[.slice a l.length c] w fun e w' => e = .returned (.int .i64 (manyL l : Int)) ∧ Kp w w' := by
  have HR : Hid (Lines w a l) := hr
  clear hr
  go_enter Try.func38, Try.ntmps38
  go_wp2
  go_loopw [3, 8] (fun x i wr => ∃ k : Nat, k ≤ l.length ∧ i = .int .i64 k ∧ x = .int .i64 (manyL (l.take k) : Int) ∧ Kp w wr) (fun _ i _ => l.length - (intOf i).toNat)
  case atStart => exact ⟨0, Nat.zero_le _, rfl, rfl, Kp.refl _⟩
  case round =>
    obtain ⟨k, hk, rfl, rfl, hw⟩ := hrel
    have HW : Hid (Kp w wr) := hw
    clear hw
    by_cases hlt : k < l.length
    · rcases (HR.out.nw HW.out.nw) with h | ⟨b, off, rfl, hb, hc⟩
      · rw [h] at hlt; simp at hlt
      obtain ⟨⟨pa, pc, q0, _⟩, q1⟩ := hc k hlt
      clear hc
      have hs := manyL_step l k hlt
      have hle := manyL_le l (k + 1)
      have HE : Hid (manyL (l.take (k + 1)) = manyL (l.take k) + (lnAt l k).pts.length) := hs
      rw [hs] at hle
      clear hs
      generalize manyL (l.take k) = m at *
      generalize (lnAt l k).pts.length = n at *
      generalize (lnAt l k).closed = cl at *
      go_wp2
      go_roundw
      case rel => exact ⟨k + 1, by omega, by go_num, by rw [HE.out]; go_num, HW.out.alloc _ _⟩
      case measure => simp [intOf]; omega
    · have e : k = l.length := by omega
      subst e
      rw [List.take_length]
      go_wp2
      go_ret
      exact ⟨rfl, HW.out⟩
end Go.Proofs.Ytjjndpbplclidaa
namespace Go.Proofs.Ytjjndpbplclidaa
open Go.ChangeShapes Go.WideShapes Go.ChangeAt Go.RowKit
set_option linter.unusedVariables false

/-- The points l are what v holds. -/
def RowP (w : World) (v : Value) (l : List Pnt) : Prop := ∃ a c, v = .slice a l.length c ∧ Pts w a l
theorem RowP.nw {w w' : World} {v : Value} {l : List Pnt} (h : RowP w v l) (k : Nw w w') : RowP w' v l := by
  obtain ⟨a, c, rfl, h2⟩ := h
  exact ⟨a, c, rfl, h2.nw k⟩
/-- Behind marks in another block. -/
theorem RowP.grown {w w' : World} {v : Value} {l : List Pnt} {r : Option Nat} (h : RowP w v l) (k : w.grownBy w' r) (hne : v.ownBlock = none ∨ v.ownBlock ≠ r) : RowP w' v l := by
  obtain ⟨a, c, rfl, h2⟩ := h
  refine ⟨a, c, rfl, ?_⟩
  rcases h2 with h | ⟨b, off, rfl, hb, hc⟩
  · exact Or.inl h
  · have hne2 : some b ≠ r := by
      rcases hne with h | h
      · cases h
      · exact h
    refine Or.inr ⟨b, off, rfl, Nat.lt_of_lt_of_le hb k.size, fun i hi => ?_⟩
    have e := fun o => World.cell?_of_block (w := w) (w' := w') (a := ⟨b, o, none⟩) (k.block b hb hne2)
    exact ⟨(e _).trans (hc i hi).1, (e _).trans (hc i hi).2⟩
set_option maxHeartbeats 1000000 in
theorem eqLine_any (w : World) (v1 v2 : Value) (l : List Pnt) (cl : Bool) (hl : l.length ≤ 1048576) (h1 : RowP w v1 l) (h2 : RowP w v2 l) :
    Calls Try.prog 11 #[.agg #[v1, .bool cl], .agg #[v2, .bool cl]] w fun e w' => e = .returned (.bool true) ∧ Nw w w' := by
  obtain ⟨a1, c1, rfl, p1⟩ := h1
  obtain ⟨a2, c2, rfl, p2⟩ := h2
  have n1 : ∀ o1 o2, Nw w ((w.alloc o1).alloc o2) := fun o1 o2 => ((Below.refl _ _).alloc (Nat.le_refl _) _).alloc (by simp) _
  have P1 : Hid (∀ o1 o2, Pts ((w.alloc o1).alloc o2) a1 l) := fun o1 o2 => p1.nw (n1 o1 o2)
  have P2 : Hid (∀ o1 o2, Pts ((w.alloc o1).alloc o2) a2 l) := fun o1 o2 => p2.nw (n1 o1 o2)
  have hbb : (cl != cl) = false := by cases cl <;> rfl
  clear p1 p2
  go_enter Try.func11, Try.ntmps11
  go_wp2_with fail
  refine Calls.mono (eqPointS_any _ a1 a2 c1 c2 l hl (P1.out _ _) (P2.out _ _)) ?_
  rintro e w1 ⟨rfl, k1⟩
  have K1 : Hid (Nw w w1) := Nw.trans (n1 _ _) k1
  have hs : w.heap.size < ((w.alloc (.cells #[.slice a1 l.length c1, .bool cl] 32)).alloc (.cells #[.slice a2 l.length c2, .bool cl] 32)).heap.size := by simp; omega
  have hs2 : w.heap.size + 1 < ((w.alloc (.cells #[.slice a1 l.length c1, .bool cl] 32)).alloc (.cells #[.slice a2 l.length c2, .bool cl] 32)).heap.size := by simp
  have q1 := ((bcell k1).1 w.heap.size 1 hs).trans (by simp [World.cell?_alloc_past] : _ = some (.bool cl))
  have q2 := ((bcell k1).1 (w.heap.size + 1) 1 hs2).trans (by simp : _ = some (.bool cl))
  clear k1 hs hs2 n1
  go_wp2
  go_ret
  exact ⟨rfl, K1.out⟩
/-- A list that bears marks. -/
def Mkd (w : World) (v : Value) (n K : Nat) : Prop := (v = .slice none 0 0 ∧ n = 0) ∨ ∃ g c, v = .slice (some ⟨g, 0, none⟩) n c ∧ LayPt w g (mkP K n) n
theorem Mkd.nw {w w' : World} {v : Value} {n K : Nat} (h : Mkd w v n K) (k : Nw w w') : Mkd w' v n K := by
  rcases h with h | ⟨g, c, h1, h2⟩
  · exact Or.inl h
  · exact Or.inr ⟨g, c, h1, h2.nw k⟩
theorem gr_alloc {w : World} {r : Option Nat} (o : Obj) : w.grownBy (w.alloc o) r := ⟨rfl, rfl, rfl, by simp, fun i hi _ => Below.block ((Below.refl w.heap.size w).alloc (Nat.le_refl _) o) i hi⟩
/-- The lines l are what v holds. -/
def RowL (w : World) (v : Value) (l : List LD) : Prop := ∃ a c, v = .slice a l.length c ∧ Lines w a l
theorem RowL.nw {w w' : World} {v : Value} {l : List LD} (h : RowL w v l) (k : Nw w w') : RowL w' v l := by
  obtain ⟨a, c, rfl, h2⟩ := h
  exact ⟨a, c, rfl, h2.nw k⟩
def lenL (l : List LD) : Prop := ∀ i, i < l.length → (lnAt l i).pts.length ≤ 1048576
set_option maxHeartbeats 4000000 in
theorem eqLineS_any (w : World) (v1 v2 : Value) (l : List LD) (hl : l.length ≤ 1048576) (hla : lenL l) (h1 : RowL w v1 l) (h2 : RowL w v2 l) :
    Calls Try.prog 10 #[v1, v2] w fun e w' => e = .returned (.bool true) ∧ Nw w w' := by
  obtain ⟨a1, c1, rfl, p1⟩ := h1
  obtain ⟨a2, c2, rfl, p2⟩ := h2
  have H1 : Hid (Lines w a1 l) := p1
  have H2 : Hid (Lines w a2 l) := p2
  have HLA : Hid (lenL l) := hla
  clear p1 p2 hla
  go_enter Try.func10, Try.ntmps10
  go_wp2
  go_loopw [5] (fun i wr => ∃ k : Nat, k ≤ l.length ∧ i = .int .i64 k ∧ Nw w wr) (fun i _ => l.length - (intOf i).toNat)
  case atStart => exact ⟨0, Nat.zero_le _, rfl, Below.refl _ _⟩
  case round =>
    obtain ⟨k, hk, rfl, hw⟩ := hrel
    by_cases hlt : k < l.length
    · rcases (H1.out.nw hw) with h | ⟨b1, o1, rfl, hb1, hc1⟩
      · rw [h] at hlt; simp at hlt
      rcases (H2.out.nw hw) with h | ⟨b2, o2, rfl, hb2, hc2⟩
      · rw [h] at hlt; simp at hlt
      obtain ⟨⟨qa, qc, q0, q4⟩, q1⟩ := hc1 k hlt
      obtain ⟨⟨ra, rc, r0, r4⟩, r1⟩ := hc2 k hlt
      have hlk := HLA.out k hlt
      have Q4 : Hid (RowP wr.drew (.slice qa (lnAt l k).pts.length qc) (lnAt l k).pts) := ⟨qa, qc, rfl, q4.nw ((Below.refl _ _).drew)⟩
      have R4 : Hid (RowP wr.drew (.slice ra (lnAt l k).pts.length rc) (lnAt l k).pts) := ⟨ra, rc, rfl, r4.nw ((Below.refl _ _).drew)⟩
      clear hc1 hc2 H1 H2 q4 r4
      have HW : Hid (Nw w wr) := hw
      clear hw
      go_wp2
      go_region_with (go_at_call 11; refine Calls.mono (eqLine_any _ _ _ (lnAt l k).pts (lnAt l k).closed hlk Q4.out R4.out) ?_; rintro e w' ⟨rfl, k1⟩)
      all_goals
        go_wp2
        go_roundw
        case rel => exact ⟨k + 1, by omega, by go_num, HW.out.trans k1.drw⟩
        case measure => simp [intOf]; omega
    · have HW : Hid (Nw w wr) := hw
      clear hw
      go_wp2
      go_ret
      exact ⟨rfl, HW.out⟩
end Go.Proofs.Ytjjndpbplclidaa
namespace Go.Proofs.Ytjjndpbplclidaa
open Go.ChangeShapes Go.WideShapes Go.ChangeAt Go.RowKit
set_option linter.unusedVariables false

theorem OwnP.row {w : World} {B : Nat} {v : Value} {l : List Pnt} (h : OwnP w B v l) : RowP w v l := h.pts
set_option maxHeartbeats 1000000 in
theorem markLine_any (w : World) (B : Nat) (v : Value) (l : List Pnt) (cl : Bool) (K : Nat) (hl : l.length ≤ 1048576) (hK2 : K ≤ 40000000) (h : OwnP w B v l) :
    Calls Try.prog 13 #[.agg #[v, .bool cl], .int .i64 (K : Int)] w fun e w' => e = .returned (.int .i64 ((K + 2 * l.length : Nat) : Int)) ∧ w.grownBy w' v.ownBlock ∧ Mkd w' v l.length K := by
  have n1 : ∀ o1, Nw w (w.alloc o1) := fun o1 => (Below.refl _ _).alloc (Nat.le_refl _) _
  rcases h.lay with ⟨rfl, rfl⟩ | ⟨g, c, rfl, hg, hlay⟩
  · go_enter Try.func13, Try.ntmps13
    go_wp2_with fail
    refine Calls.mono (markPt_nil _ K (by omega)) ?_
    rintro e w1 ⟨rfl, rfl⟩
    go_wp2
    go_ret
    exact ⟨rfl, gr_alloc _, Or.inl ⟨rfl, rfl⟩⟩
  · have HA : Hid (∀ o, AnyPt (w.alloc o) g l.length) := fun o => (hlay.nw (n1 o)).any
    have HK : Hid (K + 2 * l.length ≤ 60000000) := by show _ ≤ _; omega
    clear hlay h
    go_enter Try.func13, Try.ntmps13
    go_wp2_with fail
    refine Calls.mono (markPt_any _ g c K l.length hl (by omega) (HA.out _)) ?_
    rintro e w1 ⟨rfl, g1, l1⟩
    have G1 : Hid (w.grownBy w1 (some g)) := World.grownBy.trans (gr_alloc _) g1
    have L1 : Hid _ := l1
    clear g1 l1 HA
    go_wp2
    go_ret
    exact ⟨rfl, G1.out, Or.inr ⟨g, c, rfl, L1.out⟩⟩
end Go.Proofs.Ytjjndpbplclidaa
namespace Go.Proofs.Ytjjndpbplclidaa
open Go.ChangeShapes Go.WideShapes Go.ChangeAt Go.RowKit
set_option linter.unusedVariables false

def fixB (x : Int) : Bool := decide (-1099511627776 ≤ x) && decide (x ≤ 1099511627776)
theorem fixB_iff {x : Int} : fixB x = true ↔ -1099511627776 ≤ x ∧ x ≤ 1099511627776 := by unfold fixB; simp
theorem fixB_no {x : Int} : fixB x = false ↔ ¬ (-1099511627776 ≤ x ∧ x ≤ 1099511627776) := by
  rw [← fixB_iff]; cases fixB x <;> simp
theorem igoodF (x : Int) (w : World) : Calls Try.prog 83 #[.int .i64 x] w fun e w' => e = .returned (.bool (fixB x)) ∧ w' = w := by
  go_enter Try.func83, Try.ntmps83
  go_wp2
  all_goals
    go_ret
    exact ⟨ret_bool (by unfold fixB; rw [Bool.eq_iff_iff]; simp; omega), rfl⟩
theorem sgoodF (x : Int) (w : World) : Calls Try.prog 66 #[.int .i64 x] w fun e w' => e = .returned (.bool (fixB x)) ∧ w' = w := by
  have H : Hid (∀ w, Calls Try.prog 24 #[.int .i64 x, .int .i64 (-1099511627776), .int .i64 1099511627776] w fun e w' => e = .returned (.bool (fixB x)) ∧ w' = w) := fun w => by
    refine Calls.mono (in_any w x (-1099511627776) 1099511627776) ?_
    rintro e w' ⟨rfl, rfl⟩
    exact ⟨ret_bool (by unfold fixB; rw [Bool.eq_iff_iff]; simp), rfl⟩
  go_enter Try.func66, Try.ntmps66
  go_wp2_with fail
  refine Calls.mono (H.out _) ?_
  rintro e w1 ⟨rfl, rfl⟩
  go_wp2
  go_ret
  exact ⟨rfl, rfl⟩
end Go.Proofs.Ytjjndpbplclidaa
