/-
  Rows of steps: what the laws' helpers do that hold two against each other and mark one; each theorem names its conditions.
-/
import Derived.Test.YtoajjdlgipphiaaStT
namespace Go.Proofs.Ytoajjdlgipphiaa
open Go.ChangeShapes Go.WideShapes Go.ChangeAt Go.RowKit
set_option linter.unusedVariables false

set_option maxHeartbeats 1000000 in
theorem eqStep_any (w : World) (kd : Int) (p1 p2 : Nat) (ns : List Int) (hl : ns.length ≤ 1048576) (h1 : LayI w p1 ns) (h2 : LayI w p2 ns) :
    Calls Try.prog 50 #[.agg #[.int .i64 kd, .slice (some ⟨p1, 0, none⟩) ns.length ns.length], .agg #[.int .i64 kd, .slice (some ⟨p2, 0, none⟩) ns.length ns.length]] w fun e w' => e = .returned (.bool true) ∧ Nw w w' := by
  have n2 : ∀ o1 o2, Nw w ((w.alloc o1).alloc o2) := fun o1 o2 => ((Below.refl _ _).alloc (Nat.le_refl _) _).alloc (by simp) _
  have HE : Hid (∀ w, LayI w p1 ns → LayI w p2 ns → _) := fun w a b => eqI_any w _ _ ns hl (a.row (c := ns.length)) (b.row (c := ns.length))
  have H1 : Hid (LayI w p1 ns) := h1
  have H2 : Hid (LayI w p2 ns) := h2
  have HN : Hid _ := n2
  have hk : (kd != kd) = false := by simp
  clear h1 h2 n2
  generalize ns.length = n at *
  go_enter Try.func50, Try.ntmps50
  go_wp2_with fail
  refine Calls.mono (HE.out _ (LayI.nw H1.out (HN.out _ _)) (LayI.nw H2.out (HN.out _ _))) ?_
  rintro e w1 ⟨rfl, k1⟩
  have K1 : Hid (Nw w w1) := Nw.trans (HN.out _ _) k1
  clear k1
  go_wp2
  go_ret
  exact ⟨rfl, K1.out⟩
set_option maxHeartbeats 4000000 in
theorem eqStepS_any (w : World) (g1 g2 n : Nat) (i1 i2 : Sts) (l : List SD) (e1 : i1.map (·.2) = l) (e2 : i2.map (·.2) = l) (hn : l.length = n) (hl : n ≤ 1048576) (hla : ∀ i, i < l.length → (stAt l i).ns.length ≤ 1048576) (h1 : LaySt w g1 i1 n) (h2 : LaySt w g2 i2 n) :
    Calls Try.prog 21 #[.slice (some ⟨g1, 0, none⟩) n n, .slice (some ⟨g2, 0, none⟩) n n] w fun e w' => e = .returned (.bool true) ∧ Nw w w' := by
  have l1 : i1.length = n := by rw [← hn, ← e1]; simp
  have l2 : i2.length = n := by rw [← hn, ← e2]; simp
  have key1 : ∀ i, i < n → (iaAt i1 i).2 = stAt l i := fun i hi => by rw [← e1, sd_at i1 i (by omega)]
  have key2 : ∀ i, i < n → (iaAt i2 i).2 = stAt l i := fun i hi => by rw [← e2, sd_at i2 i (by omega)]
  have H1 : Hid (LaySt w g1 i1 n) := h1
  have H2 : Hid (LaySt w g2 i2 n) := h2
  have K1 : Hid _ := key1
  have K2 : Hid _ := key2
  have HLA : Hid (∀ i, i < n → (stAt l i).ns.length ≤ 1048576) := fun i hi => hla i (by omega)
  clear h1 h2 key1 key2 hla e1 e2
  go_enter Try.func21, Try.ntmps21
  go_wp2
  go_loopw [5] (fun i wr => ∃ k : Nat, k ≤ n ∧ i = .int .i64 k ∧ Nw w wr) (fun i _ => n - (intOf i).toNat)
  case atStart => exact ⟨0, Nat.zero_le _, rfl, Below.refl _ _⟩
  case round =>
    obtain ⟨k, hk, rfl, hw⟩ := hrel
    by_cases hlt : k < n
    · have a1 := H1.out.nw hw
      have a2 := H2.out.nw hw
      obtain ⟨q0, q1⟩ := a1.c1 k (by omega)
      obtain ⟨r0, r1⟩ := a2.c1 k (by omega)
      have hp1 := (a1.pts k (by omega)).2
      have hp2 := (a2.pts k (by omega)).2
      rw [K1.out k hlt] at q0 q1 hp1
      rw [K2.out k hlt] at r0 r1 hp2
      have hlk := HLA.out k hlt
      generalize stAt l k = x at *
      obtain ⟨kd, ns⟩ := x
      simp only at q0 q1 r0 r1 hp1 hp2 hlk
      generalize (iaAt i1 k).1 = b1 at *
      generalize (iaAt i2 k).1 = b2 at *
      have Q4 : Hid (LayI wr.drew b1 ns) := hp1.nw ((Below.refl _ _).drew)
      have R4 : Hid (LayI wr.drew b2 ns) := hp2.nw ((Below.refl _ _).drew)
      have s1 := a1.lt
      have s2 := a2.lt
      have HW : Hid (Nw w wr) := hw
      clear a1 a2 hp1 hp2 hw
      go_wp2
      go_region_with (go_at_call 50; refine Calls.mono (eqStep_any _ kd b1 b2 ns hlk Q4.out R4.out) ?_; rintro e w' ⟨rfl, k1⟩)
      all_goals
        go_wp2
        go_roundw
        case rel => exact ⟨k + 1, by omega, by go_num, HW.out.trans k1.drw⟩
        case measure => simp [intOf]; omega
    · have HW : Hid (Nw w wr) := hw
      clear hw
      go_wp2
      go_ret
      exact ⟨rfl, HW.out⟩
/-- Steps that may be written. -/
structure AnySt (w : World) (g : Nat) (it : Sts) : Prop where
  lt : g < w.heap.size
  free : ∀ o, w.frozen? ⟨g, o, none⟩ = false
  c0 : ∀ i, i < it.length → ∃ x : Int, w.cell? ⟨g, i * 2, none⟩ = some (.int .i64 x)
  c1 : ∀ i, i < it.length → w.cell? ⟨g, i * 2 + 1, none⟩ = some (.slice (some ⟨(iaAt it i).1, 0, none⟩) (iaAt it i).2.ns.length (iaAt it i).2.ns.length)
  pts : ∀ i, i < it.length → g < (iaAt it i).1 ∧ ∃ l, l.length = (iaAt it i).2.ns.length ∧ LayI w (iaAt it i).1 l
  apart : ∀ i j, i ≠ j → i < it.length → j < it.length → (iaAt it i).1 ≠ (iaAt it j).1
theorem LaySt.any {w : World} {g n : Nat} {it : Sts} (h : LaySt w g it n) : AnySt w g it :=
  ⟨h.lt, h.free, fun i hi => ⟨_, (h.c1 i hi).1⟩, fun i hi => (h.c1 i hi).2, fun i hi => ⟨(h.pts i hi).1, _, rfl, (h.pts i hi).2⟩, h.apart⟩
theorem AnySt.set {w : World} {g : Nat} {it : Sts} (h : AnySt w g it) (i : Nat) (hi : i < it.length) (x : Int) : AnySt (w.setCell ⟨g, i * 2, none⟩ (.int .i64 x)) g it := by
  have far : ∀ o, o ≠ i * 2 → (w.setCell ⟨g, i * 2, none⟩ (.int .i64 x)).cell? ⟨g, o, none⟩ = w.cell? ⟨g, o, none⟩ := fun o a => World.cell?_setCell_other _ _ _ _ (fun h => by injection h; omega)
  refine ⟨by simpa [World.setCell] using h.lt, fun o => by rw [World.frozen?_setCell]; exact h.free o, fun j hj => ?_, fun j hj => by rw [far _ (by omega)]; exact h.c1 j hj, fun j hj => ?_, h.apart⟩
  · by_cases e : j = i
    · subst e
      obtain ⟨y, hy⟩ := h.c0 j hj
      exact ⟨x, World.cell?_setCell_same w ⟨g, j * 2, none⟩ _ hy⟩
    · rw [far _ (by omega)]; exact h.c0 j hj
  · obtain ⟨a, l, b, c⟩ := h.pts j hj
    exact ⟨a, l, b, c.off _ _ _ (Nat.ne_of_lt a)⟩
theorem LayI.grow {w w' : World} {g : Nat} {l : List Int} {r : Option Nat} (h : LayI w g l) (k : w.grownBy w' r) (hne : some g ≠ r) : LayI w' g l := by
  have e := fun o => World.cell?_of_block (w := w) (w' := w') (a := ⟨g, o, none⟩) (k.block g h.1 hne)
  have f := fun o => World.frozen?_of_block (w := w) (w' := w') (a := ⟨g, o, none⟩) (k.block g h.1 hne)
  exact ⟨Nat.lt_of_lt_of_le h.1 k.size, fun i hi => (e _).trans (h.2.1 i hi), fun o => (f o).trans (h.2.2 o)⟩
theorem AnySt.grow {w w' : World} {g i : Nat} {it : Sts} {l : List Int} (h : AnySt w g it) (hi : i < it.length) (k : w.grownBy w' (some (iaAt it i).1)) (hl : LayI w' (iaAt it i).1 l) (hn : l.length = (iaAt it i).2.ns.length) : AnySt w' g it := by
  have hne : some g ≠ some (iaAt it i).1 := fun e => by have := (h.pts i hi).1; simp at e; omega
  have e := fun o => World.cell?_of_block (w := w) (w' := w') (a := ⟨g, o, none⟩) (k.block g h.lt hne)
  have f := fun o => World.frozen?_of_block (w := w) (w' := w') (a := ⟨g, o, none⟩) (k.block g h.lt hne)
  refine ⟨Nat.lt_of_lt_of_le h.lt k.size, fun o => (f o).trans (h.free o), fun j hj => by obtain ⟨x, hx⟩ := h.c0 j hj; exact ⟨x, (e _).trans hx⟩, fun j hj => (e _).trans (h.c1 j hj), fun j hj => ?_, h.apart⟩
  by_cases ej : j = i
  · subst ej; exact ⟨(h.pts j hj).1, l, hn, hl⟩
  · obtain ⟨a, m, b, c⟩ := h.pts j hj
    exact ⟨a, m, b, c.grow k (fun e => h.apart j i ej hj hi (by simpa using e))⟩
/-- The mark that step i begins with. -/
def kSt (it : Sts) (K : Nat) : Nat → Nat
  | 0 => K
  | i + 1 => kSt it K i + 1 + (iaAt it i).2.ns.length
theorem kSt_sum (it : Sts) (K : Nat) : ∀ i, i ≤ it.length → kSt it K i = K + manyS ((it.map (·.2)).take i) + i
  | 0, _ => by simp [kSt, manyS]
  | i + 1, h => by
    have ih := kSt_sum it K i (by omega)
    have hs := manyS_step (it.map (·.2)) i (by simp; omega)
    rw [sd_at it i (by omega)] at hs
    simp only [kSt]
    rw [ih, hs]
    omega
theorem Mid.grown {lo hi g : Nat} {a b c : World} (h : Mid lo hi a b) (k : b.grownBy c (some g)) (h1 : lo ≤ g) (h2 : g < hi) : Mid lo hi a c :=
  Mid.trans h ⟨k.os, k.tape, k.output, k.size, fun i hi hb => k.block i hi (fun e => by simp at e; omega)⟩
set_option maxHeartbeats 4000000 in
theorem markStepS_any (w : World) (g hi c : Nat) (it : Sts) (hn : it.length ≤ 1048576) (hm : manyS (it.map (·.2)) ≤ 1048576) (hh : ∀ i, i < it.length → (iaAt it i).1 < hi) (hg : g < hi) (h : AnySt w g it) :
    Calls Try.prog 22 #[.slice (some ⟨g, 0, none⟩) it.length c, .int .i64 1] w fun e w' => (∃ k : Nat, e = .returned (.int .i64 (k : Int))) ∧ Mid g hi w w' := by
  have HA : Hid (AnySt w g it) := h
  have HH : Hid (∀ i, i < it.length → (iaAt it i).1 < hi) := hh
  have HS : Hid _ := kSt_sum it 1
  clear h hh
  go_enter Try.func22, Try.ntmps22
  go_wp2
  go_loopw [1, 5] (fun x i wr => ∃ j : Nat, j ≤ it.length ∧ i = .int .i64 j ∧ x = .int .i64 (kSt it 1 j : Int) ∧ Mid g hi w wr ∧ AnySt wr g it) (fun _ i _ => it.length - (intOf i).toNat)
  case atStart => exact ⟨0, Nat.zero_le _, rfl, rfl, Mid.refl _ _ _, HA.out⟩
  case round =>
    obtain ⟨j, hj, rfl, rfl, hw, ha⟩ := hrel
    have HW : Hid (Mid g hi w wr) := hw
    have HB : Hid (AnySt wr g it) := ha
    clear hw ha
    have hbk : kSt it 1 j ≤ 3000000 := by
      have h1 := HS.out j hj
      have h2 := manyS_le (it.map (·.2)) j
      omega
    by_cases hlt : j < it.length
    · obtain ⟨x0, c0⟩ := HB.out.c0 j hlt
      have c1 := HB.out.c1 j hlt
      have hf := HB.out.free
      have hs := HB.out.lt
      obtain ⟨hgp, lj, hlj, hlay⟩ := HB.out.pts j hlt
      have hnl : lj.length ≤ 1048576 := by
        rw [hlj, ← sd_at it j hlt]
        exact Nat.le_trans (manyS_at _ j (by simpa using hlt)) hm
      have HE : Hid (kSt it 1 (j + 1) = kSt it 1 j + 1 + lj.length) := by show _ = _; rw [hlj]; rfl
      rw [← hlj] at c1
      have HLJ : Hid (lj.length = (iaAt it j).2.ns.length) := hlj
      have HP : Hid (∀ v, LayI (wr.setCell ⟨g, j * 2, none⟩ v) (iaAt it j).1 lj) := fun v => hlay.off _ _ _ (Nat.ne_of_lt hgp)
      have HPJ : Hid ((iaAt it j).1 < hi) := HH.out j hlt
      clear hlj hlay
      generalize kSt it 1 j = K at *
      obtain ⟨p, hp⟩ : ∃ p, (iaAt it j).1 = p := ⟨_, rfl⟩
      have HPP : Hid ((iaAt it j).1 = p) := hp
      rw [hp] at c1 HP hgp HPJ
      clear hp
      have hmk : Hid (∀ w, LayI w p lj → _) := fun w h => markI_any w p lj.length (K + 1) lj hnl (by omega) h
      rw [show ((K + 1 : Nat) : Int) = (K : Int) + 1 by omega] at hmk
      go_wp2_with fail
      refine Calls.mono (hmk.out _ (HP.out _)) ?_
      rintro e w1 ⟨rfl, g1, k1⟩
      have G1 : Hid _ := g1
      have K1 : Hid _ := k1
      clear g1 k1
      go_wp2
      go_roundw
      case rel =>
        refine ⟨j + 1, by omega, by go_num, by rw [HE.out]; go_num, Mid.grown (Mid.set HW.out (Nat.le_refl _) hg _ _) G1.out (Nat.le_of_lt hgp) HPJ.out, ?_⟩
        refine AnySt.grow (l := mkL (K + 1) lj.length) (AnySt.set HB.out j hlt (K : Int)) hlt ?_ ?_ (by rw [mkL_len]; exact HLJ.out)
        · rw [HPP.out]; exact G1.out
        · rw [HPP.out]; exact K1.out
      case measure => simp [intOf]; omega
    · have e : j = it.length := by omega
      subst e
      go_wp2
      go_ret
      exact ⟨⟨_, rfl⟩, HW.out⟩
end Go.Proofs.Ytoajjdlgipphiaa
