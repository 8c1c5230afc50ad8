/-
  Fixed numbers: GoodFixed of both, for all ints; no condition.
  Fixed numbers: GoodFixed and FixMul of both in one word, for all ints; no condition.
  What the specification makes of one word of a transform: some affine, whatever the word and the numbers; each theorem names its conditions.
  What the specification makes of one word of a transform, some of the ways; each theorem names its conditions.
-/
import Derived.Test.YtpfhnedklihdoaaGreatDoorJAL
import Derived.Test.YtpfhnedklihdoaaGreatDoorJAI
import Derived.Test.YtpfhnedklihdoaaGreatDoorJAJ
import Derived.Test.YtpfhnedklihdoaaGreatDoorJAK
import Derived.BigRegion
import Derived.Deep.CutBlock
import Derived.Deep.QuietTactic
import Derived.BigQuiet
namespace Go.Proofs.YtpfhnedklihdoaaGreatDoor
open Go.ChangeShapes Go.WideShapes Go.ChangeAt Go.RowKit
set_option linter.unusedVariables false

def fixB (x : Int) : Bool := decide (-1099511627776 ≤ x) && decide (x ≤ 1099511627776)
theorem fixB_iff {x : Int} : fixB x = true ↔ -1099511627776 ≤ x ∧ x ≤ 1099511627776 := by unfold fixB; simp
theorem fixB_no {x : Int} : fixB x = false ↔ ¬ (-1099511627776 ≤ x ∧ x ≤ 1099511627776) := by
  rw [← fixB_iff]; cases fixB x <;> simp
theorem igoodF (x : Int) (w : World) : Calls Tryz.prog 27 #[.int .i64 x] w fun e w' => e = .returned (.bool (fixB x)) ∧ w' = w := by
  go_enter Tryz.func27, Tryz.ntmps27
  go_wp2
  all_goals
    go_ret
    exact ⟨ret_bool (by unfold fixB; rw [Bool.eq_iff_iff]; simp; omega), rfl⟩
theorem sgoodF (x : Int) (w : World) : Calls Tryz.prog 45 #[.int .i64 x] w fun e w' => e = .returned (.bool (fixB x)) ∧ w' = w := by
  have H : Hid (∀ w, Calls Tryz.prog 16 #[.int .i64 x, .int .i64 (-1099511627776), .int .i64 1099511627776] w fun e w' => e = .returned (.bool (fixB x)) ∧ w' = w) := fun w => by
    refine Calls.mono (in_any w x (-1099511627776) 1099511627776) ?_
    rintro e w' ⟨rfl, rfl⟩
    exact ⟨ret_bool (by unfold fixB; rw [Bool.eq_iff_iff]; simp), rfl⟩
  go_enter Tryz.func45, Tryz.ntmps45
  go_wp2_with fail
  refine Calls.mono (H.out _) ?_
  rintro e w1 ⟨rfl, rfl⟩
  go_wp2
  go_ret
  exact ⟨rfl, rfl⟩
end Go.Proofs.YtpfhnedklihdoaaGreatDoor
namespace Go.Proofs.YtpfhnedklihdoaaGreatDoor
open Go.ChangeShapes Go.WideShapes Go.ChangeAt Go.RowKit
set_option linter.unusedVariables false

/-- A product of two fixed numbers. -/
def fmV (a b : Int) : Int := if fixB a = true ∧ fixB b = true then cutM ((a * b + 32768) / 65536) else 0
theorem cutM_bd (x : Int) : -1099511627776 ≤ cutM x ∧ cutM x ≤ 1099511627776 := by unfold cutM; omega
theorem fmV_bd (a b : Int) : -1099511627776 ≤ fmV a b ∧ fmV a b ≤ 1099511627776 := by
  unfold fmV; split
  · exact cutM_bd _
  · omega
theorem posV_cut (P : Int) (h : 0 ≤ P) : posV P = cutM ((P + 32768) / 65536) := by unfold posV cutM; omega
theorem negV_cut (P : Int) (h : 0 ≤ P) : negV P = cutM ((-P + 32768) / 65536) := by unfold negV cutM; omega
theorem fm_both (a b : Int) : (∀ w, Calls Tryz.prog 31 #[.int .i64 a, .int .i64 b] w fun e w' => e = .returned (.int .i64 (fmV a b)) ∧ Kp w w') ∧ (∀ w, Calls Tryz.prog 14 #[.int .i64 a, .int .i64 b] w fun e w' => e = .returned (.int .i64 (fmV a b)) ∧ w' = w) := by
  by_cases ha : -1099511627776 ≤ a ∧ a ≤ 1099511627776
  · by_cases hb : -1099511627776 ≤ b ∧ b ≤ 1099511627776
    · have e : fmV a b = cutM ((a * b + 32768) / 65536) := by unfold fmV; rw [if_pos ⟨fixB_iff.2 ha, fixB_iff.2 hb⟩]
      rw [e]
      obtain ⟨a1, a2⟩ := ha
      obtain ⟨b1, b2⟩ := hb
      by_cases na : a < 0
      · by_cases nb : b < 0
        · have h := posV_cut (-a * -b) (Int.mul_nonneg (by omega) (by omega))
          rw [Int.neg_mul_neg] at h
          rw [← h, ← Int.neg_mul_neg]
          exact ⟨fun w => sfixMul_nn a b w a1 a2 b1 b2 na nb, fun w => fixMul_nn a b w a1 a2 b1 b2 na nb⟩
        · have h := negV_cut (-a * b) (Int.mul_nonneg (by omega) (by omega))
          rw [show -(-a * b) = a * b by rw [Int.neg_mul, Int.neg_neg]] at h
          rw [← h]
          exact ⟨fun w => sfixMul_np a b w a1 a2 b1 b2 na (by omega), fun w => fixMul_np a b w a1 a2 b1 b2 na (by omega)⟩
      · by_cases nb : b < 0
        · have h := negV_cut (a * -b) (Int.mul_nonneg (by omega) (by omega))
          rw [show -(a * -b) = a * b by rw [Int.mul_neg, Int.neg_neg]] at h
          rw [← h]
          exact ⟨fun w => sfixMul_pn a b w a1 a2 b1 b2 (by omega) nb, fun w => fixMul_pn a b w a1 a2 b1 b2 (by omega) nb⟩
        · rw [← posV_cut (a * b) (Int.mul_nonneg (by omega) (by omega))]
          exact ⟨fun w => sfixMul_pp a b w a1 a2 b1 b2 (by omega) (by omega), fun w => fixMul_pp a b w a1 a2 b1 b2 (by omega) (by omega)⟩
    · have e : fmV a b = 0 := by unfold fmV; rw [if_neg (fun h => hb (fixB_iff.1 h.2))]
      rw [e]
      exact ⟨fun w => (sfixMul_no2 a b w ha.1 ha.2 hb).mono fun e w' ⟨h1, h2⟩ => ⟨h1, h2 ▸ Kp.refl _⟩, fun w => fixMul_no2 a b w ha.1 ha.2 hb⟩
  · have e : fmV a b = 0 := by unfold fmV; rw [if_neg (fun h => ha (fixB_iff.1 h.1))]
    rw [e]
    exact ⟨fun w => (sfixMul_no a b w ha).mono fun e w' ⟨h1, h2⟩ => ⟨h1, h2 ▸ Kp.refl _⟩, fun w => fixMul_no a b w ha⟩
theorem sfm (a b : Int) (w : World) : Calls Tryz.prog 31 #[.int .i64 a, .int .i64 b] w fun e w' => e = .returned (.int .i64 (fmV a b)) ∧ Kp w w' := (fm_both a b).1 w
theorem ifm (a b : Int) (w : World) : Calls Tryz.prog 14 #[.int .i64 a, .int .i64 b] w fun e w' => e = .returned (.int .i64 (fmV a b)) ∧ w' = w := (fm_both a b).2 w
theorem fmV_one {x : Int} (h : fixB x = true) : fmV 65536 x = x := by
  unfold fmV
  rw [if_pos ⟨by decide, h⟩]
  have := fixB_iff.1 h
  unfold cutM
  omega
theorem fmV_zero (x : Int) : fmV 0 x = 0 := by
  unfold fmV
  split
  · rw [Int.zero_mul]; decide
  · rfl
end Go.Proofs.YtpfhnedklihdoaaGreatDoor
namespace Go.Proofs.YtpfhnedklihdoaaGreatDoor
open Go.ChangeShapes Go.WideShapes Go.ChangeAt Go.RowKit
set_option linter.unusedVariables false

theorem turn_some (a : Int) : ∃ v : Int, (0 ≤ v ∧ v < 4096) ∧ ∀ w, Calls Tryz.prog 86 #[.int .i64 a] w fun e w' => e = .returned (.int .i64 v) ∧ w' = w := by
  by_cases h : -1099511627776 ≤ a ∧ a ≤ 1099511627776
  · exact ⟨_, ⟨Int.emod_nonneg _ (by omega), Int.emod_lt_of_pos _ (by omega)⟩, fun w => sturn_yes a w h.1 h.2⟩
  · exact ⟨0, ⟨by omega, by omega⟩, fun w => sturn_no a w h⟩
theorem sin_some (t : Int) (h : 0 ≤ t ∧ t < 4096) : ∃ v : Int, ∀ w, Calls Tryz.prog 88 #[.int .i64 t] w fun e w' => e = .returned (.int .i64 v) ∧ Kp w w' := ⟨_, fun w => ssin_any t w h.1 h.2⟩
theorem cos_some (t : Int) (h : 0 ≤ t ∧ t < 4096) : ∃ v : Int, ∀ w, Calls Tryz.prog 87 #[.int .i64 t] w fun e w' => e = .returned (.int .i64 v) ∧ Kp w w' := ⟨_, fun w => scos_any t w (by omega) (by omega)⟩
theorem div_some (a b : Int) : ∃ v : Int, ∀ w, Calls Tryz.prog 89 #[.int .i64 a, .int .i64 b] w fun e w' => e = .returned (.int .i64 v) ∧ Kp w w' := by
  by_cases ha : -1099511627776 ≤ a ∧ a ≤ 1099511627776
  · by_cases hb : -1099511627776 ≤ b ∧ b ≤ 1099511627776
    · by_cases h0 : b = 0
      · subst h0
        exact ⟨0, fun w => (sfixDiv_no3 a w ha.1 ha.2).mono fun e w' ⟨h1, h2⟩ => ⟨h1, h2 ▸ Kp.refl _⟩⟩
      · exact ⟨_, fun w => sfixDiv_yes a b w ha.1 ha.2 hb.1 hb.2 h0⟩
    · exact ⟨0, fun w => (sfixDiv_no2 a b w ha.1 ha.2 hb).mono fun e w' ⟨h1, h2⟩ => ⟨h1, h2 ▸ Kp.refl _⟩⟩
  · exact ⟨0, fun w => (sfixDiv_no a b w ha).mono fun e w' ⟨h1, h2⟩ => ⟨h1, h2 ▸ Kp.refl _⟩⟩
/-- Numbers at any place. -/
def Nms (w : World) (a : Option Addr) (l : List Int) : Prop := ∀ i, i < l.length → ∃ g, a = some ⟨g, 0, none⟩ ∧ g < w.heap.size ∧ w.cell? ⟨g, i, none⟩ = some (.int .i64 (intAt l i))
theorem Nms.nw {w w' : World} {a : Option Addr} {l : List Int} (h : Nms w a l) (k : Nw w w') : Nms w' a l := fun i hi => by
  obtain ⟨g, e, hg, hc⟩ := h i hi
  exact ⟨g, e, Nat.lt_of_lt_of_le hg (Below.size k), ((bcell k).1 _ _ hg).trans hc⟩
theorem Ins.nms {w : World} {B : Nat} {v : Value} {l : List Int} (h : Ins w B v l) : ∃ a c, v = .slice a l.length c ∧ Nms w a l := by
  rcases h.lay with ⟨rfl, rfl⟩ | ⟨g, c, rfl, _, hl⟩
  · exact ⟨none, 0, rfl, fun i hi => absurd hi (by simp)⟩
  · exact ⟨_, c, rfl, fun i hi => ⟨g, rfl, hl.1, hl.2.1 i hi⟩⟩
/-- The answer's block and the affine's, in a world that keeps what was there. -/
structure OS (w wx : World) (P : Nat) : Prop where
  r : SixE wx w.heap.size
  p : SixE wx P
  hP : w.heap.size < P
  nw : Nw w wx
theorem OS.go {w wx wy : World} {P : Nat} (h : OS w wx P) (k : Nw wx wy) : OS w wy P := ⟨h.r.nw k, h.p.nw k, h.hP, Nw.trans h.nw k⟩
theorem OS.set {w wx : World} {P : Nat} (h : OS w wx P) (j : Nat) (v : Int) (hj : j < 6) : OS w (wx.setCell ⟨P, j, none⟩ (.int .i64 v)) P :=
  ⟨h.r.off _ _ (by have := h.hP; omega), h.p.set j v hj, h.hP, Below.setCell h.nw (by show w.heap.size ≤ P; have := h.hP; omega) _⟩
theorem OS.off {w wx : World} {P : Nat} (h : OS w wx P) (b o : Nat) (v : Value) (h1 : w.heap.size < b) (h2 : P < b) : OS w (wx.setCell ⟨b, o, none⟩ v) P :=
  ⟨h.r.off _ _ (by omega), h.p.off _ _ (by omega), h.hP, Below.setCell h.nw (by show w.heap.size ≤ b; omega) _⟩
theorem mul_some1 (a b c d e f a' b' c' d' e' f' : Int) : ∃ x0 x1 x2 x3 x4 x5 : Int, ∀ w, Calls Tryz.prog 15 #[.agg #[.int .i64 a, .int .i64 b, .int .i64 c, .int .i64 d, .int .i64 e, .int .i64 f], .agg #[.int .i64 a', .int .i64 b', .int .i64 c', .int .i64 d', .int .i64 e', .int .i64 f']] w fun x w' => x = .returned (.agg #[.int .i64 x0, .int .i64 x1, .int .i64 x2, .int .i64 x3, .int .i64 x4, .int .i64 x5]) ∧ Kp w w' :=
  ⟨_, _, _, _, _, _, fun w => sl7mul w a b c d e f a' b' c' d' e' f' fmV sfm⟩
theorem good_some1 (a b c d e f : Int) : ∃ g : Bool, ∀ w, Calls Tryz.prog 7 #[.agg #[.int .i64 a, .int .i64 b, .int .i64 c, .int .i64 d, .int .i64 e, .int .i64 f]] w fun x w' => x = .returned (.bool g) ∧ Kp w w' :=
  ⟨_, fun w => sgoodAff w a b c d e f⟩
theorem OS.all {w wx : World} {P : Nat} (h : OS w wx P) (a0 a1 a2 a3 a4 a5 : Int) : OS w ((((((wx.setCell ⟨P, 0, none⟩ (.int .i64 a0)).setCell ⟨P, 1, none⟩ (.int .i64 a1)).setCell ⟨P, 2, none⟩ (.int .i64 a2)).setCell ⟨P, 3, none⟩ (.int .i64 a3)).setCell ⟨P, 4, none⟩ (.int .i64 a4)).setCell ⟨P, 5, none⟩ (.int .i64 a5)) P :=
  (((((h.set 0 a0 (by omega)).set 1 a1 (by omega)).set 2 a2 (by omega)).set 3 a3 (by omega)).set 4 a4 (by omega)).set 5 a5 (by omega)
def AffSome (e : Ending) : Prop := ∃ (a b c d x y : Int) (ok : Bool), e = .returned (.tuple #[.agg #[.int .i64 a, .int .i64 b, .int .i64 c, .int .i64 d, .int .i64 x, .int .i64 y], .bool ok])
theorem OS.start (w W0 w1 : World) (hW : w.alloc (.cells #[.int .i64 0, .int .i64 0, .int .i64 0, .int .i64 0, .int .i64 0, .int .i64 0] 24) = W0) (k1 : Nw W0 w1) :
    OS w (w1.alloc (.cells #[.int .i64 65536, .int .i64 0, .int .i64 0, .int .i64 65536, .int .i64 0, .int .i64 0] 24)) w1.heap.size := by
  have R0 : SixE W0 w.heap.size := by rw [← hW]; exact Six.new w 0 0 0 0 0 0 _
  have N0 : Nw w W0 := by rw [← hW]; exact (Below.refl _ _).alloc (Nat.le_refl _) _
  exact ⟨(R0.nw k1).nw ((Below.refl _ _).alloc (Nat.le_refl _) _), Six.new w1 _ _ _ _ _ _ _, Nat.lt_of_lt_of_le R0.lt (Below.size k1), (Nw.trans N0 k1).alloc (Below.size (Nw.trans N0 k1)) _⟩
/-- What is known of the word, and of how many numbers there are. -/
structure Kn (word : ByteArray) (l : List Int) (b0 b1 b2 b3 b4 b5 n1 n2 n3 n6 : Bool) : Prop where
  c0 : (word.toList == [116, 114, 97, 110, 115, 108, 97, 116, 101]) = b0
  c1 : (word.toList == [115, 99, 97, 108, 101]) = b1
  c2 : (word.toList == [114, 111, 116, 97, 116, 101]) = b2
  c3 : (word.toList == [109, 97, 116, 114, 105, 120]) = b3
  c4 : (word.toList == [115, 107, 101, 119, 88]) = b4
  c5 : (word.toList == [115, 107, 101, 119, 89]) = b5
  k1 : ((l.length : Int) == 1) = n1
  k2 : ((l.length : Int) == 2) = n2
  k3 : ((l.length : Int) == 3) = n3
  k6 : ((l.length : Int) == 6) = n6
theorem nw_und {a b : World} (h : Nw a.drew b) : Nw a b := by
  have h2 : Below a.drew.heap.size a.drew b := h
  exact ⟨h2.os, h2.tape, h2.output, h2.size, h2.block⟩
end Go.Proofs.YtpfhnedklihdoaaGreatDoor
namespace Go.Proofs.YtpfhnedklihdoaaGreatDoor
open Go.ChangeShapes Go.WideShapes Go.ChangeAt Go.RowKit
set_option linter.unusedVariables false

set_option maxRecDepth 100000 in
set_option maxHeartbeats 16000000 in
theorem one_A (w : World) (word : ByteArray) (va : Option Addr) (vc : Nat) (l : List Int) (hl : l.length ≤ 60) (hn : Nms w va l) (hkn : Kn word l true false false false false false true false false false ∨ Kn word l true false false false false false false true false false ∨ Kn word l false true false false false false true false false false ∨ Kn word l false true false false false false false true false false) :
    Calls Tryz.prog 71 #[.string word, .slice va l.length vc] w fun e w' => AffSome e ∧ Nw w w' := by
  have HN : Hid (Nms w va l) := hn
  clear hn
  obtain ⟨W0, hW0⟩ : ∃ W0, w.alloc (.cells #[.int .i64 0, .int .i64 0, .int .i64 0, .int .i64 0, .int .i64 0, .int .i64 0] 24) = W0 := ⟨_, rfl⟩
  have HW0 : Hid (_ = W0) := hW0
  clear hW0
  go_enter Tryz.func71, Tryz.ntmps71
  go_wp2_with fail
  rw [HW0.out]
  refine (ssame W0).mono ?_
  rintro e w1 ⟨rfl, h1⟩
  have HO : Hid (OS w _ w1.heap.size) := OS.start w W0 w1 HW0.out h1
  clear h1 HW0
  obtain ⟨W, hW⟩ : ∃ W, w1.alloc (.cells #[.int .i64 65536, .int .i64 0, .int .i64 0, .int .i64 65536, .int .i64 0, .int .i64 0] 24) = W := ⟨_, rfl⟩
  have HW : Hid (_ = W) := hW
  rw [hW] at HO
  clear hW
  go_upto_block 0 with fail
  rw [HW.out]
  clear HW
  generalize w1.heap.size = P at *
  clear w1
  go_cut [] (fun wx => OS w wx P)
  case first =>
    rcases hkn with h | h | h | h
    · have hk : l.length = 1 := by have := h.k1; simp at this; omega
      obtain ⟨c0, c1, c2, c3, c4, c5, k1, k2, k3, k6⟩ := h
      obtain ⟨g, rfl, hg, n0⟩ := HN.out 0 (by omega)
      have b0 : (0 : Int) < (l.length : Int) := by omega
      have hgP : g ≠ P := by have := HO.out.hP; omega
      have m0 := ((bcell HO.out.nw).1 _ 0 hg).trans n0
      clear hk
      obtain ⟨a0, a1, a2, a3, a4, a5, y0, y1, y2, y3, y4, y5, yf⟩ := HO.out.p.get
      have HE : Hid _ := HO.out.set 4 (intAt l 0) (by omega)
      go_wp2
      go_meet
      exact HE.out
    · have hk : l.length = 2 := by have := h.k2; simp at this; omega
      obtain ⟨c0, c1, c2, c3, c4, c5, k1, k2, k3, k6⟩ := h
      obtain ⟨g, rfl, hg, n0⟩ := HN.out 0 (by omega)
      have b0 : (0 : Int) < (l.length : Int) := by omega
      have hgP : g ≠ P := by have := HO.out.hP; omega
      have m0 := ((bcell HO.out.nw).1 _ 0 hg).trans n0
      obtain ⟨g1, e1, _, n1⟩ := HN.out 1 (by omega)
      injection e1 with e1; injection e1 with e1; subst e1
      have b1 : (1 : Int) < (l.length : Int) := by omega
      have m1 := ((bcell HO.out.nw).1 _ 1 hg).trans n1
      clear hk
      obtain ⟨a0, a1, a2, a3, a4, a5, y0, y1, y2, y3, y4, y5, yf⟩ := HO.out.p.get
      have m1q : (W.setCell ⟨P, 4, none⟩ (.int .i64 (intAt l 0))).cell? ⟨g, 1, none⟩ = some (.int .i64 (intAt l 1)) := (World.cell?_setCell_other _ _ _ _ (fun e => by injection e; omega)).trans m1
      have HE : Hid _ := (HO.out.set 4 (intAt l 0) (by omega)).set 5 (intAt l 1) (by omega)
      go_wp2
      go_meet
      exact HE.out
    · have hk : l.length = 1 := by have := h.k1; simp at this; omega
      obtain ⟨c0, c1, c2, c3, c4, c5, k1, k2, k3, k6⟩ := h
      obtain ⟨g, rfl, hg, n0⟩ := HN.out 0 (by omega)
      have b0 : (0 : Int) < (l.length : Int) := by omega
      have hgP : g ≠ P := by have := HO.out.hP; omega
      have m0 := ((bcell HO.out.nw).1 _ 0 hg).trans n0
      clear hk
      obtain ⟨a0, a1, a2, a3, a4, a5, y0, y1, y2, y3, y4, y5, yf⟩ := HO.out.p.get
      have m0q : (W.setCell ⟨P, 0, none⟩ (.int .i64 (intAt l 0))).cell? ⟨g, 0, none⟩ = some (.int .i64 (intAt l 0)) := (World.cell?_setCell_other _ _ _ _ (fun e => by injection e; omega)).trans m0
      have HE : Hid _ := (HO.out.set 0 (intAt l 0) (by omega)).set 3 (intAt l 0) (by omega)
      go_wp2
      go_meet
      exact HE.out
    · have hk : l.length = 2 := by have := h.k2; simp at this; omega
      obtain ⟨c0, c1, c2, c3, c4, c5, k1, k2, k3, k6⟩ := h
      obtain ⟨g, rfl, hg, n0⟩ := HN.out 0 (by omega)
      have b0 : (0 : Int) < (l.length : Int) := by omega
      have hgP : g ≠ P := by have := HO.out.hP; omega
      have m0 := ((bcell HO.out.nw).1 _ 0 hg).trans n0
      obtain ⟨g1, e1, _, n1⟩ := HN.out 1 (by omega)
      injection e1 with e1; injection e1 with e1; subst e1
      have b1 : (1 : Int) < (l.length : Int) := by omega
      have m1 := ((bcell HO.out.nw).1 _ 1 hg).trans n1
      clear hk
      obtain ⟨a0, a1, a2, a3, a4, a5, y0, y1, y2, y3, y4, y5, yf⟩ := HO.out.p.get
      have m1q : (W.setCell ⟨P, 0, none⟩ (.int .i64 (intAt l 0))).cell? ⟨g, 1, none⟩ = some (.int .i64 (intAt l 1)) := (World.cell?_setCell_other _ _ _ _ (fun e => by injection e; omega)).trans m1
      have HE : Hid _ := (HO.out.set 0 (intAt l 0) (by omega)).set 3 (intAt l 1) (by omega)
      go_wp2
      go_meet
      exact HE.out
  case rest =>
    have OE : Hid (OS w wc P) := hcut
    clear hcut HO HN
    obtain ⟨a0, a1, a2, a3, a4, a5, y0, y1, y2, y3, y4, y5, yf⟩ := OE.out.p.get
    obtain ⟨z0, z1, z2, z3, z4, z5, q0, q1, q2, q3, q4, q5, qf⟩ := OE.out.r.get
    have hPl := OE.out.p.lt
    have hRl := OE.out.r.lt
    clear yf
    go_wp2_with fail
    go_region_with (go_at_call 7; refine (sgoodAff _ a0 a1 a2 a3 a4 a5).mono ?_; rintro e w9 ⟨rfl, k9⟩; have kk := bcell k9.nw; have v0 := (kk.1 _ 0 hPl).trans y0; have v1 := (kk.1 _ 1 hPl).trans y1; have v2 := (kk.1 _ 2 hPl).trans y2; have v3 := (kk.1 _ 3 hPl).trans y3; have v4 := (kk.1 _ 4 hPl).trans y4; have v5 := (kk.1 _ 5 hPl).trans y5; have s0 := (kk.1 _ 0 hRl).trans q0; have s1 := (kk.1 _ 1 hRl).trans q1; have s2 := (kk.1 _ 2 hRl).trans q2; have s3 := (kk.1 _ 3 hRl).trans q3; have s4 := (kk.1 _ 4 hRl).trans q4; have s5 := (kk.1 _ 5 hRl).trans q5; have sf := fun o => (kk.2 _ o hRl).trans (qf o); clear kk)
    all_goals
      have N9 : Hid (Nw w w9) := Nw.trans OE.out.nw (nw_und k9.nw)
      obtain ⟨t0, t1, t2, t3, t4, t5⟩ := sset6 w9 w.heap.size (.int .i64 a0) (.int .i64 a1) (.int .i64 a2) (.int .i64 a3) (.int .i64 a4) (.int .i64 a5) s0 s1 s2 s3 s4 s5
      go_wp2
      refine bodyPost_ret (v := .tuple #[.agg #[.int .i64 a0, .int .i64 a1, .int .i64 a2, .int .i64 a3, .int .i64 a4, .int .i64 a5], .bool (gA a0 a1 a2 a3 a4 a5)]) (by simp [results, Tryz.results71, go_sem, t0, t1, t2, t3, t4, t5]) rfl ⟨⟨_, _, _, _, _, _, _, rfl⟩, nw_six N9.out (Nat.le_refl _) _ _ _ _ _ _⟩
end Go.Proofs.YtpfhnedklihdoaaGreatDoor
