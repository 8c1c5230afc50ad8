/-
  What the specification makes of one word of a transform: som
-/
import Derived.Test.YtdjemnbdaddegaaJAC
import Derived.Test.YtdjemnbdaddegaaJAS
import Derived.Test.YtdjemnbdaddegaaJAJ
import Derived.Test.YtdjemnbdaddegaaJAK
import Derived.BigRegion
import Derived.Deep.CutBlock
import Derived.Deep.QuietTactic
import Derived.BigQuiet
import Derived.Test.YtdjemnbdaddegaaJAA
import Derived.Test.YtdjemnbdaddegaaJAD
namespace Go.Proofs.Ytdjemnbdaddegaa
open Go.ChangeShapes Go.WideShapes Go.ChangeAt Go.RowKit
set_option linter.unusedVariables false
theorem turn_some (a : Int) : ∃ v : Int, (0 ≤ v ∧ v < 4096) ∧ ∀ w, Calls Try.prog 143 #[.int .i64 a] w fun e w' => e = .returned (.int .i64 v) ∧ w' = w := by
 by_cases h : -1099511627776 ≤ a ∧ a ≤ 1099511627776
 ·exact ⟨_, ⟨Int.emod_nonneg _ (by omega), Int.emod_lt_of_pos _ (by omega)⟩, fun w => sturn_yes a w h.1 h.2⟩
 ·exact ⟨0, ⟨by omega, by omega⟩, fun w => sturn_no a w h⟩
theorem sin_some (t : Int) (h : 0 ≤ t ∧ t < 4096) : ∃ v : Int, ∀ w, Calls Try.prog 98 #[.int .i64 t] w fun e w' => e = .returned (.int .i64 v) ∧ Kp w w' := ⟨_, fun w => ssin_any t w h.1 h.2⟩
theorem cos_some (t : Int) (h : 0 ≤ t ∧ t < 4096) : ∃ v : Int, ∀ w, Calls Try.prog 97 #[.int .i64 t] w fun e w' => e = .returned (.int .i64 v) ∧ Kp w w' := ⟨_, fun w => scos_any t w (by omega) (by omega)⟩
theorem div_some (a b : Int) : ∃ v : Int, ∀ w, Calls Try.prog 144 #[.int .i64 a, .int .i64 b] w fun e w' => e = .returned (.int .i64 v) ∧ Kp w w' := by
 by_cases ha : -1099511627776 ≤ a ∧ a ≤ 1099511627776
 ·by_cases hb : -1099511627776 ≤ b ∧ b ≤ 1099511627776
  ·by_cases h0 : b = 0
   ·subst h0
    exact ⟨0, fun w => (sfixDiv_no3 a w ha.1 ha.2).mono fun e w' ⟨h1, h2⟩ => ⟨h1, h2 ▸ Kp.refl _⟩⟩
   ·exact ⟨_, fun w => sfixDiv_yes a b w ha.1 ha.2 hb.1 hb.2 h0⟩
  ·exact ⟨0, fun w => (sfixDiv_no2 a b w ha.1 ha.2 hb).mono fun e w' ⟨h1, h2⟩ => ⟨h1, h2 ▸ Kp.refl _⟩⟩
 ·exact ⟨0, fun w => (sfixDiv_no a b w ha).mono fun e w' ⟨h1, h2⟩ => ⟨h1, h2 ▸ Kp.refl _⟩⟩
def Nms (w : World) (a : Option Addr) (l : List Int) : Prop := ∀ i, i < l.length → ∃ g, a = some ⟨g, 0, none⟩ ∧ g < w.heap.size ∧ w.cell? ⟨g, i, none⟩ = some (.int .i64 (intAt l i))
theorem Nms.nw {w w' : World} {a : Option Addr} {l : List Int} (h : Nms w a l) (k : Nw w w') : Nms w' a l := fun i hi => by
 obtain ⟨g, e, hg, hc⟩ := h i hi
 exact ⟨g, e, Nat.lt_of_lt_of_le hg (Below.size k), ((bcell k).1 _ _ hg).trans hc⟩
theorem Ins.nms {w : World} {B : Nat} {v : Value} {l : List Int} (h : Ins w B v l) : ∃ a c, v = .slice a l.length c ∧ Nms w a l := by
 rcases h.lay with ⟨rfl, rfl⟩ | ⟨g, c, rfl, _, hl⟩
 ·exact ⟨none, 0, rfl, fun i hi => absurd hi (by simp)⟩
 ·exact ⟨_, c, rfl, fun i hi => ⟨g, rfl, hl.1, hl.2.1 i hi⟩⟩
structure OS (w wx : World) (P : Nat) : Prop where
 r : SixE wx w.heap.size
 p : SixE wx P
 hP : w.heap.size < P
 nw : Nw w wx
theorem OS.go {w wx wy : World} {P : Nat} (h : OS w wx P) (k : Nw wx wy) : OS w wy P := ⟨h.r.nw k, h.p.nw k, h.hP, Nw.trans h.nw k⟩
theorem OS.set {w wx : World} {P : Nat} (h : OS w wx P) (j : Nat) (v : Int) (hj : j < 6) : OS w (wx.setCell ⟨P, j, none⟩ (.int .i64 v)) P :=
 ⟨h.r.off _ _ (by have := h.hP; omega), h.p.set j v hj, h.hP, Below.setCell h.nw (by show w.heap.size ≤ P; have := h.hP; omega) _⟩
theorem OS.off {w wx : World} {P : Nat} (h : OS w wx P) (b o : Nat) (v : Value) (h1 : w.heap.size < b) (h2 : P < b) : OS w (wx.setCell ⟨b, o, none⟩ v) P :=
 ⟨h.r.off _ _ (by omega), h.p.off _ _ (by omega), h.hP, Below.setCell h.nw (by show w.heap.size ≤ b; omega) _⟩
theorem mul_some1 (a b c d e f a' b' c' d' e' f' : Int) : ∃ x0 x1 x2 x3 x4 x5 : Int, ∀ w, Calls Try.prog 131 #[.agg #[.int .i64 a, .int .i64 b, .int .i64 c, .int .i64 d, .int .i64 e, .int .i64 f], .agg #[.int .i64 a', .int .i64 b', .int .i64 c', .int .i64 d', .int .i64 e', .int .i64 f']] w fun x w' => x = .returned (.agg #[.int .i64 x0, .int .i64 x1, .int .i64 x2, .int .i64 x3, .int .i64 x4, .int .i64 x5]) ∧ Kp w w' :=
 ⟨_, _, _, _, _, _, fun w => sl7mul w a b c d e f a' b' c' d' e' f' fmV sfm⟩
theorem good_some1 (a b c d e f : Int) : ∃ g : Bool, ∀ w, Calls Try.prog 54 #[.agg #[.int .i64 a, .int .i64 b, .int .i64 c, .int .i64 d, .int .i64 e, .int .i64 f]] w fun x w' => x = .returned (.bool g) ∧ Kp w w' :=
 ⟨_, fun w => sgoodAff w a b c d e f⟩
theorem OS.all {w wx : World} {P : Nat} (h : OS w wx P) (a0 a1 a2 a3 a4 a5 : Int) : OS w ((((((wx.setCell ⟨P, 0, none⟩ (.int .i64 a0)).setCell ⟨P, 1, none⟩ (.int .i64 a1)).setCell ⟨P, 2, none⟩ (.int .i64 a2)).setCell ⟨P, 3, none⟩ (.int .i64 a3)).setCell ⟨P, 4, none⟩ (.int .i64 a4)).setCell ⟨P, 5, none⟩ (.int .i64 a5)) P :=
 (((((h.set 0 a0 (by omega)).set 1 a1 (by omega)).set 2 a2 (by omega)).set 3 a3 (by omega)).set 4 a4 (by omega)).set 5 a5 (by omega)
def AffSome (e : Ending) : Prop := ∃ (a b c d x y : Int) (ok : Bool), e = .returned (.tuple #[.agg #[.int .i64 a, .int .i64 b, .int .i64 c, .int .i64 d, .int .i64 x, .int .i64 y], .bool ok])
theorem OS.start (w W0 w1 : World) (hW : w.alloc (.cells #[.int .i64 0, .int .i64 0, .int .i64 0, .int .i64 0, .int .i64 0, .int .i64 0] 31) = W0) (k1 : Nw W0 w1) :
  OS w (w1.alloc (.cells #[.int .i64 65536, .int .i64 0, .int .i64 0, .int .i64 65536, .int .i64 0, .int .i64 0] 31)) w1.heap.size := by
 have R0 : SixE W0 w.heap.size := by rw [← hW]; exact Six.new w 0 0 0 0 0 0 _
 have N0 : Nw w W0 := by rw [← hW]; exact (Below.refl _ _).alloc (Nat.le_refl _) _
 exact ⟨(R0.nw k1).nw ((Below.refl _ _).alloc (Nat.le_refl _) _), Six.new w1 _ _ _ _ _ _ _, Nat.lt_of_lt_of_le R0.lt (Below.size k1), (Nw.trans N0 k1).alloc (Below.size (Nw.trans N0 k1)) _⟩
structure Kn (word : ByteArray) (l : List Int) (b0 b1 b2 b3 b4 b5 n1 n2 n3 n6 : Bool) : Prop where
 c0 : (word.toList == [116, 114, 97, 110, 115, 108, 97, 116, 101]) = b0
 c1 : (word.toList == [115, 99, 97, 108, 101]) = b1
 c2 : (word.toList == [114, 111, 116, 97, 116, 101]) = b2
 c3 : (word.toList == [109, 97, 116, 114, 105, 120]) = b3
 c4 : (word.toList == [115, 107, 101, 119, 88]) = b4
 c5 : (word.toList == [115, 107, 101, 119, 89]) = b5
 k1 : ((l.length : Int) == 1) = n1
 k2 : ((l.length : Int) == 2) = n2
 k3 : ((l.length : Int) == 3) = n3
 k6 : ((l.length : Int) == 6) = n6
theorem nw_und {a b : World} (h : Nw a.drew b) : Nw a b := by
 have h2 : Below a.drew.heap.size a.drew b := h
 exact ⟨h2.os, h2.tape, h2.output, h2.size, h2.block⟩
theorem data_len (s : ByteArray) : s.data.toList.length = s.size := by show _ = s.data.size; simp
def brk (c : UInt8) (l : List UInt8) : Nat := (l.takeWhile fun b => b != c).length
theorem brk_cons (c b : UInt8) (l : List UInt8) : brk c (b :: l) = if b = c then 0 else brk c l + 1 := by
 unfold brk
 rw [List.takeWhile_cons]
 by_cases h : b = c
 ·simp [h]
 ·simp [h]
theorem brk_le (c : UInt8) : ∀ l, brk c l ≤ l.length := fun l => (List.takeWhile_sublist _).length_le
theorem brk_at (c : UInt8) : ∀ (l : List UInt8) (h : brk c l < l.length), l[brk c l] = c := by
 intro l
 induction l with
 | nil => intro h; simp at h
 | cons b l ih =>
  intro h
  by_cases hb : b = c
  ·subst hb
   have e : brk b (b :: l) = 0 := by rw [brk_cons, if_pos rfl]
   simp [e]
  ·have e : brk c (b :: l) = brk c l + 1 := by rw [brk_cons, if_neg hb]
   simp only [e] at h ⊢
   rw [List.getElem_cons_succ]
   exact ih (by simpa using h)
theorem hd_byte (s : ByteArray) (k : Nat) (h : k < s.size) : s.data.toList.drop k = s[k] :: s.data.toList.drop (k + 1) := by
 have h1 : k < s.data.toList.length := by rw [data_len]; exact h
 rw [List.drop_eq_getElem_cons h1]
 rfl
theorem hd_none (s : ByteArray) (k : Nat) (h : ¬ k < s.size) : s.data.toList.drop k = [] := List.drop_eq_nil_of_le (by rw [data_len]; omega)
def fndB (c : UInt8) (s : ByteArray) (k : Nat) : Nat := k + brk c (s.data.toList.drop k)
theorem fndB_hit {c : UInt8} {s : ByteArray} {k : Nat} (h : k < s.size) (hc : s[k] = c) : fndB c s k = k := by
 unfold fndB
 rw [hd_byte s k h, brk_cons, if_pos hc]; rfl
theorem fndB_miss {c : UInt8} {s : ByteArray} {k : Nat} (h : k < s.size) (hc : s[k] ≠ c) : fndB c s k = fndB c s (k + 1) := by
 unfold fndB
 rw [hd_byte s k h, brk_cons, if_neg hc]; omega
theorem fndB_end {c : UInt8} {s : ByteArray} {k : Nat} (h : ¬ k < s.size) : fndB c s k = k := by
 unfold fndB
 rw [hd_none s k h]; rfl
theorem fndB_le {c : UInt8} {s : ByteArray} {k : Nat} (h : k ≤ s.size) : fndB c s k ≤ s.size := by
 have := brk_le c (s.data.toList.drop k)
 rw [List.length_drop, data_len] at this
 unfold fndB; omega
theorem byte_nne {b c : UInt8} (h : b ≠ c) : ((b.toNat : Int) != (c.toNat : Int)) = true := by
 rw [bne_iff_ne]
 intro e
 exact h (UInt8.toNat_inj.1 (by omega))
theorem byte_nee {b c : UInt8} (h : b = c) : ((b.toNat : Int) != (c.toNat : Int)) = false := by rw [h]; simp
set_option maxHeartbeats 4000000 in
theorem sfind (s : ByteArray) (c : UInt8) (n : Nat) (w : World) (hn : n ≤ s.size) (hs : s.size ≤ 1048576) :
  Calls Try.prog 128 #[.string s, .int .i64 (n : Int), .int .u8 (c.toNat : Int)] w fun e w' => e = .returned (.int .i64 (fndB c s n : Nat)) ∧ w' = w := by
 go_enter Try.func128, Try.ntmps128
 go_wp2
 go_loop [1] (fun v => ∃ k : Nat, v = .int .i64 (k : Int) ∧ k ≤ s.size ∧ fndB c s n = fndB c s k) (fun v => s.size - (intOf v).toNat)
 case atStart => exact ⟨n, rfl, hn, rfl⟩
 case round =>
  obtain ⟨k, rfl, hk, hf⟩ := hrel
  by_cases hlt : k < s.size
  ·have hltI : (k : Int) < (s.size : Int) := by omega
   by_cases hc : s[k] = c
   ·have g1 := byte_nee hc
    have HE : Hid (fndB c s n = k) := by show _ = _; rw [hf, fndB_hit hlt hc]
    clear hf hc
    go_wp2
    go_ret
    exact ⟨by rw [HE.out]; rfl, rfl⟩
   ·have g1 := byte_nne hc
    have HE : Hid (fndB c s n = fndB c s (k + 1)) := by show _ = _; rw [hf, fndB_miss hlt hc]
    clear hf hc
    go_wp2
    go_round
    case rel => exact ⟨k + 1, by go_num, by omega, HE.out⟩
    case measure => simp [intOf]; omega
  ·have hltI : ¬ ((k : Int) < (s.size : Int)) := by omega
   have HE : Hid (fndB c s n = k) := by show _ = _; rw [hf, fndB_end hlt]
   clear hf
   go_wp2
   go_ret
   exact ⟨by rw [HE.out]; rfl, rfl⟩
def OneS : Prop := ∀ (w : World) (word : ByteArray) (va : Option Addr) (vc : Nat) (l : List Int), l.length ≤ 60 → Nms w va l → Calls Try.prog 130 #[.string word, .slice va l.length vc] w fun e w' => AffSome e ∧ Nw w w'
theorem fnd_two {s : ByteArray} {c d : UInt8} (hne : c ≠ d) {k : Nat} (hk : k ≤ s.size) (h : fndB c s k < s.size) : fndB c s k + 1 ≤ fndB d s (fndB c s k) := by
 have hcd : s[fndB c s k]'h = c := by
  have e1 : fndB c s k = k + brk c (s.data.toList.drop k) := rfl
  have hl : brk c (s.data.toList.drop k) < (s.data.toList.drop k).length := by rw [List.length_drop, data_len]; omega
  have h2 := brk_at c (s.data.toList.drop k) hl
  rw [List.getElem_drop] at h2
  exact h2
 generalize fndB c s k = j at *
 rw [fndB_miss h (by rw [hcd]; exact hne)]
 unfold fndB
 omega
def szV : Value → Nat
 | .string s => s.size
 | _ => 0
theorem mul_some (a b c d e f a' b' c' d' e' f' : Int) : ∃ x0 x1 x2 x3 x4 x5 : Int, ∀ w, Calls Try.prog 131 #[.agg #[.int .i64 a, .int .i64 b, .int .i64 c, .int .i64 d, .int .i64 e, .int .i64 f], .agg #[.int .i64 a', .int .i64 b', .int .i64 c', .int .i64 d', .int .i64 e', .int .i64 f']] w fun x w' => x = .returned (.agg #[.int .i64 x0, .int .i64 x1, .int .i64 x2, .int .i64 x3, .int .i64 x4, .int .i64 x5]) ∧ Kp w w' :=
 ⟨_, _, _, _, _, _, fun w => sl7mul w a b c d e f a' b' c' d' e' f' fmV sfm⟩
theorem good_some (a b c d e f : Int) : ∃ g : Bool, ∀ w, Calls Try.prog 54 #[.agg #[.int .i64 a, .int .i64 b, .int .i64 c, .int .i64 d, .int .i64 e, .int .i64 f]] w fun x w' => x = .returned (.bool g) ∧ Kp w w' :=
 ⟨_, fun w => sgoodAff w a b c d e f⟩
set_option maxRecDepth 100000 in
set_option maxHeartbeats 16000000 in
theorem l7trans_some (H1 : OneS) (w : World) (s0 : ByteArray) (hs0 : s0.size ≤ 600) :
  Calls Try.prog 105 #[.string s0] w fun e w' => AffSome e ∧ Nw w w' := by
 have HONE : Hid OneS := H1
 clear H1
 obtain ⟨W0, hW0⟩ : ∃ W0, w.alloc (.cells #[.int .i64 0, .int .i64 0, .int .i64 0, .int .i64 0, .int .i64 0, .int .i64 0] 31) = W0 := ⟨_, rfl⟩
 have HW0 : Hid (_ = W0) := hW0
 clear hW0
 go_enter Try.func105, Try.ntmps105
 go_wp2_with fail
 rw [HW0.out]
 refine (ssame W0).mono ?_
 rintro e w1 ⟨rfl, h1⟩
 have HO : Hid (OS w _ w1.heap.size) := OS.start w W0 w1 HW0.out h1
 clear h1 HW0
 obtain ⟨W, hW⟩ : ∃ W, w1.alloc (.cells #[.int .i64 65536, .int .i64 0, .int .i64 0, .int .i64 65536, .int .i64 0, .int .i64 0] 31) = W := ⟨_, rfl⟩
 have HW : Hid (_ = W) := hW
 rw [hW] at HO
 clear hW
 go_wp2_with fail
 rw [HW.out]
 clear HW
 generalize w1.heap.size = P at *
 clear w1
 refine (trim_some s0 W (by omega)).mono ?_
 rintro e w2 ⟨t0, rfl, ht1, hq⟩
 have hq2 := hq.symm; clear hq; subst hq2
 have ht0 : t0.size ≤ 600 := by omega
 go_wp2
 go_loopw [0] (fun v wr => ∃ s : ByteArray, v = .string s ∧ s.size ≤ 600 ∧ OS w wr P) (fun v _ => szV v)
 case atStart => exact ⟨t0, rfl, ht0, HO.out⟩
 case round =>
  obtain ⟨s, rfl, hs, hos⟩ := hrel
  have OR : Hid (OS w wr P) := hos
  clear hos
  by_cases hz : s.size = 0
  ·obtain rfl := empty_of hz
   obtain ⟨a0, a1, a2, a3, a4, a5, y0, y1, y2, y3, y4, y5, yf⟩ := OR.out.p.get
   obtain ⟨z0, z1, z2, z3, z4, z5, q0, q1, q2, q3, q4, q5, qf⟩ := OR.out.r.get
   obtain ⟨t0, t1, t2, t3, t4, t5⟩ := sset6 wr w.heap.size (.int .i64 a0) (.int .i64 a1) (.int .i64 a2) (.int .i64 a3) (.int .i64 a4) (.int .i64 a5) q0 q1 q2 q3 q4 q5
   go_wp2
   refine bodyPost_ret (v := .tuple #[.agg #[.int .i64 a0, .int .i64 a1, .int .i64 a2, .int .i64 a3, .int .i64 a4, .int .i64 a5], .bool true]) (by simp [results, Try.results105, go_sem, t0, t1, t2, t3, t4, t5]) rfl ⟨⟨_, _, _, _, _, _, _, rfl⟩, nw_six OR.out.nw (Nat.le_refl _) _ _ _ _ _ _⟩
  ·have n1 := ne_nil (s := s) (by omega)
   have n2 := ne_emp (s := s) (by omega)
   have HF1 : Hid (Calls Try.prog 128 #[.string s, .int .i64 (0 : Nat), .int .u8 ((40 : UInt8).toNat : Int)] wr fun e w' => e = .returned (.int .i64 (fndB 40 s 0 : Nat)) ∧ w' = wr) := sfind s 40 0 wr (Nat.zero_le _) (by omega)
   have hop : fndB 40 s 0 ≤ s.size := fndB_le (Nat.zero_le _)
   have hen : fndB 41 s (fndB 40 s 0) ≤ s.size := fndB_le hop
   have HF2 : Hid (Calls Try.prog 128 #[.string s, .int .i64 (fndB 40 s 0 : Nat), .int .u8 ((41 : UInt8).toNat : Int)] wr fun e w' => e = .returned (.int .i64 (fndB 41 s (fndB 40 s 0) : Nat)) ∧ w' = wr) := sfind s 41 (fndB 40 s 0) wr hop (by omega)
   have HX : Hid (fndB 41 s (fndB 40 s 0) < s.size → fndB 40 s 0 + 1 ≤ fndB 41 s (fndB 40 s 0)) := fun h => by
    by_cases h40 : fndB 40 s 0 < s.size
    ·exact fnd_two (by decide) (Nat.zero_le _) h40
    ·have e : fndB 41 s (fndB 40 s 0) = fndB 40 s 0 := fndB_end h40
     omega
   generalize fndB 41 s (fndB 40 s 0) = en at *
   generalize fndB 40 s 0 = op at *
   obtain ⟨z0, z1, z2, z3, z4, z5, q0, q1, q2, q3, q4, q5, qf⟩ := OR.out.r.get
   by_cases hend : en = s.size
   ·have de : ((en : Int) == (s.size : Int)) = true := by rw [hend]; simp
    obtain ⟨t0, t1, t2, t3, t4, t5⟩ := sset6 wr w.heap.size (.int .i64 0) (.int .i64 0) (.int .i64 0) (.int .i64 0) (.int .i64 0) (.int .i64 0) q0 q1 q2 q3 q4 q5
    clear hend
    go_wp2_with fail
    refine Calls.mono HF1.out ?_
    rintro e w2 ⟨rfl, hq⟩
    have hq2 := hq.symm; clear hq; subst hq2
    go_wp2_with fail
    refine Calls.mono HF2.out ?_
    rintro e w2 ⟨rfl, hq⟩
    have hq2 := hq.symm; clear hq; subst hq2
    go_wp2
    refine bodyPost_ret (v := .tuple #[.agg #[.int .i64 0, .int .i64 0, .int .i64 0, .int .i64 0, .int .i64 0, .int .i64 0], .bool false]) (by simp [results, Try.results105, go_sem, t0, t1, t2, t3, t4, t5]) rfl ⟨⟨_, _, _, _, _, _, _, rfl⟩, nw_six OR.out.nw (Nat.le_refl _) _ _ _ _ _ _⟩
   ·have de : ((en : Int) == (s.size : Int)) = false := beq_eq_false_iff_ne.2 (by omega)
    have hlt : en < s.size := by omega
    have hoe := HX.out hlt
    have i1 : (0 : Int) ≤ (op : Int) + 1 := by omega
    have i2 : (op : Int) + 1 ≤ (en : Int) := by omega
    have i3 : (en : Int) ≤ (s.size : Int) := by omega
    have i4 : (op : Int) ≤ (s.size : Int) := by omega
    have i5 : (0 : Int) ≤ (en : Int) + 1 := by omega
    have i6 : (en : Int) + 1 ≤ (s.size : Int) := by omega
    have z1' : (s.extract (op + 1) en).size ≤ 600 := by rw [ByteArray.size_extract]; omega
    have z2' : (s.extract 0 op).size ≤ 600 := by rw [ByteArray.size_extract]; omega
    have z3' : (s.extract (en + 1) s.size).size < s.size := by rw [ByteArray.size_extract]; omega
    clear hend HX
    go_wp2_with fail
    refine Calls.mono HF1.out ?_
    rintro e w2 ⟨rfl, hq⟩
    have hq2 := hq.symm; clear hq; subst hq2
    go_wp2_with fail
    refine Calls.mono HF2.out ?_
    rintro e w2 ⟨rfl, hq⟩
    have hq2 := hq.symm; clear hq; subst hq2
    go_wp2_with fail
    refine (snums_few (s.extract (op + 1) en) wr (by omega)).mono ?_
    rintro e w3 ⟨v, l, ok, rfl, hfew, hins, hb3⟩
    have N3 : Hid (Nw wr w3) := hb3
    have O3 : Hid (OS w w3 P) := OR.out.go N3.out
    obtain ⟨va, vc, hv, hnm⟩ := hins.nms
    subst hv
    have HNM : Hid (Nms w3 va l) := hnm
    clear hins hb3 hnm q0 q1 q2 q3 q4 q5 qf
    cases ok with
    | false =>
     obtain ⟨z0, z1, z2, z3, z4, z5, q0, q1, q2, q3, q4, q5, qf⟩ := O3.out.r.get
     obtain ⟨t0, t1, t2, t3, t4, t5⟩ := sset6 w3 w.heap.size (.int .i64 0) (.int .i64 0) (.int .i64 0) (.int .i64 0) (.int .i64 0) (.int .i64 0) q0 q1 q2 q3 q4 q5
     go_wp2
     refine bodyPost_ret (v := .tuple #[.agg #[.int .i64 0, .int .i64 0, .int .i64 0, .int .i64 0, .int .i64 0, .int .i64 0], .bool false]) (by simp [results, Try.results105, go_sem, t0, t1, t2, t3, t4, t5]) rfl ⟨⟨_, _, _, _, _, _, _, rfl⟩, nw_six O3.out.nw (Nat.le_refl _) _ _ _ _ _ _⟩
    | true =>
     go_wp2_with fail
     refine (trim_some (s.extract 0 op) w3 (by omega)).mono ?_
     rintro e w4 ⟨word, rfl, hwd, hq⟩
     have hq2 := hq.symm; clear hq; subst hq2
     go_wp2_with fail
     refine (HONE.out w3 word va vc l hfew HNM.out).mono ?_
     rintro e w5 ⟨⟨b0, b1, b2, b3, b4, b5, ok2, rfl⟩, k5⟩
     have O5 : Hid (OS w w5 P) := O3.out.go k5
     clear k5
     cases ok2 with
     | false =>
      obtain ⟨W5, hW5⟩ : ∃ W5, w5.alloc (.cells #[.int .i64 b0, .int .i64 b1, .int .i64 b2, .int .i64 b3, .int .i64 b4, .int .i64 b5] 31) = W5 := ⟨_, rfl⟩
      have O6 : Hid (OS w W5 P) := by show OS _ _ _; rw [← hW5]; exact O5.out.go ((Below.refl _ _).alloc (Nat.le_refl _) _)
      obtain ⟨z0, z1, z2, z3, z4, z5, q0, q1, q2, q3, q4, q5, qf⟩ := O6.out.r.get
      obtain ⟨t0, t1, t2, t3, t4, t5⟩ := sset6 W5 w.heap.size (.int .i64 0) (.int .i64 0) (.int .i64 0) (.int .i64 0) (.int .i64 0) (.int .i64 0) q0 q1 q2 q3 q4 q5
      go_upto_region 12 with fail
      go_wp2
      refine bodyPost_ret (v := .tuple #[.agg #[.int .i64 0, .int .i64 0, .int .i64 0, .int .i64 0, .int .i64 0, .int .i64 0], .bool false]) (by simp [results, Try.results105, go_sem, t0, t1, t2, t3, t4, t5]) rfl ⟨⟨_, _, _, _, _, _, _, rfl⟩, nw_six O6.out.nw (Nat.le_refl _) _ _ _ _ _ _⟩
     | true =>
      obtain ⟨W5, hW5⟩ : ∃ W5, w5.alloc (.cells #[.int .i64 b0, .int .i64 b1, .int .i64 b2, .int .i64 b3, .int .i64 b4, .int .i64 b5] 31) = W5 := ⟨_, rfl⟩
      have O6 : Hid (OS w W5 P) := by show OS _ _ _; rw [← hW5]; exact O5.out.go ((Below.refl _ _).alloc (Nat.le_refl _) _)
      have B6 : SixE W5 w5.heap.size := by rw [← hW5]; exact Six.new w5 _ _ _ _ _ _ _
      obtain ⟨e0, e1, e2, e3, e4, e5, x0, x1, x2, x3, x4, x5, xf⟩ := B6.get
      obtain ⟨a0, a1, a2, a3, a4, a5, y0, y1, y2, y3, y4, y5, yf⟩ := O6.out.p.get
      obtain ⟨c0, c1, c2, c3, c4, c5, hM⟩ := mul_some a0 a1 a2 a3 a4 a5 e0 e1 e2 e3 e4 e5
      obtain ⟨gd, hG⟩ := good_some c0 c1 c2 c3 c4 c5
      have HM : Hid _ := hM
      have HG : Hid _ := hG
      clear hM hG
      go_upto_region 12 with fail
      clear hW5
      go_wp2_with fail
      refine (HM.out W5).mono ?_
      rintro e w7 ⟨rfl, k7⟩
      have O7 : Hid (OS w w7 P) := O6.out.go k7.nw
      clear k7 y0 y1 y2 y3 y4 y5 yf x0 x1 x2 x3 x4 x5 xf
      obtain ⟨a0', a1', a2', a3', a4', a5', y0, y1, y2, y3, y4, y5, yf⟩ := O7.out.p.get
      have O8 : Hid (OS w _ P) := O7.out.all c0 c1 c2 c3 c4 c5
      obtain ⟨t0, t1, t2, t3, t4, t5⟩ := sset6 w7 P (.int .i64 c0) (.int .i64 c1) (.int .i64 c2) (.int .i64 c3) (.int .i64 c4) (.int .i64 c5) y0 y1 y2 y3 y4 y5
      go_wp2_with fail
      refine (HG.out _).mono ?_
      rintro e w9 ⟨rfl, k9⟩
      have O9 : Hid (OS w w9 P) := O8.out.go k9.nw
      clear k9 t0 t1 t2 t3 t4 t5 y0 y1 y2 y3 y4 y5 yf
      cases gd with
      | false =>
       obtain ⟨z0, z1, z2, z3, z4, z5, q0, q1, q2, q3, q4, q5, qf⟩ := O9.out.r.get
       obtain ⟨t0, t1, t2, t3, t4, t5⟩ := sset6 w9 w.heap.size (.int .i64 0) (.int .i64 0) (.int .i64 0) (.int .i64 0) (.int .i64 0) (.int .i64 0) q0 q1 q2 q3 q4 q5
       go_wp2
       refine bodyPost_ret (v := .tuple #[.agg #[.int .i64 0, .int .i64 0, .int .i64 0, .int .i64 0, .int .i64 0, .int .i64 0], .bool false]) (by simp [results, Try.results105, go_sem, t0, t1, t2, t3, t4, t5]) rfl ⟨⟨_, _, _, _, _, _, _, rfl⟩, nw_six O9.out.nw (Nat.le_refl _) _ _ _ _ _ _⟩
      | true =>
       go_wp2_with fail
       refine (gap_some (s.extract (en + 1) s.size) w9 (by omega)).mono ?_
       rintro e w10 ⟨s2, rfl, hs2, hq⟩
       have hq2 := hq.symm; clear hq; subst hq2
       go_wp2
       go_roundw
       case rel => exact ⟨s2, rfl, by omega, O9.out⟩
       case measure => simp [szV]; omega
end Go.Proofs.Ytdjemnbdaddegaa
