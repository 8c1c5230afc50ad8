/-
  A slot that a drawn region fills later only; each theorem na
-/
import Derived.Test.YtdjemnbdaddegaaJAG
import Derived.Test.YtdjemnbdaddegaaJAA
import Derived.Test.YtdjemnbdaddegaaJAD
import Derived.Test.YtdjemnbdaddegaaJAF
import Derived.Test.YtdjemnbdaddegaaJAE
import Derived.Deep.DeepCutAuto
namespace Go.Proofs.Ytdjemnbdaddegaa
open Go.ChangeShapes Go.WideShapes Go.ChangeAt Go.RowKit
set_option linter.unusedVariables false
theorem early_of {ops : Array Oper} {listed : Array Bool} {i j d : Nat} (hC : Clo ops listed) (hu : listed.getD i false = false) (hone : (List.range ops.size).all (fun k => decide (k = j) || !(decide (dstOf ops k = some d))) = true) (p : List Nat) (hp : pathB ops (j :: p) = true) (hi : i ∈ p) : ¬ got ops listed d := by
 rintro ⟨k, h1, h2⟩
 have hlt : k < ops.size := by
  rcases Nat.lt_or_ge k ops.size with h4 | h4
  ·exact h4
  ·unfold dstOf at h2; rw [Array.getElem?_eq_none h4] at h2; cases h2
 have h5 := List.all_eq_true.1 hone k (List.mem_range.2 hlt)
 rw [h2] at h5
 simp only [decide_true, Bool.not_true, Bool.or_false, decide_eq_true_eq] at h5
 subst h5
 have := hC.path p k hp h1 i hi
 rw [hu] at this
 cases this
theorem ret_bool {a b : Bool} (h : a = b) : Ending.returned (.bool a) = .returned (.bool b) := by rw [h]
theorem in_any (w : World) (n lo hi : Int) : Calls Try.prog 45 #[.int .i64 n, .int .i64 lo, .int .i64 hi] w fun e w' => e = .returned (.bool (decide (lo ≤ n ∧ n ≤ hi))) ∧ w' = w := by
 go_enter Try.func45, Try.ntmps45
 go_wp2
 all_goals
  go_ret
  exact ⟨ret_bool (by rw [Bool.eq_iff_iff]; simp; omega), rfl⟩
theorem all_false {α : Type} (f : α → Bool) (d : α) (l : List α) (k : Nat) (hk : k < l.length) (h : f (l.getD k d) = false) : l.all f = false := by
 rw [List.all_eq_false]
 refine ⟨l.getD k d, ?_, by rw [h]; decide⟩
 rw [show l.getD k d = l[k] by simp [hk]]
 exact List.getElem_mem hk
theorem all_true {α : Type} (f : α → Bool) (d : α) (l : List α) (h : ∀ k, k < l.length → f (l.getD k d) = true) : l.all f = true := by
 rw [List.all_eq_true]
 intro x hx
 obtain ⟨k, hk, rfl⟩ := List.getElem_of_mem hx
 have := h k hk
 rw [show l.getD k d = l[k] by simp [hk]] at this
 exact this
structure LD where
 pts : List Pnt
 closed : Bool
def noLD : LD := ⟨[], false⟩
def lnAt (l : List LD) (i : Nat) : LD := l.getD i noLD
def Lines (w : World) (a : Option Addr) (l : List LD) : Prop :=
 l = [] ∨ ∃ b off, a = some ⟨b, off, none⟩ ∧ b < w.heap.size ∧ ∀ i, i < l.length → (∃ pa pc, w.cell? ⟨b, off + i * 2, none⟩ = some (.slice pa (lnAt l i).pts.length pc) ∧ Pts w pa (lnAt l i).pts) ∧ w.cell? ⟨b, off + i * 2 + 1, none⟩ = some (.bool (lnAt l i).closed)
theorem Lines.nw {w w' : World} {a : Option Addr} {l : List LD} (h : Lines w a l) (k : Nw w w') : Lines w' a l := by
 rcases h with h | ⟨b, off, rfl, hb, hc⟩
 ·exact Or.inl h
 ·refine Or.inr ⟨b, off, rfl, Nat.lt_of_lt_of_le hb (Below.size k), fun i hi => ?_⟩
  obtain ⟨⟨pa, pc, h1, h2⟩, h3⟩ := hc i hi
  exact ⟨⟨pa, pc, ((bcell k).1 _ _ hb).trans h1, h2.nw k⟩, ((bcell k).1 _ _ hb).trans h3⟩
def manyL (l : List LD) : Nat := (l.map fun x => x.pts.length).sum
theorem manyL_step (l : List LD) (k : Nat) (h : k < l.length) : manyL (l.take (k + 1)) = manyL (l.take k) + (lnAt l k).pts.length := by
 unfold manyL lnAt
 have e : l.getD k noLD = l[k] := by simp [h]
 rw [List.take_succ_eq_append_getElem h, List.map_append, List.sum_append, e]
 simp only [List.map_cons, List.map_nil, List.sum_cons, List.sum_nil]
 omega
theorem manyL_le (l : List LD) (k : Nat) : manyL (l.take k) ≤ manyL l := by
 unfold manyL
 conv => rhs; rw [← List.take_append_drop k l]
 rw [List.map_append, List.sum_append]
 omega
theorem manyL_at (l : List LD) (k : Nat) (h : k < l.length) : (lnAt l k).pts.length ≤ manyL l := by
 have h1 := manyL_step l k h
 have h2 := manyL_le l (k + 1)
 omega
set_option maxHeartbeats 1000000 in
theorem smany (w : World) (a : Option Addr) (c : Nat) (l : List LD) (hl : l.length ≤ 1048576) (hm : manyL l ≤ 1048576) (hr : Lines w a l) :
  Calls Try.prog 89 #[.slice a l.length c] w fun e w' => e = .returned (.int .i64 (manyL l : Int)) ∧ Kp w w' := by
 have HR : Hid (Lines w a l) := hr
 clear hr
 go_enter Try.func89, Try.ntmps89
 go_wp2
 go_loopw [3, 8] (fun x i wr => ∃ k : Nat, k ≤ l.length ∧ i = .int .i64 k ∧ x = .int .i64 (manyL (l.take k) : Int) ∧ Kp w wr) (fun _ i _ => l.length - (intOf i).toNat)
 case atStart => exact ⟨0, Nat.zero_le _, rfl, rfl, Kp.refl _⟩
 case round =>
  obtain ⟨k, hk, rfl, rfl, hw⟩ := hrel
  have HW : Hid (Kp w wr) := hw
  clear hw
  by_cases hlt : k < l.length
  ·rcases (HR.out.nw HW.out.nw) with h | ⟨b, off, rfl, hb, hc⟩
   ·rw [h] at hlt; simp at hlt
   obtain ⟨⟨pa, pc, q0, _⟩, q1⟩ := hc k hlt
   clear hc
   have hs := manyL_step l k hlt
   have hle := manyL_le l (k + 1)
   have HE : Hid (manyL (l.take (k + 1)) = manyL (l.take k) + (lnAt l k).pts.length) := hs
   rw [hs] at hle
   clear hs
   generalize manyL (l.take k) = m at *
   generalize (lnAt l k).pts.length = n at *
   generalize (lnAt l k).closed = cl at *
   go_wp2
   go_roundw
   case rel => exact ⟨k + 1, by omega, by go_num, by rw [HE.out]; go_num, HW.out.alloc _ _⟩
   case measure => simp [intOf]; omega
  ·have e : k = l.length := by omega
   subst e
   rw [List.take_length]
   go_wp2
   go_ret
   exact ⟨rfl, HW.out⟩
set_option maxHeartbeats 1000000 in
theorem imany (w : World) (a : Option Addr) (c : Nat) (l : List LD) (hl : l.length ≤ 1048576) (hm : manyL l ≤ 1048576) (hr : Lines w a l) :
  Calls Try.prog 51 #[.slice a l.length c] w fun e w' => e = .returned (.int .i64 (manyL l : Int)) ∧ Kp w w' := by
 have HR : Hid (Lines w a l) := hr
 clear hr
 go_enter Try.func51, Try.ntmps51
 go_wp2
 go_loopw [3, 8] (fun x i wr => ∃ k : Nat, k ≤ l.length ∧ i = .int .i64 k ∧ x = .int .i64 (manyL (l.take k) : Int) ∧ Kp w wr) (fun _ i _ => l.length - (intOf i).toNat)
 case atStart => exact ⟨0, Nat.zero_le _, rfl, rfl, Kp.refl _⟩
 case round =>
  obtain ⟨k, hk, rfl, rfl, hw⟩ := hrel
  have HW : Hid (Kp w wr) := hw
  clear hw
  by_cases hlt : k < l.length
  ·rcases (HR.out.nw HW.out.nw) with h | ⟨b, off, rfl, hb, hc⟩
   ·rw [h] at hlt; simp at hlt
   obtain ⟨⟨pa, pc, q0, _⟩, q1⟩ := hc k hlt
   clear hc
   have hs := manyL_step l k hlt
   have hle := manyL_le l (k + 1)
   have HE : Hid (manyL (l.take (k + 1)) = manyL (l.take k) + (lnAt l k).pts.length) := hs
   rw [hs] at hle
   clear hs
   generalize manyL (l.take k) = m at *
   generalize (lnAt l k).pts.length = n at *
   generalize (lnAt l k).closed = cl at *
   go_wp2
   go_roundw
   case rel => exact ⟨k + 1, by omega, by go_num, by rw [HE.out]; go_num, HW.out.alloc _ _⟩
   case measure => simp [intOf]; omega
  ·have e : k = l.length := by omega
   subst e
   rw [List.take_length]
   go_wp2
   go_ret
   exact ⟨rfl, HW.out⟩
set_option linter.unusedSimpArgs false
structure PRR where
 va : Option Addr
 vn : Nat
 vc : Nat
 l : List Pnt
 B : Nat
 gb : Nat
 go : Nat
 n : Nat
 cc : Nat
 k : Nat
 k1 : Nat
 x : Int
 y : Int
 W : World
 a0 : Act
structure PRROk (X : PRR) : Prop where
 own : OwnP X.W X.B (.slice X.va X.vn X.vc) X.l
 hB : X.B ≤ X.W.heap.size
 len : X.l.length + 1 ≤ 1000000
 hk : X.k < X.n
 hk1 : X.k1 < X.n
 wk : IntKind.i64.wrap ((X.k : Int) + 1) = (X.k1 : Int)
 cx : X.W.cell? ⟨X.gb, X.go + X.k, none⟩ = some (.int .i64 X.x)
 cy : X.W.cell? ⟨X.gb, X.go + X.k1, none⟩ = some (.int .i64 X.y)
 e0 : X.a0.eval (.tmp 0) = .slice (some ⟨X.gb, X.go, none⟩) X.n X.cc
 e3 : X.a0.eval (.tmp 3) = .slice X.va X.vn X.vc
 e4 : X.a0.eval (.tmp 4) = .int .i64 (X.k : Int)
 sz : X.a0.tmps.size = 26
def PRR.val0 (X : PRR) : Nat → Value
 | 0 => .slice (some ⟨X.gb, X.go, none⟩) X.n X.cc
 | 4 => .int .i64 (X.k : Int)
 | 12 => .slice X.va X.vn X.vc
 | 13 => .slice (some ⟨X.gb, X.go, none⟩) X.n X.cc
 | 14 => .int .i64 (X.k : Int)
 | 15 => .pointer (some ⟨X.gb, X.go + X.k, none⟩)
 | 16 => .int .i64 X.x
 | 17 => .slice (some ⟨X.gb, X.go, none⟩) X.n X.cc
 | 18 => .int .i64 (X.k : Int)
 | 19 => .int .i64 (X.k1 : Int)
 | 20 => .pointer (some ⟨X.gb, X.go + X.k1, none⟩)
 | 21 => .int .i64 X.y
 | 22 => .agg #[.int .i64 X.x, .int .i64 X.y]
 | _ => undef
def PRR.av : Nat → Option Nat
 | 23 => some 0
 | 24 => some 1
 | 3 => some 2
 | _ => none
def PRR.acts : List Nat := [11, 12, 13]
def PRR.Wd (X : PRR) : Nat → (Nat → Value) → World → Prop
  | 0, _, w => w = X.W
  | 1, γ, w => γ 0 = .slice (some ⟨X.W.heap.size, 0, none⟩) 1 1 ∧ w = X.W.alloc (.cells #[.int .i64 X.x, .int .i64 X.y] 27)
  | 2, γ, w => ∃ g c, γ 1 = .slice (some ⟨g, 0, none⟩) (X.l.length + 1) c ∧ OwnP w X.B (.slice (some ⟨g, 0, none⟩) (X.l.length + 1) c) (X.l ++ [(X.x, X.y)]) ∧ Ext (.slice X.va X.vn X.vc) (.slice (some ⟨g, 0, none⟩) (X.l.length + 1) c) X.W w
  | _, γ, w => ∃ g c, γ 2 = .slice (some ⟨g, 0, none⟩) (X.l.length + 1) c ∧ OwnP w X.B (.slice (some ⟨g, 0, none⟩) (X.l.length + 1) c) (X.l ++ [(X.x, X.y)]) ∧ Ext (.slice X.va X.vn X.vc) (.slice (some ⟨g, 0, none⟩) (X.l.length + 1) c) X.W w
theorem PRR.chain : chainG (opsOf 5 Try.f110) PRR.acts = true := by kernel_rfl
theorem PRR.nodup : PRR.acts.Nodup := by decide
def PRR.L : List (Option Nat × Op × Option (Nat × Bool)) := [
 (some 12, .move (.tmp 3), none),
 (some 13, .move (.tmp 0), none),
 (some 14, .move (.tmp 4), none),
 (some 15, .indexAddr 77 (.tmp 13) (.tmp 14), none),
 (some 16, .load 3 (.tmp 15), none),
 (some 17, .move (.tmp 0), none),
 (some 18, .move (.tmp 4), none),
 (some 19, .binOp .add 3 (.tmp 18) (.const (.int .i64 1)) 3, none),
 (some 20, .indexAddr 77 (.tmp 17) (.tmp 19), none),
 (some 21, .load 3 (.tmp 20), none),
 (some 22, .build 27 #[(0, (.tmp 16)), (1, (.tmp 21))], none),
 (some 23, .buildSlice 23 1 #[(0, (.tmp 22))], none),
 (some 24, .call { callee := .builtin .append, args := #[(.tmp 12), (.tmp 23)], argTypes := #[23, 23] }, none),
 (some 3, .assign (.tmp 24), none)]
theorem PRR.isL : (opsOf 5 Try.f110).toList.map tri = PRR.L := by kernel_rfl
theorem PRR.ini {X : PRR} (ok : PRROk X) : ∀ n ∈ [0, 4], X.a0.eval (.tmp n) = X.val0 n := by
 simp only [List.forall_mem_cons]
 exact ⟨ok.e0, ok.e4, List.forall_mem_nil _⟩
abbrev PRR.St (X : PRR) (Q : PQ) (i : Nat) : Prop := StepG (opsOf 5 Try.f110) PRR.acts PRR.av X.val0 X.Wd X.a0 Q i
theorem PRR.plain (X : PRR) (ok : PRROk X) {Q : PQ} : ∀ i ∈ [1, 2, 3, 5, 6, 7, 8, 10], PRR.St X Q i := by
 simp only [List.forall_mem_cons]
 refine ⟨?_, ?_, ?_, ?_, ?_, ?_, ?_, ?_, List.forall_mem_nil _⟩
 all_goals
  refine st_plain PRR.isL (PRR.ini ok) ok.sz rfl (by kernel_rfl) ?_
  intro γ w n o hW hop
  unfold execOp
  rw [hop]
  simp [envR, valG, PRR.av, PRR.val0, ok.hk, ok.wk, ok.hk1, go_sem]
theorem PRR.soon (X : PRR) (ok : PRROk X) {Q : PQ} : ∀ i ∈ [4, 9], PRR.St X Q i := by
 simp only [List.forall_mem_cons]
 refine ⟨?_, ?_, List.forall_mem_nil _⟩
 all_goals
  refine st_plainM (m := 0) PRR.isL (PRR.ini ok) ok.sz rfl (by kernel_rfl) ?_
  intro γ w n o hn hW hop
  obtain rfl : n = 0 := by omega
  have hk : w = X.W := hW
  subst hk
  unfold execOp
  rw [hop]
  simp [envR, valG, PRR.av, PRR.val0, ok.cx, ok.cy, go_sem]
theorem PRR.s0 (X : PRR) (ok : PRROk X) {Q : PQ} : PRR.St X Q 0 := by
 intro γ listed a w o hF hC hW h1 ho h2
 obtain ⟨hd, hop, hg⟩ := fieldsL PRR.isL (i := 0) rfl ho
 have e3 : a.eval (.tmp 3) = .slice X.va X.vn X.vc := (hF.no 3 (early_of hC (unl (hF.lt ho) h1) (j := 13) (by kernel_rfl) [12, 0] (by kernel_rfl) (by decide))).trans ok.e3
 refine st_pureG hF hC hW ho h2 (by decide) hd hg rfl ?_
 show _ = Result.ok (Next.value (.slice X.va X.vn X.vc)) w
 generalize a.eval = ρ at e3 ⊢
 unfold execOp
 rw [hop]
 simp [e3, go_sem]
theorem PRR.s11 (X : PRR) (ok : PRROk X) {Q : PQ} : PRR.St X Q 11 := by
 intro γ listed a w o hF hC hW h1 ho h2
 obtain ⟨hd, hop, hg⟩ := fieldsL PRR.isL (i := 11) rfl ho
 have e22 : a.eval (.tmp 22) = .agg #[.int .i64 X.x, .int .i64 X.y] := known hF ho h2 (PRR.ini ok) ok.sz (by kernel_rfl)
 have hu := unl (hF.lt ho) h1
 refine st_actG (k := 0) PRR.chain PRR.nodup rfl hF hC hW h1 ho h2 (Or.inr ⟨23, hd, rfl⟩) (injG (by kernel_rfl) hu) hg ?_
 intro hW0 K hK
 have hw0 : w = X.W := hW0
 have hr : (execOp a.eval o).run Try.prog X.W = .ok (.value (.slice (some ⟨X.W.heap.size, 0, none⟩) 1 1)) (X.W.alloc (.cells #[.int .i64 X.x, .int .i64 X.y] 27)) := by
  generalize a.eval = ρ at e22 ⊢
  unfold execOp
  rw [hop]
  simp [e22, go_sem]
 unfold Oper.wp
 rw [hw0, hr]
 exact hK _ _ ⟨rfl, rfl⟩
theorem PRR.s12 (X : PRR) (ok : PRROk X) {Q : PQ} : PRR.St X Q 12 := by
 intro γ listed a w o hF hC hW h1 ho h2
 obtain ⟨hd, hop, hg⟩ := fieldsL PRR.isL (i := 12) rfl ho
 have e12 : a.eval (.tmp 12) = .slice X.va X.vn X.vc := known hF ho h2 (PRR.ini ok) ok.sz (by kernel_rfl)
 have e23 : a.eval (.tmp 23) = γ 0 := known hF ho h2 (PRR.ini ok) ok.sz (by kernel_rfl)
 have hu := unl (hF.lt ho) h1
 refine st_actG (k := 1) PRR.chain PRR.nodup rfl hF hC hW h1 ho h2 (Or.inr ⟨24, hd, rfl⟩) (injG (by kernel_rfl) hu) hg ?_
 intro hW0 K hK
 obtain ⟨g0, rfl⟩ := hW0
 rw [g0] at e23
 have n1 : Nw X.W (X.W.alloc (.cells #[.int .i64 X.x, .int .i64 X.y] 27)) := (Below.refl _ _).alloc (Nat.le_refl _) _
 refine wp_q 27 23 23 (.int .i64 0) (.int .i64 0) 16 under_pts under_pts Try.info27 (by decide) rfl _ (.tmp 12) (.tmp 23) hop X.B (.slice X.va X.vn X.vc) (vP X.l) (vP [(X.x, X.y)]) e12 (ok.own.nw n1) X.W.heap.size 0 1 1 rfl e23 (liep_one X.W X.x X.y _).vv (vP_one _) (by simp [vP]) (by rw [vP_len]; have := ok.len; simp [vP]; omega) (by have := ok.hB; simp; omega) ?_
 intro g' c' w' h3 h4
 rw [vP_len] at h3 h4 ⊢
 rw [← vP_append] at h3
 exact hK _ _ ⟨g', c', rfl, h3, n1.ext h4⟩
theorem PRR.s13 (X : PRR) (ok : PRROk X) {Q : PQ} : PRR.St X Q 13 := by
 intro γ listed a w o hF hC hW h1 ho h2
 obtain ⟨hd, hop, hg⟩ := fieldsL PRR.isL (i := 13) rfl ho
 have e24 : a.eval (.tmp 24) = γ 1 := known hF ho h2 (PRR.ini ok) ok.sz (by kernel_rfl)
 have hu := unl (hF.lt ho) h1
 refine st_actG (k := 2) PRR.chain PRR.nodup rfl hF hC hW h1 ho h2 (Or.inr ⟨3, hd, rfl⟩) (injG (by kernel_rfl) hu) hg ?_
 intro hW0 K hK
 obtain ⟨g, cq, g1, o1, x1⟩ := hW0
 rw [g1] at e24
 have hr : (execOp a.eval o).run Try.prog w = .ok (.value (.slice (some ⟨g, 0, none⟩) (X.l.length + 1) cq)) w := by
  generalize a.eval = ρ at e24 ⊢
  unfold execOp
  rw [hop]
  simp [e24, go_sem]
 unfold Oper.wp
 rw [hr]
 exact hK _ _ ⟨g, cq, rfl, o1, x1⟩
theorem PRR.size : (opsOf 5 Try.f110).size = 14 := by kernel_rfl
theorem PRR.rest (X : PRR) (ok : PRROk X) {Q : PQ} : ∀ i ∈ [0, 11, 12, 13], PRR.St X Q i := by
 simp only [List.forall_mem_cons]
 exact ⟨PRR.s0 X ok,
  PRR.s11 X ok,
  PRR.s12 X ok,
  PRR.s13 X ok, List.forall_mem_nil _⟩
theorem PRR.steps (X : PRR) (ok : PRROk X) {Q : PQ} (i : Nat) (hi : i < (opsOf 5 Try.f110).size) : PRR.St X Q i := by
 rw [PRR.size] at hi
 rcases (by decide : ∀ i, i < 14 → i ∈ [1, 2, 3, 5, 6, 7, 8, 10] ∨ i ∈ [4, 9] ∨ i ∈ [0, 11, 12, 13]) i hi with h | h | h
 · exact PRR.plain X ok i h
 · exact PRR.soon X ok i h
 · exact PRR.rest X ok i h
theorem PRR.run (X : PRR) (ok : PRROk X) {Q : PQ} (w : World) (h0 : X.Wd 0 (fun _ => undef) w.drew) (hend : ∀ (γ : Nat → Value) w', X.Wd 3 γ w' → Q .normal ((((((((((((((X.a0.put (some 12) (.slice X.va X.vn X.vc)).put (some 13) (.slice (some ⟨X.gb, X.go, none⟩) X.n X.cc)).put (some 14) (.int .i64 (X.k : Int))).put (some 15) (.pointer (some ⟨X.gb, X.go + X.k, none⟩))).put (some 16) (.int .i64 X.x)).put (some 17) (.slice (some ⟨X.gb, X.go, none⟩) X.n X.cc)).put (some 18) (.int .i64 (X.k : Int))).put (some 19) (.int .i64 (X.k1 : Int))).put (some 20) (.pointer (some ⟨X.gb, X.go + X.k1, none⟩))).put (some 21) (.int .i64 X.y)).put (some 22) (.agg #[.int .i64 X.x, .int .i64 X.y])).put (some 23) (γ 0)).put (some 24) (γ 1)).put (some 3) (γ 2)) w') : (Code.region 5 (opsOf 5 Try.f110) true).wp Try.prog Q X.a0 w := by
 refine reg_act (acts := PRR.acts) (av := PRR.av) (val0 := X.val0) (Wd := X.Wd) (by kernel_rfl) (by kernel_rfl) (by rw [PRR.size]; decide) (fun i hi => PRR.steps X ok i hi) _ h0 ?_
 intro γ w' h
 exact end_at (hend γ w' h) (by kernel_rfl)
theorem ownp_form {w : World} {B : Nat} {v : Value} {l : List Pnt} (h : OwnP w B v l) : ∃ a c, v = .slice a l.length c := by
  obtain ⟨a, c, e, _⟩ := h.pts
  exact ⟨a, c, e⟩
def PairS (w : World) (e : Ending) (w' : World) : Prop := ∃ (v : Value) (l : List Pnt), e = .returned v ∧ OwnP w' w.heap.size v l ∧ l.length ≤ 100 ∧ Nw w w'
set_option maxHeartbeats 4000000 in
theorem pairs_some (w : World) (a : Option Addr) (c : Nat) (zs : List Int) (hl : zs.length ≤ 100) (hr : Ints w a zs) :
    Calls Try.prog 110 #[.slice a zs.length c] w fun e w' => PairS w e w' := by
  have HR : Hid (Ints w a zs) := hr
  clear hr
  go_enter Try.func110, Try.ntmps110
  go_wp2
  go_loopw [3, 4] (fun x y wr => ∃ (k : Nat) (l : List Pnt) (v : Value), x = v ∧ y = .int .i64 (k : Int) ∧ k ≤ 102 ∧ l.length ≤ k ∧ l.length ≤ 100 ∧ OwnP wr w.heap.size v l ∧ Nw w wr) (fun _ y _ => 200 - (intOf y).toNat)
  case atStart => exact ⟨0, [], _, rfl, rfl, by omega, by simp, by simp, OwnP.nil _ _, Below.refl _ _⟩
  case round =>
    obtain ⟨k, l, v, hx, rfl, hk, hlk, hl100, hown, hw⟩ := hrel
    have hx2 := hx.symm
    clear hx
    subst hx2
    have HO : Hid (OwnP wr w.heap.size _ l) := hown
    have HW : Hid (Nw w wr) := hw
    obtain ⟨va, vc, rfl⟩ := ownp_form hown
    clear hown
    by_cases hlt : k + 1 < zs.length
    · have d1 : decide ((k : Int) + 1 < (zs.length : Int)) = true := decide_eq_true (by omega)
      rcases HR.out.nw hw with h | ⟨b, off, rfl, hb, hc⟩
      · rw [h] at hlt; simp at hlt
      have c0 := hc k (by omega)
      have c1 := hc (k + 1) hlt
      have hsz : w.heap.size ≤ wr.heap.size := Below.size hw
      clear hc hw
      go_wp2_with fail
      refine PRR.run ⟨va, l.length, vc, l, w.heap.size, b, off, zs.length, c, k, k + 1, intAt zs k, intAt zs (k + 1), wr.drew, _⟩ ⟨by exact HO.out, by exact hsz, by show l.length + 1 ≤ _; omega, by show k < zs.length; omega, hlt, by show IntKind.i64.wrap ((k : Int) + 1) = ((k + 1 : Nat) : Int); rw [IntKind.wrap_i64]; omega, by exact c0, by exact c1, rfl, rfl, rfl, rfl⟩ wr rfl ?_
      rintro γ w7 ⟨g', c', hg, h3, h4⟩
      simp only at hg h3 h4
      have HO3 : Hid (OwnP w7 w.heap.size (.slice (some ⟨g', 0, none⟩) (l.length + 1) c') (l ++ [(intAt zs k, intAt zs (k + 1))])) := h3
      have HN3 : Hid (Nw w w7) := by
        have h5 : Below w.heap.size wr w7 := Ext.below (w := wr) ⟨⟨h4.1.os, h4.1.tape, h4.1.output, h4.1.size, h4.1.block⟩, h4.2⟩ (fun g e => (OwnQ.lt HO.out g e).1) hsz
        exact Below.trans HW.out h5
      simp only [Act.put, List.setIfInBounds_toArray, List.set_cons_zero, List.set_cons_succ]
      rw [hg]
      have hlen : (l ++ [(intAt zs k, intAt zs (k + 1))]).length = l.length + 1 := by simp
      have HLEN : Hid _ := hlen
      clear h3 h4 hlen c0 c1 hg
      generalize l ++ [(intAt zs k, intAt zs (k + 1))] = l2 at *
      generalize γ 0 = g0 at *
      generalize γ 1 = g1 at *
      have hl98 : l.length < zs.length := by omega
      go_wp2
      go_roundw
      case rel => exact ⟨k + 2, l2, _, rfl, by go_num, by omega, by rw [HLEN.out]; omega, by rw [HLEN.out]; omega, HO3.out, HN3.out⟩
      case measure => simp [intOf]; omega
    · have d1 : decide ((k : Int) + 1 < (zs.length : Int)) = false := decide_eq_false (by omega)
      clear hw
      go_wp2
      go_ret
      exact ⟨_, l, rfl, HO.out, hl100, HW.out⟩
def PtsF (lo : Nat) (w : World) (a : Option Addr) (l : List Pnt) : Prop :=
  l = [] ∨ ∃ b off, a = some ⟨b, off, none⟩ ∧ lo ≤ b ∧ b < w.heap.size ∧ ∀ i, i < l.length → w.cell? ⟨b, off + i * 2, none⟩ = some (.int .i64 (ptAt l i).1) ∧ w.cell? ⟨b, off + i * 2 + 1, none⟩ = some (.int .i64 (ptAt l i).2)
theorem PtsF.pts {lo : Nat} {w : World} {a : Option Addr} {l : List Pnt} (h : PtsF lo w a l) : Pts w a l := by
  rcases h with h | ⟨b, off, e, _, hb, hc⟩
  · exact Or.inl h
  · exact Or.inr ⟨b, off, e, hb, hc⟩
theorem PtsF.mono {lo lo' : Nat} {w : World} {a : Option Addr} {l : List Pnt} (h : PtsF lo w a l) (hl : lo' ≤ lo) : PtsF lo' w a l := by
  rcases h with h | ⟨b, off, e, h1, hb, hc⟩
  · exact Or.inl h
  · exact Or.inr ⟨b, off, e, by omega, hb, hc⟩
theorem PtsF.nw {lo : Nat} {w w' : World} {a : Option Addr} {l : List Pnt} (h : PtsF lo w a l) (k : Nw w w') : PtsF lo w' a l := by
  rcases h with h | ⟨b, off, e, h1, hb, hc⟩
  · exact Or.inl h
  · exact Or.inr ⟨b, off, e, h1, Nat.lt_of_lt_of_le hb (Below.size k), fun i hi => ⟨((bcell k).1 _ _ hb).trans (hc i hi).1, ((bcell k).1 _ _ hb).trans (hc i hi).2⟩⟩
theorem PtsF.far {lo : Nat} {w : World} {a : Option Addr} {l : List Pnt} (h : PtsF lo w a l) (b o : Nat) (u : Value) (hb : b < lo) : PtsF lo (w.setCell ⟨b, o, none⟩ u) a l := by
  rcases h with h | ⟨b', off, e, h1, hb', hc⟩
  · exact Or.inl h
  · refine Or.inr ⟨b', off, e, h1, by simpa [World.setCell] using hb', fun i hi => ⟨?_, ?_⟩⟩
    · rw [World.cell?_setCell_other _ _ _ _ (fun e => by injection e; omega)]; exact (hc i hi).1
    · rw [World.cell?_setCell_other _ _ _ _ (fun e => by injection e; omega)]; exact (hc i hi).2
theorem ownp_ptsF {w : World} {B : Nat} {v : Value} {l : List Pnt} (h : OwnP w B v l) : ∃ a c, v = .slice a l.length c ∧ PtsF B w a l := by
  rcases h.lay with ⟨rfl, rfl⟩ | ⟨g, c, rfl, hB, hl⟩
  · exact ⟨none, 0, rfl, Or.inl rfl⟩
  · exact ⟨_, c, rfl, Or.inr ⟨g, 0, rfl, hB, hl.1, fun i hi => by rw [Nat.zero_add]; exact hl.2.1 i hi⟩⟩
def LinesF (lo : Nat) (w : World) (a : Option Addr) (l : List LD) : Prop :=
  l = [] ∨ ∃ b off, a = some ⟨b, off, none⟩ ∧ lo ≤ b ∧ b < w.heap.size ∧ ∀ i, i < l.length → (∃ pa pc, w.cell? ⟨b, off + i * 2, none⟩ = some (.slice pa (lnAt l i).pts.length pc) ∧ PtsF lo w pa (lnAt l i).pts) ∧ w.cell? ⟨b, off + i * 2 + 1, none⟩ = some (.bool (lnAt l i).closed)
theorem LinesF.lines {lo : Nat} {w : World} {a : Option Addr} {l : List LD} (h : LinesF lo w a l) : Lines w a l := by
  rcases h with h | ⟨b, off, e, _, hb, hc⟩
  · exact Or.inl h
  · exact Or.inr ⟨b, off, e, hb, fun i hi => by obtain ⟨⟨pa, pc, h1, h2⟩, h3⟩ := hc i hi; exact ⟨⟨pa, pc, h1, h2.pts⟩, h3⟩⟩
theorem LinesF.mono {lo lo' : Nat} {w : World} {a : Option Addr} {l : List LD} (h : LinesF lo w a l) (hl : lo' ≤ lo) : LinesF lo' w a l := by
  rcases h with h | ⟨b, off, e, h1, hb, hc⟩
  · exact Or.inl h
  · exact Or.inr ⟨b, off, e, by omega, hb, fun i hi => by obtain ⟨⟨pa, pc, h1, h2⟩, h3⟩ := hc i hi; exact ⟨⟨pa, pc, h1, h2.mono hl⟩, h3⟩⟩
theorem LinesF.nw {lo : Nat} {w w' : World} {a : Option Addr} {l : List LD} (h : LinesF lo w a l) (k : Nw w w') : LinesF lo w' a l := by
  rcases h with h | ⟨b, off, e, h1, hb, hc⟩
  · exact Or.inl h
  · exact Or.inr ⟨b, off, e, h1, Nat.lt_of_lt_of_le hb (Below.size k), fun i hi => by obtain ⟨⟨pa, pc, h1, h2⟩, h3⟩ := hc i hi; exact ⟨⟨pa, pc, ((bcell k).1 _ _ hb).trans h1, h2.nw k⟩, ((bcell k).1 _ _ hb).trans h3⟩⟩
theorem LinesF.far {lo : Nat} {w : World} {a : Option Addr} {l : List LD} (h : LinesF lo w a l) (b o : Nat) (u : Value) (hb : b < lo) : LinesF lo (w.setCell ⟨b, o, none⟩ u) a l := by
  rcases h with h | ⟨b', off, e, h1, hb', hc⟩
  · exact Or.inl h
  · refine Or.inr ⟨b', off, e, h1, by simpa [World.setCell] using hb', fun i hi => ?_⟩
    obtain ⟨⟨pa, pc, q1, q2⟩, q3⟩ := hc i hi
    refine ⟨⟨pa, pc, ?_, q2.far b o u hb⟩, ?_⟩
    · rw [World.cell?_setCell_other _ _ _ _ (fun e => by injection e; omega)]; exact q1
    · rw [World.cell?_setCell_other _ _ _ _ (fun e => by injection e; omega)]; exact q3
def LinesS (w : World) (e : Ending) (w' : World) : Prop := ∃ (a : Option Addr) (c : Nat) (l : List LD) (ok : Bool), e = .returned (.tuple #[.slice a l.length c, .bool ok]) ∧ LinesF w.heap.size w' a l ∧ l.length ≤ 1000 ∧ manyL l ≤ 10000 ∧ Nw w w'
theorem LinesS.nil {w w' : World} (h : Nw w w') (ok : Bool) : LinesS w (.returned (.tuple #[.slice none 0 0, .bool ok])) w' := ⟨none, 0, [], ok, rfl, Or.inl rfl, by simp, by simp [manyL], h⟩
theorem lines_newly (lo : Nat) (w : World) (pa : Option Addr) (pc : Nat) (ps : List Pnt) (cl : Bool) (hlo : lo ≤ w.heap.size) (h : PtsF lo w pa ps) (t : TypeId) : LinesF lo (w.alloc (.cells #[.slice pa ps.length pc, .bool cl] t)) (some ⟨w.heap.size, 0, none⟩) [⟨ps, cl⟩] := by
  refine Or.inr ⟨w.heap.size, 0, rfl, hlo, by simp, fun i hi => ?_⟩
  obtain rfl : i = 0 := by simpa using hi
  exact ⟨⟨pa, pc, by simp [lnAt], h.nw ((Below.refl _ _).alloc (Nat.le_refl _) _)⟩, by simp [lnAt]⟩
theorem one_lines (w0 w : World) (pa : Option Addr) (pc : Nat) (ps : List Pnt) (cl ok : Bool) (hp : ps.length ≤ 1000) (h : PtsF w0.heap.size w pa ps) (h0 : Nw w0 w) :
    Calls Try.prog 109 #[.agg #[.slice pa ps.length pc, .bool cl], .bool ok] w fun e w' => LinesS w0 e w' ∧ Nw w w' := by
  have HH : Hid (PtsF w0.heap.size w pa ps) := h
  have H0 : Hid (Nw w0 w) := h0
  clear h h0
  obtain ⟨W, hW⟩ : ∃ W, w.alloc (.cells #[.slice pa ps.length pc, .bool cl] 55) = W := ⟨_, rfl⟩
  have NW : Hid (Nw w W) := by show Nw _ _; rw [← hW]; exact (Below.refl _ _).alloc (Nat.le_refl _) _
  have z0 : W.cell? ⟨w.heap.size, 0, none⟩ = some (.slice pa ps.length pc) := by rw [← hW]; simp
  have z1 : W.cell? ⟨w.heap.size, 1, none⟩ = some (.bool cl) := by rw [← hW]; simp
  cases ok with
  | false =>
    clear z0 z1
    have HW : Hid (_ = W) := hW
    clear hW
    go_enter Try.func109, Try.ntmps109
    go_wp2
    rw [HW.out]
    go_ret2
    exact ⟨LinesS.nil (H0.out.trans NW.out) false, NW.out⟩
  | true =>
    have HW : Hid (_ = W) := hW
    clear hW
    have HL : ∀ t, Hid (LinesF w0.heap.size (W.alloc (.cells #[.slice pa ps.length pc, .bool cl] t)) (some ⟨W.heap.size, 0, none⟩) [⟨ps, cl⟩]) := fun t => lines_newly w0.heap.size W pa pc ps cl (Below.size (H0.out.trans NW.out)) (HH.out.nw NW.out) t
    have HN : ∀ o, Hid (Nw w0 (W.alloc o)) := fun o => (H0.out.trans NW.out).trans ((Below.refl _ _).alloc (Nat.le_refl _) _)
    go_enter Try.func109, Try.ntmps109
    go_upto_region 1 with fail
    rw [HW.out]
    clear HW
    go_wp2
    go_ret2
    exact ⟨⟨_, 1, [⟨ps, cl⟩], true, rfl, (HL _).out, by simp, by simp [manyL]; omega, (HN _).out⟩, NW.out.trans ((Below.refl _ _).alloc (Nat.le_refl _) _)⟩
def NumS (P : Nat) (w : World) (s : ByteArray) (v : Value) (m : Nat) (e : Ending) (w' : World) : Prop :=
 ∃ (nv : Value) (ns : List Int) (s' : ByteArray) (ok : Bool), e = .returned nv ∧ PenC P w' s' v ok ∧ s'.size ≤ s.size ∧ (ok = true → ns.length = m ∧ s'.size + m ≤ s.size) ∧ ns.length ≤ 6 ∧ Ins w' w.heap.size nv ns ∧ Gr P w w'
set_option maxHeartbeats 4000000 in
theorem numbers_some (P : Nat) (w : World) (s : ByteArray) (v : Value) (m : Nat) (hm : m ≤ 6) (hs : s.size ≤ 1048576) (hp : PenC P w s v true) :
  Calls Try.prog 149 #[.pointer (some ⟨P, 0, none⟩), .int .i64 (m : Int)] w fun e w' => NumS P w s v m e w' := by
 have HP : Hid (PenC P w s v true) := hp
 clear hp
 go_enter Try.func149, Try.ntmps149
 go_wp2
 go_loopw [1, 5] (fun x y wr => ∃ (j : Nat) (t : ByteArray) (out : List Int) (nv : Value), x = .int .i64 (j : Int) ∧ y = nv ∧ out.length + j = m ∧ PenC P wr t v true ∧ t.size + out.length ≤ s.size ∧ Ins wr w.heap.size nv out ∧ Gr P w wr) (fun x _ _ => (intOf x).toNat)
 case atStart => exact ⟨m, s, [], _, rfl, rfl, by simp, HP.out, by simp, Ins.nil _ _, Gr.refl _ _⟩
 case round =>
  obtain ⟨j, t, out, nv, rfl, hy, hj, hp, ht, hi, hg⟩ := hrel
  have hy2 := hy.symm
  clear hy
  subst hy2
  have HPR : Hid (PenC P wr t v true) := hp
  have HI : Hid (Ins wr w.heap.size nv out) := hi
  have HG : Hid (Gr P w wr) := hg
  obtain ⟨va, vc, rfl⟩ := few_form hi
  have y0 := hp.c0
  have y6 := hp.c6
  have yf := hp.free
  have hPW : P < w.heap.size := HP.out.lt
  clear hp hi hg
  by_cases h0 : 0 < j
  ·have d0 : decide ((0 : Int) < (j : Int)) = true := decide_eq_true (by omega)
   go_wp2_with fail
   refine (gap_some t _ (by omega)).mono ?_
   rintro e w1 ⟨g, rfl, hgs, hq⟩
   have hq2 := hq.symm; clear hq; subst hq2
   have HP1 : Hid (PenC P (wr.setCell ⟨P, 0, none⟩ (.string g)) g v true) := HPR.out.setS g
   have HG1 : Hid (Gr P w (wr.setCell ⟨P, 0, none⟩ (.string g))) := gr_set HG.out _ _
   have HI1 : Hid (Ins (wr.setCell ⟨P, 0, none⟩ (.string g)) w.heap.size (.slice va out.length vc) out) := World.ownsRow.kept HI.out set_grown (Or.inr (fun e => by have := (World.ownsRow.lt HI.out P e).1; omega))
   clear HPR HG HI
   go_upto_region 5 with fail
   obtain ⟨W, hW⟩ : ∃ W, wr.setCell ⟨P, 0, none⟩ (.string g) = W := ⟨_, rfl⟩
   rw [hW] at HP1 HG1 HI1 ⊢
   clear hW y0 y6 yf
   have y0 := HP1.out.c0
   have y6 := HP1.out.c6
   have yf := HP1.out.free
   go_wp2_with fail
   refine (dec_some g _ (by omega)).mono ?_
   rintro e w2 ⟨n, z, rfl, hn, hq⟩
   have hq2 := hq.symm; clear hq; subst hq2
   by_cases hn0 : n = 0
   ·subst hn0
    go_wp2
    go_ret
    exact ⟨_, [], g, false, rfl, HP1.out.setOk false, by omega, fun h => (by cases h), by simp, Ins.nil _ _, gr_set HG1.out _ _⟩
   ·have zz : ((n : Int) == 0) = false := by rw [beq_eq_false_iff_ne]; omega
    have hex := ex_sizeW g n g.size hn (Nat.le_refl _)
    have HB0 : ∀ o, Hid (Nw W (W.alloc o)) := fun o => (Below.refl _ _).alloc (Nat.le_refl _) o
    have hol : out.length ≤ 10000000 := by omega
    have hP2 : P < W.heap.size := HP1.out.lt
    have hW2 : w.heap.size ≤ W.heap.size := HG1.out.size
    go_wp2_with (at_builtin; (refine wp_in _ rfl _ _ rfl w.heap.size _ out z rfl (HI1.out.nw (HB0 _).out) _ rfl ?c1 hol ?c3 ?_))
    case c1 => simp
    case c3 => simp; omega
    intro v' w' h1 h2
    have hne : (Value.slice va out.length vc).ownBlock ≠ some P := fun e => by have := (World.ownsRow.lt HI1.out P e).1; omega
    have HP3 : Hid (PenC P w' g v true) := (HP1.out.nw (HB0 _).out).ext h2 hne
    have HI3 : Hid (Ins w' w.heap.size v' (out ++ [z])) := h1
    have HG3 : Hid (Gr P w w') := (HG1.out.trans (Gr.of_nw (HB0 _).out)).put h2 (fun g e => (World.ownsRow.lt HI1.out g e).1)
    clear h1 h2 HB0 HP1 HI1 HG1 y0 y6 yf
    have y0 := HP3.out.c0
    have y6 := HP3.out.c6
    have yf := HP3.out.free
    have HL : Hid ((out ++ [z]).length = out.length + 1) := by show _ = _; simp
    generalize out ++ [z] = out2 at *
    obtain ⟨va', vc', rfl⟩ := few_form HI3.out
    have hol2 : out2.length ≤ 10 := by have := HL.out; omega
    obtain ⟨o2, ho2⟩ : ∃ o, out2.length = o := ⟨_, rfl⟩
    rw [ho2] at HI3 ⊢
    clear ho2
    go_wp2
    go_roundw
    case rel => exact ⟨j - 1, g.extract n g.size, out2, _, by go_num, rfl, by have := HL.out; omega, HP3.out.setS _, by have := HL.out; omega, World.ownsRow.kept HI3.out set_grown (Or.inr (fun e => by have := (World.ownsRow.lt HI3.out P e).1; omega)), gr_set HG3.out _ _⟩
    case measure => simp [intOf]; omega
  ·have d0 : decide ((0 : Int) < (j : Int)) = false := decide_eq_false (by omega)
   go_wp2
   go_ret
   exact ⟨_, out, t, true, rfl, HPR.out, by omega, fun _ => ⟨by omega, by omega⟩, by omega, HI.out, HG.out⟩
theorem info_stp : (Try.prog.info? 98).map (fun i => (i.zero, i.size, i.bytes)) = some (some (.agg #[.int .i64 0, .slice none 0 0]), 2, 32) := by kernel_rfl
def PutS (P : Nat) (w : World) (s : ByteArray) (e : Ending) (w' : World) : Prop := e = .returned (.tuple #[]) ∧ (∃ ok, PenW P w' s ok) ∧ Below P w w'
theorem below_setP {P : Nat} {w w' : World} (h : Below P w w') (o : Nat) (u : Value) : Below P w (w'.setCell ⟨P, o, none⟩ u) := h.setCell (Nat.le_refl _) _
structure PtW (P : Nat) (w wr : World) (s : ByteArray) (v : Value) (q : List VV) (l : List SD) (na : Option Addr) (ns : List Int) (ok : Bool) : Prop where
 c : PenC P wr s v ok
 r : StR P wr v q l
 n : NmP P wr v na ns
 b : Below P w wr
theorem PtW.set {P : Nat} {w wr : World} {s : ByteArray} {v : Value} {q : List VV} {l : List SD} {na : Option Addr} {ns : List Int} {ok ok' : Bool} (h : PtW P w wr s v q l na ns ok) {o : Nat} {u : Value} (hc : PenC P (wr.setCell ⟨P, o, none⟩ u) s v ok') : PtW P w (wr.setCell ⟨P, o, none⟩ u) s v q l na ns ok' :=
 ⟨hc, h.r.gr (gr_set (Gr.refl _ _) _ _), h.n.gr (gr_set (Gr.refl _ _) _ _), below_setP h.b _ _⟩
theorem PtW.nw {P : Nat} {w wr w' : World} {s : ByteArray} {v : Value} {q : List VV} {l : List SD} {na : Option Addr} {ns : List Int} {ok : Bool} (h : PtW P w wr s v q l na ns ok) (k : Nw wr w') : PtW P w w' s v q l na ns ok :=
 ⟨h.c.nw k, h.r.gr (Gr.of_nw k), h.n.gr (Gr.of_nw k), Below.trans h.b (Below.mono k (Nat.le_of_lt h.c.lt))⟩
set_option maxHeartbeats 4000000 in
theorem put_some (P : Nat) (w : World) (s : ByteArray) (v : Value) (q : List VV) (l : List SD) (ok : Bool) (kd : Int) (na : Option Addr) (nc : Nat) (ns : List Int) (hp : PenC P w s v ok) (hs : StR P w v q l) (hl6 : l.length ≤ 60) (hk6 : ∀ i, i < l.length → (stAt l i).ns.length ≤ 6) (hn : NmP P w v na ns) (hn1 : ns.length ≠ 1) (hn6 : ns.length ≤ 6) :
  Calls Try.prog 150 #[.pointer (some ⟨P, 0, none⟩), .int .i64 kd, .slice na ns.length nc] w fun e w' => PutS P w s e w' := by
 have HK6 : Hid (∀ i, i < l.length → (stAt l i).ns.length ≤ 6) := hk6
 have H0 : Hid (PtW P w w s v q l na ns ok) := ⟨hp, hs, hn, Below.refl _ _⟩
 obtain ⟨va, vc, hv, _⟩ := hs.steps
 subst hv
 clear hs hn hk6
 have y1 := hp.c1
 have yf := hp.free
 clear hp
 by_cases h60 : l.length = 60
 ·have q60 : ((l.length : Int) == 60) = true := by rw [h60]; rfl
  have y6 := H0.out.c.c6
  go_enter Try.func150, Try.ntmps150
  go_wp2
  go_end0
  have h := H0.out.set (H0.out.c.setOk false)
  exact ⟨rfl, ⟨false, _, q, l, h.c, h.r, hl6, HK6.out⟩, h.b⟩
 ·have q60 : ((l.length : Int) == 60) = false := by rw [beq_eq_false_iff_ne]; omega
  go_enter Try.func150, Try.ntmps150
  go_wp2
  clear q60 y1 yf
  go_loopw [19] (fun i wr => ∃ (k : Nat) (ok : Bool), k ≤ ns.length ∧ i = .int .i64 (k : Int) ∧ PtW P w wr s (.slice va l.length vc) q l na ns ok) (fun i _ => ns.length - (intOf i).toNat)
  case atStart => exact ⟨0, ok, Nat.zero_le _, rfl, H0.out⟩
  case round =>
   obtain ⟨k, ok, hk, rfl, hw⟩ := hrel
   have HW : Hid (PtW P w wr s (.slice va l.length vc) q l na ns ok) := hw
   have y1 := hw.c.c1
   have y6 := hw.c.c6
   have yf := hw.c.free
   clear H0
   by_cases hlt : k < ns.length
   ·rcases hw.n with h | ⟨b, off, rfl, hPb, hb, hvb, hc⟩
    ·rw [h] at hlt; simp at hlt
    have q0 := hc k hlt
    clear hc hw
    generalize intAt ns k = x at *
    cases ok with
    | true =>
     go_wp2_with fail
     refine (gfix_any x _).mono ?_
     rintro e w1 ⟨g, rfl, rfl⟩
     have H1 := HW.out.set (HW.out.c.setOk g)
     go_wp2
     go_roundw
     case rel => exact ⟨k + 1, g, by omega, by go_num, H1⟩
     case measure => simp [intOf]; omega
    | false =>
     have H1 := HW.out.set (HW.out.c.setOk false)
     go_wp2
     go_roundw
     case rel => exact ⟨k + 1, false, by omega, by go_num, H1⟩
     case measure => simp [intOf]; omega
   ·clear y1 y6 yf hw
    go_upto_if 37 with fail
    clear hlt
    go_cut [] (fun wx => PtW P w wx s (.slice va l.length vc) q l na ns ok)
    case first =>
     by_cases hz : ns.length = 0
     ·have dz : decide ((0 : Int) < (ns.length : Int)) = false := decide_eq_false (by omega)
      go_wp2
      go_meet
      exact HW.out
     ·have dz : decide ((0 : Int) < (ns.length : Int)) = true := decide_eq_true (by omega)
      obtain ⟨m, hm⟩ : ∃ m, ns.length = m + 2 := ⟨ns.length - 2, by omega⟩
      rcases HW.out.n with h | ⟨b, off, rfl, hPb, hb, hvb, hc⟩
      ·rw [h] at hm; simp at hm
      have q0 := hc m (by omega)
      have q1 := hc (m + 1) (by omega)
      obtain ⟨x2, z2⟩ := HW.out.c.c2
      have yf := HW.out.c.free
      generalize intAt ns m = x at *
      generalize intAt ns (m + 1) = y at *
      clear hc
      have hbP : b ≠ P := by omega
      obtain ⟨W, hW⟩ : ∃ W, wr.setCell ⟨P, 2, none⟩ (.int .i64 x) = W := ⟨_, rfl⟩
      have H1 : Hid (PtW P w W s (.slice va l.length vc) q l (some ⟨b, off, none⟩) ns ok) := by show PtW _ _ _ _ _ _ _ _ _ _; rw [← hW]; exact HW.out.set (HW.out.c.setX 2 (by omega) x)
      have q2 : W.cell? ⟨b, off + (m + 1), none⟩ = some (.int .i64 y) := by rw [← hW, World.cell?_setCell_other _ _ _ _ (fun e => by injection e; omega)]; exact q1
      have i2 : (ns.length : Int) - 2 = (m : Int) := by omega
      have i1 : (ns.length : Int) - 1 = (m : Int) + 1 := by omega
      have b2 : m < ns.length := by omega
      have b1 : m + 1 < ns.length := by omega
      clear hm hz
      go_upto_region 9 with fail
      clear hW q0 q1 z2 yf
      obtain ⟨x3, z3⟩ := H1.out.c.c3
      have yf := H1.out.c.free
      go_wp2
      go_meet
      exact H1.out.set (H1.out.c.setX 3 (by omega) y)
    case rest =>
     have H2 : Hid (PtW P w wc s (.slice va l.length vc) q l na ns ok) := hcut
     have y1 := hcut.c.c1
     have yf := hcut.c.free
     clear hcut HW
     have HB0 : ∀ o, Hid (Nw wc (wc.alloc o)) := fun o => (Below.refl _ _).alloc (Nat.le_refl _) o
     have HA : ∀ o, Hid (PtW P w (wc.alloc o) s (.slice va l.length vc) q l na ns ok) := fun o => H2.out.nw (HB0 o).out
     have hql : q.length ≤ 1000 := by have := H2.out.r.len; omega
     have hPs : P < wc.heap.size := H2.out.c.lt
     have HQ : Hid (q.length = l.length) := H2.out.r.len
     go_wp2_with (at_builtin; (refine wpl_q 98 48 48 (.int .i64 0) (.slice none 0 0) 32 Try.underlying48 Try.underlying48 info_stp (by decide) rfl _ (.tmp 60) (.tmp 64) rfl (P + 1) (.slice va l.length vc) q [(.int .i64 kd, .slice na ns.length nc)] rfl (HA _).out.r.own wc.heap.size 0 1 1 rfl rfl ?cc ?co (by simp) (by have := HQ.out; simp; omega) (by simp; omega) rfl ?_))
     case cc => intro i hi; obtain rfl : i = 0 := (by simpa using hi); simp [vvAt]
     case co => intro u hu; simp [flat2] at hu; rcases hu with rfl | rfl <;> rfl
     intro g' c' w' h1 h2
     have X := (HA (.cells #[.int .i64 kd, .slice na ns.length nc] 98)).out
     have hne := X.r.neP
     have hxb := (Ext.below h2 (fun g e => Nat.le_of_succ_le (OwnQ.lt X.r.own g e).1) (by simp; omega))
     have HC : Hid (PenC P w' s (.slice va l.length vc) ok) := X.c.ext h2 hne
     have HR : Hid (StR P w' (.slice (some ⟨g', 0, none⟩) (q.length + 1) c') (q ++ [(.int .i64 kd, .slice na ns.length nc)]) (l ++ [⟨kd, ns⟩])) := StR.put (sd := ⟨kd, ns⟩) X.r h2 h1 ⟨rfl, na, nc, rfl, X.n⟩
     have HB : Hid (Below P w w') := Below.trans X.b hxb
     have y1 := HC.out.c1
     have yf := HC.out.free
     clear h1 h2 X hne hxb HA HB0 HQ H2
     generalize q.length = ql at *
     go_wp2
     go_end0
     refine ⟨rfl, ⟨ok, _, _, _, HC.out.setV _, HR.out.gr (gr_set (Gr.refl _ _) _ _), by simp; omega, fun i hi => ?_⟩, below_setP HB.out _ _⟩
     rw [List.length_append, List.length_singleton] at hi
     by_cases e : i < l.length
     ·have e2 : stAt (l ++ [⟨kd, ns⟩]) i = stAt l i := by simp [stAt, List.getElem?_append, e]
      rw [e2]; exact HK6.out i e
     ·obtain rfl : i = l.length := by omega
      have e2 : stAt (l ++ [⟨kd, ns⟩]) l.length = ⟨kd, ns⟩ := by simp [stAt]
      rw [e2]; exact hn6
end Go.Proofs.Ytdjemnbdaddegaa
