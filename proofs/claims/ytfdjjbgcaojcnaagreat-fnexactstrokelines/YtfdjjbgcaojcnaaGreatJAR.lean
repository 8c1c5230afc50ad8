/-
  Quotients that are rounded down, by the specification; each 
-/
import Derived.Test.YtfdjjbgcaojcnaaGreatJAA
import Derived.Test.YtfdjjbgcaojcnaaGreatJAE
import Derived.Test.YtfdjjbgcaojcnaaGreatJAF
import Derived.Test.YtfdjjbgcaojcnaaGreatJAN
namespace Go.Proofs.YtfdjjbgcaojcnaaGreat
open Go.ChangeShapes Go.WideShapes Go.ChangeAt Go.RowKit
set_option maxHeartbeats 400000 in
theorem sdown_any (a b : Int) (w : World) (hb : 0 < b) (hb' : b ≤ 4611686018427387904) (h1 : -4611686018427387904 ≤ a) (h2 : a ≤ 4611686018427387904) :
  Calls Tryz.prog 86 #[.int .i64 a, .int .i64 b] w fun e w' => e = .returned (.int .i64 (a / b)) ∧ w' = w := by
 have hdb : decide (b < 0) = false := by simp; omega
 by_cases ha : 0 ≤ a
 ·have hd := ediv_bd a b ha hb
  have hm := Int.emod_nonneg a (b := b) (by omega)
  have hm' := Int.emod_lt_of_pos a hb
  have hda : decide (a < 0) = false := by simp; omega
  by_cases hz : a % b = 0
  ·have hq : (a % b != 0) = false := by simp [hz]
   clear hz
   go_enter Tryz.func86, Tryz.ntmps86
   go_wp2
   go_ret
   exact ⟨rfl, rfl⟩
  ·have hq : (a % b != 0) = true := by simp [hz]
   clear hz
   go_enter Tryz.func86, Tryz.ntmps86
   go_wp2
   go_ret
   exact ⟨rfl, rfl⟩
 ·have e1 := tdiv_neg_of a b (by omega)
  have e2 := tmod_neg_of a b (by omega)
  have e3 := ediv_neg_of a b hb
  have hd := ediv_bd (-a) b (by omega) hb
  have hm := Int.emod_nonneg (-a) (b := b) (by omega)
  have hm' := Int.emod_lt_of_pos (-a) hb
  have hda : decide (a < 0) = true := by simp; omega
  by_cases hz : (-a) % b = 0
  ·rw [if_pos hz] at e3
   rw [e3]
   clear e3
   generalize (-a) / b = q at *
   rw [hz] at e2 hm hm'
   clear hz hm hm'
   go_enter Tryz.func86, Tryz.ntmps86
   go_wp2
   go_ret
   exact ⟨rfl, rfl⟩
  ·rw [if_neg hz] at e3
   rw [e3]
   clear e3
   generalize (-a) / b = q at *
   generalize (-a) % b = r at *
   have hq : (-r != 0) = true := by simp; omega
   clear hz
   go_enter Tryz.func86, Tryz.ntmps86
   go_wp2
   go_ret
   exact ⟨rfl, rfl⟩
set_option linter.unusedVariables false
set_option linter.unusedSimpArgs false
structure EWA where
 bx : Nat
 ua : Option Addr
 n : Nat
 uc : Nat
 mn : Int
 W : World
 a0 : Act
structure EWAOk (X : EWA) : Prop where
 c3 : X.W.cell? ⟨X.bx, 3, none⟩ = some (.slice X.ua X.n X.uc)
 h0 : decide ((1 : Int) < (X.n : Int)) = false
 e0 : X.a0.eval (.tmp 0) = .pointer (some ⟨X.bx, 0, none⟩)
 sz : X.a0.tmps.size = 56
def EWA.val0 (X : EWA) : Nat → Value
 | 0 => .pointer (some ⟨X.bx, 0, none⟩)
 | 2 => .pointer (some ⟨X.bx, 0, none⟩)
 | 3 => .pointer (some ⟨X.bx, 0, none⟩)
 | 4 => .pointer (some ⟨X.bx, 3, none⟩)
 | 5 => .slice X.ua X.n X.uc
 | 6 => .int .i64 (X.n : Int)
 | 7 => .bool false
 | 8 => .bool false
 | 20 => .bool false
 | _ => undef
def EWA.av : Nat → Option Nat
 | _ => none
def EWA.acts : List Nat := []
def EWA.Wd (X : EWA) : Nat → (Nat → Value) → World → Prop
  | _, _, w => Kp X.W w
theorem EWA.kp {X : EWA} {n : Nat} {γ : Nat → Value} {w : World} (h : X.Wd n γ w) : Kp X.W w := h
theorem EWA.keep {X : EWA} {n : Nat} {γ : Nat → Value} {w w' : World} (h : X.Wd n γ w) (k : Kp w w') : X.Wd n γ w' := Kp.trans h k
def EWA.L : List (Option Nat × Op × Option (Nat × Bool)) := [
 (some 2, .move (.tmp 0), none),
 (some 3, .nilCheck (.tmp 2), none),
 (some 4, .fieldAddr 100 (.tmp 3) 3, none),
 (some 5, .load 23 (.tmp 4), none),
 (some 6, .call { callee := .builtin .len, args := #[(.tmp 5)], argTypes := #[23] }, none),
 (some 7, .binOp .gtr 3 (.tmp 6) (.const (.int .i64 1)) 3, none),
 (some 8, .move (.tmp 7), none),
 (some 9, .move (.tmp 0), some (6, true)),
 (some 10, .nilCheck (.tmp 9), some (6, true)),
 (some 11, .fieldAddr 100 (.tmp 10) 5, some (6, true)),
 (some 12, .load 3 (.tmp 11), some (6, true)),
 (some 13, .move (.tmp 0), some (6, true)),
 (some 14, .nilCheck (.tmp 13), some (6, true)),
 (some 15, .fieldAddr 100 (.tmp 14) 3, some (6, true)),
 (some 16, .load 23 (.tmp 15), some (6, true)),
 (some 17, .call { callee := .builtin .len, args := #[(.tmp 16)], argTypes := #[23] }, some (6, true)),
 (some 18, .binOp .add 3 (.tmp 12) (.tmp 17) 3, some (6, true)),
 (some 19, .binOp .leq 3 (.tmp 18) (.const (.int .i64 600)) 3, some (6, true)),
 (some 20, .pick (.tmp 8) (.tmp 19) (.const (.bool false)), none)]
theorem EWA.isL : (opsOf 0 Tryz.f68).toList.map tri = EWA.L := by kernel_rfl
theorem EWA.ini {X : EWA} (ok : EWAOk X) : ∀ n ∈ [0], X.a0.eval (.tmp n) = X.val0 n := by
 simp only [List.forall_mem_cons]
 exact ⟨ok.e0, List.forall_mem_nil _⟩
abbrev EWA.St (X : EWA) (Q : PQ) (i : Nat) : Prop := StepG (opsOf 0 Tryz.f68) EWA.acts EWA.av X.val0 X.Wd X.a0 Q i
theorem EWA.plain (X : EWA) (ok : EWAOk X) {Q : PQ} : ∀ i ∈ [0, 1, 2, 3, 4, 5, 6, 18], EWA.St X Q i := by
 simp only [List.forall_mem_cons]
 refine ⟨?_, ?_, ?_, ?_, ?_, ?_, ?_, ?_, List.forall_mem_nil _⟩
 all_goals
  refine st_plain EWA.isL (EWA.ini ok) ok.sz rfl (by kernel_rfl) ?_
  intro γ w n o hW hop
  have hc_c3 := rq_at (EWA.kp hW) ok.c3
  unfold execOp
  rw [hop]
  simp [envR, valG, EWA.av, EWA.val0, hc_c3, ok.h0, go_sem]
theorem EWA.skip (X : EWA) (ok : EWAOk X) {Q : PQ} : ∀ i ∈ [7, 8, 9, 10, 11, 12, 13, 14, 15, 16, 17], EWA.St X Q i := by
 simp only [List.forall_mem_cons]
 refine ⟨?_, ?_, ?_, ?_, ?_, ?_, ?_, ?_, ?_, ?_, ?_, List.forall_mem_nil _⟩
 all_goals
  exact st_plainS EWA.isL (EWA.ini ok) ok.sz rfl rfl (Or.inl rfl) (by kernel_rfl) rfl
theorem EWA.size : (opsOf 0 Tryz.f68).size = 19 := by kernel_rfl
theorem EWA.steps (X : EWA) (ok : EWAOk X) {Q : PQ} (i : Nat) (hi : i < (opsOf 0 Tryz.f68).size) : EWA.St X Q i := by
 rw [EWA.size] at hi
 rcases (by decide : ∀ i, i < 19 → i ∈ [0, 1, 2, 3, 4, 5, 6, 18] ∨ i ∈ [7, 8, 9, 10, 11, 12, 13, 14, 15, 16, 17]) i hi with h | h
 · exact EWA.plain X ok i h
 · exact EWA.skip X ok i h
theorem EWA.run (X : EWA) (ok : EWAOk X) {Q : PQ} (w : World) (h0 : X.Wd 0 (fun _ => undef) w.drew) (hend : ∀ (γ : Nat → Value) w', X.Wd 0 γ w' → Q .normal (((((((((((((((((((X.a0.put (some 2) (.pointer (some ⟨X.bx, 0, none⟩))).put (some 3) (.pointer (some ⟨X.bx, 0, none⟩))).put (some 4) (.pointer (some ⟨X.bx, 3, none⟩))).put (some 5) (.slice X.ua X.n X.uc)).put (some 6) (.int .i64 (X.n : Int))).put (some 7) (.bool false)).put (some 8) (.bool false)).put (some 9) (undef)).put (some 10) (undef)).put (some 11) (undef)).put (some 12) (undef)).put (some 13) (undef)).put (some 14) (undef)).put (some 15) (undef)).put (some 16) (undef)).put (some 17) (undef)).put (some 18) (undef)).put (some 19) (undef)).put (some 20) (.bool false)) w') : (Code.region 0 (opsOf 0 Tryz.f68) true).wp Tryz.prog Q X.a0 w := by
 refine reg_act (acts := EWA.acts) (av := EWA.av) (val0 := X.val0) (Wd := X.Wd) (by kernel_rfl) (by kernel_rfl) (by rw [EWA.size]; decide) (fun i hi => EWA.steps X ok i hi) _ h0 ?_
 intro γ w' h
 exact end_at (hend γ w' h) (by kernel_rfl)
structure EWB where
 bx : Nat
 ua : Option Addr
 n : Nat
 uc : Nat
 mn : Int
 v : Bool
 W : World
 a0 : Act
structure EWBOk (X : EWB) : Prop where
 c3 : X.W.cell? ⟨X.bx, 3, none⟩ = some (.slice X.ua X.n X.uc)
 c5 : X.W.cell? ⟨X.bx, 5, none⟩ = some (.int .i64 X.mn)
 h0 : decide ((1 : Int) < (X.n : Int)) = true
 w1 : IntKind.i64.wrap (X.mn + (X.n : Int)) = X.mn + (X.n : Int)
 hv : decide (X.mn + (X.n : Int) ≤ 600) = X.v
 e0 : X.a0.eval (.tmp 0) = .pointer (some ⟨X.bx, 0, none⟩)
 sz : X.a0.tmps.size = 56
def EWB.val0 (X : EWB) : Nat → Value
 | 0 => .pointer (some ⟨X.bx, 0, none⟩)
 | 2 => .pointer (some ⟨X.bx, 0, none⟩)
 | 3 => .pointer (some ⟨X.bx, 0, none⟩)
 | 4 => .pointer (some ⟨X.bx, 3, none⟩)
 | 5 => .slice X.ua X.n X.uc
 | 6 => .int .i64 (X.n : Int)
 | 7 => .bool true
 | 8 => .bool true
 | 9 => .pointer (some ⟨X.bx, 0, none⟩)
 | 10 => .pointer (some ⟨X.bx, 0, none⟩)
 | 11 => .pointer (some ⟨X.bx, 5, none⟩)
 | 12 => .int .i64 X.mn
 | 13 => .pointer (some ⟨X.bx, 0, none⟩)
 | 14 => .pointer (some ⟨X.bx, 0, none⟩)
 | 15 => .pointer (some ⟨X.bx, 3, none⟩)
 | 16 => .slice X.ua X.n X.uc
 | 17 => .int .i64 (X.n : Int)
 | 18 => .int .i64 (X.mn + (X.n : Int))
 | 19 => .bool X.v
 | 20 => .bool X.v
 | _ => undef
def EWB.av : Nat → Option Nat
 | _ => none
def EWB.acts : List Nat := []
def EWB.Wd (X : EWB) : Nat → (Nat → Value) → World → Prop
  | _, _, w => Kp X.W w
theorem EWB.kp {X : EWB} {n : Nat} {γ : Nat → Value} {w : World} (h : X.Wd n γ w) : Kp X.W w := h
theorem EWB.keep {X : EWB} {n : Nat} {γ : Nat → Value} {w w' : World} (h : X.Wd n γ w) (k : Kp w w') : X.Wd n γ w' := Kp.trans h k
theorem EWB.ini {X : EWB} (ok : EWBOk X) : ∀ n ∈ [0], X.a0.eval (.tmp n) = X.val0 n := by
 simp only [List.forall_mem_cons]
 exact ⟨ok.e0, List.forall_mem_nil _⟩
abbrev EWB.St (X : EWB) (Q : PQ) (i : Nat) : Prop := StepG (opsOf 0 Tryz.f68) EWB.acts EWB.av X.val0 X.Wd X.a0 Q i
theorem EWB.plain (X : EWB) (ok : EWBOk X) {Q : PQ} : ∀ i ∈ [0, 1, 2, 3, 4, 5, 6, 18], EWB.St X Q i := by
 simp only [List.forall_mem_cons]
 refine ⟨?_, ?_, ?_, ?_, ?_, ?_, ?_, ?_, List.forall_mem_nil _⟩
 all_goals
  refine st_plain EWA.isL (EWB.ini ok) ok.sz rfl (by kernel_rfl) ?_
  intro γ w n o hW hop
  have hc_c3 := rq_at (EWB.kp hW) ok.c3
  have hc_c5 := rq_at (EWB.kp hW) ok.c5
  unfold execOp
  rw [hop]
  simp [envR, valG, EWB.av, EWB.val0, hc_c3, ok.h0, hc_c5, ok.w1, ok.hv, go_sem]
theorem EWB.want (X : EWB) (ok : EWBOk X) {Q : PQ} : ∀ i ∈ [7, 8, 9, 10, 11, 12, 13, 14, 15, 16, 17], EWB.St X Q i := by
 simp only [List.forall_mem_cons]
 refine ⟨?_, ?_, ?_, ?_, ?_, ?_, ?_, ?_, ?_, ?_, ?_, List.forall_mem_nil _⟩
 all_goals
  refine st_plainW EWA.isL (EWB.ini ok) ok.sz rfl rfl rfl (by kernel_rfl) ?_
  intro γ w n o hW hop
  have hc_c3 := rq_at (EWB.kp hW) ok.c3
  have hc_c5 := rq_at (EWB.kp hW) ok.c5
  unfold execOp
  rw [hop]
  simp [envR, valG, EWB.av, EWB.val0, hc_c3, ok.h0, hc_c5, ok.w1, ok.hv, go_sem]
theorem EWB.steps (X : EWB) (ok : EWBOk X) {Q : PQ} (i : Nat) (hi : i < (opsOf 0 Tryz.f68).size) : EWB.St X Q i := by
 rw [EWA.size] at hi
 rcases (by decide : ∀ i, i < 19 → i ∈ [0, 1, 2, 3, 4, 5, 6, 18] ∨ i ∈ [7, 8, 9, 10, 11, 12, 13, 14, 15, 16, 17]) i hi with h | h
 · exact EWB.plain X ok i h
 · exact EWB.want X ok i h
theorem EWB.run (X : EWB) (ok : EWBOk X) {Q : PQ} (w : World) (h0 : X.Wd 0 (fun _ => undef) w.drew) (hend : ∀ (γ : Nat → Value) w', X.Wd 0 γ w' → Q .normal (((((((((((((((((((X.a0.put (some 2) (.pointer (some ⟨X.bx, 0, none⟩))).put (some 3) (.pointer (some ⟨X.bx, 0, none⟩))).put (some 4) (.pointer (some ⟨X.bx, 3, none⟩))).put (some 5) (.slice X.ua X.n X.uc)).put (some 6) (.int .i64 (X.n : Int))).put (some 7) (.bool true)).put (some 8) (.bool true)).put (some 9) (.pointer (some ⟨X.bx, 0, none⟩))).put (some 10) (.pointer (some ⟨X.bx, 0, none⟩))).put (some 11) (.pointer (some ⟨X.bx, 5, none⟩))).put (some 12) (.int .i64 X.mn)).put (some 13) (.pointer (some ⟨X.bx, 0, none⟩))).put (some 14) (.pointer (some ⟨X.bx, 0, none⟩))).put (some 15) (.pointer (some ⟨X.bx, 3, none⟩))).put (some 16) (.slice X.ua X.n X.uc)).put (some 17) (.int .i64 (X.n : Int))).put (some 18) (.int .i64 (X.mn + (X.n : Int)))).put (some 19) (.bool X.v)).put (some 20) (.bool X.v)) w') : (Code.region 0 (opsOf 0 Tryz.f68) true).wp Tryz.prog Q X.a0 w := by
 refine reg_act (acts := EWB.acts) (av := EWB.av) (val0 := X.val0) (Wd := X.Wd) (by kernel_rfl) (by kernel_rfl) (by rw [EWA.size]; decide) (fun i hi => EWB.steps X ok i hi) _ h0 ?_
 intro γ w' h
 exact end_at (hend γ w' h) (by kernel_rfl)
structure EW1 where
 bx : Nat
 va : Option Addr
 vn : Nat
 vc : Nat
 it : Its
 ua : Option Addr
 n : Nat
 uc : Nat
 p : List Pnt
 W : World
 a0 : Act
structure EW1Ok (X : EW1) : Prop where
 c4 : X.W.cell? ⟨X.bx, 4, none⟩ = some (.slice X.va X.vn X.vc)
 c3 : X.W.cell? ⟨X.bx, 3, none⟩ = some (.slice X.ua X.n X.uc)
 ff : ∀ o, X.W.frozen? ⟨X.bx, o, none⟩ = false
 own : OwnQ 25 X.W (X.bx + 1) (.slice X.va X.vn X.vc) (vLn X.it)
 nev : (Value.slice X.va X.vn X.vc).ownBlock ≠ some X.bx
 len : X.it.length + 1 ≤ 1000000
 e0 : X.a0.eval (.tmp 0) = .pointer (some ⟨X.bx, 0, none⟩)
 sz : X.a0.tmps.size = 56
def EW1.val0 (X : EW1) : Nat → Value
 | 0 => .pointer (some ⟨X.bx, 0, none⟩)
 | 21 => .pointer (some ⟨X.bx, 0, none⟩)
 | 22 => .pointer (some ⟨X.bx, 0, none⟩)
 | 23 => .pointer (some ⟨X.bx, 0, none⟩)
 | 24 => .pointer (some ⟨X.bx, 4, none⟩)
 | 25 => .slice X.va X.vn X.vc
 | 26 => .pointer (some ⟨X.bx, 0, none⟩)
 | 27 => .pointer (some ⟨X.bx, 0, none⟩)
 | 28 => .pointer (some ⟨X.bx, 3, none⟩)
 | 29 => .slice X.ua X.n X.uc
 | 30 => .agg #[.slice X.ua X.n X.uc, .bool false]
 | 33 => .pointer (some ⟨X.bx, 0, none⟩)
 | 34 => .pointer (some ⟨X.bx, 4, none⟩)
 | _ => undef
def EW1.av : Nat → Option Nat
 | 31 => some 0
 | 32 => some 1
 | _ => none
def EW1.acts : List Nat := [10, 11, 14]
def EW1.Wd (X : EW1) : Nat → (Nat → Value) → World → Prop
  | 0, _, w => w = X.W
  | 1, γ, w => γ 0 = .slice (some ⟨X.W.heap.size, 0, none⟩) 1 1 ∧ w = X.W.alloc (.cells #[.slice X.ua X.n X.uc, .bool false] 25)
  | 2, γ, w => ∃ g c, γ 1 = .slice (some ⟨g, 0, none⟩) (X.it.length + 1) c ∧ OwnQ 25 w (X.bx + 1) (γ 1) (vLn (X.it ++ [(.slice X.ua X.n X.uc, ⟨X.p, false⟩)])) ∧ Ext (.slice X.va X.vn X.vc) (γ 1) X.W w
  | _, γ, w => ∃ w2 g c, γ 1 = .slice (some ⟨g, 0, none⟩) (X.it.length + 1) c ∧ OwnQ 25 w2 (X.bx + 1) (γ 1) (vLn (X.it ++ [(.slice X.ua X.n X.uc, ⟨X.p, false⟩)])) ∧ Ext (.slice X.va X.vn X.vc) (γ 1) X.W w2 ∧ w = w2.setCell ⟨X.bx, 4, none⟩ (γ 1)
theorem EW1.chain : chainG (opsOf 1 Tryz.f68) EW1.acts = true := by kernel_rfl
theorem EW1.nodup : EW1.acts.Nodup := by decide
def EW1.L : List (Option Nat × Op × Option (Nat × Bool)) := [
 (some 21, .move (.tmp 0), none),
 (some 22, .move (.tmp 0), none),
 (some 23, .nilCheck (.tmp 22), none),
 (some 24, .fieldAddr 100 (.tmp 23) 4, none),
 (some 25, .load 29 (.tmp 24), none),
 (some 26, .move (.tmp 0), none),
 (some 27, .nilCheck (.tmp 26), none),
 (some 28, .fieldAddr 100 (.tmp 27) 3, none),
 (some 29, .load 23 (.tmp 28), none),
 (some 30, .build 25 #[(0, (.tmp 29))], none),
 (some 31, .buildSlice 29 1 #[(0, (.tmp 30))], none),
 (some 32, .call { callee := .builtin .append, args := #[(.tmp 25), (.tmp 31)], argTypes := #[29, 29] }, none),
 (some 33, .nilCheck (.tmp 21), none),
 (some 34, .fieldAddr 100 (.tmp 33) 4, none),
 (none, .store 29 (.tmp 34) (.tmp 32), none)]
theorem EW1.isL : (opsOf 1 Tryz.f68).toList.map tri = EW1.L := by kernel_rfl
theorem EW1.ini {X : EW1} (ok : EW1Ok X) : ∀ n ∈ [0], X.a0.eval (.tmp n) = X.val0 n := by
 simp only [List.forall_mem_cons]
 exact ⟨ok.e0, List.forall_mem_nil _⟩
abbrev EW1.St (X : EW1) (Q : PQ) (i : Nat) : Prop := StepG (opsOf 1 Tryz.f68) EW1.acts EW1.av X.val0 X.Wd X.a0 Q i
theorem EW1.plain (X : EW1) (ok : EW1Ok X) {Q : PQ} : ∀ i ∈ [0, 1, 2, 3, 5, 6, 7, 9, 12, 13], EW1.St X Q i := by
 simp only [List.forall_mem_cons]
 refine ⟨?_, ?_, ?_, ?_, ?_, ?_, ?_, ?_, ?_, ?_, List.forall_mem_nil _⟩
 all_goals
  refine st_plain EW1.isL (EW1.ini ok) ok.sz rfl (by kernel_rfl) ?_
  intro γ w n o hW hop
  unfold execOp
  rw [hop]
  simp [envR, valG, EW1.av, EW1.val0, go_sem]
theorem EW1.soon (X : EW1) (ok : EW1Ok X) {Q : PQ} : ∀ i ∈ [8], EW1.St X Q i := by
 simp only [List.forall_mem_cons]
 refine ⟨?_, List.forall_mem_nil _⟩
 all_goals
  refine st_plainM (m := 0) EW1.isL (EW1.ini ok) ok.sz rfl (by kernel_rfl) ?_
  intro γ w n o hn hW hop
  obtain rfl : n = 0 := by omega
  have hk : w = X.W := hW
  subst hk
  unfold execOp
  rw [hop]
  simp [envR, valG, EW1.av, EW1.val0, ok.c3, go_sem]
theorem EW1.s4 (X : EW1) (ok : EW1Ok X) {Q : PQ} : EW1.St X Q 4 := by
 intro γ listed a w o hF hC hW h1 ho h2
 obtain ⟨hd, hop, hg⟩ := fieldsL EW1.isL (i := 4) rfl ho
 have e24 : a.eval (.tmp 24) = .pointer (some ⟨X.bx, 4, none⟩) := known hF ho h2 (EW1.ini ok) ok.sz (by kernel_rfl)
 have hph := phase_leG (acts := EW1.acts) (m := 1) (x := 11) hC (unl (hF.lt ho) h1) rfl [4] (by kernel_rfl) (by decide)
 have hWW := hW
 generalize phase listed EW1.acts = n at hph hWW
 have hk : Nw X.W w := by
  rcases (show n = 0 ∨ n = 1 by omega) with rfl | rfl
  ·have : w = X.W := hWW
   rw [this]; exact Below.refl _ _
  ·obtain ⟨_, h9⟩ := hWW
   rw [h9]; exact (Below.refl _ _).alloc (Nat.le_refl _) _
 have hc := ((bcell hk).1 _ _ (World.block_lt_of_cell? X.W ⟨X.bx, 4, none⟩ ok.c4)).trans ok.c4
 refine st_pureG hF hC hW ho h2 (by decide) hd hg rfl ?_
 show _ = Result.ok (Next.value (.slice X.va X.vn X.vc)) w
 generalize a.eval = ρ at e24 ⊢
 unfold execOp
 rw [hop]
 simp [e24, hc, go_sem]
theorem EW1.s10 (X : EW1) (ok : EW1Ok X) {Q : PQ} : EW1.St X Q 10 := by
 intro γ listed a w o hF hC hW h1 ho h2
 obtain ⟨hd, hop, hg⟩ := fieldsL EW1.isL (i := 10) rfl ho
 have e30 : a.eval (.tmp 30) = .agg #[.slice X.ua X.n X.uc, .bool false] := known hF ho h2 (EW1.ini ok) ok.sz (by kernel_rfl)
 have hu := unl (hF.lt ho) h1
 refine st_actG (k := 0) EW1.chain EW1.nodup rfl hF hC hW h1 ho h2 (Or.inr ⟨31, hd, rfl⟩) (injG (by kernel_rfl) hu) hg ?_
 intro hW0 K hK
 have hw0 : w = X.W := hW0
 have hr : (execOp a.eval o).run Tryz.prog w = .ok (.value (.slice (some ⟨w.heap.size, 0, none⟩) 1 1)) (w.alloc (.cells #[.slice X.ua X.n X.uc, .bool false] 25)) := by
  generalize a.eval = ρ at e30 ⊢
  unfold execOp
  rw [hop]
  simp [e30, go_sem]
 unfold Oper.wp
 rw [hr, hw0]
 exact hK _ _ ⟨rfl, rfl⟩
theorem EW1.s11 (X : EW1) (ok : EW1Ok X) {Q : PQ} : EW1.St X Q 11 := by
 intro γ listed a w o hF hC hW h1 ho h2
 obtain ⟨hd, hop, hg⟩ := fieldsL EW1.isL (i := 11) rfl ho
 have e25 : a.eval (.tmp 25) = .slice X.va X.vn X.vc := known hF ho h2 (EW1.ini ok) ok.sz (by kernel_rfl)
 have e31 : a.eval (.tmp 31) = γ 0 := known hF ho h2 (EW1.ini ok) ok.sz (by kernel_rfl)
 have hu := unl (hF.lt ho) h1
 refine st_actG (k := 1) EW1.chain EW1.nodup rfl hF hC hW h1 ho h2 (Or.inr ⟨32, hd, rfl⟩) (injG (by kernel_rfl) hu) hg ?_
 intro hW0 K hK
 obtain ⟨g0, hw1⟩ := hW0
 rw [g0] at e31
 subst hw1
 have n1 : Nw X.W (X.W.alloc (.cells #[.slice X.ua X.n X.uc, .bool false] 25)) := (Below.refl _ _).alloc (Nat.le_refl _) _
 refine wp_q 25 29 29 (.slice none 0 0) (.bool false) 32 under_lns under_lns info_line (by decide) rfl _ (.tmp 25) (.tmp 31) hop (X.bx + 1) (.slice X.va X.vn X.vc) (vLn X.it) (vLn [(.slice X.ua X.n X.uc, (⟨X.p, false⟩ : LD))]) e25 (OwnQ.nw ok.own n1) X.W.heap.size 0 1 1 rfl e31 ?_ ?_ (by simp [vLn]) (by rw [vLn_len, vLn_len]; have := ok.len; simp; omega) (by have := World.block_lt_of_cell? X.W ⟨X.bx, 4, none⟩ ok.c4; simp at this ⊢; omega) ?_
 ·intro i hi
  have : i = 0 := by simp [vLn] at hi; omega
  subst this
  exact ⟨World.cell?_alloc_at _ _ _ _ rfl, World.cell?_alloc_at _ _ _ _ rfl⟩
 ·intro x hx
  simp only [vLn, List.map_cons, List.map_nil, flat2, List.mem_cons, List.not_mem_nil, or_false] at hx
  rcases hx with rfl | rfl <;> rfl
 intro g' c' w' h3 h4
 rw [vLn_len] at h3 h4 ⊢
 rw [← vLn_append] at h3
 exact hK _ _ ⟨g', c', rfl, h3, n1.ext h4⟩
theorem EW1.s14 (X : EW1) (ok : EW1Ok X) {Q : PQ} : EW1.St X Q 14 := by
 intro γ listed a w o hF hC hW h1 ho h2
 obtain ⟨hd, hop, hg⟩ := fieldsL EW1.isL (i := 14) rfl ho
 have e34 : a.eval (.tmp 34) = .pointer (some ⟨X.bx, 4, none⟩) := known hF ho h2 (EW1.ini ok) ok.sz (by kernel_rfl)
 have e32 : a.eval (.tmp 32) = γ 1 := known hF ho h2 (EW1.ini ok) ok.sz (by kernel_rfl)
 have hu := unl (hF.lt ho) h1
 refine st_actG (k := 2) EW1.chain EW1.nodup rfl hF hC hW h1 ho h2 (Or.inl hd) (injG (by kernel_rfl) hu) hg ?_
 intro hW0 K hK
 obtain ⟨g, cc, g1, o1, x1⟩ := hW0
 have hb := World.block_lt_of_cell? X.W ⟨X.bx, 4, none⟩ ok.c4
 have t0 : w.cell? ⟨X.bx, 4, none⟩ = some (.slice X.va X.vn X.vc) := (Ext.cell x1 hb ok.nev 4).trans ok.c4
 have tf : w.frozen? ⟨X.bx, 4, none⟩ = false := (World.frozen?_of_block (w := X.W) (a := ⟨X.bx, 4, none⟩) (x1.1.block X.bx hb (fun e => ok.nev e.symm))).trans (ok.ff 4)
 have hr : (execOp a.eval o).run Tryz.prog w = .ok .skip (w.setCell ⟨X.bx, 4, none⟩ (γ 1)) := by
  rw [g1] at e32 ⊢
  generalize a.eval = ρ at e32 e34 ⊢
  unfold execOp
  rw [hop]
  simp [e32, e34, t0, tf, go_sem]
 unfold Oper.wp
 rw [hr]
 exact hK undef _ ⟨w, g, cc, g1, o1, x1, rfl⟩
theorem EW1.size : (opsOf 1 Tryz.f68).size = 15 := by kernel_rfl
theorem EW1.rest (X : EW1) (ok : EW1Ok X) {Q : PQ} : ∀ i ∈ [4, 10, 11, 14], EW1.St X Q i := by
 simp only [List.forall_mem_cons]
 exact ⟨EW1.s4 X ok,
  EW1.s10 X ok,
  EW1.s11 X ok,
  EW1.s14 X ok, List.forall_mem_nil _⟩
theorem EW1.steps (X : EW1) (ok : EW1Ok X) {Q : PQ} (i : Nat) (hi : i < (opsOf 1 Tryz.f68).size) : EW1.St X Q i := by
 rw [EW1.size] at hi
 rcases (by decide : ∀ i, i < 15 → i ∈ [0, 1, 2, 3, 5, 6, 7, 9, 12, 13] ∨ i ∈ [8] ∨ i ∈ [4, 10, 11, 14]) i hi with h | h | h
 · exact EW1.plain X ok i h
 · exact EW1.soon X ok i h
 · exact EW1.rest X ok i h
theorem EW1.run (X : EW1) (ok : EW1Ok X) {Q : PQ} (w : World) (h0 : X.Wd 0 (fun _ => undef) w.drew) (hend : ∀ (γ : Nat → Value) w', X.Wd 3 γ w' → Q .normal ((((((((((((((X.a0.put (some 21) (.pointer (some ⟨X.bx, 0, none⟩))).put (some 22) (.pointer (some ⟨X.bx, 0, none⟩))).put (some 23) (.pointer (some ⟨X.bx, 0, none⟩))).put (some 24) (.pointer (some ⟨X.bx, 4, none⟩))).put (some 25) (.slice X.va X.vn X.vc)).put (some 26) (.pointer (some ⟨X.bx, 0, none⟩))).put (some 27) (.pointer (some ⟨X.bx, 0, none⟩))).put (some 28) (.pointer (some ⟨X.bx, 3, none⟩))).put (some 29) (.slice X.ua X.n X.uc)).put (some 30) (.agg #[.slice X.ua X.n X.uc, .bool false])).put (some 31) (γ 0)).put (some 32) (γ 1)).put (some 33) (.pointer (some ⟨X.bx, 0, none⟩))).put (some 34) (.pointer (some ⟨X.bx, 4, none⟩))) w') : (Code.region 1 (opsOf 1 Tryz.f68) true).wp Tryz.prog Q X.a0 w := by
 refine reg_act (acts := EW1.acts) (av := EW1.av) (val0 := X.val0) (Wd := X.Wd) (by kernel_rfl) (by kernel_rfl) (by rw [EW1.size]; decide) (fun i hi => EW1.steps X ok i hi) _ h0 ?_
 intro γ w' h
 exact end_at (hend γ w' h) (by kernel_rfl)
structure EW3 where
 bx : Nat
 ua : Option Addr
 n : Nat
 uc : Nat
 mn : Int
 W : World
 a0 : Act
structure EW3Ok (X : EW3) : Prop where
 c3 : X.W.cell? ⟨X.bx, 3, none⟩ = some (.slice X.ua X.n X.uc)
 c5 : X.W.cell? ⟨X.bx, 5, none⟩ = some (.int .i64 X.mn)
 cz : ∃ z, X.W.cell? ⟨X.bx, 5, none⟩ = some (.int .i64 z)
 ff : ∀ o, X.W.frozen? ⟨X.bx, o, none⟩ = false
 w1 : IntKind.i64.wrap (X.mn + (X.n : Int)) = X.mn + (X.n : Int)
 e0 : X.a0.eval (.tmp 0) = .pointer (some ⟨X.bx, 0, none⟩)
 sz : X.a0.tmps.size = 56
def EW3.val0 (X : EW3) : Nat → Value
 | 0 => .pointer (some ⟨X.bx, 0, none⟩)
 | 41 => .pointer (some ⟨X.bx, 0, none⟩)
 | 42 => .pointer (some ⟨X.bx, 0, none⟩)
 | 43 => .pointer (some ⟨X.bx, 5, none⟩)
 | 44 => .int .i64 X.mn
 | 45 => .pointer (some ⟨X.bx, 0, none⟩)
 | 46 => .pointer (some ⟨X.bx, 0, none⟩)
 | 47 => .pointer (some ⟨X.bx, 3, none⟩)
 | 48 => .slice X.ua X.n X.uc
 | 49 => .int .i64 (X.n : Int)
 | 50 => .int .i64 (X.mn + (X.n : Int))
 | 51 => .pointer (some ⟨X.bx, 0, none⟩)
 | 52 => .pointer (some ⟨X.bx, 5, none⟩)
 | _ => undef
def EW3.av : Nat → Option Nat
 | _ => none
def EW3.acts : List Nat := [12]
def EW3.Wd (X : EW3) : Nat → (Nat → Value) → World → Prop
  | 0, _, w => w = X.W
  | _, _, w => w = X.W.setCell ⟨X.bx, 5, none⟩ (.int .i64 (X.mn + (X.n : Int)))
theorem EW3.chain : chainG (opsOf 3 Tryz.f68) EW3.acts = true := by kernel_rfl
theorem EW3.nodup : EW3.acts.Nodup := by decide
def EW3.L : List (Option Nat × Op × Option (Nat × Bool)) := [
 (some 41, .move (.tmp 0), none),
 (some 42, .nilCheck (.tmp 41), none),
 (some 43, .fieldAddr 100 (.tmp 42) 5, none),
 (some 44, .load 3 (.tmp 43), none),
 (some 45, .move (.tmp 0), none),
 (some 46, .nilCheck (.tmp 45), none),
 (some 47, .fieldAddr 100 (.tmp 46) 3, none),
 (some 48, .load 23 (.tmp 47), none),
 (some 49, .call { callee := .builtin .len, args := #[(.tmp 48)], argTypes := #[23] }, none),
 (some 50, .binOp .add 3 (.tmp 44) (.tmp 49) 3, none),
 (some 51, .nilCheck (.tmp 41), none),
 (some 52, .fieldAddr 100 (.tmp 51) 5, none),
 (none, .store 3 (.tmp 52) (.tmp 50), none)]
theorem EW3.isL : (opsOf 3 Tryz.f68).toList.map tri = EW3.L := by kernel_rfl
theorem EW3.ini {X : EW3} (ok : EW3Ok X) : ∀ n ∈ [0], X.a0.eval (.tmp n) = X.val0 n := by
 simp only [List.forall_mem_cons]
 exact ⟨ok.e0, List.forall_mem_nil _⟩
abbrev EW3.St (X : EW3) (Q : PQ) (i : Nat) : Prop := StepG (opsOf 3 Tryz.f68) EW3.acts EW3.av X.val0 X.Wd X.a0 Q i
theorem EW3.plain (X : EW3) (ok : EW3Ok X) {Q : PQ} : ∀ i ∈ [0, 1, 2, 4, 5, 6, 8, 9, 10, 11], EW3.St X Q i := by
 simp only [List.forall_mem_cons]
 refine ⟨?_, ?_, ?_, ?_, ?_, ?_, ?_, ?_, ?_, ?_, List.forall_mem_nil _⟩
 all_goals
  refine st_plain EW3.isL (EW3.ini ok) ok.sz rfl (by kernel_rfl) ?_
  intro γ w n o hW hop
  unfold execOp
  rw [hop]
  simp [envR, valG, EW3.av, EW3.val0, ok.w1, go_sem]
theorem EW3.soon (X : EW3) (ok : EW3Ok X) {Q : PQ} : ∀ i ∈ [3, 7], EW3.St X Q i := by
 simp only [List.forall_mem_cons]
 refine ⟨?_, ?_, List.forall_mem_nil _⟩
 all_goals
  refine st_plainM (m := 0) EW3.isL (EW3.ini ok) ok.sz rfl (by kernel_rfl) ?_
  intro γ w n o hn hW hop
  obtain rfl : n = 0 := by omega
  have hk : w = X.W := hW
  subst hk
  unfold execOp
  rw [hop]
  simp [envR, valG, EW3.av, EW3.val0, ok.c5, ok.c3, go_sem]
theorem EW3.s12 (X : EW3) (ok : EW3Ok X) {Q : PQ} : EW3.St X Q 12 := by
 intro γ listed a w o hF hC hW h1 ho h2
 obtain ⟨hd, hop, hg⟩ := fieldsL EW3.isL (i := 12) rfl ho
 have e52 : a.eval (.tmp 52) = .pointer (some ⟨X.bx, 5, none⟩) := known hF ho h2 (EW3.ini ok) ok.sz (by kernel_rfl)
 have e50 : a.eval (.tmp 50) = .int .i64 (X.mn + (X.n : Int)) := known hF ho h2 (EW3.ini ok) ok.sz (by kernel_rfl)
 have hu := unl (hF.lt ho) h1
 refine st_actG (k := 0) EW3.chain EW3.nodup rfl hF hC hW h1 ho h2 (Or.inl hd) (injG (by kernel_rfl) hu) hg ?_
 intro hW0 K hK
 have hw0 : w = X.W := hW0
 obtain ⟨z0, f0⟩ := ok.cz
 have ff := ok.ff
 have hr : (execOp a.eval o).run Tryz.prog X.W = .ok .skip (X.W.setCell ⟨X.bx, 5, none⟩ (.int .i64 (X.mn + (X.n : Int)))) := by
  generalize a.eval = ρ at e52 e50 ⊢
  unfold execOp
  rw [hop]
  simp [e52, e50, f0, ff, go_sem]
 unfold Oper.wp
 rw [hw0, hr]
 exact hK undef _ rfl
theorem EW3.size : (opsOf 3 Tryz.f68).size = 13 := by kernel_rfl
theorem EW3.rest (X : EW3) (ok : EW3Ok X) {Q : PQ} : ∀ i ∈ [12], EW3.St X Q i := by
 simp only [List.forall_mem_cons]
 exact ⟨EW3.s12 X ok, List.forall_mem_nil _⟩
theorem EW3.steps (X : EW3) (ok : EW3Ok X) {Q : PQ} (i : Nat) (hi : i < (opsOf 3 Tryz.f68).size) : EW3.St X Q i := by
 rw [EW3.size] at hi
 rcases (by decide : ∀ i, i < 13 → i ∈ [0, 1, 2, 4, 5, 6, 8, 9, 10, 11] ∨ i ∈ [3, 7] ∨ i ∈ [12]) i hi with h | h | h
 · exact EW3.plain X ok i h
 · exact EW3.soon X ok i h
 · exact EW3.rest X ok i h
theorem EW3.run (X : EW3) (ok : EW3Ok X) {Q : PQ} (w : World) (h0 : X.Wd 0 (fun _ => undef) w.drew) (hend : ∀ (γ : Nat → Value) w', X.Wd 1 γ w' → Q .normal ((((((((((((X.a0.put (some 41) (.pointer (some ⟨X.bx, 0, none⟩))).put (some 42) (.pointer (some ⟨X.bx, 0, none⟩))).put (some 43) (.pointer (some ⟨X.bx, 5, none⟩))).put (some 44) (.int .i64 X.mn)).put (some 45) (.pointer (some ⟨X.bx, 0, none⟩))).put (some 46) (.pointer (some ⟨X.bx, 0, none⟩))).put (some 47) (.pointer (some ⟨X.bx, 3, none⟩))).put (some 48) (.slice X.ua X.n X.uc)).put (some 49) (.int .i64 (X.n : Int))).put (some 50) (.int .i64 (X.mn + (X.n : Int)))).put (some 51) (.pointer (some ⟨X.bx, 0, none⟩))).put (some 52) (.pointer (some ⟨X.bx, 5, none⟩))) w') : (Code.region 3 (opsOf 3 Tryz.f68) true).wp Tryz.prog Q X.a0 w := by
 refine reg_act (acts := EW3.acts) (av := EW3.av) (val0 := X.val0) (Wd := X.Wd) (by kernel_rfl) (by kernel_rfl) (by rw [EW3.size]; decide) (fun i hi => EW3.steps X ok i hi) _ h0 ?_
 intro γ w' h
 exact end_at (hend γ w' h) (by kernel_rfl)
structure AWA where
 bx : Nat
 bq : Nat
 x : Int
 y : Int
 k : Int
 r : Int
 W : World
 a0 : Act
structure AWAOk (X : AWA) : Prop where
 c1 : X.W.cell? ⟨X.bx, 1, none⟩ = some (.int .i64 X.k)
 rm : X.k.tmod 2 = X.r
 hr : (X.r == 0) = false
 e0 : X.a0.eval (.tmp 0) = .pointer (some ⟨X.bx, 0, none⟩)
 e3 : X.a0.eval (.tmp 3) = .pointer (some ⟨X.bq, 0, none⟩)
 sz : X.a0.tmps.size = 44
def AWA.val0 (X : AWA) : Nat → Value
 | 0 => .pointer (some ⟨X.bx, 0, none⟩)
 | 3 => .pointer (some ⟨X.bq, 0, none⟩)
 | 4 => .pointer (some ⟨X.bx, 0, none⟩)
 | 5 => .pointer (some ⟨X.bx, 0, none⟩)
 | 6 => .pointer (some ⟨X.bx, 1, none⟩)
 | 7 => .int .i64 X.k
 | 8 => .int .i64 X.r
 | 9 => .bool false
 | 10 => .bool false
 | 33 => .bool false
 | _ => undef
def AWA.av : Nat → Option Nat
 | _ => none
def AWA.acts : List Nat := []
def AWA.Wd (X : AWA) : Nat → (Nat → Value) → World → Prop
  | _, _, w => Kp X.W w
theorem AWA.kp {X : AWA} {n : Nat} {γ : Nat → Value} {w : World} (h : X.Wd n γ w) : Kp X.W w := h
theorem AWA.keep {X : AWA} {n : Nat} {γ : Nat → Value} {w w' : World} (h : X.Wd n γ w) (k : Kp w w') : X.Wd n γ w' := Kp.trans h k
def AWA.L : List (Option Nat × Op × Option (Nat × Bool)) := [
 (some 4, .move (.tmp 0), none),
 (some 5, .nilCheck (.tmp 4), none),
 (some 6, .fieldAddr 100 (.tmp 5) 1, none),
 (some 7, .load 3 (.tmp 6), none),
 (some 8, .binOp .rem 3 (.tmp 7) (.const (.int .i64 2)) 3, none),
 (some 9, .binOp .eql 3 (.tmp 8) (.const (.int .i64 0)) 3, none),
 (some 10, .move (.tmp 9), none),
 (some 11, .move (.tmp 0), some (6, true)),
 (some 12, .nilCheck (.tmp 11), some (6, true)),
 (some 13, .fieldAddr 100 (.tmp 12) 3, some (6, true)),
 (some 14, .load 23 (.tmp 13), some (6, true)),
 (some 15, .call { callee := .builtin .len, args := #[(.tmp 14)], argTypes := #[23] }, some (6, true)),
 (some 16, .binOp .eql 3 (.tmp 15) (.const (.int .i64 0)) 3, some (6, true)),
 (some 17, .move (.tmp 16), some (6, true)),
 (some 18, .move (.tmp 0), some (13, false)),
 (some 19, .nilCheck (.tmp 18), some (13, false)),
 (some 20, .fieldAddr 100 (.tmp 19) 3, some (13, false)),
 (some 21, .load 23 (.tmp 20), some (13, false)),
 (some 22, .move (.tmp 0), some (13, false)),
 (some 23, .nilCheck (.tmp 22), some (13, false)),
 (some 24, .fieldAddr 100 (.tmp 23) 3, some (13, false)),
 (some 25, .load 23 (.tmp 24), some (13, false)),
 (some 26, .call { callee := .builtin .len, args := #[(.tmp 25)], argTypes := #[23] }, some (13, false)),
 (some 27, .binOp .sub 3 (.tmp 26) (.const (.int .i64 1)) 3, some (13, false)),
 (some 28, .indexAddr 23 (.tmp 21) (.tmp 27), some (13, false)),
 (some 29, .load 34 (.tmp 28), some (13, false)),
 (some 30, .load 34 (.tmp 3), some (13, false)),
 (some 31, .binOp .neq 34 (.tmp 29) (.tmp 30) 34, some (13, false)),
 (some 32, .pick (.tmp 17) (.const (.bool true)) (.tmp 31), some (6, true)),
 (some 33, .pick (.tmp 10) (.tmp 32) (.const (.bool false)), none)]
theorem AWA.isL : (opsOf 1 Tryz.f87).toList.map tri = AWA.L := by kernel_rfl
theorem AWA.ini {X : AWA} (ok : AWAOk X) : ∀ n ∈ [0, 3], X.a0.eval (.tmp n) = X.val0 n := by
 simp only [List.forall_mem_cons]
 exact ⟨ok.e0, ok.e3, List.forall_mem_nil _⟩
abbrev AWA.St (X : AWA) (Q : PQ) (i : Nat) : Prop := StepG (opsOf 1 Tryz.f87) AWA.acts AWA.av X.val0 X.Wd X.a0 Q i
theorem AWA.plain (X : AWA) (ok : AWAOk X) {Q : PQ} : ∀ i ∈ [0, 1, 2, 3, 4, 5, 6, 29], AWA.St X Q i := by
 simp only [List.forall_mem_cons]
 refine ⟨?_, ?_, ?_, ?_, ?_, ?_, ?_, ?_, List.forall_mem_nil _⟩
 all_goals
  refine st_plain AWA.isL (AWA.ini ok) ok.sz rfl (by kernel_rfl) ?_
  intro γ w n o hW hop
  have hc_c1 := rq_at (AWA.kp hW) ok.c1
  unfold execOp
  rw [hop]
  simp [envR, valG, AWA.av, AWA.val0, hc_c1, ok.rm, ok.hr, go_sem]
theorem AWA.skip (X : AWA) (ok : AWAOk X) {Q : PQ} : ∀ i ∈ [7, 8, 9, 10, 11, 12, 13, 28], AWA.St X Q i := by
 simp only [List.forall_mem_cons]
 refine ⟨?_, ?_, ?_, ?_, ?_, ?_, ?_, ?_, List.forall_mem_nil _⟩
 all_goals
  exact st_plainS AWA.isL (AWA.ini ok) ok.sz rfl rfl (Or.inl rfl) (by kernel_rfl) rfl
theorem AWA.undo (X : AWA) (ok : AWAOk X) {Q : PQ} : ∀ i ∈ [14, 15, 16, 17, 18, 19, 20, 21, 22, 23, 24, 25, 26, 27], AWA.St X Q i := by
 simp only [List.forall_mem_cons]
 refine ⟨?_, ?_, ?_, ?_, ?_, ?_, ?_, ?_, ?_, ?_, ?_, ?_, ?_, ?_, List.forall_mem_nil _⟩
 all_goals
  exact st_plainS AWA.isL (AWA.ini ok) ok.sz rfl rfl (Or.inr rfl) (by kernel_rfl) rfl
theorem AWA.size : (opsOf 1 Tryz.f87).size = 30 := by kernel_rfl
theorem AWA.steps (X : AWA) (ok : AWAOk X) {Q : PQ} (i : Nat) (hi : i < (opsOf 1 Tryz.f87).size) : AWA.St X Q i := by
 rw [AWA.size] at hi
 rcases (by decide : ∀ i, i < 30 → i ∈ [0, 1, 2, 3, 4, 5, 6, 29] ∨ i ∈ [7, 8, 9, 10, 11, 12, 13, 28] ∨ i ∈ [14, 15, 16, 17, 18, 19, 20, 21, 22, 23, 24, 25, 26, 27]) i hi with h | h | h
 · exact AWA.plain X ok i h
 · exact AWA.skip X ok i h
 · exact AWA.undo X ok i h
theorem AWA.run (X : AWA) (ok : AWAOk X) {Q : PQ} (w : World) (h0 : X.Wd 0 (fun _ => undef) w.drew) (hend : ∀ (γ : Nat → Value) w', X.Wd 0 γ w' → Q .normal ((((((((((((((((((((((((((((((X.a0.put (some 4) (.pointer (some ⟨X.bx, 0, none⟩))).put (some 5) (.pointer (some ⟨X.bx, 0, none⟩))).put (some 6) (.pointer (some ⟨X.bx, 1, none⟩))).put (some 7) (.int .i64 X.k)).put (some 8) (.int .i64 X.r)).put (some 9) (.bool false)).put (some 10) (.bool false)).put (some 11) (undef)).put (some 12) (undef)).put (some 13) (undef)).put (some 14) (undef)).put (some 15) (undef)).put (some 16) (undef)).put (some 17) (undef)).put (some 18) (undef)).put (some 19) (undef)).put (some 20) (undef)).put (some 21) (undef)).put (some 22) (undef)).put (some 23) (undef)).put (some 24) (undef)).put (some 25) (undef)).put (some 26) (undef)).put (some 27) (undef)).put (some 28) (undef)).put (some 29) (undef)).put (some 30) (undef)).put (some 31) (undef)).put (some 32) (undef)).put (some 33) (.bool false)) w') : (Code.region 1 (opsOf 1 Tryz.f87) true).wp Tryz.prog Q X.a0 w := by
 refine reg_act (acts := AWA.acts) (av := AWA.av) (val0 := X.val0) (Wd := X.Wd) (by kernel_rfl) (by kernel_rfl) (by rw [AWA.size]; decide) (fun i hi => AWA.steps X ok i hi) _ h0 ?_
 intro γ w' h
 exact end_at (hend γ w' h) (by kernel_rfl)
structure AWB where
 bx : Nat
 bq : Nat
 x : Int
 y : Int
 k : Int
 r : Int
 ua : Option Addr
 uc : Nat
 W : World
 a0 : Act
structure AWBOk (X : AWB) : Prop where
 c1 : X.W.cell? ⟨X.bx, 1, none⟩ = some (.int .i64 X.k)
 c3 : X.W.cell? ⟨X.bx, 3, none⟩ = some (.slice X.ua 0 X.uc)
 rm : X.k.tmod 2 = X.r
 hr : (X.r == 0) = true
 e0 : X.a0.eval (.tmp 0) = .pointer (some ⟨X.bx, 0, none⟩)
 e3 : X.a0.eval (.tmp 3) = .pointer (some ⟨X.bq, 0, none⟩)
 sz : X.a0.tmps.size = 44
def AWB.val0 (X : AWB) : Nat → Value
 | 0 => .pointer (some ⟨X.bx, 0, none⟩)
 | 3 => .pointer (some ⟨X.bq, 0, none⟩)
 | 4 => .pointer (some ⟨X.bx, 0, none⟩)
 | 5 => .pointer (some ⟨X.bx, 0, none⟩)
 | 6 => .pointer (some ⟨X.bx, 1, none⟩)
 | 7 => .int .i64 X.k
 | 8 => .int .i64 X.r
 | 9 => .bool true
 | 10 => .bool true
 | 11 => .pointer (some ⟨X.bx, 0, none⟩)
 | 12 => .pointer (some ⟨X.bx, 0, none⟩)
 | 13 => .pointer (some ⟨X.bx, 3, none⟩)
 | 14 => .slice X.ua 0 X.uc
 | 15 => .int .i64 0
 | 16 => .bool true
 | 17 => .bool true
 | 32 => .bool true
 | 33 => .bool true
 | _ => undef
def AWB.av : Nat → Option Nat
 | _ => none
def AWB.acts : List Nat := []
def AWB.Wd (X : AWB) : Nat → (Nat → Value) → World → Prop
  | _, _, w => Kp X.W w
theorem AWB.kp {X : AWB} {n : Nat} {γ : Nat → Value} {w : World} (h : X.Wd n γ w) : Kp X.W w := h
theorem AWB.keep {X : AWB} {n : Nat} {γ : Nat → Value} {w w' : World} (h : X.Wd n γ w) (k : Kp w w') : X.Wd n γ w' := Kp.trans h k
theorem AWB.ini {X : AWB} (ok : AWBOk X) : ∀ n ∈ [0, 3], X.a0.eval (.tmp n) = X.val0 n := by
 simp only [List.forall_mem_cons]
 exact ⟨ok.e0, ok.e3, List.forall_mem_nil _⟩
abbrev AWB.St (X : AWB) (Q : PQ) (i : Nat) : Prop := StepG (opsOf 1 Tryz.f87) AWB.acts AWB.av X.val0 X.Wd X.a0 Q i
theorem AWB.plain (X : AWB) (ok : AWBOk X) {Q : PQ} : ∀ i ∈ [0, 1, 2, 3, 4, 5, 6, 29], AWB.St X Q i := by
 simp only [List.forall_mem_cons]
 refine ⟨?_, ?_, ?_, ?_, ?_, ?_, ?_, ?_, List.forall_mem_nil _⟩
 all_goals
  refine st_plain AWA.isL (AWB.ini ok) ok.sz rfl (by kernel_rfl) ?_
  intro γ w n o hW hop
  have hc_c1 := rq_at (AWB.kp hW) ok.c1
  have hc_c3 := rq_at (AWB.kp hW) ok.c3
  unfold execOp
  rw [hop]
  simp [envR, valG, AWB.av, AWB.val0, hc_c1, ok.rm, ok.hr, hc_c3, go_sem]
theorem AWB.want (X : AWB) (ok : AWBOk X) {Q : PQ} : ∀ i ∈ [7, 8, 9, 10, 11, 12, 13, 28], AWB.St X Q i := by
 simp only [List.forall_mem_cons]
 refine ⟨?_, ?_, ?_, ?_, ?_, ?_, ?_, ?_, List.forall_mem_nil _⟩
 all_goals
  refine st_plainW AWA.isL (AWB.ini ok) ok.sz rfl rfl rfl (by kernel_rfl) ?_
  intro γ w n o hW hop
  have hc_c1 := rq_at (AWB.kp hW) ok.c1
  have hc_c3 := rq_at (AWB.kp hW) ok.c3
  unfold execOp
  rw [hop]
  simp [envR, valG, AWB.av, AWB.val0, hc_c1, ok.rm, ok.hr, hc_c3, go_sem]
theorem AWB.skip (X : AWB) (ok : AWBOk X) {Q : PQ} : ∀ i ∈ [14, 15, 16, 17, 18, 19, 20, 21, 22, 23, 24, 25, 26, 27], AWB.St X Q i := by
 simp only [List.forall_mem_cons]
 refine ⟨?_, ?_, ?_, ?_, ?_, ?_, ?_, ?_, ?_, ?_, ?_, ?_, ?_, ?_, List.forall_mem_nil _⟩
 all_goals
  exact st_plainS AWA.isL (AWB.ini ok) ok.sz rfl rfl (Or.inl rfl) (by kernel_rfl) rfl
theorem AWB.steps (X : AWB) (ok : AWBOk X) {Q : PQ} (i : Nat) (hi : i < (opsOf 1 Tryz.f87).size) : AWB.St X Q i := by
 rw [AWA.size] at hi
 rcases (by decide : ∀ i, i < 30 → i ∈ [0, 1, 2, 3, 4, 5, 6, 29] ∨ i ∈ [7, 8, 9, 10, 11, 12, 13, 28] ∨ i ∈ [14, 15, 16, 17, 18, 19, 20, 21, 22, 23, 24, 25, 26, 27]) i hi with h | h | h
 · exact AWB.plain X ok i h
 · exact AWB.want X ok i h
 · exact AWB.skip X ok i h
theorem AWB.run (X : AWB) (ok : AWBOk X) {Q : PQ} (w : World) (h0 : X.Wd 0 (fun _ => undef) w.drew) (hend : ∀ (γ : Nat → Value) w', X.Wd 0 γ w' → Q .normal ((((((((((((((((((((((((((((((X.a0.put (some 4) (.pointer (some ⟨X.bx, 0, none⟩))).put (some 5) (.pointer (some ⟨X.bx, 0, none⟩))).put (some 6) (.pointer (some ⟨X.bx, 1, none⟩))).put (some 7) (.int .i64 X.k)).put (some 8) (.int .i64 X.r)).put (some 9) (.bool true)).put (some 10) (.bool true)).put (some 11) (.pointer (some ⟨X.bx, 0, none⟩))).put (some 12) (.pointer (some ⟨X.bx, 0, none⟩))).put (some 13) (.pointer (some ⟨X.bx, 3, none⟩))).put (some 14) (.slice X.ua 0 X.uc)).put (some 15) (.int .i64 0)).put (some 16) (.bool true)).put (some 17) (.bool true)).put (some 18) (undef)).put (some 19) (undef)).put (some 20) (undef)).put (some 21) (undef)).put (some 22) (undef)).put (some 23) (undef)).put (some 24) (undef)).put (some 25) (undef)).put (some 26) (undef)).put (some 27) (undef)).put (some 28) (undef)).put (some 29) (undef)).put (some 30) (undef)).put (some 31) (undef)).put (some 32) (.bool true)).put (some 33) (.bool true)) w') : (Code.region 1 (opsOf 1 Tryz.f87) true).wp Tryz.prog Q X.a0 w := by
 refine reg_act (acts := AWB.acts) (av := AWB.av) (val0 := X.val0) (Wd := X.Wd) (by kernel_rfl) (by kernel_rfl) (by rw [AWA.size]; decide) (fun i hi => AWB.steps X ok i hi) _ h0 ?_
 intro γ w' h
 exact end_at (hend γ w' h) (by kernel_rfl)
structure AWC where
 bx : Nat
 bq : Nat
 x : Int
 y : Int
 k : Int
 r : Int
 g : Nat
 n : Nat
 m : Nat
 uc : Nat
 W : World
 a0 : Act
structure AWCOk (X : AWC) : Prop where
 c1 : X.W.cell? ⟨X.bx, 1, none⟩ = some (.int .i64 X.k)
 c3 : X.W.cell? ⟨X.bx, 3, none⟩ = some (.slice (some ⟨X.g, 0, none⟩) X.n X.uc)
 q0 : X.W.cell? ⟨X.bq, 0, none⟩ = some (.int .i64 X.x)
 q1 : X.W.cell? ⟨X.bq, 1, none⟩ = some (.int .i64 X.y)
 rm : X.k.tmod 2 = X.r
 hr : (X.r == 0) = true
 h0 : ((X.n : Int) == 0) = false
 wm : IntKind.i64.wrap ((X.n : Int) - 1) = (X.m : Int)
 hm : X.m < X.n
 px : X.W.cell? ⟨X.g, X.m * 2, none⟩ = some (.int .i64 X.x)
 py : X.W.cell? ⟨X.g, X.m * 2 + 1, none⟩ = some (.int .i64 X.y)
 e0 : X.a0.eval (.tmp 0) = .pointer (some ⟨X.bx, 0, none⟩)
 e3 : X.a0.eval (.tmp 3) = .pointer (some ⟨X.bq, 0, none⟩)
 sz : X.a0.tmps.size = 44
def AWC.val0 (X : AWC) : Nat → Value
 | 0 => .pointer (some ⟨X.bx, 0, none⟩)
 | 3 => .pointer (some ⟨X.bq, 0, none⟩)
 | 4 => .pointer (some ⟨X.bx, 0, none⟩)
 | 5 => .pointer (some ⟨X.bx, 0, none⟩)
 | 6 => .pointer (some ⟨X.bx, 1, none⟩)
 | 7 => .int .i64 X.k
 | 8 => .int .i64 X.r
 | 9 => .bool true
 | 10 => .bool true
 | 11 => .pointer (some ⟨X.bx, 0, none⟩)
 | 12 => .pointer (some ⟨X.bx, 0, none⟩)
 | 13 => .pointer (some ⟨X.bx, 3, none⟩)
 | 14 => .slice (some ⟨X.g, 0, none⟩) X.n X.uc
 | 15 => .int .i64 (X.n : Int)
 | 16 => .bool false
 | 17 => .bool false
 | 18 => .pointer (some ⟨X.bx, 0, none⟩)
 | 19 => .pointer (some ⟨X.bx, 0, none⟩)
 | 20 => .pointer (some ⟨X.bx, 3, none⟩)
 | 21 => .slice (some ⟨X.g, 0, none⟩) X.n X.uc
 | 22 => .pointer (some ⟨X.bx, 0, none⟩)
 | 23 => .pointer (some ⟨X.bx, 0, none⟩)
 | 24 => .pointer (some ⟨X.bx, 3, none⟩)
 | 25 => .slice (some ⟨X.g, 0, none⟩) X.n X.uc
 | 26 => .int .i64 (X.n : Int)
 | 27 => .int .i64 (X.m : Int)
 | 28 => .pointer (some ⟨X.g, X.m * 2, none⟩)
 | 29 => .agg #[.int .i64 X.x, .int .i64 X.y]
 | 30 => .agg #[.int .i64 X.x, .int .i64 X.y]
 | 31 => .bool false
 | 32 => .bool false
 | 33 => .bool false
 | _ => undef
def AWC.av : Nat → Option Nat
 | _ => none
def AWC.acts : List Nat := []
def AWC.Wd (X : AWC) : Nat → (Nat → Value) → World → Prop
  | _, _, w => Kp X.W w
theorem AWC.kp {X : AWC} {n : Nat} {γ : Nat → Value} {w : World} (h : X.Wd n γ w) : Kp X.W w := h
theorem AWC.keep {X : AWC} {n : Nat} {γ : Nat → Value} {w w' : World} (h : X.Wd n γ w) (k : Kp w w') : X.Wd n γ w' := Kp.trans h k
theorem AWC.ini {X : AWC} (ok : AWCOk X) : ∀ n ∈ [0, 3], X.a0.eval (.tmp n) = X.val0 n := by
 simp only [List.forall_mem_cons]
 exact ⟨ok.e0, ok.e3, List.forall_mem_nil _⟩
abbrev AWC.St (X : AWC) (Q : PQ) (i : Nat) : Prop := StepG (opsOf 1 Tryz.f87) AWC.acts AWC.av X.val0 X.Wd X.a0 Q i
theorem AWC.plain (X : AWC) (ok : AWCOk X) {Q : PQ} : ∀ i ∈ [0, 1, 2, 3, 4, 5, 6, 29], AWC.St X Q i := by
 simp only [List.forall_mem_cons]
 refine ⟨?_, ?_, ?_, ?_, ?_, ?_, ?_, ?_, List.forall_mem_nil _⟩
 all_goals
  refine st_plain AWA.isL (AWC.ini ok) ok.sz rfl (by kernel_rfl) ?_
  intro γ w n o hW hop
  have hc_c1 := rq_at (AWC.kp hW) ok.c1
  have hc_c3 := rq_at (AWC.kp hW) ok.c3
  have hc_px := rq_at (AWC.kp hW) ok.px
  have hc_py := rq_at (AWC.kp hW) ok.py
  have hc_q0 := rq_at (AWC.kp hW) ok.q0
  have hc_q1 := rq_at (AWC.kp hW) ok.q1
  unfold execOp
  rw [hop]
  simp [envR, valG, AWC.av, AWC.val0, hc_c1, ok.rm, ok.hr, hc_c3, ok.h0, ok.wm, ok.hm, hc_px, hc_py, hc_q0, hc_q1, go_sem]
theorem AWC.want (X : AWC) (ok : AWCOk X) {Q : PQ} : ∀ i ∈ [7, 8, 9, 10, 11, 12, 13, 14, 15, 16, 17, 18, 19, 20, 21, 22, 23, 24, 25, 26, 27, 28], AWC.St X Q i := by
 simp only [List.forall_mem_cons]
 refine ⟨?_, ?_, ?_, ?_, ?_, ?_, ?_, ?_, ?_, ?_, ?_, ?_, ?_, ?_, ?_, ?_, ?_, ?_, ?_, ?_, ?_, ?_, List.forall_mem_nil _⟩
 all_goals
  refine st_plainW AWA.isL (AWC.ini ok) ok.sz rfl rfl rfl (by kernel_rfl) ?_
  intro γ w n o hW hop
  have hc_c1 := rq_at (AWC.kp hW) ok.c1
  have hc_c3 := rq_at (AWC.kp hW) ok.c3
  have hc_px := rq_at (AWC.kp hW) ok.px
  have hc_py := rq_at (AWC.kp hW) ok.py
  have hc_q0 := rq_at (AWC.kp hW) ok.q0
  have hc_q1 := rq_at (AWC.kp hW) ok.q1
  unfold execOp
  rw [hop]
  simp [envR, valG, AWC.av, AWC.val0, hc_c1, ok.rm, ok.hr, hc_c3, ok.h0, ok.wm, ok.hm, hc_px, hc_py, hc_q0, hc_q1, go_sem]
theorem AWC.steps (X : AWC) (ok : AWCOk X) {Q : PQ} (i : Nat) (hi : i < (opsOf 1 Tryz.f87).size) : AWC.St X Q i := by
 rw [AWA.size] at hi
 rcases (by decide : ∀ i, i < 30 → i ∈ [0, 1, 2, 3, 4, 5, 6, 29] ∨ i ∈ [7, 8, 9, 10, 11, 12, 13, 14, 15, 16, 17, 18, 19, 20, 21, 22, 23, 24, 25, 26, 27, 28]) i hi with h | h
 · exact AWC.plain X ok i h
 · exact AWC.want X ok i h
theorem AWC.run (X : AWC) (ok : AWCOk X) {Q : PQ} (w : World) (h0 : X.Wd 0 (fun _ => undef) w.drew) (hend : ∀ (γ : Nat → Value) w', X.Wd 0 γ w' → Q .normal ((((((((((((((((((((((((((((((X.a0.put (some 4) (.pointer (some ⟨X.bx, 0, none⟩))).put (some 5) (.pointer (some ⟨X.bx, 0, none⟩))).put (some 6) (.pointer (some ⟨X.bx, 1, none⟩))).put (some 7) (.int .i64 X.k)).put (some 8) (.int .i64 X.r)).put (some 9) (.bool true)).put (some 10) (.bool true)).put (some 11) (.pointer (some ⟨X.bx, 0, none⟩))).put (some 12) (.pointer (some ⟨X.bx, 0, none⟩))).put (some 13) (.pointer (some ⟨X.bx, 3, none⟩))).put (some 14) (.slice (some ⟨X.g, 0, none⟩) X.n X.uc)).put (some 15) (.int .i64 (X.n : Int))).put (some 16) (.bool false)).put (some 17) (.bool false)).put (some 18) (.pointer (some ⟨X.bx, 0, none⟩))).put (some 19) (.pointer (some ⟨X.bx, 0, none⟩))).put (some 20) (.pointer (some ⟨X.bx, 3, none⟩))).put (some 21) (.slice (some ⟨X.g, 0, none⟩) X.n X.uc)).put (some 22) (.pointer (some ⟨X.bx, 0, none⟩))).put (some 23) (.pointer (some ⟨X.bx, 0, none⟩))).put (some 24) (.pointer (some ⟨X.bx, 3, none⟩))).put (some 25) (.slice (some ⟨X.g, 0, none⟩) X.n X.uc)).put (some 26) (.int .i64 (X.n : Int))).put (some 27) (.int .i64 (X.m : Int))).put (some 28) (.pointer (some ⟨X.g, X.m * 2, none⟩))).put (some 29) (.agg #[.int .i64 X.x, .int .i64 X.y])).put (some 30) (.agg #[.int .i64 X.x, .int .i64 X.y])).put (some 31) (.bool false)).put (some 32) (.bool false)).put (some 33) (.bool false)) w') : (Code.region 1 (opsOf 1 Tryz.f87) true).wp Tryz.prog Q X.a0 w := by
 refine reg_act (acts := AWC.acts) (av := AWC.av) (val0 := X.val0) (Wd := X.Wd) (by kernel_rfl) (by kernel_rfl) (by rw [AWA.size]; decide) (fun i hi => AWC.steps X ok i hi) _ h0 ?_
 intro γ w' h
 exact end_at (hend γ w' h) (by kernel_rfl)
structure AWD where
 bx : Nat
 bq : Nat
 x : Int
 y : Int
 k : Int
 r : Int
 g : Nat
 n : Nat
 m : Nat
 uc : Nat
 lx : Int
 ly : Int
 W : World
 a0 : Act
structure AWDOk (X : AWD) : Prop where
 c1 : X.W.cell? ⟨X.bx, 1, none⟩ = some (.int .i64 X.k)
 c3 : X.W.cell? ⟨X.bx, 3, none⟩ = some (.slice (some ⟨X.g, 0, none⟩) X.n X.uc)
 q0 : X.W.cell? ⟨X.bq, 0, none⟩ = some (.int .i64 X.x)
 q1 : X.W.cell? ⟨X.bq, 1, none⟩ = some (.int .i64 X.y)
 rm : X.k.tmod 2 = X.r
 hr : (X.r == 0) = true
 h0 : ((X.n : Int) == 0) = false
 wm : IntKind.i64.wrap ((X.n : Int) - 1) = (X.m : Int)
 hm : X.m < X.n
 px : X.W.cell? ⟨X.g, X.m * 2, none⟩ = some (.int .i64 X.lx)
 py : X.W.cell? ⟨X.g, X.m * 2 + 1, none⟩ = some (.int .i64 X.ly)
 hv : X.lx = X.x → ¬X.ly = X.y
 e0 : X.a0.eval (.tmp 0) = .pointer (some ⟨X.bx, 0, none⟩)
 e3 : X.a0.eval (.tmp 3) = .pointer (some ⟨X.bq, 0, none⟩)
 sz : X.a0.tmps.size = 44
def AWD.val0 (X : AWD) : Nat → Value
 | 0 => .pointer (some ⟨X.bx, 0, none⟩)
 | 3 => .pointer (some ⟨X.bq, 0, none⟩)
 | 4 => .pointer (some ⟨X.bx, 0, none⟩)
 | 5 => .pointer (some ⟨X.bx, 0, none⟩)
 | 6 => .pointer (some ⟨X.bx, 1, none⟩)
 | 7 => .int .i64 X.k
 | 8 => .int .i64 X.r
 | 9 => .bool true
 | 10 => .bool true
 | 11 => .pointer (some ⟨X.bx, 0, none⟩)
 | 12 => .pointer (some ⟨X.bx, 0, none⟩)
 | 13 => .pointer (some ⟨X.bx, 3, none⟩)
 | 14 => .slice (some ⟨X.g, 0, none⟩) X.n X.uc
 | 15 => .int .i64 (X.n : Int)
 | 16 => .bool false
 | 17 => .bool false
 | 18 => .pointer (some ⟨X.bx, 0, none⟩)
 | 19 => .pointer (some ⟨X.bx, 0, none⟩)
 | 20 => .pointer (some ⟨X.bx, 3, none⟩)
 | 21 => .slice (some ⟨X.g, 0, none⟩) X.n X.uc
 | 22 => .pointer (some ⟨X.bx, 0, none⟩)
 | 23 => .pointer (some ⟨X.bx, 0, none⟩)
 | 24 => .pointer (some ⟨X.bx, 3, none⟩)
 | 25 => .slice (some ⟨X.g, 0, none⟩) X.n X.uc
 | 26 => .int .i64 (X.n : Int)
 | 27 => .int .i64 (X.m : Int)
 | 28 => .pointer (some ⟨X.g, X.m * 2, none⟩)
 | 29 => .agg #[.int .i64 X.lx, .int .i64 X.ly]
 | 30 => .agg #[.int .i64 X.x, .int .i64 X.y]
 | 31 => .bool true
 | 32 => .bool true
 | 33 => .bool true
 | _ => undef
def AWD.av : Nat → Option Nat
 | _ => none
def AWD.acts : List Nat := []
def AWD.Wd (X : AWD) : Nat → (Nat → Value) → World → Prop
  | _, _, w => Kp X.W w
theorem AWD.kp {X : AWD} {n : Nat} {γ : Nat → Value} {w : World} (h : X.Wd n γ w) : Kp X.W w := h
theorem AWD.keep {X : AWD} {n : Nat} {γ : Nat → Value} {w w' : World} (h : X.Wd n γ w) (k : Kp w w') : X.Wd n γ w' := Kp.trans h k
theorem AWD.ini {X : AWD} (ok : AWDOk X) : ∀ n ∈ [0, 3], X.a0.eval (.tmp n) = X.val0 n := by
 simp only [List.forall_mem_cons]
 exact ⟨ok.e0, ok.e3, List.forall_mem_nil _⟩
abbrev AWD.St (X : AWD) (Q : PQ) (i : Nat) : Prop := StepG (opsOf 1 Tryz.f87) AWD.acts AWD.av X.val0 X.Wd X.a0 Q i
theorem AWD.plain (X : AWD) (ok : AWDOk X) {Q : PQ} : ∀ i ∈ [0, 1, 2, 3, 4, 5, 6, 29], AWD.St X Q i := by
 simp only [List.forall_mem_cons]
 refine ⟨?_, ?_, ?_, ?_, ?_, ?_, ?_, ?_, List.forall_mem_nil _⟩
 all_goals
  refine st_plain AWA.isL (AWD.ini ok) ok.sz rfl (by kernel_rfl) ?_
  intro γ w n o hW hop
  have hc_c1 := rq_at (AWD.kp hW) ok.c1
  have hc_c3 := rq_at (AWD.kp hW) ok.c3
  have hc_px := rq_at (AWD.kp hW) ok.px
  have hc_py := rq_at (AWD.kp hW) ok.py
  have hc_q0 := rq_at (AWD.kp hW) ok.q0
  have hc_q1 := rq_at (AWD.kp hW) ok.q1
  unfold execOp
  rw [hop]
  simp [envR, valG, AWD.av, AWD.val0, hc_c1, ok.rm, ok.hr, hc_c3, ok.h0, ok.wm, ok.hm, hc_px, hc_py, hc_q0, hc_q1, go_sem]
  try exact ok.hv
theorem AWD.want (X : AWD) (ok : AWDOk X) {Q : PQ} : ∀ i ∈ [7, 8, 9, 10, 11, 12, 13, 14, 15, 16, 17, 18, 19, 20, 21, 22, 23, 24, 25, 26, 27, 28], AWD.St X Q i := by
 simp only [List.forall_mem_cons]
 refine ⟨?_, ?_, ?_, ?_, ?_, ?_, ?_, ?_, ?_, ?_, ?_, ?_, ?_, ?_, ?_, ?_, ?_, ?_, ?_, ?_, ?_, ?_, List.forall_mem_nil _⟩
 all_goals
  refine st_plainW AWA.isL (AWD.ini ok) ok.sz rfl rfl rfl (by kernel_rfl) ?_
  intro γ w n o hW hop
  have hc_c1 := rq_at (AWD.kp hW) ok.c1
  have hc_c3 := rq_at (AWD.kp hW) ok.c3
  have hc_px := rq_at (AWD.kp hW) ok.px
  have hc_py := rq_at (AWD.kp hW) ok.py
  have hc_q0 := rq_at (AWD.kp hW) ok.q0
  have hc_q1 := rq_at (AWD.kp hW) ok.q1
  unfold execOp
  rw [hop]
  simp [envR, valG, AWD.av, AWD.val0, hc_c1, ok.rm, ok.hr, hc_c3, ok.h0, ok.wm, ok.hm, hc_px, hc_py, hc_q0, hc_q1, go_sem]
  try exact ok.hv
theorem AWD.steps (X : AWD) (ok : AWDOk X) {Q : PQ} (i : Nat) (hi : i < (opsOf 1 Tryz.f87).size) : AWD.St X Q i := by
 rw [AWA.size] at hi
 rcases (by decide : ∀ i, i < 30 → i ∈ [0, 1, 2, 3, 4, 5, 6, 29] ∨ i ∈ [7, 8, 9, 10, 11, 12, 13, 14, 15, 16, 17, 18, 19, 20, 21, 22, 23, 24, 25, 26, 27, 28]) i hi with h | h
 · exact AWD.plain X ok i h
 · exact AWD.want X ok i h
theorem AWD.run (X : AWD) (ok : AWDOk X) {Q : PQ} (w : World) (h0 : X.Wd 0 (fun _ => undef) w.drew) (hend : ∀ (γ : Nat → Value) w', X.Wd 0 γ w' → Q .normal ((((((((((((((((((((((((((((((X.a0.put (some 4) (.pointer (some ⟨X.bx, 0, none⟩))).put (some 5) (.pointer (some ⟨X.bx, 0, none⟩))).put (some 6) (.pointer (some ⟨X.bx, 1, none⟩))).put (some 7) (.int .i64 X.k)).put (some 8) (.int .i64 X.r)).put (some 9) (.bool true)).put (some 10) (.bool true)).put (some 11) (.pointer (some ⟨X.bx, 0, none⟩))).put (some 12) (.pointer (some ⟨X.bx, 0, none⟩))).put (some 13) (.pointer (some ⟨X.bx, 3, none⟩))).put (some 14) (.slice (some ⟨X.g, 0, none⟩) X.n X.uc)).put (some 15) (.int .i64 (X.n : Int))).put (some 16) (.bool false)).put (some 17) (.bool false)).put (some 18) (.pointer (some ⟨X.bx, 0, none⟩))).put (some 19) (.pointer (some ⟨X.bx, 0, none⟩))).put (some 20) (.pointer (some ⟨X.bx, 3, none⟩))).put (some 21) (.slice (some ⟨X.g, 0, none⟩) X.n X.uc)).put (some 22) (.pointer (some ⟨X.bx, 0, none⟩))).put (some 23) (.pointer (some ⟨X.bx, 0, none⟩))).put (some 24) (.pointer (some ⟨X.bx, 3, none⟩))).put (some 25) (.slice (some ⟨X.g, 0, none⟩) X.n X.uc)).put (some 26) (.int .i64 (X.n : Int))).put (some 27) (.int .i64 (X.m : Int))).put (some 28) (.pointer (some ⟨X.g, X.m * 2, none⟩))).put (some 29) (.agg #[.int .i64 X.lx, .int .i64 X.ly])).put (some 30) (.agg #[.int .i64 X.x, .int .i64 X.y])).put (some 31) (.bool true)).put (some 32) (.bool true)).put (some 33) (.bool true)) w') : (Code.region 1 (opsOf 1 Tryz.f87) true).wp Tryz.prog Q X.a0 w := by
 refine reg_act (acts := AWD.acts) (av := AWD.av) (val0 := X.val0) (Wd := X.Wd) (by kernel_rfl) (by kernel_rfl) (by rw [AWA.size]; decide) (fun i hi => AWD.steps X ok i hi) _ h0 ?_
 intro γ w' h
 exact end_at (hend γ w' h) (by kernel_rfl)
structure AW2 where
 bx : Nat
 bq : Nat
 x : Int
 y : Int
 ua : Option Addr
 un : Nat
 uc : Nat
 p : List Pnt
 W : World
 a0 : Act
structure AW2Ok (X : AW2) : Prop where
 c3 : X.W.cell? ⟨X.bx, 3, none⟩ = some (.slice X.ua X.un X.uc)
 q0 : X.W.cell? ⟨X.bq, 0, none⟩ = some (.int .i64 X.x)
 q1 : X.W.cell? ⟨X.bq, 1, none⟩ = some (.int .i64 X.y)
 ff : ∀ o, X.W.frozen? ⟨X.bx, o, none⟩ = false
 own : OwnP X.W (X.bx + 1) (.slice X.ua X.un X.uc) X.p
 neu : (Value.slice X.ua X.un X.uc).ownBlock ≠ some X.bx
 len : X.p.length + 1 ≤ 1000000
 e0 : X.a0.eval (.tmp 0) = .pointer (some ⟨X.bx, 0, none⟩)
 e3 : X.a0.eval (.tmp 3) = .pointer (some ⟨X.bq, 0, none⟩)
 sz : X.a0.tmps.size = 44
def AW2.val0 (X : AW2) : Nat → Value
 | 0 => .pointer (some ⟨X.bx, 0, none⟩)
 | 3 => .pointer (some ⟨X.bq, 0, none⟩)
 | 34 => .pointer (some ⟨X.bx, 0, none⟩)
 | 35 => .pointer (some ⟨X.bx, 0, none⟩)
 | 36 => .pointer (some ⟨X.bx, 0, none⟩)
 | 37 => .pointer (some ⟨X.bx, 3, none⟩)
 | 38 => .slice X.ua X.un X.uc
 | 39 => .agg #[.int .i64 X.x, .int .i64 X.y]
 | 42 => .pointer (some ⟨X.bx, 0, none⟩)
 | 43 => .pointer (some ⟨X.bx, 3, none⟩)
 | _ => undef
def AW2.av : Nat → Option Nat
 | 40 => some 0
 | 41 => some 1
 | _ => none
def AW2.acts : List Nat := [6, 7, 10]
def AW2.Wd (X : AW2) : Nat → (Nat → Value) → World → Prop
  | 0, _, w => w = X.W
  | 1, γ, w => γ 0 = .slice (some ⟨X.W.heap.size, 0, none⟩) 1 1 ∧ w = X.W.alloc (.cells #[.int .i64 X.x, .int .i64 X.y] 34)
  | 2, γ, w => ∃ g c, γ 1 = .slice (some ⟨g, 0, none⟩) (X.p.length + 1) c ∧ OwnP w (X.bx + 1) (γ 1) (X.p ++ [(X.x, X.y)]) ∧ Ext (.slice X.ua X.un X.uc) (γ 1) X.W w
  | _, γ, w => ∃ w2 g c, γ 1 = .slice (some ⟨g, 0, none⟩) (X.p.length + 1) c ∧ OwnP w2 (X.bx + 1) (γ 1) (X.p ++ [(X.x, X.y)]) ∧ Ext (.slice X.ua X.un X.uc) (γ 1) X.W w2 ∧ w = w2.setCell ⟨X.bx, 3, none⟩ (γ 1)
theorem AW2.chain : chainG (opsOf 2 Tryz.f87) AW2.acts = true := by kernel_rfl
theorem AW2.nodup : AW2.acts.Nodup := by decide
def AW2.L : List (Option Nat × Op × Option (Nat × Bool)) := [
 (some 34, .move (.tmp 0), none),
 (some 35, .move (.tmp 0), none),
 (some 36, .nilCheck (.tmp 35), none),
 (some 37, .fieldAddr 100 (.tmp 36) 3, none),
 (some 38, .load 23 (.tmp 37), none),
 (some 39, .load 34 (.tmp 3), none),
 (some 40, .buildSlice 23 1 #[(0, (.tmp 39))], none),
 (some 41, .call { callee := .builtin .append, args := #[(.tmp 38), (.tmp 40)], argTypes := #[23, 23] }, none),
 (some 42, .nilCheck (.tmp 34), none),
 (some 43, .fieldAddr 100 (.tmp 42) 3, none),
 (none, .store 23 (.tmp 43) (.tmp 41), none)]
theorem AW2.isL : (opsOf 2 Tryz.f87).toList.map tri = AW2.L := by kernel_rfl
theorem AW2.ini {X : AW2} (ok : AW2Ok X) : ∀ n ∈ [0, 3], X.a0.eval (.tmp n) = X.val0 n := by
 simp only [List.forall_mem_cons]
 exact ⟨ok.e0, ok.e3, List.forall_mem_nil _⟩
abbrev AW2.St (X : AW2) (Q : PQ) (i : Nat) : Prop := StepG (opsOf 2 Tryz.f87) AW2.acts AW2.av X.val0 X.Wd X.a0 Q i
theorem AW2.plain (X : AW2) (ok : AW2Ok X) {Q : PQ} : ∀ i ∈ [0, 1, 2, 3, 8, 9], AW2.St X Q i := by
 simp only [List.forall_mem_cons]
 refine ⟨?_, ?_, ?_, ?_, ?_, ?_, List.forall_mem_nil _⟩
 all_goals
  refine st_plain AW2.isL (AW2.ini ok) ok.sz rfl (by kernel_rfl) ?_
  intro γ w n o hW hop
  unfold execOp
  rw [hop]
  simp [envR, valG, AW2.av, AW2.val0, go_sem]
theorem AW2.soon (X : AW2) (ok : AW2Ok X) {Q : PQ} : ∀ i ∈ [5], AW2.St X Q i := by
 simp only [List.forall_mem_cons]
 refine ⟨?_, List.forall_mem_nil _⟩
 all_goals
  refine st_plainM (m := 0) AW2.isL (AW2.ini ok) ok.sz rfl (by kernel_rfl) ?_
  intro γ w n o hn hW hop
  obtain rfl : n = 0 := by omega
  have hk : w = X.W := hW
  subst hk
  unfold execOp
  rw [hop]
  simp [envR, valG, AW2.av, AW2.val0, ok.q0, ok.q1, go_sem]
theorem AW2.s4 (X : AW2) (ok : AW2Ok X) {Q : PQ} : AW2.St X Q 4 := by
 intro γ listed a w o hF hC hW h1 ho h2
 obtain ⟨hd, hop, hg⟩ := fieldsL AW2.isL (i := 4) rfl ho
 have e37 : a.eval (.tmp 37) = .pointer (some ⟨X.bx, 3, none⟩) := known hF ho h2 (AW2.ini ok) ok.sz (by kernel_rfl)
 have hph := phase_leG (acts := AW2.acts) (m := 1) (x := 7) hC (unl (hF.lt ho) h1) rfl [4] (by kernel_rfl) (by decide)
 have hWW := hW
 generalize phase listed AW2.acts = n at hph hWW
 have hk : Nw X.W w := by
  rcases (show n = 0 ∨ n = 1 by omega) with rfl | rfl
  ·have : w = X.W := hWW
   rw [this]; exact Below.refl _ _
  ·obtain ⟨_, h9⟩ := hWW
   rw [h9]; exact (Below.refl _ _).alloc (Nat.le_refl _) _
 have hc := ((bcell hk).1 _ _ (World.block_lt_of_cell? X.W ⟨X.bx, 3, none⟩ ok.c3)).trans ok.c3
 refine st_pureG hF hC hW ho h2 (by decide) hd hg rfl ?_
 show _ = Result.ok (Next.value (.slice X.ua X.un X.uc)) w
 generalize a.eval = ρ at e37 ⊢
 unfold execOp
 rw [hop]
 simp [e37, hc, go_sem]
theorem AW2.s6 (X : AW2) (ok : AW2Ok X) {Q : PQ} : AW2.St X Q 6 := by
 intro γ listed a w o hF hC hW h1 ho h2
 obtain ⟨hd, hop, hg⟩ := fieldsL AW2.isL (i := 6) rfl ho
 have e39 : a.eval (.tmp 39) = .agg #[.int .i64 X.x, .int .i64 X.y] := known hF ho h2 (AW2.ini ok) ok.sz (by kernel_rfl)
 have hu := unl (hF.lt ho) h1
 refine st_actG (k := 0) AW2.chain AW2.nodup rfl hF hC hW h1 ho h2 (Or.inr ⟨40, hd, rfl⟩) (injG (by kernel_rfl) hu) hg ?_
 intro hW0 K hK
 have hw0 : w = X.W := hW0
 have hr : (execOp a.eval o).run Tryz.prog w = .ok (.value (.slice (some ⟨w.heap.size, 0, none⟩) 1 1)) (w.alloc (.cells #[.int .i64 X.x, .int .i64 X.y] 34)) := by
  generalize a.eval = ρ at e39 ⊢
  unfold execOp
  rw [hop]
  simp [e39, go_sem]
 unfold Oper.wp
 rw [hr, hw0]
 exact hK _ _ ⟨rfl, rfl⟩
theorem AW2.s7 (X : AW2) (ok : AW2Ok X) {Q : PQ} : AW2.St X Q 7 := by
 intro γ listed a w o hF hC hW h1 ho h2
 obtain ⟨hd, hop, hg⟩ := fieldsL AW2.isL (i := 7) rfl ho
 have e38 : a.eval (.tmp 38) = .slice X.ua X.un X.uc := known hF ho h2 (AW2.ini ok) ok.sz (by kernel_rfl)
 have e40 : a.eval (.tmp 40) = γ 0 := known hF ho h2 (AW2.ini ok) ok.sz (by kernel_rfl)
 have hu := unl (hF.lt ho) h1
 refine st_actG (k := 1) AW2.chain AW2.nodup rfl hF hC hW h1 ho h2 (Or.inr ⟨41, hd, rfl⟩) (injG (by kernel_rfl) hu) hg ?_
 intro hW0 K hK
 obtain ⟨g0, hw1⟩ := hW0
 rw [g0] at e40
 subst hw1
 have n1 : Nw X.W (X.W.alloc (.cells #[.int .i64 X.x, .int .i64 X.y] 34)) := (Below.refl _ _).alloc (Nat.le_refl _) _
 refine wp_q 34 23 23 (.int .i64 0) (.int .i64 0) 16 under_pts under_pts Tryz.info34 (by decide) rfl _ (.tmp 38) (.tmp 40) hop (X.bx + 1) (.slice X.ua X.un X.uc) (vP X.p) (vP [(X.x, X.y)]) e38 (OwnQ.nw ok.own n1) X.W.heap.size 0 1 1 rfl e40 (liep_one X.W X.x X.y _).vv (vP_one _) (by simp [vP]) (by rw [vP_len]; have := ok.len; simp [vP]; omega) (by have := World.block_lt_of_cell? X.W ⟨X.bx, 3, none⟩ ok.c3; simp at this ⊢; omega) ?_
 intro g' c' w' h3 h4
 rw [vP_len] at h3 h4 ⊢
 rw [← vP_append] at h3
 exact hK _ _ ⟨g', c', rfl, h3, n1.ext h4⟩
theorem AW2.s10 (X : AW2) (ok : AW2Ok X) {Q : PQ} : AW2.St X Q 10 := by
 intro γ listed a w o hF hC hW h1 ho h2
 obtain ⟨hd, hop, hg⟩ := fieldsL AW2.isL (i := 10) rfl ho
 have e43 : a.eval (.tmp 43) = .pointer (some ⟨X.bx, 3, none⟩) := known hF ho h2 (AW2.ini ok) ok.sz (by kernel_rfl)
 have e41 : a.eval (.tmp 41) = γ 1 := known hF ho h2 (AW2.ini ok) ok.sz (by kernel_rfl)
 have hu := unl (hF.lt ho) h1
 refine st_actG (k := 2) AW2.chain AW2.nodup rfl hF hC hW h1 ho h2 (Or.inl hd) (injG (by kernel_rfl) hu) hg ?_
 intro hW0 K hK
 obtain ⟨g, cc, g1, o1, x1⟩ := hW0
 have hb := World.block_lt_of_cell? X.W ⟨X.bx, 3, none⟩ ok.c3
 have t0 : w.cell? ⟨X.bx, 3, none⟩ = some (.slice X.ua X.un X.uc) := (Ext.cell x1 hb ok.neu 3).trans ok.c3
 have tf : w.frozen? ⟨X.bx, 3, none⟩ = false := (World.frozen?_of_block (w := X.W) (a := ⟨X.bx, 3, none⟩) (x1.1.block X.bx hb (fun e => ok.neu e.symm))).trans (ok.ff 3)
 have hr : (execOp a.eval o).run Tryz.prog w = .ok .skip (w.setCell ⟨X.bx, 3, none⟩ (γ 1)) := by
  rw [g1] at e41 ⊢
  generalize a.eval = ρ at e41 e43 ⊢
  unfold execOp
  rw [hop]
  simp [e41, e43, t0, tf, go_sem]
 unfold Oper.wp
 rw [hr]
 exact hK undef _ ⟨w, g, cc, g1, o1, x1, rfl⟩
theorem AW2.size : (opsOf 2 Tryz.f87).size = 11 := by kernel_rfl
theorem AW2.rest (X : AW2) (ok : AW2Ok X) {Q : PQ} : ∀ i ∈ [4, 6, 7, 10], AW2.St X Q i := by
 simp only [List.forall_mem_cons]
 exact ⟨AW2.s4 X ok,
  AW2.s6 X ok,
  AW2.s7 X ok,
  AW2.s10 X ok, List.forall_mem_nil _⟩
theorem AW2.steps (X : AW2) (ok : AW2Ok X) {Q : PQ} (i : Nat) (hi : i < (opsOf 2 Tryz.f87).size) : AW2.St X Q i := by
 rw [AW2.size] at hi
 rcases (by decide : ∀ i, i < 11 → i ∈ [0, 1, 2, 3, 8, 9] ∨ i ∈ [5] ∨ i ∈ [4, 6, 7, 10]) i hi with h | h | h
 · exact AW2.plain X ok i h
 · exact AW2.soon X ok i h
 · exact AW2.rest X ok i h
theorem AW2.run (X : AW2) (ok : AW2Ok X) {Q : PQ} (w : World) (h0 : X.Wd 0 (fun _ => undef) w.drew) (hend : ∀ (γ : Nat → Value) w', X.Wd 3 γ w' → Q .normal ((((((((((X.a0.put (some 34) (.pointer (some ⟨X.bx, 0, none⟩))).put (some 35) (.pointer (some ⟨X.bx, 0, none⟩))).put (some 36) (.pointer (some ⟨X.bx, 0, none⟩))).put (some 37) (.pointer (some ⟨X.bx, 3, none⟩))).put (some 38) (.slice X.ua X.un X.uc)).put (some 39) (.agg #[.int .i64 X.x, .int .i64 X.y])).put (some 40) (γ 0)).put (some 41) (γ 1)).put (some 42) (.pointer (some ⟨X.bx, 0, none⟩))).put (some 43) (.pointer (some ⟨X.bx, 3, none⟩))) w') : (Code.region 2 (opsOf 2 Tryz.f87) true).wp Tryz.prog Q X.a0 w := by
 refine reg_act (acts := AW2.acts) (av := AW2.av) (val0 := X.val0) (Wd := X.Wd) (by kernel_rfl) (by kernel_rfl) (by rw [AW2.size]; decide) (fun i hi => AW2.steps X ok i hi) _ h0 ?_
 intro γ w' h
 exact end_at (hend γ w' h) (by kernel_rfl)
structure NW5 where
 bx : Nat
 nb : Nat
 no : Nat
 n : Nat
 nc : Nat
 k : Nat
 m : Nat
 W : World
 a0 : Act
structure NW5Ok (X : NW5) : Prop where
 cn : X.W.cell? ⟨X.bx, 0, none⟩ = some (.slice (some ⟨X.nb, X.no, none⟩) X.n X.nc)
 c1 : X.W.cell? ⟨X.bx, 1, none⟩ = some (.int .i64 (X.k : Int))
 w1 : IntKind.i64.wrap ((X.k : Int) + 1) = (X.k : Int) + 1
 rm : ((X.k : Int) + 1).tmod (X.n : Int) = (X.m : Int)
 hn : X.n ≠ 0
 cz : ∃ z, X.W.cell? ⟨X.bx, 1, none⟩ = some (.int .i64 z)
 ff : ∀ o, X.W.frozen? ⟨X.bx, o, none⟩ = false
 e0 : X.a0.eval (.tmp 0) = .pointer (some ⟨X.bx, 0, none⟩)
 sz : X.a0.tmps.size = 76
def NW5.val0 (X : NW5) : Nat → Value
 | 0 => .pointer (some ⟨X.bx, 0, none⟩)
 | 31 => .pointer (some ⟨X.bx, 0, none⟩)
 | 32 => .pointer (some ⟨X.bx, 0, none⟩)
 | 33 => .pointer (some ⟨X.bx, 0, none⟩)
 | 34 => .pointer (some ⟨X.bx, 1, none⟩)
 | 35 => .int .i64 (X.k : Int)
 | 36 => .int .i64 ((X.k : Int) + 1)
 | 37 => .pointer (some ⟨X.bx, 0, none⟩)
 | 38 => .pointer (some ⟨X.bx, 0, none⟩)
 | 39 => .pointer (some ⟨X.bx, 0, none⟩)
 | 40 => .slice (some ⟨X.nb, X.no, none⟩) X.n X.nc
 | 41 => .int .i64 (X.n : Int)
 | 42 => .int .i64 (X.m : Int)
 | 43 => .pointer (some ⟨X.bx, 0, none⟩)
 | 44 => .pointer (some ⟨X.bx, 1, none⟩)
 | _ => undef
def NW5.av : Nat → Option Nat
 | _ => none
def NW5.acts : List Nat := [14]
def NW5.Wd (X : NW5) : Nat → (Nat → Value) → World → Prop
  | 0, _, w => w = X.W
  | _, _, w => w = X.W.setCell ⟨X.bx, 1, none⟩ (.int .i64 (X.m : Int))
theorem NW5.chain : chainG (opsOf 5 Tryz.f88) NW5.acts = true := by kernel_rfl
theorem NW5.nodup : NW5.acts.Nodup := by decide
def NW5.L : List (Option Nat × Op × Option (Nat × Bool)) := [
 (some 31, .move (.tmp 0), none),
 (some 32, .move (.tmp 0), none),
 (some 33, .nilCheck (.tmp 32), none),
 (some 34, .fieldAddr 100 (.tmp 33) 1, none),
 (some 35, .load 3 (.tmp 34), none),
 (some 36, .binOp .add 3 (.tmp 35) (.const (.int .i64 1)) 3, none),
 (some 37, .move (.tmp 0), none),
 (some 38, .nilCheck (.tmp 37), none),
 (some 39, .fieldAddr 100 (.tmp 38) 0, none),
 (some 40, .load 26 (.tmp 39), none),
 (some 41, .call { callee := .builtin .len, args := #[(.tmp 40)], argTypes := #[26] }, none),
 (some 42, .binOp .rem 3 (.tmp 36) (.tmp 41) 3, none),
 (some 43, .nilCheck (.tmp 31), none),
 (some 44, .fieldAddr 100 (.tmp 43) 1, none),
 (none, .store 3 (.tmp 44) (.tmp 42), none)]
theorem NW5.isL : (opsOf 5 Tryz.f88).toList.map tri = NW5.L := by kernel_rfl
theorem NW5.ini {X : NW5} (ok : NW5Ok X) : ∀ n ∈ [0], X.a0.eval (.tmp n) = X.val0 n := by
 simp only [List.forall_mem_cons]
 exact ⟨ok.e0, List.forall_mem_nil _⟩
abbrev NW5.St (X : NW5) (Q : PQ) (i : Nat) : Prop := StepG (opsOf 5 Tryz.f88) NW5.acts NW5.av X.val0 X.Wd X.a0 Q i
theorem NW5.plain (X : NW5) (ok : NW5Ok X) {Q : PQ} : ∀ i ∈ [0, 1, 2, 3, 5, 6, 7, 8, 10, 11, 12, 13], NW5.St X Q i := by
 simp only [List.forall_mem_cons]
 refine ⟨?_, ?_, ?_, ?_, ?_, ?_, ?_, ?_, ?_, ?_, ?_, ?_, List.forall_mem_nil _⟩
 all_goals
  refine st_plain NW5.isL (NW5.ini ok) ok.sz rfl (by kernel_rfl) ?_
  intro γ w n o hW hop
  unfold execOp
  rw [hop]
  simp [envR, valG, NW5.av, NW5.val0, ok.w1, ok.rm, ok.hn, go_sem]
theorem NW5.soon (X : NW5) (ok : NW5Ok X) {Q : PQ} : ∀ i ∈ [4, 9], NW5.St X Q i := by
 simp only [List.forall_mem_cons]
 refine ⟨?_, ?_, List.forall_mem_nil _⟩
 all_goals
  refine st_plainM (m := 0) NW5.isL (NW5.ini ok) ok.sz rfl (by kernel_rfl) ?_
  intro γ w n o hn hW hop
  obtain rfl : n = 0 := by omega
  have hk : w = X.W := hW
  subst hk
  unfold execOp
  rw [hop]
  simp [envR, valG, NW5.av, NW5.val0, ok.c1, ok.cn, go_sem]
theorem NW5.s14 (X : NW5) (ok : NW5Ok X) {Q : PQ} : NW5.St X Q 14 := by
 intro γ listed a w o hF hC hW h1 ho h2
 obtain ⟨hd, hop, hg⟩ := fieldsL NW5.isL (i := 14) rfl ho
 have e44 : a.eval (.tmp 44) = .pointer (some ⟨X.bx, 1, none⟩) := known hF ho h2 (NW5.ini ok) ok.sz (by kernel_rfl)
 have e42 : a.eval (.tmp 42) = .int .i64 (X.m : Int) := known hF ho h2 (NW5.ini ok) ok.sz (by kernel_rfl)
 have hu := unl (hF.lt ho) h1
 refine st_actG (k := 0) NW5.chain NW5.nodup rfl hF hC hW h1 ho h2 (Or.inl hd) (injG (by kernel_rfl) hu) hg ?_
 intro hW0 K hK
 have hw0 : w = X.W := hW0
 obtain ⟨z0, f0⟩ := ok.cz
 have ff := ok.ff
 have hr : (execOp a.eval o).run Tryz.prog X.W = .ok .skip (X.W.setCell ⟨X.bx, 1, none⟩ (.int .i64 (X.m : Int))) := by
  generalize a.eval = ρ at e44 e42 ⊢
  unfold execOp
  rw [hop]
  simp [e44, e42, f0, ff, go_sem]
 unfold Oper.wp
 rw [hw0, hr]
 exact hK undef _ rfl
theorem NW5.size : (opsOf 5 Tryz.f88).size = 15 := by kernel_rfl
theorem NW5.rest (X : NW5) (ok : NW5Ok X) {Q : PQ} : ∀ i ∈ [14], NW5.St X Q i := by
 simp only [List.forall_mem_cons]
 exact ⟨NW5.s14 X ok, List.forall_mem_nil _⟩
theorem NW5.steps (X : NW5) (ok : NW5Ok X) {Q : PQ} (i : Nat) (hi : i < (opsOf 5 Tryz.f88).size) : NW5.St X Q i := by
 rw [NW5.size] at hi
 rcases (by decide : ∀ i, i < 15 → i ∈ [0, 1, 2, 3, 5, 6, 7, 8, 10, 11, 12, 13] ∨ i ∈ [4, 9] ∨ i ∈ [14]) i hi with h | h | h
 · exact NW5.plain X ok i h
 · exact NW5.soon X ok i h
 · exact NW5.rest X ok i h
theorem NW5.run (X : NW5) (ok : NW5Ok X) {Q : PQ} (w : World) (h0 : X.Wd 0 (fun _ => undef) w.drew) (hend : ∀ (γ : Nat → Value) w', X.Wd 1 γ w' → Q .normal ((((((((((((((X.a0.put (some 31) (.pointer (some ⟨X.bx, 0, none⟩))).put (some 32) (.pointer (some ⟨X.bx, 0, none⟩))).put (some 33) (.pointer (some ⟨X.bx, 0, none⟩))).put (some 34) (.pointer (some ⟨X.bx, 1, none⟩))).put (some 35) (.int .i64 (X.k : Int))).put (some 36) (.int .i64 ((X.k : Int) + 1))).put (some 37) (.pointer (some ⟨X.bx, 0, none⟩))).put (some 38) (.pointer (some ⟨X.bx, 0, none⟩))).put (some 39) (.pointer (some ⟨X.bx, 0, none⟩))).put (some 40) (.slice (some ⟨X.nb, X.no, none⟩) X.n X.nc)).put (some 41) (.int .i64 (X.n : Int))).put (some 42) (.int .i64 (X.m : Int))).put (some 43) (.pointer (some ⟨X.bx, 0, none⟩))).put (some 44) (.pointer (some ⟨X.bx, 1, none⟩))) w') : (Code.region 5 (opsOf 5 Tryz.f88) true).wp Tryz.prog Q X.a0 w := by
 refine reg_act (acts := NW5.acts) (av := NW5.av) (val0 := X.val0) (Wd := X.Wd) (by kernel_rfl) (by kernel_rfl) (by rw [NW5.size]; decide) (fun i hi => NW5.steps X ok i hi) _ h0 ?_
 intro γ w' h
 exact end_at (hend γ w' h) (by kernel_rfl)
structure NW6 where
 bx : Nat
 nb : Nat
 no : Nat
 n : Nat
 nc : Nat
 m : Nat
 x : Int
 W : World
 a0 : Act
structure NW6Ok (X : NW6) : Prop where
 cn : X.W.cell? ⟨X.bx, 0, none⟩ = some (.slice (some ⟨X.nb, X.no, none⟩) X.n X.nc)
 c1 : X.W.cell? ⟨X.bx, 1, none⟩ = some (.int .i64 (X.m : Int))
 hm : X.m < X.n
 cx : X.W.cell? ⟨X.nb, X.no + X.m, none⟩ = some (.int .i64 X.x)
 cz : ∃ z, X.W.cell? ⟨X.bx, 2, none⟩ = some (.int .i64 z)
 ff : ∀ o, X.W.frozen? ⟨X.bx, o, none⟩ = false
 e0 : X.a0.eval (.tmp 0) = .pointer (some ⟨X.bx, 0, none⟩)
 sz : X.a0.tmps.size = 76
def NW6.val0 (X : NW6) : Nat → Value
 | 0 => .pointer (some ⟨X.bx, 0, none⟩)
 | 45 => .pointer (some ⟨X.bx, 0, none⟩)
 | 46 => .pointer (some ⟨X.bx, 0, none⟩)
 | 47 => .pointer (some ⟨X.bx, 0, none⟩)
 | 48 => .pointer (some ⟨X.bx, 0, none⟩)
 | 49 => .slice (some ⟨X.nb, X.no, none⟩) X.n X.nc
 | 50 => .pointer (some ⟨X.bx, 0, none⟩)
 | 51 => .pointer (some ⟨X.bx, 0, none⟩)
 | 52 => .pointer (some ⟨X.bx, 1, none⟩)
 | 53 => .int .i64 (X.m : Int)
 | 54 => .pointer (some ⟨X.nb, X.no + X.m, none⟩)
 | 55 => .int .i64 X.x
 | 56 => .pointer (some ⟨X.bx, 0, none⟩)
 | 57 => .pointer (some ⟨X.bx, 2, none⟩)
 | _ => undef
def NW6.av : Nat → Option Nat
 | _ => none
def NW6.acts : List Nat := [13]
def NW6.Wd (X : NW6) : Nat → (Nat → Value) → World → Prop
  | 0, _, w => w = X.W
  | _, _, w => w = X.W.setCell ⟨X.bx, 2, none⟩ (.int .i64 X.x)
theorem NW6.chain : chainG (opsOf 6 Tryz.f88) NW6.acts = true := by kernel_rfl
theorem NW6.nodup : NW6.acts.Nodup := by decide
def NW6.L : List (Option Nat × Op × Option (Nat × Bool)) := [
 (some 45, .move (.tmp 0), none),
 (some 46, .move (.tmp 0), none),
 (some 47, .nilCheck (.tmp 46), none),
 (some 48, .fieldAddr 100 (.tmp 47) 0, none),
 (some 49, .load 26 (.tmp 48), none),
 (some 50, .move (.tmp 0), none),
 (some 51, .nilCheck (.tmp 50), none),
 (some 52, .fieldAddr 100 (.tmp 51) 1, none),
 (some 53, .load 3 (.tmp 52), none),
 (some 54, .indexAddr 26 (.tmp 49) (.tmp 53), none),
 (some 55, .load 3 (.tmp 54), none),
 (some 56, .nilCheck (.tmp 45), none),
 (some 57, .fieldAddr 100 (.tmp 56) 2, none),
 (none, .store 3 (.tmp 57) (.tmp 55), none)]
theorem NW6.isL : (opsOf 6 Tryz.f88).toList.map tri = NW6.L := by kernel_rfl
theorem NW6.ini {X : NW6} (ok : NW6Ok X) : ∀ n ∈ [0], X.a0.eval (.tmp n) = X.val0 n := by
 simp only [List.forall_mem_cons]
 exact ⟨ok.e0, List.forall_mem_nil _⟩
abbrev NW6.St (X : NW6) (Q : PQ) (i : Nat) : Prop := StepG (opsOf 6 Tryz.f88) NW6.acts NW6.av X.val0 X.Wd X.a0 Q i
theorem NW6.plain (X : NW6) (ok : NW6Ok X) {Q : PQ} : ∀ i ∈ [0, 1, 2, 3, 5, 6, 7, 9, 11, 12], NW6.St X Q i := by
 simp only [List.forall_mem_cons]
 refine ⟨?_, ?_, ?_, ?_, ?_, ?_, ?_, ?_, ?_, ?_, List.forall_mem_nil _⟩
 all_goals
  refine st_plain NW6.isL (NW6.ini ok) ok.sz rfl (by kernel_rfl) ?_
  intro γ w n o hW hop
  unfold execOp
  rw [hop]
  simp [envR, valG, NW6.av, NW6.val0, ok.hm, go_sem]
theorem NW6.soon (X : NW6) (ok : NW6Ok X) {Q : PQ} : ∀ i ∈ [4, 8, 10], NW6.St X Q i := by
 simp only [List.forall_mem_cons]
 refine ⟨?_, ?_, ?_, List.forall_mem_nil _⟩
 all_goals
  refine st_plainM (m := 0) NW6.isL (NW6.ini ok) ok.sz rfl (by kernel_rfl) ?_
  intro γ w n o hn hW hop
  obtain rfl : n = 0 := by omega
  have hk : w = X.W := hW
  subst hk
  unfold execOp
  rw [hop]
  simp [envR, valG, NW6.av, NW6.val0, ok.cn, ok.c1, ok.cx, go_sem]
theorem NW6.s13 (X : NW6) (ok : NW6Ok X) {Q : PQ} : NW6.St X Q 13 := by
 intro γ listed a w o hF hC hW h1 ho h2
 obtain ⟨hd, hop, hg⟩ := fieldsL NW6.isL (i := 13) rfl ho
 have e57 : a.eval (.tmp 57) = .pointer (some ⟨X.bx, 2, none⟩) := known hF ho h2 (NW6.ini ok) ok.sz (by kernel_rfl)
 have e55 : a.eval (.tmp 55) = .int .i64 X.x := known hF ho h2 (NW6.ini ok) ok.sz (by kernel_rfl)
 have hu := unl (hF.lt ho) h1
 refine st_actG (k := 0) NW6.chain NW6.nodup rfl hF hC hW h1 ho h2 (Or.inl hd) (injG (by kernel_rfl) hu) hg ?_
 intro hW0 K hK
 have hw0 : w = X.W := hW0
 obtain ⟨z0, f0⟩ := ok.cz
 have ff := ok.ff
 have hr : (execOp a.eval o).run Tryz.prog X.W = .ok .skip (X.W.setCell ⟨X.bx, 2, none⟩ (.int .i64 X.x)) := by
  generalize a.eval = ρ at e57 e55 ⊢
  unfold execOp
  rw [hop]
  simp [e57, e55, f0, ff, go_sem]
 unfold Oper.wp
 rw [hw0, hr]
 exact hK undef _ rfl
theorem NW6.size : (opsOf 6 Tryz.f88).size = 14 := by kernel_rfl
theorem NW6.rest (X : NW6) (ok : NW6Ok X) {Q : PQ} : ∀ i ∈ [13], NW6.St X Q i := by
 simp only [List.forall_mem_cons]
 exact ⟨NW6.s13 X ok, List.forall_mem_nil _⟩
theorem NW6.steps (X : NW6) (ok : NW6Ok X) {Q : PQ} (i : Nat) (hi : i < (opsOf 6 Tryz.f88).size) : NW6.St X Q i := by
 rw [NW6.size] at hi
 rcases (by decide : ∀ i, i < 14 → i ∈ [0, 1, 2, 3, 5, 6, 7, 9, 11, 12] ∨ i ∈ [4, 8, 10] ∨ i ∈ [13]) i hi with h | h | h
 · exact NW6.plain X ok i h
 · exact NW6.soon X ok i h
 · exact NW6.rest X ok i h
theorem NW6.run (X : NW6) (ok : NW6Ok X) {Q : PQ} (w : World) (h0 : X.Wd 0 (fun _ => undef) w.drew) (hend : ∀ (γ : Nat → Value) w', X.Wd 1 γ w' → Q .normal (((((((((((((X.a0.put (some 45) (.pointer (some ⟨X.bx, 0, none⟩))).put (some 46) (.pointer (some ⟨X.bx, 0, none⟩))).put (some 47) (.pointer (some ⟨X.bx, 0, none⟩))).put (some 48) (.pointer (some ⟨X.bx, 0, none⟩))).put (some 49) (.slice (some ⟨X.nb, X.no, none⟩) X.n X.nc)).put (some 50) (.pointer (some ⟨X.bx, 0, none⟩))).put (some 51) (.pointer (some ⟨X.bx, 0, none⟩))).put (some 52) (.pointer (some ⟨X.bx, 1, none⟩))).put (some 53) (.int .i64 (X.m : Int))).put (some 54) (.pointer (some ⟨X.nb, X.no + X.m, none⟩))).put (some 55) (.int .i64 X.x)).put (some 56) (.pointer (some ⟨X.bx, 0, none⟩))).put (some 57) (.pointer (some ⟨X.bx, 2, none⟩))) w') : (Code.region 6 (opsOf 6 Tryz.f88) true).wp Tryz.prog Q X.a0 w := by
 refine reg_act (acts := NW6.acts) (av := NW6.av) (val0 := X.val0) (Wd := X.Wd) (by kernel_rfl) (by kernel_rfl) (by rw [NW6.size]; decide) (fun i hi => NW6.steps X ok i hi) _ h0 ?_
 intro γ w' h
 exact end_at (hend γ w' h) (by kernel_rfl)
structure SG6 where
 ax : Int
 ay : Int
 bx : Int
 cy : Int
 g : Int
 n : Int
 b0 : Nat
 b1 : Nat
 W : World
 a0 : Act
structure SG6Ok (X : SG6) : Prop where
 c0 : X.W.cell? ⟨X.b0, 0, none⟩ = some (.int .i64 X.ax)
 c1 : X.W.cell? ⟨X.b0, 1, none⟩ = some (.int .i64 X.ay)
 c2 : X.W.cell? ⟨X.b1, 0, none⟩ = some (.int .i64 X.bx)
 c3 : X.W.cell? ⟨X.b1, 1, none⟩ = some (.int .i64 X.cy)
 w1 : IntKind.i64.wrap (X.bx - X.ax) = X.bx - X.ax
 w2 : IntKind.i64.wrap ((X.bx - X.ax) * X.g) = (X.bx - X.ax) * X.g
 w3 : IntKind.i64.wrap (X.ax + (X.bx - X.ax) * X.g / X.n) = X.ax + (X.bx - X.ax) * X.g / X.n
 w4 : IntKind.i64.wrap (X.cy - X.ay) = X.cy - X.ay
 w5 : IntKind.i64.wrap ((X.cy - X.ay) * X.g) = (X.cy - X.ay) * X.g
 w6 : IntKind.i64.wrap (X.ay + (X.cy - X.ay) * X.g / X.n) = X.ay + (X.cy - X.ay) * X.g / X.n
 n0 : 0 < X.n
 n1 : X.n ≤ 4611686018427387904
 d1 : -4611686018427387904 ≤ (X.bx - X.ax) * X.g ∧ (X.bx - X.ax) * X.g ≤ 4611686018427387904
 d2 : -4611686018427387904 ≤ (X.cy - X.ay) * X.g ∧ (X.cy - X.ay) * X.g ≤ 4611686018427387904
 e4 : X.a0.eval (.tmp 4) = .pointer (some ⟨X.b0, 0, none⟩)
 e5 : X.a0.eval (.tmp 5) = .pointer (some ⟨X.b1, 0, none⟩)
 e6 : X.a0.eval (.tmp 6) = .int .i64 X.n
 e7 : X.a0.eval (.tmp 7) = .int .i64 X.g
 sz : X.a0.tmps.size = 92
def SG6.val0 (X : SG6) : Nat → Value
 | 4 => .pointer (some ⟨X.b0, 0, none⟩)
 | 5 => .pointer (some ⟨X.b1, 0, none⟩)
 | 6 => .int .i64 X.n
 | 7 => .int .i64 X.g
 | 43 => .pointer (some ⟨X.b0, 0, none⟩)
 | 44 => .int .i64 X.ax
 | 45 => .pointer (some ⟨X.b1, 0, none⟩)
 | 46 => .int .i64 X.bx
 | 47 => .pointer (some ⟨X.b0, 0, none⟩)
 | 48 => .int .i64 X.ax
 | 49 => .int .i64 ((X.bx - X.ax))
 | 50 => .int .i64 X.g
 | 51 => .int .i64 (((X.bx - X.ax) * X.g))
 | 52 => .int .i64 X.n
 | 53 => .int .i64 (((X.bx - X.ax) * X.g / X.n))
 | 54 => .int .i64 (X.ax + (X.bx - X.ax) * X.g / X.n)
 | 55 => .pointer (some ⟨X.b0, 1, none⟩)
 | 56 => .int .i64 X.ay
 | 57 => .pointer (some ⟨X.b1, 1, none⟩)
 | 58 => .int .i64 X.cy
 | 59 => .pointer (some ⟨X.b0, 1, none⟩)
 | 60 => .int .i64 X.ay
 | 61 => .int .i64 ((X.cy - X.ay))
 | 62 => .int .i64 X.g
 | 63 => .int .i64 (((X.cy - X.ay) * X.g))
 | 64 => .int .i64 X.n
 | 65 => .int .i64 (((X.cy - X.ay) * X.g / X.n))
 | 66 => .int .i64 (X.ay + (X.cy - X.ay) * X.g / X.n)
 | 67 => .agg #[.int .i64 (X.ax + (X.bx - X.ax) * X.g / X.n), .int .i64 (X.ay + (X.cy - X.ay) * X.g / X.n)]
 | _ => undef
def SG6.av : Nat → Option Nat
 | 8 => some 0
 | _ => none
def SG6.acts : List Nat := [25, 26]
def SG6.Wd (X : SG6) : Nat → (Nat → Value) → World → Prop
  | 0, _, w => Kp X.W w
  | 1, γ, w => ∃ g, γ 0 = .pointer (some ⟨g, 0, none⟩) ∧ X.W.heap.size ≤ g ∧ (w.cell? ⟨g, 0, none⟩ = some (.int .i64 0) ∧ w.cell? ⟨g, 1, none⟩ = some (.int .i64 0)) ∧ (∀ o, w.frozen? ⟨g, o, none⟩ = false) ∧ Kp X.W w
  | _, γ, w => ∃ g, γ 0 = .pointer (some ⟨g, 0, none⟩) ∧ X.W.heap.size ≤ g ∧ (w.cell? ⟨g, 0, none⟩ = some (.int .i64 (X.ax + (X.bx - X.ax) * X.g / X.n)) ∧ w.cell? ⟨g, 1, none⟩ = some (.int .i64 (X.ay + (X.cy - X.ay) * X.g / X.n))) ∧ (∀ o, w.frozen? ⟨g, o, none⟩ = false) ∧ Kp X.W w
theorem SG6.kp {X : SG6} : ∀ {n : Nat} {γ : Nat → Value} {w : World}, X.Wd n γ w → Kp X.W w
  | 0, _, _, h => h
  | 1, _, _, ⟨_, _, _, _, _, h⟩ => h
  | _ + 2, _, _, ⟨_, _, _, _, _, h⟩ => h
theorem SG6.keep {X : SG6} : ∀ {n : Nat} {γ : Nat → Value} {w w' : World}, X.Wd n γ w → Kp w w' → X.Wd n γ w'
  | 0, _, _, _, h, k => Kp.trans h k
  | 1, _, w, _, ⟨g, h1, h2, ⟨h30, h31⟩, h5, h6⟩, k => ⟨g, h1, h2, ⟨(k.cells.1 _ _ (World.block_lt_of_cell? w ⟨g, 0, none⟩ h30)).trans h30, (k.cells.1 _ _ (World.block_lt_of_cell? w ⟨g, 0, none⟩ h30)).trans h31⟩, fun o => (k.cells.2 _ _).trans (h5 o), Kp.trans h6 k⟩
  | _ + 2, _, w, _, ⟨g, h1, h2, ⟨h30, h31⟩, h5, h6⟩, k => ⟨g, h1, h2, ⟨(k.cells.1 _ _ (World.block_lt_of_cell? w ⟨g, 0, none⟩ h30)).trans h30, (k.cells.1 _ _ (World.block_lt_of_cell? w ⟨g, 0, none⟩ h30)).trans h31⟩, fun o => (k.cells.2 _ _).trans (h5 o), Kp.trans h6 k⟩
theorem SG6.chain : chainG (opsOf 6 Tryz.f67) SG6.acts = true := by kernel_rfl
theorem SG6.nodup : SG6.acts.Nodup := by decide
def SG6.L : List (Option Nat × Op × Option (Nat × Bool)) := [
 (some 43, .fieldAddr 34 (.tmp 4) 0, none),
 (some 44, .load 3 (.tmp 43), none),
 (some 45, .fieldAddr 34 (.tmp 5) 0, none),
 (some 46, .load 3 (.tmp 45), none),
 (some 47, .fieldAddr 34 (.tmp 4) 0, none),
 (some 48, .load 3 (.tmp 47), none),
 (some 49, .binOp .sub 3 (.tmp 46) (.tmp 48) 3, none),
 (some 50, .move (.tmp 7), none),
 (some 51, .binOp .mul 3 (.tmp 49) (.tmp 50) 3, none),
 (some 52, .move (.tmp 6), none),
 (some 53, .call { callee := .value (.func 86), args := #[(.tmp 51), (.tmp 52)], argTypes := #[3, 3] }, none),
 (some 54, .binOp .add 3 (.tmp 44) (.tmp 53) 3, none),
 (some 55, .fieldAddr 34 (.tmp 4) 1, none),
 (some 56, .load 3 (.tmp 55), none),
 (some 57, .fieldAddr 34 (.tmp 5) 1, none),
 (some 58, .load 3 (.tmp 57), none),
 (some 59, .fieldAddr 34 (.tmp 4) 1, none),
 (some 60, .load 3 (.tmp 59), none),
 (some 61, .binOp .sub 3 (.tmp 58) (.tmp 60) 3, none),
 (some 62, .move (.tmp 7), none),
 (some 63, .binOp .mul 3 (.tmp 61) (.tmp 62) 3, none),
 (some 64, .move (.tmp 6), none),
 (some 65, .call { callee := .value (.func 86), args := #[(.tmp 63), (.tmp 64)], argTypes := #[3, 3] }, none),
 (some 66, .binOp .add 3 (.tmp 56) (.tmp 65) 3, none),
 (some 67, .build 34 #[(0, (.tmp 54)), (1, (.tmp 66))], none),
 (some 8, .alloc 34, none),
 (none, .store 34 (.tmp 8) (.tmp 67), none)]
theorem SG6.isL : (opsOf 6 Tryz.f67).toList.map tri = SG6.L := by kernel_rfl
theorem SG6.ini {X : SG6} (ok : SG6Ok X) : ∀ n ∈ [4, 5, 6, 7], X.a0.eval (.tmp n) = X.val0 n := by
 simp only [List.forall_mem_cons]
 exact ⟨ok.e4, ok.e5, ok.e6, ok.e7, List.forall_mem_nil _⟩
abbrev SG6.St (X : SG6) (Q : PQ) (i : Nat) : Prop := StepG (opsOf 6 Tryz.f67) SG6.acts SG6.av X.val0 X.Wd X.a0 Q i
theorem SG6.plain (X : SG6) (ok : SG6Ok X) {Q : PQ} : ∀ i ∈ [0, 1, 2, 3, 4, 5, 6, 7, 8, 9, 11, 12, 13, 14, 15, 16, 17, 18, 19, 20, 21, 23, 24], SG6.St X Q i := by
 simp only [List.forall_mem_cons]
 refine ⟨?_, ?_, ?_, ?_, ?_, ?_, ?_, ?_, ?_, ?_, ?_, ?_, ?_, ?_, ?_, ?_, ?_, ?_, ?_, ?_, ?_, ?_, ?_, List.forall_mem_nil _⟩
 all_goals
  refine st_plain SG6.isL (SG6.ini ok) ok.sz rfl (by kernel_rfl) ?_
  intro γ w n o hW hop
  have hc_c0 := rq_at (SG6.kp hW) ok.c0
  have hc_c2 := rq_at (SG6.kp hW) ok.c2
  have hc_c1 := rq_at (SG6.kp hW) ok.c1
  have hc_c3 := rq_at (SG6.kp hW) ok.c3
  unfold execOp
  rw [hop]
  simp [envR, valG, SG6.av, SG6.val0, hc_c0, hc_c2, ok.w1, ok.w2, ok.w3, hc_c1, hc_c3, ok.w4, ok.w5, ok.w6, go_sem]
theorem SG6.s25 (X : SG6) (ok : SG6Ok X) {Q : PQ} : SG6.St X Q 25 := by
 intro γ listed a w o hF hC hW h1 ho h2
 obtain ⟨hd, hop, hg⟩ := fieldsL SG6.isL (i := 25) rfl ho
 have hu := unl (hF.lt ho) h1
 refine st_actG (k := 0) SG6.chain SG6.nodup rfl hF hC hW h1 ho h2 (Or.inr ⟨8, hd, rfl⟩) (injG (by kernel_rfl) hu) hg ?_
 intro hW0 K hK
 have hr : (execOp a.eval o).run Tryz.prog w = .ok (.value (.pointer (some ⟨w.heap.size, 0, none⟩))) (w.alloc (.cells #[.int .i64 0, .int .i64 0] 34)) := by
  unfold execOp
  rw [hop]
  simp [go_sem]
 unfold Oper.wp
 rw [hr]
 exact hK _ _ ⟨w.heap.size, rfl, Kp.size hW0, ⟨by simp, by simp⟩, fun o => World.frozen?_alloc_at _ _ _ _ rfl, Kp.alloc hW0 _ _⟩
theorem SG6.s26 (X : SG6) (ok : SG6Ok X) {Q : PQ} : SG6.St X Q 26 := by
 intro γ listed a w o hF hC hW h1 ho h2
 obtain ⟨hd, hop, hg⟩ := fieldsL SG6.isL (i := 26) rfl ho
 have e8 : a.eval (.tmp 8) = γ 0 := known hF ho h2 (SG6.ini ok) ok.sz (by kernel_rfl)
 have e67 : a.eval (.tmp 67) = .agg #[.int .i64 (X.ax + (X.bx - X.ax) * X.g / X.n), .int .i64 (X.ay + (X.cy - X.ay) * X.g / X.n)] := known hF ho h2 (SG6.ini ok) ok.sz (by kernel_rfl)
 have hu := unl (hF.lt ho) h1
 refine st_actG (k := 1) SG6.chain SG6.nodup rfl hF hC hW h1 ho h2 (Or.inl hd) (injG (by kernel_rfl) hu) hg ?_
 intro hW0 K hK
 obtain ⟨g, g0, hg0, ⟨z0, z1⟩, zf, k1⟩ := hW0
 rw [g0] at e8
 obtain ⟨y0, y1⟩ := rq_set2 w g (.int .i64 (X.ax + (X.bx - X.ax) * X.g / X.n)) (.int .i64 (X.ay + (X.cy - X.ay) * X.g / X.n)) z0 z1
 have hr : (execOp a.eval o).run Tryz.prog w = .ok .skip ((w.setCell ⟨g, 0, none⟩ (.int .i64 (X.ax + (X.bx - X.ax) * X.g / X.n))).setCell ⟨g, 1, none⟩ (.int .i64 (X.ay + (X.cy - X.ay) * X.g / X.n))) := by
  generalize a.eval = ρ at e8 e67 ⊢
  unfold execOp
  rw [hop]
  simp [e8, e67, z0, z1, zf, go_sem]
 unfold Oper.wp
 rw [hr]
 exact hK _ _ ⟨g, g0, hg0, ⟨y0, y1⟩, fun o => by rw [World.frozen?_setCell, World.frozen?_setCell]; exact zf o, (Kp.setCell (Kp.setCell k1 hg0 _) hg0 _)⟩
theorem SG6.size : (opsOf 6 Tryz.f67).size = 27 := by kernel_rfl
theorem SG6.rest (X : SG6) (ok : SG6Ok X) {Q : PQ} : ∀ i ∈ [10, 22, 25, 26], SG6.St X Q i := by
 simp only [List.forall_mem_cons]
 exact ⟨st_callK SG6.isL (SG6.ini ok) ok.sz rfl (by kernel_rfl) (fun _ _ => by simp [go_sem]) (fun γ w n hW => (sdown_any _ _ w ok.n0 ok.n1 ok.d1.1 ok.d1.2).mono fun e w' ⟨h1, h2⟩ => ⟨h1, h2 ▸ Kp.refl _⟩) (fun _ _ _ _ hW hk => SG6.keep hW hk),
  st_callK SG6.isL (SG6.ini ok) ok.sz rfl (by kernel_rfl) (fun _ _ => by simp [go_sem]) (fun γ w n hW => (sdown_any _ _ w ok.n0 ok.n1 ok.d2.1 ok.d2.2).mono fun e w' ⟨h1, h2⟩ => ⟨h1, h2 ▸ Kp.refl _⟩) (fun _ _ _ _ hW hk => SG6.keep hW hk),
  SG6.s25 X ok,
  SG6.s26 X ok, List.forall_mem_nil _⟩
theorem SG6.steps (X : SG6) (ok : SG6Ok X) {Q : PQ} (i : Nat) (hi : i < (opsOf 6 Tryz.f67).size) : SG6.St X Q i := by
 rw [SG6.size] at hi
 rcases (by decide : ∀ i, i < 27 → i ∈ [0, 1, 2, 3, 4, 5, 6, 7, 8, 9, 11, 12, 13, 14, 15, 16, 17, 18, 19, 20, 21, 23, 24] ∨ i ∈ [10, 22, 25, 26]) i hi with h | h
 · exact SG6.plain X ok i h
 · exact SG6.rest X ok i h
theorem SG6.run (X : SG6) (ok : SG6Ok X) {Q : PQ} (w : World) (h0 : X.Wd 0 (fun _ => undef) w.drew) (hend : ∀ (γ : Nat → Value) w', X.Wd 2 γ w' → Q .normal ((((((((((((((((((((((((((X.a0.put (some 43) (.pointer (some ⟨X.b0, 0, none⟩))).put (some 44) (.int .i64 X.ax)).put (some 45) (.pointer (some ⟨X.b1, 0, none⟩))).put (some 46) (.int .i64 X.bx)).put (some 47) (.pointer (some ⟨X.b0, 0, none⟩))).put (some 48) (.int .i64 X.ax)).put (some 49) (.int .i64 ((X.bx - X.ax)))).put (some 50) (.int .i64 X.g)).put (some 51) (.int .i64 (((X.bx - X.ax) * X.g)))).put (some 52) (.int .i64 X.n)).put (some 53) (.int .i64 (((X.bx - X.ax) * X.g / X.n)))).put (some 54) (.int .i64 (X.ax + (X.bx - X.ax) * X.g / X.n))).put (some 55) (.pointer (some ⟨X.b0, 1, none⟩))).put (some 56) (.int .i64 X.ay)).put (some 57) (.pointer (some ⟨X.b1, 1, none⟩))).put (some 58) (.int .i64 X.cy)).put (some 59) (.pointer (some ⟨X.b0, 1, none⟩))).put (some 60) (.int .i64 X.ay)).put (some 61) (.int .i64 ((X.cy - X.ay)))).put (some 62) (.int .i64 X.g)).put (some 63) (.int .i64 (((X.cy - X.ay) * X.g)))).put (some 64) (.int .i64 X.n)).put (some 65) (.int .i64 (((X.cy - X.ay) * X.g / X.n)))).put (some 66) (.int .i64 (X.ay + (X.cy - X.ay) * X.g / X.n))).put (some 67) (.agg #[.int .i64 (X.ax + (X.bx - X.ax) * X.g / X.n), .int .i64 (X.ay + (X.cy - X.ay) * X.g / X.n)])).put (some 8) (γ 0)) w') : (Code.region 6 (opsOf 6 Tryz.f67) true).wp Tryz.prog Q X.a0 w := by
 refine reg_act (acts := SG6.acts) (av := SG6.av) (val0 := X.val0) (Wd := X.Wd) (by kernel_rfl) (by kernel_rfl) (by rw [SG6.size]; decide) (fun i hi => SG6.steps X ok i hi) _ h0 ?_
 intro γ w' h
 exact end_at (hend γ w' h) (by kernel_rfl)
structure DW25 where
 bl : Nat
 bd : Nat
 g : Nat
 off : Nat
 n : Nat
 pc : Nat
 i : Nat
 j : Nat
 hx : Int
 hy : Int
 x : Int
 y : Int
 P : World → Prop
 W : World
 a0 : Act
structure DW25Ok (X : DW25) : Prop where
 c0 : X.W.cell? ⟨X.bl, 0, none⟩ = some (.slice (some ⟨X.g, X.off, none⟩) X.n X.pc)
 wi : IntKind.i64.wrap ((X.j : Int) - 1) = (X.i : Int)
 hi : X.i < X.n
 hj : X.j < X.n
 h0 : X.W.cell? ⟨X.g, X.off + X.i * 2, none⟩ = some (.int .i64 X.hx)
 h1 : X.W.cell? ⟨X.g, X.off + X.i * 2 + 1, none⟩ = some (.int .i64 X.hy)
 p0 : X.W.cell? ⟨X.g, X.off + X.j * 2, none⟩ = some (.int .i64 X.x)
 p1 : X.W.cell? ⟨X.g, X.off + X.j * 2 + 1, none⟩ = some (.int .i64 X.y)
 hc : Calls Tryz.prog 67 #[.pointer (some ⟨X.bd, 0, none⟩), .agg #[.int .i64 X.hx, .int .i64 X.hy], .agg #[.int .i64 X.x, .int .i64 X.y]] X.W fun e w' => e = .returned (.tuple #[]) ∧ X.P w'
 e3 : X.a0.eval (.tmp 3) = .pointer (some ⟨X.bl, 0, none⟩)
 e11 : X.a0.eval (.tmp 11) = .pointer (some ⟨X.bd, 0, none⟩)
 e12 : X.a0.eval (.tmp 12) = .int .i64 (X.j : Int)
 sz : X.a0.tmps.size = 171
def DW25.val0 (X : DW25) : Nat → Value
 | 3 => .pointer (some ⟨X.bl, 0, none⟩)
 | 11 => .pointer (some ⟨X.bd, 0, none⟩)
 | 12 => .int .i64 (X.j : Int)
 | 118 => .pointer (some ⟨X.bd, 0, none⟩)
 | 119 => .pointer (some ⟨X.bl, 0, none⟩)
 | 120 => .slice (some ⟨X.g, X.off, none⟩) X.n X.pc
 | 121 => .int .i64 (X.j : Int)
 | 122 => .int .i64 (X.i : Int)
 | 123 => .pointer (some ⟨X.g, X.off + X.i * 2, none⟩)
 | 124 => .agg #[.int .i64 X.hx, .int .i64 X.hy]
 | 125 => .pointer (some ⟨X.bl, 0, none⟩)
 | 126 => .slice (some ⟨X.g, X.off, none⟩) X.n X.pc
 | 127 => .int .i64 (X.j : Int)
 | 128 => .pointer (some ⟨X.g, X.off + X.j * 2, none⟩)
 | 129 => .agg #[.int .i64 X.x, .int .i64 X.y]
 | _ => undef
def DW25.av : Nat → Option Nat
 | 130 => some 0
 | _ => none
def DW25.acts : List Nat := [12]
def DW25.Wd (X : DW25) : Nat → (Nat → Value) → World → Prop
  | 0, _, w => w = X.W
  | _, _, w => X.P w
theorem DW25.chain : chainG (opsOf 25 Tryz.f39) DW25.acts = true := by kernel_rfl
theorem DW25.nodup : DW25.acts.Nodup := by decide
def DW25.L : List (Option Nat × Op × Option (Nat × Bool)) := [
 (some 118, .move (.tmp 11), none),
 (some 119, .fieldAddr 25 (.tmp 3) 0, none),
 (some 120, .load 23 (.tmp 119), none),
 (some 121, .move (.tmp 12), none),
 (some 122, .binOp .sub 3 (.tmp 121) (.const (.int .i64 1)) 3, none),
 (some 123, .indexAddr 23 (.tmp 120) (.tmp 122), none),
 (some 124, .load 34 (.tmp 123), none),
 (some 125, .fieldAddr 25 (.tmp 3) 0, none),
 (some 126, .load 23 (.tmp 125), none),
 (some 127, .move (.tmp 12), none),
 (some 128, .indexAddr 23 (.tmp 126) (.tmp 127), none),
 (some 129, .load 34 (.tmp 128), none),
 (some 130, .call { callee := .value (.func 67), args := #[(.tmp 118), (.tmp 124), (.tmp 129)], argTypes := #[98, 34, 34] }, none)]
theorem DW25.isL : (opsOf 25 Tryz.f39).toList.map tri = DW25.L := by kernel_rfl
theorem DW25.ini {X : DW25} (ok : DW25Ok X) : ∀ n ∈ [3, 11, 12], X.a0.eval (.tmp n) = X.val0 n := by
 simp only [List.forall_mem_cons]
 exact ⟨ok.e3, ok.e11, ok.e12, List.forall_mem_nil _⟩
abbrev DW25.St (X : DW25) (Q : PQ) (i : Nat) : Prop := StepG (opsOf 25 Tryz.f39) DW25.acts DW25.av X.val0 X.Wd X.a0 Q i
theorem DW25.plain (X : DW25) (ok : DW25Ok X) {Q : PQ} : ∀ i ∈ [0, 1, 3, 4, 5, 7, 9, 10], DW25.St X Q i := by
 simp only [List.forall_mem_cons]
 refine ⟨?_, ?_, ?_, ?_, ?_, ?_, ?_, ?_, List.forall_mem_nil _⟩
 all_goals
  refine st_plain DW25.isL (DW25.ini ok) ok.sz rfl (by kernel_rfl) ?_
  intro γ w n o hW hop
  unfold execOp
  rw [hop]
  simp [envR, valG, DW25.av, DW25.val0, ok.wi, ok.hi, ok.hj, go_sem]
theorem DW25.soon (X : DW25) (ok : DW25Ok X) {Q : PQ} : ∀ i ∈ [2, 6, 8, 11], DW25.St X Q i := by
 simp only [List.forall_mem_cons]
 refine ⟨?_, ?_, ?_, ?_, List.forall_mem_nil _⟩
 all_goals
  refine st_plainM (m := 0) DW25.isL (DW25.ini ok) ok.sz rfl (by kernel_rfl) ?_
  intro γ w n o hn hW hop
  obtain rfl : n = 0 := by omega
  have hk : w = X.W := hW
  subst hk
  unfold execOp
  rw [hop]
  simp [envR, valG, DW25.av, DW25.val0, ok.c0, ok.h0, ok.h1, ok.p0, ok.p1, go_sem]
theorem DW25.s12 (X : DW25) (ok : DW25Ok X) {Q : PQ} : DW25.St X Q 12 := by
 intro γ listed a w o hF hC hW h1 ho h2
 obtain ⟨hd, hop, hg⟩ := fieldsL DW25.isL (i := 12) rfl ho
 have e118 : a.eval (.tmp 118) = .pointer (some ⟨X.bd, 0, none⟩) := known hF ho h2 (DW25.ini ok) ok.sz (by kernel_rfl)
 have e124 : a.eval (.tmp 124) = .agg #[.int .i64 X.hx, .int .i64 X.hy] := known hF ho h2 (DW25.ini ok) ok.sz (by kernel_rfl)
 have e129 : a.eval (.tmp 129) = .agg #[.int .i64 X.x, .int .i64 X.y] := known hF ho h2 (DW25.ini ok) ok.sz (by kernel_rfl)
 have ef : a.eval (.func 67) = .func (.func 67) #[] #[] := rfl
 have hu := unl (hF.lt ho) h1
 refine st_actG (k := 0) DW25.chain DW25.nodup rfl hF hC hW h1 ho h2 (Or.inr ⟨130, hd, rfl⟩) (injG (by kernel_rfl) hu) hg ?_
 intro hW0 K hK
 have hw0 : w = X.W := hW0
 have hr : (execOp a.eval o).run Tryz.prog w = .ok (.enter 67 #[.pointer (some ⟨X.bd, 0, none⟩), .agg #[.int .i64 X.hx, .int .i64 X.hy], .agg #[.int .i64 X.x, .int .i64 X.y]]) w := by
  generalize a.eval = ρ at e118 e124 e129 ef ⊢
  unfold execOp
  rw [hop]
  simp [e118, e124, e129, ef, go_sem]
 unfold Oper.wp
 rw [hr]
 refine Calls.mono (by rw [hw0]; exact ok.hc) ?_
 rintro e w' ⟨rfl, h⟩
 exact hK _ _ h
theorem DW25.size : (opsOf 25 Tryz.f39).size = 13 := by kernel_rfl
theorem DW25.rest (X : DW25) (ok : DW25Ok X) {Q : PQ} : ∀ i ∈ [12], DW25.St X Q i := by
 simp only [List.forall_mem_cons]
 exact ⟨DW25.s12 X ok, List.forall_mem_nil _⟩
theorem DW25.steps (X : DW25) (ok : DW25Ok X) {Q : PQ} (i : Nat) (hi : i < (opsOf 25 Tryz.f39).size) : DW25.St X Q i := by
 rw [DW25.size] at hi
 rcases (by decide : ∀ i, i < 13 → i ∈ [0, 1, 3, 4, 5, 7, 9, 10] ∨ i ∈ [2, 6, 8, 11] ∨ i ∈ [12]) i hi with h | h | h
 · exact DW25.plain X ok i h
 · exact DW25.soon X ok i h
 · exact DW25.rest X ok i h
theorem DW25.run (X : DW25) (ok : DW25Ok X) {Q : PQ} (w : World) (h0 : X.Wd 0 (fun _ => undef) w.drew) (hend : ∀ (γ : Nat → Value) w', X.Wd 1 γ w' → Q .normal (((((((((((((X.a0.put (some 118) (.pointer (some ⟨X.bd, 0, none⟩))).put (some 119) (.pointer (some ⟨X.bl, 0, none⟩))).put (some 120) (.slice (some ⟨X.g, X.off, none⟩) X.n X.pc)).put (some 121) (.int .i64 (X.j : Int))).put (some 122) (.int .i64 (X.i : Int))).put (some 123) (.pointer (some ⟨X.g, X.off + X.i * 2, none⟩))).put (some 124) (.agg #[.int .i64 X.hx, .int .i64 X.hy])).put (some 125) (.pointer (some ⟨X.bl, 0, none⟩))).put (some 126) (.slice (some ⟨X.g, X.off, none⟩) X.n X.pc)).put (some 127) (.int .i64 (X.j : Int))).put (some 128) (.pointer (some ⟨X.g, X.off + X.j * 2, none⟩))).put (some 129) (.agg #[.int .i64 X.x, .int .i64 X.y])).put (some 130) (γ 0)) w') : (Code.region 25 (opsOf 25 Tryz.f39) true).wp Tryz.prog Q X.a0 w := by
 refine reg_act (acts := DW25.acts) (av := DW25.av) (val0 := X.val0) (Wd := X.Wd) (by kernel_rfl) (by kernel_rfl) (by rw [DW25.size]; decide) (fun i hi => DW25.steps X ok i hi) _ h0 ?_
 intro γ w' h
 exact end_at (hend γ w' h) (by kernel_rfl)
structure DW27 where
 bl : Nat
 bd : Nat
 g : Nat
 off : Nat
 n : Nat
 pc : Nat
 i : Nat
 hx : Int
 hy : Int
 x : Int
 y : Int
 P : World → Prop
 W : World
 a0 : Act
structure DW27Ok (X : DW27) : Prop where
 c0 : X.W.cell? ⟨X.bl, 0, none⟩ = some (.slice (some ⟨X.g, X.off, none⟩) X.n X.pc)
 wi : IntKind.i64.wrap ((X.n : Int) - 1) = (X.i : Int)
 hi : X.i < X.n
 hn : 0 < X.n
 h0 : X.W.cell? ⟨X.g, X.off + X.i * 2, none⟩ = some (.int .i64 X.hx)
 h1 : X.W.cell? ⟨X.g, X.off + X.i * 2 + 1, none⟩ = some (.int .i64 X.hy)
 p0 : X.W.cell? ⟨X.g, X.off, none⟩ = some (.int .i64 X.x)
 p1 : X.W.cell? ⟨X.g, X.off + 1, none⟩ = some (.int .i64 X.y)
 hc : Calls Tryz.prog 67 #[.pointer (some ⟨X.bd, 0, none⟩), .agg #[.int .i64 X.hx, .int .i64 X.hy], .agg #[.int .i64 X.x, .int .i64 X.y]] X.W fun e w' => e = .returned (.tuple #[]) ∧ X.P w'
 e3 : X.a0.eval (.tmp 3) = .pointer (some ⟨X.bl, 0, none⟩)
 e11 : X.a0.eval (.tmp 11) = .pointer (some ⟨X.bd, 0, none⟩)
 sz : X.a0.tmps.size = 171
def DW27.val0 (X : DW27) : Nat → Value
 | 3 => .pointer (some ⟨X.bl, 0, none⟩)
 | 11 => .pointer (some ⟨X.bd, 0, none⟩)
 | 133 => .pointer (some ⟨X.bd, 0, none⟩)
 | 134 => .pointer (some ⟨X.bl, 0, none⟩)
 | 135 => .slice (some ⟨X.g, X.off, none⟩) X.n X.pc
 | 136 => .pointer (some ⟨X.bl, 0, none⟩)
 | 137 => .slice (some ⟨X.g, X.off, none⟩) X.n X.pc
 | 138 => .int .i64 (X.n : Int)
 | 139 => .int .i64 (X.i : Int)
 | 140 => .pointer (some ⟨X.g, X.off + X.i * 2, none⟩)
 | 141 => .agg #[.int .i64 X.hx, .int .i64 X.hy]
 | 142 => .pointer (some ⟨X.bl, 0, none⟩)
 | 143 => .slice (some ⟨X.g, X.off, none⟩) X.n X.pc
 | 144 => .pointer (some ⟨X.g, X.off, none⟩)
 | 145 => .agg #[.int .i64 X.x, .int .i64 X.y]
 | _ => undef
def DW27.av : Nat → Option Nat
 | 146 => some 0
 | _ => none
def DW27.acts : List Nat := [13]
def DW27.Wd (X : DW27) : Nat → (Nat → Value) → World → Prop
  | 0, _, w => w = X.W
  | _, _, w => X.P w
theorem DW27.chain : chainG (opsOf 27 Tryz.f39) DW27.acts = true := by kernel_rfl
theorem DW27.nodup : DW27.acts.Nodup := by decide
def DW27.L : List (Option Nat × Op × Option (Nat × Bool)) := [
 (some 133, .move (.tmp 11), none),
 (some 134, .fieldAddr 25 (.tmp 3) 0, none),
 (some 135, .load 23 (.tmp 134), none),
 (some 136, .fieldAddr 25 (.tmp 3) 0, none),
 (some 137, .load 23 (.tmp 136), none),
 (some 138, .call { callee := .builtin .len, args := #[(.tmp 137)], argTypes := #[23] }, none),
 (some 139, .binOp .sub 3 (.tmp 138) (.const (.int .i64 1)) 3, none),
 (some 140, .indexAddr 23 (.tmp 135) (.tmp 139), none),
 (some 141, .load 34 (.tmp 140), none),
 (some 142, .fieldAddr 25 (.tmp 3) 0, none),
 (some 143, .load 23 (.tmp 142), none),
 (some 144, .indexAddr 23 (.tmp 143) (.const (.int .i64 0)), none),
 (some 145, .load 34 (.tmp 144), none),
 (some 146, .call { callee := .value (.func 67), args := #[(.tmp 133), (.tmp 141), (.tmp 145)], argTypes := #[98, 34, 34] }, none)]
theorem DW27.isL : (opsOf 27 Tryz.f39).toList.map tri = DW27.L := by kernel_rfl
theorem DW27.ini {X : DW27} (ok : DW27Ok X) : ∀ n ∈ [3, 11], X.a0.eval (.tmp n) = X.val0 n := by
 simp only [List.forall_mem_cons]
 exact ⟨ok.e3, ok.e11, List.forall_mem_nil _⟩
abbrev DW27.St (X : DW27) (Q : PQ) (i : Nat) : Prop := StepG (opsOf 27 Tryz.f39) DW27.acts DW27.av X.val0 X.Wd X.a0 Q i
theorem DW27.plain (X : DW27) (ok : DW27Ok X) {Q : PQ} : ∀ i ∈ [0, 1, 3, 5, 6, 7, 9, 11], DW27.St X Q i := by
 simp only [List.forall_mem_cons]
 refine ⟨?_, ?_, ?_, ?_, ?_, ?_, ?_, ?_, List.forall_mem_nil _⟩
 all_goals
  refine st_plain DW27.isL (DW27.ini ok) ok.sz rfl (by kernel_rfl) ?_
  intro γ w n o hW hop
  unfold execOp
  rw [hop]
  simp [envR, valG, DW27.av, DW27.val0, ok.wi, ok.hi, ok.hn, go_sem]
theorem DW27.soon (X : DW27) (ok : DW27Ok X) {Q : PQ} : ∀ i ∈ [2, 4, 8, 10, 12], DW27.St X Q i := by
 simp only [List.forall_mem_cons]
 refine ⟨?_, ?_, ?_, ?_, ?_, List.forall_mem_nil _⟩
 all_goals
  refine st_plainM (m := 0) DW27.isL (DW27.ini ok) ok.sz rfl (by kernel_rfl) ?_
  intro γ w n o hn hW hop
  obtain rfl : n = 0 := by omega
  have hk : w = X.W := hW
  subst hk
  unfold execOp
  rw [hop]
  simp [envR, valG, DW27.av, DW27.val0, ok.c0, ok.h0, ok.h1, ok.p0, ok.p1, go_sem]
theorem DW27.s13 (X : DW27) (ok : DW27Ok X) {Q : PQ} : DW27.St X Q 13 := by
 intro γ listed a w o hF hC hW h1 ho h2
 obtain ⟨hd, hop, hg⟩ := fieldsL DW27.isL (i := 13) rfl ho
 have e133 : a.eval (.tmp 133) = .pointer (some ⟨X.bd, 0, none⟩) := known hF ho h2 (DW27.ini ok) ok.sz (by kernel_rfl)
 have e141 : a.eval (.tmp 141) = .agg #[.int .i64 X.hx, .int .i64 X.hy] := known hF ho h2 (DW27.ini ok) ok.sz (by kernel_rfl)
 have e145 : a.eval (.tmp 145) = .agg #[.int .i64 X.x, .int .i64 X.y] := known hF ho h2 (DW27.ini ok) ok.sz (by kernel_rfl)
 have ef : a.eval (.func 67) = .func (.func 67) #[] #[] := rfl
 have hu := unl (hF.lt ho) h1
 refine st_actG (k := 0) DW27.chain DW27.nodup rfl hF hC hW h1 ho h2 (Or.inr ⟨146, hd, rfl⟩) (injG (by kernel_rfl) hu) hg ?_
 intro hW0 K hK
 have hw0 : w = X.W := hW0
 have hr : (execOp a.eval o).run Tryz.prog w = .ok (.enter 67 #[.pointer (some ⟨X.bd, 0, none⟩), .agg #[.int .i64 X.hx, .int .i64 X.hy], .agg #[.int .i64 X.x, .int .i64 X.y]]) w := by
  generalize a.eval = ρ at e133 e141 e145 ef ⊢
  unfold execOp
  rw [hop]
  simp [e133, e141, e145, ef, go_sem]
 unfold Oper.wp
 rw [hr]
 refine Calls.mono (by rw [hw0]; exact ok.hc) ?_
 rintro e w' ⟨rfl, h⟩
 exact hK _ _ h
theorem DW27.size : (opsOf 27 Tryz.f39).size = 14 := by kernel_rfl
theorem DW27.rest (X : DW27) (ok : DW27Ok X) {Q : PQ} : ∀ i ∈ [13], DW27.St X Q i := by
 simp only [List.forall_mem_cons]
 exact ⟨DW27.s13 X ok, List.forall_mem_nil _⟩
theorem DW27.steps (X : DW27) (ok : DW27Ok X) {Q : PQ} (i : Nat) (hi : i < (opsOf 27 Tryz.f39).size) : DW27.St X Q i := by
 rw [DW27.size] at hi
 rcases (by decide : ∀ i, i < 14 → i ∈ [0, 1, 3, 5, 6, 7, 9, 11] ∨ i ∈ [2, 4, 8, 10, 12] ∨ i ∈ [13]) i hi with h | h | h
 · exact DW27.plain X ok i h
 · exact DW27.soon X ok i h
 · exact DW27.rest X ok i h
theorem DW27.run (X : DW27) (ok : DW27Ok X) {Q : PQ} (w : World) (h0 : X.Wd 0 (fun _ => undef) w.drew) (hend : ∀ (γ : Nat → Value) w', X.Wd 1 γ w' → Q .normal ((((((((((((((X.a0.put (some 133) (.pointer (some ⟨X.bd, 0, none⟩))).put (some 134) (.pointer (some ⟨X.bl, 0, none⟩))).put (some 135) (.slice (some ⟨X.g, X.off, none⟩) X.n X.pc)).put (some 136) (.pointer (some ⟨X.bl, 0, none⟩))).put (some 137) (.slice (some ⟨X.g, X.off, none⟩) X.n X.pc)).put (some 138) (.int .i64 (X.n : Int))).put (some 139) (.int .i64 (X.i : Int))).put (some 140) (.pointer (some ⟨X.g, X.off + X.i * 2, none⟩))).put (some 141) (.agg #[.int .i64 X.hx, .int .i64 X.hy])).put (some 142) (.pointer (some ⟨X.bl, 0, none⟩))).put (some 143) (.slice (some ⟨X.g, X.off, none⟩) X.n X.pc)).put (some 144) (.pointer (some ⟨X.g, X.off, none⟩))).put (some 145) (.agg #[.int .i64 X.x, .int .i64 X.y])).put (some 146) (γ 0)) w') : (Code.region 27 (opsOf 27 Tryz.f39) true).wp Tryz.prog Q X.a0 w := by
 refine reg_act (acts := DW27.acts) (av := DW27.av) (val0 := X.val0) (Wd := X.Wd) (by kernel_rfl) (by kernel_rfl) (by rw [DW27.size]; decide) (fun i hi => DW27.steps X ok i hi) _ h0 ?_
 intro γ w' h
 exact end_at (hend γ w' h) (by kernel_rfl)
structure DWE where
 bd : Nat
 va : Option Addr
 vn : Nat
 vc : Nat
 mn : Int
 bg : Int
 W : World
 a0 : Act
structure DWEOk (X : DWE) : Prop where
 c4 : X.W.cell? ⟨X.bd, 4, none⟩ = some (.slice X.va X.vn X.vc)
 c5 : X.W.cell? ⟨X.bd, 5, none⟩ = some (.int .i64 X.mn)
 hm : decide (X.mn ≤ 600) = false
 e11 : X.a0.eval (.tmp 11) = .pointer (some ⟨X.bd, 0, none⟩)
 sz : X.a0.tmps.size = 171
def DWE.val0 (X : DWE) : Nat → Value
 | 6 => .slice X.va X.vn X.vc
 | 7 => .bool false
 | 11 => .pointer (some ⟨X.bd, 0, none⟩)
 | 155 => .pointer (some ⟨X.bd, 0, none⟩)
 | 156 => .pointer (some ⟨X.bd, 0, none⟩)
 | 157 => .pointer (some ⟨X.bd, 4, none⟩)
 | 158 => .slice X.va X.vn X.vc
 | 159 => .pointer (some ⟨X.bd, 0, none⟩)
 | 160 => .pointer (some ⟨X.bd, 0, none⟩)
 | 161 => .pointer (some ⟨X.bd, 5, none⟩)
 | 162 => .int .i64 X.mn
 | 163 => .bool false
 | 164 => .bool false
 | 170 => .bool false
 | _ => undef
def DWE.av : Nat → Option Nat
 | _ => none
def DWE.acts : List Nat := []
def DWE.Wd (X : DWE) : Nat → (Nat → Value) → World → Prop
  | _, _, w => Kp X.W w
theorem DWE.kp {X : DWE} {n : Nat} {γ : Nat → Value} {w : World} (h : X.Wd n γ w) : Kp X.W w := h
theorem DWE.keep {X : DWE} {n : Nat} {γ : Nat → Value} {w w' : World} (h : X.Wd n γ w) (k : Kp w w') : X.Wd n γ w' := Kp.trans h k
def DWE.L : List (Option Nat × Op × Option (Nat × Bool)) := [
 (some 155, .move (.tmp 11), none),
 (some 156, .nilCheck (.tmp 155), none),
 (some 157, .fieldAddr 100 (.tmp 156) 4, none),
 (some 158, .load 29 (.tmp 157), none),
 (some 159, .move (.tmp 11), none),
 (some 160, .nilCheck (.tmp 159), none),
 (some 161, .fieldAddr 100 (.tmp 160) 5, none),
 (some 162, .load 3 (.tmp 161), none),
 (some 163, .binOp .leq 3 (.tmp 162) (.const (.int .i64 600)) 3, none),
 (some 164, .move (.tmp 163), none),
 (some 165, .move (.tmp 11), some (9, true)),
 (some 166, .nilCheck (.tmp 165), some (9, true)),
 (some 167, .fieldAddr 100 (.tmp 166) 6, some (9, true)),
 (some 168, .load 3 (.tmp 167), some (9, true)),
 (some 169, .binOp .leq 3 (.tmp 168) (.const (.int .i64 2400)) 3, some (9, true)),
 (some 170, .pick (.tmp 164) (.tmp 169) (.const (.bool false)), none),
 (some 6, .assign (.tmp 158), none),
 (some 7, .assign (.tmp 170), none)]
theorem DWE.isL : (opsOf 30 Tryz.f39).toList.map tri = DWE.L := by kernel_rfl
theorem DWE.ini {X : DWE} (ok : DWEOk X) : ∀ n ∈ [11], X.a0.eval (.tmp n) = X.val0 n := by
 simp only [List.forall_mem_cons]
 exact ⟨ok.e11, List.forall_mem_nil _⟩
abbrev DWE.St (X : DWE) (Q : PQ) (i : Nat) : Prop := StepG (opsOf 30 Tryz.f39) DWE.acts DWE.av X.val0 X.Wd X.a0 Q i
theorem DWE.plain (X : DWE) (ok : DWEOk X) {Q : PQ} : ∀ i ∈ [0, 1, 2, 3, 4, 5, 6, 7, 8, 9, 15, 16, 17], DWE.St X Q i := by
 simp only [List.forall_mem_cons]
 refine ⟨?_, ?_, ?_, ?_, ?_, ?_, ?_, ?_, ?_, ?_, ?_, ?_, ?_, List.forall_mem_nil _⟩
 all_goals
  refine st_plain DWE.isL (DWE.ini ok) ok.sz rfl (by kernel_rfl) ?_
  intro γ w n o hW hop
  have hc_c4 := rq_at (DWE.kp hW) ok.c4
  have hc_c5 := rq_at (DWE.kp hW) ok.c5
  unfold execOp
  rw [hop]
  simp [envR, valG, DWE.av, DWE.val0, hc_c4, hc_c5, ok.hm, go_sem]
theorem DWE.skip (X : DWE) (ok : DWEOk X) {Q : PQ} : ∀ i ∈ [10, 11, 12, 13, 14], DWE.St X Q i := by
 simp only [List.forall_mem_cons]
 refine ⟨?_, ?_, ?_, ?_, ?_, List.forall_mem_nil _⟩
 all_goals
  exact st_plainS DWE.isL (DWE.ini ok) ok.sz rfl rfl (Or.inl rfl) (by kernel_rfl) rfl
theorem DWE.size : (opsOf 30 Tryz.f39).size = 18 := by kernel_rfl
theorem DWE.steps (X : DWE) (ok : DWEOk X) {Q : PQ} (i : Nat) (hi : i < (opsOf 30 Tryz.f39).size) : DWE.St X Q i := by
 rw [DWE.size] at hi
 rcases (by decide : ∀ i, i < 18 → i ∈ [0, 1, 2, 3, 4, 5, 6, 7, 8, 9, 15, 16, 17] ∨ i ∈ [10, 11, 12, 13, 14]) i hi with h | h
 · exact DWE.plain X ok i h
 · exact DWE.skip X ok i h
theorem DWE.run (X : DWE) (ok : DWEOk X) {Q : PQ} (w : World) (h0 : X.Wd 0 (fun _ => undef) w.drew) (hend : ∀ (γ : Nat → Value) w', X.Wd 0 γ w' → Q .normal ((((((((((((((((((X.a0.put (some 155) (.pointer (some ⟨X.bd, 0, none⟩))).put (some 156) (.pointer (some ⟨X.bd, 0, none⟩))).put (some 157) (.pointer (some ⟨X.bd, 4, none⟩))).put (some 158) (.slice X.va X.vn X.vc)).put (some 159) (.pointer (some ⟨X.bd, 0, none⟩))).put (some 160) (.pointer (some ⟨X.bd, 0, none⟩))).put (some 161) (.pointer (some ⟨X.bd, 5, none⟩))).put (some 162) (.int .i64 X.mn)).put (some 163) (.bool false)).put (some 164) (.bool false)).put (some 165) (undef)).put (some 166) (undef)).put (some 167) (undef)).put (some 168) (undef)).put (some 169) (undef)).put (some 170) (.bool false)).put (some 6) (.slice X.va X.vn X.vc)).put (some 7) (.bool false)) w') : (Code.region 30 (opsOf 30 Tryz.f39) true).wp Tryz.prog Q X.a0 w := by
 refine reg_act (acts := DWE.acts) (av := DWE.av) (val0 := X.val0) (Wd := X.Wd) (by kernel_rfl) (by kernel_rfl) (by rw [DWE.size]; decide) (fun i hi => DWE.steps X ok i hi) _ h0 ?_
 intro γ w' h
 exact end_at (hend γ w' h) (by kernel_rfl)
structure DWF where
 bd : Nat
 va : Option Addr
 vn : Nat
 vc : Nat
 mn : Int
 bg : Int
 v : Bool
 W : World
 a0 : Act
structure DWFOk (X : DWF) : Prop where
 c4 : X.W.cell? ⟨X.bd, 4, none⟩ = some (.slice X.va X.vn X.vc)
 c5 : X.W.cell? ⟨X.bd, 5, none⟩ = some (.int .i64 X.mn)
 c6 : X.W.cell? ⟨X.bd, 6, none⟩ = some (.int .i64 X.bg)
 hm : decide (X.mn ≤ 600) = true
 hv : decide (X.bg ≤ 2400) = X.v
 e11 : X.a0.eval (.tmp 11) = .pointer (some ⟨X.bd, 0, none⟩)
 sz : X.a0.tmps.size = 171
def DWF.val0 (X : DWF) : Nat → Value
 | 6 => .slice X.va X.vn X.vc
 | 7 => .bool X.v
 | 11 => .pointer (some ⟨X.bd, 0, none⟩)
 | 155 => .pointer (some ⟨X.bd, 0, none⟩)
 | 156 => .pointer (some ⟨X.bd, 0, none⟩)
 | 157 => .pointer (some ⟨X.bd, 4, none⟩)
 | 158 => .slice X.va X.vn X.vc
 | 159 => .pointer (some ⟨X.bd, 0, none⟩)
 | 160 => .pointer (some ⟨X.bd, 0, none⟩)
 | 161 => .pointer (some ⟨X.bd, 5, none⟩)
 | 162 => .int .i64 X.mn
 | 163 => .bool true
 | 164 => .bool true
 | 165 => .pointer (some ⟨X.bd, 0, none⟩)
 | 166 => .pointer (some ⟨X.bd, 0, none⟩)
 | 167 => .pointer (some ⟨X.bd, 6, none⟩)
 | 168 => .int .i64 X.bg
 | 169 => .bool X.v
 | 170 => .bool X.v
 | _ => undef
def DWF.av : Nat → Option Nat
 | _ => none
def DWF.acts : List Nat := []
def DWF.Wd (X : DWF) : Nat → (Nat → Value) → World → Prop
  | _, _, w => Kp X.W w
theorem DWF.kp {X : DWF} {n : Nat} {γ : Nat → Value} {w : World} (h : X.Wd n γ w) : Kp X.W w := h
theorem DWF.keep {X : DWF} {n : Nat} {γ : Nat → Value} {w w' : World} (h : X.Wd n γ w) (k : Kp w w') : X.Wd n γ w' := Kp.trans h k
theorem DWF.ini {X : DWF} (ok : DWFOk X) : ∀ n ∈ [11], X.a0.eval (.tmp n) = X.val0 n := by
 simp only [List.forall_mem_cons]
 exact ⟨ok.e11, List.forall_mem_nil _⟩
abbrev DWF.St (X : DWF) (Q : PQ) (i : Nat) : Prop := StepG (opsOf 30 Tryz.f39) DWF.acts DWF.av X.val0 X.Wd X.a0 Q i
theorem DWF.plain (X : DWF) (ok : DWFOk X) {Q : PQ} : ∀ i ∈ [0, 1, 2, 3, 4, 5, 6, 7, 8, 9, 15, 16, 17], DWF.St X Q i := by
 simp only [List.forall_mem_cons]
 refine ⟨?_, ?_, ?_, ?_, ?_, ?_, ?_, ?_, ?_, ?_, ?_, ?_, ?_, List.forall_mem_nil _⟩
 all_goals
  refine st_plain DWE.isL (DWF.ini ok) ok.sz rfl (by kernel_rfl) ?_
  intro γ w n o hW hop
  have hc_c4 := rq_at (DWF.kp hW) ok.c4
  have hc_c5 := rq_at (DWF.kp hW) ok.c5
  have hc_c6 := rq_at (DWF.kp hW) ok.c6
  unfold execOp
  rw [hop]
  simp [envR, valG, DWF.av, DWF.val0, hc_c4, hc_c5, ok.hm, hc_c6, ok.hv, go_sem]
theorem DWF.want (X : DWF) (ok : DWFOk X) {Q : PQ} : ∀ i ∈ [10, 11, 12, 13, 14], DWF.St X Q i := by
 simp only [List.forall_mem_cons]
 refine ⟨?_, ?_, ?_, ?_, ?_, List.forall_mem_nil _⟩
 all_goals
  refine st_plainW DWE.isL (DWF.ini ok) ok.sz rfl rfl rfl (by kernel_rfl) ?_
  intro γ w n o hW hop
  have hc_c4 := rq_at (DWF.kp hW) ok.c4
  have hc_c5 := rq_at (DWF.kp hW) ok.c5
  have hc_c6 := rq_at (DWF.kp hW) ok.c6
  unfold execOp
  rw [hop]
  simp [envR, valG, DWF.av, DWF.val0, hc_c4, hc_c5, ok.hm, hc_c6, ok.hv, go_sem]
theorem DWF.steps (X : DWF) (ok : DWFOk X) {Q : PQ} (i : Nat) (hi : i < (opsOf 30 Tryz.f39).size) : DWF.St X Q i := by
 rw [DWE.size] at hi
 rcases (by decide : ∀ i, i < 18 → i ∈ [0, 1, 2, 3, 4, 5, 6, 7, 8, 9, 15, 16, 17] ∨ i ∈ [10, 11, 12, 13, 14]) i hi with h | h
 · exact DWF.plain X ok i h
 · exact DWF.want X ok i h
theorem DWF.run (X : DWF) (ok : DWFOk X) {Q : PQ} (w : World) (h0 : X.Wd 0 (fun _ => undef) w.drew) (hend : ∀ (γ : Nat → Value) w', X.Wd 0 γ w' → Q .normal ((((((((((((((((((X.a0.put (some 155) (.pointer (some ⟨X.bd, 0, none⟩))).put (some 156) (.pointer (some ⟨X.bd, 0, none⟩))).put (some 157) (.pointer (some ⟨X.bd, 4, none⟩))).put (some 158) (.slice X.va X.vn X.vc)).put (some 159) (.pointer (some ⟨X.bd, 0, none⟩))).put (some 160) (.pointer (some ⟨X.bd, 0, none⟩))).put (some 161) (.pointer (some ⟨X.bd, 5, none⟩))).put (some 162) (.int .i64 X.mn)).put (some 163) (.bool true)).put (some 164) (.bool true)).put (some 165) (.pointer (some ⟨X.bd, 0, none⟩))).put (some 166) (.pointer (some ⟨X.bd, 0, none⟩))).put (some 167) (.pointer (some ⟨X.bd, 6, none⟩))).put (some 168) (.int .i64 X.bg)).put (some 169) (.bool X.v)).put (some 170) (.bool X.v)).put (some 6) (.slice X.va X.vn X.vc)).put (some 7) (.bool X.v)) w') : (Code.region 30 (opsOf 30 Tryz.f39) true).wp Tryz.prog Q X.a0 w := by
 refine reg_act (acts := DWF.acts) (av := DWF.av) (val0 := X.val0) (Wd := X.Wd) (by kernel_rfl) (by kernel_rfl) (by rw [DWE.size]; decide) (fun i hi => DWF.steps X ok i hi) _ h0 ?_
 intro γ w' h
 exact end_at (hend γ w' h) (by kernel_rfl)
structure WH (bx : Nat) (w : World) (nv : Value) (k l m b : Int) (v : Value) (it : Its) (u : Value) (p : List Pnt) : Prop where
 c0 : w.cell? ⟨bx, 0, none⟩ = some nv
 c1 : w.cell? ⟨bx, 1, none⟩ = some (.int .i64 k)
 c2 : w.cell? ⟨bx, 2, none⟩ = some (.int .i64 l)
 c3 : w.cell? ⟨bx, 3, none⟩ = some u
 c4 : w.cell? ⟨bx, 4, none⟩ = some v
 c5 : w.cell? ⟨bx, 5, none⟩ = some (.int .i64 m)
 c6 : w.cell? ⟨bx, 6, none⟩ = some (.int .i64 b)
 free : ∀ o, w.frozen? ⟨bx, o, none⟩ = false
 d : D2 w (bx + 1) v it u p
section
variable {bx : Nat} {w w' : World} {nv : Value} {k l m b : Int} {v u : Value} {it : Its} {p : List Pnt}
theorem WH.lt (h : WH bx w nv k l m b v it u p) : bx < w.heap.size := World.block_lt_of_cell? w ⟨bx, 0, none⟩ h.c0
theorem WH.nw (h : WH bx w nv k l m b v it u p) (kk : Nw w w') : WH bx w' nv k l m b v it u p := by
 have e := fun o => (bcell kk).1 bx o h.lt
 exact ⟨(e _).trans h.c0, (e _).trans h.c1, (e _).trans h.c2, (e _).trans h.c3, (e _).trans h.c4, (e _).trans h.c5, (e _).trans h.c6, fun o => ((bcell kk).2 _ _ h.lt).trans (h.free o), h.d.nw kk⟩
theorem WH.neu (h : WH bx w nv k l m b v it u p) : u.ownBlock ≠ some bx := fun e => by have := (OwnQ.lt h.d.pt bx e).1; omega
theorem WH.nev (h : WH bx w nv k l m b v it u p) : v.ownBlock ≠ some bx := fun e => by have := (OwnQ.lt h.d.ln.own bx e).1; omega
theorem WH.setK (h : WH bx w nv k l m b v it u p) (x : Int) : WH bx (w.setCell ⟨bx, 1, none⟩ (.int .i64 x)) nv x l m b v it u p ∧ Below bx w (w.setCell ⟨bx, 1, none⟩ (.int .i64 x)) := by
 have e : ∀ o, o ≠ 1 → (w.setCell ⟨bx, 1, none⟩ (.int .i64 x)).cell? ⟨bx, o, none⟩ = w.cell? ⟨bx, o, none⟩ := fun o ho => World.cell?_setCell_other _ _ _ _ (fun e => by injection e; omega)
 exact ⟨⟨(e _ (by decide)).trans h.c0, World.cell?_setCell_same w ⟨bx, 1, none⟩ _ h.c1, (e _ (by decide)).trans h.c2, (e _ (by decide)).trans h.c3, (e _ (by decide)).trans h.c4, (e _ (by decide)).trans h.c5, (e _ (by decide)).trans h.c6, fun o => by rw [World.frozen?_setCell]; exact h.free o, h.d.far bx 1 _ (by omega)⟩, (Below.refl bx w).setCell (p := ⟨bx, 1, none⟩) (Nat.le_refl _) _⟩
theorem WH.setL (h : WH bx w nv k l m b v it u p) (x : Int) : WH bx (w.setCell ⟨bx, 2, none⟩ (.int .i64 x)) nv k x m b v it u p ∧ Below bx w (w.setCell ⟨bx, 2, none⟩ (.int .i64 x)) := by
 have e : ∀ o, o ≠ 2 → (w.setCell ⟨bx, 2, none⟩ (.int .i64 x)).cell? ⟨bx, o, none⟩ = w.cell? ⟨bx, o, none⟩ := fun o ho => World.cell?_setCell_other _ _ _ _ (fun e => by injection e; omega)
 exact ⟨⟨(e _ (by decide)).trans h.c0, (e _ (by decide)).trans h.c1, World.cell?_setCell_same w ⟨bx, 2, none⟩ _ h.c2, (e _ (by decide)).trans h.c3, (e _ (by decide)).trans h.c4, (e _ (by decide)).trans h.c5, (e _ (by decide)).trans h.c6, fun o => by rw [World.frozen?_setCell]; exact h.free o, h.d.far bx 2 _ (by omega)⟩, (Below.refl bx w).setCell (p := ⟨bx, 2, none⟩) (Nat.le_refl _) _⟩
theorem WH.setM (h : WH bx w nv k l m b v it u p) (x : Int) : WH bx (w.setCell ⟨bx, 5, none⟩ (.int .i64 x)) nv k l x b v it u p ∧ Below bx w (w.setCell ⟨bx, 5, none⟩ (.int .i64 x)) := by
 have e : ∀ o, o ≠ 5 → (w.setCell ⟨bx, 5, none⟩ (.int .i64 x)).cell? ⟨bx, o, none⟩ = w.cell? ⟨bx, o, none⟩ := fun o ho => World.cell?_setCell_other _ _ _ _ (fun e => by injection e; omega)
 exact ⟨⟨(e _ (by decide)).trans h.c0, (e _ (by decide)).trans h.c1, (e _ (by decide)).trans h.c2, (e _ (by decide)).trans h.c3, (e _ (by decide)).trans h.c4, World.cell?_setCell_same w ⟨bx, 5, none⟩ _ h.c5, (e _ (by decide)).trans h.c6, fun o => by rw [World.frozen?_setCell]; exact h.free o, h.d.far bx 5 _ (by omega)⟩, (Below.refl bx w).setCell (p := ⟨bx, 5, none⟩) (Nat.le_refl _) _⟩
theorem WH.setB (h : WH bx w nv k l m b v it u p) (x : Int) : WH bx (w.setCell ⟨bx, 6, none⟩ (.int .i64 x)) nv k l m x v it u p ∧ Below bx w (w.setCell ⟨bx, 6, none⟩ (.int .i64 x)) := by
 have e : ∀ o, o ≠ 6 → (w.setCell ⟨bx, 6, none⟩ (.int .i64 x)).cell? ⟨bx, o, none⟩ = w.cell? ⟨bx, o, none⟩ := fun o ho => World.cell?_setCell_other _ _ _ _ (fun e => by injection e; omega)
 exact ⟨⟨(e _ (by decide)).trans h.c0, (e _ (by decide)).trans h.c1, (e _ (by decide)).trans h.c2, (e _ (by decide)).trans h.c3, (e _ (by decide)).trans h.c4, (e _ (by decide)).trans h.c5, World.cell?_setCell_same w ⟨bx, 6, none⟩ _ h.c6, fun o => by rw [World.frozen?_setCell]; exact h.free o, h.d.far bx 6 _ (by omega)⟩, (Below.refl bx w).setCell (p := ⟨bx, 6, none⟩) (Nat.le_refl _) _⟩
theorem WH.pput {u' : Value} {p' : List Pnt} (h : WH bx w nv k l m b v it u p) (x : Ext u u' w w') (ho : OwnP w' (bx + 1) u' p') : WH bx (w'.setCell ⟨bx, 3, none⟩ u') nv k l m b v it u' p' ∧ Below bx w (w'.setCell ⟨bx, 3, none⟩ u') := by
 have hb := h.lt
 have e0 := fun o => Ext.cell x hb h.neu o
 have e : ∀ o, o ≠ 3 → (w'.setCell ⟨bx, 3, none⟩ u').cell? ⟨bx, o, none⟩ = w.cell? ⟨bx, o, none⟩ := fun o ho => by
  rw [World.cell?_setCell_other _ _ _ _ (fun e => by injection e; omega)]; exact e0 o
 refine ⟨⟨(e _ (by decide)).trans h.c0, (e _ (by decide)).trans h.c1, (e _ (by decide)).trans h.c2, World.cell?_setCell_same w' ⟨bx, 3, none⟩ _ ((e0 3).trans h.c3), (e _ (by decide)).trans h.c4, (e _ (by decide)).trans h.c5, (e _ (by decide)).trans h.c6, fun o => ?_, (h.d.pput x ho).far bx 3 u' (by omega)⟩, ?_⟩
 ·rw [World.frozen?_setCell]; exact (World.frozen?_of_block (w := w) (a := ⟨bx, o, none⟩) (x.1.block bx hb (fun e => h.neu e.symm))).trans (h.free o)
 ·exact (x.below (fun g e => Nat.le_of_succ_le (OwnQ.lt h.d.pt g e).1) (by omega)).setCell (Nat.le_refl _) _
structure WM (bx : Nat) (w : World) (nv : Value) (k l m b : Int) (v : Value) (it : Its) (u : Value) : Prop where
 c0 : w.cell? ⟨bx, 0, none⟩ = some nv
 c1 : w.cell? ⟨bx, 1, none⟩ = some (.int .i64 k)
 c2 : w.cell? ⟨bx, 2, none⟩ = some (.int .i64 l)
 c3 : w.cell? ⟨bx, 3, none⟩ = some u
 c4 : w.cell? ⟨bx, 4, none⟩ = some v
 c5 : w.cell? ⟨bx, 5, none⟩ = some (.int .i64 m)
 c6 : w.cell? ⟨bx, 6, none⟩ = some (.int .i64 b)
 free : ∀ o, w.frozen? ⟨bx, o, none⟩ = false
 d : OwnLn w (bx + 1) v it
theorem WH.wm (h : WH bx w nv k l m b v it u p) : WM bx w nv k l m b v it u := ⟨h.c0, h.c1, h.c2, h.c3, h.c4, h.c5, h.c6, h.free, h.d.ln⟩
theorem WM.lt (h : WM bx w nv k l m b v it u) : bx < w.heap.size := World.block_lt_of_cell? w ⟨bx, 0, none⟩ h.c0
theorem WM.nw (h : WM bx w nv k l m b v it u) (kk : Nw w w') : WM bx w' nv k l m b v it u := by
 have e := fun o => (bcell kk).1 bx o h.lt
 exact ⟨(e _).trans h.c0, (e _).trans h.c1, (e _).trans h.c2, (e _).trans h.c3, (e _).trans h.c4, (e _).trans h.c5, (e _).trans h.c6, fun o => ((bcell kk).2 _ _ h.lt).trans (h.free o), h.d.nw kk⟩
theorem WH.lput {v' : Value} {c : Bool} (h : WH bx w nv k l m b v it u p) (x : Ext v v' w w') (ho : OwnQ 25 w' (bx + 1) v' (vLn (it ++ [(u, ⟨p, c⟩)]))) : WM bx (w'.setCell ⟨bx, 4, none⟩ v') nv k l m b v' (it ++ [(u, ⟨p, c⟩)]) u ∧ Below bx w (w'.setCell ⟨bx, 4, none⟩ v') := by
 have hb := h.lt
 have e0 := fun o => Ext.cell x hb h.nev o
 have e : ∀ o, o ≠ 4 → (w'.setCell ⟨bx, 4, none⟩ v').cell? ⟨bx, o, none⟩ = w.cell? ⟨bx, o, none⟩ := fun o ho => by
  rw [World.cell?_setCell_other _ _ _ _ (fun e => by injection e; omega)]; exact e0 o
 refine ⟨⟨(e _ (by decide)).trans h.c0, (e _ (by decide)).trans h.c1, (e _ (by decide)).trans h.c2, (e _ (by decide)).trans h.c3, World.cell?_setCell_same w' ⟨bx, 4, none⟩ _ ((e0 4).trans h.c4), (e _ (by decide)).trans h.c5, (e _ (by decide)).trans h.c6, fun o => ?_, (h.d.lput ho x).farSet bx 4 v' (by omega)⟩, ?_⟩
 ·rw [World.frozen?_setCell]; exact (World.frozen?_of_block (w := w) (a := ⟨bx, o, none⟩) (x.1.block bx hb (fun e => h.nev e.symm))).trans (h.free o)
 ·exact (x.below (fun g e => Nat.le_of_succ_le (OwnQ.lt h.d.ln.own g e).1) (by omega)).setCell (Nat.le_refl _) _
theorem WM.setM (h : WM bx w nv k l m b v it u) (x : Int) : WM bx (w.setCell ⟨bx, 5, none⟩ (.int .i64 x)) nv k l x b v it u ∧ Below bx w (w.setCell ⟨bx, 5, none⟩ (.int .i64 x)) := by
 have e : ∀ o, o ≠ 5 → (w.setCell ⟨bx, 5, none⟩ (.int .i64 x)).cell? ⟨bx, o, none⟩ = w.cell? ⟨bx, o, none⟩ := fun o ho => World.cell?_setCell_other _ _ _ _ (fun e => by injection e; omega)
 exact ⟨⟨(e _ (by decide)).trans h.c0, (e _ (by decide)).trans h.c1, (e _ (by decide)).trans h.c2, (e _ (by decide)).trans h.c3, (e _ (by decide)).trans h.c4, World.cell?_setCell_same w ⟨bx, 5, none⟩ _ h.c5, (e _ (by decide)).trans h.c6, fun o => by rw [World.frozen?_setCell]; exact h.free o, h.d.farSet bx 5 _ (by omega)⟩, (Below.refl bx w).setCell (p := ⟨bx, 5, none⟩) (Nat.le_refl _) _⟩
theorem WM.drop (h : WM bx w nv k l m b v it u) : WH bx (w.setCell ⟨bx, 3, none⟩ (.slice none 0 0)) nv k l m b v it (.slice none 0 0) [] ∧ Below bx w (w.setCell ⟨bx, 3, none⟩ (.slice none 0 0)) := by
 have e : ∀ o, o ≠ 3 → (w.setCell ⟨bx, 3, none⟩ (.slice none 0 0)).cell? ⟨bx, o, none⟩ = w.cell? ⟨bx, o, none⟩ := fun o ho => World.cell?_setCell_other _ _ _ _ (fun e => by injection e; omega)
 exact ⟨⟨(e _ (by decide)).trans h.c0, (e _ (by decide)).trans h.c1, (e _ (by decide)).trans h.c2, World.cell?_setCell_same w ⟨bx, 3, none⟩ _ h.c3, (e _ (by decide)).trans h.c4, (e _ (by decide)).trans h.c5, (e _ (by decide)).trans h.c6, fun o => by rw [World.frozen?_setCell]; exact h.free o, ⟨h.d.farSet bx 3 _ (by omega), OwnP.nil _ _, Apt.nil _ _⟩⟩, (Below.refl bx w).setCell (p := ⟨bx, 3, none⟩) (Nat.le_refl _) _⟩
theorem WH.fresh (h : WH bx w nv k l m b v it u p) (x y : Int) : WH bx ((w.alloc (.cells #[.int .i64 x, .int .i64 y] 34)).setCell ⟨bx, 3, none⟩ (.slice (some ⟨w.heap.size, 0, none⟩) 1 1)) nv k l m b v it (.slice (some ⟨w.heap.size, 0, none⟩) 1 1) [(x, y)] ∧ Below bx w ((w.alloc (.cells #[.int .i64 x, .int .i64 y] 34)).setCell ⟨bx, 3, none⟩ (.slice (some ⟨w.heap.size, 0, none⟩) 1 1)) := by
 have n1 : Nw w (w.alloc (.cells #[.int .i64 x, .int .i64 y] 34)) := (Below.refl _ _).alloc (Nat.le_refl _) _
 have hb := h.lt
 have h1 := h.nw n1
 have e : ∀ o, o ≠ 3 → ((w.alloc (.cells #[.int .i64 x, .int .i64 y] 34)).setCell ⟨bx, 3, none⟩ (.slice (some ⟨w.heap.size, 0, none⟩) 1 1)).cell? ⟨bx, o, none⟩ = (w.alloc (.cells #[.int .i64 x, .int .i64 y] 34)).cell? ⟨bx, o, none⟩ := fun o ho => World.cell?_setCell_other _ _ _ _ (fun e => by injection e; omega)
 exact ⟨⟨(e _ (by decide)).trans h1.c0, (e _ (by decide)).trans h1.c1, (e _ (by decide)).trans h1.c2, World.cell?_setCell_same _ ⟨bx, 3, none⟩ _ h1.c3, (e _ (by decide)).trans h1.c4, (e _ (by decide)).trans h1.c5, (e _ (by decide)).trans h1.c6, fun o => by rw [World.frozen?_setCell]; exact h1.free o, (h.d.fresh n1 (by omega) (ownp_lit w w.heap.size x y (Nat.le_refl _))).far bx 3 _ (by omega)⟩, (Below.mono n1 (Nat.le_of_lt hb)).setCell (Nat.le_refl _) _⟩
end
def WhS (bx : Nat) (w0 w : World) (K : List (Nat × Int × Int)) (na : Option Addr) (nc : Nat) (ms : List Int) (s : Wk) : Prop := ∃ v it u, WH bx w (.slice na ms.length nc) s.k s.left s.many s.begun v it u s.now ∧ it.map (·.2) = s.out ∧ Nw w0 w ∧ Kb bx w v it u K
section
variable {bx : Nat} {w0 w w' : World} {K K' : List (Nat × Int × Int)} {na : Option Addr} {nc : Nat} {ms : List Int} {s : Wk}
theorem WhS.box (h : WhS bx w0 w K na nc ms s) (x y : Int) (t : TypeId) : WhS bx w0 (w.alloc (.cells #[.int .i64 x, .int .i64 y] t)) ((w.heap.size, x, y) :: K) na nc ms s := by
 obtain ⟨v, it, u, hd, ho, hw, hk⟩ := h
 have n1 : Nw w (w.alloc (.cells #[.int .i64 x, .int .i64 y] t)) := (Below.refl _ _).alloc (Nat.le_refl _) _
 exact ⟨v, it, u, hd.nw n1, ho, Nw.trans hw n1, hk.box hd.lt (fun g e => (OwnQ.lt hd.d.pt g e).2) (fun g e => (OwnQ.lt hd.d.ln.own g e).2) (fun i hi g e => (OwnQ.lt (hd.d.ln.pts i hi) g e).2) x y t⟩
theorem WhS.more (h : WhS bx w0 w K na nc ms s) (k : Nw w w') {g : Nat} (hg : w.heap.size ≤ g) {x y : Int} (c0 : w'.cell? ⟨g, 0, none⟩ = some (.int .i64 x)) (c1 : w'.cell? ⟨g, 1, none⟩ = some (.int .i64 y)) (hf : ∀ o, w'.frozen? ⟨g, o, none⟩ = false) : WhS bx w0 w' ((g, x, y) :: K) na nc ms s := by
 obtain ⟨v, it, u, hd, ho, hw, hk⟩ := h
 refine ⟨v, it, u, hd.nw k, ho, Nw.trans hw k, fun q hq => ?_⟩
 rcases List.mem_cons.1 hq with rfl | hq
 ·exact ⟨c0, c1, hf, by have := hd.lt; show g ≠ bx; omega, fun e => by have := (OwnQ.lt hd.d.pt _ e).2; simp only at this; omega, (fun e => by have := (OwnQ.lt hd.d.ln.own _ e).2; simp only at this; omega), fun i hi e => by have := (OwnQ.lt (hd.d.ln.pts i hi) _ e).2; simp only at this; omega⟩
 ·exact Kb.nw hk k q hq
theorem WhS.sub (h : WhS bx w0 w K na nc ms s) (hs : ∀ k, k ∈ K' → k ∈ K) : WhS bx w0 w K' na nc ms s := by
 obtain ⟨v, it, u, hd, ho, hw, hk⟩ := h
 exact ⟨v, it, u, hd, ho, hw, hk.sub hs⟩
theorem WhS.nw (h : WhS bx w0 w K na nc ms s) (k : Nw w w') : WhS bx w0 w' K na nc ms s := by
 obtain ⟨v, it, u, hd, ho, hw, hk⟩ := h
 exact ⟨v, it, u, hd.nw k, ho, Nw.trans hw k, hk.nw k⟩
theorem WhS.at (h : WhS bx w0 w K na nc ms s) {b : Nat} {x y : Int} (hm : (b, x, y) ∈ K) : w.cell? ⟨b, 0, none⟩ = some (.int .i64 x) ∧ w.cell? ⟨b, 1, none⟩ = some (.int .i64 y) := by
 obtain ⟨v, it, u, hd, ho, hw, hk⟩ := h
 obtain ⟨h1, h2, _⟩ := hk _ hm
 exact ⟨h1, h2⟩
theorem WhS.of {v u : Value} {it : Its} {k l m b : Int} {p : List Pnt} (h : WH bx w (.slice na ms.length nc) k l m b v it u p) (h2 : it.map (·.2) = s.out) (h3 : Nw w0 w) (ha : k = s.k) (hl : l = s.left) (hm : m = s.many) (hb : b = s.begun) (hp : p = s.now) (hk : Kb bx w v it u K) : WhS bx w0 w K na nc ms s := by
 subst ha hl hm hb hp
 exact ⟨v, it, u, h, h2, h3, hk⟩
end
theorem Kb.fresh {bx : Nat} {w : World} {v u : Value} {it : Its} {K : List (Nat × Int × Int)} (h : Kb bx w v it u K) (x y : Int) (t : TypeId) : Kb bx ((w.alloc (.cells #[.int .i64 x, .int .i64 y] t)).setCell ⟨bx, 3, none⟩ (.slice (some ⟨w.heap.size, 0, none⟩) 1 1)) v it (.slice (some ⟨w.heap.size, 0, none⟩) 1 1) K := by
  refine Kb.set (fun q hq => ?_) 3 _
  obtain ⟨h1, h2, h3, h4, h5, h6⟩ := Kb.nw h ((Below.refl _ _).alloc (Nat.le_refl _) (.cells #[.int .i64 x, .int .i64 y] t)) q hq
  have hb : q.1 < w.heap.size := World.block_lt_of_cell? w ⟨q.1, 0, none⟩ (h q hq).1
  exact ⟨h1, h2, h3, h4, fun e => by have : w.heap.size = q.1 := by simpa [Value.ownBlock] using e
                                     omega, h6⟩
theorem WhS.new (w : World) (na : Option Addr) (nc : Nat) (ms : List Int) (x : Int) (t : TypeId) : WhS w.heap.size w (w.alloc (.cells #[.slice na ms.length nc, .int .i64 0, .int .i64 x, .slice none 0 0, .slice none 0 0, .int .i64 0, .int .i64 0] t)) [] na nc ms ⟨0, x, [], [], 0, 0⟩ :=
 ⟨.slice none 0 0, [], .slice none 0 0, ⟨World.cell?_alloc_at _ _ _ _ rfl, World.cell?_alloc_at _ _ _ _ rfl, World.cell?_alloc_at _ _ _ _ rfl, World.cell?_alloc_at _ _ _ _ rfl, World.cell?_alloc_at _ _ _ _ rfl, World.cell?_alloc_at _ _ _ _ rfl, World.cell?_alloc_at _ _ _ _ rfl, fun o => World.frozen?_alloc_at _ _ _ _ rfl, D2.nil _ _⟩, rfl, (Below.refl _ _).alloc (Nat.le_refl _) _, fun q hq => absurd hq (by simp)⟩
structure WB (ms : List Int) (c : Nat) (s : Wk) : Prop where
 hk : s.k < ms.length
 ho : s.out.length ≤ s.begun
 hb : s.begun ≤ 2401
 hm : s.many + s.now.length ≤ 2 * s.begun + c
 h0 : -268435456 * (c : Int) ≤ s.left
 h1 : s.left ≤ 67108864
theorem end_is (s : Wk) : (endW s).k = s.k ∧ (endW s).begun = s.begun ∧ (endW s).left = s.left ∧ (endW s).many ≤ s.many + s.now.length ∧ (endW s).out.length ≤ s.out.length + 1 ∧ (endW s).now = [] := by
 refine ⟨rfl, rfl, rfl, ?_, ?_, rfl⟩
 ·show (if 1 < s.now.length then s.many + s.now.length else s.many) ≤ _
  split <;> omega
 ·show (if _ then _ else _ : List LD).length ≤ _
  split <;> simp
theorem WB.add {ms : List Int} {c : Nat} {s : Wk} (h : WB ms c s) (q : Pnt) : WB ms (c + 1) (addW s q) := by
 unfold addW
 have := h.h0
 split
 ·exact ⟨h.hk, h.ho, h.hb, by show s.many + (s.now ++ [q]).length ≤ _; have := h.hm; simp; omega, by show _ ≤ s.left; omega, h.h1⟩
 ·exact ⟨h.hk, h.ho, h.hb, by have := h.hm; omega, by omega, h.h1⟩
theorem WB.step {ms : List Int} {c : Nat} {s : Wk} (h : WB ms (c + 1) s) (hn : ∀ i, i < ms.length → 0 ≤ intAt ms i ∧ intAt ms i ≤ 67108864) (q : Pnt) (hb : s.begun ≤ 2400) : WB ms c (stepW ms q s) := by
 have hp : 0 < ms.length := by have := h.hk; omega
 have hlt := Nat.mod_lt (s.k + 1) hp
 obtain ⟨n1, n2⟩ := hn _ hlt
 obtain ⟨e1, e2, e3, e4, e5, e6⟩ := end_is s
 have hm := h.hm
 have ho := h.ho
 have hmm : (if s.k % 2 = 0 then endW s else s).many + (if s.k % 2 = 0 then endW s else s).now.length ≤ s.many + s.now.length := by
  split
  ·rw [e6]; simp; omega
  ·omega
 refine ⟨hlt, ?_, by show s.begun + 1 ≤ 2401; omega, ?_, ?_, n2⟩
 ·show (if s.k % 2 = 0 then endW s else s).out.length ≤ s.begun + 1
  split <;> omega
 ·show (if s.k % 2 = 0 then endW s else s).many + (if (s.k + 1) % ms.length % 2 = 0 ∧ 0 < intAt ms ((s.k + 1) % ms.length) then [q] else (if s.k % 2 = 0 then endW s else s).now).length ≤ 2 * (s.begun + 1) + c
  by_cases hc : (s.k + 1) % ms.length % 2 = 0 ∧ 0 < intAt ms ((s.k + 1) % ms.length)
  ·rw [if_pos hc, List.length_singleton]; omega
  ·rw [if_neg hc]; omega
 ·show _ ≤ intAt ms ((s.k + 1) % ms.length); omega
theorem WB.more {ms : List Int} {c : Nat} {s : Wk} (h : WB ms c s) : WB ms (c + 1) s := ⟨h.hk, h.ho, h.hb, by have := h.hm; omega, by have := h.h0; omega, h.h1⟩
theorem WB.next {ms : List Int} {c : Nat} (hn : ∀ i, i < ms.length → 0 ≤ intAt ms i ∧ intAt ms i ≤ 67108864) (q : Pnt) : ∀ (f : Nat) {s : Wk}, WB ms c s → WB ms c (nextW ms q f s)
 | 0, s, h => h
 | f + 1, s, h => by
  rw [nextW]
  split
  ·rename_i hc
   exact WB.next hn q f (WB.step h.more hn q hc.2)
  ·exact h
theorem WB.next1 {ms : List Int} {c : Nat} (hn : ∀ i, i < ms.length → 0 ≤ intAt ms i ∧ intAt ms i ≤ 67108864) (q : Pnt) {s : Wk} (h : WB ms (c + 1) s) (hl : s.left = 0) (hb : s.begun ≤ 2400) : WB ms c (goW ms q s) ∧ s.begun < (goW ms q s).begun := by
 unfold goW
 rw [show 2401 - s.begun = (2400 - s.begun) + 1 by omega, nextW, if_pos ⟨hl, hb⟩]
 refine ⟨WB.next hn q _ (WB.step h hn q hb), ?_⟩
 have : ∀ (f : Nat) (t : Wk), t.begun ≤ (nextW ms q f t).begun := by
  intro f
  induction f with
  | zero => intro t; exact Nat.le_refl _
  | succ f ih =>
   intro t
   rw [nextW]
   split
   ·exact Nat.le_trans (Nat.le_succ _) (ih (stepW ms q t))
   ·exact Nat.le_refl _
 exact Nat.lt_of_lt_of_le (Nat.lt_succ_self _) (this (2400 - s.begun) (stepW ms q s))
set_option maxRecDepth 100000 in
set_option maxHeartbeats 4000000 in
theorem send (w0 w : World) (bx : Nat) (K : List (Nat × Int × Int)) (na : Option Addr) (nc : Nat) (ms : List Int) (s : Wk) (hb0 : w0.heap.size ≤ bx) (hol : s.out.length ≤ 100000) (hml : s.many + s.now.length ≤ 100000) (h : WhS bx w0 w K na nc ms s) :
  Calls Tryz.prog 68 #[.pointer (some ⟨bx, 0, none⟩)] w fun e w' => e = .returned (.tuple #[]) ∧ WhS bx w0 w' K na nc ms (endW s) := by
 obtain ⟨v, it, u, hd, ho, hw, hkb⟩ := h
 obtain ⟨k, left, now, out, many, begun⟩ := s
 simp only at hd ho hol hml
 have HOL : Hid (it.length ≤ 100000) := by show _ ≤ _; rw [← ho, List.length_map] at hol; exact hol
 have HO : Hid (it.map (·.2) = out) := ho
 obtain ⟨ua, uc, hu⟩ := D2.val hd.d
 subst hu
 obtain ⟨va, vc, hv⟩ := D2.vln hd.d
 subst hv
 have HD : Hid (WH bx w (.slice na ms.length nc) k left many begun (.slice va it.length vc) it (.slice ua now.length uc) now) := hd
 have HW : Hid (Nw w0 w) := hw
 have HKB : Hid (Kb bx w (.slice va it.length vc) it (.slice ua now.length uc) K) := hkb
 have HEW : Hid (endW ⟨k, left, now, out, many, begun⟩ = ⟨k, left, [], if 1 < now.length ∧ many + now.length ≤ 600 then out ++ [⟨now, false⟩] else out, if 1 < now.length then many + now.length else many, begun⟩) := rfl
 have n0 : Nw w w.drew := (Below.refl _ _).drew
 have DD : Hid _ := WH.nw hd n0
 clear hkb hd ho hw hol
 generalize hnp : now.length = np at *
 have HNP : Hid (now.length = np) := hnp
 generalize hnn : ms.length = n at *
 have HN : Hid (ms.length = n) := hnn
 generalize hni : it.length = ni at *
 have HNI : Hid (it.length = ni) := hni
 clear hnp hnn hni
 by_cases h1 : 1 < np
 ·have d1 : decide ((1 : Int) < (np : Int)) = true := by simp; omega
  have w1 : IntKind.i64.wrap ((many : Int) + (np : Int)) = (many : Int) + (np : Int) := IntWalk.i64_in _ ⟨by omega, by omega⟩
  by_cases h6 : many + np ≤ 600
  ·have d6 : decide ((many : Int) + (np : Int) ≤ 600) = true := by simp; omega
   have HE2 : Hid (endW ⟨k, left, now, out, many, begun⟩ = ⟨k, left, [], out ++ [⟨now, false⟩], many + np, begun⟩) := by
    show _ = _
    rw [HEW.out, if_pos ⟨h1, h6⟩, if_pos h1]
   clear HEW h6 hml n0
   go_enter Tryz.func68, Tryz.ntmps68
   go_wp2
   refine reg_change (ops' := opsOf 0 Tryz.f68) (by kernel_rfl) ?_
   refine EWB.run ⟨bx, ua, np, uc, many, true, w.drew, _⟩ ⟨DD.out.c3, DD.out.c5, d1, w1, d6, rfl, rfl⟩ w (Kp.refl _) ?_
   intro γ wa ka
   have D1 : Hid _ := WH.nw (WH.nw DD.out (Kp.nw ka)) ((Below.refl _ _).drew)
   have N1 : Hid (Nw w0 wa.drew) := Nw.trans (Nw.trans HW.out (undrew ka).nw) ((Below.refl _ _).drew)
   have KB1 : Hid (Kb bx wa.drew _ it _ K) := Kb.nw (Kb.nw HKB.out (undrew ka).nw) ((Below.refl _ _).drew)
   clear ka DD HKB HW HD
   simp only [Act.put, List.setIfInBounds_toArray, List.set_cons_zero, List.set_cons_succ]
   go_wp2
   refine reg_change (ops' := opsOf 1 Tryz.f68) (by kernel_rfl) ?_
   refine EW1.run ⟨bx, va, ni, vc, it, ua, np, uc, now, wa.drew, _⟩ ⟨D1.out.c4, D1.out.c3, D1.out.free, D1.out.d.ln.own, D1.out.nev, by have := HOL.out; show it.length + 1 ≤ 1000000; rw [HNI.out]; omega, rfl, rfl⟩ wa rfl ?_
   rintro γ w9 ⟨w2, g, cc, g1, o2, x2, hw9⟩
   simp only at g1 o2 x2 hw9
   generalize γ 0 = z0 at *
   generalize γ 1 = v' at *
   obtain ⟨p1, p2⟩ := WH.lput D1.out x2 o2
   rw [← hw9] at p1 p2
   have KB2 : Hid (Kb bx w9 v' (it ++ [(.slice ua np uc, ⟨now, false⟩)]) (.slice ua np uc) K) := by
    show Kb _ _ _ _ _ _
    rw [hw9]; exact Kb.set (Kb.lput KB1.out x2) 4 _
   have N2 : Hid (Nw w0 w9) := Below.trans N1.out (Below.mono p2 hb0)
   have P1 : Hid _ := p1
   have c3 := p1.c3
   clear o2 x2 hw9 p1 p2 D1 N1 KB1
   simp only [Act.put, List.setIfInBounds_toArray, List.set_cons_zero, List.set_cons_succ]
   go_wp2
   have P2 := WM.nw P1.out ((Below.refl _ _).drew : Nw w9 w9.drew)
   refine reg_change (ops' := opsOf 3 Tryz.f68) (by kernel_rfl) ?_
   refine EW3.run ⟨bx, ua, np, uc, many, w9.drew, _⟩ ⟨P2.c3, P2.c5, ⟨_, P2.c5⟩, P2.free, w1, rfl, rfl⟩ w9 rfl ?_
   rintro γ wb hwb
   have hwb2 : wb = w9.drew.setCell ⟨bx, 5, none⟩ (.int .i64 ((many : Int) + (np : Int))) := hwb
   obtain ⟨q1, q2⟩ := WM.setM P2 ((many : Int) + (np : Int))
   rw [← hwb2] at q1 q2
   obtain ⟨r1, r2⟩ := WM.drop q1
   have R1 : Hid _ := r1
   have N3 : Hid (Nw w0 (wb.setCell ⟨bx, 3, none⟩ (.slice none 0 0))) := Below.trans (Below.trans (Nw.trans N2.out ((Below.refl _ _).drew)) (Below.mono q2 hb0)) (Below.mono r2 hb0)
   have KB3 : Hid (Kb bx (wb.setCell ⟨bx, 3, none⟩ (.slice none 0 0)) v' (it ++ [(.slice ua np uc, ⟨now, false⟩)]) (.slice none 0 0) K) := by
    show Kb _ _ _ _ _ _
    rw [hwb2]; exact Kb.drop (Kb.set (Kb.set (Kb.nw KB2.out ((Below.refl _ _).drew)) 5 _) 3 _)
   have s3 := q1.c3
   have sf := q1.free
   clear P1 P2 c3 N2 KB2 q1 q2 r1 r2 hwb hwb2
   simp only [Act.put, List.setIfInBounds_toArray, List.set_cons_zero, List.set_cons_succ]
   go_wp2
   go_end0
   refine ⟨rfl, ?_⟩
   rw [HE2.out]
   exact WhS.of (by rw [HN.out]; exact R1.out) (by show _ = out ++ [⟨now, false⟩]; rw [← HO.out]; simp) N3.out rfl rfl (by show _ = (((many + np : Nat)) : Int); omega) rfl rfl KB3.out
  ·have d6 : decide ((many : Int) + (np : Int) ≤ 600) = false := by simp; omega
   have HE2 : Hid (endW ⟨k, left, now, out, many, begun⟩ = ⟨k, left, [], out, many + np, begun⟩) := by
    show _ = _
    rw [HEW.out, if_neg (fun e => h6 e.2), if_pos h1]
   clear HEW h6 hml n0
   go_enter Tryz.func68, Tryz.ntmps68
   go_wp2
   refine reg_change (ops' := opsOf 0 Tryz.f68) (by kernel_rfl) ?_
   refine EWB.run ⟨bx, ua, np, uc, many, false, w.drew, _⟩ ⟨DD.out.c3, DD.out.c5, d1, w1, d6, rfl, rfl⟩ w (Kp.refl _) ?_
   intro γ wa ka
   have D1 := WH.nw DD.out (Kp.nw ka)
   have P1 : Hid _ := WH.nw D1 ((Below.refl _ _).drew : Nw wa wa.drew)
   have N1 : Hid (Nw w0 wa.drew) := Nw.trans (Nw.trans HW.out (undrew ka).nw) ((Below.refl _ _).drew)
   have KB1 : Hid (Kb bx wa.drew _ it _ K) := Kb.nw (Kb.nw HKB.out (undrew ka).nw) ((Below.refl _ _).drew)
   have c3 := D1.c3
   clear ka DD HKB HW HD D1
   simp only [Act.put, List.setIfInBounds_toArray, List.set_cons_zero, List.set_cons_succ]
   go_wp2
   refine reg_change (ops' := opsOf 3 Tryz.f68) (by kernel_rfl) ?_
   refine EW3.run ⟨bx, ua, np, uc, many, wa.drew, _⟩ ⟨P1.out.c3, P1.out.c5, ⟨_, P1.out.c5⟩, P1.out.free, w1, rfl, rfl⟩ wa rfl ?_
   rintro γ wb hwb
   have hwb2 : wb = wa.drew.setCell ⟨bx, 5, none⟩ (.int .i64 ((many : Int) + (np : Int))) := hwb
   obtain ⟨q1, q2⟩ := WM.setM P1.out.wm ((many : Int) + (np : Int))
   rw [← hwb2] at q1 q2
   obtain ⟨r1, r2⟩ := WM.drop q1
   have R1 : Hid _ := r1
   have N3 : Hid (Nw w0 (wb.setCell ⟨bx, 3, none⟩ (.slice none 0 0))) := Below.trans (Below.trans N1.out (Below.mono q2 hb0)) (Below.mono r2 hb0)
   have KB3 : Hid (Kb bx (wb.setCell ⟨bx, 3, none⟩ (.slice none 0 0)) (.slice va ni vc) it (.slice none 0 0) K) := by
    show Kb _ _ _ _ _ _
    rw [hwb2]; exact Kb.drop (Kb.set (Kb.set KB1.out 5 _) 3 _)
   have s3 := q1.c3
   have sf := q1.free
   clear P1 c3 N1 KB1 q1 q2 r1 r2 hwb hwb2
   simp only [Act.put, List.setIfInBounds_toArray, List.set_cons_zero, List.set_cons_succ]
   go_wp2
   go_end0
   refine ⟨rfl, ?_⟩
   rw [HE2.out]
   exact WhS.of (by rw [HN.out]; exact R1.out) HO.out N3.out rfl rfl (by show _ = (((many + np : Nat)) : Int); omega) rfl rfl KB3.out
 ·have d1 : decide ((1 : Int) < (np : Int)) = false := by simp; omega
  have HE2 : Hid (endW ⟨k, left, now, out, many, begun⟩ = ⟨k, left, [], out, many, begun⟩) := by
   show _ = _
   rw [HEW.out, if_neg (fun e => h1 e.1), if_neg h1]
  clear HEW hml n0 h1
  go_enter Tryz.func68, Tryz.ntmps68
  go_wp2
  refine reg_change (ops' := opsOf 0 Tryz.f68) (by kernel_rfl) ?_
  refine EWA.run ⟨bx, ua, np, uc, many, w.drew, _⟩ ⟨DD.out.c3, d1, rfl, rfl⟩ w (Kp.refl _) ?_
  intro γ wa ka
  have D1 := WH.nw DD.out (Kp.nw ka)
  have N1 : Hid (Nw w0 wa) := Nw.trans HW.out (undrew ka).nw
  have KB1 : Hid (Kb bx wa _ it _ K) := Kb.nw HKB.out (undrew ka).nw
  obtain ⟨r1, r2⟩ := WM.drop D1.wm
  have R1 : Hid _ := r1
  have N3 : Hid (Nw w0 (wa.setCell ⟨bx, 3, none⟩ (.slice none 0 0))) := Below.trans N1.out (Below.mono r2 hb0)
  have KB3 : Hid (Kb bx (wa.setCell ⟨bx, 3, none⟩ (.slice none 0 0)) (.slice va ni vc) it (.slice none 0 0) K) := Kb.drop (Kb.set KB1.out 3 _)
  have c3 := D1.c3
  have sf := D1.free
  clear ka DD HKB HW HD D1 r1 r2
  simp only [Act.put, List.setIfInBounds_toArray, List.set_cons_zero, List.set_cons_succ]
  go_wp2
  go_end0
  refine ⟨rfl, ?_⟩
  rw [HE2.out]
  exact WhS.of (by rw [HN.out]; exact R1.out) HO.out N3.out rfl rfl rfl rfl rfl KB3.out
theorem mod2_int (k : Nat) : ((k : Int)).tmod 2 = ((k % 2 : Nat) : Int) := by
 rw [Int.tmod_eq_emod_of_nonneg (by omega)]; omega
theorem LayPt.last {w : World} {g n : Nat} {l : List Pnt} (h : LayPt w g l n) (hn : n = l.length) (h0 : 0 < n) : w.cell? ⟨g, (n - 1) * 2, none⟩ = some (.int .i64 (lastP l).1) ∧ w.cell? ⟨g, (n - 1) * 2 + 1, none⟩ = some (.int .i64 (lastP l).2) := by
 subst hn
 unfold lastP
 exact h.2.1 (l.length - 1) (by omega)
set_option maxRecDepth 100000 in
set_option maxHeartbeats 4000000 in
theorem sadd (w0 w : World) (bx : Nat) (K : List (Nat × Int × Int)) (na : Option Addr) (nc : Nat) (ms : List Int) (s : Wk) (x y : Int) (hb0 : w0.heap.size ≤ bx) (hpl : s.now.length ≤ 100000) (h : WhS bx w0 w K na nc ms s) :
  Calls Tryz.prog 87 #[.pointer (some ⟨bx, 0, none⟩), .agg #[.int .i64 x, .int .i64 y]] w fun e w' => e = .returned (.tuple #[]) ∧ WhS bx w0 w' K na nc ms (addW s (x, y)) := by
 obtain ⟨k, left, now, out, many, begun⟩ := s
 simp only at hpl
 have hbx := WhS.box h x y 34
 obtain ⟨bq, hbq⟩ : ∃ bq, w.heap.size = bq := ⟨_, rfl⟩
 obtain ⟨W2, hW2⟩ : ∃ W2, w.alloc (.cells #[.int .i64 x, .int .i64 y] 34) = W2 := ⟨_, rfl⟩
 rw [hbq, hW2] at hbx
 have H2 : Hid (WhS bx w0 W2.drew ((bq, x, y) :: K) na nc ms ⟨k, left, now, out, many, begun⟩) := WhS.nw hbx ((Below.refl _ _).drew)
 have HW2 : Hid (_ = W2) := hW2
 have HBQ : Hid (w.heap.size = bq) := hbq
 have hrm := mod2_int k
 clear h hbx hW2 hbq
 obtain ⟨q0, q1⟩ := WhS.at H2.out (b := bq) (x := x) (y := y) (by simp)
 obtain ⟨v, it, u, hd, ho, hw, hkb⟩ := H2.out
 simp only at hd ho
 have HO : Hid (it.map (·.2) = out) := ho
 obtain ⟨ua, uc, hu⟩ := D2.val hd.d
 subst hu
 have HD : Hid _ := hd
 have HW : Hid (Nw w0 W2.drew) := hw
 have HKB : Hid (Kb bx W2.drew v it (.slice ua now.length uc) ((bq, x, y) :: K)) := hkb
 have KS : Hid (∀ q, q ∈ K → q ∈ (bq, x, y) :: K) := fun q hq => List.mem_cons_of_mem _ hq
 clear hw hkb ho
 by_cases hk : k % 2 = 0
 ·have hr : (((k % 2 : Nat) : Int) == 0) = true := by rw [hk]; rfl
  by_cases hn : now.length = 0
  ·obtain rfl : now = [] := List.eq_nil_of_length_eq_zero hn
   have HA : Hid (addW ⟨k, left, [], out, many, begun⟩ (x, y) = ⟨k, left, [(x, y)], out, many, begun⟩) := by
    show _ = _
    unfold addW addB
    simp [hk]
   have c3 := hd.c3
   simp only [List.length_nil] at c3 hd HD HKB
   have c1 := hd.c1
   clear hn hk hd
   go_enter Tryz.func87, Tryz.ntmps87
   go_wp2
   rw [HW2.out, HBQ.out]
   refine reg_change (ops' := opsOf 1 Tryz.f87) (by kernel_rfl) ?_
   refine AWB.run ⟨bx, bq, x, y, k, ((k % 2 : Nat) : Int), ua, uc, W2.drew, _⟩ ⟨c1, c3, hrm, hr, rfl, rfl, rfl⟩ W2 (Kp.refl _) ?_
   intro γ wa ka
   have na2 : Nw W2.drew wa.drew := Nw.trans (Kp.nw ka) ((Below.refl _ _).drew)
   have D1 := WH.nw HD.out na2
   obtain ⟨y0, y1⟩ := WhS.at (WhS.nw H2.out na2) (b := bq) (x := x) (y := y) (by simp)
   have D1H : Hid _ := D1
   have N1 : Hid (Nw w0 wa.drew) := Nw.trans HW.out na2
   have KB1 : Hid (Kb bx wa.drew v it (.slice ua 0 uc) ((bq, x, y) :: K)) := Kb.nw HKB.out na2
   clear ka na2 c1 c3 q0 q1 D1
   simp only [Act.put, List.setIfInBounds_toArray, List.set_cons_zero, List.set_cons_succ]
   go_wp2
   refine reg_change (ops' := opsOf 2 Tryz.f87) (by kernel_rfl) ?_
   refine AW2.run ⟨bx, bq, x, y, ua, 0, uc, [], wa.drew, _⟩ ⟨D1H.out.c3, y0, y1, D1H.out.free, D1H.out.d.pt, D1H.out.neu, by simp, rfl, rfl, rfl⟩ wa rfl ?_
   rintro γ w9 ⟨w2, g2, cc2, g1, o2, x2, hw9⟩
   simp only at g1 o2 x2 hw9
   generalize γ 0 = z0 at *
   generalize γ 1 = u' at *
   obtain ⟨p1, p2⟩ := WH.pput D1H.out x2 o2
   rw [← hw9] at p1 p2
   have KB2 : Hid (Kb bx w9 v it u' K) := by
    show Kb _ _ _ _ _ _
    rw [hw9]; exact Kb.set (Kb.pput (Kb.sub KB1.out KS.out) x2) 3 _
   have N2 : Hid (Nw w0 w9) := Below.trans N1.out (Below.mono p2 hb0)
   have P1 : Hid _ := p1
   clear o2 x2 hw9 p1 p2 D1H N1 KB1 y0 y1
   simp only [Act.put, List.setIfInBounds_toArray, List.set_cons_zero, List.set_cons_succ]
   go_wp2
   go_end0
   refine ⟨rfl, ?_⟩
   rw [HA.out]
   exact WhS.of P1.out HO.out N2.out rfl rfl rfl rfl rfl KB2.out
  ·by_cases hl : lastP now = (x, y)
   ·have HA : Hid (addW ⟨k, left, now, out, many, begun⟩ (x, y) = ⟨k, left, now, out, many, begun⟩) := by
     show _ = _
     unfold addW addB
     simp [hn, hl]
    obtain ⟨g, cc, hu, hg, hlay⟩ : ∃ g c, Value.slice ua now.length uc = .slice (some ⟨g, 0, none⟩) now.length c ∧ bx + 1 ≤ g ∧ LayPt W2.drew g now now.length := by
     rcases OwnP.lay hd.d.pt with ⟨_, e⟩ | e
     ·rw [e] at hn; simp at hn
     ·exact e
    injection hu with hu1 hu2 hu3
    subst hu1
    obtain ⟨l0, l1⟩ := LayPt.last hlay rfl (by omega)
    rw [hl] at l0 l1
    have c1 := hd.c1
    have c3 := hd.c3
    have h0 : (((now.length : Nat) : Int) == 0) = false := by simp; intro e; exact hn (by simp [e])
    have wm : IntKind.i64.wrap ((now.length : Int) - 1) = ((now.length - 1 : Nat) : Int) := by rw [IntWalk.i64_in _ ⟨by omega, by omega⟩]; omega
    have hm : now.length - 1 < now.length := by omega
    clear hk hd hlay hl hg hu2 hu3 cc
    generalize hnp : now.length = np at *
    generalize np - 1 = m at *
    clear hnp
    go_enter Tryz.func87, Tryz.ntmps87
    go_wp2
    rw [HW2.out, HBQ.out]
    refine reg_change (ops' := opsOf 1 Tryz.f87) (by kernel_rfl) ?_
    refine AWC.run ⟨bx, bq, x, y, k, ((k % 2 : Nat) : Int), g, np, m, uc, W2.drew, _⟩ ⟨c1, c3, q0, q1, hrm, hr, h0, wm, hm, l0, l1, rfl, rfl, rfl⟩ W2 (Kp.refl _) ?_
    intro γ wa ka
    have E : Hid (WhS bx w0 wa K na nc ms ⟨k, left, now, out, many, begun⟩) := WhS.sub (WhS.nw H2.out (Kp.nw ka)) KS.out
    clear ka c1 c3 q0 q1 l0 l1
    simp only [Act.put, List.setIfInBounds_toArray, List.set_cons_zero, List.set_cons_succ]
    go_wp2
    go_end0
    exact ⟨rfl, by rw [HA.out]; exact E.out⟩
   ·have HA : Hid (addW ⟨k, left, now, out, many, begun⟩ (x, y) = ⟨k, left, now ++ [(x, y)], out, many, begun⟩) := by
     show _ = _
     unfold addW addB
     simp [hk, hl]
    obtain ⟨g, cc, hu, hg, hlay⟩ : ∃ g c, Value.slice ua now.length uc = .slice (some ⟨g, 0, none⟩) now.length c ∧ bx + 1 ≤ g ∧ LayPt W2.drew g now now.length := by
     rcases OwnP.lay hd.d.pt with ⟨_, e⟩ | e
     ·rw [e] at hn; simp at hn
     ·exact e
    injection hu with hu1 hu2 hu3
    subst hu1
    obtain ⟨l0, l1⟩ := LayPt.last hlay rfl (by omega)
    have hv : (lastP now).1 = x → ¬ (lastP now).2 = y := fun e1 e2 => hl (Prod.ext e1 e2)
    have c1 := hd.c1
    have c3 := hd.c3
    have h0 : (((now.length : Nat) : Int) == 0) = false := by simp; intro e; exact hn (by simp [e])
    have wm : IntKind.i64.wrap ((now.length : Int) - 1) = ((now.length - 1 : Nat) : Int) := by rw [IntWalk.i64_in _ ⟨by omega, by omega⟩]; omega
    have hm : now.length - 1 < now.length := by omega
    clear hk hd hlay hl hg hu2 hu3 cc hn
    go_enter Tryz.func87, Tryz.ntmps87
    go_wp2
    rw [HW2.out, HBQ.out]
    refine reg_change (ops' := opsOf 1 Tryz.f87) (by kernel_rfl) ?_
    refine AWD.run ⟨bx, bq, x, y, k, ((k % 2 : Nat) : Int), g, now.length, now.length - 1, uc, (lastP now).1, (lastP now).2, W2.drew, _⟩ ⟨c1, c3, q0, q1, hrm, hr, h0, wm, hm, l0, l1, hv, rfl, rfl, rfl⟩ W2 (Kp.refl _) ?_
    intro γ wa ka
    have na2 : Nw W2.drew wa.drew := Nw.trans (Kp.nw ka) ((Below.refl _ _).drew)
    have D1 := WH.nw HD.out na2
    obtain ⟨y0, y1⟩ := WhS.at (WhS.nw H2.out na2) (b := bq) (x := x) (y := y) (by simp)
    have D1H : Hid _ := D1
    have N1 : Hid (Nw w0 wa.drew) := Nw.trans HW.out na2
    have KB1 : Hid (Kb bx wa.drew v it (.slice (some ⟨g, 0, none⟩) now.length uc) ((bq, x, y) :: K)) := Kb.nw HKB.out na2
    clear ka na2 c1 c3 q0 q1 D1
    simp only [Act.put, List.setIfInBounds_toArray, List.set_cons_zero, List.set_cons_succ]
    go_wp2
    refine reg_change (ops' := opsOf 2 Tryz.f87) (by kernel_rfl) ?_
    refine AW2.run ⟨bx, bq, x, y, (some ⟨g, 0, none⟩), now.length, uc, now, wa.drew, _⟩ ⟨D1H.out.c3, y0, y1, D1H.out.free, D1H.out.d.pt, D1H.out.neu, by show now.length + 1 ≤ 1000000; omega, rfl, rfl, rfl⟩ wa rfl ?_
    rintro γ w9 ⟨w2, g2, cc2, g1, o2, x2, hw9⟩
    simp only at g1 o2 x2 hw9
    generalize γ 0 = z0 at *
    generalize γ 1 = u' at *
    obtain ⟨p1, p2⟩ := WH.pput D1H.out x2 o2
    rw [← hw9] at p1 p2
    have KB2 : Hid (Kb bx w9 v it u' K) := by
     show Kb _ _ _ _ _ _
     rw [hw9]; exact Kb.set (Kb.pput (Kb.sub KB1.out KS.out) x2) 3 _
    have N2 : Hid (Nw w0 w9) := Below.trans N1.out (Below.mono p2 hb0)
    have P1 : Hid _ := p1
    clear o2 x2 hw9 p1 p2 D1H N1 KB1 y0 y1
    simp only [Act.put, List.setIfInBounds_toArray, List.set_cons_zero, List.set_cons_succ]
    go_wp2
    go_end0
    refine ⟨rfl, ?_⟩
    rw [HA.out]
    exact WhS.of P1.out HO.out N2.out rfl rfl rfl rfl rfl KB2.out
 ·have hr : (((k % 2 : Nat) : Int) == 0) = false := by
   have : k % 2 = 1 := by omega
   rw [this]; rfl
  have HA : Hid (addW ⟨k, left, now, out, many, begun⟩ (x, y) = ⟨k, left, now, out, many, begun⟩) := by
   show _ = _
   unfold addW addB
   simp [hk]
  have c1 := hd.c1
  clear hk hd
  go_enter Tryz.func87, Tryz.ntmps87
  go_wp2
  rw [HW2.out, HBQ.out]
  refine reg_change (ops' := opsOf 1 Tryz.f87) (by kernel_rfl) ?_
  refine AWA.run ⟨bx, bq, x, y, k, ((k % 2 : Nat) : Int), W2.drew, _⟩ ⟨c1, hrm, hr, rfl, rfl, rfl⟩ W2 (Kp.refl _) ?_
  intro γ wa ka
  have E : Hid (WhS bx w0 wa K na nc ms ⟨k, left, now, out, many, begun⟩) := WhS.sub (WhS.nw H2.out (Kp.nw ka)) KS.out
  clear ka c1 q0 q1
  simp only [Act.put, List.setIfInBounds_toArray, List.set_cons_zero, List.set_cons_succ]
  go_wp2
  go_end0
  exact ⟨rfl, by rw [HA.out]; exact E.out⟩
set_option maxRecDepth 100000 in
set_option maxHeartbeats 8000000 in
theorem snext (w0 w : World) (bx : Nat) (K : List (Nat × Int × Int)) (na : Option Addr) (nc : Nat) (ms : List Int) (s : Wk) (x y : Int) (c : Nat) (hb0 : w0.heap.size ≤ bx) (hI : Ints w0 na ms) (hms : ∀ i, i < ms.length → 0 ≤ intAt ms i ∧ intAt ms i ≤ 67108864) (hl : ms.length ≤ 16) (hc : c ≤ 10000) (hwb : WB ms c s) (h : WhS bx w0 w K na nc ms s) :
  Calls Tryz.prog 88 #[.pointer (some ⟨bx, 0, none⟩), .agg #[.int .i64 x, .int .i64 y]] w fun e w' => e = .returned (.tuple #[]) ∧ WhS bx w0 w' K na nc ms (goW ms (x, y) s) := by
 have hbx := WhS.box h x y 34
 obtain ⟨bq, hbq⟩ : ∃ bq, w.heap.size = bq := ⟨_, rfl⟩
 obtain ⟨W2, hW2⟩ : ∃ W2, w.alloc (.cells #[.int .i64 x, .int .i64 y] 34) = W2 := ⟨_, rfl⟩
 rw [hbq, hW2] at hbx
 have H2 : Hid (WhS bx w0 W2 ((bq, x, y) :: K) na nc ms s) := hbx
 have HW2 : Hid (_ = W2) := hW2
 have HBQ : Hid (w.heap.size = bq) := hbq
 have HMS : Hid _ := hms
 have HWB : Hid (WB ms c s) := hwb
 obtain ⟨R, hR⟩ : ∃ R, goW ms (x, y) s = R := ⟨_, rfl⟩
 rw [hR]
 have HR : Hid (nextW ms (x, y) (2401 - s.begun) s = R) := hR
 have hpos : 0 < ms.length := by have := hwb.hk; omega
 have KS : Hid (∀ q, q ∈ K → q ∈ (bq, x, y) :: K) := fun q hq => List.mem_cons_of_mem _ hq
 obtain ⟨nb, no, hna, hcx⟩ : ∃ nb no, na = some ⟨nb, no, none⟩ ∧ ∀ i, i < ms.length → w0.cell? ⟨nb, no + i, none⟩ = some (.int .i64 (intAt ms i)) := by
  rcases hI with hx | ⟨b, off, rfl, _, hc⟩
  ·rw [hx] at hpos; simp at hpos
  ·exact ⟨b, off, rfl, hc⟩
 subst hna
 have HCX : Hid _ := hcx
 clear h hbx hW2 hbq hms hwb hR hI hcx
 generalize hnn : ms.length = n at *
 have HN : Hid (ms.length = n) := hnn
 clear hnn
 go_enter Tryz.func88, Tryz.ntmps88
 go_wp2
 rw [HW2.out, HBQ.out]
 go_loopw [] (fun wr => ∃ s', WhS bx w0 wr ((bq, x, y) :: K) (some ⟨nb, no, none⟩) nc ms s' ∧ WB ms c s' ∧ nextW ms (x, y) (2401 - s'.begun) s' = R) (fun wr => 30000 - (intOf ((wr.cell? ⟨bx, 6, none⟩).getD undef)).toNat)
 case atStart => exact ⟨s, H2.out, HWB.out, HR.out⟩
 case round =>
  obtain ⟨⟨k, left, now, out, many, begun⟩, hd', hwb', hr'⟩ := hrel
  have HD : Hid (WhS bx w0 wr ((bq, x, y) :: K) (some ⟨nb, no, none⟩) nc ms ⟨k, left, now, out, many, begun⟩) := hd'
  have HB' : Hid (WB ms c ⟨k, left, now, out, many, begun⟩) := hwb'
  have HR' : Hid (nextW ms (x, y) (2401 - begun) ⟨k, left, now, out, many, begun⟩ = R) := hr'
  have hk : k < n := by have := hwb'.hk; rw [HN.out] at this; exact this
  have hbg : begun ≤ 2401 := hwb'.hb
  obtain ⟨v, it, u, dh, _, _, _⟩ := hd'
  have c1 := dh.c1
  have c2 := dh.c2
  have c6 := dh.c6
  have fr := dh.free
  simp only at c1 c2 c6
  have HC6 : Hid _ := c6
  clear hwb' hr' dh
  by_cases hz : left = 0
  ·subst hz
   by_cases hb4 : begun ≤ 2400
   ·have db : decide ((begun : Int) ≤ 2400) = true := by simp; omega
    have HSR : Hid (nextW ms (x, y) (2401 - (begun + 1)) (stepW ms (x, y) ⟨k, 0, now, out, many, begun⟩) = R) := by
     show _ = _
     rw [← HR'.out, show 2401 - begun = (2401 - (begun + 1)) + 1 by omega, nextW, if_pos ⟨rfl, hb4⟩]
    obtain ⟨m, hm⟩ : ∃ m, (k + 1) % n = m := ⟨_, rfl⟩
    have hmn : m < n := by rw [← hm]; exact Nat.mod_lt _ hpos
    have rm : (((k : Int)) + 1).tmod (n : Int) = (m : Int) := by
     rw [show ((k : Int) + 1) = ((k + 1 : Nat) : Int) by omega, Int.tmod_eq_emod_of_nonneg (by omega), ← hm]
     exact (Int.natCast_emod _ _).symm
    obtain ⟨L, hL⟩ : ∃ L, intAt ms m = L := ⟨_, rfl⟩
    have hLb := HMS.out m hmn
    rw [hL] at hLb
    have HCL : Hid (w0.cell? ⟨nb, no + m, none⟩ = some (.int .i64 L)) := by rw [← hL]; exact HCX.out m hmn
    have HST : Hid (stepW ms (x, y) ⟨k, 0, now, out, many, begun⟩ = ⟨m, L, if m % 2 = 0 ∧ 0 < L then [(x, y)] else (if k % 2 = 0 then endW ⟨k, 0, now, out, many, begun⟩ else ⟨k, 0, now, out, many, begun⟩).now, (if k % 2 = 0 then endW ⟨k, 0, now, out, many, begun⟩ else ⟨k, 0, now, out, many, begun⟩).out, (if k % 2 = 0 then endW ⟨k, 0, now, out, many, begun⟩ else ⟨k, 0, now, out, many, begun⟩).many, begun + 1⟩) := by
     show _ = _
     unfold stepW
     simp only [HN.out, hm, hL]
    have HWS : Hid (WB ms c (stepW ms (x, y) ⟨k, 0, now, out, many, begun⟩)) := WB.step HB'.out.more (by rw [HN.out]; exact HMS.out) (x, y) hb4
    have w1 : IntKind.i64.wrap ((k : Int) + 1) = (k : Int) + 1 := IntWalk.i64_in _ ⟨by omega, by omega⟩
    clear hm hL HR'
    by_cases hk2 : k % 2 = 0
    ·have hkt : ((k : Int) % 2 == 0) = true := by
      have : (k : Int) % 2 = 0 := by omega
      rw [this]; rfl
     have HEND : Hid _ := send w0 wr bx ((bq, x, y) :: K) (some ⟨nb, no, none⟩) nc ms ⟨k, 0, now, out, many, begun⟩ hb0 (by have := HB'.out.ho; have : out.length ≤ begun := this; show out.length ≤ _; omega) (by have := HB'.out.hm; have : many + now.length ≤ 2 * begun + c := this; show many + now.length ≤ _; omega) HD.out
     rw [if_pos hk2] at HST
     clear hk2
     go_wp2_with fail
     refine Calls.mono HEND.out ?_
     rintro e w4 ⟨rfl, h4⟩
     have E4 : Hid (WhS bx w0 w4 ((bq, x, y) :: K) (some ⟨nb, no, none⟩) nc ms (endW ⟨k, 0, now, out, many, begun⟩)) := h4
     obtain ⟨e1, e2, e3, _, _, _⟩ := end_is ⟨k, 0, now, out, many, begun⟩
     have HEQ : Hid (endW ⟨k, 0, now, out, many, begun⟩ = ⟨k, 0, (endW ⟨k, 0, now, out, many, begun⟩).now, (endW ⟨k, 0, now, out, many, begun⟩).out, (endW ⟨k, 0, now, out, many, begun⟩).many, begun⟩) := rfl
     generalize hN4 : (endW ⟨k, 0, now, out, many, begun⟩).now = now4 at *
     generalize hO4 : (endW ⟨k, 0, now, out, many, begun⟩).out = out4 at *
     generalize hM4 : (endW ⟨k, 0, now, out, many, begun⟩).many = many4 at *
     rw [HEQ.out] at E4
     clear h4 HEND HD e1 e2 e3 c1 c2 c6 fr HEQ hN4 hO4 hM4
     obtain ⟨v4, it4, u4, hd4, ho4, hw4, hkb4⟩ := E4.out
     simp only at hd4 ho4
     have HO4 : Hid (it4.map (·.2) = out4) := ho4
     obtain ⟨s1, s2⟩ := hd4.setB ((begun : Int) + 1)
     have d6 := hd4.c6
     have f4 := hd4.free
     obtain ⟨W5, hW5⟩ : ∃ W5, w4.setCell ⟨bx, 6, none⟩ (.int .i64 ((begun : Int) + 1)) = W5 := ⟨_, rfl⟩
     rw [hW5] at s1 s2
     have HW5 : Hid (_ = W5) := hW5
     have n5 : Nw W5 W5.drew := (Below.refl _ _).drew
     have S5 : Hid _ := WH.nw s1 n5
     have N5 : Hid (Nw w0 W5.drew) := Nw.trans (Below.trans hw4 (Below.mono s2 hb0)) n5
     have KB5 : Hid (Kb bx W5.drew v4 it4 u4 ((bq, x, y) :: K)) := by
      have := Kb.set hkb4 6 (.int .i64 ((begun : Int) + 1))
      rw [hW5] at this
      exact Kb.nw this n5
     clear hd4 ho4 hw4 hkb4 s1 s2 hW5 n5
     go_wp2
     rw [HW5.out]
     refine reg_change (ops' := opsOf 5 Tryz.f88) (by kernel_rfl) ?_
     refine NW5.run ⟨bx, nb, no, n, nc, k, m, W5.drew, _⟩ ⟨by have := S5.out.c0; rw [HN.out] at this; exact this, S5.out.c1, w1, rm, by show n ≠ 0; omega, ⟨_, S5.out.c1⟩, S5.out.free, rfl, rfl⟩ W5 rfl ?_
     rintro γ w6 hw6
     have hw6' : w6 = W5.drew.setCell ⟨bx, 1, none⟩ (.int .i64 (m : Int)) := hw6
     obtain ⟨t1, t2⟩ := WH.setK S5.out (m : Int)
     rw [← hw6'] at t1 t2
     have n6 : Nw w6 w6.drew := (Below.refl _ _).drew
     have S6 : Hid _ := WH.nw t1 n6
     have N6 : Hid (Nw w0 w6.drew) := Nw.trans (Below.trans N5.out (Below.mono t2 hb0)) n6
     have KB6 : Hid (Kb bx w6.drew v4 it4 u4 ((bq, x, y) :: K)) := by
      have := Kb.set KB5.out 1 (.int .i64 (m : Int))
      rw [← hw6'] at this
      exact Kb.nw this n6
     have CX6 : Hid (w6.drew.cell? ⟨nb, no + m, none⟩ = some (.int .i64 L)) := ((bcell N6.out).1 _ _ (World.block_lt_of_cell? w0 ⟨nb, no + m, none⟩ HCL.out)).trans HCL.out
     clear d6 f4 HW5 S5 N5 KB5 hw6 hw6' t1 t2 n6
     simp only [Act.put, List.setIfInBounds_toArray, List.set_cons_zero, List.set_cons_succ]
     go_wp2
     refine reg_change (ops' := opsOf 6 Tryz.f88) (by kernel_rfl) ?_
     refine NW6.run ⟨bx, nb, no, n, nc, m, L, w6.drew, _⟩ ⟨by have := S6.out.c0; rw [HN.out] at this; exact this, S6.out.c1, hmn, CX6.out, ⟨_, S6.out.c2⟩, S6.out.free, rfl, rfl⟩ w6 rfl ?_
     rintro γ w7 hw7
     have hw7' : w7 = w6.drew.setCell ⟨bx, 2, none⟩ (.int .i64 L) := hw7
     obtain ⟨t1, t2⟩ := WH.setL S6.out L
     rw [← hw7'] at t1 t2
     have S7 : Hid _ := t1
     have N7 : Hid (Nw w0 w7) := Below.trans N6.out (Below.mono t2 hb0)
     have KB7 : Hid (Kb bx w7 v4 it4 u4 ((bq, x, y) :: K)) := by
      show Kb _ _ _ _ _ _
      rw [hw7']
      exact Kb.set KB6.out 2 (.int .i64 L)
     have f1 := t1.c1
     have f2 := t1.c2
     have f3 := t1.c3
     have ff := t1.free
     obtain ⟨q0, q1, _⟩ := KB7.out (bq, x, y) (by simp)
     simp only at q0 q1
     clear S6 N6 KB6 CX6 hw7 hw7' t1 t2
     simp only [Act.put, List.setIfInBounds_toArray, List.set_cons_zero, List.set_cons_succ]
     by_cases hm2 : m % 2 = 0
     ·have hmq : (m : Int) % 2 = 0 := by omega
      have hmt : ((m : Int) % 2 == 0) = true := by rw [hmq]; rfl
      by_cases hL0 : 0 < L
      ·have dL : decide (0 < L) = true := decide_eq_true hL0
       rw [if_pos ⟨hm2, hL0⟩] at HST
       rw [HST.out] at HWS HSR
       clear hm2 hL0
       obtain ⟨p1, p2⟩ := WH.fresh S7.out x y
       have P1 : Hid _ := p1
       have NP : Hid _ := Below.trans N7.out (Below.mono p2 hb0)
       have KP : Hid _ := Kb.fresh KB7.out x y 34
       have c6' : Hid _ := p1.c6
       have S8 := WH.nw S7.out ((Below.refl _ _).alloc (Nat.le_refl _) _ : Nw w7 (w7.alloc (.cells #[.int .i64 x, .int .i64 y] 34)))
       have g3 := S8.c3
       have gf := S8.free
       clear p1 p2 S8 f3 ff
       go_wp2
       go_roundw
       case rel => exact ⟨⟨m, L, _, out4, many4, begun + 1⟩, WhS.of P1.out HO4.out NP.out rfl rfl rfl (by show (begun : Int) + 1 = ((begun + 1 : Nat) : Int); omega) rfl KP.out, HWS.out, HSR.out⟩
       case measure => rw [c6'.out, HC6.out]; simp [intOf]; omega
      ·have dL : decide (0 < L) = false := decide_eq_false hL0
       rw [if_neg (fun e => hL0 e.2)] at HST
       rw [HST.out] at HWS HSR
       clear hm2 hL0
       have c6' : Hid _ := S7.out.c6
       go_wp2
       go_roundw
       case rel => exact ⟨⟨m, L, _, out4, many4, begun + 1⟩, WhS.of S7.out HO4.out N7.out rfl rfl rfl (by show (begun : Int) + 1 = ((begun + 1 : Nat) : Int); omega) rfl KB7.out, HWS.out, HSR.out⟩
       case measure => rw [c6'.out, HC6.out]; simp [intOf]; omega
     ·have hmq : ¬ (m : Int) % 2 = 0 := by omega
      have hmt : ((m : Int) % 2 == 0) = false := by
       have : (m : Int) % 2 = 1 := by omega
       rw [this]; rfl
      rw [if_neg (fun e => hm2 e.1)] at HST
      rw [HST.out] at HWS HSR
      clear hm2
      have c6' : Hid _ := S7.out.c6
      go_wp2
      go_roundw
      case rel => exact ⟨⟨m, L, _, out4, many4, begun + 1⟩, WhS.of S7.out HO4.out N7.out rfl rfl rfl (by show (begun : Int) + 1 = ((begun + 1 : Nat) : Int); omega) rfl KB7.out, HWS.out, HSR.out⟩
      case measure => rw [c6'.out, HC6.out]; simp [intOf]; omega
    ·have hkt : ((k : Int) % 2 == 0) = false := by
      have : (k : Int) % 2 = 1 := by omega
      rw [this]; rfl
     rw [if_neg hk2] at HST
     simp only at HST
     clear hk2
     have E4 : Hid _ := HD.out
     generalize hw4 : wr = w4 at *
     generalize hN4 : now = now4 at *
     generalize hO4 : out = out4 at *
     generalize hM4 : many = many4 at *
     clear HD
     obtain ⟨v4, it4, u4, hd4, ho4, hw4, hkb4⟩ := E4.out
     simp only at hd4 ho4
     have HO4 : Hid (it4.map (·.2) = out4) := ho4
     obtain ⟨s1, s2⟩ := hd4.setB ((begun : Int) + 1)
     have d6 := hd4.c6
     have f4 := hd4.free
     obtain ⟨W5, hW5⟩ : ∃ W5, w4.setCell ⟨bx, 6, none⟩ (.int .i64 ((begun : Int) + 1)) = W5 := ⟨_, rfl⟩
     rw [hW5] at s1 s2
     have HW5 : Hid (_ = W5) := hW5
     have n5 : Nw W5 W5.drew := (Below.refl _ _).drew
     have S5 : Hid _ := WH.nw s1 n5
     have N5 : Hid (Nw w0 W5.drew) := Nw.trans (Below.trans hw4 (Below.mono s2 hb0)) n5
     have KB5 : Hid (Kb bx W5.drew v4 it4 u4 ((bq, x, y) :: K)) := by
      have := Kb.set hkb4 6 (.int .i64 ((begun : Int) + 1))
      rw [hW5] at this
      exact Kb.nw this n5
     clear hd4 ho4 hw4 hkb4 s1 s2 hW5 n5
     go_wp2
     rw [HW5.out]
     refine reg_change (ops' := opsOf 5 Tryz.f88) (by kernel_rfl) ?_
     refine NW5.run ⟨bx, nb, no, n, nc, k, m, W5.drew, _⟩ ⟨by have := S5.out.c0; rw [HN.out] at this; exact this, S5.out.c1, w1, rm, by show n ≠ 0; omega, ⟨_, S5.out.c1⟩, S5.out.free, rfl, rfl⟩ W5 rfl ?_
     rintro γ w6 hw6
     have hw6' : w6 = W5.drew.setCell ⟨bx, 1, none⟩ (.int .i64 (m : Int)) := hw6
     obtain ⟨t1, t2⟩ := WH.setK S5.out (m : Int)
     rw [← hw6'] at t1 t2
     have n6 : Nw w6 w6.drew := (Below.refl _ _).drew
     have S6 : Hid _ := WH.nw t1 n6
     have N6 : Hid (Nw w0 w6.drew) := Nw.trans (Below.trans N5.out (Below.mono t2 hb0)) n6
     have KB6 : Hid (Kb bx w6.drew v4 it4 u4 ((bq, x, y) :: K)) := by
      have := Kb.set KB5.out 1 (.int .i64 (m : Int))
      rw [← hw6'] at this
      exact Kb.nw this n6
     have CX6 : Hid (w6.drew.cell? ⟨nb, no + m, none⟩ = some (.int .i64 L)) := ((bcell N6.out).1 _ _ (World.block_lt_of_cell? w0 ⟨nb, no + m, none⟩ HCL.out)).trans HCL.out
     clear d6 f4 HW5 S5 N5 KB5 hw6 hw6' t1 t2 n6
     simp only [Act.put, List.setIfInBounds_toArray, List.set_cons_zero, List.set_cons_succ]
     go_wp2
     refine reg_change (ops' := opsOf 6 Tryz.f88) (by kernel_rfl) ?_
     refine NW6.run ⟨bx, nb, no, n, nc, m, L, w6.drew, _⟩ ⟨by have := S6.out.c0; rw [HN.out] at this; exact this, S6.out.c1, hmn, CX6.out, ⟨_, S6.out.c2⟩, S6.out.free, rfl, rfl⟩ w6 rfl ?_
     rintro γ w7 hw7
     have hw7' : w7 = w6.drew.setCell ⟨bx, 2, none⟩ (.int .i64 L) := hw7
     obtain ⟨t1, t2⟩ := WH.setL S6.out L
     rw [← hw7'] at t1 t2
     have S7 : Hid _ := t1
     have N7 : Hid (Nw w0 w7) := Below.trans N6.out (Below.mono t2 hb0)
     have KB7 : Hid (Kb bx w7 v4 it4 u4 ((bq, x, y) :: K)) := by
      show Kb _ _ _ _ _ _
      rw [hw7']
      exact Kb.set KB6.out 2 (.int .i64 L)
     have f1 := t1.c1
     have f2 := t1.c2
     have f3 := t1.c3
     have ff := t1.free
     obtain ⟨q0, q1, _⟩ := KB7.out (bq, x, y) (by simp)
     simp only at q0 q1
     clear S6 N6 KB6 CX6 hw7 hw7' t1 t2
     simp only [Act.put, List.setIfInBounds_toArray, List.set_cons_zero, List.set_cons_succ]
     by_cases hm2 : m % 2 = 0
     ·have hmq : (m : Int) % 2 = 0 := by omega
      have hmt : ((m : Int) % 2 == 0) = true := by rw [hmq]; rfl
      by_cases hL0 : 0 < L
      ·have dL : decide (0 < L) = true := decide_eq_true hL0
       rw [if_pos ⟨hm2, hL0⟩] at HST
       rw [HST.out] at HWS HSR
       clear hm2 hL0
       obtain ⟨p1, p2⟩ := WH.fresh S7.out x y
       have P1 : Hid _ := p1
       have NP : Hid _ := Below.trans N7.out (Below.mono p2 hb0)
       have KP : Hid _ := Kb.fresh KB7.out x y 34
       have c6' : Hid _ := p1.c6
       have S8 := WH.nw S7.out ((Below.refl _ _).alloc (Nat.le_refl _) _ : Nw w7 (w7.alloc (.cells #[.int .i64 x, .int .i64 y] 34)))
       have g3 := S8.c3
       have gf := S8.free
       clear p1 p2 S8 f3 ff
       go_wp2
       go_roundw
       case rel => exact ⟨⟨m, L, _, out4, many4, begun + 1⟩, WhS.of P1.out HO4.out NP.out rfl rfl rfl (by show (begun : Int) + 1 = ((begun + 1 : Nat) : Int); omega) rfl KP.out, HWS.out, HSR.out⟩
       case measure => rw [c6'.out, HC6.out]; simp [intOf]; omega
      ·have dL : decide (0 < L) = false := decide_eq_false hL0
       rw [if_neg (fun e => hL0 e.2)] at HST
       rw [HST.out] at HWS HSR
       clear hm2 hL0
       have c6' : Hid _ := S7.out.c6
       go_wp2
       go_roundw
       case rel => exact ⟨⟨m, L, _, out4, many4, begun + 1⟩, WhS.of S7.out HO4.out N7.out rfl rfl rfl (by show (begun : Int) + 1 = ((begun + 1 : Nat) : Int); omega) rfl KB7.out, HWS.out, HSR.out⟩
       case measure => rw [c6'.out, HC6.out]; simp [intOf]; omega
     ·have hmq : ¬ (m : Int) % 2 = 0 := by omega
      have hmt : ((m : Int) % 2 == 0) = false := by
       have : (m : Int) % 2 = 1 := by omega
       rw [this]; rfl
      rw [if_neg (fun e => hm2 e.1)] at HST
      rw [HST.out] at HWS HSR
      clear hm2
      have c6' : Hid _ := S7.out.c6
      go_wp2
      go_roundw
      case rel => exact ⟨⟨m, L, _, out4, many4, begun + 1⟩, WhS.of S7.out HO4.out N7.out rfl rfl rfl (by show (begun : Int) + 1 = ((begun + 1 : Nat) : Int); omega) rfl KB7.out, HWS.out, HSR.out⟩
      case measure => rw [c6'.out, HC6.out]; simp [intOf]; omega
   ·have db : decide ((begun : Int) ≤ 2400) = false := by simp; omega
    have HRE : Hid (R = ⟨k, 0, now, out, many, begun⟩) := by
     show _ = _
     rw [← HR'.out, show 2401 - begun = 0 by omega]; rfl
    clear hb4
    go_wp2
    go_end0
    exact ⟨rfl, by rw [HRE.out]; exact WhS.sub HD.out KS.out⟩
  ·have dz : (left == 0) = false := by simp; exact hz
   have HRE : Hid (R = ⟨k, left, now, out, many, begun⟩) := by
    show _ = _
    rw [← HR'.out]
    cases 2401 - begun with
    | zero => rfl
    | succ f => rw [nextW, if_neg (fun e => hz e.1)]
   clear hz
   go_wp2
   go_end0
   exact ⟨rfl, by rw [HRE.out]; exact WhS.sub HD.out KS.out⟩
end Go.Proofs.YtfdjjbgcaojcnaaGreat
