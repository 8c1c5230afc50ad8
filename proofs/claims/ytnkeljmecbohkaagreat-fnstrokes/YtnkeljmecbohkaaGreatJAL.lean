/-
  The statements of dashing's next, reach and lay that draw th
-/
import Derived.Test.YtnkeljmecbohkaaGreatJAE
import Derived.Test.YtnkeljmecbohkaaGreatJAF
import Derived.Test.YtnkeljmecbohkaaGreatJAC
import Derived.Test.YtnkeljmecbohkaaGreatJAA
namespace Go.Proofs.YtnkeljmecbohkaaGreat
open Go.ChangeShapes Go.WideShapes Go.ChangeAt Go.RowKit
set_option linter.unusedVariables false
set_option linter.unusedSimpArgs false
structure NXR where
 bx : Nat
 nb : Nat
 no : Nat
 n : Nat
 nc : Nat
 a : Nat
 m : Nat
 x : Int
 W : World
 a0 : Act
structure NXROk (X : NXR) : Prop where
 cn : X.W.cell? ⟨X.bx, 0, none⟩ = some (.slice (some ⟨X.nb, X.no, none⟩) X.n X.nc)
 ca : X.W.cell? ⟨X.bx, 1, none⟩ = some (.int .i64 (X.a : Int))
 rm : (X.a : Int).tmod (X.n : Int) = (X.m : Int)
 hn : X.n ≠ 0
 hm : X.m < X.n
 cx : X.W.cell? ⟨X.nb, X.no + X.m, none⟩ = some (.int .i64 X.x)
 cz : ∃ z, X.W.cell? ⟨X.bx, 2, none⟩ = some (.int .i64 z)
 ff : ∀ o, X.W.frozen? ⟨X.bx, o, none⟩ = false
 e0 : X.a0.eval (.tmp 0) = .pointer (some ⟨X.bx, 0, none⟩)
 sz : X.a0.tmps.size = 28
def NXR.val0 (X : NXR) : Nat → Value
 | 0 => .pointer (some ⟨X.bx, 0, none⟩)
 | 9 => .pointer (some ⟨X.bx, 0, none⟩)
 | 10 => .pointer (some ⟨X.bx, 0, none⟩)
 | 11 => .pointer (some ⟨X.bx, 0, none⟩)
 | 12 => .pointer (some ⟨X.bx, 0, none⟩)
 | 13 => .slice (some ⟨X.nb, X.no, none⟩) X.n X.nc
 | 14 => .pointer (some ⟨X.bx, 0, none⟩)
 | 15 => .pointer (some ⟨X.bx, 0, none⟩)
 | 16 => .pointer (some ⟨X.bx, 1, none⟩)
 | 17 => .int .i64 (X.a : Int)
 | 18 => .pointer (some ⟨X.bx, 0, none⟩)
 | 19 => .pointer (some ⟨X.bx, 0, none⟩)
 | 20 => .pointer (some ⟨X.bx, 0, none⟩)
 | 21 => .slice (some ⟨X.nb, X.no, none⟩) X.n X.nc
 | 22 => .int .i64 (X.n : Int)
 | 23 => .int .i64 (X.m : Int)
 | 24 => .pointer (some ⟨X.nb, X.no + X.m, none⟩)
 | 25 => .int .i64 X.x
 | 26 => .pointer (some ⟨X.bx, 0, none⟩)
 | 27 => .pointer (some ⟨X.bx, 2, none⟩)
 | _ => undef
def NXR.av : Nat → Option Nat
 | _ => none
def NXR.acts : List Nat := [19]
def NXR.Wd (X : NXR) : Nat → (Nat → Value) → World → Prop
  | 0, _, w => w = X.W
  | _, _, w => w = X.W.setCell ⟨X.bx, 2, none⟩ (.int .i64 X.x)
theorem NXR.chain : chainG (opsOf 1 Tryz.f59) NXR.acts = true := by kernel_rfl
theorem NXR.nodup : NXR.acts.Nodup := by decide
def NXR.L : List (Option Nat × Op × Option (Nat × Bool)) := [
 (some 9, .move (.tmp 0), none),
 (some 10, .move (.tmp 0), none),
 (some 11, .nilCheck (.tmp 10), none),
 (some 12, .fieldAddr 67 (.tmp 11) 0, none),
 (some 13, .load 26 (.tmp 12), none),
 (some 14, .move (.tmp 0), none),
 (some 15, .nilCheck (.tmp 14), none),
 (some 16, .fieldAddr 67 (.tmp 15) 1, none),
 (some 17, .load 3 (.tmp 16), none),
 (some 18, .move (.tmp 0), none),
 (some 19, .nilCheck (.tmp 18), none),
 (some 20, .fieldAddr 67 (.tmp 19) 0, none),
 (some 21, .load 26 (.tmp 20), none),
 (some 22, .call { callee := .builtin .len, args := #[(.tmp 21)], argTypes := #[26] }, none),
 (some 23, .binOp .rem 3 (.tmp 17) (.tmp 22) 3, none),
 (some 24, .indexAddr 26 (.tmp 13) (.tmp 23), none),
 (some 25, .load 3 (.tmp 24), none),
 (some 26, .nilCheck (.tmp 9), none),
 (some 27, .fieldAddr 67 (.tmp 26) 2, none),
 (none, .store 3 (.tmp 27) (.tmp 25), none)]
theorem NXR.isL : (opsOf 1 Tryz.f59).toList.map tri = NXR.L := by kernel_rfl
theorem NXR.ini {X : NXR} (ok : NXROk X) : ∀ n ∈ [0], X.a0.eval (.tmp n) = X.val0 n := by
 simp only [List.forall_mem_cons]
 exact ⟨ok.e0, List.forall_mem_nil _⟩
abbrev NXR.St (X : NXR) (Q : PQ) (i : Nat) : Prop := StepG (opsOf 1 Tryz.f59) NXR.acts NXR.av X.val0 X.Wd X.a0 Q i
theorem NXR.plain (X : NXR) (ok : NXROk X) {Q : PQ} : ∀ i ∈ [0, 1, 2, 3, 5, 6, 7, 9, 10, 11, 13, 14, 15, 17, 18], NXR.St X Q i := by
 simp only [List.forall_mem_cons]
 refine ⟨?_, ?_, ?_, ?_, ?_, ?_, ?_, ?_, ?_, ?_, ?_, ?_, ?_, ?_, ?_, List.forall_mem_nil _⟩
 all_goals
  refine st_plain NXR.isL (NXR.ini ok) ok.sz rfl (by kernel_rfl) ?_
  intro γ w n o hW hop
  unfold execOp
  rw [hop]
  simp [envR, valG, NXR.av, NXR.val0, ok.rm, ok.hn, ok.hm, go_sem]
theorem NXR.soon (X : NXR) (ok : NXROk X) {Q : PQ} : ∀ i ∈ [4, 8, 12, 16], NXR.St X Q i := by
 simp only [List.forall_mem_cons]
 refine ⟨?_, ?_, ?_, ?_, List.forall_mem_nil _⟩
 all_goals
  refine st_plainM (m := 0) NXR.isL (NXR.ini ok) ok.sz rfl (by kernel_rfl) ?_
  intro γ w n o hn hW hop
  obtain rfl : n = 0 := by omega
  have hk : w = X.W := hW
  subst hk
  unfold execOp
  rw [hop]
  simp [envR, valG, NXR.av, NXR.val0, ok.cn, ok.ca, ok.cx, go_sem]
theorem NXR.s19 (X : NXR) (ok : NXROk X) {Q : PQ} : NXR.St X Q 19 := by
 intro γ listed a w o hF hC hW h1 ho h2
 obtain ⟨hd, hop, hg⟩ := fieldsL NXR.isL (i := 19) rfl ho
 have e27 : a.eval (.tmp 27) = .pointer (some ⟨X.bx, 2, none⟩) := known hF ho h2 (NXR.ini ok) ok.sz (by kernel_rfl)
 have e25 : a.eval (.tmp 25) = .int .i64 X.x := known hF ho h2 (NXR.ini ok) ok.sz (by kernel_rfl)
 have hu := unl (hF.lt ho) h1
 refine st_actG (k := 0) NXR.chain NXR.nodup rfl hF hC hW h1 ho h2 (Or.inl hd) (injG (by kernel_rfl) hu) hg ?_
 intro hW0 K hK
 have hw0 : w = X.W := hW0
 obtain ⟨z0, f0⟩ := ok.cz
 have ff := ok.ff
 have hr : (execOp a.eval o).run Tryz.prog X.W = .ok .skip (X.W.setCell ⟨X.bx, 2, none⟩ (.int .i64 X.x)) := by
  generalize a.eval = ρ at e25 e27 ⊢
  unfold execOp
  rw [hop]
  simp [e25, e27, f0, ff, go_sem]
 unfold Oper.wp
 rw [hw0, hr]
 exact hK undef _ rfl
theorem NXR.size : (opsOf 1 Tryz.f59).size = 20 := by kernel_rfl
theorem NXR.rest (X : NXR) (ok : NXROk X) {Q : PQ} : ∀ i ∈ [19], NXR.St X Q i := by
 simp only [List.forall_mem_cons]
 exact ⟨NXR.s19 X ok, List.forall_mem_nil _⟩
theorem NXR.steps (X : NXR) (ok : NXROk X) {Q : PQ} (i : Nat) (hi : i < (opsOf 1 Tryz.f59).size) : NXR.St X Q i := by
 rw [NXR.size] at hi
 rcases (by decide : ∀ i, i < 20 → i ∈ [0, 1, 2, 3, 5, 6, 7, 9, 10, 11, 13, 14, 15, 17, 18] ∨ i ∈ [4, 8, 12, 16] ∨ i ∈ [19]) i hi with h | h | h
 · exact NXR.plain X ok i h
 · exact NXR.soon X ok i h
 · exact NXR.rest X ok i h
theorem NXR.run (X : NXR) (ok : NXROk X) {Q : PQ} (w : World) (h0 : X.Wd 0 (fun _ => undef) w.drew) (hend : ∀ (γ : Nat → Value) w', X.Wd 1 γ w' → Q .normal (((((((((((((((((((X.a0.put (some 9) (.pointer (some ⟨X.bx, 0, none⟩))).put (some 10) (.pointer (some ⟨X.bx, 0, none⟩))).put (some 11) (.pointer (some ⟨X.bx, 0, none⟩))).put (some 12) (.pointer (some ⟨X.bx, 0, none⟩))).put (some 13) (.slice (some ⟨X.nb, X.no, none⟩) X.n X.nc)).put (some 14) (.pointer (some ⟨X.bx, 0, none⟩))).put (some 15) (.pointer (some ⟨X.bx, 0, none⟩))).put (some 16) (.pointer (some ⟨X.bx, 1, none⟩))).put (some 17) (.int .i64 (X.a : Int))).put (some 18) (.pointer (some ⟨X.bx, 0, none⟩))).put (some 19) (.pointer (some ⟨X.bx, 0, none⟩))).put (some 20) (.pointer (some ⟨X.bx, 0, none⟩))).put (some 21) (.slice (some ⟨X.nb, X.no, none⟩) X.n X.nc)).put (some 22) (.int .i64 (X.n : Int))).put (some 23) (.int .i64 (X.m : Int))).put (some 24) (.pointer (some ⟨X.nb, X.no + X.m, none⟩))).put (some 25) (.int .i64 X.x)).put (some 26) (.pointer (some ⟨X.bx, 0, none⟩))).put (some 27) (.pointer (some ⟨X.bx, 2, none⟩))) w') : (Code.region 1 (opsOf 1 Tryz.f59) true).wp Tryz.prog Q X.a0 w := by
 refine reg_act (acts := NXR.acts) (av := NXR.av) (val0 := X.val0) (Wd := X.Wd) (by kernel_rfl) (by kernel_rfl) (by rw [NXR.size]; decide) (fun i hi => NXR.steps X ok i hi) _ h0 ?_
 intro γ w' h
 exact end_at (hend γ w' h) (by kernel_rfl)
theorem igap (w : World) (b : Nat) (a : Int) (c1 : w.cell? ⟨b, 1, none⟩ = some (.int .i64 a)) : Calls Tryz.prog 60 #[.pointer (some ⟨b, 0, none⟩)] w fun e w' => e = .returned (.bool (decide (a.tmod 2 = 1))) ∧ w' = w := by
  have hwr : IntKind.i64.wrap (a.tmod 2) = a.tmod 2 := by
    rcases Int.lt_or_le a 0 with h | h
    · rw [tmod_neg_of a 2 h]; exact IntWalk.i64_in _ ⟨by omega, by omega⟩
    · rw [Int.tmod_eq_emod_of_nonneg h]; exact IntWalk.i64_in _ ⟨by omega, by omega⟩
  have hbe : (a.tmod 2 == 1) = decide (a.tmod 2 = 1) := by rw [Bool.eq_iff_iff]; simp
  go_enter Tryz.func60, Tryz.ntmps60
  go_wp2
  go_ret
  exact ⟨by show Ending.returned (.bool (a.tmod 2 == 1)) = _; rw [hbe], rfl⟩
theorem gap_k {W w : World} {b : Nat} {a : Int} {v : Bool} (c1 : W.cell? ⟨b, 1, none⟩ = some (.int .i64 a)) (h : decide (a.tmod 2 = 1) = v) (k : Kp W w) : Calls Tryz.prog 60 #[.pointer (some ⟨b, 0, none⟩)] w fun e w' => e = .returned (.bool v) ∧ Kp w w' := by
  refine Calls.mono (igap w b a (rq_at k c1)) ?_
  rintro e w' ⟨rfl, rfl⟩
  rw [← h]
  exact ⟨rfl, Kp.refl _⟩
structure RCA where
 bx : Nat
 bq : Nat
 x : Int
 y : Int
 a : Int
 W : World
 a0 : Act
structure RCAOk (X : RCA) : Prop where
 q0 : X.W.cell? ⟨X.bq, 0, none⟩ = some (.int .i64 X.x)
 q1 : X.W.cell? ⟨X.bq, 1, none⟩ = some (.int .i64 X.y)
 ca : X.W.cell? ⟨X.bx, 1, none⟩ = some (.int .i64 X.a)
 hg : decide (X.a.tmod 2 = 1) = true
 e0 : X.a0.eval (.tmp 0) = .pointer (some ⟨X.bx, 0, none⟩)
 e3 : X.a0.eval (.tmp 3) = .pointer (some ⟨X.bq, 0, none⟩)
 sz : X.a0.tmps.size = 36
def RCA.val0 (X : RCA) : Nat → Value
 | 0 => .pointer (some ⟨X.bx, 0, none⟩)
 | 3 => .pointer (some ⟨X.bq, 0, none⟩)
 | 4 => .pointer (some ⟨X.bx, 0, none⟩)
 | 5 => .bool true
 | 6 => .bool true
 | 29 => .bool true
 | _ => undef
def RCA.av : Nat → Option Nat
 | _ => none
def RCA.acts : List Nat := []
def RCA.Wd (X : RCA) : Nat → (Nat → Value) → World → Prop
  | _, _, w => Kp X.W w
theorem RCA.kp {X : RCA} {n : Nat} {γ : Nat → Value} {w : World} (h : X.Wd n γ w) : Kp X.W w := h
theorem RCA.keep {X : RCA} {n : Nat} {γ : Nat → Value} {w w' : World} (h : X.Wd n γ w) (k : Kp w w') : X.Wd n γ w' := Kp.trans h k
def RCA.L : List (Option Nat × Op × Option (Nat × Bool)) := [
 (some 4, .move (.tmp 0), none),
 (some 5, .call { callee := .value (.func 60), args := #[(.tmp 4)], argTypes := #[90] }, none),
 (some 6, .move (.tmp 5), none),
 (some 7, .move (.tmp 0), some (2, false)),
 (some 8, .nilCheck (.tmp 7), some (2, false)),
 (some 9, .fieldAddr 67 (.tmp 8) 4, some (2, false)),
 (some 10, .load 64 (.tmp 9), some (2, false)),
 (some 11, .call { callee := .builtin .len, args := #[(.tmp 10)], argTypes := #[64] }, some (2, false)),
 (some 12, .binOp .gtr 3 (.tmp 11) (.const (.int .i64 0)) 3, some (2, false)),
 (some 13, .move (.tmp 12), some (2, false)),
 (some 14, .move (.tmp 0), some (9, true)),
 (some 15, .nilCheck (.tmp 14), some (9, true)),
 (some 16, .fieldAddr 67 (.tmp 15) 4, some (9, true)),
 (some 17, .load 64 (.tmp 16), some (9, true)),
 (some 18, .move (.tmp 0), some (9, true)),
 (some 19, .nilCheck (.tmp 18), some (9, true)),
 (some 20, .fieldAddr 67 (.tmp 19) 4, some (9, true)),
 (some 21, .load 64 (.tmp 20), some (9, true)),
 (some 22, .call { callee := .builtin .len, args := #[(.tmp 21)], argTypes := #[64] }, some (9, true)),
 (some 23, .binOp .sub 3 (.tmp 22) (.const (.int .i64 1)) 3, some (9, true)),
 (some 24, .indexAddr 64 (.tmp 17) (.tmp 23), some (9, true)),
 (some 25, .load 34 (.tmp 24), some (9, true)),
 (some 26, .load 34 (.tmp 3), some (9, true)),
 (some 27, .binOp .eql 34 (.tmp 25) (.tmp 26) 34, some (9, true)),
 (some 28, .pick (.tmp 13) (.tmp 27) (.const (.bool false)), some (2, false)),
 (some 29, .pick (.tmp 6) (.const (.bool true)) (.tmp 28), none)]
theorem RCA.isL : (opsOf 1 Tryz.f32).toList.map tri = RCA.L := by kernel_rfl
theorem RCA.ini {X : RCA} (ok : RCAOk X) : ∀ n ∈ [0, 3], X.a0.eval (.tmp n) = X.val0 n := by
 simp only [List.forall_mem_cons]
 exact ⟨ok.e0, ok.e3, List.forall_mem_nil _⟩
abbrev RCA.St (X : RCA) (Q : PQ) (i : Nat) : Prop := StepG (opsOf 1 Tryz.f32) RCA.acts RCA.av X.val0 X.Wd X.a0 Q i
theorem RCA.plain (X : RCA) (ok : RCAOk X) {Q : PQ} : ∀ i ∈ [0, 2, 25], RCA.St X Q i := by
 simp only [List.forall_mem_cons]
 refine ⟨?_, ?_, ?_, List.forall_mem_nil _⟩
 all_goals
  refine st_plain RCA.isL (RCA.ini ok) ok.sz rfl (by kernel_rfl) ?_
  intro γ w n o hW hop
  unfold execOp
  rw [hop]
  simp [envR, valG, RCA.av, RCA.val0, go_sem]
theorem RCA.skip (X : RCA) (ok : RCAOk X) {Q : PQ} : ∀ i ∈ [3, 4, 5, 6, 7, 8, 9, 24], RCA.St X Q i := by
 simp only [List.forall_mem_cons]
 refine ⟨?_, ?_, ?_, ?_, ?_, ?_, ?_, ?_, List.forall_mem_nil _⟩
 all_goals
  exact st_plainS RCA.isL (RCA.ini ok) ok.sz rfl rfl (Or.inl rfl) (by kernel_rfl) rfl
theorem RCA.undo (X : RCA) (ok : RCAOk X) {Q : PQ} : ∀ i ∈ [10, 11, 12, 13, 14, 15, 16, 17, 18, 19, 20, 21, 22, 23], RCA.St X Q i := by
 simp only [List.forall_mem_cons]
 refine ⟨?_, ?_, ?_, ?_, ?_, ?_, ?_, ?_, ?_, ?_, ?_, ?_, ?_, ?_, List.forall_mem_nil _⟩
 all_goals
  exact st_plainS RCA.isL (RCA.ini ok) ok.sz rfl rfl (Or.inr rfl) (by kernel_rfl) rfl
theorem RCA.size : (opsOf 1 Tryz.f32).size = 26 := by kernel_rfl
theorem RCA.rest (X : RCA) (ok : RCAOk X) {Q : PQ} : ∀ i ∈ [1], RCA.St X Q i := by
 simp only [List.forall_mem_cons]
 exact ⟨st_callK RCA.isL (RCA.ini ok) ok.sz rfl (by kernel_rfl) (fun _ _ => by simp [go_sem]) (fun γ w n hW => gap_k ok.ca ok.hg (RCA.kp hW)) (fun _ _ _ _ hW hk => RCA.keep hW hk), List.forall_mem_nil _⟩
theorem RCA.steps (X : RCA) (ok : RCAOk X) {Q : PQ} (i : Nat) (hi : i < (opsOf 1 Tryz.f32).size) : RCA.St X Q i := by
 rw [RCA.size] at hi
 rcases (by decide : ∀ i, i < 26 → i ∈ [0, 2, 25] ∨ i ∈ [3, 4, 5, 6, 7, 8, 9, 24] ∨ i ∈ [10, 11, 12, 13, 14, 15, 16, 17, 18, 19, 20, 21, 22, 23] ∨ i ∈ [1]) i hi with h | h | h | h
 · exact RCA.plain X ok i h
 · exact RCA.skip X ok i h
 · exact RCA.undo X ok i h
 · exact RCA.rest X ok i h
theorem RCA.run (X : RCA) (ok : RCAOk X) {Q : PQ} (w : World) (h0 : X.Wd 0 (fun _ => undef) w.drew) (hend : ∀ (γ : Nat → Value) w', X.Wd 0 γ w' → Q .normal ((((((((((((((((((((((((((X.a0.put (some 4) (.pointer (some ⟨X.bx, 0, none⟩))).put (some 5) (.bool true)).put (some 6) (.bool true)).put (some 7) (undef)).put (some 8) (undef)).put (some 9) (undef)).put (some 10) (undef)).put (some 11) (undef)).put (some 12) (undef)).put (some 13) (undef)).put (some 14) (undef)).put (some 15) (undef)).put (some 16) (undef)).put (some 17) (undef)).put (some 18) (undef)).put (some 19) (undef)).put (some 20) (undef)).put (some 21) (undef)).put (some 22) (undef)).put (some 23) (undef)).put (some 24) (undef)).put (some 25) (undef)).put (some 26) (undef)).put (some 27) (undef)).put (some 28) (undef)).put (some 29) (.bool true)) w') : (Code.region 1 (opsOf 1 Tryz.f32) true).wp Tryz.prog Q X.a0 w := by
 refine reg_act (acts := RCA.acts) (av := RCA.av) (val0 := X.val0) (Wd := X.Wd) (by kernel_rfl) (by kernel_rfl) (by rw [RCA.size]; decide) (fun i hi => RCA.steps X ok i hi) _ h0 ?_
 intro γ w' h
 exact end_at (hend γ w' h) (by kernel_rfl)
structure RCB where
 bx : Nat
 bq : Nat
 x : Int
 y : Int
 a : Int
 ua : Option Addr
 uc : Nat
 W : World
 a0 : Act
structure RCBOk (X : RCB) : Prop where
 q0 : X.W.cell? ⟨X.bq, 0, none⟩ = some (.int .i64 X.x)
 q1 : X.W.cell? ⟨X.bq, 1, none⟩ = some (.int .i64 X.y)
 c4 : X.W.cell? ⟨X.bx, 4, none⟩ = some (.slice X.ua 0 X.uc)
 ca : X.W.cell? ⟨X.bx, 1, none⟩ = some (.int .i64 X.a)
 hg : decide (X.a.tmod 2 = 1) = false
 e0 : X.a0.eval (.tmp 0) = .pointer (some ⟨X.bx, 0, none⟩)
 e3 : X.a0.eval (.tmp 3) = .pointer (some ⟨X.bq, 0, none⟩)
 sz : X.a0.tmps.size = 36
def RCB.val0 (X : RCB) : Nat → Value
 | 0 => .pointer (some ⟨X.bx, 0, none⟩)
 | 3 => .pointer (some ⟨X.bq, 0, none⟩)
 | 4 => .pointer (some ⟨X.bx, 0, none⟩)
 | 5 => .bool false
 | 6 => .bool false
 | 7 => .pointer (some ⟨X.bx, 0, none⟩)
 | 8 => .pointer (some ⟨X.bx, 0, none⟩)
 | 9 => .pointer (some ⟨X.bx, 4, none⟩)
 | 10 => .slice X.ua 0 X.uc
 | 11 => .int .i64 0
 | 12 => .bool false
 | 13 => .bool false
 | 28 => .bool false
 | 29 => .bool false
 | _ => undef
def RCB.av : Nat → Option Nat
 | _ => none
def RCB.acts : List Nat := []
def RCB.Wd (X : RCB) : Nat → (Nat → Value) → World → Prop
  | _, _, w => Kp X.W w
theorem RCB.kp {X : RCB} {n : Nat} {γ : Nat → Value} {w : World} (h : X.Wd n γ w) : Kp X.W w := h
theorem RCB.keep {X : RCB} {n : Nat} {γ : Nat → Value} {w w' : World} (h : X.Wd n γ w) (k : Kp w w') : X.Wd n γ w' := Kp.trans h k
theorem RCB.ini {X : RCB} (ok : RCBOk X) : ∀ n ∈ [0, 3], X.a0.eval (.tmp n) = X.val0 n := by
 simp only [List.forall_mem_cons]
 exact ⟨ok.e0, ok.e3, List.forall_mem_nil _⟩
abbrev RCB.St (X : RCB) (Q : PQ) (i : Nat) : Prop := StepG (opsOf 1 Tryz.f32) RCB.acts RCB.av X.val0 X.Wd X.a0 Q i
theorem RCB.plain (X : RCB) (ok : RCBOk X) {Q : PQ} : ∀ i ∈ [0, 2, 25], RCB.St X Q i := by
 simp only [List.forall_mem_cons]
 refine ⟨?_, ?_, ?_, List.forall_mem_nil _⟩
 all_goals
  refine st_plain RCA.isL (RCB.ini ok) ok.sz rfl (by kernel_rfl) ?_
  intro γ w n o hW hop
  have hc_c4 := rq_at (RCB.kp hW) ok.c4
  unfold execOp
  rw [hop]
  simp [envR, valG, RCB.av, RCB.val0, hc_c4, go_sem]
theorem RCB.want (X : RCB) (ok : RCBOk X) {Q : PQ} : ∀ i ∈ [3, 4, 5, 6, 7, 8, 9, 24], RCB.St X Q i := by
 simp only [List.forall_mem_cons]
 refine ⟨?_, ?_, ?_, ?_, ?_, ?_, ?_, ?_, List.forall_mem_nil _⟩
 all_goals
  refine st_plainW RCA.isL (RCB.ini ok) ok.sz rfl rfl rfl (by kernel_rfl) ?_
  intro γ w n o hW hop
  have hc_c4 := rq_at (RCB.kp hW) ok.c4
  unfold execOp
  rw [hop]
  simp [envR, valG, RCB.av, RCB.val0, hc_c4, go_sem]
theorem RCB.skip (X : RCB) (ok : RCBOk X) {Q : PQ} : ∀ i ∈ [10, 11, 12, 13, 14, 15, 16, 17, 18, 19, 20, 21, 22, 23], RCB.St X Q i := by
 simp only [List.forall_mem_cons]
 refine ⟨?_, ?_, ?_, ?_, ?_, ?_, ?_, ?_, ?_, ?_, ?_, ?_, ?_, ?_, List.forall_mem_nil _⟩
 all_goals
  exact st_plainS RCA.isL (RCB.ini ok) ok.sz rfl rfl (Or.inl rfl) (by kernel_rfl) rfl
theorem RCB.rest (X : RCB) (ok : RCBOk X) {Q : PQ} : ∀ i ∈ [1], RCB.St X Q i := by
 simp only [List.forall_mem_cons]
 exact ⟨st_callK RCA.isL (RCB.ini ok) ok.sz rfl (by kernel_rfl) (fun _ _ => by simp [go_sem]) (fun γ w n hW => gap_k ok.ca ok.hg (RCB.kp hW)) (fun _ _ _ _ hW hk => RCB.keep hW hk), List.forall_mem_nil _⟩
theorem RCB.steps (X : RCB) (ok : RCBOk X) {Q : PQ} (i : Nat) (hi : i < (opsOf 1 Tryz.f32).size) : RCB.St X Q i := by
 rw [RCA.size] at hi
 rcases (by decide : ∀ i, i < 26 → i ∈ [0, 2, 25] ∨ i ∈ [3, 4, 5, 6, 7, 8, 9, 24] ∨ i ∈ [10, 11, 12, 13, 14, 15, 16, 17, 18, 19, 20, 21, 22, 23] ∨ i ∈ [1]) i hi with h | h | h | h
 · exact RCB.plain X ok i h
 · exact RCB.want X ok i h
 · exact RCB.skip X ok i h
 · exact RCB.rest X ok i h
theorem RCB.run (X : RCB) (ok : RCBOk X) {Q : PQ} (w : World) (h0 : X.Wd 0 (fun _ => undef) w.drew) (hend : ∀ (γ : Nat → Value) w', X.Wd 0 γ w' → Q .normal ((((((((((((((((((((((((((X.a0.put (some 4) (.pointer (some ⟨X.bx, 0, none⟩))).put (some 5) (.bool false)).put (some 6) (.bool false)).put (some 7) (.pointer (some ⟨X.bx, 0, none⟩))).put (some 8) (.pointer (some ⟨X.bx, 0, none⟩))).put (some 9) (.pointer (some ⟨X.bx, 4, none⟩))).put (some 10) (.slice X.ua 0 X.uc)).put (some 11) (.int .i64 0)).put (some 12) (.bool false)).put (some 13) (.bool false)).put (some 14) (undef)).put (some 15) (undef)).put (some 16) (undef)).put (some 17) (undef)).put (some 18) (undef)).put (some 19) (undef)).put (some 20) (undef)).put (some 21) (undef)).put (some 22) (undef)).put (some 23) (undef)).put (some 24) (undef)).put (some 25) (undef)).put (some 26) (undef)).put (some 27) (undef)).put (some 28) (.bool false)).put (some 29) (.bool false)) w') : (Code.region 1 (opsOf 1 Tryz.f32) true).wp Tryz.prog Q X.a0 w := by
 refine reg_act (acts := RCB.acts) (av := RCB.av) (val0 := X.val0) (Wd := X.Wd) (by kernel_rfl) (by kernel_rfl) (by rw [RCA.size]; decide) (fun i hi => RCB.steps X ok i hi) _ h0 ?_
 intro γ w' h
 exact end_at (hend γ w' h) (by kernel_rfl)
structure RCC where
 bx : Nat
 bq : Nat
 x : Int
 y : Int
 a : Int
 g : Nat
 n : Nat
 m : Nat
 uc : Nat
 W : World
 a0 : Act
structure RCCOk (X : RCC) : Prop where
 q0 : X.W.cell? ⟨X.bq, 0, none⟩ = some (.int .i64 X.x)
 q1 : X.W.cell? ⟨X.bq, 1, none⟩ = some (.int .i64 X.y)
 c4 : X.W.cell? ⟨X.bx, 4, none⟩ = some (.slice (some ⟨X.g, 0, none⟩) X.n X.uc)
 ca : X.W.cell? ⟨X.bx, 1, none⟩ = some (.int .i64 X.a)
 hg : decide (X.a.tmod 2 = 1) = false
 h0 : 0 < X.n
 wm : IntKind.i64.wrap ((X.n : Int) - 1) = (X.m : Int)
 hm : X.m < X.n
 px : X.W.cell? ⟨X.g, X.m * 2, none⟩ = some (.int .i64 X.x)
 py : X.W.cell? ⟨X.g, X.m * 2 + 1, none⟩ = some (.int .i64 X.y)
 e0 : X.a0.eval (.tmp 0) = .pointer (some ⟨X.bx, 0, none⟩)
 e3 : X.a0.eval (.tmp 3) = .pointer (some ⟨X.bq, 0, none⟩)
 sz : X.a0.tmps.size = 36
def RCC.val0 (X : RCC) : Nat → Value
 | 0 => .pointer (some ⟨X.bx, 0, none⟩)
 | 3 => .pointer (some ⟨X.bq, 0, none⟩)
 | 4 => .pointer (some ⟨X.bx, 0, none⟩)
 | 5 => .bool false
 | 6 => .bool false
 | 7 => .pointer (some ⟨X.bx, 0, none⟩)
 | 8 => .pointer (some ⟨X.bx, 0, none⟩)
 | 9 => .pointer (some ⟨X.bx, 4, none⟩)
 | 10 => .slice (some ⟨X.g, 0, none⟩) X.n X.uc
 | 11 => .int .i64 (X.n : Int)
 | 12 => .bool true
 | 13 => .bool true
 | 14 => .pointer (some ⟨X.bx, 0, none⟩)
 | 15 => .pointer (some ⟨X.bx, 0, none⟩)
 | 16 => .pointer (some ⟨X.bx, 4, none⟩)
 | 17 => .slice (some ⟨X.g, 0, none⟩) X.n X.uc
 | 18 => .pointer (some ⟨X.bx, 0, none⟩)
 | 19 => .pointer (some ⟨X.bx, 0, none⟩)
 | 20 => .pointer (some ⟨X.bx, 4, none⟩)
 | 21 => .slice (some ⟨X.g, 0, none⟩) X.n X.uc
 | 22 => .int .i64 (X.n : Int)
 | 23 => .int .i64 (X.m : Int)
 | 24 => .pointer (some ⟨X.g, X.m * 2, none⟩)
 | 25 => .agg #[.int .i64 X.x, .int .i64 X.y]
 | 26 => .agg #[.int .i64 X.x, .int .i64 X.y]
 | 27 => .bool true
 | 28 => .bool true
 | 29 => .bool true
 | _ => undef
def RCC.av : Nat → Option Nat
 | _ => none
def RCC.acts : List Nat := []
def RCC.Wd (X : RCC) : Nat → (Nat → Value) → World → Prop
  | _, _, w => Kp X.W w
theorem RCC.kp {X : RCC} {n : Nat} {γ : Nat → Value} {w : World} (h : X.Wd n γ w) : Kp X.W w := h
theorem RCC.keep {X : RCC} {n : Nat} {γ : Nat → Value} {w w' : World} (h : X.Wd n γ w) (k : Kp w w') : X.Wd n γ w' := Kp.trans h k
theorem RCC.ini {X : RCC} (ok : RCCOk X) : ∀ n ∈ [0, 3], X.a0.eval (.tmp n) = X.val0 n := by
 simp only [List.forall_mem_cons]
 exact ⟨ok.e0, ok.e3, List.forall_mem_nil _⟩
abbrev RCC.St (X : RCC) (Q : PQ) (i : Nat) : Prop := StepG (opsOf 1 Tryz.f32) RCC.acts RCC.av X.val0 X.Wd X.a0 Q i
theorem RCC.plain (X : RCC) (ok : RCCOk X) {Q : PQ} : ∀ i ∈ [0, 2, 25], RCC.St X Q i := by
 simp only [List.forall_mem_cons]
 refine ⟨?_, ?_, ?_, List.forall_mem_nil _⟩
 all_goals
  refine st_plain RCA.isL (RCC.ini ok) ok.sz rfl (by kernel_rfl) ?_
  intro γ w n o hW hop
  have hc_c4 := rq_at (RCC.kp hW) ok.c4
  have hc_px := rq_at (RCC.kp hW) ok.px
  have hc_py := rq_at (RCC.kp hW) ok.py
  have hc_q0 := rq_at (RCC.kp hW) ok.q0
  have hc_q1 := rq_at (RCC.kp hW) ok.q1
  unfold execOp
  rw [hop]
  simp [envR, valG, RCC.av, RCC.val0, hc_c4, ok.h0, ok.wm, ok.hm, hc_px, hc_py, hc_q0, hc_q1, go_sem]
theorem RCC.want (X : RCC) (ok : RCCOk X) {Q : PQ} : ∀ i ∈ [3, 4, 5, 6, 7, 8, 9, 10, 11, 12, 13, 14, 15, 16, 17, 18, 19, 20, 21, 22, 23, 24], RCC.St X Q i := by
 simp only [List.forall_mem_cons]
 refine ⟨?_, ?_, ?_, ?_, ?_, ?_, ?_, ?_, ?_, ?_, ?_, ?_, ?_, ?_, ?_, ?_, ?_, ?_, ?_, ?_, ?_, ?_, List.forall_mem_nil _⟩
 all_goals
  refine st_plainW RCA.isL (RCC.ini ok) ok.sz rfl rfl rfl (by kernel_rfl) ?_
  intro γ w n o hW hop
  have hc_c4 := rq_at (RCC.kp hW) ok.c4
  have hc_px := rq_at (RCC.kp hW) ok.px
  have hc_py := rq_at (RCC.kp hW) ok.py
  have hc_q0 := rq_at (RCC.kp hW) ok.q0
  have hc_q1 := rq_at (RCC.kp hW) ok.q1
  unfold execOp
  rw [hop]
  simp [envR, valG, RCC.av, RCC.val0, hc_c4, ok.h0, ok.wm, ok.hm, hc_px, hc_py, hc_q0, hc_q1, go_sem]
theorem RCC.rest (X : RCC) (ok : RCCOk X) {Q : PQ} : ∀ i ∈ [1], RCC.St X Q i := by
 simp only [List.forall_mem_cons]
 exact ⟨st_callK RCA.isL (RCC.ini ok) ok.sz rfl (by kernel_rfl) (fun _ _ => by simp [go_sem]) (fun γ w n hW => gap_k ok.ca ok.hg (RCC.kp hW)) (fun _ _ _ _ hW hk => RCC.keep hW hk), List.forall_mem_nil _⟩
theorem RCC.steps (X : RCC) (ok : RCCOk X) {Q : PQ} (i : Nat) (hi : i < (opsOf 1 Tryz.f32).size) : RCC.St X Q i := by
 rw [RCA.size] at hi
 rcases (by decide : ∀ i, i < 26 → i ∈ [0, 2, 25] ∨ i ∈ [3, 4, 5, 6, 7, 8, 9, 10, 11, 12, 13, 14, 15, 16, 17, 18, 19, 20, 21, 22, 23, 24] ∨ i ∈ [1]) i hi with h | h | h
 · exact RCC.plain X ok i h
 · exact RCC.want X ok i h
 · exact RCC.rest X ok i h
theorem RCC.run (X : RCC) (ok : RCCOk X) {Q : PQ} (w : World) (h0 : X.Wd 0 (fun _ => undef) w.drew) (hend : ∀ (γ : Nat → Value) w', X.Wd 0 γ w' → Q .normal ((((((((((((((((((((((((((X.a0.put (some 4) (.pointer (some ⟨X.bx, 0, none⟩))).put (some 5) (.bool false)).put (some 6) (.bool false)).put (some 7) (.pointer (some ⟨X.bx, 0, none⟩))).put (some 8) (.pointer (some ⟨X.bx, 0, none⟩))).put (some 9) (.pointer (some ⟨X.bx, 4, none⟩))).put (some 10) (.slice (some ⟨X.g, 0, none⟩) X.n X.uc)).put (some 11) (.int .i64 (X.n : Int))).put (some 12) (.bool true)).put (some 13) (.bool true)).put (some 14) (.pointer (some ⟨X.bx, 0, none⟩))).put (some 15) (.pointer (some ⟨X.bx, 0, none⟩))).put (some 16) (.pointer (some ⟨X.bx, 4, none⟩))).put (some 17) (.slice (some ⟨X.g, 0, none⟩) X.n X.uc)).put (some 18) (.pointer (some ⟨X.bx, 0, none⟩))).put (some 19) (.pointer (some ⟨X.bx, 0, none⟩))).put (some 20) (.pointer (some ⟨X.bx, 4, none⟩))).put (some 21) (.slice (some ⟨X.g, 0, none⟩) X.n X.uc)).put (some 22) (.int .i64 (X.n : Int))).put (some 23) (.int .i64 (X.m : Int))).put (some 24) (.pointer (some ⟨X.g, X.m * 2, none⟩))).put (some 25) (.agg #[.int .i64 X.x, .int .i64 X.y])).put (some 26) (.agg #[.int .i64 X.x, .int .i64 X.y])).put (some 27) (.bool true)).put (some 28) (.bool true)).put (some 29) (.bool true)) w') : (Code.region 1 (opsOf 1 Tryz.f32) true).wp Tryz.prog Q X.a0 w := by
 refine reg_act (acts := RCC.acts) (av := RCC.av) (val0 := X.val0) (Wd := X.Wd) (by kernel_rfl) (by kernel_rfl) (by rw [RCA.size]; decide) (fun i hi => RCC.steps X ok i hi) _ h0 ?_
 intro γ w' h
 exact end_at (hend γ w' h) (by kernel_rfl)
structure RCD where
 bx : Nat
 bq : Nat
 x : Int
 y : Int
 a : Int
 g : Nat
 n : Nat
 m : Nat
 uc : Nat
 lx : Int
 ly : Int
 W : World
 a0 : Act
structure RCDOk (X : RCD) : Prop where
 q0 : X.W.cell? ⟨X.bq, 0, none⟩ = some (.int .i64 X.x)
 q1 : X.W.cell? ⟨X.bq, 1, none⟩ = some (.int .i64 X.y)
 c4 : X.W.cell? ⟨X.bx, 4, none⟩ = some (.slice (some ⟨X.g, 0, none⟩) X.n X.uc)
 ca : X.W.cell? ⟨X.bx, 1, none⟩ = some (.int .i64 X.a)
 hg : decide (X.a.tmod 2 = 1) = false
 h0 : 0 < X.n
 wm : IntKind.i64.wrap ((X.n : Int) - 1) = (X.m : Int)
 hm : X.m < X.n
 px : X.W.cell? ⟨X.g, X.m * 2, none⟩ = some (.int .i64 X.lx)
 py : X.W.cell? ⟨X.g, X.m * 2 + 1, none⟩ = some (.int .i64 X.ly)
 hv : X.lx = X.x → ¬X.ly = X.y
 e0 : X.a0.eval (.tmp 0) = .pointer (some ⟨X.bx, 0, none⟩)
 e3 : X.a0.eval (.tmp 3) = .pointer (some ⟨X.bq, 0, none⟩)
 sz : X.a0.tmps.size = 36
def RCD.val0 (X : RCD) : Nat → Value
 | 0 => .pointer (some ⟨X.bx, 0, none⟩)
 | 3 => .pointer (some ⟨X.bq, 0, none⟩)
 | 4 => .pointer (some ⟨X.bx, 0, none⟩)
 | 5 => .bool false
 | 6 => .bool false
 | 7 => .pointer (some ⟨X.bx, 0, none⟩)
 | 8 => .pointer (some ⟨X.bx, 0, none⟩)
 | 9 => .pointer (some ⟨X.bx, 4, none⟩)
 | 10 => .slice (some ⟨X.g, 0, none⟩) X.n X.uc
 | 11 => .int .i64 (X.n : Int)
 | 12 => .bool true
 | 13 => .bool true
 | 14 => .pointer (some ⟨X.bx, 0, none⟩)
 | 15 => .pointer (some ⟨X.bx, 0, none⟩)
 | 16 => .pointer (some ⟨X.bx, 4, none⟩)
 | 17 => .slice (some ⟨X.g, 0, none⟩) X.n X.uc
 | 18 => .pointer (some ⟨X.bx, 0, none⟩)
 | 19 => .pointer (some ⟨X.bx, 0, none⟩)
 | 20 => .pointer (some ⟨X.bx, 4, none⟩)
 | 21 => .slice (some ⟨X.g, 0, none⟩) X.n X.uc
 | 22 => .int .i64 (X.n : Int)
 | 23 => .int .i64 (X.m : Int)
 | 24 => .pointer (some ⟨X.g, X.m * 2, none⟩)
 | 25 => .agg #[.int .i64 X.lx, .int .i64 X.ly]
 | 26 => .agg #[.int .i64 X.x, .int .i64 X.y]
 | 27 => .bool false
 | 28 => .bool false
 | 29 => .bool false
 | _ => undef
def RCD.av : Nat → Option Nat
 | _ => none
def RCD.acts : List Nat := []
def RCD.Wd (X : RCD) : Nat → (Nat → Value) → World → Prop
  | _, _, w => Kp X.W w
theorem RCD.kp {X : RCD} {n : Nat} {γ : Nat → Value} {w : World} (h : X.Wd n γ w) : Kp X.W w := h
theorem RCD.keep {X : RCD} {n : Nat} {γ : Nat → Value} {w w' : World} (h : X.Wd n γ w) (k : Kp w w') : X.Wd n γ w' := Kp.trans h k
theorem RCD.ini {X : RCD} (ok : RCDOk X) : ∀ n ∈ [0, 3], X.a0.eval (.tmp n) = X.val0 n := by
 simp only [List.forall_mem_cons]
 exact ⟨ok.e0, ok.e3, List.forall_mem_nil _⟩
abbrev RCD.St (X : RCD) (Q : PQ) (i : Nat) : Prop := StepG (opsOf 1 Tryz.f32) RCD.acts RCD.av X.val0 X.Wd X.a0 Q i
theorem RCD.plain (X : RCD) (ok : RCDOk X) {Q : PQ} : ∀ i ∈ [0, 2, 25], RCD.St X Q i := by
 simp only [List.forall_mem_cons]
 refine ⟨?_, ?_, ?_, List.forall_mem_nil _⟩
 all_goals
  refine st_plain RCA.isL (RCD.ini ok) ok.sz rfl (by kernel_rfl) ?_
  intro γ w n o hW hop
  have hc_c4 := rq_at (RCD.kp hW) ok.c4
  have hc_px := rq_at (RCD.kp hW) ok.px
  have hc_py := rq_at (RCD.kp hW) ok.py
  have hc_q0 := rq_at (RCD.kp hW) ok.q0
  have hc_q1 := rq_at (RCD.kp hW) ok.q1
  unfold execOp
  rw [hop]
  simp [envR, valG, RCD.av, RCD.val0, hc_c4, ok.h0, ok.wm, ok.hm, hc_px, hc_py, hc_q0, hc_q1, go_sem]
  try exact ok.hv
theorem RCD.want (X : RCD) (ok : RCDOk X) {Q : PQ} : ∀ i ∈ [3, 4, 5, 6, 7, 8, 9, 10, 11, 12, 13, 14, 15, 16, 17, 18, 19, 20, 21, 22, 23, 24], RCD.St X Q i := by
 simp only [List.forall_mem_cons]
 refine ⟨?_, ?_, ?_, ?_, ?_, ?_, ?_, ?_, ?_, ?_, ?_, ?_, ?_, ?_, ?_, ?_, ?_, ?_, ?_, ?_, ?_, ?_, List.forall_mem_nil _⟩
 all_goals
  refine st_plainW RCA.isL (RCD.ini ok) ok.sz rfl rfl rfl (by kernel_rfl) ?_
  intro γ w n o hW hop
  have hc_c4 := rq_at (RCD.kp hW) ok.c4
  have hc_px := rq_at (RCD.kp hW) ok.px
  have hc_py := rq_at (RCD.kp hW) ok.py
  have hc_q0 := rq_at (RCD.kp hW) ok.q0
  have hc_q1 := rq_at (RCD.kp hW) ok.q1
  unfold execOp
  rw [hop]
  simp [envR, valG, RCD.av, RCD.val0, hc_c4, ok.h0, ok.wm, ok.hm, hc_px, hc_py, hc_q0, hc_q1, go_sem]
  try exact ok.hv
theorem RCD.rest (X : RCD) (ok : RCDOk X) {Q : PQ} : ∀ i ∈ [1], RCD.St X Q i := by
 simp only [List.forall_mem_cons]
 exact ⟨st_callK RCA.isL (RCD.ini ok) ok.sz rfl (by kernel_rfl) (fun _ _ => by simp [go_sem]) (fun γ w n hW => gap_k ok.ca ok.hg (RCD.kp hW)) (fun _ _ _ _ hW hk => RCD.keep hW hk), List.forall_mem_nil _⟩
theorem RCD.steps (X : RCD) (ok : RCDOk X) {Q : PQ} (i : Nat) (hi : i < (opsOf 1 Tryz.f32).size) : RCD.St X Q i := by
 rw [RCA.size] at hi
 rcases (by decide : ∀ i, i < 26 → i ∈ [0, 2, 25] ∨ i ∈ [3, 4, 5, 6, 7, 8, 9, 10, 11, 12, 13, 14, 15, 16, 17, 18, 19, 20, 21, 22, 23, 24] ∨ i ∈ [1]) i hi with h | h | h
 · exact RCD.plain X ok i h
 · exact RCD.want X ok i h
 · exact RCD.rest X ok i h
theorem RCD.run (X : RCD) (ok : RCDOk X) {Q : PQ} (w : World) (h0 : X.Wd 0 (fun _ => undef) w.drew) (hend : ∀ (γ : Nat → Value) w', X.Wd 0 γ w' → Q .normal ((((((((((((((((((((((((((X.a0.put (some 4) (.pointer (some ⟨X.bx, 0, none⟩))).put (some 5) (.bool false)).put (some 6) (.bool false)).put (some 7) (.pointer (some ⟨X.bx, 0, none⟩))).put (some 8) (.pointer (some ⟨X.bx, 0, none⟩))).put (some 9) (.pointer (some ⟨X.bx, 4, none⟩))).put (some 10) (.slice (some ⟨X.g, 0, none⟩) X.n X.uc)).put (some 11) (.int .i64 (X.n : Int))).put (some 12) (.bool true)).put (some 13) (.bool true)).put (some 14) (.pointer (some ⟨X.bx, 0, none⟩))).put (some 15) (.pointer (some ⟨X.bx, 0, none⟩))).put (some 16) (.pointer (some ⟨X.bx, 4, none⟩))).put (some 17) (.slice (some ⟨X.g, 0, none⟩) X.n X.uc)).put (some 18) (.pointer (some ⟨X.bx, 0, none⟩))).put (some 19) (.pointer (some ⟨X.bx, 0, none⟩))).put (some 20) (.pointer (some ⟨X.bx, 4, none⟩))).put (some 21) (.slice (some ⟨X.g, 0, none⟩) X.n X.uc)).put (some 22) (.int .i64 (X.n : Int))).put (some 23) (.int .i64 (X.m : Int))).put (some 24) (.pointer (some ⟨X.g, X.m * 2, none⟩))).put (some 25) (.agg #[.int .i64 X.lx, .int .i64 X.ly])).put (some 26) (.agg #[.int .i64 X.x, .int .i64 X.y])).put (some 27) (.bool false)).put (some 28) (.bool false)).put (some 29) (.bool false)) w') : (Code.region 1 (opsOf 1 Tryz.f32) true).wp Tryz.prog Q X.a0 w := by
 refine reg_act (acts := RCD.acts) (av := RCD.av) (val0 := X.val0) (Wd := X.Wd) (by kernel_rfl) (by kernel_rfl) (by rw [RCA.size]; decide) (fun i hi => RCD.steps X ok i hi) _ h0 ?_
 intro γ w' h
 exact end_at (hend γ w' h) (by kernel_rfl)
structure RC2 where
 bx : Nat
 bq : Nat
 x : Int
 y : Int
 P : World → Prop
 W : World
 a0 : Act
structure RC2Ok (X : RC2) : Prop where
 q0 : X.W.cell? ⟨X.bq, 0, none⟩ = some (.int .i64 X.x)
 q1 : X.W.cell? ⟨X.bq, 1, none⟩ = some (.int .i64 X.y)
 ha : Calls Tryz.prog 61 #[.pointer (some ⟨X.bx, 4, none⟩), .slice (some ⟨X.W.heap.size, 0, none⟩) 1 1] (X.W.alloc (.cells #[.int .i64 X.x, .int .i64 X.y] 34)) fun e w' => e = .returned (.tuple #[]) ∧ X.P w'
 e0 : X.a0.eval (.tmp 0) = .pointer (some ⟨X.bx, 0, none⟩)
 e3 : X.a0.eval (.tmp 3) = .pointer (some ⟨X.bq, 0, none⟩)
 sz : X.a0.tmps.size = 36
def RC2.val0 (X : RC2) : Nat → Value
 | 0 => .pointer (some ⟨X.bx, 0, none⟩)
 | 3 => .pointer (some ⟨X.bq, 0, none⟩)
 | 30 => .pointer (some ⟨X.bx, 0, none⟩)
 | 31 => .pointer (some ⟨X.bx, 0, none⟩)
 | 32 => .pointer (some ⟨X.bx, 4, none⟩)
 | 33 => .agg #[.int .i64 X.x, .int .i64 X.y]
 | _ => undef
def RC2.av : Nat → Option Nat
 | 34 => some 0
 | 35 => some 1
 | _ => none
def RC2.acts : List Nat := [4, 5]
def RC2.Wd (X : RC2) : Nat → (Nat → Value) → World → Prop
  | 0, _, w => w = X.W
  | 1, γ, w => γ 0 = .slice (some ⟨X.W.heap.size, 0, none⟩) 1 1 ∧ w = X.W.alloc (.cells #[.int .i64 X.x, .int .i64 X.y] 34)
  | _, _, w => X.P w
theorem RC2.chain : chainG (opsOf 2 Tryz.f32) RC2.acts = true := by kernel_rfl
theorem RC2.nodup : RC2.acts.Nodup := by decide
def RC2.L : List (Option Nat × Op × Option (Nat × Bool)) := [
 (some 30, .move (.tmp 0), none),
 (some 31, .nilCheck (.tmp 30), none),
 (some 32, .fieldAddr 67 (.tmp 31) 4, none),
 (some 33, .load 34 (.tmp 3), none),
 (some 34, .buildSlice 23 1 #[(0, (.tmp 33))], none),
 (some 35, .call { callee := .value (.func 61), args := #[(.tmp 32), (.tmp 34)], argTypes := #[64, 23] }, none)]
theorem RC2.isL : (opsOf 2 Tryz.f32).toList.map tri = RC2.L := by kernel_rfl
theorem RC2.ini {X : RC2} (ok : RC2Ok X) : ∀ n ∈ [0, 3], X.a0.eval (.tmp n) = X.val0 n := by
 simp only [List.forall_mem_cons]
 exact ⟨ok.e0, ok.e3, List.forall_mem_nil _⟩
abbrev RC2.St (X : RC2) (Q : PQ) (i : Nat) : Prop := StepG (opsOf 2 Tryz.f32) RC2.acts RC2.av X.val0 X.Wd X.a0 Q i
theorem RC2.plain (X : RC2) (ok : RC2Ok X) {Q : PQ} : ∀ i ∈ [0, 1, 2], RC2.St X Q i := by
 simp only [List.forall_mem_cons]
 refine ⟨?_, ?_, ?_, List.forall_mem_nil _⟩
 all_goals
  refine st_plain RC2.isL (RC2.ini ok) ok.sz rfl (by kernel_rfl) ?_
  intro γ w n o hW hop
  unfold execOp
  rw [hop]
  simp [envR, valG, RC2.av, RC2.val0, go_sem]
theorem RC2.soon (X : RC2) (ok : RC2Ok X) {Q : PQ} : ∀ i ∈ [3], RC2.St X Q i := by
 simp only [List.forall_mem_cons]
 refine ⟨?_, List.forall_mem_nil _⟩
 all_goals
  refine st_plainM (m := 0) RC2.isL (RC2.ini ok) ok.sz rfl (by kernel_rfl) ?_
  intro γ w n o hn hW hop
  obtain rfl : n = 0 := by omega
  have hk : w = X.W := hW
  subst hk
  unfold execOp
  rw [hop]
  simp [envR, valG, RC2.av, RC2.val0, ok.q0, ok.q1, go_sem]
theorem RC2.s4 (X : RC2) (ok : RC2Ok X) {Q : PQ} : RC2.St X Q 4 := by
 intro γ listed a w o hF hC hW h1 ho h2
 obtain ⟨hd, hop, hg⟩ := fieldsL RC2.isL (i := 4) rfl ho
 have e33 : a.eval (.tmp 33) = .agg #[.int .i64 X.x, .int .i64 X.y] := known hF ho h2 (RC2.ini ok) ok.sz (by kernel_rfl)
 have hu := unl (hF.lt ho) h1
 refine st_actG (k := 0) RC2.chain RC2.nodup rfl hF hC hW h1 ho h2 (Or.inr ⟨34, hd, rfl⟩) (injG (by kernel_rfl) hu) hg ?_
 intro hW0 K hK
 have hw0 : w = X.W := hW0
 have hr : (execOp a.eval o).run Tryz.prog w = .ok (.value (.slice (some ⟨w.heap.size, 0, none⟩) 1 1)) (w.alloc (.cells #[.int .i64 X.x, .int .i64 X.y] 34)) := by
  generalize a.eval = ρ at e33 ⊢
  unfold execOp
  rw [hop]
  simp [e33, go_sem]
 unfold Oper.wp
 rw [hr, hw0]
 exact hK _ _ ⟨rfl, rfl⟩
theorem RC2.s5 (X : RC2) (ok : RC2Ok X) {Q : PQ} : RC2.St X Q 5 := by
 intro γ listed a w o hF hC hW h1 ho h2
 obtain ⟨hd, hop, hg⟩ := fieldsL RC2.isL (i := 5) rfl ho
 have e32 : a.eval (.tmp 32) = .pointer (some ⟨X.bx, 4, none⟩) := known hF ho h2 (RC2.ini ok) ok.sz (by kernel_rfl)
 have e34 : a.eval (.tmp 34) = γ 0 := known hF ho h2 (RC2.ini ok) ok.sz (by kernel_rfl)
 have ef : a.eval (.func 61) = .func (.func 61) #[] #[] := rfl
 have hu := unl (hF.lt ho) h1
 refine st_actG (k := 1) RC2.chain RC2.nodup rfl hF hC hW h1 ho h2 (Or.inr ⟨35, hd, rfl⟩) (injG (by kernel_rfl) hu) hg ?_
 intro hW0 K hK
 obtain ⟨g0, hw1⟩ := hW0
 rw [g0] at e34
 have hr : (execOp a.eval o).run Tryz.prog w = .ok (.enter 61 #[.pointer (some ⟨X.bx, 4, none⟩), .slice (some ⟨X.W.heap.size, 0, none⟩) 1 1]) w := by
  generalize a.eval = ρ at e32 e34 ef ⊢
  unfold execOp
  rw [hop]
  simp [e32, e34, ef, go_sem]
 unfold Oper.wp
 rw [hr]
 refine Calls.mono (by rw [hw1]; exact ok.ha) ?_
 rintro e w' ⟨rfl, h⟩
 exact hK _ _ h
theorem RC2.size : (opsOf 2 Tryz.f32).size = 6 := by kernel_rfl
theorem RC2.rest (X : RC2) (ok : RC2Ok X) {Q : PQ} : ∀ i ∈ [4, 5], RC2.St X Q i := by
 simp only [List.forall_mem_cons]
 exact ⟨RC2.s4 X ok,
  RC2.s5 X ok, List.forall_mem_nil _⟩
theorem RC2.steps (X : RC2) (ok : RC2Ok X) {Q : PQ} (i : Nat) (hi : i < (opsOf 2 Tryz.f32).size) : RC2.St X Q i := by
 rw [RC2.size] at hi
 rcases (by decide : ∀ i, i < 6 → i ∈ [0, 1, 2] ∨ i ∈ [3] ∨ i ∈ [4, 5]) i hi with h | h | h
 · exact RC2.plain X ok i h
 · exact RC2.soon X ok i h
 · exact RC2.rest X ok i h
theorem RC2.run (X : RC2) (ok : RC2Ok X) {Q : PQ} (w : World) (h0 : X.Wd 0 (fun _ => undef) w.drew) (hend : ∀ (γ : Nat → Value) w', X.Wd 2 γ w' → Q .normal ((((((X.a0.put (some 30) (.pointer (some ⟨X.bx, 0, none⟩))).put (some 31) (.pointer (some ⟨X.bx, 0, none⟩))).put (some 32) (.pointer (some ⟨X.bx, 4, none⟩))).put (some 33) (.agg #[.int .i64 X.x, .int .i64 X.y])).put (some 34) (γ 0)).put (some 35) (γ 1)) w') : (Code.region 2 (opsOf 2 Tryz.f32) true).wp Tryz.prog Q X.a0 w := by
 refine reg_act (acts := RC2.acts) (av := RC2.av) (val0 := X.val0) (Wd := X.Wd) (by kernel_rfl) (by kernel_rfl) (by rw [RC2.size]; decide) (fun i hi => RC2.steps X ok i hi) _ h0 ?_
 intro γ w' h
 exact end_at (hend γ w' h) (by kernel_rfl)
structure LYR where
 bx : Nat
 ua : Option Addr
 un : Nat
 uc : Nat
 P : World → Prop
 W : World
 a0 : Act
structure LYROk (X : LYR) : Prop where
 c4 : X.W.cell? ⟨X.bx, 4, none⟩ = some (.slice X.ua X.un X.uc)
 ha : Calls Tryz.prog 44 #[.pointer (some ⟨X.bx, 5, none⟩), .slice (some ⟨X.W.heap.size, 0, none⟩) 1 1] (X.W.alloc (.cells #[.slice X.ua X.un X.uc, .bool false] 25)) fun e w' => e = .returned (.tuple #[]) ∧ X.P w'
 e0 : X.a0.eval (.tmp 0) = .pointer (some ⟨X.bx, 0, none⟩)
 sz : X.a0.tmps.size = 21
def LYR.val0 (X : LYR) : Nat → Value
 | 0 => .pointer (some ⟨X.bx, 0, none⟩)
 | 8 => .pointer (some ⟨X.bx, 0, none⟩)
 | 9 => .pointer (some ⟨X.bx, 0, none⟩)
 | 10 => .pointer (some ⟨X.bx, 5, none⟩)
 | 11 => .pointer (some ⟨X.bx, 0, none⟩)
 | 12 => .pointer (some ⟨X.bx, 0, none⟩)
 | 13 => .pointer (some ⟨X.bx, 4, none⟩)
 | 14 => .slice X.ua X.un X.uc
 | 15 => .agg #[.slice X.ua X.un X.uc, .bool false]
 | _ => undef
def LYR.av : Nat → Option Nat
 | 16 => some 0
 | 17 => some 1
 | _ => none
def LYR.acts : List Nat := [8, 9]
def LYR.Wd (X : LYR) : Nat → (Nat → Value) → World → Prop
  | 0, _, w => w = X.W
  | 1, γ, w => γ 0 = .slice (some ⟨X.W.heap.size, 0, none⟩) 1 1 ∧ w = X.W.alloc (.cells #[.slice X.ua X.un X.uc, .bool false] 25)
  | _, _, w => X.P w
theorem LYR.chain : chainG (opsOf 1 Tryz.f34) LYR.acts = true := by kernel_rfl
theorem LYR.nodup : LYR.acts.Nodup := by decide
def LYR.L : List (Option Nat × Op × Option (Nat × Bool)) := [
 (some 8, .move (.tmp 0), none),
 (some 9, .nilCheck (.tmp 8), none),
 (some 10, .fieldAddr 67 (.tmp 9) 5, none),
 (some 11, .move (.tmp 0), none),
 (some 12, .nilCheck (.tmp 11), none),
 (some 13, .fieldAddr 67 (.tmp 12) 4, none),
 (some 14, .load 64 (.tmp 13), none),
 (some 15, .build 25 #[(0, (.tmp 14))], none),
 (some 16, .buildSlice 29 1 #[(0, (.tmp 15))], none),
 (some 17, .call { callee := .value (.func 44), args := #[(.tmp 10), (.tmp 16)], argTypes := #[65, 29] }, none)]
theorem LYR.isL : (opsOf 1 Tryz.f34).toList.map tri = LYR.L := by kernel_rfl
theorem LYR.ini {X : LYR} (ok : LYROk X) : ∀ n ∈ [0], X.a0.eval (.tmp n) = X.val0 n := by
 simp only [List.forall_mem_cons]
 exact ⟨ok.e0, List.forall_mem_nil _⟩
abbrev LYR.St (X : LYR) (Q : PQ) (i : Nat) : Prop := StepG (opsOf 1 Tryz.f34) LYR.acts LYR.av X.val0 X.Wd X.a0 Q i
theorem LYR.plain (X : LYR) (ok : LYROk X) {Q : PQ} : ∀ i ∈ [0, 1, 2, 3, 4, 5, 7], LYR.St X Q i := by
 simp only [List.forall_mem_cons]
 refine ⟨?_, ?_, ?_, ?_, ?_, ?_, ?_, List.forall_mem_nil _⟩
 all_goals
  refine st_plain LYR.isL (LYR.ini ok) ok.sz rfl (by kernel_rfl) ?_
  intro γ w n o hW hop
  unfold execOp
  rw [hop]
  simp [envR, valG, LYR.av, LYR.val0, go_sem]
theorem LYR.soon (X : LYR) (ok : LYROk X) {Q : PQ} : ∀ i ∈ [6], LYR.St X Q i := by
 simp only [List.forall_mem_cons]
 refine ⟨?_, List.forall_mem_nil _⟩
 all_goals
  refine st_plainM (m := 0) LYR.isL (LYR.ini ok) ok.sz rfl (by kernel_rfl) ?_
  intro γ w n o hn hW hop
  obtain rfl : n = 0 := by omega
  have hk : w = X.W := hW
  subst hk
  unfold execOp
  rw [hop]
  simp [envR, valG, LYR.av, LYR.val0, ok.c4, go_sem]
theorem LYR.s8 (X : LYR) (ok : LYROk X) {Q : PQ} : LYR.St X Q 8 := by
 intro γ listed a w o hF hC hW h1 ho h2
 obtain ⟨hd, hop, hg⟩ := fieldsL LYR.isL (i := 8) rfl ho
 have e15 : a.eval (.tmp 15) = .agg #[.slice X.ua X.un X.uc, .bool false] := known hF ho h2 (LYR.ini ok) ok.sz (by kernel_rfl)
 have hu := unl (hF.lt ho) h1
 refine st_actG (k := 0) LYR.chain LYR.nodup rfl hF hC hW h1 ho h2 (Or.inr ⟨16, hd, rfl⟩) (injG (by kernel_rfl) hu) hg ?_
 intro hW0 K hK
 have hw0 : w = X.W := hW0
 have hr : (execOp a.eval o).run Tryz.prog w = .ok (.value (.slice (some ⟨w.heap.size, 0, none⟩) 1 1)) (w.alloc (.cells #[.slice X.ua X.un X.uc, .bool false] 25)) := by
  generalize a.eval = ρ at e15 ⊢
  unfold execOp
  rw [hop]
  simp [e15, go_sem]
 unfold Oper.wp
 rw [hr, hw0]
 exact hK _ _ ⟨rfl, rfl⟩
theorem LYR.s9 (X : LYR) (ok : LYROk X) {Q : PQ} : LYR.St X Q 9 := by
 intro γ listed a w o hF hC hW h1 ho h2
 obtain ⟨hd, hop, hg⟩ := fieldsL LYR.isL (i := 9) rfl ho
 have e10 : a.eval (.tmp 10) = .pointer (some ⟨X.bx, 5, none⟩) := known hF ho h2 (LYR.ini ok) ok.sz (by kernel_rfl)
 have e16 : a.eval (.tmp 16) = γ 0 := known hF ho h2 (LYR.ini ok) ok.sz (by kernel_rfl)
 have ef : a.eval (.func 44) = .func (.func 44) #[] #[] := rfl
 have hu := unl (hF.lt ho) h1
 refine st_actG (k := 1) LYR.chain LYR.nodup rfl hF hC hW h1 ho h2 (Or.inr ⟨17, hd, rfl⟩) (injG (by kernel_rfl) hu) hg ?_
 intro hW0 K hK
 obtain ⟨g0, hw1⟩ := hW0
 rw [g0] at e16
 have hr : (execOp a.eval o).run Tryz.prog w = .ok (.enter 44 #[.pointer (some ⟨X.bx, 5, none⟩), .slice (some ⟨X.W.heap.size, 0, none⟩) 1 1]) w := by
  generalize a.eval = ρ at e10 e16 ef ⊢
  unfold execOp
  rw [hop]
  simp [e10, e16, ef, go_sem]
 unfold Oper.wp
 rw [hr]
 refine Calls.mono (by rw [hw1]; exact ok.ha) ?_
 rintro e w' ⟨rfl, h⟩
 exact hK _ _ h
theorem LYR.size : (opsOf 1 Tryz.f34).size = 10 := by kernel_rfl
theorem LYR.rest (X : LYR) (ok : LYROk X) {Q : PQ} : ∀ i ∈ [8, 9], LYR.St X Q i := by
 simp only [List.forall_mem_cons]
 exact ⟨LYR.s8 X ok,
  LYR.s9 X ok, List.forall_mem_nil _⟩
theorem LYR.steps (X : LYR) (ok : LYROk X) {Q : PQ} (i : Nat) (hi : i < (opsOf 1 Tryz.f34).size) : LYR.St X Q i := by
 rw [LYR.size] at hi
 rcases (by decide : ∀ i, i < 10 → i ∈ [0, 1, 2, 3, 4, 5, 7] ∨ i ∈ [6] ∨ i ∈ [8, 9]) i hi with h | h | h
 · exact LYR.plain X ok i h
 · exact LYR.soon X ok i h
 · exact LYR.rest X ok i h
theorem LYR.run (X : LYR) (ok : LYROk X) {Q : PQ} (w : World) (h0 : X.Wd 0 (fun _ => undef) w.drew) (hend : ∀ (γ : Nat → Value) w', X.Wd 2 γ w' → Q .normal ((((((((((X.a0.put (some 8) (.pointer (some ⟨X.bx, 0, none⟩))).put (some 9) (.pointer (some ⟨X.bx, 0, none⟩))).put (some 10) (.pointer (some ⟨X.bx, 5, none⟩))).put (some 11) (.pointer (some ⟨X.bx, 0, none⟩))).put (some 12) (.pointer (some ⟨X.bx, 0, none⟩))).put (some 13) (.pointer (some ⟨X.bx, 4, none⟩))).put (some 14) (.slice X.ua X.un X.uc)).put (some 15) (.agg #[.slice X.ua X.un X.uc, .bool false])).put (some 16) (γ 0)).put (some 17) (γ 1)) w') : (Code.region 1 (opsOf 1 Tryz.f34) true).wp Tryz.prog Q X.a0 w := by
 refine reg_act (acts := LYR.acts) (av := LYR.av) (val0 := X.val0) (Wd := X.Wd) (by kernel_rfl) (by kernel_rfl) (by rw [LYR.size]; decide) (fun i hi => LYR.steps X ok i hi) _ h0 ?_
 intro γ w' h
 exact end_at (hend γ w' h) (by kernel_rfl)
def endL (o : List LD) (p : List Pnt) (c : Bool) : List LD := if 1 < p.length then o ++ [⟨p, c⟩] else o
def lastP (p : List Pnt) : Pnt := ptAt p (p.length - 1)
theorem manyL_app (a b : List LD) : manyL (a ++ b) = manyL a + manyL b := by simp [manyL]
theorem endL_many (o : List LD) (p : List Pnt) (c : Bool) : manyL (endL o p c) ≤ manyL o + p.length := by
 unfold endL
 split
 ·rw [manyL_app]; simp [manyL]
 ·omega
theorem endL_len (o : List LD) (p : List Pnt) (c : Bool) : (endL o p c).length ≤ o.length + 1 := by
 unfold endL
 split <;> simp
theorem ins_parts : ∃ i, Tryz.prog.info? 3 = some i ∧ i.zero = some (.int .i64 0) ∧ i.size = 1 ∧ i.bytes = 8 := by
 have h : (Tryz.prog.info? 3).map (fun i => (i.zero, i.size, i.bytes)) = some (some (.int .i64 0), 1, 8) := by kernel_rfl
 obtain ⟨i, hi, hzz⟩ := Option.map_eq_some_iff.1 h
 simp only [Prod.mk.injEq] at hzz
 exact ⟨i, hi, hzz⟩
def Ins (w : World) (B : Nat) (v : Value) (l : List Int) : Prop := w.ownsRow B 3 1 v l.length (l.map (Value.int .i64))
theorem Ins.nil (w : World) (B : Nat) : Ins w B (.slice none 0 0) [] := World.ownsRow_nil w B _ 1
theorem Ins.nw {w w' : World} {B : Nat} {v : Value} {l : List Int} (h : Ins w B v l) (k : Nw w w') : Ins w' B v l :=
 World.ownsRow.kept h (row := none) ⟨Below.os k, Below.tape k, Below.output k, Below.size k, fun b hb _ => Below.block k b hb⟩ (by cases hv : v.ownBlock <;> simp)
theorem Ins.below {w w' : World} {B : Nat} {v v' : Value} {l : List Int} (h : Ins w B v l) (k : Ext v v' w w') (hB : B ≤ w.heap.size) : Below B w w' :=
 k.below (fun g e => (World.ownsRow.lt h g e).1) hB
def intAt (l : List Int) (i : Nat) : Int := l.getD i 0
def LayI (w : World) (g : Nat) (l : List Int) : Prop :=
 g < w.heap.size ∧ (∀ i, i < l.length → w.cell? ⟨g, i, none⟩ = some (.int .i64 (intAt l i))) ∧ ∀ o, w.frozen? ⟨g, o, none⟩ = false
theorem Ins.lay {w : World} {B : Nat} {v : Value} {l : List Int} (h : Ins w B v l) : (v = .slice none 0 0 ∧ l = []) ∨ ∃ g c, v = .slice (some ⟨g, 0, none⟩) l.length c ∧ B ≤ g ∧ LayI w g l := by
 rcases h.2 with ⟨hn, h0⟩ | ⟨g, cap, cur, h1, h2, h3⟩
 ·exact Or.inl ⟨hn, List.eq_nil_of_length_eq_zero h0⟩
 ·refine Or.inr ⟨g, cap, h1, h2, ?_⟩
  subst h1
  refine ⟨(World.ownsRow.lt h g rfl).2, fun i hi => ?_, fun o => World.ownsRow.frozenAt h o⟩
  have := World.ownsRow.cellAt h i (by omega)
  rw [this]
  simp [intAt, hi]
theorem wp_in (w : World) {ops : Array Oper} {rest : List Oper} {o : Oper} {a : Act} {Q : PQ} (hgd : o.guard = none) (s x : Operand)
  (ho : o.op = .call { callee := .builtin .append, args := #[s, x], argTypes := #[26, 26] })
  (B : Nat) (v : Value) (l : List Int) (t : Int) (hs : a.eval s = v) (hown : Ins w B v l) (g : Nat) (hx : a.eval x = .slice (some ⟨g, 0, none⟩) 1 1) (hc : w.cell? ⟨g, 0, none⟩ = some (.int .i64 t))
  (h63 : l.length ≤ 10000000) (hB : B ≤ w.heap.size)
  (h : ∀ v' w', Ins w' B v' (l ++ [t]) → Ext v v' w w' → wpList Tryz.prog ops Q rest (a.put o.dst v') w') : wpList Tryz.prog ops Q (o :: rest) a w := by
 obtain ⟨i0, hi, hz0, hz1, hz2⟩ := ins_parts
 refine wpList_append_own_at w hgd s x 26 ho B 3 i0 (.int .i64 0) 1 8 Tryz.underlying26 hi hz0 hz1 hz2 rfl (by decide) v l.length (l.map (Value.int .i64)) hs hown ⟨g, 0, none⟩ 1 1 [.int .i64 t] hx rfl (fun j u hj => ?_) (fun u hu => ?_) (by unfold maxLen; omega) (by omega) hB ?_
 ·cases j with
  | zero => simp at hj; subst hj; simpa [Addr.add] using hc
  | succ j => simp at hj
 ·simp at hu; subst hu; rfl
 ·intro v' w' h1 h2 _ h4
  refine h v' w' ?_ ⟨h2, h4.imp id fun e => ⟨_, e, Nat.le_refl _⟩⟩
  unfold Ins
  rw [List.length_append, List.map_append]
  exact h1

def Ints (w : World) (a : Option Addr) (l : List Int) : Prop :=
 l = [] ∨ ∃ b off, a = some ⟨b, off, none⟩ ∧ b < w.heap.size ∧ ∀ i, i < l.length → w.cell? ⟨b, off + i, none⟩ = some (.int .i64 (intAt l i))
theorem Ints.nw {w w' : World} {a : Option Addr} {l : List Int} (h : Ints w a l) (k : Nw w w') : Ints w' a l := by
 rcases h with h | ⟨b, off, rfl, hb, hc⟩
 ·exact Or.inl h
 ·exact Or.inr ⟨b, off, rfl, Nat.lt_of_lt_of_le hb (Below.size k), fun i hi => ((bcell k).1 _ _ hb).trans (hc i hi)⟩
theorem LayI.ints {w : World} {g : Nat} {l : List Int} (h : LayI w g l) : Ints w (some ⟨g, 0, none⟩) l := Or.inr ⟨g, 0, rfl, h.1, fun i hi => by rw [Nat.zero_add]; exact h.2.1 i hi⟩
structure Dg where
 at' : Nat
 left : Int
 begun : Nat
 p : List Pnt
 o : List LD
def skipB (d : Dg) (q : Pnt) : Bool := decide (d.at' % 2 = 1) || (decide (0 < d.p.length) && decide (lastP d.p = q))
def reachD (d : Dg) (q : Pnt) : Dg := if skipB d q then d else ⟨d.at', d.left, d.begun, d.p ++ [q], d.o⟩
def layD (d : Dg) : Dg := ⟨d.at', d.left, d.begun, [], endL d.o d.p false⟩
def nextD (ns : List Int) (d : Dg) : Dg := ⟨d.at' + 1, intAt ns ((d.at' + 1) % ns.length), d.begun, d.p, d.o⟩
def moreD (d : Dg) : Dg := ⟨d.at', d.left, d.begun + 1, d.p, d.o⟩
def turnD (ns : List Int) (d : Dg) (q : Pnt) : Dg := reachD (moreD (nextD ns (layD (reachD d q)))) q
structure DH (bx : Nat) (w : World) (nv : Value) (a l b : Int) (v : Value) (it : Its) (u : Value) (p : List Pnt) : Prop where
 c0 : w.cell? ⟨bx, 0, none⟩ = some nv
 c1 : w.cell? ⟨bx, 1, none⟩ = some (.int .i64 a)
 c2 : w.cell? ⟨bx, 2, none⟩ = some (.int .i64 l)
 c3 : w.cell? ⟨bx, 3, none⟩ = some (.int .i64 b)
 c4 : w.cell? ⟨bx, 4, none⟩ = some u
 c5 : w.cell? ⟨bx, 5, none⟩ = some v
 free : ∀ o, w.frozen? ⟨bx, o, none⟩ = false
 d : D2 w (bx + 1) v it u p
section
variable {bx : Nat} {w w' : World} {nv : Value} {a l b : Int} {v u : Value} {it : Its} {p : List Pnt}
theorem DH.lt (h : DH bx w nv a l b v it u p) : bx < w.heap.size := World.block_lt_of_cell? w ⟨bx, 0, none⟩ h.c0
theorem DH.nw (h : DH bx w nv a l b v it u p) (k : Nw w w') : DH bx w' nv a l b v it u p := by
 have e := fun o => (bcell k).1 bx o h.lt
 exact ⟨(e _).trans h.c0, (e _).trans h.c1, (e _).trans h.c2, (e _).trans h.c3, (e _).trans h.c4, (e _).trans h.c5, fun o => ((bcell k).2 _ _ h.lt).trans (h.free o), h.d.nw k⟩
theorem DH.neu (h : DH bx w nv a l b v it u p) : u.ownBlock ≠ some bx := fun e => by have := (OwnQ.lt h.d.pt bx e).1; omega
theorem DH.nev (h : DH bx w nv a l b v it u p) : v.ownBlock ≠ some bx := fun e => by have := (OwnQ.lt h.d.ln.own bx e).1; omega
theorem DH.setA (h : DH bx w nv a l b v it u p) (x : Int) : DH bx (w.setCell ⟨bx, 1, none⟩ (.int .i64 x)) nv x l b v it u p ∧ Below bx w (w.setCell ⟨bx, 1, none⟩ (.int .i64 x)) := by
 have e : ∀ o, o ≠ 1 → (w.setCell ⟨bx, 1, none⟩ (.int .i64 x)).cell? ⟨bx, o, none⟩ = w.cell? ⟨bx, o, none⟩ := fun o ho => World.cell?_setCell_other _ _ _ _ (fun e => by injection e; omega)
 exact ⟨⟨(e _ (by decide)).trans h.c0, World.cell?_setCell_same w ⟨bx, 1, none⟩ _ h.c1, (e _ (by decide)).trans h.c2, (e _ (by decide)).trans h.c3, (e _ (by decide)).trans h.c4, (e _ (by decide)).trans h.c5, fun o => by rw [World.frozen?_setCell]; exact h.free o, h.d.far bx 1 _ (by omega)⟩, (Below.refl bx w).setCell (p := ⟨bx, 1, none⟩) (Nat.le_refl _) _⟩
theorem DH.setL (h : DH bx w nv a l b v it u p) (x : Int) : DH bx (w.setCell ⟨bx, 2, none⟩ (.int .i64 x)) nv a x b v it u p ∧ Below bx w (w.setCell ⟨bx, 2, none⟩ (.int .i64 x)) := by
 have e : ∀ o, o ≠ 2 → (w.setCell ⟨bx, 2, none⟩ (.int .i64 x)).cell? ⟨bx, o, none⟩ = w.cell? ⟨bx, o, none⟩ := fun o ho => World.cell?_setCell_other _ _ _ _ (fun e => by injection e; omega)
 exact ⟨⟨(e _ (by decide)).trans h.c0, (e _ (by decide)).trans h.c1, World.cell?_setCell_same w ⟨bx, 2, none⟩ _ h.c2, (e _ (by decide)).trans h.c3, (e _ (by decide)).trans h.c4, (e _ (by decide)).trans h.c5, fun o => by rw [World.frozen?_setCell]; exact h.free o, h.d.far bx 2 _ (by omega)⟩, (Below.refl bx w).setCell (p := ⟨bx, 2, none⟩) (Nat.le_refl _) _⟩
theorem DH.setB (h : DH bx w nv a l b v it u p) (x : Int) : DH bx (w.setCell ⟨bx, 3, none⟩ (.int .i64 x)) nv a l x v it u p ∧ Below bx w (w.setCell ⟨bx, 3, none⟩ (.int .i64 x)) := by
 have e : ∀ o, o ≠ 3 → (w.setCell ⟨bx, 3, none⟩ (.int .i64 x)).cell? ⟨bx, o, none⟩ = w.cell? ⟨bx, o, none⟩ := fun o ho => World.cell?_setCell_other _ _ _ _ (fun e => by injection e; omega)
 exact ⟨⟨(e _ (by decide)).trans h.c0, (e _ (by decide)).trans h.c1, (e _ (by decide)).trans h.c2, World.cell?_setCell_same w ⟨bx, 3, none⟩ _ h.c3, (e _ (by decide)).trans h.c4, (e _ (by decide)).trans h.c5, fun o => by rw [World.frozen?_setCell]; exact h.free o, h.d.far bx 3 _ (by omega)⟩, (Below.refl bx w).setCell (p := ⟨bx, 3, none⟩) (Nat.le_refl _) _⟩
theorem DH.pput {u' : Value} {p' : List Pnt} (h : DH bx w nv a l b v it u p) (x : Ext u u' w w') (ho : OwnP w' (bx + 1) u' p') : DH bx (w'.setCell ⟨bx, 4, none⟩ u') nv a l b v it u' p' ∧ Below bx w (w'.setCell ⟨bx, 4, none⟩ u') := by
 have hb := h.lt
 have e0 := fun o => Ext.cell x hb h.neu o
 have e : ∀ o, o ≠ 4 → (w'.setCell ⟨bx, 4, none⟩ u').cell? ⟨bx, o, none⟩ = w.cell? ⟨bx, o, none⟩ := fun o ho => by
  rw [World.cell?_setCell_other _ _ _ _ (fun e => by injection e; omega)]; exact e0 o
 refine ⟨⟨(e _ (by decide)).trans h.c0, (e _ (by decide)).trans h.c1, (e _ (by decide)).trans h.c2, (e _ (by decide)).trans h.c3, World.cell?_setCell_same w' ⟨bx, 4, none⟩ _ ((e0 4).trans h.c4), (e _ (by decide)).trans h.c5, fun o => ?_, (h.d.pput x ho).far bx 4 u' (by omega)⟩, ?_⟩
 ·rw [World.frozen?_setCell]; exact (World.frozen?_of_block (w := w) (a := ⟨bx, o, none⟩) (x.1.block bx hb (fun e => h.neu e.symm))).trans (h.free o)
 ·exact (x.below (fun g e => Nat.le_of_succ_le (OwnQ.lt h.d.pt g e).1) (by omega)).setCell (Nat.le_refl _) _
theorem DH.lput {v' : Value} {c : Bool} (h : DH bx w nv a l b v it u p) (x : Ext v v' w w') (ho : OwnQ 25 w' (bx + 1) v' (vLn (it ++ [(u, ⟨p, c⟩)]))) : DH bx ((w'.setCell ⟨bx, 5, none⟩ v').setCell ⟨bx, 4, none⟩ (.slice none 0 0)) nv a l b v' (it ++ [(u, ⟨p, c⟩)]) (.slice none 0 0) [] ∧ Below bx w ((w'.setCell ⟨bx, 5, none⟩ v').setCell ⟨bx, 4, none⟩ (.slice none 0 0)) := by
 have hb := h.lt
 have e0 := fun o => Ext.cell x hb h.nev o
 have e : ∀ o, o ≠ 4 → o ≠ 5 → ((w'.setCell ⟨bx, 5, none⟩ v').setCell ⟨bx, 4, none⟩ (.slice none 0 0)).cell? ⟨bx, o, none⟩ = w.cell? ⟨bx, o, none⟩ := fun o ho ho2 => by
  rw [World.cell?_setCell_other _ _ _ _ (fun e => by injection e; omega), World.cell?_setCell_other _ _ _ _ (fun e => by injection e; omega)]; exact e0 o
 have s5 := World.cell?_setCell_same w' ⟨bx, 5, none⟩ v' ((e0 5).trans h.c5)
 have s4 : (w'.setCell ⟨bx, 5, none⟩ v').cell? ⟨bx, 4, none⟩ = some u := by
  rw [World.cell?_setCell_other _ _ _ _ (fun e => by injection e; omega)]; exact (e0 4).trans h.c4
 refine ⟨⟨(e _ (by decide) (by decide)).trans h.c0, (e _ (by decide) (by decide)).trans h.c1, (e _ (by decide) (by decide)).trans h.c2, (e _ (by decide) (by decide)).trans h.c3, World.cell?_setCell_same _ ⟨bx, 4, none⟩ _ s4, ?_, fun o => ?_, ⟨((h.d.lput ho x).farSet bx 5 v' (by omega)).farSet bx 4 _ (by omega), OwnP.nil _ _, Apt.nil _ _⟩⟩, ?_⟩
 ·rw [World.cell?_setCell_other _ _ _ _ (fun e => by injection e; omega)]; exact s5
 ·rw [World.frozen?_setCell, World.frozen?_setCell]; exact (World.frozen?_of_block (w := w) (a := ⟨bx, o, none⟩) (x.1.block bx hb (fun e => h.nev e.symm))).trans (h.free o)
 ·exact ((x.below (fun g e => Nat.le_of_succ_le (OwnQ.lt h.d.ln.own g e).1) (by omega)).setCell (Nat.le_refl _) _).setCell (Nat.le_refl _) _
theorem DH.drop (h : DH bx w nv a l b v it u p) : DH bx (w.setCell ⟨bx, 4, none⟩ (.slice none 0 0)) nv a l b v it (.slice none 0 0) [] ∧ Below bx w (w.setCell ⟨bx, 4, none⟩ (.slice none 0 0)) := by
 have e : ∀ o, o ≠ 4 → (w.setCell ⟨bx, 4, none⟩ (.slice none 0 0)).cell? ⟨bx, o, none⟩ = w.cell? ⟨bx, o, none⟩ := fun o ho => World.cell?_setCell_other _ _ _ _ (fun e => by injection e; omega)
 exact ⟨⟨(e _ (by decide)).trans h.c0, (e _ (by decide)).trans h.c1, (e _ (by decide)).trans h.c2, (e _ (by decide)).trans h.c3, World.cell?_setCell_same w ⟨bx, 4, none⟩ _ h.c4, (e _ (by decide)).trans h.c5, fun o => by rw [World.frozen?_setCell]; exact h.free o, ⟨h.d.ln.farSet bx 4 _ (by omega), OwnP.nil _ _, Apt.nil _ _⟩⟩, (Below.refl bx w).setCell (p := ⟨bx, 4, none⟩) (Nat.le_refl _) _⟩
end
def Kb (bx : Nat) (w : World) (v : Value) (it : Its) (u : Value) (K : List (Nat × Int × Int)) : Prop := ∀ k, k ∈ K → w.cell? ⟨k.1, 0, none⟩ = some (.int .i64 k.2.1) ∧ w.cell? ⟨k.1, 1, none⟩ = some (.int .i64 k.2.2) ∧ (∀ o, w.frozen? ⟨k.1, o, none⟩ = false) ∧ k.1 ≠ bx ∧ u.ownBlock ≠ some k.1 ∧ v.ownBlock ≠ some k.1 ∧ ∀ i, i < it.length → (itAt it i).1.ownBlock ≠ some k.1
section
variable {bx : Nat} {w w' : World} {v u : Value} {it : Its} {K : List (Nat × Int × Int)}
theorem Kb.nw (h : Kb bx w v it u K) (k : Nw w w') : Kb bx w' v it u K := fun q hq => by
 obtain ⟨h1, h2, h3, h4⟩ := h q hq
 have hb : q.1 < w.heap.size := World.block_lt_of_cell? w ⟨q.1, 0, none⟩ h1
 exact ⟨((bcell k).1 _ _ hb).trans h1, ((bcell k).1 _ _ hb).trans h2, fun o => ((bcell k).2 _ _ hb).trans (h3 o), h4⟩
theorem Kb.set (h : Kb bx w v it u K) (o : Nat) (x : Value) : Kb bx (w.setCell ⟨bx, o, none⟩ x) v it u K := fun q hq => by
 obtain ⟨h1, h2, h3, h4, h5⟩ := h q hq
 exact ⟨by rw [World.cell?_setCell_other _ _ _ _ (fun e => by injection e; omega)]; exact h1, by rw [World.cell?_setCell_other _ _ _ _ (fun e => by injection e; omega)]; exact h2, fun o => by rw [World.frozen?_setCell]; exact h3 o, h4, h5⟩
theorem Kb.pput {u' : Value} (h : Kb bx w v it u K) (x : Ext u u' w w') : Kb bx w' v it u' K := fun q hq => by
 obtain ⟨h1, h2, h3, h4, h5, h6⟩ := h q hq
 have hb : q.1 < w.heap.size := World.block_lt_of_cell? w ⟨q.1, 0, none⟩ h1
 exact ⟨(Ext.cell x hb h5 0).trans h1, (Ext.cell x hb h5 1).trans h2, fun o => (World.frozen?_of_block (a := ⟨q.1, o, none⟩) (x.1.block q.1 hb (fun e => h5 e.symm))).trans (h3 o), h4, Ext.apart x hb h5, h6⟩
theorem Kb.lput {v' : Value} {ld : LD} (h : Kb bx w v it u K) (x : Ext v v' w w') : Kb bx w' v' (it ++ [(u, ld)]) u K := fun q hq => by
 obtain ⟨h1, h2, h3, h4, h5, h6, h7⟩ := h q hq
 have hb : q.1 < w.heap.size := World.block_lt_of_cell? w ⟨q.1, 0, none⟩ h1
 exact ⟨(Ext.cell x hb h6 0).trans h1, (Ext.cell x hb h6 1).trans h2, fun o => (World.frozen?_of_block (a := ⟨q.1, o, none⟩) (x.1.block q.1 hb (fun e => h6 e.symm))).trans (h3 o), h4, h5, Ext.apart x hb h6, fun i hi => by
  rw [List.length_append, List.length_singleton] at hi
  by_cases e : i = it.length
  ·subst e; rw [itAt_new]; exact h5
  ·rw [itAt_old it _ i (by omega)]; exact h7 i (by omega)⟩
theorem Kb.drop (h : Kb bx w v it u K) : Kb bx w v it (.slice none 0 0) K := fun q hq => by
 obtain ⟨h1, h2, h3, h4, h5, h6⟩ := h q hq
 exact ⟨h1, h2, h3, h4, (fun e => by cases e), h6⟩
theorem Kb.sub {K' : List (Nat × Int × Int)} (h : Kb bx w v it u K) (hs : ∀ k, k ∈ K' → k ∈ K) : Kb bx w v it u K' := fun q hq => h q (hs q hq)
theorem Kb.box (h : Kb bx w v it u K) (hb : bx < w.heap.size) (hu : ∀ g, u.ownBlock = some g → g < w.heap.size) (hv : ∀ g, v.ownBlock = some g → g < w.heap.size) (hi : ∀ i, i < it.length → ∀ g, (itAt it i).1.ownBlock = some g → g < w.heap.size) (x y : Int) (t : TypeId) : Kb bx (w.alloc (.cells #[.int .i64 x, .int .i64 y] t)) v it u ((w.heap.size, x, y) :: K) := fun q hq => by
 rcases List.mem_cons.1 hq with rfl | hq
 ·exact ⟨World.cell?_alloc_at _ _ _ _ rfl, World.cell?_alloc_at _ _ _ _ rfl, fun o => World.frozen?_alloc_at _ _ _ _ rfl, by show w.heap.size ≠ bx; omega, fun e => by have := hu _ e; simp at this, (fun e => by have := hv _ e; simp at this), fun i hj e => by have := hi i hj _ e; simp at this⟩
 ·exact Kb.nw h ((Below.refl _ _).alloc (Nat.le_refl _) _) q hq
end
def DhS (bx : Nat) (w0 w : World) (K : List (Nat × Int × Int)) (na : Option Addr) (nc : Nat) (ns : List Int) (d : Dg) : Prop := ∃ v it u, DH bx w (.slice na ns.length nc) d.at' d.left d.begun v it u d.p ∧ it.map (·.2) = d.o ∧ Nw w0 w ∧ Kb bx w v it u K
theorem DhS.box {bx : Nat} {w0 w : World} {K : List (Nat × Int × Int)} {na : Option Addr} {nc : Nat} {ns : List Int} {d : Dg} (h : DhS bx w0 w K na nc ns d) (x y : Int) (t : TypeId) : DhS bx w0 (w.alloc (.cells #[.int .i64 x, .int .i64 y] t)) ((w.heap.size, x, y) :: K) na nc ns d := by
 obtain ⟨v, it, u, hd, ho, hw, hk⟩ := h
 have n1 : Nw w (w.alloc (.cells #[.int .i64 x, .int .i64 y] t)) := (Below.refl _ _).alloc (Nat.le_refl _) _
 exact ⟨v, it, u, hd.nw n1, ho, Nw.trans hw n1, hk.box hd.lt (fun g e => (OwnQ.lt hd.d.pt g e).2) (fun g e => (OwnQ.lt hd.d.ln.own g e).2) (fun i hi g e => (OwnQ.lt (hd.d.ln.pts i hi) g e).2) x y t⟩
theorem DhS.sub {bx : Nat} {w0 w : World} {K K' : List (Nat × Int × Int)} {na : Option Addr} {nc : Nat} {ns : List Int} {d : Dg} (h : DhS bx w0 w K na nc ns d) (hs : ∀ k, k ∈ K' → k ∈ K) : DhS bx w0 w K' na nc ns d := by
 obtain ⟨v, it, u, hd, ho, hw, hk⟩ := h
 exact ⟨v, it, u, hd, ho, hw, hk.sub hs⟩
theorem DhS.nw {bx : Nat} {w0 w w' : World} {K : List (Nat × Int × Int)} {na : Option Addr} {nc : Nat} {ns : List Int} {d : Dg} (h : DhS bx w0 w K na nc ns d) (k : Nw w w') : DhS bx w0 w' K na nc ns d := by
 obtain ⟨v, it, u, hd, ho, hw, hk⟩ := h
 exact ⟨v, it, u, hd.nw k, ho, Nw.trans hw k, hk.nw k⟩
theorem DhS.at {bx : Nat} {w0 w : World} {K : List (Nat × Int × Int)} {na : Option Addr} {nc : Nat} {ns : List Int} {d : Dg} (h : DhS bx w0 w K na nc ns d) {b : Nat} {x y : Int} (hm : (b, x, y) ∈ K) : w.cell? ⟨b, 0, none⟩ = some (.int .i64 x) ∧ w.cell? ⟨b, 1, none⟩ = some (.int .i64 y) := by
 obtain ⟨v, it, u, hd, ho, hw, hk⟩ := h
 obtain ⟨h1, h2, _⟩ := hk _ hm
 exact ⟨h1, h2⟩
theorem D2.off {w : World} {B : Nat} {v u : Value} {it : Its} {p : List Pnt} (h : D2 w B v it u p) (b o : Nat) (x : Value) (hu : u.ownBlock ≠ some b) (hv : v.ownBlock ≠ some b) (hi : ∀ i, i < it.length → (itAt it i).1.ownBlock ≠ some b) : D2 (w.setCell ⟨b, o, none⟩ x) B v it u p :=
 ⟨⟨OwnQ.far h.ln.own b o x hv, fun i hj => OwnQ.far (h.ln.pts i hj) b o x (hi i hj), h.ln.far, h.ln.apart⟩, OwnQ.far h.pt b o x hu, h.ap⟩
theorem DH.off {bx : Nat} {w : World} {nv : Value} {a l b : Int} {v u : Value} {it : Its} {p : List Pnt} (h : DH bx w nv a l b v it u p) (c o : Nat) (x : Value) (hc : c ≠ bx) (hu : u.ownBlock ≠ some c) (hv : v.ownBlock ≠ some c) (hi : ∀ i, i < it.length → (itAt it i).1.ownBlock ≠ some c) : DH bx (w.setCell ⟨c, o, none⟩ x) nv a l b v it u p := by
 have e : ∀ q, (w.setCell ⟨c, o, none⟩ x).cell? ⟨bx, q, none⟩ = w.cell? ⟨bx, q, none⟩ := fun q => World.cell?_setCell_other _ _ _ _ (fun e => by injection e; omega)
 exact ⟨(e _).trans h.c0, (e _).trans h.c1, (e _).trans h.c2, (e _).trans h.c3, (e _).trans h.c4, (e _).trans h.c5, fun o => by rw [World.frozen?_setCell]; exact h.free o, h.d.off c o x hu hv hi⟩
theorem DhS.move {bx : Nat} {w0 w : World} {na : Option Addr} {nc : Nat} {ns : List Int} {d : Dg} {b : Nat} {x y : Int} (h : DhS bx w0 w [(b, x, y)] na nc ns d) (hb : w0.heap.size ≤ b) (x' y' : Int) : DhS bx w0 ((w.setCell ⟨b, 0, none⟩ (.int .i64 x')).setCell ⟨b, 1, none⟩ (.int .i64 y')) [(b, x', y')] na nc ns d := by
 obtain ⟨v, it, u, hd, ho, hw, hk⟩ := h
 obtain ⟨k1, k2, k3, k4, k5, k6, k7⟩ := hk _ (List.mem_cons_self ..)
 simp only at k1 k2 k3 k4 k5 k6 k7
 have s1 : (w.setCell ⟨b, 0, none⟩ (.int .i64 x')).cell? ⟨b, 1, none⟩ = some (.int .i64 y) := by
  rw [World.cell?_setCell_other _ _ _ _ (fun e => by injection e; omega)]; exact k2
 refine ⟨v, it, u, (hd.off b 0 _ k4 k5 k6 k7).off b 1 _ k4 k5 k6 k7, ho, (hw.setCell hb _).setCell hb _, fun q hq => ?_⟩
 obtain rfl := List.mem_singleton.1 hq
 refine ⟨?_, World.cell?_setCell_same _ ⟨b, 1, none⟩ _ s1, fun o => by rw [World.frozen?_setCell, World.frozen?_setCell]; exact k3 o, k4, k5, k6, k7⟩
 show ((w.setCell ⟨b, 0, none⟩ (.int .i64 x')).setCell ⟨b, 1, none⟩ (.int .i64 y')).cell? ⟨b, 0, none⟩ = some (.int .i64 x')
 rw [World.cell?_setCell_other _ _ _ _ (fun e => by injection e; omega)]
 exact World.cell?_setCell_same w ⟨b, 0, none⟩ _ k1
theorem DhS.new (w : World) (na : Option Addr) (nc : Nat) (ns : List Int) (x : Int) (t : TypeId) : DhS w.heap.size w (w.alloc (.cells #[.slice na ns.length nc, .int .i64 0, .int .i64 x, .int .i64 0, .slice none 0 0, .slice none 0 0] t)) [] na nc ns ⟨0, x, 0, [], []⟩ :=
 ⟨.slice none 0 0, [], .slice none 0 0, ⟨World.cell?_alloc_at _ _ _ _ rfl, World.cell?_alloc_at _ _ _ _ rfl, World.cell?_alloc_at _ _ _ _ rfl, World.cell?_alloc_at _ _ _ _ rfl, World.cell?_alloc_at _ _ _ _ rfl, World.cell?_alloc_at _ _ _ _ rfl, fun o => World.frozen?_alloc_at _ _ _ _ rfl, D2.nil _ _⟩, rfl, (Below.refl _ _).alloc (Nat.le_refl _) _, fun q hq => absurd hq (by simp)⟩
end Go.Proofs.YtnkeljmecbohkaaGreat
