/-
  The statements of the path's reader that draw their order, w
-/
import Derived.Test.YtdjemnbdaddegaaJAG
import Derived.Test.YtdjemnbdaddegaaJAH
import Derived.Test.YtdjemnbdaddegaaJAC
import Derived.Deep.DeepCutAuto
import Derived.Deep.QuietTactic
import Derived.BigQuiet
import Derived.Test.YtdjemnbdaddegaaJAD
import Derived.Test.YtdjemnbdaddegaaJAA
namespace Go.Proofs.Ytdjemnbdaddegaa
open Go.ChangeShapes Go.WideShapes Go.ChangeAt Go.RowKit
set_option linter.unusedVariables false
set_option linter.unusedSimpArgs false
structure PS7 where
 gb : Nat
 n : Nat
 c : Nat
 k : Nat
 P : Nat
 x : Int
 y : Int
 z : Int
 W : World
 a0 : Act
structure PS7Ok (X : PS7) : Prop where
 hk : X.k < X.n
 cx : X.W.cell? ⟨X.gb, X.k, none⟩ = some (.int .i64 X.x)
 cp : X.W.cell? ⟨X.P, 3, none⟩ = some (.int .i64 X.y)
 wz : IntKind.i64.wrap (X.x + X.y) = X.z
 ff : ∀ o, X.W.frozen? ⟨X.gb, o, none⟩ = false
 e0 : X.a0.eval (.tmp 0) = .pointer (some ⟨X.P, 0, none⟩)
 e6 : X.a0.eval (.tmp 6) = .slice (some ⟨X.gb, 0, none⟩) X.n X.c
 e7 : X.a0.eval (.tmp 7) = .int .i64 (X.k : Int)
 sz : X.a0.tmps.size = 174
def PS7.val0 (X : PS7) : Nat → Value
 | 0 => .pointer (some ⟨X.P, 0, none⟩)
 | 6 => .slice (some ⟨X.gb, 0, none⟩) X.n X.c
 | 7 => .int .i64 (X.k : Int)
 | 34 => .slice (some ⟨X.gb, 0, none⟩) X.n X.c
 | 35 => .int .i64 (X.k : Int)
 | 36 => .pointer (some ⟨X.gb, X.k, none⟩)
 | 37 => .int .i64 X.x
 | 38 => .pointer (some ⟨X.P, 0, none⟩)
 | 39 => .pointer (some ⟨X.P, 0, none⟩)
 | 40 => .pointer (some ⟨X.P, 3, none⟩)
 | 41 => .int .i64 X.y
 | 42 => .int .i64 X.z
 | 43 => .pointer (some ⟨X.gb, X.k, none⟩)
 | _ => undef
def PS7.av : Nat → Option Nat
 | _ => none
def PS7.acts : List Nat := [10]
def PS7.Wd (X : PS7) : Nat → (Nat → Value) → World → Prop
  | 0, _, w => w = X.W
  | _, _, w => w = X.W.setCell ⟨X.gb, X.k, none⟩ (.int .i64 X.z)
theorem PS7.chain : chainG (opsOf 7 Try.f146) PS7.acts = true := by kernel_rfl
theorem PS7.nodup : PS7.acts.Nodup := by decide
def PS7.L : List (Option Nat × Op × Option (Nat × Bool)) := [
 (some 34, .move (.tmp 6), none),
 (some 35, .move (.tmp 7), none),
 (some 36, .indexAddr 77 (.tmp 34) (.tmp 35), none),
 (some 37, .load 3 (.tmp 36), none),
 (some 38, .move (.tmp 0), none),
 (some 39, .nilCheck (.tmp 38), none),
 (some 40, .fieldAddr 182 (.tmp 39) 3, none),
 (some 41, .load 3 (.tmp 40), none),
 (some 42, .binOp .add 3 (.tmp 37) (.tmp 41) 3, none),
 (some 43, .indexAddr 77 (.tmp 34) (.tmp 35), none),
 (none, .store 3 (.tmp 43) (.tmp 42), none)]
theorem PS7.isL : (opsOf 7 Try.f146).toList.map tri = PS7.L := by kernel_rfl
theorem PS7.ini {X : PS7} (ok : PS7Ok X) : ∀ n ∈ [0, 6, 7], X.a0.eval (.tmp n) = X.val0 n := by
 simp only [List.forall_mem_cons]
 exact ⟨ok.e0, ok.e6, ok.e7, List.forall_mem_nil _⟩
abbrev PS7.St (X : PS7) (Q : PQ) (i : Nat) : Prop := StepG (opsOf 7 Try.f146) PS7.acts PS7.av X.val0 X.Wd X.a0 Q i
theorem PS7.plain (X : PS7) (ok : PS7Ok X) {Q : PQ} : ∀ i ∈ [0, 1, 2, 4, 5, 6, 8, 9], PS7.St X Q i := by
 simp only [List.forall_mem_cons]
 refine ⟨?_, ?_, ?_, ?_, ?_, ?_, ?_, ?_, List.forall_mem_nil _⟩
 all_goals
  refine st_plain PS7.isL (PS7.ini ok) ok.sz rfl (by kernel_rfl) ?_
  intro γ w n o hW hop
  unfold execOp
  rw [hop]
  simp [envR, valG, PS7.av, PS7.val0, ok.hk, ok.wz, go_sem]
theorem PS7.soon (X : PS7) (ok : PS7Ok X) {Q : PQ} : ∀ i ∈ [3, 7], PS7.St X Q i := by
 simp only [List.forall_mem_cons]
 refine ⟨?_, ?_, List.forall_mem_nil _⟩
 all_goals
  refine st_plainM (m := 0) PS7.isL (PS7.ini ok) ok.sz rfl (by kernel_rfl) ?_
  intro γ w n o hn hW hop
  obtain rfl : n = 0 := by omega
  have hk : w = X.W := hW
  subst hk
  unfold execOp
  rw [hop]
  simp [envR, valG, PS7.av, PS7.val0, ok.cx, ok.cp, go_sem]
theorem PS7.s10 (X : PS7) (ok : PS7Ok X) {Q : PQ} : PS7.St X Q 10 := by
 intro γ listed a w o hF hC hW h1 ho h2
 obtain ⟨hd, hop, hg⟩ := fieldsL PS7.isL (i := 10) rfl ho
 have e43 : a.eval (.tmp 43) = .pointer (some ⟨X.gb, X.k, none⟩) := known hF ho h2 (PS7.ini ok) ok.sz (by kernel_rfl)
 have e42 : a.eval (.tmp 42) = .int .i64 X.z := known hF ho h2 (PS7.ini ok) ok.sz (by kernel_rfl)
 have hu := unl (hF.lt ho) h1
 refine st_actG (k := 0) PS7.chain PS7.nodup rfl hF hC hW h1 ho h2 (Or.inl hd) (injG (by kernel_rfl) hu) hg ?_
 intro hW0 K hK
 have hw0 : w = X.W := hW0
 have f0 := ok.cx
 have ff := ok.ff
 have hr : (execOp a.eval o).run Try.prog X.W = .ok .skip (X.W.setCell ⟨X.gb, X.k, none⟩ (.int .i64 X.z)) := by
  generalize a.eval = ρ at e42 e43 ⊢
  unfold execOp
  rw [hop]
  simp [e42, e43, f0, ff, go_sem]
 unfold Oper.wp
 rw [hw0, hr]
 exact hK undef _ rfl
theorem PS7.size : (opsOf 7 Try.f146).size = 11 := by kernel_rfl
theorem PS7.rest (X : PS7) (ok : PS7Ok X) {Q : PQ} : ∀ i ∈ [10], PS7.St X Q i := by
 simp only [List.forall_mem_cons]
 exact ⟨PS7.s10 X ok, List.forall_mem_nil _⟩
theorem PS7.steps (X : PS7) (ok : PS7Ok X) {Q : PQ} (i : Nat) (hi : i < (opsOf 7 Try.f146).size) : PS7.St X Q i := by
 rw [PS7.size] at hi
 rcases (by decide : ∀ i, i < 11 → i ∈ [0, 1, 2, 4, 5, 6, 8, 9] ∨ i ∈ [3, 7] ∨ i ∈ [10]) i hi with h | h | h
 · exact PS7.plain X ok i h
 · exact PS7.soon X ok i h
 · exact PS7.rest X ok i h
theorem PS7.run (X : PS7) (ok : PS7Ok X) {Q : PQ} (w : World) (h0 : X.Wd 0 (fun _ => undef) w.drew) (hend : ∀ (γ : Nat → Value) w', X.Wd 1 γ w' → Q .normal ((((((((((X.a0.put (some 34) (.slice (some ⟨X.gb, 0, none⟩) X.n X.c)).put (some 35) (.int .i64 (X.k : Int))).put (some 36) (.pointer (some ⟨X.gb, X.k, none⟩))).put (some 37) (.int .i64 X.x)).put (some 38) (.pointer (some ⟨X.P, 0, none⟩))).put (some 39) (.pointer (some ⟨X.P, 0, none⟩))).put (some 40) (.pointer (some ⟨X.P, 3, none⟩))).put (some 41) (.int .i64 X.y)).put (some 42) (.int .i64 X.z)).put (some 43) (.pointer (some ⟨X.gb, X.k, none⟩))) w') : (Code.region 7 (opsOf 7 Try.f146) true).wp Try.prog Q X.a0 w := by
 refine reg_act (acts := PS7.acts) (av := PS7.av) (val0 := X.val0) (Wd := X.Wd) (by kernel_rfl) (by kernel_rfl) (by rw [PS7.size]; decide) (fun i hi => PS7.steps X ok i hi) _ h0 ?_
 intro γ w' h
 exact end_at (hend γ w' h) (by kernel_rfl)
structure PS8 where
 gb : Nat
 n : Nat
 c : Nat
 k : Nat
 P : Nat
 x : Int
 y : Int
 z : Int
 W : World
 a0 : Act
structure PS8Ok (X : PS8) : Prop where
 hk : X.k < X.n
 cx : X.W.cell? ⟨X.gb, X.k, none⟩ = some (.int .i64 X.x)
 cp : X.W.cell? ⟨X.P, 2, none⟩ = some (.int .i64 X.y)
 wz : IntKind.i64.wrap (X.x + X.y) = X.z
 ff : ∀ o, X.W.frozen? ⟨X.gb, o, none⟩ = false
 e0 : X.a0.eval (.tmp 0) = .pointer (some ⟨X.P, 0, none⟩)
 e6 : X.a0.eval (.tmp 6) = .slice (some ⟨X.gb, 0, none⟩) X.n X.c
 e7 : X.a0.eval (.tmp 7) = .int .i64 (X.k : Int)
 sz : X.a0.tmps.size = 174
def PS8.val0 (X : PS8) : Nat → Value
 | 0 => .pointer (some ⟨X.P, 0, none⟩)
 | 6 => .slice (some ⟨X.gb, 0, none⟩) X.n X.c
 | 7 => .int .i64 (X.k : Int)
 | 44 => .slice (some ⟨X.gb, 0, none⟩) X.n X.c
 | 45 => .int .i64 (X.k : Int)
 | 46 => .pointer (some ⟨X.gb, X.k, none⟩)
 | 47 => .int .i64 X.x
 | 48 => .pointer (some ⟨X.P, 0, none⟩)
 | 49 => .pointer (some ⟨X.P, 0, none⟩)
 | 50 => .pointer (some ⟨X.P, 2, none⟩)
 | 51 => .int .i64 X.y
 | 52 => .int .i64 X.z
 | 53 => .pointer (some ⟨X.gb, X.k, none⟩)
 | _ => undef
def PS8.av : Nat → Option Nat
 | _ => none
def PS8.acts : List Nat := [10]
def PS8.Wd (X : PS8) : Nat → (Nat → Value) → World → Prop
  | 0, _, w => w = X.W
  | _, _, w => w = X.W.setCell ⟨X.gb, X.k, none⟩ (.int .i64 X.z)
theorem PS8.chain : chainG (opsOf 8 Try.f146) PS8.acts = true := by kernel_rfl
theorem PS8.nodup : PS8.acts.Nodup := by decide
def PS8.L : List (Option Nat × Op × Option (Nat × Bool)) := [
 (some 44, .move (.tmp 6), none),
 (some 45, .move (.tmp 7), none),
 (some 46, .indexAddr 77 (.tmp 44) (.tmp 45), none),
 (some 47, .load 3 (.tmp 46), none),
 (some 48, .move (.tmp 0), none),
 (some 49, .nilCheck (.tmp 48), none),
 (some 50, .fieldAddr 182 (.tmp 49) 2, none),
 (some 51, .load 3 (.tmp 50), none),
 (some 52, .binOp .add 3 (.tmp 47) (.tmp 51) 3, none),
 (some 53, .indexAddr 77 (.tmp 44) (.tmp 45), none),
 (none, .store 3 (.tmp 53) (.tmp 52), none)]
theorem PS8.isL : (opsOf 8 Try.f146).toList.map tri = PS8.L := by kernel_rfl
theorem PS8.ini {X : PS8} (ok : PS8Ok X) : ∀ n ∈ [0, 6, 7], X.a0.eval (.tmp n) = X.val0 n := by
 simp only [List.forall_mem_cons]
 exact ⟨ok.e0, ok.e6, ok.e7, List.forall_mem_nil _⟩
abbrev PS8.St (X : PS8) (Q : PQ) (i : Nat) : Prop := StepG (opsOf 8 Try.f146) PS8.acts PS8.av X.val0 X.Wd X.a0 Q i
theorem PS8.plain (X : PS8) (ok : PS8Ok X) {Q : PQ} : ∀ i ∈ [0, 1, 2, 4, 5, 6, 8, 9], PS8.St X Q i := by
 simp only [List.forall_mem_cons]
 refine ⟨?_, ?_, ?_, ?_, ?_, ?_, ?_, ?_, List.forall_mem_nil _⟩
 all_goals
  refine st_plain PS8.isL (PS8.ini ok) ok.sz rfl (by kernel_rfl) ?_
  intro γ w n o hW hop
  unfold execOp
  rw [hop]
  simp [envR, valG, PS8.av, PS8.val0, ok.hk, ok.wz, go_sem]
theorem PS8.soon (X : PS8) (ok : PS8Ok X) {Q : PQ} : ∀ i ∈ [3, 7], PS8.St X Q i := by
 simp only [List.forall_mem_cons]
 refine ⟨?_, ?_, List.forall_mem_nil _⟩
 all_goals
  refine st_plainM (m := 0) PS8.isL (PS8.ini ok) ok.sz rfl (by kernel_rfl) ?_
  intro γ w n o hn hW hop
  obtain rfl : n = 0 := by omega
  have hk : w = X.W := hW
  subst hk
  unfold execOp
  rw [hop]
  simp [envR, valG, PS8.av, PS8.val0, ok.cx, ok.cp, go_sem]
theorem PS8.s10 (X : PS8) (ok : PS8Ok X) {Q : PQ} : PS8.St X Q 10 := by
 intro γ listed a w o hF hC hW h1 ho h2
 obtain ⟨hd, hop, hg⟩ := fieldsL PS8.isL (i := 10) rfl ho
 have e53 : a.eval (.tmp 53) = .pointer (some ⟨X.gb, X.k, none⟩) := known hF ho h2 (PS8.ini ok) ok.sz (by kernel_rfl)
 have e52 : a.eval (.tmp 52) = .int .i64 X.z := known hF ho h2 (PS8.ini ok) ok.sz (by kernel_rfl)
 have hu := unl (hF.lt ho) h1
 refine st_actG (k := 0) PS8.chain PS8.nodup rfl hF hC hW h1 ho h2 (Or.inl hd) (injG (by kernel_rfl) hu) hg ?_
 intro hW0 K hK
 have hw0 : w = X.W := hW0
 have f0 := ok.cx
 have ff := ok.ff
 have hr : (execOp a.eval o).run Try.prog X.W = .ok .skip (X.W.setCell ⟨X.gb, X.k, none⟩ (.int .i64 X.z)) := by
  generalize a.eval = ρ at e52 e53 ⊢
  unfold execOp
  rw [hop]
  simp [e52, e53, f0, ff, go_sem]
 unfold Oper.wp
 rw [hw0, hr]
 exact hK undef _ rfl
theorem PS8.size : (opsOf 8 Try.f146).size = 11 := by kernel_rfl
theorem PS8.rest (X : PS8) (ok : PS8Ok X) {Q : PQ} : ∀ i ∈ [10], PS8.St X Q i := by
 simp only [List.forall_mem_cons]
 exact ⟨PS8.s10 X ok, List.forall_mem_nil _⟩
theorem PS8.steps (X : PS8) (ok : PS8Ok X) {Q : PQ} (i : Nat) (hi : i < (opsOf 8 Try.f146).size) : PS8.St X Q i := by
 rw [PS8.size] at hi
 rcases (by decide : ∀ i, i < 11 → i ∈ [0, 1, 2, 4, 5, 6, 8, 9] ∨ i ∈ [3, 7] ∨ i ∈ [10]) i hi with h | h | h
 · exact PS8.plain X ok i h
 · exact PS8.soon X ok i h
 · exact PS8.rest X ok i h
theorem PS8.run (X : PS8) (ok : PS8Ok X) {Q : PQ} (w : World) (h0 : X.Wd 0 (fun _ => undef) w.drew) (hend : ∀ (γ : Nat → Value) w', X.Wd 1 γ w' → Q .normal ((((((((((X.a0.put (some 44) (.slice (some ⟨X.gb, 0, none⟩) X.n X.c)).put (some 45) (.int .i64 (X.k : Int))).put (some 46) (.pointer (some ⟨X.gb, X.k, none⟩))).put (some 47) (.int .i64 X.x)).put (some 48) (.pointer (some ⟨X.P, 0, none⟩))).put (some 49) (.pointer (some ⟨X.P, 0, none⟩))).put (some 50) (.pointer (some ⟨X.P, 2, none⟩))).put (some 51) (.int .i64 X.y)).put (some 52) (.int .i64 X.z)).put (some 53) (.pointer (some ⟨X.gb, X.k, none⟩))) w') : (Code.region 8 (opsOf 8 Try.f146) true).wp Try.prog Q X.a0 w := by
 refine reg_act (acts := PS8.acts) (av := PS8.av) (val0 := X.val0) (Wd := X.Wd) (by kernel_rfl) (by kernel_rfl) (by rw [PS8.size]; decide) (fun i hi => PS8.steps X ok i hi) _ h0 ?_
 intro γ w' h
 exact end_at (hend γ w' h) (by kernel_rfl)
structure PS21 where
 gb : Nat
 n : Nat
 c : Nat
 P : Nat
 x : Int
 y : Int
 PP : World → Prop
 W : World
 a0 : Act
structure PS21Ok (X : PS21) : Prop where
 hn : X.n ≠ 0
 cn : X.W.cell? ⟨X.gb, 0, none⟩ = some (.int .i64 X.x)
 cp : X.W.cell? ⟨X.P, 3, none⟩ = some (.int .i64 X.y)
 hc : Calls Try.prog 150 #[.pointer (some ⟨X.P, 0, none⟩), .int .i64 2, .slice (some ⟨X.W.heap.size, 0, none⟩) 2 2] (X.W.alloc (.cells #[.int .i64 X.x, .int .i64 X.y] 3)) fun e w' => e = .returned (.tuple #[]) ∧ X.PP w'
 e0 : X.a0.eval (.tmp 0) = .pointer (some ⟨X.P, 0, none⟩)
 e6 : X.a0.eval (.tmp 6) = .slice (some ⟨X.gb, 0, none⟩) X.n X.c
 sz : X.a0.tmps.size = 174
def PS21.val0 (X : PS21) : Nat → Value
 | 0 => .pointer (some ⟨X.P, 0, none⟩)
 | 6 => .slice (some ⟨X.gb, 0, none⟩) X.n X.c
 | 98 => .pointer (some ⟨X.P, 0, none⟩)
 | 99 => .slice (some ⟨X.gb, 0, none⟩) X.n X.c
 | 100 => .pointer (some ⟨X.gb, 0, none⟩)
 | 101 => .int .i64 X.x
 | 102 => .pointer (some ⟨X.P, 0, none⟩)
 | 103 => .pointer (some ⟨X.P, 0, none⟩)
 | 104 => .pointer (some ⟨X.P, 3, none⟩)
 | 105 => .int .i64 X.y
 | _ => undef
def PS21.av : Nat → Option Nat
 | 106 => some 0
 | 107 => some 1
 | _ => none
def PS21.acts : List Nat := [8, 9]
def PS21.Wd (X : PS21) : Nat → (Nat → Value) → World → Prop
  | 0, _, w => w = X.W
  | 1, γ, w => γ 0 = .slice (some ⟨X.W.heap.size, 0, none⟩) 2 2 ∧ w = X.W.alloc (.cells #[.int .i64 X.x, .int .i64 X.y] 3)
  | _, _, w => X.PP w
theorem PS21.chain : chainG (opsOf 21 Try.f146) PS21.acts = true := by kernel_rfl
theorem PS21.nodup : PS21.acts.Nodup := by decide
def PS21.L : List (Option Nat × Op × Option (Nat × Bool)) := [
 (some 98, .move (.tmp 0), none),
 (some 99, .move (.tmp 6), none),
 (some 100, .indexAddr 77 (.tmp 99) (.const (.int .i64 0)), none),
 (some 101, .load 3 (.tmp 100), none),
 (some 102, .move (.tmp 0), none),
 (some 103, .nilCheck (.tmp 102), none),
 (some 104, .fieldAddr 182 (.tmp 103) 3, none),
 (some 105, .load 3 (.tmp 104), none),
 (some 106, .buildSlice 77 2 #[(0, (.tmp 101)), (1, (.tmp 105))], none),
 (some 107, .call { callee := .value (.func 150), args := #[(.tmp 98), (.const (.int .i64 2)), (.tmp 106)], argTypes := #[180, 3, 77] }, none)]
theorem PS21.isL : (opsOf 21 Try.f146).toList.map tri = PS21.L := by kernel_rfl
theorem PS21.ini {X : PS21} (ok : PS21Ok X) : ∀ n ∈ [0, 6], X.a0.eval (.tmp n) = X.val0 n := by
 simp only [List.forall_mem_cons]
 exact ⟨ok.e0, ok.e6, List.forall_mem_nil _⟩
abbrev PS21.St (X : PS21) (Q : PQ) (i : Nat) : Prop := StepG (opsOf 21 Try.f146) PS21.acts PS21.av X.val0 X.Wd X.a0 Q i
theorem PS21.plain (X : PS21) (ok : PS21Ok X) {Q : PQ} : ∀ i ∈ [0, 1, 2, 4, 5, 6], PS21.St X Q i := by
 simp only [List.forall_mem_cons]
 refine ⟨?_, ?_, ?_, ?_, ?_, ?_, List.forall_mem_nil _⟩
 all_goals
  refine st_plain PS21.isL (PS21.ini ok) ok.sz rfl (by kernel_rfl) ?_
  intro γ w n o hW hop
  unfold execOp
  rw [hop]
  simp [envR, valG, PS21.av, PS21.val0, ok.hn, go_sem]
theorem PS21.soon (X : PS21) (ok : PS21Ok X) {Q : PQ} : ∀ i ∈ [3, 7], PS21.St X Q i := by
 simp only [List.forall_mem_cons]
 refine ⟨?_, ?_, List.forall_mem_nil _⟩
 all_goals
  refine st_plainM (m := 0) PS21.isL (PS21.ini ok) ok.sz rfl (by kernel_rfl) ?_
  intro γ w n o hn hW hop
  obtain rfl : n = 0 := by omega
  have hk : w = X.W := hW
  subst hk
  unfold execOp
  rw [hop]
  simp [envR, valG, PS21.av, PS21.val0, ok.cn, ok.cp, go_sem]
theorem PS21.s8 (X : PS21) (ok : PS21Ok X) {Q : PQ} : PS21.St X Q 8 := by
 intro γ listed a w o hF hC hW h1 ho h2
 obtain ⟨hd, hop, hg⟩ := fieldsL PS21.isL (i := 8) rfl ho
 have e101 : a.eval (.tmp 101) = .int .i64 X.x := known hF ho h2 (PS21.ini ok) ok.sz (by kernel_rfl)
 have e105 : a.eval (.tmp 105) = .int .i64 X.y := known hF ho h2 (PS21.ini ok) ok.sz (by kernel_rfl)
 have hu := unl (hF.lt ho) h1
 refine st_actG (k := 0) PS21.chain PS21.nodup rfl hF hC hW h1 ho h2 (Or.inr ⟨106, hd, rfl⟩) (injG (by kernel_rfl) hu) hg ?_
 intro hW0 K hK
 have hw0 : w = X.W := hW0
 have hr : (execOp a.eval o).run Try.prog w = .ok (.value (.slice (some ⟨w.heap.size, 0, none⟩) 2 2)) (w.alloc (.cells #[.int .i64 X.x, .int .i64 X.y] 3)) := by
  generalize a.eval = ρ at e101 e105 ⊢
  unfold execOp
  rw [hop]
  simp [e101, e105, go_sem]
 unfold Oper.wp
 rw [hr]
 rw [hw0]
 exact hK _ _ ⟨rfl, rfl⟩
theorem PS21.s9 (X : PS21) (ok : PS21Ok X) {Q : PQ} : PS21.St X Q 9 := by
 intro γ listed a w o hF hC hW h1 ho h2
 obtain ⟨hd, hop, hg⟩ := fieldsL PS21.isL (i := 9) rfl ho
 have e98 : a.eval (.tmp 98) = .pointer (some ⟨X.P, 0, none⟩) := known hF ho h2 (PS21.ini ok) ok.sz (by kernel_rfl)
 have ec1 : a.eval (.const (.int .i64 2)) = .int .i64 2 := rfl
 have e106 : a.eval (.tmp 106) = γ 0 := known hF ho h2 (PS21.ini ok) ok.sz (by kernel_rfl)
 have ef : a.eval (.func 150) = .func (.func 150) #[] #[] := rfl
 have hu := unl (hF.lt ho) h1
 refine st_actG (k := 1) PS21.chain PS21.nodup rfl hF hC hW h1 ho h2 (Or.inr ⟨107, hd, rfl⟩) (injG (by kernel_rfl) hu) hg ?_
 intro hW0 K hK
 obtain ⟨g0, hw1⟩ := hW0
 rw [g0] at e106
 have hr : (execOp a.eval o).run Try.prog w = .ok (.enter 150 #[.pointer (some ⟨X.P, 0, none⟩), .int .i64 2, .slice (some ⟨X.W.heap.size, 0, none⟩) 2 2]) w := by
  generalize a.eval = ρ at e98 e106 ef ec1 ⊢
  unfold execOp
  rw [hop]
  simp [e98, e106, ef, ec1, go_sem]
 unfold Oper.wp
 rw [hr]
 refine Calls.mono (by rw [hw1]; exact ok.hc) ?_
 rintro e w' ⟨rfl, h⟩
 exact hK _ _ h
theorem PS21.size : (opsOf 21 Try.f146).size = 10 := by kernel_rfl
theorem PS21.rest (X : PS21) (ok : PS21Ok X) {Q : PQ} : ∀ i ∈ [8, 9], PS21.St X Q i := by
 simp only [List.forall_mem_cons]
 exact ⟨PS21.s8 X ok,
  PS21.s9 X ok, List.forall_mem_nil _⟩
theorem PS21.steps (X : PS21) (ok : PS21Ok X) {Q : PQ} (i : Nat) (hi : i < (opsOf 21 Try.f146).size) : PS21.St X Q i := by
 rw [PS21.size] at hi
 rcases (by decide : ∀ i, i < 10 → i ∈ [0, 1, 2, 4, 5, 6] ∨ i ∈ [3, 7] ∨ i ∈ [8, 9]) i hi with h | h | h
 · exact PS21.plain X ok i h
 · exact PS21.soon X ok i h
 · exact PS21.rest X ok i h
theorem PS21.run (X : PS21) (ok : PS21Ok X) {Q : PQ} (w : World) (h0 : X.Wd 0 (fun _ => undef) w.drew) (hend : ∀ (γ : Nat → Value) w', X.Wd 2 γ w' → Q .normal ((((((((((X.a0.put (some 98) (.pointer (some ⟨X.P, 0, none⟩))).put (some 99) (.slice (some ⟨X.gb, 0, none⟩) X.n X.c)).put (some 100) (.pointer (some ⟨X.gb, 0, none⟩))).put (some 101) (.int .i64 X.x)).put (some 102) (.pointer (some ⟨X.P, 0, none⟩))).put (some 103) (.pointer (some ⟨X.P, 0, none⟩))).put (some 104) (.pointer (some ⟨X.P, 3, none⟩))).put (some 105) (.int .i64 X.y)).put (some 106) (γ 0)).put (some 107) (γ 1)) w') : (Code.region 21 (opsOf 21 Try.f146) true).wp Try.prog Q X.a0 w := by
 refine reg_act (acts := PS21.acts) (av := PS21.av) (val0 := X.val0) (Wd := X.Wd) (by kernel_rfl) (by kernel_rfl) (by rw [PS21.size]; decide) (fun i hi => PS21.steps X ok i hi) _ h0 ?_
 intro γ w' h
 exact end_at (hend γ w' h) (by kernel_rfl)
structure PS23 where
 gb : Nat
 n : Nat
 c : Nat
 P : Nat
 x : Int
 y : Int
 PP : World → Prop
 W : World
 a0 : Act
structure PS23Ok (X : PS23) : Prop where
 hn : X.n ≠ 0
 cn : X.W.cell? ⟨X.gb, 0, none⟩ = some (.int .i64 X.y)
 cp : X.W.cell? ⟨X.P, 2, none⟩ = some (.int .i64 X.x)
 hc : Calls Try.prog 150 #[.pointer (some ⟨X.P, 0, none⟩), .int .i64 2, .slice (some ⟨X.W.heap.size, 0, none⟩) 2 2] (X.W.alloc (.cells #[.int .i64 X.x, .int .i64 X.y] 3)) fun e w' => e = .returned (.tuple #[]) ∧ X.PP w'
 e0 : X.a0.eval (.tmp 0) = .pointer (some ⟨X.P, 0, none⟩)
 e6 : X.a0.eval (.tmp 6) = .slice (some ⟨X.gb, 0, none⟩) X.n X.c
 sz : X.a0.tmps.size = 174
def PS23.val0 (X : PS23) : Nat → Value
 | 0 => .pointer (some ⟨X.P, 0, none⟩)
 | 6 => .slice (some ⟨X.gb, 0, none⟩) X.n X.c
 | 110 => .pointer (some ⟨X.P, 0, none⟩)
 | 111 => .pointer (some ⟨X.P, 0, none⟩)
 | 112 => .pointer (some ⟨X.P, 0, none⟩)
 | 113 => .pointer (some ⟨X.P, 2, none⟩)
 | 114 => .int .i64 X.x
 | 115 => .slice (some ⟨X.gb, 0, none⟩) X.n X.c
 | 116 => .pointer (some ⟨X.gb, 0, none⟩)
 | 117 => .int .i64 X.y
 | _ => undef
def PS23.av : Nat → Option Nat
 | 118 => some 0
 | 119 => some 1
 | _ => none
def PS23.acts : List Nat := [8, 9]
def PS23.Wd (X : PS23) : Nat → (Nat → Value) → World → Prop
  | 0, _, w => w = X.W
  | 1, γ, w => γ 0 = .slice (some ⟨X.W.heap.size, 0, none⟩) 2 2 ∧ w = X.W.alloc (.cells #[.int .i64 X.x, .int .i64 X.y] 3)
  | _, _, w => X.PP w
theorem PS23.chain : chainG (opsOf 23 Try.f146) PS23.acts = true := by kernel_rfl
theorem PS23.nodup : PS23.acts.Nodup := by decide
def PS23.L : List (Option Nat × Op × Option (Nat × Bool)) := [
 (some 110, .move (.tmp 0), none),
 (some 111, .move (.tmp 0), none),
 (some 112, .nilCheck (.tmp 111), none),
 (some 113, .fieldAddr 182 (.tmp 112) 2, none),
 (some 114, .load 3 (.tmp 113), none),
 (some 115, .move (.tmp 6), none),
 (some 116, .indexAddr 77 (.tmp 115) (.const (.int .i64 0)), none),
 (some 117, .load 3 (.tmp 116), none),
 (some 118, .buildSlice 77 2 #[(0, (.tmp 114)), (1, (.tmp 117))], none),
 (some 119, .call { callee := .value (.func 150), args := #[(.tmp 110), (.const (.int .i64 2)), (.tmp 118)], argTypes := #[180, 3, 77] }, none)]
theorem PS23.isL : (opsOf 23 Try.f146).toList.map tri = PS23.L := by kernel_rfl
theorem PS23.ini {X : PS23} (ok : PS23Ok X) : ∀ n ∈ [0, 6], X.a0.eval (.tmp n) = X.val0 n := by
 simp only [List.forall_mem_cons]
 exact ⟨ok.e0, ok.e6, List.forall_mem_nil _⟩
abbrev PS23.St (X : PS23) (Q : PQ) (i : Nat) : Prop := StepG (opsOf 23 Try.f146) PS23.acts PS23.av X.val0 X.Wd X.a0 Q i
theorem PS23.plain (X : PS23) (ok : PS23Ok X) {Q : PQ} : ∀ i ∈ [0, 1, 2, 3, 5, 6], PS23.St X Q i := by
 simp only [List.forall_mem_cons]
 refine ⟨?_, ?_, ?_, ?_, ?_, ?_, List.forall_mem_nil _⟩
 all_goals
  refine st_plain PS23.isL (PS23.ini ok) ok.sz rfl (by kernel_rfl) ?_
  intro γ w n o hW hop
  unfold execOp
  rw [hop]
  simp [envR, valG, PS23.av, PS23.val0, ok.hn, go_sem]
theorem PS23.soon (X : PS23) (ok : PS23Ok X) {Q : PQ} : ∀ i ∈ [4, 7], PS23.St X Q i := by
 simp only [List.forall_mem_cons]
 refine ⟨?_, ?_, List.forall_mem_nil _⟩
 all_goals
  refine st_plainM (m := 0) PS23.isL (PS23.ini ok) ok.sz rfl (by kernel_rfl) ?_
  intro γ w n o hn hW hop
  obtain rfl : n = 0 := by omega
  have hk : w = X.W := hW
  subst hk
  unfold execOp
  rw [hop]
  simp [envR, valG, PS23.av, PS23.val0, ok.cp, ok.cn, go_sem]
theorem PS23.s8 (X : PS23) (ok : PS23Ok X) {Q : PQ} : PS23.St X Q 8 := by
 intro γ listed a w o hF hC hW h1 ho h2
 obtain ⟨hd, hop, hg⟩ := fieldsL PS23.isL (i := 8) rfl ho
 have e114 : a.eval (.tmp 114) = .int .i64 X.x := known hF ho h2 (PS23.ini ok) ok.sz (by kernel_rfl)
 have e117 : a.eval (.tmp 117) = .int .i64 X.y := known hF ho h2 (PS23.ini ok) ok.sz (by kernel_rfl)
 have hu := unl (hF.lt ho) h1
 refine st_actG (k := 0) PS23.chain PS23.nodup rfl hF hC hW h1 ho h2 (Or.inr ⟨118, hd, rfl⟩) (injG (by kernel_rfl) hu) hg ?_
 intro hW0 K hK
 have hw0 : w = X.W := hW0
 have hr : (execOp a.eval o).run Try.prog w = .ok (.value (.slice (some ⟨w.heap.size, 0, none⟩) 2 2)) (w.alloc (.cells #[.int .i64 X.x, .int .i64 X.y] 3)) := by
  generalize a.eval = ρ at e114 e117 ⊢
  unfold execOp
  rw [hop]
  simp [e114, e117, go_sem]
 unfold Oper.wp
 rw [hr]
 rw [hw0]
 exact hK _ _ ⟨rfl, rfl⟩
theorem PS23.s9 (X : PS23) (ok : PS23Ok X) {Q : PQ} : PS23.St X Q 9 := by
 intro γ listed a w o hF hC hW h1 ho h2
 obtain ⟨hd, hop, hg⟩ := fieldsL PS23.isL (i := 9) rfl ho
 have e110 : a.eval (.tmp 110) = .pointer (some ⟨X.P, 0, none⟩) := known hF ho h2 (PS23.ini ok) ok.sz (by kernel_rfl)
 have ec1 : a.eval (.const (.int .i64 2)) = .int .i64 2 := rfl
 have e118 : a.eval (.tmp 118) = γ 0 := known hF ho h2 (PS23.ini ok) ok.sz (by kernel_rfl)
 have ef : a.eval (.func 150) = .func (.func 150) #[] #[] := rfl
 have hu := unl (hF.lt ho) h1
 refine st_actG (k := 1) PS23.chain PS23.nodup rfl hF hC hW h1 ho h2 (Or.inr ⟨119, hd, rfl⟩) (injG (by kernel_rfl) hu) hg ?_
 intro hW0 K hK
 obtain ⟨g0, hw1⟩ := hW0
 rw [g0] at e118
 have hr : (execOp a.eval o).run Try.prog w = .ok (.enter 150 #[.pointer (some ⟨X.P, 0, none⟩), .int .i64 2, .slice (some ⟨X.W.heap.size, 0, none⟩) 2 2]) w := by
  generalize a.eval = ρ at e110 e118 ef ec1 ⊢
  unfold execOp
  rw [hop]
  simp [e110, e118, ef, ec1, go_sem]
 unfold Oper.wp
 rw [hr]
 refine Calls.mono (by rw [hw1]; exact ok.hc) ?_
 rintro e w' ⟨rfl, h⟩
 exact hK _ _ h
theorem PS23.size : (opsOf 23 Try.f146).size = 10 := by kernel_rfl
theorem PS23.rest (X : PS23) (ok : PS23Ok X) {Q : PQ} : ∀ i ∈ [8, 9], PS23.St X Q i := by
 simp only [List.forall_mem_cons]
 exact ⟨PS23.s8 X ok,
  PS23.s9 X ok, List.forall_mem_nil _⟩
theorem PS23.steps (X : PS23) (ok : PS23Ok X) {Q : PQ} (i : Nat) (hi : i < (opsOf 23 Try.f146).size) : PS23.St X Q i := by
 rw [PS23.size] at hi
 rcases (by decide : ∀ i, i < 10 → i ∈ [0, 1, 2, 3, 5, 6] ∨ i ∈ [4, 7] ∨ i ∈ [8, 9]) i hi with h | h | h
 · exact PS23.plain X ok i h
 · exact PS23.soon X ok i h
 · exact PS23.rest X ok i h
theorem PS23.run (X : PS23) (ok : PS23Ok X) {Q : PQ} (w : World) (h0 : X.Wd 0 (fun _ => undef) w.drew) (hend : ∀ (γ : Nat → Value) w', X.Wd 2 γ w' → Q .normal ((((((((((X.a0.put (some 110) (.pointer (some ⟨X.P, 0, none⟩))).put (some 111) (.pointer (some ⟨X.P, 0, none⟩))).put (some 112) (.pointer (some ⟨X.P, 0, none⟩))).put (some 113) (.pointer (some ⟨X.P, 2, none⟩))).put (some 114) (.int .i64 X.x)).put (some 115) (.slice (some ⟨X.gb, 0, none⟩) X.n X.c)).put (some 116) (.pointer (some ⟨X.gb, 0, none⟩))).put (some 117) (.int .i64 X.y)).put (some 118) (γ 0)).put (some 119) (γ 1)) w') : (Code.region 23 (opsOf 23 Try.f146) true).wp Try.prog Q X.a0 w := by
 refine reg_act (acts := PS23.acts) (av := PS23.av) (val0 := X.val0) (Wd := X.Wd) (by kernel_rfl) (by kernel_rfl) (by rw [PS23.size]; decide) (fun i hi => PS23.steps X ok i hi) _ h0 ?_
 intro γ w' h
 exact end_at (hend γ w' h) (by kernel_rfl)
structure PS27 where
 gb : Nat
 n : Nat
 c : Nat
 P : Nat
 px : Int
 py : Int
 n0 : Int
 n1 : Int
 n2 : Int
 n3 : Int
 m0 : Int
 m1 : Int
 b0 : Int
 b1 : Int
 b2 : Int
 b3 : Int
 d0 : Int
 d1 : Int
 d2 : Int
 d3 : Int
 PP : World → Prop
 W : World
 a0 : Act
structure PS27Ok (X : PS27) : Prop where
 i0 : (0 : Int) < (X.n : Int)
 hn : X.n ≠ 0
 i1 : (1 : Int) < (X.n : Int)
 i2 : (2 : Int) < (X.n : Int)
 i3 : (3 : Int) < (X.n : Int)
 j1 : 1 < X.n
 j2 : 2 < X.n
 j3 : 3 < X.n
 cx : X.W.cell? ⟨X.P, 2, none⟩ = some (.int .i64 X.px)
 cy : X.W.cell? ⟨X.P, 3, none⟩ = some (.int .i64 X.py)
 c0 : X.W.cell? ⟨X.gb, 0, none⟩ = some (.int .i64 X.n0)
 c1 : X.W.cell? ⟨X.gb, 1, none⟩ = some (.int .i64 X.n1)
 c2 : X.W.cell? ⟨X.gb, 2, none⟩ = some (.int .i64 X.n2)
 c3 : X.W.cell? ⟨X.gb, 3, none⟩ = some (.int .i64 X.n3)
 w0 : IntKind.i64.wrap (2 * X.n0) = X.m0
 w1 : IntKind.i64.wrap (2 * X.n1) = X.m1
 v0 : IntKind.i64.wrap (X.px + X.m0) = X.b0
 v1 : IntKind.i64.wrap (X.py + X.m1) = X.b1
 v2 : IntKind.i64.wrap (X.n2 + X.m0) = X.b2
 v3 : IntKind.i64.wrap (X.n3 + X.m1) = X.b3
 h0 : ∀ w, Calls Try.prog 104 #[.int .i64 X.b0, .int .i64 3] w fun e w' => e = .returned (.int .i64 X.d0) ∧ Kp w w'
 h1 : ∀ w, Calls Try.prog 104 #[.int .i64 X.b1, .int .i64 3] w fun e w' => e = .returned (.int .i64 X.d1) ∧ Kp w w'
 h2 : ∀ w, Calls Try.prog 104 #[.int .i64 X.b2, .int .i64 3] w fun e w' => e = .returned (.int .i64 X.d2) ∧ Kp w w'
 h3 : ∀ w, Calls Try.prog 104 #[.int .i64 X.b3, .int .i64 3] w fun e w' => e = .returned (.int .i64 X.d3) ∧ Kp w w'
 hc : ∀ w, Kp X.W w → Calls Try.prog 150 #[.pointer (some ⟨X.P, 0, none⟩), .int .i64 3, .slice (some ⟨w.heap.size, 0, none⟩) 6 6] (w.alloc (.cells #[.int .i64 X.d0, .int .i64 X.d1, .int .i64 X.d2, .int .i64 X.d3, .int .i64 X.n2, .int .i64 X.n3] 3)) fun e w' => e = .returned (.tuple #[]) ∧ X.PP w'
 e0 : X.a0.eval (.tmp 0) = .pointer (some ⟨X.P, 0, none⟩)
 e6 : X.a0.eval (.tmp 6) = .slice (some ⟨X.gb, 0, none⟩) X.n X.c
 sz : X.a0.tmps.size = 174
def PS27.val0 (X : PS27) : Nat → Value
 | 0 => .pointer (some ⟨X.P, 0, none⟩)
 | 6 => .slice (some ⟨X.gb, 0, none⟩) X.n X.c
 | 127 => .pointer (some ⟨X.P, 0, none⟩)
 | 128 => .pointer (some ⟨X.P, 0, none⟩)
 | 129 => .pointer (some ⟨X.P, 0, none⟩)
 | 130 => .pointer (some ⟨X.P, 2, none⟩)
 | 131 => .int .i64 X.px
 | 132 => .slice (some ⟨X.gb, 0, none⟩) X.n X.c
 | 133 => .pointer (some ⟨X.gb, 0, none⟩)
 | 134 => .int .i64 X.n0
 | 135 => .int .i64 X.m0
 | 136 => .int .i64 X.b0
 | 137 => .int .i64 X.d0
 | 138 => .pointer (some ⟨X.P, 0, none⟩)
 | 139 => .pointer (some ⟨X.P, 0, none⟩)
 | 140 => .pointer (some ⟨X.P, 3, none⟩)
 | 141 => .int .i64 X.py
 | 142 => .slice (some ⟨X.gb, 0, none⟩) X.n X.c
 | 143 => .pointer (some ⟨X.gb, 1, none⟩)
 | 144 => .int .i64 X.n1
 | 145 => .int .i64 X.m1
 | 146 => .int .i64 X.b1
 | 147 => .int .i64 X.d1
 | 148 => .slice (some ⟨X.gb, 0, none⟩) X.n X.c
 | 149 => .pointer (some ⟨X.gb, 2, none⟩)
 | 150 => .int .i64 X.n2
 | 151 => .slice (some ⟨X.gb, 0, none⟩) X.n X.c
 | 152 => .pointer (some ⟨X.gb, 0, none⟩)
 | 153 => .int .i64 X.n0
 | 154 => .int .i64 X.m0
 | 155 => .int .i64 X.b2
 | 156 => .int .i64 X.d2
 | 157 => .slice (some ⟨X.gb, 0, none⟩) X.n X.c
 | 158 => .pointer (some ⟨X.gb, 3, none⟩)
 | 159 => .int .i64 X.n3
 | 160 => .slice (some ⟨X.gb, 0, none⟩) X.n X.c
 | 161 => .pointer (some ⟨X.gb, 1, none⟩)
 | 162 => .int .i64 X.n1
 | 163 => .int .i64 X.m1
 | 164 => .int .i64 X.b3
 | 165 => .int .i64 X.d3
 | 166 => .slice (some ⟨X.gb, 0, none⟩) X.n X.c
 | 167 => .pointer (some ⟨X.gb, 2, none⟩)
 | 168 => .int .i64 X.n2
 | 169 => .slice (some ⟨X.gb, 0, none⟩) X.n X.c
 | 170 => .pointer (some ⟨X.gb, 3, none⟩)
 | 171 => .int .i64 X.n3
 | _ => undef
def PS27.av : Nat → Option Nat
 | 172 => some 0
 | 173 => some 1
 | _ => none
def PS27.acts : List Nat := [45, 46]
def PS27.Wd (X : PS27) : Nat → (Nat → Value) → World → Prop
  | 0, _, w => Kp X.W w
  | 1, γ, w => ∃ w1, Kp X.W w1 ∧ γ 0 = .slice (some ⟨w1.heap.size, 0, none⟩) 6 6 ∧ w = w1.alloc (.cells #[.int .i64 X.d0, .int .i64 X.d1, .int .i64 X.d2, .int .i64 X.d3, .int .i64 X.n2, .int .i64 X.n3] 3)
  | _, _, w => X.PP w
theorem PS27.chain : chainG (opsOf 27 Try.f146) PS27.acts = true := by kernel_rfl
theorem PS27.nodup : PS27.acts.Nodup := by decide
def PS27.L : List (Option Nat × Op × Option (Nat × Bool)) := [
 (some 127, .move (.tmp 0), none),
 (some 128, .move (.tmp 0), none),
 (some 129, .nilCheck (.tmp 128), none),
 (some 130, .fieldAddr 182 (.tmp 129) 2, none),
 (some 131, .load 3 (.tmp 130), none),
 (some 132, .move (.tmp 6), none),
 (some 133, .indexAddr 77 (.tmp 132) (.const (.int .i64 0)), none),
 (some 134, .load 3 (.tmp 133), none),
 (some 135, .binOp .mul 3 (.const (.int .i64 2)) (.tmp 134) 3, none),
 (some 136, .binOp .add 3 (.tmp 131) (.tmp 135) 3, none),
 (some 137, .call { callee := .value (.func 104), args := #[(.tmp 136), (.const (.int .i64 3))], argTypes := #[3, 3] }, none),
 (some 138, .move (.tmp 0), none),
 (some 139, .nilCheck (.tmp 138), none),
 (some 140, .fieldAddr 182 (.tmp 139) 3, none),
 (some 141, .load 3 (.tmp 140), none),
 (some 142, .move (.tmp 6), none),
 (some 143, .indexAddr 77 (.tmp 142) (.const (.int .i64 1)), none),
 (some 144, .load 3 (.tmp 143), none),
 (some 145, .binOp .mul 3 (.const (.int .i64 2)) (.tmp 144) 3, none),
 (some 146, .binOp .add 3 (.tmp 141) (.tmp 145) 3, none),
 (some 147, .call { callee := .value (.func 104), args := #[(.tmp 146), (.const (.int .i64 3))], argTypes := #[3, 3] }, none),
 (some 148, .move (.tmp 6), none),
 (some 149, .indexAddr 77 (.tmp 148) (.const (.int .i64 2)), none),
 (some 150, .load 3 (.tmp 149), none),
 (some 151, .move (.tmp 6), none),
 (some 152, .indexAddr 77 (.tmp 151) (.const (.int .i64 0)), none),
 (some 153, .load 3 (.tmp 152), none),
 (some 154, .binOp .mul 3 (.const (.int .i64 2)) (.tmp 153) 3, none),
 (some 155, .binOp .add 3 (.tmp 150) (.tmp 154) 3, none),
 (some 156, .call { callee := .value (.func 104), args := #[(.tmp 155), (.const (.int .i64 3))], argTypes := #[3, 3] }, none),
 (some 157, .move (.tmp 6), none),
 (some 158, .indexAddr 77 (.tmp 157) (.const (.int .i64 3)), none),
 (some 159, .load 3 (.tmp 158), none),
 (some 160, .move (.tmp 6), none),
 (some 161, .indexAddr 77 (.tmp 160) (.const (.int .i64 1)), none),
 (some 162, .load 3 (.tmp 161), none),
 (some 163, .binOp .mul 3 (.const (.int .i64 2)) (.tmp 162) 3, none),
 (some 164, .binOp .add 3 (.tmp 159) (.tmp 163) 3, none),
 (some 165, .call { callee := .value (.func 104), args := #[(.tmp 164), (.const (.int .i64 3))], argTypes := #[3, 3] }, none),
 (some 166, .move (.tmp 6), none),
 (some 167, .indexAddr 77 (.tmp 166) (.const (.int .i64 2)), none),
 (some 168, .load 3 (.tmp 167), none),
 (some 169, .move (.tmp 6), none),
 (some 170, .indexAddr 77 (.tmp 169) (.const (.int .i64 3)), none),
 (some 171, .load 3 (.tmp 170), none),
 (some 172, .buildSlice 77 6 #[(0, (.tmp 137)), (1, (.tmp 147)), (2, (.tmp 156)), (3, (.tmp 165)), (4, (.tmp 168)), (5, (.tmp 171))], none),
 (some 173, .call { callee := .value (.func 150), args := #[(.tmp 127), (.const (.int .i64 3)), (.tmp 172)], argTypes := #[180, 3, 77] }, none)]
theorem PS27.isL : (opsOf 27 Try.f146).toList.map tri = PS27.L := by kernel_rfl
theorem PS27.ini {X : PS27} (ok : PS27Ok X) : ∀ n ∈ [0, 6], X.a0.eval (.tmp n) = X.val0 n := by
 simp only [List.forall_mem_cons]
 exact ⟨ok.e0, ok.e6, List.forall_mem_nil _⟩
abbrev PS27.St (X : PS27) (Q : PQ) (i : Nat) : Prop := StepG (opsOf 27 Try.f146) PS27.acts PS27.av X.val0 X.Wd X.a0 Q i
theorem PS27.plain (X : PS27) (ok : PS27Ok X) {Q : PQ} : ∀ i ∈ [0, 1, 2, 3, 5, 6, 8, 9, 11, 12, 13, 15, 16, 18, 19, 21, 22, 24, 25, 27, 28, 30, 31, 33, 34, 36, 37, 39, 40, 42, 43], PS27.St X Q i := by
 simp only [List.forall_mem_cons]
 refine ⟨?_, ?_, ?_, ?_, ?_, ?_, ?_, ?_, ?_, ?_, ?_, ?_, ?_, ?_, ?_, ?_, ?_, ?_, ?_, ?_, ?_, ?_, ?_, ?_, ?_, ?_, ?_, ?_, ?_, ?_, ?_, List.forall_mem_nil _⟩
 all_goals
  refine st_plain PS27.isL (PS27.ini ok) ok.sz rfl (by kernel_rfl) ?_
  intro γ w n o hW hop
  unfold execOp
  rw [hop]
  simp [envR, valG, PS27.av, PS27.val0, ok.i0, ok.hn, ok.w0, ok.v0, ok.i1, ok.j1, ok.w1, ok.v1, ok.i2, ok.j2, ok.v2, ok.i3, ok.j3, ok.v3, go_sem]
theorem PS27.early (X : PS27) (ok : PS27Ok X) {Q : PQ} : ∀ i ∈ [4, 7, 14, 17, 23, 26, 32, 35, 41, 44], PS27.St X Q i := by
 simp only [List.forall_mem_cons]
 refine ⟨?_, ?_, ?_, ?_, ?_, ?_, ?_, ?_, ?_, ?_, List.forall_mem_nil _⟩
 all_goals
  refine st_plainM (m := 0) PS27.isL (PS27.ini ok) ok.sz rfl (by kernel_rfl) ?_
  intro γ w n o hn hW hop
  obtain rfl : n = 0 := by omega
  have hk : Kp X.W w := hW
  have hc_cx := rq_at hk ok.cx
  have hc_c0 := rq_at hk ok.c0
  have hc_cy := rq_at hk ok.cy
  have hc_c1 := rq_at hk ok.c1
  have hc_c2 := rq_at hk ok.c2
  have hc_c3 := rq_at hk ok.c3
  unfold execOp
  rw [hop]
  simp [envR, valG, PS27.av, PS27.val0, hc_cx, hc_c0, hc_cy, hc_c1, hc_c2, hc_c3, go_sem]
theorem PS27.s45 (X : PS27) (ok : PS27Ok X) {Q : PQ} : PS27.St X Q 45 := by
 intro γ listed a w o hF hC hW h1 ho h2
 obtain ⟨hd, hop, hg⟩ := fieldsL PS27.isL (i := 45) rfl ho
 have e137 : a.eval (.tmp 137) = .int .i64 X.d0 := known hF ho h2 (PS27.ini ok) ok.sz (by kernel_rfl)
 have e147 : a.eval (.tmp 147) = .int .i64 X.d1 := known hF ho h2 (PS27.ini ok) ok.sz (by kernel_rfl)
 have e156 : a.eval (.tmp 156) = .int .i64 X.d2 := known hF ho h2 (PS27.ini ok) ok.sz (by kernel_rfl)
 have e165 : a.eval (.tmp 165) = .int .i64 X.d3 := known hF ho h2 (PS27.ini ok) ok.sz (by kernel_rfl)
 have e168 : a.eval (.tmp 168) = .int .i64 X.n2 := known hF ho h2 (PS27.ini ok) ok.sz (by kernel_rfl)
 have e171 : a.eval (.tmp 171) = .int .i64 X.n3 := known hF ho h2 (PS27.ini ok) ok.sz (by kernel_rfl)
 have hu := unl (hF.lt ho) h1
 refine st_actG (k := 0) PS27.chain PS27.nodup rfl hF hC hW h1 ho h2 (Or.inr ⟨172, hd, rfl⟩) (injG (by kernel_rfl) hu) hg ?_
 intro hW0 K hK
 have hr : (execOp a.eval o).run Try.prog w = .ok (.value (.slice (some ⟨w.heap.size, 0, none⟩) 6 6)) (w.alloc (.cells #[.int .i64 X.d0, .int .i64 X.d1, .int .i64 X.d2, .int .i64 X.d3, .int .i64 X.n2, .int .i64 X.n3] 3)) := by
  generalize a.eval = ρ at e137 e147 e156 e165 e168 e171 ⊢
  unfold execOp
  rw [hop]
  simp [e137, e147, e156, e165, e168, e171, go_sem]
 unfold Oper.wp
 rw [hr]
 exact hK _ _ ⟨w, hW0, rfl, rfl⟩
theorem PS27.s46 (X : PS27) (ok : PS27Ok X) {Q : PQ} : PS27.St X Q 46 := by
 intro γ listed a w o hF hC hW h1 ho h2
 obtain ⟨hd, hop, hg⟩ := fieldsL PS27.isL (i := 46) rfl ho
 have e127 : a.eval (.tmp 127) = .pointer (some ⟨X.P, 0, none⟩) := known hF ho h2 (PS27.ini ok) ok.sz (by kernel_rfl)
 have ec1 : a.eval (.const (.int .i64 3)) = .int .i64 3 := rfl
 have e172 : a.eval (.tmp 172) = γ 0 := known hF ho h2 (PS27.ini ok) ok.sz (by kernel_rfl)
 have ef : a.eval (.func 150) = .func (.func 150) #[] #[] := rfl
 have hu := unl (hF.lt ho) h1
 refine st_actG (k := 1) PS27.chain PS27.nodup rfl hF hC hW h1 ho h2 (Or.inr ⟨173, hd, rfl⟩) (injG (by kernel_rfl) hu) hg ?_
 intro hW0 K hK
 obtain ⟨w1, k1, g0, hw1⟩ := hW0
 rw [g0] at e172
 have hr : (execOp a.eval o).run Try.prog w = .ok (.enter 150 #[.pointer (some ⟨X.P, 0, none⟩), .int .i64 3, .slice (some ⟨w1.heap.size, 0, none⟩) 6 6]) w := by
  generalize a.eval = ρ at e127 e172 ef ec1 ⊢
  unfold execOp
  rw [hop]
  simp [e127, e172, ef, ec1, go_sem]
 unfold Oper.wp
 rw [hr]
 refine Calls.mono (by rw [hw1]; exact ok.hc w1 k1) ?_
 rintro e w' ⟨rfl, h⟩
 exact hK _ _ h
theorem PS27.size : (opsOf 27 Try.f146).size = 47 := by kernel_rfl
theorem PS27.rest (X : PS27) (ok : PS27Ok X) {Q : PQ} : ∀ i ∈ [10, 20, 29, 38, 45, 46], PS27.St X Q i := by
 simp only [List.forall_mem_cons]
 exact ⟨st_callZ PS27.isL (PS27.ini ok) ok.sz rfl (by kernel_rfl) (fun _ _ => by simp [go_sem]) (fun γ w hW => ok.h0 w) (fun _ _ _ hW hk => Kp.trans hW hk),
  st_callZ PS27.isL (PS27.ini ok) ok.sz rfl (by kernel_rfl) (fun _ _ => by simp [go_sem]) (fun γ w hW => ok.h1 w) (fun _ _ _ hW hk => Kp.trans hW hk),
  st_callZ PS27.isL (PS27.ini ok) ok.sz rfl (by kernel_rfl) (fun _ _ => by simp [go_sem]) (fun γ w hW => ok.h2 w) (fun _ _ _ hW hk => Kp.trans hW hk),
  st_callZ PS27.isL (PS27.ini ok) ok.sz rfl (by kernel_rfl) (fun _ _ => by simp [go_sem]) (fun γ w hW => ok.h3 w) (fun _ _ _ hW hk => Kp.trans hW hk),
  PS27.s45 X ok,
  PS27.s46 X ok, List.forall_mem_nil _⟩
theorem PS27.steps (X : PS27) (ok : PS27Ok X) {Q : PQ} (i : Nat) (hi : i < (opsOf 27 Try.f146).size) : PS27.St X Q i := by
 rw [PS27.size] at hi
 rcases (by decide : ∀ i, i < 47 → i ∈ [0, 1, 2, 3, 5, 6, 8, 9, 11, 12, 13, 15, 16, 18, 19, 21, 22, 24, 25, 27, 28, 30, 31, 33, 34, 36, 37, 39, 40, 42, 43] ∨ i ∈ [4, 7, 14, 17, 23, 26, 32, 35, 41, 44] ∨ i ∈ [10, 20, 29, 38, 45, 46]) i hi with h | h | h
 · exact PS27.plain X ok i h
 · exact PS27.early X ok i h
 · exact PS27.rest X ok i h
theorem PS27.run (X : PS27) (ok : PS27Ok X) {Q : PQ} (w : World) (h0 : X.Wd 0 (fun _ => undef) w.drew) (hend : ∀ (γ : Nat → Value) w', X.Wd 2 γ w' → Q .normal (((((((((((((((((((((((((((((((((((((((((((((((X.a0.put (some 127) (.pointer (some ⟨X.P, 0, none⟩))).put (some 128) (.pointer (some ⟨X.P, 0, none⟩))).put (some 129) (.pointer (some ⟨X.P, 0, none⟩))).put (some 130) (.pointer (some ⟨X.P, 2, none⟩))).put (some 131) (.int .i64 X.px)).put (some 132) (.slice (some ⟨X.gb, 0, none⟩) X.n X.c)).put (some 133) (.pointer (some ⟨X.gb, 0, none⟩))).put (some 134) (.int .i64 X.n0)).put (some 135) (.int .i64 X.m0)).put (some 136) (.int .i64 X.b0)).put (some 137) (.int .i64 X.d0)).put (some 138) (.pointer (some ⟨X.P, 0, none⟩))).put (some 139) (.pointer (some ⟨X.P, 0, none⟩))).put (some 140) (.pointer (some ⟨X.P, 3, none⟩))).put (some 141) (.int .i64 X.py)).put (some 142) (.slice (some ⟨X.gb, 0, none⟩) X.n X.c)).put (some 143) (.pointer (some ⟨X.gb, 1, none⟩))).put (some 144) (.int .i64 X.n1)).put (some 145) (.int .i64 X.m1)).put (some 146) (.int .i64 X.b1)).put (some 147) (.int .i64 X.d1)).put (some 148) (.slice (some ⟨X.gb, 0, none⟩) X.n X.c)).put (some 149) (.pointer (some ⟨X.gb, 2, none⟩))).put (some 150) (.int .i64 X.n2)).put (some 151) (.slice (some ⟨X.gb, 0, none⟩) X.n X.c)).put (some 152) (.pointer (some ⟨X.gb, 0, none⟩))).put (some 153) (.int .i64 X.n0)).put (some 154) (.int .i64 X.m0)).put (some 155) (.int .i64 X.b2)).put (some 156) (.int .i64 X.d2)).put (some 157) (.slice (some ⟨X.gb, 0, none⟩) X.n X.c)).put (some 158) (.pointer (some ⟨X.gb, 3, none⟩))).put (some 159) (.int .i64 X.n3)).put (some 160) (.slice (some ⟨X.gb, 0, none⟩) X.n X.c)).put (some 161) (.pointer (some ⟨X.gb, 1, none⟩))).put (some 162) (.int .i64 X.n1)).put (some 163) (.int .i64 X.m1)).put (some 164) (.int .i64 X.b3)).put (some 165) (.int .i64 X.d3)).put (some 166) (.slice (some ⟨X.gb, 0, none⟩) X.n X.c)).put (some 167) (.pointer (some ⟨X.gb, 2, none⟩))).put (some 168) (.int .i64 X.n2)).put (some 169) (.slice (some ⟨X.gb, 0, none⟩) X.n X.c)).put (some 170) (.pointer (some ⟨X.gb, 3, none⟩))).put (some 171) (.int .i64 X.n3)).put (some 172) (γ 0)).put (some 173) (γ 1)) w') : (Code.region 27 (opsOf 27 Try.f146) true).wp Try.prog Q X.a0 w := by
 refine reg_act (acts := PS27.acts) (av := PS27.av) (val0 := X.val0) (Wd := X.Wd) (by kernel_rfl) (by kernel_rfl) (by rw [PS27.size]; decide) (fun i hi => PS27.steps X ok i hi) _ h0 ?_
 intro γ w' h
 exact end_at (hend γ w' h) (by kernel_rfl)
def manyI (b : Nat) : Int := if b = 77 ∨ b = 76 then 2 else if b = 72 ∨ b = 86 then 1 else if b = 67 then 6 else if b = 81 then 4 else if b = 90 then 0 else -1
theorem many_is (b : Nat) (w : World) : Calls Try.prog 145 #[.int .u8 (b : Int)] w fun e w' => e = .returned (.int .i64 (manyI b)) ∧ w = w' := by
 by_cases c0 : b = 77
 ·subst c0
  go_enter Try.func145, Try.ntmps145
  go_wp2
  go_ret
  exact ⟨rfl, rfl⟩
 by_cases c1 : b = 76
 ·subst c1
  go_enter Try.func145, Try.ntmps145
  go_wp2
  go_ret
  exact ⟨rfl, rfl⟩
 by_cases c2 : b = 72
 ·subst c2
  go_enter Try.func145, Try.ntmps145
  go_wp2
  go_ret
  exact ⟨rfl, rfl⟩
 by_cases c3 : b = 86
 ·subst c3
  go_enter Try.func145, Try.ntmps145
  go_wp2
  go_ret
  exact ⟨rfl, rfl⟩
 by_cases c4 : b = 67
 ·subst c4
  go_enter Try.func145, Try.ntmps145
  go_wp2
  go_ret
  exact ⟨rfl, rfl⟩
 by_cases c5 : b = 81
 ·subst c5
  go_enter Try.func145, Try.ntmps145
  go_wp2
  go_ret
  exact ⟨rfl, rfl⟩
 by_cases c6 : b = 90
 ·subst c6
  go_enter Try.func145, Try.ntmps145
  go_wp2
  go_ret
  exact ⟨rfl, rfl⟩
 have hI : manyI b = -1 := by unfold manyI; rw [if_neg (by omega), if_neg (by omega), if_neg (by omega), if_neg (by omega), if_neg (by omega)]
 rw [hI]
 have e0 : ((b : Int) == 77) = false := by rw [beq_eq_false_iff_ne]; omega
 have e1 : ((b : Int) == 76) = false := by rw [beq_eq_false_iff_ne]; omega
 have e2 : ((b : Int) == 72) = false := by rw [beq_eq_false_iff_ne]; omega
 have e3 : ((b : Int) == 86) = false := by rw [beq_eq_false_iff_ne]; omega
 have e4 : ((b : Int) == 67) = false := by rw [beq_eq_false_iff_ne]; omega
 have e5 : ((b : Int) == 81) = false := by rw [beq_eq_false_iff_ne]; omega
 have e6 : ((b : Int) == 90) = false := by rw [beq_eq_false_iff_ne]; omega
 clear hI c0 c1 c2 c3 c4 c5 c6
 go_enter Try.func145, Try.ntmps145
 go_wp2
 go_ret
 exact ⟨rfl, rfl⟩
theorem Ins.setAt {w : World} {B g c : Nat} {l : List Int} (h : Ins w B (.slice (some ⟨g, 0, none⟩) l.length c) l) (k : Nat) (z : Int) : Ins (w.setCell ⟨g, k, none⟩ (.int .i64 z)) B (.slice (some ⟨g, 0, none⟩) l.length c) (l.set k z) := by
 have h1 := (World.ownsRow.stored h k (.int .i64 z)).1
 unfold Ins
 rw [List.length_set, List.map_set]
 exact h1
structure StpM (P : Nat) (w wx : World) (s : ByteArray) (v : Value) (va : Option Addr) (vc m : Nat) (ns : List Int) : Prop where
 c : PenC P wx s v true
 g : Gr P w wx
 len : ns.length = m
 own : Ins wx w.heap.size (.slice va m vc) ns
def StpS (P : Nat) (w : World) (b : Nat) (s : ByteArray) (e : Ending) (w' : World) : Prop := e = .returned (.tuple #[]) ∧ ∃ (t : ByteArray) (ok : Bool), PenW P w' t ok ∧ t.size ≤ s.size ∧ (ok = true → b ≠ 90 → t.size < s.size) ∧ Below P w w'
theorem wz64 (x : Int) : IntKind.i64.wrap x = wrap64 x := by rw [IntKind.wrap_i64, wrap64]
theorem nw_drw (w : World) : Nw w w.drew := ⟨rfl, rfl, rfl, Nat.le_refl _, fun _ _ => rfl⟩
theorem StpM.drew {P : Nat} {w wx : World} {s : ByteArray} {v : Value} {va : Option Addr} {vc m : Nat} {ns : List Int} (h : StpM P w wx s v va vc m ns) : StpM P w wx.drew s v va vc m ns :=
 ⟨h.c.like (fun _ => rfl) (fun _ => rfl), h.g.trans ⟨rfl, rfl, rfl, Nat.le_refl _, fun _ _ _ => rfl⟩, h.len, h.own⟩
theorem StpM.nm {P : Nat} {w wx : World} {s : ByteArray} {v : Value} {va : Option Addr} {vc m : Nat} {ns : List Int} (h : StpM P w wx s v va vc m ns) (hP : P < w.heap.size) (hv : ∀ b, v.ownBlock = some b → b < w.heap.size) : NmP P wx v va ns := by
 have ho : Ins wx w.heap.size (.slice va ns.length vc) ns := by rw [h.len]; exact h.own
 obtain ⟨pa, pc, e, hn⟩ := Ins.nmP ho hP hv
 injection e with e1 _ _
 subst e1
 exact hn
theorem StpM.cells {P : Nat} {w wx : World} {s : ByteArray} {v : Value} {va : Option Addr} {vc m : Nat} {ns : List Int} (h : StpM P w wx s v va vc m ns) (hm : 0 < m) : ∃ g, va = some ⟨g, 0, none⟩ ∧ w.heap.size ≤ g ∧ g < wx.heap.size ∧ (∀ i, i < m → wx.cell? ⟨g, i, none⟩ = some (.int .i64 (intAt ns i))) ∧ ∀ o, wx.frozen? ⟨g, o, none⟩ = false := by
 rcases h.own.lay with ⟨_, e⟩ | ⟨g, c, e, hB, hl⟩
 ·have := h.len; rw [e] at this; simp at this; omega
 ·injection e with e1 _ _
  exact ⟨g, e1, hB, hl.1, fun i hi => hl.2.1 i (by rw [h.len]; exact hi), hl.2.2⟩
set_option maxRecDepth 100000 in
set_option maxHeartbeats 8000000 in
theorem step_some (P : Nat) (w : World) (s : ByteArray) (b m : Nat) (sm : Bool) (hk : (b, m) ∈ [(77, 2), (76, 2), (72, 1), (86, 1), (67, 6), (81, 4), (90, 0)]) (hs : s.size ≤ 1048576) (hp : PenW P w s true) :
  Calls Try.prog 146 #[.pointer (some ⟨P, 0, none⟩), .int .u8 (b : Int), .bool sm] w fun e w' => StpS P w b s e w' := by
 obtain ⟨v, q, l, hc, hr, hl6, hk6⟩ := hp
 have hm6 : m ≤ 6 ∧ (b ≠ 90 → 1 ≤ m) ∧ manyI b = (m : Int) := by
  simp only [List.mem_cons, Prod.mk.injEq, List.mem_nil_iff, or_false] at hk
  rcases hk with ⟨rfl, rfl⟩ | ⟨rfl, rfl⟩ | ⟨rfl, rfl⟩ | ⟨rfl, rfl⟩ | ⟨rfl, rfl⟩ | ⟨rfl, rfl⟩ | ⟨rfl, rfl⟩ <;> exact ⟨by omega, by omega, rfl⟩
 obtain ⟨hm6, hm1, hmI⟩ := hm6
 have HK : Hid ((b, m) ∈ [(77, 2), (76, 2), (72, 1), (86, 1), (67, 6), (81, 4), (90, 0)]) := hk
 have HK6 : Hid (∀ i, i < l.length → (stAt l i).ns.length ≤ 6) := hk6
 have HR : Hid (StR P w v q l) := hr
 have HC : Hid (PenC P w s v true) := hc
 have HP : Hid (P < w.heap.size) := hc.lt
 have HV : Hid (∀ b, v.ownBlock = some b → b < w.heap.size) := fun b e => (OwnQ.lt hr.own b e).2
 have HMI : Hid (manyI b = (m : Int)) := hmI
 clear hk hk6 hr hc hmI
 go_enter Try.func146, Try.ntmps146
 go_wp2_with fail
 refine (many_is b w).mono ?_
 rw [HMI.out]
 rintro e w' ⟨rfl, rfl⟩
 go_wp2_with fail
 refine (numbers_some P w s v m hm6 hs HC.out).mono ?_
 rintro e w1 ⟨nv, ns, t, ok, rfl, hc, hts, hok, hn6, hi, hg⟩
 have HB1 : Hid (Below P w w1) := hg.below (Nat.le_of_lt HP.out)
 have HR1 : Hid (StR P w1 v q l) := HR.out.gr hg
 have y6 := hc.c6
 cases ok with
 | false =>
  have HC1 : Hid (PenC P w1 t v false) := hc
  clear hc hok hi hg
  go_wp2
  go_end0
  exact ⟨rfl, t, false, ⟨v, q, l, HC1.out, HR1.out, hl6, HK6.out⟩, hts, fun h => (by cases h), HB1.out⟩
 | true =>
  obtain ⟨hnl, htm⟩ := hok rfl
  obtain ⟨va, vc, hnv⟩ := few_form hi
  rw [hnl] at hnv
  subst hnv
  have HM : Hid (StpM P w w1 t v va vc m ns) := ⟨hc, hg, hnl, hi⟩
  clear hc hi hg hnl hn6 HC HR1 HB1
  go_upto_if 17 with fail
  clear y6
  go_cut [] (fun wx => ∃ ns, StpM P w wx t v va vc m ns)
  case first =>
   cases sm with
   | false =>
    go_wp2
    go_meet
    exact ⟨ns, HM.out⟩
   | true =>
    go_wp2
    go_loopw [20] (fun i wr => ∃ (k : Nat) (ns : List Int), k ≤ m ∧ i = .int .i64 (k : Int) ∧ StpM P w wr t v va vc m ns) (fun i _ => m - (intOf i).toNat)
    case atStart => exact ⟨0, ns, Nat.zero_le _, rfl, HM.out⟩
    case round =>
     clear HM
     obtain ⟨k, ns, hkm, rfl, hw⟩ := hrel
     have HW : Hid (StpM P w wr t v va vc m ns) := hw
     by_cases hlt : k < m
     ·obtain ⟨g, hva, hg1, hg2, hcell, hfz⟩ := hw.cells (by omega)
      subst hva
      have cx := hcell k hlt
      obtain ⟨px, cpx⟩ := hw.c.c2
      obtain ⟨py, cpy⟩ := hw.c.c3
      have hP := HP.out
      have HNX : ∀ z, Hid (StpM P w (wr.setCell ⟨g, k, none⟩ (.int .i64 z)) t v (some ⟨g, 0, none⟩) vc m (ns.set k z)) := fun z => by
       have ho : Ins wr w.heap.size (.slice (some ⟨g, 0, none⟩) ns.length vc) ns := by rw [hw.len]; exact hw.own
       have h1 := Ins.setAt ho k z
       rw [hw.len] at h1
       exact ⟨hw.c.far g k _ (by omega), hw.g.set hg1 _ _, by rw [List.length_set]; exact hw.len, h1⟩
      clear hw hcell
      generalize intAt ns k = x at *
      obtain ⟨B1, h1⟩ : ∃ B, ((b : Int) == 86) = B := ⟨_, rfl⟩
      obtain ⟨B2, h2⟩ : ∃ B, ((b : Int) != 72) = B := ⟨_, rfl⟩
      obtain ⟨B3, h3⟩ : ∃ B, ((k : Int) % 2 == 1) = B := ⟨_, rfl⟩
      cases B1 with
      | true =>
       go_wp2_with fail
       refine PS7.run ⟨g, m, vc, k, P, x, py, wrap64 (x + py), wr.drew, _⟩ ⟨hlt, by exact cx, by exact cpy, wz64 _, by exact hfz, rfl, rfl, rfl, rfl⟩ wr rfl ?_
       rintro γ w7 rfl
       simp only [Act.put, List.setIfInBounds_toArray, List.set_cons_zero, List.set_cons_succ]
       have HN := HNX (wrap64 (x + py))
       generalize ns.set k (wrap64 (x + py)) = ns2 at *
       go_wp2
       go_roundw
       case rel => exact ⟨k + 1, ns2, by omega, by go_num, HN.out.drew⟩
       case measure => simp [intOf]; omega
      | false =>
       cases B2 with
       | false =>
        go_wp2_with fail
        refine PS8.run ⟨g, m, vc, k, P, x, px, wrap64 (x + px), wr.drew, _⟩ ⟨hlt, by exact cx, by exact cpx, wz64 _, by exact hfz, rfl, rfl, rfl, rfl⟩ wr rfl ?_
        rintro γ w7 rfl
        simp only [Act.put, List.setIfInBounds_toArray, List.set_cons_zero, List.set_cons_succ]
        have HN := HNX (wrap64 (x + px))
        generalize ns.set k (wrap64 (x + px)) = ns2 at *
        go_wp2
        go_roundw
        case rel => exact ⟨k + 1, ns2, by omega, by go_num, HN.out.drew⟩
        case measure => simp [intOf]; omega
       | true =>
        cases B3 with
        | true =>
         go_wp2_with fail
         refine PS7.run ⟨g, m, vc, k, P, x, py, wrap64 (x + py), wr.drew, _⟩ ⟨hlt, by exact cx, by exact cpy, wz64 _, by exact hfz, rfl, rfl, rfl, rfl⟩ wr rfl ?_
         rintro γ w7 rfl
         simp only [Act.put, List.setIfInBounds_toArray, List.set_cons_zero, List.set_cons_succ]
         have HN := HNX (wrap64 (x + py))
         generalize ns.set k (wrap64 (x + py)) = ns2 at *
         go_wp2
         go_roundw
         case rel => exact ⟨k + 1, ns2, by omega, by go_num, HN.out.drew⟩
         case measure => simp [intOf]; omega
        | false =>
         go_wp2_with fail
         refine PS8.run ⟨g, m, vc, k, P, x, px, wrap64 (x + px), wr.drew, _⟩ ⟨hlt, by exact cx, by exact cpx, wz64 _, by exact hfz, rfl, rfl, rfl, rfl⟩ wr rfl ?_
         rintro γ w7 rfl
         simp only [Act.put, List.setIfInBounds_toArray, List.set_cons_zero, List.set_cons_succ]
         have HN := HNX (wrap64 (x + px))
         generalize ns.set k (wrap64 (x + px)) = ns2 at *
         go_wp2
         go_roundw
         case rel => exact ⟨k + 1, ns2, by omega, by go_num, HN.out.drew⟩
         case measure => simp [intOf]; omega
     ·obtain rfl : k = m := by omega
      clear hlt
      go_wp2
      go_meet
      exact ⟨ns, HW.out⟩
  case rest =>
   clear HM
   obtain ⟨ns, hw⟩ := hcut
   have HW : Hid (StpM P w wc t v va vc m ns) := hw
   clear hw
   have hk := HK.out
   simp only [List.mem_cons, Prod.mk.injEq, List.mem_nil_iff, or_false] at hk
   rcases hk with ⟨rfl, rfl⟩ | ⟨rfl, rfl⟩ | ⟨rfl, rfl⟩ | ⟨rfl, rfl⟩ | ⟨rfl, rfl⟩ | ⟨rfl, rfl⟩ | ⟨rfl, rfl⟩
   ·have hput := put_some P wc t v q l true 1 va vc ns HW.out.c (HR.out.gr HW.out.g) hl6 HK6.out (HW.out.nm HP.out HV.out) (by have := HW.out.len; omega) (by have := HW.out.len; omega)
    rw [HW.out.len] at hput
    have HPUT : Hid (Calls _ _ _ _ _) := hput
    clear hput
    go_wp2_with fail
    refine Calls.mono HPUT.out ?_
    rintro e w2 ⟨rfl, ⟨ok2, hpen⟩, hb2⟩
    have HPEN : Hid (PenW P w2 t ok2) := hpen
    have HB2 : Hid (Below P w w2) := Below.trans (HW.out.g.below (Nat.le_of_lt HP.out)) hb2
    clear hpen hb2
    obtain ⟨v3, q3, l3, hc3, hr3, hl3, hk3⟩ := HPEN.out
    obtain ⟨x1, z1⟩ := hc3.c2
    obtain ⟨u1, z2⟩ := hc3.c4
    have yf := hc3.free
    obtain ⟨W, hW⟩ : ∃ W, w2.setCell ⟨P, 4, none⟩ (.int .i64 x1) = W := ⟨_, rfl⟩
    have HPEN2 : Hid (PenW P W t ok2) := by show PenW _ _ _ _; rw [← hW]; exact HPEN.out.setX 4 (by omega) x1
    have HB3 : Hid (Below P w W) := by show Below _ _ _; rw [← hW]; exact below_setP HB2.out _ _
    clear hc3 hr3 hl3 hk3
    go_upto_region 17 with fail
    clear hW z1 z2 yf HPEN HB2
    obtain ⟨v4, q4, l4, hc4, _⟩ := HPEN2.out
    obtain ⟨x2, z1⟩ := hc4.c3
    obtain ⟨u2, z2⟩ := hc4.c5
    have yf := hc4.free
    clear hc4
    go_wp2
    go_end0
    exact ⟨rfl, t, ok2, HPEN2.out.setX 5 (by omega) x2, by omega, fun _ _ => by omega, below_setP HB3.out _ _⟩
   ·have hput := put_some P wc t v q l true 2 va vc ns HW.out.c (HR.out.gr HW.out.g) hl6 HK6.out (HW.out.nm HP.out HV.out) (by have := HW.out.len; omega) (by have := HW.out.len; omega)
    rw [HW.out.len] at hput
    have HPUT : Hid (Calls _ _ _ _ _) := hput
    clear hput
    go_wp2_with fail
    refine Calls.mono HPUT.out ?_
    rintro e w2 ⟨rfl, ⟨ok2, hpen⟩, hb2⟩
    have HPEN : Hid (PenW P w2 t ok2) := hpen
    have HB2 : Hid (Below P w w2) := Below.trans (HW.out.g.below (Nat.le_of_lt HP.out)) hb2
    clear hpen hb2
    go_wp2
    go_end0
    exact ⟨rfl, t, ok2, HPEN.out, by omega, fun _ _ => by omega, HB2.out⟩
   ·obtain ⟨g, hva, hg1, hg2, hcell, hfz⟩ := HW.out.cells (by omega)
    subst hva
    have cx := hcell 0 (by omega)
    obtain ⟨py, cp⟩ := HW.out.c.c3
    generalize intAt ns 0 = x at *
    have NW : Hid (Nw wc (wc.drew.alloc (.cells #[.int .i64 x, .int .i64 py] 3))) := Nw.trans (nw_drw wc) ((Below.refl _ _).alloc (Nat.le_refl _) _)
    clear hcell
    go_wp2_with fail
    refine PS21.run ⟨g, 1, vc, P, x, py, fun w' => (∃ ok, PenW P w' t ok) ∧ Below P w w', wc.drew, _⟩ ⟨by simp, by exact cx, by exact cp, ?ph, rfl, rfl, rfl⟩ wc rfl ?_
    case ph =>
     have hP := HP.out
     have hwc := HW.out.g.size
     refine (put_some P _ t v q l true 2 (some ⟨wc.heap.size, 0, none⟩) 2 [x, py] (HW.out.c.nw NW.out) ((HR.out.gr HW.out.g).gr (Gr.of_nw NW.out)) hl6 HK6.out (Or.inr ⟨wc.heap.size, 0, rfl, by omega, by simp, fun e => by have := HV.out _ e; omega, fun i hi => ?_⟩) (by simp) (by simp)).mono ?_
     ·rcases (show i = 0 ∨ i = 1 by simp at hi; omega) with rfl | rfl <;> (rw [show wc.heap.size = wc.drew.heap.size from rfl, World.cell?_alloc_new]; simp [intAt])
     ·rintro e w2 ⟨rfl, hpen, hb2⟩
      exact ⟨rfl, hpen, Below.trans (Below.trans (HW.out.g.below (Nat.le_of_lt HP.out)) (Below.mono NW.out (by omega))) hb2⟩
    rintro γ w7 ⟨⟨ok2, hpen⟩, hb2⟩
    simp only [Act.put, List.setIfInBounds_toArray, List.set_cons_zero, List.set_cons_succ]
    have HPEN : Hid (PenW P w7 t ok2) := hpen
    have HB2 : Hid (Below P w w7) := hb2
    clear hpen hb2
    go_wp2
    go_end0
    exact ⟨rfl, t, ok2, HPEN.out, by omega, fun _ _ => by omega, HB2.out⟩
   ·obtain ⟨g, hva, hg1, hg2, hcell, hfz⟩ := HW.out.cells (by omega)
    subst hva
    have cx := hcell 0 (by omega)
    obtain ⟨px, cp⟩ := HW.out.c.c2
    generalize intAt ns 0 = x at *
    have NW : Hid (Nw wc (wc.drew.alloc (.cells #[.int .i64 px, .int .i64 x] 3))) := Nw.trans (nw_drw wc) ((Below.refl _ _).alloc (Nat.le_refl _) _)
    clear hcell
    go_wp2_with fail
    refine PS23.run ⟨g, 1, vc, P, px, x, fun w' => (∃ ok, PenW P w' t ok) ∧ Below P w w', wc.drew, _⟩ ⟨by simp, by exact cx, by exact cp, ?ph, rfl, rfl, rfl⟩ wc rfl ?_
    case ph =>
     have hP := HP.out
     have hwc := HW.out.g.size
     refine (put_some P _ t v q l true 2 (some ⟨wc.heap.size, 0, none⟩) 2 [px, x] (HW.out.c.nw NW.out) ((HR.out.gr HW.out.g).gr (Gr.of_nw NW.out)) hl6 HK6.out (Or.inr ⟨wc.heap.size, 0, rfl, by omega, by simp, fun e => by have := HV.out _ e; omega, fun i hi => ?_⟩) (by simp) (by simp)).mono ?_
     ·rcases (show i = 0 ∨ i = 1 by simp at hi; omega) with rfl | rfl <;> (rw [show wc.heap.size = wc.drew.heap.size from rfl, World.cell?_alloc_new]; simp [intAt])
     ·rintro e w2 ⟨rfl, hpen, hb2⟩
      exact ⟨rfl, hpen, Below.trans (Below.trans (HW.out.g.below (Nat.le_of_lt HP.out)) (Below.mono NW.out (by omega))) hb2⟩
    rintro γ w7 ⟨⟨ok2, hpen⟩, hb2⟩
    simp only [Act.put, List.setIfInBounds_toArray, List.set_cons_zero, List.set_cons_succ]
    have HPEN : Hid (PenW P w7 t ok2) := hpen
    have HB2 : Hid (Below P w w7) := hb2
    clear hpen hb2
    go_wp2
    go_end0
    exact ⟨rfl, t, ok2, HPEN.out, by omega, fun _ _ => by omega, HB2.out⟩
   ·have hput := put_some P wc t v q l true 3 va vc ns HW.out.c (HR.out.gr HW.out.g) hl6 HK6.out (HW.out.nm HP.out HV.out) (by have := HW.out.len; omega) (by have := HW.out.len; omega)
    rw [HW.out.len] at hput
    have HPUT : Hid (Calls _ _ _ _ _) := hput
    clear hput
    go_wp2_with fail
    refine Calls.mono HPUT.out ?_
    rintro e w2 ⟨rfl, ⟨ok2, hpen⟩, hb2⟩
    have HPEN : Hid (PenW P w2 t ok2) := hpen
    have HB2 : Hid (Below P w w2) := Below.trans (HW.out.g.below (Nat.le_of_lt HP.out)) hb2
    clear hpen hb2
    go_wp2
    go_end0
    exact ⟨rfl, t, ok2, HPEN.out, by omega, fun _ _ => by omega, HB2.out⟩
   ·obtain ⟨g, hva, hg1, hg2, hcell, hfz⟩ := HW.out.cells (by omega)
    subst hva
    have c0 := hcell 0 (by omega)
    have c1 := hcell 1 (by omega)
    have c2 := hcell 2 (by omega)
    have c3 := hcell 3 (by omega)
    obtain ⟨px, cpx⟩ := HW.out.c.c2
    obtain ⟨py, cpy⟩ := HW.out.c.c3
    generalize intAt ns 0 = n0 at *
    generalize intAt ns 1 = n1 at *
    generalize intAt ns 2 = n2 at *
    generalize intAt ns 3 = n3 at *
    clear hcell
    obtain ⟨d0, hd0⟩ := dwn_some (wrap64 (px + wrap64 (2 * n0))) 3 (by omega) (by omega)
    obtain ⟨d1, hd1⟩ := dwn_some (wrap64 (py + wrap64 (2 * n1))) 3 (by omega) (by omega)
    obtain ⟨d2, hd2⟩ := dwn_some (wrap64 (n2 + wrap64 (2 * n0))) 3 (by omega) (by omega)
    obtain ⟨d3, hd3⟩ := dwn_some (wrap64 (n3 + wrap64 (2 * n1))) 3 (by omega) (by omega)
    have key : ∀ (x y : Int), (∀ w, Calls Try.prog 104 #[.int .i64 x, .int .i64 3] w fun e w' => e = .returned (.int .i64 y) ∧ w' = w) → ∀ w, Calls Try.prog 104 #[.int .i64 x, .int .i64 3] w fun e w' => e = .returned (.int .i64 y) ∧ Kp w w' := fun x y h w => (h w).mono fun e w' ⟨h1, h2⟩ => ⟨h1, by rw [h2]; exact Kp.refl _⟩
    go_wp2_with fail
    refine PS27.run ⟨g, 4, vc, P, px, py, n0, n1, n2, n3, wrap64 (2 * n0), wrap64 (2 * n1), wrap64 (px + wrap64 (2 * n0)), wrap64 (py + wrap64 (2 * n1)), wrap64 (n2 + wrap64 (2 * n0)), wrap64 (n3 + wrap64 (2 * n1)), d0, d1, d2, d3, fun w' => (∃ ok, PenW P w' t ok) ∧ Below P w w', wc.drew, _⟩ ⟨by exact (by decide : (0 : Int) < ((4 : Nat) : Int)), by exact (by decide : (4 : Nat) ≠ 0), by exact (by decide : (1 : Int) < ((4 : Nat) : Int)), by exact (by decide : (2 : Int) < ((4 : Nat) : Int)), by exact (by decide : (3 : Int) < ((4 : Nat) : Int)), by exact (by decide : 1 < 4), by exact (by decide : 2 < 4), by exact (by decide : 3 < 4), by exact cpx, by exact cpy, by exact c0, by exact c1, by exact c2, by exact c3, wz64 _, wz64 _, wz64 _, wz64 _, wz64 _, wz64 _, key _ _ hd0, key _ _ hd1, key _ _ hd2, key _ _ hd3, ?ph, rfl, rfl, rfl⟩ wc (Kp.refl _) ?_
    case ph =>
     intro wk k1
     have hP := HP.out
     have k2 : Nw wc wk := Nw.trans (nw_drw wc) (Kp.nw k1)
     have hwc := HW.out.g.size
     have hwk := Below.size k2
     have NW : Nw wk (wk.alloc (.cells #[.int .i64 d0, .int .i64 d1, .int .i64 d2, .int .i64 d3, .int .i64 n2, .int .i64 n3] 3)) := (Below.refl _ _).alloc (Nat.le_refl _) _
     have NW2 := Nw.trans k2 NW
     refine (put_some P _ t v q l true 3 (some ⟨wk.heap.size, 0, none⟩) 6 [d0, d1, d2, d3, n2, n3] (HW.out.c.nw NW2) ((HR.out.gr HW.out.g).gr (Gr.of_nw NW2)) hl6 HK6.out (Or.inr ⟨wk.heap.size, 0, rfl, by omega, by simp, fun e => by have := HV.out _ e; omega, fun i hi => ?_⟩) (by simp) (by simp)).mono ?_
     ·rcases (show i = 0 ∨ i = 1 ∨ i = 2 ∨ i = 3 ∨ i = 4 ∨ i = 5 by simp at hi; omega) with rfl | rfl | rfl | rfl | rfl | rfl <;> (rw [World.cell?_alloc_new]; simp [intAt])
     ·rintro e w2 ⟨rfl, hpen, hb2⟩
      exact ⟨rfl, hpen, Below.trans (Below.trans (HW.out.g.below (Nat.le_of_lt HP.out)) (Below.mono NW2 (by omega))) hb2⟩
    rintro γ w7 ⟨⟨ok2, hpen⟩, hb2⟩
    simp only [Act.put, List.setIfInBounds_toArray, List.set_cons_zero, List.set_cons_succ]
    have HPEN : Hid (PenW P w7 t ok2) := hpen
    have HB2 : Hid (Below P w w7) := hb2
    clear hpen hb2
    go_wp2
    go_end0
    exact ⟨rfl, t, ok2, HPEN.out, by omega, fun _ _ => by omega, HB2.out⟩
   ·go_wp2_with fail
    refine (put_some P wc t v q l true 4 none 0 [] HW.out.c (HR.out.gr HW.out.g) hl6 HK6.out (Or.inl rfl) (by simp) (by simp)).mono ?_
    rintro e w2 ⟨rfl, ⟨ok2, hpen⟩, hb2⟩
    have HPEN : Hid (PenW P w2 t ok2) := hpen
    have HB2 : Hid (Below P w w2) := Below.trans (HW.out.g.below (Nat.le_of_lt HP.out)) hb2
    clear hpen hb2
    obtain ⟨v3, q3, l3, hc3, hr3, hl3, hk3⟩ := HPEN.out
    obtain ⟨x1, z1⟩ := hc3.c4
    obtain ⟨u1, z2⟩ := hc3.c2
    have yf := hc3.free
    obtain ⟨W, hW⟩ : ∃ W, w2.setCell ⟨P, 2, none⟩ (.int .i64 x1) = W := ⟨_, rfl⟩
    have HPEN2 : Hid (PenW P W t ok2) := by show PenW _ _ _ _; rw [← hW]; exact HPEN.out.setX 2 (by omega) x1
    have HB3 : Hid (Below P w W) := by show Below _ _ _; rw [← hW]; exact below_setP HB2.out _ _
    clear hc3 hr3 hl3 hk3
    go_upto_region 13 with fail
    clear hW z1 z2 yf HPEN HB2
    obtain ⟨v4, q4, l4, hc4, _⟩ := HPEN2.out
    obtain ⟨x2, z1⟩ := hc4.c5
    obtain ⟨u2, z2⟩ := hc4.c3
    have yf := hc4.free
    clear hc4
    go_wp2
    go_end0
    exact ⟨rfl, t, ok2, HPEN2.out.setX 3 (by omega) x2, by omega, fun _ _ => by omega, below_setP HB3.out _ _⟩
def penSz (P : Nat) (w : World) : Nat := match w.cell? ⟨P, 0, none⟩ with | some (.string s) => s.size | _ => 0
def penOk (P : Nat) (w : World) : Nat := match w.cell? ⟨P, 6, none⟩ with | some (.bool true) => 1 | _ => 0
def penFi : Value → Nat | .bool true => 1 | _ => 0
theorem penSz_is {P : Nat} {w : World} {s : ByteArray} {ok : Bool} (h : PenW P w s ok) : penSz P w = s.size := by
 obtain ⟨v, q, l, hc, _⟩ := h
 unfold penSz; rw [hc.c0]
theorem penOk_is {P : Nat} {w : World} {s : ByteArray} {ok : Bool} (h : PenW P w s ok) : penOk P w = if ok then 1 else 0 := by
 obtain ⟨v, q, l, hc, _⟩ := h
 unfold penOk; rw [hc.c6]; cases ok <;> rfl
def kLet : List (Nat × Nat) := [(77, 2), (76, 2), (72, 1), (86, 1), (67, 6), (81, 4), (90, 0)]
theorem kLet_of (b : Nat) (h : 0 ≤ manyI b) : ∃ m, (b, m) ∈ kLet := by
 unfold manyI at h
 by_cases c0 : b = 77
 ·exact ⟨2, by subst c0; decide⟩
 by_cases c1 : b = 76
 ·exact ⟨2, by subst c1; decide⟩
 by_cases c2 : b = 72
 ·exact ⟨1, by subst c2; decide⟩
 by_cases c3 : b = 86
 ·exact ⟨1, by subst c3; decide⟩
 by_cases c4 : b = 67
 ·exact ⟨6, by subst c4; decide⟩
 by_cases c5 : b = 81
 ·exact ⟨4, by subst c5; decide⟩
 by_cases c6 : b = 90
 ·exact ⟨0, by subst c6; decide⟩
 rw [if_neg (by omega), if_neg (by omega), if_neg (by omega), if_neg (by omega), if_neg (by omega)] at h
 omega
def PathS (w : World) (e : Ending) (w' : World) : Prop := ∃ (a : Option Addr) (c : Nat) (l : List SD) (ok : Bool), e = .returned (.tuple #[.slice a l.length c, .bool ok]) ∧ Steps w' a l ∧ l.length ≤ 60 ∧ (∀ i, i < l.length → (stAt l i).ns.length ≤ 6) ∧ Nw w w'
theorem PathS.nil {w w' : World} (h : Nw w w') (ok : Bool) : PathS w (.returned (.tuple #[.slice none 0 0, .bool ok])) w' := ⟨none, 0, [], ok, rfl, Or.inl rfl, by simp, fun i hi => absurd hi (by simp), h⟩
theorem PathS.drewN {w w' : World} {e : Ending} (h : PathS w e w') (n : Nat) : PathS w e (w'.drewN n) := by
 obtain ⟨a, c, l, ok, h1, h2, h3, h4, h5⟩ := h
 have k : Nw w' (w'.drewN n) := ⟨rfl, rfl, rfl, Nat.le_refl _, fun _ _ => rfl⟩
 exact ⟨a, c, l, ok, h1, h2.nw k, h3, h4, h5.trans k⟩
theorem PenW.new (w : World) (t : ByteArray) (T : TypeId) : PenW w.heap.size (w.alloc (.cells #[.string t, .slice none 0 0, .int .i64 0, .int .i64 0, .int .i64 0, .int .i64 0, .bool true] T)) t true :=
 ⟨.slice none 0 0, [], [], ⟨by simp, by simp, ⟨0, by simp⟩, ⟨0, by simp⟩, ⟨0, by simp⟩, ⟨0, by simp⟩, by simp, fun o => World.frozen?_alloc_at _ _ _ _ rfl⟩, StR.nil _ _, by simp, fun i hi => absurd hi (by simp)⟩
set_option maxRecDepth 100000 in
set_option maxHeartbeats 8000000 in
theorem path_some (s0 : ByteArray) (w : World) (hs0 : s0.size ≤ 1048576) : Calls Try.prog 135 #[.string s0] w fun e w' => PathS w e w' := by
 go_enter Try.func135, Try.ntmps135
 go_wp2_with fail
 refine (trim_some s0 _ hs0).mono ?_
 rintro e w' ⟨t0, rfl, ht0, hq⟩
 have hq2 := hq.symm; clear hq; subst hq2
 obtain ⟨W, hW⟩ : ∃ W, w.alloc (.cells #[.string t0, .slice none 0 0, .int .i64 0, .int .i64 0, .int .i64 0, .int .i64 0, .bool true] 182) = W := ⟨_, rfl⟩
 have HP0 : Hid (PenW w.heap.size W t0 true) := by show PenW _ _ _ _; rw [← hW]; exact PenW.new w t0 _
 have NW : Hid (Nw w W) := by show Nw _ _; rw [← hW]; exact (Below.refl _ _).alloc (Nat.le_refl _) _
 have HW : Hid (_ = W) := hW
 clear hW
 generalize hP : w.heap.size = P at *
 have HPW : Hid (w.heap.size = P) := hP
 clear hP
 go_wp2
 rw [HW.out, HPW.out]
 clear HW
 go_loopw [5] (fun _ wr => ∃ (t : ByteArray) (ok : Bool), PenW P wr t ok ∧ t.size ≤ t0.size ∧ Below P w wr) (fun _ wr => penSz P wr)
 case atStart => exact ⟨t0, true, HP0.out, Nat.le_refl _, by rw [← HPW.out]; exact NW.out⟩
 case round =>
  clear HP0 NW
  obtain ⟨t, ok, hpen, htt, hbel⟩ := hrel
  have HPEN : Hid (PenW P wr t ok) := hpen
  have HBEL : Hid (Below P w wr) := hbel
  obtain ⟨v, q, l, hc, hr, hl6, hk6⟩ := hpen
  obtain ⟨va, vc, hv, hst⟩ := hr.steps
  subst hv
  have y0 := hc.c0
  have y1 := hc.c1
  have y6 := hc.c6
  have yf := hc.free
  have HEND : Hid (PathS w (.returned (.tuple #[.slice va l.length vc, .bool ok])) wr) := ⟨va, vc, l, ok, rfl, hst, hl6, hk6, by show Below _ _ _; rw [HPW.out]; exact hbel⟩
  clear hc hr hk6 hst hbel
  cases ok with
  | false =>
   go_wp2
   go_quiet (fail)
   go_wp2
   go_ret2
   exact HEND.out.drewN _
  | true =>
   by_cases hz : t.size = 0
   ·obtain rfl := empty_of hz
    go_wp2
    go_quiet (fail)
    go_wp2
    go_ret2
    exact HEND.out.drewN _
   ·have q0 := ne_emp (s := t) (by omega)
    have q0b := ne_nil (s := t) (by omega)
    have hz0 : 0 < t.size := by omega
    have i0 : (0 : Int) < (t.size : Int) := by omega
    clear HEND
    have hb256 : t[0].toNat < 256 := t[0].toNat_lt
    obtain ⟨c, hcc⟩ : ∃ c, t[0].toNat = c := ⟨_, rfl⟩
    have hci : (t[0].toNat : Int) = (c : Int) := by rw [hcc]
    rw [hcc] at hb256
    go_upto_region 4 with fail
    clear hci hcc
    go_cut [6] (fun x wx => ∃ sm : Bool, x = .bool sm ∧ (sm = true → 97 ≤ c) ∧ wr = wx)
    case first =>
     by_cases h1 : 97 ≤ c
     ·have d1 : decide ((97 : Int) ≤ (c : Int)) = true := decide_eq_true (by omega)
      by_cases h2 : c ≤ 122
      ·have d2 : decide ((c : Int) ≤ 122) = true := decide_eq_true (by omega)
       go_wp2
       go_meet
       exact ⟨true, rfl, fun _ => h1, rfl⟩
      ·have d2 : decide ((c : Int) ≤ 122) = false := decide_eq_false (by omega)
       go_wp2
       go_meet
       exact ⟨false, rfl, fun h => (by cases h), rfl⟩
     ·have d1 : decide ((97 : Int) ≤ (c : Int)) = false := decide_eq_false (by omega)
      go_wp2
      go_meet
      exact ⟨false, rfl, fun h => (by cases h), rfl⟩
    case rest =>
     obtain ⟨sm, rfl, hsm, rfl⟩ := hcut
     go_upto_if 37 with fail
     go_cut [5] (fun x wx => ∃ b : Nat, x = .int .u8 (b : Int) ∧ wr = wx)
     case first =>
      cases sm with
      | true =>
       have h97 := hsm rfl
       have hw8 : IntKind.u8.wrap ((c : Int) - 32) = ((c - 32 : Nat) : Int) := by rw [IntKind.wrap_u8]; omega
       go_wp2
       go_meet
       exact ⟨c - 32, by first | rfl | (rw [← hw8]) | (congr 1; omega), rfl⟩
      | false =>
       go_wp2
       go_meet
       exact ⟨c, rfl, rfl⟩
     case rest =>
      clear hsm hb256
      obtain ⟨b, rfl, rfl⟩ := hcut
      go_upto_region 7 with fail
      go_cut [54] (fun x wx => ∃ r : Bool, x = .bool r ∧ (r = false → 0 ≤ manyI b) ∧ wr = wx)
      case first =>
       by_cases hm : 0 ≤ manyI b
       ·have dm : decide (manyI b < 0) = false := decide_eq_false (by omega)
        cases hl0 : ((l.length : Int) == 0) with
        | false =>
         go_wp2_with fail
         refine (many_is b _).mono ?_
         rintro e w' ⟨rfl, rfl⟩
         go_wp2
         go_meet
         exact ⟨false, rfl, fun _ => hm, rfl⟩
        | true =>
         cases hb : ((b : Int) != 77) with
         | false =>
          go_wp2_with fail
          refine (many_is b _).mono ?_
          rintro e w' ⟨rfl, rfl⟩
          go_wp2
          go_meet
          exact ⟨false, rfl, fun _ => hm, rfl⟩
         | true =>
          go_wp2_with fail
          refine (many_is b _).mono ?_
          rintro e w' ⟨rfl, rfl⟩
          go_wp2
          go_meet
          exact ⟨true, rfl, fun h => (by cases h), rfl⟩
       ·have dm : decide (manyI b < 0) = true := decide_eq_true (by omega)
        go_wp2_with fail
        refine (many_is b _).mono ?_
        rintro e w' ⟨rfl, rfl⟩
        go_wp2
        go_meet
        exact ⟨true, rfl, fun h => (by cases h), rfl⟩
      case rest =>
       obtain ⟨r, rfl, hr0, rfl⟩ := hcut
       cases r with
       | true =>
        go_wp2
        go_ret2
        exact PathS.nil (by show Below _ _ _; rw [HPW.out]; exact HBEL.out) false
       | false =>
        obtain ⟨m, hkm⟩ := kLet_of b (hr0 rfl)
        clear hr0
        have HKM : Hid ((b, m) ∈ kLet) := hkm
        clear hkm
        have hex := ex_sizeW t 1 t.size (by omega) (Nat.le_refl _)
        have HP1 : ∀ u, Hid (PenW P (wr.setCell ⟨P, 0, none⟩ (.string u)) u true) := fun u => HPEN.out.setS u
        have HB1 : ∀ u, Hid (Below P w (wr.setCell ⟨P, 0, none⟩ (.string u))) := fun u => HBEL.out.setCell (Nat.le_refl _) _
        have HSZ : Hid (penSz P wr = t.size) := penSz_is HPEN.out
        go_upto_region 10 with fail
        generalize t.extract 1 t.size = u at *
        have hus : u.size < t.size := by omega
        obtain ⟨W1, hW1⟩ : ∃ W1, wr.setCell ⟨P, 0, none⟩ (.string u) = W1 := ⟨_, rfl⟩
        have HP2 : Hid (PenW P W1 u true) := by show PenW _ _ _ _; rw [← hW1]; exact (HP1 u).out
        have HB2 : Hid (Below P w W1) := by show Below _ _ _; rw [← hW1]; exact (HB1 u).out
        rw [hW1]
        clear hW1 HP1 HB1 HPEN HBEL y0 y1 y6 yf q0 q0b i0 hz hz0
        go_wp2
        go_loopw [5, 7] (fun x y wr => ∃ (b m : Nat) (first : Bool) (t : ByteArray) (ok : Bool), x = .int .u8 (b : Int) ∧ (b, m) ∈ kLet ∧ y = .bool first ∧ PenW P wr t ok ∧ t.size ≤ u.size ∧ Below P w wr) (fun _ y wr => penSz P wr + penOk P wr + penFi y)
        case atStart => exact ⟨b, m, true, u, true, rfl, HKM.out, rfl, HP2.out, Nat.le_refl _, HB2.out⟩
        case round =>
         clear HP2 HB2 HKM
         obtain ⟨b, m, first, t1, ok, rfl, hkm, rfl, hpen, hts, hbel⟩ := hrel
         have HKM : Hid ((b, m) ∈ kLet) := hkm
         have HPEN : Hid (PenW P wr t1 ok) := hpen
         have HBEL : Hid (Below P w wr) := hbel
         obtain ⟨v, q, l, hc, _⟩ := hpen
         have y0 := hc.c0
         have y6 := hc.c6
         have yf := hc.free
         clear hc hkm hbel
         cases ok with
         | false =>
          go_wp2
          go_roundw
          case rel => exact ⟨t1, false, HPEN.out, by omega, HBEL.out⟩
          case measure => rw [penSz_is HPEN.out, HSZ.out]; omega
         | true =>
          go_wp2_with fail
          refine (gap_some t1 _ (by omega)).mono ?_
          rintro e w1 ⟨g, rfl, hg, hq⟩
          have hq2 := hq.symm; clear hq; subst hq2
          go_wp2_with fail
          refine (dec_some g _ (by omega)).mono ?_
          rintro e w2 ⟨n, z, rfl, hn, hq⟩
          have hq2 := hq.symm; clear hq; subst hq2
          go_upto_region 15 with fail
          go_cut [86] (fun x wx => ∃ r : Bool, x = .bool r ∧ (r = false → first = true ∨ b ≠ 90) ∧ wr = wx)
          case first =>
           cases first with
           | true =>
            go_wp2
            go_meet
            exact ⟨false, rfl, fun _ => by simp, rfl⟩
           | false =>
            cases hn0 : ((n : Int) == 0) with
            | true =>
             go_wp2
             go_meet
             exact ⟨true, rfl, fun h => (by cases h), rfl⟩
            | false =>
             by_cases hb : b = 90
             ·have eb : ((b : Int) == 90) = true := by rw [hb]; rfl
              clear hb
              go_wp2
              go_meet
              exact ⟨true, rfl, fun h => (by cases h), rfl⟩
             ·have eb : ((b : Int) == 90) = false := by rw [beq_eq_false_iff_ne]; omega
              go_wp2
              go_meet
              exact ⟨false, rfl, fun _ => Or.inr hb, rfl⟩
          case rest =>
           obtain ⟨r, rfl, hr, rfl⟩ := hcut
           cases r with
           | true =>
            have HX : Hid (PenW P (wr.setCell ⟨P, 0, none⟩ (.string g)) g true) := HPEN.out.setS g
            go_wp2
            go_roundw
            case rel => exact ⟨g, true, HX.out, by omega, HBEL.out.setCell (Nat.le_refl _) _⟩
            case measure => rw [penSz_is HX.out, HSZ.out]; omega
           | false =>
            have HR : Hid (first = true ∨ b ≠ 90) := hr rfl
            clear hr y0 y6 yf
            go_wp2_with fail
            refine (step_some P wr t1 b m sm HKM.out (by omega) HPEN.out).mono ?_
            rintro e w5 ⟨rfl, t2, ok2, hp2, hts2, hlt2, hb2⟩
            have HP5 : Hid (PenW P w5 t2 ok2) := hp2
            have HB5 : Hid (Below P w w5) := Below.trans HBEL.out hb2
            have HME : Hid (penSz P w5 + penOk P w5 + penFi (.bool false) < penSz P wr + penOk P wr + penFi (.bool first)) := by
             show _ < _
             rw [penSz_is hp2, penOk_is hp2, penSz_is HPEN.out, penOk_is HPEN.out]
             have h := HR.out
             cases ok2 with
             | false => simp [penFi]; omega
             | true =>
              have h2 := hlt2 rfl
              cases first with
              | true => simp [penFi]; omega
              | false =>
               have h3 : b ≠ 90 := by simpa using h
               have := h2 h3
               simp [penFi]; omega
            clear hp2 hlt2 hb2 HPEN HBEL HR
            by_cases hb : b = 77
            ·have eb : ((b : Int) == 77) = true := by rw [hb]; rfl
             clear hb HKM
             go_wp2
             go_roundw
             case rel => exact ⟨76, 2, false, t2, ok2, rfl, by decide, rfl, HP5.out, by omega, HB5.out⟩
             case measure => exact HME.out
            ·have eb : ((b : Int) == 77) = false := by rw [beq_eq_false_iff_ne]; omega
             go_wp2
             go_roundw
             case rel => exact ⟨b, m, false, t2, ok2, rfl, HKM.out, rfl, HP5.out, by omega, HB5.out⟩
             case measure => exact HME.out
theorem rpath_some (s : ByteArray) (w : World) (hs : s.size ≤ 1048576) : Calls Try.prog 113 #[.string s] w fun e w' => PathS w e w' := by
 by_cases h6 : s.size ≤ 600
 case neg =>
  have hd : decide ((600 : Int) < (s.size : Int)) = true := decide_eq_true (by omega)
  go_enter Try.func113, Try.ntmps113
  go_wp2
  go_ret2
  exact PathS.nil (Below.refl _ _) false
 have hd : decide ((600 : Int) < (s.size : Int)) = false := decide_eq_false (by omega)
 go_enter Try.func113, Try.ntmps113
 go_wp2_with fail
 refine (path_some s _ hs).mono ?_
 rintro e w1 ⟨a, c, l, ok, rfl, h1, h2, h3, h4⟩
 have HH : Hid (PathS w (.returned (.tuple #[.slice a l.length c, .bool true])) w1) := ⟨a, c, l, true, rfl, h1, h2, h3, h4⟩
 have H4 : Hid (Nw w w1) := h4
 clear h1 h3 h4
 cases ok with
 | true =>
  go_wp2
  go_ret2
  exact HH.out
 | false =>
  go_wp2
  go_ret2
  exact PathS.nil H4.out false
def fixB (x : Int) : Bool := decide (-1099511627776 ≤ x) && decide (x ≤ 1099511627776)
theorem fixB_iff {x : Int} : fixB x = true ↔ -1099511627776 ≤ x ∧ x ≤ 1099511627776 := by unfold fixB; simp
theorem igoodF (x : Int) (w : World) : Calls Try.prog 99 #[.int .i64 x] w fun e w' => e = .returned (.bool (fixB x)) ∧ w' = w := by
 go_enter Try.func99, Try.ntmps99
 go_wp2
 all_goals
  go_ret
  exact ⟨ret_bool (by unfold fixB; rw [Bool.eq_iff_iff]; simp; omega), rfl⟩
theorem sgoodF (x : Int) (w : World) : Calls Try.prog 69 #[.int .i64 x] w fun e w' => e = .returned (.bool (fixB x)) ∧ w' = w := by
 have H : Hid (∀ w, Calls Try.prog 45 #[.int .i64 x, .int .i64 (-1099511627776), .int .i64 1099511627776] w fun e w' => e = .returned (.bool (fixB x)) ∧ w' = w) := fun w => by
  refine Calls.mono (in_any w x (-1099511627776) 1099511627776) ?_
  rintro e w' ⟨rfl, rfl⟩
  exact ⟨ret_bool (by unfold fixB; rw [Bool.eq_iff_iff]; simp), rfl⟩
 go_enter Try.func69, Try.ntmps69
 go_wp2_with fail
 refine Calls.mono (H.out _) ?_
 rintro e w1 ⟨rfl, rfl⟩
 go_wp2
 go_ret
 exact ⟨rfl, rfl⟩
def ptB (p : Pnt) : Bool := fixB p.1 && fixB p.2
def ptsB (l : List Pnt) : Bool := l.all ptB
set_option maxHeartbeats 1000000 in
theorem iall_any (w : World) (b off c : Nat) (zs : List Int) (hl : zs.length ≤ 1048576) (hc : ∀ i, i < zs.length → w.cell? ⟨b, off + i, none⟩ = some (.int .i64 (zs.getD i 0))) :
  Calls Try.prog 71 #[.slice (some ⟨b, off, none⟩) zs.length c] w fun e w' => e = .returned (.bool (zs.all fixB)) ∧ w' = w := by
 obtain ⟨V, hV⟩ : ∃ V, zs.all fixB = V := ⟨_, rfl⟩
 rw [hV]
 have HV : Hid _ := hV
 have HC : Hid _ := hc
 clear hc hV
 go_enter Try.func71, Try.ntmps71
 go_wp2
 go_loop [7] (fun i => ∃ k : Nat, k ≤ zs.length ∧ i = .int .i64 k ∧ ∀ j, j < k → fixB (zs.getD j 0) = true) (fun i => zs.length - (intOf i).toNat)
 case atStart => exact ⟨0, Nat.zero_le _, rfl, fun j hj => absurd hj (by omega)⟩
 case round =>
  obtain ⟨k, hk, rfl, ha⟩ := hrel
  have HA : Hid _ := ha
  clear ha
  by_cases hlt : k < zs.length
  ·have q := HC.out k hlt
   have hcall : Hid (∀ w, Calls Try.prog 99 #[.int .i64 (zs.getD k 0)] w fun e w' => e = .returned (.bool (fixB (zs.getD k 0))) ∧ w' = w) := fun w => igoodF _ w
   obtain ⟨x, hx⟩ : ∃ x, zs.getD k 0 = x := ⟨_, rfl⟩
   have HX : Hid (zs.getD k 0 = x) := hx
   rw [hx] at q hcall
   clear hx
   cases hf : fixB x with
   | true =>
    rw [hf] at hcall
    have HF : Hid (fixB x = true) := hf
    clear hf
    go_wp2_with fail
    refine (hcall.out _).mono ?_
    rintro e w1 ⟨rfl, rfl⟩
    go_wp2
    go_round
    case rel =>
     refine ⟨k + 1, by omega, by go_num, fun j hj => ?_⟩
     rcases Nat.lt_succ_iff_lt_or_eq.1 hj with h | h
     ·exact HA.out j h
     ·rw [h, HX.out]; exact HF.out
    case measure => simp [intOf]; omega
   | false =>
    rw [hf] at hcall
    have HF : Hid (V = false) := HV.out.symm.trans (all_false _ 0 zs k hlt (HX.out ▸ hf))
    clear hf
    go_wp2_with fail
    refine (hcall.out _).mono ?_
    rintro e w1 ⟨rfl, rfl⟩
    go_wp2
    go_ret
    exact ⟨ret_bool HF.out.symm, rfl⟩
  ·have e : k = zs.length := by omega
   have HX : Hid (V = true) := HV.out.symm.trans (all_true _ 0 _ (fun j hj => HA.out j (by omega)))
   clear HA
   go_wp2
   go_ret
   exact ⟨ret_bool HX.out.symm, rfl⟩
def fixL (l : List LD) : Bool := l.all fun x => ptsB x.pts
def goodL (l : List LD) : Bool := fixL l && decide (manyL l ≤ 600)
theorem fixL_false {l : List LD} {k j : Nat} (hk : k < l.length) (hj : j < (lnAt l k).pts.length) (h : ptB (ptAt (lnAt l k).pts j) = false) : fixL l = false := by
 refine all_false _ noLD l k hk ?_
 exact all_false _ (0, 0) _ j hj h
theorem fixL_true {l : List LD} (h : ∀ k, k < l.length → ptsB (lnAt l k).pts = true) : fixL l = true := all_true _ noLD l h
end Go.Proofs.Ytdjemnbdaddegaa
