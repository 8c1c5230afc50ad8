/-
  Statements of l10Line that draw their order, whatever order 
-/
import Derived.Test.YtfdjjbgcaojcnaaGreatJAK
import Derived.Test.YtfdjjbgcaojcnaaGreatJAF
import Derived.Test.YtfdjjbgcaojcnaaGreatJAP
import Derived.Test.YtfdjjbgcaojcnaaGreatJAD
import Derived.Test.YtfdjjbgcaojcnaaGreatJAB
import Derived.Deep.RegionLaw
import Derived.Test.YtfdjjbgcaojcnaaGreatJAI
import Derived.Test.YtfdjjbgcaojcnaaGreatJAO
import Derived.Test.YtfdjjbgcaojcnaaGreatJAA
namespace Go.Proofs.YtfdjjbgcaojcnaaGreat
open Go.ChangeShapes Go.WideShapes Go.ChangeAt Go.RowKit
set_option linter.unusedVariables false
set_option linter.unusedSimpArgs false
structure LL24 where
 ax : Int
 ay : Int
 bx : Int
 by_ : Int
 sx : Int
 sy : Int
 ba : Nat
 bb : Nat
 bs : Nat
 v : Value
 B : Nat
 it : Its
 W : World
 a0 : Act
structure LL24Ok (X : LL24) : Prop where
 a0_ : X.W.cell? ⟨X.ba, 0, none⟩ = some (.int .i64 (X.ax))
 a1_ : X.W.cell? ⟨X.ba, 1, none⟩ = some (.int .i64 (X.ay))
 b0_ : X.W.cell? ⟨X.bb, 0, none⟩ = some (.int .i64 (X.bx))
 b1_ : X.W.cell? ⟨X.bb, 1, none⟩ = some (.int .i64 (X.by_))
 s0_ : X.W.cell? ⟨X.bs, 0, none⟩ = some (.int .i64 (X.sx))
 s1_ : X.W.cell? ⟨X.bs, 1, none⟩ = some (.int .i64 (X.sy))
 w0 : wid X.ax
 w1 : wid X.ay
 w2 : wid X.bx
 w3 : wid X.by_
 w4 : wid X.sx
 w5 : wid X.sy
 ho : OwnLn X.W X.B X.v X.it
 hB : X.B ≤ X.W.heap.size
 hl : X.it.length + 1 ≤ 1000000
 e10 : X.a0.eval (.tmp 10) = X.v
 e13 : X.a0.eval (.tmp 13) = .pointer (some ⟨X.ba, 0, none⟩)
 e14 : X.a0.eval (.tmp 14) = .pointer (some ⟨X.bb, 0, none⟩)
 e15 : X.a0.eval (.tmp 15) = .pointer (some ⟨X.bs, 0, none⟩)
 sz : X.a0.tmps.size = 270
def LL24.val0 (X : LL24) : Nat → Value
 | 13 => .pointer (some ⟨X.ba, 0, none⟩)
 | 14 => .pointer (some ⟨X.bb, 0, none⟩)
 | 15 => .pointer (some ⟨X.bs, 0, none⟩)
 | 102 => X.v
 | 103 => .agg #[.int .i64 (X.ax), .int .i64 (X.ay)]
 | 104 => .agg #[.int .i64 (X.sx), .int .i64 (X.sy)]
 | 105 => .agg #[.int .i64 (X.ax + X.sx), .int .i64 (X.ay + X.sy)]
 | 106 => .agg #[.int .i64 (X.bx), .int .i64 (X.by_)]
 | 107 => .agg #[.int .i64 (X.sx), .int .i64 (X.sy)]
 | 108 => .agg #[.int .i64 (X.bx + X.sx), .int .i64 (X.by_ + X.sy)]
 | 109 => .agg #[.int .i64 (X.bx), .int .i64 (X.by_)]
 | 110 => .agg #[.int .i64 (X.sx), .int .i64 (X.sy)]
 | 111 => .agg #[.int .i64 (X.bx - X.sx), .int .i64 (X.by_ - X.sy)]
 | 112 => .agg #[.int .i64 (X.ax), .int .i64 (X.ay)]
 | 113 => .agg #[.int .i64 (X.sx), .int .i64 (X.sy)]
 | 114 => .agg #[.int .i64 (X.ax - X.sx), .int .i64 (X.ay - X.sy)]
 | _ => undef
def LL24.av : Nat → Option Nat
 | 115 => some 0
 | 116 => some 1
 | 117 => some 2
 | 118 => some 3
 | 10 => some 4
 | _ => none
def LL24.acts : List Nat := [13, 14, 15, 16, 17]
def LL24.Wd (X : LL24) : Nat → (Nat → Value) → World → Prop
  | 0, _, w => Kp X.W w
  | 1, γ, w => ∃ w1, Kp X.W w1 ∧ γ 0 = .slice (some ⟨w1.heap.size, 0, none⟩) 4 4 ∧ w = (w1.alloc (.cells #[.int .i64 (X.ax + X.sx), .int .i64 (X.ay + X.sy), .int .i64 (X.bx + X.sx), .int .i64 (X.by_ + X.sy), .int .i64 (X.bx - X.sx), .int .i64 (X.by_ - X.sy), .int .i64 (X.ax - X.sx), .int .i64 (X.ay - X.sy)] 34))
  | 2, γ, w => ∃ w1, Kp X.W w1 ∧ γ 1 = .agg #[.slice (some ⟨w1.heap.size, 0, none⟩) 4 4, .bool true] ∧ Kp (w1.alloc (.cells #[.int .i64 (X.ax + X.sx), .int .i64 (X.ay + X.sy), .int .i64 (X.bx + X.sx), .int .i64 (X.by_ + X.sy), .int .i64 (X.bx - X.sx), .int .i64 (X.by_ - X.sy), .int .i64 (X.ax - X.sx), .int .i64 (X.ay - X.sy)] 34)) w
  | 3, γ, w => ∃ w1 w2, Kp X.W w1 ∧ Kp (w1.alloc (.cells #[.int .i64 (X.ax + X.sx), .int .i64 (X.ay + X.sy), .int .i64 (X.bx + X.sx), .int .i64 (X.by_ + X.sy), .int .i64 (X.bx - X.sx), .int .i64 (X.by_ - X.sy), .int .i64 (X.ax - X.sx), .int .i64 (X.ay - X.sy)] 34)) w2 ∧ γ 2 = .slice (some ⟨w2.heap.size, 0, none⟩) 1 1 ∧ w = w2.alloc (.cells #[.slice (some ⟨w1.heap.size, 0, none⟩) 4 4, .bool true] 25)
  | 4, γ, w => ∃ u, OwnLn w X.B (γ 3) (X.it ++ [(u, ⟨[(X.ax + X.sx, X.ay + X.sy), (X.bx + X.sx, X.by_ + X.sy), (X.bx - X.sx, X.by_ - X.sy), (X.ax - X.sx, X.ay - X.sy)], true⟩)]) ∧ Below X.B X.W w
  | _, γ, w => ∃ u, OwnLn w X.B (γ 4) (X.it ++ [(u, ⟨[(X.ax + X.sx, X.ay + X.sy), (X.bx + X.sx, X.by_ + X.sy), (X.bx - X.sx, X.by_ - X.sy), (X.ax - X.sx, X.ay - X.sy)], true⟩)]) ∧ Below X.B X.W w
theorem LL24.chain : chainG (opsOf 24 Tryz.f78) LL24.acts = true := by kernel_rfl
theorem LL24.nodup : LL24.acts.Nodup := by decide
def LL24.L : List (Option Nat × Op × Option (Nat × Bool)) := [
 (some 102, .move (.tmp 10), none),
 (some 103, .load 34 (.tmp 13), none),
 (some 104, .load 34 (.tmp 15), none),
 (some 105, .call { callee := .value (.func 98), args := #[(.tmp 103), (.tmp 104)], argTypes := #[34, 34] }, none),
 (some 106, .load 34 (.tmp 14), none),
 (some 107, .load 34 (.tmp 15), none),
 (some 108, .call { callee := .value (.func 98), args := #[(.tmp 106), (.tmp 107)], argTypes := #[34, 34] }, none),
 (some 109, .load 34 (.tmp 14), none),
 (some 110, .load 34 (.tmp 15), none),
 (some 111, .call { callee := .value (.func 99), args := #[(.tmp 109), (.tmp 110)], argTypes := #[34, 34] }, none),
 (some 112, .load 34 (.tmp 13), none),
 (some 113, .load 34 (.tmp 15), none),
 (some 114, .call { callee := .value (.func 99), args := #[(.tmp 112), (.tmp 113)], argTypes := #[34, 34] }, none),
 (some 115, .buildSlice 23 4 #[(0, (.tmp 105)), (1, (.tmp 108)), (2, (.tmp 111)), (3, (.tmp 114))], none),
 (some 116, .call { callee := .value (.func 97), args := #[(.tmp 115)], argTypes := #[23] }, none),
 (some 117, .buildSlice 29 1 #[(0, (.tmp 116))], none),
 (some 118, .call { callee := .builtin .append, args := #[(.tmp 102), (.tmp 117)], argTypes := #[29, 29] }, none),
 (some 10, .assign (.tmp 118), none)]
theorem LL24.isL : (opsOf 24 Tryz.f78).toList.map tri = LL24.L := by kernel_rfl
theorem LL24.ini {X : LL24} (ok : LL24Ok X) : ∀ n ∈ [13, 14, 15], X.a0.eval (.tmp n) = X.val0 n := by
 simp only [List.forall_mem_cons]
 exact ⟨ok.e13, ok.e14, ok.e15, List.forall_mem_nil _⟩
abbrev LL24.St (X : LL24) (Q : PQ) (i : Nat) : Prop := StepG (opsOf 24 Tryz.f78) LL24.acts LL24.av X.val0 X.Wd X.a0 Q i
theorem LL24.early (X : LL24) (ok : LL24Ok X) {Q : PQ} : ∀ i ∈ [1, 2, 4, 5, 7, 8, 10, 11], LL24.St X Q i := by
 simp only [List.forall_mem_cons]
 refine ⟨?_, ?_, ?_, ?_, ?_, ?_, ?_, ?_, List.forall_mem_nil _⟩
 all_goals
  refine st_plainM (m := 0) LL24.isL (LL24.ini ok) ok.sz rfl (by kernel_rfl) ?_
  intro γ w n o hn hW hop
  obtain rfl : n = 0 := by omega
  have hk : Kp X.W w := hW
  have hc_a0_ := rq_at hk ok.a0_
  have hc_a1_ := rq_at hk ok.a1_
  have hc_s0_ := rq_at hk ok.s0_
  have hc_s1_ := rq_at hk ok.s1_
  have hc_b0_ := rq_at hk ok.b0_
  have hc_b1_ := rq_at hk ok.b1_
  unfold execOp
  rw [hop]
  simp [envR, valG, LL24.av, LL24.val0, hc_a0_, hc_a1_, hc_s0_, hc_s1_, hc_b0_, hc_b1_, go_sem]
theorem LL24.s0 (X : LL24) (ok : LL24Ok X) {Q : PQ} : LL24.St X Q 0 := by
 intro γ listed a w o hF hC hW h1 ho h2
 obtain ⟨hd, hop, hg⟩ := fieldsL LL24.isL (i := 0) rfl ho
 have e10 : a.eval (.tmp 10) = X.v := (hF.no 10 (early_of hC (unl (hF.lt ho) h1) (j := 17) (by kernel_rfl) [16, 0] (by kernel_rfl) (by decide))).trans ok.e10
 refine st_pureG hF hC hW ho h2 (by decide) hd hg rfl ?_
 show _ = Result.ok (Next.value (X.v)) w
 generalize a.eval = ρ at e10 ⊢
 unfold execOp
 rw [hop]
 simp [e10, go_sem]
theorem LL24.s13 (X : LL24) (ok : LL24Ok X) {Q : PQ} : LL24.St X Q 13 := by
 intro γ listed a w o hF hC hW h1 ho h2
 obtain ⟨hd, hop, hg⟩ := fieldsL LL24.isL (i := 13) rfl ho
 have e105 : a.eval (.tmp 105) = .agg #[.int .i64 (X.ax + X.sx), .int .i64 (X.ay + X.sy)] := known hF ho h2 (LL24.ini ok) ok.sz (by kernel_rfl)
 have e108 : a.eval (.tmp 108) = .agg #[.int .i64 (X.bx + X.sx), .int .i64 (X.by_ + X.sy)] := known hF ho h2 (LL24.ini ok) ok.sz (by kernel_rfl)
 have e111 : a.eval (.tmp 111) = .agg #[.int .i64 (X.bx - X.sx), .int .i64 (X.by_ - X.sy)] := known hF ho h2 (LL24.ini ok) ok.sz (by kernel_rfl)
 have e114 : a.eval (.tmp 114) = .agg #[.int .i64 (X.ax - X.sx), .int .i64 (X.ay - X.sy)] := known hF ho h2 (LL24.ini ok) ok.sz (by kernel_rfl)
 have hu := unl (hF.lt ho) h1
 refine st_actG (k := 0) LL24.chain LL24.nodup rfl hF hC hW h1 ho h2 (Or.inr ⟨115, hd, rfl⟩) (injG (by kernel_rfl) hu) hg ?_
 intro hW0 K hK
 have hr : (execOp a.eval o).run Tryz.prog w = .ok (.value (.slice (some ⟨w.heap.size, 0, none⟩) 4 4)) (w.alloc (.cells #[.int .i64 (X.ax + X.sx), .int .i64 (X.ay + X.sy), .int .i64 (X.bx + X.sx), .int .i64 (X.by_ + X.sy), .int .i64 (X.bx - X.sx), .int .i64 (X.by_ - X.sy), .int .i64 (X.ax - X.sx), .int .i64 (X.ay - X.sy)] 34)) := by
  generalize a.eval = ρ at e105 e108 e111 e114 ⊢
  unfold execOp
  rw [hop]
  simp [e105, e108, e111, e114, go_sem]
 unfold Oper.wp
 rw [hr]
 exact hK _ _ ⟨w, hW0, rfl, rfl⟩
theorem LL24.s14 (X : LL24) (ok : LL24Ok X) {Q : PQ} : LL24.St X Q 14 := by
 intro γ listed a w o hF hC hW h1 ho h2
 obtain ⟨hd, hop, hg⟩ := fieldsL LL24.isL (i := 14) rfl ho
 have e115 : a.eval (.tmp 115) = γ 0 := known hF ho h2 (LL24.ini ok) ok.sz (by kernel_rfl)
 have ef : a.eval (.func 97) = .func (.func 97) #[] #[] := rfl
 have hu := unl (hF.lt ho) h1
 refine st_actG (k := 1) LL24.chain LL24.nodup rfl hF hC hW h1 ho h2 (Or.inr ⟨116, hd, rfl⟩) (injG (by kernel_rfl) hu) hg ?_
 intro hW0 K hK
 obtain ⟨w1, k1, g0, rfl⟩ := hW0
 rw [g0] at e115
 have hr : (execOp a.eval o).run Tryz.prog (w1.alloc (.cells #[.int .i64 (X.ax + X.sx), .int .i64 (X.ay + X.sy), .int .i64 (X.bx + X.sx), .int .i64 (X.by_ + X.sy), .int .i64 (X.bx - X.sx), .int .i64 (X.by_ - X.sy), .int .i64 (X.ax - X.sx), .int .i64 (X.ay - X.sy)] 34)) = .ok (.enter 97 #[.slice (some ⟨w1.heap.size, 0, none⟩) 4 4]) (w1.alloc (.cells #[.int .i64 (X.ax + X.sx), .int .i64 (X.ay + X.sy), .int .i64 (X.bx + X.sx), .int .i64 (X.by_ + X.sy), .int .i64 (X.bx - X.sx), .int .i64 (X.by_ - X.sy), .int .i64 (X.ax - X.sx), .int .i64 (X.ay - X.sy)] 34)) := by
  generalize a.eval = ρ at e115 ef ⊢
  unfold execOp
  rw [hop]
  simp [e115, ef, go_sem]
 unfold Oper.wp
 rw [hr]
 refine Calls.mono (sclosed _ _ _ _) ?_
 rintro e w' ⟨rfl, h⟩
 exact hK _ _ ⟨w1, k1, rfl, h⟩
theorem LL24.s15 (X : LL24) (ok : LL24Ok X) {Q : PQ} : LL24.St X Q 15 := by
 intro γ listed a w o hF hC hW h1 ho h2
 obtain ⟨hd, hop, hg⟩ := fieldsL LL24.isL (i := 15) rfl ho
 have e116 : a.eval (.tmp 116) = γ 1 := known hF ho h2 (LL24.ini ok) ok.sz (by kernel_rfl)
 have hu := unl (hF.lt ho) h1
 refine st_actG (k := 2) LL24.chain LL24.nodup rfl hF hC hW h1 ho h2 (Or.inr ⟨117, hd, rfl⟩) (injG (by kernel_rfl) hu) hg ?_
 intro hW0 K hK
 obtain ⟨w1, k1, g1, k2⟩ := hW0
 rw [g1] at e116
 have hr : (execOp a.eval o).run Tryz.prog w = .ok (.value (.slice (some ⟨w.heap.size, 0, none⟩) 1 1)) (w.alloc (.cells #[.slice (some ⟨w1.heap.size, 0, none⟩) 4 4, .bool true] 25)) := by
  generalize a.eval = ρ at e116 ⊢
  unfold execOp
  rw [hop]
  simp [e116, go_sem]
 unfold Oper.wp
 rw [hr]
 exact hK _ _ ⟨w1, w, k1, k2, rfl, rfl⟩
theorem LL24.s16 (X : LL24) (ok : LL24Ok X) {Q : PQ} : LL24.St X Q 16 := by
 intro γ listed a w o hF hC hW h1 ho h2
 obtain ⟨hd, hop, hg⟩ := fieldsL LL24.isL (i := 16) rfl ho
 have e102 : a.eval (.tmp 102) = X.v := known hF ho h2 (LL24.ini ok) ok.sz (by kernel_rfl)
 have e117 : a.eval (.tmp 117) = γ 2 := known hF ho h2 (LL24.ini ok) ok.sz (by kernel_rfl)
 have hu := unl (hF.lt ho) h1
 refine st_actG (k := 3) LL24.chain LL24.nodup rfl hF hC hW h1 ho h2 (Or.inr ⟨118, hd, rfl⟩) (injG (by kernel_rfl) hu) hg ?_
 intro hW0 K hK
 obtain ⟨w1, w2, k1, k2, g2, rfl⟩ := hW0
 rw [g2] at e117
 have nn : Nw X.W w2 := Kp.nw (Kp.trans k1 (Kp.trans ((Kp.refl w1).alloc _ _) k2))
 have hu : OwnP w2 X.W.heap.size (.slice (some ⟨w1.heap.size, 0, none⟩) 4 4) [(X.ax + X.sx, X.ay + X.sy), (X.bx + X.sx, X.by_ + X.sy), (X.bx - X.sx, X.by_ - X.sy), (X.ax - X.sx, X.ay - X.sy)] := OwnP.nw (ownp4 w1 _ (Kp.size k1) _ _ _ _ _ _ _ _ ) (Kp.nw k2)
 refine wp_ln X.W w2 (.tmp 102) (.tmp 117) hop X.B X.v X.it (.slice (some ⟨w1.heap.size, 0, none⟩) 4 4) ⟨[(X.ax + X.sx, X.ay + X.sy), (X.bx + X.sx, X.by_ + X.sy), (X.bx - X.sx, X.by_ - X.sy), (X.ax - X.sx, X.ay - X.sy)], true⟩ e102 ok.ho nn ok.hB hu e117 ok.hl ?_
 intro g' c' w' h1 h2
 exact hK _ _ ⟨_, h1, h2⟩
theorem LL24.s17 (X : LL24) (ok : LL24Ok X) {Q : PQ} : LL24.St X Q 17 := by
 intro γ listed a w o hF hC hW h1 ho h2
 obtain ⟨hd, hop, hg⟩ := fieldsL LL24.isL (i := 17) rfl ho
 have e118 : a.eval (.tmp 118) = γ 3 := known hF ho h2 (LL24.ini ok) ok.sz (by kernel_rfl)
 have hu := unl (hF.lt ho) h1
 refine st_actG (k := 4) LL24.chain LL24.nodup rfl hF hC hW h1 ho h2 (Or.inr ⟨10, hd, rfl⟩) (injG (by kernel_rfl) hu) hg ?_
 intro hW0 K hK
 have hr : (execOp a.eval o).run Tryz.prog w = .ok (.value (γ 3)) w := by
  generalize a.eval = ρ at e118 ⊢
  unfold execOp
  rw [hop]
  simp [e118, go_sem]
 unfold Oper.wp
 rw [hr]
 exact hK _ _ hW0
theorem LL24.size : (opsOf 24 Tryz.f78).size = 18 := by kernel_rfl
theorem LL24.rest (X : LL24) (ok : LL24Ok X) {Q : PQ} : ∀ i ∈ [0, 3, 6, 9, 12, 13, 14, 15, 16, 17], LL24.St X Q i := by
 simp only [List.forall_mem_cons]
 exact ⟨LL24.s0 X ok,
  st_callZ LL24.isL (LL24.ini ok) ok.sz rfl (by kernel_rfl) (fun _ _ => by simp [go_sem]) (fun γ w hW => splus w _ _ _ _ ok.w0 ok.w1 ok.w4 ok.w5) (fun _ _ _ hW hk => Kp.trans hW hk),
  st_callZ LL24.isL (LL24.ini ok) ok.sz rfl (by kernel_rfl) (fun _ _ => by simp [go_sem]) (fun γ w hW => splus w _ _ _ _ ok.w2 ok.w3 ok.w4 ok.w5) (fun _ _ _ hW hk => Kp.trans hW hk),
  st_callZ LL24.isL (LL24.ini ok) ok.sz rfl (by kernel_rfl) (fun _ _ => by simp [go_sem]) (fun γ w hW => sless w _ _ _ _ ok.w2 ok.w3 ok.w4 ok.w5) (fun _ _ _ hW hk => Kp.trans hW hk),
  st_callZ LL24.isL (LL24.ini ok) ok.sz rfl (by kernel_rfl) (fun _ _ => by simp [go_sem]) (fun γ w hW => sless w _ _ _ _ ok.w0 ok.w1 ok.w4 ok.w5) (fun _ _ _ hW hk => Kp.trans hW hk),
  LL24.s13 X ok,
  LL24.s14 X ok,
  LL24.s15 X ok,
  LL24.s16 X ok,
  LL24.s17 X ok, List.forall_mem_nil _⟩
theorem LL24.steps (X : LL24) (ok : LL24Ok X) {Q : PQ} (i : Nat) (hi : i < (opsOf 24 Tryz.f78).size) : LL24.St X Q i := by
 rw [LL24.size] at hi
 rcases (by decide : ∀ i, i < 18 → i ∈ [1, 2, 4, 5, 7, 8, 10, 11] ∨ i ∈ [0, 3, 6, 9, 12, 13, 14, 15, 16, 17]) i hi with h | h
 · exact LL24.early X ok i h
 · exact LL24.rest X ok i h
theorem LL24.run (X : LL24) (ok : LL24Ok X) {Q : PQ} (w : World) (h0 : X.Wd 0 (fun _ => undef) w.drew) (hend : ∀ (γ : Nat → Value) w', X.Wd 5 γ w' → Q .normal ((((((((((((((((((X.a0.put (some 102) (X.v)).put (some 103) (.agg #[.int .i64 (X.ax), .int .i64 (X.ay)])).put (some 104) (.agg #[.int .i64 (X.sx), .int .i64 (X.sy)])).put (some 105) (.agg #[.int .i64 (X.ax + X.sx), .int .i64 (X.ay + X.sy)])).put (some 106) (.agg #[.int .i64 (X.bx), .int .i64 (X.by_)])).put (some 107) (.agg #[.int .i64 (X.sx), .int .i64 (X.sy)])).put (some 108) (.agg #[.int .i64 (X.bx + X.sx), .int .i64 (X.by_ + X.sy)])).put (some 109) (.agg #[.int .i64 (X.bx), .int .i64 (X.by_)])).put (some 110) (.agg #[.int .i64 (X.sx), .int .i64 (X.sy)])).put (some 111) (.agg #[.int .i64 (X.bx - X.sx), .int .i64 (X.by_ - X.sy)])).put (some 112) (.agg #[.int .i64 (X.ax), .int .i64 (X.ay)])).put (some 113) (.agg #[.int .i64 (X.sx), .int .i64 (X.sy)])).put (some 114) (.agg #[.int .i64 (X.ax - X.sx), .int .i64 (X.ay - X.sy)])).put (some 115) (γ 0)).put (some 116) (γ 1)).put (some 117) (γ 2)).put (some 118) (γ 3)).put (some 10) (γ 4)) w') : (Code.region 24 (opsOf 24 Tryz.f78) true).wp Tryz.prog Q X.a0 w := by
 refine reg_act (acts := LL24.acts) (av := LL24.av) (val0 := X.val0) (Wd := X.Wd) (by kernel_rfl) (by kernel_rfl) (by rw [LL24.size]; decide) (fun i hi => LL24.steps X ok i hi) _ h0 ?_
 intro γ w' h
 exact end_at (hend γ w' h) (by kernel_rfl)
structure LL39 where
 ax : Int
 ay : Int
 sx : Int
 sy : Int
 tx : Int
 ty : Int
 ba : Nat
 bs : Nat
 bt : Nat
 v : Value
 B : Nat
 it : Its
 W : World
 a0 : Act
structure LL39Ok (X : LL39) : Prop where
 a0_ : X.W.cell? ⟨X.ba, 0, none⟩ = some (.int .i64 (X.ax))
 a1_ : X.W.cell? ⟨X.ba, 1, none⟩ = some (.int .i64 (X.ay))
 s0_ : X.W.cell? ⟨X.bs, 0, none⟩ = some (.int .i64 (X.sx))
 s1_ : X.W.cell? ⟨X.bs, 1, none⟩ = some (.int .i64 (X.sy))
 t0_ : X.W.cell? ⟨X.bt, 0, none⟩ = some (.int .i64 (X.tx))
 t1_ : X.W.cell? ⟨X.bt, 1, none⟩ = some (.int .i64 (X.ty))
 w0 : wid (X.ax)
 w1 : wid (X.ay)
 w2 : wid (X.sx)
 w3 : wid (X.sy)
 w4 : wid (X.tx)
 w5 : wid (X.ty)
 w6 : wid (X.ax + X.sx)
 w7 : wid (X.ay + X.sy)
 w8 : wid (X.ax - X.sx)
 w9 : wid (X.ay - X.sy)
 ho : OwnLn X.W X.B X.v X.it
 hB : X.B ≤ X.W.heap.size
 hl : X.it.length + 1 ≤ 1000000
 e10 : X.a0.eval (.tmp 10) = X.v
 e17 : X.a0.eval (.tmp 17) = .pointer (some ⟨X.bs, 0, none⟩)
 e18 : X.a0.eval (.tmp 18) = .pointer (some ⟨X.bt, 0, none⟩)
 e19 : X.a0.eval (.tmp 19) = .pointer (some ⟨X.ba, 0, none⟩)
 sz : X.a0.tmps.size = 270
def LL39.val0 (X : LL39) : Nat → Value
 | 17 => .pointer (some ⟨X.bs, 0, none⟩)
 | 18 => .pointer (some ⟨X.bt, 0, none⟩)
 | 19 => .pointer (some ⟨X.ba, 0, none⟩)
 | 204 => X.v
 | 205 => .agg #[.int .i64 (X.ax), .int .i64 (X.ay)]
 | 206 => .agg #[.int .i64 (X.sx), .int .i64 (X.sy)]
 | 207 => .agg #[.int .i64 (X.ax + X.sx), .int .i64 (X.ay + X.sy)]
 | 208 => .agg #[.int .i64 (X.ax), .int .i64 (X.ay)]
 | 209 => .agg #[.int .i64 (X.sx), .int .i64 (X.sy)]
 | 210 => .agg #[.int .i64 (X.ax + X.sx), .int .i64 (X.ay + X.sy)]
 | 211 => .agg #[.int .i64 (X.tx), .int .i64 (X.ty)]
 | 212 => .agg #[.int .i64 (X.ax + X.sx - X.tx), .int .i64 (X.ay + X.sy - X.ty)]
 | 213 => .agg #[.int .i64 (X.ax), .int .i64 (X.ay)]
 | 214 => .agg #[.int .i64 (X.sx), .int .i64 (X.sy)]
 | 215 => .agg #[.int .i64 (X.ax - X.sx), .int .i64 (X.ay - X.sy)]
 | 216 => .agg #[.int .i64 (X.tx), .int .i64 (X.ty)]
 | 217 => .agg #[.int .i64 (X.ax - X.sx - X.tx), .int .i64 (X.ay - X.sy - X.ty)]
 | 218 => .agg #[.int .i64 (X.ax), .int .i64 (X.ay)]
 | 219 => .agg #[.int .i64 (X.sx), .int .i64 (X.sy)]
 | 220 => .agg #[.int .i64 (X.ax - X.sx), .int .i64 (X.ay - X.sy)]
 | _ => undef
def LL39.av : Nat → Option Nat
 | 221 => some 0
 | 222 => some 1
 | 223 => some 2
 | 224 => some 3
 | 10 => some 4
 | _ => none
def LL39.acts : List Nat := [17, 18, 19, 20, 21]
def LL39.Wd (X : LL39) : Nat → (Nat → Value) → World → Prop
  | 0, _, w => Kp X.W w
  | 1, γ, w => ∃ w1, Kp X.W w1 ∧ γ 0 = .slice (some ⟨w1.heap.size, 0, none⟩) 4 4 ∧ w = (w1.alloc (.cells #[.int .i64 (X.ax + X.sx), .int .i64 (X.ay + X.sy), .int .i64 (X.ax + X.sx - X.tx), .int .i64 (X.ay + X.sy - X.ty), .int .i64 (X.ax - X.sx - X.tx), .int .i64 (X.ay - X.sy - X.ty), .int .i64 (X.ax - X.sx), .int .i64 (X.ay - X.sy)] 34))
  | 2, γ, w => ∃ w1, Kp X.W w1 ∧ γ 1 = .agg #[.slice (some ⟨w1.heap.size, 0, none⟩) 4 4, .bool true] ∧ Kp (w1.alloc (.cells #[.int .i64 (X.ax + X.sx), .int .i64 (X.ay + X.sy), .int .i64 (X.ax + X.sx - X.tx), .int .i64 (X.ay + X.sy - X.ty), .int .i64 (X.ax - X.sx - X.tx), .int .i64 (X.ay - X.sy - X.ty), .int .i64 (X.ax - X.sx), .int .i64 (X.ay - X.sy)] 34)) w
  | 3, γ, w => ∃ w1 w2, Kp X.W w1 ∧ Kp (w1.alloc (.cells #[.int .i64 (X.ax + X.sx), .int .i64 (X.ay + X.sy), .int .i64 (X.ax + X.sx - X.tx), .int .i64 (X.ay + X.sy - X.ty), .int .i64 (X.ax - X.sx - X.tx), .int .i64 (X.ay - X.sy - X.ty), .int .i64 (X.ax - X.sx), .int .i64 (X.ay - X.sy)] 34)) w2 ∧ γ 2 = .slice (some ⟨w2.heap.size, 0, none⟩) 1 1 ∧ w = w2.alloc (.cells #[.slice (some ⟨w1.heap.size, 0, none⟩) 4 4, .bool true] 25)
  | 4, γ, w => ∃ u, OwnLn w X.B (γ 3) (X.it ++ [(u, ⟨[(X.ax + X.sx, X.ay + X.sy), (X.ax + X.sx - X.tx, X.ay + X.sy - X.ty), (X.ax - X.sx - X.tx, X.ay - X.sy - X.ty), (X.ax - X.sx, X.ay - X.sy)], true⟩)]) ∧ Below X.B X.W w ∧ Ext X.v (γ 3) X.W w ∧ ∀ c, u.ownBlock = some c → X.W.heap.size ≤ c
  | _, γ, w => ∃ u, OwnLn w X.B (γ 4) (X.it ++ [(u, ⟨[(X.ax + X.sx, X.ay + X.sy), (X.ax + X.sx - X.tx, X.ay + X.sy - X.ty), (X.ax - X.sx - X.tx, X.ay - X.sy - X.ty), (X.ax - X.sx, X.ay - X.sy)], true⟩)]) ∧ Below X.B X.W w ∧ Ext X.v (γ 4) X.W w ∧ ∀ c, u.ownBlock = some c → X.W.heap.size ≤ c
theorem LL39.chain : chainG (opsOf 39 Tryz.f78) LL39.acts = true := by kernel_rfl
theorem LL39.nodup : LL39.acts.Nodup := by decide
def LL39.L : List (Option Nat × Op × Option (Nat × Bool)) := [
 (some 204, .move (.tmp 10), none),
 (some 205, .load 34 (.tmp 19), none),
 (some 206, .load 34 (.tmp 17), none),
 (some 207, .call { callee := .value (.func 98), args := #[(.tmp 205), (.tmp 206)], argTypes := #[34, 34] }, none),
 (some 208, .load 34 (.tmp 19), none),
 (some 209, .load 34 (.tmp 17), none),
 (some 210, .call { callee := .value (.func 98), args := #[(.tmp 208), (.tmp 209)], argTypes := #[34, 34] }, none),
 (some 211, .load 34 (.tmp 18), none),
 (some 212, .call { callee := .value (.func 99), args := #[(.tmp 210), (.tmp 211)], argTypes := #[34, 34] }, none),
 (some 213, .load 34 (.tmp 19), none),
 (some 214, .load 34 (.tmp 17), none),
 (some 215, .call { callee := .value (.func 99), args := #[(.tmp 213), (.tmp 214)], argTypes := #[34, 34] }, none),
 (some 216, .load 34 (.tmp 18), none),
 (some 217, .call { callee := .value (.func 99), args := #[(.tmp 215), (.tmp 216)], argTypes := #[34, 34] }, none),
 (some 218, .load 34 (.tmp 19), none),
 (some 219, .load 34 (.tmp 17), none),
 (some 220, .call { callee := .value (.func 99), args := #[(.tmp 218), (.tmp 219)], argTypes := #[34, 34] }, none),
 (some 221, .buildSlice 23 4 #[(0, (.tmp 207)), (1, (.tmp 212)), (2, (.tmp 217)), (3, (.tmp 220))], none),
 (some 222, .call { callee := .value (.func 97), args := #[(.tmp 221)], argTypes := #[23] }, none),
 (some 223, .buildSlice 29 1 #[(0, (.tmp 222))], none),
 (some 224, .call { callee := .builtin .append, args := #[(.tmp 204), (.tmp 223)], argTypes := #[29, 29] }, none),
 (some 10, .assign (.tmp 224), none)]
theorem LL39.isL : (opsOf 39 Tryz.f78).toList.map tri = LL39.L := by kernel_rfl
theorem LL39.ini {X : LL39} (ok : LL39Ok X) : ∀ n ∈ [17, 18, 19], X.a0.eval (.tmp n) = X.val0 n := by
 simp only [List.forall_mem_cons]
 exact ⟨ok.e17, ok.e18, ok.e19, List.forall_mem_nil _⟩
abbrev LL39.St (X : LL39) (Q : PQ) (i : Nat) : Prop := StepG (opsOf 39 Tryz.f78) LL39.acts LL39.av X.val0 X.Wd X.a0 Q i
theorem LL39.early (X : LL39) (ok : LL39Ok X) {Q : PQ} : ∀ i ∈ [1, 2, 4, 5, 7, 9, 10, 12, 14, 15], LL39.St X Q i := by
 simp only [List.forall_mem_cons]
 refine ⟨?_, ?_, ?_, ?_, ?_, ?_, ?_, ?_, ?_, ?_, List.forall_mem_nil _⟩
 all_goals
  refine st_plainM (m := 0) LL39.isL (LL39.ini ok) ok.sz rfl (by kernel_rfl) ?_
  intro γ w n o hn hW hop
  obtain rfl : n = 0 := by omega
  have hk : Kp X.W w := hW
  have hc_a0_ := rq_at hk ok.a0_
  have hc_a1_ := rq_at hk ok.a1_
  have hc_s0_ := rq_at hk ok.s0_
  have hc_s1_ := rq_at hk ok.s1_
  have hc_t0_ := rq_at hk ok.t0_
  have hc_t1_ := rq_at hk ok.t1_
  unfold execOp
  rw [hop]
  simp [envR, valG, LL39.av, LL39.val0, hc_a0_, hc_a1_, hc_s0_, hc_s1_, hc_t0_, hc_t1_, go_sem]
theorem LL39.s0 (X : LL39) (ok : LL39Ok X) {Q : PQ} : LL39.St X Q 0 := by
 intro γ listed a w o hF hC hW h1 ho h2
 obtain ⟨hd, hop, hg⟩ := fieldsL LL39.isL (i := 0) rfl ho
 have e10 : a.eval (.tmp 10) = X.v := (hF.no 10 (early_of hC (unl (hF.lt ho) h1) (j := 21) (by kernel_rfl) [20, 0] (by kernel_rfl) (by decide))).trans ok.e10
 refine st_pureG hF hC hW ho h2 (by decide) hd hg rfl ?_
 show _ = Result.ok (Next.value (X.v)) w
 generalize a.eval = ρ at e10 ⊢
 unfold execOp
 rw [hop]
 simp [e10, go_sem]
theorem LL39.s17 (X : LL39) (ok : LL39Ok X) {Q : PQ} : LL39.St X Q 17 := by
 intro γ listed a w o hF hC hW h1 ho h2
 obtain ⟨hd, hop, hg⟩ := fieldsL LL39.isL (i := 17) rfl ho
 have e207 : a.eval (.tmp 207) = .agg #[.int .i64 (X.ax + X.sx), .int .i64 (X.ay + X.sy)] := known hF ho h2 (LL39.ini ok) ok.sz (by kernel_rfl)
 have e212 : a.eval (.tmp 212) = .agg #[.int .i64 (X.ax + X.sx - X.tx), .int .i64 (X.ay + X.sy - X.ty)] := known hF ho h2 (LL39.ini ok) ok.sz (by kernel_rfl)
 have e217 : a.eval (.tmp 217) = .agg #[.int .i64 (X.ax - X.sx - X.tx), .int .i64 (X.ay - X.sy - X.ty)] := known hF ho h2 (LL39.ini ok) ok.sz (by kernel_rfl)
 have e220 : a.eval (.tmp 220) = .agg #[.int .i64 (X.ax - X.sx), .int .i64 (X.ay - X.sy)] := known hF ho h2 (LL39.ini ok) ok.sz (by kernel_rfl)
 have hu := unl (hF.lt ho) h1
 refine st_actG (k := 0) LL39.chain LL39.nodup rfl hF hC hW h1 ho h2 (Or.inr ⟨221, hd, rfl⟩) (injG (by kernel_rfl) hu) hg ?_
 intro hW0 K hK
 have hr : (execOp a.eval o).run Tryz.prog w = .ok (.value (.slice (some ⟨w.heap.size, 0, none⟩) 4 4)) (w.alloc (.cells #[.int .i64 (X.ax + X.sx), .int .i64 (X.ay + X.sy), .int .i64 (X.ax + X.sx - X.tx), .int .i64 (X.ay + X.sy - X.ty), .int .i64 (X.ax - X.sx - X.tx), .int .i64 (X.ay - X.sy - X.ty), .int .i64 (X.ax - X.sx), .int .i64 (X.ay - X.sy)] 34)) := by
  generalize a.eval = ρ at e207 e212 e217 e220 ⊢
  unfold execOp
  rw [hop]
  simp [e207, e212, e217, e220, go_sem]
 unfold Oper.wp
 rw [hr]
 exact hK _ _ ⟨w, hW0, rfl, rfl⟩
theorem LL39.s18 (X : LL39) (ok : LL39Ok X) {Q : PQ} : LL39.St X Q 18 := by
 intro γ listed a w o hF hC hW h1 ho h2
 obtain ⟨hd, hop, hg⟩ := fieldsL LL39.isL (i := 18) rfl ho
 have e221 : a.eval (.tmp 221) = γ 0 := known hF ho h2 (LL39.ini ok) ok.sz (by kernel_rfl)
 have ef : a.eval (.func 97) = .func (.func 97) #[] #[] := rfl
 have hu := unl (hF.lt ho) h1
 refine st_actG (k := 1) LL39.chain LL39.nodup rfl hF hC hW h1 ho h2 (Or.inr ⟨222, hd, rfl⟩) (injG (by kernel_rfl) hu) hg ?_
 intro hW0 K hK
 obtain ⟨w1, k1, g0, rfl⟩ := hW0
 rw [g0] at e221
 have hr : (execOp a.eval o).run Tryz.prog (w1.alloc (.cells #[.int .i64 (X.ax + X.sx), .int .i64 (X.ay + X.sy), .int .i64 (X.ax + X.sx - X.tx), .int .i64 (X.ay + X.sy - X.ty), .int .i64 (X.ax - X.sx - X.tx), .int .i64 (X.ay - X.sy - X.ty), .int .i64 (X.ax - X.sx), .int .i64 (X.ay - X.sy)] 34)) = .ok (.enter 97 #[.slice (some ⟨w1.heap.size, 0, none⟩) 4 4]) (w1.alloc (.cells #[.int .i64 (X.ax + X.sx), .int .i64 (X.ay + X.sy), .int .i64 (X.ax + X.sx - X.tx), .int .i64 (X.ay + X.sy - X.ty), .int .i64 (X.ax - X.sx - X.tx), .int .i64 (X.ay - X.sy - X.ty), .int .i64 (X.ax - X.sx), .int .i64 (X.ay - X.sy)] 34)) := by
  generalize a.eval = ρ at e221 ef ⊢
  unfold execOp
  rw [hop]
  simp [e221, ef, go_sem]
 unfold Oper.wp
 rw [hr]
 refine Calls.mono (sclosed _ _ _ _) ?_
 rintro e w' ⟨rfl, h⟩
 exact hK _ _ ⟨w1, k1, rfl, h⟩
theorem LL39.s19 (X : LL39) (ok : LL39Ok X) {Q : PQ} : LL39.St X Q 19 := by
 intro γ listed a w o hF hC hW h1 ho h2
 obtain ⟨hd, hop, hg⟩ := fieldsL LL39.isL (i := 19) rfl ho
 have e222 : a.eval (.tmp 222) = γ 1 := known hF ho h2 (LL39.ini ok) ok.sz (by kernel_rfl)
 have hu := unl (hF.lt ho) h1
 refine st_actG (k := 2) LL39.chain LL39.nodup rfl hF hC hW h1 ho h2 (Or.inr ⟨223, hd, rfl⟩) (injG (by kernel_rfl) hu) hg ?_
 intro hW0 K hK
 obtain ⟨w1, k1, g1, k2⟩ := hW0
 rw [g1] at e222
 have hr : (execOp a.eval o).run Tryz.prog w = .ok (.value (.slice (some ⟨w.heap.size, 0, none⟩) 1 1)) (w.alloc (.cells #[.slice (some ⟨w1.heap.size, 0, none⟩) 4 4, .bool true] 25)) := by
  generalize a.eval = ρ at e222 ⊢
  unfold execOp
  rw [hop]
  simp [e222, go_sem]
 unfold Oper.wp
 rw [hr]
 exact hK _ _ ⟨w1, w, k1, k2, rfl, rfl⟩
theorem LL39.s20 (X : LL39) (ok : LL39Ok X) {Q : PQ} : LL39.St X Q 20 := by
 intro γ listed a w o hF hC hW h1 ho h2
 obtain ⟨hd, hop, hg⟩ := fieldsL LL39.isL (i := 20) rfl ho
 have e204 : a.eval (.tmp 204) = X.v := known hF ho h2 (LL39.ini ok) ok.sz (by kernel_rfl)
 have e223 : a.eval (.tmp 223) = γ 2 := known hF ho h2 (LL39.ini ok) ok.sz (by kernel_rfl)
 have hu := unl (hF.lt ho) h1
 refine st_actG (k := 3) LL39.chain LL39.nodup rfl hF hC hW h1 ho h2 (Or.inr ⟨224, hd, rfl⟩) (injG (by kernel_rfl) hu) hg ?_
 intro hW0 K hK
 obtain ⟨w1, w2, k1, k2, g2, rfl⟩ := hW0
 rw [g2] at e223
 have nn : Nw X.W w2 := Kp.nw (Kp.trans k1 (Kp.trans ((Kp.refl w1).alloc _ _) k2))
 have hu : OwnP w2 X.W.heap.size (.slice (some ⟨w1.heap.size, 0, none⟩) 4 4) [(X.ax + X.sx, X.ay + X.sy), (X.ax + X.sx - X.tx, X.ay + X.sy - X.ty), (X.ax - X.sx - X.tx, X.ay - X.sy - X.ty), (X.ax - X.sx, X.ay - X.sy)] := OwnP.nw (ownp4 w1 _ (Kp.size k1) _ _ _ _ _ _ _ _ ) (Kp.nw k2)
 refine wp_lnx X.W w2 (.tmp 204) (.tmp 223) hop X.B X.v X.it (.slice (some ⟨w1.heap.size, 0, none⟩) 4 4) ⟨[(X.ax + X.sx, X.ay + X.sy), (X.ax + X.sx - X.tx, X.ay + X.sy - X.ty), (X.ax - X.sx - X.tx, X.ay - X.sy - X.ty), (X.ax - X.sx, X.ay - X.sy)], true⟩ e204 ok.ho nn ok.hB hu e223 ok.hl ?_
 intro g' c' w' h1 h2 h3
 exact hK _ _ ⟨_, h1, h2, h3, fun c hc => (OwnQ.lt hu c hc).1⟩
theorem LL39.s21 (X : LL39) (ok : LL39Ok X) {Q : PQ} : LL39.St X Q 21 := by
 intro γ listed a w o hF hC hW h1 ho h2
 obtain ⟨hd, hop, hg⟩ := fieldsL LL39.isL (i := 21) rfl ho
 have e224 : a.eval (.tmp 224) = γ 3 := known hF ho h2 (LL39.ini ok) ok.sz (by kernel_rfl)
 have hu := unl (hF.lt ho) h1
 refine st_actG (k := 4) LL39.chain LL39.nodup rfl hF hC hW h1 ho h2 (Or.inr ⟨10, hd, rfl⟩) (injG (by kernel_rfl) hu) hg ?_
 intro hW0 K hK
 have hr : (execOp a.eval o).run Tryz.prog w = .ok (.value (γ 3)) w := by
  generalize a.eval = ρ at e224 ⊢
  unfold execOp
  rw [hop]
  simp [e224, go_sem]
 unfold Oper.wp
 rw [hr]
 exact hK _ _ hW0
theorem LL39.size : (opsOf 39 Tryz.f78).size = 22 := by kernel_rfl
theorem LL39.rest (X : LL39) (ok : LL39Ok X) {Q : PQ} : ∀ i ∈ [0, 3, 6, 8, 11, 13, 16, 17, 18, 19, 20, 21], LL39.St X Q i := by
 simp only [List.forall_mem_cons]
 exact ⟨LL39.s0 X ok,
  st_callZ LL39.isL (LL39.ini ok) ok.sz rfl (by kernel_rfl) (fun _ _ => by simp [go_sem]) (fun γ w hW => splus w _ _ _ _ ok.w0 ok.w1 ok.w2 ok.w3) (fun _ _ _ hW hk => Kp.trans hW hk),
  st_callZ LL39.isL (LL39.ini ok) ok.sz rfl (by kernel_rfl) (fun _ _ => by simp [go_sem]) (fun γ w hW => splus w _ _ _ _ ok.w0 ok.w1 ok.w2 ok.w3) (fun _ _ _ hW hk => Kp.trans hW hk),
  st_callZ LL39.isL (LL39.ini ok) ok.sz rfl (by kernel_rfl) (fun _ _ => by simp [go_sem]) (fun γ w hW => sless w _ _ _ _ ok.w6 ok.w7 ok.w4 ok.w5) (fun _ _ _ hW hk => Kp.trans hW hk),
  st_callZ LL39.isL (LL39.ini ok) ok.sz rfl (by kernel_rfl) (fun _ _ => by simp [go_sem]) (fun γ w hW => sless w _ _ _ _ ok.w0 ok.w1 ok.w2 ok.w3) (fun _ _ _ hW hk => Kp.trans hW hk),
  st_callZ LL39.isL (LL39.ini ok) ok.sz rfl (by kernel_rfl) (fun _ _ => by simp [go_sem]) (fun γ w hW => sless w _ _ _ _ ok.w8 ok.w9 ok.w4 ok.w5) (fun _ _ _ hW hk => Kp.trans hW hk),
  st_callZ LL39.isL (LL39.ini ok) ok.sz rfl (by kernel_rfl) (fun _ _ => by simp [go_sem]) (fun γ w hW => sless w _ _ _ _ ok.w0 ok.w1 ok.w2 ok.w3) (fun _ _ _ hW hk => Kp.trans hW hk),
  LL39.s17 X ok,
  LL39.s18 X ok,
  LL39.s19 X ok,
  LL39.s20 X ok,
  LL39.s21 X ok, List.forall_mem_nil _⟩
theorem LL39.steps (X : LL39) (ok : LL39Ok X) {Q : PQ} (i : Nat) (hi : i < (opsOf 39 Tryz.f78).size) : LL39.St X Q i := by
 rw [LL39.size] at hi
 rcases (by decide : ∀ i, i < 22 → i ∈ [1, 2, 4, 5, 7, 9, 10, 12, 14, 15] ∨ i ∈ [0, 3, 6, 8, 11, 13, 16, 17, 18, 19, 20, 21]) i hi with h | h
 · exact LL39.early X ok i h
 · exact LL39.rest X ok i h
theorem LL39.run (X : LL39) (ok : LL39Ok X) {Q : PQ} (w : World) (h0 : X.Wd 0 (fun _ => undef) w.drew) (hend : ∀ (γ : Nat → Value) w', X.Wd 5 γ w' → Q .normal ((((((((((((((((((((((X.a0.put (some 204) (X.v)).put (some 205) (.agg #[.int .i64 (X.ax), .int .i64 (X.ay)])).put (some 206) (.agg #[.int .i64 (X.sx), .int .i64 (X.sy)])).put (some 207) (.agg #[.int .i64 (X.ax + X.sx), .int .i64 (X.ay + X.sy)])).put (some 208) (.agg #[.int .i64 (X.ax), .int .i64 (X.ay)])).put (some 209) (.agg #[.int .i64 (X.sx), .int .i64 (X.sy)])).put (some 210) (.agg #[.int .i64 (X.ax + X.sx), .int .i64 (X.ay + X.sy)])).put (some 211) (.agg #[.int .i64 (X.tx), .int .i64 (X.ty)])).put (some 212) (.agg #[.int .i64 (X.ax + X.sx - X.tx), .int .i64 (X.ay + X.sy - X.ty)])).put (some 213) (.agg #[.int .i64 (X.ax), .int .i64 (X.ay)])).put (some 214) (.agg #[.int .i64 (X.sx), .int .i64 (X.sy)])).put (some 215) (.agg #[.int .i64 (X.ax - X.sx), .int .i64 (X.ay - X.sy)])).put (some 216) (.agg #[.int .i64 (X.tx), .int .i64 (X.ty)])).put (some 217) (.agg #[.int .i64 (X.ax - X.sx - X.tx), .int .i64 (X.ay - X.sy - X.ty)])).put (some 218) (.agg #[.int .i64 (X.ax), .int .i64 (X.ay)])).put (some 219) (.agg #[.int .i64 (X.sx), .int .i64 (X.sy)])).put (some 220) (.agg #[.int .i64 (X.ax - X.sx), .int .i64 (X.ay - X.sy)])).put (some 221) (γ 0)).put (some 222) (γ 1)).put (some 223) (γ 2)).put (some 224) (γ 3)).put (some 10) (γ 4)) w') : (Code.region 39 (opsOf 39 Tryz.f78) true).wp Tryz.prog Q X.a0 w := by
 refine reg_act (acts := LL39.acts) (av := LL39.av) (val0 := X.val0) (Wd := X.Wd) (by kernel_rfl) (by kernel_rfl) (by rw [LL39.size]; decide) (fun i hi => LL39.steps X ok i hi) _ h0 ?_
 intro γ w' h
 exact end_at (hend γ w' h) (by kernel_rfl)
structure LL43 where
 ax : Int
 ay : Int
 sx : Int
 sy : Int
 tx : Int
 ty : Int
 ba : Nat
 bs : Nat
 bt : Nat
 v : Value
 B : Nat
 it : Its
 W : World
 a0 : Act
structure LL43Ok (X : LL43) : Prop where
 a0_ : X.W.cell? ⟨X.ba, 0, none⟩ = some (.int .i64 (X.ax))
 a1_ : X.W.cell? ⟨X.ba, 1, none⟩ = some (.int .i64 (X.ay))
 s0_ : X.W.cell? ⟨X.bs, 0, none⟩ = some (.int .i64 (X.sx))
 s1_ : X.W.cell? ⟨X.bs, 1, none⟩ = some (.int .i64 (X.sy))
 t0_ : X.W.cell? ⟨X.bt, 0, none⟩ = some (.int .i64 (X.tx))
 t1_ : X.W.cell? ⟨X.bt, 1, none⟩ = some (.int .i64 (X.ty))
 w0 : wid (X.ax)
 w1 : wid (X.ay)
 w2 : wid (X.sx)
 w3 : wid (X.sy)
 w4 : wid (X.tx)
 w5 : wid (X.ty)
 w6 : wid (X.ax + X.sx)
 w7 : wid (X.ay + X.sy)
 w8 : wid (X.ax - X.sx)
 w9 : wid (X.ay - X.sy)
 ho : OwnLn X.W X.B X.v X.it
 hB : X.B ≤ X.W.heap.size
 hl : X.it.length + 1 ≤ 1000000
 e10 : X.a0.eval (.tmp 10) = X.v
 e17 : X.a0.eval (.tmp 17) = .pointer (some ⟨X.bs, 0, none⟩)
 e18 : X.a0.eval (.tmp 18) = .pointer (some ⟨X.bt, 0, none⟩)
 e20 : X.a0.eval (.tmp 20) = .pointer (some ⟨X.ba, 0, none⟩)
 sz : X.a0.tmps.size = 270
def LL43.val0 (X : LL43) : Nat → Value
 | 17 => .pointer (some ⟨X.bs, 0, none⟩)
 | 18 => .pointer (some ⟨X.bt, 0, none⟩)
 | 20 => .pointer (some ⟨X.ba, 0, none⟩)
 | 248 => X.v
 | 249 => .agg #[.int .i64 (X.ax), .int .i64 (X.ay)]
 | 250 => .agg #[.int .i64 (X.sx), .int .i64 (X.sy)]
 | 251 => .agg #[.int .i64 (X.ax + X.sx), .int .i64 (X.ay + X.sy)]
 | 252 => .agg #[.int .i64 (X.ax), .int .i64 (X.ay)]
 | 253 => .agg #[.int .i64 (X.sx), .int .i64 (X.sy)]
 | 254 => .agg #[.int .i64 (X.ax + X.sx), .int .i64 (X.ay + X.sy)]
 | 255 => .agg #[.int .i64 (X.tx), .int .i64 (X.ty)]
 | 256 => .agg #[.int .i64 (X.ax + X.sx + X.tx), .int .i64 (X.ay + X.sy + X.ty)]
 | 257 => .agg #[.int .i64 (X.ax), .int .i64 (X.ay)]
 | 258 => .agg #[.int .i64 (X.sx), .int .i64 (X.sy)]
 | 259 => .agg #[.int .i64 (X.ax - X.sx), .int .i64 (X.ay - X.sy)]
 | 260 => .agg #[.int .i64 (X.tx), .int .i64 (X.ty)]
 | 261 => .agg #[.int .i64 (X.ax - X.sx + X.tx), .int .i64 (X.ay - X.sy + X.ty)]
 | 262 => .agg #[.int .i64 (X.ax), .int .i64 (X.ay)]
 | 263 => .agg #[.int .i64 (X.sx), .int .i64 (X.sy)]
 | 264 => .agg #[.int .i64 (X.ax - X.sx), .int .i64 (X.ay - X.sy)]
 | _ => undef
def LL43.av : Nat → Option Nat
 | 265 => some 0
 | 266 => some 1
 | 267 => some 2
 | 268 => some 3
 | 10 => some 4
 | _ => none
def LL43.acts : List Nat := [17, 18, 19, 20, 21]
def LL43.Wd (X : LL43) : Nat → (Nat → Value) → World → Prop
  | 0, _, w => Kp X.W w
  | 1, γ, w => ∃ w1, Kp X.W w1 ∧ γ 0 = .slice (some ⟨w1.heap.size, 0, none⟩) 4 4 ∧ w = (w1.alloc (.cells #[.int .i64 (X.ax + X.sx), .int .i64 (X.ay + X.sy), .int .i64 (X.ax + X.sx + X.tx), .int .i64 (X.ay + X.sy + X.ty), .int .i64 (X.ax - X.sx + X.tx), .int .i64 (X.ay - X.sy + X.ty), .int .i64 (X.ax - X.sx), .int .i64 (X.ay - X.sy)] 34))
  | 2, γ, w => ∃ w1, Kp X.W w1 ∧ γ 1 = .agg #[.slice (some ⟨w1.heap.size, 0, none⟩) 4 4, .bool true] ∧ Kp (w1.alloc (.cells #[.int .i64 (X.ax + X.sx), .int .i64 (X.ay + X.sy), .int .i64 (X.ax + X.sx + X.tx), .int .i64 (X.ay + X.sy + X.ty), .int .i64 (X.ax - X.sx + X.tx), .int .i64 (X.ay - X.sy + X.ty), .int .i64 (X.ax - X.sx), .int .i64 (X.ay - X.sy)] 34)) w
  | 3, γ, w => ∃ w1 w2, Kp X.W w1 ∧ Kp (w1.alloc (.cells #[.int .i64 (X.ax + X.sx), .int .i64 (X.ay + X.sy), .int .i64 (X.ax + X.sx + X.tx), .int .i64 (X.ay + X.sy + X.ty), .int .i64 (X.ax - X.sx + X.tx), .int .i64 (X.ay - X.sy + X.ty), .int .i64 (X.ax - X.sx), .int .i64 (X.ay - X.sy)] 34)) w2 ∧ γ 2 = .slice (some ⟨w2.heap.size, 0, none⟩) 1 1 ∧ w = w2.alloc (.cells #[.slice (some ⟨w1.heap.size, 0, none⟩) 4 4, .bool true] 25)
  | 4, γ, w => ∃ u, OwnLn w X.B (γ 3) (X.it ++ [(u, ⟨[(X.ax + X.sx, X.ay + X.sy), (X.ax + X.sx + X.tx, X.ay + X.sy + X.ty), (X.ax - X.sx + X.tx, X.ay - X.sy + X.ty), (X.ax - X.sx, X.ay - X.sy)], true⟩)]) ∧ Below X.B X.W w ∧ Ext X.v (γ 3) X.W w ∧ ∀ c, u.ownBlock = some c → X.W.heap.size ≤ c
  | _, γ, w => ∃ u, OwnLn w X.B (γ 4) (X.it ++ [(u, ⟨[(X.ax + X.sx, X.ay + X.sy), (X.ax + X.sx + X.tx, X.ay + X.sy + X.ty), (X.ax - X.sx + X.tx, X.ay - X.sy + X.ty), (X.ax - X.sx, X.ay - X.sy)], true⟩)]) ∧ Below X.B X.W w ∧ Ext X.v (γ 4) X.W w ∧ ∀ c, u.ownBlock = some c → X.W.heap.size ≤ c
theorem LL43.chain : chainG (opsOf 43 Tryz.f78) LL43.acts = true := by kernel_rfl
theorem LL43.nodup : LL43.acts.Nodup := by decide
def LL43.L : List (Option Nat × Op × Option (Nat × Bool)) := [
 (some 248, .move (.tmp 10), none),
 (some 249, .load 34 (.tmp 20), none),
 (some 250, .load 34 (.tmp 17), none),
 (some 251, .call { callee := .value (.func 98), args := #[(.tmp 249), (.tmp 250)], argTypes := #[34, 34] }, none),
 (some 252, .load 34 (.tmp 20), none),
 (some 253, .load 34 (.tmp 17), none),
 (some 254, .call { callee := .value (.func 98), args := #[(.tmp 252), (.tmp 253)], argTypes := #[34, 34] }, none),
 (some 255, .load 34 (.tmp 18), none),
 (some 256, .call { callee := .value (.func 98), args := #[(.tmp 254), (.tmp 255)], argTypes := #[34, 34] }, none),
 (some 257, .load 34 (.tmp 20), none),
 (some 258, .load 34 (.tmp 17), none),
 (some 259, .call { callee := .value (.func 99), args := #[(.tmp 257), (.tmp 258)], argTypes := #[34, 34] }, none),
 (some 260, .load 34 (.tmp 18), none),
 (some 261, .call { callee := .value (.func 98), args := #[(.tmp 259), (.tmp 260)], argTypes := #[34, 34] }, none),
 (some 262, .load 34 (.tmp 20), none),
 (some 263, .load 34 (.tmp 17), none),
 (some 264, .call { callee := .value (.func 99), args := #[(.tmp 262), (.tmp 263)], argTypes := #[34, 34] }, none),
 (some 265, .buildSlice 23 4 #[(0, (.tmp 251)), (1, (.tmp 256)), (2, (.tmp 261)), (3, (.tmp 264))], none),
 (some 266, .call { callee := .value (.func 97), args := #[(.tmp 265)], argTypes := #[23] }, none),
 (some 267, .buildSlice 29 1 #[(0, (.tmp 266))], none),
 (some 268, .call { callee := .builtin .append, args := #[(.tmp 248), (.tmp 267)], argTypes := #[29, 29] }, none),
 (some 10, .assign (.tmp 268), none)]
theorem LL43.isL : (opsOf 43 Tryz.f78).toList.map tri = LL43.L := by kernel_rfl
theorem LL43.ini {X : LL43} (ok : LL43Ok X) : ∀ n ∈ [17, 18, 20], X.a0.eval (.tmp n) = X.val0 n := by
 simp only [List.forall_mem_cons]
 exact ⟨ok.e17, ok.e18, ok.e20, List.forall_mem_nil _⟩
abbrev LL43.St (X : LL43) (Q : PQ) (i : Nat) : Prop := StepG (opsOf 43 Tryz.f78) LL43.acts LL43.av X.val0 X.Wd X.a0 Q i
theorem LL43.early (X : LL43) (ok : LL43Ok X) {Q : PQ} : ∀ i ∈ [1, 2, 4, 5, 7, 9, 10, 12, 14, 15], LL43.St X Q i := by
 simp only [List.forall_mem_cons]
 refine ⟨?_, ?_, ?_, ?_, ?_, ?_, ?_, ?_, ?_, ?_, List.forall_mem_nil _⟩
 all_goals
  refine st_plainM (m := 0) LL43.isL (LL43.ini ok) ok.sz rfl (by kernel_rfl) ?_
  intro γ w n o hn hW hop
  obtain rfl : n = 0 := by omega
  have hk : Kp X.W w := hW
  have hc_a0_ := rq_at hk ok.a0_
  have hc_a1_ := rq_at hk ok.a1_
  have hc_s0_ := rq_at hk ok.s0_
  have hc_s1_ := rq_at hk ok.s1_
  have hc_t0_ := rq_at hk ok.t0_
  have hc_t1_ := rq_at hk ok.t1_
  unfold execOp
  rw [hop]
  simp [envR, valG, LL43.av, LL43.val0, hc_a0_, hc_a1_, hc_s0_, hc_s1_, hc_t0_, hc_t1_, go_sem]
theorem LL43.s0 (X : LL43) (ok : LL43Ok X) {Q : PQ} : LL43.St X Q 0 := by
 intro γ listed a w o hF hC hW h1 ho h2
 obtain ⟨hd, hop, hg⟩ := fieldsL LL43.isL (i := 0) rfl ho
 have e10 : a.eval (.tmp 10) = X.v := (hF.no 10 (early_of hC (unl (hF.lt ho) h1) (j := 21) (by kernel_rfl) [20, 0] (by kernel_rfl) (by decide))).trans ok.e10
 refine st_pureG hF hC hW ho h2 (by decide) hd hg rfl ?_
 show _ = Result.ok (Next.value (X.v)) w
 generalize a.eval = ρ at e10 ⊢
 unfold execOp
 rw [hop]
 simp [e10, go_sem]
theorem LL43.s17 (X : LL43) (ok : LL43Ok X) {Q : PQ} : LL43.St X Q 17 := by
 intro γ listed a w o hF hC hW h1 ho h2
 obtain ⟨hd, hop, hg⟩ := fieldsL LL43.isL (i := 17) rfl ho
 have e251 : a.eval (.tmp 251) = .agg #[.int .i64 (X.ax + X.sx), .int .i64 (X.ay + X.sy)] := known hF ho h2 (LL43.ini ok) ok.sz (by kernel_rfl)
 have e256 : a.eval (.tmp 256) = .agg #[.int .i64 (X.ax + X.sx + X.tx), .int .i64 (X.ay + X.sy + X.ty)] := known hF ho h2 (LL43.ini ok) ok.sz (by kernel_rfl)
 have e261 : a.eval (.tmp 261) = .agg #[.int .i64 (X.ax - X.sx + X.tx), .int .i64 (X.ay - X.sy + X.ty)] := known hF ho h2 (LL43.ini ok) ok.sz (by kernel_rfl)
 have e264 : a.eval (.tmp 264) = .agg #[.int .i64 (X.ax - X.sx), .int .i64 (X.ay - X.sy)] := known hF ho h2 (LL43.ini ok) ok.sz (by kernel_rfl)
 have hu := unl (hF.lt ho) h1
 refine st_actG (k := 0) LL43.chain LL43.nodup rfl hF hC hW h1 ho h2 (Or.inr ⟨265, hd, rfl⟩) (injG (by kernel_rfl) hu) hg ?_
 intro hW0 K hK
 have hr : (execOp a.eval o).run Tryz.prog w = .ok (.value (.slice (some ⟨w.heap.size, 0, none⟩) 4 4)) (w.alloc (.cells #[.int .i64 (X.ax + X.sx), .int .i64 (X.ay + X.sy), .int .i64 (X.ax + X.sx + X.tx), .int .i64 (X.ay + X.sy + X.ty), .int .i64 (X.ax - X.sx + X.tx), .int .i64 (X.ay - X.sy + X.ty), .int .i64 (X.ax - X.sx), .int .i64 (X.ay - X.sy)] 34)) := by
  generalize a.eval = ρ at e251 e256 e261 e264 ⊢
  unfold execOp
  rw [hop]
  simp [e251, e256, e261, e264, go_sem]
 unfold Oper.wp
 rw [hr]
 exact hK _ _ ⟨w, hW0, rfl, rfl⟩
theorem LL43.s18 (X : LL43) (ok : LL43Ok X) {Q : PQ} : LL43.St X Q 18 := by
 intro γ listed a w o hF hC hW h1 ho h2
 obtain ⟨hd, hop, hg⟩ := fieldsL LL43.isL (i := 18) rfl ho
 have e265 : a.eval (.tmp 265) = γ 0 := known hF ho h2 (LL43.ini ok) ok.sz (by kernel_rfl)
 have ef : a.eval (.func 97) = .func (.func 97) #[] #[] := rfl
 have hu := unl (hF.lt ho) h1
 refine st_actG (k := 1) LL43.chain LL43.nodup rfl hF hC hW h1 ho h2 (Or.inr ⟨266, hd, rfl⟩) (injG (by kernel_rfl) hu) hg ?_
 intro hW0 K hK
 obtain ⟨w1, k1, g0, rfl⟩ := hW0
 rw [g0] at e265
 have hr : (execOp a.eval o).run Tryz.prog (w1.alloc (.cells #[.int .i64 (X.ax + X.sx), .int .i64 (X.ay + X.sy), .int .i64 (X.ax + X.sx + X.tx), .int .i64 (X.ay + X.sy + X.ty), .int .i64 (X.ax - X.sx + X.tx), .int .i64 (X.ay - X.sy + X.ty), .int .i64 (X.ax - X.sx), .int .i64 (X.ay - X.sy)] 34)) = .ok (.enter 97 #[.slice (some ⟨w1.heap.size, 0, none⟩) 4 4]) (w1.alloc (.cells #[.int .i64 (X.ax + X.sx), .int .i64 (X.ay + X.sy), .int .i64 (X.ax + X.sx + X.tx), .int .i64 (X.ay + X.sy + X.ty), .int .i64 (X.ax - X.sx + X.tx), .int .i64 (X.ay - X.sy + X.ty), .int .i64 (X.ax - X.sx), .int .i64 (X.ay - X.sy)] 34)) := by
  generalize a.eval = ρ at e265 ef ⊢
  unfold execOp
  rw [hop]
  simp [e265, ef, go_sem]
 unfold Oper.wp
 rw [hr]
 refine Calls.mono (sclosed _ _ _ _) ?_
 rintro e w' ⟨rfl, h⟩
 exact hK _ _ ⟨w1, k1, rfl, h⟩
theorem LL43.s19 (X : LL43) (ok : LL43Ok X) {Q : PQ} : LL43.St X Q 19 := by
 intro γ listed a w o hF hC hW h1 ho h2
 obtain ⟨hd, hop, hg⟩ := fieldsL LL43.isL (i := 19) rfl ho
 have e266 : a.eval (.tmp 266) = γ 1 := known hF ho h2 (LL43.ini ok) ok.sz (by kernel_rfl)
 have hu := unl (hF.lt ho) h1
 refine st_actG (k := 2) LL43.chain LL43.nodup rfl hF hC hW h1 ho h2 (Or.inr ⟨267, hd, rfl⟩) (injG (by kernel_rfl) hu) hg ?_
 intro hW0 K hK
 obtain ⟨w1, k1, g1, k2⟩ := hW0
 rw [g1] at e266
 have hr : (execOp a.eval o).run Tryz.prog w = .ok (.value (.slice (some ⟨w.heap.size, 0, none⟩) 1 1)) (w.alloc (.cells #[.slice (some ⟨w1.heap.size, 0, none⟩) 4 4, .bool true] 25)) := by
  generalize a.eval = ρ at e266 ⊢
  unfold execOp
  rw [hop]
  simp [e266, go_sem]
 unfold Oper.wp
 rw [hr]
 exact hK _ _ ⟨w1, w, k1, k2, rfl, rfl⟩
theorem LL43.s20 (X : LL43) (ok : LL43Ok X) {Q : PQ} : LL43.St X Q 20 := by
 intro γ listed a w o hF hC hW h1 ho h2
 obtain ⟨hd, hop, hg⟩ := fieldsL LL43.isL (i := 20) rfl ho
 have e248 : a.eval (.tmp 248) = X.v := known hF ho h2 (LL43.ini ok) ok.sz (by kernel_rfl)
 have e267 : a.eval (.tmp 267) = γ 2 := known hF ho h2 (LL43.ini ok) ok.sz (by kernel_rfl)
 have hu := unl (hF.lt ho) h1
 refine st_actG (k := 3) LL43.chain LL43.nodup rfl hF hC hW h1 ho h2 (Or.inr ⟨268, hd, rfl⟩) (injG (by kernel_rfl) hu) hg ?_
 intro hW0 K hK
 obtain ⟨w1, w2, k1, k2, g2, rfl⟩ := hW0
 rw [g2] at e267
 have nn : Nw X.W w2 := Kp.nw (Kp.trans k1 (Kp.trans ((Kp.refl w1).alloc _ _) k2))
 have hu : OwnP w2 X.W.heap.size (.slice (some ⟨w1.heap.size, 0, none⟩) 4 4) [(X.ax + X.sx, X.ay + X.sy), (X.ax + X.sx + X.tx, X.ay + X.sy + X.ty), (X.ax - X.sx + X.tx, X.ay - X.sy + X.ty), (X.ax - X.sx, X.ay - X.sy)] := OwnP.nw (ownp4 w1 _ (Kp.size k1) _ _ _ _ _ _ _ _ ) (Kp.nw k2)
 refine wp_lnx X.W w2 (.tmp 248) (.tmp 267) hop X.B X.v X.it (.slice (some ⟨w1.heap.size, 0, none⟩) 4 4) ⟨[(X.ax + X.sx, X.ay + X.sy), (X.ax + X.sx + X.tx, X.ay + X.sy + X.ty), (X.ax - X.sx + X.tx, X.ay - X.sy + X.ty), (X.ax - X.sx, X.ay - X.sy)], true⟩ e248 ok.ho nn ok.hB hu e267 ok.hl ?_
 intro g' c' w' h1 h2 h3
 exact hK _ _ ⟨_, h1, h2, h3, fun c hc => (OwnQ.lt hu c hc).1⟩
theorem LL43.s21 (X : LL43) (ok : LL43Ok X) {Q : PQ} : LL43.St X Q 21 := by
 intro γ listed a w o hF hC hW h1 ho h2
 obtain ⟨hd, hop, hg⟩ := fieldsL LL43.isL (i := 21) rfl ho
 have e268 : a.eval (.tmp 268) = γ 3 := known hF ho h2 (LL43.ini ok) ok.sz (by kernel_rfl)
 have hu := unl (hF.lt ho) h1
 refine st_actG (k := 4) LL43.chain LL43.nodup rfl hF hC hW h1 ho h2 (Or.inr ⟨10, hd, rfl⟩) (injG (by kernel_rfl) hu) hg ?_
 intro hW0 K hK
 have hr : (execOp a.eval o).run Tryz.prog w = .ok (.value (γ 3)) w := by
  generalize a.eval = ρ at e268 ⊢
  unfold execOp
  rw [hop]
  simp [e268, go_sem]
 unfold Oper.wp
 rw [hr]
 exact hK _ _ hW0
theorem LL43.size : (opsOf 43 Tryz.f78).size = 22 := by kernel_rfl
theorem LL43.rest (X : LL43) (ok : LL43Ok X) {Q : PQ} : ∀ i ∈ [0, 3, 6, 8, 11, 13, 16, 17, 18, 19, 20, 21], LL43.St X Q i := by
 simp only [List.forall_mem_cons]
 exact ⟨LL43.s0 X ok,
  st_callZ LL43.isL (LL43.ini ok) ok.sz rfl (by kernel_rfl) (fun _ _ => by simp [go_sem]) (fun γ w hW => splus w _ _ _ _ ok.w0 ok.w1 ok.w2 ok.w3) (fun _ _ _ hW hk => Kp.trans hW hk),
  st_callZ LL43.isL (LL43.ini ok) ok.sz rfl (by kernel_rfl) (fun _ _ => by simp [go_sem]) (fun γ w hW => splus w _ _ _ _ ok.w0 ok.w1 ok.w2 ok.w3) (fun _ _ _ hW hk => Kp.trans hW hk),
  st_callZ LL43.isL (LL43.ini ok) ok.sz rfl (by kernel_rfl) (fun _ _ => by simp [go_sem]) (fun γ w hW => splus w _ _ _ _ ok.w6 ok.w7 ok.w4 ok.w5) (fun _ _ _ hW hk => Kp.trans hW hk),
  st_callZ LL43.isL (LL43.ini ok) ok.sz rfl (by kernel_rfl) (fun _ _ => by simp [go_sem]) (fun γ w hW => sless w _ _ _ _ ok.w0 ok.w1 ok.w2 ok.w3) (fun _ _ _ hW hk => Kp.trans hW hk),
  st_callZ LL43.isL (LL43.ini ok) ok.sz rfl (by kernel_rfl) (fun _ _ => by simp [go_sem]) (fun γ w hW => splus w _ _ _ _ ok.w8 ok.w9 ok.w4 ok.w5) (fun _ _ _ hW hk => Kp.trans hW hk),
  st_callZ LL43.isL (LL43.ini ok) ok.sz rfl (by kernel_rfl) (fun _ _ => by simp [go_sem]) (fun γ w hW => sless w _ _ _ _ ok.w0 ok.w1 ok.w2 ok.w3) (fun _ _ _ hW hk => Kp.trans hW hk),
  LL43.s17 X ok,
  LL43.s18 X ok,
  LL43.s19 X ok,
  LL43.s20 X ok,
  LL43.s21 X ok, List.forall_mem_nil _⟩
theorem LL43.steps (X : LL43) (ok : LL43Ok X) {Q : PQ} (i : Nat) (hi : i < (opsOf 43 Tryz.f78).size) : LL43.St X Q i := by
 rw [LL43.size] at hi
 rcases (by decide : ∀ i, i < 22 → i ∈ [1, 2, 4, 5, 7, 9, 10, 12, 14, 15] ∨ i ∈ [0, 3, 6, 8, 11, 13, 16, 17, 18, 19, 20, 21]) i hi with h | h
 · exact LL43.early X ok i h
 · exact LL43.rest X ok i h
theorem LL43.run (X : LL43) (ok : LL43Ok X) {Q : PQ} (w : World) (h0 : X.Wd 0 (fun _ => undef) w.drew) (hend : ∀ (γ : Nat → Value) w', X.Wd 5 γ w' → Q .normal ((((((((((((((((((((((X.a0.put (some 248) (X.v)).put (some 249) (.agg #[.int .i64 (X.ax), .int .i64 (X.ay)])).put (some 250) (.agg #[.int .i64 (X.sx), .int .i64 (X.sy)])).put (some 251) (.agg #[.int .i64 (X.ax + X.sx), .int .i64 (X.ay + X.sy)])).put (some 252) (.agg #[.int .i64 (X.ax), .int .i64 (X.ay)])).put (some 253) (.agg #[.int .i64 (X.sx), .int .i64 (X.sy)])).put (some 254) (.agg #[.int .i64 (X.ax + X.sx), .int .i64 (X.ay + X.sy)])).put (some 255) (.agg #[.int .i64 (X.tx), .int .i64 (X.ty)])).put (some 256) (.agg #[.int .i64 (X.ax + X.sx + X.tx), .int .i64 (X.ay + X.sy + X.ty)])).put (some 257) (.agg #[.int .i64 (X.ax), .int .i64 (X.ay)])).put (some 258) (.agg #[.int .i64 (X.sx), .int .i64 (X.sy)])).put (some 259) (.agg #[.int .i64 (X.ax - X.sx), .int .i64 (X.ay - X.sy)])).put (some 260) (.agg #[.int .i64 (X.tx), .int .i64 (X.ty)])).put (some 261) (.agg #[.int .i64 (X.ax - X.sx + X.tx), .int .i64 (X.ay - X.sy + X.ty)])).put (some 262) (.agg #[.int .i64 (X.ax), .int .i64 (X.ay)])).put (some 263) (.agg #[.int .i64 (X.sx), .int .i64 (X.sy)])).put (some 264) (.agg #[.int .i64 (X.ax - X.sx), .int .i64 (X.ay - X.sy)])).put (some 265) (γ 0)).put (some 266) (γ 1)).put (some 267) (γ 2)).put (some 268) (γ 3)).put (some 10) (γ 4)) w') : (Code.region 43 (opsOf 43 Tryz.f78) true).wp Tryz.prog Q X.a0 w := by
 refine reg_act (acts := LL43.acts) (av := LL43.av) (val0 := X.val0) (Wd := X.Wd) (by kernel_rfl) (by kernel_rfl) (by rw [LL43.size]; decide) (fun i hi => LL43.steps X ok i hi) _ h0 ?_
 intro γ w' h
 exact end_at (hend γ w' h) (by kernel_rfl)
structure LL29 where
 ax : Int
 ay : Int
 px : Int
 py : Int
 ex : Int
 ey : Int
 h : Int
 j : Int
 g : Nat
 off : Nat
 n : Nat
 cq : Nat
 i : Nat
 ia : Nat
 ib : Nat
 bp : Nat
 L : List Pnt
 v : Value
 B : Nat
 it : Its
 W : World
 a0 : Act
structure LL29Ok (X : LL29) : Prop where
 a0_ : X.W.cell? ⟨X.g, X.off + X.ia * 2, none⟩ = some (.int .i64 X.ax)
 a1_ : X.W.cell? ⟨X.g, X.off + X.ia * 2 + 1, none⟩ = some (.int .i64 X.ay)
 p0_ : X.W.cell? ⟨X.g, X.off + X.i * 2, none⟩ = some (.int .i64 X.px)
 p1_ : X.W.cell? ⟨X.g, X.off + X.i * 2 + 1, none⟩ = some (.int .i64 X.py)
 e0_ : X.W.cell? ⟨X.g, X.off + X.ib * 2, none⟩ = some (.int .i64 X.ex)
 e1_ : X.W.cell? ⟨X.g, X.off + X.ib * 2 + 1, none⟩ = some (.int .i64 X.ey)
 cj : X.W.cell? ⟨X.bp, 1, none⟩ = some (.int .i64 X.j)
 d1 : IntKind.i64.wrap ((X.i : Int) + (X.n : Int)) = (X.i : Int) + (X.n : Int)
 d2 : IntKind.i64.wrap ((X.i : Int) + (X.n : Int) - 1) = (X.i : Int) + (X.n : Int) - 1
 d3 : ((X.i : Int) + (X.n : Int) - 1).tmod (X.n : Int) = (X.ia : Int)
 d4 : IntKind.i64.wrap ((X.i : Int) + 1) = (X.i : Int) + 1
 d5 : ((X.i : Int) + 1).tmod (X.n : Int) = (X.ib : Int)
 n0 : ¬ X.n = 0
 k1 : X.ia < X.n
 k2 : X.i < X.n
 k3 : X.ib < X.n
 hJ : RingSays 100 #[.agg #[.int .i64 X.ax, .int .i64 X.ay], .agg #[.int .i64 X.px, .int .i64 X.py], .agg #[.int .i64 X.ex, .int .i64 X.ey], .int .i64 X.h, .int .i64 X.j] X.L
 ho : OwnLn X.W X.B X.v X.it
 hB : X.B ≤ X.W.heap.size
 hl : X.it.length + 1 ≤ 1000000
 e3 : X.a0.eval (.tmp 3) = .pointer (some ⟨X.bp, 0, none⟩)
 e5 : X.a0.eval (.tmp 5) = .int .i64 X.h
 e6 : X.a0.eval (.tmp 6) = .slice (some ⟨X.g, X.off, none⟩) X.n X.cq
 e9 : X.a0.eval (.tmp 9) = .int .i64 (X.n : Int)
 e10 : X.a0.eval (.tmp 10) = X.v
 e16 : X.a0.eval (.tmp 16) = .int .i64 (X.i : Int)
 sz : X.a0.tmps.size = 270
def LL29.val0 (X : LL29) : Nat → Value
 | 3 => .pointer (some ⟨X.bp, 0, none⟩)
 | 5 => .int .i64 X.h
 | 6 => .slice (some ⟨X.g, X.off, none⟩) X.n X.cq
 | 9 => .int .i64 (X.n : Int)
 | 16 => .int .i64 (X.i : Int)
 | 136 => X.v
 | 137 => .slice (some ⟨X.g, X.off, none⟩) X.n X.cq
 | 138 => .int .i64 (X.i : Int)
 | 139 => .int .i64 (X.n : Int)
 | 140 => .int .i64 ((X.i : Int) + (X.n : Int))
 | 141 => .int .i64 ((X.i : Int) + (X.n : Int) - 1)
 | 142 => .int .i64 (X.n : Int)
 | 143 => .int .i64 (X.ia : Int)
 | 144 => .pointer (some ⟨X.g, X.off + X.ia * 2, none⟩)
 | 145 => .agg #[.int .i64 X.ax, .int .i64 X.ay]
 | 146 => .slice (some ⟨X.g, X.off, none⟩) X.n X.cq
 | 147 => .int .i64 (X.i : Int)
 | 148 => .pointer (some ⟨X.g, X.off + X.i * 2, none⟩)
 | 149 => .agg #[.int .i64 X.px, .int .i64 X.py]
 | 150 => .slice (some ⟨X.g, X.off, none⟩) X.n X.cq
 | 151 => .int .i64 (X.i : Int)
 | 152 => .int .i64 ((X.i : Int) + 1)
 | 153 => .int .i64 (X.n : Int)
 | 154 => .int .i64 (X.ib : Int)
 | 155 => .pointer (some ⟨X.g, X.off + X.ib * 2, none⟩)
 | 156 => .agg #[.int .i64 X.ex, .int .i64 X.ey]
 | 157 => .int .i64 X.h
 | 158 => .pointer (some ⟨X.bp, 1, none⟩)
 | 159 => .int .i64 X.j
 | _ => undef
def LL29.av : Nat → Option Nat
 | 160 => some 0
 | 161 => some 1
 | 162 => some 2
 | 10 => some 3
 | _ => none
def LL29.acts : List Nat := [24, 25, 26, 27]
def LL29.Wd (X : LL29) : Nat → (Nat → Value) → World → Prop
  | 0, _, w => w = X.W
  | 1, γ, w => ∃ u, γ 0 = .agg #[u, .bool true] ∧ OwnP w X.W.heap.size u X.L ∧ Nw X.W w
  | 2, γ, w => ∃ w1 u, OwnP w1 X.W.heap.size u X.L ∧ Nw X.W w1 ∧ γ 1 = .slice (some ⟨w1.heap.size, 0, none⟩) 1 1 ∧ w = w1.alloc (.cells #[u, .bool true] 25)
  | 3, γ, w => ∃ u, OwnLn w X.B (γ 2) (X.it ++ [(u, ⟨X.L, true⟩)]) ∧ Below X.B X.W w
  | _, γ, w => ∃ u, OwnLn w X.B (γ 3) (X.it ++ [(u, ⟨X.L, true⟩)]) ∧ Below X.B X.W w
theorem LL29.chain : chainG (opsOf 29 Tryz.f78) LL29.acts = true := by kernel_rfl
theorem LL29.nodup : LL29.acts.Nodup := by decide
def LL29.ol : List (Option Nat × Op × Option (Nat × Bool)) := [
 (some 136, .move (.tmp 10), none),
 (some 137, .move (.tmp 6), none),
 (some 138, .move (.tmp 16), none),
 (some 139, .move (.tmp 9), none),
 (some 140, .binOp .add 3 (.tmp 138) (.tmp 139) 3, none),
 (some 141, .binOp .sub 3 (.tmp 140) (.const (.int .i64 1)) 3, none),
 (some 142, .move (.tmp 9), none),
 (some 143, .binOp .rem 3 (.tmp 141) (.tmp 142) 3, none),
 (some 144, .indexAddr 23 (.tmp 137) (.tmp 143), none),
 (some 145, .load 34 (.tmp 144), none),
 (some 146, .move (.tmp 6), none),
 (some 147, .move (.tmp 16), none),
 (some 148, .indexAddr 23 (.tmp 146) (.tmp 147), none),
 (some 149, .load 34 (.tmp 148), none),
 (some 150, .move (.tmp 6), none),
 (some 151, .move (.tmp 16), none),
 (some 152, .binOp .add 3 (.tmp 151) (.const (.int .i64 1)) 3, none),
 (some 153, .move (.tmp 9), none),
 (some 154, .binOp .rem 3 (.tmp 152) (.tmp 153) 3, none),
 (some 155, .indexAddr 23 (.tmp 150) (.tmp 154), none),
 (some 156, .load 34 (.tmp 155), none),
 (some 157, .move (.tmp 5), none),
 (some 158, .fieldAddr 36 (.tmp 3) 1, none),
 (some 159, .load 3 (.tmp 158), none),
 (some 160, .call { callee := .value (.func 100), args := #[(.tmp 145), (.tmp 149), (.tmp 156), (.tmp 157), (.tmp 159)], argTypes := #[34, 34, 34, 3, 3] }, none),
 (some 161, .buildSlice 29 1 #[(0, (.tmp 160))], none),
 (some 162, .call { callee := .builtin .append, args := #[(.tmp 136), (.tmp 161)], argTypes := #[29, 29] }, none),
 (some 10, .assign (.tmp 162), none)]
theorem LL29.isL : (opsOf 29 Tryz.f78).toList.map tri = LL29.ol := by kernel_rfl
theorem LL29.ini {X : LL29} (ok : LL29Ok X) : ∀ n ∈ [3, 5, 6, 9, 16], X.a0.eval (.tmp n) = X.val0 n := by
 simp only [List.forall_mem_cons]
 exact ⟨ok.e3, ok.e5, ok.e6, ok.e9, ok.e16, List.forall_mem_nil _⟩
abbrev LL29.St (X : LL29) (Q : PQ) (i : Nat) : Prop := StepG (opsOf 29 Tryz.f78) LL29.acts LL29.av X.val0 X.Wd X.a0 Q i
theorem LL29.plain (X : LL29) (ok : LL29Ok X) {Q : PQ} : ∀ i ∈ [1, 2, 3, 4, 5, 6, 7, 8, 10, 11, 12, 14, 15, 16, 17, 18, 19, 21, 22], LL29.St X Q i := by
 simp only [List.forall_mem_cons]
 refine ⟨?_, ?_, ?_, ?_, ?_, ?_, ?_, ?_, ?_, ?_, ?_, ?_, ?_, ?_, ?_, ?_, ?_, ?_, ?_, List.forall_mem_nil _⟩
 all_goals
  refine st_plain LL29.isL (LL29.ini ok) ok.sz rfl (by kernel_rfl) ?_
  intro γ w n o hW hop
  unfold execOp
  rw [hop]
  simp [envR, valG, LL29.av, LL29.val0, ok.d1, ok.d2, ok.d3, ok.n0, ok.k1, ok.k2, ok.d4, ok.d5, ok.k3, go_sem]
theorem LL29.soon (X : LL29) (ok : LL29Ok X) {Q : PQ} : ∀ i ∈ [9, 13, 20, 23], LL29.St X Q i := by
 simp only [List.forall_mem_cons]
 refine ⟨?_, ?_, ?_, ?_, List.forall_mem_nil _⟩
 all_goals
  refine st_plainM (m := 0) LL29.isL (LL29.ini ok) ok.sz rfl (by kernel_rfl) ?_
  intro γ w n o hn hW hop
  obtain rfl : n = 0 := by omega
  have hk : w = X.W := hW
  subst hk
  unfold execOp
  rw [hop]
  simp [envR, valG, LL29.av, LL29.val0, ok.a0_, ok.a1_, ok.p0_, ok.p1_, ok.e0_, ok.e1_, ok.cj, go_sem]
theorem LL29.s0 (X : LL29) (ok : LL29Ok X) {Q : PQ} : LL29.St X Q 0 := by
 intro γ listed a w o hF hC hW h1 ho h2
 obtain ⟨hd, hop, hg⟩ := fieldsL LL29.isL (i := 0) rfl ho
 have e10 : a.eval (.tmp 10) = X.v := (hF.no 10 (early_of hC (unl (hF.lt ho) h1) (j := 27) (by kernel_rfl) [26, 0] (by kernel_rfl) (by decide))).trans ok.e10
 refine st_pureG hF hC hW ho h2 (by decide) hd hg rfl ?_
 show _ = Result.ok (Next.value (X.v)) w
 generalize a.eval = ρ at e10 ⊢
 unfold execOp
 rw [hop]
 simp [e10, go_sem]
theorem LL29.s24 (X : LL29) (ok : LL29Ok X) {Q : PQ} : LL29.St X Q 24 := by
 intro γ listed a w o hF hC hW h1 ho h2
 obtain ⟨hd, hop, hg⟩ := fieldsL LL29.isL (i := 24) rfl ho
 have e145 : a.eval (.tmp 145) = .agg #[.int .i64 X.ax, .int .i64 X.ay] := known hF ho h2 (LL29.ini ok) ok.sz (by kernel_rfl)
 have e149 : a.eval (.tmp 149) = .agg #[.int .i64 X.px, .int .i64 X.py] := known hF ho h2 (LL29.ini ok) ok.sz (by kernel_rfl)
 have e156 : a.eval (.tmp 156) = .agg #[.int .i64 X.ex, .int .i64 X.ey] := known hF ho h2 (LL29.ini ok) ok.sz (by kernel_rfl)
 have e157 : a.eval (.tmp 157) = .int .i64 X.h := known hF ho h2 (LL29.ini ok) ok.sz (by kernel_rfl)
 have e159 : a.eval (.tmp 159) = .int .i64 X.j := known hF ho h2 (LL29.ini ok) ok.sz (by kernel_rfl)
 have ef : a.eval (.func 100) = .func (.func 100) #[] #[] := rfl
 have hu := unl (hF.lt ho) h1
 refine st_actG (k := 0) LL29.chain LL29.nodup rfl hF hC hW h1 ho h2 (Or.inr ⟨160, hd, rfl⟩) (injG (by kernel_rfl) hu) hg ?_
 intro hW0 K hK
 have hw0 : w = X.W := hW0
 have hr : (execOp a.eval o).run Tryz.prog w = .ok (.enter 100 #[.agg #[.int .i64 X.ax, .int .i64 X.ay], .agg #[.int .i64 X.px, .int .i64 X.py], .agg #[.int .i64 X.ex, .int .i64 X.ey], .int .i64 X.h, .int .i64 X.j]) w := by
  generalize a.eval = ρ at e145 e149 e156 e157 e159 ef ⊢
  unfold execOp
  rw [hop]
  simp [e145, e149, e156, e157, e159, ef, go_sem]
 unfold Oper.wp
 rw [hr]
 refine Calls.mono (ok.hJ w) ?_
 rintro e w' ⟨u, rfl, h, n⟩
 rw [hw0] at h n
 exact hK _ _ ⟨u, rfl, h, n⟩
theorem LL29.s25 (X : LL29) (ok : LL29Ok X) {Q : PQ} : LL29.St X Q 25 := by
 intro γ listed a w o hF hC hW h1 ho h2
 obtain ⟨hd, hop, hg⟩ := fieldsL LL29.isL (i := 25) rfl ho
 have e160 : a.eval (.tmp 160) = γ 0 := known hF ho h2 (LL29.ini ok) ok.sz (by kernel_rfl)
 have hu := unl (hF.lt ho) h1
 refine st_actG (k := 1) LL29.chain LL29.nodup rfl hF hC hW h1 ho h2 (Or.inr ⟨161, hd, rfl⟩) (injG (by kernel_rfl) hu) hg ?_
 intro hW0 K hK
 obtain ⟨u, g0, hu, nu⟩ := hW0
 rw [g0] at e160
 obtain ⟨ua, un, uc, q⟩ := OwnQ.slice hu
 have hr : (execOp a.eval o).run Tryz.prog w = .ok (.value (.slice (some ⟨w.heap.size, 0, none⟩) 1 1)) (w.alloc (.cells #[u, .bool true] 25)) := by
  rw [q] at e160 ⊢
  generalize a.eval = ρ at e160 ⊢
  unfold execOp
  rw [hop]
  simp [e160, go_sem]
 unfold Oper.wp
 rw [hr]
 exact hK _ _ ⟨w, u, hu, nu, rfl, rfl⟩
theorem LL29.s26 (X : LL29) (ok : LL29Ok X) {Q : PQ} : LL29.St X Q 26 := by
 intro γ listed a w o hF hC hW h1 ho h2
 obtain ⟨hd, hop, hg⟩ := fieldsL LL29.isL (i := 26) rfl ho
 have e136 : a.eval (.tmp 136) = X.v := known hF ho h2 (LL29.ini ok) ok.sz (by kernel_rfl)
 have e161 : a.eval (.tmp 161) = γ 1 := known hF ho h2 (LL29.ini ok) ok.sz (by kernel_rfl)
 have hu := unl (hF.lt ho) h1
 refine st_actG (k := 2) LL29.chain LL29.nodup rfl hF hC hW h1 ho h2 (Or.inr ⟨162, hd, rfl⟩) (injG (by kernel_rfl) hu) hg ?_
 intro hW0 K hK
 obtain ⟨w1, u, hu, nu, g1, rfl⟩ := hW0
 rw [g1] at e161
 refine wp_ln X.W w1 (.tmp 136) (.tmp 161) hop X.B X.v X.it u ⟨X.L, true⟩ e136 ok.ho nu ok.hB hu e161 ok.hl ?_
 intro g' c' w' h1 h2
 exact hK _ _ ⟨_, h1, h2⟩
theorem LL29.s27 (X : LL29) (ok : LL29Ok X) {Q : PQ} : LL29.St X Q 27 := by
 intro γ listed a w o hF hC hW h1 ho h2
 obtain ⟨hd, hop, hg⟩ := fieldsL LL29.isL (i := 27) rfl ho
 have e162 : a.eval (.tmp 162) = γ 2 := known hF ho h2 (LL29.ini ok) ok.sz (by kernel_rfl)
 have hu := unl (hF.lt ho) h1
 refine st_actG (k := 3) LL29.chain LL29.nodup rfl hF hC hW h1 ho h2 (Or.inr ⟨10, hd, rfl⟩) (injG (by kernel_rfl) hu) hg ?_
 intro hW0 K hK
 have hr : (execOp a.eval o).run Tryz.prog w = .ok (.value (γ 2)) w := by
  generalize a.eval = ρ at e162 ⊢
  unfold execOp
  rw [hop]
  simp [e162, go_sem]
 unfold Oper.wp
 rw [hr]
 exact hK _ _ hW0
theorem LL29.size : (opsOf 29 Tryz.f78).size = 28 := by kernel_rfl
theorem LL29.rest (X : LL29) (ok : LL29Ok X) {Q : PQ} : ∀ i ∈ [0, 24, 25, 26, 27], LL29.St X Q i := by
 simp only [List.forall_mem_cons]
 exact ⟨LL29.s0 X ok,
  LL29.s24 X ok,
  LL29.s25 X ok,
  LL29.s26 X ok,
  LL29.s27 X ok, List.forall_mem_nil _⟩
theorem LL29.steps (X : LL29) (ok : LL29Ok X) {Q : PQ} (i : Nat) (hi : i < (opsOf 29 Tryz.f78).size) : LL29.St X Q i := by
 rw [LL29.size] at hi
 rcases (by decide : ∀ i, i < 28 → i ∈ [1, 2, 3, 4, 5, 6, 7, 8, 10, 11, 12, 14, 15, 16, 17, 18, 19, 21, 22] ∨ i ∈ [9, 13, 20, 23] ∨ i ∈ [0, 24, 25, 26, 27]) i hi with h | h | h
 · exact LL29.plain X ok i h
 · exact LL29.soon X ok i h
 · exact LL29.rest X ok i h
theorem LL29.run (X : LL29) (ok : LL29Ok X) {Q : PQ} (w : World) (h0 : X.Wd 0 (fun _ => undef) w.drew) (hend : ∀ (γ : Nat → Value) w', X.Wd 4 γ w' → Q .normal ((((((((((((((((((((((((((((X.a0.put (some 136) (X.v)).put (some 137) (.slice (some ⟨X.g, X.off, none⟩) X.n X.cq)).put (some 138) (.int .i64 (X.i : Int))).put (some 139) (.int .i64 (X.n : Int))).put (some 140) (.int .i64 ((X.i : Int) + (X.n : Int)))).put (some 141) (.int .i64 ((X.i : Int) + (X.n : Int) - 1))).put (some 142) (.int .i64 (X.n : Int))).put (some 143) (.int .i64 (X.ia : Int))).put (some 144) (.pointer (some ⟨X.g, X.off + X.ia * 2, none⟩))).put (some 145) (.agg #[.int .i64 X.ax, .int .i64 X.ay])).put (some 146) (.slice (some ⟨X.g, X.off, none⟩) X.n X.cq)).put (some 147) (.int .i64 (X.i : Int))).put (some 148) (.pointer (some ⟨X.g, X.off + X.i * 2, none⟩))).put (some 149) (.agg #[.int .i64 X.px, .int .i64 X.py])).put (some 150) (.slice (some ⟨X.g, X.off, none⟩) X.n X.cq)).put (some 151) (.int .i64 (X.i : Int))).put (some 152) (.int .i64 ((X.i : Int) + 1))).put (some 153) (.int .i64 (X.n : Int))).put (some 154) (.int .i64 (X.ib : Int))).put (some 155) (.pointer (some ⟨X.g, X.off + X.ib * 2, none⟩))).put (some 156) (.agg #[.int .i64 X.ex, .int .i64 X.ey])).put (some 157) (.int .i64 X.h)).put (some 158) (.pointer (some ⟨X.bp, 1, none⟩))).put (some 159) (.int .i64 X.j)).put (some 160) (γ 0)).put (some 161) (γ 1)).put (some 162) (γ 2)).put (some 10) (γ 3)) w') : (Code.region 29 (opsOf 29 Tryz.f78) true).wp Tryz.prog Q X.a0 w := by
 refine reg_act (acts := LL29.acts) (av := LL29.av) (val0 := X.val0) (Wd := X.Wd) (by kernel_rfl) (by kernel_rfl) (by rw [LL29.size]; decide) (fun i hi => LL29.steps X ok i hi) _ h0 ?_
 intro γ w' h
 exact end_at (hend γ w' h) (by kernel_rfl)
structure LL34 where
 ax : Int
 ay : Int
 ex : Int
 ey : Int
 h : Int
 g : Nat
 off : Nat
 n : Nat
 m : Nat
 cq : Nat
 L : List Pnt
 M : List Pnt
 v : Value
 B : Nat
 it : Its
 W : World
 a0 : Act
structure LL34Ok (X : LL34) : Prop where
 a0_ : X.W.cell? ⟨X.g, X.off, none⟩ = some (.int .i64 X.ax)
 a1_ : X.W.cell? ⟨X.g, X.off + 1, none⟩ = some (.int .i64 X.ay)
 b0_ : X.W.cell? ⟨X.g, X.off + X.m * 2, none⟩ = some (.int .i64 X.ex)
 b1_ : X.W.cell? ⟨X.g, X.off + X.m * 2 + 1, none⟩ = some (.int .i64 X.ey)
 d1 : IntKind.i64.wrap ((X.n : Int) - 1) = (X.m : Int)
 k0 : 0 < X.n
 k1 : X.m < X.n
 hL : RingSays 101 #[.agg #[.int .i64 X.ax, .int .i64 X.ay], .int .i64 X.h] X.L
 hM : RingSays 101 #[.agg #[.int .i64 X.ex, .int .i64 X.ey], .int .i64 X.h] X.M
 ho : OwnLn X.W X.B X.v X.it
 hB : X.B ≤ X.W.heap.size
 hl : X.it.length + 2 ≤ 1000000
 e5 : X.a0.eval (.tmp 5) = .int .i64 X.h
 e6 : X.a0.eval (.tmp 6) = .slice (some ⟨X.g, X.off, none⟩) X.n X.cq
 e9 : X.a0.eval (.tmp 9) = .int .i64 (X.n : Int)
 e10 : X.a0.eval (.tmp 10) = X.v
 sz : X.a0.tmps.size = 270
def LL34.val0 (X : LL34) : Nat → Value
 | 5 => .int .i64 X.h
 | 6 => .slice (some ⟨X.g, X.off, none⟩) X.n X.cq
 | 9 => .int .i64 (X.n : Int)
 | 170 => X.v
 | 171 => .slice (some ⟨X.g, X.off, none⟩) X.n X.cq
 | 172 => .pointer (some ⟨X.g, X.off, none⟩)
 | 173 => .agg #[.int .i64 X.ax, .int .i64 X.ay]
 | 174 => .int .i64 X.h
 | 176 => .slice (some ⟨X.g, X.off, none⟩) X.n X.cq
 | 177 => .int .i64 (X.n : Int)
 | 178 => .int .i64 (X.m : Int)
 | 179 => .pointer (some ⟨X.g, X.off + X.m * 2, none⟩)
 | 180 => .agg #[.int .i64 X.ex, .int .i64 X.ey]
 | 181 => .int .i64 X.h
 | _ => undef
def LL34.av : Nat → Option Nat
 | 175 => some 0
 | 182 => some 1
 | 183 => some 2
 | 184 => some 3
 | 10 => some 4
 | _ => none
def LL34.acts : List Nat := [5, 12, 13, 14, 15]
def LL34.Wd (X : LL34) : Nat → (Nat → Value) → World → Prop
  | 0, _, w => w = X.W
  | 1, γ, w => ∃ u, γ 0 = .agg #[u, .bool true] ∧ OwnP w X.W.heap.size u X.L ∧ Nw X.W w
  | 2, γ, w => ∃ u u2, γ 0 = .agg #[u, .bool true] ∧ γ 1 = .agg #[u2, .bool true] ∧ ItsOk w X.W.heap.size [(u, ⟨X.L, true⟩), (u2, ⟨X.M, true⟩)] ∧ Nw X.W w
  | 3, γ, w => ∃ w1 u u2, ItsOk w1 X.W.heap.size [(u, ⟨X.L, true⟩), (u2, ⟨X.M, true⟩)] ∧ Nw X.W w1 ∧ γ 2 = .slice (some ⟨w1.heap.size, 0, none⟩) 2 2 ∧ w = w1.alloc (.cells #[u, .bool true, u2, .bool true] 25)
  | 4, γ, w => ∃ u u2, OwnLn w X.B (γ 3) (X.it ++ [(u, ⟨X.L, true⟩), (u2, ⟨X.M, true⟩)]) ∧ Below X.B X.W w
  | _, γ, w => ∃ u u2, OwnLn w X.B (γ 4) (X.it ++ [(u, ⟨X.L, true⟩), (u2, ⟨X.M, true⟩)]) ∧ Below X.B X.W w
theorem LL34.nw {X : LL34} : ∀ {n : Nat} {γ : Nat → Value} {w : World}, n ≤ 1 → X.Wd n γ w → Nw X.W w
  | 0, _, w, _, h => by have : w = X.W := h; rw [this]; exact Below.refl _ _
  | 1, _, _, _, ⟨_, _, _, h⟩ => h
  | _ + 2, _, _, h, _ => absurd h (by omega)
theorem LL34.chain : chainG (opsOf 34 Tryz.f78) LL34.acts = true := by kernel_rfl
theorem LL34.nodup : LL34.acts.Nodup := by decide
def LL34.ol : List (Option Nat × Op × Option (Nat × Bool)) := [
 (some 170, .move (.tmp 10), none),
 (some 171, .move (.tmp 6), none),
 (some 172, .indexAddr 23 (.tmp 171) (.const (.int .i64 0)), none),
 (some 173, .load 34 (.tmp 172), none),
 (some 174, .move (.tmp 5), none),
 (some 175, .call { callee := .value (.func 101), args := #[(.tmp 173), (.tmp 174)], argTypes := #[34, 3] }, none),
 (some 176, .move (.tmp 6), none),
 (some 177, .move (.tmp 9), none),
 (some 178, .binOp .sub 3 (.tmp 177) (.const (.int .i64 1)) 3, none),
 (some 179, .indexAddr 23 (.tmp 176) (.tmp 178), none),
 (some 180, .load 34 (.tmp 179), none),
 (some 181, .move (.tmp 5), none),
 (some 182, .call { callee := .value (.func 101), args := #[(.tmp 180), (.tmp 181)], argTypes := #[34, 3] }, none),
 (some 183, .buildSlice 29 2 #[(0, (.tmp 175)), (1, (.tmp 182))], none),
 (some 184, .call { callee := .builtin .append, args := #[(.tmp 170), (.tmp 183)], argTypes := #[29, 29] }, none),
 (some 10, .assign (.tmp 184), none)]
theorem LL34.isL : (opsOf 34 Tryz.f78).toList.map tri = LL34.ol := by kernel_rfl
theorem LL34.ini {X : LL34} (ok : LL34Ok X) : ∀ n ∈ [5, 6, 9], X.a0.eval (.tmp n) = X.val0 n := by
 simp only [List.forall_mem_cons]
 exact ⟨ok.e5, ok.e6, ok.e9, List.forall_mem_nil _⟩
abbrev LL34.St (X : LL34) (Q : PQ) (i : Nat) : Prop := StepG (opsOf 34 Tryz.f78) LL34.acts LL34.av X.val0 X.Wd X.a0 Q i
theorem LL34.plain (X : LL34) (ok : LL34Ok X) {Q : PQ} : ∀ i ∈ [1, 2, 4, 6, 7, 8, 9, 11], LL34.St X Q i := by
 simp only [List.forall_mem_cons]
 refine ⟨?_, ?_, ?_, ?_, ?_, ?_, ?_, ?_, List.forall_mem_nil _⟩
 all_goals
  refine st_plain LL34.isL (LL34.ini ok) ok.sz rfl (by kernel_rfl) ?_
  intro γ w n o hW hop
  unfold execOp
  rw [hop]
  simp [envR, valG, LL34.av, LL34.val0, ok.k0, ok.d1, ok.k1, go_sem]
theorem LL34.s0 (X : LL34) (ok : LL34Ok X) {Q : PQ} : LL34.St X Q 0 := by
 intro γ listed a w o hF hC hW h1 ho h2
 obtain ⟨hd, hop, hg⟩ := fieldsL LL34.isL (i := 0) rfl ho
 have e10 : a.eval (.tmp 10) = X.v := (hF.no 10 (early_of hC (unl (hF.lt ho) h1) (j := 15) (by kernel_rfl) [14, 0] (by kernel_rfl) (by decide))).trans ok.e10
 refine st_pureG hF hC hW ho h2 (by decide) hd hg rfl ?_
 show _ = Result.ok (Next.value (X.v)) w
 generalize a.eval = ρ at e10 ⊢
 unfold execOp
 rw [hop]
 simp [e10, go_sem]
theorem LL34.s3 (X : LL34) (ok : LL34Ok X) {Q : PQ} : LL34.St X Q 3 := by
 intro γ listed a w o hF hC hW h1 ho h2
 obtain ⟨hd, hop, hg⟩ := fieldsL LL34.isL (i := 3) rfl ho
 have e172 : a.eval (.tmp 172) = .pointer (some ⟨X.g, X.off, none⟩) := known hF ho h2 (LL34.ini ok) ok.sz (by kernel_rfl)
 have hph := phase_leG (acts := LL34.acts) (m := 0) (x := 5) hC (unl (hF.lt ho) h1) rfl [3] (by kernel_rfl) (by decide)
 have hWW := hW
 generalize phase listed LL34.acts = n at hph hWW
 have hk : Nw X.W w := LL34.nw (by omega) hWW
 have hc0 := nw_at hk ok.a0_
 have hc1 := nw_at hk ok.a1_
 refine st_pureG hF hC hW ho h2 (by decide) hd hg rfl ?_
 show _ = Result.ok (Next.value (.agg #[.int .i64 X.ax, .int .i64 X.ay])) w
 generalize a.eval = ρ at e172 ⊢
 unfold execOp
 rw [hop]
 simp [e172, hc0, hc1, go_sem]
theorem LL34.s5 (X : LL34) (ok : LL34Ok X) {Q : PQ} : LL34.St X Q 5 := by
 intro γ listed a w o hF hC hW h1 ho h2
 obtain ⟨hd, hop, hg⟩ := fieldsL LL34.isL (i := 5) rfl ho
 have e173 : a.eval (.tmp 173) = .agg #[.int .i64 X.ax, .int .i64 X.ay] := known hF ho h2 (LL34.ini ok) ok.sz (by kernel_rfl)
 have e174 : a.eval (.tmp 174) = .int .i64 X.h := known hF ho h2 (LL34.ini ok) ok.sz (by kernel_rfl)
 have ef : a.eval (.func 101) = .func (.func 101) #[] #[] := rfl
 have hu := unl (hF.lt ho) h1
 refine st_actG (k := 0) LL34.chain LL34.nodup rfl hF hC hW h1 ho h2 (Or.inr ⟨175, hd, rfl⟩) (injG (by kernel_rfl) hu) hg ?_
 intro hW0 K hK
 have hw0 : w = X.W := hW0
 have hr : (execOp a.eval o).run Tryz.prog w = .ok (.enter 101 #[.agg #[.int .i64 X.ax, .int .i64 X.ay], .int .i64 X.h]) w := by
  generalize a.eval = ρ at e173 e174 ef ⊢
  unfold execOp
  rw [hop]
  simp [e173, e174, ef, go_sem]
 unfold Oper.wp
 rw [hr]
 refine Calls.mono (ok.hL w) ?_
 rintro e w' ⟨u, rfl, h, n⟩
 rw [hw0] at h n
 exact hK _ _ ⟨u, rfl, h, n⟩
theorem LL34.s10 (X : LL34) (ok : LL34Ok X) {Q : PQ} : LL34.St X Q 10 := by
 intro γ listed a w o hF hC hW h1 ho h2
 obtain ⟨hd, hop, hg⟩ := fieldsL LL34.isL (i := 10) rfl ho
 have e179 : a.eval (.tmp 179) = .pointer (some ⟨X.g, X.off + X.m * 2, none⟩) := known hF ho h2 (LL34.ini ok) ok.sz (by kernel_rfl)
 have hph := phase_leG (acts := LL34.acts) (m := 1) (x := 12) hC (unl (hF.lt ho) h1) rfl [10] (by kernel_rfl) (by decide)
 have hWW := hW
 generalize phase listed LL34.acts = n at hph hWW
 have hk : Nw X.W w := LL34.nw (by omega) hWW
 have hc0 := nw_at hk ok.b0_
 have hc1 := nw_at hk ok.b1_
 refine st_pureG hF hC hW ho h2 (by decide) hd hg rfl ?_
 show _ = Result.ok (Next.value (.agg #[.int .i64 X.ex, .int .i64 X.ey])) w
 generalize a.eval = ρ at e179 ⊢
 unfold execOp
 rw [hop]
 simp [e179, hc0, hc1, go_sem]
theorem LL34.s12 (X : LL34) (ok : LL34Ok X) {Q : PQ} : LL34.St X Q 12 := by
 intro γ listed a w o hF hC hW h1 ho h2
 obtain ⟨hd, hop, hg⟩ := fieldsL LL34.isL (i := 12) rfl ho
 have e180 : a.eval (.tmp 180) = .agg #[.int .i64 X.ex, .int .i64 X.ey] := known hF ho h2 (LL34.ini ok) ok.sz (by kernel_rfl)
 have e181 : a.eval (.tmp 181) = .int .i64 X.h := known hF ho h2 (LL34.ini ok) ok.sz (by kernel_rfl)
 have ef : a.eval (.func 101) = .func (.func 101) #[] #[] := rfl
 have hu := unl (hF.lt ho) h1
 refine st_actG (k := 1) LL34.chain LL34.nodup rfl hF hC hW h1 ho h2 (Or.inr ⟨182, hd, rfl⟩) (injG (by kernel_rfl) hu) hg ?_
 intro hW0 K hK
 obtain ⟨u, g0, hu, nu⟩ := hW0
 have hr : (execOp a.eval o).run Tryz.prog w = .ok (.enter 101 #[.agg #[.int .i64 X.ex, .int .i64 X.ey], .int .i64 X.h]) w := by
  generalize a.eval = ρ at e180 e181 ef ⊢
  unfold execOp
  rw [hop]
  simp [e180, e181, ef, go_sem]
 unfold Oper.wp
 rw [hr]
 refine Calls.mono (ok.hM w) ?_
 rintro e w' ⟨u2, rfl, h, n⟩
 exact hK _ _ ⟨u, u2, g0, rfl, ItsOk.two hu n h (Below.size nu), Nw.trans nu n⟩
theorem LL34.s13 (X : LL34) (ok : LL34Ok X) {Q : PQ} : LL34.St X Q 13 := by
 intro γ listed a w o hF hC hW h1 ho h2
 obtain ⟨hd, hop, hg⟩ := fieldsL LL34.isL (i := 13) rfl ho
 have e175 : a.eval (.tmp 175) = γ 0 := known hF ho h2 (LL34.ini ok) ok.sz (by kernel_rfl)
 have e182 : a.eval (.tmp 182) = γ 1 := known hF ho h2 (LL34.ini ok) ok.sz (by kernel_rfl)
 have hu := unl (hF.lt ho) h1
 refine st_actG (k := 2) LL34.chain LL34.nodup rfl hF hC hW h1 ho h2 (Or.inr ⟨183, hd, rfl⟩) (injG (by kernel_rfl) hu) hg ?_
 intro hW0 K hK
 obtain ⟨u, u2, g0, g1, hi, nu⟩ := hW0
 rw [g0] at e175
 rw [g1] at e182
 obtain ⟨ua, un, uc, q⟩ := OwnQ.slice (hi.pts 0 (by simp))
 obtain ⟨ua2, un2, uc2, q2⟩ := OwnQ.slice (hi.pts 1 (by simp))
 replace q : u = .slice ua un uc := q
 replace q2 : u2 = .slice ua2 un2 uc2 := q2
 have hr : (execOp a.eval o).run Tryz.prog w = .ok (.value (.slice (some ⟨w.heap.size, 0, none⟩) 2 2)) (w.alloc (.cells #[u, .bool true, u2, .bool true] 25)) := by
  rw [q] at e175 ⊢
  rw [q2] at e182 ⊢
  generalize a.eval = ρ at e175 e182 ⊢
  unfold execOp
  rw [hop]
  simp [e175, e182, go_sem]
 unfold Oper.wp
 rw [hr]
 exact hK _ _ ⟨w, u, u2, hi, nu, rfl, rfl⟩
theorem LL34.s14 (X : LL34) (ok : LL34Ok X) {Q : PQ} : LL34.St X Q 14 := by
 intro γ listed a w o hF hC hW h1 ho h2
 obtain ⟨hd, hop, hg⟩ := fieldsL LL34.isL (i := 14) rfl ho
 have e170 : a.eval (.tmp 170) = X.v := known hF ho h2 (LL34.ini ok) ok.sz (by kernel_rfl)
 have e183 : a.eval (.tmp 183) = γ 2 := known hF ho h2 (LL34.ini ok) ok.sz (by kernel_rfl)
 have hu := unl (hF.lt ho) h1
 refine st_actG (k := 3) LL34.chain LL34.nodup rfl hF hC hW h1 ho h2 (Or.inr ⟨184, hd, rfl⟩) (injG (by kernel_rfl) hu) hg ?_
 intro hW0 K hK
 obtain ⟨w1, u, u2, hi, nu, g1, rfl⟩ := hW0
 rw [g1] at e183
 refine wp_ln2 X.W w1 (.tmp 170) (.tmp 183) hop X.B X.v X.it u u2 ⟨X.L, true⟩ ⟨X.M, true⟩ e170 ok.ho nu ok.hB hi e183 ok.hl ?_
 intro v' w' h1 h2
 exact hK _ _ ⟨_, _, h1, h2⟩
theorem LL34.s15 (X : LL34) (ok : LL34Ok X) {Q : PQ} : LL34.St X Q 15 := by
 intro γ listed a w o hF hC hW h1 ho h2
 obtain ⟨hd, hop, hg⟩ := fieldsL LL34.isL (i := 15) rfl ho
 have e184 : a.eval (.tmp 184) = γ 3 := known hF ho h2 (LL34.ini ok) ok.sz (by kernel_rfl)
 have hu := unl (hF.lt ho) h1
 refine st_actG (k := 4) LL34.chain LL34.nodup rfl hF hC hW h1 ho h2 (Or.inr ⟨10, hd, rfl⟩) (injG (by kernel_rfl) hu) hg ?_
 intro hW0 K hK
 have hr : (execOp a.eval o).run Tryz.prog w = .ok (.value (γ 3)) w := by
  generalize a.eval = ρ at e184 ⊢
  unfold execOp
  rw [hop]
  simp [e184, go_sem]
 unfold Oper.wp
 rw [hr]
 exact hK _ _ hW0
theorem LL34.size : (opsOf 34 Tryz.f78).size = 16 := by kernel_rfl
theorem LL34.rest (X : LL34) (ok : LL34Ok X) {Q : PQ} : ∀ i ∈ [0, 3, 5, 10, 12, 13, 14, 15], LL34.St X Q i := by
 simp only [List.forall_mem_cons]
 exact ⟨LL34.s0 X ok,
  LL34.s3 X ok,
  LL34.s5 X ok,
  LL34.s10 X ok,
  LL34.s12 X ok,
  LL34.s13 X ok,
  LL34.s14 X ok,
  LL34.s15 X ok, List.forall_mem_nil _⟩
theorem LL34.steps (X : LL34) (ok : LL34Ok X) {Q : PQ} (i : Nat) (hi : i < (opsOf 34 Tryz.f78).size) : LL34.St X Q i := by
 rw [LL34.size] at hi
 rcases (by decide : ∀ i, i < 16 → i ∈ [1, 2, 4, 6, 7, 8, 9, 11] ∨ i ∈ [0, 3, 5, 10, 12, 13, 14, 15]) i hi with h | h
 · exact LL34.plain X ok i h
 · exact LL34.rest X ok i h
theorem LL34.run (X : LL34) (ok : LL34Ok X) {Q : PQ} (w : World) (h0 : X.Wd 0 (fun _ => undef) w.drew) (hend : ∀ (γ : Nat → Value) w', X.Wd 5 γ w' → Q .normal ((((((((((((((((X.a0.put (some 170) (X.v)).put (some 171) (.slice (some ⟨X.g, X.off, none⟩) X.n X.cq)).put (some 172) (.pointer (some ⟨X.g, X.off, none⟩))).put (some 173) (.agg #[.int .i64 X.ax, .int .i64 X.ay])).put (some 174) (.int .i64 X.h)).put (some 175) (γ 0)).put (some 176) (.slice (some ⟨X.g, X.off, none⟩) X.n X.cq)).put (some 177) (.int .i64 (X.n : Int))).put (some 178) (.int .i64 (X.m : Int))).put (some 179) (.pointer (some ⟨X.g, X.off + X.m * 2, none⟩))).put (some 180) (.agg #[.int .i64 X.ex, .int .i64 X.ey])).put (some 181) (.int .i64 X.h)).put (some 182) (γ 1)).put (some 183) (γ 2)).put (some 184) (γ 3)).put (some 10) (γ 4)) w') : (Code.region 34 (opsOf 34 Tryz.f78) true).wp Tryz.prog Q X.a0 w := by
 refine reg_act (acts := LL34.acts) (av := LL34.av) (val0 := X.val0) (Wd := X.Wd) (by kernel_rfl) (by kernel_rfl) (by rw [LL34.size]; decide) (fun i hi => LL34.steps X ok i hi) _ h0 ?_
 intro γ w' h
 exact end_at (hend γ w' h) (by kernel_rfl)
structure LL36 where
 ax : Int
 ay : Int
 ex : Int
 ey : Int
 sx : Int
 sy : Int
 h : Int
 g : Nat
 off : Nat
 n : Nat
 cq : Nat
 W : World
 a0 : Act
structure LL36Ok (X : LL36) : Prop where
 a0_ : X.W.cell? ⟨X.g, X.off, none⟩ = some (.int .i64 X.ax)
 a1_ : X.W.cell? ⟨X.g, X.off + 1, none⟩ = some (.int .i64 X.ay)
 b0_ : X.W.cell? ⟨X.g, X.off + 2, none⟩ = some (.int .i64 X.ex)
 b1_ : X.W.cell? ⟨X.g, X.off + 2 + 1, none⟩ = some (.int .i64 X.ey)
 k0 : 0 < X.n
 k1 : ¬ ((X.n : Int) ≤ 1)
 hS : ∀ w, Calls Tryz.prog 96 #[.agg #[.int .i64 X.ax, .int .i64 X.ay], .agg #[.int .i64 X.ex, .int .i64 X.ey], .int .i64 X.h] w fun e w' => e = .returned (.agg #[.int .i64 X.sx, .int .i64 X.sy]) ∧ Kp w w'
 e5 : X.a0.eval (.tmp 5) = .int .i64 X.h
 e6 : X.a0.eval (.tmp 6) = .slice (some ⟨X.g, X.off, none⟩) X.n X.cq
 sz : X.a0.tmps.size = 270
def LL36.val0 (X : LL36) : Nat → Value
 | 5 => .int .i64 X.h
 | 6 => .slice (some ⟨X.g, X.off, none⟩) X.n X.cq
 | 187 => .slice (some ⟨X.g, X.off, none⟩) X.n X.cq
 | 188 => .pointer (some ⟨X.g, X.off, none⟩)
 | 189 => .agg #[.int .i64 X.ax, .int .i64 X.ay]
 | 190 => .slice (some ⟨X.g, X.off, none⟩) X.n X.cq
 | 191 => .pointer (some ⟨X.g, X.off + 2, none⟩)
 | 192 => .agg #[.int .i64 X.ex, .int .i64 X.ey]
 | 193 => .int .i64 X.h
 | 194 => .agg #[.int .i64 X.sx, .int .i64 X.sy]
 | _ => undef
def LL36.av : Nat → Option Nat
 | 17 => some 0
 | _ => none
def LL36.acts : List Nat := [8, 9]
def LL36.Wd (X : LL36) : Nat → (Nat → Value) → World → Prop
  | 0, _, w => Kp X.W w
  | 1, γ, w => ∃ g, γ 0 = .pointer (some ⟨g, 0, none⟩) ∧ X.W.heap.size ≤ g ∧ (w.cell? ⟨g, 0, none⟩ = some (.int .i64 0) ∧ w.cell? ⟨g, 1, none⟩ = some (.int .i64 0)) ∧ (∀ o, w.frozen? ⟨g, o, none⟩ = false) ∧ Kp X.W w
  | _, γ, w => ∃ g, γ 0 = .pointer (some ⟨g, 0, none⟩) ∧ X.W.heap.size ≤ g ∧ (w.cell? ⟨g, 0, none⟩ = some (.int .i64 X.sx) ∧ w.cell? ⟨g, 1, none⟩ = some (.int .i64 X.sy)) ∧ (∀ o, w.frozen? ⟨g, o, none⟩ = false) ∧ Kp X.W w
theorem LL36.kp {X : LL36} : ∀ {n : Nat} {γ : Nat → Value} {w : World}, X.Wd n γ w → Kp X.W w
  | 0, _, _, h => h
  | 1, _, _, ⟨_, _, _, _, _, h⟩ => h
  | _ + 2, _, _, ⟨_, _, _, _, _, h⟩ => h
theorem LL36.keep {X : LL36} : ∀ {n : Nat} {γ : Nat → Value} {w w' : World}, X.Wd n γ w → Kp w w' → X.Wd n γ w'
  | 0, _, _, _, h, k => Kp.trans h k
  | 1, _, w, _, ⟨g, h1, h2, ⟨h30, h31⟩, h5, h6⟩, k => ⟨g, h1, h2, ⟨(k.cells.1 _ _ (World.block_lt_of_cell? w ⟨g, 0, none⟩ h30)).trans h30, (k.cells.1 _ _ (World.block_lt_of_cell? w ⟨g, 0, none⟩ h30)).trans h31⟩, fun o => (k.cells.2 _ _).trans (h5 o), Kp.trans h6 k⟩
  | _ + 2, _, w, _, ⟨g, h1, h2, ⟨h30, h31⟩, h5, h6⟩, k => ⟨g, h1, h2, ⟨(k.cells.1 _ _ (World.block_lt_of_cell? w ⟨g, 0, none⟩ h30)).trans h30, (k.cells.1 _ _ (World.block_lt_of_cell? w ⟨g, 0, none⟩ h30)).trans h31⟩, fun o => (k.cells.2 _ _).trans (h5 o), Kp.trans h6 k⟩
theorem LL36.chain : chainG (opsOf 36 Tryz.f78) LL36.acts = true := by kernel_rfl
theorem LL36.nodup : LL36.acts.Nodup := by decide
def LL36.L : List (Option Nat × Op × Option (Nat × Bool)) := [
 (some 187, .move (.tmp 6), none),
 (some 188, .indexAddr 23 (.tmp 187) (.const (.int .i64 0)), none),
 (some 189, .load 34 (.tmp 188), none),
 (some 190, .move (.tmp 6), none),
 (some 191, .indexAddr 23 (.tmp 190) (.const (.int .i64 1)), none),
 (some 192, .load 34 (.tmp 191), none),
 (some 193, .move (.tmp 5), none),
 (some 194, .call { callee := .value (.func 96), args := #[(.tmp 189), (.tmp 192), (.tmp 193)], argTypes := #[34, 34, 3] }, none),
 (some 17, .alloc 34, none),
 (none, .store 34 (.tmp 17) (.tmp 194), none)]
theorem LL36.isL : (opsOf 36 Tryz.f78).toList.map tri = LL36.L := by kernel_rfl
theorem LL36.ini {X : LL36} (ok : LL36Ok X) : ∀ n ∈ [5, 6], X.a0.eval (.tmp n) = X.val0 n := by
 simp only [List.forall_mem_cons]
 exact ⟨ok.e5, ok.e6, List.forall_mem_nil _⟩
abbrev LL36.St (X : LL36) (Q : PQ) (i : Nat) : Prop := StepG (opsOf 36 Tryz.f78) LL36.acts LL36.av X.val0 X.Wd X.a0 Q i
theorem LL36.plain (X : LL36) (ok : LL36Ok X) {Q : PQ} : ∀ i ∈ [0, 1, 2, 3, 4, 5, 6], LL36.St X Q i := by
 simp only [List.forall_mem_cons]
 refine ⟨?_, ?_, ?_, ?_, ?_, ?_, ?_, List.forall_mem_nil _⟩
 all_goals
  refine st_plain LL36.isL (LL36.ini ok) ok.sz rfl (by kernel_rfl) ?_
  intro γ w n o hW hop
  have hc_a0_ := rq_at (LL36.kp hW) ok.a0_
  have hc_a1_ := rq_at (LL36.kp hW) ok.a1_
  have hc_b0_ := rq_at (LL36.kp hW) ok.b0_
  have hc_b1_ := rq_at (LL36.kp hW) ok.b1_
  unfold execOp
  rw [hop]
  simp [envR, valG, LL36.av, LL36.val0, ok.k0, hc_a0_, hc_a1_, ok.k1, hc_b0_, hc_b1_, go_sem]
theorem LL36.s8 (X : LL36) (ok : LL36Ok X) {Q : PQ} : LL36.St X Q 8 := by
 intro γ listed a w o hF hC hW h1 ho h2
 obtain ⟨hd, hop, hg⟩ := fieldsL LL36.isL (i := 8) rfl ho
 have hu := unl (hF.lt ho) h1
 refine st_actG (k := 0) LL36.chain LL36.nodup rfl hF hC hW h1 ho h2 (Or.inr ⟨17, hd, rfl⟩) (injG (by kernel_rfl) hu) hg ?_
 intro hW0 K hK
 have hr : (execOp a.eval o).run Tryz.prog w = .ok (.value (.pointer (some ⟨w.heap.size, 0, none⟩))) (w.alloc (.cells #[.int .i64 0, .int .i64 0] 34)) := by
  unfold execOp
  rw [hop]
  simp [go_sem]
 unfold Oper.wp
 rw [hr]
 exact hK _ _ ⟨w.heap.size, rfl, Kp.size hW0, ⟨by simp, by simp⟩, fun o => World.frozen?_alloc_at _ _ _ _ rfl, Kp.alloc hW0 _ _⟩
theorem LL36.s9 (X : LL36) (ok : LL36Ok X) {Q : PQ} : LL36.St X Q 9 := by
 intro γ listed a w o hF hC hW h1 ho h2
 obtain ⟨hd, hop, hg⟩ := fieldsL LL36.isL (i := 9) rfl ho
 have e17 : a.eval (.tmp 17) = γ 0 := known hF ho h2 (LL36.ini ok) ok.sz (by kernel_rfl)
 have e194 : a.eval (.tmp 194) = .agg #[.int .i64 X.sx, .int .i64 X.sy] := known hF ho h2 (LL36.ini ok) ok.sz (by kernel_rfl)
 have hu := unl (hF.lt ho) h1
 refine st_actG (k := 1) LL36.chain LL36.nodup rfl hF hC hW h1 ho h2 (Or.inl hd) (injG (by kernel_rfl) hu) hg ?_
 intro hW0 K hK
 obtain ⟨g, g0, hg0, ⟨z0, z1⟩, zf, k1⟩ := hW0
 rw [g0] at e17
 obtain ⟨y0, y1⟩ := rq_set2 w g (.int .i64 X.sx) (.int .i64 X.sy) z0 z1
 have hr : (execOp a.eval o).run Tryz.prog w = .ok .skip ((w.setCell ⟨g, 0, none⟩ (.int .i64 X.sx)).setCell ⟨g, 1, none⟩ (.int .i64 X.sy)) := by
  generalize a.eval = ρ at e17 e194 ⊢
  unfold execOp
  rw [hop]
  simp [e17, e194, z0, z1, zf, go_sem]
 unfold Oper.wp
 rw [hr]
 exact hK _ _ ⟨g, g0, hg0, ⟨y0, y1⟩, fun o => by rw [World.frozen?_setCell, World.frozen?_setCell]; exact zf o, (Kp.setCell (Kp.setCell k1 hg0 _) hg0 _)⟩
theorem LL36.size : (opsOf 36 Tryz.f78).size = 10 := by kernel_rfl
theorem LL36.rest (X : LL36) (ok : LL36Ok X) {Q : PQ} : ∀ i ∈ [7, 8, 9], LL36.St X Q i := by
 simp only [List.forall_mem_cons]
 exact ⟨st_callK LL36.isL (LL36.ini ok) ok.sz rfl (by kernel_rfl) (fun _ _ => by simp [go_sem]) (fun γ w n hW => ok.hS w) (fun _ _ _ _ hW hk => LL36.keep hW hk),
  LL36.s8 X ok,
  LL36.s9 X ok, List.forall_mem_nil _⟩
theorem LL36.steps (X : LL36) (ok : LL36Ok X) {Q : PQ} (i : Nat) (hi : i < (opsOf 36 Tryz.f78).size) : LL36.St X Q i := by
 rw [LL36.size] at hi
 rcases (by decide : ∀ i, i < 10 → i ∈ [0, 1, 2, 3, 4, 5, 6] ∨ i ∈ [7, 8, 9]) i hi with h | h
 · exact LL36.plain X ok i h
 · exact LL36.rest X ok i h
theorem LL36.run (X : LL36) (ok : LL36Ok X) {Q : PQ} (w : World) (h0 : X.Wd 0 (fun _ => undef) w.drew) (hend : ∀ (γ : Nat → Value) w', X.Wd 2 γ w' → Q .normal (((((((((X.a0.put (some 187) (.slice (some ⟨X.g, X.off, none⟩) X.n X.cq)).put (some 188) (.pointer (some ⟨X.g, X.off, none⟩))).put (some 189) (.agg #[.int .i64 X.ax, .int .i64 X.ay])).put (some 190) (.slice (some ⟨X.g, X.off, none⟩) X.n X.cq)).put (some 191) (.pointer (some ⟨X.g, X.off + 2, none⟩))).put (some 192) (.agg #[.int .i64 X.ex, .int .i64 X.ey])).put (some 193) (.int .i64 X.h)).put (some 194) (.agg #[.int .i64 X.sx, .int .i64 X.sy])).put (some 17) (γ 0)) w') : (Code.region 36 (opsOf 36 Tryz.f78) true).wp Tryz.prog Q X.a0 w := by
 refine reg_act (acts := LL36.acts) (av := LL36.av) (val0 := X.val0) (Wd := X.Wd) (by kernel_rfl) (by kernel_rfl) (by rw [LL36.size]; decide) (fun i hi => LL36.steps X ok i hi) _ h0 ?_
 intro γ w' h
 exact end_at (hend γ w' h) (by kernel_rfl)
structure LL40 where
 ax : Int
 ay : Int
 ex : Int
 ey : Int
 sx : Int
 sy : Int
 h : Int
 g : Nat
 off : Nat
 n : Nat
 ia : Nat
 ib : Nat
 cq : Nat
 bs : Nat
 W : World
 a0 : Act
structure LL40Ok (X : LL40) : Prop where
 a0_ : X.W.cell? ⟨X.g, X.off + X.ia * 2, none⟩ = some (.int .i64 X.ax)
 a1_ : X.W.cell? ⟨X.g, X.off + X.ia * 2 + 1, none⟩ = some (.int .i64 X.ay)
 b0_ : X.W.cell? ⟨X.g, X.off + X.ib * 2, none⟩ = some (.int .i64 X.ex)
 b1_ : X.W.cell? ⟨X.g, X.off + X.ib * 2 + 1, none⟩ = some (.int .i64 X.ey)
 d1 : IntKind.i64.wrap ((X.n : Int) - 2) = (X.ia : Int)
 d2 : IntKind.i64.wrap ((X.n : Int) - 1) = (X.ib : Int)
 k0 : X.ia < X.n
 k1 : X.ib < X.n
 hS : ∀ w, Calls Tryz.prog 96 #[.agg #[.int .i64 X.ax, .int .i64 X.ay], .agg #[.int .i64 X.ex, .int .i64 X.ey], .int .i64 X.h] w fun e w' => e = .returned (.agg #[.int .i64 X.sx, .int .i64 X.sy]) ∧ Kp w w'
 z0 : ∃ u, X.W.cell? ⟨X.bs, 0, none⟩ = some u
 z1 : ∃ u, X.W.cell? ⟨X.bs, 1, none⟩ = some u
 zf : ∀ o, X.W.frozen? ⟨X.bs, o, none⟩ = false
 e5 : X.a0.eval (.tmp 5) = .int .i64 X.h
 e6 : X.a0.eval (.tmp 6) = .slice (some ⟨X.g, X.off, none⟩) X.n X.cq
 e9 : X.a0.eval (.tmp 9) = .int .i64 (X.n : Int)
 e17 : X.a0.eval (.tmp 17) = .pointer (some ⟨X.bs, 0, none⟩)
 sz : X.a0.tmps.size = 270
def LL40.val0 (X : LL40) : Nat → Value
 | 5 => .int .i64 X.h
 | 6 => .slice (some ⟨X.g, X.off, none⟩) X.n X.cq
 | 9 => .int .i64 (X.n : Int)
 | 17 => .pointer (some ⟨X.bs, 0, none⟩)
 | 225 => .slice (some ⟨X.g, X.off, none⟩) X.n X.cq
 | 226 => .int .i64 (X.n : Int)
 | 227 => .int .i64 (X.ia : Int)
 | 228 => .pointer (some ⟨X.g, X.off + X.ia * 2, none⟩)
 | 229 => .agg #[.int .i64 X.ax, .int .i64 X.ay]
 | 230 => .slice (some ⟨X.g, X.off, none⟩) X.n X.cq
 | 231 => .int .i64 (X.n : Int)
 | 232 => .int .i64 (X.ib : Int)
 | 233 => .pointer (some ⟨X.g, X.off + X.ib * 2, none⟩)
 | 234 => .agg #[.int .i64 X.ex, .int .i64 X.ey]
 | 235 => .int .i64 X.h
 | 236 => .agg #[.int .i64 X.sx, .int .i64 X.sy]
 | _ => undef
def LL40.av : Nat → Option Nat
 | _ => none
def LL40.acts : List Nat := [12]
def LL40.Wd (X : LL40) : Nat → (Nat → Value) → World → Prop
  | 0, _, w => Kp X.W w
  | _, _, w => ∃ w1, Kp X.W w1 ∧ w = ((w1.setCell ⟨X.bs, 0, none⟩ (.int .i64 X.sx)).setCell ⟨X.bs, 1, none⟩ (.int .i64 X.sy))
theorem LL40.chain : chainG (opsOf 40 Tryz.f78) LL40.acts = true := by kernel_rfl
theorem LL40.nodup : LL40.acts.Nodup := by decide
def LL40.L : List (Option Nat × Op × Option (Nat × Bool)) := [
 (some 225, .move (.tmp 6), none),
 (some 226, .move (.tmp 9), none),
 (some 227, .binOp .sub 3 (.tmp 226) (.const (.int .i64 2)) 3, none),
 (some 228, .indexAddr 23 (.tmp 225) (.tmp 227), none),
 (some 229, .load 34 (.tmp 228), none),
 (some 230, .move (.tmp 6), none),
 (some 231, .move (.tmp 9), none),
 (some 232, .binOp .sub 3 (.tmp 231) (.const (.int .i64 1)) 3, none),
 (some 233, .indexAddr 23 (.tmp 230) (.tmp 232), none),
 (some 234, .load 34 (.tmp 233), none),
 (some 235, .move (.tmp 5), none),
 (some 236, .call { callee := .value (.func 96), args := #[(.tmp 229), (.tmp 234), (.tmp 235)], argTypes := #[34, 34, 3] }, none),
 (none, .store 34 (.tmp 17) (.tmp 236), none)]
theorem LL40.isL : (opsOf 40 Tryz.f78).toList.map tri = LL40.L := by kernel_rfl
theorem LL40.ini {X : LL40} (ok : LL40Ok X) : ∀ n ∈ [5, 6, 9, 17], X.a0.eval (.tmp n) = X.val0 n := by
 simp only [List.forall_mem_cons]
 exact ⟨ok.e5, ok.e6, ok.e9, ok.e17, List.forall_mem_nil _⟩
abbrev LL40.St (X : LL40) (Q : PQ) (i : Nat) : Prop := StepG (opsOf 40 Tryz.f78) LL40.acts LL40.av X.val0 X.Wd X.a0 Q i
theorem LL40.plain (X : LL40) (ok : LL40Ok X) {Q : PQ} : ∀ i ∈ [0, 1, 2, 3, 5, 6, 7, 8, 10], LL40.St X Q i := by
 simp only [List.forall_mem_cons]
 refine ⟨?_, ?_, ?_, ?_, ?_, ?_, ?_, ?_, ?_, List.forall_mem_nil _⟩
 all_goals
  refine st_plain LL40.isL (LL40.ini ok) ok.sz rfl (by kernel_rfl) ?_
  intro γ w n o hW hop
  unfold execOp
  rw [hop]
  simp [envR, valG, LL40.av, LL40.val0, ok.d1, ok.k0, ok.d2, ok.k1, go_sem]
theorem LL40.early (X : LL40) (ok : LL40Ok X) {Q : PQ} : ∀ i ∈ [4, 9], LL40.St X Q i := by
 simp only [List.forall_mem_cons]
 refine ⟨?_, ?_, List.forall_mem_nil _⟩
 all_goals
  refine st_plainM (m := 0) LL40.isL (LL40.ini ok) ok.sz rfl (by kernel_rfl) ?_
  intro γ w n o hn hW hop
  obtain rfl : n = 0 := by omega
  have hk : Kp X.W w := hW
  have hc_a0_ := rq_at hk ok.a0_
  have hc_a1_ := rq_at hk ok.a1_
  have hc_b0_ := rq_at hk ok.b0_
  have hc_b1_ := rq_at hk ok.b1_
  unfold execOp
  rw [hop]
  simp [envR, valG, LL40.av, LL40.val0, hc_a0_, hc_a1_, hc_b0_, hc_b1_, go_sem]
theorem LL40.s12 (X : LL40) (ok : LL40Ok X) {Q : PQ} : LL40.St X Q 12 := by
 intro γ listed a w o hF hC hW h1 ho h2
 obtain ⟨hd, hop, hg⟩ := fieldsL LL40.isL (i := 12) rfl ho
 have e17 : a.eval (.tmp 17) = .pointer (some ⟨X.bs, 0, none⟩) := known hF ho h2 (LL40.ini ok) ok.sz (by kernel_rfl)
 have e236 : a.eval (.tmp 236) = .agg #[.int .i64 X.sx, .int .i64 X.sy] := known hF ho h2 (LL40.ini ok) ok.sz (by kernel_rfl)
 have hu := unl (hF.lt ho) h1
 refine st_actG (k := 0) LL40.chain LL40.nodup rfl hF hC hW h1 ho h2 (Or.inl hd) (injG (by kernel_rfl) hu) hg ?_
 intro hW0 K hK
 obtain ⟨u0, z0⟩ := ok.z0
 replace z0 := rq_at hW0 z0
 obtain ⟨u1, z1⟩ := ok.z1
 replace z1 := rq_at hW0 z1
 have zf : ∀ o, w.frozen? ⟨X.bs, o, none⟩ = false := fun o => (hW0.cells.2 _ _).trans (ok.zf o)
 have hr : (execOp a.eval o).run Tryz.prog w = .ok .skip ((w.setCell ⟨X.bs, 0, none⟩ (.int .i64 X.sx)).setCell ⟨X.bs, 1, none⟩ (.int .i64 X.sy)) := by
  generalize a.eval = ρ at e17 e236 ⊢
  unfold execOp
  rw [hop]
  simp [e17, e236, z0, z1, zf, go_sem]
 unfold Oper.wp
 rw [hr]
 exact hK _ _ ⟨w, hW0, rfl⟩
theorem LL40.size : (opsOf 40 Tryz.f78).size = 13 := by kernel_rfl
theorem LL40.rest (X : LL40) (ok : LL40Ok X) {Q : PQ} : ∀ i ∈ [11, 12], LL40.St X Q i := by
 simp only [List.forall_mem_cons]
 exact ⟨st_callZ LL40.isL (LL40.ini ok) ok.sz rfl (by kernel_rfl) (fun _ _ => by simp [go_sem]) (fun γ w hW => ok.hS w) (fun _ _ _ hW hk => Kp.trans hW hk),
  LL40.s12 X ok, List.forall_mem_nil _⟩
theorem LL40.steps (X : LL40) (ok : LL40Ok X) {Q : PQ} (i : Nat) (hi : i < (opsOf 40 Tryz.f78).size) : LL40.St X Q i := by
 rw [LL40.size] at hi
 rcases (by decide : ∀ i, i < 13 → i ∈ [0, 1, 2, 3, 5, 6, 7, 8, 10] ∨ i ∈ [4, 9] ∨ i ∈ [11, 12]) i hi with h | h | h
 · exact LL40.plain X ok i h
 · exact LL40.early X ok i h
 · exact LL40.rest X ok i h
theorem LL40.run (X : LL40) (ok : LL40Ok X) {Q : PQ} (w : World) (h0 : X.Wd 0 (fun _ => undef) w.drew) (hend : ∀ (γ : Nat → Value) w', X.Wd 1 γ w' → Q .normal ((((((((((((X.a0.put (some 225) (.slice (some ⟨X.g, X.off, none⟩) X.n X.cq)).put (some 226) (.int .i64 (X.n : Int))).put (some 227) (.int .i64 (X.ia : Int))).put (some 228) (.pointer (some ⟨X.g, X.off + X.ia * 2, none⟩))).put (some 229) (.agg #[.int .i64 X.ax, .int .i64 X.ay])).put (some 230) (.slice (some ⟨X.g, X.off, none⟩) X.n X.cq)).put (some 231) (.int .i64 (X.n : Int))).put (some 232) (.int .i64 (X.ib : Int))).put (some 233) (.pointer (some ⟨X.g, X.off + X.ib * 2, none⟩))).put (some 234) (.agg #[.int .i64 X.ex, .int .i64 X.ey])).put (some 235) (.int .i64 X.h)).put (some 236) (.agg #[.int .i64 X.sx, .int .i64 X.sy])) w') : (Code.region 40 (opsOf 40 Tryz.f78) true).wp Tryz.prog Q X.a0 w := by
 refine reg_act (acts := LL40.acts) (av := LL40.av) (val0 := X.val0) (Wd := X.Wd) (by kernel_rfl) (by kernel_rfl) (by rw [LL40.size]; decide) (fun i hi => LL40.steps X ok i hi) _ h0 ?_
 intro γ w' h
 exact end_at (hend γ w' h) (by kernel_rfl)
structure LnB (bx : Nat) (w : World) (v : Value) (l : List Pnt) (cl : Bool) : Prop where
 c0 : w.cell? ⟨bx, 0, none⟩ = some v
 c1 : w.cell? ⟨bx, 1, none⟩ = some (.bool cl)
 free : ∀ o, w.frozen? ⟨bx, o, none⟩ = false
 own : OwnP w (bx + 1) v l
theorem LnB.lt {bx : Nat} {w : World} {v : Value} {l : List Pnt} {cl : Bool} (h : LnB bx w v l cl) : bx < w.heap.size := World.block_lt_of_cell? w ⟨bx, 0, none⟩ h.c0
theorem LnB.nw {bx : Nat} {w w' : World} {v : Value} {l : List Pnt} {cl : Bool} (h : LnB bx w v l cl) (k : Nw w w') : LnB bx w' v l cl :=
 ⟨((bcell k).1 _ _ h.lt).trans h.c0, ((bcell k).1 _ _ h.lt).trans h.c1, fun o => ((bcell k).2 _ _ h.lt).trans (h.free o), h.own.nw k⟩
theorem LnB.new (w : World) (t : TypeId) (cl : Bool) : LnB w.heap.size (w.alloc (.cells #[.slice none 0 0, .bool cl] t)) (.slice none 0 0) [] cl :=
 ⟨by simp, by simp, fun o => World.frozen?_alloc_at _ _ _ _ rfl, OwnP.nil _ _⟩
theorem LnB.ne {bx : Nat} {w : World} {v : Value} {l : List Pnt} {cl : Bool} (h : LnB bx w v l cl) : v.ownBlock ≠ some bx := fun e => by
 have := (OwnQ.lt h.own bx e).1
 omega
theorem LnB.there {bx : Nat} {w w' : World} {v v' : Value} {l : List Pnt} {cl : Bool} (h : LnB bx w v l cl) (k : Ext v v' w w') : w'.cell? ⟨bx, 0, none⟩ = some v ∧ ∀ o, w'.frozen? ⟨bx, o, none⟩ = false :=
 ⟨(Ext.cell k h.lt h.ne 0).trans h.c0, fun o => (World.frozen?_of_block (w := w) (a := ⟨bx, o, none⟩) (k.1.block bx h.lt (fun e => h.ne e.symm))).trans (h.free o)⟩
theorem LnB.put {bx : Nat} {w w' : World} {v v' : Value} {l l' : List Pnt} {cl : Bool} (h : LnB bx w v l cl) (k : Ext v v' w w') (ho : OwnP w' (bx + 1) v' l') : LnB bx (w'.setCell ⟨bx, 0, none⟩ v') v' l' cl ∧ Below bx w (w'.setCell ⟨bx, 0, none⟩ v') := by
 have hb := h.lt
 have hne2 : v'.ownBlock ≠ some bx := Ext.apart k hb h.ne
 obtain ⟨t0, tf⟩ := h.there k
 refine ⟨⟨World.cell?_setCell_same w' ⟨bx, 0, none⟩ _ t0, ?_, fun o => by rw [World.frozen?_setCell]; exact tf o, OwnQ.far ho bx 0 _ hne2⟩, ?_⟩
 ·rw [World.cell?_setCell_other _ _ _ _ (fun e => by injection e; omega)]
  exact (Ext.cell k hb h.ne 1).trans h.c1
 ·exact (k.below (fun g e => Nat.le_of_succ_le (OwnQ.lt h.own g e).1) (by omega)).setCell (Nat.le_refl _) _
theorem st_call {w : World} {ops : Array Oper} {o : Oper} {a : Act} {K : Act → World → Prop} {Q : PQ} {E : Prop} (f : FuncId) (args : Array Value) (hgd : o.guard = none) (hrun : (execOp a.eval o).run Tryz.prog w = .ok (.enter f args) w)
  (hc : Calls Tryz.prog f args w fun e w' => ∃ v, e = .returned v ∧ K (a.put o.dst v) w') : if Region.wanted o (yielded ops a.tmps) = true then Oper.wp Tryz.prog o a w K Q else E := by
 have hw : Region.wanted o (yielded ops a.tmps) = true := by simp [Region.wanted, hgd]
 rw [if_pos hw]
 unfold Oper.wp
 rw [hrun]
 refine Calls.mono hc ?_
 rintro e w' ⟨v, rfl, h⟩
 exact h
theorem st_one (w : World) {ops : Array Oper} {o : Oper} {a : Act} (s x : Operand) (ho : o.op = .call { callee := .builtin .append, args := #[s, x], argTypes := #[23, 23] })
  (bx : Nat) (v : Value) (l : List Pnt) (cl : Bool) (px py : Int) (t : TypeId) (hs : a.eval s = v) (h : LnB bx w v l cl) (hx : a.eval x = .slice (some ⟨w.heap.size, 0, none⟩) 1 1) (hl : l.length + 1 ≤ 1000000) (hgd : o.guard = none)
  {K : Act → World → Prop} {Q : PQ} {E : Prop}
  (hk : ∀ g' c' w', OwnP w' (bx + 1) (.slice (some ⟨g', 0, none⟩) (l.length + 1) c') (l ++ [(px, py)]) → Ext v (.slice (some ⟨g', 0, none⟩) (l.length + 1) c') w w' → K (a.put o.dst (.slice (some ⟨g', 0, none⟩) (l.length + 1) c')) w') :
  if Region.wanted o (yielded ops a.tmps) = true then Oper.wp Tryz.prog o a (w.alloc (.cells #[.int .i64 px, .int .i64 py] t)) K Q else E := by
 have n1 : Nw w (w.alloc (.cells #[.int .i64 px, .int .i64 py] t)) := (Below.refl _ _).alloc (Nat.le_refl _) _
 refine st_q 34 23 23 (.int .i64 0) (.int .i64 0) 16 under_pts under_pts Tryz.info34 (by decide) rfl _ s x ho (bx + 1) v (vP l) (vP [(px, py)]) hs (h.own.nw n1) w.heap.size 0 1 1 rfl hx (liep_one w px py t).vv (vP_one _) (by simp [vP]) (by rw [vP_len]; simp [vP]; omega) (by have := h.lt; simp; omega) hgd ?_
 intro g' c' w' h2 h3
 rw [vP_len] at h2 h3 ⊢
 rw [← vP_append] at h2
 exact hk g' c' w' h2 (n1.ext h3)
set_option maxRecDepth 100000 in
set_option maxHeartbeats 8000000 in
theorem sdisk (px py h : Int) (c1 : -4398046511104 ≤ px) (c2 : px ≤ 4398046511104) (d1 : -4398046511104 ≤ py) (d2 : py ≤ 4398046511104) : RingSays 101 #[.agg #[.int .i64 px, .int .i64 py], .int .i64 h] (roundsP px py h h 0 32) := by
 intro w
 obtain ⟨R, hR⟩ : ∃ R : Nat → List Pnt, roundsP px py h h 0 = R := ⟨_, rfl⟩
 have HR : Hid (roundsP px py h h 0 = R) := hR
 rw [hR]
 clear hR
 obtain ⟨W, hW⟩ : ∃ W, (w.alloc (.cells #[.int .i64 px, .int .i64 py] 34)).alloc (.cells #[.slice none 0 0, .bool false] 25) = W := ⟨_, rfl⟩
 have p0 : W.cell? ⟨w.heap.size, 0, none⟩ = some (.int .i64 px) := by rw [← hW]; simp
 have p1 : W.cell? ⟨w.heap.size, 1, none⟩ = some (.int .i64 py) := by rw [← hW]; simp
 have z0 : W.cell? ⟨w.heap.size + 1, 0, none⟩ = some (.slice none 0 0) := by rw [← hW]; simp
 have z1 : W.cell? ⟨w.heap.size + 1, 1, none⟩ = some (.bool false) := by rw [← hW]; simp
 have zf : ∀ o, W.frozen? ⟨w.heap.size + 1, o, none⟩ = false := fun o => by rw [← hW]; exact World.frozen?_alloc_at _ _ _ _ (by simp)
 have hs : W.heap.size = w.heap.size + 1 + 1 := by rw [← hW]; simp
 have KW : Hid (Kp w W) := by show Kp w W; rw [← hW]; exact ((Kp.refl w).alloc _ _).alloc _ _
 have HW : Hid (_ = W) := hW
 clear hW
 go_enter Tryz.func101, Tryz.ntmps101
 go_wp2
 go_loopw [6] (fun i wr => ∃ (k : Nat) (v : Value), k ≤ 32 ∧ i = .int .i64 (k : Int) ∧ LnB (w.heap.size + 1 + 1) wr v (R k) true ∧ Below (w.heap.size + 1 + 1) W wr) (fun i _ => 32 - (intOf i).toNat)
 case atStart =>
  have e0 : R 0 = [] := by rw [← HR.out]; rfl
  have hl := LnB.new W 25 true
  rw [hs] at hl
  rw [HW.out]
  exact ⟨0, _, by omega, rfl, by rw [e0]; exact hl, (Below.refl _ _).alloc (by rw [hs]; exact Nat.le_refl _) _⟩
 case round =>
  obtain ⟨k, v, hk, rfl, hl, hw⟩ := hrel
  have n0 : Nw W wr := Below.mono hw (by omega)
  replace p0 := nw_at n0 p0
  replace p1 := nw_at n0 p1
  replace z0 := nw_at n0 z0
  replace z1 := nw_at n0 z1
  replace zf : ∀ o, wr.frozen? ⟨w.heap.size + 1, o, none⟩ = false := fun o => ((bcell n0).2 _ _ (by omega)).trans (zf o)
  clear HW n0
  by_cases hlt : k < 32
  ·have HRd : Hid _ := fun w => sround w px py h h k (by omega) (by omega) (by omega) (by omega) (by omega)
   unfold ptV at HRd
   have HE : Hid (R (k + 1) = R k ++ [roundP px py h h k]) := by show _ = _; rw [← HR.out, roundsP_succ, Nat.zero_add]
   have HLn : Hid ((R k).length + 1 ≤ 1000000) := by show _ ≤ _; rw [← HR.out, roundsP_len]; omega
   generalize roundP px py h h k = P at *
   obtain ⟨qx, qy⟩ := P
   obtain ⟨va, vc, hv, _⟩ := hl.own.pts
   generalize (R k).length = vn at hv
   subst hv
   have HL : Hid (LnB (w.heap.size + 1 + 1) wr.drew (.slice va vn vc) (R k) true) := LnB.nw hl ((Below.refl _ _).drew)
   have HW : Hid (Below (w.heap.size + 1 + 1) W wr.drew) := hw.drew
   have q0 : wr.cell? ⟨w.heap.size + 1 + 1, 0, none⟩ = some (.slice va vn vc) := hl.c0
   have qb : w.heap.size + 1 + 1 < wr.heap.size := hl.lt
   clear hl hw z0 z1 zf KW hs
   go_wp2
   go_region_law
    (first
     | (refine st_call 111 #[.int .i64 px, .int .i64 py, .int .i64 h, .int .i64 h, .int .i64 (k : Int)] rfl (by simp [go_sem]) ?_; refine Calls.mono (HRd.out _) ?_; rintro e w' ⟨rfl, hk⟩; refine ⟨_, rfl, ?_⟩; replace HL := (show Hid (LnB (w.heap.size + 1 + 1) w' (.slice va vn vc) (R k) true) from LnB.nw HL.out hk.nw); replace HW := (show Hid (Below (w.heap.size + 1 + 1) W w') from Below.trans HW.out (Below.mono hk.1 (Nat.le_of_lt qb))); replace q0 := HL.out.c0; replace qb := HL.out.lt; clear hk)
     | (refine st_one _ (.tmp 13) (.tmp 22) rfl (w.heap.size + 1 + 1) (.slice va vn vc) (R k) true qx qy _ rfl HL.out rfl HLn.out rfl ?_; intro g' c' w9 h2 h3; obtain ⟨t0, tf⟩ := LnB.there HL.out h3; have HP : Hid _ := LnB.put HL.out h3 h2; clear h2 h3))
   all_goals
    go_wp2
    go_roundw
    case rel => exact ⟨k + 1, _, by omega, by go_num, by rw [HE.out]; exact HP.out.1, Below.trans HW.out HP.out.2⟩
    case measure => simp [intOf]; omega
  ·obtain rfl : k = 32 := by omega
   have N : Hid (Nw w wr) := Nw.trans (Kp.nw KW.out) (Below.mono hw (by omega))
   obtain ⟨va, vc, hv, _⟩ := hl.own.pts
   have q0 := hl.c0
   have q1 := hl.c1
   have HL : Hid (OwnP wr (w.heap.size + 1 + 1) v (R 32)) := OwnQ.base hl.own (Nat.le_succ _)
   generalize (R 32).length = vn at hv
   subst hv
   clear hl hw KW p0 p1
   go_wp2
   obtain ⟨y0, y1⟩ := set2 wr (w.heap.size + 1) (.slice va vn vc) (.bool true) z0 z1
   have hne : (Value.slice va vn vc).ownBlock ≠ some (w.heap.size + 1) := fun e => by have := (OwnQ.lt HL.out _ e).1; omega
   refine bodyPost_ret (v := .agg #[.slice va vn vc, .bool true]) (by simp [results, Tryz.results101, go_sem, y0, y1]) rfl ⟨_, rfl, OwnQ.base (OwnQ.far (OwnQ.far HL.out _ _ _ hne) _ _ _ hne) (by omega), ?_⟩
   exact (Below.setCell N.out (Nat.le_succ _) _).setCell (Nat.le_succ _) _
theorem boxes4 {w : World} {ax ay px py bx by' : Int} : ∃ W, (((w.alloc (.cells #[.int .i64 ax, .int .i64 ay] 34)).alloc (.cells #[.int .i64 px, .int .i64 py] 34)).alloc (.cells #[.int .i64 bx, .int .i64 by'] 34)).alloc (.cells #[.slice none 0 0, .bool false] 25) = W ∧ Kp w W ∧ W.heap.size = w.heap.size + 1 + 1 + 1 + 1 ∧ (W.cell? ⟨w.heap.size, 0, none⟩ = some (.int .i64 ax) ∧ W.cell? ⟨w.heap.size, 1, none⟩ = some (.int .i64 ay)) ∧ (W.cell? ⟨w.heap.size + 1, 0, none⟩ = some (.int .i64 px) ∧ W.cell? ⟨w.heap.size + 1, 1, none⟩ = some (.int .i64 py)) ∧ (W.cell? ⟨w.heap.size + 1 + 1, 0, none⟩ = some (.int .i64 bx) ∧ W.cell? ⟨w.heap.size + 1 + 1, 1, none⟩ = some (.int .i64 by')) ∧
  W.cell? ⟨w.heap.size + 1 + 1 + 1, 0, none⟩ = some (.slice none 0 0) ∧ W.cell? ⟨w.heap.size + 1 + 1 + 1, 1, none⟩ = some (.bool false) ∧ ∀ o, W.frozen? ⟨w.heap.size + 1 + 1 + 1, o, none⟩ = false := by
 refine ⟨_, rfl, ((((Kp.refl w).alloc _ _).alloc _ _).alloc _ _).alloc _ _, by simp, ?_, ?_, ?_, ?_, ?_, ?_⟩
 ·exact ⟨rq_at (((Kp.refl _).alloc _ _).alloc _ _) (by simp), rq_at (((Kp.refl _).alloc _ _).alloc _ _) (by simp)⟩
 ·exact ⟨rq_at (((Kp.refl _).alloc _ _).alloc _ _) (by simp), rq_at (((Kp.refl _).alloc _ _).alloc _ _) (by simp)⟩
 ·constructor
  ·refine rq_at ((Kp.refl _).alloc _ _) ?_
   rw [World.cell?_alloc_at _ _ _ _ (by simp)]; rfl
  ·refine rq_at ((Kp.refl _).alloc _ _) ?_
   rw [World.cell?_alloc_at _ _ _ _ (by simp)]; rfl
 ·rw [World.cell?_alloc_at _ _ _ _ (by simp)]; rfl
 ·rw [World.cell?_alloc_at _ _ _ _ (by simp)]; rfl
 ·intro o; exact World.frozen?_alloc_at _ _ _ _ (by simp)
theorem sjoin_round (ax ay px py bx by' h : Int) (c1 : -4398046511104 ≤ px) (c2 : px ≤ 4398046511104) (d1 : -4398046511104 ≤ py) (d2 : py ≤ 4398046511104) : RingSays 100 #[.agg #[.int .i64 ax, .int .i64 ay], .agg #[.int .i64 px, .int .i64 py], .agg #[.int .i64 bx, .int .i64 by'], .int .i64 h, .int .i64 2] (roundsP px py h h 0 32) := by
 intro w
 have HD : Hid _ := sdisk px py h c1 c2 d1 d2
 generalize roundsP px py h h 0 32 = l at *
 obtain ⟨W, hW, hK, hs, ⟨a0, a1⟩, ⟨p0, p1⟩, ⟨b0, b1⟩, z0, z1, zf⟩ := boxes4 (w := w) (ax := ax) (ay := ay) (px := px) (py := py) (bx := bx) (by' := by')
 have KW : Hid (Kp w W) := hK
 have HW : Hid (_ = W) := hW
 clear hW hK
 go_enter Tryz.func100, Tryz.ntmps100
 go_upto_region 1 with fail
 rw [HW.out]
 go_wp2_with fail
 refine Calls.mono (HD.out _) ?_
 rintro e w1 ⟨v, rfl, o1, n1⟩
 obtain ⟨va, vc, hv, _⟩ := o1.pts
 have N1 : Hid (Nw w w1) := Nw.trans KW.out.nw n1
 have O1 : Hid (OwnP w1 (w.heap.size + 1 + 1 + 1 + 1) v l) := by rw [← hs]; exact o1
 replace z0 := nw_at n1 z0
 replace z1 := nw_at n1 z1
 replace zf : ∀ o, w1.frozen? ⟨w.heap.size + 1 + 1 + 1, o, none⟩ = false := fun o => ((bcell n1).2 _ _ (by omega)).trans (zf o)
 clear o1 n1 KW HW HD hs a0 a1 p0 p1 b0 b1
 generalize l.length = vn at hv
 subst hv
 go_wp2
 obtain ⟨u0, u1⟩ := set2 w1 (w.heap.size + 1 + 1 + 1) (.slice va vn vc) (.bool true) z0 z1
 have hne : (Value.slice va vn vc).ownBlock ≠ some (w.heap.size + 1 + 1 + 1) := fun e => by have := (OwnQ.lt O1.out _ e).1; omega
 refine bodyPost_ret (v := .agg #[.slice va vn vc, .bool true]) (by simp [results, Tryz.results100, go_sem, u0, u1]) rfl ⟨_, rfl, OwnQ.base (OwnQ.far (OwnQ.far O1.out _ _ _ hne) _ _ _ hne) (by omega), ?_⟩
 exact (Below.setCell N1.out (show w.heap.size ≤ w.heap.size + 1 + 1 + 1 by omega) _).setCell (show w.heap.size ≤ w.heap.size + 1 + 1 + 1 by omega) _
set_option maxRecDepth 100000 in
set_option maxHeartbeats 8000000 in
theorem sjoin_bevel (ax ay px py bx by' h j : Int) (hj : j ≠ 2) (na : nearB (ax, ay) = true) (np : nearB (px, py) = true) (nb : nearB (bx, by') = true) (sx sy tx ty : Int) (es : sideP (ax, ay) (px, py) h = (sx, sy)) (et : sideP (px, py) (bx, by') h = (tx, ty)) (k0 : wid sx) (k1 : wid sy) (k2 : wid tx) (k3 : wid ty) :
  RingSays 100 #[.agg #[.int .i64 ax, .int .i64 ay], .agg #[.int .i64 px, .int .i64 py], .agg #[.int .i64 bx, .int .i64 by'], .int .i64 h, .int .i64 j] (bevelL ax ay px py sx sy px py bx by' tx ty) := by
 intro w
 have HS : Hid (∀ w, _) := fun w => sside w (ax, ay) (px, py) h na np
 have HT : Hid (∀ w, _) := fun w => sside w (px, py) (bx, by') h np nb
 rw [es] at HS
 rw [et] at HT
 obtain ⟨qa1, qa2⟩ := nearB_nr na
 obtain ⟨qp1, qp2⟩ := nearB_nr np
 obtain ⟨qb1, qb2⟩ := nearB_nr nb
 have wa1 : wid ax := by unfold nr at qa1; unfold wid; simp only at *; omega
 have wa2 : wid ay := by unfold nr at qa2; unfold wid; simp only at *; omega
 have wp1 : wid px := by unfold nr at qp1; unfold wid; simp only at *; omega
 have wp2 : wid py := by unfold nr at qp2; unfold wid; simp only at *; omega
 have wb1 : wid bx := by unfold nr at qb1; unfold wid; simp only at *; omega
 have wb2 : wid by' := by unfold nr at qb2; unfold wid; simp only at *; omega
 have HU : Hid (∀ w, _) := fun w => sless w px py ax ay wp1 wp2 wa1 wa2
 have HV : Hid (∀ w, _) := fun w => sless w bx by' px py wb1 wb2 wp1 wp2
 clear qa1 qa2 qp1 qp2 qb1 qb2 na np nb es et wa1 wa2 wb1 wb2
 unfold bevelL
 obtain ⟨ux, hux⟩ : ∃ u, px - ax = u := ⟨_, rfl⟩
 obtain ⟨uy, huy⟩ : ∃ u, py - ay = u := ⟨_, rfl⟩
 obtain ⟨vx, hvx⟩ : ∃ u, bx - px = u := ⟨_, rfl⟩
 obtain ⟨vy, hvy⟩ : ∃ u, by' - py = u := ⟨_, rfl⟩
 rw [hux, huy] at HU ⊢
 rw [hvx, hvy] at HV ⊢
 clear hux huy hvx hvy
 obtain ⟨W, hW, hK, hs, ⟨a0, a1⟩, ⟨p0, p1⟩, ⟨b0, b1⟩, z0, z1, zf⟩ := boxes4 (w := w) (ax := ax) (ay := ay) (px := px) (py := py) (bx := bx) (by' := by')
 have KW : Hid (Kp w W) := hK
 have HW : Hid (_ = W) := hW
 clear hW hK
 by_cases hr : crossV ux uy vx vy < 0
 ·rw [if_pos hr]
  unfold crossV at hr
  go_enter Tryz.func100, Tryz.ntmps100
  go_upto_region 1 with fail
  rw [HW.out]
  clear HW
  go_wp2_with fail
  refine Calls.mono (HS.out _) ?_
  rintro e w1 ⟨rfl, k⟩
  obtain ⟨w2, hw⟩ : ∃ x, w1.alloc (.cells #[.int .i64 sx, .int .i64 sy] 34) = x := ⟨_, rfl⟩
  have k' : Kp w1 w2 := by rw [← hw]; exact (Kp.refl _).alloc _ _
  replace k := Kp.trans k k'
  replace a0 := rq_at k a0
  replace a1 := rq_at k a1
  replace p0 := rq_at k p0
  replace p1 := rq_at k p1
  replace b0 := rq_at k b0
  replace b1 := rq_at k b1
  replace z0 := rq_at k z0
  replace z1 := rq_at k z1
  replace zf : ∀ o, w2.frozen? ⟨w.heap.size + 1 + 1 + 1, o, none⟩ = false := fun o => (k.cells.2 _ _).trans (zf o)
  have s0 : w2.cell? ⟨w1.heap.size, 0, none⟩ = some (.int .i64 sx) := by rw [← hw]; simp
  have s1 : w2.cell? ⟨w1.heap.size, 1, none⟩ = some (.int .i64 sy) := by rw [← hw]; simp
  have K1 : Hid (Kp w w2) := Kp.trans KW.out k
  have H1 : Hid (_ = w2) := hw
  clear hw k k' KW
  go_upto_region 4 with fail
  rw [H1.out]
  clear H1
  go_wp2_with fail
  refine Calls.mono (HT.out _) ?_
  rintro e w3 ⟨rfl, k⟩
  obtain ⟨w4, hw⟩ : ∃ x, w3.alloc (.cells #[.int .i64 tx, .int .i64 ty] 34) = x := ⟨_, rfl⟩
  have k' : Kp w3 w4 := by rw [← hw]; exact (Kp.refl _).alloc _ _
  replace k := Kp.trans k k'
  replace a0 := rq_at k a0
  replace a1 := rq_at k a1
  replace p0 := rq_at k p0
  replace p1 := rq_at k p1
  replace b0 := rq_at k b0
  replace b1 := rq_at k b1
  replace z0 := rq_at k z0
  replace z1 := rq_at k z1
  replace s0 := rq_at k s0
  replace s1 := rq_at k s1
  replace zf : ∀ o, w4.frozen? ⟨w.heap.size + 1 + 1 + 1, o, none⟩ = false := fun o => (k.cells.2 _ _).trans (zf o)
  have t0 : w4.cell? ⟨w3.heap.size, 0, none⟩ = some (.int .i64 tx) := by rw [← hw]; simp
  have t1 : w4.cell? ⟨w3.heap.size, 1, none⟩ = some (.int .i64 ty) := by rw [← hw]; simp
  have K2 : Hid (Kp w w4) := Kp.trans K1.out k
  have H2 : Hid (_ = w4) := hw
  clear hw k k' K1
  go_upto_region 5 with fail
  rw [H2.out]
  clear H2
  go_wp2_with fail
  refine Calls.mono (HU.out _) ?_
  rintro e w5 ⟨rfl, k⟩
  obtain ⟨w6, hw⟩ : ∃ x, w5.alloc (.cells #[.int .i64 ux, .int .i64 uy] 34) = x := ⟨_, rfl⟩
  have k' : Kp w5 w6 := by rw [← hw]; exact (Kp.refl _).alloc _ _
  replace k := Kp.trans k k'
  replace a0 := rq_at k a0
  replace a1 := rq_at k a1
  replace p0 := rq_at k p0
  replace p1 := rq_at k p1
  replace b0 := rq_at k b0
  replace b1 := rq_at k b1
  replace z0 := rq_at k z0
  replace z1 := rq_at k z1
  replace s0 := rq_at k s0
  replace s1 := rq_at k s1
  replace t0 := rq_at k t0
  replace t1 := rq_at k t1
  replace zf : ∀ o, w6.frozen? ⟨w.heap.size + 1 + 1 + 1, o, none⟩ = false := fun o => (k.cells.2 _ _).trans (zf o)
  have u0 : w6.cell? ⟨w5.heap.size, 0, none⟩ = some (.int .i64 ux) := by rw [← hw]; simp
  have u1 : w6.cell? ⟨w5.heap.size, 1, none⟩ = some (.int .i64 uy) := by rw [← hw]; simp
  have K3 : Hid (Kp w w6) := Kp.trans K2.out k
  have H3 : Hid (_ = w6) := hw
  clear hw k k' K2
  go_upto_region 6 with fail
  rw [H3.out]
  clear H3
  go_wp2_with fail
  refine Calls.mono (HV.out _) ?_
  rintro e w7 ⟨rfl, k⟩
  obtain ⟨w8, hw⟩ : ∃ x, w7.alloc (.cells #[.int .i64 vx, .int .i64 vy] 34) = x := ⟨_, rfl⟩
  have k' : Kp w7 w8 := by rw [← hw]; exact (Kp.refl _).alloc _ _
  replace k := Kp.trans k k'
  replace a0 := rq_at k a0
  replace a1 := rq_at k a1
  replace p0 := rq_at k p0
  replace p1 := rq_at k p1
  replace b0 := rq_at k b0
  replace b1 := rq_at k b1
  replace z0 := rq_at k z0
  replace z1 := rq_at k z1
  replace s0 := rq_at k s0
  replace s1 := rq_at k s1
  replace t0 := rq_at k t0
  replace t1 := rq_at k t1
  replace u0 := rq_at k u0
  replace u1 := rq_at k u1
  replace zf : ∀ o, w8.frozen? ⟨w.heap.size + 1 + 1 + 1, o, none⟩ = false := fun o => (k.cells.2 _ _).trans (zf o)
  have v0 : w8.cell? ⟨w7.heap.size, 0, none⟩ = some (.int .i64 vx) := by rw [← hw]; simp
  have v1 : w8.cell? ⟨w7.heap.size, 1, none⟩ = some (.int .i64 vy) := by rw [← hw]; simp
  have K4 : Hid (Kp w w8) := Kp.trans K3.out k
  have H4 : Hid (_ = w8) := hw
  clear hw k k' K3
  go_upto_region 7 with fail
  rw [H4.out]
  clear H4
  go_wp2_with fail
  refine reg_change (ops' := opsOf 8 Tryz.f100) (by kernel_rfl) ?_
  refine JN8.run ⟨px, py, sx, sy, tx, ty, w.heap.size + 1, w1.heap.size, w3.heap.size, w.heap.size + 1 + 1 + 1, w8.drew, _⟩ ⟨p0, p1, s0, s1, t0, t1, wp1, wp2, k0, k1, k2, k3, z0, ⟨_, z1⟩, zf, rfl, rfl, rfl, rfl, rfl⟩ w8 (Kp.refl _) ?_
  rintro γ w9 ⟨wa, wb, ka, kb, rfl⟩
  obtain ⟨y0, y1, o, k⟩ := ring_end (v := .slice (some ⟨wa.heap.size, 0, none⟩) 3 3) K4.out (show w.heap.size ≤ w.heap.size + 1 + 1 + 1 by omega) z0 ⟨_, z1⟩ ka kb (fun B hB => ownp3 wa B hB _ _ _ _ _ _)
  have O : Hid _ := o
  have K : Hid _ := k
  clear o k ka kb K4 z0 z1 zf a0 a1 p0 p1 b0 b1 s0 s1 t0 t1 u0 u1 v0 v1
  simp only [Act.put, List.setIfInBounds_toArray, List.set_cons_zero, List.set_cons_succ]
  go_wp2
  refine bodyPost_ret (v := .agg #[.slice (some ⟨wa.heap.size, 0, none⟩) 3 3, .bool true]) (by simp [results, Tryz.results100, go_sem, y0, y1]) rfl ⟨_, rfl, O.out, Kp.nw K.out⟩
 ·rw [if_neg hr]
  unfold crossV at hr
  go_enter Tryz.func100, Tryz.ntmps100
  go_upto_region 1 with fail
  rw [HW.out]
  clear HW
  go_wp2_with fail
  refine Calls.mono (HS.out _) ?_
  rintro e w1 ⟨rfl, k⟩
  obtain ⟨w2, hw⟩ : ∃ x, w1.alloc (.cells #[.int .i64 sx, .int .i64 sy] 34) = x := ⟨_, rfl⟩
  have k' : Kp w1 w2 := by rw [← hw]; exact (Kp.refl _).alloc _ _
  replace k := Kp.trans k k'
  replace a0 := rq_at k a0
  replace a1 := rq_at k a1
  replace p0 := rq_at k p0
  replace p1 := rq_at k p1
  replace b0 := rq_at k b0
  replace b1 := rq_at k b1
  replace z0 := rq_at k z0
  replace z1 := rq_at k z1
  replace zf : ∀ o, w2.frozen? ⟨w.heap.size + 1 + 1 + 1, o, none⟩ = false := fun o => (k.cells.2 _ _).trans (zf o)
  have s0 : w2.cell? ⟨w1.heap.size, 0, none⟩ = some (.int .i64 sx) := by rw [← hw]; simp
  have s1 : w2.cell? ⟨w1.heap.size, 1, none⟩ = some (.int .i64 sy) := by rw [← hw]; simp
  have K1 : Hid (Kp w w2) := Kp.trans KW.out k
  have H1 : Hid (_ = w2) := hw
  clear hw k k' KW
  go_upto_region 4 with fail
  rw [H1.out]
  clear H1
  go_wp2_with fail
  refine Calls.mono (HT.out _) ?_
  rintro e w3 ⟨rfl, k⟩
  obtain ⟨w4, hw⟩ : ∃ x, w3.alloc (.cells #[.int .i64 tx, .int .i64 ty] 34) = x := ⟨_, rfl⟩
  have k' : Kp w3 w4 := by rw [← hw]; exact (Kp.refl _).alloc _ _
  replace k := Kp.trans k k'
  replace a0 := rq_at k a0
  replace a1 := rq_at k a1
  replace p0 := rq_at k p0
  replace p1 := rq_at k p1
  replace b0 := rq_at k b0
  replace b1 := rq_at k b1
  replace z0 := rq_at k z0
  replace z1 := rq_at k z1
  replace s0 := rq_at k s0
  replace s1 := rq_at k s1
  replace zf : ∀ o, w4.frozen? ⟨w.heap.size + 1 + 1 + 1, o, none⟩ = false := fun o => (k.cells.2 _ _).trans (zf o)
  have t0 : w4.cell? ⟨w3.heap.size, 0, none⟩ = some (.int .i64 tx) := by rw [← hw]; simp
  have t1 : w4.cell? ⟨w3.heap.size, 1, none⟩ = some (.int .i64 ty) := by rw [← hw]; simp
  have K2 : Hid (Kp w w4) := Kp.trans K1.out k
  have H2 : Hid (_ = w4) := hw
  clear hw k k' K1
  go_upto_region 5 with fail
  rw [H2.out]
  clear H2
  go_wp2_with fail
  refine Calls.mono (HU.out _) ?_
  rintro e w5 ⟨rfl, k⟩
  obtain ⟨w6, hw⟩ : ∃ x, w5.alloc (.cells #[.int .i64 ux, .int .i64 uy] 34) = x := ⟨_, rfl⟩
  have k' : Kp w5 w6 := by rw [← hw]; exact (Kp.refl _).alloc _ _
  replace k := Kp.trans k k'
  replace a0 := rq_at k a0
  replace a1 := rq_at k a1
  replace p0 := rq_at k p0
  replace p1 := rq_at k p1
  replace b0 := rq_at k b0
  replace b1 := rq_at k b1
  replace z0 := rq_at k z0
  replace z1 := rq_at k z1
  replace s0 := rq_at k s0
  replace s1 := rq_at k s1
  replace t0 := rq_at k t0
  replace t1 := rq_at k t1
  replace zf : ∀ o, w6.frozen? ⟨w.heap.size + 1 + 1 + 1, o, none⟩ = false := fun o => (k.cells.2 _ _).trans (zf o)
  have u0 : w6.cell? ⟨w5.heap.size, 0, none⟩ = some (.int .i64 ux) := by rw [← hw]; simp
  have u1 : w6.cell? ⟨w5.heap.size, 1, none⟩ = some (.int .i64 uy) := by rw [← hw]; simp
  have K3 : Hid (Kp w w6) := Kp.trans K2.out k
  have H3 : Hid (_ = w6) := hw
  clear hw k k' K2
  go_upto_region 6 with fail
  rw [H3.out]
  clear H3
  go_wp2_with fail
  refine Calls.mono (HV.out _) ?_
  rintro e w7 ⟨rfl, k⟩
  obtain ⟨w8, hw⟩ : ∃ x, w7.alloc (.cells #[.int .i64 vx, .int .i64 vy] 34) = x := ⟨_, rfl⟩
  have k' : Kp w7 w8 := by rw [← hw]; exact (Kp.refl _).alloc _ _
  replace k := Kp.trans k k'
  replace a0 := rq_at k a0
  replace a1 := rq_at k a1
  replace p0 := rq_at k p0
  replace p1 := rq_at k p1
  replace b0 := rq_at k b0
  replace b1 := rq_at k b1
  replace z0 := rq_at k z0
  replace z1 := rq_at k z1
  replace s0 := rq_at k s0
  replace s1 := rq_at k s1
  replace t0 := rq_at k t0
  replace t1 := rq_at k t1
  replace u0 := rq_at k u0
  replace u1 := rq_at k u1
  replace zf : ∀ o, w8.frozen? ⟨w.heap.size + 1 + 1 + 1, o, none⟩ = false := fun o => (k.cells.2 _ _).trans (zf o)
  have v0 : w8.cell? ⟨w7.heap.size, 0, none⟩ = some (.int .i64 vx) := by rw [← hw]; simp
  have v1 : w8.cell? ⟨w7.heap.size, 1, none⟩ = some (.int .i64 vy) := by rw [← hw]; simp
  have K4 : Hid (Kp w w8) := Kp.trans K3.out k
  have H4 : Hid (_ = w8) := hw
  clear hw k k' K3
  go_upto_region 7 with fail
  rw [H4.out]
  clear H4
  go_wp2_with fail
  refine reg_change (ops' := opsOf 9 Tryz.f100) (by kernel_rfl) ?_
  refine JN9.run ⟨px, py, sx, sy, tx, ty, w.heap.size + 1, w1.heap.size, w3.heap.size, w.heap.size + 1 + 1 + 1, w8.drew, _⟩ ⟨p0, p1, s0, s1, t0, t1, wp1, wp2, k0, k1, k2, k3, z0, ⟨_, z1⟩, zf, rfl, rfl, rfl, rfl, rfl⟩ w8 (Kp.refl _) ?_
  rintro γ w9 ⟨wa, wb, ka, kb, rfl⟩
  obtain ⟨y0, y1, o, k⟩ := ring_end (v := .slice (some ⟨wa.heap.size, 0, none⟩) 3 3) K4.out (show w.heap.size ≤ w.heap.size + 1 + 1 + 1 by omega) z0 ⟨_, z1⟩ ka kb (fun B hB => ownp3 wa B hB _ _ _ _ _ _)
  have O : Hid _ := o
  have K : Hid _ := k
  clear o k ka kb K4 z0 z1 zf a0 a1 p0 p1 b0 b1 s0 s1 t0 t1 u0 u1 v0 v1
  simp only [Act.put, List.setIfInBounds_toArray, List.set_cons_zero, List.set_cons_succ]
  go_wp2
  refine bodyPost_ret (v := .agg #[.slice (some ⟨wa.heap.size, 0, none⟩) 3 3, .bool true]) (by simp [results, Tryz.results100, go_sem, y0, y1]) rfl ⟨_, rfl, O.out, Kp.nw K.out⟩
def ShortOr (L R : List Pnt) : Prop := (L = R ∧ 2 ≤ R.length) ∨ (L.length < 2 ∧ R.length < 2)
theorem ShortOr.of {L R : List Pnt} (h : L = R) : ShortOr L R := by
 by_cases h2 : 2 ≤ R.length
 ·exact Or.inl ⟨h, h2⟩
 ·exact Or.inr ⟨by rw [h]; omega, by omega⟩
theorem trim_exit {cl : Bool} {Q : List Pnt} {s t : Nat} (hs : Q.length = s + 1) (hc : t = s + 1 ∨ (t = s ∧ cl = true ∧ ptAt Q s = ptAt Q 0 ∧ 0 < s)) (hx : cl = false ∨ t ≤ 1 ∨ ptAt Q (t - 1) ≠ ptAt Q 0) : ShortOr (Q.take t) (trimQ cl Q) := by
 unfold trimQ
 rw [hs, Nat.add_sub_cancel]
 rcases hc with rfl | ⟨rfl, h1, h2, h3⟩
 ·have e : Q.take (s + 1) = Q := by rw [← hs, List.take_length]
  rw [e]
  by_cases hh : cl = true ∧ ptAt Q s = ptAt Q 0
  ·rw [if_pos hh]
   rcases hx with h | h | h
   ·rw [hh.1] at h; cases h
   ·exact Or.inr ⟨by omega, by simp; omega⟩
   ·rw [Nat.add_sub_cancel] at h; exact absurd hh.2 h
  ·rw [if_neg hh]; exact ShortOr.of rfl
 ·rw [if_pos ⟨h1, h2⟩]; exact ShortOr.of rfl
def lenV : Value → Nat
 | .slice _ n _ => n
 | _ => 0
theorem cornS_len (j h : Int) (q : List Pnt) (cl : Bool) : ∀ k, (cornS j h q cl k).length ≤ k
 | 0 => Nat.le_refl _
 | k + 1 => by
  have := cornS_len j h q cl k
  rw [cornS, List.length_append]
  split <;> simp <;> omega
theorem sjoin (j h : Int) (a p b : Pnt) (na : nearB a = true) (np : nearB p = true) (nb : nearB b = true) (h0 : 0 ≤ h) (h1 : h ≤ 4194304) : RingSays 100 #[.agg #[.int .i64 a.1, .int .i64 a.2], .agg #[.int .i64 p.1, .int .i64 p.2], .agg #[.int .i64 b.1, .int .i64 b.2], .int .i64 h, .int .i64 j] (joinS j h a p b) := by
 obtain ⟨n1, n2⟩ := nearB_nr np
 unfold nr at n1 n2
 unfold joinS
 by_cases hj : j = 2
 ·rw [if_pos hj, hj]
  exact sjoin_round _ _ _ _ _ _ h (by omega) (by omega) (by omega) (by omega)
 ·rw [if_neg hj]
  exact sjoin_bevel _ _ _ _ _ _ h j hj na np nb _ _ _ _ rfl rfl (side_wid _ _ _).1 (side_wid _ _ _).2 (side_wid _ _ _).1 (side_wid _ _ _).2
theorem sq_one (ax ay sx sy : Int) : [(ax + sx, ay + sy), (ax + sx - sy, ay + sy - -sx), (ax - sx - sy, ay - sy - -sx), (ax - sx, ay - sy)] = squareL ax ay sx sy (-sy) sx := by
 unfold squareL
 simp only [Int.sub_eq_add_neg, Int.neg_neg]
theorem capsS_says {pc h : Int} {q : List Pnt} : capsS pc h q = (if pc = 2 then [⟨roundsP (ptAt q 0).1 (ptAt q 0).2 h h 0 32, true⟩, ⟨roundsP (lastP q).1 (lastP q).2 h h 0 32, true⟩]
 else if pc = 3 then [⟨squareL (ptAt q 0).1 (ptAt q 0).2 (sideP (ptAt q 0) (ptAt q 1) h).1 (sideP (ptAt q 0) (ptAt q 1) h).2 (-(sideP (ptAt q 0) (ptAt q 1) h).2) (sideP (ptAt q 0) (ptAt q 1) h).1, true⟩,
  ⟨squareL (lastP q).1 (lastP q).2 (sideP (ptAt q (q.length - 2)) (lastP q) h).1 (sideP (ptAt q (q.length - 2)) (lastP q) h).2 (sideP (ptAt q (q.length - 2)) (lastP q) h).2 (-(sideP (ptAt q (q.length - 2)) (lastP q) h).1), true⟩] else []) := rfl
set_option maxRecDepth 100000 in
set_option maxHeartbeats 16000000 in
theorem sline (w : World) (a : Option Addr) (c : Nat) (l : LD) (p : PD) (dv : Value) (hdv : ∃ x y z, dv = .slice x y z) (hp : 0 < l.pts.length) (hp2 : l.pts.length ≤ 600) (hn : ∀ x, x ∈ l.pts → nearB x = true) (hw0 : 0 ≤ p.w) (hw1 : p.w ≤ 4194304) (hr : Pts w a l.pts) :
  Calls Tryz.prog 78 #[.agg #[.slice a l.pts.length c, .bool l.closed], penV p dv] w fun e w' => ∃ v, e = .returned v ∧ LsOk w' w.heap.size v (strkL l (p.w / 2) p.j p.c) ∧ Nw w w' := by
 obtain ⟨pts, cl⟩ := l
 simp only at hp hp2 hn hr ⊢
 obtain ⟨dx, dy, dz, rfl⟩ := hdv
 obtain ⟨pw, pj, pc, pf⟩ := p
 simp only [penV] at hw0 hw1 ⊢
 obtain ⟨b, off, rfl, hlie⟩ := Pts.lie hr hp
 clear hr
 have HR : Hid (LieP w b off pts) := hlie
 clear hlie
 obtain ⟨h, hh⟩ : ∃ h, pw / 2 = h := ⟨_, rfl⟩
 have hh0 : 0 ≤ h := by rw [← hh]; omega
 have hh1 : h ≤ 4194304 := by rw [← hh]; omega
 have HQ : Hid (2 ≤ (ddP pts cl).length → GQ (ddP pts cl) cl h) := fun h2 => GQ.of (l := ⟨pts, cl⟩) h2 hp2 hn hh0 hh1
 have hst : strkL ⟨pts, cl⟩ h pj pc = if (ddP pts cl).length < 2 then [] else strkQ (ddP pts cl) cl h pj pc := rfl
 have hh2 : pw.tdiv 2 = h := by rw [Int.tdiv_eq_ediv_of_nonneg hw0]; exact hh
 rw [hh, hst]
 clear hst hn
 have HY : Hid (∀ k, (k = 0 ∨ ptAt pts k ≠ ptAt pts (k - 1)) → ddK pts (k + 1) = ddK pts k ++ [ptAt pts k]) := fun k h => by rw [ddK, if_pos h]
 have HX : Hid (∀ k, ¬ (k = 0 ∨ ptAt pts k ≠ ptAt pts (k - 1)) → ddK pts (k + 1) = ddK pts k) := fun k h => by rw [ddK, if_neg h]
 have HL : Hid (∀ k, (ddK pts k).length ≤ k) := ddK_len pts
 have HP : Hid (∀ k, 0 < k → 0 < (ddK pts k).length) := ddK_pos pts
 have HLA : Hid (∀ k, 0 < k → ptAt (ddK pts k) ((ddK pts k).length - 1) = ptAt pts (k - 1)) := ddK_last pts
 have HU : Hid (unlQ (ddK pts pts.length)) := ddK_unl pts pts.length
 have H0 : Hid (ddK pts 0 = []) := rfl
 have HT : Hid (ddP pts cl = trimQ cl (ddK pts pts.length)) := rfl
 obtain ⟨D, hD⟩ : ∃ D, ddK pts = D := ⟨_, rfl⟩
 rw [hD] at HY HX HL H0 HT HP HLA HU
 clear hD
 generalize ddP pts cl = R at *
 obtain ⟨RES, hRES⟩ : ∃ X, (if R.length < 2 then [] else strkQ R cl h pj pc) = X := ⟨_, rfl⟩
 rw [hRES]
 have HRES : Hid ((if R.length < 2 then [] else strkQ R cl h pj pc) = RES) := hRES
 clear hRES
 obtain ⟨n, hn⟩ : ∃ n, pts.length = n := ⟨_, rfl⟩
 have HN : Hid (pts.length = n) := hn
 rw [hn] at HT HU hp hp2 ⊢
 clear hn
 obtain ⟨W, hW⟩ : ∃ W, (w.alloc (.cells #[.slice (some ⟨b, off, none⟩) n c, .bool cl] 25)).alloc (.cells #[.int .i64 pw, .int .i64 pj, .int .i64 pc, .slice dx dy dz, .int .i64 pf] 36) = W := ⟨_, rfl⟩
 obtain ⟨bl, hbl⟩ : ∃ bl, w.heap.size = bl := ⟨_, rfl⟩
 have z0 : W.cell? ⟨bl, 0, none⟩ = some (.slice (some ⟨b, off, none⟩) n c) := by rw [← hW, ← hbl]; simp
 have z1 : W.cell? ⟨bl, 1, none⟩ = some (.bool cl) := by rw [← hW, ← hbl]; simp
 have y0 : W.cell? ⟨bl + 1, 0, none⟩ = some (.int .i64 pw) := by rw [← hW, ← hbl]; simp
 have y1 : W.cell? ⟨bl + 1, 1, none⟩ = some (.int .i64 pj) := by rw [← hW, ← hbl]; simp
 have y2 : W.cell? ⟨bl + 1, 2, none⟩ = some (.int .i64 pc) := by rw [← hW, ← hbl]; simp
 have NW : Hid (Nw w W) := by show Nw _ _; rw [← hW]; exact Nw.trans ((Below.refl _ _).alloc (Nat.le_refl _) _) ((Below.refl _ _).alloc (Nat.le_refl _) _)
 have HBL : Hid (w.heap.size = bl) := hbl
 have HW : Hid (_ = W) := hW
 have HC : Hid (∀ w', Nw W w' → w'.cell? ⟨bl, 1, none⟩ = some (.bool cl) ∧ w'.cell? ⟨bl + 1, 1, none⟩ = some (.int .i64 pj) ∧ w'.cell? ⟨bl + 1, 2, none⟩ = some (.int .i64 pc)) := fun w' k => ⟨nw_at k z1, nw_at k y1, nw_at k y2⟩
 clear hW
 go_enter Tryz.func78, Tryz.ntmps78
 go_upto_block 0 with fail
 rw [HW.out]
 clear z0 z1 y0 y1 y2
 go_cut [6] (fun v wx => OwnP wx W.heap.size v (D n) ∧ Nw W wx)
 case first =>
  go_wp2
  go_loopw [27, 6] (fun i v wr => ∃ k : Nat, k ≤ n ∧ i = .int .i64 (k : Int) ∧ OwnP wr W.heap.size v (D k) ∧ Nw W wr) (fun i _ _ => n - (intOf i).toNat)
  case atStart => exact ⟨0, Nat.zero_le _, rfl, by rw [H0.out]; exact OwnP.nil _ _, Below.refl _ _⟩
  case round =>
   obtain ⟨k, hk, rfl, ho, hw⟩ := hrel
   have HO : Hid (OwnP wr W.heap.size _ (D k)) := ho
   have HWr : Hid (Nw W wr) := hw
   by_cases hlt : k < n
   ·have d1 : decide ((k : Int) < (n : Int)) = true := by simp; omega
    have hlie := LieP.nw HR.out (Nw.trans NW.out hw)
    obtain ⟨r0, r1⟩ := hlie.2 k (by rw [HN.out]; exact hlt)
    obtain ⟨A, hA⟩ : ∃ q, ptAt pts k = q := ⟨_, rfl⟩
    have HYk := HY.out k
    have HXk := HX.out k
    rw [hA] at r0 r1 HYk HXk
    obtain ⟨ax, ay⟩ := A
    simp only at r0 r1
    by_cases hk0 : k = 0
    ·have HE : Hid (D (k + 1) = D k ++ [(ax, ay)]) := HYk (Or.inl hk0)
     have hz : (D k).length = 0 := by rw [hk0, H0.out]; rfl
     obtain ⟨va, vc, hv, _⟩ := ho.pts
     rw [hz] at hv
     subst hv
     clear HYk HXk hlie hA ho hw hk0 hz
     go_wp2
     go_quiet (fail)
     have n1 : Nw wr ((wr.alloc (.cells #[.int .i64 ax, .int .i64 ay] 34)).drewN nq) := below_drewN ((Below.refl _ _).alloc (Nat.le_refl _) _) _
     have q0 : ((wr.alloc (.cells #[.int .i64 ax, .int .i64 ay] 34)).drewN nq).cell? ⟨wr.heap.size, 0, none⟩ = some (.int .i64 ax) := by simp
     have q1 : ((wr.alloc (.cells #[.int .i64 ax, .int .i64 ay] 34)).drewN nq).cell? ⟨wr.heap.size, 1, none⟩ = some (.int .i64 ay) := by simp
     generalize (wr.alloc (.cells #[.int .i64 ax, .int .i64 ay] 34)).drewN nq = w1 at *
     have O1 : Hid (OwnP w1 W.heap.size (.slice va 0 vc) (D k)) := OwnP.nw HO.out n1
     have N1 : Hid (Nw W w1) := Nw.trans HWr.out n1
     have HLk : Hid ((D k).length ≤ 600) := by show _ ≤ _; have := HL.out k; omega
     clear n1 r0 r1
     go_wp2_with (at_builtin; (refine wpl_q 34 23 23 (.int .i64 0) (.int .i64 0) 16 under_pts under_pts Tryz.info34 (by decide) rfl _ (.tmp 44) (.tmp 46) rfl W.heap.size (.slice va 0 vc) (vP (D k)) (vP [(ax, ay)]) rfl ?own w1.heap.size 0 1 1 rfl rfl ?hc (vP_one _) (by simp [vP]) ?hl ?hB rfl ?_))
     case own => exact OwnP.nw O1.out (Kp.nw ((Kp.refl w1).alloc _ _))
     case hc => exact (liep_one w1 ax ay 34).vv
     case hl => rw [vP_len, vP_len]; have := HLk.out; simp; omega
     case hB => have b1 := Below.size N1.out; simp; omega
     intro g' c' w9 h2 h3
     rw [← vP_append, ← HE.out] at h2
     have H2 : Hid (OwnP w9 W.heap.size _ (D (k + 1))) := h2
     have N9 : Hid (Nw W w9) := Below.trans (Nw.trans N1.out (Kp.nw ((Kp.refl w1).alloc _ _))) (Ext.below h3 (fun g hg => (OwnQ.lt HO.out g hg).1) (by have b1 := Below.size N1.out; simp; omega))
     clear h2 h3 q0 q1
     go_wp2
     go_roundw
     case rel => exact ⟨k + 1, by omega, by go_num, H2.out, N9.out⟩
     case measure => simp [intOf]; omega
    ·obtain ⟨m, hm⟩ : ∃ m, k - 1 = m := ⟨_, rfl⟩
     have hpos := HP.out k (by omega)
     have hla := HLA.out k (by omega)
     have hQl : (D k).length ≤ k := HL.out k
     obtain ⟨s, hs⟩ : ∃ s, (D k).length = s + 1 := ⟨(D k).length - 1, by omega⟩
     rcases OwnQ.form ho with ⟨_, e0⟩ | ⟨g, c2, e0, hg1, hg2, hlc, hlm, hcs, hfz⟩
     ·have := congrArg List.length e0
      rw [vP_len, hs] at this
      simp at this
     rw [vP_len, hs] at e0 hlc hcs
     have hct := hcs s (by omega)
     rw [vP_at _ s (by omega)] at hct
     rw [hs, Nat.add_sub_cancel, hm] at hla
     rw [hla] at hct
     obtain ⟨Pm, hPm⟩ : ∃ q, ptAt pts m = q := ⟨_, rfl⟩
     rw [hm] at HYk HXk
     rw [hPm] at hct HYk HXk
     obtain ⟨px, py⟩ := Pm
     obtain ⟨s0, s1⟩ := hct
     simp only at s0 s1
     have hwr : IntKind.i64.wrap (s : Int) = (s : Int) := IntWalk.i64_in _ ⟨by omega, by omega⟩
     have d0 : (((s : Int) + 1) == 0) = false := by simp; omega
     rw [hs] at hQl
     subst e0
     clear hlie hPm hA hm hcs hfz hla hpos ho hw
     by_cases ex : px = ax
     ·by_cases ey : py = ay
      ·have HE : Hid (D (k + 1) = D k) := HXk (fun h => h.elim (fun e => hk0 e) (fun e => e (by rw [ex, ey])))
       have e1 : (px == ax) = true := by simp [ex]
       have e2 : (py == ay) = true := by simp [ey]
       clear HYk HXk ex ey hk0
       go_wp2
       go_quiet (fail)
       have n1 : Nw wr ((wr.alloc (.cells #[.int .i64 ax, .int .i64 ay] 34)).drewN nq) := below_drewN ((Below.refl _ _).alloc (Nat.le_refl _) _) _
       generalize (wr.alloc (.cells #[.int .i64 ax, .int .i64 ay] 34)).drewN nq = w1 at *
       have O1 : Hid (OwnP w1 W.heap.size (.slice (some ⟨g, 0, none⟩) (s + 1) c2) (D (k + 1))) := by show OwnP _ _ _ _; rw [HE.out]; exact OwnP.nw HO.out n1
       have N1 : Hid (Nw W w1) := Nw.trans HWr.out n1
       clear n1 r0 r1 s0 s1
       go_wp2
       go_roundw
       case rel => exact ⟨k + 1, by omega, by go_num, O1.out, N1.out⟩
       case measure => simp [intOf]; omega
      ·have HE : Hid (D (k + 1) = D k ++ [(ax, ay)]) := HYk (Or.inr (fun e => ey (by injection e with e1 e2; exact e2.symm)))
       have e1 : (px == ax) = true := by simp [ex]
       have e2 : (py == ay) = false := by simp [ey]
       clear HYk HXk ex ey hk0
       go_wp2
       go_quiet (fail)
       have n1 : Nw wr ((wr.alloc (.cells #[.int .i64 ax, .int .i64 ay] 34)).drewN nq) := below_drewN ((Below.refl _ _).alloc (Nat.le_refl _) _) _
       have q0 : ((wr.alloc (.cells #[.int .i64 ax, .int .i64 ay] 34)).drewN nq).cell? ⟨wr.heap.size, 0, none⟩ = some (.int .i64 ax) := by simp
       have q1 : ((wr.alloc (.cells #[.int .i64 ax, .int .i64 ay] 34)).drewN nq).cell? ⟨wr.heap.size, 1, none⟩ = some (.int .i64 ay) := by simp
       generalize (wr.alloc (.cells #[.int .i64 ax, .int .i64 ay] 34)).drewN nq = w1 at *
       have O1 : Hid (OwnP w1 W.heap.size (.slice (some ⟨g, 0, none⟩) (s + 1) c2) (D k)) := OwnP.nw HO.out n1
       have N1 : Hid (Nw W w1) := Nw.trans HWr.out n1
       have HLk : Hid ((D k).length ≤ 600) := by show _ ≤ _; have := HL.out k; omega
       clear n1 r0 r1 s0 s1
       go_wp2_with (at_builtin; (refine wpl_q 34 23 23 (.int .i64 0) (.int .i64 0) 16 under_pts under_pts Tryz.info34 (by decide) rfl _ (.tmp 44) (.tmp 46) rfl W.heap.size (.slice (some ⟨g, 0, none⟩) (s + 1) c2) (vP (D k)) (vP [(ax, ay)]) rfl ?own w1.heap.size 0 1 1 rfl rfl ?hc (vP_one _) (by simp [vP]) ?hl ?hB rfl ?_))
       case own => exact OwnP.nw O1.out (Kp.nw ((Kp.refl w1).alloc _ _))
       case hc => exact (liep_one w1 ax ay 34).vv
       case hl => rw [vP_len, vP_len]; have := HLk.out; simp; omega
       case hB => have b1 := Below.size N1.out; simp; omega
       intro g' c' w9 h2 h3
       rw [← vP_append, ← HE.out] at h2
       have H2 : Hid (OwnP w9 W.heap.size _ (D (k + 1))) := h2
       have N9 : Hid (Nw W w9) := Below.trans (Nw.trans N1.out (Kp.nw ((Kp.refl w1).alloc _ _))) (Ext.below h3 (fun g hg => (OwnQ.lt HO.out g hg).1) (by have b1 := Below.size N1.out; simp; omega))
       clear h2 h3 q0 q1
       go_wp2
       go_roundw
       case rel => exact ⟨k + 1, by omega, by go_num, H2.out, N9.out⟩
       case measure => simp [intOf]; omega
     ·have HE : Hid (D (k + 1) = D k ++ [(ax, ay)]) := HYk (Or.inr (fun e => ex (by injection e with e1 e2; exact e1.symm)))
      have e1 : (px == ax) = false := by simp [ex]
      clear HYk HXk ex hk0
      go_wp2
      go_quiet (fail)
      have n1 : Nw wr ((wr.alloc (.cells #[.int .i64 ax, .int .i64 ay] 34)).drewN nq) := below_drewN ((Below.refl _ _).alloc (Nat.le_refl _) _) _
      have q0 : ((wr.alloc (.cells #[.int .i64 ax, .int .i64 ay] 34)).drewN nq).cell? ⟨wr.heap.size, 0, none⟩ = some (.int .i64 ax) := by simp
      have q1 : ((wr.alloc (.cells #[.int .i64 ax, .int .i64 ay] 34)).drewN nq).cell? ⟨wr.heap.size, 1, none⟩ = some (.int .i64 ay) := by simp
      generalize (wr.alloc (.cells #[.int .i64 ax, .int .i64 ay] 34)).drewN nq = w1 at *
      have O1 : Hid (OwnP w1 W.heap.size (.slice (some ⟨g, 0, none⟩) (s + 1) c2) (D k)) := OwnP.nw HO.out n1
      have N1 : Hid (Nw W w1) := Nw.trans HWr.out n1
      have HLk : Hid ((D k).length ≤ 600) := by show _ ≤ _; have := HL.out k; omega
      clear n1 r0 r1 s0 s1
      go_wp2_with (at_builtin; (refine wpl_q 34 23 23 (.int .i64 0) (.int .i64 0) 16 under_pts under_pts Tryz.info34 (by decide) rfl _ (.tmp 44) (.tmp 46) rfl W.heap.size (.slice (some ⟨g, 0, none⟩) (s + 1) c2) (vP (D k)) (vP [(ax, ay)]) rfl ?own w1.heap.size 0 1 1 rfl rfl ?hc (vP_one _) (by simp [vP]) ?hl ?hB rfl ?_))
      case own => exact OwnP.nw O1.out (Kp.nw ((Kp.refl w1).alloc _ _))
      case hc => exact (liep_one w1 ax ay 34).vv
      case hl => rw [vP_len, vP_len]; have := HLk.out; simp; omega
      case hB => have b1 := Below.size N1.out; simp; omega
      intro g' c' w9 h2 h3
      rw [← vP_append, ← HE.out] at h2
      have H2 : Hid (OwnP w9 W.heap.size _ (D (k + 1))) := h2
      have N9 : Hid (Nw W w9) := Below.trans (Nw.trans N1.out (Kp.nw ((Kp.refl w1).alloc _ _))) (Ext.below h3 (fun g hg => (OwnQ.lt HO.out g hg).1) (by have b1 := Below.size N1.out; simp; omega))
      clear h2 h3 q0 q1
      go_wp2
      go_roundw
      case rel => exact ⟨k + 1, by omega, by go_num, H2.out, N9.out⟩
      case measure => simp [intOf]; omega
   ·obtain rfl : k = n := by omega
    have d1 : decide ((k : Int) < (k : Int)) = false := by simp
    clear ho hw
    go_wp2
    go_meet
    exact ⟨HO.out, HWr.out⟩
 case rest =>
  obtain ⟨ho, hw⟩ := hcut
  obtain ⟨w1, hw1⟩ : ∃ x, x = wc := ⟨_, rfl⟩
  subst hw1
  have N1 : Hid (Nw W w1) := hw
  have hQl : (D n).length ≤ n := HL.out n
  have hpos := HP.out n hp
  rcases OwnQ.form ho with ⟨_, e0⟩ | ⟨g, c2, e0, hg1, hg2, hlc, hlm, hcs, hfz⟩
  ·have := congrArg List.length e0
   rw [vP_len] at this
   simp at this
   rw [this] at hpos
   simp at hpos
  rw [vP_len] at e0 hlc hcs
  have HPT0 : Hid (∀ i, i < (D n).length → w1.cell? ⟨g, i * 2, none⟩ = some (.int .i64 (ptAt (D n) i).1) ∧ w1.cell? ⟨g, i * 2 + 1, none⟩ = some (.int .i64 (ptAt (D n) i).2)) := fun i hi => by
   have := hcs i hi
   rw [vP_at _ i hi] at this
   exact this
  clear hcs hfz ho hw HY HX HL H0 HP HLA
  generalize D n = Q at *
  obtain ⟨s, hs⟩ : ∃ s, Q.length = s + 1 := ⟨Q.length - 1, by omega⟩
  have HS : Hid (Q.length = s + 1) := hs
  rw [hs] at e0 hlc HPT0 hQl
  subst e0
  go_upto_block 2 with fail
  go_cut [6] (fun v wx => ∃ (L : List Pnt) (g' c' : Nat), v = .slice (some ⟨g', 0, none⟩) L.length c' ∧ Pts wx (some ⟨g', 0, none⟩) L ∧ ShortOr L R ∧ Nw W wx)
  case first =>
   go_wp2
   go_loopw [6] (fun v wr => ∃ t : Nat, v = .slice (some ⟨g, 0, none⟩) t c2 ∧ (t = s + 1 ∨ (t = s ∧ cl = true ∧ ptAt Q s = ptAt Q 0 ∧ 0 < s)) ∧ Nw w1 wr) (fun v _ => lenV v)
   case atStart => exact ⟨s + 1, rfl, Or.inl rfl, Below.refl _ _⟩
   case round =>
    obtain ⟨t, rfl, hca, hnw⟩ := hrel
    have hts : t ≤ s + 1 := by rcases hca with h | ⟨h, _⟩ <;> omega
    have ht0 : 0 < t := by rcases hca with h | ⟨h, _, _, h2⟩ <;> omega
    have HCA : Hid _ := hca
    have NWr : Hid (Nw W wr) := Nw.trans N1.out hnw
    have HTL : Hid ((Q.take t).length = t) := by show _ = _; rw [List.length_take, HS.out]; omega
    have HPT : Hid (Pts wr (some ⟨g, 0, none⟩) (Q.take t)) := by
     refine Pts.nw ?_ hnw
     refine Or.inr ⟨g, 0, rfl, hg2, fun i hi => ?_⟩
     rw [HTL.out] at hi
     rw [Nat.zero_add, ptAt_take _ _ _ hi]
     exact HPT0.out i (by omega)
    obtain ⟨x1, _, _⟩ := HC.out wr NWr.out
    obtain ⟨m, hm⟩ : ∃ m, t = m + 1 := ⟨t - 1, by omega⟩
    obtain ⟨t0, t1⟩ := HPT0.out m (by omega)
    obtain ⟨f0, f1⟩ := HPT0.out 0 (by omega)
    replace t0 := nw_at hnw t0
    replace t1 := nw_at hnw t1
    replace f0 := nw_at hnw f0
    replace f1 := nw_at hnw f1
    rw [Nat.zero_mul] at f0 f1
    have HNWr : Hid (Nw w1 wr) := hnw
    clear hca hnw
    have hwt : IntKind.i64.wrap ((t : Int) - 1) = (m : Int) := by rw [show (t : Int) - 1 = (m : Int) by omega]; exact IntWalk.i64_in _ ⟨by omega, by omega⟩
    have hwt2 : (t : Int) - 1 = (m : Int) := by omega
    have hmt : m < t := by omega
    have HM : Hid (t = m + 1) := hm
    clear hm
    cases cl with
    | false =>
     have HSO : Hid (ShortOr (Q.take t) R) := by show ShortOr _ _; rw [HT.out]; exact trim_exit HS.out HCA.out (Or.inl rfl)
     clear t0 t1 f0 f1
     go_wp2
     go_quiet (fail)
     go_wp2
     go_meet
     exact ⟨Q.take t, g, c2, by rw [HTL.out], Pts.nw HPT.out (below_drewN (Below.refl _ _) _), HSO.out, Nw.trans NWr.out (below_drewN (Below.refl _ _) _)⟩
    | true =>
     by_cases h1 : 1 < t
     ·have d1 : decide ((1 : Int) < (t : Int)) = true := by simp; omega
      obtain ⟨A, hA⟩ : ∃ A, ptAt Q 0 = A := ⟨_, rfl⟩
      obtain ⟨B, hB⟩ : ∃ B, ptAt Q m = B := ⟨_, rfl⟩
      rw [hA] at f0 f1
      rw [hB] at t0 t1
      have HNE : Hid (B ≠ A → ptAt Q (t - 1) ≠ ptAt Q 0) := fun h => by rw [HM.out, Nat.add_sub_cancel, hA, hB]; exact h
      have HEQ : Hid (B = A → ptAt Q m = ptAt Q 0) := fun h => by rw [hA, hB]; exact h
      clear hA hB
      obtain ⟨ax, ay⟩ := A
      obtain ⟨bx, by'⟩ := B
      simp only at f0 f1 t0 t1
      by_cases ex : bx = ax
      ·by_cases ey : by' = ay
       ·have heq := HEQ.out (by rw [ex, ey])
        rcases HCA.out with h | ⟨h, _, h2, h3⟩
        ·have e1 : (bx == ax) = true := by simp [ex]
         have e2 : (by' == ay) = true := by simp [ey]
         have hms : m = s := by have := HM.out; omega
         have HNX : Hid (m = s ∧ true = true ∧ ptAt Q s = ptAt Q 0 ∧ 0 < s) := ⟨hms, rfl, by rw [← hms]; exact heq, by omega⟩
         have hmc : m ≤ c2 := by omega
         clear ex ey heq h hms
         go_wp2
         go_quiet (fail)
         go_wp2
         go_roundw
         case rel => exact ⟨m, rfl, Or.inr HNX.out, Nw.trans HNWr.out (below_drewN (Below.refl _ _) _)⟩
         case measure => simp [lenV]; omega
        ·exfalso
         have hm2 : m + 1 = s := by have := HM.out; omega
         have := HU.out m (by rw [HS.out]; omega)
         rw [hm2, h2] at this
         exact this heq
       ·have HSO : Hid (ShortOr (Q.take t) R) := by show ShortOr _ _; rw [HT.out]; exact trim_exit HS.out HCA.out (Or.inr (Or.inr (HNE.out (fun e => ey (by injection e)))))
        have e1 : (bx == ax) = true := by simp [ex]
        have e2 : (by' == ay) = false := by simp [ey]
        clear ex ey
        go_wp2
        go_quiet (fail)
        go_wp2
        go_meet
        exact ⟨Q.take t, g, c2, by rw [HTL.out], Pts.nw HPT.out (below_drewN (Below.refl _ _) _), HSO.out, Nw.trans NWr.out (below_drewN (Below.refl _ _) _)⟩
      ·have HSO : Hid (ShortOr (Q.take t) R) := by show ShortOr _ _; rw [HT.out]; exact trim_exit HS.out HCA.out (Or.inr (Or.inr (HNE.out (fun e => ex (by injection e)))))
       have e1 : (bx == ax) = false := by simp [ex]
       clear ex
       go_wp2
       go_quiet (fail)
       go_wp2
       go_meet
       exact ⟨Q.take t, g, c2, by rw [HTL.out], Pts.nw HPT.out (below_drewN (Below.refl _ _) _), HSO.out, Nw.trans NWr.out (below_drewN (Below.refl _ _) _)⟩
     ·have HSO : Hid (ShortOr (Q.take t) R) := by show ShortOr _ _; rw [HT.out]; exact trim_exit HS.out HCA.out (Or.inr (Or.inl (by omega)))
      have d1 : decide ((1 : Int) < (t : Int)) = false := by simp; omega
      clear h1 t0 t1 f0 f1
      go_wp2
      go_quiet (fail)
      go_wp2
      go_meet
      exact ⟨Q.take t, g, c2, by rw [HTL.out], Pts.nw HPT.out (below_drewN (Below.refl _ _) _), HSO.out, Nw.trans NWr.out (below_drewN (Below.refl _ _) _)⟩
  case rest =>
   obtain ⟨L, g, c2, hv, hpt, hso, hw⟩ := hcut
   obtain ⟨w2, hw2⟩ : ∃ x, x = wc := ⟨_, rfl⟩
   subst hw2
   subst hv
   have N2 : Hid (Nw W w2) := hw
   rcases hso.symm with ⟨hl, hr⟩ | ⟨rfl, h2⟩
   ·have HE : Hid (RES = []) := by show _ = _; rw [← HRES.out, if_pos hr]
    generalize L.length = ll at *
    have d1 : decide ((ll : Int) < 2) = true := by simp; omega
    clear hpt hw
    go_wp2
    go_ret
    exact ⟨_, rfl, by rw [HE.out]; exact LsOk.of (OwnLn.nil _ _) rfl, Nw.trans NW.out N2.out⟩
   have hq := HQ.out h2
   have hnl : ¬ L.length < 2 := by omega
   have hE : RES = (segsK L h (segN cl L.length)).map bandL ++ cornS pj h L cl L.length ++ (if cl then [] else capsS pc h L) := by
    rw [← HRES.out, if_neg hnl, ← strkR_is hq]; rfl
   clear HRES HT HU hnl HPT0
   have hsN := segN_le cl L.length
   have hs0 := segN_pos (cl := cl) h2
   have hm6 := hq.many
   have HCS : Hid (∀ k, cornS pj h L cl (k + 1) = cornS pj h L cl k ++ (if cl = true ∨ (0 < k ∧ k < L.length - 1) then [⟨joinS pj h (prvP L k) (ptAt L k) (nxtP L k), true⟩] else [])) := fun k => rfl
   have HC0 : Hid (cornS pj h L cl 0 = []) := rfl
   have HCL : Hid (∀ k, (cornS pj h L cl k).length ≤ k) := fun k => cornS_len pj h L cl k
   have HJ : Hid (∀ k, k < L.length → _) := fun k hk => sjoin pj h (prvP L k) (ptAt L k) (nxtP L k) (hq.near _ (Nat.mod_lt _ (by omega))) (hq.near k hk) (hq.nx k) hh0 hh1
   have HG : Hid (∀ k, (segsK L h (k + 1)).map bandL = (segsK L h k).map bandL ++ [bandL (segP L h k)]) := fun k => by rw [segsK_succ, List.map_append]; rfl
   have HG0 : Hid ((segsK L h 0).map bandL = []) := rfl
   have HGL : Hid (∀ k, ((segsK L h k).map bandL).length = k) := fun k => by rw [List.length_map, segsK_len]
   have HSG : Hid (∀ k, k < segN cl L.length → segP L h k = ⟨ptAt L k, nxtP L k, sideP (ptAt L k) (nxtP L k) h⟩) := fun k hk => hq.seg hk
   have HNR : Hid (∀ i, i < L.length → nearB (ptAt L i) = true) := hq.near
   have HCAP : Hid _ := capsS_says (pc := pc) (q := L) (h := h)
   obtain ⟨G, hG⟩ : ∃ G : Nat → List LD, (fun k => (segsK L h k).map bandL) = G := ⟨_, rfl⟩
   have hG' : ∀ k, (segsK L h k).map bandL = G k := fun k => congrFun hG k
   simp only [hG'] at HG HG0 HGL hE
   clear hG hG'
   obtain ⟨CS, hCS⟩ : ∃ CS, cornS pj h L cl = CS := ⟨_, rfl⟩
   rw [hCS] at HCS HC0 HCL hE
   clear hCS
   obtain ⟨CP, hCP⟩ : ∃ CP, capsS pc h L = CP := ⟨_, rfl⟩
   have HCP : Hid (capsS pc h L = CP) := hCP
   rw [hCP] at hE
   clear hCP hq HQ
   obtain ⟨sn, hsn⟩ : ∃ sn, segN cl L.length = sn := ⟨_, rfl⟩
   have HSN : Hid (segN cl L.length = sn) := hsn
   rw [hsn] at hsN hs0 HSG hE
   clear hsn
   have HCQ : Hid (∀ w', Nw w2 w' → ∀ i, i < L.length → w'.cell? ⟨g, 0 + i * 2, none⟩ = some (.int .i64 (ptAt L i).1) ∧ w'.cell? ⟨g, 0 + i * 2 + 1, none⟩ = some (.int .i64 (ptAt L i).2)) := fun w' k i hi => by
    obtain ⟨g', o', e, hl⟩ := Pts.lie (Pts.nw hpt k) (by omega)
    injection e with e; injection e with e1 e2
    rw [e1, e2]
    exact hl.2 i hi
   clear hpt hw
   obtain ⟨r, hr⟩ : ∃ r, L.length = r := ⟨_, rfl⟩
   have HRL : Hid (L.length = r) := hr
   rw [hr] at h2 hm6 hsN HCS HJ HNR HSN HCQ hE ⊢
   clear hr
   have HRS : Hid _ := hE
   clear hE
   have d2 : decide ((r : Int) < 2) = false := by simp; omega
   have hrm1 : IntKind.i64.wrap ((r : Int) - 1) = (r : Int) - 1 := IntWalk.i64_in _ ⟨by omega, by omega⟩
   obtain ⟨x1, x2, x3⟩ := HC.out w2 N2.out
   have hx1 := x1
   go_upto_if 80 with fail
   go_cut [11] (fun v wx => v = .int .i64 (sn : Int) ∧ w2 = wx)
   case first =>
    cases cl with
    | true =>
     have e : sn = r := by rw [← HSN.out]; rfl
     subst e
     go_wp2
     go_meet
     exact ⟨rfl, rfl⟩
    | false =>
     have e : (sn : Int) = (r : Int) - 1 := by have := HSN.out; simp only [segN, cond_false] at this; omega
     go_wp2
     go_meet
     exact ⟨by rw [e], rfl⟩
   case rest =>
    obtain ⟨hv, hw⟩ := hcut
    subst hv
    subst hw
    go_upto_block 4 with fail
    go_cut [10] (fun v wx => LsOk wx w2.heap.size v (G sn) ∧ Nw w2 wx)
    case first =>
     go_wp2
     go_loopw [12, 10] (fun i v wr => ∃ (k : Nat) (it : Its), k ≤ sn ∧ i = .int .i64 (k : Int) ∧ OwnLn wr w2.heap.size v it ∧ it.map (·.2) = G k ∧ Nw w2 wr) (fun i _ _ => sn - (intOf i).toNat)
     case atStart => exact ⟨0, [], Nat.zero_le _, rfl, OwnLn.nil _ _, by rw [HG0.out]; rfl, Below.refl _ _⟩
     case round =>
      obtain ⟨k, it, hk, rfl, ho, he, hw⟩ := hrel
      have HE : Hid (it.map (·.2) = G k) := he
      have HO : Hid (OwnLn wr w2.heap.size _ it) := ho
      have HWr : Hid (Nw w2 wr) := hw
      have hil : it.length = k := by have := HGL.out k; rw [← he, List.length_map] at this; exact this
      obtain ⟨va, vn, vc, hv⟩ := OwnQ.slice ho.own
      subst hv
      clear ho hw he
      by_cases hlt : k < sn
      ·have d1 : decide ((k : Int) < (sn : Int)) = true := by simp; omega
       obtain ⟨m, hm⟩ : ∃ m, (k + 1) % r = m := ⟨_, rfl⟩
       have hmr : m < r := by rw [← hm]; exact Nat.mod_lt _ (by omega)
       have hrm : ((k : Int) + 1).tmod (r : Int) = (m : Int) := by
        rw [← hm, Int.tmod_eq_emod_of_nonneg (by omega)]
        first | exact (Int.natCast_emod (k + 1) r).symm | rfl
       obtain ⟨q0, q1⟩ := HCQ.out wr HWr.out k (by omega)
       obtain ⟨r0, r1⟩ := HCQ.out wr HWr.out m hmr
       rw [Nat.zero_add] at q0 q1 r0 r1
       have hgw : g < wr.heap.size := World.block_lt_of_cell? wr ⟨g, _, none⟩ q0
       have hsg := HSG.out k hlt
       have hnx : nxtP L k = ptAt L m := by unfold nxtP; rw [HRL.out, hm]
       rw [hnx] at hsg
       have na := HNR.out k (by omega)
       have nb := HNR.out m hmr
       obtain ⟨A, hA⟩ : ∃ A, ptAt L k = A := ⟨_, rfl⟩
       obtain ⟨B, hB⟩ : ∃ B, ptAt L m = B := ⟨_, rfl⟩
       rw [hA] at q0 q1 hsg na
       rw [hB] at r0 r1 hsg nb
       obtain ⟨ax, ay⟩ := A
       obtain ⟨bx, by'⟩ := B
       obtain ⟨wa1, wa2⟩ := near_wid na
       obtain ⟨wb1, wb2⟩ := near_wid nb
       obtain ⟨ws1, ws2⟩ := side_wid (ax, ay) (bx, by') h
       have HD : Hid (∀ w, _) := fun w => sside w (ax, ay) (bx, by') h na nb
       obtain ⟨SP, hSP⟩ : ∃ SP, sideP (ax, ay) (bx, by') h = SP := ⟨_, rfl⟩
       rw [hSP] at HD ws1 ws2 hsg
       obtain ⟨sx, sy⟩ := SP
       simp only at q0 q1 r0 r1 HD wa1 wa2 wb1 wb2 ws1 ws2
       have HGk : Hid (G (k + 1) = G k ++ [bandL ⟨(ax, ay), (bx, by'), (sx, sy)⟩]) := by show _ = _; rw [HG.out k, hsg]
       have HWID : Hid _ := And.intro (And.intro wa1 wa2) (And.intro (And.intro wb1 wb2) (And.intro ws1 ws2))
       clear hA hB hSP hsg hnx na nb wa1 wa2 wb1 wb2 ws1 ws2 hm
       obtain ⟨W5, hW5⟩ : ∃ W5, (wr.alloc (.cells #[.int .i64 ax, .int .i64 ay] 34)).alloc (.cells #[.int .i64 bx, .int .i64 by'] 34) = W5 := ⟨_, rfl⟩
       have a0 : W5.cell? ⟨wr.heap.size, 0, none⟩ = some (.int .i64 ax) := by rw [← hW5]; simp
       have a1 : W5.cell? ⟨wr.heap.size, 1, none⟩ = some (.int .i64 ay) := by rw [← hW5]; simp
       have b0 : W5.cell? ⟨wr.heap.size + 1, 0, none⟩ = some (.int .i64 bx) := by rw [← hW5]; simp
       have b1 : W5.cell? ⟨wr.heap.size + 1, 1, none⟩ = some (.int .i64 by') := by rw [← hW5]; simp
       have N5 : Hid (Nw wr W5) := by show Nw _ _; rw [← hW5]; exact Kp.nw (((Kp.refl wr).alloc _ _).alloc _ _)
       have HW5 : Hid (_ = W5) := hW5
       clear hW5
       go_wp2_with fail
       rw [HW5.out]
       refine Calls.mono (HD.out _) ?_
       rintro e w6 ⟨rfl, k6⟩
       obtain ⟨W7, hW7⟩ : ∃ W7, w6.alloc (.cells #[.int .i64 sx, .int .i64 sy] 34) = W7 := ⟨_, rfl⟩
       have k67 : Kp w6 W7 := by rw [← hW7]; exact (Kp.refl _).alloc _ _
       have k57 := Kp.trans k6 k67
       have D7 : Hid (Nw W7 W7.drew) := (Below.refl _ _).drew
       have N7 : Hid (Nw wr W7.drew) := Nw.trans N5.out (Nw.trans (Kp.nw k57) D7.out)
       have s0 : W7.cell? ⟨w6.heap.size, 0, none⟩ = some (.int .i64 sx) := by rw [← hW7]; simp
       have s1 : W7.cell? ⟨w6.heap.size, 1, none⟩ = some (.int .i64 sy) := by rw [← hW7]; simp
       have HA7 : Hid _ := And.intro (And.intro (nw_at D7.out (rq_at k57 a0)) (nw_at D7.out (rq_at k57 a1))) (And.intro (And.intro (nw_at D7.out (rq_at k57 b0)) (nw_at D7.out (rq_at k57 b1))) (And.intro (nw_at D7.out s0) (nw_at D7.out s1)))
       have HW7 : Hid (_ = W7) := hW7
       have O7 : Hid (OwnLn W7.drew w2.heap.size (.slice va vn vc) it) := OwnLn.nw HO.out N7.out
       have hBW : Hid (w2.heap.size ≤ W7.drew.heap.size) := Below.size (Nw.trans HWr.out N7.out)
       clear hW7 k6 k67 k57 s0 s1 a0 a1 b0 b1 q0 q1 r0 r1
       go_upto_region 24 with fail
       rw [HW7.out]
       refine reg_change (ops' := opsOf 24 Tryz.f78) (by kernel_rfl) ?_
       refine LL24.run ⟨ax, ay, bx, by', sx, sy, wr.heap.size, wr.heap.size + 1, w6.heap.size, .slice va vn vc, w2.heap.size, it, W7.drew, _⟩ ⟨HA7.out.1.1, HA7.out.1.2, HA7.out.2.1.1, HA7.out.2.1.2, HA7.out.2.2.1, HA7.out.2.2.2, HWID.out.1.1, HWID.out.1.2, HWID.out.2.1.1, HWID.out.2.1.2, HWID.out.2.2.1, HWID.out.2.2.2, O7.out, hBW.out, by show it.length + 1 ≤ _; omega, rfl, rfl, rfl, rfl, rfl⟩ W7 (Kp.refl _) ?_
       rintro γ w9 ⟨u, o9, b9⟩
       have N9 : Hid (Nw w2 w9) := Below.trans (Nw.trans HWr.out N7.out) b9
       obtain ⟨ja, jn, jc, hj⟩ := OwnQ.slice o9.own
       simp only [hj, Act.put, List.setIfInBounds_toArray, List.set_cons_zero, List.set_cons_succ]
       rw [hj] at o9
       have O9 : Hid (OwnLn w9 w2.heap.size (.slice ja jn jc) _) := o9
       clear o9 b9 hj
       generalize γ 0 = y0 at *
       generalize γ 1 = y1 at *
       generalize γ 2 = y2 at *
       generalize γ 3 = y3 at *
       go_wp2
       go_roundw
       case rel => exact ⟨k + 1, _, hlt, by go_num, O9.out, by rw [HGk.out, List.map_append, HE.out]; rfl, N9.out⟩
       case measure => simp [intOf]; omega
      ·obtain rfl : k = sn := by omega
       have d1 : decide ((k : Int) < (k : Int)) = false := by simp
       go_wp2
       go_meet
       exact ⟨LsOk.of HO.out HE.out, HWr.out⟩
    case rest =>
     obtain ⟨⟨it3, o3, e3⟩, n3⟩ := hcut
     obtain ⟨w3, hw3⟩ : ∃ x, x = wc := ⟨_, rfl⟩
     subst hw3
     obtain ⟨oa, on, oc, hov⟩ := OwnQ.slice o3.own
     subst hov
     have O3 : Hid (OwnLn w3 w2.heap.size (.slice oa on oc) it3) := o3
     have E3 : Hid (it3.map (·.2) = G sn) := e3
     have N3 : Hid (Nw w2 w3) := n3
     clear o3 e3 n3 x1 x2 x3 hx1
     go_upto_block 6 with fail
     go_cut [10] (fun v wx => LsOk wx w2.heap.size v (G sn ++ CS r) ∧ Nw w2 wx)
     case first =>
      go_wp2
      go_loopw [16, 10] (fun i v wr => ∃ (k : Nat) (it : Its), k ≤ r ∧ i = .int .i64 (k : Int) ∧ OwnLn wr w2.heap.size v it ∧ it.map (·.2) = G sn ++ CS k ∧ Nw w2 wr) (fun i _ _ => r - (intOf i).toNat)
      case atStart => exact ⟨0, it3, Nat.zero_le _, rfl, O3.out, by rw [HC0.out, List.append_nil]; exact E3.out, N3.out⟩
      case round =>
       obtain ⟨k, it, hk, rfl, ho, he, hw⟩ := hrel
       have HE : Hid (it.map (·.2) = G sn ++ CS k) := he
       have HO : Hid (OwnLn wr w2.heap.size _ it) := ho
       have HWr : Hid (Nw w2 wr) := hw
       have hil : it.length ≤ sn + k := by
        have := congrArg List.length he
        rw [List.length_map, List.length_append] at this
        have h1 := HGL.out sn
        have h2 := HCL.out k
        omega
       obtain ⟨va, vn, vc, hv⟩ := OwnQ.slice ho.own
       subst hv
       obtain ⟨x1, x2, x3⟩ := HC.out wr (Nw.trans N2.out hw)
       clear ho hw he
       by_cases hlt : k < r
       ·have d1 : decide ((k : Int) < (r : Int)) = true := by simp; omega
        cases cl with
        | true =>
         have HYES : Hid (true = true ∨ (0 < k ∧ k < L.length - 1)) := Or.inl rfl
         rw [HRL.out] at HYES
         obtain ⟨ia, hia⟩ : ∃ m, (k + r - 1) % r = m := ⟨_, rfl⟩
         have hiar : ia < r := by rw [← hia]; exact Nat.mod_lt _ (by omega)
         obtain ⟨ib, hib⟩ : ∃ m, (k + 1) % r = m := ⟨_, rfl⟩
         have hibr : ib < r := by rw [← hib]; exact Nat.mod_lt _ (by omega)
         have e3 : ((k : Int) + (r : Int) - 1).tmod (r : Int) = (ia : Int) := by
          rw [← hia, Int.tmod_eq_emod_of_nonneg (by omega), show (k : Int) + (r : Int) - 1 = ((k + r - 1 : Nat) : Int) by omega]
          first | exact (Int.natCast_emod (k + r - 1) r).symm | rfl
         have e5 : ((k : Int) + 1).tmod (r : Int) = (ib : Int) := by
          rw [← hib, Int.tmod_eq_emod_of_nonneg (by omega)]
          first | exact (Int.natCast_emod (k + 1) r).symm | rfl
         have D8 : Hid (Nw wr wr.drew) := (Below.refl _ _).drew
         have N8 : Hid (Nw w2 wr.drew) := Nw.trans HWr.out D8.out
         obtain ⟨q0, q1⟩ := HCQ.out wr.drew N8.out ia hiar
         obtain ⟨q2, q3⟩ := HCQ.out wr.drew N8.out k hlt
         obtain ⟨q4, q5⟩ := HCQ.out wr.drew N8.out ib hibr
         have hjj := HJ.out k hlt
         have hcs := HCS.out k
         rw [if_pos HYES.out] at hcs
         have en : nxtP L k = ptAt L ib := by unfold nxtP; rw [HRL.out, hib]
         have ep : prvP L k = ptAt L ia := by unfold prvP; rw [HRL.out, hia]
         rw [en, ep] at hjj hcs
         obtain ⟨JL, hJL⟩ : ∃ JL, joinS pj h (ptAt L ia) (ptAt L k) (ptAt L ib) = JL := ⟨_, rfl⟩
         rw [hJL] at hjj hcs
         have HJJ : Hid _ := hjj
         have HCK : Hid (CS (k + 1) = CS k ++ [⟨JL, true⟩]) := hcs
         obtain ⟨_, y1, _⟩ := HC.out wr.drew (Nw.trans N2.out N8.out)
         have Q29 : Hid _ := And.intro (And.intro (And.intro q0 q1) (And.intro q2 q3)) (And.intro (And.intro q4 q5) y1)
         have E29 : Hid (IntKind.i64.wrap ((k : Int) + (r : Int)) = (k : Int) + (r : Int) ∧ IntKind.i64.wrap ((k : Int) + (r : Int) - 1) = (k : Int) + (r : Int) - 1 ∧ ((k : Int) + (r : Int) - 1).tmod (r : Int) = (ia : Int) ∧ IntKind.i64.wrap ((k : Int) + 1) = (k : Int) + 1 ∧ ((k : Int) + 1).tmod (r : Int) = (ib : Int)) := ⟨IntWalk.i64_in _ ⟨by omega, by omega⟩, IntWalk.i64_in _ ⟨by omega, by omega⟩, e3, IntWalk.i64_in _ ⟨by omega, by omega⟩, e5⟩
         have K29 : Hid (¬ r = 0 ∧ ia < r ∧ k < r ∧ ib < r) := ⟨by omega, hiar, hlt, hibr⟩
         have O8 : Hid (OwnLn wr.drew w2.heap.size (.slice va vn vc) it) := OwnLn.nw HO.out D8.out
         have B8 : Hid (w2.heap.size ≤ wr.drew.heap.size) := Below.size N8.out
         have L8 : Hid (it.length + 1 ≤ 1000000) := by show _ ≤ _; omega
         generalize ptAt L ia = A at *
         generalize ptAt L k = Pk at *
         generalize ptAt L ib = B at *
         obtain ⟨ax, ay⟩ := A
         obtain ⟨px, py⟩ := Pk
         obtain ⟨ex, ey⟩ := B
         clear q0 q1 q2 q3 q4 q5 y1 hjj hcs en ep hJL e3 e5 hia hib
         go_wp2_with fail
         refine reg_change (ops' := opsOf 29 Tryz.f78) (by kernel_rfl) ?_
         refine LL29.run ⟨ax, ay, px, py, ex, ey, h, pj, g, 0, r, c2, k, ia, ib, bl + 1, JL, .slice va vn vc, w2.heap.size, it, wr.drew, _⟩ ⟨Q29.out.1.1.1, Q29.out.1.1.2, Q29.out.1.2.1, Q29.out.1.2.2, Q29.out.2.1.1, Q29.out.2.1.2, Q29.out.2.2, E29.out.1, E29.out.2.1, E29.out.2.2.1, E29.out.2.2.2.1, E29.out.2.2.2.2, K29.out.1, K29.out.2.1, K29.out.2.2.1, K29.out.2.2.2, HJJ.out, O8.out, B8.out, L8.out, rfl, rfl, rfl, rfl, rfl, rfl, rfl⟩ wr rfl ?_
         rintro γ w9 ⟨u, o9, b9⟩
         have N9 : Hid (Nw w2 w9) := Below.trans N8.out b9
         obtain ⟨ja, jn, jc, hj⟩ := OwnQ.slice o9.own
         simp only [hj, Act.put, List.setIfInBounds_toArray, List.set_cons_zero, List.set_cons_succ]
         rw [hj] at o9
         have O9 : Hid (OwnLn w9 w2.heap.size (.slice ja jn jc) _) := o9
         clear o9 b9 hj Q29 E29
         generalize γ 0 = y0 at *
         generalize γ 1 = y1 at *
         generalize γ 2 = y2 at *
         go_wp2
         go_roundw
         case rel => exact ⟨k + 1, _, hlt, by go_num, O9.out, by rw [HCK.out, List.map_append, HE.out, List.append_assoc]; rfl, N9.out⟩
         case measure => simp [intOf]; omega
        | false =>
         by_cases hk0 : 0 < k
         ·have d3 : decide ((0 : Int) < (k : Int)) = true := by simp; omega
          by_cases hk1 : k < r - 1
          ·have d4 : decide ((k : Int) < (r : Int) - 1) = true := by simp; omega
           have HYES : Hid (false = true ∨ (0 < k ∧ k < r - 1)) := Or.inr ⟨hk0, hk1⟩
           obtain ⟨ia, hia⟩ : ∃ m, (k + r - 1) % r = m := ⟨_, rfl⟩
           have hiar : ia < r := by rw [← hia]; exact Nat.mod_lt _ (by omega)
           obtain ⟨ib, hib⟩ : ∃ m, (k + 1) % r = m := ⟨_, rfl⟩
           have hibr : ib < r := by rw [← hib]; exact Nat.mod_lt _ (by omega)
           have e3 : ((k : Int) + (r : Int) - 1).tmod (r : Int) = (ia : Int) := by
            rw [← hia, Int.tmod_eq_emod_of_nonneg (by omega), show (k : Int) + (r : Int) - 1 = ((k + r - 1 : Nat) : Int) by omega]
            first | exact (Int.natCast_emod (k + r - 1) r).symm | rfl
           have e5 : ((k : Int) + 1).tmod (r : Int) = (ib : Int) := by
            rw [← hib, Int.tmod_eq_emod_of_nonneg (by omega)]
            first | exact (Int.natCast_emod (k + 1) r).symm | rfl
           have D8 : Hid (Nw wr wr.drew) := (Below.refl _ _).drew
           have N8 : Hid (Nw w2 wr.drew) := Nw.trans HWr.out D8.out
           obtain ⟨q0, q1⟩ := HCQ.out wr.drew N8.out ia hiar
           obtain ⟨q2, q3⟩ := HCQ.out wr.drew N8.out k hlt
           obtain ⟨q4, q5⟩ := HCQ.out wr.drew N8.out ib hibr
           have hjj := HJ.out k hlt
           have hcs := HCS.out k
           rw [if_pos HYES.out] at hcs
           have en : nxtP L k = ptAt L ib := by unfold nxtP; rw [HRL.out, hib]
           have ep : prvP L k = ptAt L ia := by unfold prvP; rw [HRL.out, hia]
           rw [en, ep] at hjj hcs
           obtain ⟨JL, hJL⟩ : ∃ JL, joinS pj h (ptAt L ia) (ptAt L k) (ptAt L ib) = JL := ⟨_, rfl⟩
           rw [hJL] at hjj hcs
           have HJJ : Hid _ := hjj
           have HCK : Hid (CS (k + 1) = CS k ++ [⟨JL, true⟩]) := hcs
           obtain ⟨_, y1, _⟩ := HC.out wr.drew (Nw.trans N2.out N8.out)
           have Q29 : Hid _ := And.intro (And.intro (And.intro q0 q1) (And.intro q2 q3)) (And.intro (And.intro q4 q5) y1)
           have E29 : Hid (IntKind.i64.wrap ((k : Int) + (r : Int)) = (k : Int) + (r : Int) ∧ IntKind.i64.wrap ((k : Int) + (r : Int) - 1) = (k : Int) + (r : Int) - 1 ∧ ((k : Int) + (r : Int) - 1).tmod (r : Int) = (ia : Int) ∧ IntKind.i64.wrap ((k : Int) + 1) = (k : Int) + 1 ∧ ((k : Int) + 1).tmod (r : Int) = (ib : Int)) := ⟨IntWalk.i64_in _ ⟨by omega, by omega⟩, IntWalk.i64_in _ ⟨by omega, by omega⟩, e3, IntWalk.i64_in _ ⟨by omega, by omega⟩, e5⟩
           have K29 : Hid (¬ r = 0 ∧ ia < r ∧ k < r ∧ ib < r) := ⟨by omega, hiar, hlt, hibr⟩
           have O8 : Hid (OwnLn wr.drew w2.heap.size (.slice va vn vc) it) := OwnLn.nw HO.out D8.out
           have B8 : Hid (w2.heap.size ≤ wr.drew.heap.size) := Below.size N8.out
           have L8 : Hid (it.length + 1 ≤ 1000000) := by show _ ≤ _; omega
           generalize ptAt L ia = A at *
           generalize ptAt L k = Pk at *
           generalize ptAt L ib = B at *
           obtain ⟨ax, ay⟩ := A
           obtain ⟨px, py⟩ := Pk
           obtain ⟨ex, ey⟩ := B
           clear q0 q1 q2 q3 q4 q5 y1 hjj hcs en ep hJL e3 e5 hia hib
           go_wp2_with fail
           refine reg_change (ops' := opsOf 29 Tryz.f78) (by kernel_rfl) ?_
           refine LL29.run ⟨ax, ay, px, py, ex, ey, h, pj, g, 0, r, c2, k, ia, ib, bl + 1, JL, .slice va vn vc, w2.heap.size, it, wr.drew, _⟩ ⟨Q29.out.1.1.1, Q29.out.1.1.2, Q29.out.1.2.1, Q29.out.1.2.2, Q29.out.2.1.1, Q29.out.2.1.2, Q29.out.2.2, E29.out.1, E29.out.2.1, E29.out.2.2.1, E29.out.2.2.2.1, E29.out.2.2.2.2, K29.out.1, K29.out.2.1, K29.out.2.2.1, K29.out.2.2.2, HJJ.out, O8.out, B8.out, L8.out, rfl, rfl, rfl, rfl, rfl, rfl, rfl⟩ wr rfl ?_
           rintro γ w9 ⟨u, o9, b9⟩
           have N9 : Hid (Nw w2 w9) := Below.trans N8.out b9
           obtain ⟨ja, jn, jc, hj⟩ := OwnQ.slice o9.own
           simp only [hj, Act.put, List.setIfInBounds_toArray, List.set_cons_zero, List.set_cons_succ]
           rw [hj] at o9
           have O9 : Hid (OwnLn w9 w2.heap.size (.slice ja jn jc) _) := o9
           clear o9 b9 hj Q29 E29
           generalize γ 0 = y0 at *
           generalize γ 1 = y1 at *
           generalize γ 2 = y2 at *
           go_wp2
           go_roundw
           case rel => exact ⟨k + 1, _, hlt, by go_num, O9.out, by rw [HCK.out, List.map_append, HE.out, List.append_assoc]; rfl, N9.out⟩
           case measure => simp [intOf]; omega
          ·have d4 : decide ((k : Int) < (r : Int) - 1) = false := by simp; omega
           have HNO : Hid (¬ (false = true ∨ (0 < k ∧ k < r - 1))) := fun h => h.elim (fun e => by cases e) (fun e => hk1 e.2)
           have hcs := HCS.out k
           rw [if_neg HNO.out, List.append_nil] at hcs
           have HCK : Hid (CS (k + 1) = CS k) := hcs
           clear hcs
           go_wp2
           go_roundw
           case rel => exact ⟨k + 1, it, hlt, by go_num, HO.out, by rw [HCK.out]; exact HE.out, HWr.out⟩
           case measure => simp [intOf]; omega
         ·have d3 : decide ((0 : Int) < (k : Int)) = false := by simp; omega
          have HNO : Hid (¬ (false = true ∨ (0 < k ∧ k < r - 1))) := fun h => h.elim (fun e => by cases e) (fun e => hk0 e.1)
          have hcs := HCS.out k
          rw [if_neg HNO.out, List.append_nil] at hcs
          have HCK : Hid (CS (k + 1) = CS k) := hcs
          clear hcs
          go_wp2
          go_roundw
          case rel => exact ⟨k + 1, it, hlt, by go_num, HO.out, by rw [HCK.out]; exact HE.out, HWr.out⟩
          case measure => simp [intOf]; omega
       ·obtain rfl : k = r := by omega
        have d1 : decide ((k : Int) < (k : Int)) = false := by simp
        go_wp2
        go_meet
        exact ⟨LsOk.of HO.out HE.out, HWr.out⟩
     case rest =>
      obtain ⟨⟨it4, o4, e4⟩, n4⟩ := hcut
      obtain ⟨w4, hw4⟩ : ∃ x, x = wc := ⟨_, rfl⟩
      subst hw4
      obtain ⟨oa, on, oc, hov⟩ := OwnQ.slice o4.own
      subst hov
      have O4 : Hid (OwnLn w4 w2.heap.size (.slice oa on oc) it4) := o4
      have E4 : Hid (it4.map (·.2) = G sn ++ CS r) := e4
      have N4 : Hid (Nw w2 w4) := n4
      have NF4 : Hid (Nw w w4) := Nw.trans NW.out (Nw.trans N2.out n4)
      have HB2 : Hid (w.heap.size ≤ w2.heap.size) := Below.size (Nw.trans NW.out N2.out)
      have HBB : Hid (bl ≤ w2.heap.size) := by show bl ≤ _; rw [← HBL.out]; exact HB2.out
      have hil : it4.length ≤ 1800 := by
       have := congrArg List.length e4
       rw [List.length_map, List.length_append] at this
       have h1 := HGL.out sn
       have h2 := HCL.out r
       omega
      obtain ⟨x1, x2, x3⟩ := HC.out w4 (Nw.trans N2.out n4)
      clear o4 e4 n4
      cases cl with
      | true =>
       have HEF : Hid (RES = G sn ++ CS r) := by show _ = _; rw [HRS.out, if_pos rfl, List.append_nil]
       go_wp2
       go_ret
       exact ⟨_, rfl, by rw [HEF.out]; first | exact LsOk.of (OwnLn.base O4.out HB2.out) E4.out | exact LsOk.of (OwnLn.base O4.out HBB.out) E4.out, NF4.out⟩
      | false =>
       have HEF : Hid (RES = G sn ++ CS r ++ CP) := by show _ = _; rw [HRS.out, if_neg (by decide)]
       have hcp : CP = _ := HCP.out.symm.trans HCAP.out
       have hla : lastP L = ptAt L (r - 1) := by unfold lastP; rw [HRL.out]
       rw [hla, HRL.out] at hcp
       clear HCP HCAP hla
       have na := HNR.out 0 (by omega)
       have nb := HNR.out 1 (by omega)
       have ny := HNR.out (r - 2) (by omega)
       have nz := HNR.out (r - 1) (by omega)
       have D4 : Hid (Nw w4 w4.drew) := (Below.refl _ _).drew
       have NQ : Hid (Nw w2 w4.drew) := Nw.trans N4.out D4.out
       have HCQ7 : Hid (∀ w', Nw w2 w' → _) := fun w' k => And.intro (HCQ.out w' k 0 (by omega)) (And.intro (HCQ.out w' k 1 (by omega)) (And.intro (HCQ.out w' k (r - 2) (by omega)) (HCQ.out w' k (r - 1) (by omega))))
       have HQ4 : Hid (∀ w', Nw w4 w' → _) := fun w' k => And.intro (HCQ.out w' (Nw.trans N4.out k) 0 (by omega)) (And.intro (HCQ.out w' (Nw.trans N4.out k) 1 (by omega)) (And.intro (HCQ.out w' (Nw.trans N4.out k) (r - 2) (by omega)) (HCQ.out w' (Nw.trans N4.out k) (r - 1) (by omega))))
       generalize ptAt L 0 = A at *
       generalize ptAt L 1 = B at *
       generalize ptAt L (r - 2) = Y at *
       generalize ptAt L (r - 1) = Z at *
       obtain ⟨ax, ay⟩ := A
       obtain ⟨bx, by'⟩ := B
       obtain ⟨yx, yy⟩ := Y
       obtain ⟨zx, zy⟩ := Z
       simp only at hcp HQ4 HCQ7
       by_cases hc2 : pc = 2
       ·subst hc2
        rw [if_pos rfl] at hcp
        obtain ⟨n1, n2⟩ := nearB_nr na
        obtain ⟨n3, n4⟩ := nearB_nr nz
        unfold nr at n1 n2 n3 n4
        simp only at n1 n2 n3 n4
        have HL1 : Hid _ := sdisk ax ay h (by omega) (by omega) (by omega) (by omega)
        have HL2 : Hid _ := sdisk zx zy h (by omega) (by omega) (by omega) (by omega)
        generalize roundsP ax ay h h 0 32 = L1 at *
        generalize roundsP zx zy h h 0 32 = L2 at *
        have HCPE : Hid _ := hcp
        obtain ⟨⟨q0, q1⟩, _, _, ⟨q6, q7⟩⟩ := HQ4.out _ D4.out
        have Q34 : Hid _ := And.intro (And.intro q0 q1) (And.intro q6 q7)
        obtain ⟨m, hm⟩ : ∃ m, r - 1 = m := ⟨_, rfl⟩
        rw [hm] at Q34
        have M34 : Hid (IntKind.i64.wrap ((r : Int) - 1) = (m : Int) ∧ 0 < r ∧ m < r) := ⟨by rw [show (r : Int) - 1 = (m : Int) by omega]; exact IntWalk.i64_in _ ⟨by omega, by omega⟩, by omega, by omega⟩
        have O34 : Hid (OwnLn w4.drew w2.heap.size (.slice oa on oc) it4) := OwnLn.nw O4.out D4.out
        have L34 : Hid (it4.length + 2 ≤ 1000000) := by show _ ≤ _; omega
        clear q0 q1 q6 q7 na nb ny nz n1 n2 n3 n4 hcp hm
        go_wp2_with fail
        refine reg_change (ops' := opsOf 34 Tryz.f78) (by kernel_rfl) ?_
        refine LL34.run ⟨ax, ay, zx, zy, h, g, 0, r, m, c2, L1, L2, .slice oa on oc, w2.heap.size, it4, w4.drew, _⟩ ⟨Q34.out.1.1, Q34.out.1.2, Q34.out.2.1, Q34.out.2.2, M34.out.1, M34.out.2.1, M34.out.2.2, HL1.out, HL2.out, O34.out, Below.size NQ.out, L34.out, rfl, rfl, rfl, rfl, rfl⟩ w4 rfl ?_
        rintro γ w9 ⟨u, u2, o9, b9⟩
        replace b9 : Below w2.heap.size w4.drew w9 := b9
        have b9' : Below w.heap.size w4.drew w9 := Below.mono b9 HB2.out
        have N9 : Hid (Nw w w9) := Below.trans (Nw.trans NF4.out D4.out) b9'
        obtain ⟨ja, jn, jc, hj⟩ := OwnQ.slice o9.own
        simp only [hj, Act.put, List.setIfInBounds_toArray, List.set_cons_zero, List.set_cons_succ]
        rw [hj] at o9
        have O9 : Hid (LsOk w9 w.heap.size (.slice ja jn jc) (G sn ++ CS r ++ CP)) := LsOk.of (OwnLn.base o9 HB2.out) (by rw [List.map_append, E4.out, HCPE.out]; rfl)
        clear o9 b9 b9' hj Q34
        generalize γ 0 = y0 at *
        generalize γ 1 = y1 at *
        generalize γ 2 = y2 at *
        generalize γ 3 = y3 at *
        go_wp2
        go_ret
        exact ⟨_, rfl, by rw [HEF.out]; first | exact O9.out | (have o := O9.out; rw [HBL.out] at o; exact o), N9.out⟩
       ·have d2c : (pc == 2) = false := by simp [hc2]
        rw [if_neg hc2] at hcp
        by_cases hc3 : pc = 3
        ·subst hc3
         rw [if_pos rfl] at hcp
         obtain ⟨wa1, wa2⟩ := nearB_nr na
         obtain ⟨wz1, wz2⟩ := nearB_nr nz
         unfold nr at wa1 wa2 wz1 wz2
         simp only at wa1 wa2 wz1 wz2
         have bs := side_bd (ax, ay) (bx, by') h
         have bt := side_bd (yx, yy) (zx, zy) h
         have HD1 : Hid (∀ w, _) := fun w => sside w (ax, ay) (bx, by') h na nb
         have HD2 : Hid (∀ w, _) := fun w => sside w (yx, yy) (zx, zy) h ny nz
         generalize sideP (ax, ay) (bx, by') h = S1 at *
         generalize sideP (yx, yy) (zx, zy) h = S2 at *
         obtain ⟨sx, sy⟩ := S1
         obtain ⟨tx, ty⟩ := S2
         simp only at hcp HD1 HD2 bs bt
         obtain ⟨⟨bs1, bs2⟩, bs3, bs4⟩ := bs
         obtain ⟨⟨bt1, bt2⟩, bt3, bt4⟩ := bt
         have hwa : wid ax ∧ wid ay ∧ wid sx ∧ wid sy ∧ wid (-sx) ∧ wid (ax + sx) ∧ wid (ay + sy) ∧ wid (ax - sx) ∧ wid (ay - sy) := by unfold wid; omega
         have HWA : Hid _ := hwa
         have hwz : wid zx ∧ wid zy ∧ wid tx ∧ wid ty ∧ wid (-tx) ∧ wid (zx + tx) ∧ wid (zy + ty) ∧ wid (zx - tx) ∧ wid (zy - ty) := by unfold wid; omega
         have HWZ : Hid _ := hwz
         have HCPE : Hid _ := hcp
         clear na nb ny nz hcp wa1 wa2 wz1 wz2 hwa hwz
         obtain ⟨⟨q0, q1⟩, ⟨q2, q3⟩, _, _⟩ := HQ4.out _ D4.out
         have Q36 : Hid _ := And.intro (And.intro q0 q1) (And.intro q2 q3)
         have K36 : Hid (0 < r ∧ ¬ ((r : Int) ≤ 1)) := ⟨by omega, by omega⟩
         clear q0 q1 q2 q3
         go_wp2_with fail
         refine reg_change (ops' := opsOf 36 Tryz.f78) (by kernel_rfl) ?_
         refine LL36.run ⟨ax, ay, bx, by', sx, sy, h, g, 0, r, c2, w4.drew, _⟩ ⟨Q36.out.1.1, Q36.out.1.2, Q36.out.2.1, Q36.out.2.2, (show 0 < r by omega), (show ¬ ((r : Int) ≤ 1) by omega), HD1.out, rfl, rfl, rfl⟩ w4 (Kp.refl _) ?_
         rintro γ w5 ⟨g17, hγ, hge, ⟨s0, s1⟩, sf, k5⟩
         replace hge : w4.heap.size ≤ g17 := hge
         replace s0 : w5.cell? ⟨g17, 0, none⟩ = some (.int .i64 sx) := s0
         replace s1 : w5.cell? ⟨g17, 1, none⟩ = some (.int .i64 sy) := s1
         replace k5 : Kp w4 w5 := undrew k5
         have h175 : g17 < w5.heap.size := World.block_lt_of_cell? w5 ⟨g17, 0, none⟩ s0
         simp only [hγ, Act.put, List.setIfInBounds_toArray, List.set_cons_zero, List.set_cons_succ]
         obtain ⟨⟨q0, q1⟩, _, _, _⟩ := HQ4.out w5 (Kp.nw k5)
         replace q0 : w5.cell? ⟨g, 0, none⟩ = some (.int .i64 ax) := q0
         replace q1 : w5.cell? ⟨g, 1, none⟩ = some (.int .i64 ay) := q1
         have hg5 : g < w5.heap.size := World.block_lt_of_cell? w5 ⟨g, 0, none⟩ q0
         obtain ⟨W6, hW6⟩ : ∃ W6, (w5.alloc (.cells #[.int .i64 sy, .int .i64 (-sx)] 34)).alloc (.cells #[.int .i64 ax, .int .i64 ay] 34) = W6 := ⟨_, rfl⟩
         have k56 : Kp w5 W6 := by rw [← hW6]; exact ((Kp.refl w5).alloc _ _).alloc _ _
         have D6 : Hid (Nw W6 W6.drew) := (Below.refl _ _).drew
         have t0 : W6.cell? ⟨w5.heap.size, 0, none⟩ = some (.int .i64 sy) := by rw [← hW6]; simp
         have t1 : W6.cell? ⟨w5.heap.size, 1, none⟩ = some (.int .i64 (-sx)) := by rw [← hW6]; simp
         have tf : ∀ o, W6.frozen? ⟨w5.heap.size, o, none⟩ = false := fun o => by rw [← hW6, World.frozen?_alloc_old _ _ _ (by simp)]; exact World.frozen?_alloc_at _ _ _ _ rfl
         have a0 : W6.cell? ⟨w5.heap.size + 1, 0, none⟩ = some (.int .i64 ax) := by rw [← hW6, World.cell?_alloc_at _ _ _ _ (by simp)]; rfl
         have a1 : W6.cell? ⟨w5.heap.size + 1, 1, none⟩ = some (.int .i64 ay) := by rw [← hW6, World.cell?_alloc_at _ _ _ _ (by simp)]; rfl
         have HS6 : Hid (W6.heap.size = w5.heap.size + 2) := by show _ = _; rw [← hW6]; simp
         have Q39 : Hid _ := And.intro (And.intro (nw_at D6.out a0) (nw_at D6.out a1)) (And.intro (And.intro (nw_at D6.out (rq_at k56 s0)) (nw_at D6.out (rq_at k56 s1))) (And.intro (nw_at D6.out t0) (nw_at D6.out t1)))
         have N46 : Hid (Nw w4 W6.drew) := Nw.trans (Kp.nw (Kp.trans k5 k56)) D6.out
         have O6 : Hid (OwnLn W6.drew w2.heap.size (.slice oa on oc) it4) := OwnLn.nw O4.out N46.out
         have F17 : Hid (offLn g17 (.slice oa on oc) it4) := OwnLn.offNew O4.out hge
         have s45 : w4.heap.size ≤ w5.heap.size := Kp.size k5
         have F18 : Hid (offLn w5.heap.size (.slice oa on oc) it4) := OwnLn.offNew O4.out s45
         have Z17 : Hid (∀ o, W6.drew.frozen? ⟨g17, o, none⟩ = false) := fun o => ((bcell (Nw.trans (Kp.nw k56) D6.out)).2 _ _ h175).trans (sf o)
         have Z18 : Hid (∀ o, W6.drew.frozen? ⟨w5.heap.size, o, none⟩ = false) := tf
         have B6 : Hid (w2.heap.size ≤ W6.drew.heap.size) := Below.size (Nw.trans N4.out N46.out)
         have L6 : Hid (it4.length + 1 ≤ 1000000) := by show _ ≤ _; omega
         have HW6 : Hid (_ = W6) := hW6
         have G17 : Hid (w4.heap.size ≤ g17 ∧ g17 < w5.heap.size) := ⟨hge, h175⟩
         clear hW6 k5 k56 t0 t1 tf a0 a1 hγ
         go_upto_region 39 with fail
         rw [HW6.out]
         refine reg_change (ops' := opsOf 39 Tryz.f78) (by kernel_rfl) ?_
         refine LL39.run ⟨ax, ay, sx, sy, sy, -sx, w5.heap.size + 1, g17, w5.heap.size, .slice oa on oc, w2.heap.size, it4, W6.drew, _⟩ ⟨Q39.out.1.1, Q39.out.1.2, Q39.out.2.1.1, Q39.out.2.1.2, Q39.out.2.2.1, Q39.out.2.2.2, HWA.out.1, HWA.out.2.1, HWA.out.2.2.1, HWA.out.2.2.2.1, HWA.out.2.2.2.1, HWA.out.2.2.2.2.1, HWA.out.2.2.2.2.2.1, HWA.out.2.2.2.2.2.2.1, HWA.out.2.2.2.2.2.2.2.1, HWA.out.2.2.2.2.2.2.2.2, O6.out, B6.out, L6.out, rfl, rfl, rfl, rfl, rfl⟩ W6 (Kp.refl _) ?_
         rintro γ2 w7 ⟨u, o7, b7, x7, hu7⟩
         have hs6 := HS6.out
         have g17b := G17.out
         have hlt17 : g17 < W6.drew.heap.size := by show g17 < W6.heap.size; omega
         have hlt18 : w5.heap.size < W6.drew.heap.size := by show w5.heap.size < W6.heap.size; omega
         replace x7 : Ext (.slice oa on oc) (γ2 4) W6.drew w7 := x7
         replace hu7 : ∀ c, u.ownBlock = some c → W6.drew.heap.size ≤ c := hu7
         have f17 := offLn.put F17.out hlt17 x7 hu7 (ld := ⟨[(ax + sx, ay + sy), (ax + sx - sy, ay + sy - -sx), (ax - sx - sy, ay - sy - -sx), (ax - sx, ay - sy)], true⟩)
         have f18 := offLn.put F18.out hlt18 x7 hu7 (ld := ⟨[(ax + sx, ay + sy), (ax + sx - sy, ay + sy - -sx), (ax - sx - sy, ay - sy - -sx), (ax - sx, ay - sy)], true⟩)
         replace o7 : OwnLn w7 w2.heap.size (γ2 4) (it4 ++ [(u, ⟨[(ax + sx, ay + sy), (ax + sx - sy, ay + sy - -sx), (ax - sx - sy, ay - sy - -sx), (ax - sx, ay - sy)], true⟩)]) := o7
         replace b7 : Below w2.heap.size W6.drew w7 := b7
         have v0 : w7.cell? ⟨g17, 0, none⟩ = some (.int .i64 sx) := (Ext.cell x7 hlt17 F17.out.1 0).trans Q39.out.2.1.1
         have v1 : w7.cell? ⟨g17, 1, none⟩ = some (.int .i64 sy) := (Ext.cell x7 hlt17 F17.out.1 1).trans Q39.out.2.1.2
         have u0 : w7.cell? ⟨w5.heap.size, 0, none⟩ = some (.int .i64 sy) := (Ext.cell x7 hlt18 F18.out.1 0).trans Q39.out.2.2.1
         have u1 : w7.cell? ⟨w5.heap.size, 1, none⟩ = some (.int .i64 (-sx)) := (Ext.cell x7 hlt18 F18.out.1 1).trans Q39.out.2.2.2
         have vf : ∀ o, w7.frozen? ⟨g17, o, none⟩ = false := fun o => (World.frozen?_of_block (a := ⟨g17, o, none⟩) (x7.1.block g17 hlt17 (fun e => F17.out.1 e.symm))).trans (Z17.out o)
         have uf : ∀ o, w7.frozen? ⟨w5.heap.size, o, none⟩ = false := fun o => (World.frozen?_of_block (a := ⟨w5.heap.size, o, none⟩) (x7.1.block _ hlt18 (fun e => F18.out.1 e.symm))).trans (Z18.out o)
         obtain ⟨ja, jn, jc, hj⟩ := OwnQ.slice o7.own
         simp only [hj, Act.put, List.setIfInBounds_toArray, List.set_cons_zero, List.set_cons_succ]
         rw [hj] at o7 f17 f18
         have N7 : Hid (Nw w2 w7) := Below.trans (Nw.trans N4.out N46.out) b7
         have O7 : Hid (OwnLn w7 w2.heap.size (.slice ja jn jc) (it4 ++ [(u, _)])) := o7
         have F7 : Hid (offLn g17 (.slice ja jn jc) _ ∧ offLn w5.heap.size (.slice ja jn jc) _) := And.intro f17 f18
         generalize γ2 0 = y0 at *
         generalize γ2 1 = y1 at *
         generalize γ2 2 = y2 at *
         generalize γ2 3 = y3 at *
         have D7 : Hid (Nw w7 w7.drew) := (Below.refl _ _).drew
         obtain ⟨_, _, ⟨q4, q5⟩, q6, q7⟩ := HCQ7.out w7.drew (Nw.trans N7.out D7.out)
         obtain ⟨ia, hia⟩ : ∃ m, r - 2 = m := ⟨_, rfl⟩
         obtain ⟨ib, hib⟩ : ∃ m, r - 1 = m := ⟨_, rfl⟩
         rw [hia] at q4 q5
         rw [hib] at q6 q7
         have Q40 : Hid _ := And.intro (And.intro q4 q5) (And.intro q6 q7)
         have M40 : Hid (IntKind.i64.wrap ((r : Int) - 2) = (ia : Int) ∧ IntKind.i64.wrap ((r : Int) - 1) = (ib : Int) ∧ ia < r ∧ ib < r) := ⟨by rw [show (r : Int) - 2 = (ia : Int) by omega]; exact IntWalk.i64_in _ ⟨by omega, by omega⟩, by rw [show (r : Int) - 1 = (ib : Int) by omega]; exact IntWalk.i64_in _ ⟨by omega, by omega⟩, by omega, by omega⟩
         have V7 : Hid _ := And.intro (And.intro v0 v1) (And.intro u0 u1)
         have VF7 : Hid _ := And.intro vf uf
         have H17 : Hid (g17 < w7.heap.size ∧ w5.heap.size < w7.heap.size ∧ g17 ≠ w5.heap.size) := ⟨World.block_lt_of_cell? w7 ⟨g17, 0, none⟩ v0, World.block_lt_of_cell? w7 ⟨w5.heap.size, 0, none⟩ u0, by omega⟩
         have HIB : Hid ((r : Int) - 1 = (ib : Int) ∧ ib < r) := ⟨by omega, by omega⟩
         clear hj o7 b7 x7 hu7 f17 f18 v0 v1 u0 u1 vf uf q4 q5 q6 q7 s0 s1 q0 q1 hia hib Q39
         go_wp2_with fail
         refine reg_change (ops' := opsOf 40 Tryz.f78) (by kernel_rfl) ?_
         refine LL40.run ⟨yx, yy, zx, zy, tx, ty, h, g, 0, r, ia, ib, c2, g17, w7.drew, _⟩ ⟨Q40.out.1.1, Q40.out.1.2, Q40.out.2.1, Q40.out.2.2, M40.out.1, M40.out.2.1, M40.out.2.2.1, M40.out.2.2.2, HD2.out, ⟨_, V7.out.1.1⟩, ⟨_, V7.out.1.2⟩, VF7.out.1, rfl, rfl, rfl, rfl, rfl⟩ w7 (Kp.refl _) ?_
         rintro γ3 w8 ⟨w8', k8, hw8⟩
         replace k8 : Kp w7 w8' := undrew k8
         replace hw8 : w8 = (w8'.setCell ⟨g17, 0, none⟩ (.int .i64 tx)).setCell ⟨g17, 1, none⟩ (.int .i64 ty) := hw8
         have n28 : Nw w2 w8 := by
          rw [hw8]
          have hb17 : w2.heap.size ≤ g17 := Nat.le_trans (Below.size N4.out) G17.out.1
          exact (Below.setCell (Nw.trans N7.out (Kp.nw k8)) hb17 _).setCell hb17 _
         obtain ⟨z0, z1⟩ := set2 w8' g17 (.int .i64 tx) (.int .i64 ty) (rq_at k8 V7.out.1.1) (rq_at k8 V7.out.1.2)
         rw [← hw8] at z0 z1
         have t0 : w8.cell? ⟨w5.heap.size, 0, none⟩ = some (.int .i64 sy) := by
          rw [hw8, World.cell?_setCell_other _ _ _ _ (fun e => by injection e with e _; exact H17.out.2.2 e), World.cell?_setCell_other _ _ _ _ (fun e => by injection e with e _; exact H17.out.2.2 e)]
          exact rq_at k8 V7.out.2.1
         have t1 : w8.cell? ⟨w5.heap.size, 1, none⟩ = some (.int .i64 (-sx)) := by
          rw [hw8, World.cell?_setCell_other _ _ _ _ (fun e => by injection e with e _; exact H17.out.2.2 e), World.cell?_setCell_other _ _ _ _ (fun e => by injection e with e _; exact H17.out.2.2 e)]
          exact rq_at k8 V7.out.2.2
         have tf : ∀ o, w8.frozen? ⟨w5.heap.size, o, none⟩ = false := fun o => by
          rw [hw8, World.frozen?_setCell, World.frozen?_setCell]
          exact (k8.cells.2 _ _).trans (VF7.out.2 o)
         have O8 : Hid (OwnLn w8 w2.heap.size (.slice ja jn jc) (it4 ++ [(u, ⟨[(ax + sx, ay + sy), (ax + sx - sy, ay + sy - -sx), (ax - sx - sy, ay - sy - -sx), (ax - sx, ay - sy)], true⟩)])) := by
          show OwnLn _ _ _ _
          rw [hw8]
          exact OwnLn.offSet (OwnLn.offSet (OwnLn.nw O7.out (Kp.nw k8)) F7.out.1 _ _) F7.out.1 _ _
         have N8 : Hid (Nw w2 w8) := n28
         clear hw8 k8 n28 O7 Q40 V7 VF7
         simp only [Act.put, List.setIfInBounds_toArray, List.set_cons_zero, List.set_cons_succ]
         obtain ⟨W9, hW9⟩ : ∃ W9, (w8.setCell ⟨w5.heap.size, 0, none⟩ (.int .i64 ty)).setCell ⟨w5.heap.size, 1, none⟩ (.int .i64 (-tx)) = W9 := ⟨_, rfl⟩
         have hb18 : w2.heap.size ≤ w5.heap.size := Nat.le_trans (Below.size N4.out) (Nat.le_trans G17.out.1 (Nat.le_of_lt G17.out.2))
         have n29 : Nw w2 W9 := by rw [← hW9]; exact (Below.setCell N8.out hb18 _).setCell hb18 _
         obtain ⟨r0, r1⟩ := set2 w8 w5.heap.size (.int .i64 ty) (.int .i64 (-tx)) t0 t1
         rw [hW9] at r0 r1
         have p0 : W9.cell? ⟨g17, 0, none⟩ = some (.int .i64 tx) := by
          rw [← hW9, World.cell?_setCell_other _ _ _ _ (fun e => by injection e with e _; exact H17.out.2.2 e.symm), World.cell?_setCell_other _ _ _ _ (fun e => by injection e with e _; exact H17.out.2.2 e.symm)]
          exact z0
         have p1 : W9.cell? ⟨g17, 1, none⟩ = some (.int .i64 ty) := by
          rw [← hW9, World.cell?_setCell_other _ _ _ _ (fun e => by injection e with e _; exact H17.out.2.2 e.symm), World.cell?_setCell_other _ _ _ _ (fun e => by injection e with e _; exact H17.out.2.2 e.symm)]
          exact z1
         have O9 : Hid (OwnLn W9 w2.heap.size (.slice ja jn jc) (it4 ++ [(u, ⟨[(ax + sx, ay + sy), (ax + sx - sy, ay + sy - -sx), (ax - sx - sy, ay - sy - -sx), (ax - sx, ay - sy)], true⟩)])) := by
          show OwnLn _ _ _ _
          rw [← hW9]
          exact OwnLn.offSet (OwnLn.offSet O8.out F7.out.2 _ _) F7.out.2 _ _
         obtain ⟨_, _, _, q6, q7⟩ := HCQ7.out W9 n29
         have hib : r - 1 = ib := by have := HIB.out; omega
         rw [hib, Nat.zero_add] at q6 q7
         have hibr := HIB.out.1
         have hg9 : g < W9.heap.size := World.block_lt_of_cell? W9 ⟨g, _, none⟩ q6
         have P9 : Hid _ := And.intro (And.intro p0 p1) (And.intro r0 r1)
         have N9 : Hid (Nw w2 W9) := n29
         have HW9 : Hid (_ = W9) := hW9
         have hibl := HIB.out.2
         clear hW9 n29 p0 p1 r0 r1
         go_upto_region 42 with fail
         rw [HW9.out]
         clear z0 z1 t0 t1 tf HW9
         obtain ⟨W10, hW10⟩ : ∃ W10, W9.alloc (.cells #[.int .i64 zx, .int .i64 zy] 34) = W10 := ⟨_, rfl⟩
         have k10 : Kp W9 W10 := by rw [← hW10]; exact (Kp.refl _).alloc _ _
         have D10 : Hid (Nw W10 W10.drew) := (Below.refl _ _).drew
         have a0 : W10.cell? ⟨W9.heap.size, 0, none⟩ = some (.int .i64 zx) := by rw [← hW10]; simp
         have a1 : W10.cell? ⟨W9.heap.size, 1, none⟩ = some (.int .i64 zy) := by rw [← hW10]; simp
         have N10 : Hid (Nw w2 W10.drew) := Nw.trans N9.out (Nw.trans (Kp.nw k10) D10.out)
         have Q43 : Hid _ := And.intro (And.intro (nw_at D10.out a0) (nw_at D10.out a1)) (And.intro (And.intro (nw_at D10.out (rq_at k10 P9.out.1.1)) (nw_at D10.out (rq_at k10 P9.out.1.2))) (And.intro (nw_at D10.out (rq_at k10 P9.out.2.1)) (nw_at D10.out (rq_at k10 P9.out.2.2))))
         have O10 : Hid (OwnLn W10.drew w2.heap.size (.slice ja jn jc) (it4 ++ [(u, ⟨[(ax + sx, ay + sy), (ax + sx - sy, ay + sy - -sx), (ax - sx - sy, ay - sy - -sx), (ax - sx, ay - sy)], true⟩)])) := OwnLn.nw O9.out (Nw.trans (Kp.nw k10) D10.out)
         have L10 : Hid ((it4 ++ [(u, (⟨[(ax + sx, ay + sy), (ax + sx - sy, ay + sy - -sx), (ax - sx - sy, ay - sy - -sx), (ax - sx, ay - sy)], true⟩ : LD))]).length + 1 ≤ 1000000) := by show _ ≤ _; rw [List.length_append, List.length_singleton]; omega
         have HW10 : Hid (_ = W10) := hW10
         clear hW10 k10 a0 a1 P9
         go_upto_region 43 with fail
         rw [HW10.out]
         refine reg_change (ops' := opsOf 43 Tryz.f78) (by kernel_rfl) ?_
         refine LL43.run ⟨zx, zy, tx, ty, ty, -tx, W9.heap.size, g17, w5.heap.size, .slice ja jn jc, w2.heap.size, it4 ++ [(u, ⟨[(ax + sx, ay + sy), (ax + sx - sy, ay + sy - -sx), (ax - sx - sy, ay - sy - -sx), (ax - sx, ay - sy)], true⟩)], W10.drew, _⟩ ⟨Q43.out.1.1, Q43.out.1.2, Q43.out.2.1.1, Q43.out.2.1.2, Q43.out.2.2.1, Q43.out.2.2.2, HWZ.out.1, HWZ.out.2.1, HWZ.out.2.2.1, HWZ.out.2.2.2.1, HWZ.out.2.2.2.1, HWZ.out.2.2.2.2.1, HWZ.out.2.2.2.2.2.1, HWZ.out.2.2.2.2.2.2.1, HWZ.out.2.2.2.2.2.2.2.1, HWZ.out.2.2.2.2.2.2.2.2, O10.out, Below.size N10.out, L10.out, rfl, rfl, rfl, rfl, rfl⟩ W10 (Kp.refl _) ?_
         rintro γ4 w11 ⟨u2, o11, b11, _, _⟩
         replace b11 : Below w2.heap.size W10.drew w11 := b11
         have b11' : Below w.heap.size W10.drew w11 := Below.mono b11 HB2.out
         have N11 : Hid (Nw w w11) := Below.trans (Nw.trans NW.out (Nw.trans N2.out N10.out)) b11'
         obtain ⟨ka, kn, kc, hk⟩ := OwnQ.slice o11.own
         simp only [hk, Act.put, List.setIfInBounds_toArray, List.set_cons_zero, List.set_cons_succ]
         rw [hk] at o11
         have O11 : Hid (LsOk w11 w.heap.size (.slice ka kn kc) (G sn ++ CS r ++ CP)) := LsOk.of (OwnLn.base o11 HB2.out) (by rw [List.map_append, List.map_append, E4.out, HCPE.out, List.append_assoc]; show _ ++ ([⟨_, true⟩, ⟨_, true⟩] : List LD) = _; rw [sq_one]; rfl)
         clear o11 b11 b11' hk Q43
         generalize γ4 0 = y0 at *
         generalize γ4 1 = y1 at *
         generalize γ4 2 = y2 at *
         generalize γ4 3 = y3 at *
         go_wp2
         go_ret
         exact ⟨_, rfl, by rw [HEF.out]; first | exact O11.out | (have o := O11.out; rw [HBL.out] at o; exact o), N11.out⟩
        ·have d3c : (pc == 3) = false := by simp [hc3]
         rw [if_neg hc3] at hcp
         have HCPE : Hid (CP = []) := hcp
         clear na nb ny nz hcp HQ4
         go_wp2
         go_ret
         exact ⟨_, rfl, by rw [HEF.out, HCPE.out, List.append_nil]; first | exact LsOk.of (OwnLn.base O4.out HB2.out) E4.out | exact LsOk.of (OwnLn.base O4.out HBB.out) E4.out, NF4.out⟩
end Go.Proofs.YtfdjjbgcaojcnaaGreat
